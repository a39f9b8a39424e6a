/-
  Proved: the tied card of the law ChapsPlays of euphroe/euphroelaw29: it returns true for every input, and each argument reads behind the call as it read before; the program's tables, that the row lists, are tied to the program's text. No condition beside these.
-/
import Derived.Test.YtolkfnemdejonaaGreatDoorMrg4
import Derived.Test.YtolkfnemdejonaaGreatDoorMrg14
import Derived.Test.YtolkfnemdejonaaGreatDoorTie
import Derived.Test.YtolkfnemdejonaaGreatDoorCards
import Derived.Lay
open Go.Proofs.Tryz renaming prog→gt
open Option renaming some→ne
open Go.Proofs.YtolkfnemdejonaaGreatDoor.Rows renaming chapsPlaysRow→C5, chapsPlaysSpec→C6
namespace Go.Proofs.YtolkfnemdejonaaGreatDoor.chapsPlays
set_option maxRecDepth 100000
open Go.ChangeShapes Go.WideShapes Go.ChangeAt Go.RowKit Go.Proofs.YtolkfnemdejonaaGreatDoor
open Go.ChangeMaps (open_string shut_string)
set_option linter.unusedVariables false

set_option maxRecDepth 100000 in
theorem amH {W:World}(h:laidMetH gt C5.laid W):GlobOK W []:=by
  rw [MakeChecks.laidMetH_plain _ _ _ (by kernel_rfl)] at h
  have l0:=h
  have l1:=laidMet.tail l0
  have l2:=laidMet.tail l1
  have l3:=laidMet.tail l2
  have l4:=laidMet.tail l3
  have l5:=laidMet.tail l4
  have l6:=laidMet.tail l5
  have l7:=laidMet.tail l6
  obtain ⟨ps2,⟨g2,t2,cs2,f2,p2,q2,hg2,ht2,hv2,hd2,_⟩,_,_⟩:=l2
  obtain rfl:g2=6:=ne.inj (hg2.symm.trans (show gt.globalNamed "internal/strconv.uint64pow10" =some 6 by kernel_rfl))
  obtain rfl:t2=245:=ne.inj (ht2.symm.trans (show (gt.globals[6]?).map (·.type)=some 245 by kernel_rfl))
  have r2:=ahH (d:=(.arr 20 (.int .u64))) hg2 (by kernel_rfl) rfl hv2 hd2
  obtain ⟨ps3,⟨g3,t3,cs3,f3,p3,q3,hg3,ht3,hv3,hd3,_⟩,_,_⟩:=l3
  obtain rfl:g3=2:=ne.inj (hg3.symm.trans (show gt.globalNamed "unicode/utf8.acceptRanges" =some 2 by kernel_rfl))
  obtain rfl:t3=213:=ne.inj (ht3.symm.trans (show (gt.globals[2]?).map (·.type)=some 213 by kernel_rfl))
  have r3:=na (d:=(.arr 16 (.pair (.int .u8) (.int .u8)))) hg3 ht3 (by kernel_rfl) rfl hv3 hd3 (fun h=>absurd (congrArg List.length h) (by decide +kernel))
  obtain ⟨ps4,⟨g4,t4,cs4,f4,p4,q4,hg4,ht4,hv4,hd4,_⟩,_,_⟩:=l4
  obtain rfl:g4=0:=ne.inj (hg4.symm.trans (show gt.globalNamed "euphroe/md4.turns" =some 0 by kernel_rfl))
  obtain rfl:t4=195:=ne.inj (ht4.symm.trans (show (gt.globals[0]?).map (·.type)=some 195 by kernel_rfl))
  have r4:=na (d:=(.arr 3 (.arr 4 (.int .i64)))) hg4 ht4 (by kernel_rfl) rfl hv4 hd4 (fun h=>absurd (congrArg List.length h) (by decide +kernel))
  obtain ⟨ps5,⟨g5,t5,cs5,f5,p5,q5,hg5,ht5,hv5,hd5,_⟩,_,_⟩:=l5
  obtain rfl:g5=3:=ne.inj (hg5.symm.trans (show gt.globalNamed "euphroe/md4.crossed" =some 3 by kernel_rfl))
  obtain rfl:t5=215:=ne.inj (ht5.symm.trans (show (gt.globals[3]?).map (·.type)=some 215 by kernel_rfl))
  have r5:=na (d:=(.arr 16 (.int .i64))) hg5 ht5 (by kernel_rfl) rfl hv5 hd5 (fun h=>absurd (congrArg List.length h) (by decide +kernel))
  obtain ⟨ps6,⟨g6,t6,cs6,f6,p6,q6,hg6,ht6,hv6,hd6,_⟩,_,_⟩:=l6
  obtain rfl:g6=5:=ne.inj (hg6.symm.trans (show gt.globalNamed "euphroe/des.byOne" =some 5 by kernel_rfl))
  obtain rfl:t6=194:=ne.inj (ht6.symm.trans (show (gt.globals[5]?).map (·.type)=some 194 by kernel_rfl))
  have r6:=na (d:=(.arr 4 (.int .i64))) hg6 ht6 (by kernel_rfl) rfl hv6 hd6 (fun h=>absurd (congrArg List.length h) (by decide +kernel))
  obtain ⟨ps7,⟨g7,t7,cs7,f7,p7,q7,hg7,ht7,hv7,hd7,_⟩,_,_⟩:=l7
  obtain rfl:g7=1:=ne.inj (hg7.symm.trans (show gt.globalNamed "unicode/utf8.first" =some 1 by kernel_rfl))
  obtain rfl:t7=210:=ne.inj (ht7.symm.trans (show (gt.globals[1]?).map (·.type)=some 210 by kernel_rfl))
  have r7:=na (d:=(.arr 256 (.int .u8))) hg7 ht7 (by kernel_rfl) rfl hv7 hd7 (fun h=>absurd (congrArg List.length h) (by decide +kernel))
  refine ⟨fun g l hm=> ?_,fun g hm=> ?_,fun g hm=> ?_,fun g l hm=> ?_⟩
  · simp only [afg,List.mem_cons,List.not_mem_nil,or_false,Prod.mk.injEq] at hm
    rcases hm with ⟨rfl,rfl⟩ | ⟨rfl,rfl⟩ | ⟨rfl,rfl⟩ | ⟨rfl,rfl⟩ | ⟨rfl,rfl⟩
    · exact r3
    · exact r7
    · exact r4
    · exact r5
    · exact r6
  · simp [afk] at hm
  · simp [aaj] at hm
  · simp only [uu,List.mem_cons,List.not_mem_nil,or_false,Prod.mk.injEq] at hm
    rcases hm with ⟨rfl,rfl⟩
    · exact ⟨by simp,r2⟩
set_option maxRecDepth 100000 in
theorem arT (os:Os)(started:os.Started)(H:Type)(enc:TypeId×Value→H):
    ReturnsInHanded {} Tryz.checked os 3 .any (fun w args=>(C6.pre enc gt Tryz.f3 C5.domain false w args∧laidMetH gt C5.laid w)∧sizedMet enc gt Tryz.f3 (OpenSpec.ofChange C6) false w args) (C6.post enc gt Tryz.f3 false true false false):=by
  refine returnsInHanded_of_change_and (C:=Tryz.checked) (X:=fun w _=>laidMetH gt C5.laid w) (fun _ _ _ hh h=>h.of_heap hh) own started (by kernel_rfl) Tryz.func3
    (ChangeSpec.witness_shaped (enc:=enc) (C:=Tryz.checked) (os:=os) (X:=fun w _=>laidMetH gt C5.laid w) false (World.laidAll gt os C5.laid) #[.string ⟨#[]⟩,.slice none 0 0,.slice none 0 0] 8 (World.laidAll_os _ _ _) (World.shaped_of_ZipB (by kernel_rfl) (by kernel_rfl)) (by kernel_rfl) (by kernel_rfl) (by kernel_rfl) (by rw [MakeChecks.laidMetH_plain _ _ _ (by kernel_rfl)];exact laidMet_laidAll _ (by kernel_rfl) (by kernel_rfl))) ?_
  intro W base args ds gs before hval0 hW _ _ hL _
  have hval:∀ (j:Nat) t v,Tryz.f3.params[j]? =some t→args[j]? =some v→Value.okWide gt W .any base t v:=hval0
  have hW':=hW
  obtain ⟨p,q,hA0,hV,rfl,hfz,hnd⟩:=hW
  have hA:DataW.TrodAll enc gt W 0 (fun _=>true) true Tryz.f3.params.toList args.toList ds p:=hA0
  rw [Tryz.params3] at hA hval
  obtain ⟨v0,vs0,d0,ds0,p0,q0,hargs,rfl,rfl,h0,r0⟩:=trodAll_cons hA
  obtain ⟨v1,vs1,d1,ds1,p1,q1,rfl,rfl,rfl,h1,r1⟩:=trodAll_cons r0
  obtain ⟨v2,vs2,d2,ds2,p2,q2,rfl,rfl,rfl,h2,r2⟩:=trodAll_cons r1
  obtain ⟨rfl,rfl,rfl⟩:=trodAll_nil r2
  obtain rfl:args= #[v0,v1,v2]:=by cases args;simp_all
  obtain ⟨rfl,rfl⟩:=trodVars_none hV
  have k0:=h0
  have lt0:=sV h0
  obtain ⟨a0,rel0,wf0⟩:=CM (t:=9) (d:=.str) (by kernel_rfl) (by kernel_rfl) (hval 0 9 v0 rfl rfl) h0
  have k1:=h1
  have lt1:=sV h1
  obtain ⟨a1,rel1,wf1⟩:=CM (t:=22) (d:=(.sl (.pair .str .str))) (by kernel_rfl) (by kernel_rfl) (hval 1 22 v1 rfl rfl) h1
  have k2:=h2
  have lt2:=sV h2
  obtain ⟨a2,rel2,wf2⟩:=CM (t:=23) (d:=(.sl (.pair (.int .u8) (.pair (.arr 16 (.int .u8)) (.pair .bool (.pair (.pair (.int .u8) (.pair (.int .u8) (.sl (.int .u8)))) (.pair .str .str))))))) (by kernel_rfl) (by kernel_rfl) (hval 2 23 v2 rfl rfl) h2
  clear hA0 hval0
  refine (aax (rM 200000 a0 a1 a2 true (xa a0 a1 a2 wf0 wf1 wf2)) (RelL.cons rel0 (RelL.cons rel1 (RelL.cons rel2 (RelL.nil _ _ _)))) (amH hL)).mono fun e W' ⟨he,bel⟩=> ?_
  subst he
  exact ⟨_,rfl,_,_,_,[],_,[],hW',trodAll_mk1 (shut_bool Tryz.underlying4 _),(trodAll_cons_mk (Below.trod aae (by kernel_rfl) (of_decide_eq_true (by kernel_rfl)) k0 bel lt0) (trodAll_cons_mk (Below.trod aae (by kernel_rfl) (of_decide_eq_true (by kernel_rfl)) k1 bel lt1) (trodAll_cons_mk (Below.trod aae (by kernel_rfl) (of_decide_eq_true (by kernel_rfl)) k2 bel lt2) trodAll_mk0))),rfl,bel.frame _,fun h=>by cases h⟩

theorem over:C5.holds Tryz.pinned (OpenSpec.ofChange C6):=
  OpenClaim.holds_of_wide 3 Tryz.f3 rfl rfl rfl rfl rfl rfl rfl ⟨rfl,rfl,rfl,rfl,rfl⟩ rfl rfl rfl rfl rfl (by kernel_rfl) Tryz.func3 (by kernel_rfl)
    (of_decide_eq_true (by kernel_rfl)) (by unfold Func.isWrapper;first | (rw [if_pos (by decide +kernel)];kernel_rfl) | (rw [if_neg (by decide +kernel)];exact ⟨rfl,rfl⟩))
    (fun os started H enc _=>arT os started H enc)

theorem proved:Rows.ChapsPlaysCardSaid:=
  Claim7.holds_tied_plain_at .later [] _ true _ false
    over (fun _ h=>by cases h) (by kernel_rfl) (fun _ h=>by cases h) chapsPlays_row_tie rfl ⟨rfl,rfl⟩ (by kernel_rfl) rfl
    (fun f fn hf hfn=>by
      obtain rfl:f=3:=ne.inj ((show gt.funcNamed "euphroe/euphroelaw29.ChapsPlays" =some 3 by kernel_rfl).symm.trans hf) |>.symm
      obtain rfl:fn=Tryz.f3:=(ne.inj (Tryz.func3.symm.trans hfn)).symm
      exact ⟨by kernel_rfl,fun j t ht=>by
        rw [Tryz.params3] at ht
        have hm:t∈[9,22,23]:=by simpa using Array.mem_of_getElem? ht
        have hall:([9,22,23].all fun u=>!Tryz.prog.wantsStandIn u)=true:=by kernel_rfl
        exact (show gt.wantsStandIn t=false by simpa using List.all_eq_true.1 hall t hm)⟩)
    (by kernel_rfl)
#print axioms proved
end Go.Proofs.YtolkfnemdejonaaGreatDoor.chapsPlays

