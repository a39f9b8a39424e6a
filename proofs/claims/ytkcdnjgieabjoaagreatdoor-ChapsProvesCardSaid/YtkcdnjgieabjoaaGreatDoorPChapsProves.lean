/-
  Proved: the tied card of the law ChapsProves of euphroe/euphroelaw29: it returns true for every input, and each argument reads behind the call as it read before; the program's tables, that the row lists, are tied to the program's text. No condition beside these.
-/
import Derived.Test.YtkcdnjgieabjoaaGreatDoorMrg4
import Derived.Test.YtkcdnjgieabjoaaGreatDoorMrg14
import Derived.Test.YtkcdnjgieabjoaaGreatDoorTie
import Derived.Test.YtkcdnjgieabjoaaGreatDoorCards
import Derived.Lay
namespace Go.Proofs.YtkcdnjgieabjoaaGreatDoor.chapsProves
set_option maxRecDepth 100000
open Go.ChangeShapes Go.WideShapes Go.ChangeAt Go.RowKit Go.Proofs.YtkcdnjgieabjoaaGreatDoor
open Go.ChangeMaps (open_string shut_string)
set_option linter.unusedVariables false

set_option maxRecDepth 100000 in
theorem aFz {W:World}(h:laidMetH Tryz.prog Rows.chapsProvesRow.laid W):GlobOK W []:=by
  rw [MakeChecks.laidMetH_plain _ _ _ (by kernel_rfl)] at h
  have l0:=h
  have l1:=laidMet.tail l0
  have l2:=laidMet.tail l1
  have l3:=laidMet.tail l2
  have l4:=laidMet.tail l3
  have l5:=laidMet.tail l4
  have l6:=laidMet.tail l5
  have l7:=laidMet.tail l6
  obtain ⟨ps2,⟨g2,t2,cs2,f2,p2,q2,hg2,ht2,hv2,hd2,_⟩,_,_⟩:=l2
  obtain rfl:g2=6:=Option.some.inj (hg2.symm.trans (show Tryz.prog.globalNamed "internal/strconv.uint64pow10" =some 6 by kernel_rfl))
  obtain rfl:t2=278:=Option.some.inj (ht2.symm.trans (show (Tryz.prog.globals[6]?).map (·.type)=some 278 by kernel_rfl))
  have r2:=aCJ (d:=(.arr 20 (.int .u64))) hg2 (by kernel_rfl) rfl hv2 hd2
  obtain ⟨ps3,⟨g3,t3,cs3,f3,p3,q3,hg3,ht3,hv3,hd3,_⟩,_,_⟩:=l3
  obtain rfl:g3=2:=Option.some.inj (hg3.symm.trans (show Tryz.prog.globalNamed "unicode/utf8.acceptRanges" =some 2 by kernel_rfl))
  obtain rfl:t3=238:=Option.some.inj (ht3.symm.trans (show (Tryz.prog.globals[2]?).map (·.type)=some 238 by kernel_rfl))
  have r3:=ahv (d:=(.arr 16 (.pair (.int .u8) (.int .u8)))) hg3 ht3 (by kernel_rfl) rfl hv3 hd3 (fun h=>absurd (congrArg List.length h) (by decide +kernel))
  obtain ⟨ps4,⟨g4,t4,cs4,f4,p4,q4,hg4,ht4,hv4,hd4,_⟩,_,_⟩:=l4
  obtain rfl:g4=0:=Option.some.inj (hg4.symm.trans (show Tryz.prog.globalNamed "euphroe/md4.turns" =some 0 by kernel_rfl))
  obtain rfl:t4=219:=Option.some.inj (ht4.symm.trans (show (Tryz.prog.globals[0]?).map (·.type)=some 219 by kernel_rfl))
  have r4:=ahv (d:=(.arr 3 (.arr 4 (.int .i64)))) hg4 ht4 (by kernel_rfl) rfl hv4 hd4 (fun h=>absurd (congrArg List.length h) (by decide +kernel))
  obtain ⟨ps5,⟨g5,t5,cs5,f5,p5,q5,hg5,ht5,hv5,hd5,_⟩,_,_⟩:=l5
  obtain rfl:g5=3:=Option.some.inj (hg5.symm.trans (show Tryz.prog.globalNamed "euphroe/md4.crossed" =some 3 by kernel_rfl))
  obtain rfl:t5=240:=Option.some.inj (ht5.symm.trans (show (Tryz.prog.globals[3]?).map (·.type)=some 240 by kernel_rfl))
  have r5:=ahv (d:=(.arr 16 (.int .i64))) hg5 ht5 (by kernel_rfl) rfl hv5 hd5 (fun h=>absurd (congrArg List.length h) (by decide +kernel))
  obtain ⟨ps6,⟨g6,t6,cs6,f6,p6,q6,hg6,ht6,hv6,hd6,_⟩,_,_⟩:=l6
  obtain rfl:g6=5:=Option.some.inj (hg6.symm.trans (show Tryz.prog.globalNamed "euphroe/des.byOne" =some 5 by kernel_rfl))
  obtain rfl:t6=218:=Option.some.inj (ht6.symm.trans (show (Tryz.prog.globals[5]?).map (·.type)=some 218 by kernel_rfl))
  have r6:=ahv (d:=(.arr 4 (.int .i64))) hg6 ht6 (by kernel_rfl) rfl hv6 hd6 (fun h=>absurd (congrArg List.length h) (by decide +kernel))
  obtain ⟨ps7,⟨g7,t7,cs7,f7,p7,q7,hg7,ht7,hv7,hd7,_⟩,_,_⟩:=l7
  obtain rfl:g7=1:=Option.some.inj (hg7.symm.trans (show Tryz.prog.globalNamed "unicode/utf8.first" =some 1 by kernel_rfl))
  obtain rfl:t7=235:=Option.some.inj (ht7.symm.trans (show (Tryz.prog.globals[1]?).map (·.type)=some 235 by kernel_rfl))
  have r7:=ahv (d:=(.arr 256 (.int .u8))) hg7 ht7 (by kernel_rfl) rfl hv7 hd7 (fun h=>absurd (congrArg List.length h) (by decide +kernel))
  refine ⟨fun g l hm=> ?_,fun g hm=> ?_,fun g hm=> ?_,fun g l hm=> ?_⟩
  · simp only [azH,List.mem_cons,List.not_mem_nil,or_false,Prod.mk.injEq] at hm
    rcases hm with ⟨rfl,rfl⟩ | ⟨rfl,rfl⟩ | ⟨rfl,rfl⟩ | ⟨rfl,rfl⟩ | ⟨rfl,rfl⟩
    · exact r3
    · exact r7
    · exact r4
    · exact r5
    · exact r6
  · simp [azL] at hm
  · simp [atj] at hm
  · simp only [amp,List.mem_cons,List.not_mem_nil,or_false,Prod.mk.injEq] at hm
    rcases hm with ⟨rfl,rfl⟩
    · exact ⟨by simp,r2⟩
set_option maxRecDepth 100000 in
theorem aJt (os:Os)(started:os.Started)(H:Type)(enc:TypeId×Value→H):
    ReturnsInHanded {} Tryz.checked os 4 .any (fun w args=>(Rows.chapsProvesSpec.pre enc Tryz.prog Tryz.f4 Rows.chapsProvesRow.domain false w args∧laidMetH Tryz.prog Rows.chapsProvesRow.laid w)∧sizedMet enc Tryz.prog Tryz.f4 (OpenSpec.ofChange Rows.chapsProvesSpec) false w args) (Rows.chapsProvesSpec.post enc Tryz.prog Tryz.f4 false true false false):=by
  refine returnsInHanded_of_change_and (C:=Tryz.checked) (X:=fun w _=>laidMetH Tryz.prog Rows.chapsProvesRow.laid w) (fun _ _ _ hh h=>h.of_heap hh) own started (by kernel_rfl) Tryz.func4
    (ChangeSpec.witness_shaped (enc:=enc) (C:=Tryz.checked) (os:=os) (X:=fun w _=>laidMetH Tryz.prog Rows.chapsProvesRow.laid w) false (World.laidAll Tryz.prog os Rows.chapsProvesRow.laid) #[.agg #[.string ⟨#[]⟩,.string ⟨#[]⟩],.string ByteArray.empty,.agg (Array.replicate 32 (.int .u8 0))] 8 (World.laidAll_os _ _ _) (World.shaped_of_ZipB (by kernel_rfl) (by kernel_rfl)) (by kernel_rfl) (by kernel_rfl) (by kernel_rfl) (by rw [MakeChecks.laidMetH_plain _ _ _ (by kernel_rfl)];exact laidMet_laidAll _ (by kernel_rfl) (by kernel_rfl))) ?_
  intro W base args ds gs before hval0 hW _ _ hL _
  have hval:∀ (j:Nat) t v,Tryz.f4.params[j]? =some t→args[j]? =some v→Value.okWide Tryz.prog W .any base t v:=hval0
  have hW':=hW
  obtain ⟨p,q,hA0,hV,rfl,hfz,hnd⟩:=hW
  have hA:DataW.TrodAll enc Tryz.prog W 0 (fun _=>true) true Tryz.f4.params.toList args.toList ds p:=hA0
  rw [Tryz.params4] at hA hval
  obtain ⟨v0,vs0,d0,ds0,p0,q0,hargs,rfl,rfl,h0,r0⟩:=trodAll_cons hA
  obtain ⟨v1,vs1,d1,ds1,p1,q1,rfl,rfl,rfl,h1,r1⟩:=trodAll_cons r0
  obtain ⟨v2,vs2,d2,ds2,p2,q2,rfl,rfl,rfl,h2,r2⟩:=trodAll_cons r1
  obtain ⟨rfl,rfl,rfl⟩:=trodAll_nil r2
  obtain rfl:args= #[v0,v1,v2]:=by cases args;simp_all
  obtain ⟨rfl,rfl⟩:=trodVars_none hV
  have k0:=h0
  have lt0:=alu h0
  obtain ⟨a0,rel0,wf0⟩:=asT (t:=63) (d:=(.pair .str .str)) (by kernel_rfl) (by kernel_rfl) (hval 0 63 v0 rfl rfl) h0
  have k1:=h1
  have lt1:=alu h1
  obtain ⟨a1,rel1,wf1⟩:=asT (t:=9) (d:=.str) (by kernel_rfl) (by kernel_rfl) (hval 1 9 v1 rfl rfl) h1
  have k2:=h2
  have lt2:=alu h2
  obtain ⟨a2,rel2,wf2⟩:=asT (t:=64) (d:=(.arr 2 (.arr 16 (.int .u8)))) (by kernel_rfl) (by kernel_rfl) (hval 2 64 v2 rfl rfl) h2
  clear hA0 hval0
  refine (atB (aj9 200000 a0 a1 a2 true (anm a0 a1 a2 wf0 wf1 wf2)) (RelL.cons rel0 (RelL.cons rel1 (RelL.cons rel2 (RelL.nil _ _ _)))) (aFz hL)).mono fun e W' ⟨he,bel⟩=> ?_
  subst he
  exact ⟨_,rfl,_,_,_,[],_,[],hW',trodAll_mk1 (shut_bool Tryz.underlying4 _),(trodAll_cons_mk (Below.trod ate (by kernel_rfl) (of_decide_eq_true (by kernel_rfl)) k0 bel lt0) (trodAll_cons_mk (Below.trod ate (by kernel_rfl) (of_decide_eq_true (by kernel_rfl)) k1 bel lt1) (trodAll_cons_mk (Below.trod ate (by kernel_rfl) (of_decide_eq_true (by kernel_rfl)) k2 bel lt2) trodAll_mk0))),rfl,bel.frame _,fun h=>by cases h⟩

theorem over:Rows.chapsProvesRow.holds Tryz.pinned (OpenSpec.ofChange Rows.chapsProvesSpec):=
  OpenClaim.holds_of_wide 4 Tryz.f4 rfl rfl rfl rfl rfl rfl rfl ⟨rfl,rfl,rfl,rfl,rfl⟩ rfl rfl rfl rfl rfl (by kernel_rfl) Tryz.func4 (by kernel_rfl)
    (of_decide_eq_true (by kernel_rfl)) (by unfold Func.isWrapper;first | (rw [if_pos (by decide +kernel)];kernel_rfl) | (rw [if_neg (by decide +kernel)];exact ⟨rfl,rfl⟩))
    (fun os started H enc _=>aJt os started H enc)

theorem proved:Rows.ChapsProvesCardSaid:=
  Claim7.holds_tied_plain_at .later [] _ true _ true
    over (fun _ h=>by cases h) (by kernel_rfl) (fun _ h=>by cases h) chapsProves_row_tie rfl ⟨rfl,rfl⟩ (by kernel_rfl) rfl
    (fun f fn hf hfn=>by
      obtain rfl:f=4:=Option.some.inj ((show Tryz.prog.funcNamed "euphroe/euphroelaw29.ChapsProves" =some 4 by kernel_rfl).symm.trans hf) |>.symm
      obtain rfl:fn=Tryz.f4:=(Option.some.inj (Tryz.func4.symm.trans hfn)).symm
      exact ⟨by kernel_rfl,fun j t ht=>by
        rw [Tryz.params4] at ht
        have hm:t∈[63,9,64]:=by simpa using Array.mem_of_getElem? ht
        have hall:([63,9,64].all fun u=>!Tryz.prog.wantsStandIn u)=true:=by kernel_rfl
        exact (show Tryz.prog.wantsStandIn t=false by simpa using List.all_eq_true.1 hall t hm)⟩)
    (by kernel_rfl)
#print axioms proved
end Go.Proofs.YtkcdnjgieabjoaaGreatDoor.chapsProves

