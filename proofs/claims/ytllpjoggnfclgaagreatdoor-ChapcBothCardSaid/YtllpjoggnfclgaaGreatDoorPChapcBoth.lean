/-
  Proved: the tied card of the law ChapcBoth of euphroe/euphroelaw30: it returns true for every input, and each argument reads behind the call as it read before; the program's tables, that the row lists, are tied to the program's text. No condition beside these.
-/
import Derived.Test.YtllpjoggnfclgaaGreatDoorMrg4
import Derived.Test.YtllpjoggnfclgaaGreatDoorMrg13
import Derived.Test.YtllpjoggnfclgaaGreatDoorTie
import Derived.Test.YtllpjoggnfclgaaGreatDoorCards
import Derived.Lay
open Go.Proofs.Tryz renaming prog→gt
open Option renaming some→ne
open Go.Proofs.YtllpjoggnfclgaaGreatDoor.Rows renaming chapcBothRow→Do, chapcBothSpec→Dp
namespace Go.Proofs.YtllpjoggnfclgaaGreatDoor.chapcBoth
set_option maxRecDepth 100000
open Go.ChangeShapes Go.WideShapes Go.ChangeAt Go.RowKit Go.Proofs.YtllpjoggnfclgaaGreatDoor
open Go.ChangeMaps (open_string shut_string)
set_option linter.unusedVariables false

theorem CD: "*" ++ "errors.errorString" = "*errors.errorString" :=by decide
theorem aeR (u:TypeId)(h:gt.typeName? 3 u=some "*errors.errorString"):u=295:=
  typeName_ptr_named (nm:= "errors.errorString") (by rw [CD];kernel_rfl) (by kernel_rfl) (by decide) u (by rw [CD];exact h)
set_option maxRecDepth 100000 in
theorem al1 {W:World}(h:laidMetH gt Do.laid W)(hsh:W.ShapedOpen gt):GlobOK W []:=by
  rw [MakeChecks.laidMetH_plain _ _ _ (by kernel_rfl)] at h
  have l0:=h
  have l1:=laidMet.tail l0
  have l2:=laidMet.tail l1
  have l3:=laidMet.tail l2
  have l4:=laidMet.tail l3
  have l5:=laidMet.tail l4
  have l6:=laidMet.tail l5
  have l7:=laidMet.tail l6
  have l8:=laidMet.tail l7
  have l9:=laidMet.tail l8
  obtain ⟨a4,s4,v4,-,-,-⟩:=laid_sentinel l4 (g:=8) (by kernel_rfl) (by kernel_rfl) Tryz.underlying210 aeR Tryz.underlying295 Tryz.underlying297 rfl rfl Tryz.underlying9 (by kernel_rfl) (by kernel_rfl)
  obtain ⟨a5,s5,v5,-,-,-⟩:=laid_sentinel l5 (g:=7) (by kernel_rfl) (by kernel_rfl) Tryz.underlying210 aeR Tryz.underlying295 Tryz.underlying297 rfl rfl Tryz.underlying9 (by kernel_rfl) (by kernel_rfl)
  obtain ⟨ps2,⟨g2,t2,cs2,f2,p2,q2,hg2,ht2,hv2,hd2,_⟩,_,_⟩:=l2
  obtain rfl:g2=6:=ne.inj (hg2.symm.trans (show gt.globalNamed "internal/strconv.uint64pow10" =some 6 by kernel_rfl))
  obtain rfl:t2=277:=ne.inj (ht2.symm.trans (show (gt.globals[6]?).map (·.type)=some 277 by kernel_rfl))
  have r2:=aiQ (d:=(.arr 20 (.int .u64))) hg2 (by kernel_rfl) rfl hv2 hd2
  obtain ⟨ps3,⟨g3,t3,cs3,f3,p3,q3,hg3,ht3,hv3,hd3,_⟩,_,_⟩:=l3
  obtain rfl:g3=2:=ne.inj (hg3.symm.trans (show gt.globalNamed "unicode/utf8.acceptRanges" =some 2 by kernel_rfl))
  obtain rfl:t3=237:=ne.inj (ht3.symm.trans (show (gt.globals[2]?).map (·.type)=some 237 by kernel_rfl))
  have r3:=lH (d:=(.arr 16 (.pair (.int .u8) (.int .u8)))) hg3 ht3 (by kernel_rfl) rfl hv3 hd3 (fun h=>absurd (congrArg List.length h) (by decide +kernel))
  obtain ⟨ps6,⟨g6,t6,cs6,f6,p6,q6,hg6,ht6,hv6,hd6,_⟩,_,_⟩:=l6
  obtain rfl:g6=0:=ne.inj (hg6.symm.trans (show gt.globalNamed "euphroe/md4.turns" =some 0 by kernel_rfl))
  obtain rfl:t6=218:=ne.inj (ht6.symm.trans (show (gt.globals[0]?).map (·.type)=some 218 by kernel_rfl))
  have r6:=lH (d:=(.arr 3 (.arr 4 (.int .i64)))) hg6 ht6 (by kernel_rfl) rfl hv6 hd6 (fun h=>absurd (congrArg List.length h) (by decide +kernel))
  obtain ⟨ps7,⟨g7,t7,cs7,f7,p7,q7,hg7,ht7,hv7,hd7,_⟩,_,_⟩:=l7
  obtain rfl:g7=3:=ne.inj (hg7.symm.trans (show gt.globalNamed "euphroe/md4.crossed" =some 3 by kernel_rfl))
  obtain rfl:t7=239:=ne.inj (ht7.symm.trans (show (gt.globals[3]?).map (·.type)=some 239 by kernel_rfl))
  have r7:=lH (d:=(.arr 16 (.int .i64))) hg7 ht7 (by kernel_rfl) rfl hv7 hd7 (fun h=>absurd (congrArg List.length h) (by decide +kernel))
  obtain ⟨ps8,⟨g8,t8,cs8,f8,p8,q8,hg8,ht8,hv8,hd8,_⟩,_,_⟩:=l8
  obtain rfl:g8=5:=ne.inj (hg8.symm.trans (show gt.globalNamed "euphroe/des.byOne" =some 5 by kernel_rfl))
  obtain rfl:t8=217:=ne.inj (ht8.symm.trans (show (gt.globals[5]?).map (·.type)=some 217 by kernel_rfl))
  have r8:=lH (d:=(.arr 4 (.int .i64))) hg8 ht8 (by kernel_rfl) rfl hv8 hd8 (fun h=>absurd (congrArg List.length h) (by decide +kernel))
  obtain ⟨ps9,⟨g9,t9,cs9,f9,p9,q9,hg9,ht9,hv9,hd9,_⟩,_,_⟩:=l9
  obtain rfl:g9=1:=ne.inj (hg9.symm.trans (show gt.globalNamed "unicode/utf8.first" =some 1 by kernel_rfl))
  obtain rfl:t9=234:=ne.inj (ht9.symm.trans (show (gt.globals[1]?).map (·.type)=some 234 by kernel_rfl))
  have r9:=lH (d:=(.arr 256 (.int .u8))) hg9 ht9 (by kernel_rfl) rfl hv9 hd9 (fun h=>absurd (congrArg List.length h) (by decide +kernel))
  refine ⟨fun g l hm=> ?_,fun g hm=> ?_,fun g hm=> ?_,fun g l hm=> ?_⟩
  · simp only [afG,List.mem_cons,List.not_mem_nil,or_false,Prod.mk.injEq] at hm
    rcases hm with ⟨rfl,rfl⟩ | ⟨rfl,rfl⟩ | ⟨rfl,rfl⟩ | ⟨rfl,rfl⟩ | ⟨rfl,rfl⟩
    · exact r3
    · exact r9
    · exact r6
    · exact r7
    · exact r8
  · simp only [Am,List.mem_cons,List.not_mem_nil,or_false] at hm
    rcases hm with rfl | rfl
    · exact afu (by kernel_rfl) v5
    · exact afu (by kernel_rfl) v4
  · simp only [yd,List.mem_cons,List.not_mem_nil,or_false] at hm
    subst hm
    exact ap3 (Go.Proofs.cell_of_shapedOpen_int (zero:= #[.int .i64 0]) (t:=3) hsh (of_decide_eq_true (by kernel_rfl)) (by kernel_rfl) rfl (by kernel_rfl) (by kernel_rfl) Tryz.underlying3)
  · simp only [sN,List.mem_cons,List.not_mem_nil,or_false,Prod.mk.injEq] at hm
    rcases hm with ⟨rfl,rfl⟩
    · exact ⟨by simp,r2⟩
set_option maxRecDepth 100000 in
theorem aqg (os:Os)(started:os.Started)(H:Type)(enc:TypeId×Value→H):
    ReturnsInHanded {} Tryz.checked os 4 .any (fun w args=>(Dp.pre enc gt Tryz.f4 Do.domain false w args∧laidMetH gt Do.laid w)∧sizedMet enc gt Tryz.f4 (OpenSpec.ofChange Dp) false w args) (Dp.post enc gt Tryz.f4 false true false false):=by
  refine rt (C:=Tryz.checked) (X:=fun w _=>laidMetH gt Do.laid w) (fun _ _ _ hh h=>h.of_heap hh) own started (by kernel_rfl) Tryz.func4
    (ChangeSpec.witness_shaped (enc:=enc) (C:=Tryz.checked) (os:=os) (X:=fun w _=>laidMetH gt Do.laid w) false (World.laidAll gt os Do.laid) #[.string ⟨#[]⟩,.agg #[.string ⟨#[]⟩,.string ⟨#[]⟩],.agg (Array.replicate 32 (.int .u8 0))] 8 (World.laidAll_os _ _ _) (World.shaped_of_ZipB (by kernel_rfl) (by kernel_rfl)) (by kernel_rfl) (by kernel_rfl) (by kernel_rfl) (by rw [MakeChecks.laidMetH_plain _ _ _ (by kernel_rfl)];exact laidMet_laidAll _ (by kernel_rfl) (by kernel_rfl))) ?_
  intro W base args ds gs before hval0 hW _ hsh hL _
  have hval:∀ (j:Nat) t v,Tryz.f4.params[j]? =some t→args[j]? =some v→Value.okWide gt W .any base t v:=hval0
  have hW':=hW
  obtain ⟨p,q,hA0,hV,rfl,hfz,hnd⟩:=hW
  have hA:DataW.TrodAll enc gt W 0 (fun _=>true) true Tryz.f4.params.toList args.toList ds p:=hA0
  rw [Tryz.params4] at hA hval
  obtain ⟨v0,vs0,d0,ds0,p0,q0,hargs,rfl,rfl,h0,r0⟩:=trodAll_cons hA
  obtain ⟨v1,vs1,d1,ds1,p1,q1,rfl,rfl,rfl,h1,r1⟩:=trodAll_cons r0
  obtain ⟨v2,vs2,d2,ds2,p2,q2,rfl,rfl,rfl,h2,r2⟩:=trodAll_cons r1
  obtain ⟨rfl,rfl,rfl⟩:=trodAll_nil r2
  obtain rfl:args= #[v0,v1,v2]:=by cases args;simp_all
  obtain ⟨rfl,rfl⟩:=trodVars_none hV
  have k0:=h0
  have lt0:=ro h0
  obtain ⟨a0,rel0,wf0⟩:=Bw (t:=9) (d:=.str) (by kernel_rfl) (by kernel_rfl) (hval 0 9 v0 rfl rfl) h0
  have k1:=h1
  have lt1:=ro h1
  obtain ⟨a1,rel1,wf1⟩:=Bw (t:=62) (d:=(.arr 2 .str)) (by kernel_rfl) (by kernel_rfl) (hval 1 62 v1 rfl rfl) h1
  have k2:=h2
  have lt2:=ro h2
  obtain ⟨a2,rel2,wf2⟩:=Bw (t:=63) (d:=(.arr 2 (.arr 16 (.int .u8)))) (by kernel_rfl) (by kernel_rfl) (hval 2 63 v2 rfl rfl) h2
  clear hA0 hval0
  refine (Cm (rq 200000 a0 a1 a2 true (xZ a0 a1 a2 wf0 wf1 wf2)) (RelL.cons rel0 (RelL.cons rel1 (RelL.cons rel2 (RelL.nil _ _ _)))) (al1 hL hsh)).mono fun e W' ⟨he,bel⟩=> ?_
  subst he
  exact ⟨_,rfl,_,_,_,[],_,[],hW',trodAll_mk1 (shut_bool Tryz.underlying4 _),(trodAll_cons_mk (Below.trod BR (by kernel_rfl) (of_decide_eq_true (by kernel_rfl)) k0 bel lt0) (trodAll_cons_mk (Below.trod BR (by kernel_rfl) (of_decide_eq_true (by kernel_rfl)) k1 bel lt1) (trodAll_cons_mk (Below.trod BR (by kernel_rfl) (of_decide_eq_true (by kernel_rfl)) k2 bel lt2) trodAll_mk0))),rfl,bel.frame _,fun h=>by cases h⟩

theorem over:Do.holds Tryz.pinned (OpenSpec.ofChange Dp):=
  OpenClaim.holds_of_wide 4 Tryz.f4 rfl rfl rfl rfl rfl rfl rfl ⟨rfl,rfl,rfl,rfl,rfl⟩ rfl rfl rfl rfl rfl (by kernel_rfl) Tryz.func4 (by kernel_rfl)
    (of_decide_eq_true (by kernel_rfl)) (by unfold Func.isWrapper;first | (rw [if_pos (by decide +kernel)];kernel_rfl) | (rw [if_neg (by decide +kernel)];exact ⟨rfl,rfl⟩))
    (fun os started H enc _=>aqg os started H enc)

theorem proved:Rows.ChapcBothCardSaid:=
  Claim7.holds_tied_plain_at .later [] _ true _ true
    over (fun _ h=>by cases h) (by kernel_rfl) (fun _ h=>by cases h) chapcBoth_row_tie rfl ⟨rfl,rfl⟩ (by kernel_rfl) rfl
    (fun f fn hf hfn=>by
      obtain rfl:f=4:=ne.inj ((show gt.funcNamed "euphroe/euphroelaw30.ChapcBoth" =some 4 by kernel_rfl).symm.trans hf) |>.symm
      obtain rfl:fn=Tryz.f4:=(ne.inj (Tryz.func4.symm.trans hfn)).symm
      exact ⟨by kernel_rfl,fun j t ht=>by
        rw [Tryz.params4] at ht
        have hm:t∈[9,62,63]:=by simpa using Array.mem_of_getElem? ht
        have hall:([9,62,63].all fun u=>!Tryz.prog.wantsStandIn u)=true:=by kernel_rfl
        exact (show gt.wantsStandIn t=false by simpa using List.all_eq_true.1 hall t hm)⟩)
    (by kernel_rfl)
#print axioms proved
end Go.Proofs.YtllpjoggnfclgaaGreatDoor.chapcBoth

