/-
  Proved: the tied card of the law Chap2Proves of euphroe/euphroelaw11: it returns true for every input, and each argument reads behind the call as it read before; the program's tables, that the row lists, are tied to the program's text. No condition beside these.
-/
import Derived.Test.YtfeggmghkhejcaaGreatDoorMrg3
import Derived.Test.YtfeggmghkhejcaaGreatDoorMrg8
import Derived.Test.YtfeggmghkhejcaaGreatDoorTie
import Derived.Test.YtfeggmghkhejcaaGreatDoorCards
import Derived.Lay
namespace Go.Proofs.YtfeggmghkhejcaaGreatDoor.chap2Proves
set_option maxRecDepth 100000
open Go.ChangeShapes Go.WideShapes Go.ChangeAt Go.RowKit Go.Proofs.YtfeggmghkhejcaaGreatDoor
open Go.ChangeMaps (open_string shut_string)
set_option linter.unusedVariables false

set_option maxRecDepth 100000 in
theorem glob_of {W : World} (h : laidMetH Tryz.prog Rows.chap2ProvesRow.laid W) : GlobOK W [] := by
  rw [MakeChecks.laidMetH_plain _ _ _ (by kernel_rfl)] at h
  obtain ⟨ps, ⟨g0, t0, cs0, f0, p0, q0, hg0, ht0, hv0, hd0, ⟨g1, t1, cs1, f1, p1, q1, hg1, ht1, hv1, hd1, ⟨g2, t2, cs2, f2, p2, q2, hg2, ht2, hv2, hd2, ⟨g3, t3, cs3, f3, p3, q3, hg3, ht3, hv3, hd3, ⟨g4, t4, cs4, f4, p4, q4, hg4, ht4, hv4, hd4, _, _⟩, _⟩, _⟩, _⟩, _⟩, _, _⟩ := h
  obtain rfl : g0 = 6 := Option.some.inj (hg0.symm.trans (show Tryz.prog.globalNamed "unicode/utf8.acceptRanges" = some 6 by kernel_rfl))
  obtain rfl : t0 = 199 := Option.some.inj (ht0.symm.trans (show (Tryz.prog.globals[6]?).map (·.type) = some 199 by kernel_rfl))
  have r0 := laid_cells (d := (.arr 16 (.pair (.int .u8) (.int .u8)))) hg0 ht0 (by kernel_rfl) rfl hv0 hd0 (fun h => absurd (congrArg List.length h) (by decide +kernel))
  obtain rfl : g1 = 1 := Option.some.inj (hg1.symm.trans (show Tryz.prog.globalNamed "euphroe/md4.turns" = some 1 by kernel_rfl))
  obtain rfl : t1 = 171 := Option.some.inj (ht1.symm.trans (show (Tryz.prog.globals[1]?).map (·.type) = some 171 by kernel_rfl))
  have r1 := laid_cells (d := (.arr 3 (.arr 4 (.int .i64)))) hg1 ht1 (by kernel_rfl) rfl hv1 hd1 (fun h => absurd (congrArg List.length h) (by decide +kernel))
  obtain rfl : g2 = 7 := Option.some.inj (hg2.symm.trans (show Tryz.prog.globalNamed "euphroe/md4.crossed" = some 7 by kernel_rfl))
  obtain rfl : t2 = 200 := Option.some.inj (ht2.symm.trans (show (Tryz.prog.globals[7]?).map (·.type) = some 200 by kernel_rfl))
  have r2 := laid_cells (d := (.arr 16 (.int .i64))) hg2 ht2 (by kernel_rfl) rfl hv2 hd2 (fun h => absurd (congrArg List.length h) (by decide +kernel))
  obtain rfl : g3 = 4 := Option.some.inj (hg3.symm.trans (show Tryz.prog.globalNamed "euphroe/des.byOne" = some 4 by kernel_rfl))
  obtain rfl : t3 = 170 := Option.some.inj (ht3.symm.trans (show (Tryz.prog.globals[4]?).map (·.type) = some 170 by kernel_rfl))
  have r3 := laid_cells (d := (.arr 4 (.int .i64))) hg3 ht3 (by kernel_rfl) rfl hv3 hd3 (fun h => absurd (congrArg List.length h) (by decide +kernel))
  obtain rfl : g4 = 5 := Option.some.inj (hg4.symm.trans (show Tryz.prog.globalNamed "unicode/utf8.first" = some 5 by kernel_rfl))
  obtain rfl : t4 = 196 := Option.some.inj (ht4.symm.trans (show (Tryz.prog.globals[5]?).map (·.type) = some 196 by kernel_rfl))
  have r4 := laid_cells (d := (.arr 256 (.int .u8))) hg4 ht4 (by kernel_rfl) rfl hv4 hd4 (fun h => absurd (congrArg List.length h) (by decide +kernel))
  intro g l hm
  simp only [globs, List.mem_cons, List.not_mem_nil, or_false, Prod.mk.injEq] at hm
  rcases hm with ⟨rfl, rfl⟩ | ⟨rfl, rfl⟩ | ⟨rfl, rfl⟩ | ⟨rfl, rfl⟩ | ⟨rfl, rfl⟩
  · exact r0
  · exact r1
  · exact r2
  · exact r3
  · exact r4
set_option maxRecDepth 100000 in
theorem lifted (os : Os) (started : os.Started) (H : Type) (enc : TypeId × Value → H) :
    ReturnsInHanded {} Tryz.checked os 3 .any (fun w args => (Rows.chap2ProvesSpec.pre enc Tryz.prog Tryz.f3 Rows.chap2ProvesRow.domain false w args ∧ laidMetH Tryz.prog Rows.chap2ProvesRow.laid w) ∧ sizedMet enc Tryz.prog Tryz.f3 (OpenSpec.ofChange Rows.chap2ProvesSpec) false w args) (Rows.chap2ProvesSpec.post enc Tryz.prog Tryz.f3 false true false false) := by
  refine returnsInHanded_of_change_and (C := Tryz.checked) (X := fun w _ => laidMetH Tryz.prog Rows.chap2ProvesRow.laid w) (fun _ _ _ hh h => h.of_heap hh) own started (by kernel_rfl) Tryz.func3
    (ChangeSpec.witness_shaped (enc := enc) (C := Tryz.checked) (os := os) (X := fun w _ => laidMetH Tryz.prog Rows.chap2ProvesRow.laid w) false (World.laidAll Tryz.prog os Rows.chap2ProvesRow.laid) #[.agg (Array.replicate 32 (.int .u8 0)), .string ByteArray.empty, .string ByteArray.empty] 8 (World.laidAll_os _ _ _) (World.shaped_of_ZipB (by kernel_rfl) (by kernel_rfl)) (by kernel_rfl) (by kernel_rfl) (by kernel_rfl) (by rw [MakeChecks.laidMetH_plain _ _ _ (by kernel_rfl)]; exact laidMet_laidAll _ (by kernel_rfl) (by kernel_rfl))) ?_
  intro W base args ds gs before hval0 hW _ _ hL _
  have hval : ∀ (j : Nat) t v, Tryz.f3.params[j]? = some t → args[j]? = some v → Value.okWide Tryz.prog W .any base t v := hval0
  have hW' := hW
  obtain ⟨p, q, hA0, hV, rfl, hfz, hnd⟩ := hW
  have hA : DataW.TrodAll enc Tryz.prog W 0 (fun _ => true) true Tryz.f3.params.toList args.toList ds p := hA0
  rw [Tryz.params3] at hA hval
  obtain ⟨v0, vs0, d0, ds0, p0, q0, hargs, rfl, rfl, h0, r0⟩ := trodAll_cons hA
  obtain ⟨v1, vs1, d1, ds1, p1, q1, rfl, rfl, rfl, h1, r1⟩ := trodAll_cons r0
  obtain ⟨v2, vs2, d2, ds2, p2, q2, rfl, rfl, rfl, h2, r2⟩ := trodAll_cons r1
  obtain ⟨rfl, rfl, rfl⟩ := trodAll_nil r2
  obtain rfl : args = #[v0, v1, v2] := by cases args; simp_all
  obtain ⟨rfl, rfl⟩ := trodVars_none hV
  have k0 := h0
  have lt0 := lt_of_trod h0
  obtain ⟨a0, rel0, wf0⟩ := open_td (t := 23) (d := (.arr 2 (.arr 16 (.int .u8)))) (by kernel_rfl) (by kernel_rfl) (hval 0 23 v0 rfl rfl) h0
  have k1 := h1
  have lt1 := lt_of_trod h1
  obtain ⟨a1, rel1, wf1⟩ := open_td (t := 9) (d := .str) (by kernel_rfl) (by kernel_rfl) (hval 1 9 v1 rfl rfl) h1
  have k2 := h2
  have lt2 := lt_of_trod h2
  obtain ⟨a2, rel2, wf2⟩ := open_td (t := 9) (d := .str) (by kernel_rfl) (by kernel_rfl) (hval 2 9 v2 rfl rfl) h2
  clear hA0 hval0
  refine (callsK_true (law11_Chap2Proves_C 200000 a0 a1 a2 true (law_Chap2Proves a0 a1 a2 wf0 wf1 wf2)) (RelL.cons rel0 (RelL.cons rel1 (RelL.cons rel2 (RelL.nil _ _ _)))) (glob_of hL)).mono fun e W' ⟨he, bel⟩ => ?_
  subst he
  exact ⟨_, rfl, _, _, _, [], _, [], hW', trodAll_mk1 (shut_bool Tryz.underlying4 _), (trodAll_cons_mk (Below.trod laidOut (by kernel_rfl) (of_decide_eq_true (by kernel_rfl)) k0 bel lt0) (trodAll_cons_mk (Below.trod laidOut (by kernel_rfl) (of_decide_eq_true (by kernel_rfl)) k1 bel lt1) (trodAll_cons_mk (Below.trod laidOut (by kernel_rfl) (of_decide_eq_true (by kernel_rfl)) k2 bel lt2) trodAll_mk0))), rfl, bel.frame _, fun h => by cases h⟩

theorem over : Rows.chap2ProvesRow.holds Tryz.pinned (OpenSpec.ofChange Rows.chap2ProvesSpec) :=
  OpenClaim.holds_of_wide 3 Tryz.f3 rfl rfl rfl rfl rfl rfl rfl ⟨rfl, rfl, rfl, rfl, rfl⟩ rfl rfl rfl rfl rfl (by kernel_rfl) Tryz.func3 (by kernel_rfl)
    (of_decide_eq_true (by kernel_rfl)) (by unfold Func.isWrapper; first | (rw [if_pos (by decide +kernel)]; kernel_rfl) | (rw [if_neg (by decide +kernel)]; exact ⟨rfl, rfl⟩))
    (fun os started H enc _ => lifted os started H enc)

theorem proved : Rows.Chap2ProvesCardSaid :=
  Claim7.holds_tied_plain_at .later [] _ true _ true
    over (fun _ h => by cases h) (by kernel_rfl) (fun _ h => by cases h) chap2Proves_row_tie rfl ⟨rfl, rfl⟩ (by kernel_rfl) rfl
    (fun f fn hf hfn => by
      obtain rfl : f = 3 := Option.some.inj ((show Tryz.prog.funcNamed "euphroe/euphroelaw11.Chap2Proves" = some 3 by kernel_rfl).symm.trans hf) |>.symm
      obtain rfl : fn = Tryz.f3 := (Option.some.inj (Tryz.func3.symm.trans hfn)).symm
      exact ⟨by kernel_rfl, fun j t ht => by
        rw [Tryz.params3] at ht
        have hm : t ∈ [23, 9, 9] := by simpa using Array.mem_of_getElem? ht
        have hall : ([23, 9, 9].all fun u => !Tryz.prog.wantsStandIn u) = true := by kernel_rfl
        exact (show Tryz.prog.wantsStandIn t = false by simpa using List.all_eq_true.1 hall t hm)⟩)
    (by kernel_rfl)
#print axioms proved
end Go.Proofs.YtfeggmghkhejcaaGreatDoor.chap2Proves
