/-
  Proved: the tied card of the law Chap2Values of euphroe/euphroelaw11: it returns true for every input, and each argument reads behind the call as it read before; the program's tables, that the row lists, are tied to the program's text. No condition beside these.
-/
import Derived.Test.YtfeggmghkhejcaaDoorMrg4
import Derived.Test.YtfeggmghkhejcaaDoorMrg6
import Derived.Test.YtfeggmghkhejcaaDoorTie
import Derived.Test.YtfeggmghkhejcaaDoorCards
import Derived.Lay
namespace Go.Proofs.YtfeggmghkhejcaaDoor.chap2Values
set_option maxRecDepth 100000
open Go.ChangeShapes Go.WideShapes Go.ChangeAt Go.RowKit Go.Proofs.YtfeggmghkhejcaaDoor
open Go.ChangeMaps (open_string shut_string)
set_option linter.unusedVariables false

set_option maxRecDepth 100000 in
theorem glob_of {W : World} (h : laidMetH Tryd.prog Rows.chap2ValuesRow.laid W) : GlobOK W [] := by
  rw [MakeChecks.laidMetH_plain _ _ _ (by kernel_rfl)] at h
  obtain ⟨ps, ⟨g0, t0, cs0, f0, p0, q0, hg0, ht0, hv0, hd0, ⟨g1, t1, cs1, f1, p1, q1, hg1, ht1, hv1, hd1, ⟨g2, t2, cs2, f2, p2, q2, hg2, ht2, hv2, hd2, ⟨g3, t3, cs3, f3, p3, q3, hg3, ht3, hv3, hd3, ⟨g4, t4, cs4, f4, p4, q4, hg4, ht4, hv4, hd4, _, _⟩, _⟩, _⟩, _⟩, _⟩, _, _⟩ := h
  obtain rfl : g0 = 2 := Option.some.inj (hg0.symm.trans (show Tryd.prog.globalNamed "unicode/utf8.acceptRanges" = some 2 by kernel_rfl))
  obtain rfl : t0 = 110 := Option.some.inj (ht0.symm.trans (show (Tryd.prog.globals[2]?).map (·.type) = some 110 by kernel_rfl))
  have r0 := laid_cells (d := (.arr 16 (.pair (.int .u8) (.int .u8)))) hg0 ht0 (by kernel_rfl) rfl hv0 hd0 (fun h => absurd (congrArg List.length h) (by decide +kernel))
  obtain rfl : g1 = 0 := Option.some.inj (hg1.symm.trans (show Tryd.prog.globalNamed "euphroe/md4.turns" = some 0 by kernel_rfl))
  obtain rfl : t1 = 99 := Option.some.inj (ht1.symm.trans (show (Tryd.prog.globals[0]?).map (·.type) = some 99 by kernel_rfl))
  have r1 := laid_cells (d := (.arr 3 (.arr 4 (.int .i64)))) hg1 ht1 (by kernel_rfl) rfl hv1 hd1 (fun h => absurd (congrArg List.length h) (by decide +kernel))
  obtain rfl : g2 = 3 := Option.some.inj (hg2.symm.trans (show Tryd.prog.globalNamed "euphroe/md4.crossed" = some 3 by kernel_rfl))
  obtain rfl : t2 = 111 := Option.some.inj (ht2.symm.trans (show (Tryd.prog.globals[3]?).map (·.type) = some 111 by kernel_rfl))
  have r2 := laid_cells (d := (.arr 16 (.int .i64))) hg2 ht2 (by kernel_rfl) rfl hv2 hd2 (fun h => absurd (congrArg List.length h) (by decide +kernel))
  obtain rfl : g3 = 5 := Option.some.inj (hg3.symm.trans (show Tryd.prog.globalNamed "euphroe/des.byOne" = some 5 by kernel_rfl))
  obtain rfl : t3 = 98 := Option.some.inj (ht3.symm.trans (show (Tryd.prog.globals[5]?).map (·.type) = some 98 by kernel_rfl))
  have r3 := laid_cells (d := (.arr 4 (.int .i64))) hg3 ht3 (by kernel_rfl) rfl hv3 hd3 (fun h => absurd (congrArg List.length h) (by decide +kernel))
  obtain rfl : g4 = 1 := Option.some.inj (hg4.symm.trans (show Tryd.prog.globalNamed "unicode/utf8.first" = some 1 by kernel_rfl))
  obtain rfl : t4 = 107 := Option.some.inj (ht4.symm.trans (show (Tryd.prog.globals[1]?).map (·.type) = some 107 by kernel_rfl))
  have r4 := laid_cells (d := (.arr 256 (.int .u8))) hg4 ht4 (by kernel_rfl) rfl hv4 hd4 (fun h => absurd (congrArg List.length h) (by decide +kernel))
  intro g l hm
  simp only [globs, List.mem_cons, List.not_mem_nil, or_false, Prod.mk.injEq] at hm
  rcases hm with ⟨rfl, rfl⟩ | ⟨rfl, rfl⟩ | ⟨rfl, rfl⟩ | ⟨rfl, rfl⟩ | ⟨rfl, rfl⟩
  · exact r0
  · exact r1
  · exact r2
  · exact r3
  · exact r4
set_option maxRecDepth 100000 in
theorem lifted (os : Os) (started : os.Started) (H : Type) (enc : TypeId × Value → H) :
    ReturnsInHanded {} Tryd.checked os 3 .any (fun w args => (Rows.chap2ValuesSpec.pre enc Tryd.prog Tryd.f3 Rows.chap2ValuesRow.domain false w args ∧ laidMetH Tryd.prog Rows.chap2ValuesRow.laid w) ∧ sizedMet enc Tryd.prog Tryd.f3 (OpenSpec.ofChange Rows.chap2ValuesSpec) false w args) (Rows.chap2ValuesSpec.post enc Tryd.prog Tryd.f3 false true false false) := by
  refine returnsInHanded_of_change_and (C := Tryd.checked) (X := fun w _ => laidMetH Tryd.prog Rows.chap2ValuesRow.laid w) (fun _ _ _ hh h => h.of_heap hh) own started (by kernel_rfl) Tryd.func3
    (ChangeSpec.witness_shaped (enc := enc) (C := Tryd.checked) (os := os) (X := fun w _ => laidMetH Tryd.prog Rows.chap2ValuesRow.laid w) false (World.laidAll Tryd.prog os Rows.chap2ValuesRow.laid) #[.agg (Array.replicate 16 (.int .u8 0)), .agg (Array.replicate 24 (.int .u8 0)), .slice none 0 0] 8 (World.laidAll_os _ _ _) (World.shaped_of_ZipB (by kernel_rfl) (by kernel_rfl)) (by kernel_rfl) (by kernel_rfl) (by kernel_rfl) (by rw [MakeChecks.laidMetH_plain _ _ _ (by kernel_rfl)]; exact laidMet_laidAll _ (by kernel_rfl) (by kernel_rfl))) ?_
  intro W base args ds gs before hval0 hW _ _ hL _
  have hval : ∀ (j : Nat) t v, Tryd.f3.params[j]? = some t → args[j]? = some v → Value.okWide Tryd.prog W .any base t v := hval0
  have hW' := hW
  obtain ⟨p, q, hA0, hV, rfl, hfz, hnd⟩ := hW
  have hA : DataW.TrodAll enc Tryd.prog W 0 (fun _ => true) true Tryd.f3.params.toList args.toList ds p := hA0
  rw [Tryd.params3] at hA hval
  obtain ⟨v0, vs0, d0, ds0, p0, q0, hargs, rfl, rfl, h0, r0⟩ := trodAll_cons hA
  obtain ⟨v1, vs1, d1, ds1, p1, q1, rfl, rfl, rfl, h1, r1⟩ := trodAll_cons r0
  obtain ⟨v2, vs2, d2, ds2, p2, q2, rfl, rfl, rfl, h2, r2⟩ := trodAll_cons r1
  obtain ⟨rfl, rfl, rfl⟩ := trodAll_nil r2
  obtain rfl : args = #[v0, v1, v2] := by cases args; simp_all
  obtain ⟨rfl, rfl⟩ := trodVars_none hV
  have k0 := h0
  have lt0 := lt_of_trod h0
  obtain ⟨a0, rel0, wf0⟩ := open_td (t := 22) (d := (.arr 16 (.int .u8))) (by kernel_rfl) (by kernel_rfl) (hval 0 22 v0 rfl rfl) h0
  have k1 := h1
  have lt1 := lt_of_trod h1
  obtain ⟨a1, rel1, wf1⟩ := open_td (t := 23) (d := (.arr 24 (.int .u8))) (by kernel_rfl) (by kernel_rfl) (hval 1 23 v1 rfl rfl) h1
  have k2 := h2
  have lt2 := lt_of_trod h2
  obtain ⟨a2, rel2, wf2⟩ := open_td (t := 24) (d := (.sl (.int .u8))) (by kernel_rfl) (by kernel_rfl) (hval 2 24 v2 rfl rfl) h2
  clear hA0 hval0
  refine (callsK_true (law11_Chap2Values_C 200000 a0 a1 a2 true (law_Chap2Values a0 a1 a2 wf0 wf1 wf2)) (RelL.cons rel0 (RelL.cons rel1 (RelL.cons rel2 (RelL.nil _ _ _)))) (glob_of hL)).mono fun e W' ⟨he, bel⟩ => ?_
  subst he
  exact ⟨_, rfl, _, _, _, [], _, [], hW', trodAll_mk1 (shut_bool Tryd.underlying4 _), (trodAll_cons_mk (Below.trod laidOut (by kernel_rfl) (of_decide_eq_true (by kernel_rfl)) k0 bel lt0) (trodAll_cons_mk (Below.trod laidOut (by kernel_rfl) (of_decide_eq_true (by kernel_rfl)) k1 bel lt1) (trodAll_cons_mk (Below.trod laidOut (by kernel_rfl) (of_decide_eq_true (by kernel_rfl)) k2 bel lt2) trodAll_mk0))), rfl, bel.frame _, fun h => by cases h⟩

theorem over : Rows.chap2ValuesRow.holds Tryd.pinned (OpenSpec.ofChange Rows.chap2ValuesSpec) :=
  OpenClaim.holds_of_wide 3 Tryd.f3 rfl rfl rfl rfl rfl rfl rfl ⟨rfl, rfl, rfl, rfl, rfl⟩ rfl rfl rfl rfl rfl (by kernel_rfl) Tryd.func3 (by kernel_rfl)
    (of_decide_eq_true (by kernel_rfl)) (by unfold Func.isWrapper; first | (rw [if_pos (by decide +kernel)]; kernel_rfl) | (rw [if_neg (by decide +kernel)]; exact ⟨rfl, rfl⟩))
    (fun os started H enc _ => lifted os started H enc)

theorem proved : Rows.Chap2ValuesCardSaid :=
  Claim7.holds_tied_plain_at .later [] _ true _ false
    over (fun _ h => by cases h) (by kernel_rfl) (fun _ h => by cases h) chap2Values_row_tie rfl ⟨rfl, rfl⟩ (by kernel_rfl) rfl
    (fun f fn hf hfn => by
      obtain rfl : f = 3 := Option.some.inj ((show Tryd.prog.funcNamed "euphroe/euphroelaw11.Chap2Values" = some 3 by kernel_rfl).symm.trans hf) |>.symm
      obtain rfl : fn = Tryd.f3 := (Option.some.inj (Tryd.func3.symm.trans hfn)).symm
      exact ⟨by kernel_rfl, fun j t ht => by
        rw [Tryd.params3] at ht
        have hm : t ∈ [22, 23, 24] := by simpa using Array.mem_of_getElem? ht
        have hall : ([22, 23, 24].all fun u => !Tryd.prog.wantsStandIn u) = true := by kernel_rfl
        exact (show Tryd.prog.wantsStandIn t = false by simpa using List.all_eq_true.1 hall t hm)⟩)
    (by kernel_rfl)
#print axioms proved
end Go.Proofs.YtfeggmghkhejcaaDoor.chap2Values
