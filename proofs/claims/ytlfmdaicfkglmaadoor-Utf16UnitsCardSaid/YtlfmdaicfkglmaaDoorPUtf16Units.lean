/-
  Proved: the tied card of the law Utf16Units of euphroe/euphroelaw09: it returns true for every input, and each argument reads behind the call as it read before; the program's tables, that the row lists, are tied to the program's text. No condition beside these.
-/
import Derived.Test.YtlfmdaicfkglmaaDoorMrg4
import Derived.Test.YtlfmdaicfkglmaaDoorMrg5
import Derived.Test.YtlfmdaicfkglmaaDoorTie
import Derived.Test.YtlfmdaicfkglmaaDoorCards
import Derived.Lay
namespace Go.Proofs.YtlfmdaicfkglmaaDoor.utf16Units
set_option maxRecDepth 100000
open Go.ChangeShapes Go.WideShapes Go.ChangeAt Go.RowKit Go.Proofs.YtlfmdaicfkglmaaDoor
open Go.ChangeMaps (open_string shut_string)
set_option linter.unusedVariables false

set_option maxRecDepth 100000 in
theorem glob_of {W : World} (h : laidMetH Tryd.prog Rows.utf16UnitsRow.laid W) : GlobOK W [] := by
  rw [MakeChecks.laidMetH_plain _ _ _ (by kernel_rfl)] at h
  obtain ⟨ps, ⟨g0, t0, cs0, f0, p0, q0, hg0, ht0, hv0, hd0, ⟨g1, t1, cs1, f1, p1, q1, hg1, ht1, hv1, hd1, _, _⟩, _⟩, _, _⟩ := h
  obtain rfl : g0 = 1 := Option.some.inj (hg0.symm.trans (show Tryd.prog.globalNamed "unicode/utf8.acceptRanges" = some 1 by kernel_rfl))
  obtain rfl : t0 = 66 := Option.some.inj (ht0.symm.trans (show (Tryd.prog.globals[1]?).map (·.type) = some 66 by kernel_rfl))
  have r0 := laid_cells (d := (.arr 16 (.pair (.int .u8) (.int .u8)))) hg0 ht0 (by kernel_rfl) rfl hv0 hd0 (fun h => absurd (congrArg List.length h) (by decide +kernel))
  obtain rfl : g1 = 0 := Option.some.inj (hg1.symm.trans (show Tryd.prog.globalNamed "unicode/utf8.first" = some 0 by kernel_rfl))
  obtain rfl : t1 = 63 := Option.some.inj (ht1.symm.trans (show (Tryd.prog.globals[0]?).map (·.type) = some 63 by kernel_rfl))
  have r1 := laid_cells (d := (.arr 256 (.int .u8))) hg1 ht1 (by kernel_rfl) rfl hv1 hd1 (fun h => absurd (congrArg List.length h) (by decide +kernel))
  intro g l hm
  simp only [globs, List.mem_cons, List.not_mem_nil, or_false, Prod.mk.injEq] at hm
  rcases hm with ⟨rfl, rfl⟩ | ⟨rfl, rfl⟩
  · exact r0
  · exact r1
set_option maxRecDepth 100000 in
theorem lifted (os : Os) (started : os.Started) (H : Type) (enc : TypeId × Value → H) :
    ReturnsInHanded {} Tryd.checked os 5 .any (fun w args => (Rows.utf16UnitsSpec.pre enc Tryd.prog Tryd.f5 Rows.utf16UnitsRow.domain false w args ∧ laidMetH Tryd.prog Rows.utf16UnitsRow.laid w) ∧ sizedMet enc Tryd.prog Tryd.f5 (OpenSpec.ofChange Rows.utf16UnitsSpec) false w args) (Rows.utf16UnitsSpec.post enc Tryd.prog Tryd.f5 false true false false) := by
  refine returnsInHanded_of_change_and (C := Tryd.checked) (X := fun w _ => laidMetH Tryd.prog Rows.utf16UnitsRow.laid w) (fun _ _ _ hh h => h.of_heap hh) own started (by kernel_rfl) Tryd.func5
    (ChangeSpec.witness_shaped (enc := enc) (C := Tryd.checked) (os := os) (X := fun w _ => laidMetH Tryd.prog Rows.utf16UnitsRow.laid w) false (World.laidAll Tryd.prog os Rows.utf16UnitsRow.laid) #[.string ByteArray.empty] 8 (World.laidAll_os _ _ _) (World.shaped_of_ZipB (by kernel_rfl) (by kernel_rfl)) (by kernel_rfl) (by kernel_rfl) (by kernel_rfl) (by rw [MakeChecks.laidMetH_plain _ _ _ (by kernel_rfl)]; exact laidMet_laidAll _ (by kernel_rfl) (by kernel_rfl))) ?_
  intro W base args ds gs before hval0 hW _ _ hL _
  have hval : ∀ (j : Nat) t v, Tryd.f5.params[j]? = some t → args[j]? = some v → Value.okWide Tryd.prog W .any base t v := hval0
  have hW' := hW
  obtain ⟨p, q, hA0, hV, rfl, hfz, hnd⟩ := hW
  have hA : DataW.TrodAll enc Tryd.prog W 0 (fun _ => true) true Tryd.f5.params.toList args.toList ds p := hA0
  rw [Tryd.params5] at hA hval
  obtain ⟨v0, vs0, d0, ds0, p0, q0, hargs, rfl, rfl, h0, r0⟩ := trodAll_cons hA
  obtain ⟨rfl, rfl, rfl⟩ := trodAll_nil r0
  obtain rfl : args = #[v0] := by cases args; simp_all
  obtain ⟨rfl, rfl⟩ := trodVars_none hV
  have k0 := h0
  have lt0 := lt_of_trod h0
  obtain ⟨a0, rel0, wf0⟩ := open_td (t := 9) (d := .str) (by kernel_rfl) (by kernel_rfl) (hval 0 9 v0 rfl rfl) h0
  clear hA0 hval0
  refine (callsK_true (law09_Utf16Units_C 200000 a0 true (law_Utf16Units a0 wf0)) (RelL.cons rel0 (RelL.nil _ _ _)) (glob_of hL)).mono fun e W' ⟨he, bel⟩ => ?_
  subst he
  exact ⟨_, rfl, _, _, _, [], _, [], hW', trodAll_mk1 (shut_bool Tryd.underlying4 _), (trodAll_cons_mk (Below.trod laidOut (by kernel_rfl) (of_decide_eq_true (by kernel_rfl)) k0 bel lt0) trodAll_mk0), rfl, bel.frame _, fun h => by cases h⟩

theorem over : Rows.utf16UnitsRow.holds Tryd.pinned (OpenSpec.ofChange Rows.utf16UnitsSpec) :=
  OpenClaim.holds_of_wide 5 Tryd.f5 rfl rfl rfl rfl rfl rfl rfl ⟨rfl, rfl, rfl, rfl, rfl⟩ rfl rfl rfl rfl rfl (by kernel_rfl) Tryd.func5 (by kernel_rfl)
    (of_decide_eq_true (by kernel_rfl)) (by unfold Func.isWrapper; first | (rw [if_pos (by decide +kernel)]; kernel_rfl) | (rw [if_neg (by decide +kernel)]; exact ⟨rfl, rfl⟩))
    (fun os started H enc _ => lifted os started H enc)

theorem proved : Rows.Utf16UnitsCardSaid :=
  Claim7.holds_tied_plain_at .later [] _ true _ false
    over (fun _ h => by cases h) (by kernel_rfl) (fun _ h => by cases h) utf16Units_row_tie rfl ⟨rfl, rfl⟩ (by kernel_rfl) rfl
    (fun f fn hf hfn => by
      obtain rfl : f = 5 := Option.some.inj ((show Tryd.prog.funcNamed "euphroe/euphroelaw09.Utf16Units" = some 5 by kernel_rfl).symm.trans hf) |>.symm
      obtain rfl : fn = Tryd.f5 := (Option.some.inj (Tryd.func5.symm.trans hfn)).symm
      exact ⟨by kernel_rfl, fun j t ht => by
        rw [Tryd.params5] at ht
        have hm : t ∈ [9] := by simpa using Array.mem_of_getElem? ht
        have hall : ([9].all fun u => !Tryd.prog.wantsStandIn u) = true := by kernel_rfl
        exact (show Tryd.prog.wantsStandIn t = false by simpa using List.all_eq_true.1 hall t hm)⟩)
    (by kernel_rfl)
#print axioms proved
end Go.Proofs.YtlfmdaicfkglmaaDoor.utf16Units
