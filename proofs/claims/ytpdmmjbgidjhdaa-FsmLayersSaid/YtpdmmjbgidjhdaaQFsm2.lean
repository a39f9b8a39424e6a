/-
  Layer 23, on plain data: the laws.
-/
import Derived.Test.YtpdmmjbgidjhdaaQFsm1
namespace Go.Proofs.Ytpdmmjbgidjhdaa
set_option maxRecDepth 100000
open Go.RowKit
set_option linter.unusedVariables false
set_option linter.unusedSimpArgs false
set_option maxRecDepth 100000

theorem same_ok (l : List Int) (hl : l.length < 1000) : law23_same 1000 l l = some true := by
  have h := gl_run (G := fun (X : (((List (Int)) × ((List (Int)) × ((Int) × ((Int) × Unit)))) × Unit) → Option (((((Bool) × Unit) × Unit) ⊕ (Unit × Unit)))) c => law23_same_L4 1000 X c.1.1 c.1.2.1 c.1.2.2.1 c.1.2.2.2.1) (fun i => ((l, (l, ((l.length : Int), ((i : Int), ())))), ())) l.length (.inr ((), ())) (fun X i hi => by
    have h1 : ((i : Int) < (l.length : Int)) := by omega
    have h2 : Go.IntKind.wrap .i64 ((i : Int) + 1) = ((i + 1 : Nat) : Int) := by rw [wrap64 (by omega) (by omega)]; omega
    simp [law23_same_L4, h1, getI_lt l i hi, h2]) (fun X => by simp [law23_same_L4]) 1000 0 (by omega) (by omega)
  have h' : law23_same_L4_R 1000 ((l, (l, ((l.length : Int), ((0 : Int), ())))), ()) = some (.inr ((), ())) := h
  unfold law23_same
  rw [h']
  simp
theorem names_in : ∀ i < 10, (fsm_Name 1000 (i : Nat)).isSome = true ∧ fsm_Name 1000 (i : Nat) = ref23_Name 1000 (i : Nat) := by decide +kernel
theorem name_ok (s : Int) : ∃ t, fsm_Name 1000 s = some t ∧ ref23_Name 1000 s = some t := by
  by_cases h : 0 ≤ s ∧ s ≤ 9
  · have := names_in s.toNat (by omega)
    rw [Int.toNat_of_nonneg h.1] at this
    obtain ⟨h1, h2⟩ := this
    obtain ⟨t, ht⟩ := Option.isSome_iff_exists.1 h1
    exact ⟨t, ht, by rw [← h2, ht]⟩
  · refine ⟨[], ?_, ?_⟩
    · unfold fsm_Name
      rw [isState_in]
      simp [h]
    · unfold ref23_Name
      by_cases h0 : s < 0
      · simp [h0]
      · have h1 : 9 < s := by omega
        simp [h0, h1]
theorem timed_ok (s : Int) {r : Int × List Int × Int} (h : fsm_Next 1000 s 4 = some r) : fsm_Timed 1000 s = some (decide (r.2.2 = 0)) := by
  unfold fsm_Timed
  rw [h]; rfl
theorem law_FsmNext (s e : Int) : law23_FsmNext 1000 s e = some true := by
  obtain ⟨r, h1, h2, h3, h4, h5⟩ := next_ok s e
  obtain ⟨q, k1, k2, k3, k4, k5⟩ := next_ok s 4
  obtain ⟨t, t1, t2⟩ := name_ok s
  unfold law23_FsmNext
  rw [h1, h2, k2, t1, t2, timed_ok s k1, alive23]
  simp [same_ok r.2.1 (by omega)]
end Go.Proofs.Ytpdmmjbgidjhdaa
