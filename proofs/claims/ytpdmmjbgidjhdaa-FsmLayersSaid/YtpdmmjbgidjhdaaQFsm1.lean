/-
  Layer 23, on plain data: the automaton.
-/
import Derived.Test.YtpdmmjbgidjhdaaGFsm
import Derived.Test.YtpdmmjbgidjhdaaQBase
namespace Go.Proofs.Ytpdmmjbgidjhdaa
set_option maxRecDepth 100000
open Go.RowKit
set_option linter.unusedVariables false
set_option linter.unusedSimpArgs false
set_option maxRecDepth 100000

/-- What is so of a cell of the table. -/
def cellOK (a b : Option (Int × List Int × Int)) : Bool := match a, b with
  | some a, some b => decide (a = b) && decide (0 ≤ a.1) && decide (a.1 ≤ 9) && decide (a.2.1.length ≤ 4)
  | _, _ => false
theorem cells_in : ∀ i < 10, ∀ j < 16, cellOK (fsm_Next 1000 (i : Nat) (j : Nat)) (ref23_Next 1000 (i : Nat) (j : Nat)) = true := by decide +kernel
theorem next_in (s e : Int) (h1 : 0 ≤ s) (h2 : s ≤ 9) (h3 : 0 ≤ e) (h4 : e ≤ 15) : cellOK (fsm_Next 1000 s e) (ref23_Next 1000 s e) = true := by
  have := cells_in s.toNat (by omega) e.toNat (by omega)
  rwa [Int.toNat_of_nonneg h1, Int.toNat_of_nonneg h3] at this
theorem isState_in (s : Int) : fsm_isState 1000 s = some (decide (0 ≤ s ∧ s ≤ 9)) := by
  unfold fsm_isState
  by_cases h : 0 ≤ s <;> by_cases h' : s ≤ 9 <;> simp [h, h']
theorem next_out (s e : Int) (h : ¬ (0 ≤ s ∧ s ≤ 9 ∧ 0 ≤ e ∧ e ≤ 15)) : fsm_Next 1000 s e = some (0, [], 1) := by
  unfold fsm_Next
  rw [isState_in]
  by_cases h0 : 0 ≤ s ∧ s ≤ 9
  · by_cases h1 : e < 0
    · simp [h0, h1]
    · have h2 : 15 < e := by omega
      simp [h0, h1, h2]
  · simp [h0]
theorem ref_out (s e : Int) (h : ¬ (0 ≤ s ∧ s ≤ 9 ∧ 0 ≤ e ∧ e ≤ 15)) : ref23_Next 1000 s e = some (0, [], 1) := by
  by_cases he : 0 ≤ e ∧ e ≤ 15
  · have hs : s < 0 ∨ 9 < s := by omega
    have he : e = 0 ∨ e = 1 ∨ e = 2 ∨ e = 3 ∨ e = 4 ∨ e = 5 ∨ e = 6 ∨ e = 7 ∨ e = 8 ∨ e = 9 ∨ e = 10 ∨ e = 11 ∨ e = 12 ∨ e = 13 ∨ e = 14 ∨ e = 15 := by omega
    unfold ref23_Next
    rcases hs with hs | hs
    · rcases he with rfl | rfl | rfl | rfl | rfl | rfl | rfl | rfl | rfl | rfl | rfl | rfl | rfl | rfl | rfl | rfl <;> simp [hs]
    · have hs' : ¬ s < 0 := by omega
      rcases he with rfl | rfl | rfl | rfl | rfl | rfl | rfl | rfl | rfl | rfl | rfl | rfl | rfl | rfl | rfl | rfl <;> simp [hs, hs']
  · unfold ref23_Next
    have : ∀ n : Int, 0 ≤ n → n ≤ 15 → decide (e = n) = false := fun n h1 h2 => decide_eq_false (by omega)
    simp [this]
theorem next_ok (s e : Int) : ∃ r : Int × List Int × Int, fsm_Next 1000 s e = some r ∧ ref23_Next 1000 s e = some r ∧ 0 ≤ r.1 ∧ r.1 ≤ 9 ∧ r.2.1.length ≤ 4 := by
  by_cases h : 0 ≤ s ∧ s ≤ 9 ∧ 0 ≤ e ∧ e ≤ 15
  · have := next_in s e h.1 h.2.1 h.2.2.1 h.2.2.2
    unfold cellOK at this
    split at this
    · rename_i a b ha hb
      simp only [Bool.and_eq_true, decide_eq_true_eq] at this
      obtain ⟨⟨⟨rfl, h1⟩, h2⟩, h3⟩ := this
      exact ⟨a, ha, hb, h1, h2, h3⟩
    · cases this
  · exact ⟨_, next_out s e h, ref_out s e h, by decide, by decide, by decide⟩
theorem alive23 : law23_alive 1000 = some true := by kernel_rfl
end Go.Proofs.Ytpdmmjbgidjhdaa
