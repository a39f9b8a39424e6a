/-
  The state of a reframer behind any pieces, as a plain function of all bytes.
-/
import Derived.Test.YtpijcgohhjgdbaaQRVT2
namespace Go.Proofs.Ytpijcgohhjgdbaa
set_option maxRecDepth 100000
open Go.RowKit
set_option linter.unusedVariables false
set_option linter.unusedSimpArgs false
set_option maxRecDepth 100000

/-- What is held behind bytes. -/
def stH (b : List Int) : List Int := if (D b).2.2.1 = 0 then (D b).2.2.2 else []
theorem stH_B (b : List Int) (hb : AllB b) : AllB (stH b) := by
  unfold stH
  split
  · rw [(D_facts _ b (Nat.le_refl _) hb).2.1]; exact hb.drop _
  · exact AllB.nil
theorem stH_len (b : List Int) (hb : AllB b) : (stH b).length ≤ 4094 ∧ (stH b).length ≤ b.length := by
  have hB := stH_B b hb
  obtain ⟨f1, f2, f3, f4, f5⟩ := D_facts _ b (Nat.le_refl _) hb
  unfold stH at hB ⊢
  split
  · rename_i h
    rw [if_pos h] at hB
    refine ⟨?_, by omega⟩
    rcases f4 h with k | ⟨k1, k2, k3⟩
    · omega
    · have := lenS_fine k2 hB
      omega
  · simp
theorem D_idem (b : List Int) (hb : AllB b) : D (stH b) = ([], 0, 0, stH b) := by
  have hB := stH_B b hb
  rw [D_eq _ hB]
  by_cases h : (D b).2.2.1 = 0
  · have f4 := (D_facts _ b (Nat.le_refl _) hb).2.2.2.1 h
    have e : stH b = (D b).2.2.2 := by unfold stH; rw [if_pos h]
    rw [← e] at f4
    rcases f4 with k | ⟨k1, k2, k3⟩
    · rw [if_pos k]
    · rw [if_neg (by omega), if_neg (fun hc => hc k2), if_pos k3]
  · have e : stH b = [] := by unfold stH; rw [if_neg h]
    rw [e]
    rfl
theorem D_step (P p : List Int) (hP : AllB P) (hp : AllB p) (h : (D P).2.2.1 = 0) : (D (P ++ p)).1 = (D P).1 ++ (D (stH P ++ p)).1 ∧ (D (P ++ p)).2.1 = (D P).2.1 + (D (stH P ++ p)).2.1 ∧ (D (P ++ p)).2.2.1 = (D (stH P ++ p)).2.2.1 ∧ stH (P ++ p) = (if (D (stH P ++ p)).2.2.1 = 0 then (D (stH P ++ p)).2.2.2 else []) := by
  have e : stH P = (D P).2.2.2 := by unfold stH; rw [if_pos h]
  have := (D_app _ P p (Nat.le_refl _) hP hp).1 h
  rw [e]
  refine ⟨by rw [this], by rw [this], by rw [this], ?_⟩
  unfold stH
  rw [this]
theorem D_stop (P p : List Int) (hP : AllB P) (hp : AllB p) (h : (D P).2.2.1 ≠ 0) : (D (P ++ p)).1 = (D P).1 ∧ (D (P ++ p)).2.1 = (D P).2.1 ∧ (D (P ++ p)).2.2.1 = (D P).2.2.1 ∧ stH (P ++ p) = [] := by
  have := (D_app _ P p (Nat.le_refl _) hP hp).2 h
  refine ⟨by rw [this], by rw [this], by rw [this], ?_⟩
  unfold stH
  rw [this]
  simp only
  rw [if_neg h]
/-- What is wanted of what is held. -/
theorem wants_ok (b : List Int) (hb : AllB b) : (4 : Int) - (stH b).length ≥ 1 ∧ (lenS (stH b)).2 = 4 ∨ (lenS (stH b)).2 = 0 ∧ (lenS (stH b)).1 - (stH b).length ≥ 1 ∧ (lenS (stH b)).1 ≤ 4095 := by
  have hB := stH_B b hb
  by_cases h : (D b).2.2.1 = 0
  · have f4 := (D_facts _ b (Nat.le_refl _) hb).2.2.2.1 h
    have e : stH b = (D b).2.2.2 := by unfold stH; rw [if_pos h]
    rw [← e] at f4
    rcases f4 with k | ⟨k1, k2, k3⟩
    · exact .inl ⟨by omega, by rw [lenS_lt k]⟩
    · have := lenS_fine k2 hB
      exact .inr ⟨k2, by omega, by omega⟩
  · have e : stH b = [] := by unfold stH; rw [if_neg h]
    rw [e]
    exact .inl ⟨by simp, rfl⟩
end Go.Proofs.Ytpijcgohhjgdbaa
