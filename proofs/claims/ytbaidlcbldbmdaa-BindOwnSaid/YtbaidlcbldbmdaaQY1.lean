/-
  Layer 18, on plain data: attributes checked.
-/
import Derived.Test.YtbaidlcbldbmdaaQY0
namespace Go.Proofs.Ytbaidlcbldbmdaa
set_option maxRecDepth 100000
open Go.RowKit
set_option linter.unusedVariables false
set_option linter.unusedSimpArgs false
set_option maxRecDepth 100000

def z3 (x y z : Int) : Bool := decide (x = 0) && decide (y = 0) && decide (z = 0)
/-- Whether data of a kind begin as they must. -/
def okB (k w : Int) : Bool := if k = 2 then decide (w ≤ 4) else if k = 3 then decide (w = 1) || decide (w = 2) else decide (1 ≤ w) && decide (w ≤ 3)
def leastA (k : Int) : Nat := if k = 1 then 2 else if k = 2 then 8 else if k = 3 then 100 else 36
def mostA (k : Int) : Nat := if k = 1 then 2 else if k = 2 then 72 else if k = 3 then 100 else 36
def chk (a : At2) : Int :=
  if kindB a.1 = false then 9 else if a.2.length < leastA a.1 then 4 else if mostA a.1 < a.2.length then 3 else if a.1 = 1 then 0 else
    if (z3 (a.2.getD 0 0) (a.2.getD 1 0) (a.2.getD 2 0) && okB a.1 (a.2.getD 3 0)) = true then 0 else 3
theorem kindB_cases {k : Int} (h : kindB k = true) : k = 1 ∨ k = 2 ∨ k = 3 ∨ k = 4 := by
  unfold kindB at h
  have := of_decide_eq_true h
  omega
section
variable {N : Nat}
theorem fine_ok (k x y z w : Int) (r : List Int) (hk : k = 2 ∨ k = 3 ∨ k = 4) (hx : 0 ≤ x ∧ x < 256) (hy : 0 ≤ y ∧ y < 256) (hz : 0 ≤ z ∧ z < 256) : attr_fine N (k, x :: y :: z :: w :: r) = some (z3 x y z && okB k w) := by
  have g3 : getI (x :: y :: z :: w :: r) (3 : Int) = some w := rfl
  have t3 : takeI (x :: y :: z :: w :: r) (3 : Int) = some [x, y, z] := takeI_nat _ (i := 3) rfl (by simp)
  have ta : toArr 3 [x, y, z] = some ⟨[x, y, z], rfl⟩ := rfl
  have hwf : (wfB (.arr 3 (.int .u8)) ⟨[x, y, z], rfl⟩ && wfB (.arr 3 (.int .u8)) (Arr.cons (0 : Int) (Arr.cons (0 : Int) (Arr.cons (0 : Int) Arr.nil)))) = true := by
    have e0 : wfB (.arr 3 (.int .u8)) (Arr.cons (0 : Int) (Arr.cons (0 : Int) (Arr.cons (0 : Int) Arr.nil))) = true := by decide
    rw [e0]
    simp [wfB, wfu8 hx, wfu8 hy, wfu8 hz]
  have hd : (@Decidable.decide (@Eq (Arr Int 3) ⟨[x, y, z], rfl⟩ (Arr.cons (0 : Int) (Arr.cons (0 : Int) (Arr.cons (0 : Int) Arr.nil)))) (decT (.arr 3 (.int .u8)) ⟨[x, y, z], rfl⟩ (Arr.cons (0 : Int) (Arr.cons (0 : Int) (Arr.cons (0 : Int) Arr.nil))))) = z3 x y z := by
    rw [Bool.eq_iff_iff]
    unfold z3
    simp only [decide_eq_true_eq, Bool.and_eq_true]
    constructor
    · intro h
      have := congrArg Arr.l h
      simp only [Arr.cons, Arr.nil, List.cons.injEq, and_true] at this
      exact ⟨⟨this.1, this.2.1⟩, this.2.2⟩
    · rintro ⟨⟨rfl, rfl⟩, rfl⟩
      rfl
  have h1 : ¬ k = 1 := by omega
  unfold attr_fine
  simp only [h1, decide_false, cond_false, g3, t3, ta, Option.bind_some, hwf, cond_true, hd]
  cases hz3 : z3 x y z with
  | false => simp
  | true =>
    rcases hk with rfl | rfl | rfl
    · simp [okB]
    · by_cases h1 : w = 1 <;> by_cases h2 : w = 2 <;> simp [okB, h1, h2]
    · by_cases h1 : 1 ≤ w <;> by_cases h2 : w ≤ 3 <;> simp [okB, h1, h2]
theorem sizes_ok (k : Int) (h : kindB k = true) : attr_sizes N k = some (((leastA k : Nat) : Int), ((mostA k : Nat) : Int)) := by
  rcases kindB_cases h with rfl | rfl | rfl | rfl <;> rfl
theorem sizes_some (k : Int) : ∃ p, attr_sizes N k = some p := by
  unfold attr_sizes
  by_cases h1 : k = 1
  · exact ⟨_, by simp only [h1, decide_true, cond_true]; rfl⟩
  · by_cases h2 : k = 2
    · exact ⟨_, by simp only [h1, h2, decide_true, decide_false, cond_true, cond_false]; rfl⟩
    · by_cases h3 : k = 3
      · exact ⟨_, by simp only [h1, h2, h3, decide_true, decide_false, cond_true, cond_false]; rfl⟩
      · by_cases h4 : k = 4
        · exact ⟨_, by simp only [h1, h2, h3, h4, decide_true, decide_false, cond_true, cond_false]; rfl⟩
        · exact ⟨_, by simp only [h1, h2, h3, h4, decide_true, decide_false, cond_true, cond_false]; rfl⟩
theorem chk_ok (a : At2) (hw : AllB a.2) : attr_Check N a = some (chk a) := by
  unfold attr_Check chk
  rw [kind_ok]
  cases hk : kindB a.1 with
  | false =>
    obtain ⟨p, hp⟩ := sizes_some (N := N) a.1
    rw [hp]
    simp
  | true =>
    rw [sizes_ok a.1 hk]
    simp only [Option.bind_some, Bool.not_true, cond_false]
    by_cases h1 : a.2.length < leastA a.1
    · have c1 : (a.2.length : Int) < (leastA a.1 : Int) := by omega
      simp [h1, c1]
    · have c1 : ¬ (a.2.length : Int) < (leastA a.1 : Int) := by omega
      by_cases h2 : mostA a.1 < a.2.length
      · have c2 : (mostA a.1 : Int) < (a.2.length : Int) := by omega
        simp [h1, c1, h2, c2]
      · have c2 : ¬ (mostA a.1 : Int) < (a.2.length : Int) := by omega
        rw [decide_eq_false c1, decide_eq_false c2]
        simp only [cond_false, if_false, h1, h2]
        by_cases hk1 : a.1 = 1
        · have hf : attr_fine N (a.1, a.2) = some true := by unfold attr_fine; rw [decide_eq_true hk1]; rfl
          rw [hf]
          simp [hk1]
        · have hk2 : a.1 = 2 ∨ a.1 = 3 ∨ a.1 = 4 := by have := kindB_cases hk; omega
          have hl4 : 4 ≤ a.2.length := by
            have : 8 ≤ leastA a.1 := by rcases hk2 with h | h | h <;> rw [h] <;> decide
            omega
          obtain ⟨k, l⟩ := a
          obtain ⟨x, y, z, w, r, rfl⟩ := list4 hl4
          have hf := fine_ok (N := N) k x y z w r hk2 (hw x (by simp)) (hw y (by simp)) (hw z (by simp))
          simp only [hf, Option.bind_some, List.getD_cons_zero, List.getD_cons_succ]
          have hk1' : ¬ k = 1 := hk1
          cases hz : (z3 x y z && okB k w) <;> simp [hk1']
end
theorem wf_attr {a : At2} (h : wfT (.pair (.int .u8) (.sl (.int .u8))) a) : wfA a := ⟨wf_u8 h.1, wf_bytes h.2⟩
end Go.Proofs.Ytbaidlcbldbmdaa
