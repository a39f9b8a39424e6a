/-
  Layer 18, on plain data: packets measured and parsed.
-/
import Derived.Test.YtbaidlcbldbmdaaQY3
namespace Go.Proofs.Ytbaidlcbldbmdaa
set_option maxRecDepth 100000
open Go.RowKit
set_option linter.unusedVariables false
set_option linter.unusedSimpArgs false
set_option maxRecDepth 100000

/-! ### Measured -/
def lenS (b : List Int) : Int × Int :=
  if b.length < 4 then (0, 4) else if b.getD 0 0 ≠ 16 then (0, 15) else
    if 1 < b.getD 1 0 ∨ b.getD 2 0 * 256 + b.getD 3 0 < (if b.getD 1 0 = 1 then 8 else 5) ∨ 4095 < b.getD 2 0 * 256 + b.getD 3 0 then (0, 3) else (b.getD 2 0 * 256 + b.getD 3 0, 0)
/-- Attributes taken one behind another: what is taken, what is left, what is wrong. -/
def decL : Nat → List Int → (List At2 × List Int) × Int
  | 0, b => (([], b), 0)
  | n + 1, b => if (parA b).2.2 = 0 then (if (decL n (b.drop (parA b).2.1.toNat)).2 = 0 then (((parA b).1 :: (decL n (b.drop (parA b).2.1.toNat)).1.1, (decL n (b.drop (parA b).2.1.toNat)).1.2), 0) else (([], []), (decL n (b.drop (parA b).2.1.toNat)).2)) else (([], []), (parA b).2.2)
def decW (acc : List At2) (r : (List At2 × List Int) × Int) : (List At2 × List Int) × Int := if r.2 = 0 then ((acc ++ r.1.1, r.1.2), 0) else (([], []), r.2)
theorem dec_succ (n : Nat) (b : List Int) : decL (n + 1) b = if (parA b).2.2 = 0 then (if (decL n (b.drop (parA b).2.1.toNat)).2 = 0 then (((parA b).1 :: (decL n (b.drop (parA b).2.1.toNat)).1.1, (decL n (b.drop (parA b).2.1.toNat)).1.2), 0) else (([], []), (decL n (b.drop (parA b).2.1.toNat)).2)) else (([], []), (parA b).2.2) := rfl
theorem decW_go (acc : List At2) (n : Nat) (b : List Int) (h : (parA b).2.2 = 0) : decW acc (decL (n + 1) b) = decW (acc ++ [(parA b).1]) (decL n (b.drop (parA b).2.1.toNat)) := by
  rw [dec_succ, if_pos h]
  unfold decW
  by_cases hr : (decL n (b.drop (parA b).2.1.toNat)).2 = 0
  · simp [hr]
  · simp [hr]
theorem decW_bad (acc : List At2) (n : Nat) (b : List Int) (h : ¬ (parA b).2.2 = 0) : decW acc (decL (n + 1) b) = (([], []), (parA b).2.2) := by
  rw [dec_succ, if_neg h]
  unfold decW
  simp [h]
theorem decW_nil (r : (List At2 × List Int) × Int) (h : r.2 = 0) : decW [] r = r := by
  unfold decW
  rw [if_pos h]
  obtain ⟨⟨x, y⟩, z⟩ := r
  simp only at h
  subst h
  rfl
/-- What is laid is taken again. -/
theorem dec_encL : ∀ (l : List At2) (b : List Int), (∀ a ∈ l, wfA a) → (encL l).2 = 0 → decL l.length ((encL l).1 ++ b) = ((l, b), 0)
  | [], b, _, _ => rfl
  | a :: r, b, hw, h => by
    rw [encL_cons] at h ⊢
    by_cases h1 : (layA a).2 = 0
    · rw [if_pos h1] at h ⊢
      by_cases h2 : (encL r).2 = 0
      · rw [if_pos h2] at h ⊢
        have ih := dec_encL r b (fun x hx => hw x (List.mem_cons_of_mem _ hx)) h2
        have hb := layA_back a (hw a List.mem_cons_self) ((encL r).1 ++ b) h1
        rw [List.length_cons]
        simp only [List.append_assoc]
        rw [dec_succ, hb]
        simp only [if_true, Int.toNat_natCast, List.drop_left, ih]
      · rw [if_neg h2] at h; exact absurd h h2
    · rw [if_neg h1] at h; exact absurd h h1
/-- What is taken is laid again. -/
theorem encL_dec : ∀ (n : Nat) (b : List Int), AllB b → (decL n b).2 = 0 → (decL n b).1.1.length = n ∧ (∀ a ∈ (decL n b).1.1, wfA a ∧ a.2.length ≤ b.length) ∧ ∃ e, encL (decL n b).1.1 = (e, 0) ∧ e ++ (decL n b).1.2 = b
  | 0, b, _, _ => ⟨rfl, (fun a ha => absurd ha (by simp [decL])), [], rfl, rfl⟩
  | n + 1, b, hw, h => by
    rw [dec_succ] at h ⊢
    by_cases h1 : (parA b).2.2 = 0
    · rw [if_pos h1] at h ⊢
      by_cases h2 : (decL n (b.drop (parA b).2.1.toNat)).2 = 0
      · rw [if_pos h2]
        obtain ⟨i1, i2, e, i3, i4⟩ := encL_dec n (b.drop (parA b).2.1.toNat) (hw.drop _) h2
        obtain ⟨b1, b2, b3⟩ := parA_back b hw h1
        have hpw := parA_wf b hw
        refine ⟨by simp only [List.length_cons, i1], fun a ha => ?_, (b.take (parA b).2.1.toNat) ++ e, ?_, ?_⟩
        · rcases List.mem_cons.1 ha with rfl | ha
          · exact hpw
          · have := i2 a ha
            refine ⟨this.1, ?_⟩
            have h3 := this.2
            rw [List.length_drop] at h3
            omega
        · show encL ((parA b).1 :: _) = _
          rw [encL_cons, b3, if_pos rfl, i3, if_pos rfl]
        · rw [List.append_assoc]
          show _ ++ (e ++ (decL n (b.drop (parA b).2.1.toNat)).1.2) = b
          rw [i4, List.take_append_drop]
      · rw [if_neg h2] at h; exact absurd h h2
    · rw [if_neg h1] at h; exact absurd h h1
section
variable {N : Nat}
theorem list8 {l : List Int} (h : 8 ≤ l.length) : ∃ x y z u p q r s t, l = x :: y :: z :: u :: p :: q :: r :: s :: t := by
  match l, h with
  | x :: y :: z :: u :: p :: q :: r :: s :: t, _ => exact ⟨x, y, z, u, p, q, r, s, t, rfl⟩
def noP : Pk := (false, 0, [], [])
/-- Attributes that fill all. -/
def allA (many : Int) (b : List Int) : List At2 × Int := if 8 < many then ([], 5) else if (decL many.toNat b).2 = 0 then (if (decL many.toNat b).1.2 = [] then ((decL many.toNat b).1.1, 0) else ([], 3)) else ([], (decL many.toNat b).2)
def parP (b : List Int) : Pk × Int :=
  if (lenS b).2 ≠ 0 then (noP, (lenS b).2) else if (b.length : Int) < (lenS b).1 then (noP, 4) else if (lenS b).1 < (b.length : Int) then (noP, 3) else
    if b.getD 1 0 = 0 then ((false, 0, [], b.drop 4), 0) else
      if (allA (b.getD 6 0 * 256 + b.getD 7 0) (b.drop 8)).2 = 0 then ((true, b.getD 4 0 * 256 + b.getD 5 0, (allA (b.getD 6 0 * 256 + b.getD 7 0) (b.drop 8)).1, []), 0) else (noP, (allA (b.getD 6 0 * 256 + b.getD 7 0) (b.drop 8)).2)
theorem lenS_fine {b : List Int} (h : (lenS b).2 = 0) (hw : AllB b) : 4 ≤ b.length ∧ b.getD 0 0 = 16 ∧ (lenS b).1 = b.getD 2 0 * 256 + b.getD 3 0 ∧ 5 ≤ (lenS b).1 ∧ (lenS b).1 ≤ 4095 ∧ (b.getD 1 0 = 0 ∨ b.getD 1 0 = 1 ∧ 8 ≤ (lenS b).1) := by
  unfold lenS at h ⊢
  by_cases h4 : b.length < 4
  · rw [if_pos h4] at h; cases h
  · rw [if_neg h4] at h ⊢
    by_cases h5 : b.getD 0 0 ≠ 16
    · rw [if_pos h5] at h; cases h
    · rw [if_neg h5] at h ⊢
      by_cases h6 : 1 < b.getD 1 0 ∨ b.getD 2 0 * 256 + b.getD 3 0 < (if b.getD 1 0 = 1 then 8 else 5) ∨ 4095 < b.getD 2 0 * 256 + b.getD 3 0
      · rw [if_pos h6] at h; cases h
      · rw [if_neg h6]
        obtain ⟨x, y, z, u, r, rfl⟩ := list4 (by omega : 4 ≤ b.length)
        have by' := hw y (by simp)
        simp only [List.getD_cons_zero, List.getD_cons_succ] at h5 h6 ⊢
        by_cases hy : y = 1
        · rw [if_pos hy] at h6
          exact ⟨by simp, by omega, by trivial, by omega, by omega, Or.inr ⟨hy, by omega⟩⟩
        · rw [if_neg hy] at h6
          exact ⟨by simp, by omega, by trivial, by omega, by omega, Or.inl (by omega)⟩
end
end Go.Proofs.Ytbaidlcbldbmdaa
