/-
  Packets out of a stream, by a plain function of all bytes.
-/
import Derived.Test.YtpijcgohhjgdbaaQRVP6
namespace Go.Proofs.Ytpijcgohhjgdbaa
set_option maxRecDepth 100000
open Go.RowKit
set_option linter.unusedVariables false
set_option linter.unusedSimpArgs false
set_option maxRecDepth 100000

/-- Packets, the bytes that they take, what is wrong, and what is left. -/
abbrev Dr := List Pk × Nat × Int × List Int
def drn : Nat → List Int → Dr
  | 0, b => ([], 0, 0, b)
  | n + 1, b =>
    if b.length < 4 then ([], 0, 0, b) else
    if (lenS b).2 ≠ 0 then ([], 0, (lenS b).2, b) else
    if (b.length : Int) < (lenS b).1 then ([], 0, 0, b) else
    if (parP (b.take (lenS b).1.toNat)).2 ≠ 0 then ([], 0, (parP (b.take (lenS b).1.toNat)).2, b) else
    ((parP (b.take (lenS b).1.toNat)).1 :: (drn n (b.drop (lenS b).1.toNat)).1, (lenS b).1.toNat + (drn n (b.drop (lenS b).1.toNat)).2.1, (drn n (b.drop (lenS b).1.toNat)).2.2.1, (drn n (b.drop (lenS b).1.toNat)).2.2.2)
theorem drn_succ (n : Nat) (b : List Int) : drn (n + 1) b =
    if b.length < 4 then ([], 0, 0, b) else
    if (lenS b).2 ≠ 0 then ([], 0, (lenS b).2, b) else
    if (b.length : Int) < (lenS b).1 then ([], 0, 0, b) else
    if (parP (b.take (lenS b).1.toNat)).2 ≠ 0 then ([], 0, (parP (b.take (lenS b).1.toNat)).2, b) else
    ((parP (b.take (lenS b).1.toNat)).1 :: (drn n (b.drop (lenS b).1.toNat)).1, (lenS b).1.toNat + (drn n (b.drop (lenS b).1.toNat)).2.1, (drn n (b.drop (lenS b).1.toNat)).2.2.1, (drn n (b.drop (lenS b).1.toNat)).2.2.2) := rfl
theorem drn_fuel : ∀ (n m : Nat) (b : List Int), AllB b → b.length < n → b.length < m → drn n b = drn m b
  | 0, _, _, _, h, _ => by omega
  | _, 0, _, _, _, h => by omega
  | n + 1, m + 1, b, hw, h1, h2 => by
    rw [drn_succ, drn_succ]
    by_cases a1 : b.length < 4
    · rw [if_pos a1, if_pos a1]
    · rw [if_neg a1, if_neg a1]
      by_cases a2 : (lenS b).2 ≠ 0
      · rw [if_pos a2, if_pos a2]
      · rw [if_neg a2, if_neg a2]
        have h := lenS_fine (Decidable.not_not.1 a2) hw
        rw [drn_fuel n m (b.drop (lenS b).1.toNat) (hw.drop _) (by rw [List.length_drop]; omega) (by rw [List.length_drop]; omega)]
def D (b : List Int) : Dr := drn (b.length + 1) b
theorem D_fuel {n : Nat} {b : List Int} (hw : AllB b) (h : b.length < n) : drn n b = D b := drn_fuel _ _ b hw h (by omega)
theorem D_eq (b : List Int) (hw : AllB b) : D b =
    if b.length < 4 then ([], 0, 0, b) else
    if (lenS b).2 ≠ 0 then ([], 0, (lenS b).2, b) else
    if (b.length : Int) < (lenS b).1 then ([], 0, 0, b) else
    if (parP (b.take (lenS b).1.toNat)).2 ≠ 0 then ([], 0, (parP (b.take (lenS b).1.toNat)).2, b) else
    ((parP (b.take (lenS b).1.toNat)).1 :: (D (b.drop (lenS b).1.toNat)).1, (lenS b).1.toNat + (D (b.drop (lenS b).1.toNat)).2.1, (D (b.drop (lenS b).1.toNat)).2.2.1, (D (b.drop (lenS b).1.toNat)).2.2.2) := by
  unfold D
  rw [drn_succ]
  by_cases a1 : b.length < 4
  · rw [if_pos a1, if_pos a1]
  · rw [if_neg a1, if_neg a1]
    by_cases a2 : (lenS b).2 ≠ 0
    · rw [if_pos a2, if_pos a2]
    · rw [if_neg a2, if_neg a2]
      have h := lenS_fine (Decidable.not_not.1 a2) hw
      rw [drn_fuel b.length ((b.drop (lenS b).1.toNat).length + 1) (b.drop (lenS b).1.toNat) (hw.drop _) (by rw [List.length_drop]; omega) (by omega)]
/-- A length is told by the first four bytes. -/
theorem lenS_app (x y : List Int) (h : 4 ≤ x.length) : lenS (x ++ y) = lenS x := by
  obtain ⟨a, b, c, d, r, rfl⟩ := list4 h
  unfold lenS
  have h1 : ¬ ((a :: b :: c :: d :: r) ++ y).length < 4 := by simp
  have h2 : ¬ (a :: b :: c :: d :: r).length < 4 := by simp
  rw [if_neg h1, if_neg h2]
  first | rfl | skip
theorem lenS_vals {b : List Int} (h : 4 ≤ b.length) : (lenS b).2 = 15 ∨ (lenS b).2 = 3 ∨ (lenS b).2 = 0 := by
  unfold lenS
  rw [if_neg (by omega)]
  by_cases h1 : b.getD 0 0 ≠ 16
  · rw [if_pos h1]; exact .inl rfl
  · rw [if_neg h1]
    by_cases h2 : 1 < b.getD 1 0 ∨ b.getD 2 0 * 256 + b.getD 3 0 < (if b.getD 1 0 = 1 then 8 else 5) ∨ 4095 < b.getD 2 0 * 256 + b.getD 3 0
    · rw [if_pos h2]; exact .inr (.inl rfl)
    · rw [if_neg h2]; exact .inr (.inr rfl)
theorem lenS_err {b : List Int} (h : 4 ≤ b.length) : (lenS b).2 ≠ 4 := by
  rcases lenS_vals h with e | e | e <;> rw [e] <;> decide
theorem lenS_lt {b : List Int} (h : b.length < 4) : lenS b = (0, 4) := by unfold lenS; rw [if_pos h]
/-- What holds of what is left. -/
def restOK (b : List Int) : Prop := b.length < 4 ∨ (4 ≤ b.length ∧ (lenS b).2 = 0 ∧ (b.length : Int) < (lenS b).1)
theorem D_facts : ∀ (n : Nat) (b : List Int), b.length ≤ n → AllB b → (D b).2.1 + (D b).2.2.2.length = b.length ∧ (D b).2.2.2 = b.drop (D b).2.1 ∧ 5 * (D b).1.length ≤ (D b).2.1 ∧ ((D b).2.2.1 = 0 → restOK (D b).2.2.2) ∧ (∀ p ∈ (D b).1, wfP p ∧ okP p)
  | n, b, hn, hw => by
    rw [D_eq b hw]
    by_cases a1 : b.length < 4
    · rw [if_pos a1]
      exact ⟨by simp, by simp, by simp, fun _ => .inl a1, fun p hp => (by cases hp)⟩
    · rw [if_neg a1]
      by_cases a2 : (lenS b).2 ≠ 0
      · rw [if_pos a2]
        exact ⟨by simp, by simp, by simp, fun h => absurd h a2, fun p hp => (by cases hp)⟩
      · rw [if_neg a2]
        have a2 : (lenS b).2 = 0 := Decidable.not_not.1 a2
        have h := lenS_fine a2 hw
        by_cases a3 : (b.length : Int) < (lenS b).1
        · rw [if_pos a3]
          exact ⟨by simp, by simp, by simp, fun _ => .inr ⟨Nat.not_lt.1 a1, a2, a3⟩, fun p hp => (by cases hp)⟩
        · rw [if_neg a3]
          have hlp := lay_parP (b.take (lenS b).1.toNat) (hw.take _) (by rw [List.length_take]; omega)
          by_cases a4 : (parP (b.take (lenS b).1.toNat)).2 ≠ 0
          · rw [if_pos a4]
            exact ⟨by simp, by simp, by simp, fun h => absurd h a4, fun p hp => (by cases hp)⟩
          · rw [if_neg a4]
            match n, hn with
            | 0, hn => omega
            | n + 1, hn =>
              obtain ⟨f1, f2, f3, f4, f5⟩ := D_facts n (b.drop (lenS b).1.toNat) (by rw [List.length_drop]; omega) (hw.drop _)
              rw [List.length_drop] at f1
              refine ⟨by simp only; omega, ?_, ?_, f4, ?_⟩
              · simp only
                rw [f2, List.drop_drop]
              · simp only [List.length_cons]
                omega
              · intro p hp
                simp only [List.mem_cons] at hp
                rcases hp with rfl | hp
                · exact ⟨hlp.1, hlp.2.1⟩
                · exact f5 p hp
theorem D_app : ∀ (n : Nat) (x y : List Int), x.length ≤ n → AllB x → AllB y →
    ((D x).2.2.1 = 0 → D (x ++ y) = ((D x).1 ++ (D ((D x).2.2.2 ++ y)).1, (D x).2.1 + (D ((D x).2.2.2 ++ y)).2.1, (D ((D x).2.2.2 ++ y)).2.2.1, (D ((D x).2.2.2 ++ y)).2.2.2)) ∧
    ((D x).2.2.1 ≠ 0 → D (x ++ y) = ((D x).1, (D x).2.1, (D x).2.2.1, (D x).2.2.2 ++ y))
  | n, x, y, hn, hx, hy => by
    rw [D_eq x hx]
    by_cases a1 : x.length < 4
    · rw [if_pos a1]
      exact ⟨fun _ => by simp, fun h => absurd rfl h⟩
    · rw [if_neg a1]
      have hl := lenS_app x y (by omega)
      have hxy := hx.append hy
      by_cases a2 : (lenS x).2 ≠ 0
      · rw [if_pos a2]
        refine ⟨fun h => absurd h a2, fun _ => ?_⟩
        rw [D_eq _ hxy, if_neg (by rw [List.length_append]; omega), hl, if_pos a2]
      · rw [if_neg a2]
        have h := lenS_fine (Decidable.not_not.1 a2) hx
        by_cases a3 : (x.length : Int) < (lenS x).1
        · rw [if_pos a3]
          exact ⟨fun _ => by simp, fun h => absurd rfl h⟩
        · rw [if_neg a3]
          have ht : (x ++ y).take (lenS x).1.toNat = x.take (lenS x).1.toNat := List.take_append_of_le_length (by omega)
          have hd : (x ++ y).drop (lenS x).1.toNat = x.drop (lenS x).1.toNat ++ y := List.drop_append_of_le_length (by omega)
          have e0 : ¬ (x ++ y).length < 4 := by rw [List.length_append]; omega
          have e3 : ¬ ((x ++ y).length : Int) < (lenS x).1 := by rw [List.length_append]; omega
          by_cases a4 : (parP (x.take (lenS x).1.toNat)).2 ≠ 0
          · rw [if_pos a4]
            refine ⟨fun h => absurd h a4, fun _ => ?_⟩
            rw [D_eq _ hxy, if_neg e0, hl, if_neg a2, if_neg e3, ht, if_pos a4]
          · rw [if_neg a4]
            match n, hn with
            | 0, hn => omega
            | n + 1, hn =>
              obtain ⟨f1, f2⟩ := D_app n (x.drop (lenS x).1.toNat) y (by rw [List.length_drop]; omega) (hx.drop _) hy
              have e : D (x ++ y) = ((parP (x.take (lenS x).1.toNat)).1 :: (D (x.drop (lenS x).1.toNat ++ y)).1, (lenS x).1.toNat + (D (x.drop (lenS x).1.toNat ++ y)).2.1, (D (x.drop (lenS x).1.toNat ++ y)).2.2.1, (D (x.drop (lenS x).1.toNat ++ y)).2.2.2) := by
                rw [D_eq _ hxy, if_neg e0, hl, if_neg a2, if_neg e3, ht, if_neg a4, hd]
              refine ⟨fun h => ?_, fun h => ?_⟩
              · have h : (D (x.drop (lenS x).1.toNat)).2.2.1 = 0 := h
                rw [e, f1 h]
                simp [Nat.add_assoc]
              · have h : (D (x.drop (lenS x).1.toNat)).2.2.1 ≠ 0 := h
                rw [e, f2 h]
end Go.Proofs.Ytpijcgohhjgdbaa
