/-
  Plain facts on roots of whole numbers. Nothing of the program.
-/
import Derived.Test.YtkndelbnjhkbcaaPlain01
namespace Go.Proofs.Ytkndelbnjhkbcaa

/-- The bits of a root, the highest one first. -/
def grow (T d : Nat) : Nat → Nat → Nat
  | 0, x => x
  | k + 1, x => if (x + 2 ^ k) ^ d ≤ T then grow T d k (x + 2 ^ k) else grow T d k x
/-- What the root's power is not above. -/
def topOf (n d b : Nat) : Nat := n * 2 ^ (d * b)
def rootOf (n d b : Nat) : Nat := grow (topOf n d b) d 37 0

theorem pow_lt_of {a b d : Nat} (h : a ^ d < b ^ d) : a < b := by
  rcases Nat.lt_or_ge a b with h' | h'
  · exact h'
  · have := Nat.pow_le_pow_left h' d; omega
theorem pow_uniq {T d r s : Nat} (h1 : r ^ d ≤ T) (h2 : T < (r + 1) ^ d) (h3 : s ^ d ≤ T) (h4 : T < (s + 1) ^ d) : r = s := by
  have a := pow_lt_of (Nat.lt_of_le_of_lt h1 h4)
  have b := pow_lt_of (Nat.lt_of_le_of_lt h3 h2)
  omega
theorem grow_spec (T d : Nat) : ∀ k x, x ^ d ≤ T → T < (x + 2 ^ k) ^ d → (grow T d k x) ^ d ≤ T ∧ T < (grow T d k x + 1) ^ d
  | 0, x, h1, h2 => ⟨h1, h2⟩
  | k + 1, x, h1, h2 => by
    rw [grow]
    split
    · rename_i h
      refine grow_spec T d k _ h ?_
      rwa [Nat.add_assoc, ← Nat.two_mul, Nat.mul_comm, ← Nat.pow_succ]
    · rename_i h
      exact grow_spec T d k x h1 (by omega)
/-- May there be such a root? -/
def MayRoot (n d b : Nat) : Prop := n ≤ 1000 ∧ (d = 2 ∨ d = 3) ∧ b ≤ 32
theorem topOf_lt {n d b : Nat} (h : MayRoot n d b) : topOf n d b < (2 ^ 37) ^ d := by
  obtain ⟨h1, h2, h3⟩ := h
  unfold topOf
  rcases h2 with rfl | rfl
  · have : 2 ^ (2 * b) ≤ 2 ^ 64 := Nat.pow_le_pow_right (by omega) (by omega)
    calc n * 2 ^ (2 * b) ≤ 1000 * 2 ^ 64 := Nat.mul_le_mul h1 this
      _ < (2 ^ 37) ^ 2 := by decide
  · have : 2 ^ (3 * b) ≤ 2 ^ 96 := Nat.pow_le_pow_right (by omega) (by omega)
    calc n * 2 ^ (3 * b) ≤ 1000 * 2 ^ 96 := Nat.mul_le_mul h1 this
      _ < (2 ^ 37) ^ 3 := by decide
theorem rootOf_spec {n d b : Nat} (h : MayRoot n d b) : (rootOf n d b) ^ d ≤ topOf n d b ∧ topOf n d b < (rootOf n d b + 1) ^ d := by
  refine grow_spec _ _ 37 0 ?_ (by rw [Nat.zero_add]; exact topOf_lt h)
  rcases h.2.1 with rfl | rfl <;> simp
theorem rootOf_lt {n d b : Nat} (h : MayRoot n d b) : rootOf n d b < 2 ^ 37 :=
  pow_lt_of (Nat.lt_of_le_of_lt (rootOf_spec h).1 (topOf_lt h))
theorem rootOf_mono {n d b : Nat} (h : MayRoot n d b) (h' : MayRoot (n + 1) d b) : rootOf n d b ≤ rootOf (n + 1) d b := by
  have h1 := (rootOf_spec h).1
  have h2 := (rootOf_spec h').2
  have : topOf n d b ≤ topOf (n + 1) d b := Nat.mul_le_mul (by omega) (Nat.le_refl _)
  have := pow_lt_of (Nat.lt_of_le_of_lt (Nat.le_trans h1 this) h2)
  omega
theorem rootOf_bit {n d b : Nat} (h : MayRoot n d b) (h' : MayRoot n d (b + 1)) : rootOf n d (b + 1) / 2 = rootOf n d b := by
  obtain ⟨h1, h2⟩ := rootOf_spec h
  obtain ⟨h3, h4⟩ := rootOf_spec h'
  obtain ⟨y, hy⟩ : ∃ y, y = rootOf n d (b + 1) := ⟨_, rfl⟩
  rw [← hy] at h3 h4 ⊢
  have hT : topOf n d (b + 1) = topOf n d b * 2 ^ d := by unfold topOf; rw [Nat.mul_add, Nat.mul_one, Nat.pow_add, Nat.mul_assoc]
  have hp : 0 < 2 ^ d := Nat.pos_of_ne_zero (by simp)
  rw [hT] at h3 h4
  refine pow_uniq ?_ ?_ h1 h2
  · have : (y / 2) ^ d * 2 ^ d ≤ topOf n d b * 2 ^ d := by
      rw [← Nat.mul_pow]
      exact Nat.le_trans (Nat.pow_le_pow_left (by omega) d) h3
    exact Nat.le_of_mul_le_mul_right this hp
  · have : topOf n d b * 2 ^ d < (y / 2 + 1) ^ d * 2 ^ d := by
      rw [← Nat.mul_pow]
      exact Nat.lt_of_lt_of_le h4 (Nat.pow_le_pow_left (by omega) d)
    exact Nat.lt_of_mul_lt_mul_right this
/-- What the loop keeps: the bits so far lead to the root. -/
def GrowAt (n d b k x : Nat) : Prop := grow (topOf n d b) d k x = rootOf n d b ∧ x % 2 ^ k = 0 ∧ x + 2 ^ k ≤ 137438953472
theorem GrowAt.start (n d b : Nat) : GrowAt n d b 37 0 := ⟨rfl, rfl, by decide⟩
theorem GrowAt.yes {n d b k x : Nat} (h : GrowAt n d b (k + 1) x) (hc : (x + 2 ^ k) ^ d ≤ topOf n d b) : GrowAt n d b k (x + 2 ^ k) := by
  obtain ⟨h1, h2, h3⟩ := h
  rw [grow, if_pos hc] at h1
  refine ⟨h1, ?_, by rw [Nat.pow_succ] at h3; omega⟩
  rw [Nat.pow_succ, Nat.mul_comm] at h2
  have : x % 2 ^ k = 0 := by
    rw [Nat.mul_comm, Nat.mod_mul] at h2; omega
  rw [Nat.add_mod_right]; exact this
theorem GrowAt.no {n d b k x : Nat} (h : GrowAt n d b (k + 1) x) (hc : topOf n d b < (x + 2 ^ k) ^ d) : GrowAt n d b k x := by
  obtain ⟨h1, h2, h3⟩ := h
  rw [grow, if_neg (by omega)] at h1
  refine ⟨h1, ?_, by rw [Nat.pow_succ] at h3; omega⟩
  rw [Nat.pow_succ, Nat.mul_comm] at h2
  rw [Nat.mul_comm, Nat.mod_mul] at h2; omega
theorem GrowAt.or {n d b k x : Nat} (h : GrowAt n d b (k + 1) x) : x ||| 2 ^ k = x + 2 ^ k := by
  obtain ⟨_, h2, _⟩ := h
  have : x % 2 ^ (k + 1) = 0 := h2
  rw [nat_join (k + 1) _ _ this (Nat.pow_lt_pow_right (by omega) (by omega))]
theorem GrowAt.last {n d b x : Nat} (h : GrowAt n d b 0 x) : x = rootOf n d b := h.1
theorem pow_three_hi {x : Nat} : x ^ 3 / 18446744073709551616 = x * x / 18446744073709551616 * x + x * x % 18446744073709551616 * x / 18446744073709551616 := by
  have e : x ^ 3 = (x * x % 18446744073709551616 * x) + 18446744073709551616 * (x * x / 18446744073709551616 * x) := by
    have h := Nat.div_add_mod (x * x) 18446744073709551616
    have : x ^ 3 = x * x * x := by rw [Nat.pow_succ, Nat.pow_two]
    rw [this]
    conv => lhs; rw [← h]
    rw [Nat.add_mul, Nat.mul_assoc]; omega
  rw [e, Nat.add_mul_div_left _ _ (by decide)]; omega
theorem pow_three_lo {x : Nat} : x ^ 3 % 18446744073709551616 = x * x % 18446744073709551616 * x % 18446744073709551616 := by
  have : x ^ 3 = x * x * x := by rw [Nat.pow_succ, Nat.pow_two]
  rw [this, Nat.mul_mod]; simp
theorem shift_hi {n s : Nat} (h : 64 ≤ s) : n * 2 ^ s / 18446744073709551616 = n * 2 ^ (s - 64) ∧ n * 2 ^ s % 18446744073709551616 = 0 := by
  obtain ⟨t, rfl⟩ := Nat.exists_eq_add_of_le h
  have e : n * 2 ^ (64 + t) = n * 2 ^ (64 + t - 64) * 18446744073709551616 := by
    rw [show 64 + t - 64 = t by omega, Nat.pow_add, Nat.mul_comm (2 ^ 64), Nat.mul_assoc]
  rw [e, Nat.mul_div_cancel _ (by decide), Nat.mul_mod_left]
  exact ⟨rfl, rfl⟩
theorem shift_lo {n s : Nat} (h : s < 64) : n * 2 ^ s / 18446744073709551616 = n / 2 ^ (64 - s) := by
  have e : 18446744073709551616 = 2 ^ s * 2 ^ (64 - s) := by rw [← Nat.pow_add, show s + (64 - s) = 64 by omega]
  rw [e, Nat.mul_comm n, Nat.mul_div_mul_left _ _ (Nat.pos_of_ne_zero (by simp))]
/-- Compared by their two words. -/
theorem two_words {a b : Nat} : decide (a < b) = if b / 18446744073709551616 = a / 18446744073709551616 then decide (a % 18446744073709551616 < b % 18446744073709551616) else decide (a / 18446744073709551616 < b / 18446744073709551616) := by
  rw [Bool.eq_iff_iff]
  split <;> simp <;> omega
end Go.Proofs.Ytkndelbnjhkbcaa
