/-
  Plain facts on primes. Nothing of the program.
-/
import Derived.Test.YtkndelbnjhkbcaaPlain01
namespace Go.Proofs.Ytkndelbnjhkbcaa

/-- Does none of so many numbers, from k on, divide n? -/
def freeOf (n : Nat) : Nat → Nat → Bool
  | 0, _ => true
  | f + 1, k => n % k != 0 && freeOf n f (k + 1)
theorem freeOf_true (n : Nat) : ∀ f k, freeOf n f k = true ↔ ∀ j, k ≤ j → j < k + f → n % j ≠ 0
  | 0, k => by simp [freeOf]; intro j h1 h2; omega
  | f + 1, k => by
    rw [freeOf, Bool.and_eq_true, freeOf_true n f (k + 1)]
    constructor
    · rintro ⟨h1, h2⟩ j h3 h4
      rcases Nat.eq_or_lt_of_le h3 with rfl | h5
      · simpa using h1
      · exact h2 j (by omega) (by omega)
    · intro h
      exact ⟨by simpa using h k (Nat.le_refl _) (by omega), fun j h1 h2 => h j (by omega) (by omega)⟩
def primeB (n : Nat) : Bool := freeOf n (n - 2) 2
/-- The primes below n, rising. -/
def primesTo (n : Nat) : List Nat := (List.range n).filter fun k => decide (2 ≤ k) && primeB k
/-- The first primes below 1000. -/
def firstPrimes (m : Nat) : List Nat := (primesTo 1000).take m

theorem primesTo_yes {n : Nat} (h : 2 ≤ n) (hp : primeB n = true) : primesTo (n + 1) = primesTo n ++ [n] := by
  unfold primesTo
  rw [List.range_succ, List.filter_append]
  simp [h, hp]
theorem primesTo_no {n : Nat} (hp : primeB n = false) : primesTo (n + 1) = primesTo n := by
  unfold primesTo
  rw [List.range_succ, List.filter_append]
  simp [hp]
theorem mem_primesTo {n p : Nat} : p ∈ primesTo n ↔ p < n ∧ 2 ≤ p ∧ primeB p = true := by
  unfold primesTo
  simp [List.mem_filter]
theorem primeB_true {n : Nat} : primeB n = true ↔ ∀ k, 2 ≤ k → k < n → n % k ≠ 0 := by
  unfold primeB
  rw [freeOf_true]
  constructor
  · intro h k h2 hk; exact h k h2 (by omega)
  · intro h k h2 hk; exact h k h2 (by omega)
theorem primeB_false {n : Nat} (h : primeB n = false) : ∃ k, 2 ≤ k ∧ k < n ∧ n % k = 0 := by
  by_cases hk : ∃ k, 2 ≤ k ∧ k < n ∧ n % k = 0
  · exact hk
  · have : primeB n = true := primeB_true.2 fun k h1 h2 h3 => hk ⟨k, h1, h2, h3⟩
    rw [h] at this; cases this
theorem has_prime : ∀ m n, n ≤ m → 2 ≤ n → ∃ p, 2 ≤ p ∧ p ≤ n ∧ primeB p = true ∧ n % p = 0
  | 0, n, h, h2 => by omega
  | m + 1, n, h, h2 => by
    cases hb : primeB n with
    | true => exact ⟨n, h2, Nat.le_refl _, hb, Nat.mod_self _⟩
    | false =>
      obtain ⟨k, k2, kn, hk⟩ := primeB_false hb
      obtain ⟨p, p2, pk, hp, hm⟩ := has_prime m k (by omega) k2
      exact ⟨p, p2, by omega, hp, Nat.mod_eq_zero_of_dvd (Nat.dvd_trans (Nat.dvd_of_mod_eq_zero hm) (Nat.dvd_of_mod_eq_zero hk))⟩
theorem met_prime {n : Nat} (h : primeB n = false) : ∃ p ∈ primesTo n, n % p = 0 := by
  obtain ⟨k, k2, kn, hk⟩ := primeB_false h
  obtain ⟨p, p2, pk, hp, hm⟩ := has_prime k k (Nat.le_refl _) k2
  exact ⟨p, mem_primesTo.2 ⟨by omega, p2, hp⟩, Nat.mod_eq_zero_of_dvd (Nat.dvd_trans (Nat.dvd_of_mod_eq_zero hm) (Nat.dvd_of_mod_eq_zero hk))⟩
theorem primeB_of {n : Nat} (h : ∀ i p, i < (primesTo n).length → (primesTo n)[i]? = some p → n % p ≠ 0) : primeB n = true := by
  cases hb : primeB n with
  | true => rfl
  | false =>
    obtain ⟨p, hp, hm⟩ := met_prime hb
    obtain ⟨i, hi, he⟩ := List.mem_iff_getElem.1 hp
    exact absurd hm (h i p hi (by rw [List.getElem?_eq_getElem hi, he]))
theorem primeB_not {n p i : Nat} (h : (primesTo n)[i]? = some p) (hm : n % p = 0) : primeB n = false := by
  have hp := mem_primesTo.1 (List.mem_of_getElem? h)
  cases hb : primeB n with
  | false => rfl
  | true => exact absurd hm (primeB_true.1 hb p hp.2.1 hp.1)
theorem primesTo_prefix : ∀ k n, primesTo n <+: primesTo (n + k)
  | 0, n => List.prefix_rfl
  | k + 1, n => by
    refine (primesTo_prefix k n).trans ?_
    rcases Nat.lt_or_ge (n + k) 2 with h | h
    · have : primesTo (n + k) = [] := by
        rcases (by omega : n + k = 0 ∨ n + k = 1) with e | e <;> rw [e] <;> rfl
      rw [this]; exact List.nil_prefix
    · cases hb : primeB (n + k) with
      | true => rw [show n + (k + 1) = n + k + 1 by omega, primesTo_yes h hb]; exact List.prefix_append _ _
      | false => rw [show n + (k + 1) = n + k + 1 by omega, primesTo_no hb]; exact List.prefix_rfl
theorem primesTo_998 : (primesTo 998).length = 168 := by decide +kernel
theorem primesTo_1000 : (primesTo 1000).length = 168 := by
  rw [show 1000 = 998 + 1 + 1 from rfl, primesTo_no (by decide), primesTo_no (by decide), primesTo_998]
theorem primesTo_few {n m : Nat} (h : (primesTo n).length < m) (hm : m ≤ 168) : n < 998 := by
  rcases Nat.lt_or_ge n 998 with h' | h'
  · exact h'
  · have := (primesTo_prefix (n - 998) 998).length_le
    rw [show 998 + (n - 998) = n by omega, primesTo_998] at this
    omega
theorem primesTo_first {n m : Nat} (hn : n ≤ 1000) (h : (primesTo n).length = m) : primesTo n = firstPrimes m := by
  have := primesTo_prefix (1000 - n) n
  rw [show n + (1000 - n) = 1000 by omega] at this
  unfold firstPrimes
  rw [← h]
  exact List.prefix_iff_eq_take.1 this
theorem firstPrimes_length (m : Nat) : (firstPrimes m).length = min m 168 := by
  unfold firstPrimes; rw [List.length_take, primesTo_1000]
theorem firstPrimes_at {m k p : Nat} (h : (firstPrimes m)[k]? = some p) : 2 ≤ p ∧ p < 1000 ∧ primeB p = true := by
  have := List.mem_of_getElem? h
  have := mem_primesTo.1 (List.mem_of_mem_take this)
  exact ⟨this.2.1, this.1, this.2.2⟩
theorem primesTo_rising (n : Nat) : (primesTo n).Pairwise (· < ·) := List.Pairwise.filter _ List.pairwise_lt_range
theorem first_rise {m i j p q : Nat} (hp : (firstPrimes m)[i]? = some p) (hq : (firstPrimes m)[j]? = some q) (h : j < i) : q < p := by
  have hr : (firstPrimes m).Pairwise (· < ·) := (primesTo_rising 1000).sublist (List.take_sublist _ _)
  obtain ⟨h1, rfl⟩ := List.getElem?_eq_some_iff.1 hp
  obtain ⟨h2, rfl⟩ := List.getElem?_eq_some_iff.1 hq
  exact List.pairwise_iff_getElem.1 hr j i h2 h1 h
theorem first_ndiv {m i j p q : Nat} (hp : (firstPrimes m)[i]? = some p) (hq : (firstPrimes m)[j]? = some q) (h : j < i) : p % q ≠ 0 :=
  primeB_true.1 (firstPrimes_at hp).2.2 q (firstPrimes_at hq).1 (first_rise hp hq h)
theorem first_meets {m n last : Nat} (h2 : 2 ≤ n) (hl : (firstPrimes m)[(firstPrimes m).length - 1]? = some last) (hn : n ≤ last) : ∃ i p : Nat, (firstPrimes m)[i]? = some p ∧ n % p = 0 := by
  obtain ⟨p, p2, pn, hp, hm⟩ := has_prime n n (Nat.le_refl _) h2
  have hlt := (firstPrimes_at hl).2.1
  have hmem : p ∈ primesTo 1000 := mem_primesTo.2 ⟨by omega, p2, hp⟩
  obtain ⟨i, hi, he⟩ := List.mem_iff_getElem.1 hmem
  have hlen := (List.getElem?_eq_some_iff.1 hl).1
  have hlm : (firstPrimes m).length ≤ m := by rw [firstPrimes_length]; omega
  rcases Nat.lt_or_ge i (firstPrimes m).length with h | h
  · refine ⟨i, p, ?_, hm⟩
    unfold firstPrimes
    rw [List.getElem?_take, if_pos (by omega), List.getElem?_eq_getElem hi, he]
  · exfalso
    have hl' : (primesTo 1000)[(firstPrimes m).length - 1]? = some last := by
      have := hl
      conv at this => lhs; unfold firstPrimes
      rw [List.getElem?_take] at this
      split at this
      · exact this
      · cases this
    obtain ⟨g1, g2⟩ := List.getElem?_eq_some_iff.1 hl'
    have := List.pairwise_iff_getElem.1 (primesTo_rising 1000) ((firstPrimes m).length - 1) i g1 hi (by omega)
    rw [g2, he] at this
    omega
end Go.Proofs.Ytkndelbnjhkbcaa
