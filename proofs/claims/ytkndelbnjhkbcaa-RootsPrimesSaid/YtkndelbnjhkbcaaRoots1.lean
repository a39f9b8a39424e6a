/-
  Contracts: a number's power, a number shifted, in two words.
-/
import Derived.Test.YtkndelbnjhkbcaaFacts
import Derived.Test.YtkndelbnjhkbcaaRootsPlain
import Derived.Test.YtkndelbnjhkbcaaShelf
namespace Go.Proofs.Ytkndelbnjhkbcaa
open Go.RowKit
set_option linter.unusedVariables false

theorem mul64_as (x y H L : Nat) (hx : x < 18446744073709551616) (hy : y < 18446744073709551616) (h1 : H = x * y / 18446744073709551616) (h2 : L = x * y % 18446744073709551616) (w : World) :
    Calls Try.prog 59 #[.int .u64 x, .int .u64 y] w fun e w' => e = .returned (.tuple #[.int .u64 (H : Int), .int .u64 (L : Int)]) ∧ w = w' := by
  subst h1 h2
  exact (Try.bits_Mul64 x y hx hy w).mono fun _ _ ⟨he, hw⟩ => ⟨he, hw.symm⟩

set_option maxHeartbeats 400000 in
theorem roots_power2 (x H L : Nat) (w : World) (hx : x < 137438953472) (h1 : H = x ^ 2 / 18446744073709551616) (h2 : L = x ^ 2 % 18446744073709551616) :
    Calls Try.prog 52 #[.int .u64 x, .int .i64 2] w fun e w' => e = .returned (.tuple #[.int .u64 (H : Int), .int .u64 (L : Int)]) ∧ w = w' := by
  rw [Nat.pow_two] at h1 h2
  have H1 := Lib.hid h1; clear h1
  have H2 := Lib.hid h2; clear h2
  go_enter Try.func52, Try.ntmps52
  go_wp2_with fail
  refine (mul64_as x x H L (by omega) (by omega) H1.out H2.out _).mono ?_
  rintro e w' ⟨rfl, rfl⟩
  go_wp2
  go_ret2
  exact ⟨rfl, rfl⟩

set_option maxHeartbeats 400000 in
theorem roots_power3 (x H L : Nat) (w : World) (hx : x < 137438953472) (h1 : H = x ^ 3 / 18446744073709551616) (h2 : L = x ^ 3 % 18446744073709551616) :
    Calls Try.prog 52 #[.int .u64 x, .int .i64 3] w fun e w' => e = .returned (.tuple #[.int .u64 (H : Int), .int .u64 (L : Int)]) ∧ w = w' := by
  rw [pow_three_hi] at h1
  rw [pow_three_lo] at h2
  have hq : x * x < 18889465931478580854784 := by
    have : x * x ≤ 137438953471 * 137438953471 := Nat.mul_le_mul (by omega) (by omega)
    omega
  obtain ⟨A, hA⟩ : ∃ A, A = x * x / 18446744073709551616 := ⟨_, rfl⟩
  obtain ⟨B, hB⟩ : ∃ B, B = x * x % 18446744073709551616 := ⟨_, rfl⟩
  rw [← hA, ← hB] at h1
  rw [← hB] at h2
  have hA1 : A ≤ 1024 := by omega
  have hB1 : B < 18446744073709551616 := by omega
  have HA := Lib.hid hA; clear hA
  have HB := Lib.hid hB; clear hB
  clear hq
  obtain ⟨D, hD⟩ : ∃ D, D = B * x / 18446744073709551616 := ⟨_, rfl⟩
  rw [← hD] at h1
  have h3 : A * x ≤ 1024 * 137438953471 := Nat.mul_le_mul hA1 (by omega)
  have h4 : D ≤ x := by rw [hD]; exact Nat.div_le_of_le_mul (Nat.mul_le_mul (by omega) (Nat.le_refl _))
  have h5 : (A : Int) * (x : Int) ≤ 140737488354304 := by have := Int.ofNat_le.2 h3; rw [Int.natCast_mul] at this; simpa using this
  have h6 : (0 : Int) ≤ (A : Int) * (x : Int) := Int.mul_nonneg (by omega) (by omega)
  have h7 : (A : Int) * (x : Int) + (D : Int) = (H : Int) := by rw [h1]; simp
  have H7 := Lib.hid h7; clear h7
  have H1 := Lib.hid h1; clear h1
  have H2 := Lib.hid h2; clear h2
  have HD := Lib.hid hD; clear hD h3
  go_enter Try.func52, Try.ntmps52
  go_wp2_with fail
  refine (mul64_as x x A B (by omega) (by omega) HA.out HB.out _).mono ?_
  rintro e w' ⟨rfl, rfl⟩
  go_wp2_with fail
  refine (mul64_as B x D L (by omega) (by omega) HD.out H2.out _).mono ?_
  rintro e w' ⟨rfl, rfl⟩
  go_wp2
  go_ret2
  exact ⟨ret2 (int_eq H7.out) rfl, rfl⟩

set_option maxHeartbeats 400000 in
theorem roots_shifted_hi (n s H L : Nat) (w : World) (hn : n ≤ 1000) (hs : s ≤ 96) (h : 64 ≤ s) (h1 : H = n * 2 ^ s / 18446744073709551616) (h2 : L = n * 2 ^ s % 18446744073709551616) :
    Calls Try.prog 53 #[.int .u64 n, .int .i64 s] w fun e w' => e = .returned (.tuple #[.int .u64 (H : Int), .int .u64 (L : Int)]) ∧ Qt w w' := by
  rw [(shift_hi h).1] at h1
  rw [(shift_hi h).2] at h2
  have hb : n * 2 ^ (s - 64) ≤ 1000 * 2 ^ 32 := Nat.mul_le_mul hn (Nat.pow_le_pow_right (by omega) (by omega))
  have H0 := Lib.hid hb; clear hb
  have H1 := Lib.hid h1; clear h1
  have H2 := Lib.hid h2; clear h2
  go_enter Try.func53, Try.ntmps53
  go_wp2
  go_ret2
  refine ⟨ret2 (int_eq ?_) (int_eq ?_), Qt.refl _⟩
  · have h3 := H0.out
    rw [H1.out, IntKind.wrap_u64]
    have : (n : Int) * 2 ^ (s - 64) = ((n * 2 ^ (s - 64) : Nat) : Int) := by simp
    rw [this]; omega
  · rw [H2.out]; rfl
set_option maxHeartbeats 400000 in
theorem roots_shifted_lo (n s H L : Nat) (w : World) (hn : n ≤ 1000) (h : s < 64) (h1 : H = n * 2 ^ s / 18446744073709551616) (h2 : L = n * 2 ^ s % 18446744073709551616) :
    Calls Try.prog 53 #[.int .u64 n, .int .i64 s] w fun e w' => e = .returned (.tuple #[.int .u64 (H : Int), .int .u64 (L : Int)]) ∧ Qt w w' := by
  rw [shift_lo h] at h1
  have H1 := Lib.hid h1; clear h1
  have H2 := Lib.hid h2; clear h2
  go_enter Try.func53, Try.ntmps53
  go_wp2
  go_quiet (fail)
  go_wp2
  go_ret2
  refine ⟨ret2 (int_eq ?_) (int_eq ?_), by first | exact Qt.d _ _ | exact Qt.dd _ _ _⟩
  · rw [H1.out]; simp
  · have : (n : Int) * 2 ^ s = ((n * 2 ^ s : Nat) : Int) := by simp
    rw [H2.out, IntKind.wrap_u64, this]; omega
theorem roots_shifted (n s H L : Nat) (w : World) (hn : n ≤ 1000) (hs : s ≤ 96) (h1 : H = n * 2 ^ s / 18446744073709551616) (h2 : L = n * 2 ^ s % 18446744073709551616) :
    Calls Try.prog 53 #[.int .u64 n, .int .i64 s] w fun e w' => e = .returned (.tuple #[.int .u64 (H : Int), .int .u64 (L : Int)]) ∧ Qt w w' := by
  rcases Nat.lt_or_ge s 64 with h | h
  · exact roots_shifted_lo n s H L w hn h h1 h2
  · exact roots_shifted_hi n s H L w hn hs h h1 h2
theorem roots_power (x d H L : Nat) (w : World) (hx : x < 137438953472) (hd : d = 2 ∨ d = 3) (h1 : H = x ^ d / 18446744073709551616) (h2 : L = x ^ d % 18446744073709551616) :
    Calls Try.prog 52 #[.int .u64 x, .int .i64 d] w fun e w' => e = .returned (.tuple #[.int .u64 (H : Int), .int .u64 (L : Int)]) ∧ w = w' := by
  rcases hd with rfl | rfl
  · exact roots_power2 x H L w hx h1 h2
  · exact roots_power3 x H L w hx h1 h2

set_option maxHeartbeats 400000 in
theorem roots_above (x n d s : Nat) (b : Bool) (w : World) (hx : x < 137438953472) (hn : n ≤ 1000) (hd : d = 2 ∨ d = 3) (hs : s ≤ 96) (hb : b = decide (n * 2 ^ s < x ^ d)) :
    Calls Try.prog 38 #[.int .u64 x, .int .i64 n, .int .i64 d, .int .i64 s] w fun e w' => e = .returned (.bool b) ∧ Qt w w' := by
  rw [two_words] at hb
  obtain ⟨P, hP⟩ : ∃ P, P = x ^ d / 18446744073709551616 := ⟨_, rfl⟩
  obtain ⟨Q, hQ⟩ : ∃ Q, Q = x ^ d % 18446744073709551616 := ⟨_, rfl⟩
  obtain ⟨R, hR⟩ : ∃ R, R = n * 2 ^ s / 18446744073709551616 := ⟨_, rfl⟩
  obtain ⟨S, hS⟩ : ∃ S, S = n * 2 ^ s % 18446744073709551616 := ⟨_, rfl⟩
  rw [← hP, ← hQ, ← hR, ← hS] at hb
  have HP := Lib.hid hP; clear hP
  have HQ := Lib.hid hQ; clear hQ
  have HR := Lib.hid hR; clear hR
  have HS := Lib.hid hS; clear hS
  have HD := Lib.hid hd; clear hd
  by_cases hPR : P = R
  · subst hPR
    rw [if_pos rfl] at hb
    have HB := Lib.hid hb; clear hb
    go_enter Try.func38, Try.ntmps38
    go_wp2_with fail
    refine (roots_power x d P Q _ hx HD.out HP.out HQ.out).mono ?_
    rintro e w' ⟨rfl, rfl⟩
    go_wp2_with fail
    refine (roots_shifted n s P S _ hn hs HR.out HS.out).mono ?_
    rintro e w' ⟨rfl, hq⟩
    have Hq := Lib.hid hq; clear hq
    go_wp2
    go_ret
    exact ⟨ret_bool (by first | rw [HB.out]; done | (rw [HB.out, Bool.eq_iff_iff]; simp)), Hq.out⟩
  · rw [if_neg hPR] at hb
    have HB := Lib.hid hb; clear hb
    have hne : ((P : Int) != (R : Int)) = true := by simp; omega
    clear hPR
    go_enter Try.func38, Try.ntmps38
    go_wp2_with fail
    refine (roots_power x d P Q _ hx HD.out HP.out HQ.out).mono ?_
    rintro e w' ⟨rfl, rfl⟩
    go_wp2_with fail
    refine (roots_shifted n s R S _ hn hs HR.out HS.out).mono ?_
    rintro e w' ⟨rfl, hq⟩
    have Hq := Lib.hid hq; clear hq
    go_wp2
    go_ret
    exact ⟨ret_bool (by first | rw [HB.out]; done | (rw [HB.out, Bool.eq_iff_iff]; simp)), Hq.out⟩

set_option maxHeartbeats 400000 in
theorem roots_may_yes (n d b : Nat) (w : World) (h : MayRoot n d b) :
    Calls Try.prog 37 #[.int .i64 n, .int .i64 d, .int .i64 b] w fun e w' => e = .returned (.bool true) ∧ w = w' := by
  obtain ⟨h1, h2, h3⟩ := h
  rcases h2 with rfl | rfl
  all_goals
    go_enter Try.func37, Try.ntmps37
    go_wp2
    go_ret
    first | exact ⟨rfl, rfl⟩ | exact ⟨ret_bool (by simp; omega), rfl⟩
/-- May there be such a root, as whole numbers? -/
def MayRootI (n d b : Int) : Prop := 0 ≤ n ∧ n ≤ 1000 ∧ (d = 2 ∨ d = 3) ∧ 0 ≤ b ∧ b ≤ 32
theorem MayRootI.nat {n d b : Int} (h : MayRootI n d b) : ∃ N D B : Nat, n = N ∧ d = D ∧ b = B ∧ MayRoot N D B := by
  obtain ⟨h1, h2, h3, h4, h5⟩ := h
  exact ⟨n.toNat, d.toNat, b.toNat, by omega, by omega, by omega, by omega, by omega, by omega⟩
set_option maxHeartbeats 1000000 in
theorem roots_may_no (n d b : Int) (w : World) (h : ¬ MayRootI n d b) :
    Calls Try.prog 37 #[.int .i64 n, .int .i64 d, .int .i64 b] w fun e w' => e = .returned (.bool false) ∧ w = w' := by
  unfold MayRootI at h
  by_cases h1 : 0 ≤ n
  · by_cases h2 : n ≤ 1000
    · by_cases h3 : d = 2 ∨ d = 3
      · by_cases h4 : 0 ≤ b
        · have h5 : 32 < b := by omega
          clear h
          rcases h3 with rfl | rfl
          all_goals
            go_enter Try.func37, Try.ntmps37
            go_wp2
            go_ret
            first | exact ⟨rfl, rfl⟩ | exact ⟨ret_bool (by simp; omega), rfl⟩
        · clear h
          rcases h3 with rfl | rfl
          all_goals
            go_enter Try.func37, Try.ntmps37
            go_wp2
            go_ret
            first | exact ⟨rfl, rfl⟩ | exact ⟨ret_bool (by simp; omega), rfl⟩
      · have a1 : (d == 2) = false := by simp; omega
        have a2 : (d == 3) = false := by simp; omega
        clear h h3
        go_enter Try.func37, Try.ntmps37
        go_wp2
        go_ret
        first | exact ⟨rfl, rfl⟩ | exact ⟨ret_bool (by simp; omega), rfl⟩
    · clear h
      go_enter Try.func37, Try.ntmps37
      go_wp2
      go_ret
      first | exact ⟨rfl, rfl⟩ | exact ⟨ret_bool (by simp; omega), rfl⟩
  · clear h
    go_enter Try.func37, Try.ntmps37
    go_wp2
    go_ret
    first | exact ⟨rfl, rfl⟩ | exact ⟨ret_bool (by simp; omega), rfl⟩
end Go.Proofs.Ytkndelbnjhkbcaa
