/-
  Contracts: bits of words: widths, lowest bits, a bit, both parts.
-/
import Derived.Test.YtecnclcendcfmaaVals
import Derived.Test.YtecnclcendcfmaaNums
import Derived.Test.YtecnclcendcfmaaBits
import Derived.Test.YtecnclcendcfmaaShelf
import Derived.Outline
namespace Go.Proofs.Ytecnclcendcfmaa
set_option maxRecDepth 100000
open Go.RowKit
set_option linter.unusedVariables false

def MayW (n : Int) : Prop := 1 ≤ n ∧ n ≤ 64
theorem ret3 {a b c d e f : Value} (h : a = b) (k : c = d) (l : e = f) : Ending.returned (.tuple #[a, c, e]) = .returned (.tuple #[b, d, f]) := by rw [h, k, l]
theorem div_cast (x k : Nat) : (x : Int) / 2 ^ k = ((x / 2 ^ k : Nat) : Int) := by simp
theorem bitp_may_yes (n : Int) (w : World) (h1 : 1 ≤ n) (h2 : n ≤ 64) :
    Calls Try.prog 23 #[.int .i64 n] w fun e w' => e = .returned (.bool true) ∧ w = w' := by
  go_enter Try.func23, Try.ntmps23
  go_wp2
  go_ret
  first | exact ⟨rfl, rfl⟩ | exact ⟨ret_bool (by simp; omega), rfl⟩
theorem bitp_may_no (n : Int) (w : World) (h : ¬ MayW n) :
    Calls Try.prog 23 #[.int .i64 n] w fun e w' => e = .returned (.bool false) ∧ w = w' := by
  unfold MayW at h
  by_cases h1 : 1 ≤ n
  all_goals
    go_enter Try.func23, Try.ntmps23
    go_wp2
    go_ret
    first | exact ⟨rfl, rfl⟩ | exact ⟨ret_bool (by simp; omega), rfl⟩
theorem bitp_low (x m : Nat) (w : World) (hx : x < 18446744073709551616) (hm : m ≤ 64) :
    Calls Try.prog 28 #[.int .u64 x, .int .i64 m] w fun e w' => e = .returned (.int .u64 (x % 2 ^ m : Nat)) ∧ w = w' := by
  go_enter Try.func28, Try.ntmps28
  go_wp2
  go_ret
  exact ⟨ret_int (u64_mask x m hx hm), rfl⟩
theorem bitp_bit_yes (x W i : Nat) (w : World) (hx : x < 18446744073709551616) (h1 : 1 ≤ i) (h2 : i ≤ W) (h3 : W ≤ 64) :
    Calls Try.prog 26 #[.int .u64 x, .int .i64 W, .int .i64 i] w fun e w' => e = .returned (.int .u64 (x / 2 ^ (W - i) % 2 : Nat)) ∧ w = w' := by
  go_enter Try.func26, Try.ntmps26
  go_wp2_with fail
  refine (bitp_may_yes W _ (by omega) (by omega)).mono ?_
  rintro e w' ⟨rfl, rfl⟩
  go_wp2
  go_ret
  refine ⟨ret_int ?_, rfl⟩
  rw [div_cast]
  exact u64_and1 _ (Nat.lt_of_le_of_lt (Nat.div_le_self _ _) hx)
theorem bitp_bit_no (x W i : Int) (w : World) (h : ¬ (MayW W ∧ 1 ≤ i ∧ i ≤ W)) :
    Calls Try.prog 26 #[.int .u64 x, .int .i64 W, .int .i64 i] w fun e w' => e = .returned (.int .u64 0) ∧ w = w' := by
  by_cases hW : MayW W
  · have hW' := hW
    obtain ⟨g1, g2⟩ := hW
    by_cases h1 : 1 ≤ i
    · have h2 : W < i := by
        rcases Int.lt_or_le W i with h2 | h2
        · exact h2
        · exact absurd ⟨hW', h1, h2⟩ h
      clear h hW'
      go_enter Try.func26, Try.ntmps26
      go_wp2_with fail
      refine (bitp_may_yes W _ g1 g2).mono ?_
      rintro e w' ⟨rfl, rfl⟩
      go_wp2
      go_ret
      exact ⟨rfl, rfl⟩
    · clear h hW'
      go_enter Try.func26, Try.ntmps26
      go_wp2_with fail
      refine (bitp_may_yes W _ g1 g2).mono ?_
      rintro e w' ⟨rfl, rfl⟩
      go_wp2
      go_ret
      exact ⟨rfl, rfl⟩
  · clear h
    have HW := Lib.hid hW; clear hW
    go_enter Try.func26, Try.ntmps26
    go_wp2_with fail
    refine (bitp_may_no W _ HW.out).mono ?_
    rintro e w' ⟨rfl, rfl⟩
    go_wp2
    go_ret
    exact ⟨rfl, rfl⟩
set_option maxHeartbeats 400000 in
theorem bitp_split_yes (x W t : Nat) (w : World) (hx : x < 18446744073709551616) (h1 : 1 ≤ W) (h2 : W ≤ 64) (h3 : t ≤ W) :
    Calls Try.prog 9 #[.int .u64 x, .int .i64 W, .int .i64 t] w fun e w' => e = .returned (.tuple #[.int .u64 (x % 2 ^ W / 2 ^ (W - t) : Nat), .int .u64 (x % 2 ^ (W - t) : Nat), .int .i64 0]) ∧ Qt w w' := by
  obtain ⟨y, hy⟩ : ∃ y, y = x % 2 ^ W := ⟨_, rfl⟩
  have hyl : y < 18446744073709551616 := by
    have : x % 2 ^ W ≤ x := Nat.mod_le _ _
    omega
  have clow := fun w => bitp_low x W w hx h2
  rw [← hy] at clow
  have clow2 := fun w => bitp_low y (W - t) w hyl (by omega)
  have hcast : ((W - t : Nat) : Int) = (W : Int) - (t : Int) := by omega
  rw [hcast] at clow2
  obtain ⟨z, hz⟩ : ∃ z, z = y % 2 ^ (W - t) := ⟨_, rfl⟩
  rw [← hz] at clow2
  have Hy := Lib.hid hy; clear hy
  have Hz := Lib.hid hz; clear hz
  clear hcast
  go_enter Try.func9, Try.ntmps9
  go_wp2_with fail
  refine (bitp_may_yes W _ (by omega) (by omega)).mono ?_
  rintro e w' ⟨rfl, rfl⟩
  go_wp2_with fail
  refine (clow _).mono ?_
  rintro e w' ⟨rfl, rfl⟩
  go_wp2
  go_quiet ((go_at_call 28; exact quiet_left (clow2 _)))
  go_wp2
  go_ret3
  refine ⟨ret3 (int_eq ?_) (int_eq ?_) rfl, by first | exact Qt.d _ _ | exact Qt.dd _ _ _⟩
  · rw [div_cast, Hy.out]
  · rw [Hz.out, Hy.out, Nat.mod_mod_of_dvd]
    exact Nat.pow_dvd_pow 2 (Nat.sub_le _ _)
theorem bitp_split_no (x W t : Int) (w : World) (h : ¬ (MayW W ∧ 0 ≤ t ∧ t ≤ W)) :
    Calls Try.prog 9 #[.int .u64 x, .int .i64 W, .int .i64 t] w fun e w' => e = .returned (.tuple #[.int .u64 0, .int .u64 0, .int .i64 1]) ∧ w = w' := by
  by_cases hW : MayW W
  · have hW' := hW
    obtain ⟨g1, g2⟩ := hW
    by_cases h1 : 0 ≤ t
    · have h2 : W < t := by
        rcases Int.lt_or_le W t with h2 | h2
        · exact h2
        · exact absurd ⟨hW', h1, h2⟩ h
      clear h hW'
      go_enter Try.func9, Try.ntmps9
      go_wp2_with fail
      refine (bitp_may_yes W _ g1 g2).mono ?_
      rintro e w' ⟨rfl, rfl⟩
      go_wp2
      go_ret3
      exact ⟨rfl, rfl⟩
    · clear h hW'
      go_enter Try.func9, Try.ntmps9
      go_wp2_with fail
      refine (bitp_may_yes W _ g1 g2).mono ?_
      rintro e w' ⟨rfl, rfl⟩
      go_wp2
      go_ret3
      exact ⟨rfl, rfl⟩
  · clear h
    have HW := Lib.hid hW; clear hW
    go_enter Try.func9, Try.ntmps9
    go_wp2_with fail
    refine (bitp_may_no W _ HW.out).mono ?_
    rintro e w' ⟨rfl, rfl⟩
    go_wp2
    go_ret3
    exact ⟨rfl, rfl⟩

/-- A word turned left by l. -/
def turnW (x W l : Nat) : Nat := x % 2 ^ (W - l) * 2 ^ l + x % 2 ^ W / 2 ^ (W - l)
theorem turn_parts {x W l : Nat} (hl : l ≤ W) : x % 2 ^ (W - l) * 2 ^ l < 2 ^ W ∧ x % 2 ^ W / 2 ^ (W - l) < 2 ^ l := by
  have hp : 0 < 2 ^ (W - l) := Nat.pos_of_ne_zero (by simp)
  have hq : 0 < 2 ^ l := Nat.pos_of_ne_zero (by simp)
  have e : 2 ^ (W - l) * 2 ^ l = 2 ^ W := by rw [← Nat.pow_add, show W - l + l = W by omega]
  refine ⟨?_, ?_⟩
  · rw [← e]; exact Nat.mul_lt_mul_of_pos_right (Nat.mod_lt _ hp) hq
  · rw [Nat.div_lt_iff_lt_mul hp, Nat.mul_comm, e]; exact Nat.mod_lt _ (Nat.pos_of_ne_zero (by simp))
theorem tmod_fix {n W : Int} (hW : 0 < W) : -W < n.tmod W ∧ n.tmod W < W ∧ (n.tmod W < 0 → n.tmod W + W = n % W) ∧ (0 ≤ n.tmod W → n.tmod W = n % W) := by
  have h1 := Int.tmod_lt_of_pos n hW
  have h2 : -W < n.tmod W := by
    have := Int.lt_tmod_of_pos n hW
    exact this
  have e : n % W = (n.tmod W) % W := by
    have := Int.tmod_add_mul_tdiv n W
    conv => lhs; rw [← this]
    rw [Int.add_mul_emod_self_left]
  refine ⟨h2, h1, fun h => ?_, fun h => ?_⟩
  · rw [e, ← Int.add_emod_right]
    exact (Int.emod_eq_of_lt (by omega) (by omega)).symm
  · rw [e]
    exact (Int.emod_eq_of_lt h h1).symm
set_option maxHeartbeats 1000000 in
theorem bitp_turn_yes (x W : Nat) (n : Int) (w : World) (hx : x < 18446744073709551616) (h1 : 1 ≤ W) (h2 : W ≤ 64) :
    Calls Try.prog 7 #[.int .u64 x, .int .i64 W, .int .i64 n] w fun e w' => e = .returned (.tuple #[.int .u64 (turnW x W (n % (W : Int)).toNat : Nat), .int .i64 0]) ∧ Qt w w' := by
  obtain ⟨g1, g2, g3, g4⟩ := tmod_fix (n := n) (W := (W : Int)) (by omega)
  obtain ⟨r, hr⟩ : ∃ r, r = n.tmod (W : Int) := ⟨_, rfl⟩
  rw [← hr] at g1 g2 g3 g4
  have hr' : n.tmod (W : Int) = r := hr.symm
  clear hr
  obtain ⟨l, hl⟩ : ∃ l, l = (n % (W : Int)).toNat := ⟨_, rfl⟩
  rw [← hl]
  have hlW : l ≤ W := by
    have := Int.emod_lt_of_pos n (by omega : (0 : Int) < (W : Int))
    omega
  have hn0 := Int.emod_nonneg n (by omega : (W : Int) ≠ 0)
  have hsp := fun w => bitp_split_yes x W l w hx h1 h2 hlW
  obtain ⟨p, hp⟩ : ∃ p, p = x % 2 ^ W / 2 ^ (W - l) := ⟨_, rfl⟩
  obtain ⟨q, hq⟩ : ∃ q, q = x % 2 ^ (W - l) := ⟨_, rfl⟩
  obtain ⟨b1, b2⟩ := turn_parts (x := x) hlW
  have hpw := pow2_le (k := W) (m := 64) (by omega)
  have ht : turnW x W l = q * 2 ^ l + p := by rw [hp, hq]; rfl
  rw [← hp] at b2
  rw [← hq] at b1
  simp only [← hp, ← hq] at hsp
  have hor : bits .or .u64 (IntKind.u64.wrap ((q : Int) * 2 ^ l)) (p : Int) = ((turnW x W l : Nat) : Int) := by
    have e1 : (q : Int) * 2 ^ l = ((q * 2 ^ l : Nat) : Int) := by simp
    obtain ⟨s, hs⟩ : ∃ s, s = q * 2 ^ l := ⟨_, rfl⟩
    rw [← hs] at b1 ht e1
    have e2 : IntKind.u64.wrap ((s : Nat) : Int) = ((s : Nat) : Int) := by rw [IntKind.wrap_u64]; omega
    have hlw := pow2_le hlW
    rw [e1, e2, u64_or_n _ _ (by omega) (by omega), ht, or_parts (by rw [hs]; exact Nat.mul_mod_left _ _) b2]
  have Hor := Lib.hid hor; clear hor
  clear b1 b2 hp hq hpw ht
  by_cases hneg : r < 0
  · have e := g3 hneg
    have hrl : r + (W : Int) = (l : Int) := by omega
    clear e g3 g4 hl hn0
    go_enter Try.func7, Try.ntmps7
    go_wp2_with fail
    refine (bitp_may_yes W _ (by omega) (by omega)).mono ?_
    rintro e w' ⟨rfl, rfl⟩
    go_wp2_with fail
    refine (hsp _).mono ?_
    rintro e w' ⟨rfl, hqt⟩
    have Hqt := Lib.hid hqt; clear hqt
    go_wp2
    go_ret2
    exact ⟨ret2 (int_eq Hor.out) rfl, Hqt.out⟩
  · have e := g4 (by omega)
    have hrl : r = (l : Int) := by omega
    subst hrl
    clear e g3 g4 hl hn0
    go_enter Try.func7, Try.ntmps7
    go_wp2_with fail
    refine (bitp_may_yes W _ (by omega) (by omega)).mono ?_
    rintro e w' ⟨rfl, rfl⟩
    go_wp2_with fail
    refine (hsp _).mono ?_
    rintro e w' ⟨rfl, hqt⟩
    have Hqt := Lib.hid hqt; clear hqt
    go_wp2
    go_ret2
    exact ⟨ret2 (int_eq Hor.out) rfl, Hqt.out⟩
theorem bitp_turn_no (x W n : Int) (w : World) (h : ¬ MayW W) :
    Calls Try.prog 7 #[.int .u64 x, .int .i64 W, .int .i64 n] w fun e w' => e = .returned (.tuple #[.int .u64 0, .int .i64 1]) ∧ w = w' := by
  have HW := Lib.hid h; clear h
  go_enter Try.func7, Try.ntmps7
  go_wp2_with fail
  refine (bitp_may_no W _ HW.out).mono ?_
  rintro e w' ⟨rfl, rfl⟩
  go_wp2
  go_ret2
  exact ⟨rfl, rfl⟩
end Go.Proofs.Ytecnclcendcfmaa
