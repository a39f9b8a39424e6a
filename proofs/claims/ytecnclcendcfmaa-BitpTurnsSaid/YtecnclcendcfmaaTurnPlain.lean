/-
  Plain facts on words turned. Nothing of the program.
-/
import Derived.Test.YtecnclcendcfmaaBitp1
namespace Go.Proofs.Ytecnclcendcfmaa
set_option maxRecDepth 100000

theorem turnW_bit {x W l i : Nat} (hl : l ≤ W) : (turnW x W l).testBit i = if i < l then x.testBit (i + W - l) else if i < W then x.testBit (i - l) else false := by
  have h2 := (turn_parts (x := x) hl).2
  unfold turnW
  rw [Nat.mul_comm, Nat.testBit_two_pow_mul_add _ h2]
  by_cases h : i < l
  · rw [if_pos h, if_pos h, Nat.testBit_div_two_pow, Nat.testBit_mod_two_pow, show i + W - l = i + (W - l) by omega, decide_eq_true (by omega : i + (W - l) < W), Bool.true_and]
  · rw [if_neg h, if_neg h, Nat.testBit_mod_two_pow]
    by_cases h' : i < W
    · rw [if_pos h', decide_eq_true (by omega : i - l < W - l), Bool.true_and]
    · rw [if_neg h', decide_eq_false (by omega : ¬ i - l < W - l), Bool.false_and]
theorem turn_turn {x W a b c : Nat} (ha : a < W) (hb : b < W) (hc : c = (a + b) % W) : turnW (turnW x W a) W b = turnW x W c := by
  have hcW : c < W := by rw [hc]; exact Nat.mod_lt _ (by omega)
  have hc' : c = a + b ∨ c + W = a + b := by
    rcases Nat.lt_or_ge (a + b) W with h | h
    · left; rw [hc, Nat.mod_eq_of_lt h]
    · right; rw [hc, Nat.mod_eq_sub_mod h, Nat.mod_eq_of_lt (by omega)]; omega
  apply Nat.eq_of_testBit_eq
  intro i
  rw [turnW_bit (by omega), turnW_bit (by omega), turnW_bit (by omega), turnW_bit (by omega)]
  clear hc
  by_cases h1 : i < b <;> by_cases h2 : i < c <;> by_cases h3 : i < W <;> simp only [h1, h2, h3, if_true, if_false]
  all_goals
    (repeat' split)
    all_goals first | (congr 1; omega) | omega | rfl
/-- Both parts make the word. -/
theorem parts_join (x W k : Nat) (hk : k ≤ W) : x % 2 ^ W / 2 ^ k * 2 ^ k + x % 2 ^ k = x % 2 ^ W := by
  have := Nat.div_add_mod (x % 2 ^ W) (2 ^ k)
  rw [Nat.mod_mod_of_dvd _ (Nat.pow_dvd_pow 2 hk)] at this
  rw [Nat.mul_comm]; exact this
end Go.Proofs.Ytecnclcendcfmaa
