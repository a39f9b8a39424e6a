/-
  Bits, permutations and halves, as the program has them, on rows of bits.
-/
import Derived.Test.YtopfadmfbgnbhaaDoorQD1
import Derived.Test.YtopfadmfbgnbhaaDoorGDes
namespace Go.Proofs.YtopfadmfbgnbhaaDoor
set_option maxRecDepth 100000
open Go.RowKit
set_option linter.unusedVariables false
set_option linter.unusedSimpArgs false
set_option maxRecDepth 100000

variable {N : Nat}
theorem fdivN (a : Nat) (k : Nat) : Int.fdiv (a : Int) ((2 : Int) ^ k) = ((a / 2 ^ k : Nat) : Int) := by
  rw [Int.fdiv_eq_ediv_of_nonneg _ (Int.pow_nonneg (by decide))]
  have : ((2 : Int) ^ k) = ((2 ^ k : Nat) : Int) := by simp
  rw [this]; rfl
theorem getD_len_le {l : List Bool} (h : 1 ≤ l.length) : 1 ≤ l.length := h
theorem bit_ok (l : List Bool) (i : Int) (h1 : 1 ≤ i) (h2 : i ≤ (l.length : Int)) (hl : l.length ≤ 64) : bitp_Bit N (toW l : Int) (l.length : Int) i = some (((l.getD (i.toNat - 1) false).toNat : Nat) : Int) := by
  obtain ⟨k, rfl⟩ : ∃ k : Nat, i = k := ⟨i.toNat, by omega⟩
  have c1 : decide ((1 : Int) ≤ (l.length : Int)) = true := decide_eq_true (by omega)
  have c2 : decide ((l.length : Int) ≤ 64) = true := decide_eq_true (by omega)
  have c3 : decide ((k : Int) < 1) = false := decide_eq_false (by omega)
  have c4 : decide ((l.length : Int) < (k : Int)) = false := decide_eq_false (by omega)
  have hw : Go.IntKind.wrap .i64 ((l.length : Int) - (k : Int)) = ((l.length - k : Nat) : Int) := by rw [wrap64 (by omega) (by omega)]; omega
  have c5 : decide ((0 : Int) ≤ ((l.length - k : Nat) : Int)) = true := decide_eq_true (by omega)
  have hm : min ((l.length - k : Nat) : Int).toNat (Go.IntKind.bits .u64) = l.length - k := by
    show min _ 64 = _
    rw [Int.toNat_natCast]; omega
  have hb := toW_lt l
  have hp : 2 ^ l.length ≤ 2 ^ 64 := Nat.pow_le_pow_right (by decide) hl
  have hd : toW l / 2 ^ (l.length - k) < 18446744073709551616 := Nat.lt_of_le_of_lt (Nat.div_le_self _ _) (by omega)
  have e : bits .and .u64 (((toW l / 2 ^ (l.length - k) : Nat)) : Int) 1 = (((l.getD (k - 1) false).toNat : Nat) : Int) := by
    rw [show (1 : Int) = ((1 : Nat) : Int) from rfl, q64_and _ _ hd (by decide), Nat.and_one_is_mod, toW_bit l k (by omega) (by omega)]
  simp only [bitp_Bit, bitp_may, c1, c2, c3, c4, hw, c5, hm, fdivN, cond_true, cond_false, Option.bind_some, Bool.not_true]
  rw [e, Int.toNat_natCast]
theorem byM_snoc (t : List Int) (l : List Bool) (i : Nat) (h : i < t.length) : byM (t.take (i + 1)) l = byM (t.take i) l ++ [l.getD (t[i].toNat - 1) false] := by
  unfold byM
  rw [← List.take_append_getElem h, List.map_append]
  rfl
theorem permuted_ok (l : List Bool) (t : List Int) (hl : l.length ≤ 64) (h1 : 1 ≤ l.length) (ht : tabOK l.length t) (hn : t.length ≤ 64) (hN : 100 ≤ N) : des_permuted N (toW l : Int) (l.length : Int) t = some ((toW (byM t l) : Nat) : Int) := by
  have c1 : decide ((1 : Int) ≤ (l.length : Int)) = true := decide_eq_true (by omega)
  have c2 : decide ((l.length : Int) ≤ 64) = true := decide_eq_true (by omega)
  have c3 : decide ((64 : Int) < (t.length : Int)) = false := decide_eq_false (by omega)
  have e1 : bitp_Permute_L4_R N (((toW l : Int), ((l.length : Int), (t, (t, ((t.length : Int), ((0 : Int), ())))))), ()) = some (.inr (((toW l : Int), ((l.length : Int), (t, ()))), ())) := by
    unfold bitp_Permute_L4_R
    refine gl_run (fun i => (((toW l : Int), ((l.length : Int), (t, (t, ((t.length : Int), ((i : Int), ())))))), ())) t.length _ (fun X i hi => ?_) (fun X => ?_) N 0 (Nat.zero_le _) (by omega)
    · have d1 : decide ((i : Int) < (t.length : Int)) = true := decide_eq_true (by omega)
      have hi2 := ht t[i] (List.getElem_mem hi)
      have d2 : decide (t[i] < (1 : Int)) = false := decide_eq_false (by omega)
      have d3 : decide ((l.length : Int) < t[i]) = false := decide_eq_false (by omega)
      simp only [bitp_Permute_L4, d1, d2, d3, cond_true, cond_false, getI_lt t i hi, Option.bind_some, wrap64 (show -9223372036854775808 ≤ (i : Int) + 1 by omega) (show (i : Int) + 1 < 9223372036854775808 by omega), Int.natCast_add, Int.natCast_one]
    · have d1 : decide ((t.length : Int) < (t.length : Int)) = false := decide_eq_false (by omega)
      simp only [bitp_Permute_L4, d1, cond_false]
  have e2 : bitp_Permute_10_bitp_named_L1_R N (((toW l : Int), ((l.length : Int), (t, ((t.length : Int), ((0 : Int), ()))))), ((0 : Int), ())) = some ((), ((toW (byM t l) : Int), ())) := by
    unfold bitp_Permute_10_bitp_named_L1_R
    have := gl_run (G := fun X c => bitp_Permute_10_bitp_named_L1 N X c.1.1 c.1.2.1 c.1.2.2.1 c.1.2.2.2.1 c.1.2.2.2.2.1 c.2.1) (fun i => (((toW l : Int), ((l.length : Int), (t, ((t.length : Int), ((i : Int), ()))))), ((toW (byM (t.take i) l) : Int), ()))) t.length ((), ((toW (byM t l) : Int), ())) (fun X i hi => ?_) (fun X => ?_) N 0 (Nat.zero_le _) (by omega)
    · exact this
    · have d1 : decide ((i : Int) < (t.length : Int)) = true := decide_eq_true (by omega)
      have hi2 := ht t[i] (List.getElem_mem hi)
      have hb := bit_ok (N := N) l t[i] hi2.1 hi2.2 hl
      have hor := or_words (byM (t.take i) l) [l.getD (t[i].toNat - 1) false] (by rw [byM_len, List.length_take]; simp; omega)
      rw [toW_one] at hor
      have hpw : (2 : Int) ^ (min (Int.toNat (1 : Int)) (Go.IntKind.bits .u64)) = ((2 ^ [l.getD (t[i].toNat - 1) false].length : Nat) : Int) := rfl
      simp only [bitp_Permute_10_bitp_named_L1, d1, cond_true, getI_lt t i hi, Option.bind_some, hb, wrap64 (show -9223372036854775808 ≤ (i : Int) + 1 by omega) (show (i : Int) + 1 < 9223372036854775808 by omega), Int.natCast_add, Int.natCast_one]
      rw [hpw, hor, byM_snoc t l i hi]
    · have d1 : decide ((t.length : Int) < (t.length : Int)) = false := decide_eq_false (by omega)
      simp only [bitp_Permute_10_bitp_named_L1, d1, cond_false, List.take_length]
  simp only [des_permuted, bitp_Permute, bitp_may, c1, c2, c3, cond_true, cond_false, Option.bind_some, Bool.not_true]
  rw [e1]
  simp only [Option.bind_some, Sum.elim_inr]
  rw [e2]
  rfl
/-! ### Halves, turned -/
theorem low_ok (l : List Bool) (k : Nat) (hk : k ≤ l.length) (hl : l.length ≤ 64) : bits .and .u64 (toW l : Int) (((2 ^ k - 1 : Nat)) : Int) = ((toW (l.drop (l.length - k)) : Nat) : Int) := by
  have hb := toW_lt l
  have hp : 2 ^ l.length ≤ 2 ^ 64 := Nat.pow_le_pow_right (by decide) hl
  have hp2 : 2 ^ k ≤ 2 ^ 64 := Nat.pow_le_pow_right (by decide) (by omega)
  have hp3 : 0 < 2 ^ k := Nat.two_pow_pos k
  rw [q64_and _ _ (by omega) (by omega), Nat.and_two_pow_sub_one_eq_mod]
  have := toW_mod l (l.length - k) (by omega)
  rw [show l.length - (l.length - k) = k by omega] at this
  rw [this]
def rot (n : Nat) (c : List Bool) : List Bool := c.drop n ++ c.take n
theorem rot_len (n : Nat) (c : List Bool) : (rot n c).length = c.length := by simp [rot]; omega
def amt (i : Nat) : Nat := if i = 1 ∨ i = 2 ∨ i = 9 ∨ i = 16 then 1 else 2
/-- What a loop over the four rounds' numbers finds. -/
theorem turned_loop (x : Int) (i : Nat) (h1 : 1 ≤ i) (h2 : i ≤ 16) (hN : 100 ≤ N) : des_turned_L3_R N ((x, ((i : Int), ((2 : Int), ((⟨[1, 2, 9, 16], rfl⟩ : Arr Int 4), ((0 : Int), ()))))), ()) = some ((x, ((amt i : Int), ())), ()) := by
  obtain ⟨M, rfl⟩ : ∃ M, N = M + 5 := ⟨N - 5, by omega⟩
  have : i = 1 ∨ i = 2 ∨ i = 3 ∨ i = 4 ∨ i = 5 ∨ i = 6 ∨ i = 7 ∨ i = 8 ∨ i = 9 ∨ i = 10 ∨ i = 11 ∨ i = 12 ∨ i = 13 ∨ i = 14 ∨ i = 15 ∨ i = 16 := by omega
  rcases this with rfl | rfl | rfl | rfl | rfl | rfl | rfl | rfl | rfl | rfl | rfl | rfl | rfl | rfl | rfl | rfl <;> rfl
theorem turn28 (c : List Bool) (n : Nat) (hn : n = 1 ∨ n = 2) (hc : c.length = 28) : bitp_Turn N (toW c : Int) (28 : Int) (n : Int) = some ((toW (rot n c) : Int), 0) := by
  have l1 := low_ok c 28 (by omega) (by omega)
  have hdr : c.drop (c.length - 28) = c := by rw [hc]; rfl
  rw [hdr] at l1
  have l2 := low_ok c (28 - n) (by omega) (by omega)
  rw [hc, show 28 - (28 - n) = n by omega] at l2
  have l3 := toW_div c n (by omega)
  rw [hc] at l3
  have l4 := or_words (c.drop n) (c.take n) (by simp; omega)
  have l5 : (c.take n).length = n := by simp; omega
  rw [l5] at l4
  have f := fdivN (toW c) (28 - n)
  rw [l3] at f
  rcases hn with rfl | rfl
  · have e : bitp_Turn N (toW c : Int) (28 : Int) ((1 : Nat) : Int) = some (bits .or .u64 (Go.IntKind.wrap .u64 (bits .and .u64 (bits .and .u64 (toW c : Int) (((2 ^ 28 - 1 : Nat)) : Int)) (((2 ^ (28 - 1) - 1 : Nat)) : Int) * ((2 ^ 1 : Nat) : Int))) (Int.fdiv (bits .and .u64 (toW c : Int) (((2 ^ 28 - 1 : Nat)) : Int)) ((2 : Int) ^ (28 - 1))), 0) := rfl
    rw [e, l1, l2, f, l4]; rfl
  · have e : bitp_Turn N (toW c : Int) (28 : Int) ((2 : Nat) : Int) = some (bits .or .u64 (Go.IntKind.wrap .u64 (bits .and .u64 (bits .and .u64 (toW c : Int) (((2 ^ 28 - 1 : Nat)) : Int)) (((2 ^ (28 - 2) - 1 : Nat)) : Int) * ((2 ^ 2 : Nat) : Int))) (Int.fdiv (bits .and .u64 (toW c : Int) (((2 ^ 28 - 1 : Nat)) : Int)) ((2 : Int) ^ (28 - 2))), 0) := rfl
    rw [e, l1, l2, f, l4]; rfl
theorem turned_ok (c : List Bool) (i : Nat) (h1 : 1 ≤ i) (h2 : i ≤ 16) (hc : c.length = 28) (hN : 100 ≤ N) : des_turned N (toW c : Int) (i : Int) = some (toW (rot (amt i) c) : Int) := by
  have e := turned_loop (N := N) (toW c : Int) i h1 h2 hN
  have hn : amt i = 1 ∨ amt i = 2 := by unfold amt; split <;> simp
  unfold des_turned
  rw [show (des_turned_L3_R N _) = _ from e]
  simp only [Option.bind_some]
  rw [turn28 c (amt i) hn hc]
  rfl
end Go.Proofs.YtopfadmfbgnbhaaDoor
