/-
  The document's rows of bits, and what it does with them.
-/
import Derived.Test.YtopfadmfbgnbhaaDoorQD2
namespace Go.Proofs.YtopfadmfbgnbhaaDoor
set_option maxRecDepth 100000
open Go.RowKit
set_option linter.unusedVariables false
set_option linter.unusedSimpArgs false
set_option maxRecDepth 100000

variable {N : Nat}
theorem bitsOf_cons : ∀ (w x : Nat), bitsOf (w + 1) x = decide (x / 2 ^ w % 2 = 1) :: bitsOf w x
  | 0, x => by simp [bitsOf]
  | w + 1, x => by
    rw [bitsOf, bitsOf_cons w (x / 2), bitsOf, Nat.div_div_eq_div_mul, ← Nat.pow_succ']
    rfl
theorem set_mid (k : Nat) (L : List Int) (v : Int) : (List.replicate (k + 1) (0 : Int) ++ L).set k v = List.replicate k 0 ++ v :: L := by
  rw [List.replicate_succ', List.append_assoc, List.set_append_right _ _ (by simp)]
  simp
theorem set_end (A : List Int) (k : Nat) (v : Int) : (A ++ List.replicate (k + 1) (0 : Int)).set A.length v = A ++ v :: List.replicate k 0 := by
  rw [List.replicate_succ, List.set_append_right _ _ (Nat.le_refl _)]
  simp
theorem bitI (a : Nat) : ((a % 2 : Nat) : Int) = (((decide (a % 2 = 1)).toNat : Nat) : Int) := by
  rcases Nat.mod_two_eq_zero_or_one a with h | h <;> simp [h]
theorem half64 (y : Nat) (hy : y < 18446744073709551616) : Go.IntKind.wrap .u64 (Int.tdiv (y : Int) 2) = ((y / 2 : Nat) : Int) := by
  rw [Int.tdiv_eq_ediv_of_nonneg (Int.natCast_nonneg _), wrapU64 (by omega) (by omega)]; omega
theorem mod8 (y : Nat) : Go.IntKind.wrap .u8 (Int.tmod (y : Int) 2) = ((y % 2 : Nat) : Int) := by
  rw [Int.tmod_eq_emod_of_nonneg (Int.natCast_nonneg _), wrapU8 (by omega) (by omega)]; omega
theorem row_ok (x w : Nat) (hx : x < 18446744073709551616) (hw : w ≤ 64) (hN : 100 ≤ N) : ref03_Row N (x : Int) (w : Int) = some (rI (bitsOf w x)) := by
  have c1 : decide ((0 : Int) ≤ (w : Int) ∧ (w : Int) ≤ (w : Int)) = true := decide_eq_true (by omega)
  have c2 : roomB w 1 = true := roomB_of (by have := big_len; omega) (by omega)
  have e1 : ref03_Row_L3_R N (((x : Int), ((Go.IntKind.wrap .i64 ((w : Int) - 1)), ())), (List.replicate w (0 : Int), ())) = some ((), (rI (bitsOf w x), ())) := by
    unfold ref03_Row_L3_R
    have := gl_run (G := fun X c => ref03_Row_L3 N X c.1.1 c.1.2.1 c.2.1) (fun i => ((((x / 2 ^ i : Nat) : Int), ((w : Int) - 1 - (i : Int), ())), (List.replicate (w - i) (0 : Int) ++ rI (bitsOf i x), ()))) w ((), (rI (bitsOf w x), ())) (fun X i hi => ?_) (fun X => ?_) N 0 (Nat.zero_le _) (by omega)
    · rw [wrap64 (by omega) (by omega)]
      simpa [bitsOf, rI] using this
    · have d1 : decide ((0 : Int) ≤ (w : Int) - 1 - (i : Int)) = true := decide_eq_true (by omega)
      have hlen : (List.replicate (w - i) (0 : Int) ++ rI (bitsOf i x)).length = w := by simp [rI_len, bitsOf_len]; omega
      have d2 : decide ((0 : Int) ≤ (w : Int) - 1 - (i : Int) ∧ (w : Int) - 1 - (i : Int) < ((List.replicate (w - i) (0 : Int) ++ rI (bitsOf i x)).length : Int)) = true := decide_eq_true (by rw [hlen]; omega)
      have ht : ((w : Int) - 1 - (i : Int)).toNat = w - i - 1 := by omega
      have hg : (List.replicate (w - i) (0 : Int) ++ rI (bitsOf i x))[w - i - 1]? = some (List.replicate (w - i) (0 : Int) ++ rI (bitsOf i x))[w - i - 1] := List.getElem?_eq_getElem (by rw [hlen]; omega)
      have h1 : Go.IntKind.wrap .u64 (Int.tdiv ((x / 2 ^ i : Nat) : Int) 2) = ((x / 2 ^ (i + 1) : Nat) : Int) := by
        rw [half64 _ (Nat.lt_of_le_of_lt (Nat.div_le_self _ _) hx), Nat.pow_succ, ← Nat.div_div_eq_div_mul]
      have h2 : Go.IntKind.wrap .u8 (Int.tmod ((x / 2 ^ i : Nat) : Int) 2) = (((decide (x / 2 ^ i % 2 = 1)).toNat : Nat) : Int) := by
        rw [mod8, ← bitI]
      have h3 : (List.replicate (w - i) (0 : Int) ++ rI (bitsOf i x)).set (w - i - 1) ((((decide (x / 2 ^ i % 2 = 1)).toNat : Nat) : Int)) = List.replicate (w - (i + 1)) (0 : Int) ++ rI (bitsOf (i + 1) x) := by
        obtain ⟨k, hk⟩ : ∃ k, w - i = k + 1 := ⟨w - i - 1, by omega⟩
        rw [hk, show k + 1 - 1 = k by omega, set_mid, show w - (i + 1) = k by omega, bitsOf_cons]
        rfl
      simp only [ref03_Row_L3, d1, d2, cond_true, ht, hg, Option.bind_some, h1, h2, h3, wrap64 (show -9223372036854775808 ≤ (w : Int) - 1 - (i : Int) - 1 by omega) (show (w : Int) - 1 - (i : Int) - 1 < 9223372036854775808 by omega)]
      rw [show (w : Int) - 1 - (i : Int) - 1 = (w : Int) - 1 - ((i + 1 : Nat) : Int) by omega]
    · have d1 : decide ((0 : Int) ≤ (w : Int) - 1 - (w : Int)) = false := decide_eq_false (by omega)
      simp only [ref03_Row_L3, d1, cond_false, Nat.sub_self, List.replicate_zero, List.nil_append]
  simp only [ref03_Row, c1, Int.toNat_natCast, c2, Bool.and_true, cond_true, e1, Option.bind_some]
theorem getI_rI (l : List Bool) (i : Nat) (h : i < l.length) : getI (rI l) (i : Int) = some (((l[i]).toNat : Nat) : Int) := by
  rw [getI_lt _ i (by rw [rI_len]; exact h)]; simp [rI]
theorem word_ok (l : List Bool) (hl : l.length ≤ 64) (hN : 100 ≤ N) : ref03_Word N (rI l) = some ((toW l : Nat) : Int) := by
  have e1 : ref03_Word_L3_R N ((rI l, ((0 : Int), ((0 : Int), ()))), ()) = some (((toW l : Int), ()), ()) := by
    unfold ref03_Word_L3_R
    have := gl_run (G := fun X c => ref03_Word_L3 N X c.1.1 c.1.2.1 c.1.2.2.1) (fun i => ((rI l, (((toW (l.take i) : Nat) : Int), ((i : Int), ()))), ())) l.length (((toW l : Int), ()), ()) (fun X i hi => ?_) (fun X => ?_) N 0 (Nat.zero_le _) (by omega)
    · exact this
    · have d1 : decide ((i : Int) < ((rI l).length : Int)) = true := decide_eq_true (by rw [rI_len]; omega)
      have hb := toW_lt (l.take i)
      rw [List.length_take, Nat.min_eq_left (by omega)] at hb
      have hp : 2 ^ i ≤ 2 ^ 63 := Nat.pow_le_pow_right (by decide) (by omega)
      have hbt : l[i].toNat ≤ 1 := by cases l[i] <;> simp
      have h1 : Go.IntKind.wrap .u64 ((2 : Int) * ((toW (l.take i) : Nat) : Int)) = (2 : Int) * ((toW (l.take i) : Nat) : Int) := wrapU64 (by omega) (by omega)
      have h2 : Go.IntKind.wrap .u64 (((l[i]).toNat : Nat) : Int) = (((l[i]).toNat : Nat) : Int) := wrapU64 (by omega) (by omega)
      have h3 : Go.IntKind.wrap .u64 ((2 : Int) * ((toW (l.take i) : Nat) : Int) + (((l[i]).toNat : Nat) : Int)) = ((toW (l.take (i + 1)) : Nat) : Int) := by
        rw [wrapU64 (by omega) (by omega), ← List.take_append_getElem hi, toW_snoc]; omega
      simp only [ref03_Word_L3, d1, cond_true, getI_rI l i hi, Option.bind_some, h1, h2, h3, wrap64 (show -9223372036854775808 ≤ (i : Int) + 1 by omega) (show (i : Int) + 1 < 9223372036854775808 by omega), Int.natCast_add, Int.natCast_one]
    · have d1 : decide ((l.length : Int) < ((rI l).length : Int)) = false := decide_eq_false (by rw [rI_len]; omega)
      simp only [ref03_Word_L3, d1, cond_false, List.take_length]
  simp only [ref03_Word, e1, Option.bind_some]
theorem by_ok (l : List Bool) (t : List Int) (ht : tabOK l.length t) (hl : l.length ≤ 90) (hn : t.length ≤ 90) (hN : 100 ≤ N) : ref08_by N (rI l) t = some (rI (byM t l)) := by
  have e1 : ref08_by_L3_R N ((rI l, (t, ((0 : Int), ()))), ([], ())) = some ((), (rI (byM t l), ())) := by
    unfold ref08_by_L3_R
    have := gl_run (G := fun X c => ref08_by_L3 N X c.1.1 c.1.2.1 c.1.2.2.1 c.2.1) (fun i => ((rI l, (t, ((i : Int), ()))), (rI (byM (t.take i) l), ()))) t.length ((), (rI (byM t l), ())) (fun X i hi => ?_) (fun X => ?_) N 0 (Nat.zero_le _) (by omega)
    · exact this
    · have d1 : decide ((i : Int) < (t.length : Int)) = true := decide_eq_true (by omega)
      have hi2 := ht t[i] (List.getElem_mem hi)
      obtain ⟨k, hk⟩ : ∃ k : Nat, t[i] = (k : Int) + 1 := ⟨t[i].toNat - 1, by omega⟩
      have hkl : k < l.length := by omega
      have hw : Go.IntKind.wrap .i64 (t[i] - 1) = (k : Int) := by rw [wrap64 (by omega) (by omega)]; omega
      have hr : roomB ((rI (byM (t.take i) l)).length + [(((l[k]).toNat : Nat) : Int)].length) 1 = true := by
        have hl2 : (rI (byM (t.take i) l)).length ≤ 90 := by rw [rI_len, byM_len, List.length_take]; omega
        simp only [List.length_cons, List.length_nil]
        exact roomB_of (by have := big_len; omega) (by omega)
      have hs : rI (byM (t.take i) l) ++ [(((l[k]).toNat : Nat) : Int)] = rI (byM (t.take (i + 1)) l) := by
        rw [byM_snoc t l i hi, rI_append]
        have : t[i].toNat - 1 = k := by omega
        rw [this, List.getD_eq_getElem?_getD, List.getElem?_eq_getElem hkl]
        rfl
      simp only [ref08_by_L3, d1, cond_true, getI_lt t i hi, Option.bind_some, hw, getI_rI l k hkl, hr, hs, wrap64 (show -9223372036854775808 ≤ (i : Int) + 1 by omega) (show (i : Int) + 1 < 9223372036854775808 by omega), Int.natCast_add, Int.natCast_one]
    · have d1 : decide ((t.length : Int) < (t.length : Int)) = false := decide_eq_false (by omega)
      simp only [ref08_by_L3, d1, cond_false, List.take_length]
  simp only [ref08_by, e1, Option.bind_some]
theorem xorL_snoc (a b : List Bool) (i : Nat) (ha : i < a.length) (hb : i < b.length) : xorL (a.take (i + 1)) (b.take (i + 1)) = xorL (a.take i) (b.take i) ++ [xor a[i] b[i]] := by
  unfold xorL
  rw [← List.take_append_getElem ha, ← List.take_append_getElem hb, List.zipWith_append (by simp; omega)]
  rfl
theorem bxor8 (x y : Bool) : bits .xor .u8 ((x.toNat : Nat) : Int) ((y.toNat : Nat) : Int) = (((xor x y).toNat : Nat) : Int) := by
  cases x <;> cases y <;> decide +kernel
theorem rowsx_ok (a b : List Bool) (hab : a.length = b.length) (ha : a.length ≤ 90) (hN : 100 ≤ N) : ref08_turned N (rI a) (rI b) = some (rI (xorL a b)) := by
  have e1 : ref08_turned_L3_R N ((rI a, (rI b, ((0 : Int), ()))), (List.replicate a.length (0 : Int), ())) = some ((), (rI (xorL a b), ())) := by
    unfold ref08_turned_L3_R
    have := gl_run (G := fun X c => ref08_turned_L3 N X c.1.1 c.1.2.1 c.1.2.2.1 c.2.1) (fun i => ((rI a, (rI b, ((i : Int), ()))), (rI (xorL (a.take i) (b.take i)) ++ List.replicate (a.length - i) (0 : Int), ()))) a.length ((), (rI (xorL a b), ())) (fun X i hi => ?_) (fun X => ?_) N 0 (Nat.zero_le _) (by omega)
    · simpa [xorL, rI] using this
    · have d1 : decide ((i : Int) < ((rI a).length : Int)) = true := decide_eq_true (by rw [rI_len]; omega)
      have hx : (rI (xorL (a.take i) (b.take i))).length = i := by rw [rI_len, xorL_len _ _ (by simp; omega)]; simp; omega
      have hlen : (rI (xorL (a.take i) (b.take i)) ++ List.replicate (a.length - i) (0 : Int)).length = a.length := by rw [List.length_append, hx]; simp; omega
      have d2 : decide ((0 : Int) ≤ (i : Int) ∧ (i : Int) < ((rI (xorL (a.take i) (b.take i)) ++ List.replicate (a.length - i) (0 : Int)).length : Int)) = true := decide_eq_true (by rw [hlen]; omega)
      have hg : (rI (xorL (a.take i) (b.take i)) ++ List.replicate (a.length - i) (0 : Int))[i]? = some (rI (xorL (a.take i) (b.take i)) ++ List.replicate (a.length - i) (0 : Int))[i] := List.getElem?_eq_getElem (by rw [hlen]; omega)
      have hib : i < b.length := by omega
      have h3 : (rI (xorL (a.take i) (b.take i)) ++ List.replicate (a.length - i) (0 : Int)).set i (((xor a[i] b[i]).toNat : Nat) : Int) = rI (xorL (a.take (i + 1)) (b.take (i + 1))) ++ List.replicate (a.length - (i + 1)) (0 : Int) := by
        obtain ⟨k, hk⟩ : ∃ k, a.length - i = k + 1 := ⟨a.length - i - 1, by omega⟩
        have := set_end (rI (xorL (a.take i) (b.take i))) k (((xor a[i] b[i]).toNat : Nat) : Int)
        rw [hx] at this
        rw [hk, this, show a.length - (i + 1) = k by omega, xorL_snoc a b i hi hib, rI_append, List.append_assoc]
        rfl
      simp only [ref08_turned_L3, d1, d2, cond_true, getI_rI a i hi, getI_rI b i hib, Int.toNat_natCast, hg, Option.bind_some, bxor8, h3, wrap64 (show -9223372036854775808 ≤ (i : Int) + 1 by omega) (show (i : Int) + 1 < 9223372036854775808 by omega), Int.natCast_add, Int.natCast_one]
    · have d1 : decide ((a.length : Int) < ((rI a).length : Int)) = false := decide_eq_false (by rw [rI_len]; omega)
      have hb' : b.take a.length = b := by rw [hab]; exact List.take_length
      simp only [ref08_turned_L3, d1, cond_false, List.take_length, hb', Nat.sub_self, List.replicate_zero, List.append_nil]
  have c1 : decide ((0 : Int) ≤ ((rI a).length : Int) ∧ ((rI a).length : Int) ≤ ((rI a).length : Int)) = true := decide_eq_true (by omega)
  have c2 : roomB ((rI a).length : Int).toNat 1 = true := by rw [Int.toNat_natCast, rI_len]; exact roomB_of (by have := big_len; omega) (by omega)
  simp only [ref08_turned, c1, c2, Bool.and_true, cond_true]
  rw [Int.toNat_natCast, rI_len, e1]
  rfl
end Go.Proofs.YtopfadmfbgnbhaaDoor
