/-
  The tables, the boxes' digits, and a round's word: the program's and the document's.
-/
import Derived.Test.YtopfadmfbgnbhaaDoorQD3
namespace Go.Proofs.YtopfadmfbgnbhaaDoor
set_option maxRecDepth 100000
open Go.RowKit
set_option linter.unusedVariables false
set_option linter.unusedSimpArgs false
set_option maxRecDepth 100000

variable {N : Nat}
def tFirst : List Int := [58, 50, 42, 34, 26, 18, 10, 2, 60, 52, 44, 36, 28, 20, 12, 4, 62, 54, 46, 38, 30, 22, 14, 6, 64, 56, 48, 40, 32, 24, 16, 8, 57, 49, 41, 33, 25, 17, 9, 1, 59, 51, 43, 35, 27, 19, 11, 3, 61, 53, 45, 37, 29, 21, 13, 5, 63, 55, 47, 39, 31, 23, 15, 7]
def tLast : List Int := [40, 8, 48, 16, 56, 24, 64, 32, 39, 7, 47, 15, 55, 23, 63, 31, 38, 6, 46, 14, 54, 22, 62, 30, 37, 5, 45, 13, 53, 21, 61, 29, 36, 4, 44, 12, 52, 20, 60, 28, 35, 3, 43, 11, 51, 19, 59, 27, 34, 2, 42, 10, 50, 18, 58, 26, 33, 1, 41, 9, 49, 17, 57, 25]
def tWide : List Int := [32, 1, 2, 3, 4, 5, 4, 5, 6, 7, 8, 9, 8, 9, 10, 11, 12, 13, 12, 13, 14, 15, 16, 17, 16, 17, 18, 19, 20, 21, 20, 21, 22, 23, 24, 25, 24, 25, 26, 27, 28, 29, 28, 29, 30, 31, 32, 1]
def tMixing : List Int := [16, 7, 20, 21, 29, 12, 28, 17, 1, 15, 23, 26, 5, 18, 31, 10, 2, 8, 24, 14, 32, 27, 3, 9, 19, 13, 30, 6, 22, 11, 4, 25]
def tOfKeys : List Int := [57, 49, 41, 33, 25, 17, 9, 1, 58, 50, 42, 34, 26, 18, 10, 2, 59, 51, 43, 35, 27, 19, 11, 3, 60, 52, 44, 36, 63, 55, 47, 39, 31, 23, 15, 7, 62, 54, 46, 38, 30, 22, 14, 6, 61, 53, 45, 37, 29, 21, 13, 5, 28, 20, 12, 4]
def tOfRounds : List Int := [14, 17, 11, 24, 1, 5, 3, 28, 15, 6, 21, 10, 23, 19, 12, 4, 26, 8, 16, 7, 27, 20, 13, 2, 41, 52, 31, 37, 47, 55, 30, 40, 51, 45, 33, 48, 44, 49, 39, 56, 34, 53, 46, 42, 50, 36, 29, 32]
theorem ofKeys_t : des_ofKeys 200000 = some tOfKeys := by kernel_rfl
theorem wide_t : des_wide 200000 = some tWide := by kernel_rfl
theorem first_t : des_first 200000 = some tFirst := by kernel_rfl
theorem last_t : des_last 200000 = some tLast := by kernel_rfl
theorem ok_ofKeys : tabOK 64 tOfKeys := by decide +kernel
theorem ok_ofRounds : tabOK 56 tOfRounds := by decide +kernel
theorem ok_wide : tabOK 32 tWide := by decide +kernel
theorem ok_mixing : tabOK 32 tMixing := by decide +kernel
theorem ok_first : tabOK 64 tFirst := by decide +kernel
theorem ok_last : tabOK 64 tLast := by decide +kernel
/-! ### The boxes -/
noncomputable def dig (n x : Nat) : Nat := ((ref08_digit 200000 (n : Int) (rI (bitsOf 6 x))).getD 0).toNat
theorem box_all : ∀ n : Nat, n < 8 → ∀ x : Nat, x < 64 → des_Box 200000 ((n + 1 : Nat) : Int) (x : Int) = some ((dig (n + 1) x : Nat) : Int) ∧ ref08_digit 200000 ((n + 1 : Nat) : Int) (rI (bitsOf 6 x)) = some ((dig (n + 1) x : Nat) : Int) ∧ dig (n + 1) x < 16 := by decide +kernel
theorem and_low (a m k : Nat) (hm : m < 2 ^ k) : a &&& m = (a % 2 ^ k) &&& m := by
  apply Nat.eq_of_testBit_eq
  intro i
  rw [Nat.testBit_and, Nat.testBit_and, Nat.testBit_mod_two_pow]
  rcases Nat.lt_or_ge i k with h | h
  · simp [h]
  · have : m.testBit i = false := Nat.testBit_lt_two_pow (Nat.lt_of_lt_of_le hm (Nat.pow_le_pow_right (by decide) h))
    simp [this]
theorem and64 (a m k : Nat) (ha : a < 18446744073709551616) (hm : m < 2 ^ k) (hk : k ≤ 6) : bits .and .u64 (a : Int) (m : Int) = bits .and .u64 ((a % 2 ^ k : Nat) : Int) (m : Int) := by
  have hp : 2 ^ k ≤ 2 ^ 6 := Nat.pow_le_pow_right (by decide) hk
  rw [q64_and _ _ ha (by omega), q64_and _ _ (by have := Nat.mod_lt a (Nat.two_pow_pos k); omega) (by omega), ← and_low a m k hm]
theorem box_mod (n : Int) (z : Nat) (hz : z < 18446744073709551616) : des_Box N n (z : Int) = des_Box N n ((z % 64 : Nat) : Int) := by
  have f : ∀ (a k : Nat), Int.fdiv (a : Int) ((2 : Int) ^ (min (Int.toNat (k : Int)) (Go.IntKind.bits .u64))) = ((a / 2 ^ (min k 64) : Nat) : Int) := fun a k => by
    rw [Int.toNat_natCast]; exact fdivN a _
  have f4 := f z 4
  have f4' := f (z % 64) 4
  have f1 := f z 1
  have f1' := f (z % 64) 1
  have h2 := and64 (z / 2 ^ 4) 2 2 (Nat.lt_of_le_of_lt (Nat.div_le_self _ _) hz) (by decide) (by decide)
  have h2' := and64 (z % 64 / 2 ^ 4) 2 2 (by omega) (by decide) (by decide)
  have h15 := and64 (z / 2 ^ 1) 15 4 (Nat.lt_of_le_of_lt (Nat.div_le_self _ _) hz) (by decide) (by decide)
  have h15' := and64 (z % 64 / 2 ^ 1) 15 4 (by omega) (by decide) (by decide)
  have h1 := and64 z 1 1 hz (by decide) (by decide)
  have h1' := and64 (z % 64) 1 1 (by omega) (by decide) (by decide)
  rw [show z % 64 / 2 ^ 4 % 2 ^ 2 = z / 2 ^ 4 % 2 ^ 2 by omega, ← h2] at h2'
  rw [show z % 64 / 2 ^ 1 % 2 ^ 4 = z / 2 ^ 1 % 2 ^ 4 by omega, ← h15] at h15'
  rw [show z % 64 % 2 ^ 1 = z % 2 ^ 1 by omega, ← h1] at h1'
  unfold des_Box
  have e4 : Int.fdiv (z : Int) ((2 : Int) ^ (min (Int.toNat (4 : Int)) (Go.IntKind.bits .u64))) = ((z / 2 ^ 4 : Nat) : Int) := f4
  have e4' : Int.fdiv ((z % 64 : Nat) : Int) ((2 : Int) ^ (min (Int.toNat (4 : Int)) (Go.IntKind.bits .u64))) = ((z % 64 / 2 ^ 4 : Nat) : Int) := f4'
  have e1 : Int.fdiv (z : Int) ((2 : Int) ^ (min (Int.toNat (1 : Int)) (Go.IntKind.bits .u64))) = ((z / 2 ^ 1 : Nat) : Int) := f1
  have e1' : Int.fdiv ((z % 64 : Nat) : Int) ((2 : Int) ^ (min (Int.toNat (1 : Int)) (Go.IntKind.bits .u64))) = ((z % 64 / 2 ^ 1 : Nat) : Int) := f1'
  have g2 : bits .and .u64 ((z % 64 / 2 ^ 4 : Nat) : Int) (2 : Int) = bits .and .u64 ((z / 2 ^ 4 : Nat) : Int) (2 : Int) := h2'
  have g15 : bits .and .u64 ((z % 64 / 2 ^ 1 : Nat) : Int) (15 : Int) = bits .and .u64 ((z / 2 ^ 1 : Nat) : Int) (15 : Int) := h15'
  have g1 : bits .and .u64 ((z % 64 : Nat) : Int) (1 : Int) = bits .and .u64 (z : Int) (1 : Int) := h1'
  rw [e4, e4', e1, e1', g2, g15, g1]
/-- A digit, of a row of six bits. -/
theorem digit_ok (n : Nat) (hn : n < 8) (s : List Bool) (hs : s.length = 6) : ref08_digit 200000 ((n + 1 : Nat) : Int) (rI s) = some ((dig (n + 1) (toW s) : Nat) : Int) ∧ dig (n + 1) (toW s) < 16 := by
  have hx := toW_lt s
  rw [hs] at hx
  have := box_all n hn (toW s) hx
  rw [← hs, bitsOf_toW] at this
  exact this.2
theorem desbox_ok (n : Nat) (hn : n < 8) (s : List Bool) (hs : s.length = 6) (z : Nat) (hz : z < 18446744073709551616) (h : z % 64 = toW s) : des_Box 200000 ((n + 1 : Nat) : Int) (z : Int) = some ((dig (n + 1) (toW s) : Nat) : Int) := by
  have hx := toW_lt s
  rw [hs] at hx
  rw [box_mod _ z hz, h]
  exact (box_all n hn (toW s) hx).1
theorem Box_eq (n : Int) (key : Nat) (hk : key < 18446744073709551616) : ∃ v, des_Box 200000 n (key : Int) = some v ∧ ref08_Box 200000 n (key : Int) = some v := by
  have hr : ref03_Row 200000 (key : Int) (6 : Int) = some (rI (bitsOf 6 key)) := row_ok key 6 hk (by decide) (by decide)
  have hs : (bitsOf 6 key).length = 6 := bitsOf_len _ _
  by_cases hn : 1 ≤ n ∧ n ≤ 8
  · obtain ⟨m, rfl⟩ : ∃ m : Nat, n = ((m + 1 : Nat) : Int) := ⟨n.toNat - 1, by omega⟩
    have hm : m < 8 := by omega
    obtain ⟨h1, h2⟩ := digit_ok m hm (bitsOf 6 key) hs
    refine ⟨_, desbox_ok m hm (bitsOf 6 key) hs key hk (by rw [toW_bitsOf]), ?_⟩
    unfold ref08_Box
    rw [hr]
    simp only [Option.bind_some]
    rw [h1]
    simp only [Option.bind_some]
    rw [wrapU64 (by omega) (by omega)]
  · refine ⟨0, ?_, ?_⟩
    · unfold des_Box
      by_cases h : n < 1
      · rw [decide_eq_true h]; rfl
      · rw [decide_eq_false (show ¬ n < 1 by omega), decide_eq_true (show (8 : Int) < n by omega)]; rfl
    · have hb : ref08_box 200000 n = some (List.replicate 64 0) := by
        have d : ∀ k : Int, 1 ≤ k → k ≤ 8 → decide (n = k) = false := fun k h1 h2 => decide_eq_false (fun e => hn (by omega))
        unfold ref08_box
        rw [d 1 (by decide) (by decide), d 2 (by decide) (by decide), d 3 (by decide) (by decide), d 4 (by decide) (by decide), d 5 (by decide) (by decide), d 6 (by decide) (by decide), d 7 (by decide) (by decide), d 8 (by decide) (by decide)]
        rfl
      have hz : ∀ x : Nat, x < 64 → (Option.bind (getI (rI (bitsOf 6 x)) 0) fun v3 => Option.bind (getI (rI (bitsOf 6 x)) 5) fun v4 => Option.bind (subI (rI (bitsOf 6 x)) 1 5) fun v5 => Option.bind (ref03_Word 200000 v5) fun v6 => Option.bind (some (List.replicate 64 (0 : Int))) fun v7 => Option.bind (getI v7 (Go.IntKind.wrap .i64 ((Go.IntKind.wrap .i64 ((16 : Int) * (Go.IntKind.wrap .i64 ((Go.IntKind.wrap .i64 ((2 : Int) * (Go.IntKind.wrap .i64 v3))) + (Go.IntKind.wrap .i64 v4))))) + (Go.IntKind.wrap .i64 v6)))) fun v8 => some v8) = some (0 : Int) := by decide +kernel
      have hx := toW_lt (bitsOf 6 key)
      rw [hs] at hx
      have := hz (toW (bitsOf 6 key)) hx
      have hbk : bitsOf 6 (toW (bitsOf 6 key)) = bitsOf 6 key := by have := bitsOf_toW (bitsOf 6 key); rwa [hs] at this
      rw [hbk] at this
      have hd : ref08_digit 200000 n (rI (bitsOf 6 key)) = some 0 := by
        unfold ref08_digit
        rw [hb]
        exact this
      unfold ref08_Box
      rw [hr]
      simp only [Option.bind_some]
      rw [hd]
      rfl
/-! ### A round's word -/
def chunk (X : List Bool) (i : Nat) : List Bool := (X.drop (6 * i)).take 6
noncomputable def digM (X : List Bool) (i : Nat) : List Bool := (List.range i).flatMap fun i => bitsOf 4 (dig (i + 1) (toW (chunk X i)))
theorem digM_succ (X : List Bool) (i : Nat) : digM X (i + 1) = digM X i ++ bitsOf 4 (dig (i + 1) (toW (chunk X i))) := by
  unfold digM
  rw [List.range_succ, List.flatMap_append]
  simp
theorem digM_len (X : List Bool) : ∀ i, (digM X i).length = 4 * i
  | 0 => rfl
  | i + 1 => by rw [digM_succ, List.length_append, digM_len X i, bitsOf_len]; omega
theorem chunk_len (X : List Bool) (i : Nat) (hX : X.length = 48) (hi : i < 8) : (chunk X i).length = 6 := by simp [chunk, hX]; omega
noncomputable def wordM (r k : List Bool) : List Bool := byM tMixing (digM (xorL (byM tWide r) k) 8)
theorem wordM_len (r k : List Bool) : (wordM r k).length = 32 := by rw [wordM, byM_len]; rfl
theorem chunk_of (X : List Bool) (z i : Nat) (hX : X.length = 48) (hz : z % 2 ^ 48 = toW X) (hi : i < 8) : z / 2 ^ (42 - 6 * i) % 64 = toW (chunk X i) := by
  have e1 : z / 2 ^ (42 - 6 * i) % 2 ^ 6 = (z % 2 ^ 48) / 2 ^ (42 - 6 * i) % 2 ^ 6 := by
    have h := Nat.mod_mul_right_div_self z (2 ^ (42 - 6 * i)) (2 ^ (6 + 6 * i))
    rw [← Nat.pow_add, show 42 - 6 * i + (6 + 6 * i) = 48 by omega] at h
    rw [h, Nat.mod_mod_of_dvd]
    exact Nat.pow_dvd_pow 2 (by omega)
  have h1 := toW_div X (6 * i + 6) (by omega)
  rw [hX, show 48 - (6 * i + 6) = 42 - 6 * i by omega] at h1
  have h2 := toW_mod (X.take (6 * i + 6)) (6 * i) (by rw [List.length_take]; omega)
  rw [List.length_take, hX, Nat.min_eq_left (by omega), show 6 * i + 6 - 6 * i = 6 by omega] at h2
  rw [show (64 : Nat) = 2 ^ 6 from rfl, e1, hz, h1, h2, chunk, List.drop_take, show 6 * i + 6 - 6 * i = 6 by omega]
theorem word_loop (X : List Bool) (z : Nat) (hX : X.length = 48) (hz : z % 2 ^ 48 = toW X) (hzl : z < 18446744073709551616) (t : List Int) : des_word_L4_R 200000 ((t, ((z : Int), ((0 : Int), ((1 : Int), ())))), ()) = some ((t, ((toW (digM X 8) : Int), ())), ()) := by
  unfold des_word_L4_R
  have := gl_run (G := fun X c => des_word_L4 200000 X c.1.1 c.1.2.1 c.1.2.2.1 c.1.2.2.2.1) (fun i => ((t, ((z : Int), (((toW (digM X i) : Nat) : Int), (((i + 1 : Nat) : Int), ())))), ())) 8 ((t, ((toW (digM X 8) : Int), ())), ()) (fun Y i hi => ?_) (fun Y => ?_) 200000 0 (Nat.zero_le _) (by decide)
  · exact this
  · have d1 : decide (((i + 1 : Nat) : Int) ≤ (8 : Int)) = true := decide_eq_true (by omega)
    have hw1 : Go.IntKind.wrap .i64 ((6 : Int) * ((i + 1 : Nat) : Int)) = (6 : Int) * ((i + 1 : Nat) : Int) := wrap64 (by omega) (by omega)
    have hw2 : Go.IntKind.wrap .i64 ((48 : Int) - (6 : Int) * ((i + 1 : Nat) : Int)) = ((42 - 6 * i : Nat) : Int) := by rw [wrap64 (by omega) (by omega)]; omega
    have d2 : decide ((0 : Int) ≤ ((42 - 6 * i : Nat) : Int)) = true := decide_eq_true (by omega)
    have hm : min (42 - 6 * i) (Go.IntKind.bits .u64) = 42 - 6 * i := by show min _ 64 = _; omega
    have hb := desbox_ok i hi (chunk X i) (chunk_len X i hX hi) (z / 2 ^ (42 - 6 * i)) (Nat.lt_of_le_of_lt (Nat.div_le_self _ _) hzl) (chunk_of X z i hX hz hi)
    have hd := (digit_ok i hi (chunk X i) (chunk_len X i hX hi)).2
    have hor := or_words (digM X i) (bitsOf 4 (dig (i + 1) (toW (chunk X i)))) (by rw [digM_len, bitsOf_len]; omega)
    rw [toW_full hd, ← digM_succ, bitsOf_len] at hor
    have hpw : (2 : Int) ^ (min (Int.toNat (4 : Int)) (Go.IntKind.bits .u64)) = ((2 ^ 4 : Nat) : Int) := rfl
    have hw3 : Go.IntKind.wrap .i64 (((i + 1 : Nat) : Int) + 1) = ((i + 1 + 1 : Nat) : Int) := by rw [wrap64 (by omega) (by omega)]; omega
    simp only [des_word_L4, d1, cond_true, hw1, hw2, d2, Int.toNat_natCast, hm, fdivN, hb, Option.bind_some, hpw, hor, hw3]
  · rfl
/-- The program's word, of any key whose lowest bits are these. -/
theorem word_p (r k : List Bool) (kk : Nat) (hr : r.length = 32) (hk : k.length = 48) (hkk : kk < 18446744073709551616) (h : kk % 2 ^ 48 = toW k) : des_word 200000 (toW r : Int) (kk : Int) tWide tMixing = some ((toW (wordM r k) : Nat) : Int) := by
  have hrb := toW_lt r
  rw [hr] at hrb
  have hw : Go.IntKind.wrap .u64 (toW r : Int) = (toW r : Int) := wrapU64 (by omega) (by omega)
  have hp := permuted_ok (N := 200000) r tWide (by omega) (by omega) (by rw [hr]; exact ok_wide) (by decide) (by decide)
  rw [hr] at hp
  have hbl : (byM tWide r).length = 48 := by rw [byM_len]; rfl
  have hbb := toW_lt (byM tWide r)
  rw [hbl] at hbb
  have hX : (xorL (byM tWide r) k).length = 48 := by rw [xorL_len _ _ (by omega), hbl]
  have hx := q64_xor (toW (byM tWide r)) kk (by omega) hkk
  have hz : (toW (byM tWide r) ^^^ kk) % 2 ^ 48 = toW (xorL (byM tWide r) k) := by
    rw [Nat.xor_mod_two_pow, h, Nat.mod_eq_of_lt hbb, toW_xor _ _ (by omega)]
  have hl := word_loop (xorL (byM tWide r) k) (toW (byM tWide r) ^^^ kk) hX hz (by have := Nat.xor_lt_two_pow (n := 64) (x := toW (byM tWide r)) (y := kk) (by omega) (by omega); omega) tMixing
  have hd := digM_len (xorL (byM tWide r) k) 8
  have hp2 := permuted_ok (N := 200000) (digM (xorL (byM tWide r) k) 8) tMixing (by omega) (by omega) (by rw [hd]; exact ok_mixing) (by decide) (by decide)
  rw [hd] at hp2
  have hwb := toW_lt (wordM r k)
  rw [wordM_len] at hwb
  unfold des_word
  rw [hw]
  rw [show des_permuted 200000 (toW r : Int) (32 : Int) tWide = _ from hp]
  simp only [Option.bind_some]
  rw [hx, hl]
  simp only [Option.bind_some]
  rw [show des_permuted 200000 ((toW (digM (xorL (byM tWide r) k) 8) : Nat) : Int) (32 : Int) tMixing = _ from hp2]
  simp only [Option.bind_some]
  rw [show byM tMixing (digM (xorL (byM tWide r) k) 8) = wordM r k from rfl]
  have : Go.IntKind.wrap .u32 ((toW (wordM r k) : Nat) : Int) = ((toW (wordM r k) : Nat) : Int) := by rw [Go.IntKind.wrap_u32]; omega
  rw [this]
theorem word_d (r k : List Bool) (hr : r.length = 32) (hk : k.length = 48) : ref08_word 200000 (rI r) (rI k) = some (rI (wordM r k)) := by
  have h1 := by_ok (N := 200000) r tWide (by rw [hr]; exact ok_wide) (by omega) (by decide) (by decide)
  have hbl : (byM tWide r).length = 48 := by rw [byM_len]; rfl
  have h2 := rowsx_ok (N := 200000) (byM tWide r) k (by omega) (by omega) (by decide)
  have hX : (xorL (byM tWide r) k).length = 48 := by rw [xorL_len _ _ (by omega), hbl]
  generalize hXe : xorL (byM tWide r) k = X at *
  have h3 : ref08_word_L4_R 200000 ((rI X, ((0 : Int), ())), ([], ())) = some ((), (rI (digM X 8), ())) := by
    unfold ref08_word_L4_R
    have := gl_run (G := fun X c => ref08_word_L4 200000 X c.1.1 c.1.2.1 c.2.1) (fun i => ((rI X, ((i : Int), ())), (rI (digM X i), ()))) 8 ((), (rI (digM X 8), ())) (fun Y i hi => ?_) (fun Y => rfl) 200000 0 (Nat.zero_le _) (by decide)
    · exact this
    · have d1 : decide ((i : Int) < (8 : Int)) = true := decide_eq_true (by omega)
      have hw1 : Go.IntKind.wrap .i64 ((6 : Int) * (i : Int)) = ((6 * i : Nat) : Int) := by rw [wrap64 (by omega) (by omega)]; omega
      have hw2 : Go.IntKind.wrap .i64 (((6 * i : Nat) : Int) + 6) = ((6 * i + 6 : Nat) : Int) := by rw [wrap64 (by omega) (by omega)]; omega
      have hs : subI (rI X) ((6 * i : Nat) : Int) ((6 * i + 6 : Nat) : Int) = some (rI (chunk X i)) := by
        rw [subI_nat (rI X) rfl rfl (by omega) (by rw [rI_len]; omega), rI_drop, rI_take, show 6 * i + 6 - 6 * i = 6 by omega]; rfl
      have hw3 : Go.IntKind.wrap .i64 ((i : Int) + 1) = ((i + 1 : Nat) : Int) := by rw [wrap64 (by omega) (by omega)]; omega
      obtain ⟨hd, hd16⟩ := digit_ok i hi (chunk X i) (chunk_len X i hX hi)
      have hw4 : Go.IntKind.wrap .u64 ((dig (i + 1) (toW (chunk X i)) : Nat) : Int) = ((dig (i + 1) (toW (chunk X i)) : Nat) : Int) := wrapU64 (by omega) (by omega)
      have hro : ref03_Row 200000 ((dig (i + 1) (toW (chunk X i)) : Nat) : Int) (4 : Int) = some (rI (bitsOf 4 (dig (i + 1) (toW (chunk X i))))) := row_ok _ 4 (by omega) (by decide) (by decide)
      have hrm : roomB ((rI (digM X i)).length + (rI (bitsOf 4 (dig (i + 1) (toW (chunk X i))))).length) 1 = true := by
        rw [rI_len, rI_len, digM_len, bitsOf_len]
        exact roomB_of (by have := big_len; omega) (by omega)
      simp only [ref08_word_L4, d1, cond_true, hw1, hw2, hs, Option.bind_some, hw3, hd, hw4, hro, hrm]
      rw [← rI_append, ← digM_succ]
  have hd := digM_len X 8
  have h4 := by_ok (N := 200000) (digM X 8) tMixing (by rw [hd]; exact ok_mixing) (by omega) (by decide) (by decide)
  unfold ref08_word
  show (ref08_by 200000 (rI r) tWide).bind _ = _
  rw [h1]
  simp only [Option.bind_some]
  rw [h2]
  simp only [Option.bind_some]
  rw [h3]
  simp only [Option.bind_some]
  show (ref08_by 200000 (rI (digM X 8)) tMixing).bind _ = _
  rw [h4]
  simp only [Option.bind_some, wordM, hXe]
theorem Word_eq (half key : Nat) (hh : half < 4294967296) (hk : key < 18446744073709551616) : ∃ v, des_Word 200000 (half : Int) (key : Int) = some v ∧ ref08_Word 200000 (half : Int) (key : Int) = some v := by
  have hb : toW (bitsOf 32 half) = half := toW_full (by omega)
  have hrl := bitsOf_len 32 half
  have hkl := bitsOf_len 48 key
  have hp := word_p (bitsOf 32 half) (bitsOf 48 key) key hrl hkl hk (by rw [toW_bitsOf])
  have hd := word_d (bitsOf 32 half) (bitsOf 48 key) hrl hkl
  have hwl := wordM_len (bitsOf 32 half) (bitsOf 48 key)
  have hwb := toW_lt (wordM (bitsOf 32 half) (bitsOf 48 key))
  rw [hwl] at hwb
  rw [hb] at hp
  refine ⟨((toW (wordM (bitsOf 32 half) (bitsOf 48 key)) : Nat) : Int), ?_, ?_⟩
  · unfold des_Word
    rw [wide_t]
    simp only [Option.bind_some]
    show (des_word 200000 (half : Int) (key : Int) tWide tMixing).bind _ = _
    rw [hp]
    rfl
  · have hw : Go.IntKind.wrap .u64 (half : Int) = (half : Int) := wrapU64 (by omega) (by omega)
    have hw2 : Go.IntKind.wrap .u32 ((toW (wordM (bitsOf 32 half) (bitsOf 48 key)) : Nat) : Int) = ((toW (wordM (bitsOf 32 half) (bitsOf 48 key)) : Nat) : Int) := by rw [Go.IntKind.wrap_u32]; omega
    have hr1 : ref03_Row 200000 (half : Int) (32 : Int) = some (rI (bitsOf 32 half)) := row_ok half 32 (by omega) (by decide) (by decide)
    have hr2 : ref03_Row 200000 (key : Int) (48 : Int) = some (rI (bitsOf 48 key)) := row_ok key 48 hk (by decide) (by decide)
    unfold ref08_Word
    rw [hw, hr1, hr2]
    simp only [Option.bind_some]
    rw [hd]
    simp only [Option.bind_some]
    rw [word_ok _ (by omega) (by decide)]
    simp only [Option.bind_some]
    rw [hw2]
end Go.Proofs.YtopfadmfbgnbhaaDoor
