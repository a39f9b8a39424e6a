/-
  Keys of seven bytes; numbers of eight bytes; the law on them, on plain data.
-/
import Derived.Test.YtopfadmfbgnbhaaDoorQD7
namespace Go.Proofs.YtopfadmfbgnbhaaDoor
set_option maxRecDepth 100000
open Go.RowKit
set_option linter.unusedVariables false
set_option linter.unusedSimpArgs false
set_option maxRecDepth 100000

variable {N : Nat}
/-! ### Numbers of eight bytes -/
def rowBy (l : List Int) : List Bool := l.flatMap fun x => bitsOf 8 x.toNat
theorem rowBy_snoc (l : List Int) (x : Int) : rowBy (l ++ [x]) = rowBy l ++ bitsOf 8 x.toNat := by simp [rowBy]
theorem rowBy_cons (l : List Int) (x : Int) : rowBy (x :: l) = bitsOf 8 x.toNat ++ rowBy l := by simp [rowBy]
theorem rowBy_len : ∀ l : List Int, (rowBy l).length = 8 * l.length
  | [] => rfl
  | x :: l => by rw [rowBy_cons, List.length_append, bitsOf_len, rowBy_len l, List.length_cons]; omega
theorem w_byte {x : Int} (h : 0 ≤ x ∧ x < 256) : ((toW (bitsOf 8 x.toNat) : Nat) : Int) = x := by rw [toW_full (by omega)]; omega
theorem num8_ok (l : List Int) (hl : l.length ≤ 8) (hB : AllB l) (hN : 100 ≤ N) : ref01_Num N l = some ((toW (rowBy l) : Nat) : Int) := by
  have e1 : ref01_Num_L3_R N ((l, ((0 : Int), ((0 : Int), ()))), ()) = some (((toW (rowBy l) : Int), ()), ()) := by
    unfold ref01_Num_L3_R
    have := gl_run (G := fun X c => ref01_Num_L3 N X c.1.1 c.1.2.1 c.1.2.2.1) (fun i => ((l, (((toW (rowBy (l.take i)) : Nat) : Int), ((i : Int), ()))), ())) l.length (((toW (rowBy l) : Int), ()), ()) (fun X i hi => ?_) (fun X => ?_) N 0 (Nat.zero_le _) (by omega)
    · exact this
    · have d1 : decide ((i : Int) < (l.length : Int)) = true := decide_eq_true (by omega)
      have hb := hB.get i hi
      have ha := toW_lt (rowBy (l.take i))
      rw [rowBy_len, List.length_take, Nat.min_eq_left (by omega)] at ha
      have hp : 2 ^ (8 * i) ≤ 2 ^ 56 := Nat.pow_le_pow_right (by decide) (by omega)
      have h1 : Go.IntKind.wrap .u64 (((toW (rowBy (l.take i)) : Nat) : Int) * 256) = ((toW (rowBy (l.take i)) : Nat) : Int) * 256 := wrapU64 (by omega) (by omega)
      have h2 : Go.IntKind.wrap .u64 l[i] = l[i] := wrapU64 (by omega) (by omega)
      have h3 : Go.IntKind.wrap .u64 (((toW (rowBy (l.take i)) : Nat) : Int) * 256 + l[i]) = ((toW (rowBy (l.take (i + 1))) : Nat) : Int) := by
        rw [wrapU64 (by omega) (by omega), ← List.take_append_getElem hi, rowBy_snoc, toW_append, bitsOf_len, Int.natCast_add, w_byte hb]
        omega
      simp only [ref01_Num_L3, d1, cond_true, getI_lt l i hi, Option.bind_some, h1, h2, h3, wrap64 (show -9223372036854775808 ≤ (i : Int) + 1 by omega) (show (i : Int) + 1 < 9223372036854775808 by omega), Int.natCast_add, Int.natCast_one]
    · have d1 : decide ((l.length : Int) < (l.length : Int)) = false := decide_eq_false (by omega)
      simp only [ref01_Num_L3, d1, cond_false, List.take_length]
  simp only [ref01_Num, e1, Option.bind_some]
theorem get8_ok (l : List Int) (hl : l.length = 8) (hB : AllB l) (hN : 100 ≤ N) : octs_Get N l false = some (((toW (rowBy l) : Nat) : Int), 0) := by
  have e1 : octs_Get_L5_R N ((l, (false, ((0 : Int), ((8 : Int), ((0 : Int), ()))))), ()) = some (((toW (rowBy l) : Int), ()), ()) := by
    unfold octs_Get_L5_R
    have := gl_run (G := fun X c => octs_Get_L5 N X c.1.1 c.1.2.1 c.1.2.2.1 c.1.2.2.2.1 c.1.2.2.2.2.1) (fun i => ((l, (false, (((toW (rowBy (l.drop (8 - i))) : Nat) : Int), ((8 : Int), ((i : Int), ()))))), ())) 8 (((toW (rowBy l) : Int), ()), ()) (fun X i hi => ?_) (fun X => rfl) N 0 (Nat.zero_le _) (by omega)
    · have h0 : l.drop (8 - 0) = [] := List.drop_eq_nil_of_le (by omega)
      simp only [h0] at this
      exact this
    · have d1 : decide ((i : Int) < (8 : Int)) = true := decide_eq_true (by omega)
      have hp : octs_place N (i : Int) ((l.length : Nat) : Int) false = some ((7 - i : Nat) : Int) := by
        have a1 : Go.IntKind.wrap .i64 (((l.length : Nat) : Int) - 1) = 7 := by rw [hl]; rfl
        have a2 : Go.IntKind.wrap .i64 ((7 : Int) - (i : Int)) = ((7 - i : Nat) : Int) := by rw [wrap64 (by omega) (by omega)]; omega
        simp only [octs_place, cond_false, a1, a2]
      have hil : 7 - i < l.length := by omega
      have hb := hB.get (7 - i) hil
      have hw8 : Go.IntKind.wrap .i64 ((8 : Int) * (i : Int)) = ((8 * i : Nat) : Int) := by rw [wrap64 (by omega) (by omega)]; omega
      have d2 : decide ((0 : Int) ≤ ((8 * i : Nat) : Int)) = true := decide_eq_true (by omega)
      have hm : min (8 * i) (Go.IntKind.bits .u64) = 8 * i := by show min _ 64 = _; omega
      have hwb : Go.IntKind.wrap .u64 l[7 - i] = ((toW (bitsOf 8 l[7 - i].toNat) : Nat) : Int) := by rw [w_byte hb]; exact wrapU64 (by omega) (by omega)
      have hrl : (rowBy (l.drop (8 - i))).length = 8 * i := by rw [rowBy_len, List.length_drop]; omega
      have hor := or_words (bitsOf 8 l[7 - i].toNat) (rowBy (l.drop (8 - i))) (by rw [bitsOf_len, hrl]; omega)
      have hdr : l.drop (8 - (i + 1)) = l[7 - i] :: l.drop (8 - i) := by
        have := List.drop_eq_getElem_cons hil
        rw [show 8 - (i + 1) = 7 - i by omega, this, show 7 - i + 1 = 8 - i by omega]
      rw [hrl, ← rowBy_cons, ← hdr, or64_comm] at hor
      have hpw : (2 : Int) ^ (8 * i) = ((2 ^ (8 * i) : Nat) : Int) := by simp
      have hw2 : Go.IntKind.wrap .i64 ((i : Int) + 1) = ((i + 1 : Nat) : Int) := by rw [wrap64 (by omega) (by omega)]; omega
      simp only [octs_Get_L5, d1, cond_true, hp, Option.bind_some, getI_lt l (7 - i) hil, hw8, d2, Int.toNat_natCast, hm, hwb, hpw, hor, hw2]
  have c1 : decide (((l.length : Nat) : Int) < 1) = false := decide_eq_false (by omega)
  have c2 : decide ((8 : Int) < ((l.length : Nat) : Int)) = false := decide_eq_false (by omega)
  have hl8 : ((l.length : Nat) : Int) = 8 := by omega
  simp only [octs_Get, c1, c2, cond_false]
  rw [hl8, e1]
  rfl
def byB : Nat → Nat → List Int
  | 0, _ => []
  | w + 1, x => byB w (x / 256) ++ [((x % 256 : Nat) : Int)]
theorem byB_len : ∀ w x, (byB w x).length = w
  | 0, _ => rfl
  | w + 1, x => by simp [byB, byB_len w]
theorem byB_cons : ∀ (w x : Nat), byB (w + 1) x = ((x / 256 ^ w % 256 : Nat) : Int) :: byB w x
  | 0, x => by simp [byB]
  | w + 1, x => by
    rw [byB, byB_cons w (x / 256), byB, Nat.div_div_eq_div_mul, ← Nat.pow_succ']
    rfl
theorem byB_B : ∀ w x, AllB (byB w x)
  | 0, _ => AllB.nil
  | w + 1, x => (byB_B w _).append (AllB.cons (by omega) AllB.nil)
theorem div256 (y : Nat) (hy : y < 18446744073709551616) : Go.IntKind.wrap .u64 (Int.tdiv (y : Int) 256) = ((y / 256 : Nat) : Int) := by
  rw [Int.tdiv_eq_ediv_of_nonneg (Int.natCast_nonneg _), wrapU64 (by omega) (by omega)]; omega
theorem mod256 (y : Nat) : Go.IntKind.wrap .u8 (Int.tmod (y : Int) 256) = ((y % 256 : Nat) : Int) := by
  rw [Int.tmod_eq_emod_of_nonneg (Int.natCast_nonneg _), wrapU8 (by omega) (by omega)]; omega
theorem u8mod (y : Nat) : Go.IntKind.wrap .u8 (y : Int) = ((y % 256 : Nat) : Int) := by rw [IntKind.wrap_u8]; omega
theorem set8 (v i : Nat) (hi : i < 8) : (List.replicate (8 - i) (0 : Int) ++ byB i v).set (7 - i) ((v / 256 ^ i % 256 : Nat) : Int) = List.replicate (8 - (i + 1)) (0 : Int) ++ byB (i + 1) v := by
  obtain ⟨k, hk⟩ : ∃ k, 8 - i = k + 1 := ⟨7 - i, by omega⟩
  rw [hk, show 7 - i = k by omega, set_mid, show 8 - (i + 1) = k by omega, byB_cons]
theorem get_8 (v i : Nat) (hi : i < 8) : ∃ x, (List.replicate (8 - i) (0 : Int) ++ byB i v)[7 - i]? = some x := ⟨_, List.getElem?_eq_getElem (by rw [List.length_append, List.length_replicate, byB_len]; omega)⟩
theorem len_8 (v i : Nat) (hi : i ≤ 8) : (List.replicate (8 - i) (0 : Int) ++ byB i v).length = 8 := by rw [List.length_append, List.length_replicate, byB_len]; omega
theorem put8_ok (v : Nat) (hv : v < 18446744073709551616) (hN : 100 ≤ N) : octs_Put N (v : Int) 8 false = some (byB 8 v, 0) := by
  have e1 : octs_Put_L5_R N (((v : Int), ((8 : Int), (false, ((8 : Int), ((0 : Int), ()))))), (List.replicate 8 (0 : Int), ())) = some ((), (byB 8 v, ())) := by
    unfold octs_Put_L5_R
    have := gl_run (G := fun X c => octs_Put_L5 N X c.1.1 c.1.2.1 c.1.2.2.1 c.1.2.2.2.1 c.1.2.2.2.2.1 c.2.1) (fun i => ((((v / 256 ^ i : Nat) : Int), ((8 : Int), (false, ((8 : Int), ((i : Int), ()))))), (List.replicate (8 - i) (0 : Int) ++ byB i v, ()))) 8 ((), (byB 8 v, ())) (fun X i hi => ?_) (fun X => rfl) N 0 (Nat.zero_le _) (by omega)
    · simpa [byB] using this
    · have d1 : decide ((i : Int) < (8 : Int)) = true := decide_eq_true (by omega)
      have hp : octs_place N (i : Int) (8 : Int) false = some ((7 - i : Nat) : Int) := by
        have a1 : Go.IntKind.wrap .i64 ((8 : Int) - 1) = 7 := rfl
        have a2 : Go.IntKind.wrap .i64 ((7 : Int) - (i : Int)) = ((7 - i : Nat) : Int) := by rw [wrap64 (by omega) (by omega)]; omega
        simp only [octs_place, cond_false, a1, a2]
      have d2 : decide ((0 : Int) ≤ ((7 - i : Nat) : Int) ∧ ((7 - i : Nat) : Int) < ((List.replicate (8 - i) (0 : Int) ++ byB i v).length : Int)) = true := decide_eq_true (by rw [len_8 v i (by omega)]; omega)
      obtain ⟨x, hx⟩ := get_8 v i hi
      have hpw : (2 : Int) ^ (min (Int.toNat (8 : Int)) (Go.IntKind.bits .u64)) = (2 : Int) ^ 8 := rfl
      have hf : Int.fdiv ((v / 256 ^ i : Nat) : Int) ((2 : Int) ^ 8) = ((v / 256 ^ (i + 1) : Nat) : Int) := by rw [fdivN, Nat.div_div_eq_div_mul, show (2 : Nat) ^ 8 = 256 from rfl, ← Nat.pow_succ]
      have hw2 : Go.IntKind.wrap .i64 ((i : Int) + 1) = ((i + 1 : Nat) : Int) := by rw [wrap64 (by omega) (by omega)]; omega
      simp only [octs_Put_L5, d1, cond_true, hp, Option.bind_some, d2, Int.toNat_natCast, hx, hpw, hf, u8mod, set8 v i hi, hw2]
  have c3 : roomB (Int.toNat 8) 1 = true := by decide
  have hr : List.replicate (Int.toNat 8) (0 : Int) = List.replicate 8 0 := rfl
  have hl8 : ((List.replicate 8 (0 : Int)).length : Int) = 8 := rfl
  unfold octs_Put
  rw [decide_eq_false (show ¬ ((8 : Int) < 1) by decide), decide_eq_false (show ¬ ((8 : Int) < 8) by decide), decide_eq_true (show (0 : Int) ≤ 8 ∧ (8 : Int) ≤ 8 by decide), c3, hr, hl8, e1]
  rfl
theorem big8_ok (v : Nat) (hv : v < 18446744073709551616) (hN : 100 ≤ N) : ref01_Big N (v : Int) 8 = some (byB 8 v) := by
  have e1 : ref01_Big_L3_R N (((v : Int), ((7 : Int), ())), (List.replicate 8 (0 : Int), ())) = some ((), (byB 8 v, ())) := by
    unfold ref01_Big_L3_R
    have := gl_run (G := fun X c => ref01_Big_L3 N X c.1.1 c.1.2.1 c.2.1) (fun i => ((((v / 256 ^ i : Nat) : Int), ((7 : Int) - (i : Int), ())), (List.replicate (8 - i) (0 : Int) ++ byB i v, ()))) 8 ((), (byB 8 v, ())) (fun X i hi => ?_) (fun X => rfl) N 0 (Nat.zero_le _) (by omega)
    · simpa [byB] using this
    · have d1 : decide ((0 : Int) ≤ (7 : Int) - (i : Int)) = true := decide_eq_true (by omega)
      have d2 : decide ((0 : Int) ≤ (7 : Int) - (i : Int) ∧ (7 : Int) - (i : Int) < ((List.replicate (8 - i) (0 : Int) ++ byB i v).length : Int)) = true := decide_eq_true (by rw [len_8 v i (by omega)]; omega)
      have ht : ((7 : Int) - (i : Int)).toNat = 7 - i := by omega
      obtain ⟨x, hx⟩ := get_8 v i hi
      have hf : ((v / 256 ^ i / 256 : Nat) : Int) = ((v / 256 ^ (i + 1) : Nat) : Int) := by rw [Nat.div_div_eq_div_mul, Nat.pow_succ]
      have hw2 : Go.IntKind.wrap .i64 ((7 : Int) - (i : Int) - 1) = (7 : Int) - ((i + 1 : Nat) : Int) := by rw [wrap64 (by omega) (by omega)]; omega
      simp only [ref01_Big_L3, d1, cond_true, Option.bind_some, d2, ht, hx, div256 _ (Nat.lt_of_le_of_lt (Nat.div_le_self v _) hv), hf, mod256, set8 v i hi, hw2]
  have c3 : roomB (Int.toNat 8) 1 = true := by decide
  have hr : List.replicate (Int.toNat 8) (0 : Int) = List.replicate 8 0 := rfl
  have hw : Go.IntKind.wrap .i64 ((8 : Int) - 1) = 7 := rfl
  unfold ref01_Big
  rw [decide_eq_true (show (0 : Int) ≤ 8 ∧ (8 : Int) ≤ 8 by decide), c3, hr, hw, e1]
  rfl
/-! ### A key of seven bytes -/
def packS (s : List Bool × List Int) (b : Bool) : List Bool × List Int := if s.1.length + 1 = 7 then ([], s.2 ++ [((toW (s.1 ++ [b]) : Nat) : Int)]) else (s.1 ++ [b], s.2)
theorem packS_acc (s : List Bool × List Int) (b : Bool) (h : s.1.length ≤ 6) : (packS s b).1.length ≤ 6 ∧ (packS s b).2.length ≤ s.2.length + 1 := by
  unfold packS
  split
  · simp
  · simp; omega
theorem pack_acc : ∀ (l : List Bool) (s : List Bool × List Int), s.1.length ≤ 6 → (l.foldl packS s).1.length ≤ 6 ∧ (l.foldl packS s).2.length ≤ s.2.length + l.length
  | [], s, h => ⟨h, by simp⟩
  | b :: l, s, h => by
    have h1 := packS_acc s b h
    have h2 := pack_acc l (packS s b) h1.1
    exact ⟨h2.1, by rw [List.foldl_cons, List.length_cons]; omega⟩
theorem or8b : ∀ a : Nat, a < 64 → ∀ x : Nat, x < 2 → bits .or .u8 (Go.IntKind.wrap .u8 ((a : Int) * (2 : Int) ^ (min (Int.toNat (1 : Int)) (Go.IntKind.bits .u8)))) (x : Int) = ((2 * a + x : Nat) : Int) := by decide +kernel
theorem and8b : ∀ z : Nat, z < 256 → bits .and .u8 (z : Int) 1 = ((z % 2 : Nat) : Int) := by decide +kernel
theorem each_byte (key : List Int) (i : Nat) (b : Int) (hb : 0 ≤ b ∧ b < 256) (s : List Bool × List Int) (hs : s.1.length ≤ 6) (hs2 : s.2.length ≤ 1000) (hN : 100 ≤ N) :
    bitp_Spread_3_bitp_gathered_5_bitp_each_L4_R N (((8 : Int), (b, (key, ((7 : Int), ((i : Int), ((8 : Int), ((0 : Int), ()))))))), ((7 : Int), (((toW s.1 : Nat) : Int), ((s.1.length : Int), (s.2, ()))))) =
      some (((8 : Int), (key, ((7 : Int), ((i : Int), ())))), ((7 : Int), (((toW ((bitsOf 8 b.toNat).foldl packS s).1 : Nat) : Int), ((((bitsOf 8 b.toNat).foldl packS s).1.length : Int), (((bitsOf 8 b.toNat).foldl packS s).2, ()))))) := by
  obtain ⟨m, rfl⟩ : ∃ m : Nat, b = m := ⟨b.toNat, by omega⟩
  rw [Int.toNat_natCast]
  have hbl := bitsOf_len 8 m
  unfold bitp_Spread_3_bitp_gathered_5_bitp_each_L4_R
  have := gl_run (G := fun X c => bitp_Spread_3_bitp_gathered_5_bitp_each_L4 N X c.1.1 c.1.2.1 c.1.2.2.1 c.1.2.2.2.1 c.1.2.2.2.2.1 c.1.2.2.2.2.2.1 c.1.2.2.2.2.2.2.1 c.2.1 c.2.2.1 c.2.2.2.1 c.2.2.2.2.1)
    (fun j => (((8 : Int), ((m : Int), (key, ((7 : Int), ((i : Int), ((8 : Int), ((j : Int), ()))))))), ((7 : Int), (((toW (((bitsOf 8 m).take j).foldl packS s).1 : Nat) : Int), (((((bitsOf 8 m).take j).foldl packS s).1.length : Int), ((((bitsOf 8 m).take j).foldl packS s).2, ())))))) 8
    (((8 : Int), (key, ((7 : Int), ((i : Int), ())))), ((7 : Int), (((toW ((bitsOf 8 m).foldl packS s).1 : Nat) : Int), ((((bitsOf 8 m).foldl packS s).1.length : Int), (((bitsOf 8 m).foldl packS s).2, ()))))) (fun X j hj => ?_) (fun X => ?_) N 0 (Nat.zero_le _) (by omega)
  · exact this
  · have hjl : j < (bitsOf 8 m).length := by omega
    have hst : ((bitsOf 8 m).take (j + 1)).foldl packS s = packS (((bitsOf 8 m).take j).foldl packS s) (bitsOf 8 m)[j] := by rw [← List.take_append_getElem hjl, List.foldl_append]; rfl
    obtain ⟨a1, a2⟩ := pack_acc ((bitsOf 8 m).take j) s hs
    rw [List.length_take] at a2
    have hbit : (((bitsOf 8 m)[j].toNat : Nat) : Int) = ((m / 2 ^ (7 - j) % 2 : Nat) : Int) := by
      have := bitsOf_get 8 m j hj
      rw [List.getD_eq_getElem?_getD, List.getElem?_eq_getElem hjl, Option.getD_some] at this
      rw [this, show 8 - 1 - j = 7 - j by omega, Nat.testBit_eq_decide_div_mod_eq, ← bitI]
    generalize hsj : ((bitsOf 8 m).take j).foldl packS s = t at *
    have d1 : decide ((j : Int) < (8 : Int)) = true := decide_eq_true (by omega)
    have hw : Go.IntKind.wrap .i64 ((7 : Int) - (j : Int)) = ((7 - j : Nat) : Int) := by rw [wrap64 (by omega) (by omega)]; omega
    have d2 : decide ((0 : Int) ≤ ((7 - j : Nat) : Int)) = true := decide_eq_true (by omega)
    have hm : min (7 - j) (Go.IntKind.bits .u8) = 7 - j := by show min _ 8 = _; omega
    have hand := and8b (m / 2 ^ (7 - j)) (Nat.lt_of_le_of_lt (Nat.div_le_self _ _) (by omega))
    rw [← hbit] at hand
    have htl := toW_lt t.1
    have hp : 2 ^ t.1.length ≤ 2 ^ 6 := Nat.pow_le_pow_right (by decide) a1
    have hbt : (bitsOf 8 m)[j].toNat < 2 := by cases (bitsOf 8 m)[j] <;> simp
    have hor := or8b (toW t.1) (by omega) _ hbt
    rw [← toW_snoc] at hor
    have hw2 : Go.IntKind.wrap .i64 ((j : Int) + 1) = ((j + 1 : Nat) : Int) := by rw [wrap64 (by omega) (by omega)]; omega
    have hw3 : Go.IntKind.wrap .i64 ((t.1.length : Int) + 1) = ((t.1.length + 1 : Nat) : Int) := by rw [wrap64 (by omega) (by omega)]; omega
    have hrm : roomB (t.2.length + [((toW (t.1 ++ [(bitsOf 8 m)[j]]) : Nat) : Int)].length) 1 = true := by
      simp only [List.length_cons, List.length_nil]
      exact roomB_of (by have := big_len; omega) (by omega)
    by_cases h7 : t.1.length + 1 = 7
    · have d3 : decide (((t.1.length + 1 : Nat) : Int) = (7 : Int)) = true := decide_eq_true (by omega)
      have hps : packS t (bitsOf 8 m)[j] = ([], t.2 ++ [((toW (t.1 ++ [(bitsOf 8 m)[j]]) : Nat) : Int)]) := by unfold packS; rw [if_pos h7]
      simp only [bitp_Spread_3_bitp_gathered_5_bitp_each_L4, d1, cond_true, hw, d2, hw3, d3, Int.toNat_natCast, hm, fdivN, hand, hor, hrm, hw2, hst, hps]
      rfl
    · have d3 : decide (((t.1.length + 1 : Nat) : Int) = (7 : Int)) = false := decide_eq_false (by omega)
      have hps : packS t (bitsOf 8 m)[j] = (t.1 ++ [(bitsOf 8 m)[j]], t.2) := by unfold packS; rw [if_neg h7]
      simp only [bitp_Spread_3_bitp_gathered_5_bitp_each_L4, d1, cond_true, cond_false, hw, d2, hw3, d3, Int.toNat_natCast, hm, fdivN, hand, hor, hw2, hst, hps, List.length_append, List.length_cons, List.length_nil, Nat.zero_add]
  · have ht : (bitsOf 8 m).take 8 = bitsOf 8 m := by have := List.take_length (l := bitsOf 8 m); rwa [hbl] at this
    have d1 : decide (((8 : Nat) : Int) < (8 : Int)) = false := rfl
    simp only [bitp_Spread_3_bitp_gathered_5_bitp_each_L4, d1, cond_false, ht]
theorem seven_of : ∀ (c : List Bool), c.length = 7 → ∃ a b x d e f g, c = [a, b, x, d, e, f, g]
  | [a, b, x, d, e, f, g], _ => ⟨a, b, x, d, e, f, g, rfl⟩
theorem pack7 (c rest : List Bool) (out : List Int) (h : c.length = 7) : (c ++ rest).foldl packS ([], out) = rest.foldl packS ([], out ++ [((toW c : Nat) : Int)]) := by
  obtain ⟨a, b, c', d, e, f, g, rfl⟩ := seven_of c h
  simp [packS]
theorem pack_all : ∀ (n : Nat) (K : List Bool) (out : List Int), K.length = 7 * n → (K.foldl packS ([], out)).2 = out ++ (List.range n).map fun i => ((toW ((K.drop (7 * i)).take 7) : Nat) : Int)
  | 0, K, out, h => by rw [List.eq_nil_of_length_eq_zero h]; simp
  | n + 1, K, out, h => by
    have hc : (K.take 7).length = 7 := by rw [List.length_take]; omega
    have := pack7 (K.take 7) (K.drop 7) out hc
    rw [List.take_append_drop] at this
    rw [this, pack_all n (K.drop 7) _ (by rw [List.length_drop]; omega), List.range_succ_eq_map, List.map_cons, List.map_map, List.append_assoc]
    congr 1
    simp only [List.cons_append, List.nil_append, Nat.mul_zero, List.drop_zero]
    congr 1
    apply List.map_congr_left
    intro i _
    simp only [Function.comp, List.drop_drop]
    rw [show 7 * Nat.succ i = 7 + 7 * i by omega]
noncomputable def od (s : Int) : Int := (bitp_Odd 200000 (Go.IntKind.wrap .u8 (s * (2 : Int) ^ (min (Int.toNat (1 : Int)) (Go.IntKind.bits .u8))))).getD 0
theorem od_all : ∀ s : Nat, s < 128 → bitp_Odd 200000 (Go.IntKind.wrap .u8 ((s : Int) * (2 : Int) ^ (min (Int.toNat (1 : Int)) (Go.IntKind.bits .u8)))) = some (od (s : Int)) ∧ ref03_Odd 200000 (Go.IntKind.wrap .u8 (Go.IntKind.wrap .u64 ((2 : Int) * (s : Int)))) = some (od (s : Int)) ∧ 0 ≤ od (s : Int) ∧ od (s : Int) < 256 := by decide +kernel
def sev (key : List Int) : List Int := (List.range 8).map fun i => ((toW (((rowBy key).drop (7 * i)).take 7) : Nat) : Int)
theorem sev_lt (key : List Int) : ∀ s ∈ sev key, ∃ m : Nat, s = m ∧ m < 128 := fun s hs => by
  obtain ⟨i, _, rfl⟩ := List.mem_map.1 hs
  refine ⟨_, rfl, ?_⟩
  have := toW_lt (((rowBy key).drop (7 * i)).take 7)
  have hp : 2 ^ (((rowBy key).drop (7 * i)).take 7).length ≤ 2 ^ 7 := Nat.pow_le_pow_right (by decide) (by rw [List.length_take]; omega)
  omega
theorem spread_p (key : List Int) (hl : key.length = 7) (hB : AllB key) : bitp_Spread 200000 key = some ((sev key).map od, 0) := by
  have e1 : bitp_Spread_3_bitp_gathered_5_bitp_each_L1_R 200000 (((8 : Int), (key, ((7 : Int), ((0 : Int), ())))), ((7 : Int), ((0 : Int), ((0 : Int), ([], ()))))) = some ((), ((7 : Int), (((toW ((rowBy key).foldl packS ([], [])).1 : Nat) : Int), ((((rowBy key).foldl packS ([], [])).1.length : Int), (((rowBy key).foldl packS ([], [])).2, ()))))) := by
    unfold bitp_Spread_3_bitp_gathered_5_bitp_each_L1_R
    have := gl_run (G := fun X c => bitp_Spread_3_bitp_gathered_5_bitp_each_L1 200000 X c.1.1 c.1.2.1 c.1.2.2.1 c.1.2.2.2.1 c.2.1 c.2.2.1 c.2.2.2.1 c.2.2.2.2.1)
      (fun i => (((8 : Int), (key, ((7 : Int), ((i : Int), ())))), ((7 : Int), (((toW ((rowBy (key.take i)).foldl packS ([], [])).1 : Nat) : Int), ((((rowBy (key.take i)).foldl packS ([], [])).1.length : Int), (((rowBy (key.take i)).foldl packS ([], [])).2, ())))))) 7
      ((), ((7 : Int), (((toW ((rowBy key).foldl packS ([], [])).1 : Nat) : Int), ((((rowBy key).foldl packS ([], [])).1.length : Int), (((rowBy key).foldl packS ([], [])).2, ()))))) (fun X i hi => ?_) (fun X => ?_) 200000 0 (Nat.zero_le _) (by decide)
    · exact this
    · have hil : i < key.length := by omega
      have d1 : decide ((i : Int) < (7 : Int)) = true := decide_eq_true (by omega)
      obtain ⟨a1, a2⟩ := pack_acc (rowBy (key.take i)) ([], []) (by simp)
      rw [rowBy_len, List.length_take] at a2
      have hst : (rowBy (key.take (i + 1))).foldl packS ([], []) = (bitsOf 8 key[i].toNat).foldl packS ((rowBy (key.take i)).foldl packS ([], [])) := by rw [← List.take_append_getElem hil, rowBy_snoc, List.foldl_append]
      have a2 : ((rowBy (key.take i)).foldl packS ([], [])).2.length ≤ 1000 := by simp at a2; omega
      generalize (rowBy (key.take i)).foldl packS ([], []) = t at *
      have he := each_byte (N := 200000) key i key[i] (hB.get i hil) t a1 a2 (by decide)
      have hw2 : Go.IntKind.wrap .i64 ((i : Int) + 1) = ((i + 1 : Nat) : Int) := by rw [wrap64 (by omega) (by omega)]; omega
      simp only [bitp_Spread_3_bitp_gathered_5_bitp_each_L1, d1, cond_true, getI_lt key i hil, Option.bind_some, he, hst, hw2]
    · have ht : key.take 7 = key := by rw [← hl]; exact List.take_length
      have d1 : decide (((7 : Nat) : Int) < (7 : Int)) = false := rfl
      simp only [bitp_Spread_3_bitp_gathered_5_bitp_each_L1, d1, cond_false, ht]
  have hp := pack_all 8 (rowBy key) [] (by rw [rowBy_len, hl])
  rw [List.nil_append] at hp
  have hp : ((rowBy key).foldl packS ([], [])).2 = sev key := hp
  have hsl : (sev key).length = 8 := by simp [sev]
  have hslt := sev_lt key
  have e2 : bitp_Spread_L5_R 200000 (((8 : Int), ((0 : Int), ())), (sev key, ())) = some ((), ((sev key).map od, ())) := by
    unfold bitp_Spread_L5_R
    have := gl_run (G := fun X c => bitp_Spread_L5 200000 X c.1.1 c.1.2.1 c.2.1) (fun i => (((8 : Int), ((i : Int), ())), (((sev key).take i).map od ++ (sev key).drop i, ()))) 8 ((), ((sev key).map od, ())) (fun X i hi => ?_) (fun X => ?_) 200000 0 (Nat.zero_le _) (by decide)
    · exact this
    · have hil : i < (sev key).length := by omega
      have hA : (((sev key).take i).map od).length = i := by simp; omega
      have hlen : (((sev key).take i).map od ++ (sev key).drop i).length = 8 := by rw [List.length_append, hA, List.length_drop]; omega
      have d1 : decide ((i : Int) < (8 : Int)) = true := decide_eq_true (by omega)
      have d2 : decide ((0 : Int) ≤ (i : Int) ∧ (i : Int) < ((((sev key).take i).map od ++ (sev key).drop i).length : Int)) = true := decide_eq_true (by rw [hlen]; omega)
      have hg : (((sev key).take i).map od ++ (sev key).drop i)[i]? = some (sev key)[i] := by
        rw [List.getElem?_append_right (by omega), hA, Nat.sub_self, List.getElem?_drop, Nat.add_zero, List.getElem?_eq_getElem hil]
      obtain ⟨m, hm, hm2⟩ := hslt _ (List.getElem_mem hil)
      have ho := (od_all m hm2).1
      rw [← hm] at ho
      have hset := set_at (((sev key).take i).map od) (sev key) i (od (sev key)[i]) hA hil
      have hap : ((sev key).take i).map od ++ [od (sev key)[i]] = ((sev key).take (i + 1)).map od := by rw [← List.take_append_getElem hil, List.map_append]; rfl
      rw [hap] at hset
      have hw2 : Go.IntKind.wrap .i64 ((i : Int) + 1) = ((i + 1 : Nat) : Int) := by rw [wrap64 (by omega) (by omega)]; omega
      simp only [bitp_Spread_L5, d1, d2, cond_true, Int.toNat_natCast, hg, Option.bind_some, ho, hset, hw2]
    · have ht : (sev key).take 8 = sev key := by rw [← hsl]; exact List.take_length
      have hd : (sev key).drop 8 = [] := List.drop_eq_nil_of_le (by omega)
      have d1 : decide (((8 : Nat) : Int) < (8 : Int)) = false := rfl
      simp only [bitp_Spread_L5, d1, cond_false, ht, hd, List.append_nil]
  have c1 : decide (((key.length : Nat) : Int) = 7) = true := decide_eq_true (by omega)
  have hk7 : ((key.length : Nat) : Int) = 7 := by omega
  unfold bitp_Spread
  rw [c1, hk7]
  simp only [Bool.not_true, cond_false]
  rw [e1]
  simp only [Option.bind_some]
  rw [hp, hsl]
  rw [show (((8 : Nat) : Int)) = (8 : Int) from rfl, e2]
  rfl
theorem spread_d (key : List Int) (hl : key.length = 7) (hB : AllB key) : ref03_Spread 200000 key = some ((sev key).map od, 0) := by
  have e1 : ref03_Spread_L5_R 200000 ((key, ((0 : Int), ())), ([], ())) = some ((), (rI (rowBy key), ())) := by
    unfold ref03_Spread_L5_R
    have := gl_run (G := fun X c => ref03_Spread_L5 200000 X c.1.1 c.1.2.1 c.2.1) (fun i => ((key, ((i : Int), ())), (rI (rowBy (key.take i)), ()))) 7 ((), (rI (rowBy key), ())) (fun X i hi => ?_) (fun X => ?_) 200000 0 (Nat.zero_le _) (by decide)
    · exact this
    · have hil : i < key.length := by omega
      have d1 : decide ((i : Int) < (7 : Int)) = true := decide_eq_true (by omega)
      have hb := hB.get i hil
      have hwb : Go.IntKind.wrap .u64 key[i] = ((key[i].toNat : Nat) : Int) := by rw [wrapU64 (by omega) (by omega)]; omega
      have hr : ref03_Row 200000 ((key[i].toNat : Nat) : Int) (8 : Int) = some (rI (bitsOf 8 key[i].toNat)) := row_ok _ 8 (by omega) (by decide) (by decide)
      have hrm : roomB ((rI (rowBy (key.take i))).length + (rI (bitsOf 8 key[i].toNat)).length) 1 = true := by
        rw [rI_len, rI_len, rowBy_len, bitsOf_len, List.length_take]
        exact roomB_of (by have := big_len; omega) (by omega)
      have hap : rI (rowBy (key.take i)) ++ rI (bitsOf 8 key[i].toNat) = rI (rowBy (key.take (i + 1))) := by rw [← List.take_append_getElem hil, rowBy_snoc, rI_append]
      have hw2 : Go.IntKind.wrap .i64 ((i : Int) + 1) = ((i + 1 : Nat) : Int) := by rw [wrap64 (by omega) (by omega)]; omega
      simp only [ref03_Spread_L5, d1, cond_true, getI_lt key i hil, Option.bind_some, hwb, hr, hrm, hap, hw2]
    · have ht : key.take 7 = key := by rw [← hl]; exact List.take_length
      have d1 : decide (((7 : Nat) : Int) < (7 : Int)) = false := rfl
      simp only [ref03_Spread_L5, d1, cond_false, ht]
  have hsl : (sev key).length = 8 := by simp [sev]
  have hKl : (rowBy key).length = 56 := by rw [rowBy_len, hl]
  have e2 : ref03_Spread_L9_R 200000 ((rI (rowBy key), ((0 : Int), ())), ([], ())) = some ((), ((sev key).map od, ())) := by
    unfold ref03_Spread_L9_R
    have := gl_run (G := fun X c => ref03_Spread_L9 200000 X c.1.1 c.1.2.1 c.2.1) (fun i => ((rI (rowBy key), ((i : Int), ())), (((sev key).take i).map od, ()))) 8 ((), ((sev key).map od, ())) (fun X i hi => ?_) (fun X => ?_) 200000 0 (Nat.zero_le _) (by decide)
    · exact this
    · have hil : i < (sev key).length := by omega
      have d1 : decide ((i : Int) < (8 : Int)) = true := decide_eq_true (by omega)
      have hw1 : Go.IntKind.wrap .i64 ((7 : Int) * (i : Int)) = ((7 * i : Nat) : Int) := by rw [wrap64 (by omega) (by omega)]; omega
      have hw3 : Go.IntKind.wrap .i64 (((7 * i : Nat) : Int) + 7) = ((7 * i + 7 : Nat) : Int) := by rw [wrap64 (by omega) (by omega)]; omega
      have hs : subI (rI (rowBy key)) ((7 * i : Nat) : Int) ((7 * i + 7 : Nat) : Int) = some (rI (((rowBy key).drop (7 * i)).take 7)) := by
        rw [subI_nat (rI (rowBy key)) rfl rfl (by omega) (by rw [rI_len]; omega), rI_drop, rI_take, show 7 * i + 7 - 7 * i = 7 by omega]
      have hw := word_ok (N := 200000) (((rowBy key).drop (7 * i)).take 7) (by rw [List.length_take]; omega) (by decide)
      have hse : ((toW (((rowBy key).drop (7 * i)).take 7) : Nat) : Int) = (sev key)[i] := by simp [sev]
      obtain ⟨m, hm, hm2⟩ := sev_lt key _ (List.getElem_mem hil)
      have ho := (od_all m hm2).2.1
      rw [← hm] at ho
      have hrm : roomB ((((sev key).take i).map od).length + [od (sev key)[i]].length) 1 = true := by
        simp only [List.length_map, List.length_take, List.length_cons, List.length_nil]
        exact roomB_of (by have := big_len; omega) (by omega)
      have hap : ((sev key).take i).map od ++ [od (sev key)[i]] = ((sev key).take (i + 1)).map od := by rw [← List.take_append_getElem hil, List.map_append]; rfl
      have hw2 : Go.IntKind.wrap .i64 ((i : Int) + 1) = ((i + 1 : Nat) : Int) := by rw [wrap64 (by omega) (by omega)]; omega
      simp only [ref03_Spread_L9, d1, cond_true, hw1, hw3, hs, Option.bind_some, hw, hse, ho, hrm, hap, hw2]
    · have ht : (sev key).take 8 = sev key := by rw [← hsl]; exact List.take_length
      have d1 : decide (((8 : Nat) : Int) < (8 : Int)) = false := rfl
      simp only [ref03_Spread_L9, d1, cond_false, ht]
  have c1 : decide (((key.length : Nat) : Int) = 7) = true := decide_eq_true (by omega)
  unfold ref03_Spread
  rw [c1]
  simp only [Bool.not_true, cond_false]
  rw [e1]
  simp only [Option.bind_some]
  rw [e2]
  rfl
theorem seven_eq (key block : List Int) (h1 : AllB key) (h2 : AllB block) : ∃ l e, des_Seven 200000 key block = some (l, e) ∧ ref08_Seven 200000 key block = some (l, e) ∧ l.length ≤ 8 := by
  unfold des_Seven ref08_Seven
  by_cases hk : key.length = 7
  · have c1 : decide (((key.length : Nat) : Int) = 7) = true := decide_eq_true (by omega)
    rw [spread_p key hk h1, spread_d key hk h1, c1]
    simp only [Option.bind_some, decide_true, Bool.not_true, cond_false]
    by_cases hb : block.length = 8
    · have c2 : decide (((block.length : Nat) : Int) = 8) = true := decide_eq_true (by omega)
      rw [c2]
      simp only [Bool.not_true, cond_false]
      have hsl : ((sev key).map od).length = 8 := by simp [sev]
      have hsB : AllB ((sev key).map od) := fun x hx => by
        obtain ⟨s, hs, rfl⟩ := List.mem_map.1 hx
        obtain ⟨m, rfl, hm⟩ := sev_lt key s hs
        exact (od_all m hm).2.2
      generalize (sev key).map od = sp at *
      have hrk : (rowBy sp).length = 64 := by rw [rowBy_len, hsl]
      have hrb : (rowBy block).length = 64 := by rw [rowBy_len, hb]
      rw [get8_ok sp hsl hsB (by decide), get8_ok block hb h2 (by decide), num8_ok sp (by omega) hsB (by decide), num8_ok block (by omega) h2 (by decide)]
      simp only [Option.bind_some]
      rw [turn_p _ _ hrk hrb, Turn_d _ _ hrk hrb]
      simp only [Option.bind_some]
      have hv := toW_lt (turnM (keysM (rowBy sp)) (rowBy block))
      rw [turnM_len] at hv
      rw [put8_ok _ (by omega) (by decide), big8_ok _ (by omega) (by decide)]
      exact ⟨_, _, rfl, rfl, by rw [byB_len]; decide⟩
    · have c2 : decide (((block.length : Nat) : Int) = 8) = false := decide_eq_false (by omega)
      rw [c2]
      exact ⟨[], 1, rfl, rfl, by simp⟩
  · have c1 : decide (((key.length : Nat) : Int) = 7) = false := decide_eq_false (by omega)
    have hs : bitp_Spread 200000 key = some ([], 1) := by unfold bitp_Spread; rw [c1]; rfl
    rw [hs, c1]
    exact ⟨[], 1, rfl, rfl, by simp⟩
theorem law_DesSeven (key block : List Int) (h1 : wfT (.sl (.int .u8)) key) (h2 : wfT (.sl (.int .u8)) block) : law08_DesSeven 200000 key block = some true := by
  obtain ⟨l, e, s1, s2, s3⟩ := seven_eq key block (wf_bytes h1) (wf_bytes h2)
  have hsame : ref01_Same 200000 l l = some (decide (l = l)) := sameF_ok (by omega) (by omega)
  unfold law08_DesSeven
  have hal := alive_ok
  generalize des_Seven 200000 key block = o1 at *
  generalize ref08_Seven 200000 key block = o2 at *
  generalize law08_alive 200000 = o3 at *
  subst s1 s2 hal
  simp only [Option.bind_some, hsame, decide_true, cond_true]
  cases decide ((100 : Int) < ((key.length : Nat) : Int)) <;> cases decide ((100 : Int) < ((block.length : Nat) : Int)) <;> rfl
end Go.Proofs.YtopfadmfbgnbhaaDoor
