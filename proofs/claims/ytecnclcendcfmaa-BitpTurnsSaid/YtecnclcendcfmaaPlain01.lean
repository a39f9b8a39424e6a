/-
  Plain facts on lists of bytes and the numbers that they are. Nothing of the program.
-/
import Derived.Test.YtecnclcendcfmaaBase
namespace Go.Proofs.Ytecnclcendcfmaa
set_option maxRecDepth 100000

theorem set_take {α : Type} {cur tgt : List α} {k : Nat} {b : α} (h : cur.take k = tgt.take k) (hk : k < cur.length) (hb : tgt[k]? = some b) : (cur.set k b).take (k + 1) = tgt.take (k + 1) := by
  rw [List.take_add_one, List.take_add_one, hb, List.take_set_of_le (Nat.le_refl _), h]
  simp [hk]
theorem set_drop {α : Type} {cur tgt : List α} {k : Nat} {b : α} (h : cur.drop (k + 1) = tgt.drop (k + 1)) (hk : k < cur.length) (hb : tgt[k]? = some b) : (cur.set k b).drop k = tgt.drop k := by
  have hl : k < tgt.length := (List.getElem?_eq_some_iff.1 hb).1
  have hb' : tgt[k] = b := (List.getElem?_eq_some_iff.1 hb).2
  rw [List.drop_eq_getElem_cons hl, List.drop_eq_getElem_cons (by simpa using hk), List.getElem_set_self, List.drop_set_of_lt (by omega), h, hb']

/-- The lowest w bytes of n, the lowest one first. -/
def leb : Nat → Nat → List UInt8
  | 0, _ => []
  | w + 1, n => UInt8.ofNat n :: leb w (n / 256)
theorem leb_length (w n : Nat) : (leb w n).length = w := by
  induction w generalizing n with
  | zero => rfl
  | succ w ih => simp [leb, ih]
theorem leb_at (w n j : Nat) (h : j < w) : (leb w n)[j]? = some (UInt8.ofNat (n / 256 ^ j)) := by
  induction w generalizing n j with
  | zero => omega
  | succ w ih =>
    cases j with
    | zero => simp [leb]
    | succ j =>
      rw [leb, List.getElem?_cons_succ, ih _ _ (by omega), Nat.div_div_eq_div_mul, Nat.pow_succ, Nat.mul_comm]
/-- A number laid. -/
def laid (w n : Nat) (little : Bool) : List UInt8 := if little then leb w n else (leb w n).reverse
theorem laid_length (w n : Nat) (l : Bool) : (laid w n l).length = w := by
  cases l <;> simp [laid, leb_length]
theorem laid_big_at (w n j : Nat) (h : j < w) : (laid w n false)[w - 1 - j]? = some (UInt8.ofNat (n / 256 ^ j)) := by
  have e : w - 1 - (w - 1 - j) = j := by omega
  simp only [laid, Bool.false_eq_true, if_false]
  rw [List.getElem?_reverse (by rw [leb_length]; omega), leb_length, e, leb_at w n j h]
theorem laid_little_at (w n j : Nat) (h : j < w) : (laid w n true)[j]? = some (UInt8.ofNat (n / 256 ^ j)) := by
  simp only [laid, if_true]
  exact leb_at w n j h

/-- The number of bytes, the lowest one first. -/
def nle : List UInt8 → Nat
  | [] => 0
  | b :: r => b.toNat + 256 * nle r
theorem nle_lt (l : List UInt8) : nle l < 256 ^ l.length := by
  induction l with
  | nil => simp [nle]
  | cons b r ih =>
    have := b.toNat_lt
    simp only [nle, List.length_cons, Nat.pow_succ]
    omega
theorem nle_snoc (l : List UInt8) (b : UInt8) : nle (l ++ [b]) = nle l + b.toNat * 256 ^ l.length := by
  induction l with
  | nil => simp [nle]
  | cons c r ih =>
    simp only [List.cons_append, nle, ih, List.length_cons, Nat.pow_succ]
    rw [Nat.mul_add, ← Nat.add_assoc]
    congr 1
    rw [← Nat.mul_assoc, Nat.mul_comm 256 b.toNat, Nat.mul_assoc, Nat.mul_comm 256]
theorem nle_leb (w n : Nat) : nle (leb w n) = n % 256 ^ w := by
  induction w generalizing n with
  | zero => simp [leb, nle, Nat.mod_one]
  | succ w ih =>
    have h : (UInt8.ofNat n).toNat = n % 256 := by simp
    rw [leb, nle, ih, h, Nat.pow_succ, Nat.mul_comm (256 ^ w) 256, Nat.mod_mul]
/-- The number of bytes, in either order. -/
def num (bs : List UInt8) (little : Bool) : Nat := if little then nle bs else nle bs.reverse
theorem num_laid (w n : Nat) (l : Bool) : num (laid w n l) l = n % 256 ^ w := by
  cases l <;> simp [num, laid, nle_leb]
/-- The number of bytes, the highest one first, byte by byte. -/
def nbe (bs : List UInt8) : Nat := bs.foldl (fun n b => n * 256 + b.toNat) 0
theorem nbe_snoc (l : List UInt8) (b : UInt8) : nbe (l ++ [b]) = nbe l * 256 + b.toNat := by simp [nbe]
theorem nbe_from (l : List UInt8) : ∀ a : Nat, l.foldl (fun n b => n * 256 + b.toNat) a = a * 256 ^ l.length + nle l.reverse := by
  induction l with
  | nil => intro a; simp [nle]
  | cons b r ih =>
    intro a
    rw [List.foldl_cons, ih, List.reverse_cons, nle_snoc, List.length_reverse, List.length_cons, Nat.pow_succ, Nat.add_mul, Nat.mul_assoc, Nat.mul_comm 256 (256 ^ r.length)]
    omega
theorem nbe_eq (l : List UInt8) : nbe l = nle l.reverse := by
  have := nbe_from l 0
  simpa [nbe] using this
theorem u8c (m : Nat) : (m : Int) % 256 = ((UInt8.ofNat m).toNat : Int) := by simp
theorem div_pow_succ (N k : Nat) : N / 256 ^ k / 256 = N / 256 ^ (k + 1) := by rw [Nat.div_div_eq_div_mul, Nat.pow_succ]
theorem nbe_lt (l : List UInt8) : nbe l < 256 ^ l.length := by
  rw [nbe_eq]; have := nle_lt l.reverse; rwa [List.length_reverse] at this
theorem take_snoc {α : Type} {l : List α} {k : Nat} {x : α} (h : l[k]? = some x) : l.take (k + 1) = l.take k ++ [x] := by
  rw [List.take_add_one, h]; rfl
theorem pow256_le {k : Nat} (h : k ≤ 7) : 256 ^ k ≤ 72057594037927936 := by
  have : 256 ^ k ≤ 256 ^ 7 := Nat.pow_le_pow_right (by omega) h
  omega
theorem or_add {a b k : Nat} (h : a < 256 ^ k) : a ||| b * 256 ^ k = a + b * 256 ^ k := by
  have e : (256 : Nat) ^ k = 2 ^ (8 * k) := by rw [Nat.pow_mul]
  rw [e] at h ⊢
  rw [Nat.or_comm, nat_join (8 * k) _ _ (Nat.mul_mod_left _ _) h, Nat.add_comm]
theorem ofInt_i64 (a : Nat) (ha : a < 9223372036854775808) : (BitVec.ofInt 64 (a : Int)).toNat = a := by
  rw [BitVec.ofInt_natCast, BitVec.toNat_ofNat]; exact Nat.mod_eq_of_lt (by omega)
theorem i64_or_nat (a b : Nat) (ha : a < 9223372036854775808) (hb : b < 9223372036854775808) : bits .or .i64 (a : Int) (b : Int) = ((a ||| b : Nat) : Int) := by
  have hx : a ||| b < 2 ^ 63 := Nat.or_lt_two_pow (by omega) (by omega)
  show IntKind.i64.wrap ((BitVec.ofInt 64 (a : Int) ||| BitVec.ofInt 64 (b : Int)).toNat : Int) = _
  rw [BitVec.toNat_or, ofInt_i64 a ha, ofInt_i64 b hb, IntKind.wrap_i64]
  omega
theorem i64_xor_nat (a b : Nat) (ha : a < 9223372036854775808) (hb : b < 9223372036854775808) : bits .xor .i64 (a : Int) (b : Int) = ((a ^^^ b : Nat) : Int) := by
  have hx : a ^^^ b < 2 ^ 63 := Nat.xor_lt_two_pow (by omega) (by omega)
  show IntKind.i64.wrap ((BitVec.ofInt 64 (a : Int) ^^^ BitVec.ofInt 64 (b : Int)).toNat : Int) = _
  rw [BitVec.toNat_xor, ofInt_i64 a ha, ofInt_i64 b hb, IntKind.wrap_i64]
  omega
theorem u8_xor_u (x y : UInt8) : bits .xor .u8 (x.toNat : Int) (y.toNat : Int) = ((x ^^^ y).toNat : Int) := by
  rw [u8_xor_nat _ _ x.toNat_lt y.toNat_lt]; simp
theorem nxor_zero (a b : Nat) : a ^^^ b = 0 ↔ a = b := by
  constructor
  · intro h
    have : a ^^^ b ^^^ b = 0 ^^^ b := by rw [h]
    rw [Nat.xor_assoc, Nat.xor_self, Nat.xor_zero, Nat.zero_xor] at this
    exact this
  · rintro rfl; exact Nat.xor_self _
theorem nor_zero (a b : Nat) : a ||| b = 0 ↔ a = 0 ∧ b = 0 := Nat.or_eq_zero_iff
theorem u8xor_zero (x y : UInt8) : (x ^^^ y).toNat = 0 ↔ x = y := by
  rw [UInt8.toNat_xor, nxor_zero, UInt8.toNat_inj]
end Go.Proofs.Ytecnclcendcfmaa
