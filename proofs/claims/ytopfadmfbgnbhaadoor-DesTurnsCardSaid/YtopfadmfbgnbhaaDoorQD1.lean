/-
  Rows of bits: numbers that they tell; layer 8, on plain data.
-/
import Derived.Test.YtopfadmfbgnbhaaDoorQOcts
namespace Go.Proofs.YtopfadmfbgnbhaaDoor
set_option maxRecDepth 100000
open Go.RowKit
set_option linter.unusedVariables false
set_option linter.unusedSimpArgs false
set_option maxRecDepth 100000

/-- The number of a row of bits, the highest first. -/
def toW (l : List Bool) : Nat := l.foldl (fun a b => 2 * a + b.toNat) 0
theorem toW_nil : toW [] = 0 := rfl
theorem toW_snoc (l : List Bool) (b : Bool) : toW (l ++ [b]) = 2 * toW l + b.toNat := by simp [toW, List.foldl_append]
theorem toW_append (l : List Bool) : ∀ m : List Bool, toW (l ++ m) = toW l * 2 ^ m.length + toW m := by
  intro m
  generalize hn : m.length = n
  induction n generalizing m with
  | zero => rw [List.eq_nil_of_length_eq_zero hn]; simp [toW_nil]
  | succ n ih =>
    have hne : m ≠ [] := fun h => by rw [h] at hn; cases hn
    obtain ⟨m', b, rfl⟩ : ∃ m' b, m = m' ++ [b] := ⟨_, _, (List.dropLast_concat_getLast hne).symm⟩
    have hl : m'.length = n := by simpa using hn
    rw [← List.append_assoc, toW_snoc, toW_snoc, ih m' hl, Nat.pow_succ, Nat.mul_add, ← Nat.mul_assoc]
    rw [Nat.mul_comm 2 (toW l), Nat.mul_assoc (toW l), Nat.mul_comm 2 (2 ^ n)]
    omega
theorem toW_lt : ∀ l : List Bool, toW l < 2 ^ l.length := by
  intro l
  generalize hn : l.length = n
  induction n generalizing l with
  | zero => rw [List.eq_nil_of_length_eq_zero hn]; simp [toW_nil]
  | succ n ih =>
    have hne : l ≠ [] := fun h => by rw [h] at hn; cases hn
    obtain ⟨m', b, rfl⟩ : ∃ m' b, l = m' ++ [b] := ⟨_, _, (List.dropLast_concat_getLast hne).symm⟩
    have := ih m' (by simpa using hn)
    rw [toW_snoc, Nat.pow_succ]
    have : b.toNat ≤ 1 := by cases b <;> simp
    omega
theorem toW_div (l : List Bool) (k : Nat) (h : k ≤ l.length) : toW l / 2 ^ (l.length - k) = toW (l.take k) := by
  have e := toW_append (l.take k) (l.drop k)
  rw [List.take_append_drop, List.length_drop] at e
  have hl := toW_lt (l.drop k)
  rw [List.length_drop] at hl
  rw [e, Nat.mul_comm, Nat.mul_add_div (Nat.two_pow_pos _), Nat.div_eq_of_lt hl]
  omega
theorem toW_mod (l : List Bool) (k : Nat) (h : k ≤ l.length) : toW l % 2 ^ (l.length - k) = toW (l.drop k) := by
  have e := toW_append (l.take k) (l.drop k)
  rw [List.take_append_drop, List.length_drop] at e
  have hl := toW_lt (l.drop k)
  rw [List.length_drop] at hl
  rw [e, Nat.mul_comm, Nat.mul_add_mod, Nat.mod_eq_of_lt hl]
theorem toW_one (b : Bool) : toW [b] = b.toNat := by cases b <;> rfl
/-- A bit of a row, from 1 on. -/
theorem toW_bit (l : List Bool) (i : Nat) (h1 : 1 ≤ i) (h2 : i ≤ l.length) : toW l / 2 ^ (l.length - i) % 2 = (l.getD (i - 1) false).toNat := by
  rw [toW_div l i h2]
  have e := toW_mod (l.take i) (i - 1) (by rw [List.length_take]; omega)
  rw [List.length_take, Nat.min_eq_left h2, show i - (i - 1) = 1 by omega, Nat.pow_one] at e
  rw [e]
  have hd : (l.take i).drop (i - 1) = [l.getD (i - 1) false] := by
    rw [List.drop_take, show i - (i - 1) = 1 by omega, List.drop_eq_getElem_cons (show i - 1 < l.length by omega), List.getD_eq_getElem?_getD, List.getElem?_eq_getElem (by omega)]
    rfl
  rw [hd, toW_one]
theorem toW_inj : ∀ {l m : List Bool}, l.length = m.length → toW l = toW m → l = m := by
  intro l m hl
  generalize hn : l.length = n
  induction n generalizing l m with
  | zero => intro _; rw [List.eq_nil_of_length_eq_zero hn, List.eq_nil_of_length_eq_zero (by omega : m.length = 0)]
  | succ n ih =>
    intro h
    have hne : l ≠ [] := fun h => by rw [h] at hn; cases hn
    have hne' : m ≠ [] := fun h => by rw [h] at hl; simp at hl; rw [hl] at hn; cases hn
    obtain ⟨l', b, rfl⟩ : ∃ m' b, l = m' ++ [b] := ⟨_, _, (List.dropLast_concat_getLast hne).symm⟩
    obtain ⟨m', c, rfl⟩ : ∃ m' b, m = m' ++ [b] := ⟨_, _, (List.dropLast_concat_getLast hne').symm⟩
    rw [toW_snoc, toW_snoc] at h
    have hb : b.toNat = c.toNat ∧ toW l' = toW m' := by
      have h1 : b.toNat ≤ 1 := by cases b <;> simp
      have h2 : c.toNat ≤ 1 := by cases c <;> simp
      omega
    have hbc : b = c := by have := hb.1; cases b <;> cases c <;> simp at this <;> rfl
    rw [hbc, ih (by simpa using hl) (by simpa using hn) hb.2]
/-- The bits of a number, so many. -/
def bitsOf : Nat → Nat → List Bool
  | 0, _ => []
  | w + 1, x => bitsOf w (x / 2) ++ [decide (x % 2 = 1)]
theorem bitsOf_len : ∀ w x, (bitsOf w x).length = w
  | 0, _ => rfl
  | w + 1, x => by simp [bitsOf, bitsOf_len w]
theorem toW_bitsOf : ∀ w x, toW (bitsOf w x) = x % 2 ^ w
  | 0, x => by simp [bitsOf, toW_nil, Nat.mod_one]
  | w + 1, x => by
    rw [bitsOf, toW_snoc, toW_bitsOf w (x / 2)]
    have hb : (decide (x % 2 = 1)).toNat = x % 2 := by
      rcases Nat.mod_two_eq_zero_or_one x with h | h <;> simp [h]
    rw [hb, Nat.pow_succ, Nat.mul_comm (2 ^ w) 2, Nat.mod_mul]
    omega
theorem bitsOf_toW (l : List Bool) : bitsOf l.length (toW l) = l :=
  toW_inj (bitsOf_len _ _) (by rw [toW_bitsOf, Nat.mod_eq_of_lt (toW_lt l)])
theorem toW_full {w x : Nat} (h : x < 2 ^ w) : toW (bitsOf w x) = x := by rw [toW_bitsOf, Nat.mod_eq_of_lt h]
/-- Two rows, bit by bit. -/
def xorL (a b : List Bool) : List Bool := List.zipWith xor a b
theorem xorL_len (a b : List Bool) (h : a.length = b.length) : (xorL a b).length = a.length := by simp [xorL, h]
theorem xor_two (a b : Nat) (x y : Bool) : (2 * a + x.toNat) ^^^ (2 * b + y.toNat) = 2 * (a ^^^ b) + (xor x y).toNat := by
  apply Nat.eq_of_testBit_eq
  intro i
  rw [Nat.testBit_xor]
  cases i with
  | zero => cases x <;> cases y <;> simp [Nat.testBit_zero]
  | succ i =>
    have e : ∀ (a : Nat) (x : Bool), (2 * a + x.toNat).testBit (i + 1) = a.testBit i := fun a x => by
      rw [Nat.testBit_succ]
      congr 1
      have : x.toNat ≤ 1 := by cases x <;> simp
      omega
    rw [e, e, e, Nat.testBit_xor]
theorem toW_xor : ∀ (a b : List Bool), a.length = b.length → toW (xorL a b) = toW a ^^^ toW b := by
  intro a b hl
  generalize hn : a.length = n
  induction n generalizing a b with
  | zero => rw [List.eq_nil_of_length_eq_zero hn, List.eq_nil_of_length_eq_zero (by omega : b.length = 0)]; rfl
  | succ n ih =>
    have hne : a ≠ [] := fun h => by rw [h] at hn; cases hn
    have hne' : b ≠ [] := fun h => by rw [h] at hl; simp at hl; rw [hl] at hn; cases hn
    obtain ⟨a', x, rfl⟩ : ∃ m' b, a = m' ++ [b] := ⟨_, _, (List.dropLast_concat_getLast hne).symm⟩
    obtain ⟨b', y, rfl⟩ : ∃ m' c, b = m' ++ [c] := ⟨_, _, (List.dropLast_concat_getLast hne').symm⟩
    have hl' : a'.length = b'.length := by simpa using hl
    have e : xorL (a' ++ [x]) (b' ++ [y]) = xorL a' b' ++ [xor x y] := by
      unfold xorL; rw [List.zipWith_append hl']; rfl
    rw [e, toW_snoc, toW_snoc, toW_snoc, ih a' b' hl' (by simpa using hn), xor_two]
/-- The bits that a table names. -/
def byM (t : List Int) (l : List Bool) : List Bool := t.map fun i => l.getD (i.toNat - 1) false
theorem byM_len (t : List Int) (l : List Bool) : (byM t l).length = t.length := by simp [byM]
def tabOK (w : Nat) (t : List Int) : Prop := ∀ i ∈ t, 1 ≤ i ∧ i ≤ (w : Int)
instance (w : Nat) (t : List Int) : Decidable (tabOK w t) := List.decidableBAll _ _
def rI (l : List Bool) : List Int := l.map fun b => (b.toNat : Int)
theorem rI_len (l : List Bool) : (rI l).length = l.length := by simp [rI]
theorem rI_append (l m : List Bool) : rI (l ++ m) = rI l ++ rI m := by simp [rI]
theorem rI_take (l : List Bool) (n : Nat) : (rI l).take n = rI (l.take n) := by simp [rI, List.map_take]
theorem rI_drop (l : List Bool) (n : Nat) : (rI l).drop n = rI (l.drop n) := by simp [rI, List.map_drop]

/-! ### Operations on words -/
theorem q64_and (a b : Nat) (ha : a < 18446744073709551616) (hb : b < 18446744073709551616) : bits .and .u64 (a : Int) (b : Int) = ((a &&& b : Nat) : Int) := by
  have hx : a &&& b < 18446744073709551616 := Nat.lt_of_le_of_lt Nat.and_le_left ha
  show IntKind.u64.wrap ((BitVec.ofInt 64 (a : Int) &&& BitVec.ofInt 64 (b : Int)).toNat : Int) = _
  rw [BitVec.toNat_and, q64_of a ha, q64_of b hb, IntKind.wrap_u64]
  omega
theorem q64_xor (a b : Nat) (ha : a < 18446744073709551616) (hb : b < 18446744073709551616) : bits .xor .u64 (a : Int) (b : Int) = ((a ^^^ b : Nat) : Int) := by
  have hx : a ^^^ b < 2 ^ 64 := Nat.xor_lt_two_pow (n := 64) (by omega) (by omega)
  show IntKind.u64.wrap ((BitVec.ofInt 64 (a : Int) ^^^ BitVec.ofInt 64 (b : Int)).toNat : Int) = _
  rw [BitVec.toNat_xor, q64_of a ha, q64_of b hb, IntKind.wrap_u64]
  omega
theorem q32_of (a : Nat) (ha : a < 4294967296) : (BitVec.ofInt 32 (a : Int)).toNat = a := by
  rw [BitVec.ofInt_natCast, BitVec.toNat_ofNat]; exact Nat.mod_eq_of_lt (by omega)
theorem q32_xor (a b : Nat) (ha : a < 4294967296) (hb : b < 4294967296) : bits .xor .u32 (a : Int) (b : Int) = ((a ^^^ b : Nat) : Int) := by
  have hx : a ^^^ b < 2 ^ 32 := Nat.xor_lt_two_pow (n := 32) (by omega) (by omega)
  show IntKind.u32.wrap ((BitVec.ofInt 32 (a : Int) ^^^ BitVec.ofInt 32 (b : Int)).toNat : Int) = _
  rw [BitVec.toNat_xor, q32_of a ha, q32_of b hb, IntKind.wrap_u32]
  omega
theorem q8_of (a : Nat) (ha : a < 256) : (BitVec.ofInt 8 (a : Int)).toNat = a := by
  rw [BitVec.ofInt_natCast, BitVec.toNat_ofNat]; exact Nat.mod_eq_of_lt (by omega)
theorem q8_xor (a b : Nat) (ha : a < 256) (hb : b < 256) : bits .xor .u8 (a : Int) (b : Int) = ((a ^^^ b : Nat) : Int) := by
  have hx : a ^^^ b < 2 ^ 8 := Nat.xor_lt_two_pow (n := 8) (by omega) (by omega)
  show IntKind.u8.wrap ((BitVec.ofInt 8 (a : Int) ^^^ BitVec.ofInt 8 (b : Int)).toNat : Int) = _
  rw [BitVec.toNat_xor, q8_of a ha, q8_of b hb, IntKind.wrap_u8]
  omega
theorem or64_comm (a b : Int) : bits .or .u64 a b = bits .or .u64 b a := by
  show IntKind.u64.wrap ((BitVec.ofInt 64 a ||| BitVec.ofInt 64 b).toNat : Int) = IntKind.u64.wrap ((BitVec.ofInt 64 b ||| BitVec.ofInt 64 a).toNat : Int)
  rw [BitVec.or_comm]
/-- A word, and another one behind it. -/
theorem or_words (a b : List Bool) (h : a.length + b.length ≤ 64) : bits .or .u64 (Go.IntKind.wrap .u64 ((toW a : Int) * ((2 ^ b.length : Nat) : Int))) (toW b : Int) = ((toW (a ++ b) : Nat) : Int) := by
  have ha := toW_lt (a ++ b)
  rw [List.length_append] at ha
  have hp : 2 ^ (a.length + b.length) ≤ 2 ^ 64 := Nat.pow_le_pow_right (by decide) h
  have e := toW_append a b
  have hb := toW_lt b
  have hb64 : 2 ^ b.length ≤ 2 ^ 64 := Nat.pow_le_pow_right (by decide) (by omega)
  have hm : toW a * 2 ^ b.length < 18446744073709551616 := by omega
  have e2 : (toW a : Int) * ((2 ^ b.length : Nat) : Int) = ((toW a * 2 ^ b.length : Nat) : Int) := by rw [Int.natCast_mul]
  rw [e2, wrapU64 (by omega) (by omega), or64_comm, or_nat (toW b) (toW a) b.length hb (by omega) hm, e]
theorem xor_words (a b : List Bool) (h : a.length = b.length) (h64 : a.length ≤ 64) : bits .xor .u64 (toW a : Int) (toW b : Int) = ((toW (xorL a b) : Nat) : Int) := by
  have ha := toW_lt a
  have hb := toW_lt b
  have hp : 2 ^ a.length ≤ 2 ^ 64 := Nat.pow_le_pow_right (by decide) h64
  rw [← h] at hb
  rw [q64_xor _ _ (by omega) (by omega), toW_xor a b h]
theorem xor_words32 (a b : List Bool) (h : a.length = b.length) (h32 : a.length ≤ 32) : bits .xor .u32 (toW a : Int) (toW b : Int) = ((toW (xorL a b) : Nat) : Int) := by
  have ha := toW_lt a
  have hb := toW_lt b
  have hp : 2 ^ a.length ≤ 2 ^ 32 := Nat.pow_le_pow_right (by decide) h32
  rw [← h] at hb
  rw [q32_xor _ _ (by omega) (by omega), toW_xor a b h]
end Go.Proofs.YtopfadmfbgnbhaaDoor
