/-
  Parts of my own, one behind the other: QOctsD, QOcts, KD, GIp, QI1.
-/
import Derived.Test.YthakbkoflnpfaaaMrg3
/-
  Numbers as bytes, on plain data: the functions that lay and read them, as they are printed of the program, under names of their own.
-/
namespace Go.Proofs.Ythakbkoflnpfaaa
set_option maxRecDepth 100000
open Go.RowKit
set_option linter.unusedVariables false
set_option linter.unusedSimpArgs false

def qOplace (N : Nat) (i0 : Int) (width1 : Int) (little2 : Bool) : Option (Int) :=
 bif little2 then
  some (i0)
 else
  some ((Go.IntKind.wrap .i64 ((Go.IntKind.wrap .i64 (width1 - (1 : Int))) - i0)))
def qOPutL5 (N : Nat) (X : (((Int) × ((Int) × ((Bool) × ((Int) × ((Int) × Unit))))) × ((List (Int)) × Unit)) → Option ((Unit × ((List (Int)) × Unit)))) (n0 : Int) (width1 : Int) (little2 : Bool) (x19 : Int) (x20 : Int) (h0 : List (Int)) : Option ((Unit × ((List (Int)) × Unit))) :=
 bif (decide (x20 < x19)) then
  Option.bind (qOplace N x20 width1 little2) fun (v8 : Int) =>
  bif (decide ((0 : Int) ≤ v8 ∧ v8 < (((List.length h0) : Nat) : Int))) then
   Option.bind (@GetElem?.getElem? (List Int) Nat Int (fun (as9 : (List Int)) => (fun (i10 : Nat) => (@LT.lt Nat @instLTNat i10 (List.length as9)))) (@List.instGetElem?NatLtLength Int) h0 (Int.toNat v8)) fun (v9 : Int) =>
   (X (((@Int.fdiv n0 (@HPow.hPow Int Nat Int (@instHPow Int Nat (@instPowNat Int @Int.instNatPow)) (2 : Int) (@Min.min Nat @instMinNat (Int.toNat (8 : Int)) (@Go.IntKind.bits @Go.IntKind.u64)))), (width1, (little2, (x19, ((Go.IntKind.wrap .i64 (x20 + (1 : Int))), @Unit.unit))))), ((@List.set Int h0 (Int.toNat v8) (Go.IntKind.wrap .u8 n0)), @Unit.unit)))
  else
   none
 else
  some ((@Unit.unit, (h0, @Unit.unit)))
def qOPutL5R (N : Nat) (c : (((Int) × ((Int) × ((Bool) × ((Int) × ((Int) × Unit))))) × ((List (Int)) × Unit))) : Option ((Unit × ((List (Int)) × Unit))) := gl (fun X c => qOPutL5 N X c.1.1 c.1.2.1 c.1.2.2.1 c.1.2.2.2.1 c.1.2.2.2.2.1 c.2.1) N c
def qOPut (N : Nat) (n0 : Int) (width1 : Int) (little2 : Bool) : Option ((List (Int)) × Int) :=
 bif (decide (width1 < (1 : Int))) then
  some ((([] : List (Int)), (1 : Int)))
 else
  bif (@cond Bool @Bool.false @Bool.true (decide ((8 : Int) < width1))) then
   some ((([] : List (Int)), (1 : Int)))
  else
   bif ((decide ((0 : Int) ≤ width1 ∧ width1 ≤ width1)) && (roomB (Int.toNat width1) 1)) then
    Option.bind (qOPutL5R N ((n0, (width1, (little2, ((((List.length (@List.replicate Int (Int.toNat width1) (0 : Int))) : Nat) : Int), ((0 : Int), @Unit.unit))))), ((@List.replicate Int (Int.toNat width1) (0 : Int)), @Unit.unit))) fun (v4 : (Unit × ((List Int) × Unit))) =>
    some ((v4.2.1, (0 : Int)))
   else
    none
def qOJoinL3 (N : Nat) (X : (((List (List (Int))) × ((Int) × ((List (List (Int))) × ((Int) × ((Int) × Unit))))) × Unit) → Option ((((List (List (Int))) × ((Int) × Unit)) × Unit))) (parts0 : List (List (Int))) (size3 : Int) (x9 : List (List (Int))) (x10 : Int) (x11 : Int) : Option ((((List (List (Int))) × ((Int) × Unit)) × Unit)) :=
 bif (decide (x11 < x10)) then
  Option.bind (getI x9 x11) fun (v7 : (List Int)) =>
  (X ((parts0, ((Go.IntKind.wrap .i64 (size3 + (((List.length v7) : Nat) : Int))), (x9, (x10, ((Go.IntKind.wrap .i64 (x11 + (1 : Int))), @Unit.unit))))), @Unit.unit))
 else
  some (((parts0, (size3, @Unit.unit)), @Unit.unit))
def qOJoinL3R (N : Nat) (c : (((List (List (Int))) × ((Int) × ((List (List (Int))) × ((Int) × ((Int) × Unit))))) × Unit)) : Option ((((List (List (Int))) × ((Int) × Unit)) × Unit)) := gl (fun X c => qOJoinL3 N X c.1.1 c.1.2.1 c.1.2.2.1 c.1.2.2.2.1 c.1.2.2.2.2.1) N c
def qOJoinL9 (N : Nat) (X : (((List (List (Int))) × ((Int) × ((Int) × Unit))) × ((List (Int)) × Unit)) → Option ((Unit × ((List (Int)) × Unit)))) (x22 : List (List (Int))) (x23 : Int) (x24 : Int) (h0 : List (Int)) : Option ((Unit × ((List (Int)) × Unit))) :=
 bif (decide (x24 < x23)) then
  Option.bind (getI x22 x24) fun (v6 : (List Int)) =>
  bif (roomB ((List.length h0) + (List.length v6)) 1) then
   (X ((x22, (x23, ((Go.IntKind.wrap .i64 (x24 + (1 : Int))), @Unit.unit))), ((h0 ++ v6), @Unit.unit)))
  else
   none
 else
  some ((@Unit.unit, (h0, @Unit.unit)))
def qOJoinL9R (N : Nat) (c : (((List (List (Int))) × ((Int) × ((Int) × Unit))) × ((List (Int)) × Unit))) : Option ((Unit × ((List (Int)) × Unit))) := gl (fun X c => qOJoinL9 N X c.1.1 c.1.2.1 c.1.2.2.1 c.2.1) N c
def qOJoin (N : Nat) (parts0 : List (List (Int))) : Option (List (Int)) :=
 Option.bind (qOJoinL3R N ((parts0, ((0 : Int), (parts0, ((((List.length parts0) : Nat) : Int), ((0 : Int), @Unit.unit))))), @Unit.unit)) fun (v2 : (((List (List Int)) × (Int × Unit)) × Unit)) =>
 bif ((decide ((0 : Int) ≤ (0 : Int) ∧ (0 : Int) ≤ v2.1.2.1)) && (roomB (Int.toNat v2.1.2.1) 1)) then
  Option.bind (qOJoinL9R N ((v2.1.1, ((((List.length v2.1.1) : Nat) : Int), ((0 : Int), @Unit.unit))), ((@List.replicate Int (Int.toNat (0 : Int)) (0 : Int)), @Unit.unit))) fun (v3 : (Unit × ((List Int) × Unit))) =>
  some (v3.2.1)
 else
  none
def qOGetL5 (N : Nat) (X : (((List (Int)) × ((Bool) × ((Int) × ((Int) × ((Int) × Unit))))) × Unit) → Option ((((Int) × Unit) × Unit))) (b0 : List (Int)) (little1 : Bool) (n6 : Int) (x17 : Int) (x18 : Int) : Option ((((Int) × Unit) × Unit)) :=
 bif (decide (x18 < x17)) then
  Option.bind (qOplace N x18 (((List.length b0) : Nat) : Int) little1) fun (v7 : Int) =>
  Option.bind (getI b0 v7) fun (v8 : Int) =>
  bif (decide ((0 : Int) ≤ (Go.IntKind.wrap .i64 ((8 : Int) * x18)))) then
   (X ((b0, (little1, ((@Go.bits @Go.BinOp.or @Go.IntKind.u64 n6 (Go.IntKind.wrap .u64 ((Go.IntKind.wrap .u64 v8) * (@HPow.hPow Int Nat Int (@instHPow Int Nat (@instPowNat Int @Int.instNatPow)) (2 : Int) (@Min.min Nat @instMinNat (Int.toNat (Go.IntKind.wrap .i64 ((8 : Int) * x18))) (@Go.IntKind.bits @Go.IntKind.u64)))))), (x17, ((Go.IntKind.wrap .i64 (x18 + (1 : Int))), @Unit.unit))))), @Unit.unit))
  else
   none
 else
  some (((n6, @Unit.unit), @Unit.unit))
def qOGetL5R (N : Nat) (c : (((List (Int)) × ((Bool) × ((Int) × ((Int) × ((Int) × Unit))))) × Unit)) : Option ((((Int) × Unit) × Unit)) := gl (fun X c => qOGetL5 N X c.1.1 c.1.2.1 c.1.2.2.1 c.1.2.2.2.1 c.1.2.2.2.2.1) N c
def qOGet (N : Nat) (b0 : List (Int)) (little1 : Bool) : Option ((Int) × Int) :=
 bif (decide ((((List.length b0) : Nat) : Int) < (1 : Int))) then
  some (((0 : Int), (1 : Int)))
 else
  bif (@cond Bool @Bool.false @Bool.true (decide ((8 : Int) < (((List.length b0) : Nat) : Int)))) then
   some (((0 : Int), (1 : Int)))
  else
   Option.bind (qOGetL5R N ((b0, (little1, ((0 : Int), ((((List.length b0) : Nat) : Int), ((0 : Int), @Unit.unit))))), @Unit.unit)) fun (v3 : ((Int × Unit) × Unit)) =>
   some ((v3.1.1, (0 : Int)))
def qRBigL3 (N : Nat) (X : (((Int) × ((Int) × Unit)) × ((List (Int)) × Unit)) → Option ((Unit × ((List (Int)) × Unit)))) (n0 : Int) (i6 : Int) (h0 : List (Int)) : Option ((Unit × ((List (Int)) × Unit))) :=
 bif (decide ((0 : Int) ≤ i6)) then
  bif (decide ((0 : Int) ≤ i6 ∧ i6 < (((List.length h0) : Nat) : Int))) then
   Option.bind (@GetElem?.getElem? (List Int) Nat Int (fun (as5 : (List Int)) => (fun (i6 : Nat) => (@LT.lt Nat @instLTNat i6 (List.length as5)))) (@List.instGetElem?NatLtLength Int) h0 (Int.toNat i6)) fun (v5 : Int) =>
   (X (((Go.IntKind.wrap .u64 (@Int.tdiv n0 (256 : Int))), ((Go.IntKind.wrap .i64 (i6 - (1 : Int))), @Unit.unit)), ((@List.set Int h0 (Int.toNat i6) (Go.IntKind.wrap .u8 (@Int.tmod n0 (256 : Int)))), @Unit.unit)))
  else
   none
 else
  some ((@Unit.unit, (h0, @Unit.unit)))
def qRBigL3R (N : Nat) (c : (((Int) × ((Int) × Unit)) × ((List (Int)) × Unit))) : Option ((Unit × ((List (Int)) × Unit))) := gl (fun X c => qRBigL3 N X c.1.1 c.1.2.1 c.2.1) N c
def qRBig (N : Nat) (n0 : Int) (width1 : Int) : Option (List (Int)) :=
 bif ((decide ((0 : Int) ≤ width1 ∧ width1 ≤ width1)) && (roomB (Int.toNat width1) 1)) then
  Option.bind (qRBigL3R N ((n0, ((Go.IntKind.wrap .i64 (width1 - (1 : Int))), @Unit.unit)), ((@List.replicate Int (Int.toNat width1) (0 : Int)), @Unit.unit))) fun (v3 : (Unit × ((List Int) × Unit))) =>
  some (v3.2.1)
 else
  none
def qRNumL3 (N : Nat) (X : (((List (Int)) × ((Int) × ((Int) × Unit))) × Unit) → Option ((((Int) × Unit) × Unit))) (b0 : List (Int)) (n3 : Int) (i4 : Int) : Option ((((Int) × Unit) × Unit)) :=
 bif (decide (i4 < (((List.length b0) : Nat) : Int))) then
  Option.bind (getI b0 i4) fun (v5 : Int) =>
  (X ((b0, ((Go.IntKind.wrap .u64 ((Go.IntKind.wrap .u64 (n3 * (256 : Int))) + (Go.IntKind.wrap .u64 v5))), ((Go.IntKind.wrap .i64 (i4 + (1 : Int))), @Unit.unit))), @Unit.unit))
 else
  some (((n3, @Unit.unit), @Unit.unit))
def qRNumL3R (N : Nat) (c : (((List (Int)) × ((Int) × ((Int) × Unit))) × Unit)) : Option ((((Int) × Unit) × Unit)) := gl (fun X c => qRNumL3 N X c.1.1 c.1.2.1 c.1.2.2.1) N c
def qRNum (N : Nat) (b0 : List (Int)) : Option (Int) :=
 Option.bind (qRNumL3R N ((b0, ((0 : Int), ((0 : Int), @Unit.unit))), @Unit.unit)) fun (v2 : ((Int × Unit) × Unit)) =>
 some (v2.1.1)
end Go.Proofs.Ythakbkoflnpfaaa
/-
  Numbers as bytes, on plain data: two bytes, four bytes, and parts that are joined.
-/
namespace Go.Proofs.Ythakbkoflnpfaaa
set_option maxRecDepth 100000
open Go.RowKit
set_option linter.unusedVariables false
set_option linter.unusedSimpArgs false

theorem q64_of (a : Nat) (ha : a < 18446744073709551616) : (BitVec.ofInt 64 (a : Int)).toNat = a := by
  rw [BitVec.ofInt_natCast, BitVec.toNat_ofNat]; exact Nat.mod_eq_of_lt (by omega)
theorem q64_or (a b : Nat) (ha : a < 18446744073709551616) (hb : b < 18446744073709551616) : bits .or .u64 (a : Int) (b : Int) = ((a ||| b : Nat) : Int) := by
  have hx : a ||| b < 2 ^ 64 := Nat.or_lt_two_pow (n := 64) (by omega) (by omega)
  show IntKind.u64.wrap ((BitVec.ofInt 64 (a : Int) ||| BitVec.ofInt 64 (b : Int)).toNat : Int) = _
  rw [BitVec.toNat_or, q64_of a ha, q64_of b hb, IntKind.wrap_u64]
  omega
/-- The lower bits of one, the higher of another one. -/
theorem or_nat (x y k : Nat) (hx : x < 2 ^ k) (hx' : x < 18446744073709551616) (hy : y * 2 ^ k < 18446744073709551616) : bits .or .u64 (x : Int) ((y * 2 ^ k : Nat) : Int) = ((y * 2 ^ k + x : Nat) : Int) := by
  rw [q64_or x (y * 2 ^ k) hx' hy, Nat.or_comm, ← Nat.shiftLeft_eq, ← Nat.shiftLeft_add_eq_or_of_lt hx]
theorem or_at (a b : Int) (k : Nat) (h0 : 0 ≤ a) (ha : a.toNat < 2 ^ k) (ha' : a < 18446744073709551616) (hb : 0 ≤ b) (hk : b.toNat * 2 ^ k < 18446744073709551616) : bits .or .u64 a (b * ((2 ^ k : Nat) : Int)) = b * ((2 ^ k : Nat) : Int) + a := by
  obtain ⟨x, rfl⟩ := Int.eq_ofNat_of_zero_le h0
  obtain ⟨y, rfl⟩ := Int.eq_ofNat_of_zero_le hb
  have := or_nat x y k (by simpa using ha) (by omega) (by simpa using hk)
  rw [Int.natCast_add, Int.natCast_mul] at this
  exact this
theorem wrapU64 {x : Int} (h1 : 0 ≤ x) (h2 : x < 18446744073709551616) : Go.IntKind.wrap .u64 x = x := by
  rw [IntKind.wrap_u64]; omega
section
variable {N : Nat}
theorem big2 (n : Int) (h : 0 ≤ n ∧ n < 18446744073709551616) (hN : 100 ≤ N) : qRBig N n 2 = some [n / 256 % 256, n % 256] := by
  obtain ⟨M, rfl⟩ : ∃ M, N = M + 3 := ⟨N - 3, by omega⟩
  have r1 : roomB (Int.toNat 2) 1 = true := by decide
  have r2 : List.replicate (Int.toNat 2) (0 : Int) = [0, 0] := rfl
  have w1 : Go.IntKind.wrap .i64 ((2 : Int) - 1) = 1 := by decide
  have w2 : Go.IntKind.wrap .i64 ((1 : Int) - 1) = 0 := by decide
  have w3 : Go.IntKind.wrap .i64 ((0 : Int) - 1) = -1 := by decide
  have d1 : Int.tdiv n 256 = n / 256 := Int.tdiv_eq_ediv_of_nonneg h.1
  have d2 : Int.tmod n 256 = n % 256 := Int.tmod_eq_emod_of_nonneg h.1
  have d3 : Int.tmod (n / 256) 256 = n / 256 % 256 := Int.tmod_eq_emod_of_nonneg (by omega)
  have w4 : Go.IntKind.wrap .u64 (n / 256) = n / 256 := wrapU64 (by omega) (by omega)
  have w5 : Go.IntKind.wrap .u8 (n % 256) = n % 256 := wrapU8 (by omega) (by omega)
  have w6 : Go.IntKind.wrap .u8 (n / 256 % 256) = n / 256 % 256 := wrapU8 (by omega) (by omega)
  simp only [qRBig, qRBigL3R, gl, qRBigL3, r1, r2, w1]
  have z0 : Go.IntKind.wrap .i64 (0 : Int) = 0 := by decide
  have z1 : Go.IntKind.wrap .i64 (-1 : Int) = -1 := by decide
  simp [w1, w2, w3, d1, d2, d3, w4, w5, w6, z0, z1]
theorem num2 (x y : Int) (hx : 0 ≤ x ∧ x < 256) (hy : 0 ≤ y ∧ y < 256) (hN : 100 ≤ N) : qRNum N [x, y] = some (x * 256 + y) := by
  obtain ⟨M, rfl⟩ : ∃ M, N = M + 3 := ⟨N - 3, by omega⟩
  have w1 : Go.IntKind.wrap .i64 ((0 : Int) + 1) = 1 := by decide
  have w2 : Go.IntKind.wrap .i64 ((1 : Int) + 1) = 2 := by decide
  have w3 : Go.IntKind.wrap .u64 ((0 : Int) * 256) = 0 := by decide
  have w4 : Go.IntKind.wrap .u64 x = x := wrapU64 (by omega) (by omega)
  have w4' : Go.IntKind.wrap .u64 ((0 : Int) + x) = x := by rw [Int.zero_add]; exact w4
  have w5 : Go.IntKind.wrap .u64 y = y := wrapU64 (by omega) (by omega)
  have w6 : Go.IntKind.wrap .u64 (x * 256) = x * 256 := wrapU64 (by omega) (by omega)
  have w7 : Go.IntKind.wrap .u64 (x * 256 + y) = x * 256 + y := wrapU64 (by omega) (by omega)
  have g0 : getI [x, y] (0 : Int) = some x := rfl
  have g1 : getI [x, y] (1 : Int) = some y := rfl
  simp only [qRNum, qRNumL3R, gl, qRNumL3, g0, Option.bind_some, w1, w3, w4, w4', g1, w2, w5, w6, w7]
  simp [g1, w2, w5, w6, w7]
theorem put2 (n : Int) (h : 0 ≤ n ∧ n < 18446744073709551616) (hN : 100 ≤ N) : qOPut N n 2 false = some ([n / 256 % 256, n % 256], 0) := by
  obtain ⟨M, rfl⟩ : ∃ M, N = M + 3 := ⟨N - 3, by omega⟩
  have r1 : roomB (Int.toNat 2) 1 = true := by decide
  have r2 : List.replicate (Int.toNat 2) (0 : Int) = [0, 0] := rfl
  have w1 : Go.IntKind.wrap .i64 ((2 : Int) - 1) = 1 := by decide
  have w2 : Go.IntKind.wrap .i64 ((1 : Int) - 1) = 0 := by decide
  have w3 : Go.IntKind.wrap .i64 ((0 : Int) + 1) = 1 := by decide
  have w4 : Go.IntKind.wrap .i64 ((1 : Int) + 1) = 2 := by decide
  have w5 : Go.IntKind.wrap .i64 ((1 : Int) - 0) = 1 := by decide
  have e1 : (2 : Int) ^ min (Int.toNat 8) (IntKind.bits IntKind.u64) = 256 := by decide
  have d1 : Int.fdiv n 256 = n / 256 := Int.fdiv_eq_ediv_of_nonneg n (by decide)
  have d2 : Int.fdiv (n / 256) 256 = n / 256 / 256 := Int.fdiv_eq_ediv_of_nonneg _ (by decide)
  have w7 : Go.IntKind.wrap .u8 n = n % 256 := by rw [IntKind.wrap_u8]
  have w8 : Go.IntKind.wrap .u8 (n / 256) = n / 256 % 256 := by rw [IntKind.wrap_u8]
  simp only [qOPut, qOPutL5R, gl, qOPutL5, qOplace, r1, r2, e1, cond_false, Option.bind_some, w1, w2, w3, w4, w5]
  simp [w1, w2, w3, w4, w5, d1, d2, w7, w8]
theorem get2 (x y : Int) (hx : 0 ≤ x ∧ x < 256) (hy : 0 ≤ y ∧ y < 256) (hN : 100 ≤ N) : qOGet N [x, y] false = some (x * 256 + y, 0) := by
  obtain ⟨M, rfl⟩ : ∃ M, N = M + 3 := ⟨N - 3, by omega⟩
  have w1 : Go.IntKind.wrap .i64 ((2 : Int) - 1) = 1 := by decide
  have w2 : Go.IntKind.wrap .i64 ((1 : Int) - 1) = 0 := by decide
  have w3 : Go.IntKind.wrap .i64 ((0 : Int) + 1) = 1 := by decide
  have w4 : Go.IntKind.wrap .i64 ((1 : Int) + 1) = 2 := by decide
  have w0 : Go.IntKind.wrap .i64 ((1 : Int) - 0) = 1 := by decide
  have w5 : Go.IntKind.wrap .i64 ((8 : Int) * 0) = 0 := by decide
  have w6 : Go.IntKind.wrap .i64 ((8 : Int) * 1) = 8 := by decide
  have w7 : Go.IntKind.wrap .u64 x = x := wrapU64 (by omega) (by omega)
  have w8 : Go.IntKind.wrap .u64 y = y := wrapU64 (by omega) (by omega)
  have e0 : (2 : Int) ^ min (Int.toNat 0) (IntKind.bits IntKind.u64) = 1 := by decide
  have e1 : (2 : Int) ^ min (Int.toNat 8) (IntKind.bits IntKind.u64) = 256 := by decide
  have w9 : Go.IntKind.wrap .u64 (x * 256) = x * 256 := wrapU64 (by omega) (by omega)
  have w10 : Go.IntKind.wrap .u64 (y * 1) = y := by rw [Int.mul_one]; exact w8
  have o1 : bits .or .u64 0 y = y := by
    have := or_at 0 y 0 (by decide) (by decide) (by decide) (by omega) (by simp; omega)
    simpa using this
  have o2 : bits .or .u64 y (x * 256) = x * 256 + y := or_at y x 8 (by omega) (by show y.toNat < 256; omega) (by omega) (by omega) (by show x.toNat * 256 < _; omega)
  have g0 : getI [x, y] (0 : Int) = some x := rfl
  have g1 : getI [x, y] (1 : Int) = some y := rfl
  have l2 : (([x, y] : List Int).length : Int) = 2 := rfl
  simp only [qOGet, qOGetL5R, gl, qOGetL5, qOplace, l2, cond_false, Option.bind_some, w0, w1, w2, w3, w4, w5, w6, w7, w8, w9, w10, e0, e1, o1, o2, g0, g1]
  simp [w4, w6, w7, w9, e1, o2, w2, g0]
theorem big4 (n : Int) (h : 0 ≤ n ∧ n < 18446744073709551616) (hN : 100 ≤ N) : qRBig N n 4 = some [n / 16777216 % 256, n / 65536 % 256, n / 256 % 256, n % 256] := by
  obtain ⟨M, rfl⟩ : ∃ M, N = M + 5 := ⟨N - 5, by omega⟩
  have r1 : roomB (Int.toNat 4) 1 = true := by decide
  have r2 : List.replicate (Int.toNat 4) (0 : Int) = [0, 0, 0, 0] := rfl
  have w1 : Go.IntKind.wrap .i64 ((4 : Int) - 1) = 3 := by decide
  have d1 : Int.tdiv n 256 = n / 256 := Int.tdiv_eq_ediv_of_nonneg h.1
  have d2 : Int.tmod n 256 = n % 256 := Int.tmod_eq_emod_of_nonneg h.1
  have d3 : Int.tmod (n / 256) 256 = n / 256 % 256 := Int.tmod_eq_emod_of_nonneg (by omega)
  have d4 : Int.tdiv (n / 256) 256 = n / 65536 := by rw [Int.tdiv_eq_ediv_of_nonneg (by omega)]; omega
  have d5 : Int.tmod (n / 65536) 256 = n / 65536 % 256 := Int.tmod_eq_emod_of_nonneg (by omega)
  have d6 : Int.tdiv (n / 65536) 256 = n / 16777216 := by rw [Int.tdiv_eq_ediv_of_nonneg (by omega)]; omega
  have d7 : Int.tmod (n / 16777216) 256 = n / 16777216 % 256 := Int.tmod_eq_emod_of_nonneg (by omega)
  have w4 : Go.IntKind.wrap .u64 (n / 256) = n / 256 := wrapU64 (by omega) (by omega)
  have w4a : Go.IntKind.wrap .u64 (n / 65536) = n / 65536 := wrapU64 (by omega) (by omega)
  have w4b : Go.IntKind.wrap .u64 (n / 16777216) = n / 16777216 := wrapU64 (by omega) (by omega)
  have w5 : Go.IntKind.wrap .u8 (n % 256) = n % 256 := wrapU8 (by omega) (by omega)
  have w6 : Go.IntKind.wrap .u8 (n / 256 % 256) = n / 256 % 256 := wrapU8 (by omega) (by omega)
  have w7 : Go.IntKind.wrap .u8 (n / 65536 % 256) = n / 65536 % 256 := wrapU8 (by omega) (by omega)
  have w8 : Go.IntKind.wrap .u8 (n / 16777216 % 256) = n / 16777216 % 256 := wrapU8 (by omega) (by omega)
  have z0 : Go.IntKind.wrap .i64 (0 : Int) = 0 := by decide
  have z1 : Go.IntKind.wrap .i64 (-1 : Int) = -1 := by decide
  have z2 : Go.IntKind.wrap .i64 (1 : Int) = 1 := by decide
  have z3 : Go.IntKind.wrap .i64 (2 : Int) = 2 := by decide
  simp only [qRBig, qRBigL3R, gl, qRBigL3, r1, r2, w1]
  simp [w1, d1, d2, d3, d4, d5, d6, d7, w4, w4a, w4b, w5, w6, w7, w8, z0, z1, z2, z3]
theorem num4 (x y z u : Int) (hx : 0 ≤ x ∧ x < 256) (hy : 0 ≤ y ∧ y < 256) (hz : 0 ≤ z ∧ z < 256) (hu : 0 ≤ u ∧ u < 256) (hN : 100 ≤ N) : qRNum N [x, y, z, u] = some (((x * 256 + y) * 256 + z) * 256 + u) := by
  obtain ⟨M, rfl⟩ : ∃ M, N = M + 5 := ⟨N - 5, by omega⟩
  have w1 : Go.IntKind.wrap .i64 ((0 : Int) + 1) = 1 := by decide
  have w2 : Go.IntKind.wrap .i64 ((1 : Int) + 1) = 2 := by decide
  have w2a : Go.IntKind.wrap .i64 ((2 : Int) + 1) = 3 := by decide
  have w2b : Go.IntKind.wrap .i64 ((3 : Int) + 1) = 4 := by decide
  have w3 : Go.IntKind.wrap .u64 ((0 : Int) * 256) = 0 := by decide
  have w4 : Go.IntKind.wrap .u64 x = x := wrapU64 (by omega) (by omega)
  have w4' : Go.IntKind.wrap .u64 ((0 : Int) + x) = x := by rw [Int.zero_add]; exact w4
  have w5 : Go.IntKind.wrap .u64 y = y := wrapU64 (by omega) (by omega)
  have w5a : Go.IntKind.wrap .u64 z = z := wrapU64 (by omega) (by omega)
  have w5b : Go.IntKind.wrap .u64 u = u := wrapU64 (by omega) (by omega)
  have w6 : Go.IntKind.wrap .u64 (x * 256) = x * 256 := wrapU64 (by omega) (by omega)
  have w7 : Go.IntKind.wrap .u64 (x * 256 + y) = x * 256 + y := wrapU64 (by omega) (by omega)
  have w8 : Go.IntKind.wrap .u64 ((x * 256 + y) * 256) = (x * 256 + y) * 256 := wrapU64 (by omega) (by omega)
  have w9 : Go.IntKind.wrap .u64 ((x * 256 + y) * 256 + z) = (x * 256 + y) * 256 + z := wrapU64 (by omega) (by omega)
  have w10 : Go.IntKind.wrap .u64 (((x * 256 + y) * 256 + z) * 256) = ((x * 256 + y) * 256 + z) * 256 := wrapU64 (by omega) (by omega)
  have w11 : Go.IntKind.wrap .u64 (((x * 256 + y) * 256 + z) * 256 + u) = ((x * 256 + y) * 256 + z) * 256 + u := wrapU64 (by omega) (by omega)
  have g0 : getI [x, y, z, u] (0 : Int) = some x := rfl
  have g1 : getI [x, y, z, u] (1 : Int) = some y := rfl
  have g2 : getI [x, y, z, u] (2 : Int) = some z := rfl
  have g3 : getI [x, y, z, u] (3 : Int) = some u := rfl
  simp only [qRNum, qRNumL3R, gl, qRNumL3, g0, Option.bind_some, w1, w3, w4, w4', g1, w2, w5, w6, w7, g2, g3, w2a, w2b, w5a, w5b, w8, w9, w10, w11]
  simp [g1, w2, w5, w6, w7, g2, g3, w2a, w2b, w5a, w5b, w8, w9, w10, w11]
theorem put4 (n : Int) (h : 0 ≤ n ∧ n < 18446744073709551616) (hN : 100 ≤ N) : qOPut N n 4 false = some ([n / 16777216 % 256, n / 65536 % 256, n / 256 % 256, n % 256], 0) := by
  obtain ⟨M, rfl⟩ : ∃ M, N = M + 5 := ⟨N - 5, by omega⟩
  have r1 : roomB (Int.toNat 4) 1 = true := by decide
  have r2 : List.replicate (Int.toNat 4) (0 : Int) = [0, 0, 0, 0] := rfl
  have w1 : Go.IntKind.wrap .i64 ((4 : Int) - 1) = 3 := by decide
  have v0 : Go.IntKind.wrap .i64 ((3 : Int) - 0) = 3 := by decide
  have v1 : Go.IntKind.wrap .i64 ((3 : Int) - 1) = 2 := by decide
  have v2 : Go.IntKind.wrap .i64 ((3 : Int) - 2) = 1 := by decide
  have v3 : Go.IntKind.wrap .i64 ((3 : Int) - 3) = 0 := by decide
  have w3 : Go.IntKind.wrap .i64 ((0 : Int) + 1) = 1 := by decide
  have w4 : Go.IntKind.wrap .i64 ((1 : Int) + 1) = 2 := by decide
  have w5 : Go.IntKind.wrap .i64 ((2 : Int) + 1) = 3 := by decide
  have w6 : Go.IntKind.wrap .i64 ((3 : Int) + 1) = 4 := by decide
  have e1 : (2 : Int) ^ min (Int.toNat 8) (IntKind.bits IntKind.u64) = 256 := by decide
  have d1 : Int.fdiv n 256 = n / 256 := Int.fdiv_eq_ediv_of_nonneg n (by decide)
  have d2 : Int.fdiv (n / 256) 256 = n / 65536 := by rw [Int.fdiv_eq_ediv_of_nonneg _ (by decide)]; omega
  have d3 : Int.fdiv (n / 65536) 256 = n / 16777216 := by rw [Int.fdiv_eq_ediv_of_nonneg _ (by decide)]; omega
  have w7 : Go.IntKind.wrap .u8 n = n % 256 := by rw [IntKind.wrap_u8]
  have w8 : Go.IntKind.wrap .u8 (n / 256) = n / 256 % 256 := by rw [IntKind.wrap_u8]
  have w9 : Go.IntKind.wrap .u8 (n / 65536) = n / 65536 % 256 := by rw [IntKind.wrap_u8]
  have w10 : Go.IntKind.wrap .u8 (n / 16777216) = n / 16777216 % 256 := by rw [IntKind.wrap_u8]
  simp only [qOPut, qOPutL5R, gl, qOPutL5, qOplace, r1, r2, e1, cond_false, Option.bind_some, w1, v0, v1, v2, v3, w3, w4, w5, w6]
  simp [w1, v0, v1, v2, v3, w3, w4, w5, w6, d1, d2, d3, w7, w8, w9, w10]
theorem get4 (x y z u : Int) (hx : 0 ≤ x ∧ x < 256) (hy : 0 ≤ y ∧ y < 256) (hz : 0 ≤ z ∧ z < 256) (hu : 0 ≤ u ∧ u < 256) (hN : 100 ≤ N) : qOGet N [x, y, z, u] false = some (((x * 256 + y) * 256 + z) * 256 + u, 0) := by
  obtain ⟨M, rfl⟩ : ∃ M, N = M + 5 := ⟨N - 5, by omega⟩
  have w1 : Go.IntKind.wrap .i64 ((4 : Int) - 1) = 3 := by decide
  have v0 : Go.IntKind.wrap .i64 ((3 : Int) - 0) = 3 := by decide
  have v1 : Go.IntKind.wrap .i64 ((3 : Int) - 1) = 2 := by decide
  have v2 : Go.IntKind.wrap .i64 ((3 : Int) - 2) = 1 := by decide
  have v3 : Go.IntKind.wrap .i64 ((3 : Int) - 3) = 0 := by decide
  have w3 : Go.IntKind.wrap .i64 ((0 : Int) + 1) = 1 := by decide
  have w4 : Go.IntKind.wrap .i64 ((1 : Int) + 1) = 2 := by decide
  have w5 : Go.IntKind.wrap .i64 ((2 : Int) + 1) = 3 := by decide
  have w6 : Go.IntKind.wrap .i64 ((3 : Int) + 1) = 4 := by decide
  have m0 : Go.IntKind.wrap .i64 ((8 : Int) * 0) = 0 := by decide
  have m1 : Go.IntKind.wrap .i64 ((8 : Int) * 1) = 8 := by decide
  have m2 : Go.IntKind.wrap .i64 ((8 : Int) * 2) = 16 := by decide
  have m3 : Go.IntKind.wrap .i64 ((8 : Int) * 3) = 24 := by decide
  have x1 : Go.IntKind.wrap .u64 x = x := wrapU64 (by omega) (by omega)
  have y1 : Go.IntKind.wrap .u64 y = y := wrapU64 (by omega) (by omega)
  have z1 : Go.IntKind.wrap .u64 z = z := wrapU64 (by omega) (by omega)
  have u1 : Go.IntKind.wrap .u64 u = u := wrapU64 (by omega) (by omega)
  have e0 : (2 : Int) ^ min (Int.toNat 0) (IntKind.bits IntKind.u64) = 1 := by decide
  have e1 : (2 : Int) ^ min (Int.toNat 8) (IntKind.bits IntKind.u64) = 256 := by decide
  have e2 : (2 : Int) ^ min (Int.toNat 16) (IntKind.bits IntKind.u64) = 65536 := by decide
  have e3 : (2 : Int) ^ min (Int.toNat 24) (IntKind.bits IntKind.u64) = 16777216 := by decide
  have u2 : Go.IntKind.wrap .u64 (u * 1) = u := by rw [Int.mul_one]; exact u1
  have z2 : Go.IntKind.wrap .u64 (z * 256) = z * 256 := wrapU64 (by omega) (by omega)
  have y2 : Go.IntKind.wrap .u64 (y * 65536) = y * 65536 := wrapU64 (by omega) (by omega)
  have x2 : Go.IntKind.wrap .u64 (x * 16777216) = x * 16777216 := wrapU64 (by omega) (by omega)
  have o1 : bits .or .u64 0 u = u := by
    have := or_at 0 u 0 (by decide) (by decide) (by decide) (by omega) (by simp; omega)
    simpa using this
  have o2 : bits .or .u64 u (z * 256) = z * 256 + u := or_at u z 8 (by omega) (by show u.toNat < 256; omega) (by omega) (by omega) (by show z.toNat * 256 < _; omega)
  have o3 : bits .or .u64 (z * 256 + u) (y * 65536) = y * 65536 + (z * 256 + u) := or_at (z * 256 + u) y 16 (by omega) (by show (z * 256 + u).toNat < 65536; omega) (by omega) (by omega) (by show y.toNat * 65536 < _; omega)
  have o4 : bits .or .u64 (y * 65536 + (z * 256 + u)) (x * 16777216) = x * 16777216 + (y * 65536 + (z * 256 + u)) := or_at (y * 65536 + (z * 256 + u)) x 24 (by omega) (by show (y * 65536 + (z * 256 + u)).toNat < 16777216; omega) (by omega) (by omega) (by show x.toNat * 16777216 < _; omega)
  have fin : x * 16777216 + (y * 65536 + (z * 256 + u)) = ((x * 256 + y) * 256 + z) * 256 + u := by omega
  have g0 : getI [x, y, z, u] (0 : Int) = some x := rfl
  have g1 : getI [x, y, z, u] (1 : Int) = some y := rfl
  have g2 : getI [x, y, z, u] (2 : Int) = some z := rfl
  have g3 : getI [x, y, z, u] (3 : Int) = some u := rfl
  have l4 : (([x, y, z, u] : List Int).length : Int) = 4 := rfl
  rw [← fin]
  simp only [qOGet, qOGetL5R, gl, qOGetL5, qOplace, l4, cond_false, Option.bind_some, w1, v0, v1, v2, v3, w3, w4, w5, w6, m0, m1, m2, m3, x1, y1, z1, u1, e0, e1, e2, e3, u2, z2, y2, x2, o1, o2, o3, o4, g0, g1, g2, g3]
  simp [w1, v0, v1, v2, v3, w3, w4, w5, w6, m1, m2, m3, x1, y1, z1, u1, e1, e2, e3, z2, y2, x2, o2, o3, o4, g0, g1, g2, g3]
/-- Parts that are joined. -/
theorem join_ok (l : List (List Int)) (hl : l.length ≤ 1000) (hs : ∀ p ∈ l, p.length ≤ 100000) (hN : 2000 ≤ N) : qOJoin N l = some l.flatten := by
  have tot : ∀ (m : List (List Int)), (∀ p ∈ m, p.length ≤ 100000) → m.flatten.length ≤ 100000 * m.length := by
    intro m
    induction m with
    | nil => intro _; simp
    | cons p m ih =>
      intro h
      have h1 := h p List.mem_cons_self
      have h2 := ih fun q hq => h q (List.mem_cons_of_mem _ hq)
      rw [List.flatten_cons, List.length_append, List.length_cons]
      omega
  have tk : ∀ i, (l.take i).flatten.length ≤ 100000000 := fun i => by
    have := tot (l.take i) fun p hp => hs p (List.mem_of_mem_take hp)
    rw [List.length_take] at this
    omega
  have hsn : ∀ i (hi : i < l.length), (l.take (i + 1)).flatten = (l.take i).flatten ++ l[i] := fun i hi => by
    have : l.take (i + 1) = l.take i ++ [l[i]] := by rw [List.take_add_one, List.getElem?_eq_getElem hi]; rfl
    rw [this, List.flatten_append]
    simp
  have h1 := gl_run (G := fun (X : ((List (List Int) × Int × List (List Int) × Int × Int × Unit) × Unit) → Option ((List (List Int) × Int × Unit) × Unit)) c => qOJoinL3 N X c.1.1 c.1.2.1 c.1.2.2.1 c.1.2.2.2.1 c.1.2.2.2.2.1)
    (fun i => ((l, (((l.take i).flatten.length : Int), (l, ((l.length : Int), ((i : Int), ()))))), ())) l.length ((l, ((l.flatten.length : Int), ())), ()) (fun X i hi => by
    have c1 : ((i : Int) < (l.length : Int)) := by omega
    have c2 : Go.IntKind.wrap .i64 ((i : Int) + 1) = ((i + 1 : Nat) : Int) := by rw [wrap64 (by omega) (by omega)]; omega
    have hp := hs _ (List.getElem_mem hi)
    have ht := tk i
    have c3 : Go.IntKind.wrap .i64 (((l.take i).flatten.length : Int) + (l[i].length : Int)) = (((l.take (i + 1)).flatten.length : Nat) : Int) := by rw [wrap64 (by omega) (by omega), hsn i hi, List.length_append]; omega
    simp only [qOJoinL3, c1, decide_true, cond_true, getI_lt l i hi, Option.bind_some, c3, c2]) (fun X => by
    simp [qOJoinL3]) N 0 (by omega) (by omega)
  have h2 := gl_run (G := fun (X : ((List (List Int) × Int × Int × Unit) × List Int × Unit) → Option (Unit × List Int × Unit)) c => qOJoinL9 N X c.1.1 c.1.2.1 c.1.2.2.1 c.2.1)
    (fun i => ((l, ((l.length : Int), ((i : Int), ()))), ((l.take i).flatten, ()))) l.length ((), (l.flatten, ())) (fun X i hi => by
    have c1 : ((i : Int) < (l.length : Int)) := by omega
    have c2 : Go.IntKind.wrap .i64 ((i : Int) + 1) = ((i + 1 : Nat) : Int) := by rw [wrap64 (by omega) (by omega)]; omega
    have hp := hs _ (List.getElem_mem hi)
    have ht := tk i
    have c3 : roomB ((l.take i).flatten.length + l[i].length) 1 = true := roomB_of (by have := big_len; omega) (by omega)
    simp only [qOJoinL9, c1, decide_true, cond_true, getI_lt l i hi, Option.bind_some, c3, c2, hsn i hi]) (fun X => by
    simp [qOJoinL9]) N 0 (by omega) (by omega)
  have htot := tk l.length
  rw [List.take_length] at htot
  have c4 : (decide ((0 : Int) ≤ (0 : Int) ∧ (0 : Int) ≤ (l.flatten.length : Int)) && roomB (Int.toNat (l.flatten.length : Int)) 1) = true := by
    rw [Bool.and_eq_true]
    exact ⟨decide_eq_true ⟨by omega, by omega⟩, roomB_of (by have := big_len; omega) (by omega)⟩
  unfold qOJoin qOJoinL3R qOJoinL9R
  simp only [Int.natCast_zero, List.take_zero, List.flatten_nil, List.length_nil] at h1 h2
  rw [h1]
  simp only [Option.bind_some, c4, cond_true]
  have e0 : List.replicate (Int.toNat 0) (0 : Int) = [] := rfl
  rw [e0, h2]
  rfl
end
end Go.Proofs.Ythakbkoflnpfaaa
/-
  Functions of the library that have no body: what the model says of them, on typed data.
-/
namespace Go.Proofs.Ythakbkoflnpfaaa
set_option maxRecDepth 100000
open Go.RowKit
set_option linter.unusedVariables false
set_option linter.unusedSimpArgs false

/-- Where a byte stands first. -/
def idxB (s : List UInt8) (z : Int) : Int := match s.findIdx? (fun b => b == z.toNat.toUInt8) with
  | some i => (i : Int)
  | none => -1
section
variable {P : Program} {R : Type}
def ixK {R : Type} (args : List V) (k : V → Tree R) : Tree R := match args with
  | [.str s, .c (.int .u8 z)] => k (.c (.int .i64 (idxB s z)))
  | _ => .fail
theorem find_range (s : List UInt8) (p : UInt8 → Bool) : ∀ (n i : Nat), i + n = s.length → ((List.range' i n).find? fun j => p (s.getD j 0)) = ((s.drop i).findIdx? p).map (i + ·)
  | 0, i, h => by rw [List.drop_of_length_le (by omega)]; rfl
  | n + 1, i, h => by
    have hi : i < s.length := by omega
    rw [List.range'_succ, List.find?_cons, List.drop_eq_getElem_cons hi, List.findIdx?_cons, find_range s p n (i + 1) (by omega)]
    have e : s.getD i 0 = s[i] := by simp [List.getD_eq_getElem?_getD, hi]
    rw [e]
    cases p s[i] with
    | true => simp
    | false =>
      simp only [Bool.false_eq_true, if_false, Option.map_map]
      cases (s.drop (i + 1)).findIdx? p with
      | none => rfl
      | some j => simp; omega
theorem run_index {s : List UInt8} {z : Int} {w : World} : (Extern.BytealgIndexByte.indexByte #[.string ⟨s.toArray⟩, .int .u8 z]).run P w = .ok (.int .i64 (idxB s z)) w := by
  have hsz : (ByteArray.mk s.toArray).size = s.length := by show s.toArray.size = _; simp
  have hget : ∀ i, (ByteArray.mk s.toArray)[i]! = s.getD i 0 := fun i => by
    rcases Nat.lt_or_ge i s.length with hi | hi
    · rw [getElem!_pos (ByteArray.mk s.toArray) i (by rw [hsz]; exact hi), List.getD_eq_getElem?_getD, List.getElem?_eq_getElem hi]
      rfl
    · rw [getElem!_neg (ByteArray.mk s.toArray) i (by rw [hsz]; omega), List.getD_eq_getElem?_getD, List.getElem?_eq_none hi]
      rfl
  have e := find_range s (fun b => b == z.toNat.toUInt8) s.length 0 (by omega)
  rw [List.drop_zero] at e
  unfold idxB
  show Sem.run P (do
    let b ← Extern.Bytes.bytesOf (.string ⟨s.toArray⟩)
    let c ← Extern.Bytes.asByte (.int .u8 z)
    match (List.range b.size).find? fun i => b[i]! == c with
    | some i => pure (goInt i)
    | none => pure (goInt (-1))) w = _
  simp only [Extern.Bytes.bytesOf, Extern.Bytes.asByte, Sem.run_bind, Sem.run_pure, Result.andThen_ok, hsz, List.range_eq_range', hget]
  rw [e]
  cases s.findIdx? (fun b => b == z.toNat.toUInt8) with
  | none => rfl
  | some i => simp [goInt]
theorem ix_ok {f : FuncId} {fn : Func} (hf : P.funcs[f]? = some fn) (hb : fn.body.isNone = true) (hn : fn.name ≠ "runtime.NumGoroutine") (h1 : (Extern.findNext fn).isNone = true) (h2 : Extern.find fn = some Extern.BytealgIndexByte.indexByte) :
    ∀ args (k : V → Tree R) res, (ixK args k).run = some res → ∃ r, (k r).run = some res ∧ r.plain = true ∧ (∀ l k, ex r ≠ .fresh l k) ∧ CallsV P f args r := by
  intro args k res h
  unfold ixK at h
  split at h
  · rename_i s z
    refine ⟨_, h, rfl, (fun l k h => by cases h), fun w B cargs hB hgl hlen hrel N hN => ?_⟩
    obtain ⟨v0, e0, r0⟩ := hrel 0 _ rfl
    obtain ⟨v1, e1, r1⟩ := hrel 1 _ rfl
    have hc : cargs = [v0, v1] := by
      match cargs, hlen, e0, e1 with
      | [a, b], _, e0, e1 => simp at e0 e1; rw [e0, e1]
    have q0 := Rel.ofC r0
    have q1 := Rel.ofC r1
    subst q0 q1 hc
    unfold EntersV
    have h1' : Extern.findNext fn = none := Option.isNone_iff_eq_none.1 h1
    have hb' : fn.body = none := Option.isNone_iff_eq_none.1 hb
    have hm : Sem.run P (mark (.extern f)) w = .ok () w := rfl
    have hrun : (callFunc f [Value.string ⟨s.toArray⟩, Value.int .u8 z].toArray).run P w = .ok (.value (.int .i64 (idxB s z))) w := by
      simp [callFunc, Sem.run_bind, hf, hn, hb', hm, h1', h2, run_index]
    rw [hrun]
    exact hN _ _ (Gr.refl _) (.c _ _)
  · cases h
/-- A function more, that has no body. -/
theorem EnvOK.addExt {Γ : (R : Type) → Env R} (hΓ : EnvOK P (Γ R)) {f : FuncId} {F : (R : Type) → List V → (V → Tree R) → Tree R} (h : ∀ args (k : V → Tree R) res, (F R args k).run = some res → ∃ r, (k r).run = some res ∧ r.plain = true ∧ (∀ l k, ex r ≠ .fresh l k) ∧ CallsV P f args r) : EnvOK P (Env.addFn Γ f F R) := by
  refine ⟨⟨fun f' args k res hc => ?_⟩, hΓ.inl, hΓ.lp, hΓ.cln⟩
  simp only [Env.addFn] at hc
  split at hc
  · rename_i hff
    subst hff
    exact h args k res hc
  · exact hΓ.fns.ok f' args k res hc
end
end Go.Proofs.Ythakbkoflnpfaaa
/-
  Functions of the program as plain functions on typed data, and that they are so. Printed by a program of mine.
-/
namespace Go.Proofs.Ythakbkoflnpfaaa
open Go.RowKit
set_option linter.unusedVariables false
set_option maxRecDepth 100000
theorem hmx : Go.Proofs.Try.prog.follows .mixedOrders = true := by kernel_rfl
noncomputable def Ev0 (N : Nat) : (R : Type) → Env R := Env.addInl env0 [20, 38]
theorem Ev0_ok (N : Nat) (R : Type) : EnvOK Go.Proofs.Try.prog (Ev0 N R) := EnvOK.addInl (env0_ok R) (by kernel_rfl)
noncomputable def Ev1 (N : Nat) : (R : Type) → Env R := Env.addScl (Ev0 N) [14]
theorem Ev1_ok (N : Nat) (R : Type) : EnvOK Go.Proofs.Try.prog (Ev1 N R) := EnvOK.addScl (Ev0_ok N R) [14]
noncomputable def Ev2 (N : Nat) : (R : Type) → Env R := Env.addMv (Ev1 N) [(38, 3)]
theorem Ev2_ok (N : Nat) (R : Type) : EnvOK Go.Proofs.Try.prog (Ev2 N R) := EnvOK.addMv (Ev1_ok N R) [(38, 3)]
noncomputable def Ev3 (N : Nat) : (R : Type) → Env R := Env.addBx (Ev2 N) [(38, 0)]
theorem Ev3_ok (N : Nat) (R : Type) : EnvOK Go.Proofs.Try.prog (Ev3 N R) := EnvOK.addBx (Ev2_ok N R) [(38, 0)]
noncomputable def ipcp_Sum_L3_I : LI := ⟨36, 0, [], ⟨[(3, .ty (.int .u64)), (6, .ty (.sl (.int .u8))), (7, .ty (.int .i64)), (8, .ty (.int .i64))], []⟩, [(.exit 0, ⟨[(3, .ty (.int .u64))], []⟩)]⟩
noncomputable def ipcp_Sum_L3 (N : Nat) (X : (((Int) × ((List (Int)) × ((Int) × ((Int) × Unit)))) × Unit) → Option ((((Int) × Unit) × Unit))) (sum3 : Int) (x6 : List (Int)) (x7 : Int) (x8 : Int) : Option ((((Int) × Unit) × Unit)) :=
 bif (decide (x8 < x7)) then
  Option.bind (getI x6 x8) fun (v6 : Int) =>
  bif (decide ((@Int.tmod x8 (2 : Int)) = (0 : Int))) then
   (X (((Go.IntKind.wrap .u64 (sum3 + (Go.IntKind.wrap .u64 ((Go.IntKind.wrap .u64 v6) * (@HPow.hPow Int Nat Int (@instHPow Int Nat (@instPowNat Int @Int.instNatPow)) (2 : Int) (@Min.min Nat @instMinNat (Int.toNat (8 : Int)) (@Go.IntKind.bits @Go.IntKind.u64))))))), (x6, (x7, ((Go.IntKind.wrap .i64 (x8 + (1 : Int))), @Unit.unit)))), @Unit.unit))
  else
   (X (((Go.IntKind.wrap .u64 (sum3 + (Go.IntKind.wrap .u64 v6))), (x6, (x7, ((Go.IntKind.wrap .i64 (x8 + (1 : Int))), @Unit.unit)))), @Unit.unit))
 else
  some (((sum3, @Unit.unit), @Unit.unit))
noncomputable def ipcp_Sum_L3_R (N : Nat) (c : (((Int) × ((List (Int)) × ((Int) × ((Int) × Unit)))) × Unit)) : Option ((((Int) × Unit) × Unit)) := gl (fun X c => ipcp_Sum_L3 N X c.1.1 c.1.2.1 c.1.2.2.1 c.1.2.2.2.1) N c
theorem ipcp_Sum_L3_S (N : Nat) (X : (((Int) × ((List (Int)) × ((Int) × ((Int) × Unit)))) × Unit) → Option ((((Int) × Unit) × Unit))) (sum3 : Int) (x6 : List (Int)) (x7 : Int) (x8 : Int) : (roundK Go.Proofs.Try.prog (Ev3 N) 400 [13] ipcp_Sum_L3_I (loopAt Go.Proofs.Try.prog [13] 3) X ((sum3, x6, x7, x8, ()), ())).run = ipcp_Sum_L3 N X sum3 x6 x7 x8 := by kernel_rfl
noncomputable def Ev4 (N : Nat) : (R : Type) → Env R := Env.addLp (Ev3 N) [13] 0 3 (fun R => lpK Go.Proofs.Try.prog ipcp_Sum_L3_I (fun X c => ipcp_Sum_L3 N X c.1.1 c.1.2.1 c.1.2.2.1 c.1.2.2.2.1) N)
theorem Ev4_ok (N : Nat) (R : Type) : EnvOK Go.Proofs.Try.prog (Ev4 N R) := EnvOK.addLp (Ev3_ok N R) (by kernel_rfl) (lpK_ok (li := ipcp_Sum_L3_I) (G := fun X c => ipcp_Sum_L3 N X c.1.1 c.1.2.1 c.1.2.2.1 c.1.2.2.2.1) hmx (Ev3_ok N _) (by kernel_rfl) loopAt_sub (fun (X : CT ipcp_Sum_L3_I.sh → Option (OT ipcp_Sum_L3_I.outs)) (c : CT ipcp_Sum_L3_I.sh) => ipcp_Sum_L3_S N X c.1.1 c.1.2.1 c.1.2.2.1 c.1.2.2.2.1) N)
noncomputable def ipcp_Sum_L9_I : LI := ⟨36, 0, [], ⟨[(3, .ty (.int .u64))], []⟩, [(.exit 2, ⟨[(3, .ty (.int .u64))], []⟩)]⟩
noncomputable def ipcp_Sum_L9 (N : Nat) (X : (((Int) × Unit) × Unit) → Option ((((Int) × Unit) × Unit))) (sum3 : Int) : Option ((((Int) × Unit) × Unit)) :=
 bif (decide ((65535 : Int) < sum3)) then
  (X (((Go.IntKind.wrap .u64 ((@Int.fdiv sum3 (@HPow.hPow Int Nat Int (@instHPow Int Nat (@instPowNat Int @Int.instNatPow)) (2 : Int) (@Min.min Nat @instMinNat (Int.toNat (16 : Int)) (@Go.IntKind.bits @Go.IntKind.u64)))) + (@Go.bits @Go.BinOp.and @Go.IntKind.u64 sum3 (65535 : Int)))), @Unit.unit), @Unit.unit))
 else
  some (((sum3, @Unit.unit), @Unit.unit))
noncomputable def ipcp_Sum_L9_R (N : Nat) (c : (((Int) × Unit) × Unit)) : Option ((((Int) × Unit) × Unit)) := gl (fun X c => ipcp_Sum_L9 N X c.1.1) N c
theorem ipcp_Sum_L9_S (N : Nat) (X : (((Int) × Unit) × Unit) → Option ((((Int) × Unit) × Unit))) (sum3 : Int) : (roundK Go.Proofs.Try.prog (Ev4 N) 400 [13] ipcp_Sum_L9_I (loopAt Go.Proofs.Try.prog [13] 9) X ((sum3, ()), ())).run = ipcp_Sum_L9 N X sum3 := by kernel_rfl
noncomputable def Ev5 (N : Nat) : (R : Type) → Env R := Env.addLp (Ev4 N) [13] 0 9 (fun R => lpK Go.Proofs.Try.prog ipcp_Sum_L9_I (fun X c => ipcp_Sum_L9 N X c.1.1) N)
theorem Ev5_ok (N : Nat) (R : Type) : EnvOK Go.Proofs.Try.prog (Ev5 N R) := EnvOK.addLp (Ev4_ok N R) (by kernel_rfl) (lpK_ok (li := ipcp_Sum_L9_I) (G := fun X c => ipcp_Sum_L9 N X c.1.1) hmx (Ev4_ok N _) (by kernel_rfl) loopAt_sub (fun (X : CT ipcp_Sum_L9_I.sh → Option (OT ipcp_Sum_L9_I.outs)) (c : CT ipcp_Sum_L9_I.sh) => ipcp_Sum_L9_S N X c.1.1) N)
noncomputable def ipcp_Sum (N : Nat) (b0 : List (Int)) : Option (Int) :=
 Option.bind (ipcp_Sum_L3_R N (((0 : Int), (b0, ((((List.length b0) : Nat) : Int), ((0 : Int), @Unit.unit)))), @Unit.unit)) fun (v2 : ((Int × Unit) × Unit)) =>
 Option.bind (ipcp_Sum_L9_R N ((v2.1.1, @Unit.unit), @Unit.unit)) fun (v3 : ((Int × Unit) × Unit)) =>
 some ((Go.IntKind.wrap .u16 ((65535 : Int) - (Go.IntKind.wrap .u16 v3.1.1))))
theorem ipcp_Sum_S (N : Nat) (b0 : List (Int)) : (runK Go.Proofs.Try.prog (Ev5 N) 400 13 [(.sl (.int .u8))] [(.int .u16)] (b0, ())).run = ipcp_Sum N b0 := by kernel_rfl
theorem ipcp_Sum_C (N : Nat) (b0 : List (Int)) (y : Int) (h : ipcp_Sum N b0 = some y) : CallsK Go.Proofs.Try.prog 13 (valA [(.sl (.int .u8))] (b0, ())) (tupV (valR [(.int .u16)] y)) := runK_ok hmx (Ev5_ok N _) (okFn_ok (by kernel_rfl)) (by rw [ipcp_Sum_S]; exact h)
noncomputable def Ev6 (N : Nat) : (R : Type) → Env R := Env.addFn (Ev5 N) 13 (fun R => fnK [(.sl (.int .u8))] [(.int .u16)] (fun c => ipcp_Sum N c.1))
theorem Ev6_ok (N : Nat) (R : Type) : EnvOK Go.Proofs.Try.prog (Ev6 N R) := EnvOK.addFn hmx (Ev5_ok N R) (Ev5_ok N _) (by kernel_rfl) (fun c => ipcp_Sum_S N c.1)
noncomputable def ref32_Sum_L3_I : LI := ⟨40, 0, [], ⟨[(0, .ty (.sl (.int .u8))), (3, .ty (.int .i64)), (4, .ty (.int .i64))], []⟩, [(.exit 0, ⟨[(3, .ty (.int .i64))], []⟩)]⟩
noncomputable def ref32_Sum_L3 (N : Nat) (X : (((List (Int)) × ((Int) × ((Int) × Unit))) × Unit) → Option ((((Int) × Unit) × Unit))) (b0 : List (Int)) (n3 : Int) (i4 : Int) : Option ((((Int) × Unit) × Unit)) :=
 bif (decide (i4 < (((List.length b0) : Nat) : Int))) then
  Option.bind (getI b0 i4) fun (v5 : Int) =>
  bif (decide ((Go.IntKind.wrap .i64 (i4 + (1 : Int))) < (((List.length b0) : Nat) : Int))) then
   Option.bind (getI b0 (Go.IntKind.wrap .i64 (i4 + (1 : Int)))) fun (v6 : Int) =>
   (X ((b0, ((Go.IntKind.wrap .i64 ((@Int.tmod (Go.IntKind.wrap .i64 ((Go.IntKind.wrap .i64 (n3 + (Go.IntKind.wrap .i64 ((256 : Int) * (Go.IntKind.wrap .i64 v5))))) + (Go.IntKind.wrap .i64 v6))) (65536 : Int)) + (Go.IntKind.wrap .i64 (@Int.tdiv (Go.IntKind.wrap .i64 ((Go.IntKind.wrap .i64 (n3 + (Go.IntKind.wrap .i64 ((256 : Int) * (Go.IntKind.wrap .i64 v5))))) + (Go.IntKind.wrap .i64 v6))) (65536 : Int))))), ((Go.IntKind.wrap .i64 (i4 + (2 : Int))), @Unit.unit))), @Unit.unit))
  else
   (X ((b0, ((Go.IntKind.wrap .i64 ((@Int.tmod (Go.IntKind.wrap .i64 (n3 + (Go.IntKind.wrap .i64 ((256 : Int) * (Go.IntKind.wrap .i64 v5))))) (65536 : Int)) + (Go.IntKind.wrap .i64 (@Int.tdiv (Go.IntKind.wrap .i64 (n3 + (Go.IntKind.wrap .i64 ((256 : Int) * (Go.IntKind.wrap .i64 v5))))) (65536 : Int))))), ((Go.IntKind.wrap .i64 (i4 + (2 : Int))), @Unit.unit))), @Unit.unit))
 else
  some (((n3, @Unit.unit), @Unit.unit))
noncomputable def ref32_Sum_L3_R (N : Nat) (c : (((List (Int)) × ((Int) × ((Int) × Unit))) × Unit)) : Option ((((Int) × Unit) × Unit)) := gl (fun X c => ref32_Sum_L3 N X c.1.1 c.1.2.1 c.1.2.2.1) N c
theorem ref32_Sum_L3_S (N : Nat) (X : (((List (Int)) × ((Int) × ((Int) × Unit))) × Unit) → Option ((((Int) × Unit) × Unit))) (b0 : List (Int)) (n3 : Int) (i4 : Int) : (roundK Go.Proofs.Try.prog (Ev6 N) 400 [14] ref32_Sum_L3_I (loopAt Go.Proofs.Try.prog [14] 3) X ((b0, n3, i4, ()), ())).run = ref32_Sum_L3 N X b0 n3 i4 := by kernel_rfl
noncomputable def Ev7 (N : Nat) : (R : Type) → Env R := Env.addLp (Ev6 N) [14] 0 3 (fun R => lpK Go.Proofs.Try.prog ref32_Sum_L3_I (fun X c => ref32_Sum_L3 N X c.1.1 c.1.2.1 c.1.2.2.1) N)
theorem Ev7_ok (N : Nat) (R : Type) : EnvOK Go.Proofs.Try.prog (Ev7 N R) := EnvOK.addLp (Ev6_ok N R) (by kernel_rfl) (lpK_ok (li := ref32_Sum_L3_I) (G := fun X c => ref32_Sum_L3 N X c.1.1 c.1.2.1 c.1.2.2.1) hmx (Ev6_ok N _) (by kernel_rfl) loopAt_sub (fun (X : CT ref32_Sum_L3_I.sh → Option (OT ref32_Sum_L3_I.outs)) (c : CT ref32_Sum_L3_I.sh) => ref32_Sum_L3_S N X c.1.1 c.1.2.1 c.1.2.2.1) N)
noncomputable def ref32_Sum (N : Nat) (b0 : List (Int)) : Option (Int) :=
 Option.bind (ref32_Sum_L3_R N ((b0, ((0 : Int), ((0 : Int), @Unit.unit))), @Unit.unit)) fun (v2 : ((Int × Unit) × Unit)) =>
 some ((Go.IntKind.wrap .u16 (Go.IntKind.wrap .i64 ((65535 : Int) - v2.1.1))))
theorem ref32_Sum_S (N : Nat) (b0 : List (Int)) : (runK Go.Proofs.Try.prog (Ev7 N) 400 14 [(.sl (.int .u8))] [(.int .u16)] (b0, ())).run = ref32_Sum N b0 := by kernel_rfl
theorem ref32_Sum_C (N : Nat) (b0 : List (Int)) (y : Int) (h : ref32_Sum N b0 = some y) : CallsK Go.Proofs.Try.prog 14 (valA [(.sl (.int .u8))] (b0, ())) (tupV (valR [(.int .u16)] y)) := runK_ok hmx (Ev7_ok N _) (okFn_ok (by kernel_rfl)) (by rw [ref32_Sum_S]; exact h)
noncomputable def Ev8 (N : Nat) : (R : Type) → Env R := Env.addFn (Ev7 N) 14 (fun R => fnK [(.sl (.int .u8))] [(.int .u16)] (fun c => ref32_Sum N c.1))
theorem Ev8_ok (N : Nat) (R : Type) : EnvOK Go.Proofs.Try.prog (Ev8 N R) := EnvOK.addFn hmx (Ev7_ok N R) (Ev7_ok N _) (by kernel_rfl) (fun c => ref32_Sum_S N c.1)
noncomputable def octs_place (N : Nat) (i0 : Int) (width1 : Int) (little2 : Bool) : Option (Int) :=
 bif little2 then
  some (i0)
 else
  some ((Go.IntKind.wrap .i64 ((Go.IntKind.wrap .i64 (width1 - (1 : Int))) - i0)))
theorem octs_place_S (N : Nat) (i0 : Int) (width1 : Int) (little2 : Bool) : (runK Go.Proofs.Try.prog (Ev8 N) 400 30 [(.int .i64), (.int .i64), .bool] [(.int .i64)] (i0, width1, little2, ())).run = octs_place N i0 width1 little2 := by kernel_rfl
noncomputable def Ev9 (N : Nat) : (R : Type) → Env R := Env.addFn (Ev8 N) 30 (fun R => fnK [(.int .i64), (.int .i64), .bool] [(.int .i64)] (fun c => octs_place N c.1 c.2.1 c.2.2.1))
theorem Ev9_ok (N : Nat) (R : Type) : EnvOK Go.Proofs.Try.prog (Ev9 N R) := EnvOK.addFn hmx (Ev8_ok N R) (Ev8_ok N _) (by kernel_rfl) (fun c => octs_place_S N c.1 c.2.1 c.2.2.1)
noncomputable def octs_Get_L5_I : LI := ⟨37, 0, [], ⟨[(0, .ty (.sl (.int .u8))), (1, .ty .bool), (6, .ty (.int .u64)), (17, .ty (.int .i64)), (18, .ty (.int .i64))], []⟩, [(.exit 0, ⟨[(6, .ty (.int .u64))], []⟩)]⟩
noncomputable def octs_Get_L5 (N : Nat) (X : (((List (Int)) × ((Bool) × ((Int) × ((Int) × ((Int) × Unit))))) × Unit) → Option ((((Int) × Unit) × Unit))) (b0 : List (Int)) (little1 : Bool) (n6 : Int) (x17 : Int) (x18 : Int) : Option ((((Int) × Unit) × Unit)) :=
 bif (decide (x18 < x17)) then
  Option.bind (@octs_place N x18 (((List.length b0) : Nat) : Int) little1) fun (v7 : Int) =>
  Option.bind (getI b0 v7) fun (v8 : Int) =>
  bif (decide ((0 : Int) ≤ (Go.IntKind.wrap .i64 ((8 : Int) * x18)))) then
   (X ((b0, (little1, ((@Go.bits @Go.BinOp.or @Go.IntKind.u64 n6 (Go.IntKind.wrap .u64 ((Go.IntKind.wrap .u64 v8) * (@HPow.hPow Int Nat Int (@instHPow Int Nat (@instPowNat Int @Int.instNatPow)) (2 : Int) (@Min.min Nat @instMinNat (Int.toNat (Go.IntKind.wrap .i64 ((8 : Int) * x18))) (@Go.IntKind.bits @Go.IntKind.u64)))))), (x17, ((Go.IntKind.wrap .i64 (x18 + (1 : Int))), @Unit.unit))))), @Unit.unit))
  else
   none
 else
  some (((n6, @Unit.unit), @Unit.unit))
noncomputable def octs_Get_L5_R (N : Nat) (c : (((List (Int)) × ((Bool) × ((Int) × ((Int) × ((Int) × Unit))))) × Unit)) : Option ((((Int) × Unit) × Unit)) := gl (fun X c => octs_Get_L5 N X c.1.1 c.1.2.1 c.1.2.2.1 c.1.2.2.2.1 c.1.2.2.2.2.1) N c
theorem octs_Get_L5_S (N : Nat) (X : (((List (Int)) × ((Bool) × ((Int) × ((Int) × ((Int) × Unit))))) × Unit) → Option ((((Int) × Unit) × Unit))) (b0 : List (Int)) (little1 : Bool) (n6 : Int) (x17 : Int) (x18 : Int) : (roundK Go.Proofs.Try.prog (Ev9 N) 400 [22] octs_Get_L5_I (loopAt Go.Proofs.Try.prog [22] 5) X ((b0, little1, n6, x17, x18, ()), ())).run = octs_Get_L5 N X b0 little1 n6 x17 x18 := by kernel_rfl
noncomputable def Ev10 (N : Nat) : (R : Type) → Env R := Env.addLp (Ev9 N) [22] 0 5 (fun R => lpK Go.Proofs.Try.prog octs_Get_L5_I (fun X c => octs_Get_L5 N X c.1.1 c.1.2.1 c.1.2.2.1 c.1.2.2.2.1 c.1.2.2.2.2.1) N)
theorem Ev10_ok (N : Nat) (R : Type) : EnvOK Go.Proofs.Try.prog (Ev10 N R) := EnvOK.addLp (Ev9_ok N R) (by kernel_rfl) (lpK_ok (li := octs_Get_L5_I) (G := fun X c => octs_Get_L5 N X c.1.1 c.1.2.1 c.1.2.2.1 c.1.2.2.2.1 c.1.2.2.2.2.1) hmx (Ev9_ok N _) (by kernel_rfl) loopAt_sub (fun (X : CT octs_Get_L5_I.sh → Option (OT octs_Get_L5_I.outs)) (c : CT octs_Get_L5_I.sh) => octs_Get_L5_S N X c.1.1 c.1.2.1 c.1.2.2.1 c.1.2.2.2.1 c.1.2.2.2.2.1) N)
noncomputable def octs_Get (N : Nat) (b0 : List (Int)) (little1 : Bool) : Option ((Int) × Int) :=
 bif (decide ((((List.length b0) : Nat) : Int) < (1 : Int))) then
  some (((0 : Int), (1 : Int)))
 else
  bif (@cond Bool @Bool.false @Bool.true (decide ((8 : Int) < (((List.length b0) : Nat) : Int)))) then
   some (((0 : Int), (1 : Int)))
  else
   Option.bind (octs_Get_L5_R N ((b0, (little1, ((0 : Int), ((((List.length b0) : Nat) : Int), ((0 : Int), @Unit.unit))))), @Unit.unit)) fun (v3 : ((Int × Unit) × Unit)) =>
   some ((v3.1.1, (0 : Int)))
theorem octs_Get_S (N : Nat) (b0 : List (Int)) (little1 : Bool) : (runK Go.Proofs.Try.prog (Ev10 N) 400 22 [(.sl (.int .u8)), .bool] [(.int .u64), (.int .i64)] (b0, little1, ())).run = octs_Get N b0 little1 := by kernel_rfl
noncomputable def Ev11 (N : Nat) : (R : Type) → Env R := Env.addFn (Ev10 N) 22 (fun R => fnK [(.sl (.int .u8)), .bool] [(.int .u64), (.int .i64)] (fun c => octs_Get N c.1 c.2.1))
theorem Ev11_ok (N : Nat) (R : Type) : EnvOK Go.Proofs.Try.prog (Ev11 N R) := EnvOK.addFn hmx (Ev10_ok N R) (Ev10_ok N _) (by kernel_rfl) (fun c => octs_Get_S N c.1 c.2.1)
noncomputable def ipcp_addr (N : Nat) (b0 : List (Int)) : Option (Int) :=
 Option.bind (@octs_Get N b0 @Bool.false) fun (v2 : (Int × Int)) =>
 some ((Go.IntKind.wrap .u32 v2.1))
theorem ipcp_addr_S (N : Nat) (b0 : List (Int)) : (runK Go.Proofs.Try.prog (Ev11 N) 400 23 [(.sl (.int .u8))] [(.int .u32)] (b0, ())).run = ipcp_addr N b0 := by kernel_rfl
noncomputable def Ev12 (N : Nat) : (R : Type) → Env R := Env.addFn (Ev11 N) 23 (fun R => fnK [(.sl (.int .u8))] [(.int .u32)] (fun c => ipcp_addr N c.1))
theorem Ev12_ok (N : Nat) (R : Type) : EnvOK Go.Proofs.Try.prog (Ev12 N R) := EnvOK.addFn hmx (Ev11_ok N R) (Ev11_ok N _) (by kernel_rfl) (fun c => ipcp_addr_S N c.1)
noncomputable def slices_Clone_byte_byte_ne (N : Nat) (s0 : List (Int)) : Option (List (Int)) :=
 bif (@List.isEmpty Int s0) then
  none
 else
  bif (roomB (List.length s0) 1) then
   some (s0)
  else
   none
theorem slices_Clone_byte_byte_ne_S (N : Nat) (s0 : List (Int)) : (runK Go.Proofs.Try.prog (Ev12 N) 400 24 [(.sl (.int .u8))] [(.sl (.int .u8))] (s0, ())).run = slices_Clone_byte_byte_ne N s0 := by kernel_rfl
theorem slices_Clone_byte_byte_n1 (N : Nat) (c : Nat) : (runV Go.Proofs.Try.prog (Ev12 N) 400 24 [.c (.slice none 0 c)] [(.sl (.int .u8))]).run = some [] := by kernel_rfl
theorem slices_Clone_byte_byte_n2 (N : Nat) (A : Addr) (c : Nat) : (runV Go.Proofs.Try.prog (Ev12 N) 400 24 [.c (.slice (some A) 0 c)] [(.sl (.int .u8))]).run = some [] := by kernel_rfl
noncomputable def slices_Clone_byte_byte (N : Nat) (s0 : List (Int)) : Option (List (Int)) := bif s0.isEmpty then some [] else slices_Clone_byte_byte_ne N s0
noncomputable def Ev13 (N : Nat) : (R : Type) → Env R := Env.addFn (Ev12 N) 24 (fun R => fnK [(.sl (.int .u8))] [(.sl (.int .u8))] (fun c => slices_Clone_byte_byte N c.1))
theorem Ev13_ok (N : Nat) (R : Type) : EnvOK Go.Proofs.Try.prog (Ev13 N R) := EnvOK.addNil hmx (Ev12_ok N R) (Ev12_ok N _) (by kernel_rfl) (fun c => slices_Clone_byte_byte_ne_S N c.1) (slices_Clone_byte_byte_n1 N) (slices_Clone_byte_byte_n2 N)
noncomputable def ipcp_Parse (N : Nat) (b0 : List (Int)) : Option (((Int) × ((Int) × ((Int) × ((Int) × (List (Int)))))) × Int) :=
 bif (decide ((((List.length b0) : Nat) : Int) < (20 : Int))) then
  some ((((0 : Int), ((0 : Int), ((0 : Int), ((0 : Int), ([] : List (Int)))))), (4 : Int)))
 else
  Option.bind (subI b0 (2 : Int) (4 : Int)) fun (v2 : (List Int)) =>
  Option.bind (@octs_Get N v2 @Bool.false) fun (v3 : (Int × Int)) =>
  Option.bind (getI b0 (0 : Int)) fun (v4 : Int) =>
  bif (!(decide (v4 = (69 : Int)))) then
   some ((((0 : Int), ((0 : Int), ((0 : Int), ((0 : Int), ([] : List (Int)))))), (15 : Int)))
  else
   bif (decide ((Go.IntKind.wrap .i64 v3.1) < (20 : Int))) then
    some ((((0 : Int), ((0 : Int), ((0 : Int), ((0 : Int), ([] : List (Int)))))), (3 : Int)))
   else
    bif (decide ((((List.length b0) : Nat) : Int) < (Go.IntKind.wrap .i64 v3.1))) then
     some ((((0 : Int), ((0 : Int), ((0 : Int), ((0 : Int), ([] : List (Int)))))), (4 : Int)))
    else
     bif (decide ((1500 : Int) < (Go.IntKind.wrap .i64 v3.1))) then
      some ((((0 : Int), ((0 : Int), ((0 : Int), ((0 : Int), ([] : List (Int)))))), (8 : Int)))
     else
      Option.bind (takeI b0 (20 : Int)) fun (v5 : (List Int)) =>
      Option.bind (@ipcp_Sum N v5) fun (v6 : Int) =>
      bif (!(decide (v6 = (0 : Int)))) then
       some ((((0 : Int), ((0 : Int), ((0 : Int), ((0 : Int), ([] : List (Int)))))), (3 : Int)))
      else
       Option.bind (getI b0 (8 : Int)) fun (v7 : Int) =>
       Option.bind (getI b0 (9 : Int)) fun (v8 : Int) =>
       Option.bind (subI b0 (12 : Int) (16 : Int)) fun (v9 : (List Int)) =>
       Option.bind (@ipcp_addr N v9) fun (v10 : Int) =>
       Option.bind (subI b0 (16 : Int) (20 : Int)) fun (v11 : (List Int)) =>
       Option.bind (@ipcp_addr N v11) fun (v12 : Int) =>
       Option.bind (subI b0 (20 : Int) (Go.IntKind.wrap .i64 v3.1)) fun (v13 : (List Int)) =>
       Option.bind (@slices_Clone_byte_byte N v13) fun (v14 : (List Int)) =>
       some (((v7, (v8, (v10, (v12, v14)))), (0 : Int)))
theorem ipcp_Parse_S (N : Nat) (b0 : List (Int)) : (runK Go.Proofs.Try.prog (Ev13 N) 400 9 [(.sl (.int .u8))] [(.pair (.int .u8) (.pair (.int .u8) (.pair (.int .u32) (.pair (.int .u32) (.sl (.int .u8)))))), (.int .i64)] (b0, ())).run = ipcp_Parse N b0 := by kernel_rfl
theorem ipcp_Parse_C (N : Nat) (b0 : List (Int)) (y : ((Int) × ((Int) × ((Int) × ((Int) × (List (Int)))))) × Int) (h : ipcp_Parse N b0 = some y) : CallsK Go.Proofs.Try.prog 9 (valA [(.sl (.int .u8))] (b0, ())) (tupV (valR [(.pair (.int .u8) (.pair (.int .u8) (.pair (.int .u32) (.pair (.int .u32) (.sl (.int .u8)))))), (.int .i64)] y)) := runK_ok hmx (Ev13_ok N _) (okFn_ok (by kernel_rfl)) (by rw [ipcp_Parse_S]; exact h)
noncomputable def Ev14 (N : Nat) : (R : Type) → Env R := Env.addFn (Ev13 N) 9 (fun R => fnK [(.sl (.int .u8))] [(.pair (.int .u8) (.pair (.int .u8) (.pair (.int .u32) (.pair (.int .u32) (.sl (.int .u8)))))), (.int .i64)] (fun c => ipcp_Parse N c.1))
theorem Ev14_ok (N : Nat) (R : Type) : EnvOK Go.Proofs.Try.prog (Ev14 N R) := EnvOK.addFn hmx (Ev13_ok N R) (Ev13_ok N _) (by kernel_rfl) (fun c => ipcp_Parse_S N c.1)
noncomputable def Ev15 (N : Nat) : (R : Type) → Env R := Env.addBx (Ev14 N) [(12, 0)]
theorem Ev15_ok (N : Nat) (R : Type) : EnvOK Go.Proofs.Try.prog (Ev15 N R) := EnvOK.addBx (Ev14_ok N R) [(12, 0)]
noncomputable def bytes_Equal (N : Nat) (a0 : List (Int)) (b1 : List (Int)) : Option (Bool) :=
 Option.bind (@toBy a0) fun (v3 : (List UInt8)) =>
 Option.bind (@toBy b1) fun (v4 : (List UInt8)) =>
 some ((decide (v3 = v4)))
theorem bytes_Equal_S (N : Nat) (a0 : List (Int)) (b1 : List (Int)) : (runK Go.Proofs.Try.prog (Ev15 N) 400 26 [(.sl (.int .u8)), (.sl (.int .u8))] [.bool] (a0, b1, ())).run = bytes_Equal N a0 b1 := by kernel_rfl
noncomputable def Ev16 (N : Nat) : (R : Type) → Env R := Env.addFn (Ev15 N) 26 (fun R => fnK [(.sl (.int .u8)), (.sl (.int .u8))] [.bool] (fun c => bytes_Equal N c.1 c.2.1))
theorem Ev16_ok (N : Nat) (R : Type) : EnvOK Go.Proofs.Try.prog (Ev16 N R) := EnvOK.addFn hmx (Ev15_ok N R) (Ev15_ok N _) (by kernel_rfl) (fun c => bytes_Equal_S N c.1 c.2.1)
noncomputable def ipcp_Same (N : Nat) (a0 : (Int) × ((Int) × ((Int) × ((Int) × (List (Int)))))) (b1 : (Int) × ((Int) × ((Int) × ((Int) × (List (Int)))))) : Option (Bool) :=
 bif (decide (a0.1 = b1.1)) then
  bif (@cond Bool @Bool.true (decide (a0.2.1 = b1.2.1)) @Bool.false) then
   bif (@cond Bool @Bool.true (decide (a0.2.2.1 = b1.2.2.1)) @Bool.false) then
    bif (@cond Bool @Bool.true (decide (a0.2.2.2.1 = b1.2.2.2.1)) @Bool.false) then
     Option.bind (@bytes_Equal N a0.2.2.2.2 b1.2.2.2.2) fun (v3 : Bool) =>
     some ((@cond Bool @Bool.true v3 @Bool.false))
    else
     some (@Bool.false)
   else
    some (@Bool.false)
  else
   some (@Bool.false)
 else
  some (@Bool.false)
theorem ipcp_Same_S (N : Nat) (a0 : (Int) × ((Int) × ((Int) × ((Int) × (List (Int)))))) (b1 : (Int) × ((Int) × ((Int) × ((Int) × (List (Int)))))) : (runK Go.Proofs.Try.prog (Ev16 N) 400 12 [(.pair (.int .u8) (.pair (.int .u8) (.pair (.int .u32) (.pair (.int .u32) (.sl (.int .u8)))))), (.pair (.int .u8) (.pair (.int .u8) (.pair (.int .u32) (.pair (.int .u32) (.sl (.int .u8))))))] [.bool] (a0, b1, ())).run = ipcp_Same N a0 b1 := by kernel_rfl
theorem ipcp_Same_C (N : Nat) (a0 : (Int) × ((Int) × ((Int) × ((Int) × (List (Int)))))) (b1 : (Int) × ((Int) × ((Int) × ((Int) × (List (Int)))))) (y : Bool) (h : ipcp_Same N a0 b1 = some y) : CallsK Go.Proofs.Try.prog 12 (valA [(.pair (.int .u8) (.pair (.int .u8) (.pair (.int .u32) (.pair (.int .u32) (.sl (.int .u8)))))), (.pair (.int .u8) (.pair (.int .u8) (.pair (.int .u32) (.pair (.int .u32) (.sl (.int .u8))))))] (a0, b1, ())) (tupV (valR [.bool] y)) := runK_ok hmx (Ev16_ok N _) (okFn_ok (by kernel_rfl)) (by rw [ipcp_Same_S]; exact h)
noncomputable def Ev17 (N : Nat) : (R : Type) → Env R := Env.addFn (Ev16 N) 12 (fun R => fnK [(.pair (.int .u8) (.pair (.int .u8) (.pair (.int .u32) (.pair (.int .u32) (.sl (.int .u8)))))), (.pair (.int .u8) (.pair (.int .u8) (.pair (.int .u32) (.pair (.int .u32) (.sl (.int .u8))))))] [.bool] (fun c => ipcp_Same N c.1 c.2.1))
theorem Ev17_ok (N : Nat) (R : Type) : EnvOK Go.Proofs.Try.prog (Ev17 N R) := EnvOK.addFn hmx (Ev16_ok N R) (Ev16_ok N _) (by kernel_rfl) (fun c => ipcp_Same_S N c.1 c.2.1)
noncomputable def Ev18 (N : Nat) : (R : Type) → Env R := Env.addMv (Ev17 N) [(10, 12)]
theorem Ev18_ok (N : Nat) (R : Type) : EnvOK Go.Proofs.Try.prog (Ev18 N R) := EnvOK.addMv (Ev17_ok N R) [(10, 12)]
noncomputable def ref01_Num_L3_I : LI := ⟨20, 0, [], ⟨[(0, .ty (.sl (.int .u8))), (3, .ty (.int .u64)), (4, .ty (.int .i64))], []⟩, [(.exit 0, ⟨[(3, .ty (.int .u64))], []⟩)]⟩
noncomputable def ref01_Num_L3 (N : Nat) (X : (((List (Int)) × ((Int) × ((Int) × Unit))) × Unit) → Option ((((Int) × Unit) × Unit))) (b0 : List (Int)) (n3 : Int) (i4 : Int) : Option ((((Int) × Unit) × Unit)) :=
 bif (decide (i4 < (((List.length b0) : Nat) : Int))) then
  Option.bind (getI b0 i4) fun (v5 : Int) =>
  (X ((b0, ((Go.IntKind.wrap .u64 ((Go.IntKind.wrap .u64 (n3 * (256 : Int))) + (Go.IntKind.wrap .u64 v5))), ((Go.IntKind.wrap .i64 (i4 + (1 : Int))), @Unit.unit))), @Unit.unit))
 else
  some (((n3, @Unit.unit), @Unit.unit))
noncomputable def ref01_Num_L3_R (N : Nat) (c : (((List (Int)) × ((Int) × ((Int) × Unit))) × Unit)) : Option ((((Int) × Unit) × Unit)) := gl (fun X c => ref01_Num_L3 N X c.1.1 c.1.2.1 c.1.2.2.1) N c
theorem ref01_Num_L3_S (N : Nat) (X : (((List (Int)) × ((Int) × ((Int) × Unit))) × Unit) → Option ((((Int) × Unit) × Unit))) (b0 : List (Int)) (n3 : Int) (i4 : Int) : (roundK Go.Proofs.Try.prog (Ev18 N) 400 [25] ref01_Num_L3_I (loopAt Go.Proofs.Try.prog [25] 3) X ((b0, n3, i4, ()), ())).run = ref01_Num_L3 N X b0 n3 i4 := by kernel_rfl
noncomputable def Ev19 (N : Nat) : (R : Type) → Env R := Env.addLp (Ev18 N) [25] 0 3 (fun R => lpK Go.Proofs.Try.prog ref01_Num_L3_I (fun X c => ref01_Num_L3 N X c.1.1 c.1.2.1 c.1.2.2.1) N)
theorem Ev19_ok (N : Nat) (R : Type) : EnvOK Go.Proofs.Try.prog (Ev19 N R) := EnvOK.addLp (Ev18_ok N R) (by kernel_rfl) (lpK_ok (li := ref01_Num_L3_I) (G := fun X c => ref01_Num_L3 N X c.1.1 c.1.2.1 c.1.2.2.1) hmx (Ev18_ok N _) (by kernel_rfl) loopAt_sub (fun (X : CT ref01_Num_L3_I.sh → Option (OT ref01_Num_L3_I.outs)) (c : CT ref01_Num_L3_I.sh) => ref01_Num_L3_S N X c.1.1 c.1.2.1 c.1.2.2.1) N)
noncomputable def ref01_Num (N : Nat) (b0 : List (Int)) : Option (Int) :=
 Option.bind (ref01_Num_L3_R N ((b0, ((0 : Int), ((0 : Int), @Unit.unit))), @Unit.unit)) fun (v2 : ((Int × Unit) × Unit)) =>
 some (v2.1.1)
theorem ref01_Num_S (N : Nat) (b0 : List (Int)) : (runK Go.Proofs.Try.prog (Ev19 N) 400 25 [(.sl (.int .u8))] [(.int .u64)] (b0, ())).run = ref01_Num N b0 := by kernel_rfl
noncomputable def Ev20 (N : Nat) : (R : Type) → Env R := Env.addFn (Ev19 N) 25 (fun R => fnK [(.sl (.int .u8))] [(.int .u64)] (fun c => ref01_Num N c.1))
theorem Ev20_ok (N : Nat) (R : Type) : EnvOK Go.Proofs.Try.prog (Ev20 N R) := EnvOK.addFn hmx (Ev19_ok N R) (Ev19_ok N _) (by kernel_rfl) (fun c => ref01_Num_S N c.1)
noncomputable def ref32_Parse (N : Nat) (b0 : List (Int)) : Option (((Int) × ((Int) × ((Int) × ((Int) × (List (Int)))))) × Int) :=
 bif (decide ((((List.length b0) : Nat) : Int) < (20 : Int))) then
  some ((((0 : Int), ((0 : Int), ((0 : Int), ((0 : Int), ([] : List (Int)))))), (4 : Int)))
 else
  Option.bind (getI b0 (0 : Int)) fun (v2 : Int) =>
  bif (!(decide (v2 = (69 : Int)))) then
   some ((((0 : Int), ((0 : Int), ((0 : Int), ((0 : Int), ([] : List (Int)))))), (15 : Int)))
  else
   Option.bind (subI b0 (2 : Int) (4 : Int)) fun (v3 : (List Int)) =>
   Option.bind (@ref01_Num N v3) fun (v4 : Int) =>
   bif (decide ((Go.IntKind.wrap .i64 v4) < (20 : Int))) then
    some ((((0 : Int), ((0 : Int), ((0 : Int), ((0 : Int), ([] : List (Int)))))), (3 : Int)))
   else
    bif (decide ((((List.length b0) : Nat) : Int) < (Go.IntKind.wrap .i64 v4))) then
     some ((((0 : Int), ((0 : Int), ((0 : Int), ((0 : Int), ([] : List (Int)))))), (4 : Int)))
    else
     bif (decide ((1480 : Int) < (Go.IntKind.wrap .i64 ((Go.IntKind.wrap .i64 v4) - (20 : Int))))) then
      some ((((0 : Int), ((0 : Int), ((0 : Int), ((0 : Int), ([] : List (Int)))))), (8 : Int)))
     else
      Option.bind (takeI b0 (20 : Int)) fun (v5 : (List Int)) =>
      Option.bind (@ref32_Sum N v5) fun (v6 : Int) =>
      bif (!(decide (v6 = (0 : Int)))) then
       some ((((0 : Int), ((0 : Int), ((0 : Int), ((0 : Int), ([] : List (Int)))))), (3 : Int)))
      else
       Option.bind (getI b0 (8 : Int)) fun (v7 : Int) =>
       Option.bind (getI b0 (9 : Int)) fun (v8 : Int) =>
       Option.bind (subI b0 (12 : Int) (16 : Int)) fun (v9 : (List Int)) =>
       Option.bind (@ref01_Num N v9) fun (v10 : Int) =>
       Option.bind (subI b0 (16 : Int) (20 : Int)) fun (v11 : (List Int)) =>
       Option.bind (@ref01_Num N v11) fun (v12 : Int) =>
       Option.bind (subI b0 (20 : Int) (Go.IntKind.wrap .i64 v4)) fun (v13 : (List Int)) =>
       some (((v7, (v8, ((Go.IntKind.wrap .u32 v10), ((Go.IntKind.wrap .u32 v12), v13)))), (0 : Int)))
theorem ref32_Parse_S (N : Nat) (b0 : List (Int)) : (runK Go.Proofs.Try.prog (Ev20 N) 400 10 [(.sl (.int .u8))] [(.pair (.int .u8) (.pair (.int .u8) (.pair (.int .u32) (.pair (.int .u32) (.sl (.int .u8)))))), (.int .i64)] (b0, ())).run = ref32_Parse N b0 := by kernel_rfl
theorem ref32_Parse_C (N : Nat) (b0 : List (Int)) (y : ((Int) × ((Int) × ((Int) × ((Int) × (List (Int)))))) × Int) (h : ref32_Parse N b0 = some y) : CallsK Go.Proofs.Try.prog 10 (valA [(.sl (.int .u8))] (b0, ())) (tupV (valR [(.pair (.int .u8) (.pair (.int .u8) (.pair (.int .u32) (.pair (.int .u32) (.sl (.int .u8)))))), (.int .i64)] y)) := runK_ok hmx (Ev20_ok N _) (okFn_ok (by kernel_rfl)) (by rw [ref32_Parse_S]; exact h)
noncomputable def Ev21 (N : Nat) : (R : Type) → Env R := Env.addFn (Ev20 N) 10 (fun R => fnK [(.sl (.int .u8))] [(.pair (.int .u8) (.pair (.int .u8) (.pair (.int .u32) (.pair (.int .u32) (.sl (.int .u8)))))), (.int .i64)] (fun c => ref32_Parse N c.1))
theorem Ev21_ok (N : Nat) (R : Type) : EnvOK Go.Proofs.Try.prog (Ev21 N R) := EnvOK.addFn hmx (Ev20_ok N R) (Ev20_ok N _) (by kernel_rfl) (fun c => ref32_Parse_S N c.1)
noncomputable def Ev22 (N : Nat) : (R : Type) → Env R := Env.addBx (Ev21 N) [(15, 0)]
theorem Ev22_ok (N : Nat) (R : Type) : EnvOK Go.Proofs.Try.prog (Ev22 N R) := EnvOK.addBx (Ev21_ok N R) [(15, 0)]
noncomputable def ref01_Same_L4_I : LI := ⟨26, 0, [], ⟨[(0, .ty (.sl (.int .u8))), (1, .ty (.sl (.int .u8))), (5, .ty (.int .i64))], []⟩, [(.ret, ⟨[(4, .ty .bool)], []⟩), (.exit 0, ⟨[], []⟩)]⟩
noncomputable def ref01_Same_L4 (N : Nat) (X : (((List (Int)) × ((List (Int)) × ((Int) × Unit))) × Unit) → Option (((((Bool) × Unit) × Unit) ⊕ (Unit × Unit)))) (a0 : List (Int)) (b1 : List (Int)) (i5 : Int) : Option (((((Bool) × Unit) × Unit) ⊕ (Unit × Unit))) :=
 bif (decide (i5 < (((List.length a0) : Nat) : Int))) then
  Option.bind (getI a0 i5) fun (v5 : Int) =>
  Option.bind (getI b1 i5) fun (v6 : Int) =>
  bif (!(decide (v5 = v6))) then
   some ((.inl ((@Bool.false, @Unit.unit), @Unit.unit)))
  else
   (X ((a0, (b1, ((Go.IntKind.wrap .i64 (i5 + (1 : Int))), @Unit.unit))), @Unit.unit))
 else
  some ((.inr (@Unit.unit, @Unit.unit)))
noncomputable def ref01_Same_L4_R (N : Nat) (c : (((List (Int)) × ((List (Int)) × ((Int) × Unit))) × Unit)) : Option (((((Bool) × Unit) × Unit) ⊕ (Unit × Unit))) := gl (fun X c => ref01_Same_L4 N X c.1.1 c.1.2.1 c.1.2.2.1) N c
theorem ref01_Same_L4_S (N : Nat) (X : (((List (Int)) × ((List (Int)) × ((Int) × Unit))) × Unit) → Option (((((Bool) × Unit) × Unit) ⊕ (Unit × Unit)))) (a0 : List (Int)) (b1 : List (Int)) (i5 : Int) : (roundK Go.Proofs.Try.prog (Ev22 N) 400 [11] ref01_Same_L4_I (loopAt Go.Proofs.Try.prog [11] 4) X ((a0, b1, i5, ()), ())).run = ref01_Same_L4 N X a0 b1 i5 := by kernel_rfl
noncomputable def Ev23 (N : Nat) : (R : Type) → Env R := Env.addLp (Ev22 N) [11] 0 4 (fun R => lpK Go.Proofs.Try.prog ref01_Same_L4_I (fun X c => ref01_Same_L4 N X c.1.1 c.1.2.1 c.1.2.2.1) N)
theorem Ev23_ok (N : Nat) (R : Type) : EnvOK Go.Proofs.Try.prog (Ev23 N R) := EnvOK.addLp (Ev22_ok N R) (by kernel_rfl) (lpK_ok (li := ref01_Same_L4_I) (G := fun X c => ref01_Same_L4 N X c.1.1 c.1.2.1 c.1.2.2.1) hmx (Ev22_ok N _) (by kernel_rfl) loopAt_sub (fun (X : CT ref01_Same_L4_I.sh → Option (OT ref01_Same_L4_I.outs)) (c : CT ref01_Same_L4_I.sh) => ref01_Same_L4_S N X c.1.1 c.1.2.1 c.1.2.2.1) N)
noncomputable def ref01_Same (N : Nat) (a0 : List (Int)) (b1 : List (Int)) : Option (Bool) :=
 bif (!(decide ((((List.length a0) : Nat) : Int) = (((List.length b1) : Nat) : Int)))) then
  some (@Bool.false)
 else
  Option.bind (ref01_Same_L4_R N ((a0, (b1, ((0 : Int), @Unit.unit))), @Unit.unit)) fun (v3 : (((Bool × Unit) × Unit) ⊕ (Unit × Unit))) =>
  Sum.elim
   (fun (v4 : ((Bool × Unit) × Unit)) =>
   some (v4.1.1))
   (fun (v4 : (Unit × Unit)) =>
   some (@Bool.true)) v3
theorem ref01_Same_S (N : Nat) (a0 : List (Int)) (b1 : List (Int)) : (runK Go.Proofs.Try.prog (Ev23 N) 400 11 [(.sl (.int .u8)), (.sl (.int .u8))] [.bool] (a0, b1, ())).run = ref01_Same N a0 b1 := by kernel_rfl
theorem ref01_Same_C (N : Nat) (a0 : List (Int)) (b1 : List (Int)) (y : Bool) (h : ref01_Same N a0 b1 = some y) : CallsK Go.Proofs.Try.prog 11 (valA [(.sl (.int .u8)), (.sl (.int .u8))] (a0, b1, ())) (tupV (valR [.bool] y)) := runK_ok hmx (Ev23_ok N _) (okFn_ok (by kernel_rfl)) (by rw [ref01_Same_S]; exact h)
noncomputable def Ev24 (N : Nat) : (R : Type) → Env R := Env.addFn (Ev23 N) 11 (fun R => fnK [(.sl (.int .u8)), (.sl (.int .u8))] [.bool] (fun c => ref01_Same N c.1 c.2.1))
theorem Ev24_ok (N : Nat) (R : Type) : EnvOK Go.Proofs.Try.prog (Ev24 N R) := EnvOK.addFn hmx (Ev23_ok N R) (Ev23_ok N _) (by kernel_rfl) (fun c => ref01_Same_S N c.1 c.2.1)
noncomputable def ref32_Same (N : Nat) (a0 : (Int) × ((Int) × ((Int) × ((Int) × (List (Int)))))) (b1 : (Int) × ((Int) × ((Int) × ((Int) × (List (Int)))))) : Option (Bool) :=
 bif (decide (a0.1 = b1.1)) then
  bif (@cond Bool @Bool.true (decide (a0.2.1 = b1.2.1)) @Bool.false) then
   bif (@cond Bool @Bool.true (decide (a0.2.2.1 = b1.2.2.1)) @Bool.false) then
    bif (@cond Bool @Bool.true (decide (a0.2.2.2.1 = b1.2.2.2.1)) @Bool.false) then
     Option.bind (@ref01_Same N a0.2.2.2.2 b1.2.2.2.2) fun (v3 : Bool) =>
     some ((@cond Bool @Bool.true v3 @Bool.false))
    else
     some (@Bool.false)
   else
    some (@Bool.false)
  else
   some (@Bool.false)
 else
  some (@Bool.false)
theorem ref32_Same_S (N : Nat) (a0 : (Int) × ((Int) × ((Int) × ((Int) × (List (Int)))))) (b1 : (Int) × ((Int) × ((Int) × ((Int) × (List (Int)))))) : (runK Go.Proofs.Try.prog (Ev24 N) 400 15 [(.pair (.int .u8) (.pair (.int .u8) (.pair (.int .u32) (.pair (.int .u32) (.sl (.int .u8)))))), (.pair (.int .u8) (.pair (.int .u8) (.pair (.int .u32) (.pair (.int .u32) (.sl (.int .u8))))))] [.bool] (a0, b1, ())).run = ref32_Same N a0 b1 := by kernel_rfl
theorem ref32_Same_C (N : Nat) (a0 : (Int) × ((Int) × ((Int) × ((Int) × (List (Int)))))) (b1 : (Int) × ((Int) × ((Int) × ((Int) × (List (Int)))))) (y : Bool) (h : ref32_Same N a0 b1 = some y) : CallsK Go.Proofs.Try.prog 15 (valA [(.pair (.int .u8) (.pair (.int .u8) (.pair (.int .u32) (.pair (.int .u32) (.sl (.int .u8)))))), (.pair (.int .u8) (.pair (.int .u8) (.pair (.int .u32) (.pair (.int .u32) (.sl (.int .u8))))))] (a0, b1, ())) (tupV (valR [.bool] y)) := runK_ok hmx (Ev24_ok N _) (okFn_ok (by kernel_rfl)) (by rw [ref32_Same_S]; exact h)
noncomputable def Ev25 (N : Nat) : (R : Type) → Env R := Env.addFn (Ev24 N) 15 (fun R => fnK [(.pair (.int .u8) (.pair (.int .u8) (.pair (.int .u32) (.pair (.int .u32) (.sl (.int .u8)))))), (.pair (.int .u8) (.pair (.int .u8) (.pair (.int .u32) (.pair (.int .u32) (.sl (.int .u8))))))] [.bool] (fun c => ref32_Same N c.1 c.2.1))
theorem Ev25_ok (N : Nat) (R : Type) : EnvOK Go.Proofs.Try.prog (Ev25 N R) := EnvOK.addFn hmx (Ev24_ok N R) (Ev24_ok N _) (by kernel_rfl) (fun c => ref32_Same_S N c.1 c.2.1)
noncomputable def Ev26 (N : Nat) : (R : Type) → Env R := Env.addBx (Ev25 N) [(6, 0)]
theorem Ev26_ok (N : Nat) (R : Type) : EnvOK Go.Proofs.Try.prog (Ev26 N R) := EnvOK.addBx (Ev25_ok N R) [(6, 0)]
noncomputable def octs_Put_L5_I : LI := ⟨35, 0, [], ⟨[(0, .ty (.int .u64)), (1, .ty (.int .i64)), (2, .ty .bool), (8, .lit (.own 0)), (19, .ty (.int .i64)), (20, .ty (.int .i64))], [.own (.int .u8) 5]⟩, [(.exit 0, ⟨[(8, .lit (.own 0))], [.own (.int .u8) 5]⟩)]⟩
noncomputable def octs_Put_L5 (N : Nat) (X : (((Int) × ((Int) × ((Bool) × ((Int) × ((Int) × Unit))))) × ((List (Int)) × Unit)) → Option ((Unit × ((List (Int)) × Unit)))) (n0 : Int) (width1 : Int) (little2 : Bool) (x19 : Int) (x20 : Int) (h0 : List (Int)) : Option ((Unit × ((List (Int)) × Unit))) :=
 bif (decide (x20 < x19)) then
  Option.bind (@octs_place N x20 width1 little2) fun (v8 : Int) =>
  bif (decide ((0 : Int) ≤ v8 ∧ v8 < (((List.length h0) : Nat) : Int))) then
   Option.bind (@GetElem?.getElem? (List Int) Nat Int (fun (as9 : (List Int)) => (fun (i10 : Nat) => (@LT.lt Nat @instLTNat i10 (List.length as9)))) (@List.instGetElem?NatLtLength Int) h0 (Int.toNat v8)) fun (v9 : Int) =>
   (X (((@Int.fdiv n0 (@HPow.hPow Int Nat Int (@instHPow Int Nat (@instPowNat Int @Int.instNatPow)) (2 : Int) (@Min.min Nat @instMinNat (Int.toNat (8 : Int)) (@Go.IntKind.bits @Go.IntKind.u64)))), (width1, (little2, (x19, ((Go.IntKind.wrap .i64 (x20 + (1 : Int))), @Unit.unit))))), ((@List.set Int h0 (Int.toNat v8) (Go.IntKind.wrap .u8 n0)), @Unit.unit)))
  else
   none
 else
  some ((@Unit.unit, (h0, @Unit.unit)))
noncomputable def octs_Put_L5_R (N : Nat) (c : (((Int) × ((Int) × ((Bool) × ((Int) × ((Int) × Unit))))) × ((List (Int)) × Unit))) : Option ((Unit × ((List (Int)) × Unit))) := gl (fun X c => octs_Put_L5 N X c.1.1 c.1.2.1 c.1.2.2.1 c.1.2.2.2.1 c.1.2.2.2.2.1 c.2.1) N c
theorem octs_Put_L5_S (N : Nat) (X : (((Int) × ((Int) × ((Bool) × ((Int) × ((Int) × Unit))))) × ((List (Int)) × Unit)) → Option ((Unit × ((List (Int)) × Unit)))) (n0 : Int) (width1 : Int) (little2 : Bool) (x19 : Int) (x20 : Int) (h0 : List (Int)) : (roundK Go.Proofs.Try.prog (Ev26 N) 400 [19] octs_Put_L5_I (loopAt Go.Proofs.Try.prog [19] 5) X ((n0, width1, little2, x19, x20, ()), (h0, ()))).run = octs_Put_L5 N X n0 width1 little2 x19 x20 h0 := by kernel_rfl
noncomputable def Ev27 (N : Nat) : (R : Type) → Env R := Env.addLp (Ev26 N) [19] 0 5 (fun R => lpK Go.Proofs.Try.prog octs_Put_L5_I (fun X c => octs_Put_L5 N X c.1.1 c.1.2.1 c.1.2.2.1 c.1.2.2.2.1 c.1.2.2.2.2.1 c.2.1) N)
theorem Ev27_ok (N : Nat) (R : Type) : EnvOK Go.Proofs.Try.prog (Ev27 N R) := EnvOK.addLp (Ev26_ok N R) (by kernel_rfl) (lpK_ok (li := octs_Put_L5_I) (G := fun X c => octs_Put_L5 N X c.1.1 c.1.2.1 c.1.2.2.1 c.1.2.2.2.1 c.1.2.2.2.2.1 c.2.1) hmx (Ev26_ok N _) (by kernel_rfl) loopAt_sub (fun (X : CT octs_Put_L5_I.sh → Option (OT octs_Put_L5_I.outs)) (c : CT octs_Put_L5_I.sh) => octs_Put_L5_S N X c.1.1 c.1.2.1 c.1.2.2.1 c.1.2.2.2.1 c.1.2.2.2.2.1 c.2.1) N)
noncomputable def octs_Put (N : Nat) (n0 : Int) (width1 : Int) (little2 : Bool) : Option ((List (Int)) × Int) :=
 bif (decide (width1 < (1 : Int))) then
  some ((([] : List (Int)), (1 : Int)))
 else
  bif (@cond Bool @Bool.false @Bool.true (decide ((8 : Int) < width1))) then
   some ((([] : List (Int)), (1 : Int)))
  else
   bif ((decide ((0 : Int) ≤ width1 ∧ width1 ≤ width1)) && (roomB (Int.toNat width1) 1)) then
    Option.bind (octs_Put_L5_R N ((n0, (width1, (little2, ((((List.length (@List.replicate Int (Int.toNat width1) (0 : Int))) : Nat) : Int), ((0 : Int), @Unit.unit))))), ((@List.replicate Int (Int.toNat width1) (0 : Int)), @Unit.unit))) fun (v4 : (Unit × ((List Int) × Unit))) =>
    some ((v4.2.1, (0 : Int)))
   else
    none
theorem octs_Put_S (N : Nat) (n0 : Int) (width1 : Int) (little2 : Bool) : (runK Go.Proofs.Try.prog (Ev27 N) 400 19 [(.int .u64), (.int .i64), .bool] [(.sl (.int .u8)), (.int .i64)] (n0, width1, little2, ())).run = octs_Put N n0 width1 little2 := by kernel_rfl
noncomputable def Ev28 (N : Nat) : (R : Type) → Env R := Env.addFn (Ev27 N) 19 (fun R => fnK [(.int .u64), (.int .i64), .bool] [(.sl (.int .u8)), (.int .i64)] (fun c => octs_Put N c.1 c.2.1 c.2.2.1))
theorem Ev28_ok (N : Nat) (R : Type) : EnvOK Go.Proofs.Try.prog (Ev28 N R) := EnvOK.addFn hmx (Ev27_ok N R) (Ev27_ok N _) (by kernel_rfl) (fun c => octs_Put_S N c.1 c.2.1 c.2.2.1)
noncomputable def ipcp_Lay_6_octs_Join_L3_I : LI := ⟨33, 0, [], ⟨[(0, .ty (.sl (.sl (.int .u8)))), (3, .ty (.int .i64)), (9, .ty (.sl (.sl (.int .u8)))), (10, .ty (.int .i64)), (11, .ty (.int .i64))], []⟩, [(.exit 0, ⟨[(0, .ty (.sl (.sl (.int .u8)))), (3, .ty (.int .i64))], []⟩)]⟩
noncomputable def ipcp_Lay_6_octs_Join_L3 (N : Nat) (X : (((List (List (Int))) × ((Int) × ((List (List (Int))) × ((Int) × ((Int) × Unit))))) × Unit) → Option ((((List (List (Int))) × ((Int) × Unit)) × Unit))) (parts0 : List (List (Int))) (size3 : Int) (x9 : List (List (Int))) (x10 : Int) (x11 : Int) : Option ((((List (List (Int))) × ((Int) × Unit)) × Unit)) :=
 bif (decide (x11 < x10)) then
  Option.bind (getI x9 x11) fun (v7 : (List Int)) =>
  (X ((parts0, ((Go.IntKind.wrap .i64 (size3 + (((List.length v7) : Nat) : Int))), (x9, (x10, ((Go.IntKind.wrap .i64 (x11 + (1 : Int))), @Unit.unit))))), @Unit.unit))
 else
  some (((parts0, (size3, @Unit.unit)), @Unit.unit))
noncomputable def ipcp_Lay_6_octs_Join_L3_R (N : Nat) (c : (((List (List (Int))) × ((Int) × ((List (List (Int))) × ((Int) × ((Int) × Unit))))) × Unit)) : Option ((((List (List (Int))) × ((Int) × Unit)) × Unit)) := gl (fun X c => ipcp_Lay_6_octs_Join_L3 N X c.1.1 c.1.2.1 c.1.2.2.1 c.1.2.2.2.1 c.1.2.2.2.2.1) N c
theorem ipcp_Lay_6_octs_Join_L3_S (N : Nat) (X : (((List (List (Int))) × ((Int) × ((List (List (Int))) × ((Int) × ((Int) × Unit))))) × Unit) → Option ((((List (List (Int))) × ((Int) × Unit)) × Unit))) (parts0 : List (List (Int))) (size3 : Int) (x9 : List (List (Int))) (x10 : Int) (x11 : Int) : (roundK Go.Proofs.Try.prog (Ev28 N) 400 [20, 6, 6] ipcp_Lay_6_octs_Join_L3_I (loopAt Go.Proofs.Try.prog [20, 6, 6] 3) X ((parts0, size3, x9, x10, x11, ()), ())).run = ipcp_Lay_6_octs_Join_L3 N X parts0 size3 x9 x10 x11 := by kernel_rfl
noncomputable def Ev29 (N : Nat) : (R : Type) → Env R := Env.addLp (Ev28 N) [20, 6, 6] 0 3 (fun R => lpK Go.Proofs.Try.prog ipcp_Lay_6_octs_Join_L3_I (fun X c => ipcp_Lay_6_octs_Join_L3 N X c.1.1 c.1.2.1 c.1.2.2.1 c.1.2.2.2.1 c.1.2.2.2.2.1) N)
theorem Ev29_ok (N : Nat) (R : Type) : EnvOK Go.Proofs.Try.prog (Ev29 N R) := EnvOK.addLp (Ev28_ok N R) (by kernel_rfl) (lpK_ok (li := ipcp_Lay_6_octs_Join_L3_I) (G := fun X c => ipcp_Lay_6_octs_Join_L3 N X c.1.1 c.1.2.1 c.1.2.2.1 c.1.2.2.2.1 c.1.2.2.2.2.1) hmx (Ev28_ok N _) (by kernel_rfl) loopAt_sub (fun (X : CT ipcp_Lay_6_octs_Join_L3_I.sh → Option (OT ipcp_Lay_6_octs_Join_L3_I.outs)) (c : CT ipcp_Lay_6_octs_Join_L3_I.sh) => ipcp_Lay_6_octs_Join_L3_S N X c.1.1 c.1.2.1 c.1.2.2.1 c.1.2.2.2.1 c.1.2.2.2.2.1) N)
noncomputable def ipcp_Lay_6_octs_Join_L9_I : LI := ⟨33, 0, [], ⟨[(6, .lit (.own 0)), (22, .ty (.sl (.sl (.int .u8)))), (23, .ty (.int .i64)), (24, .ty (.int .i64))], [.own (.int .u8) 5]⟩, [(.exit 2, ⟨[(6, .lit (.own 0))], [.own (.int .u8) 5]⟩)]⟩
noncomputable def ipcp_Lay_6_octs_Join_L9 (N : Nat) (X : (((List (List (Int))) × ((Int) × ((Int) × Unit))) × ((List (Int)) × Unit)) → Option ((Unit × ((List (Int)) × Unit)))) (x22 : List (List (Int))) (x23 : Int) (x24 : Int) (h0 : List (Int)) : Option ((Unit × ((List (Int)) × Unit))) :=
 bif (decide (x24 < x23)) then
  Option.bind (getI x22 x24) fun (v6 : (List Int)) =>
  bif (roomB ((List.length h0) + (List.length v6)) 1) then
   (X ((x22, (x23, ((Go.IntKind.wrap .i64 (x24 + (1 : Int))), @Unit.unit))), ((h0 ++ v6), @Unit.unit)))
  else
   none
 else
  some ((@Unit.unit, (h0, @Unit.unit)))
noncomputable def ipcp_Lay_6_octs_Join_L9_R (N : Nat) (c : (((List (List (Int))) × ((Int) × ((Int) × Unit))) × ((List (Int)) × Unit))) : Option ((Unit × ((List (Int)) × Unit))) := gl (fun X c => ipcp_Lay_6_octs_Join_L9 N X c.1.1 c.1.2.1 c.1.2.2.1 c.2.1) N c
theorem ipcp_Lay_6_octs_Join_L9_S (N : Nat) (X : (((List (List (Int))) × ((Int) × ((Int) × Unit))) × ((List (Int)) × Unit)) → Option ((Unit × ((List (Int)) × Unit)))) (x22 : List (List (Int))) (x23 : Int) (x24 : Int) (h0 : List (Int)) : (roundK Go.Proofs.Try.prog (Ev29 N) 400 [20, 6, 6] ipcp_Lay_6_octs_Join_L9_I (loopAt Go.Proofs.Try.prog [20, 6, 6] 9) X ((x22, x23, x24, ()), (h0, ()))).run = ipcp_Lay_6_octs_Join_L9 N X x22 x23 x24 h0 := by kernel_rfl
noncomputable def Ev30 (N : Nat) : (R : Type) → Env R := Env.addLp (Ev29 N) [20, 6, 6] 0 9 (fun R => lpK Go.Proofs.Try.prog ipcp_Lay_6_octs_Join_L9_I (fun X c => ipcp_Lay_6_octs_Join_L9 N X c.1.1 c.1.2.1 c.1.2.2.1 c.2.1) N)
theorem Ev30_ok (N : Nat) (R : Type) : EnvOK Go.Proofs.Try.prog (Ev30 N R) := EnvOK.addLp (Ev29_ok N R) (by kernel_rfl) (lpK_ok (li := ipcp_Lay_6_octs_Join_L9_I) (G := fun X c => ipcp_Lay_6_octs_Join_L9 N X c.1.1 c.1.2.1 c.1.2.2.1 c.2.1) hmx (Ev29_ok N _) (by kernel_rfl) loopAt_sub (fun (X : CT ipcp_Lay_6_octs_Join_L9_I.sh → Option (OT ipcp_Lay_6_octs_Join_L9_I.outs)) (c : CT ipcp_Lay_6_octs_Join_L9_I.sh) => ipcp_Lay_6_octs_Join_L9_S N X c.1.1 c.1.2.1 c.1.2.2.1 c.2.1) N)
noncomputable def ipcp_Lay_7_octs_Join_L3_I : LI := ⟨33, 1, [], ⟨[(0, .ty (.sl (.sl (.int .u8)))), (3, .ty (.int .i64)), (9, .ty (.sl (.sl (.int .u8)))), (10, .ty (.int .i64)), (11, .ty (.int .i64))], [.own (.int .u8) 5]⟩, [(.exit 0, ⟨[(0, .ty (.sl (.sl (.int .u8)))), (3, .ty (.int .i64))], [.own (.int .u8) 5]⟩)]⟩
noncomputable def ipcp_Lay_7_octs_Join_L3 (N : Nat) (X : (((List (List (Int))) × ((Int) × ((List (List (Int))) × ((Int) × ((Int) × Unit))))) × ((List (Int)) × Unit)) → Option ((((List (List (Int))) × ((Int) × Unit)) × ((List (Int)) × Unit)))) (parts0 : List (List (Int))) (size3 : Int) (x9 : List (List (Int))) (x10 : Int) (x11 : Int) (h0 : List (Int)) : Option ((((List (List (Int))) × ((Int) × Unit)) × ((List (Int)) × Unit))) :=
 bif (decide (x11 < x10)) then
  Option.bind (getI x9 x11) fun (v8 : (List Int)) =>
  (X ((parts0, ((Go.IntKind.wrap .i64 (size3 + (((List.length v8) : Nat) : Int))), (x9, (x10, ((Go.IntKind.wrap .i64 (x11 + (1 : Int))), @Unit.unit))))), (h0, @Unit.unit)))
 else
  some (((parts0, (size3, @Unit.unit)), (h0, @Unit.unit)))
noncomputable def ipcp_Lay_7_octs_Join_L3_R (N : Nat) (c : (((List (List (Int))) × ((Int) × ((List (List (Int))) × ((Int) × ((Int) × Unit))))) × ((List (Int)) × Unit))) : Option ((((List (List (Int))) × ((Int) × Unit)) × ((List (Int)) × Unit))) := gl (fun X c => ipcp_Lay_7_octs_Join_L3 N X c.1.1 c.1.2.1 c.1.2.2.1 c.1.2.2.2.1 c.1.2.2.2.2.1 c.2.1) N c
theorem ipcp_Lay_7_octs_Join_L3_S (N : Nat) (X : (((List (List (Int))) × ((Int) × ((List (List (Int))) × ((Int) × ((Int) × Unit))))) × ((List (Int)) × Unit)) → Option ((((List (List (Int))) × ((Int) × Unit)) × ((List (Int)) × Unit)))) (parts0 : List (List (Int))) (size3 : Int) (x9 : List (List (Int))) (x10 : Int) (x11 : Int) (h0 : List (Int)) : (roundK Go.Proofs.Try.prog (Ev30 N) 400 [20, 7, 6] ipcp_Lay_7_octs_Join_L3_I (loopAt Go.Proofs.Try.prog [20, 7, 6] 3) X ((parts0, size3, x9, x10, x11, ()), (h0, ()))).run = ipcp_Lay_7_octs_Join_L3 N X parts0 size3 x9 x10 x11 h0 := by kernel_rfl
noncomputable def Ev31 (N : Nat) : (R : Type) → Env R := Env.addLp (Ev30 N) [20, 7, 6] 1 3 (fun R => lpK Go.Proofs.Try.prog ipcp_Lay_7_octs_Join_L3_I (fun X c => ipcp_Lay_7_octs_Join_L3 N X c.1.1 c.1.2.1 c.1.2.2.1 c.1.2.2.2.1 c.1.2.2.2.2.1 c.2.1) N)
theorem Ev31_ok (N : Nat) (R : Type) : EnvOK Go.Proofs.Try.prog (Ev31 N R) := EnvOK.addLp (Ev30_ok N R) (by kernel_rfl) (lpK_ok (li := ipcp_Lay_7_octs_Join_L3_I) (G := fun X c => ipcp_Lay_7_octs_Join_L3 N X c.1.1 c.1.2.1 c.1.2.2.1 c.1.2.2.2.1 c.1.2.2.2.2.1 c.2.1) hmx (Ev30_ok N _) (by kernel_rfl) loopAt_sub (fun (X : CT ipcp_Lay_7_octs_Join_L3_I.sh → Option (OT ipcp_Lay_7_octs_Join_L3_I.outs)) (c : CT ipcp_Lay_7_octs_Join_L3_I.sh) => ipcp_Lay_7_octs_Join_L3_S N X c.1.1 c.1.2.1 c.1.2.2.1 c.1.2.2.2.1 c.1.2.2.2.2.1 c.2.1) N)
noncomputable def ipcp_Lay_7_octs_Join_L9_I : LI := ⟨33, 1, [], ⟨[(6, .lit (.own 1)), (22, .ty (.sl (.sl (.int .u8)))), (23, .ty (.int .i64)), (24, .ty (.int .i64))], [.own (.int .u8) 5, .own (.int .u8) 5]⟩, [(.exit 2, ⟨[(6, .lit (.own 1))], [.own (.int .u8) 5, .own (.int .u8) 5]⟩)]⟩
noncomputable def ipcp_Lay_7_octs_Join_L9 (N : Nat) (X : (((List (List (Int))) × ((Int) × ((Int) × Unit))) × ((List (Int)) × ((List (Int)) × Unit))) → Option ((Unit × ((List (Int)) × ((List (Int)) × Unit))))) (x22 : List (List (Int))) (x23 : Int) (x24 : Int) (h0 : List (Int)) (h1 : List (Int)) : Option ((Unit × ((List (Int)) × ((List (Int)) × Unit)))) :=
 bif (decide (x24 < x23)) then
  Option.bind (getI x22 x24) fun (v7 : (List Int)) =>
  bif (roomB ((List.length h1) + (List.length v7)) 1) then
   (X ((x22, (x23, ((Go.IntKind.wrap .i64 (x24 + (1 : Int))), @Unit.unit))), (h0, ((h1 ++ v7), @Unit.unit))))
  else
   none
 else
  some ((@Unit.unit, (h0, (h1, @Unit.unit))))
noncomputable def ipcp_Lay_7_octs_Join_L9_R (N : Nat) (c : (((List (List (Int))) × ((Int) × ((Int) × Unit))) × ((List (Int)) × ((List (Int)) × Unit)))) : Option ((Unit × ((List (Int)) × ((List (Int)) × Unit)))) := gl (fun X c => ipcp_Lay_7_octs_Join_L9 N X c.1.1 c.1.2.1 c.1.2.2.1 c.2.1 c.2.2.1) N c
theorem ipcp_Lay_7_octs_Join_L9_S (N : Nat) (X : (((List (List (Int))) × ((Int) × ((Int) × Unit))) × ((List (Int)) × ((List (Int)) × Unit))) → Option ((Unit × ((List (Int)) × ((List (Int)) × Unit))))) (x22 : List (List (Int))) (x23 : Int) (x24 : Int) (h0 : List (Int)) (h1 : List (Int)) : (roundK Go.Proofs.Try.prog (Ev31 N) 400 [20, 7, 6] ipcp_Lay_7_octs_Join_L9_I (loopAt Go.Proofs.Try.prog [20, 7, 6] 9) X ((x22, x23, x24, ()), (h0, h1, ()))).run = ipcp_Lay_7_octs_Join_L9 N X x22 x23 x24 h0 h1 := by kernel_rfl
noncomputable def Ev32 (N : Nat) : (R : Type) → Env R := Env.addLp (Ev31 N) [20, 7, 6] 1 9 (fun R => lpK Go.Proofs.Try.prog ipcp_Lay_7_octs_Join_L9_I (fun X c => ipcp_Lay_7_octs_Join_L9 N X c.1.1 c.1.2.1 c.1.2.2.1 c.2.1 c.2.2.1) N)
theorem Ev32_ok (N : Nat) (R : Type) : EnvOK Go.Proofs.Try.prog (Ev32 N R) := EnvOK.addLp (Ev31_ok N R) (by kernel_rfl) (lpK_ok (li := ipcp_Lay_7_octs_Join_L9_I) (G := fun X c => ipcp_Lay_7_octs_Join_L9 N X c.1.1 c.1.2.1 c.1.2.2.1 c.2.1 c.2.2.1) hmx (Ev31_ok N _) (by kernel_rfl) loopAt_sub (fun (X : CT ipcp_Lay_7_octs_Join_L9_I.sh → Option (OT ipcp_Lay_7_octs_Join_L9_I.outs)) (c : CT ipcp_Lay_7_octs_Join_L9_I.sh) => ipcp_Lay_7_octs_Join_L9_S N X c.1.1 c.1.2.1 c.1.2.2.1 c.2.1 c.2.2.1) N)
noncomputable def ipcp_Lay_8_octs_Join_L3_I : LI := ⟨33, 2, [], ⟨[(0, .ty (.sl (.sl (.int .u8)))), (3, .ty (.int .i64)), (9, .ty (.sl (.sl (.int .u8)))), (10, .ty (.int .i64)), (11, .ty (.int .i64))], [.dead, .dead]⟩, [(.exit 0, ⟨[(0, .ty (.sl (.sl (.int .u8)))), (3, .ty (.int .i64))], [.dead, .dead]⟩)]⟩
noncomputable def ipcp_Lay_8_octs_Join_L3 (N : Nat) (X : (((List (List (Int))) × ((Int) × ((List (List (Int))) × ((Int) × ((Int) × Unit))))) × Unit) → Option ((((List (List (Int))) × ((Int) × Unit)) × Unit))) (parts0 : List (List (Int))) (size3 : Int) (x9 : List (List (Int))) (x10 : Int) (x11 : Int) : Option ((((List (List (Int))) × ((Int) × Unit)) × Unit)) :=
 bif (decide (x11 < x10)) then
  Option.bind (getI x9 x11) fun (v7 : (List Int)) =>
  (X ((parts0, ((Go.IntKind.wrap .i64 (size3 + (((List.length v7) : Nat) : Int))), (x9, (x10, ((Go.IntKind.wrap .i64 (x11 + (1 : Int))), @Unit.unit))))), @Unit.unit))
 else
  some (((parts0, (size3, @Unit.unit)), @Unit.unit))
noncomputable def ipcp_Lay_8_octs_Join_L3_R (N : Nat) (c : (((List (List (Int))) × ((Int) × ((List (List (Int))) × ((Int) × ((Int) × Unit))))) × Unit)) : Option ((((List (List (Int))) × ((Int) × Unit)) × Unit)) := gl (fun X c => ipcp_Lay_8_octs_Join_L3 N X c.1.1 c.1.2.1 c.1.2.2.1 c.1.2.2.2.1 c.1.2.2.2.2.1) N c
theorem ipcp_Lay_8_octs_Join_L3_S (N : Nat) (X : (((List (List (Int))) × ((Int) × ((List (List (Int))) × ((Int) × ((Int) × Unit))))) × Unit) → Option ((((List (List (Int))) × ((Int) × Unit)) × Unit))) (parts0 : List (List (Int))) (size3 : Int) (x9 : List (List (Int))) (x10 : Int) (x11 : Int) : (roundK Go.Proofs.Try.prog (Ev32 N) 400 [20, 8, 6] ipcp_Lay_8_octs_Join_L3_I (loopAt Go.Proofs.Try.prog [20, 8, 6] 3) X ((parts0, size3, x9, x10, x11, ()), ())).run = ipcp_Lay_8_octs_Join_L3 N X parts0 size3 x9 x10 x11 := by kernel_rfl
noncomputable def Ev33 (N : Nat) : (R : Type) → Env R := Env.addLp (Ev32 N) [20, 8, 6] 2 3 (fun R => lpK Go.Proofs.Try.prog ipcp_Lay_8_octs_Join_L3_I (fun X c => ipcp_Lay_8_octs_Join_L3 N X c.1.1 c.1.2.1 c.1.2.2.1 c.1.2.2.2.1 c.1.2.2.2.2.1) N)
theorem Ev33_ok (N : Nat) (R : Type) : EnvOK Go.Proofs.Try.prog (Ev33 N R) := EnvOK.addLp (Ev32_ok N R) (by kernel_rfl) (lpK_ok (li := ipcp_Lay_8_octs_Join_L3_I) (G := fun X c => ipcp_Lay_8_octs_Join_L3 N X c.1.1 c.1.2.1 c.1.2.2.1 c.1.2.2.2.1 c.1.2.2.2.2.1) hmx (Ev32_ok N _) (by kernel_rfl) loopAt_sub (fun (X : CT ipcp_Lay_8_octs_Join_L3_I.sh → Option (OT ipcp_Lay_8_octs_Join_L3_I.outs)) (c : CT ipcp_Lay_8_octs_Join_L3_I.sh) => ipcp_Lay_8_octs_Join_L3_S N X c.1.1 c.1.2.1 c.1.2.2.1 c.1.2.2.2.1 c.1.2.2.2.2.1) N)
noncomputable def ipcp_Lay_8_octs_Join_L9_I : LI := ⟨33, 2, [], ⟨[(6, .lit (.own 2)), (22, .ty (.sl (.sl (.int .u8)))), (23, .ty (.int .i64)), (24, .ty (.int .i64))], [.dead, .dead, .own (.int .u8) 5]⟩, [(.exit 2, ⟨[(6, .lit (.own 2))], [.dead, .dead, .own (.int .u8) 5]⟩)]⟩
noncomputable def ipcp_Lay_8_octs_Join_L9 (N : Nat) (X : (((List (List (Int))) × ((Int) × ((Int) × Unit))) × ((List (Int)) × Unit)) → Option ((Unit × ((List (Int)) × Unit)))) (x22 : List (List (Int))) (x23 : Int) (x24 : Int) (h0 : List (Int)) : Option ((Unit × ((List (Int)) × Unit))) :=
 bif (decide (x24 < x23)) then
  Option.bind (getI x22 x24) fun (v6 : (List Int)) =>
  bif (roomB ((List.length h0) + (List.length v6)) 1) then
   (X ((x22, (x23, ((Go.IntKind.wrap .i64 (x24 + (1 : Int))), @Unit.unit))), ((h0 ++ v6), @Unit.unit)))
  else
   none
 else
  some ((@Unit.unit, (h0, @Unit.unit)))
noncomputable def ipcp_Lay_8_octs_Join_L9_R (N : Nat) (c : (((List (List (Int))) × ((Int) × ((Int) × Unit))) × ((List (Int)) × Unit))) : Option ((Unit × ((List (Int)) × Unit))) := gl (fun X c => ipcp_Lay_8_octs_Join_L9 N X c.1.1 c.1.2.1 c.1.2.2.1 c.2.1) N c
theorem ipcp_Lay_8_octs_Join_L9_S (N : Nat) (X : (((List (List (Int))) × ((Int) × ((Int) × Unit))) × ((List (Int)) × Unit)) → Option ((Unit × ((List (Int)) × Unit)))) (x22 : List (List (Int))) (x23 : Int) (x24 : Int) (h0 : List (Int)) : (roundK Go.Proofs.Try.prog (Ev33 N) 400 [20, 8, 6] ipcp_Lay_8_octs_Join_L9_I (loopAt Go.Proofs.Try.prog [20, 8, 6] 9) X ((x22, x23, x24, ()), (h0, ()))).run = ipcp_Lay_8_octs_Join_L9 N X x22 x23 x24 h0 := by kernel_rfl
noncomputable def Ev34 (N : Nat) : (R : Type) → Env R := Env.addLp (Ev33 N) [20, 8, 6] 2 9 (fun R => lpK Go.Proofs.Try.prog ipcp_Lay_8_octs_Join_L9_I (fun X c => ipcp_Lay_8_octs_Join_L9 N X c.1.1 c.1.2.1 c.1.2.2.1 c.2.1) N)
theorem Ev34_ok (N : Nat) (R : Type) : EnvOK Go.Proofs.Try.prog (Ev34 N R) := EnvOK.addLp (Ev33_ok N R) (by kernel_rfl) (lpK_ok (li := ipcp_Lay_8_octs_Join_L9_I) (G := fun X c => ipcp_Lay_8_octs_Join_L9 N X c.1.1 c.1.2.1 c.1.2.2.1 c.2.1) hmx (Ev33_ok N _) (by kernel_rfl) loopAt_sub (fun (X : CT ipcp_Lay_8_octs_Join_L9_I.sh → Option (OT ipcp_Lay_8_octs_Join_L9_I.outs)) (c : CT ipcp_Lay_8_octs_Join_L9_I.sh) => ipcp_Lay_8_octs_Join_L9_S N X c.1.1 c.1.2.1 c.1.2.2.1 c.2.1) N)
noncomputable def ipcp_Lay_9_octs_Join_L3_I : LI := ⟨33, 3, [], ⟨[(0, .ty (.sl (.sl (.int .u8)))), (3, .ty (.int .i64)), (9, .ty (.sl (.sl (.int .u8)))), (10, .ty (.int .i64)), (11, .ty (.int .i64))], [.dead, .dead, .dead]⟩, [(.exit 0, ⟨[(0, .ty (.sl (.sl (.int .u8)))), (3, .ty (.int .i64))], [.dead, .dead, .dead]⟩)]⟩
noncomputable def ipcp_Lay_9_octs_Join_L3 (N : Nat) (X : (((List (List (Int))) × ((Int) × ((List (List (Int))) × ((Int) × ((Int) × Unit))))) × Unit) → Option ((((List (List (Int))) × ((Int) × Unit)) × Unit))) (parts0 : List (List (Int))) (size3 : Int) (x9 : List (List (Int))) (x10 : Int) (x11 : Int) : Option ((((List (List (Int))) × ((Int) × Unit)) × Unit)) :=
 bif (decide (x11 < x10)) then
  Option.bind (getI x9 x11) fun (v7 : (List Int)) =>
  (X ((parts0, ((Go.IntKind.wrap .i64 (size3 + (((List.length v7) : Nat) : Int))), (x9, (x10, ((Go.IntKind.wrap .i64 (x11 + (1 : Int))), @Unit.unit))))), @Unit.unit))
 else
  some (((parts0, (size3, @Unit.unit)), @Unit.unit))
noncomputable def ipcp_Lay_9_octs_Join_L3_R (N : Nat) (c : (((List (List (Int))) × ((Int) × ((List (List (Int))) × ((Int) × ((Int) × Unit))))) × Unit)) : Option ((((List (List (Int))) × ((Int) × Unit)) × Unit)) := gl (fun X c => ipcp_Lay_9_octs_Join_L3 N X c.1.1 c.1.2.1 c.1.2.2.1 c.1.2.2.2.1 c.1.2.2.2.2.1) N c
theorem ipcp_Lay_9_octs_Join_L3_S (N : Nat) (X : (((List (List (Int))) × ((Int) × ((List (List (Int))) × ((Int) × ((Int) × Unit))))) × Unit) → Option ((((List (List (Int))) × ((Int) × Unit)) × Unit))) (parts0 : List (List (Int))) (size3 : Int) (x9 : List (List (Int))) (x10 : Int) (x11 : Int) : (roundK Go.Proofs.Try.prog (Ev34 N) 400 [20, 9, 6] ipcp_Lay_9_octs_Join_L3_I (loopAt Go.Proofs.Try.prog [20, 9, 6] 3) X ((parts0, size3, x9, x10, x11, ()), ())).run = ipcp_Lay_9_octs_Join_L3 N X parts0 size3 x9 x10 x11 := by kernel_rfl
noncomputable def Ev35 (N : Nat) : (R : Type) → Env R := Env.addLp (Ev34 N) [20, 9, 6] 3 3 (fun R => lpK Go.Proofs.Try.prog ipcp_Lay_9_octs_Join_L3_I (fun X c => ipcp_Lay_9_octs_Join_L3 N X c.1.1 c.1.2.1 c.1.2.2.1 c.1.2.2.2.1 c.1.2.2.2.2.1) N)
theorem Ev35_ok (N : Nat) (R : Type) : EnvOK Go.Proofs.Try.prog (Ev35 N R) := EnvOK.addLp (Ev34_ok N R) (by kernel_rfl) (lpK_ok (li := ipcp_Lay_9_octs_Join_L3_I) (G := fun X c => ipcp_Lay_9_octs_Join_L3 N X c.1.1 c.1.2.1 c.1.2.2.1 c.1.2.2.2.1 c.1.2.2.2.2.1) hmx (Ev34_ok N _) (by kernel_rfl) loopAt_sub (fun (X : CT ipcp_Lay_9_octs_Join_L3_I.sh → Option (OT ipcp_Lay_9_octs_Join_L3_I.outs)) (c : CT ipcp_Lay_9_octs_Join_L3_I.sh) => ipcp_Lay_9_octs_Join_L3_S N X c.1.1 c.1.2.1 c.1.2.2.1 c.1.2.2.2.1 c.1.2.2.2.2.1) N)
noncomputable def ipcp_Lay_9_octs_Join_L9_I : LI := ⟨33, 3, [], ⟨[(6, .lit (.own 3)), (22, .ty (.sl (.sl (.int .u8)))), (23, .ty (.int .i64)), (24, .ty (.int .i64))], [.dead, .dead, .dead, .own (.int .u8) 5]⟩, [(.exit 2, ⟨[(6, .lit (.own 3))], [.dead, .dead, .dead, .own (.int .u8) 5]⟩)]⟩
noncomputable def ipcp_Lay_9_octs_Join_L9 (N : Nat) (X : (((List (List (Int))) × ((Int) × ((Int) × Unit))) × ((List (Int)) × Unit)) → Option ((Unit × ((List (Int)) × Unit)))) (x22 : List (List (Int))) (x23 : Int) (x24 : Int) (h0 : List (Int)) : Option ((Unit × ((List (Int)) × Unit))) :=
 bif (decide (x24 < x23)) then
  Option.bind (getI x22 x24) fun (v6 : (List Int)) =>
  bif (roomB ((List.length h0) + (List.length v6)) 1) then
   (X ((x22, (x23, ((Go.IntKind.wrap .i64 (x24 + (1 : Int))), @Unit.unit))), ((h0 ++ v6), @Unit.unit)))
  else
   none
 else
  some ((@Unit.unit, (h0, @Unit.unit)))
noncomputable def ipcp_Lay_9_octs_Join_L9_R (N : Nat) (c : (((List (List (Int))) × ((Int) × ((Int) × Unit))) × ((List (Int)) × Unit))) : Option ((Unit × ((List (Int)) × Unit))) := gl (fun X c => ipcp_Lay_9_octs_Join_L9 N X c.1.1 c.1.2.1 c.1.2.2.1 c.2.1) N c
theorem ipcp_Lay_9_octs_Join_L9_S (N : Nat) (X : (((List (List (Int))) × ((Int) × ((Int) × Unit))) × ((List (Int)) × Unit)) → Option ((Unit × ((List (Int)) × Unit)))) (x22 : List (List (Int))) (x23 : Int) (x24 : Int) (h0 : List (Int)) : (roundK Go.Proofs.Try.prog (Ev35 N) 400 [20, 9, 6] ipcp_Lay_9_octs_Join_L9_I (loopAt Go.Proofs.Try.prog [20, 9, 6] 9) X ((x22, x23, x24, ()), (h0, ()))).run = ipcp_Lay_9_octs_Join_L9 N X x22 x23 x24 h0 := by kernel_rfl
noncomputable def Ev36 (N : Nat) : (R : Type) → Env R := Env.addLp (Ev35 N) [20, 9, 6] 3 9 (fun R => lpK Go.Proofs.Try.prog ipcp_Lay_9_octs_Join_L9_I (fun X c => ipcp_Lay_9_octs_Join_L9 N X c.1.1 c.1.2.1 c.1.2.2.1 c.2.1) N)
theorem Ev36_ok (N : Nat) (R : Type) : EnvOK Go.Proofs.Try.prog (Ev36 N R) := EnvOK.addLp (Ev35_ok N R) (by kernel_rfl) (lpK_ok (li := ipcp_Lay_9_octs_Join_L9_I) (G := fun X c => ipcp_Lay_9_octs_Join_L9 N X c.1.1 c.1.2.1 c.1.2.2.1 c.2.1) hmx (Ev35_ok N _) (by kernel_rfl) loopAt_sub (fun (X : CT ipcp_Lay_9_octs_Join_L9_I.sh → Option (OT ipcp_Lay_9_octs_Join_L9_I.outs)) (c : CT ipcp_Lay_9_octs_Join_L9_I.sh) => ipcp_Lay_9_octs_Join_L9_S N X c.1.1 c.1.2.1 c.1.2.2.1 c.2.1) N)
noncomputable def ipcp_Lay (N : Nat) (d0 : (Int) × ((Int) × ((Int) × ((Int) × (List (Int)))))) : Option ((List (Int)) × Int) :=
 bif (decide ((1480 : Int) < (((List.length d0.2.2.2.2) : Nat) : Int))) then
  some ((([] : List (Int)), (8 : Int)))
 else
  Option.bind (@octs_Put N (Go.IntKind.wrap .u64 (Go.IntKind.wrap .i64 ((20 : Int) + (((List.length d0.2.2.2.2) : Nat) : Int)))) (2 : Int) @Bool.false) fun (v2 : ((List Int) × Int)) =>
  Option.bind (@octs_Put N (Go.IntKind.wrap .u64 d0.2.2.1) (4 : Int) @Bool.false) fun (v3 : ((List Int) × Int)) =>
  Option.bind (@octs_Put N (Go.IntKind.wrap .u64 d0.2.2.2.1) (4 : Int) @Bool.false) fun (v4 : ((List Int) × Int)) =>
  Option.bind (ipcp_Lay_6_octs_Join_L3_R N ((([([(69 : Int), (0 : Int)] : List (Int)), v2.1, (@List.replicate Int (Int.toNat (4 : Int)) (0 : Int)), ([d0.1, d0.2.1] : List (Int))] : List ((List Int))), ((0 : Int), (([([(69 : Int), (0 : Int)] : List (Int)), v2.1, (@List.replicate Int (Int.toNat (4 : Int)) (0 : Int)), ([d0.1, d0.2.1] : List (Int))] : List ((List Int))), ((((List.length ([([(69 : Int), (0 : Int)] : List (Int)), v2.1, (@List.replicate Int (Int.toNat (4 : Int)) (0 : Int)), ([d0.1, d0.2.1] : List (Int))] : List ((List Int)))) : Nat) : Int), ((0 : Int), @Unit.unit))))), @Unit.unit)) fun (v5 : (((List (List Int)) × (Int × Unit)) × Unit)) =>
  bif ((decide ((0 : Int) ≤ (0 : Int) ∧ (0 : Int) ≤ v5.1.2.1)) && (roomB (Int.toNat v5.1.2.1) 1)) then
   Option.bind (ipcp_Lay_6_octs_Join_L9_R N ((v5.1.1, ((((List.length v5.1.1) : Nat) : Int), ((0 : Int), @Unit.unit))), ((@List.replicate Int (Int.toNat (0 : Int)) (0 : Int)), @Unit.unit))) fun (v6 : (Unit × ((List Int) × Unit))) =>
   Option.bind (ipcp_Lay_7_octs_Join_L3_R N ((([v3.1, v4.1] : List ((List Int))), ((0 : Int), (([v3.1, v4.1] : List ((List Int))), ((((List.length ([v3.1, v4.1] : List ((List Int)))) : Nat) : Int), ((0 : Int), @Unit.unit))))), (v6.2.1, @Unit.unit))) fun (v7 : (((List (List Int)) × (Int × Unit)) × ((List Int) × Unit))) =>
   bif ((decide ((0 : Int) ≤ (0 : Int) ∧ (0 : Int) ≤ v7.1.2.1)) && (roomB (Int.toNat v7.1.2.1) 1)) then
    Option.bind (ipcp_Lay_7_octs_Join_L9_R N ((v7.1.1, ((((List.length v7.1.1) : Nat) : Int), ((0 : Int), @Unit.unit))), (v7.2.1, ((@List.replicate Int (Int.toNat (0 : Int)) (0 : Int)), @Unit.unit)))) fun (v8 : (Unit × ((List Int) × ((List Int) × Unit)))) =>
    Option.bind (ipcp_Lay_8_octs_Join_L3_R N ((([v8.2.1, v8.2.2.1] : List ((List Int))), ((0 : Int), (([v8.2.1, v8.2.2.1] : List ((List Int))), ((((List.length ([v8.2.1, v8.2.2.1] : List ((List Int)))) : Nat) : Int), ((0 : Int), @Unit.unit))))), @Unit.unit)) fun (v9 : (((List (List Int)) × (Int × Unit)) × Unit)) =>
    bif ((decide ((0 : Int) ≤ (0 : Int) ∧ (0 : Int) ≤ v9.1.2.1)) && (roomB (Int.toNat v9.1.2.1) 1)) then
     Option.bind (ipcp_Lay_8_octs_Join_L9_R N ((v9.1.1, ((((List.length v9.1.1) : Nat) : Int), ((0 : Int), @Unit.unit))), ((@List.replicate Int (Int.toNat (0 : Int)) (0 : Int)), @Unit.unit))) fun (v10 : (Unit × ((List Int) × Unit))) =>
     Option.bind (@ipcp_Sum N v10.2.1) fun (v11 : Int) =>
     Option.bind (@octs_Put N (Go.IntKind.wrap .u64 v11) (2 : Int) @Bool.false) fun (v12 : ((List Int) × Int)) =>
     Option.bind (ipcp_Lay_9_octs_Join_L3_R N ((([v8.2.1, v12.1, v8.2.2.1, d0.2.2.2.2] : List ((List Int))), ((0 : Int), (([v8.2.1, v12.1, v8.2.2.1, d0.2.2.2.2] : List ((List Int))), ((((List.length ([v8.2.1, v12.1, v8.2.2.1, d0.2.2.2.2] : List ((List Int)))) : Nat) : Int), ((0 : Int), @Unit.unit))))), @Unit.unit)) fun (v13 : (((List (List Int)) × (Int × Unit)) × Unit)) =>
     bif ((decide ((0 : Int) ≤ (0 : Int) ∧ (0 : Int) ≤ v13.1.2.1)) && (roomB (Int.toNat v13.1.2.1) 1)) then
      Option.bind (ipcp_Lay_9_octs_Join_L9_R N ((v13.1.1, ((((List.length v13.1.1) : Nat) : Int), ((0 : Int), @Unit.unit))), ((@List.replicate Int (Int.toNat (0 : Int)) (0 : Int)), @Unit.unit))) fun (v14 : (Unit × ((List Int) × Unit))) =>
      some ((v14.2.1, (0 : Int)))
     else
      none
    else
     none
   else
    none
  else
   none
theorem ipcp_Lay_S (N : Nat) (d0 : (Int) × ((Int) × ((Int) × ((Int) × (List (Int)))))) : (runK Go.Proofs.Try.prog (Ev36 N) 400 6 [(.pair (.int .u8) (.pair (.int .u8) (.pair (.int .u32) (.pair (.int .u32) (.sl (.int .u8))))))] [(.sl (.int .u8)), (.int .i64)] (d0, ())).run = ipcp_Lay N d0 := by kernel_rfl
theorem ipcp_Lay_C (N : Nat) (d0 : (Int) × ((Int) × ((Int) × ((Int) × (List (Int)))))) (y : (List (Int)) × Int) (h : ipcp_Lay N d0 = some y) : CallsK Go.Proofs.Try.prog 6 (valA [(.pair (.int .u8) (.pair (.int .u8) (.pair (.int .u32) (.pair (.int .u32) (.sl (.int .u8))))))] (d0, ())) (tupV (valR [(.sl (.int .u8)), (.int .i64)] y)) := runK_ok hmx (Ev36_ok N _) (okFn_ok (by kernel_rfl)) (by rw [ipcp_Lay_S]; exact h)
noncomputable def Ev37 (N : Nat) : (R : Type) → Env R := Env.addFn (Ev36 N) 6 (fun R => fnK [(.pair (.int .u8) (.pair (.int .u8) (.pair (.int .u32) (.pair (.int .u32) (.sl (.int .u8))))))] [(.sl (.int .u8)), (.int .i64)] (fun c => ipcp_Lay N c.1))
theorem Ev37_ok (N : Nat) (R : Type) : EnvOK Go.Proofs.Try.prog (Ev37 N R) := EnvOK.addFn hmx (Ev36_ok N R) (Ev36_ok N _) (by kernel_rfl) (fun c => ipcp_Lay_S N c.1)
noncomputable def Ev38 (N : Nat) : (R : Type) → Env R := Env.addMv (Ev37 N) [(8, 4), (8, 6)]
theorem Ev38_ok (N : Nat) (R : Type) : EnvOK Go.Proofs.Try.prog (Ev38 N R) := EnvOK.addMv (Ev37_ok N R) [(8, 4), (8, 6)]
noncomputable def Ev39 (N : Nat) : (R : Type) → Env R := Env.addBx (Ev38 N) [(8, 0)]
theorem Ev39_ok (N : Nat) (R : Type) : EnvOK Go.Proofs.Try.prog (Ev39 N R) := EnvOK.addBx (Ev38_ok N R) [(8, 0)]
noncomputable def ref01_Big_L3_I : LI := ⟨24, 0, [], ⟨[(0, .ty (.int .u64)), (5, .lit (.own 0)), (6, .ty (.int .i64))], [.own (.int .u8) 5]⟩, [(.exit 0, ⟨[(5, .lit (.own 0))], [.own (.int .u8) 5]⟩)]⟩
noncomputable def ref01_Big_L3 (N : Nat) (X : (((Int) × ((Int) × Unit)) × ((List (Int)) × Unit)) → Option ((Unit × ((List (Int)) × Unit)))) (n0 : Int) (i6 : Int) (h0 : List (Int)) : Option ((Unit × ((List (Int)) × Unit))) :=
 bif (decide ((0 : Int) ≤ i6)) then
  bif (decide ((0 : Int) ≤ i6 ∧ i6 < (((List.length h0) : Nat) : Int))) then
   Option.bind (@GetElem?.getElem? (List Int) Nat Int (fun (as5 : (List Int)) => (fun (i6 : Nat) => (@LT.lt Nat @instLTNat i6 (List.length as5)))) (@List.instGetElem?NatLtLength Int) h0 (Int.toNat i6)) fun (v5 : Int) =>
   (X (((Go.IntKind.wrap .u64 (@Int.tdiv n0 (256 : Int))), ((Go.IntKind.wrap .i64 (i6 - (1 : Int))), @Unit.unit)), ((@List.set Int h0 (Int.toNat i6) (Go.IntKind.wrap .u8 (@Int.tmod n0 (256 : Int)))), @Unit.unit)))
  else
   none
 else
  some ((@Unit.unit, (h0, @Unit.unit)))
noncomputable def ref01_Big_L3_R (N : Nat) (c : (((Int) × ((Int) × Unit)) × ((List (Int)) × Unit))) : Option ((Unit × ((List (Int)) × Unit))) := gl (fun X c => ref01_Big_L3 N X c.1.1 c.1.2.1 c.2.1) N c
theorem ref01_Big_L3_S (N : Nat) (X : (((Int) × ((Int) × Unit)) × ((List (Int)) × Unit)) → Option ((Unit × ((List (Int)) × Unit)))) (n0 : Int) (i6 : Int) (h0 : List (Int)) : (roundK Go.Proofs.Try.prog (Ev39 N) 400 [21] ref01_Big_L3_I (loopAt Go.Proofs.Try.prog [21] 3) X ((n0, i6, ()), (h0, ()))).run = ref01_Big_L3 N X n0 i6 h0 := by kernel_rfl
noncomputable def Ev40 (N : Nat) : (R : Type) → Env R := Env.addLp (Ev39 N) [21] 0 3 (fun R => lpK Go.Proofs.Try.prog ref01_Big_L3_I (fun X c => ref01_Big_L3 N X c.1.1 c.1.2.1 c.2.1) N)
theorem Ev40_ok (N : Nat) (R : Type) : EnvOK Go.Proofs.Try.prog (Ev40 N R) := EnvOK.addLp (Ev39_ok N R) (by kernel_rfl) (lpK_ok (li := ref01_Big_L3_I) (G := fun X c => ref01_Big_L3 N X c.1.1 c.1.2.1 c.2.1) hmx (Ev39_ok N _) (by kernel_rfl) loopAt_sub (fun (X : CT ref01_Big_L3_I.sh → Option (OT ref01_Big_L3_I.outs)) (c : CT ref01_Big_L3_I.sh) => ref01_Big_L3_S N X c.1.1 c.1.2.1 c.2.1) N)
noncomputable def ref01_Big (N : Nat) (n0 : Int) (width1 : Int) : Option (List (Int)) :=
 bif ((decide ((0 : Int) ≤ width1 ∧ width1 ≤ width1)) && (roomB (Int.toNat width1) 1)) then
  Option.bind (ref01_Big_L3_R N ((n0, ((Go.IntKind.wrap .i64 (width1 - (1 : Int))), @Unit.unit)), ((@List.replicate Int (Int.toNat width1) (0 : Int)), @Unit.unit))) fun (v3 : (Unit × ((List Int) × Unit))) =>
  some (v3.2.1)
 else
  none
theorem ref01_Big_S (N : Nat) (n0 : Int) (width1 : Int) : (runK Go.Proofs.Try.prog (Ev40 N) 400 21 [(.int .u64), (.int .i64)] [(.sl (.int .u8))] (n0, width1, ())).run = ref01_Big N n0 width1 := by kernel_rfl
noncomputable def Ev41 (N : Nat) : (R : Type) → Env R := Env.addFn (Ev40 N) 21 (fun R => fnK [(.int .u64), (.int .i64)] [(.sl (.int .u8))] (fun c => ref01_Big N c.1 c.2.1))
theorem Ev41_ok (N : Nat) (R : Type) : EnvOK Go.Proofs.Try.prog (Ev41 N R) := EnvOK.addFn hmx (Ev40_ok N R) (Ev40_ok N _) (by kernel_rfl) (fun c => ref01_Big_S N c.1 c.2.1)
noncomputable def ref32_Lay (N : Nat) (d0 : (Int) × ((Int) × ((Int) × ((Int) × (List (Int)))))) : Option ((List (Int)) × Int) :=
 bif (decide ((1480 : Int) < (((List.length d0.2.2.2.2) : Nat) : Int))) then
  some ((([] : List (Int)), (8 : Int)))
 else
  Option.bind (@ref01_Big N (Go.IntKind.wrap .u64 (Go.IntKind.wrap .i64 ((20 : Int) + (((List.length d0.2.2.2.2) : Nat) : Int)))) (2 : Int)) fun (v2 : (List Int)) =>
  bif ((roomB ((List.length ([(69 : Int), (0 : Int)] : List (Int))) + (List.length v2)) 1) && (!(@List.isEmpty Int v2))) then
   bif (roomB ((List.length (([(69 : Int), (0 : Int)] : List (Int)) ++ v2)) + (List.length ([(0 : Int), (0 : Int), (0 : Int), (0 : Int), d0.1, d0.2.1, (0 : Int), (0 : Int)] : List (Int)))) 1) then
    Option.bind (@ref01_Big N (Go.IntKind.wrap .u64 d0.2.2.1) (4 : Int)) fun (v3 : (List Int)) =>
    Option.bind (@ref01_Big N (Go.IntKind.wrap .u64 d0.2.2.2.1) (4 : Int)) fun (v4 : (List Int)) =>
    bif (roomB ((List.length ((([(69 : Int), (0 : Int)] : List (Int)) ++ v2) ++ ([(0 : Int), (0 : Int), (0 : Int), (0 : Int), d0.1, d0.2.1, (0 : Int), (0 : Int)] : List (Int)))) + (List.length v3)) 1) then
     bif (roomB ((List.length (((([(69 : Int), (0 : Int)] : List (Int)) ++ v2) ++ ([(0 : Int), (0 : Int), (0 : Int), (0 : Int), d0.1, d0.2.1, (0 : Int), (0 : Int)] : List (Int))) ++ v3)) + (List.length v4)) 1) then
      Option.bind (@ref32_Sum N ((((([(69 : Int), (0 : Int)] : List (Int)) ++ v2) ++ ([(0 : Int), (0 : Int), (0 : Int), (0 : Int), d0.1, d0.2.1, (0 : Int), (0 : Int)] : List (Int))) ++ v3) ++ v4)) fun (v5 : Int) =>
      bif (decide ((0 : Int) ≤ (10 : Int) ∧ (10 : Int) < (((List.length ((((([(69 : Int), (0 : Int)] : List (Int)) ++ v2) ++ ([(0 : Int), (0 : Int), (0 : Int), (0 : Int), d0.1, d0.2.1, (0 : Int), (0 : Int)] : List (Int))) ++ v3) ++ v4)) : Nat) : Int))) then
       Option.bind (@GetElem?.getElem? (List Int) Nat Int (fun (as6 : (List Int)) => (fun (i7 : Nat) => (@LT.lt Nat @instLTNat i7 (List.length as6)))) (@List.instGetElem?NatLtLength Int) ((((([(69 : Int), (0 : Int)] : List (Int)) ++ v2) ++ ([(0 : Int), (0 : Int), (0 : Int), (0 : Int), d0.1, d0.2.1, (0 : Int), (0 : Int)] : List (Int))) ++ v3) ++ v4) (Int.toNat (10 : Int))) fun (v6 : Int) =>
       bif (decide ((0 : Int) ≤ (11 : Int) ∧ (11 : Int) < (((List.length (@List.set Int ((((([(69 : Int), (0 : Int)] : List (Int)) ++ v2) ++ ([(0 : Int), (0 : Int), (0 : Int), (0 : Int), d0.1, d0.2.1, (0 : Int), (0 : Int)] : List (Int))) ++ v3) ++ v4) (Int.toNat (10 : Int)) (Go.IntKind.wrap .u8 (Go.IntKind.wrap .u16 (@Int.tdiv v5 (256 : Int)))))) : Nat) : Int))) then
        Option.bind (@GetElem?.getElem? (List Int) Nat Int (fun (as7 : (List Int)) => (fun (i8 : Nat) => (@LT.lt Nat @instLTNat i8 (List.length as7)))) (@List.instGetElem?NatLtLength Int) (@List.set Int ((((([(69 : Int), (0 : Int)] : List (Int)) ++ v2) ++ ([(0 : Int), (0 : Int), (0 : Int), (0 : Int), d0.1, d0.2.1, (0 : Int), (0 : Int)] : List (Int))) ++ v3) ++ v4) (Int.toNat (10 : Int)) (Go.IntKind.wrap .u8 (Go.IntKind.wrap .u16 (@Int.tdiv v5 (256 : Int))))) (Int.toNat (11 : Int))) fun (v7 : Int) =>
        bif (roomB ((List.length (@List.set Int (@List.set Int ((((([(69 : Int), (0 : Int)] : List (Int)) ++ v2) ++ ([(0 : Int), (0 : Int), (0 : Int), (0 : Int), d0.1, d0.2.1, (0 : Int), (0 : Int)] : List (Int))) ++ v3) ++ v4) (Int.toNat (10 : Int)) (Go.IntKind.wrap .u8 (Go.IntKind.wrap .u16 (@Int.tdiv v5 (256 : Int))))) (Int.toNat (11 : Int)) (Go.IntKind.wrap .u8 (@Int.tmod v5 (256 : Int))))) + (List.length d0.2.2.2.2)) 1) then
         some ((((@List.set Int (@List.set Int ((((([(69 : Int), (0 : Int)] : List (Int)) ++ v2) ++ ([(0 : Int), (0 : Int), (0 : Int), (0 : Int), d0.1, d0.2.1, (0 : Int), (0 : Int)] : List (Int))) ++ v3) ++ v4) (Int.toNat (10 : Int)) (Go.IntKind.wrap .u8 (Go.IntKind.wrap .u16 (@Int.tdiv v5 (256 : Int))))) (Int.toNat (11 : Int)) (Go.IntKind.wrap .u8 (@Int.tmod v5 (256 : Int)))) ++ d0.2.2.2.2), (0 : Int)))
        else
         none
       else
        none
      else
       none
     else
      none
    else
     none
   else
    none
  else
   none
theorem ref32_Lay_S (N : Nat) (d0 : (Int) × ((Int) × ((Int) × ((Int) × (List (Int)))))) : (runK Go.Proofs.Try.prog (Ev41 N) 400 8 [(.pair (.int .u8) (.pair (.int .u8) (.pair (.int .u32) (.pair (.int .u32) (.sl (.int .u8))))))] [(.sl (.int .u8)), (.int .i64)] (d0, ())).run = ref32_Lay N d0 := by kernel_rfl
theorem ref32_Lay_C (N : Nat) (d0 : (Int) × ((Int) × ((Int) × ((Int) × (List (Int)))))) (y : (List (Int)) × Int) (h : ref32_Lay N d0 = some y) : CallsK Go.Proofs.Try.prog 8 (valA [(.pair (.int .u8) (.pair (.int .u8) (.pair (.int .u32) (.pair (.int .u32) (.sl (.int .u8))))))] (d0, ())) (tupV (valR [(.sl (.int .u8)), (.int .i64)] y)) := runK_ok hmx (Ev41_ok N _) (okFn_ok (by kernel_rfl)) (by rw [ref32_Lay_S]; exact h)
noncomputable def Ev42 (N : Nat) : (R : Type) → Env R := Env.addFn (Ev41 N) 8 (fun R => fnK [(.pair (.int .u8) (.pair (.int .u8) (.pair (.int .u32) (.pair (.int .u32) (.sl (.int .u8))))))] [(.sl (.int .u8)), (.int .i64)] (fun c => ref32_Lay N c.1))
theorem Ev42_ok (N : Nat) (R : Type) : EnvOK Go.Proofs.Try.prog (Ev42 N R) := EnvOK.addFn hmx (Ev41_ok N R) (Ev41_ok N _) (by kernel_rfl) (fun c => ref32_Lay_S N c.1)
noncomputable def Ev43 (N : Nat) : (R : Type) → Env R := Env.addBx (Ev42 N) [(16, 0)]
theorem Ev43_ok (N : Nat) (R : Type) : EnvOK Go.Proofs.Try.prog (Ev43 N R) := EnvOK.addBx (Ev42_ok N R) [(16, 0)]
noncomputable def Ev44 (N : Nat) : (R : Type) → Env R := Env.addBx (Ev43 N) [(27, 0)]
theorem Ev44_ok (N : Nat) (R : Type) : EnvOK Go.Proofs.Try.prog (Ev44 N R) := EnvOK.addBx (Ev43_ok N R) [(27, 0)]
noncomputable def nego_New (N : Nat) (r0 : (Bool) × (((Int) × ((Int) × (Bool))) × ((Bool) × ((Bool) × ((Int) × ((Int) × ((Int) × (Bool)))))))) : Option (((Bool) × (((Int) × ((Int) × (Bool))) × ((Bool) × ((Bool) × ((Int) × ((Int) × ((Int) × (Bool)))))))) × ((Int) × (((Int) × (Int)) × ((Int) × ((List ((Int) × (List (Int)))) × ((List ((Int) × (List (Int)))) × (Int))))))) :=
 some (((r0.1, ((r0.2.1.1, (r0.2.1.2.1, r0.2.1.2.2)), (r0.2.2.1, (r0.2.2.2.1, (r0.2.2.2.2.1, (r0.2.2.2.2.2.1, (r0.2.2.2.2.2.2.1, r0.2.2.2.2.2.2.2))))))), ((0 : Int), (((0 : Int), (0 : Int)), ((0 : Int), (([] : List ((Int × (List Int)))), (([] : List ((Int × (List Int)))), (0 : Int))))))))
theorem nego_New_S (N : Nat) (r0 : (Bool) × (((Int) × ((Int) × (Bool))) × ((Bool) × ((Bool) × ((Int) × ((Int) × ((Int) × (Bool)))))))) : (runK Go.Proofs.Try.prog (Ev44 N) 400 27 [(.pair .bool (.pair (.pair (.int .u16) (.pair (.int .u32) .bool)) (.pair .bool (.pair .bool (.pair (.int .u32) (.pair (.int .u32) (.pair (.int .u32) .bool)))))))] [(.pair (.pair .bool (.pair (.pair (.int .u16) (.pair (.int .u32) .bool)) (.pair .bool (.pair .bool (.pair (.int .u32) (.pair (.int .u32) (.pair (.int .u32) .bool))))))) (.pair (.int .i64) (.pair (.pair (.int .i64) (.int .i64)) (.pair (.int .u8) (.pair (.sl (.pair (.int .u8) (.sl (.int .u8)))) (.pair (.sl (.pair (.int .u8) (.sl (.int .u8)))) (.int .i64)))))))] (r0, ())).run = nego_New N r0 := by kernel_rfl
noncomputable def Ev45 (N : Nat) : (R : Type) → Env R := Env.addFn (Ev44 N) 27 (fun R => fnK [(.pair .bool (.pair (.pair (.int .u16) (.pair (.int .u32) .bool)) (.pair .bool (.pair .bool (.pair (.int .u32) (.pair (.int .u32) (.pair (.int .u32) .bool)))))))] [(.pair (.pair .bool (.pair (.pair (.int .u16) (.pair (.int .u32) .bool)) (.pair .bool (.pair .bool (.pair (.int .u32) (.pair (.int .u32) (.pair (.int .u32) .bool))))))) (.pair (.int .i64) (.pair (.pair (.int .i64) (.int .i64)) (.pair (.int .u8) (.pair (.sl (.pair (.int .u8) (.sl (.int .u8)))) (.pair (.sl (.pair (.int .u8) (.sl (.int .u8)))) (.int .i64)))))))] (fun c => nego_New N c.1))
theorem Ev45_ok (N : Nat) (R : Type) : EnvOK Go.Proofs.Try.prog (Ev45 N R) := EnvOK.addFn hmx (Ev44_ok N R) (Ev44_ok N _) (by kernel_rfl) (fun c => nego_New_S N c.1)
noncomputable def ipcp_New (N : Nat) (s0 : (Bool) × ((Int) × ((Int) × ((Int) × (Bool))))) : Option (((Bool) × (((Int) × ((Int) × (Bool))) × ((Bool) × ((Bool) × ((Int) × ((Int) × ((Int) × (Bool)))))))) × ((Int) × (((Int) × (Int)) × ((Int) × ((List ((Int) × (List (Int)))) × ((List ((Int) × (List (Int)))) × (Int))))))) :=
 some (((@Bool.true, (((0 : Int), ((0 : Int), @Bool.false)), (@Bool.false, (s0.1, (s0.2.1, (s0.2.2.1, (s0.2.2.2.1, s0.2.2.2.2))))))), ((0 : Int), (((0 : Int), (0 : Int)), ((0 : Int), (([] : List ((Int × (List Int)))), (([] : List ((Int × (List Int)))), (0 : Int))))))))
theorem ipcp_New_S (N : Nat) (s0 : (Bool) × ((Int) × ((Int) × ((Int) × (Bool))))) : (runK Go.Proofs.Try.prog (Ev45 N) 400 16 [(.pair .bool (.pair (.int .u32) (.pair (.int .u32) (.pair (.int .u32) .bool))))] [(.pair (.pair .bool (.pair (.pair (.int .u16) (.pair (.int .u32) .bool)) (.pair .bool (.pair .bool (.pair (.int .u32) (.pair (.int .u32) (.pair (.int .u32) .bool))))))) (.pair (.int .i64) (.pair (.pair (.int .i64) (.int .i64)) (.pair (.int .u8) (.pair (.sl (.pair (.int .u8) (.sl (.int .u8)))) (.pair (.sl (.pair (.int .u8) (.sl (.int .u8)))) (.int .i64)))))))] (s0, ())).run = ipcp_New N s0 := by kernel_rfl
noncomputable def Ev46 (N : Nat) : (R : Type) → Env R := Env.addFn (Ev45 N) 16 (fun R => fnK [(.pair .bool (.pair (.int .u32) (.pair (.int .u32) (.pair (.int .u32) .bool))))] [(.pair (.pair .bool (.pair (.pair (.int .u16) (.pair (.int .u32) .bool)) (.pair .bool (.pair .bool (.pair (.int .u32) (.pair (.int .u32) (.pair (.int .u32) .bool))))))) (.pair (.int .i64) (.pair (.pair (.int .i64) (.int .i64)) (.pair (.int .u8) (.pair (.sl (.pair (.int .u8) (.sl (.int .u8)))) (.pair (.sl (.pair (.int .u8) (.sl (.int .u8)))) (.int .i64)))))))] (fun c => ipcp_New N c.1))
theorem Ev46_ok (N : Nat) (R : Type) : EnvOK Go.Proofs.Try.prog (Ev46 N R) := EnvOK.addFn hmx (Ev45_ok N R) (Ev45_ok N _) (by kernel_rfl) (fun c => ipcp_New_S N c.1)
noncomputable def Ev47 (N : Nat) : (R : Type) → Env R := Env.addBx (Ev46 N) [(17, 0)]
theorem Ev47_ok (N : Nat) (R : Type) : EnvOK Go.Proofs.Try.prog (Ev47 N R) := EnvOK.addBx (Ev46_ok N R) [(17, 0)]
noncomputable def Ev48 (N : Nat) : (R : Type) → Env R := Env.addBx (Ev47 N) [(28, 0)]
theorem Ev48_ok (N : Nat) (R : Type) : EnvOK Go.Proofs.Try.prog (Ev48 N R) := EnvOK.addBx (Ev47_ok N R) [(28, 0)]
noncomputable def fsm_isState (N : Nat) (s0 : Int) : Option (Bool) :=
 bif (decide ((0 : Int) ≤ s0)) then
  some ((@cond Bool @Bool.true (decide (s0 ≤ (9 : Int))) @Bool.false))
 else
  some (@Bool.false)
theorem fsm_isState_S (N : Nat) (s0 : Int) : (runK Go.Proofs.Try.prog (Ev48 N) 400 43 [(.int .i64)] [.bool] (s0, ())).run = fsm_isState N s0 := by kernel_rfl
noncomputable def Ev49 (N : Nat) : (R : Type) → Env R := Env.addFn (Ev48 N) 43 (fun R => fnK [(.int .i64)] [.bool] (fun c => fsm_isState N c.1))
theorem Ev49_ok (N : Nat) (R : Type) : EnvOK Go.Proofs.Try.prog (Ev49 N R) := EnvOK.addFn hmx (Ev48_ok N R) (Ev48_ok N _) (by kernel_rfl) (fun c => fsm_isState_S N c.1)
noncomputable def fsm_to (N : Nat) (next0 : Int) (l1 : List (Int)) : Option ((Bool) × ((Int) × (List (Int)))) :=
 some ((@Bool.true, (next0, l1)))
theorem fsm_to_S (N : Nat) (next0 : Int) (l1 : List (Int)) : (runK Go.Proofs.Try.prog (Ev49 N) 400 53 [(.int .i64), (.sl (.int .i64))] [(.pair .bool (.pair (.int .i64) (.sl (.int .i64))))] (next0, l1, ())).run = fsm_to N next0 l1 := by kernel_rfl
noncomputable def Ev50 (N : Nat) : (R : Type) → Env R := Env.addFn (Ev49 N) 53 (fun R => fnK [(.int .i64), (.sl (.int .i64))] [(.pair .bool (.pair (.int .i64) (.sl (.int .i64))))] (fun c => fsm_to N c.1 c.2.1))
theorem Ev50_ok (N : Nat) (R : Type) : EnvOK Go.Proofs.Try.prog (Ev50 N R) := EnvOK.addFn hmx (Ev49_ok N R) (Ev49_ok N _) (by kernel_rfl) (fun c => fsm_to_S N c.1 c.2.1)
noncomputable def fsm_same_L3_I : LI := ⟨15, 0, [], ⟨[(0, .ty (.sl (.int .i64))), (2, .lit (.box 0 0)), (3, .lit (.box 1 0)), (4, .ty (.int .i64))], [.box 102 (.arr 10 (.pair .bool (.pair (.int .i64) (.sl (.int .i64))))), .box 102 (.arr 10 (.pair .bool (.pair (.int .i64) (.sl (.int .i64)))))]⟩, [(.exit 0, ⟨[(2, .lit (.box 0 0)), (3, .lit (.box 1 0))], [.box 102 (.arr 10 (.pair .bool (.pair (.int .i64) (.sl (.int .i64))))), .box 102 (.arr 10 (.pair .bool (.pair (.int .i64) (.sl (.int .i64)))))]⟩)]⟩
noncomputable def fsm_same_L3 (N : Nat) (X : (((List (Int)) × ((Int) × Unit)) × ((Arr ((Bool) × ((Int) × (List (Int)))) 10) × ((Arr ((Bool) × ((Int) × (List (Int)))) 10) × Unit))) → Option ((Unit × ((Arr ((Bool) × ((Int) × (List (Int)))) 10) × ((Arr ((Bool) × ((Int) × (List (Int)))) 10) × Unit))))) (l0 : List (Int)) (s4 : Int) (h0 : Arr ((Bool) × ((Int) × (List (Int)))) 10) (h1 : Arr ((Bool) × ((Int) × (List (Int)))) 10) : Option ((Unit × ((Arr ((Bool) × ((Int) × (List (Int)))) 10) × ((Arr ((Bool) × ((Int) × (List (Int)))) 10) × Unit)))) :=
 bif (decide (s4 ≤ (9 : Int))) then
  bif (decide ((0 : Int) ≤ s4 ∧ s4 < (((10 : Nat) : Nat) : Int))) then
   Option.bind (@GetElem?.getElem? (List (Bool × (Int × (List Int)))) Nat (Bool × (Int × (List Int))) (fun (as6 : (List (Bool × (Int × (List Int))))) => (fun (i7 : Nat) => (@LT.lt Nat @instLTNat i7 (List.length as6)))) (@List.instGetElem?NatLtLength (Bool × (Int × (List Int)))) h1.l (Int.toNat s4)) fun (v6 : (Bool × (Int × (List Int)))) =>
   (X ((l0, ((Go.IntKind.wrap .i64 (s4 + (1 : Int))), @Unit.unit)), (h0, ((h1.set (Int.toNat s4) (@Bool.true, (s4, l0))), @Unit.unit))))
  else
   none
 else
  some ((@Unit.unit, (h0, (h1, @Unit.unit))))
noncomputable def fsm_same_L3_R (N : Nat) (c : (((List (Int)) × ((Int) × Unit)) × ((Arr ((Bool) × ((Int) × (List (Int)))) 10) × ((Arr ((Bool) × ((Int) × (List (Int)))) 10) × Unit)))) : Option ((Unit × ((Arr ((Bool) × ((Int) × (List (Int)))) 10) × ((Arr ((Bool) × ((Int) × (List (Int)))) 10) × Unit)))) := gl (fun X c => fsm_same_L3 N X c.1.1 c.1.2.1 c.2.1 c.2.2.1) N c
theorem fsm_same_L3_S (N : Nat) (X : (((List (Int)) × ((Int) × Unit)) × ((Arr ((Bool) × ((Int) × (List (Int)))) 10) × ((Arr ((Bool) × ((Int) × (List (Int)))) 10) × Unit))) → Option ((Unit × ((Arr ((Bool) × ((Int) × (List (Int)))) 10) × ((Arr ((Bool) × ((Int) × (List (Int)))) 10) × Unit))))) (l0 : List (Int)) (s4 : Int) (h0 : Arr ((Bool) × ((Int) × (List (Int)))) 10) (h1 : Arr ((Bool) × ((Int) × (List (Int)))) 10) : (roundK Go.Proofs.Try.prog (Ev50 N) 400 [60] fsm_same_L3_I (loopAt Go.Proofs.Try.prog [60] 3) X ((l0, s4, ()), (h0, h1, ()))).run = fsm_same_L3 N X l0 s4 h0 h1 := by kernel_rfl
noncomputable def Ev51 (N : Nat) : (R : Type) → Env R := Env.addLp (Ev50 N) [60] 0 3 (fun R => lpK Go.Proofs.Try.prog fsm_same_L3_I (fun X c => fsm_same_L3 N X c.1.1 c.1.2.1 c.2.1 c.2.2.1) N)
theorem Ev51_ok (N : Nat) (R : Type) : EnvOK Go.Proofs.Try.prog (Ev51 N R) := EnvOK.addLp (Ev50_ok N R) (by kernel_rfl) (lpK_ok (li := fsm_same_L3_I) (G := fun X c => fsm_same_L3 N X c.1.1 c.1.2.1 c.2.1 c.2.2.1) hmx (Ev50_ok N _) (by kernel_rfl) loopAt_sub (fun (X : CT fsm_same_L3_I.sh → Option (OT fsm_same_L3_I.outs)) (c : CT fsm_same_L3_I.sh) => fsm_same_L3_S N X c.1.1 c.1.2.1 c.2.1 c.2.2.1) N)
noncomputable def fsm_same (N : Nat) (l0 : List (Int)) : Option (Arr ((Bool) × ((Int) × (List (Int)))) 10) :=
 Option.bind (fsm_same_L3_R N ((l0, ((2 : Int), @Unit.unit)), ((@Arr.cons (Bool × (Int × (List Int))) (9 : Nat) (@Bool.false, ((0 : Int), ([] : List (Int)))) (@Arr.cons (Bool × (Int × (List Int))) (8 : Nat) (@Bool.false, ((0 : Int), ([] : List (Int)))) (@Arr.cons (Bool × (Int × (List Int))) (7 : Nat) (@Bool.false, ((0 : Int), ([] : List (Int)))) (@Arr.cons (Bool × (Int × (List Int))) (6 : Nat) (@Bool.false, ((0 : Int), ([] : List (Int)))) (@Arr.cons (Bool × (Int × (List Int))) (5 : Nat) (@Bool.false, ((0 : Int), ([] : List (Int)))) (@Arr.cons (Bool × (Int × (List Int))) (4 : Nat) (@Bool.false, ((0 : Int), ([] : List (Int)))) (@Arr.cons (Bool × (Int × (List Int))) (3 : Nat) (@Bool.false, ((0 : Int), ([] : List (Int)))) (@Arr.cons (Bool × (Int × (List Int))) (2 : Nat) (@Bool.false, ((0 : Int), ([] : List (Int)))) (@Arr.cons (Bool × (Int × (List Int))) (1 : Nat) (@Bool.false, ((0 : Int), ([] : List (Int)))) (@Arr.cons (Bool × (Int × (List Int))) (0 : Nat) (@Bool.false, ((0 : Int), ([] : List (Int)))) (@Arr.nil (Bool × (Int × (List Int)))))))))))))), ((@Arr.cons (Bool × (Int × (List Int))) (9 : Nat) (@Bool.false, ((0 : Int), ([] : List (Int)))) (@Arr.cons (Bool × (Int × (List Int))) (8 : Nat) (@Bool.false, ((0 : Int), ([] : List (Int)))) (@Arr.cons (Bool × (Int × (List Int))) (7 : Nat) (@Bool.false, ((0 : Int), ([] : List (Int)))) (@Arr.cons (Bool × (Int × (List Int))) (6 : Nat) (@Bool.false, ((0 : Int), ([] : List (Int)))) (@Arr.cons (Bool × (Int × (List Int))) (5 : Nat) (@Bool.false, ((0 : Int), ([] : List (Int)))) (@Arr.cons (Bool × (Int × (List Int))) (4 : Nat) (@Bool.false, ((0 : Int), ([] : List (Int)))) (@Arr.cons (Bool × (Int × (List Int))) (3 : Nat) (@Bool.false, ((0 : Int), ([] : List (Int)))) (@Arr.cons (Bool × (Int × (List Int))) (2 : Nat) (@Bool.false, ((0 : Int), ([] : List (Int)))) (@Arr.cons (Bool × (Int × (List Int))) (1 : Nat) (@Bool.false, ((0 : Int), ([] : List (Int)))) (@Arr.cons (Bool × (Int × (List Int))) (0 : Nat) (@Bool.false, ((0 : Int), ([] : List (Int)))) (@Arr.nil (Bool × (Int × (List Int)))))))))))))), @Unit.unit)))) fun (v2 : (Unit × ((Arr (Bool × (Int × (List Int))) 10) × ((Arr (Bool × (Int × (List Int))) 10) × Unit)))) =>
 some (v2.2.2.1)
theorem fsm_same_S (N : Nat) (l0 : List (Int)) : (runK Go.Proofs.Try.prog (Ev51 N) 400 60 [(.sl (.int .i64))] [(.arr 10 (.pair .bool (.pair (.int .i64) (.sl (.int .i64)))))] (l0, ())).run = fsm_same N l0 := by kernel_rfl
noncomputable def Ev52 (N : Nat) : (R : Type) → Env R := Env.addFn (Ev51 N) 60 (fun R => fnK [(.sl (.int .i64))] [(.arr 10 (.pair .bool (.pair (.int .i64) (.sl (.int .i64)))))] (fun c => fsm_same N c.1))
theorem Ev52_ok (N : Nat) (R : Type) : EnvOK Go.Proofs.Try.prog (Ev52 N R) := EnvOK.addFn hmx (Ev51_ok N R) (Ev51_ok N _) (by kernel_rfl) (fun c => fsm_same_S N c.1)
noncomputable def fsm_answers (N : Nat) (e0 : Int) : Option (Arr ((Bool) × ((Int) × (List (Int)))) 10) :=
 bif (decide (e0 = (8 : Int))) then
  some ((@Arr.cons (Bool × (Int × (List Int))) (9 : Nat) (@Bool.false, ((0 : Int), ([] : List (Int)))) (@Arr.cons (Bool × (Int × (List Int))) (8 : Nat) (@Bool.false, ((0 : Int), ([] : List (Int)))) (@Arr.cons (Bool × (Int × (List Int))) (7 : Nat) (@Bool.true, ((2 : Int), ([(11 : Int)] : List (Int)))) (@Arr.cons (Bool × (Int × (List Int))) (6 : Nat) (@Bool.true, ((3 : Int), ([(11 : Int)] : List (Int)))) (@Arr.cons (Bool × (Int × (List Int))) (5 : Nat) (@Bool.true, ((4 : Int), ([] : List (Int)))) (@Arr.cons (Bool × (Int × (List Int))) (4 : Nat) (@Bool.true, ((5 : Int), ([] : List (Int)))) (@Arr.cons (Bool × (Int × (List Int))) (3 : Nat) (@Bool.true, ((7 : Int), ([(5 : Int)] : List (Int)))) (@Arr.cons (Bool × (Int × (List Int))) (2 : Nat) (@Bool.true, ((6 : Int), ([(7 : Int)] : List (Int)))) (@Arr.cons (Bool × (Int × (List Int))) (1 : Nat) (@Bool.true, ((9 : Int), ([(5 : Int), (1 : Int)] : List (Int)))) (@Arr.cons (Bool × (Int × (List Int))) (0 : Nat) (@Bool.true, ((6 : Int), ([(2 : Int), (7 : Int)] : List (Int)))) (@Arr.nil (Bool × (Int × (List Int)))))))))))))))
 else
  bif (decide (e0 = (9 : Int))) then
   some ((@Arr.cons (Bool × (Int × (List Int))) (9 : Nat) (@Bool.false, ((0 : Int), ([] : List (Int)))) (@Arr.cons (Bool × (Int × (List Int))) (8 : Nat) (@Bool.false, ((0 : Int), ([] : List (Int)))) (@Arr.cons (Bool × (Int × (List Int))) (7 : Nat) (@Bool.true, ((2 : Int), ([(11 : Int)] : List (Int)))) (@Arr.cons (Bool × (Int × (List Int))) (6 : Nat) (@Bool.true, ((3 : Int), ([(11 : Int)] : List (Int)))) (@Arr.cons (Bool × (Int × (List Int))) (5 : Nat) (@Bool.true, ((4 : Int), ([] : List (Int)))) (@Arr.cons (Bool × (Int × (List Int))) (4 : Nat) (@Bool.true, ((5 : Int), ([] : List (Int)))) (@Arr.cons (Bool × (Int × (List Int))) (3 : Nat) (@Bool.true, ((6 : Int), ([(5 : Int), (7 : Int)] : List (Int)))) (@Arr.cons (Bool × (Int × (List Int))) (2 : Nat) (@Bool.true, ((6 : Int), ([(7 : Int)] : List (Int)))) (@Arr.cons (Bool × (Int × (List Int))) (1 : Nat) (@Bool.true, ((8 : Int), ([(5 : Int), (7 : Int)] : List (Int)))) (@Arr.cons (Bool × (Int × (List Int))) (0 : Nat) (@Bool.true, ((6 : Int), ([(2 : Int), (7 : Int)] : List (Int)))) (@Arr.nil (Bool × (Int × (List Int)))))))))))))))
  else
   bif (decide (e0 = (10 : Int))) then
    some ((@Arr.cons (Bool × (Int × (List Int))) (9 : Nat) (@Bool.false, ((0 : Int), ([] : List (Int)))) (@Arr.cons (Bool × (Int × (List Int))) (8 : Nat) (@Bool.false, ((0 : Int), ([] : List (Int)))) (@Arr.cons (Bool × (Int × (List Int))) (7 : Nat) (@Bool.true, ((2 : Int), ([(11 : Int)] : List (Int)))) (@Arr.cons (Bool × (Int × (List Int))) (6 : Nat) (@Bool.true, ((3 : Int), ([(11 : Int)] : List (Int)))) (@Arr.cons (Bool × (Int × (List Int))) (5 : Nat) (@Bool.true, ((4 : Int), ([(11 : Int)] : List (Int)))) (@Arr.cons (Bool × (Int × (List Int))) (4 : Nat) (@Bool.true, ((5 : Int), ([(11 : Int)] : List (Int)))) (@Arr.cons (Bool × (Int × (List Int))) (3 : Nat) (@Bool.true, ((6 : Int), ([(11 : Int)] : List (Int)))) (@Arr.cons (Bool × (Int × (List Int))) (2 : Nat) (@Bool.true, ((6 : Int), ([(11 : Int)] : List (Int)))) (@Arr.cons (Bool × (Int × (List Int))) (1 : Nat) (@Bool.true, ((6 : Int), ([(11 : Int)] : List (Int)))) (@Arr.cons (Bool × (Int × (List Int))) (0 : Nat) (@Bool.true, ((5 : Int), ([(2 : Int), (6 : Int), (11 : Int)] : List (Int)))) (@Arr.nil (Bool × (Int × (List Int)))))))))))))))
   else
    bif (decide (e0 = (11 : Int))) then
     some ((@Arr.cons (Bool × (Int × (List Int))) (9 : Nat) (@Bool.false, ((0 : Int), ([] : List (Int)))) (@Arr.cons (Bool × (Int × (List Int))) (8 : Nat) (@Bool.false, ((0 : Int), ([] : List (Int)))) (@Arr.cons (Bool × (Int × (List Int))) (7 : Nat) (@Bool.true, ((2 : Int), ([] : List (Int)))) (@Arr.cons (Bool × (Int × (List Int))) (6 : Nat) (@Bool.true, ((3 : Int), ([] : List (Int)))) (@Arr.cons (Bool × (Int × (List Int))) (5 : Nat) (@Bool.true, ((2 : Int), ([(4 : Int)] : List (Int)))) (@Arr.cons (Bool × (Int × (List Int))) (4 : Nat) (@Bool.true, ((3 : Int), ([(4 : Int)] : List (Int)))) (@Arr.cons (Bool × (Int × (List Int))) (3 : Nat) (@Bool.true, ((6 : Int), ([] : List (Int)))) (@Arr.cons (Bool × (Int × (List Int))) (2 : Nat) (@Bool.true, ((6 : Int), ([] : List (Int)))) (@Arr.cons (Bool × (Int × (List Int))) (1 : Nat) (@Bool.true, ((8 : Int), ([] : List (Int)))) (@Arr.cons (Bool × (Int × (List Int))) (0 : Nat) (@Bool.true, ((6 : Int), ([(2 : Int), (7 : Int)] : List (Int)))) (@Arr.nil (Bool × (Int × (List Int)))))))))))))))
    else
     bif (decide (e0 = (12 : Int))) then
      Option.bind (@fsm_same N ([(12 : Int)] : List (Int))) fun (v2 : (Arr (Bool × (Int × (List Int))) 10)) =>
      some (v2)
     else
      bif (decide (e0 = (13 : Int))) then
       some ((@Arr.cons (Bool × (Int × (List Int))) (9 : Nat) (@Bool.false, ((0 : Int), ([] : List (Int)))) (@Arr.cons (Bool × (Int × (List Int))) (8 : Nat) (@Bool.false, ((0 : Int), ([] : List (Int)))) (@Arr.cons (Bool × (Int × (List Int))) (7 : Nat) (@Bool.true, ((2 : Int), ([] : List (Int)))) (@Arr.cons (Bool × (Int × (List Int))) (6 : Nat) (@Bool.true, ((3 : Int), ([] : List (Int)))) (@Arr.cons (Bool × (Int × (List Int))) (5 : Nat) (@Bool.true, ((4 : Int), ([] : List (Int)))) (@Arr.cons (Bool × (Int × (List Int))) (4 : Nat) (@Bool.true, ((5 : Int), ([] : List (Int)))) (@Arr.cons (Bool × (Int × (List Int))) (3 : Nat) (@Bool.true, ((6 : Int), ([] : List (Int)))) (@Arr.cons (Bool × (Int × (List Int))) (2 : Nat) (@Bool.true, ((6 : Int), ([] : List (Int)))) (@Arr.cons (Bool × (Int × (List Int))) (1 : Nat) (@Bool.true, ((8 : Int), ([] : List (Int)))) (@Arr.cons (Bool × (Int × (List Int))) (0 : Nat) (@Bool.true, ((9 : Int), ([] : List (Int)))) (@Arr.nil (Bool × (Int × (List Int)))))))))))))))
      else
       bif (decide (e0 = (14 : Int))) then
        some ((@Arr.cons (Bool × (Int × (List Int))) (9 : Nat) (@Bool.false, ((0 : Int), ([] : List (Int)))) (@Arr.cons (Bool × (Int × (List Int))) (8 : Nat) (@Bool.false, ((0 : Int), ([] : List (Int)))) (@Arr.cons (Bool × (Int × (List Int))) (7 : Nat) (@Bool.true, ((2 : Int), ([(4 : Int)] : List (Int)))) (@Arr.cons (Bool × (Int × (List Int))) (6 : Nat) (@Bool.true, ((3 : Int), ([(4 : Int)] : List (Int)))) (@Arr.cons (Bool × (Int × (List Int))) (5 : Nat) (@Bool.true, ((2 : Int), ([(4 : Int)] : List (Int)))) (@Arr.cons (Bool × (Int × (List Int))) (4 : Nat) (@Bool.true, ((3 : Int), ([(4 : Int)] : List (Int)))) (@Arr.cons (Bool × (Int × (List Int))) (3 : Nat) (@Bool.true, ((3 : Int), ([(4 : Int)] : List (Int)))) (@Arr.cons (Bool × (Int × (List Int))) (2 : Nat) (@Bool.true, ((3 : Int), ([(4 : Int)] : List (Int)))) (@Arr.cons (Bool × (Int × (List Int))) (1 : Nat) (@Bool.true, ((3 : Int), ([(4 : Int)] : List (Int)))) (@Arr.cons (Bool × (Int × (List Int))) (0 : Nat) (@Bool.true, ((5 : Int), ([(2 : Int), (5 : Int), (10 : Int)] : List (Int)))) (@Arr.nil (Bool × (Int × (List Int)))))))))))))))
       else
        bif (decide (e0 = (15 : Int))) then
         Option.bind (@fsm_same N ([] : List (Int))) fun (v2 : (Arr (Bool × (Int × (List Int))) 10)) =>
         Option.bind (@GetElem?.getElem? (List (Bool × (Int × (List Int)))) Nat (Bool × (Int × (List Int))) (fun (as3 : (List (Bool × (Int × (List Int))))) => (fun (i4 : Nat) => (@LT.lt Nat @instLTNat i4 (List.length as3)))) (@List.instGetElem?NatLtLength (Bool × (Int × (List Int)))) v2.l (Int.toNat (9 : Int))) fun (v3 : (Bool × (Int × (List Int)))) =>
         some ((v2.set (Int.toNat (9 : Int)) (@Bool.true, ((9 : Int), ([(13 : Int)] : List (Int))))))
        else
         some ((@Arr.cons (Bool × (Int × (List Int))) (9 : Nat) (@Bool.false, ((0 : Int), ([] : List (Int)))) (@Arr.cons (Bool × (Int × (List Int))) (8 : Nat) (@Bool.false, ((0 : Int), ([] : List (Int)))) (@Arr.cons (Bool × (Int × (List Int))) (7 : Nat) (@Bool.false, ((0 : Int), ([] : List (Int)))) (@Arr.cons (Bool × (Int × (List Int))) (6 : Nat) (@Bool.false, ((0 : Int), ([] : List (Int)))) (@Arr.cons (Bool × (Int × (List Int))) (5 : Nat) (@Bool.false, ((0 : Int), ([] : List (Int)))) (@Arr.cons (Bool × (Int × (List Int))) (4 : Nat) (@Bool.false, ((0 : Int), ([] : List (Int)))) (@Arr.cons (Bool × (Int × (List Int))) (3 : Nat) (@Bool.false, ((0 : Int), ([] : List (Int)))) (@Arr.cons (Bool × (Int × (List Int))) (2 : Nat) (@Bool.false, ((0 : Int), ([] : List (Int)))) (@Arr.cons (Bool × (Int × (List Int))) (1 : Nat) (@Bool.false, ((0 : Int), ([] : List (Int)))) (@Arr.cons (Bool × (Int × (List Int))) (0 : Nat) (@Bool.false, ((0 : Int), ([] : List (Int)))) (@Arr.nil (Bool × (Int × (List Int)))))))))))))))
theorem fsm_answers_S (N : Nat) (e0 : Int) : (runK Go.Proofs.Try.prog (Ev52 N) 400 54 [(.int .i64)] [(.arr 10 (.pair .bool (.pair (.int .i64) (.sl (.int .i64)))))] (e0, ())).run = fsm_answers N e0 := by kernel_rfl
noncomputable def Ev53 (N : Nat) : (R : Type) → Env R := Env.addFn (Ev52 N) 54 (fun R => fnK [(.int .i64)] [(.arr 10 (.pair .bool (.pair (.int .i64) (.sl (.int .i64)))))] (fun c => fsm_answers N c.1))
theorem Ev53_ok (N : Nat) (R : Type) : EnvOK Go.Proofs.Try.prog (Ev53 N R) := EnvOK.addFn hmx (Ev52_ok N R) (Ev52_ok N _) (by kernel_rfl) (fun c => fsm_answers_S N c.1)
noncomputable def fsm_row (N : Nat) (e0 : Int) : Option (Arr ((Bool) × ((Int) × (List (Int)))) 10) :=
 bif (decide (e0 = (0 : Int))) then
  some ((@Arr.cons (Bool × (Int × (List Int))) (9 : Nat) (@Bool.true, ((2 : Int), ([] : List (Int)))) (@Arr.cons (Bool × (Int × (List Int))) (8 : Nat) (@Bool.true, ((6 : Int), ([(5 : Int), (7 : Int)] : List (Int)))) (@Arr.cons (Bool × (Int × (List Int))) (7 : Nat) (@Bool.false, ((0 : Int), ([] : List (Int)))) (@Arr.cons (Bool × (Int × (List Int))) (6 : Nat) (@Bool.false, ((0 : Int), ([] : List (Int)))) (@Arr.cons (Bool × (Int × (List Int))) (5 : Nat) (@Bool.false, ((0 : Int), ([] : List (Int)))) (@Arr.cons (Bool × (Int × (List Int))) (4 : Nat) (@Bool.false, ((0 : Int), ([] : List (Int)))) (@Arr.cons (Bool × (Int × (List Int))) (3 : Nat) (@Bool.false, ((0 : Int), ([] : List (Int)))) (@Arr.cons (Bool × (Int × (List Int))) (2 : Nat) (@Bool.false, ((0 : Int), ([] : List (Int)))) (@Arr.cons (Bool × (Int × (List Int))) (1 : Nat) (@Bool.false, ((0 : Int), ([] : List (Int)))) (@Arr.cons (Bool × (Int × (List Int))) (0 : Nat) (@Bool.false, ((0 : Int), ([] : List (Int)))) (@Arr.nil (Bool × (Int × (List Int)))))))))))))))
 else
  bif (decide (e0 = (1 : Int))) then
   some ((@Arr.cons (Bool × (Int × (List Int))) (9 : Nat) (@Bool.false, ((0 : Int), ([] : List (Int)))) (@Arr.cons (Bool × (Int × (List Int))) (8 : Nat) (@Bool.false, ((0 : Int), ([] : List (Int)))) (@Arr.cons (Bool × (Int × (List Int))) (7 : Nat) (@Bool.true, ((0 : Int), ([] : List (Int)))) (@Arr.cons (Bool × (Int × (List Int))) (6 : Nat) (@Bool.true, ((1 : Int), ([(3 : Int)] : List (Int)))) (@Arr.cons (Bool × (Int × (List Int))) (5 : Nat) (@Bool.true, ((0 : Int), ([] : List (Int)))) (@Arr.cons (Bool × (Int × (List Int))) (4 : Nat) (@Bool.true, ((1 : Int), ([] : List (Int)))) (@Arr.cons (Bool × (Int × (List Int))) (3 : Nat) (@Bool.true, ((1 : Int), ([] : List (Int)))) (@Arr.cons (Bool × (Int × (List Int))) (2 : Nat) (@Bool.true, ((1 : Int), ([] : List (Int)))) (@Arr.cons (Bool × (Int × (List Int))) (1 : Nat) (@Bool.true, ((1 : Int), ([] : List (Int)))) (@Arr.cons (Bool × (Int × (List Int))) (0 : Nat) (@Bool.true, ((1 : Int), ([(2 : Int)] : List (Int)))) (@Arr.nil (Bool × (Int × (List Int)))))))))))))))
  else
   bif (decide (e0 = (2 : Int))) then
    some ((@Arr.cons (Bool × (Int × (List Int))) (9 : Nat) (@Bool.true, ((1 : Int), ([(3 : Int)] : List (Int)))) (@Arr.cons (Bool × (Int × (List Int))) (8 : Nat) (@Bool.true, ((1 : Int), ([] : List (Int)))) (@Arr.cons (Bool × (Int × (List Int))) (7 : Nat) (@Bool.true, ((6 : Int), ([(5 : Int), (7 : Int)] : List (Int)))) (@Arr.cons (Bool × (Int × (List Int))) (6 : Nat) (@Bool.true, ((3 : Int), ([] : List (Int)))) (@Arr.cons (Bool × (Int × (List Int))) (5 : Nat) (@Bool.true, ((5 : Int), ([] : List (Int)))) (@Arr.cons (Bool × (Int × (List Int))) (4 : Nat) (@Bool.true, ((5 : Int), ([] : List (Int)))) (@Arr.cons (Bool × (Int × (List Int))) (3 : Nat) (@Bool.true, ((6 : Int), ([] : List (Int)))) (@Arr.cons (Bool × (Int × (List Int))) (2 : Nat) (@Bool.true, ((7 : Int), ([] : List (Int)))) (@Arr.cons (Bool × (Int × (List Int))) (1 : Nat) (@Bool.true, ((8 : Int), ([] : List (Int)))) (@Arr.cons (Bool × (Int × (List Int))) (0 : Nat) (@Bool.true, ((9 : Int), ([] : List (Int)))) (@Arr.nil (Bool × (Int × (List Int)))))))))))))))
   else
    bif (decide (e0 = (3 : Int))) then
     some ((@Arr.cons (Bool × (Int × (List Int))) (9 : Nat) (@Bool.true, ((0 : Int), ([] : List (Int)))) (@Arr.cons (Bool × (Int × (List Int))) (8 : Nat) (@Bool.true, ((0 : Int), ([(4 : Int)] : List (Int)))) (@Arr.cons (Bool × (Int × (List Int))) (7 : Nat) (@Bool.true, ((2 : Int), ([] : List (Int)))) (@Arr.cons (Bool × (Int × (List Int))) (6 : Nat) (@Bool.true, ((2 : Int), ([] : List (Int)))) (@Arr.cons (Bool × (Int × (List Int))) (5 : Nat) (@Bool.true, ((4 : Int), ([] : List (Int)))) (@Arr.cons (Bool × (Int × (List Int))) (4 : Nat) (@Bool.true, ((4 : Int), ([] : List (Int)))) (@Arr.cons (Bool × (Int × (List Int))) (3 : Nat) (@Bool.true, ((4 : Int), ([(5 : Int), (10 : Int)] : List (Int)))) (@Arr.cons (Bool × (Int × (List Int))) (2 : Nat) (@Bool.true, ((4 : Int), ([(5 : Int), (10 : Int)] : List (Int)))) (@Arr.cons (Bool × (Int × (List Int))) (1 : Nat) (@Bool.true, ((4 : Int), ([(5 : Int), (10 : Int)] : List (Int)))) (@Arr.cons (Bool × (Int × (List Int))) (0 : Nat) (@Bool.true, ((4 : Int), ([(2 : Int), (5 : Int), (10 : Int)] : List (Int)))) (@Arr.nil (Bool × (Int × (List Int)))))))))))))))
    else
     bif (decide (e0 = (4 : Int))) then
      some ((@Arr.cons (Bool × (Int × (List Int))) (9 : Nat) (@Bool.false, ((0 : Int), ([] : List (Int)))) (@Arr.cons (Bool × (Int × (List Int))) (8 : Nat) (@Bool.false, ((0 : Int), ([] : List (Int)))) (@Arr.cons (Bool × (Int × (List Int))) (7 : Nat) (@Bool.false, ((0 : Int), ([] : List (Int)))) (@Arr.cons (Bool × (Int × (List Int))) (6 : Nat) (@Bool.false, ((0 : Int), ([] : List (Int)))) (@Arr.cons (Bool × (Int × (List Int))) (5 : Nat) (@Bool.true, ((4 : Int), ([(10 : Int)] : List (Int)))) (@Arr.cons (Bool × (Int × (List Int))) (4 : Nat) (@Bool.true, ((5 : Int), ([(10 : Int)] : List (Int)))) (@Arr.cons (Bool × (Int × (List Int))) (3 : Nat) (@Bool.true, ((6 : Int), ([(7 : Int)] : List (Int)))) (@Arr.cons (Bool × (Int × (List Int))) (2 : Nat) (@Bool.true, ((6 : Int), ([(7 : Int)] : List (Int)))) (@Arr.cons (Bool × (Int × (List Int))) (1 : Nat) (@Bool.true, ((8 : Int), ([(7 : Int)] : List (Int)))) (@Arr.cons (Bool × (Int × (List Int))) (0 : Nat) (@Bool.false, ((0 : Int), ([] : List (Int)))) (@Arr.nil (Bool × (Int × (List Int)))))))))))))))
     else
      bif (decide (e0 = (5 : Int))) then
       some ((@Arr.cons (Bool × (Int × (List Int))) (9 : Nat) (@Bool.false, ((0 : Int), ([] : List (Int)))) (@Arr.cons (Bool × (Int × (List Int))) (8 : Nat) (@Bool.false, ((0 : Int), ([] : List (Int)))) (@Arr.cons (Bool × (Int × (List Int))) (7 : Nat) (@Bool.false, ((0 : Int), ([] : List (Int)))) (@Arr.cons (Bool × (Int × (List Int))) (6 : Nat) (@Bool.false, ((0 : Int), ([] : List (Int)))) (@Arr.cons (Bool × (Int × (List Int))) (5 : Nat) (@Bool.true, ((2 : Int), ([(4 : Int)] : List (Int)))) (@Arr.cons (Bool × (Int × (List Int))) (4 : Nat) (@Bool.true, ((3 : Int), ([(4 : Int)] : List (Int)))) (@Arr.cons (Bool × (Int × (List Int))) (3 : Nat) (@Bool.true, ((3 : Int), ([(4 : Int)] : List (Int)))) (@Arr.cons (Bool × (Int × (List Int))) (2 : Nat) (@Bool.true, ((3 : Int), ([(4 : Int)] : List (Int)))) (@Arr.cons (Bool × (Int × (List Int))) (1 : Nat) (@Bool.true, ((3 : Int), ([(4 : Int)] : List (Int)))) (@Arr.cons (Bool × (Int × (List Int))) (0 : Nat) (@Bool.false, ((0 : Int), ([] : List (Int)))) (@Arr.nil (Bool × (Int × (List Int)))))))))))))))
      else
       bif (decide (e0 = (6 : Int))) then
        some ((@Arr.cons (Bool × (Int × (List Int))) (9 : Nat) (@Bool.false, ((0 : Int), ([] : List (Int)))) (@Arr.cons (Bool × (Int × (List Int))) (8 : Nat) (@Bool.false, ((0 : Int), ([] : List (Int)))) (@Arr.cons (Bool × (Int × (List Int))) (7 : Nat) (@Bool.true, ((2 : Int), ([(11 : Int)] : List (Int)))) (@Arr.cons (Bool × (Int × (List Int))) (6 : Nat) (@Bool.true, ((8 : Int), ([(5 : Int), (7 : Int), (8 : Int)] : List (Int)))) (@Arr.cons (Bool × (Int × (List Int))) (5 : Nat) (@Bool.true, ((4 : Int), ([] : List (Int)))) (@Arr.cons (Bool × (Int × (List Int))) (4 : Nat) (@Bool.true, ((5 : Int), ([] : List (Int)))) (@Arr.cons (Bool × (Int × (List Int))) (3 : Nat) (@Bool.true, ((8 : Int), ([(8 : Int)] : List (Int)))) (@Arr.cons (Bool × (Int × (List Int))) (2 : Nat) (@Bool.true, ((9 : Int), ([(8 : Int), (1 : Int)] : List (Int)))) (@Arr.cons (Bool × (Int × (List Int))) (1 : Nat) (@Bool.true, ((8 : Int), ([(8 : Int)] : List (Int)))) (@Arr.cons (Bool × (Int × (List Int))) (0 : Nat) (@Bool.true, ((8 : Int), ([(2 : Int), (7 : Int), (8 : Int)] : List (Int)))) (@Arr.nil (Bool × (Int × (List Int)))))))))))))))
       else
        bif (decide (e0 = (7 : Int))) then
         some ((@Arr.cons (Bool × (Int × (List Int))) (9 : Nat) (@Bool.false, ((0 : Int), ([] : List (Int)))) (@Arr.cons (Bool × (Int × (List Int))) (8 : Nat) (@Bool.false, ((0 : Int), ([] : List (Int)))) (@Arr.cons (Bool × (Int × (List Int))) (7 : Nat) (@Bool.true, ((2 : Int), ([(11 : Int)] : List (Int)))) (@Arr.cons (Bool × (Int × (List Int))) (6 : Nat) (@Bool.true, ((6 : Int), ([(5 : Int), (7 : Int), (9 : Int)] : List (Int)))) (@Arr.cons (Bool × (Int × (List Int))) (5 : Nat) (@Bool.true, ((4 : Int), ([] : List (Int)))) (@Arr.cons (Bool × (Int × (List Int))) (4 : Nat) (@Bool.true, ((5 : Int), ([] : List (Int)))) (@Arr.cons (Bool × (Int × (List Int))) (3 : Nat) (@Bool.true, ((6 : Int), ([(9 : Int)] : List (Int)))) (@Arr.cons (Bool × (Int × (List Int))) (2 : Nat) (@Bool.true, ((7 : Int), ([(9 : Int)] : List (Int)))) (@Arr.cons (Bool × (Int × (List Int))) (1 : Nat) (@Bool.true, ((6 : Int), ([(9 : Int)] : List (Int)))) (@Arr.cons (Bool × (Int × (List Int))) (0 : Nat) (@Bool.true, ((6 : Int), ([(2 : Int), (7 : Int), (9 : Int)] : List (Int)))) (@Arr.nil (Bool × (Int × (List Int)))))))))))))))
        else
         Option.bind (@fsm_answers N e0) fun (v2 : (Arr (Bool × (Int × (List Int))) 10)) =>
         some (v2)
theorem fsm_row_S (N : Nat) (e0 : Int) : (runK Go.Proofs.Try.prog (Ev53 N) 400 44 [(.int .i64)] [(.arr 10 (.pair .bool (.pair (.int .i64) (.sl (.int .i64)))))] (e0, ())).run = fsm_row N e0 := by kernel_rfl
noncomputable def Ev54 (N : Nat) : (R : Type) → Env R := Env.addFn (Ev53 N) 44 (fun R => fnK [(.int .i64)] [(.arr 10 (.pair .bool (.pair (.int .i64) (.sl (.int .i64)))))] (fun c => fsm_row N c.1))
theorem Ev54_ok (N : Nat) (R : Type) : EnvOK Go.Proofs.Try.prog (Ev54 N R) := EnvOK.addFn hmx (Ev53_ok N R) (Ev53_ok N _) (by kernel_rfl) (fun c => fsm_row_S N c.1)
noncomputable def slices_Clone_fsm_Action_fsm_Action_ne (N : Nat) (s0 : List (Int)) : Option (List (Int)) :=
 bif (@List.isEmpty Int s0) then
  none
 else
  bif (roomB (List.length s0) 8) then
   some (s0)
  else
   none
theorem slices_Clone_fsm_Action_fsm_Action_ne_S (N : Nat) (s0 : List (Int)) : (runK Go.Proofs.Try.prog (Ev54 N) 400 45 [(.sl (.int .i64))] [(.sl (.int .i64))] (s0, ())).run = slices_Clone_fsm_Action_fsm_Action_ne N s0 := by kernel_rfl
theorem slices_Clone_fsm_Action_fsm_Action_n1 (N : Nat) (c : Nat) : (runV Go.Proofs.Try.prog (Ev54 N) 400 45 [.c (.slice none 0 c)] [(.sl (.int .i64))]).run = some [] := by kernel_rfl
theorem slices_Clone_fsm_Action_fsm_Action_n2 (N : Nat) (A : Addr) (c : Nat) : (runV Go.Proofs.Try.prog (Ev54 N) 400 45 [.c (.slice (some A) 0 c)] [(.sl (.int .i64))]).run = some [] := by kernel_rfl
noncomputable def slices_Clone_fsm_Action_fsm_Action (N : Nat) (s0 : List (Int)) : Option (List (Int)) := bif s0.isEmpty then some [] else slices_Clone_fsm_Action_fsm_Action_ne N s0
noncomputable def Ev55 (N : Nat) : (R : Type) → Env R := Env.addFn (Ev54 N) 45 (fun R => fnK [(.sl (.int .i64))] [(.sl (.int .i64))] (fun c => slices_Clone_fsm_Action_fsm_Action N c.1))
theorem Ev55_ok (N : Nat) (R : Type) : EnvOK Go.Proofs.Try.prog (Ev55 N R) := EnvOK.addNil hmx (Ev54_ok N R) (Ev54_ok N _) (by kernel_rfl) (fun c => slices_Clone_fsm_Action_fsm_Action_ne_S N c.1) (slices_Clone_fsm_Action_fsm_Action_n1 N) (slices_Clone_fsm_Action_fsm_Action_n2 N)
noncomputable def fsm_Next (N : Nat) (s0 : Int) (e1 : Int) : Option ((Int) × (List (Int)) × Int) :=
 Option.bind (@fsm_isState N s0) fun (v3 : Bool) =>
 bif (!v3) then
  some (((0 : Int), (([] : List (Int)), (1 : Int))))
 else
  bif (@cond Bool @Bool.false @Bool.true (decide (e1 < (0 : Int)))) then
   some (((0 : Int), (([] : List (Int)), (1 : Int))))
  else
   bif (@cond Bool @Bool.false @Bool.true (decide ((15 : Int) < e1))) then
    some (((0 : Int), (([] : List (Int)), (1 : Int))))
   else
    Option.bind (@fsm_row N e1) fun (v4 : (Arr (Bool × (Int × (List Int))) 10)) =>
    Option.bind (getI v4.l s0) fun (v5 : (Bool × (Int × (List Int)))) =>
    bif (!v5.1) then
     some (((0 : Int), (([] : List (Int)), (11 : Int))))
    else
     Option.bind (@slices_Clone_fsm_Action_fsm_Action N v5.2.2) fun (v6 : (List Int)) =>
     some ((v5.2.1, (v6, (0 : Int))))
theorem fsm_Next_S (N : Nat) (s0 : Int) (e1 : Int) : (runK Go.Proofs.Try.prog (Ev55 N) 400 32 [(.int .i64), (.int .i64)] [(.int .i64), (.sl (.int .i64)), (.int .i64)] (s0, e1, ())).run = fsm_Next N s0 e1 := by kernel_rfl
noncomputable def Ev56 (N : Nat) : (R : Type) → Env R := Env.addFn (Ev55 N) 32 (fun R => fnK [(.int .i64), (.int .i64)] [(.int .i64), (.sl (.int .i64)), (.int .i64)] (fun c => fsm_Next N c.1 c.2.1))
theorem Ev56_ok (N : Nat) (R : Type) : EnvOK Go.Proofs.Try.prog (Ev56 N R) := EnvOK.addFn hmx (Ev55_ok N R) (Ev55_ok N _) (by kernel_rfl) (fun c => fsm_Next_S N c.1 c.2.1)
noncomputable def slices_Index_fsm_Action_fsm_Action_L2_I : LI := ⟨19, 0, [], ⟨[(0, .ty (.sl (.int .i64))), (1, .ty (.int .i64)), (7, .ty (.int .i64)), (8, .ty (.int .i64))], []⟩, [(.ret, ⟨[(4, .ty (.int .i64))], []⟩), (.exit 0, ⟨[], []⟩)]⟩
noncomputable def slices_Index_fsm_Action_fsm_Action_L2 (N : Nat) (X : (((List (Int)) × ((Int) × ((Int) × ((Int) × Unit)))) × Unit) → Option (((((Int) × Unit) × Unit) ⊕ (Unit × Unit)))) (s0 : List (Int)) (v1 : Int) (x7 : Int) (x8 : Int) : Option (((((Int) × Unit) × Unit) ⊕ (Unit × Unit))) :=
 bif (decide (x8 < x7)) then
  Option.bind (getI s0 x8) fun (v6 : Int) =>
  bif (decide (v1 = v6)) then
   some ((.inl ((x8, @Unit.unit), @Unit.unit)))
  else
   (X ((s0, (v1, (x7, ((Go.IntKind.wrap .i64 (x8 + (1 : Int))), @Unit.unit)))), @Unit.unit))
 else
  some ((.inr (@Unit.unit, @Unit.unit)))
noncomputable def slices_Index_fsm_Action_fsm_Action_L2_R (N : Nat) (c : (((List (Int)) × ((Int) × ((Int) × ((Int) × Unit)))) × Unit)) : Option (((((Int) × Unit) × Unit) ⊕ (Unit × Unit))) := gl (fun X c => slices_Index_fsm_Action_fsm_Action_L2 N X c.1.1 c.1.2.1 c.1.2.2.1 c.1.2.2.2.1) N c
theorem slices_Index_fsm_Action_fsm_Action_L2_S (N : Nat) (X : (((List (Int)) × ((Int) × ((Int) × ((Int) × Unit)))) × Unit) → Option (((((Int) × Unit) × Unit) ⊕ (Unit × Unit)))) (s0 : List (Int)) (v1 : Int) (x7 : Int) (x8 : Int) : (roundK Go.Proofs.Try.prog (Ev56 N) 400 [46] slices_Index_fsm_Action_fsm_Action_L2_I (loopAt Go.Proofs.Try.prog [46] 2) X ((s0, v1, x7, x8, ()), ())).run = slices_Index_fsm_Action_fsm_Action_L2 N X s0 v1 x7 x8 := by kernel_rfl
noncomputable def Ev57 (N : Nat) : (R : Type) → Env R := Env.addLp (Ev56 N) [46] 0 2 (fun R => lpK Go.Proofs.Try.prog slices_Index_fsm_Action_fsm_Action_L2_I (fun X c => slices_Index_fsm_Action_fsm_Action_L2 N X c.1.1 c.1.2.1 c.1.2.2.1 c.1.2.2.2.1) N)
theorem Ev57_ok (N : Nat) (R : Type) : EnvOK Go.Proofs.Try.prog (Ev57 N R) := EnvOK.addLp (Ev56_ok N R) (by kernel_rfl) (lpK_ok (li := slices_Index_fsm_Action_fsm_Action_L2_I) (G := fun X c => slices_Index_fsm_Action_fsm_Action_L2 N X c.1.1 c.1.2.1 c.1.2.2.1 c.1.2.2.2.1) hmx (Ev56_ok N _) (by kernel_rfl) loopAt_sub (fun (X : CT slices_Index_fsm_Action_fsm_Action_L2_I.sh → Option (OT slices_Index_fsm_Action_fsm_Action_L2_I.outs)) (c : CT slices_Index_fsm_Action_fsm_Action_L2_I.sh) => slices_Index_fsm_Action_fsm_Action_L2_S N X c.1.1 c.1.2.1 c.1.2.2.1 c.1.2.2.2.1) N)
noncomputable def slices_Index_fsm_Action_fsm_Action (N : Nat) (s0 : List (Int)) (v1 : Int) : Option (Int) :=
 Option.bind (slices_Index_fsm_Action_fsm_Action_L2_R N ((s0, (v1, ((((List.length s0) : Nat) : Int), ((0 : Int), @Unit.unit)))), @Unit.unit)) fun (v3 : (((Int × Unit) × Unit) ⊕ (Unit × Unit))) =>
 Sum.elim
  (fun (v4 : ((Int × Unit) × Unit)) =>
  some (v4.1.1))
  (fun (v4 : (Unit × Unit)) =>
  some ((-1 : Int))) v3
theorem slices_Index_fsm_Action_fsm_Action_S (N : Nat) (s0 : List (Int)) (v1 : Int) : (runK Go.Proofs.Try.prog (Ev57 N) 400 46 [(.sl (.int .i64)), (.int .i64)] [(.int .i64)] (s0, v1, ())).run = slices_Index_fsm_Action_fsm_Action N s0 v1 := by kernel_rfl
noncomputable def Ev58 (N : Nat) : (R : Type) → Env R := Env.addFn (Ev57 N) 46 (fun R => fnK [(.sl (.int .i64)), (.int .i64)] [(.int .i64)] (fun c => slices_Index_fsm_Action_fsm_Action N c.1 c.2.1))
theorem Ev58_ok (N : Nat) (R : Type) : EnvOK Go.Proofs.Try.prog (Ev58 N R) := EnvOK.addFn hmx (Ev57_ok N R) (Ev57_ok N _) (by kernel_rfl) (fun c => slices_Index_fsm_Action_fsm_Action_S N c.1 c.2.1)
noncomputable def slices_Contains_fsm_Action_fsm_Action (N : Nat) (s0 : List (Int)) (v1 : Int) : Option (Bool) :=
 Option.bind (@slices_Index_fsm_Action_fsm_Action N s0 v1) fun (v3 : Int) =>
 some ((decide ((0 : Int) ≤ v3)))
theorem slices_Contains_fsm_Action_fsm_Action_S (N : Nat) (s0 : List (Int)) (v1 : Int) : (runK Go.Proofs.Try.prog (Ev58 N) 400 34 [(.sl (.int .i64)), (.int .i64)] [.bool] (s0, v1, ())).run = slices_Contains_fsm_Action_fsm_Action N s0 v1 := by kernel_rfl
noncomputable def Ev59 (N : Nat) : (R : Type) → Env R := Env.addFn (Ev58 N) 34 (fun R => fnK [(.sl (.int .i64)), (.int .i64)] [.bool] (fun c => slices_Contains_fsm_Action_fsm_Action N c.1 c.2.1))
theorem Ev59_ok (N : Nat) (R : Type) : EnvOK Go.Proofs.Try.prog (Ev59 N R) := EnvOK.addFn hmx (Ev58_ok N R) (Ev58_ok N _) (by kernel_rfl) (fun c => slices_Contains_fsm_Action_fsm_Action_S N c.1 c.2.1)
noncomputable def retry_Retry_Init (N : Nat) (r0 : (Int) × (Int)) (x1 : Bool) : Option ((Int) × (Int)) :=
 bif x1 then
  some (((2 : Int), r0.2))
 else
  some (((10 : Int), r0.2))
theorem retry_Retry_Init_S (N : Nat) (r0 : (Int) × (Int)) (x1 : Bool) : (runK Go.Proofs.Try.prog (Ev59 N) 400 33 [(.pair (.int .i64) (.int .i64)), .bool] [(.pair (.int .i64) (.int .i64))] (r0, x1, ())).run = retry_Retry_Init N r0 x1 := by kernel_rfl
noncomputable def Ev60 (N : Nat) : (R : Type) → Env R := Env.addFn (Ev59 N) 33 (fun R => fnK [(.pair (.int .i64) (.int .i64)), .bool] [(.pair (.int .i64) (.int .i64))] (fun c => retry_Retry_Init N c.1 c.2.1))
theorem Ev60_ok (N : Nat) (R : Type) : EnvOK Go.Proofs.Try.prog (Ev60 N R) := EnvOK.addFn hmx (Ev59_ok N R) (Ev59_ok N _) (by kernel_rfl) (fun c => retry_Retry_Init_S N c.1 c.2.1)
noncomputable def Ev61 (N : Nat) : (R : Type) → Env R := Env.addBx (Ev60 N) [(35, 0)]
theorem Ev61_ok (N : Nat) (R : Type) : EnvOK Go.Proofs.Try.prog (Ev61 N R) := EnvOK.addBx (Ev60_ok N R) [(35, 0)]
noncomputable def retry_Retry_Zero (N : Nat) (r0 : (Int) × (Int)) : Option ((Int) × (Int)) :=
 some (((0 : Int), (3 : Int)))
theorem retry_Retry_Zero_S (N : Nat) (r0 : (Int) × (Int)) : (runK Go.Proofs.Try.prog (Ev61 N) 400 35 [(.pair (.int .i64) (.int .i64))] [(.pair (.int .i64) (.int .i64))] (r0, ())).run = retry_Retry_Zero N r0 := by kernel_rfl
noncomputable def Ev62 (N : Nat) : (R : Type) → Env R := Env.addFn (Ev61 N) 35 (fun R => fnK [(.pair (.int .i64) (.int .i64))] [(.pair (.int .i64) (.int .i64))] (fun c => retry_Retry_Zero N c.1))
theorem Ev62_ok (N : Nat) (R : Type) : EnvOK Go.Proofs.Try.prog (Ev62 N R) := EnvOK.addFn hmx (Ev61_ok N R) (Ev61_ok N _) (by kernel_rfl) (fun c => retry_Retry_Zero_S N c.1)
noncomputable def Ev63 (N : Nat) : (R : Type) → Env R := Env.addBx (Ev62 N) [(36, 0)]
theorem Ev63_ok (N : Nat) (R : Type) : EnvOK Go.Proofs.Try.prog (Ev63 N R) := EnvOK.addBx (Ev62_ok N R) [(36, 0)]
noncomputable def Ev64 (N : Nat) : (R : Type) → Env R := Env.addMv (Ev63 N) [(47, 1), (47, 3)]
theorem Ev64_ok (N : Nat) (R : Type) : EnvOK Go.Proofs.Try.prog (Ev64 N R) := EnvOK.addMv (Ev63_ok N R) [(47, 1), (47, 3)]
noncomputable def Ev65 (N : Nat) : (R : Type) → Env R := Env.addBx (Ev64 N) [(47, 0)]
theorem Ev65_ok (N : Nat) (R : Type) : EnvOK Go.Proofs.Try.prog (Ev65 N R) := EnvOK.addBx (Ev64_ok N R) [(47, 0)]
noncomputable def ipcpo_laid (N : Nat) (a0 : Int) : Option (List (Int)) :=
 Option.bind (@octs_Put N (Go.IntKind.wrap .u64 a0) (4 : Int) @Bool.false) fun (v2 : ((List Int) × Int)) =>
 some (v2.1)
theorem ipcpo_laid_S (N : Nat) (a0 : Int) : (runK Go.Proofs.Try.prog (Ev65 N) 400 61 [(.int .u32)] [(.sl (.int .u8))] (a0, ())).run = ipcpo_laid N a0 := by kernel_rfl
noncomputable def Ev66 (N : Nat) : (R : Type) → Env R := Env.addFn (Ev65 N) 61 (fun R => fnK [(.int .u32)] [(.sl (.int .u8))] (fun c => ipcpo_laid N c.1))
theorem Ev66_ok (N : Nat) (R : Type) : EnvOK Go.Proofs.Try.prog (Ev66 N R) := EnvOK.addFn hmx (Ev65_ok N R) (Ev65_ok N _) (by kernel_rfl) (fun c => ipcpo_laid_S N c.1)
noncomputable def ipcpo_option (N : Nat) (kind0 : Int) (a1 : Int) : Option ((Int) × (List (Int))) :=
 Option.bind (@ipcpo_laid N a1) fun (v3 : (List Int)) =>
 some ((kind0, v3))
theorem ipcpo_option_S (N : Nat) (kind0 : Int) (a1 : Int) : (runK Go.Proofs.Try.prog (Ev66 N) 400 55 [(.int .u8), (.int .u32)] [(.pair (.int .u8) (.sl (.int .u8)))] (kind0, a1, ())).run = ipcpo_option N kind0 a1 := by kernel_rfl
noncomputable def Ev67 (N : Nat) : (R : Type) → Env R := Env.addFn (Ev66 N) 55 (fun R => fnK [(.int .u8), (.int .u32)] [(.pair (.int .u8) (.sl (.int .u8)))] (fun c => ipcpo_option N c.1 c.2.1))
theorem Ev67_ok (N : Nat) (R : Type) : EnvOK Go.Proofs.Try.prog (Ev67 N R) := EnvOK.addFn hmx (Ev66_ok N R) (Ev66_ok N _) (by kernel_rfl) (fun c => ipcpo_option_S N c.1 c.2.1)
noncomputable def ipcpo_Options (N : Nat) (s0 : (Bool) × ((Int) × ((Int) × ((Int) × (Bool))))) : Option (List ((Int) × (List (Int)))) :=
 Option.bind (@ipcpo_option N (3 : Int) s0.2.1) fun (v2 : (Int × (List Int))) =>
 bif (!s0.1) then
  bif (@cond Bool @Bool.true s0.2.2.2.2 @Bool.false) then
   Option.bind (@ipcpo_option N (129 : Int) s0.2.2.2.1) fun (v3 : (Int × (List Int))) =>
   some ((([(v2.1, v2.2)] : List ((Int × (List Int)))) ++ ([(v3.1, v3.2)] : List ((Int × (List Int))))))
  else
   some (([(v2.1, v2.2)] : List ((Int × (List Int)))))
 else
  some (([(v2.1, v2.2)] : List ((Int × (List Int)))))
theorem ipcpo_Options_S (N : Nat) (s0 : (Bool) × ((Int) × ((Int) × ((Int) × (Bool))))) : (runK Go.Proofs.Try.prog (Ev67 N) 400 47 [(.pair .bool (.pair (.int .u32) (.pair (.int .u32) (.pair (.int .u32) .bool))))] [(.sl (.pair (.int .u8) (.sl (.int .u8))))] (s0, ())).run = ipcpo_Options N s0 := by kernel_rfl
noncomputable def Ev68 (N : Nat) : (R : Type) → Env R := Env.addFn (Ev67 N) 47 (fun R => fnK [(.pair .bool (.pair (.int .u32) (.pair (.int .u32) (.pair (.int .u32) .bool))))] [(.sl (.pair (.int .u8) (.sl (.int .u8))))] (fun c => ipcpo_Options N c.1))
theorem Ev68_ok (N : Nat) (R : Type) : EnvOK Go.Proofs.Try.prog (Ev68 N R) := EnvOK.addFn hmx (Ev67_ok N R) (Ev67_ok N _) (by kernel_rfl) (fun c => ipcpo_Options_S N c.1)
noncomputable def Ev69 (N : Nat) : (R : Type) → Env R := Env.addMv (Ev68 N) [(48, 3), (48, 5), (48, 7)]
theorem Ev69_ok (N : Nat) (R : Type) : EnvOK Go.Proofs.Try.prog (Ev69 N R) := EnvOK.addMv (Ev68_ok N R) [(48, 3), (48, 5), (48, 7)]
noncomputable def Ev70 (N : Nat) : (R : Type) → Env R := Env.addBx (Ev69 N) [(48, 0)]
theorem Ev70_ok (N : Nat) (R : Type) : EnvOK Go.Proofs.Try.prog (Ev70 N R) := EnvOK.addBx (Ev69_ok N R) [(48, 0)]
noncomputable def lcpo_size (N : Nat) (kind0 : Int) : Option (Int) :=
 bif (decide (kind0 = (1 : Int))) then
  some ((2 : Int))
 else
  bif (decide (kind0 = (3 : Int))) then
   some ((3 : Int))
  else
   bif (decide (kind0 = (5 : Int))) then
    some ((4 : Int))
   else
    bif (decide (kind0 = (7 : Int))) then
     some ((0 : Int))
    else
     bif (decide (kind0 = (8 : Int))) then
      some ((0 : Int))
     else
      some ((-1 : Int))
theorem lcpo_size_S (N : Nat) (kind0 : Int) : (runK Go.Proofs.Try.prog (Ev70 N) 400 62 [(.int .u8)] [(.int .i64)] (kind0, ())).run = lcpo_size N kind0 := by kernel_rfl
noncomputable def Ev71 (N : Nat) : (R : Type) → Env R := Env.addFn (Ev70 N) 62 (fun R => fnK [(.int .u8)] [(.int .i64)] (fun c => lcpo_size N c.1))
theorem Ev71_ok (N : Nat) (R : Type) : EnvOK Go.Proofs.Try.prog (Ev71 N R) := EnvOK.addFn hmx (Ev70_ok N R) (Ev70_ok N _) (by kernel_rfl) (fun c => lcpo_size_S N c.1)
noncomputable def lcpo_number (N : Nat) (kind0 : Int) (n1 : Int) : Option ((Int) × (List (Int))) :=
 Option.bind (@lcpo_size N kind0) fun (v3 : Int) =>
 Option.bind (@octs_Put N n1 v3 @Bool.false) fun (v4 : ((List Int) × Int)) =>
 some ((kind0, v4.1))
theorem lcpo_number_S (N : Nat) (kind0 : Int) (n1 : Int) : (runK Go.Proofs.Try.prog (Ev71 N) 400 56 [(.int .u8), (.int .u64)] [(.pair (.int .u8) (.sl (.int .u8)))] (kind0, n1, ())).run = lcpo_number N kind0 n1 := by kernel_rfl
noncomputable def Ev72 (N : Nat) : (R : Type) → Env R := Env.addFn (Ev71 N) 56 (fun R => fnK [(.int .u8), (.int .u64)] [(.pair (.int .u8) (.sl (.int .u8)))] (fun c => lcpo_number N c.1 c.2.1))
theorem Ev72_ok (N : Nat) (R : Type) : EnvOK Go.Proofs.Try.prog (Ev72 N R) := EnvOK.addFn hmx (Ev71_ok N R) (Ev71_ok N _) (by kernel_rfl) (fun c => lcpo_number_S N c.1 c.2.1)
noncomputable def lcpo_Chap (N : Nat) : Option (List (Int)) :=
 some (([(194 : Int), (35 : Int), (129 : Int)] : List (Int)))
theorem lcpo_Chap_S (N : Nat) : (runK Go.Proofs.Try.prog (Ev72 N) 400 57 [] [(.sl (.int .u8))] ()).run = lcpo_Chap N  := by kernel_rfl
noncomputable def Ev73 (N : Nat) : (R : Type) → Env R := Env.addFn (Ev72 N) 57 (fun R => fnK [] [(.sl (.int .u8))] (fun c => lcpo_Chap N ))
theorem Ev73_ok (N : Nat) (R : Type) : EnvOK Go.Proofs.Try.prog (Ev73 N R) := EnvOK.addFn hmx (Ev72_ok N R) (Ev72_ok N _) (by kernel_rfl) (fun c => lcpo_Chap_S N )
noncomputable def lcpo_Options (N : Nat) (w0 : (Int) × ((Int) × (Bool))) : Option (List ((Int) × (List (Int)))) :=
 bif (!(decide (w0.1 = (0 : Int)))) then
  Option.bind (@lcpo_number N (1 : Int) (Go.IntKind.wrap .u64 w0.1)) fun (v2 : (Int × (List Int))) =>
  bif w0.2.2 then
   bif (!(decide (w0.2.1 = (0 : Int)))) then
    Option.bind (@lcpo_number N (5 : Int) (Go.IntKind.wrap .u64 w0.2.1)) fun (v3 : (Int × (List Int))) =>
    some (((([(v2.1, v2.2)] : List ((Int × (List Int)))) ++ ([((3 : Int), ([(194 : Int), (35 : Int), (129 : Int)] : List (Int)))] : List ((Int × (List Int))))) ++ ([(v3.1, v3.2)] : List ((Int × (List Int))))))
   else
    some ((([(v2.1, v2.2)] : List ((Int × (List Int)))) ++ ([((3 : Int), ([(194 : Int), (35 : Int), (129 : Int)] : List (Int)))] : List ((Int × (List Int))))))
  else
   bif (!(decide (w0.2.1 = (0 : Int)))) then
    Option.bind (@lcpo_number N (5 : Int) (Go.IntKind.wrap .u64 w0.2.1)) fun (v3 : (Int × (List Int))) =>
    some ((([(v2.1, v2.2)] : List ((Int × (List Int)))) ++ ([(v3.1, v3.2)] : List ((Int × (List Int))))))
   else
    some (([(v2.1, v2.2)] : List ((Int × (List Int)))))
 else
  bif w0.2.2 then
   bif (!(decide (w0.2.1 = (0 : Int)))) then
    Option.bind (@lcpo_number N (5 : Int) (Go.IntKind.wrap .u64 w0.2.1)) fun (v2 : (Int × (List Int))) =>
    some ((([((3 : Int), ([(194 : Int), (35 : Int), (129 : Int)] : List (Int)))] : List ((Int × (List Int)))) ++ ([(v2.1, v2.2)] : List ((Int × (List Int))))))
   else
    some (([((3 : Int), ([(194 : Int), (35 : Int), (129 : Int)] : List (Int)))] : List ((Int × (List Int)))))
  else
   bif (!(decide (w0.2.1 = (0 : Int)))) then
    Option.bind (@lcpo_number N (5 : Int) (Go.IntKind.wrap .u64 w0.2.1)) fun (v2 : (Int × (List Int))) =>
    some (([(v2.1, v2.2)] : List ((Int × (List Int)))))
   else
    some (([] : List ((Int × (List Int)))))
theorem lcpo_Options_S (N : Nat) (w0 : (Int) × ((Int) × (Bool))) : (runK Go.Proofs.Try.prog (Ev73 N) 400 48 [(.pair (.int .u16) (.pair (.int .u32) .bool))] [(.sl (.pair (.int .u8) (.sl (.int .u8))))] (w0, ())).run = lcpo_Options N w0 := by kernel_rfl
noncomputable def Ev74 (N : Nat) : (R : Type) → Env R := Env.addFn (Ev73 N) 48 (fun R => fnK [(.pair (.int .u16) (.pair (.int .u32) .bool))] [(.sl (.pair (.int .u8) (.sl (.int .u8))))] (fun c => lcpo_Options N c.1))
theorem Ev74_ok (N : Nat) (R : Type) : EnvOK Go.Proofs.Try.prog (Ev74 N R) := EnvOK.addFn hmx (Ev73_ok N R) (Ev73_ok N _) (by kernel_rfl) (fun c => lcpo_Options_S N c.1)
noncomputable def nego_Nego_asks (N : Nat) (n0 : ((Bool) × (((Int) × ((Int) × (Bool))) × ((Bool) × ((Bool) × ((Int) × ((Int) × ((Int) × (Bool)))))))) × ((Int) × (((Int) × (Int)) × ((Int) × ((List ((Int) × (List (Int)))) × ((List ((Int) × (List (Int)))) × (Int))))))) : Option (List ((Int) × (List (Int)))) :=
 bif n0.1.1 then
  Option.bind (@ipcpo_Options N (n0.1.2.2.2.1, (n0.1.2.2.2.2.1, (n0.1.2.2.2.2.2.1, (n0.1.2.2.2.2.2.2.1, n0.1.2.2.2.2.2.2.2))))) fun (v2 : (List (Int × (List Int)))) =>
  some (v2)
 else
  Option.bind (@lcpo_Options N (n0.1.2.1.1, (n0.1.2.1.2.1, n0.1.2.1.2.2))) fun (v2 : (List (Int × (List Int)))) =>
  some (v2)
theorem nego_Nego_asks_S (N : Nat) (n0 : ((Bool) × (((Int) × ((Int) × (Bool))) × ((Bool) × ((Bool) × ((Int) × ((Int) × ((Int) × (Bool)))))))) × ((Int) × (((Int) × (Int)) × ((Int) × ((List ((Int) × (List (Int)))) × ((List ((Int) × (List (Int)))) × (Int))))))) : (runK Go.Proofs.Try.prog (Ev74 N) 400 36 [(.pair (.pair .bool (.pair (.pair (.int .u16) (.pair (.int .u32) .bool)) (.pair .bool (.pair .bool (.pair (.int .u32) (.pair (.int .u32) (.pair (.int .u32) .bool))))))) (.pair (.int .i64) (.pair (.pair (.int .i64) (.int .i64)) (.pair (.int .u8) (.pair (.sl (.pair (.int .u8) (.sl (.int .u8)))) (.pair (.sl (.pair (.int .u8) (.sl (.int .u8)))) (.int .i64)))))))] [(.sl (.pair (.int .u8) (.sl (.int .u8))))] (n0, ())).run = nego_Nego_asks N n0 := by kernel_rfl
noncomputable def Ev75 (N : Nat) : (R : Type) → Env R := Env.addFn (Ev74 N) 36 (fun R => fnK [(.pair (.pair .bool (.pair (.pair (.int .u16) (.pair (.int .u32) .bool)) (.pair .bool (.pair .bool (.pair (.int .u32) (.pair (.int .u32) (.pair (.int .u32) .bool))))))) (.pair (.int .i64) (.pair (.pair (.int .i64) (.int .i64)) (.pair (.int .u8) (.pair (.sl (.pair (.int .u8) (.sl (.int .u8)))) (.pair (.sl (.pair (.int .u8) (.sl (.int .u8)))) (.int .i64)))))))] [(.sl (.pair (.int .u8) (.sl (.int .u8))))] (fun c => nego_Nego_asks N c.1))
theorem Ev75_ok (N : Nat) (R : Type) : EnvOK Go.Proofs.Try.prog (Ev75 N R) := EnvOK.addFn hmx (Ev74_ok N R) (Ev74_ok N _) (by kernel_rfl) (fun c => nego_Nego_asks_S N c.1)
noncomputable def Ev76 (N : Nat) : (R : Type) → Env R := Env.addBx (Ev75 N) [(37, 0)]
theorem Ev76_ok (N : Nat) (R : Type) : EnvOK Go.Proofs.Try.prog (Ev76 N R) := EnvOK.addBx (Ev75_ok N R) [(37, 0)]
noncomputable def Ev77 (N : Nat) : (R : Type) → Env R := Env.addBx (Ev76 N) [(49, 0)]
theorem Ev77_ok (N : Nat) (R : Type) : EnvOK Go.Proofs.Try.prog (Ev77 N R) := EnvOK.addBx (Ev76_ok N R) [(49, 0)]
noncomputable def retry_Retry_More (N : Nat) (r0 : (Int) × (Int)) : Option (Bool) :=
 some ((decide ((0 : Int) < r0.1)))
theorem retry_Retry_More_S (N : Nat) (r0 : (Int) × (Int)) : (runK Go.Proofs.Try.prog (Ev77 N) 400 49 [(.pair (.int .i64) (.int .i64))] [.bool] (r0, ())).run = retry_Retry_More N r0 := by kernel_rfl
noncomputable def Ev78 (N : Nat) : (R : Type) → Env R := Env.addFn (Ev77 N) 49 (fun R => fnK [(.pair (.int .i64) (.int .i64))] [.bool] (fun c => retry_Retry_More N c.1))
theorem Ev78_ok (N : Nat) (R : Type) : EnvOK Go.Proofs.Try.prog (Ev78 N R) := EnvOK.addFn hmx (Ev77_ok N R) (Ev77_ok N _) (by kernel_rfl) (fun c => retry_Retry_More_S N c.1)
noncomputable def retry_Retry_Sent (N : Nat) (r0 : (Int) × (Int)) : Option ((Int) × (Int)) :=
 bif (decide ((0 : Int) < r0.1)) then
  some (((Go.IntKind.wrap .i64 (r0.1 - (1 : Int))), (3 : Int)))
 else
  some (((0 : Int), (3 : Int)))
theorem retry_Retry_Sent_S (N : Nat) (r0 : (Int) × (Int)) : (runK Go.Proofs.Try.prog (Ev78 N) 400 37 [(.pair (.int .i64) (.int .i64))] [(.pair (.int .i64) (.int .i64))] (r0, ())).run = retry_Retry_Sent N r0 := by kernel_rfl
noncomputable def Ev79 (N : Nat) : (R : Type) → Env R := Env.addFn (Ev78 N) 37 (fun R => fnK [(.pair (.int .i64) (.int .i64))] [(.pair (.int .i64) (.int .i64))] (fun c => retry_Retry_Sent N c.1))
theorem Ev79_ok (N : Nat) (R : Type) : EnvOK Go.Proofs.Try.prog (Ev79 N R) := EnvOK.addFn hmx (Ev78_ok N R) (Ev78_ok N _) (by kernel_rfl) (fun c => retry_Retry_Sent_S N c.1)
noncomputable def Ev80 (N : Nat) : (R : Type) → Env R := Env.addBx (Ev79 N) [(39, 0)]
theorem Ev80_ok (N : Nat) (R : Type) : EnvOK Go.Proofs.Try.prog (Ev80 N R) := EnvOK.addBx (Ev79_ok N R) [(39, 0)]
noncomputable def ctl_hasOptions (N : Nat) (code0 : Int) : Option (Bool) :=
 bif (decide ((1 : Int) ≤ code0)) then
  some ((@cond Bool @Bool.true (decide (code0 ≤ (4 : Int))) @Bool.false))
 else
  some (@Bool.false)
theorem ctl_hasOptions_S (N : Nat) (code0 : Int) : (runK Go.Proofs.Try.prog (Ev80 N) 400 58 [(.int .u8)] [.bool] (code0, ())).run = ctl_hasOptions N code0 := by kernel_rfl
noncomputable def Ev81 (N : Nat) : (R : Type) → Env R := Env.addFn (Ev80 N) 58 (fun R => fnK [(.int .u8)] [.bool] (fun c => ctl_hasOptions N c.1))
theorem Ev81_ok (N : Nat) (R : Type) : EnvOK Go.Proofs.Try.prog (Ev81 N R) := EnvOK.addFn hmx (Ev80_ok N R) (Ev80_ok N _) (by kernel_rfl) (fun c => ctl_hasOptions_S N c.1)
noncomputable def Ev82 (N : Nat) : (R : Type) → Env R := Env.addMv (Ev81 N) [(59, 9)]
theorem Ev82_ok (N : Nat) (R : Type) : EnvOK Go.Proofs.Try.prog (Ev82 N R) := EnvOK.addMv (Ev81_ok N R) [(59, 9)]
noncomputable def opts_Lay_L5_I : LI := ⟨36, 0, [(4, 5)], ⟨[(4, .lit (.own 0)), (10, .ty (.sl (.pair (.int .u8) (.sl (.int .u8))))), (11, .ty (.int .i64)), (12, .ty (.int .i64))], [.own (.int .u8) 5]⟩, [(.ret, ⟨[(2, .ty (.sl (.int .u8))), (3, .ty (.int .i64))], []⟩), (.exit 0, ⟨[(4, .lit (.own 0))], [.own (.int .u8) 5]⟩)]⟩
noncomputable def opts_Lay_L5 (N : Nat) (X : (((List ((Int) × (List (Int)))) × ((Int) × ((Int) × Unit))) × ((List (Int)) × Unit)) → Option (((((List (Int)) × ((Int) × Unit)) × Unit) ⊕ (Unit × ((List (Int)) × Unit))))) (x10 : List ((Int) × (List (Int)))) (x11 : Int) (x12 : Int) (h0 : List (Int)) : Option (((((List (Int)) × ((Int) × Unit)) × Unit) ⊕ (Unit × ((List (Int)) × Unit)))) :=
 bif (decide (x12 < x11)) then
  Option.bind (getI x10 x12) fun (v6 : (Int × (List Int))) =>
  bif (decide ((253 : Int) < (((List.length v6.2) : Nat) : Int))) then
   some ((.inl ((([] : List (Int)), ((8 : Int), @Unit.unit)), @Unit.unit)))
  else
   bif (roomB ((List.length h0) + (List.length ([v6.1, (Go.IntKind.wrap .u8 (Go.IntKind.wrap .i64 ((2 : Int) + (((List.length v6.2) : Nat) : Int))))] : List (Int)))) 1) then
    bif (roomB ((List.length (h0 ++ ([v6.1, (Go.IntKind.wrap .u8 (Go.IntKind.wrap .i64 ((2 : Int) + (((List.length v6.2) : Nat) : Int))))] : List (Int)))) + (List.length v6.2)) 1) then
     (X ((x10, (x11, ((Go.IntKind.wrap .i64 (x12 + (1 : Int))), @Unit.unit))), (((h0 ++ ([v6.1, (Go.IntKind.wrap .u8 (Go.IntKind.wrap .i64 ((2 : Int) + (((List.length v6.2) : Nat) : Int))))] : List (Int))) ++ v6.2), @Unit.unit)))
    else
     none
   else
    none
 else
  some ((.inr (@Unit.unit, (h0, @Unit.unit))))
noncomputable def opts_Lay_L5_R (N : Nat) (c : (((List ((Int) × (List (Int)))) × ((Int) × ((Int) × Unit))) × ((List (Int)) × Unit))) : Option (((((List (Int)) × ((Int) × Unit)) × Unit) ⊕ (Unit × ((List (Int)) × Unit)))) := gl (fun X c => opts_Lay_L5 N X c.1.1 c.1.2.1 c.1.2.2.1 c.2.1) N c
theorem opts_Lay_L5_S (N : Nat) (X : (((List ((Int) × (List (Int)))) × ((Int) × ((Int) × Unit))) × ((List (Int)) × Unit)) → Option (((((List (Int)) × ((Int) × Unit)) × Unit) ⊕ (Unit × ((List (Int)) × Unit))))) (x10 : List ((Int) × (List (Int)))) (x11 : Int) (x12 : Int) (h0 : List (Int)) : (roundK Go.Proofs.Try.prog (Ev82 N) 400 [59] opts_Lay_L5_I (loopAt Go.Proofs.Try.prog [59] 5) X ((x10, x11, x12, ()), (h0, ()))).run = opts_Lay_L5 N X x10 x11 x12 h0 := by kernel_rfl
noncomputable def Ev83 (N : Nat) : (R : Type) → Env R := Env.addLp (Ev82 N) [59] 0 5 (fun R => lpK Go.Proofs.Try.prog opts_Lay_L5_I (fun X c => opts_Lay_L5 N X c.1.1 c.1.2.1 c.1.2.2.1 c.2.1) N)
theorem Ev83_ok (N : Nat) (R : Type) : EnvOK Go.Proofs.Try.prog (Ev83 N R) := EnvOK.addLp (Ev82_ok N R) (by kernel_rfl) (lpK_ok (li := opts_Lay_L5_I) (G := fun X c => opts_Lay_L5 N X c.1.1 c.1.2.1 c.1.2.2.1 c.2.1) hmx (Ev82_ok N _) (by kernel_rfl) loopAt_sub (fun (X : CT opts_Lay_L5_I.sh → Option (OT opts_Lay_L5_I.outs)) (c : CT opts_Lay_L5_I.sh) => opts_Lay_L5_S N X c.1.1 c.1.2.1 c.1.2.2.1 c.2.1) N)
noncomputable def opts_Lay (N : Nat) (l0 : List ((Int) × (List (Int)))) : Option ((List (Int)) × Int) :=
 bif (decide ((32 : Int) < (((List.length l0) : Nat) : Int))) then
  some ((([] : List (Int)), (5 : Int)))
 else
  Option.bind (opts_Lay_L5_R N ((l0, ((((List.length l0) : Nat) : Int), ((0 : Int), @Unit.unit))), (([] : List (Int)), @Unit.unit))) fun (v2 : ((((List Int) × (Int × Unit)) × Unit) ⊕ (Unit × ((List Int) × Unit)))) =>
  Sum.elim
   (fun (v3 : (((List Int) × (Int × Unit)) × Unit)) =>
   some ((v3.1.1, v3.1.2.1)))
   (fun (v3 : (Unit × ((List Int) × Unit))) =>
   some ((v3.2.1, (0 : Int)))) v2
theorem opts_Lay_S (N : Nat) (l0 : List ((Int) × (List (Int)))) : (runK Go.Proofs.Try.prog (Ev83 N) 400 59 [(.sl (.pair (.int .u8) (.sl (.int .u8))))] [(.sl (.int .u8)), (.int .i64)] (l0, ())).run = opts_Lay N l0 := by kernel_rfl
noncomputable def Ev84 (N : Nat) : (R : Type) → Env R := Env.addFn (Ev83 N) 59 (fun R => fnK [(.sl (.pair (.int .u8) (.sl (.int .u8))))] [(.sl (.int .u8)), (.int .i64)] (fun c => opts_Lay N c.1))
theorem Ev84_ok (N : Nat) (R : Type) : EnvOK Go.Proofs.Try.prog (Ev84 N R) := EnvOK.addFn hmx (Ev83_ok N R) (Ev83_ok N _) (by kernel_rfl) (fun c => opts_Lay_S N c.1)
noncomputable def ctl_Conf (N : Nat) (code0 : Int) (id1 : Int) (l2 : List ((Int) × (List (Int)))) : Option (((Int) × ((Int) × (List (Int)))) × Int) :=
 Option.bind (@ctl_hasOptions N code0) fun (v4 : Bool) =>
 bif (!v4) then
  some ((((0 : Int), ((0 : Int), ([] : List (Int)))), (9 : Int)))
 else
  Option.bind (@opts_Lay N l2) fun (v5 : ((List Int) × Int)) =>
  bif (!(decide (v5.2 = (0 : Int)))) then
   some ((((0 : Int), ((0 : Int), ([] : List (Int)))), v5.2))
  else
   some (((code0, (id1, v5.1)), (0 : Int)))
theorem ctl_Conf_S (N : Nat) (code0 : Int) (id1 : Int) (l2 : List ((Int) × (List (Int)))) : (runK Go.Proofs.Try.prog (Ev84 N) 400 51 [(.int .u8), (.int .u8), (.sl (.pair (.int .u8) (.sl (.int .u8))))] [(.pair (.int .u8) (.pair (.int .u8) (.sl (.int .u8)))), (.int .i64)] (code0, id1, l2, ())).run = ctl_Conf N code0 id1 l2 := by kernel_rfl
noncomputable def Ev85 (N : Nat) : (R : Type) → Env R := Env.addFn (Ev84 N) 51 (fun R => fnK [(.int .u8), (.int .u8), (.sl (.pair (.int .u8) (.sl (.int .u8))))] [(.pair (.int .u8) (.pair (.int .u8) (.sl (.int .u8)))), (.int .i64)] (fun c => ctl_Conf N c.1 c.2.1 c.2.2.1))
theorem Ev85_ok (N : Nat) (R : Type) : EnvOK Go.Proofs.Try.prog (Ev85 N R) := EnvOK.addFn hmx (Ev84_ok N R) (Ev84_ok N _) (by kernel_rfl) (fun c => ctl_Conf_S N c.1 c.2.1 c.2.2.1)
noncomputable def nego_Nego_opens (N : Nat) (n0 : ((Bool) × (((Int) × ((Int) × (Bool))) × ((Bool) × ((Bool) × ((Int) × ((Int) × ((Int) × (Bool)))))))) × ((Int) × (((Int) × (Int)) × ((Int) × ((List ((Int) × (List (Int)))) × ((List ((Int) × (List (Int)))) × (Int))))))) (a1 : Int) : Option ((Int) × ((Int) × (List (Int)))) :=
 bif (decide (a1 = (10 : Int))) then
  some (((5 : Int), (n0.2.2.2.1, ([] : List (Int)))))
 else
  Option.bind (@ctl_Conf N (1 : Int) n0.2.2.2.1 n0.2.2.2.2.1) fun (v3 : ((Int × (Int × (List Int))) × Int)) =>
  some ((v3.1.1, (v3.1.2.1, v3.1.2.2)))
theorem nego_Nego_opens_S (N : Nat) (n0 : ((Bool) × (((Int) × ((Int) × (Bool))) × ((Bool) × ((Bool) × ((Int) × ((Int) × ((Int) × (Bool)))))))) × ((Int) × (((Int) × (Int)) × ((Int) × ((List ((Int) × (List (Int)))) × ((List ((Int) × (List (Int)))) × (Int))))))) (a1 : Int) : (runK Go.Proofs.Try.prog (Ev85 N) 400 39 [(.pair (.pair .bool (.pair (.pair (.int .u16) (.pair (.int .u32) .bool)) (.pair .bool (.pair .bool (.pair (.int .u32) (.pair (.int .u32) (.pair (.int .u32) .bool))))))) (.pair (.int .i64) (.pair (.pair (.int .i64) (.int .i64)) (.pair (.int .u8) (.pair (.sl (.pair (.int .u8) (.sl (.int .u8)))) (.pair (.sl (.pair (.int .u8) (.sl (.int .u8)))) (.int .i64))))))), (.int .i64)] [(.pair (.int .u8) (.pair (.int .u8) (.sl (.int .u8))))] (n0, a1, ())).run = nego_Nego_opens N n0 a1 := by kernel_rfl
noncomputable def Ev86 (N : Nat) : (R : Type) → Env R := Env.addFn (Ev85 N) 39 (fun R => fnK [(.pair (.pair .bool (.pair (.pair (.int .u16) (.pair (.int .u32) .bool)) (.pair .bool (.pair .bool (.pair (.int .u32) (.pair (.int .u32) (.pair (.int .u32) .bool))))))) (.pair (.int .i64) (.pair (.pair (.int .i64) (.int .i64)) (.pair (.int .u8) (.pair (.sl (.pair (.int .u8) (.sl (.int .u8)))) (.pair (.sl (.pair (.int .u8) (.sl (.int .u8)))) (.int .i64))))))), (.int .i64)] [(.pair (.int .u8) (.pair (.int .u8) (.sl (.int .u8))))] (fun c => nego_Nego_opens N c.1 c.2.1))
theorem Ev86_ok (N : Nat) (R : Type) : EnvOK Go.Proofs.Try.prog (Ev86 N R) := EnvOK.addFn hmx (Ev85_ok N R) (Ev85_ok N _) (by kernel_rfl) (fun c => nego_Nego_opens_S N c.1 c.2.1)
noncomputable def Ev87 (N : Nat) : (R : Type) → Env R := Env.addBx (Ev86 N) [(50, 0)]
theorem Ev87_ok (N : Nat) (R : Type) : EnvOK Go.Proofs.Try.prog (Ev87 N R) := EnvOK.addBx (Ev86_ok N R) [(50, 0)]
noncomputable def ctl_Lay_4_octs_Join_L3_I : LI := ⟨33, 0, [], ⟨[(0, .ty (.sl (.sl (.int .u8)))), (3, .ty (.int .i64)), (9, .ty (.sl (.sl (.int .u8)))), (10, .ty (.int .i64)), (11, .ty (.int .i64))], []⟩, [(.exit 0, ⟨[(0, .ty (.sl (.sl (.int .u8)))), (3, .ty (.int .i64))], []⟩)]⟩
noncomputable def ctl_Lay_4_octs_Join_L3 (N : Nat) (X : (((List (List (Int))) × ((Int) × ((List (List (Int))) × ((Int) × ((Int) × Unit))))) × Unit) → Option ((((List (List (Int))) × ((Int) × Unit)) × Unit))) (parts0 : List (List (Int))) (size3 : Int) (x9 : List (List (Int))) (x10 : Int) (x11 : Int) : Option ((((List (List (Int))) × ((Int) × Unit)) × Unit)) :=
 bif (decide (x11 < x10)) then
  Option.bind (getI x9 x11) fun (v7 : (List Int)) =>
  (X ((parts0, ((Go.IntKind.wrap .i64 (size3 + (((List.length v7) : Nat) : Int))), (x9, (x10, ((Go.IntKind.wrap .i64 (x11 + (1 : Int))), @Unit.unit))))), @Unit.unit))
 else
  some (((parts0, (size3, @Unit.unit)), @Unit.unit))
noncomputable def ctl_Lay_4_octs_Join_L3_R (N : Nat) (c : (((List (List (Int))) × ((Int) × ((List (List (Int))) × ((Int) × ((Int) × Unit))))) × Unit)) : Option ((((List (List (Int))) × ((Int) × Unit)) × Unit)) := gl (fun X c => ctl_Lay_4_octs_Join_L3 N X c.1.1 c.1.2.1 c.1.2.2.1 c.1.2.2.2.1 c.1.2.2.2.2.1) N c
theorem ctl_Lay_4_octs_Join_L3_S (N : Nat) (X : (((List (List (Int))) × ((Int) × ((List (List (Int))) × ((Int) × ((Int) × Unit))))) × Unit) → Option ((((List (List (Int))) × ((Int) × Unit)) × Unit))) (parts0 : List (List (Int))) (size3 : Int) (x9 : List (List (Int))) (x10 : Int) (x11 : Int) : (roundK Go.Proofs.Try.prog (Ev87 N) 400 [20, 4, 50] ctl_Lay_4_octs_Join_L3_I (loopAt Go.Proofs.Try.prog [20, 4, 50] 3) X ((parts0, size3, x9, x10, x11, ()), ())).run = ctl_Lay_4_octs_Join_L3 N X parts0 size3 x9 x10 x11 := by kernel_rfl
noncomputable def Ev88 (N : Nat) : (R : Type) → Env R := Env.addLp (Ev87 N) [20, 4, 50] 0 3 (fun R => lpK Go.Proofs.Try.prog ctl_Lay_4_octs_Join_L3_I (fun X c => ctl_Lay_4_octs_Join_L3 N X c.1.1 c.1.2.1 c.1.2.2.1 c.1.2.2.2.1 c.1.2.2.2.2.1) N)
theorem Ev88_ok (N : Nat) (R : Type) : EnvOK Go.Proofs.Try.prog (Ev88 N R) := EnvOK.addLp (Ev87_ok N R) (by kernel_rfl) (lpK_ok (li := ctl_Lay_4_octs_Join_L3_I) (G := fun X c => ctl_Lay_4_octs_Join_L3 N X c.1.1 c.1.2.1 c.1.2.2.1 c.1.2.2.2.1 c.1.2.2.2.2.1) hmx (Ev87_ok N _) (by kernel_rfl) loopAt_sub (fun (X : CT ctl_Lay_4_octs_Join_L3_I.sh → Option (OT ctl_Lay_4_octs_Join_L3_I.outs)) (c : CT ctl_Lay_4_octs_Join_L3_I.sh) => ctl_Lay_4_octs_Join_L3_S N X c.1.1 c.1.2.1 c.1.2.2.1 c.1.2.2.2.1 c.1.2.2.2.2.1) N)
noncomputable def ctl_Lay_4_octs_Join_L9_I : LI := ⟨33, 0, [], ⟨[(6, .lit (.own 0)), (22, .ty (.sl (.sl (.int .u8)))), (23, .ty (.int .i64)), (24, .ty (.int .i64))], [.own (.int .u8) 5]⟩, [(.exit 2, ⟨[(6, .lit (.own 0))], [.own (.int .u8) 5]⟩)]⟩
noncomputable def ctl_Lay_4_octs_Join_L9 (N : Nat) (X : (((List (List (Int))) × ((Int) × ((Int) × Unit))) × ((List (Int)) × Unit)) → Option ((Unit × ((List (Int)) × Unit)))) (x22 : List (List (Int))) (x23 : Int) (x24 : Int) (h0 : List (Int)) : Option ((Unit × ((List (Int)) × Unit))) :=
 bif (decide (x24 < x23)) then
  Option.bind (getI x22 x24) fun (v6 : (List Int)) =>
  bif (roomB ((List.length h0) + (List.length v6)) 1) then
   (X ((x22, (x23, ((Go.IntKind.wrap .i64 (x24 + (1 : Int))), @Unit.unit))), ((h0 ++ v6), @Unit.unit)))
  else
   none
 else
  some ((@Unit.unit, (h0, @Unit.unit)))
noncomputable def ctl_Lay_4_octs_Join_L9_R (N : Nat) (c : (((List (List (Int))) × ((Int) × ((Int) × Unit))) × ((List (Int)) × Unit))) : Option ((Unit × ((List (Int)) × Unit))) := gl (fun X c => ctl_Lay_4_octs_Join_L9 N X c.1.1 c.1.2.1 c.1.2.2.1 c.2.1) N c
theorem ctl_Lay_4_octs_Join_L9_S (N : Nat) (X : (((List (List (Int))) × ((Int) × ((Int) × Unit))) × ((List (Int)) × Unit)) → Option ((Unit × ((List (Int)) × Unit)))) (x22 : List (List (Int))) (x23 : Int) (x24 : Int) (h0 : List (Int)) : (roundK Go.Proofs.Try.prog (Ev88 N) 400 [20, 4, 50] ctl_Lay_4_octs_Join_L9_I (loopAt Go.Proofs.Try.prog [20, 4, 50] 9) X ((x22, x23, x24, ()), (h0, ()))).run = ctl_Lay_4_octs_Join_L9 N X x22 x23 x24 h0 := by kernel_rfl
noncomputable def Ev89 (N : Nat) : (R : Type) → Env R := Env.addLp (Ev88 N) [20, 4, 50] 0 9 (fun R => lpK Go.Proofs.Try.prog ctl_Lay_4_octs_Join_L9_I (fun X c => ctl_Lay_4_octs_Join_L9 N X c.1.1 c.1.2.1 c.1.2.2.1 c.2.1) N)
theorem Ev89_ok (N : Nat) (R : Type) : EnvOK Go.Proofs.Try.prog (Ev89 N R) := EnvOK.addLp (Ev88_ok N R) (by kernel_rfl) (lpK_ok (li := ctl_Lay_4_octs_Join_L9_I) (G := fun X c => ctl_Lay_4_octs_Join_L9 N X c.1.1 c.1.2.1 c.1.2.2.1 c.2.1) hmx (Ev88_ok N _) (by kernel_rfl) loopAt_sub (fun (X : CT ctl_Lay_4_octs_Join_L9_I.sh → Option (OT ctl_Lay_4_octs_Join_L9_I.outs)) (c : CT ctl_Lay_4_octs_Join_L9_I.sh) => ctl_Lay_4_octs_Join_L9_S N X c.1.1 c.1.2.1 c.1.2.2.1 c.2.1) N)
noncomputable def ctl_Lay (N : Nat) (c0 : (Int) × ((Int) × (List (Int)))) : Option ((List (Int)) × Int) :=
 bif (decide ((4000 : Int) < (((List.length c0.2.2) : Nat) : Int))) then
  some ((([] : List (Int)), (8 : Int)))
 else
  Option.bind (@octs_Put N (Go.IntKind.wrap .u64 (Go.IntKind.wrap .i64 ((4 : Int) + (((List.length c0.2.2) : Nat) : Int)))) (2 : Int) @Bool.false) fun (v2 : ((List Int) × Int)) =>
  Option.bind (ctl_Lay_4_octs_Join_L3_R N ((([([c0.1, c0.2.1] : List (Int)), v2.1, c0.2.2] : List ((List Int))), ((0 : Int), (([([c0.1, c0.2.1] : List (Int)), v2.1, c0.2.2] : List ((List Int))), ((((List.length ([([c0.1, c0.2.1] : List (Int)), v2.1, c0.2.2] : List ((List Int)))) : Nat) : Int), ((0 : Int), @Unit.unit))))), @Unit.unit)) fun (v3 : (((List (List Int)) × (Int × Unit)) × Unit)) =>
  bif ((decide ((0 : Int) ≤ (0 : Int) ∧ (0 : Int) ≤ v3.1.2.1)) && (roomB (Int.toNat v3.1.2.1) 1)) then
   Option.bind (ctl_Lay_4_octs_Join_L9_R N ((v3.1.1, ((((List.length v3.1.1) : Nat) : Int), ((0 : Int), @Unit.unit))), ((@List.replicate Int (Int.toNat (0 : Int)) (0 : Int)), @Unit.unit))) fun (v4 : (Unit × ((List Int) × Unit))) =>
   some ((v4.2.1, (0 : Int)))
  else
   none
theorem ctl_Lay_S (N : Nat) (c0 : (Int) × ((Int) × (List (Int)))) : (runK Go.Proofs.Try.prog (Ev89 N) 400 50 [(.pair (.int .u8) (.pair (.int .u8) (.sl (.int .u8))))] [(.sl (.int .u8)), (.int .i64)] (c0, ())).run = ctl_Lay N c0 := by kernel_rfl
noncomputable def Ev90 (N : Nat) : (R : Type) → Env R := Env.addFn (Ev89 N) 50 (fun R => fnK [(.pair (.int .u8) (.pair (.int .u8) (.sl (.int .u8))))] [(.sl (.int .u8)), (.int .i64)] (fun c => ctl_Lay N c.1))
theorem Ev90_ok (N : Nat) (R : Type) : EnvOK Go.Proofs.Try.prog (Ev90 N R) := EnvOK.addFn hmx (Ev89_ok N R) (Ev89_ok N _) (by kernel_rfl) (fun c => ctl_Lay_S N c.1)
noncomputable def Ev91 (N : Nat) : (R : Type) → Env R := Env.addBx (Ev90 N) [(40, 0)]
theorem Ev91_ok (N : Nat) (R : Type) : EnvOK Go.Proofs.Try.prog (Ev91 N R) := EnvOK.addBx (Ev90_ok N R) [(40, 0)]
noncomputable def ctl_cut (N : Nat) (b0 : List (Int)) (most1 : Int) : Option (List (Int)) :=
 bif (decide (most1 ≤ (4 : Int))) then
  some (([] : List (Int)))
 else
  Option.bind (takeI b0 (@minI (((List.length b0) : Nat) : Int) (Go.IntKind.wrap .i64 (most1 - (4 : Int))))) fun (v3 : (List Int)) =>
  some (v3)
theorem ctl_cut_S (N : Nat) (b0 : List (Int)) (most1 : Int) : (runK Go.Proofs.Try.prog (Ev91 N) 400 52 [(.sl (.int .u8)), (.int .i64)] [(.sl (.int .u8))] (b0, most1, ())).run = ctl_cut N b0 most1 := by kernel_rfl
noncomputable def Ev92 (N : Nat) : (R : Type) → Env R := Env.addFn (Ev91 N) 52 (fun R => fnK [(.sl (.int .u8)), (.int .i64)] [(.sl (.int .u8))] (fun c => ctl_cut N c.1 c.2.1))
theorem Ev92_ok (N : Nat) (R : Type) : EnvOK Go.Proofs.Try.prog (Ev92 N R) := EnvOK.addFn hmx (Ev91_ok N R) (Ev91_ok N _) (by kernel_rfl) (fun c => ctl_cut_S N c.1 c.2.1)
noncomputable def ctl_Reject (N : Nat) (id0 : Int) (c1 : (Int) × ((Int) × (List (Int)))) (most2 : Int) : Option ((Int) × ((Int) × (List (Int)))) :=
 Option.bind (@ctl_Lay N (c1.1, (c1.2.1, c1.2.2))) fun (v4 : ((List Int) × Int)) =>
 Option.bind (@ctl_cut N v4.1 most2) fun (v5 : (List Int)) =>
 some (((7 : Int), (id0, v5)))
theorem ctl_Reject_S (N : Nat) (id0 : Int) (c1 : (Int) × ((Int) × (List (Int)))) (most2 : Int) : (runK Go.Proofs.Try.prog (Ev92 N) 400 40 [(.int .u8), (.pair (.int .u8) (.pair (.int .u8) (.sl (.int .u8)))), (.int .i64)] [(.pair (.int .u8) (.pair (.int .u8) (.sl (.int .u8))))] (id0, c1, most2, ())).run = ctl_Reject N id0 c1 most2 := by kernel_rfl
noncomputable def Ev93 (N : Nat) : (R : Type) → Env R := Env.addFn (Ev92 N) 40 (fun R => fnK [(.int .u8), (.pair (.int .u8) (.pair (.int .u8) (.sl (.int .u8)))), (.int .i64)] [(.pair (.int .u8) (.pair (.int .u8) (.sl (.int .u8))))] (fun c => ctl_Reject N c.1 c.2.1 c.2.2.1))
theorem Ev93_ok (N : Nat) (R : Type) : EnvOK Go.Proofs.Try.prog (Ev93 N R) := EnvOK.addFn hmx (Ev92_ok N R) (Ev92_ok N _) (by kernel_rfl) (fun c => ctl_Reject_S N c.1 c.2.1 c.2.2.1)
noncomputable def nego_Nego_done_L7_I : LI := ⟨114, 0, [], ⟨[(4, .lit (.box 0 0)), (6, .lit (.box 1 0)), (7, .lit (.box 2 0)), (8, .lit (.box 3 0)), (9, .lit (.box 4 0)), (10, .ty (.int .i64)), (11, .ty (.sl (.int .i64))), (13, .lit (.box 5 0)), (30, .ty (.sl (.int .i64))), (31, .ty (.int .i64)), (32, .ty (.int .i64))], [.box 58 (.pair (.pair .bool (.pair (.pair (.int .u16) (.pair (.int .u32) .bool)) (.pair .bool (.pair .bool (.pair (.int .u32) (.pair (.int .u32) (.pair (.int .u32) .bool))))))) (.pair (.int .i64) (.pair (.pair (.int .i64) (.int .i64)) (.pair (.int .u8) (.pair (.sl (.pair (.int .u8) (.sl (.int .u8)))) (.pair (.sl (.pair (.int .u8) (.sl (.int .u8)))) (.int .i64))))))), .box 69 (.pair (.int .u8) (.pair (.int .u8) (.sl (.int .u8)))), .box 69 (.pair (.int .u8) (.pair (.int .u8) (.sl (.int .u8)))), .box 58 (.pair (.pair .bool (.pair (.pair (.int .u16) (.pair (.int .u32) .bool)) (.pair .bool (.pair .bool (.pair (.int .u32) (.pair (.int .u32) (.pair (.int .u32) .bool))))))) (.pair (.int .i64) (.pair (.pair (.int .i64) (.int .i64)) (.pair (.int .u8) (.pair (.sl (.pair (.int .u8) (.sl (.int .u8)))) (.pair (.sl (.pair (.int .u8) (.sl (.int .u8)))) (.int .i64))))))), .boxp 63 [.own 6, .ty .bool, .ty .bool, .ty .bool, .ty .bool], .boxp 63 [.own 7, .ty .bool, .ty .bool, .ty .bool, .ty .bool], .own (.pair (.int .u8) (.pair (.int .u8) (.sl (.int .u8)))) 69, .own (.pair (.int .u8) (.pair (.int .u8) (.sl (.int .u8)))) 69]⟩, [(.exit 0, ⟨[(4, .lit (.box 0 0)), (8, .lit (.box 1 0)), (9, .lit (.box 2 0)), (10, .ty (.int .i64)), (13, .lit (.box 3 0))], [.box 58 (.pair (.pair .bool (.pair (.pair (.int .u16) (.pair (.int .u32) .bool)) (.pair .bool (.pair .bool (.pair (.int .u32) (.pair (.int .u32) (.pair (.int .u32) .bool))))))) (.pair (.int .i64) (.pair (.pair (.int .i64) (.int .i64)) (.pair (.int .u8) (.pair (.sl (.pair (.int .u8) (.sl (.int .u8)))) (.pair (.sl (.pair (.int .u8) (.sl (.int .u8)))) (.int .i64))))))), .box 58 (.pair (.pair .bool (.pair (.pair (.int .u16) (.pair (.int .u32) .bool)) (.pair .bool (.pair .bool (.pair (.int .u32) (.pair (.int .u32) (.pair (.int .u32) .bool))))))) (.pair (.int .i64) (.pair (.pair (.int .i64) (.int .i64)) (.pair (.int .u8) (.pair (.sl (.pair (.int .u8) (.sl (.int .u8)))) (.pair (.sl (.pair (.int .u8) (.sl (.int .u8)))) (.int .i64))))))), .boxp 63 [.own 4, .ty .bool, .ty .bool, .ty .bool, .ty .bool], .boxp 63 [.own 5, .ty .bool, .ty .bool, .ty .bool, .ty .bool], .own (.pair (.int .u8) (.pair (.int .u8) (.sl (.int .u8)))) 69, .own (.pair (.int .u8) (.pair (.int .u8) (.sl (.int .u8)))) 69]⟩)]⟩
noncomputable def nego_Nego_done_L7 (N : Nat) (X : (((Int) × ((List (Int)) × ((List (Int)) × ((Int) × ((Int) × Unit))))) × ((((Bool) × (((Int) × ((Int) × (Bool))) × ((Bool) × ((Bool) × ((Int) × ((Int) × ((Int) × (Bool)))))))) × ((Int) × (((Int) × (Int)) × ((Int) × ((List ((Int) × (List (Int)))) × ((List ((Int) × (List (Int)))) × (Int))))))) × (((Int) × ((Int) × (List (Int)))) × (((Int) × ((Int) × (List (Int)))) × ((((Bool) × (((Int) × ((Int) × (Bool))) × ((Bool) × ((Bool) × ((Int) × ((Int) × ((Int) × (Bool)))))))) × ((Int) × (((Int) × (Int)) × ((Int) × ((List ((Int) × (List (Int)))) × ((List ((Int) × (List (Int)))) × (Int))))))) × ((Bool) × ((Bool) × ((Bool) × ((Bool) × ((Bool) × ((Bool) × ((Bool) × ((Bool) × ((List ((Int) × ((Int) × (List (Int))))) × ((List ((Int) × ((Int) × (List (Int))))) × Unit))))))))))))))) → Option ((((Int) × Unit) × ((((Bool) × (((Int) × ((Int) × (Bool))) × ((Bool) × ((Bool) × ((Int) × ((Int) × ((Int) × (Bool)))))))) × ((Int) × (((Int) × (Int)) × ((Int) × ((List ((Int) × (List (Int)))) × ((List ((Int) × (List (Int)))) × (Int))))))) × ((((Bool) × (((Int) × ((Int) × (Bool))) × ((Bool) × ((Bool) × ((Int) × ((Int) × ((Int) × (Bool)))))))) × ((Int) × (((Int) × (Int)) × ((Int) × ((List ((Int) × (List (Int)))) × ((List ((Int) × (List (Int)))) × (Int))))))) × ((Bool) × ((Bool) × ((Bool) × ((Bool) × ((Bool) × ((Bool) × ((Bool) × ((Bool) × ((List ((Int) × ((Int) × (List (Int))))) × ((List ((Int) × ((Int) × (List (Int))))) × Unit))))))))))))))) (next10 : Int) (actions11 : List (Int)) (x30 : List (Int)) (x31 : Int) (x32 : Int) (h0 : ((Bool) × (((Int) × ((Int) × (Bool))) × ((Bool) × ((Bool) × ((Int) × ((Int) × ((Int) × (Bool)))))))) × ((Int) × (((Int) × (Int)) × ((Int) × ((List ((Int) × (List (Int)))) × ((List ((Int) × (List (Int)))) × (Int))))))) (h1 : (Int) × ((Int) × (List (Int)))) (h2 : (Int) × ((Int) × (List (Int)))) (h3 : ((Bool) × (((Int) × ((Int) × (Bool))) × ((Bool) × ((Bool) × ((Int) × ((Int) × ((Int) × (Bool)))))))) × ((Int) × (((Int) × (Int)) × ((Int) × ((List ((Int) × (List (Int)))) × ((List ((Int) × (List (Int)))) × (Int))))))) (h4 : Bool) (h5 : Bool) (h6 : Bool) (h7 : Bool) (h8 : Bool) (h9 : Bool) (h10 : Bool) (h11 : Bool) (h12 : List ((Int) × ((Int) × (List (Int))))) (h13 : List ((Int) × ((Int) × (List (Int))))) : Option ((((Int) × Unit) × ((((Bool) × (((Int) × ((Int) × (Bool))) × ((Bool) × ((Bool) × ((Int) × ((Int) × ((Int) × (Bool)))))))) × ((Int) × (((Int) × (Int)) × ((Int) × ((List ((Int) × (List (Int)))) × ((List ((Int) × (List (Int)))) × (Int))))))) × ((((Bool) × (((Int) × ((Int) × (Bool))) × ((Bool) × ((Bool) × ((Int) × ((Int) × ((Int) × (Bool)))))))) × ((Int) × (((Int) × (Int)) × ((Int) × ((List ((Int) × (List (Int)))) × ((List ((Int) × (List (Int)))) × (Int))))))) × ((Bool) × ((Bool) × ((Bool) × ((Bool) × ((Bool) × ((Bool) × ((Bool) × ((Bool) × ((List ((Int) × ((Int) × (List (Int))))) × ((List ((Int) × ((Int) × (List (Int))))) × Unit)))))))))))))) :=
 bif (decide (x32 < x31)) then
  Option.bind (getI x30 x32) fun (v21 : Int) =>
  bif (decide (v21 = (1 : Int))) then
   (X ((next10, (actions11, (x30, (x31, ((Go.IntKind.wrap .i64 (x32 + (1 : Int))), @Unit.unit))))), (((h0.1.1, ((h0.1.2.1.1, (h0.1.2.1.2.1, h0.1.2.1.2.2)), (h0.1.2.2.1, (h0.1.2.2.2.1, (h0.1.2.2.2.2.1, (h0.1.2.2.2.2.2.1, (h0.1.2.2.2.2.2.2.1, h0.1.2.2.2.2.2.2.2))))))), (h0.2.1, ((h0.2.2.1.1, h0.2.2.1.2), (h0.2.2.2.1, (h0.2.2.2.2.1, (h0.2.2.2.2.2.1, h0.2.2.2.2.2.2)))))), ((h1.1, (h1.2.1, h1.2.2)), ((h2.1, (h2.2.1, h2.2.2)), (((h3.1.1, ((h3.1.2.1.1, (h3.1.2.1.2.1, h3.1.2.1.2.2)), (h3.1.2.2.1, (h3.1.2.2.2.1, (h3.1.2.2.2.2.1, (h3.1.2.2.2.2.2.1, (h3.1.2.2.2.2.2.2.1, h3.1.2.2.2.2.2.2.2))))))), (h3.2.1, ((h3.2.2.1.1, h3.2.2.1.2), (h3.2.2.2.1, (h3.2.2.2.2.1, (h3.2.2.2.2.2.1, h3.2.2.2.2.2.2)))))), (h4, (h5, (h6, (h7, (@Bool.true, (h9, (h10, (h11, (h12, (h13, @Unit.unit))))))))))))))))
  else
   bif (decide (v21 = (2 : Int))) then
    (X ((next10, (actions11, (x30, (x31, ((Go.IntKind.wrap .i64 (x32 + (1 : Int))), @Unit.unit))))), (((h0.1.1, ((h0.1.2.1.1, (h0.1.2.1.2.1, h0.1.2.1.2.2)), (h0.1.2.2.1, (h0.1.2.2.2.1, (h0.1.2.2.2.2.1, (h0.1.2.2.2.2.2.1, (h0.1.2.2.2.2.2.2.1, h0.1.2.2.2.2.2.2.2))))))), (h0.2.1, ((h0.2.2.1.1, h0.2.2.1.2), (h0.2.2.2.1, (h0.2.2.2.2.1, (h0.2.2.2.2.2.1, h0.2.2.2.2.2.2)))))), ((h1.1, (h1.2.1, h1.2.2)), ((h2.1, (h2.2.1, h2.2.2)), (((h3.1.1, ((h3.1.2.1.1, (h3.1.2.1.2.1, h3.1.2.1.2.2)), (h3.1.2.2.1, (h3.1.2.2.2.1, (h3.1.2.2.2.2.1, (h3.1.2.2.2.2.2.1, (h3.1.2.2.2.2.2.2.1, h3.1.2.2.2.2.2.2.2))))))), (h3.2.1, ((h3.2.2.1.1, h3.2.2.1.2), (h3.2.2.2.1, (h3.2.2.2.2.1, (h3.2.2.2.2.2.1, h3.2.2.2.2.2.2)))))), (h4, (h5, (h6, (h7, (h8, (@Bool.true, (h10, (h11, (h12, (h13, @Unit.unit))))))))))))))))
   else
    bif (decide (v21 = (3 : Int))) then
     (X ((next10, (actions11, (x30, (x31, ((Go.IntKind.wrap .i64 (x32 + (1 : Int))), @Unit.unit))))), (((h0.1.1, ((h0.1.2.1.1, (h0.1.2.1.2.1, h0.1.2.1.2.2)), (h0.1.2.2.1, (h0.1.2.2.2.1, (h0.1.2.2.2.2.1, (h0.1.2.2.2.2.2.1, (h0.1.2.2.2.2.2.2.1, h0.1.2.2.2.2.2.2.2))))))), (h0.2.1, ((h0.2.2.1.1, h0.2.2.1.2), (h0.2.2.2.1, (h0.2.2.2.2.1, (h0.2.2.2.2.2.1, h0.2.2.2.2.2.2)))))), ((h1.1, (h1.2.1, h1.2.2)), ((h2.1, (h2.2.1, h2.2.2)), (((h3.1.1, ((h3.1.2.1.1, (h3.1.2.1.2.1, h3.1.2.1.2.2)), (h3.1.2.2.1, (h3.1.2.2.2.1, (h3.1.2.2.2.2.1, (h3.1.2.2.2.2.2.1, (h3.1.2.2.2.2.2.2.1, h3.1.2.2.2.2.2.2.2))))))), (h3.2.1, ((h3.2.2.1.1, h3.2.2.1.2), (h3.2.2.2.1, (h3.2.2.2.2.1, (h3.2.2.2.2.2.1, h3.2.2.2.2.2.2)))))), (h4, (h5, (h6, (h7, (h8, (h9, (@Bool.true, (h11, (h12, (h13, @Unit.unit))))))))))))))))
    else
     bif (decide (v21 = (4 : Int))) then
      (X ((next10, (actions11, (x30, (x31, ((Go.IntKind.wrap .i64 (x32 + (1 : Int))), @Unit.unit))))), (((h0.1.1, ((h0.1.2.1.1, (h0.1.2.1.2.1, h0.1.2.1.2.2)), (h0.1.2.2.1, (h0.1.2.2.2.1, (h0.1.2.2.2.2.1, (h0.1.2.2.2.2.2.1, (h0.1.2.2.2.2.2.2.1, h0.1.2.2.2.2.2.2.2))))))), (h0.2.1, ((h0.2.2.1.1, h0.2.2.1.2), (h0.2.2.2.1, (h0.2.2.2.2.1, (h0.2.2.2.2.2.1, h0.2.2.2.2.2.2)))))), ((h1.1, (h1.2.1, h1.2.2)), ((h2.1, (h2.2.1, h2.2.2)), (((h3.1.1, ((h3.1.2.1.1, (h3.1.2.1.2.1, h3.1.2.1.2.2)), (h3.1.2.2.1, (h3.1.2.2.2.1, (h3.1.2.2.2.2.1, (h3.1.2.2.2.2.2.1, (h3.1.2.2.2.2.2.2.1, h3.1.2.2.2.2.2.2.2))))))), (h3.2.1, ((h3.2.2.1.1, h3.2.2.1.2), (h3.2.2.2.1, (h3.2.2.2.2.1, (h3.2.2.2.2.2.1, h3.2.2.2.2.2.2)))))), (h4, (h5, (h6, (h7, (h8, (h9, (h10, (@Bool.true, (h12, (h13, @Unit.unit))))))))))))))))
     else
      bif (decide (v21 = (5 : Int))) then
       Option.bind (@slices_Contains_fsm_Action_fsm_Action N actions11 (10 : Int)) fun (v22 : Bool) =>
       Option.bind (@retry_Retry_Init N (h0.2.2.1.1, h0.2.2.1.2) v22) fun (v23 : (Int × Int)) =>
       (X ((next10, (actions11, (x30, (x31, ((Go.IntKind.wrap .i64 (x32 + (1 : Int))), @Unit.unit))))), (((h0.1.1, ((h0.1.2.1.1, (h0.1.2.1.2.1, h0.1.2.1.2.2)), (h0.1.2.2.1, (h0.1.2.2.2.1, (h0.1.2.2.2.2.1, (h0.1.2.2.2.2.2.1, (h0.1.2.2.2.2.2.2.1, h0.1.2.2.2.2.2.2.2))))))), (h0.2.1, ((v23.1, v23.2), (h0.2.2.2.1, (h0.2.2.2.2.1, (h0.2.2.2.2.2.1, h0.2.2.2.2.2.2)))))), ((h1.1, (h1.2.1, h1.2.2)), ((h2.1, (h2.2.1, h2.2.2)), (((h3.1.1, ((h3.1.2.1.1, (h3.1.2.1.2.1, h3.1.2.1.2.2)), (h3.1.2.2.1, (h3.1.2.2.2.1, (h3.1.2.2.2.2.1, (h3.1.2.2.2.2.2.1, (h3.1.2.2.2.2.2.2.1, h3.1.2.2.2.2.2.2.2))))))), (h3.2.1, ((h3.2.2.1.1, h3.2.2.1.2), (h3.2.2.2.1, (h3.2.2.2.2.1, (h3.2.2.2.2.2.1, h3.2.2.2.2.2.2)))))), (h4, (h5, (h6, (h7, (h8, (h9, (h10, (h11, (h12, (h13, @Unit.unit))))))))))))))))
      else
       bif (decide (v21 = (6 : Int))) then
        (X ((next10, (actions11, (x30, (x31, ((Go.IntKind.wrap .i64 (x32 + (1 : Int))), @Unit.unit))))), (((h0.1.1, ((h0.1.2.1.1, (h0.1.2.1.2.1, h0.1.2.1.2.2)), (h0.1.2.2.1, (h0.1.2.2.2.1, (h0.1.2.2.2.2.1, (h0.1.2.2.2.2.2.1, (h0.1.2.2.2.2.2.2.1, h0.1.2.2.2.2.2.2.2))))))), (h0.2.1, (((0 : Int), (3 : Int)), (h0.2.2.2.1, (h0.2.2.2.2.1, (h0.2.2.2.2.2.1, h0.2.2.2.2.2.2)))))), ((h1.1, (h1.2.1, h1.2.2)), ((h2.1, (h2.2.1, h2.2.2)), (((h3.1.1, ((h3.1.2.1.1, (h3.1.2.1.2.1, h3.1.2.1.2.2)), (h3.1.2.2.1, (h3.1.2.2.2.1, (h3.1.2.2.2.2.1, (h3.1.2.2.2.2.2.1, (h3.1.2.2.2.2.2.2.1, h3.1.2.2.2.2.2.2.2))))))), (h3.2.1, ((h3.2.2.1.1, h3.2.2.1.2), (h3.2.2.2.1, (h3.2.2.2.2.1, (h3.2.2.2.2.2.1, h3.2.2.2.2.2.2)))))), (h4, (h5, (h6, (h7, (h8, (h9, (h10, (h11, (h12, (h13, @Unit.unit))))))))))))))))
       else
        bif (decide (v21 = (7 : Int))) then
         Option.bind (@nego_Nego_asks N ((h0.1.1, ((h0.1.2.1.1, (h0.1.2.1.2.1, h0.1.2.1.2.2)), (h0.1.2.2.1, (h0.1.2.2.2.1, (h0.1.2.2.2.2.1, (h0.1.2.2.2.2.2.1, (h0.1.2.2.2.2.2.2.1, h0.1.2.2.2.2.2.2.2))))))), (h0.2.1, ((h0.2.2.1.1, h0.2.2.1.2), (h0.2.2.2.1, (h0.2.2.2.2.1, (h0.2.2.2.2.2.1, h0.2.2.2.2.2.2))))))) fun (v22 : (List (Int × (List Int)))) =>
         Option.bind (@retry_Retry_Sent N (h0.2.2.1.1, h0.2.2.1.2)) fun (v23 : (Int × Int)) =>
         Option.bind (@nego_Nego_opens N ((h0.1.1, ((h0.1.2.1.1, (h0.1.2.1.2.1, h0.1.2.1.2.2)), (h0.1.2.2.1, (h0.1.2.2.2.1, (h0.1.2.2.2.2.1, (h0.1.2.2.2.2.2.1, (h0.1.2.2.2.2.2.2.1, h0.1.2.2.2.2.2.2.2))))))), (h0.2.1, ((v23.1, v23.2), ((Go.IntKind.wrap .u8 (h0.2.2.2.1 + (1 : Int))), (v22, (h0.2.2.2.2.2.1, h0.2.2.2.2.2.2)))))) v21) fun (v24 : (Int × (Int × (List Int)))) =>
         Option.bind (@ctl_Lay N (v24.1, (v24.2.1, v24.2.2))) fun (v25 : ((List Int) × Int)) =>
         bif (decide (v25.2 = (0 : Int))) then
          bif (roomB ((List.length h13) + (List.length ([(v24.1, (v24.2.1, v24.2.2))] : List ((Int × (Int × (List Int))))))) 32) then
           (X ((next10, (actions11, (x30, (x31, ((Go.IntKind.wrap .i64 (x32 + (1 : Int))), @Unit.unit))))), (((h0.1.1, ((h0.1.2.1.1, (h0.1.2.1.2.1, h0.1.2.1.2.2)), (h0.1.2.2.1, (h0.1.2.2.2.1, (h0.1.2.2.2.2.1, (h0.1.2.2.2.2.2.1, (h0.1.2.2.2.2.2.2.1, h0.1.2.2.2.2.2.2.2))))))), (h0.2.1, ((v23.1, v23.2), ((Go.IntKind.wrap .u8 (h0.2.2.2.1 + (1 : Int))), (v22, (h0.2.2.2.2.2.1, h0.2.2.2.2.2.2)))))), ((h1.1, (h1.2.1, h1.2.2)), ((h2.1, (h2.2.1, h2.2.2)), (((h3.1.1, ((h3.1.2.1.1, (h3.1.2.1.2.1, h3.1.2.1.2.2)), (h3.1.2.2.1, (h3.1.2.2.2.1, (h3.1.2.2.2.2.1, (h3.1.2.2.2.2.2.1, (h3.1.2.2.2.2.2.2.1, h3.1.2.2.2.2.2.2.2))))))), (h3.2.1, ((h3.2.2.1.1, h3.2.2.1.2), (h3.2.2.2.1, (h3.2.2.2.2.1, (h3.2.2.2.2.2.1, h3.2.2.2.2.2.2)))))), (h4, (h5, (h6, (h7, (h8, (h9, (h10, (h11, (h12, ((h13 ++ ([(v24.1, (v24.2.1, v24.2.2))] : List ((Int × (Int × (List Int)))))), @Unit.unit))))))))))))))))
          else
           none
         else
          (X ((next10, (actions11, (x30, (x31, ((Go.IntKind.wrap .i64 (x32 + (1 : Int))), @Unit.unit))))), (((h0.1.1, ((h0.1.2.1.1, (h0.1.2.1.2.1, h0.1.2.1.2.2)), (h0.1.2.2.1, (h0.1.2.2.2.1, (h0.1.2.2.2.2.1, (h0.1.2.2.2.2.2.1, (h0.1.2.2.2.2.2.2.1, h0.1.2.2.2.2.2.2.2))))))), (h0.2.1, ((v23.1, v23.2), ((Go.IntKind.wrap .u8 (h0.2.2.2.1 + (1 : Int))), (v22, (h0.2.2.2.2.2.1, h0.2.2.2.2.2.2)))))), ((h1.1, (h1.2.1, h1.2.2)), ((h2.1, (h2.2.1, h2.2.2)), (((h3.1.1, ((h3.1.2.1.1, (h3.1.2.1.2.1, h3.1.2.1.2.2)), (h3.1.2.2.1, (h3.1.2.2.2.1, (h3.1.2.2.2.2.1, (h3.1.2.2.2.2.2.1, (h3.1.2.2.2.2.2.2.1, h3.1.2.2.2.2.2.2.2))))))), (h3.2.1, ((h3.2.2.1.1, h3.2.2.1.2), (h3.2.2.2.1, (h3.2.2.2.2.1, (h3.2.2.2.2.2.1, h3.2.2.2.2.2.2)))))), (h4, (h5, (h6, (h7, (h8, (h9, (h10, (h11, (h12, (h13, @Unit.unit))))))))))))))))
        else
         bif (decide (v21 = (10 : Int))) then
          Option.bind (@retry_Retry_Sent N (h0.2.2.1.1, h0.2.2.1.2)) fun (v22 : (Int × Int)) =>
          Option.bind (@nego_Nego_opens N ((h0.1.1, ((h0.1.2.1.1, (h0.1.2.1.2.1, h0.1.2.1.2.2)), (h0.1.2.2.1, (h0.1.2.2.2.1, (h0.1.2.2.2.2.1, (h0.1.2.2.2.2.2.1, (h0.1.2.2.2.2.2.2.1, h0.1.2.2.2.2.2.2.2))))))), (h0.2.1, ((v22.1, v22.2), ((Go.IntKind.wrap .u8 (h0.2.2.2.1 + (1 : Int))), (h0.2.2.2.2.1, (h0.2.2.2.2.2.1, h0.2.2.2.2.2.2)))))) v21) fun (v23 : (Int × (Int × (List Int)))) =>
          Option.bind (@ctl_Lay N (v23.1, (v23.2.1, v23.2.2))) fun (v24 : ((List Int) × Int)) =>
          bif (decide (v24.2 = (0 : Int))) then
           bif (roomB ((List.length h13) + (List.length ([(v23.1, (v23.2.1, v23.2.2))] : List ((Int × (Int × (List Int))))))) 32) then
            (X ((next10, (actions11, (x30, (x31, ((Go.IntKind.wrap .i64 (x32 + (1 : Int))), @Unit.unit))))), (((h0.1.1, ((h0.1.2.1.1, (h0.1.2.1.2.1, h0.1.2.1.2.2)), (h0.1.2.2.1, (h0.1.2.2.2.1, (h0.1.2.2.2.2.1, (h0.1.2.2.2.2.2.1, (h0.1.2.2.2.2.2.2.1, h0.1.2.2.2.2.2.2.2))))))), (h0.2.1, ((v22.1, v22.2), ((Go.IntKind.wrap .u8 (h0.2.2.2.1 + (1 : Int))), (h0.2.2.2.2.1, (h0.2.2.2.2.2.1, h0.2.2.2.2.2.2)))))), ((h1.1, (h1.2.1, h1.2.2)), ((h2.1, (h2.2.1, h2.2.2)), (((h3.1.1, ((h3.1.2.1.1, (h3.1.2.1.2.1, h3.1.2.1.2.2)), (h3.1.2.2.1, (h3.1.2.2.2.1, (h3.1.2.2.2.2.1, (h3.1.2.2.2.2.2.1, (h3.1.2.2.2.2.2.2.1, h3.1.2.2.2.2.2.2.2))))))), (h3.2.1, ((h3.2.2.1.1, h3.2.2.1.2), (h3.2.2.2.1, (h3.2.2.2.2.1, (h3.2.2.2.2.2.1, h3.2.2.2.2.2.2)))))), (h4, (h5, (h6, (h7, (h8, (h9, (h10, (h11, (h12, ((h13 ++ ([(v23.1, (v23.2.1, v23.2.2))] : List ((Int × (Int × (List Int)))))), @Unit.unit))))))))))))))))
           else
            none
          else
           (X ((next10, (actions11, (x30, (x31, ((Go.IntKind.wrap .i64 (x32 + (1 : Int))), @Unit.unit))))), (((h0.1.1, ((h0.1.2.1.1, (h0.1.2.1.2.1, h0.1.2.1.2.2)), (h0.1.2.2.1, (h0.1.2.2.2.1, (h0.1.2.2.2.2.1, (h0.1.2.2.2.2.2.1, (h0.1.2.2.2.2.2.2.1, h0.1.2.2.2.2.2.2.2))))))), (h0.2.1, ((v22.1, v22.2), ((Go.IntKind.wrap .u8 (h0.2.2.2.1 + (1 : Int))), (h0.2.2.2.2.1, (h0.2.2.2.2.2.1, h0.2.2.2.2.2.2)))))), ((h1.1, (h1.2.1, h1.2.2)), ((h2.1, (h2.2.1, h2.2.2)), (((h3.1.1, ((h3.1.2.1.1, (h3.1.2.1.2.1, h3.1.2.1.2.2)), (h3.1.2.2.1, (h3.1.2.2.2.1, (h3.1.2.2.2.2.1, (h3.1.2.2.2.2.2.1, (h3.1.2.2.2.2.2.2.1, h3.1.2.2.2.2.2.2.2))))))), (h3.2.1, ((h3.2.2.1.1, h3.2.2.1.2), (h3.2.2.2.1, (h3.2.2.2.2.1, (h3.2.2.2.2.2.1, h3.2.2.2.2.2.2)))))), (h4, (h5, (h6, (h7, (h8, (h9, (h10, (h11, (h12, (h13, @Unit.unit))))))))))))))))
         else
          bif (decide (v21 = (12 : Int))) then
           Option.bind (@ctl_Reject N (Go.IntKind.wrap .u8 (h0.2.2.2.1 + (1 : Int))) (h1.1, (h1.2.1, h1.2.2)) (1400 : Int)) fun (v22 : (Int × (Int × (List Int)))) =>
           Option.bind (@ctl_Lay N (v22.1, (v22.2.1, v22.2.2))) fun (v23 : ((List Int) × Int)) =>
           bif (decide (v23.2 = (0 : Int))) then
            bif (roomB ((List.length h13) + (List.length ([(v22.1, (v22.2.1, v22.2.2))] : List ((Int × (Int × (List Int))))))) 32) then
             (X ((next10, (actions11, (x30, (x31, ((Go.IntKind.wrap .i64 (x32 + (1 : Int))), @Unit.unit))))), (((h0.1.1, ((h0.1.2.1.1, (h0.1.2.1.2.1, h0.1.2.1.2.2)), (h0.1.2.2.1, (h0.1.2.2.2.1, (h0.1.2.2.2.2.1, (h0.1.2.2.2.2.2.1, (h0.1.2.2.2.2.2.2.1, h0.1.2.2.2.2.2.2.2))))))), (h0.2.1, ((h0.2.2.1.1, h0.2.2.1.2), ((Go.IntKind.wrap .u8 (h0.2.2.2.1 + (1 : Int))), (h0.2.2.2.2.1, (h0.2.2.2.2.2.1, h0.2.2.2.2.2.2)))))), ((h1.1, (h1.2.1, h1.2.2)), ((h2.1, (h2.2.1, h2.2.2)), (((h3.1.1, ((h3.1.2.1.1, (h3.1.2.1.2.1, h3.1.2.1.2.2)), (h3.1.2.2.1, (h3.1.2.2.2.1, (h3.1.2.2.2.2.1, (h3.1.2.2.2.2.2.1, (h3.1.2.2.2.2.2.2.1, h3.1.2.2.2.2.2.2.2))))))), (h3.2.1, ((h3.2.2.1.1, h3.2.2.1.2), (h3.2.2.2.1, (h3.2.2.2.2.1, (h3.2.2.2.2.2.1, h3.2.2.2.2.2.2)))))), (h4, (h5, (h6, (h7, (h8, (h9, (h10, (h11, (h12, ((h13 ++ ([(v22.1, (v22.2.1, v22.2.2))] : List ((Int × (Int × (List Int)))))), @Unit.unit))))))))))))))))
            else
             none
           else
            (X ((next10, (actions11, (x30, (x31, ((Go.IntKind.wrap .i64 (x32 + (1 : Int))), @Unit.unit))))), (((h0.1.1, ((h0.1.2.1.1, (h0.1.2.1.2.1, h0.1.2.1.2.2)), (h0.1.2.2.1, (h0.1.2.2.2.1, (h0.1.2.2.2.2.1, (h0.1.2.2.2.2.2.1, (h0.1.2.2.2.2.2.2.1, h0.1.2.2.2.2.2.2.2))))))), (h0.2.1, ((h0.2.2.1.1, h0.2.2.1.2), ((Go.IntKind.wrap .u8 (h0.2.2.2.1 + (1 : Int))), (h0.2.2.2.2.1, (h0.2.2.2.2.2.1, h0.2.2.2.2.2.2)))))), ((h1.1, (h1.2.1, h1.2.2)), ((h2.1, (h2.2.1, h2.2.2)), (((h3.1.1, ((h3.1.2.1.1, (h3.1.2.1.2.1, h3.1.2.1.2.2)), (h3.1.2.2.1, (h3.1.2.2.2.1, (h3.1.2.2.2.2.1, (h3.1.2.2.2.2.2.1, (h3.1.2.2.2.2.2.2.1, h3.1.2.2.2.2.2.2.2))))))), (h3.2.1, ((h3.2.2.1.1, h3.2.2.1.2), (h3.2.2.2.1, (h3.2.2.2.2.1, (h3.2.2.2.2.2.1, h3.2.2.2.2.2.2)))))), (h4, (h5, (h6, (h7, (h8, (h9, (h10, (h11, (h12, (h13, @Unit.unit))))))))))))))))
          else
           bif (decide (v21 = (8 : Int))) then
            bif (decide (v21 = (8 : Int))) then
             Option.bind (@ctl_Lay N (h2.1, (h2.2.1, h2.2.2))) fun (v22 : ((List Int) × Int)) =>
             bif (decide (v22.2 = (0 : Int))) then
              bif (roomB ((List.length h13) + (List.length ([(h2.1, (h2.2.1, h2.2.2))] : List ((Int × (Int × (List Int))))))) 32) then
               (X ((next10, (actions11, (x30, (x31, ((Go.IntKind.wrap .i64 (x32 + (1 : Int))), @Unit.unit))))), (((h0.1.1, ((h0.1.2.1.1, (h0.1.2.1.2.1, h0.1.2.1.2.2)), (h0.1.2.2.1, (h0.1.2.2.2.1, (h0.1.2.2.2.2.1, (h0.1.2.2.2.2.2.1, (h0.1.2.2.2.2.2.2.1, h0.1.2.2.2.2.2.2.2))))))), (h0.2.1, ((h0.2.2.1.1, h0.2.2.1.2), (h0.2.2.2.1, (h0.2.2.2.2.1, (h0.2.2.2.2.2.1, h0.2.2.2.2.2.2)))))), ((h1.1, (h1.2.1, h1.2.2)), ((h2.1, (h2.2.1, h2.2.2)), (((h3.1.1, ((h3.1.2.1.1, (h3.1.2.1.2.1, h3.1.2.1.2.2)), (h3.1.2.2.1, (h3.1.2.2.2.1, (h3.1.2.2.2.2.1, (h3.1.2.2.2.2.2.1, (h3.1.2.2.2.2.2.2.1, h3.1.2.2.2.2.2.2.2))))))), (h3.2.1, ((h3.2.2.1.1, h3.2.2.1.2), (h3.2.2.2.1, (h3.2.2.2.2.1, (h3.2.2.2.2.2.1, h3.2.2.2.2.2.2)))))), (h4, (h5, (h6, (h7, (h8, (h9, (h10, (h11, (h12, ((h13 ++ ([(h2.1, (h2.2.1, h2.2.2))] : List ((Int × (Int × (List Int)))))), @Unit.unit))))))))))))))))
              else
               none
             else
              (X ((next10, (actions11, (x30, (x31, ((Go.IntKind.wrap .i64 (x32 + (1 : Int))), @Unit.unit))))), (((h0.1.1, ((h0.1.2.1.1, (h0.1.2.1.2.1, h0.1.2.1.2.2)), (h0.1.2.2.1, (h0.1.2.2.2.1, (h0.1.2.2.2.2.1, (h0.1.2.2.2.2.2.1, (h0.1.2.2.2.2.2.2.1, h0.1.2.2.2.2.2.2.2))))))), (h0.2.1, ((h0.2.2.1.1, h0.2.2.1.2), (h0.2.2.2.1, (h0.2.2.2.2.1, (h0.2.2.2.2.2.1, h0.2.2.2.2.2.2)))))), ((h1.1, (h1.2.1, h1.2.2)), ((h2.1, (h2.2.1, h2.2.2)), (((h3.1.1, ((h3.1.2.1.1, (h3.1.2.1.2.1, h3.1.2.1.2.2)), (h3.1.2.2.1, (h3.1.2.2.2.1, (h3.1.2.2.2.2.1, (h3.1.2.2.2.2.2.1, (h3.1.2.2.2.2.2.2.1, h3.1.2.2.2.2.2.2.2))))))), (h3.2.1, ((h3.2.2.1.1, h3.2.2.1.2), (h3.2.2.2.1, (h3.2.2.2.2.1, (h3.2.2.2.2.2.1, h3.2.2.2.2.2.2)))))), (h4, (h5, (h6, (h7, (h8, (h9, (h10, (h11, (h12, (h13, @Unit.unit))))))))))))))))
            else
             bif (decide (v21 = (11 : Int))) then
              Option.bind (@ctl_Lay N ((6 : Int), (h1.2.1, ([] : List (Int))))) fun (v22 : ((List Int) × Int)) =>
              bif (decide (v22.2 = (0 : Int))) then
               bif (roomB ((List.length h13) + (List.length ([((6 : Int), (h1.2.1, ([] : List (Int))))] : List ((Int × (Int × (List Int))))))) 32) then
                (X ((next10, (actions11, (x30, (x31, ((Go.IntKind.wrap .i64 (x32 + (1 : Int))), @Unit.unit))))), (((h0.1.1, ((h0.1.2.1.1, (h0.1.2.1.2.1, h0.1.2.1.2.2)), (h0.1.2.2.1, (h0.1.2.2.2.1, (h0.1.2.2.2.2.1, (h0.1.2.2.2.2.2.1, (h0.1.2.2.2.2.2.2.1, h0.1.2.2.2.2.2.2.2))))))), (h0.2.1, ((h0.2.2.1.1, h0.2.2.1.2), (h0.2.2.2.1, (h0.2.2.2.2.1, (h0.2.2.2.2.2.1, h0.2.2.2.2.2.2)))))), ((h1.1, (h1.2.1, h1.2.2)), ((h2.1, (h2.2.1, h2.2.2)), (((h3.1.1, ((h3.1.2.1.1, (h3.1.2.1.2.1, h3.1.2.1.2.2)), (h3.1.2.2.1, (h3.1.2.2.2.1, (h3.1.2.2.2.2.1, (h3.1.2.2.2.2.2.1, (h3.1.2.2.2.2.2.2.1, h3.1.2.2.2.2.2.2.2))))))), (h3.2.1, ((h3.2.2.1.1, h3.2.2.1.2), (h3.2.2.2.1, (h3.2.2.2.2.1, (h3.2.2.2.2.2.1, h3.2.2.2.2.2.2)))))), (h4, (h5, (h6, (h7, (h8, (h9, (h10, (h11, (h12, ((h13 ++ ([((6 : Int), (h1.2.1, ([] : List (Int))))] : List ((Int × (Int × (List Int)))))), @Unit.unit))))))))))))))))
               else
                none
              else
               (X ((next10, (actions11, (x30, (x31, ((Go.IntKind.wrap .i64 (x32 + (1 : Int))), @Unit.unit))))), (((h0.1.1, ((h0.1.2.1.1, (h0.1.2.1.2.1, h0.1.2.1.2.2)), (h0.1.2.2.1, (h0.1.2.2.2.1, (h0.1.2.2.2.2.1, (h0.1.2.2.2.2.2.1, (h0.1.2.2.2.2.2.2.1, h0.1.2.2.2.2.2.2.2))))))), (h0.2.1, ((h0.2.2.1.1, h0.2.2.1.2), (h0.2.2.2.1, (h0.2.2.2.2.1, (h0.2.2.2.2.2.1, h0.2.2.2.2.2.2)))))), ((h1.1, (h1.2.1, h1.2.2)), ((h2.1, (h2.2.1, h2.2.2)), (((h3.1.1, ((h3.1.2.1.1, (h3.1.2.1.2.1, h3.1.2.1.2.2)), (h3.1.2.2.1, (h3.1.2.2.2.1, (h3.1.2.2.2.2.1, (h3.1.2.2.2.2.2.1, (h3.1.2.2.2.2.2.2.1, h3.1.2.2.2.2.2.2.2))))))), (h3.2.1, ((h3.2.2.1.1, h3.2.2.1.2), (h3.2.2.2.1, (h3.2.2.2.2.1, (h3.2.2.2.2.2.1, h3.2.2.2.2.2.2)))))), (h4, (h5, (h6, (h7, (h8, (h9, (h10, (h11, (h12, (h13, @Unit.unit))))))))))))))))
             else
              (X ((next10, (actions11, (x30, (x31, ((Go.IntKind.wrap .i64 (x32 + (1 : Int))), @Unit.unit))))), (((h0.1.1, ((h0.1.2.1.1, (h0.1.2.1.2.1, h0.1.2.1.2.2)), (h0.1.2.2.1, (h0.1.2.2.2.1, (h0.1.2.2.2.2.1, (h0.1.2.2.2.2.2.1, (h0.1.2.2.2.2.2.2.1, h0.1.2.2.2.2.2.2.2))))))), (h0.2.1, ((h0.2.2.1.1, h0.2.2.1.2), (h0.2.2.2.1, (h0.2.2.2.2.1, (h0.2.2.2.2.2.1, h0.2.2.2.2.2.2)))))), ((h1.1, (h1.2.1, h1.2.2)), ((h2.1, (h2.2.1, h2.2.2)), (((h3.1.1, ((h3.1.2.1.1, (h3.1.2.1.2.1, h3.1.2.1.2.2)), (h3.1.2.2.1, (h3.1.2.2.2.1, (h3.1.2.2.2.2.1, (h3.1.2.2.2.2.2.1, (h3.1.2.2.2.2.2.2.1, h3.1.2.2.2.2.2.2.2))))))), (h3.2.1, ((h3.2.2.1.1, h3.2.2.1.2), (h3.2.2.2.1, (h3.2.2.2.2.1, (h3.2.2.2.2.2.1, h3.2.2.2.2.2.2)))))), (h4, (h5, (h6, (h7, (h8, (h9, (h10, (h11, (h12, (h13, @Unit.unit))))))))))))))))
           else
            bif (decide (v21 = (9 : Int))) then
             Option.bind (@ctl_Lay N (h2.1, (h2.2.1, h2.2.2))) fun (v22 : ((List Int) × Int)) =>
             bif (decide (v22.2 = (0 : Int))) then
              bif (roomB ((List.length h13) + (List.length ([(h2.1, (h2.2.1, h2.2.2))] : List ((Int × (Int × (List Int))))))) 32) then
               (X ((next10, (actions11, (x30, (x31, ((Go.IntKind.wrap .i64 (x32 + (1 : Int))), @Unit.unit))))), (((h0.1.1, ((h0.1.2.1.1, (h0.1.2.1.2.1, h0.1.2.1.2.2)), (h0.1.2.2.1, (h0.1.2.2.2.1, (h0.1.2.2.2.2.1, (h0.1.2.2.2.2.2.1, (h0.1.2.2.2.2.2.2.1, h0.1.2.2.2.2.2.2.2))))))), (h0.2.1, ((h0.2.2.1.1, h0.2.2.1.2), (h0.2.2.2.1, (h0.2.2.2.2.1, (h0.2.2.2.2.2.1, h0.2.2.2.2.2.2)))))), ((h1.1, (h1.2.1, h1.2.2)), ((h2.1, (h2.2.1, h2.2.2)), (((h3.1.1, ((h3.1.2.1.1, (h3.1.2.1.2.1, h3.1.2.1.2.2)), (h3.1.2.2.1, (h3.1.2.2.2.1, (h3.1.2.2.2.2.1, (h3.1.2.2.2.2.2.1, (h3.1.2.2.2.2.2.2.1, h3.1.2.2.2.2.2.2.2))))))), (h3.2.1, ((h3.2.2.1.1, h3.2.2.1.2), (h3.2.2.2.1, (h3.2.2.2.2.1, (h3.2.2.2.2.2.1, h3.2.2.2.2.2.2)))))), (h4, (h5, (h6, (h7, (h8, (h9, (h10, (h11, (h12, ((h13 ++ ([(h2.1, (h2.2.1, h2.2.2))] : List ((Int × (Int × (List Int)))))), @Unit.unit))))))))))))))))
              else
               none
             else
              (X ((next10, (actions11, (x30, (x31, ((Go.IntKind.wrap .i64 (x32 + (1 : Int))), @Unit.unit))))), (((h0.1.1, ((h0.1.2.1.1, (h0.1.2.1.2.1, h0.1.2.1.2.2)), (h0.1.2.2.1, (h0.1.2.2.2.1, (h0.1.2.2.2.2.1, (h0.1.2.2.2.2.2.1, (h0.1.2.2.2.2.2.2.1, h0.1.2.2.2.2.2.2.2))))))), (h0.2.1, ((h0.2.2.1.1, h0.2.2.1.2), (h0.2.2.2.1, (h0.2.2.2.2.1, (h0.2.2.2.2.2.1, h0.2.2.2.2.2.2)))))), ((h1.1, (h1.2.1, h1.2.2)), ((h2.1, (h2.2.1, h2.2.2)), (((h3.1.1, ((h3.1.2.1.1, (h3.1.2.1.2.1, h3.1.2.1.2.2)), (h3.1.2.2.1, (h3.1.2.2.2.1, (h3.1.2.2.2.2.1, (h3.1.2.2.2.2.2.1, (h3.1.2.2.2.2.2.2.1, h3.1.2.2.2.2.2.2.2))))))), (h3.2.1, ((h3.2.2.1.1, h3.2.2.1.2), (h3.2.2.2.1, (h3.2.2.2.2.1, (h3.2.2.2.2.2.1, h3.2.2.2.2.2.2)))))), (h4, (h5, (h6, (h7, (h8, (h9, (h10, (h11, (h12, (h13, @Unit.unit))))))))))))))))
            else
             bif (decide (v21 = (11 : Int))) then
              Option.bind (@ctl_Lay N ((6 : Int), (h1.2.1, ([] : List (Int))))) fun (v22 : ((List Int) × Int)) =>
              bif (decide (v22.2 = (0 : Int))) then
               bif (roomB ((List.length h13) + (List.length ([((6 : Int), (h1.2.1, ([] : List (Int))))] : List ((Int × (Int × (List Int))))))) 32) then
                (X ((next10, (actions11, (x30, (x31, ((Go.IntKind.wrap .i64 (x32 + (1 : Int))), @Unit.unit))))), (((h0.1.1, ((h0.1.2.1.1, (h0.1.2.1.2.1, h0.1.2.1.2.2)), (h0.1.2.2.1, (h0.1.2.2.2.1, (h0.1.2.2.2.2.1, (h0.1.2.2.2.2.2.1, (h0.1.2.2.2.2.2.2.1, h0.1.2.2.2.2.2.2.2))))))), (h0.2.1, ((h0.2.2.1.1, h0.2.2.1.2), (h0.2.2.2.1, (h0.2.2.2.2.1, (h0.2.2.2.2.2.1, h0.2.2.2.2.2.2)))))), ((h1.1, (h1.2.1, h1.2.2)), ((h2.1, (h2.2.1, h2.2.2)), (((h3.1.1, ((h3.1.2.1.1, (h3.1.2.1.2.1, h3.1.2.1.2.2)), (h3.1.2.2.1, (h3.1.2.2.2.1, (h3.1.2.2.2.2.1, (h3.1.2.2.2.2.2.1, (h3.1.2.2.2.2.2.2.1, h3.1.2.2.2.2.2.2.2))))))), (h3.2.1, ((h3.2.2.1.1, h3.2.2.1.2), (h3.2.2.2.1, (h3.2.2.2.2.1, (h3.2.2.2.2.2.1, h3.2.2.2.2.2.2)))))), (h4, (h5, (h6, (h7, (h8, (h9, (h10, (h11, (h12, ((h13 ++ ([((6 : Int), (h1.2.1, ([] : List (Int))))] : List ((Int × (Int × (List Int)))))), @Unit.unit))))))))))))))))
               else
                none
              else
               (X ((next10, (actions11, (x30, (x31, ((Go.IntKind.wrap .i64 (x32 + (1 : Int))), @Unit.unit))))), (((h0.1.1, ((h0.1.2.1.1, (h0.1.2.1.2.1, h0.1.2.1.2.2)), (h0.1.2.2.1, (h0.1.2.2.2.1, (h0.1.2.2.2.2.1, (h0.1.2.2.2.2.2.1, (h0.1.2.2.2.2.2.2.1, h0.1.2.2.2.2.2.2.2))))))), (h0.2.1, ((h0.2.2.1.1, h0.2.2.1.2), (h0.2.2.2.1, (h0.2.2.2.2.1, (h0.2.2.2.2.2.1, h0.2.2.2.2.2.2)))))), ((h1.1, (h1.2.1, h1.2.2)), ((h2.1, (h2.2.1, h2.2.2)), (((h3.1.1, ((h3.1.2.1.1, (h3.1.2.1.2.1, h3.1.2.1.2.2)), (h3.1.2.2.1, (h3.1.2.2.2.1, (h3.1.2.2.2.2.1, (h3.1.2.2.2.2.2.1, (h3.1.2.2.2.2.2.2.1, h3.1.2.2.2.2.2.2.2))))))), (h3.2.1, ((h3.2.2.1.1, h3.2.2.1.2), (h3.2.2.2.1, (h3.2.2.2.2.1, (h3.2.2.2.2.2.1, h3.2.2.2.2.2.2)))))), (h4, (h5, (h6, (h7, (h8, (h9, (h10, (h11, (h12, (h13, @Unit.unit))))))))))))))))
             else
              (X ((next10, (actions11, (x30, (x31, ((Go.IntKind.wrap .i64 (x32 + (1 : Int))), @Unit.unit))))), (((h0.1.1, ((h0.1.2.1.1, (h0.1.2.1.2.1, h0.1.2.1.2.2)), (h0.1.2.2.1, (h0.1.2.2.2.1, (h0.1.2.2.2.2.1, (h0.1.2.2.2.2.2.1, (h0.1.2.2.2.2.2.2.1, h0.1.2.2.2.2.2.2.2))))))), (h0.2.1, ((h0.2.2.1.1, h0.2.2.1.2), (h0.2.2.2.1, (h0.2.2.2.2.1, (h0.2.2.2.2.2.1, h0.2.2.2.2.2.2)))))), ((h1.1, (h1.2.1, h1.2.2)), ((h2.1, (h2.2.1, h2.2.2)), (((h3.1.1, ((h3.1.2.1.1, (h3.1.2.1.2.1, h3.1.2.1.2.2)), (h3.1.2.2.1, (h3.1.2.2.2.1, (h3.1.2.2.2.2.1, (h3.1.2.2.2.2.2.1, (h3.1.2.2.2.2.2.2.1, h3.1.2.2.2.2.2.2.2))))))), (h3.2.1, ((h3.2.2.1.1, h3.2.2.1.2), (h3.2.2.2.1, (h3.2.2.2.2.1, (h3.2.2.2.2.2.1, h3.2.2.2.2.2.2)))))), (h4, (h5, (h6, (h7, (h8, (h9, (h10, (h11, (h12, (h13, @Unit.unit))))))))))))))))
 else
  some (((next10, @Unit.unit), (((h0.1.1, ((h0.1.2.1.1, (h0.1.2.1.2.1, h0.1.2.1.2.2)), (h0.1.2.2.1, (h0.1.2.2.2.1, (h0.1.2.2.2.2.1, (h0.1.2.2.2.2.2.1, (h0.1.2.2.2.2.2.2.1, h0.1.2.2.2.2.2.2.2))))))), (h0.2.1, ((h0.2.2.1.1, h0.2.2.1.2), (h0.2.2.2.1, (h0.2.2.2.2.1, (h0.2.2.2.2.2.1, h0.2.2.2.2.2.2)))))), (((h3.1.1, ((h3.1.2.1.1, (h3.1.2.1.2.1, h3.1.2.1.2.2)), (h3.1.2.2.1, (h3.1.2.2.2.1, (h3.1.2.2.2.2.1, (h3.1.2.2.2.2.2.1, (h3.1.2.2.2.2.2.2.1, h3.1.2.2.2.2.2.2.2))))))), (h3.2.1, ((h3.2.2.1.1, h3.2.2.1.2), (h3.2.2.2.1, (h3.2.2.2.2.1, (h3.2.2.2.2.2.1, h3.2.2.2.2.2.2)))))), (h4, (h5, (h6, (h7, (h8, (h9, (h10, (h11, (h12, (h13, @Unit.unit))))))))))))))
noncomputable def nego_Nego_done_L7_R (N : Nat) (c : (((Int) × ((List (Int)) × ((List (Int)) × ((Int) × ((Int) × Unit))))) × ((((Bool) × (((Int) × ((Int) × (Bool))) × ((Bool) × ((Bool) × ((Int) × ((Int) × ((Int) × (Bool)))))))) × ((Int) × (((Int) × (Int)) × ((Int) × ((List ((Int) × (List (Int)))) × ((List ((Int) × (List (Int)))) × (Int))))))) × (((Int) × ((Int) × (List (Int)))) × (((Int) × ((Int) × (List (Int)))) × ((((Bool) × (((Int) × ((Int) × (Bool))) × ((Bool) × ((Bool) × ((Int) × ((Int) × ((Int) × (Bool)))))))) × ((Int) × (((Int) × (Int)) × ((Int) × ((List ((Int) × (List (Int)))) × ((List ((Int) × (List (Int)))) × (Int))))))) × ((Bool) × ((Bool) × ((Bool) × ((Bool) × ((Bool) × ((Bool) × ((Bool) × ((Bool) × ((List ((Int) × ((Int) × (List (Int))))) × ((List ((Int) × ((Int) × (List (Int))))) × Unit)))))))))))))))) : Option ((((Int) × Unit) × ((((Bool) × (((Int) × ((Int) × (Bool))) × ((Bool) × ((Bool) × ((Int) × ((Int) × ((Int) × (Bool)))))))) × ((Int) × (((Int) × (Int)) × ((Int) × ((List ((Int) × (List (Int)))) × ((List ((Int) × (List (Int)))) × (Int))))))) × ((((Bool) × (((Int) × ((Int) × (Bool))) × ((Bool) × ((Bool) × ((Int) × ((Int) × ((Int) × (Bool)))))))) × ((Int) × (((Int) × (Int)) × ((Int) × ((List ((Int) × (List (Int)))) × ((List ((Int) × (List (Int)))) × (Int))))))) × ((Bool) × ((Bool) × ((Bool) × ((Bool) × ((Bool) × ((Bool) × ((Bool) × ((Bool) × ((List ((Int) × ((Int) × (List (Int))))) × ((List ((Int) × ((Int) × (List (Int))))) × Unit)))))))))))))) := gl (fun X c => nego_Nego_done_L7 N X c.1.1 c.1.2.1 c.1.2.2.1 c.1.2.2.2.1 c.1.2.2.2.2.1 c.2.1 c.2.2.1 c.2.2.2.1 c.2.2.2.2.1 c.2.2.2.2.2.1 c.2.2.2.2.2.2.1 c.2.2.2.2.2.2.2.1 c.2.2.2.2.2.2.2.2.1 c.2.2.2.2.2.2.2.2.2.1 c.2.2.2.2.2.2.2.2.2.2.1 c.2.2.2.2.2.2.2.2.2.2.2.1 c.2.2.2.2.2.2.2.2.2.2.2.2.1 c.2.2.2.2.2.2.2.2.2.2.2.2.2.1 c.2.2.2.2.2.2.2.2.2.2.2.2.2.2.1) N c
theorem nego_Nego_done_L7_S (N : Nat) (X : (((Int) × ((List (Int)) × ((List (Int)) × ((Int) × ((Int) × Unit))))) × ((((Bool) × (((Int) × ((Int) × (Bool))) × ((Bool) × ((Bool) × ((Int) × ((Int) × ((Int) × (Bool)))))))) × ((Int) × (((Int) × (Int)) × ((Int) × ((List ((Int) × (List (Int)))) × ((List ((Int) × (List (Int)))) × (Int))))))) × (((Int) × ((Int) × (List (Int)))) × (((Int) × ((Int) × (List (Int)))) × ((((Bool) × (((Int) × ((Int) × (Bool))) × ((Bool) × ((Bool) × ((Int) × ((Int) × ((Int) × (Bool)))))))) × ((Int) × (((Int) × (Int)) × ((Int) × ((List ((Int) × (List (Int)))) × ((List ((Int) × (List (Int)))) × (Int))))))) × ((Bool) × ((Bool) × ((Bool) × ((Bool) × ((Bool) × ((Bool) × ((Bool) × ((Bool) × ((List ((Int) × ((Int) × (List (Int))))) × ((List ((Int) × ((Int) × (List (Int))))) × Unit))))))))))))))) → Option ((((Int) × Unit) × ((((Bool) × (((Int) × ((Int) × (Bool))) × ((Bool) × ((Bool) × ((Int) × ((Int) × ((Int) × (Bool)))))))) × ((Int) × (((Int) × (Int)) × ((Int) × ((List ((Int) × (List (Int)))) × ((List ((Int) × (List (Int)))) × (Int))))))) × ((((Bool) × (((Int) × ((Int) × (Bool))) × ((Bool) × ((Bool) × ((Int) × ((Int) × ((Int) × (Bool)))))))) × ((Int) × (((Int) × (Int)) × ((Int) × ((List ((Int) × (List (Int)))) × ((List ((Int) × (List (Int)))) × (Int))))))) × ((Bool) × ((Bool) × ((Bool) × ((Bool) × ((Bool) × ((Bool) × ((Bool) × ((Bool) × ((List ((Int) × ((Int) × (List (Int))))) × ((List ((Int) × ((Int) × (List (Int))))) × Unit))))))))))))))) (next10 : Int) (actions11 : List (Int)) (x30 : List (Int)) (x31 : Int) (x32 : Int) (h0 : ((Bool) × (((Int) × ((Int) × (Bool))) × ((Bool) × ((Bool) × ((Int) × ((Int) × ((Int) × (Bool)))))))) × ((Int) × (((Int) × (Int)) × ((Int) × ((List ((Int) × (List (Int)))) × ((List ((Int) × (List (Int)))) × (Int))))))) (h1 : (Int) × ((Int) × (List (Int)))) (h2 : (Int) × ((Int) × (List (Int)))) (h3 : ((Bool) × (((Int) × ((Int) × (Bool))) × ((Bool) × ((Bool) × ((Int) × ((Int) × ((Int) × (Bool)))))))) × ((Int) × (((Int) × (Int)) × ((Int) × ((List ((Int) × (List (Int)))) × ((List ((Int) × (List (Int)))) × (Int))))))) (h4 : Bool) (h5 : Bool) (h6 : Bool) (h7 : Bool) (h8 : Bool) (h9 : Bool) (h10 : Bool) (h11 : Bool) (h12 : List ((Int) × ((Int) × (List (Int))))) (h13 : List ((Int) × ((Int) × (List (Int))))) : (roundK Go.Proofs.Try.prog (Ev93 N) 400 [31] nego_Nego_done_L7_I (loopAt Go.Proofs.Try.prog [31] 7) X ((next10, actions11, x30, x31, x32, ()), (h0, h1, h2, h3, h4, h5, h6, h7, h8, h9, h10, h11, h12, h13, ()))).run = nego_Nego_done_L7 N X next10 actions11 x30 x31 x32 h0 h1 h2 h3 h4 h5 h6 h7 h8 h9 h10 h11 h12 h13 := by kernel_rfl
noncomputable def Ev94 (N : Nat) : (R : Type) → Env R := Env.addLp (Ev93 N) [31] 0 7 (fun R => lpK Go.Proofs.Try.prog nego_Nego_done_L7_I (fun X c => nego_Nego_done_L7 N X c.1.1 c.1.2.1 c.1.2.2.1 c.1.2.2.2.1 c.1.2.2.2.2.1 c.2.1 c.2.2.1 c.2.2.2.1 c.2.2.2.2.1 c.2.2.2.2.2.1 c.2.2.2.2.2.2.1 c.2.2.2.2.2.2.2.1 c.2.2.2.2.2.2.2.2.1 c.2.2.2.2.2.2.2.2.2.1 c.2.2.2.2.2.2.2.2.2.2.1 c.2.2.2.2.2.2.2.2.2.2.2.1 c.2.2.2.2.2.2.2.2.2.2.2.2.1 c.2.2.2.2.2.2.2.2.2.2.2.2.2.1 c.2.2.2.2.2.2.2.2.2.2.2.2.2.2.1) N)
theorem Ev94_ok (N : Nat) (R : Type) : EnvOK Go.Proofs.Try.prog (Ev94 N R) := EnvOK.addLp (Ev93_ok N R) (by kernel_rfl) (lpK_ok (li := nego_Nego_done_L7_I) (G := fun X c => nego_Nego_done_L7 N X c.1.1 c.1.2.1 c.1.2.2.1 c.1.2.2.2.1 c.1.2.2.2.2.1 c.2.1 c.2.2.1 c.2.2.2.1 c.2.2.2.2.1 c.2.2.2.2.2.1 c.2.2.2.2.2.2.1 c.2.2.2.2.2.2.2.1 c.2.2.2.2.2.2.2.2.1 c.2.2.2.2.2.2.2.2.2.1 c.2.2.2.2.2.2.2.2.2.2.1 c.2.2.2.2.2.2.2.2.2.2.2.1 c.2.2.2.2.2.2.2.2.2.2.2.2.1 c.2.2.2.2.2.2.2.2.2.2.2.2.2.1 c.2.2.2.2.2.2.2.2.2.2.2.2.2.2.1) hmx (Ev93_ok N _) (by kernel_rfl) loopAt_sub (fun (X : CT nego_Nego_done_L7_I.sh → Option (OT nego_Nego_done_L7_I.outs)) (c : CT nego_Nego_done_L7_I.sh) => nego_Nego_done_L7_S N X c.1.1 c.1.2.1 c.1.2.2.1 c.1.2.2.2.1 c.1.2.2.2.2.1 c.2.1 c.2.2.1 c.2.2.2.1 c.2.2.2.2.1 c.2.2.2.2.2.1 c.2.2.2.2.2.2.1 c.2.2.2.2.2.2.2.1 c.2.2.2.2.2.2.2.2.1 c.2.2.2.2.2.2.2.2.2.1 c.2.2.2.2.2.2.2.2.2.2.1 c.2.2.2.2.2.2.2.2.2.2.2.1 c.2.2.2.2.2.2.2.2.2.2.2.2.1 c.2.2.2.2.2.2.2.2.2.2.2.2.2.1 c.2.2.2.2.2.2.2.2.2.2.2.2.2.2.1) N)
noncomputable def fsm_Timed (N : Nat) (s0 : Int) : Option (Bool) :=
 Option.bind (@fsm_Next N s0 (4 : Int)) fun (v2 : (Int × ((List Int) × Int))) =>
 some ((decide (v2.2.2 = (0 : Int))))
theorem fsm_Timed_S (N : Nat) (s0 : Int) : (runK Go.Proofs.Try.prog (Ev94 N) 400 41 [(.int .i64)] [.bool] (s0, ())).run = fsm_Timed N s0 := by kernel_rfl
noncomputable def Ev95 (N : Nat) : (R : Type) → Env R := Env.addFn (Ev94 N) 41 (fun R => fnK [(.int .i64)] [.bool] (fun c => fsm_Timed N c.1))
theorem Ev95_ok (N : Nat) (R : Type) : EnvOK Go.Proofs.Try.prog (Ev95 N R) := EnvOK.addFn hmx (Ev94_ok N R) (Ev94_ok N _) (by kernel_rfl) (fun c => fsm_Timed_S N c.1)
noncomputable def retry_Retry_Stop (N : Nat) (r0 : (Int) × (Int)) : Option ((Int) × (Int)) :=
 some ((r0.1, (0 : Int)))
theorem retry_Retry_Stop_S (N : Nat) (r0 : (Int) × (Int)) : (runK Go.Proofs.Try.prog (Ev95 N) 400 42 [(.pair (.int .i64) (.int .i64))] [(.pair (.int .i64) (.int .i64))] (r0, ())).run = retry_Retry_Stop N r0 := by kernel_rfl
noncomputable def Ev96 (N : Nat) : (R : Type) → Env R := Env.addFn (Ev95 N) 42 (fun R => fnK [(.pair (.int .i64) (.int .i64))] [(.pair (.int .i64) (.int .i64))] (fun c => retry_Retry_Stop N c.1))
theorem Ev96_ok (N : Nat) (R : Type) : EnvOK Go.Proofs.Try.prog (Ev96 N R) := EnvOK.addFn hmx (Ev95_ok N R) (Ev95_ok N _) (by kernel_rfl) (fun c => retry_Retry_Stop_S N c.1)
noncomputable def nego_Nego_done (N : Nat) (n0 : ((Bool) × (((Int) × ((Int) × (Bool))) × ((Bool) × ((Bool) × ((Int) × ((Int) × ((Int) × (Bool)))))))) × ((Int) × (((Int) × (Int)) × ((Int) × ((List ((Int) × (List (Int)))) × ((List ((Int) × (List (Int)))) × (Int))))))) (e1 : Int) (came2 : (Int) × ((Int) × (List (Int)))) (answer3 : (Int) × ((Int) × (List (Int)))) : Option ((((Bool) × (((Int) × ((Int) × (Bool))) × ((Bool) × ((Bool) × ((Int) × ((Int) × ((Int) × (Bool)))))))) × ((Int) × (((Int) × (Int)) × ((Int) × ((List ((Int) × (List (Int)))) × ((List ((Int) × (List (Int)))) × (Int))))))) × (List ((Int) × ((Int) × (List (Int))))) × ((Bool) × ((Bool) × ((Bool) × (Bool))))) :=
 Option.bind (@fsm_Next N n0.2.1 e1) fun (v5 : (Int × ((List Int) × Int))) =>
 bif (!(decide (v5.2.2 = (0 : Int)))) then
  some ((((n0.1.1, ((n0.1.2.1.1, (n0.1.2.1.2.1, n0.1.2.1.2.2)), (n0.1.2.2.1, (n0.1.2.2.2.1, (n0.1.2.2.2.2.1, (n0.1.2.2.2.2.2.1, (n0.1.2.2.2.2.2.2.1, n0.1.2.2.2.2.2.2.2))))))), (n0.2.1, ((n0.2.2.1.1, n0.2.2.1.2), (n0.2.2.2.1, (n0.2.2.2.2.1, (n0.2.2.2.2.2.1, n0.2.2.2.2.2.2)))))), (([] : List ((Int × (Int × (List Int))))), (@Bool.false, (@Bool.false, (@Bool.false, @Bool.false))))))
 else
  Option.bind (nego_Nego_done_L7_R N ((v5.1, (v5.2.1, (v5.2.1, ((((List.length v5.2.1) : Nat) : Int), ((0 : Int), @Unit.unit))))), (((n0.1.1, ((n0.1.2.1.1, (n0.1.2.1.2.1, n0.1.2.1.2.2)), (n0.1.2.2.1, (n0.1.2.2.2.1, (n0.1.2.2.2.2.1, (n0.1.2.2.2.2.2.1, (n0.1.2.2.2.2.2.2.1, n0.1.2.2.2.2.2.2.2))))))), (v5.1, ((n0.2.2.1.1, n0.2.2.1.2), (n0.2.2.2.1, (n0.2.2.2.2.1, (n0.2.2.2.2.2.1, n0.2.2.2.2.2.2)))))), ((came2.1, (came2.2.1, came2.2.2)), ((answer3.1, (answer3.2.1, answer3.2.2)), (((@Bool.false, (((0 : Int), ((0 : Int), @Bool.false)), (@Bool.false, (@Bool.false, ((0 : Int), ((0 : Int), ((0 : Int), @Bool.false))))))), ((0 : Int), (((0 : Int), (0 : Int)), ((0 : Int), (([] : List ((Int × (List Int)))), (([] : List ((Int × (List Int)))), (0 : Int))))))), (@Bool.false, (@Bool.false, (@Bool.false, (@Bool.false, (@Bool.false, (@Bool.false, (@Bool.false, (@Bool.false, (([] : List ((Int × (Int × (List Int))))), (([] : List ((Int × (Int × (List Int))))), @Unit.unit)))))))))))))))) fun (v6 : ((Int × Unit) × (((Bool × ((Int × (Int × Bool)) × (Bool × (Bool × (Int × (Int × (Int × Bool))))))) × (Int × ((Int × Int) × (Int × ((List (Int × (List Int))) × ((List (Int × (List Int))) × Int)))))) × (((Bool × ((Int × (Int × Bool)) × (Bool × (Bool × (Int × (Int × (Int × Bool))))))) × (Int × ((Int × Int) × (Int × ((List (Int × (List Int))) × ((List (Int × (List Int))) × Int)))))) × (Bool × (Bool × (Bool × (Bool × (Bool × (Bool × (Bool × (Bool × ((List (Int × (Int × (List Int)))) × ((List (Int × (Int × (List Int)))) × Unit)))))))))))))) =>
  Option.bind (@fsm_Timed N v6.1.1) fun (v7 : Bool) =>
  bif (!v7) then
   some ((((v6.2.1.1.1, ((v6.2.1.1.2.1.1, (v6.2.1.1.2.1.2.1, v6.2.1.1.2.1.2.2)), (v6.2.1.1.2.2.1, (v6.2.1.1.2.2.2.1, (v6.2.1.1.2.2.2.2.1, (v6.2.1.1.2.2.2.2.2.1, (v6.2.1.1.2.2.2.2.2.2.1, v6.2.1.1.2.2.2.2.2.2.2))))))), (v6.2.1.2.1, ((v6.2.1.2.2.1.1, (0 : Int)), (v6.2.1.2.2.2.1, (v6.2.1.2.2.2.2.1, (v6.2.1.2.2.2.2.2.1, v6.2.1.2.2.2.2.2.2)))))), (((v6.2.2.2.2.2.2).snd.2.2.2).snd.2.1, ((v6.2.2.2.2.2.2).snd.1, ((v6.2.2.2.2.2.2).snd.2.1, ((v6.2.2.2.2.2.2).snd.2.2.1, (v6.2.2.2.2.2.2).snd.2.2.2.1))))))
  else
   some ((((v6.2.1.1.1, ((v6.2.1.1.2.1.1, (v6.2.1.1.2.1.2.1, v6.2.1.1.2.1.2.2)), (v6.2.1.1.2.2.1, (v6.2.1.1.2.2.2.1, (v6.2.1.1.2.2.2.2.1, (v6.2.1.1.2.2.2.2.2.1, (v6.2.1.1.2.2.2.2.2.2.1, v6.2.1.1.2.2.2.2.2.2.2))))))), (v6.2.1.2.1, ((v6.2.1.2.2.1.1, v6.2.1.2.2.1.2), (v6.2.1.2.2.2.1, (v6.2.1.2.2.2.2.1, (v6.2.1.2.2.2.2.2.1, v6.2.1.2.2.2.2.2.2)))))), (((v6.2.2.2.2.2.2).snd.2.2.2).snd.2.1, ((v6.2.2.2.2.2.2).snd.1, ((v6.2.2.2.2.2.2).snd.2.1, ((v6.2.2.2.2.2.2).snd.2.2.1, (v6.2.2.2.2.2.2).snd.2.2.2.1))))))
theorem nego_Nego_done_S (N : Nat) (n0 : ((Bool) × (((Int) × ((Int) × (Bool))) × ((Bool) × ((Bool) × ((Int) × ((Int) × ((Int) × (Bool)))))))) × ((Int) × (((Int) × (Int)) × ((Int) × ((List ((Int) × (List (Int)))) × ((List ((Int) × (List (Int)))) × (Int))))))) (e1 : Int) (came2 : (Int) × ((Int) × (List (Int)))) (answer3 : (Int) × ((Int) × (List (Int)))) : (runK Go.Proofs.Try.prog (Ev96 N) 400 31 [(.pair (.pair .bool (.pair (.pair (.int .u16) (.pair (.int .u32) .bool)) (.pair .bool (.pair .bool (.pair (.int .u32) (.pair (.int .u32) (.pair (.int .u32) .bool))))))) (.pair (.int .i64) (.pair (.pair (.int .i64) (.int .i64)) (.pair (.int .u8) (.pair (.sl (.pair (.int .u8) (.sl (.int .u8)))) (.pair (.sl (.pair (.int .u8) (.sl (.int .u8)))) (.int .i64))))))), (.int .i64), (.pair (.int .u8) (.pair (.int .u8) (.sl (.int .u8)))), (.pair (.int .u8) (.pair (.int .u8) (.sl (.int .u8))))] [(.pair (.pair .bool (.pair (.pair (.int .u16) (.pair (.int .u32) .bool)) (.pair .bool (.pair .bool (.pair (.int .u32) (.pair (.int .u32) (.pair (.int .u32) .bool))))))) (.pair (.int .i64) (.pair (.pair (.int .i64) (.int .i64)) (.pair (.int .u8) (.pair (.sl (.pair (.int .u8) (.sl (.int .u8)))) (.pair (.sl (.pair (.int .u8) (.sl (.int .u8)))) (.int .i64))))))), (.pair (.sl (.pair (.int .u8) (.pair (.int .u8) (.sl (.int .u8))))) (.pair .bool (.pair .bool (.pair .bool .bool))))] (n0, e1, came2, answer3, ())).run = nego_Nego_done N n0 e1 came2 answer3 := by kernel_rfl
noncomputable def Ev97 (N : Nat) : (R : Type) → Env R := Env.addFn (Ev96 N) 31 (fun R => fnK [(.pair (.pair .bool (.pair (.pair (.int .u16) (.pair (.int .u32) .bool)) (.pair .bool (.pair .bool (.pair (.int .u32) (.pair (.int .u32) (.pair (.int .u32) .bool))))))) (.pair (.int .i64) (.pair (.pair (.int .i64) (.int .i64)) (.pair (.int .u8) (.pair (.sl (.pair (.int .u8) (.sl (.int .u8)))) (.pair (.sl (.pair (.int .u8) (.sl (.int .u8)))) (.int .i64))))))), (.int .i64), (.pair (.int .u8) (.pair (.int .u8) (.sl (.int .u8)))), (.pair (.int .u8) (.pair (.int .u8) (.sl (.int .u8))))] [(.pair (.pair .bool (.pair (.pair (.int .u16) (.pair (.int .u32) .bool)) (.pair .bool (.pair .bool (.pair (.int .u32) (.pair (.int .u32) (.pair (.int .u32) .bool))))))) (.pair (.int .i64) (.pair (.pair (.int .i64) (.int .i64)) (.pair (.int .u8) (.pair (.sl (.pair (.int .u8) (.sl (.int .u8)))) (.pair (.sl (.pair (.int .u8) (.sl (.int .u8)))) (.int .i64))))))), (.pair (.sl (.pair (.int .u8) (.pair (.int .u8) (.sl (.int .u8))))) (.pair .bool (.pair .bool (.pair .bool .bool))))] (fun c => nego_Nego_done N c.1 c.2.1 c.2.2.1 c.2.2.2.1))
theorem Ev97_ok (N : Nat) (R : Type) : EnvOK Go.Proofs.Try.prog (Ev97 N R) := EnvOK.addFn hmx (Ev96_ok N R) (Ev96_ok N _) (by kernel_rfl) (fun c => nego_Nego_done_S N c.1 c.2.1 c.2.2.1 c.2.2.2.1)
noncomputable def nego_Nego_Do (N : Nat) (n0 : ((Bool) × (((Int) × ((Int) × (Bool))) × ((Bool) × ((Bool) × ((Int) × ((Int) × ((Int) × (Bool)))))))) × ((Int) × (((Int) × (Int)) × ((Int) × ((List ((Int) × (List (Int)))) × ((List ((Int) × (List (Int)))) × (Int))))))) (e1 : Int) : Option ((((Bool) × (((Int) × ((Int) × (Bool))) × ((Bool) × ((Bool) × ((Int) × ((Int) × ((Int) × (Bool)))))))) × ((Int) × (((Int) × (Int)) × ((Int) × ((List ((Int) × (List (Int)))) × ((List ((Int) × (List (Int)))) × (Int))))))) × (List ((Int) × ((Int) × (List (Int))))) × ((Bool) × ((Bool) × ((Bool) × (Bool))))) :=
 bif (decide (e1 = (0 : Int))) then
  bif (decide (e1 = (0 : Int))) then
   Option.bind (@nego_Nego_done N ((n0.1.1, ((n0.1.2.1.1, (n0.1.2.1.2.1, n0.1.2.1.2.2)), (n0.1.2.2.1, (n0.1.2.2.2.1, (n0.1.2.2.2.2.1, (n0.1.2.2.2.2.2.1, (n0.1.2.2.2.2.2.2.1, n0.1.2.2.2.2.2.2.2))))))), (n0.2.1, ((n0.2.2.1.1, n0.2.2.1.2), (n0.2.2.2.1, (n0.2.2.2.2.1, (n0.2.2.2.2.2.1, n0.2.2.2.2.2.2)))))) e1 ((0 : Int), ((0 : Int), ([] : List (Int)))) ((0 : Int), ((0 : Int), ([] : List (Int))))) fun (v3 : (((Bool × ((Int × (Int × Bool)) × (Bool × (Bool × (Int × (Int × (Int × Bool))))))) × (Int × ((Int × Int) × (Int × ((List (Int × (List Int))) × ((List (Int × (List Int))) × Int)))))) × ((List (Int × (Int × (List Int)))) × (Bool × (Bool × (Bool × Bool)))))) =>
   some ((((v3.1.1.1, ((v3.1.1.2.1.1, (v3.1.1.2.1.2.1, v3.1.1.2.1.2.2)), (v3.1.1.2.2.1, (v3.1.1.2.2.2.1, (v3.1.1.2.2.2.2.1, (v3.1.1.2.2.2.2.2.1, (v3.1.1.2.2.2.2.2.2.1, v3.1.1.2.2.2.2.2.2.2))))))), (v3.1.2.1, ((v3.1.2.2.1.1, v3.1.2.2.1.2), (v3.1.2.2.2.1, (v3.1.2.2.2.2.1, (v3.1.2.2.2.2.2.1, v3.1.2.2.2.2.2.2)))))), (v3.2.1, (v3.2.2.1, (v3.2.2.2.1, (v3.2.2.2.2.1, v3.2.2.2.2.2))))))
  else
   some ((((n0.1.1, ((n0.1.2.1.1, (n0.1.2.1.2.1, n0.1.2.1.2.2)), (n0.1.2.2.1, (n0.1.2.2.2.1, (n0.1.2.2.2.2.1, (n0.1.2.2.2.2.2.1, (n0.1.2.2.2.2.2.2.1, n0.1.2.2.2.2.2.2.2))))))), (n0.2.1, ((n0.2.2.1.1, n0.2.2.1.2), (n0.2.2.2.1, (n0.2.2.2.2.1, (n0.2.2.2.2.2.1, n0.2.2.2.2.2.2)))))), (([] : List ((Int × (Int × (List Int))))), (@Bool.false, (@Bool.false, (@Bool.false, @Bool.false))))))
 else
  bif (decide (e1 = (1 : Int))) then
   bif (decide (e1 = (1 : Int))) then
    Option.bind (@nego_Nego_done N ((n0.1.1, ((n0.1.2.1.1, (n0.1.2.1.2.1, n0.1.2.1.2.2)), (n0.1.2.2.1, (n0.1.2.2.2.1, (n0.1.2.2.2.2.1, (n0.1.2.2.2.2.2.1, (n0.1.2.2.2.2.2.2.1, n0.1.2.2.2.2.2.2.2))))))), (n0.2.1, ((n0.2.2.1.1, n0.2.2.1.2), (n0.2.2.2.1, (n0.2.2.2.2.1, (n0.2.2.2.2.2.1, n0.2.2.2.2.2.2)))))) e1 ((0 : Int), ((0 : Int), ([] : List (Int)))) ((0 : Int), ((0 : Int), ([] : List (Int))))) fun (v3 : (((Bool × ((Int × (Int × Bool)) × (Bool × (Bool × (Int × (Int × (Int × Bool))))))) × (Int × ((Int × Int) × (Int × ((List (Int × (List Int))) × ((List (Int × (List Int))) × Int)))))) × ((List (Int × (Int × (List Int)))) × (Bool × (Bool × (Bool × Bool)))))) =>
    some ((((v3.1.1.1, ((v3.1.1.2.1.1, (v3.1.1.2.1.2.1, v3.1.1.2.1.2.2)), (v3.1.1.2.2.1, (v3.1.1.2.2.2.1, (v3.1.1.2.2.2.2.1, (v3.1.1.2.2.2.2.2.1, (v3.1.1.2.2.2.2.2.2.1, v3.1.1.2.2.2.2.2.2.2))))))), (v3.1.2.1, ((v3.1.2.2.1.1, v3.1.2.2.1.2), (v3.1.2.2.2.1, (v3.1.2.2.2.2.1, (v3.1.2.2.2.2.2.1, v3.1.2.2.2.2.2.2)))))), (v3.2.1, (v3.2.2.1, (v3.2.2.2.1, (v3.2.2.2.2.1, v3.2.2.2.2.2))))))
   else
    some ((((n0.1.1, ((n0.1.2.1.1, (n0.1.2.1.2.1, n0.1.2.1.2.2)), (n0.1.2.2.1, (n0.1.2.2.2.1, (n0.1.2.2.2.2.1, (n0.1.2.2.2.2.2.1, (n0.1.2.2.2.2.2.2.1, n0.1.2.2.2.2.2.2.2))))))), (n0.2.1, ((n0.2.2.1.1, n0.2.2.1.2), (n0.2.2.2.1, (n0.2.2.2.2.1, (n0.2.2.2.2.2.1, n0.2.2.2.2.2.2)))))), (([] : List ((Int × (Int × (List Int))))), (@Bool.false, (@Bool.false, (@Bool.false, @Bool.false))))))
  else
   bif (decide (e1 = (2 : Int))) then
    bif (decide (e1 = (2 : Int))) then
     Option.bind (@nego_Nego_done N ((n0.1.1, ((n0.1.2.1.1, (n0.1.2.1.2.1, n0.1.2.1.2.2)), (n0.1.2.2.1, (n0.1.2.2.2.1, (n0.1.2.2.2.2.1, (n0.1.2.2.2.2.2.1, (n0.1.2.2.2.2.2.2.1, n0.1.2.2.2.2.2.2.2))))))), (n0.2.1, ((n0.2.2.1.1, n0.2.2.1.2), (n0.2.2.2.1, (n0.2.2.2.2.1, (n0.2.2.2.2.2.1, n0.2.2.2.2.2.2)))))) e1 ((0 : Int), ((0 : Int), ([] : List (Int)))) ((0 : Int), ((0 : Int), ([] : List (Int))))) fun (v3 : (((Bool × ((Int × (Int × Bool)) × (Bool × (Bool × (Int × (Int × (Int × Bool))))))) × (Int × ((Int × Int) × (Int × ((List (Int × (List Int))) × ((List (Int × (List Int))) × Int)))))) × ((List (Int × (Int × (List Int)))) × (Bool × (Bool × (Bool × Bool)))))) =>
     some ((((v3.1.1.1, ((v3.1.1.2.1.1, (v3.1.1.2.1.2.1, v3.1.1.2.1.2.2)), (v3.1.1.2.2.1, (v3.1.1.2.2.2.1, (v3.1.1.2.2.2.2.1, (v3.1.1.2.2.2.2.2.1, (v3.1.1.2.2.2.2.2.2.1, v3.1.1.2.2.2.2.2.2.2))))))), (v3.1.2.1, ((v3.1.2.2.1.1, v3.1.2.2.1.2), (v3.1.2.2.2.1, (v3.1.2.2.2.2.1, (v3.1.2.2.2.2.2.1, v3.1.2.2.2.2.2.2)))))), (v3.2.1, (v3.2.2.1, (v3.2.2.2.1, (v3.2.2.2.2.1, v3.2.2.2.2.2))))))
    else
     some ((((n0.1.1, ((n0.1.2.1.1, (n0.1.2.1.2.1, n0.1.2.1.2.2)), (n0.1.2.2.1, (n0.1.2.2.2.1, (n0.1.2.2.2.2.1, (n0.1.2.2.2.2.2.1, (n0.1.2.2.2.2.2.2.1, n0.1.2.2.2.2.2.2.2))))))), (n0.2.1, ((n0.2.2.1.1, n0.2.2.1.2), (n0.2.2.2.1, (n0.2.2.2.2.1, (n0.2.2.2.2.2.1, n0.2.2.2.2.2.2)))))), (([] : List ((Int × (Int × (List Int))))), (@Bool.false, (@Bool.false, (@Bool.false, @Bool.false))))))
   else
    bif (decide (e1 = (3 : Int))) then
     Option.bind (@nego_Nego_done N ((n0.1.1, ((n0.1.2.1.1, (n0.1.2.1.2.1, n0.1.2.1.2.2)), (n0.1.2.2.1, (n0.1.2.2.2.1, (n0.1.2.2.2.2.1, (n0.1.2.2.2.2.2.1, (n0.1.2.2.2.2.2.2.1, n0.1.2.2.2.2.2.2.2))))))), (n0.2.1, ((n0.2.2.1.1, n0.2.2.1.2), (n0.2.2.2.1, (n0.2.2.2.2.1, (n0.2.2.2.2.2.1, n0.2.2.2.2.2.2)))))) e1 ((0 : Int), ((0 : Int), ([] : List (Int)))) ((0 : Int), ((0 : Int), ([] : List (Int))))) fun (v3 : (((Bool × ((Int × (Int × Bool)) × (Bool × (Bool × (Int × (Int × (Int × Bool))))))) × (Int × ((Int × Int) × (Int × ((List (Int × (List Int))) × ((List (Int × (List Int))) × Int)))))) × ((List (Int × (Int × (List Int)))) × (Bool × (Bool × (Bool × Bool)))))) =>
     some ((((v3.1.1.1, ((v3.1.1.2.1.1, (v3.1.1.2.1.2.1, v3.1.1.2.1.2.2)), (v3.1.1.2.2.1, (v3.1.1.2.2.2.1, (v3.1.1.2.2.2.2.1, (v3.1.1.2.2.2.2.2.1, (v3.1.1.2.2.2.2.2.2.1, v3.1.1.2.2.2.2.2.2.2))))))), (v3.1.2.1, ((v3.1.2.2.1.1, v3.1.2.2.1.2), (v3.1.2.2.2.1, (v3.1.2.2.2.2.1, (v3.1.2.2.2.2.2.1, v3.1.2.2.2.2.2.2)))))), (v3.2.1, (v3.2.2.1, (v3.2.2.2.1, (v3.2.2.2.2.1, v3.2.2.2.2.2))))))
    else
     some ((((n0.1.1, ((n0.1.2.1.1, (n0.1.2.1.2.1, n0.1.2.1.2.2)), (n0.1.2.2.1, (n0.1.2.2.2.1, (n0.1.2.2.2.2.1, (n0.1.2.2.2.2.2.1, (n0.1.2.2.2.2.2.2.1, n0.1.2.2.2.2.2.2.2))))))), (n0.2.1, ((n0.2.2.1.1, n0.2.2.1.2), (n0.2.2.2.1, (n0.2.2.2.2.1, (n0.2.2.2.2.2.1, n0.2.2.2.2.2.2)))))), (([] : List ((Int × (Int × (List Int))))), (@Bool.false, (@Bool.false, (@Bool.false, @Bool.false))))))
theorem nego_Nego_Do_S (N : Nat) (n0 : ((Bool) × (((Int) × ((Int) × (Bool))) × ((Bool) × ((Bool) × ((Int) × ((Int) × ((Int) × (Bool)))))))) × ((Int) × (((Int) × (Int)) × ((Int) × ((List ((Int) × (List (Int)))) × ((List ((Int) × (List (Int)))) × (Int))))))) (e1 : Int) : (runK Go.Proofs.Try.prog (Ev97 N) 400 28 [(.pair (.pair .bool (.pair (.pair (.int .u16) (.pair (.int .u32) .bool)) (.pair .bool (.pair .bool (.pair (.int .u32) (.pair (.int .u32) (.pair (.int .u32) .bool))))))) (.pair (.int .i64) (.pair (.pair (.int .i64) (.int .i64)) (.pair (.int .u8) (.pair (.sl (.pair (.int .u8) (.sl (.int .u8)))) (.pair (.sl (.pair (.int .u8) (.sl (.int .u8)))) (.int .i64))))))), (.int .i64)] [(.pair (.pair .bool (.pair (.pair (.int .u16) (.pair (.int .u32) .bool)) (.pair .bool (.pair .bool (.pair (.int .u32) (.pair (.int .u32) (.pair (.int .u32) .bool))))))) (.pair (.int .i64) (.pair (.pair (.int .i64) (.int .i64)) (.pair (.int .u8) (.pair (.sl (.pair (.int .u8) (.sl (.int .u8)))) (.pair (.sl (.pair (.int .u8) (.sl (.int .u8)))) (.int .i64))))))), (.pair (.sl (.pair (.int .u8) (.pair (.int .u8) (.sl (.int .u8))))) (.pair .bool (.pair .bool (.pair .bool .bool))))] (n0, e1, ())).run = nego_Nego_Do N n0 e1 := by kernel_rfl
noncomputable def Ev98 (N : Nat) : (R : Type) → Env R := Env.addFn (Ev97 N) 28 (fun R => fnK [(.pair (.pair .bool (.pair (.pair (.int .u16) (.pair (.int .u32) .bool)) (.pair .bool (.pair .bool (.pair (.int .u32) (.pair (.int .u32) (.pair (.int .u32) .bool))))))) (.pair (.int .i64) (.pair (.pair (.int .i64) (.int .i64)) (.pair (.int .u8) (.pair (.sl (.pair (.int .u8) (.sl (.int .u8)))) (.pair (.sl (.pair (.int .u8) (.sl (.int .u8)))) (.int .i64))))))), (.int .i64)] [(.pair (.pair .bool (.pair (.pair (.int .u16) (.pair (.int .u32) .bool)) (.pair .bool (.pair .bool (.pair (.int .u32) (.pair (.int .u32) (.pair (.int .u32) .bool))))))) (.pair (.int .i64) (.pair (.pair (.int .i64) (.int .i64)) (.pair (.int .u8) (.pair (.sl (.pair (.int .u8) (.sl (.int .u8)))) (.pair (.sl (.pair (.int .u8) (.sl (.int .u8)))) (.int .i64))))))), (.pair (.sl (.pair (.int .u8) (.pair (.int .u8) (.sl (.int .u8))))) (.pair .bool (.pair .bool (.pair .bool .bool))))] (fun c => nego_Nego_Do N c.1 c.2.1))
theorem Ev98_ok (N : Nat) (R : Type) : EnvOK Go.Proofs.Try.prog (Ev98 N R) := EnvOK.addFn hmx (Ev97_ok N R) (Ev97_ok N _) (by kernel_rfl) (fun c => nego_Nego_Do_S N c.1 c.2.1)
noncomputable def ipcp_End_Do (N : Nat) (x0 : ((Bool) × (((Int) × ((Int) × (Bool))) × ((Bool) × ((Bool) × ((Int) × ((Int) × ((Int) × (Bool)))))))) × ((Int) × (((Int) × (Int)) × ((Int) × ((List ((Int) × (List (Int)))) × ((List ((Int) × (List (Int)))) × (Int))))))) (e1 : Int) : Option ((((Bool) × (((Int) × ((Int) × (Bool))) × ((Bool) × ((Bool) × ((Int) × ((Int) × ((Int) × (Bool)))))))) × ((Int) × (((Int) × (Int)) × ((Int) × ((List ((Int) × (List (Int)))) × ((List ((Int) × (List (Int)))) × (Int))))))) × (List ((Int) × ((Int) × (List (Int))))) × ((Bool) × ((Bool) × ((Bool) × (Bool))))) :=
 Option.bind (@nego_Nego_Do N ((x0.1.1, ((x0.1.2.1.1, (x0.1.2.1.2.1, x0.1.2.1.2.2)), (x0.1.2.2.1, (x0.1.2.2.2.1, (x0.1.2.2.2.2.1, (x0.1.2.2.2.2.2.1, (x0.1.2.2.2.2.2.2.1, x0.1.2.2.2.2.2.2.2))))))), (x0.2.1, ((x0.2.2.1.1, x0.2.2.1.2), (x0.2.2.2.1, (x0.2.2.2.2.1, (x0.2.2.2.2.2.1, x0.2.2.2.2.2.2)))))) e1) fun (v3 : (((Bool × ((Int × (Int × Bool)) × (Bool × (Bool × (Int × (Int × (Int × Bool))))))) × (Int × ((Int × Int) × (Int × ((List (Int × (List Int))) × ((List (Int × (List Int))) × Int)))))) × ((List (Int × (Int × (List Int)))) × (Bool × (Bool × (Bool × Bool)))))) =>
 some ((((v3.1.1.1, ((v3.1.1.2.1.1, (v3.1.1.2.1.2.1, v3.1.1.2.1.2.2)), (v3.1.1.2.2.1, (v3.1.1.2.2.2.1, (v3.1.1.2.2.2.2.1, (v3.1.1.2.2.2.2.2.1, (v3.1.1.2.2.2.2.2.2.1, v3.1.1.2.2.2.2.2.2.2))))))), (v3.1.2.1, ((v3.1.2.2.1.1, v3.1.2.2.1.2), (v3.1.2.2.2.1, (v3.1.2.2.2.2.1, (v3.1.2.2.2.2.2.1, v3.1.2.2.2.2.2.2)))))), (v3.2.1, (v3.2.2.1, (v3.2.2.2.1, (v3.2.2.2.2.1, v3.2.2.2.2.2))))))
theorem ipcp_End_Do_S (N : Nat) (x0 : ((Bool) × (((Int) × ((Int) × (Bool))) × ((Bool) × ((Bool) × ((Int) × ((Int) × ((Int) × (Bool)))))))) × ((Int) × (((Int) × (Int)) × ((Int) × ((List ((Int) × (List (Int)))) × ((List ((Int) × (List (Int)))) × (Int))))))) (e1 : Int) : (runK Go.Proofs.Try.prog (Ev98 N) 400 17 [(.pair (.pair .bool (.pair (.pair (.int .u16) (.pair (.int .u32) .bool)) (.pair .bool (.pair .bool (.pair (.int .u32) (.pair (.int .u32) (.pair (.int .u32) .bool))))))) (.pair (.int .i64) (.pair (.pair (.int .i64) (.int .i64)) (.pair (.int .u8) (.pair (.sl (.pair (.int .u8) (.sl (.int .u8)))) (.pair (.sl (.pair (.int .u8) (.sl (.int .u8)))) (.int .i64))))))), (.int .i64)] [(.pair (.pair .bool (.pair (.pair (.int .u16) (.pair (.int .u32) .bool)) (.pair .bool (.pair .bool (.pair (.int .u32) (.pair (.int .u32) (.pair (.int .u32) .bool))))))) (.pair (.int .i64) (.pair (.pair (.int .i64) (.int .i64)) (.pair (.int .u8) (.pair (.sl (.pair (.int .u8) (.sl (.int .u8)))) (.pair (.sl (.pair (.int .u8) (.sl (.int .u8)))) (.int .i64))))))), (.pair (.sl (.pair (.int .u8) (.pair (.int .u8) (.sl (.int .u8))))) (.pair .bool (.pair .bool (.pair .bool .bool))))] (x0, e1, ())).run = ipcp_End_Do N x0 e1 := by kernel_rfl
noncomputable def Ev99 (N : Nat) : (R : Type) → Env R := Env.addFn (Ev98 N) 17 (fun R => fnK [(.pair (.pair .bool (.pair (.pair (.int .u16) (.pair (.int .u32) .bool)) (.pair .bool (.pair .bool (.pair (.int .u32) (.pair (.int .u32) (.pair (.int .u32) .bool))))))) (.pair (.int .i64) (.pair (.pair (.int .i64) (.int .i64)) (.pair (.int .u8) (.pair (.sl (.pair (.int .u8) (.sl (.int .u8)))) (.pair (.sl (.pair (.int .u8) (.sl (.int .u8)))) (.int .i64))))))), (.int .i64)] [(.pair (.pair .bool (.pair (.pair (.int .u16) (.pair (.int .u32) .bool)) (.pair .bool (.pair .bool (.pair (.int .u32) (.pair (.int .u32) (.pair (.int .u32) .bool))))))) (.pair (.int .i64) (.pair (.pair (.int .i64) (.int .i64)) (.pair (.int .u8) (.pair (.sl (.pair (.int .u8) (.sl (.int .u8)))) (.pair (.sl (.pair (.int .u8) (.sl (.int .u8)))) (.int .i64))))))), (.pair (.sl (.pair (.int .u8) (.pair (.int .u8) (.sl (.int .u8))))) (.pair .bool (.pair .bool (.pair .bool .bool))))] (fun c => ipcp_End_Do N c.1 c.2.1))
theorem Ev99_ok (N : Nat) (R : Type) : EnvOK Go.Proofs.Try.prog (Ev99 N R) := EnvOK.addFn hmx (Ev98_ok N R) (Ev98_ok N _) (by kernel_rfl) (fun c => ipcp_End_Do_S N c.1 c.2.1)
noncomputable def Ev100 (N : Nat) : (R : Type) → Env R := Env.addBx (Ev99 N) [(18, 0)]
theorem Ev100_ok (N : Nat) (R : Type) : EnvOK Go.Proofs.Try.prog (Ev100 N R) := EnvOK.addBx (Ev99_ok N R) [(18, 0)]
noncomputable def Ev101 (N : Nat) : (R : Type) → Env R := Env.addBx (Ev100 N) [(29, 0)]
theorem Ev101_ok (N : Nat) (R : Type) : EnvOK Go.Proofs.Try.prog (Ev101 N R) := EnvOK.addBx (Ev100_ok N R) [(29, 0)]
noncomputable def nego_Nego_Rules (N : Nat) (n0 : ((Bool) × (((Int) × ((Int) × (Bool))) × ((Bool) × ((Bool) × ((Int) × ((Int) × ((Int) × (Bool)))))))) × ((Int) × (((Int) × (Int)) × ((Int) × ((List ((Int) × (List (Int)))) × ((List ((Int) × (List (Int)))) × (Int))))))) : Option ((Bool) × (((Int) × ((Int) × (Bool))) × ((Bool) × ((Bool) × ((Int) × ((Int) × ((Int) × (Bool)))))))) :=
 some ((n0.1.1, ((n0.1.2.1.1, (n0.1.2.1.2.1, n0.1.2.1.2.2)), (n0.1.2.2.1, (n0.1.2.2.2.1, (n0.1.2.2.2.2.1, (n0.1.2.2.2.2.2.1, (n0.1.2.2.2.2.2.2.1, n0.1.2.2.2.2.2.2.2))))))))
theorem nego_Nego_Rules_S (N : Nat) (n0 : ((Bool) × (((Int) × ((Int) × (Bool))) × ((Bool) × ((Bool) × ((Int) × ((Int) × ((Int) × (Bool)))))))) × ((Int) × (((Int) × (Int)) × ((Int) × ((List ((Int) × (List (Int)))) × ((List ((Int) × (List (Int)))) × (Int))))))) : (runK Go.Proofs.Try.prog (Ev101 N) 400 29 [(.pair (.pair .bool (.pair (.pair (.int .u16) (.pair (.int .u32) .bool)) (.pair .bool (.pair .bool (.pair (.int .u32) (.pair (.int .u32) (.pair (.int .u32) .bool))))))) (.pair (.int .i64) (.pair (.pair (.int .i64) (.int .i64)) (.pair (.int .u8) (.pair (.sl (.pair (.int .u8) (.sl (.int .u8)))) (.pair (.sl (.pair (.int .u8) (.sl (.int .u8)))) (.int .i64)))))))] [(.pair .bool (.pair (.pair (.int .u16) (.pair (.int .u32) .bool)) (.pair .bool (.pair .bool (.pair (.int .u32) (.pair (.int .u32) (.pair (.int .u32) .bool)))))))] (n0, ())).run = nego_Nego_Rules N n0 := by kernel_rfl
noncomputable def Ev102 (N : Nat) : (R : Type) → Env R := Env.addFn (Ev101 N) 29 (fun R => fnK [(.pair (.pair .bool (.pair (.pair (.int .u16) (.pair (.int .u32) .bool)) (.pair .bool (.pair .bool (.pair (.int .u32) (.pair (.int .u32) (.pair (.int .u32) .bool))))))) (.pair (.int .i64) (.pair (.pair (.int .i64) (.int .i64)) (.pair (.int .u8) (.pair (.sl (.pair (.int .u8) (.sl (.int .u8)))) (.pair (.sl (.pair (.int .u8) (.sl (.int .u8)))) (.int .i64)))))))] [(.pair .bool (.pair (.pair (.int .u16) (.pair (.int .u32) .bool)) (.pair .bool (.pair .bool (.pair (.int .u32) (.pair (.int .u32) (.pair (.int .u32) .bool)))))))] (fun c => nego_Nego_Rules N c.1))
theorem Ev102_ok (N : Nat) (R : Type) : EnvOK Go.Proofs.Try.prog (Ev102 N R) := EnvOK.addFn hmx (Ev101_ok N R) (Ev101_ok N _) (by kernel_rfl) (fun c => nego_Nego_Rules_S N c.1)
noncomputable def ipcp_End_Side (N : Nat) (x0 : ((Bool) × (((Int) × ((Int) × (Bool))) × ((Bool) × ((Bool) × ((Int) × ((Int) × ((Int) × (Bool)))))))) × ((Int) × (((Int) × (Int)) × ((Int) × ((List ((Int) × (List (Int)))) × ((List ((Int) × (List (Int)))) × (Int))))))) : Option ((Bool) × ((Int) × ((Int) × ((Int) × (Bool))))) :=
 some ((x0.1.2.2.2.1, (x0.1.2.2.2.2.1, (x0.1.2.2.2.2.2.1, (x0.1.2.2.2.2.2.2.1, x0.1.2.2.2.2.2.2.2)))))
theorem ipcp_End_Side_S (N : Nat) (x0 : ((Bool) × (((Int) × ((Int) × (Bool))) × ((Bool) × ((Bool) × ((Int) × ((Int) × ((Int) × (Bool)))))))) × ((Int) × (((Int) × (Int)) × ((Int) × ((List ((Int) × (List (Int)))) × ((List ((Int) × (List (Int)))) × (Int))))))) : (runK Go.Proofs.Try.prog (Ev102 N) 400 18 [(.pair (.pair .bool (.pair (.pair (.int .u16) (.pair (.int .u32) .bool)) (.pair .bool (.pair .bool (.pair (.int .u32) (.pair (.int .u32) (.pair (.int .u32) .bool))))))) (.pair (.int .i64) (.pair (.pair (.int .i64) (.int .i64)) (.pair (.int .u8) (.pair (.sl (.pair (.int .u8) (.sl (.int .u8)))) (.pair (.sl (.pair (.int .u8) (.sl (.int .u8)))) (.int .i64)))))))] [(.pair .bool (.pair (.int .u32) (.pair (.int .u32) (.pair (.int .u32) .bool))))] (x0, ())).run = ipcp_End_Side N x0 := by kernel_rfl
noncomputable def Ev103 (N : Nat) : (R : Type) → Env R := Env.addFn (Ev102 N) 18 (fun R => fnK [(.pair (.pair .bool (.pair (.pair (.int .u16) (.pair (.int .u32) .bool)) (.pair .bool (.pair .bool (.pair (.int .u32) (.pair (.int .u32) (.pair (.int .u32) .bool))))))) (.pair (.int .i64) (.pair (.pair (.int .i64) (.int .i64)) (.pair (.int .u8) (.pair (.sl (.pair (.int .u8) (.sl (.int .u8)))) (.pair (.sl (.pair (.int .u8) (.sl (.int .u8)))) (.int .i64)))))))] [(.pair .bool (.pair (.int .u32) (.pair (.int .u32) (.pair (.int .u32) .bool))))] (fun c => ipcp_End_Side N c.1))
theorem Ev103_ok (N : Nat) (R : Type) : EnvOK Go.Proofs.Try.prog (Ev103 N R) := EnvOK.addFn hmx (Ev102_ok N R) (Ev102_ok N _) (by kernel_rfl) (fun c => ipcp_End_Side_S N c.1)
noncomputable def law32_alive (N : Nat) : Option (Bool) :=
 Option.bind (@ipcp_Lay N ((9 : Int), ((17 : Int), ((1 : Int), ((2 : Int), ([(120 : Int)] : List (Int))))))) fun (v1 : ((List Int) × Int)) =>
 Option.bind (@ipcp_Parse N v1.1) fun (v2 : ((Int × (Int × (Int × (Int × (List Int))))) × Int)) =>
 Option.bind (@ipcp_End_Do N ((@Bool.true, (((0 : Int), ((0 : Int), @Bool.false)), (@Bool.false, (@Bool.false, ((5 : Int), ((0 : Int), ((0 : Int), @Bool.false))))))), ((0 : Int), (((0 : Int), (0 : Int)), ((0 : Int), (([] : List ((Int × (List Int)))), (([] : List ((Int × (List Int)))), (0 : Int))))))) (2 : Int)) fun (v3 : (((Bool × ((Int × (Int × Bool)) × (Bool × (Bool × (Int × (Int × (Int × Bool))))))) × (Int × ((Int × Int) × (Int × ((List (Int × (List Int))) × ((List (Int × (List Int))) × Int)))))) × ((List (Int × (Int × (List Int)))) × (Bool × (Bool × (Bool × Bool)))))) =>
 Option.bind (@ipcp_End_Do N ((v3.1.1.1, ((v3.1.1.2.1.1, (v3.1.1.2.1.2.1, v3.1.1.2.1.2.2)), (v3.1.1.2.2.1, (v3.1.1.2.2.2.1, (v3.1.1.2.2.2.2.1, (v3.1.1.2.2.2.2.2.1, (v3.1.1.2.2.2.2.2.2.1, v3.1.1.2.2.2.2.2.2.2))))))), (v3.1.2.1, ((v3.1.2.2.1.1, v3.1.2.2.1.2), (v3.1.2.2.2.1, (v3.1.2.2.2.2.1, (v3.1.2.2.2.2.2.1, v3.1.2.2.2.2.2.2)))))) (0 : Int)) fun (v4 : (((Bool × ((Int × (Int × Bool)) × (Bool × (Bool × (Int × (Int × (Int × Bool))))))) × (Int × ((Int × Int) × (Int × ((List (Int × (List Int))) × ((List (Int × (List Int))) × Int)))))) × ((List (Int × (Int × (List Int)))) × (Bool × (Bool × (Bool × Bool)))))) =>
 bif (decide ((((List.length v1.1) : Nat) : Int) = (21 : Int))) then
  bif (@cond Bool @Bool.true (decide (v1.2 = (0 : Int))) @Bool.false) then
   bif (@cond Bool @Bool.true (decide (v2.1.2.2.2.1 = (2 : Int))) @Bool.false) then
    bif (@cond Bool @Bool.true (decide (v2.2 = (0 : Int))) @Bool.false) then
     Option.bind (takeI v1.1 (20 : Int)) fun (v5 : (List Int)) =>
     Option.bind (@ipcp_Sum N v5) fun (v6 : Int) =>
     bif (@cond Bool @Bool.true (decide (v6 = (0 : Int))) @Bool.false) then
      bif (@cond Bool @Bool.true (decide ((((List.length v4.2.1) : Nat) : Int) = (1 : Int))) @Bool.false) then
       Option.bind (getI v4.2.1 (0 : Int)) fun (v7 : (Int × (Int × (List Int)))) =>
       bif (@cond Bool @Bool.true (decide ((((List.length v7.2.2) : Nat) : Int) = (6 : Int))) @Bool.false) then
        bif (@cond Bool @Bool.true (decide (v4.1.1.2.2.2.2.1 = (5 : Int))) @Bool.false) then
         Option.bind (@ipcp_Same N (v2.1.1, (v2.1.2.1, (v2.1.2.2.1, (v2.1.2.2.2.1, v2.1.2.2.2.2)))) (v2.1.1, (v2.1.2.1, (v2.1.2.2.1, (v2.1.2.2.2.1, v2.1.2.2.2.2))))) fun (v8 : Bool) =>
         some ((@cond Bool @Bool.true v8 @Bool.false))
        else
         some (@Bool.false)
       else
        some (@Bool.false)
      else
       some (@Bool.false)
     else
      some (@Bool.false)
    else
     some (@Bool.false)
   else
    some (@Bool.false)
  else
   some (@Bool.false)
 else
  some (@Bool.false)
theorem law32_alive_S (N : Nat) : (runK Go.Proofs.Try.prog (Ev103 N) 400 5 [] [.bool] ()).run = law32_alive N  := by kernel_rfl
theorem law32_alive_C (N : Nat) (y : Bool) (h : law32_alive N  = some y) : CallsK Go.Proofs.Try.prog 5 (valA [] ()) (tupV (valR [.bool] y)) := runK_ok hmx (Ev103_ok N _) (okFn_ok (by kernel_rfl)) (by rw [law32_alive_S]; exact h)
noncomputable def Ev104 (N : Nat) : (R : Type) → Env R := Env.addFn (Ev103 N) 5 (fun R => fnK [] [.bool] (fun c => law32_alive N ))
theorem Ev104_ok (N : Nat) (R : Type) : EnvOK Go.Proofs.Try.prog (Ev104 N R) := EnvOK.addFn hmx (Ev103_ok N R) (Ev103_ok N _) (by kernel_rfl) (fun c => law32_alive_S N )
noncomputable def Ev105 (N : Nat) : (R : Type) → Env R := Env.addBx (Ev104 N) [(7, 0)]
theorem Ev105_ok (N : Nat) (R : Type) : EnvOK Go.Proofs.Try.prog (Ev105 N R) := EnvOK.addBx (Ev104_ok N R) [(7, 0)]
noncomputable def law32_theirs (N : Nat) (d0 : (Int) × ((Int) × ((Int) × ((Int) × (List (Int)))))) : Option ((Int) × ((Int) × ((Int) × ((Int) × (List (Int)))))) :=
 some ((d0.1, (d0.2.1, (d0.2.2.1, (d0.2.2.2.1, d0.2.2.2.2)))))
theorem law32_theirs_S (N : Nat) (d0 : (Int) × ((Int) × ((Int) × ((Int) × (List (Int)))))) : (runK Go.Proofs.Try.prog (Ev105 N) 400 7 [(.pair (.int .u8) (.pair (.int .u8) (.pair (.int .u32) (.pair (.int .u32) (.sl (.int .u8))))))] [(.pair (.int .u8) (.pair (.int .u8) (.pair (.int .u32) (.pair (.int .u32) (.sl (.int .u8))))))] (d0, ())).run = law32_theirs N d0 := by kernel_rfl
theorem law32_theirs_C (N : Nat) (d0 : (Int) × ((Int) × ((Int) × ((Int) × (List (Int)))))) (y : (Int) × ((Int) × ((Int) × ((Int) × (List (Int)))))) (h : law32_theirs N d0 = some y) : CallsK Go.Proofs.Try.prog 7 (valA [(.pair (.int .u8) (.pair (.int .u8) (.pair (.int .u32) (.pair (.int .u32) (.sl (.int .u8))))))] (d0, ())) (tupV (valR [(.pair (.int .u8) (.pair (.int .u8) (.pair (.int .u32) (.pair (.int .u32) (.sl (.int .u8))))))] y)) := runK_ok hmx (Ev105_ok N _) (okFn_ok (by kernel_rfl)) (by rw [law32_theirs_S]; exact h)
noncomputable def Ev106 (N : Nat) : (R : Type) → Env R := Env.addFn (Ev105 N) 7 (fun R => fnK [(.pair (.int .u8) (.pair (.int .u8) (.pair (.int .u32) (.pair (.int .u32) (.sl (.int .u8))))))] [(.pair (.int .u8) (.pair (.int .u8) (.pair (.int .u32) (.pair (.int .u32) (.sl (.int .u8))))))] (fun c => law32_theirs N c.1))
theorem Ev106_ok (N : Nat) (R : Type) : EnvOK Go.Proofs.Try.prog (Ev106 N R) := EnvOK.addFn hmx (Ev105_ok N R) (Ev105_ok N _) (by kernel_rfl) (fun c => law32_theirs_S N c.1)
noncomputable def Ev107 (N : Nat) : (R : Type) → Env R := Env.addMv (Ev106 N) [(3, 7)]
theorem Ev107_ok (N : Nat) (R : Type) : EnvOK Go.Proofs.Try.prog (Ev107 N R) := EnvOK.addMv (Ev106_ok N R) [(3, 7)]
noncomputable def Ev108 (N : Nat) : (R : Type) → Env R := Env.addBx (Ev107 N) [(3, 0)]
theorem Ev108_ok (N : Nat) (R : Type) : EnvOK Go.Proofs.Try.prog (Ev108 N R) := EnvOK.addBx (Ev107_ok N R) [(3, 0)]
noncomputable def law32_IpcpDatagrams (N : Nat) (d0 : (Int) × ((Int) × ((Int) × ((Int) × (List (Int)))))) (b1 : List (Int)) : Option (Bool) :=
 bif (decide ((2000 : Int) < (((List.length d0.2.2.2.2) : Nat) : Int))) then
  Option.bind (@law32_alive N) fun (v3 : Bool) =>
  some (v3)
 else
  bif (@cond Bool @Bool.false @Bool.true (decide ((2000 : Int) < (((List.length b1) : Nat) : Int)))) then
   Option.bind (@law32_alive N) fun (v3 : Bool) =>
   some (v3)
  else
   Option.bind (@ipcp_Lay N (d0.1, (d0.2.1, (d0.2.2.1, (d0.2.2.2.1, d0.2.2.2.2))))) fun (v3 : ((List Int) × Int)) =>
   Option.bind (@ref32_Lay N (d0.1, (d0.2.1, (d0.2.2.1, (d0.2.2.2.1, d0.2.2.2.2))))) fun (v4 : ((List Int) × Int)) =>
   Option.bind (@ipcp_Parse N b1) fun (v5 : ((Int × (Int × (Int × (Int × (List Int))))) × Int)) =>
   Option.bind (@ref32_Parse N b1) fun (v6 : ((Int × (Int × (Int × (Int × (List Int))))) × Int)) =>
   Option.bind (@ref01_Same N v3.1 v4.1) fun (v7 : Bool) =>
   bif v7 then
    bif (@cond Bool @Bool.true (decide (v3.2 = v4.2)) @Bool.false) then
     Option.bind (@ipcp_Same N (v5.1.1, (v5.1.2.1, (v5.1.2.2.1, (v5.1.2.2.2.1, v5.1.2.2.2.2)))) (v6.1.1, (v6.1.2.1, (v6.1.2.2.1, (v6.1.2.2.2.1, v6.1.2.2.2.2))))) fun (v8 : Bool) =>
     bif (@cond Bool @Bool.true v8 @Bool.false) then
      bif (@cond Bool @Bool.true (decide (v5.2 = v6.2)) @Bool.false) then
       Option.bind (@ipcp_Sum N b1) fun (v9 : Int) =>
       Option.bind (@ref32_Sum N b1) fun (v10 : Int) =>
       bif (@cond Bool @Bool.true (decide (v9 = v10)) @Bool.false) then
        Option.bind (@ipcp_Same N (v5.1.1, (v5.1.2.1, (v5.1.2.2.1, (v5.1.2.2.2.1, v5.1.2.2.2.2)))) (d0.1, (d0.2.1, (d0.2.2.1, (d0.2.2.2.1, d0.2.2.2.2))))) fun (v11 : Bool) =>
        Option.bind (@ref32_Same N (v6.1.1, (v6.1.2.1, (v6.1.2.2.1, (v6.1.2.2.2.1, v6.1.2.2.2.2)))) (d0.1, (d0.2.1, (d0.2.2.1, (d0.2.2.2.1, d0.2.2.2.2))))) fun (v12 : Bool) =>
        bif (@cond Bool @Bool.true (@BEq.beq Bool (@instBEqOfDecidableEq Bool @instDecidableEqBool) v11 v12) @Bool.false) then
         Option.bind (@law32_alive N) fun (v13 : Bool) =>
         some ((@cond Bool @Bool.true v13 @Bool.false))
        else
         some (@Bool.false)
       else
        some (@Bool.false)
      else
       some (@Bool.false)
     else
      some (@Bool.false)
    else
     some (@Bool.false)
   else
    some (@Bool.false)
theorem law32_IpcpDatagrams_S (N : Nat) (d0 : (Int) × ((Int) × ((Int) × ((Int) × (List (Int)))))) (b1 : List (Int)) : (runK Go.Proofs.Try.prog (Ev108 N) 400 3 [(.pair (.int .u8) (.pair (.int .u8) (.pair (.int .u32) (.pair (.int .u32) (.sl (.int .u8)))))), (.sl (.int .u8))] [.bool] (d0, b1, ())).run = law32_IpcpDatagrams N d0 b1 := by kernel_rfl
theorem law32_IpcpDatagrams_C (N : Nat) (d0 : (Int) × ((Int) × ((Int) × ((Int) × (List (Int)))))) (b1 : List (Int)) (y : Bool) (h : law32_IpcpDatagrams N d0 b1 = some y) : CallsK Go.Proofs.Try.prog 3 (valA [(.pair (.int .u8) (.pair (.int .u8) (.pair (.int .u32) (.pair (.int .u32) (.sl (.int .u8)))))), (.sl (.int .u8))] (d0, b1, ())) (tupV (valR [.bool] y)) := runK_ok hmx (Ev108_ok N _) (okFn_ok (by kernel_rfl)) (by rw [law32_IpcpDatagrams_S]; exact h)
noncomputable def Ev109 (N : Nat) : (R : Type) → Env R := Env.addFn (Ev108 N) 3 (fun R => fnK [(.pair (.int .u8) (.pair (.int .u8) (.pair (.int .u32) (.pair (.int .u32) (.sl (.int .u8)))))), (.sl (.int .u8))] [.bool] (fun c => law32_IpcpDatagrams N c.1 c.2.1))
theorem Ev109_ok (N : Nat) (R : Type) : EnvOK Go.Proofs.Try.prog (Ev109 N R) := EnvOK.addFn hmx (Ev108_ok N R) (Ev108_ok N _) (by kernel_rfl) (fun c => law32_IpcpDatagrams_S N c.1 c.2.1)
noncomputable def Ev110 (N : Nat) : (R : Type) → Env R := Env.addBx (Ev109 N) [(4, 0)]
theorem Ev110_ok (N : Nat) (R : Type) : EnvOK Go.Proofs.Try.prog (Ev110 N R) := EnvOK.addBx (Ev109_ok N R) [(4, 0)]
noncomputable def law32_IpcpBack (N : Nat) (d0 : (Int) × ((Int) × ((Int) × ((Int) × (List (Int)))))) (behind1 : List (Int)) (x2 : Int) : Option (Bool) :=
 bif (decide ((1480 : Int) < (((List.length d0.2.2.2.2) : Nat) : Int))) then
  Option.bind (@law32_alive N) fun (v4 : Bool) =>
  some (v4)
 else
  bif (@cond Bool @Bool.false @Bool.true (decide ((200 : Int) < (((List.length behind1) : Nat) : Int)))) then
   Option.bind (@law32_alive N) fun (v4 : Bool) =>
   some (v4)
  else
   Option.bind (@ipcp_Lay N (d0.1, (d0.2.1, (d0.2.2.1, (d0.2.2.2.1, d0.2.2.2.2))))) fun (v4 : ((List Int) × Int)) =>
   bif (roomB (List.length v4.1) 1) then
    bif (roomB ((List.length v4.1) + (List.length behind1)) 1) then
     Option.bind (@ipcp_Parse N (v4.1 ++ behind1)) fun (v5 : ((Int × (Int × (Int × (Int × (List Int))))) × Int)) =>
     bif (!(decide (v4.2 = (0 : Int)))) then
      some (@Bool.false)
     else
      Option.bind (@ipcp_Same N (v5.1.1, (v5.1.2.1, (v5.1.2.2.1, (v5.1.2.2.2.1, v5.1.2.2.2.2)))) (d0.1, (d0.2.1, (d0.2.2.1, (d0.2.2.2.1, d0.2.2.2.2))))) fun (v6 : Bool) =>
      bif (@cond Bool @Bool.false @Bool.true (!v6)) then
       some (@Bool.false)
      else
       bif (@cond Bool @Bool.false @Bool.true (!(decide (v5.2 = (0 : Int))))) then
        some (@Bool.false)
       else
        Option.bind (takeI v4.1 (20 : Int)) fun (v7 : (List Int)) =>
        Option.bind (@ipcp_Sum N v7) fun (v8 : Int) =>
        bif (@cond Bool @Bool.false @Bool.true (!(decide (v8 = (0 : Int))))) then
         some (@Bool.false)
        else
         bif (roomB (List.length v4.1) 1) then
          bif (decide ((0 : Int) ≤ (Go.IntKind.wrap .i64 (@Int.tdiv (@Int.tmod (Go.IntKind.wrap .i64 x2) (160 : Int)) (8 : Int))) ∧ (Go.IntKind.wrap .i64 (@Int.tdiv (@Int.tmod (Go.IntKind.wrap .i64 x2) (160 : Int)) (8 : Int))) < (((List.length v4.1) : Nat) : Int))) then
           Option.bind (@GetElem?.getElem? (List Int) Nat Int (fun (as9 : (List Int)) => (fun (i10 : Nat) => (@LT.lt Nat @instLTNat i10 (List.length as9)))) (@List.instGetElem?NatLtLength Int) v4.1 (Int.toNat (Go.IntKind.wrap .i64 (@Int.tdiv (@Int.tmod (Go.IntKind.wrap .i64 x2) (160 : Int)) (8 : Int))))) fun (v9 : Int) =>
           bif (decide ((0 : Int) ≤ (@Int.tmod (@Int.tmod (Go.IntKind.wrap .i64 x2) (160 : Int)) (8 : Int)))) then
            bif (decide ((0 : Int) ≤ (Go.IntKind.wrap .i64 (@Int.tdiv (@Int.tmod (Go.IntKind.wrap .i64 x2) (160 : Int)) (8 : Int))) ∧ (Go.IntKind.wrap .i64 (@Int.tdiv (@Int.tmod (Go.IntKind.wrap .i64 x2) (160 : Int)) (8 : Int))) < (((List.length v4.1) : Nat) : Int))) then
             Option.bind (@GetElem?.getElem? (List Int) Nat Int (fun (as10 : (List Int)) => (fun (i11 : Nat) => (@LT.lt Nat @instLTNat i11 (List.length as10)))) (@List.instGetElem?NatLtLength Int) v4.1 (Int.toNat (Go.IntKind.wrap .i64 (@Int.tdiv (@Int.tmod (Go.IntKind.wrap .i64 x2) (160 : Int)) (8 : Int))))) fun (v10 : Int) =>
             Option.bind (@ipcp_Parse N (@List.set Int v4.1 (Int.toNat (Go.IntKind.wrap .i64 (@Int.tdiv (@Int.tmod (Go.IntKind.wrap .i64 x2) (160 : Int)) (8 : Int)))) (@Go.bits @Go.BinOp.xor @Go.IntKind.u8 v9 (Go.IntKind.wrap .u8 ((1 : Int) * (@HPow.hPow Int Nat Int (@instHPow Int Nat (@instPowNat Int @Int.instNatPow)) (2 : Int) (@Min.min Nat @instMinNat (Int.toNat (@Int.tmod (@Int.tmod (Go.IntKind.wrap .i64 x2) (160 : Int)) (8 : Int))) (@Go.IntKind.bits @Go.IntKind.u8)))))))) fun (v11 : ((Int × (Int × (Int × (Int × (List Int))))) × Int)) =>
             bif (!(decide (v11.2 = (0 : Int)))) then
              Option.bind (@law32_alive N) fun (v12 : Bool) =>
              some ((@cond Bool @Bool.true v12 @Bool.false))
             else
              some (@Bool.false)
            else
             none
           else
            none
          else
           none
         else
          none
    else
     none
   else
    none
theorem law32_IpcpBack_S (N : Nat) (d0 : (Int) × ((Int) × ((Int) × ((Int) × (List (Int)))))) (behind1 : List (Int)) (x2 : Int) : (runK Go.Proofs.Try.prog (Ev110 N) 400 4 [(.pair (.int .u8) (.pair (.int .u8) (.pair (.int .u32) (.pair (.int .u32) (.sl (.int .u8)))))), (.sl (.int .u8)), (.int .u16)] [.bool] (d0, behind1, x2, ())).run = law32_IpcpBack N d0 behind1 x2 := by kernel_rfl
theorem law32_IpcpBack_C (N : Nat) (d0 : (Int) × ((Int) × ((Int) × ((Int) × (List (Int)))))) (behind1 : List (Int)) (x2 : Int) (y : Bool) (h : law32_IpcpBack N d0 behind1 x2 = some y) : CallsK Go.Proofs.Try.prog 4 (valA [(.pair (.int .u8) (.pair (.int .u8) (.pair (.int .u32) (.pair (.int .u32) (.sl (.int .u8)))))), (.sl (.int .u8)), (.int .u16)] (d0, behind1, x2, ())) (tupV (valR [.bool] y)) := runK_ok hmx (Ev110_ok N _) (okFn_ok (by kernel_rfl)) (by rw [law32_IpcpBack_S]; exact h)
noncomputable def Ev111 (N : Nat) : (R : Type) → Env R := Env.addFn (Ev110 N) 4 (fun R => fnK [(.pair (.int .u8) (.pair (.int .u8) (.pair (.int .u32) (.pair (.int .u32) (.sl (.int .u8)))))), (.sl (.int .u8)), (.int .u16)] [.bool] (fun c => law32_IpcpBack N c.1 c.2.1 c.2.2.1))
theorem Ev111_ok (N : Nat) (R : Type) : EnvOK Go.Proofs.Try.prog (Ev111 N R) := EnvOK.addFn hmx (Ev110_ok N R) (Ev110_ok N _) (by kernel_rfl) (fun c => law32_IpcpBack_S N c.1 c.2.1 c.2.2.1)
end Go.Proofs.Ythakbkoflnpfaaa
/-
  Layer 32, on plain data: sums of bytes, by the program and by the document.
-/
namespace Go.Proofs.Ythakbkoflnpfaaa
set_option maxRecDepth 100000
open Go.RowKit
set_option linter.unusedVariables false
set_option linter.unusedSimpArgs false
set_option maxRecDepth 100000

theorem alive32 : law32_alive 200000 = some true := by decide +kernel
/-- What a byte weighs at a place. -/
def wI (i : Nat) (x : Int) : Int := if i % 2 = 0 then 256 * x else x
/-- What the first bytes weigh together. -/
def PS (b : List Int) : Nat → Int
  | 0 => 0
  | i + 1 => PS b i + wI i (b.getD i 0)
/-- Pairs are added; what goes beyond is added anew. -/
def foldS (s : Int) : Int := if s = 0 then 0 else (s - 1) % 65535 + 1
theorem foldS_bd (s : Int) (h : 0 ≤ s) : 0 ≤ foldS s ∧ foldS s ≤ 65535 := by unfold foldS; split <;> omega
theorem foldS_id (s : Int) (h : 0 ≤ s) (h2 : s ≤ 65535) : foldS s = s := by unfold foldS; split <;> omega
theorem foldS_add (a x : Int) (h : 0 ≤ a) (hx : 0 ≤ x) : foldS (foldS a + x) = foldS (a + x) := by
  unfold foldS
  split
  · rename_i h0; subst h0; rfl
  · rename_i h0
    have h1 : ¬ ((a - 1) % 65535 + 1 + x = 0) := by omega
    have h2 : ¬ (a + x = 0) := by omega
    rw [if_neg h1, if_neg h2]
    omega
theorem foldS_step (m : Int) (h : 0 ≤ m) : foldS (m % 65536 + m / 65536) = foldS m := by unfold foldS; split <;> split <;> omega
theorem wI_bd {i : Nat} {x : Int} (h : 0 ≤ x ∧ x < 256) : 0 ≤ wI i x ∧ wI i x ≤ 65280 := by unfold wI; split <;> omega
theorem getD_B {b : List Int} (hb : AllB b) (i : Nat) : 0 ≤ b.getD i 0 ∧ b.getD i 0 < 256 := by
  rw [List.getD_eq_getElem?_getD]
  cases h : b[i]? with
  | none => simp
  | some x => exact hb x (List.mem_of_getElem? h)
theorem PS_bd {b : List Int} (hb : AllB b) : ∀ i : Nat, 0 ≤ PS b i ∧ PS b i ≤ 65280 * i
  | 0 => by simp [PS]
  | i + 1 => by
    have h1 := PS_bd hb i
    have h2 := wI_bd (i := i) (getD_B hb i)
    unfold PS
    omega
theorem q64_and' (a b : Nat) (ha : a < 18446744073709551616) (hb : b < 18446744073709551616) : bits .and .u64 (a : Int) (b : Int) = ((a &&& b : Nat) : Int) := by
  have hx : a &&& b < 2 ^ 64 := Nat.and_lt_two_pow (n := 64) a (by omega)
  show IntKind.u64.wrap ((BitVec.ofInt 64 (a : Int) &&& BitVec.ofInt 64 (b : Int)).toNat : Int) = _
  rw [BitVec.toNat_and, q64_of a ha, q64_of b hb, IntKind.wrap_u64]
  omega
theorem low16 (s : Int) (h : 0 ≤ s) (h2 : s < 18446744073709551616) : bits .and .u64 s (65535 : Int) = s % 65536 := by
  obtain ⟨a, rfl⟩ := Int.eq_ofNat_of_zero_le h
  have := q64_and' a 65535 (by omega) (by decide)
  rw [Nat.and_two_pow_sub_one_eq_mod a 16] at this
  rw [show (65535 : Int) = ((65535 : Nat) : Int) from rfl, this]
  omega
section
variable {N : Nat}
theorem sum_loop {b : List Int} (hb : AllB b) (hl : b.length ≤ 100000) : ∀ (k i M : Nat), k + i = b.length → k < M →
    gl (fun X c => ipcp_Sum_L3 N X c.1.1 c.1.2.1 c.1.2.2.1 c.1.2.2.2.1) M ((PS b i, (b, ((b.length : Int), ((i : Int), ())))), ()) = some ((PS b b.length, ()), ())
  | 0, i, M + 1, hk, hM => by
    have c1 : ¬ (i : Int) < (b.length : Int) := by omega
    have e : i = b.length := by omega
    rw [gl_succ]
    simp only [ipcp_Sum_L3, c1, decide_false, cond_false]
    rw [e]
  | k + 1, i, M + 1, hk, hM => by
    have hi : i < b.length := by omega
    have c1 : (i : Int) < (b.length : Int) := by omega
    have g1 := getI_lt b i hi
    have hx := hb _ (List.getElem_mem hi)
    have e0 : Go.IntKind.wrap .i64 ((i : Int) + 1) = ((i + 1 : Nat) : Int) := by rw [wrap64 (by omega) (by omega)]; omega
    have e1 : Int.tmod (i : Int) 2 = ((i % 2 : Nat) : Int) := by rw [Int.tmod_eq_emod_of_nonneg (by omega)]; omega
    have hp := PS_bd hb i
    have hd : b.getD i 0 = b[i] := by rw [List.getD_eq_getElem?_getD, List.getElem?_eq_getElem hi]; rfl
    have w0 : Go.IntKind.wrap .u64 b[i] = b[i] := wrapU64 hx.1 (by omega)
    have m8 : min (Int.toNat 8) (IntKind.bits IntKind.u64) = 8 := by decide
    have w1 : Go.IntKind.wrap .u64 (b[i] * 2 ^ 8) = 256 * b[i] := by rw [show (2 : Int) ^ 8 = 256 from rfl, wrapU64 (by omega) (by omega)]; omega
    have ih := sum_loop hb hl k (i + 1) M (by omega) (by omega)
    have hps : PS b (i + 1) = PS b i + wI i b[i] := by rw [PS, hd]
    rw [gl_succ]
    by_cases h2 : i % 2 = 0
    · have c2 : (((i % 2 : Nat) : Int)) = 0 := by omega
      have w2 : Go.IntKind.wrap .u64 (PS b i + 256 * b[i]) = PS b (i + 1) := by rw [hps, wI, if_pos h2, wrapU64 (by omega) (by omega)]
      simp only [ipcp_Sum_L3, c1, decide_true, cond_true, g1, Option.bind_some, e1, c2, w0, m8, w1, w2, e0]
      exact ih
    · have c2 : ¬ (((i % 2 : Nat) : Int)) = 0 := by omega
      have w2 : Go.IntKind.wrap .u64 (PS b i + b[i]) = PS b (i + 1) := by rw [hps, wI, if_neg h2, wrapU64 (by omega) (by omega)]
      simp only [ipcp_Sum_L3, c1, decide_true, decide_false, cond_true, cond_false, g1, Option.bind_some, e1, c2, w0, w2, e0]
      exact ih
theorem fold_loop : ∀ (M : Nat) (s : Int), 0 ≤ s → s < 18446744073709551616 → s < 65536 + 65535 * (M : Int) →
    gl (fun X c => ipcp_Sum_L9 N X c.1.1) (M + 1) ((s, ()), ()) = some ((foldS s, ()), ())
  | M, s, h0, h1, hM => by
    rw [gl_succ]
    by_cases hs : 65535 < s
    · have m16 : min (Int.toNat 16) (IntKind.bits IntKind.u64) = 16 := by decide
      have e1 : Int.fdiv s (2 ^ 16) = s / 65536 := Int.fdiv_eq_ediv_of_nonneg s (by decide)
      have e2 : Go.IntKind.wrap .u64 (s / 65536 + s % 65536) = s % 65536 + s / 65536 := by rw [wrapU64 (by omega) (by omega)]; omega
      match M, hM with
      | 0, hM => omega
      | M + 1, hM =>
        have ih := fold_loop M (s % 65536 + s / 65536) (by omega) (by omega) (by omega)
        rw [foldS_step s h0] at ih
        simp only [ipcp_Sum_L9, hs, decide_true, cond_true, m16, e1, low16 s h0 h1, e2]
        exact ih
    · simp only [ipcp_Sum_L9, hs, decide_false, cond_false]
      rw [foldS_id s h0 (by omega)]
theorem sum_ok {b : List Int} (hb : AllB b) (hl : b.length ≤ 100000) (hN : 200000 ≤ N) : ipcp_Sum N b = some (65535 - foldS (PS b b.length)) := by
  have h1 := sum_loop (N := N) hb hl b.length 0 N (by omega) (by omega)
  have h1' : ipcp_Sum_L3_R N (((0 : Int), (b, ((b.length : Int), ((0 : Int), ())))), ()) = some ((PS b b.length, ()), ()) := h1
  have hp := PS_bd hb b.length
  obtain ⟨M, rfl⟩ : ∃ M, N = M + 1 := ⟨N - 1, by omega⟩
  have h2 := fold_loop (N := M + 1) M (PS b b.length) hp.1 (by omega) (by omega)
  have h2' : ipcp_Sum_L9_R (M + 1) ((PS b b.length, ()), ()) = some ((foldS (PS b b.length), ()), ()) := h2
  have hf := foldS_bd (PS b b.length) hp.1
  have w1 : Go.IntKind.wrap .u16 (foldS (PS b b.length)) = foldS (PS b b.length) := by rw [IntKind.wrap_u16]; omega
  have w2 : Go.IntKind.wrap .u16 (65535 - foldS (PS b b.length)) = 65535 - foldS (PS b b.length) := by rw [IntKind.wrap_u16]; omega
  unfold ipcp_Sum
  rw [h1', Option.bind_some, h2', Option.bind_some]
  simp only [w1, w2]
theorem rsum_loop {b : List Int} (hb : AllB b) (hl : b.length ≤ 100000) : ∀ (k i M : Nat), b.length ≤ i + 2 * k → i ≤ b.length + 1 → i % 2 = 0 → k < M →
    gl (fun X c => ref32_Sum_L3 N X c.1.1 c.1.2.1 c.1.2.2.1) M ((b, (foldS (PS b (min i b.length)), ((i : Int), ()))), ()) = some ((foldS (PS b b.length), ()), ())
  | 0, i, M + 1, hk, hi, h2, hM => by
    have c1 : ¬ (i : Int) < (b.length : Int) := by omega
    have e : min i b.length = b.length := by omega
    rw [gl_succ]
    simp only [ref32_Sum_L3, c1, decide_false, cond_false, e]
  | k + 1, i, M + 1, hk, hi', h2, hM => by
    rw [gl_succ]
    by_cases hi : i < b.length
    · have c1 : (i : Int) < (b.length : Int) := by omega
      have g1 := getI_lt b i hi
      have hx := hb _ (List.getElem_mem hi)
      have hd : b.getD i 0 = b[i] := by rw [List.getD_eq_getElem?_getD, List.getElem?_eq_getElem hi]; rfl
      have em : min i b.length = i := by omega
      have hp := PS_bd hb i
      have hf := foldS_bd (PS b i) hp.1
      have e1 : Go.IntKind.wrap .i64 ((i : Int) + 1) = ((i + 1 : Nat) : Int) := by rw [wrap64 (by omega) (by omega)]; omega
      have e2 : Go.IntKind.wrap .i64 ((i : Int) + 2) = ((i + 2 : Nat) : Int) := by rw [wrap64 (by omega) (by omega)]; omega
      have w0 : Go.IntKind.wrap .i64 b[i] = b[i] := wrap64 (by omega) (by omega)
      have w1 : Go.IntKind.wrap .i64 (256 * b[i]) = 256 * b[i] := wrap64 (by omega) (by omega)
      have w2 : Go.IntKind.wrap .i64 (foldS (PS b i) + 256 * b[i]) = foldS (PS b i) + 256 * b[i] := wrap64 (by omega) (by omega)
      have hps : PS b (i + 1) = PS b i + 256 * b[i] := by rw [PS, hd, wI, if_pos h2]
      have fin : ∀ m : Int, 0 ≤ m → m ≤ 131070 → Go.IntKind.wrap .i64 (Int.tmod m 65536 + Go.IntKind.wrap .i64 (Int.tdiv m 65536)) = foldS m := fun m m0 m1 => by
        rw [Int.tmod_eq_emod_of_nonneg m0, Int.tdiv_eq_ediv_of_nonneg m0, wrap64 (x := m / 65536) (by omega) (by omega), wrap64 (by omega) (by omega)]
        unfold foldS; split <;> omega
      by_cases hi1 : i + 1 < b.length
      · have c2 : ((i + 1 : Nat) : Int) < (b.length : Int) := by omega
        have g2 := getI_lt b (i + 1) hi1
        have hy := hb _ (List.getElem_mem hi1)
        have hd2 : b.getD (i + 1) 0 = b[i + 1] := by rw [List.getD_eq_getElem?_getD, List.getElem?_eq_getElem hi1]; rfl
        have v0 : Go.IntKind.wrap .i64 b[i + 1] = b[i + 1] := wrap64 (by omega) (by omega)
        have v1 : Go.IntKind.wrap .i64 (foldS (PS b i) + 256 * b[i] + b[i + 1]) = foldS (PS b i) + 256 * b[i] + b[i + 1] := wrap64 (by omega) (by omega)
        have hps2 : PS b (i + 2) = PS b i + 256 * b[i] + b[i + 1] := by rw [PS, hd2, hps, wI, if_neg (by omega)]
        have ih := rsum_loop hb hl k (i + 2) M (by omega) (by omega) (by omega) (by omega)
        have e3 : min (i + 2) b.length = i + 2 := by omega
        rw [e3] at ih
        have key : foldS (foldS (PS b i) + 256 * b[i] + b[i + 1]) = foldS (PS b (i + 2)) := by
          rw [hps2, Int.add_assoc, foldS_add _ _ hp.1 (by omega), ← Int.add_assoc]
        simp only [ref32_Sum_L3, c1, decide_true, cond_true, g1, Option.bind_some, e1, c2, g2, em, w0, w1, w2, v0, v1, fin _ (show 0 ≤ foldS (PS b i) + 256 * b[i] + b[i + 1] by omega) (by omega), key, e2]
        exact ih
      · have c2 : ¬ ((i + 1 : Nat) : Int) < (b.length : Int) := by omega
        have ih := rsum_loop hb hl k (i + 2) M (by omega) (by omega) (by omega) (by omega)
        have e3 : min (i + 2) b.length = i + 1 := by omega
        rw [e3] at ih
        have key : foldS (foldS (PS b i) + 256 * b[i]) = foldS (PS b (i + 1)) := by
          rw [hps, foldS_add _ _ hp.1 (by omega)]
        simp only [ref32_Sum_L3, c1, decide_true, decide_false, cond_true, cond_false, g1, Option.bind_some, e1, c2, em, w0, w1, w2, fin _ (show 0 ≤ foldS (PS b i) + 256 * b[i] by omega) (by omega), key, e2]
        exact ih
    · have c1 : ¬ (i : Int) < (b.length : Int) := by omega
      have e : min i b.length = b.length := by omega
      simp only [ref32_Sum_L3, c1, decide_false, cond_false, e]
theorem rsum_ok {b : List Int} (hb : AllB b) (hl : b.length ≤ 100000) (hN : 200000 ≤ N) : ref32_Sum N b = some (65535 - foldS (PS b b.length)) := by
  have h1 := rsum_loop (N := N) hb hl b.length 0 N (by omega) (by omega) (by omega) (by omega)
  have h1' : ref32_Sum_L3_R N ((b, ((0 : Int), ((0 : Int), ()))), ()) = some ((foldS (PS b b.length), ()), ()) := by
    rw [Nat.zero_min] at h1
    exact h1
  have hp := PS_bd hb b.length
  have hf := foldS_bd (PS b b.length) hp.1
  have w1 : Go.IntKind.wrap .i64 (65535 - foldS (PS b b.length)) = 65535 - foldS (PS b b.length) := wrap64 (by omega) (by omega)
  have w2 : Go.IntKind.wrap .u16 (65535 - foldS (PS b b.length)) = 65535 - foldS (PS b b.length) := by rw [IntKind.wrap_u16]; omega
  unfold ref32_Sum
  rw [h1', Option.bind_some]
  simp only [w1, w2]
end
end Go.Proofs.Ythakbkoflnpfaaa
