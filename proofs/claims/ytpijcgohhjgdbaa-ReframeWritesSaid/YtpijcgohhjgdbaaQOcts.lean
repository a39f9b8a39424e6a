/-
  Numbers as bytes, on plain data: two bytes, four bytes, and parts that are joined.
-/
import Derived.Test.YtpijcgohhjgdbaaQOctsD
namespace Go.Proofs.Ytpijcgohhjgdbaa
set_option maxRecDepth 100000
open Go.RowKit
set_option linter.unusedVariables false
set_option linter.unusedSimpArgs false

theorem q64_of (a : Nat) (ha : a < 18446744073709551616) : (BitVec.ofInt 64 (a : Int)).toNat = a := by
  rw [BitVec.ofInt_natCast, BitVec.toNat_ofNat]; exact Nat.mod_eq_of_lt (by omega)
theorem q64_or (a b : Nat) (ha : a < 18446744073709551616) (hb : b < 18446744073709551616) : bits .or .u64 (a : Int) (b : Int) = ((a ||| b : Nat) : Int) := by
  have hx : a ||| b < 2 ^ 64 := Nat.or_lt_two_pow (n := 64) (by omega) (by omega)
  show IntKind.u64.wrap ((BitVec.ofInt 64 (a : Int) ||| BitVec.ofInt 64 (b : Int)).toNat : Int) = _
  rw [BitVec.toNat_or, q64_of a ha, q64_of b hb, IntKind.wrap_u64]
  omega
/-- The lower bits of one, the higher of another one. -/
theorem or_nat (x y k : Nat) (hx : x < 2 ^ k) (hx' : x < 18446744073709551616) (hy : y * 2 ^ k < 18446744073709551616) : bits .or .u64 (x : Int) ((y * 2 ^ k : Nat) : Int) = ((y * 2 ^ k + x : Nat) : Int) := by
  rw [q64_or x (y * 2 ^ k) hx' hy, Nat.or_comm, ← Nat.shiftLeft_eq, ← Nat.shiftLeft_add_eq_or_of_lt hx]
theorem or_at (a b : Int) (k : Nat) (h0 : 0 ≤ a) (ha : a.toNat < 2 ^ k) (ha' : a < 18446744073709551616) (hb : 0 ≤ b) (hk : b.toNat * 2 ^ k < 18446744073709551616) : bits .or .u64 a (b * ((2 ^ k : Nat) : Int)) = b * ((2 ^ k : Nat) : Int) + a := by
  obtain ⟨x, rfl⟩ := Int.eq_ofNat_of_zero_le h0
  obtain ⟨y, rfl⟩ := Int.eq_ofNat_of_zero_le hb
  have := or_nat x y k (by simpa using ha) (by omega) (by simpa using hk)
  rw [Int.natCast_add, Int.natCast_mul] at this
  exact this
theorem wrapU64 {x : Int} (h1 : 0 ≤ x) (h2 : x < 18446744073709551616) : Go.IntKind.wrap .u64 x = x := by
  rw [IntKind.wrap_u64]; omega
section
variable {N : Nat}
theorem big2 (n : Int) (h : 0 ≤ n ∧ n < 18446744073709551616) (hN : 100 ≤ N) : qRBig N n 2 = some [n / 256 % 256, n % 256] := by
  obtain ⟨M, rfl⟩ : ∃ M, N = M + 3 := ⟨N - 3, by omega⟩
  have r1 : roomB (Int.toNat 2) 1 = true := by decide
  have r2 : List.replicate (Int.toNat 2) (0 : Int) = [0, 0] := rfl
  have w1 : Go.IntKind.wrap .i64 ((2 : Int) - 1) = 1 := by decide
  have w2 : Go.IntKind.wrap .i64 ((1 : Int) - 1) = 0 := by decide
  have w3 : Go.IntKind.wrap .i64 ((0 : Int) - 1) = -1 := by decide
  have d1 : Int.tdiv n 256 = n / 256 := Int.tdiv_eq_ediv_of_nonneg h.1
  have d2 : Int.tmod n 256 = n % 256 := Int.tmod_eq_emod_of_nonneg h.1
  have d3 : Int.tmod (n / 256) 256 = n / 256 % 256 := Int.tmod_eq_emod_of_nonneg (by omega)
  have w4 : Go.IntKind.wrap .u64 (n / 256) = n / 256 := wrapU64 (by omega) (by omega)
  have w5 : Go.IntKind.wrap .u8 (n % 256) = n % 256 := wrapU8 (by omega) (by omega)
  have w6 : Go.IntKind.wrap .u8 (n / 256 % 256) = n / 256 % 256 := wrapU8 (by omega) (by omega)
  simp only [qRBig, qRBigL3R, gl, qRBigL3, r1, r2, w1]
  have z0 : Go.IntKind.wrap .i64 (0 : Int) = 0 := by decide
  have z1 : Go.IntKind.wrap .i64 (-1 : Int) = -1 := by decide
  simp [w1, w2, w3, d1, d2, d3, w4, w5, w6, z0, z1]
theorem num2 (x y : Int) (hx : 0 ≤ x ∧ x < 256) (hy : 0 ≤ y ∧ y < 256) (hN : 100 ≤ N) : qRNum N [x, y] = some (x * 256 + y) := by
  obtain ⟨M, rfl⟩ : ∃ M, N = M + 3 := ⟨N - 3, by omega⟩
  have w1 : Go.IntKind.wrap .i64 ((0 : Int) + 1) = 1 := by decide
  have w2 : Go.IntKind.wrap .i64 ((1 : Int) + 1) = 2 := by decide
  have w3 : Go.IntKind.wrap .u64 ((0 : Int) * 256) = 0 := by decide
  have w4 : Go.IntKind.wrap .u64 x = x := wrapU64 (by omega) (by omega)
  have w4' : Go.IntKind.wrap .u64 ((0 : Int) + x) = x := by rw [Int.zero_add]; exact w4
  have w5 : Go.IntKind.wrap .u64 y = y := wrapU64 (by omega) (by omega)
  have w6 : Go.IntKind.wrap .u64 (x * 256) = x * 256 := wrapU64 (by omega) (by omega)
  have w7 : Go.IntKind.wrap .u64 (x * 256 + y) = x * 256 + y := wrapU64 (by omega) (by omega)
  have g0 : getI [x, y] (0 : Int) = some x := rfl
  have g1 : getI [x, y] (1 : Int) = some y := rfl
  simp only [qRNum, qRNumL3R, gl, qRNumL3, g0, Option.bind_some, w1, w3, w4, w4', g1, w2, w5, w6, w7]
  simp [g1, w2, w5, w6, w7]
theorem put2 (n : Int) (h : 0 ≤ n ∧ n < 18446744073709551616) (hN : 100 ≤ N) : qOPut N n 2 false = some ([n / 256 % 256, n % 256], 0) := by
  obtain ⟨M, rfl⟩ : ∃ M, N = M + 3 := ⟨N - 3, by omega⟩
  have r1 : roomB (Int.toNat 2) 1 = true := by decide
  have r2 : List.replicate (Int.toNat 2) (0 : Int) = [0, 0] := rfl
  have w1 : Go.IntKind.wrap .i64 ((2 : Int) - 1) = 1 := by decide
  have w2 : Go.IntKind.wrap .i64 ((1 : Int) - 1) = 0 := by decide
  have w3 : Go.IntKind.wrap .i64 ((0 : Int) + 1) = 1 := by decide
  have w4 : Go.IntKind.wrap .i64 ((1 : Int) + 1) = 2 := by decide
  have w5 : Go.IntKind.wrap .i64 ((1 : Int) - 0) = 1 := by decide
  have e1 : (2 : Int) ^ min (Int.toNat 8) (IntKind.bits IntKind.u64) = 256 := by decide
  have d1 : Int.fdiv n 256 = n / 256 := Int.fdiv_eq_ediv_of_nonneg n (by decide)
  have d2 : Int.fdiv (n / 256) 256 = n / 256 / 256 := Int.fdiv_eq_ediv_of_nonneg _ (by decide)
  have w7 : Go.IntKind.wrap .u8 n = n % 256 := by rw [IntKind.wrap_u8]
  have w8 : Go.IntKind.wrap .u8 (n / 256) = n / 256 % 256 := by rw [IntKind.wrap_u8]
  simp only [qOPut, qOPutL5R, gl, qOPutL5, qOplace, r1, r2, e1, cond_false, Option.bind_some, w1, w2, w3, w4, w5]
  simp [w1, w2, w3, w4, w5, d1, d2, w7, w8]
theorem get2 (x y : Int) (hx : 0 ≤ x ∧ x < 256) (hy : 0 ≤ y ∧ y < 256) (hN : 100 ≤ N) : qOGet N [x, y] false = some (x * 256 + y, 0) := by
  obtain ⟨M, rfl⟩ : ∃ M, N = M + 3 := ⟨N - 3, by omega⟩
  have w1 : Go.IntKind.wrap .i64 ((2 : Int) - 1) = 1 := by decide
  have w2 : Go.IntKind.wrap .i64 ((1 : Int) - 1) = 0 := by decide
  have w3 : Go.IntKind.wrap .i64 ((0 : Int) + 1) = 1 := by decide
  have w4 : Go.IntKind.wrap .i64 ((1 : Int) + 1) = 2 := by decide
  have w0 : Go.IntKind.wrap .i64 ((1 : Int) - 0) = 1 := by decide
  have w5 : Go.IntKind.wrap .i64 ((8 : Int) * 0) = 0 := by decide
  have w6 : Go.IntKind.wrap .i64 ((8 : Int) * 1) = 8 := by decide
  have w7 : Go.IntKind.wrap .u64 x = x := wrapU64 (by omega) (by omega)
  have w8 : Go.IntKind.wrap .u64 y = y := wrapU64 (by omega) (by omega)
  have e0 : (2 : Int) ^ min (Int.toNat 0) (IntKind.bits IntKind.u64) = 1 := by decide
  have e1 : (2 : Int) ^ min (Int.toNat 8) (IntKind.bits IntKind.u64) = 256 := by decide
  have w9 : Go.IntKind.wrap .u64 (x * 256) = x * 256 := wrapU64 (by omega) (by omega)
  have w10 : Go.IntKind.wrap .u64 (y * 1) = y := by rw [Int.mul_one]; exact w8
  have o1 : bits .or .u64 0 y = y := by
    have := or_at 0 y 0 (by decide) (by decide) (by decide) (by omega) (by simp; omega)
    simpa using this
  have o2 : bits .or .u64 y (x * 256) = x * 256 + y := or_at y x 8 (by omega) (by show y.toNat < 256; omega) (by omega) (by omega) (by show x.toNat * 256 < _; omega)
  have g0 : getI [x, y] (0 : Int) = some x := rfl
  have g1 : getI [x, y] (1 : Int) = some y := rfl
  have l2 : (([x, y] : List Int).length : Int) = 2 := rfl
  simp only [qOGet, qOGetL5R, gl, qOGetL5, qOplace, l2, cond_false, Option.bind_some, w0, w1, w2, w3, w4, w5, w6, w7, w8, w9, w10, e0, e1, o1, o2, g0, g1]
  simp [w4, w6, w7, w9, e1, o2, w2, g0]
theorem big4 (n : Int) (h : 0 ≤ n ∧ n < 18446744073709551616) (hN : 100 ≤ N) : qRBig N n 4 = some [n / 16777216 % 256, n / 65536 % 256, n / 256 % 256, n % 256] := by
  obtain ⟨M, rfl⟩ : ∃ M, N = M + 5 := ⟨N - 5, by omega⟩
  have r1 : roomB (Int.toNat 4) 1 = true := by decide
  have r2 : List.replicate (Int.toNat 4) (0 : Int) = [0, 0, 0, 0] := rfl
  have w1 : Go.IntKind.wrap .i64 ((4 : Int) - 1) = 3 := by decide
  have d1 : Int.tdiv n 256 = n / 256 := Int.tdiv_eq_ediv_of_nonneg h.1
  have d2 : Int.tmod n 256 = n % 256 := Int.tmod_eq_emod_of_nonneg h.1
  have d3 : Int.tmod (n / 256) 256 = n / 256 % 256 := Int.tmod_eq_emod_of_nonneg (by omega)
  have d4 : Int.tdiv (n / 256) 256 = n / 65536 := by rw [Int.tdiv_eq_ediv_of_nonneg (by omega)]; omega
  have d5 : Int.tmod (n / 65536) 256 = n / 65536 % 256 := Int.tmod_eq_emod_of_nonneg (by omega)
  have d6 : Int.tdiv (n / 65536) 256 = n / 16777216 := by rw [Int.tdiv_eq_ediv_of_nonneg (by omega)]; omega
  have d7 : Int.tmod (n / 16777216) 256 = n / 16777216 % 256 := Int.tmod_eq_emod_of_nonneg (by omega)
  have w4 : Go.IntKind.wrap .u64 (n / 256) = n / 256 := wrapU64 (by omega) (by omega)
  have w4a : Go.IntKind.wrap .u64 (n / 65536) = n / 65536 := wrapU64 (by omega) (by omega)
  have w4b : Go.IntKind.wrap .u64 (n / 16777216) = n / 16777216 := wrapU64 (by omega) (by omega)
  have w5 : Go.IntKind.wrap .u8 (n % 256) = n % 256 := wrapU8 (by omega) (by omega)
  have w6 : Go.IntKind.wrap .u8 (n / 256 % 256) = n / 256 % 256 := wrapU8 (by omega) (by omega)
  have w7 : Go.IntKind.wrap .u8 (n / 65536 % 256) = n / 65536 % 256 := wrapU8 (by omega) (by omega)
  have w8 : Go.IntKind.wrap .u8 (n / 16777216 % 256) = n / 16777216 % 256 := wrapU8 (by omega) (by omega)
  have z0 : Go.IntKind.wrap .i64 (0 : Int) = 0 := by decide
  have z1 : Go.IntKind.wrap .i64 (-1 : Int) = -1 := by decide
  have z2 : Go.IntKind.wrap .i64 (1 : Int) = 1 := by decide
  have z3 : Go.IntKind.wrap .i64 (2 : Int) = 2 := by decide
  simp only [qRBig, qRBigL3R, gl, qRBigL3, r1, r2, w1]
  simp [w1, d1, d2, d3, d4, d5, d6, d7, w4, w4a, w4b, w5, w6, w7, w8, z0, z1, z2, z3]
theorem num4 (x y z u : Int) (hx : 0 ≤ x ∧ x < 256) (hy : 0 ≤ y ∧ y < 256) (hz : 0 ≤ z ∧ z < 256) (hu : 0 ≤ u ∧ u < 256) (hN : 100 ≤ N) : qRNum N [x, y, z, u] = some (((x * 256 + y) * 256 + z) * 256 + u) := by
  obtain ⟨M, rfl⟩ : ∃ M, N = M + 5 := ⟨N - 5, by omega⟩
  have w1 : Go.IntKind.wrap .i64 ((0 : Int) + 1) = 1 := by decide
  have w2 : Go.IntKind.wrap .i64 ((1 : Int) + 1) = 2 := by decide
  have w2a : Go.IntKind.wrap .i64 ((2 : Int) + 1) = 3 := by decide
  have w2b : Go.IntKind.wrap .i64 ((3 : Int) + 1) = 4 := by decide
  have w3 : Go.IntKind.wrap .u64 ((0 : Int) * 256) = 0 := by decide
  have w4 : Go.IntKind.wrap .u64 x = x := wrapU64 (by omega) (by omega)
  have w4' : Go.IntKind.wrap .u64 ((0 : Int) + x) = x := by rw [Int.zero_add]; exact w4
  have w5 : Go.IntKind.wrap .u64 y = y := wrapU64 (by omega) (by omega)
  have w5a : Go.IntKind.wrap .u64 z = z := wrapU64 (by omega) (by omega)
  have w5b : Go.IntKind.wrap .u64 u = u := wrapU64 (by omega) (by omega)
  have w6 : Go.IntKind.wrap .u64 (x * 256) = x * 256 := wrapU64 (by omega) (by omega)
  have w7 : Go.IntKind.wrap .u64 (x * 256 + y) = x * 256 + y := wrapU64 (by omega) (by omega)
  have w8 : Go.IntKind.wrap .u64 ((x * 256 + y) * 256) = (x * 256 + y) * 256 := wrapU64 (by omega) (by omega)
  have w9 : Go.IntKind.wrap .u64 ((x * 256 + y) * 256 + z) = (x * 256 + y) * 256 + z := wrapU64 (by omega) (by omega)
  have w10 : Go.IntKind.wrap .u64 (((x * 256 + y) * 256 + z) * 256) = ((x * 256 + y) * 256 + z) * 256 := wrapU64 (by omega) (by omega)
  have w11 : Go.IntKind.wrap .u64 (((x * 256 + y) * 256 + z) * 256 + u) = ((x * 256 + y) * 256 + z) * 256 + u := wrapU64 (by omega) (by omega)
  have g0 : getI [x, y, z, u] (0 : Int) = some x := rfl
  have g1 : getI [x, y, z, u] (1 : Int) = some y := rfl
  have g2 : getI [x, y, z, u] (2 : Int) = some z := rfl
  have g3 : getI [x, y, z, u] (3 : Int) = some u := rfl
  simp only [qRNum, qRNumL3R, gl, qRNumL3, g0, Option.bind_some, w1, w3, w4, w4', g1, w2, w5, w6, w7, g2, g3, w2a, w2b, w5a, w5b, w8, w9, w10, w11]
  simp [g1, w2, w5, w6, w7, g2, g3, w2a, w2b, w5a, w5b, w8, w9, w10, w11]
theorem put4 (n : Int) (h : 0 ≤ n ∧ n < 18446744073709551616) (hN : 100 ≤ N) : qOPut N n 4 false = some ([n / 16777216 % 256, n / 65536 % 256, n / 256 % 256, n % 256], 0) := by
  obtain ⟨M, rfl⟩ : ∃ M, N = M + 5 := ⟨N - 5, by omega⟩
  have r1 : roomB (Int.toNat 4) 1 = true := by decide
  have r2 : List.replicate (Int.toNat 4) (0 : Int) = [0, 0, 0, 0] := rfl
  have w1 : Go.IntKind.wrap .i64 ((4 : Int) - 1) = 3 := by decide
  have v0 : Go.IntKind.wrap .i64 ((3 : Int) - 0) = 3 := by decide
  have v1 : Go.IntKind.wrap .i64 ((3 : Int) - 1) = 2 := by decide
  have v2 : Go.IntKind.wrap .i64 ((3 : Int) - 2) = 1 := by decide
  have v3 : Go.IntKind.wrap .i64 ((3 : Int) - 3) = 0 := by decide
  have w3 : Go.IntKind.wrap .i64 ((0 : Int) + 1) = 1 := by decide
  have w4 : Go.IntKind.wrap .i64 ((1 : Int) + 1) = 2 := by decide
  have w5 : Go.IntKind.wrap .i64 ((2 : Int) + 1) = 3 := by decide
  have w6 : Go.IntKind.wrap .i64 ((3 : Int) + 1) = 4 := by decide
  have e1 : (2 : Int) ^ min (Int.toNat 8) (IntKind.bits IntKind.u64) = 256 := by decide
  have d1 : Int.fdiv n 256 = n / 256 := Int.fdiv_eq_ediv_of_nonneg n (by decide)
  have d2 : Int.fdiv (n / 256) 256 = n / 65536 := by rw [Int.fdiv_eq_ediv_of_nonneg _ (by decide)]; omega
  have d3 : Int.fdiv (n / 65536) 256 = n / 16777216 := by rw [Int.fdiv_eq_ediv_of_nonneg _ (by decide)]; omega
  have w7 : Go.IntKind.wrap .u8 n = n % 256 := by rw [IntKind.wrap_u8]
  have w8 : Go.IntKind.wrap .u8 (n / 256) = n / 256 % 256 := by rw [IntKind.wrap_u8]
  have w9 : Go.IntKind.wrap .u8 (n / 65536) = n / 65536 % 256 := by rw [IntKind.wrap_u8]
  have w10 : Go.IntKind.wrap .u8 (n / 16777216) = n / 16777216 % 256 := by rw [IntKind.wrap_u8]
  simp only [qOPut, qOPutL5R, gl, qOPutL5, qOplace, r1, r2, e1, cond_false, Option.bind_some, w1, v0, v1, v2, v3, w3, w4, w5, w6]
  simp [w1, v0, v1, v2, v3, w3, w4, w5, w6, d1, d2, d3, w7, w8, w9, w10]
theorem get4 (x y z u : Int) (hx : 0 ≤ x ∧ x < 256) (hy : 0 ≤ y ∧ y < 256) (hz : 0 ≤ z ∧ z < 256) (hu : 0 ≤ u ∧ u < 256) (hN : 100 ≤ N) : qOGet N [x, y, z, u] false = some (((x * 256 + y) * 256 + z) * 256 + u, 0) := by
  obtain ⟨M, rfl⟩ : ∃ M, N = M + 5 := ⟨N - 5, by omega⟩
  have w1 : Go.IntKind.wrap .i64 ((4 : Int) - 1) = 3 := by decide
  have v0 : Go.IntKind.wrap .i64 ((3 : Int) - 0) = 3 := by decide
  have v1 : Go.IntKind.wrap .i64 ((3 : Int) - 1) = 2 := by decide
  have v2 : Go.IntKind.wrap .i64 ((3 : Int) - 2) = 1 := by decide
  have v3 : Go.IntKind.wrap .i64 ((3 : Int) - 3) = 0 := by decide
  have w3 : Go.IntKind.wrap .i64 ((0 : Int) + 1) = 1 := by decide
  have w4 : Go.IntKind.wrap .i64 ((1 : Int) + 1) = 2 := by decide
  have w5 : Go.IntKind.wrap .i64 ((2 : Int) + 1) = 3 := by decide
  have w6 : Go.IntKind.wrap .i64 ((3 : Int) + 1) = 4 := by decide
  have m0 : Go.IntKind.wrap .i64 ((8 : Int) * 0) = 0 := by decide
  have m1 : Go.IntKind.wrap .i64 ((8 : Int) * 1) = 8 := by decide
  have m2 : Go.IntKind.wrap .i64 ((8 : Int) * 2) = 16 := by decide
  have m3 : Go.IntKind.wrap .i64 ((8 : Int) * 3) = 24 := by decide
  have x1 : Go.IntKind.wrap .u64 x = x := wrapU64 (by omega) (by omega)
  have y1 : Go.IntKind.wrap .u64 y = y := wrapU64 (by omega) (by omega)
  have z1 : Go.IntKind.wrap .u64 z = z := wrapU64 (by omega) (by omega)
  have u1 : Go.IntKind.wrap .u64 u = u := wrapU64 (by omega) (by omega)
  have e0 : (2 : Int) ^ min (Int.toNat 0) (IntKind.bits IntKind.u64) = 1 := by decide
  have e1 : (2 : Int) ^ min (Int.toNat 8) (IntKind.bits IntKind.u64) = 256 := by decide
  have e2 : (2 : Int) ^ min (Int.toNat 16) (IntKind.bits IntKind.u64) = 65536 := by decide
  have e3 : (2 : Int) ^ min (Int.toNat 24) (IntKind.bits IntKind.u64) = 16777216 := by decide
  have u2 : Go.IntKind.wrap .u64 (u * 1) = u := by rw [Int.mul_one]; exact u1
  have z2 : Go.IntKind.wrap .u64 (z * 256) = z * 256 := wrapU64 (by omega) (by omega)
  have y2 : Go.IntKind.wrap .u64 (y * 65536) = y * 65536 := wrapU64 (by omega) (by omega)
  have x2 : Go.IntKind.wrap .u64 (x * 16777216) = x * 16777216 := wrapU64 (by omega) (by omega)
  have o1 : bits .or .u64 0 u = u := by
    have := or_at 0 u 0 (by decide) (by decide) (by decide) (by omega) (by simp; omega)
    simpa using this
  have o2 : bits .or .u64 u (z * 256) = z * 256 + u := or_at u z 8 (by omega) (by show u.toNat < 256; omega) (by omega) (by omega) (by show z.toNat * 256 < _; omega)
  have o3 : bits .or .u64 (z * 256 + u) (y * 65536) = y * 65536 + (z * 256 + u) := or_at (z * 256 + u) y 16 (by omega) (by show (z * 256 + u).toNat < 65536; omega) (by omega) (by omega) (by show y.toNat * 65536 < _; omega)
  have o4 : bits .or .u64 (y * 65536 + (z * 256 + u)) (x * 16777216) = x * 16777216 + (y * 65536 + (z * 256 + u)) := or_at (y * 65536 + (z * 256 + u)) x 24 (by omega) (by show (y * 65536 + (z * 256 + u)).toNat < 16777216; omega) (by omega) (by omega) (by show x.toNat * 16777216 < _; omega)
  have fin : x * 16777216 + (y * 65536 + (z * 256 + u)) = ((x * 256 + y) * 256 + z) * 256 + u := by omega
  have g0 : getI [x, y, z, u] (0 : Int) = some x := rfl
  have g1 : getI [x, y, z, u] (1 : Int) = some y := rfl
  have g2 : getI [x, y, z, u] (2 : Int) = some z := rfl
  have g3 : getI [x, y, z, u] (3 : Int) = some u := rfl
  have l4 : (([x, y, z, u] : List Int).length : Int) = 4 := rfl
  rw [← fin]
  simp only [qOGet, qOGetL5R, gl, qOGetL5, qOplace, l4, cond_false, Option.bind_some, w1, v0, v1, v2, v3, w3, w4, w5, w6, m0, m1, m2, m3, x1, y1, z1, u1, e0, e1, e2, e3, u2, z2, y2, x2, o1, o2, o3, o4, g0, g1, g2, g3]
  simp [w1, v0, v1, v2, v3, w3, w4, w5, w6, m1, m2, m3, x1, y1, z1, u1, e1, e2, e3, z2, y2, x2, o2, o3, o4, g0, g1, g2, g3]
/-- Parts that are joined. -/
theorem join_ok (l : List (List Int)) (hl : l.length ≤ 1000) (hs : ∀ p ∈ l, p.length ≤ 100000) (hN : 2000 ≤ N) : qOJoin N l = some l.flatten := by
  have tot : ∀ (m : List (List Int)), (∀ p ∈ m, p.length ≤ 100000) → m.flatten.length ≤ 100000 * m.length := by
    intro m
    induction m with
    | nil => intro _; simp
    | cons p m ih =>
      intro h
      have h1 := h p List.mem_cons_self
      have h2 := ih fun q hq => h q (List.mem_cons_of_mem _ hq)
      rw [List.flatten_cons, List.length_append, List.length_cons]
      omega
  have tk : ∀ i, (l.take i).flatten.length ≤ 100000000 := fun i => by
    have := tot (l.take i) fun p hp => hs p (List.mem_of_mem_take hp)
    rw [List.length_take] at this
    omega
  have hsn : ∀ i (hi : i < l.length), (l.take (i + 1)).flatten = (l.take i).flatten ++ l[i] := fun i hi => by
    have : l.take (i + 1) = l.take i ++ [l[i]] := by rw [List.take_add_one, List.getElem?_eq_getElem hi]; rfl
    rw [this, List.flatten_append]
    simp
  have h1 := gl_run (G := fun (X : ((List (List Int) × Int × List (List Int) × Int × Int × Unit) × Unit) → Option ((List (List Int) × Int × Unit) × Unit)) c => qOJoinL3 N X c.1.1 c.1.2.1 c.1.2.2.1 c.1.2.2.2.1 c.1.2.2.2.2.1)
    (fun i => ((l, (((l.take i).flatten.length : Int), (l, ((l.length : Int), ((i : Int), ()))))), ())) l.length ((l, ((l.flatten.length : Int), ())), ()) (fun X i hi => by
    have c1 : ((i : Int) < (l.length : Int)) := by omega
    have c2 : Go.IntKind.wrap .i64 ((i : Int) + 1) = ((i + 1 : Nat) : Int) := by rw [wrap64 (by omega) (by omega)]; omega
    have hp := hs _ (List.getElem_mem hi)
    have ht := tk i
    have c3 : Go.IntKind.wrap .i64 (((l.take i).flatten.length : Int) + (l[i].length : Int)) = (((l.take (i + 1)).flatten.length : Nat) : Int) := by rw [wrap64 (by omega) (by omega), hsn i hi, List.length_append]; omega
    simp only [qOJoinL3, c1, decide_true, cond_true, getI_lt l i hi, Option.bind_some, c3, c2]) (fun X => by
    simp [qOJoinL3]) N 0 (by omega) (by omega)
  have h2 := gl_run (G := fun (X : ((List (List Int) × Int × Int × Unit) × List Int × Unit) → Option (Unit × List Int × Unit)) c => qOJoinL9 N X c.1.1 c.1.2.1 c.1.2.2.1 c.2.1)
    (fun i => ((l, ((l.length : Int), ((i : Int), ()))), ((l.take i).flatten, ()))) l.length ((), (l.flatten, ())) (fun X i hi => by
    have c1 : ((i : Int) < (l.length : Int)) := by omega
    have c2 : Go.IntKind.wrap .i64 ((i : Int) + 1) = ((i + 1 : Nat) : Int) := by rw [wrap64 (by omega) (by omega)]; omega
    have hp := hs _ (List.getElem_mem hi)
    have ht := tk i
    have c3 : roomB ((l.take i).flatten.length + l[i].length) 1 = true := roomB_of (by have := big_len; omega) (by omega)
    simp only [qOJoinL9, c1, decide_true, cond_true, getI_lt l i hi, Option.bind_some, c3, c2, hsn i hi]) (fun X => by
    simp [qOJoinL9]) N 0 (by omega) (by omega)
  have htot := tk l.length
  rw [List.take_length] at htot
  have c4 : (decide ((0 : Int) ≤ (0 : Int) ∧ (0 : Int) ≤ (l.flatten.length : Int)) && roomB (Int.toNat (l.flatten.length : Int)) 1) = true := by
    rw [Bool.and_eq_true]
    exact ⟨decide_eq_true ⟨by omega, by omega⟩, roomB_of (by have := big_len; omega) (by omega)⟩
  unfold qOJoin qOJoinL3R qOJoinL9R
  simp only [Int.natCast_zero, List.take_zero, List.flatten_nil, List.length_nil] at h1 h2
  rw [h1]
  simp only [Option.bind_some, c4, cond_true]
  have e0 : List.replicate (Int.toNat 0) (0 : Int) = [] := rfl
  rw [e0, h2]
  rfl
end
end Go.Proofs.Ytpijcgohhjgdbaa
