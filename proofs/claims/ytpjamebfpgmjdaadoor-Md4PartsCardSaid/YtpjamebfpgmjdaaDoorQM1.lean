/-
  Layer 4, on plain data: words.
-/
import Derived.Test.YtpjamebfpgmjdaaDoorQM0
namespace Go.Proofs.YtpjamebfpgmjdaaDoor
set_option maxRecDepth 100000
open Go.RowKit
set_option linter.unusedVariables false
set_option linter.unusedSimpArgs false
set_option maxRecDepth 100000

def AllW (l : List Int) : Prop := ∀ x ∈ l, 0 ≤ x ∧ x < 4294967296
theorem AllW.get {l : List Int} (h : AllW l) (i : Nat) (hi : i < l.length) : 0 ≤ l[i] ∧ l[i] < 4294967296 := h _ (List.getElem_mem hi)
theorem AllW.set {l : List Int} (h : AllW l) (i : Nat) {x : Int} (hx : 0 ≤ x ∧ x < 4294967296) : AllW (l.set i x) := fun y hy => by
  rcases List.mem_or_eq_of_mem_set hy with h1 | rfl
  · exact h y h1
  · exact hx
theorem wf_u32 {n : Int} (h : (Lit.int .u32 n).wf = true) : 0 ≤ n ∧ n < 4294967296 := by
  simp only [Lit.wf, Bool.and_eq_true, decide_eq_true_eq, IntKind.min, IntKind.max, IntKind.signed, IntKind.bits] at h
  simp at h
  omega
theorem wfu32 {n : Int} (h : 0 ≤ n ∧ n < 4294967296) : (Lit.int .u32 n).wf = true := by
  simp only [Lit.wf, Bool.and_eq_true, decide_eq_true_eq, IntKind.min, IntKind.max, IntKind.signed, IntKind.bits]
  simp
  omega
theorem wfB_w {n : Nat} (a : Arr Int n) (h : AllW a.l) : wfB (.arr n (.int .u32)) a = true := List.all_eq_true.2 fun x hx => wfu32 (h x hx)
theorem w32 (x : Int) : Go.IntKind.wrap .u32 x = x % 4294967296 := IntKind.wrap_u32 x
theorem w32r (x : Int) : 0 ≤ Go.IntKind.wrap .u32 x ∧ Go.IntKind.wrap .u32 x < 4294967296 := by rw [w32]; omega
theorem or32r (a b : Int) : 0 ≤ bits .or .u32 a b ∧ bits .or .u32 a b < 4294967296 := w32r _
theorem not32 (b : Int) (h : 0 ≤ b ∧ b < 4294967296) : bits .xor .u32 (if IntKind.signed .u32 = true then (-1) else IntKind.max .u32) b = Go.IntKind.wrap .u32 (4294967295 - b) := by
  obtain ⟨x, rfl⟩ := Int.eq_ofNat_of_zero_le h.1
  show IntKind.u32.wrap ((BitVec.ofInt 32 4294967295 ^^^ BitVec.ofInt 32 (x : Int)).toNat : Int) = _
  have e1 : (BitVec.ofInt 32 4294967295 : BitVec 32) = BitVec.allOnes 32 := by decide
  rw [e1, BitVec.allOnes_xor, BitVec.toNat_not, BitVec.ofInt_natCast, BitVec.toNat_ofNat, w32, w32]
  have : x % 2 ^ 32 = x := Nat.mod_eq_of_lt (by omega)
  rw [this]
  omega
theorem drop4 (l : List Int) (i : Nat) (h : i + 4 ≤ l.length) : (l.drop i).take (i + 4 - i) = [l[i], l[i + 1], l[i + 2], l[i + 3]] := by
  rw [show i + 4 - i = 4 by omega, List.drop_eq_getElem_cons (by omega), List.drop_eq_getElem_cons (by omega), List.drop_eq_getElem_cons (by omega), List.drop_eq_getElem_cons (by omega)]
  rfl
section
variable {N : Nat}
theorem get4l (u z y x : Int) (hx : 0 ≤ x ∧ x < 256) (hy : 0 ≤ y ∧ y < 256) (hz : 0 ≤ z ∧ z < 256) (hu : 0 ≤ u ∧ u < 256) (hN : 100 ≤ N) : octs_Get N [u, z, y, x] true = some (((x * 256 + y) * 256 + z) * 256 + u, 0) := by
  show qOGet N [u, z, y, x] true = _
  obtain ⟨M, rfl⟩ : ∃ M, N = M + 5 := ⟨N - 5, by omega⟩
  have w3 : Go.IntKind.wrap .i64 ((0 : Int) + 1) = 1 := by decide
  have w4 : Go.IntKind.wrap .i64 ((1 : Int) + 1) = 2 := by decide
  have w5 : Go.IntKind.wrap .i64 ((2 : Int) + 1) = 3 := by decide
  have w6 : Go.IntKind.wrap .i64 ((3 : Int) + 1) = 4 := by decide
  have m0 : Go.IntKind.wrap .i64 ((8 : Int) * 0) = 0 := by decide
  have m1 : Go.IntKind.wrap .i64 ((8 : Int) * 1) = 8 := by decide
  have m2 : Go.IntKind.wrap .i64 ((8 : Int) * 2) = 16 := by decide
  have m3 : Go.IntKind.wrap .i64 ((8 : Int) * 3) = 24 := by decide
  have x1 : Go.IntKind.wrap .u64 x = x := wrapU64 (by omega) (by omega)
  have y1 : Go.IntKind.wrap .u64 y = y := wrapU64 (by omega) (by omega)
  have z1 : Go.IntKind.wrap .u64 z = z := wrapU64 (by omega) (by omega)
  have u1 : Go.IntKind.wrap .u64 u = u := wrapU64 (by omega) (by omega)
  have e0 : (2 : Int) ^ min (Int.toNat 0) (IntKind.bits IntKind.u64) = 1 := by decide
  have e1 : (2 : Int) ^ min (Int.toNat 8) (IntKind.bits IntKind.u64) = 256 := by decide
  have e2 : (2 : Int) ^ min (Int.toNat 16) (IntKind.bits IntKind.u64) = 65536 := by decide
  have e3 : (2 : Int) ^ min (Int.toNat 24) (IntKind.bits IntKind.u64) = 16777216 := by decide
  have u2 : Go.IntKind.wrap .u64 (u * 1) = u := by rw [Int.mul_one]; exact u1
  have z2 : Go.IntKind.wrap .u64 (z * 256) = z * 256 := wrapU64 (by omega) (by omega)
  have y2 : Go.IntKind.wrap .u64 (y * 65536) = y * 65536 := wrapU64 (by omega) (by omega)
  have x2 : Go.IntKind.wrap .u64 (x * 16777216) = x * 16777216 := wrapU64 (by omega) (by omega)
  have o1 : bits .or .u64 0 u = u := by
    have := or_at 0 u 0 (by decide) (by decide) (by decide) (by omega) (by simp; omega)
    simpa using this
  have o2 : bits .or .u64 u (z * 256) = z * 256 + u := or_at u z 8 (by omega) (by show u.toNat < 256; omega) (by omega) (by omega) (by show z.toNat * 256 < _; omega)
  have o3 : bits .or .u64 (z * 256 + u) (y * 65536) = y * 65536 + (z * 256 + u) := or_at (z * 256 + u) y 16 (by omega) (by show (z * 256 + u).toNat < 65536; omega) (by omega) (by omega) (by show y.toNat * 65536 < _; omega)
  have o4 : bits .or .u64 (y * 65536 + (z * 256 + u)) (x * 16777216) = x * 16777216 + (y * 65536 + (z * 256 + u)) := or_at (y * 65536 + (z * 256 + u)) x 24 (by omega) (by show (y * 65536 + (z * 256 + u)).toNat < 16777216; omega) (by omega) (by omega) (by show x.toNat * 16777216 < _; omega)
  have fin : x * 16777216 + (y * 65536 + (z * 256 + u)) = ((x * 256 + y) * 256 + z) * 256 + u := by omega
  have g0 : getI [u, z, y, x] (0 : Int) = some u := rfl
  have g1 : getI [u, z, y, x] (1 : Int) = some z := rfl
  have g2 : getI [u, z, y, x] (2 : Int) = some y := rfl
  have g3 : getI [u, z, y, x] (3 : Int) = some x := rfl
  have l4 : (([u, z, y, x] : List Int).length : Int) = 4 := rfl
  rw [← fin]
  simp only [qOGet, qOGetL5R, gl, qOGetL5, qOplace, l4, cond_false, cond_true, Option.bind_some, w3, w4, w5, w6, m0, m1, m2, m3, x1, y1, z1, u1, e0, e1, e2, e3, u2, z2, y2, x2, o1, o2, o3, o4, g0, g1, g2, g3]
  simp [w3, w4, w5, w6, m1, m2, m3, x1, y1, z1, u1, e1, e2, e3, z2, y2, x2, o2, o3, o4, g0, g1, g2, g3]
/-- A word of a row of bytes. -/
def lew (l : List Int) (j : Nat) : Int := ((l.getD (4 * j + 3) 0 * 256 + l.getD (4 * j + 2) 0) * 256 + l.getD (4 * j + 1) 0) * 256 + l.getD (4 * j) 0
theorem AllB.getD {l : List Int} (h : AllB l) (i : Nat) : 0 ≤ l.getD i 0 ∧ l.getD i 0 < 256 := by
  rw [List.getD_eq_getElem?_getD]
  cases hq : l[i]? with
  | none => simp
  | some x => exact h x (List.mem_of_getElem? hq)
theorem lew_W {l : List Int} (h : AllB l) (j : Nat) : 0 ≤ lew l j ∧ lew l j < 4294967296 := by
  have h0 := h.getD (4 * j); have h1 := h.getD (4 * j + 1); have h2 := h.getD (4 * j + 2); have h3 := h.getD (4 * j + 3)
  unfold lew; omega
theorem getD_at {l : List Int} {i : Nat} (h : i < l.length) : l.getD i 0 = l[i] := by simp [List.getD_eq_getElem?_getD, h]
theorem words_loop (hN : 10000 ≤ N) (b : Arr Int 64) (hb : AllB b.l) (h0 : Arr Int 16) : ∀ (k M i : Nat) (h1 : Arr Int 16), k + i = 16 → k < M → (∀ j, j < i → h1.l[j]? = some (lew b.l j)) →
    ∃ h2 : Arr Int 16, (∀ j, j < 16 → h2.l[j]? = some (lew b.l j)) ∧ gl (fun X c => md4_words_L3 N X c.1.1 c.1.2.1 c.2.1 c.2.2.1) M ((b, ((i : Int), ())), (h0, (h1, ()))) = some ((), (h0, (h2, ())))
  | 0, M + 1, i, h1, hk, hM, hw => by
    have c1 : ¬ ((i : Int) < 16) := by omega
    refine ⟨h1, fun j hj => hw j (by omega), ?_⟩
    simp only [gl, md4_words_L3, c1, decide_false, cond_false]
  | k + 1, M + 1, i, h1, hk, hM, hw => by
    have hl := h1.h
    have hbl := b.h
    have c1 : ((i : Int) < 16) := by omega
    have c2 : (0 : Int) ≤ (i : Int) ∧ (i : Int) < ((16 : Nat) : Int) := by omega
    have e0 : Go.IntKind.wrap .i64 ((i : Int) + 1) = ((i + 1 : Nat) : Int) := by rw [wrap64 (by omega) (by omega)]; omega
    have e1 : Int.toNat (i : Int) = i := Int.toNat_natCast i
    have g1 : h1.l[i]? = some (h1.l[i]'(by omega)) := List.getElem?_eq_getElem _
    have s1 : Go.IntKind.wrap .i64 ((4 : Int) * (i : Int)) = ((4 * i : Nat) : Int) := by rw [wrap64 (by omega) (by omega)]; omega
    have s2 : Go.IntKind.wrap .i64 (((4 * i : Nat) : Int) + 4) = ((4 * i + 4 : Nat) : Int) := by rw [wrap64 (by omega) (by omega)]; omega
    have s6 : subI b.l ((4 * i : Nat) : Int) ((4 * i + 4 : Nat) : Int) = some [b.l[4 * i]'(by omega), b.l[4 * i + 1]'(by omega), b.l[4 * i + 2]'(by omega), b.l[4 * i + 3]'(by omega)] := by
      rw [subI_nat b.l rfl rfl (by omega) (by omega), drop4 b.l (4 * i) (by omega)]
    have ba := hb.get (4 * i) (by omega)
    have bb := hb.get (4 * i + 1) (by omega)
    have bc := hb.get (4 * i + 2) (by omega)
    have bd := hb.get (4 * i + 3) (by omega)
    have s7 := get4l (N := N) _ _ _ _ bd bc bb ba (by omega)
    have hlw : lew b.l i = ((b.l[4 * i + 3]'(by omega) * 256 + b.l[4 * i + 2]'(by omega)) * 256 + b.l[4 * i + 1]'(by omega)) * 256 + b.l[4 * i]'(by omega) := by
      unfold lew
      rw [getD_at (by omega), getD_at (by omega), getD_at (by omega), getD_at (by omega)]
    rw [← hlw] at s7
    have v1 : Go.IntKind.wrap .u32 (lew b.l i) = lew b.l i := by have := lew_W hb i; rw [w32]; omega
    obtain ⟨h2, r1, r2⟩ := words_loop hN b hb h0 k M (i + 1) (h1.set i (lew b.l i)) (by omega) (by omega) (fun j hj => by
      show (h1.l.set i (lew b.l i))[j]? = _
      by_cases hji : j = i
      · subst hji; rw [List.getElem?_set_self (by omega)]
      · rw [List.getElem?_set_ne (by omega)]; exact hw j (by omega))
    refine ⟨h2, r1, ?_⟩
    rw [gl_succ]
    simp only [md4_words_L3, c1, decide_true, cond_true, s1, s2, s6, Option.bind_some, s7, c2, and_self, e1, g1, e0, v1]
    exact r2
theorem words_ok (hN : 10000 ≤ N) (b : Arr Int 64) (hb : AllB b.l) : ∃ W : Arr Int 16, (∀ j, j < 16 → W.l[j]? = some (lew b.l j)) ∧ md4_words N b = some W := by
  obtain ⟨W, h1, h2⟩ := words_loop hN b hb ⟨List.replicate 16 0, rfl⟩ 16 N 0 ⟨List.replicate 16 0, rfl⟩ (by omega) (by omega) (fun j hj => by omega)
  refine ⟨W, h1, ?_⟩
  have h2' : md4_words_L3_R N ((b, ((0 : Int), ())), ((⟨List.replicate 16 0, rfl⟩ : Arr Int 16), ((⟨List.replicate 16 0, rfl⟩ : Arr Int 16), ()))) = some ((), ((⟨List.replicate 16 0, rfl⟩ : Arr Int 16), (W, ()))) := h2
  unfold md4_words
  refine (congrArg (fun o => Option.bind o _) h2').trans ?_
  rfl
end
/-- Turned by as many bits as a step asks for. -/
theorem rot_pair (N : Nat) (x k : Int) (hk : k = 3 ∨ k = 5 ∨ k = 7 ∨ k = 9 ∨ k = 11 ∨ k = 13 ∨ k = 15 ∨ k = 19) : ∃ r, 0 ≤ r ∧ r < 4294967296 ∧ math_bits_RotateLeft32 N x k = some r ∧ ref04_turn N x k = some r := by
  rcases hk with rfl | rfl | rfl | rfl | rfl | rfl | rfl | rfl
  · exact ⟨bits .or .u32 (Go.IntKind.wrap .u32 (x * 8)) (Int.fdiv x 536870912), (or32r _ _).1, (or32r _ _).2, by kernel_rfl, by kernel_rfl⟩
  · exact ⟨bits .or .u32 (Go.IntKind.wrap .u32 (x * 32)) (Int.fdiv x 134217728), (or32r _ _).1, (or32r _ _).2, by kernel_rfl, by kernel_rfl⟩
  · exact ⟨bits .or .u32 (Go.IntKind.wrap .u32 (x * 128)) (Int.fdiv x 33554432), (or32r _ _).1, (or32r _ _).2, by kernel_rfl, by kernel_rfl⟩
  · exact ⟨bits .or .u32 (Go.IntKind.wrap .u32 (x * 512)) (Int.fdiv x 8388608), (or32r _ _).1, (or32r _ _).2, by kernel_rfl, by kernel_rfl⟩
  · exact ⟨bits .or .u32 (Go.IntKind.wrap .u32 (x * 2048)) (Int.fdiv x 2097152), (or32r _ _).1, (or32r _ _).2, by kernel_rfl, by kernel_rfl⟩
  · exact ⟨bits .or .u32 (Go.IntKind.wrap .u32 (x * 8192)) (Int.fdiv x 524288), (or32r _ _).1, (or32r _ _).2, by kernel_rfl, by kernel_rfl⟩
  · exact ⟨bits .or .u32 (Go.IntKind.wrap .u32 (x * 32768)) (Int.fdiv x 131072), (or32r _ _).1, (or32r _ _).2, by kernel_rfl, by kernel_rfl⟩
  · exact ⟨bits .or .u32 (Go.IntKind.wrap .u32 (x * 524288)) (Int.fdiv x 8192), (or32r _ _).1, (or32r _ _).2, by kernel_rfl, by kernel_rfl⟩
end Go.Proofs.YtpjamebfpgmjdaaDoor
