/-
  Layer 6, on plain data: the words of a block.
-/
import Derived.Test.YtbaidlcbldbmdaaQX0
namespace Go.Proofs.Ytbaidlcbldbmdaa
set_option maxRecDepth 100000
open Go.RowKit
set_option linter.unusedVariables false
set_option linter.unusedSimpArgs false
set_option maxRecDepth 100000

def AllW (l : List Int) : Prop := ∀ x ∈ l, 0 ≤ x ∧ x < 4294967296
theorem AllW.get {l : List Int} (h : AllW l) (i : Nat) (hi : i < l.length) : 0 ≤ l[i] ∧ l[i] < 4294967296 := h _ (List.getElem_mem hi)
theorem AllW.set {l : List Int} (h : AllW l) (i : Nat) {x : Int} (hx : 0 ≤ x ∧ x < 4294967296) : AllW (l.set i x) := fun y hy => by
  rcases List.mem_or_eq_of_mem_set hy with h1 | rfl
  · exact h y h1
  · exact hx
theorem wf_u32 {n : Int} (h : (Lit.int .u32 n).wf = true) : 0 ≤ n ∧ n < 4294967296 := by
  simp only [Lit.wf, Bool.and_eq_true, decide_eq_true_eq, IntKind.min, IntKind.max, IntKind.signed, IntKind.bits] at h
  simp at h
  omega
theorem wfu32 {n : Int} (h : 0 ≤ n ∧ n < 4294967296) : (Lit.int .u32 n).wf = true := by
  simp only [Lit.wf, Bool.and_eq_true, decide_eq_true_eq, IntKind.min, IntKind.max, IntKind.signed, IntKind.bits]
  simp
  omega
theorem wfB_w {n : Nat} (a : Arr Int n) (h : AllW a.l) : wfB (.arr n (.int .u32)) a = true := List.all_eq_true.2 fun x hx => wfu32 (h x hx)
theorem w32 (x : Int) : Go.IntKind.wrap .u32 x = x % 4294967296 := IntKind.wrap_u32 x
theorem w32r (x : Int) : 0 ≤ Go.IntKind.wrap .u32 x ∧ Go.IntKind.wrap .u32 x < 4294967296 := by rw [w32]; omega
theorem or32r (a b : Int) : 0 ≤ bits .or .u32 a b ∧ bits .or .u32 a b < 4294967296 := w32r _
theorem not32 (b : Int) (h : 0 ≤ b ∧ b < 4294967296) : bits .xor .u32 (if IntKind.signed .u32 = true then (-1) else IntKind.max .u32) b = Go.IntKind.wrap .u32 (4294967295 - b) := by
  obtain ⟨x, rfl⟩ := Int.eq_ofNat_of_zero_le h.1
  show IntKind.u32.wrap ((BitVec.ofInt 32 4294967295 ^^^ BitVec.ofInt 32 (x : Int)).toNat : Int) = _
  have e1 : (BitVec.ofInt 32 4294967295 : BitVec 32) = BitVec.allOnes 32 := by decide
  rw [e1, BitVec.allOnes_xor, BitVec.toNat_not, BitVec.ofInt_natCast, BitVec.toNat_ofNat, w32, w32]
  have : x % 2 ^ 32 = x := Nat.mod_eq_of_lt (by omega)
  rw [this]
  omega
theorem drop4 (l : List Int) (i : Nat) (h : i + 4 ≤ l.length) : (l.drop i).take (i + 4 - i) = [l[i], l[i + 1], l[i + 2], l[i + 3]] := by
  rw [show i + 4 - i = 4 by omega, List.drop_eq_getElem_cons (by omega), List.drop_eq_getElem_cons (by omega), List.drop_eq_getElem_cons (by omega), List.drop_eq_getElem_cons (by omega)]
  rfl
section
variable {N : Nat}
theorem get4' (x y z u : Int) (hx : 0 ≤ x ∧ x < 256) (hy : 0 ≤ y ∧ y < 256) (hz : 0 ≤ z ∧ z < 256) (hu : 0 ≤ u ∧ u < 256) (hN : 100 ≤ N) : octs_Get N [x, y, z, u] false = some (((x * 256 + y) * 256 + z) * 256 + u, 0) := get4 x y z u hx hy hz hu hN
theorem sa2 : (2 : Int) ^ min (Int.toNat (bits .and .u64 (Go.IntKind.wrap .u64 (Go.IntKind.wrap .i64 (0 - 2))) 31)) (IntKind.bits .u32) = 1073741824 := by decide +kernel
theorem sb2 : (2 : Int) ^ min (Int.toNat (Go.IntKind.wrap .u64 (32 - bits .and .u64 (Go.IntKind.wrap .u64 (Go.IntKind.wrap .i64 (0 - 2))) 31))) (IntKind.bits .u32) = 4 := by decide +kernel
theorem ra2 : (2 : Int) ^ min (Int.toNat 2) (IntKind.bits .u32) = 4 := by decide +kernel
theorem rb2 : (2 : Int) ^ min (Int.toNat (Go.IntKind.wrap .i64 (32 - 2))) (IntKind.bits .u32) = 1073741824 := by decide +kernel
theorem sa6 : (2 : Int) ^ min (Int.toNat (bits .and .u64 (Go.IntKind.wrap .u64 (Go.IntKind.wrap .i64 (0 - 6))) 31)) (IntKind.bits .u32) = 67108864 := by decide +kernel
theorem sb6 : (2 : Int) ^ min (Int.toNat (Go.IntKind.wrap .u64 (32 - bits .and .u64 (Go.IntKind.wrap .u64 (Go.IntKind.wrap .i64 (0 - 6))) 31))) (IntKind.bits .u32) = 64 := by decide +kernel
theorem ra6 : (2 : Int) ^ min (Int.toNat 6) (IntKind.bits .u32) = 64 := by decide +kernel
theorem rb6 : (2 : Int) ^ min (Int.toNat (Go.IntKind.wrap .i64 (32 - 6))) (IntKind.bits .u32) = 67108864 := by decide +kernel
theorem sa7 : (2 : Int) ^ min (Int.toNat (bits .and .u64 (Go.IntKind.wrap .u64 (Go.IntKind.wrap .i64 (0 - 7))) 31)) (IntKind.bits .u32) = 33554432 := by decide +kernel
theorem sb7 : (2 : Int) ^ min (Int.toNat (Go.IntKind.wrap .u64 (32 - bits .and .u64 (Go.IntKind.wrap .u64 (Go.IntKind.wrap .i64 (0 - 7))) 31))) (IntKind.bits .u32) = 128 := by decide +kernel
theorem ra7 : (2 : Int) ^ min (Int.toNat 7) (IntKind.bits .u32) = 128 := by decide +kernel
theorem rb7 : (2 : Int) ^ min (Int.toNat (Go.IntKind.wrap .i64 (32 - 7))) (IntKind.bits .u32) = 33554432 := by decide +kernel
theorem sa11 : (2 : Int) ^ min (Int.toNat (bits .and .u64 (Go.IntKind.wrap .u64 (Go.IntKind.wrap .i64 (0 - 11))) 31)) (IntKind.bits .u32) = 2097152 := by decide +kernel
theorem sb11 : (2 : Int) ^ min (Int.toNat (Go.IntKind.wrap .u64 (32 - bits .and .u64 (Go.IntKind.wrap .u64 (Go.IntKind.wrap .i64 (0 - 11))) 31))) (IntKind.bits .u32) = 2048 := by decide +kernel
theorem ra11 : (2 : Int) ^ min (Int.toNat 11) (IntKind.bits .u32) = 2048 := by decide +kernel
theorem rb11 : (2 : Int) ^ min (Int.toNat (Go.IntKind.wrap .i64 (32 - 11))) (IntKind.bits .u32) = 2097152 := by decide +kernel
theorem sa13 : (2 : Int) ^ min (Int.toNat (bits .and .u64 (Go.IntKind.wrap .u64 (Go.IntKind.wrap .i64 (0 - 13))) 31)) (IntKind.bits .u32) = 524288 := by decide +kernel
theorem sb13 : (2 : Int) ^ min (Int.toNat (Go.IntKind.wrap .u64 (32 - bits .and .u64 (Go.IntKind.wrap .u64 (Go.IntKind.wrap .i64 (0 - 13))) 31))) (IntKind.bits .u32) = 8192 := by decide +kernel
theorem ra13 : (2 : Int) ^ min (Int.toNat 13) (IntKind.bits .u32) = 8192 := by decide +kernel
theorem rb13 : (2 : Int) ^ min (Int.toNat (Go.IntKind.wrap .i64 (32 - 13))) (IntKind.bits .u32) = 524288 := by decide +kernel
theorem sa17 : (2 : Int) ^ min (Int.toNat (bits .and .u64 (Go.IntKind.wrap .u64 (Go.IntKind.wrap .i64 (0 - 17))) 31)) (IntKind.bits .u32) = 32768 := by decide +kernel
theorem sb17 : (2 : Int) ^ min (Int.toNat (Go.IntKind.wrap .u64 (32 - bits .and .u64 (Go.IntKind.wrap .u64 (Go.IntKind.wrap .i64 (0 - 17))) 31))) (IntKind.bits .u32) = 131072 := by decide +kernel
theorem ra17 : (2 : Int) ^ min (Int.toNat 17) (IntKind.bits .u32) = 131072 := by decide +kernel
theorem rb17 : (2 : Int) ^ min (Int.toNat (Go.IntKind.wrap .i64 (32 - 17))) (IntKind.bits .u32) = 32768 := by decide +kernel
theorem sa18 : (2 : Int) ^ min (Int.toNat (bits .and .u64 (Go.IntKind.wrap .u64 (Go.IntKind.wrap .i64 (0 - 18))) 31)) (IntKind.bits .u32) = 16384 := by decide +kernel
theorem sb18 : (2 : Int) ^ min (Int.toNat (Go.IntKind.wrap .u64 (32 - bits .and .u64 (Go.IntKind.wrap .u64 (Go.IntKind.wrap .i64 (0 - 18))) 31))) (IntKind.bits .u32) = 262144 := by decide +kernel
theorem ra18 : (2 : Int) ^ min (Int.toNat 18) (IntKind.bits .u32) = 262144 := by decide +kernel
theorem rb18 : (2 : Int) ^ min (Int.toNat (Go.IntKind.wrap .i64 (32 - 18))) (IntKind.bits .u32) = 16384 := by decide +kernel
theorem sa19 : (2 : Int) ^ min (Int.toNat (bits .and .u64 (Go.IntKind.wrap .u64 (Go.IntKind.wrap .i64 (0 - 19))) 31)) (IntKind.bits .u32) = 8192 := by decide +kernel
theorem sb19 : (2 : Int) ^ min (Int.toNat (Go.IntKind.wrap .u64 (32 - bits .and .u64 (Go.IntKind.wrap .u64 (Go.IntKind.wrap .i64 (0 - 19))) 31))) (IntKind.bits .u32) = 524288 := by decide +kernel
theorem ra19 : (2 : Int) ^ min (Int.toNat 19) (IntKind.bits .u32) = 524288 := by decide +kernel
theorem rb19 : (2 : Int) ^ min (Int.toNat (Go.IntKind.wrap .i64 (32 - 19))) (IntKind.bits .u32) = 8192 := by decide +kernel
theorem sa22 : (2 : Int) ^ min (Int.toNat (bits .and .u64 (Go.IntKind.wrap .u64 (Go.IntKind.wrap .i64 (0 - 22))) 31)) (IntKind.bits .u32) = 1024 := by decide +kernel
theorem sb22 : (2 : Int) ^ min (Int.toNat (Go.IntKind.wrap .u64 (32 - bits .and .u64 (Go.IntKind.wrap .u64 (Go.IntKind.wrap .i64 (0 - 22))) 31))) (IntKind.bits .u32) = 4194304 := by decide +kernel
theorem ra22 : (2 : Int) ^ min (Int.toNat 22) (IntKind.bits .u32) = 4194304 := by decide +kernel
theorem rb22 : (2 : Int) ^ min (Int.toNat (Go.IntKind.wrap .i64 (32 - 22))) (IntKind.bits .u32) = 1024 := by decide +kernel
theorem sa25 : (2 : Int) ^ min (Int.toNat (bits .and .u64 (Go.IntKind.wrap .u64 (Go.IntKind.wrap .i64 (0 - 25))) 31)) (IntKind.bits .u32) = 128 := by decide +kernel
theorem sb25 : (2 : Int) ^ min (Int.toNat (Go.IntKind.wrap .u64 (32 - bits .and .u64 (Go.IntKind.wrap .u64 (Go.IntKind.wrap .i64 (0 - 25))) 31))) (IntKind.bits .u32) = 33554432 := by decide +kernel
theorem ra25 : (2 : Int) ^ min (Int.toNat 25) (IntKind.bits .u32) = 33554432 := by decide +kernel
theorem rb25 : (2 : Int) ^ min (Int.toNat (Go.IntKind.wrap .i64 (32 - 25))) (IntKind.bits .u32) = 128 := by decide +kernel
theorem ra3 : (2 : Int) ^ min (Int.toNat 3) (IntKind.bits .u32) = 8 := by decide +kernel
theorem ra10 : (2 : Int) ^ min (Int.toNat 10) (IntKind.bits .u32) = 1024 := by decide +kernel
theorem orc (v A B : Int) : bits .or .u32 (Int.fdiv v A) (Go.IntKind.wrap .u32 (v * B)) = bits .or .u32 (Go.IntKind.wrap .u32 (v * B)) (Int.fdiv v A) := by
  unfold bits
  simp only [BitVec.or_comm]
theorem wordsA (hN : 10000 ≤ N) (b : Arr Int 64) (hb : AllB b.l) (s : Arr Int 8) (h0 : Arr Int 64) (h0' : Arr Int 8) : ∀ (k M i : Nat) (h1 : Arr Int 64), k + i = 16 → k < M → AllW h1.l →
    ∃ h2 : Arr Int 64, AllW h2.l ∧ gl (fun X c => sha256_words_L3 N X c.1.1 c.1.2.1 c.2.1 c.2.2.1) M ((b, ((i : Int), ())), (h0, (h1, ()))) = some ((), (h0, (h2, ()))) ∧
      ∀ K, gl (fun X c => ref06_Block_L3 N X c.1.1 c.1.2.1 c.1.2.2.1 c.2.1 c.2.2.1) (K + k) ((s, (b, ((i : Int), ()))), (h0', (h1, ()))) = gl (fun X c => ref06_Block_L3 N X c.1.1 c.1.2.1 c.1.2.2.1 c.2.1 c.2.2.1) K ((s, (b, ((16 : Int), ()))), (h0', (h2, ())))
  | 0, M + 1, i, h1, hk, hM, hw => by
    have hi : i = 16 := by omega
    subst hi
    refine ⟨h1, hw, ?_, fun K => rfl⟩
    rw [gl_succ]
    rfl
  | k + 1, M + 1, i, h1, hk, hM, hw => by
    have hl := h1.h
    have hbl := b.h
    have c0 : ((i : Int) < 64) := by omega
    have c3 : ((i : Int) < 16) := by omega
    have c2 : (0 : Int) ≤ (i : Int) ∧ (i : Int) < ((64 : Nat) : Int) := by omega
    have e0 : Go.IntKind.wrap .i64 ((i : Int) + 1) = ((i + 1 : Nat) : Int) := by rw [wrap64 (by omega) (by omega)]; omega
    have e1 : Int.toNat (i : Int) = i := Int.toNat_natCast i
    have g1 : h1.l[i]? = some (h1.l[i]'(by omega)) := List.getElem?_eq_getElem _
    have s1 : Go.IntKind.wrap .i64 ((4 : Int) * (i : Int)) = ((4 * i : Nat) : Int) := by rw [wrap64 (by omega) (by omega)]; omega
    have s2 : Go.IntKind.wrap .i64 (((4 * i : Nat) : Int) + 4) = ((4 * i + 4 : Nat) : Int) := by rw [wrap64 (by omega) (by omega)]; omega
    have s3 : Go.IntKind.wrap .i64 (((4 * i : Nat) : Int) + 1) = ((4 * i + 1 : Nat) : Int) := by rw [wrap64 (by omega) (by omega)]; omega
    have s4 : Go.IntKind.wrap .i64 (((4 * i : Nat) : Int) + 2) = ((4 * i + 2 : Nat) : Int) := by rw [wrap64 (by omega) (by omega)]; omega
    have s5 : Go.IntKind.wrap .i64 (((4 * i : Nat) : Int) + 3) = ((4 * i + 3 : Nat) : Int) := by rw [wrap64 (by omega) (by omega)]; omega
    have s6 : subI b.l ((4 * i : Nat) : Int) ((4 * i + 4 : Nat) : Int) = some [b.l[4 * i]'(by omega), b.l[4 * i + 1]'(by omega), b.l[4 * i + 2]'(by omega), b.l[4 * i + 3]'(by omega)] := by
      rw [subI_nat b.l rfl rfl (by omega) (by omega), drop4 b.l (4 * i) (by omega)]
    have ba := hb.get (4 * i) (by omega)
    have bb := hb.get (4 * i + 1) (by omega)
    have bc := hb.get (4 * i + 2) (by omega)
    have bd := hb.get (4 * i + 3) (by omega)
    have s7 := get4' (N := N) _ _ _ _ ba bb bc bd (by omega)
    have G0 := getI_lt b.l (4 * i) (by omega)
    have G1 := getI_lt b.l (4 * i + 1) (by omega)
    have G2 := getI_lt b.l (4 * i + 2) (by omega)
    have G3 := getI_lt b.l (4 * i + 3) (by omega)
    generalize hx : b.l[4 * i]'(by omega) = x at *
    generalize hy : b.l[4 * i + 1]'(by omega) = y at *
    generalize hz : b.l[4 * i + 2]'(by omega) = z at *
    generalize hu : b.l[4 * i + 3]'(by omega) = u at *
    have v1 : Go.IntKind.wrap .u32 (((x * 256 + y) * 256 + z) * 256 + u) = ((x * 256 + y) * 256 + z) * 256 + u := by rw [w32]; omega
    have v2 : Go.IntKind.wrap .u32 (Go.IntKind.wrap .u32 (Go.IntKind.wrap .u32 (Go.IntKind.wrap .u32 (Go.IntKind.wrap .u32 x * 16777216) + Go.IntKind.wrap .u32 (Go.IntKind.wrap .u32 y * 65536)) + Go.IntKind.wrap .u32 (Go.IntKind.wrap .u32 z * 256)) + Go.IntKind.wrap .u32 u) = ((x * 256 + y) * 256 + z) * 256 + u := by
      simp only [w32]; omega
    obtain ⟨h2, r1, r2, r3⟩ := wordsA hN b hb s h0 h0' k M (i + 1) (h1.set i (((x * 256 + y) * 256 + z) * 256 + u)) (by omega) (by omega) (hw.set i (by omega))
    refine ⟨h2, r1, ?_, fun K => ?_⟩
    · rw [gl_succ]
      simp only [sha256_words_L3, c3, decide_true, cond_true, s1, s2, s6, Option.bind_some, s7, c2, and_self, e1, g1, e0, v1]
      exact r2
    · rw [show K + (k + 1) = (K + k) + 1 from rfl, gl_succ]
      simp only [ref06_Block_L3, c0, c3, decide_true, cond_true, s1, s3, s4, s5, G0, G1, G2, G3, Option.bind_some, c2, and_self, e1, g1, e0, v2]
      exact r3 K
theorem wordsB (hN : 10000 ≤ N) (b : Arr Int 64) (s : Arr Int 8) (h0 : Arr Int 64) (h0' : Arr Int 8) : ∀ (k M M' i : Nat) (h1 : Arr Int 64), k + i = 64 → 16 ≤ i → k < M → k < M' → AllW h1.l →
    ∃ h2 : Arr Int 64, AllW h2.l ∧ gl (fun X c => sha256_words_L9 N X c.1.1 c.2.1 c.2.2.1) M (((i : Int), ()), (h0, (h1, ()))) = some ((), (h0, (h2, ()))) ∧
      gl (fun X c => ref06_Block_L3 N X c.1.1 c.1.2.1 c.1.2.2.1 c.2.1 c.2.2.1) M' ((s, (b, ((i : Int), ()))), (h0', (h1, ()))) = some ((s, ()), (h0', (h2, ())))
  | 0, M + 1, M' + 1, i, h1, hk, h16, hM, hM', hw => by
    have hi : i = 64 := by omega
    subst hi
    refine ⟨h1, hw, ?_, ?_⟩
    · rw [gl_succ]; rfl
    · rw [gl_succ]; rfl
  | k + 1, M + 1, M' + 1, i, h1, hk, h16, hM, hM', hw => by
    have hl := h1.h
    have c0 : ((i : Int) < 64) := by omega
    have c3 : ¬ ((i : Int) < 16) := by omega
    have c2 : (0 : Int) ≤ (i : Int) ∧ (i : Int) < ((64 : Nat) : Int) := by omega
    have e0 : Go.IntKind.wrap .i64 ((i : Int) + 1) = ((i + 1 : Nat) : Int) := by rw [wrap64 (by omega) (by omega)]; omega
    have e1 : Int.toNat (i : Int) = i := Int.toNat_natCast i
    have g1 : h1.l[i]? = some (h1.l[i]'(by omega)) := List.getElem?_eq_getElem _
    have t1 : Go.IntKind.wrap .i64 ((i : Int) - 16) = ((i - 16 : Nat) : Int) := by rw [wrap64 (by omega) (by omega)]; omega
    have d1 : (0 : Int) ≤ ((i - 16 : Nat) : Int) ∧ ((i - 16 : Nat) : Int) < ((64 : Nat) : Int) := by omega
    have f1 : Int.toNat ((i - 16 : Nat) : Int) = i - 16 := Int.toNat_natCast _
    have g2 : h1.l[i - 16]? = some (h1.l[i - 16]'(by omega)) := List.getElem?_eq_getElem _
    have t2 : Go.IntKind.wrap .i64 ((i : Int) - 7) = ((i - 7 : Nat) : Int) := by rw [wrap64 (by omega) (by omega)]; omega
    have d2 : (0 : Int) ≤ ((i - 7 : Nat) : Int) ∧ ((i - 7 : Nat) : Int) < ((64 : Nat) : Int) := by omega
    have f2 : Int.toNat ((i - 7 : Nat) : Int) = i - 7 := Int.toNat_natCast _
    have g3 : h1.l[i - 7]? = some (h1.l[i - 7]'(by omega)) := List.getElem?_eq_getElem _
    have t3 : Go.IntKind.wrap .i64 ((i : Int) - 15) = ((i - 15 : Nat) : Int) := by rw [wrap64 (by omega) (by omega)]; omega
    have d3 : (0 : Int) ≤ ((i - 15 : Nat) : Int) ∧ ((i - 15 : Nat) : Int) < ((64 : Nat) : Int) := by omega
    have f3 : Int.toNat ((i - 15 : Nat) : Int) = i - 15 := Int.toNat_natCast _
    have g4 : h1.l[i - 15]? = some (h1.l[i - 15]'(by omega)) := List.getElem?_eq_getElem _
    have t4 : Go.IntKind.wrap .i64 ((i : Int) - 2) = ((i - 2 : Nat) : Int) := by rw [wrap64 (by omega) (by omega)]; omega
    have d4 : (0 : Int) ≤ ((i - 2 : Nat) : Int) ∧ ((i - 2 : Nat) : Int) < ((64 : Nat) : Int) := by omega
    have f4 : Int.toNat ((i - 2 : Nat) : Int) = i - 2 := Int.toNat_natCast _
    have g5 : h1.l[i - 2]? = some (h1.l[i - 2]'(by omega)) := List.getElem?_eq_getElem _
    generalize h1.l[i - 16]'(by omega) = x at *
    generalize h1.l[i - 7]'(by omega) = y at *
    generalize h1.l[i - 15]'(by omega) = z at *
    generalize h1.l[i - 2]'(by omega) = u at *
    obtain ⟨h2, r1, r2, r3⟩ := wordsB hN b s h0 h0' k M M' (i + 1) (h1.set i (Go.IntKind.wrap .u32 (Go.IntKind.wrap .u32 (Go.IntKind.wrap .u32 (x + y) + bits .xor .u32 (bits .xor .u32 (bits .or .u32 (Go.IntKind.wrap .u32 (z * 33554432)) (Int.fdiv z 128)) (bits .or .u32 (Go.IntKind.wrap .u32 (z * 16384)) (Int.fdiv z 262144))) (Int.fdiv z 8)) + bits .xor .u32 (bits .xor .u32 (bits .or .u32 (Go.IntKind.wrap .u32 (u * 32768)) (Int.fdiv u 131072)) (bits .or .u32 (Go.IntKind.wrap .u32 (u * 8192)) (Int.fdiv u 524288))) (Int.fdiv u 1024)))) (by omega) (by omega) (by omega) (by omega) (hw.set i (w32r _))
    refine ⟨h2, r1, ?_, ?_⟩
    · rw [gl_succ]
      show sha256_words_L9 N (gl (fun X c => sha256_words_L9 N X c.1.1 c.2.1 c.2.2.1) M) (i : Int) h0 h1 = _
      generalize gl (fun X c => sha256_words_L9 N X c.1.1 c.2.1 c.2.2.1) M = X at r2 ⊢
      simp only [sha256_words_L9, c0, decide_true, cond_true, t1, t2, t3, t4, d1, d2, d3, d4, f1, f2, f3, f4, g2, g3, g4, g5, Option.bind_some, c2, and_self, e1, g1, e0, sa7, sb7, sa18, sb18, sa17, sb17, sa19, sb19, ra3, ra10]
      exact r2
    · rw [gl_succ]
      show ref06_Block_L3 N (gl (fun X c => ref06_Block_L3 N X c.1.1 c.1.2.1 c.1.2.2.1 c.2.1 c.2.2.1) M') s b (i : Int) h0' h1 = _
      generalize gl (fun X c => ref06_Block_L3 N X c.1.1 c.1.2.1 c.1.2.2.1 c.2.1 c.2.2.1) M' = X at r3 ⊢
      simp only [ref06_Block_L3, c0, c3, decide_true, decide_false, cond_true, cond_false, t1, t2, t3, t4, d1, d2, d3, d4, f1, f2, f3, f4, g2, g3, g4, g5, Option.bind_some, c2, and_self, e1, g1, e0, ra7, rb7, ra18, rb18, ra17, rb17, ra19, rb19, ra3, ra10, orc]
      exact r3
end
end Go.Proofs.Ytbaidlcbldbmdaa
