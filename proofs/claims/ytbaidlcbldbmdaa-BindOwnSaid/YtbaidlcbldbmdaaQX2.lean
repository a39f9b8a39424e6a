/-
  Layer 6, on plain data: blocks are the document's.
-/
import Derived.Test.YtbaidlcbldbmdaaQX1
namespace Go.Proofs.Ytbaidlcbldbmdaa
set_option maxRecDepth 100000
open Go.RowKit
set_option linter.unusedVariables false
set_option linter.unusedSimpArgs false
set_option maxRecDepth 100000

section
variable {N : Nat}
theorem steps_pair (hN : 10000 ≤ N) (W : Arr Int 64) (hW : AllW W.l) (s h0 h0' : Arr Int 8) : ∀ (k M i : Nat) (t : Arr Int 8), k + i = 64 → k < M → AllW t.l →
    ∃ t2 : Arr Int 8, AllW t2.l ∧ gl (fun X c => sha256_behind_L4 N X c.1.1 c.1.2.1 c.1.2.2.1 c.2.1 c.2.2.1 c.2.2.2.1) M ((s, (ks06, ((i : Int), ()))), (h0, (W, (t, ())))) = some ((s, ()), (h0, (t2, ()))) ∧
      gl (fun X c => ref06_Block_L11 N X c.1.1 c.1.2.1 c.1.2.2.1 c.2.1 c.2.2.1 c.2.2.2.1) M ((s, (kl06, ((i : Int), ()))), (h0', (W, (t, ())))) = some ((s, ()), (h0', (t2, ())))
  | 0, M + 1, i, t, hk, hM, hw => by
    have hi : i = 64 := by omega
    subst hi
    refine ⟨t, hw, ?_, ?_⟩
    · rw [gl_succ]; rfl
    · rw [gl_succ]; rfl
  | k + 1, M + 1, i, t, hk, hM, hw => by
    have hWl := W.h
    have c1 : ((i : Int) < 64) := by omega
    have c2 : (0 : Int) ≤ (i : Int) ∧ (i : Int) < ((64 : Nat) : Int) := by omega
    have e0 : Go.IntKind.wrap .i64 ((i : Int) + 1) = ((i + 1 : Nat) : Int) := by rw [wrap64 (by omega) (by omega)]; omega
    have e1 : Int.toNat (i : Int) = i := Int.toNat_natCast i
    have g1 : W.l[i]? = some (W.l[i]'(by omega)) := List.getElem?_eq_getElem _
    have hWi := hW.get i (by omega)
    have hkl : kl06.length = 64 := rfl
    have k1 : getI ks06.l (i : Int) = some (kl06[i]'(by omega)) := getI_lt kl06 i (by omega)
    have k2 : getI kl06 (i : Int) = some (kl06[i]'(by omega)) := getI_lt kl06 i (by omega)
    generalize W.l[i]'(by omega) = wi at *
    generalize kl06[i]'(by omega) = ki at *
    match t, hw with
    | ⟨[a, b, c, d, e, f, g, h], ht⟩, hw =>
      have ra := hw a (by simp)
      have rb := hw b (by simp)
      have rc := hw c (by simp)
      have re := hw e (by simp)
      have rf := hw f (by simp)
      have rg := hw g (by simp)
      have nt := not32 e re
      have z0 : ([a, b, c, d, e, f, g, h] : List Int)[Int.toNat 0]? = some a := rfl
      have y0 : getI ([a, b, c, d, e, f, g, h] : List Int) 0 = some a := rfl
      have z1 : ([a, b, c, d, e, f, g, h] : List Int)[Int.toNat 1]? = some b := rfl
      have y1 : getI ([a, b, c, d, e, f, g, h] : List Int) 1 = some b := rfl
      have z2 : ([a, b, c, d, e, f, g, h] : List Int)[Int.toNat 2]? = some c := rfl
      have y2 : getI ([a, b, c, d, e, f, g, h] : List Int) 2 = some c := rfl
      have z3 : ([a, b, c, d, e, f, g, h] : List Int)[Int.toNat 3]? = some d := rfl
      have y3 : getI ([a, b, c, d, e, f, g, h] : List Int) 3 = some d := rfl
      have z4 : ([a, b, c, d, e, f, g, h] : List Int)[Int.toNat 4]? = some e := rfl
      have y4 : getI ([a, b, c, d, e, f, g, h] : List Int) 4 = some e := rfl
      have z5 : ([a, b, c, d, e, f, g, h] : List Int)[Int.toNat 5]? = some f := rfl
      have y5 : getI ([a, b, c, d, e, f, g, h] : List Int) 5 = some f := rfl
      have z6 : ([a, b, c, d, e, f, g, h] : List Int)[Int.toNat 6]? = some g := rfl
      have y6 : getI ([a, b, c, d, e, f, g, h] : List Int) 6 = some g := rfl
      have z7 : ([a, b, c, d, e, f, g, h] : List Int)[Int.toNat 7]? = some h := rfl
      have y7 : getI ([a, b, c, d, e, f, g, h] : List Int) 7 = some h := rfl
      have x1 : ∀ r : Int, Go.IntKind.wrap .u32 (r + Go.IntKind.wrap .u32 (ki + wi)) = Go.IntKind.wrap .u32 (Go.IntKind.wrap .u32 (r + ki) + wi) := fun r => by simp only [w32]; omega
      obtain ⟨t2, r1, r2, r3⟩ := steps_pair hN W hW s h0 h0' k M (i + 1) (Arr.cons (Go.IntKind.wrap .u32 (Go.IntKind.wrap .u32 (Go.IntKind.wrap .u32 (Go.IntKind.wrap .u32 (Go.IntKind.wrap .u32 (h + (bits .xor .u32 (bits .xor .u32 (bits .or .u32 (Go.IntKind.wrap .u32 (e * 67108864)) (Int.fdiv e 64)) (bits .or .u32 (Go.IntKind.wrap .u32 (e * 2097152)) (Int.fdiv e 2048))) (bits .or .u32 (Go.IntKind.wrap .u32 (e * 128)) (Int.fdiv e 33554432)))) + (bits .or .u32 (bits .and .u32 e f) (bits .and .u32 (Go.IntKind.wrap .u32 (4294967295 - e)) g))) + ki) + wi) + Go.IntKind.wrap .u32 ((bits .xor .u32 (bits .xor .u32 (bits .or .u32 (Go.IntKind.wrap .u32 (a * 1073741824)) (Int.fdiv a 4)) (bits .or .u32 (Go.IntKind.wrap .u32 (a * 524288)) (Int.fdiv a 8192))) (bits .or .u32 (Go.IntKind.wrap .u32 (a * 1024)) (Int.fdiv a 4194304))) + (bits .or .u32 (bits .or .u32 (bits .and .u32 a b) (bits .and .u32 a c)) (bits .and .u32 b c))))) (Arr.cons a (Arr.cons b (Arr.cons c (Arr.cons (Go.IntKind.wrap .u32 (d + Go.IntKind.wrap .u32 (Go.IntKind.wrap .u32 (Go.IntKind.wrap .u32 (Go.IntKind.wrap .u32 (h + (bits .xor .u32 (bits .xor .u32 (bits .or .u32 (Go.IntKind.wrap .u32 (e * 67108864)) (Int.fdiv e 64)) (bits .or .u32 (Go.IntKind.wrap .u32 (e * 2097152)) (Int.fdiv e 2048))) (bits .or .u32 (Go.IntKind.wrap .u32 (e * 128)) (Int.fdiv e 33554432)))) + (bits .or .u32 (bits .and .u32 e f) (bits .and .u32 (Go.IntKind.wrap .u32 (4294967295 - e)) g))) + ki) + wi))) (Arr.cons e (Arr.cons f (Arr.cons g Arr.nil)))))))) (by omega) (by omega) (fun x hx => by
        simp only [Arr.cons, Arr.nil, List.mem_cons, List.not_mem_nil, or_false] at hx
        rcases hx with rfl | rfl | rfl | rfl | rfl | rfl | rfl | rfl
        · exact w32r _
        · exact ra
        · exact rb
        · exact rc
        · exact w32r _
        · exact re
        · exact rf
        · exact rg)
      refine ⟨t2, r1, ?_, ?_⟩
      · rw [gl_succ]
        show sha256_behind_L4 N (gl (fun X c => sha256_behind_L4 N X c.1.1 c.1.2.1 c.1.2.2.1 c.2.1 c.2.2.1 c.2.2.2.1) M) s ks06 (i : Int) h0 W ⟨[a, b, c, d, e, f, g, h], ht⟩ = _
        generalize gl (fun X c => sha256_behind_L4 N X c.1.1 c.1.2.1 c.1.2.2.1 c.2.1 c.2.2.1 c.2.2.2.1) M = X at r2 ⊢
        simp only [sha256_behind_L4, sha256_step, c1, decide_true, cond_true, k1, y0, y1, y2, y3, y4, y5, y6, y7, Option.bind_some, c2, and_self, e1, g1, e0, nt, sa6, sb6, sa11, sb11, sa25, sb25, sa2, sb2, sa13, sb13, sa22, sb22, x1]
        exact r2
      · rw [gl_succ]
        show ref06_Block_L11 N (gl (fun X c => ref06_Block_L11 N X c.1.1 c.1.2.1 c.1.2.2.1 c.2.1 c.2.2.1 c.2.2.2.1) M) s kl06 (i : Int) h0' W ⟨[a, b, c, d, e, f, g, h], ht⟩ = _
        generalize gl (fun X c => ref06_Block_L11 N X c.1.1 c.1.2.1 c.1.2.2.1 c.2.1 c.2.2.1 c.2.2.2.1) M = X at r3 ⊢
        simp only [ref06_Block_L11, c1, decide_true, cond_true, k2, z0, z1, z2, z3, z4, z5, z6, z7, Option.bind_some, c2, and_self, e1, g1, e0, ra6, rb6, ra11, rb11, ra25, rb25, ra2, rb2, ra13, rb13, ra22, rb22, orc]
        exact r3
theorem add_pair (hN : 10000 ≤ N) (s h0 : Arr Int 8) (hs : AllW s.l) : ∀ (k M i : Nat) (t : Arr Int 8), k + i = 8 → k < M → AllW t.l →
    ∃ t2 : Arr Int 8, AllW t2.l ∧ gl (fun X c => sha256_behind_L9 N X c.1.1 c.1.2.1 c.2.1 c.2.2.1) M ((s, ((i : Int), ())), (h0, (t, ()))) = some ((), (h0, (t2, ()))) ∧ (gl (fun X c => ref06_Block_L17 N X c.1.1 c.1.2.1 c.2.1 c.2.2.1) M ((s, ((i : Int), ())), (h0, (t, ()))) = some ((), (h0, (t2, ()))))
  | 0, M + 1, i, t, hk, hM, hw => by
    have c1 : ¬ ((i : Int) < 8) := by omega
    refine ⟨t, hw, ?_, ?_⟩
    · simp only [gl, sha256_behind_L9, c1, decide_false, cond_false]
    · simp only [gl, ref06_Block_L17, c1, decide_false, cond_false]
  | k + 1, M + 1, i, t, hk, hM, hw => by
    have hl := t.h
    have hsl := s.h
    have c1 : ((i : Int) < 8) := by omega
    have c2 : (0 : Int) ≤ (i : Int) ∧ (i : Int) < ((8 : Nat) : Int) := by omega
    have e0 : Go.IntKind.wrap .i64 ((i : Int) + 1) = ((i + 1 : Nat) : Int) := by rw [wrap64 (by omega) (by omega)]; omega
    have e1 : Int.toNat (i : Int) = i := Int.toNat_natCast i
    have g1 : t.l[i]? = some (t.l[i]'(by omega)) := List.getElem?_eq_getElem _
    have g2 := getI_lt s.l i (by omega)
    obtain ⟨t2, r1, r2, r3⟩ := add_pair hN s h0 hs k M (i + 1) (t.set i (Go.IntKind.wrap .u32 (t.l[i]'(by omega) + s.l[i]'(by omega)))) (by omega) (by omega) (hw.set i (w32r _))
    refine ⟨t2, r1, ?_, ?_⟩
    · rw [gl_succ]
      simp only [sha256_behind_L9, c1, decide_true, cond_true, c2, and_self, e1, g1, g2, e0, Option.bind_some]
      exact r2
    · rw [gl_succ]
      simp only [ref06_Block_L17, c1, decide_true, cond_true, c2, and_self, e1, g1, g2, e0, Option.bind_some]
      exact r3
/-- The state behind a block: the same. -/
theorem behind_pair (hN : 10000 ≤ N) (s : Arr Int 8) (b : Arr Int 64) (hs : AllW s.l) (hb : AllB b.l) : ∃ t : Arr Int 8, AllW t.l ∧ sha256_behind N s b ks06 = some t ∧ ref06_Block N s b = some t := by
  have hz : AllW (List.replicate 64 (0 : Int)) := fun x hx => by rw [(List.mem_replicate.1 hx).2]; omega
  obtain ⟨V, v1, v2, v3⟩ := wordsA (N := N) hN b hb s ⟨List.replicate 64 0, rfl⟩ ⟨List.replicate 8 0, rfl⟩ 16 N 0 ⟨List.replicate 64 0, rfl⟩ (by omega) (by omega) hz
  obtain ⟨W, w1, w2, w3⟩ := wordsB (N := N) hN b s ⟨List.replicate 64 0, rfl⟩ ⟨List.replicate 8 0, rfl⟩ 48 N (N - 16) 16 V (by omega) (by omega) (by omega) (by omega) v1
  have v3' := (v3 (N - 16)).trans w3
  rw [show N - 16 + 16 = N by omega] at v3'
  unfold sha256_behind sha256_words ref06_Block
  have v2' : sha256_words_L3_R N ((b, ((0 : Int), ())), ((⟨List.replicate 64 0, rfl⟩ : Arr Int 64), ((⟨List.replicate 64 0, rfl⟩ : Arr Int 64), ()))) = some ((), ((⟨List.replicate 64 0, rfl⟩ : Arr Int 64), (V, ()))) := v2
  have w2' : sha256_words_L9_R N (((16 : Int), ()), ((⟨List.replicate 64 0, rfl⟩ : Arr Int 64), (V, ()))) = some ((), ((⟨List.replicate 64 0, rfl⟩ : Arr Int 64), (W, ()))) := w2
  have w3' : ref06_Block_L3_R N ((s, (b, ((0 : Int), ()))), ((⟨List.replicate 8 0, rfl⟩ : Arr Int 8), ((⟨List.replicate 64 0, rfl⟩ : Arr Int 64), ()))) = some ((s, ()), ((⟨List.replicate 8 0, rfl⟩ : Arr Int 8), (W, ()))) := v3'
  obtain ⟨t, t1, t2, t3⟩ := steps_pair (N := N) hN W w1 s ⟨List.replicate 8 0, rfl⟩ ⟨List.replicate 8 0, rfl⟩ 64 N 0 s (by omega) (by omega) hs
  have t2' : sha256_behind_L4_R N ((s, (ks06, ((0 : Int), ()))), ((⟨List.replicate 8 0, rfl⟩ : Arr Int 8), (W, (s, ())))) = some ((s, ()), ((⟨List.replicate 8 0, rfl⟩ : Arr Int 8), (t, ()))) := t2
  have t3' : ref06_Block_L11_R N ((s, (kl06, ((0 : Int), ()))), ((⟨List.replicate 8 0, rfl⟩ : Arr Int 8), (W, (s, ())))) = some ((s, ()), ((⟨List.replicate 8 0, rfl⟩ : Arr Int 8), (t, ()))) := t3
  obtain ⟨u, u1, u2, u3⟩ := add_pair (N := N) hN s ⟨List.replicate 8 0, rfl⟩ hs 8 N 0 t (by omega) (by omega) t1
  have u2' : sha256_behind_L9_R N ((s, ((0 : Int), ())), ((⟨List.replicate 8 0, rfl⟩ : Arr Int 8), (t, ()))) = some ((), ((⟨List.replicate 8 0, rfl⟩ : Arr Int 8), (u, ()))) := u2
  have u3' : ref06_Block_L17_R N ((s, ((0 : Int), ())), ((⟨List.replicate 8 0, rfl⟩ : Arr Int 8), (t, ()))) = some ((), ((⟨List.replicate 8 0, rfl⟩ : Arr Int 8), (u, ()))) := u3
  refine ⟨u, u1, ?_, ?_⟩
  · refine (congrArg (fun o => Option.bind (Option.bind o _) _) v2').trans ?_
    simp only [Option.bind_some]
    refine (congrArg (fun o => Option.bind (Option.bind o _) _) w2').trans ?_
    simp only [Option.bind_some]
    refine (congrArg (fun o => Option.bind o _) t2').trans ?_
    simp only [Option.bind_some]
    refine (congrArg (fun o => Option.bind o _) u2').trans ?_
    rfl
  · refine (congrArg (fun o => Option.bind o _) w3').trans ?_
    simp only [Option.bind_some]
    refine (congrArg (fun o => Option.bind o _) t3').trans ?_
    simp only [Option.bind_some]
    refine (congrArg (fun o => Option.bind o _) u3').trans ?_
    rfl
end
end Go.Proofs.Ytbaidlcbldbmdaa
