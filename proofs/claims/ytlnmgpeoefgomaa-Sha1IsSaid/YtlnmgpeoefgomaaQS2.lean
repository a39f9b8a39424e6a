/-
  Layer 5, on plain data: blocks are the document's.
-/
import Derived.Test.YtlnmgpeoefgomaaQS1
namespace Go.Proofs.Ytlnmgpeoefgomaa
set_option maxRecDepth 100000
open Go.RowKit
set_option linter.unusedVariables false
set_option linter.unusedSimpArgs false
set_option maxRecDepth 100000

section
variable {N : Nat}
theorem q5 : (2 : Int) ^ min (Int.toNat (bits .and .u64 (Go.IntKind.wrap .u64 5) 31)) (IntKind.bits .u32) = 32 := by decide +kernel
theorem q6 : (2 : Int) ^ min (Int.toNat (Go.IntKind.wrap .u64 (32 - bits .and .u64 (Go.IntKind.wrap .u64 5) 31))) (IntKind.bits .u32) = 134217728 := by decide +kernel
theorem q7 : (2 : Int) ^ min (Int.toNat 5) (IntKind.bits .u32) = 32 := by decide +kernel
theorem q8 : (2 : Int) ^ min (Int.toNat (Go.IntKind.wrap .i64 (32 - 5))) (IntKind.bits .u32) = 134217728 := by decide +kernel
theorem q9 : (2 : Int) ^ min (Int.toNat (bits .and .u64 (Go.IntKind.wrap .u64 30) 31)) (IntKind.bits .u32) = 1073741824 := by decide +kernel
theorem q10 : (2 : Int) ^ min (Int.toNat (Go.IntKind.wrap .u64 (32 - bits .and .u64 (Go.IntKind.wrap .u64 30) 31))) (IntKind.bits .u32) = 4 := by decide +kernel
theorem q11 : (2 : Int) ^ min (Int.toNat 30) (IntKind.bits .u32) = 1073741824 := by decide +kernel
theorem q12 : (2 : Int) ^ min (Int.toNat (Go.IntKind.wrap .i64 (32 - 30))) (IntKind.bits .u32) = 4 := by decide +kernel
def ks05 : Arr Int 4 := Arr.cons 1518500249 (Arr.cons 1859775393 (Arr.cons 2400959708 (Arr.cons 3395469782 Arr.nil)))
/-- What a step adds beside the words, and its constant. -/
theorem mix_pair (i : Nat) (hi : i < 80) (b c d : Int) (hb : 0 ≤ b ∧ b < 4294967296) : ∃ m k, sha1_mixed N (Go.IntKind.wrap .i64 (Int.tdiv (i : Int) 20)) b c d = some m ∧ getI ks05.l (Go.IntKind.wrap .i64 (Int.tdiv (i : Int) 20)) = some k ∧ ref05_mix N (i : Int) b c d = some (Go.IntKind.wrap .u32 (m + k)) := by
  have e : Go.IntKind.wrap .i64 (Int.tdiv (i : Int) 20) = ((i / 20 : Nat) : Int) := by
    rw [Int.tdiv_eq_ediv_of_nonneg (by omega), wrap64 (by omega) (by omega)]; omega
  unfold sha1_mixed ref05_mix
  rw [e]
  have hq : i / 20 = 0 ∨ i / 20 = 1 ∨ i / 20 = 2 ∨ i / 20 = 3 := by omega
  rcases hq with hq | hq | hq | hq <;> rw [hq]
  · exact ⟨_, 1518500249, rfl, rfl, by rw [not32 b hb]; rfl⟩
  · exact ⟨_, 1859775393, rfl, rfl, rfl⟩
  · exact ⟨_, 2400959708, rfl, rfl, rfl⟩
  · exact ⟨_, 3395469782, rfl, rfl, rfl⟩
theorem steps_pair (hN : 10000 ≤ N) (W : Arr Int 80) (hW : AllW W.l) (s : Arr Int 5) (h0 : Arr Int 5) (h0' : Arr Int 5) : ∀ (k M i : Nat) (t : Arr Int 5), k + i = 80 → k < M → AllW t.l →
    ∃ t2 : Arr Int 5, AllW t2.l ∧ gl (fun X c => sha1_behind_L4 N X c.1.1 c.1.2.1 c.1.2.2.1 c.2.1 c.2.2.1 c.2.2.2.1) M ((s, (ks05, ((i : Int), ()))), (h0, (W, (t, ())))) = some ((s, ()), (h0, (t2, ()))) ∧
      gl (fun X c => ref05_Block_L10 N X c.1.1 c.1.2.1 c.2.1 c.2.2.1 c.2.2.2.1) M ((s, ((i : Int), ())), (h0', (W, (t, ())))) = some ((s, ()), (h0', (t2, ())))
  | 0, M + 1, i, t, hk, hM, hw => by
    have c1 : ¬ ((i : Int) < 80) := by omega
    refine ⟨t, hw, ?_, ?_⟩
    · simp only [gl, sha1_behind_L4, c1, decide_false, cond_false]
    · simp only [gl, ref05_Block_L10, c1, decide_false, cond_false]
  | k + 1, M + 1, i, t, hk, hM, hw => by
    have hWl := W.h
    have c1 : ((i : Int) < 80) := by omega
    have c2 : (0 : Int) ≤ (i : Int) ∧ (i : Int) < ((80 : Nat) : Int) := by omega
    have e0 : Go.IntKind.wrap .i64 ((i : Int) + 1) = ((i + 1 : Nat) : Int) := by rw [wrap64 (by omega) (by omega)]; omega
    have e1 : Int.toNat (i : Int) = i := Int.toNat_natCast i
    have g1 : W.l[i]? = some (W.l[i]'(by omega)) := List.getElem?_eq_getElem _
    have hWi := hW.get i (by omega)
    generalize W.l[i]'(by omega) = wi at *
    match t, hw with
    | ⟨[a, b, c, d, e], ht⟩, hw =>
      have ra := hw a (by simp)
      have rb := hw b (by simp)
      have rc := hw c (by simp)
      have rd := hw d (by simp)
      have re := hw e (by simp)
      obtain ⟨m, kk, m1, m2, m3⟩ := mix_pair (N := N) i (by omega) b c d rb
      have z0 : ([a, b, c, d, e] : List Int)[Int.toNat 0]? = some a := rfl
      have z1 : ([a, b, c, d, e] : List Int)[Int.toNat 1]? = some b := rfl
      have z2 : ([a, b, c, d, e] : List Int)[Int.toNat 2]? = some c := rfl
      have z3 : ([a, b, c, d, e] : List Int)[Int.toNat 3]? = some d := rfl
      have z4 : ([a, b, c, d, e] : List Int)[Int.toNat 4]? = some e := rfl
      have x1 : ∀ r : Int, Go.IntKind.wrap .u32 (Go.IntKind.wrap .u32 (Go.IntKind.wrap .u32 (Go.IntKind.wrap .u32 (r + m) + e) + kk) + wi) = Go.IntKind.wrap .u32 (Go.IntKind.wrap .u32 (Go.IntKind.wrap .u32 (r + Go.IntKind.wrap .u32 (m + kk)) + e) + wi) := fun r => by
        simp only [w32]; omega
      obtain ⟨t2, r1, r2, r3⟩ := steps_pair hN W hW s h0 h0' k M (i + 1) (Arr.cons (Go.IntKind.wrap .u32 (Go.IntKind.wrap .u32 (Go.IntKind.wrap .u32 (bits .or .u32 (Go.IntKind.wrap .u32 (a * 32)) (Int.fdiv a 134217728) + Go.IntKind.wrap .u32 (m + kk)) + e) + wi)) (Arr.cons a (Arr.cons (bits .or .u32 (Go.IntKind.wrap .u32 (b * 1073741824)) (Int.fdiv b 4)) (Arr.cons c (Arr.cons d Arr.nil))))) (by omega) (by omega) (fun x hx => by
        simp only [Arr.cons, Arr.nil, List.mem_cons, List.not_mem_nil, or_false] at hx
        rcases hx with rfl | rfl | rfl | rfl | rfl
        · exact w32r _
        · exact ra
        · exact or32r _ _
        · exact rc
        · exact rd)
      refine ⟨t2, r1, ?_, ?_⟩
      · rw [gl_succ]
        simp only [sha1_behind_L4, c1, decide_true, cond_true, z0, z1, z2, z3, z4, Option.bind_some, m1, m2, c2, and_self, e1, g1, e0, q5, q6, q9, q10, x1]
        exact r2
      · rw [gl_succ]
        simp only [ref05_Block_L10, c1, decide_true, cond_true, z0, z1, z2, z3, z4, Option.bind_some, m3, c2, and_self, e1, g1, e0, q7, q8, q11, q12]
        exact r3
theorem add_pair (hN : 10000 ≤ N) (s h0 : Arr Int 5) (hs : AllW s.l) : ∀ (k M i : Nat) (t : Arr Int 5), k + i = 5 → k < M → AllW t.l →
    ∃ t2 : Arr Int 5, AllW t2.l ∧ gl (fun X c => sha1_behind_L11 N X c.1.1 c.1.2.1 c.2.1 c.2.2.1) M ((s, ((i : Int), ())), (h0, (t, ()))) = some ((), (h0, (t2, ()))) ∧ (gl (fun X c => ref05_Block_L15 N X c.1.1 c.1.2.1 c.2.1 c.2.2.1) M ((s, ((i : Int), ())), (h0, (t, ()))) = some ((), (h0, (t2, ()))))
  | 0, M + 1, i, t, hk, hM, hw => by
    have c1 : ¬ ((i : Int) < 5) := by omega
    refine ⟨t, hw, ?_, ?_⟩
    · simp only [gl, sha1_behind_L11, c1, decide_false, cond_false]
    · simp only [gl, ref05_Block_L15, c1, decide_false, cond_false]
  | k + 1, M + 1, i, t, hk, hM, hw => by
    have hl := t.h
    have hsl := s.h
    have c1 : ((i : Int) < 5) := by omega
    have c2 : (0 : Int) ≤ (i : Int) ∧ (i : Int) < ((5 : Nat) : Int) := by omega
    have e0 : Go.IntKind.wrap .i64 ((i : Int) + 1) = ((i + 1 : Nat) : Int) := by rw [wrap64 (by omega) (by omega)]; omega
    have e1 : Int.toNat (i : Int) = i := Int.toNat_natCast i
    have g1 : t.l[i]? = some (t.l[i]'(by omega)) := List.getElem?_eq_getElem _
    have g2 := getI_lt s.l i (by omega)
    obtain ⟨t2, r1, r2, r3⟩ := add_pair hN s h0 hs k M (i + 1) (t.set i (Go.IntKind.wrap .u32 (t.l[i]'(by omega) + s.l[i]'(by omega)))) (by omega) (by omega) (hw.set i (w32r _))
    refine ⟨t2, r1, ?_, ?_⟩
    · rw [gl_succ]
      simp only [sha1_behind_L11, c1, decide_true, cond_true, c2, and_self, e1, g1, g2, e0, Option.bind_some]
      exact r2
    · rw [gl_succ]
      simp only [ref05_Block_L15, c1, decide_true, cond_true, c2, and_self, e1, g1, g2, e0, Option.bind_some]
      exact r3
/-- The state behind a block: the same. -/
theorem behind_pair (hN : 10000 ≤ N) (s : Arr Int 5) (b : Arr Int 64) (hs : AllW s.l) (hb : AllB b.l) : ∃ t : Arr Int 5, AllW t.l ∧ sha1_behind N s b ks05 = some t ∧ ref05_Block N s b = some t := by
  obtain ⟨M, rfl⟩ : ∃ M, N = M := ⟨N, rfl⟩
  unfold sha1_behind sha1_words ref05_Block
  have hz : AllW (List.replicate 80 (0 : Int)) := fun x hx => by rw [(List.mem_replicate.1 hx).2]; omega
  obtain ⟨W, w1, w2, w3⟩ := words_pair (N := N) hN b hb s ⟨List.replicate 80 0, rfl⟩ ⟨List.replicate 5 0, rfl⟩ 80 N 0 ⟨List.replicate 80 0, rfl⟩ (by omega) (by omega) hz
  have w2' : sha1_words_L3_R N ((b, ((0 : Int), ())), ((⟨List.replicate 80 0, rfl⟩ : Arr Int 80), ((⟨List.replicate 80 0, rfl⟩ : Arr Int 80), ()))) = some ((), ((⟨List.replicate 80 0, rfl⟩ : Arr Int 80), (W, ()))) := w2
  have w3' : ref05_Block_L3_R N ((s, (b, ((0 : Int), ()))), ((⟨List.replicate 5 0, rfl⟩ : Arr Int 5), ((⟨List.replicate 80 0, rfl⟩ : Arr Int 80), ()))) = some ((s, ()), ((⟨List.replicate 5 0, rfl⟩ : Arr Int 5), (W, ()))) := w3
  obtain ⟨t, t1, t2, t3⟩ := steps_pair (N := N) hN W w1 s ⟨List.replicate 5 0, rfl⟩ ⟨List.replicate 5 0, rfl⟩ 80 N 0 s (by omega) (by omega) hs
  have t2' : sha1_behind_L4_R N ((s, (ks05, ((0 : Int), ()))), ((⟨List.replicate 5 0, rfl⟩ : Arr Int 5), (W, (s, ())))) = some ((s, ()), ((⟨List.replicate 5 0, rfl⟩ : Arr Int 5), (t, ()))) := t2
  have t3' : ref05_Block_L10_R N ((s, ((0 : Int), ())), ((⟨List.replicate 5 0, rfl⟩ : Arr Int 5), (W, (s, ())))) = some ((s, ()), ((⟨List.replicate 5 0, rfl⟩ : Arr Int 5), (t, ()))) := t3
  obtain ⟨u, u1, u2, u3⟩ := add_pair (N := N) hN s ⟨List.replicate 5 0, rfl⟩ hs 5 N 0 t (by omega) (by omega) t1
  have u2' : sha1_behind_L11_R N ((s, ((0 : Int), ())), ((⟨List.replicate 5 0, rfl⟩ : Arr Int 5), (t, ()))) = some ((), ((⟨List.replicate 5 0, rfl⟩ : Arr Int 5), (u, ()))) := u2
  have u3' : ref05_Block_L15_R N ((s, ((0 : Int), ())), ((⟨List.replicate 5 0, rfl⟩ : Arr Int 5), (t, ()))) = some ((), ((⟨List.replicate 5 0, rfl⟩ : Arr Int 5), (u, ()))) := u3
  refine ⟨u, u1, ?_, ?_⟩
  · refine (congrArg (fun o => Option.bind (Option.bind o _) _) w2').trans ?_
    simp only [Option.bind_some]
    refine (congrArg (fun o => Option.bind o _) t2').trans ?_
    simp only [Option.bind_some]
    refine (congrArg (fun o => Option.bind o _) u2').trans ?_
    rfl
  · refine (congrArg (fun o => Option.bind o _) w3').trans ?_
    simp only [Option.bind_some]
    refine (congrArg (fun o => Option.bind o _) t3').trans ?_
    simp only [Option.bind_some]
    refine (congrArg (fun o => Option.bind o _) u3').trans ?_
    rfl
end
theorem block_pair (s : Arr Int 5) (b : Arr Int 64) (hs : AllW s.l) (hb : AllB b.l) : ∃ t : Arr Int 5, AllW t.l ∧ sha1_Block 200000 s b = some t ∧ ref05_Block 200000 s b = some t := by
  obtain ⟨t, h1, h2, h3⟩ := behind_pair (N := 200000) (by omega) s b hs hb
  refine ⟨t, h1, ?_, h3⟩
  unfold sha1_Block
  rw [consts05, Option.bind_some]
  refine (congrArg (fun o => Option.bind o _) h2).trans ?_
  rfl
end Go.Proofs.Ytlnmgpeoefgomaa
