/-
  Layer 4, on plain data: blocks are the document's.
-/
import Derived.Test.YtpjamebfpgmjdaaDoorQM1
namespace Go.Proofs.YtpjamebfpgmjdaaDoor
set_option maxRecDepth 100000
open Go.RowKit
set_option linter.unusedVariables false
set_option linter.unusedSimpArgs false
set_option maxRecDepth 100000

def ks04 : Arr Int 3 := Arr.cons 0 (Arr.cons 1518500249 (Arr.cons 1859775393 Arr.nil))
def ta04 : List (Arr Int 4) := [⟨[3, 7, 11, 19], rfl⟩, ⟨[3, 5, 9, 13], rfl⟩, ⟨[3, 9, 11, 15], rfl⟩]
def tl04 : List (List Int) := [[3, 7, 11, 19], [3, 5, 9, 13], [3, 9, 11, 15]]
section
variable {N : Nat}
theorem div16 (i : Nat) (hi : i < 48) : Go.IntKind.wrap .i64 (Int.tdiv (i : Int) 16) = ((i / 16 : Nat) : Int) := by
  rw [Int.tdiv_eq_ediv_of_nonneg (by omega), wrap64 (by omega) (by omega)]; omega
theorem mix_pair (q : Nat) (hq : q < 3) (b c d : Int) (hb : 0 ≤ b ∧ b < 4294967296) : ∃ m k, md4_mixed N (q : Int) b c d = some m ∧ getI ks04.l (q : Int) = some k ∧ ref04_step N (q : Int) b c d = some (Go.IntKind.wrap .u32 (m + k)) := by
  have hq : q = 0 ∨ q = 1 ∨ q = 2 := by omega
  unfold md4_mixed ref04_step
  rcases hq with rfl | rfl | rfl
  · refine ⟨_, 0, rfl, rfl, ?_⟩
    rw [not32 b hb]
    have h := or32r (bits .and .u32 b c) (bits .and .u32 (Go.IntKind.wrap .u32 (4294967295 - b)) d)
    show some _ = _
    congr 1
    generalize bits .or .u32 (bits .and .u32 b c) (bits .and .u32 (Go.IntKind.wrap .u32 (4294967295 - b)) d) = z at *
    rw [w32]; omega
  · exact ⟨_, 1518500249, rfl, rfl, rfl⟩
  · exact ⟨_, 1859775393, rfl, rfl, rfl⟩
theorem place_all : ((List.range 48).all fun i => match md4_place 0 (i : Int), ref04_place 0 (i : Int) with | some a, some b => decide (a = b) && decide (0 ≤ a) && decide (a < 16) | _, _ => false) = true := by decide +kernel
theorem place_pair (i : Nat) (hi : i < 48) : ∃ j : Nat, j < 16 ∧ md4_place N (i : Int) = some (j : Int) ∧ ref04_place N (i : Int) = some (j : Int) := by
  have h := List.all_eq_true.1 place_all i (List.mem_range.2 hi)
  show ∃ j : Nat, j < 16 ∧ md4_place 0 (i : Int) = some (j : Int) ∧ ref04_place 0 (i : Int) = some (j : Int)
  revert h
  generalize md4_place 0 (i : Int) = x
  generalize ref04_place 0 (i : Int) = y
  intro h
  split at h
  · rename_i a b
    simp only [Bool.and_eq_true, decide_eq_true_eq] at h
    obtain ⟨⟨rfl, h1⟩, h2⟩ := h
    exact ⟨a.toNat, by omega, by rw [Int.toNat_of_nonneg h1], by rw [Int.toNat_of_nonneg h1]⟩
  · cases h
theorem turns_pair (i : Nat) (hi : i < 48) : ∃ (a : Arr Int 4) (l : List Int) (k : Int), getI ta04 ((i / 16 : Nat) : Int) = some a ∧ getI a.l (Int.tmod (i : Int) 4) = some k ∧ getI tl04 ((i / 16 : Nat) : Int) = some l ∧ getI l (Int.tmod (i : Int) 4) = some k ∧
    (k = 3 ∨ k = 5 ∨ k = 7 ∨ k = 9 ∨ k = 11 ∨ k = 13 ∨ k = 15 ∨ k = 19) := by
  have e : Int.tmod (i : Int) 4 = ((i % 4 : Nat) : Int) := by rw [Int.tmod_eq_emod_of_nonneg (by omega)]; omega
  rw [e]
  have hq : i / 16 = 0 ∨ i / 16 = 1 ∨ i / 16 = 2 := by omega
  have hr : i % 4 = 0 ∨ i % 4 = 1 ∨ i % 4 = 2 ∨ i % 4 = 3 := by omega
  rcases hq with hq | hq | hq <;> rcases hr with hr | hr | hr | hr <;> rw [hq, hr] <;> exact ⟨_, _, _, rfl, rfl, rfl, rfl, by decide⟩
theorem steps_pair (hN : 10000 ≤ N) (blk : Arr Int 64) (hB : AllB blk.l) (W : Arr Int 16) (hW : ∀ j, j < 16 → W.l[j]? = some (lew blk.l j)) (s : Arr Int 4) (h0 h0' : Arr Int 4) : ∀ (k M i : Nat) (t : Arr Int 4), k + i = 48 → k < M → AllW t.l →
    ∃ t2 : Arr Int 4, AllW t2.l ∧ gl (fun X c => md4_behind_L4 N X c.1.1 c.1.2.1 c.1.2.2.1 c.2.1 c.2.2.1 c.2.2.2.1) M ((s, (ks04, ((i : Int), ()))), (h0, (W, (t, ())))) = some ((s, ()), (h0, (t2, ()))) ∧
      gl (fun X c => ref04_Block_L4 N X c.1.1 c.1.2.1 c.1.2.2.1 c.1.2.2.2.1 c.2.1 c.2.2.1) M ((s, (blk, (tl04, ((i : Int), ())))), (h0', (t, ()))) = some ((s, ()), (h0', (t2, ())))
  | 0, M + 1, i, t, hk, hM, hw => by
    have c1 : ¬ ((i : Int) < 48) := by omega
    refine ⟨t, hw, ?_, ?_⟩
    · simp only [gl, md4_behind_L4, c1, decide_false, cond_false]
    · simp only [gl, ref04_Block_L4, c1, decide_false, cond_false]
  | k + 1, M + 1, i, t, hk, hM, hw => by
    have hbl := blk.h
    have c1 : ((i : Int) < 48) := by omega
    have e0 : Go.IntKind.wrap .i64 ((i : Int) + 1) = ((i + 1 : Nat) : Int) := by rw [wrap64 (by omega) (by omega)]; omega
    have dq := div16 i (by omega)
    obtain ⟨j, j1, j2, j3⟩ := place_pair (N := N) i (by omega)
    obtain ⟨ar, lr, kk, k1, k2, k3, k4, k5⟩ := turns_pair i (by omega)
    have c2 : (0 : Int) ≤ (j : Int) ∧ (j : Int) < ((16 : Nat) : Int) := by omega
    have e1 : Int.toNat (j : Int) = j := Int.toNat_natCast j
    have g1 := hW j j1
    have s1 : Go.IntKind.wrap .i64 ((4 : Int) * (j : Int)) = ((4 * j : Nat) : Int) := by rw [wrap64 (by omega) (by omega)]; omega
    have s3 : Go.IntKind.wrap .i64 (((4 * j : Nat) : Int) + 1) = ((4 * j + 1 : Nat) : Int) := by rw [wrap64 (by omega) (by omega)]; omega
    have s4 : Go.IntKind.wrap .i64 (((4 * j : Nat) : Int) + 2) = ((4 * j + 2 : Nat) : Int) := by rw [wrap64 (by omega) (by omega)]; omega
    have s5 : Go.IntKind.wrap .i64 (((4 * j : Nat) : Int) + 3) = ((4 * j + 3 : Nat) : Int) := by rw [wrap64 (by omega) (by omega)]; omega
    have ba := hB.get (4 * j) (by omega)
    have bb := hB.get (4 * j + 1) (by omega)
    have bc := hB.get (4 * j + 2) (by omega)
    have bd := hB.get (4 * j + 3) (by omega)
    have G0 := getI_lt blk.l (4 * j) (by omega)
    have G1 := getI_lt blk.l (4 * j + 1) (by omega)
    have G2 := getI_lt blk.l (4 * j + 2) (by omega)
    have G3 := getI_lt blk.l (4 * j + 3) (by omega)
    have hlw : lew blk.l j = ((blk.l[4 * j + 3]'(by omega) * 256 + blk.l[4 * j + 2]'(by omega)) * 256 + blk.l[4 * j + 1]'(by omega)) * 256 + blk.l[4 * j]'(by omega) := by
      unfold lew
      rw [getD_at (by omega), getD_at (by omega), getD_at (by omega), getD_at (by omega)]
    generalize lew blk.l j = wj at *
    generalize hx : blk.l[4 * j]'(by omega) = x at *
    generalize hy : blk.l[4 * j + 1]'(by omega) = y at *
    generalize hz : blk.l[4 * j + 2]'(by omega) = z at *
    generalize hu : blk.l[4 * j + 3]'(by omega) = u at *
    have v2 : Go.IntKind.wrap .u32 (Go.IntKind.wrap .u32 (Go.IntKind.wrap .u32 (Go.IntKind.wrap .u32 x + Go.IntKind.wrap .u32 (Go.IntKind.wrap .u32 y * 256)) + Go.IntKind.wrap .u32 (Go.IntKind.wrap .u32 z * 65536)) + Go.IntKind.wrap .u32 (Go.IntKind.wrap .u32 u * 16777216)) = wj := by
      simp only [w32]; omega
    match t, hw with
    | ⟨[a, b, c, d], ht⟩, hw =>
      have ra := hw a (by simp)
      have rb := hw b (by simp)
      have rc := hw c (by simp)
      have rd := hw d (by simp)
      obtain ⟨m, kc, m1, m2, m3⟩ := mix_pair (N := N) (i / 16) (by omega) b c d rb
      have z0 : ([a, b, c, d] : List Int)[Int.toNat 0]? = some a := rfl
      have z1 : ([a, b, c, d] : List Int)[Int.toNat 1]? = some b := rfl
      have z2 : ([a, b, c, d] : List Int)[Int.toNat 2]? = some c := rfl
      have z3 : ([a, b, c, d] : List Int)[Int.toNat 3]? = some d := rfl
      have x1 : Go.IntKind.wrap .u32 (Go.IntKind.wrap .u32 (a + Go.IntKind.wrap .u32 (m + kc)) + wj) = Go.IntKind.wrap .u32 (Go.IntKind.wrap .u32 (Go.IntKind.wrap .u32 (a + m) + wj) + kc) := by
        simp only [w32]; omega
      obtain ⟨r, r1, r2, r3, r4⟩ := rot_pair N (Go.IntKind.wrap .u32 (Go.IntKind.wrap .u32 (Go.IntKind.wrap .u32 (a + m) + wj) + kc)) kk k5
      obtain ⟨t2, q1, q2, q3⟩ := steps_pair hN blk hB W hW s h0 h0' k M (i + 1) (Arr.cons d (Arr.cons r (Arr.cons b (Arr.cons c Arr.nil)))) (by omega) (by omega) (fun x hx => by
        simp only [Arr.cons, Arr.nil, List.mem_cons, List.not_mem_nil, or_false] at hx
        rcases hx with rfl | rfl | rfl | rfl
        · exact rd
        · exact ⟨r1, r2⟩
        · exact rb
        · exact rc)
      refine ⟨t2, q1, ?_, ?_⟩
      · rw [gl_succ]
        unfold ta04 at k1
        simp only [md4_behind_L4, c1, decide_true, cond_true, z0, z1, z2, z3, Option.bind_some, dq, m1, j2, c2, and_self, e1, g1, m2, k1, k2, r3, e0]
        exact q2
      · rw [gl_succ]
        simp only [ref04_Block_L4, c1, decide_true, cond_true, z0, z1, z2, z3, Option.bind_some, dq, j3, s1, s3, s4, s5, G0, G1, G2, G3, m3, k3, k4, v2, x1, r4, e0]
        exact q3
theorem add_pair (hN : 10000 ≤ N) (s h0 : Arr Int 4) (hs : AllW s.l) : ∀ (k M i : Nat) (t : Arr Int 4), k + i = 4 → k < M → AllW t.l →
    ∃ t2 : Arr Int 4, AllW t2.l ∧ gl (fun X c => md4_behind_L11 N X c.1.1 c.1.2.1 c.2.1 c.2.2.1) M ((s, ((i : Int), ())), (h0, (t, ()))) = some ((), (h0, (t2, ()))) ∧ (gl (fun X c => ref04_Block_L11 N X c.1.1 c.1.2.1 c.2.1 c.2.2.1) M ((s, ((i : Int), ())), (h0, (t, ()))) = some ((), (h0, (t2, ()))))
  | 0, M + 1, i, t, hk, hM, hw => by
    have c1 : ¬ ((i : Int) < 4) := by omega
    refine ⟨t, hw, ?_, ?_⟩
    · simp only [gl, md4_behind_L11, c1, decide_false, cond_false]
    · simp only [gl, ref04_Block_L11, c1, decide_false, cond_false]
  | k + 1, M + 1, i, t, hk, hM, hw => by
    have hl := t.h
    have hsl := s.h
    have c1 : ((i : Int) < 4) := by omega
    have c2 : (0 : Int) ≤ (i : Int) ∧ (i : Int) < ((4 : Nat) : Int) := by omega
    have e0 : Go.IntKind.wrap .i64 ((i : Int) + 1) = ((i + 1 : Nat) : Int) := by rw [wrap64 (by omega) (by omega)]; omega
    have e1 : Int.toNat (i : Int) = i := Int.toNat_natCast i
    have g1 : t.l[i]? = some (t.l[i]'(by omega)) := List.getElem?_eq_getElem _
    have g2 := getI_lt s.l i (by omega)
    obtain ⟨t2, r1, r2, r3⟩ := add_pair hN s h0 hs k M (i + 1) (t.set i (Go.IntKind.wrap .u32 (t.l[i]'(by omega) + s.l[i]'(by omega)))) (by omega) (by omega) (hw.set i (w32r _))
    refine ⟨t2, r1, ?_, ?_⟩
    · rw [gl_succ]
      simp only [md4_behind_L11, c1, decide_true, cond_true, c2, and_self, e1, g1, g2, e0, Option.bind_some]
      exact r2
    · rw [gl_succ]
      simp only [ref04_Block_L11, c1, decide_true, cond_true, c2, and_self, e1, g1, g2, e0, Option.bind_some]
      exact r3
/-- The state behind a block: the same. -/
theorem behind_pair (hN : 10000 ≤ N) (s : Arr Int 4) (b : Arr Int 64) (hs : AllW s.l) (hb : AllB b.l) : ∃ t : Arr Int 4, AllW t.l ∧ md4_behind N s b ks04 = some t ∧ ref04_Block N s b = some t := by
  unfold md4_behind ref04_Block
  obtain ⟨W, w1, w2⟩ := words_ok (N := N) hN b hb
  obtain ⟨t, t1, t2, t3⟩ := steps_pair (N := N) hN b hb W w1 s ⟨List.replicate 4 0, rfl⟩ ⟨List.replicate 4 0, rfl⟩ 48 N 0 s (by omega) (by omega) hs
  have t2' : md4_behind_L4_R N ((s, (ks04, ((0 : Int), ()))), ((⟨List.replicate 4 0, rfl⟩ : Arr Int 4), (W, (s, ())))) = some ((s, ()), ((⟨List.replicate 4 0, rfl⟩ : Arr Int 4), (t, ()))) := t2
  have t3' : ref04_Block_L4_R N ((s, (b, (tl04, ((0 : Int), ())))), ((⟨List.replicate 4 0, rfl⟩ : Arr Int 4), (s, ()))) = some ((s, ()), ((⟨List.replicate 4 0, rfl⟩ : Arr Int 4), (t, ()))) := t3
  obtain ⟨u, u1, u2, u3⟩ := add_pair (N := N) hN s ⟨List.replicate 4 0, rfl⟩ hs 4 N 0 t (by omega) (by omega) t1
  have u2' : md4_behind_L11_R N ((s, ((0 : Int), ())), ((⟨List.replicate 4 0, rfl⟩ : Arr Int 4), (t, ()))) = some ((), ((⟨List.replicate 4 0, rfl⟩ : Arr Int 4), (u, ()))) := u2
  have u3' : ref04_Block_L11_R N ((s, ((0 : Int), ())), ((⟨List.replicate 4 0, rfl⟩ : Arr Int 4), (t, ()))) = some ((), ((⟨List.replicate 4 0, rfl⟩ : Arr Int 4), (u, ()))) := u3
  refine ⟨u, u1, ?_, ?_⟩
  · rw [w2, Option.bind_some]
    refine (congrArg (fun o => Option.bind o _) t2').trans ?_
    simp only [Option.bind_some]
    refine (congrArg (fun o => Option.bind o _) u2').trans ?_
    rfl
  · refine (congrArg (fun o => Option.bind o _) t3').trans ?_
    simp only [Option.bind_some]
    refine (congrArg (fun o => Option.bind o _) u3').trans ?_
    rfl
end
theorem block_pair (s : Arr Int 4) (b : Arr Int 64) (hs : AllW s.l) (hb : AllB b.l) : ∃ t : Arr Int 4, AllW t.l ∧ md4_Block 200000 s b = some t ∧ ref04_Block 200000 s b = some t := by
  obtain ⟨t, h1, h2, h3⟩ := behind_pair (N := 200000) (by omega) s b hs hb
  refine ⟨t, h1, ?_, h3⟩
  unfold md4_Block
  rw [consts04, Option.bind_some]
  refine (congrArg (fun o => Option.bind o _) h2).trans ?_
  rfl
end Go.Proofs.YtpjamebfpgmjdaaDoor
