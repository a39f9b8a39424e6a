/-
  Layer 4, on plain data: what is put behind.
-/
import Derived.Test.YtpjamebfpgmjdaaDoorQM2
namespace Go.Proofs.YtpjamebfpgmjdaaDoor
set_option maxRecDepth 100000
open Go.RowKit
set_option linter.unusedVariables false
set_option linter.unusedSimpArgs false
set_option maxRecDepth 100000

/-- Eight bytes, the lowest first. -/
def le8 (n : Int) : List Int := [n % 256, n / 256 % 256, n / 65536 % 256, n / 16777216 % 256, n / 4294967296 % 256, n / 1099511627776 % 256, n / 281474976710656 % 256, n / 72057594037927936 % 256]
theorem le8_B (n : Int) : AllB (le8 n) := fun x hx => by
  simp only [le8, List.mem_cons, List.not_mem_nil, or_false] at hx
  rcases hx with rfl | rfl | rfl | rfl | rfl | rfl | rfl | rfl <;> omega
section
variable {N : Nat}
theorem put8 (n : Int) (h : 0 ≤ n ∧ n < 18446744073709551616) (hN : 100 ≤ N) : octs_Put N n 8 true = some (le8 n, 0) := by
  obtain ⟨M, rfl⟩ : ∃ M, N = M + 9 := ⟨N - 9, by omega⟩
  have r1 : roomB (Int.toNat 8) 1 = true := by decide
  have r2 : List.replicate (Int.toNat 8) (0 : Int) = [0, 0, 0, 0, 0, 0, 0, 0] := rfl
  have w1 : Go.IntKind.wrap .i64 ((8 : Int) - 1) = 7 := by decide
  have v0 : Go.IntKind.wrap .i64 ((7 : Int) - 0) = 7 := by decide
  have v1 : Go.IntKind.wrap .i64 ((7 : Int) - 1) = 6 := by decide
  have v2 : Go.IntKind.wrap .i64 ((7 : Int) - 2) = 5 := by decide
  have v3 : Go.IntKind.wrap .i64 ((7 : Int) - 3) = 4 := by decide
  have v4 : Go.IntKind.wrap .i64 ((7 : Int) - 4) = 3 := by decide
  have v5 : Go.IntKind.wrap .i64 ((7 : Int) - 5) = 2 := by decide
  have v6 : Go.IntKind.wrap .i64 ((7 : Int) - 6) = 1 := by decide
  have v7 : Go.IntKind.wrap .i64 ((7 : Int) - 7) = 0 := by decide
  have w3 : Go.IntKind.wrap .i64 ((0 : Int) + 1) = 1 := by decide
  have w4 : Go.IntKind.wrap .i64 ((1 : Int) + 1) = 2 := by decide
  have w5 : Go.IntKind.wrap .i64 ((2 : Int) + 1) = 3 := by decide
  have w6 : Go.IntKind.wrap .i64 ((3 : Int) + 1) = 4 := by decide
  have w7 : Go.IntKind.wrap .i64 ((4 : Int) + 1) = 5 := by decide
  have w8 : Go.IntKind.wrap .i64 ((5 : Int) + 1) = 6 := by decide
  have w9 : Go.IntKind.wrap .i64 ((6 : Int) + 1) = 7 := by decide
  have w10 : Go.IntKind.wrap .i64 ((7 : Int) + 1) = 8 := by decide
  have e1 : (2 : Int) ^ min (Int.toNat 8) (IntKind.bits IntKind.u64) = 256 := by decide
  have fd : ∀ x : Int, Int.fdiv x 256 = x / 256 := fun x => Int.fdiv_eq_ediv_of_nonneg _ (by decide)
  have d2 : n / 256 / 256 = n / 65536 := by omega
  have d3 : n / 65536 / 256 = n / 16777216 := by omega
  have d4 : n / 16777216 / 256 = n / 4294967296 := by omega
  have d5 : n / 4294967296 / 256 = n / 1099511627776 := by omega
  have d6 : n / 1099511627776 / 256 = n / 281474976710656 := by omega
  have d7 : n / 281474976710656 / 256 = n / 72057594037927936 := by omega
  have u8 : ∀ x : Int, Go.IntKind.wrap .u8 x = x % 256 := fun x => by rw [IntKind.wrap_u8]
  simp only [octs_Put, octs_Put_L5_R, gl, octs_Put_L5, octs_place, r1, r2, e1, cond_false, cond_true, Option.bind_some, w1, v0, v1, v2, v3, v4, v5, v6, v7, w3, w4, w5, w6, w7, w8, w9, w10]
  simp [w1, v0, v1, v2, v3, v4, v5, v6, v7, w3, w4, w5, w6, w7, w8, w9, w10, fd, d2, d3, d4, d5, d6, d7, u8, le8]
/-- So many noughts. -/
def nz (n : Int) : Nat := ((119 - n % 64) % 64).toNat
/-- What is put behind. -/
def tail4 (n : Int) : List Int := [128] ++ List.replicate (nz n) 0 ++ le8 (8 * n % 18446744073709551616)
theorem nz_lt (n : Int) : nz n < 64 := by unfold nz; omega
theorem tail4_len (n : Int) : (tail4 n).length = nz n + 9 := by simp [tail4, le8]
theorem tail4_B (n : Int) : AllB (tail4 n) := by
  refine AllB.append (AllB.append (AllB.cons (by omega) AllB.nil) fun x hx => ?_) (le8_B _)
  rw [(List.mem_replicate.1 hx).2]; omega
theorem md4_tail_ok (n : Int) (h : 0 ≤ n ∧ n < 18446744073709551616) (hN : 10000 ≤ N) : md4_Tail N n = some (tail4 n) := by
  unfold md4_Tail
  have hw : Go.IntKind.wrap .u64 ((8 : Int) * n) = 8 * n % 18446744073709551616 := by rw [IntKind.wrap_u64]
  have hz : Int.tmod (Go.IntKind.wrap .u64 ((119 : Int) - Int.tmod n 64)) 64 = ((nz n : Nat) : Int) := by
    have hm : Int.tmod n 64 = n % 64 := Int.tmod_eq_emod_of_nonneg h.1
    rw [hm, wrapU64 (by omega) (by omega), Int.tmod_eq_emod_of_nonneg (by omega)]
    unfold nz
    omega
  have hl := nz_lt n
  have c1 : ((decide ((0 : Int) ≤ ((nz n : Nat) : Int) ∧ ((nz n : Nat) : Int) ≤ ((nz n : Nat) : Int))) && roomB (nz n) 1) = true := by
    have : roomB (nz n) 1 = true := roomB_of (by have := big_len; omega) (by omega)
    simp [this]
  rw [hw, put8 _ (by omega) (by omega), hz]
  simp only [Option.bind_some, c1, cond_true, Int.toNat_natCast]
  refine (join_ok (N := N) [[128], List.replicate (nz n) 0, le8 (8 * n % 18446744073709551616)] (by simp) ?_ ?_).trans ?_
  all_goals first | omega | skip
  · simp [le8]; omega
  · simp [tail4]
theorem zeros_ok (n : Int) (h : 0 ≤ n ∧ n < 18446744073709551616) : ∀ (k M : Nat) (l : List Int), k < M → l.length + k < 1000 → (n + l.length + k) % 64 = 56 → k < 64 →
    gl (fun X c => ref04_Tail_L2 N X c.1.1 c.2.1) M ((n, ()), (l, ())) = some ((n, ()), (l ++ List.replicate k 0, ()))
  | 0, M + 1, l, hM, hl, hk, _ => by
    have e : Int.tmod (Go.IntKind.wrap .u64 (n + Go.IntKind.wrap .u64 (l.length : Int))) 64 = 56 := by
      rw [wrapU64 (x := (l.length : Int)) (by omega) (by omega), IntKind.wrap_u64, Int.tmod_eq_emod_of_nonneg (by omega)]; omega
    rw [gl_succ]
    simp only [ref04_Tail_L2, e, decide_true, Bool.not_true, cond_false, List.replicate_zero, List.append_nil]
  | k + 1, M + 1, l, hM, hl, hk, h64 => by
    have e : ¬ Int.tmod (Go.IntKind.wrap .u64 (n + Go.IntKind.wrap .u64 (l.length : Int))) 64 = 56 := by
      rw [wrapU64 (x := (l.length : Int)) (by omega) (by omega), IntKind.wrap_u64, Int.tmod_eq_emod_of_nonneg (by omega)]; omega
    have r : roomB (l.length + ([(0 : Int)] : List Int).length) 1 = true := roomB_of (by have := big_len; simp; omega) (by simp; omega)
    rw [gl_succ]
    simp only [ref04_Tail_L2, e, decide_false, Bool.not_false, cond_true, r]
    refine (zeros_ok n h k M (l ++ [0]) (by omega) (by simp; omega) (by simp; omega) (by omega)).trans ?_
    rw [List.replicate_succ, List.append_assoc]; rfl
theorem ref04_tail_ok (n : Int) (h : 0 ≤ n ∧ n < 18446744073709551616) (hN : 10000 ≤ N) : ref04_Tail N n = some ([128] ++ List.replicate (nz n) 0 ++ le8 (8 * n % 18446744073709551616)) := by
  unfold ref04_Tail
  have hl := nz_lt n
  have hz := zeros_ok (N := N) n h (nz n) N [128] (by omega) (by simp; omega) (by unfold nz; simp; omega) hl
  refine (congrArg (fun o => Option.bind o _) hz).trans ?_
  simp only [Option.bind_some]
  have hw : Go.IntKind.wrap .u64 ((8 : Int) * n) = 8 * n % 18446744073709551616 := by rw [IntKind.wrap_u64]
  rw [hw]
  have hb : 0 ≤ 8 * n % 18446744073709551616 ∧ 8 * n % 18446744073709551616 < 18446744073709551616 := by omega
  generalize 8 * n % 18446744073709551616 = m at *
  have hpl : ([128] ++ List.replicate (nz n) (0 : Int)).length = nz n + 1 := by simp
  generalize [128] ++ List.replicate (nz n) (0 : Int) = p at *
  obtain ⟨M, rfl⟩ : ∃ M, N = M + 9 := ⟨N - 9, by omega⟩
  have dv : ∀ x : Int, 0 ≤ x → x < 18446744073709551616 → Go.IntKind.wrap .u64 (Int.tdiv x 256) = x / 256 := fun x h1 h2 => by
    rw [Int.tdiv_eq_ediv_of_nonneg h1, wrapU64 (by omega) (by omega)]
  have md : ∀ x : Int, 0 ≤ x → Go.IntKind.wrap .u8 (Int.tmod x 256) = x % 256 := fun x h1 => by
    rw [Int.tmod_eq_emod_of_nonneg h1, wrapU8 (by omega) (by omega)]
  have st : ∀ (K : Nat) (x : Int) (i : Nat) (q : List Int), i < 8 → 0 ≤ x → x < 18446744073709551616 → q.length < 1000 → gl (fun X c => ref04_Tail_L6 (M + 9) X c.1.1 c.1.2.1 c.2.1) (K + 1) ((x, ((i : Int), ())), (q, ())) = gl (fun X c => ref04_Tail_L6 (M + 9) X c.1.1 c.1.2.1 c.2.1) K ((x / 256, (((i + 1 : Nat) : Int), ())), (q ++ [x % 256], ())) := fun K x i q hi h1 h2 hq => by
    have c1 : ((i : Int) < 8) := by omega
    have e0 : Go.IntKind.wrap .i64 ((i : Int) + 1) = ((i + 1 : Nat) : Int) := by rw [wrap64 (by omega) (by omega)]; omega
    have r : ∀ y : Int, roomB (q.length + ([y] : List Int).length) 1 = true := fun y => roomB_of (by have := big_len; simp; omega) (by simp; omega)
    rw [gl_succ]
    simp only [ref04_Tail_L6, c1, decide_true, cond_true, md x h1, r, dv x h1 h2, e0]
  have fin : ∀ (K : Nat) (x : Int) (q : List Int), gl (fun X c => ref04_Tail_L6 (M + 9) X c.1.1 c.1.2.1 c.2.1) (K + 1) ((x, (((8 : Nat) : Int), ())), (q, ())) = some ((), (q, ())) := fun K x q => by
    rw [gl_succ]
    rfl
  have all : ref04_Tail_L6_R (M + 9) ((m, ((0 : Int), ())), (p, ())) = some ((), (p ++ le8 m, ())) := by
    refine (st (M + 8) m 0 p (by omega) hb.1 hb.2 (by omega)).trans ?_
    refine (st (M + 7) _ 1 _ (by omega) (by omega) (by omega) (by simp; omega)).trans ?_
    refine (st (M + 6) _ 2 _ (by omega) (by omega) (by omega) (by simp; omega)).trans ?_
    refine (st (M + 5) _ 3 _ (by omega) (by omega) (by omega) (by simp; omega)).trans ?_
    refine (st (M + 4) _ 4 _ (by omega) (by omega) (by omega) (by simp; omega)).trans ?_
    refine (st (M + 3) _ 5 _ (by omega) (by omega) (by omega) (by simp; omega)).trans ?_
    refine (st (M + 2) _ 6 _ (by omega) (by omega) (by omega) (by simp; omega)).trans ?_
    refine (st (M + 1) _ 7 _ (by omega) (by omega) (by omega) (by simp; omega)).trans ?_
    refine (fin M _ _).trans ?_
    have d2 : m / 256 / 256 = m / 65536 := by omega
    have d3 : m / 65536 / 256 = m / 16777216 := by omega
    have d4 : m / 16777216 / 256 = m / 4294967296 := by omega
    have d5 : m / 4294967296 / 256 = m / 1099511627776 := by omega
    have d6 : m / 1099511627776 / 256 = m / 281474976710656 := by omega
    have d7 : m / 281474976710656 / 256 = m / 72057594037927936 := by omega
    simp only [d2, d3, d4, d5, d6, d7, List.append_assoc, List.cons_append, List.nil_append, le8]
  refine (congrArg (fun o => Option.bind o _) all).trans ?_
  rfl
theorem ref04_tail_ok' (n : Int) (h : 0 ≤ n ∧ n < 18446744073709551616) (hN : 10000 ≤ N) : ref04_Tail N n = some (tail4 n) := ref04_tail_ok n h hN
theorem same04 (a b : List Int) (h : a.length ≤ 50000) (hN : 100000 < N) : ref01_Same N a b = some (decide (a = b)) := sameF_ok (by omega) (by omega)
end
theorem law_Md4Blocks (s : Arr Int 4) (b : Arr Int 64) (n : Int) (h1 : wfT (.arr 4 (.int .u32)) s) (h2 : wfT (.arr 64 (.int .u8)) b) (h3 : wfT (.int .u64) n) : law04_Md4Blocks 200000 s b n = some true := by
  have hs : AllW s.l := fun x hx => wf_u32 (h1 x hx)
  have hb : AllB b.l := fun x hx => wf_u8 (h2 x hx)
  have hn : 0 ≤ n ∧ n < 18446744073709551616 := by
    have h3 : (Lit.int .u64 n).wf = true := h3
    simp only [Lit.wf, Bool.and_eq_true, decide_eq_true_eq, IntKind.min, IntKind.max, IntKind.signed, IntKind.bits] at h3
    simp at h3
    omega
  obtain ⟨t, t1, t2, t3⟩ := block_pair s b hs hb
  unfold law04_Md4Blocks
  rw [t2, Option.bind_some, t3, Option.bind_some]
  have hl := tail4_len n
  have hl2 := nz_lt n
  simp only [wfB_w t t1, Bool.and_self, cond_true, decide_true]
  rw [md4_tail_ok n hn (by omega), Option.bind_some, ref04_tail_ok' n hn (by omega), Option.bind_some, same04 _ _ (by omega) (by omega), Option.bind_some]
  simp only [decide_true, cond_true, alive04, Option.bind_some]
end Go.Proofs.YtpjamebfpgmjdaaDoor
