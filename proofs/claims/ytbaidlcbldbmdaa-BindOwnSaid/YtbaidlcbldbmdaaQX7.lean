/-
  Layer 13, on plain data: derivations, binding keys; it is alive; its laws.
-/
import Derived.Test.YtbaidlcbldbmdaaQX6
namespace Go.Proofs.Ytbaidlcbldbmdaa
set_option maxRecDepth 100000
open Go.RowKit
set_option linter.unusedVariables false
set_option linter.unusedSimpArgs false
set_option maxRecDepth 100000

theorem qput2L (n : Int) (h : 0 ≤ n ∧ n < 18446744073709551616) {N : Nat} (hN : 100 ≤ N) : qOPut N n 2 true = some ([n % 256, n / 256 % 256], 0) := by
  obtain ⟨M, rfl⟩ : ∃ M, N = M + 3 := ⟨N - 3, by omega⟩
  have r1 : roomB (Int.toNat 2) 1 = true := by decide
  have r2 : List.replicate (Int.toNat 2) (0 : Int) = [0, 0] := rfl
  have w3 : Go.IntKind.wrap .i64 ((0 : Int) + 1) = 1 := by decide
  have w4 : Go.IntKind.wrap .i64 ((1 : Int) + 1) = 2 := by decide
  have e1 : (2 : Int) ^ min (Int.toNat 8) (IntKind.bits IntKind.u64) = 256 := by decide
  have d1 : Int.fdiv n 256 = n / 256 := Int.fdiv_eq_ediv_of_nonneg n (by decide)
  have d2 : Int.fdiv (n / 256) 256 = n / 256 / 256 := Int.fdiv_eq_ediv_of_nonneg _ (by decide)
  have w7 : Go.IntKind.wrap .u8 n = n % 256 := by rw [IntKind.wrap_u8]
  have w8 : Go.IntKind.wrap .u8 (n / 256) = n / 256 % 256 := by rw [IntKind.wrap_u8]
  simp only [qOPut, qOPutL5R, gl, qOPutL5, qOplace, r1, r2, e1, cond_true, Option.bind_some, w3, w4]
  simp [w3, w4, d1, d2, w7, w8]
theorem oput2L (n : Int) (h : 0 ≤ n ∧ n < 18446744073709551616) : octs_Put 200000 n 2 true = some ([n % 256, n / 256 % 256], 0) := qput2L (N := 200000) n h (by omega)
theorem may_ok (N : Nat) (l : Int) : prf_may N l = some (if l < 1 then 1 else if 8160 < l then 8 else 0) := by
  unfold prf_may
  by_cases h1 : l < 1
  · simp [h1]
  · by_cases h2 : 8160 < l <;> simp [h1, h2]
/-! ### Derivations -/
def sf (seed : List Int) (len : Int) (n : Nat) : List Int := seed ++ [len % 256, len / 256, (n : Int)]
noncomputable def pcs (K : Arr Int 64) (s : Nat → List Int) : Nat → List Int → Nat → List Int
  | 0, _, _ => []
  | m + 1, a, n => (hm K (a ++ s (n + 1))).l ++ pcs K s m (hm K (a ++ s (n + 1))).l (n + 1)
theorem pcs_len (K : Arr Int 64) (s : Nat → List Int) : ∀ m a n, (pcs K s m a n).length = 32 * m
  | 0, _, _ => rfl
  | m + 1, a, n => by rw [pcs, List.length_append, pcs_len K s m, (hm _ _).h]; omega
theorem sf_B {seed : List Int} {len : Int} (hs : AllB seed) (hl : 0 ≤ len ∧ len < 65536) {n : Nat} (hn : n < 256) : AllB (sf seed len n) := hs.append (AllB.cons (by omega) (AllB.cons (by omega) (AllB.cons (by omega) AllB.nil)))
theorem sf_len (seed : List Int) (len : Int) (n : Nat) : (sf seed len n).length = seed.length + 3 := by simp [sf]
theorem pcs_B {K : Arr Int 64} {seed : List Int} {len : Int} (hs : AllB seed) (hl : 0 ≤ len ∧ len < 65536) (hsl : seed.length ≤ 1000) : ∀ m a n, a.length ≤ 1000 → AllB a → n + m < 256 → AllB (pcs K (sf seed len) m a n)
  | 0, _, _, _, _, _ => AllB.nil
  | m + 1, a, n, ha, hB, hn => by
    have h := hm_B (b := K) (l := a ++ sf seed len (n + 1)) (by rw [List.length_append, sf_len]; omega) (hB.append (sf_B hs hl (by omega)))
    exact h.append (pcs_B hs hl hsl m _ _ (by rw [(hm _ _).h]; omega) h (by omega))
theorem ploop (k : List Int) (hk : k.length ≤ 4000) (hB : AllB k) (seed : List Int) (hsl : seed.length ≤ 1000) (hs : AllB seed) (len : Int) (hl : 0 ≤ len ∧ len ≤ 8160) : ∀ (m M n : Nat) (a out : List Int), m < M → n + m < 256 → a.length ≤ 1000 → AllB a → out.length ≤ 100000 → (len ≤ out.length + 32 * m ∧ (m ≠ 0 → (out.length : Int) + 32 * ((m : Int) - 1) < len)) →
    gl (fun X c => prf_Derive_L6 200000 X c.1.1 c.2.1 c.2.2.1 c.2.2.2.1 c.2.2.2.2.1 c.2.2.2.2.2.1 c.2.2.2.2.2.2.1) M ((len, ()), ((n : Int), (k, (a, (seed, ([len % 256, len / 256], (out, ()))))))) = some (((len, ()), (out ++ pcs (kb k) (sf seed len) m a n, ())))
  | m, 0, _, _, _, h, _, _, _, _, _ => by omega
  | 0, M + 1, n, a, out, _, _, _, _, _, hc => by
    have c1 : ¬ ((out.length : Int) < len) := by omega
    rw [gl_succ]
    simp only [prf_Derive_L6, c1, decide_false, cond_false, pcs, List.append_nil]
  | m + 1, M + 1, n, a, out, hM, hn, ha, haB, ho, hc => by
    have hc2 := hc.2 (by omega)
    have c1 : ((out.length : Int) < len) := by omega
    have w1 : Go.IntKind.wrap .u8 ((n : Int) + 1) = ((n + 1 : Nat) : Int) := by rw [wrapU8 (by omega) (by omega)]; omega
    have hfl : ([a, seed, [len % 256, len / 256], [((n + 1 : Nat) : Int)]] : List (List Int)).flatten = a ++ sf seed len (n + 1) := by simp [sf]
    have hsB := sf_B (seed := seed) (len := len) hs (by omega) (n := n + 1) (by omega)
    have hin : (a ++ sf seed len (n + 1)).length ≤ 3000 := by rw [List.length_append, sf_len]; omega
    have ho1 := hof_ok k hk hB [a, seed, [len % 256, len / 256], [((n + 1 : Nat) : Int)]] (by simp) (fun p hp => by
      simp only [List.mem_cons, List.not_mem_nil, or_false] at hp
      rcases hp with rfl | rfl | rfl | rfl
      · exact ⟨by omega, haB⟩
      · exact ⟨by omega, hs⟩
      · exact ⟨by simp, AllB.cons (by omega) (AllB.cons (by omega) AllB.nil)⟩
      · exact ⟨by simp, AllB.cons (by omega) AllB.nil⟩) (by rw [hfl]; exact hin)
    rw [hfl] at ho1
    have hB2 := hm_B (b := kb k) hin (haB.append hsB)
    have hl2 := (hm (kb k) (a ++ sf seed len (n + 1))).h
    have r : roomB (out.length + (hm (kb k) (a ++ sf seed len (n + 1))).l.length) 1 = true := roomB_of (by have := big_len; omega) (by omega)
    rw [gl_succ]
    simp only [prf_Derive_L6, c1, decide_true, cond_true, w1, ho1, Option.bind_some, r]
    refine (ploop k hk hB seed hsl hs len hl m M (n + 1) _ (out ++ (hm (kb k) (a ++ sf seed len (n + 1))).l) (by omega) (by omega) (by omega) hB2 (by rw [List.length_append]; omega) ?_).trans ?_
    · rw [List.length_append, hl2]
      constructor
      · have := hc.1; omega
      · intro h0; omega
    · rw [pcs, List.append_assoc]
theorem rloop (k : List Int) (hk : k.length ≤ 4000) (hB : AllB k) (seed : List Int) (hsl : seed.length ≤ 1000) (hs : AllB seed) (len : Int) (hl : 0 ≤ len ∧ len ≤ 8160) : ∀ (m M n : Nat) (a out : List Int), m < M → n + m < 256 → a.length ≤ 1000 → AllB a → out.length ≤ 100000 → (len ≤ out.length + 32 * m ∧ (m ≠ 0 → (out.length : Int) + 32 * ((m : Int) - 1) < len)) →
    gl (fun X c => ref13_Derive_L7 200000 X c.1.1 c.1.2.1 c.1.2.2.1 c.1.2.2.2.1 c.1.2.2.2.2.1 c.2.1) M ((k, (seed, (len, (a, ((n : Int), ()))))), (out, ())) = some (((len, (((n + m : Nat) : Int), ())), (out ++ pcs (kb k) (sf seed len) m a n, ())))
  | m, 0, _, _, _, h, _, _, _, _, _ => by omega
  | 0, M + 1, n, a, out, _, _, _, _, _, hc => by
    have c1 : ¬ ((out.length : Int) < len) := by omega
    rw [gl_succ]
    simp only [ref13_Derive_L7, c1, decide_false, cond_false, pcs, List.append_nil, Nat.add_zero]
  | m + 1, M + 1, n, a, out, hM, hn, ha, haB, ho, hc => by
    have hc2 := hc.2 (by omega)
    have c1 : ((out.length : Int) < len) := by omega
    have w0 : Go.IntKind.wrap .i64 ((n : Int) + 1) = ((n + 1 : Nat) : Int) := by rw [wrap64 (by omega) (by omega)]; omega
    have w1 : Go.IntKind.wrap .u8 ((n + 1 : Nat) : Int) = ((n + 1 : Nat) : Int) := wrapU8 (by omega) (by omega)
    have t1 : Int.tmod len 256 = len % 256 := Int.tmod_eq_emod_of_nonneg hl.1
    have t2 : Int.tdiv len 256 = len / 256 := Int.tdiv_eq_ediv_of_nonneg hl.1
    have w2 : Go.IntKind.wrap .u8 (len % 256) = len % 256 := wrapU8 (by omega) (by omega)
    have w3 : Go.IntKind.wrap .i64 (len / 256) = len / 256 := wrap64 (by omega) (by omega)
    have w4 : Go.IntKind.wrap .u8 (len / 256) = len / 256 := wrapU8 (by omega) (by omega)
    have hfl : ((a ++ seed) ++ ([len % 256, len / 256, ((n + 1 : Nat) : Int)] : List Int)) = a ++ sf seed len (n + 1) := by simp [sf]
    have hsB := sf_B (seed := seed) (len := len) hs (by omega) (n := n + 1) (by omega)
    have hin : (a ++ sf seed len (n + 1)).length ≤ 3000 := by rw [List.length_append, sf_len]; omega
    have ho1 := rof_ok k hk hB (a ++ sf seed len (n + 1)) hin (haB.append hsB)
    have hB2 := hm_B (b := kb k) hin (haB.append hsB)
    have hl2 := (hm (kb k) (a ++ sf seed len (n + 1))).h
    have r0 : roomB a.length 1 = true := roomB_of (by have := big_len; omega) (by omega)
    have r1 : roomB (a.length + seed.length) 1 = true := roomB_of (by have := big_len; omega) (by omega)
    have r2 : roomB ((a ++ seed).length + ([len % 256, len / 256, ((n + 1 : Nat) : Int)] : List Int).length) 1 = true := roomB_of (by have := big_len; rw [List.length_append]; simp only [List.length_cons, List.length_nil]; omega) (by rw [List.length_append]; simp only [List.length_cons, List.length_nil]; omega)
    have r : roomB (out.length + (hm (kb k) (a ++ sf seed len (n + 1))).l.length) 1 = true := roomB_of (by have := big_len; omega) (by omega)
    rw [gl_succ]
    simp only [ref13_Derive_L7, c1, decide_true, cond_true, w0, w1, t1, t2, w2, w3, w4, r0, r1, r2, hfl, ho1, Option.bind_some, r]
    refine (rloop k hk hB seed hsl hs len hl m M (n + 1) _ (out ++ (hm (kb k) (a ++ sf seed len (n + 1))).l) (by omega) (by omega) (by omega) hB2 (by rw [List.length_append]; omega) ?_).trans ?_
    · rw [List.length_append, hl2]
      constructor
      · have := hc.1; omega
      · intro h0; omega
    · rw [pcs, List.append_assoc, show n + 1 + m = n + (m + 1) by omega]
noncomputable def dv (k seed : List Int) (len : Int) : List Int := (pcs (kb k) (sf seed len) ((len + 31) / 32).toNat [] 0).take len.toNat
theorem dv_len (k seed : List Int) (len : Int) (hl : 1 ≤ len) : (dv k seed len).length = len.toNat := by
  unfold dv
  rw [List.length_take, pcs_len]
  omega
theorem dv_B {k seed : List Int} {len : Int} (hs : AllB seed) (hsl : seed.length ≤ 1000) (hl : 1 ≤ len ∧ len ≤ 8000) : AllB (dv k seed len) := (pcs_B hs (by omega) hsl _ _ _ (by simp) AllB.nil (by omega)).take _
theorem pder_ok (k : List Int) (hk : k.length ≤ 4000) (hB : AllB k) (seed : List Int) (hsl : seed.length ≤ 1000) (hs : AllB seed) (len : Int) (hl : 1 ≤ len ∧ len ≤ 8000) : prf_Derive 200000 k seed len = some (dv k seed len, 0) := by
  have w : Go.IntKind.wrap .u64 len = len := wrapU64 (by omega) (by omega)
  have e1 : len / 256 % 256 = len / 256 := by omega
  have hloop := ploop k hk hB seed hsl hs len (by omega) ((len + 31) / 32).toNat 200000 0 [] [] (by omega) (by omega) (by simp) AllB.nil (by simp) (by simp; omega)
  have tk : takeI ([] ++ pcs (kb k) (sf seed len) ((len + 31) / 32).toNat [] 0) len = some (dv k seed len) := by
    rw [List.nil_append]
    exact takeI_nat _ (i := len.toNat) (by omega) (by rw [pcs_len]; omega)
  have hz : ((0 : Nat) : Int) = 0 := rfl
  rw [hz] at hloop
  unfold prf_Derive
  rw [may_ok, Option.bind_some, if_neg (by omega), if_neg (by omega), w, oput2L _ (by omega)]
  simp only [decide_true, Bool.not_true, cond_false, Option.bind_some, e1]
  refine (congrArg (fun o => Option.bind o _) hloop).trans ?_
  simp only [Option.bind_some, tk]
theorem rder_ok (k : List Int) (hk : k.length ≤ 4000) (hB : AllB k) (seed : List Int) (hsl : seed.length ≤ 1000) (hs : AllB seed) (len : Int) (hl : 1 ≤ len ∧ len ≤ 8000) : ref13_Derive 200000 k seed len = some (dv k seed len, ((len + 31) / 32, 0)) := by
  have hloop := rloop k hk hB seed hsl hs len (by omega) ((len + 31) / 32).toNat 200000 0 [] [] (by omega) (by omega) (by simp) AllB.nil (by simp) (by simp; omega)
  have tk : takeI ([] ++ pcs (kb k) (sf seed len) ((len + 31) / 32).toNat [] 0) len = some (dv k seed len) := by
    rw [List.nil_append]
    exact takeI_nat _ (i := len.toNat) (by omega) (by rw [pcs_len]; omega)
  have hn : ((0 + ((len + 31) / 32).toNat : Nat) : Int) = (len + 31) / 32 := by omega
  rw [hn] at hloop
  have c1 : ¬ len < 1 := by omega
  have c2 : ¬ 8160 < len := by omega
  unfold ref13_Derive
  simp only [c1, c2, decide_false, cond_false]
  refine (congrArg (fun o => Option.bind o _) hloop).trans ?_
  simp only [Option.bind_some, tk]
def sd : List Int := [83, 83, 84, 80, 32, 105, 110, 110, 101, 114, 32, 109, 101, 116, 104, 111, 100, 32, 100, 101, 114, 105, 118, 101, 100, 32, 67, 77, 75]
theorem sd_B : AllB sd := fun x hx => by
  simp only [sd, List.mem_cons, List.not_mem_nil, or_false] at hx
  omega
def z32 : Arr Int 32 := ⟨List.replicate 32 0, rfl⟩
theorem z32_lit : ((Arr.cons 0 (Arr.cons 0 (Arr.cons 0 (Arr.cons 0 (Arr.cons 0 (Arr.cons 0 (Arr.cons 0 (Arr.cons 0 (Arr.cons 0 (Arr.cons 0 (Arr.cons 0 (Arr.cons 0 (Arr.cons 0 (Arr.cons 0 (Arr.cons 0 (Arr.cons 0 (Arr.cons 0 (Arr.cons 0 (Arr.cons 0 (Arr.cons 0 (Arr.cons 0 (Arr.cons 0 (Arr.cons 0 (Arr.cons 0 (Arr.cons 0 (Arr.cons 0 (Arr.cons 0 (Arr.cons 0 (Arr.cons 0 (Arr.cons 0 (Arr.cons 0 (Arr.cons 0 Arr.nil)))))))))))))))))))))))))))))))) : Arr Int 32) = z32 := rfl
theorem z32_B : AllB z32.l := fun x hx => by
  rw [(List.mem_replicate.1 hx).2]; exact ⟨Int.le_refl _, by decide⟩
noncomputable def bd (u : Arr Int 32) : Arr Int 32 := ⟨dv u.l sd 32, dv_len u.l sd 32 (by decide)⟩
theorem bd_B (u : Arr Int 32) : AllB (bd u).l := dv_B sd_B (by decide) (by decide)
theorem pbind_ok (u : Arr Int 32) (hu : AllB u.l) : prf_Bind 200000 u = some (bd u) := by
  have hd := pder_ok u.l (by rw [u.h]; omega) hu sd (by decide) sd_B 32 (by decide)
  have hl := dv_len u.l sd 32 (by decide)
  have ht : toArr 32 (dv u.l sd 32) = some (bd u) := by
    unfold toArr
    rw [dif_pos (by rw [hl]; decide)]
    refine congrArg some (Arr.eq ?_)
    exact List.take_of_length_le (by rw [hl]; decide)
  unfold prf_Bind
  refine (congrArg (fun o => Option.bind o _) hd).trans ?_
  simp only [Option.bind_some, ht]
theorem over32 (k : List Int) (h : k.length ≤ 32) : (z32.over k).l = k ++ List.replicate (32 - k.length) 0 := by
  show k.take 32 ++ (List.replicate 32 (0 : Int)).drop k.length = _
  rw [List.take_of_length_le h, List.drop_replicate]
theorem over_set32 (k : List Int) (h : k.length ≤ 32) (i : Nat) (hi : i < k.length) : (z32.over (k.take i)).set i k[i] = z32.over (k.take (i + 1)) := by
  apply Arr.eq
  show (z32.over (k.take i)).l.set i k[i] = _
  have l1 : (k.take i).length = i := by rw [List.length_take]; omega
  have l2 : (k.take (i + 1)).length = i + 1 := by rw [List.length_take]; omega
  rw [over32 _ (by omega), over32 _ (by omega), l1, l2]
  have e1 : k.take (i + 1) = k.take i ++ [k[i]] := by rw [List.take_add_one, List.getElem?_eq_getElem hi]; rfl
  rw [e1, List.set_append_right _ _ (by omega), l1, Nat.sub_self, show 32 - i = (32 - (i + 1)) + 1 by omega, List.replicate_succ, List.set_cons_zero, List.append_assoc]
  rfl
theorem rbindloop (k : List Int) (h : k.length = 32) (h0 : Arr Int 32) : ref13_Bind_L4_R 200000 ((k, ((0 : Int), ())), (h0, (z32, ()))) = some ((), (h0, (z32.over k, ()))) := by
  have e0 : z32.over (k.take 0) = z32 := Arr.eq (by rw [over32 _ (by simp)]; rfl)
  have en : z32.over (k.take 32) = z32.over k := by rw [List.take_of_length_le (by omega)]
  have := gl_run (G := fun X c => ref13_Bind_L4 200000 X c.1.1 c.1.2.1 c.2.1 c.2.2.1) (fun i => ((k, (((i : Nat) : Int), ())), (h0, (z32.over (k.take i), ())))) 32 (((), (h0, (z32.over k, ())))) (fun X i hi => ?_) (fun X => ?_) 200000 0 (Nat.zero_le _) (by omega)
  · rw [e0] at this; exact this
  · have c1 : ((i : Int) < (32 : Int)) := by omega
    have c2 : ((0 : Int) ≤ (i : Int) ∧ (i : Int) < (((32 : Nat) : Nat) : Int)) := by omega
    have e3 : Go.IntKind.wrap .i64 ((i : Int) + 1) = ((i + 1 : Nat) : Int) := by rw [wrap64 (by omega) (by omega)]; omega
    have hl : i < (z32.over (k.take i)).l.length := by rw [(z32.over (k.take i)).h]; omega
    have hik : i < k.length := by omega
    simp only [ref13_Bind_L4, c1, c2, decide_true, cond_true, getI_lt k i hik, Option.bind_some, Int.toNat_natCast, List.getElem?_eq_getElem hl, e3, and_self, over_set32 k (by omega) i hik]
  · have c1 : ¬ (((32 : Nat) : Int) < (32 : Int)) := by omega
    simp only [ref13_Bind_L4, c1, decide_false, cond_false, en]
theorem rbind_ok (u : Arr Int 32) (hu : AllB u.l) : ref13_Bind 200000 u = some (bd u) := by
  have hd := rder_ok u.l (by rw [u.h]; omega) hu sd (by decide) sd_B 32 (by decide)
  have hl := dv_len u.l sd 32 (by decide)
  have he : z32.over (dv u.l sd 32) = bd u := by
    apply Arr.eq
    rw [over32 _ (by rw [hl]; decide), hl]
    exact List.append_nil _
  unfold ref13_Bind
  refine (congrArg (fun o => Option.bind o _) hd).trans ?_
  simp only [Option.bind_some]
  refine (congrArg (fun o => Option.bind o _) (rbindloop (dv u.l sd 32) (by rw [hl]; rfl) _)).trans ?_
  simp only [Option.bind_some, he]
theorem one_ok {a : List Int} (h : a.length ≤ 3000) (ha : AllB a) : ∀ p ∈ ([a] : List (List Int)), p.length ≤ 3000 ∧ AllB p := fun p hp => by
  rw [List.mem_singleton] at hp; subst hp; exact ⟨h, ha⟩
theorem flat_one' (a : List Int) : ([a] : List (List Int)).flatten = a := by simp
theorem seal_ok (u : Arr Int 32) (hu : AllB u.l) (p : List Int) (hp : p.length ≤ 3000) (hpB : AllB p) : prf_Seal 200000 u p = some (hm (kb u.l) p) := by
  have h := hof_ok u.l (by rw [u.h]; omega) hu [p] (by simp) (one_ok hp hpB) (by rw [flat_one']; omega)
  rw [flat_one'] at h
  unfold prf_Seal
  rw [h]; rfl
theorem head13 : (prf_Bind 200000 z32).map (fun D => decide (D.l = List.replicate 32 0)) = some false := by decide +kernel
theorem wf_i64' {n : Int} (h : (Lit.int .i64 n).wf = true) : -9223372036854775808 ≤ n ∧ n < 9223372036854775808 := by
  simp only [Lit.wf, Bool.and_eq_true, decide_eq_true_eq, IntKind.min, IntKind.max, IntKind.signed, IntKind.bits] at h
  simp at h
  omega
theorem wf_u16' {n : Int} (h : (Lit.int .u16 n).wf = true) : 0 ≤ n ∧ n < 65536 := by
  simp only [Lit.wf, Bool.and_eq_true, decide_eq_true_eq, IntKind.min, IntKind.max, IntKind.signed, IntKind.bits] at h
  simp at h
  omega
end Go.Proofs.Ytbaidlcbldbmdaa
