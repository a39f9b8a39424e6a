/-
  Layer 4, on plain data: digests.
-/
import Derived.Test.YtpjamebfpgmjdaaDoorQM3
namespace Go.Proofs.YtpjamebfpgmjdaaDoor
set_option maxRecDepth 100000
open Go.RowKit
set_option linter.unusedVariables false
set_option linter.unusedSimpArgs false
set_option maxRecDepth 100000

/-- The state behind so many blocks of bytes. -/
noncomputable def runS (t : Arr Int 4) (l : List Int) : Nat → Arr Int 4
  | 0 => t
  | m + 1 => runS ((do let a ← toArr 64 (l.take 64); md4_behind 200000 t a ks04).getD t) (l.drop 64) m
theorem flat_len (m : List (List Int)) (k : Nat) (h : ∀ p ∈ m, p.length ≤ k) : m.flatten.length ≤ k * m.length := by
  induction m with
  | nil => simp
  | cons p m ih =>
    have h1 := h p List.mem_cons_self
    have h2 := ih fun q hq => h q (List.mem_cons_of_mem _ hq)
    rw [List.flatten_cons, List.length_append, List.length_cons, Nat.mul_add]
    omega
section
variable {N : Nat}
theorem joinS (l : List (List Int)) (h0 : Arr Int 16) (hl : l.length ≤ 1000) (hs : ∀ p ∈ l, p.length ≤ 100000) (hN : 2000 ≤ N) :
    md4_Of_1_octs_Join_L3_R N ((l, ((0 : Int), (l, ((l.length : Int), ((0 : Int), ()))))), (h0, ())) = some ((l, ((l.flatten.length : Int), ())), (h0, ())) ∧
    md4_Of_1_octs_Join_L9_R N ((l, ((l.length : Int), ((0 : Int), ()))), (h0, (([] : List Int), ()))) = some ((), (h0, (l.flatten, ()))) := by
  have tk : ∀ i, (l.take i).flatten.length ≤ 100000000 := fun i => by
    have := flat_len (l.take i) 100000 fun p hp => hs p (List.mem_of_mem_take hp)
    rw [List.length_take] at this
    omega
  have hsn : ∀ i (hi : i < l.length), (l.take (i + 1)).flatten = (l.take i).flatten ++ l[i] := fun i hi => by
    have : l.take (i + 1) = l.take i ++ [l[i]] := by rw [List.take_add_one, List.getElem?_eq_getElem hi]; rfl
    rw [this, List.flatten_append]
    simp
  have h1 := gl_run (G := fun (X : ((List (List Int) × Int × List (List Int) × Int × Int × Unit) × Arr Int 16 × Unit) → Option ((List (List Int) × Int × Unit) × Arr Int 16 × Unit)) c => md4_Of_1_octs_Join_L3 N X c.1.1 c.1.2.1 c.1.2.2.1 c.1.2.2.2.1 c.1.2.2.2.2.1 c.2.1)
    (fun i => ((l, (((l.take i).flatten.length : Int), (l, ((l.length : Int), ((i : Int), ()))))), (h0, ()))) l.length ((l, ((l.flatten.length : Int), ())), (h0, ())) (fun X i hi => by
    have c1 : ((i : Int) < (l.length : Int)) := by omega
    have c2 : Go.IntKind.wrap .i64 ((i : Int) + 1) = ((i + 1 : Nat) : Int) := by rw [wrap64 (by omega) (by omega)]; omega
    have hp := hs _ (List.getElem_mem hi)
    have ht := tk i
    have c3 : Go.IntKind.wrap .i64 (((l.take i).flatten.length : Int) + (l[i].length : Int)) = (((l.take (i + 1)).flatten.length : Nat) : Int) := by rw [wrap64 (by omega) (by omega), hsn i hi, List.length_append]; omega
    simp only [md4_Of_1_octs_Join_L3, c1, decide_true, cond_true, getI_lt l i hi, Option.bind_some, c3, c2]) (fun X => by
    simp [md4_Of_1_octs_Join_L3]) N 0 (by omega) (by omega)
  have h2 := gl_run (G := fun (X : ((List (List Int) × Int × Int × Unit) × Arr Int 16 × List Int × Unit) → Option (Unit × Arr Int 16 × List Int × Unit)) c => md4_Of_1_octs_Join_L9 N X c.1.1 c.1.2.1 c.1.2.2.1 c.2.1 c.2.2.1)
    (fun i => ((l, ((l.length : Int), ((i : Int), ()))), (h0, ((l.take i).flatten, ())))) l.length ((), (h0, (l.flatten, ()))) (fun X i hi => by
    have c1 : ((i : Int) < (l.length : Int)) := by omega
    have c2 : Go.IntKind.wrap .i64 ((i : Int) + 1) = ((i + 1 : Nat) : Int) := by rw [wrap64 (by omega) (by omega)]; omega
    have hp := hs _ (List.getElem_mem hi)
    have ht := tk i
    have c3 : roomB ((l.take i).flatten.length + l[i].length) 1 = true := roomB_of (by have := big_len; omega) (by omega)
    simp only [md4_Of_1_octs_Join_L9, c1, decide_true, cond_true, getI_lt l i hi, Option.bind_some, c3, c2, hsn i hi]) (fun X => by
    simp [md4_Of_1_octs_Join_L9]) N 0 (by omega) (by omega)
  simp only [Int.natCast_zero, List.take_zero, List.flatten_nil, List.length_nil] at h1 h2
  exact ⟨h1, h2⟩
/-- The digest of a state. -/
theorem put4l (n : Int) (h : 0 ≤ n ∧ n < 4294967296) (hN : 100 ≤ N) : octs_Put N (Go.IntKind.wrap .u64 n) 4 true = some ([n % 256, n / 256 % 256, n / 65536 % 256, n / 16777216 % 256], 0) := by
  rw [wrapU64 (by omega) (by omega)]
  show qOPut N n 4 true = _
  obtain ⟨M, rfl⟩ : ∃ M, N = M + 5 := ⟨N - 5, by omega⟩
  have r1 : roomB (Int.toNat 4) 1 = true := by decide
  have r2 : List.replicate (Int.toNat 4) (0 : Int) = [0, 0, 0, 0] := rfl
  have w3 : Go.IntKind.wrap .i64 ((0 : Int) + 1) = 1 := by decide
  have w4 : Go.IntKind.wrap .i64 ((1 : Int) + 1) = 2 := by decide
  have w5 : Go.IntKind.wrap .i64 ((2 : Int) + 1) = 3 := by decide
  have w6 : Go.IntKind.wrap .i64 ((3 : Int) + 1) = 4 := by decide
  have e1 : (2 : Int) ^ min (Int.toNat 8) (IntKind.bits IntKind.u64) = 256 := by decide
  have d1 : Int.fdiv n 256 = n / 256 := Int.fdiv_eq_ediv_of_nonneg n (by decide)
  have d2 : Int.fdiv (n / 256) 256 = n / 65536 := by rw [Int.fdiv_eq_ediv_of_nonneg _ (by decide)]; omega
  have d3 : Int.fdiv (n / 65536) 256 = n / 16777216 := by rw [Int.fdiv_eq_ediv_of_nonneg _ (by decide)]; omega
  have w7 : Go.IntKind.wrap .u8 n = n % 256 := by rw [IntKind.wrap_u8]
  have w8 : Go.IntKind.wrap .u8 (n / 256) = n / 256 % 256 := by rw [IntKind.wrap_u8]
  have w9 : Go.IntKind.wrap .u8 (n / 65536) = n / 65536 % 256 := by rw [IntKind.wrap_u8]
  have w10 : Go.IntKind.wrap .u8 (n / 16777216) = n / 16777216 % 256 := by rw [IntKind.wrap_u8]
  simp only [qOPut, qOPutL5R, gl, qOPutL5, qOplace, r1, r2, e1, cond_false, cond_true, Option.bind_some, w3, w4, w5, w6]
  simp [w3, w4, w5, w6, d1, d2, d3, w7, w8, w9, w10]
def by4 (n : Int) : List Int := [n % 256, n / 256 % 256, n / 65536 % 256, n / 16777216 % 256]
theorem by4_B (n : Int) : AllB (by4 n) := fun x hx => by
  simp only [by4, List.mem_cons, List.not_mem_nil, or_false] at hx
  rcases hx with rfl | rfl | rfl | rfl <;> omega
theorem digest_ok (a b c d : Int) (ht : ([a, b, c, d] : List Int).length = 4) (ha : AllW [a, b, c, d]) (hN : 10000 ≤ N) : ∃ D : Arr Int 16, D.l = by4 a ++ by4 b ++ by4 c ++ by4 d ∧ md4_digest N ⟨[a, b, c, d], ht⟩ = some D := by
  obtain ⟨M, rfl⟩ : ∃ M, N = M + 6 := ⟨N - 6, by omega⟩
  have pa := put4l (N := M + 6) a (ha a (by simp)) (by omega)
  have pb := put4l (N := M + 6) b (ha b (by simp)) (by omega)
  have pc := put4l (N := M + 6) c (ha c (by simp)) (by omega)
  have pd := put4l (N := M + 6) d (ha d (by simp)) (by omega)
  have w3 : Go.IntKind.wrap .i64 ((0 : Int) + 1) = 1 := by decide
  have w4 : Go.IntKind.wrap .i64 ((1 : Int) + 1) = 2 := by decide
  have w5 : Go.IntKind.wrap .i64 ((2 : Int) + 1) = 3 := by decide
  have w6 : Go.IntKind.wrap .i64 ((3 : Int) + 1) = 4 := by decide
  have z0 : getI ([a, b, c, d] : List Int) 0 = some a := rfl
  have z1 : getI ([a, b, c, d] : List Int) 1 = some b := rfl
  have z2 : getI ([a, b, c, d] : List Int) 2 = some c := rfl
  have z3 : getI ([a, b, c, d] : List Int) 3 = some d := rfl
  have l0 : (decide ((0 : Int) < 4)) = true := rfl
  have l1 : (decide ((1 : Int) < 4)) = true := rfl
  have l2 : (decide ((2 : Int) < 4)) = true := rfl
  have l3 : (decide ((3 : Int) < 4)) = true := rfl
  have rm : ∀ (p : List Int) (u v x y : Int), p.length < 100 → roomB (p.length + ([u, v, x, y] : List Int).length) 1 = true := fun p u v x y hp => roomB_of (by have := big_len; simp; omega) (by simp; omega)
  have step : ∀ (K : Nat) (i j : Int) (n : Int) (p : List Int) (h0 : Arr Int 16), decide (i < 4) = true → getI ([a, b, c, d] : List Int) i = some n → octs_Put (M + 6) (Go.IntKind.wrap .u64 n) 4 true = some (by4 n, 0) → Go.IntKind.wrap .i64 (i + 1) = j → p.length < 100 →
      gl (fun X c => md4_digest_L3 (M + 6) X c.1.1 c.1.2.1 c.2.1 c.2.2.1) (K + 1) (((⟨[a, b, c, d], ht⟩ : Arr Int 4), (i, ())), (h0, (p, ()))) = gl (fun X c => md4_digest_L3 (M + 6) X c.1.1 c.1.2.1 c.2.1 c.2.2.1) K (((⟨[a, b, c, d], ht⟩ : Arr Int 4), (j, ())), (h0, (p ++ by4 n, ()))) := fun K i j n p h0 q1 q2 q3 q4 q5 => by
    rw [gl_succ]
    have r := rm p (n % 256) (n / 256 % 256) (n / 65536 % 256) (n / 16777216 % 256) q5
    have r : roomB (p.length + (by4 n).length) 1 = true := r
    simp only [md4_digest_L3, q1, cond_true, q2, Option.bind_some, q3, r, q4]
  have fin : ∀ (K : Nat) (p : List Int) (h0 : Arr Int 16), gl (fun X c => md4_digest_L3 (M + 6) X c.1.1 c.1.2.1 c.2.1 c.2.2.1) (K + 1) (((⟨[a, b, c, d], ht⟩ : Arr Int 4), ((4 : Int), ())), (h0, (p, ()))) = some ((), (h0, (p, ()))) := fun K p h0 => by
    rw [gl_succ]; rfl
  have all : ∀ h0 : Arr Int 16, md4_digest_L3_R (M + 6) (((⟨[a, b, c, d], ht⟩ : Arr Int 4), ((0 : Int), ())), (h0, (([] : List Int), ()))) = some ((), (h0, (by4 a ++ by4 b ++ by4 c ++ by4 d, ()))) := fun h0 => by
    refine (step (M + 5) 0 1 a [] h0 l0 z0 pa w3 (by simp)).trans ?_
    refine (step (M + 4) 1 2 b _ h0 l1 z1 pb w4 (by simp [by4])).trans ?_
    refine (step (M + 3) 2 3 c _ h0 l2 z2 pc w5 (by simp [by4])).trans ?_
    refine (step (M + 2) 3 4 d _ h0 l3 z3 pd w6 (by simp [by4])).trans ?_
    exact fin (M + 1) _ h0
  have hl : (by4 a ++ by4 b ++ by4 c ++ by4 d).length = 16 := by simp [by4]
  unfold md4_digest
  rw [all, Option.bind_some]
  refine ⟨⟨(by4 a ++ by4 b ++ by4 c ++ by4 d).take 16, by rw [List.length_take, hl]; rfl⟩, ?_, ?_⟩
  · exact List.take_of_length_le (by omega)
  · have : toArr 16 (by4 a ++ by4 b ++ by4 c ++ by4 d) = some ⟨(by4 a ++ by4 b ++ by4 c ++ by4 d).take 16, by rw [List.length_take, hl]; rfl⟩ := dif_pos (by omega)
    simp only [this, Option.bind_some]
end
end Go.Proofs.YtpjamebfpgmjdaaDoor
