/-
  Layer 6, on plain data: digests.
-/
import Derived.Test.YtbaidlcbldbmdaaQX3
namespace Go.Proofs.Ytbaidlcbldbmdaa
set_option maxRecDepth 100000
open Go.RowKit
set_option linter.unusedVariables false
set_option linter.unusedSimpArgs false
set_option maxRecDepth 100000

/-- The state behind so many blocks of bytes. -/
noncomputable def runS (t : Arr Int 8) (l : List Int) : Nat → Arr Int 8
  | 0 => t
  | m + 1 => runS ((do let a ← toArr 64 (l.take 64); sha256_behind 200000 t a ks06).getD t) (l.drop 64) m
theorem flat_len (m : List (List Int)) (k : Nat) (h : ∀ p ∈ m, p.length ≤ k) : m.flatten.length ≤ k * m.length := by
  induction m with
  | nil => simp
  | cons p m ih =>
    have h1 := h p List.mem_cons_self
    have h2 := ih fun q hq => h q (List.mem_cons_of_mem _ hq)
    rw [List.flatten_cons, List.length_append, List.length_cons, Nat.mul_add]
    omega
section
variable {N : Nat}
theorem joinS (l : List (List Int)) (h0 : Arr Int 32) (hl : l.length ≤ 1000) (hs : ∀ p ∈ l, p.length ≤ 100000) (hN : 2000 ≤ N) :
    sha256_Of_1_octs_Join_L3_R N ((l, ((0 : Int), (l, ((l.length : Int), ((0 : Int), ()))))), (h0, ())) = some ((l, ((l.flatten.length : Int), ())), (h0, ())) ∧
    sha256_Of_1_octs_Join_L9_R N ((l, ((l.length : Int), ((0 : Int), ()))), (h0, (([] : List Int), ()))) = some ((), (h0, (l.flatten, ()))) := by
  have tk : ∀ i, (l.take i).flatten.length ≤ 100000000 := fun i => by
    have := flat_len (l.take i) 100000 fun p hp => hs p (List.mem_of_mem_take hp)
    rw [List.length_take] at this
    omega
  have hsn : ∀ i (hi : i < l.length), (l.take (i + 1)).flatten = (l.take i).flatten ++ l[i] := fun i hi => by
    have : l.take (i + 1) = l.take i ++ [l[i]] := by rw [List.take_add_one, List.getElem?_eq_getElem hi]; rfl
    rw [this, List.flatten_append]
    simp
  have h1 := gl_run (G := fun (X : ((List (List Int) × Int × List (List Int) × Int × Int × Unit) × Arr Int 32 × Unit) → Option ((List (List Int) × Int × Unit) × Arr Int 32 × Unit)) c => sha256_Of_1_octs_Join_L3 N X c.1.1 c.1.2.1 c.1.2.2.1 c.1.2.2.2.1 c.1.2.2.2.2.1 c.2.1)
    (fun i => ((l, (((l.take i).flatten.length : Int), (l, ((l.length : Int), ((i : Int), ()))))), (h0, ()))) l.length ((l, ((l.flatten.length : Int), ())), (h0, ())) (fun X i hi => by
    have c1 : ((i : Int) < (l.length : Int)) := by omega
    have c2 : Go.IntKind.wrap .i64 ((i : Int) + 1) = ((i + 1 : Nat) : Int) := by rw [wrap64 (by omega) (by omega)]; omega
    have hp := hs _ (List.getElem_mem hi)
    have ht := tk i
    have c3 : Go.IntKind.wrap .i64 (((l.take i).flatten.length : Int) + (l[i].length : Int)) = (((l.take (i + 1)).flatten.length : Nat) : Int) := by rw [wrap64 (by omega) (by omega), hsn i hi, List.length_append]; omega
    simp only [sha256_Of_1_octs_Join_L3, c1, decide_true, cond_true, getI_lt l i hi, Option.bind_some, c3, c2]) (fun X => by
    simp [sha256_Of_1_octs_Join_L3]) N 0 (by omega) (by omega)
  have h2 := gl_run (G := fun (X : ((List (List Int) × Int × Int × Unit) × Arr Int 32 × List Int × Unit) → Option (Unit × Arr Int 32 × List Int × Unit)) c => sha256_Of_1_octs_Join_L9 N X c.1.1 c.1.2.1 c.1.2.2.1 c.2.1 c.2.2.1)
    (fun i => ((l, ((l.length : Int), ((i : Int), ()))), (h0, ((l.take i).flatten, ())))) l.length ((), (h0, (l.flatten, ()))) (fun X i hi => by
    have c1 : ((i : Int) < (l.length : Int)) := by omega
    have c2 : Go.IntKind.wrap .i64 ((i : Int) + 1) = ((i + 1 : Nat) : Int) := by rw [wrap64 (by omega) (by omega)]; omega
    have hp := hs _ (List.getElem_mem hi)
    have ht := tk i
    have c3 : roomB ((l.take i).flatten.length + l[i].length) 1 = true := roomB_of (by have := big_len; omega) (by omega)
    simp only [sha256_Of_1_octs_Join_L9, c1, decide_true, cond_true, getI_lt l i hi, Option.bind_some, c3, c2, hsn i hi]) (fun X => by
    simp [sha256_Of_1_octs_Join_L9]) N 0 (by omega) (by omega)
  simp only [Int.natCast_zero, List.take_zero, List.flatten_nil, List.length_nil] at h1 h2
  exact ⟨h1, h2⟩
/-- The digest of a state. -/
theorem put4' (n : Int) (h : 0 ≤ n ∧ n < 4294967296) (hN : 100 ≤ N) : octs_Put N (Go.IntKind.wrap .u64 n) 4 false = some ([n / 16777216 % 256, n / 65536 % 256, n / 256 % 256, n % 256], 0) := by
  rw [wrapU64 (by omega) (by omega)]
  exact put4 n (by omega) hN
def by4 (n : Int) : List Int := [n / 16777216 % 256, n / 65536 % 256, n / 256 % 256, n % 256]
theorem by4_B (n : Int) : AllB (by4 n) := fun x hx => by
  simp only [by4, List.mem_cons, List.not_mem_nil, or_false] at hx
  rcases hx with rfl | rfl | rfl | rfl <;> omega
theorem digest_ok (a b c d e f g u : Int) (ht : ([a, b, c, d, e, f, g, u] : List Int).length = 8) (ha : AllW [a, b, c, d, e, f, g, u]) (hN : 10000 ≤ N) : ∃ D : Arr Int 32, D.l = by4 a ++ by4 b ++ by4 c ++ by4 d ++ by4 e ++ by4 f ++ by4 g ++ by4 u ∧ sha256_digest N ⟨[a, b, c, d, e, f, g, u], ht⟩ = some D := by
  obtain ⟨M, rfl⟩ : ∃ M, N = M + 9 := ⟨N - 9, by omega⟩
  have pa := put4' (N := M + 9) a (ha a (by simp)) (by omega)
  have pb := put4' (N := M + 9) b (ha b (by simp)) (by omega)
  have pc := put4' (N := M + 9) c (ha c (by simp)) (by omega)
  have pd := put4' (N := M + 9) d (ha d (by simp)) (by omega)
  have pe := put4' (N := M + 9) e (ha e (by simp)) (by omega)
  have pf := put4' (N := M + 9) f (ha f (by simp)) (by omega)
  have pg := put4' (N := M + 9) g (ha g (by simp)) (by omega)
  have pu := put4' (N := M + 9) u (ha u (by simp)) (by omega)
  have w0 : Go.IntKind.wrap .i64 ((0 : Int) + 1) = 1 := by decide
  have w1 : Go.IntKind.wrap .i64 ((1 : Int) + 1) = 2 := by decide
  have w2 : Go.IntKind.wrap .i64 ((2 : Int) + 1) = 3 := by decide
  have w3 : Go.IntKind.wrap .i64 ((3 : Int) + 1) = 4 := by decide
  have w4 : Go.IntKind.wrap .i64 ((4 : Int) + 1) = 5 := by decide
  have w5 : Go.IntKind.wrap .i64 ((5 : Int) + 1) = 6 := by decide
  have w6 : Go.IntKind.wrap .i64 ((6 : Int) + 1) = 7 := by decide
  have w7 : Go.IntKind.wrap .i64 ((7 : Int) + 1) = 8 := by decide
  have z0 : getI ([a, b, c, d, e, f, g, u] : List Int) 0 = some a := rfl
  have z1 : getI ([a, b, c, d, e, f, g, u] : List Int) 1 = some b := rfl
  have z2 : getI ([a, b, c, d, e, f, g, u] : List Int) 2 = some c := rfl
  have z3 : getI ([a, b, c, d, e, f, g, u] : List Int) 3 = some d := rfl
  have z4 : getI ([a, b, c, d, e, f, g, u] : List Int) 4 = some e := rfl
  have z5 : getI ([a, b, c, d, e, f, g, u] : List Int) 5 = some f := rfl
  have z6 : getI ([a, b, c, d, e, f, g, u] : List Int) 6 = some g := rfl
  have z7 : getI ([a, b, c, d, e, f, g, u] : List Int) 7 = some u := rfl
  have l0 : (decide ((0 : Int) < 8)) = true := rfl
  have l1 : (decide ((1 : Int) < 8)) = true := rfl
  have l2 : (decide ((2 : Int) < 8)) = true := rfl
  have l3 : (decide ((3 : Int) < 8)) = true := rfl
  have l4 : (decide ((4 : Int) < 8)) = true := rfl
  have l5 : (decide ((5 : Int) < 8)) = true := rfl
  have l6 : (decide ((6 : Int) < 8)) = true := rfl
  have l7 : (decide ((7 : Int) < 8)) = true := rfl
  have step : ∀ (K : Nat) (i j : Int) (n : Int) (p : List Int) (h0 : Arr Int 32), decide (i < 8) = true → getI ([a, b, c, d, e, f, g, u] : List Int) i = some n → octs_Put (M + 9) (Go.IntKind.wrap .u64 n) 4 false = some (by4 n, 0) → Go.IntKind.wrap .i64 (i + 1) = j → p.length < 100 →
      gl (fun X c => sha256_digest_L3 (M + 9) X c.1.1 c.1.2.1 c.2.1 c.2.2.1) (K + 1) (((⟨[a, b, c, d, e, f, g, u], ht⟩ : Arr Int 8), (i, ())), (h0, (p, ()))) = gl (fun X c => sha256_digest_L3 (M + 9) X c.1.1 c.1.2.1 c.2.1 c.2.2.1) K (((⟨[a, b, c, d, e, f, g, u], ht⟩ : Arr Int 8), (j, ())), (h0, (p ++ by4 n, ()))) := fun K i j n p h0 q1 q2 q3 q4 q5 => by
    rw [gl_succ]
    have r : roomB (p.length + (by4 n).length) 1 = true := roomB_of (by have := big_len; simp [by4]; omega) (by simp [by4]; omega)
    simp only [sha256_digest_L3, q1, cond_true, q2, Option.bind_some, q3, r, q4]
  have fin : ∀ (K : Nat) (p : List Int) (h0 : Arr Int 32), gl (fun X c => sha256_digest_L3 (M + 9) X c.1.1 c.1.2.1 c.2.1 c.2.2.1) (K + 1) (((⟨[a, b, c, d, e, f, g, u], ht⟩ : Arr Int 8), ((8 : Int), ())), (h0, (p, ()))) = some ((), (h0, (p, ()))) := fun K p h0 => by
    rw [gl_succ]; rfl
  have all : ∀ h0 : Arr Int 32, sha256_digest_L3_R (M + 9) (((⟨[a, b, c, d, e, f, g, u], ht⟩ : Arr Int 8), ((0 : Int), ())), (h0, (([] : List Int), ()))) = some ((), (h0, (by4 a ++ by4 b ++ by4 c ++ by4 d ++ by4 e ++ by4 f ++ by4 g ++ by4 u, ()))) := fun h0 => by
    refine (step (M + 8) 0 1 a [] h0 l0 z0 pa w0 (by simp [by4])).trans ?_
    refine (step (M + 7) 1 2 b _ h0 l1 z1 pb w1 (by simp [by4])).trans ?_
    refine (step (M + 6) 2 3 c _ h0 l2 z2 pc w2 (by simp [by4])).trans ?_
    refine (step (M + 5) 3 4 d _ h0 l3 z3 pd w3 (by simp [by4])).trans ?_
    refine (step (M + 4) 4 5 e _ h0 l4 z4 pe w4 (by simp [by4])).trans ?_
    refine (step (M + 3) 5 6 f _ h0 l5 z5 pf w5 (by simp [by4])).trans ?_
    refine (step (M + 2) 6 7 g _ h0 l6 z6 pg w6 (by simp [by4])).trans ?_
    refine (step (M + 1) 7 8 u _ h0 l7 z7 pu w7 (by simp [by4])).trans ?_
    exact fin M _ h0
  have hl : (by4 a ++ by4 b ++ by4 c ++ by4 d ++ by4 e ++ by4 f ++ by4 g ++ by4 u).length = 32 := by simp [by4]
  unfold sha256_digest
  rw [all, Option.bind_some]
  refine ⟨⟨(by4 a ++ by4 b ++ by4 c ++ by4 d ++ by4 e ++ by4 f ++ by4 g ++ by4 u).take 32, by rw [List.length_take, hl]; rfl⟩, ?_, ?_⟩
  · exact List.take_of_length_le (by omega)
  · have : toArr 32 (by4 a ++ by4 b ++ by4 c ++ by4 d ++ by4 e ++ by4 f ++ by4 g ++ by4 u) = some ⟨(by4 a ++ by4 b ++ by4 c ++ by4 d ++ by4 e ++ by4 f ++ by4 g ++ by4 u).take 32, by rw [List.length_take, hl]; rfl⟩ := dif_pos (by omega)
    simp only [this, Option.bind_some]
end
end Go.Proofs.Ytbaidlcbldbmdaa
