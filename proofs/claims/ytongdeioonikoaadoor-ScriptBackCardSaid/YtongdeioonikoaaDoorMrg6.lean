/-
  Parts of my own, one behind the other: QSd4, QSd5, QSd6, QSc1, QSc2, QSc3, QSc4, QSc5, QSc9, QScB, QScC, QScD, QSc6, QSc7, QSc8, QScA, QScE, QScF.
-/
import Derived.Test.YtongdeioonikoaaDoorMrg5
import Derived.Lib.ItoaMem
namespace Go.Proofs.YtongdeioonikoaaDoor
set_option maxRecDepth 100000
open Go.RowKit
set_option linter.unusedVariables false
set_option linter.unusedSimpArgs false
set_option maxRecDepth 100000
theorem flat_len (m : List (List Int)) (k : Nat) (h : ∀ p ∈ m, p.length ≤ k) : m.flatten.length ≤ k * m.length := by
 induction m with
 | nil => simp
 | cons p m ih =>
  have h1 := h p List.mem_cons_self
  have h2 := ih fun q hq => h q (List.mem_cons_of_mem _ hq)
  rw [List.flatten_cons, List.length_append, List.length_cons, Nat.mul_add]
  omega
section
variable {N : Nat}
theorem joinS (l : List (List Int)) (h0 : Arr Int 32) (hl : l.length ≤ 1000) (hs : ∀ p ∈ l, p.length ≤ 100000) (hN : 2000 ≤ N) :
  sha256_Of_1_octs_Join_L3_R N ((l, ((0 : Int), (l, ((l.length : Int), ((0 : Int), ()))))), (h0, ())) = some ((l, ((l.flatten.length : Int), ())), (h0, ())) ∧
  sha256_Of_1_octs_Join_L9_R N ((l, ((l.length : Int), ((0 : Int), ()))), (h0, (([] : List Int), ()))) = some ((), (h0, (l.flatten, ()))) := by
 have tk : ∀ i, (l.take i).flatten.length ≤ 100000000 := fun i => by
  have := flat_len (l.take i) 100000 fun p hp => hs p (List.mem_of_mem_take hp)
  rw [List.length_take] at this
  omega
 have hsn : ∀ i (hi : i < l.length), (l.take (i + 1)).flatten = (l.take i).flatten ++ l[i] := fun i hi => by
  have : l.take (i + 1) = l.take i ++ [l[i]] := by rw [List.take_add_one, List.getElem?_eq_getElem hi]; rfl
  rw [this, List.flatten_append]
  simp
 have h1 := gl_run (G := fun (X : ((List (List Int) × Int × List (List Int) × Int × Int × Unit) × Arr Int 32 × Unit) → Option ((List (List Int) × Int × Unit) × Arr Int 32 × Unit)) c => sha256_Of_1_octs_Join_L3 N X c.1.1 c.1.2.1 c.1.2.2.1 c.1.2.2.2.1 c.1.2.2.2.2.1 c.2.1)
  (fun i => ((l, (((l.take i).flatten.length : Int), (l, ((l.length : Int), ((i : Int), ()))))), (h0, ()))) l.length ((l, ((l.flatten.length : Int), ())), (h0, ())) (fun X i hi => by
  have c1 : ((i : Int) < (l.length : Int)) := by omega
  have c2 : IntKind.wrap .i64 ((i : Int) + 1) = ((i + 1 : Nat) : Int) := by rw [wrap64 (by omega) (by omega)]; omega
  have hp := hs _ (List.getElem_mem hi)
  have ht := tk i
  have c3 : IntKind.wrap .i64 (((l.take i).flatten.length : Int) + (l[i].length : Int)) = (((l.take (i + 1)).flatten.length : Nat) : Int) := by rw [wrap64 (by omega) (by omega), hsn i hi, List.length_append]; omega
  simp only [sha256_Of_1_octs_Join_L3, c1, decide_true, cond_true, getI_lt l i hi, Option.bind_some, c3, c2]) (fun X => by
  simp [sha256_Of_1_octs_Join_L3]) N 0 (by omega) (by omega)
 have h2 := gl_run (G := fun (X : ((List (List Int) × Int × Int × Unit) × Arr Int 32 × List Int × Unit) → Option (Unit × Arr Int 32 × List Int × Unit)) c => sha256_Of_1_octs_Join_L9 N X c.1.1 c.1.2.1 c.1.2.2.1 c.2.1 c.2.2.1)
  (fun i => ((l, ((l.length : Int), ((i : Int), ()))), (h0, ((l.take i).flatten, ())))) l.length ((), (h0, (l.flatten, ()))) (fun X i hi => by
  have c1 : ((i : Int) < (l.length : Int)) := by omega
  have c2 : IntKind.wrap .i64 ((i : Int) + 1) = ((i + 1 : Nat) : Int) := by rw [wrap64 (by omega) (by omega)]; omega
  have hp := hs _ (List.getElem_mem hi)
  have ht := tk i
  have c3 : roomB ((l.take i).flatten.length + l[i].length) 1 = true := roomB_of (by have := big_len; omega) (by omega)
  simp only [sha256_Of_1_octs_Join_L9, c1, decide_true, cond_true, getI_lt l i hi, Option.bind_some, c3, c2, hsn i hi]) (fun X => by
  simp [sha256_Of_1_octs_Join_L9]) N 0 (by omega) (by omega)
 simp only [Int.natCast_zero, List.take_zero, List.flatten_nil, List.length_nil] at h1 h2
 exact ⟨h1, h2⟩
theorem put4' (n : Int) (h : 0 ≤ n ∧ n < 4294967296) (hN : 100 ≤ N) : octs_Put N (IntKind.wrap .u64 n) 4 false = some ([n / 16777216 % 256, n / 65536 % 256, n / 256 % 256, n % 256], 0) := by
 rw [wrapU64 (by omega) (by omega)]
 exact put4 n (by omega) hN
def by4 (n : Int) : List Int := [n / 16777216 % 256, n / 65536 % 256, n / 256 % 256, n % 256]
theorem by4_B (n : Int) : AllB (by4 n) := fun x hx => by
 simp only [by4, List.mem_cons, List.not_mem_nil, or_false] at hx
 rcases hx with rfl | rfl | rfl | rfl <;> omega
theorem digest_ok (a b c d e f g u : Int) (ht : ([a, b, c, d, e, f, g, u] : List Int).length = 8) (ha : AllW [a, b, c, d, e, f, g, u]) (hN : 10000 ≤ N) : ∃ D : Arr Int 32, D.l = by4 a ++ by4 b ++ by4 c ++ by4 d ++ by4 e ++ by4 f ++ by4 g ++ by4 u ∧ sha256_digest N ⟨[a, b, c, d, e, f, g, u], ht⟩ = some D := by
 obtain ⟨M, rfl⟩ : ∃ M, N = M + 9 := ⟨N - 9, by omega⟩
 have pa := put4' (N := M + 9) a (ha a (by simp)) (by omega)
 have pb := put4' (N := M + 9) b (ha b (by simp)) (by omega)
 have pc := put4' (N := M + 9) c (ha c (by simp)) (by omega)
 have pd := put4' (N := M + 9) d (ha d (by simp)) (by omega)
 have pe := put4' (N := M + 9) e (ha e (by simp)) (by omega)
 have pf := put4' (N := M + 9) f (ha f (by simp)) (by omega)
 have pg := put4' (N := M + 9) g (ha g (by simp)) (by omega)
 have pu := put4' (N := M + 9) u (ha u (by simp)) (by omega)
 have w0 : IntKind.wrap .i64 ((0 : Int) + 1) = 1 := by decide
 have w1 : IntKind.wrap .i64 ((1 : Int) + 1) = 2 := by decide
 have w2 : IntKind.wrap .i64 ((2 : Int) + 1) = 3 := by decide
 have w3 : IntKind.wrap .i64 ((3 : Int) + 1) = 4 := by decide
 have w4 : IntKind.wrap .i64 ((4 : Int) + 1) = 5 := by decide
 have w5 : IntKind.wrap .i64 ((5 : Int) + 1) = 6 := by decide
 have w6 : IntKind.wrap .i64 ((6 : Int) + 1) = 7 := by decide
 have w7 : IntKind.wrap .i64 ((7 : Int) + 1) = 8 := by decide
 have z0 : getI ([a, b, c, d, e, f, g, u] : List Int) 0 = some a := rfl
 have z1 : getI ([a, b, c, d, e, f, g, u] : List Int) 1 = some b := rfl
 have z2 : getI ([a, b, c, d, e, f, g, u] : List Int) 2 = some c := rfl
 have z3 : getI ([a, b, c, d, e, f, g, u] : List Int) 3 = some d := rfl
 have z4 : getI ([a, b, c, d, e, f, g, u] : List Int) 4 = some e := rfl
 have z5 : getI ([a, b, c, d, e, f, g, u] : List Int) 5 = some f := rfl
 have z6 : getI ([a, b, c, d, e, f, g, u] : List Int) 6 = some g := rfl
 have z7 : getI ([a, b, c, d, e, f, g, u] : List Int) 7 = some u := rfl
 have l0 : (decide ((0 : Int) < 8)) = true := rfl
 have l1 : (decide ((1 : Int) < 8)) = true := rfl
 have l2 : (decide ((2 : Int) < 8)) = true := rfl
 have l3 : (decide ((3 : Int) < 8)) = true := rfl
 have l4 : (decide ((4 : Int) < 8)) = true := rfl
 have l5 : (decide ((5 : Int) < 8)) = true := rfl
 have l6 : (decide ((6 : Int) < 8)) = true := rfl
 have l7 : (decide ((7 : Int) < 8)) = true := rfl
 have step : ∀ (K : Nat) (i j : Int) (n : Int) (p : List Int) (h0 : Arr Int 32), decide (i < 8) = true → getI ([a, b, c, d, e, f, g, u] : List Int) i = some n → octs_Put (M + 9) (IntKind.wrap .u64 n) 4 false = some (by4 n, 0) → IntKind.wrap .i64 (i + 1) = j → p.length < 100 →
   gl (fun X c => sha256_digest_L3 (M + 9) X c.1.1 c.1.2.1 c.2.1 c.2.2.1) (K + 1) (((⟨[a, b, c, d, e, f, g, u], ht⟩ : Arr Int 8), (i, ())), (h0, (p, ()))) = gl (fun X c => sha256_digest_L3 (M + 9) X c.1.1 c.1.2.1 c.2.1 c.2.2.1) K (((⟨[a, b, c, d, e, f, g, u], ht⟩ : Arr Int 8), (j, ())), (h0, (p ++ by4 n, ()))) := fun K i j n p h0 q1 q2 q3 q4 q5 => by
  rw [gl_succ]
  have r : roomB (p.length + (by4 n).length) 1 = true := roomB_of (by have := big_len; simp [by4]; omega) (by simp [by4]; omega)
  simp only [sha256_digest_L3, q1, cond_true, q2, Option.bind_some, q3, r, q4]
 have fin : ∀ (K : Nat) (p : List Int) (h0 : Arr Int 32), gl (fun X c => sha256_digest_L3 (M + 9) X c.1.1 c.1.2.1 c.2.1 c.2.2.1) (K + 1) (((⟨[a, b, c, d, e, f, g, u], ht⟩ : Arr Int 8), ((8 : Int), ())), (h0, (p, ()))) = some ((), (h0, (p, ()))) := fun K p h0 => by
  rw [gl_succ]; rfl
 have all : ∀ h0 : Arr Int 32, sha256_digest_L3_R (M + 9) (((⟨[a, b, c, d, e, f, g, u], ht⟩ : Arr Int 8), ((0 : Int), ())), (h0, (([] : List Int), ()))) = some ((), (h0, (by4 a ++ by4 b ++ by4 c ++ by4 d ++ by4 e ++ by4 f ++ by4 g ++ by4 u, ()))) := fun h0 => by
  refine (step (M + 8) 0 1 a [] h0 l0 z0 pa w0 (by simp [by4])).trans ?_
  refine (step (M + 7) 1 2 b _ h0 l1 z1 pb w1 (by simp [by4])).trans ?_
  refine (step (M + 6) 2 3 c _ h0 l2 z2 pc w2 (by simp [by4])).trans ?_
  refine (step (M + 5) 3 4 d _ h0 l3 z3 pd w3 (by simp [by4])).trans ?_
  refine (step (M + 4) 4 5 e _ h0 l4 z4 pe w4 (by simp [by4])).trans ?_
  refine (step (M + 3) 5 6 f _ h0 l5 z5 pf w5 (by simp [by4])).trans ?_
  refine (step (M + 2) 6 7 g _ h0 l6 z6 pg w6 (by simp [by4])).trans ?_
  refine (step (M + 1) 7 8 u _ h0 l7 z7 pu w7 (by simp [by4])).trans ?_
  exact fin M _ h0
 have hl : (by4 a ++ by4 b ++ by4 c ++ by4 d ++ by4 e ++ by4 f ++ by4 g ++ by4 u).length = 32 := by simp [by4]
 unfold sha256_digest
 rw [all, Option.bind_some]
 refine ⟨⟨(by4 a ++ by4 b ++ by4 c ++ by4 d ++ by4 e ++ by4 f ++ by4 g ++ by4 u).take 32, by rw [List.length_take, hl]; rfl⟩, ?_, ?_⟩
 ·exact List.take_of_length_le (by omega)
 ·have : toArr 32 (by4 a ++ by4 b ++ by4 c ++ by4 d ++ by4 e ++ by4 f ++ by4 g ++ by4 u) = some ⟨(by4 a ++ by4 b ++ by4 c ++ by4 d ++ by4 e ++ by4 f ++ by4 g ++ by4 u).take 32, by rw [List.length_take, hl]; rfl⟩ := dif_pos (by omega)
  simp only [this, Option.bind_some]
end
theorem Arr.eq {α : Type} {n : Nat} {a b : Arr α n} (h : a.l = b.l) : a = b := by
 cases a; cases b; simp only at h; subst h; rfl
noncomputable def stepB (N : Nat) (t : Arr Int 8) (l : List Int) : Option (Arr Int 8) := (toArr 64 l).bind fun a => sha256_behind N t a ks06
noncomputable def runB (N : Nat) : Nat → Arr Int 8 → List Int → Option (Arr Int 8)
 | 0, t, _ => some t
 | m + 1, t, l => (stepB N t (l.take 64)).bind fun t' => runB N m t' (l.drop 64)
theorem toArr64 (l : List Int) (h : 64 ≤ l.length) : ∃ a : Arr Int 64, a.l = l.take 64 ∧ toArr 64 (l.take 64) = some a := by
 have h1 : 64 ≤ (l.take 64).length := by rw [List.length_take]; omega
 refine ⟨⟨(l.take 64).take 64, by rw [List.length_take]; omega⟩, ?_, dif_pos h1⟩
 exact List.take_of_length_le (by rw [List.length_take]; omega)
section
variable {N : Nat}
theorem runB_some (hN : 10000 ≤ N) : ∀ (m : Nat) (t : Arr Int 8) (l : List Int), AllW t.l → AllB l → l.length = 64 * m → ∃ t', AllW t'.l ∧ runB N m t l = some t'
 | 0, t, l, ht, _, _ => ⟨t, ht, rfl⟩
 | m + 1, t, l, ht, hl, hm => by
  obtain ⟨a, a1, a2⟩ := toArr64 l (by omega)
  obtain ⟨t1, h1, h2, _⟩ := behind_pair (N := N) hN t a ht (by rw [a1]; exact hl.take 64)
  obtain ⟨t', h3, h4⟩ := runB_some hN m t1 (l.drop 64) h1 (hl.drop 64) (by rw [List.length_drop]; omega)
  refine ⟨t', h3, ?_⟩
  unfold runB stepB
  rw [a2, Option.bind_some, h2, Option.bind_some, h4]
theorem loopOf (hN : 10000 ≤ N) (all : List Int) (ha : all.length < 100000) (h0 : Arr Int 32) : ∀ (m M i : Nat) (t t' : Arr Int 8), m < M → all.length = i + 64 * m → runB N m t (all.drop i) = some t' →
  gl (fun X c => sha256_Of_L5 N X c.1.1 c.1.2.1 c.2.1 c.2.2.1 c.2.2.2.1) M ((all, ((i : Int), ())), (h0, (t, (ks06, ())))) = some ((), (h0, (t', ())))
 | 0, M + 1, i, t, t', hM, hi, hr => by
  have c1 : ¬ ((i : Int) < (all.length : Int)) := by omega
  have hr : some t = some t' := hr
  injection hr with hr
  subst hr
  rw [gl_succ]
  simp only [sha256_Of_L5, c1, decide_false, cond_false]
 | m + 1, M + 1, i, t, t', hM, hi, hr => by
  have c1 : ((i : Int) < (all.length : Int)) := by omega
  have e0 : IntKind.wrap .i64 ((i : Int) + 64) = ((i + 64 : Nat) : Int) := by rw [wrap64 (by omega) (by omega)]; omega
  have s1 : subI all (i : Int) ((i + 64 : Nat) : Int) = some ((all.drop i).take 64) := by
   rw [subI_nat all rfl rfl (by omega) (by omega)]; congr 2; omega
  unfold runB stepB at hr
  cases hb : toArr 64 ((all.drop i).take 64) with
  | none => rw [hb] at hr; cases hr
  | some a =>
   rw [hb, Option.bind_some] at hr
   cases hc : sha256_behind N t a ks06 with
   | none => rw [hc] at hr; cases hr
   | some t1 =>
    rw [hc, Option.bind_some, List.drop_drop] at hr
    have ih := loopOf hN all ha h0 m M (i + 64) t1 t' (by omega) (by omega) (by rw [show i + 64 = i + 64 from rfl]; exact hr)
    rw [gl_succ]
    simp only [sha256_Of_L5, c1, decide_true, cond_true, e0, s1, Option.bind_some, hb, hc]
    exact ih
theorem fillOf (hN : 10000 ≤ N) (all : List Int) (ha : all.length < 100000) (h0 : Arr Int 32) (t : Arr Int 8) (x : Nat) (hx : x + 64 ≤ all.length) : ∀ (k M i : Nat) (blk : Arr Int 64), k + i = 64 → k < M →
  ∃ b2 : Arr Int 64, b2.l = blk.l.take i ++ (all.drop (x + i)).take k ∧ gl (fun X c => ref06_Of_L8 N X c.1.1 c.1.2.1 c.2.1 c.2.2.1 c.2.2.2.1 c.2.2.2.2.1) M (((x : Int), ((i : Int), ())), (h0, (all, (t, (blk, ()))))) = some (((x : Int), ()), (h0, (all, (t, (b2, ())))))
 | 0, M + 1, i, blk, hk, hM => by
  have c1 : ¬ ((i : Int) < 64) := by omega
  refine ⟨blk, ?_, ?_⟩
  ·rw [List.take_of_length_le (by rw [blk.h]; omega), List.take_zero, List.append_nil]
  ·rw [gl_succ]
   simp only [ref06_Of_L8, c1, decide_false, cond_false]
 | k + 1, M + 1, i, blk, hk, hM => by
  have hbl := blk.h
  have c1 : ((i : Int) < 64) := by omega
  have e0 : IntKind.wrap .i64 ((i : Int) + 1) = ((i + 1 : Nat) : Int) := by rw [wrap64 (by omega) (by omega)]; omega
  have e2 : IntKind.wrap .i64 ((x : Int) + (i : Int)) = ((x + i : Nat) : Int) := by rw [wrap64 (by omega) (by omega)]; omega
  have c2 : (0 : Int) ≤ ((x + i : Nat) : Int) ∧ ((x + i : Nat) : Int) < (all.length : Int) := by omega
  have c3 : (0 : Int) ≤ (i : Int) ∧ (i : Int) < ((64 : Nat) : Int) := by omega
  have e1 : Int.toNat (i : Int) = i := Int.toNat_natCast i
  have e3 : Int.toNat ((x + i : Nat) : Int) = x + i := Int.toNat_natCast _
  have g1 : all[x + i]? = some (all[x + i]'(by omega)) := List.getElem?_eq_getElem _
  have g2 : blk.l[i]? = some (blk.l[i]'(by omega)) := List.getElem?_eq_getElem _
  obtain ⟨b2, h1, h2⟩ := fillOf hN all ha h0 t x hx k M (i + 1) (blk.set i (all[x + i]'(by omega))) (by omega) (by omega)
  refine ⟨b2, ?_, ?_⟩
  ·rw [h1]
   have q1 : (blk.set i (all[x + i]'(by omega))).l.take (i + 1) = blk.l.take i ++ [all[x + i]'(by omega)] := by
    show (blk.l.set i _).take (i + 1) = _
    rw [List.take_add_one, List.take_set_of_le (Nat.le_refl _), List.getElem?_set_self (by omega)]
    rfl
   rw [q1, List.append_assoc]
   congr 1
   rw [List.drop_eq_getElem_cons (show x + i < all.length by omega), List.take_succ_cons]
   rfl
  ·rw [gl_succ]
   simp only [ref06_Of_L8, c1, decide_true, cond_true, e2, c2, and_self, e3, g1, Option.bind_some, c3, e1, g2, e0]
   exact h2
theorem loopRef (hN : 10000 ≤ N) (all : List Int) (ha : all.length < 100000) (hB : AllB all) (h0 : Arr Int 32) : ∀ (m M i : Nat) (t t' : Arr Int 8), m < M → all.length = i + 64 * m → AllW t.l → runB N m t (all.drop i) = some t' →
  gl (fun X c => ref06_Of_L4 N X c.1.1 c.2.1 c.2.2.1 c.2.2.2.1) M (((i : Int), ()), (h0, (all, (t, ())))) = some ((), (h0, (t', ())))
 | 0, M + 1, i, t, t', hM, hi, hw, hr => by
  have c1 : ¬ ((i : Int) < (all.length : Int)) := by omega
  have hr : some t = some t' := hr
  injection hr with hr
  subst hr
  rw [gl_succ]
  simp only [ref06_Of_L4, c1, decide_false, cond_false]
 | m + 1, M + 1, i, t, t', hM, hi, hw, hr => by
  have c1 : ((i : Int) < (all.length : Int)) := by omega
  have e0 : IntKind.wrap .i64 ((i : Int) + 64) = ((i + 64 : Nat) : Int) := by rw [wrap64 (by omega) (by omega)]; omega
  obtain ⟨b2, f1, f2⟩ := fillOf (N := N) hN all ha h0 t i (by omega) 64 N 0 ⟨List.replicate 64 0, rfl⟩ (by omega) (by omega)
  have f2' : ref06_Of_L8_R N (((i : Int), ((0 : Int), ())), (h0, (all, (t, ((⟨List.replicate 64 0, rfl⟩ : Arr Int 64), ()))))) = some (((i : Int), ()), (h0, (all, (t, (b2, ()))))) := f2
  have f1' : b2.l = (all.drop i).take 64 := by rw [f1]; simp
  obtain ⟨a, a1, a2⟩ := toArr64 (all.drop i) (by rw [List.length_drop]; omega)
  have hab : a = b2 := Arr.eq (by rw [a1, f1'])
  subst hab
  obtain ⟨t1, h1, h2, h3⟩ := behind_pair (N := N) hN t a hw (by rw [a1]; exact (hB.drop i).take 64)
  unfold runB stepB at hr
  rw [a2, Option.bind_some, h2, Option.bind_some, List.drop_drop] at hr
  have ih := loopRef hN all ha hB h0 m M (i + 64) t1 t' (by omega) (by omega) h1 hr
  rw [gl_succ]
  simp only [ref06_Of_L4, c1, decide_true, cond_true]
  refine (congrArg (fun o => Option.bind o _) f2').trans ?_
  simp only [Option.bind_some, h3, e0]
  exact ih
def dg5 (a b c d e f g u : Int) : List Int := by4 a ++ by4 b ++ by4 c ++ by4 d ++ by4 e ++ by4 f ++ by4 g ++ by4 u
theorem dg5_B (a b c d e f g u : Int) : AllB (dg5 a b c d e f g u) := AllB.append (AllB.append (AllB.append (AllB.append (AllB.append (AllB.append (AllB.append (by4_B a) (by4_B b)) (by4_B c)) (by4_B d)) (by4_B e)) (by4_B f)) (by4_B g)) (by4_B u)
theorem dg5_at (a b c d e f g u : Int) (i : Nat) (hi : i < 32) (v : Int) (hv : ([a, b, c, d, e, f, g, u] : List Int)[i / 4]? = some v) : (dg5 a b c d e f g u)[i]? = some (IntKind.wrap .u8 (Int.fdiv v (2 ^ (24 - 8 * (i % 4))))) := by
 have fd : ∀ k : Nat, Int.fdiv v (2 ^ k) = v / 2 ^ k := fun k => Int.fdiv_eq_ediv_of_nonneg _ (Int.le_of_lt (Int.pow_pos (by decide)))
 rw [fd, IntKind.wrap_u8]
 have : i = 0 ∨ i = 1 ∨ i = 2 ∨ i = 3 ∨ i = 4 ∨ i = 5 ∨ i = 6 ∨ i = 7 ∨ i = 8 ∨ i = 9 ∨ i = 10 ∨ i = 11 ∨ i = 12 ∨ i = 13 ∨ i = 14 ∨ i = 15 ∨ i = 16 ∨ i = 17 ∨ i = 18 ∨ i = 19 ∨ i = 20 ∨ i = 21 ∨ i = 22 ∨ i = 23 ∨ i = 24 ∨ i = 25 ∨ i = 26 ∨ i = 27 ∨ i = 28 ∨ i = 29 ∨ i = 30 ∨ i = 31 := by omega
 rcases this with rfl | rfl | rfl | rfl | rfl | rfl | rfl | rfl | rfl | rfl | rfl | rfl | rfl | rfl | rfl | rfl | rfl | rfl | rfl | rfl | rfl | rfl | rfl | rfl | rfl | rfl | rfl | rfl | rfl | rfl | rfl | rfl <;> simp at hv <;> subst hv <;> simp [dg5, by4]
theorem outRef (hN : 10000 ≤ N) (a b c d e f g u : Int) (ht : ([a, b, c, d, e, f, g, u] : List Int).length = 8) (h0 : Arr Int 32) : ∀ (k M i : Nat) (o : Arr Int 32), k + i = 32 → k < M →
  ∃ D : Arr Int 32, D.l = o.l.take i ++ (dg5 a b c d e f g u).drop i ∧ gl (fun X c => ref06_Of_L14 N X c.1.1 c.2.1 c.2.2.1 c.2.2.2.1) M (((i : Int), ()), (h0, ((⟨[a, b, c, d, e, f, g, u], ht⟩ : Arr Int 8), (o, ())))) = some ((), (h0, (D, ())))
 | 0, M + 1, i, o, hk, hM => by
  have c1 : ¬ ((i : Int) < 32) := by omega
  have hol := o.h
  refine ⟨o, ?_, ?_⟩
  ·rw [List.take_of_length_le (by omega), List.drop_eq_nil_of_le (by simp [dg5, by4]; omega), List.append_nil]
  ·rw [gl_succ]
   simp only [ref06_Of_L14, c1, decide_false, cond_false]
 | k + 1, M + 1, i, o, hk, hM => by
  have hol := o.h
  have c1 : ((i : Int) < 32) := by omega
  have e0 : IntKind.wrap .i64 ((i : Int) + 1) = ((i + 1 : Nat) : Int) := by rw [wrap64 (by omega) (by omega)]; omega
  have f1 : IntKind.wrap .i64 (Int.tdiv (i : Int) 4) = ((i / 4 : Nat) : Int) := by
   rw [Int.tdiv_eq_ediv_of_nonneg (by omega), wrap64 (by omega) (by omega)]; omega
  have f0 : IntKind.wrap .i64 ((8 : Int) * Int.tmod (i : Int) 4) = ((8 * (i % 4) : Nat) : Int) := by
   rw [Int.tmod_eq_emod_of_nonneg (by omega), wrap64 (by omega) (by omega)]; omega
  have f2 : IntKind.wrap .i64 ((24 : Int) - ((8 * (i % 4) : Nat) : Int)) = ((24 - 8 * (i % 4) : Nat) : Int) := by
   rw [wrap64 (by omega) (by omega)]; omega
  have c2 : (0 : Int) ≤ ((i / 4 : Nat) : Int) ∧ ((i / 4 : Nat) : Int) < ((8 : Nat) : Int) := by omega
  have c3 : (0 : Int) ≤ ((24 - 8 * (i % 4) : Nat) : Int) := by omega
  have c4 : (0 : Int) ≤ (i : Int) ∧ (i : Int) < ((32 : Nat) : Int) := by omega
  have e1 : Int.toNat (i : Int) = i := Int.toNat_natCast i
  have e2 : Int.toNat ((i / 4 : Nat) : Int) = i / 4 := Int.toNat_natCast _
  have e3 : min (Int.toNat ((24 - 8 * (i % 4) : Nat) : Int)) (IntKind.bits .u32) = 24 - 8 * (i % 4) := by
   rw [Int.toNat_natCast]; show min _ 32 = _; omega
  have g1 : ([a, b, c, d, e, f, g, u] : List Int)[i / 4]? = some (([a, b, c, d, e, f, g, u] : List Int)[i / 4]'(by simp; omega)) := List.getElem?_eq_getElem _
  have g2 : o.l[i]? = some (o.l[i]'(by omega)) := List.getElem?_eq_getElem _
  have hd := dg5_at a b c d e f g u i (by omega) _ g1
  generalize ([a, b, c, d, e, f, g, u] : List Int)[i / 4]'(by simp; omega) = v at *
  obtain ⟨D, h1, h2⟩ := outRef hN a b c d e f g u ht h0 k M (i + 1) (o.set i (IntKind.wrap .u8 (Int.fdiv v (2 ^ (24 - 8 * (i % 4)))))) (by omega) (by omega)
  refine ⟨D, ?_, ?_⟩
  ·rw [h1]
   have q1 : (o.set i (IntKind.wrap .u8 (Int.fdiv v (2 ^ (24 - 8 * (i % 4)))))).l.take (i + 1) = o.l.take i ++ [IntKind.wrap .u8 (Int.fdiv v (2 ^ (24 - 8 * (i % 4))))] := by
    show (o.l.set i _).take (i + 1) = _
    rw [List.take_add_one, List.take_set_of_le (Nat.le_refl _), List.getElem?_set_self (by omega)]
    rfl
   rw [q1, List.append_assoc]
   congr 1
   obtain ⟨hlt, hv⟩ := List.getElem?_eq_some_iff.1 hd
   rw [List.drop_eq_getElem_cons hlt, hv]
   rfl
  ·rw [gl_succ]
   simp only [ref06_Of_L14, c1, decide_true, cond_true, f1, c2, and_self, e2, g1, Option.bind_some, f0, f2, c3, c4, e1, g2, e0, e3]
   exact h2
end
def nb (n : Nat) : Nat := (n + (tail5 (n : Int)).length) / 64
theorem nb_ok (n : Nat) (l : List Int) (h : l.length = n) : (l ++ tail5 (n : Int)).length = 64 * nb n := by
 unfold nb
 rw [List.length_append, tail5_len, h]
 unfold nz
 omega
theorem of_ok (l : List (List Int)) (hl : l.length ≤ 1000) (hs : ∀ p ∈ l, p.length ≤ 90000 ∧ AllB p) (hf : l.flatten.length ≤ 90000) :
  ∃ a b c d e f g u ht, ∃ D : Arr Int 32, runB 200000 (nb l.flatten.length) first06 (l.flatten ++ tail5 (l.flatten.length : Int)) = some ⟨[a, b, c, d, e, f, g, u], ht⟩ ∧ AllW [a, b, c, d, e, f, g, u] ∧ D.l = dg5 a b c d e f g u ∧ sha256_Of 200000 l = some D := by
 have hB : AllB l.flatten := fun x hx => by
  obtain ⟨p, hp, hx⟩ := List.mem_flatten.1 hx
  exact (hs p hp).2 x hx
 have hall : AllB (l.flatten ++ tail5 (l.flatten.length : Int)) := hB.append (tail5_B _)
 have hlen := nb_ok l.flatten.length l.flatten rfl
 have htl := tail5_len (l.flatten.length : Int)
 have hnz := nz_lt (l.flatten.length : Int)
 obtain ⟨t', t1, t2⟩ := runB_some (N := 200000) (by omega) (nb l.flatten.length) first06 _ first_W hall hlen
 match t', t1, t2 with
 | ⟨[a, b, c, d, e, f, g, u], ht⟩, t1, t2 =>
  obtain ⟨D, d1, d2⟩ := digest_ok (N := 200000) a b c d e f g u ht t1 (by omega)
  refine ⟨a, b, c, d, e, f, g, u, ht, D, t2, t1, d1, ?_⟩
  have hj : ∀ h0, _ := fun h0 => joinS (N := 200000) l h0 hl (fun p hp => by have := (hs p hp).1; omega) (by omega)
  have hwn : IntKind.wrap .u64 (l.flatten.length : Int) = (l.flatten.length : Int) := wrapU64 (by omega) (by omega)
  have htail := sha256_tail_ok (N := 200000) (l.flatten.length : Int) (by omega) (by omega)
  have c4 : (decide ((0 : Int) ≤ (0 : Int) ∧ (0 : Int) ≤ (l.flatten.length : Int)) && roomB (Int.toNat (l.flatten.length : Int)) 1) = true := by
   rw [Bool.and_eq_true]
   exact ⟨decide_eq_true ⟨by omega, by omega⟩, roomB_of (by have := big_len; omega) (by omega)⟩
  have c5 : roomB (l.flatten.length + (tail5 (l.flatten.length : Int)).length) 1 = true := roomB_of (by have := big_len; omega) (by omega)
  have hloop : ∀ h0, sha256_Of_L5_R 200000 (((l.flatten ++ tail5 (l.flatten.length : Int)), ((0 : Int), ())), (h0, (first06, (ks06, ())))) = some ((), (h0, ((⟨[a, b, c, d, e, f, g, u], ht⟩ : Arr Int 8), ()))) := fun h0 =>
   loopOf (N := 200000) (by omega) _ (by rw [List.length_append]; omega) h0 (nb l.flatten.length) 200000 0 first06 _ (by rw [List.length_append] at hlen; omega) (by rw [hlen]; omega) t2
  have e0 : List.replicate (Int.toNat 0) (0 : Int) = [] := rfl
  unfold sha256_Of
  rw [(hj _).1, Option.bind_some]
  simp only [c4, cond_true, e0]
  rw [(hj _).2, Option.bind_some]
  simp only [hwn]
  rw [htail, Option.bind_some]
  simp only [c5, cond_true, firsts06, consts06, Option.bind_some]
  refine (congrArg (fun o => Option.bind o _) (hloop _)).trans ?_
  simp only [Option.bind_some, d2]
theorem refOf_ok (b : List Int) (hb : AllB b) (hl : b.length ≤ 90000) {a c d e f g u w : Int} {ht : ([a, c, d, e, f, g, u, w] : List Int).length = 8} (hr : runB 200000 (nb b.length) first06 (b ++ tail5 (b.length : Int)) = some ⟨[a, c, d, e, f, g, u, w], ht⟩) :
  ∃ D : Arr Int 32, D.l = dg5 a c d e f g u w ∧ ref06_Of 200000 b = some D := by
 have htl := tail5_len (b.length : Int)
 have hnz := nz_lt (b.length : Int)
 have hlen := nb_ok b.length b rfl
 have hwn : IntKind.wrap .u64 (b.length : Int) = (b.length : Int) := wrapU64 (by omega) (by omega)
 have htail := ref06_tail_ok (N := 200000) (b.length : Int) (by omega) (by omega)
 have c0 : roomB b.length 1 = true := roomB_of (by have := big_len; omega) (by omega)
 have c5 : roomB (b.length + (tail5 (b.length : Int)).length) 1 = true := roomB_of (by have := big_len; omega) (by omega)
 obtain ⟨D, d1, d2⟩ := outRef (N := 200000) (by omega) a c d e f g u w ht ⟨List.replicate 32 0, rfl⟩ 32 200000 0 ⟨List.replicate 32 0, rfl⟩ (by omega) (by omega)
 have hloop : ref06_Of_L4_R 200000 (((0 : Int), ()), ((⟨List.replicate 32 0, rfl⟩ : Arr Int 32), ((b ++ tail5 (b.length : Int)), (first06, ())))) = some ((), ((⟨List.replicate 32 0, rfl⟩ : Arr Int 32), ((⟨[a, c, d, e, f, g, u, w], ht⟩ : Arr Int 8), ()))) :=
  loopRef (N := 200000) (by omega) _ (by rw [List.length_append]; omega) (hb.append (tail5_B _)) _ (nb b.length) 200000 0 first06 _ (by rw [List.length_append] at hlen; omega) (by rw [hlen]; omega) first_W hr
 have hout : ref06_Of_L14_R 200000 (((0 : Int), ()), ((⟨List.replicate 32 0, rfl⟩ : Arr Int 32), ((⟨[a, c, d, e, f, g, u, w], ht⟩ : Arr Int 8), ((⟨List.replicate 32 0, rfl⟩ : Arr Int 32), ())))) = some ((), ((⟨List.replicate 32 0, rfl⟩ : Arr Int 32), (D, ()))) := d2
 refine ⟨D, by simpa using d1, ?_⟩
 unfold ref06_Of
 simp only [c0, cond_true, hwn, htail, Option.bind_some, c5]
 refine (congrArg (fun o => Option.bind o _) hloop).trans ?_
 simp only [Option.bind_some]
 refine (congrArg (fun o => Option.bind o _) hout).trans ?_
 rfl
theorem wfB_b {n : Nat} (a : Arr Int n) (h : AllB a.l) : wfB (.arr n (.int .u8)) a = true := List.all_eq_true.2 fun x hx => by
 have h1 := h x hx
 show (Lit.int .u8 x).wf = true
 simp only [Lit.wf, Bool.and_eq_true, decide_eq_true_eq, IntKind.min, IntKind.max, IntKind.signed, IntKind.bits]
 simp
 omega
theorem q8_of (a : Nat) (ha : a < 256) : (BitVec.ofInt 8 (a : Int)).toNat = a := by
 rw [BitVec.ofInt_natCast, BitVec.toNat_ofNat]; exact Nat.mod_eq_of_lt (by omega)
theorem xor8 (a b : Nat) (ha : a < 256) (hb : b < 256) : bits .xor .u8 (a : Int) (b : Int) = ((a ^^^ b : Nat) : Int) := by
 have hx : a ^^^ b < 2 ^ 8 := Nat.xor_lt_two_pow (by omega) (by omega)
 show IntKind.u8.wrap ((BitVec.ofInt 8 (a : Int) ^^^ BitVec.ofInt 8 (b : Int)).toNat : Int) = _
 rw [BitVec.toNat_xor, q8_of a ha, q8_of b hb, IntKind.wrap_u8]
 omega
theorem xor64 (a b : Nat) (ha : a < 2 ^ 62) (hb : b < 2 ^ 62) : bits .xor .i64 (a : Int) (b : Int) = ((a ^^^ b : Nat) : Int) := by
 have hx : a ^^^ b < 2 ^ 62 := Nat.xor_lt_two_pow ha hb
 show IntKind.i64.wrap ((BitVec.ofInt 64 (a : Int) ^^^ BitVec.ofInt 64 (b : Int)).toNat : Int) = _
 rw [BitVec.toNat_xor, q64_of a (by omega), q64_of b (by omega), wrap64 (by omega) (by omega)]
theorem or64 (a b : Nat) (ha : a < 2 ^ 62) (hb : b < 2 ^ 62) : bits .or .i64 (a : Int) (b : Int) = ((a ||| b : Nat) : Int) := by
 have hx : a ||| b < 2 ^ 62 := Nat.or_lt_two_pow ha hb
 show IntKind.i64.wrap ((BitVec.ofInt 64 (a : Int) ||| BitVec.ofInt 64 (b : Int)).toNat : Int) = _
 rw [BitVec.toNat_or, q64_of a (by omega), q64_of b (by omega), wrap64 (by omega) (by omega)]
theorem xor_zero (a b : Nat) : a ^^^ b = 0 ↔ a = b := by
 constructor
 ·intro h
  have h2 : a ^^^ b ^^^ b = b := by rw [h, Nat.zero_xor]
  rw [Nat.xor_assoc, Nat.xor_self, Nat.xor_zero] at h2
  exact h2
 ·rintro rfl; exact Nat.xor_self a
theorem or_zero' (a b : Nat) : a ||| b = 0 ↔ a = 0 ∧ b = 0 := by
 constructor
 ·intro h
  constructor
  ·apply Nat.eq_of_testBit_eq; intro i
   have := congrArg (Nat.testBit · i) h
   simp at this ⊢; exact this.1
  ·apply Nat.eq_of_testBit_eq; intro i
   have := congrArg (Nat.testBit · i) h
   simp at this ⊢; exact this.2
 ·rintro ⟨rfl, rfl⟩; rfl
def dif (a b : List Int) : Nat → Nat
 | 0 => a.length ^^^ b.length
 | i + 1 => dif a b i ||| ((a.getD i 0).toNat ^^^ (b.getD i 0).toNat)
theorem b8 {a : List Int} (h : AllB a) (i : Nat) : 0 ≤ a.getD i 0 ∧ a.getD i 0 < 256 := by
 rw [List.getD_eq_getElem?_getD]
 rcases Nat.lt_or_ge i a.length with hi | hi
 ·rw [List.getElem?_eq_getElem hi]; exact h.get i hi
 ·rw [List.getElem?_eq_none hi]; exact ⟨Int.le_refl _, by decide⟩
theorem dif_lt {a b : List Int} (ha : AllB a) (hb : AllB b) (la : a.length < 100000) (lb : b.length < 100000) : ∀ i, dif a b i < 2 ^ 62
 | 0 => Nat.xor_lt_two_pow (by omega) (by omega)
 | i + 1 => by
  have h1 := b8 ha i
  have h2 := b8 hb i
  exact Nat.or_lt_two_pow (dif_lt ha hb la lb i) (Nat.xor_lt_two_pow (by omega) (by omega))
theorem dif_zero (a b : List Int) : ∀ i, dif a b i = 0 ↔ a.length = b.length ∧ ∀ j, j < i → (a.getD j 0).toNat = (b.getD j 0).toNat
 | 0 => by
  unfold dif
  rw [xor_zero]
  exact ⟨fun h => ⟨h, fun j hj => by omega⟩, fun h => h.1⟩
 | i + 1 => by
  unfold dif
  rw [or_zero', dif_zero a b i, xor_zero]
  constructor
  ·rintro ⟨⟨h1, h2⟩, h3⟩
   refine ⟨h1, fun j hj => ?_⟩
   rcases Nat.lt_or_ge j i with h | h
   ·exact h2 j h
   ·have : j = i := by omega
    subst this; exact h3
  ·rintro ⟨h1, h2⟩
   exact ⟨⟨h1, fun j hj => h2 j (by omega)⟩, h2 i (by omega)⟩
theorem osame (a b : List Int) (ha : AllB a) (hb : AllB b) (la : a.length < 100000) (lb : b.length < 100000) {N : Nat} (hN : 200000 ≤ N) : octs_Same N a b = some (decide (a = b)) := by
 obtain ⟨m, hm⟩ : ∃ m, m = min a.length b.length := ⟨_, rfl⟩
 have hmi : minI (a.length : Int) (b.length : Int) = (m : Int) := by unfold minI; split <;> omega
 have hloop : octs_Same_L3_R N ((a, (b, (((dif a b 0 : Nat) : Int), ((m : Int), ((0 : Int), ()))))), ()) = some ((((dif a b m : Nat) : Int), ()), ()) := by
  refine gl_run (G := fun X c => octs_Same_L3 N X c.1.1 c.1.2.1 c.1.2.2.1 c.1.2.2.2.1 c.1.2.2.2.2.1) (fun i => ((a, (b, (((dif a b i : Nat) : Int), ((m : Int), (((i : Nat) : Int), ()))))), ())) m _ (fun X i hi => ?_) (fun X => ?_) N 0 (Nat.zero_le _) (by omega)
  ·have c1 : ((i : Int) < (m : Int)) := by omega
   have hia : i < a.length := by omega
   have hib : i < b.length := by omega
   have h1 := b8 ha i
   have h2 := b8 hb i
   have e1 : a[i] = ((a.getD i 0).toNat : Int) := by
    rw [Int.toNat_of_nonneg h1.1, List.getD_eq_getElem?_getD, List.getElem?_eq_getElem hia]; rfl
   have e2 : b[i] = ((b.getD i 0).toNat : Int) := by
    rw [Int.toNat_of_nonneg h2.1, List.getD_eq_getElem?_getD, List.getElem?_eq_getElem hib]; rfl
   have hx : (a.getD i 0).toNat ^^^ (b.getD i 0).toNat < 2 ^ 8 := Nat.xor_lt_two_pow (by omega) (by omega)
   have e3 : IntKind.wrap .i64 ((i : Int) + 1) = ((i + 1 : Nat) : Int) := by rw [wrap64 (by omega) (by omega)]; omega
   simp only [octs_Same_L3, c1, decide_true, cond_true, getI_lt a i hia, getI_lt b i hib, Option.bind_some, e3]
   rw [e1, e2, xor8 _ _ (by omega) (by omega), wrap64 (by omega) (by omega), or64 _ _ (dif_lt ha hb la lb i) (by omega)]
   rfl
  ·have c1 : ¬ ((m : Int) < (m : Int)) := by omega
   simp only [octs_Same_L3, c1, decide_false, cond_false]
 have hx : bits .xor .i64 (a.length : Int) (b.length : Int) = ((dif a b 0 : Nat) : Int) := xor64 _ _ (by omega) (by omega)
 unfold octs_Same
 rw [hx, hmi]
 refine (congrArg (fun o => Option.bind o _) hloop).trans ?_
 simp only [Option.bind_some, Option.some.injEq]
 have key : ((dif a b m : Nat) : Int) = 0 ↔ a = b := by
  rw [show (((dif a b m : Nat) : Int) = 0 ↔ dif a b m = 0) from by omega, dif_zero]
  constructor
  ·rintro ⟨h1, h2⟩
   apply List.ext_getElem h1
   intro j hj1 hj2
   have h3 := h2 j (by omega)
   have q1 := b8 ha j
   have q2 := b8 hb j
   rw [List.getD_eq_getElem?_getD, List.getElem?_eq_getElem hj1, Option.getD_some] at h3 q1
   rw [List.getD_eq_getElem?_getD, List.getElem?_eq_getElem hj2, Option.getD_some] at h3 q2
   omega
  ·rintro rfl; exact ⟨rfl, fun _ _ => rfl⟩
 exact decide_eq_decide.2 key
noncomputable def dig (b : List Int) : Arr Int 32 := (sha256_Of 200000 [b]).getD ⟨List.replicate 32 0, rfl⟩
theorem sha_ok (l : List (List Int)) (hl : l.length ≤ 1000) (hs : ∀ p ∈ l, p.length ≤ 90000 ∧ AllB p) (hf : l.flatten.length ≤ 90000) :
  sha256_Of 200000 l = some (dig l.flatten) ∧ AllB (dig l.flatten).l ∧ (l.flatten.length ≤ 90000 → ref06_Of 200000 l.flatten = some (dig l.flatten)) := by
 have hB : AllB l.flatten := fun x hx => by
  obtain ⟨p, hp, hx⟩ := List.mem_flatten.1 hx
  exact (hs p hp).2 x hx
 obtain ⟨a, b, c, d, e, f, g, u, ht, D, r1, r2, r3, r4⟩ := of_ok l hl hs hf
 obtain ⟨a', b', c', d', e', f', g', u', ht', D', q1, q2, q3, q4⟩ := of_ok [l.flatten] (by simp) (fun p hp => by
  rw [List.mem_singleton] at hp; subst hp; exact ⟨hf, hB⟩) (by simpa using hf)
 have hfl : ([l.flatten] : List (List Int)).flatten = l.flatten := by simp
 rw [hfl, r1] at q1
 injection q1 with q1
 injection q1 with q1
 simp only [List.cons.injEq, and_true] at q1
 obtain ⟨rfl, rfl, rfl, rfl, rfl, rfl, rfl, rfl⟩ := q1
 have hD : D' = D := Arr.eq (by rw [q3, r3])
 subst hD
 have hd : dig l.flatten = D' := by unfold dig; rw [q4]; rfl
 rw [hd]
 refine ⟨r4, by rw [r3]; exact dg5_B _ _ _ _ _ _ _ _, fun h4 => ?_⟩
 obtain ⟨D2, p1, p2⟩ := refOf_ok l.flatten hB h4 r1
 rw [p2]
 exact congrArg some (Arr.eq (by rw [p1, r3]))
theorem dig_ok (b : List Int) (h : b.length ≤ 90000) (hb : AllB b) : sha256_Of 200000 [b] = some (dig b) ∧ AllB (dig b).l ∧ ref06_Of 200000 b = some (dig b) := by
 have hfl : ([b] : List (List Int)).flatten = b := by simp
 have := sha_ok [b] (by simp) (fun p hp => by rw [List.mem_singleton] at hp; subst hp; exact ⟨by omega, hb⟩) (by rw [hfl]; omega)
 rw [hfl] at this
 exact ⟨this.1, this.2.1, this.2.2 h⟩
abbrev EvT := Int × (Int × (Int × (Int × (Int × ((Arr Int 32) × (List UInt8 × (List UInt8 × (((Arr Int 32) × ((Arr Int 16) × Int)) × ((Arr Int 16) × (Int × (Int × (List Int))))))))))))
def byB (v : Int) : Bool := decide (0 ≤ v) && decide (v ≤ 255)
def mayB (k1 k2 c o w n1 n2 l1 l2 l3 : Bool) : Int := bif !(k1 && k2) then 9 else bif !c || (!o || (!w || (n1 || n2))) then 1 else bif l1 || (l2 || l3) then 8 else 0
def mayV (x : EvT) : Int := mayB (decide (1 ≤ x.1)) (decide (x.1 ≤ 12)) (byB x.2.1) (byB x.2.2.1) (byB x.2.2.2.1) (decide (x.2.2.2.2.1 < 0)) (decide (2147483647 < x.2.2.2.2.1)) (decide ((64 : Int) < (x.2.2.2.2.2.2.1.length : Int))) (decide ((256 : Int) < (x.2.2.2.2.2.2.2.1.length : Int))) (decide ((2000 : Int) < (x.2.2.2.2.2.2.2.2.2.2.2.2.length : Int)))
theorem isKind_ok (N : Nat) (v : Int) : script_isKind N v = some (decide (1 ≤ v) && decide (v ≤ 12)) := by
 unfold script_isKind
 cases decide ((1 : Int) ≤ v) <;> cases decide (v ≤ (12 : Int)) <;> rfl
theorem isByte_ok (N : Nat) (v : Int) : script_isByte N v = some (byB v) := by
 unfold script_isByte byB
 cases decide ((0 : Int) ≤ v) <;> cases decide (v ≤ (255 : Int)) <;> rfl
theorem may_ok40 (N : Nat) (x : EvT) : script_May N x = some (mayV x) := by
 unfold script_May mayV
 simp only [isKind_ok, isByte_ok, Option.bind_some]
 generalize byB x.2.1 = c
 generalize byB x.2.2.1 = o
 generalize byB x.2.2.2.1 = w
 generalize decide ((1 : Int) ≤ x.1) = k1
 generalize decide (x.1 ≤ (12 : Int)) = k2
 generalize decide (x.2.2.2.2.1 < (0 : Int)) = n1
 generalize decide ((2147483647 : Int) < x.2.2.2.2.1) = n2
 generalize decide ((64 : Int) < (x.2.2.2.2.2.2.1.length : Int)) = l1
 generalize decide ((256 : Int) < (x.2.2.2.2.2.2.2.1.length : Int)) = l2
 generalize decide ((2000 : Int) < (x.2.2.2.2.2.2.2.2.2.2.2.2.length : Int)) = l3
 revert c o w k1 k2 n1 n2 l1 l2 l3
 decide +kernel
theorem may_zero {x : EvT} (h : mayV x = 0) : (1 ≤ x.1 ∧ x.1 ≤ 12) ∧ (0 ≤ x.2.1 ∧ x.2.1 ≤ 255) ∧ (0 ≤ x.2.2.1 ∧ x.2.2.1 ≤ 255) ∧ (0 ≤ x.2.2.2.1 ∧ x.2.2.2.1 ≤ 255) ∧ (0 ≤ x.2.2.2.2.1 ∧ x.2.2.2.2.1 ≤ 2147483647) ∧ x.2.2.2.2.2.2.1.length ≤ 64 ∧ x.2.2.2.2.2.2.2.1.length ≤ 256 ∧ x.2.2.2.2.2.2.2.2.2.2.2.2.length ≤ 2000 := by
 have key : ∀ k1 k2 c o w n1 n2 l1 l2 l3 : Bool, mayB k1 k2 c o w n1 n2 l1 l2 l3 = 0 → k1 = true ∧ k2 = true ∧ c = true ∧ o = true ∧ w = true ∧ n1 = false ∧ n2 = false ∧ l1 = false ∧ l2 = false ∧ l3 = false := by
  intro k1 k2 c o w n1 n2 l1 l2 l3 h
  unfold mayB at h
  cases e1 : (k1 && k2) <;> rw [e1] at h
  ·simp only [Bool.not_false, cond_true] at h; exact absurd h (by decide)
  cases e2 : (!c || (!o || (!w || (n1 || n2)))) <;> rw [e2] at h
  ·cases e3 : (l1 || (l2 || l3)) <;> rw [e3] at h
   ·simp only [Bool.and_eq_true, Bool.or_eq_false_iff, Bool.not_eq_false'] at e1 e2 e3
    exact ⟨e1.1, e1.2, e2.1, e2.2.1, e2.2.2.1, e2.2.2.2.1, e2.2.2.2.2, e3.1, e3.2.1, e3.2.2⟩
   ·simp only [Bool.not_true, cond_true, cond_false] at h; exact absurd h (by decide)
  ·simp only [Bool.not_true, cond_true, cond_false] at h; exact absurd h (by decide)
 obtain ⟨h1, h2, h3, h4, h5, h6, h7, h8, h9, h10⟩ := key _ _ _ _ _ _ _ _ _ _ h
 simp only [byB, Bool.and_eq_true, decide_eq_true_eq, decide_eq_false_iff_not] at h1 h2 h3 h4 h5 h6 h7 h8 h9 h10
 refine ⟨⟨h1, h2⟩, h3, h4, h5, ⟨by omega, by omega⟩, by omega, by omega, by omega⟩
def by2 (n : Int) : List Int := [n / 256 % 256, n % 256]
theorem by2_B (n : Int) : AllB (by2 n) := AllB.cons (by omega) (AllB.cons (by omega) AllB.nil)
theorem by2_len (n : Int) : (by2 n).length = 2 := rfl
theorem by4_len (n : Int) : (by4 n).length = 4 := rfl
theorem number2 (n : Int) (h : 0 ≤ n ∧ n < 18446744073709551616) : script_number 200000 n 2 = some (by2 n) := by
 unfold script_number
 rw [show octs_Put 200000 n 2 false = some ([n / 256 % 256, n % 256], 0) from put2 n h (by omega)]
 rfl
theorem number4 (n : Int) (h : 0 ≤ n ∧ n < 18446744073709551616) : script_number 200000 n 4 = some (by4 n) := by
 unfold script_number
 rw [show octs_Put 200000 n 4 false = some ([n / 16777216 % 256, n / 65536 % 256, n / 256 % 256, n % 256], 0) from put4 n h (by omega)]
 rfl
theorem rb {n : Nat} (h : n ≤ 10000000) : roomB n 1 = true := roomB_of (by have := big_len; omega) (by omega)
theorem rz {n : Int} (h0 : 0 ≤ n) (h : n ≤ 10000000) : (decide ((0 : Int) ≤ (0 : Int) ∧ (0 : Int) ≤ n) && roomB (Int.toNat n) 1) = true := by
 rw [Bool.and_eq_true]
 exact ⟨decide_eq_true ⟨by omega, h0⟩, rb (by omega)⟩
theorem joinL (l : List (List Int)) (hl : l.length ≤ 1000) (hs : ∀ p ∈ l, p.length ≤ 100000) :
  script_long_1_octs_Join_L3_R 200000 ((l, ((0 : Int), (l, ((l.length : Int), ((0 : Int), ()))))), ()) = some ((l, ((l.flatten.length : Int), ())), ()) ∧
  script_long_1_octs_Join_L9_R 200000 ((l, ((l.length : Int), ((0 : Int), ()))), (([] : List Int), ())) = some ((), (l.flatten, ())) := by
 have tk : ∀ i, (l.take i).flatten.length ≤ 100000000 := fun i => by
  have := flat_len (l.take i) 100000 fun p hp => hs p (List.mem_of_mem_take hp)
  rw [List.length_take] at this
  omega
 have hsn : ∀ i (hi : i < l.length), (l.take (i + 1)).flatten = (l.take i).flatten ++ l[i] := fun i hi => by
  have : l.take (i + 1) = l.take i ++ [l[i]] := by rw [List.take_add_one, List.getElem?_eq_getElem hi]; rfl
  rw [this, List.flatten_append]
  simp
 have h1 := gl_run (G := fun (X : ((List (List Int) × Int × List (List Int) × Int × Int × Unit) × Unit) → Option ((List (List Int) × Int × Unit) × Unit)) c => script_long_1_octs_Join_L3 200000 X c.1.1 c.1.2.1 c.1.2.2.1 c.1.2.2.2.1 c.1.2.2.2.2.1)
  (fun i => ((l, (((l.take i).flatten.length : Int), (l, ((l.length : Int), ((i : Int), ()))))), ())) l.length ((l, ((l.flatten.length : Int), ())), ()) (fun X i hi => by
  have c1 : ((i : Int) < (l.length : Int)) := by omega
  have c2 : IntKind.wrap .i64 ((i : Int) + 1) = ((i + 1 : Nat) : Int) := by rw [wrap64 (by omega) (by omega)]; omega
  have hp := hs _ (List.getElem_mem hi)
  have ht := tk i
  have c3 : IntKind.wrap .i64 (((l.take i).flatten.length : Int) + (l[i].length : Int)) = (((l.take (i + 1)).flatten.length : Nat) : Int) := by rw [wrap64 (by omega) (by omega), hsn i hi, List.length_append]; omega
  simp only [script_long_1_octs_Join_L3, c1, decide_true, cond_true, getI_lt l i hi, Option.bind_some, c3, c2]) (fun X => by
  simp [script_long_1_octs_Join_L3]) 200000 0 (by omega) (by omega)
 have h2 := gl_run (G := fun (X : ((List (List Int) × Int × Int × Unit) × List Int × Unit) → Option (Unit × List Int × Unit)) c => script_long_1_octs_Join_L9 200000 X c.1.1 c.1.2.1 c.1.2.2.1 c.2.1)
  (fun i => ((l, ((l.length : Int), ((i : Int), ()))), ((l.take i).flatten, ()))) l.length ((), (l.flatten, ())) (fun X i hi => by
  have c1 : ((i : Int) < (l.length : Int)) := by omega
  have c2 : IntKind.wrap .i64 ((i : Int) + 1) = ((i + 1 : Nat) : Int) := by rw [wrap64 (by omega) (by omega)]; omega
  have hp := hs _ (List.getElem_mem hi)
  have ht := tk i
  have c3 : roomB ((l.take i).flatten.length + l[i].length) 1 = true := roomB_of (by have := big_len; omega) (by omega)
  simp only [script_long_1_octs_Join_L9, c1, decide_true, cond_true, getI_lt l i hi, Option.bind_some, c3, c2, hsn i hi]) (fun X => by
  simp [script_long_1_octs_Join_L9]) 200000 0 (by omega) (by omega)
 simp only [Int.natCast_zero, List.take_zero, List.flatten_nil, List.length_nil] at h1 h2
 exact ⟨h1, h2⟩
theorem joinE (l : List (List Int)) (hl : l.length ≤ 1000) (hs : ∀ p ∈ l, p.length ≤ 100000) :
  script_event_1_octs_Join_L3_R 200000 ((l, ((0 : Int), (l, ((l.length : Int), ((0 : Int), ()))))), ()) = some ((l, ((l.flatten.length : Int), ())), ()) ∧
  script_event_1_octs_Join_L9_R 200000 ((l, ((l.length : Int), ((0 : Int), ()))), (([] : List Int), ())) = some ((), (l.flatten, ())) := by
 have tk : ∀ i, (l.take i).flatten.length ≤ 100000000 := fun i => by
  have := flat_len (l.take i) 100000 fun p hp => hs p (List.mem_of_mem_take hp)
  rw [List.length_take] at this
  omega
 have hsn : ∀ i (hi : i < l.length), (l.take (i + 1)).flatten = (l.take i).flatten ++ l[i] := fun i hi => by
  have : l.take (i + 1) = l.take i ++ [l[i]] := by rw [List.take_add_one, List.getElem?_eq_getElem hi]; rfl
  rw [this, List.flatten_append]
  simp
 have h1 := gl_run (G := fun (X : ((List (List Int) × Int × List (List Int) × Int × Int × Unit) × Unit) → Option ((List (List Int) × Int × Unit) × Unit)) c => script_event_1_octs_Join_L3 200000 X c.1.1 c.1.2.1 c.1.2.2.1 c.1.2.2.2.1 c.1.2.2.2.2.1)
  (fun i => ((l, (((l.take i).flatten.length : Int), (l, ((l.length : Int), ((i : Int), ()))))), ())) l.length ((l, ((l.flatten.length : Int), ())), ()) (fun X i hi => by
  have c1 : ((i : Int) < (l.length : Int)) := by omega
  have c2 : IntKind.wrap .i64 ((i : Int) + 1) = ((i + 1 : Nat) : Int) := by rw [wrap64 (by omega) (by omega)]; omega
  have hp := hs _ (List.getElem_mem hi)
  have ht := tk i
  have c3 : IntKind.wrap .i64 (((l.take i).flatten.length : Int) + (l[i].length : Int)) = (((l.take (i + 1)).flatten.length : Nat) : Int) := by rw [wrap64 (by omega) (by omega), hsn i hi, List.length_append]; omega
  simp only [script_event_1_octs_Join_L3, c1, decide_true, cond_true, getI_lt l i hi, Option.bind_some, c3, c2]) (fun X => by
  simp [script_event_1_octs_Join_L3]) 200000 0 (by omega) (by omega)
 have h2 := gl_run (G := fun (X : ((List (List Int) × Int × Int × Unit) × List Int × Unit) → Option (Unit × List Int × Unit)) c => script_event_1_octs_Join_L9 200000 X c.1.1 c.1.2.1 c.1.2.2.1 c.2.1)
  (fun i => ((l, ((l.length : Int), ((i : Int), ()))), ((l.take i).flatten, ()))) l.length ((), (l.flatten, ())) (fun X i hi => by
  have c1 : ((i : Int) < (l.length : Int)) := by omega
  have c2 : IntKind.wrap .i64 ((i : Int) + 1) = ((i + 1 : Nat) : Int) := by rw [wrap64 (by omega) (by omega)]; omega
  have hp := hs _ (List.getElem_mem hi)
  have ht := tk i
  have c3 : roomB ((l.take i).flatten.length + l[i].length) 1 = true := roomB_of (by have := big_len; omega) (by omega)
  simp only [script_event_1_octs_Join_L9, c1, decide_true, cond_true, getI_lt l i hi, Option.bind_some, c3, c2, hsn i hi]) (fun X => by
  simp [script_event_1_octs_Join_L9]) 200000 0 (by omega) (by omega)
 simp only [Int.natCast_zero, List.take_zero, List.flatten_nil, List.length_nil] at h1 h2
 exact ⟨h1, h2⟩
theorem joinY (l : List (List Int)) (hl : l.length ≤ 1000) (hs : ∀ p ∈ l, p.length ≤ 100000) :
  script_Lay_3_octs_Join_L3_R 200000 ((l, ((0 : Int), (l, ((l.length : Int), ((0 : Int), ()))))), ()) = some ((l, ((l.flatten.length : Int), ())), ()) ∧
  script_Lay_3_octs_Join_L9_R 200000 ((l, ((l.length : Int), ((0 : Int), ()))), (([] : List Int), ())) = some ((), (l.flatten, ())) := by
 have tk : ∀ i, (l.take i).flatten.length ≤ 100000000 := fun i => by
  have := flat_len (l.take i) 100000 fun p hp => hs p (List.mem_of_mem_take hp)
  rw [List.length_take] at this
  omega
 have hsn : ∀ i (hi : i < l.length), (l.take (i + 1)).flatten = (l.take i).flatten ++ l[i] := fun i hi => by
  have : l.take (i + 1) = l.take i ++ [l[i]] := by rw [List.take_add_one, List.getElem?_eq_getElem hi]; rfl
  rw [this, List.flatten_append]
  simp
 have h1 := gl_run (G := fun (X : ((List (List Int) × Int × List (List Int) × Int × Int × Unit) × Unit) → Option ((List (List Int) × Int × Unit) × Unit)) c => script_Lay_3_octs_Join_L3 200000 X c.1.1 c.1.2.1 c.1.2.2.1 c.1.2.2.2.1 c.1.2.2.2.2.1)
  (fun i => ((l, (((l.take i).flatten.length : Int), (l, ((l.length : Int), ((i : Int), ()))))), ())) l.length ((l, ((l.flatten.length : Int), ())), ()) (fun X i hi => by
  have c1 : ((i : Int) < (l.length : Int)) := by omega
  have c2 : IntKind.wrap .i64 ((i : Int) + 1) = ((i + 1 : Nat) : Int) := by rw [wrap64 (by omega) (by omega)]; omega
  have hp := hs _ (List.getElem_mem hi)
  have ht := tk i
  have c3 : IntKind.wrap .i64 (((l.take i).flatten.length : Int) + (l[i].length : Int)) = (((l.take (i + 1)).flatten.length : Nat) : Int) := by rw [wrap64 (by omega) (by omega), hsn i hi, List.length_append]; omega
  simp only [script_Lay_3_octs_Join_L3, c1, decide_true, cond_true, getI_lt l i hi, Option.bind_some, c3, c2]) (fun X => by
  simp [script_Lay_3_octs_Join_L3]) 200000 0 (by omega) (by omega)
 have h2 := gl_run (G := fun (X : ((List (List Int) × Int × Int × Unit) × List Int × Unit) → Option (Unit × List Int × Unit)) c => script_Lay_3_octs_Join_L9 200000 X c.1.1 c.1.2.1 c.1.2.2.1 c.2.1)
  (fun i => ((l, ((l.length : Int), ((i : Int), ()))), ((l.take i).flatten, ()))) l.length ((), (l.flatten, ())) (fun X i hi => by
  have c1 : ((i : Int) < (l.length : Int)) := by omega
  have c2 : IntKind.wrap .i64 ((i : Int) + 1) = ((i + 1 : Nat) : Int) := by rw [wrap64 (by omega) (by omega)]; omega
  have hp := hs _ (List.getElem_mem hi)
  have ht := tk i
  have c3 : roomB ((l.take i).flatten.length + l[i].length) 1 = true := roomB_of (by have := big_len; omega) (by omega)
  simp only [script_Lay_3_octs_Join_L9, c1, decide_true, cond_true, getI_lt l i hi, Option.bind_some, c3, c2, hsn i hi]) (fun X => by
  simp [script_Lay_3_octs_Join_L9]) 200000 0 (by omega) (by omega)
 simp only [Int.natCast_zero, List.take_zero, List.flatten_nil, List.length_nil] at h1 h2
 exact ⟨h1, h2⟩
def txtL (b : List Int) : List Int := by2 (b.length : Int) ++ b
theorem txtL_len (b : List Int) : (txtL b).length = b.length + 2 := by simp [txtL, by2]
theorem txtL_B {b : List Int} (h : AllB b) : AllB (txtL b) := (by2_B _).append h
theorem ofB_len (s : List UInt8) : (ofB s).length = s.length := by simp [ofB]
theorem ofB_B (s : List UInt8) : AllB (ofB s) := fun x hx => by
 simp only [ofB, List.mem_map] at hx
 obtain ⟨b, _, rfl⟩ := hx
 have := b.toNat_lt
 omega
theorem long_ok (b : List Int) (h : b.length ≤ 90000) : script_long 200000 b = some (txtL b) := by
 have hw : IntKind.wrap .u64 (b.length : Int) = (b.length : Int) := wrapU64 (by omega) (by omega)
 have hj := joinL [by2 (b.length : Int), b] (by simp) (fun p hp => by
  simp only [List.mem_cons, List.not_mem_nil, or_false] at hp
  rcases hp with rfl | rfl
  ·simp [by2]
  ·omega)
 have hfl : ([by2 (b.length : Int), b] : List (List Int)).flatten = txtL b := by simp [txtL]
 rw [hfl] at hj
 unfold script_long
 rw [hw, number2 _ (by omega), Option.bind_some]
 refine (congrArg (fun o => Option.bind o _) hj.1).trans ?_
 simp only [Option.bind_some]
 rw [rz (by omega) (by rw [txtL_len]; omega)]
 simp only [cond_true]
 refine (congrArg (fun o => Option.bind o _) hj.2).trans ?_
 rfl
def evB (x : EvT) : List Int := [x.1, x.2.1, x.2.2.1, x.2.2.2.1] ++ (by4 x.2.2.2.2.1 ++ (x.2.2.2.2.2.1.l ++ (x.2.2.2.2.2.2.2.2.1.1.l ++ (x.2.2.2.2.2.2.2.2.1.2.1.l ++ (by4 x.2.2.2.2.2.2.2.2.1.2.2 ++ (x.2.2.2.2.2.2.2.2.2.1.l ++ (by4 x.2.2.2.2.2.2.2.2.2.2.1 ++ (by4 x.2.2.2.2.2.2.2.2.2.2.2.1 ++ (txtL (ofB x.2.2.2.2.2.2.1) ++ (txtL (ofB x.2.2.2.2.2.2.2.1) ++ txtL x.2.2.2.2.2.2.2.2.2.2.2.2))))))))))
structure EvW (x : EvT) : Prop where
 hash : AllB x.2.2.2.2.2.1.l
 nonce : AllB x.2.2.2.2.2.2.2.2.1.1.l
 chal : AllB x.2.2.2.2.2.2.2.2.1.2.1.l
 magic : 0 ≤ x.2.2.2.2.2.2.2.2.1.2.2 ∧ x.2.2.2.2.2.2.2.2.1.2.2 < 4294967296
 peer : AllB x.2.2.2.2.2.2.2.2.2.1.l
 magic2 : 0 ≤ x.2.2.2.2.2.2.2.2.2.2.1 ∧ x.2.2.2.2.2.2.2.2.2.2.1 < 4294967296
 addr : 0 ≤ x.2.2.2.2.2.2.2.2.2.2.2.1 ∧ x.2.2.2.2.2.2.2.2.2.2.2.1 < 4294967296
 data : AllB x.2.2.2.2.2.2.2.2.2.2.2.2
theorem wrapU8' {x : Int} (h : 0 ≤ x ∧ x ≤ 255) : IntKind.wrap .u8 x = x := wrapU8 (by omega) (by omega)
theorem event_ok (x : EvT) (hw : EvW x) (hm : mayV x = 0) : script_event 200000 x = some (evB x) := by
 obtain ⟨hk, hc, ho, hy, hn, h1, h2, h3⟩ := may_zero hm
 have e0 : IntKind.wrap .u8 x.1 = x.1 := wrapU8' (by omega)
 have e1 : IntKind.wrap .u8 x.2.1 = x.2.1 := wrapU8' hc
 have e2 : IntKind.wrap .u8 x.2.2.1 = x.2.2.1 := wrapU8' ho
 have e3 : IntKind.wrap .u8 x.2.2.2.1 = x.2.2.2.1 := wrapU8' hy
 have w0 : IntKind.wrap .u64 x.2.2.2.2.1 = x.2.2.2.2.1 := wrapU64 (by omega) (by omega)
 have w1 : IntKind.wrap .u64 x.2.2.2.2.2.2.2.2.1.2.2 = x.2.2.2.2.2.2.2.2.1.2.2 := wrapU64 hw.magic.1 (by have := hw.magic.2; omega)
 have w2 : IntKind.wrap .u64 x.2.2.2.2.2.2.2.2.2.2.1 = x.2.2.2.2.2.2.2.2.2.2.1 := wrapU64 hw.magic2.1 (by have := hw.magic2.2; omega)
 have w3 : IntKind.wrap .u64 x.2.2.2.2.2.2.2.2.2.2.2.1 = x.2.2.2.2.2.2.2.2.2.2.2.1 := wrapU64 hw.addr.1 (by have := hw.addr.2; omega)
 have hj := joinE [[x.1, x.2.1, x.2.2.1, x.2.2.2.1], by4 x.2.2.2.2.1, x.2.2.2.2.2.1.l, x.2.2.2.2.2.2.2.2.1.1.l, x.2.2.2.2.2.2.2.2.1.2.1.l, by4 x.2.2.2.2.2.2.2.2.1.2.2, x.2.2.2.2.2.2.2.2.2.1.l, by4 x.2.2.2.2.2.2.2.2.2.2.1, by4 x.2.2.2.2.2.2.2.2.2.2.2.1, txtL (ofB x.2.2.2.2.2.2.1), txtL (ofB x.2.2.2.2.2.2.2.1), txtL x.2.2.2.2.2.2.2.2.2.2.2.2] (by simp) (fun p hp => by
  simp only [List.mem_cons, List.not_mem_nil, or_false] at hp
  have a1 := x.2.2.2.2.2.1.h
  have a2 := x.2.2.2.2.2.2.2.2.1.1.h
  have a3 := x.2.2.2.2.2.2.2.2.1.2.1.h
  have a4 := x.2.2.2.2.2.2.2.2.2.1.h
  rcases hp with rfl | rfl | rfl | rfl | rfl | rfl | rfl | rfl | rfl | rfl | rfl | rfl
  ·simp
  ·simp [by4]
  ·omega
  ·omega
  ·omega
  ·simp [by4]
  ·omega
  ·simp [by4]
  ·simp [by4]
  ·rw [txtL_len, ofB_len]; omega
  ·rw [txtL_len, ofB_len]; omega
  ·rw [txtL_len]; omega)
 have hfl : ([[x.1, x.2.1, x.2.2.1, x.2.2.2.1], by4 x.2.2.2.2.1, x.2.2.2.2.2.1.l, x.2.2.2.2.2.2.2.2.1.1.l, x.2.2.2.2.2.2.2.2.1.2.1.l, by4 x.2.2.2.2.2.2.2.2.1.2.2, x.2.2.2.2.2.2.2.2.2.1.l, by4 x.2.2.2.2.2.2.2.2.2.2.1, by4 x.2.2.2.2.2.2.2.2.2.2.2.1, txtL (ofB x.2.2.2.2.2.2.1), txtL (ofB x.2.2.2.2.2.2.2.1), txtL x.2.2.2.2.2.2.2.2.2.2.2.2] : List (List Int)).flatten = evB x := by simp [evB]
 have hlen : (evB x).length ≤ 5000 := by
  simp only [evB, List.length_append, List.length_cons, List.length_nil, by4_len, txtL_len, ofB_len, x.2.2.2.2.2.1.h, x.2.2.2.2.2.2.2.2.1.1.h, x.2.2.2.2.2.2.2.2.1.2.1.h, x.2.2.2.2.2.2.2.2.2.1.h]
  omega
 rw [hfl] at hj
 unfold script_event
 rw [w0, w1, w2, w3, number4 _ (by omega), Option.bind_some, number4 _ (by have := hw.magic; omega), Option.bind_some, number4 _ (by have := hw.magic2; omega), Option.bind_some, number4 _ (by have := hw.addr; omega), Option.bind_some, rb (by omega)]
 simp only [cond_true]
 rw [long_ok _ (by rw [ofB_len]; omega), Option.bind_some, rb (by omega)]
 simp only [cond_true]
 rw [long_ok _ (by rw [ofB_len]; omega), Option.bind_some, long_ok _ (by omega), Option.bind_some, e0, e1, e2, e3]
 refine (congrArg (fun o => Option.bind o _) hj.1).trans ?_
 simp only [Option.bind_some]
 rw [rz (by omega) (by omega)]
 simp only [cond_true]
 refine (congrArg (fun o => Option.bind o _) hj.2).trans ?_
 rfl
noncomputable def seal8 (b : List Int) : List Int := (dig b).l.take 8
theorem seal8_len (b : List Int) : (seal8 b).length = 8 := by rw [seal8, List.length_take, (dig b).h]; rfl
theorem take8 (b : List Int) : takeI (dig b).l (8 : Int) = some (seal8 b) := by
 unfold takeI
 have h := (dig b).h
 simp [h, seal8]
theorem seal_ok (b : List Int) (h : b.length ≤ 90000) (hb : AllB b) : script_seal 200000 b = some (seal8 b) := by
 unfold script_seal
 rw [(dig_ok b h hb).1, Option.bind_some, take8]
 rfl
theorem seal8_B (b : List Int) (h : b.length ≤ 90000) (hb : AllB b) : AllB (seal8 b) := fun x hx => (dig_ok b h hb).2.1 x (List.mem_of_mem_take hx)
noncomputable def laidB (n : Int) (b : List Int) : List Int := ([69, 85] ++ by2 n ++ b) ++ seal8 ([69, 85] ++ by2 n ++ b)
theorem head_B (n : Int) {b : List Int} (hb : AllB b) : AllB ([69, 85] ++ by2 n ++ b) := AllB.append (AllB.append (AllB.cons (by omega) (AllB.cons (by omega) AllB.nil)) (by2_B n)) hb
theorem head_len (n : Int) (b : List Int) : (([69, 85] ++ by2 n ++ b : List Int)).length = b.length + 4 := by simp [by2]
theorem laidB_len (n : Int) (b : List Int) : (laidB n b).length = b.length + 12 := by rw [laidB, List.length_append, head_len, seal8_len]
def lyE : List EvT → Int
 | [] => 0
 | x :: l => bif decide (mayV x = 0) then lyE l else mayV x
def evs (l : List EvT) : List Int := l.flatMap evB
theorem evB_B (x : EvT) (hw : EvW x) (hm : mayV x = 0) : AllB (evB x) := by
 obtain ⟨hk, hc, ho, hy, hn, h1, h2, h3⟩ := may_zero hm
 exact AllB.append (AllB.cons (by omega) (AllB.cons (by omega) (AllB.cons (by omega) (AllB.cons (by omega) AllB.nil)))) (AllB.append (by4_B _) (AllB.append hw.hash (AllB.append hw.nonce (AllB.append hw.chal (AllB.append (by4_B _) (AllB.append hw.peer (AllB.append (by4_B _) (AllB.append (by4_B _) (AllB.append (txtL_B (ofB_B _)) (AllB.append (txtL_B (ofB_B _)) (txtL_B hw.data)))))))))))
theorem evs_B : ∀ l : List EvT, (∀ x ∈ l, EvW x) → lyE l = 0 → AllB (evs l)
 | [], _, _ => AllB.nil
 | x :: l, hw, h => by
  by_cases hm : mayV x = 0
  ·simp only [lyE, hm, decide_true, cond_true] at h
   exact AllB.append (evB_B x (hw x (by simp)) hm) (evs_B l (fun y hy => hw y (by simp [hy])) h)
  ·simp only [lyE, hm, decide_false, cond_false] at h
theorem evs_len : ∀ (l : List EvT), (∀ x ∈ l, (evB x).length ≤ 2922) → (evs l).length ≤ 2922 * l.length
 | [], _ => by simp [evs]
 | x :: l, h => by
  have h1 := h x (by simp)
  have h2 := evs_len l fun y hy => h y (by simp [hy])
  simp only [evs, List.flatMap_cons, List.length_append, List.length_cons] at h2 ⊢
  omega
theorem evB_len (x : EvT) : (evB x).length = 122 + x.2.2.2.2.2.2.1.length + x.2.2.2.2.2.2.2.1.length + x.2.2.2.2.2.2.2.2.2.2.2.2.length := by
 simp only [evB, List.length_append, List.length_cons, List.length_nil, by4_len, txtL_len, ofB_len, x.2.2.2.2.2.1.h, x.2.2.2.2.2.2.2.2.1.1.h, x.2.2.2.2.2.2.2.2.1.2.1.h, x.2.2.2.2.2.2.2.2.2.1.h]
 omega
theorem lay_loop (l : List EvT) (hw : ∀ x ∈ l, EvW x) (hn : l.length ≤ 3000) (hb : (evs l).length ≤ 80000) :
  ∀ (r : List EvT) (i : Nat) (h : List Int) (k : Nat), l.drop i = r → i ≤ l.length → h.length + (evs r).length ≤ 85000 → r.length < k →
  gl (fun X c => script_Lay_L5 200000 X c.1.1 c.1.2.1 c.1.2.2.1 c.2.1) k ((l, ((l.length : Int), ((i : Int), ()))), (h, ())) = some (bif decide (lyE r = 0) then .inr ((), (h ++ evs r, ())) else .inl (([], (lyE r, ())), ()))
 | [], i, h, 0, _, _, _, hk => by simp at hk
 | [], i, h, k + 1, hd, hi, _, _ => by
  have hl : l.length ≤ i := by
   have := congrArg List.length hd
   simp only [List.length_drop, List.length_nil] at this
   omega
  have c : ¬ ((i : Int) < (l.length : Int)) := by omega
  rw [gl_succ]
  simp only [script_Lay_L5, c, decide_false, cond_false, lyE, decide_true, cond_true, evs, List.flatMap_nil, List.append_nil]
 | x :: r, i, h, 0, _, _, _, hk => by simp at hk
 | x :: r, i, h, k + 1, hd, hi, hlen, hk => by
  have hl : i < l.length := by
   have := congrArg List.length hd
   simp only [List.length_drop, List.length_cons] at this
   omega
  have hx : l[i] = x := by
   have := List.drop_eq_getElem_cons hl
   rw [hd] at this
   exact (List.cons.inj this).1.symm
  have hd' : l.drop (i + 1) = r := by
   have := List.drop_eq_getElem_cons hl
   rw [hd] at this
   exact (List.cons.inj this).2.symm
  have c : ((i : Int) < (l.length : Int)) := by omega
  have c2 : IntKind.wrap .i64 ((i : Int) + 1) = ((i + 1 : Nat) : Int) := by rw [wrap64 (by omega) (by omega)]; omega
  have hwx := hw x (hx ▸ List.getElem_mem hl)
  rw [gl_succ]
  simp only [script_Lay_L5, c, decide_true, cond_true, getI_lt l i hl, hx, Option.bind_some]
  rw [show ((x.1, (x.2.1, (x.2.2.1, (x.2.2.2.1, (x.2.2.2.2.1, (x.2.2.2.2.2.1, (x.2.2.2.2.2.2.1, (x.2.2.2.2.2.2.2.1, ((x.2.2.2.2.2.2.2.2.1.1, (x.2.2.2.2.2.2.2.2.1.2.1, x.2.2.2.2.2.2.2.2.1.2.2)), (x.2.2.2.2.2.2.2.2.2.1, (x.2.2.2.2.2.2.2.2.2.2.1, (x.2.2.2.2.2.2.2.2.2.2.2.1, x.2.2.2.2.2.2.2.2.2.2.2.2)))))))))))) : EvT) = x from rfl, may_ok40, Option.bind_some]
  by_cases hm : mayV x = 0
  ·rw [event_ok x hwx hm]
   simp only [hm, decide_true, Bool.not_true, cond_false, Option.bind_some, lyE, cond_true]
   simp only [evs, List.flatMap_cons, List.length_append] at hlen ⊢
   rw [rb (by omega)]
   simp only [cond_true]
   rw [c2]
   refine (lay_loop l hw hn hb r (i + 1) (h ++ evB x) k hd' (by omega) (by rw [List.length_append]; simp only [evs]; omega) (by simp only [List.length_cons] at hk; omega)).trans ?_
   simp only [evs, List.append_assoc]
  ·simp only [hm, decide_false, Bool.not_false, cond_true, lyE, cond_false]
noncomputable def lyV (l : List EvT) : List Int × Int := bif decide (2000 < l.length) then ([], 5) else bif decide (lyE l = 0) then (laidB (l.length : Int) (evs l), 0) else ([], lyE l)
theorem Lay_ok (l : List EvT) (hw : ∀ x ∈ l, EvW x) (hb : l.length ≤ 2000 → (evs l).length ≤ 80000) : script_Lay 200000 l = some (lyV l) := by
 unfold script_Lay lyV
 by_cases h : 2000 < l.length
 ·have c : (2000 : Int) < (l.length : Int) := by omega
  simp only [c, h, decide_true, cond_true]
 ·have c : ¬ (2000 : Int) < (l.length : Int) := by omega
  have hb := hb (by omega)
  have hj := joinY [[69, 85], by2 (l.length : Int)] (by simp) (fun p hp => by
   simp only [List.mem_cons, List.not_mem_nil, or_false] at hp
   rcases hp with rfl | rfl
   ·simp
   ·simp [by2])
  have hfl : ([[69, 85], by2 (l.length : Int)] : List (List Int)).flatten = [69, 85] ++ by2 (l.length : Int) := by simp
  rw [hfl] at hj
  have hL := lay_loop l hw (by omega) hb l 0 ([69, 85] ++ by2 (l.length : Int)) 200000 rfl (by omega) (by simp only [List.length_append, by2_len, List.length_cons, List.length_nil]; omega) (by omega)
  simp only [c, h, decide_false, cond_false]
  rw [wrapU64 (by omega) (by omega), number2 _ (by omega), Option.bind_some]
  refine (congrArg (fun o => Option.bind o _) hj.1).trans ?_
  simp only [Option.bind_some]
  rw [rz (by omega) (by simp [by2])]
  simp only [cond_true]
  refine (congrArg (fun o => Option.bind o _) hj.2).trans ?_
  simp only [Option.bind_some]
  refine (congrArg (fun o => Option.bind o _) hL).trans ?_
  by_cases hm : lyE l = 0
  ·have hB : AllB ([69, 85] ++ by2 (l.length : Int) ++ evs l) := head_B _ (evs_B l hw hm)
   have hlen := head_len (l.length : Int) (evs l)
   simp only [hm, decide_true, cond_true, Option.bind_some, Sum.elim_inr]
   rw [seal_ok _ (by omega) hB, Option.bind_some, rb (by rw [seal8_len]; omega)]
   rfl
  ·simp only [hm, decide_false, cond_false, Option.bind_some, Sum.elim_inl]
theorem rsame40 (a b : List Int) (h : a.length < 200000) : ref01_Same 200000 a b = some (decide (a = b)) := sameF_ok h (by omega)
theorem beq40 (a b : List Int) (ha : AllB a) (hb : AllB b) : bytes_Equal 200000 a b = some (decide (a = b)) := by
 unfold bytes_Equal
 rw [toBy_map ha, Option.bind_some, toBy_map hb, Option.bind_some, bytes_dec ha hb]
theorem andL (p q : Bool) : (bif p then some (cond true q false) else some false) = some (p && q) := by cases p <;> rfl
theorem andW (p q w : Bool) (hw : w = true) : (bif p then (bif w then some (cond true q false) else none) else some false) = some (p && q) := by subst hw; cases p <;> rfl
theorem wfDraw {x : (Arr Int 32) × ((Arr Int 16) × Int)} (h1 : AllB x.1.l) (h2 : AllB x.2.1.l) (h3 : 0 ≤ x.2.2 ∧ x.2.2 < 4294967296) : wfB (.pair (.arr 32 (.int .u8)) (.pair (.arr 16 (.int .u8)) (.int .u32))) (x.1, (x.2.1, x.2.2)) = true := by
 show (wfB (.arr 32 (.int .u8)) x.1 && (wfB (.arr 16 (.int .u8)) x.2.1 && wfB (.int .u32) x.2.2)) = true
 rw [wfB_b _ h1, wfB_b _ h2, show wfB (.int .u32) x.2.2 = true from wfu32 h3]
 rfl
theorem andT {p q : Bool} (hp : p = true) (hq : q = true) : (p && q) = true := by rw [hp, hq]; rfl
theorem ssame_ok (a b : EvT) (ha : EvW a) (hb : EvW b) : ∃ v, script_Same 200000 a b = some v ∧ (v = true ↔ a = b) := by
 have w1 := andT (wfB_b _ ha.hash) (wfB_b _ hb.hash)
 have w2 := andT (wfDraw (x := a.2.2.2.2.2.2.2.2.1) ha.nonce ha.chal ha.magic) (wfDraw (x := b.2.2.2.2.2.2.2.2.1) hb.nonce hb.chal hb.magic)
 have w3 := andT (wfB_b _ ha.peer) (wfB_b _ hb.peer)
 refine ⟨?_, ?_, ?_⟩
 rotate_left
 ·unfold script_Same
  rw [beq40 _ _ ha.data hb.data]
  simp only [Option.bind_some, andL]
  rw [andW _ _ _ w1]
  simp only [Option.bind_some, andL]
  rw [andW _ _ _ w2]
  simp only [Option.bind_some, andL]
  rw [andW _ _ _ w3]
  simp only [Option.bind_some, andL]
  rfl
 ·simp only [Bool.and_eq_true, decide_eq_true_eq, Prod.ext_iff]
  constructor
  ·rintro ⟨⟨⟨⟨⟨⟨⟨⟨⟨⟨⟨⟨h1, h2⟩, h3⟩, h4⟩, h5⟩, h6⟩, h7⟩, h8⟩, h9⟩, h10⟩, h11⟩, h12⟩, h13⟩
   exact ⟨h1, h2, h3, h4, h5, h6, h11, h12, h7, h8, h9, h10, h13⟩
  ·rintro ⟨h1, h2, h3, h4, h5, h6, h11, h12, h7, h8, h9, h10, h13⟩
   exact ⟨⟨⟨⟨⟨⟨⟨⟨⟨⟨⟨⟨h1, h2⟩, h3⟩, h4⟩, h5⟩, h6⟩, h7⟩, h8⟩, h9⟩, h10⟩, h11⟩, h12⟩, h13⟩
theorem getI_d {α : Type} {l r : List α} {x : α} {i : Nat} (hd : l.drop i = x :: r) : getI l (i : Int) = some x ∧ l.drop (i + 1) = r ∧ i < l.length := by
 have hl : i < l.length := by
  have := congrArg List.length hd
  simp only [List.length_drop, List.length_cons] at this
  omega
 have := List.drop_eq_getElem_cons hl
 rw [hd] at this
 exact ⟨by rw [getI_lt l i hl, (List.cons.inj this).1], (List.cons.inj this).2.symm, hl⟩
theorem len_d {α : Type} {l : List α} {i : Nat} (hd : l.drop i = []) : l.length ≤ i := by
 have := congrArg List.length hd
 simp only [List.length_drop, List.length_nil] at this
 omega
theorem same_loop (l : List EvT) (hw : ∀ x ∈ l, EvW x) (hn : l.length ≤ 100000) : ∀ (r : List EvT) (i k : Nat), l.drop i = r → r.length < k →
  gl (fun X c => law40_same_L4 200000 X c.1.1 c.1.2.1 c.1.2.2.1 c.1.2.2.2.1) k ((l, (l, ((l.length : Int), ((i : Int), ())))), ()) = some (.inr ((), ()))
 | r, i, 0, hd, hk => by simp at hk
 | [], i, k + 1, hd, _ => by
  have c : ¬ ((i : Int) < (l.length : Int)) := by have := len_d hd; omega
  rw [gl_succ]
  simp only [law40_same_L4, c, decide_false, cond_false]
 | x :: r, i, k + 1, hd, hk => by
  obtain ⟨g, hd', hl⟩ := getI_d hd
  have c : ((i : Int) < (l.length : Int)) := by omega
  have c2 : IntKind.wrap .i64 ((i : Int) + 1) = ((i + 1 : Nat) : Int) := by rw [wrap64 (by omega) (by omega)]; omega
  have hx : EvW x := hw x (List.mem_of_mem_drop (hd ▸ List.mem_cons_self))
  obtain ⟨v, hv, hi⟩ := ssame_ok x x hx hx
  have hv1 : v = true := hi.2 rfl
  subst hv1
  rw [gl_succ]
  simp only [law40_same_L4, c, decide_true, cond_true, g, Option.bind_some]
  rw [show ((x.1, (x.2.1, (x.2.2.1, (x.2.2.2.1, (x.2.2.2.2.1, (x.2.2.2.2.2.1, (x.2.2.2.2.2.2.1, (x.2.2.2.2.2.2.2.1, ((x.2.2.2.2.2.2.2.2.1.1, (x.2.2.2.2.2.2.2.2.1.2.1, x.2.2.2.2.2.2.2.2.1.2.2)), (x.2.2.2.2.2.2.2.2.2.1, (x.2.2.2.2.2.2.2.2.2.2.1, (x.2.2.2.2.2.2.2.2.2.2.2.1, x.2.2.2.2.2.2.2.2.2.2.2.2)))))))))))) : EvT) = x from rfl, hv]
  simp only [Option.bind_some, Bool.not_true, cond_false]
  rw [c2]
  exact same_loop l hw hn r (i + 1) k hd' (by simp only [List.length_cons] at hk; omega)
theorem same_ok (l : List EvT) (hw : ∀ x ∈ l, EvW x) (hn : l.length ≤ 100000) : law40_same 200000 l l = some true := by
 unfold law40_same
 simp only [decide_true, Bool.not_true, cond_false]
 refine (congrArg (fun o => Option.bind o _) (same_loop l hw hn l 0 200000 rfl (by omega))).trans ?_
 rfl
theorem rb208 {n : Nat} (h : n ≤ 10000) : roomB n 208 = true := roomB_of (by have := big_len; omega) (by omega)
theorem all_ok (l : List EvT) (hn : l.length ≤ 5000) : law40_all 200000 l = some l := by
 have h := gl_run (G := fun (X : ((List EvT × (Int × (Int × Unit))) × (List EvT × Unit)) → Option (Unit × (List EvT × Unit))) c => law40_all_L3 200000 X c.1.1 c.1.2.1 c.1.2.2.1 c.2.1)
  (fun i => ((l, ((l.length : Int), ((i : Int), ()))), (l.take i, ()))) l.length ((), (l, ())) (fun X i hi => by
  have c : ((i : Int) < (l.length : Int)) := by omega
  have c2 : IntKind.wrap .i64 ((i : Int) + 1) = ((i + 1 : Nat) : Int) := by rw [wrap64 (by omega) (by omega)]; omega
  have e : l.take (i + 1) = l.take i ++ [l[i]] := by rw [List.take_add_one, List.getElem?_eq_getElem hi]; rfl
  simp only [law40_all_L3, c, decide_true, cond_true, getI_lt l i hi, Option.bind_some, c2]
  rw [rb208 (by simp only [List.length_take, List.length_cons, List.length_nil]; omega), e]
  rfl) (fun X => by simp [law40_all_L3]) 200000 0 (by omega) (by omega)
 unfold law40_all
 refine (congrArg (fun o => Option.bind o _) h).trans ?_
 rfl
def smallE (x : EvT) : Prop := x.2.2.2.2.2.2.1.length ≤ 300 ∧ x.2.2.2.2.2.2.2.1.length ≤ 400 ∧ x.2.2.2.2.2.2.2.2.2.2.2.2.length ≤ 2100
theorem far_loop (l s : List EvT) (hn : s.length ≤ 2100) : ∀ (r : List EvT) (i k : Nat), s.drop i = r → r.length < k →
  ∃ o, gl (fun X c => law40_far_L2 200000 X c.1.1 c.1.2.1 c.1.2.2.1 c.1.2.2.2.1) k ((l, (s, ((s.length : Int), ((i : Int), ())))), ()) = some o ∧ (o = .inl ((true, ()), ()) ∨ (o = .inr ((l, ()), ()) ∧ ∀ x ∈ r, smallE x))
 | r, i, 0, hd, hk => by simp at hk
 | [], i, k + 1, hd, _ => by
  have c : ¬ ((i : Int) < (s.length : Int)) := by have := len_d hd; omega
  rw [gl_succ]
  simp only [law40_far_L2, c, decide_false, cond_false]
  exact ⟨_, rfl, .inr ⟨rfl, fun x hx => by simp at hx⟩⟩
 | x :: r, i, k + 1, hd, hk => by
  obtain ⟨g, hd', hl⟩ := getI_d hd
  have c : ((i : Int) < (s.length : Int)) := by omega
  have c2 : IntKind.wrap .i64 ((i : Int) + 1) = ((i + 1 : Nat) : Int) := by rw [wrap64 (by omega) (by omega)]; omega
  rw [gl_succ]
  simp only [law40_far_L2, c, decide_true, cond_true, g, Option.bind_some]
  by_cases h1 : (300 : Int) < (x.2.2.2.2.2.2.1.length : Int)
  ·simp only [h1, decide_true, cond_true]
   exact ⟨_, rfl, .inl rfl⟩
  by_cases h2 : (400 : Int) < (x.2.2.2.2.2.2.2.1.length : Int)
  ·simp only [h1, h2, decide_true, decide_false, cond_true, cond_false]
   exact ⟨_, rfl, .inl rfl⟩
  by_cases h3 : (2100 : Int) < (x.2.2.2.2.2.2.2.2.2.2.2.2.length : Int)
  ·simp only [h1, h2, h3, decide_true, decide_false, cond_true, cond_false]
   exact ⟨_, rfl, .inl rfl⟩
  simp only [h1, h2, h3, decide_true, decide_false, cond_true, cond_false]
  rw [c2]
  obtain ⟨o, ho, hr⟩ := far_loop l s hn r (i + 1) k hd' (by simp only [List.length_cons] at hk; omega)
  refine ⟨o, ho, ?_⟩
  rcases hr with hr | ⟨hr, hall⟩
  ·exact .inl hr
  ·refine .inr ⟨hr, fun y hy => ?_⟩
   rcases List.mem_cons.1 hy with rfl | hy
   ·exact ⟨by omega, by omega, by omega⟩
   ·exact hall y hy
theorem far_ok (l : List EvT) : ∃ v, law40_far 200000 l = some v ∧ (v = false → l.length ≤ 2100 ∧ (l.length ≤ 20 ∨ 2000 < l.length) ∧ ∀ x ∈ l, smallE x) := by
 have hm : minI ((l.length : Nat) : Int) (2100 : Int) = ((min l.length 2100 : Nat) : Int) := by
  unfold minI
  first | omega | (split <;> omega)
 have ht := takeI_nat l (a := minI ((l.length : Nat) : Int) (2100 : Int)) (i := min l.length 2100) hm (by omega)
 have hlt : (l.take (min l.length 2100)).length ≤ 2100 := by rw [List.length_take]; omega
 obtain ⟨o, ho, hr⟩ := far_loop l (l.take (min l.length 2100)) hlt (l.take (min l.length 2100)) 0 200000 rfl (by omega)
 unfold law40_far
 rw [ht, Option.bind_some]
 rcases hr with hr | ⟨hr, hall⟩
 ·refine ⟨true, (congrArg (fun o => Option.bind o _) ho).trans ?_, fun h => by cases h⟩
  rw [hr]
  rfl
 ·by_cases h1 : (20 : Int) < (l.length : Int)
  ·by_cases h2 : (l.length : Int) ≤ 2000
   ·refine ⟨true, (congrArg (fun o => Option.bind o _) ho).trans ?_, fun h => by cases h⟩
    rw [hr]
    simp only [Option.bind_some, Sum.elim_inr, h1, h2, decide_true, cond_true]
   ·by_cases h3 : (2100 : Int) < (l.length : Int)
    ·refine ⟨true, (congrArg (fun o => Option.bind o _) ho).trans ?_, fun h => by cases h⟩
     rw [hr]
     simp only [Option.bind_some, Sum.elim_inr, h1, h2, h3, decide_true, decide_false, cond_true, cond_false]
    ·refine ⟨false, (congrArg (fun o => Option.bind o _) ho).trans ?_, fun _ => ⟨by omega, by omega, ?_⟩⟩
     ·rw [hr]
      simp only [Option.bind_some, Sum.elim_inr, h1, h2, h3, decide_true, decide_false, cond_true, cond_false]
     ·rw [show min l.length 2100 = l.length by omega, List.take_length] at hall
      exact hall
  ·by_cases h3 : (2100 : Int) < (l.length : Int)
   ·omega
   ·refine ⟨false, (congrArg (fun o => Option.bind o _) ho).trans ?_, fun _ => ⟨by omega, by omega, ?_⟩⟩
    ·rw [hr]
     simp only [Option.bind_some, Sum.elim_inr, h1, h3, decide_true, decide_false, cond_true, cond_false]
    ·rw [show min l.length 2100 = l.length by omega, List.take_length] at hall
     exact hall
def nm2 (l : List Int) : Int := l.getD 0 0 * 256 + l.getD 1 0
def nm4 (l : List Int) : Int := ((l.getD 0 0 * 256 + l.getD 1 0) * 256 + l.getD 2 0) * 256 + l.getD 3 0
def arQ (n : Nat) (l : List Int) : Arr Int n := if h : l.length = n then ⟨l, h⟩ else ⟨List.replicate n 0, by simp⟩
def textAt (h : List Int) : Option (List Int × List Int) := if h.length < 2 then none else if (h.length : Int) < 2 + nm2 h then none else some ((h.drop 2).take (nm2 h).toNat, h.drop (2 + (nm2 h).toNat))
def mkEv (b t1 t2 t3 : List Int) : EvT := (b.getD 0 0, (b.getD 1 0, (b.getD 2 0, (b.getD 3 0, (nm4 (b.drop 4), (arQ 32 ((b.drop 8).take 32), (t1.map byteOf, (t2.map byteOf, ((arQ 32 ((b.drop 40).take 32), (arQ 16 ((b.drop 72).take 16), nm4 (b.drop 88))), (arQ 16 ((b.drop 92).take 16), (nm4 (b.drop 108), (nm4 (b.drop 112), t3))))))))))))
def okE (x : EvT) (r : List Int) : Int ⊕ (EvT × List Int) := bif decide (mayV x = 0) then .inr (x, r) else .inl (mayV x)
def ev3 (b t1 t2 : List Int) (o : Option (List Int × List Int)) : Int ⊕ (EvT × List Int) := match o with
 | none => .inl 4
 | some (t3, r) => okE (mkEv b t1 t2 t3) r
def ev2 (b t1 : List Int) (o : Option (List Int × List Int)) : Int ⊕ (EvT × List Int) := match o with
 | none => .inl 4
 | some (t2, r) => ev3 b t1 t2 (textAt r)
def ev1t (b : List Int) (o : Option (List Int × List Int)) : Int ⊕ (EvT × List Int) := match o with
 | none => .inl 4
 | some (t1, r) => ev2 b t1 (textAt r)
def ev1 (b : List Int) : Int ⊕ (EvT × List Int) := bif decide (b.length < 1) then .inl 4 else bif !(decide (1 ≤ b.getD 0 0) && decide (b.getD 0 0 ≤ 12)) then .inl 9 else bif decide (b.length < 116) then .inl 4 else ev1t b (textAt (b.drop 116))
theorem getDl (l : List Int) (i : Nat) (h : i < l.length) : l.getD i 0 = l[i] := by simp [List.getD_eq_getElem?_getD, h]
theorem getDn (l : List Int) (i : Nat) (h : l.length ≤ i) : l.getD i 0 = 0 := by simp [List.getD_eq_getElem?_getD, h]
theorem getDB {l : List Int} (h : AllB l) (i : Nat) : 0 ≤ l.getD i 0 ∧ l.getD i 0 < 256 := by
 by_cases hi : i < l.length
 ·rw [getDl _ _ hi]; exact h _ (List.getElem_mem hi)
 ·rw [getDn _ _ (by omega)]; omega
theorem nm2B {l : List Int} (h : AllB l) : 0 ≤ nm2 l ∧ nm2 l < 65536 := by
 have := getDB h 0; have := getDB h 1
 unfold nm2; omega
theorem nm4B {l : List Int} (h : AllB l) : 0 ≤ nm4 l ∧ nm4 l < 4294967296 := by
 have := getDB h 0; have := getDB h 1; have := getDB h 2; have := getDB h 3
 unfold nm4; omega
theorem take2 {l : List Int} (h : 2 ≤ l.length) : l.take 2 = [l.getD 0 0, l.getD 1 0] := by
 match l, h with
 | x :: y :: r, _ => rfl
theorem take4 {l : List Int} (h : 4 ≤ l.length) : l.take 4 = [l.getD 0 0, l.getD 1 0, l.getD 2 0, l.getD 3 0] := by
 match l, h with
 | x :: y :: z :: u :: r, _ => rfl
theorem arQ_ok (n : Nat) (l : List Int) (h : l.length = n) : toArr n l = some (arQ n l) := by
 unfold toArr arQ
 rw [dif_pos (by omega), dif_pos h]
 refine congrArg some (Arr.eq ?_)
 show l.take n = l
 exact List.take_of_length_le (by omega)
theorem arQ_B {n : Nat} {l : List Int} (h : AllB l) : AllB (arQ n l).l := by
 unfold arQ
 split
 ·exact h
 ·intro x hx
  rw [List.eq_of_mem_replicate hx]
  omega
theorem getDd (b : List Int) (a i : Nat) : (b.drop a).getD i 0 = b.getD (a + i) 0 := by
 simp only [List.getD_eq_getElem?_getD, List.getElem?_drop]
theorem get1q {N : Nat} (x : Int) (hx : 0 ≤ x ∧ x < 256) (hN : 100 ≤ N) : qOGet N [x] false = some (x, 0) := by
 obtain ⟨M, rfl⟩ : ∃ M, N = M + 2 := ⟨N - 2, by omega⟩
 have w1 : IntKind.wrap .i64 ((1 : Int) - 1) = 0 := by decide
 have w0 : IntKind.wrap .i64 ((0 : Int) - 0) = 0 := by decide
 have w3 : IntKind.wrap .i64 ((0 : Int) + 1) = 1 := by decide
 have w5 : IntKind.wrap .i64 ((8 : Int) * 0) = 0 := by decide
 have w7 : IntKind.wrap .u64 x = x := wrapU64 (by omega) (by omega)
 have e0 : (2 : Int) ^ min (Int.toNat 0) (IntKind.bits IntKind.u64) = 1 := by decide
 have w10 : IntKind.wrap .u64 (x * 1) = x := by rw [Int.mul_one]; exact w7
 have o1 : bits .or .u64 0 x = x := by
  have := or_at 0 x 0 (by decide) (by decide) (by decide) (by omega) (by simp; omega)
  simpa using this
 have g0 : getI [x] (0 : Int) = some x := rfl
 have l2 : (([x] : List Int).length : Int) = 1 := rfl
 simp only [qOGet, qOGetL5R, gl, qOGetL5, qOplace, l2, cond_false, Option.bind_some, w0, w1, w3, w5, w7, w10, e0, o1, g0]
 simp [w3, w7, e0, o1, w1, g0, w0, w10]
theorem take1 {l : List Int} (h : 1 ≤ l.length) : l.take 1 = [l.getD 0 0] := by
 match l, h with
 | x :: r, _ => rfl
theorem g1_ok {l : List Int} (h : AllB l) (hl : 1 ≤ l.length) : Gt.octs_Get 200 (l.take 1) false = some (l.getD 0 0, 0) := by
 rw [gt_get, take1 hl]
 exact get1q _ (getDB h 0) (by omega)
theorem g2_ok {l : List Int} (h : AllB l) (hl : 2 ≤ l.length) : Gt.octs_Get 200 (l.take 2) false = some (nm2 l, 0) := by
 rw [gt_get, take2 hl]
 exact get2 _ _ (getDB h 0) (getDB h 1) (by omega)
theorem g4_ok {l : List Int} (h : AllB l) (hl : 4 ≤ l.length) : Gt.octs_Get 200 (l.take 4) false = some (nm4 l, 0) := by
 rw [gt_get, take4 hl]
 exact get4 _ _ _ _ (getDB h 0) (getDB h 1) (getDB h 2) (getDB h 3) (by omega)
theorem clone40 (s : List Int) (h : s.length ≤ 1000000) : slices_Clone_byte_byte 200000 s = some s := by
 unfold slices_Clone_byte_byte slices_Clone_byte_byte_ne
 cases s with
 | nil => rfl
 | cons x s =>
  simp only [List.isEmpty_cons, cond_false]
  rw [rb (by omega)]
  rfl
theorem stepN {β : Type} (b : List Int) (hl : b.length ≤ 100000) (p w : Nat) (W : Int) (hW : W = (w : Int)) (e : Option β) (k : List Int → List Int → Option β) :
  (bif decide (((b.drop p).length : Int) < W) then e else Option.bind (takeI (b.drop p) W) fun v => Option.bind (slices_Clone_byte_byte 200000 v) fun v' => Option.bind (dropI (b.drop p) W) fun v'' => k v' v'') = bif decide (b.length < p + w ∧ 0 < w) then e else k ((b.drop p).take w) (b.drop (p + w)) := by
 have ln : (b.drop p).length = b.length - p := List.length_drop
 by_cases c : b.length < p + w ∧ 0 < w
 ·rw [decide_eq_true c, decide_eq_true (show ((b.drop p).length : Int) < W by omega)]
  rfl
 ·rw [decide_eq_false c, decide_eq_false (show ¬ ((b.drop p).length : Int) < W by omega)]
  simp only [cond_false]
  rw [takeI_nat _ hW (by omega), Option.bind_some, clone40 _ (by rw [List.length_take]; omega), Option.bind_some, dropI_nat _ hW (by omega), Option.bind_some, List.drop_drop]
theorem w64b {x : Int} (h : 0 ≤ x ∧ x < 4294967296) : IntKind.wrap .i64 x = x := wrap64 (by omega) (by omega)
theorem w32b {x : Int} (h : 0 ≤ x ∧ x < 4294967296) : IntKind.wrap .u32 x = x := by rw [w32]; omega
theorem stepT {β : Type} (b : List Int) (hB : AllB b) (hl : b.length ≤ 100000) (e : Option β) (E : (Int × Int) → Option β) (k : List Int → List Int → Option β) (hE : ∀ n : Nat, n < 65536 → E ((n : Int), 0) = e) :
  (bif decide ((b.length : Int) < (2 : Int)) then e else Option.bind (takeI b (2 : Int)) fun v => Option.bind (slices_Clone_byte_byte 200000 v) fun v' => Option.bind (dropI b (2 : Int)) fun r => Option.bind (Gt.octs_Get 200 v' false) fun n => bif decide ((r.length : Int) < IntKind.wrap .i64 n.1) then E n else Option.bind (takeI r (IntKind.wrap .i64 n.1)) fun t => Option.bind (slices_Clone_byte_byte 200000 t) fun t' => Option.bind (dropI r (IntKind.wrap .i64 n.1)) fun r' => k t' r') =
  (match textAt b with
  | none => e
  | some (t, r) => k t r) := by
 refine (stepN b hl 0 2 2 rfl e _).trans ?_
 have hn := nm2B hB
 unfold textAt
 by_cases c : b.length < 2
 ·rw [if_pos c, decide_eq_true (show b.length < 0 + 2 ∧ 0 < 2 by omega)]
  rfl
 ·rw [if_neg c, decide_eq_false (show ¬ (b.length < 0 + 2 ∧ 0 < 2) by omega)]
  simp only [cond_false, List.drop_zero, Nat.zero_add]
  rw [g2_ok hB (by omega), Option.bind_some]
  simp only []
  rw [w64b (by omega)]
  obtain ⟨n, hn'⟩ := Int.eq_ofNat_of_zero_le hn.1
  have ln : (b.drop 2).length = b.length - 2 := List.length_drop
  by_cases c2 : (b.length : Int) < 2 + nm2 b
  ·rw [if_pos c2, decide_eq_true (show ((b.drop 2).length : Int) < nm2 b by omega)]
   simp only [cond_true]
   rw [hn']
   exact hE n (by omega)
  ·rw [if_neg c2, decide_eq_false (show ¬ ((b.drop 2).length : Int) < nm2 b by omega)]
   simp only [cond_false]
   rw [hn', takeI_nat _ rfl (by omega), Option.bind_some, clone40 _ (by rw [List.length_take]; omega), Option.bind_some, dropI_nat _ rfl (by omega), Option.bind_some, List.drop_drop]
   rfl
def toR (F : ((Int × (Int × Unit)) × ((List Int × Bool) × (List EvT × Unit))) → Option (((List EvT × (Int × Unit)) × Unit) ⊕ (Unit × ((List Int × Bool) × (List EvT × Unit))))) (many i : Int) (acc : List EvT) : Int ⊕ (EvT × List Int) → Option (((List EvT × (Int × Unit)) × Unit) ⊕ (Unit × ((List Int × Bool) × (List EvT × Unit))))
 | .inl e => some (.inl (([], (e, ())), ()))
 | .inr (x, r) => F ((many, (IntKind.wrap .i64 (i + 1), ())), ((r, false), (acc ++ [x], ())))
theorem textAt_some {b t r : List Int} (h : textAt b = some (t, r)) (hB : AllB b) : AllB t ∧ AllB r ∧ t.length ≤ b.length ∧ r.length + 2 ≤ b.length ∧ b.length = r.length + t.length + 2 ∧ b = by2 (t.length : Int) ++ t ++ r := by
 have hn := nm2B hB
 unfold textAt at h
 split at h
 ·cases h
 ·split at h
  ·cases h
  ·rename_i h1 h2
   injection h with h
   injection h with ht hr
   subst ht hr
   obtain ⟨n, hn'⟩ := Int.eq_ofNat_of_zero_le hn.1
   have l1 : ((b.drop 2).take (nm2 b).toNat).length = (nm2 b).toNat := by rw [List.length_take, List.length_drop]; omega
   have l2 : (b.drop (2 + (nm2 b).toNat)).length = b.length - (2 + (nm2 b).toNat) := List.length_drop
   refine ⟨(hB.drop 2).take _, hB.drop _, by rw [l1]; omega, by rw [l2]; omega, by rw [l1, l2]; omega, ?_⟩
   rw [l1]
   have e1 : by2 (((nm2 b).toNat : Nat) : Int) = b.take 2 := by
    rw [take2 (by omega)]
    have h0 := getDB hB 0
    have h1 := getDB hB 1
    have : (((nm2 b).toNat : Nat) : Int) = b.getD 0 0 * 256 + b.getD 1 0 := by rw [Int.toNat_of_nonneg hn.1]; rfl
    unfold by2
    rw [this, show (b.getD 0 0 * 256 + b.getD 1 0) / 256 % 256 = b.getD 0 0 by omega, show (b.getD 0 0 * 256 + b.getD 1 0) % 256 = b.getD 1 0 by omega]
   rw [e1, ← List.drop_drop, List.append_assoc, List.take_append_drop, List.take_append_drop]
theorem l14_step (F : ((Int × (Int × Unit)) × ((List Int × Bool) × (List EvT × Unit))) → Option (((List EvT × (Int × Unit)) × Unit) ⊕ (Unit × ((List Int × Bool) × (List EvT × Unit))))) (many i : Int) (b : List Int) (hB : AllB b) (hl : b.length ≤ 100000) (acc : List EvT) (hacc : acc.length ≤ 5000) (hi : i < many) :
  script_Parse_L14 200000 F many i (b, false) acc = toR F many i acc (ev1 b) := by
 have hR0 : b.length < 1 → some (.inl (([], ((4 : Int), ())), ())) = toR F many i acc (ev1 b) := fun h => by
  unfold ev1
  rw [decide_eq_true h]
  rfl
 have hR9 : ¬ b.length < 1 → (decide (1 ≤ b.getD 0 0) && decide (b.getD 0 0 ≤ 12)) = false → some (.inl (([], ((9 : Int), ())), ())) = toR F many i acc (ev1 b) := fun h h2 => by
  unfold ev1
  rw [decide_eq_false h, h2]
  rfl
 have hR4 : ¬ b.length < 1 → (decide (1 ≤ b.getD 0 0) && decide (b.getD 0 0 ≤ 12)) = true → b.length < 116 → some (.inl (([], ((4 : Int), ())), ())) = toR F many i acc (ev1 b) := fun h h2 h3 => by
  unfold ev1
  rw [decide_eq_false h, h2, decide_eq_true h3]
  rfl
 have hRT : ¬ b.length < 1 → (decide (1 ≤ b.getD 0 0) && decide (b.getD 0 0 ≤ 12)) = true → ¬ b.length < 116 → toR F many i acc (ev1t b (textAt (b.drop 116))) = toR F many i acc (ev1 b) := fun h h2 h3 => by
  unfold ev1
  rw [decide_eq_false h, h2, decide_eq_false h3]
  rfl
 unfold script_Parse_L14
 rw [decide_eq_true hi, cond_true]
 try dsimp only
 refine (stepN b hl 0 1 1 rfl _ _).trans ?_
 by_cases c0 : b.length < 0 + 1
 ·rw [decide_eq_true (show b.length < 0 + 1 ∧ 0 < 1 by omega)]
  exact hR0 (by omega)
 rw [decide_eq_false (show ¬ (b.length < 0 + 1 ∧ 0 < 1) by omega), cond_false]
 refine (congrArg (fun o => Option.bind o _) (g1_ok hB (by omega))).trans ?_
 simp only [Option.bind_some, cond_false]
 rw [w64b (by have := getDB hB 0; omega), isKind_ok, Option.bind_some]
 cases ck : (decide (1 ≤ b.getD 0 0) && decide (b.getD 0 0 ≤ 12))
 ·simp only [Bool.not_false, cond_true]
  exact hR9 (by omega) ck
 simp only [Bool.not_true, cond_false]
 have hR4 := hR4 (by omega) ck
 refine (stepN b hl 1 1 1 rfl _ _).trans ?_
 by_cases c1 : b.length < 1 + 1
 ·rw [decide_eq_true (show b.length < 1 + 1 ∧ 0 < 1 by omega)]
  exact hR4 (by omega)
 rw [decide_eq_false (show ¬ (b.length < 1 + 1 ∧ 0 < 1) by omega), cond_false]
 refine (congrArg (fun o => Option.bind o _) (g1_ok (hB.drop 1) (by rw [List.length_drop]; omega))).trans ?_
 simp only [Option.bind_some]
 refine (stepN b hl 2 1 1 rfl _ _).trans ?_
 by_cases c2 : b.length < 2 + 1
 ·rw [decide_eq_true (show b.length < 2 + 1 ∧ 0 < 1 by omega)]
  exact hR4 (by omega)
 rw [decide_eq_false (show ¬ (b.length < 2 + 1 ∧ 0 < 1) by omega), cond_false]
 refine (congrArg (fun o => Option.bind o _) (g1_ok (hB.drop 2) (by rw [List.length_drop]; omega))).trans ?_
 simp only [Option.bind_some]
 refine (stepN b hl 3 1 1 rfl _ _).trans ?_
 by_cases c3 : b.length < 3 + 1
 ·rw [decide_eq_true (show b.length < 3 + 1 ∧ 0 < 1 by omega)]
  exact hR4 (by omega)
 rw [decide_eq_false (show ¬ (b.length < 3 + 1 ∧ 0 < 1) by omega), cond_false]
 refine (congrArg (fun o => Option.bind o _) (g1_ok (hB.drop 3) (by rw [List.length_drop]; omega))).trans ?_
 simp only [Option.bind_some]
 refine (stepN b hl 4 4 4 rfl _ _).trans ?_
 by_cases c4 : b.length < 4 + 4
 ·rw [decide_eq_true (show b.length < 4 + 4 ∧ 0 < 4 by omega)]
  exact hR4 (by omega)
 rw [decide_eq_false (show ¬ (b.length < 4 + 4 ∧ 0 < 4) by omega), cond_false]
 refine (congrArg (fun o => Option.bind o _) (g4_ok (hB.drop 4) (by rw [List.length_drop]; omega))).trans ?_
 simp only [Option.bind_some]
 refine (stepN b hl 8 32 32 rfl _ _).trans ?_
 by_cases c8 : b.length < 8 + 32
 ·rw [decide_eq_true (show b.length < 8 + 32 ∧ 0 < 32 by omega)]
  exact hR4 (by omega)
 rw [decide_eq_false (show ¬ (b.length < 8 + 32 ∧ 0 < 32) by omega), cond_false]
 refine (congrArg (fun o => Option.bind o _) (arQ_ok 32 ((b.drop 8).take 32) (by rw [List.length_take, List.length_drop]; omega))).trans ?_
 simp only [Option.bind_some]
 refine (stepN b hl 40 32 32 rfl _ _).trans ?_
 by_cases c40 : b.length < 40 + 32
 ·rw [decide_eq_true (show b.length < 40 + 32 ∧ 0 < 32 by omega)]
  exact hR4 (by omega)
 rw [decide_eq_false (show ¬ (b.length < 40 + 32 ∧ 0 < 32) by omega), cond_false]
 refine (congrArg (fun o => Option.bind o _) (arQ_ok 32 ((b.drop 40).take 32) (by rw [List.length_take, List.length_drop]; omega))).trans ?_
 simp only [Option.bind_some]
 refine (stepN b hl 72 16 16 rfl _ _).trans ?_
 by_cases c72 : b.length < 72 + 16
 ·rw [decide_eq_true (show b.length < 72 + 16 ∧ 0 < 16 by omega)]
  exact hR4 (by omega)
 rw [decide_eq_false (show ¬ (b.length < 72 + 16 ∧ 0 < 16) by omega), cond_false]
 refine (congrArg (fun o => Option.bind o _) (arQ_ok 16 ((b.drop 72).take 16) (by rw [List.length_take, List.length_drop]; omega))).trans ?_
 simp only [Option.bind_some]
 refine (stepN b hl 88 4 4 rfl _ _).trans ?_
 by_cases c88 : b.length < 88 + 4
 ·rw [decide_eq_true (show b.length < 88 + 4 ∧ 0 < 4 by omega)]
  exact hR4 (by omega)
 rw [decide_eq_false (show ¬ (b.length < 88 + 4 ∧ 0 < 4) by omega), cond_false]
 refine (congrArg (fun o => Option.bind o _) (g4_ok (hB.drop 88) (by rw [List.length_drop]; omega))).trans ?_
 simp only [Option.bind_some]
 refine (stepN b hl 92 16 16 rfl _ _).trans ?_
 by_cases c92 : b.length < 92 + 16
 ·rw [decide_eq_true (show b.length < 92 + 16 ∧ 0 < 16 by omega)]
  exact hR4 (by omega)
 rw [decide_eq_false (show ¬ (b.length < 92 + 16 ∧ 0 < 16) by omega), cond_false]
 refine (congrArg (fun o => Option.bind o _) (arQ_ok 16 ((b.drop 92).take 16) (by rw [List.length_take, List.length_drop]; omega))).trans ?_
 simp only [Option.bind_some]
 refine (stepN b hl 108 4 4 rfl _ _).trans ?_
 by_cases c108 : b.length < 108 + 4
 ·rw [decide_eq_true (show b.length < 108 + 4 ∧ 0 < 4 by omega)]
  exact hR4 (by omega)
 rw [decide_eq_false (show ¬ (b.length < 108 + 4 ∧ 0 < 4) by omega), cond_false]
 refine (congrArg (fun o => Option.bind o _) (g4_ok (hB.drop 108) (by rw [List.length_drop]; omega))).trans ?_
 simp only [Option.bind_some]
 refine (stepN b hl 112 4 4 rfl _ _).trans ?_
 by_cases c112 : b.length < 112 + 4
 ·rw [decide_eq_true (show b.length < 112 + 4 ∧ 0 < 4 by omega)]
  exact hR4 (by omega)
 rw [decide_eq_false (show ¬ (b.length < 112 + 4 ∧ 0 < 4) by omega), cond_false]
 refine (congrArg (fun o => Option.bind o _) (g4_ok (hB.drop 112) (by rw [List.length_drop]; omega))).trans ?_
 simp only [Option.bind_some]
 have hRT := hRT (by omega) ck (by omega)
 refine Eq.trans ?_ hRT
 have z0 : ∀ n : Nat, n < 65536 → (decide ((0 : Int) ≤ IntKind.wrap .i64 (n : Int) ∧ IntKind.wrap .i64 (n : Int) ≤ IntKind.wrap .i64 (n : Int)) && roomB (Int.toNat (IntKind.wrap .i64 (n : Int))) 1) = true := fun n hn => by
  rw [w64b (by omega), Int.toNat_natCast, rb (by omega)]
  simp
 have z1 : ∀ n : Nat, n < 65536 → ∃ s, toBy (List.replicate (Int.toNat (IntKind.wrap .i64 (n : Int))) (0 : Int)) = some s := fun n hn => ⟨_, toBy_map fun x hx => by rw [List.eq_of_mem_replicate hx]; omega⟩
 refine (stepT (b.drop 116) (hB.drop 116) (by rw [List.length_drop]; omega) _ _ _ (fun n hn => by
  obtain ⟨s, hs⟩ := z1 n hn
  try dsimp only
  rw [z0 n hn, cond_true, hs]
  rfl)).trans ?_
 cases t1e : textAt (b.drop 116) with
 | none => rfl
 | some q1 =>
  obtain ⟨t1, r1⟩ := q1
  have s1 := textAt_some t1e (hB.drop 116)
  have lb : (b.drop 116).length ≤ 100000 := by rw [List.length_drop]; omega
  show _ = toR F many i acc (ev2 b t1 (textAt r1))
  simp only []
  rw [toBy_map s1.1, Option.bind_some]
  refine (stepT r1 s1.2.1 (by omega) _ _ _ (fun n hn => by
   obtain ⟨s, hs⟩ := z1 n hn
   try dsimp only
   rw [z0 n hn, cond_true, hs]
   rfl)).trans ?_
  cases t2e : textAt r1 with
  | none => rfl
  | some q2 =>
   obtain ⟨t2, r2⟩ := q2
   have s2 := textAt_some t2e s1.2.1
   show _ = toR F many i acc (ev3 b t1 t2 (textAt r2))
   simp only []
   rw [toBy_map s2.1, Option.bind_some]
   refine (stepT r2 s2.2.1 (by omega) _ _ _ (fun n hn => by
    try dsimp only
    rw [z0 n hn, cond_true])).trans ?_
   cases t3e : textAt r2 with
   | none => rfl
   | some q3 =>
    obtain ⟨t3, r3⟩ := q3
    show _ = toR F many i acc (okE (mkEv b t1 t2 t3) r3)
    simp only []
    have g : ∀ p, 0 ≤ (b.drop p).getD 0 0 ∧ (b.drop p).getD 0 0 < 4294967296 := fun p => by have := getDB (hB.drop p) 0; omega
    have q := fun p => nm4B (hB.drop p)
    rw [w64b (g 1), w64b (g 2), w64b (g 3), w64b (q 4), w64b (q 88), w64b (q 108), w64b (q 112), w32b (q 88), w32b (q 108), w32b (q 112)]
    rw [getDd b 1 0, getDd b 2 0, getDd b 3 0]
    refine (congrArg (fun o => Option.bind o _) (may_ok40 200000 (mkEv b t1 t2 t3))).trans ?_
    simp only [Option.bind_some]
    unfold okE
    by_cases hm : mayV (mkEv b t1 t2 t3) = 0
    ·simp only [hm, decide_true, Bool.not_true, cond_false, cond_true]
     refine (congrArg (fun o => cond o _ _) (rb208 (by simp only [List.length_cons, List.length_nil]; omega))).trans ?_
     rfl
    ·simp only [hm, decide_false, Bool.not_false, cond_true, cond_false]
     rfl
def goV : Nat → List Int → List EvT → List EvT × Int
 | 0, r, acc => bif decide (0 < r.length) then ([], 3) else (acc, 0)
 | n + 1, r, acc => match ev1 r with
  | .inl e => ([], e)
  | .inr (x, r') => goV n r' (acc ++ [x])
theorem by4_nm4 {l : List Int} (h : AllB l) (hl : 4 ≤ l.length) : by4 (nm4 l) = l.take 4 := by
 rw [take4 hl]
 have h0 := getDB h 0
 have h1 := getDB h 1
 have h2 := getDB h 2
 have h3 := getDB h 3
 unfold by4 nm4
 rw [show ((((l.getD 0 0 * 256 + l.getD 1 0) * 256 + l.getD 2 0) * 256 + l.getD 3 0) / 16777216 % 256) = l.getD 0 0 by omega, show ((((l.getD 0 0 * 256 + l.getD 1 0) * 256 + l.getD 2 0) * 256 + l.getD 3 0) / 65536 % 256) = l.getD 1 0 by omega, show ((((l.getD 0 0 * 256 + l.getD 1 0) * 256 + l.getD 2 0) * 256 + l.getD 3 0) / 256 % 256) = l.getD 2 0 by omega, show ((((l.getD 0 0 * 256 + l.getD 1 0) * 256 + l.getD 2 0) * 256 + l.getD 3 0) % 256) = l.getD 3 0 by omega]
theorem ofB_byte {l : List Int} (h : AllB l) : ofB (l.map byteOf) = l := by
 unfold ofB
 rw [List.map_map]
 conv => rhs; rw [← List.map_id l]
 refine List.map_congr_left fun x hx => ?_
 have := h x hx
 show (((UInt8.ofNat x.toNat).toNat : Nat) : Int) = x
 rw [UInt8.toNat_ofNat']
 omega
theorem arQ_l {n : Nat} {l : List Int} (h : l.length = n) : (arQ n l).l = l := by unfold arQ; rw [dif_pos h]
theorem ev1_some {b : List Int} (hB : AllB b) {x : EvT} {r : List Int} (h : ev1 b = .inr (x, r)) : AllB r ∧ r.length + 122 ≤ b.length ∧ EvW x ∧ mayV x = 0 ∧ evB x ++ r = b := by
 unfold ev1 at h
 by_cases h0 : b.length < 1
 ·rw [decide_eq_true h0] at h; cases h
 rw [decide_eq_false h0] at h
 cases ck : (decide (1 ≤ b.getD 0 0) && decide (b.getD 0 0 ≤ 12))
 ·rw [ck] at h; cases h
 rw [ck] at h
 by_cases h1 : b.length < 116
 ·rw [decide_eq_true h1] at h; cases h
 rw [decide_eq_false h1] at h
 simp only [cond_false, Bool.not_true] at h
 cases e1 : textAt (b.drop 116) with
 | none => rw [e1] at h; cases h
 | some q1 =>
  obtain ⟨t1, r1⟩ := q1
  have a1 := textAt_some e1 (hB.drop 116)
  rw [e1] at h
  replace h : ev2 b t1 (textAt r1) = .inr (x, r) := h
  cases e2 : textAt r1 with
  | none => rw [e2] at h; cases h
  | some q2 =>
   obtain ⟨t2, r2⟩ := q2
   have a2 := textAt_some e2 a1.2.1
   rw [e2] at h
   replace h : ev3 b t1 t2 (textAt r2) = .inr (x, r) := h
   cases e3 : textAt r2 with
   | none => rw [e3] at h; cases h
   | some q3 =>
    obtain ⟨t3, r3⟩ := q3
    have a3 := textAt_some e3 a2.2.1
    rw [e3] at h
    replace h : okE (mkEv b t1 t2 t3) r3 = .inr (x, r) := h
    unfold okE at h
    by_cases hm : mayV (mkEv b t1 t2 t3) = 0
    ·rw [decide_eq_true hm, cond_true] at h
     injection h with h
     injection h with hx hr
     subst hx hr
     have lb : (b.drop 116).length = b.length - 116 := List.length_drop
     have ld : ∀ p w, p + w ≤ b.length → ((b.drop p).take w).length = w := fun p w hp => by rw [List.length_take, List.length_drop]; omega
     have q := fun p => nm4B (hB.drop p)
     refine ⟨a3.2.1, by omega, ⟨arQ_B ?_, arQ_B ?_, arQ_B ?_, q 88, arQ_B ?_, q 108, q 112, a3.1⟩, hm, ?_⟩
     ·exact (hB.drop 8).take 32
     ·exact (hB.drop 40).take 32
     ·exact (hB.drop 72).take 16
     ·exact (hB.drop 92).take 16
     ·have n4 : ∀ p, p + 4 ≤ b.length → by4 (nm4 (b.drop p)) = (b.drop p).take 4 := fun p hp => by4_nm4 (hB.drop p) (by rw [List.length_drop]; omega)
      have f : ∀ p w, (b.drop p).take w ++ b.drop (p + w) = b.drop p := fun p w => by rw [← List.drop_drop]; exact List.take_append_drop _ _
      have t0 : [b.getD 0 0, b.getD 1 0, b.getD 2 0, b.getD 3 0] = b.take 4 := (take4 (by omega)).symm
      have E : evB (mkEv b t1 t2 t3) = b.take 4 ++ ((b.drop 4).take 4 ++ ((b.drop 8).take 32 ++ ((b.drop 40).take 32 ++ ((b.drop 72).take 16 ++ ((b.drop 88).take 4 ++ ((b.drop 92).take 16 ++ ((b.drop 108).take 4 ++ ((b.drop 112).take 4 ++ (txtL t1 ++ (txtL t2 ++ txtL t3)))))))))) := by
       unfold evB mkEv
       simp only []
       rw [t0, n4 4 (by omega), n4 88 (by omega), n4 108 (by omega), n4 112 (by omega), arQ_l (ld 8 32 (by omega)), arQ_l (ld 40 32 (by omega)), arQ_l (ld 72 16 (by omega)), arQ_l (ld 92 16 (by omega)), ofB_byte a1.1, ofB_byte a2.1]
      rw [E]
      simp only [List.append_assoc]
      have u3 : txtL t3 ++ r3 = r2 := a3.2.2.2.2.2.symm
      have u2 : txtL t2 ++ r2 = r1 := a2.2.2.2.2.2.symm
      have u1 : txtL t1 ++ r1 = b.drop 116 := a1.2.2.2.2.2.symm
      rw [u3, u2, u1, f 112 4, f 108 4, f 92 16, f 88 4, f 72 16, f 40 32, f 8 32, f 4 4, List.take_append_drop]
    ·rw [decide_eq_false hm] at h; cases h
theorem ev1_err {b : List Int} {e : Int} (h : ev1 b = .inl e) : e ≠ 0 := by
 unfold ev1 at h
 cases c1 : decide (b.length < 1) <;> rw [c1] at h
 ·cases c2 : (decide (1 ≤ b.getD 0 0) && decide (b.getD 0 0 ≤ 12)) <;> rw [c2] at h
  ·simp only [Bool.not_false, cond_true, cond_false] at h
   injection h with h; omega
  ·cases c3 : decide (b.length < 116) <;> rw [c3] at h
   ·simp only [Bool.not_true, cond_true, cond_false] at h
    cases e1 : textAt (b.drop 116) with
    | none => rw [e1] at h; replace h : (Sum.inl 4 : Int ⊕ (EvT × List Int)) = .inl e := h; injection h with h; omega
    | some q1 =>
     obtain ⟨t1, r1⟩ := q1
     rw [e1] at h
     replace h : ev2 b t1 (textAt r1) = .inl e := h
     cases e2 : textAt r1 with
     | none => rw [e2] at h; replace h : (Sum.inl 4 : Int ⊕ (EvT × List Int)) = .inl e := h; injection h with h; omega
     | some q2 =>
      obtain ⟨t2, r2⟩ := q2
      rw [e2] at h
      replace h : ev3 b t1 t2 (textAt r2) = .inl e := h
      cases e3 : textAt r2 with
      | none => rw [e3] at h; replace h : (Sum.inl 4 : Int ⊕ (EvT × List Int)) = .inl e := h; injection h with h; omega
      | some q3 =>
       obtain ⟨t3, r3⟩ := q3
       rw [e3] at h
       replace h : okE (mkEv b t1 t2 t3) r3 = .inl e := h
       unfold okE at h
       by_cases hm : mayV (mkEv b t1 t2 t3) = 0
       ·rw [decide_eq_true hm] at h; cases h
       ·rw [decide_eq_false hm] at h
        injection h with h
        omega
   ·simp only [Bool.not_true, cond_true, cond_false] at h
    injection h with h; omega
 ·simp only [cond_true] at h
  injection h with h; omega
noncomputable def parV (b : List Int) : List EvT × Int := bif decide (b.length < 12) then ([], 4) else bif !decide (b.take 2 = [69, 85]) then ([], 3) else bif !decide (seal8 (b.take (b.length - 8)) = b.drop (b.length - 8)) then ([], 14) else bif decide (2000 < nm2 (b.drop 2)) then ([], 5) else goV (nm2 (b.drop 2)).toNat ((b.take (b.length - 8)).drop 4) []
def finP (o : ((List EvT × (Int × Unit)) × Unit) ⊕ (Unit × ((List Int × Bool) × (List EvT × Unit)))) : List EvT × Int := Sum.elim (fun v => (v.1.1, v.1.2.1)) (fun v => bif decide (0 < v.2.1.1.length) then ([], 3) else (v.2.2.1, 0)) o
theorem par_loop (many : Nat) (hm : many ≤ 2000) : ∀ (n i : Nat) (r : List Int) (acc : List EvT) (k : Nat), i + n = many → n < k → AllB r → r.length ≤ 100000 → acc.length = i →
  ∃ o, gl (fun X c => script_Parse_L14 200000 X c.1.1 c.1.2.1 c.2.1 c.2.2.1) k (((many : Int), ((i : Int), ())), ((r, false), (acc, ()))) = some o ∧ finP o = goV n r acc
 | n, i, r, acc, 0, _, hk, _, _, _ => by simp at hk
 | 0, i, r, acc, k + 1, hi, _, _, _, _ => by
  have c : ¬ ((i : Int) < (many : Int)) := by omega
  rw [gl_succ]
  simp only [script_Parse_L14, c, decide_false, cond_false]
  exact ⟨_, rfl, rfl⟩
 | n + 1, i, r, acc, k + 1, hi, hk, hr, hl, ha => by
  have c2 : IntKind.wrap .i64 ((i : Int) + 1) = ((i + 1 : Nat) : Int) := by rw [wrap64 (by omega) (by omega)]; omega
  have s := l14_step (gl (fun X c => script_Parse_L14 200000 X c.1.1 c.1.2.1 c.2.1 c.2.2.1) k) (many : Int) (i : Int) r hr hl acc (by omega) (by omega)
  rw [gl_succ]
  refine (fun h => ?_ : (∃ o, toR (gl (fun X c => script_Parse_L14 200000 X c.1.1 c.1.2.1 c.2.1 c.2.2.1) k) (many : Int) (i : Int) acc (ev1 r) = some o ∧ finP o = goV (n + 1) r acc) → _) ?_
  ·obtain ⟨o, h1, h2⟩ := h
   exact ⟨o, s.trans h1, h2⟩
  unfold goV
  cases e : ev1 r with
  | inl e => exact ⟨_, rfl, rfl⟩
  | inr q =>
   obtain ⟨x, r'⟩ := q
   have hs := ev1_some hr e
   show ∃ o, gl _ k (((many : Int), (IntKind.wrap .i64 ((i : Int) + 1), ())), ((r', false), (acc ++ [x], ()))) = some o ∧ finP o = goV n r' (acc ++ [x])
   rw [c2]
   exact par_loop many hm n (i + 1) r' (acc ++ [x]) k (by omega) (by omega) hs.1 (by have := hs.2.1; omega) (by simp [ha])
theorem toI2 (b : List Int) (hB : AllB b) : toBy (b.take 2) = some ((b.take 2).map byteOf) := toBy_map (hB.take 2)
theorem dec2 (b : List Int) (hB : AllB b) : decide ((b.take 2).map byteOf = (Array.toList (List.toArray ([69, 85] : List UInt8)))) = decide (b.take 2 = [69, 85]) := by
 have : (Array.toList (List.toArray ([69, 85] : List UInt8))) = ([69, 85] : List Int).map byteOf := by decide
 rw [this]
 exact bytes_dec (hB.take 2) (AllB.cons (by omega) (AllB.cons (by omega) AllB.nil))
theorem Parse_ok (b : List Int) (hB : AllB b) (hl : b.length ≤ 90000) : script_Parse 200000 b = some (parV b) := by
 unfold script_Parse parV
 by_cases h0 : b.length < 12
 ·rw [decide_eq_true h0, decide_eq_true (show ((b.length : Nat) : Int) < 12 by omega)]
  rfl
 rw [decide_eq_false h0, decide_eq_false (show ¬ ((b.length : Nat) : Int) < 12 by omega), cond_false, cond_false]
 have k2 : takeI b (2 : Int) = some (b.take 2) := takeI_nat b rfl (by omega)
 rw [k2, Option.bind_some, toI2 b hB, Option.bind_some, dec2 b hB]
 cases decide (b.take 2 = [69, 85])
 ·rfl
 rw [Bool.not_true, cond_false, cond_false]
 have w8 : IntKind.wrap .i64 (((b.length : Nat) : Int) - 8) = ((b.length - 8 : Nat) : Int) := by rw [wrap64 (by omega) (by omega)]; omega
 have k8 : takeI b ((b.length - 8 : Nat) : Int) = some (b.take (b.length - 8)) := takeI_nat b rfl (by omega)
 have lb : (b.take (b.length - 8)).length = b.length - 8 := by rw [List.length_take]; omega
 rw [w8, k8, Option.bind_some, seal_ok _ (by omega) (hB.take _), Option.bind_some, lb]
 have k9 : dropI b ((b.length - 8 : Nat) : Int) = some (b.drop (b.length - 8)) := dropI_nat b rfl (by omega)
 rw [k9, Option.bind_some, osame _ _ (seal8_B _ (by omega) (hB.take _)) (hB.drop _) (by rw [seal8_len]; omega) (by rw [List.length_drop]; omega) (by omega), Option.bind_some]
 cases decide (seal8 (b.take (b.length - 8)) = b.drop (b.length - 8))
 ·rfl
 rw [Bool.not_true, cond_false, cond_false]
 have d2 : dropI (b.take (b.length - 8)) (2 : Int) = some ((b.take (b.length - 8)).drop 2) := dropI_nat _ rfl (by omega)
 have ld : ((b.take (b.length - 8)).drop 2).length = b.length - 10 := by rw [List.length_drop, lb]; omega
 rw [d2, Option.bind_some, decide_eq_false (show ¬ ((((b.take (b.length - 8)).drop 2).length : Nat) : Int) < 2 by omega), cond_false]
 have t2 : takeI ((b.take (b.length - 8)).drop 2) (2 : Int) = some (((b.take (b.length - 8)).drop 2).take 2) := takeI_nat _ rfl (by omega)
 have d4 : dropI ((b.take (b.length - 8)).drop 2) (2 : Int) = some ((b.take (b.length - 8)).drop 4) := (dropI_nat ((b.take (b.length - 8)).drop 2) (a := 2) (i := 2) rfl (by omega)).trans (by rw [List.drop_drop])
 have nn : nm2 ((b.take (b.length - 8)).drop 2) = nm2 (b.drop 2) := by
  have g : ∀ j, j < b.length - 8 → (b.take (b.length - 8)).getD j 0 = b.getD j 0 := fun j hj => by
   rw [getDl _ _ (by omega), getDl _ _ (by omega), List.getElem_take]
  unfold nm2
  rw [getDd, getDd, getDd, getDd, g _ (by omega), g _ (by omega)]
 have hn := nm2B (hB.drop 2)
 rw [t2, Option.bind_some, clone40 _ (by rw [List.length_take]; omega), Option.bind_some, d4, Option.bind_some, g2_ok ((hB.take _).drop 2) (by omega), Option.bind_some, nn]
 dsimp only
 rw [w64b (by omega)]
 by_cases hm : 2000 < nm2 (b.drop 2)
 ·rw [decide_eq_true hm]
  rfl
 rw [decide_eq_false hm, cond_false, cond_false]
 obtain ⟨m, hm'⟩ := Int.eq_ofNat_of_zero_le hn.1
 obtain ⟨o, ho, hf⟩ := par_loop m (by omega) m 0 ((b.take (b.length - 8)).drop 4) [] 200000 (by omega) (by omega) ((hB.take _).drop 4) (by rw [List.length_drop, lb]; omega) rfl
 rw [hm']
 refine (congrArg (fun o => Option.bind o _) ho).trans ?_
 rw [Int.toNat_natCast, ← hf]
 cases o with
 | inl v => rfl
 | inr v =>
  show (bif decide ((0 : Int) < ((v.2.1.1.length : Nat) : Int)) then _ else _) = some (bif decide (0 < v.2.1.1.length) then _ else _)
  by_cases hv : 0 < v.2.1.1.length
  ·rw [decide_eq_true hv, decide_eq_true (show (0 : Int) < ((v.2.1.1.length : Nat) : Int) by omega)]
   rfl
  ·rw [decide_eq_false hv, decide_eq_false (show ¬ (0 : Int) < ((v.2.1.1.length : Nat) : Int) by omega)]
   rfl
def Fine (n : Nat) (t : List UInt8) : Prop := t.length ≤ n ∧ ∀ b ∈ t, b ≠ 10
theorem Fine.app {n m : Nat} {s t : List UInt8} (h1 : Fine n s) (h2 : Fine m t) : Fine (n + m) (s ++ t) := ⟨by have := h1.1; have := h2.1; rw [List.length_append]; omega, fun b hb => by
 rcases List.mem_append.1 hb with hb | hb
 ·exact h1.2 b hb
 ·exact h2.2 b hb⟩
theorem maxLen_ge : (100000 : Nat) ≤ maxLen := by decide +kernel
theorem mx {n : Nat} (h : n ≤ 100000) : decide (n ≤ maxLen) = true := decide_eq_true (Nat.le_trans h maxLen_ge)
theorem small_len {x : EvT} (h : smallE x) : (evB x).length ≤ 2922 := by rw [evB_len]; have := h.1; have := h.2.1; have := h.2.2; omega
theorem lyE_evs_len : ∀ l : List EvT, (∀ x ∈ l, smallE x) → l.length ≤ 20 → (evs l).length ≤ 60000 := fun l h hl => by
 have := evs_len l fun x hx => small_len (h x hx)
 omega
theorem near_len (l : List EvT) (h : l.length ≤ 2100 ∧ (l.length ≤ 20 ∨ 2000 < l.length) ∧ ∀ x ∈ l, smallE x) : l.length ≤ 2000 → (evs l).length ≤ 80000 := fun h2 => by
 have := lyE_evs_len l h.2.2 (by omega)
 omega
end Go.Proofs.YtongdeioonikoaaDoor
namespace Go.Proofs.YtongdeioonikoaaDoor
set_option maxRecDepth 100000
open Go.RowKit
set_option linter.unusedVariables false
set_option maxRecDepth 100000
set_option linter.unusedSimpArgs false
theorem alive_ok : law40_alive 200000 = some true := by decide +kernel
abbrev EVD : Td := .pair (.int .i64) (.pair (.int .i64) (.pair (.int .i64) (.pair (.int .i64) (.pair (.int .i64) (.pair (.arr 32 (.int .u8)) (.pair .str (.pair .str (.pair (.pair (.arr 32 (.int .u8)) (.pair (.arr 16 (.int .u8)) (.int .u32))) (.pair (.arr 16 (.int .u8)) (.pair (.int .u32) (.pair (.int .u32) (.sl (.int .u8)))))))))))))
theorem evw_of {x : T EVD} (h : wfT EVD x) : EvW x := by
 obtain ⟨h1, h2, h3, h4, h5, h6, h7, h8, ⟨h9, h10, h11⟩, h12, h13, h14, h15⟩ := h
 have u32 : ∀ {n : Int}, (Lit.int .u32 n).wf = true → 0 ≤ n ∧ n < 4294967296 := fun {n} h => by
  simp only [Lit.wf, Bool.and_eq_true, decide_eq_true_eq, IntKind.min, IntKind.max, IntKind.signed, IntKind.bits] at h
  simp at h
  omega
 exact ⟨fun v hv => wf_u8 (h6 v hv), fun v hv => wf_u8 (h9 v hv), fun v hv => wf_u8 (h10 v hv), u32 h11, fun v hv => wf_u8 (h12 v hv), u32 h13, u32 h14, wf_bytes h15⟩
end Go.Proofs.YtongdeioonikoaaDoor
namespace Go.Proofs.YtongdeioonikoaaDoor
set_option maxRecDepth 100000
open Go.RowKit
set_option linter.unusedVariables false
set_option linter.unusedSimpArgs false
set_option maxRecDepth 100000
theorem goV_bad : ∀ (n : Nat) (r : List Int) (acc : List EvT), (goV n r acc).2 ≠ 0 → (goV n r acc).1 = []
 | 0, r, acc => by
  unfold goV
  cases decide (0 < r.length)
  ·intro h; exact absurd rfl h
  ·intro _; rfl
 | n + 1, r, acc => by
  unfold goV
  cases ev1 r with
  | inl q => intro _; rfl
  | inr q => exact goV_bad n q.2 (acc ++ [q.1])
theorem goV_zero : ∀ (n : Nat) (r : List Int) (acc : List EvT), AllB r → (goV n r acc).2 = 0 → ∃ l, (goV n r acc).1 = acc ++ l ∧ l.length = n ∧ evs l = r ∧ lyE l = 0 ∧ ∀ x ∈ l, EvW x
 | 0, r, acc, _ => by
  unfold goV
  by_cases h : 0 < r.length
  ·rw [decide_eq_true h]; intro h; cases h
  ·rw [decide_eq_false h]
   exact fun _ => ⟨[], by simp, rfl, (List.length_eq_zero_iff.1 (by omega)).symm, rfl, fun x hx => by simp at hx⟩
 | n + 1, r, acc, hr => by
  unfold goV
  cases e : ev1 r with
  | inl q => exact fun h => absurd h (ev1_err e)
  | inr q =>
   obtain ⟨x, r'⟩ := q
   obtain ⟨h1, h2, h3, h4, h5⟩ := ev1_some hr e
   intro h
   obtain ⟨l, k1, k2, k3, k4, k5⟩ := goV_zero n r' (acc ++ [x]) h1 h
   refine ⟨x :: l, ?_, by simp [k2], ?_, ?_, ?_⟩
   ·show (goV n r' (acc ++ [x])).1 = _
    rw [k1]; simp
   ·show evB x ++ evs l = r
    rw [k3]; exact h5
   ·simp only [lyE, h4, decide_true, cond_true]; exact k4
   ·intro y hy
    rcases List.mem_cons.1 hy with rfl | hy
    ·exact h3
    ·exact k5 y hy
theorem parV_bad (b : List Int) : (parV b).2 ≠ 0 → (parV b).1 = [] := by
 unfold parV
 cases decide (b.length < 12)
 ·cases decide (b.take 2 = [69, 85])
  ·intro _; rfl
  ·cases decide (seal8 (b.take (b.length - 8)) = b.drop (b.length - 8))
   ·intro _; rfl
   ·cases decide (2000 < nm2 (b.drop 2))
    ·exact goV_bad _ _ _
    ·intro _; rfl
 ·intro _; rfl
theorem parV_zero (b : List Int) (hB : AllB b) : (parV b).2 = 0 → ∃ l, (parV b).1 = l ∧ l.length ≤ 2000 ∧ lyE l = 0 ∧ (∀ x ∈ l, EvW x) ∧ laidB (l.length : Int) (evs l) = b ∧ (evs l).length ≤ b.length := by
 unfold parV
 by_cases h0 : b.length < 12
 ·rw [decide_eq_true h0]; intro h; cases h
 rw [decide_eq_false h0]
 by_cases h1 : b.take 2 = [69, 85]
 ·rw [decide_eq_true h1]
  by_cases h2 : seal8 (b.take (b.length - 8)) = b.drop (b.length - 8)
  ·rw [decide_eq_true h2]
   by_cases h3 : 2000 < nm2 (b.drop 2)
   ·rw [decide_eq_true h3]; intro h; cases h
   ·rw [decide_eq_false h3]
    simp only [cond_false, Bool.not_true]
    intro h
    obtain ⟨l, k1, k2, k3, k4, k5⟩ := goV_zero _ _ _ ((hB.take _).drop 4) h
    have hn := nm2B (hB.drop 2)
    have lb : (b.take (b.length - 8)).length = b.length - 8 := by rw [List.length_take]; omega
    refine ⟨l, by rw [k1]; rfl, by omega, k4, k5, ?_, by rw [k3, List.length_drop, lb]; omega⟩
    have e2 : by2 (l.length : Int) = (b.drop 2).take 2 := by
     rw [take2 (by rw [List.length_drop]; omega), k2]
     have g0 := getDB (hB.drop 2) 0
     have g1 := getDB (hB.drop 2) 1
     unfold by2
     rw [Int.toNat_of_nonneg hn.1]
     unfold nm2
     rw [show ((b.drop 2).getD 0 0 * 256 + (b.drop 2).getD 1 0) / 256 % 256 = (b.drop 2).getD 0 0 by omega, show ((b.drop 2).getD 0 0 * 256 + (b.drop 2).getD 1 0) % 256 = (b.drop 2).getD 1 0 by omega]
    have eb : [69, 85] ++ by2 (l.length : Int) ++ evs l = b.take (b.length - 8) := by
     rw [e2, k3, ← h1]
     have f1 : b.take 2 ++ (b.drop 2).take 2 = b.take 4 := by rw [List.take_add (i := 2) (j := 2)]
     rw [f1]
     have f2 : b.take 4 = (b.take (b.length - 8)).take 4 := by rw [List.take_take, show min 4 (b.length - 8) = 4 by omega]
     rw [f2, List.take_append_drop]
    unfold laidB
    rw [eb, h2, List.take_append_drop]
  ·rw [decide_eq_false h2]; intro h; cases h
 ·rw [decide_eq_false h1]; intro h; cases h
theorem nm4_by4 {n : Int} (h : 0 ≤ n ∧ n < 4294967296) (R : List Int) : nm4 (by4 n ++ R) = n := by
 show ((n / 16777216 % 256 * 256 + n / 65536 % 256) * 256 + n / 256 % 256) * 256 + n % 256 = n
 omega
theorem textAt_lay (t R : List Int) (h : t.length < 65536) : textAt (txtL t ++ R) = some (t, R) := by
 have hl : (txtL t ++ R).length = t.length + 2 + R.length := by rw [List.length_append, txtL_len]
 have hn : nm2 (txtL t ++ R) = (t.length : Int) := by
  show (t.length : Int) / 256 % 256 * 256 + (t.length : Int) % 256 = _
  omega
 have hd : (txtL t ++ R).drop 2 = t ++ R := rfl
 unfold textAt
 rw [hn, hd, if_neg (by omega), if_neg (by omega), Int.toNat_natCast, List.take_left' rfl, ← List.drop_drop, hd, List.drop_left' rfl]
theorem byte_ofB (s : List UInt8) : (ofB s).map byteOf = s := by
 unfold ofB
 rw [List.map_map]
 conv => rhs; rw [← List.map_id s]
 refine List.map_congr_left fun x hx => ?_
 show UInt8.ofNat (Int.toNat ((x.toNat : Nat) : Int)) = x
 simp
theorem arQ_of {n : Nat} (a : Arr Int n) (R : List Int) : arQ n ((a.l ++ R).take n) = a := by
 rw [List.take_left' a.h]
 exact Arr.eq (arQ_l a.h)
theorem ev1_lay (x : EvT) (hw : EvW x) (hm : mayV x = 0) (r : List Int) : ev1 (evB x ++ r) = .inr (x, r) := by
 obtain ⟨hk, hc, ho, hy, hn, h1, h2, h3⟩ := may_zero hm
 have hl : (evB x ++ r).length = (evB x).length + r.length := List.length_append
 have hl2 := evB_len x
 generalize hb : evB x ++ r = b at *
 have e0 : b = [x.1, x.2.1, x.2.2.1, x.2.2.2.1] ++ (by4 x.2.2.2.2.1 ++ (x.2.2.2.2.2.1.l ++ (x.2.2.2.2.2.2.2.2.1.1.l ++ (x.2.2.2.2.2.2.2.2.1.2.1.l ++ (by4 x.2.2.2.2.2.2.2.2.1.2.2 ++ (x.2.2.2.2.2.2.2.2.2.1.l ++ (by4 x.2.2.2.2.2.2.2.2.2.2.1 ++ (by4 x.2.2.2.2.2.2.2.2.2.2.2.1 ++ (txtL (ofB x.2.2.2.2.2.2.1) ++ (txtL (ofB x.2.2.2.2.2.2.2.1) ++ (txtL x.2.2.2.2.2.2.2.2.2.2.2.2 ++ r))))))))))) := by
  rw [← hb]
  simp only [evB, List.append_assoc]
 have d4 : b.drop 4 = (by4 x.2.2.2.2.1 ++ (x.2.2.2.2.2.1.l ++ (x.2.2.2.2.2.2.2.2.1.1.l ++ (x.2.2.2.2.2.2.2.2.1.2.1.l ++ (by4 x.2.2.2.2.2.2.2.2.1.2.2 ++ (x.2.2.2.2.2.2.2.2.2.1.l ++ (by4 x.2.2.2.2.2.2.2.2.2.2.1 ++ (by4 x.2.2.2.2.2.2.2.2.2.2.2.1 ++ (txtL (ofB x.2.2.2.2.2.2.1) ++ (txtL (ofB x.2.2.2.2.2.2.2.1) ++ (txtL x.2.2.2.2.2.2.2.2.2.2.2.2 ++ r))))))))))) := by rw [e0]; rfl
 have d8 : b.drop 8 = (x.2.2.2.2.2.1.l ++ (x.2.2.2.2.2.2.2.2.1.1.l ++ (x.2.2.2.2.2.2.2.2.1.2.1.l ++ (by4 x.2.2.2.2.2.2.2.2.1.2.2 ++ (x.2.2.2.2.2.2.2.2.2.1.l ++ (by4 x.2.2.2.2.2.2.2.2.2.2.1 ++ (by4 x.2.2.2.2.2.2.2.2.2.2.2.1 ++ (txtL (ofB x.2.2.2.2.2.2.1) ++ (txtL (ofB x.2.2.2.2.2.2.2.1) ++ (txtL x.2.2.2.2.2.2.2.2.2.2.2.2 ++ r)))))))))) := by
  rw [show (8 : Nat) = 4 + 4 from rfl, ← List.drop_drop, d4]; exact List.drop_left' rfl
 have d40 : b.drop 40 = (x.2.2.2.2.2.2.2.2.1.1.l ++ (x.2.2.2.2.2.2.2.2.1.2.1.l ++ (by4 x.2.2.2.2.2.2.2.2.1.2.2 ++ (x.2.2.2.2.2.2.2.2.2.1.l ++ (by4 x.2.2.2.2.2.2.2.2.2.2.1 ++ (by4 x.2.2.2.2.2.2.2.2.2.2.2.1 ++ (txtL (ofB x.2.2.2.2.2.2.1) ++ (txtL (ofB x.2.2.2.2.2.2.2.1) ++ (txtL x.2.2.2.2.2.2.2.2.2.2.2.2 ++ r))))))))) := by
  rw [show (40 : Nat) = 8 + 32 from rfl, ← List.drop_drop, d8]; exact List.drop_left' x.2.2.2.2.2.1.h
 have d72 : b.drop 72 = (x.2.2.2.2.2.2.2.2.1.2.1.l ++ (by4 x.2.2.2.2.2.2.2.2.1.2.2 ++ (x.2.2.2.2.2.2.2.2.2.1.l ++ (by4 x.2.2.2.2.2.2.2.2.2.2.1 ++ (by4 x.2.2.2.2.2.2.2.2.2.2.2.1 ++ (txtL (ofB x.2.2.2.2.2.2.1) ++ (txtL (ofB x.2.2.2.2.2.2.2.1) ++ (txtL x.2.2.2.2.2.2.2.2.2.2.2.2 ++ r)))))))) := by
  rw [show (72 : Nat) = 40 + 32 from rfl, ← List.drop_drop, d40]; exact List.drop_left' x.2.2.2.2.2.2.2.2.1.1.h
 have d88 : b.drop 88 = (by4 x.2.2.2.2.2.2.2.2.1.2.2 ++ (x.2.2.2.2.2.2.2.2.2.1.l ++ (by4 x.2.2.2.2.2.2.2.2.2.2.1 ++ (by4 x.2.2.2.2.2.2.2.2.2.2.2.1 ++ (txtL (ofB x.2.2.2.2.2.2.1) ++ (txtL (ofB x.2.2.2.2.2.2.2.1) ++ (txtL x.2.2.2.2.2.2.2.2.2.2.2.2 ++ r))))))) := by
  rw [show (88 : Nat) = 72 + 16 from rfl, ← List.drop_drop, d72]; exact List.drop_left' x.2.2.2.2.2.2.2.2.1.2.1.h
 have d92 : b.drop 92 = (x.2.2.2.2.2.2.2.2.2.1.l ++ (by4 x.2.2.2.2.2.2.2.2.2.2.1 ++ (by4 x.2.2.2.2.2.2.2.2.2.2.2.1 ++ (txtL (ofB x.2.2.2.2.2.2.1) ++ (txtL (ofB x.2.2.2.2.2.2.2.1) ++ (txtL x.2.2.2.2.2.2.2.2.2.2.2.2 ++ r)))))) := by
  rw [show (92 : Nat) = 88 + 4 from rfl, ← List.drop_drop, d88]; exact List.drop_left' rfl
 have d108 : b.drop 108 = (by4 x.2.2.2.2.2.2.2.2.2.2.1 ++ (by4 x.2.2.2.2.2.2.2.2.2.2.2.1 ++ (txtL (ofB x.2.2.2.2.2.2.1) ++ (txtL (ofB x.2.2.2.2.2.2.2.1) ++ (txtL x.2.2.2.2.2.2.2.2.2.2.2.2 ++ r))))) := by
  rw [show (108 : Nat) = 92 + 16 from rfl, ← List.drop_drop, d92]; exact List.drop_left' x.2.2.2.2.2.2.2.2.2.1.h
 have d112 : b.drop 112 = (by4 x.2.2.2.2.2.2.2.2.2.2.2.1 ++ (txtL (ofB x.2.2.2.2.2.2.1) ++ (txtL (ofB x.2.2.2.2.2.2.2.1) ++ (txtL x.2.2.2.2.2.2.2.2.2.2.2.2 ++ r)))) := by
  rw [show (112 : Nat) = 108 + 4 from rfl, ← List.drop_drop, d108]; exact List.drop_left' rfl
 have d116 : b.drop 116 = (txtL (ofB x.2.2.2.2.2.2.1) ++ (txtL (ofB x.2.2.2.2.2.2.2.1) ++ (txtL x.2.2.2.2.2.2.2.2.2.2.2.2 ++ r))) := by
  rw [show (116 : Nat) = 112 + 4 from rfl, ← List.drop_drop, d112]; exact List.drop_left' rfl
 have b0 : b.getD 0 0 = x.1 := by rw [e0]; rfl
 have b1 : b.getD 1 0 = x.2.1 := by rw [e0]; rfl
 have b2 : b.getD 2 0 = x.2.2.1 := by rw [e0]; rfl
 have b3 : b.getD 3 0 = x.2.2.2.1 := by rw [e0]; rfl
 have mk : mkEv b (ofB x.2.2.2.2.2.2.1) (ofB x.2.2.2.2.2.2.2.1) x.2.2.2.2.2.2.2.2.2.2.2.2 = x := by
  unfold mkEv
  rw [b0, b1, b2, b3, d4, d8, d40, d72, d88, d92, d108, d112, nm4_by4 ⟨hn.1, by omega⟩, nm4_by4 hw.magic, nm4_by4 hw.magic2, nm4_by4 hw.addr, arQ_of, arQ_of, arQ_of, arQ_of, byte_ofB, byte_ofB]
 unfold ev1
 rw [decide_eq_false (show ¬ b.length < 1 by omega), b0, decide_eq_true hk.1, decide_eq_true hk.2, decide_eq_false (show ¬ b.length < 116 by omega), d116]
 show ev1t b (textAt _) = _
 rw [textAt_lay _ _ (by rw [ofB_len]; omega)]
 show ev2 b _ (textAt _) = _
 rw [textAt_lay _ _ (by rw [ofB_len]; omega)]
 show ev3 b _ _ (textAt _) = _
 rw [textAt_lay _ _ (by omega)]
 show okE _ _ = _
 rw [mk]
 unfold okE
 rw [decide_eq_true hm]
 rfl
theorem goV_lay : ∀ (l : List EvT) (acc : List EvT), (∀ x ∈ l, EvW x) → lyE l = 0 → goV l.length (evs l) acc = (acc ++ l, 0)
 | [], acc, _, _ => by simp [goV, evs]
 | x :: l, acc, hw, h => by
  by_cases hm : mayV x = 0
  ·simp only [lyE, hm, decide_true, cond_true] at h
   show (match ev1 (evB x ++ evs l) with
    | .inl e => (([], e) : List EvT × Int)
    | .inr (x, r') => goV l.length r' (acc ++ [x])) = _
   rw [ev1_lay x (hw x (by simp)) hm]
   show goV l.length (evs l) (acc ++ [x]) = _
   rw [goV_lay l _ (fun y hy => hw y (by simp [hy])) h]
   simp
  ·simp only [lyE, hm, decide_false, cond_false] at h
theorem parV_lay (l : List EvT) (hw : ∀ x ∈ l, EvW x) (h : lyE l = 0) (hl : l.length ≤ 2000) : parV (laidB (l.length : Int) (evs l)) = (l, 0) := by
 have hlen := laidB_len (l.length : Int) (evs l)
 have hh := head_len (l.length : Int) (evs l)
 have s8 := seal8_len ([69, 85] ++ by2 (l.length : Int) ++ evs l)
 have tk : (laidB (l.length : Int) (evs l)).take ((laidB (l.length : Int) (evs l)).length - 8) = [69, 85] ++ by2 (l.length : Int) ++ evs l := by
  unfold laidB at hlen ⊢
  exact List.take_left' (by omega)
 have dp : (laidB (l.length : Int) (evs l)).drop ((laidB (l.length : Int) (evs l)).length - 8) = seal8 ([69, 85] ++ by2 (l.length : Int) ++ evs l) := by
  unfold laidB at hlen ⊢
  exact List.drop_left' (by omega)
 have t2 : (laidB (l.length : Int) (evs l)).take 2 = [69, 85] := rfl
 have n2 : nm2 ((laidB (l.length : Int) (evs l)).drop 2) = (l.length : Int) := by
  show (l.length : Int) / 256 % 256 * 256 + (l.length : Int) % 256 = _
  omega
 unfold parV
 rw [decide_eq_false (show ¬ (laidB (l.length : Int) (evs l)).length < 12 by omega), t2, tk, dp, n2, decide_eq_true rfl, decide_eq_true rfl, decide_eq_false (show ¬ (2000 : Int) < (l.length : Int) by omega), Int.toNat_natCast]
 show goV l.length (evs l) [] = (l, 0)
 rw [goV_lay l [] hw h]
 rfl
theorem back2 (b : List Int) (hB : AllB b) (hl : b.length ≤ 3000) :
  (Option.bind (script_Parse 200000 b) fun v7 => bif (!(decide (v7.2 = (0 : Int)))) then (bif (decide ((((List.length v7.1) : Nat) : Int) = (0 : Int))) then (Option.bind (@law40_alive 200000) fun (v8 : Bool) => some (cond true v8 false)) else some false)
   else Option.bind (script_Lay 200000 v7.1) fun v8 => bif (decide (v8.2 = (0 : Int))) then (Option.bind (ref01_Same 200000 v8.1 b) fun v9 => bif (cond true v9 false) then (Option.bind (@law40_alive 200000) fun (v10 : Bool) => some (cond true v10 false)) else some false) else some false) = some true := by
 rw [Parse_ok b hB (by omega), Option.bind_some, alive_ok]
 by_cases h : (parV b).2 = 0
 ·obtain ⟨l, h1, h2, h3, h4, h5, h6⟩ := parV_zero b hB h
  rw [h1, h, Lay_ok l h4 (fun _ => by omega), Option.bind_some]
  have hv : lyV l = (b, 0) := by
   unfold lyV
   rw [decide_eq_false (show ¬ 2000 < l.length by omega), decide_eq_true h3, h5]
   rfl
  rw [hv]
  simp only [Option.bind_some]
  rw [rsame40 b b (by omega)]
  simp
 ·rw [parV_bad b h, decide_eq_false h]
  rfl
theorem law_ScriptBack (l : List EvT) (b : List Int) (hw : ∀ x ∈ l, EvW x) (hB : AllB b) : law40_ScriptBack 200000 l b = some true := by
 unfold law40_ScriptBack
 obtain ⟨v, hv, hf⟩ := far_ok l
 rw [hv, Option.bind_some]
 cases v
 ·have hn := hf rfl
  have hb := near_len l hn
  rw [cond_false, Option.bind_some]
  by_cases h : (3000 : Int) < ((List.length b : Nat) : Int)
  ·rw [decide_eq_true h, alive_ok]
   rfl
  ·have hbl : b.length ≤ 3000 := by omega
   have B2 := back2 b hB hbl
   rw [decide_eq_false h, all_ok l (by omega), Option.bind_some, Lay_ok l hw hb, Option.bind_some]
   by_cases he : (lyV l).2 = 0
   ·have hl : l.length ≤ 2000 := by
     unfold lyV at he
     by_cases h2 : 2000 < l.length
     ·rw [decide_eq_true h2] at he; cases he
     ·omega
    have hly : lyE l = 0 := by
     unfold lyV at he
     rw [decide_eq_false (show ¬ 2000 < l.length by omega)] at he
     by_cases h2 : lyE l = 0
     ·exact h2
     ·rw [decide_eq_false h2] at he; exact absurd he h2
    have hv : lyV l = (laidB (l.length : Int) (evs l), 0) := by
     unfold lyV
     rw [decide_eq_false (show ¬ 2000 < l.length by omega), decide_eq_true hly]
     rfl
    have hbl2 := hb hl
    have hLB : AllB (laidB (l.length : Int) (evs l)) := AllB.append (head_B _ (evs_B l hw hly)) (seal8_B _ (by rw [head_len]; omega) (head_B _ (evs_B l hw hly)))
    rw [hv]
    simp only [decide_true, cond_true, cond_false]
    rw [Parse_ok _ hLB (by rw [laidB_len]; omega), Option.bind_some, parV_lay l hw hly hl, same_ok l hw (by omega), Option.bind_some]
    exact B2
   ·rw [decide_eq_false he]
    exact B2
 ·rw [cond_true, alive_ok]
  rfl
theorem lw_ScriptBack (l : T (.sl EVD)) (b : T (.sl (.int .u8))) (w0 : wfT (.sl EVD) l) (w1 : wfT (.sl (.int .u8)) b) : law40_ScriptBack 200000 l b = some true :=
 law_ScriptBack l b (fun z hz => evw_of (w0.2 z hz)) (wf_bytes w1)
end Go.Proofs.YtongdeioonikoaaDoor
