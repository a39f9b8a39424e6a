/-
  Parts of my own, one behind the other: QMS4, QMS5, QMP0, QMP1.
-/
import Derived.Test.YtdkklfegpjlklaaDoorMrg6
/-
  Layer 5, on plain data: digests.
-/
namespace Go.Proofs.YtdkklfegpjlklaaDoor.Sh
set_option maxRecDepth 100000
open Go.RowKit
set_option linter.unusedVariables false
set_option linter.unusedSimpArgs false
set_option maxRecDepth 100000

/-- The state behind so many blocks of bytes. -/
noncomputable def runS (t : Arr Int 5) (l : List Int) : Nat → Arr Int 5
  | 0 => t
  | m + 1 => runS ((do let a ← toArr 64 (l.take 64); sha1_behind 200000 t a ks05).getD t) (l.drop 64) m
theorem flat_len (m : List (List Int)) (k : Nat) (h : ∀ p ∈ m, p.length ≤ k) : m.flatten.length ≤ k * m.length := by
  induction m with
  | nil => simp
  | cons p m ih =>
    have h1 := h p List.mem_cons_self
    have h2 := ih fun q hq => h q (List.mem_cons_of_mem _ hq)
    rw [List.flatten_cons, List.length_append, List.length_cons, Nat.mul_add]
    omega
section
variable {N : Nat}
theorem joinS (l : List (List Int)) (h0 : Arr Int 20) (hl : l.length ≤ 1000) (hs : ∀ p ∈ l, p.length ≤ 100000) (hN : 2000 ≤ N) :
    sha1_Of_1_octs_Join_L3_R N ((l, ((0 : Int), (l, ((l.length : Int), ((0 : Int), ()))))), (h0, ())) = some ((l, ((l.flatten.length : Int), ())), (h0, ())) ∧
    sha1_Of_1_octs_Join_L9_R N ((l, ((l.length : Int), ((0 : Int), ()))), (h0, (([] : List Int), ()))) = some ((), (h0, (l.flatten, ()))) := by
  have tk : ∀ i, (l.take i).flatten.length ≤ 100000000 := fun i => by
    have := flat_len (l.take i) 100000 fun p hp => hs p (List.mem_of_mem_take hp)
    rw [List.length_take] at this
    omega
  have hsn : ∀ i (hi : i < l.length), (l.take (i + 1)).flatten = (l.take i).flatten ++ l[i] := fun i hi => by
    have : l.take (i + 1) = l.take i ++ [l[i]] := by rw [List.take_add_one, List.getElem?_eq_getElem hi]; rfl
    rw [this, List.flatten_append]
    simp
  have h1 := gl_run (G := fun (X : ((List (List Int) × Int × List (List Int) × Int × Int × Unit) × Arr Int 20 × Unit) → Option ((List (List Int) × Int × Unit) × Arr Int 20 × Unit)) c => sha1_Of_1_octs_Join_L3 N X c.1.1 c.1.2.1 c.1.2.2.1 c.1.2.2.2.1 c.1.2.2.2.2.1 c.2.1)
    (fun i => ((l, (((l.take i).flatten.length : Int), (l, ((l.length : Int), ((i : Int), ()))))), (h0, ()))) l.length ((l, ((l.flatten.length : Int), ())), (h0, ())) (fun X i hi => by
    have c1 : ((i : Int) < (l.length : Int)) := by omega
    have c2 : Go.IntKind.wrap .i64 ((i : Int) + 1) = ((i + 1 : Nat) : Int) := by rw [wrap64 (by omega) (by omega)]; omega
    have hp := hs _ (List.getElem_mem hi)
    have ht := tk i
    have c3 : Go.IntKind.wrap .i64 (((l.take i).flatten.length : Int) + (l[i].length : Int)) = (((l.take (i + 1)).flatten.length : Nat) : Int) := by rw [wrap64 (by omega) (by omega), hsn i hi, List.length_append]; omega
    simp only [sha1_Of_1_octs_Join_L3, c1, decide_true, cond_true, getI_lt l i hi, Option.bind_some, c3, c2]) (fun X => by
    simp [sha1_Of_1_octs_Join_L3]) N 0 (by omega) (by omega)
  have h2 := gl_run (G := fun (X : ((List (List Int) × Int × Int × Unit) × Arr Int 20 × List Int × Unit) → Option (Unit × Arr Int 20 × List Int × Unit)) c => sha1_Of_1_octs_Join_L9 N X c.1.1 c.1.2.1 c.1.2.2.1 c.2.1 c.2.2.1)
    (fun i => ((l, ((l.length : Int), ((i : Int), ()))), (h0, ((l.take i).flatten, ())))) l.length ((), (h0, (l.flatten, ()))) (fun X i hi => by
    have c1 : ((i : Int) < (l.length : Int)) := by omega
    have c2 : Go.IntKind.wrap .i64 ((i : Int) + 1) = ((i + 1 : Nat) : Int) := by rw [wrap64 (by omega) (by omega)]; omega
    have hp := hs _ (List.getElem_mem hi)
    have ht := tk i
    have c3 : roomB ((l.take i).flatten.length + l[i].length) 1 = true := roomB_of (by have := big_len; omega) (by omega)
    simp only [sha1_Of_1_octs_Join_L9, c1, decide_true, cond_true, getI_lt l i hi, Option.bind_some, c3, c2, hsn i hi]) (fun X => by
    simp [sha1_Of_1_octs_Join_L9]) N 0 (by omega) (by omega)
  simp only [Int.natCast_zero, List.take_zero, List.flatten_nil, List.length_nil] at h1 h2
  exact ⟨h1, h2⟩
/-- The digest of a state. -/
theorem put4' (n : Int) (h : 0 ≤ n ∧ n < 4294967296) (hN : 100 ≤ N) : octs_Put N (Go.IntKind.wrap .u64 n) 4 false = some ([n / 16777216 % 256, n / 65536 % 256, n / 256 % 256, n % 256], 0) := by
  rw [wrapU64 (by omega) (by omega)]
  exact put4 n (by omega) hN
def by4 (n : Int) : List Int := [n / 16777216 % 256, n / 65536 % 256, n / 256 % 256, n % 256]
theorem by4_B (n : Int) : AllB (by4 n) := fun x hx => by
  simp only [by4, List.mem_cons, List.not_mem_nil, or_false] at hx
  rcases hx with rfl | rfl | rfl | rfl <;> omega
theorem digest_ok (a b c d e : Int) (ht : ([a, b, c, d, e] : List Int).length = 5) (ha : AllW [a, b, c, d, e]) (hN : 10000 ≤ N) : ∃ D : Arr Int 20, D.l = by4 a ++ by4 b ++ by4 c ++ by4 d ++ by4 e ∧ sha1_digest N ⟨[a, b, c, d, e], ht⟩ = some D := by
  obtain ⟨M, rfl⟩ : ∃ M, N = M + 6 := ⟨N - 6, by omega⟩
  have pa := put4' (N := M + 6) a (ha a (by simp)) (by omega)
  have pb := put4' (N := M + 6) b (ha b (by simp)) (by omega)
  have pc := put4' (N := M + 6) c (ha c (by simp)) (by omega)
  have pd := put4' (N := M + 6) d (ha d (by simp)) (by omega)
  have pe := put4' (N := M + 6) e (ha e (by simp)) (by omega)
  have w3 : Go.IntKind.wrap .i64 ((0 : Int) + 1) = 1 := by decide
  have w4 : Go.IntKind.wrap .i64 ((1 : Int) + 1) = 2 := by decide
  have w5 : Go.IntKind.wrap .i64 ((2 : Int) + 1) = 3 := by decide
  have w6 : Go.IntKind.wrap .i64 ((3 : Int) + 1) = 4 := by decide
  have w7 : Go.IntKind.wrap .i64 ((4 : Int) + 1) = 5 := by decide
  have z0 : getI ([a, b, c, d, e] : List Int) 0 = some a := rfl
  have z1 : getI ([a, b, c, d, e] : List Int) 1 = some b := rfl
  have z2 : getI ([a, b, c, d, e] : List Int) 2 = some c := rfl
  have z3 : getI ([a, b, c, d, e] : List Int) 3 = some d := rfl
  have z4 : getI ([a, b, c, d, e] : List Int) 4 = some e := rfl
  have l0 : (decide ((0 : Int) < 5)) = true := rfl
  have l1 : (decide ((1 : Int) < 5)) = true := rfl
  have l2 : (decide ((2 : Int) < 5)) = true := rfl
  have l3 : (decide ((3 : Int) < 5)) = true := rfl
  have l4 : (decide ((4 : Int) < 5)) = true := rfl
  have l5 : (decide ((5 : Int) < 5)) = false := rfl
  have rm : ∀ (p : List Int) (u v x y : Int), p.length < 100 → roomB (p.length + ([u, v, x, y] : List Int).length) 1 = true := fun p u v x y hp => roomB_of (by have := big_len; simp; omega) (by simp; omega)
  have step : ∀ (K : Nat) (i j : Int) (n : Int) (p : List Int) (h0 : Arr Int 20), decide (i < 5) = true → getI ([a, b, c, d, e] : List Int) i = some n → octs_Put (M + 6) (Go.IntKind.wrap .u64 n) 4 false = some (by4 n, 0) → Go.IntKind.wrap .i64 (i + 1) = j → p.length < 100 →
      gl (fun X c => sha1_digest_L3 (M + 6) X c.1.1 c.1.2.1 c.2.1 c.2.2.1) (K + 1) (((⟨[a, b, c, d, e], ht⟩ : Arr Int 5), (i, ())), (h0, (p, ()))) = gl (fun X c => sha1_digest_L3 (M + 6) X c.1.1 c.1.2.1 c.2.1 c.2.2.1) K (((⟨[a, b, c, d, e], ht⟩ : Arr Int 5), (j, ())), (h0, (p ++ by4 n, ()))) := fun K i j n p h0 q1 q2 q3 q4 q5 => by
    rw [gl_succ]
    have r := rm p (n / 16777216 % 256) (n / 65536 % 256) (n / 256 % 256) (n % 256) q5
    have r : roomB (p.length + (by4 n).length) 1 = true := r
    simp only [sha1_digest_L3, q1, cond_true, q2, Option.bind_some, q3, r, q4]
  have fin : ∀ (K : Nat) (p : List Int) (h0 : Arr Int 20), gl (fun X c => sha1_digest_L3 (M + 6) X c.1.1 c.1.2.1 c.2.1 c.2.2.1) (K + 1) (((⟨[a, b, c, d, e], ht⟩ : Arr Int 5), ((5 : Int), ())), (h0, (p, ()))) = some ((), (h0, (p, ()))) := fun K p h0 => by
    rw [gl_succ]; rfl
  have all : ∀ h0 : Arr Int 20, sha1_digest_L3_R (M + 6) (((⟨[a, b, c, d, e], ht⟩ : Arr Int 5), ((0 : Int), ())), (h0, (([] : List Int), ()))) = some ((), (h0, (by4 a ++ by4 b ++ by4 c ++ by4 d ++ by4 e, ()))) := fun h0 => by
    refine (step (M + 5) 0 1 a [] h0 l0 z0 pa w3 (by simp)).trans ?_
    refine (step (M + 4) 1 2 b _ h0 l1 z1 pb w4 (by simp [by4])).trans ?_
    refine (step (M + 3) 2 3 c _ h0 l2 z2 pc w5 (by simp [by4])).trans ?_
    refine (step (M + 2) 3 4 d _ h0 l3 z3 pd w6 (by simp [by4])).trans ?_
    refine (step (M + 1) 4 5 e _ h0 l4 z4 pe w7 (by simp [by4])).trans ?_
    exact fin M _ h0
  have hl : (by4 a ++ by4 b ++ by4 c ++ by4 d ++ by4 e).length = 20 := by simp [by4]
  unfold sha1_digest
  rw [all, Option.bind_some]
  refine ⟨⟨(by4 a ++ by4 b ++ by4 c ++ by4 d ++ by4 e).take 20, by rw [List.length_take, hl]; rfl⟩, ?_, ?_⟩
  · exact List.take_of_length_le (by omega)
  · have : toArr 20 (by4 a ++ by4 b ++ by4 c ++ by4 d ++ by4 e) = some ⟨(by4 a ++ by4 b ++ by4 c ++ by4 d ++ by4 e).take 20, by rw [List.length_take, hl]; rfl⟩ := dif_pos (by omega)
    simp only [this, Option.bind_some]
end
end Go.Proofs.YtdkklfegpjlklaaDoor.Sh
/-
  Layer 5, on plain data: digests, and parts.
-/
namespace Go.Proofs.YtdkklfegpjlklaaDoor.Sh
set_option maxRecDepth 100000
open Go.RowKit
set_option linter.unusedVariables false
set_option linter.unusedSimpArgs false
set_option maxRecDepth 100000

theorem Arr.eq {α : Type} {n : Nat} {a b : Arr α n} (h : a.l = b.l) : a = b := by
  cases a; cases b; simp only at h; subst h; rfl
noncomputable def stepB (N : Nat) (t : Arr Int 5) (l : List Int) : Option (Arr Int 5) := (toArr 64 l).bind fun a => sha1_behind N t a ks05
noncomputable def runB (N : Nat) : Nat → Arr Int 5 → List Int → Option (Arr Int 5)
  | 0, t, _ => some t
  | m + 1, t, l => (stepB N t (l.take 64)).bind fun t' => runB N m t' (l.drop 64)
theorem toArr64 (l : List Int) (h : 64 ≤ l.length) : ∃ a : Arr Int 64, a.l = l.take 64 ∧ toArr 64 (l.take 64) = some a := by
  have h1 : 64 ≤ (l.take 64).length := by rw [List.length_take]; omega
  refine ⟨⟨(l.take 64).take 64, by rw [List.length_take]; omega⟩, ?_, dif_pos h1⟩
  exact List.take_of_length_le (by rw [List.length_take]; omega)
section
variable {N : Nat}
theorem runB_some (hN : 10000 ≤ N) : ∀ (m : Nat) (t : Arr Int 5) (l : List Int), AllW t.l → AllB l → l.length = 64 * m → ∃ t', AllW t'.l ∧ runB N m t l = some t'
  | 0, t, l, ht, _, _ => ⟨t, ht, rfl⟩
  | m + 1, t, l, ht, hl, hm => by
    obtain ⟨a, a1, a2⟩ := toArr64 l (by omega)
    obtain ⟨t1, h1, h2, _⟩ := behind_pair (N := N) hN t a ht (by rw [a1]; exact hl.take 64)
    obtain ⟨t', h3, h4⟩ := runB_some hN m t1 (l.drop 64) h1 (hl.drop 64) (by rw [List.length_drop]; omega)
    refine ⟨t', h3, ?_⟩
    unfold runB stepB
    rw [a2, Option.bind_some, h2, Option.bind_some, h4]
/-- All blocks, one behind the other. -/
theorem loopOf (hN : 10000 ≤ N) (all : List Int) (ha : all.length < 100000) (h0 : Arr Int 20) : ∀ (m M i : Nat) (t t' : Arr Int 5), m < M → all.length = i + 64 * m → runB N m t (all.drop i) = some t' →
    gl (fun X c => sha1_Of_L5 N X c.1.1 c.1.2.1 c.2.1 c.2.2.1 c.2.2.2.1) M ((all, ((i : Int), ())), (h0, (t, (ks05, ())))) = some ((), (h0, (t', ())))
  | 0, M + 1, i, t, t', hM, hi, hr => by
    have c1 : ¬ ((i : Int) < (all.length : Int)) := by omega
    have hr : some t = some t' := hr
    injection hr with hr
    subst hr
    rw [gl_succ]
    simp only [sha1_Of_L5, c1, decide_false, cond_false]
  | m + 1, M + 1, i, t, t', hM, hi, hr => by
    have c1 : ((i : Int) < (all.length : Int)) := by omega
    have e0 : Go.IntKind.wrap .i64 ((i : Int) + 64) = ((i + 64 : Nat) : Int) := by rw [wrap64 (by omega) (by omega)]; omega
    have s1 : subI all (i : Int) ((i + 64 : Nat) : Int) = some ((all.drop i).take 64) := by
      rw [subI_nat all rfl rfl (by omega) (by omega)]; congr 2; omega
    unfold runB stepB at hr
    cases hb : toArr 64 ((all.drop i).take 64) with
    | none => rw [hb] at hr; cases hr
    | some a =>
      rw [hb, Option.bind_some] at hr
      cases hc : sha1_behind N t a ks05 with
      | none => rw [hc] at hr; cases hr
      | some t1 =>
        rw [hc, Option.bind_some, List.drop_drop] at hr
        have ih := loopOf hN all ha h0 m M (i + 64) t1 t' (by omega) (by omega) (by rw [show i + 64 = i + 64 from rfl]; exact hr)
        rw [gl_succ]
        simp only [sha1_Of_L5, c1, decide_true, cond_true, e0, s1, Option.bind_some, hb, hc]
        exact ih
theorem fillOf (hN : 10000 ≤ N) (all : List Int) (ha : all.length < 100000) (h0 : Arr Int 20) (t : Arr Int 5) (x : Nat) (hx : x + 64 ≤ all.length) : ∀ (k M i : Nat) (blk : Arr Int 64), k + i = 64 → k < M →
    ∃ b2 : Arr Int 64, b2.l = blk.l.take i ++ (all.drop (x + i)).take k ∧ gl (fun X c => ref05_Of_L8 N X c.1.1 c.1.2.1 c.2.1 c.2.2.1 c.2.2.2.1 c.2.2.2.2.1) M (((x : Int), ((i : Int), ())), (h0, (all, (t, (blk, ()))))) = some (((x : Int), ()), (h0, (all, (t, (b2, ())))))
  | 0, M + 1, i, blk, hk, hM => by
    have c1 : ¬ ((i : Int) < 64) := by omega
    refine ⟨blk, ?_, ?_⟩
    · rw [List.take_of_length_le (by rw [blk.h]; omega), List.take_zero, List.append_nil]
    · rw [gl_succ]
      simp only [ref05_Of_L8, c1, decide_false, cond_false]
  | k + 1, M + 1, i, blk, hk, hM => by
    have hbl := blk.h
    have c1 : ((i : Int) < 64) := by omega
    have e0 : Go.IntKind.wrap .i64 ((i : Int) + 1) = ((i + 1 : Nat) : Int) := by rw [wrap64 (by omega) (by omega)]; omega
    have e2 : Go.IntKind.wrap .i64 ((x : Int) + (i : Int)) = ((x + i : Nat) : Int) := by rw [wrap64 (by omega) (by omega)]; omega
    have c2 : (0 : Int) ≤ ((x + i : Nat) : Int) ∧ ((x + i : Nat) : Int) < (all.length : Int) := by omega
    have c3 : (0 : Int) ≤ (i : Int) ∧ (i : Int) < ((64 : Nat) : Int) := by omega
    have e1 : Int.toNat (i : Int) = i := Int.toNat_natCast i
    have e3 : Int.toNat ((x + i : Nat) : Int) = x + i := Int.toNat_natCast _
    have g1 : all[x + i]? = some (all[x + i]'(by omega)) := List.getElem?_eq_getElem _
    have g2 : blk.l[i]? = some (blk.l[i]'(by omega)) := List.getElem?_eq_getElem _
    obtain ⟨b2, h1, h2⟩ := fillOf hN all ha h0 t x hx k M (i + 1) (blk.set i (all[x + i]'(by omega))) (by omega) (by omega)
    refine ⟨b2, ?_, ?_⟩
    · rw [h1]
      have q1 : (blk.set i (all[x + i]'(by omega))).l.take (i + 1) = blk.l.take i ++ [all[x + i]'(by omega)] := by
        show (blk.l.set i _).take (i + 1) = _
        rw [List.take_add_one, List.take_set_of_le (Nat.le_refl _), List.getElem?_set_self (by omega)]
        rfl
      rw [q1, List.append_assoc]
      congr 1
      rw [List.drop_eq_getElem_cons (show x + i < all.length by omega), List.take_succ_cons]
      rfl
    · rw [gl_succ]
      simp only [ref05_Of_L8, c1, decide_true, cond_true, e2, c2, and_self, e3, g1, Option.bind_some, c3, e1, g2, e0]
      exact h2
theorem loopRef (hN : 10000 ≤ N) (all : List Int) (ha : all.length < 100000) (hB : AllB all) (h0 : Arr Int 20) : ∀ (m M i : Nat) (t t' : Arr Int 5), m < M → all.length = i + 64 * m → AllW t.l → runB N m t (all.drop i) = some t' →
    gl (fun X c => ref05_Of_L4 N X c.1.1 c.2.1 c.2.2.1 c.2.2.2.1) M (((i : Int), ()), (h0, (all, (t, ())))) = some ((), (h0, (t', ())))
  | 0, M + 1, i, t, t', hM, hi, hw, hr => by
    have c1 : ¬ ((i : Int) < (all.length : Int)) := by omega
    have hr : some t = some t' := hr
    injection hr with hr
    subst hr
    rw [gl_succ]
    simp only [ref05_Of_L4, c1, decide_false, cond_false]
  | m + 1, M + 1, i, t, t', hM, hi, hw, hr => by
    have c1 : ((i : Int) < (all.length : Int)) := by omega
    have e0 : Go.IntKind.wrap .i64 ((i : Int) + 64) = ((i + 64 : Nat) : Int) := by rw [wrap64 (by omega) (by omega)]; omega
    obtain ⟨b2, f1, f2⟩ := fillOf (N := N) hN all ha h0 t i (by omega) 64 N 0 ⟨List.replicate 64 0, rfl⟩ (by omega) (by omega)
    have f2' : ref05_Of_L8_R N (((i : Int), ((0 : Int), ())), (h0, (all, (t, ((⟨List.replicate 64 0, rfl⟩ : Arr Int 64), ()))))) = some (((i : Int), ()), (h0, (all, (t, (b2, ()))))) := f2
    have f1' : b2.l = (all.drop i).take 64 := by rw [f1]; simp
    obtain ⟨a, a1, a2⟩ := toArr64 (all.drop i) (by rw [List.length_drop]; omega)
    have hab : a = b2 := Arr.eq (by rw [a1, f1'])
    subst hab
    obtain ⟨t1, h1, h2, h3⟩ := behind_pair (N := N) hN t a hw (by rw [a1]; exact (hB.drop i).take 64)
    unfold runB stepB at hr
    rw [a2, Option.bind_some, h2, Option.bind_some, List.drop_drop] at hr
    have ih := loopRef hN all ha hB h0 m M (i + 64) t1 t' (by omega) (by omega) h1 hr
    rw [gl_succ]
    simp only [ref05_Of_L4, c1, decide_true, cond_true]
    refine (congrArg (fun o => Option.bind o _) f2').trans ?_
    simp only [Option.bind_some, h3, e0]
    exact ih
def dg5 (a b c d e : Int) : List Int := by4 a ++ by4 b ++ by4 c ++ by4 d ++ by4 e
theorem dg5_B (a b c d e : Int) : AllB (dg5 a b c d e) := AllB.append (AllB.append (AllB.append (AllB.append (by4_B a) (by4_B b)) (by4_B c)) (by4_B d)) (by4_B e)
theorem dg5_at (a b c d e : Int) (i : Nat) (hi : i < 20) (v : Int) (hv : ([a, b, c, d, e] : List Int)[i / 4]? = some v) : (dg5 a b c d e)[i]? = some (Go.IntKind.wrap .u8 (Int.fdiv v (2 ^ (24 - 8 * (i % 4))))) := by
  have fd : ∀ k : Nat, Int.fdiv v (2 ^ k) = v / 2 ^ k := fun k => Int.fdiv_eq_ediv_of_nonneg _ (Int.le_of_lt (Int.pow_pos (by decide)))
  rw [fd, IntKind.wrap_u8]
  have : i = 0 ∨ i = 1 ∨ i = 2 ∨ i = 3 ∨ i = 4 ∨ i = 5 ∨ i = 6 ∨ i = 7 ∨ i = 8 ∨ i = 9 ∨ i = 10 ∨ i = 11 ∨ i = 12 ∨ i = 13 ∨ i = 14 ∨ i = 15 ∨ i = 16 ∨ i = 17 ∨ i = 18 ∨ i = 19 := by omega
  rcases this with rfl | rfl | rfl | rfl | rfl | rfl | rfl | rfl | rfl | rfl | rfl | rfl | rfl | rfl | rfl | rfl | rfl | rfl | rfl | rfl <;> simp at hv <;> subst hv <;> simp [dg5, by4]
theorem outRef (hN : 10000 ≤ N) (a b c d e : Int) (ht : ([a, b, c, d, e] : List Int).length = 5) (h0 : Arr Int 20) : ∀ (k M i : Nat) (o : Arr Int 20), k + i = 20 → k < M →
    ∃ D : Arr Int 20, D.l = o.l.take i ++ (dg5 a b c d e).drop i ∧ gl (fun X c => ref05_Of_L14 N X c.1.1 c.2.1 c.2.2.1 c.2.2.2.1) M (((i : Int), ()), (h0, ((⟨[a, b, c, d, e], ht⟩ : Arr Int 5), (o, ())))) = some ((), (h0, (D, ())))
  | 0, M + 1, i, o, hk, hM => by
    have c1 : ¬ ((i : Int) < 20) := by omega
    have hol := o.h
    refine ⟨o, ?_, ?_⟩
    · rw [List.take_of_length_le (by omega), List.drop_eq_nil_of_le (by simp [dg5, by4]; omega), List.append_nil]
    · rw [gl_succ]
      simp only [ref05_Of_L14, c1, decide_false, cond_false]
  | k + 1, M + 1, i, o, hk, hM => by
    have hol := o.h
    have c1 : ((i : Int) < 20) := by omega
    have e0 : Go.IntKind.wrap .i64 ((i : Int) + 1) = ((i + 1 : Nat) : Int) := by rw [wrap64 (by omega) (by omega)]; omega
    have f1 : Go.IntKind.wrap .i64 (Int.tdiv (i : Int) 4) = ((i / 4 : Nat) : Int) := by
      rw [Int.tdiv_eq_ediv_of_nonneg (by omega), wrap64 (by omega) (by omega)]; omega
    have f0 : Go.IntKind.wrap .i64 ((8 : Int) * Int.tmod (i : Int) 4) = ((8 * (i % 4) : Nat) : Int) := by
      rw [Int.tmod_eq_emod_of_nonneg (by omega), wrap64 (by omega) (by omega)]; omega
    have f2 : Go.IntKind.wrap .i64 ((24 : Int) - ((8 * (i % 4) : Nat) : Int)) = ((24 - 8 * (i % 4) : Nat) : Int) := by
      rw [wrap64 (by omega) (by omega)]; omega
    have c2 : (0 : Int) ≤ ((i / 4 : Nat) : Int) ∧ ((i / 4 : Nat) : Int) < ((5 : Nat) : Int) := by omega
    have c3 : (0 : Int) ≤ ((24 - 8 * (i % 4) : Nat) : Int) := by omega
    have c4 : (0 : Int) ≤ (i : Int) ∧ (i : Int) < ((20 : Nat) : Int) := by omega
    have e1 : Int.toNat (i : Int) = i := Int.toNat_natCast i
    have e2 : Int.toNat ((i / 4 : Nat) : Int) = i / 4 := Int.toNat_natCast _
    have e3 : min (Int.toNat ((24 - 8 * (i % 4) : Nat) : Int)) (IntKind.bits .u32) = 24 - 8 * (i % 4) := by
      rw [Int.toNat_natCast]; show min _ 32 = _; omega
    have g1 : ([a, b, c, d, e] : List Int)[i / 4]? = some (([a, b, c, d, e] : List Int)[i / 4]'(by simp; omega)) := List.getElem?_eq_getElem _
    have g2 : o.l[i]? = some (o.l[i]'(by omega)) := List.getElem?_eq_getElem _
    have hd := dg5_at a b c d e i (by omega) _ g1
    generalize ([a, b, c, d, e] : List Int)[i / 4]'(by simp; omega) = v at *
    obtain ⟨D, h1, h2⟩ := outRef hN a b c d e ht h0 k M (i + 1) (o.set i (Go.IntKind.wrap .u8 (Int.fdiv v (2 ^ (24 - 8 * (i % 4)))))) (by omega) (by omega)
    refine ⟨D, ?_, ?_⟩
    · rw [h1]
      have q1 : (o.set i (Go.IntKind.wrap .u8 (Int.fdiv v (2 ^ (24 - 8 * (i % 4)))))).l.take (i + 1) = o.l.take i ++ [Go.IntKind.wrap .u8 (Int.fdiv v (2 ^ (24 - 8 * (i % 4))))] := by
        show (o.l.set i _).take (i + 1) = _
        rw [List.take_add_one, List.take_set_of_le (Nat.le_refl _), List.getElem?_set_self (by omega)]
        rfl
      rw [q1, List.append_assoc]
      congr 1
      obtain ⟨hlt, hv⟩ := List.getElem?_eq_some_iff.1 hd
      rw [List.drop_eq_getElem_cons hlt, hv]
      rfl
    · rw [gl_succ]
      simp only [ref05_Of_L14, c1, decide_true, cond_true, f1, c2, and_self, e2, g1, Option.bind_some, f0, f2, c3, c4, e1, g2, e0, e3]
      exact h2
end
def first05 : Arr Int 5 := Arr.cons 1732584193 (Arr.cons 4023233417 (Arr.cons 2562383102 (Arr.cons 271733878 (Arr.cons 3285377520 Arr.nil))))
theorem first_W : AllW first05.l := fun x hx => by
  simp only [first05, Arr.cons, Arr.nil, List.mem_cons, List.not_mem_nil, or_false] at hx
  rcases hx with rfl | rfl | rfl | rfl | rfl <;> omega
/-- So many blocks. -/
def nb (n : Nat) : Nat := (n + (tail5 (n : Int)).length) / 64
theorem nb_ok (n : Nat) (l : List Int) (h : l.length = n) : (l ++ tail5 (n : Int)).length = 64 * nb n := by
  unfold nb
  rw [List.length_append, tail5_len, h]
  unfold nz
  omega
/-- The digest of parts. -/
theorem of_ok (l : List (List Int)) (hl : l.length ≤ 1000) (hs : ∀ p ∈ l, p.length ≤ 5000 ∧ AllB p) (hf : l.flatten.length ≤ 5000) :
    ∃ a b c d e ht, ∃ D : Arr Int 20, runB 200000 (nb l.flatten.length) first05 (l.flatten ++ tail5 (l.flatten.length : Int)) = some ⟨[a, b, c, d, e], ht⟩ ∧ AllW [a, b, c, d, e] ∧ D.l = dg5 a b c d e ∧ sha1_Of 200000 l = some D := by
  have hB : AllB l.flatten := fun x hx => by
    obtain ⟨p, hp, hx⟩ := List.mem_flatten.1 hx
    exact (hs p hp).2 x hx
  have hall : AllB (l.flatten ++ tail5 (l.flatten.length : Int)) := hB.append (tail5_B _)
  have hlen := nb_ok l.flatten.length l.flatten rfl
  have htl := tail5_len (l.flatten.length : Int)
  have hnz := nz_lt (l.flatten.length : Int)
  obtain ⟨t', t1, t2⟩ := runB_some (N := 200000) (by omega) (nb l.flatten.length) first05 _ first_W hall hlen
  match t', t1, t2 with
  | ⟨[a, b, c, d, e], ht⟩, t1, t2 =>
    obtain ⟨D, d1, d2⟩ := digest_ok (N := 200000) a b c d e ht t1 (by omega)
    refine ⟨a, b, c, d, e, ht, D, t2, t1, d1, ?_⟩
    have hj : ∀ h0, _ := fun h0 => joinS (N := 200000) l h0 hl (fun p hp => by have := (hs p hp).1; omega) (by omega)
    have hwn : Go.IntKind.wrap .u64 (l.flatten.length : Int) = (l.flatten.length : Int) := wrapU64 (by omega) (by omega)
    have htail := sha1_tail_ok (N := 200000) (l.flatten.length : Int) (by omega) (by omega)
    have c4 : (decide ((0 : Int) ≤ (0 : Int) ∧ (0 : Int) ≤ (l.flatten.length : Int)) && roomB (Int.toNat (l.flatten.length : Int)) 1) = true := by
      rw [Bool.and_eq_true]
      exact ⟨decide_eq_true ⟨by omega, by omega⟩, roomB_of (by have := big_len; omega) (by omega)⟩
    have c5 : roomB (l.flatten.length + (tail5 (l.flatten.length : Int)).length) 1 = true := roomB_of (by have := big_len; omega) (by omega)
    have hloop : ∀ h0, sha1_Of_L5_R 200000 (((l.flatten ++ tail5 (l.flatten.length : Int)), ((0 : Int), ())), (h0, (first05, (ks05, ())))) = some ((), (h0, ((⟨[a, b, c, d, e], ht⟩ : Arr Int 5), ()))) := fun h0 =>
      loopOf (N := 200000) (by omega) _ (by rw [List.length_append]; omega) h0 (nb l.flatten.length) 200000 0 first05 _ (by rw [List.length_append] at hlen; omega) (by rw [hlen]; omega) t2
    have e0 : List.replicate (Int.toNat 0) (0 : Int) = [] := rfl
    unfold sha1_Of
    rw [(hj _).1, Option.bind_some]
    simp only [c4, cond_true, e0]
    rw [(hj _).2, Option.bind_some]
    simp only [hwn]
    rw [htail, Option.bind_some]
    simp only [c5, cond_true, consts05, Option.bind_some]
    refine (congrArg (fun o => Option.bind o _) (hloop _)).trans ?_
    simp only [Option.bind_some, d2]
theorem refOf_ok (b : List Int) (hb : AllB b) (hl : b.length ≤ 1000) {a c d e f : Int} {ht : ([a, c, d, e, f] : List Int).length = 5} (hr : runB 200000 (nb b.length) first05 (b ++ tail5 (b.length : Int)) = some ⟨[a, c, d, e, f], ht⟩) :
    ∃ D : Arr Int 20, D.l = dg5 a c d e f ∧ ref05_Of 200000 b = some D := by
  have htl := tail5_len (b.length : Int)
  have hnz := nz_lt (b.length : Int)
  have hlen := nb_ok b.length b rfl
  have hwn : Go.IntKind.wrap .u64 (b.length : Int) = (b.length : Int) := wrapU64 (by omega) (by omega)
  have htail := ref05_tail_ok (N := 200000) (b.length : Int) (by omega) (by omega)
  have c0 : roomB b.length 1 = true := roomB_of (by have := big_len; omega) (by omega)
  have c5 : roomB (b.length + (tail5 (b.length : Int)).length) 1 = true := roomB_of (by have := big_len; omega) (by omega)
  obtain ⟨D, d1, d2⟩ := outRef (N := 200000) (by omega) a c d e f ht ⟨List.replicate 20 0, rfl⟩ 20 200000 0 ⟨List.replicate 20 0, rfl⟩ (by omega) (by omega)
  have hloop : ref05_Of_L4_R 200000 (((0 : Int), ()), ((⟨List.replicate 20 0, rfl⟩ : Arr Int 20), ((b ++ tail5 (b.length : Int)), (first05, ())))) = some ((), ((⟨List.replicate 20 0, rfl⟩ : Arr Int 20), ((⟨[a, c, d, e, f], ht⟩ : Arr Int 5), ()))) :=
    loopRef (N := 200000) (by omega) _ (by rw [List.length_append]; omega) (hb.append (tail5_B _)) _ (nb b.length) 200000 0 first05 _ (by rw [List.length_append] at hlen; omega) (by rw [hlen]; omega) first_W hr
  have hout : ref05_Of_L14_R 200000 (((0 : Int), ()), ((⟨List.replicate 20 0, rfl⟩ : Arr Int 20), ((⟨[a, c, d, e, f], ht⟩ : Arr Int 5), ((⟨List.replicate 20 0, rfl⟩ : Arr Int 20), ())))) = some ((), ((⟨List.replicate 20 0, rfl⟩ : Arr Int 20), (D, ()))) := d2
  refine ⟨D, by simpa using d1, ?_⟩
  unfold ref05_Of
  simp only [c0, cond_true, hwn, htail, Option.bind_some, c5]
  refine (congrArg (fun o => Option.bind o _) hloop).trans ?_
  simp only [Option.bind_some]
  refine (congrArg (fun o => Option.bind o _) hout).trans ?_
  rfl
theorem wfB_b {n : Nat} (a : Arr Int n) (h : AllB a.l) : wfB (.arr n (.int .u8)) a = true := List.all_eq_true.2 fun x hx => by
  have h1 := h x hx
  show (Lit.int .u8 x).wf = true
  simp only [Lit.wf, Bool.and_eq_true, decide_eq_true_eq, IntKind.min, IntKind.max, IntKind.signed, IntKind.bits]
  simp
  omega
end Go.Proofs.YtdkklfegpjlklaaDoor.Sh
/-
  Layer 12, on plain data: digests, by the program and by the document.
-/
namespace Go.Proofs.YtdkklfegpjlklaaDoor
set_option maxRecDepth 100000
open Go.RowKit
set_option linter.unusedVariables false
set_option linter.unusedSimpArgs false
set_option maxRecDepth 100000

theorem flat_B {l : List (List Int)} (h : ∀ p ∈ l, AllB p) : AllB l.flatten := fun x hx => by
  obtain ⟨p, hp, hx⟩ := List.mem_flatten.1 hx
  exact h p hp x hx
theorem part_len {l : List (List Int)} {n : Nat} (hf : l.flatten.length ≤ n) : ∀ p ∈ l, p.length ≤ n := fun p hp => by
  have := (List.sublist_flatten_of_mem hp).length_le
  omega
theorem md4_pair (l : List (List Int)) (hl : l.length ≤ 1000) (hs : ∀ p ∈ l, AllB p) (hf : l.flatten.length ≤ 1000) : ∃ D : Arr Int 16, AllB D.l ∧ md4_Of 200000 l = some D ∧ ref04_Of 200000 l.flatten = some D := by
  obtain ⟨a, b, c, d, ht, D, r1, r2, r3, r4⟩ := of_ok l hl (fun p hp => ⟨by have := part_len hf p hp; omega, hs p hp⟩) (by omega)
  obtain ⟨D', q1, q2⟩ := refOf_ok l.flatten (flat_B hs) hf r1
  have hD : D' = D := Arr.eq (by rw [q1, r3])
  subst hD
  exact ⟨D', by rw [q1]; exact dg4_B _ _ _ _, r4, q2⟩
theorem sha1_pair (l : List (List Int)) (hl : l.length ≤ 1000) (hs : ∀ p ∈ l, AllB p) (hf : l.flatten.length ≤ 1000) : ∃ D : Arr Int 20, AllB D.l ∧ sha1_Of 200000 l = some D ∧ ref05_Of 200000 l.flatten = some D := by
  obtain ⟨a, b, c, d, e, ht, D, r1, r2, r3, r4⟩ := Sh.of_ok l hl (fun p hp => ⟨by have := part_len hf p hp; omega, hs p hp⟩) (by omega)
  obtain ⟨D', q1, q2⟩ := Sh.refOf_ok l.flatten (flat_B hs) hf r1
  have hD : D' = D := Arr.eq (by rw [q1, r3])
  subst hD
  exact ⟨D', by rw [q1]; exact Sh.dg5_B _ _ _ _ _, r4, q2⟩
theorem alive12 : law12_alive 200000 = some true := by decide +kernel
end Go.Proofs.YtdkklfegpjlklaaDoor
/-
  Layer 12, on plain data: masters, keys, upper keys; the laws.
-/
namespace Go.Proofs.YtdkklfegpjlklaaDoor
set_option maxRecDepth 100000
open Go.RowKit
set_option linter.unusedVariables false
set_option linter.unusedSimpArgs false
set_option maxRecDepth 100000

def sUp : List UInt8 := [79, 110, 32, 116, 104, 101, 32, 99, 108, 105, 101, 110, 116, 32, 115, 105, 100, 101, 44, 32, 116, 104, 105, 115, 32, 105, 115, 32, 116, 104, 101, 32, 115, 101, 110, 100, 32, 107, 101, 121, 59, 32, 111, 110, 32, 116, 104, 101, 32, 115, 101, 114, 118, 101, 114, 32, 115, 105, 100, 101, 44, 32, 105, 116, 32, 105, 115, 32, 116, 104, 101, 32, 114, 101, 99, 101, 105, 118, 101, 32, 107, 101, 121, 46]
def sDown : List UInt8 := [79, 110, 32, 116, 104, 101, 32, 99, 108, 105, 101, 110, 116, 32, 115, 105, 100, 101, 44, 32, 116, 104, 105, 115, 32, 105, 115, 32, 116, 104, 101, 32, 114, 101, 99, 101, 105, 118, 101, 32, 107, 101, 121, 59, 32, 111, 110, 32, 116, 104, 101, 32, 115, 101, 114, 118, 101, 114, 32, 115, 105, 100, 101, 44, 32, 105, 116, 32, 105, 115, 32, 116, 104, 101, 32, 115, 101, 110, 100, 32, 107, 101, 121, 46]
def sMast : List UInt8 := [84, 104, 105, 115, 32, 105, 115, 32, 116, 104, 101, 32, 77, 80, 80, 69, 32, 77, 97, 115, 116, 101, 114, 32, 75, 101, 121]
theorem ofB_B (l : List UInt8) : AllB (ofB l) := fun x hx => by
  unfold ofB at hx
  obtain ⟨b, _, rfl⟩ := List.mem_map.1 hx
  have := UInt8.toNat_lt b
  omega
theorem rep_B (n : Nat) (x : Int) (h : 0 ≤ x ∧ x < 256) : AllB (List.replicate n x) := fun y hy => by rw [(List.mem_replicate.1 hy).2]; exact h
theorem toArrN (n : Nat) (l : List Int) (h : l.length = n) : toArr n l = some ⟨l, h⟩ := by
  subst h
  unfold toArr
  rw [dif_pos (Nat.le_refl _)]
  congr 1
  exact Arr.ext' (List.take_of_length_le (Nat.le_refl _))
def pre16 (D : Arr Int 20) : Arr Int 16 := ⟨D.l.take 16, by rw [List.length_take, D.h]; rfl⟩
theorem pre16_B {D : Arr Int 20} (h : AllB D.l) : AllB (pre16 D).l := h.take 16
theorem pre16_ok (D : Arr Int 20) : takeI D.l 16 = some (pre16 D).l ∧ toArr 16 (pre16 D).l = some (pre16 D) :=
  ⟨takeI_nat D.l (i := 16) rfl (by rw [D.h]; decide), toArrN 16 _ (pre16 D).h⟩
section
variable {N : Nat}
/-! ### The first of a digest -/
theorem firstRef (D : Arr Int 20) (h0 : Arr Int 16) : ∀ (k M i : Nat) (o : Arr Int 16), k + i = 16 → k < M →
    ∃ K : Arr Int 16, K.l = o.l.take i ++ (D.l.take 16).drop i ∧ gl (fun X c => ref12_first_L4 N X c.1.1 c.2.1 c.2.2.1 c.2.2.2.1) M (((i : Int), ()), (h0, (D, (o, ())))) = some ((), (h0, (K, ())))
  | 0, M + 1, i, o, hk, hM => by
    have c1 : ¬ ((i : Int) < 16) := by omega
    have hol := o.h
    refine ⟨o, ?_, ?_⟩
    · rw [List.take_of_length_le (by omega), List.drop_eq_nil_of_le (by rw [List.length_take]; omega), List.append_nil]
    · rw [gl_succ]
      simp only [ref12_first_L4, c1, decide_false, cond_false]
  | k + 1, M + 1, i, o, hk, hM => by
    have hol := o.h
    have hDl := D.h
    have c1 : ((i : Int) < 16) := by omega
    have e0 : Go.IntKind.wrap .i64 ((i : Int) + 1) = ((i + 1 : Nat) : Int) := by rw [wrap64 (by omega) (by omega)]; omega
    have c2 : (0 : Int) ≤ (i : Int) ∧ (i : Int) < ((20 : Nat) : Int) := by omega
    have c3 : (0 : Int) ≤ (i : Int) ∧ (i : Int) < ((16 : Nat) : Int) := by omega
    have e1 : Int.toNat (i : Int) = i := Int.toNat_natCast i
    have g1 : D.l[i]? = some (D.l[i]'(by omega)) := List.getElem?_eq_getElem _
    have g2 : o.l[i]? = some (o.l[i]'(by omega)) := List.getElem?_eq_getElem _
    obtain ⟨K, h1, h2⟩ := firstRef D h0 k M (i + 1) (o.set i (D.l[i]'(by omega))) (by omega) (by omega)
    refine ⟨K, ?_, ?_⟩
    · rw [h1]
      have q1 : (o.set i (D.l[i]'(by omega))).l.take (i + 1) = o.l.take i ++ [D.l[i]'(by omega)] := by
        show (o.l.set i _).take (i + 1) = _
        rw [List.take_add_one, List.take_set_of_le (Nat.le_refl _), List.getElem?_set_self (by omega)]
        rfl
      rw [q1, List.append_assoc]
      congr 1
      have hlt : i < (D.l.take 16).length := by rw [List.length_take]; omega
      rw [List.drop_eq_getElem_cons hlt, List.getElem_take]
      rfl
    · rw [gl_succ]
      simp only [ref12_first_L4, c1, decide_true, cond_true, c2, and_self, e1, g1, Option.bind_some, c3, g2, e0]
      exact h2
theorem rfirst_ok (b : List Int) (D : Arr Int 20) (h : ref05_Of 200000 b = some D) : ref12_first 200000 b = some (pre16 D) := by
  obtain ⟨K, h1, h2⟩ := firstRef (N := 200000) D ⟨List.replicate 16 0, rfl⟩ 16 200000 0 ⟨List.replicate 16 0, rfl⟩ (by omega) (by omega)
  have hK : K = pre16 D := Arr.eq (by rw [h1]; rfl)
  subst hK
  have h2' : ref12_first_L4_R 200000 (((0 : Int), ()), ((⟨List.replicate 16 0, rfl⟩ : Arr Int 16), (D, ((⟨List.replicate 16 0, rfl⟩ : Arr Int 16), ())))) = some ((), ((⟨List.replicate 16 0, rfl⟩ : Arr Int 16), (pre16 D, ()))) := h2
  unfold ref12_first
  rw [h, Option.bind_some]
  refine (congrArg (fun o => Option.bind o _) h2').trans ?_
  rfl
/-! ### Twice -/
theorem twice12 (h : Arr Int 16) (hb : AllB h.l) : ∃ D : Arr Int 16, AllB D.l ∧ nthash_Twice 200000 h = some D ∧ ref10_Twice 200000 h = some D := by
  have hl := h.h
  obtain ⟨D, d1, d2, d3⟩ := md4_pair [h.l] (by simp) (fun p hp => by rw [List.mem_singleton.1 hp]; exact hb) (by simp; omega)
  simp only [List.flatten_cons, List.flatten_nil, List.append_nil] at d3
  exact ⟨D, d1, by simp only [nthash_Twice, d2, Option.bind_some], by simp only [ref10_Twice, d3, Option.bind_some]⟩
/-! ### The master -/
theorem master_def (h : Arr Int 16) (r : Arr Int 24) : mppe_Master N h r = (nthash_Twice N h).bind fun t => (sha1_Of N [t.l, r.l, ofB sMast]).bind fun d => (takeI d.l 16).bind fun x => (toArr 16 x).bind fun y => some y := by kernel_rfl
theorem rmaster_def (h : Arr Int 16) (r : Arr Int 24) : ref12_Master N h r = (ref10_Twice N h).bind fun t => bif roomB t.l.length 1 then (bif roomB (t.l.length + r.l.length) 1 then (bif roomB ((t.l ++ r.l).length + sMast.length) 1 then (ref12_first N ((t.l ++ r.l) ++ ofB sMast)).bind fun y => some y else none) else none) else none := by kernel_rfl
theorem room_small {n : Nat} (h : n ≤ 100000) : roomB n 1 = true := roomB_of (by have := big_len; omega) (by omega)
theorem master_ok (h : Arr Int 16) (r : Arr Int 24) (hb : AllB h.l) (rb : AllB r.l) : ∃ M : Arr Int 16, AllB M.l ∧ mppe_Master 200000 h r = some M ∧ ref12_Master 200000 h r = some M := by
  obtain ⟨t, t1, t2, t3⟩ := twice12 h hb
  have tl := t.h
  have rl := r.h
  have sl : sMast.length = 27 := rfl
  obtain ⟨D, d1, d2, d3⟩ := sha1_pair [t.l, r.l, ofB sMast] (by simp) (fun p hp => by
    simp only [List.mem_cons, List.not_mem_nil, or_false] at hp
    rcases hp with rfl | rfl | rfl
    · exact t1
    · exact rb
    · exact ofB_B _) (by simp only [List.flatten_cons, List.flatten_nil, List.length_append, ofB_length, List.length_nil]; omega)
  simp only [List.flatten_cons, List.flatten_nil, List.append_nil] at d3
  rw [← List.append_assoc] at d3
  obtain ⟨p1, p2⟩ := pre16_ok D
  refine ⟨pre16 D, pre16_B d1, ?_, ?_⟩
  · rw [master_def, t2, Option.bind_some, d2, Option.bind_some, p1, Option.bind_some, p2, Option.bind_some]
  · rw [rmaster_def, t3, Option.bind_some, room_small (by omega), room_small (by omega), room_small (by rw [List.length_append]; omega)]
    simp only [cond_true, rfirst_ok _ D d3, Option.bind_some]
/-! ### A key -/
theorem key_def (m : Arr Int 16) (s : List UInt8) : mppe_key N m s = bif roomB s.length 1 then (sha1_Of N [m.l, List.replicate 40 0, ofB s, List.replicate 40 242]).bind fun d => (takeI d.l 16).bind fun x => (toArr 16 x).bind fun y => some y else none := by kernel_rfl
noncomputable def keyR (N : Nat) (m : Arr Int 16) (s : List UInt8) : Option (Arr Int 16) :=
  bif roomB m.l.length 1 then (bif roomB (m.l.length + 40) 1 then (bif roomB ((m.l ++ List.replicate 40 0).length + s.length) 1 then
    Option.bind (ref12_Key_L7_R N (((0 : Int), ()), ((⟨List.replicate 16 0, rfl⟩ : Arr Int 16), (((m.l ++ List.replicate 40 0) ++ ofB s), ())))) fun v => (ref12_first N v.2.2.1).bind fun y => some y
    else none) else none) else none
theorem rkey_def (m : Arr Int 16) (a : Bool) : ref12_Key N m a = bif a then keyR N m sUp else keyR N m sDown := by kernel_rfl
theorem padRef (h0 : Arr Int 16) (b : List Int) (hb : b.length ≤ 1000) : ref12_Key_L7_R 200000 (((0 : Int), ()), (h0, (b, ()))) = some ((), (h0, (b ++ List.replicate 40 242, ()))) := by
  have := gl_run (G := fun X c => ref12_Key_L7 200000 X c.1.1 c.2.1 c.2.2.1) (fun i => (((i : Int), ()), (h0, (b ++ List.replicate i 242, ())))) 40 ((), (h0, (b ++ List.replicate 40 242, ()))) (fun X i hi => by
    have c1 : ((i : Int) < 40) := by omega
    have e0 : Go.IntKind.wrap .i64 ((i : Int) + 1) = ((i + 1 : Nat) : Int) := by rw [wrap64 (by omega) (by omega)]; omega
    have r1 : roomB ((b ++ List.replicate i 242).length + ([242] : List Int).length) 1 = true := room_small (by simp only [List.length_append, List.length_replicate, List.length_cons, List.length_nil]; omega)
    have e2 : b ++ List.replicate i 242 ++ [242] = b ++ List.replicate (i + 1) 242 := by rw [List.append_assoc, List.replicate_succ']
    simp only [ref12_Key_L7, c1, decide_true, cond_true, r1, e0, e2]) (fun X => by
    have c1 : ¬ (((40 : Nat) : Int) < 40) := by omega
    simp only [ref12_Key_L7, c1, decide_false, cond_false]) 200000 0 (by omega) (by omega)
  simpa [ref12_Key_L7_R] using this
theorem key_ok (m : Arr Int 16) (s : List UInt8) (hm : AllB m.l) (hs : s.length ≤ 200) : ∃ K : Arr Int 16, AllB K.l ∧ mppe_key 200000 m s = some K ∧ keyR 200000 m s = some K := by
  have ml := m.h
  obtain ⟨D, d1, d2, d3⟩ := sha1_pair [m.l, List.replicate 40 0, ofB s, List.replicate 40 242] (by simp) (fun p hp => by
    simp only [List.mem_cons, List.not_mem_nil, or_false] at hp
    rcases hp with rfl | rfl | rfl | rfl
    · exact hm
    · exact rep_B _ _ (by omega)
    · exact ofB_B _
    · exact rep_B _ _ (by omega)) (by simp only [List.flatten_cons, List.flatten_nil, List.length_append, ofB_length, List.length_nil, List.length_replicate]; omega)
  simp only [List.flatten_cons, List.flatten_nil, List.append_nil] at d3
  have hfl : m.l ++ (List.replicate 40 0 ++ (ofB s ++ List.replicate 40 242)) = m.l ++ List.replicate 40 0 ++ ofB s ++ List.replicate 40 242 := by simp only [List.append_assoc]
  rw [hfl] at d3
  obtain ⟨p1, p2⟩ := pre16_ok D
  refine ⟨pre16 D, pre16_B d1, ?_, ?_⟩
  · rw [key_def, room_small (by omega), cond_true, d2, Option.bind_some, p1, Option.bind_some, p2, Option.bind_some]
  · unfold keyR
    rw [room_small (by omega), room_small (by omega), room_small (by simp only [List.length_append, List.length_replicate]; omega), padRef _ _ (by simp only [List.length_append, List.length_replicate, ofB_length]; omega)]
    simp only [cond_true, Option.bind_some, rfirst_ok _ D d3]
theorem of_def (m : Arr Int 16) (b : Bool) : mppe_Of N m b = (mppe_key N m sUp).bind fun u => (mppe_key N m sDown).bind fun d => bif b then some (d, u) else some (u, d) := by kernel_rfl
/-- Both keys of a master. -/
theorem keys_ok (m : Arr Int 16) (hm : AllB m.l) : ∃ U V : Arr Int 16, AllB U.l ∧ AllB V.l ∧ (∀ b, mppe_Of 200000 m b = some (bif b then (V, U) else (U, V))) ∧ ∀ a, ref12_Key 200000 m a = some (bif a then U else V) := by
  obtain ⟨U, u1, u2, u3⟩ := key_ok m sUp hm (by decide)
  obtain ⟨V, v1, v2, v3⟩ := key_ok m sDown hm (by decide)
  refine ⟨U, V, u1, v1, fun b => ?_, fun a => ?_⟩
  · rw [of_def, u2, Option.bind_some, v2, Option.bind_some]; cases b <;> rfl
  · rw [rkey_def, u3, v3]; cases a <;> rfl
/-! ### Upper keys -/
def app16 (x y : Arr Int 16) : Arr Int 32 := ⟨x.l ++ y.l, by rw [List.length_append, x.h, y.h]⟩
theorem join12 (x y : Arr Int 16) : octs_Join 200000 [x.l, y.l] = some (x.l ++ y.l) := by
  have hx := x.h
  have hy := y.h
  have : octs_Join 200000 [x.l, y.l] = some ([x.l, y.l] : List (List Int)).flatten := join_ok (N := 200000) [x.l, y.l] (by simp) (fun p hp => by
    simp only [List.mem_cons, List.not_mem_nil, or_false] at hp
    rcases hp with rfl | rfl <;> omega) (by omega)
  rw [this]
  simp
theorem upper_ok (k : Arr Int 16 × Arr Int 16) (b : Bool) : mppe_Upper 200000 k b = some (bif b then app16 k.2 k.1 else app16 k.1 k.2) := by
  have h1 := fun x y : Arr Int 16 => toArrN 32 (x.l ++ y.l) (app16 x y).h
  unfold mppe_Upper
  cases b
  · rw [cond_false, join12, Option.bind_some, h1, Option.bind_some]; rfl
  · rw [cond_true, join12, Option.bind_some, h1, Option.bind_some]; rfl
theorem fromRef (A B : Arr Int 16) (h0 : Arr Int 32) : ∀ (k M i : Nat) (o : Arr Int 32), k + i = 16 → k < M →
    ∃ K : Arr Int 32, K.l = o.l.take i ++ A.l.drop i ++ (o.l.drop 16).take i ++ B.l.drop i ∧ gl (fun X c => ref12_From_L5 N X c.1.1 c.2.1 c.2.2.1 c.2.2.2.1 c.2.2.2.2.1) M (((i : Int), ()), (h0, (A, (B, (o, ()))))) = some ((), (h0, (K, ())))
  | 0, M + 1, i, o, hk, hM => by
    have c1 : ¬ ((i : Int) < 16) := by omega
    have hol := o.h
    have hA := A.h
    have hB := B.h
    obtain rfl : i = 16 := by omega
    refine ⟨o, ?_, ?_⟩
    · have d1 : A.l.drop 16 = [] := List.drop_eq_nil_of_le (by omega)
      have d2 : B.l.drop 16 = [] := List.drop_eq_nil_of_le (by omega)
      have d3 : (o.l.drop 16).take 16 = o.l.drop 16 := List.take_of_length_le (by rw [List.length_drop]; omega)
      rw [d1, d2, d3, List.append_nil, List.append_nil, List.take_append_drop]
    · rw [gl_succ]
      simp only [ref12_From_L5, c1, decide_false, cond_false]
  | k + 1, M + 1, i, o, hk, hM => by
    have hol := o.h
    have hA := A.h
    have hB := B.h
    have c1 : ((i : Int) < 16) := by omega
    have e0 : Go.IntKind.wrap .i64 ((i : Int) + 1) = ((i + 1 : Nat) : Int) := by rw [wrap64 (by omega) (by omega)]; omega
    have e2 : Go.IntKind.wrap .i64 ((16 : Int) + (i : Int)) = ((16 + i : Nat) : Int) := by rw [wrap64 (by omega) (by omega)]; omega
    have c2 : (0 : Int) ≤ (i : Int) ∧ (i : Int) < ((16 : Nat) : Int) := by omega
    have c3 : (0 : Int) ≤ (i : Int) ∧ (i : Int) < ((32 : Nat) : Int) := by omega
    have c4 : (0 : Int) ≤ ((16 + i : Nat) : Int) ∧ ((16 + i : Nat) : Int) < ((32 : Nat) : Int) := by omega
    have e1 : Int.toNat (i : Int) = i := Int.toNat_natCast i
    have e3 : Int.toNat ((16 + i : Nat) : Int) = 16 + i := Int.toNat_natCast _
    have g1 : A.l[i]? = some (A.l[i]'(by omega)) := List.getElem?_eq_getElem _
    have g2 : B.l[i]? = some (B.l[i]'(by omega)) := List.getElem?_eq_getElem _
    have g3 : o.l[i]? = some (o.l[i]'(by omega)) := List.getElem?_eq_getElem _
    have g4 : (o.set i (A.l[i]'(by omega))).l[16 + i]? = some ((o.set i (A.l[i]'(by omega))).l[16 + i]'(by rw [(o.set i (A.l[i]'(by omega))).h]; omega)) := List.getElem?_eq_getElem _
    obtain ⟨K, h1, h2⟩ := fromRef A B h0 k M (i + 1) ((o.set i (A.l[i]'(by omega))).set (16 + i) (B.l[i]'(by omega))) (by omega) (by omega)
    refine ⟨K, ?_, ?_⟩
    · rw [h1]
      show ((o.l.set i (A.l[i]'(by omega))).set (16 + i) (B.l[i]'(by omega))).take (i + 1) ++ A.l.drop (i + 1) ++ (((o.l.set i (A.l[i]'(by omega))).set (16 + i) (B.l[i]'(by omega))).drop 16).take (i + 1) ++ B.l.drop (i + 1) = _
      have q1 : ((o.l.set i (A.l[i]'(by omega))).set (16 + i) (B.l[i]'(by omega))).take (i + 1) = o.l.take i ++ [A.l[i]'(by omega)] := by
        rw [List.take_set_of_le (by omega), List.take_add_one, List.take_set_of_le (Nat.le_refl _), List.getElem?_set_self (by omega)]
        rfl
      have q2 : (((o.l.set i (A.l[i]'(by omega))).set (16 + i) (B.l[i]'(by omega))).drop 16).take (i + 1) = (o.l.drop 16).take i ++ [B.l[i]'(by omega)] := by
        rw [List.drop_set, if_neg (by omega), Nat.add_sub_cancel_left, List.drop_set, if_pos (by omega), List.take_add_one, List.take_set_of_le (Nat.le_refl _), List.getElem?_set_self (by rw [List.length_drop]; omega)]
        rfl
      rw [q1, q2, List.drop_eq_getElem_cons (l := A.l) (i := i) (by omega), List.drop_eq_getElem_cons (l := B.l) (i := i) (by omega)]
      simp only [List.append_assoc, List.cons_append, List.nil_append]
    · rw [gl_succ]
      simp only [ref12_From_L5, c1, decide_true, cond_true, c2, and_self, e1, g1, Option.bind_some, g2, c3, e2, c4, g3, e3, g4, e0]
      exact h2
theorem rfrom_ok (h : Arr Int 16) (r : Arr Int 24) (M U V : Arr Int 16) (hM : ref12_Master 200000 h r = some M) (hK : ∀ a, ref12_Key 200000 M a = some (bif a then U else V)) : ref12_From 200000 h r = some (app16 U V) := by
  obtain ⟨K, h1, h2⟩ := fromRef (N := 200000) U V ⟨List.replicate 32 0, rfl⟩ 16 200000 0 ⟨List.replicate 32 0, rfl⟩ (by omega) (by omega)
  have hKe : K = app16 U V := Arr.eq (by rw [h1]; simp [app16])
  subst hKe
  have h2' : ref12_From_L5_R 200000 (((0 : Int), ()), ((⟨List.replicate 32 0, rfl⟩ : Arr Int 32), (U, (V, ((⟨List.replicate 32 0, rfl⟩ : Arr Int 32), ()))))) = some ((), ((⟨List.replicate 32 0, rfl⟩ : Arr Int 32), (app16 U V, ()))) := h2
  unfold ref12_From
  rw [hM, Option.bind_some, hK true, Option.bind_some, hK false, Option.bind_some, cond_true, cond_false]
  refine (congrArg (fun o => Option.bind o _) h2').trans ?_
  rfl
theorem from_ok (h : Arr Int 16) (r : Arr Int 24) (M U V : Arr Int 16) (hM : mppe_Master 200000 h r = some M) (hK : ∀ b, mppe_Of 200000 M b = some (bif b then (V, U) else (U, V))) (b : Bool) : mppe_From 200000 h r b = some (app16 U V) := by
  unfold mppe_From
  rw [hM, Option.bind_some, hK b, Option.bind_some, upper_ok, Option.bind_some]
  cases b <;> rfl
end
theorem app16_B {x y : Arr Int 16} (hx : AllB x.l) (hy : AllB y.l) : AllB (app16 x y).l := hx.append hy
theorem law_MppeKeys (h : Arr Int 16) (r : Arr Int 24) (b : Bool) (w1 : wfT (.arr 16 (.int .u8)) h) (w2 : wfT (.arr 24 (.int .u8)) r) (w3 : wfT .bool b) : law12_MppeKeys 200000 h r b = some true := by
  obtain ⟨M, m1, m2, m3⟩ := master_ok h r (fun x hx => wf_u8 (w1 x hx)) (fun x hx => wf_u8 (w2 x hx))
  obtain ⟨U, V, u, v, k1, k2⟩ := keys_ok M m1
  unfold law12_MppeKeys
  rw [m2, Option.bind_some, k1 b, Option.bind_some, m3, Option.bind_some]
  have hd : ∀ (n : Nat) (x : Arr Int n), @Decidable.decide (@Eq (Arr Int n) x x) (@decT (.arr n (.int .u8)) x x) = true := fun n x => decide_eq_true rfl
  rw [k2 (!b), k2 b]
  cases b <;> simp only [wfB_b _ m1, wfB_b _ u, wfB_b _ v, Bool.and_self, cond_true, cond_false, hd, Option.bind_some, alive12, Bool.not_true, Bool.not_false, decide_true]
theorem law_MppeBoth (m : Arr Int 16) (w1 : wfT (.arr 16 (.int .u8)) m) : law12_MppeBoth 200000 m = some true := by
  obtain ⟨U, V, u, v, k1, k2⟩ := keys_ok m (fun x hx => wf_u8 (w1 x hx))
  have hd : ∀ (n : Nat) (x : Arr Int n), @Decidable.decide (@Eq (Arr Int n) x x) (@decT (.arr n (.int .u8)) x x) = true := fun n x => decide_eq_true rfl
  unfold law12_MppeBoth
  rw [k1 false, Option.bind_some, k1 true, Option.bind_some]
  simp only [cond_true, cond_false, wfB_b _ u, wfB_b _ v, Bool.and_self, hd, upper_ok, Option.bind_some, wfB_b _ (app16_B u v), alive12, decide_true]
theorem app_lo (x y : Arr Int 16) (i : Nat) (h : i < 16) : (app16 x y).l[i]? = some (x.l[i]'(by rw [x.h]; exact h)) := by
  show (x.l ++ y.l)[i]? = _
  rw [List.getElem?_append_left (by rw [x.h]; exact h), List.getElem?_eq_getElem]
theorem app_hi (x y : Arr Int 16) (i : Nat) (h : i < 16) : (app16 x y).l[16 + i]? = some (y.l[i]'(by rw [y.h]; exact h)) := by
  show (x.l ++ y.l)[16 + i]? = _
  rw [List.getElem?_append_right (by rw [x.h]; omega), x.h, Nat.add_sub_cancel_left, List.getElem?_eq_getElem]
theorem upper_loop (h : Arr Int 16) (r : Arr Int 24) (k0 k1 : Arr Int 16) (hk : ([k0, k1] : List (Arr Int 16)).length = 2) (x : Arr Int 32) :
    law12_MppeUpper_L4_R 200000 ((h, (r, ((⟨[k0, k1], hk⟩ : Arr (Arr Int 16) 2), ((0 : Int), ())))), (x, (app16 k0 k1, (app16 k1 k0, ())))) = some (.inr ((h, (r, ())), (x, ()))) := by
  have := gl_run (G := fun X c => law12_MppeUpper_L4 200000 X c.1.1 c.1.2.1 c.1.2.2.1 c.1.2.2.2.1 c.2.1 c.2.2.1 c.2.2.2.1) (fun i => ((h, (r, ((⟨[k0, k1], hk⟩ : Arr (Arr Int 16) 2), ((i : Int), ())))), (x, (app16 k0 k1, (app16 k1 k0, ()))))) 16 (.inr ((h, (r, ())), (x, ()))) (fun X i hi => by
    have c1 : ((i : Int) < 16) := by omega
    have e0 : Go.IntKind.wrap .i64 ((i : Int) + 1) = ((i + 1 : Nat) : Int) := by rw [wrap64 (by omega) (by omega)]; omega
    have e2 : Go.IntKind.wrap .i64 ((16 : Int) + (i : Int)) = ((16 + i : Nat) : Int) := by rw [wrap64 (by omega) (by omega)]; omega
    have c3 : (0 : Int) ≤ (i : Int) ∧ (i : Int) < ((32 : Nat) : Int) := by omega
    have c4 : (0 : Int) ≤ ((16 + i : Nat) : Int) ∧ ((16 + i : Nat) : Int) < ((32 : Nat) : Int) := by omega
    have e1 : Int.toNat (i : Int) = i := Int.toNat_natCast i
    have e3 : Int.toNat ((16 + i : Nat) : Int) = 16 + i := Int.toNat_natCast _
    have g0 : getI ([k0, k1] : List (Arr Int 16)) (0 : Int) = some k0 := rfl
    have g1 : getI ([k0, k1] : List (Arr Int 16)) (1 : Int) = some k1 := rfl
    have h0 : getI k0.l (i : Int) = some (k0.l[i]'(by rw [k0.h]; exact hi)) := getI_lt k0.l i (by rw [k0.h]; exact hi)
    have h1 : getI k1.l (i : Int) = some (k1.l[i]'(by rw [k1.h]; exact hi)) := getI_lt k1.l i (by rw [k1.h]; exact hi)
    simp only [law12_MppeUpper_L4, c1, decide_true, cond_true, c3, c4, and_self, e1, app_lo _ _ i hi, app_hi _ _ i hi, Option.bind_some, g0, g1, h0, h1, Bool.not_true, cond_false, e2, e3, e0]) (fun X => by
    have c1 : ¬ (((16 : Nat) : Int) < 16) := by omega
    simp only [law12_MppeUpper_L4, c1, decide_false, cond_false]) 200000 0 (by omega) (by omega)
  exact this
theorem law_MppeUpper (h : Arr Int 16) (r : Arr Int 24) (k : Arr (Arr Int 16) 2) (w1 : wfT (.arr 16 (.int .u8)) h) (w2 : wfT (.arr 24 (.int .u8)) r) (w3 : wfT (.arr 2 (.arr 16 (.int .u8))) k) : law12_MppeUpper 200000 h r k = some true := by
  obtain ⟨M, m1, m2, m3⟩ := master_ok h r (fun x hx => wf_u8 (w1 x hx)) (fun x hx => wf_u8 (w2 x hx))
  obtain ⟨U, V, u, v, k1, k2⟩ := keys_ok M m1
  have hd : ∀ (n : Nat) (x : Arr Int n), @Decidable.decide (@Eq (Arr Int n) x x) (@decT (.arr n (.int .u8)) x x) = true := fun n x => decide_eq_true rfl
  match k, w3 with
  | ⟨[k0, k1'], hk⟩, w3 =>
    have g0 : getI ([k0, k1'] : List (Arr Int 16)) (0 : Int) = some k0 := rfl
    have g1 : getI ([k0, k1'] : List (Arr Int 16)) (1 : Int) = some k1' := rfl
    have hl := upper_loop h r k0 k1' hk (app16 U V)
    unfold law12_MppeUpper
    simp only [from_ok h r M U V m2 k1, Option.bind_some, g0, g1, upper_ok, cond_false, cond_true]
    refine (congrArg (fun o => Option.bind o _) hl).trans ?_
    simp only [Option.bind_some, Sum.elim_inr, from_ok h r M U V m2 k1, rfrom_ok h r M U V m3 k2, wfB_b _ (app16_B u v), Bool.and_self, cond_true, hd, alive12, decide_true]
end Go.Proofs.YtdkklfegpjlklaaDoor
