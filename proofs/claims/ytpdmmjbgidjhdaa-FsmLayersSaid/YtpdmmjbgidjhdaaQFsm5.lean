/-
  Layer 23, on plain data: when a layer is told to be up, or down.
-/
import Derived.Test.YtpdmmjbgidjhdaaQFsm3
namespace Go.Proofs.Ytpdmmjbgidjhdaa
set_option maxRecDepth 100000
open Go.RowKit
set_option linter.unusedVariables false
set_option linter.unusedSimpArgs false
set_option maxRecDepth 100000

def has (k : Int) (l : List Int) : Bool := l.any fun x => decide (x = k)
def layOK (s : Int) (r : Int × List Int × Int) : Bool := (has 1 r.2.1 == (decide (r.1 = 9) && !decide (s = 9))) && (has 2 r.2.1 == (decide (s = 9) && !decide (r.1 = 9))) && (!has 7 r.2.1 || decide (r.1 = 6) || decide (r.1 = 8))
noncomputable def layB (s e : Int) : Bool := match fsm_Next 1000 s e with
  | some r => !decide (r.2.2 = 0) || layOK s r
  | none => false
theorem lay_in : ∀ i < 10, ∀ j < 16, layB (i : Nat) (j : Nat) = true := by decide +kernel
theorem lay_ok (s e : Int) {r : Int × List Int × Int} (h : fsm_Next 1000 s e = some r) (hz : r.2.2 = 0) : layOK s r = true := by
  by_cases hin : 0 ≤ s ∧ s ≤ 9 ∧ 0 ≤ e ∧ e ≤ 15
  · have := lay_in s.toNat (by omega) e.toNat (by omega)
    rw [Int.toNat_of_nonneg hin.1, Int.toNat_of_nonneg hin.2.2.1] at this
    unfold layB at this
    rw [h] at this
    simpa [hz] using this
  · rw [next_out s e hin] at h
    injection h with h
    subst h
    cases hz
theorem has_take (k : Int) (l : List Int) (i : Nat) (h : i < l.length) : has k (l.take (i + 1)) = (has k (l.take i) || decide (l[i] = k)) := by
  unfold has
  rw [← take_succ' l i h, List.any_append, List.any_cons, List.any_nil, Bool.or_false]
theorem flags_ok (s n : Int) (l a : List Int) (ll i0 : Int) (ha : a.length < 1000) :
    law23_FsmLayers_L11_R 1000 ((s, (n, (false, (false, (false, (l, (ll, (i0, (a, ((a.length : Int), ((0 : Int), ()))))))))))), ()) = some ((s, (n, (has 1 a, (has 2 a, (has 7 a, (l, (ll, (i0, ())))))))), ()) := by
  have h := gl_run (G := fun (X : ((Int × Int × Bool × Bool × Bool × List Int × Int × Int × List Int × Int × Int × Unit) × Unit) → Option ((Int × Int × Bool × Bool × Bool × List Int × Int × Int × Unit) × Unit)) c => law23_FsmLayers_L11 1000 X c.1.1 c.1.2.1 c.1.2.2.1 c.1.2.2.2.1 c.1.2.2.2.2.1 c.1.2.2.2.2.2.1 c.1.2.2.2.2.2.2.1 c.1.2.2.2.2.2.2.2.1 c.1.2.2.2.2.2.2.2.2.1 c.1.2.2.2.2.2.2.2.2.2.1 c.1.2.2.2.2.2.2.2.2.2.2.1)
    (fun i => ((s, (n, (has 1 (a.take i), (has 2 (a.take i), (has 7 (a.take i), (l, (ll, (i0, (a, ((a.length : Int), ((i : Int), ()))))))))))), ())) a.length ((s, (n, (has 1 a, (has 2 a, (has 7 a, (l, (ll, (i0, ())))))))), ()) (fun X i hi => by
    have c1 : ((i : Int) < (a.length : Int)) := by omega
    have c2 : Go.IntKind.wrap .i64 ((i : Int) + 1) = ((i + 1 : Nat) : Int) := by rw [wrap64 (by omega) (by omega)]; omega
    simp only [has_take _ a i hi]
    generalize has 1 (a.take i) = u
    generalize has 2 (a.take i) = d
    generalize has 7 (a.take i) = q
    simp only [law23_FsmLayers_L11, c1, decide_true, cond_true, getI_lt a i hi, Option.bind_some, c2]
    cases u <;> cases d <;> cases q <;> simp) (fun X => by
    simp [law23_FsmLayers_L11]) 1000 0 (by omega) (by omega)
  unfold law23_FsmLayers_L11_R
  simpa [has] using h
theorem layers_loop (s : Int) (l : List Int) (hl : l.length ≤ 200) : law23_FsmLayers_L5_R 1000 ((s, (l, ((l.length : Int), ((0 : Int), ())))), ()) = some (.inr ((), ())) := by
  have h := gl_inv (G := fun (X : ((Int × List Int × Int × Int × Unit) × Unit) → Option (((Bool × Unit) × Unit) ⊕ (Unit × Unit))) c => law23_FsmLayers_L5 1000 X c.1.1 c.1.2.1 c.1.2.2.1 c.1.2.2.2.1)
    (fun n c => ∃ (i : Nat) (s : Int), c = ((s, (l, ((l.length : Int), ((i : Int), ())))), ()) ∧ i ≤ l.length ∧ n = l.length - i) (fun o => o = .inr ((), ())) (fun X n c ⟨i, s, hc, hi, hn⟩ => by
    subst hc
    rcases Nat.lt_or_ge i l.length with hlt | hge
    · right
      have c1 : ((i : Int) < (l.length : Int)) := by omega
      have c2 : Go.IntKind.wrap .i64 ((i : Int) + 1) = ((i + 1 : Nat) : Int) := by rw [wrap64 (by omega) (by omega)]; omega
      obtain ⟨r, n1, n2, n3, n4, n5⟩ := next_ok s l[i]
      by_cases hz : r.2.2 = 0
      · refine ⟨l.length - (i + 1), ((r.1, (l, ((l.length : Int), (((i + 1 : Nat) : Int), ())))), ()), by omega, ⟨i + 1, r.1, rfl, hlt, rfl⟩, ?_⟩
        have hk := lay_ok s _ n1 hz
        simp only [layOK, Bool.and_eq_true, beq_iff_eq] at hk
        obtain ⟨⟨k1, k2⟩, k3⟩ := hk
        simp only [law23_FsmLayers_L5, c1, decide_true, cond_true, getI_lt l i hlt, Option.bind_some, n1, hz, Bool.not_true, cond_false, flags_ok s r.1 l r.2.1 _ _ (by omega : r.2.1.length < 1000), k1, k2, c2]
        generalize has 7 r.2.1 = q at k3
        by_cases e1 : r.1 = 9 <;> by_cases e2 : s = 9 <;> cases q <;> simp [e1, e2] at k3 ⊢
        all_goals (rcases k3 with k3 | k3 <;> simp [k3])
      · refine ⟨l.length - (i + 1), ((s, (l, ((l.length : Int), (((i + 1 : Nat) : Int), ())))), ()), by omega, ⟨i + 1, s, rfl, hlt, rfl⟩, ?_⟩
        simp only [law23_FsmLayers_L5, c1, decide_true, cond_true, getI_lt l i hlt, Option.bind_some, n1, hz, decide_false, Bool.not_false, c2]
    · left
      have c1 : ¬ ((i : Int) < (l.length : Int)) := by omega
      exact ⟨.inr ((), ()), by simp only [law23_FsmLayers_L5, c1, decide_false, cond_false], rfl⟩) 1000 l.length ((s, (l, ((l.length : Int), ((0 : Int), ())))), ()) (by omega) ⟨0, s, rfl, by omega, by omega⟩
  obtain ⟨o, h1, rfl⟩ := h
  exact h1
theorem law_FsmLayers (s : Int) (l : List Int) : law23_FsmLayers 1000 s l = some true := by
  unfold law23_FsmLayers
  by_cases hl : (200 : Int) < (l.length : Int)
  · simp [hl, alive23]
  · simp [hl, layers_loop s l (by omega), alive23]
end Go.Proofs.Ytpdmmjbgidjhdaa
