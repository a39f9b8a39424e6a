/-
  Layer 23, on plain data: runs.
-/
import Derived.Test.YtpdmmjbgidjhdaaQFsm2
namespace Go.Proofs.Ytpdmmjbgidjhdaa
set_option maxRecDepth 100000
open Go.RowKit
set_option linter.unusedVariables false
set_option linter.unusedSimpArgs false
set_option maxRecDepth 100000

abbrev RunO := ((Int × List Int × Int × Unit) × Unit) ⊕ ((Int × List Int × Unit) × List Int × Unit)
def RunQ (l : List Int) (o : RunO) : Prop := Sum.elim (fun v => 0 ≤ v.1.1 ∧ v.1.1 ≤ 9 ∧ v.1.2.1.length ≤ 800) (fun v => 0 ≤ v.1.1 ∧ v.1.1 ≤ 9 ∧ v.2.1.length ≤ 800) o
theorem run_loops (l : List Int) (hl : l.length ≤ 200) : ∀ (k i : Nat) (s : Int) (acc : List Int), l.length - i < k → i ≤ l.length → 0 ≤ s → s ≤ 9 → acc.length ≤ 4 * i →
    ∃ o : RunO, gl (fun X c => fsm_Run_L5 1000 X c.1.1 c.1.2.1 c.1.2.2.1 c.1.2.2.2.1 c.1.2.2.2.2.1 c.2.1) k ((s, (l, (l, ((l.length : Int), ((i : Int), ()))))), (acc, ())) = some o ∧ gl (fun X c => ref23_Run_L5 1000 X c.1.1 c.1.2.1 c.1.2.2.1 c.2.1) k ((s, (l, ((i : Int), ()))), (acc, ())) = some o ∧ RunQ l o
  | 0, i, s, acc, h, _, _, _, _ => by omega
  | k + 1, i, s, acc, h, hi, h1, h2, ha => by
    rw [gl_succ, gl_succ]
    rcases Nat.lt_or_ge i l.length with hlt | hge
    · obtain ⟨r, n1, n2, n3, n4, n5⟩ := next_ok s l[i]
      have c1 : ((i : Int) < (l.length : Int)) := by omega
      have c2 : Go.IntKind.wrap .i64 ((i : Int) + 1) = ((i + 1 : Nat) : Int) := by rw [wrap64 (by omega) (by omega)]; omega
      by_cases hz : r.2.2 = 0
      · have c3 : roomB (acc.length + r.2.1.length) 8 = true := roomB_of (by have := big_len; omega) (by omega)
        obtain ⟨o, q1, q2, q3⟩ := run_loops l hl k (i + 1) r.1 (acc ++ r.2.1) (by omega) hlt n3 n4 (by rw [List.length_append]; omega)
        refine ⟨o, ?_, ?_, q3⟩
        · simp only [fsm_Run_L5, c1, decide_true, cond_true, getI_lt l i hlt, Option.bind_some, n1, hz, Bool.not_true, cond_false, c3, c2]; exact q1
        · simp only [ref23_Run_L5, c1, decide_true, cond_true, getI_lt l i hlt, Option.bind_some, n2, hz, Bool.not_true, cond_false, c3, c2]; exact q2
      · refine ⟨.inl ((s, (acc, ((i : Int), ()))), ()), ?_, ?_, ⟨h1, h2, by show acc.length ≤ 800; omega⟩⟩
        · simp only [fsm_Run_L5, c1, decide_true, cond_true, getI_lt l i hlt, Option.bind_some, n1, hz, decide_false, Bool.not_false]
        · simp only [ref23_Run_L5, c1, decide_true, cond_true, getI_lt l i hlt, Option.bind_some, n2, hz, decide_false, Bool.not_false]
    · have c1 : ¬ ((i : Int) < (l.length : Int)) := by omega
      refine ⟨.inr ((s, (l, ())), (acc, ())), ?_, ?_, ⟨h1, h2, by show acc.length ≤ 800; omega⟩⟩
      · simp only [fsm_Run_L5, c1, decide_false, cond_false]
      · simp only [ref23_Run_L5, c1, decide_false, cond_false]
theorem run_ok (s : Int) (l : List Int) (hl : l.length ≤ 200) : ∃ r : Int × List Int × Int, fsm_Run 1000 s l = some r ∧ ref23_Run 1000 s l = some r ∧ 0 ≤ r.1 ∧ r.1 ≤ 9 ∧ r.2.1.length ≤ 800 := by
  by_cases h : 0 ≤ s ∧ s ≤ 9
  · obtain ⟨o, h1, h2, h3⟩ := run_loops l hl 1000 0 s [] (by omega) (by omega) h.1 h.2 (by simp)
    have h1' : fsm_Run_L5_R 1000 ((s, (l, (l, ((l.length : Int), ((0 : Int), ()))))), (([] : List Int), ())) = some o := h1
    have h2' : ref23_Run_L5_R 1000 ((s, (l, ((0 : Int), ()))), (([] : List Int), ())) = some o := h2
    have c1 : ¬ s < 0 := by omega
    have c2 : ¬ 9 < s := by omega
    have c3 : decide (0 ≤ s ∧ s ≤ 9) = true := decide_eq_true h
    cases o with
    | inl v =>
      refine ⟨(v.1.1, v.1.2.1, v.1.2.2.1), ?_, ?_, h3.1, h3.2.1, h3.2.2⟩
      · simp only [fsm_Run, isState_in, Option.bind_some, c3, Bool.not_true, cond_false, h1', Sum.elim_inl]
      · simp only [ref23_Run, c1, c2, decide_false, cond_false, h2', Option.bind_some, Sum.elim_inl]
    | inr v =>
      refine ⟨(v.1.1, v.2.1, (v.1.2.1.length : Int)), ?_, ?_, h3.1, h3.2.1, h3.2.2⟩
      · simp only [fsm_Run, isState_in, Option.bind_some, c3, Bool.not_true, cond_false, h1', Sum.elim_inr]
      · simp only [ref23_Run, c1, c2, decide_false, cond_false, h2', Option.bind_some, Sum.elim_inr]
  · refine ⟨(0, [], 0), ?_, ?_, by decide, by decide, by decide⟩
    · have c3 : decide (0 ≤ s ∧ s ≤ 9) = false := decide_eq_false h
      simp only [fsm_Run, isState_in, Option.bind_some, c3, Bool.not_false, cond_true]
    · by_cases c1 : s < 0
      · simp only [ref23_Run, c1, decide_true, cond_true]
      · have c2 : 9 < s := by omega
        simp only [ref23_Run, c1, c2, decide_true, decide_false, cond_false, cond_true]
theorem take_succ' (l : List Int) (i : Nat) (h : i < l.length) : l.take i ++ [l[i]] = l.take (i + 1) := by rw [List.take_add_one, List.getElem?_eq_getElem h]; rfl
theorem copy_closes (s : Int) (l : List Int) (hl : l.length ≤ 200) : law23_FsmCloses_L5_R 1000 ((s, (l, ((l.length : Int), ((0 : Int), ())))), (([] : List Int), ())) = some ((s, ()), (l, ())) := by
  have h := gl_run (G := fun (X : ((Int × List Int × Int × Int × Unit) × List Int × Unit) → Option ((Int × Unit) × List Int × Unit)) c => law23_FsmCloses_L5 1000 X c.1.1 c.1.2.1 c.1.2.2.1 c.1.2.2.2.1 c.2.1) (fun i => ((s, (l, ((l.length : Int), ((i : Int), ())))), (l.take i, ()))) l.length ((s, ()), (l, ())) (fun X i hi => by
    have c1 : ((i : Int) < (l.length : Int)) := by omega
    have c2 : Go.IntKind.wrap .i64 ((i : Int) + 1) = ((i + 1 : Nat) : Int) := by rw [wrap64 (by omega) (by omega)]; omega
    have c3 : roomB ((l.take i).length + ([l[i]] : List Int).length) 8 = true := roomB_of (by have := big_len; simp; omega) (by simp; omega)
    simp only [law23_FsmCloses_L5, c1, decide_true, cond_true, getI_lt l i hi, Option.bind_some, c3, c2, take_succ' l i hi]) (fun X => by
    simp [law23_FsmCloses_L5]) 1000 0 (by omega) (by omega)
  unfold law23_FsmCloses_L5_R
  simpa using h
theorem copy_runs (s t : Int) (l : List Int) (hl : l.length ≤ 200) : law23_FsmRuns_L5_R 1000 ((s, (t, (l, (l, ((l.length : Int), ((0 : Int), ())))))), (([] : List Int), ())) = some ((s, (t, (l, ()))), (l, ())) := by
  have h := gl_run (G := fun (X : ((Int × Int × List Int × List Int × Int × Int × Unit) × List Int × Unit) → Option ((Int × Int × List Int × Unit) × List Int × Unit)) c => law23_FsmRuns_L5 1000 X c.1.1 c.1.2.1 c.1.2.2.1 c.1.2.2.2.1 c.1.2.2.2.2.1 c.1.2.2.2.2.2.1 c.2.1) (fun i => ((s, (t, (l, (l, ((l.length : Int), ((i : Int), ())))))), (l.take i, ()))) l.length ((s, (t, (l, ()))), (l, ())) (fun X i hi => by
    have c1 : ((i : Int) < (l.length : Int)) := by omega
    have c2 : Go.IntKind.wrap .i64 ((i : Int) + 1) = ((i + 1 : Nat) : Int) := by rw [wrap64 (by omega) (by omega)]; omega
    have c3 : roomB ((l.take i).length + ([l[i]] : List Int).length) 8 = true := roomB_of (by have := big_len; simp; omega) (by simp; omega)
    simp only [law23_FsmRuns_L5, c1, decide_true, cond_true, getI_lt l i hi, Option.bind_some, c3, c2, take_succ' l i hi]) (fun X => by
    simp [law23_FsmRuns_L5]) 1000 0 (by omega) (by omega)
  unfold law23_FsmRuns_L5_R
  simpa using h
theorem reach_in : ∀ i < 10, ∀ j < 10, (match ref23_Reached 1000 (i : Nat) with
    | some a => decide (fsm_Reaches 1000 (i : Nat) (j : Nat) = getI a.l (j : Nat)) && (getI a.l (j : Nat)).isSome
    | none => false) = true := by decide +kernel
theorem reaches_out (s t : Int) (h : ¬ (0 ≤ s ∧ s ≤ 9 ∧ 0 ≤ t ∧ t ≤ 9)) : fsm_Reaches 1000 s t = some false := by
  unfold fsm_Reaches
  rw [isState_in]
  by_cases h0 : 0 ≤ s ∧ s ≤ 9
  · have h1 : ¬ (0 ≤ t ∧ t ≤ 9) := by omega
    rw [isState_in]
    simp [h0, h1]
  · simp [h0]
end Go.Proofs.Ytpdmmjbgidjhdaa
