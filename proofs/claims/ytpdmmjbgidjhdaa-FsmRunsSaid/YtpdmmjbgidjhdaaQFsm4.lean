/-
  Layer 23, on plain data: the laws of runs.
-/
import Derived.Test.YtpdmmjbgidjhdaaQFsm3
namespace Go.Proofs.Ytpdmmjbgidjhdaa
set_option maxRecDepth 100000
open Go.RowKit
set_option linter.unusedVariables false
set_option linter.unusedSimpArgs false
set_option maxRecDepth 100000

theorem reached_neg : (ref23_Reached 1000 (-1)).map (·.l) = some (List.replicate 10 false) := by kernel_rfl
theorem reached_out (s : Int) (h : ¬ (0 ≤ s ∧ s ≤ 9)) : ∃ a : Arr Bool 10, ref23_Reached 1000 s = some a ∧ a.l = List.replicate 10 false := by
  have e : ref23_Reached 1000 s = ref23_Reached 1000 (-1) := by
    by_cases c1 : s < 0
    · unfold ref23_Reached
      rw [decide_eq_true c1]
      rfl
    · have c2 : 9 < s := by omega
      unfold ref23_Reached
      rw [decide_eq_false c1, decide_eq_true c2]
      rfl
  obtain ⟨a, h1, h2⟩ := Option.map_eq_some_iff.1 reached_neg
  exact ⟨a, by rw [e, h1], h2⟩
theorem reach_ok (s t : Int) (h1 : 0 ≤ t) (h2 : t ≤ 9) : ∃ a b, ref23_Reached 1000 s = some a ∧ getI a.l t = some b ∧ fsm_Reaches 1000 s t = some b := by
  by_cases h : 0 ≤ s ∧ s ≤ 9
  · have := reach_in s.toNat (by omega) t.toNat (by omega)
    rw [Int.toNat_of_nonneg h.1, Int.toNat_of_nonneg h1] at this
    split at this
    · rename_i a ha
      simp only [Bool.and_eq_true, decide_eq_true_eq] at this
      obtain ⟨b, hb⟩ := Option.isSome_iff_exists.1 this.2
      exact ⟨a, b, ha, hb, by rw [this.1, hb]⟩
    · cases this
  · obtain ⟨a, ha, hl⟩ := reached_out s h
    refine ⟨a, false, ha, ?_, reaches_out s t (by omega)⟩
    rw [hl]
    unfold getI
    rw [if_pos h1, List.getElem?_replicate, if_pos (by omega)]
theorem law_FsmRuns (s t : Int) (l : List Int) : law23_FsmRuns 1000 s t l = some true := by
  unfold law23_FsmRuns
  by_cases hl : (200 : Int) < (l.length : Int)
  · simp [hl, alive23]
  · obtain ⟨r, r1, r2, r3, r4, r5⟩ := run_ok s l (by omega)
    simp only [hl, decide_false, cond_false, copy_runs s t l (by omega), Option.bind_some, r1, r2, decide_true, cond_true, same_ok r.2.1 (by omega), alive23]
    by_cases h0 : 0 ≤ t
    · by_cases h9 : t ≤ 9
      · obtain ⟨a, b, q1, q2, q3⟩ := reach_ok s t h0 h9
        have hm : maxI 0 (minI t 9) = t := by unfold maxI minI; split <;> split <;> omega
        simp [h0, h9, q1, q2, q3, hm]
      · simp [h0, h9, reaches_out s t (by omega)]
    · simp [h0, reaches_out s t (by omega)]
/-- What comes behind the run. -/
noncomputable def closesB (n : Int) : Option Bool :=
  Option.bind (fsm_Next 1000 n 3) fun m => Option.bind (fsm_Next 1000 m.1 5) fun g =>
  let z := bif decide (g.2.2 = 0) then g.1 else m.1
  Option.bind (fsm_Timed 1000 z) fun t => Option.bind (fsm_Reaches 1000 n z) fun q =>
  some (decide (m.2.2 = 0) && (decide (z = 0) || decide (z = 2)) && !t && q)
theorem closes_in : ∀ i < 10, closesB (i : Nat) = some true := by decide +kernel
theorem law_FsmCloses (s : Int) (l : List Int) : law23_FsmCloses 1000 s l = some true := by
  unfold law23_FsmCloses
  by_cases hl : (200 : Int) < (l.length : Int)
  · simp [hl, alive23]
  · obtain ⟨r, r1, r2, r3, r4, r5⟩ := run_ok s l (by omega)
    simp only [hl, decide_false, cond_false, copy_closes s l (by omega), Option.bind_some, r1, alive23]
    have hc := closes_in r.1.toNat (by omega)
    rw [Int.toNat_of_nonneg r3] at hc
    unfold closesB at hc
    obtain ⟨m, m1, -, m3, m4, -⟩ := next_ok r.1 3
    obtain ⟨g, g1, -, g3, g4, -⟩ := next_ok m.1 5
    rw [m1] at hc ⊢
    simp only [Option.bind_some] at hc ⊢
    rw [g1] at hc ⊢
    simp only [Option.bind_some] at hc ⊢
    by_cases hg : g.2.2 = 0
    · simp only [hg, decide_true, cond_true] at hc ⊢
      obtain ⟨t, ht, hc⟩ := Option.bind_eq_some_iff.1 hc
      obtain ⟨q, hq, hc⟩ := Option.bind_eq_some_iff.1 hc
      simp only [Option.some.injEq, Bool.and_eq_true, Bool.or_eq_true, decide_eq_true_eq, Bool.not_eq_true'] at hc
      obtain ⟨⟨⟨c1, c2⟩, c3⟩, c4⟩ := hc
      subst c3 c4
      rcases c2 with c2 | c2 <;> simp [c1, c2] at ht hq ⊢ <;> simp [ht, hq]
    · simp only [hg, decide_false, cond_false] at hc ⊢
      obtain ⟨t, ht, hc⟩ := Option.bind_eq_some_iff.1 hc
      obtain ⟨q, hq, hc⟩ := Option.bind_eq_some_iff.1 hc
      simp only [Option.some.injEq, Bool.and_eq_true, Bool.or_eq_true, decide_eq_true_eq, Bool.not_eq_true'] at hc
      obtain ⟨⟨⟨c1, c2⟩, c3⟩, c4⟩ := hc
      subst c3 c4
      rcases c2 with c2 | c2 <;> simp [c1, c2] at ht hq ⊢ <;> simp [ht, hq]
end Go.Proofs.Ytpdmmjbgidjhdaa
