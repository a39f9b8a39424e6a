/-
  Layer 25, on plain data: the law LcpoAnswers.
-/
import Derived.Test.YtjfmcfilenbmbaaQL3
namespace Go.Proofs.Ytjfmcfilenbmbaa
set_option maxRecDepth 100000
open Go.RowKit
set_option linter.unusedVariables false
set_option linter.unusedSimpArgs false
set_option maxRecDepth 100000

theorem findS_mem {l : List Op} {k : Int} {x : Op} (h : findS l k = (x, true)) : x ∈ l := by
  unfold findS at h
  split at h
  · rename_i o ho
    have h1 : o = x := (Prod.mk.inj h).1
    rw [← h1]
    exact List.mem_of_find?_eq_some ho
  · have := (Prod.mk.inj h).2
    cases this
theorem answers_loop (l : List Op) (own fresh : Int) (n : Arr Int 2) (hn : n.l = [own, fresh]) (nak : List Op) (hw : wfO l) (hl : l.length ≤ 40) (hs : ∀ o ∈ l, o.2.length ≤ 300) (hk : NK l own fresh nak) (hwn : wfO nak) (hnl : nak.length ≤ 40) :
    law25_LcpoAnswers_L9_R 200000 ((l, (n, (nak, (nak, ((nak.length : Int), ((0 : Int), ())))))), ()) = some (.inr ((nak, ()), ())) := by
  refine gl_run (G := fun (X : (((List Op) × ((Arr Int 2) × ((List Op) × ((List Op) × ((Int) × ((Int) × Unit)))))) × Unit) → Option (((((Bool) × Unit) × Unit) ⊕ (((List Op) × Unit) × Unit)))) c => law25_LcpoAnswers_L9 200000 X c.1.1 c.1.2.1 c.1.2.2.1 c.1.2.2.2.1 c.1.2.2.2.2.1 c.1.2.2.2.2.2.1)
    (fun i => ((l, (n, (nak, (nak, ((nak.length : Int), ((i : Int), ())))))), ())) nak.length (.inr ((nak, ()), ())) (fun X i hi => ?_) (fun X => ?_) 200000 0 (by omega) (by omega)
  · have c1 : ((i : Int) < (nak.length : Int)) := by omega
    have c2 : Go.IntKind.wrap .i64 ((i : Int) + 1) = ((i + 1 : Nat) : Int) := by rw [wrap64 (by omega) (by omega)]; omega
    have g := getI_lt nak i hi
    have hki := hk _ (List.getElem_mem hi)
    have hwi := hwn _ (List.getElem_mem hi)
    obtain ⟨hB, x, hx, hne⟩ := hki
    generalize nak[i] = o at *
    have hfind := find_ok (N := 200000) l o.1 (by omega) (fun o ho => by have := hs o ho; omega) (by omega)
    rw [hx] at hfind
    have hxl := findS_mem hx
    have hwx := hw x hxl
    have w1 : wfO [(o.1, o.2)] := fun p hp => by rw [List.mem_singleton] at hp; subst hp; exact hwi
    have w2 : wfO [(x.1, x.2)] := fun p hp => by rw [List.mem_singleton] at hp; subst hp; exact hwx
    have hsame := osame_ok (N := 200000) [(o.1, o.2)] [(x.1, x.2)] w1 w2 (by simp) (by omega)
    have hth := theirs_ok (N := 200000) l (by omega) (by omega)
    have g0 : getI n.l 0 = some own := by rw [hn]; rfl
    have g1 : getI n.l 1 = some fresh := by rw [hn]; rfl
    by_cases hox : o = x
    · subst hox
      have hd : decide ([(o.1, o.2)] = [(o.1, o.2)]) = true := decide_eq_true rfl
      rw [hd] at hsame
      by_cases hof : own = fresh
      · have d1 : decide (own = fresh) = true := decide_eq_true hof
        simp only [law25_LcpoAnswers_L9, c1, decide_true, cond_true, g, Option.bind_some, hth, hfind, Bool.not_true, cond_false, hsame, g0, g1, d1, c2]
      · have d1 : decide (own = fresh) = false := decide_eq_false hof
        have hf0 : fresh = 0 := by
          by_cases h : fresh = 0
          · exact h
          · exact absurd rfl (hne hof h)
        have d2 : decide (fresh = 0) = true := decide_eq_true hf0
        simp only [law25_LcpoAnswers_L9, c1, decide_true, cond_true, g, Option.bind_some, hth, hfind, Bool.not_true, Bool.not_false, cond_false, hsame, g0, g1, d1, d2, c2]
    · have hd : decide ([(o.1, o.2)] = [(x.1, x.2)]) = false := decide_eq_false (fun h => hox (by injection h))
      rw [hd] at hsame
      simp only [law25_LcpoAnswers_L9, c1, decide_true, cond_true, g, Option.bind_some, hth, hfind, Bool.not_true, cond_false, hsame, c2]
  · have c1 : ¬ ((nak.length : Int) < (nak.length : Int)) := by omega
    simp only [law25_LcpoAnswers_L9, c1, decide_false, cond_false]
theorem law_LcpoAnswers (l : List Op) (proves : Bool) (n : Arr Int 2) (h1 : wfT (.sl (.pair (.int .u8) (.sl (.int .u8)))) l) (h2 : wfT .bool proves) (h3 : wfT (.arr 2 (.int .u32)) n) : law25_LcpoAnswers 200000 l proves n = some true := by
  have hw := wf_opts h1
  match n, h3 with
  | ⟨[own, fresh], hn⟩, h3 =>
    have hf := wf_u32' (h3 fresh (by simp))
    unfold law25_LcpoAnswers
    obtain ⟨f, hfar, hf2⟩ := far_ok (N := 200000) l (by omega)
    rw [hfar, Option.bind_some]
    cases f with
    | true => simp only [cond_true, alive25, Option.bind_some]
    | false =>
      obtain ⟨hl, hs⟩ := hf2 rfl
      obtain ⟨rej, nak, q1, q2, q3, q4, q5, q6⟩ := judge_ok (N := 200000) l proves own fresh hw hl hs hf (by omega)
      have g0 : getI ([own, fresh] : List Int) 0 = some own := rfl
      have g1 : getI ([own, fresh] : List Int) 1 = some fresh := rfl
      have hrl := q1.length_le
      have hth := theirs_ok (N := 200000) l (by omega) (by omega)
      simp only [cond_false, hth, Option.bind_some, g0, g1, q5]
      by_cases hr : 0 < rej.length
      · have c4 : ((0 : Int) < (rej.length : Int)) := by omega
        have ham := among_ok (N := 200000) rej l (wfO_sub hw q1) hw (by omega) (by omega) (by omega)
        have has : amS rej l = true := decide_eq_true q1
        have n2 : ¬ ((4 : Int) = 2) := by decide
        have n3 : ¬ ((4 : Int) = 3) := by decide
        simp only [hr, if_true, n2, n3, decide_false, cond_false, decide_true, cond_true, c4, ham, has, Option.bind_some, alive25]
      · by_cases hk : 0 < nak.length
        · have c3 : ((0 : Int) < (nak.length : Int)) := by omega
          have n2 : ¬ ((3 : Int) = 2) := by decide
          have hloop := answers_loop l own fresh ⟨[own, fresh], hn⟩ rfl nak hw hl hs q3 (wfO_nk q3 q4) (by omega)
          simp only [hr, hk, if_true, if_false, n2, decide_false, cond_false, decide_true, cond_true]
          refine (congrArg (fun o => Option.bind o _) hloop).trans ?_
          simp only [Option.bind_some, Sum.elim_inr, c3, decide_true, cond_true, alive25]
        · have hsame := osame_ok (N := 200000) l l hw hw (by omega) (by omega)
          simp only [hr, hk, if_false, decide_true, cond_true, hsame, Option.bind_some, alive25]
end Go.Proofs.Ytjfmcfilenbmbaa
