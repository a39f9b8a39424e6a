/-
  Layer 25, on plain data: the law LcpoJudges.
-/
import Derived.Test.YtjfmcfilenbmbaaQL2
namespace Go.Proofs.Ytjfmcfilenbmbaa
set_option maxRecDepth 100000
open Go.RowKit
set_option linter.unusedVariables false
set_option linter.unusedSimpArgs false
set_option maxRecDepth 100000

/-- What the naked ones are. -/
def NK (l : List Op) (own fresh : Int) (nak : List Op) : Prop := ∀ o ∈ nak, AllB o.2 ∧ ∃ x, findS l o.1 = (x, true) ∧ (own ≠ fresh → fresh ≠ 0 → o ≠ x)
theorem NK.snoc {l : List Op} {own fresh : Int} {nak : List Op} {o : Op} (h : NK l own fresh nak) (h1 : AllB o.2) {x : Op} (h2 : findS l o.1 = (x, true)) (h3 : own ≠ fresh → fresh ≠ 0 → o ≠ x) : NK l own fresh (nak ++ [o]) := fun p hp => by
  rcases List.mem_append.1 hp with h' | h'
  · exact h p h'
  · rw [List.mem_singleton] at h'; subst h'; exact ⟨h1, x, h2, h3⟩
section
variable {N : Nat}
theorem judge_pair (l : List Op) (proves : Bool) (own fresh : Int) (hw : wfO l) (hl : l.length ≤ 40) (hs : ∀ o ∈ l, o.2.length ≤ 300) (hf : 0 ≤ fresh ∧ fresh < 4294967296) (hN : 100001 < N) : ∀ (k M i : Nat) (rej nak : List Op), k + i = l.length → k < M → rej.Sublist (l.take i) → nak.length ≤ i → NK l own fresh nak → (∀ o ∈ nak, 0 ≤ o.1 ∧ o.1 < 256) →
    ∃ rej' nak' : List Op, rej'.Sublist l ∧ nak'.length ≤ l.length ∧ NK l own fresh nak' ∧ (∀ o ∈ nak', 0 ≤ o.1 ∧ o.1 < 256) ∧
      gl (fun X c => lcpo_Judge_L3 N X c.1.1 c.1.2.1 c.1.2.2.1 c.1.2.2.2.1 c.1.2.2.2.2.1 c.1.2.2.2.2.2.1 c.1.2.2.2.2.2.2.1 c.2.1 c.2.2.1 c.2.2.2.1) M ((l, (proves, (own, (fresh, (l, ((l.length : Int), ((i : Int), ()))))))), (l.take i, (rej, (nak, ())))) = some ((), (l, (rej', (nak', ())))) ∧
      gl (fun X c => ref25_Judge_L3 N X c.1.1 c.1.2.1 c.1.2.2.1 c.1.2.2.2.1 c.1.2.2.2.2.1 c.2.1 c.2.2.1) M ((l, (proves, (own, (fresh, ((i : Int), ()))))), (rej, (nak, ()))) = some ((l, ()), (rej', (nak', ())))
  | 0, M + 1, i, rej, nak, hk, hM, hr, hn, hnk, hn8 => by
    have hi : i = l.length := by omega
    subst hi
    rw [List.take_length] at hr
    have c1 : ¬ ((l.length : Int) < (l.length : Int)) := by omega
    refine ⟨rej, nak, hr, hn, hnk, hn8, ?_, ?_⟩
    · rw [gl_succ, List.take_length]
      simp only [lcpo_Judge_L3, c1, decide_false, cond_false]
    · rw [gl_succ]
      simp only [ref25_Judge_L3, c1, decide_false, cond_false]
  | k + 1, M + 1, i, rej, nak, hk, hM, hr, hn, hnk, hn8 => by
    have hlt : i < l.length := by omega
    have c1 : ((i : Int) < (l.length : Int)) := by omega
    have e0 : Go.IntKind.wrap .i64 ((i : Int) + 1) = ((i + 1 : Nat) : Int) := by rw [wrap64 (by omega) (by omega)]; omega
    have g := getI_lt l i hlt
    have tk : takeI l (i : Int) = some (l.take i) := takeI_nat l rfl (by omega)
    have hwi := hw _ (List.getElem_mem hlt)
    have hsi := hs _ (List.getElem_mem hlt)
    have hfind := find_ok (N := N) (l.take i) l[i].1 (by rw [List.length_take]; omega) (fun o ho => by have := hs o (List.mem_of_mem_take ho); omega) (by omega)
    have hrfind := ref_find_ok (N := N) (l.take i) l[i].1 (by rw [List.length_take]; omega) (by omega)
    have hts : l.take (i + 1) = l.take i ++ [l[i]] := take_snoc l i hlt
    have hrl : rej.length ≤ i := by have := hr.length_le; rw [List.length_take] at this; omega
    have hal : (l.take i).length ≤ i := by rw [List.length_take]; omega
    have hcl : slices_Clone_byte_byte N l[i].2 = some l[i].2 := clone_ok _ (by omega)
    have rm : ∀ (x : List Op) (y : Op), x.length ≤ 41 → roomB (x.length + ([y] : List Op).length) 32 = true := fun x y hx => roomB_of (by have := big_len; simp; omega) (by simp; omega)
    have hnew := @findS_new l i hlt
    have hmay := may_ok (N := N) l[i] proves
    have hright := right_ok (N := N) l[i]
    have hbet := better_ok (N := N) l[i] own fresh hwi
    generalize hx : l[i] = x at *
    generalize hfs : findS (l.take i) x.1 = fs at *
    obtain ⟨fo, fb⟩ := fs
    obtain ⟨kx, dx⟩ := x
    have r1 := rm (l.take i) (kx, dx) (by omega)
    have r2 := rm rej (kx, dx) (by omega)
    -- rejected
    have reject : (fb = true ∨ may (kx, dx) proves = false) → _ := fun hc => judge_pair l proves own fresh hw hl hs hf hN k M (i + 1) (rej ++ [(kx, dx)]) nak (by omega) (by omega) (by rw [hts]; exact hr.append (List.Sublist.refl _)) (by omega) hnk hn8
    have keep : ∀ nak2 : List Op, nak2.length ≤ i + 1 → NK l own fresh nak2 → (∀ o ∈ nak2, 0 ≤ o.1 ∧ o.1 < 256) → _ := fun nak2 h1 h2 h3 => judge_pair l proves own fresh hw hl hs hf hN k M (i + 1) rej nak2 (by omega) (by omega) (by rw [hts]; exact hr.trans (List.sublist_append_left _ _)) h1 h2 h3
    by_cases hm : may (kx, dx) proves = true
    · have hm' := hm
      simp only [may, Bool.and_eq_true, decide_eq_true_eq, Bool.or_eq_true, Bool.not_eq_true', decide_eq_false_iff_not] at hm'
      obtain ⟨hsz, hpr⟩ := hm'
      cases fb with
      | true =>
        obtain ⟨rej', nak', q1, q2, q3, q4, q5, q6⟩ := reject (.inl rfl)
        refine ⟨rej', nak', q1, q2, q3, q4, ?_, ?_⟩
        · rw [gl_succ]
          simp only [lcpo_Judge_L3, c1, decide_true, cond_true, g, Option.bind_some, hcl, r1, tk, hfind, r2, e0]
          rw [← hts]
          exact q5
        · rw [gl_succ]
          simp only [ref25_Judge_L3, c1, decide_true, cond_true, tk, g, Option.bind_some, hrfind, hright, hsz, Bool.not_true, cond_false, r2, e0]
          exact q6
      | false =>
        obtain ⟨r, r', b1, b2, b3, b4⟩ := hbet hsz hf hN
        obtain ⟨⟨rk, rd⟩, rb⟩ := r
        obtain ⟨⟨rk', rd'⟩, rb'⟩ := r'
        simp only at b3
        subst b3
        cases rb with
        | false =>
          obtain ⟨rej', nak', q1, q2, q3, q4, q5, q6⟩ := keep nak (by omega) hnk hn8
          refine ⟨rej', nak', q1, q2, q3, q4, ?_, ?_⟩
          · rw [gl_succ]
            simp only [lcpo_Judge_L3, c1, decide_true, cond_true, cond_false, g, Option.bind_some, hcl, r1, tk, hfind, hmay, hm, Bool.not_true, b1, e0]
            rw [← hts]
            exact q5
          · rw [gl_succ]
            by_cases h3 : kx = 3
            · have hp : proves = true := by
                rcases hpr with h | h
                · exact absurd h3 h
                · exact h
              subst h3
              subst hp
              simp only [ref25_Judge_L3, c1, decide_true, cond_true, cond_false, tk, g, Option.bind_some, hrfind, hright, hsz, Bool.not_true, b2, e0]
              exact q6
            · simp only [ref25_Judge_L3, c1, decide_true, cond_true, cond_false, tk, g, Option.bind_some, hrfind, hright, hsz, Bool.not_true, h3, decide_false, b2, e0]
              exact q6
        | true =>
          obtain ⟨f1, f2, f3, f4, f5⟩ := b4 rfl
          simp only at f1 f2 f3 f4 f5
          obtain ⟨rfl, rfl⟩ := Prod.mk.inj f1
          have hnx := hnew rfl
          have r3 := rm nak (rk, rd) (by omega)
          obtain ⟨rej', nak', q1, q2, q3, q4, q5, q6⟩ := keep (nak ++ [(rk, rd)]) (by simp; omega) (hnk.snoc f3 (x := (kx, dx)) (by rw [f2]; exact hnx) f5) (fun o ho => by
            rcases List.mem_append.1 ho with h' | h'
            · exact hn8 o h'
            · rw [List.mem_singleton] at h'; subst h'; show 0 ≤ rk ∧ rk < 256; rw [f2]; exact hwi.1)
          refine ⟨rej', nak', q1, q2, q3, q4, ?_, ?_⟩
          · rw [gl_succ]
            simp only [lcpo_Judge_L3, c1, decide_true, cond_true, cond_false, g, Option.bind_some, hcl, r1, tk, hfind, hmay, hm, Bool.not_true, b1, r3, e0]
            rw [← hts]
            exact q5
          · rw [gl_succ]
            by_cases h3 : kx = 3
            · have hp : proves = true := by
                rcases hpr with h | h
                · exact absurd h3 h
                · exact h
              subst h3
              subst hp
              simp only [ref25_Judge_L3, c1, decide_true, cond_true, cond_false, tk, g, Option.bind_some, hrfind, hright, hsz, Bool.not_true, b2, r3, e0]
              exact q6
            · simp only [ref25_Judge_L3, c1, decide_true, cond_true, cond_false, tk, g, Option.bind_some, hrfind, hright, hsz, Bool.not_true, h3, decide_false, b2, r3, e0]
              exact q6
    · have hm0 : may (kx, dx) proves = false := by simpa using hm
      obtain ⟨rej', nak', q1, q2, q3, q4, q5, q6⟩ := reject (.inr hm0)
      refine ⟨rej', nak', q1, q2, q3, q4, ?_, ?_⟩
      · rw [gl_succ]
        cases fb with
        | true =>
          simp only [lcpo_Judge_L3, c1, decide_true, cond_true, g, Option.bind_some, hcl, r1, tk, hfind, r2, e0]
          rw [← hts]
          exact q5
        | false =>
          simp only [lcpo_Judge_L3, c1, decide_true, cond_true, cond_false, g, Option.bind_some, hcl, r1, tk, hfind, hmay, hm0, Bool.not_false, r2, e0]
          rw [← hts]
          exact q5
      · rw [gl_succ]
        by_cases hsz : (dx.length : Int) = sz kx
        · have hp : kx = 3 ∧ proves = false := by
            simp only [may, hsz, decide_true, Bool.true_and, Bool.or_eq_false_iff, Bool.not_eq_false', decide_eq_true_eq] at hm0
            exact hm0
          obtain ⟨rfl, rfl⟩ := hp
          cases fb with
          | true =>
            simp only [ref25_Judge_L3, c1, decide_true, cond_true, tk, g, Option.bind_some, hrfind, hright, hsz, Bool.not_true, cond_false, r2, e0]
            exact q6
          | false =>
            simp only [ref25_Judge_L3, c1, decide_true, cond_true, tk, g, Option.bind_some, hrfind, hright, hsz, Bool.not_true, Bool.not_false, cond_false, r2, e0]
            exact q6
        · simp only [ref25_Judge_L3, c1, decide_true, cond_true, tk, g, Option.bind_some, hrfind, hright, hsz, decide_false, Bool.not_false, r2, e0]
          exact q6
/-- Both judge alike. -/
theorem judge_ok (l : List Op) (proves : Bool) (own fresh : Int) (hw : wfO l) (hl : l.length ≤ 40) (hs : ∀ o ∈ l, o.2.length ≤ 300) (hf : 0 ≤ fresh ∧ fresh < 4294967296) (hN : 100001 < N) :
    ∃ rej nak : List Op, rej.Sublist l ∧ nak.length ≤ l.length ∧ NK l own fresh nak ∧ (∀ o ∈ nak, 0 ≤ o.1 ∧ o.1 < 256) ∧
      lcpo_Judge N l proves own fresh = some (if 0 < rej.length then (4, rej) else if 0 < nak.length then (3, nak) else (2, l)) ∧
      ref25_Judge N l proves own fresh = some (if 0 < rej.length then (4, rej) else if 0 < nak.length then (3, nak) else (2, l)) := by
  obtain ⟨rej, nak, q1, q2, q3, q4, q5, q6⟩ := judge_pair (N := N) l proves own fresh hw hl hs hf hN l.length N 0 [] [] (by omega) (by omega) (List.nil_sublist _) (by simp) (fun o ho => by cases ho) (fun o ho => by cases ho)
  refine ⟨rej, nak, q1, q2, q3, q4, ?_, ?_⟩
  · unfold lcpo_Judge
    refine (congrArg (fun o => Option.bind o _) (show lcpo_Judge_L3_R N ((l, (proves, (own, (fresh, (l, ((l.length : Int), ((0 : Int), ()))))))), (([] : List Op), (([] : List Op), (([] : List Op), ())))) = _ from q5)).trans ?_
    simp only [Option.bind_some]
    by_cases h1 : 0 < rej.length
    · have c1 : ((0 : Int) < (rej.length : Int)) := by omega
      simp only [c1, decide_true, cond_true, h1, if_true]
    · have c1 : ¬ ((0 : Int) < (rej.length : Int)) := by omega
      by_cases h2 : 0 < nak.length
      · have c2 : ((0 : Int) < (nak.length : Int)) := by omega
        simp only [c1, c2, decide_true, decide_false, cond_true, cond_false, h1, h2, if_true, if_false]
      · have c2 : ¬ ((0 : Int) < (nak.length : Int)) := by omega
        simp only [c1, c2, decide_false, cond_false, h1, h2, if_false]
  · unfold ref25_Judge
    refine (congrArg (fun o => Option.bind o _) (show ref25_Judge_L3_R N ((l, (proves, (own, (fresh, ((0 : Int), ()))))), (([] : List Op), (([] : List Op), ()))) = _ from q6)).trans ?_
    simp only [Option.bind_some]
    by_cases h1 : 0 < rej.length
    · have c1 : ((0 : Int) < (rej.length : Int)) := by omega
      simp only [c1, decide_true, cond_true, h1, if_true]
    · have c1 : ¬ ((0 : Int) < (rej.length : Int)) := by omega
      by_cases h2 : 0 < nak.length
      · have c2 : ((0 : Int) < (nak.length : Int)) := by omega
        simp only [c1, c2, decide_true, decide_false, cond_true, cond_false, h1, h2, if_true, if_false]
      · have c2 : ¬ ((0 : Int) < (nak.length : Int)) := by omega
        simp only [c1, c2, decide_false, cond_false, h1, h2, if_false]
theorem wfO_sub {l m : List Op} (h : wfO l) (hs : m.Sublist l) : wfO m := fun o ho => h o (hs.subset ho)
theorem wfO_nk {l nak : List Op} {own fresh : Int} (h : NK l own fresh nak) (h8 : ∀ o ∈ nak, 0 ≤ o.1 ∧ o.1 < 256) : wfO nak := fun o ho => ⟨h8 o ho, (h o ho).1⟩
end
theorem wf_u32' {n : Int} (h : (Lit.int .u32 n).wf = true) : 0 ≤ n ∧ n < 4294967296 := by
  simp only [Lit.wf, Bool.and_eq_true, decide_eq_true_eq, IntKind.min, IntKind.max, IntKind.signed, IntKind.bits] at h
  simp at h
  omega
theorem law_LcpoJudges (l : List Op) (proves : Bool) (n : Arr Int 2) (h1 : wfT (.sl (.pair (.int .u8) (.sl (.int .u8)))) l) (h2 : wfT .bool proves) (h3 : wfT (.arr 2 (.int .u32)) n) : law25_LcpoJudges 200000 l proves n = some true := by
  have hw := wf_opts h1
  match n, h3 with
  | ⟨[own, fresh], hn⟩, h3 =>
    have hf := wf_u32' (h3 fresh (by simp))
    unfold law25_LcpoJudges
    obtain ⟨f, hfar, hf2⟩ := far_ok (N := 200000) l (by omega)
    rw [hfar, Option.bind_some]
    cases f with
    | true => simp only [cond_true, alive25, Option.bind_some]
    | false =>
      obtain ⟨hl, hs⟩ := hf2 rfl
      obtain ⟨rej, nak, q1, q2, q3, q4, q5, q6⟩ := judge_ok (N := 200000) l proves own fresh hw hl hs hf (by omega)
      have g0 : getI ([own, fresh] : List Int) 0 = some own := rfl
      have g1 : getI ([own, fresh] : List Int) 1 = some fresh := rfl
      have hrl := q1.length_le
      have hres : wfO (if 0 < rej.length then ((4 : Int), rej) else if 0 < nak.length then (3, nak) else (2, l)).2 ∧ (if 0 < rej.length then ((4 : Int), rej) else if 0 < nak.length then (3, nak) else (2, l)).2.length ≤ 40 := by
        split
        · exact ⟨wfO_sub hw q1, by show rej.length ≤ 40; omega⟩
        · split
          · exact ⟨wfO_nk q3 q4, by show nak.length ≤ 40; omega⟩
          · exact ⟨hw, hl⟩
      simp only [cond_false, theirs_ok l (by omega) (by omega : 10000 ≤ 200000), Option.bind_some, g0, g1, q5, q6, decide_true, cond_true]
      generalize (if 0 < rej.length then ((4 : Int), rej) else if 0 < nak.length then (3, nak) else (2, l)) = r at *
      rw [theirs_ok r.2 (by omega) (by omega : 10000 ≤ 200000), Option.bind_some, osame_ok r.2 r.2 hres.1 hres.1 (by omega) (by omega : 10000 ≤ 200000), Option.bind_some]
      simp only [decide_true, cond_true, alive25, Option.bind_some]
end Go.Proofs.Ytjfmcfilenbmbaa
