/-
  What is told of each piece: round by round.
-/
import Derived.Test.YtpijcgohhjgdbaaQRV2
namespace Go.Proofs.Ytpijcgohhjgdbaa
set_option maxRecDepth 100000
open Go.RowKit
set_option linter.unusedVariables false
set_option linter.unusedSimpArgs false
set_option maxRecDepth 100000

abbrev S8 := (List Int × Int × Int × Int × List (List Int) × Int × Int × Unit) × Bool × Int × Int × Int × List Int × Unit
abbrev O8 := ((Bool × Unit) × Unit) ⊕ (Unit × Unit)
def st8 (b : List Int) (ps : List (List Int)) (i : Nat) (P : List Int) : S8 := ((b, (P.length : Int), ((D P).1.length : Int), (D P).2.2.1, ps, (ps.length : Int), (i : Int), ()), true, ((D P).1.length : Int), ((D P).2.1 : Int), (D P).2.2.1, stH P, ())
theorem rest_ok (Q : List Int) (hQ : AllB Q) : Q.drop (D Q).2.1 = (D Q).2.2.2 ∧ (D Q).2.1 ≤ Q.length := by
  obtain ⟨f1, f2, f3, f4, f5⟩ := D_facts _ Q (Nat.le_refl _) hQ
  exact ⟨f2.symm, by omega⟩
theorem step8_stop (X : S8 → Option O8) (b z : List Int) (ps : List (List Int)) (i : Nat) (P : List Int) (hi : i < ps.length) (hP : AllB P) (hp : AllB ps[i]) (hb : b = P ++ ps[i] ++ z) (hl : (P ++ ps[i]).length ≤ 9000) (h21 : ps.length ≤ 21) (he : ¬ (D P).2.2.1 = 0) :
    law19_ReframeWrites_L8 200000 X b (P.length : Int) ((D P).1.length : Int) (D P).2.2.1 ps (ps.length : Int) (i : Int) true ((D P).1.length : Int) ((D P).2.1 : Int) (D P).2.2.1 (stH P) = X (st8 b ps (i + 1) (P ++ ps[i])) := by
  have d1 : decide ((i : Int) < (ps.length : Int)) = true := decide_eq_true (by omega)
  have w4 : Go.IntKind.wrap .i64 ((i : Int) + 1) = ((i + 1 : Nat) : Int) := by rw [wrap64 (by omega) (by omega)]; omega
  have hll : (P ++ ps[i]).length = P.length + ps[i].length := List.length_append
  have w0 : Go.IntKind.wrap .i64 ((P.length : Int) + (ps[i].length : Int)) = ((P ++ ps[i]).length : Int) := by rw [wrap64 (by omega) (by omega)]; omega
  have t0 : takeI b ((P ++ ps[i]).length : Int) = some (P ++ ps[i]) := by rw [hb]; exact takeI_pre _ _
  have a0 := all_ok (N := 200000) (P ++ ps[i]) (hP.append hp) (by omega) (by decide)
  unfold law19_ReframeWrites_L8 st8
  obtain ⟨e1, e2, e3, e4⟩ := D_stop P ps[i] hP hp he
  have hs : stH P = [] := by unfold stH; rw [if_neg he]
  simp only [d1, cond_true, getI_lt ps i hi, Option.bind_some, w0, t0, a0, Bool.not_true, cond_false, he, decide_false, Bool.not_false, decide_true, w4, e1, e2, e3, e4, hs]
abbrev S23 := (List Int × Int × Int × Int × List Pk × List Pk × List (List Int) × Int × Int × Int × Int × Unit) × Bool × Int × Int × Int × List Int × Unit
abbrev O23 := ((Bool × Unit) × Unit) ⊕ ((List Int × Int × Int × List Pk × List (List Int) × Int × Int × Unit) × Bool × Int × Int × Int × List Int × Unit)
theorem loop23 (b : List Int) (n br : Int) (acc l : List Pk) (ps : List (List Int)) (x i : Int) (made : Bool) (h1 h2 h3 : Int) (h4 : List Int) (hl : ∀ p ∈ l, wfP p ∧ okP p) (hn : acc.length + l.length ≤ 9000) :
    law19_ReframeWrites_L23_R 200000 ((b, n, (acc.length : Int), br, acc ++ l, l, ps, x, i, (l.length : Int), 0, ()), made, h1, h2, h3, h4, ()) = some (.inr ((b, n, br, acc ++ l, ps, x, i, ()), made, h1, h2, h3, h4, ())) := by
  have h := gl_run (G := fun (X : S23 → Option O23) (c : S23) => law19_ReframeWrites_L23 200000 X c.1.1 c.1.2.1 c.1.2.2.1 c.1.2.2.2.1 c.1.2.2.2.2.1 c.1.2.2.2.2.2.1 c.1.2.2.2.2.2.2.1 c.1.2.2.2.2.2.2.2.1 c.1.2.2.2.2.2.2.2.2.1 c.1.2.2.2.2.2.2.2.2.2.1 c.1.2.2.2.2.2.2.2.2.2.2.1 c.2.1 c.2.2.1 c.2.2.2.1 c.2.2.2.2.1 c.2.2.2.2.2.1)
    (fun j => ((b, n, (acc.length : Int), br, acc ++ l, l, ps, x, i, (l.length : Int), (j : Int), ()), made, h1, h2, h3, h4, ())) l.length (.inr ((b, n, br, acc ++ l, ps, x, i, ()), made, h1, h2, h3, h4, ()))
    (fun X j hj => by
      have d1 : decide ((j : Int) < (l.length : Int)) = true := decide_eq_true (by omega)
      have w4 : Go.IntKind.wrap .i64 ((j : Int) + 1) = ((j + 1 : Nat) : Int) := by rw [wrap64 (by omega) (by omega)]; omega
      have w5 : Go.IntKind.wrap .i64 ((acc.length : Int) + (j : Int)) = ((acc.length + j : Nat) : Int) := by rw [wrap64 (by omega) (by omega)]; omega
      have g2 : getI (acc ++ l) ((acc.length + j : Nat) : Int) = some l[j] := by
        rw [getI_lt _ _ (by rw [List.length_append]; omega)]
        simp
      obtain ⟨q1, q2⟩ := hl l[j] (List.getElem_mem hj)
      have ht := theirs_ok (N := 200000) l[j] (by have := q2.1; omega) (by decide)
      have hs := psame_ok (N := 200000) l[j] l[j] q1 q1 q2 q2 (by decide)
      simp only [law19_ReframeWrites_L23, d1, cond_true, getI_lt l j hj, Option.bind_some, w5, g2, ht, hs, decide_true, Bool.not_true, cond_false, w4])
    (fun X => by
      have d1 : decide ((l.length : Int) < (l.length : Int)) = false := decide_eq_false (by omega)
      simp only [law19_ReframeWrites_L23, d1, cond_false])
    200000 0 (by omega) (by omega)
  exact h
theorem step8_go (X : S8 → Option O8) (b z : List Int) (ps : List (List Int)) (i : Nat) (P : List Int) (hi : i < ps.length) (hP : AllB P) (hp : AllB ps[i]) (hb : b = P ++ ps[i] ++ z) (hl : (P ++ ps[i]).length ≤ 9000) (h21 : ps.length ≤ 21) (he : (D P).2.2.1 = 0) :
    law19_ReframeWrites_L8 200000 X b (P.length : Int) ((D P).1.length : Int) (D P).2.2.1 ps (ps.length : Int) (i : Int) true ((D P).1.length : Int) ((D P).2.1 : Int) (D P).2.2.1 (stH P) = X (st8 b ps (i + 1) (P ++ ps[i])) := by
  have d1 : decide ((i : Int) < (ps.length : Int)) = true := decide_eq_true (by omega)
  have w4 : Go.IntKind.wrap .i64 ((i : Int) + 1) = ((i + 1 : Nat) : Int) := by rw [wrap64 (by omega) (by omega)]; omega
  have hll : (P ++ ps[i]).length = P.length + ps[i].length := List.length_append
  have w0 : Go.IntKind.wrap .i64 ((P.length : Int) + (ps[i].length : Int)) = ((P ++ ps[i]).length : Int) := by rw [wrap64 (by omega) (by omega)]; omega
  have t0 : takeI b ((P ++ ps[i]).length : Int) = some (P ++ ps[i]) := by rw [hb]; exact takeI_pre _ _
  have hQB : AllB (P ++ ps[i]) := hP.append hp
  have a0 := all_ok (N := 200000) (P ++ ps[i]) hQB (by omega) (by decide)
  obtain ⟨f1, f2, f3, f4, f5⟩ := D_facts _ P (Nat.le_refl _) hP
  obtain ⟨k1, k2, k3, k4, k5⟩ := D_facts _ (P ++ ps[i]) (Nat.le_refl _) hQB
  obtain ⟨r1, r2⟩ := rest_ok (P ++ ps[i]) hQB
  have u0 : subI b ((D (P ++ ps[i])).2.1 : Int) ((P ++ ps[i]).length : Int) = some (D (P ++ ps[i])).2.2.2 := by rw [hb, subI_pre _ _ _ r2, r1]
  have hrB : AllB (D (P ++ ps[i])).2.2.2 := by rw [← r1]; exact hQB.drop _
  have hwa := wantsR (N := 200000) (D (P ++ ps[i])).2.2.2 hrB (by omega) (by decide)
  have hsB := stH_B P hP
  obtain ⟨s1, s2⟩ := stH_len P hP
  obtain ⟨e1, e2, e3, e4⟩ := D_step P ps[i] hP hp he
  have hroom : roomB ((stH P).length + ps[i].length) 1 = true := roomB_of (by have := big_len; omega) (by omega)
  have hwr := write12 (N := 200000) true 0 (by decide) 200000 (stH P ++ ps[i]) ((D P).1.length : Int) ((D P).2.1 : Int) [] (hsB.append hp) (by rw [List.length_append]; omega) (by rw [List.length_append]; omega) (by omega) (by rw [List.length_append]; omega) (by omega) (by rw [List.length_append]; omega) (by rw [List.length_append]; simp only [List.length_nil]; omega)
  have hwr : law19_ReframeWrites_12_reframe_Stream_Write_L7_R 200000 ((stH P ++ ps[i], ()), true, ((D P).1.length : Int), ((D P).2.1 : Int), 0, [], ()) = some (wr12 (D (stH P ++ ps[i])) true ((D P).1.length : Int) ((D P).2.1 : Int) 0 []) := hwr
  have e5 : (D (P ++ ps[i])).2.2.2 = (D (stH P ++ ps[i])).2.2.2 := by
    have e : stH P = (D P).2.2.2 := by unfold stH; rw [if_pos he]
    have := (D_app _ P ps[i] (Nat.le_refl _) hP hp).1 he
    rw [e, this]
  have nB := stH_B (P ++ ps[i]) hQB
  have hw := wants_ok (P ++ ps[i]) hQB
  unfold law19_ReframeWrites_L8 st8
  simp only [d1, cond_true, getI_lt ps i hi, Option.bind_some, w0, t0, a0, Bool.not_true, cond_false, he, decide_true, hroom, u0, hwa, w4]
  rw [hwr]
  rw [e1] at k3 k5
  rw [e2] at k1 k3
  rw [e5] at k1 hrB
  rw [e1, e2, e3, e4, e5]
  rw [e4] at nB hw
  generalize D (stH P ++ ps[i]) = d at *
  have hlen2 : ((D P).1 ++ d.1).length = (D P).1.length + d.1.length := List.length_append
  have l23 := fun (br h1 h2 h3 : Int) (h4 : List Int) => loop23 b ((P ++ ps[i]).length : Int) br (D P).1 d.1 ps (ps.length : Int) (i : Int) true h1 h2 h3 h4 (fun p hp => k5 p (List.mem_append_right _ hp)) (by omega)
  have ef : ((((D P).1 ++ d.1).length : Nat) : Int) = ((D P).1.length : Int) + (d.1.length : Int) := by omega
  have eg : ((((D P).2.1 + d.2.1 : Nat)) : Int) = (((D P).2.1 : Nat) : Int) + ((d.2.1 : Nat) : Int) := by omega
  have w6 : Go.IntKind.wrap .i64 (((D P).1.length : Int) + (d.1.length : Int) - ((D P).1.length : Int)) = (d.1.length : Int) := by rw [wrap64 (by omega) (by omega)]; omega
  have w7 : Go.IntKind.wrap .i64 (((P ++ ps[i]).length : Int) - ((((D P).2.1 : Nat) : Int) + ((d.2.1 : Nat) : Int))) = (d.2.2.2.length : Int) := by rw [wrap64 (by omega) (by omega)]; omega
  simp only [Option.bind_some]
  by_cases hd : d.2.2.1 = 0
  · simp only [hd, if_true] at nB hw ⊢
    have hlp := plen_ok (N := 200000) d.2.2.2 nB (by decide)
    have r3 : roomB d.2.2.2.length 1 = true := roomB_of (by have := big_len; omega) (by omega)
    simp only [wr12, hd, if_true, Sum.elim_inl, r3, List.nil_append, cond_true, cond_false, Bool.not_true, decide_true, hlp, Option.bind_some, w4, w7, ef, eg, w6]
    rcases hw with ⟨q1, q2⟩ | ⟨q1, q2, q3⟩
    · have w5 : Go.IntKind.wrap .i64 ((4 : Int) - ((d.2.2.2.length : Nat) : Int)) = (4 : Int) - ((d.2.2.2.length : Nat) : Int) := wrap64 (by omega) (by omega)
      have d7 : decide ((lenS d.2.2.2).2 = 0) = false := decide_eq_false (by omega)
      rw [if_pos (by omega)]
      simp only [d7, w5, decide_true, Bool.not_true, Bool.not_false, cond_true, cond_false, l23, Option.bind_some, Sum.elim_inr, w4, ef]
    · have q4 := lenS_fine q1 nB
      rw [if_neg (by omega)]
      simp only [q1, decide_true, Bool.not_true, Bool.not_false, cond_true, cond_false, l23, Option.bind_some, Sum.elim_inr, w4, ef]
  · simp only [hd, if_false] at nB hw ⊢
    simp only [wr12, hd, if_false, Sum.elim_inr, List.nil_append, cond_true, cond_false, Bool.not_true, decide_false, Bool.not_false, decide_true, w4, ef, eg, w6, List.length_nil, Int.natCast_zero, Option.bind_some, l23]
theorem law_ReframeWrites (b at' : List Int) (hb0 : wfT (.sl (.int .u8)) b) (hat0 : wfT (.sl (.int .u16)) at') : law19_ReframeWrites 200000 b at' = some true := by
  have hb := wf_bytes hb0
  have hat : ∀ x ∈ at', 0 ≤ x ∧ x < 65536 := fun x hx => by
    have h := hat0.2 x hx
    have h : (Lit.int .u16 x).wf = true := h
    simp only [Lit.wf, Bool.and_eq_true, decide_eq_true_eq, IntKind.min, IntKind.max, IntKind.signed, IntKind.bits] at h
    simp at h
    omega
  unfold law19_ReframeWrites
  by_cases h6 : (9000 : Int) < ((b.length : Nat) : Int)
  · rw [decide_eq_true h6]
    simp only [cond_true, alive19, Option.bind_some]
  · rw [decide_eq_false h6]
    obtain ⟨ps, p1, p2, p3⟩ := cuts_ok (N := 200000) b at' (by omega) hat (by decide)
    rw [p1]
    simp only [cond_false, Option.bind_some]
    have h := gl_run (G := fun (X : S8 → Option O8) (c : S8) => law19_ReframeWrites_L8 200000 X c.1.1 c.1.2.1 c.1.2.2.1 c.1.2.2.2.1 c.1.2.2.2.2.1 c.1.2.2.2.2.2.1 c.1.2.2.2.2.2.2.1 c.2.1 c.2.2.1 c.2.2.2.1 c.2.2.2.2.1 c.2.2.2.2.2.1)
      (fun i => st8 b ps i (ps.take i).flatten) ps.length (.inr ((), ()))
      (fun X i hi => by
        have hfl : (ps.take (i + 1)).flatten = (ps.take i).flatten ++ ps[i] := by rw [← List.take_append_getElem hi, List.flatten_append]; simp
        have hPB : AllB (ps.take i).flatten := fun x hx => hb x (by
          rw [← p2]
          obtain ⟨l, hl, hx⟩ := List.mem_flatten.1 hx
          exact List.mem_flatten.2 ⟨l, List.mem_of_mem_take hl, hx⟩)
        have hpB : AllB ps[i] := fun x hx => hb x (by rw [← p2]; exact List.mem_flatten.2 ⟨ps[i], List.getElem_mem hi, hx⟩)
        have hbz : b = (ps.take i).flatten ++ ps[i] ++ (ps.drop (i + 1)).flatten := by
          rw [← hfl, ← List.flatten_append, List.take_append_drop, p2]
        have hlen : ((ps.take i).flatten ++ ps[i]).length ≤ 9000 := by
          have h := congrArg List.length hbz
          rw [List.length_append] at h
          omega
        simp only [hfl]
        by_cases he : (D (ps.take i).flatten).2.2.1 = 0
        · exact step8_go X b _ ps i (ps.take i).flatten hi hPB hpB hbz hlen p3 he
        · exact step8_stop X b _ ps i (ps.take i).flatten hi hPB hpB hbz hlen p3 he)
      (fun X => by
        have d1 : decide ((ps.length : Int) < (ps.length : Int)) = false := decide_eq_false (by omega)
        simp only [st8]
        unfold law19_ReframeWrites_L8
        rw [d1]
        rfl)
      200000 0 (by omega) (by omega)
    have h : law19_ReframeWrites_L8_R 200000 ((b, 0, 0, 0, ps, (ps.length : Int), 0, ()), true, 0, 0, 0, [], ()) = some (.inr ((), ())) := h
    rw [h]
    simp only [Option.bind_some, Sum.elim_inr, alive19]
end Go.Proofs.Ytpijcgohhjgdbaa
