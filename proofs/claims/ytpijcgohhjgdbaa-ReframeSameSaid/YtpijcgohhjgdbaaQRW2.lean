/-
  One stream in pieces, one byte by byte: round by round.
-/
import Derived.Test.YtpijcgohhjgdbaaQRW1
namespace Go.Proofs.Ytpijcgohhjgdbaa
set_option maxRecDepth 100000
open Go.RowKit
set_option linter.unusedVariables false
set_option linter.unusedSimpArgs false
set_option maxRecDepth 100000

abbrev S6 := (List Int × List (List Int) × Int × Int × Unit) × Bool × Int × Int × Int × Bool × Int × Int × Int × List Pk × List Int × List Int × Unit
abbrev O6 := ((Bool × Unit) × Unit) ⊕ ((List Int × Unit) × Bool × Int × Int × Int × Bool × Int × Int × Int × List Pk × List Int × List Int × Unit)
def st6 (b : List Int) (ps : List (List Int)) (i : Nat) (P : List Int) : S6 := ((b, ps, (ps.length : Int), (i : Int), ()), true, ((D P).1.length : Int), ((D P).2.1 : Int), (D P).2.2.1, true, 0, 0, 0, (D P).1, stH P, [], ())
theorem step6 (X : S6 → Option O6) (b : List Int) (ps : List (List Int)) (i : Nat) (P : List Int) (hi : i < ps.length) (hP : AllB P) (hp : AllB ps[i]) (hl : P.length + ps[i].length ≤ 3000) (h21 : ps.length ≤ 21) :
    law19_ReframeSame_L6 200000 X b ps (ps.length : Int) (i : Int) true ((D P).1.length : Int) ((D P).2.1 : Int) (D P).2.2.1 true 0 0 0 (D P).1 (stH P) [] = X (st6 b ps (i + 1) (P ++ ps[i])) := by
  have d1 : decide ((i : Int) < (ps.length : Int)) = true := decide_eq_true (by omega)
  have w4 : Go.IntKind.wrap .i64 ((i : Int) + 1) = ((i + 1 : Nat) : Int) := by rw [wrap64 (by omega) (by omega)]; omega
  obtain ⟨f1, f2, f3, f4, f5⟩ := D_facts _ P (Nat.le_refl _) hP
  obtain ⟨k1, k2, k3, k4, k5⟩ := D_facts _ (P ++ ps[i]) (Nat.le_refl _) (hP.append hp)
  rw [List.length_append] at k1
  have hsB := stH_B P hP
  obtain ⟨s1, s2⟩ := stH_len P hP
  obtain ⟨n1, n2⟩ := stH_len (P ++ ps[i]) (hP.append hp)
  rw [List.length_append] at n2
  have r0 : roomB ((D P).1.length + ([] : List Pk).length) 56 = true := by
    simp only [List.length_nil]
    exact roomB_of (by have := big_len; omega) (by omega)
  have d0 : decide ((4095 : Int) ≤ (((stH P).length : Nat) : Int)) = false := decide_eq_false (by omega)
  unfold law19_ReframeSame_L6 st6
  by_cases he : (D P).2.2.1 = 0
  · obtain ⟨e1, e2, e3, e4⟩ := D_step P ps[i] hP hp he
    have hroom : roomB ((stH P).length + ps[i].length) 1 = true := roomB_of (by have := big_len; omega) (by omega)
    have hwr := write08 (N := 200000) true 0 true 0 0 0 (D P).1 [] (by decide) 200000 (stH P ++ ps[i]) ((D P).1.length : Int) ((D P).2.1 : Int) [] (hsB.append hp) (by rw [List.length_append]; omega) (by rw [List.length_append]; omega) (by omega) (by rw [List.length_append]; omega) (by omega) (by rw [List.length_append]; omega) (by rw [List.length_append]; simp only [List.length_nil]; omega)
    have hwr : law19_ReframeSame_8_reframe_Stream_Write_L7_R 200000 ((stH P ++ ps[i], ()), true, ((D P).1.length : Int), ((D P).2.1 : Int), 0, true, 0, 0, 0, (D P).1, [], [], ()) = some (wr08 (D (stH P ++ ps[i])) true ((D P).1.length : Int) ((D P).2.1 : Int) 0 true 0 0 0 (D P).1 [] []) := hwr
    have nB := stH_B (P ++ ps[i]) (hP.append hp)
    have hw := wants_ok (P ++ ps[i]) (hP.append hp)
    rw [e1] at k3
    rw [e2] at k1 k3
    rw [e1, e2, e3, e4]
    rw [e4] at n1 n2 nB hw
    simp only [d1, cond_true, getI_lt ps i hi, Option.bind_some, Bool.not_true, cond_false, he, decide_true, hroom]
    rw [hwr]
    simp only [Option.bind_some]
    generalize D (stH P ++ ps[i]) = d at *
    rw [List.length_append] at k3
    have r2 : roomB ((D P).1.length + d.1.length) 56 = true := roomB_of (by have := big_len; omega) (by omega)
    have ef : ((((D P).1 ++ d.1).length : Nat) : Int) = ((D P).1.length : Int) + (d.1.length : Int) := by rw [List.length_append]; omega
    have eg : ((((D P).2.1 + d.2.1 : Nat)) : Int) = (((D P).2.1 : Nat) : Int) + ((d.2.1 : Nat) : Int) := by omega
    rw [ef, eg]
    by_cases hd : d.2.2.1 = 0
    · simp only [hd, if_true] at n1 n2 nB hw ⊢
      have hlp := plen_ok (N := 200000) d.2.2.2 nB (by decide)
      have d4 : decide ((4095 : Int) ≤ ((d.2.2.2.length : Nat) : Int)) = false := decide_eq_false (by omega)
      have r3 : roomB d.2.2.2.length 1 = true := roomB_of (by have := big_len; omega) (by omega)
      simp only [wr08, hd, if_true, Sum.elim_inl, r3, List.nil_append, r2, cond_true, d4, cond_false, Bool.not_true, decide_true, hlp, Option.bind_some, w4]
      rcases hw with ⟨q1, q2⟩ | ⟨q1, q2, q3⟩
      · have w5 : Go.IntKind.wrap .i64 ((4 : Int) - ((d.2.2.2.length : Nat) : Int)) = (4 : Int) - ((d.2.2.2.length : Nat) : Int) := wrap64 (by omega) (by omega)
        have d6 : decide ((4 : Int) - ((d.2.2.2.length : Nat) : Int) < 0) = false := decide_eq_false (by omega)
        have d7 : decide ((lenS d.2.2.2).2 = 0) = false := decide_eq_false (by omega)
        simp only [d7, w5, d6, Bool.not_false, cond_true, cond_false]
      · have w5 : Go.IntKind.wrap .i64 ((lenS d.2.2.2).1 - ((d.2.2.2.length : Nat) : Int)) = (lenS d.2.2.2).1 - ((d.2.2.2.length : Nat) : Int) := wrap64 (by omega) (by omega)
        have d6 : decide ((lenS d.2.2.2).1 - ((d.2.2.2.length : Nat) : Int) < 0) = false := decide_eq_false (by omega)
        simp only [q1, decide_true, Bool.not_true, w5, d6, cond_true, cond_false]
    · simp only [hd, if_false] at n1 n2 nB hw ⊢
      simp only [wr08, hd, if_false, Sum.elim_inr, List.nil_append, r2, cond_true, cond_false, Bool.not_true, decide_false, Bool.not_false, w4]
  · obtain ⟨e1, e2, e3, e4⟩ := D_stop P ps[i] hP hp he
    have hs : stH P = [] := by unfold stH; rw [if_neg he]
    rw [e1, e2, e3, e4, ← hs]
    simp only [d1, cond_true, getI_lt ps i hi, Option.bind_some, Bool.not_true, cond_false, he, decide_false, Bool.not_false, r0, d0, w4, List.append_nil]
theorem loop6 (b : List Int) (ps : List (List Int)) (hb : AllB b) (hl : b.length ≤ 3000) (p2 : ps.flatten = b) (p3 : ps.length ≤ 21) :
    law19_ReframeSame_L6_R 200000 ((b, ps, (ps.length : Int), 0, ()), true, 0, 0, 0, true, 0, 0, 0, [], [], [], ()) = some (.inr ((b, ()), true, ((D b).1.length : Int), ((D b).2.1 : Int), (D b).2.2.1, true, 0, 0, 0, (D b).1, stH b, [], ())) := by
  have h := gl_run (G := fun (X : S6 → Option O6) (c : S6) => law19_ReframeSame_L6 200000 X c.1.1 c.1.2.1 c.1.2.2.1 c.1.2.2.2.1 c.2.1 c.2.2.1 c.2.2.2.1 c.2.2.2.2.1 c.2.2.2.2.2.1 c.2.2.2.2.2.2.1 c.2.2.2.2.2.2.2.1 c.2.2.2.2.2.2.2.2.1 c.2.2.2.2.2.2.2.2.2.1 c.2.2.2.2.2.2.2.2.2.2.1 c.2.2.2.2.2.2.2.2.2.2.2.1)
    (fun i => st6 b ps i (ps.take i).flatten) ps.length (.inr ((b, ()), true, ((D b).1.length : Int), ((D b).2.1 : Int), (D b).2.2.1, true, 0, 0, 0, (D b).1, stH b, [], ()))
    (fun X i hi => by
      have hfl : (ps.take (i + 1)).flatten = (ps.take i).flatten ++ ps[i] := by rw [← List.take_append_getElem hi, List.flatten_append]; simp
      have hPB : AllB (ps.take i).flatten := fun x hx => hb x (by
        rw [← p2]
        obtain ⟨l, hl, hx⟩ := List.mem_flatten.1 hx
        exact List.mem_flatten.2 ⟨l, List.mem_of_mem_take hl, hx⟩)
      have hpB : AllB ps[i] := fun x hx => hb x (by rw [← p2]; exact List.mem_flatten.2 ⟨ps[i], List.getElem_mem hi, hx⟩)
      have hlen : (ps.take i).flatten.length + ps[i].length ≤ b.length := by
        have h := congrArg List.length p2
        rw [← List.take_append_drop (i + 1) ps, List.flatten_append, List.length_append, hfl, List.length_append] at h
        omega
      have := step6 X b ps i (ps.take i).flatten hi hPB hpB (by omega) p3
      simp only [hfl]
      exact this)
    (fun X => by
      have d1 : decide ((ps.length : Int) < (ps.length : Int)) = false := decide_eq_false (by omega)
      simp only [List.take_length, p2, st6, law19_ReframeSame_L6, d1, cond_false])
    200000 0 (by omega) (by omega)
  exact h
/-! ### Byte by byte -/
abbrev S14 := (List Int × List Pk × Int × Int × Unit) × Bool × Int × Int × Int × Bool × Int × Int × Int × List Pk × List Int × List Int × Unit
abbrev O14 := (List Pk × Unit) × Bool × Int × Int × Int × Bool × Int × Int × Int × List Pk × List Int × List Int × Unit
def st14 (b : List Int) (l : List Pk) (s1 s2 s3 : Int) (B : List Int) (i : Nat) (P : List Int) : S14 := ((b, l, (b.length : Int), (i : Int), ()), true, s1, s2, s3, true, ((D P).1.length : Int), ((D P).2.1 : Int), (D P).2.2.1, (D P).1, B, stH P, ())
theorem step14 (X : S14 → Option O14) (b : List Int) (l : List Pk) (s1 s2 s3 : Int) (B : List Int) (i : Nat) (P : List Int) (hi : i < b.length) (hP : AllB P) (hp : AllB b) (hl : P.length + 1 ≤ 3000) (hb : b.length ≤ 3000) :
    law19_ReframeSame_L14 200000 X b l (b.length : Int) (i : Int) true s1 s2 s3 true ((D P).1.length : Int) ((D P).2.1 : Int) (D P).2.2.1 (D P).1 B (stH P) = X (st14 b l s1 s2 s3 B (i + 1) (P ++ [b[i]])) := by
  have d1 : decide ((i : Int) < (b.length : Int)) = true := decide_eq_true (by omega)
  have w4 : Go.IntKind.wrap .i64 ((i : Int) + 1) = ((i + 1 : Nat) : Int) := by rw [wrap64 (by omega) (by omega)]; omega
  have hsub : subI b (i : Int) ((i + 1 : Nat) : Int) = some [b[i]] := by
    rw [subI_nat b rfl rfl (by omega) (by omega)]
    rw [show i + 1 - i = 1 by omega, List.drop_eq_getElem_cons hi]
    rfl
  have hp1 : AllB [b[i]] := fun x hx => by
    rw [List.mem_singleton.1 hx]
    exact hp _ (List.getElem_mem hi)
  generalize hpp : [b[i]] = p at *
  have hpl : p.length = 1 := by rw [← hpp]; rfl
  obtain ⟨f1, f2, f3, f4, f5⟩ := D_facts _ P (Nat.le_refl _) hP
  obtain ⟨k1, k2, k3, k4, k5⟩ := D_facts _ (P ++ p) (Nat.le_refl _) (hP.append hp1)
  rw [List.length_append] at k1
  have hsB := stH_B P hP
  obtain ⟨s1', s2'⟩ := stH_len P hP
  obtain ⟨n1, n2⟩ := stH_len (P ++ p) (hP.append hp1)
  rw [List.length_append] at n2
  have r0 : roomB ((D P).1.length + ([] : List Pk).length) 56 = true := by
    simp only [List.length_nil]
    exact roomB_of (by have := big_len; omega) (by omega)
  unfold law19_ReframeSame_L14 st14
  by_cases he : (D P).2.2.1 = 0
  · obtain ⟨e1, e2, e3, e4⟩ := D_step P p hP hp1 he
    have hroom : roomB ((stH P).length + p.length) 1 = true := roomB_of (by have := big_len; omega) (by omega)
    have hwr := write16 (N := 200000) true 0 true s1 s2 s3 (D P).1 B (by decide) 200000 (stH P ++ p) ((D P).1.length : Int) ((D P).2.1 : Int) [] (hsB.append hp1) (by rw [List.length_append]; omega) (by rw [List.length_append]; omega) (by omega) (by rw [List.length_append]; omega) (by omega) (by rw [List.length_append]; omega) (by rw [List.length_append]; simp only [List.length_nil]; omega)
    have hwr : law19_ReframeSame_16_reframe_Stream_Write_L7_R 200000 ((stH P ++ p, ()), true, s1, s2, s3, true, ((D P).1.length : Int), ((D P).2.1 : Int), 0, (D P).1, B, [], ()) = some (wr16 (D (stH P ++ p)) true ((D P).1.length : Int) ((D P).2.1 : Int) 0 true s1 s2 s3 (D P).1 B []) := hwr
    rw [e1] at k3
    rw [e2] at k1 k3
    rw [e1, e2, e3, e4]
    rw [e4] at n1 n2
    simp only [d1, cond_true, w4, hsub, Option.bind_some, Bool.not_true, cond_false, he, decide_true, hroom]
    rw [hwr]
    simp only [Option.bind_some]
    generalize D (stH P ++ p) = d at *
    rw [List.length_append] at k3
    have r2 : roomB ((D P).1.length + d.1.length) 56 = true := roomB_of (by have := big_len; omega) (by omega)
    have ef : ((((D P).1 ++ d.1).length : Nat) : Int) = ((D P).1.length : Int) + (d.1.length : Int) := by rw [List.length_append]; omega
    have eg : ((((D P).2.1 + d.2.1 : Nat)) : Int) = (((D P).2.1 : Nat) : Int) + ((d.2.1 : Nat) : Int) := by omega
    rw [ef, eg]
    by_cases hd : d.2.2.1 = 0
    · simp only [hd, if_true] at n1 n2 ⊢
      have r3 : roomB d.2.2.2.length 1 = true := roomB_of (by have := big_len; omega) (by omega)
      simp only [wr16, hd, if_true, Sum.elim_inl, r3, List.nil_append, r2, cond_true]
    · simp only [hd, if_false] at n1 n2 ⊢
      simp only [wr16, hd, if_false, Sum.elim_inr, List.nil_append, r2, cond_true]
  · obtain ⟨e1, e2, e3, e4⟩ := D_stop P p hP hp1 he
    have hs : stH P = [] := by unfold stH; rw [if_neg he]
    rw [e1, e2, e3, e4, ← hs]
    simp only [d1, cond_true, w4, hsub, Option.bind_some, Bool.not_true, cond_false, he, decide_false, Bool.not_false, r0, List.append_nil]
theorem loop14 (b : List Int) (l : List Pk) (s1 s2 s3 : Int) (B : List Int) (hb : AllB b) (hl : b.length ≤ 3000) :
    law19_ReframeSame_L14_R 200000 ((b, l, (b.length : Int), 0, ()), true, s1, s2, s3, true, 0, 0, 0, [], B, [], ()) = some ((l, ()), true, s1, s2, s3, true, ((D b).1.length : Int), ((D b).2.1 : Int), (D b).2.2.1, (D b).1, B, stH b, ()) := by
  have h := gl_run (G := fun (X : S14 → Option O14) (c : S14) => law19_ReframeSame_L14 200000 X c.1.1 c.1.2.1 c.1.2.2.1 c.1.2.2.2.1 c.2.1 c.2.2.1 c.2.2.2.1 c.2.2.2.2.1 c.2.2.2.2.2.1 c.2.2.2.2.2.2.1 c.2.2.2.2.2.2.2.1 c.2.2.2.2.2.2.2.2.1 c.2.2.2.2.2.2.2.2.2.1 c.2.2.2.2.2.2.2.2.2.2.1 c.2.2.2.2.2.2.2.2.2.2.2.1)
    (fun i => st14 b l s1 s2 s3 B i (b.take i)) b.length ((l, ()), true, s1, s2, s3, true, ((D b).1.length : Int), ((D b).2.1 : Int), (D b).2.2.1, (D b).1, B, stH b, ())
    (fun X i hi => by
      have := step14 X b l s1 s2 s3 B i (b.take i) hi (hb.take _) hb (by rw [List.length_take]; omega) hl
      simp only [← List.take_append_getElem hi]
      exact this)
    (fun X => by
      have d1 : decide ((b.length : Int) < (b.length : Int)) = false := decide_eq_false (by omega)
      simp only [List.take_length, st14, law19_ReframeSame_L14, d1, cond_false])
    200000 0 (by omega) (by omega)
  exact h
end Go.Proofs.Ytpijcgohhjgdbaa
