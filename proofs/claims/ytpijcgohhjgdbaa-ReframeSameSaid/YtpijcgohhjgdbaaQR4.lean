/-
  Pieces or single bytes: the same packets.
-/
import Derived.Test.YtpijcgohhjgdbaaQRW2
namespace Go.Proofs.Ytpijcgohhjgdbaa
set_option maxRecDepth 100000
open Go.RowKit
set_option linter.unusedVariables false
set_option linter.unusedSimpArgs false
set_option maxRecDepth 100000

theorem loop24 (l : List Pk) (hl : ∀ p ∈ l, wfP p ∧ okP p) (hn : l.length ≤ 3000) :
    law19_ReframeSame_L24_R 200000 ((l, l, (l.length : Int), 0, ()), ()) = some (.inr ((), ())) := by
  have h := gl_run (G := fun (X : (List Pk × List Pk × Int × Int × Unit) × Unit → Option (((Bool × Unit) × Unit) ⊕ (Unit × Unit))) (c : (List Pk × List Pk × Int × Int × Unit) × Unit) => law19_ReframeSame_L24 200000 X c.1.1 c.1.2.1 c.1.2.2.1 c.1.2.2.2.1)
    (fun i => ((l, l, (l.length : Int), (i : Int), ()), ())) l.length (.inr ((), ()))
    (fun X i hi => by
      have d1 : decide ((i : Int) < (l.length : Int)) = true := decide_eq_true (by omega)
      have w4 : Go.IntKind.wrap .i64 ((i : Int) + 1) = ((i + 1 : Nat) : Int) := by rw [wrap64 (by omega) (by omega)]; omega
      obtain ⟨h1, h2⟩ := hl l[i] (List.getElem_mem hi)
      have hs := psame_ok (N := 200000) l[i] l[i] h1 h1 h2 h2 (by decide)
      simp only [law19_ReframeSame_L24, d1, cond_true, getI_lt l i hi, Option.bind_some, hs, decide_true, Bool.not_true, cond_false, w4])
    (fun X => by
      have d1 : decide ((l.length : Int) < (l.length : Int)) = false := decide_eq_false (by omega)
      simp only [law19_ReframeSame_L24, d1, cond_false])
    200000 0 (by omega) (by omega)
  exact h
theorem law_ReframeSame (b at' : List Int) (hb0 : wfT (.sl (.int .u8)) b) (hat0 : wfT (.sl (.int .u16)) at') : law19_ReframeSame 200000 b at' = some true := by
  have hb := wf_bytes hb0
  have hat : ∀ x ∈ at', 0 ≤ x ∧ x < 65536 := fun x hx => by
    have h := hat0.2 x hx
    have h : (Lit.int .u16 x).wf = true := h
    simp only [Lit.wf, Bool.and_eq_true, decide_eq_true_eq, IntKind.min, IntKind.max, IntKind.signed, IntKind.bits] at h
    simp at h
    omega
  unfold law19_ReframeSame
  by_cases h6 : (3000 : Int) < ((b.length : Nat) : Int)
  · rw [decide_eq_true h6]
    simp only [cond_true, alive19, Option.bind_some]
  · rw [decide_eq_false h6]
    obtain ⟨ps, p1, p2, p3⟩ := cuts_ok (N := 200000) b at' (by omega) hat (by decide)
    rw [p1]
    simp only [cond_false, Option.bind_some]
    rw [loop6 b ps hb (by omega) p2 p3]
    simp only [Option.bind_some, Sum.elim_inr]
    rw [loop14 b (D b).1 _ _ _ _ hb (by omega)]
    obtain ⟨f1, f2, f3, f4, f5⟩ := D_facts _ b (Nat.le_refl _) hb
    obtain ⟨s1, s2⟩ := stH_len b hb
    have hsB := stH_B b hb
    have l24 := loop24 (D b).1 f5 (by omega)
    have hid := D_idem b hb
    have w19 := write19 (N := 200000) true 0 true ((D b).1.length : Int) ((D b).2.1 : Int) 0 (D b).1 (stH b) (by decide) 200000 (stH b) ((D b).1.length : Int) ((D b).2.1 : Int) [] hsB (by omega) (by omega) (by omega) (by omega) (by omega) (by omega) (by simp only [List.length_nil]; omega)
    have w19 : law19_ReframeSame_19_reframe_Stream_Write_L7_R 200000 ((stH b, ()), true, ((D b).1.length : Int), ((D b).2.1 : Int), 0, true, ((D b).1.length : Int), ((D b).2.1 : Int), 0, (D b).1, stH b, [], ()) = some (wr19 (D (stH b)) true ((D b).1.length : Int) ((D b).2.1 : Int) 0 true ((D b).1.length : Int) ((D b).2.1 : Int) 0 (D b).1 (stH b) []) := w19
    have w20 := write20b (N := 200000) true 0 true ((D b).1.length : Int) ((D b).2.1 : Int) 0 (D b).1 [] (stH b) (by decide) 200000 (stH b) ((D b).1.length : Int) ((D b).2.1 : Int) [] hsB (by omega) (by omega) (by omega) (by omega) (by omega) (by omega) (by simp only [List.length_nil]; omega)
    have w20 : law19_ReframeSame_20_reframe_Stream_Write_L7_2_R 200000 ((stH b, ()), true, ((D b).1.length : Int), ((D b).2.1 : Int), 0, true, ((D b).1.length : Int), ((D b).2.1 : Int), 0, (D b).1, [], stH b, [], ()) = some (wr20b (D (stH b)) true ((D b).1.length : Int) ((D b).2.1 : Int) 0 true ((D b).1.length : Int) ((D b).2.1 : Int) 0 (D b).1 [] (stH b) []) := w20
    rw [hid] at w19 w20
    simp only [wr19, wr20b, if_true, List.length_nil, List.append_nil, Int.natCast_zero, Int.add_zero] at w19 w20
    have r1 : roomB (stH b).length 1 = true := roomB_of (by have := big_len; omega) (by omega)
    by_cases he : (D b).2.2.1 = 0
    · rw [he]
      simp only [Option.bind_some, Bool.not_true, cond_false, decide_true, List.length_nil, Nat.add_zero, List.append_nil, r1, cond_true, w19, Sum.elim_inl, w20, l24, Sum.elim_inr, alive19]
    · simp only [Option.bind_some, Bool.not_true, cond_false, he, decide_false, Bool.not_false, cond_true, decide_true, l24, Sum.elim_inr, alive19]
end Go.Proofs.Ytpijcgohhjgdbaa
