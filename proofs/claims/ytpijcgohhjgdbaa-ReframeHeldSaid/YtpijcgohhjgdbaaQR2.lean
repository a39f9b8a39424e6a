/-
  A reframer that takes bytes; bytes cut at places; the law on what is held.
-/
import Derived.Test.YtpijcgohhjgdbaaQR1
namespace Go.Proofs.Ytpijcgohhjgdbaa
set_option maxRecDepth 100000
open Go.RowKit
set_option linter.unusedVariables false
set_option linter.unusedSimpArgs false
set_option maxRecDepth 100000

variable {N : Nat}
abbrev WO := ((((List Int) × Unit) × ((Bool) × ((Int) × ((Int) × ((Int) × ((List Pk) × Unit)))))) ⊕ (((List Pk) × ((Int) × Unit)) × (((Bool) × ((List Int) × ((Int) × ((Int) × (Int))))) × Unit)))
/-- What is told of bytes, behind what was told. -/
def wres (d : Dr) (made : Bool) (cnt at' brk : Int) (told : List Pk) : WO :=
  if d.2.2.1 = 0 then .inl ((d.2.2.2, ()), (made, (cnt + d.1.length, (at' + d.2.1, (brk, (told ++ d.1, ()))))))
  else .inr ((told ++ d.1, (d.2.2.1, ())), ((made, ([], (cnt + d.1.length, (at' + d.2.1, d.2.2.1)))), ()))
theorem write_loop (made : Bool) (brk : Int) (hN : 10000 ≤ N) : ∀ (k : Nat) (b : List Int) (cnt at' : Int) (told : List Pk), AllB b → b.length < k → b.length ≤ 100000 → 0 ≤ cnt → cnt + b.length ≤ 1000000 → 0 ≤ at' → at' + b.length ≤ 1000000 → told.length + b.length ≤ 1000000 →
    gl (fun (X : (((List (Int)) × Unit) × ((Bool) × ((Int) × ((Int) × ((Int) × ((List Pk) × Unit)))))) → Option WO) c => law19_ReframeHeld_8_reframe_Stream_Write_L7 N X c.1.1 c.2.1 c.2.2.1 c.2.2.2.1 c.2.2.2.2.1 c.2.2.2.2.2.1) k ((b, ()), (made, (cnt, (at', (brk, (told, ())))))) = some (wres (D b) made cnt at' brk told)
  | 0, b, _, _, _, _, h, _, _, _, _, _, _ => by omega
  | k + 1, b, cnt, at', told, hw, hk, hb, h1, h2, h3, h4, h5 => by
    rw [gl_succ]
    show law19_ReframeHeld_8_reframe_Stream_Write_L7 N (gl _ k) b made cnt at' brk told = _
    have ih := write_loop made brk hN k
    generalize gl (fun (X : (((List (Int)) × Unit) × ((Bool) × ((Int) × ((Int) × ((Int) × ((List Pk) × Unit)))))) → Option WO) c => law19_ReframeHeld_8_reframe_Stream_Write_L7 N X c.1.1 c.2.1 c.2.2.1 c.2.2.2.1 c.2.2.2.2.1 c.2.2.2.2.2.1) k = Y at ih ⊢
    unfold law19_ReframeHeld_8_reframe_Stream_Write_L7
    rw [plen_ok b hw hN, Option.bind_some, D_eq b hw]
    by_cases a1 : b.length < 4
    · rw [if_pos a1, lenS_lt a1]
      simp [wres]
    · rw [if_neg a1]
      have e4 := lenS_err (b := b) (by omega)
      rw [decide_eq_false e4]
      by_cases a2 : (lenS b).2 ≠ 0
      · rw [if_pos a2, decide_eq_false a2]
        simp [wres, a2]
      · rw [if_neg a2]
        have a2 : (lenS b).2 = 0 := Decidable.not_not.1 a2
        have hf := lenS_fine a2 hw
        rw [decide_eq_true a2]
        by_cases a3 : (b.length : Int) < (lenS b).1
        · rw [if_pos a3, decide_eq_true a3]
          simp [wres]
        · rw [if_neg a3, decide_eq_false a3]
          have ht : takeI b (lenS b).1 = some (b.take (lenS b).1.toNat) := takeI_nat b (by omega) (by omega)
          have hd : dropI b (lenS b).1 = some (b.drop (lenS b).1.toNat) := dropI_nat b (by omega) (by omega)
          have hp := ppar_ok (N := N) (b.take (lenS b).1.toNat) (hw.take _) (by rw [List.length_take]; omega) hN
          simp only [cond_false, cond_true, Bool.not_true, ht, Option.bind_some, hp, hd]
          by_cases a4 : (parP (b.take (lenS b).1.toNat)).2 ≠ 0
          · rw [if_pos a4, decide_eq_false a4]
            simp [wres, a4]
          · rw [if_neg a4]
            have a4 : (parP (b.take (lenS b).1.toNat)).2 = 0 := Decidable.not_not.1 a4
            rw [decide_eq_true a4]
            have hr : roomB (told.length + ([((parP (b.take (lenS b).1.toNat)).1.1, ((parP (b.take (lenS b).1.toNat)).1.2.1, ((parP (b.take (lenS b).1.toNat)).1.2.2.1, (parP (b.take (lenS b).1.toNat)).1.2.2.2)))] : List Pk).length) 56 = true := by
              simp only [List.length_cons, List.length_nil]
              exact roomB_of (by have := big_len; omega) (by omega)
            simp only [Bool.not_true, cond_false, hr, cond_true]
            have hdl : (b.drop (lenS b).1.toNat).length = b.length - (lenS b).1.toNat := List.length_drop
            have := ih (b.drop (lenS b).1.toNat) (cnt + 1) (at' + (lenS b).1) (told ++ [(parP (b.take (lenS b).1.toNat)).1]) (hw.drop _) (by omega) (by omega) (by omega) (by omega) (by omega) (by omega) (by rw [List.length_append]; simp only [List.length_cons, List.length_nil]; omega)
            rw [wrap64 (by omega) (by omega), wrap64 (by omega) (by omega)]
            refine Eq.trans ?_ (this.trans ?_)
            · rfl
            · unfold wres
              generalize D (b.drop (lenS b).1.toNat) = d
              have e1 : cnt + 1 + (d.1.length : Int) = cnt + (((parP (b.take (lenS b).1.toNat)).1 :: d.1).length : Int) := by simp only [List.length_cons]; omega
              have e2 : at' + (lenS b).1 + (d.2.1 : Int) = at' + (((lenS b).1.toNat + d.2.1 : Nat) : Int) := by omega
              simp only [e1, e2, List.append_assoc, List.cons_append, List.nil_append]
/-! ### Bytes cut -/
theorem minI20 (n : Nat) : ∃ m : Nat, minI (n : Int) 20 = (m : Int) ∧ m ≤ n ∧ m ≤ 20 := by
  refine ⟨min n 20, ?_, by omega, by omega⟩
  unfold minI
  split <;> omega
theorem cuts_ok (b at' : List Int) (hb : b.length ≤ 100000) (hat : ∀ x ∈ at', 0 ≤ x ∧ x < 65536) (hN : 10000 ≤ N) : ∃ ps, law19_cuts N b at' = some ps ∧ ps.flatten = b ∧ ps.length ≤ 21 := by
  obtain ⟨m, m1, m2, m3⟩ := minI20 at'.length
  have ht : takeI at' (m : Int) = some (at'.take m) := takeI_nat at' rfl m2
  have hm : ∀ x ∈ at'.take m, 0 ≤ x ∧ x < 65536 := fun x hx => hat x (List.mem_of_mem_take hx)
  have hml : (at'.take m).length = m := by rw [List.length_take]; omega
  generalize at'.take m = l at *
  have hloop := gl_inv (G := fun (X : (((List (Int)) × ((List (Int)) × ((Int) × ((Int) × Unit)))) × ((List (List (Int))) × Unit)) → Option ((((List (Int)) × Unit) × ((List (List (Int))) × Unit)))) c => law19_cuts_L3 N X c.1.1 c.1.2.1 c.1.2.2.1 c.1.2.2.2.1 c.2.1)
    (fun n c => ∃ (r : List Int) (out : List (List Int)), c = ((r, (l, ((l.length : Int), ((out.length : Int), ())))), (out, ())) ∧ out.length ≤ l.length ∧ n = l.length - out.length ∧ out.flatten ++ r = b)
    (fun o => o.2.1.flatten ++ o.1.1 = b ∧ o.2.1.length = l.length)
    (fun X n c hI => by
      obtain ⟨r, out, rfl, i1, i2, i3⟩ := hI
      have hrl : r.length ≤ b.length := by rw [← i3, List.length_append]; omega
      by_cases hlt : out.length < l.length
      · have d1 : decide ((out.length : Int) < (l.length : Int)) = true := decide_eq_true (by omega)
        have hx := hm l[out.length] (List.getElem_mem hlt)
        have w1 : Go.IntKind.wrap .i64 (((r.length : Nat) : Int) + 1) = ((r.length + 1 : Nat) : Int) := by rw [wrap64 (by omega) (by omega)]; omega
        have w2 : Go.IntKind.wrap .i64 l[out.length] = l[out.length] := wrap64 (by omega) (by omega)
        have d2 : decide (((r.length + 1 : Nat) : Int) = 0) = false := decide_eq_false (by omega)
        obtain ⟨k, hk1, hk2⟩ : ∃ k : Nat, Int.tmod l[out.length] ((r.length + 1 : Nat) : Int) = (k : Int) ∧ k ≤ r.length := by
          rw [Int.tmod_eq_emod_of_nonneg hx.1]
          have h1 := Int.emod_nonneg l[out.length] (show ((r.length + 1 : Nat) : Int) ≠ 0 by omega)
          have h2 := Int.emod_lt_of_pos l[out.length] (show (0 : Int) < ((r.length + 1 : Nat) : Int) by omega)
          exact ⟨(l[out.length] % ((r.length + 1 : Nat) : Int)).toNat, by omega, by omega⟩
        have t1 : takeI r (k : Int) = some (r.take k) := takeI_nat r rfl hk2
        have t2 : dropI r (k : Int) = some (r.drop k) := dropI_nat r rfl hk2
        have hr : roomB (out.length + ([r.take k] : List (List Int)).length) 24 = true := by
          simp only [List.length_cons, List.length_nil]
          exact roomB_of (by have := big_len; omega) (by omega)
        refine .inr ⟨l.length - (out ++ [r.take k]).length, ((r.drop k, (l, ((l.length : Int), (((out ++ [r.take k]).length : Int), ())))), (out ++ [r.take k], ())), by simp; omega, ⟨r.drop k, out ++ [r.take k], rfl, by simp; omega, rfl, by rw [List.flatten_append, List.append_assoc]; simp [← i3]⟩, ?_⟩
        have w3 : Go.IntKind.wrap .i64 ((out.length : Int) + 1) = (((out ++ [r.take k]).length : Nat) : Int) := by rw [wrap64 (by omega) (by omega)]; simp
        simp only [law19_cuts_L3, d1, cond_true, getI_lt l out.length hlt, Option.bind_some, w1, w2, d2, cond_false, hk1, t1, t2, hr, w3]
      · have d1 : decide ((out.length : Int) < (l.length : Int)) = false := decide_eq_false (by omega)
        exact .inl ⟨((r, ()), (out, ())), by simp only [law19_cuts_L3, d1, cond_false], i3, by show out.length = _; omega⟩)
    N l.length ((b, (l, ((l.length : Int), ((0 : Int), ())))), ([], ())) (by omega) ⟨b, [], rfl, by simp, by simp, rfl⟩
  obtain ⟨o, ho, q1, q2⟩ := hloop
  unfold law19_cuts
  rw [m1, ht, Option.bind_some]
  unfold law19_cuts_L3_R
  rw [ho, Option.bind_some]
  have hr : roomB (o.2.1.length + ([o.1.1] : List (List Int)).length) 24 = true := by
    simp only [List.length_cons, List.length_nil]
    exact roomB_of (by have := big_len; omega) (by omega)
  rw [hr]
  exact ⟨o.2.1 ++ [o.1.1], rfl, by rw [List.flatten_append]; simpa using q1, by rw [List.length_append]; simp; omega⟩
theorem alive19 : law19_alive 200000 = some true := by kernel_rfl
/-! ### What is held -/
theorem law_ReframeHeld (b at' : List Int) (hb0 : wfT (.sl (.int .u8)) b) (hat0 : wfT (.sl (.int .u16)) at') : law19_ReframeHeld 200000 b at' = some true := by
  have hb := wf_bytes hb0
  have hat : ∀ x ∈ at', 0 ≤ x ∧ x < 65536 := fun x hx => by
    have h := hat0.2 x hx
    have h : (Lit.int .u16 x).wf = true := h
    simp only [Lit.wf, Bool.and_eq_true, decide_eq_true_eq, IntKind.min, IntKind.max, IntKind.signed, IntKind.bits] at h
    simp at h
    omega
  unfold law19_ReframeHeld
  by_cases h6 : (6000 : Int) < ((b.length : Nat) : Int)
  · rw [decide_eq_true h6]
    simp only [cond_true, alive19, Option.bind_some]
  · rw [decide_eq_false h6]
    obtain ⟨ps, p1, p2, p3⟩ := cuts_ok (N := 200000) b at' (by omega) hat (by decide)
    rw [p1]
    simp only [cond_false, Option.bind_some]
    have hloop := gl_inv (G := fun (X : (((Int) × ((List (List (Int))) × ((Int) × ((Int) × Unit)))) × ((Bool) × ((Int) × ((Int) × ((Int) × ((List (Int)) × Unit)))))) → Option (((((Bool) × Unit) × Unit) ⊕ (Unit × Unit)))) c => law19_ReframeHeld_L6 200000 X c.1.1 c.1.2.1 c.1.2.2.1 c.1.2.2.2.1 c.2.1 c.2.2.1 c.2.2.2.1 c.2.2.2.2.1 c.2.2.2.2.2.1)
      (fun n c => ∃ i, i ≤ ps.length ∧ n = ps.length - i ∧ (D (ps.take i).flatten).2.2.1 = 0 ∧ c = ((((ps.take i).flatten.length : Int), (ps, ((ps.length : Int), ((i : Int), ())))), (true, (((D (ps.take i).flatten).1.length : Int), (((D (ps.take i).flatten).2.1 : Int), ((0 : Int), ((D (ps.take i).flatten).2.2.2, ())))))))
      (fun o => o = .inl ((true, ()), ()) ∨ o = .inr ((), ()))
      (fun X n c hI => by
        obtain ⟨i, i1, i2, i3, rfl⟩ := hI
        by_cases hi : i < ps.length
        · have d1 : decide ((i : Int) < (ps.length : Int)) = true := decide_eq_true (by omega)
          have hfl : (ps.take (i + 1)).flatten = (ps.take i).flatten ++ ps[i] := by rw [← List.take_append_getElem hi, List.flatten_append]; simp
          have hPB : AllB (ps.take i).flatten := fun x hx => hb x (by
            rw [← p2]
            obtain ⟨l, hl, hx⟩ := List.mem_flatten.1 hx
            exact List.mem_flatten.2 ⟨l, List.mem_of_mem_take hl, hx⟩)
          have hpB : AllB ps[i] := fun x hx => hb x (by rw [← p2]; exact List.mem_flatten.2 ⟨ps[i], List.getElem_mem hi, hx⟩)
          have hlen : (ps.take i).flatten.length + ps[i].length ≤ b.length := by
            have h := congrArg List.length p2
            rw [← List.take_append_drop (i + 1) ps, List.flatten_append, List.length_append, hfl, List.length_append] at h
            omega
          obtain ⟨f1, f2, f3, f4, f5⟩ := D_facts _ (ps.take i).flatten (Nat.le_refl _) hPB
          obtain ⟨g1, g2⟩ := D_app _ (ps.take i).flatten ps[i] (Nat.le_refl _) hPB hpB
          have hD := g1 i3
          generalize hP : (ps.take i).flatten = P at *
          have hrB : AllB (D P).2.2.2 := by rw [f2]; exact hPB.drop _
          have hwB : AllB ((D P).2.2.2 ++ ps[i]) := hrB.append hpB
          have hwl : ((D P).2.2.2 ++ ps[i]).length ≤ 6000 := by rw [List.length_append]; omega
          have hroom : roomB ((D P).2.2.2.length + ps[i].length) 1 = true := roomB_of (by have := big_len; omega) (by omega)
          have hwr := write_loop (N := 200000) true 0 (by decide) 200000 ((D P).2.2.2 ++ ps[i]) ((D P).1.length : Int) ((D P).2.1 : Int) [] hwB (by omega) (by omega) (by omega) (by omega) (by omega) (by omega) (by simp only [List.length_nil]; omega)
          have hwr : law19_ReframeHeld_8_reframe_Stream_Write_L7_R 200000 ((((D P).2.2.2 ++ ps[i]), ()), (true, (((D P).1.length : Int), (((D P).2.1 : Int), ((0 : Int), ([], ())))))) = some (wres (D ((D P).2.2.2 ++ ps[i])) true ((D P).1.length : Int) ((D P).2.1 : Int) 0 []) := hwr
          obtain ⟨k1, k2, k3, k4, k5⟩ := D_facts _ (P ++ ps[i]) (Nat.le_refl _) (hPB.append hpB)
          rw [List.length_append] at k1
          have hstep : law19_ReframeHeld_L6 200000 X (P.length : Int) ps (ps.length : Int) (i : Int) true ((D P).1.length : Int) ((D P).2.1 : Int) 0 (D P).2.2.2 =
            (if (D ((D P).2.2.2 ++ ps[i])).2.2.1 = 0 then X ((((P.length + ps[i].length : Nat) : Int), (ps, ((ps.length : Int), (((i + 1 : Nat) : Int), ())))), (true, (((D (P ++ ps[i])).1.length : Int), (((D (P ++ ps[i])).2.1 : Int), ((0 : Int), ((D (P ++ ps[i])).2.2.2, ())))))) else some (.inl ((true, ()), ()))) := by
            unfold law19_ReframeHeld_L6
            simp only [d1, cond_true, getI_lt ps i hi, Option.bind_some, Bool.not_true, cond_false, decide_true, hroom]
            rw [hwr]
            simp only [Option.bind_some]
            by_cases he : (D ((D P).2.2.2 ++ ps[i])).2.2.1 = 0
            · rw [if_pos he]
              have hDP : D (P ++ ps[i]) = ((D P).1 ++ (D ((D P).2.2.2 ++ ps[i])).1, (D P).2.1 + (D ((D P).2.2.2 ++ ps[i])).2.1, (D ((D P).2.2.2 ++ ps[i])).2.2.1, (D ((D P).2.2.2 ++ ps[i])).2.2.2) := hD
              have k4 := k4 (by rw [hDP]; exact he)
              rw [hDP] at k1 k3 k4 ⊢
              simp only at k1 k3 k4 ⊢
              generalize hd : D ((D P).2.2.2 ++ ps[i]) = d at *
              simp only [wres, he, if_true, Sum.elim_inl]
              have hkB : AllB d.2.2.2 := by
                have := (D_facts _ ((D P).2.2.2 ++ ps[i]) (Nat.le_refl _) hwB).2.1
                rw [hd] at this
                rw [this]; exact hwB.drop _
              have hr2 : roomB d.2.2.2.length 1 = true := roomB_of (by have := big_len; omega) (by omega)
              rw [List.length_append] at k3
              have w1 : Go.IntKind.wrap .i64 ((d.2.2.2.length : Int) + ((((D P).2.1 : Nat) : Int) + ((d.2.1 : Nat) : Int))) = ((P.length + ps[i].length : Nat) : Int) := by rw [wrap64 (by omega) (by omega)]; omega
              have w2 : Go.IntKind.wrap .i64 (((P.length : Nat) : Int) + ((ps[i].length : Nat) : Int)) = ((P.length + ps[i].length : Nat) : Int) := by rw [wrap64 (by omega) (by omega)]; omega
              have w3 : Go.IntKind.wrap .i64 ((5 : Int) * (((D P).1.length : Int) + (d.1.length : Int))) = (5 : Int) * (((D P).1.length : Int) + (d.1.length : Int)) := wrap64 (by omega) (by omega)
              have w4 : Go.IntKind.wrap .i64 ((i : Int) + 1) = ((i + 1 : Nat) : Int) := by rw [wrap64 (by omega) (by omega)]; omega
              have d5 : decide ((((D P).2.1 : Nat) : Int) + ((d.2.1 : Nat) : Int) < (5 : Int) * (((D P).1.length : Int) + (d.1.length : Int))) = false := decide_eq_false (by omega)
              have hlp := plen_ok (N := 200000) d.2.2.2 hkB (by decide)
              simp only [hr2, cond_true, w1, w2, decide_true, Bool.not_true, cond_false, hlp, Option.bind_some, w3, d5, w4]
              have ef : ((((D P).1 ++ d.1).length : Nat) : Int) = ((D P).1.length : Int) + (d.1.length : Int) := by rw [List.length_append]; omega
              have eg : ((((D P).2.1 + d.2.1 : Nat)) : Int) = (((D P).2.1 : Nat) : Int) + ((d.2.1 : Nat) : Int) := by omega
              rw [ef, eg]
              rcases k4 with k4 | ⟨k4, k6, k7⟩
              · rw [lenS_lt k4]
                have w5 : Go.IntKind.wrap .i64 ((4 : Int) - ((d.2.2.2.length : Nat) : Int)) = (4 : Int) - ((d.2.2.2.length : Nat) : Int) := wrap64 (by omega) (by omega)
                have d6 : decide ((4 : Int) - ((d.2.2.2.length : Nat) : Int) < 1) = false := decide_eq_false (by omega)
                simp [w5, d6]
              · have hfi := lenS_fine k6 hkB
                have w5 : Go.IntKind.wrap .i64 ((lenS d.2.2.2).1 - ((d.2.2.2.length : Nat) : Int)) = (lenS d.2.2.2).1 - ((d.2.2.2.length : Nat) : Int) := wrap64 (by omega) (by omega)
                have d6 : decide ((lenS d.2.2.2).1 - ((d.2.2.2.length : Nat) : Int) < 1) = false := decide_eq_false (by omega)
                simp only [k6, decide_true, Bool.not_true, cond_false, w5, d6]
            · rw [if_neg he]
              generalize hd : D ((D P).2.2.2 ++ ps[i]) = d at *
              simp only [wres, he, if_false, Sum.elim_inr, decide_false, Bool.not_false, cond_true, List.length_nil, Int.natCast_zero, decide_true, Bool.not_true, cond_false, alive19, Option.bind_some]
          by_cases he : (D ((D P).2.2.2 ++ ps[i])).2.2.1 = 0
          · refine .inr ⟨ps.length - (i + 1), _, by omega, ⟨i + 1, hi, rfl, ?_, rfl⟩, ?_⟩
            · rw [hfl]
              have hDP : D (P ++ ps[i]) = ((D P).1 ++ (D ((D P).2.2.2 ++ ps[i])).1, (D P).2.1 + (D ((D P).2.2.2 ++ ps[i])).2.1, (D ((D P).2.2.2 ++ ps[i])).2.2.1, (D ((D P).2.2.2 ++ ps[i])).2.2.2) := hD
              rw [hDP]; exact he
            · refine Eq.trans hstep ?_
              rw [if_pos he, hfl, List.length_append]
          · refine .inl ⟨.inl ((true, ()), ()), ?_, .inl rfl⟩
            refine Eq.trans hstep ?_
            rw [if_neg he]
        · have d1 : decide ((i : Int) < (ps.length : Int)) = false := decide_eq_false (by omega)
          exact .inl ⟨.inr ((), ()), by simp only [law19_ReframeHeld_L6, d1, cond_false], .inr rfl⟩)
      200000 ps.length (((0 : Int), (ps, ((ps.length : Int), ((0 : Int), ())))), (true, ((0 : Int), ((0 : Int), ((0 : Int), ([], ())))))) (by omega) ⟨0, by omega, by omega, rfl, rfl⟩
    obtain ⟨o, ho, hq⟩ := hloop
    have ho : law19_ReframeHeld_L6_R 200000 (((0 : Int), (ps, ((ps.length : Int), ((0 : Int), ())))), (true, ((0 : Int), ((0 : Int), ((0 : Int), ([], ())))))) = some o := ho
    rw [ho]
    rcases hq with rfl | rfl
    · rfl
    · simp only [Option.bind_some, Sum.elim_inr, alive19]
end Go.Proofs.Ytpijcgohhjgdbaa
