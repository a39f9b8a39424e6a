/-
  All bytes at once: the document's answer.
-/
import Derived.Test.YtpijcgohhjgdbaaQRVT3
namespace Go.Proofs.Ytpijcgohhjgdbaa
set_option maxRecDepth 100000
open Go.RowKit
set_option linter.unusedVariables false
set_option linter.unusedSimpArgs false
set_option maxRecDepth 100000

variable {N : Nat}
abbrev SA := (List Int × Int × Unit) × List Pk × Unit
abbrev OA := ((List Pk × Int × Int × Unit) × Unit) ⊕ ((Int × Unit) × List Pk × Unit)
def toR (o : OA) : List Pk × Int × Int := Sum.elim (fun v => (v.1.1, v.1.2.1, v.1.2.2.1)) (fun v => (v.2.1, v.1.1, 0)) o
theorem allL (hN : 10000 ≤ N) : ∀ (k : Nat) (b : List Int) (a : Nat) (acc : List Pk), AllB b → b.length ≤ 100000 → a ≤ b.length → b.length - a < k → acc.length ≤ a →
    ∃ o, gl (fun (X : SA → Option OA) (c : SA) => ref19_All_L3 N X c.1.1 c.1.2.1 c.2.1) k ((b, (a : Int), ()), acc, ()) = some o ∧ toR o = (acc ++ (D (b.drop a)).1, (a : Int) + ((D (b.drop a)).2.1 : Int), (D (b.drop a)).2.2.1)
  | 0, b, a, acc, _, _, _, h, _ => by omega
  | k + 1, b, a, acc, hw, hb, ha, hk, hacc => by
    rw [gl_succ]
    show ∃ o, ref19_All_L3 N (gl _ k) b a acc = some o ∧ _
    have ih := allL hN k b
    generalize gl (fun (X : SA → Option OA) (c : SA) => ref19_All_L3 N X c.1.1 c.1.2.1 c.2.1) k = Y at ih ⊢
    have hr : AllB (b.drop a) := hw.drop _
    have hrl : (b.drop a).length = b.length - a := List.length_drop
    have w0 : Go.IntKind.wrap .i64 ((b.length : Int) - (a : Int)) = ((b.drop a).length : Int) := by rw [wrap64 (by omega) (by omega)]; omega
    have hd : dropI b (a : Int) = some (b.drop a) := dropI_nat b rfl ha
    have htk : ∀ n : Nat, a + n ≤ b.length → subI b (a : Int) ((a + n : Nat) : Int) = some ((b.drop a).take n) := fun n h => by
      rw [subI_nat b rfl rfl (by omega) h, show a + n - a = n by omega]
    have hdd : ∀ n : Nat, b.drop (a + n) = (b.drop a).drop n := fun n => by rw [List.drop_drop]
    unfold ref19_All_L3
    rw [w0, D_eq _ hr]
    generalize hR : b.drop a = R at *
    by_cases a1 : R.length < 4
    · rw [if_pos a1, decide_eq_false (by omega)]
      exact ⟨_, rfl, by simp [toR]⟩
    · rw [if_neg a1, decide_eq_true (by omega)]
      simp only [cond_true, hd, Option.bind_some, prlen_ok R hr hN]
      by_cases a2 : (lenS R).2 ≠ 0
      · rw [if_pos a2, decide_eq_false a2]
        exact ⟨_, rfl, by simp [toR]⟩
      · rw [if_neg a2]
        have a2 : (lenS R).2 = 0 := Decidable.not_not.1 a2
        have hf := lenS_fine a2 hr
        rw [decide_eq_true a2]
        by_cases a3 : (R.length : Int) < (lenS R).1
        · rw [if_pos a3, decide_eq_true a3]
          exact ⟨_, rfl, by simp [toR]⟩
        · rw [if_neg a3, decide_eq_false a3]
          have w1 : Go.IntKind.wrap .i64 ((a : Int) + (lenS R).1) = ((a + (lenS R).1.toNat : Nat) : Int) := by rw [wrap64 (by omega) (by omega)]; omega
          have hp := prpar_ok (N := N) (R.take (lenS R).1.toNat) (hr.take _) (by rw [List.length_take]; omega) hN
          have hm : maxI (lenS R).1 1 = (lenS R).1 := by unfold maxI; split <;> omega
          simp only [Bool.not_true, cond_false, w1, htk _ (show a + (lenS R).1.toNat ≤ b.length by omega), Option.bind_some, hp, hm]
          by_cases a4 : (parP (R.take (lenS R).1.toNat)).2 ≠ 0
          · rw [if_pos a4, decide_eq_false a4]
            exact ⟨_, rfl, by simp [toR]⟩
          · rw [if_neg a4]
            have a4 : (parP (R.take (lenS R).1.toNat)).2 = 0 := Decidable.not_not.1 a4
            rw [decide_eq_true a4]
            obtain ⟨o, ho, ho2⟩ := ih (a + (lenS R).1.toNat) (acc ++ [(parP (R.take (lenS R).1.toNat)).1]) hw hb (by omega) (by omega) (by rw [List.length_append]; simp only [List.length_cons, List.length_nil]; omega)
            have hroom : roomB (acc.length + ([((parP (R.take (lenS R).1.toNat)).1.1, ((parP (R.take (lenS R).1.toNat)).1.2.1, ((parP (R.take (lenS R).1.toNat)).1.2.2.1, (parP (R.take (lenS R).1.toNat)).1.2.2.2)))] : List Pk).length) 56 = true := by
              simp only [List.length_cons, List.length_nil]
              exact roomB_of (by have := big_len; omega) (by omega)
            refine ⟨o, ?_, ?_⟩
            · simp only [Bool.not_true, cond_false, hroom, cond_true]
              exact ho
            · rw [ho2, hdd]
              simp only [List.append_assoc, List.cons_append, List.nil_append]
              generalize D (R.drop (lenS R).1.toNat) = d
              refine Prod.ext rfl (Prod.ext ?_ rfl)
              show ((a + (lenS R).1.toNat : Nat) : Int) + (d.2.1 : Int) = (a : Int) + (((lenS R).1.toNat + d.2.1 : Nat) : Int)
              omega
theorem all_ok (b : List Int) (hw : AllB b) (hb : b.length ≤ 100000) (hN : 200000 ≤ N) : ref19_All N b = some ((D b).1, ((D b).2.1 : Int), (D b).2.2.1) := by
  obtain ⟨o, h1, h2⟩ := allL (N := N) (by omega) N b 0 [] hw hb (by omega) (by omega) (by simp)
  have h1 : ref19_All_L3_R N ((b, (0 : Int), ()), [], ()) = some o := h1
  simp only [List.drop_zero, List.nil_append, Int.natCast_zero, Int.zero_add] at h2
  unfold ref19_All
  rw [h1, Option.bind_some, ← h2]
  cases o <;> rfl
/-- What is wanted behind the last packet. -/
theorem wantsR (r : List Int) (hw : AllB r) (hb : r.length ≤ 100000) (hN : 10000 ≤ N) : ref19_Wants N r = some (if r.length < 4 then 4 - (r.length : Int) else Go.IntKind.wrap .i64 ((lenS r).1 - (r.length : Int))) := by
  unfold ref19_Wants
  by_cases h : r.length < 4
  · rw [if_pos h, decide_eq_true (by omega), wrap64 (by omega) (by omega)]; rfl
  · rw [if_neg h, decide_eq_false (by omega), prlen_ok r hw hN]; rfl
end Go.Proofs.Ytpijcgohhjgdbaa
