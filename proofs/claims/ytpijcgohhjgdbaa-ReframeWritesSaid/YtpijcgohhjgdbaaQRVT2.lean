/-
  A reframer that takes bytes; bytes cut at places; the law on what is held.
-/
import Derived.Test.YtpijcgohhjgdbaaQRVT1
namespace Go.Proofs.Ytpijcgohhjgdbaa
set_option maxRecDepth 100000
open Go.RowKit
set_option linter.unusedVariables false
set_option linter.unusedSimpArgs false
set_option maxRecDepth 100000

variable {N : Nat}
/-! ### Bytes cut -/
theorem minI20 (n : Nat) : ∃ m : Nat, minI (n : Int) 20 = (m : Int) ∧ m ≤ n ∧ m ≤ 20 := by
  refine ⟨min n 20, ?_, by omega, by omega⟩
  unfold minI
  split <;> omega
theorem cuts_ok (b at' : List Int) (hb : b.length ≤ 100000) (hat : ∀ x ∈ at', 0 ≤ x ∧ x < 65536) (hN : 10000 ≤ N) : ∃ ps, law19_cuts N b at' = some ps ∧ ps.flatten = b ∧ ps.length ≤ 21 := by
  obtain ⟨m, m1, m2, m3⟩ := minI20 at'.length
  have ht : takeI at' (m : Int) = some (at'.take m) := takeI_nat at' rfl m2
  have hm : ∀ x ∈ at'.take m, 0 ≤ x ∧ x < 65536 := fun x hx => hat x (List.mem_of_mem_take hx)
  have hml : (at'.take m).length = m := by rw [List.length_take]; omega
  generalize at'.take m = l at *
  have hloop := gl_inv (G := fun (X : (((List (Int)) × ((List (Int)) × ((Int) × ((Int) × Unit)))) × ((List (List (Int))) × Unit)) → Option ((((List (Int)) × Unit) × ((List (List (Int))) × Unit)))) c => law19_cuts_L3 N X c.1.1 c.1.2.1 c.1.2.2.1 c.1.2.2.2.1 c.2.1)
    (fun n c => ∃ (r : List Int) (out : List (List Int)), c = ((r, (l, ((l.length : Int), ((out.length : Int), ())))), (out, ())) ∧ out.length ≤ l.length ∧ n = l.length - out.length ∧ out.flatten ++ r = b)
    (fun o => o.2.1.flatten ++ o.1.1 = b ∧ o.2.1.length = l.length)
    (fun X n c hI => by
      obtain ⟨r, out, rfl, i1, i2, i3⟩ := hI
      have hrl : r.length ≤ b.length := by rw [← i3, List.length_append]; omega
      by_cases hlt : out.length < l.length
      · have d1 : decide ((out.length : Int) < (l.length : Int)) = true := decide_eq_true (by omega)
        have hx := hm l[out.length] (List.getElem_mem hlt)
        have w1 : Go.IntKind.wrap .i64 (((r.length : Nat) : Int) + 1) = ((r.length + 1 : Nat) : Int) := by rw [wrap64 (by omega) (by omega)]; omega
        have w2 : Go.IntKind.wrap .i64 l[out.length] = l[out.length] := wrap64 (by omega) (by omega)
        have d2 : decide (((r.length + 1 : Nat) : Int) = 0) = false := decide_eq_false (by omega)
        obtain ⟨k, hk1, hk2⟩ : ∃ k : Nat, Int.tmod l[out.length] ((r.length + 1 : Nat) : Int) = (k : Int) ∧ k ≤ r.length := by
          rw [Int.tmod_eq_emod_of_nonneg hx.1]
          have h1 := Int.emod_nonneg l[out.length] (show ((r.length + 1 : Nat) : Int) ≠ 0 by omega)
          have h2 := Int.emod_lt_of_pos l[out.length] (show (0 : Int) < ((r.length + 1 : Nat) : Int) by omega)
          exact ⟨(l[out.length] % ((r.length + 1 : Nat) : Int)).toNat, by omega, by omega⟩
        have t1 : takeI r (k : Int) = some (r.take k) := takeI_nat r rfl hk2
        have t2 : dropI r (k : Int) = some (r.drop k) := dropI_nat r rfl hk2
        have hr : roomB (out.length + ([r.take k] : List (List Int)).length) 24 = true := by
          simp only [List.length_cons, List.length_nil]
          exact roomB_of (by have := big_len; omega) (by omega)
        refine .inr ⟨l.length - (out ++ [r.take k]).length, ((r.drop k, (l, ((l.length : Int), (((out ++ [r.take k]).length : Int), ())))), (out ++ [r.take k], ())), by simp; omega, ⟨r.drop k, out ++ [r.take k], rfl, by simp; omega, rfl, by rw [List.flatten_append, List.append_assoc]; simp [← i3]⟩, ?_⟩
        have w3 : Go.IntKind.wrap .i64 ((out.length : Int) + 1) = (((out ++ [r.take k]).length : Nat) : Int) := by rw [wrap64 (by omega) (by omega)]; simp
        simp only [law19_cuts_L3, d1, cond_true, getI_lt l out.length hlt, Option.bind_some, w1, w2, d2, cond_false, hk1, t1, t2, hr, w3]
      · have d1 : decide ((out.length : Int) < (l.length : Int)) = false := decide_eq_false (by omega)
        exact .inl ⟨((r, ()), (out, ())), by simp only [law19_cuts_L3, d1, cond_false], i3, by show out.length = _; omega⟩)
    N l.length ((b, (l, ((l.length : Int), ((0 : Int), ())))), ([], ())) (by omega) ⟨b, [], rfl, by simp, by simp, rfl⟩
  obtain ⟨o, ho, q1, q2⟩ := hloop
  unfold law19_cuts
  rw [m1, ht, Option.bind_some]
  unfold law19_cuts_L3_R
  rw [ho, Option.bind_some]
  have hr : roomB (o.2.1.length + ([o.1.1] : List (List Int)).length) 24 = true := by
    simp only [List.length_cons, List.length_nil]
    exact roomB_of (by have := big_len; omega) (by omega)
  rw [hr]
  exact ⟨o.2.1 ++ [o.1.1], rfl, by rw [List.flatten_append]; simpa using q1, by rw [List.length_append]; simp; omega⟩
theorem alive19 : law19_alive 200000 = some true := by kernel_rfl
end Go.Proofs.Ytpijcgohhjgdbaa
