/-
  A stream that takes bytes.
-/
import Derived.Test.YtpijcgohhjgdbaaQRV1
namespace Go.Proofs.Ytpijcgohhjgdbaa
set_option maxRecDepth 100000
open Go.RowKit
set_option linter.unusedVariables false
set_option linter.unusedSimpArgs false
set_option maxRecDepth 100000

variable {N : Nat}
abbrev SW12 := (List Int × Unit) × Bool × Int × Int × Int × List Pk × Unit
abbrev OW12 := SW12 ⊕ ((List Pk × Int × Unit) × Bool × Int × Int × Int × Unit)
/-- What is told of bytes, behind what was told. -/
def wr12 (d : Dr) (made : Bool) (cnt at' brk : Int)  (told : List Pk) : OW12 :=
  if d.2.2.1 = 0 then .inl ((d.2.2.2, ()), made, cnt + d.1.length, at' + d.2.1, brk, told ++ d.1, ())
  else .inr ((told ++ d.1, d.2.2.1, ()), made, cnt + d.1.length, at' + d.2.1, d.2.2.1, ())
theorem write12 (made : Bool) (brk : Int)  (hN : 10000 ≤ N) : ∀ (k : Nat) (b : List Int) (cnt at' : Int) (told : List Pk), AllB b → b.length < k → b.length ≤ 100000 → 0 ≤ cnt → cnt + b.length ≤ 1000000 → 0 ≤ at' → at' + b.length ≤ 1000000 → told.length + b.length ≤ 1000000 →
    gl (fun (X : SW12 → Option OW12) (c : SW12) => law19_ReframeWrites_12_reframe_Stream_Write_L7 N X c.1.1 c.2.1 c.2.2.1 c.2.2.2.1 c.2.2.2.2.1 c.2.2.2.2.2.1) k ((b, ()), made, cnt, at', brk, told, ()) = some (wr12 (D b) made cnt at' brk  told)
  | 0, b, _, _, _, _, h, _, _, _, _, _, _ => by omega
  | k + 1, b, cnt, at', told, hw, hk, hb, h1, h2, h3, h4, h5 => by
    rw [gl_succ]
    show law19_ReframeWrites_12_reframe_Stream_Write_L7 N (gl _ k) b made cnt at' brk told = _
    have ih := write12 made brk  hN k
    generalize gl (fun (X : SW12 → Option OW12) (c : SW12) => law19_ReframeWrites_12_reframe_Stream_Write_L7 N X c.1.1 c.2.1 c.2.2.1 c.2.2.2.1 c.2.2.2.2.1 c.2.2.2.2.2.1) k = Y at ih ⊢
    unfold law19_ReframeWrites_12_reframe_Stream_Write_L7
    rw [plen_ok b hw hN, Option.bind_some, D_eq b hw]
    by_cases a1 : b.length < 4
    · rw [if_pos a1, lenS_lt a1]
      simp [wr12]
    · rw [if_neg a1]
      have e4 := lenS_err (b := b) (by omega)
      rw [decide_eq_false e4]
      by_cases a2 : (lenS b).2 ≠ 0
      · rw [if_pos a2, decide_eq_false a2]
        simp [wr12, a2]
      · rw [if_neg a2]
        have a2 : (lenS b).2 = 0 := Decidable.not_not.1 a2
        have hf := lenS_fine a2 hw
        rw [decide_eq_true a2]
        by_cases a3 : (b.length : Int) < (lenS b).1
        · rw [if_pos a3, decide_eq_true a3]
          simp [wr12]
        · rw [if_neg a3, decide_eq_false a3]
          have ht : takeI b (lenS b).1 = some (b.take (lenS b).1.toNat) := takeI_nat b (by omega) (by omega)
          have hd : dropI b (lenS b).1 = some (b.drop (lenS b).1.toNat) := dropI_nat b (by omega) (by omega)
          have hp := ppar_ok (N := N) (b.take (lenS b).1.toNat) (hw.take _) (by rw [List.length_take]; omega) hN
          simp only [cond_false, cond_true, Bool.not_true, ht, Option.bind_some, hp, hd]
          by_cases a4 : (parP (b.take (lenS b).1.toNat)).2 ≠ 0
          · rw [if_pos a4, decide_eq_false a4]
            simp [wr12, a4]
          · rw [if_neg a4]
            have a4 : (parP (b.take (lenS b).1.toNat)).2 = 0 := Decidable.not_not.1 a4
            rw [decide_eq_true a4]
            have hr : roomB (told.length + ([((parP (b.take (lenS b).1.toNat)).1.1, ((parP (b.take (lenS b).1.toNat)).1.2.1, ((parP (b.take (lenS b).1.toNat)).1.2.2.1, (parP (b.take (lenS b).1.toNat)).1.2.2.2)))] : List Pk).length) 56 = true := by
              simp only [List.length_cons, List.length_nil]
              exact roomB_of (by have := big_len; omega) (by omega)
            simp only [Bool.not_true, cond_false, hr, cond_true]
            have hdl : (b.drop (lenS b).1.toNat).length = b.length - (lenS b).1.toNat := List.length_drop
            have := ih (b.drop (lenS b).1.toNat) (cnt + 1) (at' + (lenS b).1) (told ++ [(parP (b.take (lenS b).1.toNat)).1]) (hw.drop _) (by omega) (by omega) (by omega) (by omega) (by omega) (by omega) (by rw [List.length_append]; simp only [List.length_cons, List.length_nil]; omega)
            rw [wrap64 (by omega) (by omega), wrap64 (by omega) (by omega)]
            refine Eq.trans ?_ (this.trans ?_)
            · rfl
            · unfold wr12
              generalize D (b.drop (lenS b).1.toNat) = d
              have e1 : cnt + 1 + (d.1.length : Int) = cnt + (((parP (b.take (lenS b).1.toNat)).1 :: d.1).length : Int) := by simp only [List.length_cons]; omega
              have e2 : at' + (lenS b).1 + (d.2.1 : Int) = at' + (((lenS b).1.toNat + d.2.1 : Nat) : Int) := by omega
              simp only [e1, e2, List.append_assoc, List.cons_append, List.nil_append]
/-! ### Parts of bytes -/
theorem takeI_pre (Q z : List Int) : takeI (Q ++ z) (Q.length : Int) = some Q := by
  rw [takeI_nat _ rfl (by simp), List.take_left' rfl]
theorem subI_pre (Q z : List Int) (e : Nat) (he : e ≤ Q.length) : subI (Q ++ z) (e : Int) (Q.length : Int) = some (Q.drop e) := by
  rw [subI_nat _ rfl rfl he (by simp), List.drop_append_of_le_length he, List.take_left' (by simp)]
end Go.Proofs.Ytpijcgohhjgdbaa
