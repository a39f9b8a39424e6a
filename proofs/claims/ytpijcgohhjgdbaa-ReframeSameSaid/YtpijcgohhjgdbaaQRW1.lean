/-
  Streams that take bytes, one beside another.
-/
import Derived.Test.YtpijcgohhjgdbaaQRT3
namespace Go.Proofs.Ytpijcgohhjgdbaa
set_option maxRecDepth 100000
open Go.RowKit
set_option linter.unusedVariables false
set_option linter.unusedSimpArgs false
set_option maxRecDepth 100000

variable {N : Nat}
abbrev SW08 := (List Int × Unit) × Bool × Int × Int × Int × Bool × Int × Int × Int × List Pk × List Int × List Pk × Unit
abbrev OW08 := SW08 ⊕ ((List Pk × Int × Unit) × Bool × Int × Int × Int × Bool × Int × Int × Int × List Pk × List Int × Unit)
/-- What is told of bytes, behind what was told. -/
def wr08 (d : Dr) (made : Bool) (cnt at' brk : Int) (t0 : Bool) (t1 : Int) (t2 : Int) (t3 : Int) (A : List Pk) (B : List Int) (told : List Pk) : OW08 :=
  if d.2.2.1 = 0 then .inl ((d.2.2.2, ()), made, cnt + d.1.length, at' + d.2.1, brk, t0, t1, t2, t3, A, B, told ++ d.1, ())
  else .inr ((told ++ d.1, d.2.2.1, ()), made, cnt + d.1.length, at' + d.2.1, d.2.2.1, t0, t1, t2, t3, A, B, ())
theorem write08 (made : Bool) (brk : Int) (t0 : Bool) (t1 : Int) (t2 : Int) (t3 : Int) (A : List Pk) (B : List Int) (hN : 10000 ≤ N) : ∀ (k : Nat) (b : List Int) (cnt at' : Int) (told : List Pk), AllB b → b.length < k → b.length ≤ 100000 → 0 ≤ cnt → cnt + b.length ≤ 1000000 → 0 ≤ at' → at' + b.length ≤ 1000000 → told.length + b.length ≤ 1000000 →
    gl (fun (X : SW08 → Option OW08) (c : SW08) => law19_ReframeSame_8_reframe_Stream_Write_L7 N X c.1.1 c.2.1 c.2.2.1 c.2.2.2.1 c.2.2.2.2.1 c.2.2.2.2.2.1 c.2.2.2.2.2.2.1 c.2.2.2.2.2.2.2.1 c.2.2.2.2.2.2.2.2.1 c.2.2.2.2.2.2.2.2.2.1 c.2.2.2.2.2.2.2.2.2.2.1 c.2.2.2.2.2.2.2.2.2.2.2.1) k ((b, ()), made, cnt, at', brk, t0, t1, t2, t3, A, B, told, ()) = some (wr08 (D b) made cnt at' brk t0 t1 t2 t3 A B told)
  | 0, b, _, _, _, _, h, _, _, _, _, _, _ => by omega
  | k + 1, b, cnt, at', told, hw, hk, hb, h1, h2, h3, h4, h5 => by
    rw [gl_succ]
    show law19_ReframeSame_8_reframe_Stream_Write_L7 N (gl _ k) b made cnt at' brk t0 t1 t2 t3 A B told = _
    have ih := write08 made brk t0 t1 t2 t3 A B hN k
    generalize gl (fun (X : SW08 → Option OW08) (c : SW08) => law19_ReframeSame_8_reframe_Stream_Write_L7 N X c.1.1 c.2.1 c.2.2.1 c.2.2.2.1 c.2.2.2.2.1 c.2.2.2.2.2.1 c.2.2.2.2.2.2.1 c.2.2.2.2.2.2.2.1 c.2.2.2.2.2.2.2.2.1 c.2.2.2.2.2.2.2.2.2.1 c.2.2.2.2.2.2.2.2.2.2.1 c.2.2.2.2.2.2.2.2.2.2.2.1) k = Y at ih ⊢
    unfold law19_ReframeSame_8_reframe_Stream_Write_L7
    rw [plen_ok b hw hN, Option.bind_some, D_eq b hw]
    by_cases a1 : b.length < 4
    · rw [if_pos a1, lenS_lt a1]
      simp [wr08]
    · rw [if_neg a1]
      have e4 := lenS_err (b := b) (by omega)
      rw [decide_eq_false e4]
      by_cases a2 : (lenS b).2 ≠ 0
      · rw [if_pos a2, decide_eq_false a2]
        simp [wr08, a2]
      · rw [if_neg a2]
        have a2 : (lenS b).2 = 0 := Decidable.not_not.1 a2
        have hf := lenS_fine a2 hw
        rw [decide_eq_true a2]
        by_cases a3 : (b.length : Int) < (lenS b).1
        · rw [if_pos a3, decide_eq_true a3]
          simp [wr08]
        · rw [if_neg a3, decide_eq_false a3]
          have ht : takeI b (lenS b).1 = some (b.take (lenS b).1.toNat) := takeI_nat b (by omega) (by omega)
          have hd : dropI b (lenS b).1 = some (b.drop (lenS b).1.toNat) := dropI_nat b (by omega) (by omega)
          have hp := ppar_ok (N := N) (b.take (lenS b).1.toNat) (hw.take _) (by rw [List.length_take]; omega) hN
          simp only [cond_false, cond_true, Bool.not_true, ht, Option.bind_some, hp, hd]
          by_cases a4 : (parP (b.take (lenS b).1.toNat)).2 ≠ 0
          · rw [if_pos a4, decide_eq_false a4]
            simp [wr08, a4]
          · rw [if_neg a4]
            have a4 : (parP (b.take (lenS b).1.toNat)).2 = 0 := Decidable.not_not.1 a4
            rw [decide_eq_true a4]
            have hr : roomB (told.length + ([((parP (b.take (lenS b).1.toNat)).1.1, ((parP (b.take (lenS b).1.toNat)).1.2.1, ((parP (b.take (lenS b).1.toNat)).1.2.2.1, (parP (b.take (lenS b).1.toNat)).1.2.2.2)))] : List Pk).length) 56 = true := by
              simp only [List.length_cons, List.length_nil]
              exact roomB_of (by have := big_len; omega) (by omega)
            simp only [Bool.not_true, cond_false, hr, cond_true]
            have hdl : (b.drop (lenS b).1.toNat).length = b.length - (lenS b).1.toNat := List.length_drop
            have := ih (b.drop (lenS b).1.toNat) (cnt + 1) (at' + (lenS b).1) (told ++ [(parP (b.take (lenS b).1.toNat)).1]) (hw.drop _) (by omega) (by omega) (by omega) (by omega) (by omega) (by omega) (by rw [List.length_append]; simp only [List.length_cons, List.length_nil]; omega)
            rw [wrap64 (by omega) (by omega), wrap64 (by omega) (by omega)]
            refine Eq.trans ?_ (this.trans ?_)
            · rfl
            · unfold wr08
              generalize D (b.drop (lenS b).1.toNat) = d
              have e1 : cnt + 1 + (d.1.length : Int) = cnt + (((parP (b.take (lenS b).1.toNat)).1 :: d.1).length : Int) := by simp only [List.length_cons]; omega
              have e2 : at' + (lenS b).1 + (d.2.1 : Int) = at' + (((lenS b).1.toNat + d.2.1 : Nat) : Int) := by omega
              simp only [e1, e2, List.append_assoc, List.cons_append, List.nil_append]
abbrev SW16 := (List Int × Unit) × Bool × Int × Int × Int × Bool × Int × Int × Int × List Pk × List Int × List Pk × Unit
abbrev OW16 := SW16 ⊕ ((List Pk × Int × Unit) × Bool × Int × Int × Int × Bool × Int × Int × Int × List Pk × List Int × Unit)
/-- What is told of bytes, behind what was told. -/
def wr16 (d : Dr) (made : Bool) (cnt at' brk : Int) (s0 : Bool) (s1 : Int) (s2 : Int) (s3 : Int) (A : List Pk) (B : List Int) (told : List Pk) : OW16 :=
  if d.2.2.1 = 0 then .inl ((d.2.2.2, ()), s0, s1, s2, s3, made, cnt + d.1.length, at' + d.2.1, brk, A, B, told ++ d.1, ())
  else .inr ((told ++ d.1, d.2.2.1, ()), s0, s1, s2, s3, made, cnt + d.1.length, at' + d.2.1, d.2.2.1, A, B, ())
theorem write16 (made : Bool) (brk : Int) (s0 : Bool) (s1 : Int) (s2 : Int) (s3 : Int) (A : List Pk) (B : List Int) (hN : 10000 ≤ N) : ∀ (k : Nat) (b : List Int) (cnt at' : Int) (told : List Pk), AllB b → b.length < k → b.length ≤ 100000 → 0 ≤ cnt → cnt + b.length ≤ 1000000 → 0 ≤ at' → at' + b.length ≤ 1000000 → told.length + b.length ≤ 1000000 →
    gl (fun (X : SW16 → Option OW16) (c : SW16) => law19_ReframeSame_16_reframe_Stream_Write_L7 N X c.1.1 c.2.1 c.2.2.1 c.2.2.2.1 c.2.2.2.2.1 c.2.2.2.2.2.1 c.2.2.2.2.2.2.1 c.2.2.2.2.2.2.2.1 c.2.2.2.2.2.2.2.2.1 c.2.2.2.2.2.2.2.2.2.1 c.2.2.2.2.2.2.2.2.2.2.1 c.2.2.2.2.2.2.2.2.2.2.2.1) k ((b, ()), s0, s1, s2, s3, made, cnt, at', brk, A, B, told, ()) = some (wr16 (D b) made cnt at' brk s0 s1 s2 s3 A B told)
  | 0, b, _, _, _, _, h, _, _, _, _, _, _ => by omega
  | k + 1, b, cnt, at', told, hw, hk, hb, h1, h2, h3, h4, h5 => by
    rw [gl_succ]
    show law19_ReframeSame_16_reframe_Stream_Write_L7 N (gl _ k) b s0 s1 s2 s3 made cnt at' brk A B told = _
    have ih := write16 made brk s0 s1 s2 s3 A B hN k
    generalize gl (fun (X : SW16 → Option OW16) (c : SW16) => law19_ReframeSame_16_reframe_Stream_Write_L7 N X c.1.1 c.2.1 c.2.2.1 c.2.2.2.1 c.2.2.2.2.1 c.2.2.2.2.2.1 c.2.2.2.2.2.2.1 c.2.2.2.2.2.2.2.1 c.2.2.2.2.2.2.2.2.1 c.2.2.2.2.2.2.2.2.2.1 c.2.2.2.2.2.2.2.2.2.2.1 c.2.2.2.2.2.2.2.2.2.2.2.1) k = Y at ih ⊢
    unfold law19_ReframeSame_16_reframe_Stream_Write_L7
    rw [plen_ok b hw hN, Option.bind_some, D_eq b hw]
    by_cases a1 : b.length < 4
    · rw [if_pos a1, lenS_lt a1]
      simp [wr16]
    · rw [if_neg a1]
      have e4 := lenS_err (b := b) (by omega)
      rw [decide_eq_false e4]
      by_cases a2 : (lenS b).2 ≠ 0
      · rw [if_pos a2, decide_eq_false a2]
        simp [wr16, a2]
      · rw [if_neg a2]
        have a2 : (lenS b).2 = 0 := Decidable.not_not.1 a2
        have hf := lenS_fine a2 hw
        rw [decide_eq_true a2]
        by_cases a3 : (b.length : Int) < (lenS b).1
        · rw [if_pos a3, decide_eq_true a3]
          simp [wr16]
        · rw [if_neg a3, decide_eq_false a3]
          have ht : takeI b (lenS b).1 = some (b.take (lenS b).1.toNat) := takeI_nat b (by omega) (by omega)
          have hd : dropI b (lenS b).1 = some (b.drop (lenS b).1.toNat) := dropI_nat b (by omega) (by omega)
          have hp := ppar_ok (N := N) (b.take (lenS b).1.toNat) (hw.take _) (by rw [List.length_take]; omega) hN
          simp only [cond_false, cond_true, Bool.not_true, ht, Option.bind_some, hp, hd]
          by_cases a4 : (parP (b.take (lenS b).1.toNat)).2 ≠ 0
          · rw [if_pos a4, decide_eq_false a4]
            simp [wr16, a4]
          · rw [if_neg a4]
            have a4 : (parP (b.take (lenS b).1.toNat)).2 = 0 := Decidable.not_not.1 a4
            rw [decide_eq_true a4]
            have hr : roomB (told.length + ([((parP (b.take (lenS b).1.toNat)).1.1, ((parP (b.take (lenS b).1.toNat)).1.2.1, ((parP (b.take (lenS b).1.toNat)).1.2.2.1, (parP (b.take (lenS b).1.toNat)).1.2.2.2)))] : List Pk).length) 56 = true := by
              simp only [List.length_cons, List.length_nil]
              exact roomB_of (by have := big_len; omega) (by omega)
            simp only [Bool.not_true, cond_false, hr, cond_true]
            have hdl : (b.drop (lenS b).1.toNat).length = b.length - (lenS b).1.toNat := List.length_drop
            have := ih (b.drop (lenS b).1.toNat) (cnt + 1) (at' + (lenS b).1) (told ++ [(parP (b.take (lenS b).1.toNat)).1]) (hw.drop _) (by omega) (by omega) (by omega) (by omega) (by omega) (by omega) (by rw [List.length_append]; simp only [List.length_cons, List.length_nil]; omega)
            rw [wrap64 (by omega) (by omega), wrap64 (by omega) (by omega)]
            refine Eq.trans ?_ (this.trans ?_)
            · rfl
            · unfold wr16
              generalize D (b.drop (lenS b).1.toNat) = d
              have e1 : cnt + 1 + (d.1.length : Int) = cnt + (((parP (b.take (lenS b).1.toNat)).1 :: d.1).length : Int) := by simp only [List.length_cons]; omega
              have e2 : at' + (lenS b).1 + (d.2.1 : Int) = at' + (((lenS b).1.toNat + d.2.1 : Nat) : Int) := by omega
              simp only [e1, e2, List.append_assoc, List.cons_append, List.nil_append]
abbrev SW19 := (List Int × Unit) × Bool × Int × Int × Int × Bool × Int × Int × Int × List Pk × List Int × List Pk × Unit
abbrev OW19 := SW19 ⊕ ((List Pk × Int × Unit) × Bool × Int × Int × Int × Bool × Int × Int × Int × List Pk × List Int × Unit)
/-- What is told of bytes, behind what was told. -/
def wr19 (d : Dr) (made : Bool) (cnt at' brk : Int) (t0 : Bool) (t1 : Int) (t2 : Int) (t3 : Int) (A : List Pk) (B : List Int) (told : List Pk) : OW19 :=
  if d.2.2.1 = 0 then .inl ((d.2.2.2, ()), made, cnt + d.1.length, at' + d.2.1, brk, t0, t1, t2, t3, A, B, told ++ d.1, ())
  else .inr ((told ++ d.1, d.2.2.1, ()), made, cnt + d.1.length, at' + d.2.1, d.2.2.1, t0, t1, t2, t3, A, B, ())
theorem write19 (made : Bool) (brk : Int) (t0 : Bool) (t1 : Int) (t2 : Int) (t3 : Int) (A : List Pk) (B : List Int) (hN : 10000 ≤ N) : ∀ (k : Nat) (b : List Int) (cnt at' : Int) (told : List Pk), AllB b → b.length < k → b.length ≤ 100000 → 0 ≤ cnt → cnt + b.length ≤ 1000000 → 0 ≤ at' → at' + b.length ≤ 1000000 → told.length + b.length ≤ 1000000 →
    gl (fun (X : SW19 → Option OW19) (c : SW19) => law19_ReframeSame_19_reframe_Stream_Write_L7 N X c.1.1 c.2.1 c.2.2.1 c.2.2.2.1 c.2.2.2.2.1 c.2.2.2.2.2.1 c.2.2.2.2.2.2.1 c.2.2.2.2.2.2.2.1 c.2.2.2.2.2.2.2.2.1 c.2.2.2.2.2.2.2.2.2.1 c.2.2.2.2.2.2.2.2.2.2.1 c.2.2.2.2.2.2.2.2.2.2.2.1) k ((b, ()), made, cnt, at', brk, t0, t1, t2, t3, A, B, told, ()) = some (wr19 (D b) made cnt at' brk t0 t1 t2 t3 A B told)
  | 0, b, _, _, _, _, h, _, _, _, _, _, _ => by omega
  | k + 1, b, cnt, at', told, hw, hk, hb, h1, h2, h3, h4, h5 => by
    rw [gl_succ]
    show law19_ReframeSame_19_reframe_Stream_Write_L7 N (gl _ k) b made cnt at' brk t0 t1 t2 t3 A B told = _
    have ih := write19 made brk t0 t1 t2 t3 A B hN k
    generalize gl (fun (X : SW19 → Option OW19) (c : SW19) => law19_ReframeSame_19_reframe_Stream_Write_L7 N X c.1.1 c.2.1 c.2.2.1 c.2.2.2.1 c.2.2.2.2.1 c.2.2.2.2.2.1 c.2.2.2.2.2.2.1 c.2.2.2.2.2.2.2.1 c.2.2.2.2.2.2.2.2.1 c.2.2.2.2.2.2.2.2.2.1 c.2.2.2.2.2.2.2.2.2.2.1 c.2.2.2.2.2.2.2.2.2.2.2.1) k = Y at ih ⊢
    unfold law19_ReframeSame_19_reframe_Stream_Write_L7
    rw [plen_ok b hw hN, Option.bind_some, D_eq b hw]
    by_cases a1 : b.length < 4
    · rw [if_pos a1, lenS_lt a1]
      simp [wr19]
    · rw [if_neg a1]
      have e4 := lenS_err (b := b) (by omega)
      rw [decide_eq_false e4]
      by_cases a2 : (lenS b).2 ≠ 0
      · rw [if_pos a2, decide_eq_false a2]
        simp [wr19, a2]
      · rw [if_neg a2]
        have a2 : (lenS b).2 = 0 := Decidable.not_not.1 a2
        have hf := lenS_fine a2 hw
        rw [decide_eq_true a2]
        by_cases a3 : (b.length : Int) < (lenS b).1
        · rw [if_pos a3, decide_eq_true a3]
          simp [wr19]
        · rw [if_neg a3, decide_eq_false a3]
          have ht : takeI b (lenS b).1 = some (b.take (lenS b).1.toNat) := takeI_nat b (by omega) (by omega)
          have hd : dropI b (lenS b).1 = some (b.drop (lenS b).1.toNat) := dropI_nat b (by omega) (by omega)
          have hp := ppar_ok (N := N) (b.take (lenS b).1.toNat) (hw.take _) (by rw [List.length_take]; omega) hN
          simp only [cond_false, cond_true, Bool.not_true, ht, Option.bind_some, hp, hd]
          by_cases a4 : (parP (b.take (lenS b).1.toNat)).2 ≠ 0
          · rw [if_pos a4, decide_eq_false a4]
            simp [wr19, a4]
          · rw [if_neg a4]
            have a4 : (parP (b.take (lenS b).1.toNat)).2 = 0 := Decidable.not_not.1 a4
            rw [decide_eq_true a4]
            have hr : roomB (told.length + ([((parP (b.take (lenS b).1.toNat)).1.1, ((parP (b.take (lenS b).1.toNat)).1.2.1, ((parP (b.take (lenS b).1.toNat)).1.2.2.1, (parP (b.take (lenS b).1.toNat)).1.2.2.2)))] : List Pk).length) 56 = true := by
              simp only [List.length_cons, List.length_nil]
              exact roomB_of (by have := big_len; omega) (by omega)
            simp only [Bool.not_true, cond_false, hr, cond_true]
            have hdl : (b.drop (lenS b).1.toNat).length = b.length - (lenS b).1.toNat := List.length_drop
            have := ih (b.drop (lenS b).1.toNat) (cnt + 1) (at' + (lenS b).1) (told ++ [(parP (b.take (lenS b).1.toNat)).1]) (hw.drop _) (by omega) (by omega) (by omega) (by omega) (by omega) (by omega) (by rw [List.length_append]; simp only [List.length_cons, List.length_nil]; omega)
            rw [wrap64 (by omega) (by omega), wrap64 (by omega) (by omega)]
            refine Eq.trans ?_ (this.trans ?_)
            · rfl
            · unfold wr19
              generalize D (b.drop (lenS b).1.toNat) = d
              have e1 : cnt + 1 + (d.1.length : Int) = cnt + (((parP (b.take (lenS b).1.toNat)).1 :: d.1).length : Int) := by simp only [List.length_cons]; omega
              have e2 : at' + (lenS b).1 + (d.2.1 : Int) = at' + (((lenS b).1.toNat + d.2.1 : Nat) : Int) := by omega
              simp only [e1, e2, List.append_assoc, List.cons_append, List.nil_append]
abbrev SW20 := (List Int × Unit) × Bool × Int × Int × Int × Bool × Int × Int × Int × List Pk × List Int × List Pk × Unit
abbrev OW20 := SW20 ⊕ ((List Pk × Int × Unit) × Bool × Int × Int × Int × Bool × Int × Int × Int × List Pk × List Int × Unit)
/-- What is told of bytes, behind what was told. -/
def wr20 (d : Dr) (made : Bool) (cnt at' brk : Int) (s0 : Bool) (s1 : Int) (s2 : Int) (s3 : Int) (A : List Pk) (B : List Int) (told : List Pk) : OW20 :=
  if d.2.2.1 = 0 then .inl ((d.2.2.2, ()), s0, s1, s2, s3, made, cnt + d.1.length, at' + d.2.1, brk, A, B, told ++ d.1, ())
  else .inr ((told ++ d.1, d.2.2.1, ()), s0, s1, s2, s3, made, cnt + d.1.length, at' + d.2.1, d.2.2.1, A, B, ())
theorem write20 (made : Bool) (brk : Int) (s0 : Bool) (s1 : Int) (s2 : Int) (s3 : Int) (A : List Pk) (B : List Int) (hN : 10000 ≤ N) : ∀ (k : Nat) (b : List Int) (cnt at' : Int) (told : List Pk), AllB b → b.length < k → b.length ≤ 100000 → 0 ≤ cnt → cnt + b.length ≤ 1000000 → 0 ≤ at' → at' + b.length ≤ 1000000 → told.length + b.length ≤ 1000000 →
    gl (fun (X : SW20 → Option OW20) (c : SW20) => law19_ReframeSame_20_reframe_Stream_Write_L7 N X c.1.1 c.2.1 c.2.2.1 c.2.2.2.1 c.2.2.2.2.1 c.2.2.2.2.2.1 c.2.2.2.2.2.2.1 c.2.2.2.2.2.2.2.1 c.2.2.2.2.2.2.2.2.1 c.2.2.2.2.2.2.2.2.2.1 c.2.2.2.2.2.2.2.2.2.2.1 c.2.2.2.2.2.2.2.2.2.2.2.1) k ((b, ()), s0, s1, s2, s3, made, cnt, at', brk, A, B, told, ()) = some (wr20 (D b) made cnt at' brk s0 s1 s2 s3 A B told)
  | 0, b, _, _, _, _, h, _, _, _, _, _, _ => by omega
  | k + 1, b, cnt, at', told, hw, hk, hb, h1, h2, h3, h4, h5 => by
    rw [gl_succ]
    show law19_ReframeSame_20_reframe_Stream_Write_L7 N (gl _ k) b s0 s1 s2 s3 made cnt at' brk A B told = _
    have ih := write20 made brk s0 s1 s2 s3 A B hN k
    generalize gl (fun (X : SW20 → Option OW20) (c : SW20) => law19_ReframeSame_20_reframe_Stream_Write_L7 N X c.1.1 c.2.1 c.2.2.1 c.2.2.2.1 c.2.2.2.2.1 c.2.2.2.2.2.1 c.2.2.2.2.2.2.1 c.2.2.2.2.2.2.2.1 c.2.2.2.2.2.2.2.2.1 c.2.2.2.2.2.2.2.2.2.1 c.2.2.2.2.2.2.2.2.2.2.1 c.2.2.2.2.2.2.2.2.2.2.2.1) k = Y at ih ⊢
    unfold law19_ReframeSame_20_reframe_Stream_Write_L7
    rw [plen_ok b hw hN, Option.bind_some, D_eq b hw]
    by_cases a1 : b.length < 4
    · rw [if_pos a1, lenS_lt a1]
      simp [wr20]
    · rw [if_neg a1]
      have e4 := lenS_err (b := b) (by omega)
      rw [decide_eq_false e4]
      by_cases a2 : (lenS b).2 ≠ 0
      · rw [if_pos a2, decide_eq_false a2]
        simp [wr20, a2]
      · rw [if_neg a2]
        have a2 : (lenS b).2 = 0 := Decidable.not_not.1 a2
        have hf := lenS_fine a2 hw
        rw [decide_eq_true a2]
        by_cases a3 : (b.length : Int) < (lenS b).1
        · rw [if_pos a3, decide_eq_true a3]
          simp [wr20]
        · rw [if_neg a3, decide_eq_false a3]
          have ht : takeI b (lenS b).1 = some (b.take (lenS b).1.toNat) := takeI_nat b (by omega) (by omega)
          have hd : dropI b (lenS b).1 = some (b.drop (lenS b).1.toNat) := dropI_nat b (by omega) (by omega)
          have hp := ppar_ok (N := N) (b.take (lenS b).1.toNat) (hw.take _) (by rw [List.length_take]; omega) hN
          simp only [cond_false, cond_true, Bool.not_true, ht, Option.bind_some, hp, hd]
          by_cases a4 : (parP (b.take (lenS b).1.toNat)).2 ≠ 0
          · rw [if_pos a4, decide_eq_false a4]
            simp [wr20, a4]
          · rw [if_neg a4]
            have a4 : (parP (b.take (lenS b).1.toNat)).2 = 0 := Decidable.not_not.1 a4
            rw [decide_eq_true a4]
            have hr : roomB (told.length + ([((parP (b.take (lenS b).1.toNat)).1.1, ((parP (b.take (lenS b).1.toNat)).1.2.1, ((parP (b.take (lenS b).1.toNat)).1.2.2.1, (parP (b.take (lenS b).1.toNat)).1.2.2.2)))] : List Pk).length) 56 = true := by
              simp only [List.length_cons, List.length_nil]
              exact roomB_of (by have := big_len; omega) (by omega)
            simp only [Bool.not_true, cond_false, hr, cond_true]
            have hdl : (b.drop (lenS b).1.toNat).length = b.length - (lenS b).1.toNat := List.length_drop
            have := ih (b.drop (lenS b).1.toNat) (cnt + 1) (at' + (lenS b).1) (told ++ [(parP (b.take (lenS b).1.toNat)).1]) (hw.drop _) (by omega) (by omega) (by omega) (by omega) (by omega) (by omega) (by rw [List.length_append]; simp only [List.length_cons, List.length_nil]; omega)
            rw [wrap64 (by omega) (by omega), wrap64 (by omega) (by omega)]
            refine Eq.trans ?_ (this.trans ?_)
            · rfl
            · unfold wr20
              generalize D (b.drop (lenS b).1.toNat) = d
              have e1 : cnt + 1 + (d.1.length : Int) = cnt + (((parP (b.take (lenS b).1.toNat)).1 :: d.1).length : Int) := by simp only [List.length_cons]; omega
              have e2 : at' + (lenS b).1 + (d.2.1 : Int) = at' + (((lenS b).1.toNat + d.2.1 : Nat) : Int) := by omega
              simp only [e1, e2, List.append_assoc, List.cons_append, List.nil_append]
abbrev SW20b := (List Int × Unit) × Bool × Int × Int × Int × Bool × Int × Int × Int × List Pk × List Pk × List Int × List Pk × Unit
abbrev OW20b := SW20b ⊕ ((List Pk × Int × Unit) × Bool × Int × Int × Int × Bool × Int × Int × Int × List Pk × List Pk × List Int × Unit)
/-- What is told of bytes, behind what was told. -/
def wr20b (d : Dr) (made : Bool) (cnt at' brk : Int) (s0 : Bool) (s1 : Int) (s2 : Int) (s3 : Int) (A : List Pk) (A2 : List Pk) (B : List Int) (told : List Pk) : OW20b :=
  if d.2.2.1 = 0 then .inl ((d.2.2.2, ()), s0, s1, s2, s3, made, cnt + d.1.length, at' + d.2.1, brk, A, A2, B, told ++ d.1, ())
  else .inr ((told ++ d.1, d.2.2.1, ()), s0, s1, s2, s3, made, cnt + d.1.length, at' + d.2.1, d.2.2.1, A, A2, B, ())
theorem write20b (made : Bool) (brk : Int) (s0 : Bool) (s1 : Int) (s2 : Int) (s3 : Int) (A : List Pk) (A2 : List Pk) (B : List Int) (hN : 10000 ≤ N) : ∀ (k : Nat) (b : List Int) (cnt at' : Int) (told : List Pk), AllB b → b.length < k → b.length ≤ 100000 → 0 ≤ cnt → cnt + b.length ≤ 1000000 → 0 ≤ at' → at' + b.length ≤ 1000000 → told.length + b.length ≤ 1000000 →
    gl (fun (X : SW20b → Option OW20b) (c : SW20b) => law19_ReframeSame_20_reframe_Stream_Write_L7_2 N X c.1.1 c.2.1 c.2.2.1 c.2.2.2.1 c.2.2.2.2.1 c.2.2.2.2.2.1 c.2.2.2.2.2.2.1 c.2.2.2.2.2.2.2.1 c.2.2.2.2.2.2.2.2.1 c.2.2.2.2.2.2.2.2.2.1 c.2.2.2.2.2.2.2.2.2.2.1 c.2.2.2.2.2.2.2.2.2.2.2.1 c.2.2.2.2.2.2.2.2.2.2.2.2.1) k ((b, ()), s0, s1, s2, s3, made, cnt, at', brk, A, A2, B, told, ()) = some (wr20b (D b) made cnt at' brk s0 s1 s2 s3 A A2 B told)
  | 0, b, _, _, _, _, h, _, _, _, _, _, _ => by omega
  | k + 1, b, cnt, at', told, hw, hk, hb, h1, h2, h3, h4, h5 => by
    rw [gl_succ]
    show law19_ReframeSame_20_reframe_Stream_Write_L7_2 N (gl _ k) b s0 s1 s2 s3 made cnt at' brk A A2 B told = _
    have ih := write20b made brk s0 s1 s2 s3 A A2 B hN k
    generalize gl (fun (X : SW20b → Option OW20b) (c : SW20b) => law19_ReframeSame_20_reframe_Stream_Write_L7_2 N X c.1.1 c.2.1 c.2.2.1 c.2.2.2.1 c.2.2.2.2.1 c.2.2.2.2.2.1 c.2.2.2.2.2.2.1 c.2.2.2.2.2.2.2.1 c.2.2.2.2.2.2.2.2.1 c.2.2.2.2.2.2.2.2.2.1 c.2.2.2.2.2.2.2.2.2.2.1 c.2.2.2.2.2.2.2.2.2.2.2.1 c.2.2.2.2.2.2.2.2.2.2.2.2.1) k = Y at ih ⊢
    unfold law19_ReframeSame_20_reframe_Stream_Write_L7_2
    rw [plen_ok b hw hN, Option.bind_some, D_eq b hw]
    by_cases a1 : b.length < 4
    · rw [if_pos a1, lenS_lt a1]
      simp [wr20b]
    · rw [if_neg a1]
      have e4 := lenS_err (b := b) (by omega)
      rw [decide_eq_false e4]
      by_cases a2 : (lenS b).2 ≠ 0
      · rw [if_pos a2, decide_eq_false a2]
        simp [wr20b, a2]
      · rw [if_neg a2]
        have a2 : (lenS b).2 = 0 := Decidable.not_not.1 a2
        have hf := lenS_fine a2 hw
        rw [decide_eq_true a2]
        by_cases a3 : (b.length : Int) < (lenS b).1
        · rw [if_pos a3, decide_eq_true a3]
          simp [wr20b]
        · rw [if_neg a3, decide_eq_false a3]
          have ht : takeI b (lenS b).1 = some (b.take (lenS b).1.toNat) := takeI_nat b (by omega) (by omega)
          have hd : dropI b (lenS b).1 = some (b.drop (lenS b).1.toNat) := dropI_nat b (by omega) (by omega)
          have hp := ppar_ok (N := N) (b.take (lenS b).1.toNat) (hw.take _) (by rw [List.length_take]; omega) hN
          simp only [cond_false, cond_true, Bool.not_true, ht, Option.bind_some, hp, hd]
          by_cases a4 : (parP (b.take (lenS b).1.toNat)).2 ≠ 0
          · rw [if_pos a4, decide_eq_false a4]
            simp [wr20b, a4]
          · rw [if_neg a4]
            have a4 : (parP (b.take (lenS b).1.toNat)).2 = 0 := Decidable.not_not.1 a4
            rw [decide_eq_true a4]
            have hr : roomB (told.length + ([((parP (b.take (lenS b).1.toNat)).1.1, ((parP (b.take (lenS b).1.toNat)).1.2.1, ((parP (b.take (lenS b).1.toNat)).1.2.2.1, (parP (b.take (lenS b).1.toNat)).1.2.2.2)))] : List Pk).length) 56 = true := by
              simp only [List.length_cons, List.length_nil]
              exact roomB_of (by have := big_len; omega) (by omega)
            simp only [Bool.not_true, cond_false, hr, cond_true]
            have hdl : (b.drop (lenS b).1.toNat).length = b.length - (lenS b).1.toNat := List.length_drop
            have := ih (b.drop (lenS b).1.toNat) (cnt + 1) (at' + (lenS b).1) (told ++ [(parP (b.take (lenS b).1.toNat)).1]) (hw.drop _) (by omega) (by omega) (by omega) (by omega) (by omega) (by omega) (by rw [List.length_append]; simp only [List.length_cons, List.length_nil]; omega)
            rw [wrap64 (by omega) (by omega), wrap64 (by omega) (by omega)]
            refine Eq.trans ?_ (this.trans ?_)
            · rfl
            · unfold wr20b
              generalize D (b.drop (lenS b).1.toNat) = d
              have e1 : cnt + 1 + (d.1.length : Int) = cnt + (((parP (b.take (lenS b).1.toNat)).1 :: d.1).length : Int) := by simp only [List.length_cons]; omega
              have e2 : at' + (lenS b).1 + (d.2.1 : Int) = at' + (((lenS b).1.toNat + d.2.1 : Nat) : Int) := by omega
              simp only [e1, e2, List.append_assoc, List.cons_append, List.nil_append]
end Go.Proofs.Ytpijcgohhjgdbaa
