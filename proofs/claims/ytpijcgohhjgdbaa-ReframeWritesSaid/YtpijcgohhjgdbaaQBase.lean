/-
  Plain functions: numbers that fit, elements, rounds.
-/
import Derived.Test.YtpijcgohhjgdbaaKC
namespace Go.Proofs.Ytpijcgohhjgdbaa
set_option maxRecDepth 100000
open Go.RowKit
set_option linter.unusedVariables false
set_option linter.unusedSimpArgs false

theorem wrap64 {x : Int} (h1 : -9223372036854775808 ≤ x) (h2 : x < 9223372036854775808) : Go.IntKind.wrap .i64 x = x := by
  have := IntKind.wrap_i64 x
  rw [this]; omega
theorem wrapU8 {x : Int} (h1 : 0 ≤ x) (h2 : x < 256) : Go.IntKind.wrap .u8 x = x := by
  rw [IntKind.wrap_u8]; omega
theorem getI_nat {α : Type} (l : List α) (i : Nat) : getI l (i : Int) = l[i]? := by unfold getI; rw [if_pos (Int.natCast_nonneg i), Int.toNat_natCast]
theorem getI_lt {α : Type} (l : List α) (i : Nat) (h : i < l.length) : getI l (i : Int) = some l[i] := by rw [getI_nat, List.getElem?_eq_getElem h]
theorem roomB_of {n b : Nat} (h1 : n ≤ maxLen) (h2 : n * b ≤ 140737488355328) : roomB n b = true := decide_eq_true ⟨h1, h2⟩
theorem big_len : 1000000000 ≤ maxLen := by simp [maxLen]
theorem gl_succ {C O : Type} (G : (C → Option O) → C → Option O) (n : Nat) (c : C) : gl G (n + 1) c = G (gl G n) c := rfl
/-- Rounds that go on to the end. -/
theorem gl_run {C O : Type} {G : (C → Option O) → C → Option O} (st : Nat → C) (n : Nat) (o : O) (hstep : ∀ X i, i < n → G X (st i) = X (st (i + 1))) (hend : ∀ X, G X (st n) = some o) : ∀ k i, i ≤ n → n - i < k → gl G k (st i) = some o
  | 0, i, _, h => by omega
  | k + 1, i, hi, h => by
    rw [gl_succ]
    rcases Nat.lt_or_ge i n with h' | h'
    · rw [hstep _ i h']; exact gl_run st n o hstep hend k (i + 1) h' (by omega)
    · have : i = n := by omega
      subst this; exact hend _
/-- Rounds with an invariant: they end, and so holds of what they hand out. -/
theorem gl_inv {C O : Type} {G : (C → Option O) → C → Option O} (I : Nat → C → Prop) (Q : O → Prop) (hstep : ∀ X n c, I n c → (∃ o, G X c = some o ∧ Q o) ∨ ∃ m c', m < n ∧ I m c' ∧ G X c = X c') : ∀ k n c, n < k → I n c → ∃ o, gl G k c = some o ∧ Q o
  | 0, n, c, h, _ => by omega
  | k + 1, n, c, h, hi => by
    rw [gl_succ]
    rcases hstep (gl G k) n c hi with h1 | ⟨m, c', h1, h2, h3⟩
    · exact h1
    · rw [h3]; exact gl_inv I Q hstep k m c' (by omega) h2
theorem beq_rfl' (b : Bool) : (b == b) = true := by cases b <;> rfl
end Go.Proofs.Ytpijcgohhjgdbaa
