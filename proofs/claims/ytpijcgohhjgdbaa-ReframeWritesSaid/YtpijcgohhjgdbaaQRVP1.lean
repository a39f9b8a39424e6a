/-
  Layer 18, on plain data: attributes checked.
-/
import Derived.Test.YtpijcgohhjgdbaaQRVP0
namespace Go.Proofs.Ytpijcgohhjgdbaa
set_option maxRecDepth 100000
open Go.RowKit
set_option linter.unusedVariables false
set_option linter.unusedSimpArgs false
set_option maxRecDepth 100000

def z3 (x y z : Int) : Bool := decide (x = 0) && decide (y = 0) && decide (z = 0)
/-- Whether data of a kind begin as they must. -/
def okB (k w : Int) : Bool := if k = 2 then decide (w ≤ 4) else if k = 3 then decide (w = 1) || decide (w = 2) else decide (1 ≤ w) && decide (w ≤ 3)
def leastA (k : Int) : Nat := if k = 1 then 2 else if k = 2 then 8 else if k = 3 then 100 else 36
def mostA (k : Int) : Nat := if k = 1 then 2 else if k = 2 then 72 else if k = 3 then 100 else 36
def chk (a : At2) : Int :=
  if kindB a.1 = false then 9 else if a.2.length < leastA a.1 then 4 else if mostA a.1 < a.2.length then 3 else if a.1 = 1 then 0 else
    if (z3 (a.2.getD 0 0) (a.2.getD 1 0) (a.2.getD 2 0) && okB a.1 (a.2.getD 3 0)) = true then 0 else 3
theorem kindB_cases {k : Int} (h : kindB k = true) : k = 1 ∨ k = 2 ∨ k = 3 ∨ k = 4 := by
  unfold kindB at h
  have := of_decide_eq_true h
  omega
section
variable {N : Nat}
end
theorem wf_attr {a : At2} (h : wfT (.pair (.int .u8) (.sl (.int .u8))) a) : wfA a := ⟨wf_u8 h.1, wf_bytes h.2⟩
end Go.Proofs.Ytpijcgohhjgdbaa
