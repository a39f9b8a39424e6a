/-
  What the walks are told of an argument that is a struct by value, field by field.
-/
import Derived.Test.YtecnclcendcfmaaOpen
import Derived.Lib.SmallJoins
namespace Go.Proofs.Ytecnclcendcfmaa
set_option maxRecDepth 100000
open Go.ChangeShapes Go.WideShapes Go.ChangeAt Go.RowKit
open Go.ChangeMaps (open_string shut_string)
set_option linter.unusedVariables false

section
variable {H : Type} {enc : TypeId × Value → H} {W : World}
theorem int_cell {T : TypeId} {k : IntKind} {fuel : Nat} {c : Value} {x : DataW H × List MemPlace} (uT : Try.prog.underlying T = some (.int k)) (h : DataW.trod enc Try.prog W 0 (fun _ => true) true fuel T [c] = some x) :
    ∃ z, c = .int k z ∧ (Lit.int k z).wf = true := by
  obtain ⟨z, hz, _, hw⟩ := DataW.trod_int uT h
  exact ⟨z, by simpa using hz, hw⟩
theorem bool_cell {T : TypeId} {fuel : Nat} {c : Value} {x : DataW H × List MemPlace} (uT : Try.prog.underlying T = some .bool) (h : DataW.trod enc Try.prog W 0 (fun _ => true) true fuel T [c] = some x) :
    ∃ z, c = .bool z := by
  obtain ⟨z, hz, _⟩ := DataW.trod_bool uT h
  exact ⟨z, by simpa using hz⟩
theorem u16_nat {a : Int} (h : (Lit.int .u16 a).wf = true) : ∃ N : Nat, a = (N : Int) ∧ N < 65536 := by
  have := bounds_u16 h
  exact ⟨a.toNat, by omega, by omega⟩
end
end Go.Proofs.Ytecnclcendcfmaa
