/-
  Parts of my own, one behind the other: GAttr.
-/
import Derived.Test.YtcmekgfglohooaaMrg4
/-
  Functions of the program as plain functions on typed data, and that they are so. Printed by a program of mine.
-/
namespace Go.Proofs.Ytcmekgfglohooaa
open Go.RowKit
set_option linter.unusedVariables false
set_option maxRecDepth 100000
theorem law17_AttrMakes_S (N : Nat) (s0 : (Int) × ((Int) × (List (Int)))) (x1 : (Int) × ((Arr (Int) 32) × ((Arr (Int) 32) × (Arr (Int) 32)))) (y2 : (Int) × (Arr (Int) 32)) : (runK Go.Proofs.Try.prog (Ev63 N) 400 4 [(.pair (.int .u8) (.pair (.int .u32) (.sl (.int .u8)))), (.pair (.int .u8) (.pair (.arr 32 (.int .u8)) (.pair (.arr 32 (.int .u8)) (.arr 32 (.int .u8))))), (.pair (.int .u8) (.arr 32 (.int .u8)))] [.bool] (s0, x1, y2, ())).run = law17_AttrMakes N s0 x1 y2 := by kernel_rfl
theorem law17_AttrMakes_C (N : Nat) (s0 : (Int) × ((Int) × (List (Int)))) (x1 : (Int) × ((Arr (Int) 32) × ((Arr (Int) 32) × (Arr (Int) 32)))) (y2 : (Int) × (Arr (Int) 32)) (y : Bool) (h : law17_AttrMakes N s0 x1 y2 = some y) : CallsK Go.Proofs.Try.prog 4 (valA [(.pair (.int .u8) (.pair (.int .u32) (.sl (.int .u8)))), (.pair (.int .u8) (.pair (.arr 32 (.int .u8)) (.pair (.arr 32 (.int .u8)) (.arr 32 (.int .u8))))), (.pair (.int .u8) (.arr 32 (.int .u8)))] (s0, x1, y2, ())) (tupV (valR [.bool] y)) := runK_ok hmx (Ev63_ok N _) (okFn_ok (by kernel_rfl)) (by rw [law17_AttrMakes_S]; exact h)
noncomputable def Ev64 (N : Nat) : (R : Type) → Env R := Env.addFn (Ev63 N) 4 (fun R => fnK [(.pair (.int .u8) (.pair (.int .u32) (.sl (.int .u8)))), (.pair (.int .u8) (.pair (.arr 32 (.int .u8)) (.pair (.arr 32 (.int .u8)) (.arr 32 (.int .u8))))), (.pair (.int .u8) (.arr 32 (.int .u8)))] [.bool] (fun c => law17_AttrMakes N c.1 c.2.1 c.2.2.1))
theorem Ev64_ok (N : Nat) (R : Type) : EnvOK Go.Proofs.Try.prog (Ev64 N R) := EnvOK.addFn hmx (Ev63_ok N R) (Ev63_ok N _) (by kernel_rfl) (fun c => law17_AttrMakes_S N c.1 c.2.1 c.2.2.1)
end Go.Proofs.Ytcmekgfglohooaa
