/-
  Functions of the program as plain functions on typed data, and that they are so. Printed by a program of mine.
-/
import Derived.Test.YtpijcgohhjgdbaaKD
namespace Go.Proofs.Ytpijcgohhjgdbaa
open Go.RowKit
set_option linter.unusedVariables false
set_option maxRecDepth 100000
theorem hmx : Go.Proofs.Try.prog.follows .mixedOrders = true := by kernel_rfl
noncomputable def Ev0 (N : Nat) : (R : Type) → Env R := Env.addInl env0 []
theorem Ev0_ok (N : Nat) (R : Type) : EnvOK Go.Proofs.Try.prog (Ev0 N R) := EnvOK.addInl (env0_ok R) (by kernel_rfl)
noncomputable def Ev1 (N : Nat) : (R : Type) → Env R := Env.addScl (Ev0 N) [23]
theorem Ev1_ok (N : Nat) (R : Type) : EnvOK Go.Proofs.Try.prog (Ev1 N R) := EnvOK.addScl (Ev0_ok N R) [23]
noncomputable def Ev2 (N : Nat) : (R : Type) → Env R := Env.addMv (Ev1 N) [(33, 3)]
theorem Ev2_ok (N : Nat) (R : Type) : EnvOK Go.Proofs.Try.prog (Ev2 N R) := EnvOK.addMv (Ev1_ok N R) [(33, 3)]
noncomputable def Ev3 (N : Nat) : (R : Type) → Env R := Env.addMv (Ev2 N) [(11, 14), (11, 7)]
theorem Ev3_ok (N : Nat) (R : Type) : EnvOK Go.Proofs.Try.prog (Ev3 N R) := EnvOK.addMv (Ev2_ok N R) [(11, 14), (11, 7)]
noncomputable def Ev4 (N : Nat) : (R : Type) → Env R := Env.addMv (Ev3 N) [(16, 3)]
theorem Ev4_ok (N : Nat) (R : Type) : EnvOK Go.Proofs.Try.prog (Ev4 N R) := EnvOK.addMv (Ev3_ok N R) [(16, 3)]
noncomputable def Ev5 (N : Nat) : (R : Type) → Env R := Env.addBx (Ev4 N) [(39, 0)]
theorem Ev5_ok (N : Nat) (R : Type) : EnvOK Go.Proofs.Try.prog (Ev5 N R) := EnvOK.addBx (Ev4_ok N R) [(39, 0)]
noncomputable def attr_isKind (N : Nat) (kind0 : Int) : Option (Bool) :=
 bif (decide ((1 : Int) ≤ kind0)) then
  some ((@cond Bool @Bool.true (decide (kind0 ≤ (4 : Int))) @Bool.false))
 else
  some (@Bool.false)
theorem attr_isKind_S (N : Nat) (kind0 : Int) : (runK Go.Proofs.Try.prog (Ev5 N) 400 43 [(.int .u8)] [.bool] (kind0, ())).run = attr_isKind N kind0 := by kernel_rfl
noncomputable def Ev6 (N : Nat) : (R : Type) → Env R := Env.addFn (Ev5 N) 43 (fun R => fnK [(.int .u8)] [.bool] (fun c => attr_isKind N c.1))
theorem Ev6_ok (N : Nat) (R : Type) : EnvOK Go.Proofs.Try.prog (Ev6 N R) := EnvOK.addFn hmx (Ev5_ok N R) (Ev5_ok N _) (by kernel_rfl) (fun c => attr_isKind_S N c.1)
noncomputable def octs_place (N : Nat) (i0 : Int) (width1 : Int) (little2 : Bool) : Option (Int) :=
 bif little2 then
  some (i0)
 else
  some ((Go.IntKind.wrap .i64 ((Go.IntKind.wrap .i64 (width1 - (1 : Int))) - i0)))
theorem octs_place_S (N : Nat) (i0 : Int) (width1 : Int) (little2 : Bool) : (runK Go.Proofs.Try.prog (Ev6 N) 400 40 [(.int .i64), (.int .i64), .bool] [(.int .i64)] (i0, width1, little2, ())).run = octs_place N i0 width1 little2 := by kernel_rfl
noncomputable def Ev7 (N : Nat) : (R : Type) → Env R := Env.addFn (Ev6 N) 40 (fun R => fnK [(.int .i64), (.int .i64), .bool] [(.int .i64)] (fun c => octs_place N c.1 c.2.1 c.2.2.1))
theorem Ev7_ok (N : Nat) (R : Type) : EnvOK Go.Proofs.Try.prog (Ev7 N R) := EnvOK.addFn hmx (Ev6_ok N R) (Ev6_ok N _) (by kernel_rfl) (fun c => octs_place_S N c.1 c.2.1 c.2.2.1)
noncomputable def octs_Put_L5_I : LI := ⟨35, 0, [], ⟨[(0, .ty (.int .u64)), (1, .ty (.int .i64)), (2, .ty .bool), (8, .lit (.own 0)), (19, .ty (.int .i64)), (20, .ty (.int .i64))], [.own (.int .u8) 5]⟩, [(.exit 0, ⟨[(8, .lit (.own 0))], [.own (.int .u8) 5]⟩)]⟩
noncomputable def octs_Put_L5 (N : Nat) (X : (((Int) × ((Int) × ((Bool) × ((Int) × ((Int) × Unit))))) × ((List (Int)) × Unit)) → Option ((Unit × ((List (Int)) × Unit)))) (n0 : Int) (width1 : Int) (little2 : Bool) (x19 : Int) (x20 : Int) (h0 : List (Int)) : Option ((Unit × ((List (Int)) × Unit))) :=
 bif (decide (x20 < x19)) then
  Option.bind (@octs_place N x20 width1 little2) fun (v8 : Int) =>
  bif (decide ((0 : Int) ≤ v8 ∧ v8 < (((List.length h0) : Nat) : Int))) then
   Option.bind (@GetElem?.getElem? (List Int) Nat Int (fun (as9 : (List Int)) => (fun (i10 : Nat) => (@LT.lt Nat @instLTNat i10 (List.length as9)))) (@List.instGetElem?NatLtLength Int) h0 (Int.toNat v8)) fun (v9 : Int) =>
   (X (((@Int.fdiv n0 (@HPow.hPow Int Nat Int (@instHPow Int Nat (@instPowNat Int @Int.instNatPow)) (2 : Int) (@Min.min Nat @instMinNat (Int.toNat (8 : Int)) (@Go.IntKind.bits @Go.IntKind.u64)))), (width1, (little2, (x19, ((Go.IntKind.wrap .i64 (x20 + (1 : Int))), @Unit.unit))))), ((@List.set Int h0 (Int.toNat v8) (Go.IntKind.wrap .u8 n0)), @Unit.unit)))
  else
   none
 else
  some ((@Unit.unit, (h0, @Unit.unit)))
noncomputable def octs_Put_L5_R (N : Nat) (c : (((Int) × ((Int) × ((Bool) × ((Int) × ((Int) × Unit))))) × ((List (Int)) × Unit))) : Option ((Unit × ((List (Int)) × Unit))) := gl (fun X c => octs_Put_L5 N X c.1.1 c.1.2.1 c.1.2.2.1 c.1.2.2.2.1 c.1.2.2.2.2.1 c.2.1) N c
theorem octs_Put_L5_S (N : Nat) (X : (((Int) × ((Int) × ((Bool) × ((Int) × ((Int) × Unit))))) × ((List (Int)) × Unit)) → Option ((Unit × ((List (Int)) × Unit)))) (n0 : Int) (width1 : Int) (little2 : Bool) (x19 : Int) (x20 : Int) (h0 : List (Int)) : (roundK Go.Proofs.Try.prog (Ev7 N) 400 [31] octs_Put_L5_I (loopAt Go.Proofs.Try.prog [31] 5) X ((n0, width1, little2, x19, x20, ()), (h0, ()))).run = octs_Put_L5 N X n0 width1 little2 x19 x20 h0 := by kernel_rfl
noncomputable def Ev8 (N : Nat) : (R : Type) → Env R := Env.addLp (Ev7 N) [31] 0 5 (fun R => lpK Go.Proofs.Try.prog octs_Put_L5_I (fun X c => octs_Put_L5 N X c.1.1 c.1.2.1 c.1.2.2.1 c.1.2.2.2.1 c.1.2.2.2.2.1 c.2.1) N)
theorem Ev8_ok (N : Nat) (R : Type) : EnvOK Go.Proofs.Try.prog (Ev8 N R) := EnvOK.addLp (Ev7_ok N R) (by kernel_rfl) (lpK_ok (li := octs_Put_L5_I) (G := fun X c => octs_Put_L5 N X c.1.1 c.1.2.1 c.1.2.2.1 c.1.2.2.2.1 c.1.2.2.2.2.1 c.2.1) hmx (Ev7_ok N _) (by kernel_rfl) loopAt_sub (fun (X : CT octs_Put_L5_I.sh → Option (OT octs_Put_L5_I.outs)) (c : CT octs_Put_L5_I.sh) => octs_Put_L5_S N X c.1.1 c.1.2.1 c.1.2.2.1 c.1.2.2.2.1 c.1.2.2.2.2.1 c.2.1) N)
noncomputable def octs_Put (N : Nat) (n0 : Int) (width1 : Int) (little2 : Bool) : Option ((List (Int)) × Int) :=
 bif (decide (width1 < (1 : Int))) then
  some ((([] : List (Int)), (1 : Int)))
 else
  bif (@cond Bool @Bool.false @Bool.true (decide ((8 : Int) < width1))) then
   some ((([] : List (Int)), (1 : Int)))
  else
   bif ((decide ((0 : Int) ≤ width1 ∧ width1 ≤ width1)) && (roomB (Int.toNat width1) 1)) then
    Option.bind (octs_Put_L5_R N ((n0, (width1, (little2, ((((List.length (@List.replicate Int (Int.toNat width1) (0 : Int))) : Nat) : Int), ((0 : Int), @Unit.unit))))), ((@List.replicate Int (Int.toNat width1) (0 : Int)), @Unit.unit))) fun (v4 : (Unit × ((List Int) × Unit))) =>
    some ((v4.2.1, (0 : Int)))
   else
    none
theorem octs_Put_S (N : Nat) (n0 : Int) (width1 : Int) (little2 : Bool) : (runK Go.Proofs.Try.prog (Ev8 N) 400 31 [(.int .u64), (.int .i64), .bool] [(.sl (.int .u8)), (.int .i64)] (n0, width1, little2, ())).run = octs_Put N n0 width1 little2 := by kernel_rfl
noncomputable def Ev9 (N : Nat) : (R : Type) → Env R := Env.addFn (Ev8 N) 31 (fun R => fnK [(.int .u64), (.int .i64), .bool] [(.sl (.int .u8)), (.int .i64)] (fun c => octs_Put N c.1 c.2.1 c.2.2.1))
theorem Ev9_ok (N : Nat) (R : Type) : EnvOK Go.Proofs.Try.prog (Ev9 N R) := EnvOK.addFn hmx (Ev8_ok N R) (Ev8_ok N _) (by kernel_rfl) (fun c => octs_Put_S N c.1 c.2.1 c.2.2.1)
noncomputable def octs_Join_L3_I : LI := ⟨33, 0, [], ⟨[(0, .ty (.sl (.sl (.int .u8)))), (3, .ty (.int .i64)), (9, .ty (.sl (.sl (.int .u8)))), (10, .ty (.int .i64)), (11, .ty (.int .i64))], []⟩, [(.exit 0, ⟨[(0, .ty (.sl (.sl (.int .u8)))), (3, .ty (.int .i64))], []⟩)]⟩
noncomputable def octs_Join_L3 (N : Nat) (X : (((List (List (Int))) × ((Int) × ((List (List (Int))) × ((Int) × ((Int) × Unit))))) × Unit) → Option ((((List (List (Int))) × ((Int) × Unit)) × Unit))) (parts0 : List (List (Int))) (size3 : Int) (x9 : List (List (Int))) (x10 : Int) (x11 : Int) : Option ((((List (List (Int))) × ((Int) × Unit)) × Unit)) :=
 bif (decide (x11 < x10)) then
  Option.bind (getI x9 x11) fun (v7 : (List Int)) =>
  (X ((parts0, ((Go.IntKind.wrap .i64 (size3 + (((List.length v7) : Nat) : Int))), (x9, (x10, ((Go.IntKind.wrap .i64 (x11 + (1 : Int))), @Unit.unit))))), @Unit.unit))
 else
  some (((parts0, (size3, @Unit.unit)), @Unit.unit))
noncomputable def octs_Join_L3_R (N : Nat) (c : (((List (List (Int))) × ((Int) × ((List (List (Int))) × ((Int) × ((Int) × Unit))))) × Unit)) : Option ((((List (List (Int))) × ((Int) × Unit)) × Unit)) := gl (fun X c => octs_Join_L3 N X c.1.1 c.1.2.1 c.1.2.2.1 c.1.2.2.2.1 c.1.2.2.2.2.1) N c
theorem octs_Join_L3_S (N : Nat) (X : (((List (List (Int))) × ((Int) × ((List (List (Int))) × ((Int) × ((Int) × Unit))))) × Unit) → Option ((((List (List (Int))) × ((Int) × Unit)) × Unit))) (parts0 : List (List (Int))) (size3 : Int) (x9 : List (List (Int))) (x10 : Int) (x11 : Int) : (roundK Go.Proofs.Try.prog (Ev9 N) 400 [32] octs_Join_L3_I (loopAt Go.Proofs.Try.prog [32] 3) X ((parts0, size3, x9, x10, x11, ()), ())).run = octs_Join_L3 N X parts0 size3 x9 x10 x11 := by kernel_rfl
noncomputable def Ev10 (N : Nat) : (R : Type) → Env R := Env.addLp (Ev9 N) [32] 0 3 (fun R => lpK Go.Proofs.Try.prog octs_Join_L3_I (fun X c => octs_Join_L3 N X c.1.1 c.1.2.1 c.1.2.2.1 c.1.2.2.2.1 c.1.2.2.2.2.1) N)
theorem Ev10_ok (N : Nat) (R : Type) : EnvOK Go.Proofs.Try.prog (Ev10 N R) := EnvOK.addLp (Ev9_ok N R) (by kernel_rfl) (lpK_ok (li := octs_Join_L3_I) (G := fun X c => octs_Join_L3 N X c.1.1 c.1.2.1 c.1.2.2.1 c.1.2.2.2.1 c.1.2.2.2.2.1) hmx (Ev9_ok N _) (by kernel_rfl) loopAt_sub (fun (X : CT octs_Join_L3_I.sh → Option (OT octs_Join_L3_I.outs)) (c : CT octs_Join_L3_I.sh) => octs_Join_L3_S N X c.1.1 c.1.2.1 c.1.2.2.1 c.1.2.2.2.1 c.1.2.2.2.2.1) N)
noncomputable def octs_Join_L9_I : LI := ⟨33, 0, [], ⟨[(6, .lit (.own 0)), (22, .ty (.sl (.sl (.int .u8)))), (23, .ty (.int .i64)), (24, .ty (.int .i64))], [.own (.int .u8) 5]⟩, [(.exit 2, ⟨[(6, .lit (.own 0))], [.own (.int .u8) 5]⟩)]⟩
noncomputable def octs_Join_L9 (N : Nat) (X : (((List (List (Int))) × ((Int) × ((Int) × Unit))) × ((List (Int)) × Unit)) → Option ((Unit × ((List (Int)) × Unit)))) (x22 : List (List (Int))) (x23 : Int) (x24 : Int) (h0 : List (Int)) : Option ((Unit × ((List (Int)) × Unit))) :=
 bif (decide (x24 < x23)) then
  Option.bind (getI x22 x24) fun (v6 : (List Int)) =>
  bif (roomB ((List.length h0) + (List.length v6)) 1) then
   (X ((x22, (x23, ((Go.IntKind.wrap .i64 (x24 + (1 : Int))), @Unit.unit))), ((h0 ++ v6), @Unit.unit)))
  else
   none
 else
  some ((@Unit.unit, (h0, @Unit.unit)))
noncomputable def octs_Join_L9_R (N : Nat) (c : (((List (List (Int))) × ((Int) × ((Int) × Unit))) × ((List (Int)) × Unit))) : Option ((Unit × ((List (Int)) × Unit))) := gl (fun X c => octs_Join_L9 N X c.1.1 c.1.2.1 c.1.2.2.1 c.2.1) N c
theorem octs_Join_L9_S (N : Nat) (X : (((List (List (Int))) × ((Int) × ((Int) × Unit))) × ((List (Int)) × Unit)) → Option ((Unit × ((List (Int)) × Unit)))) (x22 : List (List (Int))) (x23 : Int) (x24 : Int) (h0 : List (Int)) : (roundK Go.Proofs.Try.prog (Ev10 N) 400 [32] octs_Join_L9_I (loopAt Go.Proofs.Try.prog [32] 9) X ((x22, x23, x24, ()), (h0, ()))).run = octs_Join_L9 N X x22 x23 x24 h0 := by kernel_rfl
noncomputable def Ev11 (N : Nat) : (R : Type) → Env R := Env.addLp (Ev10 N) [32] 0 9 (fun R => lpK Go.Proofs.Try.prog octs_Join_L9_I (fun X c => octs_Join_L9 N X c.1.1 c.1.2.1 c.1.2.2.1 c.2.1) N)
theorem Ev11_ok (N : Nat) (R : Type) : EnvOK Go.Proofs.Try.prog (Ev11 N R) := EnvOK.addLp (Ev10_ok N R) (by kernel_rfl) (lpK_ok (li := octs_Join_L9_I) (G := fun X c => octs_Join_L9 N X c.1.1 c.1.2.1 c.1.2.2.1 c.2.1) hmx (Ev10_ok N _) (by kernel_rfl) loopAt_sub (fun (X : CT octs_Join_L9_I.sh → Option (OT octs_Join_L9_I.outs)) (c : CT octs_Join_L9_I.sh) => octs_Join_L9_S N X c.1.1 c.1.2.1 c.1.2.2.1 c.2.1) N)
noncomputable def octs_Join (N : Nat) (parts0 : List (List (Int))) : Option (List (Int)) :=
 Option.bind (octs_Join_L3_R N ((parts0, ((0 : Int), (parts0, ((((List.length parts0) : Nat) : Int), ((0 : Int), @Unit.unit))))), @Unit.unit)) fun (v2 : (((List (List Int)) × (Int × Unit)) × Unit)) =>
 bif ((decide ((0 : Int) ≤ (0 : Int) ∧ (0 : Int) ≤ v2.1.2.1)) && (roomB (Int.toNat v2.1.2.1) 1)) then
  Option.bind (octs_Join_L9_R N ((v2.1.1, ((((List.length v2.1.1) : Nat) : Int), ((0 : Int), @Unit.unit))), ((@List.replicate Int (Int.toNat (0 : Int)) (0 : Int)), @Unit.unit))) fun (v3 : (Unit × ((List Int) × Unit))) =>
  some (v3.2.1)
 else
  none
theorem octs_Join_S (N : Nat) (parts0 : List (List (Int))) : (runK Go.Proofs.Try.prog (Ev11 N) 400 32 [(.sl (.sl (.int .u8)))] [(.sl (.int .u8))] (parts0, ())).run = octs_Join N parts0 := by kernel_rfl
noncomputable def Ev12 (N : Nat) : (R : Type) → Env R := Env.addFn (Ev11 N) 32 (fun R => fnK [(.sl (.sl (.int .u8)))] [(.sl (.int .u8))] (fun c => octs_Join N c.1))
theorem Ev12_ok (N : Nat) (R : Type) : EnvOK Go.Proofs.Try.prog (Ev12 N R) := EnvOK.addFn hmx (Ev11_ok N R) (Ev11_ok N _) (by kernel_rfl) (fun c => octs_Join_S N c.1)
noncomputable def attr_Lay (N : Nat) (a0 : (Int) × (List (Int))) : Option ((List (Int)) × Int) :=
 Option.bind (@attr_isKind N a0.1) fun (v2 : Bool) =>
 bif (!v2) then
  some ((([] : List (Int)), (9 : Int)))
 else
  bif (decide ((4095 : Int) < (Go.IntKind.wrap .i64 ((4 : Int) + (((List.length a0.2) : Nat) : Int))))) then
   some ((([] : List (Int)), (8 : Int)))
  else
   Option.bind (@octs_Put N (Go.IntKind.wrap .u64 (Go.IntKind.wrap .i64 ((4 : Int) + (((List.length a0.2) : Nat) : Int)))) (2 : Int) @Bool.false) fun (v3 : ((List Int) × Int)) =>
   Option.bind (@octs_Join N ([([(0 : Int), a0.1] : List (Int)), v3.1, a0.2] : List ((List Int)))) fun (v4 : (List Int)) =>
   some ((v4, (0 : Int)))
theorem attr_Lay_S (N : Nat) (a0 : (Int) × (List (Int))) : (runK Go.Proofs.Try.prog (Ev12 N) 400 39 [(.pair (.int .u8) (.sl (.int .u8)))] [(.sl (.int .u8)), (.int .i64)] (a0, ())).run = attr_Lay N a0 := by kernel_rfl
theorem attr_Lay_C (N : Nat) (a0 : (Int) × (List (Int))) (y : (List (Int)) × Int) (h : attr_Lay N a0 = some y) : CallsK Go.Proofs.Try.prog 39 (valA [(.pair (.int .u8) (.sl (.int .u8)))] (a0, ())) (tupV (valR [(.sl (.int .u8)), (.int .i64)] y)) := runK_ok hmx (Ev12_ok N _) (okFn_ok (by kernel_rfl)) (by rw [attr_Lay_S]; exact h)
noncomputable def Ev13 (N : Nat) : (R : Type) → Env R := Env.addFn (Ev12 N) 39 (fun R => fnK [(.pair (.int .u8) (.sl (.int .u8)))] [(.sl (.int .u8)), (.int .i64)] (fun c => attr_Lay N c.1))
theorem Ev13_ok (N : Nat) (R : Type) : EnvOK Go.Proofs.Try.prog (Ev13 N R) := EnvOK.addFn hmx (Ev12_ok N R) (Ev12_ok N _) (by kernel_rfl) (fun c => attr_Lay_S N c.1)
noncomputable def octs_Get_L5_I : LI := ⟨37, 0, [], ⟨[(0, .ty (.sl (.int .u8))), (1, .ty .bool), (6, .ty (.int .u64)), (17, .ty (.int .i64)), (18, .ty (.int .i64))], []⟩, [(.exit 0, ⟨[(6, .ty (.int .u64))], []⟩)]⟩
noncomputable def octs_Get_L5 (N : Nat) (X : (((List (Int)) × ((Bool) × ((Int) × ((Int) × ((Int) × Unit))))) × Unit) → Option ((((Int) × Unit) × Unit))) (b0 : List (Int)) (little1 : Bool) (n6 : Int) (x17 : Int) (x18 : Int) : Option ((((Int) × Unit) × Unit)) :=
 bif (decide (x18 < x17)) then
  Option.bind (@octs_place N x18 (((List.length b0) : Nat) : Int) little1) fun (v7 : Int) =>
  Option.bind (getI b0 v7) fun (v8 : Int) =>
  bif (decide ((0 : Int) ≤ (Go.IntKind.wrap .i64 ((8 : Int) * x18)))) then
   (X ((b0, (little1, ((@Go.bits @Go.BinOp.or @Go.IntKind.u64 n6 (Go.IntKind.wrap .u64 ((Go.IntKind.wrap .u64 v8) * (@HPow.hPow Int Nat Int (@instHPow Int Nat (@instPowNat Int @Int.instNatPow)) (2 : Int) (@Min.min Nat @instMinNat (Int.toNat (Go.IntKind.wrap .i64 ((8 : Int) * x18))) (@Go.IntKind.bits @Go.IntKind.u64)))))), (x17, ((Go.IntKind.wrap .i64 (x18 + (1 : Int))), @Unit.unit))))), @Unit.unit))
  else
   none
 else
  some (((n6, @Unit.unit), @Unit.unit))
noncomputable def octs_Get_L5_R (N : Nat) (c : (((List (Int)) × ((Bool) × ((Int) × ((Int) × ((Int) × Unit))))) × Unit)) : Option ((((Int) × Unit) × Unit)) := gl (fun X c => octs_Get_L5 N X c.1.1 c.1.2.1 c.1.2.2.1 c.1.2.2.2.1 c.1.2.2.2.2.1) N c
theorem octs_Get_L5_S (N : Nat) (X : (((List (Int)) × ((Bool) × ((Int) × ((Int) × ((Int) × Unit))))) × Unit) → Option ((((Int) × Unit) × Unit))) (b0 : List (Int)) (little1 : Bool) (n6 : Int) (x17 : Int) (x18 : Int) : (roundK Go.Proofs.Try.prog (Ev13 N) 400 [36] octs_Get_L5_I (loopAt Go.Proofs.Try.prog [36] 5) X ((b0, little1, n6, x17, x18, ()), ())).run = octs_Get_L5 N X b0 little1 n6 x17 x18 := by kernel_rfl
noncomputable def Ev14 (N : Nat) : (R : Type) → Env R := Env.addLp (Ev13 N) [36] 0 5 (fun R => lpK Go.Proofs.Try.prog octs_Get_L5_I (fun X c => octs_Get_L5 N X c.1.1 c.1.2.1 c.1.2.2.1 c.1.2.2.2.1 c.1.2.2.2.2.1) N)
theorem Ev14_ok (N : Nat) (R : Type) : EnvOK Go.Proofs.Try.prog (Ev14 N R) := EnvOK.addLp (Ev13_ok N R) (by kernel_rfl) (lpK_ok (li := octs_Get_L5_I) (G := fun X c => octs_Get_L5 N X c.1.1 c.1.2.1 c.1.2.2.1 c.1.2.2.2.1 c.1.2.2.2.2.1) hmx (Ev13_ok N _) (by kernel_rfl) loopAt_sub (fun (X : CT octs_Get_L5_I.sh → Option (OT octs_Get_L5_I.outs)) (c : CT octs_Get_L5_I.sh) => octs_Get_L5_S N X c.1.1 c.1.2.1 c.1.2.2.1 c.1.2.2.2.1 c.1.2.2.2.2.1) N)
noncomputable def octs_Get (N : Nat) (b0 : List (Int)) (little1 : Bool) : Option ((Int) × Int) :=
 bif (decide ((((List.length b0) : Nat) : Int) < (1 : Int))) then
  some (((0 : Int), (1 : Int)))
 else
  bif (@cond Bool @Bool.false @Bool.true (decide ((8 : Int) < (((List.length b0) : Nat) : Int)))) then
   some (((0 : Int), (1 : Int)))
  else
   Option.bind (octs_Get_L5_R N ((b0, (little1, ((0 : Int), ((((List.length b0) : Nat) : Int), ((0 : Int), @Unit.unit))))), @Unit.unit)) fun (v3 : ((Int × Unit) × Unit)) =>
   some ((v3.1.1, (0 : Int)))
theorem octs_Get_S (N : Nat) (b0 : List (Int)) (little1 : Bool) : (runK Go.Proofs.Try.prog (Ev14 N) 400 36 [(.sl (.int .u8)), .bool] [(.int .u64), (.int .i64)] (b0, little1, ())).run = octs_Get N b0 little1 := by kernel_rfl
noncomputable def Ev15 (N : Nat) : (R : Type) → Env R := Env.addFn (Ev14 N) 36 (fun R => fnK [(.sl (.int .u8)), .bool] [(.int .u64), (.int .i64)] (fun c => octs_Get N c.1 c.2.1))
theorem Ev15_ok (N : Nat) (R : Type) : EnvOK Go.Proofs.Try.prog (Ev15 N R) := EnvOK.addFn hmx (Ev14_ok N R) (Ev14_ok N _) (by kernel_rfl) (fun c => octs_Get_S N c.1 c.2.1)
noncomputable def slices_Clone_byte_byte_ne (N : Nat) (s0 : List (Int)) : Option (List (Int)) :=
 bif (@List.isEmpty Int s0) then
  none
 else
  bif (roomB ((List.length ([] : List (Int))) + (List.length s0)) 1) then
   some ((([] : List (Int)) ++ s0))
  else
   none
theorem slices_Clone_byte_byte_ne_S (N : Nat) (s0 : List (Int)) : (runK Go.Proofs.Try.prog (Ev15 N) 400 33 [(.sl (.int .u8))] [(.sl (.int .u8))] (s0, ())).run = slices_Clone_byte_byte_ne N s0 := by kernel_rfl
theorem slices_Clone_byte_byte_n1 (N : Nat) (c : Nat) : (runV Go.Proofs.Try.prog (Ev15 N) 400 33 [.c (.slice none 0 c)] [(.sl (.int .u8))]).run = some [] := by kernel_rfl
theorem slices_Clone_byte_byte_n2 (N : Nat) (A : Addr) (c : Nat) : (runV Go.Proofs.Try.prog (Ev15 N) 400 33 [.c (.slice (some A) 0 c)] [(.sl (.int .u8))]).run = some [] := by kernel_rfl
noncomputable def slices_Clone_byte_byte (N : Nat) (s0 : List (Int)) : Option (List (Int)) := bif s0.isEmpty then some [] else slices_Clone_byte_byte_ne N s0
noncomputable def Ev16 (N : Nat) : (R : Type) → Env R := Env.addFn (Ev15 N) 33 (fun R => fnK [(.sl (.int .u8))] [(.sl (.int .u8))] (fun c => slices_Clone_byte_byte N c.1))
theorem Ev16_ok (N : Nat) (R : Type) : EnvOK Go.Proofs.Try.prog (Ev16 N R) := EnvOK.addNil hmx (Ev15_ok N R) (Ev15_ok N _) (by kernel_rfl) (fun c => slices_Clone_byte_byte_ne_S N c.1) (slices_Clone_byte_byte_n1 N) (slices_Clone_byte_byte_n2 N)
noncomputable def attr_Parse (N : Nat) (b0 : List (Int)) : Option (((Int) × (List (Int))) × (Int) × Int) :=
 bif (decide ((((List.length b0) : Nat) : Int) < (4 : Int))) then
  some ((((0 : Int), ([] : List (Int))), ((0 : Int), (4 : Int))))
 else
  Option.bind (subI b0 (2 : Int) (4 : Int)) fun (v2 : (List Int)) =>
  Option.bind (@octs_Get N v2 @Bool.false) fun (v3 : (Int × Int)) =>
  Option.bind (getI b0 (0 : Int)) fun (v4 : Int) =>
  bif (!(decide (v4 = (0 : Int)))) then
   some ((((0 : Int), ([] : List (Int))), ((0 : Int), (3 : Int))))
  else
   bif (@cond Bool @Bool.false @Bool.true (decide ((Go.IntKind.wrap .i64 v3.1) < (4 : Int)))) then
    some ((((0 : Int), ([] : List (Int))), ((0 : Int), (3 : Int))))
   else
    bif (@cond Bool @Bool.false @Bool.true (decide ((4095 : Int) < (Go.IntKind.wrap .i64 v3.1)))) then
     some ((((0 : Int), ([] : List (Int))), ((0 : Int), (3 : Int))))
    else
     Option.bind (getI b0 (1 : Int)) fun (v5 : Int) =>
     Option.bind (@attr_isKind N v5) fun (v6 : Bool) =>
     bif (!v6) then
      some ((((0 : Int), ([] : List (Int))), ((0 : Int), (9 : Int))))
     else
      bif (decide ((((List.length b0) : Nat) : Int) < (Go.IntKind.wrap .i64 v3.1))) then
       some ((((0 : Int), ([] : List (Int))), ((0 : Int), (4 : Int))))
      else
       Option.bind (getI b0 (1 : Int)) fun (v7 : Int) =>
       Option.bind (subI b0 (4 : Int) (Go.IntKind.wrap .i64 v3.1)) fun (v8 : (List Int)) =>
       Option.bind (@slices_Clone_byte_byte N v8) fun (v9 : (List Int)) =>
       some (((v7, v9), ((Go.IntKind.wrap .i64 v3.1), (0 : Int))))
theorem attr_Parse_S (N : Nat) (b0 : List (Int)) : (runK Go.Proofs.Try.prog (Ev16 N) 400 42 [(.sl (.int .u8))] [(.pair (.int .u8) (.sl (.int .u8))), (.int .i64), (.int .i64)] (b0, ())).run = attr_Parse N b0 := by kernel_rfl
theorem attr_Parse_C (N : Nat) (b0 : List (Int)) (y : ((Int) × (List (Int))) × (Int) × Int) (h : attr_Parse N b0 = some y) : CallsK Go.Proofs.Try.prog 42 (valA [(.sl (.int .u8))] (b0, ())) (tupV (valR [(.pair (.int .u8) (.sl (.int .u8))), (.int .i64), (.int .i64)] y)) := runK_ok hmx (Ev16_ok N _) (okFn_ok (by kernel_rfl)) (by rw [attr_Parse_S]; exact h)
noncomputable def Ev17 (N : Nat) : (R : Type) → Env R := Env.addFn (Ev16 N) 42 (fun R => fnK [(.sl (.int .u8))] [(.pair (.int .u8) (.sl (.int .u8))), (.int .i64), (.int .i64)] (fun c => attr_Parse N c.1))
theorem Ev17_ok (N : Nat) (R : Type) : EnvOK Go.Proofs.Try.prog (Ev17 N R) := EnvOK.addFn hmx (Ev16_ok N R) (Ev16_ok N _) (by kernel_rfl) (fun c => attr_Parse_S N c.1)
noncomputable def Ev18 (N : Nat) : (R : Type) → Env R := Env.addBx (Ev17 N) [(28, 0)]
theorem Ev18_ok (N : Nat) (R : Type) : EnvOK Go.Proofs.Try.prog (Ev18 N R) := EnvOK.addBx (Ev17_ok N R) [(28, 0)]
noncomputable def attr_Same (N : Nat) (a0 : (Int) × (List (Int))) (b1 : (Int) × (List (Int))) : Option (Bool) :=
 Option.bind (@toBy a0.2) fun (v3 : (List UInt8)) =>
 Option.bind (@toBy b1.2) fun (v4 : (List UInt8)) =>
 bif ((@wfB (@Td.pair (@Td.int @Go.IntKind.u8) @Td.str) (a0.1, v3)) && (@wfB (@Td.pair (@Td.int @Go.IntKind.u8) @Td.str) (b1.1, v4))) then
  some ((@Decidable.decide (@Eq (Int × (List UInt8)) (a0.1, v3) (b1.1, v4)) (@decT (@Td.pair (@Td.int @Go.IntKind.u8) @Td.str) (a0.1, v3) (b1.1, v4))))
 else
  none
theorem attr_Same_S (N : Nat) (a0 : (Int) × (List (Int))) (b1 : (Int) × (List (Int))) : (runK Go.Proofs.Try.prog (Ev18 N) 400 28 [(.pair (.int .u8) (.sl (.int .u8))), (.pair (.int .u8) (.sl (.int .u8)))] [.bool] (a0, b1, ())).run = attr_Same N a0 b1 := by kernel_rfl
theorem attr_Same_C (N : Nat) (a0 : (Int) × (List (Int))) (b1 : (Int) × (List (Int))) (y : Bool) (h : attr_Same N a0 b1 = some y) : CallsK Go.Proofs.Try.prog 28 (valA [(.pair (.int .u8) (.sl (.int .u8))), (.pair (.int .u8) (.sl (.int .u8)))] (a0, b1, ())) (tupV (valR [.bool] y)) := runK_ok hmx (Ev18_ok N _) (okFn_ok (by kernel_rfl)) (by rw [attr_Same_S]; exact h)
noncomputable def Ev19 (N : Nat) : (R : Type) → Env R := Env.addFn (Ev18 N) 28 (fun R => fnK [(.pair (.int .u8) (.sl (.int .u8))), (.pair (.int .u8) (.sl (.int .u8)))] [.bool] (fun c => attr_Same N c.1 c.2.1))
theorem Ev19_ok (N : Nat) (R : Type) : EnvOK Go.Proofs.Try.prog (Ev19 N R) := EnvOK.addFn hmx (Ev18_ok N R) (Ev18_ok N _) (by kernel_rfl) (fun c => attr_Same_S N c.1 c.2.1)
noncomputable def ref01_Num_L3_I : LI := ⟨20, 0, [], ⟨[(0, .ty (.sl (.int .u8))), (3, .ty (.int .u64)), (4, .ty (.int .i64))], []⟩, [(.exit 0, ⟨[(3, .ty (.int .u64))], []⟩)]⟩
noncomputable def ref01_Num_L3 (N : Nat) (X : (((List (Int)) × ((Int) × ((Int) × Unit))) × Unit) → Option ((((Int) × Unit) × Unit))) (b0 : List (Int)) (n3 : Int) (i4 : Int) : Option ((((Int) × Unit) × Unit)) :=
 bif (decide (i4 < (((List.length b0) : Nat) : Int))) then
  Option.bind (getI b0 i4) fun (v5 : Int) =>
  (X ((b0, ((Go.IntKind.wrap .u64 ((Go.IntKind.wrap .u64 (n3 * (256 : Int))) + (Go.IntKind.wrap .u64 v5))), ((Go.IntKind.wrap .i64 (i4 + (1 : Int))), @Unit.unit))), @Unit.unit))
 else
  some (((n3, @Unit.unit), @Unit.unit))
noncomputable def ref01_Num_L3_R (N : Nat) (c : (((List (Int)) × ((Int) × ((Int) × Unit))) × Unit)) : Option ((((Int) × Unit) × Unit)) := gl (fun X c => ref01_Num_L3 N X c.1.1 c.1.2.1 c.1.2.2.1) N c
theorem ref01_Num_L3_S (N : Nat) (X : (((List (Int)) × ((Int) × ((Int) × Unit))) × Unit) → Option ((((Int) × Unit) × Unit))) (b0 : List (Int)) (n3 : Int) (i4 : Int) : (roundK Go.Proofs.Try.prog (Ev19 N) 400 [34] ref01_Num_L3_I (loopAt Go.Proofs.Try.prog [34] 3) X ((b0, n3, i4, ()), ())).run = ref01_Num_L3 N X b0 n3 i4 := by kernel_rfl
noncomputable def Ev20 (N : Nat) : (R : Type) → Env R := Env.addLp (Ev19 N) [34] 0 3 (fun R => lpK Go.Proofs.Try.prog ref01_Num_L3_I (fun X c => ref01_Num_L3 N X c.1.1 c.1.2.1 c.1.2.2.1) N)
theorem Ev20_ok (N : Nat) (R : Type) : EnvOK Go.Proofs.Try.prog (Ev20 N R) := EnvOK.addLp (Ev19_ok N R) (by kernel_rfl) (lpK_ok (li := ref01_Num_L3_I) (G := fun X c => ref01_Num_L3 N X c.1.1 c.1.2.1 c.1.2.2.1) hmx (Ev19_ok N _) (by kernel_rfl) loopAt_sub (fun (X : CT ref01_Num_L3_I.sh → Option (OT ref01_Num_L3_I.outs)) (c : CT ref01_Num_L3_I.sh) => ref01_Num_L3_S N X c.1.1 c.1.2.1 c.1.2.2.1) N)
noncomputable def ref01_Num (N : Nat) (b0 : List (Int)) : Option (Int) :=
 Option.bind (ref01_Num_L3_R N ((b0, ((0 : Int), ((0 : Int), @Unit.unit))), @Unit.unit)) fun (v2 : ((Int × Unit) × Unit)) =>
 some (v2.1.1)
theorem ref01_Num_S (N : Nat) (b0 : List (Int)) : (runK Go.Proofs.Try.prog (Ev20 N) 400 34 [(.sl (.int .u8))] [(.int .u64)] (b0, ())).run = ref01_Num N b0 := by kernel_rfl
noncomputable def Ev21 (N : Nat) : (R : Type) → Env R := Env.addFn (Ev20 N) 34 (fun R => fnK [(.sl (.int .u8))] [(.int .u64)] (fun c => ref01_Num N c.1))
theorem Ev21_ok (N : Nat) (R : Type) : EnvOK Go.Proofs.Try.prog (Ev21 N R) := EnvOK.addFn hmx (Ev20_ok N R) (Ev20_ok N _) (by kernel_rfl) (fun c => ref01_Num_S N c.1)
noncomputable def ref17_kind (N : Nat) (id0 : Int) : Option (Bool) :=
 bif (decide ((1 : Int) ≤ id0)) then
  some ((@cond Bool @Bool.true (decide (id0 ≤ (4 : Int))) @Bool.false))
 else
  some (@Bool.false)
theorem ref17_kind_S (N : Nat) (id0 : Int) : (runK Go.Proofs.Try.prog (Ev21 N) 400 41 [(.int .u8)] [.bool] (id0, ())).run = ref17_kind N id0 := by kernel_rfl
noncomputable def Ev22 (N : Nat) : (R : Type) → Env R := Env.addFn (Ev21 N) 41 (fun R => fnK [(.int .u8)] [.bool] (fun c => ref17_kind N c.1))
theorem Ev22_ok (N : Nat) (R : Type) : EnvOK Go.Proofs.Try.prog (Ev22 N R) := EnvOK.addFn hmx (Ev21_ok N R) (Ev21_ok N _) (by kernel_rfl) (fun c => ref17_kind_S N c.1)
noncomputable def ref17_Parse (N : Nat) (b0 : List (Int)) : Option (((Int) × (List (Int))) × (Int) × Int) :=
 bif (decide ((((List.length b0) : Nat) : Int) < (4 : Int))) then
  some ((((0 : Int), ([] : List (Int))), ((0 : Int), (4 : Int))))
 else
  Option.bind (subI b0 (2 : Int) (4 : Int)) fun (v2 : (List Int)) =>
  Option.bind (@ref01_Num N v2) fun (v3 : Int) =>
  Option.bind (getI b0 (0 : Int)) fun (v4 : Int) =>
  bif (!(decide (v4 = (0 : Int)))) then
   some ((((0 : Int), ([] : List (Int))), ((0 : Int), (3 : Int))))
  else
   bif (@cond Bool @Bool.false @Bool.true (decide ((Go.IntKind.wrap .i64 v3) < (4 : Int)))) then
    some ((((0 : Int), ([] : List (Int))), ((0 : Int), (3 : Int))))
   else
    bif (@cond Bool @Bool.false @Bool.true (decide ((4095 : Int) < (Go.IntKind.wrap .i64 v3)))) then
     some ((((0 : Int), ([] : List (Int))), ((0 : Int), (3 : Int))))
    else
     Option.bind (getI b0 (1 : Int)) fun (v5 : Int) =>
     Option.bind (@ref17_kind N v5) fun (v6 : Bool) =>
     bif (!v6) then
      some ((((0 : Int), ([] : List (Int))), ((0 : Int), (9 : Int))))
     else
      bif (decide ((((List.length b0) : Nat) : Int) < (Go.IntKind.wrap .i64 v3))) then
       some ((((0 : Int), ([] : List (Int))), ((0 : Int), (4 : Int))))
      else
       Option.bind (getI b0 (1 : Int)) fun (v7 : Int) =>
       Option.bind (subI b0 (4 : Int) (Go.IntKind.wrap .i64 v3)) fun (v8 : (List Int)) =>
       some (((v7, v8), ((Go.IntKind.wrap .i64 v3), (0 : Int))))
theorem ref17_Parse_S (N : Nat) (b0 : List (Int)) : (runK Go.Proofs.Try.prog (Ev22 N) 400 35 [(.sl (.int .u8))] [(.pair (.int .u8) (.sl (.int .u8))), (.int .i64), (.int .i64)] (b0, ())).run = ref17_Parse N b0 := by kernel_rfl
theorem ref17_Parse_C (N : Nat) (b0 : List (Int)) (y : ((Int) × (List (Int))) × (Int) × Int) (h : ref17_Parse N b0 = some y) : CallsK Go.Proofs.Try.prog 35 (valA [(.sl (.int .u8))] (b0, ())) (tupV (valR [(.pair (.int .u8) (.sl (.int .u8))), (.int .i64), (.int .i64)] y)) := runK_ok hmx (Ev22_ok N _) (okFn_ok (by kernel_rfl)) (by rw [ref17_Parse_S]; exact h)
noncomputable def Ev23 (N : Nat) : (R : Type) → Env R := Env.addFn (Ev22 N) 35 (fun R => fnK [(.sl (.int .u8))] [(.pair (.int .u8) (.sl (.int .u8))), (.int .i64), (.int .i64)] (fun c => ref17_Parse N c.1))
theorem Ev23_ok (N : Nat) (R : Type) : EnvOK Go.Proofs.Try.prog (Ev23 N R) := EnvOK.addFn hmx (Ev22_ok N R) (Ev22_ok N _) (by kernel_rfl) (fun c => ref17_Parse_S N c.1)
noncomputable def Ev24 (N : Nat) : (R : Type) → Env R := Env.addInl (Ev23 N) [32]
theorem Ev24_ok (N : Nat) (R : Type) : EnvOK Go.Proofs.Try.prog (Ev24 N R) := EnvOK.addInl (Ev23_ok N R) (by kernel_rfl)
noncomputable def Ev25 (N : Nat) : (R : Type) → Env R := Env.addBx (Ev24 N) [(30, 0)]
theorem Ev25_ok (N : Nat) (R : Type) : EnvOK Go.Proofs.Try.prog (Ev25 N R) := EnvOK.addBx (Ev24_ok N R) [(30, 0)]
noncomputable def packet_body_9_octs_Join_L3_I : LI := ⟨33, 0, [], ⟨[(0, .ty (.sl (.sl (.int .u8)))), (3, .ty (.int .i64)), (9, .ty (.sl (.sl (.int .u8)))), (10, .ty (.int .i64)), (11, .ty (.int .i64))], []⟩, [(.exit 0, ⟨[(0, .ty (.sl (.sl (.int .u8)))), (3, .ty (.int .i64))], []⟩)]⟩
noncomputable def packet_body_9_octs_Join_L3 (N : Nat) (X : (((List (List (Int))) × ((Int) × ((List (List (Int))) × ((Int) × ((Int) × Unit))))) × Unit) → Option ((((List (List (Int))) × ((Int) × Unit)) × Unit))) (parts0 : List (List (Int))) (size3 : Int) (x9 : List (List (Int))) (x10 : Int) (x11 : Int) : Option ((((List (List (Int))) × ((Int) × Unit)) × Unit)) :=
 bif (decide (x11 < x10)) then
  Option.bind (getI x9 x11) fun (v7 : (List Int)) =>
  (X ((parts0, ((Go.IntKind.wrap .i64 (size3 + (((List.length v7) : Nat) : Int))), (x9, (x10, ((Go.IntKind.wrap .i64 (x11 + (1 : Int))), @Unit.unit))))), @Unit.unit))
 else
  some (((parts0, (size3, @Unit.unit)), @Unit.unit))
noncomputable def packet_body_9_octs_Join_L3_R (N : Nat) (c : (((List (List (Int))) × ((Int) × ((List (List (Int))) × ((Int) × ((Int) × Unit))))) × Unit)) : Option ((((List (List (Int))) × ((Int) × Unit)) × Unit)) := gl (fun X c => packet_body_9_octs_Join_L3 N X c.1.1 c.1.2.1 c.1.2.2.1 c.1.2.2.2.1 c.1.2.2.2.2.1) N c
theorem packet_body_9_octs_Join_L3_S (N : Nat) (X : (((List (List (Int))) × ((Int) × ((List (List (Int))) × ((Int) × ((Int) × Unit))))) × Unit) → Option ((((List (List (Int))) × ((Int) × Unit)) × Unit))) (parts0 : List (List (Int))) (size3 : Int) (x9 : List (List (Int))) (x10 : Int) (x11 : Int) : (roundK Go.Proofs.Try.prog (Ev25 N) 400 [32, 9, 30] packet_body_9_octs_Join_L3_I (loopAt Go.Proofs.Try.prog [32, 9, 30] 3) X ((parts0, size3, x9, x10, x11, ()), ())).run = packet_body_9_octs_Join_L3 N X parts0 size3 x9 x10 x11 := by kernel_rfl
noncomputable def Ev26 (N : Nat) : (R : Type) → Env R := Env.addLp (Ev25 N) [32, 9, 30] 0 3 (fun R => lpK Go.Proofs.Try.prog packet_body_9_octs_Join_L3_I (fun X c => packet_body_9_octs_Join_L3 N X c.1.1 c.1.2.1 c.1.2.2.1 c.1.2.2.2.1 c.1.2.2.2.2.1) N)
theorem Ev26_ok (N : Nat) (R : Type) : EnvOK Go.Proofs.Try.prog (Ev26 N R) := EnvOK.addLp (Ev25_ok N R) (by kernel_rfl) (lpK_ok (li := packet_body_9_octs_Join_L3_I) (G := fun X c => packet_body_9_octs_Join_L3 N X c.1.1 c.1.2.1 c.1.2.2.1 c.1.2.2.2.1 c.1.2.2.2.2.1) hmx (Ev25_ok N _) (by kernel_rfl) loopAt_sub (fun (X : CT packet_body_9_octs_Join_L3_I.sh → Option (OT packet_body_9_octs_Join_L3_I.outs)) (c : CT packet_body_9_octs_Join_L3_I.sh) => packet_body_9_octs_Join_L3_S N X c.1.1 c.1.2.1 c.1.2.2.1 c.1.2.2.2.1 c.1.2.2.2.2.1) N)
noncomputable def packet_body_9_octs_Join_L9_I : LI := ⟨33, 0, [], ⟨[(6, .lit (.own 0)), (22, .ty (.sl (.sl (.int .u8)))), (23, .ty (.int .i64)), (24, .ty (.int .i64))], [.own (.int .u8) 5]⟩, [(.exit 2, ⟨[(6, .lit (.own 0))], [.own (.int .u8) 5]⟩)]⟩
noncomputable def packet_body_9_octs_Join_L9 (N : Nat) (X : (((List (List (Int))) × ((Int) × ((Int) × Unit))) × ((List (Int)) × Unit)) → Option ((Unit × ((List (Int)) × Unit)))) (x22 : List (List (Int))) (x23 : Int) (x24 : Int) (h0 : List (Int)) : Option ((Unit × ((List (Int)) × Unit))) :=
 bif (decide (x24 < x23)) then
  Option.bind (getI x22 x24) fun (v6 : (List Int)) =>
  bif (roomB ((List.length h0) + (List.length v6)) 1) then
   (X ((x22, (x23, ((Go.IntKind.wrap .i64 (x24 + (1 : Int))), @Unit.unit))), ((h0 ++ v6), @Unit.unit)))
  else
   none
 else
  some ((@Unit.unit, (h0, @Unit.unit)))
noncomputable def packet_body_9_octs_Join_L9_R (N : Nat) (c : (((List (List (Int))) × ((Int) × ((Int) × Unit))) × ((List (Int)) × Unit))) : Option ((Unit × ((List (Int)) × Unit))) := gl (fun X c => packet_body_9_octs_Join_L9 N X c.1.1 c.1.2.1 c.1.2.2.1 c.2.1) N c
theorem packet_body_9_octs_Join_L9_S (N : Nat) (X : (((List (List (Int))) × ((Int) × ((Int) × Unit))) × ((List (Int)) × Unit)) → Option ((Unit × ((List (Int)) × Unit)))) (x22 : List (List (Int))) (x23 : Int) (x24 : Int) (h0 : List (Int)) : (roundK Go.Proofs.Try.prog (Ev26 N) 400 [32, 9, 30] packet_body_9_octs_Join_L9_I (loopAt Go.Proofs.Try.prog [32, 9, 30] 9) X ((x22, x23, x24, ()), (h0, ()))).run = packet_body_9_octs_Join_L9 N X x22 x23 x24 h0 := by kernel_rfl
noncomputable def Ev27 (N : Nat) : (R : Type) → Env R := Env.addLp (Ev26 N) [32, 9, 30] 0 9 (fun R => lpK Go.Proofs.Try.prog packet_body_9_octs_Join_L9_I (fun X c => packet_body_9_octs_Join_L9 N X c.1.1 c.1.2.1 c.1.2.2.1 c.2.1) N)
theorem Ev27_ok (N : Nat) (R : Type) : EnvOK Go.Proofs.Try.prog (Ev27 N R) := EnvOK.addLp (Ev26_ok N R) (by kernel_rfl) (lpK_ok (li := packet_body_9_octs_Join_L9_I) (G := fun X c => packet_body_9_octs_Join_L9 N X c.1.1 c.1.2.1 c.1.2.2.1 c.2.1) hmx (Ev26_ok N _) (by kernel_rfl) loopAt_sub (fun (X : CT packet_body_9_octs_Join_L9_I.sh → Option (OT packet_body_9_octs_Join_L9_I.outs)) (c : CT packet_body_9_octs_Join_L9_I.sh) => packet_body_9_octs_Join_L9_S N X c.1.1 c.1.2.1 c.1.2.2.1 c.2.1) N)
noncomputable def packet_body_L11_I : LI := ⟨65, 0, [], ⟨[(8, .lit (.own 0)), (46, .ty (.sl (.pair (.int .u8) (.sl (.int .u8))))), (47, .ty (.int .i64)), (48, .ty (.int .i64))], [.own (.int .u8) 5]⟩, [(.ret, ⟨[(2, .ty (.sl (.int .u8))), (3, .ty (.int .i64))], []⟩), (.exit 0, ⟨[(8, .lit (.own 0))], [.own (.int .u8) 5]⟩)]⟩
noncomputable def packet_body_L11 (N : Nat) (X : (((List ((Int) × (List (Int)))) × ((Int) × ((Int) × Unit))) × ((List (Int)) × Unit)) → Option (((((List (Int)) × ((Int) × Unit)) × Unit) ⊕ (Unit × ((List (Int)) × Unit))))) (x46 : List ((Int) × (List (Int)))) (x47 : Int) (x48 : Int) (h0 : List (Int)) : Option (((((List (Int)) × ((Int) × Unit)) × Unit) ⊕ (Unit × ((List (Int)) × Unit)))) :=
 bif (decide (x48 < x47)) then
  Option.bind (getI x46 x48) fun (v6 : (Int × (List Int))) =>
  Option.bind (@attr_Lay N (v6.1, v6.2)) fun (v7 : ((List Int) × Int)) =>
  bif (!(decide (v7.2 = (0 : Int)))) then
   some ((.inl ((([] : List (Int)), (v7.2, @Unit.unit)), @Unit.unit)))
  else
   bif (roomB ((List.length h0) + (List.length v7.1)) 1) then
    (X ((x46, (x47, ((Go.IntKind.wrap .i64 (x48 + (1 : Int))), @Unit.unit))), ((h0 ++ v7.1), @Unit.unit)))
   else
    none
 else
  some ((.inr (@Unit.unit, (h0, @Unit.unit))))
noncomputable def packet_body_L11_R (N : Nat) (c : (((List ((Int) × (List (Int)))) × ((Int) × ((Int) × Unit))) × ((List (Int)) × Unit))) : Option (((((List (Int)) × ((Int) × Unit)) × Unit) ⊕ (Unit × ((List (Int)) × Unit)))) := gl (fun X c => packet_body_L11 N X c.1.1 c.1.2.1 c.1.2.2.1 c.2.1) N c
theorem packet_body_L11_S (N : Nat) (X : (((List ((Int) × (List (Int)))) × ((Int) × ((Int) × Unit))) × ((List (Int)) × Unit)) → Option (((((List (Int)) × ((Int) × Unit)) × Unit) ⊕ (Unit × ((List (Int)) × Unit))))) (x46 : List ((Int) × (List (Int)))) (x47 : Int) (x48 : Int) (h0 : List (Int)) : (roundK Go.Proofs.Try.prog (Ev27 N) 400 [30] packet_body_L11_I (loopAt Go.Proofs.Try.prog [30] 11) X ((x46, x47, x48, ()), (h0, ()))).run = packet_body_L11 N X x46 x47 x48 h0 := by kernel_rfl
noncomputable def Ev28 (N : Nat) : (R : Type) → Env R := Env.addLp (Ev27 N) [30] 0 11 (fun R => lpK Go.Proofs.Try.prog packet_body_L11_I (fun X c => packet_body_L11 N X c.1.1 c.1.2.1 c.1.2.2.1 c.2.1) N)
theorem Ev28_ok (N : Nat) (R : Type) : EnvOK Go.Proofs.Try.prog (Ev28 N R) := EnvOK.addLp (Ev27_ok N R) (by kernel_rfl) (lpK_ok (li := packet_body_L11_I) (G := fun X c => packet_body_L11 N X c.1.1 c.1.2.1 c.1.2.2.1 c.2.1) hmx (Ev27_ok N _) (by kernel_rfl) loopAt_sub (fun (X : CT packet_body_L11_I.sh → Option (OT packet_body_L11_I.outs)) (c : CT packet_body_L11_I.sh) => packet_body_L11_S N X c.1.1 c.1.2.1 c.1.2.2.1 c.2.1) N)
noncomputable def packet_body (N : Nat) (p0 : (Bool) × ((Int) × ((List ((Int) × (List (Int)))) × (List (Int))))) : Option ((List (Int)) × Int) :=
 bif (!p0.1) then
  bif (decide ((((List.length p0.2.2.2) : Nat) : Int) = (0 : Int))) then
   some ((([] : List (Int)), (4 : Int)))
  else
   some ((p0.2.2.2, (0 : Int)))
 else
  bif (decide ((8 : Int) < (((List.length p0.2.2.1) : Nat) : Int))) then
   some ((([] : List (Int)), (5 : Int)))
  else
   Option.bind (@octs_Put N (Go.IntKind.wrap .u64 p0.2.1) (2 : Int) @Bool.false) fun (v2 : ((List Int) × Int)) =>
   Option.bind (@octs_Put N (Go.IntKind.wrap .u64 (((List.length p0.2.2.1) : Nat) : Int)) (2 : Int) @Bool.false) fun (v3 : ((List Int) × Int)) =>
   Option.bind (packet_body_9_octs_Join_L3_R N ((([v2.1, v3.1] : List ((List Int))), ((0 : Int), (([v2.1, v3.1] : List ((List Int))), ((((List.length ([v2.1, v3.1] : List ((List Int)))) : Nat) : Int), ((0 : Int), @Unit.unit))))), @Unit.unit)) fun (v4 : (((List (List Int)) × (Int × Unit)) × Unit)) =>
   bif ((decide ((0 : Int) ≤ (0 : Int) ∧ (0 : Int) ≤ v4.1.2.1)) && (roomB (Int.toNat v4.1.2.1) 1)) then
    Option.bind (packet_body_9_octs_Join_L9_R N ((v4.1.1, ((((List.length v4.1.1) : Nat) : Int), ((0 : Int), @Unit.unit))), ((@List.replicate Int (Int.toNat (0 : Int)) (0 : Int)), @Unit.unit))) fun (v5 : (Unit × ((List Int) × Unit))) =>
    Option.bind (packet_body_L11_R N ((p0.2.2.1, ((((List.length p0.2.2.1) : Nat) : Int), ((0 : Int), @Unit.unit))), (v5.2.1, @Unit.unit))) fun (v6 : ((((List Int) × (Int × Unit)) × Unit) ⊕ (Unit × ((List Int) × Unit)))) =>
    Sum.elim
     (fun (v7 : (((List Int) × (Int × Unit)) × Unit)) =>
     some ((v7.1.1, v7.1.2.1)))
     (fun (v7 : (Unit × ((List Int) × Unit))) =>
     some ((v7.2.1, (0 : Int)))) v6
   else
    none
theorem packet_body_S (N : Nat) (p0 : (Bool) × ((Int) × ((List ((Int) × (List (Int)))) × (List (Int))))) : (runK Go.Proofs.Try.prog (Ev28 N) 400 30 [(.pair .bool (.pair (.int .u16) (.pair (.sl (.pair (.int .u8) (.sl (.int .u8)))) (.sl (.int .u8)))))] [(.sl (.int .u8)), (.int .i64)] (p0, ())).run = packet_body N p0 := by kernel_rfl
theorem packet_body_C (N : Nat) (p0 : (Bool) × ((Int) × ((List ((Int) × (List (Int)))) × (List (Int))))) (y : (List (Int)) × Int) (h : packet_body N p0 = some y) : CallsK Go.Proofs.Try.prog 30 (valA [(.pair .bool (.pair (.int .u16) (.pair (.sl (.pair (.int .u8) (.sl (.int .u8)))) (.sl (.int .u8)))))] (p0, ())) (tupV (valR [(.sl (.int .u8)), (.int .i64)] y)) := runK_ok hmx (Ev28_ok N _) (okFn_ok (by kernel_rfl)) (by rw [packet_body_S]; exact h)
noncomputable def Ev29 (N : Nat) : (R : Type) → Env R := Env.addFn (Ev28 N) 30 (fun R => fnK [(.pair .bool (.pair (.int .u16) (.pair (.sl (.pair (.int .u8) (.sl (.int .u8)))) (.sl (.int .u8)))))] [(.sl (.int .u8)), (.int .i64)] (fun c => packet_body N c.1))
theorem Ev29_ok (N : Nat) (R : Type) : EnvOK Go.Proofs.Try.prog (Ev29 N R) := EnvOK.addFn hmx (Ev28_ok N R) (Ev28_ok N _) (by kernel_rfl) (fun c => packet_body_S N c.1)
noncomputable def Ev30 (N : Nat) : (R : Type) → Env R := Env.addInl (Ev29 N) [27]
theorem Ev30_ok (N : Nat) (R : Type) : EnvOK Go.Proofs.Try.prog (Ev30 N R) := EnvOK.addInl (Ev29_ok N R) (by kernel_rfl)
noncomputable def Ev31 (N : Nat) : (R : Type) → Env R := Env.addMv (Ev30 N) [(19, 7)]
theorem Ev31_ok (N : Nat) (R : Type) : EnvOK Go.Proofs.Try.prog (Ev31 N R) := EnvOK.addMv (Ev30_ok N R) [(19, 7)]
noncomputable def Ev32 (N : Nat) : (R : Type) → Env R := Env.addBx (Ev31 N) [(19, 0)]
theorem Ev32_ok (N : Nat) (R : Type) : EnvOK Go.Proofs.Try.prog (Ev32 N R) := EnvOK.addBx (Ev31_ok N R) [(19, 0)]
noncomputable def packet_Lay (N : Nat) (p0 : (Bool) × ((Int) × ((List ((Int) × (List (Int)))) × (List (Int))))) : Option ((List (Int)) × Int) :=
 Option.bind (@packet_body N (p0.1, (p0.2.1, (p0.2.2.1, p0.2.2.2)))) fun (v2 : ((List Int) × Int)) =>
 bif (!(decide (v2.2 = (0 : Int)))) then
  some ((([] : List (Int)), v2.2))
 else
  bif (decide ((4095 : Int) < (Go.IntKind.wrap .i64 ((4 : Int) + (((List.length v2.1) : Nat) : Int))))) then
   some ((([] : List (Int)), (8 : Int)))
  else
   bif p0.1 then
    Option.bind (@octs_Put N (Go.IntKind.wrap .u64 (Go.IntKind.wrap .i64 ((4 : Int) + (((List.length v2.1) : Nat) : Int)))) (2 : Int) @Bool.false) fun (v3 : ((List Int) × Int)) =>
    Option.bind (@octs_Join N ([(@List.set Int ([(16 : Int), (0 : Int)] : List (Int)) (Int.toNat (1 : Int)) (1 : Int)), v3.1, v2.1] : List ((List Int)))) fun (v4 : (List Int)) =>
    some ((v4, (0 : Int)))
   else
    Option.bind (@octs_Put N (Go.IntKind.wrap .u64 (Go.IntKind.wrap .i64 ((4 : Int) + (((List.length v2.1) : Nat) : Int)))) (2 : Int) @Bool.false) fun (v3 : ((List Int) × Int)) =>
    Option.bind (@octs_Join N ([([(16 : Int), (0 : Int)] : List (Int)), v3.1, v2.1] : List ((List Int)))) fun (v4 : (List Int)) =>
    some ((v4, (0 : Int)))
theorem packet_Lay_S (N : Nat) (p0 : (Bool) × ((Int) × ((List ((Int) × (List (Int)))) × (List (Int))))) : (runK Go.Proofs.Try.prog (Ev32 N) 400 19 [(.pair .bool (.pair (.int .u16) (.pair (.sl (.pair (.int .u8) (.sl (.int .u8)))) (.sl (.int .u8)))))] [(.sl (.int .u8)), (.int .i64)] (p0, ())).run = packet_Lay N p0 := by kernel_rfl
theorem packet_Lay_C (N : Nat) (p0 : (Bool) × ((Int) × ((List ((Int) × (List (Int)))) × (List (Int))))) (y : (List (Int)) × Int) (h : packet_Lay N p0 = some y) : CallsK Go.Proofs.Try.prog 19 (valA [(.pair .bool (.pair (.int .u16) (.pair (.sl (.pair (.int .u8) (.sl (.int .u8)))) (.sl (.int .u8)))))] (p0, ())) (tupV (valR [(.sl (.int .u8)), (.int .i64)] y)) := runK_ok hmx (Ev32_ok N _) (okFn_ok (by kernel_rfl)) (by rw [packet_Lay_S]; exact h)
noncomputable def Ev33 (N : Nat) : (R : Type) → Env R := Env.addFn (Ev32 N) 19 (fun R => fnK [(.pair .bool (.pair (.int .u16) (.pair (.sl (.pair (.int .u8) (.sl (.int .u8)))) (.sl (.int .u8)))))] [(.sl (.int .u8)), (.int .i64)] (fun c => packet_Lay N c.1))
theorem Ev33_ok (N : Nat) (R : Type) : EnvOK Go.Proofs.Try.prog (Ev33 N R) := EnvOK.addFn hmx (Ev32_ok N R) (Ev32_ok N _) (by kernel_rfl) (fun c => packet_Lay_S N c.1)
noncomputable def Ev34 (N : Nat) : (R : Type) → Env R := Env.addMv (Ev33 N) [(25, 1)]
theorem Ev34_ok (N : Nat) (R : Type) : EnvOK Go.Proofs.Try.prog (Ev34 N R) := EnvOK.addMv (Ev33_ok N R) [(25, 1)]
noncomputable def packet_Length (N : Nat) (b0 : List (Int)) : Option ((Int) × Int) :=
 bif (decide ((((List.length b0) : Nat) : Int) < (4 : Int))) then
  some (((0 : Int), (4 : Int)))
 else
  Option.bind (getI b0 (0 : Int)) fun (v2 : Int) =>
  bif (!(decide (v2 = (16 : Int)))) then
   some (((0 : Int), (15 : Int)))
  else
   Option.bind (subI b0 (2 : Int) (4 : Int)) fun (v3 : (List Int)) =>
   Option.bind (@octs_Get N v3 @Bool.false) fun (v4 : (Int × Int)) =>
   Option.bind (getI b0 (1 : Int)) fun (v5 : Int) =>
   bif (decide (v5 = (1 : Int))) then
    Option.bind (getI b0 (1 : Int)) fun (v6 : Int) =>
    bif (decide ((1 : Int) < v6)) then
     some (((0 : Int), (3 : Int)))
    else
     bif (@cond Bool @Bool.false @Bool.true (decide ((Go.IntKind.wrap .i64 v4.1) < (8 : Int)))) then
      some (((0 : Int), (3 : Int)))
     else
      bif (@cond Bool @Bool.false @Bool.true (decide ((4095 : Int) < (Go.IntKind.wrap .i64 v4.1)))) then
       some (((0 : Int), (3 : Int)))
      else
       some (((Go.IntKind.wrap .i64 v4.1), (0 : Int)))
   else
    Option.bind (getI b0 (1 : Int)) fun (v6 : Int) =>
    bif (decide ((1 : Int) < v6)) then
     some (((0 : Int), (3 : Int)))
    else
     bif (@cond Bool @Bool.false @Bool.true (decide ((Go.IntKind.wrap .i64 v4.1) < (5 : Int)))) then
      some (((0 : Int), (3 : Int)))
     else
      bif (@cond Bool @Bool.false @Bool.true (decide ((4095 : Int) < (Go.IntKind.wrap .i64 v4.1)))) then
       some (((0 : Int), (3 : Int)))
      else
       some (((Go.IntKind.wrap .i64 v4.1), (0 : Int)))
theorem packet_Length_S (N : Nat) (b0 : List (Int)) : (runK Go.Proofs.Try.prog (Ev34 N) 400 23 [(.sl (.int .u8))] [(.int .i64), (.int .i64)] (b0, ())).run = packet_Length N b0 := by kernel_rfl
theorem packet_Length_C (N : Nat) (b0 : List (Int)) (y : (Int) × Int) (h : packet_Length N b0 = some y) : CallsK Go.Proofs.Try.prog 23 (valA [(.sl (.int .u8))] (b0, ())) (tupV (valR [(.int .i64), (.int .i64)] y)) := runK_ok hmx (Ev34_ok N _) (okFn_ok (by kernel_rfl)) (by rw [packet_Length_S]; exact h)
noncomputable def Ev35 (N : Nat) : (R : Type) → Env R := Env.addFn (Ev34 N) 23 (fun R => fnK [(.sl (.int .u8))] [(.int .i64), (.int .i64)] (fun c => packet_Length N c.1))
theorem Ev35_ok (N : Nat) (R : Type) : EnvOK Go.Proofs.Try.prog (Ev35 N R) := EnvOK.addFn hmx (Ev34_ok N R) (Ev34_ok N _) (by kernel_rfl) (fun c => packet_Length_S N c.1)
noncomputable def packet_OfData (N : Nat) (b0 : List (Int)) : Option ((Bool) × ((Int) × ((List ((Int) × (List (Int)))) × (List (Int))))) :=
 Option.bind (@slices_Clone_byte_byte N b0) fun (v2 : (List Int)) =>
 some ((@Bool.false, ((0 : Int), (([] : List ((Int × (List Int)))), v2))))
theorem packet_OfData_S (N : Nat) (b0 : List (Int)) : (runK Go.Proofs.Try.prog (Ev35 N) 400 37 [(.sl (.int .u8))] [(.pair .bool (.pair (.int .u16) (.pair (.sl (.pair (.int .u8) (.sl (.int .u8)))) (.sl (.int .u8)))))] (b0, ())).run = packet_OfData N b0 := by kernel_rfl
noncomputable def Ev36 (N : Nat) : (R : Type) → Env R := Env.addFn (Ev35 N) 37 (fun R => fnK [(.sl (.int .u8))] [(.pair .bool (.pair (.int .u16) (.pair (.sl (.pair (.int .u8) (.sl (.int .u8)))) (.sl (.int .u8)))))] (fun c => packet_OfData N c.1))
theorem Ev36_ok (N : Nat) (R : Type) : EnvOK Go.Proofs.Try.prog (Ev36 N R) := EnvOK.addFn hmx (Ev35_ok N R) (Ev35_ok N _) (by kernel_rfl) (fun c => packet_OfData_S N c.1)
noncomputable def Ev37 (N : Nat) : (R : Type) → Env R := Env.addMv (Ev36 N) [(38, 9)]
theorem Ev37_ok (N : Nat) (R : Type) : EnvOK Go.Proofs.Try.prog (Ev37 N R) := EnvOK.addMv (Ev36_ok N R) [(38, 9)]
noncomputable def packet_attrs_L5_I : LI := ⟨36, 0, [(6, 67)], ⟨[(0, .ty (.sl (.int .u8))), (6, .lit (.own 0)), (12, .ty (.int .i64)), (13, .ty (.int .i64))], [.own (.pair (.int .u8) (.sl (.int .u8))) 67]⟩, [(.ret, ⟨[(4, .ty (.sl (.pair (.int .u8) (.sl (.int .u8))))), (5, .ty (.int .i64))], []⟩), (.exit 0, ⟨[(0, .ty (.sl (.int .u8))), (6, .lit (.own 0))], [.own (.pair (.int .u8) (.sl (.int .u8))) 67]⟩)]⟩
noncomputable def packet_attrs_L5 (N : Nat) (X : (((List (Int)) × ((Int) × ((Int) × Unit))) × ((List ((Int) × (List (Int)))) × Unit)) → Option (((((List ((Int) × (List (Int)))) × ((Int) × Unit)) × Unit) ⊕ (((List (Int)) × Unit) × ((List ((Int) × (List (Int)))) × Unit))))) (b0 : List (Int)) (x12 : Int) (x13 : Int) (h0 : List ((Int) × (List (Int)))) : Option (((((List ((Int) × (List (Int)))) × ((Int) × Unit)) × Unit) ⊕ (((List (Int)) × Unit) × ((List ((Int) × (List (Int)))) × Unit)))) :=
 bif (decide (x13 < x12)) then
  Option.bind (@attr_Parse N b0) fun (v6 : ((Int × (List Int)) × (Int × Int))) =>
  bif (!(decide (v6.2.2 = (0 : Int)))) then
   some ((.inl ((([] : List ((Int × (List Int)))), (v6.2.2, @Unit.unit)), @Unit.unit)))
  else
   bif (roomB ((List.length h0) + (List.length ([(v6.1.1, v6.1.2)] : List ((Int × (List Int)))))) 32) then
    Option.bind (dropI b0 v6.2.1) fun (v7 : (List Int)) =>
    (X ((v7, (x12, ((Go.IntKind.wrap .i64 (x13 + (1 : Int))), @Unit.unit))), ((h0 ++ ([(v6.1.1, v6.1.2)] : List ((Int × (List Int))))), @Unit.unit)))
   else
    none
 else
  some ((.inr ((b0, @Unit.unit), (h0, @Unit.unit))))
noncomputable def packet_attrs_L5_R (N : Nat) (c : (((List (Int)) × ((Int) × ((Int) × Unit))) × ((List ((Int) × (List (Int)))) × Unit))) : Option (((((List ((Int) × (List (Int)))) × ((Int) × Unit)) × Unit) ⊕ (((List (Int)) × Unit) × ((List ((Int) × (List (Int)))) × Unit)))) := gl (fun X c => packet_attrs_L5 N X c.1.1 c.1.2.1 c.1.2.2.1 c.2.1) N c
theorem packet_attrs_L5_S (N : Nat) (X : (((List (Int)) × ((Int) × ((Int) × Unit))) × ((List ((Int) × (List (Int)))) × Unit)) → Option (((((List ((Int) × (List (Int)))) × ((Int) × Unit)) × Unit) ⊕ (((List (Int)) × Unit) × ((List ((Int) × (List (Int)))) × Unit))))) (b0 : List (Int)) (x12 : Int) (x13 : Int) (h0 : List ((Int) × (List (Int)))) : (roundK Go.Proofs.Try.prog (Ev37 N) 400 [38] packet_attrs_L5_I (loopAt Go.Proofs.Try.prog [38] 5) X ((b0, x12, x13, ()), (h0, ()))).run = packet_attrs_L5 N X b0 x12 x13 h0 := by kernel_rfl
noncomputable def Ev38 (N : Nat) : (R : Type) → Env R := Env.addLp (Ev37 N) [38] 0 5 (fun R => lpK Go.Proofs.Try.prog packet_attrs_L5_I (fun X c => packet_attrs_L5 N X c.1.1 c.1.2.1 c.1.2.2.1 c.2.1) N)
theorem Ev38_ok (N : Nat) (R : Type) : EnvOK Go.Proofs.Try.prog (Ev38 N R) := EnvOK.addLp (Ev37_ok N R) (by kernel_rfl) (lpK_ok (li := packet_attrs_L5_I) (G := fun X c => packet_attrs_L5 N X c.1.1 c.1.2.1 c.1.2.2.1 c.2.1) hmx (Ev37_ok N _) (by kernel_rfl) loopAt_sub (fun (X : CT packet_attrs_L5_I.sh → Option (OT packet_attrs_L5_I.outs)) (c : CT packet_attrs_L5_I.sh) => packet_attrs_L5_S N X c.1.1 c.1.2.1 c.1.2.2.1 c.2.1) N)
noncomputable def packet_attrs (N : Nat) (b0 : List (Int)) (many1 : Int) : Option ((List ((Int) × (List (Int)))) × Int) :=
 bif (decide ((8 : Int) < many1)) then
  some ((([] : List ((Int × (List Int)))), (5 : Int)))
 else
  Option.bind (packet_attrs_L5_R N ((b0, (many1, ((0 : Int), @Unit.unit))), (([] : List ((Int × (List Int)))), @Unit.unit))) fun (v3 : ((((List (Int × (List Int))) × (Int × Unit)) × Unit) ⊕ (((List Int) × Unit) × ((List (Int × (List Int))) × Unit)))) =>
  Sum.elim
   (fun (v4 : (((List (Int × (List Int))) × (Int × Unit)) × Unit)) =>
   some ((v4.1.1, v4.1.2.1)))
   (fun (v4 : (((List Int) × Unit) × ((List (Int × (List Int))) × Unit))) =>
   bif (decide ((0 : Int) < (((List.length v4.1.1) : Nat) : Int))) then
    some ((([] : List ((Int × (List Int)))), (3 : Int)))
   else
    some ((v4.2.1, (0 : Int)))) v3
theorem packet_attrs_S (N : Nat) (b0 : List (Int)) (many1 : Int) : (runK Go.Proofs.Try.prog (Ev38 N) 400 38 [(.sl (.int .u8)), (.int .i64)] [(.sl (.pair (.int .u8) (.sl (.int .u8)))), (.int .i64)] (b0, many1, ())).run = packet_attrs N b0 many1 := by kernel_rfl
noncomputable def Ev39 (N : Nat) : (R : Type) → Env R := Env.addFn (Ev38 N) 38 (fun R => fnK [(.sl (.int .u8)), (.int .i64)] [(.sl (.pair (.int .u8) (.sl (.int .u8)))), (.int .i64)] (fun c => packet_attrs N c.1 c.2.1))
theorem Ev39_ok (N : Nat) (R : Type) : EnvOK Go.Proofs.Try.prog (Ev39 N R) := EnvOK.addFn hmx (Ev38_ok N R) (Ev38_ok N _) (by kernel_rfl) (fun c => packet_attrs_S N c.1 c.2.1)
noncomputable def packet_Parse (N : Nat) (b0 : List (Int)) : Option (((Bool) × ((Int) × ((List ((Int) × (List (Int)))) × (List (Int))))) × Int) :=
 Option.bind (@packet_Length N b0) fun (v2 : (Int × Int)) =>
 bif (!(decide (v2.2 = (0 : Int)))) then
  some (((@Bool.false, ((0 : Int), (([] : List ((Int × (List Int)))), ([] : List (Int))))), v2.2))
 else
  bif (decide ((((List.length b0) : Nat) : Int) < v2.1)) then
   some (((@Bool.false, ((0 : Int), (([] : List ((Int × (List Int)))), ([] : List (Int))))), (4 : Int)))
  else
   bif (decide (v2.1 < (((List.length b0) : Nat) : Int))) then
    some (((@Bool.false, ((0 : Int), (([] : List ((Int × (List Int)))), ([] : List (Int))))), (3 : Int)))
   else
    Option.bind (getI b0 (1 : Int)) fun (v3 : Int) =>
    bif (decide (v3 = (0 : Int))) then
     Option.bind (dropI b0 (4 : Int)) fun (v4 : (List Int)) =>
     Option.bind (@packet_OfData N v4) fun (v5 : (Bool × (Int × ((List (Int × (List Int))) × (List Int))))) =>
     some (((v5.1, (v5.2.1, (v5.2.2.1, v5.2.2.2))), (0 : Int)))
    else
     Option.bind (subI b0 (4 : Int) (6 : Int)) fun (v4 : (List Int)) =>
     Option.bind (@octs_Get N v4 @Bool.false) fun (v5 : (Int × Int)) =>
     Option.bind (subI b0 (6 : Int) (8 : Int)) fun (v6 : (List Int)) =>
     Option.bind (@octs_Get N v6 @Bool.false) fun (v7 : (Int × Int)) =>
     Option.bind (dropI b0 (8 : Int)) fun (v8 : (List Int)) =>
     Option.bind (@packet_attrs N v8 (Go.IntKind.wrap .i64 v7.1)) fun (v9 : ((List (Int × (List Int))) × Int)) =>
     bif (!(decide (v9.2 = (0 : Int)))) then
      some (((@Bool.false, ((0 : Int), (([] : List ((Int × (List Int)))), ([] : List (Int))))), v9.2))
     else
      some (((@Bool.true, ((Go.IntKind.wrap .u16 v5.1), (v9.1, ([] : List (Int))))), (0 : Int)))
theorem packet_Parse_S (N : Nat) (b0 : List (Int)) : (runK Go.Proofs.Try.prog (Ev39 N) 400 25 [(.sl (.int .u8))] [(.pair .bool (.pair (.int .u16) (.pair (.sl (.pair (.int .u8) (.sl (.int .u8)))) (.sl (.int .u8))))), (.int .i64)] (b0, ())).run = packet_Parse N b0 := by kernel_rfl
theorem packet_Parse_C (N : Nat) (b0 : List (Int)) (y : ((Bool) × ((Int) × ((List ((Int) × (List (Int)))) × (List (Int))))) × Int) (h : packet_Parse N b0 = some y) : CallsK Go.Proofs.Try.prog 25 (valA [(.sl (.int .u8))] (b0, ())) (tupV (valR [(.pair .bool (.pair (.int .u16) (.pair (.sl (.pair (.int .u8) (.sl (.int .u8)))) (.sl (.int .u8))))), (.int .i64)] y)) := runK_ok hmx (Ev39_ok N _) (okFn_ok (by kernel_rfl)) (by rw [packet_Parse_S]; exact h)
noncomputable def Ev40 (N : Nat) : (R : Type) → Env R := Env.addFn (Ev39 N) 25 (fun R => fnK [(.sl (.int .u8))] [(.pair .bool (.pair (.int .u16) (.pair (.sl (.pair (.int .u8) (.sl (.int .u8)))) (.sl (.int .u8))))), (.int .i64)] (fun c => packet_Parse N c.1))
theorem Ev40_ok (N : Nat) (R : Type) : EnvOK Go.Proofs.Try.prog (Ev40 N R) := EnvOK.addFn hmx (Ev39_ok N R) (Ev39_ok N _) (by kernel_rfl) (fun c => packet_Parse_S N c.1)
noncomputable def Ev41 (N : Nat) : (R : Type) → Env R := Env.addBx (Ev40 N) [(17, 0)]
theorem Ev41_ok (N : Nat) (R : Type) : EnvOK Go.Proofs.Try.prog (Ev41 N R) := EnvOK.addBx (Ev40_ok N R) [(17, 0)]
noncomputable def packet_Same_1_slices_EqualFunc_api_Attr_api_Attr_api_Attr_api_Attr_L4_I : LI := ⟨32, 0, [], ⟨[(1, .ty (.sl (.pair (.int .u8) (.sl (.int .u8))))), (2, .lit (.clo 28 [])), (15, .ty (.sl (.pair (.int .u8) (.sl (.int .u8))))), (16, .ty (.int .i64)), (17, .ty (.int .i64))], []⟩, [(.ret, ⟨[(6, .ty .bool)], []⟩), (.exit 0, ⟨[], []⟩)]⟩
noncomputable def packet_Same_1_slices_EqualFunc_api_Attr_api_Attr_api_Attr_api_Attr_L4 (N : Nat) (X : (((List ((Int) × (List (Int)))) × ((List ((Int) × (List (Int)))) × ((Int) × ((Int) × Unit)))) × Unit) → Option (((((Bool) × Unit) × Unit) ⊕ (Unit × Unit)))) (s21 : List ((Int) × (List (Int)))) (x15 : List ((Int) × (List (Int)))) (x16 : Int) (x17 : Int) : Option (((((Bool) × Unit) × Unit) ⊕ (Unit × Unit))) :=
 bif (decide (x17 < x16)) then
  Option.bind (getI x15 x17) fun (v6 : (Int × (List Int))) =>
  Option.bind (getI s21 x17) fun (v7 : (Int × (List Int))) =>
  Option.bind (@attr_Same N (v6.1, v6.2) (v7.1, v7.2)) fun (v8 : Bool) =>
  bif (!v8) then
   some ((.inl ((@Bool.false, @Unit.unit), @Unit.unit)))
  else
   (X ((s21, (x15, (x16, ((Go.IntKind.wrap .i64 (x17 + (1 : Int))), @Unit.unit)))), @Unit.unit))
 else
  some ((.inr (@Unit.unit, @Unit.unit)))
noncomputable def packet_Same_1_slices_EqualFunc_api_Attr_api_Attr_api_Attr_api_Attr_L4_R (N : Nat) (c : (((List ((Int) × (List (Int)))) × ((List ((Int) × (List (Int)))) × ((Int) × ((Int) × Unit)))) × Unit)) : Option (((((Bool) × Unit) × Unit) ⊕ (Unit × Unit))) := gl (fun X c => packet_Same_1_slices_EqualFunc_api_Attr_api_Attr_api_Attr_api_Attr_L4 N X c.1.1 c.1.2.1 c.1.2.2.1 c.1.2.2.2.1) N c
theorem packet_Same_1_slices_EqualFunc_api_Attr_api_Attr_api_Attr_api_Attr_L4_S (N : Nat) (X : (((List ((Int) × (List (Int)))) × ((List ((Int) × (List (Int)))) × ((Int) × ((Int) × Unit)))) × Unit) → Option (((((Bool) × Unit) × Unit) ⊕ (Unit × Unit)))) (s21 : List ((Int) × (List (Int)))) (x15 : List ((Int) × (List (Int)))) (x16 : Int) (x17 : Int) : (roundK Go.Proofs.Try.prog (Ev41 N) 400 [27, 1, 17] packet_Same_1_slices_EqualFunc_api_Attr_api_Attr_api_Attr_api_Attr_L4_I (loopAt Go.Proofs.Try.prog [27, 1, 17] 4) X ((s21, x15, x16, x17, ()), ())).run = packet_Same_1_slices_EqualFunc_api_Attr_api_Attr_api_Attr_api_Attr_L4 N X s21 x15 x16 x17 := by kernel_rfl
noncomputable def Ev42 (N : Nat) : (R : Type) → Env R := Env.addLp (Ev41 N) [27, 1, 17] 0 4 (fun R => lpK Go.Proofs.Try.prog packet_Same_1_slices_EqualFunc_api_Attr_api_Attr_api_Attr_api_Attr_L4_I (fun X c => packet_Same_1_slices_EqualFunc_api_Attr_api_Attr_api_Attr_api_Attr_L4 N X c.1.1 c.1.2.1 c.1.2.2.1 c.1.2.2.2.1) N)
theorem Ev42_ok (N : Nat) (R : Type) : EnvOK Go.Proofs.Try.prog (Ev42 N R) := EnvOK.addLp (Ev41_ok N R) (by kernel_rfl) (lpK_ok (li := packet_Same_1_slices_EqualFunc_api_Attr_api_Attr_api_Attr_api_Attr_L4_I) (G := fun X c => packet_Same_1_slices_EqualFunc_api_Attr_api_Attr_api_Attr_api_Attr_L4 N X c.1.1 c.1.2.1 c.1.2.2.1 c.1.2.2.2.1) hmx (Ev41_ok N _) (by kernel_rfl) loopAt_sub (fun (X : CT packet_Same_1_slices_EqualFunc_api_Attr_api_Attr_api_Attr_api_Attr_L4_I.sh → Option (OT packet_Same_1_slices_EqualFunc_api_Attr_api_Attr_api_Attr_api_Attr_L4_I.outs)) (c : CT packet_Same_1_slices_EqualFunc_api_Attr_api_Attr_api_Attr_api_Attr_L4_I.sh) => packet_Same_1_slices_EqualFunc_api_Attr_api_Attr_api_Attr_api_Attr_L4_S N X c.1.1 c.1.2.1 c.1.2.2.1 c.1.2.2.2.1) N)
noncomputable def slices_Equal_byte_byte_L4_I : LI := ⟨26, 0, [], ⟨[(0, .ty (.sl (.int .u8))), (1, .ty (.sl (.int .u8))), (12, .ty (.int .i64)), (13, .ty (.int .i64))], []⟩, [(.ret, ⟨[(4, .ty .bool)], []⟩), (.exit 0, ⟨[], []⟩)]⟩
noncomputable def slices_Equal_byte_byte_L4 (N : Nat) (X : (((List (Int)) × ((List (Int)) × ((Int) × ((Int) × Unit)))) × Unit) → Option (((((Bool) × Unit) × Unit) ⊕ (Unit × Unit)))) (s10 : List (Int)) (s21 : List (Int)) (x12 : Int) (x13 : Int) : Option (((((Bool) × Unit) × Unit) ⊕ (Unit × Unit))) :=
 bif (decide (x13 < x12)) then
  Option.bind (getI s10 x13) fun (v6 : Int) =>
  Option.bind (getI s21 x13) fun (v7 : Int) =>
  bif (!(decide (v6 = v7))) then
   some ((.inl ((@Bool.false, @Unit.unit), @Unit.unit)))
  else
   (X ((s10, (s21, (x12, ((Go.IntKind.wrap .i64 (x13 + (1 : Int))), @Unit.unit)))), @Unit.unit))
 else
  some ((.inr (@Unit.unit, @Unit.unit)))
noncomputable def slices_Equal_byte_byte_L4_R (N : Nat) (c : (((List (Int)) × ((List (Int)) × ((Int) × ((Int) × Unit)))) × Unit)) : Option (((((Bool) × Unit) × Unit) ⊕ (Unit × Unit))) := gl (fun X c => slices_Equal_byte_byte_L4 N X c.1.1 c.1.2.1 c.1.2.2.1 c.1.2.2.2.1) N c
theorem slices_Equal_byte_byte_L4_S (N : Nat) (X : (((List (Int)) × ((List (Int)) × ((Int) × ((Int) × Unit)))) × Unit) → Option (((((Bool) × Unit) × Unit) ⊕ (Unit × Unit)))) (s10 : List (Int)) (s21 : List (Int)) (x12 : Int) (x13 : Int) : (roundK Go.Proofs.Try.prog (Ev42 N) 400 [29] slices_Equal_byte_byte_L4_I (loopAt Go.Proofs.Try.prog [29] 4) X ((s10, s21, x12, x13, ()), ())).run = slices_Equal_byte_byte_L4 N X s10 s21 x12 x13 := by kernel_rfl
noncomputable def Ev43 (N : Nat) : (R : Type) → Env R := Env.addLp (Ev42 N) [29] 0 4 (fun R => lpK Go.Proofs.Try.prog slices_Equal_byte_byte_L4_I (fun X c => slices_Equal_byte_byte_L4 N X c.1.1 c.1.2.1 c.1.2.2.1 c.1.2.2.2.1) N)
theorem Ev43_ok (N : Nat) (R : Type) : EnvOK Go.Proofs.Try.prog (Ev43 N R) := EnvOK.addLp (Ev42_ok N R) (by kernel_rfl) (lpK_ok (li := slices_Equal_byte_byte_L4_I) (G := fun X c => slices_Equal_byte_byte_L4 N X c.1.1 c.1.2.1 c.1.2.2.1 c.1.2.2.2.1) hmx (Ev42_ok N _) (by kernel_rfl) loopAt_sub (fun (X : CT slices_Equal_byte_byte_L4_I.sh → Option (OT slices_Equal_byte_byte_L4_I.outs)) (c : CT slices_Equal_byte_byte_L4_I.sh) => slices_Equal_byte_byte_L4_S N X c.1.1 c.1.2.1 c.1.2.2.1 c.1.2.2.2.1) N)
noncomputable def slices_Equal_byte_byte (N : Nat) (s10 : List (Int)) (s21 : List (Int)) : Option (Bool) :=
 bif (!(decide ((((List.length s10) : Nat) : Int) = (((List.length s21) : Nat) : Int)))) then
  some (@Bool.false)
 else
  Option.bind (slices_Equal_byte_byte_L4_R N ((s10, (s21, ((((List.length s10) : Nat) : Int), ((0 : Int), @Unit.unit)))), @Unit.unit)) fun (v3 : (((Bool × Unit) × Unit) ⊕ (Unit × Unit))) =>
  Sum.elim
   (fun (v4 : ((Bool × Unit) × Unit)) =>
   some (v4.1.1))
   (fun (v4 : (Unit × Unit)) =>
   some (@Bool.true)) v3
theorem slices_Equal_byte_byte_S (N : Nat) (s10 : List (Int)) (s21 : List (Int)) : (runK Go.Proofs.Try.prog (Ev43 N) 400 29 [(.sl (.int .u8)), (.sl (.int .u8))] [.bool] (s10, s21, ())).run = slices_Equal_byte_byte N s10 s21 := by kernel_rfl
noncomputable def Ev44 (N : Nat) : (R : Type) → Env R := Env.addFn (Ev43 N) 29 (fun R => fnK [(.sl (.int .u8)), (.sl (.int .u8))] [.bool] (fun c => slices_Equal_byte_byte N c.1 c.2.1))
theorem Ev44_ok (N : Nat) (R : Type) : EnvOK Go.Proofs.Try.prog (Ev44 N R) := EnvOK.addFn hmx (Ev43_ok N R) (Ev43_ok N _) (by kernel_rfl) (fun c => slices_Equal_byte_byte_S N c.1 c.2.1)
noncomputable def packet_Same (N : Nat) (a0 : (Bool) × ((Int) × ((List ((Int) × (List (Int)))) × (List (Int))))) (b1 : (Bool) × ((Int) × ((List ((Int) × (List (Int)))) × (List (Int))))) : Option (Bool) :=
 bif (@BEq.beq Bool (@instBEqOfDecidableEq Bool @instDecidableEqBool) a0.1 b1.1) then
  bif (@cond Bool @Bool.true (decide (a0.2.1 = b1.2.1)) @Bool.false) then
   bif (!(decide ((((List.length a0.2.2.1) : Nat) : Int) = (((List.length b1.2.2.1) : Nat) : Int)))) then
    some (@Bool.false)
   else
    Option.bind (packet_Same_1_slices_EqualFunc_api_Attr_api_Attr_api_Attr_api_Attr_L4_R N ((b1.2.2.1, (a0.2.2.1, ((((List.length a0.2.2.1) : Nat) : Int), ((0 : Int), @Unit.unit)))), @Unit.unit)) fun (v3 : (((Bool × Unit) × Unit) ⊕ (Unit × Unit))) =>
    Sum.elim
     (fun (v4 : ((Bool × Unit) × Unit)) =>
     bif (@cond Bool @Bool.true v4.1.1 @Bool.false) then
      Option.bind (@slices_Equal_byte_byte N a0.2.2.2 b1.2.2.2) fun (v5 : Bool) =>
      some ((@cond Bool @Bool.true v5 @Bool.false))
     else
      some (@Bool.false))
     (fun (v4 : (Unit × Unit)) =>
     Option.bind (@slices_Equal_byte_byte N a0.2.2.2 b1.2.2.2) fun (v5 : Bool) =>
     some ((@cond Bool @Bool.true v5 @Bool.false))) v3
  else
   some (@Bool.false)
 else
  some (@Bool.false)
theorem packet_Same_S (N : Nat) (a0 : (Bool) × ((Int) × ((List ((Int) × (List (Int)))) × (List (Int))))) (b1 : (Bool) × ((Int) × ((List ((Int) × (List (Int)))) × (List (Int))))) : (runK Go.Proofs.Try.prog (Ev44 N) 400 17 [(.pair .bool (.pair (.int .u16) (.pair (.sl (.pair (.int .u8) (.sl (.int .u8)))) (.sl (.int .u8))))), (.pair .bool (.pair (.int .u16) (.pair (.sl (.pair (.int .u8) (.sl (.int .u8)))) (.sl (.int .u8)))))] [.bool] (a0, b1, ())).run = packet_Same N a0 b1 := by kernel_rfl
theorem packet_Same_C (N : Nat) (a0 : (Bool) × ((Int) × ((List ((Int) × (List (Int)))) × (List (Int))))) (b1 : (Bool) × ((Int) × ((List ((Int) × (List (Int)))) × (List (Int))))) (y : Bool) (h : packet_Same N a0 b1 = some y) : CallsK Go.Proofs.Try.prog 17 (valA [(.pair .bool (.pair (.int .u16) (.pair (.sl (.pair (.int .u8) (.sl (.int .u8)))) (.sl (.int .u8))))), (.pair .bool (.pair (.int .u16) (.pair (.sl (.pair (.int .u8) (.sl (.int .u8)))) (.sl (.int .u8)))))] (a0, b1, ())) (tupV (valR [.bool] y)) := runK_ok hmx (Ev44_ok N _) (okFn_ok (by kernel_rfl)) (by rw [packet_Same_S]; exact h)
noncomputable def Ev45 (N : Nat) : (R : Type) → Env R := Env.addFn (Ev44 N) 17 (fun R => fnK [(.pair .bool (.pair (.int .u16) (.pair (.sl (.pair (.int .u8) (.sl (.int .u8)))) (.sl (.int .u8))))), (.pair .bool (.pair (.int .u16) (.pair (.sl (.pair (.int .u8) (.sl (.int .u8)))) (.sl (.int .u8)))))] [.bool] (fun c => packet_Same N c.1 c.2.1))
theorem Ev45_ok (N : Nat) (R : Type) : EnvOK Go.Proofs.Try.prog (Ev45 N R) := EnvOK.addFn hmx (Ev44_ok N R) (Ev44_ok N _) (by kernel_rfl) (fun c => packet_Same_S N c.1 c.2.1)
noncomputable def Ev46 (N : Nat) : (R : Type) → Env R := Env.addMv (Ev45 N) [(20, 5)]
theorem Ev46_ok (N : Nat) (R : Type) : EnvOK Go.Proofs.Try.prog (Ev46 N R) := EnvOK.addMv (Ev45_ok N R) [(20, 5)]
noncomputable def packet_Of_L3_I : LI := ⟨29, 0, [], ⟨[(4, .lit (.box 0 0)), (5, .lit (.box 1 0)), (10, .ty (.sl (.pair (.int .u8) (.sl (.int .u8))))), (11, .ty (.int .i64)), (12, .ty (.int .i64))], [.boxp 42 [.ty .bool, .ty (.int .u16), .own 2, .ty (.sl (.int .u8))], .boxp 42 [.ty .bool, .ty (.int .u16), .own 3, .ty (.sl (.int .u8))], .own (.pair (.int .u8) (.sl (.int .u8))) 67, .own (.pair (.int .u8) (.sl (.int .u8))) 67]⟩, [(.exit 0, ⟨[(4, .lit (.box 0 0)), (5, .lit (.box 1 0))], [.boxp 42 [.ty .bool, .ty (.int .u16), .own 2, .ty (.sl (.int .u8))], .boxp 42 [.ty .bool, .ty (.int .u16), .own 3, .ty (.sl (.int .u8))], .own (.pair (.int .u8) (.sl (.int .u8))) 67, .own (.pair (.int .u8) (.sl (.int .u8))) 67]⟩)]⟩
noncomputable def packet_Of_L3 (N : Nat) (X : (((List ((Int) × (List (Int)))) × ((Int) × ((Int) × Unit))) × ((Bool) × ((Int) × ((List (Int)) × ((Bool) × ((Int) × ((List (Int)) × ((List ((Int) × (List (Int)))) × ((List ((Int) × (List (Int)))) × Unit))))))))) → Option ((Unit × ((Bool) × ((Int) × ((List (Int)) × ((Bool) × ((Int) × ((List (Int)) × ((List ((Int) × (List (Int)))) × ((List ((Int) × (List (Int)))) × Unit))))))))))) (x10 : List ((Int) × (List (Int)))) (x11 : Int) (x12 : Int) (h0 : Bool) (h1 : Int) (h2 : List (Int)) (h3 : Bool) (h4 : Int) (h5 : List (Int)) (h6 : List ((Int) × (List (Int)))) (h7 : List ((Int) × (List (Int)))) : Option ((Unit × ((Bool) × ((Int) × ((List (Int)) × ((Bool) × ((Int) × ((List (Int)) × ((List ((Int) × (List (Int)))) × ((List ((Int) × (List (Int)))) × Unit)))))))))) :=
 bif (decide (x12 < x11)) then
  Option.bind (getI x10 x12) fun (v13 : (Int × (List Int))) =>
  Option.bind (@slices_Clone_byte_byte N v13.2) fun (v14 : (List Int)) =>
  bif (roomB ((List.length h7) + (List.length ([(v13.1, v14)] : List ((Int × (List Int)))))) 32) then
   (X ((x10, (x11, ((Go.IntKind.wrap .i64 (x12 + (1 : Int))), @Unit.unit))), (h0, (h1, (h2, (h3, (h4, (h5, (h6, ((h7 ++ ([(v13.1, v14)] : List ((Int × (List Int))))), @Unit.unit))))))))))
  else
   none
 else
  some ((@Unit.unit, (h0, (h1, (h2, (h3, (h4, (h5, (h6, (h7, @Unit.unit))))))))))
noncomputable def packet_Of_L3_R (N : Nat) (c : (((List ((Int) × (List (Int)))) × ((Int) × ((Int) × Unit))) × ((Bool) × ((Int) × ((List (Int)) × ((Bool) × ((Int) × ((List (Int)) × ((List ((Int) × (List (Int)))) × ((List ((Int) × (List (Int)))) × Unit)))))))))) : Option ((Unit × ((Bool) × ((Int) × ((List (Int)) × ((Bool) × ((Int) × ((List (Int)) × ((List ((Int) × (List (Int)))) × ((List ((Int) × (List (Int)))) × Unit)))))))))) := gl (fun X c => packet_Of_L3 N X c.1.1 c.1.2.1 c.1.2.2.1 c.2.1 c.2.2.1 c.2.2.2.1 c.2.2.2.2.1 c.2.2.2.2.2.1 c.2.2.2.2.2.2.1 c.2.2.2.2.2.2.2.1 c.2.2.2.2.2.2.2.2.1) N c
theorem packet_Of_L3_S (N : Nat) (X : (((List ((Int) × (List (Int)))) × ((Int) × ((Int) × Unit))) × ((Bool) × ((Int) × ((List (Int)) × ((Bool) × ((Int) × ((List (Int)) × ((List ((Int) × (List (Int)))) × ((List ((Int) × (List (Int)))) × Unit))))))))) → Option ((Unit × ((Bool) × ((Int) × ((List (Int)) × ((Bool) × ((Int) × ((List (Int)) × ((List ((Int) × (List (Int)))) × ((List ((Int) × (List (Int)))) × Unit))))))))))) (x10 : List ((Int) × (List (Int)))) (x11 : Int) (x12 : Int) (h0 : Bool) (h1 : Int) (h2 : List (Int)) (h3 : Bool) (h4 : Int) (h5 : List (Int)) (h6 : List ((Int) × (List (Int)))) (h7 : List ((Int) × (List (Int)))) : (roundK Go.Proofs.Try.prog (Ev46 N) 400 [20] packet_Of_L3_I (loopAt Go.Proofs.Try.prog [20] 3) X ((x10, x11, x12, ()), (h0, h1, h2, h3, h4, h5, h6, h7, ()))).run = packet_Of_L3 N X x10 x11 x12 h0 h1 h2 h3 h4 h5 h6 h7 := by kernel_rfl
noncomputable def Ev47 (N : Nat) : (R : Type) → Env R := Env.addLp (Ev46 N) [20] 0 3 (fun R => lpK Go.Proofs.Try.prog packet_Of_L3_I (fun X c => packet_Of_L3 N X c.1.1 c.1.2.1 c.1.2.2.1 c.2.1 c.2.2.1 c.2.2.2.1 c.2.2.2.2.1 c.2.2.2.2.2.1 c.2.2.2.2.2.2.1 c.2.2.2.2.2.2.2.1 c.2.2.2.2.2.2.2.2.1) N)
theorem Ev47_ok (N : Nat) (R : Type) : EnvOK Go.Proofs.Try.prog (Ev47 N R) := EnvOK.addLp (Ev46_ok N R) (by kernel_rfl) (lpK_ok (li := packet_Of_L3_I) (G := fun X c => packet_Of_L3 N X c.1.1 c.1.2.1 c.1.2.2.1 c.2.1 c.2.2.1 c.2.2.2.1 c.2.2.2.2.1 c.2.2.2.2.2.1 c.2.2.2.2.2.2.1 c.2.2.2.2.2.2.2.1 c.2.2.2.2.2.2.2.2.1) hmx (Ev46_ok N _) (by kernel_rfl) loopAt_sub (fun (X : CT packet_Of_L3_I.sh → Option (OT packet_Of_L3_I.outs)) (c : CT packet_Of_L3_I.sh) => packet_Of_L3_S N X c.1.1 c.1.2.1 c.1.2.2.1 c.2.1 c.2.2.1 c.2.2.2.1 c.2.2.2.2.1 c.2.2.2.2.2.1 c.2.2.2.2.2.2.1 c.2.2.2.2.2.2.2.1 c.2.2.2.2.2.2.2.2.1) N)
noncomputable def packet_Of (N : Nat) (kind0 : Int) (l1 : List ((Int) × (List (Int)))) : Option ((Bool) × ((Int) × ((List ((Int) × (List (Int)))) × (List (Int))))) :=
 Option.bind (packet_Of_L3_R N ((l1, ((((List.length l1) : Nat) : Int), ((0 : Int), @Unit.unit))), (@Bool.false, ((0 : Int), (([] : List (Int)), (@Bool.true, (kind0, (([] : List (Int)), (([] : List ((Int × (List Int)))), (([] : List ((Int × (List Int)))), @Unit.unit)))))))))) fun (v3 : (Unit × (Bool × (Int × ((List Int) × (Bool × (Int × ((List Int) × ((List (Int × (List Int))) × ((List (Int × (List Int))) × Unit)))))))))) =>
 some (((v3.2.2.2).snd.1, ((v3.2.2.2).snd.2.1, (((v3.2.2.2).snd.2.2).snd.2.1, (v3.2.2.2).snd.2.2.1))))
theorem packet_Of_S (N : Nat) (kind0 : Int) (l1 : List ((Int) × (List (Int)))) : (runK Go.Proofs.Try.prog (Ev47 N) 400 20 [(.int .u16), (.sl (.pair (.int .u8) (.sl (.int .u8))))] [(.pair .bool (.pair (.int .u16) (.pair (.sl (.pair (.int .u8) (.sl (.int .u8)))) (.sl (.int .u8)))))] (kind0, l1, ())).run = packet_Of N kind0 l1 := by kernel_rfl
theorem packet_Of_C (N : Nat) (kind0 : Int) (l1 : List ((Int) × (List (Int)))) (y : (Bool) × ((Int) × ((List ((Int) × (List (Int)))) × (List (Int))))) (h : packet_Of N kind0 l1 = some y) : CallsK Go.Proofs.Try.prog 20 (valA [(.int .u16), (.sl (.pair (.int .u8) (.sl (.int .u8))))] (kind0, l1, ())) (tupV (valR [(.pair .bool (.pair (.int .u16) (.pair (.sl (.pair (.int .u8) (.sl (.int .u8)))) (.sl (.int .u8)))))] y)) := runK_ok hmx (Ev47_ok N _) (okFn_ok (by kernel_rfl)) (by rw [packet_Of_S]; exact h)
noncomputable def Ev48 (N : Nat) : (R : Type) → Env R := Env.addFn (Ev47 N) 20 (fun R => fnK [(.int .u16), (.sl (.pair (.int .u8) (.sl (.int .u8))))] [(.pair .bool (.pair (.int .u16) (.pair (.sl (.pair (.int .u8) (.sl (.int .u8)))) (.sl (.int .u8)))))] (fun c => packet_Of N c.1 c.2.1))
theorem Ev48_ok (N : Nat) (R : Type) : EnvOK Go.Proofs.Try.prog (Ev48 N R) := EnvOK.addFn hmx (Ev47_ok N R) (Ev47_ok N _) (by kernel_rfl) (fun c => packet_Of_S N c.1 c.2.1)
noncomputable def Ev49 (N : Nat) : (R : Type) → Env R := Env.addMv (Ev48 N) [(22, 21)]
theorem Ev49_ok (N : Nat) (R : Type) : EnvOK Go.Proofs.Try.prog (Ev49 N R) := EnvOK.addMv (Ev48_ok N R) [(22, 21)]
noncomputable def ref18_Length (N : Nat) (b0 : List (Int)) : Option ((Int) × Int) :=
 bif (decide ((((List.length b0) : Nat) : Int) < (4 : Int))) then
  some (((0 : Int), (4 : Int)))
 else
  Option.bind (getI b0 (0 : Int)) fun (v2 : Int) =>
  bif (!(decide (v2 = (16 : Int)))) then
   some (((0 : Int), (15 : Int)))
  else
   Option.bind (subI b0 (2 : Int) (4 : Int)) fun (v3 : (List Int)) =>
   Option.bind (@ref01_Num N v3) fun (v4 : Int) =>
   Option.bind (getI b0 (1 : Int)) fun (v5 : Int) =>
   bif (decide ((1 : Int) < v5)) then
    some (((0 : Int), (3 : Int)))
   else
    bif (@cond Bool @Bool.false @Bool.true (decide ((Go.IntKind.wrap .i64 v4) < (5 : Int)))) then
     some (((0 : Int), (3 : Int)))
    else
     Option.bind (getI b0 (1 : Int)) fun (v6 : Int) =>
     bif (decide (v6 = (1 : Int))) then
      bif (@cond Bool @Bool.false @Bool.true (@cond Bool @Bool.true (decide ((Go.IntKind.wrap .i64 v4) < (8 : Int))) @Bool.false)) then
       some (((0 : Int), (3 : Int)))
      else
       bif (@cond Bool @Bool.false @Bool.true (decide ((4095 : Int) < (Go.IntKind.wrap .i64 v4)))) then
        some (((0 : Int), (3 : Int)))
       else
        some (((Go.IntKind.wrap .i64 v4), (0 : Int)))
     else
      bif (@cond Bool @Bool.false @Bool.true (decide ((4095 : Int) < (Go.IntKind.wrap .i64 v4)))) then
       some (((0 : Int), (3 : Int)))
      else
       some (((Go.IntKind.wrap .i64 v4), (0 : Int)))
theorem ref18_Length_S (N : Nat) (b0 : List (Int)) : (runK Go.Proofs.Try.prog (Ev49 N) 400 21 [(.sl (.int .u8))] [(.int .i64), (.int .i64)] (b0, ())).run = ref18_Length N b0 := by kernel_rfl
theorem ref18_Length_C (N : Nat) (b0 : List (Int)) (y : (Int) × Int) (h : ref18_Length N b0 = some y) : CallsK Go.Proofs.Try.prog 21 (valA [(.sl (.int .u8))] (b0, ())) (tupV (valR [(.int .i64), (.int .i64)] y)) := runK_ok hmx (Ev49_ok N _) (okFn_ok (by kernel_rfl)) (by rw [ref18_Length_S]; exact h)
noncomputable def Ev50 (N : Nat) : (R : Type) → Env R := Env.addFn (Ev49 N) 21 (fun R => fnK [(.sl (.int .u8))] [(.int .i64), (.int .i64)] (fun c => ref18_Length N c.1))
theorem Ev50_ok (N : Nat) (R : Type) : EnvOK Go.Proofs.Try.prog (Ev50 N R) := EnvOK.addFn hmx (Ev49_ok N R) (Ev49_ok N _) (by kernel_rfl) (fun c => ref18_Length_S N c.1)
noncomputable def ref18_Parse_L16_I : LI := ⟨82, 0, [], ⟨[(2, .lit (.box 0 0)), (6, .ty (.int .i64)), (7, .lit (.box 1 0)), (8, .ty (.sl (.int .u8))), (9, .ty (.int .i64))], [.boxp 46 [.ty .bool, .ty (.int .u16), .own 2, .ty (.sl (.int .u8))], .boxp 46 [.ty .bool, .ty (.int .u16), .own 3, .ty (.sl (.int .u8))], .own (.pair (.int .u8) (.sl (.int .u8))) 69, .own (.pair (.int .u8) (.sl (.int .u8))) 69]⟩, [(.ret, ⟨[(2, .lit (.box 0 0)), (3, .ty (.int .i64))], [.boxp 46 [.ty .bool, .ty (.int .u16), .nil, .nil]]⟩), (.exit 0, ⟨[(2, .lit (.box 0 0)), (7, .lit (.box 1 0)), (8, .ty (.sl (.int .u8)))], [.boxp 46 [.ty .bool, .ty (.int .u16), .own 2, .ty (.sl (.int .u8))], .boxp 46 [.ty .bool, .ty (.int .u16), .own 3, .ty (.sl (.int .u8))], .own (.pair (.int .u8) (.sl (.int .u8))) 69, .own (.pair (.int .u8) (.sl (.int .u8))) 69]⟩)]⟩
noncomputable def ref18_Parse_L16 (N : Nat) (X : (((Int) × ((List (Int)) × ((Int) × Unit))) × ((Bool) × ((Int) × ((List (Int)) × ((Bool) × ((Int) × ((List (Int)) × ((List ((Int) × (List (Int)))) × ((List ((Int) × (List (Int)))) × Unit))))))))) → Option (((((Int) × Unit) × ((Bool) × ((Int) × Unit))) ⊕ (((List (Int)) × Unit) × ((Bool) × ((Int) × ((List (Int)) × ((Bool) × ((Int) × ((List (Int)) × ((List ((Int) × (List (Int)))) × ((List ((Int) × (List (Int)))) × Unit)))))))))))) (many6 : Int) (rest8 : List (Int)) (i9 : Int) (h0 : Bool) (h1 : Int) (h2 : List (Int)) (h3 : Bool) (h4 : Int) (h5 : List (Int)) (h6 : List ((Int) × (List (Int)))) (h7 : List ((Int) × (List (Int)))) : Option (((((Int) × Unit) × ((Bool) × ((Int) × Unit))) ⊕ (((List (Int)) × Unit) × ((Bool) × ((Int) × ((List (Int)) × ((Bool) × ((Int) × ((List (Int)) × ((List ((Int) × (List (Int)))) × ((List ((Int) × (List (Int)))) × Unit))))))))))) :=
 bif (decide (i9 < many6)) then
  Option.bind (@ref17_Parse N rest8) fun (v13 : ((Int × (List Int)) × (Int × Int))) =>
  bif (!(decide (v13.2.2 = (0 : Int)))) then
   some ((.inl ((v13.2.2, @Unit.unit), (@Bool.false, ((0 : Int), @Unit.unit)))))
  else
   bif (roomB ((List.length h7) + (List.length ([(v13.1.1, v13.1.2)] : List ((Int × (List Int)))))) 32) then
    Option.bind (dropI rest8 v13.2.1) fun (v14 : (List Int)) =>
    (X ((many6, (v14, ((Go.IntKind.wrap .i64 (i9 + (1 : Int))), @Unit.unit))), (h0, (h1, (h2, (h3, (h4, (h5, (h6, ((h7 ++ ([(v13.1.1, v13.1.2)] : List ((Int × (List Int))))), @Unit.unit))))))))))
   else
    none
 else
  some ((.inr ((rest8, @Unit.unit), (h0, (h1, (h2, (h3, (h4, (h5, (h6, (h7, @Unit.unit)))))))))))
noncomputable def ref18_Parse_L16_R (N : Nat) (c : (((Int) × ((List (Int)) × ((Int) × Unit))) × ((Bool) × ((Int) × ((List (Int)) × ((Bool) × ((Int) × ((List (Int)) × ((List ((Int) × (List (Int)))) × ((List ((Int) × (List (Int)))) × Unit)))))))))) : Option (((((Int) × Unit) × ((Bool) × ((Int) × Unit))) ⊕ (((List (Int)) × Unit) × ((Bool) × ((Int) × ((List (Int)) × ((Bool) × ((Int) × ((List (Int)) × ((List ((Int) × (List (Int)))) × ((List ((Int) × (List (Int)))) × Unit))))))))))) := gl (fun X c => ref18_Parse_L16 N X c.1.1 c.1.2.1 c.1.2.2.1 c.2.1 c.2.2.1 c.2.2.2.1 c.2.2.2.2.1 c.2.2.2.2.2.1 c.2.2.2.2.2.2.1 c.2.2.2.2.2.2.2.1 c.2.2.2.2.2.2.2.2.1) N c
theorem ref18_Parse_L16_S (N : Nat) (X : (((Int) × ((List (Int)) × ((Int) × Unit))) × ((Bool) × ((Int) × ((List (Int)) × ((Bool) × ((Int) × ((List (Int)) × ((List ((Int) × (List (Int)))) × ((List ((Int) × (List (Int)))) × Unit))))))))) → Option (((((Int) × Unit) × ((Bool) × ((Int) × Unit))) ⊕ (((List (Int)) × Unit) × ((Bool) × ((Int) × ((List (Int)) × ((Bool) × ((Int) × ((List (Int)) × ((List ((Int) × (List (Int)))) × ((List ((Int) × (List (Int)))) × Unit)))))))))))) (many6 : Int) (rest8 : List (Int)) (i9 : Int) (h0 : Bool) (h1 : Int) (h2 : List (Int)) (h3 : Bool) (h4 : Int) (h5 : List (Int)) (h6 : List ((Int) × (List (Int)))) (h7 : List ((Int) × (List (Int)))) : (roundK Go.Proofs.Try.prog (Ev50 N) 400 [22] ref18_Parse_L16_I (loopAt Go.Proofs.Try.prog [22] 16) X ((many6, rest8, i9, ()), (h0, h1, h2, h3, h4, h5, h6, h7, ()))).run = ref18_Parse_L16 N X many6 rest8 i9 h0 h1 h2 h3 h4 h5 h6 h7 := by kernel_rfl
noncomputable def Ev51 (N : Nat) : (R : Type) → Env R := Env.addLp (Ev50 N) [22] 0 16 (fun R => lpK Go.Proofs.Try.prog ref18_Parse_L16_I (fun X c => ref18_Parse_L16 N X c.1.1 c.1.2.1 c.1.2.2.1 c.2.1 c.2.2.1 c.2.2.2.1 c.2.2.2.2.1 c.2.2.2.2.2.1 c.2.2.2.2.2.2.1 c.2.2.2.2.2.2.2.1 c.2.2.2.2.2.2.2.2.1) N)
theorem Ev51_ok (N : Nat) (R : Type) : EnvOK Go.Proofs.Try.prog (Ev51 N R) := EnvOK.addLp (Ev50_ok N R) (by kernel_rfl) (lpK_ok (li := ref18_Parse_L16_I) (G := fun X c => ref18_Parse_L16 N X c.1.1 c.1.2.1 c.1.2.2.1 c.2.1 c.2.2.1 c.2.2.2.1 c.2.2.2.2.1 c.2.2.2.2.2.1 c.2.2.2.2.2.2.1 c.2.2.2.2.2.2.2.1 c.2.2.2.2.2.2.2.2.1) hmx (Ev50_ok N _) (by kernel_rfl) loopAt_sub (fun (X : CT ref18_Parse_L16_I.sh → Option (OT ref18_Parse_L16_I.outs)) (c : CT ref18_Parse_L16_I.sh) => ref18_Parse_L16_S N X c.1.1 c.1.2.1 c.1.2.2.1 c.2.1 c.2.2.1 c.2.2.2.1 c.2.2.2.2.1 c.2.2.2.2.2.1 c.2.2.2.2.2.2.1 c.2.2.2.2.2.2.2.1 c.2.2.2.2.2.2.2.2.1) N)
noncomputable def ref18_Parse (N : Nat) (b0 : List (Int)) : Option (((Bool) × ((Int) × ((List ((Int) × (List (Int)))) × (List (Int))))) × Int) :=
 Option.bind (@ref18_Length N b0) fun (v2 : (Int × Int)) =>
 bif (!(decide (v2.2 = (0 : Int)))) then
  some (((@Bool.false, ((0 : Int), (([] : List ((Int × (List Int)))), ([] : List (Int))))), v2.2))
 else
  bif (decide ((((List.length b0) : Nat) : Int) < v2.1)) then
   some (((@Bool.false, ((0 : Int), (([] : List ((Int × (List Int)))), ([] : List (Int))))), (4 : Int)))
  else
   bif (decide (v2.1 < (((List.length b0) : Nat) : Int))) then
    some (((@Bool.false, ((0 : Int), (([] : List ((Int × (List Int)))), ([] : List (Int))))), (3 : Int)))
   else
    Option.bind (getI b0 (1 : Int)) fun (v3 : Int) =>
    bif (decide (v3 = (0 : Int))) then
     Option.bind (dropI b0 (4 : Int)) fun (v4 : (List Int)) =>
     some (((@Bool.false, ((0 : Int), (([] : List ((Int × (List Int)))), v4))), (0 : Int)))
    else
     Option.bind (subI b0 (6 : Int) (8 : Int)) fun (v4 : (List Int)) =>
     Option.bind (@ref01_Num N v4) fun (v5 : Int) =>
     bif (decide ((8 : Int) < (Go.IntKind.wrap .i64 v5))) then
      some (((@Bool.false, ((0 : Int), (([] : List ((Int × (List Int)))), ([] : List (Int))))), (5 : Int)))
     else
      Option.bind (subI b0 (4 : Int) (6 : Int)) fun (v6 : (List Int)) =>
      Option.bind (@ref01_Num N v6) fun (v7 : Int) =>
      Option.bind (dropI b0 (8 : Int)) fun (v8 : (List Int)) =>
      Option.bind (ref18_Parse_L16_R N (((Go.IntKind.wrap .i64 v5), (v8, ((0 : Int), @Unit.unit))), (@Bool.false, ((0 : Int), (([] : List (Int)), (@Bool.true, ((Go.IntKind.wrap .u16 v7), (([] : List (Int)), (([] : List ((Int × (List Int)))), (([] : List ((Int × (List Int)))), @Unit.unit)))))))))) fun (v9 : (((Int × Unit) × (Bool × (Int × Unit))) ⊕ (((List Int) × Unit) × (Bool × (Int × ((List Int) × (Bool × (Int × ((List Int) × ((List (Int × (List Int))) × ((List (Int × (List Int))) × Unit))))))))))) =>
      Sum.elim
       (fun (v10 : ((Int × Unit) × (Bool × (Int × Unit)))) =>
       some (((v10.2.1, (v10.2.2.1, (([] : List ((Int × (List Int)))), ([] : List (Int))))), v10.1.1)))
       (fun (v10 : (((List Int) × Unit) × (Bool × (Int × ((List Int) × (Bool × (Int × ((List Int) × ((List (Int × (List Int))) × ((List (Int × (List Int))) × Unit)))))))))) =>
       bif (decide ((0 : Int) < (((List.length v10.1.1) : Nat) : Int))) then
        some (((@Bool.false, ((0 : Int), (([] : List ((Int × (List Int)))), ([] : List (Int))))), (3 : Int)))
       else
        some ((((v10.2.2.2).snd.1, ((v10.2.2.2).snd.2.1, (((v10.2.2.2).snd.2.2).snd.2.1, (v10.2.2.2).snd.2.2.1))), (0 : Int)))) v9
theorem ref18_Parse_S (N : Nat) (b0 : List (Int)) : (runK Go.Proofs.Try.prog (Ev51 N) 400 22 [(.sl (.int .u8))] [(.pair .bool (.pair (.int .u16) (.pair (.sl (.pair (.int .u8) (.sl (.int .u8)))) (.sl (.int .u8))))), (.int .i64)] (b0, ())).run = ref18_Parse N b0 := by kernel_rfl
theorem ref18_Parse_C (N : Nat) (b0 : List (Int)) (y : ((Bool) × ((Int) × ((List ((Int) × (List (Int)))) × (List (Int))))) × Int) (h : ref18_Parse N b0 = some y) : CallsK Go.Proofs.Try.prog 22 (valA [(.sl (.int .u8))] (b0, ())) (tupV (valR [(.pair .bool (.pair (.int .u16) (.pair (.sl (.pair (.int .u8) (.sl (.int .u8)))) (.sl (.int .u8))))), (.int .i64)] y)) := runK_ok hmx (Ev51_ok N _) (okFn_ok (by kernel_rfl)) (by rw [ref18_Parse_S]; exact h)
noncomputable def Ev52 (N : Nat) : (R : Type) → Env R := Env.addFn (Ev51 N) 22 (fun R => fnK [(.sl (.int .u8))] [(.pair .bool (.pair (.int .u16) (.pair (.sl (.pair (.int .u8) (.sl (.int .u8)))) (.sl (.int .u8))))), (.int .i64)] (fun c => ref18_Parse N c.1))
theorem Ev52_ok (N : Nat) (R : Type) : EnvOK Go.Proofs.Try.prog (Ev52 N R) := EnvOK.addFn hmx (Ev51_ok N R) (Ev51_ok N _) (by kernel_rfl) (fun c => ref18_Parse_S N c.1)
noncomputable def Ev53 (N : Nat) : (R : Type) → Env R := Env.addInl (Ev52 N) [33, 8, 11, 24, 26, 13, 14, 15, 16]
theorem Ev53_ok (N : Nat) (R : Type) : EnvOK Go.Proofs.Try.prog (Ev53 N R) := EnvOK.addInl (Ev52_ok N R) (by kernel_rfl)
noncomputable def slices_Clone_byte_byte_o (N : Nat) (l : List (Int)) : Option (List (Int)) :=
 bif (@List.isEmpty Int l) then
  none
 else
  bif (roomB ((List.length ([] : List (Int))) + (List.length l)) 1) then
   some ((([] : List (Int)) ++ l))
  else
   none
theorem slices_Clone_byte_byte_o_S (N : Nat) (l : List (Int)) : (runOwn Go.Proofs.Try.prog (Ev53 N) 400 33 [.lst (.int .u8) l] 5).run = slices_Clone_byte_byte_o N l := by kernel_rfl
theorem slices_Clone_byte_byte_o_n1 (N : Nat) (c : Nat) : (runOwn Go.Proofs.Try.prog (Ev53 N) 400 33 [.c (.slice none 0 c)] 5).run = some [] := by kernel_rfl
theorem slices_Clone_byte_byte_o_n2 (N : Nat) (A : Addr) (c : Nat) : (runOwn Go.Proofs.Try.prog (Ev53 N) 400 33 [.c (.slice (some A) 0 c)] 5).run = some [] := by kernel_rfl
theorem slices_Clone_byte_byte_o_F (N : Nat) (l : List (Int)) (h1 : l.isEmpty = false) (h2 : roomB l.length 1 = true) : slices_Clone_byte_byte_o N l = some l := by simp [slices_Clone_byte_byte_o, h1, h2]
noncomputable def Ev54 (N : Nat) : (R : Type) → Env R := Env.addCln (Ev53 N) 33 5
theorem Ev54_ok (N : Nat) (R : Type) : EnvOK Go.Proofs.Try.prog (Ev54 N R) := EnvOK.addCln (Ev53_ok N R) (cloneOK_of hmx (Ev53_ok N _) (by kernel_rfl) (slices_Clone_byte_byte_o_S N) (slices_Clone_byte_byte_o_F N) (slices_Clone_byte_byte_o_n1 N) (slices_Clone_byte_byte_o_n2 N))
noncomputable def Ev55 (N : Nat) : (R : Type) → Env R := Env.addMv (Ev54 N) [(10, 12)]
theorem Ev55_ok (N : Nat) (R : Type) : EnvOK Go.Proofs.Try.prog (Ev55 N R) := EnvOK.addMv (Ev54_ok N R) [(10, 12)]
noncomputable def ref19_All_L3_I : LI := ⟨60, 0, [(5, 46)], ⟨[(0, .ty (.sl (.int .u8))), (5, .lit (.own 0)), (6, .ty (.int .i64))], [.own (.pair .bool (.pair (.int .u16) (.pair (.sl (.pair (.int .u8) (.sl (.int .u8)))) (.sl (.int .u8))))) 46]⟩, [(.ret, ⟨[(2, .ty (.sl (.pair .bool (.pair (.int .u16) (.pair (.sl (.pair (.int .u8) (.sl (.int .u8)))) (.sl (.int .u8))))))), (3, .ty (.int .i64)), (4, .ty (.int .i64))], []⟩), (.exit 0, ⟨[(5, .lit (.own 0)), (6, .ty (.int .i64))], [.own (.pair .bool (.pair (.int .u16) (.pair (.sl (.pair (.int .u8) (.sl (.int .u8)))) (.sl (.int .u8))))) 46]⟩)]⟩
noncomputable def ref19_All_L3 (N : Nat) (X : (((List (Int)) × ((Int) × Unit)) × ((List ((Bool) × ((Int) × ((List ((Int) × (List (Int)))) × (List (Int)))))) × Unit)) → Option (((((List ((Bool) × ((Int) × ((List ((Int) × (List (Int)))) × (List (Int)))))) × ((Int) × ((Int) × Unit))) × Unit) ⊕ (((Int) × Unit) × ((List ((Bool) × ((Int) × ((List ((Int) × (List (Int)))) × (List (Int)))))) × Unit))))) (b0 : List (Int)) (x6 : Int) (h0 : List ((Bool) × ((Int) × ((List ((Int) × (List (Int)))) × (List (Int)))))) : Option (((((List ((Bool) × ((Int) × ((List ((Int) × (List (Int)))) × (List (Int)))))) × ((Int) × ((Int) × Unit))) × Unit) ⊕ (((Int) × Unit) × ((List ((Bool) × ((Int) × ((List ((Int) × (List (Int)))) × (List (Int)))))) × Unit)))) :=
 bif (decide ((4 : Int) ≤ (Go.IntKind.wrap .i64 ((((List.length b0) : Nat) : Int) - x6)))) then
  Option.bind (dropI b0 x6) fun (v5 : (List Int)) =>
  Option.bind (@ref18_Length N v5) fun (v6 : (Int × Int)) =>
  bif (!(decide (v6.2 = (0 : Int)))) then
   some ((.inl ((h0, (x6, (v6.2, @Unit.unit))), @Unit.unit)))
  else
   bif (decide ((Go.IntKind.wrap .i64 ((((List.length b0) : Nat) : Int) - x6)) < v6.1)) then
    some ((.inl ((h0, (x6, ((0 : Int), @Unit.unit))), @Unit.unit)))
   else
    Option.bind (subI b0 x6 (Go.IntKind.wrap .i64 (x6 + v6.1))) fun (v7 : (List Int)) =>
    Option.bind (@ref18_Parse N v7) fun (v8 : ((Bool × (Int × ((List (Int × (List Int))) × (List Int)))) × Int)) =>
    bif (!(decide (v8.2 = (0 : Int)))) then
     some ((.inl ((h0, (x6, (v8.2, @Unit.unit))), @Unit.unit)))
    else
     bif (roomB ((List.length h0) + (List.length ([(v8.1.1, (v8.1.2.1, (v8.1.2.2.1, v8.1.2.2.2)))] : List ((Bool × (Int × ((List (Int × (List Int))) × (List Int)))))))) 56) then
      (X ((b0, ((Go.IntKind.wrap .i64 (x6 + (@maxI v6.1 (1 : Int)))), @Unit.unit)), ((h0 ++ ([(v8.1.1, (v8.1.2.1, (v8.1.2.2.1, v8.1.2.2.2)))] : List ((Bool × (Int × ((List (Int × (List Int))) × (List Int))))))), @Unit.unit)))
     else
      none
 else
  some ((.inr ((x6, @Unit.unit), (h0, @Unit.unit))))
noncomputable def ref19_All_L3_R (N : Nat) (c : (((List (Int)) × ((Int) × Unit)) × ((List ((Bool) × ((Int) × ((List ((Int) × (List (Int)))) × (List (Int)))))) × Unit))) : Option (((((List ((Bool) × ((Int) × ((List ((Int) × (List (Int)))) × (List (Int)))))) × ((Int) × ((Int) × Unit))) × Unit) ⊕ (((Int) × Unit) × ((List ((Bool) × ((Int) × ((List ((Int) × (List (Int)))) × (List (Int)))))) × Unit)))) := gl (fun X c => ref19_All_L3 N X c.1.1 c.1.2.1 c.2.1) N c
theorem ref19_All_L3_S (N : Nat) (X : (((List (Int)) × ((Int) × Unit)) × ((List ((Bool) × ((Int) × ((List ((Int) × (List (Int)))) × (List (Int)))))) × Unit)) → Option (((((List ((Bool) × ((Int) × ((List ((Int) × (List (Int)))) × (List (Int)))))) × ((Int) × ((Int) × Unit))) × Unit) ⊕ (((Int) × Unit) × ((List ((Bool) × ((Int) × ((List ((Int) × (List (Int)))) × (List (Int)))))) × Unit))))) (b0 : List (Int)) (x6 : Int) (h0 : List ((Bool) × ((Int) × ((List ((Int) × (List (Int)))) × (List (Int)))))) : (roundK Go.Proofs.Try.prog (Ev55 N) 400 [10] ref19_All_L3_I (loopAt Go.Proofs.Try.prog [10] 3) X ((b0, x6, ()), (h0, ()))).run = ref19_All_L3 N X b0 x6 h0 := by kernel_rfl
noncomputable def Ev56 (N : Nat) : (R : Type) → Env R := Env.addLp (Ev55 N) [10] 0 3 (fun R => lpK Go.Proofs.Try.prog ref19_All_L3_I (fun X c => ref19_All_L3 N X c.1.1 c.1.2.1 c.2.1) N)
theorem Ev56_ok (N : Nat) (R : Type) : EnvOK Go.Proofs.Try.prog (Ev56 N R) := EnvOK.addLp (Ev55_ok N R) (by kernel_rfl) (lpK_ok (li := ref19_All_L3_I) (G := fun X c => ref19_All_L3 N X c.1.1 c.1.2.1 c.2.1) hmx (Ev55_ok N _) (by kernel_rfl) loopAt_sub (fun (X : CT ref19_All_L3_I.sh → Option (OT ref19_All_L3_I.outs)) (c : CT ref19_All_L3_I.sh) => ref19_All_L3_S N X c.1.1 c.1.2.1 c.2.1) N)
noncomputable def ref19_All (N : Nat) (b0 : List (Int)) : Option ((List ((Bool) × ((Int) × ((List ((Int) × (List (Int)))) × (List (Int)))))) × (Int) × Int) :=
 Option.bind (ref19_All_L3_R N ((b0, ((0 : Int), @Unit.unit)), (([] : List ((Bool × (Int × ((List (Int × (List Int))) × (List Int)))))), @Unit.unit))) fun (v2 : ((((List (Bool × (Int × ((List (Int × (List Int))) × (List Int))))) × (Int × (Int × Unit))) × Unit) ⊕ ((Int × Unit) × ((List (Bool × (Int × ((List (Int × (List Int))) × (List Int))))) × Unit)))) =>
 Sum.elim
  (fun (v3 : (((List (Bool × (Int × ((List (Int × (List Int))) × (List Int))))) × (Int × (Int × Unit))) × Unit)) =>
  some ((v3.1.1, (v3.1.2.1, v3.1.2.2.1))))
  (fun (v3 : ((Int × Unit) × ((List (Bool × (Int × ((List (Int × (List Int))) × (List Int))))) × Unit))) =>
  some ((v3.2.1, (v3.1.1, (0 : Int))))) v2
theorem ref19_All_S (N : Nat) (b0 : List (Int)) : (runK Go.Proofs.Try.prog (Ev56 N) 400 10 [(.sl (.int .u8))] [(.sl (.pair .bool (.pair (.int .u16) (.pair (.sl (.pair (.int .u8) (.sl (.int .u8)))) (.sl (.int .u8)))))), (.int .i64), (.int .i64)] (b0, ())).run = ref19_All N b0 := by kernel_rfl
theorem ref19_All_C (N : Nat) (b0 : List (Int)) (y : (List ((Bool) × ((Int) × ((List ((Int) × (List (Int)))) × (List (Int)))))) × (Int) × Int) (h : ref19_All N b0 = some y) : CallsK Go.Proofs.Try.prog 10 (valA [(.sl (.int .u8))] (b0, ())) (tupV (valR [(.sl (.pair .bool (.pair (.int .u16) (.pair (.sl (.pair (.int .u8) (.sl (.int .u8)))) (.sl (.int .u8)))))), (.int .i64), (.int .i64)] y)) := runK_ok hmx (Ev56_ok N _) (okFn_ok (by kernel_rfl)) (by rw [ref19_All_S]; exact h)
noncomputable def Ev57 (N : Nat) : (R : Type) → Env R := Env.addFn (Ev56 N) 10 (fun R => fnK [(.sl (.int .u8))] [(.sl (.pair .bool (.pair (.int .u16) (.pair (.sl (.pair (.int .u8) (.sl (.int .u8)))) (.sl (.int .u8)))))), (.int .i64), (.int .i64)] (fun c => ref19_All N c.1))
theorem Ev57_ok (N : Nat) (R : Type) : EnvOK Go.Proofs.Try.prog (Ev57 N R) := EnvOK.addFn hmx (Ev56_ok N R) (Ev56_ok N _) (by kernel_rfl) (fun c => ref19_All_S N c.1)
noncomputable def ref19_Wants (N : Nat) (rest0 : List (Int)) : Option (Int) :=
 bif (decide ((((List.length rest0) : Nat) : Int) < (4 : Int))) then
  some ((Go.IntKind.wrap .i64 ((4 : Int) - (((List.length rest0) : Nat) : Int))))
 else
  Option.bind (@ref18_Length N rest0) fun (v2 : (Int × Int)) =>
  some ((Go.IntKind.wrap .i64 (v2.1 - (((List.length rest0) : Nat) : Int))))
theorem ref19_Wants_S (N : Nat) (rest0 : List (Int)) : (runK Go.Proofs.Try.prog (Ev57 N) 400 12 [(.sl (.int .u8))] [(.int .i64)] (rest0, ())).run = ref19_Wants N rest0 := by kernel_rfl
theorem ref19_Wants_C (N : Nat) (rest0 : List (Int)) (y : Int) (h : ref19_Wants N rest0 = some y) : CallsK Go.Proofs.Try.prog 12 (valA [(.sl (.int .u8))] (rest0, ())) (tupV (valR [(.int .i64)] y)) := runK_ok hmx (Ev57_ok N _) (okFn_ok (by kernel_rfl)) (by rw [ref19_Wants_S]; exact h)
noncomputable def Ev58 (N : Nat) : (R : Type) → Env R := Env.addFn (Ev57 N) 12 (fun R => fnK [(.sl (.int .u8))] [(.int .i64)] (fun c => ref19_Wants N c.1))
theorem Ev58_ok (N : Nat) (R : Type) : EnvOK Go.Proofs.Try.prog (Ev58 N R) := EnvOK.addFn hmx (Ev57_ok N R) (Ev57_ok N _) (by kernel_rfl) (fun c => ref19_Wants_S N c.1)
noncomputable def Ev59 (N : Nat) : (R : Type) → Env R := Env.addMv (Ev58 N) [(18, 5)]
theorem Ev59_ok (N : Nat) (R : Type) : EnvOK Go.Proofs.Try.prog (Ev59 N R) := EnvOK.addMv (Ev58_ok N R) [(18, 5)]
noncomputable def Ev60 (N : Nat) : (R : Type) → Env R := Env.addBx (Ev59 N) [(18, 0)]
theorem Ev60_ok (N : Nat) (R : Type) : EnvOK Go.Proofs.Try.prog (Ev60 N R) := EnvOK.addBx (Ev59_ok N R) [(18, 0)]
noncomputable def law19_theirs_L3_I : LI := ⟨32, 0, [], ⟨[(2, .lit (.box 0 0)), (3, .lit (.box 1 0)), (14, .ty (.sl (.pair (.int .u8) (.sl (.int .u8))))), (15, .ty (.int .i64)), (16, .ty (.int .i64))], [.boxp 42 [.ty .bool, .ty (.int .u16), .own 2, .ty (.sl (.int .u8))], .boxp 42 [.ty .bool, .ty (.int .u16), .own 3, .ty (.sl (.int .u8))], .own (.pair (.int .u8) (.sl (.int .u8))) 67, .own (.pair (.int .u8) (.sl (.int .u8))) 67]⟩, [(.exit 0, ⟨[(2, .lit (.box 0 0)), (3, .lit (.box 1 0))], [.boxp 42 [.ty .bool, .ty (.int .u16), .own 2, .ty (.sl (.int .u8))], .boxp 42 [.ty .bool, .ty (.int .u16), .own 3, .ty (.sl (.int .u8))], .own (.pair (.int .u8) (.sl (.int .u8))) 67, .own (.pair (.int .u8) (.sl (.int .u8))) 67]⟩)]⟩
noncomputable def law19_theirs_L3 (N : Nat) (X : (((List ((Int) × (List (Int)))) × ((Int) × ((Int) × Unit))) × ((Bool) × ((Int) × ((List (Int)) × ((Bool) × ((Int) × ((List (Int)) × ((List ((Int) × (List (Int)))) × ((List ((Int) × (List (Int)))) × Unit))))))))) → Option ((Unit × ((Bool) × ((Int) × ((List (Int)) × ((Bool) × ((Int) × ((List (Int)) × ((List ((Int) × (List (Int)))) × ((List ((Int) × (List (Int)))) × Unit))))))))))) (x14 : List ((Int) × (List (Int)))) (x15 : Int) (x16 : Int) (h0 : Bool) (h1 : Int) (h2 : List (Int)) (h3 : Bool) (h4 : Int) (h5 : List (Int)) (h6 : List ((Int) × (List (Int)))) (h7 : List ((Int) × (List (Int)))) : Option ((Unit × ((Bool) × ((Int) × ((List (Int)) × ((Bool) × ((Int) × ((List (Int)) × ((List ((Int) × (List (Int)))) × ((List ((Int) × (List (Int)))) × Unit)))))))))) :=
 bif (decide (x16 < x15)) then
  Option.bind (getI x14 x16) fun (v13 : (Int × (List Int))) =>
  bif (roomB ((List.length h7) + (List.length ([(v13.1, v13.2)] : List ((Int × (List Int)))))) 32) then
   (X ((x14, (x15, ((Go.IntKind.wrap .i64 (x16 + (1 : Int))), @Unit.unit))), (h0, (h1, (h2, (h3, (h4, (h5, (h6, ((h7 ++ ([(v13.1, v13.2)] : List ((Int × (List Int))))), @Unit.unit))))))))))
  else
   none
 else
  some ((@Unit.unit, (h0, (h1, (h2, (h3, (h4, (h5, (h6, (h7, @Unit.unit))))))))))
noncomputable def law19_theirs_L3_R (N : Nat) (c : (((List ((Int) × (List (Int)))) × ((Int) × ((Int) × Unit))) × ((Bool) × ((Int) × ((List (Int)) × ((Bool) × ((Int) × ((List (Int)) × ((List ((Int) × (List (Int)))) × ((List ((Int) × (List (Int)))) × Unit)))))))))) : Option ((Unit × ((Bool) × ((Int) × ((List (Int)) × ((Bool) × ((Int) × ((List (Int)) × ((List ((Int) × (List (Int)))) × ((List ((Int) × (List (Int)))) × Unit)))))))))) := gl (fun X c => law19_theirs_L3 N X c.1.1 c.1.2.1 c.1.2.2.1 c.2.1 c.2.2.1 c.2.2.2.1 c.2.2.2.2.1 c.2.2.2.2.2.1 c.2.2.2.2.2.2.1 c.2.2.2.2.2.2.2.1 c.2.2.2.2.2.2.2.2.1) N c
theorem law19_theirs_L3_S (N : Nat) (X : (((List ((Int) × (List (Int)))) × ((Int) × ((Int) × Unit))) × ((Bool) × ((Int) × ((List (Int)) × ((Bool) × ((Int) × ((List (Int)) × ((List ((Int) × (List (Int)))) × ((List ((Int) × (List (Int)))) × Unit))))))))) → Option ((Unit × ((Bool) × ((Int) × ((List (Int)) × ((Bool) × ((Int) × ((List (Int)) × ((List ((Int) × (List (Int)))) × ((List ((Int) × (List (Int)))) × Unit))))))))))) (x14 : List ((Int) × (List (Int)))) (x15 : Int) (x16 : Int) (h0 : Bool) (h1 : Int) (h2 : List (Int)) (h3 : Bool) (h4 : Int) (h5 : List (Int)) (h6 : List ((Int) × (List (Int)))) (h7 : List ((Int) × (List (Int)))) : (roundK Go.Proofs.Try.prog (Ev60 N) 400 [18] law19_theirs_L3_I (loopAt Go.Proofs.Try.prog [18] 3) X ((x14, x15, x16, ()), (h0, h1, h2, h3, h4, h5, h6, h7, ()))).run = law19_theirs_L3 N X x14 x15 x16 h0 h1 h2 h3 h4 h5 h6 h7 := by kernel_rfl
noncomputable def Ev61 (N : Nat) : (R : Type) → Env R := Env.addLp (Ev60 N) [18] 0 3 (fun R => lpK Go.Proofs.Try.prog law19_theirs_L3_I (fun X c => law19_theirs_L3 N X c.1.1 c.1.2.1 c.1.2.2.1 c.2.1 c.2.2.1 c.2.2.2.1 c.2.2.2.2.1 c.2.2.2.2.2.1 c.2.2.2.2.2.2.1 c.2.2.2.2.2.2.2.1 c.2.2.2.2.2.2.2.2.1) N)
theorem Ev61_ok (N : Nat) (R : Type) : EnvOK Go.Proofs.Try.prog (Ev61 N R) := EnvOK.addLp (Ev60_ok N R) (by kernel_rfl) (lpK_ok (li := law19_theirs_L3_I) (G := fun X c => law19_theirs_L3 N X c.1.1 c.1.2.1 c.1.2.2.1 c.2.1 c.2.2.1 c.2.2.2.1 c.2.2.2.2.1 c.2.2.2.2.2.1 c.2.2.2.2.2.2.1 c.2.2.2.2.2.2.2.1 c.2.2.2.2.2.2.2.2.1) hmx (Ev60_ok N _) (by kernel_rfl) loopAt_sub (fun (X : CT law19_theirs_L3_I.sh → Option (OT law19_theirs_L3_I.outs)) (c : CT law19_theirs_L3_I.sh) => law19_theirs_L3_S N X c.1.1 c.1.2.1 c.1.2.2.1 c.2.1 c.2.2.1 c.2.2.2.1 c.2.2.2.2.1 c.2.2.2.2.2.1 c.2.2.2.2.2.2.1 c.2.2.2.2.2.2.2.1 c.2.2.2.2.2.2.2.2.1) N)
noncomputable def law19_theirs (N : Nat) (p0 : (Bool) × ((Int) × ((List ((Int) × (List (Int)))) × (List (Int))))) : Option ((Bool) × ((Int) × ((List ((Int) × (List (Int)))) × (List (Int))))) :=
 Option.bind (law19_theirs_L3_R N ((p0.2.2.1, ((((List.length p0.2.2.1) : Nat) : Int), ((0 : Int), @Unit.unit))), (@Bool.false, ((0 : Int), (([] : List (Int)), (p0.1, (p0.2.1, (p0.2.2.2, (([] : List ((Int × (List Int)))), (([] : List ((Int × (List Int)))), @Unit.unit)))))))))) fun (v2 : (Unit × (Bool × (Int × ((List Int) × (Bool × (Int × ((List Int) × ((List (Int × (List Int))) × ((List (Int × (List Int))) × Unit)))))))))) =>
 some (((v2.2.2.2).snd.1, ((v2.2.2.2).snd.2.1, (((v2.2.2.2).snd.2.2).snd.2.1, (v2.2.2.2).snd.2.2.1))))
theorem law19_theirs_S (N : Nat) (p0 : (Bool) × ((Int) × ((List ((Int) × (List (Int)))) × (List (Int))))) : (runK Go.Proofs.Try.prog (Ev61 N) 400 18 [(.pair .bool (.pair (.int .u16) (.pair (.sl (.pair (.int .u8) (.sl (.int .u8)))) (.sl (.int .u8)))))] [(.pair .bool (.pair (.int .u16) (.pair (.sl (.pair (.int .u8) (.sl (.int .u8)))) (.sl (.int .u8)))))] (p0, ())).run = law19_theirs N p0 := by kernel_rfl
theorem law19_theirs_C (N : Nat) (p0 : (Bool) × ((Int) × ((List ((Int) × (List (Int)))) × (List (Int))))) (y : (Bool) × ((Int) × ((List ((Int) × (List (Int)))) × (List (Int))))) (h : law19_theirs N p0 = some y) : CallsK Go.Proofs.Try.prog 18 (valA [(.pair .bool (.pair (.int .u16) (.pair (.sl (.pair (.int .u8) (.sl (.int .u8)))) (.sl (.int .u8)))))] (p0, ())) (tupV (valR [(.pair .bool (.pair (.int .u16) (.pair (.sl (.pair (.int .u8) (.sl (.int .u8)))) (.sl (.int .u8)))))] y)) := runK_ok hmx (Ev61_ok N _) (okFn_ok (by kernel_rfl)) (by rw [law19_theirs_S]; exact h)
noncomputable def Ev62 (N : Nat) : (R : Type) → Env R := Env.addFn (Ev61 N) 18 (fun R => fnK [(.pair .bool (.pair (.int .u16) (.pair (.sl (.pair (.int .u8) (.sl (.int .u8)))) (.sl (.int .u8)))))] [(.pair .bool (.pair (.int .u16) (.pair (.sl (.pair (.int .u8) (.sl (.int .u8)))) (.sl (.int .u8)))))] (fun c => law19_theirs N c.1))
theorem Ev62_ok (N : Nat) (R : Type) : EnvOK Go.Proofs.Try.prog (Ev62 N R) := EnvOK.addFn hmx (Ev61_ok N R) (Ev61_ok N _) (by kernel_rfl) (fun c => law19_theirs_S N c.1)
noncomputable def Ev63 (N : Nat) : (R : Type) → Env R := Env.addMv (Ev62 N) [(9, 9)]
theorem Ev63_ok (N : Nat) (R : Type) : EnvOK Go.Proofs.Try.prog (Ev63 N R) := EnvOK.addMv (Ev62_ok N R) [(9, 9)]
noncomputable def law19_cuts_L3_I : LI := ⟨39, 0, [(5, 22)], ⟨[(0, .ty (.sl (.int .u8))), (5, .lit (.own 0)), (13, .ty (.sl (.int .u16))), (14, .ty (.int .i64)), (15, .ty (.int .i64))], [.own (.sl (.int .u8)) 22]⟩, [(.exit 0, ⟨[(0, .ty (.sl (.int .u8))), (5, .lit (.own 0))], [.own (.sl (.int .u8)) 22]⟩)]⟩
noncomputable def law19_cuts_L3 (N : Nat) (X : (((List (Int)) × ((List (Int)) × ((Int) × ((Int) × Unit)))) × ((List (List (Int))) × Unit)) → Option ((((List (Int)) × Unit) × ((List (List (Int))) × Unit)))) (b0 : List (Int)) (x13 : List (Int)) (x14 : Int) (x15 : Int) (h0 : List (List (Int))) : Option ((((List (Int)) × Unit) × ((List (List (Int))) × Unit))) :=
 bif (decide (x15 < x14)) then
  Option.bind (getI x13 x15) fun (v7 : Int) =>
  bif (decide ((Go.IntKind.wrap .i64 ((((List.length b0) : Nat) : Int) + (1 : Int))) = (0 : Int))) then
   none
  else
   Option.bind (takeI b0 (@Int.tmod (Go.IntKind.wrap .i64 v7) (Go.IntKind.wrap .i64 ((((List.length b0) : Nat) : Int) + (1 : Int))))) fun (v8 : (List Int)) =>
   bif (roomB ((List.length h0) + (List.length ([v8] : List ((List Int))))) 24) then
    Option.bind (dropI b0 (@Int.tmod (Go.IntKind.wrap .i64 v7) (Go.IntKind.wrap .i64 ((((List.length b0) : Nat) : Int) + (1 : Int))))) fun (v9 : (List Int)) =>
    (X ((v9, (x13, (x14, ((Go.IntKind.wrap .i64 (x15 + (1 : Int))), @Unit.unit)))), ((h0 ++ ([v8] : List ((List Int)))), @Unit.unit)))
   else
    none
 else
  some (((b0, @Unit.unit), (h0, @Unit.unit)))
noncomputable def law19_cuts_L3_R (N : Nat) (c : (((List (Int)) × ((List (Int)) × ((Int) × ((Int) × Unit)))) × ((List (List (Int))) × Unit))) : Option ((((List (Int)) × Unit) × ((List (List (Int))) × Unit))) := gl (fun X c => law19_cuts_L3 N X c.1.1 c.1.2.1 c.1.2.2.1 c.1.2.2.2.1 c.2.1) N c
theorem law19_cuts_L3_S (N : Nat) (X : (((List (Int)) × ((List (Int)) × ((Int) × ((Int) × Unit)))) × ((List (List (Int))) × Unit)) → Option ((((List (Int)) × Unit) × ((List (List (Int))) × Unit)))) (b0 : List (Int)) (x13 : List (Int)) (x14 : Int) (x15 : Int) (h0 : List (List (Int))) : (roundK Go.Proofs.Try.prog (Ev63 N) 400 [9] law19_cuts_L3_I (loopAt Go.Proofs.Try.prog [9] 3) X ((b0, x13, x14, x15, ()), (h0, ()))).run = law19_cuts_L3 N X b0 x13 x14 x15 h0 := by kernel_rfl
noncomputable def Ev64 (N : Nat) : (R : Type) → Env R := Env.addLp (Ev63 N) [9] 0 3 (fun R => lpK Go.Proofs.Try.prog law19_cuts_L3_I (fun X c => law19_cuts_L3 N X c.1.1 c.1.2.1 c.1.2.2.1 c.1.2.2.2.1 c.2.1) N)
theorem Ev64_ok (N : Nat) (R : Type) : EnvOK Go.Proofs.Try.prog (Ev64 N R) := EnvOK.addLp (Ev63_ok N R) (by kernel_rfl) (lpK_ok (li := law19_cuts_L3_I) (G := fun X c => law19_cuts_L3 N X c.1.1 c.1.2.1 c.1.2.2.1 c.1.2.2.2.1 c.2.1) hmx (Ev63_ok N _) (by kernel_rfl) loopAt_sub (fun (X : CT law19_cuts_L3_I.sh → Option (OT law19_cuts_L3_I.outs)) (c : CT law19_cuts_L3_I.sh) => law19_cuts_L3_S N X c.1.1 c.1.2.1 c.1.2.2.1 c.1.2.2.2.1 c.2.1) N)
noncomputable def law19_cuts (N : Nat) (b0 : List (Int)) (x1 : List (Int)) : Option (List (List (Int))) :=
 Option.bind (takeI x1 (@minI (((List.length x1) : Nat) : Int) (20 : Int))) fun (v3 : (List Int)) =>
 Option.bind (law19_cuts_L3_R N ((b0, (v3, ((((List.length v3) : Nat) : Int), ((0 : Int), @Unit.unit)))), (([] : List ((List Int))), @Unit.unit))) fun (v4 : (((List Int) × Unit) × ((List (List Int)) × Unit))) =>
 bif (roomB ((List.length v4.2.1) + (List.length ([v4.1.1] : List ((List Int))))) 24) then
  some ((v4.2.1 ++ ([v4.1.1] : List ((List Int)))))
 else
  none
theorem law19_cuts_S (N : Nat) (b0 : List (Int)) (x1 : List (Int)) : (runK Go.Proofs.Try.prog (Ev64 N) 400 9 [(.sl (.int .u8)), (.sl (.int .u16))] [(.sl (.sl (.int .u8)))] (b0, x1, ())).run = law19_cuts N b0 x1 := by kernel_rfl
theorem law19_cuts_C (N : Nat) (b0 : List (Int)) (x1 : List (Int)) (y : List (List (Int))) (h : law19_cuts N b0 x1 = some y) : CallsK Go.Proofs.Try.prog 9 (valA [(.sl (.int .u8)), (.sl (.int .u16))] (b0, x1, ())) (tupV (valR [(.sl (.sl (.int .u8)))] y)) := runK_ok hmx (Ev64_ok N _) (okFn_ok (by kernel_rfl)) (by rw [law19_cuts_S]; exact h)
noncomputable def Ev65 (N : Nat) : (R : Type) → Env R := Env.addFn (Ev64 N) 9 (fun R => fnK [(.sl (.int .u8)), (.sl (.int .u16))] [(.sl (.sl (.int .u8)))] (fun c => law19_cuts N c.1 c.2.1))
theorem Ev65_ok (N : Nat) (R : Type) : EnvOK Go.Proofs.Try.prog (Ev65 N R) := EnvOK.addFn hmx (Ev64_ok N R) (Ev64_ok N _) (by kernel_rfl) (fun c => law19_cuts_S N c.1 c.2.1)
noncomputable def law19_alive_5_reframe_Stream_Write_L7_I : LI := ⟨97, 1, [(7, 42)], ⟨[(0, .lit (.box 0 0)), (6, .ty (.sl (.int .u8))), (7, .lit (.own 1))], [.boxp 49 [.ty .bool, .own 2, .ty (.int .i64), .ty (.int .i64), .ty (.int .i64)], .own (.pair .bool (.pair (.int .u16) (.pair (.sl (.pair (.int .u8) (.sl (.int .u8)))) (.sl (.int .u8))))) 42, .own (.int .u8) 5]⟩, [(.exit 0, ⟨[(0, .lit (.box 0 0)), (6, .ty (.sl (.int .u8))), (7, .lit (.own 1))], [.boxp 49 [.ty .bool, .own 2, .ty (.int .i64), .ty (.int .i64), .ty (.int .i64)], .own (.pair .bool (.pair (.int .u16) (.pair (.sl (.pair (.int .u8) (.sl (.int .u8)))) (.sl (.int .u8))))) 42, .own (.int .u8) 5]⟩), (.ret, ⟨[(4, .ty (.sl (.pair .bool (.pair (.int .u16) (.pair (.sl (.pair (.int .u8) (.sl (.int .u8)))) (.sl (.int .u8))))))), (5, .ty (.int .i64))], [.boxp 49 [.ty .bool, .nil, .ty (.int .i64), .ty (.int .i64), .ty (.int .i64)]]⟩)]⟩
noncomputable def law19_alive_5_reframe_Stream_Write_L7 (N : Nat) (X : (((List (Int)) × Unit) × ((Bool) × ((Int) × ((Int) × ((Int) × ((List ((Bool) × ((Int) × ((List ((Int) × (List (Int)))) × (List (Int)))))) × ((List (Int)) × Unit))))))) → Option (((((List (Int)) × Unit) × ((Bool) × ((Int) × ((Int) × ((Int) × ((List ((Bool) × ((Int) × ((List ((Int) × (List (Int)))) × (List (Int)))))) × ((List (Int)) × Unit))))))) ⊕ (((List ((Bool) × ((Int) × ((List ((Int) × (List (Int)))) × (List (Int)))))) × ((Int) × Unit)) × ((Bool) × ((Int) × ((Int) × ((Int) × Unit)))))))) (waits6 : List (Int)) (h0 : Bool) (h1 : Int) (h2 : Int) (h3 : Int) (h4 : List ((Bool) × ((Int) × ((List ((Int) × (List (Int)))) × (List (Int)))))) (h5 : List (Int)) : Option (((((List (Int)) × Unit) × ((Bool) × ((Int) × ((Int) × ((Int) × ((List ((Bool) × ((Int) × ((List ((Int) × (List (Int)))) × (List (Int)))))) × ((List (Int)) × Unit))))))) ⊕ (((List ((Bool) × ((Int) × ((List ((Int) × (List (Int)))) × (List (Int)))))) × ((Int) × Unit)) × ((Bool) × ((Int) × ((Int) × ((Int) × Unit))))))) :=
 Option.bind (@packet_Length N waits6) fun (v9 : (Int × Int)) =>
 bif (decide (v9.2 = (4 : Int))) then
  some ((.inl ((waits6, @Unit.unit), (h0, (h1, (h2, (h3, (h4, (h5, @Unit.unit)))))))))
 else
  bif (decide (v9.2 = (0 : Int))) then
   bif (@cond Bool @Bool.false @Bool.true (@cond Bool @Bool.true (decide ((((List.length waits6) : Nat) : Int) < v9.1)) @Bool.false)) then
    some ((.inl ((waits6, @Unit.unit), (h0, (h1, (h2, (h3, (h4, (h5, @Unit.unit)))))))))
   else
    bif (!(decide (v9.2 = (0 : Int)))) then
     some ((.inr ((h4, (v9.2, @Unit.unit)), (h0, (h1, (h2, (v9.2, @Unit.unit)))))))
    else
     Option.bind (takeI waits6 v9.1) fun (v10 : (List Int)) =>
     Option.bind (@packet_Parse N v10) fun (v11 : ((Bool × (Int × ((List (Int × (List Int))) × (List Int)))) × Int)) =>
     bif (!(decide (v11.2 = (0 : Int)))) then
      some ((.inr ((h4, (v11.2, @Unit.unit)), (h0, (h1, (h2, (v11.2, @Unit.unit)))))))
     else
      bif (roomB ((List.length h4) + (List.length ([(v11.1.1, (v11.1.2.1, (v11.1.2.2.1, v11.1.2.2.2)))] : List ((Bool × (Int × ((List (Int × (List Int))) × (List Int)))))))) 56) then
       Option.bind (dropI waits6 v9.1) fun (v12 : (List Int)) =>
       (X ((v12, @Unit.unit), (h0, ((Go.IntKind.wrap .i64 (h1 + (1 : Int))), ((Go.IntKind.wrap .i64 (h2 + v9.1)), (h3, ((h4 ++ ([(v11.1.1, (v11.1.2.1, (v11.1.2.2.1, v11.1.2.2.2)))] : List ((Bool × (Int × ((List (Int × (List Int))) × (List Int))))))), (h5, @Unit.unit))))))))
      else
       none
  else
   bif (!(decide (v9.2 = (0 : Int)))) then
    some ((.inr ((h4, (v9.2, @Unit.unit)), (h0, (h1, (h2, (v9.2, @Unit.unit)))))))
   else
    Option.bind (takeI waits6 v9.1) fun (v10 : (List Int)) =>
    Option.bind (@packet_Parse N v10) fun (v11 : ((Bool × (Int × ((List (Int × (List Int))) × (List Int)))) × Int)) =>
    bif (!(decide (v11.2 = (0 : Int)))) then
     some ((.inr ((h4, (v11.2, @Unit.unit)), (h0, (h1, (h2, (v11.2, @Unit.unit)))))))
    else
     bif (roomB ((List.length h4) + (List.length ([(v11.1.1, (v11.1.2.1, (v11.1.2.2.1, v11.1.2.2.2)))] : List ((Bool × (Int × ((List (Int × (List Int))) × (List Int)))))))) 56) then
      Option.bind (dropI waits6 v9.1) fun (v12 : (List Int)) =>
      (X ((v12, @Unit.unit), (h0, ((Go.IntKind.wrap .i64 (h1 + (1 : Int))), ((Go.IntKind.wrap .i64 (h2 + v9.1)), (h3, ((h4 ++ ([(v11.1.1, (v11.1.2.1, (v11.1.2.2.1, v11.1.2.2.2)))] : List ((Bool × (Int × ((List (Int × (List Int))) × (List Int))))))), (h5, @Unit.unit))))))))
     else
      none
noncomputable def law19_alive_5_reframe_Stream_Write_L7_R (N : Nat) (c : (((List (Int)) × Unit) × ((Bool) × ((Int) × ((Int) × ((Int) × ((List ((Bool) × ((Int) × ((List ((Int) × (List (Int)))) × (List (Int)))))) × ((List (Int)) × Unit)))))))) : Option (((((List (Int)) × Unit) × ((Bool) × ((Int) × ((Int) × ((Int) × ((List ((Bool) × ((Int) × ((List ((Int) × (List (Int)))) × (List (Int)))))) × ((List (Int)) × Unit))))))) ⊕ (((List ((Bool) × ((Int) × ((List ((Int) × (List (Int)))) × (List (Int)))))) × ((Int) × Unit)) × ((Bool) × ((Int) × ((Int) × ((Int) × Unit))))))) := gl (fun X c => law19_alive_5_reframe_Stream_Write_L7 N X c.1.1 c.2.1 c.2.2.1 c.2.2.2.1 c.2.2.2.2.1 c.2.2.2.2.2.1 c.2.2.2.2.2.2.1) N c
theorem law19_alive_5_reframe_Stream_Write_L7_S (N : Nat) (X : (((List (Int)) × Unit) × ((Bool) × ((Int) × ((Int) × ((Int) × ((List ((Bool) × ((Int) × ((List ((Int) × (List (Int)))) × (List (Int)))))) × ((List (Int)) × Unit))))))) → Option (((((List (Int)) × Unit) × ((Bool) × ((Int) × ((Int) × ((Int) × ((List ((Bool) × ((Int) × ((List ((Int) × (List (Int)))) × (List (Int)))))) × ((List (Int)) × Unit))))))) ⊕ (((List ((Bool) × ((Int) × ((List ((Int) × (List (Int)))) × (List (Int)))))) × ((Int) × Unit)) × ((Bool) × ((Int) × ((Int) × ((Int) × Unit)))))))) (waits6 : List (Int)) (h0 : Bool) (h1 : Int) (h2 : Int) (h3 : Int) (h4 : List ((Bool) × ((Int) × ((List ((Int) × (List (Int)))) × (List (Int)))))) (h5 : List (Int)) : (roundK Go.Proofs.Try.prog (Ev65 N) 400 [11, 5, 7] law19_alive_5_reframe_Stream_Write_L7_I (loopAt Go.Proofs.Try.prog [11, 5, 7] 7) X ((waits6, ()), (h0, h1, h2, h3, h4, h5, ()))).run = law19_alive_5_reframe_Stream_Write_L7 N X waits6 h0 h1 h2 h3 h4 h5 := by kernel_rfl
noncomputable def Ev66 (N : Nat) : (R : Type) → Env R := Env.addLp (Ev65 N) [11, 5, 7] 1 7 (fun R => lpK Go.Proofs.Try.prog law19_alive_5_reframe_Stream_Write_L7_I (fun X c => law19_alive_5_reframe_Stream_Write_L7 N X c.1.1 c.2.1 c.2.2.1 c.2.2.2.1 c.2.2.2.2.1 c.2.2.2.2.2.1 c.2.2.2.2.2.2.1) N)
theorem Ev66_ok (N : Nat) (R : Type) : EnvOK Go.Proofs.Try.prog (Ev66 N R) := EnvOK.addLp (Ev65_ok N R) (by kernel_rfl) (lpK_ok (li := law19_alive_5_reframe_Stream_Write_L7_I) (G := fun X c => law19_alive_5_reframe_Stream_Write_L7 N X c.1.1 c.2.1 c.2.2.1 c.2.2.2.1 c.2.2.2.2.1 c.2.2.2.2.2.1 c.2.2.2.2.2.2.1) hmx (Ev65_ok N _) (by kernel_rfl) loopAt_sub (fun (X : CT law19_alive_5_reframe_Stream_Write_L7_I.sh → Option (OT law19_alive_5_reframe_Stream_Write_L7_I.outs)) (c : CT law19_alive_5_reframe_Stream_Write_L7_I.sh) => law19_alive_5_reframe_Stream_Write_L7_S N X c.1.1 c.2.1 c.2.2.1 c.2.2.2.1 c.2.2.2.2.1 c.2.2.2.2.2.1 c.2.2.2.2.2.2.1) N)
noncomputable def law19_alive_7_reframe_Stream_Write_L7_I : LI := ⟨97, 4, [(7, 42)], ⟨[(0, .lit (.box 0 0)), (6, .ty (.sl (.int .u8))), (7, .lit (.own 4))], [.boxp 49 [.ty .bool, .own 3, .ty (.int .i64), .ty (.int .i64), .ty (.int .i64)], .own (.pair .bool (.pair (.int .u16) (.pair (.sl (.pair (.int .u8) (.sl (.int .u8)))) (.sl (.int .u8))))) 42, .own (.int .u8) 5, .dead, .own (.pair .bool (.pair (.int .u16) (.pair (.sl (.pair (.int .u8) (.sl (.int .u8)))) (.sl (.int .u8))))) 42]⟩, [(.exit 0, ⟨[(0, .lit (.box 0 0)), (6, .ty (.sl (.int .u8))), (7, .lit (.own 4))], [.boxp 49 [.ty .bool, .own 3, .ty (.int .i64), .ty (.int .i64), .ty (.int .i64)], .own (.pair .bool (.pair (.int .u16) (.pair (.sl (.pair (.int .u8) (.sl (.int .u8)))) (.sl (.int .u8))))) 42, .own (.int .u8) 5, .dead, .own (.pair .bool (.pair (.int .u16) (.pair (.sl (.pair (.int .u8) (.sl (.int .u8)))) (.sl (.int .u8))))) 42]⟩), (.ret, ⟨[(4, .ty (.sl (.pair .bool (.pair (.int .u16) (.pair (.sl (.pair (.int .u8) (.sl (.int .u8)))) (.sl (.int .u8))))))), (5, .ty (.int .i64))], [.boxp 49 [.ty .bool, .nil, .ty (.int .i64), .ty (.int .i64), .ty (.int .i64)], .own (.pair .bool (.pair (.int .u16) (.pair (.sl (.pair (.int .u8) (.sl (.int .u8)))) (.sl (.int .u8))))) 42, .own (.int .u8) 5, .dead]⟩)]⟩
noncomputable def law19_alive_7_reframe_Stream_Write_L7 (N : Nat) (X : (((List (Int)) × Unit) × ((Bool) × ((Int) × ((Int) × ((Int) × ((List ((Bool) × ((Int) × ((List ((Int) × (List (Int)))) × (List (Int)))))) × ((List (Int)) × ((List ((Bool) × ((Int) × ((List ((Int) × (List (Int)))) × (List (Int)))))) × Unit)))))))) → Option (((((List (Int)) × Unit) × ((Bool) × ((Int) × ((Int) × ((Int) × ((List ((Bool) × ((Int) × ((List ((Int) × (List (Int)))) × (List (Int)))))) × ((List (Int)) × ((List ((Bool) × ((Int) × ((List ((Int) × (List (Int)))) × (List (Int)))))) × Unit)))))))) ⊕ (((List ((Bool) × ((Int) × ((List ((Int) × (List (Int)))) × (List (Int)))))) × ((Int) × Unit)) × ((Bool) × ((Int) × ((Int) × ((Int) × ((List ((Bool) × ((Int) × ((List ((Int) × (List (Int)))) × (List (Int)))))) × ((List (Int)) × Unit)))))))))) (waits6 : List (Int)) (h0 : Bool) (h1 : Int) (h2 : Int) (h3 : Int) (h4 : List ((Bool) × ((Int) × ((List ((Int) × (List (Int)))) × (List (Int)))))) (h5 : List (Int)) (h6 : List ((Bool) × ((Int) × ((List ((Int) × (List (Int)))) × (List (Int)))))) : Option (((((List (Int)) × Unit) × ((Bool) × ((Int) × ((Int) × ((Int) × ((List ((Bool) × ((Int) × ((List ((Int) × (List (Int)))) × (List (Int)))))) × ((List (Int)) × ((List ((Bool) × ((Int) × ((List ((Int) × (List (Int)))) × (List (Int)))))) × Unit)))))))) ⊕ (((List ((Bool) × ((Int) × ((List ((Int) × (List (Int)))) × (List (Int)))))) × ((Int) × Unit)) × ((Bool) × ((Int) × ((Int) × ((Int) × ((List ((Bool) × ((Int) × ((List ((Int) × (List (Int)))) × (List (Int)))))) × ((List (Int)) × Unit))))))))) :=
 Option.bind (@packet_Length N waits6) fun (v10 : (Int × Int)) =>
 bif (decide (v10.2 = (4 : Int))) then
  some ((.inl ((waits6, @Unit.unit), (h0, (h1, (h2, (h3, (h4, (h5, (h6, @Unit.unit))))))))))
 else
  bif (decide (v10.2 = (0 : Int))) then
   bif (@cond Bool @Bool.false @Bool.true (@cond Bool @Bool.true (decide ((((List.length waits6) : Nat) : Int) < v10.1)) @Bool.false)) then
    some ((.inl ((waits6, @Unit.unit), (h0, (h1, (h2, (h3, (h4, (h5, (h6, @Unit.unit))))))))))
   else
    bif (!(decide (v10.2 = (0 : Int)))) then
     some ((.inr ((h6, (v10.2, @Unit.unit)), (h0, (h1, (h2, (v10.2, (h4, (h5, @Unit.unit)))))))))
    else
     Option.bind (takeI waits6 v10.1) fun (v11 : (List Int)) =>
     Option.bind (@packet_Parse N v11) fun (v12 : ((Bool × (Int × ((List (Int × (List Int))) × (List Int)))) × Int)) =>
     bif (!(decide (v12.2 = (0 : Int)))) then
      some ((.inr ((h6, (v12.2, @Unit.unit)), (h0, (h1, (h2, (v12.2, (h4, (h5, @Unit.unit)))))))))
     else
      bif (roomB ((List.length h6) + (List.length ([(v12.1.1, (v12.1.2.1, (v12.1.2.2.1, v12.1.2.2.2)))] : List ((Bool × (Int × ((List (Int × (List Int))) × (List Int)))))))) 56) then
       Option.bind (dropI waits6 v10.1) fun (v13 : (List Int)) =>
       (X ((v13, @Unit.unit), (h0, ((Go.IntKind.wrap .i64 (h1 + (1 : Int))), ((Go.IntKind.wrap .i64 (h2 + v10.1)), (h3, (h4, (h5, ((h6 ++ ([(v12.1.1, (v12.1.2.1, (v12.1.2.2.1, v12.1.2.2.2)))] : List ((Bool × (Int × ((List (Int × (List Int))) × (List Int))))))), @Unit.unit)))))))))
      else
       none
  else
   bif (!(decide (v10.2 = (0 : Int)))) then
    some ((.inr ((h6, (v10.2, @Unit.unit)), (h0, (h1, (h2, (v10.2, (h4, (h5, @Unit.unit)))))))))
   else
    Option.bind (takeI waits6 v10.1) fun (v11 : (List Int)) =>
    Option.bind (@packet_Parse N v11) fun (v12 : ((Bool × (Int × ((List (Int × (List Int))) × (List Int)))) × Int)) =>
    bif (!(decide (v12.2 = (0 : Int)))) then
     some ((.inr ((h6, (v12.2, @Unit.unit)), (h0, (h1, (h2, (v12.2, (h4, (h5, @Unit.unit)))))))))
    else
     bif (roomB ((List.length h6) + (List.length ([(v12.1.1, (v12.1.2.1, (v12.1.2.2.1, v12.1.2.2.2)))] : List ((Bool × (Int × ((List (Int × (List Int))) × (List Int)))))))) 56) then
      Option.bind (dropI waits6 v10.1) fun (v13 : (List Int)) =>
      (X ((v13, @Unit.unit), (h0, ((Go.IntKind.wrap .i64 (h1 + (1 : Int))), ((Go.IntKind.wrap .i64 (h2 + v10.1)), (h3, (h4, (h5, ((h6 ++ ([(v12.1.1, (v12.1.2.1, (v12.1.2.2.1, v12.1.2.2.2)))] : List ((Bool × (Int × ((List (Int × (List Int))) × (List Int))))))), @Unit.unit)))))))))
     else
      none
noncomputable def law19_alive_7_reframe_Stream_Write_L7_R (N : Nat) (c : (((List (Int)) × Unit) × ((Bool) × ((Int) × ((Int) × ((Int) × ((List ((Bool) × ((Int) × ((List ((Int) × (List (Int)))) × (List (Int)))))) × ((List (Int)) × ((List ((Bool) × ((Int) × ((List ((Int) × (List (Int)))) × (List (Int)))))) × Unit))))))))) : Option (((((List (Int)) × Unit) × ((Bool) × ((Int) × ((Int) × ((Int) × ((List ((Bool) × ((Int) × ((List ((Int) × (List (Int)))) × (List (Int)))))) × ((List (Int)) × ((List ((Bool) × ((Int) × ((List ((Int) × (List (Int)))) × (List (Int)))))) × Unit)))))))) ⊕ (((List ((Bool) × ((Int) × ((List ((Int) × (List (Int)))) × (List (Int)))))) × ((Int) × Unit)) × ((Bool) × ((Int) × ((Int) × ((Int) × ((List ((Bool) × ((Int) × ((List ((Int) × (List (Int)))) × (List (Int)))))) × ((List (Int)) × Unit))))))))) := gl (fun X c => law19_alive_7_reframe_Stream_Write_L7 N X c.1.1 c.2.1 c.2.2.1 c.2.2.2.1 c.2.2.2.2.1 c.2.2.2.2.2.1 c.2.2.2.2.2.2.1 c.2.2.2.2.2.2.2.1) N c
theorem law19_alive_7_reframe_Stream_Write_L7_S (N : Nat) (X : (((List (Int)) × Unit) × ((Bool) × ((Int) × ((Int) × ((Int) × ((List ((Bool) × ((Int) × ((List ((Int) × (List (Int)))) × (List (Int)))))) × ((List (Int)) × ((List ((Bool) × ((Int) × ((List ((Int) × (List (Int)))) × (List (Int)))))) × Unit)))))))) → Option (((((List (Int)) × Unit) × ((Bool) × ((Int) × ((Int) × ((Int) × ((List ((Bool) × ((Int) × ((List ((Int) × (List (Int)))) × (List (Int)))))) × ((List (Int)) × ((List ((Bool) × ((Int) × ((List ((Int) × (List (Int)))) × (List (Int)))))) × Unit)))))))) ⊕ (((List ((Bool) × ((Int) × ((List ((Int) × (List (Int)))) × (List (Int)))))) × ((Int) × Unit)) × ((Bool) × ((Int) × ((Int) × ((Int) × ((List ((Bool) × ((Int) × ((List ((Int) × (List (Int)))) × (List (Int)))))) × ((List (Int)) × Unit)))))))))) (waits6 : List (Int)) (h0 : Bool) (h1 : Int) (h2 : Int) (h3 : Int) (h4 : List ((Bool) × ((Int) × ((List ((Int) × (List (Int)))) × (List (Int)))))) (h5 : List (Int)) (h6 : List ((Bool) × ((Int) × ((List ((Int) × (List (Int)))) × (List (Int)))))) : (roundK Go.Proofs.Try.prog (Ev66 N) 400 [11, 7, 7] law19_alive_7_reframe_Stream_Write_L7_I (loopAt Go.Proofs.Try.prog [11, 7, 7] 7) X ((waits6, ()), (h0, h1, h2, h3, h4, h5, h6, ()))).run = law19_alive_7_reframe_Stream_Write_L7 N X waits6 h0 h1 h2 h3 h4 h5 h6 := by kernel_rfl
noncomputable def Ev67 (N : Nat) : (R : Type) → Env R := Env.addLp (Ev66 N) [11, 7, 7] 4 7 (fun R => lpK Go.Proofs.Try.prog law19_alive_7_reframe_Stream_Write_L7_I (fun X c => law19_alive_7_reframe_Stream_Write_L7 N X c.1.1 c.2.1 c.2.2.1 c.2.2.2.1 c.2.2.2.2.1 c.2.2.2.2.2.1 c.2.2.2.2.2.2.1 c.2.2.2.2.2.2.2.1) N)
theorem Ev67_ok (N : Nat) (R : Type) : EnvOK Go.Proofs.Try.prog (Ev67 N R) := EnvOK.addLp (Ev66_ok N R) (by kernel_rfl) (lpK_ok (li := law19_alive_7_reframe_Stream_Write_L7_I) (G := fun X c => law19_alive_7_reframe_Stream_Write_L7 N X c.1.1 c.2.1 c.2.2.1 c.2.2.2.1 c.2.2.2.2.1 c.2.2.2.2.2.1 c.2.2.2.2.2.2.1 c.2.2.2.2.2.2.2.1) hmx (Ev66_ok N _) (by kernel_rfl) loopAt_sub (fun (X : CT law19_alive_7_reframe_Stream_Write_L7_I.sh → Option (OT law19_alive_7_reframe_Stream_Write_L7_I.outs)) (c : CT law19_alive_7_reframe_Stream_Write_L7_I.sh) => law19_alive_7_reframe_Stream_Write_L7_S N X c.1.1 c.2.1 c.2.2.1 c.2.2.2.1 c.2.2.2.2.1 c.2.2.2.2.2.1 c.2.2.2.2.2.2.1 c.2.2.2.2.2.2.2.1) N)
noncomputable def law19_alive_7_reframe_Stream_Write_L7_2_I : LI := ⟨97, 1, [(7, 42)], ⟨[(0, .lit (.box 0 0)), (6, .ty (.sl (.int .u8))), (7, .lit (.own 1))], [.boxp 49 [.ty .bool, .own 2, .ty (.int .i64), .ty (.int .i64), .ty (.int .i64)], .own (.pair .bool (.pair (.int .u16) (.pair (.sl (.pair (.int .u8) (.sl (.int .u8)))) (.sl (.int .u8))))) 42, .own (.int .u8) 5]⟩, [(.exit 0, ⟨[(0, .lit (.box 0 0)), (6, .ty (.sl (.int .u8))), (7, .lit (.own 1))], [.boxp 49 [.ty .bool, .own 2, .ty (.int .i64), .ty (.int .i64), .ty (.int .i64)], .own (.pair .bool (.pair (.int .u16) (.pair (.sl (.pair (.int .u8) (.sl (.int .u8)))) (.sl (.int .u8))))) 42, .own (.int .u8) 5]⟩), (.ret, ⟨[(4, .ty (.sl (.pair .bool (.pair (.int .u16) (.pair (.sl (.pair (.int .u8) (.sl (.int .u8)))) (.sl (.int .u8))))))), (5, .ty (.int .i64))], [.boxp 49 [.ty .bool, .nil, .ty (.int .i64), .ty (.int .i64), .ty (.int .i64)]]⟩)]⟩
noncomputable def law19_alive_7_reframe_Stream_Write_L7_2 (N : Nat) (X : (((List (Int)) × Unit) × ((Bool) × ((Int) × ((Int) × ((Int) × ((List ((Bool) × ((Int) × ((List ((Int) × (List (Int)))) × (List (Int)))))) × ((List (Int)) × Unit))))))) → Option (((((List (Int)) × Unit) × ((Bool) × ((Int) × ((Int) × ((Int) × ((List ((Bool) × ((Int) × ((List ((Int) × (List (Int)))) × (List (Int)))))) × ((List (Int)) × Unit))))))) ⊕ (((List ((Bool) × ((Int) × ((List ((Int) × (List (Int)))) × (List (Int)))))) × ((Int) × Unit)) × ((Bool) × ((Int) × ((Int) × ((Int) × Unit)))))))) (waits6 : List (Int)) (h0 : Bool) (h1 : Int) (h2 : Int) (h3 : Int) (h4 : List ((Bool) × ((Int) × ((List ((Int) × (List (Int)))) × (List (Int)))))) (h5 : List (Int)) : Option (((((List (Int)) × Unit) × ((Bool) × ((Int) × ((Int) × ((Int) × ((List ((Bool) × ((Int) × ((List ((Int) × (List (Int)))) × (List (Int)))))) × ((List (Int)) × Unit))))))) ⊕ (((List ((Bool) × ((Int) × ((List ((Int) × (List (Int)))) × (List (Int)))))) × ((Int) × Unit)) × ((Bool) × ((Int) × ((Int) × ((Int) × Unit))))))) :=
 Option.bind (@packet_Length N waits6) fun (v9 : (Int × Int)) =>
 bif (decide (v9.2 = (4 : Int))) then
  some ((.inl ((waits6, @Unit.unit), (h0, (h1, (h2, (h3, (h4, (h5, @Unit.unit)))))))))
 else
  bif (decide (v9.2 = (0 : Int))) then
   bif (@cond Bool @Bool.false @Bool.true (@cond Bool @Bool.true (decide ((((List.length waits6) : Nat) : Int) < v9.1)) @Bool.false)) then
    some ((.inl ((waits6, @Unit.unit), (h0, (h1, (h2, (h3, (h4, (h5, @Unit.unit)))))))))
   else
    bif (!(decide (v9.2 = (0 : Int)))) then
     some ((.inr ((h4, (v9.2, @Unit.unit)), (h0, (h1, (h2, (v9.2, @Unit.unit)))))))
    else
     Option.bind (takeI waits6 v9.1) fun (v10 : (List Int)) =>
     Option.bind (@packet_Parse N v10) fun (v11 : ((Bool × (Int × ((List (Int × (List Int))) × (List Int)))) × Int)) =>
     bif (!(decide (v11.2 = (0 : Int)))) then
      some ((.inr ((h4, (v11.2, @Unit.unit)), (h0, (h1, (h2, (v11.2, @Unit.unit)))))))
     else
      bif (roomB ((List.length h4) + (List.length ([(v11.1.1, (v11.1.2.1, (v11.1.2.2.1, v11.1.2.2.2)))] : List ((Bool × (Int × ((List (Int × (List Int))) × (List Int)))))))) 56) then
       Option.bind (dropI waits6 v9.1) fun (v12 : (List Int)) =>
       (X ((v12, @Unit.unit), (h0, ((Go.IntKind.wrap .i64 (h1 + (1 : Int))), ((Go.IntKind.wrap .i64 (h2 + v9.1)), (h3, ((h4 ++ ([(v11.1.1, (v11.1.2.1, (v11.1.2.2.1, v11.1.2.2.2)))] : List ((Bool × (Int × ((List (Int × (List Int))) × (List Int))))))), (h5, @Unit.unit))))))))
      else
       none
  else
   bif (!(decide (v9.2 = (0 : Int)))) then
    some ((.inr ((h4, (v9.2, @Unit.unit)), (h0, (h1, (h2, (v9.2, @Unit.unit)))))))
   else
    Option.bind (takeI waits6 v9.1) fun (v10 : (List Int)) =>
    Option.bind (@packet_Parse N v10) fun (v11 : ((Bool × (Int × ((List (Int × (List Int))) × (List Int)))) × Int)) =>
    bif (!(decide (v11.2 = (0 : Int)))) then
     some ((.inr ((h4, (v11.2, @Unit.unit)), (h0, (h1, (h2, (v11.2, @Unit.unit)))))))
    else
     bif (roomB ((List.length h4) + (List.length ([(v11.1.1, (v11.1.2.1, (v11.1.2.2.1, v11.1.2.2.2)))] : List ((Bool × (Int × ((List (Int × (List Int))) × (List Int)))))))) 56) then
      Option.bind (dropI waits6 v9.1) fun (v12 : (List Int)) =>
      (X ((v12, @Unit.unit), (h0, ((Go.IntKind.wrap .i64 (h1 + (1 : Int))), ((Go.IntKind.wrap .i64 (h2 + v9.1)), (h3, ((h4 ++ ([(v11.1.1, (v11.1.2.1, (v11.1.2.2.1, v11.1.2.2.2)))] : List ((Bool × (Int × ((List (Int × (List Int))) × (List Int))))))), (h5, @Unit.unit))))))))
     else
      none
noncomputable def law19_alive_7_reframe_Stream_Write_L7_2_R (N : Nat) (c : (((List (Int)) × Unit) × ((Bool) × ((Int) × ((Int) × ((Int) × ((List ((Bool) × ((Int) × ((List ((Int) × (List (Int)))) × (List (Int)))))) × ((List (Int)) × Unit)))))))) : Option (((((List (Int)) × Unit) × ((Bool) × ((Int) × ((Int) × ((Int) × ((List ((Bool) × ((Int) × ((List ((Int) × (List (Int)))) × (List (Int)))))) × ((List (Int)) × Unit))))))) ⊕ (((List ((Bool) × ((Int) × ((List ((Int) × (List (Int)))) × (List (Int)))))) × ((Int) × Unit)) × ((Bool) × ((Int) × ((Int) × ((Int) × Unit))))))) := gl (fun X c => law19_alive_7_reframe_Stream_Write_L7_2 N X c.1.1 c.2.1 c.2.2.1 c.2.2.2.1 c.2.2.2.2.1 c.2.2.2.2.2.1 c.2.2.2.2.2.2.1) N c
theorem law19_alive_7_reframe_Stream_Write_L7_2_S (N : Nat) (X : (((List (Int)) × Unit) × ((Bool) × ((Int) × ((Int) × ((Int) × ((List ((Bool) × ((Int) × ((List ((Int) × (List (Int)))) × (List (Int)))))) × ((List (Int)) × Unit))))))) → Option (((((List (Int)) × Unit) × ((Bool) × ((Int) × ((Int) × ((Int) × ((List ((Bool) × ((Int) × ((List ((Int) × (List (Int)))) × (List (Int)))))) × ((List (Int)) × Unit))))))) ⊕ (((List ((Bool) × ((Int) × ((List ((Int) × (List (Int)))) × (List (Int)))))) × ((Int) × Unit)) × ((Bool) × ((Int) × ((Int) × ((Int) × Unit)))))))) (waits6 : List (Int)) (h0 : Bool) (h1 : Int) (h2 : Int) (h3 : Int) (h4 : List ((Bool) × ((Int) × ((List ((Int) × (List (Int)))) × (List (Int)))))) (h5 : List (Int)) : (roundK Go.Proofs.Try.prog (Ev67 N) 400 [11, 7, 7] law19_alive_7_reframe_Stream_Write_L7_2_I (loopAt Go.Proofs.Try.prog [11, 7, 7] 7) X ((waits6, ()), (h0, h1, h2, h3, h4, h5, ()))).run = law19_alive_7_reframe_Stream_Write_L7_2 N X waits6 h0 h1 h2 h3 h4 h5 := by kernel_rfl
noncomputable def Ev68 (N : Nat) : (R : Type) → Env R := Env.addLp (Ev67 N) [11, 7, 7] 1 7 (fun R => lpK Go.Proofs.Try.prog law19_alive_7_reframe_Stream_Write_L7_2_I (fun X c => law19_alive_7_reframe_Stream_Write_L7_2 N X c.1.1 c.2.1 c.2.2.1 c.2.2.2.1 c.2.2.2.2.1 c.2.2.2.2.2.1 c.2.2.2.2.2.2.1) N)
theorem Ev68_ok (N : Nat) (R : Type) : EnvOK Go.Proofs.Try.prog (Ev68 N R) := EnvOK.addLp (Ev67_ok N R) (by kernel_rfl) (lpK_ok (li := law19_alive_7_reframe_Stream_Write_L7_2_I) (G := fun X c => law19_alive_7_reframe_Stream_Write_L7_2 N X c.1.1 c.2.1 c.2.2.1 c.2.2.2.1 c.2.2.2.2.1 c.2.2.2.2.2.1 c.2.2.2.2.2.2.1) hmx (Ev67_ok N _) (by kernel_rfl) loopAt_sub (fun (X : CT law19_alive_7_reframe_Stream_Write_L7_2_I.sh → Option (OT law19_alive_7_reframe_Stream_Write_L7_2_I.outs)) (c : CT law19_alive_7_reframe_Stream_Write_L7_2_I.sh) => law19_alive_7_reframe_Stream_Write_L7_2_S N X c.1.1 c.2.1 c.2.2.1 c.2.2.2.1 c.2.2.2.2.1 c.2.2.2.2.2.1 c.2.2.2.2.2.2.1) N)
noncomputable def law19_alive (N : Nat) : Option (Bool) :=
 (runK Go.Proofs.Try.prog (Ev68 N) 400 7 [] [.bool] ()).run
theorem law19_alive_S (N : Nat) : (runK Go.Proofs.Try.prog (Ev68 N) 400 7 [] [.bool] ()).run = law19_alive N  := by kernel_rfl
theorem law19_alive_C (N : Nat) (y : Bool) (h : law19_alive N  = some y) : CallsK Go.Proofs.Try.prog 7 (valA [] ()) (tupV (valR [.bool] y)) := runK_ok hmx (Ev68_ok N _) (okFn_ok (by kernel_rfl)) (by rw [law19_alive_S]; exact h)
noncomputable def Ev69 (N : Nat) : (R : Type) → Env R := Env.addFn (Ev68 N) 7 (fun R => fnK [] [.bool] (fun c => law19_alive N ))
theorem Ev69_ok (N : Nat) (R : Type) : EnvOK Go.Proofs.Try.prog (Ev69 N R) := EnvOK.addFn hmx (Ev68_ok N R) (Ev68_ok N _) (by kernel_rfl) (fun c => law19_alive_S N )
noncomputable def law19_ReframeWrites_L23_I : LI := ⟨133, 0, [], ⟨[(0, .ty (.sl (.int .u8))), (5, .lit (.box 0 0)), (6, .ty (.int .i64)), (7, .ty (.int .i64)), (8, .ty (.int .i64)), (11, .ty (.sl (.pair .bool (.pair (.int .u16) (.pair (.sl (.pair (.int .u8) (.sl (.int .u8)))) (.sl (.int .u8))))))), (14, .ty (.sl (.pair .bool (.pair (.int .u16) (.pair (.sl (.pair (.int .u8) (.sl (.int .u8)))) (.sl (.int .u8))))))), (28, .ty (.sl (.sl (.int .u8)))), (29, .ty (.int .i64)), (30, .ty (.int .i64)), (111, .ty (.int .i64)), (112, .ty (.int .i64))], [.boxp 49 [.ty .bool, .own 1, .ty (.int .i64), .ty (.int .i64), .ty (.int .i64)], .own (.int .u8) 5]⟩, [(.ret, ⟨[(4, .ty .bool)], []⟩), (.exit 2, ⟨[(0, .ty (.sl (.int .u8))), (5, .lit (.box 0 0)), (6, .ty (.int .i64)), (8, .ty (.int .i64)), (11, .ty (.sl (.pair .bool (.pair (.int .u16) (.pair (.sl (.pair (.int .u8) (.sl (.int .u8)))) (.sl (.int .u8))))))), (28, .ty (.sl (.sl (.int .u8)))), (29, .ty (.int .i64)), (30, .ty (.int .i64))], [.boxp 49 [.ty .bool, .own 1, .ty (.int .i64), .ty (.int .i64), .ty (.int .i64)], .own (.int .u8) 5]⟩)]⟩
noncomputable def law19_ReframeWrites_L23 (N : Nat) (X : (((List (Int)) × ((Int) × ((Int) × ((Int) × ((List ((Bool) × ((Int) × ((List ((Int) × (List (Int)))) × (List (Int)))))) × ((List ((Bool) × ((Int) × ((List ((Int) × (List (Int)))) × (List (Int)))))) × ((List (List (Int))) × ((Int) × ((Int) × ((Int) × ((Int) × Unit))))))))))) × ((Bool) × ((Int) × ((Int) × ((Int) × ((List (Int)) × Unit)))))) → Option (((((Bool) × Unit) × Unit) ⊕ (((List (Int)) × ((Int) × ((Int) × ((List ((Bool) × ((Int) × ((List ((Int) × (List (Int)))) × (List (Int)))))) × ((List (List (Int))) × ((Int) × ((Int) × Unit))))))) × ((Bool) × ((Int) × ((Int) × ((Int) × ((List (Int)) × Unit))))))))) (b0 : List (Int)) (n6 : Int) (told7 : Int) (broken8 : Int) (all11 : List ((Bool) × ((Int) × ((List ((Int) × (List (Int)))) × (List (Int)))))) (l14 : List ((Bool) × ((Int) × ((List ((Int) × (List (Int)))) × (List (Int)))))) (x28 : List (List (Int))) (x29 : Int) (x30 : Int) (x111 : Int) (x112 : Int) (h0 : Bool) (h1 : Int) (h2 : Int) (h3 : Int) (h4 : List (Int)) : Option (((((Bool) × Unit) × Unit) ⊕ (((List (Int)) × ((Int) × ((Int) × ((List ((Bool) × ((Int) × ((List ((Int) × (List (Int)))) × (List (Int)))))) × ((List (List (Int))) × ((Int) × ((Int) × Unit))))))) × ((Bool) × ((Int) × ((Int) × ((Int) × ((List (Int)) × Unit)))))))) :=
 bif (decide (x112 < x111)) then
  Option.bind (getI l14 x112) fun (v18 : (Bool × (Int × ((List (Int × (List Int))) × (List Int))))) =>
  Option.bind (getI all11 (Go.IntKind.wrap .i64 (told7 + x112))) fun (v19 : (Bool × (Int × ((List (Int × (List Int))) × (List Int))))) =>
  Option.bind (@law19_theirs N (v19.1, (v19.2.1, (v19.2.2.1, v19.2.2.2)))) fun (v20 : (Bool × (Int × ((List (Int × (List Int))) × (List Int))))) =>
  Option.bind (@packet_Same N (v18.1, (v18.2.1, (v18.2.2.1, v18.2.2.2))) (v20.1, (v20.2.1, (v20.2.2.1, v20.2.2.2)))) fun (v21 : Bool) =>
  bif (!v21) then
   some ((.inl ((@Bool.false, @Unit.unit), @Unit.unit)))
  else
   (X ((b0, (n6, (told7, (broken8, (all11, (l14, (x28, (x29, (x30, (x111, ((Go.IntKind.wrap .i64 (x112 + (1 : Int))), @Unit.unit))))))))))), (h0, (h1, (h2, (h3, (h4, @Unit.unit)))))))
 else
  some ((.inr ((b0, (n6, (broken8, (all11, (x28, (x29, (x30, @Unit.unit))))))), (h0, (h1, (h2, (h3, (h4, @Unit.unit))))))))
noncomputable def law19_ReframeWrites_L23_R (N : Nat) (c : (((List (Int)) × ((Int) × ((Int) × ((Int) × ((List ((Bool) × ((Int) × ((List ((Int) × (List (Int)))) × (List (Int)))))) × ((List ((Bool) × ((Int) × ((List ((Int) × (List (Int)))) × (List (Int)))))) × ((List (List (Int))) × ((Int) × ((Int) × ((Int) × ((Int) × Unit))))))))))) × ((Bool) × ((Int) × ((Int) × ((Int) × ((List (Int)) × Unit))))))) : Option (((((Bool) × Unit) × Unit) ⊕ (((List (Int)) × ((Int) × ((Int) × ((List ((Bool) × ((Int) × ((List ((Int) × (List (Int)))) × (List (Int)))))) × ((List (List (Int))) × ((Int) × ((Int) × Unit))))))) × ((Bool) × ((Int) × ((Int) × ((Int) × ((List (Int)) × Unit)))))))) := gl (fun X c => law19_ReframeWrites_L23 N X c.1.1 c.1.2.1 c.1.2.2.1 c.1.2.2.2.1 c.1.2.2.2.2.1 c.1.2.2.2.2.2.1 c.1.2.2.2.2.2.2.1 c.1.2.2.2.2.2.2.2.1 c.1.2.2.2.2.2.2.2.2.1 c.1.2.2.2.2.2.2.2.2.2.1 c.1.2.2.2.2.2.2.2.2.2.2.1 c.2.1 c.2.2.1 c.2.2.2.1 c.2.2.2.2.1 c.2.2.2.2.2.1) N c
theorem law19_ReframeWrites_L23_S (N : Nat) (X : (((List (Int)) × ((Int) × ((Int) × ((Int) × ((List ((Bool) × ((Int) × ((List ((Int) × (List (Int)))) × (List (Int)))))) × ((List ((Bool) × ((Int) × ((List ((Int) × (List (Int)))) × (List (Int)))))) × ((List (List (Int))) × ((Int) × ((Int) × ((Int) × ((Int) × Unit))))))))))) × ((Bool) × ((Int) × ((Int) × ((Int) × ((List (Int)) × Unit)))))) → Option (((((Bool) × Unit) × Unit) ⊕ (((List (Int)) × ((Int) × ((Int) × ((List ((Bool) × ((Int) × ((List ((Int) × (List (Int)))) × (List (Int)))))) × ((List (List (Int))) × ((Int) × ((Int) × Unit))))))) × ((Bool) × ((Int) × ((Int) × ((Int) × ((List (Int)) × Unit))))))))) (b0 : List (Int)) (n6 : Int) (told7 : Int) (broken8 : Int) (all11 : List ((Bool) × ((Int) × ((List ((Int) × (List (Int)))) × (List (Int)))))) (l14 : List ((Bool) × ((Int) × ((List ((Int) × (List (Int)))) × (List (Int)))))) (x28 : List (List (Int))) (x29 : Int) (x30 : Int) (x111 : Int) (x112 : Int) (h0 : Bool) (h1 : Int) (h2 : Int) (h3 : Int) (h4 : List (Int)) : (roundK Go.Proofs.Try.prog (Ev69 N) 400 [3] law19_ReframeWrites_L23_I (loopAt Go.Proofs.Try.prog [3] 23) X ((b0, n6, told7, broken8, all11, l14, x28, x29, x30, x111, x112, ()), (h0, h1, h2, h3, h4, ()))).run = law19_ReframeWrites_L23 N X b0 n6 told7 broken8 all11 l14 x28 x29 x30 x111 x112 h0 h1 h2 h3 h4 := by kernel_rfl
noncomputable def Ev70 (N : Nat) : (R : Type) → Env R := Env.addLp (Ev69 N) [3] 0 23 (fun R => lpK Go.Proofs.Try.prog law19_ReframeWrites_L23_I (fun X c => law19_ReframeWrites_L23 N X c.1.1 c.1.2.1 c.1.2.2.1 c.1.2.2.2.1 c.1.2.2.2.2.1 c.1.2.2.2.2.2.1 c.1.2.2.2.2.2.2.1 c.1.2.2.2.2.2.2.2.1 c.1.2.2.2.2.2.2.2.2.1 c.1.2.2.2.2.2.2.2.2.2.1 c.1.2.2.2.2.2.2.2.2.2.2.1 c.2.1 c.2.2.1 c.2.2.2.1 c.2.2.2.2.1 c.2.2.2.2.2.1) N)
theorem Ev70_ok (N : Nat) (R : Type) : EnvOK Go.Proofs.Try.prog (Ev70 N R) := EnvOK.addLp (Ev69_ok N R) (by kernel_rfl) (lpK_ok (li := law19_ReframeWrites_L23_I) (G := fun X c => law19_ReframeWrites_L23 N X c.1.1 c.1.2.1 c.1.2.2.1 c.1.2.2.2.1 c.1.2.2.2.2.1 c.1.2.2.2.2.2.1 c.1.2.2.2.2.2.2.1 c.1.2.2.2.2.2.2.2.1 c.1.2.2.2.2.2.2.2.2.1 c.1.2.2.2.2.2.2.2.2.2.1 c.1.2.2.2.2.2.2.2.2.2.2.1 c.2.1 c.2.2.1 c.2.2.2.1 c.2.2.2.2.1 c.2.2.2.2.2.1) hmx (Ev69_ok N _) (by kernel_rfl) loopAt_sub (fun (X : CT law19_ReframeWrites_L23_I.sh → Option (OT law19_ReframeWrites_L23_I.outs)) (c : CT law19_ReframeWrites_L23_I.sh) => law19_ReframeWrites_L23_S N X c.1.1 c.1.2.1 c.1.2.2.1 c.1.2.2.2.1 c.1.2.2.2.2.1 c.1.2.2.2.2.2.1 c.1.2.2.2.2.2.2.1 c.1.2.2.2.2.2.2.2.1 c.1.2.2.2.2.2.2.2.2.1 c.1.2.2.2.2.2.2.2.2.2.1 c.1.2.2.2.2.2.2.2.2.2.2.1 c.2.1 c.2.2.1 c.2.2.2.1 c.2.2.2.2.1 c.2.2.2.2.2.1) N)
noncomputable def law19_ReframeWrites_12_reframe_Stream_Write_L7_I : LI := ⟨97, 2, [(7, 42)], ⟨[(0, .lit (.box 0 0)), (6, .ty (.sl (.int .u8))), (7, .lit (.own 2))], [.boxp 49 [.ty .bool, .own 1, .ty (.int .i64), .ty (.int .i64), .ty (.int .i64)], .dead, .own (.pair .bool (.pair (.int .u16) (.pair (.sl (.pair (.int .u8) (.sl (.int .u8)))) (.sl (.int .u8))))) 42]⟩, [(.exit 0, ⟨[(0, .lit (.box 0 0)), (6, .ty (.sl (.int .u8))), (7, .lit (.own 2))], [.boxp 49 [.ty .bool, .own 1, .ty (.int .i64), .ty (.int .i64), .ty (.int .i64)], .dead, .own (.pair .bool (.pair (.int .u16) (.pair (.sl (.pair (.int .u8) (.sl (.int .u8)))) (.sl (.int .u8))))) 42]⟩), (.ret, ⟨[(4, .ty (.sl (.pair .bool (.pair (.int .u16) (.pair (.sl (.pair (.int .u8) (.sl (.int .u8)))) (.sl (.int .u8))))))), (5, .ty (.int .i64))], [.boxp 49 [.ty .bool, .nil, .ty (.int .i64), .ty (.int .i64), .ty (.int .i64)], .dead]⟩)]⟩
noncomputable def law19_ReframeWrites_12_reframe_Stream_Write_L7 (N : Nat) (X : (((List (Int)) × Unit) × ((Bool) × ((Int) × ((Int) × ((Int) × ((List ((Bool) × ((Int) × ((List ((Int) × (List (Int)))) × (List (Int)))))) × Unit)))))) → Option (((((List (Int)) × Unit) × ((Bool) × ((Int) × ((Int) × ((Int) × ((List ((Bool) × ((Int) × ((List ((Int) × (List (Int)))) × (List (Int)))))) × Unit)))))) ⊕ (((List ((Bool) × ((Int) × ((List ((Int) × (List (Int)))) × (List (Int)))))) × ((Int) × Unit)) × ((Bool) × ((Int) × ((Int) × ((Int) × Unit)))))))) (waits6 : List (Int)) (h0 : Bool) (h1 : Int) (h2 : Int) (h3 : Int) (h4 : List ((Bool) × ((Int) × ((List ((Int) × (List (Int)))) × (List (Int)))))) : Option (((((List (Int)) × Unit) × ((Bool) × ((Int) × ((Int) × ((Int) × ((List ((Bool) × ((Int) × ((List ((Int) × (List (Int)))) × (List (Int)))))) × Unit)))))) ⊕ (((List ((Bool) × ((Int) × ((List ((Int) × (List (Int)))) × (List (Int)))))) × ((Int) × Unit)) × ((Bool) × ((Int) × ((Int) × ((Int) × Unit))))))) :=
 Option.bind (@packet_Length N waits6) fun (v8 : (Int × Int)) =>
 bif (decide (v8.2 = (4 : Int))) then
  some ((.inl ((waits6, @Unit.unit), (h0, (h1, (h2, (h3, (h4, @Unit.unit))))))))
 else
  bif (decide (v8.2 = (0 : Int))) then
   bif (@cond Bool @Bool.false @Bool.true (@cond Bool @Bool.true (decide ((((List.length waits6) : Nat) : Int) < v8.1)) @Bool.false)) then
    some ((.inl ((waits6, @Unit.unit), (h0, (h1, (h2, (h3, (h4, @Unit.unit))))))))
   else
    bif (!(decide (v8.2 = (0 : Int)))) then
     some ((.inr ((h4, (v8.2, @Unit.unit)), (h0, (h1, (h2, (v8.2, @Unit.unit)))))))
    else
     Option.bind (takeI waits6 v8.1) fun (v9 : (List Int)) =>
     Option.bind (@packet_Parse N v9) fun (v10 : ((Bool × (Int × ((List (Int × (List Int))) × (List Int)))) × Int)) =>
     bif (!(decide (v10.2 = (0 : Int)))) then
      some ((.inr ((h4, (v10.2, @Unit.unit)), (h0, (h1, (h2, (v10.2, @Unit.unit)))))))
     else
      bif (roomB ((List.length h4) + (List.length ([(v10.1.1, (v10.1.2.1, (v10.1.2.2.1, v10.1.2.2.2)))] : List ((Bool × (Int × ((List (Int × (List Int))) × (List Int)))))))) 56) then
       Option.bind (dropI waits6 v8.1) fun (v11 : (List Int)) =>
       (X ((v11, @Unit.unit), (h0, ((Go.IntKind.wrap .i64 (h1 + (1 : Int))), ((Go.IntKind.wrap .i64 (h2 + v8.1)), (h3, ((h4 ++ ([(v10.1.1, (v10.1.2.1, (v10.1.2.2.1, v10.1.2.2.2)))] : List ((Bool × (Int × ((List (Int × (List Int))) × (List Int))))))), @Unit.unit)))))))
      else
       none
  else
   bif (!(decide (v8.2 = (0 : Int)))) then
    some ((.inr ((h4, (v8.2, @Unit.unit)), (h0, (h1, (h2, (v8.2, @Unit.unit)))))))
   else
    Option.bind (takeI waits6 v8.1) fun (v9 : (List Int)) =>
    Option.bind (@packet_Parse N v9) fun (v10 : ((Bool × (Int × ((List (Int × (List Int))) × (List Int)))) × Int)) =>
    bif (!(decide (v10.2 = (0 : Int)))) then
     some ((.inr ((h4, (v10.2, @Unit.unit)), (h0, (h1, (h2, (v10.2, @Unit.unit)))))))
    else
     bif (roomB ((List.length h4) + (List.length ([(v10.1.1, (v10.1.2.1, (v10.1.2.2.1, v10.1.2.2.2)))] : List ((Bool × (Int × ((List (Int × (List Int))) × (List Int)))))))) 56) then
      Option.bind (dropI waits6 v8.1) fun (v11 : (List Int)) =>
      (X ((v11, @Unit.unit), (h0, ((Go.IntKind.wrap .i64 (h1 + (1 : Int))), ((Go.IntKind.wrap .i64 (h2 + v8.1)), (h3, ((h4 ++ ([(v10.1.1, (v10.1.2.1, (v10.1.2.2.1, v10.1.2.2.2)))] : List ((Bool × (Int × ((List (Int × (List Int))) × (List Int))))))), @Unit.unit)))))))
     else
      none
noncomputable def law19_ReframeWrites_12_reframe_Stream_Write_L7_R (N : Nat) (c : (((List (Int)) × Unit) × ((Bool) × ((Int) × ((Int) × ((Int) × ((List ((Bool) × ((Int) × ((List ((Int) × (List (Int)))) × (List (Int)))))) × Unit))))))) : Option (((((List (Int)) × Unit) × ((Bool) × ((Int) × ((Int) × ((Int) × ((List ((Bool) × ((Int) × ((List ((Int) × (List (Int)))) × (List (Int)))))) × Unit)))))) ⊕ (((List ((Bool) × ((Int) × ((List ((Int) × (List (Int)))) × (List (Int)))))) × ((Int) × Unit)) × ((Bool) × ((Int) × ((Int) × ((Int) × Unit))))))) := gl (fun X c => law19_ReframeWrites_12_reframe_Stream_Write_L7 N X c.1.1 c.2.1 c.2.2.1 c.2.2.2.1 c.2.2.2.2.1 c.2.2.2.2.2.1) N c
theorem law19_ReframeWrites_12_reframe_Stream_Write_L7_S (N : Nat) (X : (((List (Int)) × Unit) × ((Bool) × ((Int) × ((Int) × ((Int) × ((List ((Bool) × ((Int) × ((List ((Int) × (List (Int)))) × (List (Int)))))) × Unit)))))) → Option (((((List (Int)) × Unit) × ((Bool) × ((Int) × ((Int) × ((Int) × ((List ((Bool) × ((Int) × ((List ((Int) × (List (Int)))) × (List (Int)))))) × Unit)))))) ⊕ (((List ((Bool) × ((Int) × ((List ((Int) × (List (Int)))) × (List (Int)))))) × ((Int) × Unit)) × ((Bool) × ((Int) × ((Int) × ((Int) × Unit)))))))) (waits6 : List (Int)) (h0 : Bool) (h1 : Int) (h2 : Int) (h3 : Int) (h4 : List ((Bool) × ((Int) × ((List ((Int) × (List (Int)))) × (List (Int)))))) : (roundK Go.Proofs.Try.prog (Ev70 N) 400 [11, 12, 3] law19_ReframeWrites_12_reframe_Stream_Write_L7_I (loopAt Go.Proofs.Try.prog [11, 12, 3] 7) X ((waits6, ()), (h0, h1, h2, h3, h4, ()))).run = law19_ReframeWrites_12_reframe_Stream_Write_L7 N X waits6 h0 h1 h2 h3 h4 := by kernel_rfl
noncomputable def Ev71 (N : Nat) : (R : Type) → Env R := Env.addLp (Ev70 N) [11, 12, 3] 2 7 (fun R => lpK Go.Proofs.Try.prog law19_ReframeWrites_12_reframe_Stream_Write_L7_I (fun X c => law19_ReframeWrites_12_reframe_Stream_Write_L7 N X c.1.1 c.2.1 c.2.2.1 c.2.2.2.1 c.2.2.2.2.1 c.2.2.2.2.2.1) N)
theorem Ev71_ok (N : Nat) (R : Type) : EnvOK Go.Proofs.Try.prog (Ev71 N R) := EnvOK.addLp (Ev70_ok N R) (by kernel_rfl) (lpK_ok (li := law19_ReframeWrites_12_reframe_Stream_Write_L7_I) (G := fun X c => law19_ReframeWrites_12_reframe_Stream_Write_L7 N X c.1.1 c.2.1 c.2.2.1 c.2.2.2.1 c.2.2.2.2.1 c.2.2.2.2.2.1) hmx (Ev70_ok N _) (by kernel_rfl) loopAt_sub (fun (X : CT law19_ReframeWrites_12_reframe_Stream_Write_L7_I.sh → Option (OT law19_ReframeWrites_12_reframe_Stream_Write_L7_I.outs)) (c : CT law19_ReframeWrites_12_reframe_Stream_Write_L7_I.sh) => law19_ReframeWrites_12_reframe_Stream_Write_L7_S N X c.1.1 c.2.1 c.2.2.1 c.2.2.2.1 c.2.2.2.2.1 c.2.2.2.2.2.1) N)
noncomputable def law19_ReframeWrites_L8_I : LI := ⟨133, 0, [], ⟨[(0, .ty (.sl (.int .u8))), (5, .lit (.box 0 0)), (6, .ty (.int .i64)), (7, .ty (.int .i64)), (8, .ty (.int .i64)), (28, .ty (.sl (.sl (.int .u8)))), (29, .ty (.int .i64)), (30, .ty (.int .i64))], [.boxp 49 [.ty .bool, .own 1, .ty (.int .i64), .ty (.int .i64), .ty (.int .i64)], .own (.int .u8) 5]⟩, [(.ret, ⟨[(4, .ty .bool)], []⟩), (.exit 0, ⟨[], []⟩)]⟩
noncomputable def law19_ReframeWrites_L8 (N : Nat) (X : (((List (Int)) × ((Int) × ((Int) × ((Int) × ((List (List (Int))) × ((Int) × ((Int) × Unit))))))) × ((Bool) × ((Int) × ((Int) × ((Int) × ((List (Int)) × Unit)))))) → Option (((((Bool) × Unit) × Unit) ⊕ (Unit × Unit)))) (b0 : List (Int)) (n6 : Int) (told7 : Int) (broken8 : Int) (x28 : List (List (Int))) (x29 : Int) (x30 : Int) (h0 : Bool) (h1 : Int) (h2 : Int) (h3 : Int) (h4 : List (Int)) : Option (((((Bool) × Unit) × Unit) ⊕ (Unit × Unit))) :=
 bif (decide (x30 < x29)) then
  Option.bind (getI x28 x30) fun (v14 : (List Int)) =>
  Option.bind (takeI b0 (Go.IntKind.wrap .i64 (n6 + (((List.length v14) : Nat) : Int)))) fun (v15 : (List Int)) =>
  Option.bind (@ref19_All N v15) fun (v16 : ((List (Bool × (Int × ((List (Int × (List Int))) × (List Int))))) × (Int × Int))) =>
  bif (@cond Bool @Bool.false @Bool.true (!h0)) then
   bif (!(decide (broken8 = (0 : Int)))) then
    bif (@cond Bool @Bool.false @Bool.true (!(decide ((2 : Int) = broken8)))) then
     some ((.inl ((@Bool.false, @Unit.unit), @Unit.unit)))
    else
     (X ((b0, ((Go.IntKind.wrap .i64 (n6 + (((List.length v14) : Nat) : Int))), (told7, (broken8, (x28, (x29, ((Go.IntKind.wrap .i64 (x30 + (1 : Int))), @Unit.unit))))))), (h0, (h1, (h2, (h3, (h4, @Unit.unit)))))))
   else
    Option.bind (subI b0 v16.2.1 (Go.IntKind.wrap .i64 (n6 + (((List.length v14) : Nat) : Int)))) fun (v17 : (List Int)) =>
    Option.bind (@ref19_Wants N v17) fun (v18 : Int) =>
    bif (!(decide (v16.2.2 = (0 : Int)))) then
     bif (!(decide ((((List.length ([] : List ((Bool × (Int × ((List (Int × (List Int))) × (List Int))))))) : Nat) : Int) = (Go.IntKind.wrap .i64 ((((List.length v16.1) : Nat) : Int) - told7))))) then
      some ((.inl ((@Bool.false, @Unit.unit), @Unit.unit)))
     else
      bif (@cond Bool @Bool.false @Bool.true (!(decide ((2 : Int) = v16.2.2)))) then
       some ((.inl ((@Bool.false, @Unit.unit), @Unit.unit)))
      else
       bif (@cond Bool @Bool.false @Bool.true (!(decide (h2 = v16.2.1)))) then
        some ((.inl ((@Bool.false, @Unit.unit), @Unit.unit)))
       else
        bif (@cond Bool @Bool.false @Bool.true (!(decide (h1 = (((List.length v16.1) : Nat) : Int))))) then
         some ((.inl ((@Bool.false, @Unit.unit), @Unit.unit)))
        else
         bif (@cond Bool @Bool.false @Bool.true (!(decide ((((List.length h4) : Nat) : Int) = (0 : Int))))) then
          some ((.inl ((@Bool.false, @Unit.unit), @Unit.unit)))
         else
          bif (@cond Bool @Bool.false @Bool.true (!h0)) then
           Option.bind (law19_ReframeWrites_L23_R N ((b0, ((Go.IntKind.wrap .i64 (n6 + (((List.length v14) : Nat) : Int))), (told7, (v16.2.2, (v16.1, (([] : List ((Bool × (Int × ((List (Int × (List Int))) × (List Int)))))), (x28, (x29, (x30, ((((List.length ([] : List ((Bool × (Int × ((List (Int × (List Int))) × (List Int))))))) : Nat) : Int), ((0 : Int), @Unit.unit))))))))))), (h0, (h1, (h2, (h3, (h4, @Unit.unit))))))) fun (v19 : (((Bool × Unit) × Unit) ⊕ (((List Int) × (Int × (Int × ((List (Bool × (Int × ((List (Int × (List Int))) × (List Int))))) × ((List (List Int)) × (Int × (Int × Unit))))))) × (Bool × (Int × (Int × (Int × ((List Int) × Unit)))))))) =>
           Sum.elim
            (fun (v20 : ((Bool × Unit) × Unit)) =>
            some ((.inl ((v20.1.1, @Unit.unit), @Unit.unit))))
            (fun (v20 : (((List Int) × (Int × (Int × ((List (Bool × (Int × ((List (Int × (List Int))) × (List Int))))) × ((List (List Int)) × (Int × (Int × Unit))))))) × (Bool × (Int × (Int × (Int × ((List Int) × Unit))))))) =>
            (X ((v20.1.1, (v20.1.2.1, ((((List.length v20.1.2.2.2.1) : Nat) : Int), (v20.1.2.2.1, (v20.1.2.2.2.2.1, (v20.1.2.2.2.2.2.1, ((Go.IntKind.wrap .i64 (v20.1.2.2.2.2.2.2.1 + (1 : Int))), @Unit.unit))))))), (v20.2.1, (v20.2.2.1, (v20.2.2.2.1, (v20.2.2.2.2.1, ((v20.2.2.2.2).snd.1, @Unit.unit)))))))) v19
          else
           bif (@cond Bool @Bool.false @Bool.true (!(decide (h3 = (0 : Int))))) then
            Option.bind (law19_ReframeWrites_L23_R N ((b0, ((Go.IntKind.wrap .i64 (n6 + (((List.length v14) : Nat) : Int))), (told7, (v16.2.2, (v16.1, (([] : List ((Bool × (Int × ((List (Int × (List Int))) × (List Int)))))), (x28, (x29, (x30, ((((List.length ([] : List ((Bool × (Int × ((List (Int × (List Int))) × (List Int))))))) : Nat) : Int), ((0 : Int), @Unit.unit))))))))))), (h0, (h1, (h2, (h3, (h4, @Unit.unit))))))) fun (v19 : (((Bool × Unit) × Unit) ⊕ (((List Int) × (Int × (Int × ((List (Bool × (Int × ((List (Int × (List Int))) × (List Int))))) × ((List (List Int)) × (Int × (Int × Unit))))))) × (Bool × (Int × (Int × (Int × ((List Int) × Unit)))))))) =>
            Sum.elim
             (fun (v20 : ((Bool × Unit) × Unit)) =>
             some ((.inl ((v20.1.1, @Unit.unit), @Unit.unit))))
             (fun (v20 : (((List Int) × (Int × (Int × ((List (Bool × (Int × ((List (Int × (List Int))) × (List Int))))) × ((List (List Int)) × (Int × (Int × Unit))))))) × (Bool × (Int × (Int × (Int × ((List Int) × Unit))))))) =>
             (X ((v20.1.1, (v20.1.2.1, ((((List.length v20.1.2.2.2.1) : Nat) : Int), (v20.1.2.2.1, (v20.1.2.2.2.2.1, (v20.1.2.2.2.2.2.1, ((Go.IntKind.wrap .i64 (v20.1.2.2.2.2.2.2.1 + (1 : Int))), @Unit.unit))))))), (v20.2.1, (v20.2.2.1, (v20.2.2.2.1, (v20.2.2.2.2.1, ((v20.2.2.2.2).snd.1, @Unit.unit)))))))) v19
           else
            Option.bind (@packet_Length N h4) fun (v19 : (Int × Int)) =>
            bif (!(decide (v19.2 = (0 : Int)))) then
             bif (@cond Bool @Bool.false @Bool.true (!(decide ((Go.IntKind.wrap .i64 ((4 : Int) - (((List.length h4) : Nat) : Int))) = (0 : Int))))) then
              some ((.inl ((@Bool.false, @Unit.unit), @Unit.unit)))
             else
              Option.bind (law19_ReframeWrites_L23_R N ((b0, ((Go.IntKind.wrap .i64 (n6 + (((List.length v14) : Nat) : Int))), (told7, (v16.2.2, (v16.1, (([] : List ((Bool × (Int × ((List (Int × (List Int))) × (List Int)))))), (x28, (x29, (x30, ((((List.length ([] : List ((Bool × (Int × ((List (Int × (List Int))) × (List Int))))))) : Nat) : Int), ((0 : Int), @Unit.unit))))))))))), (h0, (h1, (h2, (h3, (h4, @Unit.unit))))))) fun (v20 : (((Bool × Unit) × Unit) ⊕ (((List Int) × (Int × (Int × ((List (Bool × (Int × ((List (Int × (List Int))) × (List Int))))) × ((List (List Int)) × (Int × (Int × Unit))))))) × (Bool × (Int × (Int × (Int × ((List Int) × Unit)))))))) =>
              Sum.elim
               (fun (v21 : ((Bool × Unit) × Unit)) =>
               some ((.inl ((v21.1.1, @Unit.unit), @Unit.unit))))
               (fun (v21 : (((List Int) × (Int × (Int × ((List (Bool × (Int × ((List (Int × (List Int))) × (List Int))))) × ((List (List Int)) × (Int × (Int × Unit))))))) × (Bool × (Int × (Int × (Int × ((List Int) × Unit))))))) =>
               (X ((v21.1.1, (v21.1.2.1, ((((List.length v21.1.2.2.2.1) : Nat) : Int), (v21.1.2.2.1, (v21.1.2.2.2.2.1, (v21.1.2.2.2.2.2.1, ((Go.IntKind.wrap .i64 (v21.1.2.2.2.2.2.2.1 + (1 : Int))), @Unit.unit))))))), (v21.2.1, (v21.2.2.1, (v21.2.2.2.1, (v21.2.2.2.2.1, ((v21.2.2.2.2).snd.1, @Unit.unit)))))))) v20
            else
             bif (@cond Bool @Bool.false @Bool.true (!(decide ((Go.IntKind.wrap .i64 (v19.1 - (((List.length h4) : Nat) : Int))) = (0 : Int))))) then
              some ((.inl ((@Bool.false, @Unit.unit), @Unit.unit)))
             else
              Option.bind (law19_ReframeWrites_L23_R N ((b0, ((Go.IntKind.wrap .i64 (n6 + (((List.length v14) : Nat) : Int))), (told7, (v16.2.2, (v16.1, (([] : List ((Bool × (Int × ((List (Int × (List Int))) × (List Int)))))), (x28, (x29, (x30, ((((List.length ([] : List ((Bool × (Int × ((List (Int × (List Int))) × (List Int))))))) : Nat) : Int), ((0 : Int), @Unit.unit))))))))))), (h0, (h1, (h2, (h3, (h4, @Unit.unit))))))) fun (v20 : (((Bool × Unit) × Unit) ⊕ (((List Int) × (Int × (Int × ((List (Bool × (Int × ((List (Int × (List Int))) × (List Int))))) × ((List (List Int)) × (Int × (Int × Unit))))))) × (Bool × (Int × (Int × (Int × ((List Int) × Unit)))))))) =>
              Sum.elim
               (fun (v21 : ((Bool × Unit) × Unit)) =>
               some ((.inl ((v21.1.1, @Unit.unit), @Unit.unit))))
               (fun (v21 : (((List Int) × (Int × (Int × ((List (Bool × (Int × ((List (Int × (List Int))) × (List Int))))) × ((List (List Int)) × (Int × (Int × Unit))))))) × (Bool × (Int × (Int × (Int × ((List Int) × Unit))))))) =>
               (X ((v21.1.1, (v21.1.2.1, ((((List.length v21.1.2.2.2.1) : Nat) : Int), (v21.1.2.2.1, (v21.1.2.2.2.2.1, (v21.1.2.2.2.2.2.1, ((Go.IntKind.wrap .i64 (v21.1.2.2.2.2.2.2.1 + (1 : Int))), @Unit.unit))))))), (v21.2.1, (v21.2.2.1, (v21.2.2.2.1, (v21.2.2.2.2.1, ((v21.2.2.2.2).snd.1, @Unit.unit)))))))) v20
    else
     bif (!(decide ((((List.length ([] : List ((Bool × (Int × ((List (Int × (List Int))) × (List Int))))))) : Nat) : Int) = (Go.IntKind.wrap .i64 ((((List.length v16.1) : Nat) : Int) - told7))))) then
      some ((.inl ((@Bool.false, @Unit.unit), @Unit.unit)))
     else
      bif (@cond Bool @Bool.false @Bool.true (!(decide ((2 : Int) = v16.2.2)))) then
       some ((.inl ((@Bool.false, @Unit.unit), @Unit.unit)))
      else
       bif (@cond Bool @Bool.false @Bool.true (!(decide (h2 = v16.2.1)))) then
        some ((.inl ((@Bool.false, @Unit.unit), @Unit.unit)))
       else
        bif (@cond Bool @Bool.false @Bool.true (!(decide (h1 = (((List.length v16.1) : Nat) : Int))))) then
         some ((.inl ((@Bool.false, @Unit.unit), @Unit.unit)))
        else
         bif (@cond Bool @Bool.false @Bool.true (!(decide ((((List.length h4) : Nat) : Int) = (Go.IntKind.wrap .i64 ((Go.IntKind.wrap .i64 (n6 + (((List.length v14) : Nat) : Int))) - v16.2.1)))))) then
          some ((.inl ((@Bool.false, @Unit.unit), @Unit.unit)))
         else
          bif (@cond Bool @Bool.false @Bool.true (!h0)) then
           bif (@cond Bool @Bool.false @Bool.true (!(decide ((0 : Int) = v18)))) then
            some ((.inl ((@Bool.false, @Unit.unit), @Unit.unit)))
           else
            Option.bind (law19_ReframeWrites_L23_R N ((b0, ((Go.IntKind.wrap .i64 (n6 + (((List.length v14) : Nat) : Int))), (told7, (v16.2.2, (v16.1, (([] : List ((Bool × (Int × ((List (Int × (List Int))) × (List Int)))))), (x28, (x29, (x30, ((((List.length ([] : List ((Bool × (Int × ((List (Int × (List Int))) × (List Int))))))) : Nat) : Int), ((0 : Int), @Unit.unit))))))))))), (h0, (h1, (h2, (h3, (h4, @Unit.unit))))))) fun (v19 : (((Bool × Unit) × Unit) ⊕ (((List Int) × (Int × (Int × ((List (Bool × (Int × ((List (Int × (List Int))) × (List Int))))) × ((List (List Int)) × (Int × (Int × Unit))))))) × (Bool × (Int × (Int × (Int × ((List Int) × Unit)))))))) =>
            Sum.elim
             (fun (v20 : ((Bool × Unit) × Unit)) =>
             some ((.inl ((v20.1.1, @Unit.unit), @Unit.unit))))
             (fun (v20 : (((List Int) × (Int × (Int × ((List (Bool × (Int × ((List (Int × (List Int))) × (List Int))))) × ((List (List Int)) × (Int × (Int × Unit))))))) × (Bool × (Int × (Int × (Int × ((List Int) × Unit))))))) =>
             (X ((v20.1.1, (v20.1.2.1, ((((List.length v20.1.2.2.2.1) : Nat) : Int), (v20.1.2.2.1, (v20.1.2.2.2.2.1, (v20.1.2.2.2.2.2.1, ((Go.IntKind.wrap .i64 (v20.1.2.2.2.2.2.2.1 + (1 : Int))), @Unit.unit))))))), (v20.2.1, (v20.2.2.1, (v20.2.2.2.1, (v20.2.2.2.2.1, ((v20.2.2.2.2).snd.1, @Unit.unit)))))))) v19
          else
           bif (@cond Bool @Bool.false @Bool.true (!(decide (h3 = (0 : Int))))) then
            bif (@cond Bool @Bool.false @Bool.true (!(decide ((0 : Int) = v18)))) then
             some ((.inl ((@Bool.false, @Unit.unit), @Unit.unit)))
            else
             Option.bind (law19_ReframeWrites_L23_R N ((b0, ((Go.IntKind.wrap .i64 (n6 + (((List.length v14) : Nat) : Int))), (told7, (v16.2.2, (v16.1, (([] : List ((Bool × (Int × ((List (Int × (List Int))) × (List Int)))))), (x28, (x29, (x30, ((((List.length ([] : List ((Bool × (Int × ((List (Int × (List Int))) × (List Int))))))) : Nat) : Int), ((0 : Int), @Unit.unit))))))))))), (h0, (h1, (h2, (h3, (h4, @Unit.unit))))))) fun (v19 : (((Bool × Unit) × Unit) ⊕ (((List Int) × (Int × (Int × ((List (Bool × (Int × ((List (Int × (List Int))) × (List Int))))) × ((List (List Int)) × (Int × (Int × Unit))))))) × (Bool × (Int × (Int × (Int × ((List Int) × Unit)))))))) =>
             Sum.elim
              (fun (v20 : ((Bool × Unit) × Unit)) =>
              some ((.inl ((v20.1.1, @Unit.unit), @Unit.unit))))
              (fun (v20 : (((List Int) × (Int × (Int × ((List (Bool × (Int × ((List (Int × (List Int))) × (List Int))))) × ((List (List Int)) × (Int × (Int × Unit))))))) × (Bool × (Int × (Int × (Int × ((List Int) × Unit))))))) =>
              (X ((v20.1.1, (v20.1.2.1, ((((List.length v20.1.2.2.2.1) : Nat) : Int), (v20.1.2.2.1, (v20.1.2.2.2.2.1, (v20.1.2.2.2.2.2.1, ((Go.IntKind.wrap .i64 (v20.1.2.2.2.2.2.2.1 + (1 : Int))), @Unit.unit))))))), (v20.2.1, (v20.2.2.1, (v20.2.2.2.1, (v20.2.2.2.2.1, ((v20.2.2.2.2).snd.1, @Unit.unit)))))))) v19
           else
            Option.bind (@packet_Length N h4) fun (v19 : (Int × Int)) =>
            bif (!(decide (v19.2 = (0 : Int)))) then
             bif (@cond Bool @Bool.false @Bool.true (!(decide ((Go.IntKind.wrap .i64 ((4 : Int) - (((List.length h4) : Nat) : Int))) = v18)))) then
              some ((.inl ((@Bool.false, @Unit.unit), @Unit.unit)))
             else
              Option.bind (law19_ReframeWrites_L23_R N ((b0, ((Go.IntKind.wrap .i64 (n6 + (((List.length v14) : Nat) : Int))), (told7, (v16.2.2, (v16.1, (([] : List ((Bool × (Int × ((List (Int × (List Int))) × (List Int)))))), (x28, (x29, (x30, ((((List.length ([] : List ((Bool × (Int × ((List (Int × (List Int))) × (List Int))))))) : Nat) : Int), ((0 : Int), @Unit.unit))))))))))), (h0, (h1, (h2, (h3, (h4, @Unit.unit))))))) fun (v20 : (((Bool × Unit) × Unit) ⊕ (((List Int) × (Int × (Int × ((List (Bool × (Int × ((List (Int × (List Int))) × (List Int))))) × ((List (List Int)) × (Int × (Int × Unit))))))) × (Bool × (Int × (Int × (Int × ((List Int) × Unit)))))))) =>
              Sum.elim
               (fun (v21 : ((Bool × Unit) × Unit)) =>
               some ((.inl ((v21.1.1, @Unit.unit), @Unit.unit))))
               (fun (v21 : (((List Int) × (Int × (Int × ((List (Bool × (Int × ((List (Int × (List Int))) × (List Int))))) × ((List (List Int)) × (Int × (Int × Unit))))))) × (Bool × (Int × (Int × (Int × ((List Int) × Unit))))))) =>
               (X ((v21.1.1, (v21.1.2.1, ((((List.length v21.1.2.2.2.1) : Nat) : Int), (v21.1.2.2.1, (v21.1.2.2.2.2.1, (v21.1.2.2.2.2.2.1, ((Go.IntKind.wrap .i64 (v21.1.2.2.2.2.2.2.1 + (1 : Int))), @Unit.unit))))))), (v21.2.1, (v21.2.2.1, (v21.2.2.2.1, (v21.2.2.2.2.1, ((v21.2.2.2.2).snd.1, @Unit.unit)))))))) v20
            else
             bif (@cond Bool @Bool.false @Bool.true (!(decide ((Go.IntKind.wrap .i64 (v19.1 - (((List.length h4) : Nat) : Int))) = v18)))) then
              some ((.inl ((@Bool.false, @Unit.unit), @Unit.unit)))
             else
              Option.bind (law19_ReframeWrites_L23_R N ((b0, ((Go.IntKind.wrap .i64 (n6 + (((List.length v14) : Nat) : Int))), (told7, (v16.2.2, (v16.1, (([] : List ((Bool × (Int × ((List (Int × (List Int))) × (List Int)))))), (x28, (x29, (x30, ((((List.length ([] : List ((Bool × (Int × ((List (Int × (List Int))) × (List Int))))))) : Nat) : Int), ((0 : Int), @Unit.unit))))))))))), (h0, (h1, (h2, (h3, (h4, @Unit.unit))))))) fun (v20 : (((Bool × Unit) × Unit) ⊕ (((List Int) × (Int × (Int × ((List (Bool × (Int × ((List (Int × (List Int))) × (List Int))))) × ((List (List Int)) × (Int × (Int × Unit))))))) × (Bool × (Int × (Int × (Int × ((List Int) × Unit)))))))) =>
              Sum.elim
               (fun (v21 : ((Bool × Unit) × Unit)) =>
               some ((.inl ((v21.1.1, @Unit.unit), @Unit.unit))))
               (fun (v21 : (((List Int) × (Int × (Int × ((List (Bool × (Int × ((List (Int × (List Int))) × (List Int))))) × ((List (List Int)) × (Int × (Int × Unit))))))) × (Bool × (Int × (Int × (Int × ((List Int) × Unit))))))) =>
               (X ((v21.1.1, (v21.1.2.1, ((((List.length v21.1.2.2.2.1) : Nat) : Int), (v21.1.2.2.1, (v21.1.2.2.2.2.1, (v21.1.2.2.2.2.2.1, ((Go.IntKind.wrap .i64 (v21.1.2.2.2.2.2.2.1 + (1 : Int))), @Unit.unit))))))), (v21.2.1, (v21.2.2.1, (v21.2.2.2.1, (v21.2.2.2.2.1, ((v21.2.2.2.2).snd.1, @Unit.unit)))))))) v20
  else
   bif (!(decide (h3 = (0 : Int)))) then
    bif (!(decide (broken8 = (0 : Int)))) then
     bif (@cond Bool @Bool.false @Bool.true (!(decide (h3 = broken8)))) then
      some ((.inl ((@Bool.false, @Unit.unit), @Unit.unit)))
     else
      (X ((b0, ((Go.IntKind.wrap .i64 (n6 + (((List.length v14) : Nat) : Int))), (told7, (broken8, (x28, (x29, ((Go.IntKind.wrap .i64 (x30 + (1 : Int))), @Unit.unit))))))), (h0, (h1, (h2, (h3, (h4, @Unit.unit)))))))
    else
     Option.bind (subI b0 v16.2.1 (Go.IntKind.wrap .i64 (n6 + (((List.length v14) : Nat) : Int)))) fun (v17 : (List Int)) =>
     Option.bind (@ref19_Wants N v17) fun (v18 : Int) =>
     bif (!(decide (v16.2.2 = (0 : Int)))) then
      bif (!(decide ((((List.length ([] : List ((Bool × (Int × ((List (Int × (List Int))) × (List Int))))))) : Nat) : Int) = (Go.IntKind.wrap .i64 ((((List.length v16.1) : Nat) : Int) - told7))))) then
       some ((.inl ((@Bool.false, @Unit.unit), @Unit.unit)))
      else
       bif (@cond Bool @Bool.false @Bool.true (!(decide (h3 = v16.2.2)))) then
        some ((.inl ((@Bool.false, @Unit.unit), @Unit.unit)))
       else
        bif (@cond Bool @Bool.false @Bool.true (!(decide (h2 = v16.2.1)))) then
         some ((.inl ((@Bool.false, @Unit.unit), @Unit.unit)))
        else
         bif (@cond Bool @Bool.false @Bool.true (!(decide (h1 = (((List.length v16.1) : Nat) : Int))))) then
          some ((.inl ((@Bool.false, @Unit.unit), @Unit.unit)))
         else
          bif (@cond Bool @Bool.false @Bool.true (!(decide ((((List.length h4) : Nat) : Int) = (0 : Int))))) then
           some ((.inl ((@Bool.false, @Unit.unit), @Unit.unit)))
          else
           bif (@cond Bool @Bool.false @Bool.true (!h0)) then
            Option.bind (law19_ReframeWrites_L23_R N ((b0, ((Go.IntKind.wrap .i64 (n6 + (((List.length v14) : Nat) : Int))), (told7, (v16.2.2, (v16.1, (([] : List ((Bool × (Int × ((List (Int × (List Int))) × (List Int)))))), (x28, (x29, (x30, ((((List.length ([] : List ((Bool × (Int × ((List (Int × (List Int))) × (List Int))))))) : Nat) : Int), ((0 : Int), @Unit.unit))))))))))), (h0, (h1, (h2, (h3, (h4, @Unit.unit))))))) fun (v19 : (((Bool × Unit) × Unit) ⊕ (((List Int) × (Int × (Int × ((List (Bool × (Int × ((List (Int × (List Int))) × (List Int))))) × ((List (List Int)) × (Int × (Int × Unit))))))) × (Bool × (Int × (Int × (Int × ((List Int) × Unit)))))))) =>
            Sum.elim
             (fun (v20 : ((Bool × Unit) × Unit)) =>
             some ((.inl ((v20.1.1, @Unit.unit), @Unit.unit))))
             (fun (v20 : (((List Int) × (Int × (Int × ((List (Bool × (Int × ((List (Int × (List Int))) × (List Int))))) × ((List (List Int)) × (Int × (Int × Unit))))))) × (Bool × (Int × (Int × (Int × ((List Int) × Unit))))))) =>
             (X ((v20.1.1, (v20.1.2.1, ((((List.length v20.1.2.2.2.1) : Nat) : Int), (v20.1.2.2.1, (v20.1.2.2.2.2.1, (v20.1.2.2.2.2.2.1, ((Go.IntKind.wrap .i64 (v20.1.2.2.2.2.2.2.1 + (1 : Int))), @Unit.unit))))))), (v20.2.1, (v20.2.2.1, (v20.2.2.2.1, (v20.2.2.2.2.1, ((v20.2.2.2.2).snd.1, @Unit.unit)))))))) v19
           else
            bif (@cond Bool @Bool.false @Bool.true (!(decide (h3 = (0 : Int))))) then
             Option.bind (law19_ReframeWrites_L23_R N ((b0, ((Go.IntKind.wrap .i64 (n6 + (((List.length v14) : Nat) : Int))), (told7, (v16.2.2, (v16.1, (([] : List ((Bool × (Int × ((List (Int × (List Int))) × (List Int)))))), (x28, (x29, (x30, ((((List.length ([] : List ((Bool × (Int × ((List (Int × (List Int))) × (List Int))))))) : Nat) : Int), ((0 : Int), @Unit.unit))))))))))), (h0, (h1, (h2, (h3, (h4, @Unit.unit))))))) fun (v19 : (((Bool × Unit) × Unit) ⊕ (((List Int) × (Int × (Int × ((List (Bool × (Int × ((List (Int × (List Int))) × (List Int))))) × ((List (List Int)) × (Int × (Int × Unit))))))) × (Bool × (Int × (Int × (Int × ((List Int) × Unit)))))))) =>
             Sum.elim
              (fun (v20 : ((Bool × Unit) × Unit)) =>
              some ((.inl ((v20.1.1, @Unit.unit), @Unit.unit))))
              (fun (v20 : (((List Int) × (Int × (Int × ((List (Bool × (Int × ((List (Int × (List Int))) × (List Int))))) × ((List (List Int)) × (Int × (Int × Unit))))))) × (Bool × (Int × (Int × (Int × ((List Int) × Unit))))))) =>
              (X ((v20.1.1, (v20.1.2.1, ((((List.length v20.1.2.2.2.1) : Nat) : Int), (v20.1.2.2.1, (v20.1.2.2.2.2.1, (v20.1.2.2.2.2.2.1, ((Go.IntKind.wrap .i64 (v20.1.2.2.2.2.2.2.1 + (1 : Int))), @Unit.unit))))))), (v20.2.1, (v20.2.2.1, (v20.2.2.2.1, (v20.2.2.2.2.1, ((v20.2.2.2.2).snd.1, @Unit.unit)))))))) v19
            else
             Option.bind (@packet_Length N h4) fun (v19 : (Int × Int)) =>
             bif (!(decide (v19.2 = (0 : Int)))) then
              bif (@cond Bool @Bool.false @Bool.true (!(decide ((Go.IntKind.wrap .i64 ((4 : Int) - (((List.length h4) : Nat) : Int))) = (0 : Int))))) then
               some ((.inl ((@Bool.false, @Unit.unit), @Unit.unit)))
              else
               Option.bind (law19_ReframeWrites_L23_R N ((b0, ((Go.IntKind.wrap .i64 (n6 + (((List.length v14) : Nat) : Int))), (told7, (v16.2.2, (v16.1, (([] : List ((Bool × (Int × ((List (Int × (List Int))) × (List Int)))))), (x28, (x29, (x30, ((((List.length ([] : List ((Bool × (Int × ((List (Int × (List Int))) × (List Int))))))) : Nat) : Int), ((0 : Int), @Unit.unit))))))))))), (h0, (h1, (h2, (h3, (h4, @Unit.unit))))))) fun (v20 : (((Bool × Unit) × Unit) ⊕ (((List Int) × (Int × (Int × ((List (Bool × (Int × ((List (Int × (List Int))) × (List Int))))) × ((List (List Int)) × (Int × (Int × Unit))))))) × (Bool × (Int × (Int × (Int × ((List Int) × Unit)))))))) =>
               Sum.elim
                (fun (v21 : ((Bool × Unit) × Unit)) =>
                some ((.inl ((v21.1.1, @Unit.unit), @Unit.unit))))
                (fun (v21 : (((List Int) × (Int × (Int × ((List (Bool × (Int × ((List (Int × (List Int))) × (List Int))))) × ((List (List Int)) × (Int × (Int × Unit))))))) × (Bool × (Int × (Int × (Int × ((List Int) × Unit))))))) =>
                (X ((v21.1.1, (v21.1.2.1, ((((List.length v21.1.2.2.2.1) : Nat) : Int), (v21.1.2.2.1, (v21.1.2.2.2.2.1, (v21.1.2.2.2.2.2.1, ((Go.IntKind.wrap .i64 (v21.1.2.2.2.2.2.2.1 + (1 : Int))), @Unit.unit))))))), (v21.2.1, (v21.2.2.1, (v21.2.2.2.1, (v21.2.2.2.2.1, ((v21.2.2.2.2).snd.1, @Unit.unit)))))))) v20
             else
              bif (@cond Bool @Bool.false @Bool.true (!(decide ((Go.IntKind.wrap .i64 (v19.1 - (((List.length h4) : Nat) : Int))) = (0 : Int))))) then
               some ((.inl ((@Bool.false, @Unit.unit), @Unit.unit)))
              else
               Option.bind (law19_ReframeWrites_L23_R N ((b0, ((Go.IntKind.wrap .i64 (n6 + (((List.length v14) : Nat) : Int))), (told7, (v16.2.2, (v16.1, (([] : List ((Bool × (Int × ((List (Int × (List Int))) × (List Int)))))), (x28, (x29, (x30, ((((List.length ([] : List ((Bool × (Int × ((List (Int × (List Int))) × (List Int))))))) : Nat) : Int), ((0 : Int), @Unit.unit))))))))))), (h0, (h1, (h2, (h3, (h4, @Unit.unit))))))) fun (v20 : (((Bool × Unit) × Unit) ⊕ (((List Int) × (Int × (Int × ((List (Bool × (Int × ((List (Int × (List Int))) × (List Int))))) × ((List (List Int)) × (Int × (Int × Unit))))))) × (Bool × (Int × (Int × (Int × ((List Int) × Unit)))))))) =>
               Sum.elim
                (fun (v21 : ((Bool × Unit) × Unit)) =>
                some ((.inl ((v21.1.1, @Unit.unit), @Unit.unit))))
                (fun (v21 : (((List Int) × (Int × (Int × ((List (Bool × (Int × ((List (Int × (List Int))) × (List Int))))) × ((List (List Int)) × (Int × (Int × Unit))))))) × (Bool × (Int × (Int × (Int × ((List Int) × Unit))))))) =>
                (X ((v21.1.1, (v21.1.2.1, ((((List.length v21.1.2.2.2.1) : Nat) : Int), (v21.1.2.2.1, (v21.1.2.2.2.2.1, (v21.1.2.2.2.2.2.1, ((Go.IntKind.wrap .i64 (v21.1.2.2.2.2.2.2.1 + (1 : Int))), @Unit.unit))))))), (v21.2.1, (v21.2.2.1, (v21.2.2.2.1, (v21.2.2.2.2.1, ((v21.2.2.2.2).snd.1, @Unit.unit)))))))) v20
     else
      bif (!(decide ((((List.length ([] : List ((Bool × (Int × ((List (Int × (List Int))) × (List Int))))))) : Nat) : Int) = (Go.IntKind.wrap .i64 ((((List.length v16.1) : Nat) : Int) - told7))))) then
       some ((.inl ((@Bool.false, @Unit.unit), @Unit.unit)))
      else
       bif (@cond Bool @Bool.false @Bool.true (!(decide (h3 = v16.2.2)))) then
        some ((.inl ((@Bool.false, @Unit.unit), @Unit.unit)))
       else
        bif (@cond Bool @Bool.false @Bool.true (!(decide (h2 = v16.2.1)))) then
         some ((.inl ((@Bool.false, @Unit.unit), @Unit.unit)))
        else
         bif (@cond Bool @Bool.false @Bool.true (!(decide (h1 = (((List.length v16.1) : Nat) : Int))))) then
          some ((.inl ((@Bool.false, @Unit.unit), @Unit.unit)))
         else
          bif (@cond Bool @Bool.false @Bool.true (!(decide ((((List.length h4) : Nat) : Int) = (Go.IntKind.wrap .i64 ((Go.IntKind.wrap .i64 (n6 + (((List.length v14) : Nat) : Int))) - v16.2.1)))))) then
           some ((.inl ((@Bool.false, @Unit.unit), @Unit.unit)))
          else
           bif (@cond Bool @Bool.false @Bool.true (!h0)) then
            bif (@cond Bool @Bool.false @Bool.true (!(decide ((0 : Int) = v18)))) then
             some ((.inl ((@Bool.false, @Unit.unit), @Unit.unit)))
            else
             Option.bind (law19_ReframeWrites_L23_R N ((b0, ((Go.IntKind.wrap .i64 (n6 + (((List.length v14) : Nat) : Int))), (told7, (v16.2.2, (v16.1, (([] : List ((Bool × (Int × ((List (Int × (List Int))) × (List Int)))))), (x28, (x29, (x30, ((((List.length ([] : List ((Bool × (Int × ((List (Int × (List Int))) × (List Int))))))) : Nat) : Int), ((0 : Int), @Unit.unit))))))))))), (h0, (h1, (h2, (h3, (h4, @Unit.unit))))))) fun (v19 : (((Bool × Unit) × Unit) ⊕ (((List Int) × (Int × (Int × ((List (Bool × (Int × ((List (Int × (List Int))) × (List Int))))) × ((List (List Int)) × (Int × (Int × Unit))))))) × (Bool × (Int × (Int × (Int × ((List Int) × Unit)))))))) =>
             Sum.elim
              (fun (v20 : ((Bool × Unit) × Unit)) =>
              some ((.inl ((v20.1.1, @Unit.unit), @Unit.unit))))
              (fun (v20 : (((List Int) × (Int × (Int × ((List (Bool × (Int × ((List (Int × (List Int))) × (List Int))))) × ((List (List Int)) × (Int × (Int × Unit))))))) × (Bool × (Int × (Int × (Int × ((List Int) × Unit))))))) =>
              (X ((v20.1.1, (v20.1.2.1, ((((List.length v20.1.2.2.2.1) : Nat) : Int), (v20.1.2.2.1, (v20.1.2.2.2.2.1, (v20.1.2.2.2.2.2.1, ((Go.IntKind.wrap .i64 (v20.1.2.2.2.2.2.2.1 + (1 : Int))), @Unit.unit))))))), (v20.2.1, (v20.2.2.1, (v20.2.2.2.1, (v20.2.2.2.2.1, ((v20.2.2.2.2).snd.1, @Unit.unit)))))))) v19
           else
            bif (@cond Bool @Bool.false @Bool.true (!(decide (h3 = (0 : Int))))) then
             bif (@cond Bool @Bool.false @Bool.true (!(decide ((0 : Int) = v18)))) then
              some ((.inl ((@Bool.false, @Unit.unit), @Unit.unit)))
             else
              Option.bind (law19_ReframeWrites_L23_R N ((b0, ((Go.IntKind.wrap .i64 (n6 + (((List.length v14) : Nat) : Int))), (told7, (v16.2.2, (v16.1, (([] : List ((Bool × (Int × ((List (Int × (List Int))) × (List Int)))))), (x28, (x29, (x30, ((((List.length ([] : List ((Bool × (Int × ((List (Int × (List Int))) × (List Int))))))) : Nat) : Int), ((0 : Int), @Unit.unit))))))))))), (h0, (h1, (h2, (h3, (h4, @Unit.unit))))))) fun (v19 : (((Bool × Unit) × Unit) ⊕ (((List Int) × (Int × (Int × ((List (Bool × (Int × ((List (Int × (List Int))) × (List Int))))) × ((List (List Int)) × (Int × (Int × Unit))))))) × (Bool × (Int × (Int × (Int × ((List Int) × Unit)))))))) =>
              Sum.elim
               (fun (v20 : ((Bool × Unit) × Unit)) =>
               some ((.inl ((v20.1.1, @Unit.unit), @Unit.unit))))
               (fun (v20 : (((List Int) × (Int × (Int × ((List (Bool × (Int × ((List (Int × (List Int))) × (List Int))))) × ((List (List Int)) × (Int × (Int × Unit))))))) × (Bool × (Int × (Int × (Int × ((List Int) × Unit))))))) =>
               (X ((v20.1.1, (v20.1.2.1, ((((List.length v20.1.2.2.2.1) : Nat) : Int), (v20.1.2.2.1, (v20.1.2.2.2.2.1, (v20.1.2.2.2.2.2.1, ((Go.IntKind.wrap .i64 (v20.1.2.2.2.2.2.2.1 + (1 : Int))), @Unit.unit))))))), (v20.2.1, (v20.2.2.1, (v20.2.2.2.1, (v20.2.2.2.2.1, ((v20.2.2.2.2).snd.1, @Unit.unit)))))))) v19
            else
             Option.bind (@packet_Length N h4) fun (v19 : (Int × Int)) =>
             bif (!(decide (v19.2 = (0 : Int)))) then
              bif (@cond Bool @Bool.false @Bool.true (!(decide ((Go.IntKind.wrap .i64 ((4 : Int) - (((List.length h4) : Nat) : Int))) = v18)))) then
               some ((.inl ((@Bool.false, @Unit.unit), @Unit.unit)))
              else
               Option.bind (law19_ReframeWrites_L23_R N ((b0, ((Go.IntKind.wrap .i64 (n6 + (((List.length v14) : Nat) : Int))), (told7, (v16.2.2, (v16.1, (([] : List ((Bool × (Int × ((List (Int × (List Int))) × (List Int)))))), (x28, (x29, (x30, ((((List.length ([] : List ((Bool × (Int × ((List (Int × (List Int))) × (List Int))))))) : Nat) : Int), ((0 : Int), @Unit.unit))))))))))), (h0, (h1, (h2, (h3, (h4, @Unit.unit))))))) fun (v20 : (((Bool × Unit) × Unit) ⊕ (((List Int) × (Int × (Int × ((List (Bool × (Int × ((List (Int × (List Int))) × (List Int))))) × ((List (List Int)) × (Int × (Int × Unit))))))) × (Bool × (Int × (Int × (Int × ((List Int) × Unit)))))))) =>
               Sum.elim
                (fun (v21 : ((Bool × Unit) × Unit)) =>
                some ((.inl ((v21.1.1, @Unit.unit), @Unit.unit))))
                (fun (v21 : (((List Int) × (Int × (Int × ((List (Bool × (Int × ((List (Int × (List Int))) × (List Int))))) × ((List (List Int)) × (Int × (Int × Unit))))))) × (Bool × (Int × (Int × (Int × ((List Int) × Unit))))))) =>
                (X ((v21.1.1, (v21.1.2.1, ((((List.length v21.1.2.2.2.1) : Nat) : Int), (v21.1.2.2.1, (v21.1.2.2.2.2.1, (v21.1.2.2.2.2.2.1, ((Go.IntKind.wrap .i64 (v21.1.2.2.2.2.2.2.1 + (1 : Int))), @Unit.unit))))))), (v21.2.1, (v21.2.2.1, (v21.2.2.2.1, (v21.2.2.2.2.1, ((v21.2.2.2.2).snd.1, @Unit.unit)))))))) v20
             else
              bif (@cond Bool @Bool.false @Bool.true (!(decide ((Go.IntKind.wrap .i64 (v19.1 - (((List.length h4) : Nat) : Int))) = v18)))) then
               some ((.inl ((@Bool.false, @Unit.unit), @Unit.unit)))
              else
               Option.bind (law19_ReframeWrites_L23_R N ((b0, ((Go.IntKind.wrap .i64 (n6 + (((List.length v14) : Nat) : Int))), (told7, (v16.2.2, (v16.1, (([] : List ((Bool × (Int × ((List (Int × (List Int))) × (List Int)))))), (x28, (x29, (x30, ((((List.length ([] : List ((Bool × (Int × ((List (Int × (List Int))) × (List Int))))))) : Nat) : Int), ((0 : Int), @Unit.unit))))))))))), (h0, (h1, (h2, (h3, (h4, @Unit.unit))))))) fun (v20 : (((Bool × Unit) × Unit) ⊕ (((List Int) × (Int × (Int × ((List (Bool × (Int × ((List (Int × (List Int))) × (List Int))))) × ((List (List Int)) × (Int × (Int × Unit))))))) × (Bool × (Int × (Int × (Int × ((List Int) × Unit)))))))) =>
               Sum.elim
                (fun (v21 : ((Bool × Unit) × Unit)) =>
                some ((.inl ((v21.1.1, @Unit.unit), @Unit.unit))))
                (fun (v21 : (((List Int) × (Int × (Int × ((List (Bool × (Int × ((List (Int × (List Int))) × (List Int))))) × ((List (List Int)) × (Int × (Int × Unit))))))) × (Bool × (Int × (Int × (Int × ((List Int) × Unit))))))) =>
                (X ((v21.1.1, (v21.1.2.1, ((((List.length v21.1.2.2.2.1) : Nat) : Int), (v21.1.2.2.1, (v21.1.2.2.2.2.1, (v21.1.2.2.2.2.2.1, ((Go.IntKind.wrap .i64 (v21.1.2.2.2.2.2.2.1 + (1 : Int))), @Unit.unit))))))), (v21.2.1, (v21.2.2.1, (v21.2.2.2.1, (v21.2.2.2.2.1, ((v21.2.2.2.2).snd.1, @Unit.unit)))))))) v20
   else
    bif (roomB ((List.length h4) + (List.length v14)) 1) then
     Option.bind (law19_ReframeWrites_12_reframe_Stream_Write_L7_R N (((h4 ++ v14), @Unit.unit), (h0, (h1, (h2, (h3, (([] : List ((Bool × (Int × ((List (Int × (List Int))) × (List Int)))))), @Unit.unit))))))) fun (v17 : ((((List Int) × Unit) × (Bool × (Int × (Int × (Int × ((List (Bool × (Int × ((List (Int × (List Int))) × (List Int))))) × Unit)))))) ⊕ (((List (Bool × (Int × ((List (Int × (List Int))) × (List Int))))) × (Int × Unit)) × (Bool × (Int × (Int × (Int × Unit))))))) =>
     Sum.elim
      (fun (v18 : (((List Int) × Unit) × (Bool × (Int × (Int × (Int × ((List (Bool × (Int × ((List (Int × (List Int))) × (List Int))))) × Unit))))))) =>
      bif (roomB (List.length v18.1.1) 1) then
       bif (!(decide (broken8 = (0 : Int)))) then
        bif (!(decide ((((List.length (v18.2.2.2.2).snd.1) : Nat) : Int) = (0 : Int)))) then
         some ((.inl ((@Bool.false, @Unit.unit), @Unit.unit)))
        else
         bif (@cond Bool @Bool.false @Bool.true (!(decide ((0 : Int) = broken8)))) then
          some ((.inl ((@Bool.false, @Unit.unit), @Unit.unit)))
         else
          (X ((b0, ((Go.IntKind.wrap .i64 (n6 + (((List.length v14) : Nat) : Int))), (told7, (broken8, (x28, (x29, ((Go.IntKind.wrap .i64 (x30 + (1 : Int))), @Unit.unit))))))), (v18.2.1, (v18.2.2.1, (v18.2.2.2.1, (v18.2.2.2.2.1, (v18.1.1, @Unit.unit)))))))
       else
        Option.bind (subI b0 v16.2.1 (Go.IntKind.wrap .i64 (n6 + (((List.length v14) : Nat) : Int)))) fun (v19 : (List Int)) =>
        Option.bind (@ref19_Wants N v19) fun (v20 : Int) =>
        bif (!(decide (v16.2.2 = (0 : Int)))) then
         bif (!(decide ((((List.length (v18.2.2.2.2).snd.1) : Nat) : Int) = (Go.IntKind.wrap .i64 ((((List.length v16.1) : Nat) : Int) - told7))))) then
          some ((.inl ((@Bool.false, @Unit.unit), @Unit.unit)))
         else
          bif (@cond Bool @Bool.false @Bool.true (!(decide ((0 : Int) = v16.2.2)))) then
           some ((.inl ((@Bool.false, @Unit.unit), @Unit.unit)))
          else
           bif (@cond Bool @Bool.false @Bool.true (!(decide (v18.2.2.2.1 = v16.2.1)))) then
            some ((.inl ((@Bool.false, @Unit.unit), @Unit.unit)))
           else
            bif (@cond Bool @Bool.false @Bool.true (!(decide (v18.2.2.1 = (((List.length v16.1) : Nat) : Int))))) then
             some ((.inl ((@Bool.false, @Unit.unit), @Unit.unit)))
            else
             bif (@cond Bool @Bool.false @Bool.true (!(decide ((((List.length v18.1.1) : Nat) : Int) = (0 : Int))))) then
              some ((.inl ((@Bool.false, @Unit.unit), @Unit.unit)))
             else
              bif (@cond Bool @Bool.false @Bool.true (!v18.2.1)) then
               Option.bind (law19_ReframeWrites_L23_R N ((b0, ((Go.IntKind.wrap .i64 (n6 + (((List.length v14) : Nat) : Int))), (told7, (v16.2.2, (v16.1, ((v18.2.2.2.2).snd.1, (x28, (x29, (x30, ((((List.length (v18.2.2.2.2).snd.1) : Nat) : Int), ((0 : Int), @Unit.unit))))))))))), (v18.2.1, (v18.2.2.1, (v18.2.2.2.1, (v18.2.2.2.2.1, (v18.1.1, @Unit.unit))))))) fun (v21 : (((Bool × Unit) × Unit) ⊕ (((List Int) × (Int × (Int × ((List (Bool × (Int × ((List (Int × (List Int))) × (List Int))))) × ((List (List Int)) × (Int × (Int × Unit))))))) × (Bool × (Int × (Int × (Int × ((List Int) × Unit)))))))) =>
               Sum.elim
                (fun (v22 : ((Bool × Unit) × Unit)) =>
                some ((.inl ((v22.1.1, @Unit.unit), @Unit.unit))))
                (fun (v22 : (((List Int) × (Int × (Int × ((List (Bool × (Int × ((List (Int × (List Int))) × (List Int))))) × ((List (List Int)) × (Int × (Int × Unit))))))) × (Bool × (Int × (Int × (Int × ((List Int) × Unit))))))) =>
                (X ((v22.1.1, (v22.1.2.1, ((((List.length v22.1.2.2.2.1) : Nat) : Int), (v22.1.2.2.1, (v22.1.2.2.2.2.1, (v22.1.2.2.2.2.2.1, ((Go.IntKind.wrap .i64 (v22.1.2.2.2.2.2.2.1 + (1 : Int))), @Unit.unit))))))), (v22.2.1, (v22.2.2.1, (v22.2.2.2.1, (v22.2.2.2.2.1, ((v22.2.2.2.2).snd.1, @Unit.unit)))))))) v21
              else
               bif (@cond Bool @Bool.false @Bool.true (!(decide (v18.2.2.2.2.1 = (0 : Int))))) then
                Option.bind (law19_ReframeWrites_L23_R N ((b0, ((Go.IntKind.wrap .i64 (n6 + (((List.length v14) : Nat) : Int))), (told7, (v16.2.2, (v16.1, ((v18.2.2.2.2).snd.1, (x28, (x29, (x30, ((((List.length (v18.2.2.2.2).snd.1) : Nat) : Int), ((0 : Int), @Unit.unit))))))))))), (v18.2.1, (v18.2.2.1, (v18.2.2.2.1, (v18.2.2.2.2.1, (v18.1.1, @Unit.unit))))))) fun (v21 : (((Bool × Unit) × Unit) ⊕ (((List Int) × (Int × (Int × ((List (Bool × (Int × ((List (Int × (List Int))) × (List Int))))) × ((List (List Int)) × (Int × (Int × Unit))))))) × (Bool × (Int × (Int × (Int × ((List Int) × Unit)))))))) =>
                Sum.elim
                 (fun (v22 : ((Bool × Unit) × Unit)) =>
                 some ((.inl ((v22.1.1, @Unit.unit), @Unit.unit))))
                 (fun (v22 : (((List Int) × (Int × (Int × ((List (Bool × (Int × ((List (Int × (List Int))) × (List Int))))) × ((List (List Int)) × (Int × (Int × Unit))))))) × (Bool × (Int × (Int × (Int × ((List Int) × Unit))))))) =>
                 (X ((v22.1.1, (v22.1.2.1, ((((List.length v22.1.2.2.2.1) : Nat) : Int), (v22.1.2.2.1, (v22.1.2.2.2.2.1, (v22.1.2.2.2.2.2.1, ((Go.IntKind.wrap .i64 (v22.1.2.2.2.2.2.2.1 + (1 : Int))), @Unit.unit))))))), (v22.2.1, (v22.2.2.1, (v22.2.2.2.1, (v22.2.2.2.2.1, ((v22.2.2.2.2).snd.1, @Unit.unit)))))))) v21
               else
                Option.bind (@packet_Length N v18.1.1) fun (v21 : (Int × Int)) =>
                bif (!(decide (v21.2 = (0 : Int)))) then
                 bif (@cond Bool @Bool.false @Bool.true (!(decide ((Go.IntKind.wrap .i64 ((4 : Int) - (((List.length v18.1.1) : Nat) : Int))) = (0 : Int))))) then
                  some ((.inl ((@Bool.false, @Unit.unit), @Unit.unit)))
                 else
                  Option.bind (law19_ReframeWrites_L23_R N ((b0, ((Go.IntKind.wrap .i64 (n6 + (((List.length v14) : Nat) : Int))), (told7, (v16.2.2, (v16.1, ((v18.2.2.2.2).snd.1, (x28, (x29, (x30, ((((List.length (v18.2.2.2.2).snd.1) : Nat) : Int), ((0 : Int), @Unit.unit))))))))))), (v18.2.1, (v18.2.2.1, (v18.2.2.2.1, (v18.2.2.2.2.1, (v18.1.1, @Unit.unit))))))) fun (v22 : (((Bool × Unit) × Unit) ⊕ (((List Int) × (Int × (Int × ((List (Bool × (Int × ((List (Int × (List Int))) × (List Int))))) × ((List (List Int)) × (Int × (Int × Unit))))))) × (Bool × (Int × (Int × (Int × ((List Int) × Unit)))))))) =>
                  Sum.elim
                   (fun (v23 : ((Bool × Unit) × Unit)) =>
                   some ((.inl ((v23.1.1, @Unit.unit), @Unit.unit))))
                   (fun (v23 : (((List Int) × (Int × (Int × ((List (Bool × (Int × ((List (Int × (List Int))) × (List Int))))) × ((List (List Int)) × (Int × (Int × Unit))))))) × (Bool × (Int × (Int × (Int × ((List Int) × Unit))))))) =>
                   (X ((v23.1.1, (v23.1.2.1, ((((List.length v23.1.2.2.2.1) : Nat) : Int), (v23.1.2.2.1, (v23.1.2.2.2.2.1, (v23.1.2.2.2.2.2.1, ((Go.IntKind.wrap .i64 (v23.1.2.2.2.2.2.2.1 + (1 : Int))), @Unit.unit))))))), (v23.2.1, (v23.2.2.1, (v23.2.2.2.1, (v23.2.2.2.2.1, ((v23.2.2.2.2).snd.1, @Unit.unit)))))))) v22
                else
                 bif (@cond Bool @Bool.false @Bool.true (!(decide ((Go.IntKind.wrap .i64 (v21.1 - (((List.length v18.1.1) : Nat) : Int))) = (0 : Int))))) then
                  some ((.inl ((@Bool.false, @Unit.unit), @Unit.unit)))
                 else
                  Option.bind (law19_ReframeWrites_L23_R N ((b0, ((Go.IntKind.wrap .i64 (n6 + (((List.length v14) : Nat) : Int))), (told7, (v16.2.2, (v16.1, ((v18.2.2.2.2).snd.1, (x28, (x29, (x30, ((((List.length (v18.2.2.2.2).snd.1) : Nat) : Int), ((0 : Int), @Unit.unit))))))))))), (v18.2.1, (v18.2.2.1, (v18.2.2.2.1, (v18.2.2.2.2.1, (v18.1.1, @Unit.unit))))))) fun (v22 : (((Bool × Unit) × Unit) ⊕ (((List Int) × (Int × (Int × ((List (Bool × (Int × ((List (Int × (List Int))) × (List Int))))) × ((List (List Int)) × (Int × (Int × Unit))))))) × (Bool × (Int × (Int × (Int × ((List Int) × Unit)))))))) =>
                  Sum.elim
                   (fun (v23 : ((Bool × Unit) × Unit)) =>
                   some ((.inl ((v23.1.1, @Unit.unit), @Unit.unit))))
                   (fun (v23 : (((List Int) × (Int × (Int × ((List (Bool × (Int × ((List (Int × (List Int))) × (List Int))))) × ((List (List Int)) × (Int × (Int × Unit))))))) × (Bool × (Int × (Int × (Int × ((List Int) × Unit))))))) =>
                   (X ((v23.1.1, (v23.1.2.1, ((((List.length v23.1.2.2.2.1) : Nat) : Int), (v23.1.2.2.1, (v23.1.2.2.2.2.1, (v23.1.2.2.2.2.2.1, ((Go.IntKind.wrap .i64 (v23.1.2.2.2.2.2.2.1 + (1 : Int))), @Unit.unit))))))), (v23.2.1, (v23.2.2.1, (v23.2.2.2.1, (v23.2.2.2.2.1, ((v23.2.2.2.2).snd.1, @Unit.unit)))))))) v22
        else
         bif (!(decide ((((List.length (v18.2.2.2.2).snd.1) : Nat) : Int) = (Go.IntKind.wrap .i64 ((((List.length v16.1) : Nat) : Int) - told7))))) then
          some ((.inl ((@Bool.false, @Unit.unit), @Unit.unit)))
         else
          bif (@cond Bool @Bool.false @Bool.true (!(decide ((0 : Int) = v16.2.2)))) then
           some ((.inl ((@Bool.false, @Unit.unit), @Unit.unit)))
          else
           bif (@cond Bool @Bool.false @Bool.true (!(decide (v18.2.2.2.1 = v16.2.1)))) then
            some ((.inl ((@Bool.false, @Unit.unit), @Unit.unit)))
           else
            bif (@cond Bool @Bool.false @Bool.true (!(decide (v18.2.2.1 = (((List.length v16.1) : Nat) : Int))))) then
             some ((.inl ((@Bool.false, @Unit.unit), @Unit.unit)))
            else
             bif (@cond Bool @Bool.false @Bool.true (!(decide ((((List.length v18.1.1) : Nat) : Int) = (Go.IntKind.wrap .i64 ((Go.IntKind.wrap .i64 (n6 + (((List.length v14) : Nat) : Int))) - v16.2.1)))))) then
              some ((.inl ((@Bool.false, @Unit.unit), @Unit.unit)))
             else
              bif (@cond Bool @Bool.false @Bool.true (!v18.2.1)) then
               bif (@cond Bool @Bool.false @Bool.true (!(decide ((0 : Int) = v20)))) then
                some ((.inl ((@Bool.false, @Unit.unit), @Unit.unit)))
               else
                Option.bind (law19_ReframeWrites_L23_R N ((b0, ((Go.IntKind.wrap .i64 (n6 + (((List.length v14) : Nat) : Int))), (told7, (v16.2.2, (v16.1, ((v18.2.2.2.2).snd.1, (x28, (x29, (x30, ((((List.length (v18.2.2.2.2).snd.1) : Nat) : Int), ((0 : Int), @Unit.unit))))))))))), (v18.2.1, (v18.2.2.1, (v18.2.2.2.1, (v18.2.2.2.2.1, (v18.1.1, @Unit.unit))))))) fun (v21 : (((Bool × Unit) × Unit) ⊕ (((List Int) × (Int × (Int × ((List (Bool × (Int × ((List (Int × (List Int))) × (List Int))))) × ((List (List Int)) × (Int × (Int × Unit))))))) × (Bool × (Int × (Int × (Int × ((List Int) × Unit)))))))) =>
                Sum.elim
                 (fun (v22 : ((Bool × Unit) × Unit)) =>
                 some ((.inl ((v22.1.1, @Unit.unit), @Unit.unit))))
                 (fun (v22 : (((List Int) × (Int × (Int × ((List (Bool × (Int × ((List (Int × (List Int))) × (List Int))))) × ((List (List Int)) × (Int × (Int × Unit))))))) × (Bool × (Int × (Int × (Int × ((List Int) × Unit))))))) =>
                 (X ((v22.1.1, (v22.1.2.1, ((((List.length v22.1.2.2.2.1) : Nat) : Int), (v22.1.2.2.1, (v22.1.2.2.2.2.1, (v22.1.2.2.2.2.2.1, ((Go.IntKind.wrap .i64 (v22.1.2.2.2.2.2.2.1 + (1 : Int))), @Unit.unit))))))), (v22.2.1, (v22.2.2.1, (v22.2.2.2.1, (v22.2.2.2.2.1, ((v22.2.2.2.2).snd.1, @Unit.unit)))))))) v21
              else
               bif (@cond Bool @Bool.false @Bool.true (!(decide (v18.2.2.2.2.1 = (0 : Int))))) then
                bif (@cond Bool @Bool.false @Bool.true (!(decide ((0 : Int) = v20)))) then
                 some ((.inl ((@Bool.false, @Unit.unit), @Unit.unit)))
                else
                 Option.bind (law19_ReframeWrites_L23_R N ((b0, ((Go.IntKind.wrap .i64 (n6 + (((List.length v14) : Nat) : Int))), (told7, (v16.2.2, (v16.1, ((v18.2.2.2.2).snd.1, (x28, (x29, (x30, ((((List.length (v18.2.2.2.2).snd.1) : Nat) : Int), ((0 : Int), @Unit.unit))))))))))), (v18.2.1, (v18.2.2.1, (v18.2.2.2.1, (v18.2.2.2.2.1, (v18.1.1, @Unit.unit))))))) fun (v21 : (((Bool × Unit) × Unit) ⊕ (((List Int) × (Int × (Int × ((List (Bool × (Int × ((List (Int × (List Int))) × (List Int))))) × ((List (List Int)) × (Int × (Int × Unit))))))) × (Bool × (Int × (Int × (Int × ((List Int) × Unit)))))))) =>
                 Sum.elim
                  (fun (v22 : ((Bool × Unit) × Unit)) =>
                  some ((.inl ((v22.1.1, @Unit.unit), @Unit.unit))))
                  (fun (v22 : (((List Int) × (Int × (Int × ((List (Bool × (Int × ((List (Int × (List Int))) × (List Int))))) × ((List (List Int)) × (Int × (Int × Unit))))))) × (Bool × (Int × (Int × (Int × ((List Int) × Unit))))))) =>
                  (X ((v22.1.1, (v22.1.2.1, ((((List.length v22.1.2.2.2.1) : Nat) : Int), (v22.1.2.2.1, (v22.1.2.2.2.2.1, (v22.1.2.2.2.2.2.1, ((Go.IntKind.wrap .i64 (v22.1.2.2.2.2.2.2.1 + (1 : Int))), @Unit.unit))))))), (v22.2.1, (v22.2.2.1, (v22.2.2.2.1, (v22.2.2.2.2.1, ((v22.2.2.2.2).snd.1, @Unit.unit)))))))) v21
               else
                Option.bind (@packet_Length N v18.1.1) fun (v21 : (Int × Int)) =>
                bif (!(decide (v21.2 = (0 : Int)))) then
                 bif (@cond Bool @Bool.false @Bool.true (!(decide ((Go.IntKind.wrap .i64 ((4 : Int) - (((List.length v18.1.1) : Nat) : Int))) = v20)))) then
                  some ((.inl ((@Bool.false, @Unit.unit), @Unit.unit)))
                 else
                  Option.bind (law19_ReframeWrites_L23_R N ((b0, ((Go.IntKind.wrap .i64 (n6 + (((List.length v14) : Nat) : Int))), (told7, (v16.2.2, (v16.1, ((v18.2.2.2.2).snd.1, (x28, (x29, (x30, ((((List.length (v18.2.2.2.2).snd.1) : Nat) : Int), ((0 : Int), @Unit.unit))))))))))), (v18.2.1, (v18.2.2.1, (v18.2.2.2.1, (v18.2.2.2.2.1, (v18.1.1, @Unit.unit))))))) fun (v22 : (((Bool × Unit) × Unit) ⊕ (((List Int) × (Int × (Int × ((List (Bool × (Int × ((List (Int × (List Int))) × (List Int))))) × ((List (List Int)) × (Int × (Int × Unit))))))) × (Bool × (Int × (Int × (Int × ((List Int) × Unit)))))))) =>
                  Sum.elim
                   (fun (v23 : ((Bool × Unit) × Unit)) =>
                   some ((.inl ((v23.1.1, @Unit.unit), @Unit.unit))))
                   (fun (v23 : (((List Int) × (Int × (Int × ((List (Bool × (Int × ((List (Int × (List Int))) × (List Int))))) × ((List (List Int)) × (Int × (Int × Unit))))))) × (Bool × (Int × (Int × (Int × ((List Int) × Unit))))))) =>
                   (X ((v23.1.1, (v23.1.2.1, ((((List.length v23.1.2.2.2.1) : Nat) : Int), (v23.1.2.2.1, (v23.1.2.2.2.2.1, (v23.1.2.2.2.2.2.1, ((Go.IntKind.wrap .i64 (v23.1.2.2.2.2.2.2.1 + (1 : Int))), @Unit.unit))))))), (v23.2.1, (v23.2.2.1, (v23.2.2.2.1, (v23.2.2.2.2.1, ((v23.2.2.2.2).snd.1, @Unit.unit)))))))) v22
                else
                 bif (@cond Bool @Bool.false @Bool.true (!(decide ((Go.IntKind.wrap .i64 (v21.1 - (((List.length v18.1.1) : Nat) : Int))) = v20)))) then
                  some ((.inl ((@Bool.false, @Unit.unit), @Unit.unit)))
                 else
                  Option.bind (law19_ReframeWrites_L23_R N ((b0, ((Go.IntKind.wrap .i64 (n6 + (((List.length v14) : Nat) : Int))), (told7, (v16.2.2, (v16.1, ((v18.2.2.2.2).snd.1, (x28, (x29, (x30, ((((List.length (v18.2.2.2.2).snd.1) : Nat) : Int), ((0 : Int), @Unit.unit))))))))))), (v18.2.1, (v18.2.2.1, (v18.2.2.2.1, (v18.2.2.2.2.1, (v18.1.1, @Unit.unit))))))) fun (v22 : (((Bool × Unit) × Unit) ⊕ (((List Int) × (Int × (Int × ((List (Bool × (Int × ((List (Int × (List Int))) × (List Int))))) × ((List (List Int)) × (Int × (Int × Unit))))))) × (Bool × (Int × (Int × (Int × ((List Int) × Unit)))))))) =>
                  Sum.elim
                   (fun (v23 : ((Bool × Unit) × Unit)) =>
                   some ((.inl ((v23.1.1, @Unit.unit), @Unit.unit))))
                   (fun (v23 : (((List Int) × (Int × (Int × ((List (Bool × (Int × ((List (Int × (List Int))) × (List Int))))) × ((List (List Int)) × (Int × (Int × Unit))))))) × (Bool × (Int × (Int × (Int × ((List Int) × Unit))))))) =>
                   (X ((v23.1.1, (v23.1.2.1, ((((List.length v23.1.2.2.2.1) : Nat) : Int), (v23.1.2.2.1, (v23.1.2.2.2.2.1, (v23.1.2.2.2.2.2.1, ((Go.IntKind.wrap .i64 (v23.1.2.2.2.2.2.2.1 + (1 : Int))), @Unit.unit))))))), (v23.2.1, (v23.2.2.1, (v23.2.2.2.1, (v23.2.2.2.2.1, ((v23.2.2.2.2).snd.1, @Unit.unit)))))))) v22
      else
       none)
      (fun (v18 : (((List (Bool × (Int × ((List (Int × (List Int))) × (List Int))))) × (Int × Unit)) × (Bool × (Int × (Int × (Int × Unit)))))) =>
      bif (!(decide (broken8 = (0 : Int)))) then
       bif (!(decide ((((List.length v18.1.1) : Nat) : Int) = (0 : Int)))) then
        some ((.inl ((@Bool.false, @Unit.unit), @Unit.unit)))
       else
        bif (@cond Bool @Bool.false @Bool.true (!(decide (v18.1.2.1 = broken8)))) then
         some ((.inl ((@Bool.false, @Unit.unit), @Unit.unit)))
        else
         (X ((b0, ((Go.IntKind.wrap .i64 (n6 + (((List.length v14) : Nat) : Int))), (told7, (broken8, (x28, (x29, ((Go.IntKind.wrap .i64 (x30 + (1 : Int))), @Unit.unit))))))), (v18.2.1, (v18.2.2.1, (v18.2.2.2.1, (v18.2.2.2.2.1, (([] : List (Int)), @Unit.unit)))))))
      else
       Option.bind (subI b0 v16.2.1 (Go.IntKind.wrap .i64 (n6 + (((List.length v14) : Nat) : Int)))) fun (v19 : (List Int)) =>
       Option.bind (@ref19_Wants N v19) fun (v20 : Int) =>
       bif (!(decide (v16.2.2 = (0 : Int)))) then
        bif (!(decide ((((List.length v18.1.1) : Nat) : Int) = (Go.IntKind.wrap .i64 ((((List.length v16.1) : Nat) : Int) - told7))))) then
         some ((.inl ((@Bool.false, @Unit.unit), @Unit.unit)))
        else
         bif (@cond Bool @Bool.false @Bool.true (!(decide (v18.1.2.1 = v16.2.2)))) then
          some ((.inl ((@Bool.false, @Unit.unit), @Unit.unit)))
         else
          bif (@cond Bool @Bool.false @Bool.true (!(decide (v18.2.2.2.1 = v16.2.1)))) then
           some ((.inl ((@Bool.false, @Unit.unit), @Unit.unit)))
          else
           bif (@cond Bool @Bool.false @Bool.true (!(decide (v18.2.2.1 = (((List.length v16.1) : Nat) : Int))))) then
            some ((.inl ((@Bool.false, @Unit.unit), @Unit.unit)))
           else
            bif (@cond Bool @Bool.false @Bool.true (!v18.2.1)) then
             Option.bind (law19_ReframeWrites_L23_R N ((b0, ((Go.IntKind.wrap .i64 (n6 + (((List.length v14) : Nat) : Int))), (told7, (v16.2.2, (v16.1, (v18.1.1, (x28, (x29, (x30, ((((List.length v18.1.1) : Nat) : Int), ((0 : Int), @Unit.unit))))))))))), (v18.2.1, (v18.2.2.1, (v18.2.2.2.1, (v18.2.2.2.2.1, (([] : List (Int)), @Unit.unit))))))) fun (v21 : (((Bool × Unit) × Unit) ⊕ (((List Int) × (Int × (Int × ((List (Bool × (Int × ((List (Int × (List Int))) × (List Int))))) × ((List (List Int)) × (Int × (Int × Unit))))))) × (Bool × (Int × (Int × (Int × ((List Int) × Unit)))))))) =>
             Sum.elim
              (fun (v22 : ((Bool × Unit) × Unit)) =>
              some ((.inl ((v22.1.1, @Unit.unit), @Unit.unit))))
              (fun (v22 : (((List Int) × (Int × (Int × ((List (Bool × (Int × ((List (Int × (List Int))) × (List Int))))) × ((List (List Int)) × (Int × (Int × Unit))))))) × (Bool × (Int × (Int × (Int × ((List Int) × Unit))))))) =>
              (X ((v22.1.1, (v22.1.2.1, ((((List.length v22.1.2.2.2.1) : Nat) : Int), (v22.1.2.2.1, (v22.1.2.2.2.2.1, (v22.1.2.2.2.2.2.1, ((Go.IntKind.wrap .i64 (v22.1.2.2.2.2.2.2.1 + (1 : Int))), @Unit.unit))))))), (v22.2.1, (v22.2.2.1, (v22.2.2.2.1, (v22.2.2.2.2.1, ((v22.2.2.2.2).snd.1, @Unit.unit)))))))) v21
            else
             bif (@cond Bool @Bool.false @Bool.true (!(decide (v18.2.2.2.2.1 = (0 : Int))))) then
              Option.bind (law19_ReframeWrites_L23_R N ((b0, ((Go.IntKind.wrap .i64 (n6 + (((List.length v14) : Nat) : Int))), (told7, (v16.2.2, (v16.1, (v18.1.1, (x28, (x29, (x30, ((((List.length v18.1.1) : Nat) : Int), ((0 : Int), @Unit.unit))))))))))), (v18.2.1, (v18.2.2.1, (v18.2.2.2.1, (v18.2.2.2.2.1, (([] : List (Int)), @Unit.unit))))))) fun (v21 : (((Bool × Unit) × Unit) ⊕ (((List Int) × (Int × (Int × ((List (Bool × (Int × ((List (Int × (List Int))) × (List Int))))) × ((List (List Int)) × (Int × (Int × Unit))))))) × (Bool × (Int × (Int × (Int × ((List Int) × Unit)))))))) =>
              Sum.elim
               (fun (v22 : ((Bool × Unit) × Unit)) =>
               some ((.inl ((v22.1.1, @Unit.unit), @Unit.unit))))
               (fun (v22 : (((List Int) × (Int × (Int × ((List (Bool × (Int × ((List (Int × (List Int))) × (List Int))))) × ((List (List Int)) × (Int × (Int × Unit))))))) × (Bool × (Int × (Int × (Int × ((List Int) × Unit))))))) =>
               (X ((v22.1.1, (v22.1.2.1, ((((List.length v22.1.2.2.2.1) : Nat) : Int), (v22.1.2.2.1, (v22.1.2.2.2.2.1, (v22.1.2.2.2.2.2.1, ((Go.IntKind.wrap .i64 (v22.1.2.2.2.2.2.2.1 + (1 : Int))), @Unit.unit))))))), (v22.2.1, (v22.2.2.1, (v22.2.2.2.1, (v22.2.2.2.2.1, ((v22.2.2.2.2).snd.1, @Unit.unit)))))))) v21
             else
              some ((.inl ((@Bool.false, @Unit.unit), @Unit.unit)))
       else
        bif (!(decide ((((List.length v18.1.1) : Nat) : Int) = (Go.IntKind.wrap .i64 ((((List.length v16.1) : Nat) : Int) - told7))))) then
         some ((.inl ((@Bool.false, @Unit.unit), @Unit.unit)))
        else
         bif (@cond Bool @Bool.false @Bool.true (!(decide (v18.1.2.1 = v16.2.2)))) then
          some ((.inl ((@Bool.false, @Unit.unit), @Unit.unit)))
         else
          bif (@cond Bool @Bool.false @Bool.true (!(decide (v18.2.2.2.1 = v16.2.1)))) then
           some ((.inl ((@Bool.false, @Unit.unit), @Unit.unit)))
          else
           bif (@cond Bool @Bool.false @Bool.true (!(decide (v18.2.2.1 = (((List.length v16.1) : Nat) : Int))))) then
            some ((.inl ((@Bool.false, @Unit.unit), @Unit.unit)))
           else
            bif (@cond Bool @Bool.false @Bool.true (!(decide ((((List.length ([] : List (Int))) : Nat) : Int) = (Go.IntKind.wrap .i64 ((Go.IntKind.wrap .i64 (n6 + (((List.length v14) : Nat) : Int))) - v16.2.1)))))) then
             some ((.inl ((@Bool.false, @Unit.unit), @Unit.unit)))
            else
             bif (@cond Bool @Bool.false @Bool.true (!v18.2.1)) then
              bif (@cond Bool @Bool.false @Bool.true (!(decide ((0 : Int) = v20)))) then
               some ((.inl ((@Bool.false, @Unit.unit), @Unit.unit)))
              else
               Option.bind (law19_ReframeWrites_L23_R N ((b0, ((Go.IntKind.wrap .i64 (n6 + (((List.length v14) : Nat) : Int))), (told7, (v16.2.2, (v16.1, (v18.1.1, (x28, (x29, (x30, ((((List.length v18.1.1) : Nat) : Int), ((0 : Int), @Unit.unit))))))))))), (v18.2.1, (v18.2.2.1, (v18.2.2.2.1, (v18.2.2.2.2.1, (([] : List (Int)), @Unit.unit))))))) fun (v21 : (((Bool × Unit) × Unit) ⊕ (((List Int) × (Int × (Int × ((List (Bool × (Int × ((List (Int × (List Int))) × (List Int))))) × ((List (List Int)) × (Int × (Int × Unit))))))) × (Bool × (Int × (Int × (Int × ((List Int) × Unit)))))))) =>
               Sum.elim
                (fun (v22 : ((Bool × Unit) × Unit)) =>
                some ((.inl ((v22.1.1, @Unit.unit), @Unit.unit))))
                (fun (v22 : (((List Int) × (Int × (Int × ((List (Bool × (Int × ((List (Int × (List Int))) × (List Int))))) × ((List (List Int)) × (Int × (Int × Unit))))))) × (Bool × (Int × (Int × (Int × ((List Int) × Unit))))))) =>
                (X ((v22.1.1, (v22.1.2.1, ((((List.length v22.1.2.2.2.1) : Nat) : Int), (v22.1.2.2.1, (v22.1.2.2.2.2.1, (v22.1.2.2.2.2.2.1, ((Go.IntKind.wrap .i64 (v22.1.2.2.2.2.2.2.1 + (1 : Int))), @Unit.unit))))))), (v22.2.1, (v22.2.2.1, (v22.2.2.2.1, (v22.2.2.2.2.1, ((v22.2.2.2.2).snd.1, @Unit.unit)))))))) v21
             else
              bif (@cond Bool @Bool.false @Bool.true (!(decide (v18.2.2.2.2.1 = (0 : Int))))) then
               bif (@cond Bool @Bool.false @Bool.true (!(decide ((0 : Int) = v20)))) then
                some ((.inl ((@Bool.false, @Unit.unit), @Unit.unit)))
               else
                Option.bind (law19_ReframeWrites_L23_R N ((b0, ((Go.IntKind.wrap .i64 (n6 + (((List.length v14) : Nat) : Int))), (told7, (v16.2.2, (v16.1, (v18.1.1, (x28, (x29, (x30, ((((List.length v18.1.1) : Nat) : Int), ((0 : Int), @Unit.unit))))))))))), (v18.2.1, (v18.2.2.1, (v18.2.2.2.1, (v18.2.2.2.2.1, (([] : List (Int)), @Unit.unit))))))) fun (v21 : (((Bool × Unit) × Unit) ⊕ (((List Int) × (Int × (Int × ((List (Bool × (Int × ((List (Int × (List Int))) × (List Int))))) × ((List (List Int)) × (Int × (Int × Unit))))))) × (Bool × (Int × (Int × (Int × ((List Int) × Unit)))))))) =>
                Sum.elim
                 (fun (v22 : ((Bool × Unit) × Unit)) =>
                 some ((.inl ((v22.1.1, @Unit.unit), @Unit.unit))))
                 (fun (v22 : (((List Int) × (Int × (Int × ((List (Bool × (Int × ((List (Int × (List Int))) × (List Int))))) × ((List (List Int)) × (Int × (Int × Unit))))))) × (Bool × (Int × (Int × (Int × ((List Int) × Unit))))))) =>
                 (X ((v22.1.1, (v22.1.2.1, ((((List.length v22.1.2.2.2.1) : Nat) : Int), (v22.1.2.2.1, (v22.1.2.2.2.2.1, (v22.1.2.2.2.2.2.1, ((Go.IntKind.wrap .i64 (v22.1.2.2.2.2.2.2.1 + (1 : Int))), @Unit.unit))))))), (v22.2.1, (v22.2.2.1, (v22.2.2.2.1, (v22.2.2.2.2.1, ((v22.2.2.2.2).snd.1, @Unit.unit)))))))) v21
              else
               bif (@cond Bool @Bool.false @Bool.true (!(decide ((Go.IntKind.wrap .i64 ((4 : Int) - (((List.length ([] : List (Int))) : Nat) : Int))) = v20)))) then
                some ((.inl ((@Bool.false, @Unit.unit), @Unit.unit)))
               else
                Option.bind (law19_ReframeWrites_L23_R N ((b0, ((Go.IntKind.wrap .i64 (n6 + (((List.length v14) : Nat) : Int))), (told7, (v16.2.2, (v16.1, (v18.1.1, (x28, (x29, (x30, ((((List.length v18.1.1) : Nat) : Int), ((0 : Int), @Unit.unit))))))))))), (v18.2.1, (v18.2.2.1, (v18.2.2.2.1, (v18.2.2.2.2.1, (([] : List (Int)), @Unit.unit))))))) fun (v21 : (((Bool × Unit) × Unit) ⊕ (((List Int) × (Int × (Int × ((List (Bool × (Int × ((List (Int × (List Int))) × (List Int))))) × ((List (List Int)) × (Int × (Int × Unit))))))) × (Bool × (Int × (Int × (Int × ((List Int) × Unit)))))))) =>
                Sum.elim
                 (fun (v22 : ((Bool × Unit) × Unit)) =>
                 some ((.inl ((v22.1.1, @Unit.unit), @Unit.unit))))
                 (fun (v22 : (((List Int) × (Int × (Int × ((List (Bool × (Int × ((List (Int × (List Int))) × (List Int))))) × ((List (List Int)) × (Int × (Int × Unit))))))) × (Bool × (Int × (Int × (Int × ((List Int) × Unit))))))) =>
                 (X ((v22.1.1, (v22.1.2.1, ((((List.length v22.1.2.2.2.1) : Nat) : Int), (v22.1.2.2.1, (v22.1.2.2.2.2.1, (v22.1.2.2.2.2.2.1, ((Go.IntKind.wrap .i64 (v22.1.2.2.2.2.2.2.1 + (1 : Int))), @Unit.unit))))))), (v22.2.1, (v22.2.2.1, (v22.2.2.2.1, (v22.2.2.2.2.1, ((v22.2.2.2.2).snd.1, @Unit.unit)))))))) v21) v17
    else
     none
 else
  some ((.inr (@Unit.unit, @Unit.unit)))
noncomputable def law19_ReframeWrites_L8_R (N : Nat) (c : (((List (Int)) × ((Int) × ((Int) × ((Int) × ((List (List (Int))) × ((Int) × ((Int) × Unit))))))) × ((Bool) × ((Int) × ((Int) × ((Int) × ((List (Int)) × Unit))))))) : Option (((((Bool) × Unit) × Unit) ⊕ (Unit × Unit))) := gl (fun X c => law19_ReframeWrites_L8 N X c.1.1 c.1.2.1 c.1.2.2.1 c.1.2.2.2.1 c.1.2.2.2.2.1 c.1.2.2.2.2.2.1 c.1.2.2.2.2.2.2.1 c.2.1 c.2.2.1 c.2.2.2.1 c.2.2.2.2.1 c.2.2.2.2.2.1) N c
theorem law19_ReframeWrites_L8_S (N : Nat) (X : (((List (Int)) × ((Int) × ((Int) × ((Int) × ((List (List (Int))) × ((Int) × ((Int) × Unit))))))) × ((Bool) × ((Int) × ((Int) × ((Int) × ((List (Int)) × Unit)))))) → Option (((((Bool) × Unit) × Unit) ⊕ (Unit × Unit)))) (b0 : List (Int)) (n6 : Int) (told7 : Int) (broken8 : Int) (x28 : List (List (Int))) (x29 : Int) (x30 : Int) (h0 : Bool) (h1 : Int) (h2 : Int) (h3 : Int) (h4 : List (Int)) : (roundK Go.Proofs.Try.prog (Ev71 N) 400 [3] law19_ReframeWrites_L8_I (loopAt Go.Proofs.Try.prog [3] 8) X ((b0, n6, told7, broken8, x28, x29, x30, ()), (h0, h1, h2, h3, h4, ()))).run = law19_ReframeWrites_L8 N X b0 n6 told7 broken8 x28 x29 x30 h0 h1 h2 h3 h4 := by kernel_rfl
noncomputable def Ev72 (N : Nat) : (R : Type) → Env R := Env.addLp (Ev71 N) [3] 0 8 (fun R => lpK Go.Proofs.Try.prog law19_ReframeWrites_L8_I (fun X c => law19_ReframeWrites_L8 N X c.1.1 c.1.2.1 c.1.2.2.1 c.1.2.2.2.1 c.1.2.2.2.2.1 c.1.2.2.2.2.2.1 c.1.2.2.2.2.2.2.1 c.2.1 c.2.2.1 c.2.2.2.1 c.2.2.2.2.1 c.2.2.2.2.2.1) N)
theorem Ev72_ok (N : Nat) (R : Type) : EnvOK Go.Proofs.Try.prog (Ev72 N R) := EnvOK.addLp (Ev71_ok N R) (by kernel_rfl) (lpK_ok (li := law19_ReframeWrites_L8_I) (G := fun X c => law19_ReframeWrites_L8 N X c.1.1 c.1.2.1 c.1.2.2.1 c.1.2.2.2.1 c.1.2.2.2.2.1 c.1.2.2.2.2.2.1 c.1.2.2.2.2.2.2.1 c.2.1 c.2.2.1 c.2.2.2.1 c.2.2.2.2.1 c.2.2.2.2.2.1) hmx (Ev71_ok N _) (by kernel_rfl) loopAt_sub (fun (X : CT law19_ReframeWrites_L8_I.sh → Option (OT law19_ReframeWrites_L8_I.outs)) (c : CT law19_ReframeWrites_L8_I.sh) => law19_ReframeWrites_L8_S N X c.1.1 c.1.2.1 c.1.2.2.1 c.1.2.2.2.1 c.1.2.2.2.2.1 c.1.2.2.2.2.2.1 c.1.2.2.2.2.2.2.1 c.2.1 c.2.2.1 c.2.2.2.1 c.2.2.2.2.1 c.2.2.2.2.2.1) N)
noncomputable def law19_ReframeWrites (N : Nat) (b0 : List (Int)) (x1 : List (Int)) : Option (Bool) :=
 bif (decide ((9000 : Int) < (((List.length b0) : Nat) : Int))) then
  Option.bind (@law19_alive N) fun (v3 : Bool) =>
  some (v3)
 else
  Option.bind (@law19_cuts N b0 x1) fun (v3 : (List (List Int))) =>
  Option.bind (law19_ReframeWrites_L8_R N ((b0, ((0 : Int), ((0 : Int), ((0 : Int), (v3, ((((List.length v3) : Nat) : Int), ((0 : Int), @Unit.unit))))))), (@Bool.true, ((0 : Int), ((0 : Int), ((0 : Int), (([] : List (Int)), @Unit.unit))))))) fun (v4 : (((Bool × Unit) × Unit) ⊕ (Unit × Unit))) =>
  Sum.elim
   (fun (v5 : ((Bool × Unit) × Unit)) =>
   some (v5.1.1))
   (fun (v5 : (Unit × Unit)) =>
   Option.bind (@law19_alive N) fun (v6 : Bool) =>
   some (v6)) v4
theorem law19_ReframeWrites_S (N : Nat) (b0 : List (Int)) (x1 : List (Int)) : (runK Go.Proofs.Try.prog (Ev72 N) 400 3 [(.sl (.int .u8)), (.sl (.int .u16))] [.bool] (b0, x1, ())).run = law19_ReframeWrites N b0 x1 := by kernel_rfl
theorem law19_ReframeWrites_C (N : Nat) (b0 : List (Int)) (x1 : List (Int)) (y : Bool) (h : law19_ReframeWrites N b0 x1 = some y) : CallsK Go.Proofs.Try.prog 3 (valA [(.sl (.int .u8)), (.sl (.int .u16))] (b0, x1, ())) (tupV (valR [.bool] y)) := runK_ok hmx (Ev72_ok N _) (okFn_ok (by kernel_rfl)) (by rw [law19_ReframeWrites_S]; exact h)
noncomputable def Ev73 (N : Nat) : (R : Type) → Env R := Env.addFn (Ev72 N) 3 (fun R => fnK [(.sl (.int .u8)), (.sl (.int .u16))] [.bool] (fun c => law19_ReframeWrites N c.1 c.2.1))
theorem Ev73_ok (N : Nat) (R : Type) : EnvOK Go.Proofs.Try.prog (Ev73 N R) := EnvOK.addFn hmx (Ev72_ok N R) (Ev72_ok N _) (by kernel_rfl) (fun c => law19_ReframeWrites_S N c.1 c.2.1)
end Go.Proofs.Ytpijcgohhjgdbaa
