/-
  Parts of my own, one behind the other: GLcpo, QLF0, QLF1, QLF2, QLF3, QLF4, QLF5.
-/
import Derived.Test.YtcmekgfglohooaaMrg4
/-
  Functions of the program as plain functions on typed data, and that they are so. Printed by a program of mine.
-/
namespace Go.Proofs.Ytcmekgfglohooaa
open Go.RowKit
set_option linter.unusedVariables false
set_option maxRecDepth 100000
theorem hmx : Go.Proofs.Try.prog.follows .mixedOrders = true := by kernel_rfl
noncomputable def Ev0 (N : Nat) : (R : Type) → Env R := Env.addInl env0 [77, 76, 67, 79]
theorem Ev0_ok (N : Nat) (R : Type) : EnvOK Go.Proofs.Try.prog (Ev0 N R) := EnvOK.addInl (env0_ok R) (by kernel_rfl)
noncomputable def Ev1 (N : Nat) : (R : Type) → Env R := Env.addBx (Ev0 N) [(77, 0)]
theorem Ev1_ok (N : Nat) (R : Type) : EnvOK Go.Proofs.Try.prog (Ev1 N R) := EnvOK.addBx (Ev0_ok N R) [(77, 0)]
noncomputable def Ev2 (N : Nat) : (R : Type) → Env R := Env.addBx (Ev1 N) [(79, 0)]
theorem Ev2_ok (N : Nat) (R : Type) : EnvOK Go.Proofs.Try.prog (Ev2 N R) := EnvOK.addBx (Ev1_ok N R) [(79, 0)]
noncomputable def octs_place (N : Nat) (i0 : Int) (width1 : Int) (little2 : Bool) : Option (Int) :=
 bif little2 then
  some (i0)
 else
  some ((Go.IntKind.wrap .i64 ((Go.IntKind.wrap .i64 (width1 - (1 : Int))) - i0)))
theorem octs_place_S (N : Nat) (i0 : Int) (width1 : Int) (little2 : Bool) : (runK Go.Proofs.Try.prog (Ev2 N) 400 80 [(.int .i64), (.int .i64), .bool] [(.int .i64)] (i0, width1, little2, ())).run = octs_place N i0 width1 little2 := by kernel_rfl
noncomputable def Ev3 (N : Nat) : (R : Type) → Env R := Env.addFn (Ev2 N) 80 (fun R => fnK [(.int .i64), (.int .i64), .bool] [(.int .i64)] (fun c => octs_place N c.1 c.2.1 c.2.2.1))
theorem Ev3_ok (N : Nat) (R : Type) : EnvOK Go.Proofs.Try.prog (Ev3 N R) := EnvOK.addFn hmx (Ev2_ok N R) (Ev2_ok N _) (by kernel_rfl) (fun c => octs_place_S N c.1 c.2.1 c.2.2.1)
noncomputable def octs_Put_L5_I : LI := ⟨35, 0, [], ⟨[(0, .ty (.int .u64)), (1, .ty (.int .i64)), (2, .ty .bool), (8, .lit (.own 0)), (19, .ty (.int .i64)), (20, .ty (.int .i64))], [.own (.int .u8) 5]⟩, [(.exit 0, ⟨[(8, .lit (.own 0))], [.own (.int .u8) 5]⟩)]⟩
noncomputable def octs_Put_L5 (N : Nat) (X : (((Int) × ((Int) × ((Bool) × ((Int) × ((Int) × Unit))))) × ((List (Int)) × Unit)) → Option ((Unit × ((List (Int)) × Unit)))) (n0 : Int) (width1 : Int) (little2 : Bool) (x19 : Int) (x20 : Int) (h0 : List (Int)) : Option ((Unit × ((List (Int)) × Unit))) :=
 bif (decide (x20 < x19)) then
  Option.bind (@octs_place N x20 width1 little2) fun (v8 : Int) =>
  bif (decide ((0 : Int) ≤ v8 ∧ v8 < (((List.length h0) : Nat) : Int))) then
   Option.bind (@GetElem?.getElem? (List Int) Nat Int (fun (as9 : (List Int)) => (fun (i10 : Nat) => (@LT.lt Nat @instLTNat i10 (List.length as9)))) (@List.instGetElem?NatLtLength Int) h0 (Int.toNat v8)) fun (v9 : Int) =>
   (X (((@Int.fdiv n0 (@HPow.hPow Int Nat Int (@instHPow Int Nat (@instPowNat Int @Int.instNatPow)) (2 : Int) (@Min.min Nat @instMinNat (Int.toNat (8 : Int)) (@Go.IntKind.bits @Go.IntKind.u64)))), (width1, (little2, (x19, ((Go.IntKind.wrap .i64 (x20 + (1 : Int))), @Unit.unit))))), ((@List.set Int h0 (Int.toNat v8) (Go.IntKind.wrap .u8 n0)), @Unit.unit)))
  else
   none
 else
  some ((@Unit.unit, (h0, @Unit.unit)))
noncomputable def octs_Put_L5_R (N : Nat) (c : (((Int) × ((Int) × ((Bool) × ((Int) × ((Int) × Unit))))) × ((List (Int)) × Unit))) : Option ((Unit × ((List (Int)) × Unit))) := gl (fun X c => octs_Put_L5 N X c.1.1 c.1.2.1 c.1.2.2.1 c.1.2.2.2.1 c.1.2.2.2.2.1 c.2.1) N c
theorem octs_Put_L5_S (N : Nat) (X : (((Int) × ((Int) × ((Bool) × ((Int) × ((Int) × Unit))))) × ((List (Int)) × Unit)) → Option ((Unit × ((List (Int)) × Unit)))) (n0 : Int) (width1 : Int) (little2 : Bool) (x19 : Int) (x20 : Int) (h0 : List (Int)) : (roundK Go.Proofs.Try.prog (Ev3 N) 400 [49] octs_Put_L5_I (loopAt Go.Proofs.Try.prog [49] 5) X ((n0, width1, little2, x19, x20, ()), (h0, ()))).run = octs_Put_L5 N X n0 width1 little2 x19 x20 h0 := by kernel_rfl
noncomputable def Ev4 (N : Nat) : (R : Type) → Env R := Env.addLp (Ev3 N) [49] 0 5 (fun R => lpK Go.Proofs.Try.prog octs_Put_L5_I (fun X c => octs_Put_L5 N X c.1.1 c.1.2.1 c.1.2.2.1 c.1.2.2.2.1 c.1.2.2.2.2.1 c.2.1) N)
theorem Ev4_ok (N : Nat) (R : Type) : EnvOK Go.Proofs.Try.prog (Ev4 N R) := EnvOK.addLp (Ev3_ok N R) (by kernel_rfl) (lpK_ok (li := octs_Put_L5_I) (G := fun X c => octs_Put_L5 N X c.1.1 c.1.2.1 c.1.2.2.1 c.1.2.2.2.1 c.1.2.2.2.2.1 c.2.1) hmx (Ev3_ok N _) (by kernel_rfl) loopAt_sub (fun (X : CT octs_Put_L5_I.sh → Option (OT octs_Put_L5_I.outs)) (c : CT octs_Put_L5_I.sh) => octs_Put_L5_S N X c.1.1 c.1.2.1 c.1.2.2.1 c.1.2.2.2.1 c.1.2.2.2.2.1 c.2.1) N)
noncomputable def octs_Put (N : Nat) (n0 : Int) (width1 : Int) (little2 : Bool) : Option ((List (Int)) × Int) :=
 Option.bind (bif (decide (width1 < (1 : Int))) then
   some (@Bool.true)
  else
   some ((@cond Bool @Bool.false @Bool.true (decide ((8 : Int) < width1))))) fun (v4 : Bool) =>
 bif v4 then
  some ((([] : List (Int)), (1 : Int)))
 else
  bif ((decide ((0 : Int) ≤ width1 ∧ width1 ≤ width1)) && (roomB (Int.toNat width1) 1)) then
   Option.bind (octs_Put_L5_R N ((n0, (width1, (little2, ((((List.length (@List.replicate Int (Int.toNat width1) (0 : Int))) : Nat) : Int), ((0 : Int), @Unit.unit))))), ((@List.replicate Int (Int.toNat width1) (0 : Int)), @Unit.unit))) fun (v5 : (Unit × ((List Int) × Unit))) =>
   some ((v5.2.1, (0 : Int)))
  else
   none
theorem octs_Put_S (N : Nat) (n0 : Int) (width1 : Int) (little2 : Bool) : (runK Go.Proofs.Try.prog (Ev4 N) 400 49 [(.int .u64), (.int .i64), .bool] [(.sl (.int .u8)), (.int .i64)] (n0, width1, little2, ())).run = octs_Put N n0 width1 little2 := by kernel_rfl
theorem octs_Put_C (N : Nat) (n0 : Int) (width1 : Int) (little2 : Bool) (y : (List (Int)) × Int) (h : octs_Put N n0 width1 little2 = some y) : CallsK Go.Proofs.Try.prog 49 (valA [(.int .u64), (.int .i64), .bool] (n0, width1, little2, ())) (tupV (valR [(.sl (.int .u8)), (.int .i64)] y)) := runK_ok hmx (Ev4_ok N _) (okFn_ok (by kernel_rfl)) (by rw [octs_Put_S]; exact h)
noncomputable def Ev5 (N : Nat) : (R : Type) → Env R := Env.addFn (Ev4 N) 49 (fun R => fnK [(.int .u64), (.int .i64), .bool] [(.sl (.int .u8)), (.int .i64)] (fun c => octs_Put N c.1 c.2.1 c.2.2.1))
theorem Ev5_ok (N : Nat) (R : Type) : EnvOK Go.Proofs.Try.prog (Ev5 N R) := EnvOK.addFn hmx (Ev4_ok N R) (Ev4_ok N _) (by kernel_rfl) (fun c => octs_Put_S N c.1 c.2.1 c.2.2.1)
noncomputable def octs_Get_L5_I : LI := ⟨37, 0, [], ⟨[(0, .ty (.sl (.int .u8))), (1, .ty .bool), (6, .ty (.int .u64)), (17, .ty (.int .i64)), (18, .ty (.int .i64))], []⟩, [(.exit 0, ⟨[(6, .ty (.int .u64))], []⟩)]⟩
noncomputable def octs_Get_L5 (N : Nat) (X : (((List (Int)) × ((Bool) × ((Int) × ((Int) × ((Int) × Unit))))) × Unit) → Option ((((Int) × Unit) × Unit))) (b0 : List (Int)) (little1 : Bool) (n6 : Int) (x17 : Int) (x18 : Int) : Option ((((Int) × Unit) × Unit)) :=
 bif (decide (x18 < x17)) then
  Option.bind (@octs_place N x18 (((List.length b0) : Nat) : Int) little1) fun (v7 : Int) =>
  Option.bind (getI b0 v7) fun (v8 : Int) =>
  bif (decide ((0 : Int) ≤ (Go.IntKind.wrap .i64 ((8 : Int) * x18)))) then
   (X ((b0, (little1, ((@Go.bits @Go.BinOp.or @Go.IntKind.u64 n6 (Go.IntKind.wrap .u64 ((Go.IntKind.wrap .u64 v8) * (@HPow.hPow Int Nat Int (@instHPow Int Nat (@instPowNat Int @Int.instNatPow)) (2 : Int) (@Min.min Nat @instMinNat (Int.toNat (Go.IntKind.wrap .i64 ((8 : Int) * x18))) (@Go.IntKind.bits @Go.IntKind.u64)))))), (x17, ((Go.IntKind.wrap .i64 (x18 + (1 : Int))), @Unit.unit))))), @Unit.unit))
  else
   none
 else
  some (((n6, @Unit.unit), @Unit.unit))
noncomputable def octs_Get_L5_R (N : Nat) (c : (((List (Int)) × ((Bool) × ((Int) × ((Int) × ((Int) × Unit))))) × Unit)) : Option ((((Int) × Unit) × Unit)) := gl (fun X c => octs_Get_L5 N X c.1.1 c.1.2.1 c.1.2.2.1 c.1.2.2.2.1 c.1.2.2.2.2.1) N c
theorem octs_Get_L5_S (N : Nat) (X : (((List (Int)) × ((Bool) × ((Int) × ((Int) × ((Int) × Unit))))) × Unit) → Option ((((Int) × Unit) × Unit))) (b0 : List (Int)) (little1 : Bool) (n6 : Int) (x17 : Int) (x18 : Int) : (roundK Go.Proofs.Try.prog (Ev5 N) 400 [53] octs_Get_L5_I (loopAt Go.Proofs.Try.prog [53] 5) X ((b0, little1, n6, x17, x18, ()), ())).run = octs_Get_L5 N X b0 little1 n6 x17 x18 := by kernel_rfl
noncomputable def Ev6 (N : Nat) : (R : Type) → Env R := Env.addLp (Ev5 N) [53] 0 5 (fun R => lpK Go.Proofs.Try.prog octs_Get_L5_I (fun X c => octs_Get_L5 N X c.1.1 c.1.2.1 c.1.2.2.1 c.1.2.2.2.1 c.1.2.2.2.2.1) N)
theorem Ev6_ok (N : Nat) (R : Type) : EnvOK Go.Proofs.Try.prog (Ev6 N R) := EnvOK.addLp (Ev5_ok N R) (by kernel_rfl) (lpK_ok (li := octs_Get_L5_I) (G := fun X c => octs_Get_L5 N X c.1.1 c.1.2.1 c.1.2.2.1 c.1.2.2.2.1 c.1.2.2.2.2.1) hmx (Ev5_ok N _) (by kernel_rfl) loopAt_sub (fun (X : CT octs_Get_L5_I.sh → Option (OT octs_Get_L5_I.outs)) (c : CT octs_Get_L5_I.sh) => octs_Get_L5_S N X c.1.1 c.1.2.1 c.1.2.2.1 c.1.2.2.2.1 c.1.2.2.2.2.1) N)
noncomputable def octs_Get (N : Nat) (b0 : List (Int)) (little1 : Bool) : Option ((Int) × Int) :=
 bif (decide ((((List.length b0) : Nat) : Int) < (1 : Int))) then
  Option.bind (some (@Bool.true)) fun (v3 : Bool) =>
  bif v3 then
   some (((0 : Int), (1 : Int)))
  else
   Option.bind (octs_Get_L5_R N ((b0, (little1, ((0 : Int), ((((List.length b0) : Nat) : Int), ((0 : Int), @Unit.unit))))), @Unit.unit)) fun (v4 : ((Int × Unit) × Unit)) =>
   some ((v4.1.1, (0 : Int)))
 else
  Option.bind (some ((@cond Bool @Bool.false @Bool.true (decide ((8 : Int) < (((List.length b0) : Nat) : Int)))))) fun (v3 : Bool) =>
  bif v3 then
   some (((0 : Int), (1 : Int)))
  else
   Option.bind (octs_Get_L5_R N ((b0, (little1, ((0 : Int), ((((List.length b0) : Nat) : Int), ((0 : Int), @Unit.unit))))), @Unit.unit)) fun (v4 : ((Int × Unit) × Unit)) =>
   some ((v4.1.1, (0 : Int)))
theorem octs_Get_S (N : Nat) (b0 : List (Int)) (little1 : Bool) : (runK Go.Proofs.Try.prog (Ev6 N) 400 53 [(.sl (.int .u8)), .bool] [(.int .u64), (.int .i64)] (b0, little1, ())).run = octs_Get N b0 little1 := by kernel_rfl
theorem octs_Get_C (N : Nat) (b0 : List (Int)) (little1 : Bool) (y : (Int) × Int) (h : octs_Get N b0 little1 = some y) : CallsK Go.Proofs.Try.prog 53 (valA [(.sl (.int .u8)), .bool] (b0, little1, ())) (tupV (valR [(.int .u64), (.int .i64)] y)) := runK_ok hmx (Ev6_ok N _) (okFn_ok (by kernel_rfl)) (by rw [octs_Get_S]; exact h)
noncomputable def Ev7 (N : Nat) : (R : Type) → Env R := Env.addFn (Ev6 N) 53 (fun R => fnK [(.sl (.int .u8)), .bool] [(.int .u64), (.int .i64)] (fun c => octs_Get N c.1 c.2.1))
theorem Ev7_ok (N : Nat) (R : Type) : EnvOK Go.Proofs.Try.prog (Ev7 N R) := EnvOK.addFn hmx (Ev6_ok N R) (Ev6_ok N _) (by kernel_rfl) (fun c => octs_Get_S N c.1 c.2.1)
noncomputable def octs_Join_L3_I : LI := ⟨33, 0, [], ⟨[(0, .ty (.sl (.sl (.int .u8)))), (3, .ty (.int .i64)), (9, .ty (.sl (.sl (.int .u8)))), (10, .ty (.int .i64)), (11, .ty (.int .i64))], []⟩, [(.exit 0, ⟨[(0, .ty (.sl (.sl (.int .u8)))), (3, .ty (.int .i64))], []⟩)]⟩
noncomputable def octs_Join_L3 (N : Nat) (X : (((List (List (Int))) × ((Int) × ((List (List (Int))) × ((Int) × ((Int) × Unit))))) × Unit) → Option ((((List (List (Int))) × ((Int) × Unit)) × Unit))) (parts0 : List (List (Int))) (size3 : Int) (x9 : List (List (Int))) (x10 : Int) (x11 : Int) : Option ((((List (List (Int))) × ((Int) × Unit)) × Unit)) :=
 bif (decide (x11 < x10)) then
  Option.bind (getI x9 x11) fun (v7 : (List Int)) =>
  (X ((parts0, ((Go.IntKind.wrap .i64 (size3 + (((List.length v7) : Nat) : Int))), (x9, (x10, ((Go.IntKind.wrap .i64 (x11 + (1 : Int))), @Unit.unit))))), @Unit.unit))
 else
  some (((parts0, (size3, @Unit.unit)), @Unit.unit))
noncomputable def octs_Join_L3_R (N : Nat) (c : (((List (List (Int))) × ((Int) × ((List (List (Int))) × ((Int) × ((Int) × Unit))))) × Unit)) : Option ((((List (List (Int))) × ((Int) × Unit)) × Unit)) := gl (fun X c => octs_Join_L3 N X c.1.1 c.1.2.1 c.1.2.2.1 c.1.2.2.2.1 c.1.2.2.2.2.1) N c
theorem octs_Join_L3_S (N : Nat) (X : (((List (List (Int))) × ((Int) × ((List (List (Int))) × ((Int) × ((Int) × Unit))))) × Unit) → Option ((((List (List (Int))) × ((Int) × Unit)) × Unit))) (parts0 : List (List (Int))) (size3 : Int) (x9 : List (List (Int))) (x10 : Int) (x11 : Int) : (roundK Go.Proofs.Try.prog (Ev7 N) 400 [50] octs_Join_L3_I (loopAt Go.Proofs.Try.prog [50] 3) X ((parts0, size3, x9, x10, x11, ()), ())).run = octs_Join_L3 N X parts0 size3 x9 x10 x11 := by kernel_rfl
noncomputable def Ev8 (N : Nat) : (R : Type) → Env R := Env.addLp (Ev7 N) [50] 0 3 (fun R => lpK Go.Proofs.Try.prog octs_Join_L3_I (fun X c => octs_Join_L3 N X c.1.1 c.1.2.1 c.1.2.2.1 c.1.2.2.2.1 c.1.2.2.2.2.1) N)
theorem Ev8_ok (N : Nat) (R : Type) : EnvOK Go.Proofs.Try.prog (Ev8 N R) := EnvOK.addLp (Ev7_ok N R) (by kernel_rfl) (lpK_ok (li := octs_Join_L3_I) (G := fun X c => octs_Join_L3 N X c.1.1 c.1.2.1 c.1.2.2.1 c.1.2.2.2.1 c.1.2.2.2.2.1) hmx (Ev7_ok N _) (by kernel_rfl) loopAt_sub (fun (X : CT octs_Join_L3_I.sh → Option (OT octs_Join_L3_I.outs)) (c : CT octs_Join_L3_I.sh) => octs_Join_L3_S N X c.1.1 c.1.2.1 c.1.2.2.1 c.1.2.2.2.1 c.1.2.2.2.2.1) N)
noncomputable def octs_Join_L9_I : LI := ⟨33, 0, [], ⟨[(6, .lit (.own 0)), (22, .ty (.sl (.sl (.int .u8)))), (23, .ty (.int .i64)), (24, .ty (.int .i64))], [.own (.int .u8) 5]⟩, [(.exit 2, ⟨[(6, .lit (.own 0))], [.own (.int .u8) 5]⟩)]⟩
noncomputable def octs_Join_L9 (N : Nat) (X : (((List (List (Int))) × ((Int) × ((Int) × Unit))) × ((List (Int)) × Unit)) → Option ((Unit × ((List (Int)) × Unit)))) (x22 : List (List (Int))) (x23 : Int) (x24 : Int) (h0 : List (Int)) : Option ((Unit × ((List (Int)) × Unit))) :=
 bif (decide (x24 < x23)) then
  Option.bind (getI x22 x24) fun (v6 : (List Int)) =>
  bif (roomB ((List.length h0) + (List.length v6)) 1) then
   (X ((x22, (x23, ((Go.IntKind.wrap .i64 (x24 + (1 : Int))), @Unit.unit))), ((h0 ++ v6), @Unit.unit)))
  else
   none
 else
  some ((@Unit.unit, (h0, @Unit.unit)))
noncomputable def octs_Join_L9_R (N : Nat) (c : (((List (List (Int))) × ((Int) × ((Int) × Unit))) × ((List (Int)) × Unit))) : Option ((Unit × ((List (Int)) × Unit))) := gl (fun X c => octs_Join_L9 N X c.1.1 c.1.2.1 c.1.2.2.1 c.2.1) N c
theorem octs_Join_L9_S (N : Nat) (X : (((List (List (Int))) × ((Int) × ((Int) × Unit))) × ((List (Int)) × Unit)) → Option ((Unit × ((List (Int)) × Unit)))) (x22 : List (List (Int))) (x23 : Int) (x24 : Int) (h0 : List (Int)) : (roundK Go.Proofs.Try.prog (Ev8 N) 400 [50] octs_Join_L9_I (loopAt Go.Proofs.Try.prog [50] 9) X ((x22, x23, x24, ()), (h0, ()))).run = octs_Join_L9 N X x22 x23 x24 h0 := by kernel_rfl
noncomputable def Ev9 (N : Nat) : (R : Type) → Env R := Env.addLp (Ev8 N) [50] 0 9 (fun R => lpK Go.Proofs.Try.prog octs_Join_L9_I (fun X c => octs_Join_L9 N X c.1.1 c.1.2.1 c.1.2.2.1 c.2.1) N)
theorem Ev9_ok (N : Nat) (R : Type) : EnvOK Go.Proofs.Try.prog (Ev9 N R) := EnvOK.addLp (Ev8_ok N R) (by kernel_rfl) (lpK_ok (li := octs_Join_L9_I) (G := fun X c => octs_Join_L9 N X c.1.1 c.1.2.1 c.1.2.2.1 c.2.1) hmx (Ev8_ok N _) (by kernel_rfl) loopAt_sub (fun (X : CT octs_Join_L9_I.sh → Option (OT octs_Join_L9_I.outs)) (c : CT octs_Join_L9_I.sh) => octs_Join_L9_S N X c.1.1 c.1.2.1 c.1.2.2.1 c.2.1) N)
noncomputable def octs_Join (N : Nat) (parts0 : List (List (Int))) : Option (List (Int)) :=
 Option.bind (octs_Join_L3_R N ((parts0, ((0 : Int), (parts0, ((((List.length parts0) : Nat) : Int), ((0 : Int), @Unit.unit))))), @Unit.unit)) fun (v2 : (((List (List Int)) × (Int × Unit)) × Unit)) =>
 bif ((decide ((0 : Int) ≤ (0 : Int) ∧ (0 : Int) ≤ v2.1.2.1)) && (roomB (Int.toNat v2.1.2.1) 1)) then
  Option.bind (octs_Join_L9_R N ((v2.1.1, ((((List.length v2.1.1) : Nat) : Int), ((0 : Int), @Unit.unit))), ((@List.replicate Int (Int.toNat (0 : Int)) (0 : Int)), @Unit.unit))) fun (v3 : (Unit × ((List Int) × Unit))) =>
  some (v3.2.1)
 else
  none
theorem octs_Join_S (N : Nat) (parts0 : List (List (Int))) : (runK Go.Proofs.Try.prog (Ev9 N) 400 50 [(.sl (.sl (.int .u8)))] [(.sl (.int .u8))] (parts0, ())).run = octs_Join N parts0 := by kernel_rfl
theorem octs_Join_C (N : Nat) (parts0 : List (List (Int))) (y : List (Int)) (h : octs_Join N parts0 = some y) : CallsK Go.Proofs.Try.prog 50 (valA [(.sl (.sl (.int .u8)))] (parts0, ())) (tupV (valR [(.sl (.int .u8))] y)) := runK_ok hmx (Ev9_ok N _) (okFn_ok (by kernel_rfl)) (by rw [octs_Join_S]; exact h)
noncomputable def Ev10 (N : Nat) : (R : Type) → Env R := Env.addFn (Ev9 N) 50 (fun R => fnK [(.sl (.sl (.int .u8)))] [(.sl (.int .u8))] (fun c => octs_Join N c.1))
theorem Ev10_ok (N : Nat) (R : Type) : EnvOK Go.Proofs.Try.prog (Ev10 N R) := EnvOK.addFn hmx (Ev9_ok N R) (Ev9_ok N _) (by kernel_rfl) (fun c => octs_Join_S N c.1)
noncomputable def Ev11 (N : Nat) : (R : Type) → Env R := Env.addBx (Ev10 N) [(68, 0)]
theorem Ev11_ok (N : Nat) (R : Type) : EnvOK Go.Proofs.Try.prog (Ev11 N R) := EnvOK.addBx (Ev10_ok N R) [(68, 0)]
noncomputable def bytes_Equal (N : Nat) (a0 : List (Int)) (b1 : List (Int)) : Option (Bool) :=
 Option.bind (@toBy a0) fun (v3 : (List UInt8)) =>
 Option.bind (@toBy b1) fun (v4 : (List UInt8)) =>
 some ((decide (v3 = v4)))
theorem bytes_Equal_S (N : Nat) (a0 : List (Int)) (b1 : List (Int)) : (runK Go.Proofs.Try.prog (Ev11 N) 400 74 [(.sl (.int .u8)), (.sl (.int .u8))] [.bool] (a0, b1, ())).run = bytes_Equal N a0 b1 := by kernel_rfl
noncomputable def Ev12 (N : Nat) : (R : Type) → Env R := Env.addFn (Ev11 N) 74 (fun R => fnK [(.sl (.int .u8)), (.sl (.int .u8))] [.bool] (fun c => bytes_Equal N c.1 c.2.1))
theorem Ev12_ok (N : Nat) (R : Type) : EnvOK Go.Proofs.Try.prog (Ev12 N R) := EnvOK.addFn hmx (Ev11_ok N R) (Ev11_ok N _) (by kernel_rfl) (fun c => bytes_Equal_S N c.1 c.2.1)
noncomputable def opts_equal (N : Nat) (a0 : (Int) × (List (Int))) (b1 : (Int) × (List (Int))) : Option (Bool) :=
 bif (decide (a0.1 = b1.1)) then
  Option.bind (@bytes_Equal N a0.2 b1.2) fun (v3 : Bool) =>
  some ((@cond Bool @Bool.true v3 @Bool.false))
 else
  some (@Bool.false)
theorem opts_equal_S (N : Nat) (a0 : (Int) × (List (Int))) (b1 : (Int) × (List (Int))) : (runK Go.Proofs.Try.prog (Ev12 N) 400 68 [(.pair (.int .u8) (.sl (.int .u8))), (.pair (.int .u8) (.sl (.int .u8)))] [.bool] (a0, b1, ())).run = opts_equal N a0 b1 := by kernel_rfl
theorem opts_equal_C (N : Nat) (a0 : (Int) × (List (Int))) (b1 : (Int) × (List (Int))) (y : Bool) (h : opts_equal N a0 b1 = some y) : CallsK Go.Proofs.Try.prog 68 (valA [(.pair (.int .u8) (.sl (.int .u8))), (.pair (.int .u8) (.sl (.int .u8)))] (a0, b1, ())) (tupV (valR [.bool] y)) := runK_ok hmx (Ev12_ok N _) (okFn_ok (by kernel_rfl)) (by rw [opts_equal_S]; exact h)
noncomputable def Ev13 (N : Nat) : (R : Type) → Env R := Env.addFn (Ev12 N) 68 (fun R => fnK [(.pair (.int .u8) (.sl (.int .u8))), (.pair (.int .u8) (.sl (.int .u8)))] [.bool] (fun c => opts_equal N c.1 c.2.1))
theorem Ev13_ok (N : Nat) (R : Type) : EnvOK Go.Proofs.Try.prog (Ev13 N R) := EnvOK.addFn hmx (Ev12_ok N R) (Ev12_ok N _) (by kernel_rfl) (fun c => opts_equal_S N c.1 c.2.1)
noncomputable def opts_Same_1_slices_EqualFunc_api_Option_api_Option_api_Option_api_Option_L4_I : LI := ⟨32, 0, [], ⟨[(1, .ty (.sl (.pair (.int .u8) (.sl (.int .u8))))), (2, .lit (.clo 68 [])), (15, .ty (.sl (.pair (.int .u8) (.sl (.int .u8))))), (16, .ty (.int .i64)), (17, .ty (.int .i64))], []⟩, [(.ret, ⟨[(6, .ty .bool)], []⟩), (.exit 0, ⟨[], []⟩)]⟩
noncomputable def opts_Same_1_slices_EqualFunc_api_Option_api_Option_api_Option_api_Option_L4 (N : Nat) (X : (((List ((Int) × (List (Int)))) × ((List ((Int) × (List (Int)))) × ((Int) × ((Int) × Unit)))) × Unit) → Option (((((Bool) × Unit) × Unit) ⊕ (Unit × Unit)))) (s21 : List ((Int) × (List (Int)))) (x15 : List ((Int) × (List (Int)))) (x16 : Int) (x17 : Int) : Option (((((Bool) × Unit) × Unit) ⊕ (Unit × Unit))) :=
 bif (decide (x17 < x16)) then
  Option.bind (getI x15 x17) fun (v6 : (Int × (List Int))) =>
  Option.bind (getI s21 x17) fun (v7 : (Int × (List Int))) =>
  Option.bind (@opts_equal N (v6.1, v6.2) (v7.1, v7.2)) fun (v8 : Bool) =>
  bif (!v8) then
   some ((.inl ((@Bool.false, @Unit.unit), @Unit.unit)))
  else
   (X ((s21, (x15, (x16, ((Go.IntKind.wrap .i64 (x17 + (1 : Int))), @Unit.unit)))), @Unit.unit))
 else
  some ((.inr (@Unit.unit, @Unit.unit)))
noncomputable def opts_Same_1_slices_EqualFunc_api_Option_api_Option_api_Option_api_Option_L4_R (N : Nat) (c : (((List ((Int) × (List (Int)))) × ((List ((Int) × (List (Int)))) × ((Int) × ((Int) × Unit)))) × Unit)) : Option (((((Bool) × Unit) × Unit) ⊕ (Unit × Unit))) := gl (fun X c => opts_Same_1_slices_EqualFunc_api_Option_api_Option_api_Option_api_Option_L4 N X c.1.1 c.1.2.1 c.1.2.2.1 c.1.2.2.2.1) N c
theorem opts_Same_1_slices_EqualFunc_api_Option_api_Option_api_Option_api_Option_L4_S (N : Nat) (X : (((List ((Int) × (List (Int)))) × ((List ((Int) × (List (Int)))) × ((Int) × ((Int) × Unit)))) × Unit) → Option (((((Bool) × Unit) × Unit) ⊕ (Unit × Unit)))) (s21 : List ((Int) × (List (Int)))) (x15 : List ((Int) × (List (Int)))) (x16 : Int) (x17 : Int) : (roundK Go.Proofs.Try.prog (Ev13 N) 400 [67, 1, 37] opts_Same_1_slices_EqualFunc_api_Option_api_Option_api_Option_api_Option_L4_I (loopAt Go.Proofs.Try.prog [67, 1, 37] 4) X ((s21, x15, x16, x17, ()), ())).run = opts_Same_1_slices_EqualFunc_api_Option_api_Option_api_Option_api_Option_L4 N X s21 x15 x16 x17 := by kernel_rfl
noncomputable def Ev14 (N : Nat) : (R : Type) → Env R := Env.addLp (Ev13 N) [67, 1, 37] 0 4 (fun R => lpK Go.Proofs.Try.prog opts_Same_1_slices_EqualFunc_api_Option_api_Option_api_Option_api_Option_L4_I (fun X c => opts_Same_1_slices_EqualFunc_api_Option_api_Option_api_Option_api_Option_L4 N X c.1.1 c.1.2.1 c.1.2.2.1 c.1.2.2.2.1) N)
theorem Ev14_ok (N : Nat) (R : Type) : EnvOK Go.Proofs.Try.prog (Ev14 N R) := EnvOK.addLp (Ev13_ok N R) (by kernel_rfl) (lpK_ok (li := opts_Same_1_slices_EqualFunc_api_Option_api_Option_api_Option_api_Option_L4_I) (G := fun X c => opts_Same_1_slices_EqualFunc_api_Option_api_Option_api_Option_api_Option_L4 N X c.1.1 c.1.2.1 c.1.2.2.1 c.1.2.2.2.1) hmx (Ev13_ok N _) (by kernel_rfl) loopAt_sub (fun (X : CT opts_Same_1_slices_EqualFunc_api_Option_api_Option_api_Option_api_Option_L4_I.sh → Option (OT opts_Same_1_slices_EqualFunc_api_Option_api_Option_api_Option_api_Option_L4_I.outs)) (c : CT opts_Same_1_slices_EqualFunc_api_Option_api_Option_api_Option_api_Option_L4_I.sh) => opts_Same_1_slices_EqualFunc_api_Option_api_Option_api_Option_api_Option_L4_S N X c.1.1 c.1.2.1 c.1.2.2.1 c.1.2.2.2.1) N)
noncomputable def opts_Same (N : Nat) (a0 : List ((Int) × (List (Int)))) (b1 : List ((Int) × (List (Int)))) : Option (Bool) :=
 bif (!(decide ((((List.length a0) : Nat) : Int) = (((List.length b1) : Nat) : Int)))) then
  some (@Bool.false)
 else
  Option.bind (opts_Same_1_slices_EqualFunc_api_Option_api_Option_api_Option_api_Option_L4_R N ((b1, (a0, ((((List.length a0) : Nat) : Int), ((0 : Int), @Unit.unit)))), @Unit.unit)) fun (v3 : (((Bool × Unit) × Unit) ⊕ (Unit × Unit))) =>
  Sum.elim
   (fun (v4 : ((Bool × Unit) × Unit)) =>
   some (v4.1.1))
   (fun (v4 : (Unit × Unit)) =>
   some (@Bool.true)) v3
theorem opts_Same_S (N : Nat) (a0 : List ((Int) × (List (Int)))) (b1 : List ((Int) × (List (Int)))) : (runK Go.Proofs.Try.prog (Ev14 N) 400 37 [(.sl (.pair (.int .u8) (.sl (.int .u8)))), (.sl (.pair (.int .u8) (.sl (.int .u8))))] [.bool] (a0, b1, ())).run = opts_Same N a0 b1 := by kernel_rfl
theorem opts_Same_C (N : Nat) (a0 : List ((Int) × (List (Int)))) (b1 : List ((Int) × (List (Int)))) (y : Bool) (h : opts_Same N a0 b1 = some y) : CallsK Go.Proofs.Try.prog 37 (valA [(.sl (.pair (.int .u8) (.sl (.int .u8)))), (.sl (.pair (.int .u8) (.sl (.int .u8))))] (a0, b1, ())) (tupV (valR [.bool] y)) := runK_ok hmx (Ev14_ok N _) (okFn_ok (by kernel_rfl)) (by rw [opts_Same_S]; exact h)
noncomputable def Ev15 (N : Nat) : (R : Type) → Env R := Env.addFn (Ev14 N) 37 (fun R => fnK [(.sl (.pair (.int .u8) (.sl (.int .u8)))), (.sl (.pair (.int .u8) (.sl (.int .u8))))] [.bool] (fun c => opts_Same N c.1 c.2.1))
theorem Ev15_ok (N : Nat) (R : Type) : EnvOK Go.Proofs.Try.prog (Ev15 N R) := EnvOK.addFn hmx (Ev14_ok N R) (Ev14_ok N _) (by kernel_rfl) (fun c => opts_Same_S N c.1 c.2.1)
noncomputable def Ev16 (N : Nat) : (R : Type) → Env R := Env.addBx (Ev15 N) [(78, 0)]
theorem Ev16_ok (N : Nat) (R : Type) : EnvOK Go.Proofs.Try.prog (Ev16 N R) := EnvOK.addBx (Ev15_ok N R) [(78, 0)]
noncomputable def slices_Clone_byte_byte_ne (N : Nat) (s0 : List (Int)) : Option (List (Int)) :=
 bif (@List.isEmpty Int s0) then
  none
 else
  bif (roomB (List.length s0) 1) then
   some (s0)
  else
   none
theorem slices_Clone_byte_byte_ne_S (N : Nat) (s0 : List (Int)) : (runK Go.Proofs.Try.prog (Ev16 N) 400 54 [(.sl (.int .u8))] [(.sl (.int .u8))] (s0, ())).run = slices_Clone_byte_byte_ne N s0 := by kernel_rfl
theorem slices_Clone_byte_byte_n1 (N : Nat) (c : Nat) : (runV Go.Proofs.Try.prog (Ev16 N) 400 54 [.c (.slice none 0 c)] [(.sl (.int .u8))]).run = some [] := by kernel_rfl
theorem slices_Clone_byte_byte_n2 (N : Nat) (A : Addr) (c : Nat) : (runV Go.Proofs.Try.prog (Ev16 N) 400 54 [.c (.slice (some A) 0 c)] [(.sl (.int .u8))]).run = some [] := by kernel_rfl
noncomputable def slices_Clone_byte_byte (N : Nat) (s0 : List (Int)) : Option (List (Int)) := bif s0.isEmpty then some [] else slices_Clone_byte_byte_ne N s0
noncomputable def Ev17 (N : Nat) : (R : Type) → Env R := Env.addFn (Ev16 N) 54 (fun R => fnK [(.sl (.int .u8))] [(.sl (.int .u8))] (fun c => slices_Clone_byte_byte N c.1))
theorem Ev17_ok (N : Nat) (R : Type) : EnvOK Go.Proofs.Try.prog (Ev17 N R) := EnvOK.addNil hmx (Ev16_ok N R) (Ev16_ok N _) (by kernel_rfl) (fun c => slices_Clone_byte_byte_ne_S N c.1) (slices_Clone_byte_byte_n1 N) (slices_Clone_byte_byte_n2 N)
noncomputable def opts_clone (N : Nat) (o0 : (Int) × (List (Int))) : Option ((Int) × (List (Int))) :=
 Option.bind (@slices_Clone_byte_byte N o0.2) fun (v2 : (List Int)) =>
 some ((o0.1, v2))
theorem opts_clone_S (N : Nat) (o0 : (Int) × (List (Int))) : (runK Go.Proofs.Try.prog (Ev17 N) 400 78 [(.pair (.int .u8) (.sl (.int .u8)))] [(.pair (.int .u8) (.sl (.int .u8)))] (o0, ())).run = opts_clone N o0 := by kernel_rfl
theorem opts_clone_C (N : Nat) (o0 : (Int) × (List (Int))) (y : (Int) × (List (Int))) (h : opts_clone N o0 = some y) : CallsK Go.Proofs.Try.prog 78 (valA [(.pair (.int .u8) (.sl (.int .u8)))] (o0, ())) (tupV (valR [(.pair (.int .u8) (.sl (.int .u8)))] y)) := runK_ok hmx (Ev17_ok N _) (okFn_ok (by kernel_rfl)) (by rw [opts_clone_S]; exact h)
noncomputable def Ev18 (N : Nat) : (R : Type) → Env R := Env.addFn (Ev17 N) 78 (fun R => fnK [(.pair (.int .u8) (.sl (.int .u8)))] [(.pair (.int .u8) (.sl (.int .u8)))] (fun c => opts_clone N c.1))
theorem Ev18_ok (N : Nat) (R : Type) : EnvOK Go.Proofs.Try.prog (Ev18 N R) := EnvOK.addFn hmx (Ev17_ok N R) (Ev17_ok N _) (by kernel_rfl) (fun c => opts_clone_S N c.1)
noncomputable def opts_Find_1_slices_IndexFunc_api_Option_api_Option_L2_I : LI := ⟨19, 2, [], ⟨[(0, .ty (.sl (.pair (.int .u8) (.sl (.int .u8))))), (1, .lit (.clo 77 [.box 0 0])), (7, .ty (.int .i64)), (8, .ty (.int .i64))], [.box 5 (.int .u8), .box 99 (.pair (.int .u8) (.sl (.int .u8)))]⟩, [(.ret, ⟨[(4, .ty (.int .i64))], [.box 5 (.int .u8), .box 99 (.pair (.int .u8) (.sl (.int .u8)))]⟩), (.exit 0, ⟨[], [.box 5 (.int .u8), .box 99 (.pair (.int .u8) (.sl (.int .u8)))]⟩)]⟩
noncomputable def opts_Find_1_slices_IndexFunc_api_Option_api_Option_L2 (N : Nat) (X : (((List ((Int) × (List (Int)))) × ((Int) × ((Int) × Unit))) × ((Int) × (((Int) × (List (Int))) × Unit))) → Option (((((Int) × Unit) × ((Int) × (((Int) × (List (Int))) × Unit))) ⊕ (Unit × ((Int) × (((Int) × (List (Int))) × Unit)))))) (s0 : List ((Int) × (List (Int)))) (x7 : Int) (x8 : Int) (h0 : Int) (h1 : (Int) × (List (Int))) : Option (((((Int) × Unit) × ((Int) × (((Int) × (List (Int))) × Unit))) ⊕ (Unit × ((Int) × (((Int) × (List (Int))) × Unit))))) :=
 bif (decide (x8 < x7)) then
  Option.bind (getI s0 x8) fun (v7 : (Int × (List Int))) =>
  bif (decide (v7.1 = h0)) then
   some ((.inl ((x8, @Unit.unit), (h0, ((h1.1, h1.2), @Unit.unit)))))
  else
   (X ((s0, (x7, ((Go.IntKind.wrap .i64 (x8 + (1 : Int))), @Unit.unit))), (h0, ((h1.1, h1.2), @Unit.unit))))
 else
  some ((.inr (@Unit.unit, (h0, ((h1.1, h1.2), @Unit.unit)))))
noncomputable def opts_Find_1_slices_IndexFunc_api_Option_api_Option_L2_R (N : Nat) (c : (((List ((Int) × (List (Int)))) × ((Int) × ((Int) × Unit))) × ((Int) × (((Int) × (List (Int))) × Unit)))) : Option (((((Int) × Unit) × ((Int) × (((Int) × (List (Int))) × Unit))) ⊕ (Unit × ((Int) × (((Int) × (List (Int))) × Unit))))) := gl (fun X c => opts_Find_1_slices_IndexFunc_api_Option_api_Option_L2 N X c.1.1 c.1.2.1 c.1.2.2.1 c.2.1 c.2.2.1) N c
theorem opts_Find_1_slices_IndexFunc_api_Option_api_Option_L2_S (N : Nat) (X : (((List ((Int) × (List (Int)))) × ((Int) × ((Int) × Unit))) × ((Int) × (((Int) × (List (Int))) × Unit))) → Option (((((Int) × Unit) × ((Int) × (((Int) × (List (Int))) × Unit))) ⊕ (Unit × ((Int) × (((Int) × (List (Int))) × Unit)))))) (s0 : List ((Int) × (List (Int)))) (x7 : Int) (x8 : Int) (h0 : Int) (h1 : (Int) × (List (Int))) : (roundK Go.Proofs.Try.prog (Ev18 N) 400 [76, 1, 46] opts_Find_1_slices_IndexFunc_api_Option_api_Option_L2_I (loopAt Go.Proofs.Try.prog [76, 1, 46] 2) X ((s0, x7, x8, ()), (h0, h1, ()))).run = opts_Find_1_slices_IndexFunc_api_Option_api_Option_L2 N X s0 x7 x8 h0 h1 := by kernel_rfl
noncomputable def Ev19 (N : Nat) : (R : Type) → Env R := Env.addLp (Ev18 N) [76, 1, 46] 2 2 (fun R => lpK Go.Proofs.Try.prog opts_Find_1_slices_IndexFunc_api_Option_api_Option_L2_I (fun X c => opts_Find_1_slices_IndexFunc_api_Option_api_Option_L2 N X c.1.1 c.1.2.1 c.1.2.2.1 c.2.1 c.2.2.1) N)
theorem Ev19_ok (N : Nat) (R : Type) : EnvOK Go.Proofs.Try.prog (Ev19 N R) := EnvOK.addLp (Ev18_ok N R) (by kernel_rfl) (lpK_ok (li := opts_Find_1_slices_IndexFunc_api_Option_api_Option_L2_I) (G := fun X c => opts_Find_1_slices_IndexFunc_api_Option_api_Option_L2 N X c.1.1 c.1.2.1 c.1.2.2.1 c.2.1 c.2.2.1) hmx (Ev18_ok N _) (by kernel_rfl) loopAt_sub (fun (X : CT opts_Find_1_slices_IndexFunc_api_Option_api_Option_L2_I.sh → Option (OT opts_Find_1_slices_IndexFunc_api_Option_api_Option_L2_I.outs)) (c : CT opts_Find_1_slices_IndexFunc_api_Option_api_Option_L2_I.sh) => opts_Find_1_slices_IndexFunc_api_Option_api_Option_L2_S N X c.1.1 c.1.2.1 c.1.2.2.1 c.2.1 c.2.2.1) N)
noncomputable def opts_Find (N : Nat) (l0 : List ((Int) × (List (Int)))) (kind1 : Int) : Option (((Int) × (List (Int))) × Bool) :=
 Option.bind (opts_Find_1_slices_IndexFunc_api_Option_api_Option_L2_R N ((l0, ((((List.length l0) : Nat) : Int), ((0 : Int), @Unit.unit))), (kind1, (((0 : Int), ([] : List (Int))), @Unit.unit)))) fun (v3 : (((Int × Unit) × (Int × ((Int × (List Int)) × Unit))) ⊕ (Unit × (Int × ((Int × (List Int)) × Unit))))) =>
 Sum.elim
  (fun (v4 : ((Int × Unit) × (Int × ((Int × (List Int)) × Unit)))) =>
  bif (decide (v4.1.1 < (0 : Int))) then
   some ((((0 : Int), ([] : List (Int))), @Bool.false))
  else
   Option.bind (getI l0 v4.1.1) fun (v5 : (Int × (List Int))) =>
   Option.bind (@opts_clone N (v5.1, v5.2)) fun (v6 : (Int × (List Int))) =>
   some (((v6.1, v6.2), @Bool.true)))
  (fun (v4 : (Unit × (Int × ((Int × (List Int)) × Unit)))) =>
  some ((((0 : Int), ([] : List (Int))), @Bool.false))) v3
theorem opts_Find_S (N : Nat) (l0 : List ((Int) × (List (Int)))) (kind1 : Int) : (runK Go.Proofs.Try.prog (Ev19 N) 400 46 [(.sl (.pair (.int .u8) (.sl (.int .u8)))), (.int .u8)] [(.pair (.int .u8) (.sl (.int .u8))), .bool] (l0, kind1, ())).run = opts_Find N l0 kind1 := by kernel_rfl
theorem opts_Find_C (N : Nat) (l0 : List ((Int) × (List (Int)))) (kind1 : Int) (y : ((Int) × (List (Int))) × Bool) (h : opts_Find N l0 kind1 = some y) : CallsK Go.Proofs.Try.prog 46 (valA [(.sl (.pair (.int .u8) (.sl (.int .u8)))), (.int .u8)] (l0, kind1, ())) (tupV (valR [(.pair (.int .u8) (.sl (.int .u8))), .bool] y)) := runK_ok hmx (Ev19_ok N _) (okFn_ok (by kernel_rfl)) (by rw [opts_Find_S]; exact h)
noncomputable def Ev20 (N : Nat) : (R : Type) → Env R := Env.addFn (Ev19 N) 46 (fun R => fnK [(.sl (.pair (.int .u8) (.sl (.int .u8)))), (.int .u8)] [(.pair (.int .u8) (.sl (.int .u8))), .bool] (fun c => opts_Find N c.1 c.2.1))
theorem Ev20_ok (N : Nat) (R : Type) : EnvOK Go.Proofs.Try.prog (Ev20 N R) := EnvOK.addFn hmx (Ev19_ok N R) (Ev19_ok N _) (by kernel_rfl) (fun c => opts_Find_S N c.1 c.2.1)
noncomputable def opts_Among_4_slices_IndexFunc_api_Option_api_Option_L2_I : LI := ⟨19, 1, [], ⟨[(0, .ty (.sl (.pair (.int .u8) (.sl (.int .u8))))), (1, .lit (.clo 79 [.box 0 0])), (7, .ty (.int .i64)), (8, .ty (.int .i64))], [.box 99 (.pair (.int .u8) (.sl (.int .u8)))]⟩, [(.ret, ⟨[(4, .ty (.int .i64))], [.box 99 (.pair (.int .u8) (.sl (.int .u8)))]⟩), (.exit 0, ⟨[], [.box 99 (.pair (.int .u8) (.sl (.int .u8)))]⟩)]⟩
noncomputable def opts_Among_4_slices_IndexFunc_api_Option_api_Option_L2 (N : Nat) (X : (((List ((Int) × (List (Int)))) × ((Int) × ((Int) × Unit))) × (((Int) × (List (Int))) × Unit)) → Option (((((Int) × Unit) × (((Int) × (List (Int))) × Unit)) ⊕ (Unit × (((Int) × (List (Int))) × Unit))))) (s0 : List ((Int) × (List (Int)))) (x7 : Int) (x8 : Int) (h0 : (Int) × (List (Int))) : Option (((((Int) × Unit) × (((Int) × (List (Int))) × Unit)) ⊕ (Unit × (((Int) × (List (Int))) × Unit)))) :=
 bif (decide (x8 < x7)) then
  Option.bind (getI s0 x8) fun (v6 : (Int × (List Int))) =>
  Option.bind (@opts_equal N (v6.1, v6.2) (h0.1, h0.2)) fun (v7 : Bool) =>
  bif v7 then
   some ((.inl ((x8, @Unit.unit), ((h0.1, h0.2), @Unit.unit))))
  else
   (X ((s0, (x7, ((Go.IntKind.wrap .i64 (x8 + (1 : Int))), @Unit.unit))), ((h0.1, h0.2), @Unit.unit)))
 else
  some ((.inr (@Unit.unit, ((h0.1, h0.2), @Unit.unit))))
noncomputable def opts_Among_4_slices_IndexFunc_api_Option_api_Option_L2_R (N : Nat) (c : (((List ((Int) × (List (Int)))) × ((Int) × ((Int) × Unit))) × (((Int) × (List (Int))) × Unit))) : Option (((((Int) × Unit) × (((Int) × (List (Int))) × Unit)) ⊕ (Unit × (((Int) × (List (Int))) × Unit)))) := gl (fun X c => opts_Among_4_slices_IndexFunc_api_Option_api_Option_L2 N X c.1.1 c.1.2.1 c.1.2.2.1 c.2.1) N c
theorem opts_Among_4_slices_IndexFunc_api_Option_api_Option_L2_S (N : Nat) (X : (((List ((Int) × (List (Int)))) × ((Int) × ((Int) × Unit))) × (((Int) × (List (Int))) × Unit)) → Option (((((Int) × Unit) × (((Int) × (List (Int))) × Unit)) ⊕ (Unit × (((Int) × (List (Int))) × Unit))))) (s0 : List ((Int) × (List (Int)))) (x7 : Int) (x8 : Int) (h0 : (Int) × (List (Int))) : (roundK Go.Proofs.Try.prog (Ev20 N) 400 [76, 4, 47] opts_Among_4_slices_IndexFunc_api_Option_api_Option_L2_I (loopAt Go.Proofs.Try.prog [76, 4, 47] 2) X ((s0, x7, x8, ()), (h0, ()))).run = opts_Among_4_slices_IndexFunc_api_Option_api_Option_L2 N X s0 x7 x8 h0 := by kernel_rfl
noncomputable def Ev21 (N : Nat) : (R : Type) → Env R := Env.addLp (Ev20 N) [76, 4, 47] 1 2 (fun R => lpK Go.Proofs.Try.prog opts_Among_4_slices_IndexFunc_api_Option_api_Option_L2_I (fun X c => opts_Among_4_slices_IndexFunc_api_Option_api_Option_L2 N X c.1.1 c.1.2.1 c.1.2.2.1 c.2.1) N)
theorem Ev21_ok (N : Nat) (R : Type) : EnvOK Go.Proofs.Try.prog (Ev21 N R) := EnvOK.addLp (Ev20_ok N R) (by kernel_rfl) (lpK_ok (li := opts_Among_4_slices_IndexFunc_api_Option_api_Option_L2_I) (G := fun X c => opts_Among_4_slices_IndexFunc_api_Option_api_Option_L2 N X c.1.1 c.1.2.1 c.1.2.2.1 c.2.1) hmx (Ev20_ok N _) (by kernel_rfl) loopAt_sub (fun (X : CT opts_Among_4_slices_IndexFunc_api_Option_api_Option_L2_I.sh → Option (OT opts_Among_4_slices_IndexFunc_api_Option_api_Option_L2_I.outs)) (c : CT opts_Among_4_slices_IndexFunc_api_Option_api_Option_L2_I.sh) => opts_Among_4_slices_IndexFunc_api_Option_api_Option_L2_S N X c.1.1 c.1.2.1 c.1.2.2.1 c.2.1) N)
noncomputable def opts_Among_L2_I : LI := ⟨24, 0, [], ⟨[(1, .ty (.sl (.pair (.int .u8) (.sl (.int .u8))))), (8, .ty (.sl (.pair (.int .u8) (.sl (.int .u8))))), (9, .ty (.int .i64)), (10, .ty (.int .i64))], []⟩, [(.ret, ⟨[(4, .ty .bool)], []⟩), (.exit 0, ⟨[], []⟩)]⟩
noncomputable def opts_Among_L2 (N : Nat) (X : (((List ((Int) × (List (Int)))) × ((List ((Int) × (List (Int)))) × ((Int) × ((Int) × Unit)))) × Unit) → Option (((((Bool) × Unit) × Unit) ⊕ (Unit × Unit)))) (all1 : List ((Int) × (List (Int)))) (x8 : List ((Int) × (List (Int)))) (x9 : Int) (x10 : Int) : Option (((((Bool) × Unit) × Unit) ⊕ (Unit × Unit))) :=
 bif (decide (x10 < x9)) then
  Option.bind (getI x8 x10) fun (v6 : (Int × (List Int))) =>
  Option.bind (opts_Among_4_slices_IndexFunc_api_Option_api_Option_L2_R N ((all1, ((((List.length all1) : Nat) : Int), ((0 : Int), @Unit.unit))), ((v6.1, v6.2), @Unit.unit))) fun (v7 : (((Int × Unit) × ((Int × (List Int)) × Unit)) ⊕ (Unit × ((Int × (List Int)) × Unit)))) =>
  Sum.elim
   (fun (v8 : ((Int × Unit) × ((Int × (List Int)) × Unit))) =>
   bif (decide (v8.1.1 < (0 : Int))) then
    some ((.inl ((@Bool.false, @Unit.unit), @Unit.unit)))
   else
    Option.bind (dropI all1 (Go.IntKind.wrap .i64 (v8.1.1 + (1 : Int)))) fun (v9 : (List (Int × (List Int)))) =>
    (X ((v9, (x8, (x9, ((Go.IntKind.wrap .i64 (x10 + (1 : Int))), @Unit.unit)))), @Unit.unit)))
   (fun (v8 : (Unit × ((Int × (List Int)) × Unit))) =>
   some ((.inl ((@Bool.false, @Unit.unit), @Unit.unit)))) v7
 else
  some ((.inr (@Unit.unit, @Unit.unit)))
noncomputable def opts_Among_L2_R (N : Nat) (c : (((List ((Int) × (List (Int)))) × ((List ((Int) × (List (Int)))) × ((Int) × ((Int) × Unit)))) × Unit)) : Option (((((Bool) × Unit) × Unit) ⊕ (Unit × Unit))) := gl (fun X c => opts_Among_L2 N X c.1.1 c.1.2.1 c.1.2.2.1 c.1.2.2.2.1) N c
theorem opts_Among_L2_S (N : Nat) (X : (((List ((Int) × (List (Int)))) × ((List ((Int) × (List (Int)))) × ((Int) × ((Int) × Unit)))) × Unit) → Option (((((Bool) × Unit) × Unit) ⊕ (Unit × Unit)))) (all1 : List ((Int) × (List (Int)))) (x8 : List ((Int) × (List (Int)))) (x9 : Int) (x10 : Int) : (roundK Go.Proofs.Try.prog (Ev21 N) 400 [47] opts_Among_L2_I (loopAt Go.Proofs.Try.prog [47] 2) X ((all1, x8, x9, x10, ()), ())).run = opts_Among_L2 N X all1 x8 x9 x10 := by kernel_rfl
noncomputable def Ev22 (N : Nat) : (R : Type) → Env R := Env.addLp (Ev21 N) [47] 0 2 (fun R => lpK Go.Proofs.Try.prog opts_Among_L2_I (fun X c => opts_Among_L2 N X c.1.1 c.1.2.1 c.1.2.2.1 c.1.2.2.2.1) N)
theorem Ev22_ok (N : Nat) (R : Type) : EnvOK Go.Proofs.Try.prog (Ev22 N R) := EnvOK.addLp (Ev21_ok N R) (by kernel_rfl) (lpK_ok (li := opts_Among_L2_I) (G := fun X c => opts_Among_L2 N X c.1.1 c.1.2.1 c.1.2.2.1 c.1.2.2.2.1) hmx (Ev21_ok N _) (by kernel_rfl) loopAt_sub (fun (X : CT opts_Among_L2_I.sh → Option (OT opts_Among_L2_I.outs)) (c : CT opts_Among_L2_I.sh) => opts_Among_L2_S N X c.1.1 c.1.2.1 c.1.2.2.1 c.1.2.2.2.1) N)
noncomputable def opts_Among (N : Nat) (l0 : List ((Int) × (List (Int)))) (all1 : List ((Int) × (List (Int)))) : Option (Bool) :=
 Option.bind (opts_Among_L2_R N ((all1, (l0, ((((List.length l0) : Nat) : Int), ((0 : Int), @Unit.unit)))), @Unit.unit)) fun (v3 : (((Bool × Unit) × Unit) ⊕ (Unit × Unit))) =>
 Sum.elim
  (fun (v4 : ((Bool × Unit) × Unit)) =>
  some (v4.1.1))
  (fun (v4 : (Unit × Unit)) =>
  some (@Bool.true)) v3
theorem opts_Among_S (N : Nat) (l0 : List ((Int) × (List (Int)))) (all1 : List ((Int) × (List (Int)))) : (runK Go.Proofs.Try.prog (Ev22 N) 400 47 [(.sl (.pair (.int .u8) (.sl (.int .u8)))), (.sl (.pair (.int .u8) (.sl (.int .u8))))] [.bool] (l0, all1, ())).run = opts_Among N l0 all1 := by kernel_rfl
theorem opts_Among_C (N : Nat) (l0 : List ((Int) × (List (Int)))) (all1 : List ((Int) × (List (Int)))) (y : Bool) (h : opts_Among N l0 all1 = some y) : CallsK Go.Proofs.Try.prog 47 (valA [(.sl (.pair (.int .u8) (.sl (.int .u8)))), (.sl (.pair (.int .u8) (.sl (.int .u8))))] (l0, all1, ())) (tupV (valR [.bool] y)) := runK_ok hmx (Ev22_ok N _) (okFn_ok (by kernel_rfl)) (by rw [opts_Among_S]; exact h)
noncomputable def Ev23 (N : Nat) : (R : Type) → Env R := Env.addFn (Ev22 N) 47 (fun R => fnK [(.sl (.pair (.int .u8) (.sl (.int .u8)))), (.sl (.pair (.int .u8) (.sl (.int .u8))))] [.bool] (fun c => opts_Among N c.1 c.2.1))
theorem Ev23_ok (N : Nat) (R : Type) : EnvOK Go.Proofs.Try.prog (Ev23 N R) := EnvOK.addFn hmx (Ev22_ok N R) (Ev22_ok N _) (by kernel_rfl) (fun c => opts_Among_S N c.1 c.2.1)
noncomputable def lcpo_Chap (N : Nat) : Option (List (Int)) :=
 some (([(194 : Int), (35 : Int), (129 : Int)] : List (Int)))
theorem lcpo_Chap_S (N : Nat) : (runK Go.Proofs.Try.prog (Ev23 N) 400 61 [] [(.sl (.int .u8))] ()).run = lcpo_Chap N  := by kernel_rfl
theorem lcpo_Chap_C (N : Nat) (y : List (Int)) (h : lcpo_Chap N  = some y) : CallsK Go.Proofs.Try.prog 61 (valA [] ()) (tupV (valR [(.sl (.int .u8))] y)) := runK_ok hmx (Ev23_ok N _) (okFn_ok (by kernel_rfl)) (by rw [lcpo_Chap_S]; exact h)
noncomputable def Ev24 (N : Nat) : (R : Type) → Env R := Env.addFn (Ev23 N) 61 (fun R => fnK [] [(.sl (.int .u8))] (fun c => lcpo_Chap N ))
theorem Ev24_ok (N : Nat) (R : Type) : EnvOK Go.Proofs.Try.prog (Ev24 N R) := EnvOK.addFn hmx (Ev23_ok N R) (Ev23_ok N _) (by kernel_rfl) (fun c => lcpo_Chap_S N )
noncomputable def Ev25 (N : Nat) : (R : Type) → Env R := Env.addBx (Ev24 N) [(62, 0)]
theorem Ev25_ok (N : Nat) (R : Type) : EnvOK Go.Proofs.Try.prog (Ev25 N R) := EnvOK.addBx (Ev24_ok N R) [(62, 0)]
noncomputable def lcpo_size (N : Nat) (kind0 : Int) : Option (Int) :=
 bif (decide (kind0 = (1 : Int))) then
  some ((2 : Int))
 else
  bif (decide (kind0 = (3 : Int))) then
   some ((3 : Int))
  else
   bif (decide (kind0 = (5 : Int))) then
    some ((4 : Int))
   else
    bif (decide (kind0 = (7 : Int))) then
     some ((0 : Int))
    else
     bif (decide (kind0 = (8 : Int))) then
      some ((0 : Int))
     else
      some ((-1 : Int))
theorem lcpo_size_S (N : Nat) (kind0 : Int) : (runK Go.Proofs.Try.prog (Ev25 N) 400 81 [(.int .u8)] [(.int .i64)] (kind0, ())).run = lcpo_size N kind0 := by kernel_rfl
noncomputable def Ev26 (N : Nat) : (R : Type) → Env R := Env.addFn (Ev25 N) 81 (fun R => fnK [(.int .u8)] [(.int .i64)] (fun c => lcpo_size N c.1))
theorem Ev26_ok (N : Nat) (R : Type) : EnvOK Go.Proofs.Try.prog (Ev26 N R) := EnvOK.addFn hmx (Ev25_ok N R) (Ev25_ok N _) (by kernel_rfl) (fun c => lcpo_size_S N c.1)
noncomputable def lcpo_may (N : Nat) (o0 : (Int) × (List (Int))) (proves1 : Bool) : Option (Bool) :=
 Option.bind (@lcpo_size N o0.1) fun (v3 : Int) =>
 bif (decide ((((List.length o0.2) : Nat) : Int) = v3)) then
  bif (!(decide (o0.1 = (3 : Int)))) then
   some ((@cond Bool @Bool.true @Bool.true @Bool.false))
  else
   some ((@cond Bool @Bool.true (@cond Bool @Bool.false @Bool.true proves1) @Bool.false))
 else
  some (@Bool.false)
theorem lcpo_may_S (N : Nat) (o0 : (Int) × (List (Int))) (proves1 : Bool) : (runK Go.Proofs.Try.prog (Ev26 N) 400 62 [(.pair (.int .u8) (.sl (.int .u8))), .bool] [.bool] (o0, proves1, ())).run = lcpo_may N o0 proves1 := by kernel_rfl
theorem lcpo_may_C (N : Nat) (o0 : (Int) × (List (Int))) (proves1 : Bool) (y : Bool) (h : lcpo_may N o0 proves1 = some y) : CallsK Go.Proofs.Try.prog 62 (valA [(.pair (.int .u8) (.sl (.int .u8))), .bool] (o0, proves1, ())) (tupV (valR [.bool] y)) := runK_ok hmx (Ev26_ok N _) (okFn_ok (by kernel_rfl)) (by rw [lcpo_may_S]; exact h)
noncomputable def Ev27 (N : Nat) : (R : Type) → Env R := Env.addFn (Ev26 N) 62 (fun R => fnK [(.pair (.int .u8) (.sl (.int .u8))), .bool] [.bool] (fun c => lcpo_may N c.1 c.2.1))
theorem Ev27_ok (N : Nat) (R : Type) : EnvOK Go.Proofs.Try.prog (Ev27 N R) := EnvOK.addFn hmx (Ev26_ok N R) (Ev26_ok N _) (by kernel_rfl) (fun c => lcpo_may_S N c.1 c.2.1)
noncomputable def Ev28 (N : Nat) : (R : Type) → Env R := Env.addBx (Ev27 N) [(63, 0)]
theorem Ev28_ok (N : Nat) (R : Type) : EnvOK Go.Proofs.Try.prog (Ev28 N R) := EnvOK.addBx (Ev27_ok N R) [(63, 0)]
noncomputable def lcpo_number (N : Nat) (kind0 : Int) (n1 : Int) : Option ((Int) × (List (Int))) :=
 Option.bind (@lcpo_size N kind0) fun (v3 : Int) =>
 Option.bind (@octs_Put N n1 v3 @Bool.false) fun (v4 : ((List Int) × Int)) =>
 some ((kind0, v4.1))
theorem lcpo_number_S (N : Nat) (kind0 : Int) (n1 : Int) : (runK Go.Proofs.Try.prog (Ev28 N) 400 70 [(.int .u8), (.int .u64)] [(.pair (.int .u8) (.sl (.int .u8)))] (kind0, n1, ())).run = lcpo_number N kind0 n1 := by kernel_rfl
theorem lcpo_number_C (N : Nat) (kind0 : Int) (n1 : Int) (y : (Int) × (List (Int))) (h : lcpo_number N kind0 n1 = some y) : CallsK Go.Proofs.Try.prog 70 (valA [(.int .u8), (.int .u64)] (kind0, n1, ())) (tupV (valR [(.pair (.int .u8) (.sl (.int .u8)))] y)) := runK_ok hmx (Ev28_ok N _) (okFn_ok (by kernel_rfl)) (by rw [lcpo_number_S]; exact h)
noncomputable def Ev29 (N : Nat) : (R : Type) → Env R := Env.addFn (Ev28 N) 70 (fun R => fnK [(.int .u8), (.int .u64)] [(.pair (.int .u8) (.sl (.int .u8)))] (fun c => lcpo_number N c.1 c.2.1))
theorem Ev29_ok (N : Nat) (R : Type) : EnvOK Go.Proofs.Try.prog (Ev29 N R) := EnvOK.addFn hmx (Ev28_ok N R) (Ev28_ok N _) (by kernel_rfl) (fun c => lcpo_number_S N c.1 c.2.1)
noncomputable def lcpo_value (N : Nat) (data0 : List (Int)) : Option (Int) :=
 Option.bind (@octs_Get N data0 @Bool.false) fun (v2 : (Int × Int)) =>
 some (v2.1)
theorem lcpo_value_S (N : Nat) (data0 : List (Int)) : (runK Go.Proofs.Try.prog (Ev29 N) 400 73 [(.sl (.int .u8))] [(.int .u64)] (data0, ())).run = lcpo_value N data0 := by kernel_rfl
theorem lcpo_value_C (N : Nat) (data0 : List (Int)) (y : Int) (h : lcpo_value N data0 = some y) : CallsK Go.Proofs.Try.prog 73 (valA [(.sl (.int .u8))] (data0, ())) (tupV (valR [(.int .u64)] y)) := runK_ok hmx (Ev29_ok N _) (okFn_ok (by kernel_rfl)) (by rw [lcpo_value_S]; exact h)
noncomputable def Ev30 (N : Nat) : (R : Type) → Env R := Env.addFn (Ev29 N) 73 (fun R => fnK [(.sl (.int .u8))] [(.int .u64)] (fun c => lcpo_value N c.1))
theorem Ev30_ok (N : Nat) (R : Type) : EnvOK Go.Proofs.Try.prog (Ev30 N R) := EnvOK.addFn hmx (Ev29_ok N R) (Ev29_ok N _) (by kernel_rfl) (fun c => lcpo_value_S N c.1)
noncomputable def lcpo_better (N : Nat) (o0 : (Int) × (List (Int))) (own1 : Int) (fresh2 : Int) : Option (((Int) × (List (Int))) × Bool) :=
 bif (decide (o0.1 = (1 : Int))) then
  Option.bind (@lcpo_number N (1 : Int) (1400 : Int)) fun (v4 : (Int × (List Int))) =>
  Option.bind (@lcpo_value N o0.2) fun (v5 : Int) =>
  some (((v4.1, v4.2), (decide (v5 < (128 : Int)))))
 else
  bif (decide (o0.1 = (3 : Int))) then
   Option.bind (@bytes_Equal N o0.2 ([(194 : Int), (35 : Int), (129 : Int)] : List (Int))) fun (v4 : Bool) =>
   some ((((3 : Int), ([(194 : Int), (35 : Int), (129 : Int)] : List (Int))), (!v4)))
  else
   bif (decide (o0.1 = (5 : Int))) then
    Option.bind (@lcpo_value N o0.2) fun (v4 : Int) =>
    Option.bind (@lcpo_number N (5 : Int) (Go.IntKind.wrap .u64 fresh2)) fun (v5 : (Int × (List Int))) =>
    Option.bind (bif (decide ((Go.IntKind.wrap .u32 v4) = (0 : Int))) then
      some (@Bool.true)
     else
      some ((@cond Bool @Bool.false @Bool.true (decide ((Go.IntKind.wrap .u32 v4) = own1))))) fun (v6 : Bool) =>
    some (((v5.1, v5.2), v6))
   else
    some ((((0 : Int), ([] : List (Int))), @Bool.false))
theorem lcpo_better_S (N : Nat) (o0 : (Int) × (List (Int))) (own1 : Int) (fresh2 : Int) : (runK Go.Proofs.Try.prog (Ev30 N) 400 63 [(.pair (.int .u8) (.sl (.int .u8))), (.int .u32), (.int .u32)] [(.pair (.int .u8) (.sl (.int .u8))), .bool] (o0, own1, fresh2, ())).run = lcpo_better N o0 own1 fresh2 := by kernel_rfl
theorem lcpo_better_C (N : Nat) (o0 : (Int) × (List (Int))) (own1 : Int) (fresh2 : Int) (y : ((Int) × (List (Int))) × Bool) (h : lcpo_better N o0 own1 fresh2 = some y) : CallsK Go.Proofs.Try.prog 63 (valA [(.pair (.int .u8) (.sl (.int .u8))), (.int .u32), (.int .u32)] (o0, own1, fresh2, ())) (tupV (valR [(.pair (.int .u8) (.sl (.int .u8))), .bool] y)) := runK_ok hmx (Ev30_ok N _) (okFn_ok (by kernel_rfl)) (by rw [lcpo_better_S]; exact h)
noncomputable def Ev31 (N : Nat) : (R : Type) → Env R := Env.addFn (Ev30 N) 63 (fun R => fnK [(.pair (.int .u8) (.sl (.int .u8))), (.int .u32), (.int .u32)] [(.pair (.int .u8) (.sl (.int .u8))), .bool] (fun c => lcpo_better N c.1 c.2.1 c.2.2.1))
theorem Ev31_ok (N : Nat) (R : Type) : EnvOK Go.Proofs.Try.prog (Ev31 N R) := EnvOK.addFn hmx (Ev30_ok N R) (Ev30_ok N _) (by kernel_rfl) (fun c => lcpo_better_S N c.1 c.2.1 c.2.2.1)
noncomputable def lcpo_has (N : Nat) (l0 : List ((Int) × (List (Int)))) (kind1 : Int) : Option (Bool) :=
 Option.bind (@opts_Find N l0 kind1) fun (v3 : ((Int × (List Int)) × Bool)) =>
 some (v3.2)
theorem lcpo_has_S (N : Nat) (l0 : List ((Int) × (List (Int)))) (kind1 : Int) : (runK Go.Proofs.Try.prog (Ev31 N) 400 69 [(.sl (.pair (.int .u8) (.sl (.int .u8)))), (.int .u8)] [.bool] (l0, kind1, ())).run = lcpo_has N l0 kind1 := by kernel_rfl
theorem lcpo_has_C (N : Nat) (l0 : List ((Int) × (List (Int)))) (kind1 : Int) (y : Bool) (h : lcpo_has N l0 kind1 = some y) : CallsK Go.Proofs.Try.prog 69 (valA [(.sl (.pair (.int .u8) (.sl (.int .u8)))), (.int .u8)] (l0, kind1, ())) (tupV (valR [.bool] y)) := runK_ok hmx (Ev31_ok N _) (okFn_ok (by kernel_rfl)) (by rw [lcpo_has_S]; exact h)
noncomputable def Ev32 (N : Nat) : (R : Type) → Env R := Env.addFn (Ev31 N) 69 (fun R => fnK [(.sl (.pair (.int .u8) (.sl (.int .u8)))), (.int .u8)] [.bool] (fun c => lcpo_has N c.1 c.2.1))
theorem Ev32_ok (N : Nat) (R : Type) : EnvOK Go.Proofs.Try.prog (Ev32 N R) := EnvOK.addFn hmx (Ev31_ok N R) (Ev31_ok N _) (by kernel_rfl) (fun c => lcpo_has_S N c.1 c.2.1)
noncomputable def lcpo_first_L2_I : LI := ⟨29, 0, [], ⟨[(1, .ty (.int .u8)), (8, .ty (.sl (.pair (.int .u8) (.sl (.int .u8))))), (9, .ty (.int .i64)), (10, .ty (.int .i64))], []⟩, [(.ret, ⟨[(4, .ty (.sl (.int .u8))), (5, .ty .bool)], []⟩), (.exit 0, ⟨[], []⟩)]⟩
noncomputable def lcpo_first_L2 (N : Nat) (X : (((Int) × ((List ((Int) × (List (Int)))) × ((Int) × ((Int) × Unit)))) × Unit) → Option (((((List (Int)) × ((Bool) × Unit)) × Unit) ⊕ (Unit × Unit)))) (kind1 : Int) (x8 : List ((Int) × (List (Int)))) (x9 : Int) (x10 : Int) : Option (((((List (Int)) × ((Bool) × Unit)) × Unit) ⊕ (Unit × Unit))) :=
 bif (decide (x10 < x9)) then
  Option.bind (getI x8 x10) fun (v6 : (Int × (List Int))) =>
  bif (decide (v6.1 = kind1)) then
   Option.bind (@lcpo_size N kind1) fun (v7 : Int) =>
   bif (@cond Bool @Bool.true (decide ((((List.length v6.2) : Nat) : Int) = v7)) @Bool.false) then
    some ((.inl ((v6.2, (@Bool.true, @Unit.unit)), @Unit.unit)))
   else
    (X ((kind1, (x8, (x9, ((Go.IntKind.wrap .i64 (x10 + (1 : Int))), @Unit.unit)))), @Unit.unit))
  else
   (X ((kind1, (x8, (x9, ((Go.IntKind.wrap .i64 (x10 + (1 : Int))), @Unit.unit)))), @Unit.unit))
 else
  some ((.inr (@Unit.unit, @Unit.unit)))
noncomputable def lcpo_first_L2_R (N : Nat) (c : (((Int) × ((List ((Int) × (List (Int)))) × ((Int) × ((Int) × Unit)))) × Unit)) : Option (((((List (Int)) × ((Bool) × Unit)) × Unit) ⊕ (Unit × Unit))) := gl (fun X c => lcpo_first_L2 N X c.1.1 c.1.2.1 c.1.2.2.1 c.1.2.2.2.1) N c
theorem lcpo_first_L2_S (N : Nat) (X : (((Int) × ((List ((Int) × (List (Int)))) × ((Int) × ((Int) × Unit)))) × Unit) → Option (((((List (Int)) × ((Bool) × Unit)) × Unit) ⊕ (Unit × Unit)))) (kind1 : Int) (x8 : List ((Int) × (List (Int)))) (x9 : Int) (x10 : Int) : (roundK Go.Proofs.Try.prog (Ev32 N) 400 [72] lcpo_first_L2_I (loopAt Go.Proofs.Try.prog [72] 2) X ((kind1, x8, x9, x10, ()), ())).run = lcpo_first_L2 N X kind1 x8 x9 x10 := by kernel_rfl
noncomputable def Ev33 (N : Nat) : (R : Type) → Env R := Env.addLp (Ev32 N) [72] 0 2 (fun R => lpK Go.Proofs.Try.prog lcpo_first_L2_I (fun X c => lcpo_first_L2 N X c.1.1 c.1.2.1 c.1.2.2.1 c.1.2.2.2.1) N)
theorem Ev33_ok (N : Nat) (R : Type) : EnvOK Go.Proofs.Try.prog (Ev33 N R) := EnvOK.addLp (Ev32_ok N R) (by kernel_rfl) (lpK_ok (li := lcpo_first_L2_I) (G := fun X c => lcpo_first_L2 N X c.1.1 c.1.2.1 c.1.2.2.1 c.1.2.2.2.1) hmx (Ev32_ok N _) (by kernel_rfl) loopAt_sub (fun (X : CT lcpo_first_L2_I.sh → Option (OT lcpo_first_L2_I.outs)) (c : CT lcpo_first_L2_I.sh) => lcpo_first_L2_S N X c.1.1 c.1.2.1 c.1.2.2.1 c.1.2.2.2.1) N)
noncomputable def lcpo_first (N : Nat) (l0 : List ((Int) × (List (Int)))) (kind1 : Int) : Option ((List (Int)) × Bool) :=
 Option.bind (lcpo_first_L2_R N ((kind1, (l0, ((((List.length l0) : Nat) : Int), ((0 : Int), @Unit.unit)))), @Unit.unit)) fun (v3 : ((((List Int) × (Bool × Unit)) × Unit) ⊕ (Unit × Unit))) =>
 Sum.elim
  (fun (v4 : (((List Int) × (Bool × Unit)) × Unit)) =>
  some ((v4.1.1, v4.1.2.1)))
  (fun (v4 : (Unit × Unit)) =>
  some ((([] : List (Int)), @Bool.false))) v3
theorem lcpo_first_S (N : Nat) (l0 : List ((Int) × (List (Int)))) (kind1 : Int) : (runK Go.Proofs.Try.prog (Ev33 N) 400 72 [(.sl (.pair (.int .u8) (.sl (.int .u8)))), (.int .u8)] [(.sl (.int .u8)), .bool] (l0, kind1, ())).run = lcpo_first N l0 kind1 := by kernel_rfl
theorem lcpo_first_C (N : Nat) (l0 : List ((Int) × (List (Int)))) (kind1 : Int) (y : (List (Int)) × Bool) (h : lcpo_first N l0 kind1 = some y) : CallsK Go.Proofs.Try.prog 72 (valA [(.sl (.pair (.int .u8) (.sl (.int .u8)))), (.int .u8)] (l0, kind1, ())) (tupV (valR [(.sl (.int .u8)), .bool] y)) := runK_ok hmx (Ev33_ok N _) (okFn_ok (by kernel_rfl)) (by rw [lcpo_first_S]; exact h)
noncomputable def Ev34 (N : Nat) : (R : Type) → Env R := Env.addFn (Ev33 N) 72 (fun R => fnK [(.sl (.pair (.int .u8) (.sl (.int .u8)))), (.int .u8)] [(.sl (.int .u8)), .bool] (fun c => lcpo_first N c.1 c.2.1))
theorem Ev34_ok (N : Nat) (R : Type) : EnvOK Go.Proofs.Try.prog (Ev34 N R) := EnvOK.addFn hmx (Ev33_ok N R) (Ev33_ok N _) (by kernel_rfl) (fun c => lcpo_first_S N c.1 c.2.1)
noncomputable def Ev35 (N : Nat) : (R : Type) → Env R := Env.addMv (Ev34 N) [(34, 6), (34, 9), (34, 12)]
theorem Ev35_ok (N : Nat) (R : Type) : EnvOK Go.Proofs.Try.prog (Ev35 N R) := EnvOK.addMv (Ev34_ok N R) [(34, 6), (34, 9), (34, 12)]
noncomputable def lcpo_Judge_L3_I : LI := ⟨78, 0, [(10, 99), (11, 99), (12, 99)], ⟨[(0, .ty (.sl (.pair (.int .u8) (.sl (.int .u8))))), (1, .ty .bool), (2, .ty (.int .u32)), (3, .ty (.int .u32)), (10, .lit (.own 0)), (11, .lit (.own 1)), (12, .lit (.own 2)), (19, .ty (.sl (.pair (.int .u8) (.sl (.int .u8))))), (20, .ty (.int .i64)), (21, .ty (.int .i64))], [.own (.pair (.int .u8) (.sl (.int .u8))) 99, .own (.pair (.int .u8) (.sl (.int .u8))) 99, .own (.pair (.int .u8) (.sl (.int .u8))) 99]⟩, [(.exit 0, ⟨[(10, .lit (.own 0)), (11, .lit (.own 1)), (12, .lit (.own 2))], [.own (.pair (.int .u8) (.sl (.int .u8))) 99, .own (.pair (.int .u8) (.sl (.int .u8))) 99, .own (.pair (.int .u8) (.sl (.int .u8))) 99]⟩)]⟩
noncomputable def lcpo_Judge_L3 (N : Nat) (X : (((List ((Int) × (List (Int)))) × ((Bool) × ((Int) × ((Int) × ((List ((Int) × (List (Int)))) × ((Int) × ((Int) × Unit))))))) × ((List ((Int) × (List (Int)))) × ((List ((Int) × (List (Int)))) × ((List ((Int) × (List (Int)))) × Unit)))) → Option ((Unit × ((List ((Int) × (List (Int)))) × ((List ((Int) × (List (Int)))) × ((List ((Int) × (List (Int)))) × Unit)))))) (l0 : List ((Int) × (List (Int)))) (proves1 : Bool) (own2 : Int) (fresh3 : Int) (x19 : List ((Int) × (List (Int)))) (x20 : Int) (x21 : Int) (h0 : List ((Int) × (List (Int)))) (h1 : List ((Int) × (List (Int)))) (h2 : List ((Int) × (List (Int)))) : Option ((Unit × ((List ((Int) × (List (Int)))) × ((List ((Int) × (List (Int)))) × ((List ((Int) × (List (Int)))) × Unit))))) :=
 bif (decide (x21 < x20)) then
  Option.bind (getI x19 x21) fun (v12 : (Int × (List Int))) =>
  Option.bind (@slices_Clone_byte_byte N v12.2) fun (v13 : (List Int)) =>
  bif (roomB ((List.length h0) + (List.length ([(v12.1, v13)] : List ((Int × (List Int)))))) 32) then
   Option.bind (takeI l0 x21) fun (v14 : (List (Int × (List Int)))) =>
   Option.bind (@opts_Find N v14 v12.1) fun (v15 : ((Int × (List Int)) × Bool)) =>
   bif v15.2 then
    Option.bind (some (@Bool.true)) fun (v16 : Bool) =>
    bif v16 then
     bif (roomB ((List.length h1) + (List.length ([(v12.1, v13)] : List ((Int × (List Int)))))) 32) then
      (X ((l0, (proves1, (own2, (fresh3, (x19, (x20, ((Go.IntKind.wrap .i64 (x21 + (1 : Int))), @Unit.unit))))))), ((h0 ++ ([(v12.1, v13)] : List ((Int × (List Int))))), ((h1 ++ ([(v12.1, v13)] : List ((Int × (List Int))))), (h2, @Unit.unit)))))
     else
      none
    else
     Option.bind (@lcpo_better N (v12.1, v13) own2 fresh3) fun (v17 : ((Int × (List Int)) × Bool)) =>
     bif v17.2 then
      bif (roomB ((List.length h2) + (List.length ([(v17.1.1, v17.1.2)] : List ((Int × (List Int)))))) 32) then
       (X ((l0, (proves1, (own2, (fresh3, (x19, (x20, ((Go.IntKind.wrap .i64 (x21 + (1 : Int))), @Unit.unit))))))), ((h0 ++ ([(v12.1, v13)] : List ((Int × (List Int))))), (h1, ((h2 ++ ([(v17.1.1, v17.1.2)] : List ((Int × (List Int))))), @Unit.unit)))))
      else
       none
     else
      (X ((l0, (proves1, (own2, (fresh3, (x19, (x20, ((Go.IntKind.wrap .i64 (x21 + (1 : Int))), @Unit.unit))))))), ((h0 ++ ([(v12.1, v13)] : List ((Int × (List Int))))), (h1, (h2, @Unit.unit)))))
   else
    Option.bind (@lcpo_may N (v12.1, v13) proves1) fun (v16 : Bool) =>
    Option.bind (some ((@cond Bool @Bool.false @Bool.true (!v16)))) fun (v17 : Bool) =>
    bif v17 then
     bif (roomB ((List.length h1) + (List.length ([(v12.1, v13)] : List ((Int × (List Int)))))) 32) then
      (X ((l0, (proves1, (own2, (fresh3, (x19, (x20, ((Go.IntKind.wrap .i64 (x21 + (1 : Int))), @Unit.unit))))))), ((h0 ++ ([(v12.1, v13)] : List ((Int × (List Int))))), ((h1 ++ ([(v12.1, v13)] : List ((Int × (List Int))))), (h2, @Unit.unit)))))
     else
      none
    else
     Option.bind (@lcpo_better N (v12.1, v13) own2 fresh3) fun (v18 : ((Int × (List Int)) × Bool)) =>
     bif v18.2 then
      bif (roomB ((List.length h2) + (List.length ([(v18.1.1, v18.1.2)] : List ((Int × (List Int)))))) 32) then
       (X ((l0, (proves1, (own2, (fresh3, (x19, (x20, ((Go.IntKind.wrap .i64 (x21 + (1 : Int))), @Unit.unit))))))), ((h0 ++ ([(v12.1, v13)] : List ((Int × (List Int))))), (h1, ((h2 ++ ([(v18.1.1, v18.1.2)] : List ((Int × (List Int))))), @Unit.unit)))))
      else
       none
     else
      (X ((l0, (proves1, (own2, (fresh3, (x19, (x20, ((Go.IntKind.wrap .i64 (x21 + (1 : Int))), @Unit.unit))))))), ((h0 ++ ([(v12.1, v13)] : List ((Int × (List Int))))), (h1, (h2, @Unit.unit)))))
  else
   none
 else
  some ((@Unit.unit, (h0, (h1, (h2, @Unit.unit)))))
noncomputable def lcpo_Judge_L3_R (N : Nat) (c : (((List ((Int) × (List (Int)))) × ((Bool) × ((Int) × ((Int) × ((List ((Int) × (List (Int)))) × ((Int) × ((Int) × Unit))))))) × ((List ((Int) × (List (Int)))) × ((List ((Int) × (List (Int)))) × ((List ((Int) × (List (Int)))) × Unit))))) : Option ((Unit × ((List ((Int) × (List (Int)))) × ((List ((Int) × (List (Int)))) × ((List ((Int) × (List (Int)))) × Unit))))) := gl (fun X c => lcpo_Judge_L3 N X c.1.1 c.1.2.1 c.1.2.2.1 c.1.2.2.2.1 c.1.2.2.2.2.1 c.1.2.2.2.2.2.1 c.1.2.2.2.2.2.2.1 c.2.1 c.2.2.1 c.2.2.2.1) N c
theorem lcpo_Judge_L3_S (N : Nat) (X : (((List ((Int) × (List (Int)))) × ((Bool) × ((Int) × ((Int) × ((List ((Int) × (List (Int)))) × ((Int) × ((Int) × Unit))))))) × ((List ((Int) × (List (Int)))) × ((List ((Int) × (List (Int)))) × ((List ((Int) × (List (Int)))) × Unit)))) → Option ((Unit × ((List ((Int) × (List (Int)))) × ((List ((Int) × (List (Int)))) × ((List ((Int) × (List (Int)))) × Unit)))))) (l0 : List ((Int) × (List (Int)))) (proves1 : Bool) (own2 : Int) (fresh3 : Int) (x19 : List ((Int) × (List (Int)))) (x20 : Int) (x21 : Int) (h0 : List ((Int) × (List (Int)))) (h1 : List ((Int) × (List (Int)))) (h2 : List ((Int) × (List (Int)))) : (roundK Go.Proofs.Try.prog (Ev35 N) 400 [34] lcpo_Judge_L3_I (loopAt Go.Proofs.Try.prog [34] 3) X ((l0, proves1, own2, fresh3, x19, x20, x21, ()), (h0, h1, h2, ()))).run = lcpo_Judge_L3 N X l0 proves1 own2 fresh3 x19 x20 x21 h0 h1 h2 := by kernel_rfl
noncomputable def Ev36 (N : Nat) : (R : Type) → Env R := Env.addLp (Ev35 N) [34] 0 3 (fun R => lpK Go.Proofs.Try.prog lcpo_Judge_L3_I (fun X c => lcpo_Judge_L3 N X c.1.1 c.1.2.1 c.1.2.2.1 c.1.2.2.2.1 c.1.2.2.2.2.1 c.1.2.2.2.2.2.1 c.1.2.2.2.2.2.2.1 c.2.1 c.2.2.1 c.2.2.2.1) N)
theorem Ev36_ok (N : Nat) (R : Type) : EnvOK Go.Proofs.Try.prog (Ev36 N R) := EnvOK.addLp (Ev35_ok N R) (by kernel_rfl) (lpK_ok (li := lcpo_Judge_L3_I) (G := fun X c => lcpo_Judge_L3 N X c.1.1 c.1.2.1 c.1.2.2.1 c.1.2.2.2.1 c.1.2.2.2.2.1 c.1.2.2.2.2.2.1 c.1.2.2.2.2.2.2.1 c.2.1 c.2.2.1 c.2.2.2.1) hmx (Ev35_ok N _) (by kernel_rfl) loopAt_sub (fun (X : CT lcpo_Judge_L3_I.sh → Option (OT lcpo_Judge_L3_I.outs)) (c : CT lcpo_Judge_L3_I.sh) => lcpo_Judge_L3_S N X c.1.1 c.1.2.1 c.1.2.2.1 c.1.2.2.2.1 c.1.2.2.2.2.1 c.1.2.2.2.2.2.1 c.1.2.2.2.2.2.2.1 c.2.1 c.2.2.1 c.2.2.2.1) N)
noncomputable def lcpo_Judge (N : Nat) (l0 : List ((Int) × (List (Int)))) (proves1 : Bool) (own2 : Int) (fresh3 : Int) : Option ((Int) × List ((Int) × (List (Int)))) :=
 Option.bind (lcpo_Judge_L3_R N ((l0, (proves1, (own2, (fresh3, (l0, ((((List.length l0) : Nat) : Int), ((0 : Int), @Unit.unit))))))), (([] : List ((Int × (List Int)))), (([] : List ((Int × (List Int)))), (([] : List ((Int × (List Int)))), @Unit.unit))))) fun (v5 : (Unit × ((List (Int × (List Int))) × ((List (Int × (List Int))) × ((List (Int × (List Int))) × Unit))))) =>
 bif (decide ((0 : Int) < (((List.length v5.2.2.1) : Nat) : Int))) then
  some (((4 : Int), v5.2.2.1))
 else
  bif (decide ((0 : Int) < (((List.length v5.2.2.2.1) : Nat) : Int))) then
   some (((3 : Int), v5.2.2.2.1))
  else
   some (((2 : Int), v5.2.1))
theorem lcpo_Judge_S (N : Nat) (l0 : List ((Int) × (List (Int)))) (proves1 : Bool) (own2 : Int) (fresh3 : Int) : (runK Go.Proofs.Try.prog (Ev36 N) 400 34 [(.sl (.pair (.int .u8) (.sl (.int .u8)))), .bool, (.int .u32), (.int .u32)] [(.int .u8), (.sl (.pair (.int .u8) (.sl (.int .u8))))] (l0, proves1, own2, fresh3, ())).run = lcpo_Judge N l0 proves1 own2 fresh3 := by kernel_rfl
theorem lcpo_Judge_C (N : Nat) (l0 : List ((Int) × (List (Int)))) (proves1 : Bool) (own2 : Int) (fresh3 : Int) (y : (Int) × List ((Int) × (List (Int)))) (h : lcpo_Judge N l0 proves1 own2 fresh3 = some y) : CallsK Go.Proofs.Try.prog 34 (valA [(.sl (.pair (.int .u8) (.sl (.int .u8)))), .bool, (.int .u32), (.int .u32)] (l0, proves1, own2, fresh3, ())) (tupV (valR [(.int .u8), (.sl (.pair (.int .u8) (.sl (.int .u8))))] y)) := runK_ok hmx (Ev36_ok N _) (okFn_ok (by kernel_rfl)) (by rw [lcpo_Judge_S]; exact h)
noncomputable def Ev37 (N : Nat) : (R : Type) → Env R := Env.addFn (Ev36 N) 34 (fun R => fnK [(.sl (.pair (.int .u8) (.sl (.int .u8)))), .bool, (.int .u32), (.int .u32)] [(.int .u8), (.sl (.pair (.int .u8) (.sl (.int .u8))))] (fun c => lcpo_Judge N c.1 c.2.1 c.2.2.1 c.2.2.2.1))
theorem Ev37_ok (N : Nat) (R : Type) : EnvOK Go.Proofs.Try.prog (Ev37 N R) := EnvOK.addFn hmx (Ev36_ok N R) (Ev36_ok N _) (by kernel_rfl) (fun c => lcpo_Judge_S N c.1 c.2.1 c.2.2.1 c.2.2.2.1)
noncomputable def lcpo_Rejected (N : Nat) (w0 : (Int) × ((Int) × (Bool))) (l1 : List ((Int) × (List (Int)))) : Option (((Int) × ((Int) × (Bool))) × Bool) :=
 Option.bind (@lcpo_has N l1 (1 : Int)) fun (v3 : Bool) =>
 bif v3 then
  Option.bind (@lcpo_has N l1 (5 : Int)) fun (v4 : Bool) =>
  bif v4 then
   Option.bind (@lcpo_has N l1 (3 : Int)) fun (v5 : Bool) =>
   some ((((0 : Int), ((0 : Int), w0.2.2)), (!v5)))
  else
   Option.bind (@lcpo_has N l1 (3 : Int)) fun (v5 : Bool) =>
   some ((((0 : Int), (w0.2.1, w0.2.2)), (!v5)))
 else
  Option.bind (@lcpo_has N l1 (5 : Int)) fun (v4 : Bool) =>
  bif v4 then
   Option.bind (@lcpo_has N l1 (3 : Int)) fun (v5 : Bool) =>
   some (((w0.1, ((0 : Int), w0.2.2)), (!v5)))
  else
   Option.bind (@lcpo_has N l1 (3 : Int)) fun (v5 : Bool) =>
   some (((w0.1, (w0.2.1, w0.2.2)), (!v5)))
theorem lcpo_Rejected_S (N : Nat) (w0 : (Int) × ((Int) × (Bool))) (l1 : List ((Int) × (List (Int)))) : (runK Go.Proofs.Try.prog (Ev37 N) 400 38 [(.pair (.int .u16) (.pair (.int .u32) .bool)), (.sl (.pair (.int .u8) (.sl (.int .u8))))] [(.pair (.int .u16) (.pair (.int .u32) .bool)), .bool] (w0, l1, ())).run = lcpo_Rejected N w0 l1 := by kernel_rfl
theorem lcpo_Rejected_C (N : Nat) (w0 : (Int) × ((Int) × (Bool))) (l1 : List ((Int) × (List (Int)))) (y : ((Int) × ((Int) × (Bool))) × Bool) (h : lcpo_Rejected N w0 l1 = some y) : CallsK Go.Proofs.Try.prog 38 (valA [(.pair (.int .u16) (.pair (.int .u32) .bool)), (.sl (.pair (.int .u8) (.sl (.int .u8))))] (w0, l1, ())) (tupV (valR [(.pair (.int .u16) (.pair (.int .u32) .bool)), .bool] y)) := runK_ok hmx (Ev37_ok N _) (okFn_ok (by kernel_rfl)) (by rw [lcpo_Rejected_S]; exact h)
noncomputable def Ev38 (N : Nat) : (R : Type) → Env R := Env.addFn (Ev37 N) 38 (fun R => fnK [(.pair (.int .u16) (.pair (.int .u32) .bool)), (.sl (.pair (.int .u8) (.sl (.int .u8))))] [(.pair (.int .u16) (.pair (.int .u32) .bool)), .bool] (fun c => lcpo_Rejected N c.1 c.2.1))
theorem Ev38_ok (N : Nat) (R : Type) : EnvOK Go.Proofs.Try.prog (Ev38 N R) := EnvOK.addFn hmx (Ev37_ok N R) (Ev37_ok N _) (by kernel_rfl) (fun c => lcpo_Rejected_S N c.1 c.2.1)
noncomputable def Ev39 (N : Nat) : (R : Type) → Env R := Env.addMv (Ev38 N) [(40, 3), (40, 5), (40, 7)]
theorem Ev39_ok (N : Nat) (R : Type) : EnvOK Go.Proofs.Try.prog (Ev39 N R) := EnvOK.addMv (Ev38_ok N R) [(40, 3), (40, 5), (40, 7)]
noncomputable def Ev40 (N : Nat) : (R : Type) → Env R := Env.addBx (Ev39 N) [(40, 0)]
theorem Ev40_ok (N : Nat) (R : Type) : EnvOK Go.Proofs.Try.prog (Ev40 N R) := EnvOK.addBx (Ev39_ok N R) [(40, 0)]
noncomputable def lcpo_Options (N : Nat) (w0 : (Int) × ((Int) × (Bool))) : Option (List ((Int) × (List (Int)))) :=
 bif (!(decide (w0.1 = (0 : Int)))) then
  Option.bind (@lcpo_number N (1 : Int) (Go.IntKind.wrap .u64 w0.1)) fun (v2 : (Int × (List Int))) =>
  bif w0.2.2 then
   bif (!(decide (w0.2.1 = (0 : Int)))) then
    Option.bind (@lcpo_number N (5 : Int) (Go.IntKind.wrap .u64 w0.2.1)) fun (v3 : (Int × (List Int))) =>
    some (((([(v2.1, v2.2)] : List ((Int × (List Int)))) ++ ([((3 : Int), ([(194 : Int), (35 : Int), (129 : Int)] : List (Int)))] : List ((Int × (List Int))))) ++ ([(v3.1, v3.2)] : List ((Int × (List Int))))))
   else
    some ((([(v2.1, v2.2)] : List ((Int × (List Int)))) ++ ([((3 : Int), ([(194 : Int), (35 : Int), (129 : Int)] : List (Int)))] : List ((Int × (List Int))))))
  else
   bif (!(decide (w0.2.1 = (0 : Int)))) then
    Option.bind (@lcpo_number N (5 : Int) (Go.IntKind.wrap .u64 w0.2.1)) fun (v3 : (Int × (List Int))) =>
    some ((([(v2.1, v2.2)] : List ((Int × (List Int)))) ++ ([(v3.1, v3.2)] : List ((Int × (List Int))))))
   else
    some (([(v2.1, v2.2)] : List ((Int × (List Int)))))
 else
  bif w0.2.2 then
   bif (!(decide (w0.2.1 = (0 : Int)))) then
    Option.bind (@lcpo_number N (5 : Int) (Go.IntKind.wrap .u64 w0.2.1)) fun (v2 : (Int × (List Int))) =>
    some ((([((3 : Int), ([(194 : Int), (35 : Int), (129 : Int)] : List (Int)))] : List ((Int × (List Int)))) ++ ([(v2.1, v2.2)] : List ((Int × (List Int))))))
   else
    some (([((3 : Int), ([(194 : Int), (35 : Int), (129 : Int)] : List (Int)))] : List ((Int × (List Int)))))
  else
   bif (!(decide (w0.2.1 = (0 : Int)))) then
    Option.bind (@lcpo_number N (5 : Int) (Go.IntKind.wrap .u64 w0.2.1)) fun (v2 : (Int × (List Int))) =>
    some (([(v2.1, v2.2)] : List ((Int × (List Int)))))
   else
    some (([] : List ((Int × (List Int)))))
theorem lcpo_Options_S (N : Nat) (w0 : (Int) × ((Int) × (Bool))) : (runK Go.Proofs.Try.prog (Ev40 N) 400 40 [(.pair (.int .u16) (.pair (.int .u32) .bool))] [(.sl (.pair (.int .u8) (.sl (.int .u8))))] (w0, ())).run = lcpo_Options N w0 := by kernel_rfl
theorem lcpo_Options_C (N : Nat) (w0 : (Int) × ((Int) × (Bool))) (y : List ((Int) × (List (Int)))) (h : lcpo_Options N w0 = some y) : CallsK Go.Proofs.Try.prog 40 (valA [(.pair (.int .u16) (.pair (.int .u32) .bool))] (w0, ())) (tupV (valR [(.sl (.pair (.int .u8) (.sl (.int .u8))))] y)) := runK_ok hmx (Ev40_ok N _) (okFn_ok (by kernel_rfl)) (by rw [lcpo_Options_S]; exact h)
noncomputable def Ev41 (N : Nat) : (R : Type) → Env R := Env.addFn (Ev40 N) 40 (fun R => fnK [(.pair (.int .u16) (.pair (.int .u32) .bool))] [(.sl (.pair (.int .u8) (.sl (.int .u8))))] (fun c => lcpo_Options N c.1))
theorem Ev41_ok (N : Nat) (R : Type) : EnvOK Go.Proofs.Try.prog (Ev41 N R) := EnvOK.addFn hmx (Ev40_ok N R) (Ev40_ok N _) (by kernel_rfl) (fun c => lcpo_Options_S N c.1)
noncomputable def lcpo_Of (N : Nat) (l0 : List ((Int) × (List (Int)))) : Option ((Int) × ((Int) × ((Bool) × ((Bool) × (Bool))))) :=
 Option.bind (@lcpo_first N l0 (1 : Int)) fun (v2 : ((List Int) × Bool)) =>
 bif v2.2 then
  Option.bind (@lcpo_value N v2.1) fun (v3 : Int) =>
  Option.bind (@lcpo_first N l0 (5 : Int)) fun (v4 : ((List Int) × Bool)) =>
  bif v4.2 then
   Option.bind (@lcpo_value N v4.1) fun (v5 : Int) =>
   Option.bind (@lcpo_first N l0 (3 : Int)) fun (v6 : ((List Int) × Bool)) =>
   Option.bind (@bytes_Equal N v6.1 ([(194 : Int), (35 : Int), (129 : Int)] : List (Int))) fun (v7 : Bool) =>
   Option.bind (@lcpo_first N l0 (7 : Int)) fun (v8 : ((List Int) × Bool)) =>
   Option.bind (@lcpo_first N l0 (8 : Int)) fun (v9 : ((List Int) × Bool)) =>
   some (((Go.IntKind.wrap .u16 v3), ((Go.IntKind.wrap .u32 v5), (v7, (v8.2, v9.2)))))
  else
   Option.bind (@lcpo_first N l0 (3 : Int)) fun (v5 : ((List Int) × Bool)) =>
   Option.bind (@bytes_Equal N v5.1 ([(194 : Int), (35 : Int), (129 : Int)] : List (Int))) fun (v6 : Bool) =>
   Option.bind (@lcpo_first N l0 (7 : Int)) fun (v7 : ((List Int) × Bool)) =>
   Option.bind (@lcpo_first N l0 (8 : Int)) fun (v8 : ((List Int) × Bool)) =>
   some (((Go.IntKind.wrap .u16 v3), ((0 : Int), (v6, (v7.2, v8.2)))))
 else
  Option.bind (@lcpo_first N l0 (5 : Int)) fun (v3 : ((List Int) × Bool)) =>
  bif v3.2 then
   Option.bind (@lcpo_value N v3.1) fun (v4 : Int) =>
   Option.bind (@lcpo_first N l0 (3 : Int)) fun (v5 : ((List Int) × Bool)) =>
   Option.bind (@bytes_Equal N v5.1 ([(194 : Int), (35 : Int), (129 : Int)] : List (Int))) fun (v6 : Bool) =>
   Option.bind (@lcpo_first N l0 (7 : Int)) fun (v7 : ((List Int) × Bool)) =>
   Option.bind (@lcpo_first N l0 (8 : Int)) fun (v8 : ((List Int) × Bool)) =>
   some (((1500 : Int), ((Go.IntKind.wrap .u32 v4), (v6, (v7.2, v8.2)))))
  else
   Option.bind (@lcpo_first N l0 (3 : Int)) fun (v4 : ((List Int) × Bool)) =>
   Option.bind (@bytes_Equal N v4.1 ([(194 : Int), (35 : Int), (129 : Int)] : List (Int))) fun (v5 : Bool) =>
   Option.bind (@lcpo_first N l0 (7 : Int)) fun (v6 : ((List Int) × Bool)) =>
   Option.bind (@lcpo_first N l0 (8 : Int)) fun (v7 : ((List Int) × Bool)) =>
   some (((1500 : Int), ((0 : Int), (v5, (v6.2, v7.2)))))
theorem lcpo_Of_S (N : Nat) (l0 : List ((Int) × (List (Int)))) : (runK Go.Proofs.Try.prog (Ev41 N) 400 42 [(.sl (.pair (.int .u8) (.sl (.int .u8))))] [(.pair (.int .u16) (.pair (.int .u32) (.pair .bool (.pair .bool .bool))))] (l0, ())).run = lcpo_Of N l0 := by kernel_rfl
theorem lcpo_Of_C (N : Nat) (l0 : List ((Int) × (List (Int)))) (y : (Int) × ((Int) × ((Bool) × ((Bool) × (Bool))))) (h : lcpo_Of N l0 = some y) : CallsK Go.Proofs.Try.prog 42 (valA [(.sl (.pair (.int .u8) (.sl (.int .u8))))] (l0, ())) (tupV (valR [(.pair (.int .u16) (.pair (.int .u32) (.pair .bool (.pair .bool .bool))))] y)) := runK_ok hmx (Ev41_ok N _) (okFn_ok (by kernel_rfl)) (by rw [lcpo_Of_S]; exact h)
noncomputable def Ev42 (N : Nat) : (R : Type) → Env R := Env.addFn (Ev41 N) 42 (fun R => fnK [(.sl (.pair (.int .u8) (.sl (.int .u8))))] [(.pair (.int .u16) (.pair (.int .u32) (.pair .bool (.pair .bool .bool))))] (fun c => lcpo_Of N c.1))
theorem Ev42_ok (N : Nat) (R : Type) : EnvOK Go.Proofs.Try.prog (Ev42 N R) := EnvOK.addFn hmx (Ev41_ok N R) (Ev41_ok N _) (by kernel_rfl) (fun c => lcpo_Of_S N c.1)
noncomputable def lcpo_Naked (N : Nat) (w0 : (Int) × ((Int) × (Bool))) (l1 : List ((Int) × (List (Int)))) (fresh2 : Int) : Option ((Int) × ((Int) × (Bool))) :=
 Option.bind (@lcpo_first N l1 (1 : Int)) fun (v4 : ((List Int) × Bool)) =>
 bif v4.2 then
  Option.bind (@lcpo_value N v4.1) fun (v5 : Int) =>
  Option.bind (bif (decide ((128 : Int) ≤ (Go.IntKind.wrap .u16 v5))) then
    bif (decide ((Go.IntKind.wrap .u16 v5) ≤ w0.1)) then
     some ((@cond Bool @Bool.true @Bool.true @Bool.false))
    else
     some ((@cond Bool @Bool.true (@cond Bool @Bool.false @Bool.true (decide (w0.1 = (0 : Int)))) @Bool.false))
   else
    some (@Bool.false)) fun (v6 : Bool) =>
  bif v6 then
   Option.bind (@lcpo_has N l1 (5 : Int)) fun (v7 : Bool) =>
   bif v7 then
    some (((Go.IntKind.wrap .u16 v5), (fresh2, w0.2.2)))
   else
    some (((Go.IntKind.wrap .u16 v5), (w0.2.1, w0.2.2)))
  else
   Option.bind (@lcpo_has N l1 (5 : Int)) fun (v7 : Bool) =>
   bif v7 then
    some ((w0.1, (fresh2, w0.2.2)))
   else
    some ((w0.1, (w0.2.1, w0.2.2)))
 else
  Option.bind (@lcpo_has N l1 (5 : Int)) fun (v5 : Bool) =>
  bif v5 then
   some ((w0.1, (fresh2, w0.2.2)))
  else
   some ((w0.1, (w0.2.1, w0.2.2)))
theorem lcpo_Naked_S (N : Nat) (w0 : (Int) × ((Int) × (Bool))) (l1 : List ((Int) × (List (Int)))) (fresh2 : Int) : (runK Go.Proofs.Try.prog (Ev42 N) 400 44 [(.pair (.int .u16) (.pair (.int .u32) .bool)), (.sl (.pair (.int .u8) (.sl (.int .u8)))), (.int .u32)] [(.pair (.int .u16) (.pair (.int .u32) .bool))] (w0, l1, fresh2, ())).run = lcpo_Naked N w0 l1 fresh2 := by kernel_rfl
theorem lcpo_Naked_C (N : Nat) (w0 : (Int) × ((Int) × (Bool))) (l1 : List ((Int) × (List (Int)))) (fresh2 : Int) (y : (Int) × ((Int) × (Bool))) (h : lcpo_Naked N w0 l1 fresh2 = some y) : CallsK Go.Proofs.Try.prog 44 (valA [(.pair (.int .u16) (.pair (.int .u32) .bool)), (.sl (.pair (.int .u8) (.sl (.int .u8)))), (.int .u32)] (w0, l1, fresh2, ())) (tupV (valR [(.pair (.int .u16) (.pair (.int .u32) .bool))] y)) := runK_ok hmx (Ev42_ok N _) (okFn_ok (by kernel_rfl)) (by rw [lcpo_Naked_S]; exact h)
noncomputable def Ev43 (N : Nat) : (R : Type) → Env R := Env.addFn (Ev42 N) 44 (fun R => fnK [(.pair (.int .u16) (.pair (.int .u32) .bool)), (.sl (.pair (.int .u8) (.sl (.int .u8)))), (.int .u32)] [(.pair (.int .u16) (.pair (.int .u32) .bool))] (fun c => lcpo_Naked N c.1 c.2.1 c.2.2.1))
theorem Ev43_ok (N : Nat) (R : Type) : EnvOK Go.Proofs.Try.prog (Ev43 N R) := EnvOK.addFn hmx (Ev42_ok N R) (Ev42_ok N _) (by kernel_rfl) (fun c => lcpo_Naked_S N c.1 c.2.1 c.2.2.1)
noncomputable def ref21_Find_L2_I : LI := ⟨25, 0, [], ⟨[(0, .ty (.sl (.pair (.int .u8) (.sl (.int .u8))))), (1, .ty (.int .u8)), (4, .lit (.box 0 0)), (6, .ty (.int .i64))], [.box 120 (.pair (.int .u8) (.sl (.int .u8)))]⟩, [(.ret, ⟨[(4, .lit (.box 0 0)), (5, .ty .bool)], [.box 120 (.pair (.int .u8) (.sl (.int .u8)))]⟩), (.exit 0, ⟨[(4, .lit (.box 0 0))], [.box 120 (.pair (.int .u8) (.sl (.int .u8)))]⟩)]⟩
noncomputable def ref21_Find_L2 (N : Nat) (X : (((List ((Int) × (List (Int)))) × ((Int) × ((Int) × Unit))) × (((Int) × (List (Int))) × Unit)) → Option (((((Bool) × Unit) × (((Int) × (List (Int))) × Unit)) ⊕ (Unit × (((Int) × (List (Int))) × Unit))))) (l0 : List ((Int) × (List (Int)))) (kind1 : Int) (i6 : Int) (h0 : (Int) × (List (Int))) : Option (((((Bool) × Unit) × (((Int) × (List (Int))) × Unit)) ⊕ (Unit × (((Int) × (List (Int))) × Unit)))) :=
 bif (decide (i6 < (((List.length l0) : Nat) : Int))) then
  Option.bind (getI l0 i6) fun (v6 : (Int × (List Int))) =>
  bif (decide (v6.1 = kind1)) then
   Option.bind (getI l0 i6) fun (v7 : (Int × (List Int))) =>
   some ((.inl ((@Bool.true, @Unit.unit), ((v7.1, v7.2), @Unit.unit))))
  else
   (X ((l0, (kind1, ((Go.IntKind.wrap .i64 (i6 + (1 : Int))), @Unit.unit))), ((h0.1, h0.2), @Unit.unit)))
 else
  some ((.inr (@Unit.unit, ((h0.1, h0.2), @Unit.unit))))
noncomputable def ref21_Find_L2_R (N : Nat) (c : (((List ((Int) × (List (Int)))) × ((Int) × ((Int) × Unit))) × (((Int) × (List (Int))) × Unit))) : Option (((((Bool) × Unit) × (((Int) × (List (Int))) × Unit)) ⊕ (Unit × (((Int) × (List (Int))) × Unit)))) := gl (fun X c => ref21_Find_L2 N X c.1.1 c.1.2.1 c.1.2.2.1 c.2.1) N c
theorem ref21_Find_L2_S (N : Nat) (X : (((List ((Int) × (List (Int)))) × ((Int) × ((Int) × Unit))) × (((Int) × (List (Int))) × Unit)) → Option (((((Bool) × Unit) × (((Int) × (List (Int))) × Unit)) ⊕ (Unit × (((Int) × (List (Int))) × Unit))))) (l0 : List ((Int) × (List (Int)))) (kind1 : Int) (i6 : Int) (h0 : (Int) × (List (Int))) : (roundK Go.Proofs.Try.prog (Ev43 N) 400 [64] ref21_Find_L2_I (loopAt Go.Proofs.Try.prog [64] 2) X ((l0, kind1, i6, ()), (h0, ()))).run = ref21_Find_L2 N X l0 kind1 i6 h0 := by kernel_rfl
noncomputable def Ev44 (N : Nat) : (R : Type) → Env R := Env.addLp (Ev43 N) [64] 0 2 (fun R => lpK Go.Proofs.Try.prog ref21_Find_L2_I (fun X c => ref21_Find_L2 N X c.1.1 c.1.2.1 c.1.2.2.1 c.2.1) N)
theorem Ev44_ok (N : Nat) (R : Type) : EnvOK Go.Proofs.Try.prog (Ev44 N R) := EnvOK.addLp (Ev43_ok N R) (by kernel_rfl) (lpK_ok (li := ref21_Find_L2_I) (G := fun X c => ref21_Find_L2 N X c.1.1 c.1.2.1 c.1.2.2.1 c.2.1) hmx (Ev43_ok N _) (by kernel_rfl) loopAt_sub (fun (X : CT ref21_Find_L2_I.sh → Option (OT ref21_Find_L2_I.outs)) (c : CT ref21_Find_L2_I.sh) => ref21_Find_L2_S N X c.1.1 c.1.2.1 c.1.2.2.1 c.2.1) N)
noncomputable def ref21_Find (N : Nat) (l0 : List ((Int) × (List (Int)))) (kind1 : Int) : Option (((Int) × (List (Int))) × Bool) :=
 Option.bind (ref21_Find_L2_R N ((l0, (kind1, ((0 : Int), @Unit.unit))), (((0 : Int), ([] : List (Int))), @Unit.unit))) fun (v3 : (((Bool × Unit) × ((Int × (List Int)) × Unit)) ⊕ (Unit × ((Int × (List Int)) × Unit)))) =>
 Sum.elim
  (fun (v4 : ((Bool × Unit) × ((Int × (List Int)) × Unit))) =>
  some (((v4.2.1.1, v4.2.1.2), v4.1.1)))
  (fun (v4 : (Unit × ((Int × (List Int)) × Unit))) =>
  some ((((0 : Int), ([] : List (Int))), @Bool.false))) v3
theorem ref21_Find_S (N : Nat) (l0 : List ((Int) × (List (Int)))) (kind1 : Int) : (runK Go.Proofs.Try.prog (Ev44 N) 400 64 [(.sl (.pair (.int .u8) (.sl (.int .u8)))), (.int .u8)] [(.pair (.int .u8) (.sl (.int .u8))), .bool] (l0, kind1, ())).run = ref21_Find N l0 kind1 := by kernel_rfl
theorem ref21_Find_C (N : Nat) (l0 : List ((Int) × (List (Int)))) (kind1 : Int) (y : ((Int) × (List (Int))) × Bool) (h : ref21_Find N l0 kind1 = some y) : CallsK Go.Proofs.Try.prog 64 (valA [(.sl (.pair (.int .u8) (.sl (.int .u8)))), (.int .u8)] (l0, kind1, ())) (tupV (valR [(.pair (.int .u8) (.sl (.int .u8))), .bool] y)) := runK_ok hmx (Ev44_ok N _) (okFn_ok (by kernel_rfl)) (by rw [ref21_Find_S]; exact h)
noncomputable def Ev45 (N : Nat) : (R : Type) → Env R := Env.addFn (Ev44 N) 64 (fun R => fnK [(.sl (.pair (.int .u8) (.sl (.int .u8)))), (.int .u8)] [(.pair (.int .u8) (.sl (.int .u8))), .bool] (fun c => ref21_Find N c.1 c.2.1))
theorem Ev45_ok (N : Nat) (R : Type) : EnvOK Go.Proofs.Try.prog (Ev45 N R) := EnvOK.addFn hmx (Ev44_ok N R) (Ev44_ok N _) (by kernel_rfl) (fun c => ref21_Find_S N c.1 c.2.1)
noncomputable def Ev46 (N : Nat) : (R : Type) → Env R := Env.addBx (Ev45 N) [(65, 0)]
theorem Ev46_ok (N : Nat) (R : Type) : EnvOK Go.Proofs.Try.prog (Ev46 N R) := EnvOK.addBx (Ev45_ok N R) [(65, 0)]
noncomputable def ref25_long (N : Nat) (kind0 : Int) : Option (Int) :=
 bif (decide (kind0 = (1 : Int))) then
  some ((2 : Int))
 else
  bif (decide (kind0 = (3 : Int))) then
   some ((3 : Int))
  else
   bif (decide (kind0 = (5 : Int))) then
    some ((4 : Int))
   else
    bif (decide (kind0 = (7 : Int))) then
     bif (decide (kind0 = (7 : Int))) then
      some ((0 : Int))
     else
      some ((-1 : Int))
    else
     bif (decide (kind0 = (8 : Int))) then
      some ((0 : Int))
     else
      some ((-1 : Int))
theorem ref25_long_S (N : Nat) (kind0 : Int) : (runK Go.Proofs.Try.prog (Ev46 N) 400 82 [(.int .u8)] [(.int .i64)] (kind0, ())).run = ref25_long N kind0 := by kernel_rfl
noncomputable def Ev47 (N : Nat) : (R : Type) → Env R := Env.addFn (Ev46 N) 82 (fun R => fnK [(.int .u8)] [(.int .i64)] (fun c => ref25_long N c.1))
theorem Ev47_ok (N : Nat) (R : Type) : EnvOK Go.Proofs.Try.prog (Ev47 N R) := EnvOK.addFn hmx (Ev46_ok N R) (Ev46_ok N _) (by kernel_rfl) (fun c => ref25_long_S N c.1)
noncomputable def ref25_right (N : Nat) (o0 : (Int) × (List (Int))) : Option (Bool) :=
 Option.bind (@ref25_long N o0.1) fun (v2 : Int) =>
 some ((decide (v2 = (((List.length o0.2) : Nat) : Int))))
theorem ref25_right_S (N : Nat) (o0 : (Int) × (List (Int))) : (runK Go.Proofs.Try.prog (Ev47 N) 400 65 [(.pair (.int .u8) (.sl (.int .u8)))] [.bool] (o0, ())).run = ref25_right N o0 := by kernel_rfl
theorem ref25_right_C (N : Nat) (o0 : (Int) × (List (Int))) (y : Bool) (h : ref25_right N o0 = some y) : CallsK Go.Proofs.Try.prog 65 (valA [(.pair (.int .u8) (.sl (.int .u8)))] (o0, ())) (tupV (valR [.bool] y)) := runK_ok hmx (Ev47_ok N _) (okFn_ok (by kernel_rfl)) (by rw [ref25_right_S]; exact h)
noncomputable def Ev48 (N : Nat) : (R : Type) → Env R := Env.addFn (Ev47 N) 65 (fun R => fnK [(.pair (.int .u8) (.sl (.int .u8)))] [.bool] (fun c => ref25_right N c.1))
theorem Ev48_ok (N : Nat) (R : Type) : EnvOK Go.Proofs.Try.prog (Ev48 N R) := EnvOK.addFn hmx (Ev47_ok N R) (Ev47_ok N _) (by kernel_rfl) (fun c => ref25_right_S N c.1)
noncomputable def Ev49 (N : Nat) : (R : Type) → Env R := Env.addBx (Ev48 N) [(66, 0)]
theorem Ev49_ok (N : Nat) (R : Type) : EnvOK Go.Proofs.Try.prog (Ev49 N R) := EnvOK.addBx (Ev48_ok N R) [(66, 0)]
noncomputable def ref01_Num_L3_I : LI := ⟨20, 0, [], ⟨[(0, .ty (.sl (.int .u8))), (3, .ty (.int .u64)), (4, .ty (.int .i64))], []⟩, [(.exit 0, ⟨[(3, .ty (.int .u64))], []⟩)]⟩
noncomputable def ref01_Num_L3 (N : Nat) (X : (((List (Int)) × ((Int) × ((Int) × Unit))) × Unit) → Option ((((Int) × Unit) × Unit))) (b0 : List (Int)) (n3 : Int) (i4 : Int) : Option ((((Int) × Unit) × Unit)) :=
 bif (decide (i4 < (((List.length b0) : Nat) : Int))) then
  Option.bind (getI b0 i4) fun (v5 : Int) =>
  (X ((b0, ((Go.IntKind.wrap .u64 ((Go.IntKind.wrap .u64 (n3 * (256 : Int))) + (Go.IntKind.wrap .u64 v5))), ((Go.IntKind.wrap .i64 (i4 + (1 : Int))), @Unit.unit))), @Unit.unit))
 else
  some (((n3, @Unit.unit), @Unit.unit))
noncomputable def ref01_Num_L3_R (N : Nat) (c : (((List (Int)) × ((Int) × ((Int) × Unit))) × Unit)) : Option ((((Int) × Unit) × Unit)) := gl (fun X c => ref01_Num_L3 N X c.1.1 c.1.2.1 c.1.2.2.1) N c
theorem ref01_Num_L3_S (N : Nat) (X : (((List (Int)) × ((Int) × ((Int) × Unit))) × Unit) → Option ((((Int) × Unit) × Unit))) (b0 : List (Int)) (n3 : Int) (i4 : Int) : (roundK Go.Proofs.Try.prog (Ev49 N) 400 [55] ref01_Num_L3_I (loopAt Go.Proofs.Try.prog [55] 3) X ((b0, n3, i4, ()), ())).run = ref01_Num_L3 N X b0 n3 i4 := by kernel_rfl
noncomputable def Ev50 (N : Nat) : (R : Type) → Env R := Env.addLp (Ev49 N) [55] 0 3 (fun R => lpK Go.Proofs.Try.prog ref01_Num_L3_I (fun X c => ref01_Num_L3 N X c.1.1 c.1.2.1 c.1.2.2.1) N)
theorem Ev50_ok (N : Nat) (R : Type) : EnvOK Go.Proofs.Try.prog (Ev50 N R) := EnvOK.addLp (Ev49_ok N R) (by kernel_rfl) (lpK_ok (li := ref01_Num_L3_I) (G := fun X c => ref01_Num_L3 N X c.1.1 c.1.2.1 c.1.2.2.1) hmx (Ev49_ok N _) (by kernel_rfl) loopAt_sub (fun (X : CT ref01_Num_L3_I.sh → Option (OT ref01_Num_L3_I.outs)) (c : CT ref01_Num_L3_I.sh) => ref01_Num_L3_S N X c.1.1 c.1.2.1 c.1.2.2.1) N)
noncomputable def ref01_Num (N : Nat) (b0 : List (Int)) : Option (Int) :=
 Option.bind (ref01_Num_L3_R N ((b0, ((0 : Int), ((0 : Int), @Unit.unit))), @Unit.unit)) fun (v2 : ((Int × Unit) × Unit)) =>
 some (v2.1.1)
theorem ref01_Num_S (N : Nat) (b0 : List (Int)) : (runK Go.Proofs.Try.prog (Ev50 N) 400 55 [(.sl (.int .u8))] [(.int .u64)] (b0, ())).run = ref01_Num N b0 := by kernel_rfl
noncomputable def Ev51 (N : Nat) : (R : Type) → Env R := Env.addFn (Ev50 N) 55 (fun R => fnK [(.sl (.int .u8))] [(.int .u64)] (fun c => ref01_Num N c.1))
theorem Ev51_ok (N : Nat) (R : Type) : EnvOK Go.Proofs.Try.prog (Ev51 N R) := EnvOK.addFn hmx (Ev50_ok N R) (Ev50_ok N _) (by kernel_rfl) (fun c => ref01_Num_S N c.1)
noncomputable def ref01_Big_L3_I : LI := ⟨24, 0, [], ⟨[(0, .ty (.int .u64)), (5, .lit (.own 0)), (6, .ty (.int .i64))], [.own (.int .u8) 5]⟩, [(.exit 0, ⟨[(5, .lit (.own 0))], [.own (.int .u8) 5]⟩)]⟩
noncomputable def ref01_Big_L3 (N : Nat) (X : (((Int) × ((Int) × Unit)) × ((List (Int)) × Unit)) → Option ((Unit × ((List (Int)) × Unit)))) (n0 : Int) (i6 : Int) (h0 : List (Int)) : Option ((Unit × ((List (Int)) × Unit))) :=
 bif (decide ((0 : Int) ≤ i6)) then
  bif (decide ((0 : Int) ≤ i6 ∧ i6 < (((List.length h0) : Nat) : Int))) then
   Option.bind (@GetElem?.getElem? (List Int) Nat Int (fun (as5 : (List Int)) => (fun (i6 : Nat) => (@LT.lt Nat @instLTNat i6 (List.length as5)))) (@List.instGetElem?NatLtLength Int) h0 (Int.toNat i6)) fun (v5 : Int) =>
   (X (((Go.IntKind.wrap .u64 (@Int.tdiv n0 (256 : Int))), ((Go.IntKind.wrap .i64 (i6 - (1 : Int))), @Unit.unit)), ((@List.set Int h0 (Int.toNat i6) (Go.IntKind.wrap .u8 (@Int.tmod n0 (256 : Int)))), @Unit.unit)))
  else
   none
 else
  some ((@Unit.unit, (h0, @Unit.unit)))
noncomputable def ref01_Big_L3_R (N : Nat) (c : (((Int) × ((Int) × Unit)) × ((List (Int)) × Unit))) : Option ((Unit × ((List (Int)) × Unit))) := gl (fun X c => ref01_Big_L3 N X c.1.1 c.1.2.1 c.2.1) N c
theorem ref01_Big_L3_S (N : Nat) (X : (((Int) × ((Int) × Unit)) × ((List (Int)) × Unit)) → Option ((Unit × ((List (Int)) × Unit)))) (n0 : Int) (i6 : Int) (h0 : List (Int)) : (roundK Go.Proofs.Try.prog (Ev51 N) 400 [52] ref01_Big_L3_I (loopAt Go.Proofs.Try.prog [52] 3) X ((n0, i6, ()), (h0, ()))).run = ref01_Big_L3 N X n0 i6 h0 := by kernel_rfl
noncomputable def Ev52 (N : Nat) : (R : Type) → Env R := Env.addLp (Ev51 N) [52] 0 3 (fun R => lpK Go.Proofs.Try.prog ref01_Big_L3_I (fun X c => ref01_Big_L3 N X c.1.1 c.1.2.1 c.2.1) N)
theorem Ev52_ok (N : Nat) (R : Type) : EnvOK Go.Proofs.Try.prog (Ev52 N R) := EnvOK.addLp (Ev51_ok N R) (by kernel_rfl) (lpK_ok (li := ref01_Big_L3_I) (G := fun X c => ref01_Big_L3 N X c.1.1 c.1.2.1 c.2.1) hmx (Ev51_ok N _) (by kernel_rfl) loopAt_sub (fun (X : CT ref01_Big_L3_I.sh → Option (OT ref01_Big_L3_I.outs)) (c : CT ref01_Big_L3_I.sh) => ref01_Big_L3_S N X c.1.1 c.1.2.1 c.2.1) N)
noncomputable def ref01_Big (N : Nat) (n0 : Int) (width1 : Int) : Option (List (Int)) :=
 bif ((decide ((0 : Int) ≤ width1 ∧ width1 ≤ width1)) && (roomB (Int.toNat width1) 1)) then
  Option.bind (ref01_Big_L3_R N ((n0, ((Go.IntKind.wrap .i64 (width1 - (1 : Int))), @Unit.unit)), ((@List.replicate Int (Int.toNat width1) (0 : Int)), @Unit.unit))) fun (v3 : (Unit × ((List Int) × Unit))) =>
  some (v3.2.1)
 else
  none
theorem ref01_Big_S (N : Nat) (n0 : Int) (width1 : Int) : (runK Go.Proofs.Try.prog (Ev52 N) 400 52 [(.int .u64), (.int .i64)] [(.sl (.int .u8))] (n0, width1, ())).run = ref01_Big N n0 width1 := by kernel_rfl
noncomputable def Ev53 (N : Nat) : (R : Type) → Env R := Env.addFn (Ev52 N) 52 (fun R => fnK [(.int .u64), (.int .i64)] [(.sl (.int .u8))] (fun c => ref01_Big N c.1 c.2.1))
theorem Ev53_ok (N : Nat) (R : Type) : EnvOK Go.Proofs.Try.prog (Ev53 N R) := EnvOK.addFn hmx (Ev52_ok N R) (Ev52_ok N _) (by kernel_rfl) (fun c => ref01_Big_S N c.1 c.2.1)
noncomputable def ref25_chap (N : Nat) : Option (List (Int)) :=
 some (([(194 : Int), (35 : Int), (129 : Int)] : List (Int)))
theorem ref25_chap_S (N : Nat) : (runK Go.Proofs.Try.prog (Ev53 N) 400 71 [] [(.sl (.int .u8))] ()).run = ref25_chap N  := by kernel_rfl
theorem ref25_chap_C (N : Nat) (y : List (Int)) (h : ref25_chap N  = some y) : CallsK Go.Proofs.Try.prog 71 (valA [] ()) (tupV (valR [(.sl (.int .u8))] y)) := runK_ok hmx (Ev53_ok N _) (okFn_ok (by kernel_rfl)) (by rw [ref25_chap_S]; exact h)
noncomputable def Ev54 (N : Nat) : (R : Type) → Env R := Env.addFn (Ev53 N) 71 (fun R => fnK [] [(.sl (.int .u8))] (fun c => ref25_chap N ))
theorem Ev54_ok (N : Nat) (R : Type) : EnvOK Go.Proofs.Try.prog (Ev54 N R) := EnvOK.addFn hmx (Ev53_ok N R) (Ev53_ok N _) (by kernel_rfl) (fun c => ref25_chap_S N )
noncomputable def ref01_Same_L4_I : LI := ⟨26, 0, [], ⟨[(0, .ty (.sl (.int .u8))), (1, .ty (.sl (.int .u8))), (5, .ty (.int .i64))], []⟩, [(.ret, ⟨[(4, .ty .bool)], []⟩), (.exit 0, ⟨[], []⟩)]⟩
noncomputable def ref01_Same_L4 (N : Nat) (X : (((List (Int)) × ((List (Int)) × ((Int) × Unit))) × Unit) → Option (((((Bool) × Unit) × Unit) ⊕ (Unit × Unit)))) (a0 : List (Int)) (b1 : List (Int)) (i5 : Int) : Option (((((Bool) × Unit) × Unit) ⊕ (Unit × Unit))) :=
 bif (decide (i5 < (((List.length a0) : Nat) : Int))) then
  Option.bind (getI a0 i5) fun (v5 : Int) =>
  Option.bind (getI b1 i5) fun (v6 : Int) =>
  bif (!(decide (v5 = v6))) then
   some ((.inl ((@Bool.false, @Unit.unit), @Unit.unit)))
  else
   (X ((a0, (b1, ((Go.IntKind.wrap .i64 (i5 + (1 : Int))), @Unit.unit))), @Unit.unit))
 else
  some ((.inr (@Unit.unit, @Unit.unit)))
noncomputable def ref01_Same_L4_R (N : Nat) (c : (((List (Int)) × ((List (Int)) × ((Int) × Unit))) × Unit)) : Option (((((Bool) × Unit) × Unit) ⊕ (Unit × Unit))) := gl (fun X c => ref01_Same_L4 N X c.1.1 c.1.2.1 c.1.2.2.1) N c
theorem ref01_Same_L4_S (N : Nat) (X : (((List (Int)) × ((List (Int)) × ((Int) × Unit))) × Unit) → Option (((((Bool) × Unit) × Unit) ⊕ (Unit × Unit)))) (a0 : List (Int)) (b1 : List (Int)) (i5 : Int) : (roundK Go.Proofs.Try.prog (Ev54 N) 400 [16] ref01_Same_L4_I (loopAt Go.Proofs.Try.prog [16] 4) X ((a0, b1, i5, ()), ())).run = ref01_Same_L4 N X a0 b1 i5 := by kernel_rfl
noncomputable def Ev55 (N : Nat) : (R : Type) → Env R := Env.addLp (Ev54 N) [16] 0 4 (fun R => lpK Go.Proofs.Try.prog ref01_Same_L4_I (fun X c => ref01_Same_L4 N X c.1.1 c.1.2.1 c.1.2.2.1) N)
theorem Ev55_ok (N : Nat) (R : Type) : EnvOK Go.Proofs.Try.prog (Ev55 N R) := EnvOK.addLp (Ev54_ok N R) (by kernel_rfl) (lpK_ok (li := ref01_Same_L4_I) (G := fun X c => ref01_Same_L4 N X c.1.1 c.1.2.1 c.1.2.2.1) hmx (Ev54_ok N _) (by kernel_rfl) loopAt_sub (fun (X : CT ref01_Same_L4_I.sh → Option (OT ref01_Same_L4_I.outs)) (c : CT ref01_Same_L4_I.sh) => ref01_Same_L4_S N X c.1.1 c.1.2.1 c.1.2.2.1) N)
noncomputable def ref01_Same (N : Nat) (a0 : List (Int)) (b1 : List (Int)) : Option (Bool) :=
 bif (!(decide ((((List.length a0) : Nat) : Int) = (((List.length b1) : Nat) : Int)))) then
  some (@Bool.false)
 else
  Option.bind (ref01_Same_L4_R N ((a0, (b1, ((0 : Int), @Unit.unit))), @Unit.unit)) fun (v3 : (((Bool × Unit) × Unit) ⊕ (Unit × Unit))) =>
  Sum.elim
   (fun (v4 : ((Bool × Unit) × Unit)) =>
   some (v4.1.1))
   (fun (v4 : (Unit × Unit)) =>
   some (@Bool.true)) v3
theorem ref01_Same_S (N : Nat) (a0 : List (Int)) (b1 : List (Int)) : (runK Go.Proofs.Try.prog (Ev55 N) 400 16 [(.sl (.int .u8)), (.sl (.int .u8))] [.bool] (a0, b1, ())).run = ref01_Same N a0 b1 := by kernel_rfl
noncomputable def Ev56 (N : Nat) : (R : Type) → Env R := Env.addFn (Ev55 N) 16 (fun R => fnK [(.sl (.int .u8)), (.sl (.int .u8))] [.bool] (fun c => ref01_Same N c.1 c.2.1))
theorem Ev56_ok (N : Nat) (R : Type) : EnvOK Go.Proofs.Try.prog (Ev56 N R) := EnvOK.addFn hmx (Ev55_ok N R) (Ev55_ok N _) (by kernel_rfl) (fun c => ref01_Same_S N c.1 c.2.1)
noncomputable def ref25_better (N : Nat) (o0 : (Int) × (List (Int))) (own1 : Int) (fresh2 : Int) : Option (((Int) × (List (Int))) × Bool) :=
 Option.bind (@ref01_Num N o0.2) fun (v4 : Int) =>
 Option.bind (bif (decide (o0.1 = (1 : Int))) then
   some ((@cond Bool @Bool.true (decide ((Go.IntKind.wrap .u32 v4) < (128 : Int))) @Bool.false))
  else
   some (@Bool.false)) fun (v5 : Bool) =>
 bif v5 then
  Option.bind (@ref01_Big N (1400 : Int) (2 : Int)) fun (v6 : (List Int)) =>
  some ((((1 : Int), v6), @Bool.true))
 else
  bif (decide (o0.1 = (3 : Int))) then
   Option.bind (@ref01_Same N o0.2 ([(194 : Int), (35 : Int), (129 : Int)] : List (Int))) fun (v6 : Bool) =>
   bif (@cond Bool @Bool.true (!v6) @Bool.false) then
    some ((((3 : Int), ([(194 : Int), (35 : Int), (129 : Int)] : List (Int))), @Bool.true))
   else
    Option.bind (bif (decide (o0.1 = (5 : Int))) then
      bif (decide ((Go.IntKind.wrap .u32 v4) = (0 : Int))) then
       some ((@cond Bool @Bool.true @Bool.true @Bool.false))
      else
       some ((@cond Bool @Bool.true (@cond Bool @Bool.false @Bool.true (decide ((Go.IntKind.wrap .u32 v4) = own1))) @Bool.false))
     else
      some (@Bool.false)) fun (v7 : Bool) =>
    bif v7 then
     Option.bind (@ref01_Big N (Go.IntKind.wrap .u64 fresh2) (4 : Int)) fun (v8 : (List Int)) =>
     some ((((5 : Int), v8), @Bool.true))
    else
     some ((((0 : Int), ([] : List (Int))), @Bool.false))
  else
   Option.bind (bif (decide (o0.1 = (5 : Int))) then
     bif (decide ((Go.IntKind.wrap .u32 v4) = (0 : Int))) then
      some ((@cond Bool @Bool.true @Bool.true @Bool.false))
     else
      some ((@cond Bool @Bool.true (@cond Bool @Bool.false @Bool.true (decide ((Go.IntKind.wrap .u32 v4) = own1))) @Bool.false))
    else
     some (@Bool.false)) fun (v6 : Bool) =>
   bif v6 then
    Option.bind (@ref01_Big N (Go.IntKind.wrap .u64 fresh2) (4 : Int)) fun (v7 : (List Int)) =>
    some ((((5 : Int), v7), @Bool.true))
   else
    some ((((0 : Int), ([] : List (Int))), @Bool.false))
theorem ref25_better_S (N : Nat) (o0 : (Int) × (List (Int))) (own1 : Int) (fresh2 : Int) : (runK Go.Proofs.Try.prog (Ev56 N) 400 66 [(.pair (.int .u8) (.sl (.int .u8))), (.int .u32), (.int .u32)] [(.pair (.int .u8) (.sl (.int .u8))), .bool] (o0, own1, fresh2, ())).run = ref25_better N o0 own1 fresh2 := by kernel_rfl
theorem ref25_better_C (N : Nat) (o0 : (Int) × (List (Int))) (own1 : Int) (fresh2 : Int) (y : ((Int) × (List (Int))) × Bool) (h : ref25_better N o0 own1 fresh2 = some y) : CallsK Go.Proofs.Try.prog 66 (valA [(.pair (.int .u8) (.sl (.int .u8))), (.int .u32), (.int .u32)] (o0, own1, fresh2, ())) (tupV (valR [(.pair (.int .u8) (.sl (.int .u8))), .bool] y)) := runK_ok hmx (Ev56_ok N _) (okFn_ok (by kernel_rfl)) (by rw [ref25_better_S]; exact h)
noncomputable def Ev57 (N : Nat) : (R : Type) → Env R := Env.addFn (Ev56 N) 66 (fun R => fnK [(.pair (.int .u8) (.sl (.int .u8))), (.int .u32), (.int .u32)] [(.pair (.int .u8) (.sl (.int .u8))), .bool] (fun c => ref25_better N c.1 c.2.1 c.2.2.1))
theorem Ev57_ok (N : Nat) (R : Type) : EnvOK Go.Proofs.Try.prog (Ev57 N R) := EnvOK.addFn hmx (Ev56_ok N R) (Ev56_ok N _) (by kernel_rfl) (fun c => ref25_better_S N c.1 c.2.1 c.2.2.1)
noncomputable def ref25_first_L2_I : LI := ⟨32, 0, [], ⟨[(0, .ty (.sl (.pair (.int .u8) (.sl (.int .u8))))), (1, .ty (.int .u8)), (4, .lit (.box 0 0)), (6, .ty (.int .i64))], [.box 120 (.pair (.int .u8) (.sl (.int .u8)))]⟩, [(.ret, ⟨[(4, .lit (.box 0 0)), (5, .ty .bool)], [.box 120 (.pair (.int .u8) (.sl (.int .u8)))]⟩), (.exit 0, ⟨[(4, .lit (.box 0 0))], [.box 120 (.pair (.int .u8) (.sl (.int .u8)))]⟩)]⟩
noncomputable def ref25_first_L2 (N : Nat) (X : (((List ((Int) × (List (Int)))) × ((Int) × ((Int) × Unit))) × (((Int) × (List (Int))) × Unit)) → Option (((((Bool) × Unit) × (((Int) × (List (Int))) × Unit)) ⊕ (Unit × (((Int) × (List (Int))) × Unit))))) (l0 : List ((Int) × (List (Int)))) (kind1 : Int) (i6 : Int) (h0 : (Int) × (List (Int))) : Option (((((Bool) × Unit) × (((Int) × (List (Int))) × Unit)) ⊕ (Unit × (((Int) × (List (Int))) × Unit)))) :=
 bif (decide (i6 < (((List.length l0) : Nat) : Int))) then
  Option.bind (getI l0 i6) fun (v6 : (Int × (List Int))) =>
  bif (decide (v6.1 = kind1)) then
   Option.bind (getI l0 i6) fun (v7 : (Int × (List Int))) =>
   Option.bind (@ref25_right N (v7.1, v7.2)) fun (v8 : Bool) =>
   bif (@cond Bool @Bool.true v8 @Bool.false) then
    Option.bind (getI l0 i6) fun (v9 : (Int × (List Int))) =>
    some ((.inl ((@Bool.true, @Unit.unit), ((v9.1, v9.2), @Unit.unit))))
   else
    (X ((l0, (kind1, ((Go.IntKind.wrap .i64 (i6 + (1 : Int))), @Unit.unit))), ((h0.1, h0.2), @Unit.unit)))
  else
   (X ((l0, (kind1, ((Go.IntKind.wrap .i64 (i6 + (1 : Int))), @Unit.unit))), ((h0.1, h0.2), @Unit.unit)))
 else
  some ((.inr (@Unit.unit, ((h0.1, h0.2), @Unit.unit))))
noncomputable def ref25_first_L2_R (N : Nat) (c : (((List ((Int) × (List (Int)))) × ((Int) × ((Int) × Unit))) × (((Int) × (List (Int))) × Unit))) : Option (((((Bool) × Unit) × (((Int) × (List (Int))) × Unit)) ⊕ (Unit × (((Int) × (List (Int))) × Unit)))) := gl (fun X c => ref25_first_L2 N X c.1.1 c.1.2.1 c.1.2.2.1 c.2.1) N c
theorem ref25_first_L2_S (N : Nat) (X : (((List ((Int) × (List (Int)))) × ((Int) × ((Int) × Unit))) × (((Int) × (List (Int))) × Unit)) → Option (((((Bool) × Unit) × (((Int) × (List (Int))) × Unit)) ⊕ (Unit × (((Int) × (List (Int))) × Unit))))) (l0 : List ((Int) × (List (Int)))) (kind1 : Int) (i6 : Int) (h0 : (Int) × (List (Int))) : (roundK Go.Proofs.Try.prog (Ev57 N) 400 [75] ref25_first_L2_I (loopAt Go.Proofs.Try.prog [75] 2) X ((l0, kind1, i6, ()), (h0, ()))).run = ref25_first_L2 N X l0 kind1 i6 h0 := by kernel_rfl
noncomputable def Ev58 (N : Nat) : (R : Type) → Env R := Env.addLp (Ev57 N) [75] 0 2 (fun R => lpK Go.Proofs.Try.prog ref25_first_L2_I (fun X c => ref25_first_L2 N X c.1.1 c.1.2.1 c.1.2.2.1 c.2.1) N)
theorem Ev58_ok (N : Nat) (R : Type) : EnvOK Go.Proofs.Try.prog (Ev58 N R) := EnvOK.addLp (Ev57_ok N R) (by kernel_rfl) (lpK_ok (li := ref25_first_L2_I) (G := fun X c => ref25_first_L2 N X c.1.1 c.1.2.1 c.1.2.2.1 c.2.1) hmx (Ev57_ok N _) (by kernel_rfl) loopAt_sub (fun (X : CT ref25_first_L2_I.sh → Option (OT ref25_first_L2_I.outs)) (c : CT ref25_first_L2_I.sh) => ref25_first_L2_S N X c.1.1 c.1.2.1 c.1.2.2.1 c.2.1) N)
noncomputable def ref25_first (N : Nat) (l0 : List ((Int) × (List (Int)))) (kind1 : Int) : Option (((Int) × (List (Int))) × Bool) :=
 Option.bind (ref25_first_L2_R N ((l0, (kind1, ((0 : Int), @Unit.unit))), (((0 : Int), ([] : List (Int))), @Unit.unit))) fun (v3 : (((Bool × Unit) × ((Int × (List Int)) × Unit)) ⊕ (Unit × ((Int × (List Int)) × Unit)))) =>
 Sum.elim
  (fun (v4 : ((Bool × Unit) × ((Int × (List Int)) × Unit))) =>
  some (((v4.2.1.1, v4.2.1.2), v4.1.1)))
  (fun (v4 : (Unit × ((Int × (List Int)) × Unit))) =>
  some ((((0 : Int), ([] : List (Int))), @Bool.false))) v3
theorem ref25_first_S (N : Nat) (l0 : List ((Int) × (List (Int)))) (kind1 : Int) : (runK Go.Proofs.Try.prog (Ev58 N) 400 75 [(.sl (.pair (.int .u8) (.sl (.int .u8)))), (.int .u8)] [(.pair (.int .u8) (.sl (.int .u8))), .bool] (l0, kind1, ())).run = ref25_first N l0 kind1 := by kernel_rfl
theorem ref25_first_C (N : Nat) (l0 : List ((Int) × (List (Int)))) (kind1 : Int) (y : ((Int) × (List (Int))) × Bool) (h : ref25_first N l0 kind1 = some y) : CallsK Go.Proofs.Try.prog 75 (valA [(.sl (.pair (.int .u8) (.sl (.int .u8)))), (.int .u8)] (l0, kind1, ())) (tupV (valR [(.pair (.int .u8) (.sl (.int .u8))), .bool] y)) := runK_ok hmx (Ev58_ok N _) (okFn_ok (by kernel_rfl)) (by rw [ref25_first_S]; exact h)
noncomputable def Ev59 (N : Nat) : (R : Type) → Env R := Env.addFn (Ev58 N) 75 (fun R => fnK [(.sl (.pair (.int .u8) (.sl (.int .u8)))), (.int .u8)] [(.pair (.int .u8) (.sl (.int .u8))), .bool] (fun c => ref25_first N c.1 c.2.1))
theorem Ev59_ok (N : Nat) (R : Type) : EnvOK Go.Proofs.Try.prog (Ev59 N R) := EnvOK.addFn hmx (Ev58_ok N R) (Ev58_ok N _) (by kernel_rfl) (fun c => ref25_first_S N c.1 c.2.1)
noncomputable def Ev60 (N : Nat) : (R : Type) → Env R := Env.addMv (Ev59 N) [(36, 7), (36, 10)]
theorem Ev60_ok (N : Nat) (R : Type) : EnvOK Go.Proofs.Try.prog (Ev60 N R) := EnvOK.addMv (Ev59_ok N R) [(36, 7), (36, 10)]
noncomputable def ref25_Judge_L3_I : LI := ⟨87, 0, [(10, 120), (11, 120)], ⟨[(0, .ty (.sl (.pair (.int .u8) (.sl (.int .u8))))), (1, .ty .bool), (2, .ty (.int .u32)), (3, .ty (.int .u32)), (10, .lit (.own 0)), (11, .lit (.own 1)), (12, .ty (.int .i64))], [.own (.pair (.int .u8) (.sl (.int .u8))) 120, .own (.pair (.int .u8) (.sl (.int .u8))) 120]⟩, [(.exit 0, ⟨[(0, .ty (.sl (.pair (.int .u8) (.sl (.int .u8))))), (10, .lit (.own 0)), (11, .lit (.own 1))], [.own (.pair (.int .u8) (.sl (.int .u8))) 120, .own (.pair (.int .u8) (.sl (.int .u8))) 120]⟩)]⟩
noncomputable def ref25_Judge_L3 (N : Nat) (X : (((List ((Int) × (List (Int)))) × ((Bool) × ((Int) × ((Int) × ((Int) × Unit))))) × ((List ((Int) × (List (Int)))) × ((List ((Int) × (List (Int)))) × Unit))) → Option ((((List ((Int) × (List (Int)))) × Unit) × ((List ((Int) × (List (Int)))) × ((List ((Int) × (List (Int)))) × Unit))))) (l0 : List ((Int) × (List (Int)))) (proves1 : Bool) (own2 : Int) (fresh3 : Int) (i12 : Int) (h0 : List ((Int) × (List (Int)))) (h1 : List ((Int) × (List (Int)))) : Option ((((List ((Int) × (List (Int)))) × Unit) × ((List ((Int) × (List (Int)))) × ((List ((Int) × (List (Int)))) × Unit)))) :=
 bif (decide (i12 < (((List.length l0) : Nat) : Int))) then
  Option.bind (takeI l0 i12) fun (v9 : (List (Int × (List Int)))) =>
  Option.bind (getI l0 i12) fun (v10 : (Int × (List Int))) =>
  Option.bind (@ref21_Find N v9 v10.1) fun (v11 : ((Int × (List Int)) × Bool)) =>
  Option.bind (getI l0 i12) fun (v12 : (Int × (List Int))) =>
  Option.bind (@ref25_right N (v12.1, v12.2)) fun (v13 : Bool) =>
  Option.bind (bif (!v13) then
    some (@Bool.true)
   else
    some ((@cond Bool @Bool.false @Bool.true v11.2))) fun (v14 : Bool) =>
  Option.bind (bif v14 then
    some (@Bool.true)
   else
    Option.bind (getI l0 i12) fun (v15 : (Int × (List Int))) =>
    bif (decide (v15.1 = (3 : Int))) then
     some ((@cond Bool @Bool.false @Bool.true (@cond Bool @Bool.true (!proves1) @Bool.false)))
    else
     some ((@cond Bool @Bool.false @Bool.true @Bool.false))) fun (v15 : Bool) =>
  bif v15 then
   Option.bind (getI l0 i12) fun (v16 : (Int × (List Int))) =>
   bif (roomB ((List.length h0) + (List.length ([(v16.1, v16.2)] : List ((Int × (List Int)))))) 32) then
    (X ((l0, (proves1, (own2, (fresh3, ((Go.IntKind.wrap .i64 (i12 + (1 : Int))), @Unit.unit))))), ((h0 ++ ([(v16.1, v16.2)] : List ((Int × (List Int))))), (h1, @Unit.unit))))
   else
    none
  else
   Option.bind (getI l0 i12) fun (v16 : (Int × (List Int))) =>
   Option.bind (@ref25_better N (v16.1, v16.2) own2 fresh3) fun (v17 : ((Int × (List Int)) × Bool)) =>
   bif v17.2 then
    bif (roomB ((List.length h1) + (List.length ([(v17.1.1, v17.1.2)] : List ((Int × (List Int)))))) 32) then
     (X ((l0, (proves1, (own2, (fresh3, ((Go.IntKind.wrap .i64 (i12 + (1 : Int))), @Unit.unit))))), (h0, ((h1 ++ ([(v17.1.1, v17.1.2)] : List ((Int × (List Int))))), @Unit.unit))))
    else
     none
   else
    (X ((l0, (proves1, (own2, (fresh3, ((Go.IntKind.wrap .i64 (i12 + (1 : Int))), @Unit.unit))))), (h0, (h1, @Unit.unit))))
 else
  some (((l0, @Unit.unit), (h0, (h1, @Unit.unit))))
noncomputable def ref25_Judge_L3_R (N : Nat) (c : (((List ((Int) × (List (Int)))) × ((Bool) × ((Int) × ((Int) × ((Int) × Unit))))) × ((List ((Int) × (List (Int)))) × ((List ((Int) × (List (Int)))) × Unit)))) : Option ((((List ((Int) × (List (Int)))) × Unit) × ((List ((Int) × (List (Int)))) × ((List ((Int) × (List (Int)))) × Unit)))) := gl (fun X c => ref25_Judge_L3 N X c.1.1 c.1.2.1 c.1.2.2.1 c.1.2.2.2.1 c.1.2.2.2.2.1 c.2.1 c.2.2.1) N c
theorem ref25_Judge_L3_S (N : Nat) (X : (((List ((Int) × (List (Int)))) × ((Bool) × ((Int) × ((Int) × ((Int) × Unit))))) × ((List ((Int) × (List (Int)))) × ((List ((Int) × (List (Int)))) × Unit))) → Option ((((List ((Int) × (List (Int)))) × Unit) × ((List ((Int) × (List (Int)))) × ((List ((Int) × (List (Int)))) × Unit))))) (l0 : List ((Int) × (List (Int)))) (proves1 : Bool) (own2 : Int) (fresh3 : Int) (i12 : Int) (h0 : List ((Int) × (List (Int)))) (h1 : List ((Int) × (List (Int)))) : (roundK Go.Proofs.Try.prog (Ev60 N) 400 [36] ref25_Judge_L3_I (loopAt Go.Proofs.Try.prog [36] 3) X ((l0, proves1, own2, fresh3, i12, ()), (h0, h1, ()))).run = ref25_Judge_L3 N X l0 proves1 own2 fresh3 i12 h0 h1 := by kernel_rfl
noncomputable def Ev61 (N : Nat) : (R : Type) → Env R := Env.addLp (Ev60 N) [36] 0 3 (fun R => lpK Go.Proofs.Try.prog ref25_Judge_L3_I (fun X c => ref25_Judge_L3 N X c.1.1 c.1.2.1 c.1.2.2.1 c.1.2.2.2.1 c.1.2.2.2.2.1 c.2.1 c.2.2.1) N)
theorem Ev61_ok (N : Nat) (R : Type) : EnvOK Go.Proofs.Try.prog (Ev61 N R) := EnvOK.addLp (Ev60_ok N R) (by kernel_rfl) (lpK_ok (li := ref25_Judge_L3_I) (G := fun X c => ref25_Judge_L3 N X c.1.1 c.1.2.1 c.1.2.2.1 c.1.2.2.2.1 c.1.2.2.2.2.1 c.2.1 c.2.2.1) hmx (Ev60_ok N _) (by kernel_rfl) loopAt_sub (fun (X : CT ref25_Judge_L3_I.sh → Option (OT ref25_Judge_L3_I.outs)) (c : CT ref25_Judge_L3_I.sh) => ref25_Judge_L3_S N X c.1.1 c.1.2.1 c.1.2.2.1 c.1.2.2.2.1 c.1.2.2.2.2.1 c.2.1 c.2.2.1) N)
noncomputable def ref25_Judge (N : Nat) (l0 : List ((Int) × (List (Int)))) (proves1 : Bool) (own2 : Int) (fresh3 : Int) : Option ((Int) × List ((Int) × (List (Int)))) :=
 Option.bind (ref25_Judge_L3_R N ((l0, (proves1, (own2, (fresh3, ((0 : Int), @Unit.unit))))), (([] : List ((Int × (List Int)))), (([] : List ((Int × (List Int)))), @Unit.unit)))) fun (v5 : (((List (Int × (List Int))) × Unit) × ((List (Int × (List Int))) × ((List (Int × (List Int))) × Unit)))) =>
 bif (decide ((0 : Int) < (((List.length v5.2.1) : Nat) : Int))) then
  some (((4 : Int), v5.2.1))
 else
  bif (decide ((0 : Int) < (((List.length v5.2.2.1) : Nat) : Int))) then
   some (((3 : Int), v5.2.2.1))
  else
   some (((2 : Int), v5.1.1))
theorem ref25_Judge_S (N : Nat) (l0 : List ((Int) × (List (Int)))) (proves1 : Bool) (own2 : Int) (fresh3 : Int) : (runK Go.Proofs.Try.prog (Ev61 N) 400 36 [(.sl (.pair (.int .u8) (.sl (.int .u8)))), .bool, (.int .u32), (.int .u32)] [(.int .u8), (.sl (.pair (.int .u8) (.sl (.int .u8))))] (l0, proves1, own2, fresh3, ())).run = ref25_Judge N l0 proves1 own2 fresh3 := by kernel_rfl
theorem ref25_Judge_C (N : Nat) (l0 : List ((Int) × (List (Int)))) (proves1 : Bool) (own2 : Int) (fresh3 : Int) (y : (Int) × List ((Int) × (List (Int)))) (h : ref25_Judge N l0 proves1 own2 fresh3 = some y) : CallsK Go.Proofs.Try.prog 36 (valA [(.sl (.pair (.int .u8) (.sl (.int .u8)))), .bool, (.int .u32), (.int .u32)] (l0, proves1, own2, fresh3, ())) (tupV (valR [(.int .u8), (.sl (.pair (.int .u8) (.sl (.int .u8))))] y)) := runK_ok hmx (Ev61_ok N _) (okFn_ok (by kernel_rfl)) (by rw [ref25_Judge_S]; exact h)
noncomputable def Ev62 (N : Nat) : (R : Type) → Env R := Env.addFn (Ev61 N) 36 (fun R => fnK [(.sl (.pair (.int .u8) (.sl (.int .u8)))), .bool, (.int .u32), (.int .u32)] [(.int .u8), (.sl (.pair (.int .u8) (.sl (.int .u8))))] (fun c => ref25_Judge N c.1 c.2.1 c.2.2.1 c.2.2.2.1))
theorem Ev62_ok (N : Nat) (R : Type) : EnvOK Go.Proofs.Try.prog (Ev62 N R) := EnvOK.addFn hmx (Ev61_ok N R) (Ev61_ok N _) (by kernel_rfl) (fun c => ref25_Judge_S N c.1 c.2.1 c.2.2.1 c.2.2.2.1)
noncomputable def ref25_Rejected (N : Nat) (w0 : (Int) × ((Int) × (Bool))) (l1 : List ((Int) × (List (Int)))) : Option (((Int) × ((Int) × (Bool))) × Bool) :=
 Option.bind (@ref21_Find N l1 (1 : Int)) fun (v3 : ((Int × (List Int)) × Bool)) =>
 bif v3.2 then
  Option.bind (@ref21_Find N l1 (5 : Int)) fun (v4 : ((Int × (List Int)) × Bool)) =>
  bif v4.2 then
   Option.bind (@ref21_Find N l1 (3 : Int)) fun (v5 : ((Int × (List Int)) × Bool)) =>
   some ((((0 : Int), ((0 : Int), w0.2.2)), (!v5.2)))
  else
   Option.bind (@ref21_Find N l1 (3 : Int)) fun (v5 : ((Int × (List Int)) × Bool)) =>
   some ((((0 : Int), (w0.2.1, w0.2.2)), (!v5.2)))
 else
  Option.bind (@ref21_Find N l1 (5 : Int)) fun (v4 : ((Int × (List Int)) × Bool)) =>
  bif v4.2 then
   Option.bind (@ref21_Find N l1 (3 : Int)) fun (v5 : ((Int × (List Int)) × Bool)) =>
   some (((w0.1, ((0 : Int), w0.2.2)), (!v5.2)))
  else
   Option.bind (@ref21_Find N l1 (3 : Int)) fun (v5 : ((Int × (List Int)) × Bool)) =>
   some (((w0.1, (w0.2.1, w0.2.2)), (!v5.2)))
theorem ref25_Rejected_S (N : Nat) (w0 : (Int) × ((Int) × (Bool))) (l1 : List ((Int) × (List (Int)))) : (runK Go.Proofs.Try.prog (Ev62 N) 400 39 [(.pair (.int .u16) (.pair (.int .u32) .bool)), (.sl (.pair (.int .u8) (.sl (.int .u8))))] [(.pair (.int .u16) (.pair (.int .u32) .bool)), .bool] (w0, l1, ())).run = ref25_Rejected N w0 l1 := by kernel_rfl
theorem ref25_Rejected_C (N : Nat) (w0 : (Int) × ((Int) × (Bool))) (l1 : List ((Int) × (List (Int)))) (y : ((Int) × ((Int) × (Bool))) × Bool) (h : ref25_Rejected N w0 l1 = some y) : CallsK Go.Proofs.Try.prog 39 (valA [(.pair (.int .u16) (.pair (.int .u32) .bool)), (.sl (.pair (.int .u8) (.sl (.int .u8))))] (w0, l1, ())) (tupV (valR [(.pair (.int .u16) (.pair (.int .u32) .bool)), .bool] y)) := runK_ok hmx (Ev62_ok N _) (okFn_ok (by kernel_rfl)) (by rw [ref25_Rejected_S]; exact h)
noncomputable def Ev63 (N : Nat) : (R : Type) → Env R := Env.addFn (Ev62 N) 39 (fun R => fnK [(.pair (.int .u16) (.pair (.int .u32) .bool)), (.sl (.pair (.int .u8) (.sl (.int .u8))))] [(.pair (.int .u16) (.pair (.int .u32) .bool)), .bool] (fun c => ref25_Rejected N c.1 c.2.1))
theorem Ev63_ok (N : Nat) (R : Type) : EnvOK Go.Proofs.Try.prog (Ev63 N R) := EnvOK.addFn hmx (Ev62_ok N R) (Ev62_ok N _) (by kernel_rfl) (fun c => ref25_Rejected_S N c.1 c.2.1)
noncomputable def Ev64 (N : Nat) : (R : Type) → Env R := Env.addMv (Ev63 N) [(41, 3), (41, 5), (41, 7)]
theorem Ev64_ok (N : Nat) (R : Type) : EnvOK Go.Proofs.Try.prog (Ev64 N R) := EnvOK.addMv (Ev63_ok N R) [(41, 3), (41, 5), (41, 7)]
noncomputable def Ev65 (N : Nat) : (R : Type) → Env R := Env.addBx (Ev64 N) [(41, 0)]
theorem Ev65_ok (N : Nat) (R : Type) : EnvOK Go.Proofs.Try.prog (Ev65 N R) := EnvOK.addBx (Ev64_ok N R) [(41, 0)]
noncomputable def ref25_Options (N : Nat) (w0 : (Int) × ((Int) × (Bool))) : Option (List ((Int) × (List (Int)))) :=
 bif (!(decide (w0.1 = (0 : Int)))) then
  Option.bind (@ref01_Big N (Go.IntKind.wrap .u64 w0.1) (2 : Int)) fun (v2 : (List Int)) =>
  bif w0.2.2 then
   bif (!(decide (w0.2.1 = (0 : Int)))) then
    Option.bind (@ref01_Big N (Go.IntKind.wrap .u64 w0.2.1) (4 : Int)) fun (v3 : (List Int)) =>
    some (((([((1 : Int), v2)] : List ((Int × (List Int)))) ++ ([((3 : Int), ([(194 : Int), (35 : Int), (129 : Int)] : List (Int)))] : List ((Int × (List Int))))) ++ ([((5 : Int), v3)] : List ((Int × (List Int))))))
   else
    some ((([((1 : Int), v2)] : List ((Int × (List Int)))) ++ ([((3 : Int), ([(194 : Int), (35 : Int), (129 : Int)] : List (Int)))] : List ((Int × (List Int))))))
  else
   bif (!(decide (w0.2.1 = (0 : Int)))) then
    Option.bind (@ref01_Big N (Go.IntKind.wrap .u64 w0.2.1) (4 : Int)) fun (v3 : (List Int)) =>
    some ((([((1 : Int), v2)] : List ((Int × (List Int)))) ++ ([((5 : Int), v3)] : List ((Int × (List Int))))))
   else
    some (([((1 : Int), v2)] : List ((Int × (List Int)))))
 else
  bif w0.2.2 then
   bif (!(decide (w0.2.1 = (0 : Int)))) then
    Option.bind (@ref01_Big N (Go.IntKind.wrap .u64 w0.2.1) (4 : Int)) fun (v2 : (List Int)) =>
    some ((([((3 : Int), ([(194 : Int), (35 : Int), (129 : Int)] : List (Int)))] : List ((Int × (List Int)))) ++ ([((5 : Int), v2)] : List ((Int × (List Int))))))
   else
    some (([((3 : Int), ([(194 : Int), (35 : Int), (129 : Int)] : List (Int)))] : List ((Int × (List Int)))))
  else
   bif (!(decide (w0.2.1 = (0 : Int)))) then
    Option.bind (@ref01_Big N (Go.IntKind.wrap .u64 w0.2.1) (4 : Int)) fun (v2 : (List Int)) =>
    some (([((5 : Int), v2)] : List ((Int × (List Int)))))
   else
    some (([] : List ((Int × (List Int)))))
theorem ref25_Options_S (N : Nat) (w0 : (Int) × ((Int) × (Bool))) : (runK Go.Proofs.Try.prog (Ev65 N) 400 41 [(.pair (.int .u16) (.pair (.int .u32) .bool))] [(.sl (.pair (.int .u8) (.sl (.int .u8))))] (w0, ())).run = ref25_Options N w0 := by kernel_rfl
theorem ref25_Options_C (N : Nat) (w0 : (Int) × ((Int) × (Bool))) (y : List ((Int) × (List (Int)))) (h : ref25_Options N w0 = some y) : CallsK Go.Proofs.Try.prog 41 (valA [(.pair (.int .u16) (.pair (.int .u32) .bool))] (w0, ())) (tupV (valR [(.sl (.pair (.int .u8) (.sl (.int .u8))))] y)) := runK_ok hmx (Ev65_ok N _) (okFn_ok (by kernel_rfl)) (by rw [ref25_Options_S]; exact h)
noncomputable def Ev66 (N : Nat) : (R : Type) → Env R := Env.addFn (Ev65 N) 41 (fun R => fnK [(.pair (.int .u16) (.pair (.int .u32) .bool))] [(.sl (.pair (.int .u8) (.sl (.int .u8))))] (fun c => ref25_Options N c.1))
theorem Ev66_ok (N : Nat) (R : Type) : EnvOK Go.Proofs.Try.prog (Ev66 N R) := EnvOK.addFn hmx (Ev65_ok N R) (Ev65_ok N _) (by kernel_rfl) (fun c => ref25_Options_S N c.1)
noncomputable def ref25_Of (N : Nat) (l0 : List ((Int) × (List (Int)))) : Option ((Int) × ((Int) × ((Bool) × ((Bool) × (Bool))))) :=
 Option.bind (@ref25_first N l0 (1 : Int)) fun (v2 : ((Int × (List Int)) × Bool)) =>
 bif v2.2 then
  Option.bind (@ref01_Num N v2.1.2) fun (v3 : Int) =>
  Option.bind (@ref25_first N l0 (3 : Int)) fun (v4 : ((Int × (List Int)) × Bool)) =>
  bif v4.2 then
   Option.bind (@ref01_Same N v4.1.2 ([(194 : Int), (35 : Int), (129 : Int)] : List (Int))) fun (v5 : Bool) =>
   Option.bind (@ref25_first N l0 (5 : Int)) fun (v6 : ((Int × (List Int)) × Bool)) =>
   bif v6.2 then
    Option.bind (@ref01_Num N v6.1.2) fun (v7 : Int) =>
    Option.bind (@ref25_first N l0 (7 : Int)) fun (v8 : ((Int × (List Int)) × Bool)) =>
    Option.bind (@ref25_first N l0 (8 : Int)) fun (v9 : ((Int × (List Int)) × Bool)) =>
    some (((Go.IntKind.wrap .u16 v3), ((Go.IntKind.wrap .u32 v7), (v5, (v8.2, v9.2)))))
   else
    Option.bind (@ref25_first N l0 (7 : Int)) fun (v7 : ((Int × (List Int)) × Bool)) =>
    Option.bind (@ref25_first N l0 (8 : Int)) fun (v8 : ((Int × (List Int)) × Bool)) =>
    some (((Go.IntKind.wrap .u16 v3), ((0 : Int), (v5, (v7.2, v8.2)))))
  else
   Option.bind (@ref25_first N l0 (5 : Int)) fun (v5 : ((Int × (List Int)) × Bool)) =>
   bif v5.2 then
    Option.bind (@ref01_Num N v5.1.2) fun (v6 : Int) =>
    Option.bind (@ref25_first N l0 (7 : Int)) fun (v7 : ((Int × (List Int)) × Bool)) =>
    Option.bind (@ref25_first N l0 (8 : Int)) fun (v8 : ((Int × (List Int)) × Bool)) =>
    some (((Go.IntKind.wrap .u16 v3), ((Go.IntKind.wrap .u32 v6), (@Bool.false, (v7.2, v8.2)))))
   else
    Option.bind (@ref25_first N l0 (7 : Int)) fun (v6 : ((Int × (List Int)) × Bool)) =>
    Option.bind (@ref25_first N l0 (8 : Int)) fun (v7 : ((Int × (List Int)) × Bool)) =>
    some (((Go.IntKind.wrap .u16 v3), ((0 : Int), (@Bool.false, (v6.2, v7.2)))))
 else
  Option.bind (@ref25_first N l0 (3 : Int)) fun (v3 : ((Int × (List Int)) × Bool)) =>
  bif v3.2 then
   Option.bind (@ref01_Same N v3.1.2 ([(194 : Int), (35 : Int), (129 : Int)] : List (Int))) fun (v4 : Bool) =>
   Option.bind (@ref25_first N l0 (5 : Int)) fun (v5 : ((Int × (List Int)) × Bool)) =>
   bif v5.2 then
    Option.bind (@ref01_Num N v5.1.2) fun (v6 : Int) =>
    Option.bind (@ref25_first N l0 (7 : Int)) fun (v7 : ((Int × (List Int)) × Bool)) =>
    Option.bind (@ref25_first N l0 (8 : Int)) fun (v8 : ((Int × (List Int)) × Bool)) =>
    some (((1500 : Int), ((Go.IntKind.wrap .u32 v6), (v4, (v7.2, v8.2)))))
   else
    Option.bind (@ref25_first N l0 (7 : Int)) fun (v6 : ((Int × (List Int)) × Bool)) =>
    Option.bind (@ref25_first N l0 (8 : Int)) fun (v7 : ((Int × (List Int)) × Bool)) =>
    some (((1500 : Int), ((0 : Int), (v4, (v6.2, v7.2)))))
  else
   Option.bind (@ref25_first N l0 (5 : Int)) fun (v4 : ((Int × (List Int)) × Bool)) =>
   bif v4.2 then
    Option.bind (@ref01_Num N v4.1.2) fun (v5 : Int) =>
    Option.bind (@ref25_first N l0 (7 : Int)) fun (v6 : ((Int × (List Int)) × Bool)) =>
    Option.bind (@ref25_first N l0 (8 : Int)) fun (v7 : ((Int × (List Int)) × Bool)) =>
    some (((1500 : Int), ((Go.IntKind.wrap .u32 v5), (@Bool.false, (v6.2, v7.2)))))
   else
    Option.bind (@ref25_first N l0 (7 : Int)) fun (v5 : ((Int × (List Int)) × Bool)) =>
    Option.bind (@ref25_first N l0 (8 : Int)) fun (v6 : ((Int × (List Int)) × Bool)) =>
    some (((1500 : Int), ((0 : Int), (@Bool.false, (v5.2, v6.2)))))
theorem ref25_Of_S (N : Nat) (l0 : List ((Int) × (List (Int)))) : (runK Go.Proofs.Try.prog (Ev66 N) 400 43 [(.sl (.pair (.int .u8) (.sl (.int .u8))))] [(.pair (.int .u16) (.pair (.int .u32) (.pair .bool (.pair .bool .bool))))] (l0, ())).run = ref25_Of N l0 := by kernel_rfl
theorem ref25_Of_C (N : Nat) (l0 : List ((Int) × (List (Int)))) (y : (Int) × ((Int) × ((Bool) × ((Bool) × (Bool))))) (h : ref25_Of N l0 = some y) : CallsK Go.Proofs.Try.prog 43 (valA [(.sl (.pair (.int .u8) (.sl (.int .u8))))] (l0, ())) (tupV (valR [(.pair (.int .u16) (.pair (.int .u32) (.pair .bool (.pair .bool .bool))))] y)) := runK_ok hmx (Ev66_ok N _) (okFn_ok (by kernel_rfl)) (by rw [ref25_Of_S]; exact h)
noncomputable def Ev67 (N : Nat) : (R : Type) → Env R := Env.addFn (Ev66 N) 43 (fun R => fnK [(.sl (.pair (.int .u8) (.sl (.int .u8))))] [(.pair (.int .u16) (.pair (.int .u32) (.pair .bool (.pair .bool .bool))))] (fun c => ref25_Of N c.1))
theorem Ev67_ok (N : Nat) (R : Type) : EnvOK Go.Proofs.Try.prog (Ev67 N R) := EnvOK.addFn hmx (Ev66_ok N R) (Ev66_ok N _) (by kernel_rfl) (fun c => ref25_Of_S N c.1)
noncomputable def ref25_Naked (N : Nat) (w0 : (Int) × ((Int) × (Bool))) (l1 : List ((Int) × (List (Int)))) (fresh2 : Int) : Option ((Int) × ((Int) × (Bool))) :=
 Option.bind (@ref25_first N l1 (1 : Int)) fun (v4 : ((Int × (List Int)) × Bool)) =>
 bif v4.2 then
  Option.bind (@ref01_Num N v4.1.2) fun (v5 : Int) =>
  Option.bind (bif (decide ((128 : Int) ≤ (Go.IntKind.wrap .u16 v5))) then
    bif (decide (w0.1 = (0 : Int))) then
     some ((@cond Bool @Bool.true @Bool.true @Bool.false))
    else
     some ((@cond Bool @Bool.true (@cond Bool @Bool.false @Bool.true (decide ((Go.IntKind.wrap .u16 v5) ≤ w0.1))) @Bool.false))
   else
    some (@Bool.false)) fun (v6 : Bool) =>
  bif v6 then
   Option.bind (@ref21_Find N l1 (5 : Int)) fun (v7 : ((Int × (List Int)) × Bool)) =>
   bif v7.2 then
    some (((Go.IntKind.wrap .u16 v5), (fresh2, w0.2.2)))
   else
    some (((Go.IntKind.wrap .u16 v5), (w0.2.1, w0.2.2)))
  else
   Option.bind (@ref21_Find N l1 (5 : Int)) fun (v7 : ((Int × (List Int)) × Bool)) =>
   bif v7.2 then
    some ((w0.1, (fresh2, w0.2.2)))
   else
    some ((w0.1, (w0.2.1, w0.2.2)))
 else
  Option.bind (@ref21_Find N l1 (5 : Int)) fun (v5 : ((Int × (List Int)) × Bool)) =>
  bif v5.2 then
   some ((w0.1, (fresh2, w0.2.2)))
  else
   some ((w0.1, (w0.2.1, w0.2.2)))
theorem ref25_Naked_S (N : Nat) (w0 : (Int) × ((Int) × (Bool))) (l1 : List ((Int) × (List (Int)))) (fresh2 : Int) : (runK Go.Proofs.Try.prog (Ev67 N) 400 45 [(.pair (.int .u16) (.pair (.int .u32) .bool)), (.sl (.pair (.int .u8) (.sl (.int .u8)))), (.int .u32)] [(.pair (.int .u16) (.pair (.int .u32) .bool))] (w0, l1, fresh2, ())).run = ref25_Naked N w0 l1 fresh2 := by kernel_rfl
theorem ref25_Naked_C (N : Nat) (w0 : (Int) × ((Int) × (Bool))) (l1 : List ((Int) × (List (Int)))) (fresh2 : Int) (y : (Int) × ((Int) × (Bool))) (h : ref25_Naked N w0 l1 fresh2 = some y) : CallsK Go.Proofs.Try.prog 45 (valA [(.pair (.int .u16) (.pair (.int .u32) .bool)), (.sl (.pair (.int .u8) (.sl (.int .u8)))), (.int .u32)] (w0, l1, fresh2, ())) (tupV (valR [(.pair (.int .u16) (.pair (.int .u32) .bool))] y)) := runK_ok hmx (Ev67_ok N _) (okFn_ok (by kernel_rfl)) (by rw [ref25_Naked_S]; exact h)
noncomputable def Ev68 (N : Nat) : (R : Type) → Env R := Env.addFn (Ev67 N) 45 (fun R => fnK [(.pair (.int .u16) (.pair (.int .u32) .bool)), (.sl (.pair (.int .u8) (.sl (.int .u8)))), (.int .u32)] [(.pair (.int .u16) (.pair (.int .u32) .bool))] (fun c => ref25_Naked N c.1 c.2.1 c.2.2.1))
theorem Ev68_ok (N : Nat) (R : Type) : EnvOK Go.Proofs.Try.prog (Ev68 N R) := EnvOK.addFn hmx (Ev67_ok N R) (Ev67_ok N _) (by kernel_rfl) (fun c => ref25_Naked_S N c.1 c.2.1 c.2.2.1)
noncomputable def law25_alive (N : Nat) : Option (Bool) :=
 Option.bind (@lcpo_Judge N ([((9 : Int), ([] : List (Int)))] : List ((Int × (List Int)))) @Bool.true (1 : Int) (2 : Int)) fun (v1 : (Int × (List (Int × (List Int))))) =>
 Option.bind (@lcpo_Options N ((1400 : Int), ((7 : Int), @Bool.true))) fun (v2 : (List (Int × (List Int)))) =>
 bif (decide (v1.1 = (4 : Int))) then
  Option.bind (some ((@cond Bool @Bool.true (decide ((((List.length v1.2) : Nat) : Int) = (1 : Int))) @Bool.false))) fun (v3 : Bool) =>
  Option.bind (bif v3 then
    Option.bind (getI v1.2 (0 : Int)) fun (v4 : (Int × (List Int))) =>
    some ((@cond Bool @Bool.true (decide (v4.1 = (9 : Int))) @Bool.false))
   else
    some (@Bool.false)) fun (v4 : Bool) =>
  bif v4 then
   Option.bind (some ((@cond Bool @Bool.true (decide ((((List.length v2) : Nat) : Int) = (3 : Int))) @Bool.false))) fun (v5 : Bool) =>
   bif v5 then
    Option.bind (getI v2 (1 : Int)) fun (v6 : (Int × (List Int))) =>
    Option.bind (some ((@cond Bool @Bool.true (decide ((((List.length v6.2) : Nat) : Int) = (3 : Int))) @Bool.false))) fun (v7 : Bool) =>
    bif v7 then
     Option.bind (@lcpo_Of N v2) fun (v8 : (Int × (Int × (Bool × (Bool × Bool))))) =>
     Option.bind (some ((@cond Bool @Bool.true (decide (v8.1 = (1400 : Int))) @Bool.false))) fun (v9 : Bool) =>
     bif v9 then
      Option.bind (some ((@cond Bool @Bool.true (decide ((((List.length ([(194 : Int), (35 : Int), (129 : Int)] : List (Int))) : Nat) : Int) = (3 : Int))) @Bool.false))) fun (v10 : Bool) =>
      some (v10)
     else
      Option.bind (some (@Bool.false)) fun (v10 : Bool) =>
      some (v10)
    else
     Option.bind (some (@Bool.false)) fun (v8 : Bool) =>
     bif v8 then
      Option.bind (some ((@cond Bool @Bool.true (decide ((((List.length ([(194 : Int), (35 : Int), (129 : Int)] : List (Int))) : Nat) : Int) = (3 : Int))) @Bool.false))) fun (v9 : Bool) =>
      some (v9)
     else
      Option.bind (some (@Bool.false)) fun (v9 : Bool) =>
      some (v9)
   else
    Option.bind (some (@Bool.false)) fun (v6 : Bool) =>
    bif v6 then
     Option.bind (@lcpo_Of N v2) fun (v7 : (Int × (Int × (Bool × (Bool × Bool))))) =>
     Option.bind (some ((@cond Bool @Bool.true (decide (v7.1 = (1400 : Int))) @Bool.false))) fun (v8 : Bool) =>
     bif v8 then
      Option.bind (some ((@cond Bool @Bool.true (decide ((((List.length ([(194 : Int), (35 : Int), (129 : Int)] : List (Int))) : Nat) : Int) = (3 : Int))) @Bool.false))) fun (v9 : Bool) =>
      some (v9)
     else
      Option.bind (some (@Bool.false)) fun (v9 : Bool) =>
      some (v9)
    else
     Option.bind (some (@Bool.false)) fun (v7 : Bool) =>
     bif v7 then
      Option.bind (some ((@cond Bool @Bool.true (decide ((((List.length ([(194 : Int), (35 : Int), (129 : Int)] : List (Int))) : Nat) : Int) = (3 : Int))) @Bool.false))) fun (v8 : Bool) =>
      some (v8)
     else
      Option.bind (some (@Bool.false)) fun (v8 : Bool) =>
      some (v8)
  else
   Option.bind (some (@Bool.false)) fun (v5 : Bool) =>
   bif v5 then
    Option.bind (getI v2 (1 : Int)) fun (v6 : (Int × (List Int))) =>
    Option.bind (some ((@cond Bool @Bool.true (decide ((((List.length v6.2) : Nat) : Int) = (3 : Int))) @Bool.false))) fun (v7 : Bool) =>
    bif v7 then
     Option.bind (@lcpo_Of N v2) fun (v8 : (Int × (Int × (Bool × (Bool × Bool))))) =>
     Option.bind (some ((@cond Bool @Bool.true (decide (v8.1 = (1400 : Int))) @Bool.false))) fun (v9 : Bool) =>
     bif v9 then
      Option.bind (some ((@cond Bool @Bool.true (decide ((((List.length ([(194 : Int), (35 : Int), (129 : Int)] : List (Int))) : Nat) : Int) = (3 : Int))) @Bool.false))) fun (v10 : Bool) =>
      some (v10)
     else
      Option.bind (some (@Bool.false)) fun (v10 : Bool) =>
      some (v10)
    else
     Option.bind (some (@Bool.false)) fun (v8 : Bool) =>
     bif v8 then
      Option.bind (some ((@cond Bool @Bool.true (decide ((((List.length ([(194 : Int), (35 : Int), (129 : Int)] : List (Int))) : Nat) : Int) = (3 : Int))) @Bool.false))) fun (v9 : Bool) =>
      some (v9)
     else
      Option.bind (some (@Bool.false)) fun (v9 : Bool) =>
      some (v9)
   else
    Option.bind (some (@Bool.false)) fun (v6 : Bool) =>
    bif v6 then
     Option.bind (@lcpo_Of N v2) fun (v7 : (Int × (Int × (Bool × (Bool × Bool))))) =>
     Option.bind (some ((@cond Bool @Bool.true (decide (v7.1 = (1400 : Int))) @Bool.false))) fun (v8 : Bool) =>
     bif v8 then
      Option.bind (some ((@cond Bool @Bool.true (decide ((((List.length ([(194 : Int), (35 : Int), (129 : Int)] : List (Int))) : Nat) : Int) = (3 : Int))) @Bool.false))) fun (v9 : Bool) =>
      some (v9)
     else
      Option.bind (some (@Bool.false)) fun (v9 : Bool) =>
      some (v9)
    else
     Option.bind (some (@Bool.false)) fun (v7 : Bool) =>
     bif v7 then
      Option.bind (some ((@cond Bool @Bool.true (decide ((((List.length ([(194 : Int), (35 : Int), (129 : Int)] : List (Int))) : Nat) : Int) = (3 : Int))) @Bool.false))) fun (v8 : Bool) =>
      some (v8)
     else
      Option.bind (some (@Bool.false)) fun (v8 : Bool) =>
      some (v8)
 else
  Option.bind (some (@Bool.false)) fun (v3 : Bool) =>
  Option.bind (bif v3 then
    Option.bind (getI v1.2 (0 : Int)) fun (v4 : (Int × (List Int))) =>
    some ((@cond Bool @Bool.true (decide (v4.1 = (9 : Int))) @Bool.false))
   else
    some (@Bool.false)) fun (v4 : Bool) =>
  bif v4 then
   Option.bind (some ((@cond Bool @Bool.true (decide ((((List.length v2) : Nat) : Int) = (3 : Int))) @Bool.false))) fun (v5 : Bool) =>
   bif v5 then
    Option.bind (getI v2 (1 : Int)) fun (v6 : (Int × (List Int))) =>
    Option.bind (some ((@cond Bool @Bool.true (decide ((((List.length v6.2) : Nat) : Int) = (3 : Int))) @Bool.false))) fun (v7 : Bool) =>
    bif v7 then
     Option.bind (@lcpo_Of N v2) fun (v8 : (Int × (Int × (Bool × (Bool × Bool))))) =>
     Option.bind (some ((@cond Bool @Bool.true (decide (v8.1 = (1400 : Int))) @Bool.false))) fun (v9 : Bool) =>
     bif v9 then
      Option.bind (some ((@cond Bool @Bool.true (decide ((((List.length ([(194 : Int), (35 : Int), (129 : Int)] : List (Int))) : Nat) : Int) = (3 : Int))) @Bool.false))) fun (v10 : Bool) =>
      some (v10)
     else
      Option.bind (some (@Bool.false)) fun (v10 : Bool) =>
      some (v10)
    else
     Option.bind (some (@Bool.false)) fun (v8 : Bool) =>
     bif v8 then
      Option.bind (some ((@cond Bool @Bool.true (decide ((((List.length ([(194 : Int), (35 : Int), (129 : Int)] : List (Int))) : Nat) : Int) = (3 : Int))) @Bool.false))) fun (v9 : Bool) =>
      some (v9)
     else
      Option.bind (some (@Bool.false)) fun (v9 : Bool) =>
      some (v9)
   else
    Option.bind (some (@Bool.false)) fun (v6 : Bool) =>
    bif v6 then
     Option.bind (@lcpo_Of N v2) fun (v7 : (Int × (Int × (Bool × (Bool × Bool))))) =>
     Option.bind (some ((@cond Bool @Bool.true (decide (v7.1 = (1400 : Int))) @Bool.false))) fun (v8 : Bool) =>
     bif v8 then
      Option.bind (some ((@cond Bool @Bool.true (decide ((((List.length ([(194 : Int), (35 : Int), (129 : Int)] : List (Int))) : Nat) : Int) = (3 : Int))) @Bool.false))) fun (v9 : Bool) =>
      some (v9)
     else
      Option.bind (some (@Bool.false)) fun (v9 : Bool) =>
      some (v9)
    else
     Option.bind (some (@Bool.false)) fun (v7 : Bool) =>
     bif v7 then
      Option.bind (some ((@cond Bool @Bool.true (decide ((((List.length ([(194 : Int), (35 : Int), (129 : Int)] : List (Int))) : Nat) : Int) = (3 : Int))) @Bool.false))) fun (v8 : Bool) =>
      some (v8)
     else
      Option.bind (some (@Bool.false)) fun (v8 : Bool) =>
      some (v8)
  else
   Option.bind (some (@Bool.false)) fun (v5 : Bool) =>
   bif v5 then
    Option.bind (getI v2 (1 : Int)) fun (v6 : (Int × (List Int))) =>
    Option.bind (some ((@cond Bool @Bool.true (decide ((((List.length v6.2) : Nat) : Int) = (3 : Int))) @Bool.false))) fun (v7 : Bool) =>
    bif v7 then
     Option.bind (@lcpo_Of N v2) fun (v8 : (Int × (Int × (Bool × (Bool × Bool))))) =>
     Option.bind (some ((@cond Bool @Bool.true (decide (v8.1 = (1400 : Int))) @Bool.false))) fun (v9 : Bool) =>
     bif v9 then
      Option.bind (some ((@cond Bool @Bool.true (decide ((((List.length ([(194 : Int), (35 : Int), (129 : Int)] : List (Int))) : Nat) : Int) = (3 : Int))) @Bool.false))) fun (v10 : Bool) =>
      some (v10)
     else
      Option.bind (some (@Bool.false)) fun (v10 : Bool) =>
      some (v10)
    else
     Option.bind (some (@Bool.false)) fun (v8 : Bool) =>
     bif v8 then
      Option.bind (some ((@cond Bool @Bool.true (decide ((((List.length ([(194 : Int), (35 : Int), (129 : Int)] : List (Int))) : Nat) : Int) = (3 : Int))) @Bool.false))) fun (v9 : Bool) =>
      some (v9)
     else
      Option.bind (some (@Bool.false)) fun (v9 : Bool) =>
      some (v9)
   else
    Option.bind (some (@Bool.false)) fun (v6 : Bool) =>
    bif v6 then
     Option.bind (@lcpo_Of N v2) fun (v7 : (Int × (Int × (Bool × (Bool × Bool))))) =>
     Option.bind (some ((@cond Bool @Bool.true (decide (v7.1 = (1400 : Int))) @Bool.false))) fun (v8 : Bool) =>
     bif v8 then
      Option.bind (some ((@cond Bool @Bool.true (decide ((((List.length ([(194 : Int), (35 : Int), (129 : Int)] : List (Int))) : Nat) : Int) = (3 : Int))) @Bool.false))) fun (v9 : Bool) =>
      some (v9)
     else
      Option.bind (some (@Bool.false)) fun (v9 : Bool) =>
      some (v9)
    else
     Option.bind (some (@Bool.false)) fun (v7 : Bool) =>
     bif v7 then
      Option.bind (some ((@cond Bool @Bool.true (decide ((((List.length ([(194 : Int), (35 : Int), (129 : Int)] : List (Int))) : Nat) : Int) = (3 : Int))) @Bool.false))) fun (v8 : Bool) =>
      some (v8)
     else
      Option.bind (some (@Bool.false)) fun (v8 : Bool) =>
      some (v8)
theorem law25_alive_S (N : Nat) : (runK Go.Proofs.Try.prog (Ev68 N) 400 33 [] [.bool] ()).run = law25_alive N  := by kernel_rfl
theorem law25_alive_C (N : Nat) (y : Bool) (h : law25_alive N  = some y) : CallsK Go.Proofs.Try.prog 33 (valA [] ()) (tupV (valR [.bool] y)) := runK_ok hmx (Ev68_ok N _) (okFn_ok (by kernel_rfl)) (by rw [law25_alive_S]; exact h)
noncomputable def Ev69 (N : Nat) : (R : Type) → Env R := Env.addFn (Ev68 N) 33 (fun R => fnK [] [.bool] (fun c => law25_alive N ))
theorem Ev69_ok (N : Nat) (R : Type) : EnvOK Go.Proofs.Try.prog (Ev69 N R) := EnvOK.addFn hmx (Ev68_ok N R) (Ev68_ok N _) (by kernel_rfl) (fun c => law25_alive_S N )
noncomputable def law25_far_L2_I : LI := ⟨23, 0, [], ⟨[(0, .ty (.sl (.pair (.int .u8) (.sl (.int .u8))))), (9, .ty (.sl (.pair (.int .u8) (.sl (.int .u8))))), (10, .ty (.int .i64)), (11, .ty (.int .i64))], []⟩, [(.ret, ⟨[(2, .ty .bool)], []⟩), (.exit 0, ⟨[(0, .ty (.sl (.pair (.int .u8) (.sl (.int .u8)))))], []⟩)]⟩
noncomputable def law25_far_L2 (N : Nat) (X : (((List ((Int) × (List (Int)))) × ((List ((Int) × (List (Int)))) × ((Int) × ((Int) × Unit)))) × Unit) → Option (((((Bool) × Unit) × Unit) ⊕ (((List ((Int) × (List (Int)))) × Unit) × Unit)))) (l0 : List ((Int) × (List (Int)))) (x9 : List ((Int) × (List (Int)))) (x10 : Int) (x11 : Int) : Option (((((Bool) × Unit) × Unit) ⊕ (((List ((Int) × (List (Int)))) × Unit) × Unit))) :=
 bif (decide (x11 < x10)) then
  Option.bind (getI x9 x11) fun (v6 : (Int × (List Int))) =>
  bif (decide ((300 : Int) < (((List.length v6.2) : Nat) : Int))) then
   some ((.inl ((@Bool.true, @Unit.unit), @Unit.unit)))
  else
   (X ((l0, (x9, (x10, ((Go.IntKind.wrap .i64 (x11 + (1 : Int))), @Unit.unit)))), @Unit.unit))
 else
  some ((.inr ((l0, @Unit.unit), @Unit.unit)))
noncomputable def law25_far_L2_R (N : Nat) (c : (((List ((Int) × (List (Int)))) × ((List ((Int) × (List (Int)))) × ((Int) × ((Int) × Unit)))) × Unit)) : Option (((((Bool) × Unit) × Unit) ⊕ (((List ((Int) × (List (Int)))) × Unit) × Unit))) := gl (fun X c => law25_far_L2 N X c.1.1 c.1.2.1 c.1.2.2.1 c.1.2.2.2.1) N c
theorem law25_far_L2_S (N : Nat) (X : (((List ((Int) × (List (Int)))) × ((List ((Int) × (List (Int)))) × ((Int) × ((Int) × Unit)))) × Unit) → Option (((((Bool) × Unit) × Unit) ⊕ (((List ((Int) × (List (Int)))) × Unit) × Unit)))) (l0 : List ((Int) × (List (Int)))) (x9 : List ((Int) × (List (Int)))) (x10 : Int) (x11 : Int) : (roundK Go.Proofs.Try.prog (Ev69 N) 400 [32] law25_far_L2_I (loopAt Go.Proofs.Try.prog [32] 2) X ((l0, x9, x10, x11, ()), ())).run = law25_far_L2 N X l0 x9 x10 x11 := by kernel_rfl
noncomputable def Ev70 (N : Nat) : (R : Type) → Env R := Env.addLp (Ev69 N) [32] 0 2 (fun R => lpK Go.Proofs.Try.prog law25_far_L2_I (fun X c => law25_far_L2 N X c.1.1 c.1.2.1 c.1.2.2.1 c.1.2.2.2.1) N)
theorem Ev70_ok (N : Nat) (R : Type) : EnvOK Go.Proofs.Try.prog (Ev70 N R) := EnvOK.addLp (Ev69_ok N R) (by kernel_rfl) (lpK_ok (li := law25_far_L2_I) (G := fun X c => law25_far_L2 N X c.1.1 c.1.2.1 c.1.2.2.1 c.1.2.2.2.1) hmx (Ev69_ok N _) (by kernel_rfl) loopAt_sub (fun (X : CT law25_far_L2_I.sh → Option (OT law25_far_L2_I.outs)) (c : CT law25_far_L2_I.sh) => law25_far_L2_S N X c.1.1 c.1.2.1 c.1.2.2.1 c.1.2.2.2.1) N)
noncomputable def law25_far (N : Nat) (l0 : List ((Int) × (List (Int)))) : Option (Bool) :=
 Option.bind (takeI l0 (@minI (((List.length l0) : Nat) : Int) (40 : Int))) fun (v2 : (List (Int × (List Int)))) =>
 Option.bind (law25_far_L2_R N ((l0, (v2, ((((List.length v2) : Nat) : Int), ((0 : Int), @Unit.unit)))), @Unit.unit)) fun (v3 : (((Bool × Unit) × Unit) ⊕ (((List (Int × (List Int))) × Unit) × Unit))) =>
 Sum.elim
  (fun (v4 : ((Bool × Unit) × Unit)) =>
  some (v4.1.1))
  (fun (v4 : (((List (Int × (List Int))) × Unit) × Unit)) =>
  some ((decide ((40 : Int) < (((List.length v4.1.1) : Nat) : Int))))) v3
theorem law25_far_S (N : Nat) (l0 : List ((Int) × (List (Int)))) : (runK Go.Proofs.Try.prog (Ev70 N) 400 32 [(.sl (.pair (.int .u8) (.sl (.int .u8))))] [.bool] (l0, ())).run = law25_far N l0 := by kernel_rfl
theorem law25_far_C (N : Nat) (l0 : List ((Int) × (List (Int)))) (y : Bool) (h : law25_far N l0 = some y) : CallsK Go.Proofs.Try.prog 32 (valA [(.sl (.pair (.int .u8) (.sl (.int .u8))))] (l0, ())) (tupV (valR [.bool] y)) := runK_ok hmx (Ev70_ok N _) (okFn_ok (by kernel_rfl)) (by rw [law25_far_S]; exact h)
noncomputable def Ev71 (N : Nat) : (R : Type) → Env R := Env.addFn (Ev70 N) 32 (fun R => fnK [(.sl (.pair (.int .u8) (.sl (.int .u8))))] [.bool] (fun c => law25_far N c.1))
theorem Ev71_ok (N : Nat) (R : Type) : EnvOK Go.Proofs.Try.prog (Ev71 N R) := EnvOK.addFn hmx (Ev70_ok N R) (Ev70_ok N _) (by kernel_rfl) (fun c => law25_far_S N c.1)
noncomputable def Ev72 (N : Nat) : (R : Type) → Env R := Env.addMv (Ev71 N) [(35, 5)]
theorem Ev72_ok (N : Nat) (R : Type) : EnvOK Go.Proofs.Try.prog (Ev72 N R) := EnvOK.addMv (Ev71_ok N R) [(35, 5)]
noncomputable def law25_theirs_L3_I : LI := ⟨22, 0, [(3, 99)], ⟨[(3, .lit (.own 0)), (6, .ty (.sl (.pair (.int .u8) (.sl (.int .u8))))), (7, .ty (.int .i64)), (8, .ty (.int .i64))], [.own (.pair (.int .u8) (.sl (.int .u8))) 99]⟩, [(.exit 0, ⟨[(3, .lit (.own 0))], [.own (.pair (.int .u8) (.sl (.int .u8))) 99]⟩)]⟩
noncomputable def law25_theirs_L3 (N : Nat) (X : (((List ((Int) × (List (Int)))) × ((Int) × ((Int) × Unit))) × ((List ((Int) × (List (Int)))) × Unit)) → Option ((Unit × ((List ((Int) × (List (Int)))) × Unit)))) (x6 : List ((Int) × (List (Int)))) (x7 : Int) (x8 : Int) (h0 : List ((Int) × (List (Int)))) : Option ((Unit × ((List ((Int) × (List (Int)))) × Unit))) :=
 bif (decide (x8 < x7)) then
  Option.bind (getI x6 x8) fun (v6 : (Int × (List Int))) =>
  bif (roomB ((List.length h0) + (List.length ([(v6.1, v6.2)] : List ((Int × (List Int)))))) 32) then
   (X ((x6, (x7, ((Go.IntKind.wrap .i64 (x8 + (1 : Int))), @Unit.unit))), ((h0 ++ ([(v6.1, v6.2)] : List ((Int × (List Int))))), @Unit.unit)))
  else
   none
 else
  some ((@Unit.unit, (h0, @Unit.unit)))
noncomputable def law25_theirs_L3_R (N : Nat) (c : (((List ((Int) × (List (Int)))) × ((Int) × ((Int) × Unit))) × ((List ((Int) × (List (Int)))) × Unit))) : Option ((Unit × ((List ((Int) × (List (Int)))) × Unit))) := gl (fun X c => law25_theirs_L3 N X c.1.1 c.1.2.1 c.1.2.2.1 c.2.1) N c
theorem law25_theirs_L3_S (N : Nat) (X : (((List ((Int) × (List (Int)))) × ((Int) × ((Int) × Unit))) × ((List ((Int) × (List (Int)))) × Unit)) → Option ((Unit × ((List ((Int) × (List (Int)))) × Unit)))) (x6 : List ((Int) × (List (Int)))) (x7 : Int) (x8 : Int) (h0 : List ((Int) × (List (Int)))) : (roundK Go.Proofs.Try.prog (Ev72 N) 400 [35] law25_theirs_L3_I (loopAt Go.Proofs.Try.prog [35] 3) X ((x6, x7, x8, ()), (h0, ()))).run = law25_theirs_L3 N X x6 x7 x8 h0 := by kernel_rfl
noncomputable def Ev73 (N : Nat) : (R : Type) → Env R := Env.addLp (Ev72 N) [35] 0 3 (fun R => lpK Go.Proofs.Try.prog law25_theirs_L3_I (fun X c => law25_theirs_L3 N X c.1.1 c.1.2.1 c.1.2.2.1 c.2.1) N)
theorem Ev73_ok (N : Nat) (R : Type) : EnvOK Go.Proofs.Try.prog (Ev73 N R) := EnvOK.addLp (Ev72_ok N R) (by kernel_rfl) (lpK_ok (li := law25_theirs_L3_I) (G := fun X c => law25_theirs_L3 N X c.1.1 c.1.2.1 c.1.2.2.1 c.2.1) hmx (Ev72_ok N _) (by kernel_rfl) loopAt_sub (fun (X : CT law25_theirs_L3_I.sh → Option (OT law25_theirs_L3_I.outs)) (c : CT law25_theirs_L3_I.sh) => law25_theirs_L3_S N X c.1.1 c.1.2.1 c.1.2.2.1 c.2.1) N)
noncomputable def law25_theirs (N : Nat) (l0 : List ((Int) × (List (Int)))) : Option (List ((Int) × (List (Int)))) :=
 Option.bind (law25_theirs_L3_R N ((l0, ((((List.length l0) : Nat) : Int), ((0 : Int), @Unit.unit))), (([] : List ((Int × (List Int)))), @Unit.unit))) fun (v2 : (Unit × ((List (Int × (List Int))) × Unit))) =>
 some (v2.2.1)
theorem law25_theirs_S (N : Nat) (l0 : List ((Int) × (List (Int)))) : (runK Go.Proofs.Try.prog (Ev73 N) 400 35 [(.sl (.pair (.int .u8) (.sl (.int .u8))))] [(.sl (.pair (.int .u8) (.sl (.int .u8))))] (l0, ())).run = law25_theirs N l0 := by kernel_rfl
theorem law25_theirs_C (N : Nat) (l0 : List ((Int) × (List (Int)))) (y : List ((Int) × (List (Int)))) (h : law25_theirs N l0 = some y) : CallsK Go.Proofs.Try.prog 35 (valA [(.sl (.pair (.int .u8) (.sl (.int .u8))))] (l0, ())) (tupV (valR [(.sl (.pair (.int .u8) (.sl (.int .u8))))] y)) := runK_ok hmx (Ev73_ok N _) (okFn_ok (by kernel_rfl)) (by rw [law25_theirs_S]; exact h)
noncomputable def Ev74 (N : Nat) : (R : Type) → Env R := Env.addFn (Ev73 N) 35 (fun R => fnK [(.sl (.pair (.int .u8) (.sl (.int .u8))))] [(.sl (.pair (.int .u8) (.sl (.int .u8))))] (fun c => law25_theirs N c.1))
theorem Ev74_ok (N : Nat) (R : Type) : EnvOK Go.Proofs.Try.prog (Ev74 N R) := EnvOK.addFn hmx (Ev73_ok N R) (Ev73_ok N _) (by kernel_rfl) (fun c => law25_theirs_S N c.1)
noncomputable def Ev75 (N : Nat) : (R : Type) → Env R := Env.addBx (Ev74 N) [(8, 0)]
theorem Ev75_ok (N : Nat) (R : Type) : EnvOK Go.Proofs.Try.prog (Ev75 N R) := EnvOK.addBx (Ev74_ok N R) [(8, 0)]
noncomputable def law25_LcpoFine (N : Nat) (w0 : (Int) × ((Int) × (Bool))) (own1 : Int) (fresh2 : Int) : Option (Bool) :=
 Option.bind (@lcpo_Options N (w0.1, (w0.2.1, w0.2.2))) fun (v4 : (List (Int × (List Int)))) =>
 Option.bind (@lcpo_Of N v4) fun (v5 : (Int × (Int × (Bool × (Bool × Bool))))) =>
 Option.bind (bif (!(decide (v5.2.1 = w0.2.1))) then
   some (@Bool.true)
  else
   some ((@cond Bool @Bool.false @Bool.true (!(@BEq.beq Bool (@instBEqOfDecidableEq Bool @instDecidableEqBool) v5.2.2.1 w0.2.2))))) fun (v6 : Bool) =>
 Option.bind (bif v6 then
   some (@Bool.true)
  else
   bif (!(decide (w0.1 = (0 : Int)))) then
    some ((@cond Bool @Bool.false @Bool.true (@cond Bool @Bool.true (!(decide (v5.1 = w0.1))) @Bool.false)))
   else
    some ((@cond Bool @Bool.false @Bool.true @Bool.false))) fun (v7 : Bool) =>
 Option.bind (bif v7 then
   some (@Bool.true)
  else
   bif (decide (w0.1 = (0 : Int))) then
    some ((@cond Bool @Bool.false @Bool.true (@cond Bool @Bool.true (!(decide (v5.1 = (1500 : Int)))) @Bool.false)))
   else
    some ((@cond Bool @Bool.false @Bool.true @Bool.false))) fun (v8 : Bool) =>
 bif v8 then
  some (@Bool.false)
 else
  Option.bind (@lcpo_Judge N v4 @Bool.true own1 fresh2) fun (v9 : (Int × (List (Int × (List Int))))) =>
  Option.bind (bif (decide (w0.1 = (0 : Int))) then
    some (@Bool.true)
   else
    some ((@cond Bool @Bool.false @Bool.true (decide ((128 : Int) ≤ w0.1))))) fun (v10 : Bool) =>
  Option.bind (bif v10 then
    bif (decide (w0.2.1 = (0 : Int))) then
     some ((@cond Bool @Bool.true @Bool.true @Bool.false))
    else
     some ((@cond Bool @Bool.true (@cond Bool @Bool.false @Bool.true (!(decide (w0.2.1 = own1)))) @Bool.false))
   else
    some (@Bool.false)) fun (v11 : Bool) =>
  bif v11 then
   bif (decide (v9.1 = (2 : Int))) then
    Option.bind (@opts_Same N v9.2 v4) fun (v12 : Bool) =>
    bif (@cond Bool @Bool.true v12 @Bool.false) then
     Option.bind (@law25_alive N) fun (v13 : Bool) =>
     some ((@cond Bool @Bool.true v13 @Bool.false))
    else
     some (@Bool.false)
   else
    some (@Bool.false)
  else
   bif (decide (v9.1 = (3 : Int))) then
    Option.bind (some ((@cond Bool @Bool.true (decide ((0 : Int) < (((List.length v9.2) : Nat) : Int))) @Bool.false))) fun (v12 : Bool) =>
    bif v12 then
     Option.bind (@law25_alive N) fun (v13 : Bool) =>
     some ((@cond Bool @Bool.true v13 @Bool.false))
    else
     some (@Bool.false)
   else
    Option.bind (some (@Bool.false)) fun (v12 : Bool) =>
    bif v12 then
     Option.bind (@law25_alive N) fun (v13 : Bool) =>
     some ((@cond Bool @Bool.true v13 @Bool.false))
    else
     some (@Bool.false)
theorem law25_LcpoFine_S (N : Nat) (w0 : (Int) × ((Int) × (Bool))) (own1 : Int) (fresh2 : Int) : (runK Go.Proofs.Try.prog (Ev75 N) 400 8 [(.pair (.int .u16) (.pair (.int .u32) .bool)), (.int .u32), (.int .u32)] [.bool] (w0, own1, fresh2, ())).run = law25_LcpoFine N w0 own1 fresh2 := by kernel_rfl
theorem law25_LcpoFine_C (N : Nat) (w0 : (Int) × ((Int) × (Bool))) (own1 : Int) (fresh2 : Int) (y : Bool) (h : law25_LcpoFine N w0 own1 fresh2 = some y) : CallsK Go.Proofs.Try.prog 8 (valA [(.pair (.int .u16) (.pair (.int .u32) .bool)), (.int .u32), (.int .u32)] (w0, own1, fresh2, ())) (tupV (valR [.bool] y)) := runK_ok hmx (Ev75_ok N _) (okFn_ok (by kernel_rfl)) (by rw [law25_LcpoFine_S]; exact h)
noncomputable def Ev76 (N : Nat) : (R : Type) → Env R := Env.addFn (Ev75 N) 8 (fun R => fnK [(.pair (.int .u16) (.pair (.int .u32) .bool)), (.int .u32), (.int .u32)] [.bool] (fun c => law25_LcpoFine N c.1 c.2.1 c.2.2.1))
theorem Ev76_ok (N : Nat) (R : Type) : EnvOK Go.Proofs.Try.prog (Ev76 N R) := EnvOK.addFn hmx (Ev75_ok N R) (Ev75_ok N _) (by kernel_rfl) (fun c => law25_LcpoFine_S N c.1 c.2.1 c.2.2.1)
end Go.Proofs.Ytcmekgfglohooaa
/-
  Layer 25, on plain data: options, as layer 21 has them.
-/
namespace Go.Proofs.Ytcmekgfglohooaa
set_option maxRecDepth 100000
open Go.RowKit
set_option linter.unusedVariables false
set_option linter.unusedSimpArgs false
set_option maxRecDepth 100000

abbrev Op := Int × List Int
def wfO (l : List Op) : Prop := ∀ o ∈ l, (0 ≤ o.1 ∧ o.1 < 256) ∧ AllB o.2
theorem alive25 : law25_alive 200000 = some true := by decide +kernel
section
variable {N : Nat}
theorem take_snoc {α : Type} (l : List α) (i : Nat) (h : i < l.length) : l.take (i + 1) = l.take i ++ [l[i]] := by rw [List.take_add_one, List.getElem?_eq_getElem h]; rfl
theorem theirs_ok (l : List Op) (hl : l.length ≤ 1000) (hN : 10000 ≤ N) : law25_theirs N l = some l := by
  have h := gl_run (G := fun (X : (((List ((Int) × (List (Int)))) × ((Int) × ((Int) × Unit))) × ((List ((Int) × (List (Int)))) × Unit)) → Option ((Unit × ((List ((Int) × (List (Int)))) × Unit)))) c => law25_theirs_L3 N X c.1.1 c.1.2.1 c.1.2.2.1 c.2.1)
    (fun i => ((l, ((l.length : Int), ((i : Int), ()))), (l.take i, ()))) l.length ((), (l, ())) (fun X i hi => by
    have c1 : ((i : Int) < (l.length : Int)) := by omega
    have c2 : Go.IntKind.wrap .i64 ((i : Int) + 1) = ((i + 1 : Nat) : Int) := by rw [wrap64 (by omega) (by omega)]; omega
    have c3 : roomB ((l.take i).length + ([(l[i].1, l[i].2)] : List Op).length) 32 = true := roomB_of (by have := big_len; simp; omega) (by simp; omega)
    simp only [law25_theirs_L3, c1, decide_true, cond_true, getI_lt l i hi, Option.bind_some, c3, c2, take_snoc l i hi]) (fun X => by
    simp [law25_theirs_L3]) N 0 (by omega) (by omega)
  unfold law25_theirs law25_theirs_L3_R
  simp only [Int.natCast_zero, List.take_zero] at h
  rw [h]
  rfl
theorem far_ok (l : List Op) (hN : 10000 ≤ N) : ∃ b, law25_far N l = some b ∧ (b = false → l.length ≤ 40 ∧ ∀ o ∈ l, o.2.length ≤ 300) := by
  have hm : takeI l (minI (l.length : Int) 40) = some (l.take 40) := by
    unfold minI
    split
    · exact takeI_nat l (i := 40) rfl (by omega)
    · rw [takeI_nat l (i := l.length) rfl (by omega), List.take_of_length_le (by omega), List.take_of_length_le (by omega)]
  have hml : (l.take 40).length ≤ 40 := by rw [List.length_take]; omega
  generalize hmm : l.take 40 = m at hm hml
  obtain ⟨o, h1, h2⟩ := gl_inv (G := fun (X : (((List ((Int) × (List (Int)))) × ((List ((Int) × (List (Int)))) × ((Int) × ((Int) × Unit)))) × Unit) → Option (((((Bool) × Unit) × Unit) ⊕ (((List ((Int) × (List (Int)))) × Unit) × Unit)))) c => law25_far_L2 N X c.1.1 c.1.2.1 c.1.2.2.1 c.1.2.2.2.1)
    (fun n c => ∃ i : Nat, c = ((l, (m, ((m.length : Int), ((i : Int), ())))), ()) ∧ i ≤ m.length ∧ n = m.length - i ∧ ∀ o ∈ m.take i, o.2.length ≤ 300) (fun o => o = .inl ((true, ()), ()) ∨ (o = .inr ((l, ()), ()) ∧ ∀ o ∈ m, o.2.length ≤ 300)) (fun X n c ⟨i, hc, hi, hn, ht⟩ => by
      subst hc
      rcases Nat.lt_or_ge i m.length with hlt | hge
      · have c1 : ((i : Int) < (m.length : Int)) := by omega
        have c2 : Go.IntKind.wrap .i64 ((i : Int) + 1) = ((i + 1 : Nat) : Int) := by rw [wrap64 (by omega) (by omega)]; omega
        by_cases he : (300 : Int) < (m[i].2.length : Int)
        · left
          exact ⟨_, by simp only [law25_far_L2, c1, decide_true, cond_true, getI_lt m i hlt, Option.bind_some, he], .inl rfl⟩
        · right
          refine ⟨m.length - (i + 1), ((l, (m, ((m.length : Int), (((i + 1 : Nat) : Int), ())))), ()), by omega, ⟨i + 1, rfl, hlt, rfl, ?_⟩, ?_⟩
          · intro o ho
            rw [take_snoc m i hlt] at ho
            rcases List.mem_append.1 ho with ho | ho
            · exact ht o ho
            · simp at ho; subst ho; omega
          · simp only [law25_far_L2, c1, decide_true, cond_true, getI_lt m i hlt, Option.bind_some, he, decide_false, cond_false, c2]
      · left
        have c1 : ¬ ((i : Int) < (m.length : Int)) := by omega
        refine ⟨_, by simp only [law25_far_L2, c1, decide_false, cond_false], .inr ⟨rfl, ?_⟩⟩
        rw [List.take_of_length_le (by omega)] at ht
        exact ht) N m.length ((l, (m, ((m.length : Int), ((0 : Int), ())))), ()) (by omega) ⟨0, rfl, by omega, by omega, by simp⟩
  unfold law25_far law25_far_L2_R
  rw [hm]
  simp only [Option.bind_some]
  rw [h1]
  rcases h2 with rfl | ⟨rfl, h2⟩
  · exact ⟨true, rfl, fun h => by cases h⟩
  · refine ⟨decide ((40 : Int) < (l.length : Int)), rfl, fun h => ?_⟩
    have hl : l.length ≤ 40 := by have := of_decide_eq_false h; omega
    refine ⟨hl, ?_⟩
    rw [List.take_of_length_le hl] at hmm
    rw [hmm]
    exact h2
theorem clone_ok (s : List Int) (h : s.length ≤ 1000000) : slices_Clone_byte_byte N s = some s := by
  unfold slices_Clone_byte_byte slices_Clone_byte_byte_ne
  cases s with
  | nil => rfl
  | cons x s =>
    have : roomB (x :: s).length 1 = true := roomB_of (by have := big_len; omega) (by omega)
    first
      | (simp only [List.isEmpty_cons, cond_false, this, cond_true]; done)
      | (simp only [List.isEmpty_cons, cond_false, List.length_nil, Nat.zero_add, List.nil_append, this, cond_true]; done)
theorem equal_ok (x y : Op) (h1 : AllB x.2) (h2 : AllB y.2) : opts_equal N x y = some (decide (x = y)) := by
  unfold opts_equal bytes_Equal
  rw [toBy_map h1, toBy_map h2]
  simp only [Option.bind_some, bytes_dec h1 h2]
  obtain ⟨x1, x2⟩ := x
  obtain ⟨y1, y2⟩ := y
  by_cases e1 : x1 = y1 <;> by_cases e2 : x2 = y2 <;> simp [e1, e2]
theorem osame_ok (a b : List Op) (ha : wfO a) (hb : wfO b) (hl : a.length < 1000) (hN : 10000 ≤ N) : opts_Same N a b = some (decide (a = b)) := by
  unfold opts_Same
  by_cases hl' : a.length = b.length
  · have c0 : ((a.length : Int) = (b.length : Int)) := by omega
    simp only [c0, decide_true, Bool.not_true, cond_false]
    obtain ⟨o, h1, h2⟩ := gl_inv (G := fun (X : (((List Op) × ((List Op) × ((Int) × ((Int) × Unit)))) × Unit) → Option (((((Bool) × Unit) × Unit) ⊕ (Unit × Unit)))) c => opts_Same_1_slices_EqualFunc_api_Option_api_Option_api_Option_api_Option_L4 N X c.1.1 c.1.2.1 c.1.2.2.1 c.1.2.2.2.1)
      (fun n c => ∃ i : Nat, c = ((b, (a, ((b.length : Int), ((i : Int), ())))), ()) ∧ i ≤ a.length ∧ n = a.length - i ∧ a.take i = b.take i) (fun o => o = if a = b then .inr ((), ()) else .inl ((false, ()), ())) (fun X n c ⟨i, hc, hi, hn, ht⟩ => by
      subst hc
      rcases Nat.lt_or_ge i a.length with hlt | hge
      · have c1 : ((i : Int) < (b.length : Int)) := by omega
        have c2 : Go.IntKind.wrap .i64 ((i : Int) + 1) = ((i + 1 : Nat) : Int) := by rw [wrap64 (by omega) (by omega)]; omega
        have eq : opts_equal N (a[i].1, a[i].2) ((b[i]'(by omega)).1, (b[i]'(by omega)).2) = some (decide (a[i] = b[i]'(by omega))) := equal_ok (N := N) a[i] (b[i]'(by omega)) (ha _ (List.getElem_mem hlt)).2 (hb _ (List.getElem_mem _)).2
        by_cases he : a[i] = b[i]'(by omega)
        · right
          refine ⟨a.length - (i + 1), ((b, (a, ((b.length : Int), (((i + 1 : Nat) : Int), ())))), ()), by omega, ⟨i + 1, rfl, hlt, rfl, ?_⟩, ?_⟩
          · rw [List.take_add_one, List.take_add_one, ht, List.getElem?_eq_getElem hlt, List.getElem?_eq_getElem (by omega), he]
          · simp only [opts_Same_1_slices_EqualFunc_api_Option_api_Option_api_Option_api_Option_L4, c1, decide_true, cond_true, getI_lt a i hlt, getI_lt b i (by omega), Option.bind_some, eq]
            simp only [he, decide_true, Bool.not_true, cond_false, c2]
        · left
          refine ⟨.inl ((false, ()), ()), ?_, ?_⟩
          · simp only [opts_Same_1_slices_EqualFunc_api_Option_api_Option_api_Option_api_Option_L4, c1, decide_true, cond_true, getI_lt a i hlt, getI_lt b i (by omega), Option.bind_some, eq]
            simp only [he, decide_false, Bool.not_false, cond_true]
          · rw [if_neg (fun h => he (by simp [h]))]
      · left
        have c1 : ¬ ((i : Int) < (b.length : Int)) := by omega
        refine ⟨.inr ((), ()), by simp only [opts_Same_1_slices_EqualFunc_api_Option_api_Option_api_Option_api_Option_L4, c1, decide_false, cond_false], ?_⟩
        rw [List.take_of_length_le (by omega), List.take_of_length_le (by omega)] at ht
        rw [if_pos ht]) N a.length ((b, (a, ((b.length : Int), ((0 : Int), ())))), ()) (by omega) ⟨0, rfl, by omega, by omega, by simp⟩
    unfold opts_Same_1_slices_EqualFunc_api_Option_api_Option_api_Option_api_Option_L4_R
    rw [h1, h2]
    by_cases he : a = b <;> simp [he]
  · have c0 : ¬ ((a.length : Int) = (b.length : Int)) := by omega
    have c1 : ¬ (a = b) := fun h' => hl' (by rw [h'])
    simp only [c0, c1, decide_false, Bool.not_false, cond_true]
theorem same21 (a b : List Int) (h : a.length ≤ 50000) (hN : 100000 < N) : ref01_Same N a b = some (decide (a = b)) := sameF_ok (by omega) (by omega)
def findS (l : List Op) (k : Int) : Op × Bool := match l.find? (fun o => decide (o.1 = k)) with
  | some o => (o, true)
  | none => ((0, []), false)
theorem find_step {l : List Op} {k : Int} {i : Nat} (hi : i < l.length) : (l.drop i).find? (fun o => decide (o.1 = k)) = if l[i].1 = k then some l[i] else (l.drop (i + 1)).find? (fun o => decide (o.1 = k)) := by
  rw [List.drop_eq_getElem_cons hi, List.find?_cons]
  by_cases h : l[i].1 = k <;> simp [h]
theorem find_ok (l : List Op) (k : Int) (hl : l.length ≤ 1000) (hs : ∀ o ∈ l, o.2.length ≤ 1000) (hN : 10000 ≤ N) : opts_Find N l k = some (findS l k) := by
  obtain ⟨o, h1, h2⟩ := gl_inv (G := fun (X : ((List Op × Int × Int × Unit) × Int × Op × Unit) → Option (((Int × Unit) × Int × Op × Unit) ⊕ (Unit × Int × Op × Unit))) c => opts_Find_1_slices_IndexFunc_api_Option_api_Option_L2 N X c.1.1 c.1.2.1 c.1.2.2.1 c.2.1 c.2.2.1)
    (fun n c => ∃ i : Nat, c = ((l, ((l.length : Int), ((i : Int), ()))), (k, (((0 : Int), ([] : List Int)), ()))) ∧ i ≤ l.length ∧ n = l.length - i ∧ (l.drop i).find? (fun o => decide (o.1 = k)) = l.find? (fun o => decide (o.1 = k)))
    (fun o => (∃ (i : Nat) (hi : i < l.length), o = .inl (((i : Int), ()), (k, (((0 : Int), ([] : List Int)), ()))) ∧ l.find? (fun o => decide (o.1 = k)) = some l[i]) ∨ (o = .inr ((), (k, (((0 : Int), ([] : List Int)), ()))) ∧ l.find? (fun o => decide (o.1 = k)) = none)) (fun X n c ⟨i, hc, hi, hn, ht⟩ => by
      subst hc
      rcases Nat.lt_or_ge i l.length with hlt | hge
      · have c1 : ((i : Int) < (l.length : Int)) := by omega
        have c2 : Go.IntKind.wrap .i64 ((i : Int) + 1) = ((i + 1 : Nat) : Int) := by rw [wrap64 (by omega) (by omega)]; omega
        rw [find_step hlt] at ht
        by_cases he : l[i].1 = k
        · left
          refine ⟨.inl (((i : Int), ()), (k, (((0 : Int), ([] : List Int)), ()))), ?_, .inl ⟨i, hlt, rfl, ?_⟩⟩
          · simp only [opts_Find_1_slices_IndexFunc_api_Option_api_Option_L2, c1, decide_true, cond_true, getI_lt l i hlt, Option.bind_some, he]
          · rw [if_pos he] at ht; exact ht.symm
        · right
          refine ⟨l.length - (i + 1), ((l, ((l.length : Int), (((i + 1 : Nat) : Int), ()))), (k, (((0 : Int), ([] : List Int)), ()))), by omega, ⟨i + 1, rfl, hlt, rfl, ?_⟩, ?_⟩
          · rw [if_neg he] at ht; exact ht
          · simp only [opts_Find_1_slices_IndexFunc_api_Option_api_Option_L2, c1, decide_true, cond_true, getI_lt l i hlt, Option.bind_some, he, decide_false, cond_false, c2]
      · left
        have c1 : ¬ ((i : Int) < (l.length : Int)) := by omega
        refine ⟨.inr ((), (k, (((0 : Int), ([] : List Int)), ()))), by simp only [opts_Find_1_slices_IndexFunc_api_Option_api_Option_L2, c1, decide_false, cond_false], .inr ⟨rfl, ?_⟩⟩
        rw [List.drop_of_length_le hge] at ht
        exact ht.symm) N l.length ((l, ((l.length : Int), ((0 : Int), ()))), (k, (((0 : Int), ([] : List Int)), ()))) (by omega) ⟨0, rfl, by omega, by omega, by simp⟩
  unfold opts_Find opts_Find_1_slices_IndexFunc_api_Option_api_Option_L2_R findS
  rw [h1]
  rcases h2 with ⟨i, hi, rfl, h2⟩ | ⟨rfl, h2⟩
  · rw [h2]
    have c1 : ¬ ((i : Int) < 0) := by omega
    have hc : opts_clone N (l[i].1, l[i].2) = some l[i] := by
      unfold opts_clone
      rw [clone_ok _ (by have := hs _ (List.getElem_mem hi); show l[i].2.length ≤ _; omega)]
      rfl
    simp only [Option.bind_some, Sum.elim_inl, c1, decide_false, cond_false, getI_lt l i hi, hc]
  · rw [h2]; rfl
theorem ref_find_ok (l : List Op) (k : Int) (hl : l.length ≤ 1000) (hN : 10000 ≤ N) : ref21_Find N l k = some (findS l k) := by
  obtain ⟨o, h1, h2⟩ := gl_inv (G := fun (X : ((List Op × Int × Int × Unit) × Op × Unit) → Option (((Bool × Unit) × Op × Unit) ⊕ (Unit × Op × Unit))) c => ref21_Find_L2 N X c.1.1 c.1.2.1 c.1.2.2.1 c.2.1)
    (fun n c => ∃ i : Nat, c = ((l, (k, ((i : Int), ()))), (((0 : Int), ([] : List Int)), ())) ∧ i ≤ l.length ∧ n = l.length - i ∧ (l.drop i).find? (fun o => decide (o.1 = k)) = l.find? (fun o => decide (o.1 = k)))
    (fun o => (∃ x, o = .inl ((true, ()), (x, ())) ∧ l.find? (fun o => decide (o.1 = k)) = some x) ∨ (o = .inr ((), (((0 : Int), ([] : List Int)), ())) ∧ l.find? (fun o => decide (o.1 = k)) = none)) (fun X n c ⟨i, hc, hi, hn, ht⟩ => by
      subst hc
      rcases Nat.lt_or_ge i l.length with hlt | hge
      · have c1 : ((i : Int) < (l.length : Int)) := by omega
        have c2 : Go.IntKind.wrap .i64 ((i : Int) + 1) = ((i + 1 : Nat) : Int) := by rw [wrap64 (by omega) (by omega)]; omega
        rw [find_step hlt] at ht
        by_cases he : l[i].1 = k
        · left
          refine ⟨.inl ((true, ()), (l[i], ())), ?_, .inl ⟨_, rfl, ?_⟩⟩
          · simp only [ref21_Find_L2, c1, decide_true, cond_true, getI_lt l i hlt, Option.bind_some, he]
            rw [← he]
          · rw [if_pos he] at ht; exact ht.symm
        · right
          refine ⟨l.length - (i + 1), ((l, (k, (((i + 1 : Nat) : Int), ()))), (((0 : Int), ([] : List Int)), ())), by omega, ⟨i + 1, rfl, hlt, rfl, ?_⟩, ?_⟩
          · rw [if_neg he] at ht; exact ht
          · simp only [ref21_Find_L2, c1, decide_true, cond_true, getI_lt l i hlt, Option.bind_some, he, decide_false, cond_false, c2]
      · left
        have c1 : ¬ ((i : Int) < (l.length : Int)) := by omega
        refine ⟨.inr ((), (((0 : Int), ([] : List Int)), ())), by simp only [ref21_Find_L2, c1, decide_false, cond_false], .inr ⟨rfl, ?_⟩⟩
        rw [List.drop_of_length_le hge] at ht
        exact ht.symm) N l.length ((l, (k, ((0 : Int), ()))), (((0 : Int), ([] : List Int)), ())) (by omega) ⟨0, rfl, by omega, by omega, by simp⟩
  unfold ref21_Find ref21_Find_L2_R findS
  rw [h1]
  rcases h2 with ⟨x, rfl, h2⟩ | ⟨rfl, h2⟩
  · rw [h2]; rfl
  · rw [h2]; rfl
def amS (l all : List Op) : Bool := decide (l.Sublist all)
theorem amS_nil (all : List Op) : amS [] all = true := decide_eq_true (List.nil_sublist _)
theorem amS_end (x : Op) (l : List Op) : amS (x :: l) [] = false := decide_eq_false (fun h => by cases h)
theorem amS_eq (x : Op) (l all : List Op) : amS (x :: l) (x :: all) = amS l all := by
  unfold amS
  by_cases h : l.Sublist all
  · rw [decide_eq_true h, decide_eq_true (h.cons_cons x)]
  · rw [decide_eq_false h, decide_eq_false (fun h' => h (List.cons_sublist_cons.1 h'))]
theorem amS_ne {x y : Op} (h : y ≠ x) (l all : List Op) : amS (x :: l) (y :: all) = amS (x :: l) all := by
  unfold amS
  by_cases h1 : (x :: l).Sublist all
  · rw [decide_eq_true h1, decide_eq_true (h1.cons y)]
  · rw [decide_eq_false h1, decide_eq_false (fun h' => by
      cases h' with
      | cons _ h2 => exact h1 h2
      | cons_cons _ h2 => exact h rfl)]
theorem idx_ok (all : List Op) (o : Op) (hw : wfO all) (ho : AllB o.2) (hl : all.length ≤ 1000) (hN : 10000 ≤ N) : ∃ r, opts_Among_4_slices_IndexFunc_api_Option_api_Option_L2_R N ((all, ((all.length : Int), ((0 : Int), ()))), (o, ())) = some r ∧ ((∃ (j : Nat), j < all.length ∧ r = .inl (((j : Int), ()), (o, ())) ∧ ∀ l, amS (o :: l) all = amS l (all.drop (j + 1))) ∨ (r = .inr ((), (o, ())) ∧ ∀ l, amS (o :: l) all = false)) := by
  refine gl_inv (G := fun (X : ((List Op × Int × Int × Unit) × Op × Unit) → Option (((Int × Unit) × Op × Unit) ⊕ (Unit × Op × Unit))) c => opts_Among_4_slices_IndexFunc_api_Option_api_Option_L2 N X c.1.1 c.1.2.1 c.1.2.2.1 c.2.1)
    (fun n c => ∃ i : Nat, c = ((all, ((all.length : Int), ((i : Int), ()))), (o, ())) ∧ i ≤ all.length ∧ n = all.length - i ∧ ∀ l, amS (o :: l) all = amS (o :: l) (all.drop i)) _ (fun X n c ⟨i, hc, hi, hn, ht⟩ => ?_) N all.length ((all, ((all.length : Int), ((0 : Int), ()))), (o, ())) (by omega) ⟨0, rfl, by omega, by omega, by simp⟩
  subst hc
  rcases Nat.lt_or_ge i all.length with hlt | hge
  · have c1 : ((i : Int) < (all.length : Int)) := by omega
    have c2 : Go.IntKind.wrap .i64 ((i : Int) + 1) = ((i + 1 : Nat) : Int) := by rw [wrap64 (by omega) (by omega)]; omega
    have eq : opts_equal N (all[i].1, all[i].2) (o.1, o.2) = some (decide (all[i] = o)) := equal_ok (N := N) all[i] o (hw _ (List.getElem_mem hlt)).2 ho
    by_cases he : all[i] = o
    · left
      refine ⟨.inl (((i : Int), ()), (o, ())), ?_, .inl ⟨i, hlt, rfl, fun l => ?_⟩⟩
      · simp only [opts_Among_4_slices_IndexFunc_api_Option_api_Option_L2, c1, decide_true, cond_true, getI_lt all i hlt, Option.bind_some, eq]
        simp only [he, decide_true, cond_true]
      · rw [ht, List.drop_eq_getElem_cons hlt, he, amS_eq]
    · right
      refine ⟨all.length - (i + 1), ((all, ((all.length : Int), (((i + 1 : Nat) : Int), ()))), (o, ())), by omega, ⟨i + 1, rfl, hlt, rfl, fun l => ?_⟩, ?_⟩
      · rw [ht, List.drop_eq_getElem_cons hlt, amS_ne he]
      · simp only [opts_Among_4_slices_IndexFunc_api_Option_api_Option_L2, c1, decide_true, cond_true, getI_lt all i hlt, Option.bind_some, eq]
        simp only [he, decide_false, cond_false, c2]
  · left
    have c1 : ¬ ((i : Int) < (all.length : Int)) := by omega
    refine ⟨.inr ((), (o, ())), by simp only [opts_Among_4_slices_IndexFunc_api_Option_api_Option_L2, c1, decide_false, cond_false], .inr ⟨rfl, fun l => ?_⟩⟩
    rw [ht, List.drop_of_length_le hge, amS_end]
theorem among_ok (l all : List Op) (hw : wfO l) (hwa : wfO all) (hl : l.length ≤ 1000) (hla : all.length ≤ 1000) (hN : 10000 ≤ N) : opts_Among N l all = some (amS l all) := by
  have key : ∀ (k i : Nat) (all : List Op), l.length - i < k → i ≤ l.length → all.length ≤ 1000 → wfO all → gl (fun (X : ((List Op × List Op × Int × Int × Unit) × Unit) → Option (((Bool × Unit) × Unit) ⊕ (Unit × Unit))) c => opts_Among_L2 N X c.1.1 c.1.2.1 c.1.2.2.1 c.1.2.2.2.1) k ((all, (l, ((l.length : Int), ((i : Int), ())))), ()) = some (if amS (l.drop i) all = true then .inr ((), ()) else .inl ((false, ()), ())) := by
    intro k
    induction k with
    | zero => intro i all h; omega
    | succ k ih =>
      intro i all h hi ha hwa
      rw [gl_succ]
      rcases Nat.lt_or_ge i l.length with hlt | hge
      · have c1 : ((i : Int) < (l.length : Int)) := by omega
        have c2 : Go.IntKind.wrap .i64 ((i : Int) + 1) = ((i + 1 : Nat) : Int) := by rw [wrap64 (by omega) (by omega)]; omega
        obtain ⟨r, h1, h2⟩ := idx_ok (N := N) all l[i] hwa (hw _ (List.getElem_mem hlt)).2 ha hN
        have h1' : opts_Among_4_slices_IndexFunc_api_Option_api_Option_L2_R N ((all, ((all.length : Int), ((0 : Int), ()))), ((l[i].1, l[i].2), ())) = some r := h1
        rw [List.drop_eq_getElem_cons hlt]
        rcases h2 with ⟨j, hj, rfl, h2⟩ | ⟨rfl, h2⟩
        · have c3 : ¬ ((j : Int) < 0) := by omega
          have c4 : Go.IntKind.wrap .i64 ((j : Int) + 1) = ((j + 1 : Nat) : Int) := by rw [wrap64 (by omega) (by omega)]; omega
          rw [h2]
          simp only [opts_Among_L2, c1, decide_true, cond_true, getI_lt l i hlt, Option.bind_some, h1', Sum.elim_inl, c3, decide_false, cond_false, c4, dropI_nat all (a := ((j + 1 : Nat) : Int)) (i := j + 1) rfl hj, c2]
          exact ih (i + 1) (all.drop (j + 1)) (by omega) hlt (by rw [List.length_drop]; omega) (fun o ho => hwa o (List.mem_of_mem_drop ho))
        · rw [h2]
          simp only [opts_Among_L2, c1, decide_true, cond_true, getI_lt l i hlt, Option.bind_some, h1', Sum.elim_inr]
          rfl
      · have c1 : ¬ ((i : Int) < (l.length : Int)) := by omega
        rw [List.drop_of_length_le hge, amS_nil]
        simp only [opts_Among_L2, c1, decide_false, cond_false, if_true]
  have h := key N 0 all (by omega) (by omega) hla hwa
  unfold opts_Among opts_Among_L2_R
  rw [show ((0 : Int)) = ((0 : Nat) : Int) from rfl, h, List.drop_zero]
  cases amS l all <;> rfl
end
theorem wf_opts {l : List Op} (h : wfT (.sl (.pair (.int .u8) (.sl (.int .u8)))) l) : wfO l := fun o ho => ⟨wf_u8 (h.2 o ho).1, wf_bytes (h.2 o ho).2⟩
end Go.Proofs.Ytcmekgfglohooaa
/-
  Layer 25, on plain data: judged.
-/
namespace Go.Proofs.Ytcmekgfglohooaa
set_option maxRecDepth 100000
open Go.RowKit
set_option linter.unusedVariables false
set_option linter.unusedSimpArgs false
set_option maxRecDepth 100000

/-- How many bytes a type has. -/
def sz (k : Int) : Int := if k = 1 then 2 else if k = 3 then 3 else if k = 5 then 4 else if k = 7 then 0 else if k = 8 then 0 else -1
def chapL : List Int := [194, 35, 129]
theorem chap_B : AllB chapL := fun x hx => by
  simp only [chapL, List.mem_cons, List.not_mem_nil, or_false] at hx
  rcases hx with rfl | rfl | rfl <;> omega
def may (o : Op) (proves : Bool) : Bool := decide ((o.2.length : Int) = sz o.1) && (!decide (o.1 = 3) || proves)
/-- What stands first of a type. -/
theorem findS_new {l : List Op} {i : Nat} (hi : i < l.length) (h : (findS (l.take i) l[i].1).2 = false) : findS l l[i].1 = (l[i], true) := by
  unfold findS at h ⊢
  have hs : l = l.take i ++ l.drop i := (List.take_append_drop i l).symm
  cases hf : (l.take i).find? (fun o => decide (o.1 = l[i].1)) with
  | some o => rw [hf] at h; cases h
  | none =>
    have h2 : l.find? (fun o => decide (o.1 = l[i].1)) = some l[i] := by
      have : (l.take i ++ l.drop i).find? (fun o => decide (o.1 = l[i].1)) = some l[i] := by
        rw [List.find?_append, hf, List.drop_eq_getElem_cons hi, List.find?_cons]
        simp
      rwa [← hs] at this
    rw [h2]
section
variable {N : Nat}
theorem size_ok (k : Int) : lcpo_size N k = some (sz k) := by
  unfold lcpo_size sz
  by_cases h1 : k = 1
  · subst h1; rfl
  · by_cases h3 : k = 3
    · subst h3; rfl
    · by_cases h5 : k = 5
      · subst h5; rfl
      · by_cases h7 : k = 7
        · subst h7; rfl
        · by_cases h8 : k = 8
          · subst h8; rfl
          · simp [h1, h3, h5, h7, h8]
theorem long_ok (k : Int) : ref25_long N k = some (sz k) := by
  unfold ref25_long sz
  by_cases h1 : k = 1
  · subst h1; rfl
  · by_cases h3 : k = 3
    · subst h3; rfl
    · by_cases h5 : k = 5
      · subst h5; rfl
      · by_cases h7 : k = 7
        · subst h7; rfl
        · by_cases h8 : k = 8
          · subst h8; rfl
          · simp [h1, h3, h5, h7, h8]
theorem may_ok (o : Op) (proves : Bool) : lcpo_may N o proves = some (may o proves) := by
  unfold lcpo_may may
  rw [size_ok, Option.bind_some]
  by_cases h : (o.2.length : Int) = sz o.1
  · by_cases h3 : o.1 = 3 <;> cases proves <;> simp [h, h3]
  · simp [h]
theorem right_ok (o : Op) : ref25_right N o = some (decide ((o.2.length : Int) = sz o.1)) := by
  unfold ref25_right
  rw [long_ok, Option.bind_some]
  by_cases h : (o.2.length : Int) = sz o.1
  · simp [h]
  · have : ¬ sz o.1 = (o.2.length : Int) := fun e => h e.symm
    simp [h, this]
theorem num_some (l : List Int) (hl : l.length ≤ 1000) (hN : 10000 ≤ N) : ∃ n, ref01_Num N l = some n := by
  obtain ⟨o, h1, _⟩ := gl_inv (G := fun (X : (((List (Int)) × ((Int) × ((Int) × Unit))) × Unit) → Option ((((Int) × Unit) × Unit))) c => ref01_Num_L3 N X c.1.1 c.1.2.1 c.1.2.2.1)
    (fun n c => ∃ (i : Nat) (x : Int), c = ((l, (x, ((i : Int), ()))), ()) ∧ i ≤ l.length ∧ n = l.length - i) (fun _ => True) (fun X n c ⟨i, x, hc, hi, hn⟩ => by
      subst hc
      rcases Nat.lt_or_ge i l.length with hlt | hge
      · right
        have c1 : ((i : Int) < (l.length : Int)) := by omega
        have c2 : Go.IntKind.wrap .i64 ((i : Int) + 1) = ((i + 1 : Nat) : Int) := by rw [wrap64 (by omega) (by omega)]; omega
        refine ⟨l.length - (i + 1), ((l, (Go.IntKind.wrap .u64 (Go.IntKind.wrap .u64 (x * 256) + Go.IntKind.wrap .u64 l[i]), (((i + 1 : Nat) : Int), ()))), ()), by omega, ⟨i + 1, _, rfl, hlt, rfl⟩, ?_⟩
        simp only [ref01_Num_L3, c1, decide_true, cond_true, getI_lt l i hlt, Option.bind_some, c2]
      · left
        have c1 : ¬ ((i : Int) < (l.length : Int)) := by omega
        exact ⟨((x, ()), ()), by simp only [ref01_Num_L3, c1, decide_false, cond_false], trivial⟩) N l.length ((l, ((0 : Int), ((0 : Int), ()))), ()) (by omega) ⟨0, 0, rfl, by omega, by omega⟩
  exact ⟨o.1.1, (congrArg (fun o => Option.bind o _) h1).trans rfl⟩
theorem lput2 (n : Int) (h : 0 ≤ n ∧ n < 18446744073709551616) (hN : 100 ≤ N) : octs_Put N n 2 false = some ([n / 256 % 256, n % 256], 0) := put2 n h hN
theorem lput4 (n : Int) (h : 0 ≤ n ∧ n < 18446744073709551616) (hN : 100 ≤ N) : octs_Put N n 4 false = some ([n / 16777216 % 256, n / 65536 % 256, n / 256 % 256, n % 256], 0) := put4 n h hN
theorem lbig2 (n : Int) (h : 0 ≤ n ∧ n < 18446744073709551616) (hN : 100 ≤ N) : ref01_Big N n 2 = some [n / 256 % 256, n % 256] := big2 n h hN
theorem lbig4 (n : Int) (h : 0 ≤ n ∧ n < 18446744073709551616) (hN : 100 ≤ N) : ref01_Big N n 4 = some [n / 16777216 % 256, n / 65536 % 256, n / 256 % 256, n % 256] := big4 n h hN
theorem lget2 (x y : Int) (hx : 0 ≤ x ∧ x < 256) (hy : 0 ≤ y ∧ y < 256) (hN : 100 ≤ N) : lcpo_value N [x, y] = some (x * 256 + y) := by
  unfold lcpo_value
  exact (congrArg (fun o => Option.bind o _) (show octs_Get N [x, y] false = some (x * 256 + y, 0) from get2 x y hx hy hN)).trans rfl
theorem lget4 (x y z u : Int) (hx : 0 ≤ x ∧ x < 256) (hy : 0 ≤ y ∧ y < 256) (hz : 0 ≤ z ∧ z < 256) (hu : 0 ≤ u ∧ u < 256) (hN : 100 ≤ N) : lcpo_value N [x, y, z, u] = some (((x * 256 + y) * 256 + z) * 256 + u) := by
  unfold lcpo_value
  exact (congrArg (fun o => Option.bind o _) (show octs_Get N [x, y, z, u] false = some (((x * 256 + y) * 256 + z) * 256 + u, 0) from get4 x y z u hx hy hz hu hN)).trans rfl
theorem lnum2 (x y : Int) (hx : 0 ≤ x ∧ x < 256) (hy : 0 ≤ y ∧ y < 256) (hN : 100 ≤ N) : ref01_Num N [x, y] = some (x * 256 + y) := num2 x y hx hy hN
theorem lnum4 (x y z u : Int) (hx : 0 ≤ x ∧ x < 256) (hy : 0 ≤ y ∧ y < 256) (hz : 0 ≤ z ∧ z < 256) (hu : 0 ≤ u ∧ u < 256) (hN : 100 ≤ N) : ref01_Num N [x, y, z, u] = some (((x * 256 + y) * 256 + z) * 256 + u) := num4 x y z u hx hy hz hu hN
theorem wrapU32 {x : Int} (h : 0 ≤ x ∧ x < 4294967296) : Go.IntKind.wrap .u32 x = x := by rw [IntKind.wrap_u32]; omega
/-- What is told in an option's place: the same on both sides. -/
theorem better_ok (o : Op) (own fresh : Int) (hw : (0 ≤ o.1 ∧ o.1 < 256) ∧ AllB o.2) (hs : (o.2.length : Int) = sz o.1) (hf : 0 ≤ fresh ∧ fresh < 4294967296) (hN : 100001 < N) :
    ∃ r r' : Op × Bool, lcpo_better N o own fresh = some r ∧ ref25_better N o own fresh = some r' ∧ r.2 = r'.2 ∧ (r.2 = true → r.1 = r'.1 ∧ r.1.1 = o.1 ∧ AllB r.1.2 ∧ r.1.2.length ≤ 10 ∧ (own ≠ fresh → fresh ≠ 0 → r.1 ≠ o)) := by
  obtain ⟨k, l⟩ := o
  simp only at hw hs
  have hsz := hs
  unfold sz at hsz
  by_cases h1 : k = 1
  · subst h1
    simp only [if_true] at hsz
    have hl : l.length = 2 := by omega
    match l, hl with
    | [x, y], _ =>
      have bx := hw.2 x (by simp)
      have by' := hw.2 y (by simp)
      have hw32 : Go.IntKind.wrap .u32 (x * 256 + y) = x * 256 + y := wrapU32 (by omega)
      have e1 : sz 1 = 2 := rfl
      have e2 := lput2 (N := N) 1400 (by omega) (by omega)
      have e3 := lbig2 (N := N) 1400 (by omega) (by omega)
      by_cases hv : x * 256 + y < 128
      · refine ⟨((1, [1400 / 256 % 256, 1400 % 256]), true), ((1, [1400 / 256 % 256, 1400 % 256]), true), ?_, ?_, rfl, fun _ => ⟨rfl, rfl, ?_, by simp, fun _ _ e => ?_⟩⟩
        · simp only [lcpo_better, lcpo_number, size_ok, e1, e2, Option.bind_some, decide_true, cond_true, lget2 (N := N) x y bx by' (by omega), hv]
        · simp only [ref25_better, lnum2 (N := N) x y bx by' (by omega), Option.bind_some, decide_true, cond_true, hw32, hv, e3]
        · intro z hz
          simp only [List.mem_cons, List.not_mem_nil, or_false] at hz
          rcases hz with rfl | rfl <;> omega
        · simp at e; omega
      · refine ⟨((1, [1400 / 256 % 256, 1400 % 256]), false), ((0, []), false), ?_, ?_, rfl, nofun⟩
        · simp only [lcpo_better, lcpo_number, size_ok, e1, e2, Option.bind_some, decide_true, cond_true, lget2 (N := N) x y bx by' (by omega), hv, decide_false]
        · simp only [ref25_better, lnum2 (N := N) x y bx by' (by omega), Option.bind_some, decide_true, cond_true, hw32, hv, decide_false]
          rfl
  · by_cases h3 : k = 3
    · subst h3
      obtain ⟨n, hn⟩ := num_some (N := N) l (by simp at hsz; omega) (by omega)
      have hb : bytes_Equal N l [194, 35, 129] = some (decide (l = chapL)) := by
        unfold bytes_Equal
        rw [toBy_map hw.2, show ([194, 35, 129] : List Int) = chapL from rfl, toBy_map chap_B, Option.bind_some, Option.bind_some, bytes_dec hw.2 chap_B]
      have hr : ref01_Same N l [194, 35, 129] = some (decide (l = chapL)) := same21 l chapL (by simp at hsz; omega) (by omega)
      have n1 : ¬ ((3 : Int) = 1) := by decide
      by_cases hv : l = chapL
      · have d0 : decide (l = chapL) = true := decide_eq_true hv
        refine ⟨((3, chapL), false), ((0, []), false), ?_, ?_, rfl, nofun⟩
        · simp only [lcpo_better, n1, decide_false, cond_false, decide_true, cond_true, hb, Option.bind_some, d0, Bool.not_true]
          rfl
        · simp only [ref25_better, hn, Option.bind_some, n1, decide_false, cond_false, decide_true, cond_true, hr, d0, Bool.not_true]
          rfl
      · have d0 : decide (l = chapL) = false := decide_eq_false hv
        refine ⟨((3, chapL), true), ((3, chapL), true), ?_, ?_, rfl, fun _ => ⟨rfl, rfl, chap_B, by simp [chapL], fun _ _ e => hv ?_⟩⟩
        · simp only [lcpo_better, n1, decide_false, cond_false, decide_true, cond_true, hb, Option.bind_some, d0, Bool.not_false]
          rfl
        · simp only [ref25_better, hn, Option.bind_some, n1, decide_false, cond_false, decide_true, cond_true, hr, d0, Bool.not_false]
          rfl
        · exact (Prod.mk.inj e).2.symm
    · by_cases h5 : k = 5
      · subst h5
        have hl : l.length = 4 := by
          rw [show sz 5 = 4 from rfl] at hs
          omega
        match l, hl with
        | [x, y, z, u], _ =>
          have bx := hw.2 x (by simp)
          have by' := hw.2 y (by simp)
          have bz := hw.2 z (by simp)
          have bu := hw.2 u (by simp)
          have hw32 : Go.IntKind.wrap .u32 (((x * 256 + y) * 256 + z) * 256 + u) = ((x * 256 + y) * 256 + z) * 256 + u := wrapU32 (by omega)
          have e1 : sz 5 = 4 := rfl
          have wf : Go.IntKind.wrap .u64 fresh = fresh := wrapU64 (by omega) (by omega)
          have e2 := lput4 (N := N) fresh (by omega) (by omega)
          have e3 := lbig4 (N := N) fresh (by omega) (by omega)
          have n1 : ¬ ((5 : Int) = 1) := by decide
          have n3 : ¬ ((5 : Int) = 3) := by decide
          have g1 := lget4 (N := N) x y z u bx by' bz bu (by omega)
          have g2 := lnum4 (N := N) x y z u bx by' bz bu (by omega)
          have bf : AllB [fresh / 16777216 % 256, fresh / 65536 % 256, fresh / 256 % 256, fresh % 256] := fun w hw' => by
            simp only [List.mem_cons, List.not_mem_nil, or_false] at hw'
            rcases hw' with rfl | rfl | rfl | rfl <;> omega
          by_cases hv : ((x * 256 + y) * 256 + z) * 256 + u = 0
          · have t0 : decide (Go.IntKind.wrap .u32 (((x * 256 + y) * 256 + z) * 256 + u) = 0) = true := by rw [hw32]; exact decide_eq_true hv
            refine ⟨((5, [fresh / 16777216 % 256, fresh / 65536 % 256, fresh / 256 % 256, fresh % 256]), true), ((5, [fresh / 16777216 % 256, fresh / 65536 % 256, fresh / 256 % 256, fresh % 256]), true), ?_, ?_, rfl, fun _ => ⟨rfl, rfl, bf, by simp, fun _ hz e => ?_⟩⟩
            · simp only [lcpo_better, n1, n3, decide_false, cond_false, decide_true, cond_true, g1, Option.bind_some, lcpo_number, size_ok, e1, wf, e2, t0]
            · simp only [ref25_better, g2, n1, n3, decide_false, cond_false, decide_true, cond_true, Option.bind_some, wf, e3, t0]
            · simp at e; omega
          · have t0 : decide (Go.IntKind.wrap .u32 (((x * 256 + y) * 256 + z) * 256 + u) = 0) = false := by rw [hw32]; exact decide_eq_false hv
            by_cases ho : ((x * 256 + y) * 256 + z) * 256 + u = own
            · have t1 : decide (Go.IntKind.wrap .u32 (((x * 256 + y) * 256 + z) * 256 + u) = own) = true := by rw [hw32]; exact decide_eq_true ho
              refine ⟨((5, [fresh / 16777216 % 256, fresh / 65536 % 256, fresh / 256 % 256, fresh % 256]), true), ((5, [fresh / 16777216 % 256, fresh / 65536 % 256, fresh / 256 % 256, fresh % 256]), true), ?_, ?_, rfl, fun _ => ⟨rfl, rfl, bf, by simp, fun hof hz e => ?_⟩⟩
              · simp only [lcpo_better, n1, n3, decide_false, cond_false, decide_true, cond_true, g1, Option.bind_some, lcpo_number, size_ok, e1, wf, e2, t0, t1]
              · simp only [ref25_better, g2, n1, n3, decide_false, cond_false, decide_true, cond_true, Option.bind_some, wf, e3, t0, t1]
              · simp at e; omega
            · have t1 : decide (Go.IntKind.wrap .u32 (((x * 256 + y) * 256 + z) * 256 + u) = own) = false := by rw [hw32]; exact decide_eq_false ho
              refine ⟨((5, [fresh / 16777216 % 256, fresh / 65536 % 256, fresh / 256 % 256, fresh % 256]), false), ((0, []), false), ?_, ?_, rfl, nofun⟩
              · simp only [lcpo_better, n1, n3, decide_false, cond_false, decide_true, cond_true, g1, Option.bind_some, lcpo_number, size_ok, e1, wf, e2, t0, t1]
              · simp only [ref25_better, g2, n1, n3, decide_false, cond_false, decide_true, cond_true, Option.bind_some, t0, t1]
      · have hlen : l.length ≤ 10 := by
          simp only [h1, h3, h5, if_false] at hsz
          split at hsz
          · omega
          · split at hsz <;> omega
        obtain ⟨n, hn⟩ := num_some (N := N) l (by omega) (by omega)
        refine ⟨((0, []), false), ((0, []), false), ?_, ?_, rfl, nofun⟩
        · simp only [lcpo_better, h1, h3, h5, decide_false, cond_false]
        · simp only [ref25_better, hn, h1, h3, h5, decide_false, cond_false, Option.bind_some]
end
end Go.Proofs.Ytcmekgfglohooaa
/-
  Layer 25, on plain data: the law LcpoJudges.
-/
namespace Go.Proofs.Ytcmekgfglohooaa
set_option maxRecDepth 100000
open Go.RowKit
set_option linter.unusedVariables false
set_option linter.unusedSimpArgs false
set_option maxRecDepth 100000

/-- What the naked ones are. -/
def NK (l : List Op) (own fresh : Int) (nak : List Op) : Prop := ∀ o ∈ nak, AllB o.2 ∧ ∃ x, findS l o.1 = (x, true) ∧ (own ≠ fresh → fresh ≠ 0 → o ≠ x)
theorem NK.snoc {l : List Op} {own fresh : Int} {nak : List Op} {o : Op} (h : NK l own fresh nak) (h1 : AllB o.2) {x : Op} (h2 : findS l o.1 = (x, true)) (h3 : own ≠ fresh → fresh ≠ 0 → o ≠ x) : NK l own fresh (nak ++ [o]) := fun p hp => by
  rcases List.mem_append.1 hp with h' | h'
  · exact h p h'
  · rw [List.mem_singleton] at h'; subst h'; exact ⟨h1, x, h2, h3⟩
section
variable {N : Nat}
theorem judge_pair (l : List Op) (proves : Bool) (own fresh : Int) (hw : wfO l) (hl : l.length ≤ 40) (hs : ∀ o ∈ l, o.2.length ≤ 300) (hf : 0 ≤ fresh ∧ fresh < 4294967296) (hN : 100001 < N) : ∀ (k M i : Nat) (rej nak : List Op), k + i = l.length → k < M → rej.Sublist (l.take i) → nak.length ≤ i → NK l own fresh nak → (∀ o ∈ nak, 0 ≤ o.1 ∧ o.1 < 256) →
    ∃ rej' nak' : List Op, rej'.Sublist l ∧ nak'.length ≤ l.length ∧ NK l own fresh nak' ∧ (∀ o ∈ nak', 0 ≤ o.1 ∧ o.1 < 256) ∧
      gl (fun X c => lcpo_Judge_L3 N X c.1.1 c.1.2.1 c.1.2.2.1 c.1.2.2.2.1 c.1.2.2.2.2.1 c.1.2.2.2.2.2.1 c.1.2.2.2.2.2.2.1 c.2.1 c.2.2.1 c.2.2.2.1) M ((l, (proves, (own, (fresh, (l, ((l.length : Int), ((i : Int), ()))))))), (l.take i, (rej, (nak, ())))) = some ((), (l, (rej', (nak', ())))) ∧
      gl (fun X c => ref25_Judge_L3 N X c.1.1 c.1.2.1 c.1.2.2.1 c.1.2.2.2.1 c.1.2.2.2.2.1 c.2.1 c.2.2.1) M ((l, (proves, (own, (fresh, ((i : Int), ()))))), (rej, (nak, ()))) = some ((l, ()), (rej', (nak', ())))
  | 0, M + 1, i, rej, nak, hk, hM, hr, hn, hnk, hn8 => by
    have hi : i = l.length := by omega
    subst hi
    rw [List.take_length] at hr
    have c1 : ¬ ((l.length : Int) < (l.length : Int)) := by omega
    refine ⟨rej, nak, hr, hn, hnk, hn8, ?_, ?_⟩
    · rw [gl_succ, List.take_length]
      simp only [lcpo_Judge_L3, c1, decide_false, cond_false]
    · rw [gl_succ]
      simp only [ref25_Judge_L3, c1, decide_false, cond_false]
  | k + 1, M + 1, i, rej, nak, hk, hM, hr, hn, hnk, hn8 => by
    have hlt : i < l.length := by omega
    have c1 : ((i : Int) < (l.length : Int)) := by omega
    have e0 : Go.IntKind.wrap .i64 ((i : Int) + 1) = ((i + 1 : Nat) : Int) := by rw [wrap64 (by omega) (by omega)]; omega
    have g := getI_lt l i hlt
    have tk : takeI l (i : Int) = some (l.take i) := takeI_nat l rfl (by omega)
    have hwi := hw _ (List.getElem_mem hlt)
    have hsi := hs _ (List.getElem_mem hlt)
    have hfind := find_ok (N := N) (l.take i) l[i].1 (by rw [List.length_take]; omega) (fun o ho => by have := hs o (List.mem_of_mem_take ho); omega) (by omega)
    have hrfind := ref_find_ok (N := N) (l.take i) l[i].1 (by rw [List.length_take]; omega) (by omega)
    have hts : l.take (i + 1) = l.take i ++ [l[i]] := take_snoc l i hlt
    have hrl : rej.length ≤ i := by have := hr.length_le; rw [List.length_take] at this; omega
    have hal : (l.take i).length ≤ i := by rw [List.length_take]; omega
    have hcl : slices_Clone_byte_byte N l[i].2 = some l[i].2 := clone_ok _ (by omega)
    have rm : ∀ (x : List Op) (y : Op), x.length ≤ 41 → roomB (x.length + ([y] : List Op).length) 32 = true := fun x y hx => roomB_of (by have := big_len; simp; omega) (by simp; omega)
    have hnew := @findS_new l i hlt
    have hmay := may_ok (N := N) l[i] proves
    have hright := right_ok (N := N) l[i]
    have hbet := better_ok (N := N) l[i] own fresh hwi
    generalize hx : l[i] = x at *
    generalize hfs : findS (l.take i) x.1 = fs at *
    obtain ⟨fo, fb⟩ := fs
    obtain ⟨kx, dx⟩ := x
    have r1 := rm (l.take i) (kx, dx) (by omega)
    have r2 := rm rej (kx, dx) (by omega)
    -- rejected
    have reject : (fb = true ∨ may (kx, dx) proves = false) → _ := fun hc => judge_pair l proves own fresh hw hl hs hf hN k M (i + 1) (rej ++ [(kx, dx)]) nak (by omega) (by omega) (by rw [hts]; exact hr.append (List.Sublist.refl _)) (by omega) hnk hn8
    have keep : ∀ nak2 : List Op, nak2.length ≤ i + 1 → NK l own fresh nak2 → (∀ o ∈ nak2, 0 ≤ o.1 ∧ o.1 < 256) → _ := fun nak2 h1 h2 h3 => judge_pair l proves own fresh hw hl hs hf hN k M (i + 1) rej nak2 (by omega) (by omega) (by rw [hts]; exact hr.trans (List.sublist_append_left _ _)) h1 h2 h3
    by_cases hm : may (kx, dx) proves = true
    · have hm' := hm
      simp only [may, Bool.and_eq_true, decide_eq_true_eq, Bool.or_eq_true, Bool.not_eq_true', decide_eq_false_iff_not] at hm'
      obtain ⟨hsz, hpr⟩ := hm'
      cases fb with
      | true =>
        obtain ⟨rej', nak', q1, q2, q3, q4, q5, q6⟩ := reject (.inl rfl)
        refine ⟨rej', nak', q1, q2, q3, q4, ?_, ?_⟩
        · rw [gl_succ]
          simp only [lcpo_Judge_L3, c1, decide_true, cond_true, g, Option.bind_some, hcl, r1, tk, hfind, r2, e0]
          rw [← hts]
          exact q5
        · rw [gl_succ]
          simp only [ref25_Judge_L3, c1, decide_true, cond_true, tk, g, Option.bind_some, hrfind, hright, hsz, Bool.not_true, cond_false, r2, e0]
          exact q6
      | false =>
        obtain ⟨r, r', b1, b2, b3, b4⟩ := hbet hsz hf hN
        obtain ⟨⟨rk, rd⟩, rb⟩ := r
        obtain ⟨⟨rk', rd'⟩, rb'⟩ := r'
        simp only at b3
        subst b3
        cases rb with
        | false =>
          obtain ⟨rej', nak', q1, q2, q3, q4, q5, q6⟩ := keep nak (by omega) hnk hn8
          refine ⟨rej', nak', q1, q2, q3, q4, ?_, ?_⟩
          · rw [gl_succ]
            simp only [lcpo_Judge_L3, c1, decide_true, cond_true, cond_false, g, Option.bind_some, hcl, r1, tk, hfind, hmay, hm, Bool.not_true, b1, e0]
            rw [← hts]
            exact q5
          · rw [gl_succ]
            by_cases h3 : kx = 3
            · have hp : proves = true := by
                rcases hpr with h | h
                · exact absurd h3 h
                · exact h
              subst h3
              subst hp
              simp only [ref25_Judge_L3, c1, decide_true, cond_true, cond_false, tk, g, Option.bind_some, hrfind, hright, hsz, Bool.not_true, b2, e0]
              exact q6
            · simp only [ref25_Judge_L3, c1, decide_true, cond_true, cond_false, tk, g, Option.bind_some, hrfind, hright, hsz, Bool.not_true, h3, decide_false, b2, e0]
              exact q6
        | true =>
          obtain ⟨f1, f2, f3, f4, f5⟩ := b4 rfl
          simp only at f1 f2 f3 f4 f5
          obtain ⟨rfl, rfl⟩ := Prod.mk.inj f1
          have hnx := hnew rfl
          have r3 := rm nak (rk, rd) (by omega)
          obtain ⟨rej', nak', q1, q2, q3, q4, q5, q6⟩ := keep (nak ++ [(rk, rd)]) (by simp; omega) (hnk.snoc f3 (x := (kx, dx)) (by rw [f2]; exact hnx) f5) (fun o ho => by
            rcases List.mem_append.1 ho with h' | h'
            · exact hn8 o h'
            · rw [List.mem_singleton] at h'; subst h'; show 0 ≤ rk ∧ rk < 256; rw [f2]; exact hwi.1)
          refine ⟨rej', nak', q1, q2, q3, q4, ?_, ?_⟩
          · rw [gl_succ]
            simp only [lcpo_Judge_L3, c1, decide_true, cond_true, cond_false, g, Option.bind_some, hcl, r1, tk, hfind, hmay, hm, Bool.not_true, b1, r3, e0]
            rw [← hts]
            exact q5
          · rw [gl_succ]
            by_cases h3 : kx = 3
            · have hp : proves = true := by
                rcases hpr with h | h
                · exact absurd h3 h
                · exact h
              subst h3
              subst hp
              simp only [ref25_Judge_L3, c1, decide_true, cond_true, cond_false, tk, g, Option.bind_some, hrfind, hright, hsz, Bool.not_true, b2, r3, e0]
              exact q6
            · simp only [ref25_Judge_L3, c1, decide_true, cond_true, cond_false, tk, g, Option.bind_some, hrfind, hright, hsz, Bool.not_true, h3, decide_false, b2, r3, e0]
              exact q6
    · have hm0 : may (kx, dx) proves = false := by simpa using hm
      obtain ⟨rej', nak', q1, q2, q3, q4, q5, q6⟩ := reject (.inr hm0)
      refine ⟨rej', nak', q1, q2, q3, q4, ?_, ?_⟩
      · rw [gl_succ]
        cases fb with
        | true =>
          simp only [lcpo_Judge_L3, c1, decide_true, cond_true, g, Option.bind_some, hcl, r1, tk, hfind, r2, e0]
          rw [← hts]
          exact q5
        | false =>
          simp only [lcpo_Judge_L3, c1, decide_true, cond_true, cond_false, g, Option.bind_some, hcl, r1, tk, hfind, hmay, hm0, Bool.not_false, r2, e0]
          rw [← hts]
          exact q5
      · rw [gl_succ]
        by_cases hsz : (dx.length : Int) = sz kx
        · have hp : kx = 3 ∧ proves = false := by
            simp only [may, hsz, decide_true, Bool.true_and, Bool.or_eq_false_iff, Bool.not_eq_false', decide_eq_true_eq] at hm0
            exact hm0
          obtain ⟨rfl, rfl⟩ := hp
          cases fb with
          | true =>
            simp only [ref25_Judge_L3, c1, decide_true, cond_true, tk, g, Option.bind_some, hrfind, hright, hsz, Bool.not_true, cond_false, r2, e0]
            exact q6
          | false =>
            simp only [ref25_Judge_L3, c1, decide_true, cond_true, tk, g, Option.bind_some, hrfind, hright, hsz, Bool.not_true, Bool.not_false, cond_false, r2, e0]
            exact q6
        · simp only [ref25_Judge_L3, c1, decide_true, cond_true, tk, g, Option.bind_some, hrfind, hright, hsz, decide_false, Bool.not_false, r2, e0]
          exact q6
/-- Both judge alike. -/
theorem judge_ok (l : List Op) (proves : Bool) (own fresh : Int) (hw : wfO l) (hl : l.length ≤ 40) (hs : ∀ o ∈ l, o.2.length ≤ 300) (hf : 0 ≤ fresh ∧ fresh < 4294967296) (hN : 100001 < N) :
    ∃ rej nak : List Op, rej.Sublist l ∧ nak.length ≤ l.length ∧ NK l own fresh nak ∧ (∀ o ∈ nak, 0 ≤ o.1 ∧ o.1 < 256) ∧
      lcpo_Judge N l proves own fresh = some (if 0 < rej.length then (4, rej) else if 0 < nak.length then (3, nak) else (2, l)) ∧
      ref25_Judge N l proves own fresh = some (if 0 < rej.length then (4, rej) else if 0 < nak.length then (3, nak) else (2, l)) := by
  obtain ⟨rej, nak, q1, q2, q3, q4, q5, q6⟩ := judge_pair (N := N) l proves own fresh hw hl hs hf hN l.length N 0 [] [] (by omega) (by omega) (List.nil_sublist _) (by simp) (fun o ho => by cases ho) (fun o ho => by cases ho)
  refine ⟨rej, nak, q1, q2, q3, q4, ?_, ?_⟩
  · unfold lcpo_Judge
    refine (congrArg (fun o => Option.bind o _) (show lcpo_Judge_L3_R N ((l, (proves, (own, (fresh, (l, ((l.length : Int), ((0 : Int), ()))))))), (([] : List Op), (([] : List Op), (([] : List Op), ())))) = _ from q5)).trans ?_
    simp only [Option.bind_some]
    by_cases h1 : 0 < rej.length
    · have c1 : ((0 : Int) < (rej.length : Int)) := by omega
      simp only [c1, decide_true, cond_true, h1, if_true]
    · have c1 : ¬ ((0 : Int) < (rej.length : Int)) := by omega
      by_cases h2 : 0 < nak.length
      · have c2 : ((0 : Int) < (nak.length : Int)) := by omega
        simp only [c1, c2, decide_true, decide_false, cond_true, cond_false, h1, h2, if_true, if_false]
      · have c2 : ¬ ((0 : Int) < (nak.length : Int)) := by omega
        simp only [c1, c2, decide_false, cond_false, h1, h2, if_false]
  · unfold ref25_Judge
    refine (congrArg (fun o => Option.bind o _) (show ref25_Judge_L3_R N ((l, (proves, (own, (fresh, ((0 : Int), ()))))), (([] : List Op), (([] : List Op), ()))) = _ from q6)).trans ?_
    simp only [Option.bind_some]
    by_cases h1 : 0 < rej.length
    · have c1 : ((0 : Int) < (rej.length : Int)) := by omega
      simp only [c1, decide_true, cond_true, h1, if_true]
    · have c1 : ¬ ((0 : Int) < (rej.length : Int)) := by omega
      by_cases h2 : 0 < nak.length
      · have c2 : ((0 : Int) < (nak.length : Int)) := by omega
        simp only [c1, c2, decide_true, decide_false, cond_true, cond_false, h1, h2, if_true, if_false]
      · have c2 : ¬ ((0 : Int) < (nak.length : Int)) := by omega
        simp only [c1, c2, decide_false, cond_false, h1, h2, if_false]
theorem wfO_sub {l m : List Op} (h : wfO l) (hs : m.Sublist l) : wfO m := fun o ho => h o (hs.subset ho)
theorem wfO_nk {l nak : List Op} {own fresh : Int} (h : NK l own fresh nak) (h8 : ∀ o ∈ nak, 0 ≤ o.1 ∧ o.1 < 256) : wfO nak := fun o ho => ⟨h8 o ho, (h o ho).1⟩
end
theorem wf_u32' {n : Int} (h : (Lit.int .u32 n).wf = true) : 0 ≤ n ∧ n < 4294967296 := by
  simp only [Lit.wf, Bool.and_eq_true, decide_eq_true_eq, IntKind.min, IntKind.max, IntKind.signed, IntKind.bits] at h
  simp at h
  omega
end Go.Proofs.Ytcmekgfglohooaa
/-
  Layer 25, on plain data: the law LcpoAnswers.
-/
namespace Go.Proofs.Ytcmekgfglohooaa
set_option maxRecDepth 100000
open Go.RowKit
set_option linter.unusedVariables false
set_option linter.unusedSimpArgs false
set_option maxRecDepth 100000

theorem findS_mem {l : List Op} {k : Int} {x : Op} (h : findS l k = (x, true)) : x ∈ l := by
  unfold findS at h
  split at h
  · rename_i o ho
    have h1 : o = x := (Prod.mk.inj h).1
    rw [← h1]
    exact List.mem_of_find?_eq_some ho
  · have := (Prod.mk.inj h).2
    cases this
end Go.Proofs.Ytcmekgfglohooaa
/-
  Layer 25, on plain data: the law LcpoWants.
-/
namespace Go.Proofs.Ytcmekgfglohooaa
set_option maxRecDepth 100000
open Go.RowKit
set_option linter.unusedVariables false
set_option linter.unusedSimpArgs false
set_option maxRecDepth 100000

abbrev Wt3 := Int × Int × Bool
def wfW (w : Wt3) : Prop := (0 ≤ w.1 ∧ w.1 < 65536) ∧ (0 ≤ w.2.1 ∧ w.2.1 < 4294967296)
theorem wf_u16 {n : Int} (h : (Lit.int .u16 n).wf = true) : 0 ≤ n ∧ n < 65536 := by
  simp only [Lit.wf, Bool.and_eq_true, decide_eq_true_eq, IntKind.min, IntKind.max, IntKind.signed, IntKind.bits] at h
  simp at h
  omega
theorem wfu16 {n : Int} (h : 0 ≤ n ∧ n < 65536) : (Lit.int .u16 n).wf = true := by
  simp only [Lit.wf, Bool.and_eq_true, decide_eq_true_eq, IntKind.min, IntKind.max, IntKind.signed, IntKind.bits]
  simp
  omega
theorem wfu32 {n : Int} (h : 0 ≤ n ∧ n < 4294967296) : (Lit.int .u32 n).wf = true := by
  simp only [Lit.wf, Bool.and_eq_true, decide_eq_true_eq, IntKind.min, IntKind.max, IntKind.signed, IntKind.bits]
  simp
  omega
theorem wfB_want (w : Wt3) (h : wfW w) : wfB (.pair (.int .u16) (.pair (.int .u32) .bool)) (w.1, (w.2.1, w.2.2)) = true := by
  simp only [wfB, wfu16 h.1, wfu32 h.2, Bool.and_self]
def firstP (k : Int) (o : Op) : Bool := decide (o.1 = k) && decide ((o.2.length : Int) = sz k)
def firstS (l : List Op) (k : Int) : Option Op := l.find? (firstP k)
theorem firstS_some {l : List Op} {k : Int} {o : Op} (h : firstS l k = some o) : o ∈ l ∧ o.1 = k ∧ (o.2.length : Int) = sz k := by
  refine ⟨List.mem_of_find?_eq_some h, ?_⟩
  have := List.find?_some h
  simpa [firstP] using this
theorem first_step {l : List Op} {k : Int} {i : Nat} (hi : i < l.length) : (l.drop i).find? (firstP k) = if firstP k l[i] = true then some l[i] else (l.drop (i + 1)).find? (firstP k) := by
  rw [List.drop_eq_getElem_cons hi, List.find?_cons]
  cases firstP k l[i] <;> simp
section
variable {N : Nat}
theorem first_loop (l : List Op) (k : Int) (hl : l.length ≤ 1000) : ∀ (j M i : Nat), j + i = l.length → j < M → gl (fun X c => lcpo_first_L2 N X c.1.1 c.1.2.1 c.1.2.2.1 c.1.2.2.2.1) M ((k, (l, ((l.length : Int), ((i : Int), ())))), ()) = some (match (l.drop i).find? (firstP k) with | some o => .inl ((o.2, (true, ())), ()) | none => .inr ((), ()))
  | 0, M + 1, i, hj, hM => by
    have c1 : ¬ ((i : Int) < (l.length : Int)) := by omega
    rw [gl_succ, List.drop_of_length_le (by omega)]
    simp only [lcpo_first_L2, c1, decide_false, cond_false]
    rfl
  | j + 1, M + 1, i, hj, hM => by
    have hlt : i < l.length := by omega
    have c1 : ((i : Int) < (l.length : Int)) := by omega
    have c2 : Go.IntKind.wrap .i64 ((i : Int) + 1) = ((i + 1 : Nat) : Int) := by rw [wrap64 (by omega) (by omega)]; omega
    have ih := first_loop l k hl j M (i + 1) (by omega) (by omega)
    have hsz := size_ok (N := N) k
    rw [gl_succ, first_step hlt]
    by_cases h1 : l[i].1 = k
    · by_cases h2 : (l[i].2.length : Int) = sz k
      · have hp : firstP k l[i] = true := by simp [firstP, h1, h2]
        rw [if_pos hp]
        simp only [lcpo_first_L2, c1, decide_true, cond_true, getI_lt l i hlt, Option.bind_some, h1, hsz, h2]
      · have hp : ¬ firstP k l[i] = true := by simp [firstP, h1, h2]
        rw [if_neg hp]
        simp only [lcpo_first_L2, c1, decide_true, decide_false, cond_true, cond_false, getI_lt l i hlt, Option.bind_some, h1, hsz, h2, c2]
        exact ih
    · have hp : ¬ firstP k l[i] = true := by simp [firstP, h1]
      rw [if_neg hp]
      simp only [lcpo_first_L2, c1, decide_true, decide_false, cond_true, cond_false, getI_lt l i hlt, Option.bind_some, h1, c2]
      exact ih
theorem rfirst_loop (l : List Op) (k : Int) (hl : l.length ≤ 1000) : ∀ (j M i : Nat), j + i = l.length → j < M → gl (fun X c => ref25_first_L2 N X c.1.1 c.1.2.1 c.1.2.2.1 c.2.1) M ((l, (k, ((i : Int), ()))), (((0 : Int), ([] : List Int)), ())) = some (match (l.drop i).find? (firstP k) with | some o => .inl ((true, ()), ((o.1, o.2), ())) | none => .inr ((), (((0 : Int), ([] : List Int)), ())))
  | 0, M + 1, i, hj, hM => by
    have c1 : ¬ ((i : Int) < (l.length : Int)) := by omega
    rw [gl_succ, List.drop_of_length_le (by omega)]
    simp only [ref25_first_L2, c1, decide_false, cond_false]
    rfl
  | j + 1, M + 1, i, hj, hM => by
    have hlt : i < l.length := by omega
    have c1 : ((i : Int) < (l.length : Int)) := by omega
    have c2 : Go.IntKind.wrap .i64 ((i : Int) + 1) = ((i + 1 : Nat) : Int) := by rw [wrap64 (by omega) (by omega)]; omega
    have ih := rfirst_loop l k hl j M (i + 1) (by omega) (by omega)
    have hright := right_ok (N := N) (l[i].1, l[i].2)
    rw [gl_succ, first_step hlt]
    by_cases h1 : l[i].1 = k
    · by_cases h2 : (l[i].2.length : Int) = sz k
      · have hp : firstP k l[i] = true := by simp [firstP, h1, h2]
        rw [if_pos hp]
        simp only [h1, h2, decide_true] at hright
        simp only [ref25_first_L2, c1, decide_true, cond_true, getI_lt l i hlt, Option.bind_some, h1, hright]
      · have hp : ¬ firstP k l[i] = true := by simp [firstP, h1, h2]
        rw [if_neg hp]
        simp only [h1, h2, decide_false] at hright
        simp only [ref25_first_L2, c1, decide_true, cond_true, cond_false, getI_lt l i hlt, Option.bind_some, h1, hright, c2]
        exact ih
    · have hp : ¬ firstP k l[i] = true := by simp [firstP, h1]
      rw [if_neg hp]
      simp only [ref25_first_L2, c1, decide_true, decide_false, cond_true, cond_false, getI_lt l i hlt, Option.bind_some, h1, c2]
      exact ih
theorem first_some (l : List Op) (k : Int) (hl : l.length ≤ 1000) (hN : 10000 ≤ N) {o : Op} (h : firstS l k = some o) : lcpo_first N l k = some (o.2, true) ∧ ref25_first N l k = some (o, true) := by
  have h1 := first_loop (N := N) l k hl l.length N 0 (by omega) (by omega)
  have h2 := rfirst_loop (N := N) l k hl l.length N 0 (by omega) (by omega)
  rw [List.drop_zero, show l.find? (firstP k) = some o from h] at h1 h2
  exact ⟨(congrArg (fun o => Option.bind o _) (show lcpo_first_L2_R N ((k, (l, ((l.length : Int), ((0 : Int), ())))), ()) = _ from h1)).trans rfl, (congrArg (fun o => Option.bind o _) (show ref25_first_L2_R N ((l, (k, ((0 : Int), ()))), (((0 : Int), ([] : List Int)), ())) = _ from h2)).trans rfl⟩
theorem first_none (l : List Op) (k : Int) (hl : l.length ≤ 1000) (hN : 10000 ≤ N) (h : firstS l k = none) : lcpo_first N l k = some ([], false) ∧ ref25_first N l k = some ((0, []), false) := by
  have h1 := first_loop (N := N) l k hl l.length N 0 (by omega) (by omega)
  have h2 := rfirst_loop (N := N) l k hl l.length N 0 (by omega) (by omega)
  rw [List.drop_zero, show l.find? (firstP k) = none from h] at h1 h2
  exact ⟨(congrArg (fun o => Option.bind o _) (show lcpo_first_L2_R N ((k, (l, ((l.length : Int), ((0 : Int), ())))), ()) = _ from h1)).trans rfl, (congrArg (fun o => Option.bind o _) (show ref25_first_L2_R N ((l, (k, ((0 : Int), ()))), (((0 : Int), ([] : List Int)), ())) = _ from h2)).trans rfl⟩
theorem val1 {l : List Op} (hw : wfO l) {o : Op} (h : firstS l 1 = some o) (hN : 100 ≤ N) : ∃ v, lcpo_value N o.2 = some v ∧ ref01_Num N o.2 = some v ∧ 0 ≤ v ∧ v < 65536 := by
  obtain ⟨h1, h2, h3⟩ := firstS_some h
  obtain ⟨k, d⟩ := o
  have hd := (hw _ h1).2
  have hl : d.length = 2 := by rw [show sz 1 = 2 from rfl] at h3; simp only at h3; omega
  match d, hl with
  | [x, y], _ =>
    have bx := hd x (by simp)
    have by' := hd y (by simp)
    exact ⟨x * 256 + y, lget2 x y bx by' hN, lnum2 x y bx by' hN, by omega, by omega⟩
theorem val5 {l : List Op} (hw : wfO l) {o : Op} (h : firstS l 5 = some o) (hN : 100 ≤ N) : ∃ v, lcpo_value N o.2 = some v ∧ ref01_Num N o.2 = some v ∧ 0 ≤ v ∧ v < 4294967296 := by
  obtain ⟨h1, h2, h3⟩ := firstS_some h
  obtain ⟨k, d⟩ := o
  have hd := (hw _ h1).2
  have hl : d.length = 4 := by rw [show sz 5 = 4 from rfl] at h3; simp only at h3; omega
  match d, hl with
  | [x, y, z, u], _ =>
    have bx := hd x (by simp)
    have by' := hd y (by simp)
    have bz := hd z (by simp)
    have bu := hd u (by simp)
    exact ⟨((x * 256 + y) * 256 + z) * 256 + u, lget4 x y z u bx by' bz bu hN, lnum4 x y z u bx by' bz bu hN, by omega, by omega⟩
theorem beq_ok (l : List Int) (h : AllB l) : bytes_Equal N l [194, 35, 129] = some (decide (l = chapL)) := by
  unfold bytes_Equal
  rw [toBy_map h, show ([194, 35, 129] : List Int) = chapL from rfl, toBy_map chap_B, Option.bind_some, Option.bind_some, bytes_dec h chap_B]
theorem has_ok (l : List Op) (k : Int) (hl : l.length ≤ 1000) (hs : ∀ o ∈ l, o.2.length ≤ 1000) (hN : 10000 ≤ N) : lcpo_has N l k = some (findS l k).2 := by
  unfold lcpo_has
  rw [find_ok l k hl hs hN]
  rfl
theorem rej_ok (w : Wt3) (hw : wfW w) (l : List Op) (hl : l.length ≤ 1000) (hs : ∀ o ∈ l, o.2.length ≤ 1000) (hN : 10000 ≤ N) : ∃ r, lcpo_Rejected N (w.1, (w.2.1, w.2.2)) l = some r ∧ ref25_Rejected N (w.1, (w.2.1, w.2.2)) l = some r ∧ wfW r.1 := by
  have a1 := has_ok (N := N) l 1 hl hs hN
  have a3 := has_ok (N := N) l 3 hl hs hN
  have a5 := has_ok (N := N) l 5 hl hs hN
  have b1 := ref_find_ok (N := N) l 1 hl hN
  have b3 := ref_find_ok (N := N) l 3 hl hN
  have b5 := ref_find_ok (N := N) l 5 hl hN
  unfold lcpo_Rejected ref25_Rejected
  cases h1 : (findS l 1).2 <;> cases h5 : (findS l 5).2 <;> simp only [a1, a3, a5, b1, b3, b5, h1, h5, Option.bind_some, cond_true, cond_false]
  · exact ⟨_, rfl, rfl, hw⟩
  · exact ⟨_, rfl, rfl, hw.1, by show (0 : Int) ≤ 0 ∧ (0 : Int) < 4294967296; omega⟩
  · exact ⟨_, rfl, rfl, by show (0 : Int) ≤ 0 ∧ (0 : Int) < 65536; omega, hw.2⟩
  · exact ⟨_, rfl, rfl, by show (0 : Int) ≤ 0 ∧ (0 : Int) < 65536; omega, by show (0 : Int) ≤ 0 ∧ (0 : Int) < 4294967296; omega⟩
theorem opts_ok (w : Wt3) (hw : wfW w) (hN : 10000 ≤ N) : ∃ r, lcpo_Options N (w.1, (w.2.1, w.2.2)) = some r ∧ ref25_Options N (w.1, (w.2.1, w.2.2)) = some r ∧ wfO r ∧ r.length ≤ 3 := by
  obtain ⟨m, g, p⟩ := w
  obtain ⟨hm, hg⟩ := hw
  simp only at hm hg
  have em : Go.IntKind.wrap .u64 m = m := wrapU64 (by omega) (by omega)
  have eg : Go.IntKind.wrap .u64 g = g := wrapU64 (by omega) (by omega)
  have p1 := lput2 (N := N) m (by omega) (by omega)
  have p2 := lbig2 (N := N) m (by omega) (by omega)
  have p3 := lput4 (N := N) g (by omega) (by omega)
  have p4 := lbig4 (N := N) g (by omega) (by omega)
  have e1 : sz 1 = 2 := rfl
  have e5 : sz 5 = 4 := rfl
  have w1 : wfO [((1 : Int), [m / 256 % 256, m % 256])] := fun o ho => by
    rw [List.mem_singleton] at ho; subst ho
    refine ⟨by show (0 : Int) ≤ 1 ∧ (1 : Int) < 256; omega, fun x hx => ?_⟩
    simp only [List.mem_cons, List.not_mem_nil, or_false] at hx
    rcases hx with rfl | rfl <;> omega
  have w3 : wfO [((3 : Int), ([194, 35, 129] : List Int))] := fun o ho => by
    rw [List.mem_singleton] at ho; subst ho
    exact ⟨by show (0 : Int) ≤ 3 ∧ (3 : Int) < 256; omega, chap_B⟩
  have w5 : wfO [((5 : Int), [g / 16777216 % 256, g / 65536 % 256, g / 256 % 256, g % 256])] := fun o ho => by
    rw [List.mem_singleton] at ho; subst ho
    refine ⟨by show (0 : Int) ≤ 5 ∧ (5 : Int) < 256; omega, fun x hx => ?_⟩
    simp only [List.mem_cons, List.not_mem_nil, or_false] at hx
    rcases hx with rfl | rfl | rfl | rfl <;> omega
  have app : ∀ {a b : List Op}, wfO a → wfO b → wfO (a ++ b) := fun ha hb o ho => by
    rcases List.mem_append.1 ho with h | h
    · exact ha o h
    · exact hb o h
  have nil : wfO [] := fun o ho => by cases ho
  unfold lcpo_Options ref25_Options
  by_cases h1 : m = 0 <;> by_cases h5 : g = 0 <;> cases p <;> simp only [h1, h5, decide_true, decide_false, Bool.not_true, Bool.not_false, cond_true, cond_false, lcpo_number, size_ok, e1, e5, em, eg, p1, p2, p3, p4, Option.bind_some]
  · exact ⟨_, rfl, rfl, nil, by simp⟩
  · exact ⟨_, rfl, rfl, w3, by simp⟩
  · exact ⟨_, rfl, rfl, w5, by simp⟩
  · exact ⟨_, rfl, rfl, app w3 w5, by simp⟩
  · exact ⟨_, rfl, rfl, w1, by simp⟩
  · exact ⟨_, rfl, rfl, app w1 w3, by simp⟩
  · exact ⟨_, rfl, rfl, app w1 w5, by simp⟩
  · exact ⟨_, rfl, rfl, app (app w1 w3) w5, by simp⟩
theorem of_ok (l : List Op) (hw : wfO l) (hl : l.length ≤ 1000) (hs : ∀ o ∈ l, o.2.length ≤ 1000) (hN : 100001 < N) : ∃ g : Int × Int × Bool × Bool × Bool, lcpo_Of N l = some g ∧ ref25_Of N l = some g ∧ (0 ≤ g.1 ∧ g.1 < 65536) ∧ (0 ≤ g.2.1 ∧ g.2.1 < 4294967296) := by
  have fst : ∀ k, ∃ d b o, lcpo_first N l k = some (d, b) ∧ ref25_first N l k = some (o, b) ∧ ((b = true ∧ o.2 = d ∧ firstS l k = some o) ∨ (b = false ∧ d = [])) := fun k => by
    cases h : firstS l k with
    | some o => exact ⟨o.2, true, o, (first_some l k hl (by omega) h).1, (first_some l k hl (by omega) h).2, .inl ⟨rfl, rfl, rfl⟩⟩
    | none => exact ⟨[], false, (0, []), (first_none l k hl (by omega) h).1, (first_none l k hl (by omega) h).2, .inr ⟨rfl, rfl⟩⟩
  obtain ⟨d1, b1, o1, p1, q1, r1⟩ := fst 1
  obtain ⟨d3, b3, o3, p3, q3, r3⟩ := fst 3
  obtain ⟨d5, b5, o5, p5, q5, r5⟩ := fst 5
  obtain ⟨d7, b7, o7, p7, q7, _⟩ := fst 7
  obtain ⟨d8, b8, o8, p8, q8, _⟩ := fst 8
  have v16 : ∀ v : Int, 0 ≤ v ∧ v < 65536 → Go.IntKind.wrap .u16 v = v := fun v h => by rw [IntKind.wrap_u16]; omega
  have z16 : (0 : Int) ≤ 1500 ∧ (1500 : Int) < 65536 := by omega
  have z32 : (0 : Int) ≤ 0 ∧ (0 : Int) < 4294967296 := by omega
  have hnil : bytes_Equal N [] [194, 35, 129] = some false := beq_ok [] AllB.nil
  have s1 : (b1 = true ∧ ∃ v1, lcpo_value N d1 = some v1 ∧ ref01_Num N o1.2 = some v1 ∧ 0 ≤ v1 ∧ v1 < 65536) ∨ b1 = false := by
    rcases r1 with ⟨rfl, rfl, f1⟩ | ⟨rfl, rfl⟩
    · exact .inl ⟨rfl, val1 hw f1 (by omega)⟩
    · exact .inr rfl
  have s5 : (b5 = true ∧ ∃ v5, lcpo_value N d5 = some v5 ∧ ref01_Num N o5.2 = some v5 ∧ 0 ≤ v5 ∧ v5 < 4294967296) ∨ b5 = false := by
    rcases r5 with ⟨rfl, rfl, f5⟩ | ⟨rfl, rfl⟩
    · exact .inl ⟨rfl, val5 hw f5 (by omega)⟩
    · exact .inr rfl
  have s3 : (b3 = true ∧ ∃ t, bytes_Equal N d3 [194, 35, 129] = some t ∧ ref01_Same N o3.2 [194, 35, 129] = some t) ∨ (b3 = false ∧ bytes_Equal N d3 [194, 35, 129] = some false) := by
    rcases r3 with ⟨rfl, rfl, f3⟩ | ⟨rfl, rfl⟩
    · have hm := (firstS_some f3).1
      exact .inl ⟨rfl, decide (o3.2 = chapL), beq_ok o3.2 (hw _ hm).2, same21 o3.2 chapL (by have := hs _ hm; omega) (by omega)⟩
    · exact .inr ⟨rfl, hnil⟩
  clear r1 r3 r5
  unfold lcpo_Of ref25_Of
  rcases s1 with ⟨rfl, v1, a1, a2, a3⟩ | rfl <;> rcases s5 with ⟨rfl, v5, c1, c2, c3⟩ | rfl <;> rcases s3 with ⟨rfl, t, e1, e2⟩ | ⟨rfl, hnil'⟩
  · simp only [p1, p3, p5, p7, p8, q1, q3, q5, q7, q8, Option.bind_some, cond_true, cond_false, a1, a2, c1, c2, e1, e2, v16 v1 a3, wrapU32 c3]
    exact ⟨_, rfl, rfl, a3, c3⟩
  · simp only [p1, p3, p5, p7, p8, q1, q3, q5, q7, q8, Option.bind_some, cond_true, cond_false, a1, a2, c1, c2, hnil', v16 v1 a3, wrapU32 c3]
    exact ⟨_, rfl, rfl, a3, c3⟩
  · simp only [p1, p3, p5, p7, p8, q1, q3, q5, q7, q8, Option.bind_some, cond_true, cond_false, a1, a2, e1, e2, v16 v1 a3]
    exact ⟨_, rfl, rfl, a3, z32⟩
  · simp only [p1, p3, p5, p7, p8, q1, q3, q5, q7, q8, Option.bind_some, cond_true, cond_false, a1, a2, hnil', v16 v1 a3]
    exact ⟨_, rfl, rfl, a3, z32⟩
  · simp only [p1, p3, p5, p7, p8, q1, q3, q5, q7, q8, Option.bind_some, cond_true, cond_false, c1, c2, e1, e2, wrapU32 c3]
    exact ⟨_, rfl, rfl, z16, c3⟩
  · simp only [p1, p3, p5, p7, p8, q1, q3, q5, q7, q8, Option.bind_some, cond_true, cond_false, c1, c2, hnil', wrapU32 c3]
    exact ⟨_, rfl, rfl, z16, c3⟩
  · simp only [p1, p3, p5, p7, p8, q1, q3, q5, q7, q8, Option.bind_some, cond_true, cond_false, e1, e2]
    exact ⟨_, rfl, rfl, z16, z32⟩
  · simp only [p1, p3, p5, p7, p8, q1, q3, q5, q7, q8, Option.bind_some, cond_true, cond_false, hnil']
    exact ⟨_, rfl, rfl, z16, z32⟩
theorem naked_ok (w : Wt3) (hw : wfW w) (l : List Op) (fresh : Int) (hf : 0 ≤ fresh ∧ fresh < 4294967296) (hwl : wfO l) (hl : l.length ≤ 1000) (hs : ∀ o ∈ l, o.2.length ≤ 1000) (hN : 10000 ≤ N) : ∃ r, lcpo_Naked N (w.1, (w.2.1, w.2.2)) l fresh = some r ∧ ref25_Naked N (w.1, (w.2.1, w.2.2)) l fresh = some r ∧ wfW r := by
  obtain ⟨m, g, p⟩ := w
  have a5 := has_ok (N := N) l 5 hl hs hN
  have b5 := ref_find_ok (N := N) l 5 hl hN
  unfold lcpo_Naked ref25_Naked
  cases h : firstS l 1 with
  | none =>
    obtain ⟨f1, f2⟩ := first_none (N := N) l 1 hl hN h
    cases h5 : (findS l 5).2 <;> simp only [f1, f2, a5, b5, h5, Option.bind_some, cond_true, cond_false]
    · exact ⟨_, rfl, rfl, hw⟩
    · exact ⟨_, rfl, rfl, hw.1, hf⟩
  | some o =>
    obtain ⟨f1, f2⟩ := first_some (N := N) l 1 hl hN h
    obtain ⟨v, v1, v2, v3⟩ := val1 (N := N) hwl h (by omega)
    have u1 : Go.IntKind.wrap .u16 v = v := by rw [IntKind.wrap_u16]; omega
    cases t1 : decide ((128 : Int) ≤ v) <;> cases t2 : decide (v ≤ m) <;> cases t3 : decide (m = (0 : Int)) <;> cases h5 : (findS l 5).2 <;>
      simp only [f1, f2, v1, v2, u1, t1, t2, t3, a5, b5, h5, Option.bind_some, cond_true, cond_false] <;>
      first
        | exact ⟨_, rfl, rfl, hw⟩
        | exact ⟨_, rfl, rfl, v3, hw.2⟩
        | exact ⟨_, rfl, rfl, v3, hf⟩
        | exact ⟨_, rfl, rfl, hw.1, hf⟩
end
end Go.Proofs.Ytcmekgfglohooaa
/-
  Layer 25, on plain data: what one wants is judged as fine: the law LcpoFine.
-/
namespace Go.Proofs.Ytcmekgfglohooaa
set_option maxRecDepth 100000
open Go.RowKit
set_option linter.unusedVariables false
set_option linter.unusedSimpArgs false
set_option maxRecDepth 100000

def mO (m : Int) : Op := (1, [m / 256 % 256, m % 256])
def cO : Op := (3, [194, 35, 129])
def gO (g : Int) : Op := (5, [g / 16777216 % 256, g / 65536 % 256, g / 256 % 256, g % 256])
def optL (m g : Int) (p : Bool) : List Op := (if m = 0 then [] else [mO m]) ++ (if p = true then [cO] else []) ++ (if g = 0 then [] else [gO g])
section
variable {N : Nat}
theorem optL_ok (m g : Int) (p : Bool) (hm : 0 ≤ m ∧ m < 65536) (hg : 0 ≤ g ∧ g < 4294967296) (hN : 10000 ≤ N) : lcpo_Options N (m, (g, p)) = some (optL m g p) := by
  have em : Go.IntKind.wrap .u64 m = m := wrapU64 (by omega) (by omega)
  have eg : Go.IntKind.wrap .u64 g = g := wrapU64 (by omega) (by omega)
  have p1 := lput2 (N := N) m (by omega) (by omega)
  have p3 := lput4 (N := N) g (by omega) (by omega)
  have e1 : sz 1 = 2 := rfl
  have e5 : sz 5 = 4 := rfl
  unfold lcpo_Options optL
  by_cases h1 : m = 0 <;> by_cases h5 : g = 0 <;> cases p <;> simp only [h1, h5, decide_true, decide_false, Bool.not_true, Bool.not_false, cond_true, cond_false, lcpo_number, size_ok, e1, e5, em, eg, p1, p3, Option.bind_some, if_true, if_false] <;> rfl
theorem mem_optL {m g : Int} {p : Bool} {o : Op} (h : o ∈ optL m g p) : (m ≠ 0 ∧ o = mO m) ∨ (p = true ∧ o = cO) ∨ (g ≠ 0 ∧ o = gO g) := by
  unfold optL at h
  rcases List.mem_append.1 h with h | h
  · rcases List.mem_append.1 h with h | h
    · split at h
      · cases h
      · rename_i c; exact .inl ⟨c, List.mem_singleton.1 h⟩
    · split at h
      · rename_i c; exact .inr (.inl ⟨c, List.mem_singleton.1 h⟩)
      · cases h
  · split at h
    · cases h
    · rename_i c; exact .inr (.inr ⟨c, List.mem_singleton.1 h⟩)
theorem first1 (m g : Int) (p : Bool) : firstS (optL m g p) 1 = if m = 0 then none else some (mO m) := by
  unfold firstS optL
  by_cases h1 : m = 0 <;> by_cases h5 : g = 0 <;> cases p <;> simp [h1, h5, firstP, sz, mO, cO, gO, List.find?]
theorem first3 (m g : Int) (p : Bool) : firstS (optL m g p) 3 = if p = true then some cO else none := by
  unfold firstS optL
  by_cases h1 : m = 0 <;> by_cases h5 : g = 0 <;> cases p <;> simp [h1, h5, firstP, sz, mO, cO, gO, List.find?]
theorem first5 (m g : Int) (p : Bool) : firstS (optL m g p) 5 = if g = 0 then none else some (gO g) := by
  unfold firstS optL
  by_cases h1 : m = 0 <;> by_cases h5 : g = 0 <;> cases p <;> simp [h1, h5, firstP, sz, mO, cO, gO, List.find?]
theorem first78 (m g k : Int) (p : Bool) (hk : k = 7 ∨ k = 8) : firstS (optL m g p) k = none := by
  unfold firstS optL
  rcases hk with rfl | rfl <;> by_cases h1 : m = 0 <;> by_cases h5 : g = 0 <;> cases p <;> simp [h1, h5, firstP, sz, mO, cO, gO, List.find?]
theorem optL_len (m g : Int) (p : Bool) : (optL m g p).length ≤ 3 := by
  unfold optL
  by_cases h1 : m = 0 <;> by_cases h5 : g = 0 <;> cases p <;> simp [h1, h5]
theorem mval (m : Int) (hm : 0 ≤ m ∧ m < 65536) (hN : 100 ≤ N) : lcpo_value N (mO m).2 = some m := by
  have := lget2 (N := N) (m / 256 % 256) (m % 256) (by omega) (by omega) hN
  rw [show m / 256 % 256 * 256 + m % 256 = m by omega] at this
  exact this
theorem gval (g : Int) (hg : 0 ≤ g ∧ g < 4294967296) (hN : 100 ≤ N) : lcpo_value N (gO g).2 = some g := by
  have := lget4 (N := N) (g / 16777216 % 256) (g / 65536 % 256) (g / 256 % 256) (g % 256) (by omega) (by omega) (by omega) (by omega) hN
  rw [show ((g / 16777216 % 256 * 256 + g / 65536 % 256) * 256 + g / 256 % 256) * 256 + g % 256 = g by omega] at this
  exact this
theorem ofL_ok (m g : Int) (p : Bool) (hm : 0 ≤ m ∧ m < 65536) (hg : 0 ≤ g ∧ g < 4294967296) (hN : 10000 ≤ N) : lcpo_Of N (optL m g p) = some (if m = 0 then 1500 else m, (g, (p, (false, false)))) := by
  have hl := optL_len m g p
  have wm : Go.IntKind.wrap .u16 m = m := by rw [IntKind.wrap_u16]; omega
  have wg : Go.IntKind.wrap .u32 g = g := wrapU32 hg
  have f1 : lcpo_first N (optL m g p) 1 = some (if m = 0 then ([], false) else ((mO m).2, true)) := by
    have h := first1 m g p
    by_cases h1 : m = 0
    · rw [if_pos h1] at h ⊢; exact (first_none (N := N) _ 1 (by omega) (by omega) h).1
    · rw [if_neg h1] at h ⊢; exact (first_some (N := N) _ 1 (by omega) (by omega) h).1
  have f3 : lcpo_first N (optL m g p) 3 = some (if p = true then (cO.2, true) else ([], false)) := by
    have h := first3 m g p
    by_cases h1 : p = true
    · rw [if_pos h1] at h ⊢; exact (first_some (N := N) _ 3 (by omega) (by omega) h).1
    · rw [if_neg h1] at h ⊢; exact (first_none (N := N) _ 3 (by omega) (by omega) h).1
  have f5 : lcpo_first N (optL m g p) 5 = some (if g = 0 then ([], false) else ((gO g).2, true)) := by
    have h := first5 m g p
    by_cases h1 : g = 0
    · rw [if_pos h1] at h ⊢; exact (first_none (N := N) _ 5 (by omega) (by omega) h).1
    · rw [if_neg h1] at h ⊢; exact (first_some (N := N) _ 5 (by omega) (by omega) h).1
  have f7 := (first_none (N := N) _ 7 (by omega) (by omega) (first78 m g 7 p (.inl rfl))).1
  have f8 := (first_none (N := N) _ 8 (by omega) (by omega) (first78 m g 8 p (.inr rfl))).1
  have v1 := mval (N := N) m hm (by omega)
  have v5 := gval (N := N) g hg (by omega)
  have b0 : bytes_Equal N [] [194, 35, 129] = some false := beq_ok [] AllB.nil
  have b1 : bytes_Equal N cO.2 [194, 35, 129] = some true := by
    have := beq_ok (N := N) cO.2 chap_B
    rw [this]; rfl
  unfold lcpo_Of
  simp only [f1, f3, f5, f7, f8, Option.bind_some]
  by_cases h1 : m = 0 <;> by_cases h5 : g = 0 <;> cases p <;> simp [h1, h5, v1, v5, b0, b1, wm, wg]
theorem findS_none {l : List Op} (hp : l.Pairwise fun a b => a.1 ≠ b.1) {i : Nat} (hi : i < l.length) : (findS (l.take i) l[i].1).2 = false := by
  unfold findS
  have : (l.take i).find? (fun o => decide (o.1 = l[i].1)) = none := by
    rw [List.find?_eq_none]
    intro x hx
    obtain ⟨j, hj, rfl⟩ := List.getElem_of_mem hx
    have hj' : j < i := by rw [List.length_take] at hj; omega
    rw [List.getElem_take]
    have := List.pairwise_iff_getElem.1 hp j i (by omega) hi hj'
    simpa using this
  rw [this]
theorem fine_loop (l : List Op) (own fresh : Int) (B : Op → Bool) (hl : l.length ≤ 40) (hs : ∀ o ∈ l, o.2.length ≤ 300) (hp : l.Pairwise fun a b => a.1 ≠ b.1) (hm : ∀ o ∈ l, may o true = true) (hb : ∀ o ∈ l, ∃ r, lcpo_better N o own fresh = some (r, B o)) (hN : 100001 < N) : ∀ (k M i : Nat) (nak : List Op), k + i = l.length → k < M → nak.length ≤ i →
    ∃ nak' : List Op, (nak' = [] ↔ nak = [] ∧ ∀ o ∈ l.drop i, B o = false) ∧ gl (fun X c => lcpo_Judge_L3 N X c.1.1 c.1.2.1 c.1.2.2.1 c.1.2.2.2.1 c.1.2.2.2.2.1 c.1.2.2.2.2.2.1 c.1.2.2.2.2.2.2.1 c.2.1 c.2.2.1 c.2.2.2.1) M ((l, (true, (own, (fresh, (l, ((l.length : Int), ((i : Int), ()))))))), (l.take i, (([] : List Op), (nak, ())))) = some ((), (l, (([] : List Op), (nak', ()))))
  | 0, M + 1, i, nak, hk, hM, hn => by
    have c1 : ¬ ((i : Int) < (l.length : Int)) := by omega
    refine ⟨nak, ?_, ?_⟩
    · rw [List.drop_eq_nil_of_le (by omega)]
      exact ⟨fun h => ⟨h, fun o ho => by cases ho⟩, fun h => h.1⟩
    · rw [gl_succ, List.take_of_length_le (by omega)]
      simp only [lcpo_Judge_L3, c1, decide_false, cond_false]
  | k + 1, M + 1, i, nak, hk, hM, hn => by
    have hlt : i < l.length := by omega
    have c1 : ((i : Int) < (l.length : Int)) := by omega
    have e0 : Go.IntKind.wrap .i64 ((i : Int) + 1) = ((i + 1 : Nat) : Int) := by rw [wrap64 (by omega) (by omega)]; omega
    have g := getI_lt l i hlt
    have tk : takeI l (i : Int) = some (l.take i) := takeI_nat l rfl (by omega)
    have hsi := hs _ (List.getElem_mem hlt)
    have hfind := find_ok (N := N) (l.take i) l[i].1 (by rw [List.length_take]; omega) (fun o ho => by have := hs o (List.mem_of_mem_take ho); omega) (by omega)
    have hnew := findS_none hp hlt
    have hts : l.take (i + 1) = l.take i ++ [l[i]] := take_snoc l i hlt
    have hal : (l.take i).length ≤ i := by rw [List.length_take]; omega
    have hcl : slices_Clone_byte_byte N l[i].2 = some l[i].2 := clone_ok _ (by omega)
    have rm : ∀ (x : List Op) (y : Op), x.length ≤ 41 → roomB (x.length + ([y] : List Op).length) 32 = true := fun x y hx => roomB_of (by have := big_len; simp; omega) (by simp; omega)
    have hmay : lcpo_may N (l[i].1, l[i].2) true = some true := by
      have := may_ok (N := N) l[i] true
      rw [hm _ (List.getElem_mem hlt)] at this
      exact this
    obtain ⟨r, hbet⟩ := hb _ (List.getElem_mem hlt)
    have hbet' : lcpo_better N (l[i].1, l[i].2) own fresh = some (r, B l[i]) := hbet
    have r1 := rm (l.take i) (l[i].1, l[i].2) (by omega)
    have r2 : roomB (nak.length + ([(r.1, r.2)] : List Op).length) 32 = true := rm nak (r.1, r.2) (by omega)
    have hdr : l.drop i = l[i] :: l.drop (i + 1) := List.drop_eq_getElem_cons hlt
    have hpair : ((l[i].1, l[i].2) : Op) = l[i] := rfl
    cases hB : B l[i] with
    | true =>
      obtain ⟨nak', q1, q2⟩ := fine_loop l own fresh B hl hs hp hm hb hN k M (i + 1) (nak ++ [(r.1, r.2)]) (by omega) (by omega) (by simp; omega)
      refine ⟨nak', ?_, ?_⟩
      · rw [q1, hdr]
        constructor
        · rintro ⟨h, _⟩; simp at h
        · rintro ⟨_, h⟩
          have := h l[i] List.mem_cons_self
          rw [hB] at this; cases this
      · rw [gl_succ]
        simp only [lcpo_Judge_L3, c1, decide_true, cond_true, g, Option.bind_some, hcl, r1, tk, hfind, hnew, cond_false, hmay, Bool.not_true, hbet', hB, r2, e0]
        rw [hpair, ← hts]
        exact q2
    | false =>
      obtain ⟨nak', q1, q2⟩ := fine_loop l own fresh B hl hs hp hm hb hN k M (i + 1) nak (by omega) (by omega) (by omega)
      refine ⟨nak', ?_, ?_⟩
      · rw [q1, hdr]
        constructor
        · rintro ⟨h1, h2⟩
          refine ⟨h1, fun o ho => ?_⟩
          rcases List.mem_cons.1 ho with rfl | ho
          · exact hB
          · exact h2 o ho
        · rintro ⟨h1, h2⟩
          exact ⟨h1, fun o ho => h2 o (List.mem_cons_of_mem _ ho)⟩
      · rw [gl_succ]
        simp only [lcpo_Judge_L3, c1, decide_true, cond_true, g, Option.bind_some, hcl, r1, tk, hfind, hnew, cond_false, hmay, Bool.not_true, hbet', hB, e0]
        rw [hpair, ← hts]
        exact q2
theorem judge_fine (l : List Op) (own fresh : Int) (B : Op → Bool) (hl : l.length ≤ 40) (hs : ∀ o ∈ l, o.2.length ≤ 300) (hp : l.Pairwise fun a b => a.1 ≠ b.1) (hm : ∀ o ∈ l, may o true = true) (hb : ∀ o ∈ l, ∃ r, lcpo_better N o own fresh = some (r, B o)) (hN : 100001 < N) :
    ∃ nak : List Op, (nak = [] ↔ ∀ o ∈ l, B o = false) ∧ lcpo_Judge N l true own fresh = some (if nak = [] then (2, l) else (3, nak)) := by
  obtain ⟨nak, q1, q2⟩ := fine_loop l own fresh B hl hs hp hm hb hN l.length N 0 [] (by omega) (by omega) (by simp)
  refine ⟨nak, by simpa using q1, ?_⟩
  unfold lcpo_Judge
  refine (congrArg (fun o => Option.bind o _) (show lcpo_Judge_L3_R N ((l, (true, (own, (fresh, (l, ((l.length : Int), ((0 : Int), ()))))))), (([] : List Op), (([] : List Op), (([] : List Op), ())))) = _ from q2)).trans ?_
  simp only [Option.bind_some]
  cases nak with
  | nil => simp
  | cons a n =>
    have c : ((0 : Int) < ((a :: n).length : Int)) := by simp only [List.length_cons]; omega
    simp only [List.length_nil, c, decide_true, cond_true]
    rw [if_neg (by simp)]
    rfl
def BO (own : Int) (o : Op) : Bool := match o with
  | (1, [x, y]) => decide (x * 256 + y < 128)
  | (5, [x, y, z, u]) => decide (((x * 256 + y) * 256 + z) * 256 + u = 0) || decide (((x * 256 + y) * 256 + z) * 256 + u = own)
  | _ => false
end
theorem law_LcpoFine (w : Wt3) (own fresh : Int) (h1 : wfT (.pair (.int .u16) (.pair (.int .u32) .bool)) w) (h2 : wfT (.int .u32) own) (h3 : wfT (.int .u32) fresh) : law25_LcpoFine 200000 w own fresh = some true := by
  obtain ⟨m, g, p⟩ := w
  have hm : 0 ≤ m ∧ m < 65536 := by
    have h : (Lit.int .u16 m).wf = true := h1.1
    simp only [Lit.wf, Bool.and_eq_true, decide_eq_true_eq, IntKind.min, IntKind.max, IntKind.signed, IntKind.bits] at h
    simp at h
    omega
  have hg : 0 ≤ g ∧ g < 4294967296 := wf_u32' h1.2.1
  have hf : 0 ≤ fresh ∧ fresh < 4294967296 := wf_u32' h3
  have hl := optL_len m g p
  have hwf : wfO (optL m g p) := fun o ho => by
    rcases mem_optL ho with ⟨_, rfl⟩ | ⟨_, rfl⟩ | ⟨_, rfl⟩
    · exact ⟨(show (0 : Int) ≤ 1 ∧ (1 : Int) < 256 by omega), AllB.cons (by omega) (AllB.cons (by omega) AllB.nil)⟩
    · exact ⟨(show (0 : Int) ≤ 3 ∧ (3 : Int) < 256 by omega), chap_B⟩
    · exact ⟨(show (0 : Int) ≤ 5 ∧ (5 : Int) < 256 by omega), AllB.cons (by omega) (AllB.cons (by omega) (AllB.cons (by omega) (AllB.cons (by omega) AllB.nil)))⟩
  have hs : ∀ o ∈ optL m g p, o.2.length ≤ 300 := fun o ho => by
    rcases mem_optL ho with ⟨_, rfl⟩ | ⟨_, rfl⟩ | ⟨_, rfl⟩ <;> simp [mO, cO, gO]
  have hp : (optL m g p).Pairwise fun a b => a.1 ≠ b.1 := by
    unfold optL
    by_cases k1 : m = 0 <;> by_cases k5 : g = 0 <;> cases p <;> simp [k1, k5, mO, cO, gO]
  have hmay : ∀ o ∈ optL m g p, may o true = true := fun o ho => by
    rcases mem_optL ho with ⟨_, rfl⟩ | ⟨_, rfl⟩ | ⟨_, rfl⟩ <;> simp [may, sz, mO, cO, gO]
  have b1 : bytes_Equal 200000 cO.2 [194, 35, 129] = some true := by
    have := beq_ok (N := 200000) cO.2 chap_B
    rw [this]; rfl
  have hb : ∀ o ∈ optL m g p, ∃ r, lcpo_better 200000 o own fresh = some (r, decide (o = mO m ∧ m < 128) || decide (o = gO g ∧ (g = 0 ∨ g = own))) := fun o ho => by
    have e1 : sz 1 = 2 := rfl
    have e5 : sz 5 = 4 := rfl
    have ef : Go.IntKind.wrap .u64 fresh = fresh := wrapU64 (by omega) (by omega)
    have p1 := lput2 (N := 200000) 1400 (by omega) (by omega)
    have p3 := lput4 (N := 200000) fresh (by omega) (by omega)
    have v1 := mval (N := 200000) m hm (by omega)
    have v5 := gval (N := 200000) g hg (by omega)
    have wg : Go.IntKind.wrap .u32 g = g := wrapU32 hg
    have n1 : ∀ x y, mO x ≠ gO y := fun x y h => absurd (show (1 : Int) = 5 from congrArg Prod.fst h) (by decide)
    have n2 : ∀ x, cO ≠ mO x := fun x h => absurd (show (3 : Int) = 1 from congrArg Prod.fst h) (by decide)
    have n3 : ∀ x, cO ≠ gO x := fun x h => absurd (show (3 : Int) = 5 from congrArg Prod.fst h) (by decide)
    unfold lcpo_better lcpo_number
    rcases mem_optL ho with ⟨_, rfl⟩ | ⟨_, rfl⟩ | ⟨_, rfl⟩
    · have t : (mO m).1 = 1 := rfl
      refine ⟨(1, [1400 / 256 % 256, 1400 % 256]), ?_⟩
      simp only [t, decide_true, cond_true, size_ok, e1, p1, Option.bind_some, v1, true_and, n1, false_and, decide_false, Bool.or_false]
    · have t : cO.1 = 3 := rfl
      have t1 : ¬ ((3 : Int) = 1) := by decide
      refine ⟨(3, [194, 35, 129]), ?_⟩
      simp only [t, t1, decide_true, decide_false, cond_true, cond_false, b1, Option.bind_some, Bool.not_true, n2, n3, false_and, Bool.or_false]
    · have t : (gO g).1 = 5 := rfl
      have t1 : ¬ ((5 : Int) = 1) := by decide
      have t3 : ¬ ((5 : Int) = 3) := by decide
      have n1' : ∀ x y, gO x ≠ mO y := fun x y h => n1 y x h.symm
      refine ⟨(5, [fresh / 16777216 % 256, fresh / 65536 % 256, fresh / 256 % 256, fresh % 256]), ?_⟩
      simp only [t, t1, t3, decide_true, decide_false, cond_true, cond_false, v5, ef, size_ok, e5, p3, Option.bind_some, wg, n1', false_and, true_and, Bool.false_or]
      by_cases c : g = 0 <;> by_cases c' : g = own <;> simp [c, c']
  obtain ⟨nak, q1, q2⟩ := judge_fine (N := 200000) (optL m g p) own fresh _ (by omega) hs hp hmay hb (by omega)
  have hsame : opts_Same 200000 (optL m g p) (optL m g p) = some true := by
    have := osame_ok (N := 200000) (optL m g p) (optL m g p) hwf hwf (by omega) (by omega)
    rw [decide_eq_true rfl] at this
    exact this
  have hM : m ≠ 0 → mO m ∈ optL m g p := fun h => by unfold optL; rw [if_neg h]; simp
  have hG : g ≠ 0 → gO g ∈ optL m g p := fun h => by unfold optL; rw [if_neg h]; simp
  have hfine : nak = [] ↔ (m = 0 ∨ 128 ≤ m) ∧ (g = 0 ∨ g ≠ own) := by
    rw [q1]
    constructor
    · intro h
      refine ⟨?_, ?_⟩
      · by_cases c : m = 0
        · exact .inl c
        · have := h _ (hM c)
          simp at this
          exact .inr (by have := this.1; omega)
      · by_cases c : g = 0
        · exact .inl c
        · have := h _ (hG c)
          simp at this
          exact .inr (by have := this.2; exact this.2)
    · rintro ⟨a1, a2⟩ o ho
      rcases mem_optL ho with ⟨c, rfl⟩ | ⟨_, rfl⟩ | ⟨c, rfl⟩
      · have n1 : mO m ≠ gO g := fun h => absurd (show (1 : Int) = 5 from congrArg Prod.fst h) (by decide)
        have : ¬ m < 128 := by omega
        simp [n1, this]
      · have n2 : cO ≠ mO m := fun h => absurd (show (3 : Int) = 1 from congrArg Prod.fst h) (by decide)
        have n3 : cO ≠ gO g := fun h => absurd (show (3 : Int) = 5 from congrArg Prod.fst h) (by decide)
        simp [n2, n3]
      · have n1 : gO g ≠ mO m := fun h => absurd (show (5 : Int) = 1 from congrArg Prod.fst h) (by decide)
        have a2' : ¬ g = own := by
          rcases a2 with h | h
          · exact absurd h c
          · exact h
        simp [n1, c, a2']
  unfold law25_LcpoFine
  rw [optL_ok (N := 200000) m g p hm hg (by omega), Option.bind_some, ofL_ok (N := 200000) m g p hm hg (by omega), Option.bind_some]
  have hk : @BEq.beq Bool (@instBEqOfDecidableEq Bool instDecidableEqBool) p p = true := by cases p <;> rfl
  have e1 : decide (g = g) = true := decide_eq_true rfl
  have z22 : decide ((2 : Int) = 2) = true := rfl
  have z33 : decide ((3 : Int) = 3) = true := rfl
  cases hnk : nak with
  | nil =>
    obtain ⟨a1, a2⟩ := hfine.1 hnk
    rw [hnk, if_pos rfl] at q2
    by_cases c1 : m = 0
    · by_cases c2 : g = 0
      · (simp only [decide_eq_true c1, decide_eq_true c2, if_pos c1, e1, hk, Bool.not_true, Bool.not_false, cond_true, cond_false, Option.bind_some, decide_true, q2, hsame, alive25]; try rfl)
      · have c3 : ¬ g = own := by
          rcases a2 with h | h
          · exact absurd h c2
          · exact h
        (simp only [decide_eq_true c1, decide_eq_false c2, decide_eq_false c3, if_pos c1, e1, hk, Bool.not_true, Bool.not_false, cond_true, cond_false, Option.bind_some, decide_true, q2, hsame, alive25]; try rfl)
    · have c4 : 128 ≤ m := by
        rcases a1 with h | h
        · exact absurd h c1
        · exact h
      by_cases c2 : g = 0
      · (simp only [decide_eq_false c1, decide_eq_true c2, decide_eq_true c4, if_neg c1, e1, hk, Bool.not_true, Bool.not_false, cond_true, cond_false, Option.bind_some, decide_true, q2, hsame, alive25]; try rfl)
      · have c3 : ¬ g = own := by
          rcases a2 with h | h
          · exact absurd h c2
          · exact h
        (simp only [decide_eq_false c1, decide_eq_false c2, decide_eq_false c3, decide_eq_true c4, if_neg c1, e1, hk, Bool.not_true, Bool.not_false, cond_true, cond_false, Option.bind_some, decide_true, q2, hsame, alive25]; try rfl)
  | cons a n =>
    have hne : ¬ ((m = 0 ∨ 128 ≤ m) ∧ (g = 0 ∨ g ≠ own)) := fun h => by
      have := hfine.2 h
      rw [hnk] at this; cases this
    rw [hnk, if_neg (by simp)] at q2
    have cl : ((0 : Int) < ((a :: n).length : Int)) := by simp only [List.length_cons]; omega
    by_cases c1 : m = 0
    · have c2 : ¬ g = 0 := fun h => hne ⟨.inl c1, .inl h⟩
      have c3 : g = own := by
        by_cases h : g = own
        · exact h
        · exact absurd ⟨.inl c1, .inr h⟩ hne
      (simp only [decide_eq_true c1, decide_eq_false c2, decide_eq_true c3, if_pos c1, e1, hk, Bool.not_true, Bool.not_false, cond_true, cond_false, Option.bind_some, decide_true, q2, cl, alive25]; try rfl)
    · by_cases c4 : 128 ≤ m
      · have c2 : ¬ g = 0 := fun h => hne ⟨.inr c4, .inl h⟩
        have c3 : g = own := by
          by_cases h : g = own
          · exact h
          · exact absurd ⟨.inr c4, .inr h⟩ hne
        (simp only [decide_eq_false c1, decide_eq_false c2, decide_eq_true c3, decide_eq_true c4, if_neg c1, e1, hk, Bool.not_true, Bool.not_false, cond_true, cond_false, Option.bind_some, decide_true, q2, cl, alive25]; try rfl)
      · (simp only [decide_eq_false c1, decide_eq_false c4, if_neg c1, e1, hk, Bool.not_true, Bool.not_false, cond_true, cond_false, Option.bind_some, decide_true, q2, cl, alive25]; try rfl)
end Go.Proofs.Ytcmekgfglohooaa
