/-
  Functions of the program as plain functions on typed data, and that they are so. Printed by a program of mine.
-/
import Derived.Test.YtdaminjbockmbaaKC
namespace Go.Proofs.Ytdaminjbockmbaa
open Go.RowKit
set_option linter.unusedVariables false
set_option maxRecDepth 100000
theorem hmx : Go.Proofs.Try.prog.follows .mixedOrders = true := by kernel_rfl
noncomputable def Ev0 (N : Nat) : (R : Type) → Env R := Env.addInl env0 [72, 93]
theorem Ev0_ok (N : Nat) (R : Type) : EnvOK Go.Proofs.Try.prog (Ev0 N R) := EnvOK.addInl (env0_ok R) (by kernel_rfl)
noncomputable def Ev1 (N : Nat) : (R : Type) → Env R := Env.addBx (Ev0 N) [(30, 0)]
theorem Ev1_ok (N : Nat) (R : Type) : EnvOK Go.Proofs.Try.prog (Ev1 N R) := EnvOK.addBx (Ev0_ok N R) [(30, 0)]
noncomputable def Ev2 (N : Nat) : (R : Type) → Env R := Env.addBx (Ev1 N) [(30, 0)]
theorem Ev2_ok (N : Nat) (R : Type) : EnvOK Go.Proofs.Try.prog (Ev2 N R) := EnvOK.addBx (Ev1_ok N R) [(30, 0)]
noncomputable def octs_place (N : Nat) (i0 : Int) (width1 : Int) (little2 : Bool) : Option (Int) :=
 bif little2 then
  some (i0)
 else
  some ((Go.IntKind.wrap .i64 ((Go.IntKind.wrap .i64 (width1 - (1 : Int))) - i0)))
theorem octs_place_S (N : Nat) (i0 : Int) (width1 : Int) (little2 : Bool) : (runK Go.Proofs.Try.prog (Ev2 N) 400 108 [(.int .i64), (.int .i64), .bool] [(.int .i64)] (i0, width1, little2, ())).run = octs_place N i0 width1 little2 := by kernel_rfl
noncomputable def Ev3 (N : Nat) : (R : Type) → Env R := Env.addFn (Ev2 N) 108 (fun R => fnK [(.int .i64), (.int .i64), .bool] [(.int .i64)] (fun c => octs_place N c.1 c.2.1 c.2.2.1))
theorem Ev3_ok (N : Nat) (R : Type) : EnvOK Go.Proofs.Try.prog (Ev3 N R) := EnvOK.addFn hmx (Ev2_ok N R) (Ev2_ok N _) (by kernel_rfl) (fun c => octs_place_S N c.1 c.2.1 c.2.2.1)
noncomputable def octs_Put_L5_I : LI := ⟨35, 0, [], ⟨[(0, .ty (.int .u64)), (1, .ty (.int .i64)), (2, .ty .bool), (8, .lit (.own 0)), (19, .ty (.int .i64)), (20, .ty (.int .i64))], [.own (.int .u8) 5]⟩, [(.exit 0, ⟨[(8, .lit (.own 0))], [.own (.int .u8) 5]⟩)]⟩
noncomputable def octs_Put_L5 (N : Nat) (X : (((Int) × ((Int) × ((Bool) × ((Int) × ((Int) × Unit))))) × ((List (Int)) × Unit)) → Option ((Unit × ((List (Int)) × Unit)))) (n0 : Int) (width1 : Int) (little2 : Bool) (x19 : Int) (x20 : Int) (h0 : List (Int)) : Option ((Unit × ((List (Int)) × Unit))) :=
 bif (decide (x20 < x19)) then
  Option.bind (@octs_place N x20 width1 little2) fun (v8 : Int) =>
  bif (decide ((0 : Int) ≤ v8 ∧ v8 < (((List.length h0) : Nat) : Int))) then
   Option.bind (@GetElem?.getElem? (List Int) Nat Int (fun (as9 : (List Int)) => (fun (i10 : Nat) => (@LT.lt Nat @instLTNat i10 (List.length as9)))) (@List.instGetElem?NatLtLength Int) h0 (Int.toNat v8)) fun (v9 : Int) =>
   (X (((@Int.fdiv n0 (@HPow.hPow Int Nat Int (@instHPow Int Nat (@instPowNat Int @Int.instNatPow)) (2 : Int) (@Min.min Nat @instMinNat (Int.toNat (8 : Int)) (@Go.IntKind.bits @Go.IntKind.u64)))), (width1, (little2, (x19, ((Go.IntKind.wrap .i64 (x20 + (1 : Int))), @Unit.unit))))), ((@List.set Int h0 (Int.toNat v8) (Go.IntKind.wrap .u8 n0)), @Unit.unit)))
  else
   none
 else
  some ((@Unit.unit, (h0, @Unit.unit)))
noncomputable def octs_Put_L5_R (N : Nat) (c : (((Int) × ((Int) × ((Bool) × ((Int) × ((Int) × Unit))))) × ((List (Int)) × Unit))) : Option ((Unit × ((List (Int)) × Unit))) := gl (fun X c => octs_Put_L5 N X c.1.1 c.1.2.1 c.1.2.2.1 c.1.2.2.2.1 c.1.2.2.2.2.1 c.2.1) N c
theorem octs_Put_L5_S (N : Nat) (X : (((Int) × ((Int) × ((Bool) × ((Int) × ((Int) × Unit))))) × ((List (Int)) × Unit)) → Option ((Unit × ((List (Int)) × Unit)))) (n0 : Int) (width1 : Int) (little2 : Bool) (x19 : Int) (x20 : Int) (h0 : List (Int)) : (roundK Go.Proofs.Try.prog (Ev3 N) 400 [70] octs_Put_L5_I (loopAt Go.Proofs.Try.prog [70] 5) X ((n0, width1, little2, x19, x20, ()), (h0, ()))).run = octs_Put_L5 N X n0 width1 little2 x19 x20 h0 := by kernel_rfl
noncomputable def Ev4 (N : Nat) : (R : Type) → Env R := Env.addLp (Ev3 N) [70] 0 5 (fun R => lpK Go.Proofs.Try.prog octs_Put_L5_I (fun X c => octs_Put_L5 N X c.1.1 c.1.2.1 c.1.2.2.1 c.1.2.2.2.1 c.1.2.2.2.2.1 c.2.1) N)
theorem Ev4_ok (N : Nat) (R : Type) : EnvOK Go.Proofs.Try.prog (Ev4 N R) := EnvOK.addLp (Ev3_ok N R) (by kernel_rfl) (lpK_ok (li := octs_Put_L5_I) (G := fun X c => octs_Put_L5 N X c.1.1 c.1.2.1 c.1.2.2.1 c.1.2.2.2.1 c.1.2.2.2.2.1 c.2.1) hmx (Ev3_ok N _) (by kernel_rfl) loopAt_sub (fun (X : CT octs_Put_L5_I.sh → Option (OT octs_Put_L5_I.outs)) (c : CT octs_Put_L5_I.sh) => octs_Put_L5_S N X c.1.1 c.1.2.1 c.1.2.2.1 c.1.2.2.2.1 c.1.2.2.2.2.1 c.2.1) N)
noncomputable def octs_Put (N : Nat) (n0 : Int) (width1 : Int) (little2 : Bool) : Option ((List (Int)) × Int) :=
 bif (decide (width1 < (1 : Int))) then
  some ((([] : List (Int)), (1 : Int)))
 else
  bif (@cond Bool @Bool.false @Bool.true (decide ((8 : Int) < width1))) then
   some ((([] : List (Int)), (1 : Int)))
  else
   bif ((decide ((0 : Int) ≤ width1 ∧ width1 ≤ width1)) && (roomB (Int.toNat width1) 1)) then
    Option.bind (octs_Put_L5_R N ((n0, (width1, (little2, ((((List.length (@List.replicate Int (Int.toNat width1) (0 : Int))) : Nat) : Int), ((0 : Int), @Unit.unit))))), ((@List.replicate Int (Int.toNat width1) (0 : Int)), @Unit.unit))) fun (v4 : (Unit × ((List Int) × Unit))) =>
    some ((v4.2.1, (0 : Int)))
   else
    none
theorem octs_Put_S (N : Nat) (n0 : Int) (width1 : Int) (little2 : Bool) : (runK Go.Proofs.Try.prog (Ev4 N) 400 70 [(.int .u64), (.int .i64), .bool] [(.sl (.int .u8)), (.int .i64)] (n0, width1, little2, ())).run = octs_Put N n0 width1 little2 := by kernel_rfl
noncomputable def Ev5 (N : Nat) : (R : Type) → Env R := Env.addFn (Ev4 N) 70 (fun R => fnK [(.int .u64), (.int .i64), .bool] [(.sl (.int .u8)), (.int .i64)] (fun c => octs_Put N c.1 c.2.1 c.2.2.1))
theorem Ev5_ok (N : Nat) (R : Type) : EnvOK Go.Proofs.Try.prog (Ev5 N R) := EnvOK.addFn hmx (Ev4_ok N R) (Ev4_ok N _) (by kernel_rfl) (fun c => octs_Put_S N c.1 c.2.1 c.2.2.1)
noncomputable def octs_Join_L3_I : LI := ⟨33, 0, [], ⟨[(0, .ty (.sl (.sl (.int .u8)))), (3, .ty (.int .i64)), (9, .ty (.sl (.sl (.int .u8)))), (10, .ty (.int .i64)), (11, .ty (.int .i64))], []⟩, [(.exit 0, ⟨[(0, .ty (.sl (.sl (.int .u8)))), (3, .ty (.int .i64))], []⟩)]⟩
noncomputable def octs_Join_L3 (N : Nat) (X : (((List (List (Int))) × ((Int) × ((List (List (Int))) × ((Int) × ((Int) × Unit))))) × Unit) → Option ((((List (List (Int))) × ((Int) × Unit)) × Unit))) (parts0 : List (List (Int))) (size3 : Int) (x9 : List (List (Int))) (x10 : Int) (x11 : Int) : Option ((((List (List (Int))) × ((Int) × Unit)) × Unit)) :=
 bif (decide (x11 < x10)) then
  Option.bind (getI x9 x11) fun (v7 : (List Int)) =>
  (X ((parts0, ((Go.IntKind.wrap .i64 (size3 + (((List.length v7) : Nat) : Int))), (x9, (x10, ((Go.IntKind.wrap .i64 (x11 + (1 : Int))), @Unit.unit))))), @Unit.unit))
 else
  some (((parts0, (size3, @Unit.unit)), @Unit.unit))
noncomputable def octs_Join_L3_R (N : Nat) (c : (((List (List (Int))) × ((Int) × ((List (List (Int))) × ((Int) × ((Int) × Unit))))) × Unit)) : Option ((((List (List (Int))) × ((Int) × Unit)) × Unit)) := gl (fun X c => octs_Join_L3 N X c.1.1 c.1.2.1 c.1.2.2.1 c.1.2.2.2.1 c.1.2.2.2.2.1) N c
theorem octs_Join_L3_S (N : Nat) (X : (((List (List (Int))) × ((Int) × ((List (List (Int))) × ((Int) × ((Int) × Unit))))) × Unit) → Option ((((List (List (Int))) × ((Int) × Unit)) × Unit))) (parts0 : List (List (Int))) (size3 : Int) (x9 : List (List (Int))) (x10 : Int) (x11 : Int) : (roundK Go.Proofs.Try.prog (Ev5 N) 400 [71] octs_Join_L3_I (loopAt Go.Proofs.Try.prog [71] 3) X ((parts0, size3, x9, x10, x11, ()), ())).run = octs_Join_L3 N X parts0 size3 x9 x10 x11 := by kernel_rfl
noncomputable def Ev6 (N : Nat) : (R : Type) → Env R := Env.addLp (Ev5 N) [71] 0 3 (fun R => lpK Go.Proofs.Try.prog octs_Join_L3_I (fun X c => octs_Join_L3 N X c.1.1 c.1.2.1 c.1.2.2.1 c.1.2.2.2.1 c.1.2.2.2.2.1) N)
theorem Ev6_ok (N : Nat) (R : Type) : EnvOK Go.Proofs.Try.prog (Ev6 N R) := EnvOK.addLp (Ev5_ok N R) (by kernel_rfl) (lpK_ok (li := octs_Join_L3_I) (G := fun X c => octs_Join_L3 N X c.1.1 c.1.2.1 c.1.2.2.1 c.1.2.2.2.1 c.1.2.2.2.2.1) hmx (Ev5_ok N _) (by kernel_rfl) loopAt_sub (fun (X : CT octs_Join_L3_I.sh → Option (OT octs_Join_L3_I.outs)) (c : CT octs_Join_L3_I.sh) => octs_Join_L3_S N X c.1.1 c.1.2.1 c.1.2.2.1 c.1.2.2.2.1 c.1.2.2.2.2.1) N)
noncomputable def octs_Join_L9_I : LI := ⟨33, 0, [], ⟨[(6, .lit (.own 0)), (22, .ty (.sl (.sl (.int .u8)))), (23, .ty (.int .i64)), (24, .ty (.int .i64))], [.own (.int .u8) 5]⟩, [(.exit 2, ⟨[(6, .lit (.own 0))], [.own (.int .u8) 5]⟩)]⟩
noncomputable def octs_Join_L9 (N : Nat) (X : (((List (List (Int))) × ((Int) × ((Int) × Unit))) × ((List (Int)) × Unit)) → Option ((Unit × ((List (Int)) × Unit)))) (x22 : List (List (Int))) (x23 : Int) (x24 : Int) (h0 : List (Int)) : Option ((Unit × ((List (Int)) × Unit))) :=
 bif (decide (x24 < x23)) then
  Option.bind (getI x22 x24) fun (v6 : (List Int)) =>
  bif (roomB ((List.length h0) + (List.length v6)) 1) then
   (X ((x22, (x23, ((Go.IntKind.wrap .i64 (x24 + (1 : Int))), @Unit.unit))), ((h0 ++ v6), @Unit.unit)))
  else
   none
 else
  some ((@Unit.unit, (h0, @Unit.unit)))
noncomputable def octs_Join_L9_R (N : Nat) (c : (((List (List (Int))) × ((Int) × ((Int) × Unit))) × ((List (Int)) × Unit))) : Option ((Unit × ((List (Int)) × Unit))) := gl (fun X c => octs_Join_L9 N X c.1.1 c.1.2.1 c.1.2.2.1 c.2.1) N c
theorem octs_Join_L9_S (N : Nat) (X : (((List (List (Int))) × ((Int) × ((Int) × Unit))) × ((List (Int)) × Unit)) → Option ((Unit × ((List (Int)) × Unit)))) (x22 : List (List (Int))) (x23 : Int) (x24 : Int) (h0 : List (Int)) : (roundK Go.Proofs.Try.prog (Ev6 N) 400 [71] octs_Join_L9_I (loopAt Go.Proofs.Try.prog [71] 9) X ((x22, x23, x24, ()), (h0, ()))).run = octs_Join_L9 N X x22 x23 x24 h0 := by kernel_rfl
noncomputable def Ev7 (N : Nat) : (R : Type) → Env R := Env.addLp (Ev6 N) [71] 0 9 (fun R => lpK Go.Proofs.Try.prog octs_Join_L9_I (fun X c => octs_Join_L9 N X c.1.1 c.1.2.1 c.1.2.2.1 c.2.1) N)
theorem Ev7_ok (N : Nat) (R : Type) : EnvOK Go.Proofs.Try.prog (Ev7 N R) := EnvOK.addLp (Ev6_ok N R) (by kernel_rfl) (lpK_ok (li := octs_Join_L9_I) (G := fun X c => octs_Join_L9 N X c.1.1 c.1.2.1 c.1.2.2.1 c.2.1) hmx (Ev6_ok N _) (by kernel_rfl) loopAt_sub (fun (X : CT octs_Join_L9_I.sh → Option (OT octs_Join_L9_I.outs)) (c : CT octs_Join_L9_I.sh) => octs_Join_L9_S N X c.1.1 c.1.2.1 c.1.2.2.1 c.2.1) N)
noncomputable def octs_Join (N : Nat) (parts0 : List (List (Int))) : Option (List (Int)) :=
 Option.bind (octs_Join_L3_R N ((parts0, ((0 : Int), (parts0, ((((List.length parts0) : Nat) : Int), ((0 : Int), @Unit.unit))))), @Unit.unit)) fun (v2 : (((List (List Int)) × (Int × Unit)) × Unit)) =>
 bif ((decide ((0 : Int) ≤ (0 : Int) ∧ (0 : Int) ≤ v2.1.2.1)) && (roomB (Int.toNat v2.1.2.1) 1)) then
  Option.bind (octs_Join_L9_R N ((v2.1.1, ((((List.length v2.1.1) : Nat) : Int), ((0 : Int), @Unit.unit))), ((@List.replicate Int (Int.toNat (0 : Int)) (0 : Int)), @Unit.unit))) fun (v3 : (Unit × ((List Int) × Unit))) =>
  some (v3.2.1)
 else
  none
theorem octs_Join_S (N : Nat) (parts0 : List (List (Int))) : (runK Go.Proofs.Try.prog (Ev7 N) 400 71 [(.sl (.sl (.int .u8)))] [(.sl (.int .u8))] (parts0, ())).run = octs_Join N parts0 := by kernel_rfl
noncomputable def Ev8 (N : Nat) : (R : Type) → Env R := Env.addFn (Ev7 N) 71 (fun R => fnK [(.sl (.sl (.int .u8)))] [(.sl (.int .u8))] (fun c => octs_Join N c.1))
theorem Ev8_ok (N : Nat) (R : Type) : EnvOK Go.Proofs.Try.prog (Ev8 N R) := EnvOK.addFn hmx (Ev7_ok N R) (Ev7_ok N _) (by kernel_rfl) (fun c => octs_Join_S N c.1)
noncomputable def ctl_Lay (N : Nat) (c0 : (Int) × ((Int) × (List (Int)))) : Option ((List (Int)) × Int) :=
 bif (decide ((4000 : Int) < (((List.length c0.2.2) : Nat) : Int))) then
  some ((([] : List (Int)), (8 : Int)))
 else
  Option.bind (@octs_Put N (Go.IntKind.wrap .u64 (Go.IntKind.wrap .i64 ((4 : Int) + (((List.length c0.2.2) : Nat) : Int)))) (2 : Int) @Bool.false) fun (v2 : ((List Int) × Int)) =>
  Option.bind (@octs_Join N ([([c0.1, c0.2.1] : List (Int)), v2.1, c0.2.2] : List ((List Int)))) fun (v3 : (List Int)) =>
  some ((v3, (0 : Int)))
theorem ctl_Lay_S (N : Nat) (c0 : (Int) × ((Int) × (List (Int)))) : (runK Go.Proofs.Try.prog (Ev8 N) 400 30 [(.pair (.int .u8) (.pair (.int .u8) (.sl (.int .u8))))] [(.sl (.int .u8)), (.int .i64)] (c0, ())).run = ctl_Lay N c0 := by kernel_rfl
theorem ctl_Lay_C (N : Nat) (c0 : (Int) × ((Int) × (List (Int)))) (y : (List (Int)) × Int) (h : ctl_Lay N c0 = some y) : CallsK Go.Proofs.Try.prog 30 (valA [(.pair (.int .u8) (.pair (.int .u8) (.sl (.int .u8))))] (c0, ())) (tupV (valR [(.sl (.int .u8)), (.int .i64)] y)) := runK_ok hmx (Ev8_ok N _) (okFn_ok (by kernel_rfl)) (by rw [ctl_Lay_S]; exact h)
noncomputable def Ev9 (N : Nat) : (R : Type) → Env R := Env.addFn (Ev8 N) 30 (fun R => fnK [(.pair (.int .u8) (.pair (.int .u8) (.sl (.int .u8))))] [(.sl (.int .u8)), (.int .i64)] (fun c => ctl_Lay N c.1))
theorem Ev9_ok (N : Nat) (R : Type) : EnvOK Go.Proofs.Try.prog (Ev9 N R) := EnvOK.addFn hmx (Ev8_ok N R) (Ev8_ok N _) (by kernel_rfl) (fun c => ctl_Lay_S N c.1)
noncomputable def octs_Get_L5_I : LI := ⟨37, 0, [], ⟨[(0, .ty (.sl (.int .u8))), (1, .ty .bool), (6, .ty (.int .u64)), (17, .ty (.int .i64)), (18, .ty (.int .i64))], []⟩, [(.exit 0, ⟨[(6, .ty (.int .u64))], []⟩)]⟩
noncomputable def octs_Get_L5 (N : Nat) (X : (((List (Int)) × ((Bool) × ((Int) × ((Int) × ((Int) × Unit))))) × Unit) → Option ((((Int) × Unit) × Unit))) (b0 : List (Int)) (little1 : Bool) (n6 : Int) (x17 : Int) (x18 : Int) : Option ((((Int) × Unit) × Unit)) :=
 bif (decide (x18 < x17)) then
  Option.bind (@octs_place N x18 (((List.length b0) : Nat) : Int) little1) fun (v7 : Int) =>
  Option.bind (getI b0 v7) fun (v8 : Int) =>
  bif (decide ((0 : Int) ≤ (Go.IntKind.wrap .i64 ((8 : Int) * x18)))) then
   (X ((b0, (little1, ((@Go.bits @Go.BinOp.or @Go.IntKind.u64 n6 (Go.IntKind.wrap .u64 ((Go.IntKind.wrap .u64 v8) * (@HPow.hPow Int Nat Int (@instHPow Int Nat (@instPowNat Int @Int.instNatPow)) (2 : Int) (@Min.min Nat @instMinNat (Int.toNat (Go.IntKind.wrap .i64 ((8 : Int) * x18))) (@Go.IntKind.bits @Go.IntKind.u64)))))), (x17, ((Go.IntKind.wrap .i64 (x18 + (1 : Int))), @Unit.unit))))), @Unit.unit))
  else
   none
 else
  some (((n6, @Unit.unit), @Unit.unit))
noncomputable def octs_Get_L5_R (N : Nat) (c : (((List (Int)) × ((Bool) × ((Int) × ((Int) × ((Int) × Unit))))) × Unit)) : Option ((((Int) × Unit) × Unit)) := gl (fun X c => octs_Get_L5 N X c.1.1 c.1.2.1 c.1.2.2.1 c.1.2.2.2.1 c.1.2.2.2.2.1) N c
theorem octs_Get_L5_S (N : Nat) (X : (((List (Int)) × ((Bool) × ((Int) × ((Int) × ((Int) × Unit))))) × Unit) → Option ((((Int) × Unit) × Unit))) (b0 : List (Int)) (little1 : Bool) (n6 : Int) (x17 : Int) (x18 : Int) : (roundK Go.Proofs.Try.prog (Ev9 N) 400 [78] octs_Get_L5_I (loopAt Go.Proofs.Try.prog [78] 5) X ((b0, little1, n6, x17, x18, ()), ())).run = octs_Get_L5 N X b0 little1 n6 x17 x18 := by kernel_rfl
noncomputable def Ev10 (N : Nat) : (R : Type) → Env R := Env.addLp (Ev9 N) [78] 0 5 (fun R => lpK Go.Proofs.Try.prog octs_Get_L5_I (fun X c => octs_Get_L5 N X c.1.1 c.1.2.1 c.1.2.2.1 c.1.2.2.2.1 c.1.2.2.2.2.1) N)
theorem Ev10_ok (N : Nat) (R : Type) : EnvOK Go.Proofs.Try.prog (Ev10 N R) := EnvOK.addLp (Ev9_ok N R) (by kernel_rfl) (lpK_ok (li := octs_Get_L5_I) (G := fun X c => octs_Get_L5 N X c.1.1 c.1.2.1 c.1.2.2.1 c.1.2.2.2.1 c.1.2.2.2.2.1) hmx (Ev9_ok N _) (by kernel_rfl) loopAt_sub (fun (X : CT octs_Get_L5_I.sh → Option (OT octs_Get_L5_I.outs)) (c : CT octs_Get_L5_I.sh) => octs_Get_L5_S N X c.1.1 c.1.2.1 c.1.2.2.1 c.1.2.2.2.1 c.1.2.2.2.2.1) N)
noncomputable def octs_Get (N : Nat) (b0 : List (Int)) (little1 : Bool) : Option ((Int) × Int) :=
 bif (decide ((((List.length b0) : Nat) : Int) < (1 : Int))) then
  some (((0 : Int), (1 : Int)))
 else
  bif (@cond Bool @Bool.false @Bool.true (decide ((8 : Int) < (((List.length b0) : Nat) : Int)))) then
   some (((0 : Int), (1 : Int)))
  else
   Option.bind (octs_Get_L5_R N ((b0, (little1, ((0 : Int), ((((List.length b0) : Nat) : Int), ((0 : Int), @Unit.unit))))), @Unit.unit)) fun (v3 : ((Int × Unit) × Unit)) =>
   some ((v3.1.1, (0 : Int)))
theorem octs_Get_S (N : Nat) (b0 : List (Int)) (little1 : Bool) : (runK Go.Proofs.Try.prog (Ev10 N) 400 78 [(.sl (.int .u8)), .bool] [(.int .u64), (.int .i64)] (b0, little1, ())).run = octs_Get N b0 little1 := by kernel_rfl
noncomputable def Ev11 (N : Nat) : (R : Type) → Env R := Env.addFn (Ev10 N) 78 (fun R => fnK [(.sl (.int .u8)), .bool] [(.int .u64), (.int .i64)] (fun c => octs_Get N c.1 c.2.1))
theorem Ev11_ok (N : Nat) (R : Type) : EnvOK Go.Proofs.Try.prog (Ev11 N R) := EnvOK.addFn hmx (Ev10_ok N R) (Ev10_ok N _) (by kernel_rfl) (fun c => octs_Get_S N c.1 c.2.1)
noncomputable def Ev12 (N : Nat) : (R : Type) → Env R := Env.addMv (Ev11 N) [(85, 3)]
theorem Ev12_ok (N : Nat) (R : Type) : EnvOK Go.Proofs.Try.prog (Ev12 N R) := EnvOK.addMv (Ev11_ok N R) [(85, 3)]
noncomputable def slices_Clone_byte_byte_ne (N : Nat) (s0 : List (Int)) : Option (List (Int)) :=
 bif (@List.isEmpty Int s0) then
  none
 else
  bif (roomB ((List.length ([] : List (Int))) + (List.length s0)) 1) then
   some ((([] : List (Int)) ++ s0))
  else
   none
theorem slices_Clone_byte_byte_ne_S (N : Nat) (s0 : List (Int)) : (runK Go.Proofs.Try.prog (Ev12 N) 400 85 [(.sl (.int .u8))] [(.sl (.int .u8))] (s0, ())).run = slices_Clone_byte_byte_ne N s0 := by kernel_rfl
theorem slices_Clone_byte_byte_n1 (N : Nat) (c : Nat) : (runV Go.Proofs.Try.prog (Ev12 N) 400 85 [.c (.slice none 0 c)] [(.sl (.int .u8))]).run = some [] := by kernel_rfl
theorem slices_Clone_byte_byte_n2 (N : Nat) (A : Addr) (c : Nat) : (runV Go.Proofs.Try.prog (Ev12 N) 400 85 [.c (.slice (some A) 0 c)] [(.sl (.int .u8))]).run = some [] := by kernel_rfl
noncomputable def slices_Clone_byte_byte (N : Nat) (s0 : List (Int)) : Option (List (Int)) := bif s0.isEmpty then some [] else slices_Clone_byte_byte_ne N s0
noncomputable def Ev13 (N : Nat) : (R : Type) → Env R := Env.addFn (Ev12 N) 85 (fun R => fnK [(.sl (.int .u8))] [(.sl (.int .u8))] (fun c => slices_Clone_byte_byte N c.1))
theorem Ev13_ok (N : Nat) (R : Type) : EnvOK Go.Proofs.Try.prog (Ev13 N R) := EnvOK.addNil hmx (Ev12_ok N R) (Ev12_ok N _) (by kernel_rfl) (fun c => slices_Clone_byte_byte_ne_S N c.1) (slices_Clone_byte_byte_n1 N) (slices_Clone_byte_byte_n2 N)
noncomputable def ctl_Parse (N : Nat) (b0 : List (Int)) : Option (((Int) × ((Int) × (List (Int)))) × Int) :=
 bif (decide ((((List.length b0) : Nat) : Int) < (4 : Int))) then
  some ((((0 : Int), ((0 : Int), ([] : List (Int)))), (4 : Int)))
 else
  Option.bind (subI b0 (2 : Int) (4 : Int)) fun (v2 : (List Int)) =>
  Option.bind (@octs_Get N v2 @Bool.false) fun (v3 : (Int × Int)) =>
  bif (decide ((Go.IntKind.wrap .i64 v3.1) < (4 : Int))) then
   some ((((0 : Int), ((0 : Int), ([] : List (Int)))), (3 : Int)))
  else
   bif (decide ((((List.length b0) : Nat) : Int) < (Go.IntKind.wrap .i64 v3.1))) then
    some ((((0 : Int), ((0 : Int), ([] : List (Int)))), (4 : Int)))
   else
    bif (decide ((4004 : Int) < (Go.IntKind.wrap .i64 v3.1))) then
     some ((((0 : Int), ((0 : Int), ([] : List (Int)))), (8 : Int)))
    else
     Option.bind (getI b0 (0 : Int)) fun (v4 : Int) =>
     Option.bind (getI b0 (1 : Int)) fun (v5 : Int) =>
     Option.bind (subI b0 (4 : Int) (Go.IntKind.wrap .i64 v3.1)) fun (v6 : (List Int)) =>
     Option.bind (@slices_Clone_byte_byte N v6) fun (v7 : (List Int)) =>
     some (((v4, (v5, v7)), (0 : Int)))
theorem ctl_Parse_S (N : Nat) (b0 : List (Int)) : (runK Go.Proofs.Try.prog (Ev13 N) 400 33 [(.sl (.int .u8))] [(.pair (.int .u8) (.pair (.int .u8) (.sl (.int .u8)))), (.int .i64)] (b0, ())).run = ctl_Parse N b0 := by kernel_rfl
theorem ctl_Parse_C (N : Nat) (b0 : List (Int)) (y : ((Int) × ((Int) × (List (Int)))) × Int) (h : ctl_Parse N b0 = some y) : CallsK Go.Proofs.Try.prog 33 (valA [(.sl (.int .u8))] (b0, ())) (tupV (valR [(.pair (.int .u8) (.pair (.int .u8) (.sl (.int .u8)))), (.int .i64)] y)) := runK_ok hmx (Ev13_ok N _) (okFn_ok (by kernel_rfl)) (by rw [ctl_Parse_S]; exact h)
noncomputable def Ev14 (N : Nat) : (R : Type) → Env R := Env.addFn (Ev13 N) 33 (fun R => fnK [(.sl (.int .u8))] [(.pair (.int .u8) (.pair (.int .u8) (.sl (.int .u8)))), (.int .i64)] (fun c => ctl_Parse N c.1))
theorem Ev14_ok (N : Nat) (R : Type) : EnvOK Go.Proofs.Try.prog (Ev14 N R) := EnvOK.addFn hmx (Ev13_ok N R) (Ev13_ok N _) (by kernel_rfl) (fun c => ctl_Parse_S N c.1)
noncomputable def Ev15 (N : Nat) : (R : Type) → Env R := Env.addBx (Ev14 N) [(35, 0)]
theorem Ev15_ok (N : Nat) (R : Type) : EnvOK Go.Proofs.Try.prog (Ev15 N R) := EnvOK.addBx (Ev14_ok N R) [(35, 0)]
noncomputable def bytes_Equal (N : Nat) (a0 : List (Int)) (b1 : List (Int)) : Option (Bool) :=
 Option.bind (@toBy a0) fun (v3 : (List UInt8)) =>
 Option.bind (@toBy b1) fun (v4 : (List UInt8)) =>
 some ((decide (v3 = v4)))
theorem bytes_Equal_S (N : Nat) (a0 : List (Int)) (b1 : List (Int)) : (runK Go.Proofs.Try.prog (Ev15 N) 400 86 [(.sl (.int .u8)), (.sl (.int .u8))] [.bool] (a0, b1, ())).run = bytes_Equal N a0 b1 := by kernel_rfl
noncomputable def Ev16 (N : Nat) : (R : Type) → Env R := Env.addFn (Ev15 N) 86 (fun R => fnK [(.sl (.int .u8)), (.sl (.int .u8))] [.bool] (fun c => bytes_Equal N c.1 c.2.1))
theorem Ev16_ok (N : Nat) (R : Type) : EnvOK Go.Proofs.Try.prog (Ev16 N R) := EnvOK.addFn hmx (Ev15_ok N R) (Ev15_ok N _) (by kernel_rfl) (fun c => bytes_Equal_S N c.1 c.2.1)
noncomputable def ctl_Same (N : Nat) (a0 : (Int) × ((Int) × (List (Int)))) (b1 : (Int) × ((Int) × (List (Int)))) : Option (Bool) :=
 bif (decide (a0.1 = b1.1)) then
  bif (@cond Bool @Bool.true (decide (a0.2.1 = b1.2.1)) @Bool.false) then
   Option.bind (@bytes_Equal N a0.2.2 b1.2.2) fun (v3 : Bool) =>
   some ((@cond Bool @Bool.true v3 @Bool.false))
  else
   some (@Bool.false)
 else
  some (@Bool.false)
theorem ctl_Same_S (N : Nat) (a0 : (Int) × ((Int) × (List (Int)))) (b1 : (Int) × ((Int) × (List (Int)))) : (runK Go.Proofs.Try.prog (Ev16 N) 400 35 [(.pair (.int .u8) (.pair (.int .u8) (.sl (.int .u8)))), (.pair (.int .u8) (.pair (.int .u8) (.sl (.int .u8))))] [.bool] (a0, b1, ())).run = ctl_Same N a0 b1 := by kernel_rfl
theorem ctl_Same_C (N : Nat) (a0 : (Int) × ((Int) × (List (Int)))) (b1 : (Int) × ((Int) × (List (Int)))) (y : Bool) (h : ctl_Same N a0 b1 = some y) : CallsK Go.Proofs.Try.prog 35 (valA [(.pair (.int .u8) (.pair (.int .u8) (.sl (.int .u8)))), (.pair (.int .u8) (.pair (.int .u8) (.sl (.int .u8))))] (a0, b1, ())) (tupV (valR [.bool] y)) := runK_ok hmx (Ev16_ok N _) (okFn_ok (by kernel_rfl)) (by rw [ctl_Same_S]; exact h)
noncomputable def Ev17 (N : Nat) : (R : Type) → Env R := Env.addFn (Ev16 N) 35 (fun R => fnK [(.pair (.int .u8) (.pair (.int .u8) (.sl (.int .u8)))), (.pair (.int .u8) (.pair (.int .u8) (.sl (.int .u8))))] [.bool] (fun c => ctl_Same N c.1 c.2.1))
theorem Ev17_ok (N : Nat) (R : Type) : EnvOK Go.Proofs.Try.prog (Ev17 N R) := EnvOK.addFn hmx (Ev16_ok N R) (Ev16_ok N _) (by kernel_rfl) (fun c => ctl_Same_S N c.1 c.2.1)
noncomputable def ctl_hasOptions (N : Nat) (code0 : Int) : Option (Bool) :=
 bif (decide ((1 : Int) ≤ code0)) then
  some ((@cond Bool @Bool.true (decide (code0 ≤ (4 : Int))) @Bool.false))
 else
  some (@Bool.false)
theorem ctl_hasOptions_S (N : Nat) (code0 : Int) : (runK Go.Proofs.Try.prog (Ev17 N) 400 87 [(.int .u8)] [.bool] (code0, ())).run = ctl_hasOptions N code0 := by kernel_rfl
noncomputable def Ev18 (N : Nat) : (R : Type) → Env R := Env.addFn (Ev17 N) 87 (fun R => fnK [(.int .u8)] [.bool] (fun c => ctl_hasOptions N c.1))
theorem Ev18_ok (N : Nat) (R : Type) : EnvOK Go.Proofs.Try.prog (Ev18 N R) := EnvOK.addFn hmx (Ev17_ok N R) (Ev17_ok N _) (by kernel_rfl) (fun c => ctl_hasOptions_S N c.1)
noncomputable def Ev19 (N : Nat) : (R : Type) → Env R := Env.addMv (Ev18 N) [(88, 9)]
theorem Ev19_ok (N : Nat) (R : Type) : EnvOK Go.Proofs.Try.prog (Ev19 N R) := EnvOK.addMv (Ev18_ok N R) [(88, 9)]
noncomputable def opts_Lay_L5_I : LI := ⟨36, 0, [(4, 5)], ⟨[(4, .lit (.own 0)), (10, .ty (.sl (.pair (.int .u8) (.sl (.int .u8))))), (11, .ty (.int .i64)), (12, .ty (.int .i64))], [.own (.int .u8) 5]⟩, [(.ret, ⟨[(2, .ty (.sl (.int .u8))), (3, .ty (.int .i64))], []⟩), (.exit 0, ⟨[(4, .lit (.own 0))], [.own (.int .u8) 5]⟩)]⟩
noncomputable def opts_Lay_L5 (N : Nat) (X : (((List ((Int) × (List (Int)))) × ((Int) × ((Int) × Unit))) × ((List (Int)) × Unit)) → Option (((((List (Int)) × ((Int) × Unit)) × Unit) ⊕ (Unit × ((List (Int)) × Unit))))) (x10 : List ((Int) × (List (Int)))) (x11 : Int) (x12 : Int) (h0 : List (Int)) : Option (((((List (Int)) × ((Int) × Unit)) × Unit) ⊕ (Unit × ((List (Int)) × Unit)))) :=
 bif (decide (x12 < x11)) then
  Option.bind (getI x10 x12) fun (v6 : (Int × (List Int))) =>
  bif (decide ((253 : Int) < (((List.length v6.2) : Nat) : Int))) then
   some ((.inl ((([] : List (Int)), ((8 : Int), @Unit.unit)), @Unit.unit)))
  else
   bif (roomB ((List.length h0) + (List.length ([v6.1, (Go.IntKind.wrap .u8 (Go.IntKind.wrap .i64 ((2 : Int) + (((List.length v6.2) : Nat) : Int))))] : List (Int)))) 1) then
    bif (roomB ((List.length (h0 ++ ([v6.1, (Go.IntKind.wrap .u8 (Go.IntKind.wrap .i64 ((2 : Int) + (((List.length v6.2) : Nat) : Int))))] : List (Int)))) + (List.length v6.2)) 1) then
     (X ((x10, (x11, ((Go.IntKind.wrap .i64 (x12 + (1 : Int))), @Unit.unit))), (((h0 ++ ([v6.1, (Go.IntKind.wrap .u8 (Go.IntKind.wrap .i64 ((2 : Int) + (((List.length v6.2) : Nat) : Int))))] : List (Int))) ++ v6.2), @Unit.unit)))
    else
     none
   else
    none
 else
  some ((.inr (@Unit.unit, (h0, @Unit.unit))))
noncomputable def opts_Lay_L5_R (N : Nat) (c : (((List ((Int) × (List (Int)))) × ((Int) × ((Int) × Unit))) × ((List (Int)) × Unit))) : Option (((((List (Int)) × ((Int) × Unit)) × Unit) ⊕ (Unit × ((List (Int)) × Unit)))) := gl (fun X c => opts_Lay_L5 N X c.1.1 c.1.2.1 c.1.2.2.1 c.2.1) N c
theorem opts_Lay_L5_S (N : Nat) (X : (((List ((Int) × (List (Int)))) × ((Int) × ((Int) × Unit))) × ((List (Int)) × Unit)) → Option (((((List (Int)) × ((Int) × Unit)) × Unit) ⊕ (Unit × ((List (Int)) × Unit))))) (x10 : List ((Int) × (List (Int)))) (x11 : Int) (x12 : Int) (h0 : List (Int)) : (roundK Go.Proofs.Try.prog (Ev19 N) 400 [88] opts_Lay_L5_I (loopAt Go.Proofs.Try.prog [88] 5) X ((x10, x11, x12, ()), (h0, ()))).run = opts_Lay_L5 N X x10 x11 x12 h0 := by kernel_rfl
noncomputable def Ev20 (N : Nat) : (R : Type) → Env R := Env.addLp (Ev19 N) [88] 0 5 (fun R => lpK Go.Proofs.Try.prog opts_Lay_L5_I (fun X c => opts_Lay_L5 N X c.1.1 c.1.2.1 c.1.2.2.1 c.2.1) N)
theorem Ev20_ok (N : Nat) (R : Type) : EnvOK Go.Proofs.Try.prog (Ev20 N R) := EnvOK.addLp (Ev19_ok N R) (by kernel_rfl) (lpK_ok (li := opts_Lay_L5_I) (G := fun X c => opts_Lay_L5 N X c.1.1 c.1.2.1 c.1.2.2.1 c.2.1) hmx (Ev19_ok N _) (by kernel_rfl) loopAt_sub (fun (X : CT opts_Lay_L5_I.sh → Option (OT opts_Lay_L5_I.outs)) (c : CT opts_Lay_L5_I.sh) => opts_Lay_L5_S N X c.1.1 c.1.2.1 c.1.2.2.1 c.2.1) N)
noncomputable def opts_Lay (N : Nat) (l0 : List ((Int) × (List (Int)))) : Option ((List (Int)) × Int) :=
 bif (decide ((32 : Int) < (((List.length l0) : Nat) : Int))) then
  some ((([] : List (Int)), (5 : Int)))
 else
  Option.bind (opts_Lay_L5_R N ((l0, ((((List.length l0) : Nat) : Int), ((0 : Int), @Unit.unit))), (([] : List (Int)), @Unit.unit))) fun (v2 : ((((List Int) × (Int × Unit)) × Unit) ⊕ (Unit × ((List Int) × Unit)))) =>
  Sum.elim
   (fun (v3 : (((List Int) × (Int × Unit)) × Unit)) =>
   some ((v3.1.1, v3.1.2.1)))
   (fun (v3 : (Unit × ((List Int) × Unit))) =>
   some ((v3.2.1, (0 : Int)))) v2
theorem opts_Lay_S (N : Nat) (l0 : List ((Int) × (List (Int)))) : (runK Go.Proofs.Try.prog (Ev20 N) 400 88 [(.sl (.pair (.int .u8) (.sl (.int .u8))))] [(.sl (.int .u8)), (.int .i64)] (l0, ())).run = opts_Lay N l0 := by kernel_rfl
noncomputable def Ev21 (N : Nat) : (R : Type) → Env R := Env.addFn (Ev20 N) 88 (fun R => fnK [(.sl (.pair (.int .u8) (.sl (.int .u8))))] [(.sl (.int .u8)), (.int .i64)] (fun c => opts_Lay N c.1))
theorem Ev21_ok (N : Nat) (R : Type) : EnvOK Go.Proofs.Try.prog (Ev21 N R) := EnvOK.addFn hmx (Ev20_ok N R) (Ev20_ok N _) (by kernel_rfl) (fun c => opts_Lay_S N c.1)
noncomputable def ctl_Conf (N : Nat) (code0 : Int) (id1 : Int) (l2 : List ((Int) × (List (Int)))) : Option (((Int) × ((Int) × (List (Int)))) × Int) :=
 Option.bind (@ctl_hasOptions N code0) fun (v4 : Bool) =>
 bif (!v4) then
  some ((((0 : Int), ((0 : Int), ([] : List (Int)))), (9 : Int)))
 else
  Option.bind (@opts_Lay N l2) fun (v5 : ((List Int) × Int)) =>
  bif (!(decide (v5.2 = (0 : Int)))) then
   some ((((0 : Int), ((0 : Int), ([] : List (Int)))), v5.2))
  else
   some (((code0, (id1, v5.1)), (0 : Int)))
theorem ctl_Conf_S (N : Nat) (code0 : Int) (id1 : Int) (l2 : List ((Int) × (List (Int)))) : (runK Go.Proofs.Try.prog (Ev21 N) 400 37 [(.int .u8), (.int .u8), (.sl (.pair (.int .u8) (.sl (.int .u8))))] [(.pair (.int .u8) (.pair (.int .u8) (.sl (.int .u8)))), (.int .i64)] (code0, id1, l2, ())).run = ctl_Conf N code0 id1 l2 := by kernel_rfl
theorem ctl_Conf_C (N : Nat) (code0 : Int) (id1 : Int) (l2 : List ((Int) × (List (Int)))) (y : ((Int) × ((Int) × (List (Int)))) × Int) (h : ctl_Conf N code0 id1 l2 = some y) : CallsK Go.Proofs.Try.prog 37 (valA [(.int .u8), (.int .u8), (.sl (.pair (.int .u8) (.sl (.int .u8))))] (code0, id1, l2, ())) (tupV (valR [(.pair (.int .u8) (.pair (.int .u8) (.sl (.int .u8)))), (.int .i64)] y)) := runK_ok hmx (Ev21_ok N _) (okFn_ok (by kernel_rfl)) (by rw [ctl_Conf_S]; exact h)
noncomputable def Ev22 (N : Nat) : (R : Type) → Env R := Env.addFn (Ev21 N) 37 (fun R => fnK [(.int .u8), (.int .u8), (.sl (.pair (.int .u8) (.sl (.int .u8))))] [(.pair (.int .u8) (.pair (.int .u8) (.sl (.int .u8)))), (.int .i64)] (fun c => ctl_Conf N c.1 c.2.1 c.2.2.1))
theorem Ev22_ok (N : Nat) (R : Type) : EnvOK Go.Proofs.Try.prog (Ev22 N R) := EnvOK.addFn hmx (Ev21_ok N R) (Ev21_ok N _) (by kernel_rfl) (fun c => ctl_Conf_S N c.1 c.2.1 c.2.2.1)
noncomputable def Ev23 (N : Nat) : (R : Type) → Env R := Env.addBx (Ev22 N) [(40, 0)]
theorem Ev23_ok (N : Nat) (R : Type) : EnvOK Go.Proofs.Try.prog (Ev23 N R) := EnvOK.addBx (Ev22_ok N R) [(40, 0)]
noncomputable def Ev24 (N : Nat) : (R : Type) → Env R := Env.addMv (Ev23 N) [(91, 8)]
theorem Ev24_ok (N : Nat) (R : Type) : EnvOK Go.Proofs.Try.prog (Ev24 N R) := EnvOK.addMv (Ev23_ok N R) [(91, 8)]
noncomputable def opts_first (N : Nat) (b0 : List (Int)) : Option ((Int) × Int) :=
 bif (decide ((((List.length b0) : Nat) : Int) < (2 : Int))) then
  some (((0 : Int), (4 : Int)))
 else
  Option.bind (getI b0 (1 : Int)) fun (v2 : Int) =>
  bif (decide ((Go.IntKind.wrap .i64 v2) < (2 : Int))) then
   some (((0 : Int), (3 : Int)))
  else
   bif (decide ((((List.length b0) : Nat) : Int) < (Go.IntKind.wrap .i64 v2))) then
    some (((0 : Int), (4 : Int)))
   else
    some (((Go.IntKind.wrap .i64 v2), (0 : Int)))
theorem opts_first_S (N : Nat) (b0 : List (Int)) : (runK Go.Proofs.Try.prog (Ev24 N) 400 116 [(.sl (.int .u8))] [(.int .i64), (.int .i64)] (b0, ())).run = opts_first N b0 := by kernel_rfl
noncomputable def Ev25 (N : Nat) : (R : Type) → Env R := Env.addFn (Ev24 N) 116 (fun R => fnK [(.sl (.int .u8))] [(.int .i64), (.int .i64)] (fun c => opts_first N c.1))
theorem Ev25_ok (N : Nat) (R : Type) : EnvOK Go.Proofs.Try.prog (Ev25 N R) := EnvOK.addFn hmx (Ev24_ok N R) (Ev24_ok N _) (by kernel_rfl) (fun c => opts_first_S N c.1)
noncomputable def opts_Parse_L2_I : LI := ⟨36, 0, [(4, 157)], ⟨[(0, .ty (.sl (.int .u8))), (4, .lit (.own 0))], [.own (.pair (.int .u8) (.sl (.int .u8))) 157]⟩, [(.ret, ⟨[(2, .ty (.sl (.pair (.int .u8) (.sl (.int .u8))))), (3, .ty (.int .i64))], []⟩), (.exit 0, ⟨[(4, .lit (.own 0))], [.own (.pair (.int .u8) (.sl (.int .u8))) 157]⟩)]⟩
noncomputable def opts_Parse_L2 (N : Nat) (X : (((List (Int)) × Unit) × ((List ((Int) × (List (Int)))) × Unit)) → Option (((((List ((Int) × (List (Int)))) × ((Int) × Unit)) × Unit) ⊕ (Unit × ((List ((Int) × (List (Int)))) × Unit))))) (b0 : List (Int)) (h0 : List ((Int) × (List (Int)))) : Option (((((List ((Int) × (List (Int)))) × ((Int) × Unit)) × Unit) ⊕ (Unit × ((List ((Int) × (List (Int)))) × Unit)))) :=
 bif (decide ((0 : Int) < (((List.length b0) : Nat) : Int))) then
  bif (decide ((((List.length h0) : Nat) : Int) = (32 : Int))) then
   some ((.inl ((([] : List ((Int × (List Int)))), ((5 : Int), @Unit.unit)), @Unit.unit)))
  else
   Option.bind (@opts_first N b0) fun (v4 : (Int × Int)) =>
   bif (!(decide (v4.2 = (0 : Int)))) then
    some ((.inl ((([] : List ((Int × (List Int)))), (v4.2, @Unit.unit)), @Unit.unit)))
   else
    Option.bind (getI b0 (0 : Int)) fun (v5 : Int) =>
    Option.bind (subI b0 (2 : Int) v4.1) fun (v6 : (List Int)) =>
    Option.bind (@slices_Clone_byte_byte N v6) fun (v7 : (List Int)) =>
    bif (roomB ((List.length h0) + (List.length ([(v5, v7)] : List ((Int × (List Int)))))) 32) then
     Option.bind (dropI b0 v4.1) fun (v8 : (List Int)) =>
     (X ((v8, @Unit.unit), ((h0 ++ ([(v5, v7)] : List ((Int × (List Int))))), @Unit.unit)))
    else
     none
 else
  some ((.inr (@Unit.unit, (h0, @Unit.unit))))
noncomputable def opts_Parse_L2_R (N : Nat) (c : (((List (Int)) × Unit) × ((List ((Int) × (List (Int)))) × Unit))) : Option (((((List ((Int) × (List (Int)))) × ((Int) × Unit)) × Unit) ⊕ (Unit × ((List ((Int) × (List (Int)))) × Unit)))) := gl (fun X c => opts_Parse_L2 N X c.1.1 c.2.1) N c
theorem opts_Parse_L2_S (N : Nat) (X : (((List (Int)) × Unit) × ((List ((Int) × (List (Int)))) × Unit)) → Option (((((List ((Int) × (List (Int)))) × ((Int) × Unit)) × Unit) ⊕ (Unit × ((List ((Int) × (List (Int)))) × Unit))))) (b0 : List (Int)) (h0 : List ((Int) × (List (Int)))) : (roundK Go.Proofs.Try.prog (Ev25 N) 400 [91] opts_Parse_L2_I (loopAt Go.Proofs.Try.prog [91] 2) X ((b0, ()), (h0, ()))).run = opts_Parse_L2 N X b0 h0 := by kernel_rfl
noncomputable def Ev26 (N : Nat) : (R : Type) → Env R := Env.addLp (Ev25 N) [91] 0 2 (fun R => lpK Go.Proofs.Try.prog opts_Parse_L2_I (fun X c => opts_Parse_L2 N X c.1.1 c.2.1) N)
theorem Ev26_ok (N : Nat) (R : Type) : EnvOK Go.Proofs.Try.prog (Ev26 N R) := EnvOK.addLp (Ev25_ok N R) (by kernel_rfl) (lpK_ok (li := opts_Parse_L2_I) (G := fun X c => opts_Parse_L2 N X c.1.1 c.2.1) hmx (Ev25_ok N _) (by kernel_rfl) loopAt_sub (fun (X : CT opts_Parse_L2_I.sh → Option (OT opts_Parse_L2_I.outs)) (c : CT opts_Parse_L2_I.sh) => opts_Parse_L2_S N X c.1.1 c.2.1) N)
noncomputable def opts_Parse (N : Nat) (b0 : List (Int)) : Option ((List ((Int) × (List (Int)))) × Int) :=
 Option.bind (opts_Parse_L2_R N ((b0, @Unit.unit), (([] : List ((Int × (List Int)))), @Unit.unit))) fun (v2 : ((((List (Int × (List Int))) × (Int × Unit)) × Unit) ⊕ (Unit × ((List (Int × (List Int))) × Unit)))) =>
 Sum.elim
  (fun (v3 : (((List (Int × (List Int))) × (Int × Unit)) × Unit)) =>
  some ((v3.1.1, v3.1.2.1)))
  (fun (v3 : (Unit × ((List (Int × (List Int))) × Unit))) =>
  some ((v3.2.1, (0 : Int)))) v2
theorem opts_Parse_S (N : Nat) (b0 : List (Int)) : (runK Go.Proofs.Try.prog (Ev26 N) 400 91 [(.sl (.int .u8))] [(.sl (.pair (.int .u8) (.sl (.int .u8)))), (.int .i64)] (b0, ())).run = opts_Parse N b0 := by kernel_rfl
noncomputable def Ev27 (N : Nat) : (R : Type) → Env R := Env.addFn (Ev26 N) 91 (fun R => fnK [(.sl (.int .u8))] [(.sl (.pair (.int .u8) (.sl (.int .u8)))), (.int .i64)] (fun c => opts_Parse N c.1))
theorem Ev27_ok (N : Nat) (R : Type) : EnvOK Go.Proofs.Try.prog (Ev27 N R) := EnvOK.addFn hmx (Ev26_ok N R) (Ev26_ok N _) (by kernel_rfl) (fun c => opts_Parse_S N c.1)
noncomputable def ctl_Options (N : Nat) (c0 : (Int) × ((Int) × (List (Int)))) : Option ((List ((Int) × (List (Int)))) × Int) :=
 Option.bind (@ctl_hasOptions N c0.1) fun (v2 : Bool) =>
 bif (!v2) then
  some ((([] : List ((Int × (List Int)))), (9 : Int)))
 else
  Option.bind (@opts_Parse N c0.2.2) fun (v3 : ((List (Int × (List Int))) × Int)) =>
  some ((v3.1, v3.2))
theorem ctl_Options_S (N : Nat) (c0 : (Int) × ((Int) × (List (Int)))) : (runK Go.Proofs.Try.prog (Ev27 N) 400 40 [(.pair (.int .u8) (.pair (.int .u8) (.sl (.int .u8))))] [(.sl (.pair (.int .u8) (.sl (.int .u8)))), (.int .i64)] (c0, ())).run = ctl_Options N c0 := by kernel_rfl
theorem ctl_Options_C (N : Nat) (c0 : (Int) × ((Int) × (List (Int)))) (y : (List ((Int) × (List (Int)))) × Int) (h : ctl_Options N c0 = some y) : CallsK Go.Proofs.Try.prog 40 (valA [(.pair (.int .u8) (.pair (.int .u8) (.sl (.int .u8))))] (c0, ())) (tupV (valR [(.sl (.pair (.int .u8) (.sl (.int .u8)))), (.int .i64)] y)) := runK_ok hmx (Ev27_ok N _) (okFn_ok (by kernel_rfl)) (by rw [ctl_Options_S]; exact h)
noncomputable def Ev28 (N : Nat) : (R : Type) → Env R := Env.addFn (Ev27 N) 40 (fun R => fnK [(.pair (.int .u8) (.pair (.int .u8) (.sl (.int .u8))))] [(.sl (.pair (.int .u8) (.sl (.int .u8)))), (.int .i64)] (fun c => ctl_Options N c.1))
theorem Ev28_ok (N : Nat) (R : Type) : EnvOK Go.Proofs.Try.prog (Ev28 N R) := EnvOK.addFn hmx (Ev27_ok N R) (Ev27_ok N _) (by kernel_rfl) (fun c => ctl_Options_S N c.1)
noncomputable def Ev29 (N : Nat) : (R : Type) → Env R := Env.addBx (Ev28 N) [(45, 0)]
theorem Ev29_ok (N : Nat) (R : Type) : EnvOK Go.Proofs.Try.prog (Ev29 N R) := EnvOK.addBx (Ev28_ok N R) [(45, 0)]
noncomputable def ctl_cut (N : Nat) (b0 : List (Int)) (most1 : Int) : Option (List (Int)) :=
 bif (decide (most1 ≤ (4 : Int))) then
  some (([] : List (Int)))
 else
  Option.bind (takeI b0 (@minI (((List.length b0) : Nat) : Int) (Go.IntKind.wrap .i64 (most1 - (4 : Int))))) fun (v3 : (List Int)) =>
  some (v3)
theorem ctl_cut_S (N : Nat) (b0 : List (Int)) (most1 : Int) : (runK Go.Proofs.Try.prog (Ev29 N) 400 95 [(.sl (.int .u8)), (.int .i64)] [(.sl (.int .u8))] (b0, most1, ())).run = ctl_cut N b0 most1 := by kernel_rfl
noncomputable def Ev30 (N : Nat) : (R : Type) → Env R := Env.addFn (Ev29 N) 95 (fun R => fnK [(.sl (.int .u8)), (.int .i64)] [(.sl (.int .u8))] (fun c => ctl_cut N c.1 c.2.1))
theorem Ev30_ok (N : Nat) (R : Type) : EnvOK Go.Proofs.Try.prog (Ev30 N R) := EnvOK.addFn hmx (Ev29_ok N R) (Ev29_ok N _) (by kernel_rfl) (fun c => ctl_cut_S N c.1 c.2.1)
noncomputable def ctl_Reject (N : Nat) (id0 : Int) (c1 : (Int) × ((Int) × (List (Int)))) (most2 : Int) : Option ((Int) × ((Int) × (List (Int)))) :=
 Option.bind (@ctl_Lay N (c1.1, (c1.2.1, c1.2.2))) fun (v4 : ((List Int) × Int)) =>
 Option.bind (@ctl_cut N v4.1 most2) fun (v5 : (List Int)) =>
 some (((7 : Int), (id0, v5)))
theorem ctl_Reject_S (N : Nat) (id0 : Int) (c1 : (Int) × ((Int) × (List (Int)))) (most2 : Int) : (runK Go.Proofs.Try.prog (Ev30 N) 400 45 [(.int .u8), (.pair (.int .u8) (.pair (.int .u8) (.sl (.int .u8)))), (.int .i64)] [(.pair (.int .u8) (.pair (.int .u8) (.sl (.int .u8))))] (id0, c1, most2, ())).run = ctl_Reject N id0 c1 most2 := by kernel_rfl
theorem ctl_Reject_C (N : Nat) (id0 : Int) (c1 : (Int) × ((Int) × (List (Int)))) (most2 : Int) (y : (Int) × ((Int) × (List (Int)))) (h : ctl_Reject N id0 c1 most2 = some y) : CallsK Go.Proofs.Try.prog 45 (valA [(.int .u8), (.pair (.int .u8) (.pair (.int .u8) (.sl (.int .u8)))), (.int .i64)] (id0, c1, most2, ())) (tupV (valR [(.pair (.int .u8) (.pair (.int .u8) (.sl (.int .u8))))] y)) := runK_ok hmx (Ev30_ok N _) (okFn_ok (by kernel_rfl)) (by rw [ctl_Reject_S]; exact h)
noncomputable def Ev31 (N : Nat) : (R : Type) → Env R := Env.addFn (Ev30 N) 45 (fun R => fnK [(.int .u8), (.pair (.int .u8) (.pair (.int .u8) (.sl (.int .u8)))), (.int .i64)] [(.pair (.int .u8) (.pair (.int .u8) (.sl (.int .u8))))] (fun c => ctl_Reject N c.1 c.2.1 c.2.2.1))
theorem Ev31_ok (N : Nat) (R : Type) : EnvOK Go.Proofs.Try.prog (Ev31 N R) := EnvOK.addFn hmx (Ev30_ok N R) (Ev30_ok N _) (by kernel_rfl) (fun c => ctl_Reject_S N c.1 c.2.1 c.2.2.1)
noncomputable def Ev32 (N : Nat) : (R : Type) → Env R := Env.addBx (Ev31 N) [(47, 0)]
theorem Ev32_ok (N : Nat) (R : Type) : EnvOK Go.Proofs.Try.prog (Ev32 N R) := EnvOK.addBx (Ev31_ok N R) [(47, 0)]
noncomputable def ctl_Proto (N : Nat) (id0 : Int) (f1 : (Int) × (List (Int))) (most2 : Int) : Option ((Int) × ((Int) × (List (Int)))) :=
 Option.bind (@octs_Put N (Go.IntKind.wrap .u64 f1.1) (2 : Int) @Bool.false) fun (v4 : ((List Int) × Int)) =>
 Option.bind (@octs_Join N ([v4.1, f1.2] : List ((List Int)))) fun (v5 : (List Int)) =>
 Option.bind (@ctl_cut N v5 most2) fun (v6 : (List Int)) =>
 some (((8 : Int), (id0, v6)))
theorem ctl_Proto_S (N : Nat) (id0 : Int) (f1 : (Int) × (List (Int))) (most2 : Int) : (runK Go.Proofs.Try.prog (Ev32 N) 400 47 [(.int .u8), (.pair (.int .u16) (.sl (.int .u8))), (.int .i64)] [(.pair (.int .u8) (.pair (.int .u8) (.sl (.int .u8))))] (id0, f1, most2, ())).run = ctl_Proto N id0 f1 most2 := by kernel_rfl
theorem ctl_Proto_C (N : Nat) (id0 : Int) (f1 : (Int) × (List (Int))) (most2 : Int) (y : (Int) × ((Int) × (List (Int)))) (h : ctl_Proto N id0 f1 most2 = some y) : CallsK Go.Proofs.Try.prog 47 (valA [(.int .u8), (.pair (.int .u16) (.sl (.int .u8))), (.int .i64)] (id0, f1, most2, ())) (tupV (valR [(.pair (.int .u8) (.pair (.int .u8) (.sl (.int .u8))))] y)) := runK_ok hmx (Ev32_ok N _) (okFn_ok (by kernel_rfl)) (by rw [ctl_Proto_S]; exact h)
noncomputable def Ev33 (N : Nat) : (R : Type) → Env R := Env.addFn (Ev32 N) 47 (fun R => fnK [(.int .u8), (.pair (.int .u16) (.sl (.int .u8))), (.int .i64)] [(.pair (.int .u8) (.pair (.int .u8) (.sl (.int .u8))))] (fun c => ctl_Proto N c.1 c.2.1 c.2.2.1))
theorem Ev33_ok (N : Nat) (R : Type) : EnvOK Go.Proofs.Try.prog (Ev33 N R) := EnvOK.addFn hmx (Ev32_ok N R) (Ev32_ok N _) (by kernel_rfl) (fun c => ctl_Proto_S N c.1 c.2.1 c.2.2.1)
noncomputable def Ev34 (N : Nat) : (R : Type) → Env R := Env.addBx (Ev33 N) [(43, 0)]
theorem Ev34_ok (N : Nat) (R : Type) : EnvOK Go.Proofs.Try.prog (Ev34 N R) := EnvOK.addBx (Ev33_ok N R) [(43, 0)]
noncomputable def ctl_Magic (N : Nat) (c0 : (Int) × ((Int) × (List (Int)))) : Option ((Int) × (List (Int)) × Int) :=
 bif (decide ((((List.length c0.2.2) : Nat) : Int) < (4 : Int))) then
  some (((0 : Int), (([] : List (Int)), (4 : Int))))
 else
  Option.bind (takeI c0.2.2 (4 : Int)) fun (v2 : (List Int)) =>
  Option.bind (@octs_Get N v2 @Bool.false) fun (v3 : (Int × Int)) =>
  Option.bind (dropI c0.2.2 (4 : Int)) fun (v4 : (List Int)) =>
  Option.bind (@slices_Clone_byte_byte N v4) fun (v5 : (List Int)) =>
  some (((Go.IntKind.wrap .u32 v3.1), (v5, (0 : Int))))
theorem ctl_Magic_S (N : Nat) (c0 : (Int) × ((Int) × (List (Int)))) : (runK Go.Proofs.Try.prog (Ev34 N) 400 43 [(.pair (.int .u8) (.pair (.int .u8) (.sl (.int .u8))))] [(.int .u32), (.sl (.int .u8)), (.int .i64)] (c0, ())).run = ctl_Magic N c0 := by kernel_rfl
theorem ctl_Magic_C (N : Nat) (c0 : (Int) × ((Int) × (List (Int)))) (y : (Int) × (List (Int)) × Int) (h : ctl_Magic N c0 = some y) : CallsK Go.Proofs.Try.prog 43 (valA [(.pair (.int .u8) (.pair (.int .u8) (.sl (.int .u8))))] (c0, ())) (tupV (valR [(.int .u32), (.sl (.int .u8)), (.int .i64)] y)) := runK_ok hmx (Ev34_ok N _) (okFn_ok (by kernel_rfl)) (by rw [ctl_Magic_S]; exact h)
noncomputable def Ev35 (N : Nat) : (R : Type) → Env R := Env.addFn (Ev34 N) 43 (fun R => fnK [(.pair (.int .u8) (.pair (.int .u8) (.sl (.int .u8))))] [(.int .u32), (.sl (.int .u8)), (.int .i64)] (fun c => ctl_Magic N c.1))
theorem Ev35_ok (N : Nat) (R : Type) : EnvOK Go.Proofs.Try.prog (Ev35 N R) := EnvOK.addFn hmx (Ev34_ok N R) (Ev34_ok N _) (by kernel_rfl) (fun c => ctl_Magic_S N c.1)
noncomputable def ctl_Echo (N : Nat) (code0 : Int) (id1 : Int) (magic2 : Int) (data3 : List (Int)) : Option ((Int) × ((Int) × (List (Int)))) :=
 Option.bind (@octs_Put N (Go.IntKind.wrap .u64 magic2) (4 : Int) @Bool.false) fun (v5 : ((List Int) × Int)) =>
 Option.bind (@octs_Join N ([v5.1, data3] : List ((List Int)))) fun (v6 : (List Int)) =>
 some ((code0, (id1, v6)))
theorem ctl_Echo_S (N : Nat) (code0 : Int) (id1 : Int) (magic2 : Int) (data3 : List (Int)) : (runK Go.Proofs.Try.prog (Ev35 N) 400 49 [(.int .u8), (.int .u8), (.int .u32), (.sl (.int .u8))] [(.pair (.int .u8) (.pair (.int .u8) (.sl (.int .u8))))] (code0, id1, magic2, data3, ())).run = ctl_Echo N code0 id1 magic2 data3 := by kernel_rfl
theorem ctl_Echo_C (N : Nat) (code0 : Int) (id1 : Int) (magic2 : Int) (data3 : List (Int)) (y : (Int) × ((Int) × (List (Int)))) (h : ctl_Echo N code0 id1 magic2 data3 = some y) : CallsK Go.Proofs.Try.prog 49 (valA [(.int .u8), (.int .u8), (.int .u32), (.sl (.int .u8))] (code0, id1, magic2, data3, ())) (tupV (valR [(.pair (.int .u8) (.pair (.int .u8) (.sl (.int .u8))))] y)) := runK_ok hmx (Ev35_ok N _) (okFn_ok (by kernel_rfl)) (by rw [ctl_Echo_S]; exact h)
noncomputable def Ev36 (N : Nat) : (R : Type) → Env R := Env.addFn (Ev35 N) 49 (fun R => fnK [(.int .u8), (.int .u8), (.int .u32), (.sl (.int .u8))] [(.pair (.int .u8) (.pair (.int .u8) (.sl (.int .u8))))] (fun c => ctl_Echo N c.1 c.2.1 c.2.2.1 c.2.2.2.1))
theorem Ev36_ok (N : Nat) (R : Type) : EnvOK Go.Proofs.Try.prog (Ev36 N R) := EnvOK.addFn hmx (Ev35_ok N R) (Ev35_ok N _) (by kernel_rfl) (fun c => ctl_Echo_S N c.1 c.2.1 c.2.2.1 c.2.2.2.1)
noncomputable def Ev37 (N : Nat) : (R : Type) → Env R := Env.addBx (Ev36 N) [(32, 0)]
theorem Ev37_ok (N : Nat) (R : Type) : EnvOK Go.Proofs.Try.prog (Ev37 N R) := EnvOK.addBx (Ev36_ok N R) [(32, 0)]
noncomputable def ref22_Lay_3_ref01_Big_L3_I : LI := ⟨24, 0, [], ⟨[(0, .ty (.int .u64)), (5, .lit (.own 0)), (6, .ty (.int .i64))], [.own (.int .u8) 5]⟩, [(.exit 0, ⟨[(5, .lit (.own 0))], [.own (.int .u8) 5]⟩)]⟩
noncomputable def ref22_Lay_3_ref01_Big_L3 (N : Nat) (X : (((Int) × ((Int) × Unit)) × ((List (Int)) × Unit)) → Option ((Unit × ((List (Int)) × Unit)))) (n0 : Int) (i6 : Int) (h0 : List (Int)) : Option ((Unit × ((List (Int)) × Unit))) :=
 bif (decide ((0 : Int) ≤ i6)) then
  bif (decide ((0 : Int) ≤ i6 ∧ i6 < (((List.length h0) : Nat) : Int))) then
   Option.bind (@GetElem?.getElem? (List Int) Nat Int (fun (as5 : (List Int)) => (fun (i6 : Nat) => (@LT.lt Nat @instLTNat i6 (List.length as5)))) (@List.instGetElem?NatLtLength Int) h0 (Int.toNat i6)) fun (v5 : Int) =>
   (X (((Go.IntKind.wrap .u64 (@Int.tdiv n0 (256 : Int))), ((Go.IntKind.wrap .i64 (i6 - (1 : Int))), @Unit.unit)), ((@List.set Int h0 (Int.toNat i6) (Go.IntKind.wrap .u8 (@Int.tmod n0 (256 : Int)))), @Unit.unit)))
  else
   none
 else
  some ((@Unit.unit, (h0, @Unit.unit)))
noncomputable def ref22_Lay_3_ref01_Big_L3_R (N : Nat) (c : (((Int) × ((Int) × Unit)) × ((List (Int)) × Unit))) : Option ((Unit × ((List (Int)) × Unit))) := gl (fun X c => ref22_Lay_3_ref01_Big_L3 N X c.1.1 c.1.2.1 c.2.1) N c
theorem ref22_Lay_3_ref01_Big_L3_S (N : Nat) (X : (((Int) × ((Int) × Unit)) × ((List (Int)) × Unit)) → Option ((Unit × ((List (Int)) × Unit)))) (n0 : Int) (i6 : Int) (h0 : List (Int)) : (roundK Go.Proofs.Try.prog (Ev37 N) 400 [72, 3, 32] ref22_Lay_3_ref01_Big_L3_I (loopAt Go.Proofs.Try.prog [72, 3, 32] 3) X ((n0, i6, ()), (h0, ()))).run = ref22_Lay_3_ref01_Big_L3 N X n0 i6 h0 := by kernel_rfl
noncomputable def Ev38 (N : Nat) : (R : Type) → Env R := Env.addLp (Ev37 N) [72, 3, 32] 0 3 (fun R => lpK Go.Proofs.Try.prog ref22_Lay_3_ref01_Big_L3_I (fun X c => ref22_Lay_3_ref01_Big_L3 N X c.1.1 c.1.2.1 c.2.1) N)
theorem Ev38_ok (N : Nat) (R : Type) : EnvOK Go.Proofs.Try.prog (Ev38 N R) := EnvOK.addLp (Ev37_ok N R) (by kernel_rfl) (lpK_ok (li := ref22_Lay_3_ref01_Big_L3_I) (G := fun X c => ref22_Lay_3_ref01_Big_L3 N X c.1.1 c.1.2.1 c.2.1) hmx (Ev37_ok N _) (by kernel_rfl) loopAt_sub (fun (X : CT ref22_Lay_3_ref01_Big_L3_I.sh → Option (OT ref22_Lay_3_ref01_Big_L3_I.outs)) (c : CT ref22_Lay_3_ref01_Big_L3_I.sh) => ref22_Lay_3_ref01_Big_L3_S N X c.1.1 c.1.2.1 c.2.1) N)
noncomputable def ref22_Lay (N : Nat) (c0 : (Int) × ((Int) × (List (Int)))) : Option ((List (Int)) × Int) :=
 bif (decide ((4000 : Int) < (((List.length c0.2.2) : Nat) : Int))) then
  some ((([] : List (Int)), (8 : Int)))
 else
  Option.bind (ref22_Lay_3_ref01_Big_L3_R N (((Go.IntKind.wrap .u64 (Go.IntKind.wrap .i64 ((4 : Int) + (((List.length c0.2.2) : Nat) : Int)))), ((Go.IntKind.wrap .i64 ((2 : Int) - (1 : Int))), @Unit.unit)), ((@List.replicate Int (Int.toNat (2 : Int)) (0 : Int)), @Unit.unit))) fun (v2 : (Unit × ((List Int) × Unit))) =>
  bif ((roomB ((List.length ([c0.1, c0.2.1] : List (Int))) + (List.length v2.2.1)) 1) && (!(@List.isEmpty Int v2.2.1))) then
   bif (roomB ((List.length (([c0.1, c0.2.1] : List (Int)) ++ v2.2.1)) + (List.length c0.2.2)) 1) then
    some ((((([c0.1, c0.2.1] : List (Int)) ++ v2.2.1) ++ c0.2.2), (0 : Int)))
   else
    none
  else
   none
theorem ref22_Lay_S (N : Nat) (c0 : (Int) × ((Int) × (List (Int)))) : (runK Go.Proofs.Try.prog (Ev38 N) 400 32 [(.pair (.int .u8) (.pair (.int .u8) (.sl (.int .u8))))] [(.sl (.int .u8)), (.int .i64)] (c0, ())).run = ref22_Lay N c0 := by kernel_rfl
theorem ref22_Lay_C (N : Nat) (c0 : (Int) × ((Int) × (List (Int)))) (y : (List (Int)) × Int) (h : ref22_Lay N c0 = some y) : CallsK Go.Proofs.Try.prog 32 (valA [(.pair (.int .u8) (.pair (.int .u8) (.sl (.int .u8))))] (c0, ())) (tupV (valR [(.sl (.int .u8)), (.int .i64)] y)) := runK_ok hmx (Ev38_ok N _) (okFn_ok (by kernel_rfl)) (by rw [ref22_Lay_S]; exact h)
noncomputable def Ev39 (N : Nat) : (R : Type) → Env R := Env.addFn (Ev38 N) 32 (fun R => fnK [(.pair (.int .u8) (.pair (.int .u8) (.sl (.int .u8))))] [(.sl (.int .u8)), (.int .i64)] (fun c => ref22_Lay N c.1))
theorem Ev39_ok (N : Nat) (R : Type) : EnvOK Go.Proofs.Try.prog (Ev39 N R) := EnvOK.addFn hmx (Ev38_ok N R) (Ev38_ok N _) (by kernel_rfl) (fun c => ref22_Lay_S N c.1)
noncomputable def ref01_Num_L3_I : LI := ⟨20, 0, [], ⟨[(0, .ty (.sl (.int .u8))), (3, .ty (.int .u64)), (4, .ty (.int .i64))], []⟩, [(.exit 0, ⟨[(3, .ty (.int .u64))], []⟩)]⟩
noncomputable def ref01_Num_L3 (N : Nat) (X : (((List (Int)) × ((Int) × ((Int) × Unit))) × Unit) → Option ((((Int) × Unit) × Unit))) (b0 : List (Int)) (n3 : Int) (i4 : Int) : Option ((((Int) × Unit) × Unit)) :=
 bif (decide (i4 < (((List.length b0) : Nat) : Int))) then
  Option.bind (getI b0 i4) fun (v5 : Int) =>
  (X ((b0, ((Go.IntKind.wrap .u64 ((Go.IntKind.wrap .u64 (n3 * (256 : Int))) + (Go.IntKind.wrap .u64 v5))), ((Go.IntKind.wrap .i64 (i4 + (1 : Int))), @Unit.unit))), @Unit.unit))
 else
  some (((n3, @Unit.unit), @Unit.unit))
noncomputable def ref01_Num_L3_R (N : Nat) (c : (((List (Int)) × ((Int) × ((Int) × Unit))) × Unit)) : Option ((((Int) × Unit) × Unit)) := gl (fun X c => ref01_Num_L3 N X c.1.1 c.1.2.1 c.1.2.2.1) N c
theorem ref01_Num_L3_S (N : Nat) (X : (((List (Int)) × ((Int) × ((Int) × Unit))) × Unit) → Option ((((Int) × Unit) × Unit))) (b0 : List (Int)) (n3 : Int) (i4 : Int) : (roundK Go.Proofs.Try.prog (Ev39 N) 400 [80] ref01_Num_L3_I (loopAt Go.Proofs.Try.prog [80] 3) X ((b0, n3, i4, ()), ())).run = ref01_Num_L3 N X b0 n3 i4 := by kernel_rfl
noncomputable def Ev40 (N : Nat) : (R : Type) → Env R := Env.addLp (Ev39 N) [80] 0 3 (fun R => lpK Go.Proofs.Try.prog ref01_Num_L3_I (fun X c => ref01_Num_L3 N X c.1.1 c.1.2.1 c.1.2.2.1) N)
theorem Ev40_ok (N : Nat) (R : Type) : EnvOK Go.Proofs.Try.prog (Ev40 N R) := EnvOK.addLp (Ev39_ok N R) (by kernel_rfl) (lpK_ok (li := ref01_Num_L3_I) (G := fun X c => ref01_Num_L3 N X c.1.1 c.1.2.1 c.1.2.2.1) hmx (Ev39_ok N _) (by kernel_rfl) loopAt_sub (fun (X : CT ref01_Num_L3_I.sh → Option (OT ref01_Num_L3_I.outs)) (c : CT ref01_Num_L3_I.sh) => ref01_Num_L3_S N X c.1.1 c.1.2.1 c.1.2.2.1) N)
noncomputable def ref01_Num (N : Nat) (b0 : List (Int)) : Option (Int) :=
 Option.bind (ref01_Num_L3_R N ((b0, ((0 : Int), ((0 : Int), @Unit.unit))), @Unit.unit)) fun (v2 : ((Int × Unit) × Unit)) =>
 some (v2.1.1)
theorem ref01_Num_S (N : Nat) (b0 : List (Int)) : (runK Go.Proofs.Try.prog (Ev40 N) 400 80 [(.sl (.int .u8))] [(.int .u64)] (b0, ())).run = ref01_Num N b0 := by kernel_rfl
noncomputable def Ev41 (N : Nat) : (R : Type) → Env R := Env.addFn (Ev40 N) 80 (fun R => fnK [(.sl (.int .u8))] [(.int .u64)] (fun c => ref01_Num N c.1))
theorem Ev41_ok (N : Nat) (R : Type) : EnvOK Go.Proofs.Try.prog (Ev41 N R) := EnvOK.addFn hmx (Ev40_ok N R) (Ev40_ok N _) (by kernel_rfl) (fun c => ref01_Num_S N c.1)
noncomputable def ref22_Parse (N : Nat) (b0 : List (Int)) : Option (((Int) × ((Int) × (List (Int)))) × Int) :=
 bif (decide ((((List.length b0) : Nat) : Int) < (4 : Int))) then
  some ((((0 : Int), ((0 : Int), ([] : List (Int)))), (4 : Int)))
 else
  Option.bind (subI b0 (2 : Int) (4 : Int)) fun (v2 : (List Int)) =>
  Option.bind (@ref01_Num N v2) fun (v3 : Int) =>
  bif (decide ((Go.IntKind.wrap .i64 v3) < (4 : Int))) then
   some ((((0 : Int), ((0 : Int), ([] : List (Int)))), (3 : Int)))
  else
   bif (decide ((((List.length b0) : Nat) : Int) < (Go.IntKind.wrap .i64 v3))) then
    some ((((0 : Int), ((0 : Int), ([] : List (Int)))), (4 : Int)))
   else
    bif (decide ((4000 : Int) < (Go.IntKind.wrap .i64 ((Go.IntKind.wrap .i64 v3) - (4 : Int))))) then
     some ((((0 : Int), ((0 : Int), ([] : List (Int)))), (8 : Int)))
    else
     Option.bind (getI b0 (0 : Int)) fun (v4 : Int) =>
     Option.bind (getI b0 (1 : Int)) fun (v5 : Int) =>
     Option.bind (subI b0 (4 : Int) (Go.IntKind.wrap .i64 v3)) fun (v6 : (List Int)) =>
     some (((v4, (v5, v6)), (0 : Int)))
theorem ref22_Parse_S (N : Nat) (b0 : List (Int)) : (runK Go.Proofs.Try.prog (Ev41 N) 400 34 [(.sl (.int .u8))] [(.pair (.int .u8) (.pair (.int .u8) (.sl (.int .u8)))), (.int .i64)] (b0, ())).run = ref22_Parse N b0 := by kernel_rfl
theorem ref22_Parse_C (N : Nat) (b0 : List (Int)) (y : ((Int) × ((Int) × (List (Int)))) × Int) (h : ref22_Parse N b0 = some y) : CallsK Go.Proofs.Try.prog 34 (valA [(.sl (.int .u8))] (b0, ())) (tupV (valR [(.pair (.int .u8) (.pair (.int .u8) (.sl (.int .u8)))), (.int .i64)] y)) := runK_ok hmx (Ev41_ok N _) (okFn_ok (by kernel_rfl)) (by rw [ref22_Parse_S]; exact h)
noncomputable def Ev42 (N : Nat) : (R : Type) → Env R := Env.addFn (Ev41 N) 34 (fun R => fnK [(.sl (.int .u8))] [(.pair (.int .u8) (.pair (.int .u8) (.sl (.int .u8)))), (.int .i64)] (fun c => ref22_Parse N c.1))
theorem Ev42_ok (N : Nat) (R : Type) : EnvOK Go.Proofs.Try.prog (Ev42 N R) := EnvOK.addFn hmx (Ev41_ok N R) (Ev41_ok N _) (by kernel_rfl) (fun c => ref22_Parse_S N c.1)
noncomputable def Ev43 (N : Nat) : (R : Type) → Env R := Env.addBx (Ev42 N) [(36, 0)]
theorem Ev43_ok (N : Nat) (R : Type) : EnvOK Go.Proofs.Try.prog (Ev43 N R) := EnvOK.addBx (Ev42_ok N R) [(36, 0)]
noncomputable def ref01_Same_L4_I : LI := ⟨26, 0, [], ⟨[(0, .ty (.sl (.int .u8))), (1, .ty (.sl (.int .u8))), (5, .ty (.int .i64))], []⟩, [(.ret, ⟨[(4, .ty .bool)], []⟩), (.exit 0, ⟨[], []⟩)]⟩
noncomputable def ref01_Same_L4 (N : Nat) (X : (((List (Int)) × ((List (Int)) × ((Int) × Unit))) × Unit) → Option (((((Bool) × Unit) × Unit) ⊕ (Unit × Unit)))) (a0 : List (Int)) (b1 : List (Int)) (i5 : Int) : Option (((((Bool) × Unit) × Unit) ⊕ (Unit × Unit))) :=
 bif (decide (i5 < (((List.length a0) : Nat) : Int))) then
  Option.bind (getI a0 i5) fun (v5 : Int) =>
  Option.bind (getI b1 i5) fun (v6 : Int) =>
  bif (!(decide (v5 = v6))) then
   some ((.inl ((@Bool.false, @Unit.unit), @Unit.unit)))
  else
   (X ((a0, (b1, ((Go.IntKind.wrap .i64 (i5 + (1 : Int))), @Unit.unit))), @Unit.unit))
 else
  some ((.inr (@Unit.unit, @Unit.unit)))
noncomputable def ref01_Same_L4_R (N : Nat) (c : (((List (Int)) × ((List (Int)) × ((Int) × Unit))) × Unit)) : Option (((((Bool) × Unit) × Unit) ⊕ (Unit × Unit))) := gl (fun X c => ref01_Same_L4 N X c.1.1 c.1.2.1 c.1.2.2.1) N c
theorem ref01_Same_L4_S (N : Nat) (X : (((List (Int)) × ((List (Int)) × ((Int) × Unit))) × Unit) → Option (((((Bool) × Unit) × Unit) ⊕ (Unit × Unit)))) (a0 : List (Int)) (b1 : List (Int)) (i5 : Int) : (roundK Go.Proofs.Try.prog (Ev43 N) 400 [18] ref01_Same_L4_I (loopAt Go.Proofs.Try.prog [18] 4) X ((a0, b1, i5, ()), ())).run = ref01_Same_L4 N X a0 b1 i5 := by kernel_rfl
noncomputable def Ev44 (N : Nat) : (R : Type) → Env R := Env.addLp (Ev43 N) [18] 0 4 (fun R => lpK Go.Proofs.Try.prog ref01_Same_L4_I (fun X c => ref01_Same_L4 N X c.1.1 c.1.2.1 c.1.2.2.1) N)
theorem Ev44_ok (N : Nat) (R : Type) : EnvOK Go.Proofs.Try.prog (Ev44 N R) := EnvOK.addLp (Ev43_ok N R) (by kernel_rfl) (lpK_ok (li := ref01_Same_L4_I) (G := fun X c => ref01_Same_L4 N X c.1.1 c.1.2.1 c.1.2.2.1) hmx (Ev43_ok N _) (by kernel_rfl) loopAt_sub (fun (X : CT ref01_Same_L4_I.sh → Option (OT ref01_Same_L4_I.outs)) (c : CT ref01_Same_L4_I.sh) => ref01_Same_L4_S N X c.1.1 c.1.2.1 c.1.2.2.1) N)
noncomputable def ref01_Same (N : Nat) (a0 : List (Int)) (b1 : List (Int)) : Option (Bool) :=
 bif (!(decide ((((List.length a0) : Nat) : Int) = (((List.length b1) : Nat) : Int)))) then
  some (@Bool.false)
 else
  Option.bind (ref01_Same_L4_R N ((a0, (b1, ((0 : Int), @Unit.unit))), @Unit.unit)) fun (v3 : (((Bool × Unit) × Unit) ⊕ (Unit × Unit))) =>
  Sum.elim
   (fun (v4 : ((Bool × Unit) × Unit)) =>
   some (v4.1.1))
   (fun (v4 : (Unit × Unit)) =>
   some (@Bool.true)) v3
theorem ref01_Same_S (N : Nat) (a0 : List (Int)) (b1 : List (Int)) : (runK Go.Proofs.Try.prog (Ev44 N) 400 18 [(.sl (.int .u8)), (.sl (.int .u8))] [.bool] (a0, b1, ())).run = ref01_Same N a0 b1 := by kernel_rfl
noncomputable def Ev45 (N : Nat) : (R : Type) → Env R := Env.addFn (Ev44 N) 18 (fun R => fnK [(.sl (.int .u8)), (.sl (.int .u8))] [.bool] (fun c => ref01_Same N c.1 c.2.1))
theorem Ev45_ok (N : Nat) (R : Type) : EnvOK Go.Proofs.Try.prog (Ev45 N R) := EnvOK.addFn hmx (Ev44_ok N R) (Ev44_ok N _) (by kernel_rfl) (fun c => ref01_Same_S N c.1 c.2.1)
noncomputable def ref22_Same (N : Nat) (a0 : (Int) × ((Int) × (List (Int)))) (b1 : (Int) × ((Int) × (List (Int)))) : Option (Bool) :=
 bif (decide (a0.1 = b1.1)) then
  bif (@cond Bool @Bool.true (decide (a0.2.1 = b1.2.1)) @Bool.false) then
   Option.bind (@ref01_Same N a0.2.2 b1.2.2) fun (v3 : Bool) =>
   some ((@cond Bool @Bool.true v3 @Bool.false))
  else
   some (@Bool.false)
 else
  some (@Bool.false)
theorem ref22_Same_S (N : Nat) (a0 : (Int) × ((Int) × (List (Int)))) (b1 : (Int) × ((Int) × (List (Int)))) : (runK Go.Proofs.Try.prog (Ev45 N) 400 36 [(.pair (.int .u8) (.pair (.int .u8) (.sl (.int .u8)))), (.pair (.int .u8) (.pair (.int .u8) (.sl (.int .u8))))] [.bool] (a0, b1, ())).run = ref22_Same N a0 b1 := by kernel_rfl
theorem ref22_Same_C (N : Nat) (a0 : (Int) × ((Int) × (List (Int)))) (b1 : (Int) × ((Int) × (List (Int)))) (y : Bool) (h : ref22_Same N a0 b1 = some y) : CallsK Go.Proofs.Try.prog 36 (valA [(.pair (.int .u8) (.pair (.int .u8) (.sl (.int .u8)))), (.pair (.int .u8) (.pair (.int .u8) (.sl (.int .u8))))] (a0, b1, ())) (tupV (valR [.bool] y)) := runK_ok hmx (Ev45_ok N _) (okFn_ok (by kernel_rfl)) (by rw [ref22_Same_S]; exact h)
noncomputable def Ev46 (N : Nat) : (R : Type) → Env R := Env.addFn (Ev45 N) 36 (fun R => fnK [(.pair (.int .u8) (.pair (.int .u8) (.sl (.int .u8)))), (.pair (.int .u8) (.pair (.int .u8) (.sl (.int .u8))))] [.bool] (fun c => ref22_Same N c.1 c.2.1))
theorem Ev46_ok (N : Nat) (R : Type) : EnvOK Go.Proofs.Try.prog (Ev46 N R) := EnvOK.addFn hmx (Ev45_ok N R) (Ev45_ok N _) (by kernel_rfl) (fun c => ref22_Same_S N c.1 c.2.1)
noncomputable def ref22_conf (N : Nat) (code0 : Int) : Option (Bool) :=
 bif (decide ((1 : Int) ≤ code0)) then
  some ((@cond Bool @Bool.true (decide (code0 ≤ (4 : Int))) @Bool.false))
 else
  some (@Bool.false)
theorem ref22_conf_S (N : Nat) (code0 : Int) : (runK Go.Proofs.Try.prog (Ev46 N) 400 89 [(.int .u8)] [.bool] (code0, ())).run = ref22_conf N code0 := by kernel_rfl
noncomputable def Ev47 (N : Nat) : (R : Type) → Env R := Env.addFn (Ev46 N) 89 (fun R => fnK [(.int .u8)] [.bool] (fun c => ref22_conf N c.1))
theorem Ev47_ok (N : Nat) (R : Type) : EnvOK Go.Proofs.Try.prog (Ev47 N R) := EnvOK.addFn hmx (Ev46_ok N R) (Ev46_ok N _) (by kernel_rfl) (fun c => ref22_conf_S N c.1)
noncomputable def Ev48 (N : Nat) : (R : Type) → Env R := Env.addMv (Ev47 N) [(90, 9)]
theorem Ev48_ok (N : Nat) (R : Type) : EnvOK Go.Proofs.Try.prog (Ev48 N R) := EnvOK.addMv (Ev47_ok N R) [(90, 9)]
noncomputable def ref21_Lay_L5_I : LI := ⟨45, 0, [(4, 5)], ⟨[(0, .ty (.sl (.pair (.int .u8) (.sl (.int .u8))))), (4, .lit (.own 0)), (5, .ty (.int .i64))], [.own (.int .u8) 5]⟩, [(.ret, ⟨[(2, .ty (.sl (.int .u8))), (3, .ty (.int .i64))], []⟩), (.exit 0, ⟨[(4, .lit (.own 0))], [.own (.int .u8) 5]⟩)]⟩
noncomputable def ref21_Lay_L5 (N : Nat) (X : (((List ((Int) × (List (Int)))) × ((Int) × Unit)) × ((List (Int)) × Unit)) → Option (((((List (Int)) × ((Int) × Unit)) × Unit) ⊕ (Unit × ((List (Int)) × Unit))))) (l0 : List ((Int) × (List (Int)))) (i5 : Int) (h0 : List (Int)) : Option (((((List (Int)) × ((Int) × Unit)) × Unit) ⊕ (Unit × ((List (Int)) × Unit)))) :=
 bif (decide (i5 < (((List.length l0) : Nat) : Int))) then
  Option.bind (getI l0 i5) fun (v5 : (Int × (List Int))) =>
  bif (decide ((253 : Int) < (((List.length v5.2) : Nat) : Int))) then
   some ((.inl ((([] : List (Int)), ((8 : Int), @Unit.unit)), @Unit.unit)))
  else
   Option.bind (getI l0 i5) fun (v6 : (Int × (List Int))) =>
   Option.bind (getI l0 i5) fun (v7 : (Int × (List Int))) =>
   Option.bind (getI l0 i5) fun (v8 : (Int × (List Int))) =>
   bif (roomB ((List.length h0) + (List.length ([v6.1, (Go.IntKind.wrap .u8 (Go.IntKind.wrap .i64 ((2 : Int) + (((List.length v7.2) : Nat) : Int))))] : List (Int)))) 1) then
    bif (roomB ((List.length (h0 ++ ([v6.1, (Go.IntKind.wrap .u8 (Go.IntKind.wrap .i64 ((2 : Int) + (((List.length v7.2) : Nat) : Int))))] : List (Int)))) + (List.length v8.2)) 1) then
     (X ((l0, ((Go.IntKind.wrap .i64 (i5 + (1 : Int))), @Unit.unit)), (((h0 ++ ([v6.1, (Go.IntKind.wrap .u8 (Go.IntKind.wrap .i64 ((2 : Int) + (((List.length v7.2) : Nat) : Int))))] : List (Int))) ++ v8.2), @Unit.unit)))
    else
     none
   else
    none
 else
  some ((.inr (@Unit.unit, (h0, @Unit.unit))))
noncomputable def ref21_Lay_L5_R (N : Nat) (c : (((List ((Int) × (List (Int)))) × ((Int) × Unit)) × ((List (Int)) × Unit))) : Option (((((List (Int)) × ((Int) × Unit)) × Unit) ⊕ (Unit × ((List (Int)) × Unit)))) := gl (fun X c => ref21_Lay_L5 N X c.1.1 c.1.2.1 c.2.1) N c
theorem ref21_Lay_L5_S (N : Nat) (X : (((List ((Int) × (List (Int)))) × ((Int) × Unit)) × ((List (Int)) × Unit)) → Option (((((List (Int)) × ((Int) × Unit)) × Unit) ⊕ (Unit × ((List (Int)) × Unit))))) (l0 : List ((Int) × (List (Int)))) (i5 : Int) (h0 : List (Int)) : (roundK Go.Proofs.Try.prog (Ev48 N) 400 [90] ref21_Lay_L5_I (loopAt Go.Proofs.Try.prog [90] 5) X ((l0, i5, ()), (h0, ()))).run = ref21_Lay_L5 N X l0 i5 h0 := by kernel_rfl
noncomputable def Ev49 (N : Nat) : (R : Type) → Env R := Env.addLp (Ev48 N) [90] 0 5 (fun R => lpK Go.Proofs.Try.prog ref21_Lay_L5_I (fun X c => ref21_Lay_L5 N X c.1.1 c.1.2.1 c.2.1) N)
theorem Ev49_ok (N : Nat) (R : Type) : EnvOK Go.Proofs.Try.prog (Ev49 N R) := EnvOK.addLp (Ev48_ok N R) (by kernel_rfl) (lpK_ok (li := ref21_Lay_L5_I) (G := fun X c => ref21_Lay_L5 N X c.1.1 c.1.2.1 c.2.1) hmx (Ev48_ok N _) (by kernel_rfl) loopAt_sub (fun (X : CT ref21_Lay_L5_I.sh → Option (OT ref21_Lay_L5_I.outs)) (c : CT ref21_Lay_L5_I.sh) => ref21_Lay_L5_S N X c.1.1 c.1.2.1 c.2.1) N)
noncomputable def ref21_Lay (N : Nat) (l0 : List ((Int) × (List (Int)))) : Option ((List (Int)) × Int) :=
 bif (decide ((32 : Int) < (((List.length l0) : Nat) : Int))) then
  some ((([] : List (Int)), (5 : Int)))
 else
  Option.bind (ref21_Lay_L5_R N ((l0, ((0 : Int), @Unit.unit)), (([] : List (Int)), @Unit.unit))) fun (v2 : ((((List Int) × (Int × Unit)) × Unit) ⊕ (Unit × ((List Int) × Unit)))) =>
  Sum.elim
   (fun (v3 : (((List Int) × (Int × Unit)) × Unit)) =>
   some ((v3.1.1, v3.1.2.1)))
   (fun (v3 : (Unit × ((List Int) × Unit))) =>
   some ((v3.2.1, (0 : Int)))) v2
theorem ref21_Lay_S (N : Nat) (l0 : List ((Int) × (List (Int)))) : (runK Go.Proofs.Try.prog (Ev49 N) 400 90 [(.sl (.pair (.int .u8) (.sl (.int .u8))))] [(.sl (.int .u8)), (.int .i64)] (l0, ())).run = ref21_Lay N l0 := by kernel_rfl
noncomputable def Ev50 (N : Nat) : (R : Type) → Env R := Env.addFn (Ev49 N) 90 (fun R => fnK [(.sl (.pair (.int .u8) (.sl (.int .u8))))] [(.sl (.int .u8)), (.int .i64)] (fun c => ref21_Lay N c.1))
theorem Ev50_ok (N : Nat) (R : Type) : EnvOK Go.Proofs.Try.prog (Ev50 N R) := EnvOK.addFn hmx (Ev49_ok N R) (Ev49_ok N _) (by kernel_rfl) (fun c => ref21_Lay_S N c.1)
noncomputable def ref22_Conf (N : Nat) (code0 : Int) (id1 : Int) (l2 : List ((Int) × (List (Int)))) : Option (((Int) × ((Int) × (List (Int)))) × Int) :=
 Option.bind (@ref22_conf N code0) fun (v4 : Bool) =>
 bif (!v4) then
  some ((((0 : Int), ((0 : Int), ([] : List (Int)))), (9 : Int)))
 else
  Option.bind (@ref21_Lay N l2) fun (v5 : ((List Int) × Int)) =>
  bif (!(decide (v5.2 = (0 : Int)))) then
   some ((((0 : Int), ((0 : Int), ([] : List (Int)))), v5.2))
  else
   some (((code0, (id1, v5.1)), (0 : Int)))
theorem ref22_Conf_S (N : Nat) (code0 : Int) (id1 : Int) (l2 : List ((Int) × (List (Int)))) : (runK Go.Proofs.Try.prog (Ev50 N) 400 39 [(.int .u8), (.int .u8), (.sl (.pair (.int .u8) (.sl (.int .u8))))] [(.pair (.int .u8) (.pair (.int .u8) (.sl (.int .u8)))), (.int .i64)] (code0, id1, l2, ())).run = ref22_Conf N code0 id1 l2 := by kernel_rfl
theorem ref22_Conf_C (N : Nat) (code0 : Int) (id1 : Int) (l2 : List ((Int) × (List (Int)))) (y : ((Int) × ((Int) × (List (Int)))) × Int) (h : ref22_Conf N code0 id1 l2 = some y) : CallsK Go.Proofs.Try.prog 39 (valA [(.int .u8), (.int .u8), (.sl (.pair (.int .u8) (.sl (.int .u8))))] (code0, id1, l2, ())) (tupV (valR [(.pair (.int .u8) (.pair (.int .u8) (.sl (.int .u8)))), (.int .i64)] y)) := runK_ok hmx (Ev50_ok N _) (okFn_ok (by kernel_rfl)) (by rw [ref22_Conf_S]; exact h)
noncomputable def Ev51 (N : Nat) : (R : Type) → Env R := Env.addFn (Ev50 N) 39 (fun R => fnK [(.int .u8), (.int .u8), (.sl (.pair (.int .u8) (.sl (.int .u8))))] [(.pair (.int .u8) (.pair (.int .u8) (.sl (.int .u8)))), (.int .i64)] (fun c => ref22_Conf N c.1 c.2.1 c.2.2.1))
theorem Ev51_ok (N : Nat) (R : Type) : EnvOK Go.Proofs.Try.prog (Ev51 N R) := EnvOK.addFn hmx (Ev50_ok N R) (Ev50_ok N _) (by kernel_rfl) (fun c => ref22_Conf_S N c.1 c.2.1 c.2.2.1)
noncomputable def Ev52 (N : Nat) : (R : Type) → Env R := Env.addBx (Ev51 N) [(41, 0)]
theorem Ev52_ok (N : Nat) (R : Type) : EnvOK Go.Proofs.Try.prog (Ev52 N R) := EnvOK.addBx (Ev51_ok N R) [(41, 0)]
noncomputable def Ev53 (N : Nat) : (R : Type) → Env R := Env.addMv (Ev52 N) [(92, 13)]
theorem Ev53_ok (N : Nat) (R : Type) : EnvOK Go.Proofs.Try.prog (Ev53 N R) := EnvOK.addMv (Ev52_ok N R) [(92, 13)]
noncomputable def ref21_Parse_L3_I : LI := ⟨52, 0, [(4, 73)], ⟨[(0, .ty (.sl (.int .u8))), (4, .lit (.own 0)), (5, .ty (.int .i64))], [.own (.pair (.int .u8) (.sl (.int .u8))) 73]⟩, [(.ret, ⟨[(2, .ty (.sl (.pair (.int .u8) (.sl (.int .u8))))), (3, .ty (.int .i64))], []⟩), (.exit 0, ⟨[(4, .lit (.own 0))], [.own (.pair (.int .u8) (.sl (.int .u8))) 73]⟩)]⟩
noncomputable def ref21_Parse_L3 (N : Nat) (X : (((List (Int)) × ((Int) × Unit)) × ((List ((Int) × (List (Int)))) × Unit)) → Option (((((List ((Int) × (List (Int)))) × ((Int) × Unit)) × Unit) ⊕ (Unit × ((List ((Int) × (List (Int)))) × Unit))))) (b0 : List (Int)) (x5 : Int) (h0 : List ((Int) × (List (Int)))) : Option (((((List ((Int) × (List (Int)))) × ((Int) × Unit)) × Unit) ⊕ (Unit × ((List ((Int) × (List (Int)))) × Unit)))) :=
 bif (decide (x5 < (((List.length b0) : Nat) : Int))) then
  bif (decide ((((List.length h0) : Nat) : Int) = (32 : Int))) then
   some ((.inl ((([] : List ((Int × (List Int)))), ((5 : Int), @Unit.unit)), @Unit.unit)))
  else
   bif (decide ((Go.IntKind.wrap .i64 ((((List.length b0) : Nat) : Int) - x5)) < (2 : Int))) then
    some ((.inl ((([] : List ((Int × (List Int)))), ((4 : Int), @Unit.unit)), @Unit.unit)))
   else
    Option.bind (getI b0 (Go.IntKind.wrap .i64 (x5 + (1 : Int)))) fun (v5 : Int) =>
    bif (decide ((Go.IntKind.wrap .i64 v5) < (2 : Int))) then
     some ((.inl ((([] : List ((Int × (List Int)))), ((3 : Int), @Unit.unit)), @Unit.unit)))
    else
     bif (decide ((Go.IntKind.wrap .i64 ((((List.length b0) : Nat) : Int) - x5)) < (Go.IntKind.wrap .i64 v5))) then
      some ((.inl ((([] : List ((Int × (List Int)))), ((4 : Int), @Unit.unit)), @Unit.unit)))
     else
      Option.bind (getI b0 x5) fun (v6 : Int) =>
      Option.bind (subI b0 (Go.IntKind.wrap .i64 (x5 + (2 : Int))) (Go.IntKind.wrap .i64 (x5 + (Go.IntKind.wrap .i64 v5)))) fun (v7 : (List Int)) =>
      bif (roomB ((List.length h0) + (List.length ([(v6, v7)] : List ((Int × (List Int)))))) 32) then
       (X ((b0, ((Go.IntKind.wrap .i64 (x5 + (Go.IntKind.wrap .i64 v5))), @Unit.unit)), ((h0 ++ ([(v6, v7)] : List ((Int × (List Int))))), @Unit.unit)))
      else
       none
 else
  some ((.inr (@Unit.unit, (h0, @Unit.unit))))
noncomputable def ref21_Parse_L3_R (N : Nat) (c : (((List (Int)) × ((Int) × Unit)) × ((List ((Int) × (List (Int)))) × Unit))) : Option (((((List ((Int) × (List (Int)))) × ((Int) × Unit)) × Unit) ⊕ (Unit × ((List ((Int) × (List (Int)))) × Unit)))) := gl (fun X c => ref21_Parse_L3 N X c.1.1 c.1.2.1 c.2.1) N c
theorem ref21_Parse_L3_S (N : Nat) (X : (((List (Int)) × ((Int) × Unit)) × ((List ((Int) × (List (Int)))) × Unit)) → Option (((((List ((Int) × (List (Int)))) × ((Int) × Unit)) × Unit) ⊕ (Unit × ((List ((Int) × (List (Int)))) × Unit))))) (b0 : List (Int)) (x5 : Int) (h0 : List ((Int) × (List (Int)))) : (roundK Go.Proofs.Try.prog (Ev53 N) 400 [92] ref21_Parse_L3_I (loopAt Go.Proofs.Try.prog [92] 3) X ((b0, x5, ()), (h0, ()))).run = ref21_Parse_L3 N X b0 x5 h0 := by kernel_rfl
noncomputable def Ev54 (N : Nat) : (R : Type) → Env R := Env.addLp (Ev53 N) [92] 0 3 (fun R => lpK Go.Proofs.Try.prog ref21_Parse_L3_I (fun X c => ref21_Parse_L3 N X c.1.1 c.1.2.1 c.2.1) N)
theorem Ev54_ok (N : Nat) (R : Type) : EnvOK Go.Proofs.Try.prog (Ev54 N R) := EnvOK.addLp (Ev53_ok N R) (by kernel_rfl) (lpK_ok (li := ref21_Parse_L3_I) (G := fun X c => ref21_Parse_L3 N X c.1.1 c.1.2.1 c.2.1) hmx (Ev53_ok N _) (by kernel_rfl) loopAt_sub (fun (X : CT ref21_Parse_L3_I.sh → Option (OT ref21_Parse_L3_I.outs)) (c : CT ref21_Parse_L3_I.sh) => ref21_Parse_L3_S N X c.1.1 c.1.2.1 c.2.1) N)
noncomputable def ref21_Parse (N : Nat) (b0 : List (Int)) : Option ((List ((Int) × (List (Int)))) × Int) :=
 Option.bind (ref21_Parse_L3_R N ((b0, ((0 : Int), @Unit.unit)), (([] : List ((Int × (List Int)))), @Unit.unit))) fun (v2 : ((((List (Int × (List Int))) × (Int × Unit)) × Unit) ⊕ (Unit × ((List (Int × (List Int))) × Unit)))) =>
 Sum.elim
  (fun (v3 : (((List (Int × (List Int))) × (Int × Unit)) × Unit)) =>
  some ((v3.1.1, v3.1.2.1)))
  (fun (v3 : (Unit × ((List (Int × (List Int))) × Unit))) =>
  some ((v3.2.1, (0 : Int)))) v2
theorem ref21_Parse_S (N : Nat) (b0 : List (Int)) : (runK Go.Proofs.Try.prog (Ev54 N) 400 92 [(.sl (.int .u8))] [(.sl (.pair (.int .u8) (.sl (.int .u8)))), (.int .i64)] (b0, ())).run = ref21_Parse N b0 := by kernel_rfl
noncomputable def Ev55 (N : Nat) : (R : Type) → Env R := Env.addFn (Ev54 N) 92 (fun R => fnK [(.sl (.int .u8))] [(.sl (.pair (.int .u8) (.sl (.int .u8)))), (.int .i64)] (fun c => ref21_Parse N c.1))
theorem Ev55_ok (N : Nat) (R : Type) : EnvOK Go.Proofs.Try.prog (Ev55 N R) := EnvOK.addFn hmx (Ev54_ok N R) (Ev54_ok N _) (by kernel_rfl) (fun c => ref21_Parse_S N c.1)
noncomputable def ref22_Options (N : Nat) (c0 : (Int) × ((Int) × (List (Int)))) : Option ((List ((Int) × (List (Int)))) × Int) :=
 Option.bind (@ref22_conf N c0.1) fun (v2 : Bool) =>
 bif (!v2) then
  some ((([] : List ((Int × (List Int)))), (9 : Int)))
 else
  Option.bind (@ref21_Parse N c0.2.2) fun (v3 : ((List (Int × (List Int))) × Int)) =>
  some ((v3.1, v3.2))
theorem ref22_Options_S (N : Nat) (c0 : (Int) × ((Int) × (List (Int)))) : (runK Go.Proofs.Try.prog (Ev55 N) 400 41 [(.pair (.int .u8) (.pair (.int .u8) (.sl (.int .u8))))] [(.sl (.pair (.int .u8) (.sl (.int .u8)))), (.int .i64)] (c0, ())).run = ref22_Options N c0 := by kernel_rfl
theorem ref22_Options_C (N : Nat) (c0 : (Int) × ((Int) × (List (Int)))) (y : (List ((Int) × (List (Int)))) × Int) (h : ref22_Options N c0 = some y) : CallsK Go.Proofs.Try.prog 41 (valA [(.pair (.int .u8) (.pair (.int .u8) (.sl (.int .u8))))] (c0, ())) (tupV (valR [(.sl (.pair (.int .u8) (.sl (.int .u8)))), (.int .i64)] y)) := runK_ok hmx (Ev55_ok N _) (okFn_ok (by kernel_rfl)) (by rw [ref22_Options_S]; exact h)
noncomputable def Ev56 (N : Nat) : (R : Type) → Env R := Env.addFn (Ev55 N) 41 (fun R => fnK [(.pair (.int .u8) (.pair (.int .u8) (.sl (.int .u8))))] [(.sl (.pair (.int .u8) (.sl (.int .u8)))), (.int .i64)] (fun c => ref22_Options N c.1))
theorem Ev56_ok (N : Nat) (R : Type) : EnvOK Go.Proofs.Try.prog (Ev56 N R) := EnvOK.addFn hmx (Ev55_ok N R) (Ev55_ok N _) (by kernel_rfl) (fun c => ref22_Options_S N c.1)
noncomputable def Ev57 (N : Nat) : (R : Type) → Env R := Env.addBx (Ev56 N) [(46, 0)]
theorem Ev57_ok (N : Nat) (R : Type) : EnvOK Go.Proofs.Try.prog (Ev57 N R) := EnvOK.addBx (Ev56_ok N R) [(46, 0)]
noncomputable def ref22_cut (N : Nat) (b0 : List (Int)) (most1 : Int) : Option (List (Int)) :=
 bif (decide (most1 < (4 : Int))) then
  some (([] : List (Int)))
 else
  Option.bind (takeI b0 (@minI (((List.length b0) : Nat) : Int) (Go.IntKind.wrap .i64 (most1 - (4 : Int))))) fun (v3 : (List Int)) =>
  some (v3)
theorem ref22_cut_S (N : Nat) (b0 : List (Int)) (most1 : Int) : (runK Go.Proofs.Try.prog (Ev57 N) 400 96 [(.sl (.int .u8)), (.int .i64)] [(.sl (.int .u8))] (b0, most1, ())).run = ref22_cut N b0 most1 := by kernel_rfl
noncomputable def Ev58 (N : Nat) : (R : Type) → Env R := Env.addFn (Ev57 N) 96 (fun R => fnK [(.sl (.int .u8)), (.int .i64)] [(.sl (.int .u8))] (fun c => ref22_cut N c.1 c.2.1))
theorem Ev58_ok (N : Nat) (R : Type) : EnvOK Go.Proofs.Try.prog (Ev58 N R) := EnvOK.addFn hmx (Ev57_ok N R) (Ev57_ok N _) (by kernel_rfl) (fun c => ref22_cut_S N c.1 c.2.1)
noncomputable def ref22_Reject (N : Nat) (id0 : Int) (c1 : (Int) × ((Int) × (List (Int)))) (most2 : Int) : Option ((Int) × ((Int) × (List (Int)))) :=
 Option.bind (@ref22_Lay N (c1.1, (c1.2.1, c1.2.2))) fun (v4 : ((List Int) × Int)) =>
 Option.bind (@ref22_cut N v4.1 most2) fun (v5 : (List Int)) =>
 some (((7 : Int), (id0, v5)))
theorem ref22_Reject_S (N : Nat) (id0 : Int) (c1 : (Int) × ((Int) × (List (Int)))) (most2 : Int) : (runK Go.Proofs.Try.prog (Ev58 N) 400 46 [(.int .u8), (.pair (.int .u8) (.pair (.int .u8) (.sl (.int .u8)))), (.int .i64)] [(.pair (.int .u8) (.pair (.int .u8) (.sl (.int .u8))))] (id0, c1, most2, ())).run = ref22_Reject N id0 c1 most2 := by kernel_rfl
theorem ref22_Reject_C (N : Nat) (id0 : Int) (c1 : (Int) × ((Int) × (List (Int)))) (most2 : Int) (y : (Int) × ((Int) × (List (Int)))) (h : ref22_Reject N id0 c1 most2 = some y) : CallsK Go.Proofs.Try.prog 46 (valA [(.int .u8), (.pair (.int .u8) (.pair (.int .u8) (.sl (.int .u8)))), (.int .i64)] (id0, c1, most2, ())) (tupV (valR [(.pair (.int .u8) (.pair (.int .u8) (.sl (.int .u8))))] y)) := runK_ok hmx (Ev58_ok N _) (okFn_ok (by kernel_rfl)) (by rw [ref22_Reject_S]; exact h)
noncomputable def Ev59 (N : Nat) : (R : Type) → Env R := Env.addFn (Ev58 N) 46 (fun R => fnK [(.int .u8), (.pair (.int .u8) (.pair (.int .u8) (.sl (.int .u8)))), (.int .i64)] [(.pair (.int .u8) (.pair (.int .u8) (.sl (.int .u8))))] (fun c => ref22_Reject N c.1 c.2.1 c.2.2.1))
theorem Ev59_ok (N : Nat) (R : Type) : EnvOK Go.Proofs.Try.prog (Ev59 N R) := EnvOK.addFn hmx (Ev58_ok N R) (Ev58_ok N _) (by kernel_rfl) (fun c => ref22_Reject_S N c.1 c.2.1 c.2.2.1)
noncomputable def Ev60 (N : Nat) : (R : Type) → Env R := Env.addBx (Ev59 N) [(48, 0)]
theorem Ev60_ok (N : Nat) (R : Type) : EnvOK Go.Proofs.Try.prog (Ev60 N R) := EnvOK.addBx (Ev59_ok N R) [(48, 0)]
noncomputable def ref22_Proto_1_ref01_Big_L3_I : LI := ⟨24, 1, [], ⟨[(0, .ty (.int .u64)), (5, .lit (.own 1)), (6, .ty (.int .i64))], [.box 58 (.pair (.int .u8) (.pair (.int .u8) (.sl (.int .u8)))), .own (.int .u8) 5]⟩, [(.exit 0, ⟨[(5, .lit (.own 1))], [.box 58 (.pair (.int .u8) (.pair (.int .u8) (.sl (.int .u8)))), .own (.int .u8) 5]⟩)]⟩
noncomputable def ref22_Proto_1_ref01_Big_L3 (N : Nat) (X : (((Int) × ((Int) × Unit)) × (((Int) × ((Int) × (List (Int)))) × ((List (Int)) × Unit))) → Option ((Unit × (((Int) × ((Int) × (List (Int)))) × ((List (Int)) × Unit))))) (n0 : Int) (i6 : Int) (h0 : (Int) × ((Int) × (List (Int)))) (h1 : List (Int)) : Option ((Unit × (((Int) × ((Int) × (List (Int)))) × ((List (Int)) × Unit)))) :=
 bif (decide ((0 : Int) ≤ i6)) then
  bif (decide ((0 : Int) ≤ i6 ∧ i6 < (((List.length h1) : Nat) : Int))) then
   Option.bind (@GetElem?.getElem? (List Int) Nat Int (fun (as6 : (List Int)) => (fun (i7 : Nat) => (@LT.lt Nat @instLTNat i7 (List.length as6)))) (@List.instGetElem?NatLtLength Int) h1 (Int.toNat i6)) fun (v6 : Int) =>
   (X (((Go.IntKind.wrap .u64 (@Int.tdiv n0 (256 : Int))), ((Go.IntKind.wrap .i64 (i6 - (1 : Int))), @Unit.unit)), ((h0.1, (h0.2.1, h0.2.2)), ((@List.set Int h1 (Int.toNat i6) (Go.IntKind.wrap .u8 (@Int.tmod n0 (256 : Int)))), @Unit.unit))))
  else
   none
 else
  some ((@Unit.unit, ((h0.1, (h0.2.1, h0.2.2)), (h1, @Unit.unit))))
noncomputable def ref22_Proto_1_ref01_Big_L3_R (N : Nat) (c : (((Int) × ((Int) × Unit)) × (((Int) × ((Int) × (List (Int)))) × ((List (Int)) × Unit)))) : Option ((Unit × (((Int) × ((Int) × (List (Int)))) × ((List (Int)) × Unit)))) := gl (fun X c => ref22_Proto_1_ref01_Big_L3 N X c.1.1 c.1.2.1 c.2.1 c.2.2.1) N c
theorem ref22_Proto_1_ref01_Big_L3_S (N : Nat) (X : (((Int) × ((Int) × Unit)) × (((Int) × ((Int) × (List (Int)))) × ((List (Int)) × Unit))) → Option ((Unit × (((Int) × ((Int) × (List (Int)))) × ((List (Int)) × Unit))))) (n0 : Int) (i6 : Int) (h0 : (Int) × ((Int) × (List (Int)))) (h1 : List (Int)) : (roundK Go.Proofs.Try.prog (Ev60 N) 400 [72, 1, 48] ref22_Proto_1_ref01_Big_L3_I (loopAt Go.Proofs.Try.prog [72, 1, 48] 3) X ((n0, i6, ()), (h0, h1, ()))).run = ref22_Proto_1_ref01_Big_L3 N X n0 i6 h0 h1 := by kernel_rfl
noncomputable def Ev61 (N : Nat) : (R : Type) → Env R := Env.addLp (Ev60 N) [72, 1, 48] 1 3 (fun R => lpK Go.Proofs.Try.prog ref22_Proto_1_ref01_Big_L3_I (fun X c => ref22_Proto_1_ref01_Big_L3 N X c.1.1 c.1.2.1 c.2.1 c.2.2.1) N)
theorem Ev61_ok (N : Nat) (R : Type) : EnvOK Go.Proofs.Try.prog (Ev61 N R) := EnvOK.addLp (Ev60_ok N R) (by kernel_rfl) (lpK_ok (li := ref22_Proto_1_ref01_Big_L3_I) (G := fun X c => ref22_Proto_1_ref01_Big_L3 N X c.1.1 c.1.2.1 c.2.1 c.2.2.1) hmx (Ev60_ok N _) (by kernel_rfl) loopAt_sub (fun (X : CT ref22_Proto_1_ref01_Big_L3_I.sh → Option (OT ref22_Proto_1_ref01_Big_L3_I.outs)) (c : CT ref22_Proto_1_ref01_Big_L3_I.sh) => ref22_Proto_1_ref01_Big_L3_S N X c.1.1 c.1.2.1 c.2.1 c.2.2.1) N)
noncomputable def ref22_Proto (N : Nat) (id0 : Int) (f1 : (Int) × (List (Int))) (most2 : Int) : Option ((Int) × ((Int) × (List (Int)))) :=
 Option.bind (ref22_Proto_1_ref01_Big_L3_R N (((Go.IntKind.wrap .u64 f1.1), ((Go.IntKind.wrap .i64 ((2 : Int) - (1 : Int))), @Unit.unit)), (((0 : Int), ((0 : Int), ([] : List (Int)))), ((@List.replicate Int (Int.toNat (2 : Int)) (0 : Int)), @Unit.unit)))) fun (v4 : (Unit × ((Int × (Int × (List Int))) × ((List Int) × Unit)))) =>
 bif (roomB ((List.length v4.2.2.1) + (List.length f1.2)) 1) then
  Option.bind (@ref22_cut N (v4.2.2.1 ++ f1.2) most2) fun (v5 : (List Int)) =>
  some (((8 : Int), (id0, v5)))
 else
  none
theorem ref22_Proto_S (N : Nat) (id0 : Int) (f1 : (Int) × (List (Int))) (most2 : Int) : (runK Go.Proofs.Try.prog (Ev61 N) 400 48 [(.int .u8), (.pair (.int .u16) (.sl (.int .u8))), (.int .i64)] [(.pair (.int .u8) (.pair (.int .u8) (.sl (.int .u8))))] (id0, f1, most2, ())).run = ref22_Proto N id0 f1 most2 := by kernel_rfl
theorem ref22_Proto_C (N : Nat) (id0 : Int) (f1 : (Int) × (List (Int))) (most2 : Int) (y : (Int) × ((Int) × (List (Int)))) (h : ref22_Proto N id0 f1 most2 = some y) : CallsK Go.Proofs.Try.prog 48 (valA [(.int .u8), (.pair (.int .u16) (.sl (.int .u8))), (.int .i64)] (id0, f1, most2, ())) (tupV (valR [(.pair (.int .u8) (.pair (.int .u8) (.sl (.int .u8))))] y)) := runK_ok hmx (Ev61_ok N _) (okFn_ok (by kernel_rfl)) (by rw [ref22_Proto_S]; exact h)
noncomputable def Ev62 (N : Nat) : (R : Type) → Env R := Env.addFn (Ev61 N) 48 (fun R => fnK [(.int .u8), (.pair (.int .u16) (.sl (.int .u8))), (.int .i64)] [(.pair (.int .u8) (.pair (.int .u8) (.sl (.int .u8))))] (fun c => ref22_Proto N c.1 c.2.1 c.2.2.1))
theorem Ev62_ok (N : Nat) (R : Type) : EnvOK Go.Proofs.Try.prog (Ev62 N R) := EnvOK.addFn hmx (Ev61_ok N R) (Ev61_ok N _) (by kernel_rfl) (fun c => ref22_Proto_S N c.1 c.2.1 c.2.2.1)
noncomputable def Ev63 (N : Nat) : (R : Type) → Env R := Env.addBx (Ev62 N) [(44, 0)]
theorem Ev63_ok (N : Nat) (R : Type) : EnvOK Go.Proofs.Try.prog (Ev63 N R) := EnvOK.addBx (Ev62_ok N R) [(44, 0)]
noncomputable def ref22_Magic (N : Nat) (c0 : (Int) × ((Int) × (List (Int)))) : Option ((Int) × (List (Int)) × Int) :=
 bif (decide ((((List.length c0.2.2) : Nat) : Int) < (4 : Int))) then
  some (((0 : Int), (([] : List (Int)), (4 : Int))))
 else
  Option.bind (takeI c0.2.2 (4 : Int)) fun (v2 : (List Int)) =>
  Option.bind (@ref01_Num N v2) fun (v3 : Int) =>
  Option.bind (dropI c0.2.2 (4 : Int)) fun (v4 : (List Int)) =>
  some (((Go.IntKind.wrap .u32 v3), (v4, (0 : Int))))
theorem ref22_Magic_S (N : Nat) (c0 : (Int) × ((Int) × (List (Int)))) : (runK Go.Proofs.Try.prog (Ev63 N) 400 44 [(.pair (.int .u8) (.pair (.int .u8) (.sl (.int .u8))))] [(.int .u32), (.sl (.int .u8)), (.int .i64)] (c0, ())).run = ref22_Magic N c0 := by kernel_rfl
theorem ref22_Magic_C (N : Nat) (c0 : (Int) × ((Int) × (List (Int)))) (y : (Int) × (List (Int)) × Int) (h : ref22_Magic N c0 = some y) : CallsK Go.Proofs.Try.prog 44 (valA [(.pair (.int .u8) (.pair (.int .u8) (.sl (.int .u8))))] (c0, ())) (tupV (valR [(.int .u32), (.sl (.int .u8)), (.int .i64)] y)) := runK_ok hmx (Ev63_ok N _) (okFn_ok (by kernel_rfl)) (by rw [ref22_Magic_S]; exact h)
noncomputable def Ev64 (N : Nat) : (R : Type) → Env R := Env.addFn (Ev63 N) 44 (fun R => fnK [(.pair (.int .u8) (.pair (.int .u8) (.sl (.int .u8))))] [(.int .u32), (.sl (.int .u8)), (.int .i64)] (fun c => ref22_Magic N c.1))
theorem Ev64_ok (N : Nat) (R : Type) : EnvOK Go.Proofs.Try.prog (Ev64 N R) := EnvOK.addFn hmx (Ev63_ok N R) (Ev63_ok N _) (by kernel_rfl) (fun c => ref22_Magic_S N c.1)
noncomputable def ref22_Echo_1_ref01_Big_L3_I : LI := ⟨24, 1, [], ⟨[(0, .ty (.int .u64)), (5, .lit (.own 1)), (6, .ty (.int .i64))], [.box 58 (.pair (.int .u8) (.pair (.int .u8) (.sl (.int .u8)))), .own (.int .u8) 5]⟩, [(.exit 0, ⟨[(5, .lit (.own 1))], [.box 58 (.pair (.int .u8) (.pair (.int .u8) (.sl (.int .u8)))), .own (.int .u8) 5]⟩)]⟩
noncomputable def ref22_Echo_1_ref01_Big_L3 (N : Nat) (X : (((Int) × ((Int) × Unit)) × (((Int) × ((Int) × (List (Int)))) × ((List (Int)) × Unit))) → Option ((Unit × (((Int) × ((Int) × (List (Int)))) × ((List (Int)) × Unit))))) (n0 : Int) (i6 : Int) (h0 : (Int) × ((Int) × (List (Int)))) (h1 : List (Int)) : Option ((Unit × (((Int) × ((Int) × (List (Int)))) × ((List (Int)) × Unit)))) :=
 bif (decide ((0 : Int) ≤ i6)) then
  bif (decide ((0 : Int) ≤ i6 ∧ i6 < (((List.length h1) : Nat) : Int))) then
   Option.bind (@GetElem?.getElem? (List Int) Nat Int (fun (as6 : (List Int)) => (fun (i7 : Nat) => (@LT.lt Nat @instLTNat i7 (List.length as6)))) (@List.instGetElem?NatLtLength Int) h1 (Int.toNat i6)) fun (v6 : Int) =>
   (X (((Go.IntKind.wrap .u64 (@Int.tdiv n0 (256 : Int))), ((Go.IntKind.wrap .i64 (i6 - (1 : Int))), @Unit.unit)), ((h0.1, (h0.2.1, h0.2.2)), ((@List.set Int h1 (Int.toNat i6) (Go.IntKind.wrap .u8 (@Int.tmod n0 (256 : Int)))), @Unit.unit))))
  else
   none
 else
  some ((@Unit.unit, ((h0.1, (h0.2.1, h0.2.2)), (h1, @Unit.unit))))
noncomputable def ref22_Echo_1_ref01_Big_L3_R (N : Nat) (c : (((Int) × ((Int) × Unit)) × (((Int) × ((Int) × (List (Int)))) × ((List (Int)) × Unit)))) : Option ((Unit × (((Int) × ((Int) × (List (Int)))) × ((List (Int)) × Unit)))) := gl (fun X c => ref22_Echo_1_ref01_Big_L3 N X c.1.1 c.1.2.1 c.2.1 c.2.2.1) N c
theorem ref22_Echo_1_ref01_Big_L3_S (N : Nat) (X : (((Int) × ((Int) × Unit)) × (((Int) × ((Int) × (List (Int)))) × ((List (Int)) × Unit))) → Option ((Unit × (((Int) × ((Int) × (List (Int)))) × ((List (Int)) × Unit))))) (n0 : Int) (i6 : Int) (h0 : (Int) × ((Int) × (List (Int)))) (h1 : List (Int)) : (roundK Go.Proofs.Try.prog (Ev64 N) 400 [72, 1, 50] ref22_Echo_1_ref01_Big_L3_I (loopAt Go.Proofs.Try.prog [72, 1, 50] 3) X ((n0, i6, ()), (h0, h1, ()))).run = ref22_Echo_1_ref01_Big_L3 N X n0 i6 h0 h1 := by kernel_rfl
noncomputable def Ev65 (N : Nat) : (R : Type) → Env R := Env.addLp (Ev64 N) [72, 1, 50] 1 3 (fun R => lpK Go.Proofs.Try.prog ref22_Echo_1_ref01_Big_L3_I (fun X c => ref22_Echo_1_ref01_Big_L3 N X c.1.1 c.1.2.1 c.2.1 c.2.2.1) N)
theorem Ev65_ok (N : Nat) (R : Type) : EnvOK Go.Proofs.Try.prog (Ev65 N R) := EnvOK.addLp (Ev64_ok N R) (by kernel_rfl) (lpK_ok (li := ref22_Echo_1_ref01_Big_L3_I) (G := fun X c => ref22_Echo_1_ref01_Big_L3 N X c.1.1 c.1.2.1 c.2.1 c.2.2.1) hmx (Ev64_ok N _) (by kernel_rfl) loopAt_sub (fun (X : CT ref22_Echo_1_ref01_Big_L3_I.sh → Option (OT ref22_Echo_1_ref01_Big_L3_I.outs)) (c : CT ref22_Echo_1_ref01_Big_L3_I.sh) => ref22_Echo_1_ref01_Big_L3_S N X c.1.1 c.1.2.1 c.2.1 c.2.2.1) N)
noncomputable def ref22_Echo (N : Nat) (code0 : Int) (id1 : Int) (magic2 : Int) (data3 : List (Int)) : Option ((Int) × ((Int) × (List (Int)))) :=
 Option.bind (ref22_Echo_1_ref01_Big_L3_R N (((Go.IntKind.wrap .u64 magic2), ((Go.IntKind.wrap .i64 ((4 : Int) - (1 : Int))), @Unit.unit)), (((0 : Int), ((0 : Int), ([] : List (Int)))), ((@List.replicate Int (Int.toNat (4 : Int)) (0 : Int)), @Unit.unit)))) fun (v5 : (Unit × ((Int × (Int × (List Int))) × ((List Int) × Unit)))) =>
 bif (roomB ((List.length v5.2.2.1) + (List.length data3)) 1) then
  some ((code0, (id1, (v5.2.2.1 ++ data3))))
 else
  none
theorem ref22_Echo_S (N : Nat) (code0 : Int) (id1 : Int) (magic2 : Int) (data3 : List (Int)) : (runK Go.Proofs.Try.prog (Ev65 N) 400 50 [(.int .u8), (.int .u8), (.int .u32), (.sl (.int .u8))] [(.pair (.int .u8) (.pair (.int .u8) (.sl (.int .u8))))] (code0, id1, magic2, data3, ())).run = ref22_Echo N code0 id1 magic2 data3 := by kernel_rfl
theorem ref22_Echo_C (N : Nat) (code0 : Int) (id1 : Int) (magic2 : Int) (data3 : List (Int)) (y : (Int) × ((Int) × (List (Int)))) (h : ref22_Echo N code0 id1 magic2 data3 = some y) : CallsK Go.Proofs.Try.prog 50 (valA [(.int .u8), (.int .u8), (.int .u32), (.sl (.int .u8))] (code0, id1, magic2, data3, ())) (tupV (valR [(.pair (.int .u8) (.pair (.int .u8) (.sl (.int .u8))))] y)) := runK_ok hmx (Ev65_ok N _) (okFn_ok (by kernel_rfl)) (by rw [ref22_Echo_S]; exact h)
noncomputable def Ev66 (N : Nat) : (R : Type) → Env R := Env.addFn (Ev65 N) 50 (fun R => fnK [(.int .u8), (.int .u8), (.int .u32), (.sl (.int .u8))] [(.pair (.int .u8) (.pair (.int .u8) (.sl (.int .u8))))] (fun c => ref22_Echo N c.1 c.2.1 c.2.2.1 c.2.2.2.1))
theorem Ev66_ok (N : Nat) (R : Type) : EnvOK Go.Proofs.Try.prog (Ev66 N R) := EnvOK.addFn hmx (Ev65_ok N R) (Ev65_ok N _) (by kernel_rfl) (fun c => ref22_Echo_S N c.1 c.2.1 c.2.2.1 c.2.2.2.1)
noncomputable def Ev67 (N : Nat) : (R : Type) → Env R := Env.addBx (Ev66 N) [(94, 0)]
theorem Ev67_ok (N : Nat) (R : Type) : EnvOK Go.Proofs.Try.prog (Ev67 N R) := EnvOK.addBx (Ev66_ok N R) [(94, 0)]
noncomputable def opts_equal (N : Nat) (a0 : (Int) × (List (Int))) (b1 : (Int) × (List (Int))) : Option (Bool) :=
 bif (decide (a0.1 = b1.1)) then
  Option.bind (@bytes_Equal N a0.2 b1.2) fun (v3 : Bool) =>
  some ((@cond Bool @Bool.true v3 @Bool.false))
 else
  some (@Bool.false)
theorem opts_equal_S (N : Nat) (a0 : (Int) × (List (Int))) (b1 : (Int) × (List (Int))) : (runK Go.Proofs.Try.prog (Ev67 N) 400 94 [(.pair (.int .u8) (.sl (.int .u8))), (.pair (.int .u8) (.sl (.int .u8)))] [.bool] (a0, b1, ())).run = opts_equal N a0 b1 := by kernel_rfl
noncomputable def Ev68 (N : Nat) : (R : Type) → Env R := Env.addFn (Ev67 N) 94 (fun R => fnK [(.pair (.int .u8) (.sl (.int .u8))), (.pair (.int .u8) (.sl (.int .u8)))] [.bool] (fun c => opts_equal N c.1 c.2.1))
theorem Ev68_ok (N : Nat) (R : Type) : EnvOK Go.Proofs.Try.prog (Ev68 N R) := EnvOK.addFn hmx (Ev67_ok N R) (Ev67_ok N _) (by kernel_rfl) (fun c => opts_equal_S N c.1 c.2.1)
noncomputable def opts_Same_1_slices_EqualFunc_api_Option_api_Option_api_Option_api_Option_L4_I : LI := ⟨32, 0, [], ⟨[(1, .ty (.sl (.pair (.int .u8) (.sl (.int .u8))))), (2, .lit (.clo 94 [])), (15, .ty (.sl (.pair (.int .u8) (.sl (.int .u8))))), (16, .ty (.int .i64)), (17, .ty (.int .i64))], []⟩, [(.ret, ⟨[(6, .ty .bool)], []⟩), (.exit 0, ⟨[], []⟩)]⟩
noncomputable def opts_Same_1_slices_EqualFunc_api_Option_api_Option_api_Option_api_Option_L4 (N : Nat) (X : (((List ((Int) × (List (Int)))) × ((List ((Int) × (List (Int)))) × ((Int) × ((Int) × Unit)))) × Unit) → Option (((((Bool) × Unit) × Unit) ⊕ (Unit × Unit)))) (s21 : List ((Int) × (List (Int)))) (x15 : List ((Int) × (List (Int)))) (x16 : Int) (x17 : Int) : Option (((((Bool) × Unit) × Unit) ⊕ (Unit × Unit))) :=
 bif (decide (x17 < x16)) then
  Option.bind (getI x15 x17) fun (v6 : (Int × (List Int))) =>
  Option.bind (getI s21 x17) fun (v7 : (Int × (List Int))) =>
  Option.bind (@opts_equal N (v6.1, v6.2) (v7.1, v7.2)) fun (v8 : Bool) =>
  bif (!v8) then
   some ((.inl ((@Bool.false, @Unit.unit), @Unit.unit)))
  else
   (X ((s21, (x15, (x16, ((Go.IntKind.wrap .i64 (x17 + (1 : Int))), @Unit.unit)))), @Unit.unit))
 else
  some ((.inr (@Unit.unit, @Unit.unit)))
noncomputable def opts_Same_1_slices_EqualFunc_api_Option_api_Option_api_Option_api_Option_L4_R (N : Nat) (c : (((List ((Int) × (List (Int)))) × ((List ((Int) × (List (Int)))) × ((Int) × ((Int) × Unit)))) × Unit)) : Option (((((Bool) × Unit) × Unit) ⊕ (Unit × Unit))) := gl (fun X c => opts_Same_1_slices_EqualFunc_api_Option_api_Option_api_Option_api_Option_L4 N X c.1.1 c.1.2.1 c.1.2.2.1 c.1.2.2.2.1) N c
theorem opts_Same_1_slices_EqualFunc_api_Option_api_Option_api_Option_api_Option_L4_S (N : Nat) (X : (((List ((Int) × (List (Int)))) × ((List ((Int) × (List (Int)))) × ((Int) × ((Int) × Unit)))) × Unit) → Option (((((Bool) × Unit) × Unit) ⊕ (Unit × Unit)))) (s21 : List ((Int) × (List (Int)))) (x15 : List ((Int) × (List (Int)))) (x16 : Int) (x17 : Int) : (roundK Go.Proofs.Try.prog (Ev68 N) 400 [93, 1, 42] opts_Same_1_slices_EqualFunc_api_Option_api_Option_api_Option_api_Option_L4_I (loopAt Go.Proofs.Try.prog [93, 1, 42] 4) X ((s21, x15, x16, x17, ()), ())).run = opts_Same_1_slices_EqualFunc_api_Option_api_Option_api_Option_api_Option_L4 N X s21 x15 x16 x17 := by kernel_rfl
noncomputable def Ev69 (N : Nat) : (R : Type) → Env R := Env.addLp (Ev68 N) [93, 1, 42] 0 4 (fun R => lpK Go.Proofs.Try.prog opts_Same_1_slices_EqualFunc_api_Option_api_Option_api_Option_api_Option_L4_I (fun X c => opts_Same_1_slices_EqualFunc_api_Option_api_Option_api_Option_api_Option_L4 N X c.1.1 c.1.2.1 c.1.2.2.1 c.1.2.2.2.1) N)
theorem Ev69_ok (N : Nat) (R : Type) : EnvOK Go.Proofs.Try.prog (Ev69 N R) := EnvOK.addLp (Ev68_ok N R) (by kernel_rfl) (lpK_ok (li := opts_Same_1_slices_EqualFunc_api_Option_api_Option_api_Option_api_Option_L4_I) (G := fun X c => opts_Same_1_slices_EqualFunc_api_Option_api_Option_api_Option_api_Option_L4 N X c.1.1 c.1.2.1 c.1.2.2.1 c.1.2.2.2.1) hmx (Ev68_ok N _) (by kernel_rfl) loopAt_sub (fun (X : CT opts_Same_1_slices_EqualFunc_api_Option_api_Option_api_Option_api_Option_L4_I.sh → Option (OT opts_Same_1_slices_EqualFunc_api_Option_api_Option_api_Option_api_Option_L4_I.outs)) (c : CT opts_Same_1_slices_EqualFunc_api_Option_api_Option_api_Option_api_Option_L4_I.sh) => opts_Same_1_slices_EqualFunc_api_Option_api_Option_api_Option_api_Option_L4_S N X c.1.1 c.1.2.1 c.1.2.2.1 c.1.2.2.2.1) N)
noncomputable def opts_Same (N : Nat) (a0 : List ((Int) × (List (Int)))) (b1 : List ((Int) × (List (Int)))) : Option (Bool) :=
 bif (!(decide ((((List.length a0) : Nat) : Int) = (((List.length b1) : Nat) : Int)))) then
  some (@Bool.false)
 else
  Option.bind (opts_Same_1_slices_EqualFunc_api_Option_api_Option_api_Option_api_Option_L4_R N ((b1, (a0, ((((List.length a0) : Nat) : Int), ((0 : Int), @Unit.unit)))), @Unit.unit)) fun (v3 : (((Bool × Unit) × Unit) ⊕ (Unit × Unit))) =>
  Sum.elim
   (fun (v4 : ((Bool × Unit) × Unit)) =>
   some (v4.1.1))
   (fun (v4 : (Unit × Unit)) =>
   some (@Bool.true)) v3
theorem opts_Same_S (N : Nat) (a0 : List ((Int) × (List (Int)))) (b1 : List ((Int) × (List (Int)))) : (runK Go.Proofs.Try.prog (Ev69 N) 400 42 [(.sl (.pair (.int .u8) (.sl (.int .u8)))), (.sl (.pair (.int .u8) (.sl (.int .u8))))] [.bool] (a0, b1, ())).run = opts_Same N a0 b1 := by kernel_rfl
theorem opts_Same_C (N : Nat) (a0 : List ((Int) × (List (Int)))) (b1 : List ((Int) × (List (Int)))) (y : Bool) (h : opts_Same N a0 b1 = some y) : CallsK Go.Proofs.Try.prog 42 (valA [(.sl (.pair (.int .u8) (.sl (.int .u8)))), (.sl (.pair (.int .u8) (.sl (.int .u8))))] (a0, b1, ())) (tupV (valR [.bool] y)) := runK_ok hmx (Ev69_ok N _) (okFn_ok (by kernel_rfl)) (by rw [opts_Same_S]; exact h)
noncomputable def Ev70 (N : Nat) : (R : Type) → Env R := Env.addFn (Ev69 N) 42 (fun R => fnK [(.sl (.pair (.int .u8) (.sl (.int .u8)))), (.sl (.pair (.int .u8) (.sl (.int .u8))))] [.bool] (fun c => opts_Same N c.1 c.2.1))
theorem Ev70_ok (N : Nat) (R : Type) : EnvOK Go.Proofs.Try.prog (Ev70 N R) := EnvOK.addFn hmx (Ev69_ok N R) (Ev69_ok N _) (by kernel_rfl) (fun c => opts_Same_S N c.1 c.2.1)
noncomputable def Ev71 (N : Nat) : (R : Type) → Env R := Env.addInl (Ev70 N) [72, 93, 30, 71]
theorem Ev71_ok (N : Nat) (R : Type) : EnvOK Go.Proofs.Try.prog (Ev71 N R) := EnvOK.addInl (Ev70_ok N R) (by kernel_rfl)
noncomputable def Ev72 (N : Nat) : (R : Type) → Env R := Env.addMv (Ev71 N) [(29, 2)]
theorem Ev72_ok (N : Nat) (R : Type) : EnvOK Go.Proofs.Try.prog (Ev72 N R) := EnvOK.addMv (Ev71_ok N R) [(29, 2)]
noncomputable def Ev73 (N : Nat) : (R : Type) → Env R := Env.addBx (Ev72 N) [(29, 2)]
theorem Ev73_ok (N : Nat) (R : Type) : EnvOK Go.Proofs.Try.prog (Ev73 N R) := EnvOK.addBx (Ev72_ok N R) [(29, 2)]
noncomputable def law22_alive_1_ctl_Lay_4_octs_Join_L3_I : LI := ⟨33, 0, [], ⟨[(0, .ty (.sl (.sl (.int .u8)))), (3, .ty (.int .i64)), (9, .ty (.sl (.sl (.int .u8)))), (10, .ty (.int .i64)), (11, .ty (.int .i64))], []⟩, [(.exit 0, ⟨[(0, .ty (.sl (.sl (.int .u8)))), (3, .ty (.int .i64))], []⟩)]⟩
noncomputable def law22_alive_1_ctl_Lay_4_octs_Join_L3 (N : Nat) (X : (((List (List (Int))) × ((Int) × ((List (List (Int))) × ((Int) × ((Int) × Unit))))) × Unit) → Option ((((List (List (Int))) × ((Int) × Unit)) × Unit))) (parts0 : List (List (Int))) (size3 : Int) (x9 : List (List (Int))) (x10 : Int) (x11 : Int) : Option ((((List (List (Int))) × ((Int) × Unit)) × Unit)) :=
 bif (decide (x11 < x10)) then
  Option.bind (getI x9 x11) fun (v7 : (List Int)) =>
  (X ((parts0, ((Go.IntKind.wrap .i64 (size3 + (((List.length v7) : Nat) : Int))), (x9, (x10, ((Go.IntKind.wrap .i64 (x11 + (1 : Int))), @Unit.unit))))), @Unit.unit))
 else
  some (((parts0, (size3, @Unit.unit)), @Unit.unit))
noncomputable def law22_alive_1_ctl_Lay_4_octs_Join_L3_R (N : Nat) (c : (((List (List (Int))) × ((Int) × ((List (List (Int))) × ((Int) × ((Int) × Unit))))) × Unit)) : Option ((((List (List (Int))) × ((Int) × Unit)) × Unit)) := gl (fun X c => law22_alive_1_ctl_Lay_4_octs_Join_L3 N X c.1.1 c.1.2.1 c.1.2.2.1 c.1.2.2.2.1 c.1.2.2.2.2.1) N c
theorem law22_alive_1_ctl_Lay_4_octs_Join_L3_S (N : Nat) (X : (((List (List (Int))) × ((Int) × ((List (List (Int))) × ((Int) × ((Int) × Unit))))) × Unit) → Option ((((List (List (Int))) × ((Int) × Unit)) × Unit))) (parts0 : List (List (Int))) (size3 : Int) (x9 : List (List (Int))) (x10 : Int) (x11 : Int) : (roundK Go.Proofs.Try.prog (Ev73 N) 400 [71, 4, 30, 1, 29] law22_alive_1_ctl_Lay_4_octs_Join_L3_I (loopAt Go.Proofs.Try.prog [71, 4, 30, 1, 29] 3) X ((parts0, size3, x9, x10, x11, ()), ())).run = law22_alive_1_ctl_Lay_4_octs_Join_L3 N X parts0 size3 x9 x10 x11 := by kernel_rfl
noncomputable def Ev74 (N : Nat) : (R : Type) → Env R := Env.addLp (Ev73 N) [71, 4, 30, 1, 29] 0 3 (fun R => lpK Go.Proofs.Try.prog law22_alive_1_ctl_Lay_4_octs_Join_L3_I (fun X c => law22_alive_1_ctl_Lay_4_octs_Join_L3 N X c.1.1 c.1.2.1 c.1.2.2.1 c.1.2.2.2.1 c.1.2.2.2.2.1) N)
theorem Ev74_ok (N : Nat) (R : Type) : EnvOK Go.Proofs.Try.prog (Ev74 N R) := EnvOK.addLp (Ev73_ok N R) (by kernel_rfl) (lpK_ok (li := law22_alive_1_ctl_Lay_4_octs_Join_L3_I) (G := fun X c => law22_alive_1_ctl_Lay_4_octs_Join_L3 N X c.1.1 c.1.2.1 c.1.2.2.1 c.1.2.2.2.1 c.1.2.2.2.2.1) hmx (Ev73_ok N _) (by kernel_rfl) loopAt_sub (fun (X : CT law22_alive_1_ctl_Lay_4_octs_Join_L3_I.sh → Option (OT law22_alive_1_ctl_Lay_4_octs_Join_L3_I.outs)) (c : CT law22_alive_1_ctl_Lay_4_octs_Join_L3_I.sh) => law22_alive_1_ctl_Lay_4_octs_Join_L3_S N X c.1.1 c.1.2.1 c.1.2.2.1 c.1.2.2.2.1 c.1.2.2.2.2.1) N)
noncomputable def law22_alive_1_ctl_Lay_4_octs_Join_L9_I : LI := ⟨33, 0, [], ⟨[(6, .lit (.own 0)), (22, .ty (.sl (.sl (.int .u8)))), (23, .ty (.int .i64)), (24, .ty (.int .i64))], [.own (.int .u8) 5]⟩, [(.exit 2, ⟨[(6, .lit (.own 0))], [.own (.int .u8) 5]⟩)]⟩
noncomputable def law22_alive_1_ctl_Lay_4_octs_Join_L9 (N : Nat) (X : (((List (List (Int))) × ((Int) × ((Int) × Unit))) × ((List (Int)) × Unit)) → Option ((Unit × ((List (Int)) × Unit)))) (x22 : List (List (Int))) (x23 : Int) (x24 : Int) (h0 : List (Int)) : Option ((Unit × ((List (Int)) × Unit))) :=
 bif (decide (x24 < x23)) then
  Option.bind (getI x22 x24) fun (v6 : (List Int)) =>
  bif (roomB ((List.length h0) + (List.length v6)) 1) then
   (X ((x22, (x23, ((Go.IntKind.wrap .i64 (x24 + (1 : Int))), @Unit.unit))), ((h0 ++ v6), @Unit.unit)))
  else
   none
 else
  some ((@Unit.unit, (h0, @Unit.unit)))
noncomputable def law22_alive_1_ctl_Lay_4_octs_Join_L9_R (N : Nat) (c : (((List (List (Int))) × ((Int) × ((Int) × Unit))) × ((List (Int)) × Unit))) : Option ((Unit × ((List (Int)) × Unit))) := gl (fun X c => law22_alive_1_ctl_Lay_4_octs_Join_L9 N X c.1.1 c.1.2.1 c.1.2.2.1 c.2.1) N c
theorem law22_alive_1_ctl_Lay_4_octs_Join_L9_S (N : Nat) (X : (((List (List (Int))) × ((Int) × ((Int) × Unit))) × ((List (Int)) × Unit)) → Option ((Unit × ((List (Int)) × Unit)))) (x22 : List (List (Int))) (x23 : Int) (x24 : Int) (h0 : List (Int)) : (roundK Go.Proofs.Try.prog (Ev74 N) 400 [71, 4, 30, 1, 29] law22_alive_1_ctl_Lay_4_octs_Join_L9_I (loopAt Go.Proofs.Try.prog [71, 4, 30, 1, 29] 9) X ((x22, x23, x24, ()), (h0, ()))).run = law22_alive_1_ctl_Lay_4_octs_Join_L9 N X x22 x23 x24 h0 := by kernel_rfl
noncomputable def Ev75 (N : Nat) : (R : Type) → Env R := Env.addLp (Ev74 N) [71, 4, 30, 1, 29] 0 9 (fun R => lpK Go.Proofs.Try.prog law22_alive_1_ctl_Lay_4_octs_Join_L9_I (fun X c => law22_alive_1_ctl_Lay_4_octs_Join_L9 N X c.1.1 c.1.2.1 c.1.2.2.1 c.2.1) N)
theorem Ev75_ok (N : Nat) (R : Type) : EnvOK Go.Proofs.Try.prog (Ev75 N R) := EnvOK.addLp (Ev74_ok N R) (by kernel_rfl) (lpK_ok (li := law22_alive_1_ctl_Lay_4_octs_Join_L9_I) (G := fun X c => law22_alive_1_ctl_Lay_4_octs_Join_L9 N X c.1.1 c.1.2.1 c.1.2.2.1 c.2.1) hmx (Ev74_ok N _) (by kernel_rfl) loopAt_sub (fun (X : CT law22_alive_1_ctl_Lay_4_octs_Join_L9_I.sh → Option (OT law22_alive_1_ctl_Lay_4_octs_Join_L9_I.outs)) (c : CT law22_alive_1_ctl_Lay_4_octs_Join_L9_I.sh) => law22_alive_1_ctl_Lay_4_octs_Join_L9_S N X c.1.1 c.1.2.1 c.1.2.2.1 c.2.1) N)
noncomputable def law22_alive (N : Nat) : Option (Bool) :=
 Option.bind (@octs_Put N (Go.IntKind.wrap .u64 (Go.IntKind.wrap .i64 ((4 : Int) + (((List.length ([] : List (Int))) : Nat) : Int)))) (2 : Int) @Bool.false) fun (v1 : ((List Int) × Int)) =>
 Option.bind (law22_alive_1_ctl_Lay_4_octs_Join_L3_R N ((([([(6 : Int), (7 : Int)] : List (Int)), v1.1, ([] : List (Int))] : List ((List Int))), ((0 : Int), (([([(6 : Int), (7 : Int)] : List (Int)), v1.1, ([] : List (Int))] : List ((List Int))), ((((List.length ([([(6 : Int), (7 : Int)] : List (Int)), v1.1, ([] : List (Int))] : List ((List Int)))) : Nat) : Int), ((0 : Int), @Unit.unit))))), @Unit.unit)) fun (v2 : (((List (List Int)) × (Int × Unit)) × Unit)) =>
 bif ((decide ((0 : Int) ≤ (0 : Int) ∧ (0 : Int) ≤ v2.1.2.1)) && (roomB (Int.toNat v2.1.2.1) 1)) then
  Option.bind (law22_alive_1_ctl_Lay_4_octs_Join_L9_R N ((v2.1.1, ((((List.length v2.1.1) : Nat) : Int), ((0 : Int), @Unit.unit))), ((@List.replicate Int (Int.toNat (0 : Int)) (0 : Int)), @Unit.unit))) fun (v3 : (Unit × ((List Int) × Unit))) =>
  bif (roomB ((List.length v3.2.1) + (List.length ([(9 : Int)] : List (Int)))) 1) then
   Option.bind (@ctl_Parse N (v3.2.1 ++ ([(9 : Int)] : List (Int)))) fun (v4 : ((Int × (Int × (List Int))) × Int)) =>
   Option.bind (@ctl_Echo N (9 : Int) (1 : Int) (258 : Int) ([(120 : Int)] : List (Int))) fun (v5 : (Int × (Int × (List Int)))) =>
   Option.bind (@ctl_Magic N (v5.1, (v5.2.1, v5.2.2))) fun (v6 : (Int × ((List Int) × Int))) =>
   Option.bind (@toBy v3.2.1) fun (v7 : (List UInt8)) =>
   bif (decide (v7 = (@Array.toList UInt8 (@List.toArray UInt8 ([(@OfNat.ofNat UInt8 (6 : Nat) (@UInt8.instOfNat (6 : Nat))), (@OfNat.ofNat UInt8 (7 : Nat) (@UInt8.instOfNat (7 : Nat))), (@OfNat.ofNat UInt8 (0 : Nat) (@UInt8.instOfNat (0 : Nat))), (@OfNat.ofNat UInt8 (4 : Nat) (@UInt8.instOfNat (4 : Nat)))] : List (UInt8)))))) then
    bif (@cond Bool @Bool.true (decide (v4.1.2.1 = (7 : Int))) @Bool.false) then
     bif (@cond Bool @Bool.true (decide ((((List.length v4.1.2.2) : Nat) : Int) = (0 : Int))) @Bool.false) then
      bif (@cond Bool @Bool.true (decide (v4.2 = (0 : Int))) @Bool.false) then
       bif (@cond Bool @Bool.true (decide (v6.1 = (258 : Int))) @Bool.false) then
        bif (@cond Bool @Bool.true (decide ((((List.length v6.2.1) : Nat) : Int) = (1 : Int))) @Bool.false) then
         some ((@cond Bool (@cond Bool @Bool.true (decide (v6.2.2 = (0 : Int))) @Bool.false) @Bool.true @Bool.false))
        else
         some ((@cond Bool @Bool.false @Bool.true @Bool.false))
       else
        some ((@cond Bool @Bool.false @Bool.true @Bool.false))
      else
       some ((@cond Bool @Bool.false @Bool.true @Bool.false))
     else
      some ((@cond Bool @Bool.false @Bool.true @Bool.false))
    else
     some ((@cond Bool @Bool.false @Bool.true @Bool.false))
   else
    some ((@cond Bool @Bool.false @Bool.true @Bool.false))
  else
   none
 else
  none
theorem law22_alive_S (N : Nat) : (runK Go.Proofs.Try.prog (Ev75 N) 400 29 [] [.bool] ()).run = law22_alive N  := by kernel_rfl
theorem law22_alive_C (N : Nat) (y : Bool) (h : law22_alive N  = some y) : CallsK Go.Proofs.Try.prog 29 (valA [] ()) (tupV (valR [.bool] y)) := runK_ok hmx (Ev75_ok N _) (okFn_ok (by kernel_rfl)) (by rw [law22_alive_S]; exact h)
noncomputable def Ev76 (N : Nat) : (R : Type) → Env R := Env.addFn (Ev75 N) 29 (fun R => fnK [] [.bool] (fun c => law22_alive N ))
theorem Ev76_ok (N : Nat) (R : Type) : EnvOK Go.Proofs.Try.prog (Ev76 N R) := EnvOK.addFn hmx (Ev75_ok N R) (Ev75_ok N _) (by kernel_rfl) (fun c => law22_alive_S N )
noncomputable def Ev77 (N : Nat) : (R : Type) → Env R := Env.addInl (Ev76 N) [72, 93]
theorem Ev77_ok (N : Nat) (R : Type) : EnvOK Go.Proofs.Try.prog (Ev77 N R) := EnvOK.addInl (Ev76_ok N R) (by kernel_rfl)
noncomputable def Ev78 (N : Nat) : (R : Type) → Env R := Env.addBx (Ev77 N) [(8, 0)]
theorem Ev78_ok (N : Nat) (R : Type) : EnvOK Go.Proofs.Try.prog (Ev78 N R) := EnvOK.addBx (Ev77_ok N R) [(8, 0)]
noncomputable def Ev79 (N : Nat) : (R : Type) → Env R := Env.addBx (Ev78 N) [(31, 0)]
theorem Ev79_ok (N : Nat) (R : Type) : EnvOK Go.Proofs.Try.prog (Ev79 N R) := EnvOK.addBx (Ev78_ok N R) [(31, 0)]
noncomputable def law22_theirs (N : Nat) (c0 : (Int) × ((Int) × (List (Int)))) : Option ((Int) × ((Int) × (List (Int)))) :=
 some ((c0.1, (c0.2.1, c0.2.2)))
theorem law22_theirs_S (N : Nat) (c0 : (Int) × ((Int) × (List (Int)))) : (runK Go.Proofs.Try.prog (Ev79 N) 400 31 [(.pair (.int .u8) (.pair (.int .u8) (.sl (.int .u8))))] [(.pair (.int .u8) (.pair (.int .u8) (.sl (.int .u8))))] (c0, ())).run = law22_theirs N c0 := by kernel_rfl
noncomputable def Ev80 (N : Nat) : (R : Type) → Env R := Env.addFn (Ev79 N) 31 (fun R => fnK [(.pair (.int .u8) (.pair (.int .u8) (.sl (.int .u8))))] [(.pair (.int .u8) (.pair (.int .u8) (.sl (.int .u8))))] (fun c => law22_theirs N c.1))
theorem Ev80_ok (N : Nat) (R : Type) : EnvOK Go.Proofs.Try.prog (Ev80 N R) := EnvOK.addFn hmx (Ev79_ok N R) (Ev79_ok N _) (by kernel_rfl) (fun c => law22_theirs_S N c.1)
noncomputable def law22_CtlLays (N : Nat) (c0 : (Int) × ((Int) × (List (Int)))) (b1 : List (Int)) : Option (Bool) :=
 bif (decide ((4500 : Int) < (((List.length c0.2.2) : Nat) : Int))) then
  Option.bind (@law22_alive N) fun (v3 : Bool) =>
  some (v3)
 else
  bif (@cond Bool @Bool.false @Bool.true (decide ((4500 : Int) < (((List.length b1) : Nat) : Int)))) then
   Option.bind (@law22_alive N) fun (v3 : Bool) =>
   some (v3)
  else
   Option.bind (@ctl_Lay N (c0.1, (c0.2.1, c0.2.2))) fun (v3 : ((List Int) × Int)) =>
   Option.bind (@ref22_Lay N (c0.1, (c0.2.1, c0.2.2))) fun (v4 : ((List Int) × Int)) =>
   Option.bind (@ctl_Parse N b1) fun (v5 : ((Int × (Int × (List Int))) × Int)) =>
   Option.bind (@ref22_Parse N b1) fun (v6 : ((Int × (Int × (List Int))) × Int)) =>
   bif (roomB (List.length v3.1) 1) then
    bif (roomB ((List.length v3.1) + (List.length b1)) 1) then
     Option.bind (@ctl_Parse N (v3.1 ++ b1)) fun (v7 : ((Int × (Int × (List Int))) × Int)) =>
     Option.bind (@ref01_Same N v3.1 v4.1) fun (v8 : Bool) =>
     bif v8 then
      bif (@cond Bool @Bool.true (decide (v3.2 = v4.2)) @Bool.false) then
       Option.bind (@ctl_Same N (v5.1.1, (v5.1.2.1, v5.1.2.2)) (v6.1.1, (v6.1.2.1, v6.1.2.2))) fun (v9 : Bool) =>
       bif (@cond Bool @Bool.true v9 @Bool.false) then
        bif (@cond Bool @Bool.true (decide (v5.2 = v6.2)) @Bool.false) then
         Option.bind (@ctl_Same N (v5.1.1, (v5.1.2.1, v5.1.2.2)) (c0.1, (c0.2.1, c0.2.2))) fun (v10 : Bool) =>
         Option.bind (@ref22_Same N (v6.1.1, (v6.1.2.1, v6.1.2.2)) (c0.1, (c0.2.1, c0.2.2))) fun (v11 : Bool) =>
         bif (@cond Bool @Bool.true (@BEq.beq Bool (@instBEqOfDecidableEq Bool @instDecidableEqBool) v10 v11) @Bool.false) then
          bif (!(decide (v3.2 = (0 : Int)))) then
           Option.bind (@law22_alive N) fun (v12 : Bool) =>
           some ((@cond Bool @Bool.true v12 @Bool.false))
          else
           Option.bind (@ctl_Same N (v7.1.1, (v7.1.2.1, v7.1.2.2)) (c0.1, (c0.2.1, c0.2.2))) fun (v12 : Bool) =>
           bif v12 then
            bif (@cond Bool @Bool.true (@cond Bool @Bool.false @Bool.true (@cond Bool @Bool.true (decide (v7.2 = (0 : Int))) @Bool.false)) @Bool.false) then
             Option.bind (@law22_alive N) fun (v13 : Bool) =>
             some ((@cond Bool @Bool.true v13 @Bool.false))
            else
             some (@Bool.false)
           else
            some (@Bool.false)
         else
          some (@Bool.false)
        else
         some (@Bool.false)
       else
        some (@Bool.false)
      else
       some (@Bool.false)
     else
      some (@Bool.false)
    else
     none
   else
    none
theorem law22_CtlLays_S (N : Nat) (c0 : (Int) × ((Int) × (List (Int)))) (b1 : List (Int)) : (runK Go.Proofs.Try.prog (Ev80 N) 400 8 [(.pair (.int .u8) (.pair (.int .u8) (.sl (.int .u8)))), (.sl (.int .u8))] [.bool] (c0, b1, ())).run = law22_CtlLays N c0 b1 := by kernel_rfl
theorem law22_CtlLays_C (N : Nat) (c0 : (Int) × ((Int) × (List (Int)))) (b1 : List (Int)) (y : Bool) (h : law22_CtlLays N c0 b1 = some y) : CallsK Go.Proofs.Try.prog 8 (valA [(.pair (.int .u8) (.pair (.int .u8) (.sl (.int .u8)))), (.sl (.int .u8))] (c0, b1, ())) (tupV (valR [.bool] y)) := runK_ok hmx (Ev80_ok N _) (okFn_ok (by kernel_rfl)) (by rw [law22_CtlLays_S]; exact h)
noncomputable def Ev81 (N : Nat) : (R : Type) → Env R := Env.addFn (Ev80 N) 8 (fun R => fnK [(.pair (.int .u8) (.pair (.int .u8) (.sl (.int .u8)))), (.sl (.int .u8))] [.bool] (fun c => law22_CtlLays N c.1 c.2.1))
theorem Ev81_ok (N : Nat) (R : Type) : EnvOK Go.Proofs.Try.prog (Ev81 N R) := EnvOK.addFn hmx (Ev80_ok N R) (Ev80_ok N _) (by kernel_rfl) (fun c => law22_CtlLays_S N c.1 c.2.1)
noncomputable def Ev82 (N : Nat) : (R : Type) → Env R := Env.addBx (Ev81 N) [(9, 0)]
theorem Ev82_ok (N : Nat) (R : Type) : EnvOK Go.Proofs.Try.prog (Ev82 N R) := EnvOK.addBx (Ev81_ok N R) [(9, 0)]
noncomputable def law22_CtlOptions_L2_I : LI := ⟨117, 0, [], ⟨[(1, .ty (.sl (.pair (.int .u8) (.sl (.int .u8))))), (3, .adr (.arr 2 (.int .u8))), (5, .adr (.pair (.int .u8) (.pair (.int .u8) (.sl (.int .u8))))), (23, .ty (.sl (.pair (.int .u8) (.sl (.int .u8))))), (24, .ty (.int .i64)), (25, .ty (.int .i64))], []⟩, [(.ret, ⟨[(6, .ty .bool)], []⟩), (.exit 0, ⟨[(1, .ty (.sl (.pair (.int .u8) (.sl (.int .u8))))), (3, .adr (.arr 2 (.int .u8))), (5, .adr (.pair (.int .u8) (.pair (.int .u8) (.sl (.int .u8)))))], []⟩)]⟩
noncomputable def law22_CtlOptions_L2 (N : Nat) (X : (((List ((Int) × (List (Int)))) × ((Arr (Int) 2) × (((Int) × ((Int) × (List (Int)))) × ((List ((Int) × (List (Int)))) × ((Int) × ((Int) × Unit)))))) × Unit) → Option (((((Bool) × Unit) × Unit) ⊕ (((List ((Int) × (List (Int)))) × ((Arr (Int) 2) × (((Int) × ((Int) × (List (Int)))) × Unit))) × Unit)))) (l1 : List ((Int) × (List (Int)))) (head3 : Arr (Int) 2) (c5 : (Int) × ((Int) × (List (Int)))) (x23 : List ((Int) × (List (Int)))) (x24 : Int) (x25 : Int) : Option (((((Bool) × Unit) × Unit) ⊕ (((List ((Int) × (List (Int)))) × ((Arr (Int) 2) × (((Int) × ((Int) × (List (Int)))) × Unit))) × Unit))) :=
 bif (decide (x25 < x24)) then
  Option.bind (getI x23 x25) fun (v8 : (Int × (List Int))) =>
  bif (decide ((300 : Int) < (((List.length v8.2) : Nat) : Int))) then
   Option.bind (@law22_alive N) fun (v9 : Bool) =>
   some ((.inl ((v9, @Unit.unit), @Unit.unit)))
  else
   (X ((l1, (head3, ((c5.1, (c5.2.1, c5.2.2)), (x23, (x24, ((Go.IntKind.wrap .i64 (x25 + (1 : Int))), @Unit.unit)))))), @Unit.unit))
 else
  some ((.inr ((l1, (head3, ((c5.1, (c5.2.1, c5.2.2)), @Unit.unit))), @Unit.unit)))
noncomputable def law22_CtlOptions_L2_R (N : Nat) (c : (((List ((Int) × (List (Int)))) × ((Arr (Int) 2) × (((Int) × ((Int) × (List (Int)))) × ((List ((Int) × (List (Int)))) × ((Int) × ((Int) × Unit)))))) × Unit)) : Option (((((Bool) × Unit) × Unit) ⊕ (((List ((Int) × (List (Int)))) × ((Arr (Int) 2) × (((Int) × ((Int) × (List (Int)))) × Unit))) × Unit))) := gl (fun X c => law22_CtlOptions_L2 N X c.1.1 c.1.2.1 c.1.2.2.1 c.1.2.2.2.1 c.1.2.2.2.2.1 c.1.2.2.2.2.2.1) N c
theorem law22_CtlOptions_L2_S (N : Nat) (X : (((List ((Int) × (List (Int)))) × ((Arr (Int) 2) × (((Int) × ((Int) × (List (Int)))) × ((List ((Int) × (List (Int)))) × ((Int) × ((Int) × Unit)))))) × Unit) → Option (((((Bool) × Unit) × Unit) ⊕ (((List ((Int) × (List (Int)))) × ((Arr (Int) 2) × (((Int) × ((Int) × (List (Int)))) × Unit))) × Unit)))) (l1 : List ((Int) × (List (Int)))) (head3 : Arr (Int) 2) (c5 : (Int) × ((Int) × (List (Int)))) (x23 : List ((Int) × (List (Int)))) (x24 : Int) (x25 : Int) : (roundK Go.Proofs.Try.prog (Ev82 N) 400 [9] law22_CtlOptions_L2_I (loopAt Go.Proofs.Try.prog [9] 2) X ((l1, head3, c5, x23, x24, x25, ()), ())).run = law22_CtlOptions_L2 N X l1 head3 c5 x23 x24 x25 := by kernel_rfl
noncomputable def Ev83 (N : Nat) : (R : Type) → Env R := Env.addLp (Ev82 N) [9] 0 2 (fun R => lpK Go.Proofs.Try.prog law22_CtlOptions_L2_I (fun X c => law22_CtlOptions_L2 N X c.1.1 c.1.2.1 c.1.2.2.1 c.1.2.2.2.1 c.1.2.2.2.2.1 c.1.2.2.2.2.2.1) N)
theorem Ev83_ok (N : Nat) (R : Type) : EnvOK Go.Proofs.Try.prog (Ev83 N R) := EnvOK.addLp (Ev82_ok N R) (by kernel_rfl) (lpK_ok (li := law22_CtlOptions_L2_I) (G := fun X c => law22_CtlOptions_L2 N X c.1.1 c.1.2.1 c.1.2.2.1 c.1.2.2.2.1 c.1.2.2.2.2.1 c.1.2.2.2.2.2.1) hmx (Ev82_ok N _) (by kernel_rfl) loopAt_sub (fun (X : CT law22_CtlOptions_L2_I.sh → Option (OT law22_CtlOptions_L2_I.outs)) (c : CT law22_CtlOptions_L2_I.sh) => law22_CtlOptions_L2_S N X c.1.1 c.1.2.1 c.1.2.2.1 c.1.2.2.2.1 c.1.2.2.2.2.1 c.1.2.2.2.2.2.1) N)
noncomputable def Ev84 (N : Nat) : (R : Type) → Env R := Env.addMv (Ev83 N) [(38, 5)]
theorem Ev84_ok (N : Nat) (R : Type) : EnvOK Go.Proofs.Try.prog (Ev84 N R) := EnvOK.addMv (Ev83_ok N R) [(38, 5)]
noncomputable def law22_options_L3_I : LI := ⟨22, 0, [(3, 157)], ⟨[(3, .lit (.own 0)), (6, .ty (.sl (.pair (.int .u8) (.sl (.int .u8))))), (7, .ty (.int .i64)), (8, .ty (.int .i64))], [.own (.pair (.int .u8) (.sl (.int .u8))) 157]⟩, [(.exit 0, ⟨[(3, .lit (.own 0))], [.own (.pair (.int .u8) (.sl (.int .u8))) 157]⟩)]⟩
noncomputable def law22_options_L3 (N : Nat) (X : (((List ((Int) × (List (Int)))) × ((Int) × ((Int) × Unit))) × ((List ((Int) × (List (Int)))) × Unit)) → Option ((Unit × ((List ((Int) × (List (Int)))) × Unit)))) (x6 : List ((Int) × (List (Int)))) (x7 : Int) (x8 : Int) (h0 : List ((Int) × (List (Int)))) : Option ((Unit × ((List ((Int) × (List (Int)))) × Unit))) :=
 bif (decide (x8 < x7)) then
  Option.bind (getI x6 x8) fun (v6 : (Int × (List Int))) =>
  bif (roomB ((List.length h0) + (List.length ([(v6.1, v6.2)] : List ((Int × (List Int)))))) 32) then
   (X ((x6, (x7, ((Go.IntKind.wrap .i64 (x8 + (1 : Int))), @Unit.unit))), ((h0 ++ ([(v6.1, v6.2)] : List ((Int × (List Int))))), @Unit.unit)))
  else
   none
 else
  some ((@Unit.unit, (h0, @Unit.unit)))
noncomputable def law22_options_L3_R (N : Nat) (c : (((List ((Int) × (List (Int)))) × ((Int) × ((Int) × Unit))) × ((List ((Int) × (List (Int)))) × Unit))) : Option ((Unit × ((List ((Int) × (List (Int)))) × Unit))) := gl (fun X c => law22_options_L3 N X c.1.1 c.1.2.1 c.1.2.2.1 c.2.1) N c
theorem law22_options_L3_S (N : Nat) (X : (((List ((Int) × (List (Int)))) × ((Int) × ((Int) × Unit))) × ((List ((Int) × (List (Int)))) × Unit)) → Option ((Unit × ((List ((Int) × (List (Int)))) × Unit)))) (x6 : List ((Int) × (List (Int)))) (x7 : Int) (x8 : Int) (h0 : List ((Int) × (List (Int)))) : (roundK Go.Proofs.Try.prog (Ev84 N) 400 [38] law22_options_L3_I (loopAt Go.Proofs.Try.prog [38] 3) X ((x6, x7, x8, ()), (h0, ()))).run = law22_options_L3 N X x6 x7 x8 h0 := by kernel_rfl
noncomputable def Ev85 (N : Nat) : (R : Type) → Env R := Env.addLp (Ev84 N) [38] 0 3 (fun R => lpK Go.Proofs.Try.prog law22_options_L3_I (fun X c => law22_options_L3 N X c.1.1 c.1.2.1 c.1.2.2.1 c.2.1) N)
theorem Ev85_ok (N : Nat) (R : Type) : EnvOK Go.Proofs.Try.prog (Ev85 N R) := EnvOK.addLp (Ev84_ok N R) (by kernel_rfl) (lpK_ok (li := law22_options_L3_I) (G := fun X c => law22_options_L3 N X c.1.1 c.1.2.1 c.1.2.2.1 c.2.1) hmx (Ev84_ok N _) (by kernel_rfl) loopAt_sub (fun (X : CT law22_options_L3_I.sh → Option (OT law22_options_L3_I.outs)) (c : CT law22_options_L3_I.sh) => law22_options_L3_S N X c.1.1 c.1.2.1 c.1.2.2.1 c.2.1) N)
noncomputable def law22_options (N : Nat) (l0 : List ((Int) × (List (Int)))) : Option (List ((Int) × (List (Int)))) :=
 Option.bind (law22_options_L3_R N ((l0, ((((List.length l0) : Nat) : Int), ((0 : Int), @Unit.unit))), (([] : List ((Int × (List Int)))), @Unit.unit))) fun (v2 : (Unit × ((List (Int × (List Int))) × Unit))) =>
 some (v2.2.1)
theorem law22_options_S (N : Nat) (l0 : List ((Int) × (List (Int)))) : (runK Go.Proofs.Try.prog (Ev85 N) 400 38 [(.sl (.pair (.int .u8) (.sl (.int .u8))))] [(.sl (.pair (.int .u8) (.sl (.int .u8))))] (l0, ())).run = law22_options N l0 := by kernel_rfl
noncomputable def Ev86 (N : Nat) : (R : Type) → Env R := Env.addFn (Ev85 N) 38 (fun R => fnK [(.sl (.pair (.int .u8) (.sl (.int .u8))))] [(.sl (.pair (.int .u8) (.sl (.int .u8))))] (fun c => law22_options N c.1))
theorem Ev86_ok (N : Nat) (R : Type) : EnvOK Go.Proofs.Try.prog (Ev86 N R) := EnvOK.addFn hmx (Ev85_ok N R) (Ev85_ok N _) (by kernel_rfl) (fun c => law22_options_S N c.1)
noncomputable def law22_CtlOptions (N : Nat) (head0 : Arr (Int) 2) (l1 : List ((Int) × (List (Int)))) (c2 : (Int) × ((Int) × (List (Int)))) : Option (Bool) :=
 Option.bind (takeI l1 (@minI (((List.length l1) : Nat) : Int) (40 : Int))) fun (v4 : (List (Int × (List Int)))) =>
 Option.bind (law22_CtlOptions_L2_R N ((l1, (head0, ((c2.1, (c2.2.1, c2.2.2)), (v4, ((((List.length v4) : Nat) : Int), ((0 : Int), @Unit.unit)))))), @Unit.unit)) fun (v5 : (((Bool × Unit) × Unit) ⊕ (((List (Int × (List Int))) × ((Arr Int 2) × ((Int × (Int × (List Int))) × Unit))) × Unit))) =>
 Sum.elim
  (fun (v6 : ((Bool × Unit) × Unit)) =>
  some (v6.1.1))
  (fun (v6 : (((List (Int × (List Int))) × ((Arr Int 2) × ((Int × (Int × (List Int))) × Unit))) × Unit)) =>
  bif (decide ((40 : Int) < (((List.length v6.1.1) : Nat) : Int))) then
   Option.bind (@law22_alive N) fun (v7 : Bool) =>
   some (v7)
  else
   bif (@cond Bool @Bool.false @Bool.true (decide ((4500 : Int) < (((List.length v6.1.2.2.1.2.2) : Nat) : Int)))) then
    Option.bind (@law22_alive N) fun (v7 : Bool) =>
    some (v7)
   else
    Option.bind (getI v6.1.2.1.l (0 : Int)) fun (v7 : Int) =>
    Option.bind (getI v6.1.2.1.l (1 : Int)) fun (v8 : Int) =>
    Option.bind (@law22_options N v6.1.1) fun (v9 : (List (Int × (List Int)))) =>
    Option.bind (@ctl_Conf N v7 v8 v9) fun (v10 : ((Int × (Int × (List Int))) × Int)) =>
    Option.bind (getI v6.1.2.1.l (0 : Int)) fun (v11 : Int) =>
    Option.bind (getI v6.1.2.1.l (1 : Int)) fun (v12 : Int) =>
    Option.bind (@ref22_Conf N v11 v12 v6.1.1) fun (v13 : ((Int × (Int × (List Int))) × Int)) =>
    Option.bind (@ctl_Options N (v6.1.2.2.1.1, (v6.1.2.2.1.2.1, v6.1.2.2.1.2.2))) fun (v14 : ((List (Int × (List Int))) × Int)) =>
    Option.bind (@ref22_Options N (v6.1.2.2.1.1, (v6.1.2.2.1.2.1, v6.1.2.2.1.2.2))) fun (v15 : ((List (Int × (List Int))) × Int)) =>
    Option.bind (@ctl_Options N (v10.1.1, (v10.1.2.1, v10.1.2.2))) fun (v16 : ((List (Int × (List Int))) × Int)) =>
    Option.bind (@ctl_Same N (v10.1.1, (v10.1.2.1, v10.1.2.2)) (v13.1.1, (v13.1.2.1, v13.1.2.2))) fun (v17 : Bool) =>
    bif v17 then
     bif (@cond Bool @Bool.true (decide (v10.2 = v13.2)) @Bool.false) then
      Option.bind (@law22_options N v15.1) fun (v18 : (List (Int × (List Int)))) =>
      Option.bind (@opts_Same N v14.1 v18) fun (v19 : Bool) =>
      bif (@cond Bool @Bool.true v19 @Bool.false) then
       bif (@cond Bool @Bool.true (decide (v14.2 = v15.2)) @Bool.false) then
        bif (!(decide (v10.2 = (0 : Int)))) then
         Option.bind (@law22_alive N) fun (v20 : Bool) =>
         some ((@cond Bool @Bool.true v20 @Bool.false))
        else
         Option.bind (@law22_options N v6.1.1) fun (v20 : (List (Int × (List Int)))) =>
         Option.bind (@opts_Same N v16.1 v20) fun (v21 : Bool) =>
         bif v21 then
          bif (@cond Bool @Bool.true (@cond Bool @Bool.false @Bool.true (@cond Bool @Bool.true (decide (v16.2 = (0 : Int))) @Bool.false)) @Bool.false) then
           Option.bind (@law22_alive N) fun (v22 : Bool) =>
           some ((@cond Bool @Bool.true v22 @Bool.false))
          else
           some (@Bool.false)
         else
          some (@Bool.false)
       else
        some (@Bool.false)
      else
       some (@Bool.false)
     else
      some (@Bool.false)
    else
     some (@Bool.false)) v5
theorem law22_CtlOptions_S (N : Nat) (head0 : Arr (Int) 2) (l1 : List ((Int) × (List (Int)))) (c2 : (Int) × ((Int) × (List (Int)))) : (runK Go.Proofs.Try.prog (Ev86 N) 400 9 [(.arr 2 (.int .u8)), (.sl (.pair (.int .u8) (.sl (.int .u8)))), (.pair (.int .u8) (.pair (.int .u8) (.sl (.int .u8))))] [.bool] (head0, l1, c2, ())).run = law22_CtlOptions N head0 l1 c2 := by kernel_rfl
theorem law22_CtlOptions_C (N : Nat) (head0 : Arr (Int) 2) (l1 : List ((Int) × (List (Int)))) (c2 : (Int) × ((Int) × (List (Int)))) (y : Bool) (h : law22_CtlOptions N head0 l1 c2 = some y) : CallsK Go.Proofs.Try.prog 9 (valA [(.arr 2 (.int .u8)), (.sl (.pair (.int .u8) (.sl (.int .u8)))), (.pair (.int .u8) (.pair (.int .u8) (.sl (.int .u8))))] (head0, l1, c2, ())) (tupV (valR [.bool] y)) := runK_ok hmx (Ev86_ok N _) (okFn_ok (by kernel_rfl)) (by rw [law22_CtlOptions_S]; exact h)
noncomputable def Ev87 (N : Nat) : (R : Type) → Env R := Env.addFn (Ev86 N) 9 (fun R => fnK [(.arr 2 (.int .u8)), (.sl (.pair (.int .u8) (.sl (.int .u8)))), (.pair (.int .u8) (.pair (.int .u8) (.sl (.int .u8))))] [.bool] (fun c => law22_CtlOptions N c.1 c.2.1 c.2.2.1))
theorem Ev87_ok (N : Nat) (R : Type) : EnvOK Go.Proofs.Try.prog (Ev87 N R) := EnvOK.addFn hmx (Ev86_ok N R) (Ev86_ok N _) (by kernel_rfl) (fun c => law22_CtlOptions_S N c.1 c.2.1 c.2.2.1)
noncomputable def Ev88 (N : Nat) : (R : Type) → Env R := Env.addBx (Ev87 N) [(10, 0)]
theorem Ev88_ok (N : Nat) (R : Type) : EnvOK Go.Proofs.Try.prog (Ev88 N R) := EnvOK.addBx (Ev87_ok N R) [(10, 0)]
noncomputable def law22_CtlRejects (N : Nat) (c0 : (Int) × ((Int) × (List (Int)))) (f1 : (Int) × (List (Int))) (most2 : Int) : Option (Bool) :=
 bif (decide ((4500 : Int) < (((List.length c0.2.2) : Nat) : Int))) then
  Option.bind (@law22_alive N) fun (v4 : Bool) =>
  some (v4)
 else
  bif (@cond Bool @Bool.false @Bool.true (decide ((4500 : Int) < (((List.length f1.2) : Nat) : Int)))) then
   Option.bind (@law22_alive N) fun (v4 : Bool) =>
   some (v4)
  else
   Option.bind (@ctl_Magic N (c0.1, (c0.2.1, c0.2.2))) fun (v4 : (Int × ((List Int) × Int))) =>
   Option.bind (@ref22_Magic N (c0.1, (c0.2.1, c0.2.2))) fun (v5 : (Int × ((List Int) × Int))) =>
   Option.bind (@ctl_Reject N c0.2.1 (c0.1, (c0.2.1, c0.2.2)) most2) fun (v6 : (Int × (Int × (List Int)))) =>
   Option.bind (@ref22_Reject N c0.2.1 (c0.1, (c0.2.1, c0.2.2)) most2) fun (v7 : (Int × (Int × (List Int)))) =>
   Option.bind (@ctl_Same N (v6.1, (v6.2.1, v6.2.2)) (v7.1, (v7.2.1, v7.2.2))) fun (v8 : Bool) =>
   bif v8 then
    Option.bind (@ctl_Proto N c0.2.1 (f1.1, f1.2) most2) fun (v9 : (Int × (Int × (List Int)))) =>
    Option.bind (@ref22_Proto N c0.2.1 (f1.1, f1.2) most2) fun (v10 : (Int × (Int × (List Int)))) =>
    Option.bind (@ctl_Same N (v9.1, (v9.2.1, v9.2.2)) (v10.1, (v10.2.1, v10.2.2))) fun (v11 : Bool) =>
    bif (@cond Bool @Bool.true v11 @Bool.false) then
     Option.bind (@ctl_Echo N c0.1 c0.2.1 (Go.IntKind.wrap .u32 most2) f1.2) fun (v12 : (Int × (Int × (List Int)))) =>
     Option.bind (@ref22_Echo N c0.1 c0.2.1 (Go.IntKind.wrap .u32 most2) f1.2) fun (v13 : (Int × (Int × (List Int)))) =>
     Option.bind (@ctl_Same N (v12.1, (v12.2.1, v12.2.2)) (v13.1, (v13.2.1, v13.2.2))) fun (v14 : Bool) =>
     bif (@cond Bool @Bool.true v14 @Bool.false) then
      bif (@cond Bool @Bool.true (decide (v4.1 = v5.1)) @Bool.false) then
       Option.bind (@ref01_Same N v4.2.1 v5.2.1) fun (v15 : Bool) =>
       bif (@cond Bool @Bool.true v15 @Bool.false) then
        bif (@cond Bool @Bool.true (decide (v4.2.2 = v5.2.2)) @Bool.false) then
         Option.bind (@law22_alive N) fun (v16 : Bool) =>
         some ((@cond Bool @Bool.true v16 @Bool.false))
        else
         some (@Bool.false)
       else
        some (@Bool.false)
      else
       some (@Bool.false)
     else
      some (@Bool.false)
    else
     some (@Bool.false)
   else
    some (@Bool.false)
theorem law22_CtlRejects_S (N : Nat) (c0 : (Int) × ((Int) × (List (Int)))) (f1 : (Int) × (List (Int))) (most2 : Int) : (runK Go.Proofs.Try.prog (Ev88 N) 400 10 [(.pair (.int .u8) (.pair (.int .u8) (.sl (.int .u8)))), (.pair (.int .u16) (.sl (.int .u8))), (.int .i64)] [.bool] (c0, f1, most2, ())).run = law22_CtlRejects N c0 f1 most2 := by kernel_rfl
theorem law22_CtlRejects_C (N : Nat) (c0 : (Int) × ((Int) × (List (Int)))) (f1 : (Int) × (List (Int))) (most2 : Int) (y : Bool) (h : law22_CtlRejects N c0 f1 most2 = some y) : CallsK Go.Proofs.Try.prog 10 (valA [(.pair (.int .u8) (.pair (.int .u8) (.sl (.int .u8)))), (.pair (.int .u16) (.sl (.int .u8))), (.int .i64)] (c0, f1, most2, ())) (tupV (valR [.bool] y)) := runK_ok hmx (Ev88_ok N _) (okFn_ok (by kernel_rfl)) (by rw [law22_CtlRejects_S]; exact h)
noncomputable def Ev89 (N : Nat) : (R : Type) → Env R := Env.addFn (Ev88 N) 10 (fun R => fnK [(.pair (.int .u8) (.pair (.int .u8) (.sl (.int .u8)))), (.pair (.int .u16) (.sl (.int .u8))), (.int .i64)] [.bool] (fun c => law22_CtlRejects N c.1 c.2.1 c.2.2.1))
theorem Ev89_ok (N : Nat) (R : Type) : EnvOK Go.Proofs.Try.prog (Ev89 N R) := EnvOK.addFn hmx (Ev88_ok N R) (Ev88_ok N _) (by kernel_rfl) (fun c => law22_CtlRejects_S N c.1 c.2.1 c.2.2.1)
end Go.Proofs.Ytdaminjbockmbaa
