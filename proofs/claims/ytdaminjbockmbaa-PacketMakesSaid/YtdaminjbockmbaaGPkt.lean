/-
  Functions of the program as plain functions on typed data, and that they are so. Printed by a program of mine.
-/
import Derived.Test.YtdaminjbockmbaaKC
namespace Go.Proofs.Ytdaminjbockmbaa
open Go.RowKit
set_option linter.unusedVariables false
set_option maxRecDepth 100000
theorem hmx : Go.Proofs.Try.prog.follows .mixedOrders = true := by kernel_rfl
noncomputable def Ev0 (N : Nat) : (R : Type) → Env R := Env.addInl env0 [72]
theorem Ev0_ok (N : Nat) (R : Type) : EnvOK Go.Proofs.Try.prog (Ev0 N R) := EnvOK.addInl (env0_ok R) (by kernel_rfl)
noncomputable def Ev1 (N : Nat) : (R : Type) → Env R := Env.addBx (Ev0 N) [(97, 0)]
theorem Ev1_ok (N : Nat) (R : Type) : EnvOK Go.Proofs.Try.prog (Ev1 N R) := EnvOK.addBx (Ev0_ok N R) [(97, 0)]
noncomputable def attr_isKind (N : Nat) (kind0 : Int) : Option (Bool) :=
 bif (decide ((1 : Int) ≤ kind0)) then
  some ((@cond Bool @Bool.true (decide (kind0 ≤ (4 : Int))) @Bool.false))
 else
  some (@Bool.false)
theorem attr_isKind_S (N : Nat) (kind0 : Int) : (runK Go.Proofs.Try.prog (Ev1 N) 400 112 [(.int .u8)] [.bool] (kind0, ())).run = attr_isKind N kind0 := by kernel_rfl
noncomputable def Ev2 (N : Nat) : (R : Type) → Env R := Env.addFn (Ev1 N) 112 (fun R => fnK [(.int .u8)] [.bool] (fun c => attr_isKind N c.1))
theorem Ev2_ok (N : Nat) (R : Type) : EnvOK Go.Proofs.Try.prog (Ev2 N R) := EnvOK.addFn hmx (Ev1_ok N R) (Ev1_ok N _) (by kernel_rfl) (fun c => attr_isKind_S N c.1)
noncomputable def octs_place (N : Nat) (i0 : Int) (width1 : Int) (little2 : Bool) : Option (Int) :=
 bif little2 then
  some (i0)
 else
  some ((Go.IntKind.wrap .i64 ((Go.IntKind.wrap .i64 (width1 - (1 : Int))) - i0)))
theorem octs_place_S (N : Nat) (i0 : Int) (width1 : Int) (little2 : Bool) : (runK Go.Proofs.Try.prog (Ev2 N) 400 108 [(.int .i64), (.int .i64), .bool] [(.int .i64)] (i0, width1, little2, ())).run = octs_place N i0 width1 little2 := by kernel_rfl
noncomputable def Ev3 (N : Nat) : (R : Type) → Env R := Env.addFn (Ev2 N) 108 (fun R => fnK [(.int .i64), (.int .i64), .bool] [(.int .i64)] (fun c => octs_place N c.1 c.2.1 c.2.2.1))
theorem Ev3_ok (N : Nat) (R : Type) : EnvOK Go.Proofs.Try.prog (Ev3 N R) := EnvOK.addFn hmx (Ev2_ok N R) (Ev2_ok N _) (by kernel_rfl) (fun c => octs_place_S N c.1 c.2.1 c.2.2.1)
noncomputable def octs_Put_L5_I : LI := ⟨35, 0, [], ⟨[(0, .ty (.int .u64)), (1, .ty (.int .i64)), (2, .ty .bool), (8, .lit (.own 0)), (19, .ty (.int .i64)), (20, .ty (.int .i64))], [.own (.int .u8) 5]⟩, [(.exit 0, ⟨[(8, .lit (.own 0))], [.own (.int .u8) 5]⟩)]⟩
noncomputable def octs_Put_L5 (N : Nat) (X : (((Int) × ((Int) × ((Bool) × ((Int) × ((Int) × Unit))))) × ((List (Int)) × Unit)) → Option ((Unit × ((List (Int)) × Unit)))) (n0 : Int) (width1 : Int) (little2 : Bool) (x19 : Int) (x20 : Int) (h0 : List (Int)) : Option ((Unit × ((List (Int)) × Unit))) :=
 bif (decide (x20 < x19)) then
  Option.bind (@octs_place N x20 width1 little2) fun (v8 : Int) =>
  bif (decide ((0 : Int) ≤ v8 ∧ v8 < (((List.length h0) : Nat) : Int))) then
   Option.bind (@GetElem?.getElem? (List Int) Nat Int (fun (as9 : (List Int)) => (fun (i10 : Nat) => (@LT.lt Nat @instLTNat i10 (List.length as9)))) (@List.instGetElem?NatLtLength Int) h0 (Int.toNat v8)) fun (v9 : Int) =>
   (X (((@Int.fdiv n0 (@HPow.hPow Int Nat Int (@instHPow Int Nat (@instPowNat Int @Int.instNatPow)) (2 : Int) (@Min.min Nat @instMinNat (Int.toNat (8 : Int)) (@Go.IntKind.bits @Go.IntKind.u64)))), (width1, (little2, (x19, ((Go.IntKind.wrap .i64 (x20 + (1 : Int))), @Unit.unit))))), ((@List.set Int h0 (Int.toNat v8) (Go.IntKind.wrap .u8 n0)), @Unit.unit)))
  else
   none
 else
  some ((@Unit.unit, (h0, @Unit.unit)))
noncomputable def octs_Put_L5_R (N : Nat) (c : (((Int) × ((Int) × ((Bool) × ((Int) × ((Int) × Unit))))) × ((List (Int)) × Unit))) : Option ((Unit × ((List (Int)) × Unit))) := gl (fun X c => octs_Put_L5 N X c.1.1 c.1.2.1 c.1.2.2.1 c.1.2.2.2.1 c.1.2.2.2.2.1 c.2.1) N c
theorem octs_Put_L5_S (N : Nat) (X : (((Int) × ((Int) × ((Bool) × ((Int) × ((Int) × Unit))))) × ((List (Int)) × Unit)) → Option ((Unit × ((List (Int)) × Unit)))) (n0 : Int) (width1 : Int) (little2 : Bool) (x19 : Int) (x20 : Int) (h0 : List (Int)) : (roundK Go.Proofs.Try.prog (Ev3 N) 400 [70] octs_Put_L5_I (loopAt Go.Proofs.Try.prog [70] 5) X ((n0, width1, little2, x19, x20, ()), (h0, ()))).run = octs_Put_L5 N X n0 width1 little2 x19 x20 h0 := by kernel_rfl
noncomputable def Ev4 (N : Nat) : (R : Type) → Env R := Env.addLp (Ev3 N) [70] 0 5 (fun R => lpK Go.Proofs.Try.prog octs_Put_L5_I (fun X c => octs_Put_L5 N X c.1.1 c.1.2.1 c.1.2.2.1 c.1.2.2.2.1 c.1.2.2.2.2.1 c.2.1) N)
theorem Ev4_ok (N : Nat) (R : Type) : EnvOK Go.Proofs.Try.prog (Ev4 N R) := EnvOK.addLp (Ev3_ok N R) (by kernel_rfl) (lpK_ok (li := octs_Put_L5_I) (G := fun X c => octs_Put_L5 N X c.1.1 c.1.2.1 c.1.2.2.1 c.1.2.2.2.1 c.1.2.2.2.2.1 c.2.1) hmx (Ev3_ok N _) (by kernel_rfl) loopAt_sub (fun (X : CT octs_Put_L5_I.sh → Option (OT octs_Put_L5_I.outs)) (c : CT octs_Put_L5_I.sh) => octs_Put_L5_S N X c.1.1 c.1.2.1 c.1.2.2.1 c.1.2.2.2.1 c.1.2.2.2.2.1 c.2.1) N)
noncomputable def octs_Put (N : Nat) (n0 : Int) (width1 : Int) (little2 : Bool) : Option ((List (Int)) × Int) :=
 bif (decide (width1 < (1 : Int))) then
  some ((([] : List (Int)), (1 : Int)))
 else
  bif (@cond Bool @Bool.false @Bool.true (decide ((8 : Int) < width1))) then
   some ((([] : List (Int)), (1 : Int)))
  else
   bif ((decide ((0 : Int) ≤ width1 ∧ width1 ≤ width1)) && (roomB (Int.toNat width1) 1)) then
    Option.bind (octs_Put_L5_R N ((n0, (width1, (little2, ((((List.length (@List.replicate Int (Int.toNat width1) (0 : Int))) : Nat) : Int), ((0 : Int), @Unit.unit))))), ((@List.replicate Int (Int.toNat width1) (0 : Int)), @Unit.unit))) fun (v4 : (Unit × ((List Int) × Unit))) =>
    some ((v4.2.1, (0 : Int)))
   else
    none
theorem octs_Put_S (N : Nat) (n0 : Int) (width1 : Int) (little2 : Bool) : (runK Go.Proofs.Try.prog (Ev4 N) 400 70 [(.int .u64), (.int .i64), .bool] [(.sl (.int .u8)), (.int .i64)] (n0, width1, little2, ())).run = octs_Put N n0 width1 little2 := by kernel_rfl
noncomputable def Ev5 (N : Nat) : (R : Type) → Env R := Env.addFn (Ev4 N) 70 (fun R => fnK [(.int .u64), (.int .i64), .bool] [(.sl (.int .u8)), (.int .i64)] (fun c => octs_Put N c.1 c.2.1 c.2.2.1))
theorem Ev5_ok (N : Nat) (R : Type) : EnvOK Go.Proofs.Try.prog (Ev5 N R) := EnvOK.addFn hmx (Ev4_ok N R) (Ev4_ok N _) (by kernel_rfl) (fun c => octs_Put_S N c.1 c.2.1 c.2.2.1)
noncomputable def octs_Join_L3_I : LI := ⟨33, 0, [], ⟨[(0, .ty (.sl (.sl (.int .u8)))), (3, .ty (.int .i64)), (9, .ty (.sl (.sl (.int .u8)))), (10, .ty (.int .i64)), (11, .ty (.int .i64))], []⟩, [(.exit 0, ⟨[(0, .ty (.sl (.sl (.int .u8)))), (3, .ty (.int .i64))], []⟩)]⟩
noncomputable def octs_Join_L3 (N : Nat) (X : (((List (List (Int))) × ((Int) × ((List (List (Int))) × ((Int) × ((Int) × Unit))))) × Unit) → Option ((((List (List (Int))) × ((Int) × Unit)) × Unit))) (parts0 : List (List (Int))) (size3 : Int) (x9 : List (List (Int))) (x10 : Int) (x11 : Int) : Option ((((List (List (Int))) × ((Int) × Unit)) × Unit)) :=
 bif (decide (x11 < x10)) then
  Option.bind (getI x9 x11) fun (v7 : (List Int)) =>
  (X ((parts0, ((Go.IntKind.wrap .i64 (size3 + (((List.length v7) : Nat) : Int))), (x9, (x10, ((Go.IntKind.wrap .i64 (x11 + (1 : Int))), @Unit.unit))))), @Unit.unit))
 else
  some (((parts0, (size3, @Unit.unit)), @Unit.unit))
noncomputable def octs_Join_L3_R (N : Nat) (c : (((List (List (Int))) × ((Int) × ((List (List (Int))) × ((Int) × ((Int) × Unit))))) × Unit)) : Option ((((List (List (Int))) × ((Int) × Unit)) × Unit)) := gl (fun X c => octs_Join_L3 N X c.1.1 c.1.2.1 c.1.2.2.1 c.1.2.2.2.1 c.1.2.2.2.2.1) N c
theorem octs_Join_L3_S (N : Nat) (X : (((List (List (Int))) × ((Int) × ((List (List (Int))) × ((Int) × ((Int) × Unit))))) × Unit) → Option ((((List (List (Int))) × ((Int) × Unit)) × Unit))) (parts0 : List (List (Int))) (size3 : Int) (x9 : List (List (Int))) (x10 : Int) (x11 : Int) : (roundK Go.Proofs.Try.prog (Ev5 N) 400 [71] octs_Join_L3_I (loopAt Go.Proofs.Try.prog [71] 3) X ((parts0, size3, x9, x10, x11, ()), ())).run = octs_Join_L3 N X parts0 size3 x9 x10 x11 := by kernel_rfl
noncomputable def Ev6 (N : Nat) : (R : Type) → Env R := Env.addLp (Ev5 N) [71] 0 3 (fun R => lpK Go.Proofs.Try.prog octs_Join_L3_I (fun X c => octs_Join_L3 N X c.1.1 c.1.2.1 c.1.2.2.1 c.1.2.2.2.1 c.1.2.2.2.2.1) N)
theorem Ev6_ok (N : Nat) (R : Type) : EnvOK Go.Proofs.Try.prog (Ev6 N R) := EnvOK.addLp (Ev5_ok N R) (by kernel_rfl) (lpK_ok (li := octs_Join_L3_I) (G := fun X c => octs_Join_L3 N X c.1.1 c.1.2.1 c.1.2.2.1 c.1.2.2.2.1 c.1.2.2.2.2.1) hmx (Ev5_ok N _) (by kernel_rfl) loopAt_sub (fun (X : CT octs_Join_L3_I.sh → Option (OT octs_Join_L3_I.outs)) (c : CT octs_Join_L3_I.sh) => octs_Join_L3_S N X c.1.1 c.1.2.1 c.1.2.2.1 c.1.2.2.2.1 c.1.2.2.2.2.1) N)
noncomputable def octs_Join_L9_I : LI := ⟨33, 0, [], ⟨[(6, .lit (.own 0)), (22, .ty (.sl (.sl (.int .u8)))), (23, .ty (.int .i64)), (24, .ty (.int .i64))], [.own (.int .u8) 5]⟩, [(.exit 2, ⟨[(6, .lit (.own 0))], [.own (.int .u8) 5]⟩)]⟩
noncomputable def octs_Join_L9 (N : Nat) (X : (((List (List (Int))) × ((Int) × ((Int) × Unit))) × ((List (Int)) × Unit)) → Option ((Unit × ((List (Int)) × Unit)))) (x22 : List (List (Int))) (x23 : Int) (x24 : Int) (h0 : List (Int)) : Option ((Unit × ((List (Int)) × Unit))) :=
 bif (decide (x24 < x23)) then
  Option.bind (getI x22 x24) fun (v6 : (List Int)) =>
  bif (roomB ((List.length h0) + (List.length v6)) 1) then
   (X ((x22, (x23, ((Go.IntKind.wrap .i64 (x24 + (1 : Int))), @Unit.unit))), ((h0 ++ v6), @Unit.unit)))
  else
   none
 else
  some ((@Unit.unit, (h0, @Unit.unit)))
noncomputable def octs_Join_L9_R (N : Nat) (c : (((List (List (Int))) × ((Int) × ((Int) × Unit))) × ((List (Int)) × Unit))) : Option ((Unit × ((List (Int)) × Unit))) := gl (fun X c => octs_Join_L9 N X c.1.1 c.1.2.1 c.1.2.2.1 c.2.1) N c
theorem octs_Join_L9_S (N : Nat) (X : (((List (List (Int))) × ((Int) × ((Int) × Unit))) × ((List (Int)) × Unit)) → Option ((Unit × ((List (Int)) × Unit)))) (x22 : List (List (Int))) (x23 : Int) (x24 : Int) (h0 : List (Int)) : (roundK Go.Proofs.Try.prog (Ev6 N) 400 [71] octs_Join_L9_I (loopAt Go.Proofs.Try.prog [71] 9) X ((x22, x23, x24, ()), (h0, ()))).run = octs_Join_L9 N X x22 x23 x24 h0 := by kernel_rfl
noncomputable def Ev7 (N : Nat) : (R : Type) → Env R := Env.addLp (Ev6 N) [71] 0 9 (fun R => lpK Go.Proofs.Try.prog octs_Join_L9_I (fun X c => octs_Join_L9 N X c.1.1 c.1.2.1 c.1.2.2.1 c.2.1) N)
theorem Ev7_ok (N : Nat) (R : Type) : EnvOK Go.Proofs.Try.prog (Ev7 N R) := EnvOK.addLp (Ev6_ok N R) (by kernel_rfl) (lpK_ok (li := octs_Join_L9_I) (G := fun X c => octs_Join_L9 N X c.1.1 c.1.2.1 c.1.2.2.1 c.2.1) hmx (Ev6_ok N _) (by kernel_rfl) loopAt_sub (fun (X : CT octs_Join_L9_I.sh → Option (OT octs_Join_L9_I.outs)) (c : CT octs_Join_L9_I.sh) => octs_Join_L9_S N X c.1.1 c.1.2.1 c.1.2.2.1 c.2.1) N)
noncomputable def octs_Join (N : Nat) (parts0 : List (List (Int))) : Option (List (Int)) :=
 Option.bind (octs_Join_L3_R N ((parts0, ((0 : Int), (parts0, ((((List.length parts0) : Nat) : Int), ((0 : Int), @Unit.unit))))), @Unit.unit)) fun (v2 : (((List (List Int)) × (Int × Unit)) × Unit)) =>
 bif ((decide ((0 : Int) ≤ (0 : Int) ∧ (0 : Int) ≤ v2.1.2.1)) && (roomB (Int.toNat v2.1.2.1) 1)) then
  Option.bind (octs_Join_L9_R N ((v2.1.1, ((((List.length v2.1.1) : Nat) : Int), ((0 : Int), @Unit.unit))), ((@List.replicate Int (Int.toNat (0 : Int)) (0 : Int)), @Unit.unit))) fun (v3 : (Unit × ((List Int) × Unit))) =>
  some (v3.2.1)
 else
  none
theorem octs_Join_S (N : Nat) (parts0 : List (List (Int))) : (runK Go.Proofs.Try.prog (Ev7 N) 400 71 [(.sl (.sl (.int .u8)))] [(.sl (.int .u8))] (parts0, ())).run = octs_Join N parts0 := by kernel_rfl
noncomputable def Ev8 (N : Nat) : (R : Type) → Env R := Env.addFn (Ev7 N) 71 (fun R => fnK [(.sl (.sl (.int .u8)))] [(.sl (.int .u8))] (fun c => octs_Join N c.1))
theorem Ev8_ok (N : Nat) (R : Type) : EnvOK Go.Proofs.Try.prog (Ev8 N R) := EnvOK.addFn hmx (Ev7_ok N R) (Ev7_ok N _) (by kernel_rfl) (fun c => octs_Join_S N c.1)
noncomputable def attr_Lay (N : Nat) (a0 : (Int) × (List (Int))) : Option ((List (Int)) × Int) :=
 Option.bind (@attr_isKind N a0.1) fun (v2 : Bool) =>
 bif (!v2) then
  some ((([] : List (Int)), (9 : Int)))
 else
  bif (decide ((4095 : Int) < (Go.IntKind.wrap .i64 ((4 : Int) + (((List.length a0.2) : Nat) : Int))))) then
   some ((([] : List (Int)), (8 : Int)))
  else
   Option.bind (@octs_Put N (Go.IntKind.wrap .u64 (Go.IntKind.wrap .i64 ((4 : Int) + (((List.length a0.2) : Nat) : Int)))) (2 : Int) @Bool.false) fun (v3 : ((List Int) × Int)) =>
   Option.bind (@octs_Join N ([([(0 : Int), a0.1] : List (Int)), v3.1, a0.2] : List ((List Int)))) fun (v4 : (List Int)) =>
   some ((v4, (0 : Int)))
theorem attr_Lay_S (N : Nat) (a0 : (Int) × (List (Int))) : (runK Go.Proofs.Try.prog (Ev8 N) 400 97 [(.pair (.int .u8) (.sl (.int .u8)))] [(.sl (.int .u8)), (.int .i64)] (a0, ())).run = attr_Lay N a0 := by kernel_rfl
theorem attr_Lay_C (N : Nat) (a0 : (Int) × (List (Int))) (y : (List (Int)) × Int) (h : attr_Lay N a0 = some y) : CallsK Go.Proofs.Try.prog 97 (valA [(.pair (.int .u8) (.sl (.int .u8)))] (a0, ())) (tupV (valR [(.sl (.int .u8)), (.int .i64)] y)) := runK_ok hmx (Ev8_ok N _) (okFn_ok (by kernel_rfl)) (by rw [attr_Lay_S]; exact h)
noncomputable def Ev9 (N : Nat) : (R : Type) → Env R := Env.addFn (Ev8 N) 97 (fun R => fnK [(.pair (.int .u8) (.sl (.int .u8)))] [(.sl (.int .u8)), (.int .i64)] (fun c => attr_Lay N c.1))
theorem Ev9_ok (N : Nat) (R : Type) : EnvOK Go.Proofs.Try.prog (Ev9 N R) := EnvOK.addFn hmx (Ev8_ok N R) (Ev8_ok N _) (by kernel_rfl) (fun c => attr_Lay_S N c.1)
noncomputable def octs_Get_L5_I : LI := ⟨37, 0, [], ⟨[(0, .ty (.sl (.int .u8))), (1, .ty .bool), (6, .ty (.int .u64)), (17, .ty (.int .i64)), (18, .ty (.int .i64))], []⟩, [(.exit 0, ⟨[(6, .ty (.int .u64))], []⟩)]⟩
noncomputable def octs_Get_L5 (N : Nat) (X : (((List (Int)) × ((Bool) × ((Int) × ((Int) × ((Int) × Unit))))) × Unit) → Option ((((Int) × Unit) × Unit))) (b0 : List (Int)) (little1 : Bool) (n6 : Int) (x17 : Int) (x18 : Int) : Option ((((Int) × Unit) × Unit)) :=
 bif (decide (x18 < x17)) then
  Option.bind (@octs_place N x18 (((List.length b0) : Nat) : Int) little1) fun (v7 : Int) =>
  Option.bind (getI b0 v7) fun (v8 : Int) =>
  bif (decide ((0 : Int) ≤ (Go.IntKind.wrap .i64 ((8 : Int) * x18)))) then
   (X ((b0, (little1, ((@Go.bits @Go.BinOp.or @Go.IntKind.u64 n6 (Go.IntKind.wrap .u64 ((Go.IntKind.wrap .u64 v8) * (@HPow.hPow Int Nat Int (@instHPow Int Nat (@instPowNat Int @Int.instNatPow)) (2 : Int) (@Min.min Nat @instMinNat (Int.toNat (Go.IntKind.wrap .i64 ((8 : Int) * x18))) (@Go.IntKind.bits @Go.IntKind.u64)))))), (x17, ((Go.IntKind.wrap .i64 (x18 + (1 : Int))), @Unit.unit))))), @Unit.unit))
  else
   none
 else
  some (((n6, @Unit.unit), @Unit.unit))
noncomputable def octs_Get_L5_R (N : Nat) (c : (((List (Int)) × ((Bool) × ((Int) × ((Int) × ((Int) × Unit))))) × Unit)) : Option ((((Int) × Unit) × Unit)) := gl (fun X c => octs_Get_L5 N X c.1.1 c.1.2.1 c.1.2.2.1 c.1.2.2.2.1 c.1.2.2.2.2.1) N c
theorem octs_Get_L5_S (N : Nat) (X : (((List (Int)) × ((Bool) × ((Int) × ((Int) × ((Int) × Unit))))) × Unit) → Option ((((Int) × Unit) × Unit))) (b0 : List (Int)) (little1 : Bool) (n6 : Int) (x17 : Int) (x18 : Int) : (roundK Go.Proofs.Try.prog (Ev9 N) 400 [78] octs_Get_L5_I (loopAt Go.Proofs.Try.prog [78] 5) X ((b0, little1, n6, x17, x18, ()), ())).run = octs_Get_L5 N X b0 little1 n6 x17 x18 := by kernel_rfl
noncomputable def Ev10 (N : Nat) : (R : Type) → Env R := Env.addLp (Ev9 N) [78] 0 5 (fun R => lpK Go.Proofs.Try.prog octs_Get_L5_I (fun X c => octs_Get_L5 N X c.1.1 c.1.2.1 c.1.2.2.1 c.1.2.2.2.1 c.1.2.2.2.2.1) N)
theorem Ev10_ok (N : Nat) (R : Type) : EnvOK Go.Proofs.Try.prog (Ev10 N R) := EnvOK.addLp (Ev9_ok N R) (by kernel_rfl) (lpK_ok (li := octs_Get_L5_I) (G := fun X c => octs_Get_L5 N X c.1.1 c.1.2.1 c.1.2.2.1 c.1.2.2.2.1 c.1.2.2.2.2.1) hmx (Ev9_ok N _) (by kernel_rfl) loopAt_sub (fun (X : CT octs_Get_L5_I.sh → Option (OT octs_Get_L5_I.outs)) (c : CT octs_Get_L5_I.sh) => octs_Get_L5_S N X c.1.1 c.1.2.1 c.1.2.2.1 c.1.2.2.2.1 c.1.2.2.2.2.1) N)
noncomputable def octs_Get (N : Nat) (b0 : List (Int)) (little1 : Bool) : Option ((Int) × Int) :=
 bif (decide ((((List.length b0) : Nat) : Int) < (1 : Int))) then
  some (((0 : Int), (1 : Int)))
 else
  bif (@cond Bool @Bool.false @Bool.true (decide ((8 : Int) < (((List.length b0) : Nat) : Int)))) then
   some (((0 : Int), (1 : Int)))
  else
   Option.bind (octs_Get_L5_R N ((b0, (little1, ((0 : Int), ((((List.length b0) : Nat) : Int), ((0 : Int), @Unit.unit))))), @Unit.unit)) fun (v3 : ((Int × Unit) × Unit)) =>
   some ((v3.1.1, (0 : Int)))
theorem octs_Get_S (N : Nat) (b0 : List (Int)) (little1 : Bool) : (runK Go.Proofs.Try.prog (Ev10 N) 400 78 [(.sl (.int .u8)), .bool] [(.int .u64), (.int .i64)] (b0, little1, ())).run = octs_Get N b0 little1 := by kernel_rfl
noncomputable def Ev11 (N : Nat) : (R : Type) → Env R := Env.addFn (Ev10 N) 78 (fun R => fnK [(.sl (.int .u8)), .bool] [(.int .u64), (.int .i64)] (fun c => octs_Get N c.1 c.2.1))
theorem Ev11_ok (N : Nat) (R : Type) : EnvOK Go.Proofs.Try.prog (Ev11 N R) := EnvOK.addFn hmx (Ev10_ok N R) (Ev10_ok N _) (by kernel_rfl) (fun c => octs_Get_S N c.1 c.2.1)
noncomputable def slices_Clone_byte_byte_ne (N : Nat) (s0 : List (Int)) : Option (List (Int)) :=
 bif (@List.isEmpty Int s0) then
  none
 else
  bif (roomB (List.length s0) 1) then
   some (s0)
  else
   none
theorem slices_Clone_byte_byte_ne_S (N : Nat) (s0 : List (Int)) : (runK Go.Proofs.Try.prog (Ev11 N) 400 85 [(.sl (.int .u8))] [(.sl (.int .u8))] (s0, ())).run = slices_Clone_byte_byte_ne N s0 := by kernel_rfl
theorem slices_Clone_byte_byte_n1 (N : Nat) (c : Nat) : (runV Go.Proofs.Try.prog (Ev11 N) 400 85 [.c (.slice none 0 c)] [(.sl (.int .u8))]).run = some [] := by kernel_rfl
theorem slices_Clone_byte_byte_n2 (N : Nat) (A : Addr) (c : Nat) : (runV Go.Proofs.Try.prog (Ev11 N) 400 85 [.c (.slice (some A) 0 c)] [(.sl (.int .u8))]).run = some [] := by kernel_rfl
noncomputable def slices_Clone_byte_byte (N : Nat) (s0 : List (Int)) : Option (List (Int)) := bif s0.isEmpty then some [] else slices_Clone_byte_byte_ne N s0
noncomputable def Ev12 (N : Nat) : (R : Type) → Env R := Env.addFn (Ev11 N) 85 (fun R => fnK [(.sl (.int .u8))] [(.sl (.int .u8))] (fun c => slices_Clone_byte_byte N c.1))
theorem Ev12_ok (N : Nat) (R : Type) : EnvOK Go.Proofs.Try.prog (Ev12 N R) := EnvOK.addNil hmx (Ev11_ok N R) (Ev11_ok N _) (by kernel_rfl) (fun c => slices_Clone_byte_byte_ne_S N c.1) (slices_Clone_byte_byte_n1 N) (slices_Clone_byte_byte_n2 N)
noncomputable def attr_Parse (N : Nat) (b0 : List (Int)) : Option (((Int) × (List (Int))) × (Int) × Int) :=
 bif (decide ((((List.length b0) : Nat) : Int) < (4 : Int))) then
  some ((((0 : Int), ([] : List (Int))), ((0 : Int), (4 : Int))))
 else
  Option.bind (subI b0 (2 : Int) (4 : Int)) fun (v2 : (List Int)) =>
  Option.bind (@octs_Get N v2 @Bool.false) fun (v3 : (Int × Int)) =>
  Option.bind (getI b0 (0 : Int)) fun (v4 : Int) =>
  bif (!(decide (v4 = (0 : Int)))) then
   some ((((0 : Int), ([] : List (Int))), ((0 : Int), (3 : Int))))
  else
   bif (@cond Bool @Bool.false @Bool.true (decide ((Go.IntKind.wrap .i64 v3.1) < (4 : Int)))) then
    some ((((0 : Int), ([] : List (Int))), ((0 : Int), (3 : Int))))
   else
    bif (@cond Bool @Bool.false @Bool.true (decide ((4095 : Int) < (Go.IntKind.wrap .i64 v3.1)))) then
     some ((((0 : Int), ([] : List (Int))), ((0 : Int), (3 : Int))))
    else
     Option.bind (getI b0 (1 : Int)) fun (v5 : Int) =>
     Option.bind (@attr_isKind N v5) fun (v6 : Bool) =>
     bif (!v6) then
      some ((((0 : Int), ([] : List (Int))), ((0 : Int), (9 : Int))))
     else
      bif (decide ((((List.length b0) : Nat) : Int) < (Go.IntKind.wrap .i64 v3.1))) then
       some ((((0 : Int), ([] : List (Int))), ((0 : Int), (4 : Int))))
      else
       Option.bind (getI b0 (1 : Int)) fun (v7 : Int) =>
       Option.bind (subI b0 (4 : Int) (Go.IntKind.wrap .i64 v3.1)) fun (v8 : (List Int)) =>
       Option.bind (@slices_Clone_byte_byte N v8) fun (v9 : (List Int)) =>
       some (((v7, v9), ((Go.IntKind.wrap .i64 v3.1), (0 : Int))))
theorem attr_Parse_S (N : Nat) (b0 : List (Int)) : (runK Go.Proofs.Try.prog (Ev12 N) 400 98 [(.sl (.int .u8))] [(.pair (.int .u8) (.sl (.int .u8))), (.int .i64), (.int .i64)] (b0, ())).run = attr_Parse N b0 := by kernel_rfl
theorem attr_Parse_C (N : Nat) (b0 : List (Int)) (y : ((Int) × (List (Int))) × (Int) × Int) (h : attr_Parse N b0 = some y) : CallsK Go.Proofs.Try.prog 98 (valA [(.sl (.int .u8))] (b0, ())) (tupV (valR [(.pair (.int .u8) (.sl (.int .u8))), (.int .i64), (.int .i64)] y)) := runK_ok hmx (Ev12_ok N _) (okFn_ok (by kernel_rfl)) (by rw [attr_Parse_S]; exact h)
noncomputable def Ev13 (N : Nat) : (R : Type) → Env R := Env.addFn (Ev12 N) 98 (fun R => fnK [(.sl (.int .u8))] [(.pair (.int .u8) (.sl (.int .u8))), (.int .i64), (.int .i64)] (fun c => attr_Parse N c.1))
theorem Ev13_ok (N : Nat) (R : Type) : EnvOK Go.Proofs.Try.prog (Ev13 N R) := EnvOK.addFn hmx (Ev12_ok N R) (Ev12_ok N _) (by kernel_rfl) (fun c => attr_Parse_S N c.1)
noncomputable def Ev14 (N : Nat) : (R : Type) → Env R := Env.addBx (Ev13 N) [(75, 0)]
theorem Ev14_ok (N : Nat) (R : Type) : EnvOK Go.Proofs.Try.prog (Ev14 N R) := EnvOK.addBx (Ev13_ok N R) [(75, 0)]
noncomputable def attr_sizes (N : Nat) (kind0 : Int) : Option ((Int) × Int) :=
 bif (decide (kind0 = (1 : Int))) then
  some (((2 : Int), (2 : Int)))
 else
  bif (decide (kind0 = (2 : Int))) then
   some (((8 : Int), (72 : Int)))
  else
   bif (decide (kind0 = (3 : Int))) then
    some (((100 : Int), (100 : Int)))
   else
    bif (decide (kind0 = (4 : Int))) then
     some (((36 : Int), (36 : Int)))
    else
     some (((0 : Int), (0 : Int)))
theorem attr_sizes_S (N : Nat) (kind0 : Int) : (runK Go.Proofs.Try.prog (Ev14 N) 400 111 [(.int .u8)] [(.int .i64), (.int .i64)] (kind0, ())).run = attr_sizes N kind0 := by kernel_rfl
noncomputable def Ev15 (N : Nat) : (R : Type) → Env R := Env.addFn (Ev14 N) 111 (fun R => fnK [(.int .u8)] [(.int .i64), (.int .i64)] (fun c => attr_sizes N c.1))
theorem Ev15_ok (N : Nat) (R : Type) : EnvOK Go.Proofs.Try.prog (Ev15 N R) := EnvOK.addFn hmx (Ev14_ok N R) (Ev14_ok N _) (by kernel_rfl) (fun c => attr_sizes_S N c.1)
noncomputable def Ev16 (N : Nat) : (R : Type) → Env R := Env.addBx (Ev15 N) [(113, 0)]
theorem Ev16_ok (N : Nat) (R : Type) : EnvOK Go.Proofs.Try.prog (Ev16 N R) := EnvOK.addBx (Ev15_ok N R) [(113, 0)]
noncomputable def attr_fine (N : Nat) (a0 : (Int) × (List (Int))) : Option (Bool) :=
 bif (decide (a0.1 = (1 : Int))) then
  some (@Bool.true)
 else
  Option.bind (getI a0.2 (3 : Int)) fun (v2 : Int) =>
  Option.bind (takeI a0.2 (3 : Int)) fun (v3 : (List Int)) =>
  Option.bind (@toArr Int (3 : Nat) v3) fun (v4 : (Arr Int 3)) =>
  bif ((@wfB (@Td.arr (3 : Nat) (@Td.int @Go.IntKind.u8)) v4) && (@wfB (@Td.arr (3 : Nat) (@Td.int @Go.IntKind.u8)) (@Arr.cons Int (2 : Nat) (0 : Int) (@Arr.cons Int (1 : Nat) (0 : Int) (@Arr.cons Int (0 : Nat) (0 : Int) (@Arr.nil Int)))))) then
   bif (!(@Decidable.decide (@Eq (Arr Int 3) v4 (@Arr.cons Int (2 : Nat) (0 : Int) (@Arr.cons Int (1 : Nat) (0 : Int) (@Arr.cons Int (0 : Nat) (0 : Int) (@Arr.nil Int))))) (@decT (@Td.arr (3 : Nat) (@Td.int @Go.IntKind.u8)) v4 (@Arr.cons Int (2 : Nat) (0 : Int) (@Arr.cons Int (1 : Nat) (0 : Int) (@Arr.cons Int (0 : Nat) (0 : Int) (@Arr.nil Int))))))) then
    some (@Bool.false)
   else
    bif (decide (a0.1 = (2 : Int))) then
     some ((decide (v2 ≤ (4 : Int))))
    else
     bif (decide (a0.1 = (3 : Int))) then
      bif (decide (v2 = (1 : Int))) then
       some (@Bool.true)
      else
       some ((@cond Bool @Bool.false @Bool.true (decide (v2 = (2 : Int)))))
     else
      bif (decide ((1 : Int) ≤ v2)) then
       some ((@cond Bool @Bool.true (decide (v2 ≤ (3 : Int))) @Bool.false))
      else
       some (@Bool.false)
  else
   none
theorem attr_fine_S (N : Nat) (a0 : (Int) × (List (Int))) : (runK Go.Proofs.Try.prog (Ev16 N) 400 113 [(.pair (.int .u8) (.sl (.int .u8)))] [.bool] (a0, ())).run = attr_fine N a0 := by kernel_rfl
noncomputable def Ev17 (N : Nat) : (R : Type) → Env R := Env.addFn (Ev16 N) 113 (fun R => fnK [(.pair (.int .u8) (.sl (.int .u8)))] [.bool] (fun c => attr_fine N c.1))
theorem Ev17_ok (N : Nat) (R : Type) : EnvOK Go.Proofs.Try.prog (Ev17 N R) := EnvOK.addFn hmx (Ev16_ok N R) (Ev16_ok N _) (by kernel_rfl) (fun c => attr_fine_S N c.1)
noncomputable def attr_Check (N : Nat) (a0 : (Int) × (List (Int))) : Option (Int) :=
 Option.bind (@attr_sizes N a0.1) fun (v2 : (Int × Int)) =>
 Option.bind (@attr_isKind N a0.1) fun (v3 : Bool) =>
 bif (!v3) then
  some ((9 : Int))
 else
  bif (decide ((((List.length a0.2) : Nat) : Int) < v2.1)) then
   some ((4 : Int))
  else
   bif (decide (v2.2 < (((List.length a0.2) : Nat) : Int))) then
    some ((3 : Int))
   else
    Option.bind (@attr_fine N (a0.1, a0.2)) fun (v4 : Bool) =>
    bif (@cond Bool @Bool.false @Bool.true (!v4)) then
     some ((3 : Int))
    else
     some ((0 : Int))
theorem attr_Check_S (N : Nat) (a0 : (Int) × (List (Int))) : (runK Go.Proofs.Try.prog (Ev17 N) 400 75 [(.pair (.int .u8) (.sl (.int .u8)))] [(.int .i64)] (a0, ())).run = attr_Check N a0 := by kernel_rfl
theorem attr_Check_C (N : Nat) (a0 : (Int) × (List (Int))) (y : Int) (h : attr_Check N a0 = some y) : CallsK Go.Proofs.Try.prog 75 (valA [(.pair (.int .u8) (.sl (.int .u8)))] (a0, ())) (tupV (valR [(.int .i64)] y)) := runK_ok hmx (Ev17_ok N _) (okFn_ok (by kernel_rfl)) (by rw [attr_Check_S]; exact h)
noncomputable def Ev18 (N : Nat) : (R : Type) → Env R := Env.addFn (Ev17 N) 75 (fun R => fnK [(.pair (.int .u8) (.sl (.int .u8)))] [(.int .i64)] (fun c => attr_Check N c.1))
theorem Ev18_ok (N : Nat) (R : Type) : EnvOK Go.Proofs.Try.prog (Ev18 N R) := EnvOK.addFn hmx (Ev17_ok N R) (Ev17_ok N _) (by kernel_rfl) (fun c => attr_Check_S N c.1)
noncomputable def Ev19 (N : Nat) : (R : Type) → Env R := Env.addBx (Ev18 N) [(55, 0)]
theorem Ev19_ok (N : Nat) (R : Type) : EnvOK Go.Proofs.Try.prog (Ev19 N R) := EnvOK.addBx (Ev18_ok N R) [(55, 0)]
noncomputable def attr_Same (N : Nat) (a0 : (Int) × (List (Int))) (b1 : (Int) × (List (Int))) : Option (Bool) :=
 Option.bind (@toBy a0.2) fun (v3 : (List UInt8)) =>
 Option.bind (@toBy b1.2) fun (v4 : (List UInt8)) =>
 bif ((@wfB (@Td.pair (@Td.int @Go.IntKind.u8) @Td.str) (a0.1, v3)) && (@wfB (@Td.pair (@Td.int @Go.IntKind.u8) @Td.str) (b1.1, v4))) then
  some ((@Decidable.decide (@Eq (Int × (List UInt8)) (a0.1, v3) (b1.1, v4)) (@decT (@Td.pair (@Td.int @Go.IntKind.u8) @Td.str) (a0.1, v3) (b1.1, v4))))
 else
  none
theorem attr_Same_S (N : Nat) (a0 : (Int) × (List (Int))) (b1 : (Int) × (List (Int))) : (runK Go.Proofs.Try.prog (Ev19 N) 400 55 [(.pair (.int .u8) (.sl (.int .u8))), (.pair (.int .u8) (.sl (.int .u8)))] [.bool] (a0, b1, ())).run = attr_Same N a0 b1 := by kernel_rfl
theorem attr_Same_C (N : Nat) (a0 : (Int) × (List (Int))) (b1 : (Int) × (List (Int))) (y : Bool) (h : attr_Same N a0 b1 = some y) : CallsK Go.Proofs.Try.prog 55 (valA [(.pair (.int .u8) (.sl (.int .u8))), (.pair (.int .u8) (.sl (.int .u8)))] (a0, b1, ())) (tupV (valR [.bool] y)) := runK_ok hmx (Ev19_ok N _) (okFn_ok (by kernel_rfl)) (by rw [attr_Same_S]; exact h)
noncomputable def Ev20 (N : Nat) : (R : Type) → Env R := Env.addFn (Ev19 N) 55 (fun R => fnK [(.pair (.int .u8) (.sl (.int .u8))), (.pair (.int .u8) (.sl (.int .u8)))] [.bool] (fun c => attr_Same N c.1 c.2.1))
theorem Ev20_ok (N : Nat) (R : Type) : EnvOK Go.Proofs.Try.prog (Ev20 N R) := EnvOK.addFn hmx (Ev19_ok N R) (Ev19_ok N _) (by kernel_rfl) (fun c => attr_Same_S N c.1 c.2.1)
noncomputable def Ev21 (N : Nat) : (R : Type) → Env R := Env.addBx (Ev20 N) [(73, 0)]
theorem Ev21_ok (N : Nat) (R : Type) : EnvOK Go.Proofs.Try.prog (Ev21 N R) := EnvOK.addBx (Ev20_ok N R) [(73, 0)]
noncomputable def ref17_kind (N : Nat) (id0 : Int) : Option (Bool) :=
 bif (decide ((1 : Int) ≤ id0)) then
  some ((@cond Bool @Bool.true (decide (id0 ≤ (4 : Int))) @Bool.false))
 else
  some (@Bool.false)
theorem ref17_kind_S (N : Nat) (id0 : Int) : (runK Go.Proofs.Try.prog (Ev21 N) 400 109 [(.int .u8)] [.bool] (id0, ())).run = ref17_kind N id0 := by kernel_rfl
noncomputable def Ev22 (N : Nat) : (R : Type) → Env R := Env.addFn (Ev21 N) 109 (fun R => fnK [(.int .u8)] [.bool] (fun c => ref17_kind N c.1))
theorem Ev22_ok (N : Nat) (R : Type) : EnvOK Go.Proofs.Try.prog (Ev22 N R) := EnvOK.addFn hmx (Ev21_ok N R) (Ev21_ok N _) (by kernel_rfl) (fun c => ref17_kind_S N c.1)
noncomputable def ref17_Lay_5_ref01_Big_L3_I : LI := ⟨24, 0, [], ⟨[(0, .ty (.int .u64)), (5, .lit (.own 0)), (6, .ty (.int .i64))], [.own (.int .u8) 5]⟩, [(.exit 0, ⟨[(5, .lit (.own 0))], [.own (.int .u8) 5]⟩)]⟩
noncomputable def ref17_Lay_5_ref01_Big_L3 (N : Nat) (X : (((Int) × ((Int) × Unit)) × ((List (Int)) × Unit)) → Option ((Unit × ((List (Int)) × Unit)))) (n0 : Int) (i6 : Int) (h0 : List (Int)) : Option ((Unit × ((List (Int)) × Unit))) :=
 bif (decide ((0 : Int) ≤ i6)) then
  bif (decide ((0 : Int) ≤ i6 ∧ i6 < (((List.length h0) : Nat) : Int))) then
   Option.bind (@GetElem?.getElem? (List Int) Nat Int (fun (as5 : (List Int)) => (fun (i6 : Nat) => (@LT.lt Nat @instLTNat i6 (List.length as5)))) (@List.instGetElem?NatLtLength Int) h0 (Int.toNat i6)) fun (v5 : Int) =>
   (X (((Go.IntKind.wrap .u64 (@Int.tdiv n0 (256 : Int))), ((Go.IntKind.wrap .i64 (i6 - (1 : Int))), @Unit.unit)), ((@List.set Int h0 (Int.toNat i6) (Go.IntKind.wrap .u8 (@Int.tmod n0 (256 : Int)))), @Unit.unit)))
  else
   none
 else
  some ((@Unit.unit, (h0, @Unit.unit)))
noncomputable def ref17_Lay_5_ref01_Big_L3_R (N : Nat) (c : (((Int) × ((Int) × Unit)) × ((List (Int)) × Unit))) : Option ((Unit × ((List (Int)) × Unit))) := gl (fun X c => ref17_Lay_5_ref01_Big_L3 N X c.1.1 c.1.2.1 c.2.1) N c
theorem ref17_Lay_5_ref01_Big_L3_S (N : Nat) (X : (((Int) × ((Int) × Unit)) × ((List (Int)) × Unit)) → Option ((Unit × ((List (Int)) × Unit)))) (n0 : Int) (i6 : Int) (h0 : List (Int)) : (roundK Go.Proofs.Try.prog (Ev22 N) 400 [72, 5, 73] ref17_Lay_5_ref01_Big_L3_I (loopAt Go.Proofs.Try.prog [72, 5, 73] 3) X ((n0, i6, ()), (h0, ()))).run = ref17_Lay_5_ref01_Big_L3 N X n0 i6 h0 := by kernel_rfl
noncomputable def Ev23 (N : Nat) : (R : Type) → Env R := Env.addLp (Ev22 N) [72, 5, 73] 0 3 (fun R => lpK Go.Proofs.Try.prog ref17_Lay_5_ref01_Big_L3_I (fun X c => ref17_Lay_5_ref01_Big_L3 N X c.1.1 c.1.2.1 c.2.1) N)
theorem Ev23_ok (N : Nat) (R : Type) : EnvOK Go.Proofs.Try.prog (Ev23 N R) := EnvOK.addLp (Ev22_ok N R) (by kernel_rfl) (lpK_ok (li := ref17_Lay_5_ref01_Big_L3_I) (G := fun X c => ref17_Lay_5_ref01_Big_L3 N X c.1.1 c.1.2.1 c.2.1) hmx (Ev22_ok N _) (by kernel_rfl) loopAt_sub (fun (X : CT ref17_Lay_5_ref01_Big_L3_I.sh → Option (OT ref17_Lay_5_ref01_Big_L3_I.outs)) (c : CT ref17_Lay_5_ref01_Big_L3_I.sh) => ref17_Lay_5_ref01_Big_L3_S N X c.1.1 c.1.2.1 c.2.1) N)
noncomputable def ref17_Lay (N : Nat) (a0 : (Int) × (List (Int))) : Option ((List (Int)) × Int) :=
 Option.bind (@ref17_kind N a0.1) fun (v2 : Bool) =>
 bif (!v2) then
  some ((([] : List (Int)), (9 : Int)))
 else
  bif (decide ((4091 : Int) < (((List.length a0.2) : Nat) : Int))) then
   some ((([] : List (Int)), (8 : Int)))
  else
   Option.bind (ref17_Lay_5_ref01_Big_L3_R N (((Go.IntKind.wrap .u64 (Go.IntKind.wrap .i64 ((4 : Int) + (((List.length a0.2) : Nat) : Int)))), ((Go.IntKind.wrap .i64 ((2 : Int) - (1 : Int))), @Unit.unit)), ((@List.replicate Int (Int.toNat (2 : Int)) (0 : Int)), @Unit.unit))) fun (v3 : (Unit × ((List Int) × Unit))) =>
   bif ((roomB ((List.length ([(0 : Int), a0.1] : List (Int))) + (List.length v3.2.1)) 1) && (!(@List.isEmpty Int v3.2.1))) then
    bif (roomB ((List.length (([(0 : Int), a0.1] : List (Int)) ++ v3.2.1)) + (List.length a0.2)) 1) then
     some ((((([(0 : Int), a0.1] : List (Int)) ++ v3.2.1) ++ a0.2), (0 : Int)))
    else
     none
   else
    none
theorem ref17_Lay_S (N : Nat) (a0 : (Int) × (List (Int))) : (runK Go.Proofs.Try.prog (Ev23 N) 400 73 [(.pair (.int .u8) (.sl (.int .u8)))] [(.sl (.int .u8)), (.int .i64)] (a0, ())).run = ref17_Lay N a0 := by kernel_rfl
theorem ref17_Lay_C (N : Nat) (a0 : (Int) × (List (Int))) (y : (List (Int)) × Int) (h : ref17_Lay N a0 = some y) : CallsK Go.Proofs.Try.prog 73 (valA [(.pair (.int .u8) (.sl (.int .u8)))] (a0, ())) (tupV (valR [(.sl (.int .u8)), (.int .i64)] y)) := runK_ok hmx (Ev23_ok N _) (okFn_ok (by kernel_rfl)) (by rw [ref17_Lay_S]; exact h)
noncomputable def Ev24 (N : Nat) : (R : Type) → Env R := Env.addFn (Ev23 N) 73 (fun R => fnK [(.pair (.int .u8) (.sl (.int .u8)))] [(.sl (.int .u8)), (.int .i64)] (fun c => ref17_Lay N c.1))
theorem Ev24_ok (N : Nat) (R : Type) : EnvOK Go.Proofs.Try.prog (Ev24 N R) := EnvOK.addFn hmx (Ev23_ok N R) (Ev23_ok N _) (by kernel_rfl) (fun c => ref17_Lay_S N c.1)
noncomputable def ref01_Num_L3_I : LI := ⟨20, 0, [], ⟨[(0, .ty (.sl (.int .u8))), (3, .ty (.int .u64)), (4, .ty (.int .i64))], []⟩, [(.exit 0, ⟨[(3, .ty (.int .u64))], []⟩)]⟩
noncomputable def ref01_Num_L3 (N : Nat) (X : (((List (Int)) × ((Int) × ((Int) × Unit))) × Unit) → Option ((((Int) × Unit) × Unit))) (b0 : List (Int)) (n3 : Int) (i4 : Int) : Option ((((Int) × Unit) × Unit)) :=
 bif (decide (i4 < (((List.length b0) : Nat) : Int))) then
  Option.bind (getI b0 i4) fun (v5 : Int) =>
  (X ((b0, ((Go.IntKind.wrap .u64 ((Go.IntKind.wrap .u64 (n3 * (256 : Int))) + (Go.IntKind.wrap .u64 v5))), ((Go.IntKind.wrap .i64 (i4 + (1 : Int))), @Unit.unit))), @Unit.unit))
 else
  some (((n3, @Unit.unit), @Unit.unit))
noncomputable def ref01_Num_L3_R (N : Nat) (c : (((List (Int)) × ((Int) × ((Int) × Unit))) × Unit)) : Option ((((Int) × Unit) × Unit)) := gl (fun X c => ref01_Num_L3 N X c.1.1 c.1.2.1 c.1.2.2.1) N c
theorem ref01_Num_L3_S (N : Nat) (X : (((List (Int)) × ((Int) × ((Int) × Unit))) × Unit) → Option ((((Int) × Unit) × Unit))) (b0 : List (Int)) (n3 : Int) (i4 : Int) : (roundK Go.Proofs.Try.prog (Ev24 N) 400 [80] ref01_Num_L3_I (loopAt Go.Proofs.Try.prog [80] 3) X ((b0, n3, i4, ()), ())).run = ref01_Num_L3 N X b0 n3 i4 := by kernel_rfl
noncomputable def Ev25 (N : Nat) : (R : Type) → Env R := Env.addLp (Ev24 N) [80] 0 3 (fun R => lpK Go.Proofs.Try.prog ref01_Num_L3_I (fun X c => ref01_Num_L3 N X c.1.1 c.1.2.1 c.1.2.2.1) N)
theorem Ev25_ok (N : Nat) (R : Type) : EnvOK Go.Proofs.Try.prog (Ev25 N R) := EnvOK.addLp (Ev24_ok N R) (by kernel_rfl) (lpK_ok (li := ref01_Num_L3_I) (G := fun X c => ref01_Num_L3 N X c.1.1 c.1.2.1 c.1.2.2.1) hmx (Ev24_ok N _) (by kernel_rfl) loopAt_sub (fun (X : CT ref01_Num_L3_I.sh → Option (OT ref01_Num_L3_I.outs)) (c : CT ref01_Num_L3_I.sh) => ref01_Num_L3_S N X c.1.1 c.1.2.1 c.1.2.2.1) N)
noncomputable def ref01_Num (N : Nat) (b0 : List (Int)) : Option (Int) :=
 Option.bind (ref01_Num_L3_R N ((b0, ((0 : Int), ((0 : Int), @Unit.unit))), @Unit.unit)) fun (v2 : ((Int × Unit) × Unit)) =>
 some (v2.1.1)
theorem ref01_Num_S (N : Nat) (b0 : List (Int)) : (runK Go.Proofs.Try.prog (Ev25 N) 400 80 [(.sl (.int .u8))] [(.int .u64)] (b0, ())).run = ref01_Num N b0 := by kernel_rfl
noncomputable def Ev26 (N : Nat) : (R : Type) → Env R := Env.addFn (Ev25 N) 80 (fun R => fnK [(.sl (.int .u8))] [(.int .u64)] (fun c => ref01_Num N c.1))
theorem Ev26_ok (N : Nat) (R : Type) : EnvOK Go.Proofs.Try.prog (Ev26 N R) := EnvOK.addFn hmx (Ev25_ok N R) (Ev25_ok N _) (by kernel_rfl) (fun c => ref01_Num_S N c.1)
noncomputable def ref17_Parse (N : Nat) (b0 : List (Int)) : Option (((Int) × (List (Int))) × (Int) × Int) :=
 bif (decide ((((List.length b0) : Nat) : Int) < (4 : Int))) then
  some ((((0 : Int), ([] : List (Int))), ((0 : Int), (4 : Int))))
 else
  Option.bind (subI b0 (2 : Int) (4 : Int)) fun (v2 : (List Int)) =>
  Option.bind (@ref01_Num N v2) fun (v3 : Int) =>
  Option.bind (getI b0 (0 : Int)) fun (v4 : Int) =>
  bif (!(decide (v4 = (0 : Int)))) then
   some ((((0 : Int), ([] : List (Int))), ((0 : Int), (3 : Int))))
  else
   bif (@cond Bool @Bool.false @Bool.true (decide ((Go.IntKind.wrap .i64 v3) < (4 : Int)))) then
    some ((((0 : Int), ([] : List (Int))), ((0 : Int), (3 : Int))))
   else
    bif (@cond Bool @Bool.false @Bool.true (decide ((4095 : Int) < (Go.IntKind.wrap .i64 v3)))) then
     some ((((0 : Int), ([] : List (Int))), ((0 : Int), (3 : Int))))
    else
     Option.bind (getI b0 (1 : Int)) fun (v5 : Int) =>
     Option.bind (@ref17_kind N v5) fun (v6 : Bool) =>
     bif (!v6) then
      some ((((0 : Int), ([] : List (Int))), ((0 : Int), (9 : Int))))
     else
      bif (decide ((((List.length b0) : Nat) : Int) < (Go.IntKind.wrap .i64 v3))) then
       some ((((0 : Int), ([] : List (Int))), ((0 : Int), (4 : Int))))
      else
       Option.bind (getI b0 (1 : Int)) fun (v7 : Int) =>
       Option.bind (subI b0 (4 : Int) (Go.IntKind.wrap .i64 v3)) fun (v8 : (List Int)) =>
       some (((v7, v8), ((Go.IntKind.wrap .i64 v3), (0 : Int))))
theorem ref17_Parse_S (N : Nat) (b0 : List (Int)) : (runK Go.Proofs.Try.prog (Ev26 N) 400 81 [(.sl (.int .u8))] [(.pair (.int .u8) (.sl (.int .u8))), (.int .i64), (.int .i64)] (b0, ())).run = ref17_Parse N b0 := by kernel_rfl
theorem ref17_Parse_C (N : Nat) (b0 : List (Int)) (y : ((Int) × (List (Int))) × (Int) × Int) (h : ref17_Parse N b0 = some y) : CallsK Go.Proofs.Try.prog 81 (valA [(.sl (.int .u8))] (b0, ())) (tupV (valR [(.pair (.int .u8) (.sl (.int .u8))), (.int .i64), (.int .i64)] y)) := runK_ok hmx (Ev26_ok N _) (okFn_ok (by kernel_rfl)) (by rw [ref17_Parse_S]; exact h)
noncomputable def Ev27 (N : Nat) : (R : Type) → Env R := Env.addFn (Ev26 N) 81 (fun R => fnK [(.sl (.int .u8))] [(.pair (.int .u8) (.sl (.int .u8))), (.int .i64), (.int .i64)] (fun c => ref17_Parse N c.1))
theorem Ev27_ok (N : Nat) (R : Type) : EnvOK Go.Proofs.Try.prog (Ev27 N R) := EnvOK.addFn hmx (Ev26_ok N R) (Ev26_ok N _) (by kernel_rfl) (fun c => ref17_Parse_S N c.1)
noncomputable def Ev28 (N : Nat) : (R : Type) → Env R := Env.addBx (Ev27 N) [(77, 0)]
theorem Ev28_ok (N : Nat) (R : Type) : EnvOK Go.Proofs.Try.prog (Ev28 N R) := EnvOK.addBx (Ev27_ok N R) [(77, 0)]
noncomputable def ref17_zeros_L2_I : LI := ⟨15, 0, [], ⟨[(0, .ty (.sl (.int .u8))), (3, .ty (.int .i64))], []⟩, [(.ret, ⟨[(2, .ty .bool)], []⟩), (.exit 0, ⟨[], []⟩)]⟩
noncomputable def ref17_zeros_L2 (N : Nat) (X : (((List (Int)) × ((Int) × Unit)) × Unit) → Option (((((Bool) × Unit) × Unit) ⊕ (Unit × Unit)))) (b0 : List (Int)) (i3 : Int) : Option (((((Bool) × Unit) × Unit) ⊕ (Unit × Unit))) :=
 bif (decide (i3 < (((List.length b0) : Nat) : Int))) then
  Option.bind (getI b0 i3) fun (v4 : Int) =>
  bif (!(decide (v4 = (0 : Int)))) then
   some ((.inl ((@Bool.false, @Unit.unit), @Unit.unit)))
  else
   (X ((b0, ((Go.IntKind.wrap .i64 (i3 + (1 : Int))), @Unit.unit)), @Unit.unit))
 else
  some ((.inr (@Unit.unit, @Unit.unit)))
noncomputable def ref17_zeros_L2_R (N : Nat) (c : (((List (Int)) × ((Int) × Unit)) × Unit)) : Option (((((Bool) × Unit) × Unit) ⊕ (Unit × Unit))) := gl (fun X c => ref17_zeros_L2 N X c.1.1 c.1.2.1) N c
theorem ref17_zeros_L2_S (N : Nat) (X : (((List (Int)) × ((Int) × Unit)) × Unit) → Option (((((Bool) × Unit) × Unit) ⊕ (Unit × Unit)))) (b0 : List (Int)) (i3 : Int) : (roundK Go.Proofs.Try.prog (Ev28 N) 400 [115] ref17_zeros_L2_I (loopAt Go.Proofs.Try.prog [115] 2) X ((b0, i3, ()), ())).run = ref17_zeros_L2 N X b0 i3 := by kernel_rfl
noncomputable def Ev29 (N : Nat) : (R : Type) → Env R := Env.addLp (Ev28 N) [115] 0 2 (fun R => lpK Go.Proofs.Try.prog ref17_zeros_L2_I (fun X c => ref17_zeros_L2 N X c.1.1 c.1.2.1) N)
theorem Ev29_ok (N : Nat) (R : Type) : EnvOK Go.Proofs.Try.prog (Ev29 N R) := EnvOK.addLp (Ev28_ok N R) (by kernel_rfl) (lpK_ok (li := ref17_zeros_L2_I) (G := fun X c => ref17_zeros_L2 N X c.1.1 c.1.2.1) hmx (Ev28_ok N _) (by kernel_rfl) loopAt_sub (fun (X : CT ref17_zeros_L2_I.sh → Option (OT ref17_zeros_L2_I.outs)) (c : CT ref17_zeros_L2_I.sh) => ref17_zeros_L2_S N X c.1.1 c.1.2.1) N)
noncomputable def ref17_zeros (N : Nat) (b0 : List (Int)) : Option (Bool) :=
 Option.bind (ref17_zeros_L2_R N ((b0, ((0 : Int), @Unit.unit)), @Unit.unit)) fun (v2 : (((Bool × Unit) × Unit) ⊕ (Unit × Unit))) =>
 Sum.elim
  (fun (v3 : ((Bool × Unit) × Unit)) =>
  some (v3.1.1))
  (fun (v3 : (Unit × Unit)) =>
  some (@Bool.true)) v2
theorem ref17_zeros_S (N : Nat) (b0 : List (Int)) : (runK Go.Proofs.Try.prog (Ev29 N) 400 115 [(.sl (.int .u8))] [.bool] (b0, ())).run = ref17_zeros N b0 := by kernel_rfl
noncomputable def Ev30 (N : Nat) : (R : Type) → Env R := Env.addFn (Ev29 N) 115 (fun R => fnK [(.sl (.int .u8))] [.bool] (fun c => ref17_zeros N c.1))
theorem Ev30_ok (N : Nat) (R : Type) : EnvOK Go.Proofs.Try.prog (Ev30 N R) := EnvOK.addFn hmx (Ev29_ok N R) (Ev29_ok N _) (by kernel_rfl) (fun c => ref17_zeros_S N c.1)
noncomputable def ref17_Check (N : Nat) (a0 : (Int) × (List (Int))) : Option (Int) :=
 Option.bind (@ref17_kind N a0.1) fun (v2 : Bool) =>
 bif (!v2) then
  some ((9 : Int))
 else
  Option.bind (getI ([(2 : Int), (8 : Int), (100 : Int), (36 : Int)] : List (Int)) (Go.IntKind.wrap .u8 (a0.1 - (1 : Int)))) fun (v3 : Int) =>
  Option.bind (getI ([(2 : Int), (72 : Int), (100 : Int), (36 : Int)] : List (Int)) (Go.IntKind.wrap .u8 (a0.1 - (1 : Int)))) fun (v4 : Int) =>
  bif (decide ((((List.length a0.2) : Nat) : Int) < v3)) then
   some ((4 : Int))
  else
   bif (decide (v4 < (((List.length a0.2) : Nat) : Int))) then
    some ((3 : Int))
   else
    bif (decide (a0.1 = (1 : Int))) then
     some ((0 : Int))
    else
     Option.bind (getI a0.2 (3 : Int)) fun (v5 : Int) =>
     Option.bind (takeI a0.2 (3 : Int)) fun (v6 : (List Int)) =>
     Option.bind (@ref17_zeros N v6) fun (v7 : Bool) =>
     bif (!v7) then
      some ((3 : Int))
     else
      bif (decide (a0.1 = (2 : Int))) then
       bif (@cond Bool @Bool.false @Bool.true (@cond Bool @Bool.true (decide ((4 : Int) < v5)) @Bool.false)) then
        some ((3 : Int))
       else
        bif (decide (a0.1 = (3 : Int))) then
         bif (@cond Bool @Bool.true (!(decide (v5 = (1 : Int)))) @Bool.false) then
          bif (@cond Bool @Bool.false @Bool.true (@cond Bool @Bool.true (!(decide (v5 = (2 : Int)))) @Bool.false)) then
           some ((3 : Int))
          else
           bif (decide (a0.1 = (4 : Int))) then
            bif (decide (v5 < (1 : Int))) then
             some ((3 : Int))
            else
             bif (@cond Bool @Bool.false @Bool.true (@cond Bool @Bool.true (@cond Bool @Bool.false @Bool.true (decide ((3 : Int) < v5))) @Bool.false)) then
              some ((3 : Int))
             else
              some ((0 : Int))
           else
            some ((0 : Int))
         else
          bif (decide (a0.1 = (4 : Int))) then
           bif (decide (v5 < (1 : Int))) then
            some ((3 : Int))
           else
            bif (@cond Bool @Bool.false @Bool.true (@cond Bool @Bool.true (@cond Bool @Bool.false @Bool.true (decide ((3 : Int) < v5))) @Bool.false)) then
             some ((3 : Int))
            else
             some ((0 : Int))
          else
           some ((0 : Int))
        else
         bif (decide (a0.1 = (4 : Int))) then
          bif (decide (v5 < (1 : Int))) then
           some ((3 : Int))
          else
           bif (@cond Bool @Bool.false @Bool.true (@cond Bool @Bool.true (@cond Bool @Bool.false @Bool.true (decide ((3 : Int) < v5))) @Bool.false)) then
            some ((3 : Int))
           else
            some ((0 : Int))
         else
          some ((0 : Int))
      else
       bif (decide (a0.1 = (3 : Int))) then
        bif (@cond Bool @Bool.true (!(decide (v5 = (1 : Int)))) @Bool.false) then
         bif (@cond Bool @Bool.false @Bool.true (@cond Bool @Bool.true (!(decide (v5 = (2 : Int)))) @Bool.false)) then
          some ((3 : Int))
         else
          bif (decide (a0.1 = (4 : Int))) then
           bif (decide (v5 < (1 : Int))) then
            some ((3 : Int))
           else
            bif (@cond Bool @Bool.false @Bool.true (@cond Bool @Bool.true (@cond Bool @Bool.false @Bool.true (decide ((3 : Int) < v5))) @Bool.false)) then
             some ((3 : Int))
            else
             some ((0 : Int))
          else
           some ((0 : Int))
        else
         bif (decide (a0.1 = (4 : Int))) then
          bif (decide (v5 < (1 : Int))) then
           some ((3 : Int))
          else
           bif (@cond Bool @Bool.false @Bool.true (@cond Bool @Bool.true (@cond Bool @Bool.false @Bool.true (decide ((3 : Int) < v5))) @Bool.false)) then
            some ((3 : Int))
           else
            some ((0 : Int))
         else
          some ((0 : Int))
       else
        bif (decide (a0.1 = (4 : Int))) then
         bif (decide (v5 < (1 : Int))) then
          some ((3 : Int))
         else
          bif (@cond Bool @Bool.false @Bool.true (@cond Bool @Bool.true (@cond Bool @Bool.false @Bool.true (decide ((3 : Int) < v5))) @Bool.false)) then
           some ((3 : Int))
          else
           some ((0 : Int))
        else
         some ((0 : Int))
theorem ref17_Check_S (N : Nat) (a0 : (Int) × (List (Int))) : (runK Go.Proofs.Try.prog (Ev30 N) 400 77 [(.pair (.int .u8) (.sl (.int .u8)))] [(.int .i64)] (a0, ())).run = ref17_Check N a0 := by kernel_rfl
theorem ref17_Check_C (N : Nat) (a0 : (Int) × (List (Int))) (y : Int) (h : ref17_Check N a0 = some y) : CallsK Go.Proofs.Try.prog 77 (valA [(.pair (.int .u8) (.sl (.int .u8)))] (a0, ())) (tupV (valR [(.int .i64)] y)) := runK_ok hmx (Ev30_ok N _) (okFn_ok (by kernel_rfl)) (by rw [ref17_Check_S]; exact h)
noncomputable def Ev31 (N : Nat) : (R : Type) → Env R := Env.addFn (Ev30 N) 77 (fun R => fnK [(.pair (.int .u8) (.sl (.int .u8)))] [(.int .i64)] (fun c => ref17_Check N c.1))
theorem Ev31_ok (N : Nat) (R : Type) : EnvOK Go.Proofs.Try.prog (Ev31 N R) := EnvOK.addFn hmx (Ev30_ok N R) (Ev30_ok N _) (by kernel_rfl) (fun c => ref17_Check_S N c.1)
noncomputable def Ev32 (N : Nat) : (R : Type) → Env R := Env.addBx (Ev31 N) [(84, 0)]
theorem Ev32_ok (N : Nat) (R : Type) : EnvOK Go.Proofs.Try.prog (Ev32 N R) := EnvOK.addBx (Ev31_ok N R) [(84, 0)]
noncomputable def ref01_Same_L4_I : LI := ⟨26, 0, [], ⟨[(0, .ty (.sl (.int .u8))), (1, .ty (.sl (.int .u8))), (5, .ty (.int .i64))], []⟩, [(.ret, ⟨[(4, .ty .bool)], []⟩), (.exit 0, ⟨[], []⟩)]⟩
noncomputable def ref01_Same_L4 (N : Nat) (X : (((List (Int)) × ((List (Int)) × ((Int) × Unit))) × Unit) → Option (((((Bool) × Unit) × Unit) ⊕ (Unit × Unit)))) (a0 : List (Int)) (b1 : List (Int)) (i5 : Int) : Option (((((Bool) × Unit) × Unit) ⊕ (Unit × Unit))) :=
 bif (decide (i5 < (((List.length a0) : Nat) : Int))) then
  Option.bind (getI a0 i5) fun (v5 : Int) =>
  Option.bind (getI b1 i5) fun (v6 : Int) =>
  bif (!(decide (v5 = v6))) then
   some ((.inl ((@Bool.false, @Unit.unit), @Unit.unit)))
  else
   (X ((a0, (b1, ((Go.IntKind.wrap .i64 (i5 + (1 : Int))), @Unit.unit))), @Unit.unit))
 else
  some ((.inr (@Unit.unit, @Unit.unit)))
noncomputable def ref01_Same_L4_R (N : Nat) (c : (((List (Int)) × ((List (Int)) × ((Int) × Unit))) × Unit)) : Option (((((Bool) × Unit) × Unit) ⊕ (Unit × Unit))) := gl (fun X c => ref01_Same_L4 N X c.1.1 c.1.2.1 c.1.2.2.1) N c
theorem ref01_Same_L4_S (N : Nat) (X : (((List (Int)) × ((List (Int)) × ((Int) × Unit))) × Unit) → Option (((((Bool) × Unit) × Unit) ⊕ (Unit × Unit)))) (a0 : List (Int)) (b1 : List (Int)) (i5 : Int) : (roundK Go.Proofs.Try.prog (Ev32 N) 400 [18] ref01_Same_L4_I (loopAt Go.Proofs.Try.prog [18] 4) X ((a0, b1, i5, ()), ())).run = ref01_Same_L4 N X a0 b1 i5 := by kernel_rfl
noncomputable def Ev33 (N : Nat) : (R : Type) → Env R := Env.addLp (Ev32 N) [18] 0 4 (fun R => lpK Go.Proofs.Try.prog ref01_Same_L4_I (fun X c => ref01_Same_L4 N X c.1.1 c.1.2.1 c.1.2.2.1) N)
theorem Ev33_ok (N : Nat) (R : Type) : EnvOK Go.Proofs.Try.prog (Ev33 N R) := EnvOK.addLp (Ev32_ok N R) (by kernel_rfl) (lpK_ok (li := ref01_Same_L4_I) (G := fun X c => ref01_Same_L4 N X c.1.1 c.1.2.1 c.1.2.2.1) hmx (Ev32_ok N _) (by kernel_rfl) loopAt_sub (fun (X : CT ref01_Same_L4_I.sh → Option (OT ref01_Same_L4_I.outs)) (c : CT ref01_Same_L4_I.sh) => ref01_Same_L4_S N X c.1.1 c.1.2.1 c.1.2.2.1) N)
noncomputable def ref01_Same (N : Nat) (a0 : List (Int)) (b1 : List (Int)) : Option (Bool) :=
 bif (!(decide ((((List.length a0) : Nat) : Int) = (((List.length b1) : Nat) : Int)))) then
  some (@Bool.false)
 else
  Option.bind (ref01_Same_L4_R N ((a0, (b1, ((0 : Int), @Unit.unit))), @Unit.unit)) fun (v3 : (((Bool × Unit) × Unit) ⊕ (Unit × Unit))) =>
  Sum.elim
   (fun (v4 : ((Bool × Unit) × Unit)) =>
   some (v4.1.1))
   (fun (v4 : (Unit × Unit)) =>
   some (@Bool.true)) v3
theorem ref01_Same_S (N : Nat) (a0 : List (Int)) (b1 : List (Int)) : (runK Go.Proofs.Try.prog (Ev33 N) 400 18 [(.sl (.int .u8)), (.sl (.int .u8))] [.bool] (a0, b1, ())).run = ref01_Same N a0 b1 := by kernel_rfl
noncomputable def Ev34 (N : Nat) : (R : Type) → Env R := Env.addFn (Ev33 N) 18 (fun R => fnK [(.sl (.int .u8)), (.sl (.int .u8))] [.bool] (fun c => ref01_Same N c.1 c.2.1))
theorem Ev34_ok (N : Nat) (R : Type) : EnvOK Go.Proofs.Try.prog (Ev34 N R) := EnvOK.addFn hmx (Ev33_ok N R) (Ev33_ok N _) (by kernel_rfl) (fun c => ref01_Same_S N c.1 c.2.1)
noncomputable def ref17_Same (N : Nat) (a0 : (Int) × (List (Int))) (b1 : (Int) × (List (Int))) : Option (Bool) :=
 bif (decide (a0.1 = b1.1)) then
  Option.bind (@ref01_Same N a0.2 b1.2) fun (v3 : Bool) =>
  some ((@cond Bool @Bool.true v3 @Bool.false))
 else
  some (@Bool.false)
theorem ref17_Same_S (N : Nat) (a0 : (Int) × (List (Int))) (b1 : (Int) × (List (Int))) : (runK Go.Proofs.Try.prog (Ev34 N) 400 84 [(.pair (.int .u8) (.sl (.int .u8))), (.pair (.int .u8) (.sl (.int .u8)))] [.bool] (a0, b1, ())).run = ref17_Same N a0 b1 := by kernel_rfl
theorem ref17_Same_C (N : Nat) (a0 : (Int) × (List (Int))) (b1 : (Int) × (List (Int))) (y : Bool) (h : ref17_Same N a0 b1 = some y) : CallsK Go.Proofs.Try.prog 84 (valA [(.pair (.int .u8) (.sl (.int .u8))), (.pair (.int .u8) (.sl (.int .u8)))] (a0, b1, ())) (tupV (valR [.bool] y)) := runK_ok hmx (Ev34_ok N _) (okFn_ok (by kernel_rfl)) (by rw [ref17_Same_S]; exact h)
noncomputable def Ev35 (N : Nat) : (R : Type) → Env R := Env.addFn (Ev34 N) 84 (fun R => fnK [(.pair (.int .u8) (.sl (.int .u8))), (.pair (.int .u8) (.sl (.int .u8)))] [.bool] (fun c => ref17_Same N c.1 c.2.1))
theorem Ev35_ok (N : Nat) (R : Type) : EnvOK Go.Proofs.Try.prog (Ev35 N R) := EnvOK.addFn hmx (Ev34_ok N R) (Ev34_ok N _) (by kernel_rfl) (fun c => ref17_Same_S N c.1 c.2.1)
noncomputable def Ev36 (N : Nat) : (R : Type) → Env R := Env.addInl (Ev35 N) [72, 71]
theorem Ev36_ok (N : Nat) (R : Type) : EnvOK Go.Proofs.Try.prog (Ev36 N R) := EnvOK.addInl (Ev35_ok N R) (by kernel_rfl)
noncomputable def Ev37 (N : Nat) : (R : Type) → Env R := Env.addBx (Ev36 N) [(69, 0)]
theorem Ev37_ok (N : Nat) (R : Type) : EnvOK Go.Proofs.Try.prog (Ev37 N R) := EnvOK.addBx (Ev36_ok N R) [(69, 0)]
noncomputable def packet_body_9_octs_Join_L3_I : LI := ⟨33, 0, [], ⟨[(0, .ty (.sl (.sl (.int .u8)))), (3, .ty (.int .i64)), (9, .ty (.sl (.sl (.int .u8)))), (10, .ty (.int .i64)), (11, .ty (.int .i64))], []⟩, [(.exit 0, ⟨[(0, .ty (.sl (.sl (.int .u8)))), (3, .ty (.int .i64))], []⟩)]⟩
noncomputable def packet_body_9_octs_Join_L3 (N : Nat) (X : (((List (List (Int))) × ((Int) × ((List (List (Int))) × ((Int) × ((Int) × Unit))))) × Unit) → Option ((((List (List (Int))) × ((Int) × Unit)) × Unit))) (parts0 : List (List (Int))) (size3 : Int) (x9 : List (List (Int))) (x10 : Int) (x11 : Int) : Option ((((List (List (Int))) × ((Int) × Unit)) × Unit)) :=
 bif (decide (x11 < x10)) then
  Option.bind (getI x9 x11) fun (v7 : (List Int)) =>
  (X ((parts0, ((Go.IntKind.wrap .i64 (size3 + (((List.length v7) : Nat) : Int))), (x9, (x10, ((Go.IntKind.wrap .i64 (x11 + (1 : Int))), @Unit.unit))))), @Unit.unit))
 else
  some (((parts0, (size3, @Unit.unit)), @Unit.unit))
noncomputable def packet_body_9_octs_Join_L3_R (N : Nat) (c : (((List (List (Int))) × ((Int) × ((List (List (Int))) × ((Int) × ((Int) × Unit))))) × Unit)) : Option ((((List (List (Int))) × ((Int) × Unit)) × Unit)) := gl (fun X c => packet_body_9_octs_Join_L3 N X c.1.1 c.1.2.1 c.1.2.2.1 c.1.2.2.2.1 c.1.2.2.2.2.1) N c
theorem packet_body_9_octs_Join_L3_S (N : Nat) (X : (((List (List (Int))) × ((Int) × ((List (List (Int))) × ((Int) × ((Int) × Unit))))) × Unit) → Option ((((List (List (Int))) × ((Int) × Unit)) × Unit))) (parts0 : List (List (Int))) (size3 : Int) (x9 : List (List (Int))) (x10 : Int) (x11 : Int) : (roundK Go.Proofs.Try.prog (Ev37 N) 400 [71, 9, 69] packet_body_9_octs_Join_L3_I (loopAt Go.Proofs.Try.prog [71, 9, 69] 3) X ((parts0, size3, x9, x10, x11, ()), ())).run = packet_body_9_octs_Join_L3 N X parts0 size3 x9 x10 x11 := by kernel_rfl
noncomputable def Ev38 (N : Nat) : (R : Type) → Env R := Env.addLp (Ev37 N) [71, 9, 69] 0 3 (fun R => lpK Go.Proofs.Try.prog packet_body_9_octs_Join_L3_I (fun X c => packet_body_9_octs_Join_L3 N X c.1.1 c.1.2.1 c.1.2.2.1 c.1.2.2.2.1 c.1.2.2.2.2.1) N)
theorem Ev38_ok (N : Nat) (R : Type) : EnvOK Go.Proofs.Try.prog (Ev38 N R) := EnvOK.addLp (Ev37_ok N R) (by kernel_rfl) (lpK_ok (li := packet_body_9_octs_Join_L3_I) (G := fun X c => packet_body_9_octs_Join_L3 N X c.1.1 c.1.2.1 c.1.2.2.1 c.1.2.2.2.1 c.1.2.2.2.2.1) hmx (Ev37_ok N _) (by kernel_rfl) loopAt_sub (fun (X : CT packet_body_9_octs_Join_L3_I.sh → Option (OT packet_body_9_octs_Join_L3_I.outs)) (c : CT packet_body_9_octs_Join_L3_I.sh) => packet_body_9_octs_Join_L3_S N X c.1.1 c.1.2.1 c.1.2.2.1 c.1.2.2.2.1 c.1.2.2.2.2.1) N)
noncomputable def packet_body_9_octs_Join_L9_I : LI := ⟨33, 0, [], ⟨[(6, .lit (.own 0)), (22, .ty (.sl (.sl (.int .u8)))), (23, .ty (.int .i64)), (24, .ty (.int .i64))], [.own (.int .u8) 5]⟩, [(.exit 2, ⟨[(6, .lit (.own 0))], [.own (.int .u8) 5]⟩)]⟩
noncomputable def packet_body_9_octs_Join_L9 (N : Nat) (X : (((List (List (Int))) × ((Int) × ((Int) × Unit))) × ((List (Int)) × Unit)) → Option ((Unit × ((List (Int)) × Unit)))) (x22 : List (List (Int))) (x23 : Int) (x24 : Int) (h0 : List (Int)) : Option ((Unit × ((List (Int)) × Unit))) :=
 bif (decide (x24 < x23)) then
  Option.bind (getI x22 x24) fun (v6 : (List Int)) =>
  bif (roomB ((List.length h0) + (List.length v6)) 1) then
   (X ((x22, (x23, ((Go.IntKind.wrap .i64 (x24 + (1 : Int))), @Unit.unit))), ((h0 ++ v6), @Unit.unit)))
  else
   none
 else
  some ((@Unit.unit, (h0, @Unit.unit)))
noncomputable def packet_body_9_octs_Join_L9_R (N : Nat) (c : (((List (List (Int))) × ((Int) × ((Int) × Unit))) × ((List (Int)) × Unit))) : Option ((Unit × ((List (Int)) × Unit))) := gl (fun X c => packet_body_9_octs_Join_L9 N X c.1.1 c.1.2.1 c.1.2.2.1 c.2.1) N c
theorem packet_body_9_octs_Join_L9_S (N : Nat) (X : (((List (List (Int))) × ((Int) × ((Int) × Unit))) × ((List (Int)) × Unit)) → Option ((Unit × ((List (Int)) × Unit)))) (x22 : List (List (Int))) (x23 : Int) (x24 : Int) (h0 : List (Int)) : (roundK Go.Proofs.Try.prog (Ev38 N) 400 [71, 9, 69] packet_body_9_octs_Join_L9_I (loopAt Go.Proofs.Try.prog [71, 9, 69] 9) X ((x22, x23, x24, ()), (h0, ()))).run = packet_body_9_octs_Join_L9 N X x22 x23 x24 h0 := by kernel_rfl
noncomputable def Ev39 (N : Nat) : (R : Type) → Env R := Env.addLp (Ev38 N) [71, 9, 69] 0 9 (fun R => lpK Go.Proofs.Try.prog packet_body_9_octs_Join_L9_I (fun X c => packet_body_9_octs_Join_L9 N X c.1.1 c.1.2.1 c.1.2.2.1 c.2.1) N)
theorem Ev39_ok (N : Nat) (R : Type) : EnvOK Go.Proofs.Try.prog (Ev39 N R) := EnvOK.addLp (Ev38_ok N R) (by kernel_rfl) (lpK_ok (li := packet_body_9_octs_Join_L9_I) (G := fun X c => packet_body_9_octs_Join_L9 N X c.1.1 c.1.2.1 c.1.2.2.1 c.2.1) hmx (Ev38_ok N _) (by kernel_rfl) loopAt_sub (fun (X : CT packet_body_9_octs_Join_L9_I.sh → Option (OT packet_body_9_octs_Join_L9_I.outs)) (c : CT packet_body_9_octs_Join_L9_I.sh) => packet_body_9_octs_Join_L9_S N X c.1.1 c.1.2.1 c.1.2.2.1 c.2.1) N)
noncomputable def packet_body_L11_I : LI := ⟨65, 0, [], ⟨[(8, .lit (.own 0)), (46, .ty (.sl (.pair (.int .u8) (.sl (.int .u8))))), (47, .ty (.int .i64)), (48, .ty (.int .i64))], [.own (.int .u8) 5]⟩, [(.ret, ⟨[(2, .ty (.sl (.int .u8))), (3, .ty (.int .i64))], []⟩), (.exit 0, ⟨[(8, .lit (.own 0))], [.own (.int .u8) 5]⟩)]⟩
noncomputable def packet_body_L11 (N : Nat) (X : (((List ((Int) × (List (Int)))) × ((Int) × ((Int) × Unit))) × ((List (Int)) × Unit)) → Option (((((List (Int)) × ((Int) × Unit)) × Unit) ⊕ (Unit × ((List (Int)) × Unit))))) (x46 : List ((Int) × (List (Int)))) (x47 : Int) (x48 : Int) (h0 : List (Int)) : Option (((((List (Int)) × ((Int) × Unit)) × Unit) ⊕ (Unit × ((List (Int)) × Unit)))) :=
 bif (decide (x48 < x47)) then
  Option.bind (getI x46 x48) fun (v6 : (Int × (List Int))) =>
  Option.bind (@attr_Lay N (v6.1, v6.2)) fun (v7 : ((List Int) × Int)) =>
  bif (!(decide (v7.2 = (0 : Int)))) then
   some ((.inl ((([] : List (Int)), (v7.2, @Unit.unit)), @Unit.unit)))
  else
   bif (roomB ((List.length h0) + (List.length v7.1)) 1) then
    (X ((x46, (x47, ((Go.IntKind.wrap .i64 (x48 + (1 : Int))), @Unit.unit))), ((h0 ++ v7.1), @Unit.unit)))
   else
    none
 else
  some ((.inr (@Unit.unit, (h0, @Unit.unit))))
noncomputable def packet_body_L11_R (N : Nat) (c : (((List ((Int) × (List (Int)))) × ((Int) × ((Int) × Unit))) × ((List (Int)) × Unit))) : Option (((((List (Int)) × ((Int) × Unit)) × Unit) ⊕ (Unit × ((List (Int)) × Unit)))) := gl (fun X c => packet_body_L11 N X c.1.1 c.1.2.1 c.1.2.2.1 c.2.1) N c
theorem packet_body_L11_S (N : Nat) (X : (((List ((Int) × (List (Int)))) × ((Int) × ((Int) × Unit))) × ((List (Int)) × Unit)) → Option (((((List (Int)) × ((Int) × Unit)) × Unit) ⊕ (Unit × ((List (Int)) × Unit))))) (x46 : List ((Int) × (List (Int)))) (x47 : Int) (x48 : Int) (h0 : List (Int)) : (roundK Go.Proofs.Try.prog (Ev39 N) 400 [69] packet_body_L11_I (loopAt Go.Proofs.Try.prog [69] 11) X ((x46, x47, x48, ()), (h0, ()))).run = packet_body_L11 N X x46 x47 x48 h0 := by kernel_rfl
noncomputable def Ev40 (N : Nat) : (R : Type) → Env R := Env.addLp (Ev39 N) [69] 0 11 (fun R => lpK Go.Proofs.Try.prog packet_body_L11_I (fun X c => packet_body_L11 N X c.1.1 c.1.2.1 c.1.2.2.1 c.2.1) N)
theorem Ev40_ok (N : Nat) (R : Type) : EnvOK Go.Proofs.Try.prog (Ev40 N R) := EnvOK.addLp (Ev39_ok N R) (by kernel_rfl) (lpK_ok (li := packet_body_L11_I) (G := fun X c => packet_body_L11 N X c.1.1 c.1.2.1 c.1.2.2.1 c.2.1) hmx (Ev39_ok N _) (by kernel_rfl) loopAt_sub (fun (X : CT packet_body_L11_I.sh → Option (OT packet_body_L11_I.outs)) (c : CT packet_body_L11_I.sh) => packet_body_L11_S N X c.1.1 c.1.2.1 c.1.2.2.1 c.2.1) N)
noncomputable def packet_body (N : Nat) (p0 : (Bool) × ((Int) × ((List ((Int) × (List (Int)))) × (List (Int))))) : Option ((List (Int)) × Int) :=
 bif (!p0.1) then
  bif (decide ((((List.length p0.2.2.2) : Nat) : Int) = (0 : Int))) then
   some ((([] : List (Int)), (4 : Int)))
  else
   some ((p0.2.2.2, (0 : Int)))
 else
  bif (decide ((8 : Int) < (((List.length p0.2.2.1) : Nat) : Int))) then
   some ((([] : List (Int)), (5 : Int)))
  else
   Option.bind (@octs_Put N (Go.IntKind.wrap .u64 p0.2.1) (2 : Int) @Bool.false) fun (v2 : ((List Int) × Int)) =>
   Option.bind (@octs_Put N (Go.IntKind.wrap .u64 (((List.length p0.2.2.1) : Nat) : Int)) (2 : Int) @Bool.false) fun (v3 : ((List Int) × Int)) =>
   Option.bind (packet_body_9_octs_Join_L3_R N ((([v2.1, v3.1] : List ((List Int))), ((0 : Int), (([v2.1, v3.1] : List ((List Int))), ((((List.length ([v2.1, v3.1] : List ((List Int)))) : Nat) : Int), ((0 : Int), @Unit.unit))))), @Unit.unit)) fun (v4 : (((List (List Int)) × (Int × Unit)) × Unit)) =>
   bif ((decide ((0 : Int) ≤ (0 : Int) ∧ (0 : Int) ≤ v4.1.2.1)) && (roomB (Int.toNat v4.1.2.1) 1)) then
    Option.bind (packet_body_9_octs_Join_L9_R N ((v4.1.1, ((((List.length v4.1.1) : Nat) : Int), ((0 : Int), @Unit.unit))), ((@List.replicate Int (Int.toNat (0 : Int)) (0 : Int)), @Unit.unit))) fun (v5 : (Unit × ((List Int) × Unit))) =>
    Option.bind (packet_body_L11_R N ((p0.2.2.1, ((((List.length p0.2.2.1) : Nat) : Int), ((0 : Int), @Unit.unit))), (v5.2.1, @Unit.unit))) fun (v6 : ((((List Int) × (Int × Unit)) × Unit) ⊕ (Unit × ((List Int) × Unit)))) =>
    Sum.elim
     (fun (v7 : (((List Int) × (Int × Unit)) × Unit)) =>
     some ((v7.1.1, v7.1.2.1)))
     (fun (v7 : (Unit × ((List Int) × Unit))) =>
     some ((v7.2.1, (0 : Int)))) v6
   else
    none
theorem packet_body_S (N : Nat) (p0 : (Bool) × ((Int) × ((List ((Int) × (List (Int)))) × (List (Int))))) : (runK Go.Proofs.Try.prog (Ev40 N) 400 69 [(.pair .bool (.pair (.int .u16) (.pair (.sl (.pair (.int .u8) (.sl (.int .u8)))) (.sl (.int .u8)))))] [(.sl (.int .u8)), (.int .i64)] (p0, ())).run = packet_body N p0 := by kernel_rfl
theorem packet_body_C (N : Nat) (p0 : (Bool) × ((Int) × ((List ((Int) × (List (Int)))) × (List (Int))))) (y : (List (Int)) × Int) (h : packet_body N p0 = some y) : CallsK Go.Proofs.Try.prog 69 (valA [(.pair .bool (.pair (.int .u16) (.pair (.sl (.pair (.int .u8) (.sl (.int .u8)))) (.sl (.int .u8)))))] (p0, ())) (tupV (valR [(.sl (.int .u8)), (.int .i64)] y)) := runK_ok hmx (Ev40_ok N _) (okFn_ok (by kernel_rfl)) (by rw [packet_body_S]; exact h)
noncomputable def Ev41 (N : Nat) : (R : Type) → Env R := Env.addFn (Ev40 N) 69 (fun R => fnK [(.pair .bool (.pair (.int .u16) (.pair (.sl (.pair (.int .u8) (.sl (.int .u8)))) (.sl (.int .u8)))))] [(.sl (.int .u8)), (.int .i64)] (fun c => packet_body N c.1))
theorem Ev41_ok (N : Nat) (R : Type) : EnvOK Go.Proofs.Try.prog (Ev41 N R) := EnvOK.addFn hmx (Ev40_ok N R) (Ev40_ok N _) (by kernel_rfl) (fun c => packet_body_S N c.1)
noncomputable def Ev42 (N : Nat) : (R : Type) → Env R := Env.addInl (Ev41 N) [72, 82]
theorem Ev42_ok (N : Nat) (R : Type) : EnvOK Go.Proofs.Try.prog (Ev42 N R) := EnvOK.addInl (Ev41_ok N R) (by kernel_rfl)
noncomputable def Ev43 (N : Nat) : (R : Type) → Env R := Env.addMv (Ev42 N) [(15, 7)]
theorem Ev43_ok (N : Nat) (R : Type) : EnvOK Go.Proofs.Try.prog (Ev43 N R) := EnvOK.addMv (Ev42_ok N R) [(15, 7)]
noncomputable def Ev44 (N : Nat) : (R : Type) → Env R := Env.addBx (Ev43 N) [(15, 0)]
theorem Ev44_ok (N : Nat) (R : Type) : EnvOK Go.Proofs.Try.prog (Ev44 N R) := EnvOK.addBx (Ev43_ok N R) [(15, 0)]
noncomputable def packet_Lay (N : Nat) (p0 : (Bool) × ((Int) × ((List ((Int) × (List (Int)))) × (List (Int))))) : Option ((List (Int)) × Int) :=
 Option.bind (@packet_body N (p0.1, (p0.2.1, (p0.2.2.1, p0.2.2.2)))) fun (v2 : ((List Int) × Int)) =>
 bif (!(decide (v2.2 = (0 : Int)))) then
  some ((([] : List (Int)), v2.2))
 else
  bif (decide ((4095 : Int) < (Go.IntKind.wrap .i64 ((4 : Int) + (((List.length v2.1) : Nat) : Int))))) then
   some ((([] : List (Int)), (8 : Int)))
  else
   bif p0.1 then
    Option.bind (@octs_Put N (Go.IntKind.wrap .u64 (Go.IntKind.wrap .i64 ((4 : Int) + (((List.length v2.1) : Nat) : Int)))) (2 : Int) @Bool.false) fun (v3 : ((List Int) × Int)) =>
    Option.bind (@octs_Join N ([(@List.set Int ([(16 : Int), (0 : Int)] : List (Int)) (Int.toNat (1 : Int)) (1 : Int)), v3.1, v2.1] : List ((List Int)))) fun (v4 : (List Int)) =>
    some ((v4, (0 : Int)))
   else
    Option.bind (@octs_Put N (Go.IntKind.wrap .u64 (Go.IntKind.wrap .i64 ((4 : Int) + (((List.length v2.1) : Nat) : Int)))) (2 : Int) @Bool.false) fun (v3 : ((List Int) × Int)) =>
    Option.bind (@octs_Join N ([([(16 : Int), (0 : Int)] : List (Int)), v3.1, v2.1] : List ((List Int)))) fun (v4 : (List Int)) =>
    some ((v4, (0 : Int)))
theorem packet_Lay_S (N : Nat) (p0 : (Bool) × ((Int) × ((List ((Int) × (List (Int)))) × (List (Int))))) : (runK Go.Proofs.Try.prog (Ev44 N) 400 15 [(.pair .bool (.pair (.int .u16) (.pair (.sl (.pair (.int .u8) (.sl (.int .u8)))) (.sl (.int .u8)))))] [(.sl (.int .u8)), (.int .i64)] (p0, ())).run = packet_Lay N p0 := by kernel_rfl
theorem packet_Lay_C (N : Nat) (p0 : (Bool) × ((Int) × ((List ((Int) × (List (Int)))) × (List (Int))))) (y : (List (Int)) × Int) (h : packet_Lay N p0 = some y) : CallsK Go.Proofs.Try.prog 15 (valA [(.pair .bool (.pair (.int .u16) (.pair (.sl (.pair (.int .u8) (.sl (.int .u8)))) (.sl (.int .u8)))))] (p0, ())) (tupV (valR [(.sl (.int .u8)), (.int .i64)] y)) := runK_ok hmx (Ev44_ok N _) (okFn_ok (by kernel_rfl)) (by rw [packet_Lay_S]; exact h)
noncomputable def Ev45 (N : Nat) : (R : Type) → Env R := Env.addFn (Ev44 N) 15 (fun R => fnK [(.pair .bool (.pair (.int .u16) (.pair (.sl (.pair (.int .u8) (.sl (.int .u8)))) (.sl (.int .u8)))))] [(.sl (.int .u8)), (.int .i64)] (fun c => packet_Lay N c.1))
theorem Ev45_ok (N : Nat) (R : Type) : EnvOK Go.Proofs.Try.prog (Ev45 N R) := EnvOK.addFn hmx (Ev44_ok N R) (Ev44_ok N _) (by kernel_rfl) (fun c => packet_Lay_S N c.1)
noncomputable def packet_Length (N : Nat) (b0 : List (Int)) : Option ((Int) × Int) :=
 bif (decide ((((List.length b0) : Nat) : Int) < (4 : Int))) then
  some (((0 : Int), (4 : Int)))
 else
  Option.bind (getI b0 (0 : Int)) fun (v2 : Int) =>
  bif (!(decide (v2 = (16 : Int)))) then
   some (((0 : Int), (15 : Int)))
  else
   Option.bind (subI b0 (2 : Int) (4 : Int)) fun (v3 : (List Int)) =>
   Option.bind (@octs_Get N v3 @Bool.false) fun (v4 : (Int × Int)) =>
   Option.bind (getI b0 (1 : Int)) fun (v5 : Int) =>
   bif (decide (v5 = (1 : Int))) then
    Option.bind (getI b0 (1 : Int)) fun (v6 : Int) =>
    bif (decide ((1 : Int) < v6)) then
     some (((0 : Int), (3 : Int)))
    else
     bif (@cond Bool @Bool.false @Bool.true (decide ((Go.IntKind.wrap .i64 v4.1) < (8 : Int)))) then
      some (((0 : Int), (3 : Int)))
     else
      bif (@cond Bool @Bool.false @Bool.true (decide ((4095 : Int) < (Go.IntKind.wrap .i64 v4.1)))) then
       some (((0 : Int), (3 : Int)))
      else
       some (((Go.IntKind.wrap .i64 v4.1), (0 : Int)))
   else
    Option.bind (getI b0 (1 : Int)) fun (v6 : Int) =>
    bif (decide ((1 : Int) < v6)) then
     some (((0 : Int), (3 : Int)))
    else
     bif (@cond Bool @Bool.false @Bool.true (decide ((Go.IntKind.wrap .i64 v4.1) < (5 : Int)))) then
      some (((0 : Int), (3 : Int)))
     else
      bif (@cond Bool @Bool.false @Bool.true (decide ((4095 : Int) < (Go.IntKind.wrap .i64 v4.1)))) then
       some (((0 : Int), (3 : Int)))
      else
       some (((Go.IntKind.wrap .i64 v4.1), (0 : Int)))
theorem packet_Length_S (N : Nat) (b0 : List (Int)) : (runK Go.Proofs.Try.prog (Ev45 N) 400 23 [(.sl (.int .u8))] [(.int .i64), (.int .i64)] (b0, ())).run = packet_Length N b0 := by kernel_rfl
theorem packet_Length_C (N : Nat) (b0 : List (Int)) (y : (Int) × Int) (h : packet_Length N b0 = some y) : CallsK Go.Proofs.Try.prog 23 (valA [(.sl (.int .u8))] (b0, ())) (tupV (valR [(.int .i64), (.int .i64)] y)) := runK_ok hmx (Ev45_ok N _) (okFn_ok (by kernel_rfl)) (by rw [packet_Length_S]; exact h)
noncomputable def Ev46 (N : Nat) : (R : Type) → Env R := Env.addFn (Ev45 N) 23 (fun R => fnK [(.sl (.int .u8))] [(.int .i64), (.int .i64)] (fun c => packet_Length N c.1))
theorem Ev46_ok (N : Nat) (R : Type) : EnvOK Go.Proofs.Try.prog (Ev46 N R) := EnvOK.addFn hmx (Ev45_ok N R) (Ev45_ok N _) (by kernel_rfl) (fun c => packet_Length_S N c.1)
noncomputable def packet_OfData (N : Nat) (b0 : List (Int)) : Option ((Bool) × ((Int) × ((List ((Int) × (List (Int)))) × (List (Int))))) :=
 Option.bind (@slices_Clone_byte_byte N b0) fun (v2 : (List Int)) =>
 some ((@Bool.false, ((0 : Int), (([] : List ((Int × (List Int)))), v2))))
theorem packet_OfData_S (N : Nat) (b0 : List (Int)) : (runK Go.Proofs.Try.prog (Ev46 N) 400 28 [(.sl (.int .u8))] [(.pair .bool (.pair (.int .u16) (.pair (.sl (.pair (.int .u8) (.sl (.int .u8)))) (.sl (.int .u8)))))] (b0, ())).run = packet_OfData N b0 := by kernel_rfl
theorem packet_OfData_C (N : Nat) (b0 : List (Int)) (y : (Bool) × ((Int) × ((List ((Int) × (List (Int)))) × (List (Int))))) (h : packet_OfData N b0 = some y) : CallsK Go.Proofs.Try.prog 28 (valA [(.sl (.int .u8))] (b0, ())) (tupV (valR [(.pair .bool (.pair (.int .u16) (.pair (.sl (.pair (.int .u8) (.sl (.int .u8)))) (.sl (.int .u8)))))] y)) := runK_ok hmx (Ev46_ok N _) (okFn_ok (by kernel_rfl)) (by rw [packet_OfData_S]; exact h)
noncomputable def Ev47 (N : Nat) : (R : Type) → Env R := Env.addFn (Ev46 N) 28 (fun R => fnK [(.sl (.int .u8))] [(.pair .bool (.pair (.int .u16) (.pair (.sl (.pair (.int .u8) (.sl (.int .u8)))) (.sl (.int .u8)))))] (fun c => packet_OfData N c.1))
theorem Ev47_ok (N : Nat) (R : Type) : EnvOK Go.Proofs.Try.prog (Ev47 N R) := EnvOK.addFn hmx (Ev46_ok N R) (Ev46_ok N _) (by kernel_rfl) (fun c => packet_OfData_S N c.1)
noncomputable def Ev48 (N : Nat) : (R : Type) → Env R := Env.addMv (Ev47 N) [(79, 9)]
theorem Ev48_ok (N : Nat) (R : Type) : EnvOK Go.Proofs.Try.prog (Ev48 N R) := EnvOK.addMv (Ev47_ok N R) [(79, 9)]
noncomputable def packet_attrs_L5_I : LI := ⟨36, 0, [(6, 107)], ⟨[(0, .ty (.sl (.int .u8))), (6, .lit (.own 0)), (12, .ty (.int .i64)), (13, .ty (.int .i64))], [.own (.pair (.int .u8) (.sl (.int .u8))) 107]⟩, [(.ret, ⟨[(4, .ty (.sl (.pair (.int .u8) (.sl (.int .u8))))), (5, .ty (.int .i64))], []⟩), (.exit 0, ⟨[(0, .ty (.sl (.int .u8))), (6, .lit (.own 0))], [.own (.pair (.int .u8) (.sl (.int .u8))) 107]⟩)]⟩
noncomputable def packet_attrs_L5 (N : Nat) (X : (((List (Int)) × ((Int) × ((Int) × Unit))) × ((List ((Int) × (List (Int)))) × Unit)) → Option (((((List ((Int) × (List (Int)))) × ((Int) × Unit)) × Unit) ⊕ (((List (Int)) × Unit) × ((List ((Int) × (List (Int)))) × Unit))))) (b0 : List (Int)) (x12 : Int) (x13 : Int) (h0 : List ((Int) × (List (Int)))) : Option (((((List ((Int) × (List (Int)))) × ((Int) × Unit)) × Unit) ⊕ (((List (Int)) × Unit) × ((List ((Int) × (List (Int)))) × Unit)))) :=
 bif (decide (x13 < x12)) then
  Option.bind (@attr_Parse N b0) fun (v6 : ((Int × (List Int)) × (Int × Int))) =>
  bif (!(decide (v6.2.2 = (0 : Int)))) then
   some ((.inl ((([] : List ((Int × (List Int)))), (v6.2.2, @Unit.unit)), @Unit.unit)))
  else
   bif (roomB ((List.length h0) + (List.length ([(v6.1.1, v6.1.2)] : List ((Int × (List Int)))))) 32) then
    Option.bind (dropI b0 v6.2.1) fun (v7 : (List Int)) =>
    (X ((v7, (x12, ((Go.IntKind.wrap .i64 (x13 + (1 : Int))), @Unit.unit))), ((h0 ++ ([(v6.1.1, v6.1.2)] : List ((Int × (List Int))))), @Unit.unit)))
   else
    none
 else
  some ((.inr ((b0, @Unit.unit), (h0, @Unit.unit))))
noncomputable def packet_attrs_L5_R (N : Nat) (c : (((List (Int)) × ((Int) × ((Int) × Unit))) × ((List ((Int) × (List (Int)))) × Unit))) : Option (((((List ((Int) × (List (Int)))) × ((Int) × Unit)) × Unit) ⊕ (((List (Int)) × Unit) × ((List ((Int) × (List (Int)))) × Unit)))) := gl (fun X c => packet_attrs_L5 N X c.1.1 c.1.2.1 c.1.2.2.1 c.2.1) N c
theorem packet_attrs_L5_S (N : Nat) (X : (((List (Int)) × ((Int) × ((Int) × Unit))) × ((List ((Int) × (List (Int)))) × Unit)) → Option (((((List ((Int) × (List (Int)))) × ((Int) × Unit)) × Unit) ⊕ (((List (Int)) × Unit) × ((List ((Int) × (List (Int)))) × Unit))))) (b0 : List (Int)) (x12 : Int) (x13 : Int) (h0 : List ((Int) × (List (Int)))) : (roundK Go.Proofs.Try.prog (Ev48 N) 400 [79] packet_attrs_L5_I (loopAt Go.Proofs.Try.prog [79] 5) X ((b0, x12, x13, ()), (h0, ()))).run = packet_attrs_L5 N X b0 x12 x13 h0 := by kernel_rfl
noncomputable def Ev49 (N : Nat) : (R : Type) → Env R := Env.addLp (Ev48 N) [79] 0 5 (fun R => lpK Go.Proofs.Try.prog packet_attrs_L5_I (fun X c => packet_attrs_L5 N X c.1.1 c.1.2.1 c.1.2.2.1 c.2.1) N)
theorem Ev49_ok (N : Nat) (R : Type) : EnvOK Go.Proofs.Try.prog (Ev49 N R) := EnvOK.addLp (Ev48_ok N R) (by kernel_rfl) (lpK_ok (li := packet_attrs_L5_I) (G := fun X c => packet_attrs_L5 N X c.1.1 c.1.2.1 c.1.2.2.1 c.2.1) hmx (Ev48_ok N _) (by kernel_rfl) loopAt_sub (fun (X : CT packet_attrs_L5_I.sh → Option (OT packet_attrs_L5_I.outs)) (c : CT packet_attrs_L5_I.sh) => packet_attrs_L5_S N X c.1.1 c.1.2.1 c.1.2.2.1 c.2.1) N)
noncomputable def packet_attrs (N : Nat) (b0 : List (Int)) (many1 : Int) : Option ((List ((Int) × (List (Int)))) × Int) :=
 bif (decide ((8 : Int) < many1)) then
  some ((([] : List ((Int × (List Int)))), (5 : Int)))
 else
  Option.bind (packet_attrs_L5_R N ((b0, (many1, ((0 : Int), @Unit.unit))), (([] : List ((Int × (List Int)))), @Unit.unit))) fun (v3 : ((((List (Int × (List Int))) × (Int × Unit)) × Unit) ⊕ (((List Int) × Unit) × ((List (Int × (List Int))) × Unit)))) =>
  Sum.elim
   (fun (v4 : (((List (Int × (List Int))) × (Int × Unit)) × Unit)) =>
   some ((v4.1.1, v4.1.2.1)))
   (fun (v4 : (((List Int) × Unit) × ((List (Int × (List Int))) × Unit))) =>
   bif (decide ((0 : Int) < (((List.length v4.1.1) : Nat) : Int))) then
    some ((([] : List ((Int × (List Int)))), (3 : Int)))
   else
    some ((v4.2.1, (0 : Int)))) v3
theorem packet_attrs_S (N : Nat) (b0 : List (Int)) (many1 : Int) : (runK Go.Proofs.Try.prog (Ev49 N) 400 79 [(.sl (.int .u8)), (.int .i64)] [(.sl (.pair (.int .u8) (.sl (.int .u8)))), (.int .i64)] (b0, many1, ())).run = packet_attrs N b0 many1 := by kernel_rfl
noncomputable def Ev50 (N : Nat) : (R : Type) → Env R := Env.addFn (Ev49 N) 79 (fun R => fnK [(.sl (.int .u8)), (.int .i64)] [(.sl (.pair (.int .u8) (.sl (.int .u8)))), (.int .i64)] (fun c => packet_attrs N c.1 c.2.1))
theorem Ev50_ok (N : Nat) (R : Type) : EnvOK Go.Proofs.Try.prog (Ev50 N R) := EnvOK.addFn hmx (Ev49_ok N R) (Ev49_ok N _) (by kernel_rfl) (fun c => packet_attrs_S N c.1 c.2.1)
noncomputable def packet_Parse (N : Nat) (b0 : List (Int)) : Option (((Bool) × ((Int) × ((List ((Int) × (List (Int)))) × (List (Int))))) × Int) :=
 Option.bind (@packet_Length N b0) fun (v2 : (Int × Int)) =>
 bif (!(decide (v2.2 = (0 : Int)))) then
  some (((@Bool.false, ((0 : Int), (([] : List ((Int × (List Int)))), ([] : List (Int))))), v2.2))
 else
  bif (decide ((((List.length b0) : Nat) : Int) < v2.1)) then
   some (((@Bool.false, ((0 : Int), (([] : List ((Int × (List Int)))), ([] : List (Int))))), (4 : Int)))
  else
   bif (decide (v2.1 < (((List.length b0) : Nat) : Int))) then
    some (((@Bool.false, ((0 : Int), (([] : List ((Int × (List Int)))), ([] : List (Int))))), (3 : Int)))
   else
    Option.bind (getI b0 (1 : Int)) fun (v3 : Int) =>
    bif (decide (v3 = (0 : Int))) then
     Option.bind (dropI b0 (4 : Int)) fun (v4 : (List Int)) =>
     Option.bind (@packet_OfData N v4) fun (v5 : (Bool × (Int × ((List (Int × (List Int))) × (List Int))))) =>
     some (((v5.1, (v5.2.1, (v5.2.2.1, v5.2.2.2))), (0 : Int)))
    else
     Option.bind (subI b0 (4 : Int) (6 : Int)) fun (v4 : (List Int)) =>
     Option.bind (@octs_Get N v4 @Bool.false) fun (v5 : (Int × Int)) =>
     Option.bind (subI b0 (6 : Int) (8 : Int)) fun (v6 : (List Int)) =>
     Option.bind (@octs_Get N v6 @Bool.false) fun (v7 : (Int × Int)) =>
     Option.bind (dropI b0 (8 : Int)) fun (v8 : (List Int)) =>
     Option.bind (@packet_attrs N v8 (Go.IntKind.wrap .i64 v7.1)) fun (v9 : ((List (Int × (List Int))) × Int)) =>
     bif (!(decide (v9.2 = (0 : Int)))) then
      some (((@Bool.false, ((0 : Int), (([] : List ((Int × (List Int)))), ([] : List (Int))))), v9.2))
     else
      some (((@Bool.true, ((Go.IntKind.wrap .u16 v5.1), (v9.1, ([] : List (Int))))), (0 : Int)))
theorem packet_Parse_S (N : Nat) (b0 : List (Int)) : (runK Go.Proofs.Try.prog (Ev50 N) 400 21 [(.sl (.int .u8))] [(.pair .bool (.pair (.int .u16) (.pair (.sl (.pair (.int .u8) (.sl (.int .u8)))) (.sl (.int .u8))))), (.int .i64)] (b0, ())).run = packet_Parse N b0 := by kernel_rfl
theorem packet_Parse_C (N : Nat) (b0 : List (Int)) (y : ((Bool) × ((Int) × ((List ((Int) × (List (Int)))) × (List (Int))))) × Int) (h : packet_Parse N b0 = some y) : CallsK Go.Proofs.Try.prog 21 (valA [(.sl (.int .u8))] (b0, ())) (tupV (valR [(.pair .bool (.pair (.int .u16) (.pair (.sl (.pair (.int .u8) (.sl (.int .u8)))) (.sl (.int .u8))))), (.int .i64)] y)) := runK_ok hmx (Ev50_ok N _) (okFn_ok (by kernel_rfl)) (by rw [packet_Parse_S]; exact h)
noncomputable def Ev51 (N : Nat) : (R : Type) → Env R := Env.addFn (Ev50 N) 21 (fun R => fnK [(.sl (.int .u8))] [(.pair .bool (.pair (.int .u16) (.pair (.sl (.pair (.int .u8) (.sl (.int .u8)))) (.sl (.int .u8))))), (.int .i64)] (fun c => packet_Parse N c.1))
theorem Ev51_ok (N : Nat) (R : Type) : EnvOK Go.Proofs.Try.prog (Ev51 N R) := EnvOK.addFn hmx (Ev50_ok N R) (Ev50_ok N _) (by kernel_rfl) (fun c => packet_Parse_S N c.1)
noncomputable def Ev52 (N : Nat) : (R : Type) → Env R := Env.addBx (Ev51 N) [(19, 0)]
theorem Ev52_ok (N : Nat) (R : Type) : EnvOK Go.Proofs.Try.prog (Ev52 N R) := EnvOK.addBx (Ev51_ok N R) [(19, 0)]
noncomputable def packet_are_L2_I : LI := ⟨32, 0, [], ⟨[(0, .ty (.sl (.pair (.int .u8) (.sl (.int .u8))))), (1, .ty (.int .i64)), (2, .ty (.int .i64)), (3, .ty (.int .u8)), (11, .ty (.sl (.pair (.int .u8) (.sl (.int .u8))))), (12, .ty (.int .i64)), (13, .ty (.int .i64))], []⟩, [(.ret, ⟨[(8, .ty .bool)], []⟩), (.exit 0, ⟨[(0, .ty (.sl (.pair (.int .u8) (.sl (.int .u8))))), (1, .ty (.int .i64)), (2, .ty (.int .i64))], []⟩)]⟩
noncomputable def packet_are_L2 (N : Nat) (X : (((List ((Int) × (List (Int)))) × ((Int) × ((Int) × ((Int) × ((List ((Int) × (List (Int)))) × ((Int) × ((Int) × Unit))))))) × Unit) → Option (((((Bool) × Unit) × Unit) ⊕ (((List ((Int) × (List (Int)))) × ((Int) × ((Int) × Unit))) × Unit)))) (l0 : List ((Int) × (List (Int)))) (least1 : Int) (most2 : Int) (kind3 : Int) (x11 : List ((Int) × (List (Int)))) (x12 : Int) (x13 : Int) : Option (((((Bool) × Unit) × Unit) ⊕ (((List ((Int) × (List (Int)))) × ((Int) × ((Int) × Unit))) × Unit))) :=
 bif (decide (x13 < x12)) then
  Option.bind (getI x11 x13) fun (v9 : (Int × (List Int))) =>
  bif (!(decide (v9.1 = kind3))) then
   some ((.inl ((@Bool.false, @Unit.unit), @Unit.unit)))
  else
   (X ((l0, (least1, (most2, (kind3, (x11, (x12, ((Go.IntKind.wrap .i64 (x13 + (1 : Int))), @Unit.unit))))))), @Unit.unit))
 else
  some ((.inr ((l0, (least1, (most2, @Unit.unit))), @Unit.unit)))
noncomputable def packet_are_L2_R (N : Nat) (c : (((List ((Int) × (List (Int)))) × ((Int) × ((Int) × ((Int) × ((List ((Int) × (List (Int)))) × ((Int) × ((Int) × Unit))))))) × Unit)) : Option (((((Bool) × Unit) × Unit) ⊕ (((List ((Int) × (List (Int)))) × ((Int) × ((Int) × Unit))) × Unit))) := gl (fun X c => packet_are_L2 N X c.1.1 c.1.2.1 c.1.2.2.1 c.1.2.2.2.1 c.1.2.2.2.2.1 c.1.2.2.2.2.2.1 c.1.2.2.2.2.2.2.1) N c
theorem packet_are_L2_S (N : Nat) (X : (((List ((Int) × (List (Int)))) × ((Int) × ((Int) × ((Int) × ((List ((Int) × (List (Int)))) × ((Int) × ((Int) × Unit))))))) × Unit) → Option (((((Bool) × Unit) × Unit) ⊕ (((List ((Int) × (List (Int)))) × ((Int) × ((Int) × Unit))) × Unit)))) (l0 : List ((Int) × (List (Int)))) (least1 : Int) (most2 : Int) (kind3 : Int) (x11 : List ((Int) × (List (Int)))) (x12 : Int) (x13 : Int) : (roundK Go.Proofs.Try.prog (Ev52 N) 400 [110] packet_are_L2_I (loopAt Go.Proofs.Try.prog [110] 2) X ((l0, least1, most2, kind3, x11, x12, x13, ()), ())).run = packet_are_L2 N X l0 least1 most2 kind3 x11 x12 x13 := by kernel_rfl
noncomputable def Ev53 (N : Nat) : (R : Type) → Env R := Env.addLp (Ev52 N) [110] 0 2 (fun R => lpK Go.Proofs.Try.prog packet_are_L2_I (fun X c => packet_are_L2 N X c.1.1 c.1.2.1 c.1.2.2.1 c.1.2.2.2.1 c.1.2.2.2.2.1 c.1.2.2.2.2.2.1 c.1.2.2.2.2.2.2.1) N)
theorem Ev53_ok (N : Nat) (R : Type) : EnvOK Go.Proofs.Try.prog (Ev53 N R) := EnvOK.addLp (Ev52_ok N R) (by kernel_rfl) (lpK_ok (li := packet_are_L2_I) (G := fun X c => packet_are_L2 N X c.1.1 c.1.2.1 c.1.2.2.1 c.1.2.2.2.1 c.1.2.2.2.2.1 c.1.2.2.2.2.2.1 c.1.2.2.2.2.2.2.1) hmx (Ev52_ok N _) (by kernel_rfl) loopAt_sub (fun (X : CT packet_are_L2_I.sh → Option (OT packet_are_L2_I.outs)) (c : CT packet_are_L2_I.sh) => packet_are_L2_S N X c.1.1 c.1.2.1 c.1.2.2.1 c.1.2.2.2.1 c.1.2.2.2.2.1 c.1.2.2.2.2.2.1 c.1.2.2.2.2.2.2.1) N)
noncomputable def packet_are (N : Nat) (l0 : List ((Int) × (List (Int)))) (least1 : Int) (most2 : Int) (kind3 : Int) : Option (Bool) :=
 Option.bind (packet_are_L2_R N ((l0, (least1, (most2, (kind3, (l0, ((((List.length l0) : Nat) : Int), ((0 : Int), @Unit.unit))))))), @Unit.unit)) fun (v5 : (((Bool × Unit) × Unit) ⊕ (((List (Int × (List Int))) × (Int × (Int × Unit))) × Unit))) =>
 Sum.elim
  (fun (v6 : ((Bool × Unit) × Unit)) =>
  some (v6.1.1))
  (fun (v6 : (((List (Int × (List Int))) × (Int × (Int × Unit))) × Unit)) =>
  bif (decide (v6.1.2.1 ≤ (((List.length v6.1.1) : Nat) : Int))) then
   some ((@cond Bool @Bool.true (decide ((((List.length v6.1.1) : Nat) : Int) ≤ v6.1.2.2.1)) @Bool.false))
  else
   some (@Bool.false)) v5
theorem packet_are_S (N : Nat) (l0 : List ((Int) × (List (Int)))) (least1 : Int) (most2 : Int) (kind3 : Int) : (runK Go.Proofs.Try.prog (Ev53 N) 400 110 [(.sl (.pair (.int .u8) (.sl (.int .u8)))), (.int .i64), (.int .i64), (.int .u8)] [.bool] (l0, least1, most2, kind3, ())).run = packet_are N l0 least1 most2 kind3 := by kernel_rfl
noncomputable def Ev54 (N : Nat) : (R : Type) → Env R := Env.addFn (Ev53 N) 110 (fun R => fnK [(.sl (.pair (.int .u8) (.sl (.int .u8)))), (.int .i64), (.int .i64), (.int .u8)] [.bool] (fun c => packet_are N c.1 c.2.1 c.2.2.1 c.2.2.2.1))
theorem Ev54_ok (N : Nat) (R : Type) : EnvOK Go.Proofs.Try.prog (Ev54 N R) := EnvOK.addFn hmx (Ev53_ok N R) (Ev53_ok N _) (by kernel_rfl) (fun c => packet_are_S N c.1 c.2.1 c.2.2.1 c.2.2.2.1)
noncomputable def packet_fits (N : Nat) (kind0 : Int) (l1 : List ((Int) × (List (Int)))) : Option (Bool) :=
 bif (decide (kind0 = (1 : Int))) then
  Option.bind (@packet_are N l1 (1 : Int) (1 : Int) (1 : Int)) fun (v3 : Bool) =>
  some (v3)
 else
  bif (decide (kind0 = (2 : Int))) then
   Option.bind (@packet_are N l1 (1 : Int) (1 : Int) (4 : Int)) fun (v3 : Bool) =>
   some (v3)
  else
   bif (decide (kind0 = (3 : Int))) then
    Option.bind (@packet_are N l1 (1 : Int) (3 : Int) (2 : Int)) fun (v3 : Bool) =>
    some (v3)
   else
    bif (decide (kind0 = (4 : Int))) then
     Option.bind (@packet_are N l1 (1 : Int) (1 : Int) (3 : Int)) fun (v3 : Bool) =>
     some (v3)
    else
     bif (decide (kind0 = (5 : Int))) then
      bif (decide (kind0 = (5 : Int))) then
       Option.bind (@packet_are N l1 (0 : Int) (1 : Int) (2 : Int)) fun (v3 : Bool) =>
       some (v3)
      else
       some ((decide ((((List.length l1) : Nat) : Int) = (0 : Int))))
     else
      bif (decide (kind0 = (6 : Int))) then
       Option.bind (@packet_are N l1 (0 : Int) (1 : Int) (2 : Int)) fun (v3 : Bool) =>
       some (v3)
      else
       some ((decide ((((List.length l1) : Nat) : Int) = (0 : Int))))
theorem packet_fits_S (N : Nat) (kind0 : Int) (l1 : List ((Int) × (List (Int)))) : (runK Go.Proofs.Try.prog (Ev54 N) 400 74 [(.int .u16), (.sl (.pair (.int .u8) (.sl (.int .u8))))] [.bool] (kind0, l1, ())).run = packet_fits N kind0 l1 := by kernel_rfl
noncomputable def Ev55 (N : Nat) : (R : Type) → Env R := Env.addFn (Ev54 N) 74 (fun R => fnK [(.int .u16), (.sl (.pair (.int .u8) (.sl (.int .u8))))] [.bool] (fun c => packet_fits N c.1 c.2.1))
theorem Ev55_ok (N : Nat) (R : Type) : EnvOK Go.Proofs.Try.prog (Ev55 N R) := EnvOK.addFn hmx (Ev54_ok N R) (Ev54_ok N _) (by kernel_rfl) (fun c => packet_fits_S N c.1 c.2.1)
noncomputable def packet_Check_L8_I : LI := ⟨39, 0, [], ⟨[(27, .ty (.sl (.pair (.int .u8) (.sl (.int .u8))))), (28, .ty (.int .i64)), (29, .ty (.int .i64))], []⟩, [(.ret, ⟨[(2, .ty (.int .i64))], []⟩), (.exit 1, ⟨[], []⟩)]⟩
noncomputable def packet_Check_L8 (N : Nat) (X : (((List ((Int) × (List (Int)))) × ((Int) × ((Int) × Unit))) × Unit) → Option (((((Int) × Unit) × Unit) ⊕ (Unit × Unit)))) (x27 : List ((Int) × (List (Int)))) (x28 : Int) (x29 : Int) : Option (((((Int) × Unit) × Unit) ⊕ (Unit × Unit))) :=
 bif (decide (x29 < x28)) then
  Option.bind (getI x27 x29) fun (v5 : (Int × (List Int))) =>
  Option.bind (@attr_Check N (v5.1, v5.2)) fun (v6 : Int) =>
  bif (!(decide (v6 = (0 : Int)))) then
   some ((.inl ((v6, @Unit.unit), @Unit.unit)))
  else
   (X ((x27, (x28, ((Go.IntKind.wrap .i64 (x29 + (1 : Int))), @Unit.unit))), @Unit.unit))
 else
  some ((.inr (@Unit.unit, @Unit.unit)))
noncomputable def packet_Check_L8_R (N : Nat) (c : (((List ((Int) × (List (Int)))) × ((Int) × ((Int) × Unit))) × Unit)) : Option (((((Int) × Unit) × Unit) ⊕ (Unit × Unit))) := gl (fun X c => packet_Check_L8 N X c.1.1 c.1.2.1 c.1.2.2.1) N c
theorem packet_Check_L8_S (N : Nat) (X : (((List ((Int) × (List (Int)))) × ((Int) × ((Int) × Unit))) × Unit) → Option (((((Int) × Unit) × Unit) ⊕ (Unit × Unit)))) (x27 : List ((Int) × (List (Int)))) (x28 : Int) (x29 : Int) : (roundK Go.Proofs.Try.prog (Ev55 N) 400 [19] packet_Check_L8_I (loopAt Go.Proofs.Try.prog [19] 8) X ((x27, x28, x29, ()), ())).run = packet_Check_L8 N X x27 x28 x29 := by kernel_rfl
noncomputable def Ev56 (N : Nat) : (R : Type) → Env R := Env.addLp (Ev55 N) [19] 0 8 (fun R => lpK Go.Proofs.Try.prog packet_Check_L8_I (fun X c => packet_Check_L8 N X c.1.1 c.1.2.1 c.1.2.2.1) N)
theorem Ev56_ok (N : Nat) (R : Type) : EnvOK Go.Proofs.Try.prog (Ev56 N R) := EnvOK.addLp (Ev55_ok N R) (by kernel_rfl) (lpK_ok (li := packet_Check_L8_I) (G := fun X c => packet_Check_L8 N X c.1.1 c.1.2.1 c.1.2.2.1) hmx (Ev55_ok N _) (by kernel_rfl) loopAt_sub (fun (X : CT packet_Check_L8_I.sh → Option (OT packet_Check_L8_I.outs)) (c : CT packet_Check_L8_I.sh) => packet_Check_L8_S N X c.1.1 c.1.2.1 c.1.2.2.1) N)
noncomputable def packet_Check (N : Nat) (p0 : (Bool) × ((Int) × ((List ((Int) × (List (Int)))) × (List (Int))))) : Option (Int) :=
 bif (!p0.1) then
  some ((0 : Int))
 else
  bif (decide (p0.2.1 < (1 : Int))) then
   some ((9 : Int))
  else
   bif (@cond Bool @Bool.false @Bool.true (decide ((9 : Int) < p0.2.1))) then
    some ((9 : Int))
   else
    Option.bind (@packet_fits N p0.2.1 p0.2.2.1) fun (v2 : Bool) =>
    bif (!v2) then
     some ((1 : Int))
    else
     Option.bind (packet_Check_L8_R N ((p0.2.2.1, ((((List.length p0.2.2.1) : Nat) : Int), ((0 : Int), @Unit.unit))), @Unit.unit)) fun (v3 : (((Int × Unit) × Unit) ⊕ (Unit × Unit))) =>
     Sum.elim
      (fun (v4 : ((Int × Unit) × Unit)) =>
      some (v4.1.1))
      (fun (v4 : (Unit × Unit)) =>
      some ((0 : Int))) v3
theorem packet_Check_S (N : Nat) (p0 : (Bool) × ((Int) × ((List ((Int) × (List (Int)))) × (List (Int))))) : (runK Go.Proofs.Try.prog (Ev56 N) 400 19 [(.pair .bool (.pair (.int .u16) (.pair (.sl (.pair (.int .u8) (.sl (.int .u8)))) (.sl (.int .u8)))))] [(.int .i64)] (p0, ())).run = packet_Check N p0 := by kernel_rfl
theorem packet_Check_C (N : Nat) (p0 : (Bool) × ((Int) × ((List ((Int) × (List (Int)))) × (List (Int))))) (y : Int) (h : packet_Check N p0 = some y) : CallsK Go.Proofs.Try.prog 19 (valA [(.pair .bool (.pair (.int .u16) (.pair (.sl (.pair (.int .u8) (.sl (.int .u8)))) (.sl (.int .u8)))))] (p0, ())) (tupV (valR [(.int .i64)] y)) := runK_ok hmx (Ev56_ok N _) (okFn_ok (by kernel_rfl)) (by rw [packet_Check_S]; exact h)
noncomputable def Ev57 (N : Nat) : (R : Type) → Env R := Env.addFn (Ev56 N) 19 (fun R => fnK [(.pair .bool (.pair (.int .u16) (.pair (.sl (.pair (.int .u8) (.sl (.int .u8)))) (.sl (.int .u8)))))] [(.int .i64)] (fun c => packet_Check N c.1))
theorem Ev57_ok (N : Nat) (R : Type) : EnvOK Go.Proofs.Try.prog (Ev57 N R) := EnvOK.addFn hmx (Ev56_ok N R) (Ev56_ok N _) (by kernel_rfl) (fun c => packet_Check_S N c.1)
noncomputable def Ev58 (N : Nat) : (R : Type) → Env R := Env.addBx (Ev57 N) [(25, 0)]
theorem Ev58_ok (N : Nat) (R : Type) : EnvOK Go.Proofs.Try.prog (Ev58 N R) := EnvOK.addBx (Ev57_ok N R) [(25, 0)]
noncomputable def packet_Same_1_slices_EqualFunc_api_Attr_api_Attr_api_Attr_api_Attr_L4_I : LI := ⟨32, 0, [], ⟨[(1, .ty (.sl (.pair (.int .u8) (.sl (.int .u8))))), (2, .lit (.clo 55 [])), (15, .ty (.sl (.pair (.int .u8) (.sl (.int .u8))))), (16, .ty (.int .i64)), (17, .ty (.int .i64))], []⟩, [(.ret, ⟨[(6, .ty .bool)], []⟩), (.exit 0, ⟨[], []⟩)]⟩
noncomputable def packet_Same_1_slices_EqualFunc_api_Attr_api_Attr_api_Attr_api_Attr_L4 (N : Nat) (X : (((List ((Int) × (List (Int)))) × ((List ((Int) × (List (Int)))) × ((Int) × ((Int) × Unit)))) × Unit) → Option (((((Bool) × Unit) × Unit) ⊕ (Unit × Unit)))) (s21 : List ((Int) × (List (Int)))) (x15 : List ((Int) × (List (Int)))) (x16 : Int) (x17 : Int) : Option (((((Bool) × Unit) × Unit) ⊕ (Unit × Unit))) :=
 bif (decide (x17 < x16)) then
  Option.bind (getI x15 x17) fun (v6 : (Int × (List Int))) =>
  Option.bind (getI s21 x17) fun (v7 : (Int × (List Int))) =>
  Option.bind (@attr_Same N (v6.1, v6.2) (v7.1, v7.2)) fun (v8 : Bool) =>
  bif (!v8) then
   some ((.inl ((@Bool.false, @Unit.unit), @Unit.unit)))
  else
   (X ((s21, (x15, (x16, ((Go.IntKind.wrap .i64 (x17 + (1 : Int))), @Unit.unit)))), @Unit.unit))
 else
  some ((.inr (@Unit.unit, @Unit.unit)))
noncomputable def packet_Same_1_slices_EqualFunc_api_Attr_api_Attr_api_Attr_api_Attr_L4_R (N : Nat) (c : (((List ((Int) × (List (Int)))) × ((List ((Int) × (List (Int)))) × ((Int) × ((Int) × Unit)))) × Unit)) : Option (((((Bool) × Unit) × Unit) ⊕ (Unit × Unit))) := gl (fun X c => packet_Same_1_slices_EqualFunc_api_Attr_api_Attr_api_Attr_api_Attr_L4 N X c.1.1 c.1.2.1 c.1.2.2.1 c.1.2.2.2.1) N c
theorem packet_Same_1_slices_EqualFunc_api_Attr_api_Attr_api_Attr_api_Attr_L4_S (N : Nat) (X : (((List ((Int) × (List (Int)))) × ((List ((Int) × (List (Int)))) × ((Int) × ((Int) × Unit)))) × Unit) → Option (((((Bool) × Unit) × Unit) ⊕ (Unit × Unit)))) (s21 : List ((Int) × (List (Int)))) (x15 : List ((Int) × (List (Int)))) (x16 : Int) (x17 : Int) : (roundK Go.Proofs.Try.prog (Ev58 N) 400 [82, 1, 25] packet_Same_1_slices_EqualFunc_api_Attr_api_Attr_api_Attr_api_Attr_L4_I (loopAt Go.Proofs.Try.prog [82, 1, 25] 4) X ((s21, x15, x16, x17, ()), ())).run = packet_Same_1_slices_EqualFunc_api_Attr_api_Attr_api_Attr_api_Attr_L4 N X s21 x15 x16 x17 := by kernel_rfl
noncomputable def Ev59 (N : Nat) : (R : Type) → Env R := Env.addLp (Ev58 N) [82, 1, 25] 0 4 (fun R => lpK Go.Proofs.Try.prog packet_Same_1_slices_EqualFunc_api_Attr_api_Attr_api_Attr_api_Attr_L4_I (fun X c => packet_Same_1_slices_EqualFunc_api_Attr_api_Attr_api_Attr_api_Attr_L4 N X c.1.1 c.1.2.1 c.1.2.2.1 c.1.2.2.2.1) N)
theorem Ev59_ok (N : Nat) (R : Type) : EnvOK Go.Proofs.Try.prog (Ev59 N R) := EnvOK.addLp (Ev58_ok N R) (by kernel_rfl) (lpK_ok (li := packet_Same_1_slices_EqualFunc_api_Attr_api_Attr_api_Attr_api_Attr_L4_I) (G := fun X c => packet_Same_1_slices_EqualFunc_api_Attr_api_Attr_api_Attr_api_Attr_L4 N X c.1.1 c.1.2.1 c.1.2.2.1 c.1.2.2.2.1) hmx (Ev58_ok N _) (by kernel_rfl) loopAt_sub (fun (X : CT packet_Same_1_slices_EqualFunc_api_Attr_api_Attr_api_Attr_api_Attr_L4_I.sh → Option (OT packet_Same_1_slices_EqualFunc_api_Attr_api_Attr_api_Attr_api_Attr_L4_I.outs)) (c : CT packet_Same_1_slices_EqualFunc_api_Attr_api_Attr_api_Attr_api_Attr_L4_I.sh) => packet_Same_1_slices_EqualFunc_api_Attr_api_Attr_api_Attr_api_Attr_L4_S N X c.1.1 c.1.2.1 c.1.2.2.1 c.1.2.2.2.1) N)
noncomputable def slices_Equal_byte_byte_L4_I : LI := ⟨26, 0, [], ⟨[(0, .ty (.sl (.int .u8))), (1, .ty (.sl (.int .u8))), (12, .ty (.int .i64)), (13, .ty (.int .i64))], []⟩, [(.ret, ⟨[(4, .ty .bool)], []⟩), (.exit 0, ⟨[], []⟩)]⟩
noncomputable def slices_Equal_byte_byte_L4 (N : Nat) (X : (((List (Int)) × ((List (Int)) × ((Int) × ((Int) × Unit)))) × Unit) → Option (((((Bool) × Unit) × Unit) ⊕ (Unit × Unit)))) (s10 : List (Int)) (s21 : List (Int)) (x12 : Int) (x13 : Int) : Option (((((Bool) × Unit) × Unit) ⊕ (Unit × Unit))) :=
 bif (decide (x13 < x12)) then
  Option.bind (getI s10 x13) fun (v6 : Int) =>
  Option.bind (getI s21 x13) fun (v7 : Int) =>
  bif (!(decide (v6 = v7))) then
   some ((.inl ((@Bool.false, @Unit.unit), @Unit.unit)))
  else
   (X ((s10, (s21, (x12, ((Go.IntKind.wrap .i64 (x13 + (1 : Int))), @Unit.unit)))), @Unit.unit))
 else
  some ((.inr (@Unit.unit, @Unit.unit)))
noncomputable def slices_Equal_byte_byte_L4_R (N : Nat) (c : (((List (Int)) × ((List (Int)) × ((Int) × ((Int) × Unit)))) × Unit)) : Option (((((Bool) × Unit) × Unit) ⊕ (Unit × Unit))) := gl (fun X c => slices_Equal_byte_byte_L4 N X c.1.1 c.1.2.1 c.1.2.2.1 c.1.2.2.2.1) N c
theorem slices_Equal_byte_byte_L4_S (N : Nat) (X : (((List (Int)) × ((List (Int)) × ((Int) × ((Int) × Unit)))) × Unit) → Option (((((Bool) × Unit) × Unit) ⊕ (Unit × Unit)))) (s10 : List (Int)) (s21 : List (Int)) (x12 : Int) (x13 : Int) : (roundK Go.Proofs.Try.prog (Ev59 N) 400 [83] slices_Equal_byte_byte_L4_I (loopAt Go.Proofs.Try.prog [83] 4) X ((s10, s21, x12, x13, ()), ())).run = slices_Equal_byte_byte_L4 N X s10 s21 x12 x13 := by kernel_rfl
noncomputable def Ev60 (N : Nat) : (R : Type) → Env R := Env.addLp (Ev59 N) [83] 0 4 (fun R => lpK Go.Proofs.Try.prog slices_Equal_byte_byte_L4_I (fun X c => slices_Equal_byte_byte_L4 N X c.1.1 c.1.2.1 c.1.2.2.1 c.1.2.2.2.1) N)
theorem Ev60_ok (N : Nat) (R : Type) : EnvOK Go.Proofs.Try.prog (Ev60 N R) := EnvOK.addLp (Ev59_ok N R) (by kernel_rfl) (lpK_ok (li := slices_Equal_byte_byte_L4_I) (G := fun X c => slices_Equal_byte_byte_L4 N X c.1.1 c.1.2.1 c.1.2.2.1 c.1.2.2.2.1) hmx (Ev59_ok N _) (by kernel_rfl) loopAt_sub (fun (X : CT slices_Equal_byte_byte_L4_I.sh → Option (OT slices_Equal_byte_byte_L4_I.outs)) (c : CT slices_Equal_byte_byte_L4_I.sh) => slices_Equal_byte_byte_L4_S N X c.1.1 c.1.2.1 c.1.2.2.1 c.1.2.2.2.1) N)
noncomputable def slices_Equal_byte_byte (N : Nat) (s10 : List (Int)) (s21 : List (Int)) : Option (Bool) :=
 bif (!(decide ((((List.length s10) : Nat) : Int) = (((List.length s21) : Nat) : Int)))) then
  some (@Bool.false)
 else
  Option.bind (slices_Equal_byte_byte_L4_R N ((s10, (s21, ((((List.length s10) : Nat) : Int), ((0 : Int), @Unit.unit)))), @Unit.unit)) fun (v3 : (((Bool × Unit) × Unit) ⊕ (Unit × Unit))) =>
  Sum.elim
   (fun (v4 : ((Bool × Unit) × Unit)) =>
   some (v4.1.1))
   (fun (v4 : (Unit × Unit)) =>
   some (@Bool.true)) v3
theorem slices_Equal_byte_byte_S (N : Nat) (s10 : List (Int)) (s21 : List (Int)) : (runK Go.Proofs.Try.prog (Ev60 N) 400 83 [(.sl (.int .u8)), (.sl (.int .u8))] [.bool] (s10, s21, ())).run = slices_Equal_byte_byte N s10 s21 := by kernel_rfl
noncomputable def Ev61 (N : Nat) : (R : Type) → Env R := Env.addFn (Ev60 N) 83 (fun R => fnK [(.sl (.int .u8)), (.sl (.int .u8))] [.bool] (fun c => slices_Equal_byte_byte N c.1 c.2.1))
theorem Ev61_ok (N : Nat) (R : Type) : EnvOK Go.Proofs.Try.prog (Ev61 N R) := EnvOK.addFn hmx (Ev60_ok N R) (Ev60_ok N _) (by kernel_rfl) (fun c => slices_Equal_byte_byte_S N c.1 c.2.1)
noncomputable def packet_Same (N : Nat) (a0 : (Bool) × ((Int) × ((List ((Int) × (List (Int)))) × (List (Int))))) (b1 : (Bool) × ((Int) × ((List ((Int) × (List (Int)))) × (List (Int))))) : Option (Bool) :=
 bif (@BEq.beq Bool (@instBEqOfDecidableEq Bool @instDecidableEqBool) a0.1 b1.1) then
  bif (@cond Bool @Bool.true (decide (a0.2.1 = b1.2.1)) @Bool.false) then
   bif (!(decide ((((List.length a0.2.2.1) : Nat) : Int) = (((List.length b1.2.2.1) : Nat) : Int)))) then
    some (@Bool.false)
   else
    Option.bind (packet_Same_1_slices_EqualFunc_api_Attr_api_Attr_api_Attr_api_Attr_L4_R N ((b1.2.2.1, (a0.2.2.1, ((((List.length a0.2.2.1) : Nat) : Int), ((0 : Int), @Unit.unit)))), @Unit.unit)) fun (v3 : (((Bool × Unit) × Unit) ⊕ (Unit × Unit))) =>
    Sum.elim
     (fun (v4 : ((Bool × Unit) × Unit)) =>
     bif (@cond Bool @Bool.true v4.1.1 @Bool.false) then
      Option.bind (@slices_Equal_byte_byte N a0.2.2.2 b1.2.2.2) fun (v5 : Bool) =>
      some ((@cond Bool @Bool.true v5 @Bool.false))
     else
      some (@Bool.false))
     (fun (v4 : (Unit × Unit)) =>
     Option.bind (@slices_Equal_byte_byte N a0.2.2.2 b1.2.2.2) fun (v5 : Bool) =>
     some ((@cond Bool @Bool.true v5 @Bool.false))) v3
  else
   some (@Bool.false)
 else
  some (@Bool.false)
theorem packet_Same_S (N : Nat) (a0 : (Bool) × ((Int) × ((List ((Int) × (List (Int)))) × (List (Int))))) (b1 : (Bool) × ((Int) × ((List ((Int) × (List (Int)))) × (List (Int))))) : (runK Go.Proofs.Try.prog (Ev61 N) 400 25 [(.pair .bool (.pair (.int .u16) (.pair (.sl (.pair (.int .u8) (.sl (.int .u8)))) (.sl (.int .u8))))), (.pair .bool (.pair (.int .u16) (.pair (.sl (.pair (.int .u8) (.sl (.int .u8)))) (.sl (.int .u8)))))] [.bool] (a0, b1, ())).run = packet_Same N a0 b1 := by kernel_rfl
theorem packet_Same_C (N : Nat) (a0 : (Bool) × ((Int) × ((List ((Int) × (List (Int)))) × (List (Int))))) (b1 : (Bool) × ((Int) × ((List ((Int) × (List (Int)))) × (List (Int))))) (y : Bool) (h : packet_Same N a0 b1 = some y) : CallsK Go.Proofs.Try.prog 25 (valA [(.pair .bool (.pair (.int .u16) (.pair (.sl (.pair (.int .u8) (.sl (.int .u8)))) (.sl (.int .u8))))), (.pair .bool (.pair (.int .u16) (.pair (.sl (.pair (.int .u8) (.sl (.int .u8)))) (.sl (.int .u8)))))] (a0, b1, ())) (tupV (valR [.bool] y)) := runK_ok hmx (Ev61_ok N _) (okFn_ok (by kernel_rfl)) (by rw [packet_Same_S]; exact h)
noncomputable def Ev62 (N : Nat) : (R : Type) → Env R := Env.addFn (Ev61 N) 25 (fun R => fnK [(.pair .bool (.pair (.int .u16) (.pair (.sl (.pair (.int .u8) (.sl (.int .u8)))) (.sl (.int .u8))))), (.pair .bool (.pair (.int .u16) (.pair (.sl (.pair (.int .u8) (.sl (.int .u8)))) (.sl (.int .u8)))))] [.bool] (fun c => packet_Same N c.1 c.2.1))
theorem Ev62_ok (N : Nat) (R : Type) : EnvOK Go.Proofs.Try.prog (Ev62 N R) := EnvOK.addFn hmx (Ev61_ok N R) (Ev61_ok N _) (by kernel_rfl) (fun c => packet_Same_S N c.1 c.2.1)
noncomputable def Ev63 (N : Nat) : (R : Type) → Env R := Env.addMv (Ev62 N) [(27, 5)]
theorem Ev63_ok (N : Nat) (R : Type) : EnvOK Go.Proofs.Try.prog (Ev63 N R) := EnvOK.addMv (Ev62_ok N R) [(27, 5)]
noncomputable def packet_Of_L3_I : LI := ⟨29, 0, [], ⟨[(4, .lit (.box 0 0)), (5, .lit (.box 1 0)), (10, .ty (.sl (.pair (.int .u8) (.sl (.int .u8))))), (11, .ty (.int .i64)), (12, .ty (.int .i64))], [.boxp 34 [.ty .bool, .ty (.int .u16), .own 2, .ty (.sl (.int .u8))], .boxp 34 [.ty .bool, .ty (.int .u16), .own 3, .ty (.sl (.int .u8))], .own (.pair (.int .u8) (.sl (.int .u8))) 107, .own (.pair (.int .u8) (.sl (.int .u8))) 107]⟩, [(.exit 0, ⟨[(4, .lit (.box 0 0)), (5, .lit (.box 1 0))], [.boxp 34 [.ty .bool, .ty (.int .u16), .own 2, .ty (.sl (.int .u8))], .boxp 34 [.ty .bool, .ty (.int .u16), .own 3, .ty (.sl (.int .u8))], .own (.pair (.int .u8) (.sl (.int .u8))) 107, .own (.pair (.int .u8) (.sl (.int .u8))) 107]⟩)]⟩
noncomputable def packet_Of_L3 (N : Nat) (X : (((List ((Int) × (List (Int)))) × ((Int) × ((Int) × Unit))) × ((Bool) × ((Int) × ((List (Int)) × ((Bool) × ((Int) × ((List (Int)) × ((List ((Int) × (List (Int)))) × ((List ((Int) × (List (Int)))) × Unit))))))))) → Option ((Unit × ((Bool) × ((Int) × ((List (Int)) × ((Bool) × ((Int) × ((List (Int)) × ((List ((Int) × (List (Int)))) × ((List ((Int) × (List (Int)))) × Unit))))))))))) (x10 : List ((Int) × (List (Int)))) (x11 : Int) (x12 : Int) (h0 : Bool) (h1 : Int) (h2 : List (Int)) (h3 : Bool) (h4 : Int) (h5 : List (Int)) (h6 : List ((Int) × (List (Int)))) (h7 : List ((Int) × (List (Int)))) : Option ((Unit × ((Bool) × ((Int) × ((List (Int)) × ((Bool) × ((Int) × ((List (Int)) × ((List ((Int) × (List (Int)))) × ((List ((Int) × (List (Int)))) × Unit)))))))))) :=
 bif (decide (x12 < x11)) then
  Option.bind (getI x10 x12) fun (v13 : (Int × (List Int))) =>
  Option.bind (@slices_Clone_byte_byte N v13.2) fun (v14 : (List Int)) =>
  bif (roomB ((List.length h7) + (List.length ([(v13.1, v14)] : List ((Int × (List Int)))))) 32) then
   (X ((x10, (x11, ((Go.IntKind.wrap .i64 (x12 + (1 : Int))), @Unit.unit))), (h0, (h1, (h2, (h3, (h4, (h5, (h6, ((h7 ++ ([(v13.1, v14)] : List ((Int × (List Int))))), @Unit.unit))))))))))
  else
   none
 else
  some ((@Unit.unit, (h0, (h1, (h2, (h3, (h4, (h5, (h6, (h7, @Unit.unit))))))))))
noncomputable def packet_Of_L3_R (N : Nat) (c : (((List ((Int) × (List (Int)))) × ((Int) × ((Int) × Unit))) × ((Bool) × ((Int) × ((List (Int)) × ((Bool) × ((Int) × ((List (Int)) × ((List ((Int) × (List (Int)))) × ((List ((Int) × (List (Int)))) × Unit)))))))))) : Option ((Unit × ((Bool) × ((Int) × ((List (Int)) × ((Bool) × ((Int) × ((List (Int)) × ((List ((Int) × (List (Int)))) × ((List ((Int) × (List (Int)))) × Unit)))))))))) := gl (fun X c => packet_Of_L3 N X c.1.1 c.1.2.1 c.1.2.2.1 c.2.1 c.2.2.1 c.2.2.2.1 c.2.2.2.2.1 c.2.2.2.2.2.1 c.2.2.2.2.2.2.1 c.2.2.2.2.2.2.2.1 c.2.2.2.2.2.2.2.2.1) N c
theorem packet_Of_L3_S (N : Nat) (X : (((List ((Int) × (List (Int)))) × ((Int) × ((Int) × Unit))) × ((Bool) × ((Int) × ((List (Int)) × ((Bool) × ((Int) × ((List (Int)) × ((List ((Int) × (List (Int)))) × ((List ((Int) × (List (Int)))) × Unit))))))))) → Option ((Unit × ((Bool) × ((Int) × ((List (Int)) × ((Bool) × ((Int) × ((List (Int)) × ((List ((Int) × (List (Int)))) × ((List ((Int) × (List (Int)))) × Unit))))))))))) (x10 : List ((Int) × (List (Int)))) (x11 : Int) (x12 : Int) (h0 : Bool) (h1 : Int) (h2 : List (Int)) (h3 : Bool) (h4 : Int) (h5 : List (Int)) (h6 : List ((Int) × (List (Int)))) (h7 : List ((Int) × (List (Int)))) : (roundK Go.Proofs.Try.prog (Ev63 N) 400 [27] packet_Of_L3_I (loopAt Go.Proofs.Try.prog [27] 3) X ((x10, x11, x12, ()), (h0, h1, h2, h3, h4, h5, h6, h7, ()))).run = packet_Of_L3 N X x10 x11 x12 h0 h1 h2 h3 h4 h5 h6 h7 := by kernel_rfl
noncomputable def Ev64 (N : Nat) : (R : Type) → Env R := Env.addLp (Ev63 N) [27] 0 3 (fun R => lpK Go.Proofs.Try.prog packet_Of_L3_I (fun X c => packet_Of_L3 N X c.1.1 c.1.2.1 c.1.2.2.1 c.2.1 c.2.2.1 c.2.2.2.1 c.2.2.2.2.1 c.2.2.2.2.2.1 c.2.2.2.2.2.2.1 c.2.2.2.2.2.2.2.1 c.2.2.2.2.2.2.2.2.1) N)
theorem Ev64_ok (N : Nat) (R : Type) : EnvOK Go.Proofs.Try.prog (Ev64 N R) := EnvOK.addLp (Ev63_ok N R) (by kernel_rfl) (lpK_ok (li := packet_Of_L3_I) (G := fun X c => packet_Of_L3 N X c.1.1 c.1.2.1 c.1.2.2.1 c.2.1 c.2.2.1 c.2.2.2.1 c.2.2.2.2.1 c.2.2.2.2.2.1 c.2.2.2.2.2.2.1 c.2.2.2.2.2.2.2.1 c.2.2.2.2.2.2.2.2.1) hmx (Ev63_ok N _) (by kernel_rfl) loopAt_sub (fun (X : CT packet_Of_L3_I.sh → Option (OT packet_Of_L3_I.outs)) (c : CT packet_Of_L3_I.sh) => packet_Of_L3_S N X c.1.1 c.1.2.1 c.1.2.2.1 c.2.1 c.2.2.1 c.2.2.2.1 c.2.2.2.2.1 c.2.2.2.2.2.1 c.2.2.2.2.2.2.1 c.2.2.2.2.2.2.2.1 c.2.2.2.2.2.2.2.2.1) N)
noncomputable def packet_Of (N : Nat) (kind0 : Int) (l1 : List ((Int) × (List (Int)))) : Option ((Bool) × ((Int) × ((List ((Int) × (List (Int)))) × (List (Int))))) :=
 Option.bind (packet_Of_L3_R N ((l1, ((((List.length l1) : Nat) : Int), ((0 : Int), @Unit.unit))), (@Bool.false, ((0 : Int), (([] : List (Int)), (@Bool.true, (kind0, (([] : List (Int)), (([] : List ((Int × (List Int)))), (([] : List ((Int × (List Int)))), @Unit.unit)))))))))) fun (v3 : (Unit × (Bool × (Int × ((List Int) × (Bool × (Int × ((List Int) × ((List (Int × (List Int))) × ((List (Int × (List Int))) × Unit)))))))))) =>
 some (((v3.2.2.2).snd.1, ((v3.2.2.2).snd.2.1, (((v3.2.2.2).snd.2.2).snd.2.1, (v3.2.2.2).snd.2.2.1))))
theorem packet_Of_S (N : Nat) (kind0 : Int) (l1 : List ((Int) × (List (Int)))) : (runK Go.Proofs.Try.prog (Ev64 N) 400 27 [(.int .u16), (.sl (.pair (.int .u8) (.sl (.int .u8))))] [(.pair .bool (.pair (.int .u16) (.pair (.sl (.pair (.int .u8) (.sl (.int .u8)))) (.sl (.int .u8)))))] (kind0, l1, ())).run = packet_Of N kind0 l1 := by kernel_rfl
theorem packet_Of_C (N : Nat) (kind0 : Int) (l1 : List ((Int) × (List (Int)))) (y : (Bool) × ((Int) × ((List ((Int) × (List (Int)))) × (List (Int))))) (h : packet_Of N kind0 l1 = some y) : CallsK Go.Proofs.Try.prog 27 (valA [(.int .u16), (.sl (.pair (.int .u8) (.sl (.int .u8))))] (kind0, l1, ())) (tupV (valR [(.pair .bool (.pair (.int .u16) (.pair (.sl (.pair (.int .u8) (.sl (.int .u8)))) (.sl (.int .u8)))))] y)) := runK_ok hmx (Ev64_ok N _) (okFn_ok (by kernel_rfl)) (by rw [packet_Of_S]; exact h)
noncomputable def Ev65 (N : Nat) : (R : Type) → Env R := Env.addFn (Ev64 N) 27 (fun R => fnK [(.int .u16), (.sl (.pair (.int .u8) (.sl (.int .u8))))] [(.pair .bool (.pair (.int .u16) (.pair (.sl (.pair (.int .u8) (.sl (.int .u8)))) (.sl (.int .u8)))))] (fun c => packet_Of N c.1 c.2.1))
theorem Ev65_ok (N : Nat) (R : Type) : EnvOK Go.Proofs.Try.prog (Ev65 N R) := EnvOK.addFn hmx (Ev64_ok N R) (Ev64_ok N _) (by kernel_rfl) (fun c => packet_Of_S N c.1 c.2.1)
noncomputable def Ev66 (N : Nat) : (R : Type) → Env R := Env.addBx (Ev65 N) [(17, 0)]
theorem Ev66_ok (N : Nat) (R : Type) : EnvOK Go.Proofs.Try.prog (Ev66 N R) := EnvOK.addBx (Ev65_ok N R) [(17, 0)]
noncomputable def ref18_Lay_7_ref01_Big_L3_I : LI := ⟨24, 0, [], ⟨[(0, .ty (.int .u64)), (5, .lit (.own 0)), (6, .ty (.int .i64))], [.own (.int .u8) 5]⟩, [(.exit 0, ⟨[(5, .lit (.own 0))], [.own (.int .u8) 5]⟩)]⟩
noncomputable def ref18_Lay_7_ref01_Big_L3 (N : Nat) (X : (((Int) × ((Int) × Unit)) × ((List (Int)) × Unit)) → Option ((Unit × ((List (Int)) × Unit)))) (n0 : Int) (i6 : Int) (h0 : List (Int)) : Option ((Unit × ((List (Int)) × Unit))) :=
 bif (decide ((0 : Int) ≤ i6)) then
  bif (decide ((0 : Int) ≤ i6 ∧ i6 < (((List.length h0) : Nat) : Int))) then
   Option.bind (@GetElem?.getElem? (List Int) Nat Int (fun (as5 : (List Int)) => (fun (i6 : Nat) => (@LT.lt Nat @instLTNat i6 (List.length as5)))) (@List.instGetElem?NatLtLength Int) h0 (Int.toNat i6)) fun (v5 : Int) =>
   (X (((Go.IntKind.wrap .u64 (@Int.tdiv n0 (256 : Int))), ((Go.IntKind.wrap .i64 (i6 - (1 : Int))), @Unit.unit)), ((@List.set Int h0 (Int.toNat i6) (Go.IntKind.wrap .u8 (@Int.tmod n0 (256 : Int)))), @Unit.unit)))
  else
   none
 else
  some ((@Unit.unit, (h0, @Unit.unit)))
noncomputable def ref18_Lay_7_ref01_Big_L3_R (N : Nat) (c : (((Int) × ((Int) × Unit)) × ((List (Int)) × Unit))) : Option ((Unit × ((List (Int)) × Unit))) := gl (fun X c => ref18_Lay_7_ref01_Big_L3 N X c.1.1 c.1.2.1 c.2.1) N c
theorem ref18_Lay_7_ref01_Big_L3_S (N : Nat) (X : (((Int) × ((Int) × Unit)) × ((List (Int)) × Unit)) → Option ((Unit × ((List (Int)) × Unit)))) (n0 : Int) (i6 : Int) (h0 : List (Int)) : (roundK Go.Proofs.Try.prog (Ev66 N) 400 [72, 7, 17] ref18_Lay_7_ref01_Big_L3_I (loopAt Go.Proofs.Try.prog [72, 7, 17] 3) X ((n0, i6, ()), (h0, ()))).run = ref18_Lay_7_ref01_Big_L3 N X n0 i6 h0 := by kernel_rfl
noncomputable def Ev67 (N : Nat) : (R : Type) → Env R := Env.addLp (Ev66 N) [72, 7, 17] 0 3 (fun R => lpK Go.Proofs.Try.prog ref18_Lay_7_ref01_Big_L3_I (fun X c => ref18_Lay_7_ref01_Big_L3 N X c.1.1 c.1.2.1 c.2.1) N)
theorem Ev67_ok (N : Nat) (R : Type) : EnvOK Go.Proofs.Try.prog (Ev67 N R) := EnvOK.addLp (Ev66_ok N R) (by kernel_rfl) (lpK_ok (li := ref18_Lay_7_ref01_Big_L3_I) (G := fun X c => ref18_Lay_7_ref01_Big_L3 N X c.1.1 c.1.2.1 c.2.1) hmx (Ev66_ok N _) (by kernel_rfl) loopAt_sub (fun (X : CT ref18_Lay_7_ref01_Big_L3_I.sh → Option (OT ref18_Lay_7_ref01_Big_L3_I.outs)) (c : CT ref18_Lay_7_ref01_Big_L3_I.sh) => ref18_Lay_7_ref01_Big_L3_S N X c.1.1 c.1.2.1 c.2.1) N)
noncomputable def ref18_Lay_7_ref01_Big_L3_2_I : LI := ⟨24, 1, [], ⟨[(0, .ty (.int .u64)), (5, .lit (.own 1)), (6, .ty (.int .i64))], [.own (.int .u8) 5, .own (.int .u8) 5]⟩, [(.exit 0, ⟨[(5, .lit (.own 1))], [.own (.int .u8) 5, .own (.int .u8) 5]⟩)]⟩
noncomputable def ref18_Lay_7_ref01_Big_L3_2 (N : Nat) (X : (((Int) × ((Int) × Unit)) × ((List (Int)) × ((List (Int)) × Unit))) → Option ((Unit × ((List (Int)) × ((List (Int)) × Unit))))) (n0 : Int) (i6 : Int) (h0 : List (Int)) (h1 : List (Int)) : Option ((Unit × ((List (Int)) × ((List (Int)) × Unit)))) :=
 bif (decide ((0 : Int) ≤ i6)) then
  bif (decide ((0 : Int) ≤ i6 ∧ i6 < (((List.length h1) : Nat) : Int))) then
   Option.bind (@GetElem?.getElem? (List Int) Nat Int (fun (as6 : (List Int)) => (fun (i7 : Nat) => (@LT.lt Nat @instLTNat i7 (List.length as6)))) (@List.instGetElem?NatLtLength Int) h1 (Int.toNat i6)) fun (v6 : Int) =>
   (X (((Go.IntKind.wrap .u64 (@Int.tdiv n0 (256 : Int))), ((Go.IntKind.wrap .i64 (i6 - (1 : Int))), @Unit.unit)), (h0, ((@List.set Int h1 (Int.toNat i6) (Go.IntKind.wrap .u8 (@Int.tmod n0 (256 : Int)))), @Unit.unit))))
  else
   none
 else
  some ((@Unit.unit, (h0, (h1, @Unit.unit))))
noncomputable def ref18_Lay_7_ref01_Big_L3_2_R (N : Nat) (c : (((Int) × ((Int) × Unit)) × ((List (Int)) × ((List (Int)) × Unit)))) : Option ((Unit × ((List (Int)) × ((List (Int)) × Unit)))) := gl (fun X c => ref18_Lay_7_ref01_Big_L3_2 N X c.1.1 c.1.2.1 c.2.1 c.2.2.1) N c
theorem ref18_Lay_7_ref01_Big_L3_2_S (N : Nat) (X : (((Int) × ((Int) × Unit)) × ((List (Int)) × ((List (Int)) × Unit))) → Option ((Unit × ((List (Int)) × ((List (Int)) × Unit))))) (n0 : Int) (i6 : Int) (h0 : List (Int)) (h1 : List (Int)) : (roundK Go.Proofs.Try.prog (Ev67 N) 400 [72, 7, 17] ref18_Lay_7_ref01_Big_L3_2_I (loopAt Go.Proofs.Try.prog [72, 7, 17] 3) X ((n0, i6, ()), (h0, h1, ()))).run = ref18_Lay_7_ref01_Big_L3_2 N X n0 i6 h0 h1 := by kernel_rfl
noncomputable def Ev68 (N : Nat) : (R : Type) → Env R := Env.addLp (Ev67 N) [72, 7, 17] 1 3 (fun R => lpK Go.Proofs.Try.prog ref18_Lay_7_ref01_Big_L3_2_I (fun X c => ref18_Lay_7_ref01_Big_L3_2 N X c.1.1 c.1.2.1 c.2.1 c.2.2.1) N)
theorem Ev68_ok (N : Nat) (R : Type) : EnvOK Go.Proofs.Try.prog (Ev68 N R) := EnvOK.addLp (Ev67_ok N R) (by kernel_rfl) (lpK_ok (li := ref18_Lay_7_ref01_Big_L3_2_I) (G := fun X c => ref18_Lay_7_ref01_Big_L3_2 N X c.1.1 c.1.2.1 c.2.1 c.2.2.1) hmx (Ev67_ok N _) (by kernel_rfl) loopAt_sub (fun (X : CT ref18_Lay_7_ref01_Big_L3_2_I.sh → Option (OT ref18_Lay_7_ref01_Big_L3_2_I.outs)) (c : CT ref18_Lay_7_ref01_Big_L3_2_I.sh) => ref18_Lay_7_ref01_Big_L3_2_S N X c.1.1 c.1.2.1 c.2.1 c.2.2.1) N)
noncomputable def ref18_Lay_L9_I : LI := ⟨66, 0, [], ⟨[(1, .adr (.pair .bool (.pair (.int .u16) (.pair (.sl (.pair (.int .u8) (.sl (.int .u8)))) (.sl (.int .u8)))))), (4, .lit (.own 0)), (5, .ty (.int .u8)), (6, .ty (.int .i64))], [.own (.int .u8) 5]⟩, [(.ret, ⟨[(2, .ty (.sl (.int .u8))), (3, .ty (.int .i64))], []⟩), (.exit 0, ⟨[(4, .lit (.own 0)), (5, .ty (.int .u8))], [.own (.int .u8) 5]⟩)]⟩
noncomputable def ref18_Lay_L9 (N : Nat) (X : ((((Bool) × ((Int) × ((List ((Int) × (List (Int)))) × (List (Int))))) × ((Int) × ((Int) × Unit))) × ((List (Int)) × Unit)) → Option (((((List (Int)) × ((Int) × Unit)) × Unit) ⊕ (((Int) × Unit) × ((List (Int)) × Unit))))) (p1 : (Bool) × ((Int) × ((List ((Int) × (List (Int)))) × (List (Int))))) (c5 : Int) (i6 : Int) (h0 : List (Int)) : Option (((((List (Int)) × ((Int) × Unit)) × Unit) ⊕ (((Int) × Unit) × ((List (Int)) × Unit)))) :=
 bif (decide (i6 < (((List.length p1.2.2.1) : Nat) : Int))) then
  Option.bind (getI p1.2.2.1 i6) fun (v6 : (Int × (List Int))) =>
  Option.bind (@ref17_Lay N (v6.1, v6.2)) fun (v7 : ((List Int) × Int)) =>
  bif (!(decide (v7.2 = (0 : Int)))) then
   some ((.inl ((([] : List (Int)), (v7.2, @Unit.unit)), @Unit.unit)))
  else
   bif (roomB ((List.length h0) + (List.length v7.1)) 1) then
    (X (((p1.1, (p1.2.1, (p1.2.2.1, p1.2.2.2))), (c5, ((Go.IntKind.wrap .i64 (i6 + (1 : Int))), @Unit.unit))), ((h0 ++ v7.1), @Unit.unit)))
   else
    none
 else
  some ((.inr ((c5, @Unit.unit), (h0, @Unit.unit))))
noncomputable def ref18_Lay_L9_R (N : Nat) (c : ((((Bool) × ((Int) × ((List ((Int) × (List (Int)))) × (List (Int))))) × ((Int) × ((Int) × Unit))) × ((List (Int)) × Unit))) : Option (((((List (Int)) × ((Int) × Unit)) × Unit) ⊕ (((Int) × Unit) × ((List (Int)) × Unit)))) := gl (fun X c => ref18_Lay_L9 N X c.1.1 c.1.2.1 c.1.2.2.1 c.2.1) N c
theorem ref18_Lay_L9_S (N : Nat) (X : ((((Bool) × ((Int) × ((List ((Int) × (List (Int)))) × (List (Int))))) × ((Int) × ((Int) × Unit))) × ((List (Int)) × Unit)) → Option (((((List (Int)) × ((Int) × Unit)) × Unit) ⊕ (((Int) × Unit) × ((List (Int)) × Unit))))) (p1 : (Bool) × ((Int) × ((List ((Int) × (List (Int)))) × (List (Int))))) (c5 : Int) (i6 : Int) (h0 : List (Int)) : (roundK Go.Proofs.Try.prog (Ev68 N) 400 [17] ref18_Lay_L9_I (loopAt Go.Proofs.Try.prog [17] 9) X ((p1, c5, i6, ()), (h0, ()))).run = ref18_Lay_L9 N X p1 c5 i6 h0 := by kernel_rfl
noncomputable def Ev69 (N : Nat) : (R : Type) → Env R := Env.addLp (Ev68 N) [17] 0 9 (fun R => lpK Go.Proofs.Try.prog ref18_Lay_L9_I (fun X c => ref18_Lay_L9 N X c.1.1 c.1.2.1 c.1.2.2.1 c.2.1) N)
theorem Ev69_ok (N : Nat) (R : Type) : EnvOK Go.Proofs.Try.prog (Ev69 N R) := EnvOK.addLp (Ev68_ok N R) (by kernel_rfl) (lpK_ok (li := ref18_Lay_L9_I) (G := fun X c => ref18_Lay_L9 N X c.1.1 c.1.2.1 c.1.2.2.1 c.2.1) hmx (Ev68_ok N _) (by kernel_rfl) loopAt_sub (fun (X : CT ref18_Lay_L9_I.sh → Option (OT ref18_Lay_L9_I.outs)) (c : CT ref18_Lay_L9_I.sh) => ref18_Lay_L9_S N X c.1.1 c.1.2.1 c.1.2.2.1 c.2.1) N)
noncomputable def ref18_Lay_19_ref01_Big_L3_I : LI := ⟨24, 1, [], ⟨[(0, .ty (.int .u64)), (5, .lit (.own 1)), (6, .ty (.int .i64))], [.own (.int .u8) 5, .own (.int .u8) 5]⟩, [(.exit 0, ⟨[(5, .lit (.own 1))], [.own (.int .u8) 5, .own (.int .u8) 5]⟩)]⟩
noncomputable def ref18_Lay_19_ref01_Big_L3 (N : Nat) (X : (((Int) × ((Int) × Unit)) × ((List (Int)) × ((List (Int)) × Unit))) → Option ((Unit × ((List (Int)) × ((List (Int)) × Unit))))) (n0 : Int) (i6 : Int) (h0 : List (Int)) (h1 : List (Int)) : Option ((Unit × ((List (Int)) × ((List (Int)) × Unit)))) :=
 bif (decide ((0 : Int) ≤ i6)) then
  bif (decide ((0 : Int) ≤ i6 ∧ i6 < (((List.length h1) : Nat) : Int))) then
   Option.bind (@GetElem?.getElem? (List Int) Nat Int (fun (as6 : (List Int)) => (fun (i7 : Nat) => (@LT.lt Nat @instLTNat i7 (List.length as6)))) (@List.instGetElem?NatLtLength Int) h1 (Int.toNat i6)) fun (v6 : Int) =>
   (X (((Go.IntKind.wrap .u64 (@Int.tdiv n0 (256 : Int))), ((Go.IntKind.wrap .i64 (i6 - (1 : Int))), @Unit.unit)), (h0, ((@List.set Int h1 (Int.toNat i6) (Go.IntKind.wrap .u8 (@Int.tmod n0 (256 : Int)))), @Unit.unit))))
  else
   none
 else
  some ((@Unit.unit, (h0, (h1, @Unit.unit))))
noncomputable def ref18_Lay_19_ref01_Big_L3_R (N : Nat) (c : (((Int) × ((Int) × Unit)) × ((List (Int)) × ((List (Int)) × Unit)))) : Option ((Unit × ((List (Int)) × ((List (Int)) × Unit)))) := gl (fun X c => ref18_Lay_19_ref01_Big_L3 N X c.1.1 c.1.2.1 c.2.1 c.2.2.1) N c
theorem ref18_Lay_19_ref01_Big_L3_S (N : Nat) (X : (((Int) × ((Int) × Unit)) × ((List (Int)) × ((List (Int)) × Unit))) → Option ((Unit × ((List (Int)) × ((List (Int)) × Unit))))) (n0 : Int) (i6 : Int) (h0 : List (Int)) (h1 : List (Int)) : (roundK Go.Proofs.Try.prog (Ev69 N) 400 [72, 19, 17] ref18_Lay_19_ref01_Big_L3_I (loopAt Go.Proofs.Try.prog [72, 19, 17] 3) X ((n0, i6, ()), (h0, h1, ()))).run = ref18_Lay_19_ref01_Big_L3 N X n0 i6 h0 h1 := by kernel_rfl
noncomputable def Ev70 (N : Nat) : (R : Type) → Env R := Env.addLp (Ev69 N) [72, 19, 17] 1 3 (fun R => lpK Go.Proofs.Try.prog ref18_Lay_19_ref01_Big_L3_I (fun X c => ref18_Lay_19_ref01_Big_L3 N X c.1.1 c.1.2.1 c.2.1 c.2.2.1) N)
theorem Ev70_ok (N : Nat) (R : Type) : EnvOK Go.Proofs.Try.prog (Ev70 N R) := EnvOK.addLp (Ev69_ok N R) (by kernel_rfl) (lpK_ok (li := ref18_Lay_19_ref01_Big_L3_I) (G := fun X c => ref18_Lay_19_ref01_Big_L3 N X c.1.1 c.1.2.1 c.2.1 c.2.2.1) hmx (Ev69_ok N _) (by kernel_rfl) loopAt_sub (fun (X : CT ref18_Lay_19_ref01_Big_L3_I.sh → Option (OT ref18_Lay_19_ref01_Big_L3_I.outs)) (c : CT ref18_Lay_19_ref01_Big_L3_I.sh) => ref18_Lay_19_ref01_Big_L3_S N X c.1.1 c.1.2.1 c.2.1 c.2.2.1) N)
noncomputable def ref18_Lay_19_ref01_Big_L3_2_I : LI := ⟨24, 0, [], ⟨[(0, .ty (.int .u64)), (5, .lit (.own 0)), (6, .ty (.int .i64))], [.own (.int .u8) 5]⟩, [(.exit 0, ⟨[(5, .lit (.own 0))], [.own (.int .u8) 5]⟩)]⟩
noncomputable def ref18_Lay_19_ref01_Big_L3_2 (N : Nat) (X : (((Int) × ((Int) × Unit)) × ((List (Int)) × Unit)) → Option ((Unit × ((List (Int)) × Unit)))) (n0 : Int) (i6 : Int) (h0 : List (Int)) : Option ((Unit × ((List (Int)) × Unit))) :=
 bif (decide ((0 : Int) ≤ i6)) then
  bif (decide ((0 : Int) ≤ i6 ∧ i6 < (((List.length h0) : Nat) : Int))) then
   Option.bind (@GetElem?.getElem? (List Int) Nat Int (fun (as5 : (List Int)) => (fun (i6 : Nat) => (@LT.lt Nat @instLTNat i6 (List.length as5)))) (@List.instGetElem?NatLtLength Int) h0 (Int.toNat i6)) fun (v5 : Int) =>
   (X (((Go.IntKind.wrap .u64 (@Int.tdiv n0 (256 : Int))), ((Go.IntKind.wrap .i64 (i6 - (1 : Int))), @Unit.unit)), ((@List.set Int h0 (Int.toNat i6) (Go.IntKind.wrap .u8 (@Int.tmod n0 (256 : Int)))), @Unit.unit)))
  else
   none
 else
  some ((@Unit.unit, (h0, @Unit.unit)))
noncomputable def ref18_Lay_19_ref01_Big_L3_2_R (N : Nat) (c : (((Int) × ((Int) × Unit)) × ((List (Int)) × Unit))) : Option ((Unit × ((List (Int)) × Unit))) := gl (fun X c => ref18_Lay_19_ref01_Big_L3_2 N X c.1.1 c.1.2.1 c.2.1) N c
theorem ref18_Lay_19_ref01_Big_L3_2_S (N : Nat) (X : (((Int) × ((Int) × Unit)) × ((List (Int)) × Unit)) → Option ((Unit × ((List (Int)) × Unit)))) (n0 : Int) (i6 : Int) (h0 : List (Int)) : (roundK Go.Proofs.Try.prog (Ev70 N) 400 [72, 19, 17] ref18_Lay_19_ref01_Big_L3_2_I (loopAt Go.Proofs.Try.prog [72, 19, 17] 3) X ((n0, i6, ()), (h0, ()))).run = ref18_Lay_19_ref01_Big_L3_2 N X n0 i6 h0 := by kernel_rfl
noncomputable def Ev71 (N : Nat) : (R : Type) → Env R := Env.addLp (Ev70 N) [72, 19, 17] 0 3 (fun R => lpK Go.Proofs.Try.prog ref18_Lay_19_ref01_Big_L3_2_I (fun X c => ref18_Lay_19_ref01_Big_L3_2 N X c.1.1 c.1.2.1 c.2.1) N)
theorem Ev71_ok (N : Nat) (R : Type) : EnvOK Go.Proofs.Try.prog (Ev71 N R) := EnvOK.addLp (Ev70_ok N R) (by kernel_rfl) (lpK_ok (li := ref18_Lay_19_ref01_Big_L3_2_I) (G := fun X c => ref18_Lay_19_ref01_Big_L3_2 N X c.1.1 c.1.2.1 c.2.1) hmx (Ev70_ok N _) (by kernel_rfl) loopAt_sub (fun (X : CT ref18_Lay_19_ref01_Big_L3_2_I.sh → Option (OT ref18_Lay_19_ref01_Big_L3_2_I.outs)) (c : CT ref18_Lay_19_ref01_Big_L3_2_I.sh) => ref18_Lay_19_ref01_Big_L3_2_S N X c.1.1 c.1.2.1 c.2.1) N)
noncomputable def ref18_Lay (N : Nat) (p0 : (Bool) × ((Int) × ((List ((Int) × (List (Int)))) × (List (Int))))) : Option ((List (Int)) × Int) :=
 bif p0.1 then
  bif (decide ((8 : Int) < (((List.length p0.2.2.1) : Nat) : Int))) then
   some ((([] : List (Int)), (5 : Int)))
  else
   Option.bind (ref18_Lay_7_ref01_Big_L3_R N (((Go.IntKind.wrap .u64 p0.2.1), ((Go.IntKind.wrap .i64 ((2 : Int) - (1 : Int))), @Unit.unit)), ((@List.replicate Int (Int.toNat (2 : Int)) (0 : Int)), @Unit.unit))) fun (v2 : (Unit × ((List Int) × Unit))) =>
   Option.bind (ref18_Lay_7_ref01_Big_L3_2_R N (((Go.IntKind.wrap .u64 (((List.length p0.2.2.1) : Nat) : Int)), ((Go.IntKind.wrap .i64 ((2 : Int) - (1 : Int))), @Unit.unit)), (v2.2.1, ((@List.replicate Int (Int.toNat (2 : Int)) (0 : Int)), @Unit.unit)))) fun (v3 : (Unit × ((List Int) × ((List Int) × Unit)))) =>
   bif (roomB ((List.length v3.2.1) + (List.length v3.2.2.1)) 1) then
    Option.bind (ref18_Lay_L9_R N (((p0.1, (p0.2.1, (p0.2.2.1, p0.2.2.2))), ((1 : Int), ((0 : Int), @Unit.unit))), ((v3.2.1 ++ v3.2.2.1), @Unit.unit))) fun (v4 : ((((List Int) × (Int × Unit)) × Unit) ⊕ ((Int × Unit) × ((List Int) × Unit)))) =>
    Sum.elim
     (fun (v5 : (((List Int) × (Int × Unit)) × Unit)) =>
     some ((v5.1.1, v5.1.2.1)))
     (fun (v5 : ((Int × Unit) × ((List Int) × Unit))) =>
     bif (decide ((((List.length v5.2.1) : Nat) : Int) = (0 : Int))) then
      some ((([] : List (Int)), (4 : Int)))
     else
      bif (decide ((4095 : Int) < (Go.IntKind.wrap .i64 ((4 : Int) + (((List.length v5.2.1) : Nat) : Int))))) then
       some ((([] : List (Int)), (8 : Int)))
      else
       Option.bind (ref18_Lay_19_ref01_Big_L3_R N (((Go.IntKind.wrap .u64 (Go.IntKind.wrap .i64 ((4 : Int) + (((List.length v5.2.1) : Nat) : Int)))), ((Go.IntKind.wrap .i64 ((2 : Int) - (1 : Int))), @Unit.unit)), (v5.2.1, ((@List.replicate Int (Int.toNat (2 : Int)) (0 : Int)), @Unit.unit)))) fun (v6 : (Unit × ((List Int) × ((List Int) × Unit)))) =>
       bif ((roomB ((List.length ([(16 : Int), v5.1.1] : List (Int))) + (List.length v6.2.2.1)) 1) && (!(@List.isEmpty Int v6.2.2.1))) then
        bif (roomB ((List.length (([(16 : Int), v5.1.1] : List (Int)) ++ v6.2.2.1)) + (List.length v6.2.1)) 1) then
         some ((((([(16 : Int), v5.1.1] : List (Int)) ++ v6.2.2.1) ++ v6.2.1), (0 : Int)))
        else
         none
       else
        none) v4
   else
    none
 else
  bif (decide ((((List.length p0.2.2.2) : Nat) : Int) = (0 : Int))) then
   some ((([] : List (Int)), (4 : Int)))
  else
   bif (decide ((4095 : Int) < (Go.IntKind.wrap .i64 ((4 : Int) + (((List.length p0.2.2.2) : Nat) : Int))))) then
    some ((([] : List (Int)), (8 : Int)))
   else
    Option.bind (ref18_Lay_19_ref01_Big_L3_2_R N (((Go.IntKind.wrap .u64 (Go.IntKind.wrap .i64 ((4 : Int) + (((List.length p0.2.2.2) : Nat) : Int)))), ((Go.IntKind.wrap .i64 ((2 : Int) - (1 : Int))), @Unit.unit)), ((@List.replicate Int (Int.toNat (2 : Int)) (0 : Int)), @Unit.unit))) fun (v2 : (Unit × ((List Int) × Unit))) =>
    bif ((roomB ((List.length ([(16 : Int), (0 : Int)] : List (Int))) + (List.length v2.2.1)) 1) && (!(@List.isEmpty Int v2.2.1))) then
     bif (roomB ((List.length (([(16 : Int), (0 : Int)] : List (Int)) ++ v2.2.1)) + (List.length p0.2.2.2)) 1) then
      some ((((([(16 : Int), (0 : Int)] : List (Int)) ++ v2.2.1) ++ p0.2.2.2), (0 : Int)))
     else
      none
    else
     none
theorem ref18_Lay_S (N : Nat) (p0 : (Bool) × ((Int) × ((List ((Int) × (List (Int)))) × (List (Int))))) : (runK Go.Proofs.Try.prog (Ev71 N) 400 17 [(.pair .bool (.pair (.int .u16) (.pair (.sl (.pair (.int .u8) (.sl (.int .u8)))) (.sl (.int .u8)))))] [(.sl (.int .u8)), (.int .i64)] (p0, ())).run = ref18_Lay N p0 := by kernel_rfl
theorem ref18_Lay_C (N : Nat) (p0 : (Bool) × ((Int) × ((List ((Int) × (List (Int)))) × (List (Int))))) (y : (List (Int)) × Int) (h : ref18_Lay N p0 = some y) : CallsK Go.Proofs.Try.prog 17 (valA [(.pair .bool (.pair (.int .u16) (.pair (.sl (.pair (.int .u8) (.sl (.int .u8)))) (.sl (.int .u8)))))] (p0, ())) (tupV (valR [(.sl (.int .u8)), (.int .i64)] y)) := runK_ok hmx (Ev71_ok N _) (okFn_ok (by kernel_rfl)) (by rw [ref18_Lay_S]; exact h)
noncomputable def Ev72 (N : Nat) : (R : Type) → Env R := Env.addFn (Ev71 N) 17 (fun R => fnK [(.pair .bool (.pair (.int .u16) (.pair (.sl (.pair (.int .u8) (.sl (.int .u8)))) (.sl (.int .u8)))))] [(.sl (.int .u8)), (.int .i64)] (fun c => ref18_Lay N c.1))
theorem Ev72_ok (N : Nat) (R : Type) : EnvOK Go.Proofs.Try.prog (Ev72 N R) := EnvOK.addFn hmx (Ev71_ok N R) (Ev71_ok N _) (by kernel_rfl) (fun c => ref18_Lay_S N c.1)
noncomputable def Ev73 (N : Nat) : (R : Type) → Env R := Env.addMv (Ev72 N) [(22, 21)]
theorem Ev73_ok (N : Nat) (R : Type) : EnvOK Go.Proofs.Try.prog (Ev73 N R) := EnvOK.addMv (Ev72_ok N R) [(22, 21)]
noncomputable def ref18_Length (N : Nat) (b0 : List (Int)) : Option ((Int) × Int) :=
 bif (decide ((((List.length b0) : Nat) : Int) < (4 : Int))) then
  some (((0 : Int), (4 : Int)))
 else
  Option.bind (getI b0 (0 : Int)) fun (v2 : Int) =>
  bif (!(decide (v2 = (16 : Int)))) then
   some (((0 : Int), (15 : Int)))
  else
   Option.bind (subI b0 (2 : Int) (4 : Int)) fun (v3 : (List Int)) =>
   Option.bind (@ref01_Num N v3) fun (v4 : Int) =>
   Option.bind (getI b0 (1 : Int)) fun (v5 : Int) =>
   bif (decide ((1 : Int) < v5)) then
    some (((0 : Int), (3 : Int)))
   else
    bif (@cond Bool @Bool.false @Bool.true (decide ((Go.IntKind.wrap .i64 v4) < (5 : Int)))) then
     some (((0 : Int), (3 : Int)))
    else
     Option.bind (getI b0 (1 : Int)) fun (v6 : Int) =>
     bif (decide (v6 = (1 : Int))) then
      bif (@cond Bool @Bool.false @Bool.true (@cond Bool @Bool.true (decide ((Go.IntKind.wrap .i64 v4) < (8 : Int))) @Bool.false)) then
       some (((0 : Int), (3 : Int)))
      else
       bif (@cond Bool @Bool.false @Bool.true (decide ((4095 : Int) < (Go.IntKind.wrap .i64 v4)))) then
        some (((0 : Int), (3 : Int)))
       else
        some (((Go.IntKind.wrap .i64 v4), (0 : Int)))
     else
      bif (@cond Bool @Bool.false @Bool.true (decide ((4095 : Int) < (Go.IntKind.wrap .i64 v4)))) then
       some (((0 : Int), (3 : Int)))
      else
       some (((Go.IntKind.wrap .i64 v4), (0 : Int)))
theorem ref18_Length_S (N : Nat) (b0 : List (Int)) : (runK Go.Proofs.Try.prog (Ev73 N) 400 24 [(.sl (.int .u8))] [(.int .i64), (.int .i64)] (b0, ())).run = ref18_Length N b0 := by kernel_rfl
theorem ref18_Length_C (N : Nat) (b0 : List (Int)) (y : (Int) × Int) (h : ref18_Length N b0 = some y) : CallsK Go.Proofs.Try.prog 24 (valA [(.sl (.int .u8))] (b0, ())) (tupV (valR [(.int .i64), (.int .i64)] y)) := runK_ok hmx (Ev73_ok N _) (okFn_ok (by kernel_rfl)) (by rw [ref18_Length_S]; exact h)
noncomputable def Ev74 (N : Nat) : (R : Type) → Env R := Env.addFn (Ev73 N) 24 (fun R => fnK [(.sl (.int .u8))] [(.int .i64), (.int .i64)] (fun c => ref18_Length N c.1))
theorem Ev74_ok (N : Nat) (R : Type) : EnvOK Go.Proofs.Try.prog (Ev74 N R) := EnvOK.addFn hmx (Ev73_ok N R) (Ev73_ok N _) (by kernel_rfl) (fun c => ref18_Length_S N c.1)
noncomputable def ref18_Parse_L16_I : LI := ⟨82, 0, [], ⟨[(2, .lit (.box 0 0)), (6, .ty (.int .i64)), (7, .lit (.box 1 0)), (8, .ty (.sl (.int .u8))), (9, .ty (.int .i64))], [.boxp 26 [.ty .bool, .ty (.int .u16), .own 2, .ty (.sl (.int .u8))], .boxp 26 [.ty .bool, .ty (.int .u16), .own 3, .ty (.sl (.int .u8))], .own (.pair (.int .u8) (.sl (.int .u8))) 113, .own (.pair (.int .u8) (.sl (.int .u8))) 113]⟩, [(.ret, ⟨[(2, .lit (.box 0 0)), (3, .ty (.int .i64))], [.box 26 (.pair .bool (.pair (.int .u16) (.pair (.sl (.pair (.int .u8) (.sl (.int .u8)))) (.sl (.int .u8)))))]⟩), (.exit 0, ⟨[(2, .lit (.box 0 0)), (7, .lit (.box 1 0)), (8, .ty (.sl (.int .u8)))], [.boxp 26 [.ty .bool, .ty (.int .u16), .own 2, .ty (.sl (.int .u8))], .boxp 26 [.ty .bool, .ty (.int .u16), .own 3, .ty (.sl (.int .u8))], .own (.pair (.int .u8) (.sl (.int .u8))) 113, .own (.pair (.int .u8) (.sl (.int .u8))) 113]⟩)]⟩
noncomputable def ref18_Parse_L16 (N : Nat) (X : (((Int) × ((List (Int)) × ((Int) × Unit))) × ((Bool) × ((Int) × ((List (Int)) × ((Bool) × ((Int) × ((List (Int)) × ((List ((Int) × (List (Int)))) × ((List ((Int) × (List (Int)))) × Unit))))))))) → Option (((((Int) × Unit) × (((Bool) × ((Int) × ((List ((Int) × (List (Int)))) × (List (Int))))) × Unit)) ⊕ (((List (Int)) × Unit) × ((Bool) × ((Int) × ((List (Int)) × ((Bool) × ((Int) × ((List (Int)) × ((List ((Int) × (List (Int)))) × ((List ((Int) × (List (Int)))) × Unit)))))))))))) (many6 : Int) (rest8 : List (Int)) (i9 : Int) (h0 : Bool) (h1 : Int) (h2 : List (Int)) (h3 : Bool) (h4 : Int) (h5 : List (Int)) (h6 : List ((Int) × (List (Int)))) (h7 : List ((Int) × (List (Int)))) : Option (((((Int) × Unit) × (((Bool) × ((Int) × ((List ((Int) × (List (Int)))) × (List (Int))))) × Unit)) ⊕ (((List (Int)) × Unit) × ((Bool) × ((Int) × ((List (Int)) × ((Bool) × ((Int) × ((List (Int)) × ((List ((Int) × (List (Int)))) × ((List ((Int) × (List (Int)))) × Unit))))))))))) :=
 bif (decide (i9 < many6)) then
  Option.bind (@ref17_Parse N rest8) fun (v13 : ((Int × (List Int)) × (Int × Int))) =>
  bif (!(decide (v13.2.2 = (0 : Int)))) then
   some ((.inl ((v13.2.2, @Unit.unit), ((@Bool.false, ((0 : Int), (([] : List ((Int × (List Int)))), ([] : List (Int))))), @Unit.unit))))
  else
   bif (roomB ((List.length h7) + (List.length ([(v13.1.1, v13.1.2)] : List ((Int × (List Int)))))) 32) then
    Option.bind (dropI rest8 v13.2.1) fun (v14 : (List Int)) =>
    (X ((many6, (v14, ((Go.IntKind.wrap .i64 (i9 + (1 : Int))), @Unit.unit))), (h0, (h1, (h2, (h3, (h4, (h5, (h6, ((h7 ++ ([(v13.1.1, v13.1.2)] : List ((Int × (List Int))))), @Unit.unit))))))))))
   else
    none
 else
  some ((.inr ((rest8, @Unit.unit), (h0, (h1, (h2, (h3, (h4, (h5, (h6, (h7, @Unit.unit)))))))))))
noncomputable def ref18_Parse_L16_R (N : Nat) (c : (((Int) × ((List (Int)) × ((Int) × Unit))) × ((Bool) × ((Int) × ((List (Int)) × ((Bool) × ((Int) × ((List (Int)) × ((List ((Int) × (List (Int)))) × ((List ((Int) × (List (Int)))) × Unit)))))))))) : Option (((((Int) × Unit) × (((Bool) × ((Int) × ((List ((Int) × (List (Int)))) × (List (Int))))) × Unit)) ⊕ (((List (Int)) × Unit) × ((Bool) × ((Int) × ((List (Int)) × ((Bool) × ((Int) × ((List (Int)) × ((List ((Int) × (List (Int)))) × ((List ((Int) × (List (Int)))) × Unit))))))))))) := gl (fun X c => ref18_Parse_L16 N X c.1.1 c.1.2.1 c.1.2.2.1 c.2.1 c.2.2.1 c.2.2.2.1 c.2.2.2.2.1 c.2.2.2.2.2.1 c.2.2.2.2.2.2.1 c.2.2.2.2.2.2.2.1 c.2.2.2.2.2.2.2.2.1) N c
theorem ref18_Parse_L16_S (N : Nat) (X : (((Int) × ((List (Int)) × ((Int) × Unit))) × ((Bool) × ((Int) × ((List (Int)) × ((Bool) × ((Int) × ((List (Int)) × ((List ((Int) × (List (Int)))) × ((List ((Int) × (List (Int)))) × Unit))))))))) → Option (((((Int) × Unit) × (((Bool) × ((Int) × ((List ((Int) × (List (Int)))) × (List (Int))))) × Unit)) ⊕ (((List (Int)) × Unit) × ((Bool) × ((Int) × ((List (Int)) × ((Bool) × ((Int) × ((List (Int)) × ((List ((Int) × (List (Int)))) × ((List ((Int) × (List (Int)))) × Unit)))))))))))) (many6 : Int) (rest8 : List (Int)) (i9 : Int) (h0 : Bool) (h1 : Int) (h2 : List (Int)) (h3 : Bool) (h4 : Int) (h5 : List (Int)) (h6 : List ((Int) × (List (Int)))) (h7 : List ((Int) × (List (Int)))) : (roundK Go.Proofs.Try.prog (Ev74 N) 400 [22] ref18_Parse_L16_I (loopAt Go.Proofs.Try.prog [22] 16) X ((many6, rest8, i9, ()), (h0, h1, h2, h3, h4, h5, h6, h7, ()))).run = ref18_Parse_L16 N X many6 rest8 i9 h0 h1 h2 h3 h4 h5 h6 h7 := by kernel_rfl
noncomputable def Ev75 (N : Nat) : (R : Type) → Env R := Env.addLp (Ev74 N) [22] 0 16 (fun R => lpK Go.Proofs.Try.prog ref18_Parse_L16_I (fun X c => ref18_Parse_L16 N X c.1.1 c.1.2.1 c.1.2.2.1 c.2.1 c.2.2.1 c.2.2.2.1 c.2.2.2.2.1 c.2.2.2.2.2.1 c.2.2.2.2.2.2.1 c.2.2.2.2.2.2.2.1 c.2.2.2.2.2.2.2.2.1) N)
theorem Ev75_ok (N : Nat) (R : Type) : EnvOK Go.Proofs.Try.prog (Ev75 N R) := EnvOK.addLp (Ev74_ok N R) (by kernel_rfl) (lpK_ok (li := ref18_Parse_L16_I) (G := fun X c => ref18_Parse_L16 N X c.1.1 c.1.2.1 c.1.2.2.1 c.2.1 c.2.2.1 c.2.2.2.1 c.2.2.2.2.1 c.2.2.2.2.2.1 c.2.2.2.2.2.2.1 c.2.2.2.2.2.2.2.1 c.2.2.2.2.2.2.2.2.1) hmx (Ev74_ok N _) (by kernel_rfl) loopAt_sub (fun (X : CT ref18_Parse_L16_I.sh → Option (OT ref18_Parse_L16_I.outs)) (c : CT ref18_Parse_L16_I.sh) => ref18_Parse_L16_S N X c.1.1 c.1.2.1 c.1.2.2.1 c.2.1 c.2.2.1 c.2.2.2.1 c.2.2.2.2.1 c.2.2.2.2.2.1 c.2.2.2.2.2.2.1 c.2.2.2.2.2.2.2.1 c.2.2.2.2.2.2.2.2.1) N)
noncomputable def ref18_Parse (N : Nat) (b0 : List (Int)) : Option (((Bool) × ((Int) × ((List ((Int) × (List (Int)))) × (List (Int))))) × Int) :=
 Option.bind (@ref18_Length N b0) fun (v2 : (Int × Int)) =>
 bif (!(decide (v2.2 = (0 : Int)))) then
  some (((@Bool.false, ((0 : Int), (([] : List ((Int × (List Int)))), ([] : List (Int))))), v2.2))
 else
  bif (decide ((((List.length b0) : Nat) : Int) < v2.1)) then
   some (((@Bool.false, ((0 : Int), (([] : List ((Int × (List Int)))), ([] : List (Int))))), (4 : Int)))
  else
   bif (decide (v2.1 < (((List.length b0) : Nat) : Int))) then
    some (((@Bool.false, ((0 : Int), (([] : List ((Int × (List Int)))), ([] : List (Int))))), (3 : Int)))
   else
    Option.bind (getI b0 (1 : Int)) fun (v3 : Int) =>
    bif (decide (v3 = (0 : Int))) then
     Option.bind (dropI b0 (4 : Int)) fun (v4 : (List Int)) =>
     some (((@Bool.false, ((0 : Int), (([] : List ((Int × (List Int)))), v4))), (0 : Int)))
    else
     Option.bind (subI b0 (6 : Int) (8 : Int)) fun (v4 : (List Int)) =>
     Option.bind (@ref01_Num N v4) fun (v5 : Int) =>
     bif (decide ((8 : Int) < (Go.IntKind.wrap .i64 v5))) then
      some (((@Bool.false, ((0 : Int), (([] : List ((Int × (List Int)))), ([] : List (Int))))), (5 : Int)))
     else
      Option.bind (subI b0 (4 : Int) (6 : Int)) fun (v6 : (List Int)) =>
      Option.bind (@ref01_Num N v6) fun (v7 : Int) =>
      Option.bind (dropI b0 (8 : Int)) fun (v8 : (List Int)) =>
      Option.bind (ref18_Parse_L16_R N (((Go.IntKind.wrap .i64 v5), (v8, ((0 : Int), @Unit.unit))), (@Bool.false, ((0 : Int), (([] : List (Int)), (@Bool.true, ((Go.IntKind.wrap .u16 v7), (([] : List (Int)), (([] : List ((Int × (List Int)))), (([] : List ((Int × (List Int)))), @Unit.unit)))))))))) fun (v9 : (((Int × Unit) × ((Bool × (Int × ((List (Int × (List Int))) × (List Int)))) × Unit)) ⊕ (((List Int) × Unit) × (Bool × (Int × ((List Int) × (Bool × (Int × ((List Int) × ((List (Int × (List Int))) × ((List (Int × (List Int))) × Unit))))))))))) =>
      Sum.elim
       (fun (v10 : ((Int × Unit) × ((Bool × (Int × ((List (Int × (List Int))) × (List Int)))) × Unit))) =>
       some (((v10.2.1.1, (v10.2.1.2.1, (v10.2.1.2.2.1, v10.2.1.2.2.2))), v10.1.1)))
       (fun (v10 : (((List Int) × Unit) × (Bool × (Int × ((List Int) × (Bool × (Int × ((List Int) × ((List (Int × (List Int))) × ((List (Int × (List Int))) × Unit)))))))))) =>
       bif (decide ((0 : Int) < (((List.length v10.1.1) : Nat) : Int))) then
        some (((@Bool.false, ((0 : Int), (([] : List ((Int × (List Int)))), ([] : List (Int))))), (3 : Int)))
       else
        some ((((v10.2.2.2).snd.1, ((v10.2.2.2).snd.2.1, (((v10.2.2.2).snd.2.2).snd.2.1, (v10.2.2.2).snd.2.2.1))), (0 : Int)))) v9
theorem ref18_Parse_S (N : Nat) (b0 : List (Int)) : (runK Go.Proofs.Try.prog (Ev75 N) 400 22 [(.sl (.int .u8))] [(.pair .bool (.pair (.int .u16) (.pair (.sl (.pair (.int .u8) (.sl (.int .u8)))) (.sl (.int .u8))))), (.int .i64)] (b0, ())).run = ref18_Parse N b0 := by kernel_rfl
theorem ref18_Parse_C (N : Nat) (b0 : List (Int)) (y : ((Bool) × ((Int) × ((List ((Int) × (List (Int)))) × (List (Int))))) × Int) (h : ref18_Parse N b0 = some y) : CallsK Go.Proofs.Try.prog 22 (valA [(.sl (.int .u8))] (b0, ())) (tupV (valR [(.pair .bool (.pair (.int .u16) (.pair (.sl (.pair (.int .u8) (.sl (.int .u8)))) (.sl (.int .u8))))), (.int .i64)] y)) := runK_ok hmx (Ev75_ok N _) (okFn_ok (by kernel_rfl)) (by rw [ref18_Parse_S]; exact h)
noncomputable def Ev76 (N : Nat) : (R : Type) → Env R := Env.addFn (Ev75 N) 22 (fun R => fnK [(.sl (.int .u8))] [(.pair .bool (.pair (.int .u16) (.pair (.sl (.pair (.int .u8) (.sl (.int .u8)))) (.sl (.int .u8))))), (.int .i64)] (fun c => ref18_Parse N c.1))
theorem Ev76_ok (N : Nat) (R : Type) : EnvOK Go.Proofs.Try.prog (Ev76 N R) := EnvOK.addFn hmx (Ev75_ok N R) (Ev75_ok N _) (by kernel_rfl) (fun c => ref18_Parse_S N c.1)
noncomputable def Ev77 (N : Nat) : (R : Type) → Env R := Env.addBx (Ev76 N) [(20, 0)]
theorem Ev77_ok (N : Nat) (R : Type) : EnvOK Go.Proofs.Try.prog (Ev77 N R) := EnvOK.addBx (Ev76_ok N R) [(20, 0)]
noncomputable def Ev78 (N : Nat) : (R : Type) → Env R := Env.addBx (Ev77 N) [(76, 0)]
theorem Ev78_ok (N : Nat) (R : Type) : EnvOK Go.Proofs.Try.prog (Ev78 N R) := EnvOK.addBx (Ev77_ok N R) [(76, 0)]
noncomputable def ref18_kinds_L4_I : LI := ⟨27, 0, [], ⟨[(0, .ty (.sl (.pair (.int .u8) (.sl (.int .u8))))), (1, .ty (.sl (.int .u8))), (5, .ty (.int .i64))], []⟩, [(.ret, ⟨[(4, .ty .bool)], []⟩), (.exit 0, ⟨[], []⟩)]⟩
noncomputable def ref18_kinds_L4 (N : Nat) (X : (((List ((Int) × (List (Int)))) × ((List (Int)) × ((Int) × Unit))) × Unit) → Option (((((Bool) × Unit) × Unit) ⊕ (Unit × Unit)))) (l0 : List ((Int) × (List (Int)))) (want1 : List (Int)) (i5 : Int) : Option (((((Bool) × Unit) × Unit) ⊕ (Unit × Unit))) :=
 bif (decide (i5 < (((List.length l0) : Nat) : Int))) then
  Option.bind (getI l0 i5) fun (v5 : (Int × (List Int))) =>
  Option.bind (getI want1 i5) fun (v6 : Int) =>
  bif (!(decide (v5.1 = v6))) then
   some ((.inl ((@Bool.false, @Unit.unit), @Unit.unit)))
  else
   (X ((l0, (want1, ((Go.IntKind.wrap .i64 (i5 + (1 : Int))), @Unit.unit))), @Unit.unit))
 else
  some ((.inr (@Unit.unit, @Unit.unit)))
noncomputable def ref18_kinds_L4_R (N : Nat) (c : (((List ((Int) × (List (Int)))) × ((List (Int)) × ((Int) × Unit))) × Unit)) : Option (((((Bool) × Unit) × Unit) ⊕ (Unit × Unit))) := gl (fun X c => ref18_kinds_L4 N X c.1.1 c.1.2.1 c.1.2.2.1) N c
theorem ref18_kinds_L4_S (N : Nat) (X : (((List ((Int) × (List (Int)))) × ((List (Int)) × ((Int) × Unit))) × Unit) → Option (((((Bool) × Unit) × Unit) ⊕ (Unit × Unit)))) (l0 : List ((Int) × (List (Int)))) (want1 : List (Int)) (i5 : Int) : (roundK Go.Proofs.Try.prog (Ev78 N) 400 [114] ref18_kinds_L4_I (loopAt Go.Proofs.Try.prog [114] 4) X ((l0, want1, i5, ()), ())).run = ref18_kinds_L4 N X l0 want1 i5 := by kernel_rfl
noncomputable def Ev79 (N : Nat) : (R : Type) → Env R := Env.addLp (Ev78 N) [114] 0 4 (fun R => lpK Go.Proofs.Try.prog ref18_kinds_L4_I (fun X c => ref18_kinds_L4 N X c.1.1 c.1.2.1 c.1.2.2.1) N)
theorem Ev79_ok (N : Nat) (R : Type) : EnvOK Go.Proofs.Try.prog (Ev79 N R) := EnvOK.addLp (Ev78_ok N R) (by kernel_rfl) (lpK_ok (li := ref18_kinds_L4_I) (G := fun X c => ref18_kinds_L4 N X c.1.1 c.1.2.1 c.1.2.2.1) hmx (Ev78_ok N _) (by kernel_rfl) loopAt_sub (fun (X : CT ref18_kinds_L4_I.sh → Option (OT ref18_kinds_L4_I.outs)) (c : CT ref18_kinds_L4_I.sh) => ref18_kinds_L4_S N X c.1.1 c.1.2.1 c.1.2.2.1) N)
noncomputable def ref18_kinds (N : Nat) (l0 : List ((Int) × (List (Int)))) (want1 : List (Int)) : Option (Bool) :=
 bif (!(decide ((((List.length l0) : Nat) : Int) = (((List.length want1) : Nat) : Int)))) then
  some (@Bool.false)
 else
  Option.bind (ref18_kinds_L4_R N ((l0, (want1, ((0 : Int), @Unit.unit))), @Unit.unit)) fun (v3 : (((Bool × Unit) × Unit) ⊕ (Unit × Unit))) =>
  Sum.elim
   (fun (v4 : ((Bool × Unit) × Unit)) =>
   some (v4.1.1))
   (fun (v4 : (Unit × Unit)) =>
   some (@Bool.true)) v3
theorem ref18_kinds_S (N : Nat) (l0 : List ((Int) × (List (Int)))) (want1 : List (Int)) : (runK Go.Proofs.Try.prog (Ev79 N) 400 114 [(.sl (.pair (.int .u8) (.sl (.int .u8)))), (.sl (.int .u8))] [.bool] (l0, want1, ())).run = ref18_kinds N l0 want1 := by kernel_rfl
noncomputable def Ev80 (N : Nat) : (R : Type) → Env R := Env.addFn (Ev79 N) 114 (fun R => fnK [(.sl (.pair (.int .u8) (.sl (.int .u8)))), (.sl (.int .u8))] [.bool] (fun c => ref18_kinds N c.1 c.2.1))
theorem Ev80_ok (N : Nat) (R : Type) : EnvOK Go.Proofs.Try.prog (Ev80 N R) := EnvOK.addFn hmx (Ev79_ok N R) (Ev79_ok N _) (by kernel_rfl) (fun c => ref18_kinds_S N c.1 c.2.1)
noncomputable def ref18_has (N : Nat) (p0 : (Bool) × ((Int) × ((List ((Int) × (List (Int)))) × (List (Int))))) : Option (Bool) :=
 bif (decide (p0.2.1 = (1 : Int))) then
  Option.bind (@ref18_kinds N p0.2.2.1 ([(1 : Int)] : List (Int))) fun (v2 : Bool) =>
  some (v2)
 else
  bif (decide (p0.2.1 = (2 : Int))) then
   Option.bind (@ref18_kinds N p0.2.2.1 ([(4 : Int)] : List (Int))) fun (v2 : Bool) =>
   some (v2)
  else
   bif (decide (p0.2.1 = (3 : Int))) then
    Option.bind (@ref18_kinds N p0.2.2.1 ([(2 : Int)] : List (Int))) fun (v2 : Bool) =>
    bif v2 then
     some (@Bool.true)
    else
     Option.bind (@ref18_kinds N p0.2.2.1 ([(2 : Int), (2 : Int)] : List (Int))) fun (v3 : Bool) =>
     bif (@cond Bool @Bool.false @Bool.true v3) then
      some (@Bool.true)
     else
      Option.bind (@ref18_kinds N p0.2.2.1 ([(2 : Int), (2 : Int), (2 : Int)] : List (Int))) fun (v4 : Bool) =>
      some ((@cond Bool @Bool.false @Bool.true v4))
   else
    bif (decide (p0.2.1 = (4 : Int))) then
     Option.bind (@ref18_kinds N p0.2.2.1 ([(3 : Int)] : List (Int))) fun (v2 : Bool) =>
     some (v2)
    else
     bif (decide (p0.2.1 = (5 : Int))) then
      bif (decide (p0.2.1 = (5 : Int))) then
       Option.bind (@ref18_kinds N p0.2.2.1 ([] : List (Int))) fun (v2 : Bool) =>
       bif v2 then
        some (@Bool.true)
       else
        Option.bind (@ref18_kinds N p0.2.2.1 ([(2 : Int)] : List (Int))) fun (v3 : Bool) =>
        some ((@cond Bool @Bool.false @Bool.true v3))
      else
       Option.bind (@ref18_kinds N p0.2.2.1 ([] : List (Int))) fun (v2 : Bool) =>
       some (v2)
     else
      bif (decide (p0.2.1 = (6 : Int))) then
       Option.bind (@ref18_kinds N p0.2.2.1 ([] : List (Int))) fun (v2 : Bool) =>
       bif v2 then
        some (@Bool.true)
       else
        Option.bind (@ref18_kinds N p0.2.2.1 ([(2 : Int)] : List (Int))) fun (v3 : Bool) =>
        some ((@cond Bool @Bool.false @Bool.true v3))
      else
       Option.bind (@ref18_kinds N p0.2.2.1 ([] : List (Int))) fun (v2 : Bool) =>
       some (v2)
theorem ref18_has_S (N : Nat) (p0 : (Bool) × ((Int) × ((List ((Int) × (List (Int)))) × (List (Int))))) : (runK Go.Proofs.Try.prog (Ev80 N) 400 76 [(.pair .bool (.pair (.int .u16) (.pair (.sl (.pair (.int .u8) (.sl (.int .u8)))) (.sl (.int .u8)))))] [.bool] (p0, ())).run = ref18_has N p0 := by kernel_rfl
noncomputable def Ev81 (N : Nat) : (R : Type) → Env R := Env.addFn (Ev80 N) 76 (fun R => fnK [(.pair .bool (.pair (.int .u16) (.pair (.sl (.pair (.int .u8) (.sl (.int .u8)))) (.sl (.int .u8)))))] [.bool] (fun c => ref18_has N c.1))
theorem Ev81_ok (N : Nat) (R : Type) : EnvOK Go.Proofs.Try.prog (Ev81 N R) := EnvOK.addFn hmx (Ev80_ok N R) (Ev80_ok N _) (by kernel_rfl) (fun c => ref18_has_S N c.1)
noncomputable def ref18_Check_L8_I : LI := ⟨35, 0, [], ⟨[(1, .adr (.pair .bool (.pair (.int .u16) (.pair (.sl (.pair (.int .u8) (.sl (.int .u8)))) (.sl (.int .u8)))))), (3, .ty (.int .i64))], []⟩, [(.ret, ⟨[(2, .ty (.int .i64))], []⟩), (.exit 0, ⟨[], []⟩)]⟩
noncomputable def ref18_Check_L8 (N : Nat) (X : ((((Bool) × ((Int) × ((List ((Int) × (List (Int)))) × (List (Int))))) × ((Int) × Unit)) × Unit) → Option (((((Int) × Unit) × Unit) ⊕ (Unit × Unit)))) (p1 : (Bool) × ((Int) × ((List ((Int) × (List (Int)))) × (List (Int))))) (i3 : Int) : Option (((((Int) × Unit) × Unit) ⊕ (Unit × Unit))) :=
 bif (decide (i3 < (((List.length p1.2.2.1) : Nat) : Int))) then
  Option.bind (getI p1.2.2.1 i3) fun (v4 : (Int × (List Int))) =>
  Option.bind (@ref17_Check N (v4.1, v4.2)) fun (v5 : Int) =>
  bif (!(decide (v5 = (0 : Int)))) then
   some ((.inl ((v5, @Unit.unit), @Unit.unit)))
  else
   (X (((p1.1, (p1.2.1, (p1.2.2.1, p1.2.2.2))), ((Go.IntKind.wrap .i64 (i3 + (1 : Int))), @Unit.unit)), @Unit.unit))
 else
  some ((.inr (@Unit.unit, @Unit.unit)))
noncomputable def ref18_Check_L8_R (N : Nat) (c : ((((Bool) × ((Int) × ((List ((Int) × (List (Int)))) × (List (Int))))) × ((Int) × Unit)) × Unit)) : Option (((((Int) × Unit) × Unit) ⊕ (Unit × Unit))) := gl (fun X c => ref18_Check_L8 N X c.1.1 c.1.2.1) N c
theorem ref18_Check_L8_S (N : Nat) (X : ((((Bool) × ((Int) × ((List ((Int) × (List (Int)))) × (List (Int))))) × ((Int) × Unit)) × Unit) → Option (((((Int) × Unit) × Unit) ⊕ (Unit × Unit)))) (p1 : (Bool) × ((Int) × ((List ((Int) × (List (Int)))) × (List (Int))))) (i3 : Int) : (roundK Go.Proofs.Try.prog (Ev81 N) 400 [20] ref18_Check_L8_I (loopAt Go.Proofs.Try.prog [20] 8) X ((p1, i3, ()), ())).run = ref18_Check_L8 N X p1 i3 := by kernel_rfl
noncomputable def Ev82 (N : Nat) : (R : Type) → Env R := Env.addLp (Ev81 N) [20] 0 8 (fun R => lpK Go.Proofs.Try.prog ref18_Check_L8_I (fun X c => ref18_Check_L8 N X c.1.1 c.1.2.1) N)
theorem Ev82_ok (N : Nat) (R : Type) : EnvOK Go.Proofs.Try.prog (Ev82 N R) := EnvOK.addLp (Ev81_ok N R) (by kernel_rfl) (lpK_ok (li := ref18_Check_L8_I) (G := fun X c => ref18_Check_L8 N X c.1.1 c.1.2.1) hmx (Ev81_ok N _) (by kernel_rfl) loopAt_sub (fun (X : CT ref18_Check_L8_I.sh → Option (OT ref18_Check_L8_I.outs)) (c : CT ref18_Check_L8_I.sh) => ref18_Check_L8_S N X c.1.1 c.1.2.1) N)
noncomputable def ref18_Check (N : Nat) (p0 : (Bool) × ((Int) × ((List ((Int) × (List (Int)))) × (List (Int))))) : Option (Int) :=
 bif (!p0.1) then
  some ((0 : Int))
 else
  bif (decide (p0.2.1 < (1 : Int))) then
   some ((9 : Int))
  else
   bif (@cond Bool @Bool.false @Bool.true (decide ((9 : Int) < p0.2.1))) then
    some ((9 : Int))
   else
    Option.bind (@ref18_has N (p0.1, (p0.2.1, (p0.2.2.1, p0.2.2.2)))) fun (v2 : Bool) =>
    bif (!v2) then
     some ((1 : Int))
    else
     Option.bind (ref18_Check_L8_R N (((p0.1, (p0.2.1, (p0.2.2.1, p0.2.2.2))), ((0 : Int), @Unit.unit)), @Unit.unit)) fun (v3 : (((Int × Unit) × Unit) ⊕ (Unit × Unit))) =>
     Sum.elim
      (fun (v4 : ((Int × Unit) × Unit)) =>
      some (v4.1.1))
      (fun (v4 : (Unit × Unit)) =>
      some ((0 : Int))) v3
theorem ref18_Check_S (N : Nat) (p0 : (Bool) × ((Int) × ((List ((Int) × (List (Int)))) × (List (Int))))) : (runK Go.Proofs.Try.prog (Ev82 N) 400 20 [(.pair .bool (.pair (.int .u16) (.pair (.sl (.pair (.int .u8) (.sl (.int .u8)))) (.sl (.int .u8)))))] [(.int .i64)] (p0, ())).run = ref18_Check N p0 := by kernel_rfl
theorem ref18_Check_C (N : Nat) (p0 : (Bool) × ((Int) × ((List ((Int) × (List (Int)))) × (List (Int))))) (y : Int) (h : ref18_Check N p0 = some y) : CallsK Go.Proofs.Try.prog 20 (valA [(.pair .bool (.pair (.int .u16) (.pair (.sl (.pair (.int .u8) (.sl (.int .u8)))) (.sl (.int .u8)))))] (p0, ())) (tupV (valR [(.int .i64)] y)) := runK_ok hmx (Ev82_ok N _) (okFn_ok (by kernel_rfl)) (by rw [ref18_Check_S]; exact h)
noncomputable def Ev83 (N : Nat) : (R : Type) → Env R := Env.addFn (Ev82 N) 20 (fun R => fnK [(.pair .bool (.pair (.int .u16) (.pair (.sl (.pair (.int .u8) (.sl (.int .u8)))) (.sl (.int .u8)))))] [(.int .i64)] (fun c => ref18_Check N c.1))
theorem Ev83_ok (N : Nat) (R : Type) : EnvOK Go.Proofs.Try.prog (Ev83 N R) := EnvOK.addFn hmx (Ev82_ok N R) (Ev82_ok N _) (by kernel_rfl) (fun c => ref18_Check_S N c.1)
noncomputable def Ev84 (N : Nat) : (R : Type) → Env R := Env.addBx (Ev83 N) [(26, 0)]
theorem Ev84_ok (N : Nat) (R : Type) : EnvOK Go.Proofs.Try.prog (Ev84 N R) := EnvOK.addBx (Ev83_ok N R) [(26, 0)]
noncomputable def ref18_Same_L4_I : LI := ⟨51, 0, [], ⟨[(2, .adr (.pair .bool (.pair (.int .u16) (.pair (.sl (.pair (.int .u8) (.sl (.int .u8)))) (.sl (.int .u8)))))), (3, .adr (.pair .bool (.pair (.int .u16) (.pair (.sl (.pair (.int .u8) (.sl (.int .u8)))) (.sl (.int .u8)))))), (5, .ty (.int .i64))], []⟩, [(.ret, ⟨[(4, .ty .bool)], []⟩), (.exit 0, ⟨[(2, .adr (.pair .bool (.pair (.int .u16) (.pair (.sl (.pair (.int .u8) (.sl (.int .u8)))) (.sl (.int .u8)))))), (3, .adr (.pair .bool (.pair (.int .u16) (.pair (.sl (.pair (.int .u8) (.sl (.int .u8)))) (.sl (.int .u8))))))], []⟩)]⟩
noncomputable def ref18_Same_L4 (N : Nat) (X : ((((Bool) × ((Int) × ((List ((Int) × (List (Int)))) × (List (Int))))) × (((Bool) × ((Int) × ((List ((Int) × (List (Int)))) × (List (Int))))) × ((Int) × Unit))) × Unit) → Option (((((Bool) × Unit) × Unit) ⊕ ((((Bool) × ((Int) × ((List ((Int) × (List (Int)))) × (List (Int))))) × (((Bool) × ((Int) × ((List ((Int) × (List (Int)))) × (List (Int))))) × Unit)) × Unit)))) (a2 : (Bool) × ((Int) × ((List ((Int) × (List (Int)))) × (List (Int))))) (b3 : (Bool) × ((Int) × ((List ((Int) × (List (Int)))) × (List (Int))))) (i5 : Int) : Option (((((Bool) × Unit) × Unit) ⊕ ((((Bool) × ((Int) × ((List ((Int) × (List (Int)))) × (List (Int))))) × (((Bool) × ((Int) × ((List ((Int) × (List (Int)))) × (List (Int))))) × Unit)) × Unit))) :=
 bif (decide (i5 < (((List.length a2.2.2.1) : Nat) : Int))) then
  Option.bind (getI a2.2.2.1 i5) fun (v5 : (Int × (List Int))) =>
  Option.bind (getI b3.2.2.1 i5) fun (v6 : (Int × (List Int))) =>
  Option.bind (@ref17_Same N (v5.1, v5.2) (v6.1, v6.2)) fun (v7 : Bool) =>
  bif (!v7) then
   some ((.inl ((@Bool.false, @Unit.unit), @Unit.unit)))
  else
   (X (((a2.1, (a2.2.1, (a2.2.2.1, a2.2.2.2))), ((b3.1, (b3.2.1, (b3.2.2.1, b3.2.2.2))), ((Go.IntKind.wrap .i64 (i5 + (1 : Int))), @Unit.unit))), @Unit.unit))
 else
  some ((.inr (((a2.1, (a2.2.1, (a2.2.2.1, a2.2.2.2))), ((b3.1, (b3.2.1, (b3.2.2.1, b3.2.2.2))), @Unit.unit)), @Unit.unit)))
noncomputable def ref18_Same_L4_R (N : Nat) (c : ((((Bool) × ((Int) × ((List ((Int) × (List (Int)))) × (List (Int))))) × (((Bool) × ((Int) × ((List ((Int) × (List (Int)))) × (List (Int))))) × ((Int) × Unit))) × Unit)) : Option (((((Bool) × Unit) × Unit) ⊕ ((((Bool) × ((Int) × ((List ((Int) × (List (Int)))) × (List (Int))))) × (((Bool) × ((Int) × ((List ((Int) × (List (Int)))) × (List (Int))))) × Unit)) × Unit))) := gl (fun X c => ref18_Same_L4 N X c.1.1 c.1.2.1 c.1.2.2.1) N c
theorem ref18_Same_L4_S (N : Nat) (X : ((((Bool) × ((Int) × ((List ((Int) × (List (Int)))) × (List (Int))))) × (((Bool) × ((Int) × ((List ((Int) × (List (Int)))) × (List (Int))))) × ((Int) × Unit))) × Unit) → Option (((((Bool) × Unit) × Unit) ⊕ ((((Bool) × ((Int) × ((List ((Int) × (List (Int)))) × (List (Int))))) × (((Bool) × ((Int) × ((List ((Int) × (List (Int)))) × (List (Int))))) × Unit)) × Unit)))) (a2 : (Bool) × ((Int) × ((List ((Int) × (List (Int)))) × (List (Int))))) (b3 : (Bool) × ((Int) × ((List ((Int) × (List (Int)))) × (List (Int))))) (i5 : Int) : (roundK Go.Proofs.Try.prog (Ev84 N) 400 [26] ref18_Same_L4_I (loopAt Go.Proofs.Try.prog [26] 4) X ((a2, b3, i5, ()), ())).run = ref18_Same_L4 N X a2 b3 i5 := by kernel_rfl
noncomputable def Ev85 (N : Nat) : (R : Type) → Env R := Env.addLp (Ev84 N) [26] 0 4 (fun R => lpK Go.Proofs.Try.prog ref18_Same_L4_I (fun X c => ref18_Same_L4 N X c.1.1 c.1.2.1 c.1.2.2.1) N)
theorem Ev85_ok (N : Nat) (R : Type) : EnvOK Go.Proofs.Try.prog (Ev85 N R) := EnvOK.addLp (Ev84_ok N R) (by kernel_rfl) (lpK_ok (li := ref18_Same_L4_I) (G := fun X c => ref18_Same_L4 N X c.1.1 c.1.2.1 c.1.2.2.1) hmx (Ev84_ok N _) (by kernel_rfl) loopAt_sub (fun (X : CT ref18_Same_L4_I.sh → Option (OT ref18_Same_L4_I.outs)) (c : CT ref18_Same_L4_I.sh) => ref18_Same_L4_S N X c.1.1 c.1.2.1 c.1.2.2.1) N)
noncomputable def ref18_Same (N : Nat) (a0 : (Bool) × ((Int) × ((List ((Int) × (List (Int)))) × (List (Int))))) (b1 : (Bool) × ((Int) × ((List ((Int) × (List (Int)))) × (List (Int))))) : Option (Bool) :=
 bif (!(decide ((((List.length a0.2.2.1) : Nat) : Int) = (((List.length b1.2.2.1) : Nat) : Int)))) then
  some (@Bool.false)
 else
  Option.bind (ref18_Same_L4_R N (((a0.1, (a0.2.1, (a0.2.2.1, a0.2.2.2))), ((b1.1, (b1.2.1, (b1.2.2.1, b1.2.2.2))), ((0 : Int), @Unit.unit))), @Unit.unit)) fun (v3 : (((Bool × Unit) × Unit) ⊕ (((Bool × (Int × ((List (Int × (List Int))) × (List Int)))) × ((Bool × (Int × ((List (Int × (List Int))) × (List Int)))) × Unit)) × Unit))) =>
  Sum.elim
   (fun (v4 : ((Bool × Unit) × Unit)) =>
   some (v4.1.1))
   (fun (v4 : (((Bool × (Int × ((List (Int × (List Int))) × (List Int)))) × ((Bool × (Int × ((List (Int × (List Int))) × (List Int)))) × Unit)) × Unit)) =>
   bif (@BEq.beq Bool (@instBEqOfDecidableEq Bool @instDecidableEqBool) v4.1.1.1 v4.1.2.1.1) then
    bif (@cond Bool @Bool.true (decide (v4.1.1.2.1 = v4.1.2.1.2.1)) @Bool.false) then
     Option.bind (@ref01_Same N v4.1.1.2.2.2 v4.1.2.1.2.2.2) fun (v5 : Bool) =>
     some ((@cond Bool @Bool.true v5 @Bool.false))
    else
     some (@Bool.false)
   else
    some (@Bool.false)) v3
theorem ref18_Same_S (N : Nat) (a0 : (Bool) × ((Int) × ((List ((Int) × (List (Int)))) × (List (Int))))) (b1 : (Bool) × ((Int) × ((List ((Int) × (List (Int)))) × (List (Int))))) : (runK Go.Proofs.Try.prog (Ev85 N) 400 26 [(.pair .bool (.pair (.int .u16) (.pair (.sl (.pair (.int .u8) (.sl (.int .u8)))) (.sl (.int .u8))))), (.pair .bool (.pair (.int .u16) (.pair (.sl (.pair (.int .u8) (.sl (.int .u8)))) (.sl (.int .u8)))))] [.bool] (a0, b1, ())).run = ref18_Same N a0 b1 := by kernel_rfl
theorem ref18_Same_C (N : Nat) (a0 : (Bool) × ((Int) × ((List ((Int) × (List (Int)))) × (List (Int))))) (b1 : (Bool) × ((Int) × ((List ((Int) × (List (Int)))) × (List (Int))))) (y : Bool) (h : ref18_Same N a0 b1 = some y) : CallsK Go.Proofs.Try.prog 26 (valA [(.pair .bool (.pair (.int .u16) (.pair (.sl (.pair (.int .u8) (.sl (.int .u8)))) (.sl (.int .u8))))), (.pair .bool (.pair (.int .u16) (.pair (.sl (.pair (.int .u8) (.sl (.int .u8)))) (.sl (.int .u8)))))] (a0, b1, ())) (tupV (valR [.bool] y)) := runK_ok hmx (Ev85_ok N _) (okFn_ok (by kernel_rfl)) (by rw [ref18_Same_S]; exact h)
noncomputable def Ev86 (N : Nat) : (R : Type) → Env R := Env.addFn (Ev85 N) 26 (fun R => fnK [(.pair .bool (.pair (.int .u16) (.pair (.sl (.pair (.int .u8) (.sl (.int .u8)))) (.sl (.int .u8))))), (.pair .bool (.pair (.int .u16) (.pair (.sl (.pair (.int .u8) (.sl (.int .u8)))) (.sl (.int .u8)))))] [.bool] (fun c => ref18_Same N c.1 c.2.1))
theorem Ev86_ok (N : Nat) (R : Type) : EnvOK Go.Proofs.Try.prog (Ev86 N R) := EnvOK.addFn hmx (Ev85_ok N R) (Ev85_ok N _) (by kernel_rfl) (fun c => ref18_Same_S N c.1 c.2.1)
noncomputable def Ev87 (N : Nat) : (R : Type) → Env R := Env.addMv (Ev86 N) [(16, 5)]
theorem Ev87_ok (N : Nat) (R : Type) : EnvOK Go.Proofs.Try.prog (Ev87 N R) := EnvOK.addMv (Ev86_ok N R) [(16, 5)]
noncomputable def Ev88 (N : Nat) : (R : Type) → Env R := Env.addBx (Ev87 N) [(16, 0)]
theorem Ev88_ok (N : Nat) (R : Type) : EnvOK Go.Proofs.Try.prog (Ev88 N R) := EnvOK.addBx (Ev87_ok N R) [(16, 0)]
noncomputable def law18_theirs_L3_I : LI := ⟨32, 0, [], ⟨[(2, .lit (.box 0 0)), (3, .lit (.box 1 0)), (14, .ty (.sl (.pair (.int .u8) (.sl (.int .u8))))), (15, .ty (.int .i64)), (16, .ty (.int .i64))], [.boxp 34 [.ty .bool, .ty (.int .u16), .own 2, .ty (.sl (.int .u8))], .boxp 34 [.ty .bool, .ty (.int .u16), .own 3, .ty (.sl (.int .u8))], .own (.pair (.int .u8) (.sl (.int .u8))) 107, .own (.pair (.int .u8) (.sl (.int .u8))) 107]⟩, [(.exit 0, ⟨[(2, .lit (.box 0 0)), (3, .lit (.box 1 0))], [.boxp 34 [.ty .bool, .ty (.int .u16), .own 2, .ty (.sl (.int .u8))], .boxp 34 [.ty .bool, .ty (.int .u16), .own 3, .ty (.sl (.int .u8))], .own (.pair (.int .u8) (.sl (.int .u8))) 107, .own (.pair (.int .u8) (.sl (.int .u8))) 107]⟩)]⟩
noncomputable def law18_theirs_L3 (N : Nat) (X : (((List ((Int) × (List (Int)))) × ((Int) × ((Int) × Unit))) × ((Bool) × ((Int) × ((List (Int)) × ((Bool) × ((Int) × ((List (Int)) × ((List ((Int) × (List (Int)))) × ((List ((Int) × (List (Int)))) × Unit))))))))) → Option ((Unit × ((Bool) × ((Int) × ((List (Int)) × ((Bool) × ((Int) × ((List (Int)) × ((List ((Int) × (List (Int)))) × ((List ((Int) × (List (Int)))) × Unit))))))))))) (x14 : List ((Int) × (List (Int)))) (x15 : Int) (x16 : Int) (h0 : Bool) (h1 : Int) (h2 : List (Int)) (h3 : Bool) (h4 : Int) (h5 : List (Int)) (h6 : List ((Int) × (List (Int)))) (h7 : List ((Int) × (List (Int)))) : Option ((Unit × ((Bool) × ((Int) × ((List (Int)) × ((Bool) × ((Int) × ((List (Int)) × ((List ((Int) × (List (Int)))) × ((List ((Int) × (List (Int)))) × Unit)))))))))) :=
 bif (decide (x16 < x15)) then
  Option.bind (getI x14 x16) fun (v13 : (Int × (List Int))) =>
  bif (roomB ((List.length h7) + (List.length ([(v13.1, v13.2)] : List ((Int × (List Int)))))) 32) then
   (X ((x14, (x15, ((Go.IntKind.wrap .i64 (x16 + (1 : Int))), @Unit.unit))), (h0, (h1, (h2, (h3, (h4, (h5, (h6, ((h7 ++ ([(v13.1, v13.2)] : List ((Int × (List Int))))), @Unit.unit))))))))))
  else
   none
 else
  some ((@Unit.unit, (h0, (h1, (h2, (h3, (h4, (h5, (h6, (h7, @Unit.unit))))))))))
noncomputable def law18_theirs_L3_R (N : Nat) (c : (((List ((Int) × (List (Int)))) × ((Int) × ((Int) × Unit))) × ((Bool) × ((Int) × ((List (Int)) × ((Bool) × ((Int) × ((List (Int)) × ((List ((Int) × (List (Int)))) × ((List ((Int) × (List (Int)))) × Unit)))))))))) : Option ((Unit × ((Bool) × ((Int) × ((List (Int)) × ((Bool) × ((Int) × ((List (Int)) × ((List ((Int) × (List (Int)))) × ((List ((Int) × (List (Int)))) × Unit)))))))))) := gl (fun X c => law18_theirs_L3 N X c.1.1 c.1.2.1 c.1.2.2.1 c.2.1 c.2.2.1 c.2.2.2.1 c.2.2.2.2.1 c.2.2.2.2.2.1 c.2.2.2.2.2.2.1 c.2.2.2.2.2.2.2.1 c.2.2.2.2.2.2.2.2.1) N c
theorem law18_theirs_L3_S (N : Nat) (X : (((List ((Int) × (List (Int)))) × ((Int) × ((Int) × Unit))) × ((Bool) × ((Int) × ((List (Int)) × ((Bool) × ((Int) × ((List (Int)) × ((List ((Int) × (List (Int)))) × ((List ((Int) × (List (Int)))) × Unit))))))))) → Option ((Unit × ((Bool) × ((Int) × ((List (Int)) × ((Bool) × ((Int) × ((List (Int)) × ((List ((Int) × (List (Int)))) × ((List ((Int) × (List (Int)))) × Unit))))))))))) (x14 : List ((Int) × (List (Int)))) (x15 : Int) (x16 : Int) (h0 : Bool) (h1 : Int) (h2 : List (Int)) (h3 : Bool) (h4 : Int) (h5 : List (Int)) (h6 : List ((Int) × (List (Int)))) (h7 : List ((Int) × (List (Int)))) : (roundK Go.Proofs.Try.prog (Ev88 N) 400 [16] law18_theirs_L3_I (loopAt Go.Proofs.Try.prog [16] 3) X ((x14, x15, x16, ()), (h0, h1, h2, h3, h4, h5, h6, h7, ()))).run = law18_theirs_L3 N X x14 x15 x16 h0 h1 h2 h3 h4 h5 h6 h7 := by kernel_rfl
noncomputable def Ev89 (N : Nat) : (R : Type) → Env R := Env.addLp (Ev88 N) [16] 0 3 (fun R => lpK Go.Proofs.Try.prog law18_theirs_L3_I (fun X c => law18_theirs_L3 N X c.1.1 c.1.2.1 c.1.2.2.1 c.2.1 c.2.2.1 c.2.2.2.1 c.2.2.2.2.1 c.2.2.2.2.2.1 c.2.2.2.2.2.2.1 c.2.2.2.2.2.2.2.1 c.2.2.2.2.2.2.2.2.1) N)
theorem Ev89_ok (N : Nat) (R : Type) : EnvOK Go.Proofs.Try.prog (Ev89 N R) := EnvOK.addLp (Ev88_ok N R) (by kernel_rfl) (lpK_ok (li := law18_theirs_L3_I) (G := fun X c => law18_theirs_L3 N X c.1.1 c.1.2.1 c.1.2.2.1 c.2.1 c.2.2.1 c.2.2.2.1 c.2.2.2.2.1 c.2.2.2.2.2.1 c.2.2.2.2.2.2.1 c.2.2.2.2.2.2.2.1 c.2.2.2.2.2.2.2.2.1) hmx (Ev88_ok N _) (by kernel_rfl) loopAt_sub (fun (X : CT law18_theirs_L3_I.sh → Option (OT law18_theirs_L3_I.outs)) (c : CT law18_theirs_L3_I.sh) => law18_theirs_L3_S N X c.1.1 c.1.2.1 c.1.2.2.1 c.2.1 c.2.2.1 c.2.2.2.1 c.2.2.2.2.1 c.2.2.2.2.2.1 c.2.2.2.2.2.2.1 c.2.2.2.2.2.2.2.1 c.2.2.2.2.2.2.2.2.1) N)
noncomputable def law18_theirs (N : Nat) (p0 : (Bool) × ((Int) × ((List ((Int) × (List (Int)))) × (List (Int))))) : Option ((Bool) × ((Int) × ((List ((Int) × (List (Int)))) × (List (Int))))) :=
 Option.bind (law18_theirs_L3_R N ((p0.2.2.1, ((((List.length p0.2.2.1) : Nat) : Int), ((0 : Int), @Unit.unit))), (@Bool.false, ((0 : Int), (([] : List (Int)), (p0.1, (p0.2.1, (p0.2.2.2, (([] : List ((Int × (List Int)))), (([] : List ((Int × (List Int)))), @Unit.unit)))))))))) fun (v2 : (Unit × (Bool × (Int × ((List Int) × (Bool × (Int × ((List Int) × ((List (Int × (List Int))) × ((List (Int × (List Int))) × Unit)))))))))) =>
 some (((v2.2.2.2).snd.1, ((v2.2.2.2).snd.2.1, (((v2.2.2.2).snd.2.2).snd.2.1, (v2.2.2.2).snd.2.2.1))))
theorem law18_theirs_S (N : Nat) (p0 : (Bool) × ((Int) × ((List ((Int) × (List (Int)))) × (List (Int))))) : (runK Go.Proofs.Try.prog (Ev89 N) 400 16 [(.pair .bool (.pair (.int .u16) (.pair (.sl (.pair (.int .u8) (.sl (.int .u8)))) (.sl (.int .u8)))))] [(.pair .bool (.pair (.int .u16) (.pair (.sl (.pair (.int .u8) (.sl (.int .u8)))) (.sl (.int .u8)))))] (p0, ())).run = law18_theirs N p0 := by kernel_rfl
theorem law18_theirs_C (N : Nat) (p0 : (Bool) × ((Int) × ((List ((Int) × (List (Int)))) × (List (Int))))) (y : (Bool) × ((Int) × ((List ((Int) × (List (Int)))) × (List (Int))))) (h : law18_theirs N p0 = some y) : CallsK Go.Proofs.Try.prog 16 (valA [(.pair .bool (.pair (.int .u16) (.pair (.sl (.pair (.int .u8) (.sl (.int .u8)))) (.sl (.int .u8)))))] (p0, ())) (tupV (valR [(.pair .bool (.pair (.int .u16) (.pair (.sl (.pair (.int .u8) (.sl (.int .u8)))) (.sl (.int .u8)))))] y)) := runK_ok hmx (Ev89_ok N _) (okFn_ok (by kernel_rfl)) (by rw [law18_theirs_S]; exact h)
noncomputable def Ev90 (N : Nat) : (R : Type) → Env R := Env.addFn (Ev89 N) 16 (fun R => fnK [(.pair .bool (.pair (.int .u16) (.pair (.sl (.pair (.int .u8) (.sl (.int .u8)))) (.sl (.int .u8)))))] [(.pair .bool (.pair (.int .u16) (.pair (.sl (.pair (.int .u8) (.sl (.int .u8)))) (.sl (.int .u8)))))] (fun c => law18_theirs N c.1))
theorem Ev90_ok (N : Nat) (R : Type) : EnvOK Go.Proofs.Try.prog (Ev90 N R) := EnvOK.addFn hmx (Ev89_ok N R) (Ev89_ok N _) (by kernel_rfl) (fun c => law18_theirs_S N c.1)
noncomputable def Ev91 (N : Nat) : (R : Type) → Env R := Env.addBx (Ev90 N) [(13, 0)]
theorem Ev91_ok (N : Nat) (R : Type) : EnvOK Go.Proofs.Try.prog (Ev91 N R) := EnvOK.addBx (Ev90_ok N R) [(13, 0)]
noncomputable def law18_far_L2_I : LI := ⟨32, 0, [], ⟨[(1, .adr (.pair .bool (.pair (.int .u16) (.pair (.sl (.pair (.int .u8) (.sl (.int .u8)))) (.sl (.int .u8)))))), (11, .ty (.sl (.pair (.int .u8) (.sl (.int .u8))))), (12, .ty (.int .i64)), (13, .ty (.int .i64))], []⟩, [(.ret, ⟨[(2, .ty .bool)], []⟩), (.exit 0, ⟨[(1, .adr (.pair .bool (.pair (.int .u16) (.pair (.sl (.pair (.int .u8) (.sl (.int .u8)))) (.sl (.int .u8))))))], []⟩)]⟩
noncomputable def law18_far_L2 (N : Nat) (X : ((((Bool) × ((Int) × ((List ((Int) × (List (Int)))) × (List (Int))))) × ((List ((Int) × (List (Int)))) × ((Int) × ((Int) × Unit)))) × Unit) → Option (((((Bool) × Unit) × Unit) ⊕ ((((Bool) × ((Int) × ((List ((Int) × (List (Int)))) × (List (Int))))) × Unit) × Unit)))) (p1 : (Bool) × ((Int) × ((List ((Int) × (List (Int)))) × (List (Int))))) (x11 : List ((Int) × (List (Int)))) (x12 : Int) (x13 : Int) : Option (((((Bool) × Unit) × Unit) ⊕ ((((Bool) × ((Int) × ((List ((Int) × (List (Int)))) × (List (Int))))) × Unit) × Unit))) :=
 bif (decide (x13 < x12)) then
  Option.bind (getI x11 x13) fun (v6 : (Int × (List Int))) =>
  bif (decide ((4200 : Int) < (((List.length v6.2) : Nat) : Int))) then
   some ((.inl ((@Bool.true, @Unit.unit), @Unit.unit)))
  else
   (X (((p1.1, (p1.2.1, (p1.2.2.1, p1.2.2.2))), (x11, (x12, ((Go.IntKind.wrap .i64 (x13 + (1 : Int))), @Unit.unit)))), @Unit.unit))
 else
  some ((.inr (((p1.1, (p1.2.1, (p1.2.2.1, p1.2.2.2))), @Unit.unit), @Unit.unit)))
noncomputable def law18_far_L2_R (N : Nat) (c : ((((Bool) × ((Int) × ((List ((Int) × (List (Int)))) × (List (Int))))) × ((List ((Int) × (List (Int)))) × ((Int) × ((Int) × Unit)))) × Unit)) : Option (((((Bool) × Unit) × Unit) ⊕ ((((Bool) × ((Int) × ((List ((Int) × (List (Int)))) × (List (Int))))) × Unit) × Unit))) := gl (fun X c => law18_far_L2 N X c.1.1 c.1.2.1 c.1.2.2.1 c.1.2.2.2.1) N c
theorem law18_far_L2_S (N : Nat) (X : ((((Bool) × ((Int) × ((List ((Int) × (List (Int)))) × (List (Int))))) × ((List ((Int) × (List (Int)))) × ((Int) × ((Int) × Unit)))) × Unit) → Option (((((Bool) × Unit) × Unit) ⊕ ((((Bool) × ((Int) × ((List ((Int) × (List (Int)))) × (List (Int))))) × Unit) × Unit)))) (p1 : (Bool) × ((Int) × ((List ((Int) × (List (Int)))) × (List (Int))))) (x11 : List ((Int) × (List (Int)))) (x12 : Int) (x13 : Int) : (roundK Go.Proofs.Try.prog (Ev91 N) 400 [13] law18_far_L2_I (loopAt Go.Proofs.Try.prog [13] 2) X ((p1, x11, x12, x13, ()), ())).run = law18_far_L2 N X p1 x11 x12 x13 := by kernel_rfl
noncomputable def Ev92 (N : Nat) : (R : Type) → Env R := Env.addLp (Ev91 N) [13] 0 2 (fun R => lpK Go.Proofs.Try.prog law18_far_L2_I (fun X c => law18_far_L2 N X c.1.1 c.1.2.1 c.1.2.2.1 c.1.2.2.2.1) N)
theorem Ev92_ok (N : Nat) (R : Type) : EnvOK Go.Proofs.Try.prog (Ev92 N R) := EnvOK.addLp (Ev91_ok N R) (by kernel_rfl) (lpK_ok (li := law18_far_L2_I) (G := fun X c => law18_far_L2 N X c.1.1 c.1.2.1 c.1.2.2.1 c.1.2.2.2.1) hmx (Ev91_ok N _) (by kernel_rfl) loopAt_sub (fun (X : CT law18_far_L2_I.sh → Option (OT law18_far_L2_I.outs)) (c : CT law18_far_L2_I.sh) => law18_far_L2_S N X c.1.1 c.1.2.1 c.1.2.2.1 c.1.2.2.2.1) N)
noncomputable def law18_far (N : Nat) (p0 : (Bool) × ((Int) × ((List ((Int) × (List (Int)))) × (List (Int))))) : Option (Bool) :=
 Option.bind (takeI p0.2.2.1 (@minI (((List.length p0.2.2.1) : Nat) : Int) (12 : Int))) fun (v2 : (List (Int × (List Int)))) =>
 Option.bind (law18_far_L2_R N (((p0.1, (p0.2.1, (p0.2.2.1, p0.2.2.2))), (v2, ((((List.length v2) : Nat) : Int), ((0 : Int), @Unit.unit)))), @Unit.unit)) fun (v3 : (((Bool × Unit) × Unit) ⊕ (((Bool × (Int × ((List (Int × (List Int))) × (List Int)))) × Unit) × Unit))) =>
 Sum.elim
  (fun (v4 : ((Bool × Unit) × Unit)) =>
  some (v4.1.1))
  (fun (v4 : (((Bool × (Int × ((List (Int × (List Int))) × (List Int)))) × Unit) × Unit)) =>
  bif (decide ((12 : Int) < (((List.length v4.1.1.2.2.1) : Nat) : Int))) then
   some (@Bool.true)
  else
   some ((@cond Bool @Bool.false @Bool.true (decide ((5000 : Int) < (((List.length v4.1.1.2.2.2) : Nat) : Int)))))) v3
theorem law18_far_S (N : Nat) (p0 : (Bool) × ((Int) × ((List ((Int) × (List (Int)))) × (List (Int))))) : (runK Go.Proofs.Try.prog (Ev92 N) 400 13 [(.pair .bool (.pair (.int .u16) (.pair (.sl (.pair (.int .u8) (.sl (.int .u8)))) (.sl (.int .u8)))))] [.bool] (p0, ())).run = law18_far N p0 := by kernel_rfl
theorem law18_far_C (N : Nat) (p0 : (Bool) × ((Int) × ((List ((Int) × (List (Int)))) × (List (Int))))) (y : Bool) (h : law18_far N p0 = some y) : CallsK Go.Proofs.Try.prog 13 (valA [(.pair .bool (.pair (.int .u16) (.pair (.sl (.pair (.int .u8) (.sl (.int .u8)))) (.sl (.int .u8)))))] (p0, ())) (tupV (valR [.bool] y)) := runK_ok hmx (Ev92_ok N _) (okFn_ok (by kernel_rfl)) (by rw [law18_far_S]; exact h)
noncomputable def Ev93 (N : Nat) : (R : Type) → Env R := Env.addFn (Ev92 N) 13 (fun R => fnK [(.pair .bool (.pair (.int .u16) (.pair (.sl (.pair (.int .u8) (.sl (.int .u8)))) (.sl (.int .u8)))))] [.bool] (fun c => law18_far N c.1))
theorem Ev93_ok (N : Nat) (R : Type) : EnvOK Go.Proofs.Try.prog (Ev93 N R) := EnvOK.addFn hmx (Ev92_ok N R) (Ev92_ok N _) (by kernel_rfl) (fun c => law18_far_S N c.1)
noncomputable def law18_alive (N : Nat) : Option (Bool) :=
 Option.bind (@packet_Of N (8 : Int) ([] : List ((Int × (List Int))))) fun (v1 : (Bool × (Int × ((List (Int × (List Int))) × (List Int))))) =>
 Option.bind (@packet_Lay N (v1.1, (v1.2.1, (v1.2.2.1, v1.2.2.2)))) fun (v2 : ((List Int) × Int)) =>
 Option.bind (@packet_Parse N v2.1) fun (v3 : ((Bool × (Int × ((List (Int × (List Int))) × (List Int)))) × Int)) =>
 Option.bind (@packet_Length N v2.1) fun (v4 : (Int × Int)) =>
 Option.bind (@packet_Lay N (@Bool.false, ((0 : Int), (([] : List ((Int × (List Int)))), ([(120 : Int)] : List (Int)))))) fun (v5 : ((List Int) × Int)) =>
 Option.bind (@toBy v2.1) fun (v6 : (List UInt8)) =>
 bif (decide (v6 = (@Array.toList UInt8 (@List.toArray UInt8 ([(@OfNat.ofNat UInt8 (16 : Nat) (@UInt8.instOfNat (16 : Nat))), (@OfNat.ofNat UInt8 (1 : Nat) (@UInt8.instOfNat (1 : Nat))), (@OfNat.ofNat UInt8 (0 : Nat) (@UInt8.instOfNat (0 : Nat))), (@OfNat.ofNat UInt8 (8 : Nat) (@UInt8.instOfNat (8 : Nat))), (@OfNat.ofNat UInt8 (0 : Nat) (@UInt8.instOfNat (0 : Nat))), (@OfNat.ofNat UInt8 (8 : Nat) (@UInt8.instOfNat (8 : Nat))), (@OfNat.ofNat UInt8 (0 : Nat) (@UInt8.instOfNat (0 : Nat))), (@OfNat.ofNat UInt8 (0 : Nat) (@UInt8.instOfNat (0 : Nat)))] : List (UInt8)))))) then
  bif (@cond Bool @Bool.true (decide (v2.2 = (0 : Int))) @Bool.false) then
   Option.bind (@packet_Same N (v1.1, (v1.2.1, (v1.2.2.1, v1.2.2.2))) (v3.1.1, (v3.1.2.1, (v3.1.2.2.1, v3.1.2.2.2)))) fun (v7 : Bool) =>
   bif (@cond Bool @Bool.true v7 @Bool.false) then
    bif (@cond Bool @Bool.true (decide (v3.2 = (0 : Int))) @Bool.false) then
     bif (@cond Bool @Bool.true (decide (v4.1 = (8 : Int))) @Bool.false) then
      bif (@cond Bool @Bool.true (decide (v4.2 = (0 : Int))) @Bool.false) then
       bif (@cond Bool @Bool.true (decide ((((List.length v5.1) : Nat) : Int) = (5 : Int))) @Bool.false) then
        bif (@cond Bool @Bool.true (decide (v5.2 = (0 : Int))) @Bool.false) then
         Option.bind (@packet_Check N (v1.1, (v1.2.1, (v1.2.2.1, v1.2.2.2)))) fun (v8 : Int) =>
         some ((@cond Bool @Bool.true (decide (v8 = (0 : Int))) @Bool.false))
        else
         some (@Bool.false)
       else
        some (@Bool.false)
      else
       some (@Bool.false)
     else
      some (@Bool.false)
    else
     some (@Bool.false)
   else
    some (@Bool.false)
  else
   some (@Bool.false)
 else
  some (@Bool.false)
theorem law18_alive_S (N : Nat) : (runK Go.Proofs.Try.prog (Ev93 N) 400 14 [] [.bool] ()).run = law18_alive N  := by kernel_rfl
theorem law18_alive_C (N : Nat) (y : Bool) (h : law18_alive N  = some y) : CallsK Go.Proofs.Try.prog 14 (valA [] ()) (tupV (valR [.bool] y)) := runK_ok hmx (Ev93_ok N _) (okFn_ok (by kernel_rfl)) (by rw [law18_alive_S]; exact h)
noncomputable def Ev94 (N : Nat) : (R : Type) → Env R := Env.addFn (Ev93 N) 14 (fun R => fnK [] [.bool] (fun c => law18_alive N ))
theorem Ev94_ok (N : Nat) (R : Type) : EnvOK Go.Proofs.Try.prog (Ev94 N R) := EnvOK.addFn hmx (Ev93_ok N R) (Ev93_ok N _) (by kernel_rfl) (fun c => law18_alive_S N )
noncomputable def Ev95 (N : Nat) : (R : Type) → Env R := Env.addBx (Ev94 N) [(3, 0)]
theorem Ev95_ok (N : Nat) (R : Type) : EnvOK Go.Proofs.Try.prog (Ev95 N R) := EnvOK.addBx (Ev94_ok N R) [(3, 0)]
noncomputable def law18_PacketLays (N : Nat) (p0 : (Bool) × ((Int) × ((List ((Int) × (List (Int)))) × (List (Int))))) : Option (Bool) :=
 Option.bind (@law18_far N (p0.1, (p0.2.1, (p0.2.2.1, p0.2.2.2)))) fun (v2 : Bool) =>
 bif v2 then
  Option.bind (@law18_alive N) fun (v3 : Bool) =>
  some (v3)
 else
  Option.bind (@law18_theirs N (p0.1, (p0.2.1, (p0.2.2.1, p0.2.2.2)))) fun (v3 : (Bool × (Int × ((List (Int × (List Int))) × (List Int))))) =>
  Option.bind (@packet_Lay N (v3.1, (v3.2.1, (v3.2.2.1, v3.2.2.2)))) fun (v4 : ((List Int) × Int)) =>
  Option.bind (@ref18_Lay N (p0.1, (p0.2.1, (p0.2.2.1, p0.2.2.2)))) fun (v5 : ((List Int) × Int)) =>
  Option.bind (@ref01_Same N v4.1 v5.1) fun (v6 : Bool) =>
  bif v6 then
   bif (@cond Bool @Bool.true (decide (v4.2 = v5.2)) @Bool.false) then
    Option.bind (@law18_theirs N (p0.1, (p0.2.1, (p0.2.2.1, p0.2.2.2)))) fun (v7 : (Bool × (Int × ((List (Int × (List Int))) × (List Int))))) =>
    Option.bind (@packet_Check N (v7.1, (v7.2.1, (v7.2.2.1, v7.2.2.2)))) fun (v8 : Int) =>
    Option.bind (@ref18_Check N (p0.1, (p0.2.1, (p0.2.2.1, p0.2.2.2)))) fun (v9 : Int) =>
    bif (@cond Bool @Bool.true (decide (v8 = v9)) @Bool.false) then
     Option.bind (@law18_alive N) fun (v10 : Bool) =>
     some ((@cond Bool @Bool.true v10 @Bool.false))
    else
     some (@Bool.false)
   else
    some (@Bool.false)
  else
   some (@Bool.false)
theorem law18_PacketLays_S (N : Nat) (p0 : (Bool) × ((Int) × ((List ((Int) × (List (Int)))) × (List (Int))))) : (runK Go.Proofs.Try.prog (Ev95 N) 400 3 [(.pair .bool (.pair (.int .u16) (.pair (.sl (.pair (.int .u8) (.sl (.int .u8)))) (.sl (.int .u8)))))] [.bool] (p0, ())).run = law18_PacketLays N p0 := by kernel_rfl
theorem law18_PacketLays_C (N : Nat) (p0 : (Bool) × ((Int) × ((List ((Int) × (List (Int)))) × (List (Int))))) (y : Bool) (h : law18_PacketLays N p0 = some y) : CallsK Go.Proofs.Try.prog 3 (valA [(.pair .bool (.pair (.int .u16) (.pair (.sl (.pair (.int .u8) (.sl (.int .u8)))) (.sl (.int .u8)))))] (p0, ())) (tupV (valR [.bool] y)) := runK_ok hmx (Ev95_ok N _) (okFn_ok (by kernel_rfl)) (by rw [law18_PacketLays_S]; exact h)
noncomputable def Ev96 (N : Nat) : (R : Type) → Env R := Env.addFn (Ev95 N) 3 (fun R => fnK [(.pair .bool (.pair (.int .u16) (.pair (.sl (.pair (.int .u8) (.sl (.int .u8)))) (.sl (.int .u8)))))] [.bool] (fun c => law18_PacketLays N c.1))
theorem Ev96_ok (N : Nat) (R : Type) : EnvOK Go.Proofs.Try.prog (Ev96 N R) := EnvOK.addFn hmx (Ev95_ok N R) (Ev95_ok N _) (by kernel_rfl) (fun c => law18_PacketLays_S N c.1)
noncomputable def law18_PacketParses (N : Nat) (b0 : List (Int)) : Option (Bool) :=
 bif (decide ((5000 : Int) < (((List.length b0) : Nat) : Int))) then
  Option.bind (@law18_alive N) fun (v2 : Bool) =>
  some (v2)
 else
  Option.bind (@packet_Parse N b0) fun (v2 : ((Bool × (Int × ((List (Int × (List Int))) × (List Int)))) × Int)) =>
  Option.bind (@ref18_Parse N b0) fun (v3 : ((Bool × (Int × ((List (Int × (List Int))) × (List Int)))) × Int)) =>
  Option.bind (@packet_Length N b0) fun (v4 : (Int × Int)) =>
  Option.bind (@ref18_Length N b0) fun (v5 : (Int × Int)) =>
  Option.bind (@law18_theirs N (v3.1.1, (v3.1.2.1, (v3.1.2.2.1, v3.1.2.2.2)))) fun (v6 : (Bool × (Int × ((List (Int × (List Int))) × (List Int))))) =>
  Option.bind (@packet_Same N (v2.1.1, (v2.1.2.1, (v2.1.2.2.1, v2.1.2.2.2))) (v6.1, (v6.2.1, (v6.2.2.1, v6.2.2.2)))) fun (v7 : Bool) =>
  bif v7 then
   bif (@cond Bool @Bool.true (decide (v2.2 = v3.2)) @Bool.false) then
    bif (@cond Bool @Bool.true (decide (v4.1 = v5.1)) @Bool.false) then
     bif (@cond Bool @Bool.true (decide (v4.2 = v5.2)) @Bool.false) then
      Option.bind (@law18_alive N) fun (v8 : Bool) =>
      some ((@cond Bool @Bool.true v8 @Bool.false))
     else
      some (@Bool.false)
    else
     some (@Bool.false)
   else
    some (@Bool.false)
  else
   some (@Bool.false)
theorem law18_PacketParses_S (N : Nat) (b0 : List (Int)) : (runK Go.Proofs.Try.prog (Ev96 N) 400 4 [(.sl (.int .u8))] [.bool] (b0, ())).run = law18_PacketParses N b0 := by kernel_rfl
theorem law18_PacketParses_C (N : Nat) (b0 : List (Int)) (y : Bool) (h : law18_PacketParses N b0 = some y) : CallsK Go.Proofs.Try.prog 4 (valA [(.sl (.int .u8))] (b0, ())) (tupV (valR [.bool] y)) := runK_ok hmx (Ev96_ok N _) (okFn_ok (by kernel_rfl)) (by rw [law18_PacketParses_S]; exact h)
noncomputable def Ev97 (N : Nat) : (R : Type) → Env R := Env.addFn (Ev96 N) 4 (fun R => fnK [(.sl (.int .u8))] [.bool] (fun c => law18_PacketParses N c.1))
theorem Ev97_ok (N : Nat) (R : Type) : EnvOK Go.Proofs.Try.prog (Ev97 N R) := EnvOK.addFn hmx (Ev96_ok N R) (Ev96_ok N _) (by kernel_rfl) (fun c => law18_PacketParses_S N c.1)
noncomputable def Ev98 (N : Nat) : (R : Type) → Env R := Env.addBx (Ev97 N) [(5, 0)]
theorem Ev98_ok (N : Nat) (R : Type) : EnvOK Go.Proofs.Try.prog (Ev98 N R) := EnvOK.addBx (Ev97_ok N R) [(5, 0)]
noncomputable def law18_PacketBack (N : Nat) (p0 : (Bool) × ((Int) × ((List ((Int) × (List (Int)))) × (List (Int))))) (q1 : (Bool) × ((Int) × ((List ((Int) × (List (Int)))) × (List (Int))))) (b2 : List (Int)) : Option (Bool) :=
 Option.bind (@law18_far N (p0.1, (p0.2.1, (p0.2.2.1, p0.2.2.2)))) fun (v4 : Bool) =>
 bif v4 then
  Option.bind (@law18_alive N) fun (v5 : Bool) =>
  some (v5)
 else
  Option.bind (@law18_far N (q1.1, (q1.2.1, (q1.2.2.1, q1.2.2.2)))) fun (v5 : Bool) =>
  bif (@cond Bool @Bool.false @Bool.true v5) then
   Option.bind (@law18_alive N) fun (v6 : Bool) =>
   some (v6)
  else
   bif (@cond Bool @Bool.false @Bool.true (decide ((5000 : Int) < (((List.length b2) : Nat) : Int)))) then
    Option.bind (@law18_alive N) fun (v6 : Bool) =>
    some (v6)
   else
    Option.bind (@law18_theirs N (p0.1, (p0.2.1, (p0.2.2.1, p0.2.2.2)))) fun (v6 : (Bool × (Int × ((List (Int × (List Int))) × (List Int))))) =>
    Option.bind (@law18_theirs N (q1.1, (q1.2.1, (q1.2.2.1, q1.2.2.2)))) fun (v7 : (Bool × (Int × ((List (Int × (List Int))) × (List Int))))) =>
    Option.bind (@packet_Same N (v6.1, (v6.2.1, (v6.2.2.1, v6.2.2.2))) (v7.1, (v7.2.1, (v7.2.2.1, v7.2.2.2)))) fun (v8 : Bool) =>
    Option.bind (@ref18_Same N (p0.1, (p0.2.1, (p0.2.2.1, p0.2.2.2))) (q1.1, (q1.2.1, (q1.2.2.1, q1.2.2.2)))) fun (v9 : Bool) =>
    bif (!(@BEq.beq Bool (@instBEqOfDecidableEq Bool @instDecidableEqBool) v8 v9)) then
     some (@Bool.false)
    else
     Option.bind (@law18_theirs N (p0.1, (p0.2.1, (p0.2.2.1, p0.2.2.2)))) fun (v10 : (Bool × (Int × ((List (Int × (List Int))) × (List Int))))) =>
     bif p0.1 then
      Option.bind (@law18_theirs N (p0.1, (p0.2.1, (p0.2.2.1, p0.2.2.2)))) fun (v11 : (Bool × (Int × ((List (Int × (List Int))) × (List Int))))) =>
      Option.bind (@packet_Lay N (v11.1, (v11.2.1, (v11.2.2.1, v11.2.2.2)))) fun (v12 : ((List Int) × Int)) =>
      bif (decide (v12.2 = (0 : Int))) then
       Option.bind (@packet_Parse N v12.1) fun (v13 : ((Bool × (Int × ((List (Int × (List Int))) × (List Int)))) × Int)) =>
       Option.bind (@packet_Same N (v13.1.1, (v13.1.2.1, (v13.1.2.2.1, v13.1.2.2.2))) (v10.1, (v10.2.1, (v10.2.2.1, ([] : List (Int)))))) fun (v14 : Bool) =>
       bif (!v14) then
        some (@Bool.false)
       else
        bif (@cond Bool @Bool.false @Bool.true (!(decide (v13.2 = (0 : Int))))) then
         some (@Bool.false)
        else
         Option.bind (@packet_Parse N b2) fun (v15 : ((Bool × (Int × ((List (Int × (List Int))) × (List Int)))) × Int)) =>
         bif (!(decide (v15.2 = (0 : Int)))) then
          Option.bind (@packet_Same N (v15.1.1, (v15.1.2.1, (v15.1.2.2.1, v15.1.2.2.2))) (@Bool.false, ((0 : Int), (([] : List ((Int × (List Int)))), ([] : List (Int)))))) fun (v16 : Bool) =>
          bif v16 then
           Option.bind (@law18_alive N) fun (v17 : Bool) =>
           some ((@cond Bool @Bool.true v17 @Bool.false))
          else
           some (@Bool.false)
         else
          Option.bind (@packet_Lay N (v15.1.1, (v15.1.2.1, (v15.1.2.2.1, v15.1.2.2.2)))) fun (v16 : ((List Int) × Int)) =>
          bif (decide (v16.2 = (0 : Int))) then
           Option.bind (@ref01_Same N v16.1 b2) fun (v17 : Bool) =>
           bif (@cond Bool @Bool.true v17 @Bool.false) then
            Option.bind (@law18_alive N) fun (v18 : Bool) =>
            some ((@cond Bool @Bool.true v18 @Bool.false))
           else
            some (@Bool.false)
          else
           some (@Bool.false)
      else
       Option.bind (@packet_Parse N b2) fun (v13 : ((Bool × (Int × ((List (Int × (List Int))) × (List Int)))) × Int)) =>
       bif (!(decide (v13.2 = (0 : Int)))) then
        Option.bind (@packet_Same N (v13.1.1, (v13.1.2.1, (v13.1.2.2.1, v13.1.2.2.2))) (@Bool.false, ((0 : Int), (([] : List ((Int × (List Int)))), ([] : List (Int)))))) fun (v14 : Bool) =>
        bif v14 then
         Option.bind (@law18_alive N) fun (v15 : Bool) =>
         some ((@cond Bool @Bool.true v15 @Bool.false))
        else
         some (@Bool.false)
       else
        Option.bind (@packet_Lay N (v13.1.1, (v13.1.2.1, (v13.1.2.2.1, v13.1.2.2.2)))) fun (v14 : ((List Int) × Int)) =>
        bif (decide (v14.2 = (0 : Int))) then
         Option.bind (@ref01_Same N v14.1 b2) fun (v15 : Bool) =>
         bif (@cond Bool @Bool.true v15 @Bool.false) then
          Option.bind (@law18_alive N) fun (v16 : Bool) =>
          some ((@cond Bool @Bool.true v16 @Bool.false))
         else
          some (@Bool.false)
        else
         some (@Bool.false)
     else
      Option.bind (@law18_theirs N (p0.1, (p0.2.1, (p0.2.2.1, p0.2.2.2)))) fun (v11 : (Bool × (Int × ((List (Int × (List Int))) × (List Int))))) =>
      Option.bind (@packet_Lay N (v11.1, (v11.2.1, (v11.2.2.1, v11.2.2.2)))) fun (v12 : ((List Int) × Int)) =>
      bif (decide (v12.2 = (0 : Int))) then
       Option.bind (@packet_Parse N v12.1) fun (v13 : ((Bool × (Int × ((List (Int × (List Int))) × (List Int)))) × Int)) =>
       Option.bind (@packet_Same N (v13.1.1, (v13.1.2.1, (v13.1.2.2.1, v13.1.2.2.2))) (v10.1, ((0 : Int), (([] : List ((Int × (List Int)))), v10.2.2.2)))) fun (v14 : Bool) =>
       bif (!v14) then
        some (@Bool.false)
       else
        bif (@cond Bool @Bool.false @Bool.true (!(decide (v13.2 = (0 : Int))))) then
         some (@Bool.false)
        else
         Option.bind (@packet_Parse N b2) fun (v15 : ((Bool × (Int × ((List (Int × (List Int))) × (List Int)))) × Int)) =>
         bif (!(decide (v15.2 = (0 : Int)))) then
          Option.bind (@packet_Same N (v15.1.1, (v15.1.2.1, (v15.1.2.2.1, v15.1.2.2.2))) (@Bool.false, ((0 : Int), (([] : List ((Int × (List Int)))), ([] : List (Int)))))) fun (v16 : Bool) =>
          bif v16 then
           Option.bind (@law18_alive N) fun (v17 : Bool) =>
           some ((@cond Bool @Bool.true v17 @Bool.false))
          else
           some (@Bool.false)
         else
          Option.bind (@packet_Lay N (v15.1.1, (v15.1.2.1, (v15.1.2.2.1, v15.1.2.2.2)))) fun (v16 : ((List Int) × Int)) =>
          bif (decide (v16.2 = (0 : Int))) then
           Option.bind (@ref01_Same N v16.1 b2) fun (v17 : Bool) =>
           bif (@cond Bool @Bool.true v17 @Bool.false) then
            Option.bind (@law18_alive N) fun (v18 : Bool) =>
            some ((@cond Bool @Bool.true v18 @Bool.false))
           else
            some (@Bool.false)
          else
           some (@Bool.false)
      else
       Option.bind (@packet_Parse N b2) fun (v13 : ((Bool × (Int × ((List (Int × (List Int))) × (List Int)))) × Int)) =>
       bif (!(decide (v13.2 = (0 : Int)))) then
        Option.bind (@packet_Same N (v13.1.1, (v13.1.2.1, (v13.1.2.2.1, v13.1.2.2.2))) (@Bool.false, ((0 : Int), (([] : List ((Int × (List Int)))), ([] : List (Int)))))) fun (v14 : Bool) =>
        bif v14 then
         Option.bind (@law18_alive N) fun (v15 : Bool) =>
         some ((@cond Bool @Bool.true v15 @Bool.false))
        else
         some (@Bool.false)
       else
        Option.bind (@packet_Lay N (v13.1.1, (v13.1.2.1, (v13.1.2.2.1, v13.1.2.2.2)))) fun (v14 : ((List Int) × Int)) =>
        bif (decide (v14.2 = (0 : Int))) then
         Option.bind (@ref01_Same N v14.1 b2) fun (v15 : Bool) =>
         bif (@cond Bool @Bool.true v15 @Bool.false) then
          Option.bind (@law18_alive N) fun (v16 : Bool) =>
          some ((@cond Bool @Bool.true v16 @Bool.false))
         else
          some (@Bool.false)
        else
         some (@Bool.false)
theorem law18_PacketBack_S (N : Nat) (p0 : (Bool) × ((Int) × ((List ((Int) × (List (Int)))) × (List (Int))))) (q1 : (Bool) × ((Int) × ((List ((Int) × (List (Int)))) × (List (Int))))) (b2 : List (Int)) : (runK Go.Proofs.Try.prog (Ev98 N) 400 5 [(.pair .bool (.pair (.int .u16) (.pair (.sl (.pair (.int .u8) (.sl (.int .u8)))) (.sl (.int .u8))))), (.pair .bool (.pair (.int .u16) (.pair (.sl (.pair (.int .u8) (.sl (.int .u8)))) (.sl (.int .u8))))), (.sl (.int .u8))] [.bool] (p0, q1, b2, ())).run = law18_PacketBack N p0 q1 b2 := by kernel_rfl
theorem law18_PacketBack_C (N : Nat) (p0 : (Bool) × ((Int) × ((List ((Int) × (List (Int)))) × (List (Int))))) (q1 : (Bool) × ((Int) × ((List ((Int) × (List (Int)))) × (List (Int))))) (b2 : List (Int)) (y : Bool) (h : law18_PacketBack N p0 q1 b2 = some y) : CallsK Go.Proofs.Try.prog 5 (valA [(.pair .bool (.pair (.int .u16) (.pair (.sl (.pair (.int .u8) (.sl (.int .u8)))) (.sl (.int .u8))))), (.pair .bool (.pair (.int .u16) (.pair (.sl (.pair (.int .u8) (.sl (.int .u8)))) (.sl (.int .u8))))), (.sl (.int .u8))] (p0, q1, b2, ())) (tupV (valR [.bool] y)) := runK_ok hmx (Ev98_ok N _) (okFn_ok (by kernel_rfl)) (by rw [law18_PacketBack_S]; exact h)
noncomputable def Ev99 (N : Nat) : (R : Type) → Env R := Env.addFn (Ev98 N) 5 (fun R => fnK [(.pair .bool (.pair (.int .u16) (.pair (.sl (.pair (.int .u8) (.sl (.int .u8)))) (.sl (.int .u8))))), (.pair .bool (.pair (.int .u16) (.pair (.sl (.pair (.int .u8) (.sl (.int .u8)))) (.sl (.int .u8))))), (.sl (.int .u8))] [.bool] (fun c => law18_PacketBack N c.1 c.2.1 c.2.2.1))
theorem Ev99_ok (N : Nat) (R : Type) : EnvOK Go.Proofs.Try.prog (Ev99 N R) := EnvOK.addFn hmx (Ev98_ok N R) (Ev98_ok N _) (by kernel_rfl) (fun c => law18_PacketBack_S N c.1 c.2.1 c.2.2.1)
noncomputable def Ev100 (N : Nat) : (R : Type) → Env R := Env.addBx (Ev99 N) [(6, 0)]
theorem Ev100_ok (N : Nat) (R : Type) : EnvOK Go.Proofs.Try.prog (Ev100 N R) := EnvOK.addBx (Ev99_ok N R) [(6, 0)]
noncomputable def law18_PacketMakes (N : Nat) (kind0 : Int) (p1 : (Bool) × ((Int) × ((List ((Int) × (List (Int)))) × (List (Int))))) : Option (Bool) :=
 Option.bind (@law18_far N (p1.1, (p1.2.1, (p1.2.2.1, p1.2.2.2)))) fun (v3 : Bool) =>
 bif v3 then
  Option.bind (@law18_alive N) fun (v4 : Bool) =>
  some (v4)
 else
  Option.bind (@law18_theirs N (p1.1, (p1.2.1, (p1.2.2.1, p1.2.2.2)))) fun (v4 : (Bool × (Int × ((List (Int × (List Int))) × (List Int))))) =>
  Option.bind (@packet_Of N kind0 v4.2.2.1) fun (v5 : (Bool × (Int × ((List (Int × (List Int))) × (List Int))))) =>
  Option.bind (@packet_OfData N p1.2.2.2) fun (v6 : (Bool × (Int × ((List (Int × (List Int))) × (List Int))))) =>
  Option.bind (@packet_Same N (v5.1, (v5.2.1, (v5.2.2.1, v5.2.2.2))) (@Bool.true, (kind0, (v4.2.2.1, ([] : List (Int)))))) fun (v7 : Bool) =>
  bif v7 then
   Option.bind (@packet_Same N (v6.1, (v6.2.1, (v6.2.2.1, v6.2.2.2))) (@Bool.false, ((0 : Int), (([] : List ((Int × (List Int)))), p1.2.2.2)))) fun (v8 : Bool) =>
   bif (@cond Bool @Bool.true v8 @Bool.false) then
    Option.bind (@packet_Check N (v5.1, (v5.2.1, (v5.2.2.1, v5.2.2.2)))) fun (v9 : Int) =>
    Option.bind (@ref18_Check N (@Bool.true, (kind0, (p1.2.2.1, ([] : List (Int)))))) fun (v10 : Int) =>
    bif (@cond Bool @Bool.true (decide (v9 = v10)) @Bool.false) then
     Option.bind (@packet_Check N (v6.1, (v6.2.1, (v6.2.2.1, v6.2.2.2)))) fun (v11 : Int) =>
     bif (@cond Bool @Bool.true (decide (v11 = (0 : Int))) @Bool.false) then
      Option.bind (@law18_alive N) fun (v12 : Bool) =>
      some ((@cond Bool @Bool.true v12 @Bool.false))
     else
      some (@Bool.false)
    else
     some (@Bool.false)
   else
    some (@Bool.false)
  else
   some (@Bool.false)
theorem law18_PacketMakes_S (N : Nat) (kind0 : Int) (p1 : (Bool) × ((Int) × ((List ((Int) × (List (Int)))) × (List (Int))))) : (runK Go.Proofs.Try.prog (Ev100 N) 400 6 [(.int .u16), (.pair .bool (.pair (.int .u16) (.pair (.sl (.pair (.int .u8) (.sl (.int .u8)))) (.sl (.int .u8)))))] [.bool] (kind0, p1, ())).run = law18_PacketMakes N kind0 p1 := by kernel_rfl
theorem law18_PacketMakes_C (N : Nat) (kind0 : Int) (p1 : (Bool) × ((Int) × ((List ((Int) × (List (Int)))) × (List (Int))))) (y : Bool) (h : law18_PacketMakes N kind0 p1 = some y) : CallsK Go.Proofs.Try.prog 6 (valA [(.int .u16), (.pair .bool (.pair (.int .u16) (.pair (.sl (.pair (.int .u8) (.sl (.int .u8)))) (.sl (.int .u8)))))] (kind0, p1, ())) (tupV (valR [.bool] y)) := runK_ok hmx (Ev100_ok N _) (okFn_ok (by kernel_rfl)) (by rw [law18_PacketMakes_S]; exact h)
noncomputable def Ev101 (N : Nat) : (R : Type) → Env R := Env.addFn (Ev100 N) 6 (fun R => fnK [(.int .u16), (.pair .bool (.pair (.int .u16) (.pair (.sl (.pair (.int .u8) (.sl (.int .u8)))) (.sl (.int .u8)))))] [.bool] (fun c => law18_PacketMakes N c.1 c.2.1))
theorem Ev101_ok (N : Nat) (R : Type) : EnvOK Go.Proofs.Try.prog (Ev101 N R) := EnvOK.addFn hmx (Ev100_ok N R) (Ev100_ok N _) (by kernel_rfl) (fun c => law18_PacketMakes_S N c.1 c.2.1)
noncomputable def Ev102 (N : Nat) : (R : Type) → Env R := Env.addBx (Ev101 N) [(7, 0)]
theorem Ev102_ok (N : Nat) (R : Type) : EnvOK Go.Proofs.Try.prog (Ev102 N R) := EnvOK.addBx (Ev101_ok N R) [(7, 0)]
noncomputable def law18_PacketLength (N : Nat) (p0 : (Bool) × ((Int) × ((List ((Int) × (List (Int)))) × (List (Int))))) (n1 : Int) : Option (Bool) :=
 Option.bind (@law18_far N (p0.1, (p0.2.1, (p0.2.2.1, p0.2.2.2)))) fun (v3 : Bool) =>
 bif v3 then
  Option.bind (@law18_alive N) fun (v4 : Bool) =>
  some (v4)
 else
  Option.bind (@law18_theirs N (p0.1, (p0.2.1, (p0.2.2.1, p0.2.2.2)))) fun (v4 : (Bool × (Int × ((List (Int × (List Int))) × (List Int))))) =>
  Option.bind (@packet_Lay N (v4.1, (v4.2.1, (v4.2.2.1, v4.2.2.2)))) fun (v5 : ((List Int) × Int)) =>
  bif (!(decide (v5.2 = (0 : Int)))) then
   bif (!(decide (v5.2 = (0 : Int)))) then
    bif (@cond Bool @Bool.true (decide ((((List.length v5.1) : Nat) : Int) = (0 : Int))) @Bool.false) then
     Option.bind (@law18_alive N) fun (v6 : Bool) =>
     some ((@cond Bool @Bool.true v6 @Bool.false))
    else
     some (@Bool.false)
   else
    some (@Bool.false)
  else
   bif (@cond Bool @Bool.false @Bool.true (decide ((((List.length v5.1) : Nat) : Int) = (0 : Int)))) then
    bif (!(decide (v5.2 = (0 : Int)))) then
     bif (@cond Bool @Bool.true (decide ((((List.length v5.1) : Nat) : Int) = (0 : Int))) @Bool.false) then
      Option.bind (@law18_alive N) fun (v6 : Bool) =>
      some ((@cond Bool @Bool.true v6 @Bool.false))
     else
      some (@Bool.false)
    else
     some (@Bool.false)
   else
    bif (decide ((((List.length v5.1) : Nat) : Int) = (0 : Int))) then
     none
    else
     Option.bind (takeI v5.1 (@Int.tmod (Go.IntKind.wrap .i64 n1) (((List.length v5.1) : Nat) : Int))) fun (v6 : (List Int)) =>
     Option.bind (@packet_Length N v6) fun (v7 : (Int × Int)) =>
     Option.bind (takeI v5.1 (@Int.tmod (Go.IntKind.wrap .i64 n1) (((List.length v5.1) : Nat) : Int))) fun (v8 : (List Int)) =>
     Option.bind (@packet_Parse N v8) fun (v9 : ((Bool × (Int × ((List (Int × (List Int))) × (List Int)))) × Int)) =>
     bif (@BEq.beq Bool (@instBEqOfDecidableEq Bool @instDecidableEqBool) (decide ((@Int.tmod (Go.IntKind.wrap .i64 n1) (((List.length v5.1) : Nat) : Int)) < (4 : Int))) (decide (v7.2 = (4 : Int)))) then
      bif (decide ((@Int.tmod (Go.IntKind.wrap .i64 n1) (((List.length v5.1) : Nat) : Int)) < (4 : Int))) then
       bif (@cond Bool @Bool.true (decide (v9.2 = (4 : Int))) @Bool.false) then
        bif (@cond Bool @Bool.true (decide ((((List.length v5.1) : Nat) : Int) ≤ (4095 : Int))) @Bool.false) then
         Option.bind (@law18_alive N) fun (v10 : Bool) =>
         some ((@cond Bool @Bool.true v10 @Bool.false))
        else
         some (@Bool.false)
       else
        some (@Bool.false)
      else
       bif (decide (v7.1 = (((List.length v5.1) : Nat) : Int))) then
        bif (@cond Bool @Bool.true (@cond Bool @Bool.false @Bool.true (@cond Bool @Bool.true (decide (v7.2 = (0 : Int))) @Bool.false)) @Bool.false) then
         bif (@cond Bool @Bool.true (decide (v9.2 = (4 : Int))) @Bool.false) then
          bif (@cond Bool @Bool.true (decide ((((List.length v5.1) : Nat) : Int) ≤ (4095 : Int))) @Bool.false) then
           Option.bind (@law18_alive N) fun (v10 : Bool) =>
           some ((@cond Bool @Bool.true v10 @Bool.false))
          else
           some (@Bool.false)
         else
          some (@Bool.false)
        else
         some (@Bool.false)
       else
        some (@Bool.false)
     else
      some (@Bool.false)
theorem law18_PacketLength_S (N : Nat) (p0 : (Bool) × ((Int) × ((List ((Int) × (List (Int)))) × (List (Int))))) (n1 : Int) : (runK Go.Proofs.Try.prog (Ev102 N) 400 7 [(.pair .bool (.pair (.int .u16) (.pair (.sl (.pair (.int .u8) (.sl (.int .u8)))) (.sl (.int .u8))))), (.int .u16)] [.bool] (p0, n1, ())).run = law18_PacketLength N p0 n1 := by kernel_rfl
theorem law18_PacketLength_C (N : Nat) (p0 : (Bool) × ((Int) × ((List ((Int) × (List (Int)))) × (List (Int))))) (n1 : Int) (y : Bool) (h : law18_PacketLength N p0 n1 = some y) : CallsK Go.Proofs.Try.prog 7 (valA [(.pair .bool (.pair (.int .u16) (.pair (.sl (.pair (.int .u8) (.sl (.int .u8)))) (.sl (.int .u8))))), (.int .u16)] (p0, n1, ())) (tupV (valR [.bool] y)) := runK_ok hmx (Ev102_ok N _) (okFn_ok (by kernel_rfl)) (by rw [law18_PacketLength_S]; exact h)
noncomputable def Ev103 (N : Nat) : (R : Type) → Env R := Env.addFn (Ev102 N) 7 (fun R => fnK [(.pair .bool (.pair (.int .u16) (.pair (.sl (.pair (.int .u8) (.sl (.int .u8)))) (.sl (.int .u8))))), (.int .u16)] [.bool] (fun c => law18_PacketLength N c.1 c.2.1))
theorem Ev103_ok (N : Nat) (R : Type) : EnvOK Go.Proofs.Try.prog (Ev103 N R) := EnvOK.addFn hmx (Ev102_ok N R) (Ev102_ok N _) (by kernel_rfl) (fun c => law18_PacketLength_S N c.1 c.2.1)
end Go.Proofs.Ytdaminjbockmbaa
