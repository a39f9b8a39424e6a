/-
  Functions of the program as plain functions on typed data, and that they are so. Printed by a program of mine.
-/
import Derived.Test.YtipjmjkfdekchaaKC
namespace Go.Proofs.Ytipjmjkfdekchaa
open Go.RowKit
set_option linter.unusedVariables false
set_option maxRecDepth 100000
theorem hmx : Go.Proofs.Try.prog.follows .mixedOrders = true := by kernel_rfl
noncomputable def Ev0 (N : Nat) : (R : Type) → Env R := Env.addInl env0 []
theorem Ev0_ok (N : Nat) (R : Type) : EnvOK Go.Proofs.Try.prog (Ev0 N R) := EnvOK.addInl (env0_ok R) (by kernel_rfl)
noncomputable def Ev1 (N : Nat) : (R : Type) → Env R := Env.addBx (Ev0 N) [(3, 0)]
theorem Ev1_ok (N : Nat) (R : Type) : EnvOK Go.Proofs.Try.prog (Ev1 N R) := EnvOK.addBx (Ev0_ok N R) [(3, 0)]
noncomputable def octs_place (N : Nat) (i0 : Int) (width1 : Int) (little2 : Bool) : Option (Int) :=
 bif little2 then
  some (i0)
 else
  some ((Go.IntKind.wrap .i64 ((Go.IntKind.wrap .i64 (width1 - (1 : Int))) - i0)))
theorem octs_place_S (N : Nat) (i0 : Int) (width1 : Int) (little2 : Bool) : (runK Go.Proofs.Try.prog (Ev1 N) 400 107 [(.int .i64), (.int .i64), .bool] [(.int .i64)] (i0, width1, little2, ())).run = octs_place N i0 width1 little2 := by kernel_rfl
noncomputable def Ev2 (N : Nat) : (R : Type) → Env R := Env.addFn (Ev1 N) 107 (fun R => fnK [(.int .i64), (.int .i64), .bool] [(.int .i64)] (fun c => octs_place N c.1 c.2.1 c.2.2.1))
theorem Ev2_ok (N : Nat) (R : Type) : EnvOK Go.Proofs.Try.prog (Ev2 N R) := EnvOK.addFn hmx (Ev1_ok N R) (Ev1_ok N _) (by kernel_rfl) (fun c => octs_place_S N c.1 c.2.1 c.2.2.1)
noncomputable def octs_Put_L5_I : LI := ⟨35, 0, [], ⟨[(0, .ty (.int .u64)), (1, .ty (.int .i64)), (2, .ty .bool), (8, .lit (.own 0)), (19, .ty (.int .i64)), (20, .ty (.int .i64))], [.own (.int .u8) 5]⟩, [(.exit 0, ⟨[(8, .lit (.own 0))], [.own (.int .u8) 5]⟩)]⟩
noncomputable def octs_Put_L5 (N : Nat) (X : (((Int) × ((Int) × ((Bool) × ((Int) × ((Int) × Unit))))) × ((List (Int)) × Unit)) → Option ((Unit × ((List (Int)) × Unit)))) (n0 : Int) (width1 : Int) (little2 : Bool) (x19 : Int) (x20 : Int) (h0 : List (Int)) : Option ((Unit × ((List (Int)) × Unit))) :=
 bif (decide (x20 < x19)) then
  Option.bind (@octs_place N x20 width1 little2) fun (v8 : Int) =>
  bif (decide ((0 : Int) ≤ v8 ∧ v8 < (((List.length h0) : Nat) : Int))) then
   Option.bind (@GetElem?.getElem? (List Int) Nat Int (fun (as9 : (List Int)) => (fun (i10 : Nat) => (@LT.lt Nat @instLTNat i10 (List.length as9)))) (@List.instGetElem?NatLtLength Int) h0 (Int.toNat v8)) fun (v9 : Int) =>
   (X (((@Int.fdiv n0 (@HPow.hPow Int Nat Int (@instHPow Int Nat (@instPowNat Int @Int.instNatPow)) (2 : Int) (@Min.min Nat @instMinNat (Int.toNat (8 : Int)) (@Go.IntKind.bits @Go.IntKind.u64)))), (width1, (little2, (x19, ((Go.IntKind.wrap .i64 (x20 + (1 : Int))), @Unit.unit))))), ((@List.set Int h0 (Int.toNat v8) (Go.IntKind.wrap .u8 n0)), @Unit.unit)))
  else
   none
 else
  some ((@Unit.unit, (h0, @Unit.unit)))
noncomputable def octs_Put_L5_R (N : Nat) (c : (((Int) × ((Int) × ((Bool) × ((Int) × ((Int) × Unit))))) × ((List (Int)) × Unit))) : Option ((Unit × ((List (Int)) × Unit))) := gl (fun X c => octs_Put_L5 N X c.1.1 c.1.2.1 c.1.2.2.1 c.1.2.2.2.1 c.1.2.2.2.2.1 c.2.1) N c
theorem octs_Put_L5_S (N : Nat) (X : (((Int) × ((Int) × ((Bool) × ((Int) × ((Int) × Unit))))) × ((List (Int)) × Unit)) → Option ((Unit × ((List (Int)) × Unit)))) (n0 : Int) (width1 : Int) (little2 : Bool) (x19 : Int) (x20 : Int) (h0 : List (Int)) : (roundK Go.Proofs.Try.prog (Ev2 N) 400 [73] octs_Put_L5_I (loopAt Go.Proofs.Try.prog [73] 5) X ((n0, width1, little2, x19, x20, ()), (h0, ()))).run = octs_Put_L5 N X n0 width1 little2 x19 x20 h0 := by kernel_rfl
noncomputable def Ev3 (N : Nat) : (R : Type) → Env R := Env.addLp (Ev2 N) [73] 0 5 (fun R => lpK Go.Proofs.Try.prog octs_Put_L5_I (fun X c => octs_Put_L5 N X c.1.1 c.1.2.1 c.1.2.2.1 c.1.2.2.2.1 c.1.2.2.2.2.1 c.2.1) N)
theorem Ev3_ok (N : Nat) (R : Type) : EnvOK Go.Proofs.Try.prog (Ev3 N R) := EnvOK.addLp (Ev2_ok N R) (by kernel_rfl) (lpK_ok (li := octs_Put_L5_I) (G := fun X c => octs_Put_L5 N X c.1.1 c.1.2.1 c.1.2.2.1 c.1.2.2.2.1 c.1.2.2.2.2.1 c.2.1) hmx (Ev2_ok N _) (by kernel_rfl) loopAt_sub (fun (X : CT octs_Put_L5_I.sh → Option (OT octs_Put_L5_I.outs)) (c : CT octs_Put_L5_I.sh) => octs_Put_L5_S N X c.1.1 c.1.2.1 c.1.2.2.1 c.1.2.2.2.1 c.1.2.2.2.2.1 c.2.1) N)
noncomputable def octs_Put (N : Nat) (n0 : Int) (width1 : Int) (little2 : Bool) : Option ((List (Int)) × Int) :=
 bif (decide (width1 < (1 : Int))) then
  some ((([] : List (Int)), (1 : Int)))
 else
  bif (@cond Bool @Bool.false @Bool.true (decide ((8 : Int) < width1))) then
   some ((([] : List (Int)), (1 : Int)))
  else
   bif ((decide ((0 : Int) ≤ width1 ∧ width1 ≤ width1)) && (roomB (Int.toNat width1) 1)) then
    Option.bind (octs_Put_L5_R N ((n0, (width1, (little2, ((((List.length (@List.replicate Int (Int.toNat width1) (0 : Int))) : Nat) : Int), ((0 : Int), @Unit.unit))))), ((@List.replicate Int (Int.toNat width1) (0 : Int)), @Unit.unit))) fun (v4 : (Unit × ((List Int) × Unit))) =>
    some ((v4.2.1, (0 : Int)))
   else
    none
theorem octs_Put_S (N : Nat) (n0 : Int) (width1 : Int) (little2 : Bool) : (runK Go.Proofs.Try.prog (Ev3 N) 400 73 [(.int .u64), (.int .i64), .bool] [(.sl (.int .u8)), (.int .i64)] (n0, width1, little2, ())).run = octs_Put N n0 width1 little2 := by kernel_rfl
noncomputable def Ev4 (N : Nat) : (R : Type) → Env R := Env.addFn (Ev3 N) 73 (fun R => fnK [(.int .u64), (.int .i64), .bool] [(.sl (.int .u8)), (.int .i64)] (fun c => octs_Put N c.1 c.2.1 c.2.2.1))
theorem Ev4_ok (N : Nat) (R : Type) : EnvOK Go.Proofs.Try.prog (Ev4 N R) := EnvOK.addFn hmx (Ev3_ok N R) (Ev3_ok N _) (by kernel_rfl) (fun c => octs_Put_S N c.1 c.2.1 c.2.2.1)
noncomputable def attr_Proto (N : Nat) (n0 : Int) : Option ((Int) × (List (Int))) :=
 Option.bind (@octs_Put N (Go.IntKind.wrap .u64 n0) (2 : Int) @Bool.false) fun (v2 : ((List Int) × Int)) =>
 some (((1 : Int), v2.1))
theorem attr_Proto_S (N : Nat) (n0 : Int) : (runK Go.Proofs.Try.prog (Ev4 N) 400 33 [(.int .u16)] [(.pair (.int .u8) (.sl (.int .u8)))] (n0, ())).run = attr_Proto N n0 := by kernel_rfl
noncomputable def Ev5 (N : Nat) : (R : Type) → Env R := Env.addFn (Ev4 N) 33 (fun R => fnK [(.int .u16)] [(.pair (.int .u8) (.sl (.int .u8)))] (fun c => attr_Proto N c.1))
theorem Ev5_ok (N : Nat) (R : Type) : EnvOK Go.Proofs.Try.prog (Ev5 N R) := EnvOK.addFn hmx (Ev4_ok N R) (Ev4_ok N _) (by kernel_rfl) (fun c => attr_Proto_S N c.1)
noncomputable def Ev6 (N : Nat) : (R : Type) → Env R := Env.addBx (Ev5 N) [(14, 0)]
theorem Ev6_ok (N : Nat) (R : Type) : EnvOK Go.Proofs.Try.prog (Ev6 N R) := EnvOK.addBx (Ev5_ok N R) [(14, 0)]
noncomputable def attr_isKind (N : Nat) (kind0 : Int) : Option (Bool) :=
 bif (decide ((1 : Int) ≤ kind0)) then
  some ((@cond Bool @Bool.true (decide (kind0 ≤ (4 : Int))) @Bool.false))
 else
  some (@Bool.false)
theorem attr_isKind_S (N : Nat) (kind0 : Int) : (runK Go.Proofs.Try.prog (Ev6 N) 400 72 [(.int .u8)] [.bool] (kind0, ())).run = attr_isKind N kind0 := by kernel_rfl
noncomputable def Ev7 (N : Nat) : (R : Type) → Env R := Env.addFn (Ev6 N) 72 (fun R => fnK [(.int .u8)] [.bool] (fun c => attr_isKind N c.1))
theorem Ev7_ok (N : Nat) (R : Type) : EnvOK Go.Proofs.Try.prog (Ev7 N R) := EnvOK.addFn hmx (Ev6_ok N R) (Ev6_ok N _) (by kernel_rfl) (fun c => attr_isKind_S N c.1)
noncomputable def octs_Join_L3_I : LI := ⟨33, 0, [], ⟨[(0, .ty (.sl (.sl (.int .u8)))), (3, .ty (.int .i64)), (9, .ty (.sl (.sl (.int .u8)))), (10, .ty (.int .i64)), (11, .ty (.int .i64))], []⟩, [(.exit 0, ⟨[(0, .ty (.sl (.sl (.int .u8)))), (3, .ty (.int .i64))], []⟩)]⟩
noncomputable def octs_Join_L3 (N : Nat) (X : (((List (List (Int))) × ((Int) × ((List (List (Int))) × ((Int) × ((Int) × Unit))))) × Unit) → Option ((((List (List (Int))) × ((Int) × Unit)) × Unit))) (parts0 : List (List (Int))) (size3 : Int) (x9 : List (List (Int))) (x10 : Int) (x11 : Int) : Option ((((List (List (Int))) × ((Int) × Unit)) × Unit)) :=
 bif (decide (x11 < x10)) then
  Option.bind (getI x9 x11) fun (v7 : (List Int)) =>
  (X ((parts0, ((Go.IntKind.wrap .i64 (size3 + (((List.length v7) : Nat) : Int))), (x9, (x10, ((Go.IntKind.wrap .i64 (x11 + (1 : Int))), @Unit.unit))))), @Unit.unit))
 else
  some (((parts0, (size3, @Unit.unit)), @Unit.unit))
noncomputable def octs_Join_L3_R (N : Nat) (c : (((List (List (Int))) × ((Int) × ((List (List (Int))) × ((Int) × ((Int) × Unit))))) × Unit)) : Option ((((List (List (Int))) × ((Int) × Unit)) × Unit)) := gl (fun X c => octs_Join_L3 N X c.1.1 c.1.2.1 c.1.2.2.1 c.1.2.2.2.1 c.1.2.2.2.2.1) N c
theorem octs_Join_L3_S (N : Nat) (X : (((List (List (Int))) × ((Int) × ((List (List (Int))) × ((Int) × ((Int) × Unit))))) × Unit) → Option ((((List (List (Int))) × ((Int) × Unit)) × Unit))) (parts0 : List (List (Int))) (size3 : Int) (x9 : List (List (Int))) (x10 : Int) (x11 : Int) : (roundK Go.Proofs.Try.prog (Ev7 N) 400 [74] octs_Join_L3_I (loopAt Go.Proofs.Try.prog [74] 3) X ((parts0, size3, x9, x10, x11, ()), ())).run = octs_Join_L3 N X parts0 size3 x9 x10 x11 := by kernel_rfl
noncomputable def Ev8 (N : Nat) : (R : Type) → Env R := Env.addLp (Ev7 N) [74] 0 3 (fun R => lpK Go.Proofs.Try.prog octs_Join_L3_I (fun X c => octs_Join_L3 N X c.1.1 c.1.2.1 c.1.2.2.1 c.1.2.2.2.1 c.1.2.2.2.2.1) N)
theorem Ev8_ok (N : Nat) (R : Type) : EnvOK Go.Proofs.Try.prog (Ev8 N R) := EnvOK.addLp (Ev7_ok N R) (by kernel_rfl) (lpK_ok (li := octs_Join_L3_I) (G := fun X c => octs_Join_L3 N X c.1.1 c.1.2.1 c.1.2.2.1 c.1.2.2.2.1 c.1.2.2.2.2.1) hmx (Ev7_ok N _) (by kernel_rfl) loopAt_sub (fun (X : CT octs_Join_L3_I.sh → Option (OT octs_Join_L3_I.outs)) (c : CT octs_Join_L3_I.sh) => octs_Join_L3_S N X c.1.1 c.1.2.1 c.1.2.2.1 c.1.2.2.2.1 c.1.2.2.2.2.1) N)
noncomputable def octs_Join_L9_I : LI := ⟨33, 0, [], ⟨[(6, .lit (.own 0)), (22, .ty (.sl (.sl (.int .u8)))), (23, .ty (.int .i64)), (24, .ty (.int .i64))], [.own (.int .u8) 5]⟩, [(.exit 2, ⟨[(6, .lit (.own 0))], [.own (.int .u8) 5]⟩)]⟩
noncomputable def octs_Join_L9 (N : Nat) (X : (((List (List (Int))) × ((Int) × ((Int) × Unit))) × ((List (Int)) × Unit)) → Option ((Unit × ((List (Int)) × Unit)))) (x22 : List (List (Int))) (x23 : Int) (x24 : Int) (h0 : List (Int)) : Option ((Unit × ((List (Int)) × Unit))) :=
 bif (decide (x24 < x23)) then
  Option.bind (getI x22 x24) fun (v6 : (List Int)) =>
  bif (roomB ((List.length h0) + (List.length v6)) 1) then
   (X ((x22, (x23, ((Go.IntKind.wrap .i64 (x24 + (1 : Int))), @Unit.unit))), ((h0 ++ v6), @Unit.unit)))
  else
   none
 else
  some ((@Unit.unit, (h0, @Unit.unit)))
noncomputable def octs_Join_L9_R (N : Nat) (c : (((List (List (Int))) × ((Int) × ((Int) × Unit))) × ((List (Int)) × Unit))) : Option ((Unit × ((List (Int)) × Unit))) := gl (fun X c => octs_Join_L9 N X c.1.1 c.1.2.1 c.1.2.2.1 c.2.1) N c
theorem octs_Join_L9_S (N : Nat) (X : (((List (List (Int))) × ((Int) × ((Int) × Unit))) × ((List (Int)) × Unit)) → Option ((Unit × ((List (Int)) × Unit)))) (x22 : List (List (Int))) (x23 : Int) (x24 : Int) (h0 : List (Int)) : (roundK Go.Proofs.Try.prog (Ev8 N) 400 [74] octs_Join_L9_I (loopAt Go.Proofs.Try.prog [74] 9) X ((x22, x23, x24, ()), (h0, ()))).run = octs_Join_L9 N X x22 x23 x24 h0 := by kernel_rfl
noncomputable def Ev9 (N : Nat) : (R : Type) → Env R := Env.addLp (Ev8 N) [74] 0 9 (fun R => lpK Go.Proofs.Try.prog octs_Join_L9_I (fun X c => octs_Join_L9 N X c.1.1 c.1.2.1 c.1.2.2.1 c.2.1) N)
theorem Ev9_ok (N : Nat) (R : Type) : EnvOK Go.Proofs.Try.prog (Ev9 N R) := EnvOK.addLp (Ev8_ok N R) (by kernel_rfl) (lpK_ok (li := octs_Join_L9_I) (G := fun X c => octs_Join_L9 N X c.1.1 c.1.2.1 c.1.2.2.1 c.2.1) hmx (Ev8_ok N _) (by kernel_rfl) loopAt_sub (fun (X : CT octs_Join_L9_I.sh → Option (OT octs_Join_L9_I.outs)) (c : CT octs_Join_L9_I.sh) => octs_Join_L9_S N X c.1.1 c.1.2.1 c.1.2.2.1 c.2.1) N)
noncomputable def octs_Join (N : Nat) (parts0 : List (List (Int))) : Option (List (Int)) :=
 Option.bind (octs_Join_L3_R N ((parts0, ((0 : Int), (parts0, ((((List.length parts0) : Nat) : Int), ((0 : Int), @Unit.unit))))), @Unit.unit)) fun (v2 : (((List (List Int)) × (Int × Unit)) × Unit)) =>
 bif ((decide ((0 : Int) ≤ (0 : Int) ∧ (0 : Int) ≤ v2.1.2.1)) && (roomB (Int.toNat v2.1.2.1) 1)) then
  Option.bind (octs_Join_L9_R N ((v2.1.1, ((((List.length v2.1.1) : Nat) : Int), ((0 : Int), @Unit.unit))), ((@List.replicate Int (Int.toNat (0 : Int)) (0 : Int)), @Unit.unit))) fun (v3 : (Unit × ((List Int) × Unit))) =>
  some (v3.2.1)
 else
  none
theorem octs_Join_S (N : Nat) (parts0 : List (List (Int))) : (runK Go.Proofs.Try.prog (Ev9 N) 400 74 [(.sl (.sl (.int .u8)))] [(.sl (.int .u8))] (parts0, ())).run = octs_Join N parts0 := by kernel_rfl
noncomputable def Ev10 (N : Nat) : (R : Type) → Env R := Env.addFn (Ev9 N) 74 (fun R => fnK [(.sl (.sl (.int .u8)))] [(.sl (.int .u8))] (fun c => octs_Join N c.1))
theorem Ev10_ok (N : Nat) (R : Type) : EnvOK Go.Proofs.Try.prog (Ev10 N R) := EnvOK.addFn hmx (Ev9_ok N R) (Ev9_ok N _) (by kernel_rfl) (fun c => octs_Join_S N c.1)
noncomputable def attr_Lay (N : Nat) (a0 : (Int) × (List (Int))) : Option ((List (Int)) × Int) :=
 Option.bind (@attr_isKind N a0.1) fun (v2 : Bool) =>
 bif (!v2) then
  some ((([] : List (Int)), (9 : Int)))
 else
  bif (decide ((4095 : Int) < (Go.IntKind.wrap .i64 ((4 : Int) + (((List.length a0.2) : Nat) : Int))))) then
   some ((([] : List (Int)), (8 : Int)))
  else
   Option.bind (@octs_Put N (Go.IntKind.wrap .u64 (Go.IntKind.wrap .i64 ((4 : Int) + (((List.length a0.2) : Nat) : Int)))) (2 : Int) @Bool.false) fun (v3 : ((List Int) × Int)) =>
   Option.bind (@octs_Join N ([([(0 : Int), a0.1] : List (Int)), v3.1, a0.2] : List ((List Int)))) fun (v4 : (List Int)) =>
   some ((v4, (0 : Int)))
theorem attr_Lay_S (N : Nat) (a0 : (Int) × (List (Int))) : (runK Go.Proofs.Try.prog (Ev10 N) 400 14 [(.pair (.int .u8) (.sl (.int .u8)))] [(.sl (.int .u8)), (.int .i64)] (a0, ())).run = attr_Lay N a0 := by kernel_rfl
noncomputable def Ev11 (N : Nat) : (R : Type) → Env R := Env.addFn (Ev10 N) 14 (fun R => fnK [(.pair (.int .u8) (.sl (.int .u8)))] [(.sl (.int .u8)), (.int .i64)] (fun c => attr_Lay N c.1))
theorem Ev11_ok (N : Nat) (R : Type) : EnvOK Go.Proofs.Try.prog (Ev11 N R) := EnvOK.addFn hmx (Ev10_ok N R) (Ev10_ok N _) (by kernel_rfl) (fun c => attr_Lay_S N c.1)
noncomputable def octs_Get_L5_I : LI := ⟨37, 0, [], ⟨[(0, .ty (.sl (.int .u8))), (1, .ty .bool), (6, .ty (.int .u64)), (17, .ty (.int .i64)), (18, .ty (.int .i64))], []⟩, [(.exit 0, ⟨[(6, .ty (.int .u64))], []⟩)]⟩
noncomputable def octs_Get_L5 (N : Nat) (X : (((List (Int)) × ((Bool) × ((Int) × ((Int) × ((Int) × Unit))))) × Unit) → Option ((((Int) × Unit) × Unit))) (b0 : List (Int)) (little1 : Bool) (n6 : Int) (x17 : Int) (x18 : Int) : Option ((((Int) × Unit) × Unit)) :=
 bif (decide (x18 < x17)) then
  Option.bind (@octs_place N x18 (((List.length b0) : Nat) : Int) little1) fun (v7 : Int) =>
  Option.bind (getI b0 v7) fun (v8 : Int) =>
  bif (decide ((0 : Int) ≤ (Go.IntKind.wrap .i64 ((8 : Int) * x18)))) then
   (X ((b0, (little1, ((@Go.bits @Go.BinOp.or @Go.IntKind.u64 n6 (Go.IntKind.wrap .u64 ((Go.IntKind.wrap .u64 v8) * (@HPow.hPow Int Nat Int (@instHPow Int Nat (@instPowNat Int @Int.instNatPow)) (2 : Int) (@Min.min Nat @instMinNat (Int.toNat (Go.IntKind.wrap .i64 ((8 : Int) * x18))) (@Go.IntKind.bits @Go.IntKind.u64)))))), (x17, ((Go.IntKind.wrap .i64 (x18 + (1 : Int))), @Unit.unit))))), @Unit.unit))
  else
   none
 else
  some (((n6, @Unit.unit), @Unit.unit))
noncomputable def octs_Get_L5_R (N : Nat) (c : (((List (Int)) × ((Bool) × ((Int) × ((Int) × ((Int) × Unit))))) × Unit)) : Option ((((Int) × Unit) × Unit)) := gl (fun X c => octs_Get_L5 N X c.1.1 c.1.2.1 c.1.2.2.1 c.1.2.2.2.1 c.1.2.2.2.2.1) N c
theorem octs_Get_L5_S (N : Nat) (X : (((List (Int)) × ((Bool) × ((Int) × ((Int) × ((Int) × Unit))))) × Unit) → Option ((((Int) × Unit) × Unit))) (b0 : List (Int)) (little1 : Bool) (n6 : Int) (x17 : Int) (x18 : Int) : (roundK Go.Proofs.Try.prog (Ev11 N) 400 [77] octs_Get_L5_I (loopAt Go.Proofs.Try.prog [77] 5) X ((b0, little1, n6, x17, x18, ()), ())).run = octs_Get_L5 N X b0 little1 n6 x17 x18 := by kernel_rfl
noncomputable def Ev12 (N : Nat) : (R : Type) → Env R := Env.addLp (Ev11 N) [77] 0 5 (fun R => lpK Go.Proofs.Try.prog octs_Get_L5_I (fun X c => octs_Get_L5 N X c.1.1 c.1.2.1 c.1.2.2.1 c.1.2.2.2.1 c.1.2.2.2.2.1) N)
theorem Ev12_ok (N : Nat) (R : Type) : EnvOK Go.Proofs.Try.prog (Ev12 N R) := EnvOK.addLp (Ev11_ok N R) (by kernel_rfl) (lpK_ok (li := octs_Get_L5_I) (G := fun X c => octs_Get_L5 N X c.1.1 c.1.2.1 c.1.2.2.1 c.1.2.2.2.1 c.1.2.2.2.2.1) hmx (Ev11_ok N _) (by kernel_rfl) loopAt_sub (fun (X : CT octs_Get_L5_I.sh → Option (OT octs_Get_L5_I.outs)) (c : CT octs_Get_L5_I.sh) => octs_Get_L5_S N X c.1.1 c.1.2.1 c.1.2.2.1 c.1.2.2.2.1 c.1.2.2.2.2.1) N)
noncomputable def octs_Get (N : Nat) (b0 : List (Int)) (little1 : Bool) : Option ((Int) × Int) :=
 bif (decide ((((List.length b0) : Nat) : Int) < (1 : Int))) then
  some (((0 : Int), (1 : Int)))
 else
  bif (@cond Bool @Bool.false @Bool.true (decide ((8 : Int) < (((List.length b0) : Nat) : Int)))) then
   some (((0 : Int), (1 : Int)))
  else
   Option.bind (octs_Get_L5_R N ((b0, (little1, ((0 : Int), ((((List.length b0) : Nat) : Int), ((0 : Int), @Unit.unit))))), @Unit.unit)) fun (v3 : ((Int × Unit) × Unit)) =>
   some ((v3.1.1, (0 : Int)))
theorem octs_Get_S (N : Nat) (b0 : List (Int)) (little1 : Bool) : (runK Go.Proofs.Try.prog (Ev12 N) 400 77 [(.sl (.int .u8)), .bool] [(.int .u64), (.int .i64)] (b0, little1, ())).run = octs_Get N b0 little1 := by kernel_rfl
noncomputable def Ev13 (N : Nat) : (R : Type) → Env R := Env.addFn (Ev12 N) 77 (fun R => fnK [(.sl (.int .u8)), .bool] [(.int .u64), (.int .i64)] (fun c => octs_Get N c.1 c.2.1))
theorem Ev13_ok (N : Nat) (R : Type) : EnvOK Go.Proofs.Try.prog (Ev13 N R) := EnvOK.addFn hmx (Ev12_ok N R) (Ev12_ok N _) (by kernel_rfl) (fun c => octs_Get_S N c.1 c.2.1)
noncomputable def slices_Clone_byte_byte_ne (N : Nat) (s0 : List (Int)) : Option (List (Int)) :=
 bif (@List.isEmpty Int s0) then
  none
 else
  bif (roomB (List.length s0) 1) then
   some (s0)
  else
   none
theorem slices_Clone_byte_byte_ne_S (N : Nat) (s0 : List (Int)) : (runK Go.Proofs.Try.prog (Ev13 N) 400 78 [(.sl (.int .u8))] [(.sl (.int .u8))] (s0, ())).run = slices_Clone_byte_byte_ne N s0 := by kernel_rfl
theorem slices_Clone_byte_byte_n1 (N : Nat) (c : Nat) : (runV Go.Proofs.Try.prog (Ev13 N) 400 78 [.c (.slice none 0 c)] [(.sl (.int .u8))]).run = some [] := by kernel_rfl
theorem slices_Clone_byte_byte_n2 (N : Nat) (A : Addr) (c : Nat) : (runV Go.Proofs.Try.prog (Ev13 N) 400 78 [.c (.slice (some A) 0 c)] [(.sl (.int .u8))]).run = some [] := by kernel_rfl
noncomputable def slices_Clone_byte_byte (N : Nat) (s0 : List (Int)) : Option (List (Int)) := bif s0.isEmpty then some [] else slices_Clone_byte_byte_ne N s0
noncomputable def Ev14 (N : Nat) : (R : Type) → Env R := Env.addFn (Ev13 N) 78 (fun R => fnK [(.sl (.int .u8))] [(.sl (.int .u8))] (fun c => slices_Clone_byte_byte N c.1))
theorem Ev14_ok (N : Nat) (R : Type) : EnvOK Go.Proofs.Try.prog (Ev14 N R) := EnvOK.addNil hmx (Ev13_ok N R) (Ev13_ok N _) (by kernel_rfl) (fun c => slices_Clone_byte_byte_ne_S N c.1) (slices_Clone_byte_byte_n1 N) (slices_Clone_byte_byte_n2 N)
noncomputable def attr_Parse (N : Nat) (b0 : List (Int)) : Option (((Int) × (List (Int))) × (Int) × Int) :=
 bif (decide ((((List.length b0) : Nat) : Int) < (4 : Int))) then
  some ((((0 : Int), ([] : List (Int))), ((0 : Int), (4 : Int))))
 else
  Option.bind (subI b0 (2 : Int) (4 : Int)) fun (v2 : (List Int)) =>
  Option.bind (@octs_Get N v2 @Bool.false) fun (v3 : (Int × Int)) =>
  Option.bind (getI b0 (0 : Int)) fun (v4 : Int) =>
  bif (!(decide (v4 = (0 : Int)))) then
   some ((((0 : Int), ([] : List (Int))), ((0 : Int), (3 : Int))))
  else
   bif (@cond Bool @Bool.false @Bool.true (decide ((Go.IntKind.wrap .i64 v3.1) < (4 : Int)))) then
    some ((((0 : Int), ([] : List (Int))), ((0 : Int), (3 : Int))))
   else
    bif (@cond Bool @Bool.false @Bool.true (decide ((4095 : Int) < (Go.IntKind.wrap .i64 v3.1)))) then
     some ((((0 : Int), ([] : List (Int))), ((0 : Int), (3 : Int))))
    else
     Option.bind (getI b0 (1 : Int)) fun (v5 : Int) =>
     Option.bind (@attr_isKind N v5) fun (v6 : Bool) =>
     bif (!v6) then
      some ((((0 : Int), ([] : List (Int))), ((0 : Int), (9 : Int))))
     else
      bif (decide ((((List.length b0) : Nat) : Int) < (Go.IntKind.wrap .i64 v3.1))) then
       some ((((0 : Int), ([] : List (Int))), ((0 : Int), (4 : Int))))
      else
       Option.bind (getI b0 (1 : Int)) fun (v7 : Int) =>
       Option.bind (subI b0 (4 : Int) (Go.IntKind.wrap .i64 v3.1)) fun (v8 : (List Int)) =>
       Option.bind (@slices_Clone_byte_byte N v8) fun (v9 : (List Int)) =>
       some (((v7, v9), ((Go.IntKind.wrap .i64 v3.1), (0 : Int))))
theorem attr_Parse_S (N : Nat) (b0 : List (Int)) : (runK Go.Proofs.Try.prog (Ev14 N) 400 17 [(.sl (.int .u8))] [(.pair (.int .u8) (.sl (.int .u8))), (.int .i64), (.int .i64)] (b0, ())).run = attr_Parse N b0 := by kernel_rfl
noncomputable def Ev15 (N : Nat) : (R : Type) → Env R := Env.addFn (Ev14 N) 17 (fun R => fnK [(.sl (.int .u8))] [(.pair (.int .u8) (.sl (.int .u8))), (.int .i64), (.int .i64)] (fun c => attr_Parse N c.1))
theorem Ev15_ok (N : Nat) (R : Type) : EnvOK Go.Proofs.Try.prog (Ev15 N R) := EnvOK.addFn hmx (Ev14_ok N R) (Ev14_ok N _) (by kernel_rfl) (fun c => attr_Parse_S N c.1)
noncomputable def Ev16 (N : Nat) : (R : Type) → Env R := Env.addBx (Ev15 N) [(32, 0)]
theorem Ev16_ok (N : Nat) (R : Type) : EnvOK Go.Proofs.Try.prog (Ev16 N R) := EnvOK.addBx (Ev15_ok N R) [(32, 0)]
noncomputable def Ev17 (N : Nat) : (R : Type) → Env R := Env.addBx (Ev16 N) [(84, 0)]
theorem Ev17_ok (N : Nat) (R : Type) : EnvOK Go.Proofs.Try.prog (Ev17 N R) := EnvOK.addBx (Ev16_ok N R) [(84, 0)]
noncomputable def Ev18 (N : Nat) : (R : Type) → Env R := Env.addBx (Ev17 N) [(21, 0)]
theorem Ev18_ok (N : Nat) (R : Type) : EnvOK Go.Proofs.Try.prog (Ev18 N R) := EnvOK.addBx (Ev17_ok N R) [(21, 0)]
noncomputable def attr_sizes (N : Nat) (kind0 : Int) : Option ((Int) × Int) :=
 bif (decide (kind0 = (1 : Int))) then
  some (((2 : Int), (2 : Int)))
 else
  bif (decide (kind0 = (2 : Int))) then
   some (((8 : Int), (72 : Int)))
  else
   bif (decide (kind0 = (3 : Int))) then
    some (((100 : Int), (100 : Int)))
   else
    bif (decide (kind0 = (4 : Int))) then
     some (((36 : Int), (36 : Int)))
    else
     some (((0 : Int), (0 : Int)))
theorem attr_sizes_S (N : Nat) (kind0 : Int) : (runK Go.Proofs.Try.prog (Ev18 N) 400 80 [(.int .u8)] [(.int .i64), (.int .i64)] (kind0, ())).run = attr_sizes N kind0 := by kernel_rfl
noncomputable def Ev19 (N : Nat) : (R : Type) → Env R := Env.addFn (Ev18 N) 80 (fun R => fnK [(.int .u8)] [(.int .i64), (.int .i64)] (fun c => attr_sizes N c.1))
theorem Ev19_ok (N : Nat) (R : Type) : EnvOK Go.Proofs.Try.prog (Ev19 N R) := EnvOK.addFn hmx (Ev18_ok N R) (Ev18_ok N _) (by kernel_rfl) (fun c => attr_sizes_S N c.1)
noncomputable def Ev20 (N : Nat) : (R : Type) → Env R := Env.addBx (Ev19 N) [(81, 0)]
theorem Ev20_ok (N : Nat) (R : Type) : EnvOK Go.Proofs.Try.prog (Ev20 N R) := EnvOK.addBx (Ev19_ok N R) [(81, 0)]
noncomputable def attr_fine (N : Nat) (a0 : (Int) × (List (Int))) : Option (Bool) :=
 bif (decide (a0.1 = (1 : Int))) then
  some (@Bool.true)
 else
  Option.bind (getI a0.2 (3 : Int)) fun (v2 : Int) =>
  Option.bind (takeI a0.2 (3 : Int)) fun (v3 : (List Int)) =>
  Option.bind (@toArr Int (3 : Nat) v3) fun (v4 : (Arr Int 3)) =>
  bif ((@wfB (@Td.arr (3 : Nat) (@Td.int @Go.IntKind.u8)) v4) && (@wfB (@Td.arr (3 : Nat) (@Td.int @Go.IntKind.u8)) (@Arr.cons Int (2 : Nat) (0 : Int) (@Arr.cons Int (1 : Nat) (0 : Int) (@Arr.cons Int (0 : Nat) (0 : Int) (@Arr.nil Int)))))) then
   bif (!(@Decidable.decide (@Eq (Arr Int 3) v4 (@Arr.cons Int (2 : Nat) (0 : Int) (@Arr.cons Int (1 : Nat) (0 : Int) (@Arr.cons Int (0 : Nat) (0 : Int) (@Arr.nil Int))))) (@decT (@Td.arr (3 : Nat) (@Td.int @Go.IntKind.u8)) v4 (@Arr.cons Int (2 : Nat) (0 : Int) (@Arr.cons Int (1 : Nat) (0 : Int) (@Arr.cons Int (0 : Nat) (0 : Int) (@Arr.nil Int))))))) then
    some (@Bool.false)
   else
    bif (decide (a0.1 = (2 : Int))) then
     some ((decide (v2 ≤ (4 : Int))))
    else
     bif (decide (a0.1 = (3 : Int))) then
      bif (decide (v2 = (1 : Int))) then
       some (@Bool.true)
      else
       some ((@cond Bool @Bool.false @Bool.true (decide (v2 = (2 : Int)))))
     else
      bif (decide ((1 : Int) ≤ v2)) then
       some ((@cond Bool @Bool.true (decide (v2 ≤ (3 : Int))) @Bool.false))
      else
       some (@Bool.false)
  else
   none
theorem attr_fine_S (N : Nat) (a0 : (Int) × (List (Int))) : (runK Go.Proofs.Try.prog (Ev20 N) 400 81 [(.pair (.int .u8) (.sl (.int .u8)))] [.bool] (a0, ())).run = attr_fine N a0 := by kernel_rfl
noncomputable def Ev21 (N : Nat) : (R : Type) → Env R := Env.addFn (Ev20 N) 81 (fun R => fnK [(.pair (.int .u8) (.sl (.int .u8)))] [.bool] (fun c => attr_fine N c.1))
theorem Ev21_ok (N : Nat) (R : Type) : EnvOK Go.Proofs.Try.prog (Ev21 N R) := EnvOK.addFn hmx (Ev20_ok N R) (Ev20_ok N _) (by kernel_rfl) (fun c => attr_fine_S N c.1)
noncomputable def attr_Check (N : Nat) (a0 : (Int) × (List (Int))) : Option (Int) :=
 Option.bind (@attr_sizes N a0.1) fun (v2 : (Int × Int)) =>
 Option.bind (@attr_isKind N a0.1) fun (v3 : Bool) =>
 bif (!v3) then
  some ((9 : Int))
 else
  bif (decide ((((List.length a0.2) : Nat) : Int) < v2.1)) then
   some ((4 : Int))
  else
   bif (decide (v2.2 < (((List.length a0.2) : Nat) : Int))) then
    some ((3 : Int))
   else
    Option.bind (@attr_fine N (a0.1, a0.2)) fun (v4 : Bool) =>
    bif (@cond Bool @Bool.false @Bool.true (!v4)) then
     some ((3 : Int))
    else
     some ((0 : Int))
theorem attr_Check_S (N : Nat) (a0 : (Int) × (List (Int))) : (runK Go.Proofs.Try.prog (Ev21 N) 400 21 [(.pair (.int .u8) (.sl (.int .u8)))] [(.int .i64)] (a0, ())).run = attr_Check N a0 := by kernel_rfl
noncomputable def Ev22 (N : Nat) : (R : Type) → Env R := Env.addFn (Ev21 N) 21 (fun R => fnK [(.pair (.int .u8) (.sl (.int .u8)))] [(.int .i64)] (fun c => attr_Check N c.1))
theorem Ev22_ok (N : Nat) (R : Type) : EnvOK Go.Proofs.Try.prog (Ev22 N R) := EnvOK.addFn hmx (Ev21_ok N R) (Ev21_ok N _) (by kernel_rfl) (fun c => attr_Check_S N c.1)
noncomputable def attr_checked (N : Nat) (a0 : (Int) × (List (Int))) (kind1 : Int) : Option (Int) :=
 bif (!(decide (a0.1 = kind1))) then
  some ((9 : Int))
 else
  Option.bind (@attr_Check N (a0.1, a0.2)) fun (v3 : Int) =>
  some (v3)
theorem attr_checked_S (N : Nat) (a0 : (Int) × (List (Int))) (kind1 : Int) : (runK Go.Proofs.Try.prog (Ev22 N) 400 84 [(.pair (.int .u8) (.sl (.int .u8))), (.int .u8)] [(.int .i64)] (a0, kind1, ())).run = attr_checked N a0 kind1 := by kernel_rfl
noncomputable def Ev23 (N : Nat) : (R : Type) → Env R := Env.addFn (Ev22 N) 84 (fun R => fnK [(.pair (.int .u8) (.sl (.int .u8))), (.int .u8)] [(.int .i64)] (fun c => attr_checked N c.1 c.2.1))
theorem Ev23_ok (N : Nat) (R : Type) : EnvOK Go.Proofs.Try.prog (Ev23 N R) := EnvOK.addFn hmx (Ev22_ok N R) (Ev22_ok N _) (by kernel_rfl) (fun c => attr_checked_S N c.1 c.2.1)
noncomputable def attr_ToProto (N : Nat) (a0 : (Int) × (List (Int))) : Option ((Int) × Int) :=
 Option.bind (@attr_checked N (a0.1, a0.2) (1 : Int)) fun (v2 : Int) =>
 bif (!(decide (v2 = (0 : Int)))) then
  some (((0 : Int), v2))
 else
  Option.bind (@octs_Get N a0.2 @Bool.false) fun (v3 : (Int × Int)) =>
  some (((Go.IntKind.wrap .u16 v3.1), (0 : Int)))
theorem attr_ToProto_S (N : Nat) (a0 : (Int) × (List (Int))) : (runK Go.Proofs.Try.prog (Ev23 N) 400 32 [(.pair (.int .u8) (.sl (.int .u8)))] [(.int .u16), (.int .i64)] (a0, ())).run = attr_ToProto N a0 := by kernel_rfl
noncomputable def Ev24 (N : Nat) : (R : Type) → Env R := Env.addFn (Ev23 N) 32 (fun R => fnK [(.pair (.int .u8) (.sl (.int .u8)))] [(.int .u16), (.int .i64)] (fun c => attr_ToProto N c.1))
theorem Ev24_ok (N : Nat) (R : Type) : EnvOK Go.Proofs.Try.prog (Ev24 N R) := EnvOK.addFn hmx (Ev23_ok N R) (Ev23_ok N _) (by kernel_rfl) (fun c => attr_ToProto_S N c.1)
noncomputable def Ev25 (N : Nat) : (R : Type) → Env R := Env.addBx (Ev24 N) [(25, 0)]
theorem Ev25_ok (N : Nat) (R : Type) : EnvOK Go.Proofs.Try.prog (Ev25 N R) := EnvOK.addBx (Ev24_ok N R) [(25, 0)]
noncomputable def attr_behind (N : Nat) (first0 : Int) (parts1 : List (List (Int))) : Option (List (Int)) :=
 Option.bind (@octs_Join N parts1) fun (v3 : (List Int)) =>
 Option.bind (@octs_Join N ([(@List.replicate Int (Int.toNat (3 : Int)) (0 : Int)), ([first0] : List (Int)), v3] : List ((List Int)))) fun (v4 : (List Int)) =>
 some (v4)
theorem attr_behind_S (N : Nat) (first0 : Int) (parts1 : List (List (Int))) : (runK Go.Proofs.Try.prog (Ev25 N) 400 83 [(.int .u8), (.sl (.sl (.int .u8)))] [(.sl (.int .u8))] (first0, parts1, ())).run = attr_behind N first0 parts1 := by kernel_rfl
noncomputable def Ev26 (N : Nat) : (R : Type) → Env R := Env.addFn (Ev25 N) 83 (fun R => fnK [(.int .u8), (.sl (.sl (.int .u8)))] [(.sl (.int .u8))] (fun c => attr_behind N c.1 c.2.1))
theorem Ev26_ok (N : Nat) (R : Type) : EnvOK Go.Proofs.Try.prog (Ev26 N R) := EnvOK.addFn hmx (Ev25_ok N R) (Ev25_ok N _) (by kernel_rfl) (fun c => attr_behind_S N c.1 c.2.1)
noncomputable def attr_OfAsk (N : Nat) (x0 : (Int) × (Arr (Int) 32)) : Option ((Int) × (List (Int))) :=
 Option.bind (@attr_behind N x0.1 ([x0.2.l] : List ((List Int)))) fun (v2 : (List Int)) =>
 some (((4 : Int), v2))
theorem attr_OfAsk_S (N : Nat) (x0 : (Int) × (Arr (Int) 32)) : (runK Go.Proofs.Try.prog (Ev26 N) 400 25 [(.pair (.int .u8) (.arr 32 (.int .u8)))] [(.pair (.int .u8) (.sl (.int .u8)))] (x0, ())).run = attr_OfAsk N x0 := by kernel_rfl
noncomputable def Ev27 (N : Nat) : (R : Type) → Env R := Env.addFn (Ev26 N) 25 (fun R => fnK [(.pair (.int .u8) (.arr 32 (.int .u8)))] [(.pair (.int .u8) (.sl (.int .u8)))] (fun c => attr_OfAsk N c.1))
theorem Ev27_ok (N : Nat) (R : Type) : EnvOK Go.Proofs.Try.prog (Ev27 N R) := EnvOK.addFn hmx (Ev26_ok N R) (Ev26_ok N _) (by kernel_rfl) (fun c => attr_OfAsk_S N c.1)
noncomputable def Ev28 (N : Nat) : (R : Type) → Env R := Env.addBx (Ev27 N) [(31, 0)]
theorem Ev28_ok (N : Nat) (R : Type) : EnvOK Go.Proofs.Try.prog (Ev28 N R) := EnvOK.addBx (Ev27_ok N R) [(31, 0)]
noncomputable def attr_ToAsk (N : Nat) (a0 : (Int) × (List (Int))) : Option (((Int) × (Arr (Int) 32)) × Int) :=
 Option.bind (@attr_checked N (a0.1, a0.2) (4 : Int)) fun (v2 : Int) =>
 bif (!(decide (v2 = (0 : Int)))) then
  some ((((0 : Int), (@Arr.cons Int (31 : Nat) (0 : Int) (@Arr.cons Int (30 : Nat) (0 : Int) (@Arr.cons Int (29 : Nat) (0 : Int) (@Arr.cons Int (28 : Nat) (0 : Int) (@Arr.cons Int (27 : Nat) (0 : Int) (@Arr.cons Int (26 : Nat) (0 : Int) (@Arr.cons Int (25 : Nat) (0 : Int) (@Arr.cons Int (24 : Nat) (0 : Int) (@Arr.cons Int (23 : Nat) (0 : Int) (@Arr.cons Int (22 : Nat) (0 : Int) (@Arr.cons Int (21 : Nat) (0 : Int) (@Arr.cons Int (20 : Nat) (0 : Int) (@Arr.cons Int (19 : Nat) (0 : Int) (@Arr.cons Int (18 : Nat) (0 : Int) (@Arr.cons Int (17 : Nat) (0 : Int) (@Arr.cons Int (16 : Nat) (0 : Int) (@Arr.cons Int (15 : Nat) (0 : Int) (@Arr.cons Int (14 : Nat) (0 : Int) (@Arr.cons Int (13 : Nat) (0 : Int) (@Arr.cons Int (12 : Nat) (0 : Int) (@Arr.cons Int (11 : Nat) (0 : Int) (@Arr.cons Int (10 : Nat) (0 : Int) (@Arr.cons Int (9 : Nat) (0 : Int) (@Arr.cons Int (8 : Nat) (0 : Int) (@Arr.cons Int (7 : Nat) (0 : Int) (@Arr.cons Int (6 : Nat) (0 : Int) (@Arr.cons Int (5 : Nat) (0 : Int) (@Arr.cons Int (4 : Nat) (0 : Int) (@Arr.cons Int (3 : Nat) (0 : Int) (@Arr.cons Int (2 : Nat) (0 : Int) (@Arr.cons Int (1 : Nat) (0 : Int) (@Arr.cons Int (0 : Nat) (0 : Int) (@Arr.nil Int)))))))))))))))))))))))))))))))))), v2))
 else
  Option.bind (getI a0.2 (3 : Int)) fun (v3 : Int) =>
  Option.bind (dropI a0.2 (4 : Int)) fun (v4 : (List Int)) =>
  Option.bind (@toArr Int (32 : Nat) v4) fun (v5 : (Arr Int 32)) =>
  some (((v3, v5), (0 : Int)))
theorem attr_ToAsk_S (N : Nat) (a0 : (Int) × (List (Int))) : (runK Go.Proofs.Try.prog (Ev28 N) 400 31 [(.pair (.int .u8) (.sl (.int .u8)))] [(.pair (.int .u8) (.arr 32 (.int .u8))), (.int .i64)] (a0, ())).run = attr_ToAsk N a0 := by kernel_rfl
noncomputable def Ev29 (N : Nat) : (R : Type) → Env R := Env.addFn (Ev28 N) 31 (fun R => fnK [(.pair (.int .u8) (.sl (.int .u8)))] [(.pair (.int .u8) (.arr 32 (.int .u8))), (.int .i64)] (fun c => attr_ToAsk N c.1))
theorem Ev29_ok (N : Nat) (R : Type) : EnvOK Go.Proofs.Try.prog (Ev29 N R) := EnvOK.addFn hmx (Ev28_ok N R) (Ev28_ok N _) (by kernel_rfl) (fun c => attr_ToAsk_S N c.1)
noncomputable def Ev30 (N : Nat) : (R : Type) → Env R := Env.addBx (Ev29 N) [(20, 0)]
theorem Ev30_ok (N : Nat) (R : Type) : EnvOK Go.Proofs.Try.prog (Ev30 N R) := EnvOK.addBx (Ev29_ok N R) [(20, 0)]
noncomputable def attr_Same (N : Nat) (a0 : (Int) × (List (Int))) (b1 : (Int) × (List (Int))) : Option (Bool) :=
 Option.bind (@toBy a0.2) fun (v3 : (List UInt8)) =>
 Option.bind (@toBy b1.2) fun (v4 : (List UInt8)) =>
 bif ((@wfB (@Td.pair (@Td.int @Go.IntKind.u8) @Td.str) (a0.1, v3)) && (@wfB (@Td.pair (@Td.int @Go.IntKind.u8) @Td.str) (b1.1, v4))) then
  some ((@Decidable.decide (@Eq (Int × (List UInt8)) (a0.1, v3) (b1.1, v4)) (@decT (@Td.pair (@Td.int @Go.IntKind.u8) @Td.str) (a0.1, v3) (b1.1, v4))))
 else
  none
theorem attr_Same_S (N : Nat) (a0 : (Int) × (List (Int))) (b1 : (Int) × (List (Int))) : (runK Go.Proofs.Try.prog (Ev30 N) 400 20 [(.pair (.int .u8) (.sl (.int .u8))), (.pair (.int .u8) (.sl (.int .u8)))] [.bool] (a0, b1, ())).run = attr_Same N a0 b1 := by kernel_rfl
noncomputable def Ev31 (N : Nat) : (R : Type) → Env R := Env.addFn (Ev30 N) 20 (fun R => fnK [(.pair (.int .u8) (.sl (.int .u8))), (.pair (.int .u8) (.sl (.int .u8)))] [.bool] (fun c => attr_Same N c.1 c.2.1))
theorem Ev31_ok (N : Nat) (R : Type) : EnvOK Go.Proofs.Try.prog (Ev31 N R) := EnvOK.addFn hmx (Ev30_ok N R) (Ev30_ok N _) (by kernel_rfl) (fun c => attr_Same_S N c.1 c.2.1)
noncomputable def law17_alive (N : Nat) : Option (Bool) :=
 Option.bind (@attr_Proto N (1 : Int)) fun (v1 : (Int × (List Int))) =>
 Option.bind (@attr_Lay N (v1.1, v1.2)) fun (v2 : ((List Int) × Int)) =>
 Option.bind (@attr_Parse N v2.1) fun (v3 : ((Int × (List Int)) × (Int × Int))) =>
 Option.bind (@attr_ToProto N (v3.1.1, v3.1.2)) fun (v4 : (Int × Int)) =>
 Option.bind (@attr_OfAsk N ((2 : Int), (@Arr.cons Int (31 : Nat) (0 : Int) (@Arr.cons Int (30 : Nat) (0 : Int) (@Arr.cons Int (29 : Nat) (0 : Int) (@Arr.cons Int (28 : Nat) (0 : Int) (@Arr.cons Int (27 : Nat) (0 : Int) (@Arr.cons Int (26 : Nat) (0 : Int) (@Arr.cons Int (25 : Nat) (0 : Int) (@Arr.cons Int (24 : Nat) (0 : Int) (@Arr.cons Int (23 : Nat) (0 : Int) (@Arr.cons Int (22 : Nat) (0 : Int) (@Arr.cons Int (21 : Nat) (0 : Int) (@Arr.cons Int (20 : Nat) (0 : Int) (@Arr.cons Int (19 : Nat) (0 : Int) (@Arr.cons Int (18 : Nat) (0 : Int) (@Arr.cons Int (17 : Nat) (0 : Int) (@Arr.cons Int (16 : Nat) (0 : Int) (@Arr.cons Int (15 : Nat) (0 : Int) (@Arr.cons Int (14 : Nat) (0 : Int) (@Arr.cons Int (13 : Nat) (0 : Int) (@Arr.cons Int (12 : Nat) (0 : Int) (@Arr.cons Int (11 : Nat) (0 : Int) (@Arr.cons Int (10 : Nat) (0 : Int) (@Arr.cons Int (9 : Nat) (0 : Int) (@Arr.cons Int (8 : Nat) (0 : Int) (@Arr.cons Int (7 : Nat) (0 : Int) (@Arr.cons Int (6 : Nat) (0 : Int) (@Arr.cons Int (5 : Nat) (0 : Int) (@Arr.cons Int (4 : Nat) (0 : Int) (@Arr.cons Int (3 : Nat) (0 : Int) (@Arr.cons Int (2 : Nat) (0 : Int) (@Arr.cons Int (1 : Nat) (0 : Int) (@Arr.cons Int (0 : Nat) (0 : Int) (@Arr.nil Int))))))))))))))))))))))))))))))))))) fun (v5 : (Int × (List Int))) =>
 Option.bind (@attr_ToAsk N (v5.1, v5.2)) fun (v6 : ((Int × (Arr Int 32)) × Int)) =>
 Option.bind (@toBy v2.1) fun (v7 : (List UInt8)) =>
 bif (decide (v7 = (@Array.toList UInt8 (@List.toArray UInt8 ([(@OfNat.ofNat UInt8 (0 : Nat) (@UInt8.instOfNat (0 : Nat))), (@OfNat.ofNat UInt8 (1 : Nat) (@UInt8.instOfNat (1 : Nat))), (@OfNat.ofNat UInt8 (0 : Nat) (@UInt8.instOfNat (0 : Nat))), (@OfNat.ofNat UInt8 (6 : Nat) (@UInt8.instOfNat (6 : Nat))), (@OfNat.ofNat UInt8 (0 : Nat) (@UInt8.instOfNat (0 : Nat))), (@OfNat.ofNat UInt8 (1 : Nat) (@UInt8.instOfNat (1 : Nat)))] : List (UInt8)))))) then
  bif (@cond Bool @Bool.true (decide (v2.2 = (0 : Int))) @Bool.false) then
   bif (@cond Bool @Bool.true (decide (v3.2.1 = (6 : Int))) @Bool.false) then
    bif (@cond Bool @Bool.true (decide (v3.2.2 = (0 : Int))) @Bool.false) then
     bif (@cond Bool @Bool.true (decide (v4.1 = (1 : Int))) @Bool.false) then
      bif (@cond Bool @Bool.true (decide (v4.2 = (0 : Int))) @Bool.false) then
       bif (@cond Bool @Bool.true (decide (v6.1.1 = (2 : Int))) @Bool.false) then
        bif (@cond Bool @Bool.true (decide (v6.2 = (0 : Int))) @Bool.false) then
         Option.bind (@attr_Proto N (1 : Int)) fun (v8 : (Int × (List Int))) =>
         Option.bind (@attr_Same N (v3.1.1, v3.1.2) (v8.1, v8.2)) fun (v9 : Bool) =>
         some ((@cond Bool @Bool.true v9 @Bool.false))
        else
         some (@Bool.false)
       else
        some (@Bool.false)
      else
       some (@Bool.false)
     else
      some (@Bool.false)
    else
     some (@Bool.false)
   else
    some (@Bool.false)
  else
   some (@Bool.false)
 else
  some (@Bool.false)
theorem law17_alive_S (N : Nat) : (runK Go.Proofs.Try.prog (Ev31 N) 400 13 [] [.bool] ()).run = law17_alive N  := by kernel_rfl
noncomputable def Ev32 (N : Nat) : (R : Type) → Env R := Env.addFn (Ev31 N) 13 (fun R => fnK [] [.bool] (fun c => law17_alive N ))
theorem Ev32_ok (N : Nat) (R : Type) : EnvOK Go.Proofs.Try.prog (Ev32 N R) := EnvOK.addFn hmx (Ev31_ok N R) (Ev31_ok N _) (by kernel_rfl) (fun c => law17_alive_S N )
noncomputable def Ev33 (N : Nat) : (R : Type) → Env R := Env.addBx (Ev32 N) [(15, 0)]
theorem Ev33_ok (N : Nat) (R : Type) : EnvOK Go.Proofs.Try.prog (Ev33 N R) := EnvOK.addBx (Ev32_ok N R) [(15, 0)]
noncomputable def law17_theirs (N : Nat) (a0 : (Int) × (List (Int))) : Option ((Int) × (List (Int))) :=
 some ((a0.1, a0.2))
theorem law17_theirs_S (N : Nat) (a0 : (Int) × (List (Int))) : (runK Go.Proofs.Try.prog (Ev33 N) 400 15 [(.pair (.int .u8) (.sl (.int .u8)))] [(.pair (.int .u8) (.sl (.int .u8)))] (a0, ())).run = law17_theirs N a0 := by kernel_rfl
noncomputable def Ev34 (N : Nat) : (R : Type) → Env R := Env.addFn (Ev33 N) 15 (fun R => fnK [(.pair (.int .u8) (.sl (.int .u8)))] [(.pair (.int .u8) (.sl (.int .u8)))] (fun c => law17_theirs N c.1))
theorem Ev34_ok (N : Nat) (R : Type) : EnvOK Go.Proofs.Try.prog (Ev34 N R) := EnvOK.addFn hmx (Ev33_ok N R) (Ev33_ok N _) (by kernel_rfl) (fun c => law17_theirs_S N c.1)
noncomputable def Ev35 (N : Nat) : (R : Type) → Env R := Env.addBx (Ev34 N) [(16, 0)]
theorem Ev35_ok (N : Nat) (R : Type) : EnvOK Go.Proofs.Try.prog (Ev35 N R) := EnvOK.addBx (Ev34_ok N R) [(16, 0)]
noncomputable def ref17_kind (N : Nat) (id0 : Int) : Option (Bool) :=
 bif (decide ((1 : Int) ≤ id0)) then
  some ((@cond Bool @Bool.true (decide (id0 ≤ (4 : Int))) @Bool.false))
 else
  some (@Bool.false)
theorem ref17_kind_S (N : Nat) (id0 : Int) : (runK Go.Proofs.Try.prog (Ev35 N) 400 75 [(.int .u8)] [.bool] (id0, ())).run = ref17_kind N id0 := by kernel_rfl
noncomputable def Ev36 (N : Nat) : (R : Type) → Env R := Env.addFn (Ev35 N) 75 (fun R => fnK [(.int .u8)] [.bool] (fun c => ref17_kind N c.1))
theorem Ev36_ok (N : Nat) (R : Type) : EnvOK Go.Proofs.Try.prog (Ev36 N R) := EnvOK.addFn hmx (Ev35_ok N R) (Ev35_ok N _) (by kernel_rfl) (fun c => ref17_kind_S N c.1)
noncomputable def ref01_Big_L3_I : LI := ⟨24, 0, [], ⟨[(0, .ty (.int .u64)), (5, .lit (.own 0)), (6, .ty (.int .i64))], [.own (.int .u8) 5]⟩, [(.exit 0, ⟨[(5, .lit (.own 0))], [.own (.int .u8) 5]⟩)]⟩
noncomputable def ref01_Big_L3 (N : Nat) (X : (((Int) × ((Int) × Unit)) × ((List (Int)) × Unit)) → Option ((Unit × ((List (Int)) × Unit)))) (n0 : Int) (i6 : Int) (h0 : List (Int)) : Option ((Unit × ((List (Int)) × Unit))) :=
 bif (decide ((0 : Int) ≤ i6)) then
  bif (decide ((0 : Int) ≤ i6 ∧ i6 < (((List.length h0) : Nat) : Int))) then
   Option.bind (@GetElem?.getElem? (List Int) Nat Int (fun (as5 : (List Int)) => (fun (i6 : Nat) => (@LT.lt Nat @instLTNat i6 (List.length as5)))) (@List.instGetElem?NatLtLength Int) h0 (Int.toNat i6)) fun (v5 : Int) =>
   (X (((Go.IntKind.wrap .u64 (@Int.tdiv n0 (256 : Int))), ((Go.IntKind.wrap .i64 (i6 - (1 : Int))), @Unit.unit)), ((@List.set Int h0 (Int.toNat i6) (Go.IntKind.wrap .u8 (@Int.tmod n0 (256 : Int)))), @Unit.unit)))
  else
   none
 else
  some ((@Unit.unit, (h0, @Unit.unit)))
noncomputable def ref01_Big_L3_R (N : Nat) (c : (((Int) × ((Int) × Unit)) × ((List (Int)) × Unit))) : Option ((Unit × ((List (Int)) × Unit))) := gl (fun X c => ref01_Big_L3 N X c.1.1 c.1.2.1 c.2.1) N c
theorem ref01_Big_L3_S (N : Nat) (X : (((Int) × ((Int) × Unit)) × ((List (Int)) × Unit)) → Option ((Unit × ((List (Int)) × Unit)))) (n0 : Int) (i6 : Int) (h0 : List (Int)) : (roundK Go.Proofs.Try.prog (Ev36 N) 400 [76] ref01_Big_L3_I (loopAt Go.Proofs.Try.prog [76] 3) X ((n0, i6, ()), (h0, ()))).run = ref01_Big_L3 N X n0 i6 h0 := by kernel_rfl
noncomputable def Ev37 (N : Nat) : (R : Type) → Env R := Env.addLp (Ev36 N) [76] 0 3 (fun R => lpK Go.Proofs.Try.prog ref01_Big_L3_I (fun X c => ref01_Big_L3 N X c.1.1 c.1.2.1 c.2.1) N)
theorem Ev37_ok (N : Nat) (R : Type) : EnvOK Go.Proofs.Try.prog (Ev37 N R) := EnvOK.addLp (Ev36_ok N R) (by kernel_rfl) (lpK_ok (li := ref01_Big_L3_I) (G := fun X c => ref01_Big_L3 N X c.1.1 c.1.2.1 c.2.1) hmx (Ev36_ok N _) (by kernel_rfl) loopAt_sub (fun (X : CT ref01_Big_L3_I.sh → Option (OT ref01_Big_L3_I.outs)) (c : CT ref01_Big_L3_I.sh) => ref01_Big_L3_S N X c.1.1 c.1.2.1 c.2.1) N)
noncomputable def ref01_Big (N : Nat) (n0 : Int) (width1 : Int) : Option (List (Int)) :=
 bif ((decide ((0 : Int) ≤ width1 ∧ width1 ≤ width1)) && (roomB (Int.toNat width1) 1)) then
  Option.bind (ref01_Big_L3_R N ((n0, ((Go.IntKind.wrap .i64 (width1 - (1 : Int))), @Unit.unit)), ((@List.replicate Int (Int.toNat width1) (0 : Int)), @Unit.unit))) fun (v3 : (Unit × ((List Int) × Unit))) =>
  some (v3.2.1)
 else
  none
theorem ref01_Big_S (N : Nat) (n0 : Int) (width1 : Int) : (runK Go.Proofs.Try.prog (Ev37 N) 400 76 [(.int .u64), (.int .i64)] [(.sl (.int .u8))] (n0, width1, ())).run = ref01_Big N n0 width1 := by kernel_rfl
noncomputable def Ev38 (N : Nat) : (R : Type) → Env R := Env.addFn (Ev37 N) 76 (fun R => fnK [(.int .u64), (.int .i64)] [(.sl (.int .u8))] (fun c => ref01_Big N c.1 c.2.1))
theorem Ev38_ok (N : Nat) (R : Type) : EnvOK Go.Proofs.Try.prog (Ev38 N R) := EnvOK.addFn hmx (Ev37_ok N R) (Ev37_ok N _) (by kernel_rfl) (fun c => ref01_Big_S N c.1 c.2.1)
noncomputable def ref17_Lay (N : Nat) (a0 : (Int) × (List (Int))) : Option ((List (Int)) × Int) :=
 Option.bind (@ref17_kind N a0.1) fun (v2 : Bool) =>
 bif (!v2) then
  some ((([] : List (Int)), (9 : Int)))
 else
  bif (decide ((4091 : Int) < (((List.length a0.2) : Nat) : Int))) then
   some ((([] : List (Int)), (8 : Int)))
  else
   Option.bind (@ref01_Big N (Go.IntKind.wrap .u64 (Go.IntKind.wrap .i64 ((4 : Int) + (((List.length a0.2) : Nat) : Int)))) (2 : Int)) fun (v3 : (List Int)) =>
   bif ((roomB ((List.length ([(0 : Int), a0.1] : List (Int))) + (List.length v3)) 1) && (!(@List.isEmpty Int v3))) then
    bif (roomB ((List.length (([(0 : Int), a0.1] : List (Int)) ++ v3)) + (List.length a0.2)) 1) then
     some ((((([(0 : Int), a0.1] : List (Int)) ++ v3) ++ a0.2), (0 : Int)))
    else
     none
   else
    none
theorem ref17_Lay_S (N : Nat) (a0 : (Int) × (List (Int))) : (runK Go.Proofs.Try.prog (Ev38 N) 400 16 [(.pair (.int .u8) (.sl (.int .u8)))] [(.sl (.int .u8)), (.int .i64)] (a0, ())).run = ref17_Lay N a0 := by kernel_rfl
noncomputable def Ev39 (N : Nat) : (R : Type) → Env R := Env.addFn (Ev38 N) 16 (fun R => fnK [(.pair (.int .u8) (.sl (.int .u8)))] [(.sl (.int .u8)), (.int .i64)] (fun c => ref17_Lay N c.1))
theorem Ev39_ok (N : Nat) (R : Type) : EnvOK Go.Proofs.Try.prog (Ev39 N R) := EnvOK.addFn hmx (Ev38_ok N R) (Ev38_ok N _) (by kernel_rfl) (fun c => ref17_Lay_S N c.1)
noncomputable def ref01_Num_L3_I : LI := ⟨20, 0, [], ⟨[(0, .ty (.sl (.int .u8))), (3, .ty (.int .u64)), (4, .ty (.int .i64))], []⟩, [(.exit 0, ⟨[(3, .ty (.int .u64))], []⟩)]⟩
noncomputable def ref01_Num_L3 (N : Nat) (X : (((List (Int)) × ((Int) × ((Int) × Unit))) × Unit) → Option ((((Int) × Unit) × Unit))) (b0 : List (Int)) (n3 : Int) (i4 : Int) : Option ((((Int) × Unit) × Unit)) :=
 bif (decide (i4 < (((List.length b0) : Nat) : Int))) then
  Option.bind (getI b0 i4) fun (v5 : Int) =>
  (X ((b0, ((Go.IntKind.wrap .u64 ((Go.IntKind.wrap .u64 (n3 * (256 : Int))) + (Go.IntKind.wrap .u64 v5))), ((Go.IntKind.wrap .i64 (i4 + (1 : Int))), @Unit.unit))), @Unit.unit))
 else
  some (((n3, @Unit.unit), @Unit.unit))
noncomputable def ref01_Num_L3_R (N : Nat) (c : (((List (Int)) × ((Int) × ((Int) × Unit))) × Unit)) : Option ((((Int) × Unit) × Unit)) := gl (fun X c => ref01_Num_L3 N X c.1.1 c.1.2.1 c.1.2.2.1) N c
theorem ref01_Num_L3_S (N : Nat) (X : (((List (Int)) × ((Int) × ((Int) × Unit))) × Unit) → Option ((((Int) × Unit) × Unit))) (b0 : List (Int)) (n3 : Int) (i4 : Int) : (roundK Go.Proofs.Try.prog (Ev39 N) 400 [79] ref01_Num_L3_I (loopAt Go.Proofs.Try.prog [79] 3) X ((b0, n3, i4, ()), ())).run = ref01_Num_L3 N X b0 n3 i4 := by kernel_rfl
noncomputable def Ev40 (N : Nat) : (R : Type) → Env R := Env.addLp (Ev39 N) [79] 0 3 (fun R => lpK Go.Proofs.Try.prog ref01_Num_L3_I (fun X c => ref01_Num_L3 N X c.1.1 c.1.2.1 c.1.2.2.1) N)
theorem Ev40_ok (N : Nat) (R : Type) : EnvOK Go.Proofs.Try.prog (Ev40 N R) := EnvOK.addLp (Ev39_ok N R) (by kernel_rfl) (lpK_ok (li := ref01_Num_L3_I) (G := fun X c => ref01_Num_L3 N X c.1.1 c.1.2.1 c.1.2.2.1) hmx (Ev39_ok N _) (by kernel_rfl) loopAt_sub (fun (X : CT ref01_Num_L3_I.sh → Option (OT ref01_Num_L3_I.outs)) (c : CT ref01_Num_L3_I.sh) => ref01_Num_L3_S N X c.1.1 c.1.2.1 c.1.2.2.1) N)
noncomputable def ref01_Num (N : Nat) (b0 : List (Int)) : Option (Int) :=
 Option.bind (ref01_Num_L3_R N ((b0, ((0 : Int), ((0 : Int), @Unit.unit))), @Unit.unit)) fun (v2 : ((Int × Unit) × Unit)) =>
 some (v2.1.1)
theorem ref01_Num_S (N : Nat) (b0 : List (Int)) : (runK Go.Proofs.Try.prog (Ev40 N) 400 79 [(.sl (.int .u8))] [(.int .u64)] (b0, ())).run = ref01_Num N b0 := by kernel_rfl
noncomputable def Ev41 (N : Nat) : (R : Type) → Env R := Env.addFn (Ev40 N) 79 (fun R => fnK [(.sl (.int .u8))] [(.int .u64)] (fun c => ref01_Num N c.1))
theorem Ev41_ok (N : Nat) (R : Type) : EnvOK Go.Proofs.Try.prog (Ev41 N R) := EnvOK.addFn hmx (Ev40_ok N R) (Ev40_ok N _) (by kernel_rfl) (fun c => ref01_Num_S N c.1)
noncomputable def ref17_Parse (N : Nat) (b0 : List (Int)) : Option (((Int) × (List (Int))) × (Int) × Int) :=
 bif (decide ((((List.length b0) : Nat) : Int) < (4 : Int))) then
  some ((((0 : Int), ([] : List (Int))), ((0 : Int), (4 : Int))))
 else
  Option.bind (subI b0 (2 : Int) (4 : Int)) fun (v2 : (List Int)) =>
  Option.bind (@ref01_Num N v2) fun (v3 : Int) =>
  Option.bind (getI b0 (0 : Int)) fun (v4 : Int) =>
  bif (!(decide (v4 = (0 : Int)))) then
   some ((((0 : Int), ([] : List (Int))), ((0 : Int), (3 : Int))))
  else
   bif (@cond Bool @Bool.false @Bool.true (decide ((Go.IntKind.wrap .i64 v3) < (4 : Int)))) then
    some ((((0 : Int), ([] : List (Int))), ((0 : Int), (3 : Int))))
   else
    bif (@cond Bool @Bool.false @Bool.true (decide ((4095 : Int) < (Go.IntKind.wrap .i64 v3)))) then
     some ((((0 : Int), ([] : List (Int))), ((0 : Int), (3 : Int))))
    else
     Option.bind (getI b0 (1 : Int)) fun (v5 : Int) =>
     Option.bind (@ref17_kind N v5) fun (v6 : Bool) =>
     bif (!v6) then
      some ((((0 : Int), ([] : List (Int))), ((0 : Int), (9 : Int))))
     else
      bif (decide ((((List.length b0) : Nat) : Int) < (Go.IntKind.wrap .i64 v3))) then
       some ((((0 : Int), ([] : List (Int))), ((0 : Int), (4 : Int))))
      else
       Option.bind (getI b0 (1 : Int)) fun (v7 : Int) =>
       Option.bind (subI b0 (4 : Int) (Go.IntKind.wrap .i64 v3)) fun (v8 : (List Int)) =>
       some (((v7, v8), ((Go.IntKind.wrap .i64 v3), (0 : Int))))
theorem ref17_Parse_S (N : Nat) (b0 : List (Int)) : (runK Go.Proofs.Try.prog (Ev41 N) 400 18 [(.sl (.int .u8))] [(.pair (.int .u8) (.sl (.int .u8))), (.int .i64), (.int .i64)] (b0, ())).run = ref17_Parse N b0 := by kernel_rfl
noncomputable def Ev42 (N : Nat) : (R : Type) → Env R := Env.addFn (Ev41 N) 18 (fun R => fnK [(.sl (.int .u8))] [(.pair (.int .u8) (.sl (.int .u8))), (.int .i64), (.int .i64)] (fun c => ref17_Parse N c.1))
theorem Ev42_ok (N : Nat) (R : Type) : EnvOK Go.Proofs.Try.prog (Ev42 N R) := EnvOK.addFn hmx (Ev41_ok N R) (Ev41_ok N _) (by kernel_rfl) (fun c => ref17_Parse_S N c.1)
noncomputable def ref01_Same_L4_I : LI := ⟨26, 0, [], ⟨[(0, .ty (.sl (.int .u8))), (1, .ty (.sl (.int .u8))), (5, .ty (.int .i64))], []⟩, [(.ret, ⟨[(4, .ty .bool)], []⟩), (.exit 0, ⟨[], []⟩)]⟩
noncomputable def ref01_Same_L4 (N : Nat) (X : (((List (Int)) × ((List (Int)) × ((Int) × Unit))) × Unit) → Option (((((Bool) × Unit) × Unit) ⊕ (Unit × Unit)))) (a0 : List (Int)) (b1 : List (Int)) (i5 : Int) : Option (((((Bool) × Unit) × Unit) ⊕ (Unit × Unit))) :=
 bif (decide (i5 < (((List.length a0) : Nat) : Int))) then
  Option.bind (getI a0 i5) fun (v5 : Int) =>
  Option.bind (getI b1 i5) fun (v6 : Int) =>
  bif (!(decide (v5 = v6))) then
   some ((.inl ((@Bool.false, @Unit.unit), @Unit.unit)))
  else
   (X ((a0, (b1, ((Go.IntKind.wrap .i64 (i5 + (1 : Int))), @Unit.unit))), @Unit.unit))
 else
  some ((.inr (@Unit.unit, @Unit.unit)))
noncomputable def ref01_Same_L4_R (N : Nat) (c : (((List (Int)) × ((List (Int)) × ((Int) × Unit))) × Unit)) : Option (((((Bool) × Unit) × Unit) ⊕ (Unit × Unit))) := gl (fun X c => ref01_Same_L4 N X c.1.1 c.1.2.1 c.1.2.2.1) N c
theorem ref01_Same_L4_S (N : Nat) (X : (((List (Int)) × ((List (Int)) × ((Int) × Unit))) × Unit) → Option (((((Bool) × Unit) × Unit) ⊕ (Unit × Unit)))) (a0 : List (Int)) (b1 : List (Int)) (i5 : Int) : (roundK Go.Proofs.Try.prog (Ev42 N) 400 [19] ref01_Same_L4_I (loopAt Go.Proofs.Try.prog [19] 4) X ((a0, b1, i5, ()), ())).run = ref01_Same_L4 N X a0 b1 i5 := by kernel_rfl
noncomputable def Ev43 (N : Nat) : (R : Type) → Env R := Env.addLp (Ev42 N) [19] 0 4 (fun R => lpK Go.Proofs.Try.prog ref01_Same_L4_I (fun X c => ref01_Same_L4 N X c.1.1 c.1.2.1 c.1.2.2.1) N)
theorem Ev43_ok (N : Nat) (R : Type) : EnvOK Go.Proofs.Try.prog (Ev43 N R) := EnvOK.addLp (Ev42_ok N R) (by kernel_rfl) (lpK_ok (li := ref01_Same_L4_I) (G := fun X c => ref01_Same_L4 N X c.1.1 c.1.2.1 c.1.2.2.1) hmx (Ev42_ok N _) (by kernel_rfl) loopAt_sub (fun (X : CT ref01_Same_L4_I.sh → Option (OT ref01_Same_L4_I.outs)) (c : CT ref01_Same_L4_I.sh) => ref01_Same_L4_S N X c.1.1 c.1.2.1 c.1.2.2.1) N)
noncomputable def ref01_Same (N : Nat) (a0 : List (Int)) (b1 : List (Int)) : Option (Bool) :=
 bif (!(decide ((((List.length a0) : Nat) : Int) = (((List.length b1) : Nat) : Int)))) then
  some (@Bool.false)
 else
  Option.bind (ref01_Same_L4_R N ((a0, (b1, ((0 : Int), @Unit.unit))), @Unit.unit)) fun (v3 : (((Bool × Unit) × Unit) ⊕ (Unit × Unit))) =>
  Sum.elim
   (fun (v4 : ((Bool × Unit) × Unit)) =>
   some (v4.1.1))
   (fun (v4 : (Unit × Unit)) =>
   some (@Bool.true)) v3
theorem ref01_Same_S (N : Nat) (a0 : List (Int)) (b1 : List (Int)) : (runK Go.Proofs.Try.prog (Ev43 N) 400 19 [(.sl (.int .u8)), (.sl (.int .u8))] [.bool] (a0, b1, ())).run = ref01_Same N a0 b1 := by kernel_rfl
noncomputable def Ev44 (N : Nat) : (R : Type) → Env R := Env.addFn (Ev43 N) 19 (fun R => fnK [(.sl (.int .u8)), (.sl (.int .u8))] [.bool] (fun c => ref01_Same N c.1 c.2.1))
theorem Ev44_ok (N : Nat) (R : Type) : EnvOK Go.Proofs.Try.prog (Ev44 N R) := EnvOK.addFn hmx (Ev43_ok N R) (Ev43_ok N _) (by kernel_rfl) (fun c => ref01_Same_S N c.1 c.2.1)
noncomputable def Ev45 (N : Nat) : (R : Type) → Env R := Env.addBx (Ev44 N) [(22, 0)]
theorem Ev45_ok (N : Nat) (R : Type) : EnvOK Go.Proofs.Try.prog (Ev45 N R) := EnvOK.addBx (Ev44_ok N R) [(22, 0)]
noncomputable def ref17_zeros_L2_I : LI := ⟨15, 0, [], ⟨[(0, .ty (.sl (.int .u8))), (3, .ty (.int .i64))], []⟩, [(.ret, ⟨[(2, .ty .bool)], []⟩), (.exit 0, ⟨[], []⟩)]⟩
noncomputable def ref17_zeros_L2 (N : Nat) (X : (((List (Int)) × ((Int) × Unit)) × Unit) → Option (((((Bool) × Unit) × Unit) ⊕ (Unit × Unit)))) (b0 : List (Int)) (i3 : Int) : Option (((((Bool) × Unit) × Unit) ⊕ (Unit × Unit))) :=
 bif (decide (i3 < (((List.length b0) : Nat) : Int))) then
  Option.bind (getI b0 i3) fun (v4 : Int) =>
  bif (!(decide (v4 = (0 : Int)))) then
   some ((.inl ((@Bool.false, @Unit.unit), @Unit.unit)))
  else
   (X ((b0, ((Go.IntKind.wrap .i64 (i3 + (1 : Int))), @Unit.unit)), @Unit.unit))
 else
  some ((.inr (@Unit.unit, @Unit.unit)))
noncomputable def ref17_zeros_L2_R (N : Nat) (c : (((List (Int)) × ((Int) × Unit)) × Unit)) : Option (((((Bool) × Unit) × Unit) ⊕ (Unit × Unit))) := gl (fun X c => ref17_zeros_L2 N X c.1.1 c.1.2.1) N c
theorem ref17_zeros_L2_S (N : Nat) (X : (((List (Int)) × ((Int) × Unit)) × Unit) → Option (((((Bool) × Unit) × Unit) ⊕ (Unit × Unit)))) (b0 : List (Int)) (i3 : Int) : (roundK Go.Proofs.Try.prog (Ev45 N) 400 [82] ref17_zeros_L2_I (loopAt Go.Proofs.Try.prog [82] 2) X ((b0, i3, ()), ())).run = ref17_zeros_L2 N X b0 i3 := by kernel_rfl
noncomputable def Ev46 (N : Nat) : (R : Type) → Env R := Env.addLp (Ev45 N) [82] 0 2 (fun R => lpK Go.Proofs.Try.prog ref17_zeros_L2_I (fun X c => ref17_zeros_L2 N X c.1.1 c.1.2.1) N)
theorem Ev46_ok (N : Nat) (R : Type) : EnvOK Go.Proofs.Try.prog (Ev46 N R) := EnvOK.addLp (Ev45_ok N R) (by kernel_rfl) (lpK_ok (li := ref17_zeros_L2_I) (G := fun X c => ref17_zeros_L2 N X c.1.1 c.1.2.1) hmx (Ev45_ok N _) (by kernel_rfl) loopAt_sub (fun (X : CT ref17_zeros_L2_I.sh → Option (OT ref17_zeros_L2_I.outs)) (c : CT ref17_zeros_L2_I.sh) => ref17_zeros_L2_S N X c.1.1 c.1.2.1) N)
noncomputable def ref17_zeros (N : Nat) (b0 : List (Int)) : Option (Bool) :=
 Option.bind (ref17_zeros_L2_R N ((b0, ((0 : Int), @Unit.unit)), @Unit.unit)) fun (v2 : (((Bool × Unit) × Unit) ⊕ (Unit × Unit))) =>
 Sum.elim
  (fun (v3 : ((Bool × Unit) × Unit)) =>
  some (v3.1.1))
  (fun (v3 : (Unit × Unit)) =>
  some (@Bool.true)) v2
theorem ref17_zeros_S (N : Nat) (b0 : List (Int)) : (runK Go.Proofs.Try.prog (Ev46 N) 400 82 [(.sl (.int .u8))] [.bool] (b0, ())).run = ref17_zeros N b0 := by kernel_rfl
noncomputable def Ev47 (N : Nat) : (R : Type) → Env R := Env.addFn (Ev46 N) 82 (fun R => fnK [(.sl (.int .u8))] [.bool] (fun c => ref17_zeros N c.1))
theorem Ev47_ok (N : Nat) (R : Type) : EnvOK Go.Proofs.Try.prog (Ev47 N R) := EnvOK.addFn hmx (Ev46_ok N R) (Ev46_ok N _) (by kernel_rfl) (fun c => ref17_zeros_S N c.1)
noncomputable def ref17_Check (N : Nat) (a0 : (Int) × (List (Int))) : Option (Int) :=
 Option.bind (@ref17_kind N a0.1) fun (v2 : Bool) =>
 bif (!v2) then
  some ((9 : Int))
 else
  Option.bind (getI ([(2 : Int), (8 : Int), (100 : Int), (36 : Int)] : List (Int)) (Go.IntKind.wrap .u8 (a0.1 - (1 : Int)))) fun (v3 : Int) =>
  Option.bind (getI ([(2 : Int), (72 : Int), (100 : Int), (36 : Int)] : List (Int)) (Go.IntKind.wrap .u8 (a0.1 - (1 : Int)))) fun (v4 : Int) =>
  bif (decide ((((List.length a0.2) : Nat) : Int) < v3)) then
   some ((4 : Int))
  else
   bif (decide (v4 < (((List.length a0.2) : Nat) : Int))) then
    some ((3 : Int))
   else
    bif (decide (a0.1 = (1 : Int))) then
     some ((0 : Int))
    else
     Option.bind (getI a0.2 (3 : Int)) fun (v5 : Int) =>
     Option.bind (takeI a0.2 (3 : Int)) fun (v6 : (List Int)) =>
     Option.bind (@ref17_zeros N v6) fun (v7 : Bool) =>
     bif (!v7) then
      some ((3 : Int))
     else
      bif (decide (a0.1 = (2 : Int))) then
       bif (@cond Bool @Bool.false @Bool.true (@cond Bool @Bool.true (decide ((4 : Int) < v5)) @Bool.false)) then
        some ((3 : Int))
       else
        bif (decide (a0.1 = (3 : Int))) then
         bif (@cond Bool @Bool.true (!(decide (v5 = (1 : Int)))) @Bool.false) then
          bif (@cond Bool @Bool.false @Bool.true (@cond Bool @Bool.true (!(decide (v5 = (2 : Int)))) @Bool.false)) then
           some ((3 : Int))
          else
           bif (decide (a0.1 = (4 : Int))) then
            bif (decide (v5 < (1 : Int))) then
             some ((3 : Int))
            else
             bif (@cond Bool @Bool.false @Bool.true (@cond Bool @Bool.true (@cond Bool @Bool.false @Bool.true (decide ((3 : Int) < v5))) @Bool.false)) then
              some ((3 : Int))
             else
              some ((0 : Int))
           else
            some ((0 : Int))
         else
          bif (decide (a0.1 = (4 : Int))) then
           bif (decide (v5 < (1 : Int))) then
            some ((3 : Int))
           else
            bif (@cond Bool @Bool.false @Bool.true (@cond Bool @Bool.true (@cond Bool @Bool.false @Bool.true (decide ((3 : Int) < v5))) @Bool.false)) then
             some ((3 : Int))
            else
             some ((0 : Int))
          else
           some ((0 : Int))
        else
         bif (decide (a0.1 = (4 : Int))) then
          bif (decide (v5 < (1 : Int))) then
           some ((3 : Int))
          else
           bif (@cond Bool @Bool.false @Bool.true (@cond Bool @Bool.true (@cond Bool @Bool.false @Bool.true (decide ((3 : Int) < v5))) @Bool.false)) then
            some ((3 : Int))
           else
            some ((0 : Int))
         else
          some ((0 : Int))
      else
       bif (decide (a0.1 = (3 : Int))) then
        bif (@cond Bool @Bool.true (!(decide (v5 = (1 : Int)))) @Bool.false) then
         bif (@cond Bool @Bool.false @Bool.true (@cond Bool @Bool.true (!(decide (v5 = (2 : Int)))) @Bool.false)) then
          some ((3 : Int))
         else
          bif (decide (a0.1 = (4 : Int))) then
           bif (decide (v5 < (1 : Int))) then
            some ((3 : Int))
           else
            bif (@cond Bool @Bool.false @Bool.true (@cond Bool @Bool.true (@cond Bool @Bool.false @Bool.true (decide ((3 : Int) < v5))) @Bool.false)) then
             some ((3 : Int))
            else
             some ((0 : Int))
          else
           some ((0 : Int))
        else
         bif (decide (a0.1 = (4 : Int))) then
          bif (decide (v5 < (1 : Int))) then
           some ((3 : Int))
          else
           bif (@cond Bool @Bool.false @Bool.true (@cond Bool @Bool.true (@cond Bool @Bool.false @Bool.true (decide ((3 : Int) < v5))) @Bool.false)) then
            some ((3 : Int))
           else
            some ((0 : Int))
         else
          some ((0 : Int))
       else
        bif (decide (a0.1 = (4 : Int))) then
         bif (decide (v5 < (1 : Int))) then
          some ((3 : Int))
         else
          bif (@cond Bool @Bool.false @Bool.true (@cond Bool @Bool.true (@cond Bool @Bool.false @Bool.true (decide ((3 : Int) < v5))) @Bool.false)) then
           some ((3 : Int))
          else
           some ((0 : Int))
        else
         some ((0 : Int))
theorem ref17_Check_S (N : Nat) (a0 : (Int) × (List (Int))) : (runK Go.Proofs.Try.prog (Ev47 N) 400 22 [(.pair (.int .u8) (.sl (.int .u8)))] [(.int .i64)] (a0, ())).run = ref17_Check N a0 := by kernel_rfl
noncomputable def Ev48 (N : Nat) : (R : Type) → Env R := Env.addFn (Ev47 N) 22 (fun R => fnK [(.pair (.int .u8) (.sl (.int .u8)))] [(.int .i64)] (fun c => ref17_Check N c.1))
theorem Ev48_ok (N : Nat) (R : Type) : EnvOK Go.Proofs.Try.prog (Ev48 N R) := EnvOK.addFn hmx (Ev47_ok N R) (Ev47_ok N _) (by kernel_rfl) (fun c => ref17_Check_S N c.1)
noncomputable def law17_AttrLays (N : Nat) (a0 : (Int) × (List (Int))) (b1 : List (Int)) : Option (Bool) :=
 bif (decide ((5000 : Int) < (((List.length a0.2) : Nat) : Int))) then
  Option.bind (@law17_alive N) fun (v3 : Bool) =>
  some (v3)
 else
  bif (@cond Bool @Bool.false @Bool.true (decide ((5000 : Int) < (((List.length b1) : Nat) : Int)))) then
   Option.bind (@law17_alive N) fun (v3 : Bool) =>
   some (v3)
  else
   Option.bind (@attr_Lay N (a0.1, a0.2)) fun (v3 : ((List Int) × Int)) =>
   Option.bind (@ref17_Lay N (a0.1, a0.2)) fun (v4 : ((List Int) × Int)) =>
   Option.bind (@attr_Parse N b1) fun (v5 : ((Int × (List Int)) × (Int × Int))) =>
   Option.bind (@ref17_Parse N b1) fun (v6 : ((Int × (List Int)) × (Int × Int))) =>
   bif (roomB (List.length v3.1) 1) then
    bif (roomB ((List.length v3.1) + (List.length b1)) 1) then
     Option.bind (@attr_Parse N (v3.1 ++ b1)) fun (v7 : ((Int × (List Int)) × (Int × Int))) =>
     Option.bind (@ref01_Same N v3.1 v4.1) fun (v8 : Bool) =>
     bif v8 then
      bif (@cond Bool @Bool.true (decide (v3.2 = v4.2)) @Bool.false) then
       Option.bind (@attr_Same N (v5.1.1, v5.1.2) (v6.1.1, v6.1.2)) fun (v9 : Bool) =>
       bif (@cond Bool @Bool.true v9 @Bool.false) then
        bif (@cond Bool @Bool.true (decide (v5.2.1 = v6.2.1)) @Bool.false) then
         bif (@cond Bool @Bool.true (decide (v5.2.2 = v6.2.2)) @Bool.false) then
          Option.bind (@attr_Check N (a0.1, a0.2)) fun (v10 : Int) =>
          Option.bind (@ref17_Check N (a0.1, a0.2)) fun (v11 : Int) =>
          bif (@cond Bool @Bool.true (decide (v10 = v11)) @Bool.false) then
           bif (!(decide (v3.2 = (0 : Int)))) then
            Option.bind (@law17_alive N) fun (v12 : Bool) =>
            some ((@cond Bool @Bool.true v12 @Bool.false))
           else
            Option.bind (@attr_Same N (v7.1.1, v7.1.2) (a0.1, a0.2)) fun (v12 : Bool) =>
            bif v12 then
             bif (@cond Bool @Bool.true (decide (v7.2.1 = (((List.length v3.1) : Nat) : Int))) @Bool.false) then
              bif (@cond Bool @Bool.true (@cond Bool @Bool.false @Bool.true (@cond Bool @Bool.true (decide (v7.2.2 = (0 : Int))) @Bool.false)) @Bool.false) then
               Option.bind (@law17_alive N) fun (v13 : Bool) =>
               some ((@cond Bool @Bool.true v13 @Bool.false))
              else
               some (@Bool.false)
             else
              some (@Bool.false)
            else
             some (@Bool.false)
          else
           some (@Bool.false)
         else
          some (@Bool.false)
        else
         some (@Bool.false)
       else
        some (@Bool.false)
      else
       some (@Bool.false)
     else
      some (@Bool.false)
    else
     none
   else
    none
theorem law17_AttrLays_S (N : Nat) (a0 : (Int) × (List (Int))) (b1 : List (Int)) : (runK Go.Proofs.Try.prog (Ev48 N) 400 3 [(.pair (.int .u8) (.sl (.int .u8))), (.sl (.int .u8))] [.bool] (a0, b1, ())).run = law17_AttrLays N a0 b1 := by kernel_rfl
theorem law17_AttrLays_C (N : Nat) (a0 : (Int) × (List (Int))) (b1 : List (Int)) (y : Bool) (h : law17_AttrLays N a0 b1 = some y) : CallsK Go.Proofs.Try.prog 3 (valA [(.pair (.int .u8) (.sl (.int .u8))), (.sl (.int .u8))] (a0, b1, ())) (tupV (valR [.bool] y)) := runK_ok hmx (Ev48_ok N _) (okFn_ok (by kernel_rfl)) (by rw [law17_AttrLays_S]; exact h)
noncomputable def Ev49 (N : Nat) : (R : Type) → Env R := Env.addFn (Ev48 N) 3 (fun R => fnK [(.pair (.int .u8) (.sl (.int .u8))), (.sl (.int .u8))] [.bool] (fun c => law17_AttrLays N c.1 c.2.1))
theorem Ev49_ok (N : Nat) (R : Type) : EnvOK Go.Proofs.Try.prog (Ev49 N R) := EnvOK.addFn hmx (Ev48_ok N R) (Ev48_ok N _) (by kernel_rfl) (fun c => law17_AttrLays_S N c.1 c.2.1)
noncomputable def Ev50 (N : Nat) : (R : Type) → Env R := Env.addBx (Ev49 N) [(5, 0)]
theorem Ev50_ok (N : Nat) (R : Type) : EnvOK Go.Proofs.Try.prog (Ev50 N R) := EnvOK.addBx (Ev49_ok N R) [(5, 0)]
noncomputable def Ev51 (N : Nat) : (R : Type) → Env R := Env.addBx (Ev50 N) [(29, 0)]
theorem Ev51_ok (N : Nat) (R : Type) : EnvOK Go.Proofs.Try.prog (Ev51 N R) := EnvOK.addBx (Ev50_ok N R) [(29, 0)]
noncomputable def attr_ToStatus (N : Nat) (a0 : (Int) × (List (Int))) : Option (((Int) × ((Int) × (List (Int)))) × Int) :=
 Option.bind (@attr_checked N (a0.1, a0.2) (2 : Int)) fun (v2 : Int) =>
 bif (!(decide (v2 = (0 : Int)))) then
  some ((((0 : Int), ((0 : Int), ([] : List (Int)))), v2))
 else
  Option.bind (subI a0.2 (4 : Int) (8 : Int)) fun (v3 : (List Int)) =>
  Option.bind (@octs_Get N v3 @Bool.false) fun (v4 : (Int × Int)) =>
  Option.bind (getI a0.2 (3 : Int)) fun (v5 : Int) =>
  Option.bind (dropI a0.2 (8 : Int)) fun (v6 : (List Int)) =>
  Option.bind (@slices_Clone_byte_byte N v6) fun (v7 : (List Int)) =>
  some (((v5, ((Go.IntKind.wrap .u32 v4.1), v7)), (0 : Int)))
theorem attr_ToStatus_S (N : Nat) (a0 : (Int) × (List (Int))) : (runK Go.Proofs.Try.prog (Ev51 N) 400 29 [(.pair (.int .u8) (.sl (.int .u8)))] [(.pair (.int .u8) (.pair (.int .u32) (.sl (.int .u8)))), (.int .i64)] (a0, ())).run = attr_ToStatus N a0 := by kernel_rfl
noncomputable def Ev52 (N : Nat) : (R : Type) → Env R := Env.addFn (Ev51 N) 29 (fun R => fnK [(.pair (.int .u8) (.sl (.int .u8)))] [(.pair (.int .u8) (.pair (.int .u32) (.sl (.int .u8)))), (.int .i64)] (fun c => attr_ToStatus N c.1))
theorem Ev52_ok (N : Nat) (R : Type) : EnvOK Go.Proofs.Try.prog (Ev52 N R) := EnvOK.addFn hmx (Ev51_ok N R) (Ev51_ok N _) (by kernel_rfl) (fun c => attr_ToStatus_S N c.1)
noncomputable def Ev53 (N : Nat) : (R : Type) → Env R := Env.addBx (Ev52 N) [(30, 0)]
theorem Ev53_ok (N : Nat) (R : Type) : EnvOK Go.Proofs.Try.prog (Ev53 N R) := EnvOK.addBx (Ev52_ok N R) [(30, 0)]
noncomputable def attr_ToBinding (N : Nat) (a0 : (Int) × (List (Int))) : Option (((Int) × ((Arr (Int) 32) × ((Arr (Int) 32) × (Arr (Int) 32)))) × Int) :=
 Option.bind (@attr_checked N (a0.1, a0.2) (3 : Int)) fun (v2 : Int) =>
 bif (!(decide (v2 = (0 : Int)))) then
  some ((((0 : Int), ((@Arr.cons Int (31 : Nat) (0 : Int) (@Arr.cons Int (30 : Nat) (0 : Int) (@Arr.cons Int (29 : Nat) (0 : Int) (@Arr.cons Int (28 : Nat) (0 : Int) (@Arr.cons Int (27 : Nat) (0 : Int) (@Arr.cons Int (26 : Nat) (0 : Int) (@Arr.cons Int (25 : Nat) (0 : Int) (@Arr.cons Int (24 : Nat) (0 : Int) (@Arr.cons Int (23 : Nat) (0 : Int) (@Arr.cons Int (22 : Nat) (0 : Int) (@Arr.cons Int (21 : Nat) (0 : Int) (@Arr.cons Int (20 : Nat) (0 : Int) (@Arr.cons Int (19 : Nat) (0 : Int) (@Arr.cons Int (18 : Nat) (0 : Int) (@Arr.cons Int (17 : Nat) (0 : Int) (@Arr.cons Int (16 : Nat) (0 : Int) (@Arr.cons Int (15 : Nat) (0 : Int) (@Arr.cons Int (14 : Nat) (0 : Int) (@Arr.cons Int (13 : Nat) (0 : Int) (@Arr.cons Int (12 : Nat) (0 : Int) (@Arr.cons Int (11 : Nat) (0 : Int) (@Arr.cons Int (10 : Nat) (0 : Int) (@Arr.cons Int (9 : Nat) (0 : Int) (@Arr.cons Int (8 : Nat) (0 : Int) (@Arr.cons Int (7 : Nat) (0 : Int) (@Arr.cons Int (6 : Nat) (0 : Int) (@Arr.cons Int (5 : Nat) (0 : Int) (@Arr.cons Int (4 : Nat) (0 : Int) (@Arr.cons Int (3 : Nat) (0 : Int) (@Arr.cons Int (2 : Nat) (0 : Int) (@Arr.cons Int (1 : Nat) (0 : Int) (@Arr.cons Int (0 : Nat) (0 : Int) (@Arr.nil Int))))))))))))))))))))))))))))))))), ((@Arr.cons Int (31 : Nat) (0 : Int) (@Arr.cons Int (30 : Nat) (0 : Int) (@Arr.cons Int (29 : Nat) (0 : Int) (@Arr.cons Int (28 : Nat) (0 : Int) (@Arr.cons Int (27 : Nat) (0 : Int) (@Arr.cons Int (26 : Nat) (0 : Int) (@Arr.cons Int (25 : Nat) (0 : Int) (@Arr.cons Int (24 : Nat) (0 : Int) (@Arr.cons Int (23 : Nat) (0 : Int) (@Arr.cons Int (22 : Nat) (0 : Int) (@Arr.cons Int (21 : Nat) (0 : Int) (@Arr.cons Int (20 : Nat) (0 : Int) (@Arr.cons Int (19 : Nat) (0 : Int) (@Arr.cons Int (18 : Nat) (0 : Int) (@Arr.cons Int (17 : Nat) (0 : Int) (@Arr.cons Int (16 : Nat) (0 : Int) (@Arr.cons Int (15 : Nat) (0 : Int) (@Arr.cons Int (14 : Nat) (0 : Int) (@Arr.cons Int (13 : Nat) (0 : Int) (@Arr.cons Int (12 : Nat) (0 : Int) (@Arr.cons Int (11 : Nat) (0 : Int) (@Arr.cons Int (10 : Nat) (0 : Int) (@Arr.cons Int (9 : Nat) (0 : Int) (@Arr.cons Int (8 : Nat) (0 : Int) (@Arr.cons Int (7 : Nat) (0 : Int) (@Arr.cons Int (6 : Nat) (0 : Int) (@Arr.cons Int (5 : Nat) (0 : Int) (@Arr.cons Int (4 : Nat) (0 : Int) (@Arr.cons Int (3 : Nat) (0 : Int) (@Arr.cons Int (2 : Nat) (0 : Int) (@Arr.cons Int (1 : Nat) (0 : Int) (@Arr.cons Int (0 : Nat) (0 : Int) (@Arr.nil Int))))))))))))))))))))))))))))))))), (@Arr.cons Int (31 : Nat) (0 : Int) (@Arr.cons Int (30 : Nat) (0 : Int) (@Arr.cons Int (29 : Nat) (0 : Int) (@Arr.cons Int (28 : Nat) (0 : Int) (@Arr.cons Int (27 : Nat) (0 : Int) (@Arr.cons Int (26 : Nat) (0 : Int) (@Arr.cons Int (25 : Nat) (0 : Int) (@Arr.cons Int (24 : Nat) (0 : Int) (@Arr.cons Int (23 : Nat) (0 : Int) (@Arr.cons Int (22 : Nat) (0 : Int) (@Arr.cons Int (21 : Nat) (0 : Int) (@Arr.cons Int (20 : Nat) (0 : Int) (@Arr.cons Int (19 : Nat) (0 : Int) (@Arr.cons Int (18 : Nat) (0 : Int) (@Arr.cons Int (17 : Nat) (0 : Int) (@Arr.cons Int (16 : Nat) (0 : Int) (@Arr.cons Int (15 : Nat) (0 : Int) (@Arr.cons Int (14 : Nat) (0 : Int) (@Arr.cons Int (13 : Nat) (0 : Int) (@Arr.cons Int (12 : Nat) (0 : Int) (@Arr.cons Int (11 : Nat) (0 : Int) (@Arr.cons Int (10 : Nat) (0 : Int) (@Arr.cons Int (9 : Nat) (0 : Int) (@Arr.cons Int (8 : Nat) (0 : Int) (@Arr.cons Int (7 : Nat) (0 : Int) (@Arr.cons Int (6 : Nat) (0 : Int) (@Arr.cons Int (5 : Nat) (0 : Int) (@Arr.cons Int (4 : Nat) (0 : Int) (@Arr.cons Int (3 : Nat) (0 : Int) (@Arr.cons Int (2 : Nat) (0 : Int) (@Arr.cons Int (1 : Nat) (0 : Int) (@Arr.cons Int (0 : Nat) (0 : Int) (@Arr.nil Int)))))))))))))))))))))))))))))))))))), v2))
 else
  Option.bind (getI a0.2 (3 : Int)) fun (v3 : Int) =>
  Option.bind (subI a0.2 (4 : Int) (36 : Int)) fun (v4 : (List Int)) =>
  Option.bind (@toArr Int (32 : Nat) v4) fun (v5 : (Arr Int 32)) =>
  Option.bind (subI a0.2 (36 : Int) (68 : Int)) fun (v6 : (List Int)) =>
  Option.bind (@toArr Int (32 : Nat) v6) fun (v7 : (Arr Int 32)) =>
  Option.bind (dropI a0.2 (68 : Int)) fun (v8 : (List Int)) =>
  Option.bind (@toArr Int (32 : Nat) v8) fun (v9 : (Arr Int 32)) =>
  some (((v3, (v5, (v7, v9))), (0 : Int)))
theorem attr_ToBinding_S (N : Nat) (a0 : (Int) × (List (Int))) : (runK Go.Proofs.Try.prog (Ev53 N) 400 30 [(.pair (.int .u8) (.sl (.int .u8)))] [(.pair (.int .u8) (.pair (.arr 32 (.int .u8)) (.pair (.arr 32 (.int .u8)) (.arr 32 (.int .u8))))), (.int .i64)] (a0, ())).run = attr_ToBinding N a0 := by kernel_rfl
noncomputable def Ev54 (N : Nat) : (R : Type) → Env R := Env.addFn (Ev53 N) 30 (fun R => fnK [(.pair (.int .u8) (.sl (.int .u8)))] [(.pair (.int .u8) (.pair (.arr 32 (.int .u8)) (.pair (.arr 32 (.int .u8)) (.arr 32 (.int .u8))))), (.int .i64)] (fun c => attr_ToBinding N c.1))
theorem Ev54_ok (N : Nat) (R : Type) : EnvOK Go.Proofs.Try.prog (Ev54 N R) := EnvOK.addFn hmx (Ev53_ok N R) (Ev53_ok N _) (by kernel_rfl) (fun c => attr_ToBinding_S N c.1)
noncomputable def Ev55 (N : Nat) : (R : Type) → Env R := Env.addBx (Ev54 N) [(34, 0)]
theorem Ev55_ok (N : Nat) (R : Type) : EnvOK Go.Proofs.Try.prog (Ev55 N R) := EnvOK.addBx (Ev54_ok N R) [(34, 0)]
noncomputable def ref17_To (N : Nat) (a0 : (Int) × (List (Int))) (id1 : Int) : Option (Int) :=
 bif (!(decide (a0.1 = id1))) then
  some ((9 : Int))
 else
  Option.bind (@ref17_Check N (a0.1, a0.2)) fun (v3 : Int) =>
  some (v3)
theorem ref17_To_S (N : Nat) (a0 : (Int) × (List (Int))) (id1 : Int) : (runK Go.Proofs.Try.prog (Ev55 N) 400 34 [(.pair (.int .u8) (.sl (.int .u8))), (.int .u8)] [(.int .i64)] (a0, id1, ())).run = ref17_To N a0 id1 := by kernel_rfl
noncomputable def Ev56 (N : Nat) : (R : Type) → Env R := Env.addFn (Ev55 N) 34 (fun R => fnK [(.pair (.int .u8) (.sl (.int .u8))), (.int .u8)] [(.int .i64)] (fun c => ref17_To N c.1 c.2.1))
theorem Ev56_ok (N : Nat) (R : Type) : EnvOK Go.Proofs.Try.prog (Ev56 N R) := EnvOK.addFn hmx (Ev55_ok N R) (Ev55_ok N _) (by kernel_rfl) (fun c => ref17_To_S N c.1 c.2.1)
noncomputable def Ev57 (N : Nat) : (R : Type) → Env R := Env.addBx (Ev56 N) [(24, 0)]
theorem Ev57_ok (N : Nat) (R : Type) : EnvOK Go.Proofs.Try.prog (Ev57 N R) := EnvOK.addBx (Ev56_ok N R) [(24, 0)]
noncomputable def attr_OfBinding (N : Nat) (x0 : (Int) × ((Arr (Int) 32) × ((Arr (Int) 32) × (Arr (Int) 32)))) : Option ((Int) × (List (Int))) :=
 Option.bind (@attr_behind N x0.1 ([x0.2.1.l, x0.2.2.1.l, x0.2.2.2.l] : List ((List Int)))) fun (v2 : (List Int)) =>
 some (((3 : Int), v2))
theorem attr_OfBinding_S (N : Nat) (x0 : (Int) × ((Arr (Int) 32) × ((Arr (Int) 32) × (Arr (Int) 32)))) : (runK Go.Proofs.Try.prog (Ev57 N) 400 24 [(.pair (.int .u8) (.pair (.arr 32 (.int .u8)) (.pair (.arr 32 (.int .u8)) (.arr 32 (.int .u8)))))] [(.pair (.int .u8) (.sl (.int .u8)))] (x0, ())).run = attr_OfBinding N x0 := by kernel_rfl
noncomputable def Ev58 (N : Nat) : (R : Type) → Env R := Env.addFn (Ev57 N) 24 (fun R => fnK [(.pair (.int .u8) (.pair (.arr 32 (.int .u8)) (.pair (.arr 32 (.int .u8)) (.arr 32 (.int .u8)))))] [(.pair (.int .u8) (.sl (.int .u8)))] (fun c => attr_OfBinding N c.1))
theorem Ev58_ok (N : Nat) (R : Type) : EnvOK Go.Proofs.Try.prog (Ev58 N R) := EnvOK.addFn hmx (Ev57_ok N R) (Ev57_ok N _) (by kernel_rfl) (fun c => attr_OfBinding_S N c.1)
noncomputable def Ev59 (N : Nat) : (R : Type) → Env R := Env.addBx (Ev58 N) [(23, 0)]
theorem Ev59_ok (N : Nat) (R : Type) : EnvOK Go.Proofs.Try.prog (Ev59 N R) := EnvOK.addBx (Ev58_ok N R) [(23, 0)]
noncomputable def attr_OfStatus (N : Nat) (s0 : (Int) × ((Int) × (List (Int)))) : Option ((Int) × (List (Int))) :=
 Option.bind (@octs_Put N (Go.IntKind.wrap .u64 s0.2.1) (4 : Int) @Bool.false) fun (v2 : ((List Int) × Int)) =>
 Option.bind (takeI s0.2.2 (@minI (((List.length s0.2.2) : Nat) : Int) (64 : Int))) fun (v3 : (List Int)) =>
 Option.bind (@attr_behind N s0.1 ([v2.1, v3] : List ((List Int)))) fun (v4 : (List Int)) =>
 some (((2 : Int), v4))
theorem attr_OfStatus_S (N : Nat) (s0 : (Int) × ((Int) × (List (Int)))) : (runK Go.Proofs.Try.prog (Ev59 N) 400 23 [(.pair (.int .u8) (.pair (.int .u32) (.sl (.int .u8))))] [(.pair (.int .u8) (.sl (.int .u8)))] (s0, ())).run = attr_OfStatus N s0 := by kernel_rfl
noncomputable def Ev60 (N : Nat) : (R : Type) → Env R := Env.addFn (Ev59 N) 23 (fun R => fnK [(.pair (.int .u8) (.pair (.int .u32) (.sl (.int .u8))))] [(.pair (.int .u8) (.sl (.int .u8)))] (fun c => attr_OfStatus N c.1))
theorem Ev60_ok (N : Nat) (R : Type) : EnvOK Go.Proofs.Try.prog (Ev60 N R) := EnvOK.addFn hmx (Ev59_ok N R) (Ev59_ok N _) (by kernel_rfl) (fun c => attr_OfStatus_S N c.1)
noncomputable def law17_AttrTakes (N : Nat) (a0 : (Int) × (List (Int))) : Option (Bool) :=
 bif (decide ((5000 : Int) < (((List.length a0.2) : Nat) : Int))) then
  Option.bind (@law17_alive N) fun (v2 : Bool) =>
  some (v2)
 else
  Option.bind (@attr_ToProto N (a0.1, a0.2)) fun (v2 : (Int × Int)) =>
  Option.bind (@attr_ToStatus N (a0.1, a0.2)) fun (v3 : ((Int × (Int × (List Int))) × Int)) =>
  Option.bind (@attr_ToBinding N (a0.1, a0.2)) fun (v4 : ((Int × ((Arr Int 32) × ((Arr Int 32) × (Arr Int 32)))) × Int)) =>
  Option.bind (@attr_ToAsk N (a0.1, a0.2)) fun (v5 : ((Int × (Arr Int 32)) × Int)) =>
  Option.bind (@ref17_To N (a0.1, a0.2) (1 : Int)) fun (v6 : Int) =>
  bif (!(decide (v2.2 = v6))) then
   some (@Bool.false)
  else
   Option.bind (@ref17_To N (a0.1, a0.2) (2 : Int)) fun (v7 : Int) =>
   bif (@cond Bool @Bool.false @Bool.true (!(decide (v3.2 = v7)))) then
    some (@Bool.false)
   else
    Option.bind (@ref17_To N (a0.1, a0.2) (3 : Int)) fun (v8 : Int) =>
    bif (@cond Bool @Bool.false @Bool.true (!(decide (v4.2 = v8)))) then
     some (@Bool.false)
    else
     Option.bind (@ref17_To N (a0.1, a0.2) (4 : Int)) fun (v9 : Int) =>
     bif (@cond Bool @Bool.false @Bool.true (!(decide (v5.2 = v9)))) then
      some (@Bool.false)
     else
      bif (!(decide (v2.2 = (0 : Int)))) then
       bif (!(decide (v3.2 = (0 : Int)))) then
        bif (!(decide (v4.2 = (0 : Int)))) then
         bif (!(decide (v5.2 = (0 : Int)))) then
          Option.bind (@law17_alive N) fun (v10 : Bool) =>
          some ((@cond Bool @Bool.true v10 @Bool.false))
         else
          Option.bind (@attr_OfAsk N (v5.1.1, v5.1.2)) fun (v10 : (Int × (List Int))) =>
          Option.bind (@attr_Same N (v10.1, v10.2) (a0.1, a0.2)) fun (v11 : Bool) =>
          bif (@cond Bool @Bool.true (@cond Bool @Bool.false @Bool.true v11) @Bool.false) then
           Option.bind (@law17_alive N) fun (v12 : Bool) =>
           some ((@cond Bool @Bool.true v12 @Bool.false))
          else
           some (@Bool.false)
        else
         Option.bind (@attr_OfBinding N (v4.1.1, (v4.1.2.1, (v4.1.2.2.1, v4.1.2.2.2)))) fun (v10 : (Int × (List Int))) =>
         Option.bind (@attr_Same N (v10.1, v10.2) (a0.1, a0.2)) fun (v11 : Bool) =>
         bif (@cond Bool @Bool.true (@cond Bool @Bool.false @Bool.true v11) @Bool.false) then
          bif (!(decide (v5.2 = (0 : Int)))) then
           Option.bind (@law17_alive N) fun (v12 : Bool) =>
           some ((@cond Bool @Bool.true v12 @Bool.false))
          else
           Option.bind (@attr_OfAsk N (v5.1.1, v5.1.2)) fun (v12 : (Int × (List Int))) =>
           Option.bind (@attr_Same N (v12.1, v12.2) (a0.1, a0.2)) fun (v13 : Bool) =>
           bif (@cond Bool @Bool.true (@cond Bool @Bool.false @Bool.true v13) @Bool.false) then
            Option.bind (@law17_alive N) fun (v14 : Bool) =>
            some ((@cond Bool @Bool.true v14 @Bool.false))
           else
            some (@Bool.false)
         else
          some (@Bool.false)
       else
        Option.bind (@attr_OfStatus N (v3.1.1, (v3.1.2.1, v3.1.2.2))) fun (v10 : (Int × (List Int))) =>
        Option.bind (@attr_Same N (v10.1, v10.2) (a0.1, a0.2)) fun (v11 : Bool) =>
        bif (@cond Bool @Bool.true (@cond Bool @Bool.false @Bool.true v11) @Bool.false) then
         bif (!(decide (v4.2 = (0 : Int)))) then
          bif (!(decide (v5.2 = (0 : Int)))) then
           Option.bind (@law17_alive N) fun (v12 : Bool) =>
           some ((@cond Bool @Bool.true v12 @Bool.false))
          else
           Option.bind (@attr_OfAsk N (v5.1.1, v5.1.2)) fun (v12 : (Int × (List Int))) =>
           Option.bind (@attr_Same N (v12.1, v12.2) (a0.1, a0.2)) fun (v13 : Bool) =>
           bif (@cond Bool @Bool.true (@cond Bool @Bool.false @Bool.true v13) @Bool.false) then
            Option.bind (@law17_alive N) fun (v14 : Bool) =>
            some ((@cond Bool @Bool.true v14 @Bool.false))
           else
            some (@Bool.false)
         else
          Option.bind (@attr_OfBinding N (v4.1.1, (v4.1.2.1, (v4.1.2.2.1, v4.1.2.2.2)))) fun (v12 : (Int × (List Int))) =>
          Option.bind (@attr_Same N (v12.1, v12.2) (a0.1, a0.2)) fun (v13 : Bool) =>
          bif (@cond Bool @Bool.true (@cond Bool @Bool.false @Bool.true v13) @Bool.false) then
           bif (!(decide (v5.2 = (0 : Int)))) then
            Option.bind (@law17_alive N) fun (v14 : Bool) =>
            some ((@cond Bool @Bool.true v14 @Bool.false))
           else
            Option.bind (@attr_OfAsk N (v5.1.1, v5.1.2)) fun (v14 : (Int × (List Int))) =>
            Option.bind (@attr_Same N (v14.1, v14.2) (a0.1, a0.2)) fun (v15 : Bool) =>
            bif (@cond Bool @Bool.true (@cond Bool @Bool.false @Bool.true v15) @Bool.false) then
             Option.bind (@law17_alive N) fun (v16 : Bool) =>
             some ((@cond Bool @Bool.true v16 @Bool.false))
            else
             some (@Bool.false)
          else
           some (@Bool.false)
        else
         some (@Bool.false)
      else
       Option.bind (@attr_Proto N v2.1) fun (v10 : (Int × (List Int))) =>
       Option.bind (@attr_Same N (v10.1, v10.2) (a0.1, a0.2)) fun (v11 : Bool) =>
       bif (@cond Bool @Bool.false @Bool.true v11) then
        bif (!(decide (v3.2 = (0 : Int)))) then
         bif (!(decide (v4.2 = (0 : Int)))) then
          bif (!(decide (v5.2 = (0 : Int)))) then
           Option.bind (@law17_alive N) fun (v12 : Bool) =>
           some ((@cond Bool @Bool.true v12 @Bool.false))
          else
           Option.bind (@attr_OfAsk N (v5.1.1, v5.1.2)) fun (v12 : (Int × (List Int))) =>
           Option.bind (@attr_Same N (v12.1, v12.2) (a0.1, a0.2)) fun (v13 : Bool) =>
           bif (@cond Bool @Bool.true (@cond Bool @Bool.false @Bool.true v13) @Bool.false) then
            Option.bind (@law17_alive N) fun (v14 : Bool) =>
            some ((@cond Bool @Bool.true v14 @Bool.false))
           else
            some (@Bool.false)
         else
          Option.bind (@attr_OfBinding N (v4.1.1, (v4.1.2.1, (v4.1.2.2.1, v4.1.2.2.2)))) fun (v12 : (Int × (List Int))) =>
          Option.bind (@attr_Same N (v12.1, v12.2) (a0.1, a0.2)) fun (v13 : Bool) =>
          bif (@cond Bool @Bool.true (@cond Bool @Bool.false @Bool.true v13) @Bool.false) then
           bif (!(decide (v5.2 = (0 : Int)))) then
            Option.bind (@law17_alive N) fun (v14 : Bool) =>
            some ((@cond Bool @Bool.true v14 @Bool.false))
           else
            Option.bind (@attr_OfAsk N (v5.1.1, v5.1.2)) fun (v14 : (Int × (List Int))) =>
            Option.bind (@attr_Same N (v14.1, v14.2) (a0.1, a0.2)) fun (v15 : Bool) =>
            bif (@cond Bool @Bool.true (@cond Bool @Bool.false @Bool.true v15) @Bool.false) then
             Option.bind (@law17_alive N) fun (v16 : Bool) =>
             some ((@cond Bool @Bool.true v16 @Bool.false))
            else
             some (@Bool.false)
          else
           some (@Bool.false)
        else
         Option.bind (@attr_OfStatus N (v3.1.1, (v3.1.2.1, v3.1.2.2))) fun (v12 : (Int × (List Int))) =>
         Option.bind (@attr_Same N (v12.1, v12.2) (a0.1, a0.2)) fun (v13 : Bool) =>
         bif (@cond Bool @Bool.true (@cond Bool @Bool.false @Bool.true v13) @Bool.false) then
          bif (!(decide (v4.2 = (0 : Int)))) then
           bif (!(decide (v5.2 = (0 : Int)))) then
            Option.bind (@law17_alive N) fun (v14 : Bool) =>
            some ((@cond Bool @Bool.true v14 @Bool.false))
           else
            Option.bind (@attr_OfAsk N (v5.1.1, v5.1.2)) fun (v14 : (Int × (List Int))) =>
            Option.bind (@attr_Same N (v14.1, v14.2) (a0.1, a0.2)) fun (v15 : Bool) =>
            bif (@cond Bool @Bool.true (@cond Bool @Bool.false @Bool.true v15) @Bool.false) then
             Option.bind (@law17_alive N) fun (v16 : Bool) =>
             some ((@cond Bool @Bool.true v16 @Bool.false))
            else
             some (@Bool.false)
          else
           Option.bind (@attr_OfBinding N (v4.1.1, (v4.1.2.1, (v4.1.2.2.1, v4.1.2.2.2)))) fun (v14 : (Int × (List Int))) =>
           Option.bind (@attr_Same N (v14.1, v14.2) (a0.1, a0.2)) fun (v15 : Bool) =>
           bif (@cond Bool @Bool.true (@cond Bool @Bool.false @Bool.true v15) @Bool.false) then
            bif (!(decide (v5.2 = (0 : Int)))) then
             Option.bind (@law17_alive N) fun (v16 : Bool) =>
             some ((@cond Bool @Bool.true v16 @Bool.false))
            else
             Option.bind (@attr_OfAsk N (v5.1.1, v5.1.2)) fun (v16 : (Int × (List Int))) =>
             Option.bind (@attr_Same N (v16.1, v16.2) (a0.1, a0.2)) fun (v17 : Bool) =>
             bif (@cond Bool @Bool.true (@cond Bool @Bool.false @Bool.true v17) @Bool.false) then
              Option.bind (@law17_alive N) fun (v18 : Bool) =>
              some ((@cond Bool @Bool.true v18 @Bool.false))
             else
              some (@Bool.false)
           else
            some (@Bool.false)
         else
          some (@Bool.false)
       else
        some (@Bool.false)
theorem law17_AttrTakes_S (N : Nat) (a0 : (Int) × (List (Int))) : (runK Go.Proofs.Try.prog (Ev60 N) 400 5 [(.pair (.int .u8) (.sl (.int .u8)))] [.bool] (a0, ())).run = law17_AttrTakes N a0 := by kernel_rfl
theorem law17_AttrTakes_C (N : Nat) (a0 : (Int) × (List (Int))) (y : Bool) (h : law17_AttrTakes N a0 = some y) : CallsK Go.Proofs.Try.prog 5 (valA [(.pair (.int .u8) (.sl (.int .u8)))] (a0, ())) (tupV (valR [.bool] y)) := runK_ok hmx (Ev60_ok N _) (okFn_ok (by kernel_rfl)) (by rw [law17_AttrTakes_S]; exact h)
noncomputable def Ev61 (N : Nat) : (R : Type) → Env R := Env.addFn (Ev60 N) 5 (fun R => fnK [(.pair (.int .u8) (.sl (.int .u8)))] [.bool] (fun c => law17_AttrTakes N c.1))
theorem Ev61_ok (N : Nat) (R : Type) : EnvOK Go.Proofs.Try.prog (Ev61 N R) := EnvOK.addFn hmx (Ev60_ok N R) (Ev60_ok N _) (by kernel_rfl) (fun c => law17_AttrTakes_S N c.1)
end Go.Proofs.Ytipjmjkfdekchaa
