/-
  Functions of the program as plain functions on typed data, and that they are so. Printed by a program of mine.
-/
import Derived.Test.YtpnoegajljbfoaaKC
namespace Go.Proofs.Ytpnoegajljbfoaa
open Go.RowKit
set_option linter.unusedVariables false
set_option maxRecDepth 100000
theorem hmx : Go.Proofs.Try.prog.follows .mixedOrders = true := by kernel_rfl
noncomputable def Ev0 (N : Nat) : (R : Type) → Env R := Env.addInl env0 [72, 69]
theorem Ev0_ok (N : Nat) (R : Type) : EnvOK Go.Proofs.Try.prog (Ev0 N R) := EnvOK.addInl (env0_ok R) (by kernel_rfl)
noncomputable def Ev1 (N : Nat) : (R : Type) → Env R := Env.addMv (Ev0 N) [(69, 5)]
theorem Ev1_ok (N : Nat) (R : Type) : EnvOK Go.Proofs.Try.prog (Ev1 N R) := EnvOK.addMv (Ev0_ok N R) [(69, 5)]
noncomputable def Ev2 (N : Nat) : (R : Type) → Env R := Env.addBx (Ev1 N) [(69, 0)]
theorem Ev2_ok (N : Nat) (R : Type) : EnvOK Go.Proofs.Try.prog (Ev2 N R) := EnvOK.addBx (Ev1_ok N R) [(69, 0)]
noncomputable def sha256_Of_1_octs_Join_L3_I : LI := ⟨33, 1, [], ⟨[(0, .ty (.sl (.sl (.int .u8)))), (3, .ty (.int .i64)), (9, .ty (.sl (.sl (.int .u8)))), (10, .ty (.int .i64)), (11, .ty (.int .i64))], [.box 25 (.arr 32 (.int .u8))]⟩, [(.exit 0, ⟨[(0, .ty (.sl (.sl (.int .u8)))), (3, .ty (.int .i64))], [.box 25 (.arr 32 (.int .u8))]⟩)]⟩
noncomputable def sha256_Of_1_octs_Join_L3 (N : Nat) (X : (((List (List (Int))) × ((Int) × ((List (List (Int))) × ((Int) × ((Int) × Unit))))) × ((Arr (Int) 32) × Unit)) → Option ((((List (List (Int))) × ((Int) × Unit)) × ((Arr (Int) 32) × Unit)))) (parts0 : List (List (Int))) (size3 : Int) (x9 : List (List (Int))) (x10 : Int) (x11 : Int) (h0 : Arr (Int) 32) : Option ((((List (List (Int))) × ((Int) × Unit)) × ((Arr (Int) 32) × Unit))) :=
 bif (decide (x11 < x10)) then
  Option.bind (getI x9 x11) fun (v8 : (List Int)) =>
  (X ((parts0, ((Go.IntKind.wrap .i64 (size3 + (((List.length v8) : Nat) : Int))), (x9, (x10, ((Go.IntKind.wrap .i64 (x11 + (1 : Int))), @Unit.unit))))), (h0, @Unit.unit)))
 else
  some (((parts0, (size3, @Unit.unit)), (h0, @Unit.unit)))
noncomputable def sha256_Of_1_octs_Join_L3_R (N : Nat) (c : (((List (List (Int))) × ((Int) × ((List (List (Int))) × ((Int) × ((Int) × Unit))))) × ((Arr (Int) 32) × Unit))) : Option ((((List (List (Int))) × ((Int) × Unit)) × ((Arr (Int) 32) × Unit))) := gl (fun X c => sha256_Of_1_octs_Join_L3 N X c.1.1 c.1.2.1 c.1.2.2.1 c.1.2.2.2.1 c.1.2.2.2.2.1 c.2.1) N c
theorem sha256_Of_1_octs_Join_L3_S (N : Nat) (X : (((List (List (Int))) × ((Int) × ((List (List (Int))) × ((Int) × ((Int) × Unit))))) × ((Arr (Int) 32) × Unit)) → Option ((((List (List (Int))) × ((Int) × Unit)) × ((Arr (Int) 32) × Unit)))) (parts0 : List (List (Int))) (size3 : Int) (x9 : List (List (Int))) (x10 : Int) (x11 : Int) (h0 : Arr (Int) 32) : (roundK Go.Proofs.Try.prog (Ev2 N) 400 [72, 1, 23] sha256_Of_1_octs_Join_L3_I (loopAt Go.Proofs.Try.prog [72, 1, 23] 3) X ((parts0, size3, x9, x10, x11, ()), (h0, ()))).run = sha256_Of_1_octs_Join_L3 N X parts0 size3 x9 x10 x11 h0 := by kernel_rfl
noncomputable def Ev3 (N : Nat) : (R : Type) → Env R := Env.addLp (Ev2 N) [72, 1, 23] 1 3 (fun R => lpK Go.Proofs.Try.prog sha256_Of_1_octs_Join_L3_I (fun X c => sha256_Of_1_octs_Join_L3 N X c.1.1 c.1.2.1 c.1.2.2.1 c.1.2.2.2.1 c.1.2.2.2.2.1 c.2.1) N)
theorem Ev3_ok (N : Nat) (R : Type) : EnvOK Go.Proofs.Try.prog (Ev3 N R) := EnvOK.addLp (Ev2_ok N R) (by kernel_rfl) (lpK_ok (li := sha256_Of_1_octs_Join_L3_I) (G := fun X c => sha256_Of_1_octs_Join_L3 N X c.1.1 c.1.2.1 c.1.2.2.1 c.1.2.2.2.1 c.1.2.2.2.2.1 c.2.1) hmx (Ev2_ok N _) (by kernel_rfl) loopAt_sub (fun (X : CT sha256_Of_1_octs_Join_L3_I.sh → Option (OT sha256_Of_1_octs_Join_L3_I.outs)) (c : CT sha256_Of_1_octs_Join_L3_I.sh) => sha256_Of_1_octs_Join_L3_S N X c.1.1 c.1.2.1 c.1.2.2.1 c.1.2.2.2.1 c.1.2.2.2.2.1 c.2.1) N)
noncomputable def sha256_Of_1_octs_Join_L9_I : LI := ⟨33, 1, [], ⟨[(6, .lit (.own 1)), (22, .ty (.sl (.sl (.int .u8)))), (23, .ty (.int .i64)), (24, .ty (.int .i64))], [.box 25 (.arr 32 (.int .u8)), .own (.int .u8) 5]⟩, [(.exit 2, ⟨[(6, .lit (.own 1))], [.box 25 (.arr 32 (.int .u8)), .own (.int .u8) 5]⟩)]⟩
noncomputable def sha256_Of_1_octs_Join_L9 (N : Nat) (X : (((List (List (Int))) × ((Int) × ((Int) × Unit))) × ((Arr (Int) 32) × ((List (Int)) × Unit))) → Option ((Unit × ((Arr (Int) 32) × ((List (Int)) × Unit))))) (x22 : List (List (Int))) (x23 : Int) (x24 : Int) (h0 : Arr (Int) 32) (h1 : List (Int)) : Option ((Unit × ((Arr (Int) 32) × ((List (Int)) × Unit)))) :=
 bif (decide (x24 < x23)) then
  Option.bind (getI x22 x24) fun (v7 : (List Int)) =>
  bif (roomB ((List.length h1) + (List.length v7)) 1) then
   (X ((x22, (x23, ((Go.IntKind.wrap .i64 (x24 + (1 : Int))), @Unit.unit))), (h0, ((h1 ++ v7), @Unit.unit))))
  else
   none
 else
  some ((@Unit.unit, (h0, (h1, @Unit.unit))))
noncomputable def sha256_Of_1_octs_Join_L9_R (N : Nat) (c : (((List (List (Int))) × ((Int) × ((Int) × Unit))) × ((Arr (Int) 32) × ((List (Int)) × Unit)))) : Option ((Unit × ((Arr (Int) 32) × ((List (Int)) × Unit)))) := gl (fun X c => sha256_Of_1_octs_Join_L9 N X c.1.1 c.1.2.1 c.1.2.2.1 c.2.1 c.2.2.1) N c
theorem sha256_Of_1_octs_Join_L9_S (N : Nat) (X : (((List (List (Int))) × ((Int) × ((Int) × Unit))) × ((Arr (Int) 32) × ((List (Int)) × Unit))) → Option ((Unit × ((Arr (Int) 32) × ((List (Int)) × Unit))))) (x22 : List (List (Int))) (x23 : Int) (x24 : Int) (h0 : Arr (Int) 32) (h1 : List (Int)) : (roundK Go.Proofs.Try.prog (Ev3 N) 400 [72, 1, 23] sha256_Of_1_octs_Join_L9_I (loopAt Go.Proofs.Try.prog [72, 1, 23] 9) X ((x22, x23, x24, ()), (h0, h1, ()))).run = sha256_Of_1_octs_Join_L9 N X x22 x23 x24 h0 h1 := by kernel_rfl
noncomputable def Ev4 (N : Nat) : (R : Type) → Env R := Env.addLp (Ev3 N) [72, 1, 23] 1 9 (fun R => lpK Go.Proofs.Try.prog sha256_Of_1_octs_Join_L9_I (fun X c => sha256_Of_1_octs_Join_L9 N X c.1.1 c.1.2.1 c.1.2.2.1 c.2.1 c.2.2.1) N)
theorem Ev4_ok (N : Nat) (R : Type) : EnvOK Go.Proofs.Try.prog (Ev4 N R) := EnvOK.addLp (Ev3_ok N R) (by kernel_rfl) (lpK_ok (li := sha256_Of_1_octs_Join_L9_I) (G := fun X c => sha256_Of_1_octs_Join_L9 N X c.1.1 c.1.2.1 c.1.2.2.1 c.2.1 c.2.2.1) hmx (Ev3_ok N _) (by kernel_rfl) loopAt_sub (fun (X : CT sha256_Of_1_octs_Join_L9_I.sh → Option (OT sha256_Of_1_octs_Join_L9_I.outs)) (c : CT sha256_Of_1_octs_Join_L9_I.sh) => sha256_Of_1_octs_Join_L9_S N X c.1.1 c.1.2.1 c.1.2.2.1 c.2.1 c.2.2.1) N)
noncomputable def octs_place (N : Nat) (i0 : Int) (width1 : Int) (little2 : Bool) : Option (Int) :=
 bif little2 then
  some (i0)
 else
  some ((Go.IntKind.wrap .i64 ((Go.IntKind.wrap .i64 (width1 - (1 : Int))) - i0)))
theorem octs_place_S (N : Nat) (i0 : Int) (width1 : Int) (little2 : Bool) : (runK Go.Proofs.Try.prog (Ev4 N) 400 107 [(.int .i64), (.int .i64), .bool] [(.int .i64)] (i0, width1, little2, ())).run = octs_place N i0 width1 little2 := by kernel_rfl
noncomputable def Ev5 (N : Nat) : (R : Type) → Env R := Env.addFn (Ev4 N) 107 (fun R => fnK [(.int .i64), (.int .i64), .bool] [(.int .i64)] (fun c => octs_place N c.1 c.2.1 c.2.2.1))
theorem Ev5_ok (N : Nat) (R : Type) : EnvOK Go.Proofs.Try.prog (Ev5 N R) := EnvOK.addFn hmx (Ev4_ok N R) (Ev4_ok N _) (by kernel_rfl) (fun c => octs_place_S N c.1 c.2.1 c.2.2.1)
noncomputable def octs_Put_L5_I : LI := ⟨35, 0, [], ⟨[(0, .ty (.int .u64)), (1, .ty (.int .i64)), (2, .ty .bool), (8, .lit (.own 0)), (19, .ty (.int .i64)), (20, .ty (.int .i64))], [.own (.int .u8) 5]⟩, [(.exit 0, ⟨[(8, .lit (.own 0))], [.own (.int .u8) 5]⟩)]⟩
noncomputable def octs_Put_L5 (N : Nat) (X : (((Int) × ((Int) × ((Bool) × ((Int) × ((Int) × Unit))))) × ((List (Int)) × Unit)) → Option ((Unit × ((List (Int)) × Unit)))) (n0 : Int) (width1 : Int) (little2 : Bool) (x19 : Int) (x20 : Int) (h0 : List (Int)) : Option ((Unit × ((List (Int)) × Unit))) :=
 bif (decide (x20 < x19)) then
  Option.bind (@octs_place N x20 width1 little2) fun (v8 : Int) =>
  bif (decide ((0 : Int) ≤ v8 ∧ v8 < (((List.length h0) : Nat) : Int))) then
   Option.bind (@GetElem?.getElem? (List Int) Nat Int (fun (as9 : (List Int)) => (fun (i10 : Nat) => (@LT.lt Nat @instLTNat i10 (List.length as9)))) (@List.instGetElem?NatLtLength Int) h0 (Int.toNat v8)) fun (v9 : Int) =>
   (X (((@Int.fdiv n0 (@HPow.hPow Int Nat Int (@instHPow Int Nat (@instPowNat Int @Int.instNatPow)) (2 : Int) (@Min.min Nat @instMinNat (Int.toNat (8 : Int)) (@Go.IntKind.bits @Go.IntKind.u64)))), (width1, (little2, (x19, ((Go.IntKind.wrap .i64 (x20 + (1 : Int))), @Unit.unit))))), ((@List.set Int h0 (Int.toNat v8) (Go.IntKind.wrap .u8 n0)), @Unit.unit)))
  else
   none
 else
  some ((@Unit.unit, (h0, @Unit.unit)))
noncomputable def octs_Put_L5_R (N : Nat) (c : (((Int) × ((Int) × ((Bool) × ((Int) × ((Int) × Unit))))) × ((List (Int)) × Unit))) : Option ((Unit × ((List (Int)) × Unit))) := gl (fun X c => octs_Put_L5 N X c.1.1 c.1.2.1 c.1.2.2.1 c.1.2.2.2.1 c.1.2.2.2.2.1 c.2.1) N c
theorem octs_Put_L5_S (N : Nat) (X : (((Int) × ((Int) × ((Bool) × ((Int) × ((Int) × Unit))))) × ((List (Int)) × Unit)) → Option ((Unit × ((List (Int)) × Unit)))) (n0 : Int) (width1 : Int) (little2 : Bool) (x19 : Int) (x20 : Int) (h0 : List (Int)) : (roundK Go.Proofs.Try.prog (Ev5 N) 400 [80] octs_Put_L5_I (loopAt Go.Proofs.Try.prog [80] 5) X ((n0, width1, little2, x19, x20, ()), (h0, ()))).run = octs_Put_L5 N X n0 width1 little2 x19 x20 h0 := by kernel_rfl
noncomputable def Ev6 (N : Nat) : (R : Type) → Env R := Env.addLp (Ev5 N) [80] 0 5 (fun R => lpK Go.Proofs.Try.prog octs_Put_L5_I (fun X c => octs_Put_L5 N X c.1.1 c.1.2.1 c.1.2.2.1 c.1.2.2.2.1 c.1.2.2.2.2.1 c.2.1) N)
theorem Ev6_ok (N : Nat) (R : Type) : EnvOK Go.Proofs.Try.prog (Ev6 N R) := EnvOK.addLp (Ev5_ok N R) (by kernel_rfl) (lpK_ok (li := octs_Put_L5_I) (G := fun X c => octs_Put_L5 N X c.1.1 c.1.2.1 c.1.2.2.1 c.1.2.2.2.1 c.1.2.2.2.2.1 c.2.1) hmx (Ev5_ok N _) (by kernel_rfl) loopAt_sub (fun (X : CT octs_Put_L5_I.sh → Option (OT octs_Put_L5_I.outs)) (c : CT octs_Put_L5_I.sh) => octs_Put_L5_S N X c.1.1 c.1.2.1 c.1.2.2.1 c.1.2.2.2.1 c.1.2.2.2.2.1 c.2.1) N)
noncomputable def octs_Put (N : Nat) (n0 : Int) (width1 : Int) (little2 : Bool) : Option ((List (Int)) × Int) :=
 bif (decide (width1 < (1 : Int))) then
  some ((([] : List (Int)), (1 : Int)))
 else
  bif (@cond Bool @Bool.false @Bool.true (decide ((8 : Int) < width1))) then
   some ((([] : List (Int)), (1 : Int)))
  else
   bif ((decide ((0 : Int) ≤ width1 ∧ width1 ≤ width1)) && (roomB (Int.toNat width1) 1)) then
    Option.bind (octs_Put_L5_R N ((n0, (width1, (little2, ((((List.length (@List.replicate Int (Int.toNat width1) (0 : Int))) : Nat) : Int), ((0 : Int), @Unit.unit))))), ((@List.replicate Int (Int.toNat width1) (0 : Int)), @Unit.unit))) fun (v4 : (Unit × ((List Int) × Unit))) =>
    some ((v4.2.1, (0 : Int)))
   else
    none
theorem octs_Put_S (N : Nat) (n0 : Int) (width1 : Int) (little2 : Bool) : (runK Go.Proofs.Try.prog (Ev6 N) 400 80 [(.int .u64), (.int .i64), .bool] [(.sl (.int .u8)), (.int .i64)] (n0, width1, little2, ())).run = octs_Put N n0 width1 little2 := by kernel_rfl
noncomputable def Ev7 (N : Nat) : (R : Type) → Env R := Env.addFn (Ev6 N) 80 (fun R => fnK [(.int .u64), (.int .i64), .bool] [(.sl (.int .u8)), (.int .i64)] (fun c => octs_Put N c.1 c.2.1 c.2.2.1))
theorem Ev7_ok (N : Nat) (R : Type) : EnvOK Go.Proofs.Try.prog (Ev7 N R) := EnvOK.addFn hmx (Ev6_ok N R) (Ev6_ok N _) (by kernel_rfl) (fun c => octs_Put_S N c.1 c.2.1 c.2.2.1)
noncomputable def sha256_Tail_3_octs_Join_L3_I : LI := ⟨33, 1, [], ⟨[(0, .ty (.sl (.sl (.int .u8)))), (3, .ty (.int .i64)), (9, .ty (.sl (.sl (.int .u8)))), (10, .ty (.int .i64)), (11, .ty (.int .i64))], [.dead]⟩, [(.exit 0, ⟨[(0, .ty (.sl (.sl (.int .u8)))), (3, .ty (.int .i64))], [.dead]⟩)]⟩
noncomputable def sha256_Tail_3_octs_Join_L3 (N : Nat) (X : (((List (List (Int))) × ((Int) × ((List (List (Int))) × ((Int) × ((Int) × Unit))))) × Unit) → Option ((((List (List (Int))) × ((Int) × Unit)) × Unit))) (parts0 : List (List (Int))) (size3 : Int) (x9 : List (List (Int))) (x10 : Int) (x11 : Int) : Option ((((List (List (Int))) × ((Int) × Unit)) × Unit)) :=
 bif (decide (x11 < x10)) then
  Option.bind (getI x9 x11) fun (v7 : (List Int)) =>
  (X ((parts0, ((Go.IntKind.wrap .i64 (size3 + (((List.length v7) : Nat) : Int))), (x9, (x10, ((Go.IntKind.wrap .i64 (x11 + (1 : Int))), @Unit.unit))))), @Unit.unit))
 else
  some (((parts0, (size3, @Unit.unit)), @Unit.unit))
noncomputable def sha256_Tail_3_octs_Join_L3_R (N : Nat) (c : (((List (List (Int))) × ((Int) × ((List (List (Int))) × ((Int) × ((Int) × Unit))))) × Unit)) : Option ((((List (List (Int))) × ((Int) × Unit)) × Unit)) := gl (fun X c => sha256_Tail_3_octs_Join_L3 N X c.1.1 c.1.2.1 c.1.2.2.1 c.1.2.2.2.1 c.1.2.2.2.2.1) N c
theorem sha256_Tail_3_octs_Join_L3_S (N : Nat) (X : (((List (List (Int))) × ((Int) × ((List (List (Int))) × ((Int) × ((Int) × Unit))))) × Unit) → Option ((((List (List (Int))) × ((Int) × Unit)) × Unit))) (parts0 : List (List (Int))) (size3 : Int) (x9 : List (List (Int))) (x10 : Int) (x11 : Int) : (roundK Go.Proofs.Try.prog (Ev7 N) 400 [72, 3, 73] sha256_Tail_3_octs_Join_L3_I (loopAt Go.Proofs.Try.prog [72, 3, 73] 3) X ((parts0, size3, x9, x10, x11, ()), ())).run = sha256_Tail_3_octs_Join_L3 N X parts0 size3 x9 x10 x11 := by kernel_rfl
noncomputable def Ev8 (N : Nat) : (R : Type) → Env R := Env.addLp (Ev7 N) [72, 3, 73] 1 3 (fun R => lpK Go.Proofs.Try.prog sha256_Tail_3_octs_Join_L3_I (fun X c => sha256_Tail_3_octs_Join_L3 N X c.1.1 c.1.2.1 c.1.2.2.1 c.1.2.2.2.1 c.1.2.2.2.2.1) N)
theorem Ev8_ok (N : Nat) (R : Type) : EnvOK Go.Proofs.Try.prog (Ev8 N R) := EnvOK.addLp (Ev7_ok N R) (by kernel_rfl) (lpK_ok (li := sha256_Tail_3_octs_Join_L3_I) (G := fun X c => sha256_Tail_3_octs_Join_L3 N X c.1.1 c.1.2.1 c.1.2.2.1 c.1.2.2.2.1 c.1.2.2.2.2.1) hmx (Ev7_ok N _) (by kernel_rfl) loopAt_sub (fun (X : CT sha256_Tail_3_octs_Join_L3_I.sh → Option (OT sha256_Tail_3_octs_Join_L3_I.outs)) (c : CT sha256_Tail_3_octs_Join_L3_I.sh) => sha256_Tail_3_octs_Join_L3_S N X c.1.1 c.1.2.1 c.1.2.2.1 c.1.2.2.2.1 c.1.2.2.2.2.1) N)
noncomputable def sha256_Tail_3_octs_Join_L9_I : LI := ⟨33, 1, [], ⟨[(6, .lit (.own 1)), (22, .ty (.sl (.sl (.int .u8)))), (23, .ty (.int .i64)), (24, .ty (.int .i64))], [.dead, .own (.int .u8) 5]⟩, [(.exit 2, ⟨[(6, .lit (.own 1))], [.dead, .own (.int .u8) 5]⟩)]⟩
noncomputable def sha256_Tail_3_octs_Join_L9 (N : Nat) (X : (((List (List (Int))) × ((Int) × ((Int) × Unit))) × ((List (Int)) × Unit)) → Option ((Unit × ((List (Int)) × Unit)))) (x22 : List (List (Int))) (x23 : Int) (x24 : Int) (h0 : List (Int)) : Option ((Unit × ((List (Int)) × Unit))) :=
 bif (decide (x24 < x23)) then
  Option.bind (getI x22 x24) fun (v6 : (List Int)) =>
  bif (roomB ((List.length h0) + (List.length v6)) 1) then
   (X ((x22, (x23, ((Go.IntKind.wrap .i64 (x24 + (1 : Int))), @Unit.unit))), ((h0 ++ v6), @Unit.unit)))
  else
   none
 else
  some ((@Unit.unit, (h0, @Unit.unit)))
noncomputable def sha256_Tail_3_octs_Join_L9_R (N : Nat) (c : (((List (List (Int))) × ((Int) × ((Int) × Unit))) × ((List (Int)) × Unit))) : Option ((Unit × ((List (Int)) × Unit))) := gl (fun X c => sha256_Tail_3_octs_Join_L9 N X c.1.1 c.1.2.1 c.1.2.2.1 c.2.1) N c
theorem sha256_Tail_3_octs_Join_L9_S (N : Nat) (X : (((List (List (Int))) × ((Int) × ((Int) × Unit))) × ((List (Int)) × Unit)) → Option ((Unit × ((List (Int)) × Unit)))) (x22 : List (List (Int))) (x23 : Int) (x24 : Int) (h0 : List (Int)) : (roundK Go.Proofs.Try.prog (Ev8 N) 400 [72, 3, 73] sha256_Tail_3_octs_Join_L9_I (loopAt Go.Proofs.Try.prog [72, 3, 73] 9) X ((x22, x23, x24, ()), (h0, ()))).run = sha256_Tail_3_octs_Join_L9 N X x22 x23 x24 h0 := by kernel_rfl
noncomputable def Ev9 (N : Nat) : (R : Type) → Env R := Env.addLp (Ev8 N) [72, 3, 73] 1 9 (fun R => lpK Go.Proofs.Try.prog sha256_Tail_3_octs_Join_L9_I (fun X c => sha256_Tail_3_octs_Join_L9 N X c.1.1 c.1.2.1 c.1.2.2.1 c.2.1) N)
theorem Ev9_ok (N : Nat) (R : Type) : EnvOK Go.Proofs.Try.prog (Ev9 N R) := EnvOK.addLp (Ev8_ok N R) (by kernel_rfl) (lpK_ok (li := sha256_Tail_3_octs_Join_L9_I) (G := fun X c => sha256_Tail_3_octs_Join_L9 N X c.1.1 c.1.2.1 c.1.2.2.1 c.2.1) hmx (Ev8_ok N _) (by kernel_rfl) loopAt_sub (fun (X : CT sha256_Tail_3_octs_Join_L9_I.sh → Option (OT sha256_Tail_3_octs_Join_L9_I.outs)) (c : CT sha256_Tail_3_octs_Join_L9_I.sh) => sha256_Tail_3_octs_Join_L9_S N X c.1.1 c.1.2.1 c.1.2.2.1 c.2.1) N)
noncomputable def sha256_Tail (N : Nat) (n0 : Int) : Option (List (Int)) :=
 Option.bind (@octs_Put N (Go.IntKind.wrap .u64 ((8 : Int) * n0)) (8 : Int) @Bool.false) fun (v2 : ((List Int) × Int)) =>
 bif ((decide ((0 : Int) ≤ (@Int.tmod (Go.IntKind.wrap .u64 ((119 : Int) - (@Int.tmod n0 (64 : Int)))) (64 : Int)) ∧ (@Int.tmod (Go.IntKind.wrap .u64 ((119 : Int) - (@Int.tmod n0 (64 : Int)))) (64 : Int)) ≤ (@Int.tmod (Go.IntKind.wrap .u64 ((119 : Int) - (@Int.tmod n0 (64 : Int)))) (64 : Int)))) && (roomB (Int.toNat (@Int.tmod (Go.IntKind.wrap .u64 ((119 : Int) - (@Int.tmod n0 (64 : Int)))) (64 : Int))) 1)) then
  Option.bind (sha256_Tail_3_octs_Join_L3_R N ((([([(128 : Int)] : List (Int)), (@List.replicate Int (Int.toNat (@Int.tmod (Go.IntKind.wrap .u64 ((119 : Int) - (@Int.tmod n0 (64 : Int)))) (64 : Int))) (0 : Int)), v2.1] : List ((List Int))), ((0 : Int), (([([(128 : Int)] : List (Int)), (@List.replicate Int (Int.toNat (@Int.tmod (Go.IntKind.wrap .u64 ((119 : Int) - (@Int.tmod n0 (64 : Int)))) (64 : Int))) (0 : Int)), v2.1] : List ((List Int))), ((((List.length ([([(128 : Int)] : List (Int)), (@List.replicate Int (Int.toNat (@Int.tmod (Go.IntKind.wrap .u64 ((119 : Int) - (@Int.tmod n0 (64 : Int)))) (64 : Int))) (0 : Int)), v2.1] : List ((List Int)))) : Nat) : Int), ((0 : Int), @Unit.unit))))), @Unit.unit)) fun (v3 : (((List (List Int)) × (Int × Unit)) × Unit)) =>
  bif ((decide ((0 : Int) ≤ (0 : Int) ∧ (0 : Int) ≤ v3.1.2.1)) && (roomB (Int.toNat v3.1.2.1) 1)) then
   Option.bind (sha256_Tail_3_octs_Join_L9_R N ((v3.1.1, ((((List.length v3.1.1) : Nat) : Int), ((0 : Int), @Unit.unit))), ((@List.replicate Int (Int.toNat (0 : Int)) (0 : Int)), @Unit.unit))) fun (v4 : (Unit × ((List Int) × Unit))) =>
   some (v4.2.1)
  else
   none
 else
  none
theorem sha256_Tail_S (N : Nat) (n0 : Int) : (runK Go.Proofs.Try.prog (Ev9 N) 400 73 [(.int .u64)] [(.sl (.int .u8))] (n0, ())).run = sha256_Tail N n0 := by kernel_rfl
noncomputable def Ev10 (N : Nat) : (R : Type) → Env R := Env.addFn (Ev9 N) 73 (fun R => fnK [(.int .u64)] [(.sl (.int .u8))] (fun c => sha256_Tail N c.1))
theorem Ev10_ok (N : Nat) (R : Type) : EnvOK Go.Proofs.Try.prog (Ev10 N R) := EnvOK.addFn hmx (Ev9_ok N R) (Ev9_ok N _) (by kernel_rfl) (fun c => sha256_Tail_S N c.1)
noncomputable def Ev11 (N : Nat) : (R : Type) → Env R := Env.addMv (Ev10 N) [(103, 5)]
theorem Ev11_ok (N : Nat) (R : Type) : EnvOK Go.Proofs.Try.prog (Ev11 N R) := EnvOK.addMv (Ev10_ok N R) [(103, 5)]
noncomputable def Ev12 (N : Nat) : (R : Type) → Env R := Env.addMv (Ev11 N) [(115, 11)]
theorem Ev12_ok (N : Nat) (R : Type) : EnvOK Go.Proofs.Try.prog (Ev12 N R) := EnvOK.addMv (Ev11_ok N R) [(115, 11)]
noncomputable def roots_Primes_L7_I : LI := ⟨31, 0, [], ⟨[(0, .ty (.int .i64)), (3, .lit (.own 0)), (4, .ty (.int .i64)), (15, .lit (.own 0)), (16, .ty (.int .i64)), (17, .ty (.int .i64))], [.own (.int .i64) 3]⟩, [(.exit 1, ⟨[(0, .ty (.int .i64)), (3, .lit (.own 0)), (4, .ty (.int .i64))], [.own (.int .i64) 3]⟩), (.exit 2, ⟨[(0, .ty (.int .i64)), (3, .lit (.own 0)), (4, .ty (.int .i64))], [.own (.int .i64) 3]⟩)]⟩
noncomputable def roots_Primes_L7 (N : Nat) (X : (((Int) × ((Int) × ((Int) × ((Int) × Unit)))) × ((List (Int)) × Unit)) → Option (((((Int) × ((Int) × Unit)) × ((List (Int)) × Unit)) ⊕ (((Int) × ((Int) × Unit)) × ((List (Int)) × Unit))))) (many0 : Int) (n4 : Int) (x16 : Int) (x17 : Int) (h0 : List (Int)) : Option (((((Int) × ((Int) × Unit)) × ((List (Int)) × Unit)) ⊕ (((Int) × ((Int) × Unit)) × ((List (Int)) × Unit)))) :=
 bif (decide (x17 < x16)) then
  bif (decide ((0 : Int) ≤ x17 ∧ x17 < (((List.length h0) : Nat) : Int))) then
   Option.bind (@GetElem?.getElem? (List Int) Nat Int (fun (as7 : (List Int)) => (fun (i8 : Nat) => (@LT.lt Nat @instLTNat i8 (List.length as7)))) (@List.instGetElem?NatLtLength Int) h0 (Int.toNat x17)) fun (v7 : Int) =>
   bif (decide (v7 = (0 : Int))) then
    none
   else
    bif (decide ((@Int.tmod n4 v7) = (0 : Int))) then
     some ((.inl ((many0, (n4, @Unit.unit)), (h0, @Unit.unit))))
    else
     (X ((many0, (n4, (x16, ((Go.IntKind.wrap .i64 (x17 + (1 : Int))), @Unit.unit)))), (h0, @Unit.unit)))
  else
   none
 else
  some ((.inr ((many0, (n4, @Unit.unit)), (h0, @Unit.unit))))
noncomputable def roots_Primes_L7_R (N : Nat) (c : (((Int) × ((Int) × ((Int) × ((Int) × Unit)))) × ((List (Int)) × Unit))) : Option (((((Int) × ((Int) × Unit)) × ((List (Int)) × Unit)) ⊕ (((Int) × ((Int) × Unit)) × ((List (Int)) × Unit)))) := gl (fun X c => roots_Primes_L7 N X c.1.1 c.1.2.1 c.1.2.2.1 c.1.2.2.2.1 c.2.1) N c
theorem roots_Primes_L7_S (N : Nat) (X : (((Int) × ((Int) × ((Int) × ((Int) × Unit)))) × ((List (Int)) × Unit)) → Option (((((Int) × ((Int) × Unit)) × ((List (Int)) × Unit)) ⊕ (((Int) × ((Int) × Unit)) × ((List (Int)) × Unit))))) (many0 : Int) (n4 : Int) (x16 : Int) (x17 : Int) (h0 : List (Int)) : (roundK Go.Proofs.Try.prog (Ev12 N) 400 [115] roots_Primes_L7_I (loopAt Go.Proofs.Try.prog [115] 7) X ((many0, n4, x16, x17, ()), (h0, ()))).run = roots_Primes_L7 N X many0 n4 x16 x17 h0 := by kernel_rfl
noncomputable def Ev13 (N : Nat) : (R : Type) → Env R := Env.addLp (Ev12 N) [115] 0 7 (fun R => lpK Go.Proofs.Try.prog roots_Primes_L7_I (fun X c => roots_Primes_L7 N X c.1.1 c.1.2.1 c.1.2.2.1 c.1.2.2.2.1 c.2.1) N)
theorem Ev13_ok (N : Nat) (R : Type) : EnvOK Go.Proofs.Try.prog (Ev13 N R) := EnvOK.addLp (Ev12_ok N R) (by kernel_rfl) (lpK_ok (li := roots_Primes_L7_I) (G := fun X c => roots_Primes_L7 N X c.1.1 c.1.2.1 c.1.2.2.1 c.1.2.2.2.1 c.2.1) hmx (Ev12_ok N _) (by kernel_rfl) loopAt_sub (fun (X : CT roots_Primes_L7_I.sh → Option (OT roots_Primes_L7_I.outs)) (c : CT roots_Primes_L7_I.sh) => roots_Primes_L7_S N X c.1.1 c.1.2.1 c.1.2.2.1 c.1.2.2.2.1 c.2.1) N)
noncomputable def roots_Primes_L4_I : LI := ⟨31, 0, [(3, 3)], ⟨[(0, .ty (.int .i64)), (3, .lit (.own 0)), (4, .ty (.int .i64))], [.own (.int .i64) 3]⟩, [(.exit 0, ⟨[(3, .lit (.own 0))], [.own (.int .i64) 3]⟩)]⟩
noncomputable def roots_Primes_L4 (N : Nat) (X : (((Int) × ((Int) × Unit)) × ((List (Int)) × Unit)) → Option ((Unit × ((List (Int)) × Unit)))) (many0 : Int) (n4 : Int) (h0 : List (Int)) : Option ((Unit × ((List (Int)) × Unit))) :=
 bif (decide ((((List.length h0) : Nat) : Int) < many0)) then
  Option.bind (roots_Primes_L7_R N ((many0, (n4, ((((List.length h0) : Nat) : Int), ((0 : Int), @Unit.unit)))), (h0, @Unit.unit))) fun (v5 : (((Int × (Int × Unit)) × ((List Int) × Unit)) ⊕ ((Int × (Int × Unit)) × ((List Int) × Unit)))) =>
  Sum.elim
   (fun (v6 : ((Int × (Int × Unit)) × ((List Int) × Unit))) =>
   (X ((v6.1.1, ((Go.IntKind.wrap .i64 (v6.1.2.1 + (1 : Int))), @Unit.unit)), (v6.2.1, @Unit.unit))))
   (fun (v6 : ((Int × (Int × Unit)) × ((List Int) × Unit))) =>
   bif (roomB ((List.length v6.2.1) + (List.length ([v6.1.2.1] : List (Int)))) 8) then
    (X ((v6.1.1, ((Go.IntKind.wrap .i64 (v6.1.2.1 + (1 : Int))), @Unit.unit)), ((v6.2.1 ++ ([v6.1.2.1] : List (Int))), @Unit.unit)))
   else
    none) v5
 else
  some ((@Unit.unit, (h0, @Unit.unit)))
noncomputable def roots_Primes_L4_R (N : Nat) (c : (((Int) × ((Int) × Unit)) × ((List (Int)) × Unit))) : Option ((Unit × ((List (Int)) × Unit))) := gl (fun X c => roots_Primes_L4 N X c.1.1 c.1.2.1 c.2.1) N c
theorem roots_Primes_L4_S (N : Nat) (X : (((Int) × ((Int) × Unit)) × ((List (Int)) × Unit)) → Option ((Unit × ((List (Int)) × Unit)))) (many0 : Int) (n4 : Int) (h0 : List (Int)) : (roundK Go.Proofs.Try.prog (Ev13 N) 400 [115] roots_Primes_L4_I (loopAt Go.Proofs.Try.prog [115] 4) X ((many0, n4, ()), (h0, ()))).run = roots_Primes_L4 N X many0 n4 h0 := by kernel_rfl
noncomputable def Ev14 (N : Nat) : (R : Type) → Env R := Env.addLp (Ev13 N) [115] 0 4 (fun R => lpK Go.Proofs.Try.prog roots_Primes_L4_I (fun X c => roots_Primes_L4 N X c.1.1 c.1.2.1 c.2.1) N)
theorem Ev14_ok (N : Nat) (R : Type) : EnvOK Go.Proofs.Try.prog (Ev14 N R) := EnvOK.addLp (Ev13_ok N R) (by kernel_rfl) (lpK_ok (li := roots_Primes_L4_I) (G := fun X c => roots_Primes_L4 N X c.1.1 c.1.2.1 c.2.1) hmx (Ev13_ok N _) (by kernel_rfl) loopAt_sub (fun (X : CT roots_Primes_L4_I.sh → Option (OT roots_Primes_L4_I.outs)) (c : CT roots_Primes_L4_I.sh) => roots_Primes_L4_S N X c.1.1 c.1.2.1 c.2.1) N)
noncomputable def roots_Primes (N : Nat) (many0 : Int) : Option (List (Int)) :=
 Option.bind (roots_Primes_L4_R N (((@minI many0 (168 : Int)), ((2 : Int), @Unit.unit)), (([] : List (Int)), @Unit.unit))) fun (v2 : (Unit × ((List Int) × Unit))) =>
 some (v2.2.1)
theorem roots_Primes_S (N : Nat) (many0 : Int) : (runK Go.Proofs.Try.prog (Ev14 N) 400 115 [(.int .i64)] [(.sl (.int .i64))] (many0, ())).run = roots_Primes N many0 := by kernel_rfl
noncomputable def Ev15 (N : Nat) : (R : Type) → Env R := Env.addFn (Ev14 N) 115 (fun R => fnK [(.int .i64)] [(.sl (.int .i64))] (fun c => roots_Primes N c.1))
theorem Ev15_ok (N : Nat) (R : Type) : EnvOK Go.Proofs.Try.prog (Ev15 N R) := EnvOK.addFn hmx (Ev14_ok N R) (Ev14_ok N _) (by kernel_rfl) (fun c => roots_Primes_S N c.1)
noncomputable def roots_may (N : Nat) (n0 : Int) (degree1 : Int) (bits2 : Int) : Option (Bool) :=
 bif (decide ((0 : Int) ≤ n0)) then
  bif (@cond Bool @Bool.true (decide (n0 ≤ (1000 : Int))) @Bool.false) then
   bif (decide (degree1 = (2 : Int))) then
    bif (@cond Bool @Bool.true (decide ((0 : Int) ≤ bits2)) @Bool.false) then
     some ((@cond Bool @Bool.true (decide (bits2 ≤ (32 : Int))) @Bool.false))
    else
     some (@Bool.false)
   else
    bif (@cond Bool @Bool.true (@cond Bool @Bool.false @Bool.true (decide (degree1 = (3 : Int)))) @Bool.false) then
     bif (@cond Bool @Bool.true (decide ((0 : Int) ≤ bits2)) @Bool.false) then
      some ((@cond Bool @Bool.true (decide (bits2 ≤ (32 : Int))) @Bool.false))
     else
      some (@Bool.false)
    else
     some (@Bool.false)
  else
   some (@Bool.false)
 else
  some (@Bool.false)
theorem roots_may_S (N : Nat) (n0 : Int) (degree1 : Int) (bits2 : Int) : (runK Go.Proofs.Try.prog (Ev15 N) 400 125 [(.int .i64), (.int .i64), (.int .i64)] [.bool] (n0, degree1, bits2, ())).run = roots_may N n0 degree1 bits2 := by kernel_rfl
noncomputable def Ev16 (N : Nat) : (R : Type) → Env R := Env.addFn (Ev15 N) 125 (fun R => fnK [(.int .i64), (.int .i64), (.int .i64)] [.bool] (fun c => roots_may N c.1 c.2.1 c.2.2.1))
theorem Ev16_ok (N : Nat) (R : Type) : EnvOK Go.Proofs.Try.prog (Ev16 N R) := EnvOK.addFn hmx (Ev15_ok N R) (Ev15_ok N _) (by kernel_rfl) (fun c => roots_may_S N c.1 c.2.1 c.2.2.1)
noncomputable def math_bits_Mul64 (N : Nat) (x0 : Int) (y1 : Int) : Option ((Int) × Int) :=
 some (((Go.IntKind.wrap .u64 ((Go.IntKind.wrap .u64 ((Go.IntKind.wrap .u64 ((@Int.fdiv x0 (@HPow.hPow Int Nat Int (@instHPow Int Nat (@instPowNat Int @Int.instNatPow)) (2 : Int) (@Min.min Nat @instMinNat (Int.toNat (32 : Int)) (@Go.IntKind.bits @Go.IntKind.u64)))) * (@Int.fdiv y1 (@HPow.hPow Int Nat Int (@instHPow Int Nat (@instPowNat Int @Int.instNatPow)) (2 : Int) (@Min.min Nat @instMinNat (Int.toNat (32 : Int)) (@Go.IntKind.bits @Go.IntKind.u64)))))) + (@Int.fdiv (Go.IntKind.wrap .u64 ((Go.IntKind.wrap .u64 ((@Int.fdiv x0 (@HPow.hPow Int Nat Int (@instHPow Int Nat (@instPowNat Int @Int.instNatPow)) (2 : Int) (@Min.min Nat @instMinNat (Int.toNat (32 : Int)) (@Go.IntKind.bits @Go.IntKind.u64)))) * (@Go.bits @Go.BinOp.and @Go.IntKind.u64 y1 (4294967295 : Int)))) + (@Int.fdiv (Go.IntKind.wrap .u64 ((@Go.bits @Go.BinOp.and @Go.IntKind.u64 x0 (4294967295 : Int)) * (@Go.bits @Go.BinOp.and @Go.IntKind.u64 y1 (4294967295 : Int)))) (@HPow.hPow Int Nat Int (@instHPow Int Nat (@instPowNat Int @Int.instNatPow)) (2 : Int) (@Min.min Nat @instMinNat (Int.toNat (32 : Int)) (@Go.IntKind.bits @Go.IntKind.u64)))))) (@HPow.hPow Int Nat Int (@instHPow Int Nat (@instPowNat Int @Int.instNatPow)) (2 : Int) (@Min.min Nat @instMinNat (Int.toNat (32 : Int)) (@Go.IntKind.bits @Go.IntKind.u64)))))) + (@Int.fdiv (Go.IntKind.wrap .u64 ((@Go.bits @Go.BinOp.and @Go.IntKind.u64 (Go.IntKind.wrap .u64 ((Go.IntKind.wrap .u64 ((@Int.fdiv x0 (@HPow.hPow Int Nat Int (@instHPow Int Nat (@instPowNat Int @Int.instNatPow)) (2 : Int) (@Min.min Nat @instMinNat (Int.toNat (32 : Int)) (@Go.IntKind.bits @Go.IntKind.u64)))) * (@Go.bits @Go.BinOp.and @Go.IntKind.u64 y1 (4294967295 : Int)))) + (@Int.fdiv (Go.IntKind.wrap .u64 ((@Go.bits @Go.BinOp.and @Go.IntKind.u64 x0 (4294967295 : Int)) * (@Go.bits @Go.BinOp.and @Go.IntKind.u64 y1 (4294967295 : Int)))) (@HPow.hPow Int Nat Int (@instHPow Int Nat (@instPowNat Int @Int.instNatPow)) (2 : Int) (@Min.min Nat @instMinNat (Int.toNat (32 : Int)) (@Go.IntKind.bits @Go.IntKind.u64)))))) (4294967295 : Int)) + (Go.IntKind.wrap .u64 ((@Go.bits @Go.BinOp.and @Go.IntKind.u64 x0 (4294967295 : Int)) * (@Int.fdiv y1 (@HPow.hPow Int Nat Int (@instHPow Int Nat (@instPowNat Int @Int.instNatPow)) (2 : Int) (@Min.min Nat @instMinNat (Int.toNat (32 : Int)) (@Go.IntKind.bits @Go.IntKind.u64)))))))) (@HPow.hPow Int Nat Int (@instHPow Int Nat (@instPowNat Int @Int.instNatPow)) (2 : Int) (@Min.min Nat @instMinNat (Int.toNat (32 : Int)) (@Go.IntKind.bits @Go.IntKind.u64)))))), (Go.IntKind.wrap .u64 (x0 * y1))))
theorem math_bits_Mul64_S (N : Nat) (x0 : Int) (y1 : Int) : (runK Go.Proofs.Try.prog (Ev16 N) 400 130 [(.int .u64), (.int .u64)] [(.int .u64), (.int .u64)] (x0, y1, ())).run = math_bits_Mul64 N x0 y1 := by kernel_rfl
noncomputable def Ev17 (N : Nat) : (R : Type) → Env R := Env.addFn (Ev16 N) 130 (fun R => fnK [(.int .u64), (.int .u64)] [(.int .u64), (.int .u64)] (fun c => math_bits_Mul64 N c.1 c.2.1))
theorem Ev17_ok (N : Nat) (R : Type) : EnvOK Go.Proofs.Try.prog (Ev17 N R) := EnvOK.addFn hmx (Ev16_ok N R) (Ev16_ok N _) (by kernel_rfl) (fun c => math_bits_Mul64_S N c.1 c.2.1)
noncomputable def roots_power (N : Nat) (x0 : Int) (degree1 : Int) : Option ((Int) × Int) :=
 bif (decide (degree1 = (2 : Int))) then
  some (((Go.IntKind.wrap .u64 ((Go.IntKind.wrap .u64 ((Go.IntKind.wrap .u64 ((@Int.fdiv x0 (@HPow.hPow Int Nat Int (@instHPow Int Nat (@instPowNat Int @Int.instNatPow)) (2 : Int) (@Min.min Nat @instMinNat (Int.toNat (32 : Int)) (@Go.IntKind.bits @Go.IntKind.u64)))) * (@Int.fdiv x0 (@HPow.hPow Int Nat Int (@instHPow Int Nat (@instPowNat Int @Int.instNatPow)) (2 : Int) (@Min.min Nat @instMinNat (Int.toNat (32 : Int)) (@Go.IntKind.bits @Go.IntKind.u64)))))) + (@Int.fdiv (Go.IntKind.wrap .u64 ((Go.IntKind.wrap .u64 ((@Int.fdiv x0 (@HPow.hPow Int Nat Int (@instHPow Int Nat (@instPowNat Int @Int.instNatPow)) (2 : Int) (@Min.min Nat @instMinNat (Int.toNat (32 : Int)) (@Go.IntKind.bits @Go.IntKind.u64)))) * (@Go.bits @Go.BinOp.and @Go.IntKind.u64 x0 (4294967295 : Int)))) + (@Int.fdiv (Go.IntKind.wrap .u64 ((@Go.bits @Go.BinOp.and @Go.IntKind.u64 x0 (4294967295 : Int)) * (@Go.bits @Go.BinOp.and @Go.IntKind.u64 x0 (4294967295 : Int)))) (@HPow.hPow Int Nat Int (@instHPow Int Nat (@instPowNat Int @Int.instNatPow)) (2 : Int) (@Min.min Nat @instMinNat (Int.toNat (32 : Int)) (@Go.IntKind.bits @Go.IntKind.u64)))))) (@HPow.hPow Int Nat Int (@instHPow Int Nat (@instPowNat Int @Int.instNatPow)) (2 : Int) (@Min.min Nat @instMinNat (Int.toNat (32 : Int)) (@Go.IntKind.bits @Go.IntKind.u64)))))) + (@Int.fdiv (Go.IntKind.wrap .u64 ((@Go.bits @Go.BinOp.and @Go.IntKind.u64 (Go.IntKind.wrap .u64 ((Go.IntKind.wrap .u64 ((@Int.fdiv x0 (@HPow.hPow Int Nat Int (@instHPow Int Nat (@instPowNat Int @Int.instNatPow)) (2 : Int) (@Min.min Nat @instMinNat (Int.toNat (32 : Int)) (@Go.IntKind.bits @Go.IntKind.u64)))) * (@Go.bits @Go.BinOp.and @Go.IntKind.u64 x0 (4294967295 : Int)))) + (@Int.fdiv (Go.IntKind.wrap .u64 ((@Go.bits @Go.BinOp.and @Go.IntKind.u64 x0 (4294967295 : Int)) * (@Go.bits @Go.BinOp.and @Go.IntKind.u64 x0 (4294967295 : Int)))) (@HPow.hPow Int Nat Int (@instHPow Int Nat (@instPowNat Int @Int.instNatPow)) (2 : Int) (@Min.min Nat @instMinNat (Int.toNat (32 : Int)) (@Go.IntKind.bits @Go.IntKind.u64)))))) (4294967295 : Int)) + (Go.IntKind.wrap .u64 ((@Go.bits @Go.BinOp.and @Go.IntKind.u64 x0 (4294967295 : Int)) * (@Int.fdiv x0 (@HPow.hPow Int Nat Int (@instHPow Int Nat (@instPowNat Int @Int.instNatPow)) (2 : Int) (@Min.min Nat @instMinNat (Int.toNat (32 : Int)) (@Go.IntKind.bits @Go.IntKind.u64)))))))) (@HPow.hPow Int Nat Int (@instHPow Int Nat (@instPowNat Int @Int.instNatPow)) (2 : Int) (@Min.min Nat @instMinNat (Int.toNat (32 : Int)) (@Go.IntKind.bits @Go.IntKind.u64)))))), (Go.IntKind.wrap .u64 (x0 * x0))))
 else
  some (((Go.IntKind.wrap .u64 ((Go.IntKind.wrap .u64 ((Go.IntKind.wrap .u64 ((Go.IntKind.wrap .u64 ((Go.IntKind.wrap .u64 ((@Int.fdiv x0 (@HPow.hPow Int Nat Int (@instHPow Int Nat (@instPowNat Int @Int.instNatPow)) (2 : Int) (@Min.min Nat @instMinNat (Int.toNat (32 : Int)) (@Go.IntKind.bits @Go.IntKind.u64)))) * (@Int.fdiv x0 (@HPow.hPow Int Nat Int (@instHPow Int Nat (@instPowNat Int @Int.instNatPow)) (2 : Int) (@Min.min Nat @instMinNat (Int.toNat (32 : Int)) (@Go.IntKind.bits @Go.IntKind.u64)))))) + (@Int.fdiv (Go.IntKind.wrap .u64 ((Go.IntKind.wrap .u64 ((@Int.fdiv x0 (@HPow.hPow Int Nat Int (@instHPow Int Nat (@instPowNat Int @Int.instNatPow)) (2 : Int) (@Min.min Nat @instMinNat (Int.toNat (32 : Int)) (@Go.IntKind.bits @Go.IntKind.u64)))) * (@Go.bits @Go.BinOp.and @Go.IntKind.u64 x0 (4294967295 : Int)))) + (@Int.fdiv (Go.IntKind.wrap .u64 ((@Go.bits @Go.BinOp.and @Go.IntKind.u64 x0 (4294967295 : Int)) * (@Go.bits @Go.BinOp.and @Go.IntKind.u64 x0 (4294967295 : Int)))) (@HPow.hPow Int Nat Int (@instHPow Int Nat (@instPowNat Int @Int.instNatPow)) (2 : Int) (@Min.min Nat @instMinNat (Int.toNat (32 : Int)) (@Go.IntKind.bits @Go.IntKind.u64)))))) (@HPow.hPow Int Nat Int (@instHPow Int Nat (@instPowNat Int @Int.instNatPow)) (2 : Int) (@Min.min Nat @instMinNat (Int.toNat (32 : Int)) (@Go.IntKind.bits @Go.IntKind.u64)))))) + (@Int.fdiv (Go.IntKind.wrap .u64 ((@Go.bits @Go.BinOp.and @Go.IntKind.u64 (Go.IntKind.wrap .u64 ((Go.IntKind.wrap .u64 ((@Int.fdiv x0 (@HPow.hPow Int Nat Int (@instHPow Int Nat (@instPowNat Int @Int.instNatPow)) (2 : Int) (@Min.min Nat @instMinNat (Int.toNat (32 : Int)) (@Go.IntKind.bits @Go.IntKind.u64)))) * (@Go.bits @Go.BinOp.and @Go.IntKind.u64 x0 (4294967295 : Int)))) + (@Int.fdiv (Go.IntKind.wrap .u64 ((@Go.bits @Go.BinOp.and @Go.IntKind.u64 x0 (4294967295 : Int)) * (@Go.bits @Go.BinOp.and @Go.IntKind.u64 x0 (4294967295 : Int)))) (@HPow.hPow Int Nat Int (@instHPow Int Nat (@instPowNat Int @Int.instNatPow)) (2 : Int) (@Min.min Nat @instMinNat (Int.toNat (32 : Int)) (@Go.IntKind.bits @Go.IntKind.u64)))))) (4294967295 : Int)) + (Go.IntKind.wrap .u64 ((@Go.bits @Go.BinOp.and @Go.IntKind.u64 x0 (4294967295 : Int)) * (@Int.fdiv x0 (@HPow.hPow Int Nat Int (@instHPow Int Nat (@instPowNat Int @Int.instNatPow)) (2 : Int) (@Min.min Nat @instMinNat (Int.toNat (32 : Int)) (@Go.IntKind.bits @Go.IntKind.u64)))))))) (@HPow.hPow Int Nat Int (@instHPow Int Nat (@instPowNat Int @Int.instNatPow)) (2 : Int) (@Min.min Nat @instMinNat (Int.toNat (32 : Int)) (@Go.IntKind.bits @Go.IntKind.u64)))))) * x0)) + (Go.IntKind.wrap .u64 ((Go.IntKind.wrap .u64 ((Go.IntKind.wrap .u64 ((@Int.fdiv (Go.IntKind.wrap .u64 (x0 * x0)) (@HPow.hPow Int Nat Int (@instHPow Int Nat (@instPowNat Int @Int.instNatPow)) (2 : Int) (@Min.min Nat @instMinNat (Int.toNat (32 : Int)) (@Go.IntKind.bits @Go.IntKind.u64)))) * (@Int.fdiv x0 (@HPow.hPow Int Nat Int (@instHPow Int Nat (@instPowNat Int @Int.instNatPow)) (2 : Int) (@Min.min Nat @instMinNat (Int.toNat (32 : Int)) (@Go.IntKind.bits @Go.IntKind.u64)))))) + (@Int.fdiv (Go.IntKind.wrap .u64 ((Go.IntKind.wrap .u64 ((@Int.fdiv (Go.IntKind.wrap .u64 (x0 * x0)) (@HPow.hPow Int Nat Int (@instHPow Int Nat (@instPowNat Int @Int.instNatPow)) (2 : Int) (@Min.min Nat @instMinNat (Int.toNat (32 : Int)) (@Go.IntKind.bits @Go.IntKind.u64)))) * (@Go.bits @Go.BinOp.and @Go.IntKind.u64 x0 (4294967295 : Int)))) + (@Int.fdiv (Go.IntKind.wrap .u64 ((@Go.bits @Go.BinOp.and @Go.IntKind.u64 (Go.IntKind.wrap .u64 (x0 * x0)) (4294967295 : Int)) * (@Go.bits @Go.BinOp.and @Go.IntKind.u64 x0 (4294967295 : Int)))) (@HPow.hPow Int Nat Int (@instHPow Int Nat (@instPowNat Int @Int.instNatPow)) (2 : Int) (@Min.min Nat @instMinNat (Int.toNat (32 : Int)) (@Go.IntKind.bits @Go.IntKind.u64)))))) (@HPow.hPow Int Nat Int (@instHPow Int Nat (@instPowNat Int @Int.instNatPow)) (2 : Int) (@Min.min Nat @instMinNat (Int.toNat (32 : Int)) (@Go.IntKind.bits @Go.IntKind.u64)))))) + (@Int.fdiv (Go.IntKind.wrap .u64 ((@Go.bits @Go.BinOp.and @Go.IntKind.u64 (Go.IntKind.wrap .u64 ((Go.IntKind.wrap .u64 ((@Int.fdiv (Go.IntKind.wrap .u64 (x0 * x0)) (@HPow.hPow Int Nat Int (@instHPow Int Nat (@instPowNat Int @Int.instNatPow)) (2 : Int) (@Min.min Nat @instMinNat (Int.toNat (32 : Int)) (@Go.IntKind.bits @Go.IntKind.u64)))) * (@Go.bits @Go.BinOp.and @Go.IntKind.u64 x0 (4294967295 : Int)))) + (@Int.fdiv (Go.IntKind.wrap .u64 ((@Go.bits @Go.BinOp.and @Go.IntKind.u64 (Go.IntKind.wrap .u64 (x0 * x0)) (4294967295 : Int)) * (@Go.bits @Go.BinOp.and @Go.IntKind.u64 x0 (4294967295 : Int)))) (@HPow.hPow Int Nat Int (@instHPow Int Nat (@instPowNat Int @Int.instNatPow)) (2 : Int) (@Min.min Nat @instMinNat (Int.toNat (32 : Int)) (@Go.IntKind.bits @Go.IntKind.u64)))))) (4294967295 : Int)) + (Go.IntKind.wrap .u64 ((@Go.bits @Go.BinOp.and @Go.IntKind.u64 (Go.IntKind.wrap .u64 (x0 * x0)) (4294967295 : Int)) * (@Int.fdiv x0 (@HPow.hPow Int Nat Int (@instHPow Int Nat (@instPowNat Int @Int.instNatPow)) (2 : Int) (@Min.min Nat @instMinNat (Int.toNat (32 : Int)) (@Go.IntKind.bits @Go.IntKind.u64)))))))) (@HPow.hPow Int Nat Int (@instHPow Int Nat (@instPowNat Int @Int.instNatPow)) (2 : Int) (@Min.min Nat @instMinNat (Int.toNat (32 : Int)) (@Go.IntKind.bits @Go.IntKind.u64)))))))), (Go.IntKind.wrap .u64 ((Go.IntKind.wrap .u64 (x0 * x0)) * x0))))
theorem roots_power_S (N : Nat) (x0 : Int) (degree1 : Int) : (runK Go.Proofs.Try.prog (Ev17 N) 400 128 [(.int .u64), (.int .i64)] [(.int .u64), (.int .u64)] (x0, degree1, ())).run = roots_power N x0 degree1 := by kernel_rfl
noncomputable def Ev18 (N : Nat) : (R : Type) → Env R := Env.addFn (Ev17 N) 128 (fun R => fnK [(.int .u64), (.int .i64)] [(.int .u64), (.int .u64)] (fun c => roots_power N c.1 c.2.1))
theorem Ev18_ok (N : Nat) (R : Type) : EnvOK Go.Proofs.Try.prog (Ev18 N R) := EnvOK.addFn hmx (Ev17_ok N R) (Ev17_ok N _) (by kernel_rfl) (fun c => roots_power_S N c.1 c.2.1)
noncomputable def roots_shifted (N : Nat) (n0 : Int) (shift1 : Int) : Option ((Int) × Int) :=
 bif (decide ((64 : Int) ≤ shift1)) then
  bif (decide ((0 : Int) ≤ (Go.IntKind.wrap .i64 (shift1 - (64 : Int))))) then
   some (((Go.IntKind.wrap .u64 (n0 * (@HPow.hPow Int Nat Int (@instHPow Int Nat (@instPowNat Int @Int.instNatPow)) (2 : Int) (@Min.min Nat @instMinNat (Int.toNat (Go.IntKind.wrap .i64 (shift1 - (64 : Int)))) (@Go.IntKind.bits @Go.IntKind.u64))))), (0 : Int)))
  else
   none
 else
  bif (decide ((0 : Int) ≤ (Go.IntKind.wrap .i64 ((64 : Int) - shift1)))) then
   bif (decide ((0 : Int) ≤ shift1)) then
    some (((@Int.fdiv n0 (@HPow.hPow Int Nat Int (@instHPow Int Nat (@instPowNat Int @Int.instNatPow)) (2 : Int) (@Min.min Nat @instMinNat (Int.toNat (Go.IntKind.wrap .i64 ((64 : Int) - shift1))) (@Go.IntKind.bits @Go.IntKind.u64)))), (Go.IntKind.wrap .u64 (n0 * (@HPow.hPow Int Nat Int (@instHPow Int Nat (@instPowNat Int @Int.instNatPow)) (2 : Int) (@Min.min Nat @instMinNat (Int.toNat shift1) (@Go.IntKind.bits @Go.IntKind.u64)))))))
   else
    none
  else
   none
theorem roots_shifted_S (N : Nat) (n0 : Int) (shift1 : Int) : (runK Go.Proofs.Try.prog (Ev18 N) 400 129 [(.int .u64), (.int .i64)] [(.int .u64), (.int .u64)] (n0, shift1, ())).run = roots_shifted N n0 shift1 := by kernel_rfl
noncomputable def Ev19 (N : Nat) : (R : Type) → Env R := Env.addFn (Ev18 N) 129 (fun R => fnK [(.int .u64), (.int .i64)] [(.int .u64), (.int .u64)] (fun c => roots_shifted N c.1 c.2.1))
theorem Ev19_ok (N : Nat) (R : Type) : EnvOK Go.Proofs.Try.prog (Ev19 N R) := EnvOK.addFn hmx (Ev18_ok N R) (Ev18_ok N _) (by kernel_rfl) (fun c => roots_shifted_S N c.1 c.2.1)
noncomputable def roots_above (N : Nat) (x0 : Int) (n1 : Int) (degree2 : Int) (shift3 : Int) : Option (Bool) :=
 Option.bind (@roots_power N x0 degree2) fun (v5 : (Int × Int)) =>
 Option.bind (@roots_shifted N (Go.IntKind.wrap .u64 n1) shift3) fun (v6 : (Int × Int)) =>
 bif (!(decide (v5.1 = v6.1))) then
  some ((decide (v6.1 < v5.1)))
 else
  some ((decide (v6.2 < v5.2)))
theorem roots_above_S (N : Nat) (x0 : Int) (n1 : Int) (degree2 : Int) (shift3 : Int) : (runK Go.Proofs.Try.prog (Ev19 N) 400 126 [(.int .u64), (.int .i64), (.int .i64), (.int .i64)] [.bool] (x0, n1, degree2, shift3, ())).run = roots_above N x0 n1 degree2 shift3 := by kernel_rfl
noncomputable def Ev20 (N : Nat) : (R : Type) → Env R := Env.addFn (Ev19 N) 126 (fun R => fnK [(.int .u64), (.int .i64), (.int .i64), (.int .i64)] [.bool] (fun c => roots_above N c.1 c.2.1 c.2.2.1 c.2.2.2.1))
theorem Ev20_ok (N : Nat) (R : Type) : EnvOK Go.Proofs.Try.prog (Ev20 N R) := EnvOK.addFn hmx (Ev19_ok N R) (Ev19_ok N _) (by kernel_rfl) (fun c => roots_above_S N c.1 c.2.1 c.2.2.1 c.2.2.2.1)
noncomputable def roots_Root_L5_I : LI := ⟨34, 0, [], ⟨[(0, .ty (.int .i64)), (1, .ty (.int .i64)), (2, .ty (.int .i64)), (8, .ty (.int .u64)), (9, .ty (.int .i64))], []⟩, [(.exit 0, ⟨[(8, .ty (.int .u64))], []⟩)]⟩
noncomputable def roots_Root_L5 (N : Nat) (X : (((Int) × ((Int) × ((Int) × ((Int) × ((Int) × Unit))))) × Unit) → Option ((((Int) × Unit) × Unit))) (n0 : Int) (degree1 : Int) (bits2 : Int) (root8 : Int) (i9 : Int) : Option ((((Int) × Unit) × Unit)) :=
 bif (decide ((0 : Int) ≤ i9)) then
  bif (decide ((0 : Int) ≤ i9)) then
   Option.bind (@roots_above N (@Go.bits @Go.BinOp.or @Go.IntKind.u64 root8 (Go.IntKind.wrap .u64 ((1 : Int) * (@HPow.hPow Int Nat Int (@instHPow Int Nat (@instPowNat Int @Int.instNatPow)) (2 : Int) (@Min.min Nat @instMinNat (Int.toNat i9) (@Go.IntKind.bits @Go.IntKind.u64)))))) n0 degree1 (Go.IntKind.wrap .i64 (degree1 * bits2))) fun (v7 : Bool) =>
   bif (!v7) then
    (X ((n0, (degree1, (bits2, ((@Go.bits @Go.BinOp.or @Go.IntKind.u64 root8 (Go.IntKind.wrap .u64 ((1 : Int) * (@HPow.hPow Int Nat Int (@instHPow Int Nat (@instPowNat Int @Int.instNatPow)) (2 : Int) (@Min.min Nat @instMinNat (Int.toNat i9) (@Go.IntKind.bits @Go.IntKind.u64)))))), ((Go.IntKind.wrap .i64 (i9 - (1 : Int))), @Unit.unit))))), @Unit.unit))
   else
    (X ((n0, (degree1, (bits2, (root8, ((Go.IntKind.wrap .i64 (i9 - (1 : Int))), @Unit.unit))))), @Unit.unit))
  else
   none
 else
  some (((root8, @Unit.unit), @Unit.unit))
noncomputable def roots_Root_L5_R (N : Nat) (c : (((Int) × ((Int) × ((Int) × ((Int) × ((Int) × Unit))))) × Unit)) : Option ((((Int) × Unit) × Unit)) := gl (fun X c => roots_Root_L5 N X c.1.1 c.1.2.1 c.1.2.2.1 c.1.2.2.2.1 c.1.2.2.2.2.1) N c
theorem roots_Root_L5_S (N : Nat) (X : (((Int) × ((Int) × ((Int) × ((Int) × ((Int) × Unit))))) × Unit) → Option ((((Int) × Unit) × Unit))) (n0 : Int) (degree1 : Int) (bits2 : Int) (root8 : Int) (i9 : Int) : (roundK Go.Proofs.Try.prog (Ev20 N) 400 [123] roots_Root_L5_I (loopAt Go.Proofs.Try.prog [123] 5) X ((n0, degree1, bits2, root8, i9, ()), ())).run = roots_Root_L5 N X n0 degree1 bits2 root8 i9 := by kernel_rfl
noncomputable def Ev21 (N : Nat) : (R : Type) → Env R := Env.addLp (Ev20 N) [123] 0 5 (fun R => lpK Go.Proofs.Try.prog roots_Root_L5_I (fun X c => roots_Root_L5 N X c.1.1 c.1.2.1 c.1.2.2.1 c.1.2.2.2.1 c.1.2.2.2.2.1) N)
theorem Ev21_ok (N : Nat) (R : Type) : EnvOK Go.Proofs.Try.prog (Ev21 N R) := EnvOK.addLp (Ev20_ok N R) (by kernel_rfl) (lpK_ok (li := roots_Root_L5_I) (G := fun X c => roots_Root_L5 N X c.1.1 c.1.2.1 c.1.2.2.1 c.1.2.2.2.1 c.1.2.2.2.2.1) hmx (Ev20_ok N _) (by kernel_rfl) loopAt_sub (fun (X : CT roots_Root_L5_I.sh → Option (OT roots_Root_L5_I.outs)) (c : CT roots_Root_L5_I.sh) => roots_Root_L5_S N X c.1.1 c.1.2.1 c.1.2.2.1 c.1.2.2.2.1 c.1.2.2.2.2.1) N)
noncomputable def roots_Root (N : Nat) (n0 : Int) (degree1 : Int) (bits2 : Int) : Option ((Int) × Int) :=
 Option.bind (@roots_may N n0 degree1 bits2) fun (v4 : Bool) =>
 bif (!v4) then
  some (((0 : Int), (1 : Int)))
 else
  Option.bind (roots_Root_L5_R N ((n0, (degree1, (bits2, ((0 : Int), ((36 : Int), @Unit.unit))))), @Unit.unit)) fun (v5 : ((Int × Unit) × Unit)) =>
  some ((v5.1.1, (0 : Int)))
theorem roots_Root_S (N : Nat) (n0 : Int) (degree1 : Int) (bits2 : Int) : (runK Go.Proofs.Try.prog (Ev21 N) 400 123 [(.int .i64), (.int .i64), (.int .i64)] [(.int .u64), (.int .i64)] (n0, degree1, bits2, ())).run = roots_Root N n0 degree1 bits2 := by kernel_rfl
noncomputable def Ev22 (N : Nat) : (R : Type) → Env R := Env.addFn (Ev21 N) 123 (fun R => fnK [(.int .i64), (.int .i64), (.int .i64)] [(.int .u64), (.int .i64)] (fun c => roots_Root N c.1 c.2.1 c.2.2.1))
theorem Ev22_ok (N : Nat) (R : Type) : EnvOK Go.Proofs.Try.prog (Ev22 N R) := EnvOK.addFn hmx (Ev21_ok N R) (Ev21_ok N _) (by kernel_rfl) (fun c => roots_Root_S N c.1 c.2.1 c.2.2.1)
noncomputable def roots_Frac (N : Nat) (n0 : Int) (degree1 : Int) : Option (Int) :=
 Option.bind (@roots_Root N n0 degree1 (32 : Int)) fun (v3 : (Int × Int)) =>
 some ((Go.IntKind.wrap .u32 v3.1))
theorem roots_Frac_S (N : Nat) (n0 : Int) (degree1 : Int) : (runK Go.Proofs.Try.prog (Ev22 N) 400 116 [(.int .i64), (.int .i64)] [(.int .u32)] (n0, degree1, ())).run = roots_Frac N n0 degree1 := by kernel_rfl
noncomputable def Ev23 (N : Nat) : (R : Type) → Env R := Env.addFn (Ev22 N) 116 (fun R => fnK [(.int .i64), (.int .i64)] [(.int .u32)] (fun c => roots_Frac N c.1 c.2.1))
theorem Ev23_ok (N : Nat) (R : Type) : EnvOK Go.Proofs.Try.prog (Ev23 N R) := EnvOK.addFn hmx (Ev22_ok N R) (Ev22_ok N _) (by kernel_rfl) (fun c => roots_Frac_S N c.1 c.2.1)
noncomputable def roots_Fracs_L3_I : LI := ⟨23, 0, [(5, 80)], ⟨[(1, .ty (.int .i64)), (5, .lit (.own 0)), (9, .ty (.sl (.int .i64))), (10, .ty (.int .i64)), (11, .ty (.int .i64))], [.own (.int .u32) 80]⟩, [(.exit 0, ⟨[(5, .lit (.own 0))], [.own (.int .u32) 80]⟩)]⟩
noncomputable def roots_Fracs_L3 (N : Nat) (X : (((Int) × ((List (Int)) × ((Int) × ((Int) × Unit)))) × ((List (Int)) × Unit)) → Option ((Unit × ((List (Int)) × Unit)))) (degree1 : Int) (x9 : List (Int)) (x10 : Int) (x11 : Int) (h0 : List (Int)) : Option ((Unit × ((List (Int)) × Unit))) :=
 bif (decide (x11 < x10)) then
  Option.bind (getI x9 x11) fun (v7 : Int) =>
  Option.bind (@roots_Frac N v7 degree1) fun (v8 : Int) =>
  bif (roomB ((List.length h0) + (List.length ([v8] : List (Int)))) 4) then
   (X ((degree1, (x9, (x10, ((Go.IntKind.wrap .i64 (x11 + (1 : Int))), @Unit.unit)))), ((h0 ++ ([v8] : List (Int))), @Unit.unit)))
  else
   none
 else
  some ((@Unit.unit, (h0, @Unit.unit)))
noncomputable def roots_Fracs_L3_R (N : Nat) (c : (((Int) × ((List (Int)) × ((Int) × ((Int) × Unit)))) × ((List (Int)) × Unit))) : Option ((Unit × ((List (Int)) × Unit))) := gl (fun X c => roots_Fracs_L3 N X c.1.1 c.1.2.1 c.1.2.2.1 c.1.2.2.2.1 c.2.1) N c
theorem roots_Fracs_L3_S (N : Nat) (X : (((Int) × ((List (Int)) × ((Int) × ((Int) × Unit)))) × ((List (Int)) × Unit)) → Option ((Unit × ((List (Int)) × Unit)))) (degree1 : Int) (x9 : List (Int)) (x10 : Int) (x11 : Int) (h0 : List (Int)) : (roundK Go.Proofs.Try.prog (Ev23 N) 400 [103] roots_Fracs_L3_I (loopAt Go.Proofs.Try.prog [103] 3) X ((degree1, x9, x10, x11, ()), (h0, ()))).run = roots_Fracs_L3 N X degree1 x9 x10 x11 h0 := by kernel_rfl
noncomputable def Ev24 (N : Nat) : (R : Type) → Env R := Env.addLp (Ev23 N) [103] 0 3 (fun R => lpK Go.Proofs.Try.prog roots_Fracs_L3_I (fun X c => roots_Fracs_L3 N X c.1.1 c.1.2.1 c.1.2.2.1 c.1.2.2.2.1 c.2.1) N)
theorem Ev24_ok (N : Nat) (R : Type) : EnvOK Go.Proofs.Try.prog (Ev24 N R) := EnvOK.addLp (Ev23_ok N R) (by kernel_rfl) (lpK_ok (li := roots_Fracs_L3_I) (G := fun X c => roots_Fracs_L3 N X c.1.1 c.1.2.1 c.1.2.2.1 c.1.2.2.2.1 c.2.1) hmx (Ev23_ok N _) (by kernel_rfl) loopAt_sub (fun (X : CT roots_Fracs_L3_I.sh → Option (OT roots_Fracs_L3_I.outs)) (c : CT roots_Fracs_L3_I.sh) => roots_Fracs_L3_S N X c.1.1 c.1.2.1 c.1.2.2.1 c.1.2.2.2.1 c.2.1) N)
noncomputable def roots_Fracs (N : Nat) (many0 : Int) (degree1 : Int) : Option (List (Int)) :=
 Option.bind (@roots_Primes N many0) fun (v3 : (List Int)) =>
 Option.bind (roots_Fracs_L3_R N ((degree1, (v3, ((((List.length v3) : Nat) : Int), ((0 : Int), @Unit.unit)))), (([] : List (Int)), @Unit.unit))) fun (v4 : (Unit × ((List Int) × Unit))) =>
 some (v4.2.1)
theorem roots_Fracs_S (N : Nat) (many0 : Int) (degree1 : Int) : (runK Go.Proofs.Try.prog (Ev24 N) 400 103 [(.int .i64), (.int .i64)] [(.sl (.int .u32))] (many0, degree1, ())).run = roots_Fracs N many0 degree1 := by kernel_rfl
noncomputable def Ev25 (N : Nat) : (R : Type) → Env R := Env.addFn (Ev24 N) 103 (fun R => fnK [(.int .i64), (.int .i64)] [(.sl (.int .u32))] (fun c => roots_Fracs N c.1 c.2.1))
theorem Ev25_ok (N : Nat) (R : Type) : EnvOK Go.Proofs.Try.prog (Ev25 N R) := EnvOK.addFn hmx (Ev24_ok N R) (Ev24_ok N _) (by kernel_rfl) (fun c => roots_Fracs_S N c.1 c.2.1)
noncomputable def sha256_First (N : Nat) : Option (Arr (Int) 8) :=
 Option.bind (@roots_Fracs N (8 : Int) (2 : Int)) fun (v1 : (List Int)) =>
 Option.bind (@toArr Int (8 : Nat) v1) fun (v2 : (Arr Int 8)) =>
 some (v2)
theorem sha256_First_S (N : Nat) : (runK Go.Proofs.Try.prog (Ev25 N) 400 74 [] [(.arr 8 (.int .u32))] ()).run = sha256_First N  := by kernel_rfl
noncomputable def Ev26 (N : Nat) : (R : Type) → Env R := Env.addFn (Ev25 N) 74 (fun R => fnK [] [(.arr 8 (.int .u32))] (fun c => sha256_First N ))
theorem Ev26_ok (N : Nat) (R : Type) : EnvOK Go.Proofs.Try.prog (Ev26 N R) := EnvOK.addFn hmx (Ev25_ok N R) (Ev25_ok N _) (by kernel_rfl) (fun c => sha256_First_S N )
noncomputable def sha256_constants (N : Nat) : Option (Arr (Int) 64) :=
 Option.bind (@roots_Fracs N (64 : Int) (3 : Int)) fun (v1 : (List Int)) =>
 Option.bind (@toArr Int (64 : Nat) v1) fun (v2 : (Arr Int 64)) =>
 some (v2)
theorem sha256_constants_S (N : Nat) : (runK Go.Proofs.Try.prog (Ev26 N) 400 75 [] [(.arr 64 (.int .u32))] ()).run = sha256_constants N  := by kernel_rfl
noncomputable def Ev27 (N : Nat) : (R : Type) → Env R := Env.addFn (Ev26 N) 75 (fun R => fnK [] [(.arr 64 (.int .u32))] (fun c => sha256_constants N ))
theorem Ev27_ok (N : Nat) (R : Type) : EnvOK Go.Proofs.Try.prog (Ev27 N R) := EnvOK.addFn hmx (Ev26_ok N R) (Ev26_ok N _) (by kernel_rfl) (fun c => sha256_constants_S N )
noncomputable def Ev28 (N : Nat) : (R : Type) → Env R := Env.addBx (Ev27 N) [(76, 0)]
theorem Ev28_ok (N : Nat) (R : Type) : EnvOK Go.Proofs.Try.prog (Ev28 N R) := EnvOK.addBx (Ev27_ok N R) [(76, 0)]
noncomputable def Ev29 (N : Nat) : (R : Type) → Env R := Env.addBx (Ev28 N) [(104, 0)]
theorem Ev29_ok (N : Nat) (R : Type) : EnvOK Go.Proofs.Try.prog (Ev29 N R) := EnvOK.addBx (Ev28_ok N R) [(104, 0)]
noncomputable def octs_Get_L5_I : LI := ⟨37, 0, [], ⟨[(0, .ty (.sl (.int .u8))), (1, .ty .bool), (6, .ty (.int .u64)), (17, .ty (.int .i64)), (18, .ty (.int .i64))], []⟩, [(.exit 0, ⟨[(6, .ty (.int .u64))], []⟩)]⟩
noncomputable def octs_Get_L5 (N : Nat) (X : (((List (Int)) × ((Bool) × ((Int) × ((Int) × ((Int) × Unit))))) × Unit) → Option ((((Int) × Unit) × Unit))) (b0 : List (Int)) (little1 : Bool) (n6 : Int) (x17 : Int) (x18 : Int) : Option ((((Int) × Unit) × Unit)) :=
 bif (decide (x18 < x17)) then
  Option.bind (@octs_place N x18 (((List.length b0) : Nat) : Int) little1) fun (v7 : Int) =>
  Option.bind (getI b0 v7) fun (v8 : Int) =>
  bif (decide ((0 : Int) ≤ (Go.IntKind.wrap .i64 ((8 : Int) * x18)))) then
   (X ((b0, (little1, ((@Go.bits @Go.BinOp.or @Go.IntKind.u64 n6 (Go.IntKind.wrap .u64 ((Go.IntKind.wrap .u64 v8) * (@HPow.hPow Int Nat Int (@instHPow Int Nat (@instPowNat Int @Int.instNatPow)) (2 : Int) (@Min.min Nat @instMinNat (Int.toNat (Go.IntKind.wrap .i64 ((8 : Int) * x18))) (@Go.IntKind.bits @Go.IntKind.u64)))))), (x17, ((Go.IntKind.wrap .i64 (x18 + (1 : Int))), @Unit.unit))))), @Unit.unit))
  else
   none
 else
  some (((n6, @Unit.unit), @Unit.unit))
noncomputable def octs_Get_L5_R (N : Nat) (c : (((List (Int)) × ((Bool) × ((Int) × ((Int) × ((Int) × Unit))))) × Unit)) : Option ((((Int) × Unit) × Unit)) := gl (fun X c => octs_Get_L5 N X c.1.1 c.1.2.1 c.1.2.2.1 c.1.2.2.2.1 c.1.2.2.2.2.1) N c
theorem octs_Get_L5_S (N : Nat) (X : (((List (Int)) × ((Bool) × ((Int) × ((Int) × ((Int) × Unit))))) × Unit) → Option ((((Int) × Unit) × Unit))) (b0 : List (Int)) (little1 : Bool) (n6 : Int) (x17 : Int) (x18 : Int) : (roundK Go.Proofs.Try.prog (Ev29 N) 400 [82] octs_Get_L5_I (loopAt Go.Proofs.Try.prog [82] 5) X ((b0, little1, n6, x17, x18, ()), ())).run = octs_Get_L5 N X b0 little1 n6 x17 x18 := by kernel_rfl
noncomputable def Ev30 (N : Nat) : (R : Type) → Env R := Env.addLp (Ev29 N) [82] 0 5 (fun R => lpK Go.Proofs.Try.prog octs_Get_L5_I (fun X c => octs_Get_L5 N X c.1.1 c.1.2.1 c.1.2.2.1 c.1.2.2.2.1 c.1.2.2.2.2.1) N)
theorem Ev30_ok (N : Nat) (R : Type) : EnvOK Go.Proofs.Try.prog (Ev30 N R) := EnvOK.addLp (Ev29_ok N R) (by kernel_rfl) (lpK_ok (li := octs_Get_L5_I) (G := fun X c => octs_Get_L5 N X c.1.1 c.1.2.1 c.1.2.2.1 c.1.2.2.2.1 c.1.2.2.2.2.1) hmx (Ev29_ok N _) (by kernel_rfl) loopAt_sub (fun (X : CT octs_Get_L5_I.sh → Option (OT octs_Get_L5_I.outs)) (c : CT octs_Get_L5_I.sh) => octs_Get_L5_S N X c.1.1 c.1.2.1 c.1.2.2.1 c.1.2.2.2.1 c.1.2.2.2.2.1) N)
noncomputable def octs_Get (N : Nat) (b0 : List (Int)) (little1 : Bool) : Option ((Int) × Int) :=
 bif (decide ((((List.length b0) : Nat) : Int) < (1 : Int))) then
  some (((0 : Int), (1 : Int)))
 else
  bif (@cond Bool @Bool.false @Bool.true (decide ((8 : Int) < (((List.length b0) : Nat) : Int)))) then
   some (((0 : Int), (1 : Int)))
  else
   Option.bind (octs_Get_L5_R N ((b0, (little1, ((0 : Int), ((((List.length b0) : Nat) : Int), ((0 : Int), @Unit.unit))))), @Unit.unit)) fun (v3 : ((Int × Unit) × Unit)) =>
   some ((v3.1.1, (0 : Int)))
theorem octs_Get_S (N : Nat) (b0 : List (Int)) (little1 : Bool) : (runK Go.Proofs.Try.prog (Ev30 N) 400 82 [(.sl (.int .u8)), .bool] [(.int .u64), (.int .i64)] (b0, little1, ())).run = octs_Get N b0 little1 := by kernel_rfl
noncomputable def Ev31 (N : Nat) : (R : Type) → Env R := Env.addFn (Ev30 N) 82 (fun R => fnK [(.sl (.int .u8)), .bool] [(.int .u64), (.int .i64)] (fun c => octs_Get N c.1 c.2.1))
theorem Ev31_ok (N : Nat) (R : Type) : EnvOK Go.Proofs.Try.prog (Ev31 N R) := EnvOK.addFn hmx (Ev30_ok N R) (Ev30_ok N _) (by kernel_rfl) (fun c => octs_Get_S N c.1 c.2.1)
noncomputable def sha256_words_L3_I : LI := ⟨56, 0, [], ⟨[(1, .adr (.arr 64 (.int .u8))), (2, .lit (.box 0 0)), (3, .lit (.box 1 0)), (8, .ty (.int .i64))], [.box 128 (.arr 64 (.int .u32)), .box 128 (.arr 64 (.int .u32))]⟩, [(.exit 0, ⟨[(2, .lit (.box 0 0)), (3, .lit (.box 1 0))], [.box 128 (.arr 64 (.int .u32)), .box 128 (.arr 64 (.int .u32))]⟩)]⟩
noncomputable def sha256_words_L3 (N : Nat) (X : (((Arr (Int) 64) × ((Int) × Unit)) × ((Arr (Int) 64) × ((Arr (Int) 64) × Unit))) → Option ((Unit × ((Arr (Int) 64) × ((Arr (Int) 64) × Unit))))) (b1 : Arr (Int) 64) (x8 : Int) (h0 : Arr (Int) 64) (h1 : Arr (Int) 64) : Option ((Unit × ((Arr (Int) 64) × ((Arr (Int) 64) × Unit)))) :=
 bif (decide (x8 < (16 : Int))) then
  Option.bind (subI b1.l (Go.IntKind.wrap .i64 ((4 : Int) * x8)) (Go.IntKind.wrap .i64 ((Go.IntKind.wrap .i64 ((4 : Int) * x8)) + (4 : Int)))) fun (v6 : (List Int)) =>
  Option.bind (@octs_Get N v6 @Bool.false) fun (v7 : (Int × Int)) =>
  bif (decide ((0 : Int) ≤ x8 ∧ x8 < (((64 : Nat) : Nat) : Int))) then
   Option.bind (@GetElem?.getElem? (List Int) Nat Int (fun (as8 : (List Int)) => (fun (i9 : Nat) => (@LT.lt Nat @instLTNat i9 (List.length as8)))) (@List.instGetElem?NatLtLength Int) h1.l (Int.toNat x8)) fun (v8 : Int) =>
   (X ((b1, ((Go.IntKind.wrap .i64 (x8 + (1 : Int))), @Unit.unit)), (h0, ((h1.set (Int.toNat x8) (Go.IntKind.wrap .u32 v7.1)), @Unit.unit))))
  else
   none
 else
  some ((@Unit.unit, (h0, (h1, @Unit.unit))))
noncomputable def sha256_words_L3_R (N : Nat) (c : (((Arr (Int) 64) × ((Int) × Unit)) × ((Arr (Int) 64) × ((Arr (Int) 64) × Unit)))) : Option ((Unit × ((Arr (Int) 64) × ((Arr (Int) 64) × Unit)))) := gl (fun X c => sha256_words_L3 N X c.1.1 c.1.2.1 c.2.1 c.2.2.1) N c
theorem sha256_words_L3_S (N : Nat) (X : (((Arr (Int) 64) × ((Int) × Unit)) × ((Arr (Int) 64) × ((Arr (Int) 64) × Unit))) → Option ((Unit × ((Arr (Int) 64) × ((Arr (Int) 64) × Unit))))) (b1 : Arr (Int) 64) (x8 : Int) (h0 : Arr (Int) 64) (h1 : Arr (Int) 64) : (roundK Go.Proofs.Try.prog (Ev31 N) 400 [104] sha256_words_L3_I (loopAt Go.Proofs.Try.prog [104] 3) X ((b1, x8, ()), (h0, h1, ()))).run = sha256_words_L3 N X b1 x8 h0 h1 := by kernel_rfl
noncomputable def Ev32 (N : Nat) : (R : Type) → Env R := Env.addLp (Ev31 N) [104] 0 3 (fun R => lpK Go.Proofs.Try.prog sha256_words_L3_I (fun X c => sha256_words_L3 N X c.1.1 c.1.2.1 c.2.1 c.2.2.1) N)
theorem Ev32_ok (N : Nat) (R : Type) : EnvOK Go.Proofs.Try.prog (Ev32 N R) := EnvOK.addLp (Ev31_ok N R) (by kernel_rfl) (lpK_ok (li := sha256_words_L3_I) (G := fun X c => sha256_words_L3 N X c.1.1 c.1.2.1 c.2.1 c.2.2.1) hmx (Ev31_ok N _) (by kernel_rfl) loopAt_sub (fun (X : CT sha256_words_L3_I.sh → Option (OT sha256_words_L3_I.outs)) (c : CT sha256_words_L3_I.sh) => sha256_words_L3_S N X c.1.1 c.1.2.1 c.2.1 c.2.2.1) N)
noncomputable def Ev33 (N : Nat) : (R : Type) → Env R := Env.addBx (Ev32 N) [(117, 0)]
theorem Ev33_ok (N : Nat) (R : Type) : EnvOK Go.Proofs.Try.prog (Ev33 N R) := EnvOK.addBx (Ev32_ok N R) [(117, 0)]
noncomputable def math_bits_RotateLeft32 (N : Nat) (x0 : Int) (k1 : Int) : Option (Int) :=
 bif (decide ((0 : Int) ≤ (Go.IntKind.wrap .u64 ((32 : Int) - (@Go.bits @Go.BinOp.and @Go.IntKind.u64 (Go.IntKind.wrap .u64 k1) (31 : Int)))))) then
  some ((@Go.bits @Go.BinOp.or @Go.IntKind.u32 (Go.IntKind.wrap .u32 (x0 * (@HPow.hPow Int Nat Int (@instHPow Int Nat (@instPowNat Int @Int.instNatPow)) (2 : Int) (@Min.min Nat @instMinNat (Int.toNat (@Go.bits @Go.BinOp.and @Go.IntKind.u64 (Go.IntKind.wrap .u64 k1) (31 : Int))) (@Go.IntKind.bits @Go.IntKind.u32))))) (@Int.fdiv x0 (@HPow.hPow Int Nat Int (@instHPow Int Nat (@instPowNat Int @Int.instNatPow)) (2 : Int) (@Min.min Nat @instMinNat (Int.toNat (Go.IntKind.wrap .u64 ((32 : Int) - (@Go.bits @Go.BinOp.and @Go.IntKind.u64 (Go.IntKind.wrap .u64 k1) (31 : Int))))) (@Go.IntKind.bits @Go.IntKind.u32))))))
 else
  none
theorem math_bits_RotateLeft32_S (N : Nat) (x0 : Int) (k1 : Int) : (runK Go.Proofs.Try.prog (Ev33 N) 400 127 [(.int .u32), (.int .i64)] [(.int .u32)] (x0, k1, ())).run = math_bits_RotateLeft32 N x0 k1 := by kernel_rfl
noncomputable def Ev34 (N : Nat) : (R : Type) → Env R := Env.addFn (Ev33 N) 127 (fun R => fnK [(.int .u32), (.int .i64)] [(.int .u32)] (fun c => math_bits_RotateLeft32 N c.1 c.2.1))
theorem Ev34_ok (N : Nat) (R : Type) : EnvOK Go.Proofs.Try.prog (Ev34 N R) := EnvOK.addFn hmx (Ev33_ok N R) (Ev33_ok N _) (by kernel_rfl) (fun c => math_bits_RotateLeft32_S N c.1 c.2.1)
noncomputable def sha256_right (N : Nat) (x0 : Int) (x1 : Int) : Option (Int) :=
 Option.bind (@math_bits_RotateLeft32 N x0 (Go.IntKind.wrap .i64 ((0 : Int) - x1))) fun (v3 : Int) =>
 some (v3)
theorem sha256_right_S (N : Nat) (x0 : Int) (x1 : Int) : (runK Go.Proofs.Try.prog (Ev34 N) 400 124 [(.int .u32), (.int .i64)] [(.int .u32)] (x0, x1, ())).run = sha256_right N x0 x1 := by kernel_rfl
noncomputable def Ev35 (N : Nat) : (R : Type) → Env R := Env.addFn (Ev34 N) 124 (fun R => fnK [(.int .u32), (.int .i64)] [(.int .u32)] (fun c => sha256_right N c.1 c.2.1))
theorem Ev35_ok (N : Nat) (R : Type) : EnvOK Go.Proofs.Try.prog (Ev35 N R) := EnvOK.addFn hmx (Ev34_ok N R) (Ev34_ok N _) (by kernel_rfl) (fun c => sha256_right_S N c.1 c.2.1)
noncomputable def sha256_small (N : Nat) (x0 : Int) (x1 : Arr (Int) 3) : Option (Int) :=
 Option.bind (getI x1.l (0 : Int)) fun (v3 : Int) =>
 Option.bind (@sha256_right N x0 v3) fun (v4 : Int) =>
 Option.bind (getI x1.l (1 : Int)) fun (v5 : Int) =>
 Option.bind (@sha256_right N x0 v5) fun (v6 : Int) =>
 Option.bind (getI x1.l (2 : Int)) fun (v7 : Int) =>
 bif (decide ((0 : Int) ≤ v7)) then
  some ((@Go.bits @Go.BinOp.xor @Go.IntKind.u32 (@Go.bits @Go.BinOp.xor @Go.IntKind.u32 v4 v6) (@Int.fdiv x0 (@HPow.hPow Int Nat Int (@instHPow Int Nat (@instPowNat Int @Int.instNatPow)) (2 : Int) (@Min.min Nat @instMinNat (Int.toNat v7) (@Go.IntKind.bits @Go.IntKind.u32))))))
 else
  none
theorem sha256_small_S (N : Nat) (x0 : Int) (x1 : Arr (Int) 3) : (runK Go.Proofs.Try.prog (Ev35 N) 400 117 [(.int .u32), (.arr 3 (.int .i64))] [(.int .u32)] (x0, x1, ())).run = sha256_small N x0 x1 := by kernel_rfl
noncomputable def Ev36 (N : Nat) : (R : Type) → Env R := Env.addFn (Ev35 N) 117 (fun R => fnK [(.int .u32), (.arr 3 (.int .i64))] [(.int .u32)] (fun c => sha256_small N c.1 c.2.1))
theorem Ev36_ok (N : Nat) (R : Type) : EnvOK Go.Proofs.Try.prog (Ev36 N R) := EnvOK.addFn hmx (Ev35_ok N R) (Ev35_ok N _) (by kernel_rfl) (fun c => sha256_small_S N c.1 c.2.1)
noncomputable def sha256_words_L9_I : LI := ⟨56, 0, [], ⟨[(2, .lit (.box 0 0)), (3, .lit (.box 1 0)), (7, .ty (.int .i64))], [.box 128 (.arr 64 (.int .u32)), .box 128 (.arr 64 (.int .u32))]⟩, [(.exit 2, ⟨[(2, .lit (.box 0 0)), (3, .lit (.box 1 0))], [.box 128 (.arr 64 (.int .u32)), .box 128 (.arr 64 (.int .u32))]⟩)]⟩
noncomputable def sha256_words_L9 (N : Nat) (X : (((Int) × Unit) × ((Arr (Int) 64) × ((Arr (Int) 64) × Unit))) → Option ((Unit × ((Arr (Int) 64) × ((Arr (Int) 64) × Unit))))) (i7 : Int) (h0 : Arr (Int) 64) (h1 : Arr (Int) 64) : Option ((Unit × ((Arr (Int) 64) × ((Arr (Int) 64) × Unit)))) :=
 bif (decide (i7 < (64 : Int))) then
  bif (decide ((0 : Int) ≤ (Go.IntKind.wrap .i64 (i7 - (16 : Int))) ∧ (Go.IntKind.wrap .i64 (i7 - (16 : Int))) < (((64 : Nat) : Nat) : Int))) then
   Option.bind (@GetElem?.getElem? (List Int) Nat Int (fun (as5 : (List Int)) => (fun (i6 : Nat) => (@LT.lt Nat @instLTNat i6 (List.length as5)))) (@List.instGetElem?NatLtLength Int) h1.l (Int.toNat (Go.IntKind.wrap .i64 (i7 - (16 : Int))))) fun (v5 : Int) =>
   bif (decide ((0 : Int) ≤ (Go.IntKind.wrap .i64 (i7 - (7 : Int))) ∧ (Go.IntKind.wrap .i64 (i7 - (7 : Int))) < (((64 : Nat) : Nat) : Int))) then
    Option.bind (@GetElem?.getElem? (List Int) Nat Int (fun (as6 : (List Int)) => (fun (i7 : Nat) => (@LT.lt Nat @instLTNat i7 (List.length as6)))) (@List.instGetElem?NatLtLength Int) h1.l (Int.toNat (Go.IntKind.wrap .i64 (i7 - (7 : Int))))) fun (v6 : Int) =>
    bif (decide ((0 : Int) ≤ (Go.IntKind.wrap .i64 (i7 - (15 : Int))) ∧ (Go.IntKind.wrap .i64 (i7 - (15 : Int))) < (((64 : Nat) : Nat) : Int))) then
     Option.bind (@GetElem?.getElem? (List Int) Nat Int (fun (as7 : (List Int)) => (fun (i8 : Nat) => (@LT.lt Nat @instLTNat i8 (List.length as7)))) (@List.instGetElem?NatLtLength Int) h1.l (Int.toNat (Go.IntKind.wrap .i64 (i7 - (15 : Int))))) fun (v7 : Int) =>
     bif (decide ((0 : Int) ≤ (Go.IntKind.wrap .i64 (i7 - (2 : Int))) ∧ (Go.IntKind.wrap .i64 (i7 - (2 : Int))) < (((64 : Nat) : Nat) : Int))) then
      Option.bind (@GetElem?.getElem? (List Int) Nat Int (fun (as8 : (List Int)) => (fun (i9 : Nat) => (@LT.lt Nat @instLTNat i9 (List.length as8)))) (@List.instGetElem?NatLtLength Int) h1.l (Int.toNat (Go.IntKind.wrap .i64 (i7 - (2 : Int))))) fun (v8 : Int) =>
      bif (decide ((0 : Int) ≤ i7 ∧ i7 < (((64 : Nat) : Nat) : Int))) then
       Option.bind (@GetElem?.getElem? (List Int) Nat Int (fun (as9 : (List Int)) => (fun (i10 : Nat) => (@LT.lt Nat @instLTNat i10 (List.length as9)))) (@List.instGetElem?NatLtLength Int) h1.l (Int.toNat i7)) fun (v9 : Int) =>
       (X (((Go.IntKind.wrap .i64 (i7 + (1 : Int))), @Unit.unit), (h0, ((h1.set (Int.toNat i7) (Go.IntKind.wrap .u32 ((Go.IntKind.wrap .u32 ((Go.IntKind.wrap .u32 (v5 + v6)) + (@Go.bits @Go.BinOp.xor @Go.IntKind.u32 (@Go.bits @Go.BinOp.xor @Go.IntKind.u32 (@Go.bits @Go.BinOp.or @Go.IntKind.u32 (Go.IntKind.wrap .u32 (v7 * (@HPow.hPow Int Nat Int (@instHPow Int Nat (@instPowNat Int @Int.instNatPow)) (2 : Int) (@Min.min Nat @instMinNat (Int.toNat (@Go.bits @Go.BinOp.and @Go.IntKind.u64 (Go.IntKind.wrap .u64 (Go.IntKind.wrap .i64 ((0 : Int) - (7 : Int)))) (31 : Int))) (@Go.IntKind.bits @Go.IntKind.u32))))) (@Int.fdiv v7 (@HPow.hPow Int Nat Int (@instHPow Int Nat (@instPowNat Int @Int.instNatPow)) (2 : Int) (@Min.min Nat @instMinNat (Int.toNat (Go.IntKind.wrap .u64 ((32 : Int) - (@Go.bits @Go.BinOp.and @Go.IntKind.u64 (Go.IntKind.wrap .u64 (Go.IntKind.wrap .i64 ((0 : Int) - (7 : Int)))) (31 : Int))))) (@Go.IntKind.bits @Go.IntKind.u32))))) (@Go.bits @Go.BinOp.or @Go.IntKind.u32 (Go.IntKind.wrap .u32 (v7 * (@HPow.hPow Int Nat Int (@instHPow Int Nat (@instPowNat Int @Int.instNatPow)) (2 : Int) (@Min.min Nat @instMinNat (Int.toNat (@Go.bits @Go.BinOp.and @Go.IntKind.u64 (Go.IntKind.wrap .u64 (Go.IntKind.wrap .i64 ((0 : Int) - (18 : Int)))) (31 : Int))) (@Go.IntKind.bits @Go.IntKind.u32))))) (@Int.fdiv v7 (@HPow.hPow Int Nat Int (@instHPow Int Nat (@instPowNat Int @Int.instNatPow)) (2 : Int) (@Min.min Nat @instMinNat (Int.toNat (Go.IntKind.wrap .u64 ((32 : Int) - (@Go.bits @Go.BinOp.and @Go.IntKind.u64 (Go.IntKind.wrap .u64 (Go.IntKind.wrap .i64 ((0 : Int) - (18 : Int)))) (31 : Int))))) (@Go.IntKind.bits @Go.IntKind.u32)))))) (@Int.fdiv v7 (@HPow.hPow Int Nat Int (@instHPow Int Nat (@instPowNat Int @Int.instNatPow)) (2 : Int) (@Min.min Nat @instMinNat (Int.toNat (3 : Int)) (@Go.IntKind.bits @Go.IntKind.u32))))))) + (@Go.bits @Go.BinOp.xor @Go.IntKind.u32 (@Go.bits @Go.BinOp.xor @Go.IntKind.u32 (@Go.bits @Go.BinOp.or @Go.IntKind.u32 (Go.IntKind.wrap .u32 (v8 * (@HPow.hPow Int Nat Int (@instHPow Int Nat (@instPowNat Int @Int.instNatPow)) (2 : Int) (@Min.min Nat @instMinNat (Int.toNat (@Go.bits @Go.BinOp.and @Go.IntKind.u64 (Go.IntKind.wrap .u64 (Go.IntKind.wrap .i64 ((0 : Int) - (17 : Int)))) (31 : Int))) (@Go.IntKind.bits @Go.IntKind.u32))))) (@Int.fdiv v8 (@HPow.hPow Int Nat Int (@instHPow Int Nat (@instPowNat Int @Int.instNatPow)) (2 : Int) (@Min.min Nat @instMinNat (Int.toNat (Go.IntKind.wrap .u64 ((32 : Int) - (@Go.bits @Go.BinOp.and @Go.IntKind.u64 (Go.IntKind.wrap .u64 (Go.IntKind.wrap .i64 ((0 : Int) - (17 : Int)))) (31 : Int))))) (@Go.IntKind.bits @Go.IntKind.u32))))) (@Go.bits @Go.BinOp.or @Go.IntKind.u32 (Go.IntKind.wrap .u32 (v8 * (@HPow.hPow Int Nat Int (@instHPow Int Nat (@instPowNat Int @Int.instNatPow)) (2 : Int) (@Min.min Nat @instMinNat (Int.toNat (@Go.bits @Go.BinOp.and @Go.IntKind.u64 (Go.IntKind.wrap .u64 (Go.IntKind.wrap .i64 ((0 : Int) - (19 : Int)))) (31 : Int))) (@Go.IntKind.bits @Go.IntKind.u32))))) (@Int.fdiv v8 (@HPow.hPow Int Nat Int (@instHPow Int Nat (@instPowNat Int @Int.instNatPow)) (2 : Int) (@Min.min Nat @instMinNat (Int.toNat (Go.IntKind.wrap .u64 ((32 : Int) - (@Go.bits @Go.BinOp.and @Go.IntKind.u64 (Go.IntKind.wrap .u64 (Go.IntKind.wrap .i64 ((0 : Int) - (19 : Int)))) (31 : Int))))) (@Go.IntKind.bits @Go.IntKind.u32)))))) (@Int.fdiv v8 (@HPow.hPow Int Nat Int (@instHPow Int Nat (@instPowNat Int @Int.instNatPow)) (2 : Int) (@Min.min Nat @instMinNat (Int.toNat (10 : Int)) (@Go.IntKind.bits @Go.IntKind.u32)))))))), @Unit.unit))))
      else
       none
     else
      none
    else
     none
   else
    none
  else
   none
 else
  some ((@Unit.unit, (h0, (h1, @Unit.unit))))
noncomputable def sha256_words_L9_R (N : Nat) (c : (((Int) × Unit) × ((Arr (Int) 64) × ((Arr (Int) 64) × Unit)))) : Option ((Unit × ((Arr (Int) 64) × ((Arr (Int) 64) × Unit)))) := gl (fun X c => sha256_words_L9 N X c.1.1 c.2.1 c.2.2.1) N c
theorem sha256_words_L9_S (N : Nat) (X : (((Int) × Unit) × ((Arr (Int) 64) × ((Arr (Int) 64) × Unit))) → Option ((Unit × ((Arr (Int) 64) × ((Arr (Int) 64) × Unit))))) (i7 : Int) (h0 : Arr (Int) 64) (h1 : Arr (Int) 64) : (roundK Go.Proofs.Try.prog (Ev36 N) 400 [104] sha256_words_L9_I (loopAt Go.Proofs.Try.prog [104] 9) X ((i7, ()), (h0, h1, ()))).run = sha256_words_L9 N X i7 h0 h1 := by kernel_rfl
noncomputable def Ev37 (N : Nat) : (R : Type) → Env R := Env.addLp (Ev36 N) [104] 0 9 (fun R => lpK Go.Proofs.Try.prog sha256_words_L9_I (fun X c => sha256_words_L9 N X c.1.1 c.2.1 c.2.2.1) N)
theorem Ev37_ok (N : Nat) (R : Type) : EnvOK Go.Proofs.Try.prog (Ev37 N R) := EnvOK.addLp (Ev36_ok N R) (by kernel_rfl) (lpK_ok (li := sha256_words_L9_I) (G := fun X c => sha256_words_L9 N X c.1.1 c.2.1 c.2.2.1) hmx (Ev36_ok N _) (by kernel_rfl) loopAt_sub (fun (X : CT sha256_words_L9_I.sh → Option (OT sha256_words_L9_I.outs)) (c : CT sha256_words_L9_I.sh) => sha256_words_L9_S N X c.1.1 c.2.1 c.2.2.1) N)
noncomputable def sha256_words (N : Nat) (b0 : Arr (Int) 64) : Option (Arr (Int) 64) :=
 Option.bind (sha256_words_L3_R N ((b0, ((0 : Int), @Unit.unit)), ((@Arr.cons Int (63 : Nat) (0 : Int) (@Arr.cons Int (62 : Nat) (0 : Int) (@Arr.cons Int (61 : Nat) (0 : Int) (@Arr.cons Int (60 : Nat) (0 : Int) (@Arr.cons Int (59 : Nat) (0 : Int) (@Arr.cons Int (58 : Nat) (0 : Int) (@Arr.cons Int (57 : Nat) (0 : Int) (@Arr.cons Int (56 : Nat) (0 : Int) (@Arr.cons Int (55 : Nat) (0 : Int) (@Arr.cons Int (54 : Nat) (0 : Int) (@Arr.cons Int (53 : Nat) (0 : Int) (@Arr.cons Int (52 : Nat) (0 : Int) (@Arr.cons Int (51 : Nat) (0 : Int) (@Arr.cons Int (50 : Nat) (0 : Int) (@Arr.cons Int (49 : Nat) (0 : Int) (@Arr.cons Int (48 : Nat) (0 : Int) (@Arr.cons Int (47 : Nat) (0 : Int) (@Arr.cons Int (46 : Nat) (0 : Int) (@Arr.cons Int (45 : Nat) (0 : Int) (@Arr.cons Int (44 : Nat) (0 : Int) (@Arr.cons Int (43 : Nat) (0 : Int) (@Arr.cons Int (42 : Nat) (0 : Int) (@Arr.cons Int (41 : Nat) (0 : Int) (@Arr.cons Int (40 : Nat) (0 : Int) (@Arr.cons Int (39 : Nat) (0 : Int) (@Arr.cons Int (38 : Nat) (0 : Int) (@Arr.cons Int (37 : Nat) (0 : Int) (@Arr.cons Int (36 : Nat) (0 : Int) (@Arr.cons Int (35 : Nat) (0 : Int) (@Arr.cons Int (34 : Nat) (0 : Int) (@Arr.cons Int (33 : Nat) (0 : Int) (@Arr.cons Int (32 : Nat) (0 : Int) (@Arr.cons Int (31 : Nat) (0 : Int) (@Arr.cons Int (30 : Nat) (0 : Int) (@Arr.cons Int (29 : Nat) (0 : Int) (@Arr.cons Int (28 : Nat) (0 : Int) (@Arr.cons Int (27 : Nat) (0 : Int) (@Arr.cons Int (26 : Nat) (0 : Int) (@Arr.cons Int (25 : Nat) (0 : Int) (@Arr.cons Int (24 : Nat) (0 : Int) (@Arr.cons Int (23 : Nat) (0 : Int) (@Arr.cons Int (22 : Nat) (0 : Int) (@Arr.cons Int (21 : Nat) (0 : Int) (@Arr.cons Int (20 : Nat) (0 : Int) (@Arr.cons Int (19 : Nat) (0 : Int) (@Arr.cons Int (18 : Nat) (0 : Int) (@Arr.cons Int (17 : Nat) (0 : Int) (@Arr.cons Int (16 : Nat) (0 : Int) (@Arr.cons Int (15 : Nat) (0 : Int) (@Arr.cons Int (14 : Nat) (0 : Int) (@Arr.cons Int (13 : Nat) (0 : Int) (@Arr.cons Int (12 : Nat) (0 : Int) (@Arr.cons Int (11 : Nat) (0 : Int) (@Arr.cons Int (10 : Nat) (0 : Int) (@Arr.cons Int (9 : Nat) (0 : Int) (@Arr.cons Int (8 : Nat) (0 : Int) (@Arr.cons Int (7 : Nat) (0 : Int) (@Arr.cons Int (6 : Nat) (0 : Int) (@Arr.cons Int (5 : Nat) (0 : Int) (@Arr.cons Int (4 : Nat) (0 : Int) (@Arr.cons Int (3 : Nat) (0 : Int) (@Arr.cons Int (2 : Nat) (0 : Int) (@Arr.cons Int (1 : Nat) (0 : Int) (@Arr.cons Int (0 : Nat) (0 : Int) (@Arr.nil Int))))))))))))))))))))))))))))))))))))))))))))))))))))))))))))))))), ((@Arr.cons Int (63 : Nat) (0 : Int) (@Arr.cons Int (62 : Nat) (0 : Int) (@Arr.cons Int (61 : Nat) (0 : Int) (@Arr.cons Int (60 : Nat) (0 : Int) (@Arr.cons Int (59 : Nat) (0 : Int) (@Arr.cons Int (58 : Nat) (0 : Int) (@Arr.cons Int (57 : Nat) (0 : Int) (@Arr.cons Int (56 : Nat) (0 : Int) (@Arr.cons Int (55 : Nat) (0 : Int) (@Arr.cons Int (54 : Nat) (0 : Int) (@Arr.cons Int (53 : Nat) (0 : Int) (@Arr.cons Int (52 : Nat) (0 : Int) (@Arr.cons Int (51 : Nat) (0 : Int) (@Arr.cons Int (50 : Nat) (0 : Int) (@Arr.cons Int (49 : Nat) (0 : Int) (@Arr.cons Int (48 : Nat) (0 : Int) (@Arr.cons Int (47 : Nat) (0 : Int) (@Arr.cons Int (46 : Nat) (0 : Int) (@Arr.cons Int (45 : Nat) (0 : Int) (@Arr.cons Int (44 : Nat) (0 : Int) (@Arr.cons Int (43 : Nat) (0 : Int) (@Arr.cons Int (42 : Nat) (0 : Int) (@Arr.cons Int (41 : Nat) (0 : Int) (@Arr.cons Int (40 : Nat) (0 : Int) (@Arr.cons Int (39 : Nat) (0 : Int) (@Arr.cons Int (38 : Nat) (0 : Int) (@Arr.cons Int (37 : Nat) (0 : Int) (@Arr.cons Int (36 : Nat) (0 : Int) (@Arr.cons Int (35 : Nat) (0 : Int) (@Arr.cons Int (34 : Nat) (0 : Int) (@Arr.cons Int (33 : Nat) (0 : Int) (@Arr.cons Int (32 : Nat) (0 : Int) (@Arr.cons Int (31 : Nat) (0 : Int) (@Arr.cons Int (30 : Nat) (0 : Int) (@Arr.cons Int (29 : Nat) (0 : Int) (@Arr.cons Int (28 : Nat) (0 : Int) (@Arr.cons Int (27 : Nat) (0 : Int) (@Arr.cons Int (26 : Nat) (0 : Int) (@Arr.cons Int (25 : Nat) (0 : Int) (@Arr.cons Int (24 : Nat) (0 : Int) (@Arr.cons Int (23 : Nat) (0 : Int) (@Arr.cons Int (22 : Nat) (0 : Int) (@Arr.cons Int (21 : Nat) (0 : Int) (@Arr.cons Int (20 : Nat) (0 : Int) (@Arr.cons Int (19 : Nat) (0 : Int) (@Arr.cons Int (18 : Nat) (0 : Int) (@Arr.cons Int (17 : Nat) (0 : Int) (@Arr.cons Int (16 : Nat) (0 : Int) (@Arr.cons Int (15 : Nat) (0 : Int) (@Arr.cons Int (14 : Nat) (0 : Int) (@Arr.cons Int (13 : Nat) (0 : Int) (@Arr.cons Int (12 : Nat) (0 : Int) (@Arr.cons Int (11 : Nat) (0 : Int) (@Arr.cons Int (10 : Nat) (0 : Int) (@Arr.cons Int (9 : Nat) (0 : Int) (@Arr.cons Int (8 : Nat) (0 : Int) (@Arr.cons Int (7 : Nat) (0 : Int) (@Arr.cons Int (6 : Nat) (0 : Int) (@Arr.cons Int (5 : Nat) (0 : Int) (@Arr.cons Int (4 : Nat) (0 : Int) (@Arr.cons Int (3 : Nat) (0 : Int) (@Arr.cons Int (2 : Nat) (0 : Int) (@Arr.cons Int (1 : Nat) (0 : Int) (@Arr.cons Int (0 : Nat) (0 : Int) (@Arr.nil Int))))))))))))))))))))))))))))))))))))))))))))))))))))))))))))))))), @Unit.unit)))) fun (v2 : (Unit × ((Arr Int 64) × ((Arr Int 64) × Unit)))) =>
 Option.bind (sha256_words_L9_R N (((16 : Int), @Unit.unit), (v2.2.1, (v2.2.2.1, @Unit.unit)))) fun (v3 : (Unit × ((Arr Int 64) × ((Arr Int 64) × Unit)))) =>
 some (v3.2.2.1)
theorem sha256_words_S (N : Nat) (b0 : Arr (Int) 64) : (runK Go.Proofs.Try.prog (Ev37 N) 400 104 [(.arr 64 (.int .u8))] [(.arr 64 (.int .u32))] (b0, ())).run = sha256_words N b0 := by kernel_rfl
noncomputable def Ev38 (N : Nat) : (R : Type) → Env R := Env.addFn (Ev37 N) 104 (fun R => fnK [(.arr 64 (.int .u8))] [(.arr 64 (.int .u32))] (fun c => sha256_words N c.1))
theorem Ev38_ok (N : Nat) (R : Type) : EnvOK Go.Proofs.Try.prog (Ev38 N R) := EnvOK.addFn hmx (Ev37_ok N R) (Ev37_ok N _) (by kernel_rfl) (fun c => sha256_words_S N c.1)
noncomputable def Ev39 (N : Nat) : (R : Type) → Env R := Env.addBx (Ev38 N) [(105, 0)]
theorem Ev39_ok (N : Nat) (R : Type) : EnvOK Go.Proofs.Try.prog (Ev39 N R) := EnvOK.addBx (Ev38_ok N R) [(105, 0)]
noncomputable def Ev40 (N : Nat) : (R : Type) → Env R := Env.addBx (Ev39 N) [(118, 0)]
theorem Ev40_ok (N : Nat) (R : Type) : EnvOK Go.Proofs.Try.prog (Ev40 N R) := EnvOK.addBx (Ev39_ok N R) [(118, 0)]
noncomputable def sha256_great (N : Nat) (x0 : Int) (x1 : Arr (Int) 3) : Option (Int) :=
 Option.bind (getI x1.l (0 : Int)) fun (v3 : Int) =>
 Option.bind (@sha256_right N x0 v3) fun (v4 : Int) =>
 Option.bind (getI x1.l (1 : Int)) fun (v5 : Int) =>
 Option.bind (@sha256_right N x0 v5) fun (v6 : Int) =>
 Option.bind (getI x1.l (2 : Int)) fun (v7 : Int) =>
 Option.bind (@sha256_right N x0 v7) fun (v8 : Int) =>
 some ((@Go.bits @Go.BinOp.xor @Go.IntKind.u32 (@Go.bits @Go.BinOp.xor @Go.IntKind.u32 v4 v6) v8))
theorem sha256_great_S (N : Nat) (x0 : Int) (x1 : Arr (Int) 3) : (runK Go.Proofs.Try.prog (Ev40 N) 400 118 [(.int .u32), (.arr 3 (.int .i64))] [(.int .u32)] (x0, x1, ())).run = sha256_great N x0 x1 := by kernel_rfl
noncomputable def Ev41 (N : Nat) : (R : Type) → Env R := Env.addFn (Ev40 N) 118 (fun R => fnK [(.int .u32), (.arr 3 (.int .i64))] [(.int .u32)] (fun c => sha256_great N c.1 c.2.1))
theorem Ev41_ok (N : Nat) (R : Type) : EnvOK Go.Proofs.Try.prog (Ev41 N R) := EnvOK.addFn hmx (Ev40_ok N R) (Ev40_ok N _) (by kernel_rfl) (fun c => sha256_great_S N c.1 c.2.1)
noncomputable def sha256_step (N : Nat) (s0 : Arr (Int) 8) (more1 : Int) : Option (Arr (Int) 8) :=
 Option.bind (getI s0.l (0 : Int)) fun (v3 : Int) =>
 Option.bind (getI s0.l (1 : Int)) fun (v4 : Int) =>
 Option.bind (getI s0.l (2 : Int)) fun (v5 : Int) =>
 Option.bind (getI s0.l (3 : Int)) fun (v6 : Int) =>
 Option.bind (getI s0.l (4 : Int)) fun (v7 : Int) =>
 Option.bind (getI s0.l (5 : Int)) fun (v8 : Int) =>
 Option.bind (getI s0.l (6 : Int)) fun (v9 : Int) =>
 Option.bind (getI s0.l (7 : Int)) fun (v10 : Int) =>
 some ((@Arr.cons Int (7 : Nat) (Go.IntKind.wrap .u32 ((Go.IntKind.wrap .u32 ((Go.IntKind.wrap .u32 ((Go.IntKind.wrap .u32 (v10 + (@Go.bits @Go.BinOp.xor @Go.IntKind.u32 (@Go.bits @Go.BinOp.xor @Go.IntKind.u32 (@Go.bits @Go.BinOp.or @Go.IntKind.u32 (Go.IntKind.wrap .u32 (v7 * (@HPow.hPow Int Nat Int (@instHPow Int Nat (@instPowNat Int @Int.instNatPow)) (2 : Int) (@Min.min Nat @instMinNat (Int.toNat (@Go.bits @Go.BinOp.and @Go.IntKind.u64 (Go.IntKind.wrap .u64 (Go.IntKind.wrap .i64 ((0 : Int) - (6 : Int)))) (31 : Int))) (@Go.IntKind.bits @Go.IntKind.u32))))) (@Int.fdiv v7 (@HPow.hPow Int Nat Int (@instHPow Int Nat (@instPowNat Int @Int.instNatPow)) (2 : Int) (@Min.min Nat @instMinNat (Int.toNat (Go.IntKind.wrap .u64 ((32 : Int) - (@Go.bits @Go.BinOp.and @Go.IntKind.u64 (Go.IntKind.wrap .u64 (Go.IntKind.wrap .i64 ((0 : Int) - (6 : Int)))) (31 : Int))))) (@Go.IntKind.bits @Go.IntKind.u32))))) (@Go.bits @Go.BinOp.or @Go.IntKind.u32 (Go.IntKind.wrap .u32 (v7 * (@HPow.hPow Int Nat Int (@instHPow Int Nat (@instPowNat Int @Int.instNatPow)) (2 : Int) (@Min.min Nat @instMinNat (Int.toNat (@Go.bits @Go.BinOp.and @Go.IntKind.u64 (Go.IntKind.wrap .u64 (Go.IntKind.wrap .i64 ((0 : Int) - (11 : Int)))) (31 : Int))) (@Go.IntKind.bits @Go.IntKind.u32))))) (@Int.fdiv v7 (@HPow.hPow Int Nat Int (@instHPow Int Nat (@instPowNat Int @Int.instNatPow)) (2 : Int) (@Min.min Nat @instMinNat (Int.toNat (Go.IntKind.wrap .u64 ((32 : Int) - (@Go.bits @Go.BinOp.and @Go.IntKind.u64 (Go.IntKind.wrap .u64 (Go.IntKind.wrap .i64 ((0 : Int) - (11 : Int)))) (31 : Int))))) (@Go.IntKind.bits @Go.IntKind.u32)))))) (@Go.bits @Go.BinOp.or @Go.IntKind.u32 (Go.IntKind.wrap .u32 (v7 * (@HPow.hPow Int Nat Int (@instHPow Int Nat (@instPowNat Int @Int.instNatPow)) (2 : Int) (@Min.min Nat @instMinNat (Int.toNat (@Go.bits @Go.BinOp.and @Go.IntKind.u64 (Go.IntKind.wrap .u64 (Go.IntKind.wrap .i64 ((0 : Int) - (25 : Int)))) (31 : Int))) (@Go.IntKind.bits @Go.IntKind.u32))))) (@Int.fdiv v7 (@HPow.hPow Int Nat Int (@instHPow Int Nat (@instPowNat Int @Int.instNatPow)) (2 : Int) (@Min.min Nat @instMinNat (Int.toNat (Go.IntKind.wrap .u64 ((32 : Int) - (@Go.bits @Go.BinOp.and @Go.IntKind.u64 (Go.IntKind.wrap .u64 (Go.IntKind.wrap .i64 ((0 : Int) - (25 : Int)))) (31 : Int))))) (@Go.IntKind.bits @Go.IntKind.u32)))))))) + (@Go.bits @Go.BinOp.or @Go.IntKind.u32 (@Go.bits @Go.BinOp.and @Go.IntKind.u32 v7 v8) (@Go.bits @Go.BinOp.and @Go.IntKind.u32 (@Go.bits @Go.BinOp.xor @Go.IntKind.u32 (@ite Int (@Eq Bool (@Go.IntKind.signed @Go.IntKind.u32) @Bool.true) (@instDecidableEqBool (@Go.IntKind.signed @Go.IntKind.u32) @Bool.true) (-1 : Int) (@Go.IntKind.max @Go.IntKind.u32)) v7) v9)))) + more1)) + (Go.IntKind.wrap .u32 ((@Go.bits @Go.BinOp.xor @Go.IntKind.u32 (@Go.bits @Go.BinOp.xor @Go.IntKind.u32 (@Go.bits @Go.BinOp.or @Go.IntKind.u32 (Go.IntKind.wrap .u32 (v3 * (@HPow.hPow Int Nat Int (@instHPow Int Nat (@instPowNat Int @Int.instNatPow)) (2 : Int) (@Min.min Nat @instMinNat (Int.toNat (@Go.bits @Go.BinOp.and @Go.IntKind.u64 (Go.IntKind.wrap .u64 (Go.IntKind.wrap .i64 ((0 : Int) - (2 : Int)))) (31 : Int))) (@Go.IntKind.bits @Go.IntKind.u32))))) (@Int.fdiv v3 (@HPow.hPow Int Nat Int (@instHPow Int Nat (@instPowNat Int @Int.instNatPow)) (2 : Int) (@Min.min Nat @instMinNat (Int.toNat (Go.IntKind.wrap .u64 ((32 : Int) - (@Go.bits @Go.BinOp.and @Go.IntKind.u64 (Go.IntKind.wrap .u64 (Go.IntKind.wrap .i64 ((0 : Int) - (2 : Int)))) (31 : Int))))) (@Go.IntKind.bits @Go.IntKind.u32))))) (@Go.bits @Go.BinOp.or @Go.IntKind.u32 (Go.IntKind.wrap .u32 (v3 * (@HPow.hPow Int Nat Int (@instHPow Int Nat (@instPowNat Int @Int.instNatPow)) (2 : Int) (@Min.min Nat @instMinNat (Int.toNat (@Go.bits @Go.BinOp.and @Go.IntKind.u64 (Go.IntKind.wrap .u64 (Go.IntKind.wrap .i64 ((0 : Int) - (13 : Int)))) (31 : Int))) (@Go.IntKind.bits @Go.IntKind.u32))))) (@Int.fdiv v3 (@HPow.hPow Int Nat Int (@instHPow Int Nat (@instPowNat Int @Int.instNatPow)) (2 : Int) (@Min.min Nat @instMinNat (Int.toNat (Go.IntKind.wrap .u64 ((32 : Int) - (@Go.bits @Go.BinOp.and @Go.IntKind.u64 (Go.IntKind.wrap .u64 (Go.IntKind.wrap .i64 ((0 : Int) - (13 : Int)))) (31 : Int))))) (@Go.IntKind.bits @Go.IntKind.u32)))))) (@Go.bits @Go.BinOp.or @Go.IntKind.u32 (Go.IntKind.wrap .u32 (v3 * (@HPow.hPow Int Nat Int (@instHPow Int Nat (@instPowNat Int @Int.instNatPow)) (2 : Int) (@Min.min Nat @instMinNat (Int.toNat (@Go.bits @Go.BinOp.and @Go.IntKind.u64 (Go.IntKind.wrap .u64 (Go.IntKind.wrap .i64 ((0 : Int) - (22 : Int)))) (31 : Int))) (@Go.IntKind.bits @Go.IntKind.u32))))) (@Int.fdiv v3 (@HPow.hPow Int Nat Int (@instHPow Int Nat (@instPowNat Int @Int.instNatPow)) (2 : Int) (@Min.min Nat @instMinNat (Int.toNat (Go.IntKind.wrap .u64 ((32 : Int) - (@Go.bits @Go.BinOp.and @Go.IntKind.u64 (Go.IntKind.wrap .u64 (Go.IntKind.wrap .i64 ((0 : Int) - (22 : Int)))) (31 : Int))))) (@Go.IntKind.bits @Go.IntKind.u32)))))) + (@Go.bits @Go.BinOp.or @Go.IntKind.u32 (@Go.bits @Go.BinOp.or @Go.IntKind.u32 (@Go.bits @Go.BinOp.and @Go.IntKind.u32 v3 v4) (@Go.bits @Go.BinOp.and @Go.IntKind.u32 v3 v5)) (@Go.bits @Go.BinOp.and @Go.IntKind.u32 v4 v5)))))) (@Arr.cons Int (6 : Nat) v3 (@Arr.cons Int (5 : Nat) v4 (@Arr.cons Int (4 : Nat) v5 (@Arr.cons Int (3 : Nat) (Go.IntKind.wrap .u32 (v6 + (Go.IntKind.wrap .u32 ((Go.IntKind.wrap .u32 ((Go.IntKind.wrap .u32 (v10 + (@Go.bits @Go.BinOp.xor @Go.IntKind.u32 (@Go.bits @Go.BinOp.xor @Go.IntKind.u32 (@Go.bits @Go.BinOp.or @Go.IntKind.u32 (Go.IntKind.wrap .u32 (v7 * (@HPow.hPow Int Nat Int (@instHPow Int Nat (@instPowNat Int @Int.instNatPow)) (2 : Int) (@Min.min Nat @instMinNat (Int.toNat (@Go.bits @Go.BinOp.and @Go.IntKind.u64 (Go.IntKind.wrap .u64 (Go.IntKind.wrap .i64 ((0 : Int) - (6 : Int)))) (31 : Int))) (@Go.IntKind.bits @Go.IntKind.u32))))) (@Int.fdiv v7 (@HPow.hPow Int Nat Int (@instHPow Int Nat (@instPowNat Int @Int.instNatPow)) (2 : Int) (@Min.min Nat @instMinNat (Int.toNat (Go.IntKind.wrap .u64 ((32 : Int) - (@Go.bits @Go.BinOp.and @Go.IntKind.u64 (Go.IntKind.wrap .u64 (Go.IntKind.wrap .i64 ((0 : Int) - (6 : Int)))) (31 : Int))))) (@Go.IntKind.bits @Go.IntKind.u32))))) (@Go.bits @Go.BinOp.or @Go.IntKind.u32 (Go.IntKind.wrap .u32 (v7 * (@HPow.hPow Int Nat Int (@instHPow Int Nat (@instPowNat Int @Int.instNatPow)) (2 : Int) (@Min.min Nat @instMinNat (Int.toNat (@Go.bits @Go.BinOp.and @Go.IntKind.u64 (Go.IntKind.wrap .u64 (Go.IntKind.wrap .i64 ((0 : Int) - (11 : Int)))) (31 : Int))) (@Go.IntKind.bits @Go.IntKind.u32))))) (@Int.fdiv v7 (@HPow.hPow Int Nat Int (@instHPow Int Nat (@instPowNat Int @Int.instNatPow)) (2 : Int) (@Min.min Nat @instMinNat (Int.toNat (Go.IntKind.wrap .u64 ((32 : Int) - (@Go.bits @Go.BinOp.and @Go.IntKind.u64 (Go.IntKind.wrap .u64 (Go.IntKind.wrap .i64 ((0 : Int) - (11 : Int)))) (31 : Int))))) (@Go.IntKind.bits @Go.IntKind.u32)))))) (@Go.bits @Go.BinOp.or @Go.IntKind.u32 (Go.IntKind.wrap .u32 (v7 * (@HPow.hPow Int Nat Int (@instHPow Int Nat (@instPowNat Int @Int.instNatPow)) (2 : Int) (@Min.min Nat @instMinNat (Int.toNat (@Go.bits @Go.BinOp.and @Go.IntKind.u64 (Go.IntKind.wrap .u64 (Go.IntKind.wrap .i64 ((0 : Int) - (25 : Int)))) (31 : Int))) (@Go.IntKind.bits @Go.IntKind.u32))))) (@Int.fdiv v7 (@HPow.hPow Int Nat Int (@instHPow Int Nat (@instPowNat Int @Int.instNatPow)) (2 : Int) (@Min.min Nat @instMinNat (Int.toNat (Go.IntKind.wrap .u64 ((32 : Int) - (@Go.bits @Go.BinOp.and @Go.IntKind.u64 (Go.IntKind.wrap .u64 (Go.IntKind.wrap .i64 ((0 : Int) - (25 : Int)))) (31 : Int))))) (@Go.IntKind.bits @Go.IntKind.u32)))))))) + (@Go.bits @Go.BinOp.or @Go.IntKind.u32 (@Go.bits @Go.BinOp.and @Go.IntKind.u32 v7 v8) (@Go.bits @Go.BinOp.and @Go.IntKind.u32 (@Go.bits @Go.BinOp.xor @Go.IntKind.u32 (@ite Int (@Eq Bool (@Go.IntKind.signed @Go.IntKind.u32) @Bool.true) (@instDecidableEqBool (@Go.IntKind.signed @Go.IntKind.u32) @Bool.true) (-1 : Int) (@Go.IntKind.max @Go.IntKind.u32)) v7) v9)))) + more1)))) (@Arr.cons Int (2 : Nat) v7 (@Arr.cons Int (1 : Nat) v8 (@Arr.cons Int (0 : Nat) v9 (@Arr.nil Int))))))))))
theorem sha256_step_S (N : Nat) (s0 : Arr (Int) 8) (more1 : Int) : (runK Go.Proofs.Try.prog (Ev41 N) 400 105 [(.arr 8 (.int .u32)), (.int .u32)] [(.arr 8 (.int .u32))] (s0, more1, ())).run = sha256_step N s0 more1 := by kernel_rfl
noncomputable def Ev42 (N : Nat) : (R : Type) → Env R := Env.addFn (Ev41 N) 105 (fun R => fnK [(.arr 8 (.int .u32)), (.int .u32)] [(.arr 8 (.int .u32))] (fun c => sha256_step N c.1 c.2.1))
theorem Ev42_ok (N : Nat) (R : Type) : EnvOK Go.Proofs.Try.prog (Ev42 N R) := EnvOK.addFn hmx (Ev41_ok N R) (Ev41_ok N _) (by kernel_rfl) (fun c => sha256_step_S N c.1 c.2.1)
noncomputable def sha256_behind_L4_I : LI := ⟨40, 0, [], ⟨[(3, .adr (.arr 8 (.int .u32))), (5, .adr (.arr 64 (.int .u32))), (6, .lit (.box 0 0)), (7, .lit (.box 1 0)), (8, .lit (.box 2 0)), (14, .ty (.int .i64))], [.box 126 (.arr 8 (.int .u32)), .box 128 (.arr 64 (.int .u32)), .box 126 (.arr 8 (.int .u32))]⟩, [(.exit 0, ⟨[(3, .adr (.arr 8 (.int .u32))), (6, .lit (.box 0 0)), (8, .lit (.box 1 0))], [.box 126 (.arr 8 (.int .u32)), .box 126 (.arr 8 (.int .u32))]⟩)]⟩
noncomputable def sha256_behind_L4 (N : Nat) (X : (((Arr (Int) 8) × ((Arr (Int) 64) × ((Int) × Unit))) × ((Arr (Int) 8) × ((Arr (Int) 64) × ((Arr (Int) 8) × Unit)))) → Option ((((Arr (Int) 8) × Unit) × ((Arr (Int) 8) × ((Arr (Int) 8) × Unit))))) (s3 : Arr (Int) 8) (k5 : Arr (Int) 64) (x14 : Int) (h0 : Arr (Int) 8) (h1 : Arr (Int) 64) (h2 : Arr (Int) 8) : Option ((((Arr (Int) 8) × Unit) × ((Arr (Int) 8) × ((Arr (Int) 8) × Unit)))) :=
 bif (decide (x14 < (64 : Int))) then
  Option.bind (getI k5.l x14) fun (v8 : Int) =>
  bif (decide ((0 : Int) ≤ x14 ∧ x14 < (((64 : Nat) : Nat) : Int))) then
   Option.bind (@GetElem?.getElem? (List Int) Nat Int (fun (as9 : (List Int)) => (fun (i10 : Nat) => (@LT.lt Nat @instLTNat i10 (List.length as9)))) (@List.instGetElem?NatLtLength Int) h1.l (Int.toNat x14)) fun (v9 : Int) =>
   Option.bind (@sha256_step N h2 (Go.IntKind.wrap .u32 (v8 + v9))) fun (v10 : (Arr Int 8)) =>
   (X ((s3, (k5, ((Go.IntKind.wrap .i64 (x14 + (1 : Int))), @Unit.unit))), (h0, (h1, (v10, @Unit.unit)))))
  else
   none
 else
  some (((s3, @Unit.unit), (h0, (h2, @Unit.unit))))
noncomputable def sha256_behind_L4_R (N : Nat) (c : (((Arr (Int) 8) × ((Arr (Int) 64) × ((Int) × Unit))) × ((Arr (Int) 8) × ((Arr (Int) 64) × ((Arr (Int) 8) × Unit))))) : Option ((((Arr (Int) 8) × Unit) × ((Arr (Int) 8) × ((Arr (Int) 8) × Unit)))) := gl (fun X c => sha256_behind_L4 N X c.1.1 c.1.2.1 c.1.2.2.1 c.2.1 c.2.2.1 c.2.2.2.1) N c
theorem sha256_behind_L4_S (N : Nat) (X : (((Arr (Int) 8) × ((Arr (Int) 64) × ((Int) × Unit))) × ((Arr (Int) 8) × ((Arr (Int) 64) × ((Arr (Int) 8) × Unit)))) → Option ((((Arr (Int) 8) × Unit) × ((Arr (Int) 8) × ((Arr (Int) 8) × Unit))))) (s3 : Arr (Int) 8) (k5 : Arr (Int) 64) (x14 : Int) (h0 : Arr (Int) 8) (h1 : Arr (Int) 64) (h2 : Arr (Int) 8) : (roundK Go.Proofs.Try.prog (Ev42 N) 400 [76] sha256_behind_L4_I (loopAt Go.Proofs.Try.prog [76] 4) X ((s3, k5, x14, ()), (h0, h1, h2, ()))).run = sha256_behind_L4 N X s3 k5 x14 h0 h1 h2 := by kernel_rfl
noncomputable def Ev43 (N : Nat) : (R : Type) → Env R := Env.addLp (Ev42 N) [76] 0 4 (fun R => lpK Go.Proofs.Try.prog sha256_behind_L4_I (fun X c => sha256_behind_L4 N X c.1.1 c.1.2.1 c.1.2.2.1 c.2.1 c.2.2.1 c.2.2.2.1) N)
theorem Ev43_ok (N : Nat) (R : Type) : EnvOK Go.Proofs.Try.prog (Ev43 N R) := EnvOK.addLp (Ev42_ok N R) (by kernel_rfl) (lpK_ok (li := sha256_behind_L4_I) (G := fun X c => sha256_behind_L4 N X c.1.1 c.1.2.1 c.1.2.2.1 c.2.1 c.2.2.1 c.2.2.2.1) hmx (Ev42_ok N _) (by kernel_rfl) loopAt_sub (fun (X : CT sha256_behind_L4_I.sh → Option (OT sha256_behind_L4_I.outs)) (c : CT sha256_behind_L4_I.sh) => sha256_behind_L4_S N X c.1.1 c.1.2.1 c.1.2.2.1 c.2.1 c.2.2.1 c.2.2.2.1) N)
noncomputable def sha256_behind_L9_I : LI := ⟨40, 0, [], ⟨[(3, .adr (.arr 8 (.int .u32))), (6, .lit (.box 0 0)), (8, .lit (.box 1 0)), (27, .ty (.int .i64))], [.box 126 (.arr 8 (.int .u32)), .box 126 (.arr 8 (.int .u32))]⟩, [(.exit 2, ⟨[(6, .lit (.box 0 0)), (8, .lit (.box 1 0))], [.box 126 (.arr 8 (.int .u32)), .box 126 (.arr 8 (.int .u32))]⟩)]⟩
noncomputable def sha256_behind_L9 (N : Nat) (X : (((Arr (Int) 8) × ((Int) × Unit)) × ((Arr (Int) 8) × ((Arr (Int) 8) × Unit))) → Option ((Unit × ((Arr (Int) 8) × ((Arr (Int) 8) × Unit))))) (s3 : Arr (Int) 8) (x27 : Int) (h0 : Arr (Int) 8) (h1 : Arr (Int) 8) : Option ((Unit × ((Arr (Int) 8) × ((Arr (Int) 8) × Unit)))) :=
 bif (decide (x27 < (8 : Int))) then
  bif (decide ((0 : Int) ≤ x27 ∧ x27 < (((8 : Nat) : Nat) : Int))) then
   Option.bind (@GetElem?.getElem? (List Int) Nat Int (fun (as6 : (List Int)) => (fun (i7 : Nat) => (@LT.lt Nat @instLTNat i7 (List.length as6)))) (@List.instGetElem?NatLtLength Int) h1.l (Int.toNat x27)) fun (v6 : Int) =>
   Option.bind (getI s3.l x27) fun (v7 : Int) =>
   bif (decide ((0 : Int) ≤ x27 ∧ x27 < (((8 : Nat) : Nat) : Int))) then
    Option.bind (@GetElem?.getElem? (List Int) Nat Int (fun (as8 : (List Int)) => (fun (i9 : Nat) => (@LT.lt Nat @instLTNat i9 (List.length as8)))) (@List.instGetElem?NatLtLength Int) h1.l (Int.toNat x27)) fun (v8 : Int) =>
    (X ((s3, ((Go.IntKind.wrap .i64 (x27 + (1 : Int))), @Unit.unit)), (h0, ((h1.set (Int.toNat x27) (Go.IntKind.wrap .u32 (v6 + v7))), @Unit.unit))))
   else
    none
  else
   none
 else
  some ((@Unit.unit, (h0, (h1, @Unit.unit))))
noncomputable def sha256_behind_L9_R (N : Nat) (c : (((Arr (Int) 8) × ((Int) × Unit)) × ((Arr (Int) 8) × ((Arr (Int) 8) × Unit)))) : Option ((Unit × ((Arr (Int) 8) × ((Arr (Int) 8) × Unit)))) := gl (fun X c => sha256_behind_L9 N X c.1.1 c.1.2.1 c.2.1 c.2.2.1) N c
theorem sha256_behind_L9_S (N : Nat) (X : (((Arr (Int) 8) × ((Int) × Unit)) × ((Arr (Int) 8) × ((Arr (Int) 8) × Unit))) → Option ((Unit × ((Arr (Int) 8) × ((Arr (Int) 8) × Unit))))) (s3 : Arr (Int) 8) (x27 : Int) (h0 : Arr (Int) 8) (h1 : Arr (Int) 8) : (roundK Go.Proofs.Try.prog (Ev43 N) 400 [76] sha256_behind_L9_I (loopAt Go.Proofs.Try.prog [76] 9) X ((s3, x27, ()), (h0, h1, ()))).run = sha256_behind_L9 N X s3 x27 h0 h1 := by kernel_rfl
noncomputable def Ev44 (N : Nat) : (R : Type) → Env R := Env.addLp (Ev43 N) [76] 0 9 (fun R => lpK Go.Proofs.Try.prog sha256_behind_L9_I (fun X c => sha256_behind_L9 N X c.1.1 c.1.2.1 c.2.1 c.2.2.1) N)
theorem Ev44_ok (N : Nat) (R : Type) : EnvOK Go.Proofs.Try.prog (Ev44 N R) := EnvOK.addLp (Ev43_ok N R) (by kernel_rfl) (lpK_ok (li := sha256_behind_L9_I) (G := fun X c => sha256_behind_L9 N X c.1.1 c.1.2.1 c.2.1 c.2.2.1) hmx (Ev43_ok N _) (by kernel_rfl) loopAt_sub (fun (X : CT sha256_behind_L9_I.sh → Option (OT sha256_behind_L9_I.outs)) (c : CT sha256_behind_L9_I.sh) => sha256_behind_L9_S N X c.1.1 c.1.2.1 c.2.1 c.2.2.1) N)
noncomputable def sha256_behind (N : Nat) (s0 : Arr (Int) 8) (b1 : Arr (Int) 64) (k2 : Arr (Int) 64) : Option (Arr (Int) 8) :=
 Option.bind (@sha256_words N b1) fun (v4 : (Arr Int 64)) =>
 Option.bind (sha256_behind_L4_R N ((s0, (k2, ((0 : Int), @Unit.unit))), ((@Arr.cons Int (7 : Nat) (0 : Int) (@Arr.cons Int (6 : Nat) (0 : Int) (@Arr.cons Int (5 : Nat) (0 : Int) (@Arr.cons Int (4 : Nat) (0 : Int) (@Arr.cons Int (3 : Nat) (0 : Int) (@Arr.cons Int (2 : Nat) (0 : Int) (@Arr.cons Int (1 : Nat) (0 : Int) (@Arr.cons Int (0 : Nat) (0 : Int) (@Arr.nil Int))))))))), (v4, (s0, @Unit.unit))))) fun (v5 : (((Arr Int 8) × Unit) × ((Arr Int 8) × ((Arr Int 8) × Unit)))) =>
 Option.bind (sha256_behind_L9_R N ((v5.1.1, ((0 : Int), @Unit.unit)), (v5.2.1, (v5.2.2.1, @Unit.unit)))) fun (v6 : (Unit × ((Arr Int 8) × ((Arr Int 8) × Unit)))) =>
 some (v6.2.2.1)
theorem sha256_behind_S (N : Nat) (s0 : Arr (Int) 8) (b1 : Arr (Int) 64) (k2 : Arr (Int) 64) : (runK Go.Proofs.Try.prog (Ev44 N) 400 76 [(.arr 8 (.int .u32)), (.arr 64 (.int .u8)), (.arr 64 (.int .u32))] [(.arr 8 (.int .u32))] (s0, b1, k2, ())).run = sha256_behind N s0 b1 k2 := by kernel_rfl
noncomputable def Ev45 (N : Nat) : (R : Type) → Env R := Env.addFn (Ev44 N) 76 (fun R => fnK [(.arr 8 (.int .u32)), (.arr 64 (.int .u8)), (.arr 64 (.int .u32))] [(.arr 8 (.int .u32))] (fun c => sha256_behind N c.1 c.2.1 c.2.2.1))
theorem Ev45_ok (N : Nat) (R : Type) : EnvOK Go.Proofs.Try.prog (Ev45 N R) := EnvOK.addFn hmx (Ev44_ok N R) (Ev44_ok N _) (by kernel_rfl) (fun c => sha256_behind_S N c.1 c.2.1 c.2.2.1)
noncomputable def sha256_Of_L5_I : LI := ⟨35, 0, [], ⟨[(2, .lit (.box 0 0)), (3, .ty (.sl (.int .u8))), (4, .lit (.box 1 0)), (5, .lit (.box 2 0)), (6, .ty (.int .i64))], [.box 25 (.arr 32 (.int .u8)), .box 126 (.arr 8 (.int .u32)), .box 128 (.arr 64 (.int .u32))]⟩, [(.exit 0, ⟨[(2, .lit (.box 0 0)), (4, .lit (.box 1 0))], [.box 25 (.arr 32 (.int .u8)), .box 126 (.arr 8 (.int .u32))]⟩)]⟩
noncomputable def sha256_Of_L5 (N : Nat) (X : (((List (Int)) × ((Int) × Unit)) × ((Arr (Int) 32) × ((Arr (Int) 8) × ((Arr (Int) 64) × Unit)))) → Option ((Unit × ((Arr (Int) 32) × ((Arr (Int) 8) × Unit))))) (all3 : List (Int)) (i6 : Int) (h0 : Arr (Int) 32) (h1 : Arr (Int) 8) (h2 : Arr (Int) 64) : Option ((Unit × ((Arr (Int) 32) × ((Arr (Int) 8) × Unit)))) :=
 bif (decide (i6 < (((List.length all3) : Nat) : Int))) then
  Option.bind (subI all3 i6 (Go.IntKind.wrap .i64 (i6 + (64 : Int)))) fun (v7 : (List Int)) =>
  Option.bind (@toArr Int (64 : Nat) v7) fun (v8 : (Arr Int 64)) =>
  Option.bind (@sha256_behind N h1 v8 h2) fun (v9 : (Arr Int 8)) =>
  (X ((all3, ((Go.IntKind.wrap .i64 (i6 + (64 : Int))), @Unit.unit)), (h0, (v9, (h2, @Unit.unit)))))
 else
  some ((@Unit.unit, (h0, (h1, @Unit.unit))))
noncomputable def sha256_Of_L5_R (N : Nat) (c : (((List (Int)) × ((Int) × Unit)) × ((Arr (Int) 32) × ((Arr (Int) 8) × ((Arr (Int) 64) × Unit))))) : Option ((Unit × ((Arr (Int) 32) × ((Arr (Int) 8) × Unit)))) := gl (fun X c => sha256_Of_L5 N X c.1.1 c.1.2.1 c.2.1 c.2.2.1 c.2.2.2.1) N c
theorem sha256_Of_L5_S (N : Nat) (X : (((List (Int)) × ((Int) × Unit)) × ((Arr (Int) 32) × ((Arr (Int) 8) × ((Arr (Int) 64) × Unit)))) → Option ((Unit × ((Arr (Int) 32) × ((Arr (Int) 8) × Unit))))) (all3 : List (Int)) (i6 : Int) (h0 : Arr (Int) 32) (h1 : Arr (Int) 8) (h2 : Arr (Int) 64) : (roundK Go.Proofs.Try.prog (Ev45 N) 400 [23] sha256_Of_L5_I (loopAt Go.Proofs.Try.prog [23] 5) X ((all3, i6, ()), (h0, h1, h2, ()))).run = sha256_Of_L5 N X all3 i6 h0 h1 h2 := by kernel_rfl
noncomputable def Ev46 (N : Nat) : (R : Type) → Env R := Env.addLp (Ev45 N) [23] 0 5 (fun R => lpK Go.Proofs.Try.prog sha256_Of_L5_I (fun X c => sha256_Of_L5 N X c.1.1 c.1.2.1 c.2.1 c.2.2.1 c.2.2.2.1) N)
theorem Ev46_ok (N : Nat) (R : Type) : EnvOK Go.Proofs.Try.prog (Ev46 N R) := EnvOK.addLp (Ev45_ok N R) (by kernel_rfl) (lpK_ok (li := sha256_Of_L5_I) (G := fun X c => sha256_Of_L5 N X c.1.1 c.1.2.1 c.2.1 c.2.2.1 c.2.2.2.1) hmx (Ev45_ok N _) (by kernel_rfl) loopAt_sub (fun (X : CT sha256_Of_L5_I.sh → Option (OT sha256_Of_L5_I.outs)) (c : CT sha256_Of_L5_I.sh) => sha256_Of_L5_S N X c.1.1 c.1.2.1 c.2.1 c.2.2.1 c.2.2.2.1) N)
noncomputable def Ev47 (N : Nat) : (R : Type) → Env R := Env.addBx (Ev46 N) [(77, 0)]
theorem Ev47_ok (N : Nat) (R : Type) : EnvOK Go.Proofs.Try.prog (Ev47 N R) := EnvOK.addBx (Ev46_ok N R) [(77, 0)]
noncomputable def sha256_digest_L3_I : LI := ⟨25, 0, [(3, 5)], ⟨[(2, .lit (.box 0 0)), (3, .lit (.own 1)), (8, .ty (.arr 8 (.int .u32))), (9, .ty (.int .i64))], [.box 25 (.arr 32 (.int .u8)), .own (.int .u8) 5]⟩, [(.exit 0, ⟨[(2, .lit (.box 0 0)), (3, .lit (.own 1))], [.box 25 (.arr 32 (.int .u8)), .own (.int .u8) 5]⟩)]⟩
noncomputable def sha256_digest_L3 (N : Nat) (X : (((Arr (Int) 8) × ((Int) × Unit)) × ((Arr (Int) 32) × ((List (Int)) × Unit))) → Option ((Unit × ((Arr (Int) 32) × ((List (Int)) × Unit))))) (x8 : Arr (Int) 8) (x9 : Int) (h0 : Arr (Int) 32) (h1 : List (Int)) : Option ((Unit × ((Arr (Int) 32) × ((List (Int)) × Unit)))) :=
 bif (decide (x9 < (8 : Int))) then
  Option.bind (getI x8.l x9) fun (v6 : Int) =>
  Option.bind (@octs_Put N (Go.IntKind.wrap .u64 v6) (4 : Int) @Bool.false) fun (v7 : ((List Int) × Int)) =>
  bif (roomB ((List.length h1) + (List.length v7.1)) 1) then
   (X ((x8, ((Go.IntKind.wrap .i64 (x9 + (1 : Int))), @Unit.unit)), (h0, ((h1 ++ v7.1), @Unit.unit))))
  else
   none
 else
  some ((@Unit.unit, (h0, (h1, @Unit.unit))))
noncomputable def sha256_digest_L3_R (N : Nat) (c : (((Arr (Int) 8) × ((Int) × Unit)) × ((Arr (Int) 32) × ((List (Int)) × Unit)))) : Option ((Unit × ((Arr (Int) 32) × ((List (Int)) × Unit)))) := gl (fun X c => sha256_digest_L3 N X c.1.1 c.1.2.1 c.2.1 c.2.2.1) N c
theorem sha256_digest_L3_S (N : Nat) (X : (((Arr (Int) 8) × ((Int) × Unit)) × ((Arr (Int) 32) × ((List (Int)) × Unit))) → Option ((Unit × ((Arr (Int) 32) × ((List (Int)) × Unit))))) (x8 : Arr (Int) 8) (x9 : Int) (h0 : Arr (Int) 32) (h1 : List (Int)) : (roundK Go.Proofs.Try.prog (Ev47 N) 400 [77] sha256_digest_L3_I (loopAt Go.Proofs.Try.prog [77] 3) X ((x8, x9, ()), (h0, h1, ()))).run = sha256_digest_L3 N X x8 x9 h0 h1 := by kernel_rfl
noncomputable def Ev48 (N : Nat) : (R : Type) → Env R := Env.addLp (Ev47 N) [77] 0 3 (fun R => lpK Go.Proofs.Try.prog sha256_digest_L3_I (fun X c => sha256_digest_L3 N X c.1.1 c.1.2.1 c.2.1 c.2.2.1) N)
theorem Ev48_ok (N : Nat) (R : Type) : EnvOK Go.Proofs.Try.prog (Ev48 N R) := EnvOK.addLp (Ev47_ok N R) (by kernel_rfl) (lpK_ok (li := sha256_digest_L3_I) (G := fun X c => sha256_digest_L3 N X c.1.1 c.1.2.1 c.2.1 c.2.2.1) hmx (Ev47_ok N _) (by kernel_rfl) loopAt_sub (fun (X : CT sha256_digest_L3_I.sh → Option (OT sha256_digest_L3_I.outs)) (c : CT sha256_digest_L3_I.sh) => sha256_digest_L3_S N X c.1.1 c.1.2.1 c.2.1 c.2.2.1) N)
noncomputable def sha256_digest (N : Nat) (s0 : Arr (Int) 8) : Option (Arr (Int) 32) :=
 Option.bind (sha256_digest_L3_R N ((s0, ((0 : Int), @Unit.unit)), ((@Arr.cons Int (31 : Nat) (0 : Int) (@Arr.cons Int (30 : Nat) (0 : Int) (@Arr.cons Int (29 : Nat) (0 : Int) (@Arr.cons Int (28 : Nat) (0 : Int) (@Arr.cons Int (27 : Nat) (0 : Int) (@Arr.cons Int (26 : Nat) (0 : Int) (@Arr.cons Int (25 : Nat) (0 : Int) (@Arr.cons Int (24 : Nat) (0 : Int) (@Arr.cons Int (23 : Nat) (0 : Int) (@Arr.cons Int (22 : Nat) (0 : Int) (@Arr.cons Int (21 : Nat) (0 : Int) (@Arr.cons Int (20 : Nat) (0 : Int) (@Arr.cons Int (19 : Nat) (0 : Int) (@Arr.cons Int (18 : Nat) (0 : Int) (@Arr.cons Int (17 : Nat) (0 : Int) (@Arr.cons Int (16 : Nat) (0 : Int) (@Arr.cons Int (15 : Nat) (0 : Int) (@Arr.cons Int (14 : Nat) (0 : Int) (@Arr.cons Int (13 : Nat) (0 : Int) (@Arr.cons Int (12 : Nat) (0 : Int) (@Arr.cons Int (11 : Nat) (0 : Int) (@Arr.cons Int (10 : Nat) (0 : Int) (@Arr.cons Int (9 : Nat) (0 : Int) (@Arr.cons Int (8 : Nat) (0 : Int) (@Arr.cons Int (7 : Nat) (0 : Int) (@Arr.cons Int (6 : Nat) (0 : Int) (@Arr.cons Int (5 : Nat) (0 : Int) (@Arr.cons Int (4 : Nat) (0 : Int) (@Arr.cons Int (3 : Nat) (0 : Int) (@Arr.cons Int (2 : Nat) (0 : Int) (@Arr.cons Int (1 : Nat) (0 : Int) (@Arr.cons Int (0 : Nat) (0 : Int) (@Arr.nil Int))))))))))))))))))))))))))))))))), (([] : List (Int)), @Unit.unit)))) fun (v2 : (Unit × ((Arr Int 32) × ((List Int) × Unit)))) =>
 Option.bind (@toArr Int (32 : Nat) v2.2.2.1) fun (v3 : (Arr Int 32)) =>
 some (v3)
theorem sha256_digest_S (N : Nat) (s0 : Arr (Int) 8) : (runK Go.Proofs.Try.prog (Ev48 N) 400 77 [(.arr 8 (.int .u32))] [(.arr 32 (.int .u8))] (s0, ())).run = sha256_digest N s0 := by kernel_rfl
noncomputable def Ev49 (N : Nat) : (R : Type) → Env R := Env.addFn (Ev48 N) 77 (fun R => fnK [(.arr 8 (.int .u32))] [(.arr 32 (.int .u8))] (fun c => sha256_digest N c.1))
theorem Ev49_ok (N : Nat) (R : Type) : EnvOK Go.Proofs.Try.prog (Ev49 N R) := EnvOK.addFn hmx (Ev48_ok N R) (Ev48_ok N _) (by kernel_rfl) (fun c => sha256_digest_S N c.1)
noncomputable def sha256_Of (N : Nat) (parts0 : List (List (Int))) : Option (Arr (Int) 32) :=
 Option.bind (sha256_Of_1_octs_Join_L3_R N ((parts0, ((0 : Int), (parts0, ((((List.length parts0) : Nat) : Int), ((0 : Int), @Unit.unit))))), ((@Arr.cons Int (31 : Nat) (0 : Int) (@Arr.cons Int (30 : Nat) (0 : Int) (@Arr.cons Int (29 : Nat) (0 : Int) (@Arr.cons Int (28 : Nat) (0 : Int) (@Arr.cons Int (27 : Nat) (0 : Int) (@Arr.cons Int (26 : Nat) (0 : Int) (@Arr.cons Int (25 : Nat) (0 : Int) (@Arr.cons Int (24 : Nat) (0 : Int) (@Arr.cons Int (23 : Nat) (0 : Int) (@Arr.cons Int (22 : Nat) (0 : Int) (@Arr.cons Int (21 : Nat) (0 : Int) (@Arr.cons Int (20 : Nat) (0 : Int) (@Arr.cons Int (19 : Nat) (0 : Int) (@Arr.cons Int (18 : Nat) (0 : Int) (@Arr.cons Int (17 : Nat) (0 : Int) (@Arr.cons Int (16 : Nat) (0 : Int) (@Arr.cons Int (15 : Nat) (0 : Int) (@Arr.cons Int (14 : Nat) (0 : Int) (@Arr.cons Int (13 : Nat) (0 : Int) (@Arr.cons Int (12 : Nat) (0 : Int) (@Arr.cons Int (11 : Nat) (0 : Int) (@Arr.cons Int (10 : Nat) (0 : Int) (@Arr.cons Int (9 : Nat) (0 : Int) (@Arr.cons Int (8 : Nat) (0 : Int) (@Arr.cons Int (7 : Nat) (0 : Int) (@Arr.cons Int (6 : Nat) (0 : Int) (@Arr.cons Int (5 : Nat) (0 : Int) (@Arr.cons Int (4 : Nat) (0 : Int) (@Arr.cons Int (3 : Nat) (0 : Int) (@Arr.cons Int (2 : Nat) (0 : Int) (@Arr.cons Int (1 : Nat) (0 : Int) (@Arr.cons Int (0 : Nat) (0 : Int) (@Arr.nil Int))))))))))))))))))))))))))))))))), @Unit.unit))) fun (v2 : (((List (List Int)) × (Int × Unit)) × ((Arr Int 32) × Unit))) =>
 bif ((decide ((0 : Int) ≤ (0 : Int) ∧ (0 : Int) ≤ v2.1.2.1)) && (roomB (Int.toNat v2.1.2.1) 1)) then
  Option.bind (sha256_Of_1_octs_Join_L9_R N ((v2.1.1, ((((List.length v2.1.1) : Nat) : Int), ((0 : Int), @Unit.unit))), (v2.2.1, ((@List.replicate Int (Int.toNat (0 : Int)) (0 : Int)), @Unit.unit)))) fun (v3 : (Unit × ((Arr Int 32) × ((List Int) × Unit)))) =>
  Option.bind (@sha256_Tail N (Go.IntKind.wrap .u64 (((List.length v3.2.2.1) : Nat) : Int))) fun (v4 : (List Int)) =>
  bif (roomB ((List.length v3.2.2.1) + (List.length v4)) 1) then
   Option.bind (@sha256_First N) fun (v5 : (Arr Int 8)) =>
   Option.bind (@sha256_constants N) fun (v6 : (Arr Int 64)) =>
   Option.bind (sha256_Of_L5_R N (((v3.2.2.1 ++ v4), ((0 : Int), @Unit.unit)), (v3.2.1, (v5, (v6, @Unit.unit))))) fun (v7 : (Unit × ((Arr Int 32) × ((Arr Int 8) × Unit)))) =>
   Option.bind (@sha256_digest N v7.2.2.1) fun (v8 : (Arr Int 32)) =>
   some (v8)
  else
   none
 else
  none
theorem sha256_Of_S (N : Nat) (parts0 : List (List (Int))) : (runK Go.Proofs.Try.prog (Ev49 N) 400 23 [(.sl (.sl (.int .u8)))] [(.arr 32 (.int .u8))] (parts0, ())).run = sha256_Of N parts0 := by kernel_rfl
theorem sha256_Of_C (N : Nat) (parts0 : List (List (Int))) (y : Arr (Int) 32) (h : sha256_Of N parts0 = some y) : CallsK Go.Proofs.Try.prog 23 (valA [(.sl (.sl (.int .u8)))] (parts0, ())) (tupV (valR [(.arr 32 (.int .u8))] y)) := runK_ok hmx (Ev49_ok N _) (okFn_ok (by kernel_rfl)) (by rw [sha256_Of_S]; exact h)
noncomputable def Ev50 (N : Nat) : (R : Type) → Env R := Env.addFn (Ev49 N) 23 (fun R => fnK [(.sl (.sl (.int .u8)))] [(.arr 32 (.int .u8))] (fun c => sha256_Of N c.1))
theorem Ev50_ok (N : Nat) (R : Type) : EnvOK Go.Proofs.Try.prog (Ev50 N R) := EnvOK.addFn hmx (Ev49_ok N R) (Ev49_ok N _) (by kernel_rfl) (fun c => sha256_Of_S N c.1)
noncomputable def Ev51 (N : Nat) : (R : Type) → Env R := Env.addMv (Ev50 N) [(17, 5)]
theorem Ev51_ok (N : Nat) (R : Type) : EnvOK Go.Proofs.Try.prog (Ev51 N R) := EnvOK.addMv (Ev50_ok N R) [(17, 5)]
noncomputable def hmac_Key (N : Nat) (key0 : List (Int)) : Option (Arr (Int) 64) :=
 bif (decide ((64 : Int) < (((List.length key0) : Nat) : Int))) then
  Option.bind (@sha256_Of N ([key0] : List ((List Int)))) fun (v2 : (Arr Int 32)) =>
  some ((@Arr.over Int (64 : Nat) (@Arr.cons Int (63 : Nat) (0 : Int) (@Arr.cons Int (62 : Nat) (0 : Int) (@Arr.cons Int (61 : Nat) (0 : Int) (@Arr.cons Int (60 : Nat) (0 : Int) (@Arr.cons Int (59 : Nat) (0 : Int) (@Arr.cons Int (58 : Nat) (0 : Int) (@Arr.cons Int (57 : Nat) (0 : Int) (@Arr.cons Int (56 : Nat) (0 : Int) (@Arr.cons Int (55 : Nat) (0 : Int) (@Arr.cons Int (54 : Nat) (0 : Int) (@Arr.cons Int (53 : Nat) (0 : Int) (@Arr.cons Int (52 : Nat) (0 : Int) (@Arr.cons Int (51 : Nat) (0 : Int) (@Arr.cons Int (50 : Nat) (0 : Int) (@Arr.cons Int (49 : Nat) (0 : Int) (@Arr.cons Int (48 : Nat) (0 : Int) (@Arr.cons Int (47 : Nat) (0 : Int) (@Arr.cons Int (46 : Nat) (0 : Int) (@Arr.cons Int (45 : Nat) (0 : Int) (@Arr.cons Int (44 : Nat) (0 : Int) (@Arr.cons Int (43 : Nat) (0 : Int) (@Arr.cons Int (42 : Nat) (0 : Int) (@Arr.cons Int (41 : Nat) (0 : Int) (@Arr.cons Int (40 : Nat) (0 : Int) (@Arr.cons Int (39 : Nat) (0 : Int) (@Arr.cons Int (38 : Nat) (0 : Int) (@Arr.cons Int (37 : Nat) (0 : Int) (@Arr.cons Int (36 : Nat) (0 : Int) (@Arr.cons Int (35 : Nat) (0 : Int) (@Arr.cons Int (34 : Nat) (0 : Int) (@Arr.cons Int (33 : Nat) (0 : Int) (@Arr.cons Int (32 : Nat) (0 : Int) (@Arr.cons Int (31 : Nat) (0 : Int) (@Arr.cons Int (30 : Nat) (0 : Int) (@Arr.cons Int (29 : Nat) (0 : Int) (@Arr.cons Int (28 : Nat) (0 : Int) (@Arr.cons Int (27 : Nat) (0 : Int) (@Arr.cons Int (26 : Nat) (0 : Int) (@Arr.cons Int (25 : Nat) (0 : Int) (@Arr.cons Int (24 : Nat) (0 : Int) (@Arr.cons Int (23 : Nat) (0 : Int) (@Arr.cons Int (22 : Nat) (0 : Int) (@Arr.cons Int (21 : Nat) (0 : Int) (@Arr.cons Int (20 : Nat) (0 : Int) (@Arr.cons Int (19 : Nat) (0 : Int) (@Arr.cons Int (18 : Nat) (0 : Int) (@Arr.cons Int (17 : Nat) (0 : Int) (@Arr.cons Int (16 : Nat) (0 : Int) (@Arr.cons Int (15 : Nat) (0 : Int) (@Arr.cons Int (14 : Nat) (0 : Int) (@Arr.cons Int (13 : Nat) (0 : Int) (@Arr.cons Int (12 : Nat) (0 : Int) (@Arr.cons Int (11 : Nat) (0 : Int) (@Arr.cons Int (10 : Nat) (0 : Int) (@Arr.cons Int (9 : Nat) (0 : Int) (@Arr.cons Int (8 : Nat) (0 : Int) (@Arr.cons Int (7 : Nat) (0 : Int) (@Arr.cons Int (6 : Nat) (0 : Int) (@Arr.cons Int (5 : Nat) (0 : Int) (@Arr.cons Int (4 : Nat) (0 : Int) (@Arr.cons Int (3 : Nat) (0 : Int) (@Arr.cons Int (2 : Nat) (0 : Int) (@Arr.cons Int (1 : Nat) (0 : Int) (@Arr.cons Int (0 : Nat) (0 : Int) (@Arr.nil Int))))))))))))))))))))))))))))))))))))))))))))))))))))))))))))))))) v2.l))
 else
  some ((@Arr.over Int (64 : Nat) (@Arr.cons Int (63 : Nat) (0 : Int) (@Arr.cons Int (62 : Nat) (0 : Int) (@Arr.cons Int (61 : Nat) (0 : Int) (@Arr.cons Int (60 : Nat) (0 : Int) (@Arr.cons Int (59 : Nat) (0 : Int) (@Arr.cons Int (58 : Nat) (0 : Int) (@Arr.cons Int (57 : Nat) (0 : Int) (@Arr.cons Int (56 : Nat) (0 : Int) (@Arr.cons Int (55 : Nat) (0 : Int) (@Arr.cons Int (54 : Nat) (0 : Int) (@Arr.cons Int (53 : Nat) (0 : Int) (@Arr.cons Int (52 : Nat) (0 : Int) (@Arr.cons Int (51 : Nat) (0 : Int) (@Arr.cons Int (50 : Nat) (0 : Int) (@Arr.cons Int (49 : Nat) (0 : Int) (@Arr.cons Int (48 : Nat) (0 : Int) (@Arr.cons Int (47 : Nat) (0 : Int) (@Arr.cons Int (46 : Nat) (0 : Int) (@Arr.cons Int (45 : Nat) (0 : Int) (@Arr.cons Int (44 : Nat) (0 : Int) (@Arr.cons Int (43 : Nat) (0 : Int) (@Arr.cons Int (42 : Nat) (0 : Int) (@Arr.cons Int (41 : Nat) (0 : Int) (@Arr.cons Int (40 : Nat) (0 : Int) (@Arr.cons Int (39 : Nat) (0 : Int) (@Arr.cons Int (38 : Nat) (0 : Int) (@Arr.cons Int (37 : Nat) (0 : Int) (@Arr.cons Int (36 : Nat) (0 : Int) (@Arr.cons Int (35 : Nat) (0 : Int) (@Arr.cons Int (34 : Nat) (0 : Int) (@Arr.cons Int (33 : Nat) (0 : Int) (@Arr.cons Int (32 : Nat) (0 : Int) (@Arr.cons Int (31 : Nat) (0 : Int) (@Arr.cons Int (30 : Nat) (0 : Int) (@Arr.cons Int (29 : Nat) (0 : Int) (@Arr.cons Int (28 : Nat) (0 : Int) (@Arr.cons Int (27 : Nat) (0 : Int) (@Arr.cons Int (26 : Nat) (0 : Int) (@Arr.cons Int (25 : Nat) (0 : Int) (@Arr.cons Int (24 : Nat) (0 : Int) (@Arr.cons Int (23 : Nat) (0 : Int) (@Arr.cons Int (22 : Nat) (0 : Int) (@Arr.cons Int (21 : Nat) (0 : Int) (@Arr.cons Int (20 : Nat) (0 : Int) (@Arr.cons Int (19 : Nat) (0 : Int) (@Arr.cons Int (18 : Nat) (0 : Int) (@Arr.cons Int (17 : Nat) (0 : Int) (@Arr.cons Int (16 : Nat) (0 : Int) (@Arr.cons Int (15 : Nat) (0 : Int) (@Arr.cons Int (14 : Nat) (0 : Int) (@Arr.cons Int (13 : Nat) (0 : Int) (@Arr.cons Int (12 : Nat) (0 : Int) (@Arr.cons Int (11 : Nat) (0 : Int) (@Arr.cons Int (10 : Nat) (0 : Int) (@Arr.cons Int (9 : Nat) (0 : Int) (@Arr.cons Int (8 : Nat) (0 : Int) (@Arr.cons Int (7 : Nat) (0 : Int) (@Arr.cons Int (6 : Nat) (0 : Int) (@Arr.cons Int (5 : Nat) (0 : Int) (@Arr.cons Int (4 : Nat) (0 : Int) (@Arr.cons Int (3 : Nat) (0 : Int) (@Arr.cons Int (2 : Nat) (0 : Int) (@Arr.cons Int (1 : Nat) (0 : Int) (@Arr.cons Int (0 : Nat) (0 : Int) (@Arr.nil Int))))))))))))))))))))))))))))))))))))))))))))))))))))))))))))))))) key0))
theorem hmac_Key_S (N : Nat) (key0 : List (Int)) : (runK Go.Proofs.Try.prog (Ev51 N) 400 17 [(.sl (.int .u8))] [(.arr 64 (.int .u8))] (key0, ())).run = hmac_Key N key0 := by kernel_rfl
theorem hmac_Key_C (N : Nat) (key0 : List (Int)) (y : Arr (Int) 64) (h : hmac_Key N key0 = some y) : CallsK Go.Proofs.Try.prog 17 (valA [(.sl (.int .u8))] (key0, ())) (tupV (valR [(.arr 64 (.int .u8))] y)) := runK_ok hmx (Ev51_ok N _) (okFn_ok (by kernel_rfl)) (by rw [hmac_Key_S]; exact h)
noncomputable def Ev52 (N : Nat) : (R : Type) → Env R := Env.addFn (Ev51 N) 17 (fun R => fnK [(.sl (.int .u8))] [(.arr 64 (.int .u8))] (fun c => hmac_Key N c.1))
theorem Ev52_ok (N : Nat) (R : Type) : EnvOK Go.Proofs.Try.prog (Ev52 N R) := EnvOK.addFn hmx (Ev51_ok N R) (Ev51_ok N _) (by kernel_rfl) (fun c => hmac_Key_S N c.1)
noncomputable def hmac_turned_L2_I : LI := ⟨17, 0, [], ⟨[(1, .ty (.int .u8)), (2, .lit (.box 0 0)), (6, .ty (.int .i64))], [.box 28 (.arr 64 (.int .u8))]⟩, [(.exit 0, ⟨[(2, .lit (.box 0 0))], [.box 28 (.arr 64 (.int .u8))]⟩)]⟩
noncomputable def hmac_turned_L2 (N : Nat) (X : (((Int) × ((Int) × Unit)) × ((Arr (Int) 64) × Unit)) → Option ((Unit × ((Arr (Int) 64) × Unit)))) (x1 : Int) (x6 : Int) (h0 : Arr (Int) 64) : Option ((Unit × ((Arr (Int) 64) × Unit))) :=
 bif (decide (x6 < (64 : Int))) then
  bif (decide ((0 : Int) ≤ x6 ∧ x6 < (((64 : Nat) : Nat) : Int))) then
   Option.bind (@GetElem?.getElem? (List Int) Nat Int (fun (as5 : (List Int)) => (fun (i6 : Nat) => (@LT.lt Nat @instLTNat i6 (List.length as5)))) (@List.instGetElem?NatLtLength Int) h0.l (Int.toNat x6)) fun (v5 : Int) =>
   bif (decide ((0 : Int) ≤ x6 ∧ x6 < (((64 : Nat) : Nat) : Int))) then
    Option.bind (@GetElem?.getElem? (List Int) Nat Int (fun (as6 : (List Int)) => (fun (i7 : Nat) => (@LT.lt Nat @instLTNat i7 (List.length as6)))) (@List.instGetElem?NatLtLength Int) h0.l (Int.toNat x6)) fun (v6 : Int) =>
    (X ((x1, ((Go.IntKind.wrap .i64 (x6 + (1 : Int))), @Unit.unit)), ((h0.set (Int.toNat x6) (@Go.bits @Go.BinOp.xor @Go.IntKind.u8 v5 x1)), @Unit.unit)))
   else
    none
  else
   none
 else
  some ((@Unit.unit, (h0, @Unit.unit)))
noncomputable def hmac_turned_L2_R (N : Nat) (c : (((Int) × ((Int) × Unit)) × ((Arr (Int) 64) × Unit))) : Option ((Unit × ((Arr (Int) 64) × Unit))) := gl (fun X c => hmac_turned_L2 N X c.1.1 c.1.2.1 c.2.1) N c
theorem hmac_turned_L2_S (N : Nat) (X : (((Int) × ((Int) × Unit)) × ((Arr (Int) 64) × Unit)) → Option ((Unit × ((Arr (Int) 64) × Unit)))) (x1 : Int) (x6 : Int) (h0 : Arr (Int) 64) : (roundK Go.Proofs.Try.prog (Ev52 N) 400 [70] hmac_turned_L2_I (loopAt Go.Proofs.Try.prog [70] 2) X ((x1, x6, ()), (h0, ()))).run = hmac_turned_L2 N X x1 x6 h0 := by kernel_rfl
noncomputable def Ev53 (N : Nat) : (R : Type) → Env R := Env.addLp (Ev52 N) [70] 0 2 (fun R => lpK Go.Proofs.Try.prog hmac_turned_L2_I (fun X c => hmac_turned_L2 N X c.1.1 c.1.2.1 c.2.1) N)
theorem Ev53_ok (N : Nat) (R : Type) : EnvOK Go.Proofs.Try.prog (Ev53 N R) := EnvOK.addLp (Ev52_ok N R) (by kernel_rfl) (lpK_ok (li := hmac_turned_L2_I) (G := fun X c => hmac_turned_L2 N X c.1.1 c.1.2.1 c.2.1) hmx (Ev52_ok N _) (by kernel_rfl) loopAt_sub (fun (X : CT hmac_turned_L2_I.sh → Option (OT hmac_turned_L2_I.outs)) (c : CT hmac_turned_L2_I.sh) => hmac_turned_L2_S N X c.1.1 c.1.2.1 c.2.1) N)
noncomputable def hmac_turned (N : Nat) (block0 : Arr (Int) 64) (x1 : Int) : Option (List (Int)) :=
 Option.bind (hmac_turned_L2_R N ((x1, ((0 : Int), @Unit.unit)), (block0, @Unit.unit))) fun (v3 : (Unit × ((Arr Int 64) × Unit))) =>
 some (v3.2.1.l)
theorem hmac_turned_S (N : Nat) (block0 : Arr (Int) 64) (x1 : Int) : (runK Go.Proofs.Try.prog (Ev53 N) 400 70 [(.arr 64 (.int .u8)), (.int .u8)] [(.sl (.int .u8))] (block0, x1, ())).run = hmac_turned N block0 x1 := by kernel_rfl
theorem hmac_turned_C (N : Nat) (block0 : Arr (Int) 64) (x1 : Int) (y : List (Int)) (h : hmac_turned N block0 x1 = some y) : CallsK Go.Proofs.Try.prog 70 (valA [(.arr 64 (.int .u8)), (.int .u8)] (block0, x1, ())) (tupV (valR [(.sl (.int .u8))] y)) := runK_ok hmx (Ev53_ok N _) (okFn_ok (by kernel_rfl)) (by rw [hmac_turned_S]; exact h)
noncomputable def Ev54 (N : Nat) : (R : Type) → Env R := Env.addFn (Ev53 N) 70 (fun R => fnK [(.arr 64 (.int .u8)), (.int .u8)] [(.sl (.int .u8))] (fun c => hmac_turned N c.1 c.2.1))
theorem Ev54_ok (N : Nat) (R : Type) : EnvOK Go.Proofs.Try.prog (Ev54 N R) := EnvOK.addFn hmx (Ev53_ok N R) (Ev53_ok N _) (by kernel_rfl) (fun c => hmac_turned_S N c.1 c.2.1)
noncomputable def Ev55 (N : Nat) : (R : Type) → Env R := Env.addMv (Ev54 N) [(16, 2)]
theorem Ev55_ok (N : Nat) (R : Type) : EnvOK Go.Proofs.Try.prog (Ev55 N R) := EnvOK.addMv (Ev54_ok N R) [(16, 2)]
noncomputable def hmac_Of (N : Nat) (key0 : List (Int)) (parts1 : List (List (Int))) : Option (Arr (Int) 32) :=
 Option.bind (@hmac_Key N key0) fun (v3 : (Arr Int 64)) =>
 Option.bind (@hmac_turned N v3 (54 : Int)) fun (v4 : (List Int)) =>
 bif (roomB ((List.length ([v4] : List ((List Int)))) + (List.length parts1)) 24) then
  Option.bind (@sha256_Of N (([v4] : List ((List Int))) ++ parts1)) fun (v5 : (Arr Int 32)) =>
  Option.bind (@hmac_turned N v3 (92 : Int)) fun (v6 : (List Int)) =>
  Option.bind (@sha256_Of N ([v6, v5.l] : List ((List Int)))) fun (v7 : (Arr Int 32)) =>
  some (v7)
 else
  none
theorem hmac_Of_S (N : Nat) (key0 : List (Int)) (parts1 : List (List (Int))) : (runK Go.Proofs.Try.prog (Ev55 N) 400 16 [(.sl (.int .u8)), (.sl (.sl (.int .u8)))] [(.arr 32 (.int .u8))] (key0, parts1, ())).run = hmac_Of N key0 parts1 := by kernel_rfl
theorem hmac_Of_C (N : Nat) (key0 : List (Int)) (parts1 : List (List (Int))) (y : Arr (Int) 32) (h : hmac_Of N key0 parts1 = some y) : CallsK Go.Proofs.Try.prog 16 (valA [(.sl (.int .u8)), (.sl (.sl (.int .u8)))] (key0, parts1, ())) (tupV (valR [(.arr 32 (.int .u8))] y)) := runK_ok hmx (Ev55_ok N _) (okFn_ok (by kernel_rfl)) (by rw [hmac_Of_S]; exact h)
noncomputable def Ev56 (N : Nat) : (R : Type) → Env R := Env.addFn (Ev55 N) 16 (fun R => fnK [(.sl (.int .u8)), (.sl (.sl (.int .u8)))] [(.arr 32 (.int .u8))] (fun c => hmac_Of N c.1 c.2.1))
theorem Ev56_ok (N : Nat) (R : Type) : EnvOK Go.Proofs.Try.prog (Ev56 N R) := EnvOK.addFn hmx (Ev55_ok N R) (Ev55_ok N _) (by kernel_rfl) (fun c => hmac_Of_S N c.1 c.2.1)
noncomputable def octs_Same_L3_I : LI := ⟨35, 0, [], ⟨[(0, .ty (.sl (.int .u8))), (1, .ty (.sl (.int .u8))), (5, .ty (.int .i64)), (16, .ty (.int .i64)), (17, .ty (.int .i64))], []⟩, [(.exit 0, ⟨[(5, .ty (.int .i64))], []⟩)]⟩
noncomputable def octs_Same_L3 (N : Nat) (X : (((List (Int)) × ((List (Int)) × ((Int) × ((Int) × ((Int) × Unit))))) × Unit) → Option ((((Int) × Unit) × Unit))) (a0 : List (Int)) (b1 : List (Int)) (differ5 : Int) (x16 : Int) (x17 : Int) : Option ((((Int) × Unit) × Unit)) :=
 bif (decide (x17 < x16)) then
  Option.bind (getI a0 x17) fun (v7 : Int) =>
  Option.bind (getI b1 x17) fun (v8 : Int) =>
  (X ((a0, (b1, ((@Go.bits @Go.BinOp.or @Go.IntKind.i64 differ5 (Go.IntKind.wrap .i64 (@Go.bits @Go.BinOp.xor @Go.IntKind.u8 v7 v8))), (x16, ((Go.IntKind.wrap .i64 (x17 + (1 : Int))), @Unit.unit))))), @Unit.unit))
 else
  some (((differ5, @Unit.unit), @Unit.unit))
noncomputable def octs_Same_L3_R (N : Nat) (c : (((List (Int)) × ((List (Int)) × ((Int) × ((Int) × ((Int) × Unit))))) × Unit)) : Option ((((Int) × Unit) × Unit)) := gl (fun X c => octs_Same_L3 N X c.1.1 c.1.2.1 c.1.2.2.1 c.1.2.2.2.1 c.1.2.2.2.2.1) N c
theorem octs_Same_L3_S (N : Nat) (X : (((List (Int)) × ((List (Int)) × ((Int) × ((Int) × ((Int) × Unit))))) × Unit) → Option ((((Int) × Unit) × Unit))) (a0 : List (Int)) (b1 : List (Int)) (differ5 : Int) (x16 : Int) (x17 : Int) : (roundK Go.Proofs.Try.prog (Ev56 N) 400 [71] octs_Same_L3_I (loopAt Go.Proofs.Try.prog [71] 3) X ((a0, b1, differ5, x16, x17, ()), ())).run = octs_Same_L3 N X a0 b1 differ5 x16 x17 := by kernel_rfl
noncomputable def Ev57 (N : Nat) : (R : Type) → Env R := Env.addLp (Ev56 N) [71] 0 3 (fun R => lpK Go.Proofs.Try.prog octs_Same_L3_I (fun X c => octs_Same_L3 N X c.1.1 c.1.2.1 c.1.2.2.1 c.1.2.2.2.1 c.1.2.2.2.2.1) N)
theorem Ev57_ok (N : Nat) (R : Type) : EnvOK Go.Proofs.Try.prog (Ev57 N R) := EnvOK.addLp (Ev56_ok N R) (by kernel_rfl) (lpK_ok (li := octs_Same_L3_I) (G := fun X c => octs_Same_L3 N X c.1.1 c.1.2.1 c.1.2.2.1 c.1.2.2.2.1 c.1.2.2.2.2.1) hmx (Ev56_ok N _) (by kernel_rfl) loopAt_sub (fun (X : CT octs_Same_L3_I.sh → Option (OT octs_Same_L3_I.outs)) (c : CT octs_Same_L3_I.sh) => octs_Same_L3_S N X c.1.1 c.1.2.1 c.1.2.2.1 c.1.2.2.2.1 c.1.2.2.2.2.1) N)
noncomputable def octs_Same (N : Nat) (a0 : List (Int)) (b1 : List (Int)) : Option (Bool) :=
 Option.bind (octs_Same_L3_R N ((a0, (b1, ((@Go.bits @Go.BinOp.xor @Go.IntKind.i64 (((List.length a0) : Nat) : Int) (((List.length b1) : Nat) : Int)), ((@minI (((List.length a0) : Nat) : Int) (((List.length b1) : Nat) : Int)), ((0 : Int), @Unit.unit))))), @Unit.unit)) fun (v3 : ((Int × Unit) × Unit)) =>
 some ((decide (v3.1.1 = (0 : Int))))
theorem octs_Same_S (N : Nat) (a0 : List (Int)) (b1 : List (Int)) : (runK Go.Proofs.Try.prog (Ev57 N) 400 71 [(.sl (.int .u8)), (.sl (.int .u8))] [.bool] (a0, b1, ())).run = octs_Same N a0 b1 := by kernel_rfl
noncomputable def Ev58 (N : Nat) : (R : Type) → Env R := Env.addFn (Ev57 N) 71 (fun R => fnK [(.sl (.int .u8)), (.sl (.int .u8))] [.bool] (fun c => octs_Same N c.1 c.2.1))
theorem Ev58_ok (N : Nat) (R : Type) : EnvOK Go.Proofs.Try.prog (Ev58 N R) := EnvOK.addFn hmx (Ev57_ok N R) (Ev57_ok N _) (by kernel_rfl) (fun c => octs_Same_S N c.1 c.2.1)
noncomputable def hmac_Check (N : Nat) (key0 : List (Int)) (x1 : List (Int)) (parts2 : List (List (Int))) : Option (Bool) :=
 Option.bind (@hmac_Of N key0 parts2) fun (v4 : (Arr Int 32)) =>
 Option.bind (@octs_Same N v4.l x1) fun (v5 : Bool) =>
 some (v5)
theorem hmac_Check_S (N : Nat) (key0 : List (Int)) (x1 : List (Int)) (parts2 : List (List (Int))) : (runK Go.Proofs.Try.prog (Ev58 N) 400 19 [(.sl (.int .u8)), (.sl (.int .u8)), (.sl (.sl (.int .u8)))] [.bool] (key0, x1, parts2, ())).run = hmac_Check N key0 x1 parts2 := by kernel_rfl
theorem hmac_Check_C (N : Nat) (key0 : List (Int)) (x1 : List (Int)) (parts2 : List (List (Int))) (y : Bool) (h : hmac_Check N key0 x1 parts2 = some y) : CallsK Go.Proofs.Try.prog 19 (valA [(.sl (.int .u8)), (.sl (.int .u8)), (.sl (.sl (.int .u8)))] (key0, x1, parts2, ())) (tupV (valR [.bool] y)) := runK_ok hmx (Ev58_ok N _) (okFn_ok (by kernel_rfl)) (by rw [hmac_Check_S]; exact h)
noncomputable def Ev59 (N : Nat) : (R : Type) → Env R := Env.addFn (Ev58 N) 19 (fun R => fnK [(.sl (.int .u8)), (.sl (.int .u8)), (.sl (.sl (.int .u8)))] [.bool] (fun c => hmac_Check N c.1 c.2.1 c.2.2.1))
theorem Ev59_ok (N : Nat) (R : Type) : EnvOK Go.Proofs.Try.prog (Ev59 N R) := EnvOK.addFn hmx (Ev58_ok N R) (Ev58_ok N _) (by kernel_rfl) (fun c => hmac_Check_S N c.1 c.2.1 c.2.2.1)
noncomputable def Ev60 (N : Nat) : (R : Type) → Env R := Env.addMv (Ev59 N) [(111, 7)]
theorem Ev60_ok (N : Nat) (R : Type) : EnvOK Go.Proofs.Try.prog (Ev60 N R) := EnvOK.addMv (Ev59_ok N R) [(111, 7)]
noncomputable def Ev61 (N : Nat) : (R : Type) → Env R := Env.addMv (Ev60 N) [(121, 1), (121, 8)]
theorem Ev61_ok (N : Nat) (R : Type) : EnvOK Go.Proofs.Try.prog (Ev61 N R) := EnvOK.addMv (Ev60_ok N R) [(121, 1), (121, 8)]
noncomputable def ref04_Tail_L2_I : LI := ⟨32, 0, [], ⟨[(0, .ty (.int .u64)), (3, .lit (.own 0))], [.own (.int .u8) 5]⟩, [(.exit 0, ⟨[(0, .ty (.int .u64)), (3, .lit (.own 0))], [.own (.int .u8) 5]⟩)]⟩
noncomputable def ref04_Tail_L2 (N : Nat) (X : (((Int) × Unit) × ((List (Int)) × Unit)) → Option ((((Int) × Unit) × ((List (Int)) × Unit)))) (n0 : Int) (h0 : List (Int)) : Option ((((Int) × Unit) × ((List (Int)) × Unit))) :=
 bif (!(decide ((@Int.tmod (Go.IntKind.wrap .u64 (n0 + (Go.IntKind.wrap .u64 (((List.length h0) : Nat) : Int)))) (64 : Int)) = (56 : Int)))) then
  bif (roomB ((List.length h0) + (List.length ([(0 : Int)] : List (Int)))) 1) then
   (X ((n0, @Unit.unit), ((h0 ++ ([(0 : Int)] : List (Int))), @Unit.unit)))
  else
   none
 else
  some (((n0, @Unit.unit), (h0, @Unit.unit)))
noncomputable def ref04_Tail_L2_R (N : Nat) (c : (((Int) × Unit) × ((List (Int)) × Unit))) : Option ((((Int) × Unit) × ((List (Int)) × Unit))) := gl (fun X c => ref04_Tail_L2 N X c.1.1 c.2.1) N c
theorem ref04_Tail_L2_S (N : Nat) (X : (((Int) × Unit) × ((List (Int)) × Unit)) → Option ((((Int) × Unit) × ((List (Int)) × Unit)))) (n0 : Int) (h0 : List (Int)) : (roundK Go.Proofs.Try.prog (Ev61 N) 400 [121] ref04_Tail_L2_I (loopAt Go.Proofs.Try.prog [121] 2) X ((n0, ()), (h0, ()))).run = ref04_Tail_L2 N X n0 h0 := by kernel_rfl
noncomputable def Ev62 (N : Nat) : (R : Type) → Env R := Env.addLp (Ev61 N) [121] 0 2 (fun R => lpK Go.Proofs.Try.prog ref04_Tail_L2_I (fun X c => ref04_Tail_L2 N X c.1.1 c.2.1) N)
theorem Ev62_ok (N : Nat) (R : Type) : EnvOK Go.Proofs.Try.prog (Ev62 N R) := EnvOK.addLp (Ev61_ok N R) (by kernel_rfl) (lpK_ok (li := ref04_Tail_L2_I) (G := fun X c => ref04_Tail_L2 N X c.1.1 c.2.1) hmx (Ev61_ok N _) (by kernel_rfl) loopAt_sub (fun (X : CT ref04_Tail_L2_I.sh → Option (OT ref04_Tail_L2_I.outs)) (c : CT ref04_Tail_L2_I.sh) => ref04_Tail_L2_S N X c.1.1 c.2.1) N)
noncomputable def ref04_Tail_L6_I : LI := ⟨32, 0, [], ⟨[(3, .lit (.own 0)), (4, .ty (.int .u64)), (5, .ty (.int .i64))], [.own (.int .u8) 5]⟩, [(.exit 2, ⟨[(3, .lit (.own 0))], [.own (.int .u8) 5]⟩)]⟩
noncomputable def ref04_Tail_L6 (N : Nat) (X : (((Int) × ((Int) × Unit)) × ((List (Int)) × Unit)) → Option ((Unit × ((List (Int)) × Unit)))) (bits4 : Int) (i5 : Int) (h0 : List (Int)) : Option ((Unit × ((List (Int)) × Unit))) :=
 bif (decide (i5 < (8 : Int))) then
  bif (roomB ((List.length h0) + (List.length ([(Go.IntKind.wrap .u8 (@Int.tmod bits4 (256 : Int)))] : List (Int)))) 1) then
   (X (((Go.IntKind.wrap .u64 (@Int.tdiv bits4 (256 : Int))), ((Go.IntKind.wrap .i64 (i5 + (1 : Int))), @Unit.unit)), ((h0 ++ ([(Go.IntKind.wrap .u8 (@Int.tmod bits4 (256 : Int)))] : List (Int))), @Unit.unit)))
  else
   none
 else
  some ((@Unit.unit, (h0, @Unit.unit)))
noncomputable def ref04_Tail_L6_R (N : Nat) (c : (((Int) × ((Int) × Unit)) × ((List (Int)) × Unit))) : Option ((Unit × ((List (Int)) × Unit))) := gl (fun X c => ref04_Tail_L6 N X c.1.1 c.1.2.1 c.2.1) N c
theorem ref04_Tail_L6_S (N : Nat) (X : (((Int) × ((Int) × Unit)) × ((List (Int)) × Unit)) → Option ((Unit × ((List (Int)) × Unit)))) (bits4 : Int) (i5 : Int) (h0 : List (Int)) : (roundK Go.Proofs.Try.prog (Ev62 N) 400 [121] ref04_Tail_L6_I (loopAt Go.Proofs.Try.prog [121] 6) X ((bits4, i5, ()), (h0, ()))).run = ref04_Tail_L6 N X bits4 i5 h0 := by kernel_rfl
noncomputable def Ev63 (N : Nat) : (R : Type) → Env R := Env.addLp (Ev62 N) [121] 0 6 (fun R => lpK Go.Proofs.Try.prog ref04_Tail_L6_I (fun X c => ref04_Tail_L6 N X c.1.1 c.1.2.1 c.2.1) N)
theorem Ev63_ok (N : Nat) (R : Type) : EnvOK Go.Proofs.Try.prog (Ev63 N R) := EnvOK.addLp (Ev62_ok N R) (by kernel_rfl) (lpK_ok (li := ref04_Tail_L6_I) (G := fun X c => ref04_Tail_L6 N X c.1.1 c.1.2.1 c.2.1) hmx (Ev62_ok N _) (by kernel_rfl) loopAt_sub (fun (X : CT ref04_Tail_L6_I.sh → Option (OT ref04_Tail_L6_I.outs)) (c : CT ref04_Tail_L6_I.sh) => ref04_Tail_L6_S N X c.1.1 c.1.2.1 c.2.1) N)
noncomputable def ref04_Tail (N : Nat) (n0 : Int) : Option (List (Int)) :=
 Option.bind (ref04_Tail_L2_R N ((n0, @Unit.unit), (([(128 : Int)] : List (Int)), @Unit.unit))) fun (v2 : ((Int × Unit) × ((List Int) × Unit))) =>
 Option.bind (ref04_Tail_L6_R N (((Go.IntKind.wrap .u64 ((8 : Int) * v2.1.1)), ((0 : Int), @Unit.unit)), (v2.2.1, @Unit.unit))) fun (v3 : (Unit × ((List Int) × Unit))) =>
 some (v3.2.1)
theorem ref04_Tail_S (N : Nat) (n0 : Int) : (runK Go.Proofs.Try.prog (Ev63 N) 400 121 [(.int .u64)] [(.sl (.int .u8))] (n0, ())).run = ref04_Tail N n0 := by kernel_rfl
noncomputable def Ev64 (N : Nat) : (R : Type) → Env R := Env.addFn (Ev63 N) 121 (fun R => fnK [(.int .u64)] [(.sl (.int .u8))] (fun c => ref04_Tail N c.1))
theorem Ev64_ok (N : Nat) (R : Type) : EnvOK Go.Proofs.Try.prog (Ev64 N R) := EnvOK.addFn hmx (Ev63_ok N R) (Ev63_ok N _) (by kernel_rfl) (fun c => ref04_Tail_S N c.1)
noncomputable def ref05_Tail_L5_I : LI := ⟨30, 0, [], ⟨[(3, .ty (.sl (.int .u8))), (4, .ty (.int .i64)), (5, .lit (.own 0)), (6, .ty (.int .i64))], [.own (.int .u8) 5]⟩, [(.exit 0, ⟨[(5, .lit (.own 0))], [.own (.int .u8) 5]⟩)]⟩
noncomputable def ref05_Tail_L5 (N : Nat) (X : (((List (Int)) × ((Int) × ((Int) × Unit))) × ((List (Int)) × Unit)) → Option ((Unit × ((List (Int)) × Unit)))) (b3 : List (Int)) (k4 : Int) (i6 : Int) (h0 : List (Int)) : Option ((Unit × ((List (Int)) × Unit))) :=
 bif (decide ((0 : Int) ≤ i6)) then
  Option.bind (getI b3 (Go.IntKind.wrap .i64 (k4 + i6))) fun (v6 : Int) =>
  bif (roomB ((List.length h0) + (List.length ([v6] : List (Int)))) 1) then
   (X ((b3, (k4, ((Go.IntKind.wrap .i64 (i6 - (1 : Int))), @Unit.unit))), ((h0 ++ ([v6] : List (Int))), @Unit.unit)))
  else
   none
 else
  some ((@Unit.unit, (h0, @Unit.unit)))
noncomputable def ref05_Tail_L5_R (N : Nat) (c : (((List (Int)) × ((Int) × ((Int) × Unit))) × ((List (Int)) × Unit))) : Option ((Unit × ((List (Int)) × Unit))) := gl (fun X c => ref05_Tail_L5 N X c.1.1 c.1.2.1 c.1.2.2.1 c.2.1) N c
theorem ref05_Tail_L5_S (N : Nat) (X : (((List (Int)) × ((Int) × ((Int) × Unit))) × ((List (Int)) × Unit)) → Option ((Unit × ((List (Int)) × Unit)))) (b3 : List (Int)) (k4 : Int) (i6 : Int) (h0 : List (Int)) : (roundK Go.Proofs.Try.prog (Ev64 N) 400 [111] ref05_Tail_L5_I (loopAt Go.Proofs.Try.prog [111] 5) X ((b3, k4, i6, ()), (h0, ()))).run = ref05_Tail_L5 N X b3 k4 i6 h0 := by kernel_rfl
noncomputable def Ev65 (N : Nat) : (R : Type) → Env R := Env.addLp (Ev64 N) [111] 0 5 (fun R => lpK Go.Proofs.Try.prog ref05_Tail_L5_I (fun X c => ref05_Tail_L5 N X c.1.1 c.1.2.1 c.1.2.2.1 c.2.1) N)
theorem Ev65_ok (N : Nat) (R : Type) : EnvOK Go.Proofs.Try.prog (Ev65 N R) := EnvOK.addLp (Ev64_ok N R) (by kernel_rfl) (lpK_ok (li := ref05_Tail_L5_I) (G := fun X c => ref05_Tail_L5 N X c.1.1 c.1.2.1 c.1.2.2.1 c.2.1) hmx (Ev64_ok N _) (by kernel_rfl) loopAt_sub (fun (X : CT ref05_Tail_L5_I.sh → Option (OT ref05_Tail_L5_I.outs)) (c : CT ref05_Tail_L5_I.sh) => ref05_Tail_L5_S N X c.1.1 c.1.2.1 c.1.2.2.1 c.2.1) N)
noncomputable def ref05_Tail (N : Nat) (n0 : Int) : Option (List (Int)) :=
 Option.bind (@ref04_Tail N n0) fun (v2 : (List Int)) =>
 Option.bind (takeI v2 (Go.IntKind.wrap .i64 ((((List.length v2) : Nat) : Int) - (8 : Int)))) fun (v3 : (List Int)) =>
 bif (roomB (List.length v3) 1) then
  Option.bind (ref05_Tail_L5_R N ((v2, ((Go.IntKind.wrap .i64 ((((List.length v2) : Nat) : Int) - (8 : Int))), ((7 : Int), @Unit.unit))), (v3, @Unit.unit))) fun (v4 : (Unit × ((List Int) × Unit))) =>
  some (v4.2.1)
 else
  none
theorem ref05_Tail_S (N : Nat) (n0 : Int) : (runK Go.Proofs.Try.prog (Ev65 N) 400 111 [(.int .u64)] [(.sl (.int .u8))] (n0, ())).run = ref05_Tail N n0 := by kernel_rfl
noncomputable def Ev66 (N : Nat) : (R : Type) → Env R := Env.addFn (Ev65 N) 111 (fun R => fnK [(.int .u64)] [(.sl (.int .u8))] (fun c => ref05_Tail N c.1))
theorem Ev66_ok (N : Nat) (R : Type) : EnvOK Go.Proofs.Try.prog (Ev66 N R) := EnvOK.addFn hmx (Ev65_ok N R) (Ev65_ok N _) (by kernel_rfl) (fun c => ref05_Tail_S N c.1)
noncomputable def ref06_Tail (N : Nat) (n0 : Int) : Option (List (Int)) :=
 Option.bind (@ref05_Tail N n0) fun (v2 : (List Int)) =>
 some (v2)
theorem ref06_Tail_S (N : Nat) (n0 : Int) : (runK Go.Proofs.Try.prog (Ev66 N) 400 100 [(.int .u64)] [(.sl (.int .u8))] (n0, ())).run = ref06_Tail N n0 := by kernel_rfl
noncomputable def Ev67 (N : Nat) : (R : Type) → Env R := Env.addFn (Ev66 N) 100 (fun R => fnK [(.int .u64)] [(.sl (.int .u8))] (fun c => ref06_Tail N c.1))
theorem Ev67_ok (N : Nat) (R : Type) : EnvOK Go.Proofs.Try.prog (Ev67 N R) := EnvOK.addFn hmx (Ev66_ok N R) (Ev66_ok N _) (by kernel_rfl) (fun c => ref06_Tail_S N c.1)
noncomputable def ref06_First (N : Nat) : Option (Arr (Int) 8) :=
 some ((@Arr.cons Int (7 : Nat) (1779033703 : Int) (@Arr.cons Int (6 : Nat) (3144134277 : Int) (@Arr.cons Int (5 : Nat) (1013904242 : Int) (@Arr.cons Int (4 : Nat) (2773480762 : Int) (@Arr.cons Int (3 : Nat) (1359893119 : Int) (@Arr.cons Int (2 : Nat) (2600822924 : Int) (@Arr.cons Int (1 : Nat) (528734635 : Int) (@Arr.cons Int (0 : Nat) (1541459225 : Int) (@Arr.nil Int))))))))))
theorem ref06_First_S (N : Nat) : (runK Go.Proofs.Try.prog (Ev67 N) 400 101 [] [(.arr 8 (.int .u32))] ()).run = ref06_First N  := by kernel_rfl
noncomputable def Ev68 (N : Nat) : (R : Type) → Env R := Env.addFn (Ev67 N) 101 (fun R => fnK [] [(.arr 8 (.int .u32))] (fun c => ref06_First N ))
theorem Ev68_ok (N : Nat) (R : Type) : EnvOK Go.Proofs.Try.prog (Ev68 N R) := EnvOK.addFn hmx (Ev67_ok N R) (Ev67_ok N _) (by kernel_rfl) (fun c => ref06_First_S N )
noncomputable def ref06_Of_L8_I : LI := ⟨56, 0, [], ⟨[(2, .lit (.box 0 0)), (3, .lit (.own 1)), (4, .lit (.box 2 0)), (5, .ty (.int .i64)), (6, .lit (.box 3 0)), (7, .ty (.int .i64))], [.box 25 (.arr 32 (.int .u8)), .own (.int .u8) 5, .box 125 (.arr 8 (.int .u32)), .box 28 (.arr 64 (.int .u8))]⟩, [(.exit 2, ⟨[(2, .lit (.box 0 0)), (3, .lit (.own 1)), (4, .lit (.box 2 0)), (5, .ty (.int .i64)), (6, .lit (.box 3 0))], [.box 25 (.arr 32 (.int .u8)), .own (.int .u8) 5, .box 125 (.arr 8 (.int .u32)), .box 28 (.arr 64 (.int .u8))]⟩)]⟩
noncomputable def ref06_Of_L8 (N : Nat) (X : (((Int) × ((Int) × Unit)) × ((Arr (Int) 32) × ((List (Int)) × ((Arr (Int) 8) × ((Arr (Int) 64) × Unit))))) → Option ((((Int) × Unit) × ((Arr (Int) 32) × ((List (Int)) × ((Arr (Int) 8) × ((Arr (Int) 64) × Unit))))))) (x5 : Int) (i7 : Int) (h0 : Arr (Int) 32) (h1 : List (Int)) (h2 : Arr (Int) 8) (h3 : Arr (Int) 64) : Option ((((Int) × Unit) × ((Arr (Int) 32) × ((List (Int)) × ((Arr (Int) 8) × ((Arr (Int) 64) × Unit)))))) :=
 bif (decide (i7 < (64 : Int))) then
  bif (decide ((0 : Int) ≤ (Go.IntKind.wrap .i64 (x5 + i7)) ∧ (Go.IntKind.wrap .i64 (x5 + i7)) < (((List.length h1) : Nat) : Int))) then
   Option.bind (@GetElem?.getElem? (List Int) Nat Int (fun (as8 : (List Int)) => (fun (i9 : Nat) => (@LT.lt Nat @instLTNat i9 (List.length as8)))) (@List.instGetElem?NatLtLength Int) h1 (Int.toNat (Go.IntKind.wrap .i64 (x5 + i7)))) fun (v8 : Int) =>
   bif (decide ((0 : Int) ≤ i7 ∧ i7 < (((64 : Nat) : Nat) : Int))) then
    Option.bind (@GetElem?.getElem? (List Int) Nat Int (fun (as9 : (List Int)) => (fun (i10 : Nat) => (@LT.lt Nat @instLTNat i10 (List.length as9)))) (@List.instGetElem?NatLtLength Int) h3.l (Int.toNat i7)) fun (v9 : Int) =>
    (X ((x5, ((Go.IntKind.wrap .i64 (i7 + (1 : Int))), @Unit.unit)), (h0, (h1, (h2, ((h3.set (Int.toNat i7) v8), @Unit.unit))))))
   else
    none
  else
   none
 else
  some (((x5, @Unit.unit), (h0, (h1, (h2, (h3, @Unit.unit))))))
noncomputable def ref06_Of_L8_R (N : Nat) (c : (((Int) × ((Int) × Unit)) × ((Arr (Int) 32) × ((List (Int)) × ((Arr (Int) 8) × ((Arr (Int) 64) × Unit)))))) : Option ((((Int) × Unit) × ((Arr (Int) 32) × ((List (Int)) × ((Arr (Int) 8) × ((Arr (Int) 64) × Unit)))))) := gl (fun X c => ref06_Of_L8 N X c.1.1 c.1.2.1 c.2.1 c.2.2.1 c.2.2.2.1 c.2.2.2.2.1) N c
theorem ref06_Of_L8_S (N : Nat) (X : (((Int) × ((Int) × Unit)) × ((Arr (Int) 32) × ((List (Int)) × ((Arr (Int) 8) × ((Arr (Int) 64) × Unit))))) → Option ((((Int) × Unit) × ((Arr (Int) 32) × ((List (Int)) × ((Arr (Int) 8) × ((Arr (Int) 64) × Unit))))))) (x5 : Int) (i7 : Int) (h0 : Arr (Int) 32) (h1 : List (Int)) (h2 : Arr (Int) 8) (h3 : Arr (Int) 64) : (roundK Go.Proofs.Try.prog (Ev68 N) 400 [68] ref06_Of_L8_I (loopAt Go.Proofs.Try.prog [68] 8) X ((x5, i7, ()), (h0, h1, h2, h3, ()))).run = ref06_Of_L8 N X x5 i7 h0 h1 h2 h3 := by kernel_rfl
noncomputable def Ev69 (N : Nat) : (R : Type) → Env R := Env.addLp (Ev68 N) [68] 0 8 (fun R => lpK Go.Proofs.Try.prog ref06_Of_L8_I (fun X c => ref06_Of_L8 N X c.1.1 c.1.2.1 c.2.1 c.2.2.1 c.2.2.2.1 c.2.2.2.2.1) N)
theorem Ev69_ok (N : Nat) (R : Type) : EnvOK Go.Proofs.Try.prog (Ev69 N R) := EnvOK.addLp (Ev68_ok N R) (by kernel_rfl) (lpK_ok (li := ref06_Of_L8_I) (G := fun X c => ref06_Of_L8 N X c.1.1 c.1.2.1 c.2.1 c.2.2.1 c.2.2.2.1 c.2.2.2.2.1) hmx (Ev68_ok N _) (by kernel_rfl) loopAt_sub (fun (X : CT ref06_Of_L8_I.sh → Option (OT ref06_Of_L8_I.outs)) (c : CT ref06_Of_L8_I.sh) => ref06_Of_L8_S N X c.1.1 c.1.2.1 c.2.1 c.2.2.1 c.2.2.2.1 c.2.2.2.2.1) N)
noncomputable def Ev70 (N : Nat) : (R : Type) → Env R := Env.addBx (Ev69 N) [(102, 0)]
theorem Ev70_ok (N : Nat) (R : Type) : EnvOK Go.Proofs.Try.prog (Ev70 N R) := EnvOK.addBx (Ev69_ok N R) [(102, 0)]
noncomputable def ref06_turn (N : Nat) (x0 : Int) (n1 : Int) : Option (Int) :=
 bif (decide ((0 : Int) ≤ n1)) then
  bif (decide ((0 : Int) ≤ (Go.IntKind.wrap .i64 ((32 : Int) - n1)))) then
   some ((@Go.bits @Go.BinOp.or @Go.IntKind.u32 (@Int.fdiv x0 (@HPow.hPow Int Nat Int (@instHPow Int Nat (@instPowNat Int @Int.instNatPow)) (2 : Int) (@Min.min Nat @instMinNat (Int.toNat n1) (@Go.IntKind.bits @Go.IntKind.u32)))) (Go.IntKind.wrap .u32 (x0 * (@HPow.hPow Int Nat Int (@instHPow Int Nat (@instPowNat Int @Int.instNatPow)) (2 : Int) (@Min.min Nat @instMinNat (Int.toNat (Go.IntKind.wrap .i64 ((32 : Int) - n1))) (@Go.IntKind.bits @Go.IntKind.u32)))))))
  else
   none
 else
  none
theorem ref06_turn_S (N : Nat) (x0 : Int) (n1 : Int) : (runK Go.Proofs.Try.prog (Ev70 N) 400 122 [(.int .u32), (.int .i64)] [(.int .u32)] (x0, n1, ())).run = ref06_turn N x0 n1 := by kernel_rfl
noncomputable def Ev71 (N : Nat) : (R : Type) → Env R := Env.addFn (Ev70 N) 122 (fun R => fnK [(.int .u32), (.int .i64)] [(.int .u32)] (fun c => ref06_turn N c.1 c.2.1))
theorem Ev71_ok (N : Nat) (R : Type) : EnvOK Go.Proofs.Try.prog (Ev71 N R) := EnvOK.addFn hmx (Ev70_ok N R) (Ev70_ok N _) (by kernel_rfl) (fun c => ref06_turn_S N c.1 c.2.1)
noncomputable def ref06_small (N : Nat) (x0 : Int) (p1 : Int) (q2 : Int) (r3 : Int) : Option (Int) :=
 Option.bind (@ref06_turn N x0 p1) fun (v5 : Int) =>
 Option.bind (@ref06_turn N x0 q2) fun (v6 : Int) =>
 bif (decide ((0 : Int) ≤ r3)) then
  some ((@Go.bits @Go.BinOp.xor @Go.IntKind.u32 (@Go.bits @Go.BinOp.xor @Go.IntKind.u32 v5 v6) (@Int.fdiv x0 (@HPow.hPow Int Nat Int (@instHPow Int Nat (@instPowNat Int @Int.instNatPow)) (2 : Int) (@Min.min Nat @instMinNat (Int.toNat r3) (@Go.IntKind.bits @Go.IntKind.u32))))))
 else
  none
theorem ref06_small_S (N : Nat) (x0 : Int) (p1 : Int) (q2 : Int) (r3 : Int) : (runK Go.Proofs.Try.prog (Ev71 N) 400 112 [(.int .u32), (.int .i64), (.int .i64), (.int .i64)] [(.int .u32)] (x0, p1, q2, r3, ())).run = ref06_small N x0 p1 q2 r3 := by kernel_rfl
noncomputable def Ev72 (N : Nat) : (R : Type) → Env R := Env.addFn (Ev71 N) 112 (fun R => fnK [(.int .u32), (.int .i64), (.int .i64), (.int .i64)] [(.int .u32)] (fun c => ref06_small N c.1 c.2.1 c.2.2.1 c.2.2.2.1))
theorem Ev72_ok (N : Nat) (R : Type) : EnvOK Go.Proofs.Try.prog (Ev72 N R) := EnvOK.addFn hmx (Ev71_ok N R) (Ev71_ok N _) (by kernel_rfl) (fun c => ref06_small_S N c.1 c.2.1 c.2.2.1 c.2.2.2.1)
noncomputable def ref06_Block_L3_I : LI := ⟨161, 0, [], ⟨[(2, .adr (.arr 8 (.int .u32))), (3, .adr (.arr 64 (.int .u8))), (4, .lit (.box 0 0)), (5, .lit (.box 1 0)), (6, .ty (.int .i64))], [.box 125 (.arr 8 (.int .u32)), .box 128 (.arr 64 (.int .u32))]⟩, [(.exit 0, ⟨[(2, .adr (.arr 8 (.int .u32))), (4, .lit (.box 0 0)), (5, .lit (.box 1 0))], [.box 125 (.arr 8 (.int .u32)), .box 128 (.arr 64 (.int .u32))]⟩)]⟩
noncomputable def ref06_Block_L3 (N : Nat) (X : (((Arr (Int) 8) × ((Arr (Int) 64) × ((Int) × Unit))) × ((Arr (Int) 8) × ((Arr (Int) 64) × Unit))) → Option ((((Arr (Int) 8) × Unit) × ((Arr (Int) 8) × ((Arr (Int) 64) × Unit))))) (s2 : Arr (Int) 8) (block3 : Arr (Int) 64) (i6 : Int) (h0 : Arr (Int) 8) (h1 : Arr (Int) 64) : Option ((((Arr (Int) 8) × Unit) × ((Arr (Int) 8) × ((Arr (Int) 64) × Unit)))) :=
 bif (decide (i6 < (64 : Int))) then
  bif (decide (i6 < (16 : Int))) then
   Option.bind (getI block3.l (Go.IntKind.wrap .i64 ((4 : Int) * i6))) fun (v7 : Int) =>
   Option.bind (getI block3.l (Go.IntKind.wrap .i64 ((Go.IntKind.wrap .i64 ((4 : Int) * i6)) + (1 : Int)))) fun (v8 : Int) =>
   Option.bind (getI block3.l (Go.IntKind.wrap .i64 ((Go.IntKind.wrap .i64 ((4 : Int) * i6)) + (2 : Int)))) fun (v9 : Int) =>
   Option.bind (getI block3.l (Go.IntKind.wrap .i64 ((Go.IntKind.wrap .i64 ((4 : Int) * i6)) + (3 : Int)))) fun (v10 : Int) =>
   bif (decide ((0 : Int) ≤ i6 ∧ i6 < (((64 : Nat) : Nat) : Int))) then
    Option.bind (@GetElem?.getElem? (List Int) Nat Int (fun (as11 : (List Int)) => (fun (i12 : Nat) => (@LT.lt Nat @instLTNat i12 (List.length as11)))) (@List.instGetElem?NatLtLength Int) h1.l (Int.toNat i6)) fun (v11 : Int) =>
    (X ((s2, (block3, ((Go.IntKind.wrap .i64 (i6 + (1 : Int))), @Unit.unit))), (h0, ((h1.set (Int.toNat i6) (Go.IntKind.wrap .u32 ((Go.IntKind.wrap .u32 ((Go.IntKind.wrap .u32 ((Go.IntKind.wrap .u32 ((Go.IntKind.wrap .u32 v7) * (16777216 : Int))) + (Go.IntKind.wrap .u32 ((Go.IntKind.wrap .u32 v8) * (65536 : Int))))) + (Go.IntKind.wrap .u32 ((Go.IntKind.wrap .u32 v9) * (256 : Int))))) + (Go.IntKind.wrap .u32 v10)))), @Unit.unit))))
   else
    none
  else
   bif (decide ((0 : Int) ≤ (Go.IntKind.wrap .i64 (i6 - (16 : Int))) ∧ (Go.IntKind.wrap .i64 (i6 - (16 : Int))) < (((64 : Nat) : Nat) : Int))) then
    Option.bind (@GetElem?.getElem? (List Int) Nat Int (fun (as7 : (List Int)) => (fun (i8 : Nat) => (@LT.lt Nat @instLTNat i8 (List.length as7)))) (@List.instGetElem?NatLtLength Int) h1.l (Int.toNat (Go.IntKind.wrap .i64 (i6 - (16 : Int))))) fun (v7 : Int) =>
    bif (decide ((0 : Int) ≤ (Go.IntKind.wrap .i64 (i6 - (7 : Int))) ∧ (Go.IntKind.wrap .i64 (i6 - (7 : Int))) < (((64 : Nat) : Nat) : Int))) then
     Option.bind (@GetElem?.getElem? (List Int) Nat Int (fun (as8 : (List Int)) => (fun (i9 : Nat) => (@LT.lt Nat @instLTNat i9 (List.length as8)))) (@List.instGetElem?NatLtLength Int) h1.l (Int.toNat (Go.IntKind.wrap .i64 (i6 - (7 : Int))))) fun (v8 : Int) =>
     bif (decide ((0 : Int) ≤ (Go.IntKind.wrap .i64 (i6 - (15 : Int))) ∧ (Go.IntKind.wrap .i64 (i6 - (15 : Int))) < (((64 : Nat) : Nat) : Int))) then
      Option.bind (@GetElem?.getElem? (List Int) Nat Int (fun (as9 : (List Int)) => (fun (i10 : Nat) => (@LT.lt Nat @instLTNat i10 (List.length as9)))) (@List.instGetElem?NatLtLength Int) h1.l (Int.toNat (Go.IntKind.wrap .i64 (i6 - (15 : Int))))) fun (v9 : Int) =>
      bif (decide ((0 : Int) ≤ (Go.IntKind.wrap .i64 (i6 - (2 : Int))) ∧ (Go.IntKind.wrap .i64 (i6 - (2 : Int))) < (((64 : Nat) : Nat) : Int))) then
       Option.bind (@GetElem?.getElem? (List Int) Nat Int (fun (as10 : (List Int)) => (fun (i11 : Nat) => (@LT.lt Nat @instLTNat i11 (List.length as10)))) (@List.instGetElem?NatLtLength Int) h1.l (Int.toNat (Go.IntKind.wrap .i64 (i6 - (2 : Int))))) fun (v10 : Int) =>
       bif (decide ((0 : Int) ≤ i6 ∧ i6 < (((64 : Nat) : Nat) : Int))) then
        Option.bind (@GetElem?.getElem? (List Int) Nat Int (fun (as11 : (List Int)) => (fun (i12 : Nat) => (@LT.lt Nat @instLTNat i12 (List.length as11)))) (@List.instGetElem?NatLtLength Int) h1.l (Int.toNat i6)) fun (v11 : Int) =>
        (X ((s2, (block3, ((Go.IntKind.wrap .i64 (i6 + (1 : Int))), @Unit.unit))), (h0, ((h1.set (Int.toNat i6) (Go.IntKind.wrap .u32 ((Go.IntKind.wrap .u32 ((Go.IntKind.wrap .u32 (v7 + v8)) + (@Go.bits @Go.BinOp.xor @Go.IntKind.u32 (@Go.bits @Go.BinOp.xor @Go.IntKind.u32 (@Go.bits @Go.BinOp.or @Go.IntKind.u32 (@Int.fdiv v9 (@HPow.hPow Int Nat Int (@instHPow Int Nat (@instPowNat Int @Int.instNatPow)) (2 : Int) (@Min.min Nat @instMinNat (Int.toNat (7 : Int)) (@Go.IntKind.bits @Go.IntKind.u32)))) (Go.IntKind.wrap .u32 (v9 * (@HPow.hPow Int Nat Int (@instHPow Int Nat (@instPowNat Int @Int.instNatPow)) (2 : Int) (@Min.min Nat @instMinNat (Int.toNat (Go.IntKind.wrap .i64 ((32 : Int) - (7 : Int)))) (@Go.IntKind.bits @Go.IntKind.u32)))))) (@Go.bits @Go.BinOp.or @Go.IntKind.u32 (@Int.fdiv v9 (@HPow.hPow Int Nat Int (@instHPow Int Nat (@instPowNat Int @Int.instNatPow)) (2 : Int) (@Min.min Nat @instMinNat (Int.toNat (18 : Int)) (@Go.IntKind.bits @Go.IntKind.u32)))) (Go.IntKind.wrap .u32 (v9 * (@HPow.hPow Int Nat Int (@instHPow Int Nat (@instPowNat Int @Int.instNatPow)) (2 : Int) (@Min.min Nat @instMinNat (Int.toNat (Go.IntKind.wrap .i64 ((32 : Int) - (18 : Int)))) (@Go.IntKind.bits @Go.IntKind.u32))))))) (@Int.fdiv v9 (@HPow.hPow Int Nat Int (@instHPow Int Nat (@instPowNat Int @Int.instNatPow)) (2 : Int) (@Min.min Nat @instMinNat (Int.toNat (3 : Int)) (@Go.IntKind.bits @Go.IntKind.u32))))))) + (@Go.bits @Go.BinOp.xor @Go.IntKind.u32 (@Go.bits @Go.BinOp.xor @Go.IntKind.u32 (@Go.bits @Go.BinOp.or @Go.IntKind.u32 (@Int.fdiv v10 (@HPow.hPow Int Nat Int (@instHPow Int Nat (@instPowNat Int @Int.instNatPow)) (2 : Int) (@Min.min Nat @instMinNat (Int.toNat (17 : Int)) (@Go.IntKind.bits @Go.IntKind.u32)))) (Go.IntKind.wrap .u32 (v10 * (@HPow.hPow Int Nat Int (@instHPow Int Nat (@instPowNat Int @Int.instNatPow)) (2 : Int) (@Min.min Nat @instMinNat (Int.toNat (Go.IntKind.wrap .i64 ((32 : Int) - (17 : Int)))) (@Go.IntKind.bits @Go.IntKind.u32)))))) (@Go.bits @Go.BinOp.or @Go.IntKind.u32 (@Int.fdiv v10 (@HPow.hPow Int Nat Int (@instHPow Int Nat (@instPowNat Int @Int.instNatPow)) (2 : Int) (@Min.min Nat @instMinNat (Int.toNat (19 : Int)) (@Go.IntKind.bits @Go.IntKind.u32)))) (Go.IntKind.wrap .u32 (v10 * (@HPow.hPow Int Nat Int (@instHPow Int Nat (@instPowNat Int @Int.instNatPow)) (2 : Int) (@Min.min Nat @instMinNat (Int.toNat (Go.IntKind.wrap .i64 ((32 : Int) - (19 : Int)))) (@Go.IntKind.bits @Go.IntKind.u32))))))) (@Int.fdiv v10 (@HPow.hPow Int Nat Int (@instHPow Int Nat (@instPowNat Int @Int.instNatPow)) (2 : Int) (@Min.min Nat @instMinNat (Int.toNat (10 : Int)) (@Go.IntKind.bits @Go.IntKind.u32)))))))), @Unit.unit))))
       else
        none
      else
       none
     else
      none
    else
     none
   else
    none
 else
  some (((s2, @Unit.unit), (h0, (h1, @Unit.unit))))
noncomputable def ref06_Block_L3_R (N : Nat) (c : (((Arr (Int) 8) × ((Arr (Int) 64) × ((Int) × Unit))) × ((Arr (Int) 8) × ((Arr (Int) 64) × Unit)))) : Option ((((Arr (Int) 8) × Unit) × ((Arr (Int) 8) × ((Arr (Int) 64) × Unit)))) := gl (fun X c => ref06_Block_L3 N X c.1.1 c.1.2.1 c.1.2.2.1 c.2.1 c.2.2.1) N c
theorem ref06_Block_L3_S (N : Nat) (X : (((Arr (Int) 8) × ((Arr (Int) 64) × ((Int) × Unit))) × ((Arr (Int) 8) × ((Arr (Int) 64) × Unit))) → Option ((((Arr (Int) 8) × Unit) × ((Arr (Int) 8) × ((Arr (Int) 64) × Unit))))) (s2 : Arr (Int) 8) (block3 : Arr (Int) 64) (i6 : Int) (h0 : Arr (Int) 8) (h1 : Arr (Int) 64) : (roundK Go.Proofs.Try.prog (Ev72 N) 400 [102] ref06_Block_L3_I (loopAt Go.Proofs.Try.prog [102] 3) X ((s2, block3, i6, ()), (h0, h1, ()))).run = ref06_Block_L3 N X s2 block3 i6 h0 h1 := by kernel_rfl
noncomputable def Ev73 (N : Nat) : (R : Type) → Env R := Env.addLp (Ev72 N) [102] 0 3 (fun R => lpK Go.Proofs.Try.prog ref06_Block_L3_I (fun X c => ref06_Block_L3 N X c.1.1 c.1.2.1 c.1.2.2.1 c.2.1 c.2.2.1) N)
theorem Ev73_ok (N : Nat) (R : Type) : EnvOK Go.Proofs.Try.prog (Ev73 N R) := EnvOK.addLp (Ev72_ok N R) (by kernel_rfl) (lpK_ok (li := ref06_Block_L3_I) (G := fun X c => ref06_Block_L3 N X c.1.1 c.1.2.1 c.1.2.2.1 c.2.1 c.2.2.1) hmx (Ev72_ok N _) (by kernel_rfl) loopAt_sub (fun (X : CT ref06_Block_L3_I.sh → Option (OT ref06_Block_L3_I.outs)) (c : CT ref06_Block_L3_I.sh) => ref06_Block_L3_S N X c.1.1 c.1.2.1 c.1.2.2.1 c.2.1 c.2.2.1) N)
noncomputable def ref06_constants (N : Nat) : Option (List (Int)) :=
 some (([(1116352408 : Int), (1899447441 : Int), (3049323471 : Int), (3921009573 : Int), (961987163 : Int), (1508970993 : Int), (2453635748 : Int), (2870763221 : Int), (3624381080 : Int), (310598401 : Int), (607225278 : Int), (1426881987 : Int), (1925078388 : Int), (2162078206 : Int), (2614888103 : Int), (3248222580 : Int), (3835390401 : Int), (4022224774 : Int), (264347078 : Int), (604807628 : Int), (770255983 : Int), (1249150122 : Int), (1555081692 : Int), (1996064986 : Int), (2554220882 : Int), (2821834349 : Int), (2952996808 : Int), (3210313671 : Int), (3336571891 : Int), (3584528711 : Int), (113926993 : Int), (338241895 : Int), (666307205 : Int), (773529912 : Int), (1294757372 : Int), (1396182291 : Int), (1695183700 : Int), (1986661051 : Int), (2177026350 : Int), (2456956037 : Int), (2730485921 : Int), (2820302411 : Int), (3259730800 : Int), (3345764771 : Int), (3516065817 : Int), (3600352804 : Int), (4094571909 : Int), (275423344 : Int), (430227734 : Int), (506948616 : Int), (659060556 : Int), (883997877 : Int), (958139571 : Int), (1322822218 : Int), (1537002063 : Int), (1747873779 : Int), (1955562222 : Int), (2024104815 : Int), (2227730452 : Int), (2361852424 : Int), (2428436474 : Int), (2756734187 : Int), (3204031479 : Int), (3329325298 : Int)] : List (Int)))
theorem ref06_constants_S (N : Nat) : (runK Go.Proofs.Try.prog (Ev73 N) 400 113 [] [(.sl (.int .u32))] ()).run = ref06_constants N  := by kernel_rfl
noncomputable def Ev74 (N : Nat) : (R : Type) → Env R := Env.addFn (Ev73 N) 113 (fun R => fnK [] [(.sl (.int .u32))] (fun c => ref06_constants N ))
theorem Ev74_ok (N : Nat) (R : Type) : EnvOK Go.Proofs.Try.prog (Ev74 N R) := EnvOK.addFn hmx (Ev73_ok N R) (Ev73_ok N _) (by kernel_rfl) (fun c => ref06_constants_S N )
noncomputable def ref06_great (N : Nat) (x0 : Int) (p1 : Int) (q2 : Int) (r3 : Int) : Option (Int) :=
 Option.bind (@ref06_turn N x0 p1) fun (v5 : Int) =>
 Option.bind (@ref06_turn N x0 q2) fun (v6 : Int) =>
 Option.bind (@ref06_turn N x0 r3) fun (v7 : Int) =>
 some ((@Go.bits @Go.BinOp.xor @Go.IntKind.u32 (@Go.bits @Go.BinOp.xor @Go.IntKind.u32 v5 v6) v7))
theorem ref06_great_S (N : Nat) (x0 : Int) (p1 : Int) (q2 : Int) (r3 : Int) : (runK Go.Proofs.Try.prog (Ev74 N) 400 114 [(.int .u32), (.int .i64), (.int .i64), (.int .i64)] [(.int .u32)] (x0, p1, q2, r3, ())).run = ref06_great N x0 p1 q2 r3 := by kernel_rfl
noncomputable def Ev75 (N : Nat) : (R : Type) → Env R := Env.addFn (Ev74 N) 114 (fun R => fnK [(.int .u32), (.int .i64), (.int .i64), (.int .i64)] [(.int .u32)] (fun c => ref06_great N c.1 c.2.1 c.2.2.1 c.2.2.2.1))
theorem Ev75_ok (N : Nat) (R : Type) : EnvOK Go.Proofs.Try.prog (Ev75 N R) := EnvOK.addFn hmx (Ev74_ok N R) (Ev74_ok N _) (by kernel_rfl) (fun c => ref06_great_S N c.1 c.2.1 c.2.2.1 c.2.2.2.1)
noncomputable def ref06_Block_L11_I : LI := ⟨161, 0, [], ⟨[(2, .adr (.arr 8 (.int .u32))), (4, .lit (.box 0 0)), (5, .lit (.box 1 0)), (7, .ty (.sl (.int .u32))), (8, .lit (.box 2 0)), (9, .ty (.int .i64))], [.box 125 (.arr 8 (.int .u32)), .box 128 (.arr 64 (.int .u32)), .box 125 (.arr 8 (.int .u32))]⟩, [(.exit 2, ⟨[(2, .adr (.arr 8 (.int .u32))), (4, .lit (.box 0 0)), (8, .lit (.box 1 0))], [.box 125 (.arr 8 (.int .u32)), .box 125 (.arr 8 (.int .u32))]⟩)]⟩
noncomputable def ref06_Block_L11 (N : Nat) (X : (((Arr (Int) 8) × ((List (Int)) × ((Int) × Unit))) × ((Arr (Int) 8) × ((Arr (Int) 64) × ((Arr (Int) 8) × Unit)))) → Option ((((Arr (Int) 8) × Unit) × ((Arr (Int) 8) × ((Arr (Int) 8) × Unit))))) (s2 : Arr (Int) 8) (k7 : List (Int)) (i9 : Int) (h0 : Arr (Int) 8) (h1 : Arr (Int) 64) (h2 : Arr (Int) 8) : Option ((((Arr (Int) 8) × Unit) × ((Arr (Int) 8) × ((Arr (Int) 8) × Unit)))) :=
 bif (decide (i9 < (64 : Int))) then
  Option.bind (@GetElem?.getElem? (List Int) Nat Int (fun (as8 : (List Int)) => (fun (i9 : Nat) => (@LT.lt Nat @instLTNat i9 (List.length as8)))) (@List.instGetElem?NatLtLength Int) h2.l (Int.toNat (7 : Int))) fun (v8 : Int) =>
  Option.bind (@GetElem?.getElem? (List Int) Nat Int (fun (as9 : (List Int)) => (fun (i10 : Nat) => (@LT.lt Nat @instLTNat i10 (List.length as9)))) (@List.instGetElem?NatLtLength Int) h2.l (Int.toNat (4 : Int))) fun (v9 : Int) =>
  Option.bind (@GetElem?.getElem? (List Int) Nat Int (fun (as10 : (List Int)) => (fun (i11 : Nat) => (@LT.lt Nat @instLTNat i11 (List.length as10)))) (@List.instGetElem?NatLtLength Int) h2.l (Int.toNat (4 : Int))) fun (v10 : Int) =>
  Option.bind (@GetElem?.getElem? (List Int) Nat Int (fun (as11 : (List Int)) => (fun (i12 : Nat) => (@LT.lt Nat @instLTNat i12 (List.length as11)))) (@List.instGetElem?NatLtLength Int) h2.l (Int.toNat (5 : Int))) fun (v11 : Int) =>
  Option.bind (@GetElem?.getElem? (List Int) Nat Int (fun (as12 : (List Int)) => (fun (i13 : Nat) => (@LT.lt Nat @instLTNat i13 (List.length as12)))) (@List.instGetElem?NatLtLength Int) h2.l (Int.toNat (4 : Int))) fun (v12 : Int) =>
  Option.bind (@GetElem?.getElem? (List Int) Nat Int (fun (as13 : (List Int)) => (fun (i14 : Nat) => (@LT.lt Nat @instLTNat i14 (List.length as13)))) (@List.instGetElem?NatLtLength Int) h2.l (Int.toNat (6 : Int))) fun (v13 : Int) =>
  Option.bind (getI k7 i9) fun (v14 : Int) =>
  bif (decide ((0 : Int) ≤ i9 ∧ i9 < (((64 : Nat) : Nat) : Int))) then
   Option.bind (@GetElem?.getElem? (List Int) Nat Int (fun (as15 : (List Int)) => (fun (i16 : Nat) => (@LT.lt Nat @instLTNat i16 (List.length as15)))) (@List.instGetElem?NatLtLength Int) h1.l (Int.toNat i9)) fun (v15 : Int) =>
   Option.bind (@GetElem?.getElem? (List Int) Nat Int (fun (as16 : (List Int)) => (fun (i17 : Nat) => (@LT.lt Nat @instLTNat i17 (List.length as16)))) (@List.instGetElem?NatLtLength Int) h2.l (Int.toNat (0 : Int))) fun (v16 : Int) =>
   Option.bind (@GetElem?.getElem? (List Int) Nat Int (fun (as17 : (List Int)) => (fun (i18 : Nat) => (@LT.lt Nat @instLTNat i18 (List.length as17)))) (@List.instGetElem?NatLtLength Int) h2.l (Int.toNat (0 : Int))) fun (v17 : Int) =>
   Option.bind (@GetElem?.getElem? (List Int) Nat Int (fun (as18 : (List Int)) => (fun (i19 : Nat) => (@LT.lt Nat @instLTNat i19 (List.length as18)))) (@List.instGetElem?NatLtLength Int) h2.l (Int.toNat (1 : Int))) fun (v18 : Int) =>
   Option.bind (@GetElem?.getElem? (List Int) Nat Int (fun (as19 : (List Int)) => (fun (i20 : Nat) => (@LT.lt Nat @instLTNat i20 (List.length as19)))) (@List.instGetElem?NatLtLength Int) h2.l (Int.toNat (0 : Int))) fun (v19 : Int) =>
   Option.bind (@GetElem?.getElem? (List Int) Nat Int (fun (as20 : (List Int)) => (fun (i21 : Nat) => (@LT.lt Nat @instLTNat i21 (List.length as20)))) (@List.instGetElem?NatLtLength Int) h2.l (Int.toNat (2 : Int))) fun (v20 : Int) =>
   Option.bind (@GetElem?.getElem? (List Int) Nat Int (fun (as21 : (List Int)) => (fun (i22 : Nat) => (@LT.lt Nat @instLTNat i22 (List.length as21)))) (@List.instGetElem?NatLtLength Int) h2.l (Int.toNat (1 : Int))) fun (v21 : Int) =>
   Option.bind (@GetElem?.getElem? (List Int) Nat Int (fun (as22 : (List Int)) => (fun (i23 : Nat) => (@LT.lt Nat @instLTNat i23 (List.length as22)))) (@List.instGetElem?NatLtLength Int) h2.l (Int.toNat (2 : Int))) fun (v22 : Int) =>
   Option.bind (@GetElem?.getElem? (List Int) Nat Int (fun (as23 : (List Int)) => (fun (i24 : Nat) => (@LT.lt Nat @instLTNat i24 (List.length as23)))) (@List.instGetElem?NatLtLength Int) h2.l (Int.toNat (0 : Int))) fun (v23 : Int) =>
   Option.bind (@GetElem?.getElem? (List Int) Nat Int (fun (as24 : (List Int)) => (fun (i25 : Nat) => (@LT.lt Nat @instLTNat i25 (List.length as24)))) (@List.instGetElem?NatLtLength Int) h2.l (Int.toNat (1 : Int))) fun (v24 : Int) =>
   Option.bind (@GetElem?.getElem? (List Int) Nat Int (fun (as25 : (List Int)) => (fun (i26 : Nat) => (@LT.lt Nat @instLTNat i26 (List.length as25)))) (@List.instGetElem?NatLtLength Int) h2.l (Int.toNat (2 : Int))) fun (v25 : Int) =>
   Option.bind (@GetElem?.getElem? (List Int) Nat Int (fun (as26 : (List Int)) => (fun (i27 : Nat) => (@LT.lt Nat @instLTNat i27 (List.length as26)))) (@List.instGetElem?NatLtLength Int) h2.l (Int.toNat (3 : Int))) fun (v26 : Int) =>
   Option.bind (@GetElem?.getElem? (List Int) Nat Int (fun (as27 : (List Int)) => (fun (i28 : Nat) => (@LT.lt Nat @instLTNat i28 (List.length as27)))) (@List.instGetElem?NatLtLength Int) h2.l (Int.toNat (4 : Int))) fun (v27 : Int) =>
   Option.bind (@GetElem?.getElem? (List Int) Nat Int (fun (as28 : (List Int)) => (fun (i29 : Nat) => (@LT.lt Nat @instLTNat i29 (List.length as28)))) (@List.instGetElem?NatLtLength Int) h2.l (Int.toNat (5 : Int))) fun (v28 : Int) =>
   Option.bind (@GetElem?.getElem? (List Int) Nat Int (fun (as29 : (List Int)) => (fun (i30 : Nat) => (@LT.lt Nat @instLTNat i30 (List.length as29)))) (@List.instGetElem?NatLtLength Int) h2.l (Int.toNat (6 : Int))) fun (v29 : Int) =>
   (X ((s2, (k7, ((Go.IntKind.wrap .i64 (i9 + (1 : Int))), @Unit.unit))), (h0, (h1, ((@Arr.cons Int (7 : Nat) (Go.IntKind.wrap .u32 ((Go.IntKind.wrap .u32 ((Go.IntKind.wrap .u32 ((Go.IntKind.wrap .u32 ((Go.IntKind.wrap .u32 (v8 + (@Go.bits @Go.BinOp.xor @Go.IntKind.u32 (@Go.bits @Go.BinOp.xor @Go.IntKind.u32 (@Go.bits @Go.BinOp.or @Go.IntKind.u32 (@Int.fdiv v9 (@HPow.hPow Int Nat Int (@instHPow Int Nat (@instPowNat Int @Int.instNatPow)) (2 : Int) (@Min.min Nat @instMinNat (Int.toNat (6 : Int)) (@Go.IntKind.bits @Go.IntKind.u32)))) (Go.IntKind.wrap .u32 (v9 * (@HPow.hPow Int Nat Int (@instHPow Int Nat (@instPowNat Int @Int.instNatPow)) (2 : Int) (@Min.min Nat @instMinNat (Int.toNat (Go.IntKind.wrap .i64 ((32 : Int) - (6 : Int)))) (@Go.IntKind.bits @Go.IntKind.u32)))))) (@Go.bits @Go.BinOp.or @Go.IntKind.u32 (@Int.fdiv v9 (@HPow.hPow Int Nat Int (@instHPow Int Nat (@instPowNat Int @Int.instNatPow)) (2 : Int) (@Min.min Nat @instMinNat (Int.toNat (11 : Int)) (@Go.IntKind.bits @Go.IntKind.u32)))) (Go.IntKind.wrap .u32 (v9 * (@HPow.hPow Int Nat Int (@instHPow Int Nat (@instPowNat Int @Int.instNatPow)) (2 : Int) (@Min.min Nat @instMinNat (Int.toNat (Go.IntKind.wrap .i64 ((32 : Int) - (11 : Int)))) (@Go.IntKind.bits @Go.IntKind.u32))))))) (@Go.bits @Go.BinOp.or @Go.IntKind.u32 (@Int.fdiv v9 (@HPow.hPow Int Nat Int (@instHPow Int Nat (@instPowNat Int @Int.instNatPow)) (2 : Int) (@Min.min Nat @instMinNat (Int.toNat (25 : Int)) (@Go.IntKind.bits @Go.IntKind.u32)))) (Go.IntKind.wrap .u32 (v9 * (@HPow.hPow Int Nat Int (@instHPow Int Nat (@instPowNat Int @Int.instNatPow)) (2 : Int) (@Min.min Nat @instMinNat (Int.toNat (Go.IntKind.wrap .i64 ((32 : Int) - (25 : Int)))) (@Go.IntKind.bits @Go.IntKind.u32))))))))) + (@Go.bits @Go.BinOp.or @Go.IntKind.u32 (@Go.bits @Go.BinOp.and @Go.IntKind.u32 v10 v11) (@Go.bits @Go.BinOp.and @Go.IntKind.u32 (Go.IntKind.wrap .u32 ((4294967295 : Int) - v12)) v13)))) + v14)) + v15)) + (Go.IntKind.wrap .u32 ((@Go.bits @Go.BinOp.xor @Go.IntKind.u32 (@Go.bits @Go.BinOp.xor @Go.IntKind.u32 (@Go.bits @Go.BinOp.or @Go.IntKind.u32 (@Int.fdiv v16 (@HPow.hPow Int Nat Int (@instHPow Int Nat (@instPowNat Int @Int.instNatPow)) (2 : Int) (@Min.min Nat @instMinNat (Int.toNat (2 : Int)) (@Go.IntKind.bits @Go.IntKind.u32)))) (Go.IntKind.wrap .u32 (v16 * (@HPow.hPow Int Nat Int (@instHPow Int Nat (@instPowNat Int @Int.instNatPow)) (2 : Int) (@Min.min Nat @instMinNat (Int.toNat (Go.IntKind.wrap .i64 ((32 : Int) - (2 : Int)))) (@Go.IntKind.bits @Go.IntKind.u32)))))) (@Go.bits @Go.BinOp.or @Go.IntKind.u32 (@Int.fdiv v16 (@HPow.hPow Int Nat Int (@instHPow Int Nat (@instPowNat Int @Int.instNatPow)) (2 : Int) (@Min.min Nat @instMinNat (Int.toNat (13 : Int)) (@Go.IntKind.bits @Go.IntKind.u32)))) (Go.IntKind.wrap .u32 (v16 * (@HPow.hPow Int Nat Int (@instHPow Int Nat (@instPowNat Int @Int.instNatPow)) (2 : Int) (@Min.min Nat @instMinNat (Int.toNat (Go.IntKind.wrap .i64 ((32 : Int) - (13 : Int)))) (@Go.IntKind.bits @Go.IntKind.u32))))))) (@Go.bits @Go.BinOp.or @Go.IntKind.u32 (@Int.fdiv v16 (@HPow.hPow Int Nat Int (@instHPow Int Nat (@instPowNat Int @Int.instNatPow)) (2 : Int) (@Min.min Nat @instMinNat (Int.toNat (22 : Int)) (@Go.IntKind.bits @Go.IntKind.u32)))) (Go.IntKind.wrap .u32 (v16 * (@HPow.hPow Int Nat Int (@instHPow Int Nat (@instPowNat Int @Int.instNatPow)) (2 : Int) (@Min.min Nat @instMinNat (Int.toNat (Go.IntKind.wrap .i64 ((32 : Int) - (22 : Int)))) (@Go.IntKind.bits @Go.IntKind.u32))))))) + (@Go.bits @Go.BinOp.or @Go.IntKind.u32 (@Go.bits @Go.BinOp.or @Go.IntKind.u32 (@Go.bits @Go.BinOp.and @Go.IntKind.u32 v17 v18) (@Go.bits @Go.BinOp.and @Go.IntKind.u32 v19 v20)) (@Go.bits @Go.BinOp.and @Go.IntKind.u32 v21 v22)))))) (@Arr.cons Int (6 : Nat) v23 (@Arr.cons Int (5 : Nat) v24 (@Arr.cons Int (4 : Nat) v25 (@Arr.cons Int (3 : Nat) (Go.IntKind.wrap .u32 (v26 + (Go.IntKind.wrap .u32 ((Go.IntKind.wrap .u32 ((Go.IntKind.wrap .u32 ((Go.IntKind.wrap .u32 (v8 + (@Go.bits @Go.BinOp.xor @Go.IntKind.u32 (@Go.bits @Go.BinOp.xor @Go.IntKind.u32 (@Go.bits @Go.BinOp.or @Go.IntKind.u32 (@Int.fdiv v9 (@HPow.hPow Int Nat Int (@instHPow Int Nat (@instPowNat Int @Int.instNatPow)) (2 : Int) (@Min.min Nat @instMinNat (Int.toNat (6 : Int)) (@Go.IntKind.bits @Go.IntKind.u32)))) (Go.IntKind.wrap .u32 (v9 * (@HPow.hPow Int Nat Int (@instHPow Int Nat (@instPowNat Int @Int.instNatPow)) (2 : Int) (@Min.min Nat @instMinNat (Int.toNat (Go.IntKind.wrap .i64 ((32 : Int) - (6 : Int)))) (@Go.IntKind.bits @Go.IntKind.u32)))))) (@Go.bits @Go.BinOp.or @Go.IntKind.u32 (@Int.fdiv v9 (@HPow.hPow Int Nat Int (@instHPow Int Nat (@instPowNat Int @Int.instNatPow)) (2 : Int) (@Min.min Nat @instMinNat (Int.toNat (11 : Int)) (@Go.IntKind.bits @Go.IntKind.u32)))) (Go.IntKind.wrap .u32 (v9 * (@HPow.hPow Int Nat Int (@instHPow Int Nat (@instPowNat Int @Int.instNatPow)) (2 : Int) (@Min.min Nat @instMinNat (Int.toNat (Go.IntKind.wrap .i64 ((32 : Int) - (11 : Int)))) (@Go.IntKind.bits @Go.IntKind.u32))))))) (@Go.bits @Go.BinOp.or @Go.IntKind.u32 (@Int.fdiv v9 (@HPow.hPow Int Nat Int (@instHPow Int Nat (@instPowNat Int @Int.instNatPow)) (2 : Int) (@Min.min Nat @instMinNat (Int.toNat (25 : Int)) (@Go.IntKind.bits @Go.IntKind.u32)))) (Go.IntKind.wrap .u32 (v9 * (@HPow.hPow Int Nat Int (@instHPow Int Nat (@instPowNat Int @Int.instNatPow)) (2 : Int) (@Min.min Nat @instMinNat (Int.toNat (Go.IntKind.wrap .i64 ((32 : Int) - (25 : Int)))) (@Go.IntKind.bits @Go.IntKind.u32))))))))) + (@Go.bits @Go.BinOp.or @Go.IntKind.u32 (@Go.bits @Go.BinOp.and @Go.IntKind.u32 v10 v11) (@Go.bits @Go.BinOp.and @Go.IntKind.u32 (Go.IntKind.wrap .u32 ((4294967295 : Int) - v12)) v13)))) + v14)) + v15)))) (@Arr.cons Int (2 : Nat) v27 (@Arr.cons Int (1 : Nat) v28 (@Arr.cons Int (0 : Nat) v29 (@Arr.nil Int))))))))), @Unit.unit)))))
  else
   none
 else
  some (((s2, @Unit.unit), (h0, (h2, @Unit.unit))))
noncomputable def ref06_Block_L11_R (N : Nat) (c : (((Arr (Int) 8) × ((List (Int)) × ((Int) × Unit))) × ((Arr (Int) 8) × ((Arr (Int) 64) × ((Arr (Int) 8) × Unit))))) : Option ((((Arr (Int) 8) × Unit) × ((Arr (Int) 8) × ((Arr (Int) 8) × Unit)))) := gl (fun X c => ref06_Block_L11 N X c.1.1 c.1.2.1 c.1.2.2.1 c.2.1 c.2.2.1 c.2.2.2.1) N c
theorem ref06_Block_L11_S (N : Nat) (X : (((Arr (Int) 8) × ((List (Int)) × ((Int) × Unit))) × ((Arr (Int) 8) × ((Arr (Int) 64) × ((Arr (Int) 8) × Unit)))) → Option ((((Arr (Int) 8) × Unit) × ((Arr (Int) 8) × ((Arr (Int) 8) × Unit))))) (s2 : Arr (Int) 8) (k7 : List (Int)) (i9 : Int) (h0 : Arr (Int) 8) (h1 : Arr (Int) 64) (h2 : Arr (Int) 8) : (roundK Go.Proofs.Try.prog (Ev75 N) 400 [102] ref06_Block_L11_I (loopAt Go.Proofs.Try.prog [102] 11) X ((s2, k7, i9, ()), (h0, h1, h2, ()))).run = ref06_Block_L11 N X s2 k7 i9 h0 h1 h2 := by kernel_rfl
noncomputable def Ev76 (N : Nat) : (R : Type) → Env R := Env.addLp (Ev75 N) [102] 0 11 (fun R => lpK Go.Proofs.Try.prog ref06_Block_L11_I (fun X c => ref06_Block_L11 N X c.1.1 c.1.2.1 c.1.2.2.1 c.2.1 c.2.2.1 c.2.2.2.1) N)
theorem Ev76_ok (N : Nat) (R : Type) : EnvOK Go.Proofs.Try.prog (Ev76 N R) := EnvOK.addLp (Ev75_ok N R) (by kernel_rfl) (lpK_ok (li := ref06_Block_L11_I) (G := fun X c => ref06_Block_L11 N X c.1.1 c.1.2.1 c.1.2.2.1 c.2.1 c.2.2.1 c.2.2.2.1) hmx (Ev75_ok N _) (by kernel_rfl) loopAt_sub (fun (X : CT ref06_Block_L11_I.sh → Option (OT ref06_Block_L11_I.outs)) (c : CT ref06_Block_L11_I.sh) => ref06_Block_L11_S N X c.1.1 c.1.2.1 c.1.2.2.1 c.2.1 c.2.2.1 c.2.2.2.1) N)
noncomputable def ref06_Block_L17_I : LI := ⟨161, 0, [], ⟨[(2, .adr (.arr 8 (.int .u32))), (4, .lit (.box 0 0)), (8, .lit (.box 1 0)), (12, .ty (.int .i64))], [.box 125 (.arr 8 (.int .u32)), .box 125 (.arr 8 (.int .u32))]⟩, [(.exit 4, ⟨[(4, .lit (.box 0 0)), (8, .lit (.box 1 0))], [.box 125 (.arr 8 (.int .u32)), .box 125 (.arr 8 (.int .u32))]⟩)]⟩
noncomputable def ref06_Block_L17 (N : Nat) (X : (((Arr (Int) 8) × ((Int) × Unit)) × ((Arr (Int) 8) × ((Arr (Int) 8) × Unit))) → Option ((Unit × ((Arr (Int) 8) × ((Arr (Int) 8) × Unit))))) (s2 : Arr (Int) 8) (i12 : Int) (h0 : Arr (Int) 8) (h1 : Arr (Int) 8) : Option ((Unit × ((Arr (Int) 8) × ((Arr (Int) 8) × Unit)))) :=
 bif (decide (i12 < (8 : Int))) then
  bif (decide ((0 : Int) ≤ i12 ∧ i12 < (((8 : Nat) : Nat) : Int))) then
   Option.bind (@GetElem?.getElem? (List Int) Nat Int (fun (as6 : (List Int)) => (fun (i7 : Nat) => (@LT.lt Nat @instLTNat i7 (List.length as6)))) (@List.instGetElem?NatLtLength Int) h1.l (Int.toNat i12)) fun (v6 : Int) =>
   Option.bind (getI s2.l i12) fun (v7 : Int) =>
   bif (decide ((0 : Int) ≤ i12 ∧ i12 < (((8 : Nat) : Nat) : Int))) then
    Option.bind (@GetElem?.getElem? (List Int) Nat Int (fun (as8 : (List Int)) => (fun (i9 : Nat) => (@LT.lt Nat @instLTNat i9 (List.length as8)))) (@List.instGetElem?NatLtLength Int) h1.l (Int.toNat i12)) fun (v8 : Int) =>
    (X ((s2, ((Go.IntKind.wrap .i64 (i12 + (1 : Int))), @Unit.unit)), (h0, ((h1.set (Int.toNat i12) (Go.IntKind.wrap .u32 (v6 + v7))), @Unit.unit))))
   else
    none
  else
   none
 else
  some ((@Unit.unit, (h0, (h1, @Unit.unit))))
noncomputable def ref06_Block_L17_R (N : Nat) (c : (((Arr (Int) 8) × ((Int) × Unit)) × ((Arr (Int) 8) × ((Arr (Int) 8) × Unit)))) : Option ((Unit × ((Arr (Int) 8) × ((Arr (Int) 8) × Unit)))) := gl (fun X c => ref06_Block_L17 N X c.1.1 c.1.2.1 c.2.1 c.2.2.1) N c
theorem ref06_Block_L17_S (N : Nat) (X : (((Arr (Int) 8) × ((Int) × Unit)) × ((Arr (Int) 8) × ((Arr (Int) 8) × Unit))) → Option ((Unit × ((Arr (Int) 8) × ((Arr (Int) 8) × Unit))))) (s2 : Arr (Int) 8) (i12 : Int) (h0 : Arr (Int) 8) (h1 : Arr (Int) 8) : (roundK Go.Proofs.Try.prog (Ev76 N) 400 [102] ref06_Block_L17_I (loopAt Go.Proofs.Try.prog [102] 17) X ((s2, i12, ()), (h0, h1, ()))).run = ref06_Block_L17 N X s2 i12 h0 h1 := by kernel_rfl
noncomputable def Ev77 (N : Nat) : (R : Type) → Env R := Env.addLp (Ev76 N) [102] 0 17 (fun R => lpK Go.Proofs.Try.prog ref06_Block_L17_I (fun X c => ref06_Block_L17 N X c.1.1 c.1.2.1 c.2.1 c.2.2.1) N)
theorem Ev77_ok (N : Nat) (R : Type) : EnvOK Go.Proofs.Try.prog (Ev77 N R) := EnvOK.addLp (Ev76_ok N R) (by kernel_rfl) (lpK_ok (li := ref06_Block_L17_I) (G := fun X c => ref06_Block_L17 N X c.1.1 c.1.2.1 c.2.1 c.2.2.1) hmx (Ev76_ok N _) (by kernel_rfl) loopAt_sub (fun (X : CT ref06_Block_L17_I.sh → Option (OT ref06_Block_L17_I.outs)) (c : CT ref06_Block_L17_I.sh) => ref06_Block_L17_S N X c.1.1 c.1.2.1 c.2.1 c.2.2.1) N)
noncomputable def ref06_Block (N : Nat) (s0 : Arr (Int) 8) (block1 : Arr (Int) 64) : Option (Arr (Int) 8) :=
 Option.bind (ref06_Block_L3_R N ((s0, (block1, ((0 : Int), @Unit.unit))), ((@Arr.cons Int (7 : Nat) (0 : Int) (@Arr.cons Int (6 : Nat) (0 : Int) (@Arr.cons Int (5 : Nat) (0 : Int) (@Arr.cons Int (4 : Nat) (0 : Int) (@Arr.cons Int (3 : Nat) (0 : Int) (@Arr.cons Int (2 : Nat) (0 : Int) (@Arr.cons Int (1 : Nat) (0 : Int) (@Arr.cons Int (0 : Nat) (0 : Int) (@Arr.nil Int))))))))), ((@Arr.cons Int (63 : Nat) (0 : Int) (@Arr.cons Int (62 : Nat) (0 : Int) (@Arr.cons Int (61 : Nat) (0 : Int) (@Arr.cons Int (60 : Nat) (0 : Int) (@Arr.cons Int (59 : Nat) (0 : Int) (@Arr.cons Int (58 : Nat) (0 : Int) (@Arr.cons Int (57 : Nat) (0 : Int) (@Arr.cons Int (56 : Nat) (0 : Int) (@Arr.cons Int (55 : Nat) (0 : Int) (@Arr.cons Int (54 : Nat) (0 : Int) (@Arr.cons Int (53 : Nat) (0 : Int) (@Arr.cons Int (52 : Nat) (0 : Int) (@Arr.cons Int (51 : Nat) (0 : Int) (@Arr.cons Int (50 : Nat) (0 : Int) (@Arr.cons Int (49 : Nat) (0 : Int) (@Arr.cons Int (48 : Nat) (0 : Int) (@Arr.cons Int (47 : Nat) (0 : Int) (@Arr.cons Int (46 : Nat) (0 : Int) (@Arr.cons Int (45 : Nat) (0 : Int) (@Arr.cons Int (44 : Nat) (0 : Int) (@Arr.cons Int (43 : Nat) (0 : Int) (@Arr.cons Int (42 : Nat) (0 : Int) (@Arr.cons Int (41 : Nat) (0 : Int) (@Arr.cons Int (40 : Nat) (0 : Int) (@Arr.cons Int (39 : Nat) (0 : Int) (@Arr.cons Int (38 : Nat) (0 : Int) (@Arr.cons Int (37 : Nat) (0 : Int) (@Arr.cons Int (36 : Nat) (0 : Int) (@Arr.cons Int (35 : Nat) (0 : Int) (@Arr.cons Int (34 : Nat) (0 : Int) (@Arr.cons Int (33 : Nat) (0 : Int) (@Arr.cons Int (32 : Nat) (0 : Int) (@Arr.cons Int (31 : Nat) (0 : Int) (@Arr.cons Int (30 : Nat) (0 : Int) (@Arr.cons Int (29 : Nat) (0 : Int) (@Arr.cons Int (28 : Nat) (0 : Int) (@Arr.cons Int (27 : Nat) (0 : Int) (@Arr.cons Int (26 : Nat) (0 : Int) (@Arr.cons Int (25 : Nat) (0 : Int) (@Arr.cons Int (24 : Nat) (0 : Int) (@Arr.cons Int (23 : Nat) (0 : Int) (@Arr.cons Int (22 : Nat) (0 : Int) (@Arr.cons Int (21 : Nat) (0 : Int) (@Arr.cons Int (20 : Nat) (0 : Int) (@Arr.cons Int (19 : Nat) (0 : Int) (@Arr.cons Int (18 : Nat) (0 : Int) (@Arr.cons Int (17 : Nat) (0 : Int) (@Arr.cons Int (16 : Nat) (0 : Int) (@Arr.cons Int (15 : Nat) (0 : Int) (@Arr.cons Int (14 : Nat) (0 : Int) (@Arr.cons Int (13 : Nat) (0 : Int) (@Arr.cons Int (12 : Nat) (0 : Int) (@Arr.cons Int (11 : Nat) (0 : Int) (@Arr.cons Int (10 : Nat) (0 : Int) (@Arr.cons Int (9 : Nat) (0 : Int) (@Arr.cons Int (8 : Nat) (0 : Int) (@Arr.cons Int (7 : Nat) (0 : Int) (@Arr.cons Int (6 : Nat) (0 : Int) (@Arr.cons Int (5 : Nat) (0 : Int) (@Arr.cons Int (4 : Nat) (0 : Int) (@Arr.cons Int (3 : Nat) (0 : Int) (@Arr.cons Int (2 : Nat) (0 : Int) (@Arr.cons Int (1 : Nat) (0 : Int) (@Arr.cons Int (0 : Nat) (0 : Int) (@Arr.nil Int))))))))))))))))))))))))))))))))))))))))))))))))))))))))))))))))), @Unit.unit)))) fun (v3 : (((Arr Int 8) × Unit) × ((Arr Int 8) × ((Arr Int 64) × Unit)))) =>
 Option.bind (ref06_Block_L11_R N ((v3.1.1, ((@List.cons Int (1116352408 : Int) (@List.cons Int (1899447441 : Int) (@List.cons Int (3049323471 : Int) (@List.cons Int (3921009573 : Int) (@List.cons Int (961987163 : Int) (@List.cons Int (1508970993 : Int) (@List.cons Int (2453635748 : Int) (@List.cons Int (2870763221 : Int) (@List.cons Int (3624381080 : Int) (@List.cons Int (310598401 : Int) (@List.cons Int (607225278 : Int) (@List.cons Int (1426881987 : Int) (@List.cons Int (1925078388 : Int) (@List.cons Int (2162078206 : Int) (@List.cons Int (2614888103 : Int) (@List.cons Int (3248222580 : Int) (@List.cons Int (3835390401 : Int) (@List.cons Int (4022224774 : Int) (@List.cons Int (264347078 : Int) (@List.cons Int (604807628 : Int) (@List.cons Int (770255983 : Int) (@List.cons Int (1249150122 : Int) (@List.cons Int (1555081692 : Int) (@List.cons Int (1996064986 : Int) (@List.cons Int (2554220882 : Int) (@List.cons Int (2821834349 : Int) (@List.cons Int (2952996808 : Int) (@List.cons Int (3210313671 : Int) (@List.cons Int (3336571891 : Int) (@List.cons Int (3584528711 : Int) (@List.cons Int (113926993 : Int) (@List.cons Int (338241895 : Int) (@List.cons Int (666307205 : Int) (@List.cons Int (773529912 : Int) (@List.cons Int (1294757372 : Int) (@List.cons Int (1396182291 : Int) (@List.cons Int (1695183700 : Int) (@List.cons Int (1986661051 : Int) (@List.cons Int (2177026350 : Int) (@List.cons Int (2456956037 : Int) (@List.cons Int (2730485921 : Int) (@List.cons Int (2820302411 : Int) (@List.cons Int (3259730800 : Int) (@List.cons Int (3345764771 : Int) (@List.cons Int (3516065817 : Int) (@List.cons Int (3600352804 : Int) (@List.cons Int (4094571909 : Int) (@List.cons Int (275423344 : Int) (@List.cons Int (430227734 : Int) (@List.cons Int (506948616 : Int) (@List.cons Int (659060556 : Int) (@List.cons Int (883997877 : Int) (@List.cons Int (958139571 : Int) (@List.cons Int (1322822218 : Int) (@List.cons Int (1537002063 : Int) (@List.cons Int (1747873779 : Int) ([(1955562222 : Int), (2024104815 : Int), (2227730452 : Int), (2361852424 : Int), (2428436474 : Int), (2756734187 : Int), (3204031479 : Int), (3329325298 : Int)] : List (Int)))))))))))))))))))))))))))))))))))))))))))))))))))))))))), ((0 : Int), @Unit.unit))), (v3.2.1, (v3.2.2.1, (v3.1.1, @Unit.unit))))) fun (v4 : (((Arr Int 8) × Unit) × ((Arr Int 8) × ((Arr Int 8) × Unit)))) =>
 Option.bind (ref06_Block_L17_R N ((v4.1.1, ((0 : Int), @Unit.unit)), (v4.2.1, (v4.2.2.1, @Unit.unit)))) fun (v5 : (Unit × ((Arr Int 8) × ((Arr Int 8) × Unit)))) =>
 some (v5.2.2.1)
theorem ref06_Block_S (N : Nat) (s0 : Arr (Int) 8) (block1 : Arr (Int) 64) : (runK Go.Proofs.Try.prog (Ev77 N) 400 102 [(.arr 8 (.int .u32)), (.arr 64 (.int .u8))] [(.arr 8 (.int .u32))] (s0, block1, ())).run = ref06_Block N s0 block1 := by kernel_rfl
noncomputable def Ev78 (N : Nat) : (R : Type) → Env R := Env.addFn (Ev77 N) 102 (fun R => fnK [(.arr 8 (.int .u32)), (.arr 64 (.int .u8))] [(.arr 8 (.int .u32))] (fun c => ref06_Block N c.1 c.2.1))
theorem Ev78_ok (N : Nat) (R : Type) : EnvOK Go.Proofs.Try.prog (Ev78 N R) := EnvOK.addFn hmx (Ev77_ok N R) (Ev77_ok N _) (by kernel_rfl) (fun c => ref06_Block_S N c.1 c.2.1)
noncomputable def ref06_Of_L4_I : LI := ⟨56, 0, [], ⟨[(2, .lit (.box 0 0)), (3, .lit (.own 1)), (4, .lit (.box 2 0)), (5, .ty (.int .i64))], [.box 25 (.arr 32 (.int .u8)), .own (.int .u8) 5, .box 125 (.arr 8 (.int .u32))]⟩, [(.exit 0, ⟨[(2, .lit (.box 0 0)), (4, .lit (.box 1 0))], [.box 25 (.arr 32 (.int .u8)), .box 125 (.arr 8 (.int .u32))]⟩)]⟩
noncomputable def ref06_Of_L4 (N : Nat) (X : (((Int) × Unit) × ((Arr (Int) 32) × ((List (Int)) × ((Arr (Int) 8) × Unit)))) → Option ((Unit × ((Arr (Int) 32) × ((Arr (Int) 8) × Unit))))) (x5 : Int) (h0 : Arr (Int) 32) (h1 : List (Int)) (h2 : Arr (Int) 8) : Option ((Unit × ((Arr (Int) 32) × ((Arr (Int) 8) × Unit)))) :=
 bif (decide (x5 < (((List.length h1) : Nat) : Int))) then
  Option.bind (ref06_Of_L8_R N ((x5, ((0 : Int), @Unit.unit)), (h0, (h1, (h2, ((@Arr.cons Int (63 : Nat) (0 : Int) (@Arr.cons Int (62 : Nat) (0 : Int) (@Arr.cons Int (61 : Nat) (0 : Int) (@Arr.cons Int (60 : Nat) (0 : Int) (@Arr.cons Int (59 : Nat) (0 : Int) (@Arr.cons Int (58 : Nat) (0 : Int) (@Arr.cons Int (57 : Nat) (0 : Int) (@Arr.cons Int (56 : Nat) (0 : Int) (@Arr.cons Int (55 : Nat) (0 : Int) (@Arr.cons Int (54 : Nat) (0 : Int) (@Arr.cons Int (53 : Nat) (0 : Int) (@Arr.cons Int (52 : Nat) (0 : Int) (@Arr.cons Int (51 : Nat) (0 : Int) (@Arr.cons Int (50 : Nat) (0 : Int) (@Arr.cons Int (49 : Nat) (0 : Int) (@Arr.cons Int (48 : Nat) (0 : Int) (@Arr.cons Int (47 : Nat) (0 : Int) (@Arr.cons Int (46 : Nat) (0 : Int) (@Arr.cons Int (45 : Nat) (0 : Int) (@Arr.cons Int (44 : Nat) (0 : Int) (@Arr.cons Int (43 : Nat) (0 : Int) (@Arr.cons Int (42 : Nat) (0 : Int) (@Arr.cons Int (41 : Nat) (0 : Int) (@Arr.cons Int (40 : Nat) (0 : Int) (@Arr.cons Int (39 : Nat) (0 : Int) (@Arr.cons Int (38 : Nat) (0 : Int) (@Arr.cons Int (37 : Nat) (0 : Int) (@Arr.cons Int (36 : Nat) (0 : Int) (@Arr.cons Int (35 : Nat) (0 : Int) (@Arr.cons Int (34 : Nat) (0 : Int) (@Arr.cons Int (33 : Nat) (0 : Int) (@Arr.cons Int (32 : Nat) (0 : Int) (@Arr.cons Int (31 : Nat) (0 : Int) (@Arr.cons Int (30 : Nat) (0 : Int) (@Arr.cons Int (29 : Nat) (0 : Int) (@Arr.cons Int (28 : Nat) (0 : Int) (@Arr.cons Int (27 : Nat) (0 : Int) (@Arr.cons Int (26 : Nat) (0 : Int) (@Arr.cons Int (25 : Nat) (0 : Int) (@Arr.cons Int (24 : Nat) (0 : Int) (@Arr.cons Int (23 : Nat) (0 : Int) (@Arr.cons Int (22 : Nat) (0 : Int) (@Arr.cons Int (21 : Nat) (0 : Int) (@Arr.cons Int (20 : Nat) (0 : Int) (@Arr.cons Int (19 : Nat) (0 : Int) (@Arr.cons Int (18 : Nat) (0 : Int) (@Arr.cons Int (17 : Nat) (0 : Int) (@Arr.cons Int (16 : Nat) (0 : Int) (@Arr.cons Int (15 : Nat) (0 : Int) (@Arr.cons Int (14 : Nat) (0 : Int) (@Arr.cons Int (13 : Nat) (0 : Int) (@Arr.cons Int (12 : Nat) (0 : Int) (@Arr.cons Int (11 : Nat) (0 : Int) (@Arr.cons Int (10 : Nat) (0 : Int) (@Arr.cons Int (9 : Nat) (0 : Int) (@Arr.cons Int (8 : Nat) (0 : Int) (@Arr.cons Int (7 : Nat) (0 : Int) (@Arr.cons Int (6 : Nat) (0 : Int) (@Arr.cons Int (5 : Nat) (0 : Int) (@Arr.cons Int (4 : Nat) (0 : Int) (@Arr.cons Int (3 : Nat) (0 : Int) (@Arr.cons Int (2 : Nat) (0 : Int) (@Arr.cons Int (1 : Nat) (0 : Int) (@Arr.cons Int (0 : Nat) (0 : Int) (@Arr.nil Int))))))))))))))))))))))))))))))))))))))))))))))))))))))))))))))))), @Unit.unit)))))) fun (v6 : ((Int × Unit) × ((Arr Int 32) × ((List Int) × ((Arr Int 8) × ((Arr Int 64) × Unit)))))) =>
  Option.bind (@ref06_Block N v6.2.2.2.1 v6.2.2.2.2.1) fun (v7 : (Arr Int 8)) =>
  (X (((Go.IntKind.wrap .i64 (v6.1.1 + (64 : Int))), @Unit.unit), (v6.2.1, (v6.2.2.1, (v7, @Unit.unit)))))
 else
  some ((@Unit.unit, (h0, (h2, @Unit.unit))))
noncomputable def ref06_Of_L4_R (N : Nat) (c : (((Int) × Unit) × ((Arr (Int) 32) × ((List (Int)) × ((Arr (Int) 8) × Unit))))) : Option ((Unit × ((Arr (Int) 32) × ((Arr (Int) 8) × Unit)))) := gl (fun X c => ref06_Of_L4 N X c.1.1 c.2.1 c.2.2.1 c.2.2.2.1) N c
theorem ref06_Of_L4_S (N : Nat) (X : (((Int) × Unit) × ((Arr (Int) 32) × ((List (Int)) × ((Arr (Int) 8) × Unit)))) → Option ((Unit × ((Arr (Int) 32) × ((Arr (Int) 8) × Unit))))) (x5 : Int) (h0 : Arr (Int) 32) (h1 : List (Int)) (h2 : Arr (Int) 8) : (roundK Go.Proofs.Try.prog (Ev78 N) 400 [68] ref06_Of_L4_I (loopAt Go.Proofs.Try.prog [68] 4) X ((x5, ()), (h0, h1, h2, ()))).run = ref06_Of_L4 N X x5 h0 h1 h2 := by kernel_rfl
noncomputable def Ev79 (N : Nat) : (R : Type) → Env R := Env.addLp (Ev78 N) [68] 0 4 (fun R => lpK Go.Proofs.Try.prog ref06_Of_L4_I (fun X c => ref06_Of_L4 N X c.1.1 c.2.1 c.2.2.1 c.2.2.2.1) N)
theorem Ev79_ok (N : Nat) (R : Type) : EnvOK Go.Proofs.Try.prog (Ev79 N R) := EnvOK.addLp (Ev78_ok N R) (by kernel_rfl) (lpK_ok (li := ref06_Of_L4_I) (G := fun X c => ref06_Of_L4 N X c.1.1 c.2.1 c.2.2.1 c.2.2.2.1) hmx (Ev78_ok N _) (by kernel_rfl) loopAt_sub (fun (X : CT ref06_Of_L4_I.sh → Option (OT ref06_Of_L4_I.outs)) (c : CT ref06_Of_L4_I.sh) => ref06_Of_L4_S N X c.1.1 c.2.1 c.2.2.1 c.2.2.2.1) N)
noncomputable def ref06_Of_L14_I : LI := ⟨56, 0, [], ⟨[(2, .lit (.box 0 0)), (4, .lit (.box 1 0)), (8, .lit (.box 2 0)), (9, .ty (.int .i64))], [.box 25 (.arr 32 (.int .u8)), .box 125 (.arr 8 (.int .u32)), .box 25 (.arr 32 (.int .u8))]⟩, [(.exit 4, ⟨[(2, .lit (.box 0 0)), (8, .lit (.box 1 0))], [.box 25 (.arr 32 (.int .u8)), .box 25 (.arr 32 (.int .u8))]⟩)]⟩
noncomputable def ref06_Of_L14 (N : Nat) (X : (((Int) × Unit) × ((Arr (Int) 32) × ((Arr (Int) 8) × ((Arr (Int) 32) × Unit)))) → Option ((Unit × ((Arr (Int) 32) × ((Arr (Int) 32) × Unit))))) (i9 : Int) (h0 : Arr (Int) 32) (h1 : Arr (Int) 8) (h2 : Arr (Int) 32) : Option ((Unit × ((Arr (Int) 32) × ((Arr (Int) 32) × Unit)))) :=
 bif (decide (i9 < (32 : Int))) then
  bif (decide ((0 : Int) ≤ (Go.IntKind.wrap .i64 (@Int.tdiv i9 (4 : Int))) ∧ (Go.IntKind.wrap .i64 (@Int.tdiv i9 (4 : Int))) < (((8 : Nat) : Nat) : Int))) then
   Option.bind (@GetElem?.getElem? (List Int) Nat Int (fun (as6 : (List Int)) => (fun (i7 : Nat) => (@LT.lt Nat @instLTNat i7 (List.length as6)))) (@List.instGetElem?NatLtLength Int) h1.l (Int.toNat (Go.IntKind.wrap .i64 (@Int.tdiv i9 (4 : Int))))) fun (v6 : Int) =>
   bif (decide ((0 : Int) ≤ (Go.IntKind.wrap .i64 ((24 : Int) - (Go.IntKind.wrap .i64 ((8 : Int) * (@Int.tmod i9 (4 : Int)))))))) then
    bif (decide ((0 : Int) ≤ i9 ∧ i9 < (((32 : Nat) : Nat) : Int))) then
     Option.bind (@GetElem?.getElem? (List Int) Nat Int (fun (as7 : (List Int)) => (fun (i8 : Nat) => (@LT.lt Nat @instLTNat i8 (List.length as7)))) (@List.instGetElem?NatLtLength Int) h2.l (Int.toNat i9)) fun (v7 : Int) =>
     (X (((Go.IntKind.wrap .i64 (i9 + (1 : Int))), @Unit.unit), (h0, (h1, ((h2.set (Int.toNat i9) (Go.IntKind.wrap .u8 (@Int.fdiv v6 (@HPow.hPow Int Nat Int (@instHPow Int Nat (@instPowNat Int @Int.instNatPow)) (2 : Int) (@Min.min Nat @instMinNat (Int.toNat (Go.IntKind.wrap .i64 ((24 : Int) - (Go.IntKind.wrap .i64 ((8 : Int) * (@Int.tmod i9 (4 : Int))))))) (@Go.IntKind.bits @Go.IntKind.u32)))))), @Unit.unit)))))
    else
     none
   else
    none
  else
   none
 else
  some ((@Unit.unit, (h0, (h2, @Unit.unit))))
noncomputable def ref06_Of_L14_R (N : Nat) (c : (((Int) × Unit) × ((Arr (Int) 32) × ((Arr (Int) 8) × ((Arr (Int) 32) × Unit))))) : Option ((Unit × ((Arr (Int) 32) × ((Arr (Int) 32) × Unit)))) := gl (fun X c => ref06_Of_L14 N X c.1.1 c.2.1 c.2.2.1 c.2.2.2.1) N c
theorem ref06_Of_L14_S (N : Nat) (X : (((Int) × Unit) × ((Arr (Int) 32) × ((Arr (Int) 8) × ((Arr (Int) 32) × Unit)))) → Option ((Unit × ((Arr (Int) 32) × ((Arr (Int) 32) × Unit))))) (i9 : Int) (h0 : Arr (Int) 32) (h1 : Arr (Int) 8) (h2 : Arr (Int) 32) : (roundK Go.Proofs.Try.prog (Ev79 N) 400 [68] ref06_Of_L14_I (loopAt Go.Proofs.Try.prog [68] 14) X ((i9, ()), (h0, h1, h2, ()))).run = ref06_Of_L14 N X i9 h0 h1 h2 := by kernel_rfl
noncomputable def Ev80 (N : Nat) : (R : Type) → Env R := Env.addLp (Ev79 N) [68] 0 14 (fun R => lpK Go.Proofs.Try.prog ref06_Of_L14_I (fun X c => ref06_Of_L14 N X c.1.1 c.2.1 c.2.2.1 c.2.2.2.1) N)
theorem Ev80_ok (N : Nat) (R : Type) : EnvOK Go.Proofs.Try.prog (Ev80 N R) := EnvOK.addLp (Ev79_ok N R) (by kernel_rfl) (lpK_ok (li := ref06_Of_L14_I) (G := fun X c => ref06_Of_L14 N X c.1.1 c.2.1 c.2.2.1 c.2.2.2.1) hmx (Ev79_ok N _) (by kernel_rfl) loopAt_sub (fun (X : CT ref06_Of_L14_I.sh → Option (OT ref06_Of_L14_I.outs)) (c : CT ref06_Of_L14_I.sh) => ref06_Of_L14_S N X c.1.1 c.2.1 c.2.2.1 c.2.2.2.1) N)
noncomputable def ref06_Of (N : Nat) (b0 : List (Int)) : Option (Arr (Int) 32) :=
 bif (roomB (List.length b0) 1) then
  Option.bind (@ref06_Tail N (Go.IntKind.wrap .u64 (((List.length b0) : Nat) : Int))) fun (v2 : (List Int)) =>
  bif (roomB ((List.length b0) + (List.length v2)) 1) then
   Option.bind (ref06_Of_L4_R N (((0 : Int), @Unit.unit), ((@Arr.cons Int (31 : Nat) (0 : Int) (@Arr.cons Int (30 : Nat) (0 : Int) (@Arr.cons Int (29 : Nat) (0 : Int) (@Arr.cons Int (28 : Nat) (0 : Int) (@Arr.cons Int (27 : Nat) (0 : Int) (@Arr.cons Int (26 : Nat) (0 : Int) (@Arr.cons Int (25 : Nat) (0 : Int) (@Arr.cons Int (24 : Nat) (0 : Int) (@Arr.cons Int (23 : Nat) (0 : Int) (@Arr.cons Int (22 : Nat) (0 : Int) (@Arr.cons Int (21 : Nat) (0 : Int) (@Arr.cons Int (20 : Nat) (0 : Int) (@Arr.cons Int (19 : Nat) (0 : Int) (@Arr.cons Int (18 : Nat) (0 : Int) (@Arr.cons Int (17 : Nat) (0 : Int) (@Arr.cons Int (16 : Nat) (0 : Int) (@Arr.cons Int (15 : Nat) (0 : Int) (@Arr.cons Int (14 : Nat) (0 : Int) (@Arr.cons Int (13 : Nat) (0 : Int) (@Arr.cons Int (12 : Nat) (0 : Int) (@Arr.cons Int (11 : Nat) (0 : Int) (@Arr.cons Int (10 : Nat) (0 : Int) (@Arr.cons Int (9 : Nat) (0 : Int) (@Arr.cons Int (8 : Nat) (0 : Int) (@Arr.cons Int (7 : Nat) (0 : Int) (@Arr.cons Int (6 : Nat) (0 : Int) (@Arr.cons Int (5 : Nat) (0 : Int) (@Arr.cons Int (4 : Nat) (0 : Int) (@Arr.cons Int (3 : Nat) (0 : Int) (@Arr.cons Int (2 : Nat) (0 : Int) (@Arr.cons Int (1 : Nat) (0 : Int) (@Arr.cons Int (0 : Nat) (0 : Int) (@Arr.nil Int))))))))))))))))))))))))))))))))), ((b0 ++ v2), ((@Arr.cons Int (7 : Nat) (1779033703 : Int) (@Arr.cons Int (6 : Nat) (3144134277 : Int) (@Arr.cons Int (5 : Nat) (1013904242 : Int) (@Arr.cons Int (4 : Nat) (2773480762 : Int) (@Arr.cons Int (3 : Nat) (1359893119 : Int) (@Arr.cons Int (2 : Nat) (2600822924 : Int) (@Arr.cons Int (1 : Nat) (528734635 : Int) (@Arr.cons Int (0 : Nat) (1541459225 : Int) (@Arr.nil Int))))))))), @Unit.unit))))) fun (v3 : (Unit × ((Arr Int 32) × ((Arr Int 8) × Unit)))) =>
   Option.bind (ref06_Of_L14_R N (((0 : Int), @Unit.unit), (v3.2.1, (v3.2.2.1, ((@Arr.cons Int (31 : Nat) (0 : Int) (@Arr.cons Int (30 : Nat) (0 : Int) (@Arr.cons Int (29 : Nat) (0 : Int) (@Arr.cons Int (28 : Nat) (0 : Int) (@Arr.cons Int (27 : Nat) (0 : Int) (@Arr.cons Int (26 : Nat) (0 : Int) (@Arr.cons Int (25 : Nat) (0 : Int) (@Arr.cons Int (24 : Nat) (0 : Int) (@Arr.cons Int (23 : Nat) (0 : Int) (@Arr.cons Int (22 : Nat) (0 : Int) (@Arr.cons Int (21 : Nat) (0 : Int) (@Arr.cons Int (20 : Nat) (0 : Int) (@Arr.cons Int (19 : Nat) (0 : Int) (@Arr.cons Int (18 : Nat) (0 : Int) (@Arr.cons Int (17 : Nat) (0 : Int) (@Arr.cons Int (16 : Nat) (0 : Int) (@Arr.cons Int (15 : Nat) (0 : Int) (@Arr.cons Int (14 : Nat) (0 : Int) (@Arr.cons Int (13 : Nat) (0 : Int) (@Arr.cons Int (12 : Nat) (0 : Int) (@Arr.cons Int (11 : Nat) (0 : Int) (@Arr.cons Int (10 : Nat) (0 : Int) (@Arr.cons Int (9 : Nat) (0 : Int) (@Arr.cons Int (8 : Nat) (0 : Int) (@Arr.cons Int (7 : Nat) (0 : Int) (@Arr.cons Int (6 : Nat) (0 : Int) (@Arr.cons Int (5 : Nat) (0 : Int) (@Arr.cons Int (4 : Nat) (0 : Int) (@Arr.cons Int (3 : Nat) (0 : Int) (@Arr.cons Int (2 : Nat) (0 : Int) (@Arr.cons Int (1 : Nat) (0 : Int) (@Arr.cons Int (0 : Nat) (0 : Int) (@Arr.nil Int))))))))))))))))))))))))))))))))), @Unit.unit))))) fun (v4 : (Unit × ((Arr Int 32) × ((Arr Int 32) × Unit)))) =>
   some (v4.2.2.1)
  else
   none
 else
  none
theorem ref06_Of_S (N : Nat) (b0 : List (Int)) : (runK Go.Proofs.Try.prog (Ev80 N) 400 68 [(.sl (.int .u8))] [(.arr 32 (.int .u8))] (b0, ())).run = ref06_Of N b0 := by kernel_rfl
theorem ref06_Of_C (N : Nat) (b0 : List (Int)) (y : Arr (Int) 32) (h : ref06_Of N b0 = some y) : CallsK Go.Proofs.Try.prog 68 (valA [(.sl (.int .u8))] (b0, ())) (tupV (valR [(.arr 32 (.int .u8))] y)) := runK_ok hmx (Ev80_ok N _) (okFn_ok (by kernel_rfl)) (by rw [ref06_Of_S]; exact h)
noncomputable def Ev81 (N : Nat) : (R : Type) → Env R := Env.addFn (Ev80 N) 68 (fun R => fnK [(.sl (.int .u8))] [(.arr 32 (.int .u8))] (fun c => ref06_Of N c.1))
theorem Ev81_ok (N : Nat) (R : Type) : EnvOK Go.Proofs.Try.prog (Ev81 N R) := EnvOK.addFn hmx (Ev80_ok N R) (Ev80_ok N _) (by kernel_rfl) (fun c => ref06_Of_S N c.1)
noncomputable def ref07_Key_L6_I : LI := ⟨25, 0, [], ⟨[(0, .ty (.sl (.int .u8))), (2, .lit (.box 0 0)), (4, .lit (.box 1 0)), (5, .ty (.int .i64))], [.box 28 (.arr 64 (.int .u8)), .box 28 (.arr 64 (.int .u8))]⟩, [(.exit 0, ⟨[(2, .lit (.box 0 0)), (4, .lit (.box 1 0))], [.box 28 (.arr 64 (.int .u8)), .box 28 (.arr 64 (.int .u8))]⟩)]⟩
noncomputable def ref07_Key_L6 (N : Nat) (X : (((List (Int)) × ((Int) × Unit)) × ((Arr (Int) 64) × ((Arr (Int) 64) × Unit))) → Option ((Unit × ((Arr (Int) 64) × ((Arr (Int) 64) × Unit))))) (key0 : List (Int)) (i5 : Int) (h0 : Arr (Int) 64) (h1 : Arr (Int) 64) : Option ((Unit × ((Arr (Int) 64) × ((Arr (Int) 64) × Unit)))) :=
 bif (decide (i5 < (((List.length key0) : Nat) : Int))) then
  Option.bind (getI key0 i5) fun (v6 : Int) =>
  bif (decide ((0 : Int) ≤ i5 ∧ i5 < (((64 : Nat) : Nat) : Int))) then
   Option.bind (@GetElem?.getElem? (List Int) Nat Int (fun (as7 : (List Int)) => (fun (i8 : Nat) => (@LT.lt Nat @instLTNat i8 (List.length as7)))) (@List.instGetElem?NatLtLength Int) h1.l (Int.toNat i5)) fun (v7 : Int) =>
   (X ((key0, ((Go.IntKind.wrap .i64 (i5 + (1 : Int))), @Unit.unit)), (h0, ((h1.set (Int.toNat i5) v6), @Unit.unit))))
  else
   none
 else
  some ((@Unit.unit, (h0, (h1, @Unit.unit))))
noncomputable def ref07_Key_L6_R (N : Nat) (c : (((List (Int)) × ((Int) × Unit)) × ((Arr (Int) 64) × ((Arr (Int) 64) × Unit)))) : Option ((Unit × ((Arr (Int) 64) × ((Arr (Int) 64) × Unit)))) := gl (fun X c => ref07_Key_L6 N X c.1.1 c.1.2.1 c.2.1 c.2.2.1) N c
theorem ref07_Key_L6_S (N : Nat) (X : (((List (Int)) × ((Int) × Unit)) × ((Arr (Int) 64) × ((Arr (Int) 64) × Unit))) → Option ((Unit × ((Arr (Int) 64) × ((Arr (Int) 64) × Unit))))) (key0 : List (Int)) (i5 : Int) (h0 : Arr (Int) 64) (h1 : Arr (Int) 64) : (roundK Go.Proofs.Try.prog (Ev81 N) 400 [18] ref07_Key_L6_I (loopAt Go.Proofs.Try.prog [18] 6) X ((key0, i5, ()), (h0, h1, ()))).run = ref07_Key_L6 N X key0 i5 h0 h1 := by kernel_rfl
noncomputable def Ev82 (N : Nat) : (R : Type) → Env R := Env.addLp (Ev81 N) [18] 0 6 (fun R => lpK Go.Proofs.Try.prog ref07_Key_L6_I (fun X c => ref07_Key_L6 N X c.1.1 c.1.2.1 c.2.1 c.2.2.1) N)
theorem Ev82_ok (N : Nat) (R : Type) : EnvOK Go.Proofs.Try.prog (Ev82 N R) := EnvOK.addLp (Ev81_ok N R) (by kernel_rfl) (lpK_ok (li := ref07_Key_L6_I) (G := fun X c => ref07_Key_L6 N X c.1.1 c.1.2.1 c.2.1 c.2.2.1) hmx (Ev81_ok N _) (by kernel_rfl) loopAt_sub (fun (X : CT ref07_Key_L6_I.sh → Option (OT ref07_Key_L6_I.outs)) (c : CT ref07_Key_L6_I.sh) => ref07_Key_L6_S N X c.1.1 c.1.2.1 c.2.1 c.2.2.1) N)
noncomputable def ref07_Key (N : Nat) (key0 : List (Int)) : Option (Arr (Int) 64) :=
 bif (decide ((64 : Int) < (((List.length key0) : Nat) : Int))) then
  Option.bind (@ref06_Of N key0) fun (v2 : (Arr Int 32)) =>
  Option.bind (ref07_Key_L6_R N ((v2.l, ((0 : Int), @Unit.unit)), ((@Arr.cons Int (63 : Nat) (0 : Int) (@Arr.cons Int (62 : Nat) (0 : Int) (@Arr.cons Int (61 : Nat) (0 : Int) (@Arr.cons Int (60 : Nat) (0 : Int) (@Arr.cons Int (59 : Nat) (0 : Int) (@Arr.cons Int (58 : Nat) (0 : Int) (@Arr.cons Int (57 : Nat) (0 : Int) (@Arr.cons Int (56 : Nat) (0 : Int) (@Arr.cons Int (55 : Nat) (0 : Int) (@Arr.cons Int (54 : Nat) (0 : Int) (@Arr.cons Int (53 : Nat) (0 : Int) (@Arr.cons Int (52 : Nat) (0 : Int) (@Arr.cons Int (51 : Nat) (0 : Int) (@Arr.cons Int (50 : Nat) (0 : Int) (@Arr.cons Int (49 : Nat) (0 : Int) (@Arr.cons Int (48 : Nat) (0 : Int) (@Arr.cons Int (47 : Nat) (0 : Int) (@Arr.cons Int (46 : Nat) (0 : Int) (@Arr.cons Int (45 : Nat) (0 : Int) (@Arr.cons Int (44 : Nat) (0 : Int) (@Arr.cons Int (43 : Nat) (0 : Int) (@Arr.cons Int (42 : Nat) (0 : Int) (@Arr.cons Int (41 : Nat) (0 : Int) (@Arr.cons Int (40 : Nat) (0 : Int) (@Arr.cons Int (39 : Nat) (0 : Int) (@Arr.cons Int (38 : Nat) (0 : Int) (@Arr.cons Int (37 : Nat) (0 : Int) (@Arr.cons Int (36 : Nat) (0 : Int) (@Arr.cons Int (35 : Nat) (0 : Int) (@Arr.cons Int (34 : Nat) (0 : Int) (@Arr.cons Int (33 : Nat) (0 : Int) (@Arr.cons Int (32 : Nat) (0 : Int) (@Arr.cons Int (31 : Nat) (0 : Int) (@Arr.cons Int (30 : Nat) (0 : Int) (@Arr.cons Int (29 : Nat) (0 : Int) (@Arr.cons Int (28 : Nat) (0 : Int) (@Arr.cons Int (27 : Nat) (0 : Int) (@Arr.cons Int (26 : Nat) (0 : Int) (@Arr.cons Int (25 : Nat) (0 : Int) (@Arr.cons Int (24 : Nat) (0 : Int) (@Arr.cons Int (23 : Nat) (0 : Int) (@Arr.cons Int (22 : Nat) (0 : Int) (@Arr.cons Int (21 : Nat) (0 : Int) (@Arr.cons Int (20 : Nat) (0 : Int) (@Arr.cons Int (19 : Nat) (0 : Int) (@Arr.cons Int (18 : Nat) (0 : Int) (@Arr.cons Int (17 : Nat) (0 : Int) (@Arr.cons Int (16 : Nat) (0 : Int) (@Arr.cons Int (15 : Nat) (0 : Int) (@Arr.cons Int (14 : Nat) (0 : Int) (@Arr.cons Int (13 : Nat) (0 : Int) (@Arr.cons Int (12 : Nat) (0 : Int) (@Arr.cons Int (11 : Nat) (0 : Int) (@Arr.cons Int (10 : Nat) (0 : Int) (@Arr.cons Int (9 : Nat) (0 : Int) (@Arr.cons Int (8 : Nat) (0 : Int) (@Arr.cons Int (7 : Nat) (0 : Int) (@Arr.cons Int (6 : Nat) (0 : Int) (@Arr.cons Int (5 : Nat) (0 : Int) (@Arr.cons Int (4 : Nat) (0 : Int) (@Arr.cons Int (3 : Nat) (0 : Int) (@Arr.cons Int (2 : Nat) (0 : Int) (@Arr.cons Int (1 : Nat) (0 : Int) (@Arr.cons Int (0 : Nat) (0 : Int) (@Arr.nil Int))))))))))))))))))))))))))))))))))))))))))))))))))))))))))))))))), ((@Arr.cons Int (63 : Nat) (0 : Int) (@Arr.cons Int (62 : Nat) (0 : Int) (@Arr.cons Int (61 : Nat) (0 : Int) (@Arr.cons Int (60 : Nat) (0 : Int) (@Arr.cons Int (59 : Nat) (0 : Int) (@Arr.cons Int (58 : Nat) (0 : Int) (@Arr.cons Int (57 : Nat) (0 : Int) (@Arr.cons Int (56 : Nat) (0 : Int) (@Arr.cons Int (55 : Nat) (0 : Int) (@Arr.cons Int (54 : Nat) (0 : Int) (@Arr.cons Int (53 : Nat) (0 : Int) (@Arr.cons Int (52 : Nat) (0 : Int) (@Arr.cons Int (51 : Nat) (0 : Int) (@Arr.cons Int (50 : Nat) (0 : Int) (@Arr.cons Int (49 : Nat) (0 : Int) (@Arr.cons Int (48 : Nat) (0 : Int) (@Arr.cons Int (47 : Nat) (0 : Int) (@Arr.cons Int (46 : Nat) (0 : Int) (@Arr.cons Int (45 : Nat) (0 : Int) (@Arr.cons Int (44 : Nat) (0 : Int) (@Arr.cons Int (43 : Nat) (0 : Int) (@Arr.cons Int (42 : Nat) (0 : Int) (@Arr.cons Int (41 : Nat) (0 : Int) (@Arr.cons Int (40 : Nat) (0 : Int) (@Arr.cons Int (39 : Nat) (0 : Int) (@Arr.cons Int (38 : Nat) (0 : Int) (@Arr.cons Int (37 : Nat) (0 : Int) (@Arr.cons Int (36 : Nat) (0 : Int) (@Arr.cons Int (35 : Nat) (0 : Int) (@Arr.cons Int (34 : Nat) (0 : Int) (@Arr.cons Int (33 : Nat) (0 : Int) (@Arr.cons Int (32 : Nat) (0 : Int) (@Arr.cons Int (31 : Nat) (0 : Int) (@Arr.cons Int (30 : Nat) (0 : Int) (@Arr.cons Int (29 : Nat) (0 : Int) (@Arr.cons Int (28 : Nat) (0 : Int) (@Arr.cons Int (27 : Nat) (0 : Int) (@Arr.cons Int (26 : Nat) (0 : Int) (@Arr.cons Int (25 : Nat) (0 : Int) (@Arr.cons Int (24 : Nat) (0 : Int) (@Arr.cons Int (23 : Nat) (0 : Int) (@Arr.cons Int (22 : Nat) (0 : Int) (@Arr.cons Int (21 : Nat) (0 : Int) (@Arr.cons Int (20 : Nat) (0 : Int) (@Arr.cons Int (19 : Nat) (0 : Int) (@Arr.cons Int (18 : Nat) (0 : Int) (@Arr.cons Int (17 : Nat) (0 : Int) (@Arr.cons Int (16 : Nat) (0 : Int) (@Arr.cons Int (15 : Nat) (0 : Int) (@Arr.cons Int (14 : Nat) (0 : Int) (@Arr.cons Int (13 : Nat) (0 : Int) (@Arr.cons Int (12 : Nat) (0 : Int) (@Arr.cons Int (11 : Nat) (0 : Int) (@Arr.cons Int (10 : Nat) (0 : Int) (@Arr.cons Int (9 : Nat) (0 : Int) (@Arr.cons Int (8 : Nat) (0 : Int) (@Arr.cons Int (7 : Nat) (0 : Int) (@Arr.cons Int (6 : Nat) (0 : Int) (@Arr.cons Int (5 : Nat) (0 : Int) (@Arr.cons Int (4 : Nat) (0 : Int) (@Arr.cons Int (3 : Nat) (0 : Int) (@Arr.cons Int (2 : Nat) (0 : Int) (@Arr.cons Int (1 : Nat) (0 : Int) (@Arr.cons Int (0 : Nat) (0 : Int) (@Arr.nil Int))))))))))))))))))))))))))))))))))))))))))))))))))))))))))))))))), @Unit.unit)))) fun (v3 : (Unit × ((Arr Int 64) × ((Arr Int 64) × Unit)))) =>
  some (v3.2.2.1)
 else
  Option.bind (ref07_Key_L6_R N ((key0, ((0 : Int), @Unit.unit)), ((@Arr.cons Int (63 : Nat) (0 : Int) (@Arr.cons Int (62 : Nat) (0 : Int) (@Arr.cons Int (61 : Nat) (0 : Int) (@Arr.cons Int (60 : Nat) (0 : Int) (@Arr.cons Int (59 : Nat) (0 : Int) (@Arr.cons Int (58 : Nat) (0 : Int) (@Arr.cons Int (57 : Nat) (0 : Int) (@Arr.cons Int (56 : Nat) (0 : Int) (@Arr.cons Int (55 : Nat) (0 : Int) (@Arr.cons Int (54 : Nat) (0 : Int) (@Arr.cons Int (53 : Nat) (0 : Int) (@Arr.cons Int (52 : Nat) (0 : Int) (@Arr.cons Int (51 : Nat) (0 : Int) (@Arr.cons Int (50 : Nat) (0 : Int) (@Arr.cons Int (49 : Nat) (0 : Int) (@Arr.cons Int (48 : Nat) (0 : Int) (@Arr.cons Int (47 : Nat) (0 : Int) (@Arr.cons Int (46 : Nat) (0 : Int) (@Arr.cons Int (45 : Nat) (0 : Int) (@Arr.cons Int (44 : Nat) (0 : Int) (@Arr.cons Int (43 : Nat) (0 : Int) (@Arr.cons Int (42 : Nat) (0 : Int) (@Arr.cons Int (41 : Nat) (0 : Int) (@Arr.cons Int (40 : Nat) (0 : Int) (@Arr.cons Int (39 : Nat) (0 : Int) (@Arr.cons Int (38 : Nat) (0 : Int) (@Arr.cons Int (37 : Nat) (0 : Int) (@Arr.cons Int (36 : Nat) (0 : Int) (@Arr.cons Int (35 : Nat) (0 : Int) (@Arr.cons Int (34 : Nat) (0 : Int) (@Arr.cons Int (33 : Nat) (0 : Int) (@Arr.cons Int (32 : Nat) (0 : Int) (@Arr.cons Int (31 : Nat) (0 : Int) (@Arr.cons Int (30 : Nat) (0 : Int) (@Arr.cons Int (29 : Nat) (0 : Int) (@Arr.cons Int (28 : Nat) (0 : Int) (@Arr.cons Int (27 : Nat) (0 : Int) (@Arr.cons Int (26 : Nat) (0 : Int) (@Arr.cons Int (25 : Nat) (0 : Int) (@Arr.cons Int (24 : Nat) (0 : Int) (@Arr.cons Int (23 : Nat) (0 : Int) (@Arr.cons Int (22 : Nat) (0 : Int) (@Arr.cons Int (21 : Nat) (0 : Int) (@Arr.cons Int (20 : Nat) (0 : Int) (@Arr.cons Int (19 : Nat) (0 : Int) (@Arr.cons Int (18 : Nat) (0 : Int) (@Arr.cons Int (17 : Nat) (0 : Int) (@Arr.cons Int (16 : Nat) (0 : Int) (@Arr.cons Int (15 : Nat) (0 : Int) (@Arr.cons Int (14 : Nat) (0 : Int) (@Arr.cons Int (13 : Nat) (0 : Int) (@Arr.cons Int (12 : Nat) (0 : Int) (@Arr.cons Int (11 : Nat) (0 : Int) (@Arr.cons Int (10 : Nat) (0 : Int) (@Arr.cons Int (9 : Nat) (0 : Int) (@Arr.cons Int (8 : Nat) (0 : Int) (@Arr.cons Int (7 : Nat) (0 : Int) (@Arr.cons Int (6 : Nat) (0 : Int) (@Arr.cons Int (5 : Nat) (0 : Int) (@Arr.cons Int (4 : Nat) (0 : Int) (@Arr.cons Int (3 : Nat) (0 : Int) (@Arr.cons Int (2 : Nat) (0 : Int) (@Arr.cons Int (1 : Nat) (0 : Int) (@Arr.cons Int (0 : Nat) (0 : Int) (@Arr.nil Int))))))))))))))))))))))))))))))))))))))))))))))))))))))))))))))))), ((@Arr.cons Int (63 : Nat) (0 : Int) (@Arr.cons Int (62 : Nat) (0 : Int) (@Arr.cons Int (61 : Nat) (0 : Int) (@Arr.cons Int (60 : Nat) (0 : Int) (@Arr.cons Int (59 : Nat) (0 : Int) (@Arr.cons Int (58 : Nat) (0 : Int) (@Arr.cons Int (57 : Nat) (0 : Int) (@Arr.cons Int (56 : Nat) (0 : Int) (@Arr.cons Int (55 : Nat) (0 : Int) (@Arr.cons Int (54 : Nat) (0 : Int) (@Arr.cons Int (53 : Nat) (0 : Int) (@Arr.cons Int (52 : Nat) (0 : Int) (@Arr.cons Int (51 : Nat) (0 : Int) (@Arr.cons Int (50 : Nat) (0 : Int) (@Arr.cons Int (49 : Nat) (0 : Int) (@Arr.cons Int (48 : Nat) (0 : Int) (@Arr.cons Int (47 : Nat) (0 : Int) (@Arr.cons Int (46 : Nat) (0 : Int) (@Arr.cons Int (45 : Nat) (0 : Int) (@Arr.cons Int (44 : Nat) (0 : Int) (@Arr.cons Int (43 : Nat) (0 : Int) (@Arr.cons Int (42 : Nat) (0 : Int) (@Arr.cons Int (41 : Nat) (0 : Int) (@Arr.cons Int (40 : Nat) (0 : Int) (@Arr.cons Int (39 : Nat) (0 : Int) (@Arr.cons Int (38 : Nat) (0 : Int) (@Arr.cons Int (37 : Nat) (0 : Int) (@Arr.cons Int (36 : Nat) (0 : Int) (@Arr.cons Int (35 : Nat) (0 : Int) (@Arr.cons Int (34 : Nat) (0 : Int) (@Arr.cons Int (33 : Nat) (0 : Int) (@Arr.cons Int (32 : Nat) (0 : Int) (@Arr.cons Int (31 : Nat) (0 : Int) (@Arr.cons Int (30 : Nat) (0 : Int) (@Arr.cons Int (29 : Nat) (0 : Int) (@Arr.cons Int (28 : Nat) (0 : Int) (@Arr.cons Int (27 : Nat) (0 : Int) (@Arr.cons Int (26 : Nat) (0 : Int) (@Arr.cons Int (25 : Nat) (0 : Int) (@Arr.cons Int (24 : Nat) (0 : Int) (@Arr.cons Int (23 : Nat) (0 : Int) (@Arr.cons Int (22 : Nat) (0 : Int) (@Arr.cons Int (21 : Nat) (0 : Int) (@Arr.cons Int (20 : Nat) (0 : Int) (@Arr.cons Int (19 : Nat) (0 : Int) (@Arr.cons Int (18 : Nat) (0 : Int) (@Arr.cons Int (17 : Nat) (0 : Int) (@Arr.cons Int (16 : Nat) (0 : Int) (@Arr.cons Int (15 : Nat) (0 : Int) (@Arr.cons Int (14 : Nat) (0 : Int) (@Arr.cons Int (13 : Nat) (0 : Int) (@Arr.cons Int (12 : Nat) (0 : Int) (@Arr.cons Int (11 : Nat) (0 : Int) (@Arr.cons Int (10 : Nat) (0 : Int) (@Arr.cons Int (9 : Nat) (0 : Int) (@Arr.cons Int (8 : Nat) (0 : Int) (@Arr.cons Int (7 : Nat) (0 : Int) (@Arr.cons Int (6 : Nat) (0 : Int) (@Arr.cons Int (5 : Nat) (0 : Int) (@Arr.cons Int (4 : Nat) (0 : Int) (@Arr.cons Int (3 : Nat) (0 : Int) (@Arr.cons Int (2 : Nat) (0 : Int) (@Arr.cons Int (1 : Nat) (0 : Int) (@Arr.cons Int (0 : Nat) (0 : Int) (@Arr.nil Int))))))))))))))))))))))))))))))))))))))))))))))))))))))))))))))))), @Unit.unit)))) fun (v2 : (Unit × ((Arr Int 64) × ((Arr Int 64) × Unit)))) =>
  some (v2.2.2.1)
theorem ref07_Key_S (N : Nat) (key0 : List (Int)) : (runK Go.Proofs.Try.prog (Ev82 N) 400 18 [(.sl (.int .u8))] [(.arr 64 (.int .u8))] (key0, ())).run = ref07_Key N key0 := by kernel_rfl
theorem ref07_Key_C (N : Nat) (key0 : List (Int)) (y : Arr (Int) 64) (h : ref07_Key N key0 = some y) : CallsK Go.Proofs.Try.prog 18 (valA [(.sl (.int .u8))] (key0, ())) (tupV (valR [(.arr 64 (.int .u8))] y)) := runK_ok hmx (Ev82_ok N _) (okFn_ok (by kernel_rfl)) (by rw [ref07_Key_S]; exact h)
noncomputable def Ev83 (N : Nat) : (R : Type) → Env R := Env.addFn (Ev82 N) 18 (fun R => fnK [(.sl (.int .u8))] [(.arr 64 (.int .u8))] (fun c => ref07_Key N c.1))
theorem Ev83_ok (N : Nat) (R : Type) : EnvOK Go.Proofs.Try.prog (Ev83 N R) := EnvOK.addFn hmx (Ev82_ok N R) (Ev82_ok N _) (by kernel_rfl) (fun c => ref07_Key_S N c.1)
noncomputable def ref07_Of_2_ref07_turned_L3_I : LI := ⟨20, 2, [(5, 5)], ⟨[(1, .ty (.int .u8)), (2, .adr (.arr 64 (.int .u8))), (5, .lit (.own 2)), (6, .ty (.int .i64))], [.box 25 (.arr 32 (.int .u8)), .box 28 (.arr 64 (.int .u8)), .own (.int .u8) 5]⟩, [(.exit 0, ⟨[(5, .lit (.own 2))], [.box 25 (.arr 32 (.int .u8)), .box 28 (.arr 64 (.int .u8)), .own (.int .u8) 5]⟩)]⟩
noncomputable def ref07_Of_2_ref07_turned_L3 (N : Nat) (X : (((Int) × ((Arr (Int) 64) × ((Int) × Unit))) × ((Arr (Int) 32) × ((Arr (Int) 64) × ((List (Int)) × Unit)))) → Option ((Unit × ((Arr (Int) 32) × ((Arr (Int) 64) × ((List (Int)) × Unit)))))) (x1 : Int) (k2 : Arr (Int) 64) (i6 : Int) (h0 : Arr (Int) 32) (h1 : Arr (Int) 64) (h2 : List (Int)) : Option ((Unit × ((Arr (Int) 32) × ((Arr (Int) 64) × ((List (Int)) × Unit))))) :=
 bif (decide (i6 < (64 : Int))) then
  Option.bind (getI k2.l i6) fun (v8 : Int) =>
  bif (roomB ((List.length h2) + (List.length ([(@Go.bits @Go.BinOp.xor @Go.IntKind.u8 v8 x1)] : List (Int)))) 1) then
   (X ((x1, (k2, ((Go.IntKind.wrap .i64 (i6 + (1 : Int))), @Unit.unit))), (h0, (h1, ((h2 ++ ([(@Go.bits @Go.BinOp.xor @Go.IntKind.u8 v8 x1)] : List (Int))), @Unit.unit)))))
  else
   none
 else
  some ((@Unit.unit, (h0, (h1, (h2, @Unit.unit)))))
noncomputable def ref07_Of_2_ref07_turned_L3_R (N : Nat) (c : (((Int) × ((Arr (Int) 64) × ((Int) × Unit))) × ((Arr (Int) 32) × ((Arr (Int) 64) × ((List (Int)) × Unit))))) : Option ((Unit × ((Arr (Int) 32) × ((Arr (Int) 64) × ((List (Int)) × Unit))))) := gl (fun X c => ref07_Of_2_ref07_turned_L3 N X c.1.1 c.1.2.1 c.1.2.2.1 c.2.1 c.2.2.1 c.2.2.2.1) N c
theorem ref07_Of_2_ref07_turned_L3_S (N : Nat) (X : (((Int) × ((Arr (Int) 64) × ((Int) × Unit))) × ((Arr (Int) 32) × ((Arr (Int) 64) × ((List (Int)) × Unit)))) → Option ((Unit × ((Arr (Int) 32) × ((Arr (Int) 64) × ((List (Int)) × Unit)))))) (x1 : Int) (k2 : Arr (Int) 64) (i6 : Int) (h0 : Arr (Int) 32) (h1 : Arr (Int) 64) (h2 : List (Int)) : (roundK Go.Proofs.Try.prog (Ev83 N) 400 [69, 2, 15] ref07_Of_2_ref07_turned_L3_I (loopAt Go.Proofs.Try.prog [69, 2, 15] 3) X ((x1, k2, i6, ()), (h0, h1, h2, ()))).run = ref07_Of_2_ref07_turned_L3 N X x1 k2 i6 h0 h1 h2 := by kernel_rfl
noncomputable def Ev84 (N : Nat) : (R : Type) → Env R := Env.addLp (Ev83 N) [69, 2, 15] 2 3 (fun R => lpK Go.Proofs.Try.prog ref07_Of_2_ref07_turned_L3_I (fun X c => ref07_Of_2_ref07_turned_L3 N X c.1.1 c.1.2.1 c.1.2.2.1 c.2.1 c.2.2.1 c.2.2.2.1) N)
theorem Ev84_ok (N : Nat) (R : Type) : EnvOK Go.Proofs.Try.prog (Ev84 N R) := EnvOK.addLp (Ev83_ok N R) (by kernel_rfl) (lpK_ok (li := ref07_Of_2_ref07_turned_L3_I) (G := fun X c => ref07_Of_2_ref07_turned_L3 N X c.1.1 c.1.2.1 c.1.2.2.1 c.2.1 c.2.2.1 c.2.2.2.1) hmx (Ev83_ok N _) (by kernel_rfl) loopAt_sub (fun (X : CT ref07_Of_2_ref07_turned_L3_I.sh → Option (OT ref07_Of_2_ref07_turned_L3_I.outs)) (c : CT ref07_Of_2_ref07_turned_L3_I.sh) => ref07_Of_2_ref07_turned_L3_S N X c.1.1 c.1.2.1 c.1.2.2.1 c.2.1 c.2.2.1 c.2.2.2.1) N)
noncomputable def ref07_Of_3_ref07_turned_L3_I : LI := ⟨20, 5, [(5, 5)], ⟨[(1, .ty (.int .u8)), (2, .adr (.arr 64 (.int .u8))), (5, .lit (.own 5)), (6, .ty (.int .i64))], [.box 25 (.arr 32 (.int .u8)), .box 28 (.arr 64 (.int .u8)), .dead, .dead, .dead, .own (.int .u8) 5]⟩, [(.exit 0, ⟨[(5, .lit (.own 5))], [.box 25 (.arr 32 (.int .u8)), .box 28 (.arr 64 (.int .u8)), .dead, .dead, .dead, .own (.int .u8) 5]⟩)]⟩
noncomputable def ref07_Of_3_ref07_turned_L3 (N : Nat) (X : (((Int) × ((Arr (Int) 64) × ((Int) × Unit))) × ((Arr (Int) 32) × ((Arr (Int) 64) × ((List (Int)) × Unit)))) → Option ((Unit × ((Arr (Int) 32) × ((Arr (Int) 64) × ((List (Int)) × Unit)))))) (x1 : Int) (k2 : Arr (Int) 64) (i6 : Int) (h0 : Arr (Int) 32) (h1 : Arr (Int) 64) (h2 : List (Int)) : Option ((Unit × ((Arr (Int) 32) × ((Arr (Int) 64) × ((List (Int)) × Unit))))) :=
 bif (decide (i6 < (64 : Int))) then
  Option.bind (getI k2.l i6) fun (v8 : Int) =>
  bif (roomB ((List.length h2) + (List.length ([(@Go.bits @Go.BinOp.xor @Go.IntKind.u8 v8 x1)] : List (Int)))) 1) then
   (X ((x1, (k2, ((Go.IntKind.wrap .i64 (i6 + (1 : Int))), @Unit.unit))), (h0, (h1, ((h2 ++ ([(@Go.bits @Go.BinOp.xor @Go.IntKind.u8 v8 x1)] : List (Int))), @Unit.unit)))))
  else
   none
 else
  some ((@Unit.unit, (h0, (h1, (h2, @Unit.unit)))))
noncomputable def ref07_Of_3_ref07_turned_L3_R (N : Nat) (c : (((Int) × ((Arr (Int) 64) × ((Int) × Unit))) × ((Arr (Int) 32) × ((Arr (Int) 64) × ((List (Int)) × Unit))))) : Option ((Unit × ((Arr (Int) 32) × ((Arr (Int) 64) × ((List (Int)) × Unit))))) := gl (fun X c => ref07_Of_3_ref07_turned_L3 N X c.1.1 c.1.2.1 c.1.2.2.1 c.2.1 c.2.2.1 c.2.2.2.1) N c
theorem ref07_Of_3_ref07_turned_L3_S (N : Nat) (X : (((Int) × ((Arr (Int) 64) × ((Int) × Unit))) × ((Arr (Int) 32) × ((Arr (Int) 64) × ((List (Int)) × Unit)))) → Option ((Unit × ((Arr (Int) 32) × ((Arr (Int) 64) × ((List (Int)) × Unit)))))) (x1 : Int) (k2 : Arr (Int) 64) (i6 : Int) (h0 : Arr (Int) 32) (h1 : Arr (Int) 64) (h2 : List (Int)) : (roundK Go.Proofs.Try.prog (Ev84 N) 400 [69, 3, 15] ref07_Of_3_ref07_turned_L3_I (loopAt Go.Proofs.Try.prog [69, 3, 15] 3) X ((x1, k2, i6, ()), (h0, h1, h2, ()))).run = ref07_Of_3_ref07_turned_L3 N X x1 k2 i6 h0 h1 h2 := by kernel_rfl
noncomputable def Ev85 (N : Nat) : (R : Type) → Env R := Env.addLp (Ev84 N) [69, 3, 15] 5 3 (fun R => lpK Go.Proofs.Try.prog ref07_Of_3_ref07_turned_L3_I (fun X c => ref07_Of_3_ref07_turned_L3 N X c.1.1 c.1.2.1 c.1.2.2.1 c.2.1 c.2.2.1 c.2.2.2.1) N)
theorem Ev85_ok (N : Nat) (R : Type) : EnvOK Go.Proofs.Try.prog (Ev85 N R) := EnvOK.addLp (Ev84_ok N R) (by kernel_rfl) (lpK_ok (li := ref07_Of_3_ref07_turned_L3_I) (G := fun X c => ref07_Of_3_ref07_turned_L3 N X c.1.1 c.1.2.1 c.1.2.2.1 c.2.1 c.2.2.1 c.2.2.2.1) hmx (Ev84_ok N _) (by kernel_rfl) loopAt_sub (fun (X : CT ref07_Of_3_ref07_turned_L3_I.sh → Option (OT ref07_Of_3_ref07_turned_L3_I.outs)) (c : CT ref07_Of_3_ref07_turned_L3_I.sh) => ref07_Of_3_ref07_turned_L3_S N X c.1.1 c.1.2.1 c.1.2.2.1 c.2.1 c.2.2.1 c.2.2.2.1) N)
noncomputable def ref07_Of (N : Nat) (key0 : List (Int)) (b1 : List (Int)) : Option (Arr (Int) 32) :=
 Option.bind (@ref07_Key N key0) fun (v3 : (Arr Int 64)) =>
 Option.bind (ref07_Of_2_ref07_turned_L3_R N (((54 : Int), (v3, ((0 : Int), @Unit.unit))), ((@Arr.cons Int (31 : Nat) (0 : Int) (@Arr.cons Int (30 : Nat) (0 : Int) (@Arr.cons Int (29 : Nat) (0 : Int) (@Arr.cons Int (28 : Nat) (0 : Int) (@Arr.cons Int (27 : Nat) (0 : Int) (@Arr.cons Int (26 : Nat) (0 : Int) (@Arr.cons Int (25 : Nat) (0 : Int) (@Arr.cons Int (24 : Nat) (0 : Int) (@Arr.cons Int (23 : Nat) (0 : Int) (@Arr.cons Int (22 : Nat) (0 : Int) (@Arr.cons Int (21 : Nat) (0 : Int) (@Arr.cons Int (20 : Nat) (0 : Int) (@Arr.cons Int (19 : Nat) (0 : Int) (@Arr.cons Int (18 : Nat) (0 : Int) (@Arr.cons Int (17 : Nat) (0 : Int) (@Arr.cons Int (16 : Nat) (0 : Int) (@Arr.cons Int (15 : Nat) (0 : Int) (@Arr.cons Int (14 : Nat) (0 : Int) (@Arr.cons Int (13 : Nat) (0 : Int) (@Arr.cons Int (12 : Nat) (0 : Int) (@Arr.cons Int (11 : Nat) (0 : Int) (@Arr.cons Int (10 : Nat) (0 : Int) (@Arr.cons Int (9 : Nat) (0 : Int) (@Arr.cons Int (8 : Nat) (0 : Int) (@Arr.cons Int (7 : Nat) (0 : Int) (@Arr.cons Int (6 : Nat) (0 : Int) (@Arr.cons Int (5 : Nat) (0 : Int) (@Arr.cons Int (4 : Nat) (0 : Int) (@Arr.cons Int (3 : Nat) (0 : Int) (@Arr.cons Int (2 : Nat) (0 : Int) (@Arr.cons Int (1 : Nat) (0 : Int) (@Arr.cons Int (0 : Nat) (0 : Int) (@Arr.nil Int))))))))))))))))))))))))))))))))), (v3, (([] : List (Int)), @Unit.unit))))) fun (v4 : (Unit × ((Arr Int 32) × ((Arr Int 64) × ((List Int) × Unit))))) =>
 bif (roomB ((List.length v4.2.2.2.1) + (List.length b1)) 1) then
  Option.bind (@ref06_Of N (v4.2.2.2.1 ++ b1)) fun (v5 : (Arr Int 32)) =>
  Option.bind (ref07_Of_3_ref07_turned_L3_R N (((92 : Int), (v4.2.2.1, ((0 : Int), @Unit.unit))), (v4.2.1, (v4.2.2.1, (([] : List (Int)), @Unit.unit))))) fun (v6 : (Unit × ((Arr Int 32) × ((Arr Int 64) × ((List Int) × Unit))))) =>
  bif (roomB ((List.length v6.2.2.2.1) + (List.length v5.l)) 1) then
   Option.bind (@ref06_Of N (v6.2.2.2.1 ++ v5.l)) fun (v7 : (Arr Int 32)) =>
   some (v7)
  else
   none
 else
  none
theorem ref07_Of_S (N : Nat) (key0 : List (Int)) (b1 : List (Int)) : (runK Go.Proofs.Try.prog (Ev85 N) 400 15 [(.sl (.int .u8)), (.sl (.int .u8))] [(.arr 32 (.int .u8))] (key0, b1, ())).run = ref07_Of N key0 b1 := by kernel_rfl
theorem ref07_Of_C (N : Nat) (key0 : List (Int)) (b1 : List (Int)) (y : Arr (Int) 32) (h : ref07_Of N key0 b1 = some y) : CallsK Go.Proofs.Try.prog 15 (valA [(.sl (.int .u8)), (.sl (.int .u8))] (key0, b1, ())) (tupV (valR [(.arr 32 (.int .u8))] y)) := runK_ok hmx (Ev85_ok N _) (okFn_ok (by kernel_rfl)) (by rw [ref07_Of_S]; exact h)
noncomputable def Ev86 (N : Nat) : (R : Type) → Env R := Env.addFn (Ev85 N) 15 (fun R => fnK [(.sl (.int .u8)), (.sl (.int .u8))] [(.arr 32 (.int .u8))] (fun c => ref07_Of N c.1 c.2.1))
theorem Ev86_ok (N : Nat) (R : Type) : EnvOK Go.Proofs.Try.prog (Ev86 N R) := EnvOK.addFn hmx (Ev85_ok N R) (Ev85_ok N _) (by kernel_rfl) (fun c => ref07_Of_S N c.1 c.2.1)
noncomputable def ref01_Same_L4_I : LI := ⟨26, 0, [], ⟨[(0, .ty (.sl (.int .u8))), (1, .ty (.sl (.int .u8))), (5, .ty (.int .i64))], []⟩, [(.ret, ⟨[(4, .ty .bool)], []⟩), (.exit 0, ⟨[], []⟩)]⟩
noncomputable def ref01_Same_L4 (N : Nat) (X : (((List (Int)) × ((List (Int)) × ((Int) × Unit))) × Unit) → Option (((((Bool) × Unit) × Unit) ⊕ (Unit × Unit)))) (a0 : List (Int)) (b1 : List (Int)) (i5 : Int) : Option (((((Bool) × Unit) × Unit) ⊕ (Unit × Unit))) :=
 bif (decide (i5 < (((List.length a0) : Nat) : Int))) then
  Option.bind (getI a0 i5) fun (v5 : Int) =>
  Option.bind (getI b1 i5) fun (v6 : Int) =>
  bif (!(decide (v5 = v6))) then
   some ((.inl ((@Bool.false, @Unit.unit), @Unit.unit)))
  else
   (X ((a0, (b1, ((Go.IntKind.wrap .i64 (i5 + (1 : Int))), @Unit.unit))), @Unit.unit))
 else
  some ((.inr (@Unit.unit, @Unit.unit)))
noncomputable def ref01_Same_L4_R (N : Nat) (c : (((List (Int)) × ((List (Int)) × ((Int) × Unit))) × Unit)) : Option (((((Bool) × Unit) × Unit) ⊕ (Unit × Unit))) := gl (fun X c => ref01_Same_L4 N X c.1.1 c.1.2.1 c.1.2.2.1) N c
theorem ref01_Same_L4_S (N : Nat) (X : (((List (Int)) × ((List (Int)) × ((Int) × Unit))) × Unit) → Option (((((Bool) × Unit) × Unit) ⊕ (Unit × Unit)))) (a0 : List (Int)) (b1 : List (Int)) (i5 : Int) : (roundK Go.Proofs.Try.prog (Ev86 N) 400 [20] ref01_Same_L4_I (loopAt Go.Proofs.Try.prog [20] 4) X ((a0, b1, i5, ()), ())).run = ref01_Same_L4 N X a0 b1 i5 := by kernel_rfl
noncomputable def Ev87 (N : Nat) : (R : Type) → Env R := Env.addLp (Ev86 N) [20] 0 4 (fun R => lpK Go.Proofs.Try.prog ref01_Same_L4_I (fun X c => ref01_Same_L4 N X c.1.1 c.1.2.1 c.1.2.2.1) N)
theorem Ev87_ok (N : Nat) (R : Type) : EnvOK Go.Proofs.Try.prog (Ev87 N R) := EnvOK.addLp (Ev86_ok N R) (by kernel_rfl) (lpK_ok (li := ref01_Same_L4_I) (G := fun X c => ref01_Same_L4 N X c.1.1 c.1.2.1 c.1.2.2.1) hmx (Ev86_ok N _) (by kernel_rfl) loopAt_sub (fun (X : CT ref01_Same_L4_I.sh → Option (OT ref01_Same_L4_I.outs)) (c : CT ref01_Same_L4_I.sh) => ref01_Same_L4_S N X c.1.1 c.1.2.1 c.1.2.2.1) N)
noncomputable def ref01_Same (N : Nat) (a0 : List (Int)) (b1 : List (Int)) : Option (Bool) :=
 bif (!(decide ((((List.length a0) : Nat) : Int) = (((List.length b1) : Nat) : Int)))) then
  some (@Bool.false)
 else
  Option.bind (ref01_Same_L4_R N ((a0, (b1, ((0 : Int), @Unit.unit))), @Unit.unit)) fun (v3 : (((Bool × Unit) × Unit) ⊕ (Unit × Unit))) =>
  Sum.elim
   (fun (v4 : ((Bool × Unit) × Unit)) =>
   some (v4.1.1))
   (fun (v4 : (Unit × Unit)) =>
   some (@Bool.true)) v3
theorem ref01_Same_S (N : Nat) (a0 : List (Int)) (b1 : List (Int)) : (runK Go.Proofs.Try.prog (Ev87 N) 400 20 [(.sl (.int .u8)), (.sl (.int .u8))] [.bool] (a0, b1, ())).run = ref01_Same N a0 b1 := by kernel_rfl
theorem ref01_Same_C (N : Nat) (a0 : List (Int)) (b1 : List (Int)) (y : Bool) (h : ref01_Same N a0 b1 = some y) : CallsK Go.Proofs.Try.prog 20 (valA [(.sl (.int .u8)), (.sl (.int .u8))] (a0, b1, ())) (tupV (valR [.bool] y)) := runK_ok hmx (Ev87_ok N _) (okFn_ok (by kernel_rfl)) (by rw [ref01_Same_S]; exact h)
noncomputable def Ev88 (N : Nat) : (R : Type) → Env R := Env.addFn (Ev87 N) 20 (fun R => fnK [(.sl (.int .u8)), (.sl (.int .u8))] [.bool] (fun c => ref01_Same N c.1 c.2.1))
theorem Ev88_ok (N : Nat) (R : Type) : EnvOK Go.Proofs.Try.prog (Ev88 N R) := EnvOK.addFn hmx (Ev87_ok N R) (Ev87_ok N _) (by kernel_rfl) (fun c => ref01_Same_S N c.1 c.2.1)
noncomputable def Ev89 (N : Nat) : (R : Type) → Env R := Env.addInl (Ev88 N) [79, 106]
theorem Ev89_ok (N : Nat) (R : Type) : EnvOK Go.Proofs.Try.prog (Ev89 N R) := EnvOK.addInl (Ev88_ok N R) (by kernel_rfl)
noncomputable def prf_may (N : Nat) (length0 : Int) : Option (Int) :=
 bif (decide (length0 < (1 : Int))) then
  some ((1 : Int))
 else
  bif (decide ((8160 : Int) < length0)) then
   some ((8 : Int))
  else
   some ((0 : Int))
theorem prf_may_S (N : Nat) (length0 : Int) : (runK Go.Proofs.Try.prog (Ev89 N) 400 78 [(.int .i64)] [(.int .i64)] (length0, ())).run = prf_may N length0 := by kernel_rfl
noncomputable def Ev90 (N : Nat) : (R : Type) → Env R := Env.addFn (Ev89 N) 78 (fun R => fnK [(.int .i64)] [(.int .i64)] (fun c => prf_may N c.1))
theorem Ev90_ok (N : Nat) (R : Type) : EnvOK Go.Proofs.Try.prog (Ev90 N R) := EnvOK.addFn hmx (Ev89_ok N R) (Ev89_ok N _) (by kernel_rfl) (fun c => prf_may_S N c.1)
noncomputable def prf_Derive_L6_I : LI := ⟨31, 0, [(10, 5)], ⟨[(2, .ty (.int .i64)), (9, .lit (.clo 106 [.box 0 0, .box 1 0, .box 2 0, .box 3 0, .box 4 0])), (10, .lit (.own 5))], [.box 5 (.int .u8), .box 22 (.sl (.int .u8)), .box 22 (.sl (.int .u8)), .box 22 (.sl (.int .u8)), .box 22 (.sl (.int .u8)), .own (.int .u8) 5]⟩, [(.exit 0, ⟨[(2, .ty (.int .i64)), (10, .lit (.own 0))], [.own (.int .u8) 5]⟩)]⟩
noncomputable def prf_Derive_L6 (N : Nat) (X : (((Int) × Unit) × ((Int) × ((List (Int)) × ((List (Int)) × ((List (Int)) × ((List (Int)) × ((List (Int)) × Unit))))))) → Option ((((Int) × Unit) × ((List (Int)) × Unit)))) (length2 : Int) (h0 : Int) (h1 : List (Int)) (h2 : List (Int)) (h3 : List (Int)) (h4 : List (Int)) (h5 : List (Int)) : Option ((((Int) × Unit) × ((List (Int)) × Unit))) :=
 bif (decide ((((List.length h5) : Nat) : Int) < length2)) then
  Option.bind (@hmac_Of N h1 ([h2, h3, h4, ([(Go.IntKind.wrap .u8 (h0 + (1 : Int)))] : List (Int))] : List ((List Int)))) fun (v9 : (Arr Int 32)) =>
  bif (roomB ((List.length h5) + (List.length v9.l)) 1) then
   (X ((length2, @Unit.unit), ((Go.IntKind.wrap .u8 (h0 + (1 : Int))), (h1, (v9.l, (h3, (h4, ((h5 ++ v9.l), @Unit.unit))))))))
  else
   none
 else
  some (((length2, @Unit.unit), (h5, @Unit.unit)))
noncomputable def prf_Derive_L6_R (N : Nat) (c : (((Int) × Unit) × ((Int) × ((List (Int)) × ((List (Int)) × ((List (Int)) × ((List (Int)) × ((List (Int)) × Unit)))))))) : Option ((((Int) × Unit) × ((List (Int)) × Unit))) := gl (fun X c => prf_Derive_L6 N X c.1.1 c.2.1 c.2.2.1 c.2.2.2.1 c.2.2.2.2.1 c.2.2.2.2.2.1 c.2.2.2.2.2.2.1) N c
theorem prf_Derive_L6_S (N : Nat) (X : (((Int) × Unit) × ((Int) × ((List (Int)) × ((List (Int)) × ((List (Int)) × ((List (Int)) × ((List (Int)) × Unit))))))) → Option ((((Int) × Unit) × ((List (Int)) × Unit)))) (length2 : Int) (h0 : Int) (h1 : List (Int)) (h2 : List (Int)) (h3 : List (Int)) (h4 : List (Int)) (h5 : List (Int)) : (roundK Go.Proofs.Try.prog (Ev90 N) 400 [25] prf_Derive_L6_I (loopAt Go.Proofs.Try.prog [25] 6) X ((length2, ()), (h0, h1, h2, h3, h4, h5, ()))).run = prf_Derive_L6 N X length2 h0 h1 h2 h3 h4 h5 := by kernel_rfl
noncomputable def Ev91 (N : Nat) : (R : Type) → Env R := Env.addLp (Ev90 N) [25] 0 6 (fun R => lpK Go.Proofs.Try.prog prf_Derive_L6_I (fun X c => prf_Derive_L6 N X c.1.1 c.2.1 c.2.2.1 c.2.2.2.1 c.2.2.2.2.1 c.2.2.2.2.2.1 c.2.2.2.2.2.2.1) N)
theorem Ev91_ok (N : Nat) (R : Type) : EnvOK Go.Proofs.Try.prog (Ev91 N R) := EnvOK.addLp (Ev90_ok N R) (by kernel_rfl) (lpK_ok (li := prf_Derive_L6_I) (G := fun X c => prf_Derive_L6 N X c.1.1 c.2.1 c.2.2.1 c.2.2.2.1 c.2.2.2.2.1 c.2.2.2.2.2.1 c.2.2.2.2.2.2.1) hmx (Ev90_ok N _) (by kernel_rfl) loopAt_sub (fun (X : CT prf_Derive_L6_I.sh → Option (OT prf_Derive_L6_I.outs)) (c : CT prf_Derive_L6_I.sh) => prf_Derive_L6_S N X c.1.1 c.2.1 c.2.2.1 c.2.2.2.1 c.2.2.2.2.1 c.2.2.2.2.2.1 c.2.2.2.2.2.2.1) N)
noncomputable def prf_Derive (N : Nat) (key0 : List (Int)) (seed1 : List (Int)) (length2 : Int) : Option ((List (Int)) × Int) :=
 Option.bind (@prf_may N length2) fun (v4 : Int) =>
 bif (!(decide (v4 = (0 : Int)))) then
  some ((([] : List (Int)), v4))
 else
  Option.bind (@octs_Put N (Go.IntKind.wrap .u64 length2) (2 : Int) @Bool.true) fun (v5 : ((List Int) × Int)) =>
  Option.bind (prf_Derive_L6_R N ((length2, @Unit.unit), ((0 : Int), (key0, (([] : List (Int)), (seed1, (v5.1, (([] : List (Int)), @Unit.unit)))))))) fun (v6 : ((Int × Unit) × ((List Int) × Unit))) =>
  Option.bind (takeI v6.2.1 v6.1.1) fun (v7 : (List Int)) =>
  some ((v7, (0 : Int)))
theorem prf_Derive_S (N : Nat) (key0 : List (Int)) (seed1 : List (Int)) (length2 : Int) : (runK Go.Proofs.Try.prog (Ev91 N) 400 25 [(.sl (.int .u8)), (.sl (.int .u8)), (.int .i64)] [(.sl (.int .u8)), (.int .i64)] (key0, seed1, length2, ())).run = prf_Derive N key0 seed1 length2 := by kernel_rfl
theorem prf_Derive_C (N : Nat) (key0 : List (Int)) (seed1 : List (Int)) (length2 : Int) (y : (List (Int)) × Int) (h : prf_Derive N key0 seed1 length2 = some y) : CallsK Go.Proofs.Try.prog 25 (valA [(.sl (.int .u8)), (.sl (.int .u8)), (.int .i64)] (key0, seed1, length2, ())) (tupV (valR [(.sl (.int .u8)), (.int .i64)] y)) := runK_ok hmx (Ev91_ok N _) (okFn_ok (by kernel_rfl)) (by rw [prf_Derive_S]; exact h)
noncomputable def Ev92 (N : Nat) : (R : Type) → Env R := Env.addFn (Ev91 N) 25 (fun R => fnK [(.sl (.int .u8)), (.sl (.int .u8)), (.int .i64)] [(.sl (.int .u8)), (.int .i64)] (fun c => prf_Derive N c.1 c.2.1 c.2.2.1))
theorem Ev92_ok (N : Nat) (R : Type) : EnvOK Go.Proofs.Try.prog (Ev92 N R) := EnvOK.addFn hmx (Ev91_ok N R) (Ev91_ok N _) (by kernel_rfl) (fun c => prf_Derive_S N c.1 c.2.1 c.2.2.1)
noncomputable def Ev93 (N : Nat) : (R : Type) → Env R := Env.addBx (Ev92 N) [(28, 0)]
theorem Ev93_ok (N : Nat) (R : Type) : EnvOK Go.Proofs.Try.prog (Ev93 N R) := EnvOK.addBx (Ev92_ok N R) [(28, 0)]
noncomputable def prf_Bind (N : Nat) (upper0 : Arr (Int) 32) : Option (Arr (Int) 32) :=
 Option.bind (@prf_Derive N upper0.l ([(83 : Int), (83 : Int), (84 : Int), (80 : Int), (32 : Int), (105 : Int), (110 : Int), (110 : Int), (101 : Int), (114 : Int), (32 : Int), (109 : Int), (101 : Int), (116 : Int), (104 : Int), (111 : Int), (100 : Int), (32 : Int), (100 : Int), (101 : Int), (114 : Int), (105 : Int), (118 : Int), (101 : Int), (100 : Int), (32 : Int), (67 : Int), (77 : Int), (75 : Int)] : List (Int)) (32 : Int)) fun (v2 : ((List Int) × Int)) =>
 Option.bind (@toArr Int (32 : Nat) v2.1) fun (v3 : (Arr Int 32)) =>
 some (v3)
theorem prf_Bind_S (N : Nat) (upper0 : Arr (Int) 32) : (runK Go.Proofs.Try.prog (Ev93 N) 400 28 [(.arr 32 (.int .u8))] [(.arr 32 (.int .u8))] (upper0, ())).run = prf_Bind N upper0 := by kernel_rfl
theorem prf_Bind_C (N : Nat) (upper0 : Arr (Int) 32) (y : Arr (Int) 32) (h : prf_Bind N upper0 = some y) : CallsK Go.Proofs.Try.prog 28 (valA [(.arr 32 (.int .u8))] (upper0, ())) (tupV (valR [(.arr 32 (.int .u8))] y)) := runK_ok hmx (Ev93_ok N _) (okFn_ok (by kernel_rfl)) (by rw [prf_Bind_S]; exact h)
noncomputable def Ev94 (N : Nat) : (R : Type) → Env R := Env.addFn (Ev93 N) 28 (fun R => fnK [(.arr 32 (.int .u8))] [(.arr 32 (.int .u8))] (fun c => prf_Bind N c.1))
theorem Ev94_ok (N : Nat) (R : Type) : EnvOK Go.Proofs.Try.prog (Ev94 N R) := EnvOK.addFn hmx (Ev93_ok N R) (Ev93_ok N _) (by kernel_rfl) (fun c => prf_Bind_S N c.1)
noncomputable def Ev95 (N : Nat) : (R : Type) → Env R := Env.addBx (Ev94 N) [(30, 0)]
theorem Ev95_ok (N : Nat) (R : Type) : EnvOK Go.Proofs.Try.prog (Ev95 N R) := EnvOK.addBx (Ev94_ok N R) [(30, 0)]
noncomputable def prf_Seal (N : Nat) (bind0 : Arr (Int) 32) (packet1 : List (Int)) : Option (Arr (Int) 32) :=
 Option.bind (@hmac_Of N bind0.l ([packet1] : List ((List Int)))) fun (v3 : (Arr Int 32)) =>
 some (v3)
theorem prf_Seal_S (N : Nat) (bind0 : Arr (Int) 32) (packet1 : List (Int)) : (runK Go.Proofs.Try.prog (Ev95 N) 400 30 [(.arr 32 (.int .u8)), (.sl (.int .u8))] [(.arr 32 (.int .u8))] (bind0, packet1, ())).run = prf_Seal N bind0 packet1 := by kernel_rfl
theorem prf_Seal_C (N : Nat) (bind0 : Arr (Int) 32) (packet1 : List (Int)) (y : Arr (Int) 32) (h : prf_Seal N bind0 packet1 = some y) : CallsK Go.Proofs.Try.prog 30 (valA [(.arr 32 (.int .u8)), (.sl (.int .u8))] (bind0, packet1, ())) (tupV (valR [(.arr 32 (.int .u8))] y)) := runK_ok hmx (Ev95_ok N _) (okFn_ok (by kernel_rfl)) (by rw [prf_Seal_S]; exact h)
noncomputable def Ev96 (N : Nat) : (R : Type) → Env R := Env.addFn (Ev95 N) 30 (fun R => fnK [(.arr 32 (.int .u8)), (.sl (.int .u8))] [(.arr 32 (.int .u8))] (fun c => prf_Seal N c.1 c.2.1))
theorem Ev96_ok (N : Nat) (R : Type) : EnvOK Go.Proofs.Try.prog (Ev96 N R) := EnvOK.addFn hmx (Ev95_ok N R) (Ev95_ok N _) (by kernel_rfl) (fun c => prf_Seal_S N c.1 c.2.1)
noncomputable def Ev97 (N : Nat) : (R : Type) → Env R := Env.addBx (Ev96 N) [(31, 0)]
theorem Ev97_ok (N : Nat) (R : Type) : EnvOK Go.Proofs.Try.prog (Ev97 N R) := EnvOK.addBx (Ev96_ok N R) [(31, 0)]
noncomputable def prf_Check (N : Nat) (bind0 : Arr (Int) 32) (packet1 : List (Int)) (x2 : List (Int)) : Option (Bool) :=
 Option.bind (@hmac_Check N bind0.l x2 ([packet1] : List ((List Int)))) fun (v4 : Bool) =>
 some (v4)
theorem prf_Check_S (N : Nat) (bind0 : Arr (Int) 32) (packet1 : List (Int)) (x2 : List (Int)) : (runK Go.Proofs.Try.prog (Ev97 N) 400 31 [(.arr 32 (.int .u8)), (.sl (.int .u8)), (.sl (.int .u8))] [.bool] (bind0, packet1, x2, ())).run = prf_Check N bind0 packet1 x2 := by kernel_rfl
theorem prf_Check_C (N : Nat) (bind0 : Arr (Int) 32) (packet1 : List (Int)) (x2 : List (Int)) (y : Bool) (h : prf_Check N bind0 packet1 x2 = some y) : CallsK Go.Proofs.Try.prog 31 (valA [(.arr 32 (.int .u8)), (.sl (.int .u8)), (.sl (.int .u8))] (bind0, packet1, x2, ())) (tupV (valR [.bool] y)) := runK_ok hmx (Ev97_ok N _) (okFn_ok (by kernel_rfl)) (by rw [prf_Check_S]; exact h)
noncomputable def Ev98 (N : Nat) : (R : Type) → Env R := Env.addFn (Ev97 N) 31 (fun R => fnK [(.arr 32 (.int .u8)), (.sl (.int .u8)), (.sl (.int .u8))] [.bool] (fun c => prf_Check N c.1 c.2.1 c.2.2.1))
theorem Ev98_ok (N : Nat) (R : Type) : EnvOK Go.Proofs.Try.prog (Ev98 N R) := EnvOK.addFn hmx (Ev97_ok N R) (Ev97_ok N _) (by kernel_rfl) (fun c => prf_Check_S N c.1 c.2.1 c.2.2.1)
noncomputable def prf_Pieces (N : Nat) (key0 : List (Int)) (seed1 : List (Int)) (length2 : Int) : Option (Int) :=
 Option.bind (@prf_may N length2) fun (v4 : Int) =>
 bif (!(decide (v4 = (0 : Int)))) then
  some ((0 : Int))
 else
  some ((Go.IntKind.wrap .i64 (@Int.tdiv (Go.IntKind.wrap .i64 ((Go.IntKind.wrap .i64 (length2 + (32 : Int))) - (1 : Int))) (32 : Int))))
theorem prf_Pieces_S (N : Nat) (key0 : List (Int)) (seed1 : List (Int)) (length2 : Int) : (runK Go.Proofs.Try.prog (Ev98 N) 400 27 [(.sl (.int .u8)), (.sl (.int .u8)), (.int .i64)] [(.int .i64)] (key0, seed1, length2, ())).run = prf_Pieces N key0 seed1 length2 := by kernel_rfl
theorem prf_Pieces_C (N : Nat) (key0 : List (Int)) (seed1 : List (Int)) (length2 : Int) (y : Int) (h : prf_Pieces N key0 seed1 length2 = some y) : CallsK Go.Proofs.Try.prog 27 (valA [(.sl (.int .u8)), (.sl (.int .u8)), (.int .i64)] (key0, seed1, length2, ())) (tupV (valR [(.int .i64)] y)) := runK_ok hmx (Ev98_ok N _) (okFn_ok (by kernel_rfl)) (by rw [prf_Pieces_S]; exact h)
noncomputable def Ev99 (N : Nat) : (R : Type) → Env R := Env.addFn (Ev98 N) 27 (fun R => fnK [(.sl (.int .u8)), (.sl (.int .u8)), (.int .i64)] [(.int .i64)] (fun c => prf_Pieces N c.1 c.2.1 c.2.2.1))
theorem Ev99_ok (N : Nat) (R : Type) : EnvOK Go.Proofs.Try.prog (Ev99 N R) := EnvOK.addFn hmx (Ev98_ok N R) (Ev98_ok N _) (by kernel_rfl) (fun c => prf_Pieces_S N c.1 c.2.1 c.2.2.1)
noncomputable def Ev100 (N : Nat) : (R : Type) → Env R := Env.addMv (Ev99 N) [(26, 10)]
theorem Ev100_ok (N : Nat) (R : Type) : EnvOK Go.Proofs.Try.prog (Ev100 N R) := EnvOK.addMv (Ev99_ok N R) [(26, 10)]
noncomputable def ref13_Derive_L7_I : LI := ⟨50, 0, [(9, 5)], ⟨[(0, .ty (.sl (.int .u8))), (1, .ty (.sl (.int .u8))), (2, .ty (.int .i64)), (9, .lit (.own 0)), (10, .ty (.sl (.int .u8))), (11, .ty (.int .i64))], [.own (.int .u8) 5]⟩, [(.exit 0, ⟨[(2, .ty (.int .i64)), (9, .lit (.own 0)), (11, .ty (.int .i64))], [.own (.int .u8) 5]⟩)]⟩
noncomputable def ref13_Derive_L7 (N : Nat) (X : (((List (Int)) × ((List (Int)) × ((Int) × ((List (Int)) × ((Int) × Unit))))) × ((List (Int)) × Unit)) → Option ((((Int) × ((Int) × Unit)) × ((List (Int)) × Unit)))) (key0 : List (Int)) (seed1 : List (Int)) (length2 : Int) (last10 : List (Int)) (n11 : Int) (h0 : List (Int)) : Option ((((Int) × ((Int) × Unit)) × ((List (Int)) × Unit))) :=
 bif (decide ((((List.length h0) : Nat) : Int) < length2)) then
  bif (roomB (List.length last10) 1) then
   bif (roomB ((List.length last10) + (List.length seed1)) 1) then
    bif (roomB ((List.length (last10 ++ seed1)) + (List.length ([(Go.IntKind.wrap .u8 (@Int.tmod length2 (256 : Int))), (Go.IntKind.wrap .u8 (Go.IntKind.wrap .i64 (@Int.tdiv length2 (256 : Int)))), (Go.IntKind.wrap .u8 (Go.IntKind.wrap .i64 (n11 + (1 : Int))))] : List (Int)))) 1) then
     Option.bind (@ref07_Of N key0 ((last10 ++ seed1) ++ ([(Go.IntKind.wrap .u8 (@Int.tmod length2 (256 : Int))), (Go.IntKind.wrap .u8 (Go.IntKind.wrap .i64 (@Int.tdiv length2 (256 : Int)))), (Go.IntKind.wrap .u8 (Go.IntKind.wrap .i64 (n11 + (1 : Int))))] : List (Int)))) fun (v8 : (Arr Int 32)) =>
     bif (roomB ((List.length h0) + (List.length v8.l)) 1) then
      (X ((key0, (seed1, (length2, (v8.l, ((Go.IntKind.wrap .i64 (n11 + (1 : Int))), @Unit.unit))))), ((h0 ++ v8.l), @Unit.unit)))
     else
      none
    else
     none
   else
    none
  else
   none
 else
  some (((length2, (n11, @Unit.unit)), (h0, @Unit.unit)))
noncomputable def ref13_Derive_L7_R (N : Nat) (c : (((List (Int)) × ((List (Int)) × ((Int) × ((List (Int)) × ((Int) × Unit))))) × ((List (Int)) × Unit))) : Option ((((Int) × ((Int) × Unit)) × ((List (Int)) × Unit))) := gl (fun X c => ref13_Derive_L7 N X c.1.1 c.1.2.1 c.1.2.2.1 c.1.2.2.2.1 c.1.2.2.2.2.1 c.2.1) N c
theorem ref13_Derive_L7_S (N : Nat) (X : (((List (Int)) × ((List (Int)) × ((Int) × ((List (Int)) × ((Int) × Unit))))) × ((List (Int)) × Unit)) → Option ((((Int) × ((Int) × Unit)) × ((List (Int)) × Unit)))) (key0 : List (Int)) (seed1 : List (Int)) (length2 : Int) (last10 : List (Int)) (n11 : Int) (h0 : List (Int)) : (roundK Go.Proofs.Try.prog (Ev100 N) 400 [26] ref13_Derive_L7_I (loopAt Go.Proofs.Try.prog [26] 7) X ((key0, seed1, length2, last10, n11, ()), (h0, ()))).run = ref13_Derive_L7 N X key0 seed1 length2 last10 n11 h0 := by kernel_rfl
noncomputable def Ev101 (N : Nat) : (R : Type) → Env R := Env.addLp (Ev100 N) [26] 0 7 (fun R => lpK Go.Proofs.Try.prog ref13_Derive_L7_I (fun X c => ref13_Derive_L7 N X c.1.1 c.1.2.1 c.1.2.2.1 c.1.2.2.2.1 c.1.2.2.2.2.1 c.2.1) N)
theorem Ev101_ok (N : Nat) (R : Type) : EnvOK Go.Proofs.Try.prog (Ev101 N R) := EnvOK.addLp (Ev100_ok N R) (by kernel_rfl) (lpK_ok (li := ref13_Derive_L7_I) (G := fun X c => ref13_Derive_L7 N X c.1.1 c.1.2.1 c.1.2.2.1 c.1.2.2.2.1 c.1.2.2.2.2.1 c.2.1) hmx (Ev100_ok N _) (by kernel_rfl) loopAt_sub (fun (X : CT ref13_Derive_L7_I.sh → Option (OT ref13_Derive_L7_I.outs)) (c : CT ref13_Derive_L7_I.sh) => ref13_Derive_L7_S N X c.1.1 c.1.2.1 c.1.2.2.1 c.1.2.2.2.1 c.1.2.2.2.2.1 c.2.1) N)
noncomputable def ref13_Derive (N : Nat) (key0 : List (Int)) (seed1 : List (Int)) (length2 : Int) : Option ((List (Int)) × (Int) × Int) :=
 bif (decide (length2 < (1 : Int))) then
  some ((([] : List (Int)), ((0 : Int), (1 : Int))))
 else
  bif (decide ((8160 : Int) < length2)) then
   some ((([] : List (Int)), ((0 : Int), (8 : Int))))
  else
   Option.bind (ref13_Derive_L7_R N ((key0, (seed1, (length2, (([] : List (Int)), ((0 : Int), @Unit.unit))))), (([] : List (Int)), @Unit.unit))) fun (v4 : ((Int × (Int × Unit)) × ((List Int) × Unit))) =>
   Option.bind (takeI v4.2.1 v4.1.1) fun (v5 : (List Int)) =>
   some ((v5, (v4.1.2.1, (0 : Int))))
theorem ref13_Derive_S (N : Nat) (key0 : List (Int)) (seed1 : List (Int)) (length2 : Int) : (runK Go.Proofs.Try.prog (Ev101 N) 400 26 [(.sl (.int .u8)), (.sl (.int .u8)), (.int .i64)] [(.sl (.int .u8)), (.int .i64), (.int .i64)] (key0, seed1, length2, ())).run = ref13_Derive N key0 seed1 length2 := by kernel_rfl
theorem ref13_Derive_C (N : Nat) (key0 : List (Int)) (seed1 : List (Int)) (length2 : Int) (y : (List (Int)) × (Int) × Int) (h : ref13_Derive N key0 seed1 length2 = some y) : CallsK Go.Proofs.Try.prog 26 (valA [(.sl (.int .u8)), (.sl (.int .u8)), (.int .i64)] (key0, seed1, length2, ())) (tupV (valR [(.sl (.int .u8)), (.int .i64), (.int .i64)] y)) := runK_ok hmx (Ev101_ok N _) (okFn_ok (by kernel_rfl)) (by rw [ref13_Derive_S]; exact h)
noncomputable def Ev102 (N : Nat) : (R : Type) → Env R := Env.addFn (Ev101 N) 26 (fun R => fnK [(.sl (.int .u8)), (.sl (.int .u8)), (.int .i64)] [(.sl (.int .u8)), (.int .i64), (.int .i64)] (fun c => ref13_Derive N c.1 c.2.1 c.2.2.1))
theorem Ev102_ok (N : Nat) (R : Type) : EnvOK Go.Proofs.Try.prog (Ev102 N R) := EnvOK.addFn hmx (Ev101_ok N R) (Ev101_ok N _) (by kernel_rfl) (fun c => ref13_Derive_S N c.1 c.2.1 c.2.2.1)
noncomputable def Ev103 (N : Nat) : (R : Type) → Env R := Env.addBx (Ev102 N) [(29, 0)]
theorem Ev103_ok (N : Nat) (R : Type) : EnvOK Go.Proofs.Try.prog (Ev103 N R) := EnvOK.addBx (Ev102_ok N R) [(29, 0)]
noncomputable def ref13_Bind_L4_I : LI := ⟨27, 0, [], ⟨[(2, .lit (.box 0 0)), (3, .ty (.sl (.int .u8))), (6, .lit (.box 1 0)), (7, .ty (.int .i64))], [.box 25 (.arr 32 (.int .u8)), .box 25 (.arr 32 (.int .u8))]⟩, [(.exit 0, ⟨[(2, .lit (.box 0 0)), (6, .lit (.box 1 0))], [.box 25 (.arr 32 (.int .u8)), .box 25 (.arr 32 (.int .u8))]⟩)]⟩
noncomputable def ref13_Bind_L4 (N : Nat) (X : (((List (Int)) × ((Int) × Unit)) × ((Arr (Int) 32) × ((Arr (Int) 32) × Unit))) → Option ((Unit × ((Arr (Int) 32) × ((Arr (Int) 32) × Unit))))) (b3 : List (Int)) (i7 : Int) (h0 : Arr (Int) 32) (h1 : Arr (Int) 32) : Option ((Unit × ((Arr (Int) 32) × ((Arr (Int) 32) × Unit)))) :=
 bif (decide (i7 < (32 : Int))) then
  Option.bind (getI b3 i7) fun (v6 : Int) =>
  bif (decide ((0 : Int) ≤ i7 ∧ i7 < (((32 : Nat) : Nat) : Int))) then
   Option.bind (@GetElem?.getElem? (List Int) Nat Int (fun (as7 : (List Int)) => (fun (i8 : Nat) => (@LT.lt Nat @instLTNat i8 (List.length as7)))) (@List.instGetElem?NatLtLength Int) h1.l (Int.toNat i7)) fun (v7 : Int) =>
   (X ((b3, ((Go.IntKind.wrap .i64 (i7 + (1 : Int))), @Unit.unit)), (h0, ((h1.set (Int.toNat i7) v6), @Unit.unit))))
  else
   none
 else
  some ((@Unit.unit, (h0, (h1, @Unit.unit))))
noncomputable def ref13_Bind_L4_R (N : Nat) (c : (((List (Int)) × ((Int) × Unit)) × ((Arr (Int) 32) × ((Arr (Int) 32) × Unit)))) : Option ((Unit × ((Arr (Int) 32) × ((Arr (Int) 32) × Unit)))) := gl (fun X c => ref13_Bind_L4 N X c.1.1 c.1.2.1 c.2.1 c.2.2.1) N c
theorem ref13_Bind_L4_S (N : Nat) (X : (((List (Int)) × ((Int) × Unit)) × ((Arr (Int) 32) × ((Arr (Int) 32) × Unit))) → Option ((Unit × ((Arr (Int) 32) × ((Arr (Int) 32) × Unit))))) (b3 : List (Int)) (i7 : Int) (h0 : Arr (Int) 32) (h1 : Arr (Int) 32) : (roundK Go.Proofs.Try.prog (Ev103 N) 400 [29] ref13_Bind_L4_I (loopAt Go.Proofs.Try.prog [29] 4) X ((b3, i7, ()), (h0, h1, ()))).run = ref13_Bind_L4 N X b3 i7 h0 h1 := by kernel_rfl
noncomputable def Ev104 (N : Nat) : (R : Type) → Env R := Env.addLp (Ev103 N) [29] 0 4 (fun R => lpK Go.Proofs.Try.prog ref13_Bind_L4_I (fun X c => ref13_Bind_L4 N X c.1.1 c.1.2.1 c.2.1 c.2.2.1) N)
theorem Ev104_ok (N : Nat) (R : Type) : EnvOK Go.Proofs.Try.prog (Ev104 N R) := EnvOK.addLp (Ev103_ok N R) (by kernel_rfl) (lpK_ok (li := ref13_Bind_L4_I) (G := fun X c => ref13_Bind_L4 N X c.1.1 c.1.2.1 c.2.1 c.2.2.1) hmx (Ev103_ok N _) (by kernel_rfl) loopAt_sub (fun (X : CT ref13_Bind_L4_I.sh → Option (OT ref13_Bind_L4_I.outs)) (c : CT ref13_Bind_L4_I.sh) => ref13_Bind_L4_S N X c.1.1 c.1.2.1 c.2.1 c.2.2.1) N)
noncomputable def ref13_Bind (N : Nat) (upper0 : Arr (Int) 32) : Option (Arr (Int) 32) :=
 Option.bind (@ref13_Derive N upper0.l ([(83 : Int), (83 : Int), (84 : Int), (80 : Int), (32 : Int), (105 : Int), (110 : Int), (110 : Int), (101 : Int), (114 : Int), (32 : Int), (109 : Int), (101 : Int), (116 : Int), (104 : Int), (111 : Int), (100 : Int), (32 : Int), (100 : Int), (101 : Int), (114 : Int), (105 : Int), (118 : Int), (101 : Int), (100 : Int), (32 : Int), (67 : Int), (77 : Int), (75 : Int)] : List (Int)) (32 : Int)) fun (v2 : ((List Int) × (Int × Int))) =>
 Option.bind (ref13_Bind_L4_R N ((v2.1, ((0 : Int), @Unit.unit)), ((@Arr.cons Int (31 : Nat) (0 : Int) (@Arr.cons Int (30 : Nat) (0 : Int) (@Arr.cons Int (29 : Nat) (0 : Int) (@Arr.cons Int (28 : Nat) (0 : Int) (@Arr.cons Int (27 : Nat) (0 : Int) (@Arr.cons Int (26 : Nat) (0 : Int) (@Arr.cons Int (25 : Nat) (0 : Int) (@Arr.cons Int (24 : Nat) (0 : Int) (@Arr.cons Int (23 : Nat) (0 : Int) (@Arr.cons Int (22 : Nat) (0 : Int) (@Arr.cons Int (21 : Nat) (0 : Int) (@Arr.cons Int (20 : Nat) (0 : Int) (@Arr.cons Int (19 : Nat) (0 : Int) (@Arr.cons Int (18 : Nat) (0 : Int) (@Arr.cons Int (17 : Nat) (0 : Int) (@Arr.cons Int (16 : Nat) (0 : Int) (@Arr.cons Int (15 : Nat) (0 : Int) (@Arr.cons Int (14 : Nat) (0 : Int) (@Arr.cons Int (13 : Nat) (0 : Int) (@Arr.cons Int (12 : Nat) (0 : Int) (@Arr.cons Int (11 : Nat) (0 : Int) (@Arr.cons Int (10 : Nat) (0 : Int) (@Arr.cons Int (9 : Nat) (0 : Int) (@Arr.cons Int (8 : Nat) (0 : Int) (@Arr.cons Int (7 : Nat) (0 : Int) (@Arr.cons Int (6 : Nat) (0 : Int) (@Arr.cons Int (5 : Nat) (0 : Int) (@Arr.cons Int (4 : Nat) (0 : Int) (@Arr.cons Int (3 : Nat) (0 : Int) (@Arr.cons Int (2 : Nat) (0 : Int) (@Arr.cons Int (1 : Nat) (0 : Int) (@Arr.cons Int (0 : Nat) (0 : Int) (@Arr.nil Int))))))))))))))))))))))))))))))))), ((@Arr.cons Int (31 : Nat) (0 : Int) (@Arr.cons Int (30 : Nat) (0 : Int) (@Arr.cons Int (29 : Nat) (0 : Int) (@Arr.cons Int (28 : Nat) (0 : Int) (@Arr.cons Int (27 : Nat) (0 : Int) (@Arr.cons Int (26 : Nat) (0 : Int) (@Arr.cons Int (25 : Nat) (0 : Int) (@Arr.cons Int (24 : Nat) (0 : Int) (@Arr.cons Int (23 : Nat) (0 : Int) (@Arr.cons Int (22 : Nat) (0 : Int) (@Arr.cons Int (21 : Nat) (0 : Int) (@Arr.cons Int (20 : Nat) (0 : Int) (@Arr.cons Int (19 : Nat) (0 : Int) (@Arr.cons Int (18 : Nat) (0 : Int) (@Arr.cons Int (17 : Nat) (0 : Int) (@Arr.cons Int (16 : Nat) (0 : Int) (@Arr.cons Int (15 : Nat) (0 : Int) (@Arr.cons Int (14 : Nat) (0 : Int) (@Arr.cons Int (13 : Nat) (0 : Int) (@Arr.cons Int (12 : Nat) (0 : Int) (@Arr.cons Int (11 : Nat) (0 : Int) (@Arr.cons Int (10 : Nat) (0 : Int) (@Arr.cons Int (9 : Nat) (0 : Int) (@Arr.cons Int (8 : Nat) (0 : Int) (@Arr.cons Int (7 : Nat) (0 : Int) (@Arr.cons Int (6 : Nat) (0 : Int) (@Arr.cons Int (5 : Nat) (0 : Int) (@Arr.cons Int (4 : Nat) (0 : Int) (@Arr.cons Int (3 : Nat) (0 : Int) (@Arr.cons Int (2 : Nat) (0 : Int) (@Arr.cons Int (1 : Nat) (0 : Int) (@Arr.cons Int (0 : Nat) (0 : Int) (@Arr.nil Int))))))))))))))))))))))))))))))))), @Unit.unit)))) fun (v3 : (Unit × ((Arr Int 32) × ((Arr Int 32) × Unit)))) =>
 some (v3.2.2.1)
theorem ref13_Bind_S (N : Nat) (upper0 : Arr (Int) 32) : (runK Go.Proofs.Try.prog (Ev104 N) 400 29 [(.arr 32 (.int .u8))] [(.arr 32 (.int .u8))] (upper0, ())).run = ref13_Bind N upper0 := by kernel_rfl
theorem ref13_Bind_C (N : Nat) (upper0 : Arr (Int) 32) (y : Arr (Int) 32) (h : ref13_Bind N upper0 = some y) : CallsK Go.Proofs.Try.prog 29 (valA [(.arr 32 (.int .u8))] (upper0, ())) (tupV (valR [(.arr 32 (.int .u8))] y)) := runK_ok hmx (Ev104_ok N _) (okFn_ok (by kernel_rfl)) (by rw [ref13_Bind_S]; exact h)
noncomputable def Ev105 (N : Nat) : (R : Type) → Env R := Env.addFn (Ev104 N) 29 (fun R => fnK [(.arr 32 (.int .u8))] [(.arr 32 (.int .u8))] (fun c => ref13_Bind N c.1))
theorem Ev105_ok (N : Nat) (R : Type) : EnvOK Go.Proofs.Try.prog (Ev105 N R) := EnvOK.addFn hmx (Ev104_ok N R) (Ev104_ok N _) (by kernel_rfl) (fun c => ref13_Bind_S N c.1)
noncomputable def law13_alive (N : Nat) : Option (Bool) :=
 Option.bind (@prf_Derive N ([] : List (Int)) ([] : List (Int)) (33 : Int)) fun (v1 : ((List Int) × Int)) =>
 Option.bind (@prf_Bind N (@Arr.cons Int (31 : Nat) (0 : Int) (@Arr.cons Int (30 : Nat) (0 : Int) (@Arr.cons Int (29 : Nat) (0 : Int) (@Arr.cons Int (28 : Nat) (0 : Int) (@Arr.cons Int (27 : Nat) (0 : Int) (@Arr.cons Int (26 : Nat) (0 : Int) (@Arr.cons Int (25 : Nat) (0 : Int) (@Arr.cons Int (24 : Nat) (0 : Int) (@Arr.cons Int (23 : Nat) (0 : Int) (@Arr.cons Int (22 : Nat) (0 : Int) (@Arr.cons Int (21 : Nat) (0 : Int) (@Arr.cons Int (20 : Nat) (0 : Int) (@Arr.cons Int (19 : Nat) (0 : Int) (@Arr.cons Int (18 : Nat) (0 : Int) (@Arr.cons Int (17 : Nat) (0 : Int) (@Arr.cons Int (16 : Nat) (0 : Int) (@Arr.cons Int (15 : Nat) (0 : Int) (@Arr.cons Int (14 : Nat) (0 : Int) (@Arr.cons Int (13 : Nat) (0 : Int) (@Arr.cons Int (12 : Nat) (0 : Int) (@Arr.cons Int (11 : Nat) (0 : Int) (@Arr.cons Int (10 : Nat) (0 : Int) (@Arr.cons Int (9 : Nat) (0 : Int) (@Arr.cons Int (8 : Nat) (0 : Int) (@Arr.cons Int (7 : Nat) (0 : Int) (@Arr.cons Int (6 : Nat) (0 : Int) (@Arr.cons Int (5 : Nat) (0 : Int) (@Arr.cons Int (4 : Nat) (0 : Int) (@Arr.cons Int (3 : Nat) (0 : Int) (@Arr.cons Int (2 : Nat) (0 : Int) (@Arr.cons Int (1 : Nat) (0 : Int) (@Arr.cons Int (0 : Nat) (0 : Int) (@Arr.nil Int)))))))))))))))))))))))))))))))))) fun (v2 : (Arr Int 32)) =>
 Option.bind (@prf_Seal N v2 ([] : List (Int))) fun (v3 : (Arr Int 32)) =>
 bif (decide ((((List.length v1.1) : Nat) : Int) = (33 : Int))) then
  bif (@cond Bool @Bool.true (decide (v1.2 = (0 : Int))) @Bool.false) then
   bif ((@wfB (@Td.arr (32 : Nat) (@Td.int @Go.IntKind.u8)) v2) && (@wfB (@Td.arr (32 : Nat) (@Td.int @Go.IntKind.u8)) (@Arr.cons Int (31 : Nat) (0 : Int) (@Arr.cons Int (30 : Nat) (0 : Int) (@Arr.cons Int (29 : Nat) (0 : Int) (@Arr.cons Int (28 : Nat) (0 : Int) (@Arr.cons Int (27 : Nat) (0 : Int) (@Arr.cons Int (26 : Nat) (0 : Int) (@Arr.cons Int (25 : Nat) (0 : Int) (@Arr.cons Int (24 : Nat) (0 : Int) (@Arr.cons Int (23 : Nat) (0 : Int) (@Arr.cons Int (22 : Nat) (0 : Int) (@Arr.cons Int (21 : Nat) (0 : Int) (@Arr.cons Int (20 : Nat) (0 : Int) (@Arr.cons Int (19 : Nat) (0 : Int) (@Arr.cons Int (18 : Nat) (0 : Int) (@Arr.cons Int (17 : Nat) (0 : Int) (@Arr.cons Int (16 : Nat) (0 : Int) (@Arr.cons Int (15 : Nat) (0 : Int) (@Arr.cons Int (14 : Nat) (0 : Int) (@Arr.cons Int (13 : Nat) (0 : Int) (@Arr.cons Int (12 : Nat) (0 : Int) (@Arr.cons Int (11 : Nat) (0 : Int) (@Arr.cons Int (10 : Nat) (0 : Int) (@Arr.cons Int (9 : Nat) (0 : Int) (@Arr.cons Int (8 : Nat) (0 : Int) (@Arr.cons Int (7 : Nat) (0 : Int) (@Arr.cons Int (6 : Nat) (0 : Int) (@Arr.cons Int (5 : Nat) (0 : Int) (@Arr.cons Int (4 : Nat) (0 : Int) (@Arr.cons Int (3 : Nat) (0 : Int) (@Arr.cons Int (2 : Nat) (0 : Int) (@Arr.cons Int (1 : Nat) (0 : Int) (@Arr.cons Int (0 : Nat) (0 : Int) (@Arr.nil Int))))))))))))))))))))))))))))))))))) then
    bif (@cond Bool @Bool.true (!(@Decidable.decide (@Eq (Arr Int 32) v2 (@Arr.cons Int (31 : Nat) (0 : Int) (@Arr.cons Int (30 : Nat) (0 : Int) (@Arr.cons Int (29 : Nat) (0 : Int) (@Arr.cons Int (28 : Nat) (0 : Int) (@Arr.cons Int (27 : Nat) (0 : Int) (@Arr.cons Int (26 : Nat) (0 : Int) (@Arr.cons Int (25 : Nat) (0 : Int) (@Arr.cons Int (24 : Nat) (0 : Int) (@Arr.cons Int (23 : Nat) (0 : Int) (@Arr.cons Int (22 : Nat) (0 : Int) (@Arr.cons Int (21 : Nat) (0 : Int) (@Arr.cons Int (20 : Nat) (0 : Int) (@Arr.cons Int (19 : Nat) (0 : Int) (@Arr.cons Int (18 : Nat) (0 : Int) (@Arr.cons Int (17 : Nat) (0 : Int) (@Arr.cons Int (16 : Nat) (0 : Int) (@Arr.cons Int (15 : Nat) (0 : Int) (@Arr.cons Int (14 : Nat) (0 : Int) (@Arr.cons Int (13 : Nat) (0 : Int) (@Arr.cons Int (12 : Nat) (0 : Int) (@Arr.cons Int (11 : Nat) (0 : Int) (@Arr.cons Int (10 : Nat) (0 : Int) (@Arr.cons Int (9 : Nat) (0 : Int) (@Arr.cons Int (8 : Nat) (0 : Int) (@Arr.cons Int (7 : Nat) (0 : Int) (@Arr.cons Int (6 : Nat) (0 : Int) (@Arr.cons Int (5 : Nat) (0 : Int) (@Arr.cons Int (4 : Nat) (0 : Int) (@Arr.cons Int (3 : Nat) (0 : Int) (@Arr.cons Int (2 : Nat) (0 : Int) (@Arr.cons Int (1 : Nat) (0 : Int) (@Arr.cons Int (0 : Nat) (0 : Int) (@Arr.nil Int)))))))))))))))))))))))))))))))))) (@decT (@Td.arr (32 : Nat) (@Td.int @Go.IntKind.u8)) v2 (@Arr.cons Int (31 : Nat) (0 : Int) (@Arr.cons Int (30 : Nat) (0 : Int) (@Arr.cons Int (29 : Nat) (0 : Int) (@Arr.cons Int (28 : Nat) (0 : Int) (@Arr.cons Int (27 : Nat) (0 : Int) (@Arr.cons Int (26 : Nat) (0 : Int) (@Arr.cons Int (25 : Nat) (0 : Int) (@Arr.cons Int (24 : Nat) (0 : Int) (@Arr.cons Int (23 : Nat) (0 : Int) (@Arr.cons Int (22 : Nat) (0 : Int) (@Arr.cons Int (21 : Nat) (0 : Int) (@Arr.cons Int (20 : Nat) (0 : Int) (@Arr.cons Int (19 : Nat) (0 : Int) (@Arr.cons Int (18 : Nat) (0 : Int) (@Arr.cons Int (17 : Nat) (0 : Int) (@Arr.cons Int (16 : Nat) (0 : Int) (@Arr.cons Int (15 : Nat) (0 : Int) (@Arr.cons Int (14 : Nat) (0 : Int) (@Arr.cons Int (13 : Nat) (0 : Int) (@Arr.cons Int (12 : Nat) (0 : Int) (@Arr.cons Int (11 : Nat) (0 : Int) (@Arr.cons Int (10 : Nat) (0 : Int) (@Arr.cons Int (9 : Nat) (0 : Int) (@Arr.cons Int (8 : Nat) (0 : Int) (@Arr.cons Int (7 : Nat) (0 : Int) (@Arr.cons Int (6 : Nat) (0 : Int) (@Arr.cons Int (5 : Nat) (0 : Int) (@Arr.cons Int (4 : Nat) (0 : Int) (@Arr.cons Int (3 : Nat) (0 : Int) (@Arr.cons Int (2 : Nat) (0 : Int) (@Arr.cons Int (1 : Nat) (0 : Int) (@Arr.cons Int (0 : Nat) (0 : Int) (@Arr.nil Int)))))))))))))))))))))))))))))))))))) @Bool.false) then
     Option.bind (@prf_Check N v2 ([] : List (Int)) v3.l) fun (v4 : Bool) =>
     bif (@cond Bool @Bool.true v4 @Bool.false) then
      some ((@cond Bool (@cond Bool @Bool.true (decide ((Go.IntKind.wrap .i64 (@Int.tdiv (Go.IntKind.wrap .i64 ((Go.IntKind.wrap .i64 ((33 : Int) + (32 : Int))) - (1 : Int))) (32 : Int))) = (2 : Int))) @Bool.false) @Bool.true @Bool.false))
     else
      some ((@cond Bool @Bool.false @Bool.true @Bool.false))
    else
     some ((@cond Bool @Bool.false @Bool.true @Bool.false))
   else
    none
  else
   some ((@cond Bool @Bool.false @Bool.true @Bool.false))
 else
  some ((@cond Bool @Bool.false @Bool.true @Bool.false))
theorem law13_alive_S (N : Nat) : (runK Go.Proofs.Try.prog (Ev105 N) 400 24 [] [.bool] ()).run = law13_alive N  := by kernel_rfl
theorem law13_alive_C (N : Nat) (y : Bool) (h : law13_alive N  = some y) : CallsK Go.Proofs.Try.prog 24 (valA [] ()) (tupV (valR [.bool] y)) := runK_ok hmx (Ev105_ok N _) (okFn_ok (by kernel_rfl)) (by rw [law13_alive_S]; exact h)
noncomputable def Ev106 (N : Nat) : (R : Type) → Env R := Env.addFn (Ev105 N) 24 (fun R => fnK [] [.bool] (fun c => law13_alive N ))
theorem Ev106_ok (N : Nat) (R : Type) : EnvOK Go.Proofs.Try.prog (Ev106 N R) := EnvOK.addFn hmx (Ev105_ok N R) (Ev105_ok N _) (by kernel_rfl) (fun c => law13_alive_S N )
noncomputable def law13_PrfDerives (N : Nat) (key0 : List (Int)) (seed1 : List (Int)) (length2 : Int) : Option (Bool) :=
 bif (decide ((200 : Int) < (((List.length key0) : Nat) : Int))) then
  Option.bind (@law13_alive N) fun (v4 : Bool) =>
  some (v4)
 else
  bif (@cond Bool @Bool.false @Bool.true (decide ((200 : Int) < (((List.length seed1) : Nat) : Int)))) then
   Option.bind (@law13_alive N) fun (v4 : Bool) =>
   some (v4)
  else
   bif (decide ((700 : Int) < length2)) then
    bif (@cond Bool @Bool.false @Bool.true (@cond Bool @Bool.true (decide (length2 ≤ (8160 : Int))) @Bool.false)) then
     Option.bind (@law13_alive N) fun (v4 : Bool) =>
     some (v4)
    else
     Option.bind (@prf_Derive N key0 seed1 length2) fun (v4 : ((List Int) × Int)) =>
     Option.bind (@ref13_Derive N key0 seed1 length2) fun (v5 : ((List Int) × (Int × Int))) =>
     Option.bind (@ref01_Same N v4.1 v5.1) fun (v6 : Bool) =>
     bif v6 then
      bif (@cond Bool @Bool.true (decide (v4.2 = v5.2.2)) @Bool.false) then
       Option.bind (@prf_Pieces N key0 seed1 length2) fun (v7 : Int) =>
       bif (@cond Bool @Bool.true (decide (v7 = v5.2.1)) @Bool.false) then
        Option.bind (@law13_alive N) fun (v8 : Bool) =>
        some ((@cond Bool @Bool.true v8 @Bool.false))
       else
        some (@Bool.false)
      else
       some (@Bool.false)
     else
      some (@Bool.false)
   else
    Option.bind (@prf_Derive N key0 seed1 length2) fun (v4 : ((List Int) × Int)) =>
    Option.bind (@ref13_Derive N key0 seed1 length2) fun (v5 : ((List Int) × (Int × Int))) =>
    Option.bind (@ref01_Same N v4.1 v5.1) fun (v6 : Bool) =>
    bif v6 then
     bif (@cond Bool @Bool.true (decide (v4.2 = v5.2.2)) @Bool.false) then
      Option.bind (@prf_Pieces N key0 seed1 length2) fun (v7 : Int) =>
      bif (@cond Bool @Bool.true (decide (v7 = v5.2.1)) @Bool.false) then
       Option.bind (@law13_alive N) fun (v8 : Bool) =>
       some ((@cond Bool @Bool.true v8 @Bool.false))
      else
       some (@Bool.false)
     else
      some (@Bool.false)
    else
     some (@Bool.false)
theorem law13_PrfDerives_S (N : Nat) (key0 : List (Int)) (seed1 : List (Int)) (length2 : Int) : (runK Go.Proofs.Try.prog (Ev106 N) 400 7 [(.sl (.int .u8)), (.sl (.int .u8)), (.int .i64)] [.bool] (key0, seed1, length2, ())).run = law13_PrfDerives N key0 seed1 length2 := by kernel_rfl
theorem law13_PrfDerives_C (N : Nat) (key0 : List (Int)) (seed1 : List (Int)) (length2 : Int) (y : Bool) (h : law13_PrfDerives N key0 seed1 length2 = some y) : CallsK Go.Proofs.Try.prog 7 (valA [(.sl (.int .u8)), (.sl (.int .u8)), (.int .i64)] (key0, seed1, length2, ())) (tupV (valR [.bool] y)) := runK_ok hmx (Ev106_ok N _) (okFn_ok (by kernel_rfl)) (by rw [law13_PrfDerives_S]; exact h)
noncomputable def Ev107 (N : Nat) : (R : Type) → Env R := Env.addFn (Ev106 N) 7 (fun R => fnK [(.sl (.int .u8)), (.sl (.int .u8)), (.int .i64)] [.bool] (fun c => law13_PrfDerives N c.1 c.2.1 c.2.2.1))
theorem Ev107_ok (N : Nat) (R : Type) : EnvOK Go.Proofs.Try.prog (Ev107 N R) := EnvOK.addFn hmx (Ev106_ok N R) (Ev106_ok N _) (by kernel_rfl) (fun c => law13_PrfDerives_S N c.1 c.2.1 c.2.2.1)
noncomputable def Ev108 (N : Nat) : (R : Type) → Env R := Env.addBx (Ev107 N) [(8, 0)]
theorem Ev108_ok (N : Nat) (R : Type) : EnvOK Go.Proofs.Try.prog (Ev108 N R) := EnvOK.addBx (Ev107_ok N R) [(8, 0)]
noncomputable def law13_PrfBinds (N : Nat) (upper0 : Arr (Int) 32) (packet1 : List (Int)) (x2 : List (Int)) : Option (Bool) :=
 bif (decide ((300 : Int) < (((List.length packet1) : Nat) : Int))) then
  Option.bind (@law13_alive N) fun (v4 : Bool) =>
  some (v4)
 else
  bif (@cond Bool @Bool.false @Bool.true (decide ((100 : Int) < (((List.length x2) : Nat) : Int)))) then
   Option.bind (@law13_alive N) fun (v4 : Bool) =>
   some (v4)
  else
   Option.bind (@prf_Bind N upper0) fun (v4 : (Arr Int 32)) =>
   Option.bind (@ref07_Of N v4.l packet1) fun (v5 : (Arr Int 32)) =>
   Option.bind (@ref13_Bind N upper0) fun (v6 : (Arr Int 32)) =>
   bif ((@wfB (@Td.arr (32 : Nat) (@Td.int @Go.IntKind.u8)) v4) && (@wfB (@Td.arr (32 : Nat) (@Td.int @Go.IntKind.u8)) v6)) then
    bif (@Decidable.decide (@Eq (Arr Int 32) v4 v6) (@decT (@Td.arr (32 : Nat) (@Td.int @Go.IntKind.u8)) v4 v6)) then
     Option.bind (@prf_Seal N v4 packet1) fun (v7 : (Arr Int 32)) =>
     bif ((@wfB (@Td.arr (32 : Nat) (@Td.int @Go.IntKind.u8)) v7) && (@wfB (@Td.arr (32 : Nat) (@Td.int @Go.IntKind.u8)) v5)) then
      bif (@cond Bool @Bool.true (@Decidable.decide (@Eq (Arr Int 32) v7 v5) (@decT (@Td.arr (32 : Nat) (@Td.int @Go.IntKind.u8)) v7 v5)) @Bool.false) then
       Option.bind (@prf_Check N v4 packet1 x2) fun (v8 : Bool) =>
       Option.bind (@ref01_Same N v5.l x2) fun (v9 : Bool) =>
       bif (@cond Bool @Bool.true (@BEq.beq Bool (@instBEqOfDecidableEq Bool @instDecidableEqBool) v8 v9) @Bool.false) then
        Option.bind (@prf_Check N v4 packet1 v5.l) fun (v10 : Bool) =>
        bif (@cond Bool @Bool.true v10 @Bool.false) then
         Option.bind (@law13_alive N) fun (v11 : Bool) =>
         some ((@cond Bool @Bool.true v11 @Bool.false))
        else
         some (@Bool.false)
       else
        some (@Bool.false)
      else
       some (@Bool.false)
     else
      none
    else
     some (@Bool.false)
   else
    none
theorem law13_PrfBinds_S (N : Nat) (upper0 : Arr (Int) 32) (packet1 : List (Int)) (x2 : List (Int)) : (runK Go.Proofs.Try.prog (Ev108 N) 400 8 [(.arr 32 (.int .u8)), (.sl (.int .u8)), (.sl (.int .u8))] [.bool] (upper0, packet1, x2, ())).run = law13_PrfBinds N upper0 packet1 x2 := by kernel_rfl
theorem law13_PrfBinds_C (N : Nat) (upper0 : Arr (Int) 32) (packet1 : List (Int)) (x2 : List (Int)) (y : Bool) (h : law13_PrfBinds N upper0 packet1 x2 = some y) : CallsK Go.Proofs.Try.prog 8 (valA [(.arr 32 (.int .u8)), (.sl (.int .u8)), (.sl (.int .u8))] (upper0, packet1, x2, ())) (tupV (valR [.bool] y)) := runK_ok hmx (Ev108_ok N _) (okFn_ok (by kernel_rfl)) (by rw [law13_PrfBinds_S]; exact h)
noncomputable def Ev109 (N : Nat) : (R : Type) → Env R := Env.addFn (Ev108 N) 8 (fun R => fnK [(.arr 32 (.int .u8)), (.sl (.int .u8)), (.sl (.int .u8))] [.bool] (fun c => law13_PrfBinds N c.1 c.2.1 c.2.2.1))
theorem Ev109_ok (N : Nat) (R : Type) : EnvOK Go.Proofs.Try.prog (Ev109 N R) := EnvOK.addFn hmx (Ev108_ok N R) (Ev108_ok N _) (by kernel_rfl) (fun c => law13_PrfBinds_S N c.1 c.2.1 c.2.2.1)
noncomputable def Ev110 (N : Nat) : (R : Type) → Env R := Env.addBx (Ev109 N) [(9, 0)]
theorem Ev110_ok (N : Nat) (R : Type) : EnvOK Go.Proofs.Try.prog (Ev110 N R) := EnvOK.addBx (Ev109_ok N R) [(9, 0)]
noncomputable def law13_PrfLong (N : Nat) (key0 : List (Int)) (seed1 : List (Int)) (length2 : Arr (Int) 2) : Option (Bool) :=
 bif (decide ((200 : Int) < (((List.length key0) : Nat) : Int))) then
  Option.bind (@law13_alive N) fun (v4 : Bool) =>
  some (v4)
 else
  bif (@cond Bool @Bool.false @Bool.true (decide ((200 : Int) < (((List.length seed1) : Nat) : Int)))) then
   Option.bind (@law13_alive N) fun (v4 : Bool) =>
   some (v4)
  else
   Option.bind (getI length2.l (0 : Int)) fun (v4 : Int) =>
   Option.bind (getI length2.l (1 : Int)) fun (v5 : Int) =>
   Option.bind (@prf_Derive N key0 seed1 (Go.IntKind.wrap .i64 ((1 : Int) + (Go.IntKind.wrap .i64 (@Int.tmod v4 (300 : Int)))))) fun (v6 : ((List Int) × Int)) =>
   Option.bind (@prf_Derive N key0 seed1 (Go.IntKind.wrap .i64 ((1 : Int) + (Go.IntKind.wrap .i64 (@Int.tmod v4 (300 : Int)))))) fun (v7 : ((List Int) × Int)) =>
   Option.bind (@prf_Pieces N key0 seed1 (Go.IntKind.wrap .i64 ((1 : Int) + (Go.IntKind.wrap .i64 (@Int.tmod v4 (300 : Int)))))) fun (v8 : Int) =>
   Option.bind (@prf_Pieces N key0 seed1 (Go.IntKind.wrap .i64 ((1 : Int) + (Go.IntKind.wrap .i64 (@Int.tmod v5 (300 : Int)))))) fun (v9 : Int) =>
   bif (decide (v6.2 = (0 : Int))) then
    bif (@cond Bool @Bool.true (decide (v7.2 = (0 : Int))) @Bool.false) then
     bif (@cond Bool @Bool.true (decide ((((List.length v6.1) : Nat) : Int) = (Go.IntKind.wrap .i64 ((1 : Int) + (Go.IntKind.wrap .i64 (@Int.tmod v4 (300 : Int))))))) @Bool.false) then
      Option.bind (@ref01_Same N v6.1 v7.1) fun (v10 : Bool) =>
      bif (@cond Bool @Bool.true v10 @Bool.false) then
       bif (decide ((Go.IntKind.wrap .i64 ((1 : Int) + (Go.IntKind.wrap .i64 (@Int.tmod v5 (300 : Int))))) < (Go.IntKind.wrap .i64 ((1 : Int) + (Go.IntKind.wrap .i64 (@Int.tmod v4 (300 : Int))))))) then
        bif (@cond Bool @Bool.true (decide ((Go.IntKind.wrap .i64 ((1 : Int) + (Go.IntKind.wrap .i64 (@Int.tmod v4 (300 : Int))))) ≤ (Go.IntKind.wrap .i64 ((32 : Int) * v8)))) @Bool.false) then
         bif (@cond Bool @Bool.true (decide ((Go.IntKind.wrap .i64 ((32 : Int) * v8)) < (Go.IntKind.wrap .i64 ((Go.IntKind.wrap .i64 ((1 : Int) + (Go.IntKind.wrap .i64 (@Int.tmod v4 (300 : Int))))) + (32 : Int))))) @Bool.false) then
          Option.bind (@law13_alive N) fun (v11 : Bool) =>
          some ((@cond Bool @Bool.true v11 @Bool.false))
         else
          some (@Bool.false)
        else
         some (@Bool.false)
       else
        bif (@cond Bool @Bool.true (@cond Bool @Bool.false @Bool.true (decide (v8 ≤ v9))) @Bool.false) then
         bif (@cond Bool @Bool.true (decide ((Go.IntKind.wrap .i64 ((1 : Int) + (Go.IntKind.wrap .i64 (@Int.tmod v4 (300 : Int))))) ≤ (Go.IntKind.wrap .i64 ((32 : Int) * v8)))) @Bool.false) then
          bif (@cond Bool @Bool.true (decide ((Go.IntKind.wrap .i64 ((32 : Int) * v8)) < (Go.IntKind.wrap .i64 ((Go.IntKind.wrap .i64 ((1 : Int) + (Go.IntKind.wrap .i64 (@Int.tmod v4 (300 : Int))))) + (32 : Int))))) @Bool.false) then
           Option.bind (@law13_alive N) fun (v11 : Bool) =>
           some ((@cond Bool @Bool.true v11 @Bool.false))
          else
           some (@Bool.false)
         else
          some (@Bool.false)
        else
         some (@Bool.false)
      else
       some (@Bool.false)
     else
      some (@Bool.false)
    else
     some (@Bool.false)
   else
    some (@Bool.false)
theorem law13_PrfLong_S (N : Nat) (key0 : List (Int)) (seed1 : List (Int)) (length2 : Arr (Int) 2) : (runK Go.Proofs.Try.prog (Ev110 N) 400 9 [(.sl (.int .u8)), (.sl (.int .u8)), (.arr 2 (.int .u16))] [.bool] (key0, seed1, length2, ())).run = law13_PrfLong N key0 seed1 length2 := by kernel_rfl
theorem law13_PrfLong_C (N : Nat) (key0 : List (Int)) (seed1 : List (Int)) (length2 : Arr (Int) 2) (y : Bool) (h : law13_PrfLong N key0 seed1 length2 = some y) : CallsK Go.Proofs.Try.prog 9 (valA [(.sl (.int .u8)), (.sl (.int .u8)), (.arr 2 (.int .u16))] (key0, seed1, length2, ())) (tupV (valR [.bool] y)) := runK_ok hmx (Ev110_ok N _) (okFn_ok (by kernel_rfl)) (by rw [law13_PrfLong_S]; exact h)
noncomputable def Ev111 (N : Nat) : (R : Type) → Env R := Env.addFn (Ev110 N) 9 (fun R => fnK [(.sl (.int .u8)), (.sl (.int .u8)), (.arr 2 (.int .u16))] [.bool] (fun c => law13_PrfLong N c.1 c.2.1 c.2.2.1))
theorem Ev111_ok (N : Nat) (R : Type) : EnvOK Go.Proofs.Try.prog (Ev111 N R) := EnvOK.addFn hmx (Ev110_ok N R) (Ev110_ok N _) (by kernel_rfl) (fun c => law13_PrfLong_S N c.1 c.2.1 c.2.2.1)
end Go.Proofs.Ytpnoegajljbfoaa
