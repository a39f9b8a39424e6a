/-
  Parts of my own, one behind the other: GI26, QJC0, QJC1, QJC2, QJL0, QJL1, QJL2, QJL3, QJL4, QJg0, QJg1, QJr1, QJa, QJb.
-/
import Derived.Test.YtkigpcolmioibaaDoorMrg4
namespace Go.Proofs.YtkigpcolmioibaaDoor
open Go.RowKit
set_option linter.unusedVariables false
set_option maxRecDepth 100000
section
variable (N : Nat)
theorem hmx : Tryd.prog.follows .mixedOrders = true := by kernel_rfl
noncomputable def Ev0 (N : Nat) : (R : Type) → Env R := Env.addInl env0 [46, 45, 34]
theorem Ev0_ok (R : Type) : EnvOK Tryd.prog (Ev0 N R) := EnvOK.addInl (env0_ok R) (by kernel_rfl)
noncomputable def Ev1 : (R : Type) → Env R := Env.addBx (Ev0 N) [(46, 0)]
theorem Ev1_ok (R : Type) : EnvOK Tryd.prog (Ev1 N R) := EnvOK.addBx (Ev0_ok N R) [(46, 0)]
noncomputable def octs_place (N : Nat) (i0 : Int) (width1 : Int) (little2 : Bool) : Option Int :=
 bif little2 then
  some (i0)
 else
  some ((IntKind.wrap .i64 ((IntKind.wrap .i64 (width1 - 1)) - i0)))
theorem octs_place_S (i0 : Int) (width1 : Int) (little2 : Bool) : (runK Tryd.prog (Ev1 N) 400 60 [(.int .i64), (.int .i64), .bool] [(.int .i64)] (i0, width1, little2, ())).run = octs_place N i0 width1 little2 := by kernel_rfl
noncomputable def Ev2 : (R : Type) → Env R := Env.addFn (Ev1 N) 60 (fun R => fnK [(.int .i64), (.int .i64), .bool] [(.int .i64)] (fun c => octs_place N c.1 c.2.1 c.2.2.1))
theorem Ev2_ok (R : Type) : EnvOK Tryd.prog (Ev2 N R) := EnvOK.addFn hmx (Ev1_ok N R) (Ev1_ok N _) (by kernel_rfl) (fun c => octs_place_S N c.1 c.2.1 c.2.2.1)
noncomputable def octs_Put_L5_I : LI := ⟨35, 0, [], ⟨[(0, .ty (.int .u64)), (1, .ty (.int .i64)), (2, .ty .bool), (8, .lit (.own 0)), (19, .ty (.int .i64)), (20, .ty (.int .i64))], [.own (.int .u8) 5]⟩, [(.exit 0, ⟨[(8, .lit (.own 0))], [.own (.int .u8) 5]⟩)]⟩
noncomputable def octs_Put_L5 (X : ((Int × (Int × (Bool × (Int × (Int × Unit))))) × ((List Int) × Unit)) → Option ((Unit × ((List Int) × Unit)))) (n0 : Int) (width1 : Int) (little2 : Bool) (x19 : Int) (x20 : Int) (h0 : List (Int)) : Option ((Unit × ((List Int) × Unit))) :=
 bif (decide (x20 < x19)) then
  Option.bind (octs_place N x20 width1 little2) fun v8 =>
  bif (decide ((0 : Int) ≤ v8 ∧ v8 < (((List.length h0) : Nat) : Int))) then
   Option.bind (h0[Int.toNat v8]?) fun (v9 : Int) =>
   (X (((@Int.fdiv n0 ((2 : Int) ^ (min (Int.toNat (8 : Int)) (IntKind.bits .u64)))), (width1, (little2, (x19, ((IntKind.wrap .i64 (x20 + 1)), ()))))), ((@List.set Int h0 (Int.toNat v8) (IntKind.wrap .u8 n0)), ())))
  else
   none
 else
  some (((), (h0, ())))
noncomputable def octs_Put_L5_R (c : ((Int × (Int × (Bool × (Int × (Int × Unit))))) × ((List Int) × Unit))) : Option ((Unit × ((List Int) × Unit))) := gl (fun X c => octs_Put_L5 N X c.1.1 c.1.2.1 c.1.2.2.1 c.1.2.2.2.1 c.1.2.2.2.2.1 c.2.1) N c
theorem octs_Put_L5_S (X : ((Int × (Int × (Bool × (Int × (Int × Unit))))) × ((List Int) × Unit)) → Option ((Unit × ((List Int) × Unit)))) (n0 : Int) (width1 : Int) (little2 : Bool) (x19 : Int) (x20 : Int) (h0 : List (Int)) : (roundK Tryd.prog (Ev2 N) 400 [55] octs_Put_L5_I (loopAt Tryd.prog [55] 5) X ((n0, width1, little2, x19, x20, ()), (h0, ()))).run = octs_Put_L5 N X n0 width1 little2 x19 x20 h0 := by kernel_rfl
noncomputable def Ev3 : (R : Type) → Env R := Env.addLp (Ev2 N) [55] 0 5 (fun R => lpK Tryd.prog octs_Put_L5_I (fun X c => octs_Put_L5 N X c.1.1 c.1.2.1 c.1.2.2.1 c.1.2.2.2.1 c.1.2.2.2.2.1 c.2.1) N)
theorem Ev3_ok (R : Type) : EnvOK Tryd.prog (Ev3 N R) := EnvOK.addLp (Ev2_ok N R) (by kernel_rfl) (lpK_ok (li := octs_Put_L5_I) (G := fun X c => octs_Put_L5 N X c.1.1 c.1.2.1 c.1.2.2.1 c.1.2.2.2.1 c.1.2.2.2.2.1 c.2.1) hmx (Ev2_ok N _) (by kernel_rfl) loopAt_sub (fun (X : CT octs_Put_L5_I.sh → Option (OT octs_Put_L5_I.outs)) (c : CT octs_Put_L5_I.sh) => octs_Put_L5_S N X c.1.1 c.1.2.1 c.1.2.2.1 c.1.2.2.2.1 c.1.2.2.2.2.1 c.2.1) N)
noncomputable def octs_Put (n0 : Int) (width1 : Int) (little2 : Bool) : Option ((List Int) × Int) :=
 Option.bind (bif (decide (width1 < (1 : Int))) then
   some (true)
  else
   some ((cond false true (decide ((8 : Int) < width1))))) fun (v4 : Bool) =>
 bif v4 then
  some ((([] : List Int), (1 : Int)))
 else
  bif ((decide ((0 : Int) ≤ width1 ∧ width1 ≤ width1)) && (roomB (Int.toNat width1) 1)) then
   Option.bind (octs_Put_L5_R N ((n0, (width1, (little2, ((((List.length (@List.replicate Int (Int.toNat width1) (0 : Int))) : Nat) : Int), ((0 : Int), ()))))), ((@List.replicate Int (Int.toNat width1) (0 : Int)), ()))) fun v5 =>
   some ((v5.2.1, (0 : Int)))
  else
   none
theorem octs_Put_S (n0 : Int) (width1 : Int) (little2 : Bool) : (runK Tryd.prog (Ev3 N) 400 55 [(.int .u64), (.int .i64), .bool] [(.sl (.int .u8)), (.int .i64)] (n0, width1, little2, ())).run = octs_Put N n0 width1 little2 := by kernel_rfl
noncomputable def Ev4 : (R : Type) → Env R := Env.addFn (Ev3 N) 55 (fun R => fnK [(.int .u64), (.int .i64), .bool] [(.sl (.int .u8)), (.int .i64)] (fun c => octs_Put N c.1 c.2.1 c.2.2.1))
theorem Ev4_ok (R : Type) : EnvOK Tryd.prog (Ev4 N R) := EnvOK.addFn hmx (Ev3_ok N R) (Ev3_ok N _) (by kernel_rfl) (fun c => octs_Put_S N c.1 c.2.1 c.2.2.1)
noncomputable def octs_Get_L5_I : LI := ⟨37, 0, [], ⟨[(0, .ty (.sl (.int .u8))), (1, .ty .bool), (6, .ty (.int .u64)), (17, .ty (.int .i64)), (18, .ty (.int .i64))], []⟩, [(.exit 0, ⟨[(6, .ty (.int .u64))], []⟩)]⟩
noncomputable def octs_Get_L5 (X : (((List Int) × (Bool × (Int × (Int × (Int × Unit))))) × Unit) → Option (((Int × Unit) × Unit))) (b0 : List (Int)) (little1 : Bool) (n6 : Int) (x17 : Int) (x18 : Int) : Option (((Int × Unit) × Unit)) :=
 bif (decide (x18 < x17)) then
  Option.bind (octs_place N x18 (((List.length b0) : Nat) : Int) little1) fun v7 =>
  Option.bind (getI b0 v7) fun (v8 : Int) =>
  bif (decide ((0 : Int) ≤ (IntKind.wrap .i64 ((8 : Int) * x18)))) then
   (X ((b0, (little1, ((bits .or .u64 n6 (IntKind.wrap .u64 ((IntKind.wrap .u64 v8) * ((2 : Int) ^ (min (Int.toNat (IntKind.wrap .i64 ((8 : Int) * x18))) (IntKind.bits .u64)))))), (x17, ((IntKind.wrap .i64 (x18 + 1)), ()))))), ()))
  else
   none
 else
  some (((n6, ()), ()))
noncomputable def octs_Get_L5_R (c : (((List Int) × (Bool × (Int × (Int × (Int × Unit))))) × Unit)) : Option (((Int × Unit) × Unit)) := gl (fun X c => octs_Get_L5 N X c.1.1 c.1.2.1 c.1.2.2.1 c.1.2.2.2.1 c.1.2.2.2.2.1) N c
theorem octs_Get_L5_S (X : (((List Int) × (Bool × (Int × (Int × (Int × Unit))))) × Unit) → Option (((Int × Unit) × Unit))) (b0 : List (Int)) (little1 : Bool) (n6 : Int) (x17 : Int) (x18 : Int) : (roundK Tryd.prog (Ev4 N) 400 [48] octs_Get_L5_I (loopAt Tryd.prog [48] 5) X ((b0, little1, n6, x17, x18, ()), ())).run = octs_Get_L5 N X b0 little1 n6 x17 x18 := by kernel_rfl
noncomputable def Ev5 : (R : Type) → Env R := Env.addLp (Ev4 N) [48] 0 5 (fun R => lpK Tryd.prog octs_Get_L5_I (fun X c => octs_Get_L5 N X c.1.1 c.1.2.1 c.1.2.2.1 c.1.2.2.2.1 c.1.2.2.2.2.1) N)
theorem Ev5_ok (R : Type) : EnvOK Tryd.prog (Ev5 N R) := EnvOK.addLp (Ev4_ok N R) (by kernel_rfl) (lpK_ok (li := octs_Get_L5_I) (G := fun X c => octs_Get_L5 N X c.1.1 c.1.2.1 c.1.2.2.1 c.1.2.2.2.1 c.1.2.2.2.2.1) hmx (Ev4_ok N _) (by kernel_rfl) loopAt_sub (fun (X : CT octs_Get_L5_I.sh → Option (OT octs_Get_L5_I.outs)) (c : CT octs_Get_L5_I.sh) => octs_Get_L5_S N X c.1.1 c.1.2.1 c.1.2.2.1 c.1.2.2.2.1 c.1.2.2.2.2.1) N)
noncomputable def octs_Get (b0 : List (Int)) (little1 : Bool) : Option (Int × Int) :=
 bif (decide ((((List.length b0) : Nat) : Int) < (1 : Int))) then
  some (((0 : Int), (1 : Int)))
 else
  Option.bind (some ((cond false true (decide ((8 : Int) < (((List.length b0) : Nat) : Int)))))) fun (v3 : Bool) =>
  bif v3 then
   some (((0 : Int), (1 : Int)))
  else
   Option.bind (octs_Get_L5_R N ((b0, (little1, ((0 : Int), ((((List.length b0) : Nat) : Int), ((0 : Int), ()))))), ())) fun v4 =>
   some ((v4.1.1, (0 : Int)))
theorem octs_Get_S (b0 : List (Int)) (little1 : Bool) : (runK Tryd.prog (Ev5 N) 400 48 [(.sl (.int .u8)), .bool] [(.int .u64), (.int .i64)] (b0, little1, ())).run = octs_Get N b0 little1 := by kernel_rfl
noncomputable def Ev6 : (R : Type) → Env R := Env.addFn (Ev5 N) 48 (fun R => fnK [(.sl (.int .u8)), .bool] [(.int .u64), (.int .i64)] (fun c => octs_Get N c.1 c.2.1))
theorem Ev6_ok (R : Type) : EnvOK Tryd.prog (Ev6 N R) := EnvOK.addFn hmx (Ev5_ok N R) (Ev5_ok N _) (by kernel_rfl) (fun c => octs_Get_S N c.1 c.2.1)
noncomputable def Ev7 : (R : Type) → Env R := Env.addBx (Ev6 N) [(35, 0)]
theorem Ev7_ok (R : Type) : EnvOK Tryd.prog (Ev7 N R) := EnvOK.addBx (Ev6_ok N R) [(35, 0)]
noncomputable def bytes_Equal (N : Nat) (a0 : List (Int)) (b1 : List (Int)) : Option Bool :=
 Option.bind (@toBy a0) fun (v3 : (List UInt8)) =>
 Option.bind (@toBy b1) fun (v4 : (List UInt8)) =>
 some ((decide (v3 = v4)))
theorem bytes_Equal_S (a0 : List (Int)) (b1 : List (Int)) : (runK Tryd.prog (Ev7 N) 400 50 [(.sl (.int .u8)), (.sl (.int .u8))] [.bool] (a0, b1, ())).run = bytes_Equal N a0 b1 := by kernel_rfl
noncomputable def Ev8 : (R : Type) → Env R := Env.addFn (Ev7 N) 50 (fun R => fnK [(.sl (.int .u8)), (.sl (.int .u8))] [.bool] (fun c => bytes_Equal N c.1 c.2.1))
theorem Ev8_ok (R : Type) : EnvOK Tryd.prog (Ev8 N R) := EnvOK.addFn hmx (Ev7_ok N R) (Ev7_ok N _) (by kernel_rfl) (fun c => bytes_Equal_S N c.1 c.2.1)
noncomputable def opts_equal (a0 : Int × (List Int)) (b1 : Int × (List Int)) : Option Bool :=
 bif (decide (a0.1 = b1.1)) then
  Option.bind (bytes_Equal N a0.2 b1.2) fun v3 =>
  some ((cond true v3 false))
 else
  some (false)
theorem opts_equal_S (a0 : Int × (List Int)) (b1 : Int × (List Int)) : (runK Tryd.prog (Ev8 N) 400 35 [(.pair (.int .u8) (.sl (.int .u8))), (.pair (.int .u8) (.sl (.int .u8)))] [.bool] (a0, b1, ())).run = opts_equal N a0 b1 := by kernel_rfl
noncomputable def Ev9 : (R : Type) → Env R := Env.addFn (Ev8 N) 35 (fun R => fnK [(.pair (.int .u8) (.sl (.int .u8))), (.pair (.int .u8) (.sl (.int .u8)))] [.bool] (fun c => opts_equal N c.1 c.2.1))
theorem Ev9_ok (R : Type) : EnvOK Tryd.prog (Ev9 N R) := EnvOK.addFn hmx (Ev8_ok N R) (Ev8_ok N _) (by kernel_rfl) (fun c => opts_equal_S N c.1 c.2.1)
noncomputable def opts_Same_1_slices_EqualFunc_api_Option_api_Option_api_Option_api_Option_L4_I : LI := ⟨32, 0, [], ⟨[(1, .ty (.sl (.pair (.int .u8) (.sl (.int .u8))))), (2, .lit (.clo 35 [])), (15, .ty (.sl (.pair (.int .u8) (.sl (.int .u8))))), (16, .ty (.int .i64)), (17, .ty (.int .i64))], []⟩, [(.ret, ⟨[(6, .ty .bool)], []⟩), (.exit 0, ⟨[], []⟩)]⟩
noncomputable def opts_Same_1_slices_EqualFunc_api_Option_api_Option_api_Option_api_Option_L4 (X : (((List (Int × (List Int))) × ((List (Int × (List Int))) × (Int × (Int × Unit)))) × Unit) → Option ((((Bool × Unit) × Unit) ⊕ (Unit × Unit)))) (s21 : List (Int × (List Int))) (x15 : List (Int × (List Int))) (x16 : Int) (x17 : Int) : Option ((((Bool × Unit) × Unit) ⊕ (Unit × Unit))) :=
 bif (decide (x17 < x16)) then
  Option.bind (getI x15 x17) fun (v6 : (Int × (List Int))) =>
  Option.bind (getI s21 x17) fun (v7 : (Int × (List Int))) =>
  Option.bind (opts_equal N (v6.1, v6.2) (v7.1, v7.2)) fun v8 =>
  bif (!v8) then
   some ((.inl ((false, ()), ())))
  else
   (X ((s21, (x15, (x16, ((IntKind.wrap .i64 (x17 + 1)), ())))), ()))
 else
  some ((.inr ((), ())))
noncomputable def opts_Same_1_slices_EqualFunc_api_Option_api_Option_api_Option_api_Option_L4_R (c : (((List (Int × (List Int))) × ((List (Int × (List Int))) × (Int × (Int × Unit)))) × Unit)) : Option ((((Bool × Unit) × Unit) ⊕ (Unit × Unit))) := gl (fun X c => opts_Same_1_slices_EqualFunc_api_Option_api_Option_api_Option_api_Option_L4 N X c.1.1 c.1.2.1 c.1.2.2.1 c.1.2.2.2.1) N c
theorem opts_Same_1_slices_EqualFunc_api_Option_api_Option_api_Option_api_Option_L4_S (X : (((List (Int × (List Int))) × ((List (Int × (List Int))) × (Int × (Int × Unit)))) × Unit) → Option ((((Bool × Unit) × Unit) ⊕ (Unit × Unit)))) (s21 : List (Int × (List Int))) (x15 : List (Int × (List Int))) (x16 : Int) (x17 : Int) : (roundK Tryd.prog (Ev9 N) 400 [34, 1, 14] opts_Same_1_slices_EqualFunc_api_Option_api_Option_api_Option_api_Option_L4_I (loopAt Tryd.prog [34, 1, 14] 4) X ((s21, x15, x16, x17, ()), ())).run = opts_Same_1_slices_EqualFunc_api_Option_api_Option_api_Option_api_Option_L4 N X s21 x15 x16 x17 := by kernel_rfl
noncomputable def Ev10 : (R : Type) → Env R := Env.addLp (Ev9 N) [34, 1, 14] 0 4 (fun R => lpK Tryd.prog opts_Same_1_slices_EqualFunc_api_Option_api_Option_api_Option_api_Option_L4_I (fun X c => opts_Same_1_slices_EqualFunc_api_Option_api_Option_api_Option_api_Option_L4 N X c.1.1 c.1.2.1 c.1.2.2.1 c.1.2.2.2.1) N)
theorem Ev10_ok (R : Type) : EnvOK Tryd.prog (Ev10 N R) := EnvOK.addLp (Ev9_ok N R) (by kernel_rfl) (lpK_ok (li := opts_Same_1_slices_EqualFunc_api_Option_api_Option_api_Option_api_Option_L4_I) (G := fun X c => opts_Same_1_slices_EqualFunc_api_Option_api_Option_api_Option_api_Option_L4 N X c.1.1 c.1.2.1 c.1.2.2.1 c.1.2.2.2.1) hmx (Ev9_ok N _) (by kernel_rfl) loopAt_sub (fun (X : CT opts_Same_1_slices_EqualFunc_api_Option_api_Option_api_Option_api_Option_L4_I.sh → Option (OT opts_Same_1_slices_EqualFunc_api_Option_api_Option_api_Option_api_Option_L4_I.outs)) (c : CT opts_Same_1_slices_EqualFunc_api_Option_api_Option_api_Option_api_Option_L4_I.sh) => opts_Same_1_slices_EqualFunc_api_Option_api_Option_api_Option_api_Option_L4_S N X c.1.1 c.1.2.1 c.1.2.2.1 c.1.2.2.2.1) N)
noncomputable def opts_Same (a0 : List (Int × (List Int))) (b1 : List (Int × (List Int))) : Option Bool :=
 bif (!(decide ((((List.length a0) : Nat) : Int) = (((List.length b1) : Nat) : Int)))) then
  some (false)
 else
  Option.bind (opts_Same_1_slices_EqualFunc_api_Option_api_Option_api_Option_api_Option_L4_R N ((b1, (a0, ((((List.length a0) : Nat) : Int), ((0 : Int), ())))), ())) fun v3 =>
  Sum.elim
   (fun (v4 : ((Bool × Unit) × Unit)) =>
   some (v4.1.1))
   (fun (v4 : (Unit × Unit)) =>
   some (true)) v3
theorem opts_Same_S (a0 : List (Int × (List Int))) (b1 : List (Int × (List Int))) : (runK Tryd.prog (Ev10 N) 400 14 [(.sl (.pair (.int .u8) (.sl (.int .u8)))), (.sl (.pair (.int .u8) (.sl (.int .u8))))] [.bool] (a0, b1, ())).run = opts_Same N a0 b1 := by kernel_rfl
noncomputable def Ev11 : (R : Type) → Env R := Env.addFn (Ev10 N) 14 (fun R => fnK [(.sl (.pair (.int .u8) (.sl (.int .u8)))), (.sl (.pair (.int .u8) (.sl (.int .u8))))] [.bool] (fun c => opts_Same N c.1 c.2.1))
theorem Ev11_ok (R : Type) : EnvOK Tryd.prog (Ev11 N R) := EnvOK.addFn hmx (Ev10_ok N R) (Ev10_ok N _) (by kernel_rfl) (fun c => opts_Same_S N c.1 c.2.1)
noncomputable def opts_Find_1_slices_IndexFunc_api_Option_api_Option_L2_I : LI := ⟨19, 2, [], ⟨[(0, .ty (.sl (.pair (.int .u8) (.sl (.int .u8))))), (1, .lit (.clo 46 [.box 0 0])), (7, .ty (.int .i64)), (8, .ty (.int .i64))], [.box 5 (.int .u8), .box 60 (.pair (.int .u8) (.sl (.int .u8)))]⟩, [(.ret, ⟨[(4, .ty (.int .i64))], [.box 5 (.int .u8), .box 60 (.pair (.int .u8) (.sl (.int .u8)))]⟩), (.exit 0, ⟨[], [.box 5 (.int .u8), .box 60 (.pair (.int .u8) (.sl (.int .u8)))]⟩)]⟩
noncomputable def opts_Find_1_slices_IndexFunc_api_Option_api_Option_L2 (N : Nat) (X : (((List (Int × (List Int))) × (Int × (Int × Unit))) × (Int × ((Int × (List Int)) × Unit))) → Option ((((Int × Unit) × (Int × ((Int × (List Int)) × Unit))) ⊕ (Unit × (Int × ((Int × (List Int)) × Unit)))))) (s0 : List (Int × (List Int))) (x7 : Int) (x8 : Int) (h0 : Int) (h1 : Int × (List Int)) : Option ((((Int × Unit) × (Int × ((Int × (List Int)) × Unit))) ⊕ (Unit × (Int × ((Int × (List Int)) × Unit))))) :=
 bif (decide (x8 < x7)) then
  Option.bind (getI s0 x8) fun (v7 : (Int × (List Int))) =>
  bif (decide (v7.1 = h0)) then
   some ((.inl ((x8, ()), (h0, ((h1.1, h1.2), ())))))
  else
   (X ((s0, (x7, ((IntKind.wrap .i64 (x8 + 1)), ()))), (h0, ((h1.1, h1.2), ()))))
 else
  some ((.inr ((), (h0, ((h1.1, h1.2), ())))))
noncomputable def opts_Find_1_slices_IndexFunc_api_Option_api_Option_L2_R (c : (((List (Int × (List Int))) × (Int × (Int × Unit))) × (Int × ((Int × (List Int)) × Unit)))) : Option ((((Int × Unit) × (Int × ((Int × (List Int)) × Unit))) ⊕ (Unit × (Int × ((Int × (List Int)) × Unit))))) := gl (fun X c => opts_Find_1_slices_IndexFunc_api_Option_api_Option_L2 N X c.1.1 c.1.2.1 c.1.2.2.1 c.2.1 c.2.2.1) N c
theorem opts_Find_1_slices_IndexFunc_api_Option_api_Option_L2_S (X : (((List (Int × (List Int))) × (Int × (Int × Unit))) × (Int × ((Int × (List Int)) × Unit))) → Option ((((Int × Unit) × (Int × ((Int × (List Int)) × Unit))) ⊕ (Unit × (Int × ((Int × (List Int)) × Unit)))))) (s0 : List (Int × (List Int))) (x7 : Int) (x8 : Int) (h0 : Int) (h1 : Int × (List Int)) : (roundK Tryd.prog (Ev11 N) 400 [45, 1, 25] opts_Find_1_slices_IndexFunc_api_Option_api_Option_L2_I (loopAt Tryd.prog [45, 1, 25] 2) X ((s0, x7, x8, ()), (h0, h1, ()))).run = opts_Find_1_slices_IndexFunc_api_Option_api_Option_L2 N X s0 x7 x8 h0 h1 := by kernel_rfl
noncomputable def Ev12 : (R : Type) → Env R := Env.addLp (Ev11 N) [45, 1, 25] 2 2 (fun R => lpK Tryd.prog opts_Find_1_slices_IndexFunc_api_Option_api_Option_L2_I (fun X c => opts_Find_1_slices_IndexFunc_api_Option_api_Option_L2 N X c.1.1 c.1.2.1 c.1.2.2.1 c.2.1 c.2.2.1) N)
theorem Ev12_ok (R : Type) : EnvOK Tryd.prog (Ev12 N R) := EnvOK.addLp (Ev11_ok N R) (by kernel_rfl) (lpK_ok (li := opts_Find_1_slices_IndexFunc_api_Option_api_Option_L2_I) (G := fun X c => opts_Find_1_slices_IndexFunc_api_Option_api_Option_L2 N X c.1.1 c.1.2.1 c.1.2.2.1 c.2.1 c.2.2.1) hmx (Ev11_ok N _) (by kernel_rfl) loopAt_sub (fun (X : CT opts_Find_1_slices_IndexFunc_api_Option_api_Option_L2_I.sh → Option (OT opts_Find_1_slices_IndexFunc_api_Option_api_Option_L2_I.outs)) (c : CT opts_Find_1_slices_IndexFunc_api_Option_api_Option_L2_I.sh) => opts_Find_1_slices_IndexFunc_api_Option_api_Option_L2_S N X c.1.1 c.1.2.1 c.1.2.2.1 c.2.1 c.2.2.1) N)
noncomputable def Ev13 : (R : Type) → Env R := Env.addBx (Ev12 N) [(47, 0)]
theorem Ev13_ok (R : Type) : EnvOK Tryd.prog (Ev13 N R) := EnvOK.addBx (Ev12_ok N R) [(47, 0)]
noncomputable def slices_Clone_byte_byte_ne (N : Nat) (s0 : List (Int)) : Option (List Int) :=
 bif (@List.isEmpty Int s0) then
  none
 else
  bif (roomB (List.length s0) 1) then
   some (s0)
  else
   none
theorem slices_Clone_byte_byte_ne_S (s0 : List (Int)) : (runK Tryd.prog (Ev13 N) 400 24 [(.sl (.int .u8))] [(.sl (.int .u8))] (s0, ())).run = slices_Clone_byte_byte_ne N s0 := by kernel_rfl
theorem slices_Clone_byte_byte_n1 (c : Nat) : (runV Tryd.prog (Ev13 N) 400 24 [.c (.slice none 0 c)] [(.sl (.int .u8))]).run = some [] := by kernel_rfl
theorem slices_Clone_byte_byte_n2 (A : Addr) (c : Nat) : (runV Tryd.prog (Ev13 N) 400 24 [.c (.slice (some A) 0 c)] [(.sl (.int .u8))]).run = some [] := by kernel_rfl
noncomputable def slices_Clone_byte_byte (s0 : List (Int)) : Option (List Int) := bif s0.isEmpty then some [] else slices_Clone_byte_byte_ne N s0
noncomputable def Ev14 : (R : Type) → Env R := Env.addFn (Ev13 N) 24 (fun R => fnK [(.sl (.int .u8))] [(.sl (.int .u8))] (fun c => slices_Clone_byte_byte N c.1))
theorem Ev14_ok (R : Type) : EnvOK Tryd.prog (Ev14 N R) := EnvOK.addNil hmx (Ev13_ok N R) (Ev13_ok N _) (by kernel_rfl) (fun c => slices_Clone_byte_byte_ne_S N c.1) (slices_Clone_byte_byte_n1 N) (slices_Clone_byte_byte_n2 N)
noncomputable def opts_clone (o0 : Int × (List Int)) : Option (Int × (List Int)) :=
 Option.bind (slices_Clone_byte_byte N o0.2) fun v2 =>
 some ((o0.1, v2))
theorem opts_clone_S (o0 : Int × (List Int)) : (runK Tryd.prog (Ev14 N) 400 47 [(.pair (.int .u8) (.sl (.int .u8)))] [(.pair (.int .u8) (.sl (.int .u8)))] (o0, ())).run = opts_clone N o0 := by kernel_rfl
noncomputable def Ev15 : (R : Type) → Env R := Env.addFn (Ev14 N) 47 (fun R => fnK [(.pair (.int .u8) (.sl (.int .u8)))] [(.pair (.int .u8) (.sl (.int .u8)))] (fun c => opts_clone N c.1))
theorem Ev15_ok (R : Type) : EnvOK Tryd.prog (Ev15 N R) := EnvOK.addFn hmx (Ev14_ok N R) (Ev14_ok N _) (by kernel_rfl) (fun c => opts_clone_S N c.1)
noncomputable def opts_Find (l0 : List (Int × (List Int))) (kind1 : Int) : Option ((Int × (List Int)) × Bool) :=
 Option.bind (opts_Find_1_slices_IndexFunc_api_Option_api_Option_L2_R N ((l0, ((((List.length l0) : Nat) : Int), ((0 : Int), ()))), (kind1, (((0 : Int), ([] : List Int)), ())))) fun v3 =>
 Sum.elim
  (fun (v4 : ((Int × Unit) × (Int × ((Int × (List Int)) × Unit)))) =>
  bif (decide (v4.1.1 < (0 : Int))) then
   some ((((0 : Int), ([] : List Int)), false))
  else
   Option.bind (getI l0 v4.1.1) fun (v5 : (Int × (List Int))) =>
   Option.bind (opts_clone N (v5.1, v5.2)) fun v6 =>
   some (((v6.1, v6.2), true)))
  (fun (v4 : (Unit × (Int × ((Int × (List Int)) × Unit)))) =>
  some ((((0 : Int), ([] : List Int)), false))) v3
theorem opts_Find_S (l0 : List (Int × (List Int))) (kind1 : Int) : (runK Tryd.prog (Ev15 N) 400 25 [(.sl (.pair (.int .u8) (.sl (.int .u8)))), (.int .u8)] [(.pair (.int .u8) (.sl (.int .u8))), .bool] (l0, kind1, ())).run = opts_Find N l0 kind1 := by kernel_rfl
noncomputable def Ev16 : (R : Type) → Env R := Env.addFn (Ev15 N) 25 (fun R => fnK [(.sl (.pair (.int .u8) (.sl (.int .u8)))), (.int .u8)] [(.pair (.int .u8) (.sl (.int .u8))), .bool] (fun c => opts_Find N c.1 c.2.1))
theorem Ev16_ok (R : Type) : EnvOK Tryd.prog (Ev16 N R) := EnvOK.addFn hmx (Ev15_ok N R) (Ev15_ok N _) (by kernel_rfl) (fun c => opts_Find_S N c.1 c.2.1)
noncomputable def ipcpo_laid (a0 : Int) : Option (List Int) :=
 Option.bind (octs_Put N (IntKind.wrap .u64 a0) (4 : Int) false) fun v2 =>
 some (v2.1)
theorem ipcpo_laid_S (a0 : Int) : (runK Tryd.prog (Ev16 N) 400 40 [(.int .u32)] [(.sl (.int .u8))] (a0, ())).run = ipcpo_laid N a0 := by kernel_rfl
noncomputable def Ev17 : (R : Type) → Env R := Env.addFn (Ev16 N) 40 (fun R => fnK [(.int .u32)] [(.sl (.int .u8))] (fun c => ipcpo_laid N c.1))
theorem Ev17_ok (R : Type) : EnvOK Tryd.prog (Ev17 N R) := EnvOK.addFn hmx (Ev16_ok N R) (Ev16_ok N _) (by kernel_rfl) (fun c => ipcpo_laid_S N c.1)
noncomputable def ipcpo_option (kind0 : Int) (a1 : Int) : Option (Int × (List Int)) :=
 Option.bind (ipcpo_laid N a1) fun v3 =>
 some ((kind0, v3))
theorem ipcpo_option_S (kind0 : Int) (a1 : Int) : (runK Tryd.prog (Ev17 N) 400 29 [(.int .u8), (.int .u32)] [(.pair (.int .u8) (.sl (.int .u8)))] (kind0, a1, ())).run = ipcpo_option N kind0 a1 := by kernel_rfl
noncomputable def Ev18 : (R : Type) → Env R := Env.addFn (Ev17 N) 29 (fun R => fnK [(.int .u8), (.int .u32)] [(.pair (.int .u8) (.sl (.int .u8)))] (fun c => ipcpo_option N c.1 c.2.1))
theorem Ev18_ok (R : Type) : EnvOK Tryd.prog (Ev18 N R) := EnvOK.addFn hmx (Ev17_ok N R) (Ev17_ok N _) (by kernel_rfl) (fun c => ipcpo_option_S N c.1 c.2.1)
noncomputable def Ev19 : (R : Type) → Env R := Env.addMv (Ev18 N) [(15, 1), (15, 3)]
theorem Ev19_ok (R : Type) : EnvOK Tryd.prog (Ev19 N R) := EnvOK.addMv (Ev18_ok N R) [(15, 1), (15, 3)]
noncomputable def Ev20 : (R : Type) → Env R := Env.addBx (Ev19 N) [(15, 0)]
theorem Ev20_ok (R : Type) : EnvOK Tryd.prog (Ev20 N R) := EnvOK.addBx (Ev19_ok N R) [(15, 0)]
noncomputable def ipcpo_Options (s0 : Bool × (Int × (Int × (Int × (Bool))))) : Option (List (Int × (List Int))) :=
 Option.bind (ipcpo_option N (3 : Int) s0.2.1) fun v2 =>
 Option.bind (bif (!s0.1) then
   some ((cond true s0.2.2.2.2 false))
  else
   some (false)) fun (v3 : Bool) =>
 bif v3 then
  Option.bind (ipcpo_option N (129 : Int) s0.2.2.2.1) fun v4 =>
  some ((([(v2.1, v2.2)] : List ((Int × (List Int)))) ++ ([(v4.1, v4.2)] : List ((Int × (List Int))))))
 else
  some (([(v2.1, v2.2)] : List ((Int × (List Int)))))
theorem ipcpo_Options_S (s0 : Bool × (Int × (Int × (Int × (Bool))))) : (runK Tryd.prog (Ev20 N) 400 15 [(.pair .bool (.pair (.int .u32) (.pair (.int .u32) (.pair (.int .u32) .bool))))] [(.sl (.pair (.int .u8) (.sl (.int .u8))))] (s0, ())).run = ipcpo_Options N s0 := by kernel_rfl
noncomputable def Ev21 : (R : Type) → Env R := Env.addFn (Ev20 N) 15 (fun R => fnK [(.pair .bool (.pair (.int .u32) (.pair (.int .u32) (.pair (.int .u32) .bool))))] [(.sl (.pair (.int .u8) (.sl (.int .u8))))] (fun c => ipcpo_Options N c.1))
theorem Ev21_ok (R : Type) : EnvOK Tryd.prog (Ev21 N R) := EnvOK.addFn hmx (Ev20_ok N R) (Ev20_ok N _) (by kernel_rfl) (fun c => ipcpo_Options_S N c.1)
noncomputable def Ev22 : (R : Type) → Env R := Env.addFn (Ev21 N) 36 (fun R => fstK N)
theorem Ev22_ok (R : Type) : EnvOK Tryd.prog (Ev22 N R) := EnvOK.addExt (Ev21_ok N R) (fst_ok N)
noncomputable def ipcpo_Naked (s0 : Bool × (Int × (Int × (Int × (Bool))))) (l1 : List (Int × (List Int))) : Option (Bool × (Int × (Int × (Int × (Bool))))) :=
 bif s0.1 then
  some ((s0.1, (s0.2.1, (s0.2.2.1, (s0.2.2.2.1, s0.2.2.2.2)))))
 else
  Option.bind (ipcpo_first N l1 (3 : Int)) fun v3 =>
  bif (!(decide (v3 = (0 : Int)))) then
   Option.bind (ipcpo_first N l1 (129 : Int)) fun v4 =>
   Option.bind (bif s0.2.2.2.2 then
     some ((cond true (!(decide (v4 = (0 : Int)))) false))
    else
     some (false)) fun (v5 : Bool) =>
   bif v5 then
    some ((s0.1, (v3, (s0.2.2.1, (v4, s0.2.2.2.2)))))
   else
    some ((s0.1, (v3, (s0.2.2.1, (s0.2.2.2.1, s0.2.2.2.2)))))
  else
   Option.bind (ipcpo_first N l1 (129 : Int)) fun v4 =>
   Option.bind (bif s0.2.2.2.2 then
     some ((cond true (!(decide (v4 = (0 : Int)))) false))
    else
     some (false)) fun (v5 : Bool) =>
   bif v5 then
    some ((s0.1, (s0.2.1, (s0.2.2.1, (v4, s0.2.2.2.2)))))
   else
    some ((s0.1, (s0.2.1, (s0.2.2.1, (s0.2.2.2.1, s0.2.2.2.2)))))
theorem ipcpo_Naked_S (s0 : Bool × (Int × (Int × (Int × (Bool))))) (l1 : List (Int × (List Int))) : (runK Tryd.prog (Ev22 N) 400 17 [(.pair .bool (.pair (.int .u32) (.pair (.int .u32) (.pair (.int .u32) .bool)))), (.sl (.pair (.int .u8) (.sl (.int .u8))))] [(.pair .bool (.pair (.int .u32) (.pair (.int .u32) (.pair (.int .u32) .bool))))] (s0, l1, ())).run = ipcpo_Naked N s0 l1 := by kernel_rfl
noncomputable def Ev23 : (R : Type) → Env R := Env.addFn (Ev22 N) 17 (fun R => fnK [(.pair .bool (.pair (.int .u32) (.pair (.int .u32) (.pair (.int .u32) .bool)))), (.sl (.pair (.int .u8) (.sl (.int .u8))))] [(.pair .bool (.pair (.int .u32) (.pair (.int .u32) (.pair (.int .u32) .bool))))] (fun c => ipcpo_Naked N c.1 c.2.1))
theorem Ev23_ok (R : Type) : EnvOK Tryd.prog (Ev23 N R) := EnvOK.addFn hmx (Ev22_ok N R) (Ev22_ok N _) (by kernel_rfl) (fun c => ipcpo_Naked_S N c.1 c.2.1)
noncomputable def ipcpo_Rejected (s0 : Bool × (Int × (Int × (Int × (Bool))))) (l1 : List (Int × (List Int))) : Option ((Bool × (Int × (Int × (Int × (Bool))))) × Bool) :=
 Option.bind (opts_Find N l1 (129 : Int)) fun v3 =>
 Option.bind (opts_Find N l1 (3 : Int)) fun v4 =>
 Option.bind (bif v3.2 then
   some ((cond true (!s0.1) false))
  else
   some (false)) fun (v5 : Bool) =>
 bif v5 then
  some (((s0.1, (s0.2.1, (s0.2.2.1, (s0.2.2.2.1, false)))), (!v4.2)))
 else
  some (((s0.1, (s0.2.1, (s0.2.2.1, (s0.2.2.2.1, s0.2.2.2.2)))), (!v4.2)))
theorem ipcpo_Rejected_S (s0 : Bool × (Int × (Int × (Int × (Bool))))) (l1 : List (Int × (List Int))) : (runK Tryd.prog (Ev23 N) 400 12 [(.pair .bool (.pair (.int .u32) (.pair (.int .u32) (.pair (.int .u32) .bool)))), (.sl (.pair (.int .u8) (.sl (.int .u8))))] [(.pair .bool (.pair (.int .u32) (.pair (.int .u32) (.pair (.int .u32) .bool)))), .bool] (s0, l1, ())).run = ipcpo_Rejected N s0 l1 := by kernel_rfl
noncomputable def Ev24 : (R : Type) → Env R := Env.addFn (Ev23 N) 12 (fun R => fnK [(.pair .bool (.pair (.int .u32) (.pair (.int .u32) (.pair (.int .u32) .bool)))), (.sl (.pair (.int .u8) (.sl (.int .u8))))] [(.pair .bool (.pair (.int .u32) (.pair (.int .u32) (.pair (.int .u32) .bool)))), .bool] (fun c => ipcpo_Rejected N c.1 c.2.1))
theorem Ev24_ok (R : Type) : EnvOK Tryd.prog (Ev24 N R) := EnvOK.addFn hmx (Ev23_ok N R) (Ev23_ok N _) (by kernel_rfl) (fun c => ipcpo_Rejected_S N c.1 c.2.1)
noncomputable def ref01_Big_L3_I : LI := ⟨24, 0, [], ⟨[(0, .ty (.int .u64)), (5, .lit (.own 0)), (6, .ty (.int .i64))], [.own (.int .u8) 5]⟩, [(.exit 0, ⟨[(5, .lit (.own 0))], [.own (.int .u8) 5]⟩)]⟩
noncomputable def ref01_Big_L3 (N : Nat) (X : ((Int × (Int × Unit)) × ((List Int) × Unit)) → Option ((Unit × ((List Int) × Unit)))) (n0 : Int) (i6 : Int) (h0 : List (Int)) : Option ((Unit × ((List Int) × Unit))) :=
 bif (decide ((0 : Int) ≤ i6)) then
  bif (decide ((0 : Int) ≤ i6 ∧ i6 < (((List.length h0) : Nat) : Int))) then
   Option.bind (h0[Int.toNat i6]?) fun (v5 : Int) =>
   (X (((IntKind.wrap .u64 (@Int.tdiv n0 (256 : Int))), ((IntKind.wrap .i64 (i6 - 1)), ())), ((@List.set Int h0 (Int.toNat i6) (IntKind.wrap .u8 (@Int.tmod n0 (256 : Int)))), ())))
  else
   none
 else
  some (((), (h0, ())))
noncomputable def ref01_Big_L3_R (c : ((Int × (Int × Unit)) × ((List Int) × Unit))) : Option ((Unit × ((List Int) × Unit))) := gl (fun X c => ref01_Big_L3 N X c.1.1 c.1.2.1 c.2.1) N c
theorem ref01_Big_L3_S (X : ((Int × (Int × Unit)) × ((List Int) × Unit)) → Option ((Unit × ((List Int) × Unit)))) (n0 : Int) (i6 : Int) (h0 : List (Int)) : (roundK Tryd.prog (Ev24 N) 400 [49] ref01_Big_L3_I (loopAt Tryd.prog [49] 3) X ((n0, i6, ()), (h0, ()))).run = ref01_Big_L3 N X n0 i6 h0 := by kernel_rfl
noncomputable def Ev25 : (R : Type) → Env R := Env.addLp (Ev24 N) [49] 0 3 (fun R => lpK Tryd.prog ref01_Big_L3_I (fun X c => ref01_Big_L3 N X c.1.1 c.1.2.1 c.2.1) N)
theorem Ev25_ok (R : Type) : EnvOK Tryd.prog (Ev25 N R) := EnvOK.addLp (Ev24_ok N R) (by kernel_rfl) (lpK_ok (li := ref01_Big_L3_I) (G := fun X c => ref01_Big_L3 N X c.1.1 c.1.2.1 c.2.1) hmx (Ev24_ok N _) (by kernel_rfl) loopAt_sub (fun (X : CT ref01_Big_L3_I.sh → Option (OT ref01_Big_L3_I.outs)) (c : CT ref01_Big_L3_I.sh) => ref01_Big_L3_S N X c.1.1 c.1.2.1 c.2.1) N)
noncomputable def ref01_Big (n0 : Int) (width1 : Int) : Option (List Int) :=
 bif ((decide ((0 : Int) ≤ width1 ∧ width1 ≤ width1)) && (roomB (Int.toNat width1) 1)) then
  Option.bind (ref01_Big_L3_R N ((n0, ((IntKind.wrap .i64 (width1 - 1)), ())), ((@List.replicate Int (Int.toNat width1) (0 : Int)), ()))) fun v3 =>
  some (v3.2.1)
 else
  none
theorem ref01_Big_S (n0 : Int) (width1 : Int) : (runK Tryd.prog (Ev25 N) 400 49 [(.int .u64), (.int .i64)] [(.sl (.int .u8))] (n0, width1, ())).run = ref01_Big N n0 width1 := by kernel_rfl
noncomputable def Ev26 : (R : Type) → Env R := Env.addFn (Ev25 N) 49 (fun R => fnK [(.int .u64), (.int .i64)] [(.sl (.int .u8))] (fun c => ref01_Big N c.1 c.2.1))
theorem Ev26_ok (R : Type) : EnvOK Tryd.prog (Ev26 N R) := EnvOK.addFn hmx (Ev25_ok N R) (Ev25_ok N _) (by kernel_rfl) (fun c => ref01_Big_S N c.1 c.2.1)
noncomputable def ref01_Num_L3_I : LI := ⟨20, 0, [], ⟨[(0, .ty (.sl (.int .u8))), (3, .ty (.int .u64)), (4, .ty (.int .i64))], []⟩, [(.exit 0, ⟨[(3, .ty (.int .u64))], []⟩)]⟩
noncomputable def ref01_Num_L3 (N : Nat) (X : (((List Int) × (Int × (Int × Unit))) × Unit) → Option (((Int × Unit) × Unit))) (b0 : List (Int)) (n3 : Int) (i4 : Int) : Option (((Int × Unit) × Unit)) :=
 bif (decide (i4 < (((List.length b0) : Nat) : Int))) then
  Option.bind (getI b0 i4) fun (v5 : Int) =>
  (X ((b0, ((IntKind.wrap .u64 ((IntKind.wrap .u64 (n3 * (256 : Int))) + (IntKind.wrap .u64 v5))), ((IntKind.wrap .i64 (i4 + 1)), ()))), ()))
 else
  some (((n3, ()), ()))
noncomputable def ref01_Num_L3_R (c : (((List Int) × (Int × (Int × Unit))) × Unit)) : Option (((Int × Unit) × Unit)) := gl (fun X c => ref01_Num_L3 N X c.1.1 c.1.2.1 c.1.2.2.1) N c
theorem ref01_Num_L3_S (X : (((List Int) × (Int × (Int × Unit))) × Unit) → Option (((Int × Unit) × Unit))) (b0 : List (Int)) (n3 : Int) (i4 : Int) : (roundK Tryd.prog (Ev26 N) 400 [32] ref01_Num_L3_I (loopAt Tryd.prog [32] 3) X ((b0, n3, i4, ()), ())).run = ref01_Num_L3 N X b0 n3 i4 := by kernel_rfl
noncomputable def Ev27 : (R : Type) → Env R := Env.addLp (Ev26 N) [32] 0 3 (fun R => lpK Tryd.prog ref01_Num_L3_I (fun X c => ref01_Num_L3 N X c.1.1 c.1.2.1 c.1.2.2.1) N)
theorem Ev27_ok (R : Type) : EnvOK Tryd.prog (Ev27 N R) := EnvOK.addLp (Ev26_ok N R) (by kernel_rfl) (lpK_ok (li := ref01_Num_L3_I) (G := fun X c => ref01_Num_L3 N X c.1.1 c.1.2.1 c.1.2.2.1) hmx (Ev26_ok N _) (by kernel_rfl) loopAt_sub (fun (X : CT ref01_Num_L3_I.sh → Option (OT ref01_Num_L3_I.outs)) (c : CT ref01_Num_L3_I.sh) => ref01_Num_L3_S N X c.1.1 c.1.2.1 c.1.2.2.1) N)
noncomputable def ref01_Num (b0 : List (Int)) : Option Int :=
 Option.bind (ref01_Num_L3_R N ((b0, ((0 : Int), ((0 : Int), ()))), ())) fun v2 =>
 some (v2.1.1)
theorem ref01_Num_S (b0 : List (Int)) : (runK Tryd.prog (Ev27 N) 400 32 [(.sl (.int .u8))] [(.int .u64)] (b0, ())).run = ref01_Num N b0 := by kernel_rfl
noncomputable def Ev28 : (R : Type) → Env R := Env.addFn (Ev27 N) 32 (fun R => fnK [(.sl (.int .u8))] [(.int .u64)] (fun c => ref01_Num N c.1))
theorem Ev28_ok (R : Type) : EnvOK Tryd.prog (Ev28 N R) := EnvOK.addFn hmx (Ev27_ok N R) (Ev27_ok N _) (by kernel_rfl) (fun c => ref01_Num_S N c.1)
noncomputable def ref21_Find_L2_I : LI := ⟨25, 0, [], ⟨[(0, .ty (.sl (.pair (.int .u8) (.sl (.int .u8))))), (1, .ty (.int .u8)), (4, .lit (.box 0 0)), (6, .ty (.int .i64))], [.box 59 (.pair (.int .u8) (.sl (.int .u8)))]⟩, [(.ret, ⟨[(4, .lit (.box 0 0)), (5, .ty .bool)], [.box 59 (.pair (.int .u8) (.sl (.int .u8)))]⟩), (.exit 0, ⟨[(4, .lit (.box 0 0))], [.box 59 (.pair (.int .u8) (.sl (.int .u8)))]⟩)]⟩
noncomputable def ref21_Find_L2 (N : Nat) (X : (((List (Int × (List Int))) × (Int × (Int × Unit))) × ((Int × (List Int)) × Unit)) → Option ((((Bool × Unit) × ((Int × (List Int)) × Unit)) ⊕ (Unit × ((Int × (List Int)) × Unit))))) (l0 : List (Int × (List Int))) (kind1 : Int) (i6 : Int) (h0 : Int × (List Int)) : Option ((((Bool × Unit) × ((Int × (List Int)) × Unit)) ⊕ (Unit × ((Int × (List Int)) × Unit)))) :=
 bif (decide (i6 < (((List.length l0) : Nat) : Int))) then
  Option.bind (getI l0 i6) fun (v6 : (Int × (List Int))) =>
  bif (decide (v6.1 = kind1)) then
   Option.bind (getI l0 i6) fun (v7 : (Int × (List Int))) =>
   some ((.inl ((true, ()), ((v7.1, v7.2), ()))))
  else
   (X ((l0, (kind1, ((IntKind.wrap .i64 (i6 + 1)), ()))), ((h0.1, h0.2), ())))
 else
  some ((.inr ((), ((h0.1, h0.2), ()))))
noncomputable def ref21_Find_L2_R (c : (((List (Int × (List Int))) × (Int × (Int × Unit))) × ((Int × (List Int)) × Unit))) : Option ((((Bool × Unit) × ((Int × (List Int)) × Unit)) ⊕ (Unit × ((Int × (List Int)) × Unit)))) := gl (fun X c => ref21_Find_L2 N X c.1.1 c.1.2.1 c.1.2.2.1 c.2.1) N c
theorem ref21_Find_L2_S (X : (((List (Int × (List Int))) × (Int × (Int × Unit))) × ((Int × (List Int)) × Unit)) → Option ((((Bool × Unit) × ((Int × (List Int)) × Unit)) ⊕ (Unit × ((Int × (List Int)) × Unit))))) (l0 : List (Int × (List Int))) (kind1 : Int) (i6 : Int) (h0 : Int × (List Int)) : (roundK Tryd.prog (Ev28 N) 400 [30] ref21_Find_L2_I (loopAt Tryd.prog [30] 2) X ((l0, kind1, i6, ()), (h0, ()))).run = ref21_Find_L2 N X l0 kind1 i6 h0 := by kernel_rfl
noncomputable def Ev29 : (R : Type) → Env R := Env.addLp (Ev28 N) [30] 0 2 (fun R => lpK Tryd.prog ref21_Find_L2_I (fun X c => ref21_Find_L2 N X c.1.1 c.1.2.1 c.1.2.2.1 c.2.1) N)
theorem Ev29_ok (R : Type) : EnvOK Tryd.prog (Ev29 N R) := EnvOK.addLp (Ev28_ok N R) (by kernel_rfl) (lpK_ok (li := ref21_Find_L2_I) (G := fun X c => ref21_Find_L2 N X c.1.1 c.1.2.1 c.1.2.2.1 c.2.1) hmx (Ev28_ok N _) (by kernel_rfl) loopAt_sub (fun (X : CT ref21_Find_L2_I.sh → Option (OT ref21_Find_L2_I.outs)) (c : CT ref21_Find_L2_I.sh) => ref21_Find_L2_S N X c.1.1 c.1.2.1 c.1.2.2.1 c.2.1) N)
noncomputable def ref21_Find (l0 : List (Int × (List Int))) (kind1 : Int) : Option ((Int × (List Int)) × Bool) :=
 Option.bind (ref21_Find_L2_R N ((l0, (kind1, ((0 : Int), ()))), (((0 : Int), ([] : List Int)), ()))) fun v3 =>
 Sum.elim
  (fun (v4 : ((Bool × Unit) × ((Int × (List Int)) × Unit))) =>
  some (((v4.2.1.1, v4.2.1.2), v4.1.1)))
  (fun (v4 : (Unit × ((Int × (List Int)) × Unit))) =>
  some ((((0 : Int), ([] : List Int)), false))) v3
theorem ref21_Find_S (l0 : List (Int × (List Int))) (kind1 : Int) : (runK Tryd.prog (Ev29 N) 400 30 [(.sl (.pair (.int .u8) (.sl (.int .u8)))), (.int .u8)] [(.pair (.int .u8) (.sl (.int .u8))), .bool] (l0, kind1, ())).run = ref21_Find N l0 kind1 := by kernel_rfl
noncomputable def Ev30 : (R : Type) → Env R := Env.addFn (Ev29 N) 30 (fun R => fnK [(.sl (.pair (.int .u8) (.sl (.int .u8)))), (.int .u8)] [(.pair (.int .u8) (.sl (.int .u8))), .bool] (fun c => ref21_Find N c.1 c.2.1))
theorem Ev30_ok (R : Type) : EnvOK Tryd.prog (Ev30 N R) := EnvOK.addFn hmx (Ev29_ok N R) (Ev29_ok N _) (by kernel_rfl) (fun c => ref21_Find_S N c.1 c.2.1)
noncomputable def ref26_option (kind0 : Int) (a1 : Int) : Option (Int × (List Int)) :=
 Option.bind (ref01_Big N (IntKind.wrap .u64 a1) (4 : Int)) fun v3 =>
 some ((kind0, v3))
theorem ref26_option_S (kind0 : Int) (a1 : Int) : (runK Tryd.prog (Ev30 N) 400 33 [(.int .u8), (.int .u32)] [(.pair (.int .u8) (.sl (.int .u8)))] (kind0, a1, ())).run = ref26_option N kind0 a1 := by kernel_rfl
noncomputable def Ev31 : (R : Type) → Env R := Env.addFn (Ev30 N) 33 (fun R => fnK [(.int .u8), (.int .u32)] [(.pair (.int .u8) (.sl (.int .u8)))] (fun c => ref26_option N c.1 c.2.1))
theorem Ev31_ok (R : Type) : EnvOK Tryd.prog (Ev31 N R) := EnvOK.addFn hmx (Ev30_ok N R) (Ev30_ok N _) (by kernel_rfl) (fun c => ref26_option_S N c.1 c.2.1)
noncomputable def Ev32 : (R : Type) → Env R := Env.addMv (Ev31 N) [(16, 1), (16, 3)]
theorem Ev32_ok (R : Type) : EnvOK Tryd.prog (Ev32 N R) := EnvOK.addMv (Ev31_ok N R) [(16, 1), (16, 3)]
noncomputable def Ev33 : (R : Type) → Env R := Env.addBx (Ev32 N) [(16, 0)]
theorem Ev33_ok (R : Type) : EnvOK Tryd.prog (Ev33 N R) := EnvOK.addBx (Ev32_ok N R) [(16, 0)]
noncomputable def ref26_Options (s0 : Bool × (Int × (Int × (Int × (Bool))))) : Option (List (Int × (List Int))) :=
 Option.bind (ref26_option N (3 : Int) s0.2.1) fun v2 =>
 Option.bind (bif (!s0.1) then
   some ((cond true s0.2.2.2.2 false))
  else
   some (false)) fun (v3 : Bool) =>
 bif v3 then
  Option.bind (ref26_option N (129 : Int) s0.2.2.2.1) fun v4 =>
  some ((([(v2.1, v2.2)] : List ((Int × (List Int)))) ++ ([(v4.1, v4.2)] : List ((Int × (List Int))))))
 else
  some (([(v2.1, v2.2)] : List ((Int × (List Int)))))
theorem ref26_Options_S (s0 : Bool × (Int × (Int × (Int × (Bool))))) : (runK Tryd.prog (Ev33 N) 400 16 [(.pair .bool (.pair (.int .u32) (.pair (.int .u32) (.pair (.int .u32) .bool))))] [(.sl (.pair (.int .u8) (.sl (.int .u8))))] (s0, ())).run = ref26_Options N s0 := by kernel_rfl
noncomputable def Ev34 : (R : Type) → Env R := Env.addFn (Ev33 N) 16 (fun R => fnK [(.pair .bool (.pair (.int .u32) (.pair (.int .u32) (.pair (.int .u32) .bool))))] [(.sl (.pair (.int .u8) (.sl (.int .u8))))] (fun c => ref26_Options N c.1))
theorem Ev34_ok (R : Type) : EnvOK Tryd.prog (Ev34 N R) := EnvOK.addFn hmx (Ev33_ok N R) (Ev33_ok N _) (by kernel_rfl) (fun c => ref26_Options_S N c.1)
noncomputable def Ev35 : (R : Type) → Env R := Env.addBx (Ev34 N) [(31, 0)]
theorem Ev35_ok (R : Type) : EnvOK Tryd.prog (Ev35 N R) := EnvOK.addBx (Ev34_ok N R) [(31, 0)]
noncomputable def ref26_rejects (s0 : Bool × (Int × (Int × (Int × (Bool))))) (o1 : Int × (List Int)) (met2 : Bool) : Option Bool :=
 bif met2 then
  some (true)
 else
  Option.bind (some ((cond false true (!(decide ((((List.length o1.2) : Nat) : Int) = (4 : Int))))))) fun (v4 : Bool) =>
  bif v4 then
   some (true)
  else
   bif s0.1 then
    Option.bind (bif (!(decide (o1.1 = (3 : Int)))) then
      bif (!(decide (o1.1 = (129 : Int)))) then
       some ((cond true true false))
      else
       some ((cond true (cond false true (decide (s0.2.2.2.1 = (0 : Int)))) false))
     else
      some (false)) fun (v5 : Bool) =>
    some (v5)
   else
    bif (!(decide (o1.1 = (3 : Int)))) then
     some (true)
    else
     Option.bind (ref01_Num N o1.2) fun v5 =>
     Option.bind (some ((cond false true (decide (v5 = (0 : Int)))))) fun (v6 : Bool) =>
     some (v6)
theorem ref26_rejects_S (s0 : Bool × (Int × (Int × (Int × (Bool))))) (o1 : Int × (List Int)) (met2 : Bool) : (runK Tryd.prog (Ev35 N) 400 31 [(.pair .bool (.pair (.int .u32) (.pair (.int .u32) (.pair (.int .u32) .bool)))), (.pair (.int .u8) (.sl (.int .u8))), .bool] [.bool] (s0, o1, met2, ())).run = ref26_rejects N s0 o1 met2 := by kernel_rfl
noncomputable def Ev36 : (R : Type) → Env R := Env.addFn (Ev35 N) 31 (fun R => fnK [(.pair .bool (.pair (.int .u32) (.pair (.int .u32) (.pair (.int .u32) .bool)))), (.pair (.int .u8) (.sl (.int .u8))), .bool] [.bool] (fun c => ref26_rejects N c.1 c.2.1 c.2.2.1))
theorem Ev36_ok (R : Type) : EnvOK Tryd.prog (Ev36 N R) := EnvOK.addFn hmx (Ev35_ok N R) (Ev35_ok N _) (by kernel_rfl) (fun c => ref26_rejects_S N c.1 c.2.1 c.2.2.1)
noncomputable def Ev37 : (R : Type) → Env R := Env.addMv (Ev36 N) [(11, 7), (11, 12)]
theorem Ev37_ok (R : Type) : EnvOK Tryd.prog (Ev37 N R) := EnvOK.addMv (Ev36_ok N R) [(11, 7), (11, 12)]
noncomputable def Ev38 : (R : Type) → Env R := Env.addBx (Ev37 N) [(11, 0)]
theorem Ev38_ok (R : Type) : EnvOK Tryd.prog (Ev38 N R) := EnvOK.addBx (Ev37_ok N R) [(11, 0)]
noncomputable def ref26_Judge_L3_I : LI := ⟨86, 0, [(6, 59), (7, 59)], ⟨[(1, .ty (.sl (.pair (.int .u8) (.sl (.int .u8))))), (2, .adr (.pair .bool (.pair (.int .u32) (.pair (.int .u32) (.pair (.int .u32) .bool))))), (6, .lit (.own 0)), (7, .lit (.own 1)), (8, .ty (.int .i64))], [.own (.pair (.int .u8) (.sl (.int .u8))) 59, .own (.pair (.int .u8) (.sl (.int .u8))) 59]⟩, [(.exit 0, ⟨[(1, .ty (.sl (.pair (.int .u8) (.sl (.int .u8))))), (6, .lit (.own 0)), (7, .lit (.own 1))], [.own (.pair (.int .u8) (.sl (.int .u8))) 59, .own (.pair (.int .u8) (.sl (.int .u8))) 59]⟩)]⟩
noncomputable def ref26_Judge_L3 (X : (((List (Int × (List Int))) × ((Bool × (Int × (Int × (Int × (Bool))))) × (Int × Unit))) × ((List (Int × (List Int))) × ((List (Int × (List Int))) × Unit))) → Option ((((List (Int × (List Int))) × Unit) × ((List (Int × (List Int))) × ((List (Int × (List Int))) × Unit))))) (l1 : List (Int × (List Int))) (s2 : Bool × (Int × (Int × (Int × (Bool))))) (i8 : Int) (h0 : List (Int × (List Int))) (h1 : List (Int × (List Int))) : Option ((((List (Int × (List Int))) × Unit) × ((List (Int × (List Int))) × ((List (Int × (List Int))) × Unit)))) :=
 bif (decide (i8 < (((List.length l1) : Nat) : Int))) then
  Option.bind (takeI l1 i8) fun (v7 : (List (Int × (List Int)))) =>
  Option.bind (getI l1 i8) fun (v8 : (Int × (List Int))) =>
  Option.bind (ref21_Find N v7 v8.1) fun v9 =>
  Option.bind (getI l1 i8) fun (v10 : (Int × (List Int))) =>
  Option.bind (ref26_rejects N (s2.1, (s2.2.1, (s2.2.2.1, (s2.2.2.2.1, s2.2.2.2.2)))) (v10.1, v10.2) v9.2) fun v11 =>
  bif v11 then
   Option.bind (getI l1 i8) fun (v12 : (Int × (List Int))) =>
   bif (roomB ((List.length h0) + (List.length ([(v12.1, v12.2)] : List ((Int × (List Int)))))) 32) then
    (X ((l1, ((s2.1, (s2.2.1, (s2.2.2.1, (s2.2.2.2.1, s2.2.2.2.2)))), ((IntKind.wrap .i64 (i8 + 1)), ()))), ((h0 ++ ([(v12.1, v12.2)] : List ((Int × (List Int))))), (h1, ()))))
   else
    none
  else
   Option.bind (getI l1 i8) fun (v12 : (Int × (List Int))) =>
   bif (decide (v12.1 = (129 : Int))) then
    bif s2.1 then
     Option.bind (getI l1 i8) fun (v13 : (Int × (List Int))) =>
     Option.bind (ref01_Num N v13.2) fun v14 =>
     Option.bind (some ((cond true (!(decide ((IntKind.wrap .u32 v14) = s2.2.2.2.1))) false))) fun (v15 : Bool) =>
     bif v15 then
      Option.bind (getI l1 i8) fun (v16 : (Int × (List Int))) =>
      Option.bind (ref26_option N v16.1 s2.2.2.2.1) fun v17 =>
      bif (roomB ((List.length h1) + (List.length ([(v17.1, v17.2)] : List ((Int × (List Int)))))) 32) then
       (X ((l1, ((s2.1, (s2.2.1, (s2.2.2.1, (s2.2.2.2.1, s2.2.2.2.2)))), ((IntKind.wrap .i64 (i8 + 1)), ()))), (h0, ((h1 ++ ([(v17.1, v17.2)] : List ((Int × (List Int))))), ()))))
      else
       none
     else
      (X ((l1, ((s2.1, (s2.2.1, (s2.2.2.1, (s2.2.2.2.1, s2.2.2.2.2)))), ((IntKind.wrap .i64 (i8 + 1)), ()))), (h0, (h1, ()))))
    else
     (X ((l1, ((s2.1, (s2.2.1, (s2.2.2.1, (s2.2.2.2.1, s2.2.2.2.2)))), ((IntKind.wrap .i64 (i8 + 1)), ()))), (h0, (h1, ()))))
   else
    bif s2.1 then
     Option.bind (getI l1 i8) fun (v13 : (Int × (List Int))) =>
     Option.bind (ref01_Num N v13.2) fun v14 =>
     Option.bind (some ((cond true (!(decide ((IntKind.wrap .u32 v14) = s2.2.2.1))) false))) fun (v15 : Bool) =>
     bif v15 then
      Option.bind (getI l1 i8) fun (v16 : (Int × (List Int))) =>
      Option.bind (ref26_option N v16.1 s2.2.2.1) fun v17 =>
      bif (roomB ((List.length h1) + (List.length ([(v17.1, v17.2)] : List ((Int × (List Int)))))) 32) then
       (X ((l1, ((s2.1, (s2.2.1, (s2.2.2.1, (s2.2.2.2.1, s2.2.2.2.2)))), ((IntKind.wrap .i64 (i8 + 1)), ()))), (h0, ((h1 ++ ([(v17.1, v17.2)] : List ((Int × (List Int))))), ()))))
      else
       none
     else
      (X ((l1, ((s2.1, (s2.2.1, (s2.2.2.1, (s2.2.2.2.1, s2.2.2.2.2)))), ((IntKind.wrap .i64 (i8 + 1)), ()))), (h0, (h1, ()))))
    else
     (X ((l1, ((s2.1, (s2.2.1, (s2.2.2.1, (s2.2.2.2.1, s2.2.2.2.2)))), ((IntKind.wrap .i64 (i8 + 1)), ()))), (h0, (h1, ()))))
 else
  some (((l1, ()), (h0, (h1, ()))))
noncomputable def ref26_Judge_L3_R (c : (((List (Int × (List Int))) × ((Bool × (Int × (Int × (Int × (Bool))))) × (Int × Unit))) × ((List (Int × (List Int))) × ((List (Int × (List Int))) × Unit)))) : Option ((((List (Int × (List Int))) × Unit) × ((List (Int × (List Int))) × ((List (Int × (List Int))) × Unit)))) := gl (fun X c => ref26_Judge_L3 N X c.1.1 c.1.2.1 c.1.2.2.1 c.2.1 c.2.2.1) N c
theorem ref26_Judge_L3_S (X : (((List (Int × (List Int))) × ((Bool × (Int × (Int × (Int × (Bool))))) × (Int × Unit))) × ((List (Int × (List Int))) × ((List (Int × (List Int))) × Unit))) → Option ((((List (Int × (List Int))) × Unit) × ((List (Int × (List Int))) × ((List (Int × (List Int))) × Unit))))) (l1 : List (Int × (List Int))) (s2 : Bool × (Int × (Int × (Int × (Bool))))) (i8 : Int) (h0 : List (Int × (List Int))) (h1 : List (Int × (List Int))) : (roundK Tryd.prog (Ev38 N) 400 [11] ref26_Judge_L3_I (loopAt Tryd.prog [11] 3) X ((l1, s2, i8, ()), (h0, h1, ()))).run = ref26_Judge_L3 N X l1 s2 i8 h0 h1 := by kernel_rfl
noncomputable def Ev39 : (R : Type) → Env R := Env.addLp (Ev38 N) [11] 0 3 (fun R => lpK Tryd.prog ref26_Judge_L3_I (fun X c => ref26_Judge_L3 N X c.1.1 c.1.2.1 c.1.2.2.1 c.2.1 c.2.2.1) N)
theorem Ev39_ok (R : Type) : EnvOK Tryd.prog (Ev39 N R) := EnvOK.addLp (Ev38_ok N R) (by kernel_rfl) (lpK_ok (li := ref26_Judge_L3_I) (G := fun X c => ref26_Judge_L3 N X c.1.1 c.1.2.1 c.1.2.2.1 c.2.1 c.2.2.1) hmx (Ev38_ok N _) (by kernel_rfl) loopAt_sub (fun (X : CT ref26_Judge_L3_I.sh → Option (OT ref26_Judge_L3_I.outs)) (c : CT ref26_Judge_L3_I.sh) => ref26_Judge_L3_S N X c.1.1 c.1.2.1 c.1.2.2.1 c.2.1 c.2.2.1) N)
noncomputable def ref26_Judge (s0 : Bool × (Int × (Int × (Int × (Bool))))) (l1 : List (Int × (List Int))) : Option (Int × List (Int × (List Int))) :=
 Option.bind (ref26_Judge_L3_R N ((l1, ((s0.1, (s0.2.1, (s0.2.2.1, (s0.2.2.2.1, s0.2.2.2.2)))), ((0 : Int), ()))), (([] : List ((Int × (List Int)))), (([] : List ((Int × (List Int)))), ())))) fun v3 =>
 bif (decide ((0 : Int) < (((List.length v3.2.1) : Nat) : Int))) then
  some (((4 : Int), v3.2.1))
 else
  bif (decide ((0 : Int) < (((List.length v3.2.2.1) : Nat) : Int))) then
   some (((3 : Int), v3.2.2.1))
  else
   some (((2 : Int), v3.1.1))
theorem ref26_Judge_S (s0 : Bool × (Int × (Int × (Int × (Bool))))) (l1 : List (Int × (List Int))) : (runK Tryd.prog (Ev39 N) 400 11 [(.pair .bool (.pair (.int .u32) (.pair (.int .u32) (.pair (.int .u32) .bool)))), (.sl (.pair (.int .u8) (.sl (.int .u8))))] [(.int .u8), (.sl (.pair (.int .u8) (.sl (.int .u8))))] (s0, l1, ())).run = ref26_Judge N s0 l1 := by kernel_rfl
noncomputable def Ev40 : (R : Type) → Env R := Env.addFn (Ev39 N) 11 (fun R => fnK [(.pair .bool (.pair (.int .u32) (.pair (.int .u32) (.pair (.int .u32) .bool)))), (.sl (.pair (.int .u8) (.sl (.int .u8))))] [(.int .u8), (.sl (.pair (.int .u8) (.sl (.int .u8))))] (fun c => ref26_Judge N c.1 c.2.1))
theorem Ev40_ok (R : Type) : EnvOK Tryd.prog (Ev40 N R) := EnvOK.addFn hmx (Ev39_ok N R) (Ev39_ok N _) (by kernel_rfl) (fun c => ref26_Judge_S N c.1 c.2.1)
noncomputable def ref26_told_L2_I : LI := ⟨44, 0, [], ⟨[(0, .ty (.sl (.pair (.int .u8) (.sl (.int .u8))))), (1, .ty (.int .u8)), (5, .ty (.int .i64))], []⟩, [(.ret, ⟨[(4, .ty (.int .u32))], []⟩), (.exit 0, ⟨[], []⟩)]⟩
noncomputable def ref26_told_L2 (X : (((List (Int × (List Int))) × (Int × (Int × Unit))) × Unit) → Option ((((Int × Unit) × Unit) ⊕ (Unit × Unit)))) (l0 : List (Int × (List Int))) (kind1 : Int) (i5 : Int) : Option ((((Int × Unit) × Unit) ⊕ (Unit × Unit))) :=
 bif (decide (i5 < (((List.length l0) : Nat) : Int))) then
  Option.bind (getI l0 i5) fun (v5 : (Int × (List Int))) =>
  bif (decide (v5.1 = kind1)) then
   Option.bind (getI l0 i5) fun (v6 : (Int × (List Int))) =>
   Option.bind (some ((cond true (decide ((((List.length v6.2) : Nat) : Int) = (4 : Int))) false))) fun (v7 : Bool) =>
   bif v7 then
    Option.bind (getI l0 i5) fun (v8 : (Int × (List Int))) =>
    Option.bind (ref01_Num N v8.2) fun v9 =>
    Option.bind (some ((cond true (!(decide (v9 = (0 : Int)))) false))) fun (v10 : Bool) =>
    bif v10 then
     Option.bind (getI l0 i5) fun (v11 : (Int × (List Int))) =>
     Option.bind (ref01_Num N v11.2) fun v12 =>
     some ((.inl (((IntKind.wrap .u32 v12), ()), ())))
    else
     (X ((l0, (kind1, ((IntKind.wrap .i64 (i5 + 1)), ()))), ()))
   else
    (X ((l0, (kind1, ((IntKind.wrap .i64 (i5 + 1)), ()))), ()))
  else
   (X ((l0, (kind1, ((IntKind.wrap .i64 (i5 + 1)), ()))), ()))
 else
  some ((.inr ((), ())))
noncomputable def ref26_told_L2_R (c : (((List (Int × (List Int))) × (Int × (Int × Unit))) × Unit)) : Option ((((Int × Unit) × Unit) ⊕ (Unit × Unit))) := gl (fun X c => ref26_told_L2 N X c.1.1 c.1.2.1 c.1.2.2.1) N c
theorem ref26_told_L2_S (X : (((List (Int × (List Int))) × (Int × (Int × Unit))) × Unit) → Option ((((Int × Unit) × Unit) ⊕ (Unit × Unit)))) (l0 : List (Int × (List Int))) (kind1 : Int) (i5 : Int) : (roundK Tryd.prog (Ev40 N) 400 [37] ref26_told_L2_I (loopAt Tryd.prog [37] 2) X ((l0, kind1, i5, ()), ())).run = ref26_told_L2 N X l0 kind1 i5 := by kernel_rfl
noncomputable def Ev41 : (R : Type) → Env R := Env.addLp (Ev40 N) [37] 0 2 (fun R => lpK Tryd.prog ref26_told_L2_I (fun X c => ref26_told_L2 N X c.1.1 c.1.2.1 c.1.2.2.1) N)
theorem Ev41_ok (R : Type) : EnvOK Tryd.prog (Ev41 N R) := EnvOK.addLp (Ev40_ok N R) (by kernel_rfl) (lpK_ok (li := ref26_told_L2_I) (G := fun X c => ref26_told_L2 N X c.1.1 c.1.2.1 c.1.2.2.1) hmx (Ev40_ok N _) (by kernel_rfl) loopAt_sub (fun (X : CT ref26_told_L2_I.sh → Option (OT ref26_told_L2_I.outs)) (c : CT ref26_told_L2_I.sh) => ref26_told_L2_S N X c.1.1 c.1.2.1 c.1.2.2.1) N)
noncomputable def ref26_told (l0 : List (Int × (List Int))) (kind1 : Int) : Option Int :=
 Option.bind (ref26_told_L2_R N ((l0, (kind1, ((0 : Int), ()))), ())) fun v3 =>
 Sum.elim
  (fun (v4 : ((Int × Unit) × Unit)) =>
  some (v4.1.1))
  (fun (v4 : (Unit × Unit)) =>
  some ((0 : Int))) v3
theorem ref26_told_S (l0 : List (Int × (List Int))) (kind1 : Int) : (runK Tryd.prog (Ev41 N) 400 37 [(.sl (.pair (.int .u8) (.sl (.int .u8)))), (.int .u8)] [(.int .u32)] (l0, kind1, ())).run = ref26_told N l0 kind1 := by kernel_rfl
noncomputable def Ev42 : (R : Type) → Env R := Env.addFn (Ev41 N) 37 (fun R => fnK [(.sl (.pair (.int .u8) (.sl (.int .u8)))), (.int .u8)] [(.int .u32)] (fun c => ref26_told N c.1 c.2.1))
theorem Ev42_ok (R : Type) : EnvOK Tryd.prog (Ev42 N R) := EnvOK.addFn hmx (Ev41_ok N R) (Ev41_ok N _) (by kernel_rfl) (fun c => ref26_told_S N c.1 c.2.1)
noncomputable def ref26_Naked (s0 : Bool × (Int × (Int × (Int × (Bool))))) (l1 : List (Int × (List Int))) : Option (Bool × (Int × (Int × (Int × (Bool))))) :=
 bif s0.1 then
  some ((s0.1, (s0.2.1, (s0.2.2.1, (s0.2.2.2.1, s0.2.2.2.2)))))
 else
  Option.bind (ref26_told N l1 (3 : Int)) fun v3 =>
  bif (!(decide (v3 = (0 : Int)))) then
   Option.bind (ref26_told N l1 (129 : Int)) fun v4 =>
   Option.bind (bif (!(decide (v4 = (0 : Int)))) then
     some ((cond true s0.2.2.2.2 false))
    else
     some (false)) fun (v5 : Bool) =>
   bif v5 then
    some ((s0.1, (v3, (s0.2.2.1, (v4, s0.2.2.2.2)))))
   else
    some ((s0.1, (v3, (s0.2.2.1, (s0.2.2.2.1, s0.2.2.2.2)))))
  else
   Option.bind (ref26_told N l1 (129 : Int)) fun v4 =>
   Option.bind (bif (!(decide (v4 = (0 : Int)))) then
     some ((cond true s0.2.2.2.2 false))
    else
     some (false)) fun (v5 : Bool) =>
   bif v5 then
    some ((s0.1, (s0.2.1, (s0.2.2.1, (v4, s0.2.2.2.2)))))
   else
    some ((s0.1, (s0.2.1, (s0.2.2.1, (s0.2.2.2.1, s0.2.2.2.2)))))
theorem ref26_Naked_S (s0 : Bool × (Int × (Int × (Int × (Bool))))) (l1 : List (Int × (List Int))) : (runK Tryd.prog (Ev42 N) 400 18 [(.pair .bool (.pair (.int .u32) (.pair (.int .u32) (.pair (.int .u32) .bool)))), (.sl (.pair (.int .u8) (.sl (.int .u8))))] [(.pair .bool (.pair (.int .u32) (.pair (.int .u32) (.pair (.int .u32) .bool))))] (s0, l1, ())).run = ref26_Naked N s0 l1 := by kernel_rfl
noncomputable def Ev43 : (R : Type) → Env R := Env.addFn (Ev42 N) 18 (fun R => fnK [(.pair .bool (.pair (.int .u32) (.pair (.int .u32) (.pair (.int .u32) .bool)))), (.sl (.pair (.int .u8) (.sl (.int .u8))))] [(.pair .bool (.pair (.int .u32) (.pair (.int .u32) (.pair (.int .u32) .bool))))] (fun c => ref26_Naked N c.1 c.2.1))
theorem Ev43_ok (R : Type) : EnvOK Tryd.prog (Ev43 N R) := EnvOK.addFn hmx (Ev42_ok N R) (Ev42_ok N _) (by kernel_rfl) (fun c => ref26_Naked_S N c.1 c.2.1)
noncomputable def ref26_Rejected (s0 : Bool × (Int × (Int × (Int × (Bool))))) (l1 : List (Int × (List Int))) : Option ((Bool × (Int × (Int × (Int × (Bool))))) × Bool) :=
 Option.bind (ref21_Find N l1 (129 : Int)) fun v3 =>
 Option.bind (bif v3.2 then
   some ((cond true (!s0.1) false))
  else
   some (false)) fun (v4 : Bool) =>
 bif v4 then
  Option.bind (ref21_Find N l1 (3 : Int)) fun v5 =>
  some (((s0.1, (s0.2.1, (s0.2.2.1, (s0.2.2.2.1, false)))), (!v5.2)))
 else
  Option.bind (ref21_Find N l1 (3 : Int)) fun v5 =>
  some (((s0.1, (s0.2.1, (s0.2.2.1, (s0.2.2.2.1, s0.2.2.2.2)))), (!v5.2)))
theorem ref26_Rejected_S (s0 : Bool × (Int × (Int × (Int × (Bool))))) (l1 : List (Int × (List Int))) : (runK Tryd.prog (Ev43 N) 400 13 [(.pair .bool (.pair (.int .u32) (.pair (.int .u32) (.pair (.int .u32) .bool)))), (.sl (.pair (.int .u8) (.sl (.int .u8))))] [(.pair .bool (.pair (.int .u32) (.pair (.int .u32) (.pair (.int .u32) .bool)))), .bool] (s0, l1, ())).run = ref26_Rejected N s0 l1 := by kernel_rfl
noncomputable def Ev44 : (R : Type) → Env R := Env.addFn (Ev43 N) 13 (fun R => fnK [(.pair .bool (.pair (.int .u32) (.pair (.int .u32) (.pair (.int .u32) .bool)))), (.sl (.pair (.int .u8) (.sl (.int .u8))))] [(.pair .bool (.pair (.int .u32) (.pair (.int .u32) (.pair (.int .u32) .bool)))), .bool] (fun c => ref26_Rejected N c.1 c.2.1))
theorem Ev44_ok (R : Type) : EnvOK Tryd.prog (Ev44 N R) := EnvOK.addFn hmx (Ev43_ok N R) (Ev43_ok N _) (by kernel_rfl) (fun c => ref26_Rejected_S N c.1 c.2.1)
noncomputable def Ev45 (X0 : (Int × Unit) → Option (List UInt8)) : (R : Type) → Env R := Env.addFn (Ev44 N) 43 (fun R => fnK [(.int .u32)] [.str] X0)
theorem Ev45_ok (X0 : (Int × Unit) → Option (List UInt8)) (hX0 : ∀ c y, X0 c = some y → CallsK Tryd.prog 43 (valA [(.int .u32)] c) (tupV (valR [.str] y))) (R : Type) : EnvOK Tryd.prog (Ev45 N X0 R) := EnvOK.addSelf (Ev44_ok N R) (inl := (Ev44 N Unit).inl) (by kernel_rfl) hX0
noncomputable def ref26_digits_B (N : Nat) (X0 : (Int × Unit) → Option (List UInt8)) (n0 : Int) : Option (List UInt8) :=
 bif (decide (n0 < (10 : Int))) then
  Option.bind (@toBy ([(IntKind.wrap .u8 (IntKind.wrap .u32 ((48 : Int) + n0)))] : List (Int))) fun (v3 : (List UInt8)) =>
  some (v3)
 else
  Option.bind (X0 ((IntKind.wrap .u32 (@Int.tdiv n0 (10 : Int))), ())) fun (v3 : (List UInt8)) =>
  Option.bind (X0 ((@Int.tmod n0 (10 : Int)), ())) fun (v4 : (List UInt8)) =>
  bif (decide (((List.length v3) + (List.length v4)) ≤ maxLen)) then
   some ((v3 ++ v4))
  else
   none
theorem ref26_digits_B_S (X0 : (Int × Unit) → Option (List UInt8)) (n0 : Int) : (runK Tryd.prog (Ev45 N X0) 400 43 [(.int .u32)] [.str] (n0, ())).run = ref26_digits_B N X0 n0 := by kernel_rfl
noncomputable def ref26_digits (n0 : Int) : Option (List UInt8) := gl (fun X c => ref26_digits_B N X c.1) N (n0, ())
noncomputable def Ev46 : (R : Type) → Env R := Env.addFn (Ev44 N) 43 (fun R => fnK [(.int .u32)] [.str] (fun c => ref26_digits N c.1))
theorem Ev46_ok (R : Type) : EnvOK Tryd.prog (Ev46 N R) := EnvOK.addSelf (Ev44_ok N R) (inl := (Ev44 N Unit).inl) (by kernel_rfl) (fun c y h => rec_ok (f := 43) (ds := [(.int .u32)]) (rs := [.str]) hmx (G := fun (X : (Int × Unit) → Option (List UInt8)) (c : (Int × Unit)) => ref26_digits_B N X c.1) (Γs := fun (X : (Int × Unit) → Option (List UInt8)) => Ev45 N X) (fuel := 400) (fun X hX => Ev45_ok N X hX _) (fun X => by kernel_rfl) (fun X c => ref26_digits_B_S N X c.1) N c y h)
noncomputable def ref26_Text (a0 : Int) : Option (List UInt8) :=
 Option.bind (ref26_digits N (IntKind.wrap .u32 (@Int.tdiv a0 (16777216 : Int)))) fun v2 =>
 bif (decide (((List.length v2) + (List.length (Array.toList (List.toArray ([46] : List UInt8))))) ≤ maxLen)) then
  Option.bind (ref26_digits N (@Int.tmod (IntKind.wrap .u32 (@Int.tdiv a0 (65536 : Int))) (256 : Int))) fun v3 =>
  bif (decide (((List.length (v2 ++ (Array.toList (List.toArray ([46] : List UInt8))))) + (List.length v3)) ≤ maxLen)) then
   bif (decide (((List.length ((v2 ++ (Array.toList (List.toArray ([46] : List UInt8)))) ++ v3)) + (List.length (Array.toList (List.toArray ([46] : List UInt8))))) ≤ maxLen)) then
    Option.bind (ref26_digits N (@Int.tmod (IntKind.wrap .u32 (@Int.tdiv a0 (256 : Int))) (256 : Int))) fun v4 =>
    bif (decide (((List.length (((v2 ++ (Array.toList (List.toArray ([46] : List UInt8)))) ++ v3) ++ (Array.toList (List.toArray ([46] : List UInt8))))) + (List.length v4)) ≤ maxLen)) then
     bif (decide (((List.length ((((v2 ++ (Array.toList (List.toArray ([46] : List UInt8)))) ++ v3) ++ (Array.toList (List.toArray ([46] : List UInt8)))) ++ v4)) + (List.length (Array.toList (List.toArray ([46] : List UInt8))))) ≤ maxLen)) then
      Option.bind (ref26_digits N (@Int.tmod a0 (256 : Int))) fun v5 =>
      bif (decide (((List.length (((((v2 ++ (Array.toList (List.toArray ([46] : List UInt8)))) ++ v3) ++ (Array.toList (List.toArray ([46] : List UInt8)))) ++ v4) ++ (Array.toList (List.toArray ([46] : List UInt8))))) + (List.length v5)) ≤ maxLen)) then
       some (((((((v2 ++ (Array.toList (List.toArray ([46] : List UInt8)))) ++ v3) ++ (Array.toList (List.toArray ([46] : List UInt8)))) ++ v4) ++ (Array.toList (List.toArray ([46] : List UInt8)))) ++ v5))
      else
       none
     else
      none
    else
     none
   else
    none
  else
   none
 else
  none
theorem ref26_Text_S (a0 : Int) : (runK Tryd.prog (Ev46 N) 400 22 [(.int .u32)] [.str] (a0, ())).run = ref26_Text N a0 := by kernel_rfl
noncomputable def Ev47 : (R : Type) → Env R := Env.addFn (Ev46 N) 22 (fun R => fnK [(.int .u32)] [.str] (fun c => ref26_Text N c.1))
theorem Ev47_ok (R : Type) : EnvOK Tryd.prog (Ev47 N R) := EnvOK.addFn hmx (Ev46_ok N R) (Ev46_ok N _) (by kernel_rfl) (fun c => ref26_Text_S N c.1)
noncomputable def ref26_Parse_L4_I : LI := ⟨95, 0, [], ⟨[(0, .ty .str), (4, .lit (.box 0 0)), (5, .ty (.int .i64)), (6, .ty (.int .i64))], [.box 88 (.arr 4 (.int .u32))]⟩, [(.ret, ⟨[(2, .ty (.int .u32)), (3, .ty (.int .i64))], []⟩), (.exit 0, ⟨[(0, .ty .str), (4, .lit (.box 0 0)), (5, .ty (.int .i64))], [.box 88 (.arr 4 (.int .u32))]⟩)]⟩
noncomputable def ref26_Parse_L4 (N : Nat) (X : ((List UInt8 × (Int × (Int × Unit))) × ((Arr Int 4) × Unit)) → Option ((((Int × (Int × Unit)) × Unit) ⊕ ((List UInt8 × (Int × Unit)) × ((Arr Int 4) × Unit))))) (s0 : List UInt8) (x5 : Int) (i6 : Int) (h0 : Arr Int 4) : Option ((((Int × (Int × Unit)) × Unit) ⊕ ((List UInt8 × (Int × Unit)) × ((Arr Int 4) × Unit)))) :=
 Option.bind (bif (decide (i6 < (((List.length s0) : Nat) : Int))) then
   some ((cond true (decide (i6 < (16 : Int))) false))
  else
   some (false)) fun (v6 : Bool) =>
 bif v6 then
  Option.bind (getI s0 i6) fun (v7 : UInt8) =>
  bif (decide ((((@UInt8.toNat v7) : Nat) : Int) = (46 : Int))) then
   bif (decide ((3 : Int) < (IntKind.wrap .i64 (x5 + 1)))) then
    some ((.inl (((0 : Int), ((3 : Int), ())), ())))
   else
    (X ((s0, ((IntKind.wrap .i64 (x5 + 1)), ((IntKind.wrap .i64 (i6 + 1)), ()))), (h0, ())))
  else
   Option.bind (getI s0 i6) fun (v8 : UInt8) =>
   Option.bind (bif (decide ((((@UInt8.toNat v8) : Nat) : Int) < (48 : Int))) then
     some (true)
    else
     Option.bind (getI s0 i6) fun (v9 : UInt8) =>
     some ((cond false true (decide ((57 : Int) < (((@UInt8.toNat v9) : Nat) : Int)))))) fun (v9 : Bool) =>
   Option.bind (bif v9 then
     some (true)
    else
     bif (decide ((0 : Int) ≤ x5 ∧ x5 < ((4 : Nat) : Int))) then
      Option.bind (h0.l[Int.toNat x5]?) fun (v10 : Int) =>
      some ((cond false true (decide ((255 : Int) < v10))))
     else
      none) fun (v10 : Bool) =>
   bif v10 then
    some ((.inl (((0 : Int), ((3 : Int), ())), ())))
   else
    bif (decide ((0 : Int) ≤ x5 ∧ x5 < ((4 : Nat) : Int))) then
     Option.bind (h0.l[Int.toNat x5]?) fun (v11 : Int) =>
     Option.bind (getI s0 i6) fun (v12 : UInt8) =>
     bif (decide ((0 : Int) ≤ x5 ∧ x5 < ((4 : Nat) : Int))) then
      Option.bind (h0.l[Int.toNat x5]?) fun (v13 : Int) =>
      (X ((s0, (x5, ((IntKind.wrap .i64 (i6 + 1)), ()))), ((h0.set (Int.toNat x5) (IntKind.wrap .u32 ((IntKind.wrap .u32 ((10 : Int) * v11)) + (IntKind.wrap .u32 (IntKind.wrap .u8 ((((@UInt8.toNat v12) : Nat) : Int) - 48)))))), ())))
     else
      none
    else
     none
 else
  some ((.inr ((s0, (x5, ())), (h0, ()))))
noncomputable def ref26_Parse_L4_R (c : ((List UInt8 × (Int × (Int × Unit))) × ((Arr Int 4) × Unit))) : Option ((((Int × (Int × Unit)) × Unit) ⊕ ((List UInt8 × (Int × Unit)) × ((Arr Int 4) × Unit)))) := gl (fun X c => ref26_Parse_L4 N X c.1.1 c.1.2.1 c.1.2.2.1 c.2.1) N c
theorem ref26_Parse_L4_S (X : ((List UInt8 × (Int × (Int × Unit))) × ((Arr Int 4) × Unit)) → Option ((((Int × (Int × Unit)) × Unit) ⊕ ((List UInt8 × (Int × Unit)) × ((Arr Int 4) × Unit))))) (s0 : List UInt8) (x5 : Int) (i6 : Int) (h0 : Arr Int 4) : (roundK Tryd.prog (Ev47 N) 400 [20] ref26_Parse_L4_I (loopAt Tryd.prog [20] 4) X ((s0, x5, i6, ()), (h0, ()))).run = ref26_Parse_L4 N X s0 x5 i6 h0 := by kernel_rfl
noncomputable def Ev48 : (R : Type) → Env R := Env.addLp (Ev47 N) [20] 0 4 (fun R => lpK Tryd.prog ref26_Parse_L4_I (fun X c => ref26_Parse_L4 N X c.1.1 c.1.2.1 c.1.2.2.1 c.2.1) N)
theorem Ev48_ok (R : Type) : EnvOK Tryd.prog (Ev48 N R) := EnvOK.addLp (Ev47_ok N R) (by kernel_rfl) (lpK_ok (li := ref26_Parse_L4_I) (G := fun X c => ref26_Parse_L4 N X c.1.1 c.1.2.1 c.1.2.2.1 c.2.1) hmx (Ev47_ok N _) (by kernel_rfl) loopAt_sub (fun (X : CT ref26_Parse_L4_I.sh → Option (OT ref26_Parse_L4_I.outs)) (c : CT ref26_Parse_L4_I.sh) => ref26_Parse_L4_S N X c.1.1 c.1.2.1 c.1.2.2.1 c.2.1) N)
noncomputable def ref26_Parse (s0 : List UInt8) : Option (Int × Int) :=
 Option.bind (ref26_Parse_L4_R N ((s0, ((0 : Int), ((0 : Int), ()))), ((@Arr.cons Int 3 0 (@Arr.cons Int 2 0 (@Arr.cons Int 1 0 (@Arr.cons Int 0 0 (@Arr.nil Int))))), ()))) fun v2 =>
 Sum.elim
  (fun (v3 : ((Int × (Int × Unit)) × Unit)) =>
  some ((v3.1.1, v3.1.2.1)))
  (fun (v3 : ((List UInt8 × (Int × Unit)) × ((Arr Int 4) × Unit))) =>
  Option.bind (bif (!(decide (v3.1.2.1 = (3 : Int)))) then
    some (true)
   else
    Option.bind (v3.2.1.l[Int.toNat (0 : Int)]?) fun (v4 : Int) =>
    some ((cond false true (decide ((255 : Int) < v4))))) fun (v4 : Bool) =>
  Option.bind (bif v4 then
    some (true)
   else
    Option.bind (v3.2.1.l[Int.toNat (1 : Int)]?) fun (v5 : Int) =>
    some ((cond false true (decide ((255 : Int) < v5))))) fun (v5 : Bool) =>
  Option.bind (bif v5 then
    some (true)
   else
    Option.bind (v3.2.1.l[Int.toNat (2 : Int)]?) fun (v6 : Int) =>
    some ((cond false true (decide ((255 : Int) < v6))))) fun (v6 : Bool) =>
  Option.bind (bif v6 then
    some (true)
   else
    Option.bind (v3.2.1.l[Int.toNat (3 : Int)]?) fun (v7 : Int) =>
    some ((cond false true (decide ((255 : Int) < v7))))) fun (v7 : Bool) =>
  bif v7 then
   some (((0 : Int), (3 : Int)))
  else
   Option.bind (v3.2.1.l[Int.toNat (0 : Int)]?) fun (v8 : Int) =>
   Option.bind (v3.2.1.l[Int.toNat (1 : Int)]?) fun (v9 : Int) =>
   Option.bind (v3.2.1.l[Int.toNat (2 : Int)]?) fun (v10 : Int) =>
   Option.bind (v3.2.1.l[Int.toNat (3 : Int)]?) fun (v11 : Int) =>
   Option.bind (ref26_Text N (IntKind.wrap .u32 ((IntKind.wrap .u32 ((IntKind.wrap .u32 ((IntKind.wrap .u32 ((16777216 : Int) * v8)) + (IntKind.wrap .u32 ((65536 : Int) * v9)))) + (IntKind.wrap .u32 ((256 : Int) * v10)))) + v11))) fun v12 =>
   bif (!(decide (v12 = v3.1.1))) then
    some (((0 : Int), (3 : Int)))
   else
    some (((IntKind.wrap .u32 ((IntKind.wrap .u32 ((IntKind.wrap .u32 ((IntKind.wrap .u32 ((16777216 : Int) * v8)) + (IntKind.wrap .u32 ((65536 : Int) * v9)))) + (IntKind.wrap .u32 ((256 : Int) * v10)))) + v11)), (0 : Int)))) v2
theorem ref26_Parse_S (s0 : List UInt8) : (runK Tryd.prog (Ev48 N) 400 20 [.str] [(.int .u32), (.int .i64)] (s0, ())).run = ref26_Parse N s0 := by kernel_rfl
noncomputable def Ev49 : (R : Type) → Env R := Env.addFn (Ev48 N) 20 (fun R => fnK [.str] [(.int .u32), (.int .i64)] (fun c => ref26_Parse N c.1))
theorem Ev49_ok (R : Type) : EnvOK Tryd.prog (Ev49 N R) := EnvOK.addFn hmx (Ev48_ok N R) (Ev48_ok N _) (by kernel_rfl) (fun c => ref26_Parse_S N c.1)
noncomputable def Ev50 : (R : Type) → Env R := Env.addMv (Ev49 N) [(10, 5)]
theorem Ev50_ok (R : Type) : EnvOK Tryd.prog (Ev50 N R) := EnvOK.addMv (Ev49_ok N R) [(10, 5)]
noncomputable def law26_theirs_L3_I : LI := ⟨22, 0, [(3, 60)], ⟨[(3, .lit (.own 0)), (6, .ty (.sl (.pair (.int .u8) (.sl (.int .u8))))), (7, .ty (.int .i64)), (8, .ty (.int .i64))], [.own (.pair (.int .u8) (.sl (.int .u8))) 60]⟩, [(.exit 0, ⟨[(3, .lit (.own 0))], [.own (.pair (.int .u8) (.sl (.int .u8))) 60]⟩)]⟩
noncomputable def law26_theirs_L3 (N : Nat) (X : (((List (Int × (List Int))) × (Int × (Int × Unit))) × ((List (Int × (List Int))) × Unit)) → Option ((Unit × ((List (Int × (List Int))) × Unit)))) (x6 : List (Int × (List Int))) (x7 : Int) (x8 : Int) (h0 : List (Int × (List Int))) : Option ((Unit × ((List (Int × (List Int))) × Unit))) :=
 bif (decide (x8 < x7)) then
  Option.bind (getI x6 x8) fun (v6 : (Int × (List Int))) =>
  bif (roomB ((List.length h0) + (List.length ([(v6.1, v6.2)] : List ((Int × (List Int)))))) 32) then
   (X ((x6, (x7, ((IntKind.wrap .i64 (x8 + 1)), ()))), ((h0 ++ ([(v6.1, v6.2)] : List ((Int × (List Int))))), ())))
  else
   none
 else
  some (((), (h0, ())))
noncomputable def law26_theirs_L3_R (c : (((List (Int × (List Int))) × (Int × (Int × Unit))) × ((List (Int × (List Int))) × Unit))) : Option ((Unit × ((List (Int × (List Int))) × Unit))) := gl (fun X c => law26_theirs_L3 N X c.1.1 c.1.2.1 c.1.2.2.1 c.2.1) N c
theorem law26_theirs_L3_S (X : (((List (Int × (List Int))) × (Int × (Int × Unit))) × ((List (Int × (List Int))) × Unit)) → Option ((Unit × ((List (Int × (List Int))) × Unit)))) (x6 : List (Int × (List Int))) (x7 : Int) (x8 : Int) (h0 : List (Int × (List Int))) : (roundK Tryd.prog (Ev50 N) 400 [10] law26_theirs_L3_I (loopAt Tryd.prog [10] 3) X ((x6, x7, x8, ()), (h0, ()))).run = law26_theirs_L3 N X x6 x7 x8 h0 := by kernel_rfl
noncomputable def Ev51 : (R : Type) → Env R := Env.addLp (Ev50 N) [10] 0 3 (fun R => lpK Tryd.prog law26_theirs_L3_I (fun X c => law26_theirs_L3 N X c.1.1 c.1.2.1 c.1.2.2.1 c.2.1) N)
theorem Ev51_ok (R : Type) : EnvOK Tryd.prog (Ev51 N R) := EnvOK.addLp (Ev50_ok N R) (by kernel_rfl) (lpK_ok (li := law26_theirs_L3_I) (G := fun X c => law26_theirs_L3 N X c.1.1 c.1.2.1 c.1.2.2.1 c.2.1) hmx (Ev50_ok N _) (by kernel_rfl) loopAt_sub (fun (X : CT law26_theirs_L3_I.sh → Option (OT law26_theirs_L3_I.outs)) (c : CT law26_theirs_L3_I.sh) => law26_theirs_L3_S N X c.1.1 c.1.2.1 c.1.2.2.1 c.2.1) N)
noncomputable def law26_theirs (l0 : List (Int × (List Int))) : Option (List (Int × (List Int))) :=
 Option.bind (law26_theirs_L3_R N ((l0, ((((List.length l0) : Nat) : Int), ((0 : Int), ()))), (([] : List ((Int × (List Int)))), ()))) fun v2 =>
 some (v2.2.1)
theorem law26_theirs_S (l0 : List (Int × (List Int))) : (runK Tryd.prog (Ev51 N) 400 10 [(.sl (.pair (.int .u8) (.sl (.int .u8))))] [(.sl (.pair (.int .u8) (.sl (.int .u8))))] (l0, ())).run = law26_theirs N l0 := by kernel_rfl
noncomputable def Ev52 : (R : Type) → Env R := Env.addFn (Ev51 N) 10 (fun R => fnK [(.sl (.pair (.int .u8) (.sl (.int .u8))))] [(.sl (.pair (.int .u8) (.sl (.int .u8))))] (fun c => law26_theirs N c.1))
theorem Ev52_ok (R : Type) : EnvOK Tryd.prog (Ev52 N R) := EnvOK.addFn hmx (Ev51_ok N R) (Ev51_ok N _) (by kernel_rfl) (fun c => law26_theirs_S N c.1)
noncomputable def Ev53 : (R : Type) → Env R := Env.addBx (Ev52 N) [(9, 0)]
theorem Ev53_ok (R : Type) : EnvOK Tryd.prog (Ev53 N R) := EnvOK.addBx (Ev52_ok N R) [(9, 0)]
noncomputable def law26_side (N : Nat) (s0 : Bool × (Int × (Int × (Int × (Bool))))) : Option (Bool × (Int × (Int × (Int × (Bool))))) :=
 some ((s0.1, (s0.2.1, (s0.2.2.1, (s0.2.2.2.1, s0.2.2.2.2)))))
theorem law26_side_S (s0 : Bool × (Int × (Int × (Int × (Bool))))) : (runK Tryd.prog (Ev53 N) 400 9 [(.pair .bool (.pair (.int .u32) (.pair (.int .u32) (.pair (.int .u32) .bool))))] [(.pair .bool (.pair (.int .u32) (.pair (.int .u32) (.pair (.int .u32) .bool))))] (s0, ())).run = law26_side N s0 := by kernel_rfl
noncomputable def Ev54 : (R : Type) → Env R := Env.addFn (Ev53 N) 9 (fun R => fnK [(.pair .bool (.pair (.int .u32) (.pair (.int .u32) (.pair (.int .u32) .bool))))] [(.pair .bool (.pair (.int .u32) (.pair (.int .u32) (.pair (.int .u32) .bool))))] (fun c => law26_side N c.1))
theorem Ev54_ok (R : Type) : EnvOK Tryd.prog (Ev54 N R) := EnvOK.addFn hmx (Ev53_ok N R) (Ev53_ok N _) (by kernel_rfl) (fun c => law26_side_S N c.1)
noncomputable def law26_far_L2_I : LI := ⟨23, 0, [], ⟨[(0, .ty (.sl (.pair (.int .u8) (.sl (.int .u8))))), (9, .ty (.sl (.pair (.int .u8) (.sl (.int .u8))))), (10, .ty (.int .i64)), (11, .ty (.int .i64))], []⟩, [(.ret, ⟨[(2, .ty .bool)], []⟩), (.exit 0, ⟨[(0, .ty (.sl (.pair (.int .u8) (.sl (.int .u8)))))], []⟩)]⟩
noncomputable def law26_far_L2 (N : Nat) (X : (((List (Int × (List Int))) × ((List (Int × (List Int))) × (Int × (Int × Unit)))) × Unit) → Option ((((Bool × Unit) × Unit) ⊕ (((List (Int × (List Int))) × Unit) × Unit)))) (l0 : List (Int × (List Int))) (x9 : List (Int × (List Int))) (x10 : Int) (x11 : Int) : Option ((((Bool × Unit) × Unit) ⊕ (((List (Int × (List Int))) × Unit) × Unit))) :=
 bif (decide (x11 < x10)) then
  Option.bind (getI x9 x11) fun (v6 : (Int × (List Int))) =>
  bif (decide ((300 : Int) < (((List.length v6.2) : Nat) : Int))) then
   some ((.inl ((true, ()), ())))
  else
   (X ((l0, (x9, (x10, ((IntKind.wrap .i64 (x11 + 1)), ())))), ()))
 else
  some ((.inr ((l0, ()), ())))
noncomputable def law26_far_L2_R (c : (((List (Int × (List Int))) × ((List (Int × (List Int))) × (Int × (Int × Unit)))) × Unit)) : Option ((((Bool × Unit) × Unit) ⊕ (((List (Int × (List Int))) × Unit) × Unit))) := gl (fun X c => law26_far_L2 N X c.1.1 c.1.2.1 c.1.2.2.1 c.1.2.2.2.1) N c
theorem law26_far_L2_S (X : (((List (Int × (List Int))) × ((List (Int × (List Int))) × (Int × (Int × Unit)))) × Unit) → Option ((((Bool × Unit) × Unit) ⊕ (((List (Int × (List Int))) × Unit) × Unit)))) (l0 : List (Int × (List Int))) (x9 : List (Int × (List Int))) (x10 : Int) (x11 : Int) : (roundK Tryd.prog (Ev54 N) 400 [6] law26_far_L2_I (loopAt Tryd.prog [6] 2) X ((l0, x9, x10, x11, ()), ())).run = law26_far_L2 N X l0 x9 x10 x11 := by kernel_rfl
noncomputable def Ev55 : (R : Type) → Env R := Env.addLp (Ev54 N) [6] 0 2 (fun R => lpK Tryd.prog law26_far_L2_I (fun X c => law26_far_L2 N X c.1.1 c.1.2.1 c.1.2.2.1 c.1.2.2.2.1) N)
theorem Ev55_ok (R : Type) : EnvOK Tryd.prog (Ev55 N R) := EnvOK.addLp (Ev54_ok N R) (by kernel_rfl) (lpK_ok (li := law26_far_L2_I) (G := fun X c => law26_far_L2 N X c.1.1 c.1.2.1 c.1.2.2.1 c.1.2.2.2.1) hmx (Ev54_ok N _) (by kernel_rfl) loopAt_sub (fun (X : CT law26_far_L2_I.sh → Option (OT law26_far_L2_I.outs)) (c : CT law26_far_L2_I.sh) => law26_far_L2_S N X c.1.1 c.1.2.1 c.1.2.2.1 c.1.2.2.2.1) N)
noncomputable def law26_far (l0 : List (Int × (List Int))) : Option Bool :=
 Option.bind (takeI l0 (@minI (((List.length l0) : Nat) : Int) (40 : Int))) fun (v2 : (List (Int × (List Int)))) =>
 Option.bind (law26_far_L2_R N ((l0, (v2, ((((List.length v2) : Nat) : Int), ((0 : Int), ())))), ())) fun v3 =>
 Sum.elim
  (fun (v4 : ((Bool × Unit) × Unit)) =>
  some (v4.1.1))
  (fun (v4 : (((List (Int × (List Int))) × Unit) × Unit)) =>
  some ((decide ((40 : Int) < (((List.length v4.1.1) : Nat) : Int))))) v3
theorem law26_far_S (l0 : List (Int × (List Int))) : (runK Tryd.prog (Ev55 N) 400 6 [(.sl (.pair (.int .u8) (.sl (.int .u8))))] [.bool] (l0, ())).run = law26_far N l0 := by kernel_rfl
noncomputable def Ev56 : (R : Type) → Env R := Env.addFn (Ev55 N) 6 (fun R => fnK [(.sl (.pair (.int .u8) (.sl (.int .u8))))] [.bool] (fun c => law26_far N c.1))
theorem Ev56_ok (R : Type) : EnvOK Tryd.prog (Ev56 N R) := EnvOK.addFn hmx (Ev55_ok N R) (Ev55_ok N _) (by kernel_rfl) (fun c => law26_far_S N c.1)
noncomputable def Ev57 : (R : Type) → Env R := Env.addFn (Ev56 N) 19 (fun R => prsK N)
theorem Ev57_ok (R : Type) : EnvOK Tryd.prog (Ev57 N R) := EnvOK.addExt (Ev56_ok N R) (prs_ok N)
noncomputable def Ev58 : (R : Type) → Env R := Env.addFn (Ev57 N) 8 (fun R => jgK N)
theorem Ev58_ok (R : Type) : EnvOK Tryd.prog (Ev58 N R) := EnvOK.addExt (Ev57_ok N R) (jg_ok N)
noncomputable def Ev59 : (R : Type) → Env R := Env.addFn (Ev58 N) 21 (fun R => ipcpoTextK N)
theorem Ev59_ok (R : Type) : EnvOK Tryd.prog (Ev59 N R) := EnvOK.addExt (Ev58_ok N R) (ipcpoText_ok N)
noncomputable def law26_alive : Option Bool :=
 Option.bind (ipcpo_Parse N (Array.toList (List.toArray ([49, 48, 46, 48, 46, 48, 46, 49] : List UInt8)))) fun v1 =>
 Option.bind (ipcpo_Options N (false, ((0 : Int), ((0 : Int), ((0 : Int), false))))) fun v2 =>
 Option.bind (ipcpo_Judge N (true, ((0 : Int), ((5 : Int), ((0 : Int), false)))) v2) fun v3 =>
 Option.bind (@Jg.ipcpo_Text N (167772161 : Int)) fun (v4 : (List UInt8)) =>
 Option.bind (bif (decide (v4 = (Array.toList (List.toArray ([49, 48, 46, 48, 46, 48, 46, 49] : List UInt8))))) then
   some ((cond true (decide (v1.1 = (167772161 : Int))) false))
  else
   some (false)) fun (v5 : Bool) =>
 Option.bind (bif v5 then
   some ((cond true (decide (v1.2 = (0 : Int))) false))
  else
   some (false)) fun (v6 : Bool) =>
 Option.bind (bif v6 then
   some ((cond true (decide (v3.1 = (3 : Int))) false))
  else
   some (false)) fun (v7 : Bool) =>
 bif v7 then
  Option.bind (some ((cond true (decide ((((List.length v3.2) : Nat) : Int) = (1 : Int))) false))) fun (v8 : Bool) =>
  Option.bind (bif v8 then
    Option.bind (getI v3.2 (0 : Int)) fun (v9 : (Int × (List Int))) =>
    Option.bind (getI v9.2 (3 : Int)) fun (v10 : Int) =>
    some ((cond true (decide (v10 = (5 : Int))) false))
   else
    some (false)) fun (v9 : Bool) =>
  some (v9)
 else
  some (false)
theorem law26_alive_S : (runK Tryd.prog (Ev59 N) 400 7 [] [.bool] ()).run = law26_alive N  := by kernel_rfl
noncomputable def Ev60 : (R : Type) → Env R := Env.addFn (Ev59 N) 7 (fun R => fnK [] [.bool] (fun c => law26_alive N ))
theorem Ev60_ok (R : Type) : EnvOK Tryd.prog (Ev60 N R) := EnvOK.addFn hmx (Ev59_ok N R) (Ev59_ok N _) (by kernel_rfl) (fun c => law26_alive_S N )
noncomputable def Ev61 : (R : Type) → Env R := Env.addBx (Ev60 N) [(3, 0)]
theorem Ev61_ok (R : Type) : EnvOK Tryd.prog (Ev61 N R) := EnvOK.addBx (Ev60_ok N R) [(3, 0)]
noncomputable def law26_IpcpoJudges (s0 : Bool × (Int × (Int × (Int × (Bool))))) (l1 : List (Int × (List Int))) : Option Bool :=
 Option.bind (law26_far N l1) fun v3 =>
 bif v3 then
  Option.bind (@law26_alive N) fun (v4 : Bool) =>
  some (v4)
 else
  Option.bind (law26_theirs N l1) fun v4 =>
  Option.bind (ipcpo_Judge N (s0.1, (s0.2.1, (s0.2.2.1, (s0.2.2.2.1, s0.2.2.2.2)))) v4) fun v5 =>
  Option.bind (ref26_Judge N (s0.1, (s0.2.1, (s0.2.2.1, (s0.2.2.2.1, s0.2.2.2.2)))) l1) fun v6 =>
  Option.bind (law26_theirs N l1) fun v7 =>
  Option.bind (ipcpo_Rejected N (s0.1, (s0.2.1, (s0.2.2.1, (s0.2.2.2.1, s0.2.2.2.2)))) v7) fun v8 =>
  Option.bind (ref26_Rejected N (s0.1, (s0.2.1, (s0.2.2.1, (s0.2.2.2.1, s0.2.2.2.2)))) l1) fun v9 =>
  bif (decide (v5.1 = v6.1)) then
   Option.bind (law26_theirs N v6.2) fun v10 =>
   Option.bind (opts_Same N v5.2 v10) fun v11 =>
   bif (cond true v11 false) then
    Option.bind (ipcpo_Options N (s0.1, (s0.2.1, (s0.2.2.1, (s0.2.2.2.1, s0.2.2.2.2))))) fun v12 =>
    Option.bind (ref26_Options N (s0.1, (s0.2.1, (s0.2.2.1, (s0.2.2.2.1, s0.2.2.2.2))))) fun v13 =>
    Option.bind (law26_theirs N v13) fun v14 =>
    Option.bind (opts_Same N v12 v14) fun v15 =>
    bif (cond true v15 false) then
     Option.bind (law26_theirs N l1) fun v16 =>
     Option.bind (ipcpo_Naked N (s0.1, (s0.2.1, (s0.2.2.1, (s0.2.2.2.1, s0.2.2.2.2)))) v16) fun v17 =>
     Option.bind (ref26_Naked N (s0.1, (s0.2.1, (s0.2.2.1, (s0.2.2.2.1, s0.2.2.2.2)))) l1) fun v18 =>
     bif ((@wfB (@Td.pair @Td.bool (@Td.pair (@Td.int @IntKind.u32) (@Td.pair (@Td.int @IntKind.u32) (@Td.pair (@Td.int @IntKind.u32) @Td.bool)))) (v17.1, (v17.2.1, (v17.2.2.1, (v17.2.2.2.1, v17.2.2.2.2))))) && (@wfB (@Td.pair @Td.bool (@Td.pair (@Td.int @IntKind.u32) (@Td.pair (@Td.int @IntKind.u32) (@Td.pair (@Td.int @IntKind.u32) @Td.bool)))) (v18.1, (v18.2.1, (v18.2.2.1, (v18.2.2.2.1, v18.2.2.2.2)))))) then
      bif (cond true (@Decidable.decide (@Eq (Bool × (Int × (Int × (Int × Bool)))) (v17.1, (v17.2.1, (v17.2.2.1, (v17.2.2.2.1, v17.2.2.2.2)))) (v18.1, (v18.2.1, (v18.2.2.1, (v18.2.2.2.1, v18.2.2.2.2))))) (@decT (@Td.pair @Td.bool (@Td.pair (@Td.int @IntKind.u32) (@Td.pair (@Td.int @IntKind.u32) (@Td.pair (@Td.int @IntKind.u32) @Td.bool)))) (v17.1, (v17.2.1, (v17.2.2.1, (v17.2.2.2.1, v17.2.2.2.2)))) (v18.1, (v18.2.1, (v18.2.2.1, (v18.2.2.2.1, v18.2.2.2.2)))))) false) then
       bif ((@wfB (@Td.pair @Td.bool (@Td.pair (@Td.int @IntKind.u32) (@Td.pair (@Td.int @IntKind.u32) (@Td.pair (@Td.int @IntKind.u32) @Td.bool)))) (v8.1.1, (v8.1.2.1, (v8.1.2.2.1, (v8.1.2.2.2.1, v8.1.2.2.2.2))))) && (@wfB (@Td.pair @Td.bool (@Td.pair (@Td.int @IntKind.u32) (@Td.pair (@Td.int @IntKind.u32) (@Td.pair (@Td.int @IntKind.u32) @Td.bool)))) (v9.1.1, (v9.1.2.1, (v9.1.2.2.1, (v9.1.2.2.2.1, v9.1.2.2.2.2)))))) then
        bif (cond true (@Decidable.decide (@Eq (Bool × (Int × (Int × (Int × Bool)))) (v8.1.1, (v8.1.2.1, (v8.1.2.2.1, (v8.1.2.2.2.1, v8.1.2.2.2.2)))) (v9.1.1, (v9.1.2.1, (v9.1.2.2.1, (v9.1.2.2.2.1, v9.1.2.2.2.2))))) (@decT (@Td.pair @Td.bool (@Td.pair (@Td.int @IntKind.u32) (@Td.pair (@Td.int @IntKind.u32) (@Td.pair (@Td.int @IntKind.u32) @Td.bool)))) (v8.1.1, (v8.1.2.1, (v8.1.2.2.1, (v8.1.2.2.2.1, v8.1.2.2.2.2)))) (v9.1.1, (v9.1.2.1, (v9.1.2.2.1, (v9.1.2.2.2.1, v9.1.2.2.2.2)))))) false) then
         bif (cond true (@BEq.beq Bool (@instBEqOfDecidableEq Bool @instDecidableEqBool) v8.2 v9.2) false) then
          Option.bind (@law26_alive N) fun (v19 : Bool) =>
          some ((cond true v19 false))
         else
          some (false)
        else
         some (false)
       else
        none
      else
       some (false)
     else
      none
    else
     some (false)
   else
    some (false)
  else
   some (false)
theorem law26_IpcpoJudges_S (s0 : Bool × (Int × (Int × (Int × (Bool))))) (l1 : List (Int × (List Int))) : (runK Tryd.prog (Ev61 N) 400 3 [(.pair .bool (.pair (.int .u32) (.pair (.int .u32) (.pair (.int .u32) .bool)))), (.sl (.pair (.int .u8) (.sl (.int .u8))))] [.bool] (s0, l1, ())).run = law26_IpcpoJudges N s0 l1 := by kernel_rfl
theorem law26_IpcpoJudges_C (s0 : Bool × (Int × (Int × (Int × (Bool))))) (l1 : List (Int × (List Int))) (y : Bool) (h : law26_IpcpoJudges N s0 l1 = some y) : CallsK Tryd.prog 3 (valA [(.pair .bool (.pair (.int .u32) (.pair (.int .u32) (.pair (.int .u32) .bool)))), (.sl (.pair (.int .u8) (.sl (.int .u8))))] (s0, l1, ())) (tupV (valR [.bool] y)) := runK_ok hmx (Ev61_ok N _) (okFn_ok (by kernel_rfl)) (by rw [law26_IpcpoJudges_S]; exact h)
end
end Go.Proofs.YtkigpcolmioibaaDoor
namespace Go.Proofs.YtkigpcolmioibaaDoor
set_option maxRecDepth 100000
open Go.RowKit
set_option linter.unusedVariables false
set_option linter.unusedSimpArgs false
set_option maxRecDepth 100000
abbrev Op := Int × List Int
def wfO (l : List Op) : Prop := ∀ o ∈ l, (0 ≤ o.1 ∧ o.1 < 256) ∧ AllB o.2
theorem take_snoc {α : Type} (l : List α) (i : Nat) (h : i < l.length) : l.take (i + 1) = l.take i ++ [l[i]] := by rw [List.take_add_one, List.getElem?_eq_getElem h]; rfl
section
variable {N : Nat}
end
abbrev ParO := (((List Op) × ((Int) × Unit)) × Unit) ⊕ (Unit × ((List Op) × Unit))
section
variable {N : Nat}
theorem clone_ok (s : List Int) (h : s.length ≤ 1000000) : slices_Clone_byte_byte N s = some s := by
 unfold slices_Clone_byte_byte slices_Clone_byte_byte_ne
 cases s with
 | nil => rfl
 | cons x s =>
  have : roomB (x :: s).length 1 = true := roomB_of (by have := big_len; omega) (by omega)
  first
   | (simp only [List.isEmpty_cons, cond_false, this, cond_true]; done)
   | (simp only [List.isEmpty_cons, cond_false, List.length_nil, Nat.zero_add, List.nil_append, this, cond_true]; done)
def fin (o : ParO) : List Op × Int := Sum.elim (fun v => (v.1.1, v.1.2.1)) (fun v => (v.2.1, 0)) o
end
section
variable {N : Nat}
theorem equal_ok (x y : Op) (h1 : AllB x.2) (h2 : AllB y.2) : opts_equal N x y = some (decide (x = y)) := by
 unfold opts_equal bytes_Equal
 rw [toBy_map h1, toBy_map h2]
 simp only [Option.bind_some, bytes_dec h1 h2]
 obtain ⟨x1, x2⟩ := x
 obtain ⟨y1, y2⟩ := y
 by_cases e1 : x1 = y1 <;> by_cases e2 : x2 = y2 <;> simp [e1, e2]
theorem osame_ok (a b : List Op) (ha : wfO a) (hb : wfO b) (hl : a.length < 1000) (hN : 10000 ≤ N) : opts_Same N a b = some (decide (a = b)) := by
 unfold opts_Same
 by_cases hl' : a.length = b.length
 ·have c0 : ((a.length : Int) = (b.length : Int)) := by omega
  simp only [c0, decide_true, Bool.not_true, cond_false]
  obtain ⟨o, h1, h2⟩ := gl_inv (G := fun (X : (((List Op) × ((List Op) × ((Int) × ((Int) × Unit)))) × Unit) → Option (((((Bool) × Unit) × Unit) ⊕ (Unit × Unit)))) c => opts_Same_1_slices_EqualFunc_api_Option_api_Option_api_Option_api_Option_L4 N X c.1.1 c.1.2.1 c.1.2.2.1 c.1.2.2.2.1)
   (fun n c => ∃ i : Nat, c = ((b, (a, ((b.length : Int), ((i : Int), ())))), ()) ∧ i ≤ a.length ∧ n = a.length - i ∧ a.take i = b.take i) (fun o => o = if a = b then .inr ((), ()) else .inl ((false, ()), ())) (fun X n c ⟨i, hc, hi, hn, ht⟩ => by
   subst hc
   rcases Nat.lt_or_ge i a.length with hlt | hge
   ·have c1 : ((i : Int) < (b.length : Int)) := by omega
    have c2 : IntKind.wrap .i64 ((i : Int) + 1) = ((i + 1 : Nat) : Int) := by rw [wrap64 (by omega) (by omega)]; omega
    have eq : opts_equal N (a[i].1, a[i].2) ((b[i]'(by omega)).1, (b[i]'(by omega)).2) = some (decide (a[i] = b[i]'(by omega))) := equal_ok (N := N) a[i] (b[i]'(by omega)) (ha _ (List.getElem_mem hlt)).2 (hb _ (List.getElem_mem _)).2
    by_cases he : a[i] = b[i]'(by omega)
    ·right
     refine ⟨a.length - (i + 1), ((b, (a, ((b.length : Int), (((i + 1 : Nat) : Int), ())))), ()), by omega, ⟨i + 1, rfl, hlt, rfl, ?_⟩, ?_⟩
     ·rw [List.take_add_one, List.take_add_one, ht, List.getElem?_eq_getElem hlt, List.getElem?_eq_getElem (by omega), he]
     ·simp only [opts_Same_1_slices_EqualFunc_api_Option_api_Option_api_Option_api_Option_L4, c1, decide_true, cond_true, getI_lt a i hlt, getI_lt b i (by omega), Option.bind_some, eq]
      simp only [he, decide_true, Bool.not_true, cond_false, c2]
    ·left
     refine ⟨.inl ((false, ()), ()), ?_, ?_⟩
     ·simp only [opts_Same_1_slices_EqualFunc_api_Option_api_Option_api_Option_api_Option_L4, c1, decide_true, cond_true, getI_lt a i hlt, getI_lt b i (by omega), Option.bind_some, eq]
      simp only [he, decide_false, Bool.not_false, cond_true]
     ·rw [if_neg (fun h => he (by simp [h]))]
   ·left
    have c1 : ¬ ((i : Int) < (b.length : Int)) := by omega
    refine ⟨.inr ((), ()), by simp only [opts_Same_1_slices_EqualFunc_api_Option_api_Option_api_Option_api_Option_L4, c1, decide_false, cond_false], ?_⟩
    rw [List.take_of_length_le (by omega), List.take_of_length_le (by omega)] at ht
    rw [if_pos ht]) N a.length ((b, (a, ((b.length : Int), ((0 : Int), ())))), ()) (by omega) ⟨0, rfl, by omega, by omega, by simp⟩
  unfold opts_Same_1_slices_EqualFunc_api_Option_api_Option_api_Option_api_Option_L4_R
  rw [h1, h2]
  by_cases he : a = b <;> simp [he]
 ·have c0 : ¬ ((a.length : Int) = (b.length : Int)) := by omega
  have c1 : ¬ (a = b) := fun h' => hl' (by rw [h'])
  simp only [c0, c1, decide_false, Bool.not_false, cond_true]
end
theorem wf_opts {l : List Op} (h : wfT (.sl (.pair (.int .u8) (.sl (.int .u8)))) l) : wfO l := fun o ho => ⟨wf_u8 (h.2 o ho).1, wf_bytes (h.2 o ho).2⟩
section
variable {N : Nat}
end
section
variable {N : Nat}
end
section
variable {N : Nat}
def findS (l : List Op) (k : Int) : Op × Bool := match l.find? (fun o => decide (o.1 = k)) with
 | some o => (o, true)
 | none => ((0, []), false)
theorem find_step {l : List Op} {k : Int} {i : Nat} (hi : i < l.length) : (l.drop i).find? (fun o => decide (o.1 = k)) = if l[i].1 = k then some l[i] else (l.drop (i + 1)).find? (fun o => decide (o.1 = k)) := by
 rw [List.drop_eq_getElem_cons hi, List.find?_cons]
 by_cases h : l[i].1 = k <;> simp [h]
theorem find_ok (l : List Op) (k : Int) (hl : l.length ≤ 1000) (hs : ∀ o ∈ l, o.2.length ≤ 1000) (hN : 10000 ≤ N) : opts_Find N l k = some (findS l k) := by
 obtain ⟨o, h1, h2⟩ := gl_inv (G := fun (X : ((List Op × Int × Int × Unit) × Int × Op × Unit) → Option (((Int × Unit) × Int × Op × Unit) ⊕ (Unit × Int × Op × Unit))) c => opts_Find_1_slices_IndexFunc_api_Option_api_Option_L2 N X c.1.1 c.1.2.1 c.1.2.2.1 c.2.1 c.2.2.1)
  (fun n c => ∃ i : Nat, c = ((l, ((l.length : Int), ((i : Int), ()))), (k, (((0 : Int), ([] : List Int)), ()))) ∧ i ≤ l.length ∧ n = l.length - i ∧ (l.drop i).find? (fun o => decide (o.1 = k)) = l.find? (fun o => decide (o.1 = k)))
  (fun o => (∃ (i : Nat) (hi : i < l.length), o = .inl (((i : Int), ()), (k, (((0 : Int), ([] : List Int)), ()))) ∧ l.find? (fun o => decide (o.1 = k)) = some l[i]) ∨ (o = .inr ((), (k, (((0 : Int), ([] : List Int)), ()))) ∧ l.find? (fun o => decide (o.1 = k)) = none)) (fun X n c ⟨i, hc, hi, hn, ht⟩ => by
   subst hc
   rcases Nat.lt_or_ge i l.length with hlt | hge
   ·have c1 : ((i : Int) < (l.length : Int)) := by omega
    have c2 : IntKind.wrap .i64 ((i : Int) + 1) = ((i + 1 : Nat) : Int) := by rw [wrap64 (by omega) (by omega)]; omega
    rw [find_step hlt] at ht
    by_cases he : l[i].1 = k
    ·left
     refine ⟨.inl (((i : Int), ()), (k, (((0 : Int), ([] : List Int)), ()))), ?_, .inl ⟨i, hlt, rfl, ?_⟩⟩
     ·simp only [opts_Find_1_slices_IndexFunc_api_Option_api_Option_L2, c1, decide_true, cond_true, getI_lt l i hlt, Option.bind_some, he]
     ·rw [if_pos he] at ht; exact ht.symm
    ·right
     refine ⟨l.length - (i + 1), ((l, ((l.length : Int), (((i + 1 : Nat) : Int), ()))), (k, (((0 : Int), ([] : List Int)), ()))), by omega, ⟨i + 1, rfl, hlt, rfl, ?_⟩, ?_⟩
     ·rw [if_neg he] at ht; exact ht
     ·simp only [opts_Find_1_slices_IndexFunc_api_Option_api_Option_L2, c1, decide_true, cond_true, getI_lt l i hlt, Option.bind_some, he, decide_false, cond_false, c2]
   ·left
    have c1 : ¬ ((i : Int) < (l.length : Int)) := by omega
    refine ⟨.inr ((), (k, (((0 : Int), ([] : List Int)), ()))), by simp only [opts_Find_1_slices_IndexFunc_api_Option_api_Option_L2, c1, decide_false, cond_false], .inr ⟨rfl, ?_⟩⟩
    rw [List.drop_of_length_le hge] at ht
    exact ht.symm) N l.length ((l, ((l.length : Int), ((0 : Int), ()))), (k, (((0 : Int), ([] : List Int)), ()))) (by omega) ⟨0, rfl, by omega, by omega, by simp⟩
 unfold opts_Find opts_Find_1_slices_IndexFunc_api_Option_api_Option_L2_R findS
 rw [h1]
 rcases h2 with ⟨i, hi, rfl, h2⟩ | ⟨rfl, h2⟩
 ·rw [h2]
  have c1 : ¬ ((i : Int) < 0) := by omega
  have hc : opts_clone N (l[i].1, l[i].2) = some l[i] := by
   unfold opts_clone
   rw [clone_ok _ (by have := hs _ (List.getElem_mem hi); show l[i].2.length ≤ _; omega)]
   rfl
  simp only [Option.bind_some, Sum.elim_inl, c1, decide_false, cond_false, getI_lt l i hi, hc]
 ·rw [h2]; rfl
theorem ref_find_ok (l : List Op) (k : Int) (hl : l.length ≤ 1000) (hN : 10000 ≤ N) : ref21_Find N l k = some (findS l k) := by
 obtain ⟨o, h1, h2⟩ := gl_inv (G := fun (X : ((List Op × Int × Int × Unit) × Op × Unit) → Option (((Bool × Unit) × Op × Unit) ⊕ (Unit × Op × Unit))) c => ref21_Find_L2 N X c.1.1 c.1.2.1 c.1.2.2.1 c.2.1)
  (fun n c => ∃ i : Nat, c = ((l, (k, ((i : Int), ()))), (((0 : Int), ([] : List Int)), ())) ∧ i ≤ l.length ∧ n = l.length - i ∧ (l.drop i).find? (fun o => decide (o.1 = k)) = l.find? (fun o => decide (o.1 = k)))
  (fun o => (∃ x, o = .inl ((true, ()), (x, ())) ∧ l.find? (fun o => decide (o.1 = k)) = some x) ∨ (o = .inr ((), (((0 : Int), ([] : List Int)), ())) ∧ l.find? (fun o => decide (o.1 = k)) = none)) (fun X n c ⟨i, hc, hi, hn, ht⟩ => by
   subst hc
   rcases Nat.lt_or_ge i l.length with hlt | hge
   ·have c1 : ((i : Int) < (l.length : Int)) := by omega
    have c2 : IntKind.wrap .i64 ((i : Int) + 1) = ((i + 1 : Nat) : Int) := by rw [wrap64 (by omega) (by omega)]; omega
    rw [find_step hlt] at ht
    by_cases he : l[i].1 = k
    ·left
     refine ⟨.inl ((true, ()), (l[i], ())), ?_, .inl ⟨_, rfl, ?_⟩⟩
     ·simp only [ref21_Find_L2, c1, decide_true, cond_true, getI_lt l i hlt, Option.bind_some, he]
      all_goals (rw [← he])
     ·rw [if_pos he] at ht; exact ht.symm
    ·right
     refine ⟨l.length - (i + 1), ((l, (k, (((i + 1 : Nat) : Int), ()))), (((0 : Int), ([] : List Int)), ())), by omega, ⟨i + 1, rfl, hlt, rfl, ?_⟩, ?_⟩
     ·rw [if_neg he] at ht; exact ht
     ·simp only [ref21_Find_L2, c1, decide_true, cond_true, getI_lt l i hlt, Option.bind_some, he, decide_false, cond_false, c2]
   ·left
    have c1 : ¬ ((i : Int) < (l.length : Int)) := by omega
    refine ⟨.inr ((), (((0 : Int), ([] : List Int)), ())), by simp only [ref21_Find_L2, c1, decide_false, cond_false], .inr ⟨rfl, ?_⟩⟩
    rw [List.drop_of_length_le hge] at ht
    exact ht.symm) N l.length ((l, (k, ((0 : Int), ()))), (((0 : Int), ([] : List Int)), ())) (by omega) ⟨0, rfl, by omega, by omega, by simp⟩
 unfold ref21_Find ref21_Find_L2_R findS
 rw [h1]
 rcases h2 with ⟨x, rfl, h2⟩ | ⟨rfl, h2⟩
 ·rw [h2]; rfl
 ·rw [h2]; rfl
end
def sz (k : Int) : Int := if k = 1 then 2 else if k = 3 then 3 else if k = 5 then 4 else if k = 7 then 0 else if k = 8 then 0 else -1
def may (o : Op) (proves : Bool) : Bool := decide ((o.2.length : Int) = sz o.1) && (!decide (o.1 = 3) || proves)
section
variable {N : Nat}
theorem lput4 (n : Int) (h : 0 ≤ n ∧ n < 18446744073709551616) (hN : 100 ≤ N) : octs_Put N n 4 false = some ([n / 16777216 % 256, n / 65536 % 256, n / 256 % 256, n % 256], 0) := put4 n h hN
theorem lbig4 (n : Int) (h : 0 ≤ n ∧ n < 18446744073709551616) (hN : 100 ≤ N) : ref01_Big N n 4 = some [n / 16777216 % 256, n / 65536 % 256, n / 256 % 256, n % 256] := big4 n h hN
theorem lnum4 (x y z u : Int) (hx : 0 ≤ x ∧ x < 256) (hy : 0 ≤ y ∧ y < 256) (hz : 0 ≤ z ∧ z < 256) (hu : 0 ≤ u ∧ u < 256) (hN : 100 ≤ N) : ref01_Num N [x, y, z, u] = some (((x * 256 + y) * 256 + z) * 256 + u) := num4 x y z u hx hy hz hu hN
theorem wrapU32 {x : Int} (h : 0 ≤ x ∧ x < 4294967296) : IntKind.wrap .u32 x = x := by rw [IntKind.wrap_u32]; omega
end
def NK (l : List Op) (own fresh : Int) (nak : List Op) : Prop := ∀ o ∈ nak, AllB o.2 ∧ ∃ x, findS l o.1 = (x, true) ∧ (own ≠ fresh → fresh ≠ 0 → o ≠ x)
theorem NK.snoc {l : List Op} {own fresh : Int} {nak : List Op} {o : Op} (h : NK l own fresh nak) (h1 : AllB o.2) {x : Op} (h2 : findS l o.1 = (x, true)) (h3 : own ≠ fresh → fresh ≠ 0 → o ≠ x) : NK l own fresh (nak ++ [o]) := fun p hp => by
 rcases List.mem_append.1 hp with h' | h'
 ·exact h p h'
 ·rw [List.mem_singleton] at h'; subst h'; exact ⟨h1, x, h2, h3⟩
section
variable {N : Nat}
theorem wfO_sub {l m : List Op} (h : wfO l) (hs : m.Sublist l) : wfO m := fun o ho => h o (hs.subset ho)
end
theorem wf_u32' {n : Int} (h : (Lit.int .u32 n).wf = true) : 0 ≤ n ∧ n < 4294967296 := by
 simp only [Lit.wf, Bool.and_eq_true, decide_eq_true_eq, IntKind.min, IntKind.max, IntKind.signed, IntKind.bits] at h
 simp at h
 omega
abbrev Wt3 := Int × Int × Bool
theorem wfu32 {n : Int} (h : 0 ≤ n ∧ n < 4294967296) : (Lit.int .u32 n).wf = true := by
 simp only [Lit.wf, Bool.and_eq_true, decide_eq_true_eq, IntKind.min, IntKind.max, IntKind.signed, IntKind.bits]
 simp
 omega
section
variable {N : Nat}
end
section
variable {N : Nat}
def b2 (n : Int) : List Int := [n / 256 % 256, n % 256]
def b4 (n : Int) : List Int := [n / 16777216 % 256, n / 65536 % 256, n / 256 % 256, n % 256]
theorem b4_B (n : Int) : AllB (b4 n) := fun x hx => by
 simp only [b4, List.mem_cons, List.not_mem_nil, or_false] at hx
 rcases hx with rfl | rfl | rfl | rfl <;> omega
def valS (d : List Int) : Int := d.foldl (fun a x => a * 256 + x) 0
theorem val_b4 {n : Int} (h : 0 ≤ n ∧ n < 4294967296) : valS (b4 n) = n := by simp [valS, b4]; omega
def judS (rj : List Op → Op → Bool) (nk : Op → Option Op) : List Op → List Op → List Op × List Op
 | pre, [] => ([], [])
 | pre, o :: l => if rj pre o then (o :: (judS rj nk (pre ++ [o]) l).1, (judS rj nk (pre ++ [o]) l).2) else match nk o with
  | some x => ((judS rj nk (pre ++ [o]) l).1, x :: (judS rj nk (pre ++ [o]) l).2)
  | none => judS rj nk (pre ++ [o]) l
def tellS (l : List Op) (r : List Op × List Op) : Int × List Op := if 0 < r.1.length then (4, r.1) else if 0 < r.2.length then (3, r.2) else (2, l)
theorem judS_sub (rj : List Op → Op → Bool) (nk : Op → Option Op) : ∀ (l pre : List Op), (judS rj nk pre l).1.Sublist l ∧ (judS rj nk pre l).2.length ≤ l.length ∧ ∀ x ∈ (judS rj nk pre l).2, ∃ o ∈ l, nk o = some x
 | [], pre => ⟨List.Sublist.refl _, Nat.le_refl _, fun x h => by cases h⟩
 | o :: l, pre => by
  obtain ⟨h1, h2, h3⟩ := judS_sub rj nk l (pre ++ [o])
  unfold judS
  split
  ·exact ⟨h1.cons_cons o, by simp; omega, fun x hx => by obtain ⟨p, hp, he⟩ := h3 x hx; exact ⟨p, List.mem_cons_of_mem _ hp, he⟩⟩
  ·split
   ·rename_i x hx
    refine ⟨h1.cons o, by simp; omega, fun y hy => ?_⟩
    rcases List.mem_cons.1 hy with rfl | hy
    ·exact ⟨o, List.mem_cons_self, hx⟩
    ·obtain ⟨p, hp, he⟩ := h3 y hy; exact ⟨p, List.mem_cons_of_mem _ hp, he⟩
   ·exact ⟨h1.cons o, by simp; omega, fun x hx => by obtain ⟨p, hp, he⟩ := h3 x hx; exact ⟨p, List.mem_cons_of_mem _ hp, he⟩⟩
end
section
variable {N : Nat}
theorem jget : Jg.octs_Get N = octs_Get N := rfl
theorem jfind : Jg.opts_Find N = opts_Find N := rfl
theorem joption : Jg.ipcpo_option N = ipcpo_option N := rfl
abbrev Sd := Bool × Int × Int × Int × Bool
def wfS (s : Sd) : Prop := (0 ≤ s.2.1 ∧ s.2.1 < 4294967296) ∧ (0 ≤ s.2.2.1 ∧ s.2.2.1 < 4294967296) ∧ (0 ≤ s.2.2.2.1 ∧ s.2.2.2.1 < 4294967296)
def addrS (d : List Int) : Int := if d.length = 4 then valS d else 0
theorem get4S {d : List Int} (hd : AllB d) (hl : d.length = 4) (hN : 100 ≤ N) : octs_Get N d false = some (valS d, 0) ∧ 0 ≤ valS d ∧ valS d < 4294967296 := by
 match d, hl with
 | [x, y, z, u], _ =>
  have bx := hd x (by simp)
  have by' := hd y (by simp)
  have bz := hd z (by simp)
  have bu := hd u (by simp)
  exact ⟨by rw [show octs_Get N [x, y, z, u] false = some (((x * 256 + y) * 256 + z) * 256 + u, 0) from get4 x y z u bx by' bz bu hN]; simp [valS], by simp [valS]; omega⟩
theorem addrS_r {d : List Int} (hd : AllB d) : 0 ≤ addrS d ∧ addrS d < 4294967296 := by
 unfold addrS
 split
 ·rename_i h; exact (get4S (N := 100) hd h (by omega)).2
 ·omega
theorem address_is {d : List Int} (hd : AllB d) (hN : 100 ≤ N) : Jg.ipcpo_address N d = some (addrS d) := by
 unfold Jg.ipcpo_address addrS
 by_cases h : d.length = 4
 ·obtain ⟨h1, h2⟩ := get4S (N := N) hd h hN
  have c1 : ((d.length : Nat) : Int) = 4 := by omega
  rw [jget, if_pos h]
  simp only [c1, decide_true, Bool.not_true, cond_false, h1, Option.bind_some, wrapU32 h2]
 ·have c1 : ¬ ((d.length : Nat) : Int) = 4 := by omega
  rw [if_neg h]
  simp only [c1, decide_false, Bool.not_false, cond_true]
theorem option_is (k a : Int) (ha : 0 ≤ a ∧ a < 4294967296) (hN : 100 ≤ N) : ipcpo_option N k a = some (k, b4 a) := by
 unfold ipcpo_option ipcpo_laid
 have e : IntKind.wrap .u64 a = a := wrapU64 (by omega) (by omega)
 rw [e, lput4 (N := N) a (by omega) hN]
 rfl
def imay (s : Sd) (o : Op) : Bool := if o.2.length = 4 then (if s.1 then decide (o.1 = 3) || (decide (o.1 = 129) && !decide (s.2.2.2.1 = 0)) else decide (o.1 = 3) && !decide (addrS o.2 = 0)) else false
theorem imay_is (s : Sd) (o : Op) (ho : AllB o.2) (hN : 100 ≤ N) : Jg.ipcpo_may N s o = some (imay s o) := by
 unfold Jg.ipcpo_may imay
 by_cases h : o.2.length = 4
 ·have c1 : ((o.2.length : Nat) : Int) = 4 := by omega
  simp only [c1, decide_true, Bool.not_true, cond_false, h, if_true, address_is (N := N) ho hN]
  cases s.1 <;> by_cases h3 : o.1 = 3 <;> by_cases h129 : o.1 = 129 <;> simp only [h3, h129, decide_true, decide_false, cond_true, cond_false, Bool.not_true, Bool.not_false, Option.bind_some, if_true, if_false, Bool.false_eq_true, Bool.true_or, Bool.false_or, Bool.true_and, Bool.false_and] <;> first | rfl | omega | (cases decide (addrS o.2 = 0) <;> rfl) | (cases decide (s.2.2.2.1 = 0) <;> rfl)
 ·have c1 : ¬ ((o.2.length : Nat) : Int) = 4 := by omega
  simp only [c1, decide_false, Bool.not_false, cond_true, h, if_false]
def givS (s : Sd) (k : Int) : Int := if k = 129 then s.2.2.2.1 else s.2.2.1
theorem givS_is (s : Sd) (k : Int) : Jg.ipcpo_gives N s k = some (givS s k) := by
 unfold Jg.ipcpo_gives givS
 by_cases h : k = 129 <;> simp [h]
theorem givS_r {s : Sd} (h : wfS s) (k : Int) : 0 ≤ givS s k ∧ givS s k < 4294967296 := by
 unfold givS
 split
 ·exact h.2.2
 ·exact h.2.1
def irj (s : Sd) (pre : List Op) (o : Op) : Bool := (findS pre o.1).2 || !imay s o
def ink (s : Sd) (o : Op) : Option Op := if s.1 && !decide (addrS o.2 = givS s o.1) then some (o.1, b4 (givS s o.1)) else none
theorem getD_at {l : List Op} {i : Nat} (h : i < l.length) : l.getD i (0, []) = l[i] := by rw [List.getD_eq_getElem?_getD, List.getElem?_eq_getElem h]; rfl
theorem ijudge_loop (s : Sd) (l : List Op) (hw : wfO l) (hsd : wfS s) (hl : l.length ≤ 40) (hs : ∀ o ∈ l, o.2.length ≤ 300) (hN : 10000 ≤ N) : ∀ (m k : Nat) (rej nak : List Op), m + k = l.length → rej.length ≤ k → nak.length ≤ k →
  rr (fun k d => jdg_rd N s l k (l.getD k (0, [])) d) m k (l.take k, rej, nak, ()) = some (.inl (l, rej ++ (judS (irj s) (ink s) (l.take k) (l.drop k)).1, nak ++ (judS (irj s) (ink s) (l.take k) (l.drop k)).2, ()))
 | 0, k, rej, nak, hk, hr, hn => by
  have hi : k = l.length := by omega
  subst hi
  unfold rr
  rw [List.take_length, List.drop_length]
  simp [judS]
 | m + 1, i, rej, nak, hk, hr, hn => by
  have hlt : i < l.length := by omega
  have tk : takeI l (i : Int) = some (l.take i) := takeI_nat l rfl (by omega)
  have hwi := hw _ (List.getElem_mem hlt)
  have hsi := hs _ (List.getElem_mem hlt)
  have hfind := find_ok (N := N) (l.take i) l[i].1 (by rw [List.length_take]; omega) (fun o ho => by have := hs o (List.mem_of_mem_take ho); omega) (by omega)
  have hts : l.take (i + 1) = l.take i ++ [l[i]] := take_snoc l i hlt
  have hal : (l.take i).length ≤ i := by rw [List.length_take]; omega
  have hcl : Jg.slices_Clone_byte_byte N l[i].2 = some l[i].2 := clone_ok (N := N) _ (by omega)
  have rm : ∀ (x : List Op) (y : Op), x.length ≤ 41 → roomB (x.length + ([y] : List Op).length) 32 = true := fun x y hx => roomB_of (by have := big_len; simp; omega) (by simp; omega)
  have hmay := imay_is (N := N) s l[i] hwi.2 (by omega)
  have hadd := address_is (N := N) hwi.2 (by omega)
  have hgiv := givS_is (N := N) s l[i].1
  have hopt := option_is (N := N) l[i].1 (givS s l[i].1) (givS_r hsd _) (by omega)
  rw [← joption] at hopt
  rw [← jfind] at hfind
  rw [List.drop_eq_getElem_cons hlt]
  have ih := fun rej' nak' h1 h2 => ijudge_loop s l hw hsd hl hs hN m (i + 1) rej' nak' (by omega) h1 h2
  rw [hts] at ih
  unfold rr
  rw [getD_at hlt]
  generalize hx : l[i] = x at *
  obtain ⟨kx, dx⟩ := x
  have r1 := rm (l.take i) (kx, dx) (by omega)
  have r2 := rm rej (kx, dx) (by omega)
  unfold judS
  cases hfb : (findS (l.take i) kx).2 with
  | true =>
   have hrj : irj s (l.take i) (kx, dx) = true := by simp [irj, hfb]
   have key : jdg_rd N s l i (kx, dx) (l.take i, rej, nak, ()) = some (.inl (l.take i ++ [(kx, dx)], rej ++ [(kx, dx)], nak, ())) := by
    simp only [jdg_rd, Option.bind_some, hcl, r1, tk, hfind, hfb, r2, cond_true]
   rw [key]
   simp only [hrj, if_true]
   rw [ih (rej ++ [(kx, dx)]) nak (by simp; omega) (by omega)]
   simp
  | false =>
   cases hm : imay s (kx, dx) with
   | false =>
    have hrj : irj s (l.take i) (kx, dx) = true := by simp [irj, hm]
    have key : jdg_rd N s l i (kx, dx) (l.take i, rej, nak, ()) = some (.inl (l.take i ++ [(kx, dx)], rej ++ [(kx, dx)], nak, ())) := by
     have hmay' : Jg.ipcpo_may N (s.1, (s.2.1, (s.2.2.1, (s.2.2.2.1, s.2.2.2.2)))) (kx, dx) = some false := by rw [← hm]; exact hmay
     simp only [jdg_rd, Option.bind_some, hcl, r1, tk, hfind, hfb, r2, cond_true, cond_false, hmay', Bool.not_false]
    rw [key]
    simp only [hrj, if_true]
    rw [ih (rej ++ [(kx, dx)]) nak (by simp; omega) (by omega)]
    simp
   | true =>
    have hrj : irj s (l.take i) (kx, dx) = false := by simp [irj, hm, hfb]
    have hmay' : Jg.ipcpo_may N (s.1, (s.2.1, (s.2.2.1, (s.2.2.2.1, s.2.2.2.2)))) (kx, dx) = some true := by rw [← hm]; exact hmay
    have hgiv' : Jg.ipcpo_gives N (s.1, (s.2.1, (s.2.2.1, (s.2.2.2.1, s.2.2.2.2)))) kx = some (givS s kx) := hgiv
    have r3 := rm nak (kx, b4 (givS s kx)) (by omega)
    simp only at hadd hopt
    cases hsv : s.1 with
    | false =>
     have hnk : ink s (kx, dx) = none := by simp [ink, hsv]
     have key : jdg_rd N s l i (kx, dx) (l.take i, rej, nak, ()) = some (.inl (l.take i ++ [(kx, dx)], rej, nak, ())) := by
      rw [hsv] at hmay' hgiv'
      simp only [jdg_rd, Option.bind_some, hcl, r1, tk, hfind, hfb, cond_true, cond_false, hsv, hmay', hgiv', Bool.not_true]
     rw [key]
     simp only [hrj, hnk, Bool.false_eq_true, if_false]
     exact ih rej nak (by omega) (by omega)
    | true =>
     rw [hsv] at hmay' hgiv'
     cases hd : decide (addrS dx = givS s kx) with
     | true =>
      have hnk : ink s (kx, dx) = none := by simp only [ink, hsv, hd]; rfl
      have key : jdg_rd N s l i (kx, dx) (l.take i, rej, nak, ()) = some (.inl (l.take i ++ [(kx, dx)], rej, nak, ())) := by
       simp only [jdg_rd, Option.bind_some, hcl, r1, tk, hfind, hfb, cond_true, cond_false, hsv, hmay', hgiv', Bool.not_true, hadd, hd]
      rw [key]
      simp only [hrj, hnk, Bool.false_eq_true, if_false]
      exact ih rej nak (by omega) (by omega)
     | false =>
      have hnk : ink s (kx, dx) = some (kx, b4 (givS s kx)) := by simp only [ink, hsv, hd]; rfl
      have key : jdg_rd N s l i (kx, dx) (l.take i, rej, nak, ()) = some (.inl (l.take i ++ [(kx, dx)], rej, nak ++ [(kx, b4 (givS s kx))], ())) := by
       simp only [jdg_rd, Option.bind_some, hcl, r1, tk, hfind, hfb, cond_true, cond_false, hsv, hmay', hgiv', Bool.not_true, Bool.not_false, hadd, hd, hopt, r3]
      rw [key]
      simp only [hrj, hnk, Bool.false_eq_true, if_false]
      rw [ih rej (nak ++ [(kx, b4 (givS s kx))]) (by omega) (by simp; omega)]
      simp
def ijudS (s : Sd) (l : List Op) : Int × List Op := tellS l (judS (irj s) (ink s) [] l)
theorem ijudge_is (s : Sd) (l : List Op) (hw : wfO l) (hsd : wfS s) (hl : l.length ≤ 40) (hs : ∀ o ∈ l, o.2.length ≤ 300) (hN : 10000 ≤ N) : ipcpo_Judge N s l = some (ijudS s l) := by
 have h := ijudge_loop (N := N) s l hw hsd hl hs hN l.length 0 [] [] (by omega) (by simp) (by simp)
 simp only [List.take_zero, List.drop_zero, List.nil_append] at h
 unfold ipcpo_Judge
 rw [decide_eq_true (show l.length ≤ 1000000000 by omega), cond_true]
 refine (congrArg (fun o => Option.bind o _) h).trans ?_
 simp only [Option.bind_some, Sum.elim_inl, ijudS, tellS, jdg_end]
 generalize judS (irj s) (ink s) [] l = r
 by_cases h1 : 0 < r.1.length
 ·have c1 : ((0 : Int) < (r.1.length : Int)) := by omega
  simp only [c1, decide_true, cond_true, h1, if_true]
 ·have c1 : ¬ ((0 : Int) < (r.1.length : Int)) := by omega
  by_cases h2 : 0 < r.2.length
  ·have c2 : ((0 : Int) < (r.2.length : Int)) := by omega
   simp only [c1, c2, decide_true, decide_false, cond_true, cond_false, h1, h2, if_true, if_false]
  ·have c2 : ¬ ((0 : Int) < (r.2.length : Int)) := by omega
   simp only [c1, c2, decide_false, cond_false, h1, h2, if_false]
def ifP (k : Int) (o : Op) : Bool := decide (o.1 = k) && !decide (addrS o.2 = 0)
def ifS (l : List Op) (k : Int) : Int := match l.find? (ifP k) with
 | some o => addrS o.2
 | none => 0
theorem ifirst_loop (l : List Op) (kd : Int) (hw : wfO l) (hN : 100 ≤ N) (d0 : Int) : ∀ (m k : Nat), m + k = l.length →
  rr (fun k d => fst_rd N kd (l.getD k (0, [])) d) m k (d0, ()) = some (match (l.drop k).find? (ifP kd) with | some o => .inr (addrS o.2, ()) | none => .inl (d0, ()))
 | 0, k, hk => by
  unfold rr
  rw [List.drop_of_length_le (by omega)]
  rfl
 | m + 1, i, hk => by
  have hlt : i < l.length := by omega
  have hwi := hw _ (List.getElem_mem hlt)
  have hadd := address_is (N := N) hwi.2 hN
  have ih := ifirst_loop l kd hw hN d0 m (i + 1) (by omega)
  rw [List.drop_eq_getElem_cons hlt, List.find?_cons]
  unfold rr
  rw [getD_at hlt]
  by_cases h1 : l[i].1 = kd
  ·by_cases h2 : addrS l[i].2 = 0
   ·have hp : ifP kd l[i] = false := by simp [ifP, h2]
    have key : fst_rd N kd l[i] (d0, ()) = some (.inl (d0, ())) := by
     simp only [fst_rd, hadd, Option.bind_some, h1, h2, decide_true, Bool.not_true, cond_true, cond_false]
    rw [key, hp]
    exact ih
   ·have hp : ifP kd l[i] = true := by simp [ifP, h1, h2]
    have key : fst_rd N kd l[i] (d0, ()) = some (.inr (addrS l[i].2, ())) := by
     simp only [fst_rd, hadd, Option.bind_some, h1, h2, decide_true, decide_false, Bool.not_false, cond_true]
    rw [key, hp]
  ·have hp : ifP kd l[i] = false := by simp [ifP, h1]
   have key : fst_rd N kd l[i] (d0, ()) = some (.inl (d0, ())) := by
    simp only [fst_rd, hadd, Option.bind_some, h1, decide_false, cond_false]
   rw [key, hp]
   exact ih
theorem ifirst_is (l : List Op) (kd : Int) (hw : wfO l) (hl : l.length ≤ 1000) (hN : 100 ≤ N) : ipcpo_first N l kd = some (ifS l kd) := by
 have h := ifirst_loop (N := N) l kd hw hN 0 l.length 0 (by omega)
 rw [List.drop_zero] at h
 unfold ipcpo_first ifS
 rw [decide_eq_true (show l.length ≤ 1000000000 by omega), cond_true]
 refine (congrArg (fun o => Option.bind o _) h).trans ?_
 cases l.find? (ifP kd) <;> rfl
theorem ifS_r {l : List Op} (hw : wfO l) (k : Int) : 0 ≤ ifS l k ∧ ifS l k < 4294967296 := by
 unfold ifS
 cases h : l.find? (ifP k) with
 | none => simp
 | some o => exact addrS_r (hw o (List.mem_of_find?_eq_some h)).2
def ioS (s : Sd) : List Op := (3, b4 s.2.1) :: (if !s.1 && s.2.2.2.2 then [(129, b4 s.2.2.2.1)] else [])
theorem iopts_is (s : Sd) (hs : wfS s) (hN : 100 ≤ N) : ipcpo_Options N s = some (ioS s) := by
 unfold ipcpo_Options ioS
 cases h1 : s.1 <;> cases h2 : s.2.2.2.2 <;> simp only [h1, h2, option_is (N := N) 3 _ hs.1 hN, option_is (N := N) 129 _ hs.2.2 hN, Option.bind_some, Bool.not_true, Bool.not_false, cond_true, cond_false, Bool.false_and, Bool.true_and, Bool.false_eq_true, if_true, if_false] <;> rfl
theorem ioS_wf (s : Sd) : wfO (ioS s) ∧ (ioS s).length ≤ 3 ∧ ∀ o ∈ ioS s, o.2.length ≤ 4 := by
 have key : ∀ o ∈ ioS s, o = (3, b4 s.2.1) ∨ o = (129, b4 s.2.2.2.1) := fun o ho => by
  unfold ioS at ho
  rcases List.mem_cons.1 ho with h | h
  ·exact .inl h
  ·split at h
   ·exact .inr (List.mem_singleton.1 h)
   ·cases h
 refine ⟨fun o ho => ?_, ?_, fun o ho => ?_⟩
 ·rcases key o ho with rfl | rfl
  ·exact ⟨by show (0 : Int) ≤ 3 ∧ (3 : Int) < 256; omega, b4_B _⟩
  ·exact ⟨by show (0 : Int) ≤ 129 ∧ (129 : Int) < 256; omega, b4_B _⟩
 ·unfold ioS
  split <;> simp
 ·rcases key o ho with rfl | rfl <;> simp [b4]
def inkS (s : Sd) (l : List Op) : Sd := if s.1 then s else (s.1, (if ifS l 3 = 0 then s.2.1 else ifS l 3), s.2.2.1, (if s.2.2.2.2 && !decide (ifS l 129 = 0) then ifS l 129 else s.2.2.2.1), s.2.2.2.2)
theorem inaked_is (s : Sd) (l : List Op) (hw : wfO l) (hl : l.length ≤ 1000) (hN : 100 ≤ N) : ipcpo_Naked N s l = some (inkS s l) ∧ (wfS s → wfS (inkS s l)) := by
 have f3 := ifirst_is (N := N) l 3 hw hl hN
 have f129 := ifirst_is (N := N) l 129 hw hl hN
 refine ⟨?_, fun hs => ?_⟩
 ·unfold ipcpo_Naked inkS
  cases h1 : s.1 with
  | true =>
   simp only [cond_true, if_true]
   rw [← h1]
  | false =>
   by_cases h3 : ifS l 3 = 0 <;> by_cases h129 : ifS l 129 = 0 <;> cases h2 : s.2.2.2.2 <;> simp only [f3, f129, h2, h3, h129, Option.bind_some, cond_true, cond_false, decide_true, decide_false, Bool.not_true, Bool.not_false, Bool.true_and, Bool.false_and, Bool.false_eq_true, if_true, if_false]
 ·unfold inkS
  split
  ·exact hs
  ·refine ⟨?_, hs.2.1, ?_⟩
   ·show 0 ≤ (if ifS l 3 = 0 then s.2.1 else ifS l 3) ∧ (if ifS l 3 = 0 then s.2.1 else ifS l 3) < 4294967296
    split
    ·exact hs.1
    ·exact ifS_r hw 3
   ·show 0 ≤ (if (s.2.2.2.2 && !decide (ifS l 129 = 0)) = true then ifS l 129 else s.2.2.2.1) ∧ (if (s.2.2.2.2 && !decide (ifS l 129 = 0)) = true then ifS l 129 else s.2.2.2.1) < 4294967296
    split
    ·exact ifS_r hw 129
    ·exact hs.2.2
def irjS (s : Sd) (l : List Op) : Sd × Bool := ((s.1, s.2.1, s.2.2.1, s.2.2.2.1, (if (findS l 129).2 && !s.1 then false else s.2.2.2.2)), !(findS l 3).2)
theorem irej_is (s : Sd) (l : List Op) (hl : l.length ≤ 1000) (hs : ∀ o ∈ l, o.2.length ≤ 1000) (hN : 10000 ≤ N) : ipcpo_Rejected N s l = some (irjS s l) := by
 have a3 := find_ok (N := N) l 3 hl hs hN
 have a129 := find_ok (N := N) l 129 hl hs hN
 unfold ipcpo_Rejected irjS
 cases h1 : s.1 <;> cases h2 : (findS l 129).2 <;> simp only [a3, a129, h1, h2, Option.bind_some, cond_true, cond_false, Bool.not_true, Bool.not_false, Bool.true_and, Bool.false_and, Bool.false_eq_true, if_true, if_false]
end
section
variable {N : Nat}
theorem num4S {d : List Int} (hd : AllB d) (hl : d.length = 4) (hN : 100 ≤ N) : ref01_Num N d = some (valS d) ∧ 0 ≤ valS d ∧ valS d < 4294967296 := by
 match d, hl with
 | [x, y, z, u], _ =>
  have bx := hd x (by simp)
  have by' := hd y (by simp)
  have bz := hd z (by simp)
  have bu := hd u (by simp)
  exact ⟨by rw [show ref01_Num N [x, y, z, u] = some (((x * 256 + y) * 256 + z) * 256 + u) from lnum4 x y z u bx by' bz bu hN]; simp [valS], by simp [valS]; omega⟩
theorem roption_is (k a : Int) (ha : 0 ≤ a ∧ a < 4294967296) (hN : 100 ≤ N) : ref26_option N k a = some (k, b4 a) := by
 have w : IntKind.wrap .u64 a = a := wrapU64 (by omega) (by omega)
 unfold ref26_option
 rw [w, lbig4 a (by omega) hN]
 rfl
theorem riopts_is (s : Sd) (hs : wfS s) (hN : 100 ≤ N) : ref26_Options N s = some (ioS s) := by
 have h1 := roption_is (N := N) 3 s.2.1 hs.1 hN
 have h2 := roption_is (N := N) 129 s.2.2.2.1 hs.2.2 hN
 unfold ref26_Options ioS
 cases ha : s.1 <;> cases hb : s.2.2.2.2 <;> simp [h1, h2, ha, hb]
theorem rrejects_is (s : Sd) (o : Op) (met : Bool) (ho : AllB o.2) (hN : 100 ≤ N) : ref26_rejects N s o met = some (met || !imay s o) := by
 unfold ref26_rejects imay
 cases met with
 | true => rfl
 | false =>
  by_cases hl : o.2.length = 4
  ·obtain ⟨n1, n2⟩ := num4S (N := N) ho hl hN
   have hl' : ((o.2.length : Nat) : Int) = 4 := by omega
   have ha : addrS o.2 = valS o.2 := by unfold addrS; rw [if_pos hl]
   by_cases h3 : o.1 = 3 <;> by_cases h9 : o.1 = 129 <;> cases hs : s.1 <;> by_cases hd : s.2.2.2.1 = 0 <;> simp [hl, hl', n1, ha, h3, h9, hs, hd]
  ·have hl' : ¬ ((o.2.length : Nat) : Int) = 4 := by omega
   simp [hl, hl']
theorem rijudge_loop (s : Sd) (l : List Op) (hw : wfO l) (hsd : wfS s) (hl : l.length ≤ 40) (hs : ∀ o ∈ l, o.2.length ≤ 300) (hN : 10000 ≤ N) (m : Nat) : ∀ (M i : Nat) (rej nak : List Op), m + i = l.length → m < M → rej.length ≤ i → nak.length ≤ i →
  gl (fun X c => ref26_Judge_L3 N X c.1.1 c.1.2.1 c.1.2.2.1 c.2.1 c.2.2.1) M ((l, (s, ((i : Int), ()))), (rej, (nak, ()))) = some ((l, ()), (rej ++ (judS (irj s) (ink s) (l.take i) (l.drop i)).1, (nak ++ (judS (irj s) (ink s) (l.take i) (l.drop i)).2, ()))) := by
 induction m with
 | zero =>
  intro M i rej nak hm hM hr hn
  obtain ⟨M, rfl⟩ : ∃ k, M = k + 1 := ⟨M - 1, by omega⟩
  have c1 : decide ((i : Int) < (l.length : Int)) = false := decide_eq_false (by omega)
  rw [List.drop_of_length_le (show l.length ≤ i by omega)]
  have key : ∀ X, ref26_Judge_L3 N X l s (i : Int) rej nak = some ((l, ()), (rej ++ (judS (irj s) (ink s) (l.take i) []).1, (nak ++ (judS (irj s) (ink s) (l.take i) []).2, ()))) := fun X => by
   simp only [ref26_Judge_L3, c1, cond_false, judS, List.append_nil]
  exact key _
 | succ m ih =>
  intro M i rej nak hm hM hr hn
  obtain ⟨M, rfl⟩ : ∃ k, M = k + 1 := ⟨M - 1, by omega⟩
  have hlt : i < l.length := by omega
  have c1 : decide ((i : Int) < (l.length : Int)) = true := decide_eq_true (by omega)
  have c2 : IntKind.wrap .i64 ((i : Int) + 1) = ((i + 1 : Nat) : Int) := by rw [wrap64 (by omega) (by omega)]; omega
  have g := getI_lt l i hlt
  have tk : takeI l (i : Int) = some (l.take i) := takeI_nat l rfl (by omega)
  have hwi := hw _ (List.getElem_mem hlt)
  have hfind := ref_find_ok (N := N) (l.take i) l[i].1 (by rw [List.length_take]; omega) (by omega)
  have hts : l.take (i + 1) = l.take i ++ [l[i]] := take_snoc l i hlt
  have rm : ∀ (x : List Op) (y : Op), x.length ≤ 41 → roomB (x.length + ([y] : List Op).length) 32 = true := fun x y hx => roomB_of (by have := big_len; simp; omega) (by simp; omega)
  have hrj := rrejects_is (N := N) s l[i] (findS (l.take i) l[i].1).2 hwi.2 (by omega)
  have ih' := fun rej' nak' h1 h2 => ih M (i + 1) rej' nak' (by omega) (by omega) h1 h2
  rw [hts] at ih'
  rw [List.drop_eq_getElem_cons hlt]
  have hop := fun k : Int => roption_is (N := N) k (givS s k) (givS_r hsd k) (by omega)
  generalize hx : l[i] = x at *
  have r2 := rm rej x (by omega)
  unfold judS
  cases hb : irj s (l.take i) x with
  | true =>
   have hb' : ((findS (l.take i) x.1).2 || !imay s x) = true := hb
   rw [hb'] at hrj
   simp only [if_true]
   have key : ∀ X, ref26_Judge_L3 N X l s (i : Int) rej nak = X ((l, (s, (((i + 1 : Nat) : Int), ()))), (rej ++ [x], (nak, ()))) := fun X => by
    simp only [ref26_Judge_L3, c1, c2, cond_true, tk, g, Option.bind_some, hfind, Prod.eta, hrj, r2]
   refine (key _).trans ((ih' (rej ++ [x]) nak (by simp; omega) (by omega)).trans ?_)
   simp
  | false =>
   have hb' : ((findS (l.take i) x.1).2 || !imay s x) = false := hb
   rw [hb'] at hrj
   simp only [Bool.false_eq_true, if_false]
   have hm4 : x.2.length = 4 := by
    rw [Bool.or_eq_false_iff] at hb'
    have := hb'.2
    unfold imay at this
    by_cases h : x.2.length = 4
    ·exact h
    ·rw [if_neg h] at this; cases this
   obtain ⟨n1, n2⟩ := num4S (N := N) hwi.2 hm4 (by omega)
   have ha : addrS x.2 = valS x.2 := by unfold addrS; rw [if_pos hm4]
   have w : IntKind.wrap .u32 (valS x.2) = addrS x.2 := by rw [ha]; exact wrapU32 n2
   have hopx := hop x.1
   by_cases hs1 : s.1 = true ∧ ¬ addrS x.2 = givS s x.1
   ·have hnk : ink s x = some (x.1, b4 (givS s x.1)) := by simp [ink, hs1.1, hs1.2]
    rw [hnk]
    have r3 := rm nak (x.1, b4 (givS s x.1)) (by omega)
    have key : ∀ X, ref26_Judge_L3 N X l s (i : Int) rej nak = X ((l, (s, (((i + 1 : Nat) : Int), ()))), (rej, (nak ++ [(x.1, b4 (givS s x.1))], ()))) := fun X => by
     unfold givS at hopx hs1 r3 ⊢
     by_cases h9 : x.1 = 129
     ·rw [if_pos h9] at hopx hs1 r3 ⊢
      simp only [ref26_Judge_L3, c1, c2, cond_true, cond_false, tk, g, Option.bind_some, hfind, Prod.eta, hrj, decide_eq_true h9]
      simp only [hs1.1, n1, w, decide_eq_false hs1.2, Bool.not_false, hopx, r3, cond_true, cond_false, Option.bind_some]
     ·rw [if_neg h9] at hopx hs1 r3 ⊢
      simp only [ref26_Judge_L3, c1, c2, cond_true, cond_false, tk, g, Option.bind_some, hfind, Prod.eta, hrj, decide_eq_false h9]
      simp only [hs1.1, n1, w, decide_eq_false hs1.2, Bool.not_false, hopx, r3, cond_true, cond_false, Option.bind_some]
    refine (key _).trans ((ih' rej (nak ++ [(x.1, b4 (givS s x.1))]) (by omega) (by simp; omega)).trans ?_)
    simp
   ·have hnk : ink s x = none := by
     unfold ink
     cases h1 : s.1 with
     | false => simp
     | true =>
      have : addrS x.2 = givS s x.1 := by
       by_cases h : addrS x.2 = givS s x.1
       ·exact h
       ·exact absurd ⟨h1, h⟩ hs1
      simp [this]
    rw [hnk]
    have key : ∀ X, ref26_Judge_L3 N X l s (i : Int) rej nak = X ((l, (s, (((i + 1 : Nat) : Int), ()))), (rej, (nak, ()))) := fun X => by
     unfold givS at hs1
     cases h1 : s.1 with
     | false =>
      by_cases h9 : x.1 = 129
      ·simp only [ref26_Judge_L3, c1, c2, cond_true, cond_false, tk, g, Option.bind_some, hfind, Prod.eta, hrj, decide_eq_true h9]
       simp only [h1, cond_false]
      ·simp only [ref26_Judge_L3, c1, c2, cond_true, cond_false, tk, g, Option.bind_some, hfind, Prod.eta, hrj, decide_eq_false h9]
       simp only [h1, cond_false]
     | true =>
      by_cases h9 : x.1 = 129
      ·rw [if_pos h9] at hs1
       have hq : decide (addrS x.2 = s.2.2.2.1) = true := by
        by_cases h : addrS x.2 = s.2.2.2.1
        ·exact decide_eq_true h
        ·exact absurd ⟨h1, h⟩ hs1
       simp only [ref26_Judge_L3, c1, c2, cond_true, cond_false, tk, g, Option.bind_some, hfind, Prod.eta, hrj, decide_eq_true h9]
       simp only [h1, n1, w, hq, Bool.not_true, cond_true, cond_false, Option.bind_some]
      ·rw [if_neg h9] at hs1
       have hq : decide (addrS x.2 = s.2.2.1) = true := by
        by_cases h : addrS x.2 = s.2.2.1
        ·exact decide_eq_true h
        ·exact absurd ⟨h1, h⟩ hs1
       simp only [ref26_Judge_L3, c1, c2, cond_true, cond_false, tk, g, Option.bind_some, hfind, Prod.eta, hrj, decide_eq_false h9]
       simp only [h1, n1, w, hq, Bool.not_true, cond_true, cond_false, Option.bind_some]
    exact (key _).trans (ih' rej nak (by omega) (by omega))
theorem rijudge_is (s : Sd) (l : List Op) (hw : wfO l) (hsd : wfS s) (hl : l.length ≤ 40) (hs : ∀ o ∈ l, o.2.length ≤ 300) (hN : 10000 ≤ N) : ref26_Judge N s l = some (ijudS s l) := by
 have h := rijudge_loop (N := N) s l hw hsd hl hs hN l.length N 0 [] [] (by omega) (by omega) (by simp) (by simp)
 rw [List.take_zero, List.drop_zero, List.nil_append, List.nil_append] at h
 unfold ref26_Judge ijudS tellS
 refine (congrArg (fun o => Option.bind o _) (show ref26_Judge_L3_R N ((l, (s, ((0 : Int), ()))), ([], ([], ()))) = _ from h)).trans ?_
 generalize judS (irj s) (ink s) [] l = r
 by_cases h1 : 0 < r.1.length
 ·have h1' : (0 : Int) < (r.1.length : Int) := by omega
  simp only [Option.bind_some, decide_eq_true h1', cond_true, if_pos h1]
 ·have h1' : ¬ (0 : Int) < (r.1.length : Int) := by omega
  by_cases h2 : 0 < r.2.length
  ·have h2' : (0 : Int) < (r.2.length : Int) := by omega
   simp only [Option.bind_some, decide_eq_false h1', decide_eq_true h2', cond_true, cond_false, if_neg h1, if_pos h2]
  ·have h2' : ¬ (0 : Int) < (r.2.length : Int) := by omega
   simp only [Option.bind_some, decide_eq_false h1', decide_eq_false h2', cond_false, if_neg h1, if_neg h2]
theorem told_loop (l : List Op) (kd : Int) (hw : wfO l) (hl : l.length ≤ 1000) (hN : 100 ≤ N) (m : Nat) : ∀ (M i : Nat), m + i = l.length → m < M →
  gl (fun X c => ref26_told_L2 N X c.1.1 c.1.2.1 c.1.2.2.1) M ((l, (kd, ((i : Int), ()))), ()) = some (match (l.drop i).find? (ifP kd) with | some o => .inl ((addrS o.2, ()), ()) | none => .inr ((), ())) := by
 induction m with
 | zero =>
  intro M i hm hM
  obtain ⟨M, rfl⟩ : ∃ k, M = k + 1 := ⟨M - 1, by omega⟩
  have c1 : decide ((i : Int) < (l.length : Int)) = false := decide_eq_false (by omega)
  rw [List.drop_of_length_le (show l.length ≤ i by omega)]
  have key : ∀ X, ref26_told_L2 N X l kd (i : Int) = some (.inr ((), ())) := fun X => by
   simp only [ref26_told_L2, c1, cond_false]
  exact key _
 | succ m ih =>
  intro M i hm hM
  obtain ⟨M, rfl⟩ : ∃ k, M = k + 1 := ⟨M - 1, by omega⟩
  have hlt : i < l.length := by omega
  have c1 : decide ((i : Int) < (l.length : Int)) = true := decide_eq_true (by omega)
  have c2 : IntKind.wrap .i64 ((i : Int) + 1) = ((i + 1 : Nat) : Int) := by rw [wrap64 (by omega) (by omega)]; omega
  have g := getI_lt l i hlt
  have hwi := hw _ (List.getElem_mem hlt)
  have ih' := ih M (i + 1) (by omega) (by omega)
  rw [List.drop_eq_getElem_cons hlt, List.find?_cons]
  generalize l[i] = x at *
  by_cases hk : x.1 = kd
  ·by_cases hl4 : x.2.length = 4
   ·have hl' : ((x.2.length : Nat) : Int) = 4 := by omega
    obtain ⟨n1, n2⟩ := num4S (N := N) hwi.2 hl4 hN
    have ha : addrS x.2 = valS x.2 := by unfold addrS; rw [if_pos hl4]
    have w : IntKind.wrap .u32 (valS x.2) = addrS x.2 := by rw [ha]; exact wrapU32 n2
    by_cases h0 : valS x.2 = 0
    ·have hp : ifP kd x = false := by unfold ifP; rw [ha]; simp [h0]
     rw [hp]
     have key : ∀ X, ref26_told_L2 N X l kd (i : Int) = X ((l, (kd, (((i + 1 : Nat) : Int), ()))), ()) := fun X => by
      simp only [ref26_told_L2, c1, c2, cond_true, cond_false, g, Option.bind_some, decide_eq_true hk, decide_eq_true hl', n1, decide_eq_true h0, Bool.not_true]
     exact (key _).trans ih'
    ·have hp : ifP kd x = true := by unfold ifP; rw [ha]; simp [h0, hk]
     rw [hp]
     have key : ∀ X, ref26_told_L2 N X l kd (i : Int) = some (.inl ((addrS x.2, ()), ())) := fun X => by
      simp only [ref26_told_L2, c1, c2, cond_true, cond_false, g, Option.bind_some, decide_eq_true hk, decide_eq_true hl', n1, decide_eq_false h0, Bool.not_false, w]
     exact key _
   ·have hl' : ¬ ((x.2.length : Nat) : Int) = 4 := by omega
    have hp : ifP kd x = false := by unfold ifP addrS; rw [if_neg hl4]; simp
    rw [hp]
    have key : ∀ X, ref26_told_L2 N X l kd (i : Int) = X ((l, (kd, (((i + 1 : Nat) : Int), ()))), ()) := fun X => by
     simp only [ref26_told_L2, c1, c2, cond_true, cond_false, g, Option.bind_some, decide_eq_true hk, decide_eq_false hl']
    exact (key _).trans ih'
  ·have hp : ifP kd x = false := by unfold ifP; simp [hk]
   rw [hp]
   have key : ∀ X, ref26_told_L2 N X l kd (i : Int) = X ((l, (kd, (((i + 1 : Nat) : Int), ()))), ()) := fun X => by
    simp only [ref26_told_L2, c1, c2, cond_true, cond_false, g, Option.bind_some, decide_eq_false hk]
   exact (key _).trans ih'
theorem told_is (l : List Op) (kd : Int) (hw : wfO l) (hl : l.length ≤ 1000) (hN : 10000 ≤ N) : ref26_told N l kd = some (ifS l kd) := by
 have h := told_loop (N := N) l kd hw hl (by omega) l.length N 0 (by omega) (by omega)
 rw [List.drop_zero] at h
 unfold ref26_told ifS
 refine (congrArg (fun o => Option.bind o _) (show ref26_told_L2_R N ((l, (kd, ((0 : Int), ()))), ()) = _ from h)).trans ?_
 cases l.find? (ifP kd) <;> rfl
theorem rnaked_is (s : Sd) (l : List Op) (hw : wfO l) (hl : l.length ≤ 1000) (hN : 10000 ≤ N) : ref26_Naked N s l = some (inkS s l) := by
 have h1 := told_is (N := N) l 3 hw hl hN
 have h2 := told_is (N := N) l 129 hw hl hN
 obtain ⟨sv, own, g, d, a⟩ := s
 unfold ref26_Naked inkS
 cases sv with
 | true => rfl
 | false =>
  by_cases e1 : ifS l 3 = 0 <;> by_cases e2 : ifS l 129 = 0 <;> cases a <;> simp [h1, h2, e1, e2]
theorem rrejd_is (s : Sd) (l : List Op) (hl : l.length ≤ 1000) (hN : 10000 ≤ N) : ref26_Rejected N s l = some (irjS s l) := by
 have h1 := ref_find_ok (N := N) l 129 hl hN
 have h2 := ref_find_ok (N := N) l 3 hl hN
 obtain ⟨sv, own, g, d, a⟩ := s
 unfold ref26_Rejected irjS
 cases hb : (findS l 129).2 <;> cases sv <;> simp [h1, h2, hb]
end
abbrev Rt := Bool × Wt3 × Bool × Sd
def judR (r : Rt) (l : List Op) : Int × List Op := ijudS r.2.2.2 l
def askS (r : Rt) : List Op := ioS r.2.2.2
theorem b4_len (n : Int) : (b4 n).length = 4 := rfl
theorem addr_b4 {n : Int} (h : 0 ≤ n ∧ n < 4294967296) : addrS (b4 n) = n := by
 unfold addrS
 rw [if_pos (b4_len n), val_b4 h]
section
variable {own G D dns qo : Int} {qa : Bool} (ho : 0 ≤ own ∧ own < 4294967296) (hG : 0 ≤ G ∧ G < 4294967296) (hD : 0 ≤ D ∧ D < 4294967296) (hn : 0 ≤ dns ∧ dns < 4294967296)
theorem js3 (pre : List Op) (hp : findS pre 3 = ((0, []), false)) : irj (true, qo, G, D, qa) pre (3, b4 own) = false := by
 unfold irj imay
 rw [hp]
 simp [b4_len]
include ho in
theorem jn3 : ink (true, qo, G, D, qa) (3, b4 own) = if own = G then none else some (3, b4 G) := by
 unfold ink givS
 rw [addr_b4 ho]
 by_cases h : own = G <;> simp [h]
theorem jsN (pre : List Op) (hp : findS pre 129 = ((0, []), false)) : irj (true, qo, G, D, qa) pre (129, b4 dns) = decide (D = 0) := by
 unfold irj imay
 rw [hp]
 simp [b4_len]
include hn in
theorem jnN : ink (true, qo, G, D, qa) (129, b4 dns) = if dns = D then none else some (129, b4 D) := by
 unfold ink givS
 rw [addr_b4 hn]
 by_cases h : dns = D <;> simp [h]
theorem find0 (k : Int) : findS [] k = ((0, []), false) := rfl
theorem find3N (x : List Int) : findS [(3, x)] 129 = ((0, []), false) := by simp [findS]
end
section
variable {rj : List Op → Op → Bool} {nk : Op → Option Op} {x y z : Op} {v w u : Option Op}
theorem jud2 (h1 : rj [] x = false) (h2 : nk x = v) (h3 : rj [x] y = false) (h4 : nk y = w) : judS rj nk [] [x, y] = ([], v.toList ++ w.toList) := by
 cases v <;> cases w <;> simp [judS, h1, h2, h3, h4]
end
def Cl (w : Wt3) (pr : Bool) (own g dns : Int) (asks : Bool) : Rt := (true, w, pr, (false, own, g, dns, asks))
def Sv (w : Wt3) (pr : Bool) (qo G D : Int) (qa : Bool) : Rt := (true, w, pr, (true, qo, G, D, qa))
section
variable {w w' : Wt3} {pr pr' : Bool} {own g G D dns qo : Int} {qa : Bool} (ho : 0 ≤ own ∧ own < 4294967296) (hG : 0 ≤ G ∧ G < 4294967296) (hD : 0 ≤ D ∧ D < 4294967296) (hn : 0 ≤ dns ∧ dns < 4294967296)
theorem ask1 : askS (Cl w pr own g dns true) = [(3, b4 own), (129, b4 dns)] := rfl
theorem judV (l : List Op) : judR (Sv w pr qo G D qa) l = ijudS (true, qo, G, D, qa) l := rfl
include ho in
include ho in
include ho hn in
theorem j1 (h : ¬ D = 0) : judR (Sv w' pr' qo G D qa) (askS (Cl w pr own g dns true)) = tellS (askS (Cl w pr own g dns true)) ([], (if own = G then none else some (3, b4 G)).toList ++ (if dns = D then none else some (129, b4 D)).toList) := by
 rw [ask1, judV]
 unfold ijudS
 rw [jud2 (js3 [] (find0 3)) (jn3 ho) ((jsN [(3, b4 own)] (find3N (b4 own))).trans (decide_eq_false h)) (jnN hn)]
end
section
variable {w : Wt3} {pr : Bool} {own g G D dns : Int} (hG : 0 ≤ G ∧ G < 4294967296) (hD : 0 ≤ D ∧ D < 4294967296) (g0 : ¬ G = 0) (d0 : ¬ D = 0)
include hG g0 in
include hD d0 in
end
theorem alive26 : law26_alive 200000 = some true := by decide +kernel
section
variable {N : Nat}
theorem theirs_ok (l : List Op) (hl : l.length ≤ 1000) (hN : 10000 ≤ N) : law26_theirs N l = some l := by
 have h := gl_run (G := fun (X : (((List ((Int) × (List (Int)))) × ((Int) × ((Int) × Unit))) × ((List ((Int) × (List (Int)))) × Unit)) → Option ((Unit × ((List ((Int) × (List (Int)))) × Unit)))) c => law26_theirs_L3 N X c.1.1 c.1.2.1 c.1.2.2.1 c.2.1)
  (fun i => ((l, ((l.length : Int), ((i : Int), ()))), (l.take i, ()))) l.length ((), (l, ())) (fun X i hi => by
  have c1 : ((i : Int) < (l.length : Int)) := by omega
  have c2 : IntKind.wrap .i64 ((i : Int) + 1) = ((i + 1 : Nat) : Int) := by rw [wrap64 (by omega) (by omega)]; omega
  have c3 : roomB ((l.take i).length + ([(l[i].1, l[i].2)] : List Op).length) 32 = true := roomB_of (by have := big_len; simp; omega) (by simp; omega)
  simp only [law26_theirs_L3, c1, decide_true, cond_true, getI_lt l i hi, Option.bind_some, c3, c2, take_snoc l i hi]) (fun X => by
  simp [law26_theirs_L3]) N 0 (by omega) (by omega)
 unfold law26_theirs law26_theirs_L3_R
 simp only [Int.natCast_zero, List.take_zero] at h
 rw [h]
 rfl
theorem far_ok (l : List Op) (hN : 10000 ≤ N) : ∃ b, law26_far N l = some b ∧ (b = false → l.length ≤ 40 ∧ ∀ o ∈ l, o.2.length ≤ 300) := by
 have hm : takeI l (minI (l.length : Int) 40) = some (l.take 40) := by
  unfold minI
  split
  ·exact takeI_nat l (i := 40) rfl (by omega)
  ·rw [takeI_nat l (i := l.length) rfl (by omega), List.take_of_length_le (by omega), List.take_of_length_le (by omega)]
 have hml : (l.take 40).length ≤ 40 := by rw [List.length_take]; omega
 generalize hmm : l.take 40 = m at hm hml
 obtain ⟨o, h1, h2⟩ := gl_inv (G := fun (X : (((List ((Int) × (List (Int)))) × ((List ((Int) × (List (Int)))) × ((Int) × ((Int) × Unit)))) × Unit) → Option (((((Bool) × Unit) × Unit) ⊕ (((List ((Int) × (List (Int)))) × Unit) × Unit)))) c => law26_far_L2 N X c.1.1 c.1.2.1 c.1.2.2.1 c.1.2.2.2.1)
  (fun n c => ∃ i : Nat, c = ((l, (m, ((m.length : Int), ((i : Int), ())))), ()) ∧ i ≤ m.length ∧ n = m.length - i ∧ ∀ o ∈ m.take i, o.2.length ≤ 300) (fun o => o = .inl ((true, ()), ()) ∨ (o = .inr ((l, ()), ()) ∧ ∀ o ∈ m, o.2.length ≤ 300)) (fun X n c ⟨i, hc, hi, hn, ht⟩ => by
   subst hc
   rcases Nat.lt_or_ge i m.length with hlt | hge
   ·have c1 : ((i : Int) < (m.length : Int)) := by omega
    have c2 : IntKind.wrap .i64 ((i : Int) + 1) = ((i + 1 : Nat) : Int) := by rw [wrap64 (by omega) (by omega)]; omega
    by_cases he : (300 : Int) < (m[i].2.length : Int)
    ·left
     exact ⟨_, by simp only [law26_far_L2, c1, decide_true, cond_true, getI_lt m i hlt, Option.bind_some, he], .inl rfl⟩
    ·right
     refine ⟨m.length - (i + 1), ((l, (m, ((m.length : Int), (((i + 1 : Nat) : Int), ())))), ()), by omega, ⟨i + 1, rfl, hlt, rfl, ?_⟩, ?_⟩
     ·intro o ho
      rw [take_snoc m i hlt] at ho
      rcases List.mem_append.1 ho with ho | ho
      ·exact ht o ho
      ·simp at ho; subst ho; omega
     ·simp only [law26_far_L2, c1, decide_true, cond_true, getI_lt m i hlt, Option.bind_some, he, decide_false, cond_false, c2]
   ·left
    have c1 : ¬ ((i : Int) < (m.length : Int)) := by omega
    refine ⟨_, by simp only [law26_far_L2, c1, decide_false, cond_false], .inr ⟨rfl, ?_⟩⟩
    rw [List.take_of_length_le (by omega)] at ht
    exact ht) N m.length ((l, (m, ((m.length : Int), ((0 : Int), ())))), ()) (by omega) ⟨0, rfl, by omega, by omega, by simp⟩
 unfold law26_far law26_far_L2_R
 rw [hm]
 simp only [Option.bind_some]
 rw [h1]
 rcases h2 with rfl | ⟨rfl, h2⟩
 ·exact ⟨true, rfl, fun h => by cases h⟩
 ·refine ⟨decide ((40 : Int) < (l.length : Int)), rfl, fun h => ?_⟩
  have hl : l.length ≤ 40 := by have := of_decide_eq_false h; omega
  refine ⟨hl, ?_⟩
  rw [List.take_of_length_le hl] at hmm
  rw [hmm]
  exact h2
end
def wf1 (x : Op) : Prop := (0 ≤ x.1 ∧ x.1 < 256) ∧ AllB x.2
theorem tell_wf (rj : List Op → Op → Bool) (nk : Op → Option Op) (l : List Op) (hw : wfO l) (hl : l.length ≤ 40) (hk : ∀ o ∈ l, ∀ x, nk o = some x → wf1 x) : wfO (tellS l (judS rj nk [] l)).2 ∧ (tellS l (judS rj nk [] l)).2.length ≤ 40 ∧ ((tellS l (judS rj nk [] l)).1 = 2 ∨ (tellS l (judS rj nk [] l)).1 = 3 ∨ (tellS l (judS rj nk [] l)).1 = 4) := by
 obtain ⟨h1, h2, h3⟩ := judS_sub rj nk l []
 unfold tellS
 split
 ·exact ⟨wfO_sub hw h1, by have := h1.length_le; simp only; omega, .inr (.inr rfl)⟩
 ·split
  ·exact ⟨fun x hx => by obtain ⟨o, ho, he⟩ := h3 x hx; exact hk o ho x he, by simp only; omega, .inr (.inl rfl)⟩
  ·exact ⟨hw, hl, .inl rfl⟩
theorem ink_wf (s : Sd) (o x : Op) (ho : 0 ≤ o.1 ∧ o.1 < 256) (h : ink s o = some x) : wf1 x := by
 unfold ink at h
 split at h
 ·injection h with h
  subst h
  exact ⟨ho, b4_B _⟩
 ·cases h
theorem wf_side {s : Sd} (h : wfT SD s) : wfS s := ⟨wf_u32' h.2.1, wf_u32' h.2.2.1, wf_u32' h.2.2.2.1⟩
theorem wfB_side {s : Sd} (h : wfS s) : wfB (.pair .bool (.pair (.int .u32) (.pair (.int .u32) (.pair (.int .u32) .bool)))) s = true := by
 have h1 := wfu32 h.1
 have h2 := wfu32 h.2.1
 have h3 := wfu32 h.2.2
 simp [wfB, h1, h2, h3]
theorem irjS_wf {s : Sd} (h : wfS s) (l : List Op) : wfS (irjS s l).1 := h
theorem law_IpcpoJudges (s : Sd) (l : List Op) (h1 : wfT (.pair .bool (.pair (.int .u32) (.pair (.int .u32) (.pair (.int .u32) .bool)))) s) (h2 : wfT (.sl (.pair (.int .u8) (.sl (.int .u8)))) l) : law26_IpcpoJudges 200000 s l = some true := by
 have hw := wf_opts h2
 have hs := wf_side h1
 unfold law26_IpcpoJudges
 obtain ⟨f, hfar, hf2⟩ := far_ok (N := 200000) l (by omega)
 rw [hfar, Option.bind_some]
 cases f with
 | true => simp only [cond_true, alive26, Option.bind_some]
 | false =>
  obtain ⟨hl, hd⟩ := hf2 rfl
  have t0 := theirs_ok (N := 200000) l (by omega) (by omega)
  have j1 := ijudge_is (N := 200000) s l hw hs hl hd (by omega)
  have j2 := rijudge_is (N := 200000) s l hw hs hl hd (by omega)
  have r1 := irej_is (N := 200000) s l (by omega) (fun o ho => by have := hd o ho; omega) (by omega)
  have r2 := rrejd_is (N := 200000) s l (by omega) (by omega)
  obtain ⟨n1, n2⟩ := inaked_is (N := 200000) s l hw (by omega) (by omega)
  have n3 := rnaked_is (N := 200000) s l hw (by omega) (by omega)
  have o1 := iopts_is (N := 200000) s hs (by omega)
  have o2 := riopts_is (N := 200000) s hs (by omega)
  obtain ⟨w1, w2, w3⟩ := tell_wf (irj s) (ink s) l hw hl fun o ho x hx => ink_wf s o x (hw o ho).1 hx
  have w1' : wfO (ijudS s l).2 := w1
  have w2' : (ijudS s l).2.length ≤ 40 := w2
  obtain ⟨v1, v2, v3⟩ := ioS_wf s
  have t1 := theirs_ok (N := 200000) (ijudS s l).2 (by omega) (by omega)
  have t2 := theirs_ok (N := 200000) (ioS s) (by omega) (by omega)
  have s1 := osame_ok (N := 200000) (ijudS s l).2 (ijudS s l).2 w1' w1' (by omega) (by omega)
  have s2 := osame_ok (N := 200000) (ioS s) (ioS s) v1 v1 (by omega) (by omega)
  have b1 := wfB_side (n2 hs)
  have b2 := wfB_side (irjS_wf hs l)
  have e0 : ((s.1, (s.2.1, (s.2.2.1, (s.2.2.2.1, s.2.2.2.2)))) : Sd) = s := rfl
  have e1 : ((inkS s l).1, ((inkS s l).2.1, ((inkS s l).2.2.1, ((inkS s l).2.2.2.1, (inkS s l).2.2.2.2)))) = inkS s l := rfl
  have e2 : ((irjS s l).1.1, ((irjS s l).1.2.1, ((irjS s l).1.2.2.1, ((irjS s l).1.2.2.2.1, (irjS s l).1.2.2.2.2)))) = (irjS s l).1 := rfl
  simp only [cond_false, t0, Option.bind_some, e0, j1, j2, r1, r2, decide_true, cond_true, t1, s1, o1, o2, t2, s2, n1, n3, e1, e2, b1, b2, Bool.and_self, BEq.rfl, alive26]
end Go.Proofs.YtkigpcolmioibaaDoor
