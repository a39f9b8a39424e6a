/-
  Parts of my own, one behind the other: GI26, QJC0, QJC1, QJC2, QJL0, QJL1, QJL2, QJL3, QJL4, QJg0, QJg1, QJr1, QJa, QJb, QJt0, QJt1, QJt2, QJt.
-/
import Derived.Test.YtkigpcolmioibaaDoorMrg4
namespace Go.Proofs.YtkigpcolmioibaaDoor
open Go.RowKit
set_option linter.unusedVariables false
set_option maxRecDepth 100000
section
variable (N : Nat)
theorem hmx : Tryd.prog.follows .mixedOrders = true := by kernel_rfl
noncomputable def Ev0 (N : Nat) : (R : Type) → Env R := Env.addInl env0 [46, 45, 34]
theorem Ev0_ok (R : Type) : EnvOK Tryd.prog (Ev0 N R) := EnvOK.addInl (env0_ok R) (by kernel_rfl)
noncomputable def Ev1 : (R : Type) → Env R := Env.addBx (Ev0 N) [(46, 0)]
theorem Ev1_ok (R : Type) : EnvOK Tryd.prog (Ev1 N R) := EnvOK.addBx (Ev0_ok N R) [(46, 0)]
noncomputable def octs_place (N : Nat) (i0 : Int) (width1 : Int) (little2 : Bool) : Option Int :=
 bif little2 then
  some (i0)
 else
  some ((IntKind.wrap .i64 ((IntKind.wrap .i64 (width1 - 1)) - i0)))
theorem octs_place_S (i0 : Int) (width1 : Int) (little2 : Bool) : (runK Tryd.prog (Ev1 N) 400 60 [(.int .i64), (.int .i64), .bool] [(.int .i64)] (i0, width1, little2, ())).run = octs_place N i0 width1 little2 := by kernel_rfl
noncomputable def Ev2 : (R : Type) → Env R := Env.addFn (Ev1 N) 60 (fun R => fnK [(.int .i64), (.int .i64), .bool] [(.int .i64)] (fun c => octs_place N c.1 c.2.1 c.2.2.1))
theorem Ev2_ok (R : Type) : EnvOK Tryd.prog (Ev2 N R) := EnvOK.addFn hmx (Ev1_ok N R) (Ev1_ok N _) (by kernel_rfl) (fun c => octs_place_S N c.1 c.2.1 c.2.2.1)
noncomputable def octs_Put_L5_I : LI := ⟨35, 0, [], ⟨[(0, .ty (.int .u64)), (1, .ty (.int .i64)), (2, .ty .bool), (8, .lit (.own 0)), (19, .ty (.int .i64)), (20, .ty (.int .i64))], [.own (.int .u8) 5]⟩, [(.exit 0, ⟨[(8, .lit (.own 0))], [.own (.int .u8) 5]⟩)]⟩
noncomputable def octs_Put_L5 (X : ((Int × (Int × (Bool × (Int × (Int × Unit))))) × ((List Int) × Unit)) → Option ((Unit × ((List Int) × Unit)))) (n0 : Int) (width1 : Int) (little2 : Bool) (x19 : Int) (x20 : Int) (h0 : List (Int)) : Option ((Unit × ((List Int) × Unit))) :=
 bif (decide (x20 < x19)) then
  Option.bind (octs_place N x20 width1 little2) fun v8 =>
  bif (decide ((0 : Int) ≤ v8 ∧ v8 < (((List.length h0) : Nat) : Int))) then
   Option.bind (h0[Int.toNat v8]?) fun (v9 : Int) =>
   (X (((@Int.fdiv n0 ((2 : Int) ^ (min (Int.toNat (8 : Int)) (IntKind.bits .u64)))), (width1, (little2, (x19, ((IntKind.wrap .i64 (x20 + 1)), ()))))), ((@List.set Int h0 (Int.toNat v8) (IntKind.wrap .u8 n0)), ())))
  else
   none
 else
  some (((), (h0, ())))
noncomputable def octs_Put_L5_R (c : ((Int × (Int × (Bool × (Int × (Int × Unit))))) × ((List Int) × Unit))) : Option ((Unit × ((List Int) × Unit))) := gl (fun X c => octs_Put_L5 N X c.1.1 c.1.2.1 c.1.2.2.1 c.1.2.2.2.1 c.1.2.2.2.2.1 c.2.1) N c
theorem octs_Put_L5_S (X : ((Int × (Int × (Bool × (Int × (Int × Unit))))) × ((List Int) × Unit)) → Option ((Unit × ((List Int) × Unit)))) (n0 : Int) (width1 : Int) (little2 : Bool) (x19 : Int) (x20 : Int) (h0 : List (Int)) : (roundK Tryd.prog (Ev2 N) 400 [55] octs_Put_L5_I (loopAt Tryd.prog [55] 5) X ((n0, width1, little2, x19, x20, ()), (h0, ()))).run = octs_Put_L5 N X n0 width1 little2 x19 x20 h0 := by kernel_rfl
noncomputable def Ev3 : (R : Type) → Env R := Env.addLp (Ev2 N) [55] 0 5 (fun R => lpK Tryd.prog octs_Put_L5_I (fun X c => octs_Put_L5 N X c.1.1 c.1.2.1 c.1.2.2.1 c.1.2.2.2.1 c.1.2.2.2.2.1 c.2.1) N)
theorem Ev3_ok (R : Type) : EnvOK Tryd.prog (Ev3 N R) := EnvOK.addLp (Ev2_ok N R) (by kernel_rfl) (lpK_ok (li := octs_Put_L5_I) (G := fun X c => octs_Put_L5 N X c.1.1 c.1.2.1 c.1.2.2.1 c.1.2.2.2.1 c.1.2.2.2.2.1 c.2.1) hmx (Ev2_ok N _) (by kernel_rfl) loopAt_sub (fun (X : CT octs_Put_L5_I.sh → Option (OT octs_Put_L5_I.outs)) (c : CT octs_Put_L5_I.sh) => octs_Put_L5_S N X c.1.1 c.1.2.1 c.1.2.2.1 c.1.2.2.2.1 c.1.2.2.2.2.1 c.2.1) N)
noncomputable def octs_Put (n0 : Int) (width1 : Int) (little2 : Bool) : Option ((List Int) × Int) :=
 Option.bind (bif (decide (width1 < (1 : Int))) then
   some (true)
  else
   some ((cond false true (decide ((8 : Int) < width1))))) fun (v4 : Bool) =>
 bif v4 then
  some ((([] : List Int), (1 : Int)))
 else
  bif ((decide ((0 : Int) ≤ width1 ∧ width1 ≤ width1)) && (roomB (Int.toNat width1) 1)) then
   Option.bind (octs_Put_L5_R N ((n0, (width1, (little2, ((((List.length (@List.replicate Int (Int.toNat width1) (0 : Int))) : Nat) : Int), ((0 : Int), ()))))), ((@List.replicate Int (Int.toNat width1) (0 : Int)), ()))) fun v5 =>
   some ((v5.2.1, (0 : Int)))
  else
   none
theorem octs_Put_S (n0 : Int) (width1 : Int) (little2 : Bool) : (runK Tryd.prog (Ev3 N) 400 55 [(.int .u64), (.int .i64), .bool] [(.sl (.int .u8)), (.int .i64)] (n0, width1, little2, ())).run = octs_Put N n0 width1 little2 := by kernel_rfl
noncomputable def Ev4 : (R : Type) → Env R := Env.addFn (Ev3 N) 55 (fun R => fnK [(.int .u64), (.int .i64), .bool] [(.sl (.int .u8)), (.int .i64)] (fun c => octs_Put N c.1 c.2.1 c.2.2.1))
theorem Ev4_ok (R : Type) : EnvOK Tryd.prog (Ev4 N R) := EnvOK.addFn hmx (Ev3_ok N R) (Ev3_ok N _) (by kernel_rfl) (fun c => octs_Put_S N c.1 c.2.1 c.2.2.1)
noncomputable def octs_Get_L5_I : LI := ⟨37, 0, [], ⟨[(0, .ty (.sl (.int .u8))), (1, .ty .bool), (6, .ty (.int .u64)), (17, .ty (.int .i64)), (18, .ty (.int .i64))], []⟩, [(.exit 0, ⟨[(6, .ty (.int .u64))], []⟩)]⟩
noncomputable def octs_Get_L5 (X : (((List Int) × (Bool × (Int × (Int × (Int × Unit))))) × Unit) → Option (((Int × Unit) × Unit))) (b0 : List (Int)) (little1 : Bool) (n6 : Int) (x17 : Int) (x18 : Int) : Option (((Int × Unit) × Unit)) :=
 bif (decide (x18 < x17)) then
  Option.bind (octs_place N x18 (((List.length b0) : Nat) : Int) little1) fun v7 =>
  Option.bind (getI b0 v7) fun (v8 : Int) =>
  bif (decide ((0 : Int) ≤ (IntKind.wrap .i64 ((8 : Int) * x18)))) then
   (X ((b0, (little1, ((bits .or .u64 n6 (IntKind.wrap .u64 ((IntKind.wrap .u64 v8) * ((2 : Int) ^ (min (Int.toNat (IntKind.wrap .i64 ((8 : Int) * x18))) (IntKind.bits .u64)))))), (x17, ((IntKind.wrap .i64 (x18 + 1)), ()))))), ()))
  else
   none
 else
  some (((n6, ()), ()))
noncomputable def octs_Get_L5_R (c : (((List Int) × (Bool × (Int × (Int × (Int × Unit))))) × Unit)) : Option (((Int × Unit) × Unit)) := gl (fun X c => octs_Get_L5 N X c.1.1 c.1.2.1 c.1.2.2.1 c.1.2.2.2.1 c.1.2.2.2.2.1) N c
theorem octs_Get_L5_S (X : (((List Int) × (Bool × (Int × (Int × (Int × Unit))))) × Unit) → Option (((Int × Unit) × Unit))) (b0 : List (Int)) (little1 : Bool) (n6 : Int) (x17 : Int) (x18 : Int) : (roundK Tryd.prog (Ev4 N) 400 [48] octs_Get_L5_I (loopAt Tryd.prog [48] 5) X ((b0, little1, n6, x17, x18, ()), ())).run = octs_Get_L5 N X b0 little1 n6 x17 x18 := by kernel_rfl
noncomputable def Ev5 : (R : Type) → Env R := Env.addLp (Ev4 N) [48] 0 5 (fun R => lpK Tryd.prog octs_Get_L5_I (fun X c => octs_Get_L5 N X c.1.1 c.1.2.1 c.1.2.2.1 c.1.2.2.2.1 c.1.2.2.2.2.1) N)
theorem Ev5_ok (R : Type) : EnvOK Tryd.prog (Ev5 N R) := EnvOK.addLp (Ev4_ok N R) (by kernel_rfl) (lpK_ok (li := octs_Get_L5_I) (G := fun X c => octs_Get_L5 N X c.1.1 c.1.2.1 c.1.2.2.1 c.1.2.2.2.1 c.1.2.2.2.2.1) hmx (Ev4_ok N _) (by kernel_rfl) loopAt_sub (fun (X : CT octs_Get_L5_I.sh → Option (OT octs_Get_L5_I.outs)) (c : CT octs_Get_L5_I.sh) => octs_Get_L5_S N X c.1.1 c.1.2.1 c.1.2.2.1 c.1.2.2.2.1 c.1.2.2.2.2.1) N)
noncomputable def octs_Get (b0 : List (Int)) (little1 : Bool) : Option (Int × Int) :=
 bif (decide ((((List.length b0) : Nat) : Int) < (1 : Int))) then
  some (((0 : Int), (1 : Int)))
 else
  Option.bind (some ((cond false true (decide ((8 : Int) < (((List.length b0) : Nat) : Int)))))) fun (v3 : Bool) =>
  bif v3 then
   some (((0 : Int), (1 : Int)))
  else
   Option.bind (octs_Get_L5_R N ((b0, (little1, ((0 : Int), ((((List.length b0) : Nat) : Int), ((0 : Int), ()))))), ())) fun v4 =>
   some ((v4.1.1, (0 : Int)))
theorem octs_Get_S (b0 : List (Int)) (little1 : Bool) : (runK Tryd.prog (Ev5 N) 400 48 [(.sl (.int .u8)), .bool] [(.int .u64), (.int .i64)] (b0, little1, ())).run = octs_Get N b0 little1 := by kernel_rfl
noncomputable def Ev6 : (R : Type) → Env R := Env.addFn (Ev5 N) 48 (fun R => fnK [(.sl (.int .u8)), .bool] [(.int .u64), (.int .i64)] (fun c => octs_Get N c.1 c.2.1))
theorem Ev6_ok (R : Type) : EnvOK Tryd.prog (Ev6 N R) := EnvOK.addFn hmx (Ev5_ok N R) (Ev5_ok N _) (by kernel_rfl) (fun c => octs_Get_S N c.1 c.2.1)
noncomputable def Ev7 : (R : Type) → Env R := Env.addBx (Ev6 N) [(35, 0)]
theorem Ev7_ok (R : Type) : EnvOK Tryd.prog (Ev7 N R) := EnvOK.addBx (Ev6_ok N R) [(35, 0)]
noncomputable def bytes_Equal (N : Nat) (a0 : List (Int)) (b1 : List (Int)) : Option Bool :=
 Option.bind (@toBy a0) fun (v3 : (List UInt8)) =>
 Option.bind (@toBy b1) fun (v4 : (List UInt8)) =>
 some ((decide (v3 = v4)))
theorem bytes_Equal_S (a0 : List (Int)) (b1 : List (Int)) : (runK Tryd.prog (Ev7 N) 400 50 [(.sl (.int .u8)), (.sl (.int .u8))] [.bool] (a0, b1, ())).run = bytes_Equal N a0 b1 := by kernel_rfl
noncomputable def Ev8 : (R : Type) → Env R := Env.addFn (Ev7 N) 50 (fun R => fnK [(.sl (.int .u8)), (.sl (.int .u8))] [.bool] (fun c => bytes_Equal N c.1 c.2.1))
theorem Ev8_ok (R : Type) : EnvOK Tryd.prog (Ev8 N R) := EnvOK.addFn hmx (Ev7_ok N R) (Ev7_ok N _) (by kernel_rfl) (fun c => bytes_Equal_S N c.1 c.2.1)
noncomputable def opts_equal (a0 : Int × (List Int)) (b1 : Int × (List Int)) : Option Bool :=
 bif (decide (a0.1 = b1.1)) then
  Option.bind (bytes_Equal N a0.2 b1.2) fun v3 =>
  some ((cond true v3 false))
 else
  some (false)
theorem opts_equal_S (a0 : Int × (List Int)) (b1 : Int × (List Int)) : (runK Tryd.prog (Ev8 N) 400 35 [(.pair (.int .u8) (.sl (.int .u8))), (.pair (.int .u8) (.sl (.int .u8)))] [.bool] (a0, b1, ())).run = opts_equal N a0 b1 := by kernel_rfl
noncomputable def Ev9 : (R : Type) → Env R := Env.addFn (Ev8 N) 35 (fun R => fnK [(.pair (.int .u8) (.sl (.int .u8))), (.pair (.int .u8) (.sl (.int .u8)))] [.bool] (fun c => opts_equal N c.1 c.2.1))
theorem Ev9_ok (R : Type) : EnvOK Tryd.prog (Ev9 N R) := EnvOK.addFn hmx (Ev8_ok N R) (Ev8_ok N _) (by kernel_rfl) (fun c => opts_equal_S N c.1 c.2.1)
noncomputable def opts_Same_1_slices_EqualFunc_api_Option_api_Option_api_Option_api_Option_L4_I : LI := ⟨32, 0, [], ⟨[(1, .ty (.sl (.pair (.int .u8) (.sl (.int .u8))))), (2, .lit (.clo 35 [])), (15, .ty (.sl (.pair (.int .u8) (.sl (.int .u8))))), (16, .ty (.int .i64)), (17, .ty (.int .i64))], []⟩, [(.ret, ⟨[(6, .ty .bool)], []⟩), (.exit 0, ⟨[], []⟩)]⟩
noncomputable def opts_Same_1_slices_EqualFunc_api_Option_api_Option_api_Option_api_Option_L4 (X : (((List (Int × (List Int))) × ((List (Int × (List Int))) × (Int × (Int × Unit)))) × Unit) → Option ((((Bool × Unit) × Unit) ⊕ (Unit × Unit)))) (s21 : List (Int × (List Int))) (x15 : List (Int × (List Int))) (x16 : Int) (x17 : Int) : Option ((((Bool × Unit) × Unit) ⊕ (Unit × Unit))) :=
 bif (decide (x17 < x16)) then
  Option.bind (getI x15 x17) fun (v6 : (Int × (List Int))) =>
  Option.bind (getI s21 x17) fun (v7 : (Int × (List Int))) =>
  Option.bind (opts_equal N (v6.1, v6.2) (v7.1, v7.2)) fun v8 =>
  bif (!v8) then
   some ((.inl ((false, ()), ())))
  else
   (X ((s21, (x15, (x16, ((IntKind.wrap .i64 (x17 + 1)), ())))), ()))
 else
  some ((.inr ((), ())))
noncomputable def opts_Same_1_slices_EqualFunc_api_Option_api_Option_api_Option_api_Option_L4_R (c : (((List (Int × (List Int))) × ((List (Int × (List Int))) × (Int × (Int × Unit)))) × Unit)) : Option ((((Bool × Unit) × Unit) ⊕ (Unit × Unit))) := gl (fun X c => opts_Same_1_slices_EqualFunc_api_Option_api_Option_api_Option_api_Option_L4 N X c.1.1 c.1.2.1 c.1.2.2.1 c.1.2.2.2.1) N c
theorem opts_Same_1_slices_EqualFunc_api_Option_api_Option_api_Option_api_Option_L4_S (X : (((List (Int × (List Int))) × ((List (Int × (List Int))) × (Int × (Int × Unit)))) × Unit) → Option ((((Bool × Unit) × Unit) ⊕ (Unit × Unit)))) (s21 : List (Int × (List Int))) (x15 : List (Int × (List Int))) (x16 : Int) (x17 : Int) : (roundK Tryd.prog (Ev9 N) 400 [34, 1, 14] opts_Same_1_slices_EqualFunc_api_Option_api_Option_api_Option_api_Option_L4_I (loopAt Tryd.prog [34, 1, 14] 4) X ((s21, x15, x16, x17, ()), ())).run = opts_Same_1_slices_EqualFunc_api_Option_api_Option_api_Option_api_Option_L4 N X s21 x15 x16 x17 := by kernel_rfl
noncomputable def Ev10 : (R : Type) → Env R := Env.addLp (Ev9 N) [34, 1, 14] 0 4 (fun R => lpK Tryd.prog opts_Same_1_slices_EqualFunc_api_Option_api_Option_api_Option_api_Option_L4_I (fun X c => opts_Same_1_slices_EqualFunc_api_Option_api_Option_api_Option_api_Option_L4 N X c.1.1 c.1.2.1 c.1.2.2.1 c.1.2.2.2.1) N)
theorem Ev10_ok (R : Type) : EnvOK Tryd.prog (Ev10 N R) := EnvOK.addLp (Ev9_ok N R) (by kernel_rfl) (lpK_ok (li := opts_Same_1_slices_EqualFunc_api_Option_api_Option_api_Option_api_Option_L4_I) (G := fun X c => opts_Same_1_slices_EqualFunc_api_Option_api_Option_api_Option_api_Option_L4 N X c.1.1 c.1.2.1 c.1.2.2.1 c.1.2.2.2.1) hmx (Ev9_ok N _) (by kernel_rfl) loopAt_sub (fun (X : CT opts_Same_1_slices_EqualFunc_api_Option_api_Option_api_Option_api_Option_L4_I.sh → Option (OT opts_Same_1_slices_EqualFunc_api_Option_api_Option_api_Option_api_Option_L4_I.outs)) (c : CT opts_Same_1_slices_EqualFunc_api_Option_api_Option_api_Option_api_Option_L4_I.sh) => opts_Same_1_slices_EqualFunc_api_Option_api_Option_api_Option_api_Option_L4_S N X c.1.1 c.1.2.1 c.1.2.2.1 c.1.2.2.2.1) N)
noncomputable def opts_Same (a0 : List (Int × (List Int))) (b1 : List (Int × (List Int))) : Option Bool :=
 bif (!(decide ((((List.length a0) : Nat) : Int) = (((List.length b1) : Nat) : Int)))) then
  some (false)
 else
  Option.bind (opts_Same_1_slices_EqualFunc_api_Option_api_Option_api_Option_api_Option_L4_R N ((b1, (a0, ((((List.length a0) : Nat) : Int), ((0 : Int), ())))), ())) fun v3 =>
  Sum.elim
   (fun (v4 : ((Bool × Unit) × Unit)) =>
   some (v4.1.1))
   (fun (v4 : (Unit × Unit)) =>
   some (true)) v3
theorem opts_Same_S (a0 : List (Int × (List Int))) (b1 : List (Int × (List Int))) : (runK Tryd.prog (Ev10 N) 400 14 [(.sl (.pair (.int .u8) (.sl (.int .u8)))), (.sl (.pair (.int .u8) (.sl (.int .u8))))] [.bool] (a0, b1, ())).run = opts_Same N a0 b1 := by kernel_rfl
noncomputable def Ev11 : (R : Type) → Env R := Env.addFn (Ev10 N) 14 (fun R => fnK [(.sl (.pair (.int .u8) (.sl (.int .u8)))), (.sl (.pair (.int .u8) (.sl (.int .u8))))] [.bool] (fun c => opts_Same N c.1 c.2.1))
theorem Ev11_ok (R : Type) : EnvOK Tryd.prog (Ev11 N R) := EnvOK.addFn hmx (Ev10_ok N R) (Ev10_ok N _) (by kernel_rfl) (fun c => opts_Same_S N c.1 c.2.1)
noncomputable def opts_Find_1_slices_IndexFunc_api_Option_api_Option_L2_I : LI := ⟨19, 2, [], ⟨[(0, .ty (.sl (.pair (.int .u8) (.sl (.int .u8))))), (1, .lit (.clo 46 [.box 0 0])), (7, .ty (.int .i64)), (8, .ty (.int .i64))], [.box 5 (.int .u8), .box 60 (.pair (.int .u8) (.sl (.int .u8)))]⟩, [(.ret, ⟨[(4, .ty (.int .i64))], [.box 5 (.int .u8), .box 60 (.pair (.int .u8) (.sl (.int .u8)))]⟩), (.exit 0, ⟨[], [.box 5 (.int .u8), .box 60 (.pair (.int .u8) (.sl (.int .u8)))]⟩)]⟩
noncomputable def opts_Find_1_slices_IndexFunc_api_Option_api_Option_L2 (N : Nat) (X : (((List (Int × (List Int))) × (Int × (Int × Unit))) × (Int × ((Int × (List Int)) × Unit))) → Option ((((Int × Unit) × (Int × ((Int × (List Int)) × Unit))) ⊕ (Unit × (Int × ((Int × (List Int)) × Unit)))))) (s0 : List (Int × (List Int))) (x7 : Int) (x8 : Int) (h0 : Int) (h1 : Int × (List Int)) : Option ((((Int × Unit) × (Int × ((Int × (List Int)) × Unit))) ⊕ (Unit × (Int × ((Int × (List Int)) × Unit))))) :=
 bif (decide (x8 < x7)) then
  Option.bind (getI s0 x8) fun (v7 : (Int × (List Int))) =>
  bif (decide (v7.1 = h0)) then
   some ((.inl ((x8, ()), (h0, ((h1.1, h1.2), ())))))
  else
   (X ((s0, (x7, ((IntKind.wrap .i64 (x8 + 1)), ()))), (h0, ((h1.1, h1.2), ()))))
 else
  some ((.inr ((), (h0, ((h1.1, h1.2), ())))))
noncomputable def opts_Find_1_slices_IndexFunc_api_Option_api_Option_L2_R (c : (((List (Int × (List Int))) × (Int × (Int × Unit))) × (Int × ((Int × (List Int)) × Unit)))) : Option ((((Int × Unit) × (Int × ((Int × (List Int)) × Unit))) ⊕ (Unit × (Int × ((Int × (List Int)) × Unit))))) := gl (fun X c => opts_Find_1_slices_IndexFunc_api_Option_api_Option_L2 N X c.1.1 c.1.2.1 c.1.2.2.1 c.2.1 c.2.2.1) N c
theorem opts_Find_1_slices_IndexFunc_api_Option_api_Option_L2_S (X : (((List (Int × (List Int))) × (Int × (Int × Unit))) × (Int × ((Int × (List Int)) × Unit))) → Option ((((Int × Unit) × (Int × ((Int × (List Int)) × Unit))) ⊕ (Unit × (Int × ((Int × (List Int)) × Unit)))))) (s0 : List (Int × (List Int))) (x7 : Int) (x8 : Int) (h0 : Int) (h1 : Int × (List Int)) : (roundK Tryd.prog (Ev11 N) 400 [45, 1, 25] opts_Find_1_slices_IndexFunc_api_Option_api_Option_L2_I (loopAt Tryd.prog [45, 1, 25] 2) X ((s0, x7, x8, ()), (h0, h1, ()))).run = opts_Find_1_slices_IndexFunc_api_Option_api_Option_L2 N X s0 x7 x8 h0 h1 := by kernel_rfl
noncomputable def Ev12 : (R : Type) → Env R := Env.addLp (Ev11 N) [45, 1, 25] 2 2 (fun R => lpK Tryd.prog opts_Find_1_slices_IndexFunc_api_Option_api_Option_L2_I (fun X c => opts_Find_1_slices_IndexFunc_api_Option_api_Option_L2 N X c.1.1 c.1.2.1 c.1.2.2.1 c.2.1 c.2.2.1) N)
theorem Ev12_ok (R : Type) : EnvOK Tryd.prog (Ev12 N R) := EnvOK.addLp (Ev11_ok N R) (by kernel_rfl) (lpK_ok (li := opts_Find_1_slices_IndexFunc_api_Option_api_Option_L2_I) (G := fun X c => opts_Find_1_slices_IndexFunc_api_Option_api_Option_L2 N X c.1.1 c.1.2.1 c.1.2.2.1 c.2.1 c.2.2.1) hmx (Ev11_ok N _) (by kernel_rfl) loopAt_sub (fun (X : CT opts_Find_1_slices_IndexFunc_api_Option_api_Option_L2_I.sh → Option (OT opts_Find_1_slices_IndexFunc_api_Option_api_Option_L2_I.outs)) (c : CT opts_Find_1_slices_IndexFunc_api_Option_api_Option_L2_I.sh) => opts_Find_1_slices_IndexFunc_api_Option_api_Option_L2_S N X c.1.1 c.1.2.1 c.1.2.2.1 c.2.1 c.2.2.1) N)
noncomputable def Ev13 : (R : Type) → Env R := Env.addBx (Ev12 N) [(47, 0)]
theorem Ev13_ok (R : Type) : EnvOK Tryd.prog (Ev13 N R) := EnvOK.addBx (Ev12_ok N R) [(47, 0)]
noncomputable def slices_Clone_byte_byte_ne (N : Nat) (s0 : List (Int)) : Option (List Int) :=
 bif (@List.isEmpty Int s0) then
  none
 else
  bif (roomB (List.length s0) 1) then
   some (s0)
  else
   none
theorem slices_Clone_byte_byte_ne_S (s0 : List (Int)) : (runK Tryd.prog (Ev13 N) 400 24 [(.sl (.int .u8))] [(.sl (.int .u8))] (s0, ())).run = slices_Clone_byte_byte_ne N s0 := by kernel_rfl
theorem slices_Clone_byte_byte_n1 (c : Nat) : (runV Tryd.prog (Ev13 N) 400 24 [.c (.slice none 0 c)] [(.sl (.int .u8))]).run = some [] := by kernel_rfl
theorem slices_Clone_byte_byte_n2 (A : Addr) (c : Nat) : (runV Tryd.prog (Ev13 N) 400 24 [.c (.slice (some A) 0 c)] [(.sl (.int .u8))]).run = some [] := by kernel_rfl
noncomputable def slices_Clone_byte_byte (s0 : List (Int)) : Option (List Int) := bif s0.isEmpty then some [] else slices_Clone_byte_byte_ne N s0
noncomputable def Ev14 : (R : Type) → Env R := Env.addFn (Ev13 N) 24 (fun R => fnK [(.sl (.int .u8))] [(.sl (.int .u8))] (fun c => slices_Clone_byte_byte N c.1))
theorem Ev14_ok (R : Type) : EnvOK Tryd.prog (Ev14 N R) := EnvOK.addNil hmx (Ev13_ok N R) (Ev13_ok N _) (by kernel_rfl) (fun c => slices_Clone_byte_byte_ne_S N c.1) (slices_Clone_byte_byte_n1 N) (slices_Clone_byte_byte_n2 N)
noncomputable def opts_clone (o0 : Int × (List Int)) : Option (Int × (List Int)) :=
 Option.bind (slices_Clone_byte_byte N o0.2) fun v2 =>
 some ((o0.1, v2))
theorem opts_clone_S (o0 : Int × (List Int)) : (runK Tryd.prog (Ev14 N) 400 47 [(.pair (.int .u8) (.sl (.int .u8)))] [(.pair (.int .u8) (.sl (.int .u8)))] (o0, ())).run = opts_clone N o0 := by kernel_rfl
noncomputable def Ev15 : (R : Type) → Env R := Env.addFn (Ev14 N) 47 (fun R => fnK [(.pair (.int .u8) (.sl (.int .u8)))] [(.pair (.int .u8) (.sl (.int .u8)))] (fun c => opts_clone N c.1))
theorem Ev15_ok (R : Type) : EnvOK Tryd.prog (Ev15 N R) := EnvOK.addFn hmx (Ev14_ok N R) (Ev14_ok N _) (by kernel_rfl) (fun c => opts_clone_S N c.1)
noncomputable def opts_Find (l0 : List (Int × (List Int))) (kind1 : Int) : Option ((Int × (List Int)) × Bool) :=
 Option.bind (opts_Find_1_slices_IndexFunc_api_Option_api_Option_L2_R N ((l0, ((((List.length l0) : Nat) : Int), ((0 : Int), ()))), (kind1, (((0 : Int), ([] : List Int)), ())))) fun v3 =>
 Sum.elim
  (fun (v4 : ((Int × Unit) × (Int × ((Int × (List Int)) × Unit)))) =>
  bif (decide (v4.1.1 < (0 : Int))) then
   some ((((0 : Int), ([] : List Int)), false))
  else
   Option.bind (getI l0 v4.1.1) fun (v5 : (Int × (List Int))) =>
   Option.bind (opts_clone N (v5.1, v5.2)) fun v6 =>
   some (((v6.1, v6.2), true)))
  (fun (v4 : (Unit × (Int × ((Int × (List Int)) × Unit)))) =>
  some ((((0 : Int), ([] : List Int)), false))) v3
theorem opts_Find_S (l0 : List (Int × (List Int))) (kind1 : Int) : (runK Tryd.prog (Ev15 N) 400 25 [(.sl (.pair (.int .u8) (.sl (.int .u8)))), (.int .u8)] [(.pair (.int .u8) (.sl (.int .u8))), .bool] (l0, kind1, ())).run = opts_Find N l0 kind1 := by kernel_rfl
noncomputable def Ev16 : (R : Type) → Env R := Env.addFn (Ev15 N) 25 (fun R => fnK [(.sl (.pair (.int .u8) (.sl (.int .u8)))), (.int .u8)] [(.pair (.int .u8) (.sl (.int .u8))), .bool] (fun c => opts_Find N c.1 c.2.1))
theorem Ev16_ok (R : Type) : EnvOK Tryd.prog (Ev16 N R) := EnvOK.addFn hmx (Ev15_ok N R) (Ev15_ok N _) (by kernel_rfl) (fun c => opts_Find_S N c.1 c.2.1)
noncomputable def ipcpo_laid (a0 : Int) : Option (List Int) :=
 Option.bind (octs_Put N (IntKind.wrap .u64 a0) (4 : Int) false) fun v2 =>
 some (v2.1)
theorem ipcpo_laid_S (a0 : Int) : (runK Tryd.prog (Ev16 N) 400 40 [(.int .u32)] [(.sl (.int .u8))] (a0, ())).run = ipcpo_laid N a0 := by kernel_rfl
noncomputable def Ev17 : (R : Type) → Env R := Env.addFn (Ev16 N) 40 (fun R => fnK [(.int .u32)] [(.sl (.int .u8))] (fun c => ipcpo_laid N c.1))
theorem Ev17_ok (R : Type) : EnvOK Tryd.prog (Ev17 N R) := EnvOK.addFn hmx (Ev16_ok N R) (Ev16_ok N _) (by kernel_rfl) (fun c => ipcpo_laid_S N c.1)
noncomputable def ipcpo_option (kind0 : Int) (a1 : Int) : Option (Int × (List Int)) :=
 Option.bind (ipcpo_laid N a1) fun v3 =>
 some ((kind0, v3))
theorem ipcpo_option_S (kind0 : Int) (a1 : Int) : (runK Tryd.prog (Ev17 N) 400 29 [(.int .u8), (.int .u32)] [(.pair (.int .u8) (.sl (.int .u8)))] (kind0, a1, ())).run = ipcpo_option N kind0 a1 := by kernel_rfl
noncomputable def Ev18 : (R : Type) → Env R := Env.addFn (Ev17 N) 29 (fun R => fnK [(.int .u8), (.int .u32)] [(.pair (.int .u8) (.sl (.int .u8)))] (fun c => ipcpo_option N c.1 c.2.1))
theorem Ev18_ok (R : Type) : EnvOK Tryd.prog (Ev18 N R) := EnvOK.addFn hmx (Ev17_ok N R) (Ev17_ok N _) (by kernel_rfl) (fun c => ipcpo_option_S N c.1 c.2.1)
noncomputable def Ev19 : (R : Type) → Env R := Env.addMv (Ev18 N) [(15, 1), (15, 3)]
theorem Ev19_ok (R : Type) : EnvOK Tryd.prog (Ev19 N R) := EnvOK.addMv (Ev18_ok N R) [(15, 1), (15, 3)]
noncomputable def Ev20 : (R : Type) → Env R := Env.addBx (Ev19 N) [(15, 0)]
theorem Ev20_ok (R : Type) : EnvOK Tryd.prog (Ev20 N R) := EnvOK.addBx (Ev19_ok N R) [(15, 0)]
noncomputable def ipcpo_Options (s0 : Bool × (Int × (Int × (Int × (Bool))))) : Option (List (Int × (List Int))) :=
 Option.bind (ipcpo_option N (3 : Int) s0.2.1) fun v2 =>
 Option.bind (bif (!s0.1) then
   some ((cond true s0.2.2.2.2 false))
  else
   some (false)) fun (v3 : Bool) =>
 bif v3 then
  Option.bind (ipcpo_option N (129 : Int) s0.2.2.2.1) fun v4 =>
  some ((([(v2.1, v2.2)] : List ((Int × (List Int)))) ++ ([(v4.1, v4.2)] : List ((Int × (List Int))))))
 else
  some (([(v2.1, v2.2)] : List ((Int × (List Int)))))
theorem ipcpo_Options_S (s0 : Bool × (Int × (Int × (Int × (Bool))))) : (runK Tryd.prog (Ev20 N) 400 15 [(.pair .bool (.pair (.int .u32) (.pair (.int .u32) (.pair (.int .u32) .bool))))] [(.sl (.pair (.int .u8) (.sl (.int .u8))))] (s0, ())).run = ipcpo_Options N s0 := by kernel_rfl
noncomputable def Ev21 : (R : Type) → Env R := Env.addFn (Ev20 N) 15 (fun R => fnK [(.pair .bool (.pair (.int .u32) (.pair (.int .u32) (.pair (.int .u32) .bool))))] [(.sl (.pair (.int .u8) (.sl (.int .u8))))] (fun c => ipcpo_Options N c.1))
theorem Ev21_ok (R : Type) : EnvOK Tryd.prog (Ev21 N R) := EnvOK.addFn hmx (Ev20_ok N R) (Ev20_ok N _) (by kernel_rfl) (fun c => ipcpo_Options_S N c.1)
noncomputable def Ev22 : (R : Type) → Env R := Env.addFn (Ev21 N) 36 (fun R => fstK N)
theorem Ev22_ok (R : Type) : EnvOK Tryd.prog (Ev22 N R) := EnvOK.addExt (Ev21_ok N R) (fst_ok N)
noncomputable def ipcpo_Naked (s0 : Bool × (Int × (Int × (Int × (Bool))))) (l1 : List (Int × (List Int))) : Option (Bool × (Int × (Int × (Int × (Bool))))) :=
 bif s0.1 then
  some ((s0.1, (s0.2.1, (s0.2.2.1, (s0.2.2.2.1, s0.2.2.2.2)))))
 else
  Option.bind (ipcpo_first N l1 (3 : Int)) fun v3 =>
  bif (!(decide (v3 = (0 : Int)))) then
   Option.bind (ipcpo_first N l1 (129 : Int)) fun v4 =>
   Option.bind (bif s0.2.2.2.2 then
     some ((cond true (!(decide (v4 = (0 : Int)))) false))
    else
     some (false)) fun (v5 : Bool) =>
   bif v5 then
    some ((s0.1, (v3, (s0.2.2.1, (v4, s0.2.2.2.2)))))
   else
    some ((s0.1, (v3, (s0.2.2.1, (s0.2.2.2.1, s0.2.2.2.2)))))
  else
   Option.bind (ipcpo_first N l1 (129 : Int)) fun v4 =>
   Option.bind (bif s0.2.2.2.2 then
     some ((cond true (!(decide (v4 = (0 : Int)))) false))
    else
     some (false)) fun (v5 : Bool) =>
   bif v5 then
    some ((s0.1, (s0.2.1, (s0.2.2.1, (v4, s0.2.2.2.2)))))
   else
    some ((s0.1, (s0.2.1, (s0.2.2.1, (s0.2.2.2.1, s0.2.2.2.2)))))
theorem ipcpo_Naked_S (s0 : Bool × (Int × (Int × (Int × (Bool))))) (l1 : List (Int × (List Int))) : (runK Tryd.prog (Ev22 N) 400 17 [(.pair .bool (.pair (.int .u32) (.pair (.int .u32) (.pair (.int .u32) .bool)))), (.sl (.pair (.int .u8) (.sl (.int .u8))))] [(.pair .bool (.pair (.int .u32) (.pair (.int .u32) (.pair (.int .u32) .bool))))] (s0, l1, ())).run = ipcpo_Naked N s0 l1 := by kernel_rfl
noncomputable def Ev23 : (R : Type) → Env R := Env.addFn (Ev22 N) 17 (fun R => fnK [(.pair .bool (.pair (.int .u32) (.pair (.int .u32) (.pair (.int .u32) .bool)))), (.sl (.pair (.int .u8) (.sl (.int .u8))))] [(.pair .bool (.pair (.int .u32) (.pair (.int .u32) (.pair (.int .u32) .bool))))] (fun c => ipcpo_Naked N c.1 c.2.1))
theorem Ev23_ok (R : Type) : EnvOK Tryd.prog (Ev23 N R) := EnvOK.addFn hmx (Ev22_ok N R) (Ev22_ok N _) (by kernel_rfl) (fun c => ipcpo_Naked_S N c.1 c.2.1)
noncomputable def ipcpo_Rejected (s0 : Bool × (Int × (Int × (Int × (Bool))))) (l1 : List (Int × (List Int))) : Option ((Bool × (Int × (Int × (Int × (Bool))))) × Bool) :=
 Option.bind (opts_Find N l1 (129 : Int)) fun v3 =>
 Option.bind (opts_Find N l1 (3 : Int)) fun v4 =>
 Option.bind (bif v3.2 then
   some ((cond true (!s0.1) false))
  else
   some (false)) fun (v5 : Bool) =>
 bif v5 then
  some (((s0.1, (s0.2.1, (s0.2.2.1, (s0.2.2.2.1, false)))), (!v4.2)))
 else
  some (((s0.1, (s0.2.1, (s0.2.2.1, (s0.2.2.2.1, s0.2.2.2.2)))), (!v4.2)))
theorem ipcpo_Rejected_S (s0 : Bool × (Int × (Int × (Int × (Bool))))) (l1 : List (Int × (List Int))) : (runK Tryd.prog (Ev23 N) 400 12 [(.pair .bool (.pair (.int .u32) (.pair (.int .u32) (.pair (.int .u32) .bool)))), (.sl (.pair (.int .u8) (.sl (.int .u8))))] [(.pair .bool (.pair (.int .u32) (.pair (.int .u32) (.pair (.int .u32) .bool)))), .bool] (s0, l1, ())).run = ipcpo_Rejected N s0 l1 := by kernel_rfl
noncomputable def Ev24 : (R : Type) → Env R := Env.addFn (Ev23 N) 12 (fun R => fnK [(.pair .bool (.pair (.int .u32) (.pair (.int .u32) (.pair (.int .u32) .bool)))), (.sl (.pair (.int .u8) (.sl (.int .u8))))] [(.pair .bool (.pair (.int .u32) (.pair (.int .u32) (.pair (.int .u32) .bool)))), .bool] (fun c => ipcpo_Rejected N c.1 c.2.1))
theorem Ev24_ok (R : Type) : EnvOK Tryd.prog (Ev24 N R) := EnvOK.addFn hmx (Ev23_ok N R) (Ev23_ok N _) (by kernel_rfl) (fun c => ipcpo_Rejected_S N c.1 c.2.1)
noncomputable def ref01_Big_L3_I : LI := ⟨24, 0, [], ⟨[(0, .ty (.int .u64)), (5, .lit (.own 0)), (6, .ty (.int .i64))], [.own (.int .u8) 5]⟩, [(.exit 0, ⟨[(5, .lit (.own 0))], [.own (.int .u8) 5]⟩)]⟩
noncomputable def ref01_Big_L3 (N : Nat) (X : ((Int × (Int × Unit)) × ((List Int) × Unit)) → Option ((Unit × ((List Int) × Unit)))) (n0 : Int) (i6 : Int) (h0 : List (Int)) : Option ((Unit × ((List Int) × Unit))) :=
 bif (decide ((0 : Int) ≤ i6)) then
  bif (decide ((0 : Int) ≤ i6 ∧ i6 < (((List.length h0) : Nat) : Int))) then
   Option.bind (h0[Int.toNat i6]?) fun (v5 : Int) =>
   (X (((IntKind.wrap .u64 (@Int.tdiv n0 (256 : Int))), ((IntKind.wrap .i64 (i6 - 1)), ())), ((@List.set Int h0 (Int.toNat i6) (IntKind.wrap .u8 (@Int.tmod n0 (256 : Int)))), ())))
  else
   none
 else
  some (((), (h0, ())))
noncomputable def ref01_Big_L3_R (c : ((Int × (Int × Unit)) × ((List Int) × Unit))) : Option ((Unit × ((List Int) × Unit))) := gl (fun X c => ref01_Big_L3 N X c.1.1 c.1.2.1 c.2.1) N c
theorem ref01_Big_L3_S (X : ((Int × (Int × Unit)) × ((List Int) × Unit)) → Option ((Unit × ((List Int) × Unit)))) (n0 : Int) (i6 : Int) (h0 : List (Int)) : (roundK Tryd.prog (Ev24 N) 400 [49] ref01_Big_L3_I (loopAt Tryd.prog [49] 3) X ((n0, i6, ()), (h0, ()))).run = ref01_Big_L3 N X n0 i6 h0 := by kernel_rfl
noncomputable def Ev25 : (R : Type) → Env R := Env.addLp (Ev24 N) [49] 0 3 (fun R => lpK Tryd.prog ref01_Big_L3_I (fun X c => ref01_Big_L3 N X c.1.1 c.1.2.1 c.2.1) N)
theorem Ev25_ok (R : Type) : EnvOK Tryd.prog (Ev25 N R) := EnvOK.addLp (Ev24_ok N R) (by kernel_rfl) (lpK_ok (li := ref01_Big_L3_I) (G := fun X c => ref01_Big_L3 N X c.1.1 c.1.2.1 c.2.1) hmx (Ev24_ok N _) (by kernel_rfl) loopAt_sub (fun (X : CT ref01_Big_L3_I.sh → Option (OT ref01_Big_L3_I.outs)) (c : CT ref01_Big_L3_I.sh) => ref01_Big_L3_S N X c.1.1 c.1.2.1 c.2.1) N)
noncomputable def ref01_Big (n0 : Int) (width1 : Int) : Option (List Int) :=
 bif ((decide ((0 : Int) ≤ width1 ∧ width1 ≤ width1)) && (roomB (Int.toNat width1) 1)) then
  Option.bind (ref01_Big_L3_R N ((n0, ((IntKind.wrap .i64 (width1 - 1)), ())), ((@List.replicate Int (Int.toNat width1) (0 : Int)), ()))) fun v3 =>
  some (v3.2.1)
 else
  none
theorem ref01_Big_S (n0 : Int) (width1 : Int) : (runK Tryd.prog (Ev25 N) 400 49 [(.int .u64), (.int .i64)] [(.sl (.int .u8))] (n0, width1, ())).run = ref01_Big N n0 width1 := by kernel_rfl
noncomputable def Ev26 : (R : Type) → Env R := Env.addFn (Ev25 N) 49 (fun R => fnK [(.int .u64), (.int .i64)] [(.sl (.int .u8))] (fun c => ref01_Big N c.1 c.2.1))
theorem Ev26_ok (R : Type) : EnvOK Tryd.prog (Ev26 N R) := EnvOK.addFn hmx (Ev25_ok N R) (Ev25_ok N _) (by kernel_rfl) (fun c => ref01_Big_S N c.1 c.2.1)
noncomputable def ref01_Num_L3_I : LI := ⟨20, 0, [], ⟨[(0, .ty (.sl (.int .u8))), (3, .ty (.int .u64)), (4, .ty (.int .i64))], []⟩, [(.exit 0, ⟨[(3, .ty (.int .u64))], []⟩)]⟩
noncomputable def ref01_Num_L3 (N : Nat) (X : (((List Int) × (Int × (Int × Unit))) × Unit) → Option (((Int × Unit) × Unit))) (b0 : List (Int)) (n3 : Int) (i4 : Int) : Option (((Int × Unit) × Unit)) :=
 bif (decide (i4 < (((List.length b0) : Nat) : Int))) then
  Option.bind (getI b0 i4) fun (v5 : Int) =>
  (X ((b0, ((IntKind.wrap .u64 ((IntKind.wrap .u64 (n3 * (256 : Int))) + (IntKind.wrap .u64 v5))), ((IntKind.wrap .i64 (i4 + 1)), ()))), ()))
 else
  some (((n3, ()), ()))
noncomputable def ref01_Num_L3_R (c : (((List Int) × (Int × (Int × Unit))) × Unit)) : Option (((Int × Unit) × Unit)) := gl (fun X c => ref01_Num_L3 N X c.1.1 c.1.2.1 c.1.2.2.1) N c
theorem ref01_Num_L3_S (X : (((List Int) × (Int × (Int × Unit))) × Unit) → Option (((Int × Unit) × Unit))) (b0 : List (Int)) (n3 : Int) (i4 : Int) : (roundK Tryd.prog (Ev26 N) 400 [32] ref01_Num_L3_I (loopAt Tryd.prog [32] 3) X ((b0, n3, i4, ()), ())).run = ref01_Num_L3 N X b0 n3 i4 := by kernel_rfl
noncomputable def Ev27 : (R : Type) → Env R := Env.addLp (Ev26 N) [32] 0 3 (fun R => lpK Tryd.prog ref01_Num_L3_I (fun X c => ref01_Num_L3 N X c.1.1 c.1.2.1 c.1.2.2.1) N)
theorem Ev27_ok (R : Type) : EnvOK Tryd.prog (Ev27 N R) := EnvOK.addLp (Ev26_ok N R) (by kernel_rfl) (lpK_ok (li := ref01_Num_L3_I) (G := fun X c => ref01_Num_L3 N X c.1.1 c.1.2.1 c.1.2.2.1) hmx (Ev26_ok N _) (by kernel_rfl) loopAt_sub (fun (X : CT ref01_Num_L3_I.sh → Option (OT ref01_Num_L3_I.outs)) (c : CT ref01_Num_L3_I.sh) => ref01_Num_L3_S N X c.1.1 c.1.2.1 c.1.2.2.1) N)
noncomputable def ref01_Num (b0 : List (Int)) : Option Int :=
 Option.bind (ref01_Num_L3_R N ((b0, ((0 : Int), ((0 : Int), ()))), ())) fun v2 =>
 some (v2.1.1)
theorem ref01_Num_S (b0 : List (Int)) : (runK Tryd.prog (Ev27 N) 400 32 [(.sl (.int .u8))] [(.int .u64)] (b0, ())).run = ref01_Num N b0 := by kernel_rfl
noncomputable def Ev28 : (R : Type) → Env R := Env.addFn (Ev27 N) 32 (fun R => fnK [(.sl (.int .u8))] [(.int .u64)] (fun c => ref01_Num N c.1))
theorem Ev28_ok (R : Type) : EnvOK Tryd.prog (Ev28 N R) := EnvOK.addFn hmx (Ev27_ok N R) (Ev27_ok N _) (by kernel_rfl) (fun c => ref01_Num_S N c.1)
noncomputable def ref21_Find_L2_I : LI := ⟨25, 0, [], ⟨[(0, .ty (.sl (.pair (.int .u8) (.sl (.int .u8))))), (1, .ty (.int .u8)), (4, .lit (.box 0 0)), (6, .ty (.int .i64))], [.box 59 (.pair (.int .u8) (.sl (.int .u8)))]⟩, [(.ret, ⟨[(4, .lit (.box 0 0)), (5, .ty .bool)], [.box 59 (.pair (.int .u8) (.sl (.int .u8)))]⟩), (.exit 0, ⟨[(4, .lit (.box 0 0))], [.box 59 (.pair (.int .u8) (.sl (.int .u8)))]⟩)]⟩
noncomputable def ref21_Find_L2 (N : Nat) (X : (((List (Int × (List Int))) × (Int × (Int × Unit))) × ((Int × (List Int)) × Unit)) → Option ((((Bool × Unit) × ((Int × (List Int)) × Unit)) ⊕ (Unit × ((Int × (List Int)) × Unit))))) (l0 : List (Int × (List Int))) (kind1 : Int) (i6 : Int) (h0 : Int × (List Int)) : Option ((((Bool × Unit) × ((Int × (List Int)) × Unit)) ⊕ (Unit × ((Int × (List Int)) × Unit)))) :=
 bif (decide (i6 < (((List.length l0) : Nat) : Int))) then
  Option.bind (getI l0 i6) fun (v6 : (Int × (List Int))) =>
  bif (decide (v6.1 = kind1)) then
   Option.bind (getI l0 i6) fun (v7 : (Int × (List Int))) =>
   some ((.inl ((true, ()), ((v7.1, v7.2), ()))))
  else
   (X ((l0, (kind1, ((IntKind.wrap .i64 (i6 + 1)), ()))), ((h0.1, h0.2), ())))
 else
  some ((.inr ((), ((h0.1, h0.2), ()))))
noncomputable def ref21_Find_L2_R (c : (((List (Int × (List Int))) × (Int × (Int × Unit))) × ((Int × (List Int)) × Unit))) : Option ((((Bool × Unit) × ((Int × (List Int)) × Unit)) ⊕ (Unit × ((Int × (List Int)) × Unit)))) := gl (fun X c => ref21_Find_L2 N X c.1.1 c.1.2.1 c.1.2.2.1 c.2.1) N c
theorem ref21_Find_L2_S (X : (((List (Int × (List Int))) × (Int × (Int × Unit))) × ((Int × (List Int)) × Unit)) → Option ((((Bool × Unit) × ((Int × (List Int)) × Unit)) ⊕ (Unit × ((Int × (List Int)) × Unit))))) (l0 : List (Int × (List Int))) (kind1 : Int) (i6 : Int) (h0 : Int × (List Int)) : (roundK Tryd.prog (Ev28 N) 400 [30] ref21_Find_L2_I (loopAt Tryd.prog [30] 2) X ((l0, kind1, i6, ()), (h0, ()))).run = ref21_Find_L2 N X l0 kind1 i6 h0 := by kernel_rfl
noncomputable def Ev29 : (R : Type) → Env R := Env.addLp (Ev28 N) [30] 0 2 (fun R => lpK Tryd.prog ref21_Find_L2_I (fun X c => ref21_Find_L2 N X c.1.1 c.1.2.1 c.1.2.2.1 c.2.1) N)
theorem Ev29_ok (R : Type) : EnvOK Tryd.prog (Ev29 N R) := EnvOK.addLp (Ev28_ok N R) (by kernel_rfl) (lpK_ok (li := ref21_Find_L2_I) (G := fun X c => ref21_Find_L2 N X c.1.1 c.1.2.1 c.1.2.2.1 c.2.1) hmx (Ev28_ok N _) (by kernel_rfl) loopAt_sub (fun (X : CT ref21_Find_L2_I.sh → Option (OT ref21_Find_L2_I.outs)) (c : CT ref21_Find_L2_I.sh) => ref21_Find_L2_S N X c.1.1 c.1.2.1 c.1.2.2.1 c.2.1) N)
noncomputable def ref21_Find (l0 : List (Int × (List Int))) (kind1 : Int) : Option ((Int × (List Int)) × Bool) :=
 Option.bind (ref21_Find_L2_R N ((l0, (kind1, ((0 : Int), ()))), (((0 : Int), ([] : List Int)), ()))) fun v3 =>
 Sum.elim
  (fun (v4 : ((Bool × Unit) × ((Int × (List Int)) × Unit))) =>
  some (((v4.2.1.1, v4.2.1.2), v4.1.1)))
  (fun (v4 : (Unit × ((Int × (List Int)) × Unit))) =>
  some ((((0 : Int), ([] : List Int)), false))) v3
theorem ref21_Find_S (l0 : List (Int × (List Int))) (kind1 : Int) : (runK Tryd.prog (Ev29 N) 400 30 [(.sl (.pair (.int .u8) (.sl (.int .u8)))), (.int .u8)] [(.pair (.int .u8) (.sl (.int .u8))), .bool] (l0, kind1, ())).run = ref21_Find N l0 kind1 := by kernel_rfl
noncomputable def Ev30 : (R : Type) → Env R := Env.addFn (Ev29 N) 30 (fun R => fnK [(.sl (.pair (.int .u8) (.sl (.int .u8)))), (.int .u8)] [(.pair (.int .u8) (.sl (.int .u8))), .bool] (fun c => ref21_Find N c.1 c.2.1))
theorem Ev30_ok (R : Type) : EnvOK Tryd.prog (Ev30 N R) := EnvOK.addFn hmx (Ev29_ok N R) (Ev29_ok N _) (by kernel_rfl) (fun c => ref21_Find_S N c.1 c.2.1)
noncomputable def ref26_option (kind0 : Int) (a1 : Int) : Option (Int × (List Int)) :=
 Option.bind (ref01_Big N (IntKind.wrap .u64 a1) (4 : Int)) fun v3 =>
 some ((kind0, v3))
theorem ref26_option_S (kind0 : Int) (a1 : Int) : (runK Tryd.prog (Ev30 N) 400 33 [(.int .u8), (.int .u32)] [(.pair (.int .u8) (.sl (.int .u8)))] (kind0, a1, ())).run = ref26_option N kind0 a1 := by kernel_rfl
noncomputable def Ev31 : (R : Type) → Env R := Env.addFn (Ev30 N) 33 (fun R => fnK [(.int .u8), (.int .u32)] [(.pair (.int .u8) (.sl (.int .u8)))] (fun c => ref26_option N c.1 c.2.1))
theorem Ev31_ok (R : Type) : EnvOK Tryd.prog (Ev31 N R) := EnvOK.addFn hmx (Ev30_ok N R) (Ev30_ok N _) (by kernel_rfl) (fun c => ref26_option_S N c.1 c.2.1)
noncomputable def Ev32 : (R : Type) → Env R := Env.addMv (Ev31 N) [(16, 1), (16, 3)]
theorem Ev32_ok (R : Type) : EnvOK Tryd.prog (Ev32 N R) := EnvOK.addMv (Ev31_ok N R) [(16, 1), (16, 3)]
noncomputable def Ev33 : (R : Type) → Env R := Env.addBx (Ev32 N) [(16, 0)]
theorem Ev33_ok (R : Type) : EnvOK Tryd.prog (Ev33 N R) := EnvOK.addBx (Ev32_ok N R) [(16, 0)]
noncomputable def ref26_Options (s0 : Bool × (Int × (Int × (Int × (Bool))))) : Option (List (Int × (List Int))) :=
 Option.bind (ref26_option N (3 : Int) s0.2.1) fun v2 =>
 Option.bind (bif (!s0.1) then
   some ((cond true s0.2.2.2.2 false))
  else
   some (false)) fun (v3 : Bool) =>
 bif v3 then
  Option.bind (ref26_option N (129 : Int) s0.2.2.2.1) fun v4 =>
  some ((([(v2.1, v2.2)] : List ((Int × (List Int)))) ++ ([(v4.1, v4.2)] : List ((Int × (List Int))))))
 else
  some (([(v2.1, v2.2)] : List ((Int × (List Int)))))
theorem ref26_Options_S (s0 : Bool × (Int × (Int × (Int × (Bool))))) : (runK Tryd.prog (Ev33 N) 400 16 [(.pair .bool (.pair (.int .u32) (.pair (.int .u32) (.pair (.int .u32) .bool))))] [(.sl (.pair (.int .u8) (.sl (.int .u8))))] (s0, ())).run = ref26_Options N s0 := by kernel_rfl
noncomputable def Ev34 : (R : Type) → Env R := Env.addFn (Ev33 N) 16 (fun R => fnK [(.pair .bool (.pair (.int .u32) (.pair (.int .u32) (.pair (.int .u32) .bool))))] [(.sl (.pair (.int .u8) (.sl (.int .u8))))] (fun c => ref26_Options N c.1))
theorem Ev34_ok (R : Type) : EnvOK Tryd.prog (Ev34 N R) := EnvOK.addFn hmx (Ev33_ok N R) (Ev33_ok N _) (by kernel_rfl) (fun c => ref26_Options_S N c.1)
noncomputable def Ev35 : (R : Type) → Env R := Env.addBx (Ev34 N) [(31, 0)]
theorem Ev35_ok (R : Type) : EnvOK Tryd.prog (Ev35 N R) := EnvOK.addBx (Ev34_ok N R) [(31, 0)]
noncomputable def ref26_rejects (s0 : Bool × (Int × (Int × (Int × (Bool))))) (o1 : Int × (List Int)) (met2 : Bool) : Option Bool :=
 bif met2 then
  some (true)
 else
  Option.bind (some ((cond false true (!(decide ((((List.length o1.2) : Nat) : Int) = (4 : Int))))))) fun (v4 : Bool) =>
  bif v4 then
   some (true)
  else
   bif s0.1 then
    Option.bind (bif (!(decide (o1.1 = (3 : Int)))) then
      bif (!(decide (o1.1 = (129 : Int)))) then
       some ((cond true true false))
      else
       some ((cond true (cond false true (decide (s0.2.2.2.1 = (0 : Int)))) false))
     else
      some (false)) fun (v5 : Bool) =>
    some (v5)
   else
    bif (!(decide (o1.1 = (3 : Int)))) then
     some (true)
    else
     Option.bind (ref01_Num N o1.2) fun v5 =>
     Option.bind (some ((cond false true (decide (v5 = (0 : Int)))))) fun (v6 : Bool) =>
     some (v6)
theorem ref26_rejects_S (s0 : Bool × (Int × (Int × (Int × (Bool))))) (o1 : Int × (List Int)) (met2 : Bool) : (runK Tryd.prog (Ev35 N) 400 31 [(.pair .bool (.pair (.int .u32) (.pair (.int .u32) (.pair (.int .u32) .bool)))), (.pair (.int .u8) (.sl (.int .u8))), .bool] [.bool] (s0, o1, met2, ())).run = ref26_rejects N s0 o1 met2 := by kernel_rfl
noncomputable def Ev36 : (R : Type) → Env R := Env.addFn (Ev35 N) 31 (fun R => fnK [(.pair .bool (.pair (.int .u32) (.pair (.int .u32) (.pair (.int .u32) .bool)))), (.pair (.int .u8) (.sl (.int .u8))), .bool] [.bool] (fun c => ref26_rejects N c.1 c.2.1 c.2.2.1))
theorem Ev36_ok (R : Type) : EnvOK Tryd.prog (Ev36 N R) := EnvOK.addFn hmx (Ev35_ok N R) (Ev35_ok N _) (by kernel_rfl) (fun c => ref26_rejects_S N c.1 c.2.1 c.2.2.1)
noncomputable def Ev37 : (R : Type) → Env R := Env.addMv (Ev36 N) [(11, 7), (11, 12)]
theorem Ev37_ok (R : Type) : EnvOK Tryd.prog (Ev37 N R) := EnvOK.addMv (Ev36_ok N R) [(11, 7), (11, 12)]
noncomputable def Ev38 : (R : Type) → Env R := Env.addBx (Ev37 N) [(11, 0)]
theorem Ev38_ok (R : Type) : EnvOK Tryd.prog (Ev38 N R) := EnvOK.addBx (Ev37_ok N R) [(11, 0)]
noncomputable def ref26_Judge_L3_I : LI := ⟨86, 0, [(6, 59), (7, 59)], ⟨[(1, .ty (.sl (.pair (.int .u8) (.sl (.int .u8))))), (2, .adr (.pair .bool (.pair (.int .u32) (.pair (.int .u32) (.pair (.int .u32) .bool))))), (6, .lit (.own 0)), (7, .lit (.own 1)), (8, .ty (.int .i64))], [.own (.pair (.int .u8) (.sl (.int .u8))) 59, .own (.pair (.int .u8) (.sl (.int .u8))) 59]⟩, [(.exit 0, ⟨[(1, .ty (.sl (.pair (.int .u8) (.sl (.int .u8))))), (6, .lit (.own 0)), (7, .lit (.own 1))], [.own (.pair (.int .u8) (.sl (.int .u8))) 59, .own (.pair (.int .u8) (.sl (.int .u8))) 59]⟩)]⟩
noncomputable def ref26_Judge_L3 (X : (((List (Int × (List Int))) × ((Bool × (Int × (Int × (Int × (Bool))))) × (Int × Unit))) × ((List (Int × (List Int))) × ((List (Int × (List Int))) × Unit))) → Option ((((List (Int × (List Int))) × Unit) × ((List (Int × (List Int))) × ((List (Int × (List Int))) × Unit))))) (l1 : List (Int × (List Int))) (s2 : Bool × (Int × (Int × (Int × (Bool))))) (i8 : Int) (h0 : List (Int × (List Int))) (h1 : List (Int × (List Int))) : Option ((((List (Int × (List Int))) × Unit) × ((List (Int × (List Int))) × ((List (Int × (List Int))) × Unit)))) :=
 bif (decide (i8 < (((List.length l1) : Nat) : Int))) then
  Option.bind (takeI l1 i8) fun (v7 : (List (Int × (List Int)))) =>
  Option.bind (getI l1 i8) fun (v8 : (Int × (List Int))) =>
  Option.bind (ref21_Find N v7 v8.1) fun v9 =>
  Option.bind (getI l1 i8) fun (v10 : (Int × (List Int))) =>
  Option.bind (ref26_rejects N (s2.1, (s2.2.1, (s2.2.2.1, (s2.2.2.2.1, s2.2.2.2.2)))) (v10.1, v10.2) v9.2) fun v11 =>
  bif v11 then
   Option.bind (getI l1 i8) fun (v12 : (Int × (List Int))) =>
   bif (roomB ((List.length h0) + (List.length ([(v12.1, v12.2)] : List ((Int × (List Int)))))) 32) then
    (X ((l1, ((s2.1, (s2.2.1, (s2.2.2.1, (s2.2.2.2.1, s2.2.2.2.2)))), ((IntKind.wrap .i64 (i8 + 1)), ()))), ((h0 ++ ([(v12.1, v12.2)] : List ((Int × (List Int))))), (h1, ()))))
   else
    none
  else
   Option.bind (getI l1 i8) fun (v12 : (Int × (List Int))) =>
   bif (decide (v12.1 = (129 : Int))) then
    bif s2.1 then
     Option.bind (getI l1 i8) fun (v13 : (Int × (List Int))) =>
     Option.bind (ref01_Num N v13.2) fun v14 =>
     Option.bind (some ((cond true (!(decide ((IntKind.wrap .u32 v14) = s2.2.2.2.1))) false))) fun (v15 : Bool) =>
     bif v15 then
      Option.bind (getI l1 i8) fun (v16 : (Int × (List Int))) =>
      Option.bind (ref26_option N v16.1 s2.2.2.2.1) fun v17 =>
      bif (roomB ((List.length h1) + (List.length ([(v17.1, v17.2)] : List ((Int × (List Int)))))) 32) then
       (X ((l1, ((s2.1, (s2.2.1, (s2.2.2.1, (s2.2.2.2.1, s2.2.2.2.2)))), ((IntKind.wrap .i64 (i8 + 1)), ()))), (h0, ((h1 ++ ([(v17.1, v17.2)] : List ((Int × (List Int))))), ()))))
      else
       none
     else
      (X ((l1, ((s2.1, (s2.2.1, (s2.2.2.1, (s2.2.2.2.1, s2.2.2.2.2)))), ((IntKind.wrap .i64 (i8 + 1)), ()))), (h0, (h1, ()))))
    else
     (X ((l1, ((s2.1, (s2.2.1, (s2.2.2.1, (s2.2.2.2.1, s2.2.2.2.2)))), ((IntKind.wrap .i64 (i8 + 1)), ()))), (h0, (h1, ()))))
   else
    bif s2.1 then
     Option.bind (getI l1 i8) fun (v13 : (Int × (List Int))) =>
     Option.bind (ref01_Num N v13.2) fun v14 =>
     Option.bind (some ((cond true (!(decide ((IntKind.wrap .u32 v14) = s2.2.2.1))) false))) fun (v15 : Bool) =>
     bif v15 then
      Option.bind (getI l1 i8) fun (v16 : (Int × (List Int))) =>
      Option.bind (ref26_option N v16.1 s2.2.2.1) fun v17 =>
      bif (roomB ((List.length h1) + (List.length ([(v17.1, v17.2)] : List ((Int × (List Int)))))) 32) then
       (X ((l1, ((s2.1, (s2.2.1, (s2.2.2.1, (s2.2.2.2.1, s2.2.2.2.2)))), ((IntKind.wrap .i64 (i8 + 1)), ()))), (h0, ((h1 ++ ([(v17.1, v17.2)] : List ((Int × (List Int))))), ()))))
      else
       none
     else
      (X ((l1, ((s2.1, (s2.2.1, (s2.2.2.1, (s2.2.2.2.1, s2.2.2.2.2)))), ((IntKind.wrap .i64 (i8 + 1)), ()))), (h0, (h1, ()))))
    else
     (X ((l1, ((s2.1, (s2.2.1, (s2.2.2.1, (s2.2.2.2.1, s2.2.2.2.2)))), ((IntKind.wrap .i64 (i8 + 1)), ()))), (h0, (h1, ()))))
 else
  some (((l1, ()), (h0, (h1, ()))))
noncomputable def ref26_Judge_L3_R (c : (((List (Int × (List Int))) × ((Bool × (Int × (Int × (Int × (Bool))))) × (Int × Unit))) × ((List (Int × (List Int))) × ((List (Int × (List Int))) × Unit)))) : Option ((((List (Int × (List Int))) × Unit) × ((List (Int × (List Int))) × ((List (Int × (List Int))) × Unit)))) := gl (fun X c => ref26_Judge_L3 N X c.1.1 c.1.2.1 c.1.2.2.1 c.2.1 c.2.2.1) N c
theorem ref26_Judge_L3_S (X : (((List (Int × (List Int))) × ((Bool × (Int × (Int × (Int × (Bool))))) × (Int × Unit))) × ((List (Int × (List Int))) × ((List (Int × (List Int))) × Unit))) → Option ((((List (Int × (List Int))) × Unit) × ((List (Int × (List Int))) × ((List (Int × (List Int))) × Unit))))) (l1 : List (Int × (List Int))) (s2 : Bool × (Int × (Int × (Int × (Bool))))) (i8 : Int) (h0 : List (Int × (List Int))) (h1 : List (Int × (List Int))) : (roundK Tryd.prog (Ev38 N) 400 [11] ref26_Judge_L3_I (loopAt Tryd.prog [11] 3) X ((l1, s2, i8, ()), (h0, h1, ()))).run = ref26_Judge_L3 N X l1 s2 i8 h0 h1 := by kernel_rfl
noncomputable def Ev39 : (R : Type) → Env R := Env.addLp (Ev38 N) [11] 0 3 (fun R => lpK Tryd.prog ref26_Judge_L3_I (fun X c => ref26_Judge_L3 N X c.1.1 c.1.2.1 c.1.2.2.1 c.2.1 c.2.2.1) N)
theorem Ev39_ok (R : Type) : EnvOK Tryd.prog (Ev39 N R) := EnvOK.addLp (Ev38_ok N R) (by kernel_rfl) (lpK_ok (li := ref26_Judge_L3_I) (G := fun X c => ref26_Judge_L3 N X c.1.1 c.1.2.1 c.1.2.2.1 c.2.1 c.2.2.1) hmx (Ev38_ok N _) (by kernel_rfl) loopAt_sub (fun (X : CT ref26_Judge_L3_I.sh → Option (OT ref26_Judge_L3_I.outs)) (c : CT ref26_Judge_L3_I.sh) => ref26_Judge_L3_S N X c.1.1 c.1.2.1 c.1.2.2.1 c.2.1 c.2.2.1) N)
noncomputable def ref26_Judge (s0 : Bool × (Int × (Int × (Int × (Bool))))) (l1 : List (Int × (List Int))) : Option (Int × List (Int × (List Int))) :=
 Option.bind (ref26_Judge_L3_R N ((l1, ((s0.1, (s0.2.1, (s0.2.2.1, (s0.2.2.2.1, s0.2.2.2.2)))), ((0 : Int), ()))), (([] : List ((Int × (List Int)))), (([] : List ((Int × (List Int)))), ())))) fun v3 =>
 bif (decide ((0 : Int) < (((List.length v3.2.1) : Nat) : Int))) then
  some (((4 : Int), v3.2.1))
 else
  bif (decide ((0 : Int) < (((List.length v3.2.2.1) : Nat) : Int))) then
   some (((3 : Int), v3.2.2.1))
  else
   some (((2 : Int), v3.1.1))
theorem ref26_Judge_S (s0 : Bool × (Int × (Int × (Int × (Bool))))) (l1 : List (Int × (List Int))) : (runK Tryd.prog (Ev39 N) 400 11 [(.pair .bool (.pair (.int .u32) (.pair (.int .u32) (.pair (.int .u32) .bool)))), (.sl (.pair (.int .u8) (.sl (.int .u8))))] [(.int .u8), (.sl (.pair (.int .u8) (.sl (.int .u8))))] (s0, l1, ())).run = ref26_Judge N s0 l1 := by kernel_rfl
noncomputable def Ev40 : (R : Type) → Env R := Env.addFn (Ev39 N) 11 (fun R => fnK [(.pair .bool (.pair (.int .u32) (.pair (.int .u32) (.pair (.int .u32) .bool)))), (.sl (.pair (.int .u8) (.sl (.int .u8))))] [(.int .u8), (.sl (.pair (.int .u8) (.sl (.int .u8))))] (fun c => ref26_Judge N c.1 c.2.1))
theorem Ev40_ok (R : Type) : EnvOK Tryd.prog (Ev40 N R) := EnvOK.addFn hmx (Ev39_ok N R) (Ev39_ok N _) (by kernel_rfl) (fun c => ref26_Judge_S N c.1 c.2.1)
noncomputable def ref26_told_L2_I : LI := ⟨44, 0, [], ⟨[(0, .ty (.sl (.pair (.int .u8) (.sl (.int .u8))))), (1, .ty (.int .u8)), (5, .ty (.int .i64))], []⟩, [(.ret, ⟨[(4, .ty (.int .u32))], []⟩), (.exit 0, ⟨[], []⟩)]⟩
noncomputable def ref26_told_L2 (X : (((List (Int × (List Int))) × (Int × (Int × Unit))) × Unit) → Option ((((Int × Unit) × Unit) ⊕ (Unit × Unit)))) (l0 : List (Int × (List Int))) (kind1 : Int) (i5 : Int) : Option ((((Int × Unit) × Unit) ⊕ (Unit × Unit))) :=
 bif (decide (i5 < (((List.length l0) : Nat) : Int))) then
  Option.bind (getI l0 i5) fun (v5 : (Int × (List Int))) =>
  bif (decide (v5.1 = kind1)) then
   Option.bind (getI l0 i5) fun (v6 : (Int × (List Int))) =>
   Option.bind (some ((cond true (decide ((((List.length v6.2) : Nat) : Int) = (4 : Int))) false))) fun (v7 : Bool) =>
   bif v7 then
    Option.bind (getI l0 i5) fun (v8 : (Int × (List Int))) =>
    Option.bind (ref01_Num N v8.2) fun v9 =>
    Option.bind (some ((cond true (!(decide (v9 = (0 : Int)))) false))) fun (v10 : Bool) =>
    bif v10 then
     Option.bind (getI l0 i5) fun (v11 : (Int × (List Int))) =>
     Option.bind (ref01_Num N v11.2) fun v12 =>
     some ((.inl (((IntKind.wrap .u32 v12), ()), ())))
    else
     (X ((l0, (kind1, ((IntKind.wrap .i64 (i5 + 1)), ()))), ()))
   else
    (X ((l0, (kind1, ((IntKind.wrap .i64 (i5 + 1)), ()))), ()))
  else
   (X ((l0, (kind1, ((IntKind.wrap .i64 (i5 + 1)), ()))), ()))
 else
  some ((.inr ((), ())))
noncomputable def ref26_told_L2_R (c : (((List (Int × (List Int))) × (Int × (Int × Unit))) × Unit)) : Option ((((Int × Unit) × Unit) ⊕ (Unit × Unit))) := gl (fun X c => ref26_told_L2 N X c.1.1 c.1.2.1 c.1.2.2.1) N c
theorem ref26_told_L2_S (X : (((List (Int × (List Int))) × (Int × (Int × Unit))) × Unit) → Option ((((Int × Unit) × Unit) ⊕ (Unit × Unit)))) (l0 : List (Int × (List Int))) (kind1 : Int) (i5 : Int) : (roundK Tryd.prog (Ev40 N) 400 [37] ref26_told_L2_I (loopAt Tryd.prog [37] 2) X ((l0, kind1, i5, ()), ())).run = ref26_told_L2 N X l0 kind1 i5 := by kernel_rfl
noncomputable def Ev41 : (R : Type) → Env R := Env.addLp (Ev40 N) [37] 0 2 (fun R => lpK Tryd.prog ref26_told_L2_I (fun X c => ref26_told_L2 N X c.1.1 c.1.2.1 c.1.2.2.1) N)
theorem Ev41_ok (R : Type) : EnvOK Tryd.prog (Ev41 N R) := EnvOK.addLp (Ev40_ok N R) (by kernel_rfl) (lpK_ok (li := ref26_told_L2_I) (G := fun X c => ref26_told_L2 N X c.1.1 c.1.2.1 c.1.2.2.1) hmx (Ev40_ok N _) (by kernel_rfl) loopAt_sub (fun (X : CT ref26_told_L2_I.sh → Option (OT ref26_told_L2_I.outs)) (c : CT ref26_told_L2_I.sh) => ref26_told_L2_S N X c.1.1 c.1.2.1 c.1.2.2.1) N)
noncomputable def ref26_told (l0 : List (Int × (List Int))) (kind1 : Int) : Option Int :=
 Option.bind (ref26_told_L2_R N ((l0, (kind1, ((0 : Int), ()))), ())) fun v3 =>
 Sum.elim
  (fun (v4 : ((Int × Unit) × Unit)) =>
  some (v4.1.1))
  (fun (v4 : (Unit × Unit)) =>
  some ((0 : Int))) v3
theorem ref26_told_S (l0 : List (Int × (List Int))) (kind1 : Int) : (runK Tryd.prog (Ev41 N) 400 37 [(.sl (.pair (.int .u8) (.sl (.int .u8)))), (.int .u8)] [(.int .u32)] (l0, kind1, ())).run = ref26_told N l0 kind1 := by kernel_rfl
noncomputable def Ev42 : (R : Type) → Env R := Env.addFn (Ev41 N) 37 (fun R => fnK [(.sl (.pair (.int .u8) (.sl (.int .u8)))), (.int .u8)] [(.int .u32)] (fun c => ref26_told N c.1 c.2.1))
theorem Ev42_ok (R : Type) : EnvOK Tryd.prog (Ev42 N R) := EnvOK.addFn hmx (Ev41_ok N R) (Ev41_ok N _) (by kernel_rfl) (fun c => ref26_told_S N c.1 c.2.1)
noncomputable def ref26_Naked (s0 : Bool × (Int × (Int × (Int × (Bool))))) (l1 : List (Int × (List Int))) : Option (Bool × (Int × (Int × (Int × (Bool))))) :=
 bif s0.1 then
  some ((s0.1, (s0.2.1, (s0.2.2.1, (s0.2.2.2.1, s0.2.2.2.2)))))
 else
  Option.bind (ref26_told N l1 (3 : Int)) fun v3 =>
  bif (!(decide (v3 = (0 : Int)))) then
   Option.bind (ref26_told N l1 (129 : Int)) fun v4 =>
   Option.bind (bif (!(decide (v4 = (0 : Int)))) then
     some ((cond true s0.2.2.2.2 false))
    else
     some (false)) fun (v5 : Bool) =>
   bif v5 then
    some ((s0.1, (v3, (s0.2.2.1, (v4, s0.2.2.2.2)))))
   else
    some ((s0.1, (v3, (s0.2.2.1, (s0.2.2.2.1, s0.2.2.2.2)))))
  else
   Option.bind (ref26_told N l1 (129 : Int)) fun v4 =>
   Option.bind (bif (!(decide (v4 = (0 : Int)))) then
     some ((cond true s0.2.2.2.2 false))
    else
     some (false)) fun (v5 : Bool) =>
   bif v5 then
    some ((s0.1, (s0.2.1, (s0.2.2.1, (v4, s0.2.2.2.2)))))
   else
    some ((s0.1, (s0.2.1, (s0.2.2.1, (s0.2.2.2.1, s0.2.2.2.2)))))
theorem ref26_Naked_S (s0 : Bool × (Int × (Int × (Int × (Bool))))) (l1 : List (Int × (List Int))) : (runK Tryd.prog (Ev42 N) 400 18 [(.pair .bool (.pair (.int .u32) (.pair (.int .u32) (.pair (.int .u32) .bool)))), (.sl (.pair (.int .u8) (.sl (.int .u8))))] [(.pair .bool (.pair (.int .u32) (.pair (.int .u32) (.pair (.int .u32) .bool))))] (s0, l1, ())).run = ref26_Naked N s0 l1 := by kernel_rfl
noncomputable def Ev43 : (R : Type) → Env R := Env.addFn (Ev42 N) 18 (fun R => fnK [(.pair .bool (.pair (.int .u32) (.pair (.int .u32) (.pair (.int .u32) .bool)))), (.sl (.pair (.int .u8) (.sl (.int .u8))))] [(.pair .bool (.pair (.int .u32) (.pair (.int .u32) (.pair (.int .u32) .bool))))] (fun c => ref26_Naked N c.1 c.2.1))
theorem Ev43_ok (R : Type) : EnvOK Tryd.prog (Ev43 N R) := EnvOK.addFn hmx (Ev42_ok N R) (Ev42_ok N _) (by kernel_rfl) (fun c => ref26_Naked_S N c.1 c.2.1)
noncomputable def ref26_Rejected (s0 : Bool × (Int × (Int × (Int × (Bool))))) (l1 : List (Int × (List Int))) : Option ((Bool × (Int × (Int × (Int × (Bool))))) × Bool) :=
 Option.bind (ref21_Find N l1 (129 : Int)) fun v3 =>
 Option.bind (bif v3.2 then
   some ((cond true (!s0.1) false))
  else
   some (false)) fun (v4 : Bool) =>
 bif v4 then
  Option.bind (ref21_Find N l1 (3 : Int)) fun v5 =>
  some (((s0.1, (s0.2.1, (s0.2.2.1, (s0.2.2.2.1, false)))), (!v5.2)))
 else
  Option.bind (ref21_Find N l1 (3 : Int)) fun v5 =>
  some (((s0.1, (s0.2.1, (s0.2.2.1, (s0.2.2.2.1, s0.2.2.2.2)))), (!v5.2)))
theorem ref26_Rejected_S (s0 : Bool × (Int × (Int × (Int × (Bool))))) (l1 : List (Int × (List Int))) : (runK Tryd.prog (Ev43 N) 400 13 [(.pair .bool (.pair (.int .u32) (.pair (.int .u32) (.pair (.int .u32) .bool)))), (.sl (.pair (.int .u8) (.sl (.int .u8))))] [(.pair .bool (.pair (.int .u32) (.pair (.int .u32) (.pair (.int .u32) .bool)))), .bool] (s0, l1, ())).run = ref26_Rejected N s0 l1 := by kernel_rfl
noncomputable def Ev44 : (R : Type) → Env R := Env.addFn (Ev43 N) 13 (fun R => fnK [(.pair .bool (.pair (.int .u32) (.pair (.int .u32) (.pair (.int .u32) .bool)))), (.sl (.pair (.int .u8) (.sl (.int .u8))))] [(.pair .bool (.pair (.int .u32) (.pair (.int .u32) (.pair (.int .u32) .bool)))), .bool] (fun c => ref26_Rejected N c.1 c.2.1))
theorem Ev44_ok (R : Type) : EnvOK Tryd.prog (Ev44 N R) := EnvOK.addFn hmx (Ev43_ok N R) (Ev43_ok N _) (by kernel_rfl) (fun c => ref26_Rejected_S N c.1 c.2.1)
noncomputable def Ev45 (X0 : (Int × Unit) → Option (List UInt8)) : (R : Type) → Env R := Env.addFn (Ev44 N) 43 (fun R => fnK [(.int .u32)] [.str] X0)
theorem Ev45_ok (X0 : (Int × Unit) → Option (List UInt8)) (hX0 : ∀ c y, X0 c = some y → CallsK Tryd.prog 43 (valA [(.int .u32)] c) (tupV (valR [.str] y))) (R : Type) : EnvOK Tryd.prog (Ev45 N X0 R) := EnvOK.addSelf (Ev44_ok N R) (inl := (Ev44 N Unit).inl) (by kernel_rfl) hX0
noncomputable def ref26_digits_B (N : Nat) (X0 : (Int × Unit) → Option (List UInt8)) (n0 : Int) : Option (List UInt8) :=
 bif (decide (n0 < (10 : Int))) then
  Option.bind (@toBy ([(IntKind.wrap .u8 (IntKind.wrap .u32 ((48 : Int) + n0)))] : List (Int))) fun (v3 : (List UInt8)) =>
  some (v3)
 else
  Option.bind (X0 ((IntKind.wrap .u32 (@Int.tdiv n0 (10 : Int))), ())) fun (v3 : (List UInt8)) =>
  Option.bind (X0 ((@Int.tmod n0 (10 : Int)), ())) fun (v4 : (List UInt8)) =>
  bif (decide (((List.length v3) + (List.length v4)) ≤ maxLen)) then
   some ((v3 ++ v4))
  else
   none
theorem ref26_digits_B_S (X0 : (Int × Unit) → Option (List UInt8)) (n0 : Int) : (runK Tryd.prog (Ev45 N X0) 400 43 [(.int .u32)] [.str] (n0, ())).run = ref26_digits_B N X0 n0 := by kernel_rfl
noncomputable def ref26_digits (n0 : Int) : Option (List UInt8) := gl (fun X c => ref26_digits_B N X c.1) N (n0, ())
noncomputable def Ev46 : (R : Type) → Env R := Env.addFn (Ev44 N) 43 (fun R => fnK [(.int .u32)] [.str] (fun c => ref26_digits N c.1))
theorem Ev46_ok (R : Type) : EnvOK Tryd.prog (Ev46 N R) := EnvOK.addSelf (Ev44_ok N R) (inl := (Ev44 N Unit).inl) (by kernel_rfl) (fun c y h => rec_ok (f := 43) (ds := [(.int .u32)]) (rs := [.str]) hmx (G := fun (X : (Int × Unit) → Option (List UInt8)) (c : (Int × Unit)) => ref26_digits_B N X c.1) (Γs := fun (X : (Int × Unit) → Option (List UInt8)) => Ev45 N X) (fuel := 400) (fun X hX => Ev45_ok N X hX _) (fun X => by kernel_rfl) (fun X c => ref26_digits_B_S N X c.1) N c y h)
noncomputable def ref26_Text (a0 : Int) : Option (List UInt8) :=
 Option.bind (ref26_digits N (IntKind.wrap .u32 (@Int.tdiv a0 (16777216 : Int)))) fun v2 =>
 bif (decide (((List.length v2) + (List.length (Array.toList (List.toArray ([46] : List UInt8))))) ≤ maxLen)) then
  Option.bind (ref26_digits N (@Int.tmod (IntKind.wrap .u32 (@Int.tdiv a0 (65536 : Int))) (256 : Int))) fun v3 =>
  bif (decide (((List.length (v2 ++ (Array.toList (List.toArray ([46] : List UInt8))))) + (List.length v3)) ≤ maxLen)) then
   bif (decide (((List.length ((v2 ++ (Array.toList (List.toArray ([46] : List UInt8)))) ++ v3)) + (List.length (Array.toList (List.toArray ([46] : List UInt8))))) ≤ maxLen)) then
    Option.bind (ref26_digits N (@Int.tmod (IntKind.wrap .u32 (@Int.tdiv a0 (256 : Int))) (256 : Int))) fun v4 =>
    bif (decide (((List.length (((v2 ++ (Array.toList (List.toArray ([46] : List UInt8)))) ++ v3) ++ (Array.toList (List.toArray ([46] : List UInt8))))) + (List.length v4)) ≤ maxLen)) then
     bif (decide (((List.length ((((v2 ++ (Array.toList (List.toArray ([46] : List UInt8)))) ++ v3) ++ (Array.toList (List.toArray ([46] : List UInt8)))) ++ v4)) + (List.length (Array.toList (List.toArray ([46] : List UInt8))))) ≤ maxLen)) then
      Option.bind (ref26_digits N (@Int.tmod a0 (256 : Int))) fun v5 =>
      bif (decide (((List.length (((((v2 ++ (Array.toList (List.toArray ([46] : List UInt8)))) ++ v3) ++ (Array.toList (List.toArray ([46] : List UInt8)))) ++ v4) ++ (Array.toList (List.toArray ([46] : List UInt8))))) + (List.length v5)) ≤ maxLen)) then
       some (((((((v2 ++ (Array.toList (List.toArray ([46] : List UInt8)))) ++ v3) ++ (Array.toList (List.toArray ([46] : List UInt8)))) ++ v4) ++ (Array.toList (List.toArray ([46] : List UInt8)))) ++ v5))
      else
       none
     else
      none
    else
     none
   else
    none
  else
   none
 else
  none
theorem ref26_Text_S (a0 : Int) : (runK Tryd.prog (Ev46 N) 400 22 [(.int .u32)] [.str] (a0, ())).run = ref26_Text N a0 := by kernel_rfl
noncomputable def Ev47 : (R : Type) → Env R := Env.addFn (Ev46 N) 22 (fun R => fnK [(.int .u32)] [.str] (fun c => ref26_Text N c.1))
theorem Ev47_ok (R : Type) : EnvOK Tryd.prog (Ev47 N R) := EnvOK.addFn hmx (Ev46_ok N R) (Ev46_ok N _) (by kernel_rfl) (fun c => ref26_Text_S N c.1)
noncomputable def ref26_Parse_L4_I : LI := ⟨95, 0, [], ⟨[(0, .ty .str), (4, .lit (.box 0 0)), (5, .ty (.int .i64)), (6, .ty (.int .i64))], [.box 88 (.arr 4 (.int .u32))]⟩, [(.ret, ⟨[(2, .ty (.int .u32)), (3, .ty (.int .i64))], []⟩), (.exit 0, ⟨[(0, .ty .str), (4, .lit (.box 0 0)), (5, .ty (.int .i64))], [.box 88 (.arr 4 (.int .u32))]⟩)]⟩
noncomputable def ref26_Parse_L4 (N : Nat) (X : ((List UInt8 × (Int × (Int × Unit))) × ((Arr Int 4) × Unit)) → Option ((((Int × (Int × Unit)) × Unit) ⊕ ((List UInt8 × (Int × Unit)) × ((Arr Int 4) × Unit))))) (s0 : List UInt8) (x5 : Int) (i6 : Int) (h0 : Arr Int 4) : Option ((((Int × (Int × Unit)) × Unit) ⊕ ((List UInt8 × (Int × Unit)) × ((Arr Int 4) × Unit)))) :=
 Option.bind (bif (decide (i6 < (((List.length s0) : Nat) : Int))) then
   some ((cond true (decide (i6 < (16 : Int))) false))
  else
   some (false)) fun (v6 : Bool) =>
 bif v6 then
  Option.bind (getI s0 i6) fun (v7 : UInt8) =>
  bif (decide ((((@UInt8.toNat v7) : Nat) : Int) = (46 : Int))) then
   bif (decide ((3 : Int) < (IntKind.wrap .i64 (x5 + 1)))) then
    some ((.inl (((0 : Int), ((3 : Int), ())), ())))
   else
    (X ((s0, ((IntKind.wrap .i64 (x5 + 1)), ((IntKind.wrap .i64 (i6 + 1)), ()))), (h0, ())))
  else
   Option.bind (getI s0 i6) fun (v8 : UInt8) =>
   Option.bind (bif (decide ((((@UInt8.toNat v8) : Nat) : Int) < (48 : Int))) then
     some (true)
    else
     Option.bind (getI s0 i6) fun (v9 : UInt8) =>
     some ((cond false true (decide ((57 : Int) < (((@UInt8.toNat v9) : Nat) : Int)))))) fun (v9 : Bool) =>
   Option.bind (bif v9 then
     some (true)
    else
     bif (decide ((0 : Int) ≤ x5 ∧ x5 < ((4 : Nat) : Int))) then
      Option.bind (h0.l[Int.toNat x5]?) fun (v10 : Int) =>
      some ((cond false true (decide ((255 : Int) < v10))))
     else
      none) fun (v10 : Bool) =>
   bif v10 then
    some ((.inl (((0 : Int), ((3 : Int), ())), ())))
   else
    bif (decide ((0 : Int) ≤ x5 ∧ x5 < ((4 : Nat) : Int))) then
     Option.bind (h0.l[Int.toNat x5]?) fun (v11 : Int) =>
     Option.bind (getI s0 i6) fun (v12 : UInt8) =>
     bif (decide ((0 : Int) ≤ x5 ∧ x5 < ((4 : Nat) : Int))) then
      Option.bind (h0.l[Int.toNat x5]?) fun (v13 : Int) =>
      (X ((s0, (x5, ((IntKind.wrap .i64 (i6 + 1)), ()))), ((h0.set (Int.toNat x5) (IntKind.wrap .u32 ((IntKind.wrap .u32 ((10 : Int) * v11)) + (IntKind.wrap .u32 (IntKind.wrap .u8 ((((@UInt8.toNat v12) : Nat) : Int) - 48)))))), ())))
     else
      none
    else
     none
 else
  some ((.inr ((s0, (x5, ())), (h0, ()))))
noncomputable def ref26_Parse_L4_R (c : ((List UInt8 × (Int × (Int × Unit))) × ((Arr Int 4) × Unit))) : Option ((((Int × (Int × Unit)) × Unit) ⊕ ((List UInt8 × (Int × Unit)) × ((Arr Int 4) × Unit)))) := gl (fun X c => ref26_Parse_L4 N X c.1.1 c.1.2.1 c.1.2.2.1 c.2.1) N c
theorem ref26_Parse_L4_S (X : ((List UInt8 × (Int × (Int × Unit))) × ((Arr Int 4) × Unit)) → Option ((((Int × (Int × Unit)) × Unit) ⊕ ((List UInt8 × (Int × Unit)) × ((Arr Int 4) × Unit))))) (s0 : List UInt8) (x5 : Int) (i6 : Int) (h0 : Arr Int 4) : (roundK Tryd.prog (Ev47 N) 400 [20] ref26_Parse_L4_I (loopAt Tryd.prog [20] 4) X ((s0, x5, i6, ()), (h0, ()))).run = ref26_Parse_L4 N X s0 x5 i6 h0 := by kernel_rfl
noncomputable def Ev48 : (R : Type) → Env R := Env.addLp (Ev47 N) [20] 0 4 (fun R => lpK Tryd.prog ref26_Parse_L4_I (fun X c => ref26_Parse_L4 N X c.1.1 c.1.2.1 c.1.2.2.1 c.2.1) N)
theorem Ev48_ok (R : Type) : EnvOK Tryd.prog (Ev48 N R) := EnvOK.addLp (Ev47_ok N R) (by kernel_rfl) (lpK_ok (li := ref26_Parse_L4_I) (G := fun X c => ref26_Parse_L4 N X c.1.1 c.1.2.1 c.1.2.2.1 c.2.1) hmx (Ev47_ok N _) (by kernel_rfl) loopAt_sub (fun (X : CT ref26_Parse_L4_I.sh → Option (OT ref26_Parse_L4_I.outs)) (c : CT ref26_Parse_L4_I.sh) => ref26_Parse_L4_S N X c.1.1 c.1.2.1 c.1.2.2.1 c.2.1) N)
noncomputable def ref26_Parse (s0 : List UInt8) : Option (Int × Int) :=
 Option.bind (ref26_Parse_L4_R N ((s0, ((0 : Int), ((0 : Int), ()))), ((@Arr.cons Int 3 0 (@Arr.cons Int 2 0 (@Arr.cons Int 1 0 (@Arr.cons Int 0 0 (@Arr.nil Int))))), ()))) fun v2 =>
 Sum.elim
  (fun (v3 : ((Int × (Int × Unit)) × Unit)) =>
  some ((v3.1.1, v3.1.2.1)))
  (fun (v3 : ((List UInt8 × (Int × Unit)) × ((Arr Int 4) × Unit))) =>
  Option.bind (bif (!(decide (v3.1.2.1 = (3 : Int)))) then
    some (true)
   else
    Option.bind (v3.2.1.l[Int.toNat (0 : Int)]?) fun (v4 : Int) =>
    some ((cond false true (decide ((255 : Int) < v4))))) fun (v4 : Bool) =>
  Option.bind (bif v4 then
    some (true)
   else
    Option.bind (v3.2.1.l[Int.toNat (1 : Int)]?) fun (v5 : Int) =>
    some ((cond false true (decide ((255 : Int) < v5))))) fun (v5 : Bool) =>
  Option.bind (bif v5 then
    some (true)
   else
    Option.bind (v3.2.1.l[Int.toNat (2 : Int)]?) fun (v6 : Int) =>
    some ((cond false true (decide ((255 : Int) < v6))))) fun (v6 : Bool) =>
  Option.bind (bif v6 then
    some (true)
   else
    Option.bind (v3.2.1.l[Int.toNat (3 : Int)]?) fun (v7 : Int) =>
    some ((cond false true (decide ((255 : Int) < v7))))) fun (v7 : Bool) =>
  bif v7 then
   some (((0 : Int), (3 : Int)))
  else
   Option.bind (v3.2.1.l[Int.toNat (0 : Int)]?) fun (v8 : Int) =>
   Option.bind (v3.2.1.l[Int.toNat (1 : Int)]?) fun (v9 : Int) =>
   Option.bind (v3.2.1.l[Int.toNat (2 : Int)]?) fun (v10 : Int) =>
   Option.bind (v3.2.1.l[Int.toNat (3 : Int)]?) fun (v11 : Int) =>
   Option.bind (ref26_Text N (IntKind.wrap .u32 ((IntKind.wrap .u32 ((IntKind.wrap .u32 ((IntKind.wrap .u32 ((16777216 : Int) * v8)) + (IntKind.wrap .u32 ((65536 : Int) * v9)))) + (IntKind.wrap .u32 ((256 : Int) * v10)))) + v11))) fun v12 =>
   bif (!(decide (v12 = v3.1.1))) then
    some (((0 : Int), (3 : Int)))
   else
    some (((IntKind.wrap .u32 ((IntKind.wrap .u32 ((IntKind.wrap .u32 ((IntKind.wrap .u32 ((16777216 : Int) * v8)) + (IntKind.wrap .u32 ((65536 : Int) * v9)))) + (IntKind.wrap .u32 ((256 : Int) * v10)))) + v11)), (0 : Int)))) v2
theorem ref26_Parse_S (s0 : List UInt8) : (runK Tryd.prog (Ev48 N) 400 20 [.str] [(.int .u32), (.int .i64)] (s0, ())).run = ref26_Parse N s0 := by kernel_rfl
noncomputable def Ev49 : (R : Type) → Env R := Env.addFn (Ev48 N) 20 (fun R => fnK [.str] [(.int .u32), (.int .i64)] (fun c => ref26_Parse N c.1))
theorem Ev49_ok (R : Type) : EnvOK Tryd.prog (Ev49 N R) := EnvOK.addFn hmx (Ev48_ok N R) (Ev48_ok N _) (by kernel_rfl) (fun c => ref26_Parse_S N c.1)
noncomputable def Ev50 : (R : Type) → Env R := Env.addMv (Ev49 N) [(10, 5)]
theorem Ev50_ok (R : Type) : EnvOK Tryd.prog (Ev50 N R) := EnvOK.addMv (Ev49_ok N R) [(10, 5)]
noncomputable def law26_theirs_L3_I : LI := ⟨22, 0, [(3, 60)], ⟨[(3, .lit (.own 0)), (6, .ty (.sl (.pair (.int .u8) (.sl (.int .u8))))), (7, .ty (.int .i64)), (8, .ty (.int .i64))], [.own (.pair (.int .u8) (.sl (.int .u8))) 60]⟩, [(.exit 0, ⟨[(3, .lit (.own 0))], [.own (.pair (.int .u8) (.sl (.int .u8))) 60]⟩)]⟩
noncomputable def law26_theirs_L3 (N : Nat) (X : (((List (Int × (List Int))) × (Int × (Int × Unit))) × ((List (Int × (List Int))) × Unit)) → Option ((Unit × ((List (Int × (List Int))) × Unit)))) (x6 : List (Int × (List Int))) (x7 : Int) (x8 : Int) (h0 : List (Int × (List Int))) : Option ((Unit × ((List (Int × (List Int))) × Unit))) :=
 bif (decide (x8 < x7)) then
  Option.bind (getI x6 x8) fun (v6 : (Int × (List Int))) =>
  bif (roomB ((List.length h0) + (List.length ([(v6.1, v6.2)] : List ((Int × (List Int)))))) 32) then
   (X ((x6, (x7, ((IntKind.wrap .i64 (x8 + 1)), ()))), ((h0 ++ ([(v6.1, v6.2)] : List ((Int × (List Int))))), ())))
  else
   none
 else
  some (((), (h0, ())))
noncomputable def law26_theirs_L3_R (c : (((List (Int × (List Int))) × (Int × (Int × Unit))) × ((List (Int × (List Int))) × Unit))) : Option ((Unit × ((List (Int × (List Int))) × Unit))) := gl (fun X c => law26_theirs_L3 N X c.1.1 c.1.2.1 c.1.2.2.1 c.2.1) N c
theorem law26_theirs_L3_S (X : (((List (Int × (List Int))) × (Int × (Int × Unit))) × ((List (Int × (List Int))) × Unit)) → Option ((Unit × ((List (Int × (List Int))) × Unit)))) (x6 : List (Int × (List Int))) (x7 : Int) (x8 : Int) (h0 : List (Int × (List Int))) : (roundK Tryd.prog (Ev50 N) 400 [10] law26_theirs_L3_I (loopAt Tryd.prog [10] 3) X ((x6, x7, x8, ()), (h0, ()))).run = law26_theirs_L3 N X x6 x7 x8 h0 := by kernel_rfl
noncomputable def Ev51 : (R : Type) → Env R := Env.addLp (Ev50 N) [10] 0 3 (fun R => lpK Tryd.prog law26_theirs_L3_I (fun X c => law26_theirs_L3 N X c.1.1 c.1.2.1 c.1.2.2.1 c.2.1) N)
theorem Ev51_ok (R : Type) : EnvOK Tryd.prog (Ev51 N R) := EnvOK.addLp (Ev50_ok N R) (by kernel_rfl) (lpK_ok (li := law26_theirs_L3_I) (G := fun X c => law26_theirs_L3 N X c.1.1 c.1.2.1 c.1.2.2.1 c.2.1) hmx (Ev50_ok N _) (by kernel_rfl) loopAt_sub (fun (X : CT law26_theirs_L3_I.sh → Option (OT law26_theirs_L3_I.outs)) (c : CT law26_theirs_L3_I.sh) => law26_theirs_L3_S N X c.1.1 c.1.2.1 c.1.2.2.1 c.2.1) N)
noncomputable def law26_theirs (l0 : List (Int × (List Int))) : Option (List (Int × (List Int))) :=
 Option.bind (law26_theirs_L3_R N ((l0, ((((List.length l0) : Nat) : Int), ((0 : Int), ()))), (([] : List ((Int × (List Int)))), ()))) fun v2 =>
 some (v2.2.1)
theorem law26_theirs_S (l0 : List (Int × (List Int))) : (runK Tryd.prog (Ev51 N) 400 10 [(.sl (.pair (.int .u8) (.sl (.int .u8))))] [(.sl (.pair (.int .u8) (.sl (.int .u8))))] (l0, ())).run = law26_theirs N l0 := by kernel_rfl
noncomputable def Ev52 : (R : Type) → Env R := Env.addFn (Ev51 N) 10 (fun R => fnK [(.sl (.pair (.int .u8) (.sl (.int .u8))))] [(.sl (.pair (.int .u8) (.sl (.int .u8))))] (fun c => law26_theirs N c.1))
theorem Ev52_ok (R : Type) : EnvOK Tryd.prog (Ev52 N R) := EnvOK.addFn hmx (Ev51_ok N R) (Ev51_ok N _) (by kernel_rfl) (fun c => law26_theirs_S N c.1)
noncomputable def Ev53 : (R : Type) → Env R := Env.addBx (Ev52 N) [(9, 0)]
theorem Ev53_ok (R : Type) : EnvOK Tryd.prog (Ev53 N R) := EnvOK.addBx (Ev52_ok N R) [(9, 0)]
noncomputable def law26_side (N : Nat) (s0 : Bool × (Int × (Int × (Int × (Bool))))) : Option (Bool × (Int × (Int × (Int × (Bool))))) :=
 some ((s0.1, (s0.2.1, (s0.2.2.1, (s0.2.2.2.1, s0.2.2.2.2)))))
theorem law26_side_S (s0 : Bool × (Int × (Int × (Int × (Bool))))) : (runK Tryd.prog (Ev53 N) 400 9 [(.pair .bool (.pair (.int .u32) (.pair (.int .u32) (.pair (.int .u32) .bool))))] [(.pair .bool (.pair (.int .u32) (.pair (.int .u32) (.pair (.int .u32) .bool))))] (s0, ())).run = law26_side N s0 := by kernel_rfl
noncomputable def Ev54 : (R : Type) → Env R := Env.addFn (Ev53 N) 9 (fun R => fnK [(.pair .bool (.pair (.int .u32) (.pair (.int .u32) (.pair (.int .u32) .bool))))] [(.pair .bool (.pair (.int .u32) (.pair (.int .u32) (.pair (.int .u32) .bool))))] (fun c => law26_side N c.1))
theorem Ev54_ok (R : Type) : EnvOK Tryd.prog (Ev54 N R) := EnvOK.addFn hmx (Ev53_ok N R) (Ev53_ok N _) (by kernel_rfl) (fun c => law26_side_S N c.1)
noncomputable def law26_far_L2_I : LI := ⟨23, 0, [], ⟨[(0, .ty (.sl (.pair (.int .u8) (.sl (.int .u8))))), (9, .ty (.sl (.pair (.int .u8) (.sl (.int .u8))))), (10, .ty (.int .i64)), (11, .ty (.int .i64))], []⟩, [(.ret, ⟨[(2, .ty .bool)], []⟩), (.exit 0, ⟨[(0, .ty (.sl (.pair (.int .u8) (.sl (.int .u8)))))], []⟩)]⟩
noncomputable def law26_far_L2 (N : Nat) (X : (((List (Int × (List Int))) × ((List (Int × (List Int))) × (Int × (Int × Unit)))) × Unit) → Option ((((Bool × Unit) × Unit) ⊕ (((List (Int × (List Int))) × Unit) × Unit)))) (l0 : List (Int × (List Int))) (x9 : List (Int × (List Int))) (x10 : Int) (x11 : Int) : Option ((((Bool × Unit) × Unit) ⊕ (((List (Int × (List Int))) × Unit) × Unit))) :=
 bif (decide (x11 < x10)) then
  Option.bind (getI x9 x11) fun (v6 : (Int × (List Int))) =>
  bif (decide ((300 : Int) < (((List.length v6.2) : Nat) : Int))) then
   some ((.inl ((true, ()), ())))
  else
   (X ((l0, (x9, (x10, ((IntKind.wrap .i64 (x11 + 1)), ())))), ()))
 else
  some ((.inr ((l0, ()), ())))
noncomputable def law26_far_L2_R (c : (((List (Int × (List Int))) × ((List (Int × (List Int))) × (Int × (Int × Unit)))) × Unit)) : Option ((((Bool × Unit) × Unit) ⊕ (((List (Int × (List Int))) × Unit) × Unit))) := gl (fun X c => law26_far_L2 N X c.1.1 c.1.2.1 c.1.2.2.1 c.1.2.2.2.1) N c
theorem law26_far_L2_S (X : (((List (Int × (List Int))) × ((List (Int × (List Int))) × (Int × (Int × Unit)))) × Unit) → Option ((((Bool × Unit) × Unit) ⊕ (((List (Int × (List Int))) × Unit) × Unit)))) (l0 : List (Int × (List Int))) (x9 : List (Int × (List Int))) (x10 : Int) (x11 : Int) : (roundK Tryd.prog (Ev54 N) 400 [6] law26_far_L2_I (loopAt Tryd.prog [6] 2) X ((l0, x9, x10, x11, ()), ())).run = law26_far_L2 N X l0 x9 x10 x11 := by kernel_rfl
noncomputable def Ev55 : (R : Type) → Env R := Env.addLp (Ev54 N) [6] 0 2 (fun R => lpK Tryd.prog law26_far_L2_I (fun X c => law26_far_L2 N X c.1.1 c.1.2.1 c.1.2.2.1 c.1.2.2.2.1) N)
theorem Ev55_ok (R : Type) : EnvOK Tryd.prog (Ev55 N R) := EnvOK.addLp (Ev54_ok N R) (by kernel_rfl) (lpK_ok (li := law26_far_L2_I) (G := fun X c => law26_far_L2 N X c.1.1 c.1.2.1 c.1.2.2.1 c.1.2.2.2.1) hmx (Ev54_ok N _) (by kernel_rfl) loopAt_sub (fun (X : CT law26_far_L2_I.sh → Option (OT law26_far_L2_I.outs)) (c : CT law26_far_L2_I.sh) => law26_far_L2_S N X c.1.1 c.1.2.1 c.1.2.2.1 c.1.2.2.2.1) N)
noncomputable def law26_far (l0 : List (Int × (List Int))) : Option Bool :=
 Option.bind (takeI l0 (@minI (((List.length l0) : Nat) : Int) (40 : Int))) fun (v2 : (List (Int × (List Int)))) =>
 Option.bind (law26_far_L2_R N ((l0, (v2, ((((List.length v2) : Nat) : Int), ((0 : Int), ())))), ())) fun v3 =>
 Sum.elim
  (fun (v4 : ((Bool × Unit) × Unit)) =>
  some (v4.1.1))
  (fun (v4 : (((List (Int × (List Int))) × Unit) × Unit)) =>
  some ((decide ((40 : Int) < (((List.length v4.1.1) : Nat) : Int))))) v3
theorem law26_far_S (l0 : List (Int × (List Int))) : (runK Tryd.prog (Ev55 N) 400 6 [(.sl (.pair (.int .u8) (.sl (.int .u8))))] [.bool] (l0, ())).run = law26_far N l0 := by kernel_rfl
noncomputable def Ev56 : (R : Type) → Env R := Env.addFn (Ev55 N) 6 (fun R => fnK [(.sl (.pair (.int .u8) (.sl (.int .u8))))] [.bool] (fun c => law26_far N c.1))
theorem Ev56_ok (R : Type) : EnvOK Tryd.prog (Ev56 N R) := EnvOK.addFn hmx (Ev55_ok N R) (Ev55_ok N _) (by kernel_rfl) (fun c => law26_far_S N c.1)
noncomputable def Ev57 : (R : Type) → Env R := Env.addFn (Ev56 N) 19 (fun R => prsK N)
theorem Ev57_ok (R : Type) : EnvOK Tryd.prog (Ev57 N R) := EnvOK.addExt (Ev56_ok N R) (prs_ok N)
noncomputable def Ev58 : (R : Type) → Env R := Env.addFn (Ev57 N) 8 (fun R => jgK N)
theorem Ev58_ok (R : Type) : EnvOK Tryd.prog (Ev58 N R) := EnvOK.addExt (Ev57_ok N R) (jg_ok N)
noncomputable def Ev59 : (R : Type) → Env R := Env.addFn (Ev58 N) 21 (fun R => ipcpoTextK N)
theorem Ev59_ok (R : Type) : EnvOK Tryd.prog (Ev59 N R) := EnvOK.addExt (Ev58_ok N R) (ipcpoText_ok N)
noncomputable def law26_alive : Option Bool :=
 Option.bind (ipcpo_Parse N (Array.toList (List.toArray ([49, 48, 46, 48, 46, 48, 46, 49] : List UInt8)))) fun v1 =>
 Option.bind (ipcpo_Options N (false, ((0 : Int), ((0 : Int), ((0 : Int), false))))) fun v2 =>
 Option.bind (ipcpo_Judge N (true, ((0 : Int), ((5 : Int), ((0 : Int), false)))) v2) fun v3 =>
 Option.bind (@Jg.ipcpo_Text N (167772161 : Int)) fun (v4 : (List UInt8)) =>
 Option.bind (bif (decide (v4 = (Array.toList (List.toArray ([49, 48, 46, 48, 46, 48, 46, 49] : List UInt8))))) then
   some ((cond true (decide (v1.1 = (167772161 : Int))) false))
  else
   some (false)) fun (v5 : Bool) =>
 Option.bind (bif v5 then
   some ((cond true (decide (v1.2 = (0 : Int))) false))
  else
   some (false)) fun (v6 : Bool) =>
 Option.bind (bif v6 then
   some ((cond true (decide (v3.1 = (3 : Int))) false))
  else
   some (false)) fun (v7 : Bool) =>
 bif v7 then
  Option.bind (some ((cond true (decide ((((List.length v3.2) : Nat) : Int) = (1 : Int))) false))) fun (v8 : Bool) =>
  Option.bind (bif v8 then
    Option.bind (getI v3.2 (0 : Int)) fun (v9 : (Int × (List Int))) =>
    Option.bind (getI v9.2 (3 : Int)) fun (v10 : Int) =>
    some ((cond true (decide (v10 = (5 : Int))) false))
   else
    some (false)) fun (v9 : Bool) =>
  some (v9)
 else
  some (false)
theorem law26_alive_S : (runK Tryd.prog (Ev59 N) 400 7 [] [.bool] ()).run = law26_alive N  := by kernel_rfl
noncomputable def Ev60 : (R : Type) → Env R := Env.addFn (Ev59 N) 7 (fun R => fnK [] [.bool] (fun c => law26_alive N ))
theorem Ev60_ok (R : Type) : EnvOK Tryd.prog (Ev60 N R) := EnvOK.addFn hmx (Ev59_ok N R) (Ev59_ok N _) (by kernel_rfl) (fun c => law26_alive_S N )
noncomputable def Ev61 : (R : Type) → Env R := Env.addBx (Ev60 N) [(3, 0)]
theorem Ev61_ok (R : Type) : EnvOK Tryd.prog (Ev61 N R) := EnvOK.addBx (Ev60_ok N R) [(3, 0)]
noncomputable def law26_IpcpoJudges (s0 : Bool × (Int × (Int × (Int × (Bool))))) (l1 : List (Int × (List Int))) : Option Bool :=
 Option.bind (law26_far N l1) fun v3 =>
 bif v3 then
  Option.bind (@law26_alive N) fun (v4 : Bool) =>
  some (v4)
 else
  Option.bind (law26_theirs N l1) fun v4 =>
  Option.bind (ipcpo_Judge N (s0.1, (s0.2.1, (s0.2.2.1, (s0.2.2.2.1, s0.2.2.2.2)))) v4) fun v5 =>
  Option.bind (ref26_Judge N (s0.1, (s0.2.1, (s0.2.2.1, (s0.2.2.2.1, s0.2.2.2.2)))) l1) fun v6 =>
  Option.bind (law26_theirs N l1) fun v7 =>
  Option.bind (ipcpo_Rejected N (s0.1, (s0.2.1, (s0.2.2.1, (s0.2.2.2.1, s0.2.2.2.2)))) v7) fun v8 =>
  Option.bind (ref26_Rejected N (s0.1, (s0.2.1, (s0.2.2.1, (s0.2.2.2.1, s0.2.2.2.2)))) l1) fun v9 =>
  bif (decide (v5.1 = v6.1)) then
   Option.bind (law26_theirs N v6.2) fun v10 =>
   Option.bind (opts_Same N v5.2 v10) fun v11 =>
   bif (cond true v11 false) then
    Option.bind (ipcpo_Options N (s0.1, (s0.2.1, (s0.2.2.1, (s0.2.2.2.1, s0.2.2.2.2))))) fun v12 =>
    Option.bind (ref26_Options N (s0.1, (s0.2.1, (s0.2.2.1, (s0.2.2.2.1, s0.2.2.2.2))))) fun v13 =>
    Option.bind (law26_theirs N v13) fun v14 =>
    Option.bind (opts_Same N v12 v14) fun v15 =>
    bif (cond true v15 false) then
     Option.bind (law26_theirs N l1) fun v16 =>
     Option.bind (ipcpo_Naked N (s0.1, (s0.2.1, (s0.2.2.1, (s0.2.2.2.1, s0.2.2.2.2)))) v16) fun v17 =>
     Option.bind (ref26_Naked N (s0.1, (s0.2.1, (s0.2.2.1, (s0.2.2.2.1, s0.2.2.2.2)))) l1) fun v18 =>
     bif ((@wfB (@Td.pair @Td.bool (@Td.pair (@Td.int @IntKind.u32) (@Td.pair (@Td.int @IntKind.u32) (@Td.pair (@Td.int @IntKind.u32) @Td.bool)))) (v17.1, (v17.2.1, (v17.2.2.1, (v17.2.2.2.1, v17.2.2.2.2))))) && (@wfB (@Td.pair @Td.bool (@Td.pair (@Td.int @IntKind.u32) (@Td.pair (@Td.int @IntKind.u32) (@Td.pair (@Td.int @IntKind.u32) @Td.bool)))) (v18.1, (v18.2.1, (v18.2.2.1, (v18.2.2.2.1, v18.2.2.2.2)))))) then
      bif (cond true (@Decidable.decide (@Eq (Bool × (Int × (Int × (Int × Bool)))) (v17.1, (v17.2.1, (v17.2.2.1, (v17.2.2.2.1, v17.2.2.2.2)))) (v18.1, (v18.2.1, (v18.2.2.1, (v18.2.2.2.1, v18.2.2.2.2))))) (@decT (@Td.pair @Td.bool (@Td.pair (@Td.int @IntKind.u32) (@Td.pair (@Td.int @IntKind.u32) (@Td.pair (@Td.int @IntKind.u32) @Td.bool)))) (v17.1, (v17.2.1, (v17.2.2.1, (v17.2.2.2.1, v17.2.2.2.2)))) (v18.1, (v18.2.1, (v18.2.2.1, (v18.2.2.2.1, v18.2.2.2.2)))))) false) then
       bif ((@wfB (@Td.pair @Td.bool (@Td.pair (@Td.int @IntKind.u32) (@Td.pair (@Td.int @IntKind.u32) (@Td.pair (@Td.int @IntKind.u32) @Td.bool)))) (v8.1.1, (v8.1.2.1, (v8.1.2.2.1, (v8.1.2.2.2.1, v8.1.2.2.2.2))))) && (@wfB (@Td.pair @Td.bool (@Td.pair (@Td.int @IntKind.u32) (@Td.pair (@Td.int @IntKind.u32) (@Td.pair (@Td.int @IntKind.u32) @Td.bool)))) (v9.1.1, (v9.1.2.1, (v9.1.2.2.1, (v9.1.2.2.2.1, v9.1.2.2.2.2)))))) then
        bif (cond true (@Decidable.decide (@Eq (Bool × (Int × (Int × (Int × Bool)))) (v8.1.1, (v8.1.2.1, (v8.1.2.2.1, (v8.1.2.2.2.1, v8.1.2.2.2.2)))) (v9.1.1, (v9.1.2.1, (v9.1.2.2.1, (v9.1.2.2.2.1, v9.1.2.2.2.2))))) (@decT (@Td.pair @Td.bool (@Td.pair (@Td.int @IntKind.u32) (@Td.pair (@Td.int @IntKind.u32) (@Td.pair (@Td.int @IntKind.u32) @Td.bool)))) (v8.1.1, (v8.1.2.1, (v8.1.2.2.1, (v8.1.2.2.2.1, v8.1.2.2.2.2)))) (v9.1.1, (v9.1.2.1, (v9.1.2.2.1, (v9.1.2.2.2.1, v9.1.2.2.2.2)))))) false) then
         bif (cond true (@BEq.beq Bool (@instBEqOfDecidableEq Bool @instDecidableEqBool) v8.2 v9.2) false) then
          Option.bind (@law26_alive N) fun (v19 : Bool) =>
          some ((cond true v19 false))
         else
          some (false)
        else
         some (false)
       else
        none
      else
       some (false)
     else
      none
    else
     some (false)
   else
    some (false)
  else
   some (false)
theorem law26_IpcpoJudges_S (s0 : Bool × (Int × (Int × (Int × (Bool))))) (l1 : List (Int × (List Int))) : (runK Tryd.prog (Ev61 N) 400 3 [(.pair .bool (.pair (.int .u32) (.pair (.int .u32) (.pair (.int .u32) .bool)))), (.sl (.pair (.int .u8) (.sl (.int .u8))))] [.bool] (s0, l1, ())).run = law26_IpcpoJudges N s0 l1 := by kernel_rfl
noncomputable def Ev62 : (R : Type) → Env R := Env.addFn (Ev61 N) 3 (fun R => fnK [(.pair .bool (.pair (.int .u32) (.pair (.int .u32) (.pair (.int .u32) .bool)))), (.sl (.pair (.int .u8) (.sl (.int .u8))))] [.bool] (fun c => law26_IpcpoJudges N c.1 c.2.1))
theorem Ev62_ok (R : Type) : EnvOK Tryd.prog (Ev62 N R) := EnvOK.addFn hmx (Ev61_ok N R) (Ev61_ok N _) (by kernel_rfl) (fun c => law26_IpcpoJudges_S N c.1 c.2.1)
noncomputable def law26_IpcpoTexts (a0 : Int) (s1 : List UInt8) : Option Bool :=
 bif (decide ((100 : Int) < (((List.length s1) : Nat) : Int))) then
  Option.bind (@law26_alive N) fun (v3 : Bool) =>
  some (v3)
 else
  Option.bind (ipcpo_Parse N s1) fun v3 =>
  Option.bind (ref26_Parse N s1) fun v4 =>
  Option.bind (@Jg.ipcpo_Text N a0) fun (v5 : (List UInt8)) =>
  Option.bind (ipcpo_Parse N v5) fun v6 =>
  Option.bind (@Jg.ipcpo_Text N a0) fun (v7 : (List UInt8)) =>
  Option.bind (ref26_Text N a0) fun v8 =>
  Option.bind (bif (decide (v7 = v8)) then
    some ((cond true (decide (v3.1 = v4.1)) false))
   else
    some (false)) fun (v9 : Bool) =>
  Option.bind (bif v9 then
    some ((cond true (decide (v3.2 = v4.2)) false))
   else
    some (false)) fun (v10 : Bool) =>
  Option.bind (bif v10 then
    some ((cond true (decide (v6.1 = a0)) false))
   else
    some (false)) fun (v11 : Bool) =>
  Option.bind (bif v11 then
    some ((cond true (decide (v6.2 = (0 : Int))) false))
   else
    some (false)) fun (v12 : Bool) =>
  bif v12 then
   Option.bind (@law26_alive N) fun (v13 : Bool) =>
   some ((cond true v13 false))
  else
   some (false)
theorem law26_IpcpoTexts_S (a0 : Int) (s1 : List UInt8) : (runK Tryd.prog (Ev62 N) 400 4 [(.int .u32), .str] [.bool] (a0, s1, ())).run = law26_IpcpoTexts N a0 s1 := by kernel_rfl
theorem law26_IpcpoTexts_C (a0 : Int) (s1 : List UInt8) (y : Bool) (h : law26_IpcpoTexts N a0 s1 = some y) : CallsK Tryd.prog 4 (valA [(.int .u32), .str] (a0, s1, ())) (tupV (valR [.bool] y)) := runK_ok hmx (Ev62_ok N _) (okFn_ok (by kernel_rfl)) (by rw [law26_IpcpoTexts_S]; exact h)
end
end Go.Proofs.YtkigpcolmioibaaDoor
namespace Go.Proofs.YtkigpcolmioibaaDoor
set_option maxRecDepth 100000
open Go.RowKit
set_option linter.unusedVariables false
set_option linter.unusedSimpArgs false
set_option maxRecDepth 100000
abbrev Op := Int × List Int
section
variable {N : Nat}
end
abbrev ParO := (((List Op) × ((Int) × Unit)) × Unit) ⊕ (Unit × ((List Op) × Unit))
section
variable {N : Nat}
def fin (o : ParO) : List Op × Int := Sum.elim (fun v => (v.1.1, v.1.2.1)) (fun v => (v.2.1, 0)) o
end
section
variable {N : Nat}
end
section
variable {N : Nat}
end
section
variable {N : Nat}
end
section
variable {N : Nat}
def findS (l : List Op) (k : Int) : Op × Bool := match l.find? (fun o => decide (o.1 = k)) with
 | some o => (o, true)
 | none => ((0, []), false)
end
def sz (k : Int) : Int := if k = 1 then 2 else if k = 3 then 3 else if k = 5 then 4 else if k = 7 then 0 else if k = 8 then 0 else -1
def may (o : Op) (proves : Bool) : Bool := decide ((o.2.length : Int) = sz o.1) && (!decide (o.1 = 3) || proves)
section
variable {N : Nat}
theorem lput4 (n : Int) (h : 0 ≤ n ∧ n < 18446744073709551616) (hN : 100 ≤ N) : octs_Put N n 4 false = some ([n / 16777216 % 256, n / 65536 % 256, n / 256 % 256, n % 256], 0) := put4 n h hN
theorem wrapU32 {x : Int} (h : 0 ≤ x ∧ x < 4294967296) : IntKind.wrap .u32 x = x := by rw [IntKind.wrap_u32]; omega
end
def NK (l : List Op) (own fresh : Int) (nak : List Op) : Prop := ∀ o ∈ nak, AllB o.2 ∧ ∃ x, findS l o.1 = (x, true) ∧ (own ≠ fresh → fresh ≠ 0 → o ≠ x)
theorem NK.snoc {l : List Op} {own fresh : Int} {nak : List Op} {o : Op} (h : NK l own fresh nak) (h1 : AllB o.2) {x : Op} (h2 : findS l o.1 = (x, true)) (h3 : own ≠ fresh → fresh ≠ 0 → o ≠ x) : NK l own fresh (nak ++ [o]) := fun p hp => by
 rcases List.mem_append.1 hp with h' | h'
 ·exact h p h'
 ·rw [List.mem_singleton] at h'; subst h'; exact ⟨h1, x, h2, h3⟩
section
variable {N : Nat}
end
theorem wf_u32' {n : Int} (h : (Lit.int .u32 n).wf = true) : 0 ≤ n ∧ n < 4294967296 := by
 simp only [Lit.wf, Bool.and_eq_true, decide_eq_true_eq, IntKind.min, IntKind.max, IntKind.signed, IntKind.bits] at h
 simp at h
 omega
abbrev Wt3 := Int × Int × Bool
section
variable {N : Nat}
end
section
variable {N : Nat}
def b2 (n : Int) : List Int := [n / 256 % 256, n % 256]
def b4 (n : Int) : List Int := [n / 16777216 % 256, n / 65536 % 256, n / 256 % 256, n % 256]
theorem b4_B (n : Int) : AllB (b4 n) := fun x hx => by
 simp only [b4, List.mem_cons, List.not_mem_nil, or_false] at hx
 rcases hx with rfl | rfl | rfl | rfl <;> omega
def valS (d : List Int) : Int := d.foldl (fun a x => a * 256 + x) 0
theorem val_b4 {n : Int} (h : 0 ≤ n ∧ n < 4294967296) : valS (b4 n) = n := by simp [valS, b4]; omega
end
section
variable {N : Nat}
theorem jget : Jg.octs_Get N = octs_Get N := rfl
def addrS (d : List Int) : Int := if d.length = 4 then valS d else 0
theorem get4S {d : List Int} (hd : AllB d) (hl : d.length = 4) (hN : 100 ≤ N) : octs_Get N d false = some (valS d, 0) ∧ 0 ≤ valS d ∧ valS d < 4294967296 := by
 match d, hl with
 | [x, y, z, u], _ =>
  have bx := hd x (by simp)
  have by' := hd y (by simp)
  have bz := hd z (by simp)
  have bu := hd u (by simp)
  exact ⟨by rw [show octs_Get N [x, y, z, u] false = some (((x * 256 + y) * 256 + z) * 256 + u, 0) from get4 x y z u bx by' bz bu hN]; simp [valS], by simp [valS]; omega⟩
theorem addrS_r {d : List Int} (hd : AllB d) : 0 ≤ addrS d ∧ addrS d < 4294967296 := by
 unfold addrS
 split
 ·rename_i h; exact (get4S (N := 100) hd h (by omega)).2
 ·omega
theorem address_is {d : List Int} (hd : AllB d) (hN : 100 ≤ N) : Jg.ipcpo_address N d = some (addrS d) := by
 unfold Jg.ipcpo_address addrS
 by_cases h : d.length = 4
 ·obtain ⟨h1, h2⟩ := get4S (N := N) hd h hN
  have c1 : ((d.length : Nat) : Int) = 4 := by omega
  rw [jget, if_pos h]
  simp only [c1, decide_true, Bool.not_true, cond_false, h1, Option.bind_some, wrapU32 h2]
 ·have c1 : ¬ ((d.length : Nat) : Int) = 4 := by omega
  rw [if_neg h]
  simp only [c1, decide_false, Bool.not_false, cond_true]
end
section
variable {N : Nat}
end
theorem b4_len (n : Int) : (b4 n).length = 4 := rfl
theorem addr_b4 {n : Int} (h : 0 ≤ n ∧ n < 4294967296) : addrS (b4 n) = n := by
 unfold addrS
 rw [if_pos (b4_len n), val_b4 h]
section
variable {own G D dns qo : Int} {qa : Bool} (ho : 0 ≤ own ∧ own < 4294967296) (hG : 0 ≤ G ∧ G < 4294967296) (hD : 0 ≤ D ∧ D < 4294967296) (hn : 0 ≤ dns ∧ dns < 4294967296)
include ho in
include hn in
end
section
variable {rj : List Op → Op → Bool} {nk : Op → Option Op} {x y z : Op} {v w u : Option Op}
end
section
variable {w w' : Wt3} {pr pr' : Bool} {own g G D dns qo : Int} {qa : Bool} (ho : 0 ≤ own ∧ own < 4294967296) (hG : 0 ≤ G ∧ G < 4294967296) (hD : 0 ≤ D ∧ D < 4294967296) (hn : 0 ≤ dns ∧ dns < 4294967296)
include ho in
include ho in
include ho hn in
end
section
variable {w : Wt3} {pr : Bool} {own g G D dns : Int} (hG : 0 ≤ G ∧ G < 4294967296) (hD : 0 ≤ D ∧ D < 4294967296) (g0 : ¬ G = 0) (d0 : ¬ D = 0)
include hG g0 in
include hD d0 in
end
theorem alive26 : law26_alive 200000 = some true := by decide +kernel
section
variable {N : Nat}
end
def wf1 (x : Op) : Prop := (0 ≤ x.1 ∧ x.1 < 256) ∧ AllB x.2
def dg (n : Int) : List UInt8 := Lib.itoa n
def textS (a : Int) : List UInt8 := dg (a / 16777216 % 256) ++ 46 :: (dg (a / 65536 % 256) ++ 46 :: (dg (a / 256 % 256) ++ 46 :: dg (a % 256)))
def runD : List UInt8 → Nat → Option Nat
 | [], v => some v
 | c :: r, v => if 48 ≤ c.toNat ∧ c.toNat ≤ 57 ∧ v ≤ 255 then runD r (10 * v + (c.toNat - 48)) else none
theorem dg_all : ∀ b : Nat, b < 256 → runD (dg (b : Int)) 0 = some b ∧ (dg (b : Int)).length ≤ 3 ∧ (dg (b : Int)).all (fun c => c != 46) = true ∧ puS8 (dg (b : Int)) = .inl (b : Int) := by decide +kernel
theorem rdg_all : ∀ b : Nat, b < 256 → ref26_digits 200000 (b : Int) = some (dg (b : Int)) := by decide +kernel
theorem dg_of {b : Int} (h : 0 ≤ b ∧ b < 256) : ∃ n : Nat, n < 256 ∧ (n : Int) = b := ⟨b.toNat, by omega, by omega⟩
theorem dg_len {b : Int} (h : 0 ≤ b ∧ b < 256) : (dg b).length ≤ 3 := by
 obtain ⟨n, h1, rfl⟩ := dg_of h
 exact (dg_all n h1).2.1
theorem textS_len (a : Int) : (textS a).length ≤ 15 := by
 have h1 := dg_len (b := a / 16777216 % 256) (by omega)
 have h2 := dg_len (b := a / 65536 % 256) (by omega)
 have h3 := dg_len (b := a / 256 % 256) (by omega)
 have h4 := dg_len (b := a % 256) (by omega)
 unfold textS
 simp only [List.length_append, List.length_cons]
 omega
theorem jlaid {N : Nat} : Jg.ipcpo_laid N = ipcpo_laid N := rfl
theorem laid_is (a : Int) (ha : 0 ≤ a ∧ a < 4294967296) : ipcpo_laid 200000 a = some (b4 a) := by
 unfold ipcpo_laid
 have e : IntKind.wrap .u64 a = a := wrapU64 (by omega) (by omega)
 rw [e, lput4 (N := 200000) a (by omega) (by omega)]
 rfl
theorem wrap_b (x : Int) (h : 0 ≤ x ∧ x < 256) : IntKind.wrap .i64 x = x := wrap64 (by omega) (by omega)
theorem text_is (a : Int) (ha : 0 ≤ a ∧ a < 4294967296) : Jg.ipcpo_Text 200000 a = some (textS a) := by
 have hl : ∀ (p : List (List UInt8)), p.length ≤ 4 → roomB (p.length + 1) 16 = true := fun p hp => roomB_of (by have := big_len; omega) (by omega)
 have h := gl_run (G := fun (X : (((List (Int)) × ((Int) × ((Int) × Unit))) × ((List (List UInt8)) × Unit)) → Option ((Unit × ((List (List UInt8)) × Unit)))) c => Jg.ipcpo_Text_L3 200000 X c.1.1 c.1.2.1 c.1.2.2.1 c.2.1)
  (fun i => ((b4 a, ((4 : Int), ((i : Int), ()))), (((b4 a).take i).map dg, ()))) 4 ((), ((b4 a).map dg, ())) (fun X i hi => by
  have hi' : i < (b4 a).length := by rw [show (b4 a).length = 4 from rfl]; exact hi
  have c1 : ((i : Int) < 4) := by omega
  have c2 : IntKind.wrap .i64 ((i : Int) + 1) = ((i + 1 : Nat) : Int) := by rw [wrap64 (by omega) (by omega)]; omega
  have hB := b4_B a (b4 a)[i] (List.getElem_mem hi')
  have c3 : IntKind.wrap .i64 (b4 a)[i] = (b4 a)[i] := wrap_b _ hB
  have c4 : decide ((-9223372036854775808 : Int) ≤ (b4 a)[i] ∧ (b4 a)[i] ≤ (9223372036854775807 : Int)) = true := decide_eq_true ⟨by omega, by omega⟩
  have c5 : roomB ((((b4 a).take i).map dg).length + ([Go.Lib.itoa (b4 a)[i]] : List (List UInt8)).length) 16 = true := roomB_of (by have := big_len; simp; omega) (by simp; omega)
  have c6 : ((b4 a).take i).map dg ++ [Go.Lib.itoa (b4 a)[i]] = ((b4 a).take (i + 1)).map dg := by
   rw [List.take_succ_eq_append_getElem hi', List.map_append]; rfl
  simp only [Jg.ipcpo_Text_L3, c1, decide_true, cond_true, getI_lt (b4 a) i hi', Option.bind_some, c3, c4, c5, c2, c6]) (fun X => by
  simp [Jg.ipcpo_Text_L3, show (b4 a).length = 4 from rfl]
  rfl) 200000 0 (by omega) (by omega)
 simp only [Int.natCast_zero, List.take_zero, List.map_nil] at h
 have hb := laid_is a ha
 have hj : Lib.join ((b4 a).map dg) [46] = textS a := by
  simp only [b4, List.map_cons, List.map_nil, Lib.join_cons, Lib.joinTail, textS, List.flatten_cons, List.flatten_nil, List.append_nil]
  simp
 have ht := textS_len a
 unfold Jg.ipcpo_Text
 rw [jlaid, hb, Option.bind_some]
 unfold Jg.ipcpo_Text_L3_R
 have e4 : (((b4 a).length : Nat) : Int) = 4 := rfl
 rw [e4, h]
 simp only [Option.bind_some]
 have e5 : Lib.join ((b4 a).map dg) (Array.toList (List.toArray ([46] : List UInt8))) = textS a := hj
 have e6 : decide (((b4 a).map dg).length ≤ 140737488355328 ∧ (textS a).length ≤ 140737488355328) = true := decide_eq_true ⟨by simp [b4], by omega⟩
 simp only [e5, e6, cond_true]
theorem rtext_is (a : Int) (ha : 0 ≤ a ∧ a < 4294967296) : ref26_Text 200000 a = some (textS a) := by
 have key : ∀ b : Int, 0 ≤ b ∧ b < 256 → ref26_digits 200000 b = some (dg b) := fun b hb => by
  obtain ⟨n, h1, rfl⟩ := dg_of hb
  exact rdg_all n h1
 have w : ∀ x : Int, 0 ≤ x ∧ x < 4294967296 → IntKind.wrap .u32 x = x := fun x hx => by rw [IntKind.wrap_u32]; omega
 have d1 : Int.tdiv a 16777216 = a / 16777216 := Int.tdiv_eq_ediv_of_nonneg ha.1
 have d2 : Int.tdiv a 65536 = a / 65536 := Int.tdiv_eq_ediv_of_nonneg ha.1
 have d3 : Int.tdiv a 256 = a / 256 := Int.tdiv_eq_ediv_of_nonneg ha.1
 have m0 : ∀ x : Int, 0 ≤ x → Int.tmod x 256 = x % 256 := fun x hx => Int.tmod_eq_emod_of_nonneg hx
 have k1 := key (a / 16777216) (by omega)
 have k2 := key (a / 65536 % 256) (by omega)
 have k3 := key (a / 256 % 256) (by omega)
 have k4 := key (a % 256) (by omega)
 have l1 := dg_len (b := a / 16777216) (by omega)
 have l2 := dg_len (b := a / 65536 % 256) (by omega)
 have l3 := dg_len (b := a / 256 % 256) (by omega)
 have l4 := dg_len (b := a % 256) (by omega)
 have hm := big_len
 have e0 : (Array.toList (List.toArray ([46] : List UInt8))) = [46] := rfl
 have ew : a / 16777216 % 256 = a / 16777216 := by omega
 unfold ref26_Text
 rw [d1, d2, d3, w _ (by omega), w _ (by omega), w _ (by omega), m0 _ (by omega), m0 _ (by omega), m0 _ ha.1]
 simp only [k1, k2, k3, k4, Option.bind_some, e0, List.length_append, List.length_cons, List.length_nil]
 rw [decide_eq_true (by omega), decide_eq_true (by omega), decide_eq_true (by omega), decide_eq_true (by omega), decide_eq_true (by omega), decide_eq_true (by omega)]
 simp only [cond_true]
 unfold textS
 rw [ew]
 simp
theorem dotI_app : ∀ (p r : List UInt8), p.all (fun c => c != 46) = true → dotI (p ++ 46 :: r) = p.length
 | [], r, _ => by simp [dotI, Lib.indexByte]
 | c :: p, r, h => by
  simp only [List.all_cons, Bool.and_eq_true, bne_iff_ne, ne_eq] at h
  have ih := dotI_app p r (by simpa using h.2)
  unfold dotI at ih ⊢
  rw [List.cons_append, Lib.indexByte, ih]
  have h1 : (c == 46) = false := by simp [h.1]
  have h2 : ((p.length : Int) == -1) = false := beq_eq_false_iff_ne.2 (by omega)
  simp only [h1, h2, Bool.false_eq_true, if_false, List.length_cons]
  omega
theorem dotI_none : ∀ (p : List UInt8), p.all (fun c => c != 46) = true → dotI p = -1
 | [], _ => by simp [dotI, Lib.indexByte]
 | c :: p, h => by
  simp only [List.all_cons, Bool.and_eq_true, bne_iff_ne, ne_eq] at h
  have ih := dotI_none p (by simpa using h.2)
  unfold dotI at ih ⊢
  rw [Lib.indexByte, ih]
  have h1 : (c == 46) = false := by simp [h.1]
  simp [h1]
theorem spl_app (n : Nat) (p r : List UInt8) (h : p.all (fun c => c != 46) = true) : spl (n + 1) (p ++ 46 :: r) = (p ++ 46 :: r, p) :: spl n r := by
 have hd := dotI_app p r h
 rw [spl, hd, if_neg (by omega)]
 have e : ((p.length : Nat) : Int).toNat = p.length := by omega
 rw [e]
 have e1 : (p ++ 46 :: r).take p.length = p := by simp
 have e2 : (p ++ 46 :: r).drop (p.length + 1) = r := by
  rw [List.drop_append]
  simp
 rw [e1, e2]
theorem spl_one (n : Nat) (p : List UInt8) (h : p.all (fun c => c != 46) = true) : spl n p = [(p, p)] := by
 cases n with
 | zero => rfl
 | succ n => rw [spl, dotI_none p h, if_pos (by omega)]
theorem prs_rd_dg {b : Int} (hb : 0 ≤ b ∧ b < 256) (x y : Int) (l : List Int) (hl : l.length ≤ 3) : prs_rd (dg b) (x, y, l) = some (.inl (x, y, l ++ [b])) := by
 obtain ⟨n, h1, rfl⟩ := dg_of hb
 obtain ⟨_, q2, _, q4⟩ := dg_all n h1
 have c1 : decide ((dg (n : Int)).length ≤ 281474976710656) = true := decide_eq_true (by omega)
 have c2 : decide (((l.length : Nat) : Int) = 4) = false := decide_eq_false (by omega)
 have c3 : IntKind.wrap .u8 (n : Int) = n := by rw [IntKind.wrap_u8]; omega
 have c4 : roomB (l.length + ([(n : Int)] : List Int).length) 1 = true := roomB_of (by have := big_len; simp; omega) (by simp; omega)
 unfold prs_rd
 simp only [c1, cond_true, q4, Sum.elim_inl, c2, Option.bind_some, cond_false, c3, c4]
theorem addr_b4' {n : Int} (h : 0 ≤ n ∧ n < 4294967296) : addrS [n / 16777216 % 256, n / 65536 % 256, n / 256 % 256, n % 256] = n := addr_b4 h
theorem prs_end_is (s : List UInt8) (b : List Int) (hb : AllB b) : prs_end 200000 s b = if textS (addrS b) = s then some (addrS b, 0) else some (0, 3) := by
 unfold prs_end
 rw [address_is (N := 200000) hb (by omega), Option.bind_some, text_is _ (addrS_r hb), Option.bind_some]
 by_cases h : textS (addrS b) = s
 ·rw [if_pos h, decide_eq_true h]; rfl
 ·rw [if_neg h, decide_eq_false h]; rfl
theorem prs_text (a : Int) (ha : 0 ≤ a ∧ a < 4294967296) : ipcpo_Parse 200000 (textS a) = some (a, 0) := by
 have key : ∀ b : Int, 0 ≤ b ∧ b < 256 → (dg b).all (fun c => c != 46) = true := fun b hb => by
  obtain ⟨n, h1, rfl⟩ := dg_of hb
  exact (dg_all n h1).2.2.1
 have b0 : 0 ≤ a / 16777216 % 256 ∧ a / 16777216 % 256 < 256 := by omega
 have b1 : 0 ≤ a / 65536 % 256 ∧ a / 65536 % 256 < 256 := by omega
 have b2 : 0 ≤ a / 256 % 256 ∧ a / 256 % 256 < 256 := by omega
 have b3 : 0 ≤ a % 256 ∧ a % 256 < 256 := by omega
 have hlen := textS_len a
 have h3 : 3 ≤ (textS a).length := by unfold textS; simp only [List.length_append, List.length_cons]; omega
 obtain ⟨m, hm⟩ : ∃ m, (textS a).length + 1 = m + 3 := ⟨(textS a).length - 2, by omega⟩
 have hspl : spl ((textS a).length + 1) (textS a) = [(textS a, dg (a / 16777216 % 256)), ((dg (a / 65536 % 256) ++ 46 :: (dg (a / 256 % 256) ++ 46 :: dg (a % 256))), dg (a / 65536 % 256)), ((dg (a / 256 % 256) ++ 46 :: dg (a % 256)), dg (a / 256 % 256)), (dg (a % 256), dg (a % 256))] := by
  rw [hm]
  have e := spl_app (m + 2) (dg (a / 16777216 % 256)) (dg (a / 65536 % 256) ++ 46 :: (dg (a / 256 % 256) ++ 46 :: dg (a % 256))) (key _ b0)
  have e1 := spl_app (m + 1) (dg (a / 65536 % 256)) (dg (a / 256 % 256) ++ 46 :: dg (a % 256)) (key _ b1)
  have e2 := spl_app m (dg (a / 256 % 256)) (dg (a % 256)) (key _ b2)
  have e3 := spl_one m (dg (a % 256)) (key _ b3)
  rw [e1, e2, e3] at e
  exact e
 unfold ipcpo_Parse
 rw [decide_eq_true (by omega)]
 simp only [cond_true]
 have hN : (spl ((textS a).length + 1) (textS a)).length = 4 := by rw [hspl]; rfl
 have p0 : spp ((textS a).length + 1) (textS a) 0 = dg (a / 16777216 % 256) := by unfold spp; rw [hspl]; rfl
 have p1 : spp ((textS a).length + 1) (textS a) 1 = dg (a / 65536 % 256) := by unfold spp; rw [hspl]; rfl
 have p2 : spp ((textS a).length + 1) (textS a) 2 = dg (a / 256 % 256) := by unfold spp; rw [hspl]; rfl
 have p3 : spp ((textS a).length + 1) (textS a) 3 = dg (a % 256) := by unfold spp; rw [hspl]; rfl
 rw [hN]
 have hr : rr (fun k d => prs_rd (spp ((textS a).length + 1) (textS a) k) d) 4 0 ((0 : Int), (0 : Int), []) = some (.inl (0, 0, [a / 16777216 % 256, a / 65536 % 256, a / 256 % 256, a % 256])) := by
  simp only [rr, p0, p1, p2, p3, prs_rd_dg b0 0 0 [] (by simp), Nat.zero_add, Nat.reduceAdd]
  rw [prs_rd_dg b1 0 0 _ (by simp)]
  simp only [prs_rd_dg b2 0 0 _ (show ([] ++ [a / 16777216 % 256] ++ [a / 65536 % 256] : List Int).length ≤ 3 by simp)]
  simp only [prs_rd_dg b3 0 0 _ (show ([] ++ [a / 16777216 % 256] ++ [a / 65536 % 256] ++ [a / 256 % 256] : List Int).length ≤ 3 by simp)]
  rfl
 rw [hr]
 simp only [Option.bind_some, Sum.elim_inl]
 rw [prs_end_is (textS a) [a / 16777216 % 256, a / 65536 % 256, a / 256 % 256, a % 256] (b4_B a), addr_b4' ha, if_pos rfl]
theorem spp_len (n : Nat) (s : List UInt8) (h : s.length < n) (k : Nat) (hk : k < (spl n s).length) : (spp n s k).length ≤ s.length := by
 have h1 := spr_len n s h k hk
 rcases spl_step n s h k hk with ⟨_, _, c, _⟩ | ⟨_, _, c⟩
 ·rw [c, List.length_take]; omega
 ·rw [c]; omega
theorem rr_total (s : List UInt8) (hs : s.length ≤ 100) : ∀ (m k : Nat) (b : List Int), m + k = (spl (s.length + 1) s).length → AllB b → b.length ≤ 4 →
  (∃ b', rr (fun k d => prs_rd (spp (s.length + 1) s k) d) m k ((0 : Int), (0 : Int), b) = some (.inl (0, 0, b')) ∧ AllB b') ∨ rr (fun k d => prs_rd (spp (s.length + 1) s k) d) m k ((0 : Int), (0 : Int), b) = some (.inr (0, (3, ())))
 | 0, k, b, _, hb, _ => .inl ⟨b, rfl, hb⟩
 | m + 1, k, b, hk, hb, hl => by
  have hp := spp_len (s.length + 1) s (Nat.lt_succ_self _) k (by omega)
  have c1 : decide ((spp (s.length + 1) s k).length ≤ 281474976710656) = true := decide_eq_true (by omega)
  unfold rr
  have hstep : prs_rd (spp (s.length + 1) s k) ((0 : Int), (0 : Int), b) = some (.inr (0, (3, ()))) ∨ ∃ v : Int, (0 ≤ v ∧ v < 256) ∧ b.length < 4 ∧ prs_rd (spp (s.length + 1) s k) ((0 : Int), (0 : Int), b) = some (.inl (0, 0, b ++ [v])) := by
   unfold prs_rd
   simp only [c1, cond_true]
   rcases puS8 (spp (s.length + 1) s k) with u | z
   ·simp only [Sum.elim_inl]
    by_cases h4 : b.length = 4
    ·left
     have : decide (((b.length : Nat) : Int) = 4) = true := decide_eq_true (by omega)
     simp only [this, Option.bind_some, cond_true, cond_false]
    ·right
     have c2 : decide (((b.length : Nat) : Int) = 4) = false := decide_eq_false (by omega)
     have c4 : roomB (b.length + ([IntKind.wrap .u8 u] : List Int).length) 1 = true := roomB_of (by have := big_len; simp; omega) (by simp; omega)
     exact ⟨IntKind.wrap .u8 u, by rw [IntKind.wrap_u8]; omega, by omega, by simp only [c2, Option.bind_some, cond_false, c4, cond_true]⟩
   ·exact .inl rfl
  rcases hstep with h | ⟨v, hv, hb4, h⟩
  ·rw [h]
   exact .inr rfl
  ·rw [h]
   exact rr_total s hs m (k + 1) (b ++ [v]) (by omega) (hb.append fun x hx => by rw [List.mem_singleton] at hx; subst hx; exact hv) (by rw [List.length_append]; simp; omega)
theorem prs_total (s : List UInt8) (hs : s.length ≤ 100) : ∃ r e, ipcpo_Parse 200000 s = some (r, e) ∧ ((r = 0 ∧ e = 3) ∨ (e = 0 ∧ (0 ≤ r ∧ r < 4294967296) ∧ textS r = s)) := by
 unfold ipcpo_Parse
 rw [decide_eq_true (by omega)]
 simp only [cond_true]
 rcases rr_total s hs _ 0 [] (Nat.add_zero _) (fun x hx => by cases hx) (by simp) with ⟨b, h1, h2⟩ | h1
 ·rw [h1]
  simp only [Option.bind_some, Sum.elim_inl]
  rw [prs_end_is s b h2]
  by_cases h : textS (addrS b) = s
  ·rw [if_pos h]
   exact ⟨_, _, rfl, .inr ⟨rfl, addrS_r h2, h⟩⟩
  ·rw [if_neg h]
   exact ⟨_, _, rfl, .inl ⟨rfl, rfl⟩⟩
 ·rw [h1]
  exact ⟨_, _, rfl, .inl ⟨rfl, rfl⟩⟩
abbrev PS := (List UInt8 × (Int × (Int × Unit))) × ((Arr Int 4) × Unit)
abbrev PO := ((Int × (Int × Unit)) × Unit) ⊕ ((List UInt8 × (Int × Unit)) × ((Arr Int 4) × Unit))
noncomputable def pG (X : PS → Option PO) (c : PS) : Option PO := ref26_Parse_L4 200000 X c.1.1 c.1.2.1 c.1.2.2.1 c.2.1
def pst (s : List UInt8) (k i : Nat) (r : Arr Int 4) : PS := ((s, ((k : Int), ((i : Int), ()))), (r, ()))
theorem p_dot (X : PS → Option PO) (s : List UInt8) (k i : Nat) (r : Arr Int 4) (hi : i < s.length) (h16 : i < 16) (hl : s.length ≤ 100) (hk : k ≤ 3) (hc : s[i].toNat = 46) :
  pG X (pst s k i r) = if k = 3 then some (.inl ((0, (3, ())), ())) else X (pst s (k + 1) (i + 1) r) := by
 have c1 : decide ((i : Int) < (s.length : Int)) = true := decide_eq_true (by omega)
 have c2 : decide ((i : Int) < 16) = true := decide_eq_true (by omega)
 have c3 : IntKind.wrap .i64 ((i : Int) + 1) = ((i + 1 : Nat) : Int) := by rw [wrap64 (by omega) (by omega)]; omega
 have c4 : IntKind.wrap .i64 ((k : Int) + 1) = ((k + 1 : Nat) : Int) := by rw [wrap64 (by omega) (by omega)]; omega
 have c5 : decide (((s[i].toNat : Nat) : Int) = 46) = true := decide_eq_true (by omega)
 unfold pG pst ref26_Parse_L4
 simp only [c1, c2, cond_true, Option.bind_some, getI_lt s i hi, c5, c4, c3]
 by_cases h : k = 3
 ·rw [if_pos h, decide_eq_true (by omega)]; rfl
 ·rw [if_neg h, decide_eq_false (by omega)]; rfl
theorem p_no (X : PS → Option PO) (s : List UInt8) (k i : Nat) (r : Arr Int 4) (v : Int) (hi : i < s.length) (h16 : i < 16) (hl : s.length ≤ 100) (hk : k ≤ 3) (hv : r.l[k]? = some v) (hc : ¬ s[i].toNat = 46) (hd : ¬ (48 ≤ s[i].toNat ∧ s[i].toNat ≤ 57 ∧ v ≤ 255)) :
  pG X (pst s k i r) = some (.inl ((0, (3, ())), ())) := by
 have c1 : decide ((i : Int) < (s.length : Int)) = true := decide_eq_true (by omega)
 have c2 : decide ((i : Int) < 16) = true := decide_eq_true (by omega)
 have c5 : decide (((s[i].toNat : Nat) : Int) = 46) = false := decide_eq_false (by omega)
 have c6 : decide ((0 : Int) ≤ (k : Int) ∧ (k : Int) < ((4 : Nat) : Int)) = true := decide_eq_true ⟨by omega, by omega⟩
 have c7 : ((k : Int)).toNat = k := by omega
 unfold pG pst ref26_Parse_L4
 simp only [c1, c2, cond_true, Option.bind_some, getI_lt s i hi, c5, cond_false, c6, c7, hv]
 by_cases h1 : s[i].toNat < 48
 ·rw [decide_eq_true (show ((s[i].toNat : Nat) : Int) < 48 by omega)]; rfl
 ·rw [decide_eq_false (show ¬ ((s[i].toNat : Nat) : Int) < 48 by omega)]
  by_cases h2 : 57 < s[i].toNat
  ·rw [decide_eq_true (show (57 : Int) < ((s[i].toNat : Nat) : Int) by omega)]; rfl
  ·rw [decide_eq_false (show ¬ (57 : Int) < ((s[i].toNat : Nat) : Int) by omega), decide_eq_true (show (255 : Int) < v by omega)]; rfl
theorem p_dig (X : PS → Option PO) (s : List UInt8) (k i : Nat) (r : Arr Int 4) (v : Int) (hi : i < s.length) (h16 : i < 16) (hl : s.length ≤ 100) (hk : k ≤ 3) (hv : r.l[k]? = some v) (hv0 : 0 ≤ v) (h1 : 48 ≤ s[i].toNat) (h2 : s[i].toNat ≤ 57) (h3 : v ≤ 255) :
  pG X (pst s k i r) = X (pst s k (i + 1) (r.set k (10 * v + ((s[i].toNat : Int) - 48)))) := by
 have c1 : decide ((i : Int) < (s.length : Int)) = true := decide_eq_true (by omega)
 have c2 : decide ((i : Int) < 16) = true := decide_eq_true (by omega)
 have c3 : IntKind.wrap .i64 ((i : Int) + 1) = ((i + 1 : Nat) : Int) := by rw [wrap64 (by omega) (by omega)]; omega
 have c5 : decide (((s[i].toNat : Nat) : Int) = 46) = false := decide_eq_false (by omega)
 have c6 : decide ((0 : Int) ≤ (k : Int) ∧ (k : Int) < ((4 : Nat) : Int)) = true := decide_eq_true ⟨by omega, by omega⟩
 have c7 : ((k : Int)).toNat = k := by omega
 have d1 : decide (((s[i].toNat : Nat) : Int) < 48) = false := decide_eq_false (by omega)
 have d2 : decide ((57 : Int) < ((s[i].toNat : Nat) : Int)) = false := decide_eq_false (by omega)
 have d3 : decide ((255 : Int) < v) = false := decide_eq_false (by omega)
 have w1 : IntKind.wrap .u8 (((s[i].toNat : Nat) : Int) - 48) = (s[i].toNat : Int) - 48 := by rw [IntKind.wrap_u8]; omega
 have w : ∀ x : Int, 0 ≤ x ∧ x < 4294967296 → IntKind.wrap .u32 x = x := fun x hx => by rw [IntKind.wrap_u32]; omega
 unfold pG pst ref26_Parse_L4
 simp only [c1, c2, cond_true, Option.bind_some, getI_lt s i hi, c5, cond_false, c6, c7, hv, d1, d2, d3, w1, c3]
 rw [w (10 * v) (by omega), w ((s[i].toNat : Int) - 48) (by omega), w (10 * v + ((s[i].toNat : Int) - 48)) (by omega)]
theorem p_end (X : PS → Option PO) (s : List UInt8) (k i : Nat) (r : Arr Int 4) (h : s.length ≤ i ∨ 16 ≤ i) : pG X (pst s k i r) = some (.inr ((s, ((k : Int), ())), (r, ()))) := by
 unfold pG pst ref26_Parse_L4
 by_cases h1 : i < s.length
 ·have c1 : decide ((i : Int) < (s.length : Int)) = true := decide_eq_true (by omega)
  have c2 : decide ((i : Int) < 16) = false := decide_eq_false (by omega)
  simp only [c1, c2, cond_true, cond_false, Option.bind_some]
 ·have c1 : decide ((i : Int) < (s.length : Int)) = false := decide_eq_false (by omega)
  simp only [c1, cond_false, Option.bind_some]
def AllW (l : List Int) : Prop := ∀ x ∈ l, 0 ≤ x ∧ x < 4294967296
theorem set_l {n : Nat} (r : Arr Int n) (k : Nat) (v : Int) : (r.set k v).l = r.l.set k v := rfl
def z4 : Arr Int 4 := Arr.cons 0 (Arr.cons 0 (Arr.cons 0 (Arr.cons 0 Arr.nil)))
theorem p_total (s : List UInt8) (hs : s.length ≤ 100) : ∃ o, gl pG 200000 (pst s 0 0 z4) = some o ∧ (o = .inl ((0, (3, ())), ()) ∨ ∃ (k : Nat) (r : Arr Int 4), o = .inr ((s, ((k : Int), ())), (r, ())) ∧ AllW r.l) := by
 refine gl_inv (G := pG) (fun n c => ∃ (k i : Nat) (r : Arr Int 4), c = pst s k i r ∧ k ≤ 3 ∧ i ≤ s.length ∧ n = s.length - i ∧ AllW r.l)
  (fun o => o = .inl ((0, (3, ())), ()) ∨ ∃ (k : Nat) (r : Arr Int 4), o = .inr ((s, ((k : Int), ())), (r, ())) ∧ AllW r.l) (fun X n c ⟨k, i, r, hc, hk, hi, hn, hr⟩ => ?_) 200000 s.length _ (by omega) ⟨0, 0, z4, rfl, by omega, by omega, rfl, ?_⟩
 ·subst hc
  by_cases hlt : i < s.length ∧ i < 16
  ·obtain ⟨h1, h2⟩ := hlt
   have hkl : k < r.l.length := by rw [r.h]; omega
   have hv : r.l[k]? = some r.l[k] := List.getElem?_eq_getElem hkl
   have hvw := hr r.l[k] (List.getElem_mem hkl)
   by_cases hd : s[i].toNat = 46
   ·rw [p_dot X s k i r h1 h2 hs hk hd]
    by_cases h3 : k = 3
    ·rw [if_pos h3]; exact .inl ⟨_, rfl, .inl rfl⟩
    ·rw [if_neg h3]
     exact .inr ⟨s.length - (i + 1), _, by omega, ⟨k + 1, i + 1, r, rfl, by omega, h1, rfl, hr⟩, rfl⟩
   ·by_cases hg : 48 ≤ s[i].toNat ∧ s[i].toNat ≤ 57 ∧ r.l[k] ≤ 255
    ·rw [p_dig X s k i r r.l[k] h1 h2 hs hk hv hvw.1 hg.1 hg.2.1 hg.2.2]
     refine .inr ⟨s.length - (i + 1), _, by omega, ⟨k, i + 1, _, rfl, hk, h1, rfl, fun x hx => ?_⟩, rfl⟩
     rw [set_l] at hx
     rcases List.mem_or_eq_of_mem_set hx with hx | rfl
     ·exact hr x hx
     ·omega
    ·exact .inl ⟨_, p_no X s k i r r.l[k] h1 h2 hs hk hv hd hg, .inl rfl⟩
  ·exact .inl ⟨_, p_end X s k i r (by omega), .inr ⟨k, r, rfl, hr⟩⟩
 ·intro x hx
  have : x = 0 := by
   simp [z4, Arr.cons, Arr.nil] at hx
   exact hx
  omega
theorem p_fin (s : List UInt8) (k : Nat) (r : Arr Int 4) (x y z u : Int) (hr : r.l = [x, y, z, u]) (hw : AllW r.l) (h : gl pG 200000 (pst s 0 0 z4) = some (.inr ((s, ((k : Int), ())), (r, ())))) :
  ref26_Parse 200000 s = if k = 3 ∧ x ≤ 255 ∧ y ≤ 255 ∧ z ≤ 255 ∧ u ≤ 255 then (if textS (16777216 * x + 65536 * y + 256 * z + u) = s then some (16777216 * x + 65536 * y + 256 * z + u, 0) else some (0, 3)) else some (0, 3) := by
 rw [hr] at hw
 have hx := hw x (by simp)
 have hy := hw y (by simp)
 have hz := hw z (by simp)
 have hu := hw u (by simp)
 have h' : ref26_Parse_L4_R 200000 ((s, ((0 : Int), ((0 : Int), ()))), (z4, ())) = some (.inr ((s, ((k : Int), ())), (r, ()))) := h
 have g0 : ([x, y, z, u] : List Int)[(Int.toNat 0)]? = some x := rfl
 have g1 : ([x, y, z, u] : List Int)[(Int.toNat 1)]? = some y := rfl
 have g2 : ([x, y, z, u] : List Int)[(Int.toNat 2)]? = some z := rfl
 have g3 : ([x, y, z, u] : List Int)[(Int.toNat 3)]? = some u := rfl
 have w : ∀ x : Int, 0 ≤ x ∧ x < 4294967296 → IntKind.wrap .u32 x = x := fun x hx => by rw [IntKind.wrap_u32]; omega
 unfold ref26_Parse
 rw [show ((Arr.cons (0 : Int) (Arr.cons (0 : Int) (Arr.cons (0 : Int) (Arr.cons (0 : Int) (Arr.nil : Arr Int 0)))) : Arr Int 4)) = z4 from rfl, h']
 simp only [Option.bind_some, Sum.elim_inr, hr, g0, g1, g2, g3]
 by_cases hk : k = 3
 ·rw [decide_eq_true (show (k : Int) = 3 by omega)]
  by_cases k0 : x ≤ 255
  ·rw [decide_eq_false (show ¬ (255 : Int) < x by omega)]
   by_cases k1 : y ≤ 255
   ·rw [decide_eq_false (show ¬ (255 : Int) < y by omega)]
    by_cases k2 : z ≤ 255
    ·rw [decide_eq_false (show ¬ (255 : Int) < z by omega)]
     by_cases k3 : u ≤ 255
     ·rw [decide_eq_false (show ¬ (255 : Int) < u by omega), if_pos ⟨hk, k0, k1, k2, k3⟩]
      rw [w (16777216 * x) (by omega), w (65536 * y) (by omega), w (256 * z) (by omega), w (16777216 * x + 65536 * y) (by omega), w (16777216 * x + 65536 * y + 256 * z) (by omega), w (16777216 * x + 65536 * y + 256 * z + u) (by omega)]
      simp only [Bool.not_true, cond_false, cond_true, Option.bind_some, rtext_is _ (show 0 ≤ 16777216 * x + 65536 * y + 256 * z + u ∧ 16777216 * x + 65536 * y + 256 * z + u < 4294967296 by omega)]
      by_cases ht : textS (16777216 * x + 65536 * y + 256 * z + u) = s
      ·rw [if_pos ht, decide_eq_true ht]; rfl
      ·rw [if_neg ht, decide_eq_false ht]; rfl
     ·rw [decide_eq_true (show (255 : Int) < u by omega), if_neg (by omega)]; rfl
    ·rw [decide_eq_true (show (255 : Int) < z by omega), if_neg (by omega)]; rfl
   ·rw [decide_eq_true (show (255 : Int) < y by omega), if_neg (by omega)]; rfl
  ·rw [decide_eq_true (show (255 : Int) < x by omega), if_neg (by omega)]; rfl
 ·rw [decide_eq_false (show ¬ (k : Int) = 3 by omega), if_neg (by omega)]; rfl
theorem l4_ex (r : Arr Int 4) : ∃ x y z u, r.l = [x, y, z, u] := by
 obtain ⟨l, h⟩ := r
 match l, h with
 | [x, y, z, u], _ => exact ⟨x, y, z, u, rfl⟩
theorem rprs_total (s : List UInt8) (hs : s.length ≤ 100) : ∃ r e, ref26_Parse 200000 s = some (r, e) ∧ ((r = 0 ∧ e = 3) ∨ (e = 0 ∧ (0 ≤ r ∧ r < 4294967296) ∧ textS r = s)) := by
 obtain ⟨o, h1, h2⟩ := p_total s hs
 rcases h2 with rfl | ⟨k, r, rfl, hr⟩
 ·have h' : ref26_Parse_L4_R 200000 ((s, ((0 : Int), ((0 : Int), ()))), (z4, ())) = some (.inl ((0, (3, ())), ())) := h1
  refine ⟨0, 3, ?_, .inl ⟨rfl, rfl⟩⟩
  unfold ref26_Parse
  rw [show ((Arr.cons (0 : Int) (Arr.cons (0 : Int) (Arr.cons (0 : Int) (Arr.cons (0 : Int) (Arr.nil : Arr Int 0)))) : Arr Int 4)) = z4 from rfl, h']
  rfl
 ·obtain ⟨x, y, z, u, hl⟩ := l4_ex r
  rw [p_fin s k r x y z u hl hr h1]
  rw [hl] at hr
  have hx := hr x (by simp)
  have hy := hr y (by simp)
  have hz := hr z (by simp)
  have hu := hr u (by simp)
  split
  ·split
   ·exact ⟨_, _, rfl, .inr ⟨rfl, by omega, by assumption⟩⟩
   ·exact ⟨_, _, rfl, .inl ⟨rfl, rfl⟩⟩
  ·exact ⟨_, _, rfl, .inl ⟨rfl, rfl⟩⟩
theorem arr_set_self {n : Nat} (r : Arr Int n) (k : Nat) (v : Int) (h : r.l[k]? = some v) : r.set k v = r := by
 obtain ⟨l, hl⟩ := r
 have hk : k < l.length := (List.getElem?_eq_some_iff.1 h).1
 have hv : l[k] = v := (List.getElem?_eq_some_iff.1 h).2
 subst hv
 unfold Arr.set
 congr 1
 exact List.set_getElem_self hk
theorem arr_set_set {n : Nat} (r : Arr Int n) (k : Nat) (v u : Int) : (r.set k v).set k u = r.set k u := by
 unfold Arr.set
 simp only
 congr 1
 exact List.set_set ..
theorem drop_cons {α : Type} {s : List α} {i : Nat} {c : α} {q : List α} (h : s.drop i = c :: q) : ∃ hi : i < s.length, s[i] = c ∧ s.drop (i + 1) = q := by
 have hi : i < s.length := by
  rcases Nat.lt_or_ge i s.length with h' | h'
  ·exact h'
  ·rw [List.drop_eq_nil_of_le h'] at h; cases h
 rw [List.drop_eq_getElem_cons hi] at h
 injection h with h1 h2
 exact ⟨hi, h1, h2⟩
theorem p_seg (s : List UInt8) (hl : s.length ≤ 100) (k : Nat) (hk : k ≤ 3) (q : List UInt8) (m : Nat) : ∀ (p : List UInt8) (i : Nat) (r : Arr Int 4) (v v' : Nat), s.drop i = p ++ q → i + p.length ≤ 16 → r.l[k]? = some (v : Int) → runD p v = some v' →
  gl pG (m + p.length) (pst s k i r) = gl pG m (pst s k (i + p.length) (r.set k (v' : Int)))
 | [], i, r, v, v', _, _, hv, hr => by
  injection hr with hr
  subst hr
  rw [arr_set_self r k v hv]
  rfl
 | c :: p, i, r, v, v', hd, h16, hv, hr => by
  obtain ⟨hi, hc, hd'⟩ := drop_cons (c := c) (q := p ++ q) hd
  unfold runD at hr
  split at hr
  case isFalse => cases hr
  rename_i h
  obtain ⟨h1, h2, h3⟩ := h
  simp only [List.length_cons] at h16 ⊢
  rw [show m + (p.length + 1) = (m + p.length) + 1 by omega, gl_succ]
  have hkl : k < r.l.length := (List.getElem?_eq_some_iff.1 hv).1
  rw [p_dig (gl pG (m + p.length)) s k i r v hi (by omega) hl hk hv (by omega) (by rw [hc]; exact h1) (by rw [hc]; exact h2) (by omega), hc]
  have e : (10 * (v : Int) + ((c.toNat : Int) - 48)) = ((10 * v + (c.toNat - 48) : Nat) : Int) := by omega
  rw [e, p_seg s hl k hk q m p (i + 1) _ (10 * v + (c.toNat - 48)) v' hd' (by omega) (by rw [set_l, List.getElem?_set, if_pos rfl, if_pos hkl]) hr, arr_set_set]
  rw [show i + 1 + p.length = i + (p.length + 1) by omega]
theorem p_dot' (s : List UInt8) (hl : s.length ≤ 100) (k : Nat) (hk : k < 3) (q : List UInt8) (m i : Nat) (r : Arr Int 4) (hd : s.drop i = 46 :: q) (h16 : i < 16) : gl pG (m + 1) (pst s k i r) = gl pG m (pst s (k + 1) (i + 1) r) := by
 obtain ⟨hi, hc, _⟩ := drop_cons hd
 rw [gl_succ, p_dot (gl pG m) s k i r hi h16 hl (by omega) (by rw [hc]; rfl), if_neg (by omega)]
theorem drop_app {α : Type} {s p q : List α} {i : Nat} (h : s.drop i = p ++ q) : s.drop (i + p.length) = q := by
 rw [← List.drop_drop, h]
 simp
theorem rprs_text (a : Int) (ha : 0 ≤ a ∧ a < 4294967296) : ref26_Parse 200000 (textS a) = some (a, 0) := by
 have hlen := textS_len a
 generalize hs : textS a = s at hlen
 obtain ⟨n0, q0, e0⟩ := dg_of (b := a / 16777216 % 256) (by omega)
 obtain ⟨n1, q1, e1⟩ := dg_of (b := a / 65536 % 256) (by omega)
 obtain ⟨n2, q2, e2⟩ := dg_of (b := a / 256 % 256) (by omega)
 obtain ⟨n3, q3, e3⟩ := dg_of (b := a % 256) (by omega)
 have h0 : s = dg (n0 : Int) ++ 46 :: (dg (n1 : Int) ++ 46 :: (dg (n2 : Int) ++ 46 :: (dg (n3 : Int) ++ []))) := by rw [← hs, e0, e1, e2, e3, List.append_nil]; rfl
 obtain ⟨r0, l0, _, _⟩ := dg_all n0 q0
 obtain ⟨r1, l1, _, _⟩ := dg_all n1 q1
 obtain ⟨r2, l2, _, _⟩ := dg_all n2 q2
 obtain ⟨r3, l3, _, _⟩ := dg_all n3 q3
 have hsl : s.length = (dg (n0 : Int)).length + (1 + ((dg (n1 : Int)).length + (1 + ((dg (n2 : Int)).length + (1 + (dg (n3 : Int)).length))))) := by rw [h0]; simp only [List.length_append, List.length_cons, List.length_nil]; omega
 generalize hp0 : dg (n0 : Int) = p0 at *
 generalize hp1 : dg (n1 : Int) = p1 at *
 generalize hp2 : dg (n2 : Int) = p2 at *
 generalize hp3 : dg (n3 : Int) = p3 at *
 obtain ⟨m, hm⟩ : ∃ m, 200000 = ((((((m + 1) + p3.length) + 1) + p2.length) + 1) + p1.length) + 1 + p0.length := ⟨200000 - (p0.length + p1.length + p2.length + p3.length + 4), by omega⟩
 have d0 : s.drop 0 = p0 ++ 46 :: (p1 ++ 46 :: (p2 ++ 46 :: (p3 ++ []))) := h0
 have d1 := drop_app d0
 obtain ⟨_, _, d2⟩ := drop_cons d1
 have d3 := drop_app d2
 obtain ⟨_, _, d4⟩ := drop_cons d3
 have d5 := drop_app d4
 obtain ⟨_, _, d6⟩ := drop_cons d5
 have hz : ∀ k, k ≤ 3 → z4.l[k]? = some ((0 : Nat) : Int) := by decide
 have hl : s.length ≤ 100 := by omega
 have hrun : gl pG 200000 (pst s 0 0 z4) = some (.inr ((s, (((3 : Nat) : Int), ())), ((((z4.set 0 (n0 : Int)).set 1 (n1 : Int)).set 2 (n2 : Int)).set 3 (n3 : Int), ()))) := by
  rw [hm, p_seg s hl 0 (by omega) _ _ p0 0 z4 0 n0 d0 (by omega) (hz 0 (by omega)) r0]
  rw [p_dot' s hl 0 (by omega) _ _ _ _ d1 (by omega)]
  rw [p_seg s hl 1 (by omega) _ _ p1 _ _ 0 n1 d2 (by omega) rfl r1]
  rw [p_dot' s hl 1 (by omega) _ _ _ _ d3 (by omega)]
  rw [p_seg s hl 2 (by omega) _ _ p2 _ _ 0 n2 d4 (by omega) rfl r2]
  rw [p_dot' s hl 2 (by omega) _ _ _ _ d5 (by omega)]
  rw [p_seg s hl 3 (by omega) _ _ p3 _ _ 0 n3 d6 (by omega) rfl r3]
  rw [gl_succ, p_end _ s _ _ _ (by omega)]
 rw [p_fin s 3 _ (n0 : Int) n1 n2 n3 rfl (fun x hx => ?_) hrun]
 ·have he : 16777216 * (n0 : Int) + 65536 * n1 + 256 * n2 + n3 = a := by omega
  rw [if_pos ⟨rfl, by omega, by omega, by omega, by omega⟩, he, hs, if_pos rfl]
 ·have hx' : x ∈ ([(n0 : Int), n1, n2, n3] : List Int) := hx
  simp only [List.mem_cons, List.not_mem_nil, or_false] at hx'
  omega
theorem law_IpcpoTexts (a : Int) (s : List UInt8) (h1 : wfT (.int .u32) a) (h2 : wfT .str s) : law26_IpcpoTexts 200000 a s = some true := by
 have ha := wf_u32' h1
 unfold law26_IpcpoTexts
 by_cases hl : (100 : Int) < ((s.length : Nat) : Int)
 ·rw [decide_eq_true hl]
  simp only [cond_true, alive26, Option.bind_some]
 ·rw [decide_eq_false hl]
  obtain ⟨r, e, k1, k2⟩ := prs_total s (by omega)
  obtain ⟨r', e', k3, k4⟩ := rprs_total s (by omega)
  have hsame : r = r' ∧ e = e' := by
   rcases k2 with ⟨rfl, rfl⟩ | ⟨rfl, hr, ht⟩
   ·rcases k4 with ⟨rfl, rfl⟩ | ⟨rfl, hr', ht'⟩
    ·exact ⟨rfl, rfl⟩
    ·have := prs_text r' hr'
     rw [ht', k1] at this
     injection this with this
     injection this with h3 h4
     exact ⟨h3, h4⟩
   ·have := rprs_text r hr
    rw [ht, k3] at this
    injection this with this
    injection this with h3 h4
    exact ⟨h3.symm, h4.symm⟩
  obtain ⟨rfl, rfl⟩ := hsame
  simp only [cond_false, k1, k3, Option.bind_some, text_is a ha, prs_text a ha, rtext_is a ha, decide_true, cond_true, alive26]
end Go.Proofs.YtkigpcolmioibaaDoor
