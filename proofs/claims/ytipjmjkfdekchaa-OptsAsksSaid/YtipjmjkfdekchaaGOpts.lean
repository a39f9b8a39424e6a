/-
  Functions of the program as plain functions on typed data, and that they are so. Printed by a program of mine.
-/
import Derived.Test.YtipjmjkfdekchaaKC
namespace Go.Proofs.Ytipjmjkfdekchaa
open Go.RowKit
set_option linter.unusedVariables false
set_option maxRecDepth 100000
theorem hmx : Go.Proofs.Try.prog.follows .mixedOrders = true := by kernel_rfl
noncomputable def Ev0 (N : Nat) : (R : Type) → Env R := Env.addInl env0 [88, 89, 92, 86]
theorem Ev0_ok (N : Nat) (R : Type) : EnvOK Go.Proofs.Try.prog (Ev0 N R) := EnvOK.addInl (env0_ok R) (by kernel_rfl)
noncomputable def Ev1 (N : Nat) : (R : Type) → Env R := Env.addBx (Ev0 N) [(89, 0)]
theorem Ev1_ok (N : Nat) (R : Type) : EnvOK Go.Proofs.Try.prog (Ev1 N R) := EnvOK.addBx (Ev0_ok N R) [(89, 0)]
noncomputable def Ev2 (N : Nat) : (R : Type) → Env R := Env.addBx (Ev1 N) [(92, 0)]
theorem Ev2_ok (N : Nat) (R : Type) : EnvOK Go.Proofs.Try.prog (Ev2 N R) := EnvOK.addBx (Ev1_ok N R) [(92, 0)]
noncomputable def law21_far_L2_I : LI := ⟨23, 0, [], ⟨[(0, .ty (.sl (.pair (.int .u8) (.sl (.int .u8))))), (9, .ty (.sl (.pair (.int .u8) (.sl (.int .u8))))), (10, .ty (.int .i64)), (11, .ty (.int .i64))], []⟩, [(.ret, ⟨[(2, .ty .bool)], []⟩), (.exit 0, ⟨[(0, .ty (.sl (.pair (.int .u8) (.sl (.int .u8)))))], []⟩)]⟩
noncomputable def law21_far_L2 (N : Nat) (X : (((List ((Int) × (List (Int)))) × ((List ((Int) × (List (Int)))) × ((Int) × ((Int) × Unit)))) × Unit) → Option (((((Bool) × Unit) × Unit) ⊕ (((List ((Int) × (List (Int)))) × Unit) × Unit)))) (l0 : List ((Int) × (List (Int)))) (x9 : List ((Int) × (List (Int)))) (x10 : Int) (x11 : Int) : Option (((((Bool) × Unit) × Unit) ⊕ (((List ((Int) × (List (Int)))) × Unit) × Unit))) :=
 bif (decide (x11 < x10)) then
  Option.bind (getI x9 x11) fun (v6 : (Int × (List Int))) =>
  bif (decide ((300 : Int) < (((List.length v6.2) : Nat) : Int))) then
   some ((.inl ((@Bool.true, @Unit.unit), @Unit.unit)))
  else
   (X ((l0, (x9, (x10, ((Go.IntKind.wrap .i64 (x11 + (1 : Int))), @Unit.unit)))), @Unit.unit))
 else
  some ((.inr ((l0, @Unit.unit), @Unit.unit)))
noncomputable def law21_far_L2_R (N : Nat) (c : (((List ((Int) × (List (Int)))) × ((List ((Int) × (List (Int)))) × ((Int) × ((Int) × Unit)))) × Unit)) : Option (((((Bool) × Unit) × Unit) ⊕ (((List ((Int) × (List (Int)))) × Unit) × Unit))) := gl (fun X c => law21_far_L2 N X c.1.1 c.1.2.1 c.1.2.2.1 c.1.2.2.2.1) N c
theorem law21_far_L2_S (N : Nat) (X : (((List ((Int) × (List (Int)))) × ((List ((Int) × (List (Int)))) × ((Int) × ((Int) × Unit)))) × Unit) → Option (((((Bool) × Unit) × Unit) ⊕ (((List ((Int) × (List (Int)))) × Unit) × Unit)))) (l0 : List ((Int) × (List (Int)))) (x9 : List ((Int) × (List (Int)))) (x10 : Int) (x11 : Int) : (roundK Go.Proofs.Try.prog (Ev2 N) 400 [35] law21_far_L2_I (loopAt Go.Proofs.Try.prog [35] 2) X ((l0, x9, x10, x11, ()), ())).run = law21_far_L2 N X l0 x9 x10 x11 := by kernel_rfl
noncomputable def Ev3 (N : Nat) : (R : Type) → Env R := Env.addLp (Ev2 N) [35] 0 2 (fun R => lpK Go.Proofs.Try.prog law21_far_L2_I (fun X c => law21_far_L2 N X c.1.1 c.1.2.1 c.1.2.2.1 c.1.2.2.2.1) N)
theorem Ev3_ok (N : Nat) (R : Type) : EnvOK Go.Proofs.Try.prog (Ev3 N R) := EnvOK.addLp (Ev2_ok N R) (by kernel_rfl) (lpK_ok (li := law21_far_L2_I) (G := fun X c => law21_far_L2 N X c.1.1 c.1.2.1 c.1.2.2.1 c.1.2.2.2.1) hmx (Ev2_ok N _) (by kernel_rfl) loopAt_sub (fun (X : CT law21_far_L2_I.sh → Option (OT law21_far_L2_I.outs)) (c : CT law21_far_L2_I.sh) => law21_far_L2_S N X c.1.1 c.1.2.1 c.1.2.2.1 c.1.2.2.2.1) N)
noncomputable def law21_far (N : Nat) (l0 : List ((Int) × (List (Int)))) : Option (Bool) :=
 Option.bind (takeI l0 (@minI (((List.length l0) : Nat) : Int) (40 : Int))) fun (v2 : (List (Int × (List Int)))) =>
 Option.bind (law21_far_L2_R N ((l0, (v2, ((((List.length v2) : Nat) : Int), ((0 : Int), @Unit.unit)))), @Unit.unit)) fun (v3 : (((Bool × Unit) × Unit) ⊕ (((List (Int × (List Int))) × Unit) × Unit))) =>
 Sum.elim
  (fun (v4 : ((Bool × Unit) × Unit)) =>
  some (v4.1.1))
  (fun (v4 : (((List (Int × (List Int))) × Unit) × Unit)) =>
  some ((decide ((40 : Int) < (((List.length v4.1.1) : Nat) : Int))))) v3
theorem law21_far_S (N : Nat) (l0 : List ((Int) × (List (Int)))) : (runK Go.Proofs.Try.prog (Ev3 N) 400 35 [(.sl (.pair (.int .u8) (.sl (.int .u8))))] [.bool] (l0, ())).run = law21_far N l0 := by kernel_rfl
noncomputable def Ev4 (N : Nat) : (R : Type) → Env R := Env.addFn (Ev3 N) 35 (fun R => fnK [(.sl (.pair (.int .u8) (.sl (.int .u8))))] [.bool] (fun c => law21_far N c.1))
theorem Ev4_ok (N : Nat) (R : Type) : EnvOK Go.Proofs.Try.prog (Ev4 N R) := EnvOK.addFn hmx (Ev3_ok N R) (Ev3_ok N _) (by kernel_rfl) (fun c => law21_far_S N c.1)
noncomputable def opts_Lay_L5_I : LI := ⟨36, 0, [(4, 5)], ⟨[(4, .lit (.own 0)), (10, .ty (.sl (.pair (.int .u8) (.sl (.int .u8))))), (11, .ty (.int .i64)), (12, .ty (.int .i64))], [.own (.int .u8) 5]⟩, [(.ret, ⟨[(2, .ty (.sl (.int .u8))), (3, .ty (.int .i64))], []⟩), (.exit 0, ⟨[(4, .lit (.own 0))], [.own (.int .u8) 5]⟩)]⟩
noncomputable def opts_Lay_L5 (N : Nat) (X : (((List ((Int) × (List (Int)))) × ((Int) × ((Int) × Unit))) × ((List (Int)) × Unit)) → Option (((((List (Int)) × ((Int) × Unit)) × Unit) ⊕ (Unit × ((List (Int)) × Unit))))) (x10 : List ((Int) × (List (Int)))) (x11 : Int) (x12 : Int) (h0 : List (Int)) : Option (((((List (Int)) × ((Int) × Unit)) × Unit) ⊕ (Unit × ((List (Int)) × Unit)))) :=
 bif (decide (x12 < x11)) then
  Option.bind (getI x10 x12) fun (v6 : (Int × (List Int))) =>
  bif (decide ((253 : Int) < (((List.length v6.2) : Nat) : Int))) then
   some ((.inl ((([] : List (Int)), ((8 : Int), @Unit.unit)), @Unit.unit)))
  else
   bif (roomB ((List.length h0) + (List.length ([v6.1, (Go.IntKind.wrap .u8 (Go.IntKind.wrap .i64 ((2 : Int) + (((List.length v6.2) : Nat) : Int))))] : List (Int)))) 1) then
    bif (roomB ((List.length (h0 ++ ([v6.1, (Go.IntKind.wrap .u8 (Go.IntKind.wrap .i64 ((2 : Int) + (((List.length v6.2) : Nat) : Int))))] : List (Int)))) + (List.length v6.2)) 1) then
     (X ((x10, (x11, ((Go.IntKind.wrap .i64 (x12 + (1 : Int))), @Unit.unit))), (((h0 ++ ([v6.1, (Go.IntKind.wrap .u8 (Go.IntKind.wrap .i64 ((2 : Int) + (((List.length v6.2) : Nat) : Int))))] : List (Int))) ++ v6.2), @Unit.unit)))
    else
     none
   else
    none
 else
  some ((.inr (@Unit.unit, (h0, @Unit.unit))))
noncomputable def opts_Lay_L5_R (N : Nat) (c : (((List ((Int) × (List (Int)))) × ((Int) × ((Int) × Unit))) × ((List (Int)) × Unit))) : Option (((((List (Int)) × ((Int) × Unit)) × Unit) ⊕ (Unit × ((List (Int)) × Unit)))) := gl (fun X c => opts_Lay_L5 N X c.1.1 c.1.2.1 c.1.2.2.1 c.2.1) N c
theorem opts_Lay_L5_S (N : Nat) (X : (((List ((Int) × (List (Int)))) × ((Int) × ((Int) × Unit))) × ((List (Int)) × Unit)) → Option (((((List (Int)) × ((Int) × Unit)) × Unit) ⊕ (Unit × ((List (Int)) × Unit))))) (x10 : List ((Int) × (List (Int)))) (x11 : Int) (x12 : Int) (h0 : List (Int)) : (roundK Go.Proofs.Try.prog (Ev4 N) 400 [37] opts_Lay_L5_I (loopAt Go.Proofs.Try.prog [37] 5) X ((x10, x11, x12, ()), (h0, ()))).run = opts_Lay_L5 N X x10 x11 x12 h0 := by kernel_rfl
noncomputable def Ev5 (N : Nat) : (R : Type) → Env R := Env.addLp (Ev4 N) [37] 0 5 (fun R => lpK Go.Proofs.Try.prog opts_Lay_L5_I (fun X c => opts_Lay_L5 N X c.1.1 c.1.2.1 c.1.2.2.1 c.2.1) N)
theorem Ev5_ok (N : Nat) (R : Type) : EnvOK Go.Proofs.Try.prog (Ev5 N R) := EnvOK.addLp (Ev4_ok N R) (by kernel_rfl) (lpK_ok (li := opts_Lay_L5_I) (G := fun X c => opts_Lay_L5 N X c.1.1 c.1.2.1 c.1.2.2.1 c.2.1) hmx (Ev4_ok N _) (by kernel_rfl) loopAt_sub (fun (X : CT opts_Lay_L5_I.sh → Option (OT opts_Lay_L5_I.outs)) (c : CT opts_Lay_L5_I.sh) => opts_Lay_L5_S N X c.1.1 c.1.2.1 c.1.2.2.1 c.2.1) N)
noncomputable def opts_Lay (N : Nat) (l0 : List ((Int) × (List (Int)))) : Option ((List (Int)) × Int) :=
 bif (decide ((32 : Int) < (((List.length l0) : Nat) : Int))) then
  some ((([] : List (Int)), (5 : Int)))
 else
  Option.bind (opts_Lay_L5_R N ((l0, ((((List.length l0) : Nat) : Int), ((0 : Int), @Unit.unit))), (([] : List (Int)), @Unit.unit))) fun (v2 : ((((List Int) × (Int × Unit)) × Unit) ⊕ (Unit × ((List Int) × Unit)))) =>
  Sum.elim
   (fun (v3 : (((List Int) × (Int × Unit)) × Unit)) =>
   some ((v3.1.1, v3.1.2.1)))
   (fun (v3 : (Unit × ((List Int) × Unit))) =>
   some ((v3.2.1, (0 : Int)))) v2
theorem opts_Lay_S (N : Nat) (l0 : List ((Int) × (List (Int)))) : (runK Go.Proofs.Try.prog (Ev5 N) 400 37 [(.sl (.pair (.int .u8) (.sl (.int .u8))))] [(.sl (.int .u8)), (.int .i64)] (l0, ())).run = opts_Lay N l0 := by kernel_rfl
noncomputable def Ev6 (N : Nat) : (R : Type) → Env R := Env.addFn (Ev5 N) 37 (fun R => fnK [(.sl (.pair (.int .u8) (.sl (.int .u8))))] [(.sl (.int .u8)), (.int .i64)] (fun c => opts_Lay N c.1))
theorem Ev6_ok (N : Nat) (R : Type) : EnvOK Go.Proofs.Try.prog (Ev6 N R) := EnvOK.addFn hmx (Ev5_ok N R) (Ev5_ok N _) (by kernel_rfl) (fun c => opts_Lay_S N c.1)
noncomputable def opts_first (N : Nat) (b0 : List (Int)) : Option ((Int) × Int) :=
 bif (decide ((((List.length b0) : Nat) : Int) < (2 : Int))) then
  some (((0 : Int), (4 : Int)))
 else
  Option.bind (getI b0 (1 : Int)) fun (v2 : Int) =>
  bif (decide ((Go.IntKind.wrap .i64 v2) < (2 : Int))) then
   some (((0 : Int), (3 : Int)))
  else
   bif (decide ((((List.length b0) : Nat) : Int) < (Go.IntKind.wrap .i64 v2))) then
    some (((0 : Int), (4 : Int)))
   else
    some (((Go.IntKind.wrap .i64 v2), (0 : Int)))
theorem opts_first_S (N : Nat) (b0 : List (Int)) : (runK Go.Proofs.Try.prog (Ev6 N) 400 85 [(.sl (.int .u8))] [(.int .i64), (.int .i64)] (b0, ())).run = opts_first N b0 := by kernel_rfl
noncomputable def Ev7 (N : Nat) : (R : Type) → Env R := Env.addFn (Ev6 N) 85 (fun R => fnK [(.sl (.int .u8))] [(.int .i64), (.int .i64)] (fun c => opts_first N c.1))
theorem Ev7_ok (N : Nat) (R : Type) : EnvOK Go.Proofs.Try.prog (Ev7 N R) := EnvOK.addFn hmx (Ev6_ok N R) (Ev6_ok N _) (by kernel_rfl) (fun c => opts_first_S N c.1)
noncomputable def slices_Clone_byte_byte_ne (N : Nat) (s0 : List (Int)) : Option (List (Int)) :=
 bif (@List.isEmpty Int s0) then
  none
 else
  bif (roomB (List.length s0) 1) then
   some (s0)
  else
   none
theorem slices_Clone_byte_byte_ne_S (N : Nat) (s0 : List (Int)) : (runK Go.Proofs.Try.prog (Ev7 N) 400 78 [(.sl (.int .u8))] [(.sl (.int .u8))] (s0, ())).run = slices_Clone_byte_byte_ne N s0 := by kernel_rfl
theorem slices_Clone_byte_byte_n1 (N : Nat) (c : Nat) : (runV Go.Proofs.Try.prog (Ev7 N) 400 78 [.c (.slice none 0 c)] [(.sl (.int .u8))]).run = some [] := by kernel_rfl
theorem slices_Clone_byte_byte_n2 (N : Nat) (A : Addr) (c : Nat) : (runV Go.Proofs.Try.prog (Ev7 N) 400 78 [.c (.slice (some A) 0 c)] [(.sl (.int .u8))]).run = some [] := by kernel_rfl
noncomputable def slices_Clone_byte_byte (N : Nat) (s0 : List (Int)) : Option (List (Int)) := bif s0.isEmpty then some [] else slices_Clone_byte_byte_ne N s0
noncomputable def Ev8 (N : Nat) : (R : Type) → Env R := Env.addFn (Ev7 N) 78 (fun R => fnK [(.sl (.int .u8))] [(.sl (.int .u8))] (fun c => slices_Clone_byte_byte N c.1))
theorem Ev8_ok (N : Nat) (R : Type) : EnvOK Go.Proofs.Try.prog (Ev8 N R) := EnvOK.addNil hmx (Ev7_ok N R) (Ev7_ok N _) (by kernel_rfl) (fun c => slices_Clone_byte_byte_ne_S N c.1) (slices_Clone_byte_byte_n1 N) (slices_Clone_byte_byte_n2 N)
noncomputable def opts_Parse_L2_I : LI := ⟨36, 0, [(4, 82)], ⟨[(0, .ty (.sl (.int .u8))), (4, .lit (.own 0))], [.own (.pair (.int .u8) (.sl (.int .u8))) 82]⟩, [(.ret, ⟨[(2, .ty (.sl (.pair (.int .u8) (.sl (.int .u8))))), (3, .ty (.int .i64))], []⟩), (.exit 0, ⟨[(4, .lit (.own 0))], [.own (.pair (.int .u8) (.sl (.int .u8))) 82]⟩)]⟩
noncomputable def opts_Parse_L2 (N : Nat) (X : (((List (Int)) × Unit) × ((List ((Int) × (List (Int)))) × Unit)) → Option (((((List ((Int) × (List (Int)))) × ((Int) × Unit)) × Unit) ⊕ (Unit × ((List ((Int) × (List (Int)))) × Unit))))) (b0 : List (Int)) (h0 : List ((Int) × (List (Int)))) : Option (((((List ((Int) × (List (Int)))) × ((Int) × Unit)) × Unit) ⊕ (Unit × ((List ((Int) × (List (Int)))) × Unit)))) :=
 bif (decide ((0 : Int) < (((List.length b0) : Nat) : Int))) then
  bif (decide ((((List.length h0) : Nat) : Int) = (32 : Int))) then
   some ((.inl ((([] : List ((Int × (List Int)))), ((5 : Int), @Unit.unit)), @Unit.unit)))
  else
   Option.bind (@opts_first N b0) fun (v4 : (Int × Int)) =>
   bif (!(decide (v4.2 = (0 : Int)))) then
    some ((.inl ((([] : List ((Int × (List Int)))), (v4.2, @Unit.unit)), @Unit.unit)))
   else
    Option.bind (getI b0 (0 : Int)) fun (v5 : Int) =>
    Option.bind (subI b0 (2 : Int) v4.1) fun (v6 : (List Int)) =>
    Option.bind (@slices_Clone_byte_byte N v6) fun (v7 : (List Int)) =>
    bif (roomB ((List.length h0) + (List.length ([(v5, v7)] : List ((Int × (List Int)))))) 32) then
     Option.bind (dropI b0 v4.1) fun (v8 : (List Int)) =>
     (X ((v8, @Unit.unit), ((h0 ++ ([(v5, v7)] : List ((Int × (List Int))))), @Unit.unit)))
    else
     none
 else
  some ((.inr (@Unit.unit, (h0, @Unit.unit))))
noncomputable def opts_Parse_L2_R (N : Nat) (c : (((List (Int)) × Unit) × ((List ((Int) × (List (Int)))) × Unit))) : Option (((((List ((Int) × (List (Int)))) × ((Int) × Unit)) × Unit) ⊕ (Unit × ((List ((Int) × (List (Int)))) × Unit)))) := gl (fun X c => opts_Parse_L2 N X c.1.1 c.2.1) N c
theorem opts_Parse_L2_S (N : Nat) (X : (((List (Int)) × Unit) × ((List ((Int) × (List (Int)))) × Unit)) → Option (((((List ((Int) × (List (Int)))) × ((Int) × Unit)) × Unit) ⊕ (Unit × ((List ((Int) × (List (Int)))) × Unit))))) (b0 : List (Int)) (h0 : List ((Int) × (List (Int)))) : (roundK Go.Proofs.Try.prog (Ev8 N) 400 [40] opts_Parse_L2_I (loopAt Go.Proofs.Try.prog [40] 2) X ((b0, ()), (h0, ()))).run = opts_Parse_L2 N X b0 h0 := by kernel_rfl
noncomputable def Ev9 (N : Nat) : (R : Type) → Env R := Env.addLp (Ev8 N) [40] 0 2 (fun R => lpK Go.Proofs.Try.prog opts_Parse_L2_I (fun X c => opts_Parse_L2 N X c.1.1 c.2.1) N)
theorem Ev9_ok (N : Nat) (R : Type) : EnvOK Go.Proofs.Try.prog (Ev9 N R) := EnvOK.addLp (Ev8_ok N R) (by kernel_rfl) (lpK_ok (li := opts_Parse_L2_I) (G := fun X c => opts_Parse_L2 N X c.1.1 c.2.1) hmx (Ev8_ok N _) (by kernel_rfl) loopAt_sub (fun (X : CT opts_Parse_L2_I.sh → Option (OT opts_Parse_L2_I.outs)) (c : CT opts_Parse_L2_I.sh) => opts_Parse_L2_S N X c.1.1 c.2.1) N)
noncomputable def opts_Parse (N : Nat) (b0 : List (Int)) : Option ((List ((Int) × (List (Int)))) × Int) :=
 Option.bind (opts_Parse_L2_R N ((b0, @Unit.unit), (([] : List ((Int × (List Int)))), @Unit.unit))) fun (v2 : ((((List (Int × (List Int))) × (Int × Unit)) × Unit) ⊕ (Unit × ((List (Int × (List Int))) × Unit)))) =>
 Sum.elim
  (fun (v3 : (((List (Int × (List Int))) × (Int × Unit)) × Unit)) =>
  some ((v3.1.1, v3.1.2.1)))
  (fun (v3 : (Unit × ((List (Int × (List Int))) × Unit))) =>
  some ((v3.2.1, (0 : Int)))) v2
theorem opts_Parse_S (N : Nat) (b0 : List (Int)) : (runK Go.Proofs.Try.prog (Ev9 N) 400 40 [(.sl (.int .u8))] [(.sl (.pair (.int .u8) (.sl (.int .u8)))), (.int .i64)] (b0, ())).run = opts_Parse N b0 := by kernel_rfl
noncomputable def Ev10 (N : Nat) : (R : Type) → Env R := Env.addFn (Ev9 N) 40 (fun R => fnK [(.sl (.int .u8))] [(.sl (.pair (.int .u8) (.sl (.int .u8)))), (.int .i64)] (fun c => opts_Parse N c.1))
theorem Ev10_ok (N : Nat) (R : Type) : EnvOK Go.Proofs.Try.prog (Ev10 N R) := EnvOK.addFn hmx (Ev9_ok N R) (Ev9_ok N _) (by kernel_rfl) (fun c => opts_Parse_S N c.1)
noncomputable def opts_Find_1_slices_IndexFunc_api_Option_api_Option_L2_I : LI := ⟨19, 2, [], ⟨[(0, .ty (.sl (.pair (.int .u8) (.sl (.int .u8))))), (1, .lit (.clo 89 [.box 0 0])), (7, .ty (.int .i64)), (8, .ty (.int .i64))], [.box 5 (.int .u8), .box 82 (.pair (.int .u8) (.sl (.int .u8)))]⟩, [(.ret, ⟨[(4, .ty (.int .i64))], [.box 5 (.int .u8), .box 82 (.pair (.int .u8) (.sl (.int .u8)))]⟩), (.exit 0, ⟨[], [.box 5 (.int .u8), .box 82 (.pair (.int .u8) (.sl (.int .u8)))]⟩)]⟩
noncomputable def opts_Find_1_slices_IndexFunc_api_Option_api_Option_L2 (N : Nat) (X : (((List ((Int) × (List (Int)))) × ((Int) × ((Int) × Unit))) × ((Int) × (((Int) × (List (Int))) × Unit))) → Option (((((Int) × Unit) × ((Int) × (((Int) × (List (Int))) × Unit))) ⊕ (Unit × ((Int) × (((Int) × (List (Int))) × Unit)))))) (s0 : List ((Int) × (List (Int)))) (x7 : Int) (x8 : Int) (h0 : Int) (h1 : (Int) × (List (Int))) : Option (((((Int) × Unit) × ((Int) × (((Int) × (List (Int))) × Unit))) ⊕ (Unit × ((Int) × (((Int) × (List (Int))) × Unit))))) :=
 bif (decide (x8 < x7)) then
  Option.bind (getI s0 x8) fun (v7 : (Int × (List Int))) =>
  bif (decide (v7.1 = h0)) then
   some ((.inl ((x8, @Unit.unit), (h0, ((h1.1, h1.2), @Unit.unit)))))
  else
   (X ((s0, (x7, ((Go.IntKind.wrap .i64 (x8 + (1 : Int))), @Unit.unit))), (h0, ((h1.1, h1.2), @Unit.unit))))
 else
  some ((.inr (@Unit.unit, (h0, ((h1.1, h1.2), @Unit.unit)))))
noncomputable def opts_Find_1_slices_IndexFunc_api_Option_api_Option_L2_R (N : Nat) (c : (((List ((Int) × (List (Int)))) × ((Int) × ((Int) × Unit))) × ((Int) × (((Int) × (List (Int))) × Unit)))) : Option (((((Int) × Unit) × ((Int) × (((Int) × (List (Int))) × Unit))) ⊕ (Unit × ((Int) × (((Int) × (List (Int))) × Unit))))) := gl (fun X c => opts_Find_1_slices_IndexFunc_api_Option_api_Option_L2 N X c.1.1 c.1.2.1 c.1.2.2.1 c.2.1 c.2.2.1) N c
theorem opts_Find_1_slices_IndexFunc_api_Option_api_Option_L2_S (N : Nat) (X : (((List ((Int) × (List (Int)))) × ((Int) × ((Int) × Unit))) × ((Int) × (((Int) × (List (Int))) × Unit))) → Option (((((Int) × Unit) × ((Int) × (((Int) × (List (Int))) × Unit))) ⊕ (Unit × ((Int) × (((Int) × (List (Int))) × Unit)))))) (s0 : List ((Int) × (List (Int)))) (x7 : Int) (x8 : Int) (h0 : Int) (h1 : (Int) × (List (Int))) : (roundK Go.Proofs.Try.prog (Ev10 N) 400 [88, 1, 43] opts_Find_1_slices_IndexFunc_api_Option_api_Option_L2_I (loopAt Go.Proofs.Try.prog [88, 1, 43] 2) X ((s0, x7, x8, ()), (h0, h1, ()))).run = opts_Find_1_slices_IndexFunc_api_Option_api_Option_L2 N X s0 x7 x8 h0 h1 := by kernel_rfl
noncomputable def Ev11 (N : Nat) : (R : Type) → Env R := Env.addLp (Ev10 N) [88, 1, 43] 2 2 (fun R => lpK Go.Proofs.Try.prog opts_Find_1_slices_IndexFunc_api_Option_api_Option_L2_I (fun X c => opts_Find_1_slices_IndexFunc_api_Option_api_Option_L2 N X c.1.1 c.1.2.1 c.1.2.2.1 c.2.1 c.2.2.1) N)
theorem Ev11_ok (N : Nat) (R : Type) : EnvOK Go.Proofs.Try.prog (Ev11 N R) := EnvOK.addLp (Ev10_ok N R) (by kernel_rfl) (lpK_ok (li := opts_Find_1_slices_IndexFunc_api_Option_api_Option_L2_I) (G := fun X c => opts_Find_1_slices_IndexFunc_api_Option_api_Option_L2 N X c.1.1 c.1.2.1 c.1.2.2.1 c.2.1 c.2.2.1) hmx (Ev10_ok N _) (by kernel_rfl) loopAt_sub (fun (X : CT opts_Find_1_slices_IndexFunc_api_Option_api_Option_L2_I.sh → Option (OT opts_Find_1_slices_IndexFunc_api_Option_api_Option_L2_I.outs)) (c : CT opts_Find_1_slices_IndexFunc_api_Option_api_Option_L2_I.sh) => opts_Find_1_slices_IndexFunc_api_Option_api_Option_L2_S N X c.1.1 c.1.2.1 c.1.2.2.1 c.2.1 c.2.2.1) N)
noncomputable def Ev12 (N : Nat) : (R : Type) → Env R := Env.addBx (Ev11 N) [(90, 0)]
theorem Ev12_ok (N : Nat) (R : Type) : EnvOK Go.Proofs.Try.prog (Ev12 N R) := EnvOK.addBx (Ev11_ok N R) [(90, 0)]
noncomputable def opts_clone (N : Nat) (o0 : (Int) × (List (Int))) : Option ((Int) × (List (Int))) :=
 Option.bind (@slices_Clone_byte_byte N o0.2) fun (v2 : (List Int)) =>
 some ((o0.1, v2))
theorem opts_clone_S (N : Nat) (o0 : (Int) × (List (Int))) : (runK Go.Proofs.Try.prog (Ev12 N) 400 90 [(.pair (.int .u8) (.sl (.int .u8)))] [(.pair (.int .u8) (.sl (.int .u8)))] (o0, ())).run = opts_clone N o0 := by kernel_rfl
noncomputable def Ev13 (N : Nat) : (R : Type) → Env R := Env.addFn (Ev12 N) 90 (fun R => fnK [(.pair (.int .u8) (.sl (.int .u8)))] [(.pair (.int .u8) (.sl (.int .u8)))] (fun c => opts_clone N c.1))
theorem Ev13_ok (N : Nat) (R : Type) : EnvOK Go.Proofs.Try.prog (Ev13 N R) := EnvOK.addFn hmx (Ev12_ok N R) (Ev12_ok N _) (by kernel_rfl) (fun c => opts_clone_S N c.1)
noncomputable def opts_Find (N : Nat) (l0 : List ((Int) × (List (Int)))) (kind1 : Int) : Option (((Int) × (List (Int))) × Bool) :=
 Option.bind (opts_Find_1_slices_IndexFunc_api_Option_api_Option_L2_R N ((l0, ((((List.length l0) : Nat) : Int), ((0 : Int), @Unit.unit))), (kind1, (((0 : Int), ([] : List (Int))), @Unit.unit)))) fun (v3 : (((Int × Unit) × (Int × ((Int × (List Int)) × Unit))) ⊕ (Unit × (Int × ((Int × (List Int)) × Unit))))) =>
 Sum.elim
  (fun (v4 : ((Int × Unit) × (Int × ((Int × (List Int)) × Unit)))) =>
  bif (decide (v4.1.1 < (0 : Int))) then
   some ((((0 : Int), ([] : List (Int))), @Bool.false))
  else
   Option.bind (getI l0 v4.1.1) fun (v5 : (Int × (List Int))) =>
   Option.bind (@opts_clone N (v5.1, v5.2)) fun (v6 : (Int × (List Int))) =>
   some (((v6.1, v6.2), @Bool.true)))
  (fun (v4 : (Unit × (Int × ((Int × (List Int)) × Unit)))) =>
  some ((((0 : Int), ([] : List (Int))), @Bool.false))) v3
theorem opts_Find_S (N : Nat) (l0 : List ((Int) × (List (Int)))) (kind1 : Int) : (runK Go.Proofs.Try.prog (Ev13 N) 400 43 [(.sl (.pair (.int .u8) (.sl (.int .u8)))), (.int .u8)] [(.pair (.int .u8) (.sl (.int .u8))), .bool] (l0, kind1, ())).run = opts_Find N l0 kind1 := by kernel_rfl
noncomputable def Ev14 (N : Nat) : (R : Type) → Env R := Env.addFn (Ev13 N) 43 (fun R => fnK [(.sl (.pair (.int .u8) (.sl (.int .u8)))), (.int .u8)] [(.pair (.int .u8) (.sl (.int .u8))), .bool] (fun c => opts_Find N c.1 c.2.1))
theorem Ev14_ok (N : Nat) (R : Type) : EnvOK Go.Proofs.Try.prog (Ev14 N R) := EnvOK.addFn hmx (Ev13_ok N R) (Ev13_ok N _) (by kernel_rfl) (fun c => opts_Find_S N c.1 c.2.1)
noncomputable def Ev15 (N : Nat) : (R : Type) → Env R := Env.addBx (Ev14 N) [(87, 0)]
theorem Ev15_ok (N : Nat) (R : Type) : EnvOK Go.Proofs.Try.prog (Ev15 N R) := EnvOK.addBx (Ev14_ok N R) [(87, 0)]
noncomputable def bytes_Equal (N : Nat) (a0 : List (Int)) (b1 : List (Int)) : Option (Bool) :=
 Option.bind (@toBy a0) fun (v3 : (List UInt8)) =>
 Option.bind (@toBy b1) fun (v4 : (List UInt8)) =>
 some ((decide (v3 = v4)))
theorem bytes_Equal_S (N : Nat) (a0 : List (Int)) (b1 : List (Int)) : (runK Go.Proofs.Try.prog (Ev15 N) 400 108 [(.sl (.int .u8)), (.sl (.int .u8))] [.bool] (a0, b1, ())).run = bytes_Equal N a0 b1 := by kernel_rfl
noncomputable def Ev16 (N : Nat) : (R : Type) → Env R := Env.addFn (Ev15 N) 108 (fun R => fnK [(.sl (.int .u8)), (.sl (.int .u8))] [.bool] (fun c => bytes_Equal N c.1 c.2.1))
theorem Ev16_ok (N : Nat) (R : Type) : EnvOK Go.Proofs.Try.prog (Ev16 N R) := EnvOK.addFn hmx (Ev15_ok N R) (Ev15_ok N _) (by kernel_rfl) (fun c => bytes_Equal_S N c.1 c.2.1)
noncomputable def opts_equal (N : Nat) (a0 : (Int) × (List (Int))) (b1 : (Int) × (List (Int))) : Option (Bool) :=
 bif (decide (a0.1 = b1.1)) then
  Option.bind (@bytes_Equal N a0.2 b1.2) fun (v3 : Bool) =>
  some ((@cond Bool @Bool.true v3 @Bool.false))
 else
  some (@Bool.false)
theorem opts_equal_S (N : Nat) (a0 : (Int) × (List (Int))) (b1 : (Int) × (List (Int))) : (runK Go.Proofs.Try.prog (Ev16 N) 400 87 [(.pair (.int .u8) (.sl (.int .u8))), (.pair (.int .u8) (.sl (.int .u8)))] [.bool] (a0, b1, ())).run = opts_equal N a0 b1 := by kernel_rfl
noncomputable def Ev17 (N : Nat) : (R : Type) → Env R := Env.addFn (Ev16 N) 87 (fun R => fnK [(.pair (.int .u8) (.sl (.int .u8))), (.pair (.int .u8) (.sl (.int .u8)))] [.bool] (fun c => opts_equal N c.1 c.2.1))
theorem Ev17_ok (N : Nat) (R : Type) : EnvOK Go.Proofs.Try.prog (Ev17 N R) := EnvOK.addFn hmx (Ev16_ok N R) (Ev16_ok N _) (by kernel_rfl) (fun c => opts_equal_S N c.1 c.2.1)
noncomputable def opts_Same_1_slices_EqualFunc_api_Option_api_Option_api_Option_api_Option_L4_I : LI := ⟨32, 0, [], ⟨[(1, .ty (.sl (.pair (.int .u8) (.sl (.int .u8))))), (2, .lit (.clo 87 [])), (15, .ty (.sl (.pair (.int .u8) (.sl (.int .u8))))), (16, .ty (.int .i64)), (17, .ty (.int .i64))], []⟩, [(.ret, ⟨[(6, .ty .bool)], []⟩), (.exit 0, ⟨[], []⟩)]⟩
noncomputable def opts_Same_1_slices_EqualFunc_api_Option_api_Option_api_Option_api_Option_L4 (N : Nat) (X : (((List ((Int) × (List (Int)))) × ((List ((Int) × (List (Int)))) × ((Int) × ((Int) × Unit)))) × Unit) → Option (((((Bool) × Unit) × Unit) ⊕ (Unit × Unit)))) (s21 : List ((Int) × (List (Int)))) (x15 : List ((Int) × (List (Int)))) (x16 : Int) (x17 : Int) : Option (((((Bool) × Unit) × Unit) ⊕ (Unit × Unit))) :=
 bif (decide (x17 < x16)) then
  Option.bind (getI x15 x17) fun (v6 : (Int × (List Int))) =>
  Option.bind (getI s21 x17) fun (v7 : (Int × (List Int))) =>
  Option.bind (@opts_equal N (v6.1, v6.2) (v7.1, v7.2)) fun (v8 : Bool) =>
  bif (!v8) then
   some ((.inl ((@Bool.false, @Unit.unit), @Unit.unit)))
  else
   (X ((s21, (x15, (x16, ((Go.IntKind.wrap .i64 (x17 + (1 : Int))), @Unit.unit)))), @Unit.unit))
 else
  some ((.inr (@Unit.unit, @Unit.unit)))
noncomputable def opts_Same_1_slices_EqualFunc_api_Option_api_Option_api_Option_api_Option_L4_R (N : Nat) (c : (((List ((Int) × (List (Int)))) × ((List ((Int) × (List (Int)))) × ((Int) × ((Int) × Unit)))) × Unit)) : Option (((((Bool) × Unit) × Unit) ⊕ (Unit × Unit))) := gl (fun X c => opts_Same_1_slices_EqualFunc_api_Option_api_Option_api_Option_api_Option_L4 N X c.1.1 c.1.2.1 c.1.2.2.1 c.1.2.2.2.1) N c
theorem opts_Same_1_slices_EqualFunc_api_Option_api_Option_api_Option_api_Option_L4_S (N : Nat) (X : (((List ((Int) × (List (Int)))) × ((List ((Int) × (List (Int)))) × ((Int) × ((Int) × Unit)))) × Unit) → Option (((((Bool) × Unit) × Unit) ⊕ (Unit × Unit)))) (s21 : List ((Int) × (List (Int)))) (x15 : List ((Int) × (List (Int)))) (x16 : Int) (x17 : Int) : (roundK Go.Proofs.Try.prog (Ev17 N) 400 [86, 1, 42] opts_Same_1_slices_EqualFunc_api_Option_api_Option_api_Option_api_Option_L4_I (loopAt Go.Proofs.Try.prog [86, 1, 42] 4) X ((s21, x15, x16, x17, ()), ())).run = opts_Same_1_slices_EqualFunc_api_Option_api_Option_api_Option_api_Option_L4 N X s21 x15 x16 x17 := by kernel_rfl
noncomputable def Ev18 (N : Nat) : (R : Type) → Env R := Env.addLp (Ev17 N) [86, 1, 42] 0 4 (fun R => lpK Go.Proofs.Try.prog opts_Same_1_slices_EqualFunc_api_Option_api_Option_api_Option_api_Option_L4_I (fun X c => opts_Same_1_slices_EqualFunc_api_Option_api_Option_api_Option_api_Option_L4 N X c.1.1 c.1.2.1 c.1.2.2.1 c.1.2.2.2.1) N)
theorem Ev18_ok (N : Nat) (R : Type) : EnvOK Go.Proofs.Try.prog (Ev18 N R) := EnvOK.addLp (Ev17_ok N R) (by kernel_rfl) (lpK_ok (li := opts_Same_1_slices_EqualFunc_api_Option_api_Option_api_Option_api_Option_L4_I) (G := fun X c => opts_Same_1_slices_EqualFunc_api_Option_api_Option_api_Option_api_Option_L4 N X c.1.1 c.1.2.1 c.1.2.2.1 c.1.2.2.2.1) hmx (Ev17_ok N _) (by kernel_rfl) loopAt_sub (fun (X : CT opts_Same_1_slices_EqualFunc_api_Option_api_Option_api_Option_api_Option_L4_I.sh → Option (OT opts_Same_1_slices_EqualFunc_api_Option_api_Option_api_Option_api_Option_L4_I.outs)) (c : CT opts_Same_1_slices_EqualFunc_api_Option_api_Option_api_Option_api_Option_L4_I.sh) => opts_Same_1_slices_EqualFunc_api_Option_api_Option_api_Option_api_Option_L4_S N X c.1.1 c.1.2.1 c.1.2.2.1 c.1.2.2.2.1) N)
noncomputable def opts_Same (N : Nat) (a0 : List ((Int) × (List (Int)))) (b1 : List ((Int) × (List (Int)))) : Option (Bool) :=
 bif (!(decide ((((List.length a0) : Nat) : Int) = (((List.length b1) : Nat) : Int)))) then
  some (@Bool.false)
 else
  Option.bind (opts_Same_1_slices_EqualFunc_api_Option_api_Option_api_Option_api_Option_L4_R N ((b1, (a0, ((((List.length a0) : Nat) : Int), ((0 : Int), @Unit.unit)))), @Unit.unit)) fun (v3 : (((Bool × Unit) × Unit) ⊕ (Unit × Unit))) =>
  Sum.elim
   (fun (v4 : ((Bool × Unit) × Unit)) =>
   some (v4.1.1))
   (fun (v4 : (Unit × Unit)) =>
   some (@Bool.true)) v3
theorem opts_Same_S (N : Nat) (a0 : List ((Int) × (List (Int)))) (b1 : List ((Int) × (List (Int)))) : (runK Go.Proofs.Try.prog (Ev18 N) 400 42 [(.sl (.pair (.int .u8) (.sl (.int .u8)))), (.sl (.pair (.int .u8) (.sl (.int .u8))))] [.bool] (a0, b1, ())).run = opts_Same N a0 b1 := by kernel_rfl
noncomputable def Ev19 (N : Nat) : (R : Type) → Env R := Env.addFn (Ev18 N) 42 (fun R => fnK [(.sl (.pair (.int .u8) (.sl (.int .u8)))), (.sl (.pair (.int .u8) (.sl (.int .u8))))] [.bool] (fun c => opts_Same N c.1 c.2.1))
theorem Ev19_ok (N : Nat) (R : Type) : EnvOK Go.Proofs.Try.prog (Ev19 N R) := EnvOK.addFn hmx (Ev18_ok N R) (Ev18_ok N _) (by kernel_rfl) (fun c => opts_Same_S N c.1 c.2.1)
noncomputable def opts_Among_4_slices_IndexFunc_api_Option_api_Option_L2_I : LI := ⟨19, 1, [], ⟨[(0, .ty (.sl (.pair (.int .u8) (.sl (.int .u8))))), (1, .lit (.clo 92 [.box 0 0])), (7, .ty (.int .i64)), (8, .ty (.int .i64))], [.box 82 (.pair (.int .u8) (.sl (.int .u8)))]⟩, [(.ret, ⟨[(4, .ty (.int .i64))], [.box 82 (.pair (.int .u8) (.sl (.int .u8)))]⟩), (.exit 0, ⟨[], [.box 82 (.pair (.int .u8) (.sl (.int .u8)))]⟩)]⟩
noncomputable def opts_Among_4_slices_IndexFunc_api_Option_api_Option_L2 (N : Nat) (X : (((List ((Int) × (List (Int)))) × ((Int) × ((Int) × Unit))) × (((Int) × (List (Int))) × Unit)) → Option (((((Int) × Unit) × (((Int) × (List (Int))) × Unit)) ⊕ (Unit × (((Int) × (List (Int))) × Unit))))) (s0 : List ((Int) × (List (Int)))) (x7 : Int) (x8 : Int) (h0 : (Int) × (List (Int))) : Option (((((Int) × Unit) × (((Int) × (List (Int))) × Unit)) ⊕ (Unit × (((Int) × (List (Int))) × Unit)))) :=
 bif (decide (x8 < x7)) then
  Option.bind (getI s0 x8) fun (v6 : (Int × (List Int))) =>
  Option.bind (@opts_equal N (v6.1, v6.2) (h0.1, h0.2)) fun (v7 : Bool) =>
  bif v7 then
   some ((.inl ((x8, @Unit.unit), ((h0.1, h0.2), @Unit.unit))))
  else
   (X ((s0, (x7, ((Go.IntKind.wrap .i64 (x8 + (1 : Int))), @Unit.unit))), ((h0.1, h0.2), @Unit.unit)))
 else
  some ((.inr (@Unit.unit, ((h0.1, h0.2), @Unit.unit))))
noncomputable def opts_Among_4_slices_IndexFunc_api_Option_api_Option_L2_R (N : Nat) (c : (((List ((Int) × (List (Int)))) × ((Int) × ((Int) × Unit))) × (((Int) × (List (Int))) × Unit))) : Option (((((Int) × Unit) × (((Int) × (List (Int))) × Unit)) ⊕ (Unit × (((Int) × (List (Int))) × Unit)))) := gl (fun X c => opts_Among_4_slices_IndexFunc_api_Option_api_Option_L2 N X c.1.1 c.1.2.1 c.1.2.2.1 c.2.1) N c
theorem opts_Among_4_slices_IndexFunc_api_Option_api_Option_L2_S (N : Nat) (X : (((List ((Int) × (List (Int)))) × ((Int) × ((Int) × Unit))) × (((Int) × (List (Int))) × Unit)) → Option (((((Int) × Unit) × (((Int) × (List (Int))) × Unit)) ⊕ (Unit × (((Int) × (List (Int))) × Unit))))) (s0 : List ((Int) × (List (Int)))) (x7 : Int) (x8 : Int) (h0 : (Int) × (List (Int))) : (roundK Go.Proofs.Try.prog (Ev19 N) 400 [88, 4, 49] opts_Among_4_slices_IndexFunc_api_Option_api_Option_L2_I (loopAt Go.Proofs.Try.prog [88, 4, 49] 2) X ((s0, x7, x8, ()), (h0, ()))).run = opts_Among_4_slices_IndexFunc_api_Option_api_Option_L2 N X s0 x7 x8 h0 := by kernel_rfl
noncomputable def Ev20 (N : Nat) : (R : Type) → Env R := Env.addLp (Ev19 N) [88, 4, 49] 1 2 (fun R => lpK Go.Proofs.Try.prog opts_Among_4_slices_IndexFunc_api_Option_api_Option_L2_I (fun X c => opts_Among_4_slices_IndexFunc_api_Option_api_Option_L2 N X c.1.1 c.1.2.1 c.1.2.2.1 c.2.1) N)
theorem Ev20_ok (N : Nat) (R : Type) : EnvOK Go.Proofs.Try.prog (Ev20 N R) := EnvOK.addLp (Ev19_ok N R) (by kernel_rfl) (lpK_ok (li := opts_Among_4_slices_IndexFunc_api_Option_api_Option_L2_I) (G := fun X c => opts_Among_4_slices_IndexFunc_api_Option_api_Option_L2 N X c.1.1 c.1.2.1 c.1.2.2.1 c.2.1) hmx (Ev19_ok N _) (by kernel_rfl) loopAt_sub (fun (X : CT opts_Among_4_slices_IndexFunc_api_Option_api_Option_L2_I.sh → Option (OT opts_Among_4_slices_IndexFunc_api_Option_api_Option_L2_I.outs)) (c : CT opts_Among_4_slices_IndexFunc_api_Option_api_Option_L2_I.sh) => opts_Among_4_slices_IndexFunc_api_Option_api_Option_L2_S N X c.1.1 c.1.2.1 c.1.2.2.1 c.2.1) N)
noncomputable def opts_Among_L2_I : LI := ⟨24, 0, [], ⟨[(1, .ty (.sl (.pair (.int .u8) (.sl (.int .u8))))), (8, .ty (.sl (.pair (.int .u8) (.sl (.int .u8))))), (9, .ty (.int .i64)), (10, .ty (.int .i64))], []⟩, [(.ret, ⟨[(4, .ty .bool)], []⟩), (.exit 0, ⟨[], []⟩)]⟩
noncomputable def opts_Among_L2 (N : Nat) (X : (((List ((Int) × (List (Int)))) × ((List ((Int) × (List (Int)))) × ((Int) × ((Int) × Unit)))) × Unit) → Option (((((Bool) × Unit) × Unit) ⊕ (Unit × Unit)))) (all1 : List ((Int) × (List (Int)))) (x8 : List ((Int) × (List (Int)))) (x9 : Int) (x10 : Int) : Option (((((Bool) × Unit) × Unit) ⊕ (Unit × Unit))) :=
 bif (decide (x10 < x9)) then
  Option.bind (getI x8 x10) fun (v6 : (Int × (List Int))) =>
  Option.bind (opts_Among_4_slices_IndexFunc_api_Option_api_Option_L2_R N ((all1, ((((List.length all1) : Nat) : Int), ((0 : Int), @Unit.unit))), ((v6.1, v6.2), @Unit.unit))) fun (v7 : (((Int × Unit) × ((Int × (List Int)) × Unit)) ⊕ (Unit × ((Int × (List Int)) × Unit)))) =>
  Sum.elim
   (fun (v8 : ((Int × Unit) × ((Int × (List Int)) × Unit))) =>
   bif (decide (v8.1.1 < (0 : Int))) then
    some ((.inl ((@Bool.false, @Unit.unit), @Unit.unit)))
   else
    Option.bind (dropI all1 (Go.IntKind.wrap .i64 (v8.1.1 + (1 : Int)))) fun (v9 : (List (Int × (List Int)))) =>
    (X ((v9, (x8, (x9, ((Go.IntKind.wrap .i64 (x10 + (1 : Int))), @Unit.unit)))), @Unit.unit)))
   (fun (v8 : (Unit × ((Int × (List Int)) × Unit))) =>
   some ((.inl ((@Bool.false, @Unit.unit), @Unit.unit)))) v7
 else
  some ((.inr (@Unit.unit, @Unit.unit)))
noncomputable def opts_Among_L2_R (N : Nat) (c : (((List ((Int) × (List (Int)))) × ((List ((Int) × (List (Int)))) × ((Int) × ((Int) × Unit)))) × Unit)) : Option (((((Bool) × Unit) × Unit) ⊕ (Unit × Unit))) := gl (fun X c => opts_Among_L2 N X c.1.1 c.1.2.1 c.1.2.2.1 c.1.2.2.2.1) N c
theorem opts_Among_L2_S (N : Nat) (X : (((List ((Int) × (List (Int)))) × ((List ((Int) × (List (Int)))) × ((Int) × ((Int) × Unit)))) × Unit) → Option (((((Bool) × Unit) × Unit) ⊕ (Unit × Unit)))) (all1 : List ((Int) × (List (Int)))) (x8 : List ((Int) × (List (Int)))) (x9 : Int) (x10 : Int) : (roundK Go.Proofs.Try.prog (Ev20 N) 400 [49] opts_Among_L2_I (loopAt Go.Proofs.Try.prog [49] 2) X ((all1, x8, x9, x10, ()), ())).run = opts_Among_L2 N X all1 x8 x9 x10 := by kernel_rfl
noncomputable def Ev21 (N : Nat) : (R : Type) → Env R := Env.addLp (Ev20 N) [49] 0 2 (fun R => lpK Go.Proofs.Try.prog opts_Among_L2_I (fun X c => opts_Among_L2 N X c.1.1 c.1.2.1 c.1.2.2.1 c.1.2.2.2.1) N)
theorem Ev21_ok (N : Nat) (R : Type) : EnvOK Go.Proofs.Try.prog (Ev21 N R) := EnvOK.addLp (Ev20_ok N R) (by kernel_rfl) (lpK_ok (li := opts_Among_L2_I) (G := fun X c => opts_Among_L2 N X c.1.1 c.1.2.1 c.1.2.2.1 c.1.2.2.2.1) hmx (Ev20_ok N _) (by kernel_rfl) loopAt_sub (fun (X : CT opts_Among_L2_I.sh → Option (OT opts_Among_L2_I.outs)) (c : CT opts_Among_L2_I.sh) => opts_Among_L2_S N X c.1.1 c.1.2.1 c.1.2.2.1 c.1.2.2.2.1) N)
noncomputable def opts_Among (N : Nat) (l0 : List ((Int) × (List (Int)))) (all1 : List ((Int) × (List (Int)))) : Option (Bool) :=
 Option.bind (opts_Among_L2_R N ((all1, (l0, ((((List.length l0) : Nat) : Int), ((0 : Int), @Unit.unit)))), @Unit.unit)) fun (v3 : (((Bool × Unit) × Unit) ⊕ (Unit × Unit))) =>
 Sum.elim
  (fun (v4 : ((Bool × Unit) × Unit)) =>
  some (v4.1.1))
  (fun (v4 : (Unit × Unit)) =>
  some (@Bool.true)) v3
theorem opts_Among_S (N : Nat) (l0 : List ((Int) × (List (Int)))) (all1 : List ((Int) × (List (Int)))) : (runK Go.Proofs.Try.prog (Ev21 N) 400 49 [(.sl (.pair (.int .u8) (.sl (.int .u8)))), (.sl (.pair (.int .u8) (.sl (.int .u8))))] [.bool] (l0, all1, ())).run = opts_Among N l0 all1 := by kernel_rfl
noncomputable def Ev22 (N : Nat) : (R : Type) → Env R := Env.addFn (Ev21 N) 49 (fun R => fnK [(.sl (.pair (.int .u8) (.sl (.int .u8)))), (.sl (.pair (.int .u8) (.sl (.int .u8))))] [.bool] (fun c => opts_Among N c.1 c.2.1))
theorem Ev22_ok (N : Nat) (R : Type) : EnvOK Go.Proofs.Try.prog (Ev22 N R) := EnvOK.addFn hmx (Ev21_ok N R) (Ev21_ok N _) (by kernel_rfl) (fun c => opts_Among_S N c.1 c.2.1)
noncomputable def opts_Without_L3_I : LI := ⟨25, 0, [(5, 82)], ⟨[(1, .ty (.int .u8)), (5, .lit (.own 0)), (8, .ty (.sl (.pair (.int .u8) (.sl (.int .u8))))), (9, .ty (.int .i64)), (10, .ty (.int .i64))], [.own (.pair (.int .u8) (.sl (.int .u8))) 82]⟩, [(.exit 0, ⟨[(5, .lit (.own 0))], [.own (.pair (.int .u8) (.sl (.int .u8))) 82]⟩)]⟩
noncomputable def opts_Without_L3 (N : Nat) (X : (((Int) × ((List ((Int) × (List (Int)))) × ((Int) × ((Int) × Unit)))) × ((List ((Int) × (List (Int)))) × Unit)) → Option ((Unit × ((List ((Int) × (List (Int)))) × Unit)))) (kind1 : Int) (x8 : List ((Int) × (List (Int)))) (x9 : Int) (x10 : Int) (h0 : List ((Int) × (List (Int)))) : Option ((Unit × ((List ((Int) × (List (Int)))) × Unit))) :=
 bif (decide (x10 < x9)) then
  Option.bind (getI x8 x10) fun (v7 : (Int × (List Int))) =>
  bif (!(decide (v7.1 = kind1))) then
   Option.bind (@opts_clone N (v7.1, v7.2)) fun (v8 : (Int × (List Int))) =>
   bif (roomB ((List.length h0) + (List.length ([(v8.1, v8.2)] : List ((Int × (List Int)))))) 32) then
    (X ((kind1, (x8, (x9, ((Go.IntKind.wrap .i64 (x10 + (1 : Int))), @Unit.unit)))), ((h0 ++ ([(v8.1, v8.2)] : List ((Int × (List Int))))), @Unit.unit)))
   else
    none
  else
   (X ((kind1, (x8, (x9, ((Go.IntKind.wrap .i64 (x10 + (1 : Int))), @Unit.unit)))), (h0, @Unit.unit)))
 else
  some ((@Unit.unit, (h0, @Unit.unit)))
noncomputable def opts_Without_L3_R (N : Nat) (c : (((Int) × ((List ((Int) × (List (Int)))) × ((Int) × ((Int) × Unit)))) × ((List ((Int) × (List (Int)))) × Unit))) : Option ((Unit × ((List ((Int) × (List (Int)))) × Unit))) := gl (fun X c => opts_Without_L3 N X c.1.1 c.1.2.1 c.1.2.2.1 c.1.2.2.2.1 c.2.1) N c
theorem opts_Without_L3_S (N : Nat) (X : (((Int) × ((List ((Int) × (List (Int)))) × ((Int) × ((Int) × Unit)))) × ((List ((Int) × (List (Int)))) × Unit)) → Option ((Unit × ((List ((Int) × (List (Int)))) × Unit)))) (kind1 : Int) (x8 : List ((Int) × (List (Int)))) (x9 : Int) (x10 : Int) (h0 : List ((Int) × (List (Int)))) : (roundK Go.Proofs.Try.prog (Ev22 N) 400 [47] opts_Without_L3_I (loopAt Go.Proofs.Try.prog [47] 3) X ((kind1, x8, x9, x10, ()), (h0, ()))).run = opts_Without_L3 N X kind1 x8 x9 x10 h0 := by kernel_rfl
noncomputable def Ev23 (N : Nat) : (R : Type) → Env R := Env.addLp (Ev22 N) [47] 0 3 (fun R => lpK Go.Proofs.Try.prog opts_Without_L3_I (fun X c => opts_Without_L3 N X c.1.1 c.1.2.1 c.1.2.2.1 c.1.2.2.2.1 c.2.1) N)
theorem Ev23_ok (N : Nat) (R : Type) : EnvOK Go.Proofs.Try.prog (Ev23 N R) := EnvOK.addLp (Ev22_ok N R) (by kernel_rfl) (lpK_ok (li := opts_Without_L3_I) (G := fun X c => opts_Without_L3 N X c.1.1 c.1.2.1 c.1.2.2.1 c.1.2.2.2.1 c.2.1) hmx (Ev22_ok N _) (by kernel_rfl) loopAt_sub (fun (X : CT opts_Without_L3_I.sh → Option (OT opts_Without_L3_I.outs)) (c : CT opts_Without_L3_I.sh) => opts_Without_L3_S N X c.1.1 c.1.2.1 c.1.2.2.1 c.1.2.2.2.1 c.2.1) N)
noncomputable def opts_Without (N : Nat) (l0 : List ((Int) × (List (Int)))) (kind1 : Int) : Option (List ((Int) × (List (Int)))) :=
 Option.bind (opts_Without_L3_R N ((kind1, (l0, ((((List.length l0) : Nat) : Int), ((0 : Int), @Unit.unit)))), (([] : List ((Int × (List Int)))), @Unit.unit))) fun (v3 : (Unit × ((List (Int × (List Int))) × Unit))) =>
 some (v3.2.1)
theorem opts_Without_S (N : Nat) (l0 : List ((Int) × (List (Int)))) (kind1 : Int) : (runK Go.Proofs.Try.prog (Ev23 N) 400 47 [(.sl (.pair (.int .u8) (.sl (.int .u8)))), (.int .u8)] [(.sl (.pair (.int .u8) (.sl (.int .u8))))] (l0, kind1, ())).run = opts_Without N l0 kind1 := by kernel_rfl
noncomputable def Ev24 (N : Nat) : (R : Type) → Env R := Env.addFn (Ev23 N) 47 (fun R => fnK [(.sl (.pair (.int .u8) (.sl (.int .u8)))), (.int .u8)] [(.sl (.pair (.int .u8) (.sl (.int .u8))))] (fun c => opts_Without N c.1 c.2.1))
theorem Ev24_ok (N : Nat) (R : Type) : EnvOK Go.Proofs.Try.prog (Ev24 N R) := EnvOK.addFn hmx (Ev23_ok N R) (Ev23_ok N _) (by kernel_rfl) (fun c => opts_Without_S N c.1 c.2.1)
noncomputable def opts_Kinds_L3_I : LI := ⟨19, 0, [(3, 5)], ⟨[(3, .lit (.own 0)), (6, .ty (.sl (.pair (.int .u8) (.sl (.int .u8))))), (7, .ty (.int .i64)), (8, .ty (.int .i64))], [.own (.int .u8) 5]⟩, [(.exit 0, ⟨[(3, .lit (.own 0))], [.own (.int .u8) 5]⟩)]⟩
noncomputable def opts_Kinds_L3 (N : Nat) (X : (((List ((Int) × (List (Int)))) × ((Int) × ((Int) × Unit))) × ((List (Int)) × Unit)) → Option ((Unit × ((List (Int)) × Unit)))) (x6 : List ((Int) × (List (Int)))) (x7 : Int) (x8 : Int) (h0 : List (Int)) : Option ((Unit × ((List (Int)) × Unit))) :=
 bif (decide (x8 < x7)) then
  Option.bind (getI x6 x8) fun (v6 : (Int × (List Int))) =>
  bif (roomB ((List.length h0) + (List.length ([v6.1] : List (Int)))) 1) then
   (X ((x6, (x7, ((Go.IntKind.wrap .i64 (x8 + (1 : Int))), @Unit.unit))), ((h0 ++ ([v6.1] : List (Int))), @Unit.unit)))
  else
   none
 else
  some ((@Unit.unit, (h0, @Unit.unit)))
noncomputable def opts_Kinds_L3_R (N : Nat) (c : (((List ((Int) × (List (Int)))) × ((Int) × ((Int) × Unit))) × ((List (Int)) × Unit))) : Option ((Unit × ((List (Int)) × Unit))) := gl (fun X c => opts_Kinds_L3 N X c.1.1 c.1.2.1 c.1.2.2.1 c.2.1) N c
theorem opts_Kinds_L3_S (N : Nat) (X : (((List ((Int) × (List (Int)))) × ((Int) × ((Int) × Unit))) × ((List (Int)) × Unit)) → Option ((Unit × ((List (Int)) × Unit)))) (x6 : List ((Int) × (List (Int)))) (x7 : Int) (x8 : Int) (h0 : List (Int)) : (roundK Go.Proofs.Try.prog (Ev24 N) 400 [45] opts_Kinds_L3_I (loopAt Go.Proofs.Try.prog [45] 3) X ((x6, x7, x8, ()), (h0, ()))).run = opts_Kinds_L3 N X x6 x7 x8 h0 := by kernel_rfl
noncomputable def Ev25 (N : Nat) : (R : Type) → Env R := Env.addLp (Ev24 N) [45] 0 3 (fun R => lpK Go.Proofs.Try.prog opts_Kinds_L3_I (fun X c => opts_Kinds_L3 N X c.1.1 c.1.2.1 c.1.2.2.1 c.2.1) N)
theorem Ev25_ok (N : Nat) (R : Type) : EnvOK Go.Proofs.Try.prog (Ev25 N R) := EnvOK.addLp (Ev24_ok N R) (by kernel_rfl) (lpK_ok (li := opts_Kinds_L3_I) (G := fun X c => opts_Kinds_L3 N X c.1.1 c.1.2.1 c.1.2.2.1 c.2.1) hmx (Ev24_ok N _) (by kernel_rfl) loopAt_sub (fun (X : CT opts_Kinds_L3_I.sh → Option (OT opts_Kinds_L3_I.outs)) (c : CT opts_Kinds_L3_I.sh) => opts_Kinds_L3_S N X c.1.1 c.1.2.1 c.1.2.2.1 c.2.1) N)
noncomputable def opts_Kinds (N : Nat) (l0 : List ((Int) × (List (Int)))) : Option (List (Int)) :=
 Option.bind (opts_Kinds_L3_R N ((l0, ((((List.length l0) : Nat) : Int), ((0 : Int), @Unit.unit))), (([] : List (Int)), @Unit.unit))) fun (v2 : (Unit × ((List Int) × Unit))) =>
 some (v2.2.1)
theorem opts_Kinds_S (N : Nat) (l0 : List ((Int) × (List (Int)))) : (runK Go.Proofs.Try.prog (Ev25 N) 400 45 [(.sl (.pair (.int .u8) (.sl (.int .u8))))] [(.sl (.int .u8))] (l0, ())).run = opts_Kinds N l0 := by kernel_rfl
noncomputable def Ev26 (N : Nat) : (R : Type) → Env R := Env.addFn (Ev25 N) 45 (fun R => fnK [(.sl (.pair (.int .u8) (.sl (.int .u8))))] [(.sl (.int .u8))] (fun c => opts_Kinds N c.1))
theorem Ev26_ok (N : Nat) (R : Type) : EnvOK Go.Proofs.Try.prog (Ev26 N R) := EnvOK.addFn hmx (Ev25_ok N R) (Ev25_ok N _) (by kernel_rfl) (fun c => opts_Kinds_S N c.1)
noncomputable def law21_alive (N : Nat) : Option (Bool) :=
 Option.bind (@opts_Lay N ([((1 : Int), ([(5 : Int), (120 : Int)] : List (Int)))] : List ((Int × (List Int))))) fun (v1 : ((List Int) × Int)) =>
 Option.bind (@opts_Parse N v1.1) fun (v2 : ((List (Int × (List Int))) × Int)) =>
 Option.bind (@opts_Find N v2.1 (1 : Int)) fun (v3 : ((Int × (List Int)) × Bool)) =>
 Option.bind (@toBy v1.1) fun (v4 : (List UInt8)) =>
 bif (decide (v4 = (@Array.toList UInt8 (@List.toArray UInt8 ([(@OfNat.ofNat UInt8 (1 : Nat) (@UInt8.instOfNat (1 : Nat))), (@OfNat.ofNat UInt8 (4 : Nat) (@UInt8.instOfNat (4 : Nat))), (@OfNat.ofNat UInt8 (5 : Nat) (@UInt8.instOfNat (5 : Nat))), (@OfNat.ofNat UInt8 (120 : Nat) (@UInt8.instOfNat (120 : Nat)))] : List (UInt8)))))) then
  bif (@cond Bool @Bool.true (decide (v1.2 = (0 : Int))) @Bool.false) then
   Option.bind (@opts_Same N ([((1 : Int), ([(5 : Int), (120 : Int)] : List (Int)))] : List ((Int × (List Int)))) v2.1) fun (v5 : Bool) =>
   bif (@cond Bool @Bool.true v5 @Bool.false) then
    bif (@cond Bool @Bool.true (decide (v2.2 = (0 : Int))) @Bool.false) then
     bif (@cond Bool @Bool.true v3.2 @Bool.false) then
      bif (@cond Bool @Bool.true (decide ((((List.length v3.1.2) : Nat) : Int) = (2 : Int))) @Bool.false) then
       Option.bind (@opts_Among N ([] : List ((Int × (List Int)))) ([((1 : Int), ([(5 : Int), (120 : Int)] : List (Int)))] : List ((Int × (List Int))))) fun (v6 : Bool) =>
       bif (@cond Bool @Bool.true v6 @Bool.false) then
        Option.bind (@opts_Without N ([((1 : Int), ([(5 : Int), (120 : Int)] : List (Int)))] : List ((Int × (List Int)))) (1 : Int)) fun (v7 : (List (Int × (List Int)))) =>
        bif (@cond Bool @Bool.true (decide ((((List.length v7) : Nat) : Int) = (0 : Int))) @Bool.false) then
         Option.bind (@opts_Kinds N ([((1 : Int), ([(5 : Int), (120 : Int)] : List (Int)))] : List ((Int × (List Int))))) fun (v8 : (List Int)) =>
         some ((@cond Bool @Bool.true (decide ((((List.length v8) : Nat) : Int) = (1 : Int))) @Bool.false))
        else
         some (@Bool.false)
       else
        some (@Bool.false)
      else
       some (@Bool.false)
     else
      some (@Bool.false)
    else
     some (@Bool.false)
   else
    some (@Bool.false)
  else
   some (@Bool.false)
 else
  some (@Bool.false)
theorem law21_alive_S (N : Nat) : (runK Go.Proofs.Try.prog (Ev26 N) 400 36 [] [.bool] ()).run = law21_alive N  := by kernel_rfl
noncomputable def Ev27 (N : Nat) : (R : Type) → Env R := Env.addFn (Ev26 N) 36 (fun R => fnK [] [.bool] (fun c => law21_alive N ))
theorem Ev27_ok (N : Nat) (R : Type) : EnvOK Go.Proofs.Try.prog (Ev27 N R) := EnvOK.addFn hmx (Ev26_ok N R) (Ev26_ok N _) (by kernel_rfl) (fun c => law21_alive_S N )
noncomputable def law21_theirs_L3_I : LI := ⟨22, 0, [(3, 82)], ⟨[(3, .lit (.own 0)), (6, .ty (.sl (.pair (.int .u8) (.sl (.int .u8))))), (7, .ty (.int .i64)), (8, .ty (.int .i64))], [.own (.pair (.int .u8) (.sl (.int .u8))) 82]⟩, [(.exit 0, ⟨[(3, .lit (.own 0))], [.own (.pair (.int .u8) (.sl (.int .u8))) 82]⟩)]⟩
noncomputable def law21_theirs_L3 (N : Nat) (X : (((List ((Int) × (List (Int)))) × ((Int) × ((Int) × Unit))) × ((List ((Int) × (List (Int)))) × Unit)) → Option ((Unit × ((List ((Int) × (List (Int)))) × Unit)))) (x6 : List ((Int) × (List (Int)))) (x7 : Int) (x8 : Int) (h0 : List ((Int) × (List (Int)))) : Option ((Unit × ((List ((Int) × (List (Int)))) × Unit))) :=
 bif (decide (x8 < x7)) then
  Option.bind (getI x6 x8) fun (v6 : (Int × (List Int))) =>
  bif (roomB ((List.length h0) + (List.length ([(v6.1, v6.2)] : List ((Int × (List Int)))))) 32) then
   (X ((x6, (x7, ((Go.IntKind.wrap .i64 (x8 + (1 : Int))), @Unit.unit))), ((h0 ++ ([(v6.1, v6.2)] : List ((Int × (List Int))))), @Unit.unit)))
  else
   none
 else
  some ((@Unit.unit, (h0, @Unit.unit)))
noncomputable def law21_theirs_L3_R (N : Nat) (c : (((List ((Int) × (List (Int)))) × ((Int) × ((Int) × Unit))) × ((List ((Int) × (List (Int)))) × Unit))) : Option ((Unit × ((List ((Int) × (List (Int)))) × Unit))) := gl (fun X c => law21_theirs_L3 N X c.1.1 c.1.2.1 c.1.2.2.1 c.2.1) N c
theorem law21_theirs_L3_S (N : Nat) (X : (((List ((Int) × (List (Int)))) × ((Int) × ((Int) × Unit))) × ((List ((Int) × (List (Int)))) × Unit)) → Option ((Unit × ((List ((Int) × (List (Int)))) × Unit)))) (x6 : List ((Int) × (List (Int)))) (x7 : Int) (x8 : Int) (h0 : List ((Int) × (List (Int)))) : (roundK Go.Proofs.Try.prog (Ev27 N) 400 [38] law21_theirs_L3_I (loopAt Go.Proofs.Try.prog [38] 3) X ((x6, x7, x8, ()), (h0, ()))).run = law21_theirs_L3 N X x6 x7 x8 h0 := by kernel_rfl
noncomputable def Ev28 (N : Nat) : (R : Type) → Env R := Env.addLp (Ev27 N) [38] 0 3 (fun R => lpK Go.Proofs.Try.prog law21_theirs_L3_I (fun X c => law21_theirs_L3 N X c.1.1 c.1.2.1 c.1.2.2.1 c.2.1) N)
theorem Ev28_ok (N : Nat) (R : Type) : EnvOK Go.Proofs.Try.prog (Ev28 N R) := EnvOK.addLp (Ev27_ok N R) (by kernel_rfl) (lpK_ok (li := law21_theirs_L3_I) (G := fun X c => law21_theirs_L3 N X c.1.1 c.1.2.1 c.1.2.2.1 c.2.1) hmx (Ev27_ok N _) (by kernel_rfl) loopAt_sub (fun (X : CT law21_theirs_L3_I.sh → Option (OT law21_theirs_L3_I.outs)) (c : CT law21_theirs_L3_I.sh) => law21_theirs_L3_S N X c.1.1 c.1.2.1 c.1.2.2.1 c.2.1) N)
noncomputable def law21_theirs (N : Nat) (l0 : List ((Int) × (List (Int)))) : Option (List ((Int) × (List (Int)))) :=
 Option.bind (law21_theirs_L3_R N ((l0, ((((List.length l0) : Nat) : Int), ((0 : Int), @Unit.unit))), (([] : List ((Int × (List Int)))), @Unit.unit))) fun (v2 : (Unit × ((List (Int × (List Int))) × Unit))) =>
 some (v2.2.1)
theorem law21_theirs_S (N : Nat) (l0 : List ((Int) × (List (Int)))) : (runK Go.Proofs.Try.prog (Ev28 N) 400 38 [(.sl (.pair (.int .u8) (.sl (.int .u8))))] [(.sl (.pair (.int .u8) (.sl (.int .u8))))] (l0, ())).run = law21_theirs N l0 := by kernel_rfl
noncomputable def Ev29 (N : Nat) : (R : Type) → Env R := Env.addFn (Ev28 N) 38 (fun R => fnK [(.sl (.pair (.int .u8) (.sl (.int .u8))))] [(.sl (.pair (.int .u8) (.sl (.int .u8))))] (fun c => law21_theirs N c.1))
theorem Ev29_ok (N : Nat) (R : Type) : EnvOK Go.Proofs.Try.prog (Ev29 N R) := EnvOK.addFn hmx (Ev28_ok N R) (Ev28_ok N _) (by kernel_rfl) (fun c => law21_theirs_S N c.1)
noncomputable def ref21_Lay_L5_I : LI := ⟨45, 0, [(4, 5)], ⟨[(0, .ty (.sl (.pair (.int .u8) (.sl (.int .u8))))), (4, .lit (.own 0)), (5, .ty (.int .i64))], [.own (.int .u8) 5]⟩, [(.ret, ⟨[(2, .ty (.sl (.int .u8))), (3, .ty (.int .i64))], []⟩), (.exit 0, ⟨[(4, .lit (.own 0))], [.own (.int .u8) 5]⟩)]⟩
noncomputable def ref21_Lay_L5 (N : Nat) (X : (((List ((Int) × (List (Int)))) × ((Int) × Unit)) × ((List (Int)) × Unit)) → Option (((((List (Int)) × ((Int) × Unit)) × Unit) ⊕ (Unit × ((List (Int)) × Unit))))) (l0 : List ((Int) × (List (Int)))) (i5 : Int) (h0 : List (Int)) : Option (((((List (Int)) × ((Int) × Unit)) × Unit) ⊕ (Unit × ((List (Int)) × Unit)))) :=
 bif (decide (i5 < (((List.length l0) : Nat) : Int))) then
  Option.bind (getI l0 i5) fun (v5 : (Int × (List Int))) =>
  bif (decide ((253 : Int) < (((List.length v5.2) : Nat) : Int))) then
   some ((.inl ((([] : List (Int)), ((8 : Int), @Unit.unit)), @Unit.unit)))
  else
   Option.bind (getI l0 i5) fun (v6 : (Int × (List Int))) =>
   Option.bind (getI l0 i5) fun (v7 : (Int × (List Int))) =>
   Option.bind (getI l0 i5) fun (v8 : (Int × (List Int))) =>
   bif (roomB ((List.length h0) + (List.length ([v6.1, (Go.IntKind.wrap .u8 (Go.IntKind.wrap .i64 ((2 : Int) + (((List.length v7.2) : Nat) : Int))))] : List (Int)))) 1) then
    bif (roomB ((List.length (h0 ++ ([v6.1, (Go.IntKind.wrap .u8 (Go.IntKind.wrap .i64 ((2 : Int) + (((List.length v7.2) : Nat) : Int))))] : List (Int)))) + (List.length v8.2)) 1) then
     (X ((l0, ((Go.IntKind.wrap .i64 (i5 + (1 : Int))), @Unit.unit)), (((h0 ++ ([v6.1, (Go.IntKind.wrap .u8 (Go.IntKind.wrap .i64 ((2 : Int) + (((List.length v7.2) : Nat) : Int))))] : List (Int))) ++ v8.2), @Unit.unit)))
    else
     none
   else
    none
 else
  some ((.inr (@Unit.unit, (h0, @Unit.unit))))
noncomputable def ref21_Lay_L5_R (N : Nat) (c : (((List ((Int) × (List (Int)))) × ((Int) × Unit)) × ((List (Int)) × Unit))) : Option (((((List (Int)) × ((Int) × Unit)) × Unit) ⊕ (Unit × ((List (Int)) × Unit)))) := gl (fun X c => ref21_Lay_L5 N X c.1.1 c.1.2.1 c.2.1) N c
theorem ref21_Lay_L5_S (N : Nat) (X : (((List ((Int) × (List (Int)))) × ((Int) × Unit)) × ((List (Int)) × Unit)) → Option (((((List (Int)) × ((Int) × Unit)) × Unit) ⊕ (Unit × ((List (Int)) × Unit))))) (l0 : List ((Int) × (List (Int)))) (i5 : Int) (h0 : List (Int)) : (roundK Go.Proofs.Try.prog (Ev29 N) 400 [39] ref21_Lay_L5_I (loopAt Go.Proofs.Try.prog [39] 5) X ((l0, i5, ()), (h0, ()))).run = ref21_Lay_L5 N X l0 i5 h0 := by kernel_rfl
noncomputable def Ev30 (N : Nat) : (R : Type) → Env R := Env.addLp (Ev29 N) [39] 0 5 (fun R => lpK Go.Proofs.Try.prog ref21_Lay_L5_I (fun X c => ref21_Lay_L5 N X c.1.1 c.1.2.1 c.2.1) N)
theorem Ev30_ok (N : Nat) (R : Type) : EnvOK Go.Proofs.Try.prog (Ev30 N R) := EnvOK.addLp (Ev29_ok N R) (by kernel_rfl) (lpK_ok (li := ref21_Lay_L5_I) (G := fun X c => ref21_Lay_L5 N X c.1.1 c.1.2.1 c.2.1) hmx (Ev29_ok N _) (by kernel_rfl) loopAt_sub (fun (X : CT ref21_Lay_L5_I.sh → Option (OT ref21_Lay_L5_I.outs)) (c : CT ref21_Lay_L5_I.sh) => ref21_Lay_L5_S N X c.1.1 c.1.2.1 c.2.1) N)
noncomputable def ref21_Lay (N : Nat) (l0 : List ((Int) × (List (Int)))) : Option ((List (Int)) × Int) :=
 bif (decide ((32 : Int) < (((List.length l0) : Nat) : Int))) then
  some ((([] : List (Int)), (5 : Int)))
 else
  Option.bind (ref21_Lay_L5_R N ((l0, ((0 : Int), @Unit.unit)), (([] : List (Int)), @Unit.unit))) fun (v2 : ((((List Int) × (Int × Unit)) × Unit) ⊕ (Unit × ((List Int) × Unit)))) =>
  Sum.elim
   (fun (v3 : (((List Int) × (Int × Unit)) × Unit)) =>
   some ((v3.1.1, v3.1.2.1)))
   (fun (v3 : (Unit × ((List Int) × Unit))) =>
   some ((v3.2.1, (0 : Int)))) v2
theorem ref21_Lay_S (N : Nat) (l0 : List ((Int) × (List (Int)))) : (runK Go.Proofs.Try.prog (Ev30 N) 400 39 [(.sl (.pair (.int .u8) (.sl (.int .u8))))] [(.sl (.int .u8)), (.int .i64)] (l0, ())).run = ref21_Lay N l0 := by kernel_rfl
noncomputable def Ev31 (N : Nat) : (R : Type) → Env R := Env.addFn (Ev30 N) 39 (fun R => fnK [(.sl (.pair (.int .u8) (.sl (.int .u8))))] [(.sl (.int .u8)), (.int .i64)] (fun c => ref21_Lay N c.1))
theorem Ev31_ok (N : Nat) (R : Type) : EnvOK Go.Proofs.Try.prog (Ev31 N R) := EnvOK.addFn hmx (Ev30_ok N R) (Ev30_ok N _) (by kernel_rfl) (fun c => ref21_Lay_S N c.1)
noncomputable def ref21_Parse_L3_I : LI := ⟨52, 0, [(4, 85)], ⟨[(0, .ty (.sl (.int .u8))), (4, .lit (.own 0)), (5, .ty (.int .i64))], [.own (.pair (.int .u8) (.sl (.int .u8))) 85]⟩, [(.ret, ⟨[(2, .ty (.sl (.pair (.int .u8) (.sl (.int .u8))))), (3, .ty (.int .i64))], []⟩), (.exit 0, ⟨[(4, .lit (.own 0))], [.own (.pair (.int .u8) (.sl (.int .u8))) 85]⟩)]⟩
noncomputable def ref21_Parse_L3 (N : Nat) (X : (((List (Int)) × ((Int) × Unit)) × ((List ((Int) × (List (Int)))) × Unit)) → Option (((((List ((Int) × (List (Int)))) × ((Int) × Unit)) × Unit) ⊕ (Unit × ((List ((Int) × (List (Int)))) × Unit))))) (b0 : List (Int)) (x5 : Int) (h0 : List ((Int) × (List (Int)))) : Option (((((List ((Int) × (List (Int)))) × ((Int) × Unit)) × Unit) ⊕ (Unit × ((List ((Int) × (List (Int)))) × Unit)))) :=
 bif (decide (x5 < (((List.length b0) : Nat) : Int))) then
  bif (decide ((((List.length h0) : Nat) : Int) = (32 : Int))) then
   some ((.inl ((([] : List ((Int × (List Int)))), ((5 : Int), @Unit.unit)), @Unit.unit)))
  else
   bif (decide ((Go.IntKind.wrap .i64 ((((List.length b0) : Nat) : Int) - x5)) < (2 : Int))) then
    some ((.inl ((([] : List ((Int × (List Int)))), ((4 : Int), @Unit.unit)), @Unit.unit)))
   else
    Option.bind (getI b0 (Go.IntKind.wrap .i64 (x5 + (1 : Int)))) fun (v5 : Int) =>
    bif (decide ((Go.IntKind.wrap .i64 v5) < (2 : Int))) then
     some ((.inl ((([] : List ((Int × (List Int)))), ((3 : Int), @Unit.unit)), @Unit.unit)))
    else
     bif (decide ((Go.IntKind.wrap .i64 ((((List.length b0) : Nat) : Int) - x5)) < (Go.IntKind.wrap .i64 v5))) then
      some ((.inl ((([] : List ((Int × (List Int)))), ((4 : Int), @Unit.unit)), @Unit.unit)))
     else
      Option.bind (getI b0 x5) fun (v6 : Int) =>
      Option.bind (subI b0 (Go.IntKind.wrap .i64 (x5 + (2 : Int))) (Go.IntKind.wrap .i64 (x5 + (Go.IntKind.wrap .i64 v5)))) fun (v7 : (List Int)) =>
      bif (roomB ((List.length h0) + (List.length ([(v6, v7)] : List ((Int × (List Int)))))) 32) then
       (X ((b0, ((Go.IntKind.wrap .i64 (x5 + (Go.IntKind.wrap .i64 v5))), @Unit.unit)), ((h0 ++ ([(v6, v7)] : List ((Int × (List Int))))), @Unit.unit)))
      else
       none
 else
  some ((.inr (@Unit.unit, (h0, @Unit.unit))))
noncomputable def ref21_Parse_L3_R (N : Nat) (c : (((List (Int)) × ((Int) × Unit)) × ((List ((Int) × (List (Int)))) × Unit))) : Option (((((List ((Int) × (List (Int)))) × ((Int) × Unit)) × Unit) ⊕ (Unit × ((List ((Int) × (List (Int)))) × Unit)))) := gl (fun X c => ref21_Parse_L3 N X c.1.1 c.1.2.1 c.2.1) N c
theorem ref21_Parse_L3_S (N : Nat) (X : (((List (Int)) × ((Int) × Unit)) × ((List ((Int) × (List (Int)))) × Unit)) → Option (((((List ((Int) × (List (Int)))) × ((Int) × Unit)) × Unit) ⊕ (Unit × ((List ((Int) × (List (Int)))) × Unit))))) (b0 : List (Int)) (x5 : Int) (h0 : List ((Int) × (List (Int)))) : (roundK Go.Proofs.Try.prog (Ev31 N) 400 [41] ref21_Parse_L3_I (loopAt Go.Proofs.Try.prog [41] 3) X ((b0, x5, ()), (h0, ()))).run = ref21_Parse_L3 N X b0 x5 h0 := by kernel_rfl
noncomputable def Ev32 (N : Nat) : (R : Type) → Env R := Env.addLp (Ev31 N) [41] 0 3 (fun R => lpK Go.Proofs.Try.prog ref21_Parse_L3_I (fun X c => ref21_Parse_L3 N X c.1.1 c.1.2.1 c.2.1) N)
theorem Ev32_ok (N : Nat) (R : Type) : EnvOK Go.Proofs.Try.prog (Ev32 N R) := EnvOK.addLp (Ev31_ok N R) (by kernel_rfl) (lpK_ok (li := ref21_Parse_L3_I) (G := fun X c => ref21_Parse_L3 N X c.1.1 c.1.2.1 c.2.1) hmx (Ev31_ok N _) (by kernel_rfl) loopAt_sub (fun (X : CT ref21_Parse_L3_I.sh → Option (OT ref21_Parse_L3_I.outs)) (c : CT ref21_Parse_L3_I.sh) => ref21_Parse_L3_S N X c.1.1 c.1.2.1 c.2.1) N)
noncomputable def ref21_Parse (N : Nat) (b0 : List (Int)) : Option ((List ((Int) × (List (Int)))) × Int) :=
 Option.bind (ref21_Parse_L3_R N ((b0, ((0 : Int), @Unit.unit)), (([] : List ((Int × (List Int)))), @Unit.unit))) fun (v2 : ((((List (Int × (List Int))) × (Int × Unit)) × Unit) ⊕ (Unit × ((List (Int × (List Int))) × Unit)))) =>
 Sum.elim
  (fun (v3 : (((List (Int × (List Int))) × (Int × Unit)) × Unit)) =>
  some ((v3.1.1, v3.1.2.1)))
  (fun (v3 : (Unit × ((List (Int × (List Int))) × Unit))) =>
  some ((v3.2.1, (0 : Int)))) v2
theorem ref21_Parse_S (N : Nat) (b0 : List (Int)) : (runK Go.Proofs.Try.prog (Ev32 N) 400 41 [(.sl (.int .u8))] [(.sl (.pair (.int .u8) (.sl (.int .u8)))), (.int .i64)] (b0, ())).run = ref21_Parse N b0 := by kernel_rfl
noncomputable def Ev33 (N : Nat) : (R : Type) → Env R := Env.addFn (Ev32 N) 41 (fun R => fnK [(.sl (.int .u8))] [(.sl (.pair (.int .u8) (.sl (.int .u8)))), (.int .i64)] (fun c => ref21_Parse N c.1))
theorem Ev33_ok (N : Nat) (R : Type) : EnvOK Go.Proofs.Try.prog (Ev33 N R) := EnvOK.addFn hmx (Ev32_ok N R) (Ev32_ok N _) (by kernel_rfl) (fun c => ref21_Parse_S N c.1)
noncomputable def ref01_Same_L4_I : LI := ⟨26, 0, [], ⟨[(0, .ty (.sl (.int .u8))), (1, .ty (.sl (.int .u8))), (5, .ty (.int .i64))], []⟩, [(.ret, ⟨[(4, .ty .bool)], []⟩), (.exit 0, ⟨[], []⟩)]⟩
noncomputable def ref01_Same_L4 (N : Nat) (X : (((List (Int)) × ((List (Int)) × ((Int) × Unit))) × Unit) → Option (((((Bool) × Unit) × Unit) ⊕ (Unit × Unit)))) (a0 : List (Int)) (b1 : List (Int)) (i5 : Int) : Option (((((Bool) × Unit) × Unit) ⊕ (Unit × Unit))) :=
 bif (decide (i5 < (((List.length a0) : Nat) : Int))) then
  Option.bind (getI a0 i5) fun (v5 : Int) =>
  Option.bind (getI b1 i5) fun (v6 : Int) =>
  bif (!(decide (v5 = v6))) then
   some ((.inl ((@Bool.false, @Unit.unit), @Unit.unit)))
  else
   (X ((a0, (b1, ((Go.IntKind.wrap .i64 (i5 + (1 : Int))), @Unit.unit))), @Unit.unit))
 else
  some ((.inr (@Unit.unit, @Unit.unit)))
noncomputable def ref01_Same_L4_R (N : Nat) (c : (((List (Int)) × ((List (Int)) × ((Int) × Unit))) × Unit)) : Option (((((Bool) × Unit) × Unit) ⊕ (Unit × Unit))) := gl (fun X c => ref01_Same_L4 N X c.1.1 c.1.2.1 c.1.2.2.1) N c
theorem ref01_Same_L4_S (N : Nat) (X : (((List (Int)) × ((List (Int)) × ((Int) × Unit))) × Unit) → Option (((((Bool) × Unit) × Unit) ⊕ (Unit × Unit)))) (a0 : List (Int)) (b1 : List (Int)) (i5 : Int) : (roundK Go.Proofs.Try.prog (Ev33 N) 400 [19] ref01_Same_L4_I (loopAt Go.Proofs.Try.prog [19] 4) X ((a0, b1, i5, ()), ())).run = ref01_Same_L4 N X a0 b1 i5 := by kernel_rfl
noncomputable def Ev34 (N : Nat) : (R : Type) → Env R := Env.addLp (Ev33 N) [19] 0 4 (fun R => lpK Go.Proofs.Try.prog ref01_Same_L4_I (fun X c => ref01_Same_L4 N X c.1.1 c.1.2.1 c.1.2.2.1) N)
theorem Ev34_ok (N : Nat) (R : Type) : EnvOK Go.Proofs.Try.prog (Ev34 N R) := EnvOK.addLp (Ev33_ok N R) (by kernel_rfl) (lpK_ok (li := ref01_Same_L4_I) (G := fun X c => ref01_Same_L4 N X c.1.1 c.1.2.1 c.1.2.2.1) hmx (Ev33_ok N _) (by kernel_rfl) loopAt_sub (fun (X : CT ref01_Same_L4_I.sh → Option (OT ref01_Same_L4_I.outs)) (c : CT ref01_Same_L4_I.sh) => ref01_Same_L4_S N X c.1.1 c.1.2.1 c.1.2.2.1) N)
noncomputable def ref01_Same (N : Nat) (a0 : List (Int)) (b1 : List (Int)) : Option (Bool) :=
 bif (!(decide ((((List.length a0) : Nat) : Int) = (((List.length b1) : Nat) : Int)))) then
  some (@Bool.false)
 else
  Option.bind (ref01_Same_L4_R N ((a0, (b1, ((0 : Int), @Unit.unit))), @Unit.unit)) fun (v3 : (((Bool × Unit) × Unit) ⊕ (Unit × Unit))) =>
  Sum.elim
   (fun (v4 : ((Bool × Unit) × Unit)) =>
   some (v4.1.1))
   (fun (v4 : (Unit × Unit)) =>
   some (@Bool.true)) v3
theorem ref01_Same_S (N : Nat) (a0 : List (Int)) (b1 : List (Int)) : (runK Go.Proofs.Try.prog (Ev34 N) 400 19 [(.sl (.int .u8)), (.sl (.int .u8))] [.bool] (a0, b1, ())).run = ref01_Same N a0 b1 := by kernel_rfl
noncomputable def Ev35 (N : Nat) : (R : Type) → Env R := Env.addFn (Ev34 N) 19 (fun R => fnK [(.sl (.int .u8)), (.sl (.int .u8))] [.bool] (fun c => ref01_Same N c.1 c.2.1))
theorem Ev35_ok (N : Nat) (R : Type) : EnvOK Go.Proofs.Try.prog (Ev35 N R) := EnvOK.addFn hmx (Ev34_ok N R) (Ev34_ok N _) (by kernel_rfl) (fun c => ref01_Same_S N c.1 c.2.1)
noncomputable def law21_OptsLays (N : Nat) (l0 : List ((Int) × (List (Int)))) (b1 : List (Int)) : Option (Bool) :=
 Option.bind (@law21_far N l0) fun (v3 : Bool) =>
 bif v3 then
  Option.bind (@law21_alive N) fun (v4 : Bool) =>
  some (v4)
 else
  bif (@cond Bool @Bool.false @Bool.true (decide ((3000 : Int) < (((List.length b1) : Nat) : Int)))) then
   Option.bind (@law21_alive N) fun (v4 : Bool) =>
   some (v4)
  else
   Option.bind (@law21_theirs N l0) fun (v4 : (List (Int × (List Int)))) =>
   Option.bind (@opts_Lay N v4) fun (v5 : ((List Int) × Int)) =>
   Option.bind (@ref21_Lay N l0) fun (v6 : ((List Int) × Int)) =>
   Option.bind (@opts_Parse N b1) fun (v7 : ((List (Int × (List Int))) × Int)) =>
   Option.bind (@ref21_Parse N b1) fun (v8 : ((List (Int × (List Int))) × Int)) =>
   Option.bind (@ref01_Same N v5.1 v6.1) fun (v9 : Bool) =>
   bif (!v9) then
    some (@Bool.false)
   else
    bif (@cond Bool @Bool.false @Bool.true (!(decide (v5.2 = v6.2)))) then
     some (@Bool.false)
    else
     Option.bind (@law21_theirs N v8.1) fun (v10 : (List (Int × (List Int)))) =>
     Option.bind (@opts_Same N v7.1 v10) fun (v11 : Bool) =>
     bif (@cond Bool @Bool.false @Bool.true (!v11)) then
      some (@Bool.false)
     else
      bif (@cond Bool @Bool.false @Bool.true (!(decide (v7.2 = v8.2)))) then
       some (@Bool.false)
      else
       Option.bind (@opts_Parse N v5.1) fun (v12 : ((List (Int × (List Int))) × Int)) =>
       bif (decide (v5.2 = (0 : Int))) then
        Option.bind (@law21_theirs N l0) fun (v13 : (List (Int × (List Int)))) =>
        Option.bind (@opts_Same N v12.1 v13) fun (v14 : Bool) =>
        bif (!v14) then
         some (@Bool.false)
        else
         bif (@cond Bool @Bool.true (@cond Bool @Bool.false @Bool.true (!(decide (v12.2 = (0 : Int))))) @Bool.false) then
          some (@Bool.false)
         else
          Option.bind (@opts_Lay N v7.1) fun (v15 : ((List Int) × Int)) =>
          bif (!(decide (v7.2 = (0 : Int)))) then
           Option.bind (@law21_alive N) fun (v16 : Bool) =>
           some ((@cond Bool @Bool.true v16 @Bool.false))
          else
           bif (decide (v15.2 = (0 : Int))) then
            Option.bind (@ref01_Same N v15.1 b1) fun (v16 : Bool) =>
            bif (@cond Bool @Bool.false @Bool.true (@cond Bool @Bool.true v16 @Bool.false)) then
             Option.bind (@law21_alive N) fun (v17 : Bool) =>
             some ((@cond Bool @Bool.true v17 @Bool.false))
            else
             some (@Bool.false)
           else
            some (@Bool.false)
       else
        Option.bind (@opts_Lay N v7.1) fun (v13 : ((List Int) × Int)) =>
        bif (!(decide (v7.2 = (0 : Int)))) then
         Option.bind (@law21_alive N) fun (v14 : Bool) =>
         some ((@cond Bool @Bool.true v14 @Bool.false))
        else
         bif (decide (v13.2 = (0 : Int))) then
          Option.bind (@ref01_Same N v13.1 b1) fun (v14 : Bool) =>
          bif (@cond Bool @Bool.false @Bool.true (@cond Bool @Bool.true v14 @Bool.false)) then
           Option.bind (@law21_alive N) fun (v15 : Bool) =>
           some ((@cond Bool @Bool.true v15 @Bool.false))
          else
           some (@Bool.false)
         else
          some (@Bool.false)
theorem law21_OptsLays_S (N : Nat) (l0 : List ((Int) × (List (Int)))) (b1 : List (Int)) : (runK Go.Proofs.Try.prog (Ev35 N) 400 6 [(.sl (.pair (.int .u8) (.sl (.int .u8)))), (.sl (.int .u8))] [.bool] (l0, b1, ())).run = law21_OptsLays N l0 b1 := by kernel_rfl
theorem law21_OptsLays_C (N : Nat) (l0 : List ((Int) × (List (Int)))) (b1 : List (Int)) (y : Bool) (h : law21_OptsLays N l0 b1 = some y) : CallsK Go.Proofs.Try.prog 6 (valA [(.sl (.pair (.int .u8) (.sl (.int .u8)))), (.sl (.int .u8))] (l0, b1, ())) (tupV (valR [.bool] y)) := runK_ok hmx (Ev35_ok N _) (okFn_ok (by kernel_rfl)) (by rw [law21_OptsLays_S]; exact h)
noncomputable def Ev36 (N : Nat) : (R : Type) → Env R := Env.addFn (Ev35 N) 6 (fun R => fnK [(.sl (.pair (.int .u8) (.sl (.int .u8)))), (.sl (.int .u8))] [.bool] (fun c => law21_OptsLays N c.1 c.2.1))
theorem Ev36_ok (N : Nat) (R : Type) : EnvOK Go.Proofs.Try.prog (Ev36 N R) := EnvOK.addFn hmx (Ev35_ok N R) (Ev35_ok N _) (by kernel_rfl) (fun c => law21_OptsLays_S N c.1 c.2.1)
noncomputable def ref21_Find_L2_I : LI := ⟨25, 0, [], ⟨[(0, .ty (.sl (.pair (.int .u8) (.sl (.int .u8))))), (1, .ty (.int .u8)), (4, .lit (.box 0 0)), (6, .ty (.int .i64))], [.box 85 (.pair (.int .u8) (.sl (.int .u8)))]⟩, [(.ret, ⟨[(4, .lit (.box 0 0)), (5, .ty .bool)], [.box 85 (.pair (.int .u8) (.sl (.int .u8)))]⟩), (.exit 0, ⟨[(4, .lit (.box 0 0))], [.box 85 (.pair (.int .u8) (.sl (.int .u8)))]⟩)]⟩
noncomputable def ref21_Find_L2 (N : Nat) (X : (((List ((Int) × (List (Int)))) × ((Int) × ((Int) × Unit))) × (((Int) × (List (Int))) × Unit)) → Option (((((Bool) × Unit) × (((Int) × (List (Int))) × Unit)) ⊕ (Unit × (((Int) × (List (Int))) × Unit))))) (l0 : List ((Int) × (List (Int)))) (kind1 : Int) (i6 : Int) (h0 : (Int) × (List (Int))) : Option (((((Bool) × Unit) × (((Int) × (List (Int))) × Unit)) ⊕ (Unit × (((Int) × (List (Int))) × Unit)))) :=
 bif (decide (i6 < (((List.length l0) : Nat) : Int))) then
  Option.bind (getI l0 i6) fun (v6 : (Int × (List Int))) =>
  bif (decide (v6.1 = kind1)) then
   Option.bind (getI l0 i6) fun (v7 : (Int × (List Int))) =>
   some ((.inl ((@Bool.true, @Unit.unit), ((v7.1, v7.2), @Unit.unit))))
  else
   (X ((l0, (kind1, ((Go.IntKind.wrap .i64 (i6 + (1 : Int))), @Unit.unit))), ((h0.1, h0.2), @Unit.unit)))
 else
  some ((.inr (@Unit.unit, ((h0.1, h0.2), @Unit.unit))))
noncomputable def ref21_Find_L2_R (N : Nat) (c : (((List ((Int) × (List (Int)))) × ((Int) × ((Int) × Unit))) × (((Int) × (List (Int))) × Unit))) : Option (((((Bool) × Unit) × (((Int) × (List (Int))) × Unit)) ⊕ (Unit × (((Int) × (List (Int))) × Unit)))) := gl (fun X c => ref21_Find_L2 N X c.1.1 c.1.2.1 c.1.2.2.1 c.2.1) N c
theorem ref21_Find_L2_S (N : Nat) (X : (((List ((Int) × (List (Int)))) × ((Int) × ((Int) × Unit))) × (((Int) × (List (Int))) × Unit)) → Option (((((Bool) × Unit) × (((Int) × (List (Int))) × Unit)) ⊕ (Unit × (((Int) × (List (Int))) × Unit))))) (l0 : List ((Int) × (List (Int)))) (kind1 : Int) (i6 : Int) (h0 : (Int) × (List (Int))) : (roundK Go.Proofs.Try.prog (Ev36 N) 400 [44] ref21_Find_L2_I (loopAt Go.Proofs.Try.prog [44] 2) X ((l0, kind1, i6, ()), (h0, ()))).run = ref21_Find_L2 N X l0 kind1 i6 h0 := by kernel_rfl
noncomputable def Ev37 (N : Nat) : (R : Type) → Env R := Env.addLp (Ev36 N) [44] 0 2 (fun R => lpK Go.Proofs.Try.prog ref21_Find_L2_I (fun X c => ref21_Find_L2 N X c.1.1 c.1.2.1 c.1.2.2.1 c.2.1) N)
theorem Ev37_ok (N : Nat) (R : Type) : EnvOK Go.Proofs.Try.prog (Ev37 N R) := EnvOK.addLp (Ev36_ok N R) (by kernel_rfl) (lpK_ok (li := ref21_Find_L2_I) (G := fun X c => ref21_Find_L2 N X c.1.1 c.1.2.1 c.1.2.2.1 c.2.1) hmx (Ev36_ok N _) (by kernel_rfl) loopAt_sub (fun (X : CT ref21_Find_L2_I.sh → Option (OT ref21_Find_L2_I.outs)) (c : CT ref21_Find_L2_I.sh) => ref21_Find_L2_S N X c.1.1 c.1.2.1 c.1.2.2.1 c.2.1) N)
noncomputable def ref21_Find (N : Nat) (l0 : List ((Int) × (List (Int)))) (kind1 : Int) : Option (((Int) × (List (Int))) × Bool) :=
 Option.bind (ref21_Find_L2_R N ((l0, (kind1, ((0 : Int), @Unit.unit))), (((0 : Int), ([] : List (Int))), @Unit.unit))) fun (v3 : (((Bool × Unit) × ((Int × (List Int)) × Unit)) ⊕ (Unit × ((Int × (List Int)) × Unit)))) =>
 Sum.elim
  (fun (v4 : ((Bool × Unit) × ((Int × (List Int)) × Unit))) =>
  some (((v4.2.1.1, v4.2.1.2), v4.1.1)))
  (fun (v4 : (Unit × ((Int × (List Int)) × Unit))) =>
  some ((((0 : Int), ([] : List (Int))), @Bool.false))) v3
theorem ref21_Find_S (N : Nat) (l0 : List ((Int) × (List (Int)))) (kind1 : Int) : (runK Go.Proofs.Try.prog (Ev37 N) 400 44 [(.sl (.pair (.int .u8) (.sl (.int .u8)))), (.int .u8)] [(.pair (.int .u8) (.sl (.int .u8))), .bool] (l0, kind1, ())).run = ref21_Find N l0 kind1 := by kernel_rfl
noncomputable def Ev38 (N : Nat) : (R : Type) → Env R := Env.addFn (Ev37 N) 44 (fun R => fnK [(.sl (.pair (.int .u8) (.sl (.int .u8)))), (.int .u8)] [(.pair (.int .u8) (.sl (.int .u8))), .bool] (fun c => ref21_Find N c.1 c.2.1))
theorem Ev38_ok (N : Nat) (R : Type) : EnvOK Go.Proofs.Try.prog (Ev38 N R) := EnvOK.addFn hmx (Ev37_ok N R) (Ev37_ok N _) (by kernel_rfl) (fun c => ref21_Find_S N c.1 c.2.1)
noncomputable def law21_OptsAsks_L10_I : LI := ⟨110, 0, [], ⟨[(0, .ty (.sl (.pair (.int .u8) (.sl (.int .u8))))), (1, .ty (.sl (.pair (.int .u8) (.sl (.int .u8))))), (2, .ty (.int .u8)), (7, .ty (.sl (.pair (.int .u8) (.sl (.int .u8))))), (8, .ty (.sl (.pair (.int .u8) (.sl (.int .u8))))), (9, .lit (.box 0 0)), (10, .ty .bool), (11, .lit (.box 1 0)), (12, .ty .bool), (13, .ty (.sl (.int .u8))), (46, .ty (.int .i64)), (47, .ty (.int .i64))], [.box 82 (.pair (.int .u8) (.sl (.int .u8))), .box 85 (.pair (.int .u8) (.sl (.int .u8)))]⟩, [(.ret, ⟨[(6, .ty .bool)], []⟩), (.exit 0, ⟨[(0, .ty (.sl (.pair (.int .u8) (.sl (.int .u8))))), (1, .ty (.sl (.pair (.int .u8) (.sl (.int .u8))))), (2, .ty (.int .u8)), (7, .ty (.sl (.pair (.int .u8) (.sl (.int .u8))))), (8, .ty (.sl (.pair (.int .u8) (.sl (.int .u8))))), (9, .lit (.box 0 0)), (10, .ty .bool), (11, .lit (.box 1 0)), (12, .ty .bool)], [.box 82 (.pair (.int .u8) (.sl (.int .u8))), .box 85 (.pair (.int .u8) (.sl (.int .u8)))]⟩)]⟩
noncomputable def law21_OptsAsks_L10 (N : Nat) (X : (((List ((Int) × (List (Int)))) × ((List ((Int) × (List (Int)))) × ((Int) × ((List ((Int) × (List (Int)))) × ((List ((Int) × (List (Int)))) × ((Bool) × ((Bool) × ((List (Int)) × ((Int) × ((Int) × Unit)))))))))) × (((Int) × (List (Int))) × (((Int) × (List (Int))) × Unit))) → Option (((((Bool) × Unit) × Unit) ⊕ (((List ((Int) × (List (Int)))) × ((List ((Int) × (List (Int)))) × ((Int) × ((List ((Int) × (List (Int)))) × ((List ((Int) × (List (Int)))) × ((Bool) × ((Bool) × Unit))))))) × (((Int) × (List (Int))) × (((Int) × (List (Int))) × Unit)))))) (l0 : List ((Int) × (List (Int)))) (k1 : List ((Int) × (List (Int)))) (kind2 : Int) (a7 : List ((Int) × (List (Int)))) (b8 : List ((Int) × (List (Int)))) (ok10 : Bool) (x12 : Bool) (kinds13 : List (Int)) (x46 : Int) (x47 : Int) (h0 : (Int) × (List (Int))) (h1 : (Int) × (List (Int))) : Option (((((Bool) × Unit) × Unit) ⊕ (((List ((Int) × (List (Int)))) × ((List ((Int) × (List (Int)))) × ((Int) × ((List ((Int) × (List (Int)))) × ((List ((Int) × (List (Int)))) × ((Bool) × ((Bool) × Unit))))))) × (((Int) × (List (Int))) × (((Int) × (List (Int))) × Unit))))) :=
 bif (decide (x47 < x46)) then
  Option.bind (getI kinds13 x47) fun (v14 : Int) =>
  Option.bind (getI l0 x47) fun (v15 : (Int × (List Int))) =>
  bif (!(decide (v14 = v15.1))) then
   some ((.inl ((@Bool.false, @Unit.unit), @Unit.unit)))
  else
   (X ((l0, (k1, (kind2, (a7, (b8, (ok10, (x12, (kinds13, (x46, ((Go.IntKind.wrap .i64 (x47 + (1 : Int))), @Unit.unit)))))))))), ((h0.1, h0.2), ((h1.1, h1.2), @Unit.unit))))
 else
  some ((.inr ((l0, (k1, (kind2, (a7, (b8, (ok10, (x12, @Unit.unit))))))), ((h0.1, h0.2), ((h1.1, h1.2), @Unit.unit)))))
noncomputable def law21_OptsAsks_L10_R (N : Nat) (c : (((List ((Int) × (List (Int)))) × ((List ((Int) × (List (Int)))) × ((Int) × ((List ((Int) × (List (Int)))) × ((List ((Int) × (List (Int)))) × ((Bool) × ((Bool) × ((List (Int)) × ((Int) × ((Int) × Unit)))))))))) × (((Int) × (List (Int))) × (((Int) × (List (Int))) × Unit)))) : Option (((((Bool) × Unit) × Unit) ⊕ (((List ((Int) × (List (Int)))) × ((List ((Int) × (List (Int)))) × ((Int) × ((List ((Int) × (List (Int)))) × ((List ((Int) × (List (Int)))) × ((Bool) × ((Bool) × Unit))))))) × (((Int) × (List (Int))) × (((Int) × (List (Int))) × Unit))))) := gl (fun X c => law21_OptsAsks_L10 N X c.1.1 c.1.2.1 c.1.2.2.1 c.1.2.2.2.1 c.1.2.2.2.2.1 c.1.2.2.2.2.2.1 c.1.2.2.2.2.2.2.1 c.1.2.2.2.2.2.2.2.1 c.1.2.2.2.2.2.2.2.2.1 c.1.2.2.2.2.2.2.2.2.2.1 c.2.1 c.2.2.1) N c
theorem law21_OptsAsks_L10_S (N : Nat) (X : (((List ((Int) × (List (Int)))) × ((List ((Int) × (List (Int)))) × ((Int) × ((List ((Int) × (List (Int)))) × ((List ((Int) × (List (Int)))) × ((Bool) × ((Bool) × ((List (Int)) × ((Int) × ((Int) × Unit)))))))))) × (((Int) × (List (Int))) × (((Int) × (List (Int))) × Unit))) → Option (((((Bool) × Unit) × Unit) ⊕ (((List ((Int) × (List (Int)))) × ((List ((Int) × (List (Int)))) × ((Int) × ((List ((Int) × (List (Int)))) × ((List ((Int) × (List (Int)))) × ((Bool) × ((Bool) × Unit))))))) × (((Int) × (List (Int))) × (((Int) × (List (Int))) × Unit)))))) (l0 : List ((Int) × (List (Int)))) (k1 : List ((Int) × (List (Int)))) (kind2 : Int) (a7 : List ((Int) × (List (Int)))) (b8 : List ((Int) × (List (Int)))) (ok10 : Bool) (x12 : Bool) (kinds13 : List (Int)) (x46 : Int) (x47 : Int) (h0 : (Int) × (List (Int))) (h1 : (Int) × (List (Int))) : (roundK Go.Proofs.Try.prog (Ev38 N) 400 [7] law21_OptsAsks_L10_I (loopAt Go.Proofs.Try.prog [7] 10) X ((l0, k1, kind2, a7, b8, ok10, x12, kinds13, x46, x47, ()), (h0, h1, ()))).run = law21_OptsAsks_L10 N X l0 k1 kind2 a7 b8 ok10 x12 kinds13 x46 x47 h0 h1 := by kernel_rfl
noncomputable def Ev39 (N : Nat) : (R : Type) → Env R := Env.addLp (Ev38 N) [7] 0 10 (fun R => lpK Go.Proofs.Try.prog law21_OptsAsks_L10_I (fun X c => law21_OptsAsks_L10 N X c.1.1 c.1.2.1 c.1.2.2.1 c.1.2.2.2.1 c.1.2.2.2.2.1 c.1.2.2.2.2.2.1 c.1.2.2.2.2.2.2.1 c.1.2.2.2.2.2.2.2.1 c.1.2.2.2.2.2.2.2.2.1 c.1.2.2.2.2.2.2.2.2.2.1 c.2.1 c.2.2.1) N)
theorem Ev39_ok (N : Nat) (R : Type) : EnvOK Go.Proofs.Try.prog (Ev39 N R) := EnvOK.addLp (Ev38_ok N R) (by kernel_rfl) (lpK_ok (li := law21_OptsAsks_L10_I) (G := fun X c => law21_OptsAsks_L10 N X c.1.1 c.1.2.1 c.1.2.2.1 c.1.2.2.2.1 c.1.2.2.2.2.1 c.1.2.2.2.2.2.1 c.1.2.2.2.2.2.2.1 c.1.2.2.2.2.2.2.2.1 c.1.2.2.2.2.2.2.2.2.1 c.1.2.2.2.2.2.2.2.2.2.1 c.2.1 c.2.2.1) hmx (Ev38_ok N _) (by kernel_rfl) loopAt_sub (fun (X : CT law21_OptsAsks_L10_I.sh → Option (OT law21_OptsAsks_L10_I.outs)) (c : CT law21_OptsAsks_L10_I.sh) => law21_OptsAsks_L10_S N X c.1.1 c.1.2.1 c.1.2.2.1 c.1.2.2.2.1 c.1.2.2.2.2.1 c.1.2.2.2.2.2.1 c.1.2.2.2.2.2.2.1 c.1.2.2.2.2.2.2.2.1 c.1.2.2.2.2.2.2.2.2.1 c.1.2.2.2.2.2.2.2.2.2.1 c.2.1 c.2.2.1) N)
noncomputable def Ev40 (N : Nat) : (R : Type) → Env R := Env.addBx (Ev39 N) [(91, 0)]
theorem Ev40_ok (N : Nat) (R : Type) : EnvOK Go.Proofs.Try.prog (Ev40 N R) := EnvOK.addBx (Ev39_ok N R) [(91, 0)]
noncomputable def ref21_one (N : Nat) (a0 : (Int) × (List (Int))) (b1 : (Int) × (List (Int))) : Option (Bool) :=
 bif (decide (a0.1 = b1.1)) then
  Option.bind (@ref01_Same N a0.2 b1.2) fun (v3 : Bool) =>
  some ((@cond Bool @Bool.true v3 @Bool.false))
 else
  some (@Bool.false)
theorem ref21_one_S (N : Nat) (a0 : (Int) × (List (Int))) (b1 : (Int) × (List (Int))) : (runK Go.Proofs.Try.prog (Ev40 N) 400 91 [(.pair (.int .u8) (.sl (.int .u8))), (.pair (.int .u8) (.sl (.int .u8)))] [.bool] (a0, b1, ())).run = ref21_one N a0 b1 := by kernel_rfl
noncomputable def Ev41 (N : Nat) : (R : Type) → Env R := Env.addFn (Ev40 N) 91 (fun R => fnK [(.pair (.int .u8) (.sl (.int .u8))), (.pair (.int .u8) (.sl (.int .u8)))] [.bool] (fun c => ref21_one N c.1 c.2.1))
theorem Ev41_ok (N : Nat) (R : Type) : EnvOK Go.Proofs.Try.prog (Ev41 N R) := EnvOK.addFn hmx (Ev40_ok N R) (Ev40_ok N _) (by kernel_rfl) (fun c => ref21_one_S N c.1 c.2.1)
noncomputable def ref21_Same_L4_I : LI := ⟨27, 0, [], ⟨[(0, .ty (.sl (.pair (.int .u8) (.sl (.int .u8))))), (1, .ty (.sl (.pair (.int .u8) (.sl (.int .u8))))), (5, .ty (.int .i64))], []⟩, [(.ret, ⟨[(4, .ty .bool)], []⟩), (.exit 0, ⟨[], []⟩)]⟩
noncomputable def ref21_Same_L4 (N : Nat) (X : (((List ((Int) × (List (Int)))) × ((List ((Int) × (List (Int)))) × ((Int) × Unit))) × Unit) → Option (((((Bool) × Unit) × Unit) ⊕ (Unit × Unit)))) (a0 : List ((Int) × (List (Int)))) (b1 : List ((Int) × (List (Int)))) (i5 : Int) : Option (((((Bool) × Unit) × Unit) ⊕ (Unit × Unit))) :=
 bif (decide (i5 < (((List.length a0) : Nat) : Int))) then
  Option.bind (getI a0 i5) fun (v5 : (Int × (List Int))) =>
  Option.bind (getI b1 i5) fun (v6 : (Int × (List Int))) =>
  Option.bind (@ref21_one N (v5.1, v5.2) (v6.1, v6.2)) fun (v7 : Bool) =>
  bif (!v7) then
   some ((.inl ((@Bool.false, @Unit.unit), @Unit.unit)))
  else
   (X ((a0, (b1, ((Go.IntKind.wrap .i64 (i5 + (1 : Int))), @Unit.unit))), @Unit.unit))
 else
  some ((.inr (@Unit.unit, @Unit.unit)))
noncomputable def ref21_Same_L4_R (N : Nat) (c : (((List ((Int) × (List (Int)))) × ((List ((Int) × (List (Int)))) × ((Int) × Unit))) × Unit)) : Option (((((Bool) × Unit) × Unit) ⊕ (Unit × Unit))) := gl (fun X c => ref21_Same_L4 N X c.1.1 c.1.2.1 c.1.2.2.1) N c
theorem ref21_Same_L4_S (N : Nat) (X : (((List ((Int) × (List (Int)))) × ((List ((Int) × (List (Int)))) × ((Int) × Unit))) × Unit) → Option (((((Bool) × Unit) × Unit) ⊕ (Unit × Unit)))) (a0 : List ((Int) × (List (Int)))) (b1 : List ((Int) × (List (Int)))) (i5 : Int) : (roundK Go.Proofs.Try.prog (Ev41 N) 400 [46] ref21_Same_L4_I (loopAt Go.Proofs.Try.prog [46] 4) X ((a0, b1, i5, ()), ())).run = ref21_Same_L4 N X a0 b1 i5 := by kernel_rfl
noncomputable def Ev42 (N : Nat) : (R : Type) → Env R := Env.addLp (Ev41 N) [46] 0 4 (fun R => lpK Go.Proofs.Try.prog ref21_Same_L4_I (fun X c => ref21_Same_L4 N X c.1.1 c.1.2.1 c.1.2.2.1) N)
theorem Ev42_ok (N : Nat) (R : Type) : EnvOK Go.Proofs.Try.prog (Ev42 N R) := EnvOK.addLp (Ev41_ok N R) (by kernel_rfl) (lpK_ok (li := ref21_Same_L4_I) (G := fun X c => ref21_Same_L4 N X c.1.1 c.1.2.1 c.1.2.2.1) hmx (Ev41_ok N _) (by kernel_rfl) loopAt_sub (fun (X : CT ref21_Same_L4_I.sh → Option (OT ref21_Same_L4_I.outs)) (c : CT ref21_Same_L4_I.sh) => ref21_Same_L4_S N X c.1.1 c.1.2.1 c.1.2.2.1) N)
noncomputable def ref21_Same (N : Nat) (a0 : List ((Int) × (List (Int)))) (b1 : List ((Int) × (List (Int)))) : Option (Bool) :=
 bif (!(decide ((((List.length a0) : Nat) : Int) = (((List.length b1) : Nat) : Int)))) then
  some (@Bool.false)
 else
  Option.bind (ref21_Same_L4_R N ((a0, (b1, ((0 : Int), @Unit.unit))), @Unit.unit)) fun (v3 : (((Bool × Unit) × Unit) ⊕ (Unit × Unit))) =>
  Sum.elim
   (fun (v4 : ((Bool × Unit) × Unit)) =>
   some (v4.1.1))
   (fun (v4 : (Unit × Unit)) =>
   some (@Bool.true)) v3
theorem ref21_Same_S (N : Nat) (a0 : List ((Int) × (List (Int)))) (b1 : List ((Int) × (List (Int)))) : (runK Go.Proofs.Try.prog (Ev42 N) 400 46 [(.sl (.pair (.int .u8) (.sl (.int .u8)))), (.sl (.pair (.int .u8) (.sl (.int .u8))))] [.bool] (a0, b1, ())).run = ref21_Same N a0 b1 := by kernel_rfl
noncomputable def Ev43 (N : Nat) : (R : Type) → Env R := Env.addFn (Ev42 N) 46 (fun R => fnK [(.sl (.pair (.int .u8) (.sl (.int .u8)))), (.sl (.pair (.int .u8) (.sl (.int .u8))))] [.bool] (fun c => ref21_Same N c.1 c.2.1))
theorem Ev43_ok (N : Nat) (R : Type) : EnvOK Go.Proofs.Try.prog (Ev43 N R) := EnvOK.addFn hmx (Ev42_ok N R) (Ev42_ok N _) (by kernel_rfl) (fun c => ref21_Same_S N c.1 c.2.1)
noncomputable def ref21_Without_L3_I : LI := ⟨28, 0, [(5, 85)], ⟨[(0, .ty (.sl (.pair (.int .u8) (.sl (.int .u8))))), (1, .ty (.int .u8)), (5, .lit (.own 0)), (6, .ty (.int .i64))], [.own (.pair (.int .u8) (.sl (.int .u8))) 85]⟩, [(.exit 0, ⟨[(5, .lit (.own 0))], [.own (.pair (.int .u8) (.sl (.int .u8))) 85]⟩)]⟩
noncomputable def ref21_Without_L3 (N : Nat) (X : (((List ((Int) × (List (Int)))) × ((Int) × ((Int) × Unit))) × ((List ((Int) × (List (Int)))) × Unit)) → Option ((Unit × ((List ((Int) × (List (Int)))) × Unit)))) (l0 : List ((Int) × (List (Int)))) (kind1 : Int) (i6 : Int) (h0 : List ((Int) × (List (Int)))) : Option ((Unit × ((List ((Int) × (List (Int)))) × Unit))) :=
 bif (decide (i6 < (((List.length l0) : Nat) : Int))) then
  Option.bind (getI l0 i6) fun (v6 : (Int × (List Int))) =>
  bif (!(decide (v6.1 = kind1))) then
   Option.bind (getI l0 i6) fun (v7 : (Int × (List Int))) =>
   bif (roomB ((List.length h0) + (List.length ([(v7.1, v7.2)] : List ((Int × (List Int)))))) 32) then
    (X ((l0, (kind1, ((Go.IntKind.wrap .i64 (i6 + (1 : Int))), @Unit.unit))), ((h0 ++ ([(v7.1, v7.2)] : List ((Int × (List Int))))), @Unit.unit)))
   else
    none
  else
   (X ((l0, (kind1, ((Go.IntKind.wrap .i64 (i6 + (1 : Int))), @Unit.unit))), (h0, @Unit.unit)))
 else
  some ((@Unit.unit, (h0, @Unit.unit)))
noncomputable def ref21_Without_L3_R (N : Nat) (c : (((List ((Int) × (List (Int)))) × ((Int) × ((Int) × Unit))) × ((List ((Int) × (List (Int)))) × Unit))) : Option ((Unit × ((List ((Int) × (List (Int)))) × Unit))) := gl (fun X c => ref21_Without_L3 N X c.1.1 c.1.2.1 c.1.2.2.1 c.2.1) N c
theorem ref21_Without_L3_S (N : Nat) (X : (((List ((Int) × (List (Int)))) × ((Int) × ((Int) × Unit))) × ((List ((Int) × (List (Int)))) × Unit)) → Option ((Unit × ((List ((Int) × (List (Int)))) × Unit)))) (l0 : List ((Int) × (List (Int)))) (kind1 : Int) (i6 : Int) (h0 : List ((Int) × (List (Int)))) : (roundK Go.Proofs.Try.prog (Ev43 N) 400 [48] ref21_Without_L3_I (loopAt Go.Proofs.Try.prog [48] 3) X ((l0, kind1, i6, ()), (h0, ()))).run = ref21_Without_L3 N X l0 kind1 i6 h0 := by kernel_rfl
noncomputable def Ev44 (N : Nat) : (R : Type) → Env R := Env.addLp (Ev43 N) [48] 0 3 (fun R => lpK Go.Proofs.Try.prog ref21_Without_L3_I (fun X c => ref21_Without_L3 N X c.1.1 c.1.2.1 c.1.2.2.1 c.2.1) N)
theorem Ev44_ok (N : Nat) (R : Type) : EnvOK Go.Proofs.Try.prog (Ev44 N R) := EnvOK.addLp (Ev43_ok N R) (by kernel_rfl) (lpK_ok (li := ref21_Without_L3_I) (G := fun X c => ref21_Without_L3 N X c.1.1 c.1.2.1 c.1.2.2.1 c.2.1) hmx (Ev43_ok N _) (by kernel_rfl) loopAt_sub (fun (X : CT ref21_Without_L3_I.sh → Option (OT ref21_Without_L3_I.outs)) (c : CT ref21_Without_L3_I.sh) => ref21_Without_L3_S N X c.1.1 c.1.2.1 c.1.2.2.1 c.2.1) N)
noncomputable def ref21_Without (N : Nat) (l0 : List ((Int) × (List (Int)))) (kind1 : Int) : Option (List ((Int) × (List (Int)))) :=
 Option.bind (ref21_Without_L3_R N ((l0, (kind1, ((0 : Int), @Unit.unit))), (([] : List ((Int × (List Int)))), @Unit.unit))) fun (v3 : (Unit × ((List (Int × (List Int))) × Unit))) =>
 some (v3.2.1)
theorem ref21_Without_S (N : Nat) (l0 : List ((Int) × (List (Int)))) (kind1 : Int) : (runK Go.Proofs.Try.prog (Ev44 N) 400 48 [(.sl (.pair (.int .u8) (.sl (.int .u8)))), (.int .u8)] [(.sl (.pair (.int .u8) (.sl (.int .u8))))] (l0, kind1, ())).run = ref21_Without N l0 kind1 := by kernel_rfl
noncomputable def Ev45 (N : Nat) : (R : Type) → Env R := Env.addFn (Ev44 N) 48 (fun R => fnK [(.sl (.pair (.int .u8) (.sl (.int .u8)))), (.int .u8)] [(.sl (.pair (.int .u8) (.sl (.int .u8))))] (fun c => ref21_Without N c.1 c.2.1))
theorem Ev45_ok (N : Nat) (R : Type) : EnvOK Go.Proofs.Try.prog (Ev45 N R) := EnvOK.addFn hmx (Ev44_ok N R) (Ev44_ok N _) (by kernel_rfl) (fun c => ref21_Without_S N c.1 c.2.1)
noncomputable def Ev46 (N : Nat) (X0 : ((List ((Int) × (List (Int)))) × ((List ((Int) × (List (Int)))) × Unit)) → Option (Bool)) : (R : Type) → Env R := Env.addFn (Ev45 N) 50 (fun R => fnK [(.sl (.pair (.int .u8) (.sl (.int .u8)))), (.sl (.pair (.int .u8) (.sl (.int .u8))))] [.bool] X0)
theorem Ev46_ok (N : Nat) (X0 : ((List ((Int) × (List (Int)))) × ((List ((Int) × (List (Int)))) × Unit)) → Option (Bool)) (hX0 : ∀ c y, X0 c = some y → CallsK Go.Proofs.Try.prog 50 (valA [(.sl (.pair (.int .u8) (.sl (.int .u8)))), (.sl (.pair (.int .u8) (.sl (.int .u8))))] c) (tupV (valR [.bool] y))) (R : Type) : EnvOK Go.Proofs.Try.prog (Ev46 N X0 R) := EnvOK.addSelf (Ev45_ok N R) (inl := (Ev45 N Unit).inl) (by kernel_rfl) hX0
noncomputable def ref21_Among_L4_I : LI := ⟨30, 0, [], ⟨[(0, .ty (.sl (.pair (.int .u8) (.sl (.int .u8))))), (1, .ty (.sl (.pair (.int .u8) (.sl (.int .u8))))), (5, .ty (.int .i64))], []⟩, [(.ret, ⟨[(4, .ty .bool)], []⟩), (.exit 0, ⟨[], []⟩)]⟩
noncomputable def ref21_Among_L4 (N : Nat) (X0 : ((List ((Int) × (List (Int)))) × ((List ((Int) × (List (Int)))) × Unit)) → Option (Bool)) (X : (((List ((Int) × (List (Int)))) × ((List ((Int) × (List (Int)))) × ((Int) × Unit))) × Unit) → Option (((((Bool) × Unit) × Unit) ⊕ (Unit × Unit)))) (l0 : List ((Int) × (List (Int)))) (all1 : List ((Int) × (List (Int)))) (i5 : Int) : Option (((((Bool) × Unit) × Unit) ⊕ (Unit × Unit))) :=
 bif (decide (i5 < (((List.length all1) : Nat) : Int))) then
  Option.bind (getI l0 (0 : Int)) fun (v6 : (Int × (List Int))) =>
  Option.bind (getI all1 i5) fun (v7 : (Int × (List Int))) =>
  Option.bind (@ref21_one N (v6.1, v6.2) (v7.1, v7.2)) fun (v8 : Bool) =>
  bif v8 then
   Option.bind (dropI l0 (1 : Int)) fun (v9 : (List (Int × (List Int)))) =>
   Option.bind (dropI all1 (Go.IntKind.wrap .i64 (i5 + (1 : Int)))) fun (v10 : (List (Int × (List Int)))) =>
   Option.bind (X0 (v9, (v10, @Unit.unit))) fun (v11 : Bool) =>
   some ((.inl ((v11, @Unit.unit), @Unit.unit)))
  else
   (X ((l0, (all1, ((Go.IntKind.wrap .i64 (i5 + (1 : Int))), @Unit.unit))), @Unit.unit))
 else
  some ((.inr (@Unit.unit, @Unit.unit)))
noncomputable def ref21_Among_L4_R (N : Nat) (X0 : ((List ((Int) × (List (Int)))) × ((List ((Int) × (List (Int)))) × Unit)) → Option (Bool)) (c : (((List ((Int) × (List (Int)))) × ((List ((Int) × (List (Int)))) × ((Int) × Unit))) × Unit)) : Option (((((Bool) × Unit) × Unit) ⊕ (Unit × Unit))) := gl (fun X c => ref21_Among_L4 N X0 X c.1.1 c.1.2.1 c.1.2.2.1) N c
theorem ref21_Among_L4_S (N : Nat) (X0 : ((List ((Int) × (List (Int)))) × ((List ((Int) × (List (Int)))) × Unit)) → Option (Bool)) (X : (((List ((Int) × (List (Int)))) × ((List ((Int) × (List (Int)))) × ((Int) × Unit))) × Unit) → Option (((((Bool) × Unit) × Unit) ⊕ (Unit × Unit)))) (l0 : List ((Int) × (List (Int)))) (all1 : List ((Int) × (List (Int)))) (i5 : Int) : (roundK Go.Proofs.Try.prog (Ev46 N X0) 400 [50] ref21_Among_L4_I (loopAt Go.Proofs.Try.prog [50] 4) X ((l0, all1, i5, ()), ())).run = ref21_Among_L4 N X0 X l0 all1 i5 := by kernel_rfl
noncomputable def Ev47 (N : Nat) (X0 : ((List ((Int) × (List (Int)))) × ((List ((Int) × (List (Int)))) × Unit)) → Option (Bool)) : (R : Type) → Env R := Env.addLp (Ev46 N X0) [50] 0 4 (fun R => lpK Go.Proofs.Try.prog ref21_Among_L4_I (fun X c => ref21_Among_L4 N X0 X c.1.1 c.1.2.1 c.1.2.2.1) N)
theorem Ev47_ok (N : Nat) (X0 : ((List ((Int) × (List (Int)))) × ((List ((Int) × (List (Int)))) × Unit)) → Option (Bool)) (hX0 : ∀ c y, X0 c = some y → CallsK Go.Proofs.Try.prog 50 (valA [(.sl (.pair (.int .u8) (.sl (.int .u8)))), (.sl (.pair (.int .u8) (.sl (.int .u8))))] c) (tupV (valR [.bool] y))) (R : Type) : EnvOK Go.Proofs.Try.prog (Ev47 N X0 R) := EnvOK.addLp (Ev46_ok N X0 hX0 R) (by kernel_rfl) (lpK_ok (li := ref21_Among_L4_I) (G := fun X c => ref21_Among_L4 N X0 X c.1.1 c.1.2.1 c.1.2.2.1) hmx (Ev46_ok N X0 hX0 _) (by kernel_rfl) loopAt_sub (fun (X : CT ref21_Among_L4_I.sh → Option (OT ref21_Among_L4_I.outs)) (c : CT ref21_Among_L4_I.sh) => ref21_Among_L4_S N X0 X c.1.1 c.1.2.1 c.1.2.2.1) N)
noncomputable def ref21_Among_B (N : Nat) (X0 : ((List ((Int) × (List (Int)))) × ((List ((Int) × (List (Int)))) × Unit)) → Option (Bool)) (l0 : List ((Int) × (List (Int)))) (all1 : List ((Int) × (List (Int)))) : Option (Bool) :=
 bif (decide ((((List.length l0) : Nat) : Int) = (0 : Int))) then
  some (@Bool.true)
 else
  Option.bind (ref21_Among_L4_R N X0 ((l0, (all1, ((0 : Int), @Unit.unit))), @Unit.unit)) fun (v4 : (((Bool × Unit) × Unit) ⊕ (Unit × Unit))) =>
  Sum.elim
   (fun (v5 : ((Bool × Unit) × Unit)) =>
   some (v5.1.1))
   (fun (v5 : (Unit × Unit)) =>
   some (@Bool.false)) v4
theorem ref21_Among_B_S (N : Nat) (X0 : ((List ((Int) × (List (Int)))) × ((List ((Int) × (List (Int)))) × Unit)) → Option (Bool)) (l0 : List ((Int) × (List (Int)))) (all1 : List ((Int) × (List (Int)))) : (runK Go.Proofs.Try.prog (Ev47 N X0) 400 50 [(.sl (.pair (.int .u8) (.sl (.int .u8)))), (.sl (.pair (.int .u8) (.sl (.int .u8))))] [.bool] (l0, all1, ())).run = ref21_Among_B N X0 l0 all1 := by kernel_rfl
noncomputable def ref21_Among (N : Nat) (l0 : List ((Int) × (List (Int)))) (all1 : List ((Int) × (List (Int)))) : Option (Bool) := gl (fun X c => ref21_Among_B N X c.1 c.2.1) N (l0, all1, ())
noncomputable def Ev48 (N : Nat) : (R : Type) → Env R := Env.addFn (Ev45 N) 50 (fun R => fnK [(.sl (.pair (.int .u8) (.sl (.int .u8)))), (.sl (.pair (.int .u8) (.sl (.int .u8))))] [.bool] (fun c => ref21_Among N c.1 c.2.1))
theorem Ev48_ok (N : Nat) (R : Type) : EnvOK Go.Proofs.Try.prog (Ev48 N R) := EnvOK.addSelf (Ev45_ok N R) (inl := (Ev45 N Unit).inl) (by kernel_rfl) (fun c y h => rec_ok (f := 50) (ds := [(.sl (.pair (.int .u8) (.sl (.int .u8)))), (.sl (.pair (.int .u8) (.sl (.int .u8))))]) (rs := [.bool]) hmx (G := fun (X : ((List ((Int) × (List (Int)))) × ((List ((Int) × (List (Int)))) × Unit)) → Option (Bool)) (c : ((List ((Int) × (List (Int)))) × ((List ((Int) × (List (Int)))) × Unit))) => ref21_Among_B N X c.1 c.2.1) (Γs := fun (X : ((List ((Int) × (List (Int)))) × ((List ((Int) × (List (Int)))) × Unit)) → Option (Bool)) => Ev47 N X) (fuel := 400) (fun X hX => Ev47_ok N X hX _) (fun X => by kernel_rfl) (fun X c => ref21_Among_B_S N X c.1 c.2.1) N c y h)
noncomputable def law21_OptsAsks (N : Nat) (l0 : List ((Int) × (List (Int)))) (k1 : List ((Int) × (List (Int)))) (kind2 : Int) : Option (Bool) :=
 Option.bind (@law21_far N l0) fun (v4 : Bool) =>
 bif v4 then
  Option.bind (@law21_alive N) fun (v5 : Bool) =>
  some (v5)
 else
  Option.bind (@law21_far N k1) fun (v5 : Bool) =>
  bif (@cond Bool @Bool.false @Bool.true v5) then
   Option.bind (@law21_alive N) fun (v6 : Bool) =>
   some (v6)
  else
   Option.bind (@law21_theirs N l0) fun (v6 : (List (Int × (List Int)))) =>
   Option.bind (@law21_theirs N k1) fun (v7 : (List (Int × (List Int)))) =>
   Option.bind (@opts_Find N v6 kind2) fun (v8 : ((Int × (List Int)) × Bool)) =>
   Option.bind (@ref21_Find N l0 kind2) fun (v9 : ((Int × (List Int)) × Bool)) =>
   Option.bind (@opts_Kinds N v6) fun (v10 : (List Int)) =>
   bif (!(decide ((((List.length v10) : Nat) : Int) = (((List.length l0) : Nat) : Int)))) then
    some (@Bool.false)
   else
    Option.bind (law21_OptsAsks_L10_R N ((l0, (k1, (kind2, (v6, (v7, (v8.2, (v9.2, (v10, ((((List.length v10) : Nat) : Int), ((0 : Int), @Unit.unit)))))))))), ((v8.1.1, v8.1.2), ((v9.1.1, v9.1.2), @Unit.unit)))) fun (v11 : (((Bool × Unit) × Unit) ⊕ (((List (Int × (List Int))) × ((List (Int × (List Int))) × (Int × ((List (Int × (List Int))) × ((List (Int × (List Int))) × (Bool × (Bool × Unit))))))) × ((Int × (List Int)) × ((Int × (List Int)) × Unit))))) =>
    Sum.elim
     (fun (v12 : ((Bool × Unit) × Unit)) =>
     some (v12.1.1))
     (fun (v12 : (((List (Int × (List Int))) × ((List (Int × (List Int))) × (Int × ((List (Int × (List Int))) × ((List (Int × (List Int))) × (Bool × (Bool × Unit))))))) × ((Int × (List Int)) × ((Int × (List Int)) × Unit)))) =>
     Option.bind (@law21_theirs N ([(v12.2.2.1.1, v12.2.2.1.2)] : List ((Int × (List Int))))) fun (v13 : (List (Int × (List Int)))) =>
     Option.bind (@opts_Same N ([(v12.2.1.1, v12.2.1.2)] : List ((Int × (List Int)))) v13) fun (v14 : Bool) =>
     bif v14 then
      bif (@cond Bool @Bool.true (@BEq.beq Bool (@instBEqOfDecidableEq Bool @instDecidableEqBool) v12.1.2.2.2.2.2.1 v12.1.2.2.2.2.2.2.1) @Bool.false) then
       Option.bind (@opts_Same N v12.1.2.2.2.1 v12.1.2.2.2.2.1) fun (v15 : Bool) =>
       Option.bind (@ref21_Same N v12.1.1 v12.1.2.1) fun (v16 : Bool) =>
       bif (@cond Bool @Bool.true (@BEq.beq Bool (@instBEqOfDecidableEq Bool @instDecidableEqBool) v15 v16) @Bool.false) then
        Option.bind (@opts_Without N v12.1.2.2.2.1 v12.1.2.2.1) fun (v17 : (List (Int × (List Int)))) =>
        Option.bind (@ref21_Without N v12.1.1 v12.1.2.2.1) fun (v18 : (List (Int × (List Int)))) =>
        Option.bind (@law21_theirs N v18) fun (v19 : (List (Int × (List Int)))) =>
        Option.bind (@opts_Same N v17 v19) fun (v20 : Bool) =>
        bif (@cond Bool @Bool.true v20 @Bool.false) then
         Option.bind (@opts_Among N v12.1.2.2.2.1 v12.1.2.2.2.2.1) fun (v21 : Bool) =>
         Option.bind (@ref21_Among N v12.1.1 v12.1.2.1) fun (v22 : Bool) =>
         bif (@cond Bool @Bool.true (@BEq.beq Bool (@instBEqOfDecidableEq Bool @instDecidableEqBool) v21 v22) @Bool.false) then
          Option.bind (@opts_Without N v12.1.2.2.2.1 v12.1.2.2.1) fun (v23 : (List (Int × (List Int)))) =>
          Option.bind (@opts_Among N v23 v12.1.2.2.2.1) fun (v24 : Bool) =>
          bif (@cond Bool @Bool.true v24 @Bool.false) then
           Option.bind (@law21_alive N) fun (v25 : Bool) =>
           some ((@cond Bool @Bool.true v25 @Bool.false))
          else
           some (@Bool.false)
         else
          some (@Bool.false)
        else
         some (@Bool.false)
       else
        some (@Bool.false)
      else
       some (@Bool.false)
     else
      some (@Bool.false)) v11
theorem law21_OptsAsks_S (N : Nat) (l0 : List ((Int) × (List (Int)))) (k1 : List ((Int) × (List (Int)))) (kind2 : Int) : (runK Go.Proofs.Try.prog (Ev48 N) 400 7 [(.sl (.pair (.int .u8) (.sl (.int .u8)))), (.sl (.pair (.int .u8) (.sl (.int .u8)))), (.int .u8)] [.bool] (l0, k1, kind2, ())).run = law21_OptsAsks N l0 k1 kind2 := by kernel_rfl
theorem law21_OptsAsks_C (N : Nat) (l0 : List ((Int) × (List (Int)))) (k1 : List ((Int) × (List (Int)))) (kind2 : Int) (y : Bool) (h : law21_OptsAsks N l0 k1 kind2 = some y) : CallsK Go.Proofs.Try.prog 7 (valA [(.sl (.pair (.int .u8) (.sl (.int .u8)))), (.sl (.pair (.int .u8) (.sl (.int .u8)))), (.int .u8)] (l0, k1, kind2, ())) (tupV (valR [.bool] y)) := runK_ok hmx (Ev48_ok N _) (okFn_ok (by kernel_rfl)) (by rw [law21_OptsAsks_S]; exact h)
noncomputable def Ev49 (N : Nat) : (R : Type) → Env R := Env.addFn (Ev48 N) 7 (fun R => fnK [(.sl (.pair (.int .u8) (.sl (.int .u8)))), (.sl (.pair (.int .u8) (.sl (.int .u8)))), (.int .u8)] [.bool] (fun c => law21_OptsAsks N c.1 c.2.1 c.2.2.1))
theorem Ev49_ok (N : Nat) (R : Type) : EnvOK Go.Proofs.Try.prog (Ev49 N R) := EnvOK.addFn hmx (Ev48_ok N R) (Ev48_ok N _) (by kernel_rfl) (fun c => law21_OptsAsks_S N c.1 c.2.1 c.2.2.1)
end Go.Proofs.Ytipjmjkfdekchaa
