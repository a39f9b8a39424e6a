/-
  Functions of the program as plain functions on typed data, and that they are so. Printed by a program of mine.
-/
import Derived.Test.YtpdmmjbgidjhdaaKC
namespace Go.Proofs.Ytpdmmjbgidjhdaa
open Go.RowKit
set_option linter.unusedVariables false
set_option maxRecDepth 100000
theorem hmx : Go.Proofs.Try.prog.follows .mixedOrders = true := by kernel_rfl
noncomputable def Ev0 (N : Nat) : (R : Type) → Env R := Env.addInl env0 [75]
theorem Ev0_ok (N : Nat) (R : Type) : EnvOK Go.Proofs.Try.prog (Ev0 N R) := EnvOK.addInl (env0_ok R) (by kernel_rfl)
noncomputable def fsm_isState (N : Nat) (s0 : Int) : Option (Bool) :=
 bif (decide ((0 : Int) ≤ s0)) then
  some ((@cond Bool @Bool.true (decide (s0 ≤ (9 : Int))) @Bool.false))
 else
  some (@Bool.false)
theorem fsm_isState_S (N : Nat) (s0 : Int) : (runK Go.Proofs.Try.prog (Ev0 N) 400 72 [(.int .i64)] [.bool] (s0, ())).run = fsm_isState N s0 := by kernel_rfl
noncomputable def Ev1 (N : Nat) : (R : Type) → Env R := Env.addFn (Ev0 N) 72 (fun R => fnK [(.int .i64)] [.bool] (fun c => fsm_isState N c.1))
theorem Ev1_ok (N : Nat) (R : Type) : EnvOK Go.Proofs.Try.prog (Ev1 N R) := EnvOK.addFn hmx (Ev0_ok N R) (Ev0_ok N _) (by kernel_rfl) (fun c => fsm_isState_S N c.1)
noncomputable def fsm_to (N : Nat) (next0 : Int) (l1 : List (Int)) : Option ((Bool) × ((Int) × (List (Int)))) :=
 some ((@Bool.true, (next0, l1)))
theorem fsm_to_S (N : Nat) (next0 : Int) (l1 : List (Int)) : (runK Go.Proofs.Try.prog (Ev1 N) 400 91 [(.int .i64), (.sl (.int .i64))] [(.pair .bool (.pair (.int .i64) (.sl (.int .i64))))] (next0, l1, ())).run = fsm_to N next0 l1 := by kernel_rfl
noncomputable def Ev2 (N : Nat) : (R : Type) → Env R := Env.addFn (Ev1 N) 91 (fun R => fnK [(.int .i64), (.sl (.int .i64))] [(.pair .bool (.pair (.int .i64) (.sl (.int .i64))))] (fun c => fsm_to N c.1 c.2.1))
theorem Ev2_ok (N : Nat) (R : Type) : EnvOK Go.Proofs.Try.prog (Ev2 N R) := EnvOK.addFn hmx (Ev1_ok N R) (Ev1_ok N _) (by kernel_rfl) (fun c => fsm_to_S N c.1 c.2.1)
noncomputable def fsm_same_L3_I : LI := ⟨15, 0, [], ⟨[(0, .ty (.sl (.int .i64))), (2, .lit (.box 0 0)), (3, .lit (.box 1 0)), (4, .ty (.int .i64))], [.box 139 (.arr 10 (.pair .bool (.pair (.int .i64) (.sl (.int .i64))))), .box 139 (.arr 10 (.pair .bool (.pair (.int .i64) (.sl (.int .i64)))))]⟩, [(.exit 0, ⟨[(2, .lit (.box 0 0)), (3, .lit (.box 1 0))], [.box 139 (.arr 10 (.pair .bool (.pair (.int .i64) (.sl (.int .i64))))), .box 139 (.arr 10 (.pair .bool (.pair (.int .i64) (.sl (.int .i64)))))]⟩)]⟩
noncomputable def fsm_same_L3 (N : Nat) (X : (((List (Int)) × ((Int) × Unit)) × ((Arr ((Bool) × ((Int) × (List (Int)))) 10) × ((Arr ((Bool) × ((Int) × (List (Int)))) 10) × Unit))) → Option ((Unit × ((Arr ((Bool) × ((Int) × (List (Int)))) 10) × ((Arr ((Bool) × ((Int) × (List (Int)))) 10) × Unit))))) (l0 : List (Int)) (s4 : Int) (h0 : Arr ((Bool) × ((Int) × (List (Int)))) 10) (h1 : Arr ((Bool) × ((Int) × (List (Int)))) 10) : Option ((Unit × ((Arr ((Bool) × ((Int) × (List (Int)))) 10) × ((Arr ((Bool) × ((Int) × (List (Int)))) 10) × Unit)))) :=
 bif (decide (s4 ≤ (9 : Int))) then
  bif (decide ((0 : Int) ≤ s4 ∧ s4 < (((10 : Nat) : Nat) : Int))) then
   Option.bind (@GetElem?.getElem? (List (Bool × (Int × (List Int)))) Nat (Bool × (Int × (List Int))) (fun (as6 : (List (Bool × (Int × (List Int))))) => (fun (i7 : Nat) => (@LT.lt Nat @instLTNat i7 (List.length as6)))) (@List.instGetElem?NatLtLength (Bool × (Int × (List Int)))) h1.l (Int.toNat s4)) fun (v6 : (Bool × (Int × (List Int)))) =>
   (X ((l0, ((Go.IntKind.wrap .i64 (s4 + (1 : Int))), @Unit.unit)), (h0, ((h1.set (Int.toNat s4) (@Bool.true, (s4, l0))), @Unit.unit))))
  else
   none
 else
  some ((@Unit.unit, (h0, (h1, @Unit.unit))))
noncomputable def fsm_same_L3_R (N : Nat) (c : (((List (Int)) × ((Int) × Unit)) × ((Arr ((Bool) × ((Int) × (List (Int)))) 10) × ((Arr ((Bool) × ((Int) × (List (Int)))) 10) × Unit)))) : Option ((Unit × ((Arr ((Bool) × ((Int) × (List (Int)))) 10) × ((Arr ((Bool) × ((Int) × (List (Int)))) 10) × Unit)))) := gl (fun X c => fsm_same_L3 N X c.1.1 c.1.2.1 c.2.1 c.2.2.1) N c
theorem fsm_same_L3_S (N : Nat) (X : (((List (Int)) × ((Int) × Unit)) × ((Arr ((Bool) × ((Int) × (List (Int)))) 10) × ((Arr ((Bool) × ((Int) × (List (Int)))) 10) × Unit))) → Option ((Unit × ((Arr ((Bool) × ((Int) × (List (Int)))) 10) × ((Arr ((Bool) × ((Int) × (List (Int)))) 10) × Unit))))) (l0 : List (Int)) (s4 : Int) (h0 : Arr ((Bool) × ((Int) × (List (Int)))) 10) (h1 : Arr ((Bool) × ((Int) × (List (Int)))) 10) : (roundK Go.Proofs.Try.prog (Ev2 N) 400 [95] fsm_same_L3_I (loopAt Go.Proofs.Try.prog [95] 3) X ((l0, s4, ()), (h0, h1, ()))).run = fsm_same_L3 N X l0 s4 h0 h1 := by kernel_rfl
noncomputable def Ev3 (N : Nat) : (R : Type) → Env R := Env.addLp (Ev2 N) [95] 0 3 (fun R => lpK Go.Proofs.Try.prog fsm_same_L3_I (fun X c => fsm_same_L3 N X c.1.1 c.1.2.1 c.2.1 c.2.2.1) N)
theorem Ev3_ok (N : Nat) (R : Type) : EnvOK Go.Proofs.Try.prog (Ev3 N R) := EnvOK.addLp (Ev2_ok N R) (by kernel_rfl) (lpK_ok (li := fsm_same_L3_I) (G := fun X c => fsm_same_L3 N X c.1.1 c.1.2.1 c.2.1 c.2.2.1) hmx (Ev2_ok N _) (by kernel_rfl) loopAt_sub (fun (X : CT fsm_same_L3_I.sh → Option (OT fsm_same_L3_I.outs)) (c : CT fsm_same_L3_I.sh) => fsm_same_L3_S N X c.1.1 c.1.2.1 c.2.1 c.2.2.1) N)
noncomputable def fsm_same (N : Nat) (l0 : List (Int)) : Option (Arr ((Bool) × ((Int) × (List (Int)))) 10) :=
 Option.bind (fsm_same_L3_R N ((l0, ((2 : Int), @Unit.unit)), ((@Arr.cons (Bool × (Int × (List Int))) (9 : Nat) (@Bool.false, ((0 : Int), ([] : List (Int)))) (@Arr.cons (Bool × (Int × (List Int))) (8 : Nat) (@Bool.false, ((0 : Int), ([] : List (Int)))) (@Arr.cons (Bool × (Int × (List Int))) (7 : Nat) (@Bool.false, ((0 : Int), ([] : List (Int)))) (@Arr.cons (Bool × (Int × (List Int))) (6 : Nat) (@Bool.false, ((0 : Int), ([] : List (Int)))) (@Arr.cons (Bool × (Int × (List Int))) (5 : Nat) (@Bool.false, ((0 : Int), ([] : List (Int)))) (@Arr.cons (Bool × (Int × (List Int))) (4 : Nat) (@Bool.false, ((0 : Int), ([] : List (Int)))) (@Arr.cons (Bool × (Int × (List Int))) (3 : Nat) (@Bool.false, ((0 : Int), ([] : List (Int)))) (@Arr.cons (Bool × (Int × (List Int))) (2 : Nat) (@Bool.false, ((0 : Int), ([] : List (Int)))) (@Arr.cons (Bool × (Int × (List Int))) (1 : Nat) (@Bool.false, ((0 : Int), ([] : List (Int)))) (@Arr.cons (Bool × (Int × (List Int))) (0 : Nat) (@Bool.false, ((0 : Int), ([] : List (Int)))) (@Arr.nil (Bool × (Int × (List Int)))))))))))))), ((@Arr.cons (Bool × (Int × (List Int))) (9 : Nat) (@Bool.false, ((0 : Int), ([] : List (Int)))) (@Arr.cons (Bool × (Int × (List Int))) (8 : Nat) (@Bool.false, ((0 : Int), ([] : List (Int)))) (@Arr.cons (Bool × (Int × (List Int))) (7 : Nat) (@Bool.false, ((0 : Int), ([] : List (Int)))) (@Arr.cons (Bool × (Int × (List Int))) (6 : Nat) (@Bool.false, ((0 : Int), ([] : List (Int)))) (@Arr.cons (Bool × (Int × (List Int))) (5 : Nat) (@Bool.false, ((0 : Int), ([] : List (Int)))) (@Arr.cons (Bool × (Int × (List Int))) (4 : Nat) (@Bool.false, ((0 : Int), ([] : List (Int)))) (@Arr.cons (Bool × (Int × (List Int))) (3 : Nat) (@Bool.false, ((0 : Int), ([] : List (Int)))) (@Arr.cons (Bool × (Int × (List Int))) (2 : Nat) (@Bool.false, ((0 : Int), ([] : List (Int)))) (@Arr.cons (Bool × (Int × (List Int))) (1 : Nat) (@Bool.false, ((0 : Int), ([] : List (Int)))) (@Arr.cons (Bool × (Int × (List Int))) (0 : Nat) (@Bool.false, ((0 : Int), ([] : List (Int)))) (@Arr.nil (Bool × (Int × (List Int)))))))))))))), @Unit.unit)))) fun (v2 : (Unit × ((Arr (Bool × (Int × (List Int))) 10) × ((Arr (Bool × (Int × (List Int))) 10) × Unit)))) =>
 some (v2.2.2.1)
theorem fsm_same_S (N : Nat) (l0 : List (Int)) : (runK Go.Proofs.Try.prog (Ev3 N) 400 95 [(.sl (.int .i64))] [(.arr 10 (.pair .bool (.pair (.int .i64) (.sl (.int .i64)))))] (l0, ())).run = fsm_same N l0 := by kernel_rfl
noncomputable def Ev4 (N : Nat) : (R : Type) → Env R := Env.addFn (Ev3 N) 95 (fun R => fnK [(.sl (.int .i64))] [(.arr 10 (.pair .bool (.pair (.int .i64) (.sl (.int .i64)))))] (fun c => fsm_same N c.1))
theorem Ev4_ok (N : Nat) (R : Type) : EnvOK Go.Proofs.Try.prog (Ev4 N R) := EnvOK.addFn hmx (Ev3_ok N R) (Ev3_ok N _) (by kernel_rfl) (fun c => fsm_same_S N c.1)
noncomputable def fsm_answers (N : Nat) (e0 : Int) : Option (Arr ((Bool) × ((Int) × (List (Int)))) 10) :=
 bif (decide (e0 = (8 : Int))) then
  some ((@Arr.cons (Bool × (Int × (List Int))) (9 : Nat) (@Bool.false, ((0 : Int), ([] : List (Int)))) (@Arr.cons (Bool × (Int × (List Int))) (8 : Nat) (@Bool.false, ((0 : Int), ([] : List (Int)))) (@Arr.cons (Bool × (Int × (List Int))) (7 : Nat) (@Bool.true, ((2 : Int), ([(11 : Int)] : List (Int)))) (@Arr.cons (Bool × (Int × (List Int))) (6 : Nat) (@Bool.true, ((3 : Int), ([(11 : Int)] : List (Int)))) (@Arr.cons (Bool × (Int × (List Int))) (5 : Nat) (@Bool.true, ((4 : Int), ([] : List (Int)))) (@Arr.cons (Bool × (Int × (List Int))) (4 : Nat) (@Bool.true, ((5 : Int), ([] : List (Int)))) (@Arr.cons (Bool × (Int × (List Int))) (3 : Nat) (@Bool.true, ((7 : Int), ([(5 : Int)] : List (Int)))) (@Arr.cons (Bool × (Int × (List Int))) (2 : Nat) (@Bool.true, ((6 : Int), ([(7 : Int)] : List (Int)))) (@Arr.cons (Bool × (Int × (List Int))) (1 : Nat) (@Bool.true, ((9 : Int), ([(5 : Int), (1 : Int)] : List (Int)))) (@Arr.cons (Bool × (Int × (List Int))) (0 : Nat) (@Bool.true, ((6 : Int), ([(2 : Int), (7 : Int)] : List (Int)))) (@Arr.nil (Bool × (Int × (List Int)))))))))))))))
 else
  bif (decide (e0 = (9 : Int))) then
   some ((@Arr.cons (Bool × (Int × (List Int))) (9 : Nat) (@Bool.false, ((0 : Int), ([] : List (Int)))) (@Arr.cons (Bool × (Int × (List Int))) (8 : Nat) (@Bool.false, ((0 : Int), ([] : List (Int)))) (@Arr.cons (Bool × (Int × (List Int))) (7 : Nat) (@Bool.true, ((2 : Int), ([(11 : Int)] : List (Int)))) (@Arr.cons (Bool × (Int × (List Int))) (6 : Nat) (@Bool.true, ((3 : Int), ([(11 : Int)] : List (Int)))) (@Arr.cons (Bool × (Int × (List Int))) (5 : Nat) (@Bool.true, ((4 : Int), ([] : List (Int)))) (@Arr.cons (Bool × (Int × (List Int))) (4 : Nat) (@Bool.true, ((5 : Int), ([] : List (Int)))) (@Arr.cons (Bool × (Int × (List Int))) (3 : Nat) (@Bool.true, ((6 : Int), ([(5 : Int), (7 : Int)] : List (Int)))) (@Arr.cons (Bool × (Int × (List Int))) (2 : Nat) (@Bool.true, ((6 : Int), ([(7 : Int)] : List (Int)))) (@Arr.cons (Bool × (Int × (List Int))) (1 : Nat) (@Bool.true, ((8 : Int), ([(5 : Int), (7 : Int)] : List (Int)))) (@Arr.cons (Bool × (Int × (List Int))) (0 : Nat) (@Bool.true, ((6 : Int), ([(2 : Int), (7 : Int)] : List (Int)))) (@Arr.nil (Bool × (Int × (List Int)))))))))))))))
  else
   bif (decide (e0 = (10 : Int))) then
    some ((@Arr.cons (Bool × (Int × (List Int))) (9 : Nat) (@Bool.false, ((0 : Int), ([] : List (Int)))) (@Arr.cons (Bool × (Int × (List Int))) (8 : Nat) (@Bool.false, ((0 : Int), ([] : List (Int)))) (@Arr.cons (Bool × (Int × (List Int))) (7 : Nat) (@Bool.true, ((2 : Int), ([(11 : Int)] : List (Int)))) (@Arr.cons (Bool × (Int × (List Int))) (6 : Nat) (@Bool.true, ((3 : Int), ([(11 : Int)] : List (Int)))) (@Arr.cons (Bool × (Int × (List Int))) (5 : Nat) (@Bool.true, ((4 : Int), ([(11 : Int)] : List (Int)))) (@Arr.cons (Bool × (Int × (List Int))) (4 : Nat) (@Bool.true, ((5 : Int), ([(11 : Int)] : List (Int)))) (@Arr.cons (Bool × (Int × (List Int))) (3 : Nat) (@Bool.true, ((6 : Int), ([(11 : Int)] : List (Int)))) (@Arr.cons (Bool × (Int × (List Int))) (2 : Nat) (@Bool.true, ((6 : Int), ([(11 : Int)] : List (Int)))) (@Arr.cons (Bool × (Int × (List Int))) (1 : Nat) (@Bool.true, ((6 : Int), ([(11 : Int)] : List (Int)))) (@Arr.cons (Bool × (Int × (List Int))) (0 : Nat) (@Bool.true, ((5 : Int), ([(2 : Int), (6 : Int), (11 : Int)] : List (Int)))) (@Arr.nil (Bool × (Int × (List Int)))))))))))))))
   else
    bif (decide (e0 = (11 : Int))) then
     some ((@Arr.cons (Bool × (Int × (List Int))) (9 : Nat) (@Bool.false, ((0 : Int), ([] : List (Int)))) (@Arr.cons (Bool × (Int × (List Int))) (8 : Nat) (@Bool.false, ((0 : Int), ([] : List (Int)))) (@Arr.cons (Bool × (Int × (List Int))) (7 : Nat) (@Bool.true, ((2 : Int), ([] : List (Int)))) (@Arr.cons (Bool × (Int × (List Int))) (6 : Nat) (@Bool.true, ((3 : Int), ([] : List (Int)))) (@Arr.cons (Bool × (Int × (List Int))) (5 : Nat) (@Bool.true, ((2 : Int), ([(4 : Int)] : List (Int)))) (@Arr.cons (Bool × (Int × (List Int))) (4 : Nat) (@Bool.true, ((3 : Int), ([(4 : Int)] : List (Int)))) (@Arr.cons (Bool × (Int × (List Int))) (3 : Nat) (@Bool.true, ((6 : Int), ([] : List (Int)))) (@Arr.cons (Bool × (Int × (List Int))) (2 : Nat) (@Bool.true, ((6 : Int), ([] : List (Int)))) (@Arr.cons (Bool × (Int × (List Int))) (1 : Nat) (@Bool.true, ((8 : Int), ([] : List (Int)))) (@Arr.cons (Bool × (Int × (List Int))) (0 : Nat) (@Bool.true, ((6 : Int), ([(2 : Int), (7 : Int)] : List (Int)))) (@Arr.nil (Bool × (Int × (List Int)))))))))))))))
    else
     bif (decide (e0 = (12 : Int))) then
      Option.bind (@fsm_same N ([(12 : Int)] : List (Int))) fun (v2 : (Arr (Bool × (Int × (List Int))) 10)) =>
      some (v2)
     else
      bif (decide (e0 = (13 : Int))) then
       some ((@Arr.cons (Bool × (Int × (List Int))) (9 : Nat) (@Bool.false, ((0 : Int), ([] : List (Int)))) (@Arr.cons (Bool × (Int × (List Int))) (8 : Nat) (@Bool.false, ((0 : Int), ([] : List (Int)))) (@Arr.cons (Bool × (Int × (List Int))) (7 : Nat) (@Bool.true, ((2 : Int), ([] : List (Int)))) (@Arr.cons (Bool × (Int × (List Int))) (6 : Nat) (@Bool.true, ((3 : Int), ([] : List (Int)))) (@Arr.cons (Bool × (Int × (List Int))) (5 : Nat) (@Bool.true, ((4 : Int), ([] : List (Int)))) (@Arr.cons (Bool × (Int × (List Int))) (4 : Nat) (@Bool.true, ((5 : Int), ([] : List (Int)))) (@Arr.cons (Bool × (Int × (List Int))) (3 : Nat) (@Bool.true, ((6 : Int), ([] : List (Int)))) (@Arr.cons (Bool × (Int × (List Int))) (2 : Nat) (@Bool.true, ((6 : Int), ([] : List (Int)))) (@Arr.cons (Bool × (Int × (List Int))) (1 : Nat) (@Bool.true, ((8 : Int), ([] : List (Int)))) (@Arr.cons (Bool × (Int × (List Int))) (0 : Nat) (@Bool.true, ((9 : Int), ([] : List (Int)))) (@Arr.nil (Bool × (Int × (List Int)))))))))))))))
      else
       bif (decide (e0 = (14 : Int))) then
        some ((@Arr.cons (Bool × (Int × (List Int))) (9 : Nat) (@Bool.false, ((0 : Int), ([] : List (Int)))) (@Arr.cons (Bool × (Int × (List Int))) (8 : Nat) (@Bool.false, ((0 : Int), ([] : List (Int)))) (@Arr.cons (Bool × (Int × (List Int))) (7 : Nat) (@Bool.true, ((2 : Int), ([(4 : Int)] : List (Int)))) (@Arr.cons (Bool × (Int × (List Int))) (6 : Nat) (@Bool.true, ((3 : Int), ([(4 : Int)] : List (Int)))) (@Arr.cons (Bool × (Int × (List Int))) (5 : Nat) (@Bool.true, ((2 : Int), ([(4 : Int)] : List (Int)))) (@Arr.cons (Bool × (Int × (List Int))) (4 : Nat) (@Bool.true, ((3 : Int), ([(4 : Int)] : List (Int)))) (@Arr.cons (Bool × (Int × (List Int))) (3 : Nat) (@Bool.true, ((3 : Int), ([(4 : Int)] : List (Int)))) (@Arr.cons (Bool × (Int × (List Int))) (2 : Nat) (@Bool.true, ((3 : Int), ([(4 : Int)] : List (Int)))) (@Arr.cons (Bool × (Int × (List Int))) (1 : Nat) (@Bool.true, ((3 : Int), ([(4 : Int)] : List (Int)))) (@Arr.cons (Bool × (Int × (List Int))) (0 : Nat) (@Bool.true, ((5 : Int), ([(2 : Int), (5 : Int), (10 : Int)] : List (Int)))) (@Arr.nil (Bool × (Int × (List Int)))))))))))))))
       else
        bif (decide (e0 = (15 : Int))) then
         Option.bind (@fsm_same N ([] : List (Int))) fun (v2 : (Arr (Bool × (Int × (List Int))) 10)) =>
         Option.bind (@GetElem?.getElem? (List (Bool × (Int × (List Int)))) Nat (Bool × (Int × (List Int))) (fun (as3 : (List (Bool × (Int × (List Int))))) => (fun (i4 : Nat) => (@LT.lt Nat @instLTNat i4 (List.length as3)))) (@List.instGetElem?NatLtLength (Bool × (Int × (List Int)))) v2.l (Int.toNat (9 : Int))) fun (v3 : (Bool × (Int × (List Int)))) =>
         some ((v2.set (Int.toNat (9 : Int)) (@Bool.true, ((9 : Int), ([(13 : Int)] : List (Int))))))
        else
         some ((@Arr.cons (Bool × (Int × (List Int))) (9 : Nat) (@Bool.false, ((0 : Int), ([] : List (Int)))) (@Arr.cons (Bool × (Int × (List Int))) (8 : Nat) (@Bool.false, ((0 : Int), ([] : List (Int)))) (@Arr.cons (Bool × (Int × (List Int))) (7 : Nat) (@Bool.false, ((0 : Int), ([] : List (Int)))) (@Arr.cons (Bool × (Int × (List Int))) (6 : Nat) (@Bool.false, ((0 : Int), ([] : List (Int)))) (@Arr.cons (Bool × (Int × (List Int))) (5 : Nat) (@Bool.false, ((0 : Int), ([] : List (Int)))) (@Arr.cons (Bool × (Int × (List Int))) (4 : Nat) (@Bool.false, ((0 : Int), ([] : List (Int)))) (@Arr.cons (Bool × (Int × (List Int))) (3 : Nat) (@Bool.false, ((0 : Int), ([] : List (Int)))) (@Arr.cons (Bool × (Int × (List Int))) (2 : Nat) (@Bool.false, ((0 : Int), ([] : List (Int)))) (@Arr.cons (Bool × (Int × (List Int))) (1 : Nat) (@Bool.false, ((0 : Int), ([] : List (Int)))) (@Arr.cons (Bool × (Int × (List Int))) (0 : Nat) (@Bool.false, ((0 : Int), ([] : List (Int)))) (@Arr.nil (Bool × (Int × (List Int)))))))))))))))
theorem fsm_answers_S (N : Nat) (e0 : Int) : (runK Go.Proofs.Try.prog (Ev4 N) 400 92 [(.int .i64)] [(.arr 10 (.pair .bool (.pair (.int .i64) (.sl (.int .i64)))))] (e0, ())).run = fsm_answers N e0 := by kernel_rfl
noncomputable def Ev5 (N : Nat) : (R : Type) → Env R := Env.addFn (Ev4 N) 92 (fun R => fnK [(.int .i64)] [(.arr 10 (.pair .bool (.pair (.int .i64) (.sl (.int .i64)))))] (fun c => fsm_answers N c.1))
theorem Ev5_ok (N : Nat) (R : Type) : EnvOK Go.Proofs.Try.prog (Ev5 N R) := EnvOK.addFn hmx (Ev4_ok N R) (Ev4_ok N _) (by kernel_rfl) (fun c => fsm_answers_S N c.1)
noncomputable def fsm_row (N : Nat) (e0 : Int) : Option (Arr ((Bool) × ((Int) × (List (Int)))) 10) :=
 bif (decide (e0 = (0 : Int))) then
  some ((@Arr.cons (Bool × (Int × (List Int))) (9 : Nat) (@Bool.true, ((2 : Int), ([] : List (Int)))) (@Arr.cons (Bool × (Int × (List Int))) (8 : Nat) (@Bool.true, ((6 : Int), ([(5 : Int), (7 : Int)] : List (Int)))) (@Arr.cons (Bool × (Int × (List Int))) (7 : Nat) (@Bool.false, ((0 : Int), ([] : List (Int)))) (@Arr.cons (Bool × (Int × (List Int))) (6 : Nat) (@Bool.false, ((0 : Int), ([] : List (Int)))) (@Arr.cons (Bool × (Int × (List Int))) (5 : Nat) (@Bool.false, ((0 : Int), ([] : List (Int)))) (@Arr.cons (Bool × (Int × (List Int))) (4 : Nat) (@Bool.false, ((0 : Int), ([] : List (Int)))) (@Arr.cons (Bool × (Int × (List Int))) (3 : Nat) (@Bool.false, ((0 : Int), ([] : List (Int)))) (@Arr.cons (Bool × (Int × (List Int))) (2 : Nat) (@Bool.false, ((0 : Int), ([] : List (Int)))) (@Arr.cons (Bool × (Int × (List Int))) (1 : Nat) (@Bool.false, ((0 : Int), ([] : List (Int)))) (@Arr.cons (Bool × (Int × (List Int))) (0 : Nat) (@Bool.false, ((0 : Int), ([] : List (Int)))) (@Arr.nil (Bool × (Int × (List Int)))))))))))))))
 else
  bif (decide (e0 = (1 : Int))) then
   some ((@Arr.cons (Bool × (Int × (List Int))) (9 : Nat) (@Bool.false, ((0 : Int), ([] : List (Int)))) (@Arr.cons (Bool × (Int × (List Int))) (8 : Nat) (@Bool.false, ((0 : Int), ([] : List (Int)))) (@Arr.cons (Bool × (Int × (List Int))) (7 : Nat) (@Bool.true, ((0 : Int), ([] : List (Int)))) (@Arr.cons (Bool × (Int × (List Int))) (6 : Nat) (@Bool.true, ((1 : Int), ([(3 : Int)] : List (Int)))) (@Arr.cons (Bool × (Int × (List Int))) (5 : Nat) (@Bool.true, ((0 : Int), ([] : List (Int)))) (@Arr.cons (Bool × (Int × (List Int))) (4 : Nat) (@Bool.true, ((1 : Int), ([] : List (Int)))) (@Arr.cons (Bool × (Int × (List Int))) (3 : Nat) (@Bool.true, ((1 : Int), ([] : List (Int)))) (@Arr.cons (Bool × (Int × (List Int))) (2 : Nat) (@Bool.true, ((1 : Int), ([] : List (Int)))) (@Arr.cons (Bool × (Int × (List Int))) (1 : Nat) (@Bool.true, ((1 : Int), ([] : List (Int)))) (@Arr.cons (Bool × (Int × (List Int))) (0 : Nat) (@Bool.true, ((1 : Int), ([(2 : Int)] : List (Int)))) (@Arr.nil (Bool × (Int × (List Int)))))))))))))))
  else
   bif (decide (e0 = (2 : Int))) then
    some ((@Arr.cons (Bool × (Int × (List Int))) (9 : Nat) (@Bool.true, ((1 : Int), ([(3 : Int)] : List (Int)))) (@Arr.cons (Bool × (Int × (List Int))) (8 : Nat) (@Bool.true, ((1 : Int), ([] : List (Int)))) (@Arr.cons (Bool × (Int × (List Int))) (7 : Nat) (@Bool.true, ((6 : Int), ([(5 : Int), (7 : Int)] : List (Int)))) (@Arr.cons (Bool × (Int × (List Int))) (6 : Nat) (@Bool.true, ((3 : Int), ([] : List (Int)))) (@Arr.cons (Bool × (Int × (List Int))) (5 : Nat) (@Bool.true, ((5 : Int), ([] : List (Int)))) (@Arr.cons (Bool × (Int × (List Int))) (4 : Nat) (@Bool.true, ((5 : Int), ([] : List (Int)))) (@Arr.cons (Bool × (Int × (List Int))) (3 : Nat) (@Bool.true, ((6 : Int), ([] : List (Int)))) (@Arr.cons (Bool × (Int × (List Int))) (2 : Nat) (@Bool.true, ((7 : Int), ([] : List (Int)))) (@Arr.cons (Bool × (Int × (List Int))) (1 : Nat) (@Bool.true, ((8 : Int), ([] : List (Int)))) (@Arr.cons (Bool × (Int × (List Int))) (0 : Nat) (@Bool.true, ((9 : Int), ([] : List (Int)))) (@Arr.nil (Bool × (Int × (List Int)))))))))))))))
   else
    bif (decide (e0 = (3 : Int))) then
     some ((@Arr.cons (Bool × (Int × (List Int))) (9 : Nat) (@Bool.true, ((0 : Int), ([] : List (Int)))) (@Arr.cons (Bool × (Int × (List Int))) (8 : Nat) (@Bool.true, ((0 : Int), ([(4 : Int)] : List (Int)))) (@Arr.cons (Bool × (Int × (List Int))) (7 : Nat) (@Bool.true, ((2 : Int), ([] : List (Int)))) (@Arr.cons (Bool × (Int × (List Int))) (6 : Nat) (@Bool.true, ((2 : Int), ([] : List (Int)))) (@Arr.cons (Bool × (Int × (List Int))) (5 : Nat) (@Bool.true, ((4 : Int), ([] : List (Int)))) (@Arr.cons (Bool × (Int × (List Int))) (4 : Nat) (@Bool.true, ((4 : Int), ([] : List (Int)))) (@Arr.cons (Bool × (Int × (List Int))) (3 : Nat) (@Bool.true, ((4 : Int), ([(5 : Int), (10 : Int)] : List (Int)))) (@Arr.cons (Bool × (Int × (List Int))) (2 : Nat) (@Bool.true, ((4 : Int), ([(5 : Int), (10 : Int)] : List (Int)))) (@Arr.cons (Bool × (Int × (List Int))) (1 : Nat) (@Bool.true, ((4 : Int), ([(5 : Int), (10 : Int)] : List (Int)))) (@Arr.cons (Bool × (Int × (List Int))) (0 : Nat) (@Bool.true, ((4 : Int), ([(2 : Int), (5 : Int), (10 : Int)] : List (Int)))) (@Arr.nil (Bool × (Int × (List Int)))))))))))))))
    else
     bif (decide (e0 = (4 : Int))) then
      some ((@Arr.cons (Bool × (Int × (List Int))) (9 : Nat) (@Bool.false, ((0 : Int), ([] : List (Int)))) (@Arr.cons (Bool × (Int × (List Int))) (8 : Nat) (@Bool.false, ((0 : Int), ([] : List (Int)))) (@Arr.cons (Bool × (Int × (List Int))) (7 : Nat) (@Bool.false, ((0 : Int), ([] : List (Int)))) (@Arr.cons (Bool × (Int × (List Int))) (6 : Nat) (@Bool.false, ((0 : Int), ([] : List (Int)))) (@Arr.cons (Bool × (Int × (List Int))) (5 : Nat) (@Bool.true, ((4 : Int), ([(10 : Int)] : List (Int)))) (@Arr.cons (Bool × (Int × (List Int))) (4 : Nat) (@Bool.true, ((5 : Int), ([(10 : Int)] : List (Int)))) (@Arr.cons (Bool × (Int × (List Int))) (3 : Nat) (@Bool.true, ((6 : Int), ([(7 : Int)] : List (Int)))) (@Arr.cons (Bool × (Int × (List Int))) (2 : Nat) (@Bool.true, ((6 : Int), ([(7 : Int)] : List (Int)))) (@Arr.cons (Bool × (Int × (List Int))) (1 : Nat) (@Bool.true, ((8 : Int), ([(7 : Int)] : List (Int)))) (@Arr.cons (Bool × (Int × (List Int))) (0 : Nat) (@Bool.false, ((0 : Int), ([] : List (Int)))) (@Arr.nil (Bool × (Int × (List Int)))))))))))))))
     else
      bif (decide (e0 = (5 : Int))) then
       some ((@Arr.cons (Bool × (Int × (List Int))) (9 : Nat) (@Bool.false, ((0 : Int), ([] : List (Int)))) (@Arr.cons (Bool × (Int × (List Int))) (8 : Nat) (@Bool.false, ((0 : Int), ([] : List (Int)))) (@Arr.cons (Bool × (Int × (List Int))) (7 : Nat) (@Bool.false, ((0 : Int), ([] : List (Int)))) (@Arr.cons (Bool × (Int × (List Int))) (6 : Nat) (@Bool.false, ((0 : Int), ([] : List (Int)))) (@Arr.cons (Bool × (Int × (List Int))) (5 : Nat) (@Bool.true, ((2 : Int), ([(4 : Int)] : List (Int)))) (@Arr.cons (Bool × (Int × (List Int))) (4 : Nat) (@Bool.true, ((3 : Int), ([(4 : Int)] : List (Int)))) (@Arr.cons (Bool × (Int × (List Int))) (3 : Nat) (@Bool.true, ((3 : Int), ([(4 : Int)] : List (Int)))) (@Arr.cons (Bool × (Int × (List Int))) (2 : Nat) (@Bool.true, ((3 : Int), ([(4 : Int)] : List (Int)))) (@Arr.cons (Bool × (Int × (List Int))) (1 : Nat) (@Bool.true, ((3 : Int), ([(4 : Int)] : List (Int)))) (@Arr.cons (Bool × (Int × (List Int))) (0 : Nat) (@Bool.false, ((0 : Int), ([] : List (Int)))) (@Arr.nil (Bool × (Int × (List Int)))))))))))))))
      else
       bif (decide (e0 = (6 : Int))) then
        some ((@Arr.cons (Bool × (Int × (List Int))) (9 : Nat) (@Bool.false, ((0 : Int), ([] : List (Int)))) (@Arr.cons (Bool × (Int × (List Int))) (8 : Nat) (@Bool.false, ((0 : Int), ([] : List (Int)))) (@Arr.cons (Bool × (Int × (List Int))) (7 : Nat) (@Bool.true, ((2 : Int), ([(11 : Int)] : List (Int)))) (@Arr.cons (Bool × (Int × (List Int))) (6 : Nat) (@Bool.true, ((8 : Int), ([(5 : Int), (7 : Int), (8 : Int)] : List (Int)))) (@Arr.cons (Bool × (Int × (List Int))) (5 : Nat) (@Bool.true, ((4 : Int), ([] : List (Int)))) (@Arr.cons (Bool × (Int × (List Int))) (4 : Nat) (@Bool.true, ((5 : Int), ([] : List (Int)))) (@Arr.cons (Bool × (Int × (List Int))) (3 : Nat) (@Bool.true, ((8 : Int), ([(8 : Int)] : List (Int)))) (@Arr.cons (Bool × (Int × (List Int))) (2 : Nat) (@Bool.true, ((9 : Int), ([(8 : Int), (1 : Int)] : List (Int)))) (@Arr.cons (Bool × (Int × (List Int))) (1 : Nat) (@Bool.true, ((8 : Int), ([(8 : Int)] : List (Int)))) (@Arr.cons (Bool × (Int × (List Int))) (0 : Nat) (@Bool.true, ((8 : Int), ([(2 : Int), (7 : Int), (8 : Int)] : List (Int)))) (@Arr.nil (Bool × (Int × (List Int)))))))))))))))
       else
        bif (decide (e0 = (7 : Int))) then
         some ((@Arr.cons (Bool × (Int × (List Int))) (9 : Nat) (@Bool.false, ((0 : Int), ([] : List (Int)))) (@Arr.cons (Bool × (Int × (List Int))) (8 : Nat) (@Bool.false, ((0 : Int), ([] : List (Int)))) (@Arr.cons (Bool × (Int × (List Int))) (7 : Nat) (@Bool.true, ((2 : Int), ([(11 : Int)] : List (Int)))) (@Arr.cons (Bool × (Int × (List Int))) (6 : Nat) (@Bool.true, ((6 : Int), ([(5 : Int), (7 : Int), (9 : Int)] : List (Int)))) (@Arr.cons (Bool × (Int × (List Int))) (5 : Nat) (@Bool.true, ((4 : Int), ([] : List (Int)))) (@Arr.cons (Bool × (Int × (List Int))) (4 : Nat) (@Bool.true, ((5 : Int), ([] : List (Int)))) (@Arr.cons (Bool × (Int × (List Int))) (3 : Nat) (@Bool.true, ((6 : Int), ([(9 : Int)] : List (Int)))) (@Arr.cons (Bool × (Int × (List Int))) (2 : Nat) (@Bool.true, ((7 : Int), ([(9 : Int)] : List (Int)))) (@Arr.cons (Bool × (Int × (List Int))) (1 : Nat) (@Bool.true, ((6 : Int), ([(9 : Int)] : List (Int)))) (@Arr.cons (Bool × (Int × (List Int))) (0 : Nat) (@Bool.true, ((6 : Int), ([(2 : Int), (7 : Int), (9 : Int)] : List (Int)))) (@Arr.nil (Bool × (Int × (List Int)))))))))))))))
        else
         Option.bind (@fsm_answers N e0) fun (v2 : (Arr (Bool × (Int × (List Int))) 10)) =>
         some (v2)
theorem fsm_row_S (N : Nat) (e0 : Int) : (runK Go.Proofs.Try.prog (Ev5 N) 400 73 [(.int .i64)] [(.arr 10 (.pair .bool (.pair (.int .i64) (.sl (.int .i64)))))] (e0, ())).run = fsm_row N e0 := by kernel_rfl
noncomputable def Ev6 (N : Nat) : (R : Type) → Env R := Env.addFn (Ev5 N) 73 (fun R => fnK [(.int .i64)] [(.arr 10 (.pair .bool (.pair (.int .i64) (.sl (.int .i64)))))] (fun c => fsm_row N c.1))
theorem Ev6_ok (N : Nat) (R : Type) : EnvOK Go.Proofs.Try.prog (Ev6 N R) := EnvOK.addFn hmx (Ev5_ok N R) (Ev5_ok N _) (by kernel_rfl) (fun c => fsm_row_S N c.1)
noncomputable def slices_Clone_fsm_Action_fsm_Action_ne (N : Nat) (s0 : List (Int)) : Option (List (Int)) :=
 bif (@List.isEmpty Int s0) then
  none
 else
  bif (roomB (List.length s0) 8) then
   some (s0)
  else
   none
theorem slices_Clone_fsm_Action_fsm_Action_ne_S (N : Nat) (s0 : List (Int)) : (runK Go.Proofs.Try.prog (Ev6 N) 400 74 [(.sl (.int .i64))] [(.sl (.int .i64))] (s0, ())).run = slices_Clone_fsm_Action_fsm_Action_ne N s0 := by kernel_rfl
theorem slices_Clone_fsm_Action_fsm_Action_n1 (N : Nat) (c : Nat) : (runV Go.Proofs.Try.prog (Ev6 N) 400 74 [.c (.slice none 0 c)] [(.sl (.int .i64))]).run = some [] := by kernel_rfl
theorem slices_Clone_fsm_Action_fsm_Action_n2 (N : Nat) (A : Addr) (c : Nat) : (runV Go.Proofs.Try.prog (Ev6 N) 400 74 [.c (.slice (some A) 0 c)] [(.sl (.int .i64))]).run = some [] := by kernel_rfl
noncomputable def slices_Clone_fsm_Action_fsm_Action (N : Nat) (s0 : List (Int)) : Option (List (Int)) := bif s0.isEmpty then some [] else slices_Clone_fsm_Action_fsm_Action_ne N s0
noncomputable def Ev7 (N : Nat) : (R : Type) → Env R := Env.addFn (Ev6 N) 74 (fun R => fnK [(.sl (.int .i64))] [(.sl (.int .i64))] (fun c => slices_Clone_fsm_Action_fsm_Action N c.1))
theorem Ev7_ok (N : Nat) (R : Type) : EnvOK Go.Proofs.Try.prog (Ev7 N R) := EnvOK.addNil hmx (Ev6_ok N R) (Ev6_ok N _) (by kernel_rfl) (fun c => slices_Clone_fsm_Action_fsm_Action_ne_S N c.1) (slices_Clone_fsm_Action_fsm_Action_n1 N) (slices_Clone_fsm_Action_fsm_Action_n2 N)
noncomputable def fsm_Next (N : Nat) (s0 : Int) (e1 : Int) : Option ((Int) × (List (Int)) × Int) :=
 Option.bind (@fsm_isState N s0) fun (v3 : Bool) =>
 bif (!v3) then
  some (((0 : Int), (([] : List (Int)), (1 : Int))))
 else
  bif (@cond Bool @Bool.false @Bool.true (decide (e1 < (0 : Int)))) then
   some (((0 : Int), (([] : List (Int)), (1 : Int))))
  else
   bif (@cond Bool @Bool.false @Bool.true (decide ((15 : Int) < e1))) then
    some (((0 : Int), (([] : List (Int)), (1 : Int))))
   else
    Option.bind (@fsm_row N e1) fun (v4 : (Arr (Bool × (Int × (List Int))) 10)) =>
    Option.bind (getI v4.l s0) fun (v5 : (Bool × (Int × (List Int)))) =>
    bif (!v5.1) then
     some (((0 : Int), (([] : List (Int)), (11 : Int))))
    else
     Option.bind (@slices_Clone_fsm_Action_fsm_Action N v5.2.2) fun (v6 : (List Int)) =>
     some ((v5.2.1, (v6, (0 : Int))))
theorem fsm_Next_S (N : Nat) (s0 : Int) (e1 : Int) : (runK Go.Proofs.Try.prog (Ev7 N) 400 31 [(.int .i64), (.int .i64)] [(.int .i64), (.sl (.int .i64)), (.int .i64)] (s0, e1, ())).run = fsm_Next N s0 e1 := by kernel_rfl
noncomputable def Ev8 (N : Nat) : (R : Type) → Env R := Env.addFn (Ev7 N) 31 (fun R => fnK [(.int .i64), (.int .i64)] [(.int .i64), (.sl (.int .i64)), (.int .i64)] (fun c => fsm_Next N c.1 c.2.1))
theorem Ev8_ok (N : Nat) (R : Type) : EnvOK Go.Proofs.Try.prog (Ev8 N R) := EnvOK.addFn hmx (Ev7_ok N R) (Ev7_ok N _) (by kernel_rfl) (fun c => fsm_Next_S N c.1 c.2.1)
noncomputable def ref23_Next (N : Nat) (state0 : Int) (event1 : Int) : Option ((Int) × (List (Int)) × Int) :=
 bif (decide (event1 = (0 : Int))) then
  bif (@cond Bool @Bool.false @Bool.true (decide (state0 < (0 : Int)))) then
   some (((0 : Int), (([] : List (Int)), (1 : Int))))
  else
   bif (@cond Bool @Bool.false @Bool.true (decide ((9 : Int) < state0))) then
    some (((0 : Int), (([] : List (Int)), (1 : Int))))
   else
    Option.bind (getI ([([(2 : Int)] : List (Int)), ([(6 : Int), (5 : Int), (7 : Int)] : List (Int)), ([(-1 : Int)] : List (Int)), ([(-1 : Int)] : List (Int)), ([(-1 : Int)] : List (Int)), ([(-1 : Int)] : List (Int)), ([(-1 : Int)] : List (Int)), ([(-1 : Int)] : List (Int)), ([(-1 : Int)] : List (Int)), ([(-1 : Int)] : List (Int))] : List ((List Int))) state0) fun (v3 : (List Int)) =>
    Option.bind (getI v3 (0 : Int)) fun (v4 : Int) =>
    bif (decide (v4 < (0 : Int))) then
     some (((0 : Int), (([] : List (Int)), (11 : Int))))
    else
     Option.bind (getI v3 (0 : Int)) fun (v5 : Int) =>
     Option.bind (dropI v3 (1 : Int)) fun (v6 : (List Int)) =>
     some ((v5, (v6, (0 : Int))))
 else
  bif (decide (event1 = (1 : Int))) then
   bif (@cond Bool @Bool.false @Bool.true (decide (state0 < (0 : Int)))) then
    some (((0 : Int), (([] : List (Int)), (1 : Int))))
   else
    bif (@cond Bool @Bool.false @Bool.true (decide ((9 : Int) < state0))) then
     some (((0 : Int), (([] : List (Int)), (1 : Int))))
    else
     Option.bind (getI ([([(-1 : Int)] : List (Int)), ([(-1 : Int)] : List (Int)), ([(0 : Int)] : List (Int)), ([(1 : Int), (3 : Int)] : List (Int)), ([(0 : Int)] : List (Int)), ([(1 : Int)] : List (Int)), ([(1 : Int)] : List (Int)), ([(1 : Int)] : List (Int)), ([(1 : Int)] : List (Int)), ([(1 : Int), (2 : Int)] : List (Int))] : List ((List Int))) state0) fun (v3 : (List Int)) =>
     Option.bind (getI v3 (0 : Int)) fun (v4 : Int) =>
     bif (decide (v4 < (0 : Int))) then
      some (((0 : Int), (([] : List (Int)), (11 : Int))))
     else
      Option.bind (getI v3 (0 : Int)) fun (v5 : Int) =>
      Option.bind (dropI v3 (1 : Int)) fun (v6 : (List Int)) =>
      some ((v5, (v6, (0 : Int))))
  else
   bif (decide (event1 = (2 : Int))) then
    bif (@cond Bool @Bool.false @Bool.true (decide (state0 < (0 : Int)))) then
     some (((0 : Int), (([] : List (Int)), (1 : Int))))
    else
     bif (@cond Bool @Bool.false @Bool.true (decide ((9 : Int) < state0))) then
      some (((0 : Int), (([] : List (Int)), (1 : Int))))
     else
      Option.bind (getI ([([(1 : Int), (3 : Int)] : List (Int)), ([(1 : Int)] : List (Int)), ([(6 : Int), (5 : Int), (7 : Int)] : List (Int)), ([(3 : Int)] : List (Int)), ([(5 : Int)] : List (Int)), ([(5 : Int)] : List (Int)), ([(6 : Int)] : List (Int)), ([(7 : Int)] : List (Int)), ([(8 : Int)] : List (Int)), ([(9 : Int)] : List (Int))] : List ((List Int))) state0) fun (v3 : (List Int)) =>
      Option.bind (getI v3 (0 : Int)) fun (v4 : Int) =>
      bif (decide (v4 < (0 : Int))) then
       some (((0 : Int), (([] : List (Int)), (11 : Int))))
      else
       Option.bind (getI v3 (0 : Int)) fun (v5 : Int) =>
       Option.bind (dropI v3 (1 : Int)) fun (v6 : (List Int)) =>
       some ((v5, (v6, (0 : Int))))
   else
    bif (decide (event1 = (3 : Int))) then
     bif (@cond Bool @Bool.false @Bool.true (decide (state0 < (0 : Int)))) then
      some (((0 : Int), (([] : List (Int)), (1 : Int))))
     else
      bif (@cond Bool @Bool.false @Bool.true (decide ((9 : Int) < state0))) then
       some (((0 : Int), (([] : List (Int)), (1 : Int))))
      else
       Option.bind (getI ([([(0 : Int)] : List (Int)), ([(0 : Int), (4 : Int)] : List (Int)), ([(2 : Int)] : List (Int)), ([(2 : Int)] : List (Int)), ([(4 : Int)] : List (Int)), ([(4 : Int)] : List (Int)), ([(4 : Int), (5 : Int), (10 : Int)] : List (Int)), ([(4 : Int), (5 : Int), (10 : Int)] : List (Int)), ([(4 : Int), (5 : Int), (10 : Int)] : List (Int)), ([(4 : Int), (2 : Int), (5 : Int), (10 : Int)] : List (Int))] : List ((List Int))) state0) fun (v3 : (List Int)) =>
       Option.bind (getI v3 (0 : Int)) fun (v4 : Int) =>
       bif (decide (v4 < (0 : Int))) then
        some (((0 : Int), (([] : List (Int)), (11 : Int))))
       else
        Option.bind (getI v3 (0 : Int)) fun (v5 : Int) =>
        Option.bind (dropI v3 (1 : Int)) fun (v6 : (List Int)) =>
        some ((v5, (v6, (0 : Int))))
    else
     bif (decide (event1 = (4 : Int))) then
      bif (@cond Bool @Bool.false @Bool.true (decide (state0 < (0 : Int)))) then
       some (((0 : Int), (([] : List (Int)), (1 : Int))))
      else
       bif (@cond Bool @Bool.false @Bool.true (decide ((9 : Int) < state0))) then
        some (((0 : Int), (([] : List (Int)), (1 : Int))))
       else
        Option.bind (getI ([([(-1 : Int)] : List (Int)), ([(-1 : Int)] : List (Int)), ([(-1 : Int)] : List (Int)), ([(-1 : Int)] : List (Int)), ([(4 : Int), (10 : Int)] : List (Int)), ([(5 : Int), (10 : Int)] : List (Int)), ([(6 : Int), (7 : Int)] : List (Int)), ([(6 : Int), (7 : Int)] : List (Int)), ([(8 : Int), (7 : Int)] : List (Int)), ([(-1 : Int)] : List (Int))] : List ((List Int))) state0) fun (v3 : (List Int)) =>
        Option.bind (getI v3 (0 : Int)) fun (v4 : Int) =>
        bif (decide (v4 < (0 : Int))) then
         some (((0 : Int), (([] : List (Int)), (11 : Int))))
        else
         Option.bind (getI v3 (0 : Int)) fun (v5 : Int) =>
         Option.bind (dropI v3 (1 : Int)) fun (v6 : (List Int)) =>
         some ((v5, (v6, (0 : Int))))
     else
      bif (decide (event1 = (5 : Int))) then
       bif (@cond Bool @Bool.false @Bool.true (decide (state0 < (0 : Int)))) then
        some (((0 : Int), (([] : List (Int)), (1 : Int))))
       else
        bif (@cond Bool @Bool.false @Bool.true (decide ((9 : Int) < state0))) then
         some (((0 : Int), (([] : List (Int)), (1 : Int))))
        else
         Option.bind (getI ([([(-1 : Int)] : List (Int)), ([(-1 : Int)] : List (Int)), ([(-1 : Int)] : List (Int)), ([(-1 : Int)] : List (Int)), ([(2 : Int), (4 : Int)] : List (Int)), ([(3 : Int), (4 : Int)] : List (Int)), ([(3 : Int), (4 : Int)] : List (Int)), ([(3 : Int), (4 : Int)] : List (Int)), ([(3 : Int), (4 : Int)] : List (Int)), ([(-1 : Int)] : List (Int))] : List ((List Int))) state0) fun (v3 : (List Int)) =>
         Option.bind (getI v3 (0 : Int)) fun (v4 : Int) =>
         bif (decide (v4 < (0 : Int))) then
          some (((0 : Int), (([] : List (Int)), (11 : Int))))
         else
          Option.bind (getI v3 (0 : Int)) fun (v5 : Int) =>
          Option.bind (dropI v3 (1 : Int)) fun (v6 : (List Int)) =>
          some ((v5, (v6, (0 : Int))))
      else
       bif (decide (event1 = (6 : Int))) then
        bif (@cond Bool @Bool.false @Bool.true (decide (state0 < (0 : Int)))) then
         some (((0 : Int), (([] : List (Int)), (1 : Int))))
        else
         bif (@cond Bool @Bool.false @Bool.true (decide ((9 : Int) < state0))) then
          some (((0 : Int), (([] : List (Int)), (1 : Int))))
         else
          Option.bind (getI ([([(-1 : Int)] : List (Int)), ([(-1 : Int)] : List (Int)), ([(2 : Int), (11 : Int)] : List (Int)), ([(8 : Int), (5 : Int), (7 : Int), (8 : Int)] : List (Int)), ([(4 : Int)] : List (Int)), ([(5 : Int)] : List (Int)), ([(8 : Int), (8 : Int)] : List (Int)), ([(9 : Int), (8 : Int), (1 : Int)] : List (Int)), ([(8 : Int), (8 : Int)] : List (Int)), ([(8 : Int), (2 : Int), (7 : Int), (8 : Int)] : List (Int))] : List ((List Int))) state0) fun (v3 : (List Int)) =>
          Option.bind (getI v3 (0 : Int)) fun (v4 : Int) =>
          bif (decide (v4 < (0 : Int))) then
           some (((0 : Int), (([] : List (Int)), (11 : Int))))
          else
           Option.bind (getI v3 (0 : Int)) fun (v5 : Int) =>
           Option.bind (dropI v3 (1 : Int)) fun (v6 : (List Int)) =>
           some ((v5, (v6, (0 : Int))))
       else
        bif (decide (event1 = (7 : Int))) then
         bif (@cond Bool @Bool.false @Bool.true (decide (state0 < (0 : Int)))) then
          some (((0 : Int), (([] : List (Int)), (1 : Int))))
         else
          bif (@cond Bool @Bool.false @Bool.true (decide ((9 : Int) < state0))) then
           some (((0 : Int), (([] : List (Int)), (1 : Int))))
          else
           Option.bind (getI ([([(-1 : Int)] : List (Int)), ([(-1 : Int)] : List (Int)), ([(2 : Int), (11 : Int)] : List (Int)), ([(6 : Int), (5 : Int), (7 : Int), (9 : Int)] : List (Int)), ([(4 : Int)] : List (Int)), ([(5 : Int)] : List (Int)), ([(6 : Int), (9 : Int)] : List (Int)), ([(7 : Int), (9 : Int)] : List (Int)), ([(6 : Int), (9 : Int)] : List (Int)), ([(6 : Int), (2 : Int), (7 : Int), (9 : Int)] : List (Int))] : List ((List Int))) state0) fun (v3 : (List Int)) =>
           Option.bind (getI v3 (0 : Int)) fun (v4 : Int) =>
           bif (decide (v4 < (0 : Int))) then
            some (((0 : Int), (([] : List (Int)), (11 : Int))))
           else
            Option.bind (getI v3 (0 : Int)) fun (v5 : Int) =>
            Option.bind (dropI v3 (1 : Int)) fun (v6 : (List Int)) =>
            some ((v5, (v6, (0 : Int))))
        else
         bif (decide (event1 = (8 : Int))) then
          bif (@cond Bool @Bool.false @Bool.true (decide (state0 < (0 : Int)))) then
           some (((0 : Int), (([] : List (Int)), (1 : Int))))
          else
           bif (@cond Bool @Bool.false @Bool.true (decide ((9 : Int) < state0))) then
            some (((0 : Int), (([] : List (Int)), (1 : Int))))
           else
            Option.bind (getI ([([(-1 : Int)] : List (Int)), ([(-1 : Int)] : List (Int)), ([(2 : Int), (11 : Int)] : List (Int)), ([(3 : Int), (11 : Int)] : List (Int)), ([(4 : Int)] : List (Int)), ([(5 : Int)] : List (Int)), ([(7 : Int), (5 : Int)] : List (Int)), ([(6 : Int), (7 : Int)] : List (Int)), ([(9 : Int), (5 : Int), (1 : Int)] : List (Int)), ([(6 : Int), (2 : Int), (7 : Int)] : List (Int))] : List ((List Int))) state0) fun (v3 : (List Int)) =>
            Option.bind (getI v3 (0 : Int)) fun (v4 : Int) =>
            bif (decide (v4 < (0 : Int))) then
             some (((0 : Int), (([] : List (Int)), (11 : Int))))
            else
             Option.bind (getI v3 (0 : Int)) fun (v5 : Int) =>
             Option.bind (dropI v3 (1 : Int)) fun (v6 : (List Int)) =>
             some ((v5, (v6, (0 : Int))))
         else
          bif (decide (event1 = (9 : Int))) then
           bif (@cond Bool @Bool.false @Bool.true (decide (state0 < (0 : Int)))) then
            some (((0 : Int), (([] : List (Int)), (1 : Int))))
           else
            bif (@cond Bool @Bool.false @Bool.true (decide ((9 : Int) < state0))) then
             some (((0 : Int), (([] : List (Int)), (1 : Int))))
            else
             Option.bind (getI ([([(-1 : Int)] : List (Int)), ([(-1 : Int)] : List (Int)), ([(2 : Int), (11 : Int)] : List (Int)), ([(3 : Int), (11 : Int)] : List (Int)), ([(4 : Int)] : List (Int)), ([(5 : Int)] : List (Int)), ([(6 : Int), (5 : Int), (7 : Int)] : List (Int)), ([(6 : Int), (7 : Int)] : List (Int)), ([(8 : Int), (5 : Int), (7 : Int)] : List (Int)), ([(6 : Int), (2 : Int), (7 : Int)] : List (Int))] : List ((List Int))) state0) fun (v3 : (List Int)) =>
             Option.bind (getI v3 (0 : Int)) fun (v4 : Int) =>
             bif (decide (v4 < (0 : Int))) then
              some (((0 : Int), (([] : List (Int)), (11 : Int))))
             else
              Option.bind (getI v3 (0 : Int)) fun (v5 : Int) =>
              Option.bind (dropI v3 (1 : Int)) fun (v6 : (List Int)) =>
              some ((v5, (v6, (0 : Int))))
          else
           bif (decide (event1 = (10 : Int))) then
            bif (@cond Bool @Bool.false @Bool.true (decide (state0 < (0 : Int)))) then
             some (((0 : Int), (([] : List (Int)), (1 : Int))))
            else
             bif (@cond Bool @Bool.false @Bool.true (decide ((9 : Int) < state0))) then
              some (((0 : Int), (([] : List (Int)), (1 : Int))))
             else
              Option.bind (getI ([([(-1 : Int)] : List (Int)), ([(-1 : Int)] : List (Int)), ([(2 : Int), (11 : Int)] : List (Int)), ([(3 : Int), (11 : Int)] : List (Int)), ([(4 : Int), (11 : Int)] : List (Int)), ([(5 : Int), (11 : Int)] : List (Int)), ([(6 : Int), (11 : Int)] : List (Int)), ([(6 : Int), (11 : Int)] : List (Int)), ([(6 : Int), (11 : Int)] : List (Int)), ([(5 : Int), (2 : Int), (6 : Int), (11 : Int)] : List (Int))] : List ((List Int))) state0) fun (v3 : (List Int)) =>
              Option.bind (getI v3 (0 : Int)) fun (v4 : Int) =>
              bif (decide (v4 < (0 : Int))) then
               some (((0 : Int), (([] : List (Int)), (11 : Int))))
              else
               Option.bind (getI v3 (0 : Int)) fun (v5 : Int) =>
               Option.bind (dropI v3 (1 : Int)) fun (v6 : (List Int)) =>
               some ((v5, (v6, (0 : Int))))
           else
            bif (decide (event1 = (11 : Int))) then
             bif (@cond Bool @Bool.false @Bool.true (decide (state0 < (0 : Int)))) then
              some (((0 : Int), (([] : List (Int)), (1 : Int))))
             else
              bif (@cond Bool @Bool.false @Bool.true (decide ((9 : Int) < state0))) then
               some (((0 : Int), (([] : List (Int)), (1 : Int))))
              else
               Option.bind (getI ([([(-1 : Int)] : List (Int)), ([(-1 : Int)] : List (Int)), ([(2 : Int)] : List (Int)), ([(3 : Int)] : List (Int)), ([(2 : Int), (4 : Int)] : List (Int)), ([(3 : Int), (4 : Int)] : List (Int)), ([(6 : Int)] : List (Int)), ([(6 : Int)] : List (Int)), ([(8 : Int)] : List (Int)), ([(6 : Int), (2 : Int), (7 : Int)] : List (Int))] : List ((List Int))) state0) fun (v3 : (List Int)) =>
               Option.bind (getI v3 (0 : Int)) fun (v4 : Int) =>
               bif (decide (v4 < (0 : Int))) then
                some (((0 : Int), (([] : List (Int)), (11 : Int))))
               else
                Option.bind (getI v3 (0 : Int)) fun (v5 : Int) =>
                Option.bind (dropI v3 (1 : Int)) fun (v6 : (List Int)) =>
                some ((v5, (v6, (0 : Int))))
            else
             bif (decide (event1 = (12 : Int))) then
              bif (@cond Bool @Bool.false @Bool.true (decide (state0 < (0 : Int)))) then
               some (((0 : Int), (([] : List (Int)), (1 : Int))))
              else
               bif (@cond Bool @Bool.false @Bool.true (decide ((9 : Int) < state0))) then
                some (((0 : Int), (([] : List (Int)), (1 : Int))))
               else
                Option.bind (getI ([([(-1 : Int)] : List (Int)), ([(-1 : Int)] : List (Int)), ([(2 : Int), (12 : Int)] : List (Int)), ([(3 : Int), (12 : Int)] : List (Int)), ([(4 : Int), (12 : Int)] : List (Int)), ([(5 : Int), (12 : Int)] : List (Int)), ([(6 : Int), (12 : Int)] : List (Int)), ([(7 : Int), (12 : Int)] : List (Int)), ([(8 : Int), (12 : Int)] : List (Int)), ([(9 : Int), (12 : Int)] : List (Int))] : List ((List Int))) state0) fun (v3 : (List Int)) =>
                Option.bind (getI v3 (0 : Int)) fun (v4 : Int) =>
                bif (decide (v4 < (0 : Int))) then
                 some (((0 : Int), (([] : List (Int)), (11 : Int))))
                else
                 Option.bind (getI v3 (0 : Int)) fun (v5 : Int) =>
                 Option.bind (dropI v3 (1 : Int)) fun (v6 : (List Int)) =>
                 some ((v5, (v6, (0 : Int))))
             else
              bif (decide (event1 = (13 : Int))) then
               bif (@cond Bool @Bool.false @Bool.true (decide (state0 < (0 : Int)))) then
                some (((0 : Int), (([] : List (Int)), (1 : Int))))
               else
                bif (@cond Bool @Bool.false @Bool.true (decide ((9 : Int) < state0))) then
                 some (((0 : Int), (([] : List (Int)), (1 : Int))))
                else
                 Option.bind (getI ([([(-1 : Int)] : List (Int)), ([(-1 : Int)] : List (Int)), ([(2 : Int)] : List (Int)), ([(3 : Int)] : List (Int)), ([(4 : Int)] : List (Int)), ([(5 : Int)] : List (Int)), ([(6 : Int)] : List (Int)), ([(6 : Int)] : List (Int)), ([(8 : Int)] : List (Int)), ([(9 : Int)] : List (Int))] : List ((List Int))) state0) fun (v3 : (List Int)) =>
                 Option.bind (getI v3 (0 : Int)) fun (v4 : Int) =>
                 bif (decide (v4 < (0 : Int))) then
                  some (((0 : Int), (([] : List (Int)), (11 : Int))))
                 else
                  Option.bind (getI v3 (0 : Int)) fun (v5 : Int) =>
                  Option.bind (dropI v3 (1 : Int)) fun (v6 : (List Int)) =>
                  some ((v5, (v6, (0 : Int))))
              else
               bif (decide (event1 = (14 : Int))) then
                bif (@cond Bool @Bool.false @Bool.true (decide (state0 < (0 : Int)))) then
                 some (((0 : Int), (([] : List (Int)), (1 : Int))))
                else
                 bif (@cond Bool @Bool.false @Bool.true (decide ((9 : Int) < state0))) then
                  some (((0 : Int), (([] : List (Int)), (1 : Int))))
                 else
                  Option.bind (getI ([([(-1 : Int)] : List (Int)), ([(-1 : Int)] : List (Int)), ([(2 : Int), (4 : Int)] : List (Int)), ([(3 : Int), (4 : Int)] : List (Int)), ([(2 : Int), (4 : Int)] : List (Int)), ([(3 : Int), (4 : Int)] : List (Int)), ([(3 : Int), (4 : Int)] : List (Int)), ([(3 : Int), (4 : Int)] : List (Int)), ([(3 : Int), (4 : Int)] : List (Int)), ([(5 : Int), (2 : Int), (5 : Int), (10 : Int)] : List (Int))] : List ((List Int))) state0) fun (v3 : (List Int)) =>
                  Option.bind (getI v3 (0 : Int)) fun (v4 : Int) =>
                  bif (decide (v4 < (0 : Int))) then
                   some (((0 : Int), (([] : List (Int)), (11 : Int))))
                  else
                   Option.bind (getI v3 (0 : Int)) fun (v5 : Int) =>
                   Option.bind (dropI v3 (1 : Int)) fun (v6 : (List Int)) =>
                   some ((v5, (v6, (0 : Int))))
               else
                bif (decide (event1 = (15 : Int))) then
                 bif (@cond Bool @Bool.false @Bool.true (decide (state0 < (0 : Int)))) then
                  some (((0 : Int), (([] : List (Int)), (1 : Int))))
                 else
                  bif (@cond Bool @Bool.false @Bool.true (decide ((9 : Int) < state0))) then
                   some (((0 : Int), (([] : List (Int)), (1 : Int))))
                  else
                   Option.bind (getI ([([(-1 : Int)] : List (Int)), ([(-1 : Int)] : List (Int)), ([(2 : Int)] : List (Int)), ([(3 : Int)] : List (Int)), ([(4 : Int)] : List (Int)), ([(5 : Int)] : List (Int)), ([(6 : Int)] : List (Int)), ([(7 : Int)] : List (Int)), ([(8 : Int)] : List (Int)), ([(9 : Int), (13 : Int)] : List (Int))] : List ((List Int))) state0) fun (v3 : (List Int)) =>
                   Option.bind (getI v3 (0 : Int)) fun (v4 : Int) =>
                   bif (decide (v4 < (0 : Int))) then
                    some (((0 : Int), (([] : List (Int)), (11 : Int))))
                   else
                    Option.bind (getI v3 (0 : Int)) fun (v5 : Int) =>
                    Option.bind (dropI v3 (1 : Int)) fun (v6 : (List Int)) =>
                    some ((v5, (v6, (0 : Int))))
                else
                 some (((0 : Int), (([] : List (Int)), (1 : Int))))
theorem ref23_Next_S (N : Nat) (state0 : Int) (event1 : Int) : (runK Go.Proofs.Try.prog (Ev8 N) 400 32 [(.int .i64), (.int .i64)] [(.int .i64), (.sl (.int .i64)), (.int .i64)] (state0, event1, ())).run = ref23_Next N state0 event1 := by kernel_rfl
noncomputable def Ev9 (N : Nat) : (R : Type) → Env R := Env.addFn (Ev8 N) 32 (fun R => fnK [(.int .i64), (.int .i64)] [(.int .i64), (.sl (.int .i64)), (.int .i64)] (fun c => ref23_Next N c.1 c.2.1))
theorem Ev9_ok (N : Nat) (R : Type) : EnvOK Go.Proofs.Try.prog (Ev9 N R) := EnvOK.addFn hmx (Ev8_ok N R) (Ev8_ok N _) (by kernel_rfl) (fun c => ref23_Next_S N c.1 c.2.1)
noncomputable def law23_same_L4_I : LI := ⟨26, 0, [], ⟨[(0, .ty (.sl (.int .i64))), (1, .ty (.sl (.int .i64))), (12, .ty (.int .i64)), (13, .ty (.int .i64))], []⟩, [(.ret, ⟨[(4, .ty .bool)], []⟩), (.exit 0, ⟨[], []⟩)]⟩
noncomputable def law23_same_L4 (N : Nat) (X : (((List (Int)) × ((List (Int)) × ((Int) × ((Int) × Unit)))) × Unit) → Option (((((Bool) × Unit) × Unit) ⊕ (Unit × Unit)))) (a0 : List (Int)) (b1 : List (Int)) (x12 : Int) (x13 : Int) : Option (((((Bool) × Unit) × Unit) ⊕ (Unit × Unit))) :=
 bif (decide (x13 < x12)) then
  Option.bind (getI a0 x13) fun (v6 : Int) =>
  Option.bind (getI b1 x13) fun (v7 : Int) =>
  bif (!(decide (v6 = v7))) then
   some ((.inl ((@Bool.false, @Unit.unit), @Unit.unit)))
  else
   (X ((a0, (b1, (x12, ((Go.IntKind.wrap .i64 (x13 + (1 : Int))), @Unit.unit)))), @Unit.unit))
 else
  some ((.inr (@Unit.unit, @Unit.unit)))
noncomputable def law23_same_L4_R (N : Nat) (c : (((List (Int)) × ((List (Int)) × ((Int) × ((Int) × Unit)))) × Unit)) : Option (((((Bool) × Unit) × Unit) ⊕ (Unit × Unit))) := gl (fun X c => law23_same_L4 N X c.1.1 c.1.2.1 c.1.2.2.1 c.1.2.2.2.1) N c
theorem law23_same_L4_S (N : Nat) (X : (((List (Int)) × ((List (Int)) × ((Int) × ((Int) × Unit)))) × Unit) → Option (((((Bool) × Unit) × Unit) ⊕ (Unit × Unit)))) (a0 : List (Int)) (b1 : List (Int)) (x12 : Int) (x13 : Int) : (roundK Go.Proofs.Try.prog (Ev9 N) 400 [33] law23_same_L4_I (loopAt Go.Proofs.Try.prog [33] 4) X ((a0, b1, x12, x13, ()), ())).run = law23_same_L4 N X a0 b1 x12 x13 := by kernel_rfl
noncomputable def Ev10 (N : Nat) : (R : Type) → Env R := Env.addLp (Ev9 N) [33] 0 4 (fun R => lpK Go.Proofs.Try.prog law23_same_L4_I (fun X c => law23_same_L4 N X c.1.1 c.1.2.1 c.1.2.2.1 c.1.2.2.2.1) N)
theorem Ev10_ok (N : Nat) (R : Type) : EnvOK Go.Proofs.Try.prog (Ev10 N R) := EnvOK.addLp (Ev9_ok N R) (by kernel_rfl) (lpK_ok (li := law23_same_L4_I) (G := fun X c => law23_same_L4 N X c.1.1 c.1.2.1 c.1.2.2.1 c.1.2.2.2.1) hmx (Ev9_ok N _) (by kernel_rfl) loopAt_sub (fun (X : CT law23_same_L4_I.sh → Option (OT law23_same_L4_I.outs)) (c : CT law23_same_L4_I.sh) => law23_same_L4_S N X c.1.1 c.1.2.1 c.1.2.2.1 c.1.2.2.2.1) N)
noncomputable def law23_same (N : Nat) (a0 : List (Int)) (b1 : List (Int)) : Option (Bool) :=
 bif (!(decide ((((List.length a0) : Nat) : Int) = (((List.length b1) : Nat) : Int)))) then
  some (@Bool.false)
 else
  Option.bind (law23_same_L4_R N ((a0, (b1, ((((List.length a0) : Nat) : Int), ((0 : Int), @Unit.unit)))), @Unit.unit)) fun (v3 : (((Bool × Unit) × Unit) ⊕ (Unit × Unit))) =>
  Sum.elim
   (fun (v4 : ((Bool × Unit) × Unit)) =>
   some (v4.1.1))
   (fun (v4 : (Unit × Unit)) =>
   some (@Bool.true)) v3
theorem law23_same_S (N : Nat) (a0 : List (Int)) (b1 : List (Int)) : (runK Go.Proofs.Try.prog (Ev10 N) 400 33 [(.sl (.int .i64)), (.sl (.int .i64))] [.bool] (a0, b1, ())).run = law23_same N a0 b1 := by kernel_rfl
noncomputable def Ev11 (N : Nat) : (R : Type) → Env R := Env.addFn (Ev10 N) 33 (fun R => fnK [(.sl (.int .i64)), (.sl (.int .i64))] [.bool] (fun c => law23_same N c.1 c.2.1))
theorem Ev11_ok (N : Nat) (R : Type) : EnvOK Go.Proofs.Try.prog (Ev11 N R) := EnvOK.addFn hmx (Ev10_ok N R) (Ev10_ok N _) (by kernel_rfl) (fun c => law23_same_S N c.1 c.2.1)
noncomputable def fsm_Name (N : Nat) (s0 : Int) : Option (List UInt8) :=
 Option.bind (@fsm_isState N s0) fun (v2 : Bool) =>
 bif (!v2) then
  some ((@Array.toList UInt8 (@List.toArray UInt8 ([] : List (UInt8)))))
 else
  bif (decide ((0 : Int) ≤ s0 ∧ s0 < (((10 : Nat) : Nat) : Int))) then
   Option.bind (@GetElem?.getElem? (List (List UInt8)) Nat (List UInt8) (fun (as3 : (List (List UInt8))) => (fun (i4 : Nat) => (@LT.lt Nat @instLTNat i4 (List.length as3)))) (@List.instGetElem?NatLtLength (List UInt8)) ([(@Array.toList UInt8 (@List.toArray UInt8 ([(@OfNat.ofNat UInt8 (73 : Nat) (@UInt8.instOfNat (73 : Nat))), (@OfNat.ofNat UInt8 (110 : Nat) (@UInt8.instOfNat (110 : Nat))), (@OfNat.ofNat UInt8 (105 : Nat) (@UInt8.instOfNat (105 : Nat))), (@OfNat.ofNat UInt8 (116 : Nat) (@UInt8.instOfNat (116 : Nat))), (@OfNat.ofNat UInt8 (105 : Nat) (@UInt8.instOfNat (105 : Nat))), (@OfNat.ofNat UInt8 (97 : Nat) (@UInt8.instOfNat (97 : Nat))), (@OfNat.ofNat UInt8 (108 : Nat) (@UInt8.instOfNat (108 : Nat)))] : List (UInt8)))), (@Array.toList UInt8 (@List.toArray UInt8 ([(@OfNat.ofNat UInt8 (83 : Nat) (@UInt8.instOfNat (83 : Nat))), (@OfNat.ofNat UInt8 (116 : Nat) (@UInt8.instOfNat (116 : Nat))), (@OfNat.ofNat UInt8 (97 : Nat) (@UInt8.instOfNat (97 : Nat))), (@OfNat.ofNat UInt8 (114 : Nat) (@UInt8.instOfNat (114 : Nat))), (@OfNat.ofNat UInt8 (116 : Nat) (@UInt8.instOfNat (116 : Nat))), (@OfNat.ofNat UInt8 (105 : Nat) (@UInt8.instOfNat (105 : Nat))), (@OfNat.ofNat UInt8 (110 : Nat) (@UInt8.instOfNat (110 : Nat))), (@OfNat.ofNat UInt8 (103 : Nat) (@UInt8.instOfNat (103 : Nat)))] : List (UInt8)))), (@Array.toList UInt8 (@List.toArray UInt8 ([(@OfNat.ofNat UInt8 (67 : Nat) (@UInt8.instOfNat (67 : Nat))), (@OfNat.ofNat UInt8 (108 : Nat) (@UInt8.instOfNat (108 : Nat))), (@OfNat.ofNat UInt8 (111 : Nat) (@UInt8.instOfNat (111 : Nat))), (@OfNat.ofNat UInt8 (115 : Nat) (@UInt8.instOfNat (115 : Nat))), (@OfNat.ofNat UInt8 (101 : Nat) (@UInt8.instOfNat (101 : Nat))), (@OfNat.ofNat UInt8 (100 : Nat) (@UInt8.instOfNat (100 : Nat)))] : List (UInt8)))), (@Array.toList UInt8 (@List.toArray UInt8 ([(@OfNat.ofNat UInt8 (83 : Nat) (@UInt8.instOfNat (83 : Nat))), (@OfNat.ofNat UInt8 (116 : Nat) (@UInt8.instOfNat (116 : Nat))), (@OfNat.ofNat UInt8 (111 : Nat) (@UInt8.instOfNat (111 : Nat))), (@OfNat.ofNat UInt8 (112 : Nat) (@UInt8.instOfNat (112 : Nat))), (@OfNat.ofNat UInt8 (112 : Nat) (@UInt8.instOfNat (112 : Nat))), (@OfNat.ofNat UInt8 (101 : Nat) (@UInt8.instOfNat (101 : Nat))), (@OfNat.ofNat UInt8 (100 : Nat) (@UInt8.instOfNat (100 : Nat)))] : List (UInt8)))), (@Array.toList UInt8 (@List.toArray UInt8 ([(@OfNat.ofNat UInt8 (67 : Nat) (@UInt8.instOfNat (67 : Nat))), (@OfNat.ofNat UInt8 (108 : Nat) (@UInt8.instOfNat (108 : Nat))), (@OfNat.ofNat UInt8 (111 : Nat) (@UInt8.instOfNat (111 : Nat))), (@OfNat.ofNat UInt8 (115 : Nat) (@UInt8.instOfNat (115 : Nat))), (@OfNat.ofNat UInt8 (105 : Nat) (@UInt8.instOfNat (105 : Nat))), (@OfNat.ofNat UInt8 (110 : Nat) (@UInt8.instOfNat (110 : Nat))), (@OfNat.ofNat UInt8 (103 : Nat) (@UInt8.instOfNat (103 : Nat)))] : List (UInt8)))), (@Array.toList UInt8 (@List.toArray UInt8 ([(@OfNat.ofNat UInt8 (83 : Nat) (@UInt8.instOfNat (83 : Nat))), (@OfNat.ofNat UInt8 (116 : Nat) (@UInt8.instOfNat (116 : Nat))), (@OfNat.ofNat UInt8 (111 : Nat) (@UInt8.instOfNat (111 : Nat))), (@OfNat.ofNat UInt8 (112 : Nat) (@UInt8.instOfNat (112 : Nat))), (@OfNat.ofNat UInt8 (112 : Nat) (@UInt8.instOfNat (112 : Nat))), (@OfNat.ofNat UInt8 (105 : Nat) (@UInt8.instOfNat (105 : Nat))), (@OfNat.ofNat UInt8 (110 : Nat) (@UInt8.instOfNat (110 : Nat))), (@OfNat.ofNat UInt8 (103 : Nat) (@UInt8.instOfNat (103 : Nat)))] : List (UInt8)))), (@Array.toList UInt8 (@List.toArray UInt8 ([(@OfNat.ofNat UInt8 (82 : Nat) (@UInt8.instOfNat (82 : Nat))), (@OfNat.ofNat UInt8 (101 : Nat) (@UInt8.instOfNat (101 : Nat))), (@OfNat.ofNat UInt8 (113 : Nat) (@UInt8.instOfNat (113 : Nat))), (@OfNat.ofNat UInt8 (83 : Nat) (@UInt8.instOfNat (83 : Nat))), (@OfNat.ofNat UInt8 (101 : Nat) (@UInt8.instOfNat (101 : Nat))), (@OfNat.ofNat UInt8 (110 : Nat) (@UInt8.instOfNat (110 : Nat))), (@OfNat.ofNat UInt8 (116 : Nat) (@UInt8.instOfNat (116 : Nat)))] : List (UInt8)))), (@Array.toList UInt8 (@List.toArray UInt8 ([(@OfNat.ofNat UInt8 (65 : Nat) (@UInt8.instOfNat (65 : Nat))), (@OfNat.ofNat UInt8 (99 : Nat) (@UInt8.instOfNat (99 : Nat))), (@OfNat.ofNat UInt8 (107 : Nat) (@UInt8.instOfNat (107 : Nat))), (@OfNat.ofNat UInt8 (82 : Nat) (@UInt8.instOfNat (82 : Nat))), (@OfNat.ofNat UInt8 (99 : Nat) (@UInt8.instOfNat (99 : Nat))), (@OfNat.ofNat UInt8 (118 : Nat) (@UInt8.instOfNat (118 : Nat))), (@OfNat.ofNat UInt8 (100 : Nat) (@UInt8.instOfNat (100 : Nat)))] : List (UInt8)))), (@Array.toList UInt8 (@List.toArray UInt8 ([(@OfNat.ofNat UInt8 (65 : Nat) (@UInt8.instOfNat (65 : Nat))), (@OfNat.ofNat UInt8 (99 : Nat) (@UInt8.instOfNat (99 : Nat))), (@OfNat.ofNat UInt8 (107 : Nat) (@UInt8.instOfNat (107 : Nat))), (@OfNat.ofNat UInt8 (83 : Nat) (@UInt8.instOfNat (83 : Nat))), (@OfNat.ofNat UInt8 (101 : Nat) (@UInt8.instOfNat (101 : Nat))), (@OfNat.ofNat UInt8 (110 : Nat) (@UInt8.instOfNat (110 : Nat))), (@OfNat.ofNat UInt8 (116 : Nat) (@UInt8.instOfNat (116 : Nat)))] : List (UInt8)))), (@Array.toList UInt8 (@List.toArray UInt8 ([(@OfNat.ofNat UInt8 (79 : Nat) (@UInt8.instOfNat (79 : Nat))), (@OfNat.ofNat UInt8 (112 : Nat) (@UInt8.instOfNat (112 : Nat))), (@OfNat.ofNat UInt8 (101 : Nat) (@UInt8.instOfNat (101 : Nat))), (@OfNat.ofNat UInt8 (110 : Nat) (@UInt8.instOfNat (110 : Nat))), (@OfNat.ofNat UInt8 (101 : Nat) (@UInt8.instOfNat (101 : Nat))), (@OfNat.ofNat UInt8 (100 : Nat) (@UInt8.instOfNat (100 : Nat)))] : List (UInt8))))] : List ((List UInt8))) (Int.toNat s0)) fun (v3 : (List UInt8)) =>
   some (v3)
  else
   none
theorem fsm_Name_S (N : Nat) (s0 : Int) : (runK Go.Proofs.Try.prog (Ev11 N) 400 34 [(.int .i64)] [.str] (s0, ())).run = fsm_Name N s0 := by kernel_rfl
noncomputable def Ev12 (N : Nat) : (R : Type) → Env R := Env.addFn (Ev11 N) 34 (fun R => fnK [(.int .i64)] [.str] (fun c => fsm_Name N c.1))
theorem Ev12_ok (N : Nat) (R : Type) : EnvOK Go.Proofs.Try.prog (Ev12 N R) := EnvOK.addFn hmx (Ev11_ok N R) (Ev11_ok N _) (by kernel_rfl) (fun c => fsm_Name_S N c.1)
noncomputable def ref23_Name (N : Nat) (state0 : Int) : Option (List UInt8) :=
 bif (decide (state0 < (0 : Int))) then
  some ((@Array.toList UInt8 (@List.toArray UInt8 ([] : List (UInt8)))))
 else
  bif (@cond Bool @Bool.false @Bool.true (decide ((9 : Int) < state0))) then
   some ((@Array.toList UInt8 (@List.toArray UInt8 ([] : List (UInt8)))))
  else
   Option.bind (getI ([(@Array.toList UInt8 (@List.toArray UInt8 ([(@OfNat.ofNat UInt8 (73 : Nat) (@UInt8.instOfNat (73 : Nat))), (@OfNat.ofNat UInt8 (110 : Nat) (@UInt8.instOfNat (110 : Nat))), (@OfNat.ofNat UInt8 (105 : Nat) (@UInt8.instOfNat (105 : Nat))), (@OfNat.ofNat UInt8 (116 : Nat) (@UInt8.instOfNat (116 : Nat))), (@OfNat.ofNat UInt8 (105 : Nat) (@UInt8.instOfNat (105 : Nat))), (@OfNat.ofNat UInt8 (97 : Nat) (@UInt8.instOfNat (97 : Nat))), (@OfNat.ofNat UInt8 (108 : Nat) (@UInt8.instOfNat (108 : Nat)))] : List (UInt8)))), (@Array.toList UInt8 (@List.toArray UInt8 ([(@OfNat.ofNat UInt8 (83 : Nat) (@UInt8.instOfNat (83 : Nat))), (@OfNat.ofNat UInt8 (116 : Nat) (@UInt8.instOfNat (116 : Nat))), (@OfNat.ofNat UInt8 (97 : Nat) (@UInt8.instOfNat (97 : Nat))), (@OfNat.ofNat UInt8 (114 : Nat) (@UInt8.instOfNat (114 : Nat))), (@OfNat.ofNat UInt8 (116 : Nat) (@UInt8.instOfNat (116 : Nat))), (@OfNat.ofNat UInt8 (105 : Nat) (@UInt8.instOfNat (105 : Nat))), (@OfNat.ofNat UInt8 (110 : Nat) (@UInt8.instOfNat (110 : Nat))), (@OfNat.ofNat UInt8 (103 : Nat) (@UInt8.instOfNat (103 : Nat)))] : List (UInt8)))), (@Array.toList UInt8 (@List.toArray UInt8 ([(@OfNat.ofNat UInt8 (67 : Nat) (@UInt8.instOfNat (67 : Nat))), (@OfNat.ofNat UInt8 (108 : Nat) (@UInt8.instOfNat (108 : Nat))), (@OfNat.ofNat UInt8 (111 : Nat) (@UInt8.instOfNat (111 : Nat))), (@OfNat.ofNat UInt8 (115 : Nat) (@UInt8.instOfNat (115 : Nat))), (@OfNat.ofNat UInt8 (101 : Nat) (@UInt8.instOfNat (101 : Nat))), (@OfNat.ofNat UInt8 (100 : Nat) (@UInt8.instOfNat (100 : Nat)))] : List (UInt8)))), (@Array.toList UInt8 (@List.toArray UInt8 ([(@OfNat.ofNat UInt8 (83 : Nat) (@UInt8.instOfNat (83 : Nat))), (@OfNat.ofNat UInt8 (116 : Nat) (@UInt8.instOfNat (116 : Nat))), (@OfNat.ofNat UInt8 (111 : Nat) (@UInt8.instOfNat (111 : Nat))), (@OfNat.ofNat UInt8 (112 : Nat) (@UInt8.instOfNat (112 : Nat))), (@OfNat.ofNat UInt8 (112 : Nat) (@UInt8.instOfNat (112 : Nat))), (@OfNat.ofNat UInt8 (101 : Nat) (@UInt8.instOfNat (101 : Nat))), (@OfNat.ofNat UInt8 (100 : Nat) (@UInt8.instOfNat (100 : Nat)))] : List (UInt8)))), (@Array.toList UInt8 (@List.toArray UInt8 ([(@OfNat.ofNat UInt8 (67 : Nat) (@UInt8.instOfNat (67 : Nat))), (@OfNat.ofNat UInt8 (108 : Nat) (@UInt8.instOfNat (108 : Nat))), (@OfNat.ofNat UInt8 (111 : Nat) (@UInt8.instOfNat (111 : Nat))), (@OfNat.ofNat UInt8 (115 : Nat) (@UInt8.instOfNat (115 : Nat))), (@OfNat.ofNat UInt8 (105 : Nat) (@UInt8.instOfNat (105 : Nat))), (@OfNat.ofNat UInt8 (110 : Nat) (@UInt8.instOfNat (110 : Nat))), (@OfNat.ofNat UInt8 (103 : Nat) (@UInt8.instOfNat (103 : Nat)))] : List (UInt8)))), (@Array.toList UInt8 (@List.toArray UInt8 ([(@OfNat.ofNat UInt8 (83 : Nat) (@UInt8.instOfNat (83 : Nat))), (@OfNat.ofNat UInt8 (116 : Nat) (@UInt8.instOfNat (116 : Nat))), (@OfNat.ofNat UInt8 (111 : Nat) (@UInt8.instOfNat (111 : Nat))), (@OfNat.ofNat UInt8 (112 : Nat) (@UInt8.instOfNat (112 : Nat))), (@OfNat.ofNat UInt8 (112 : Nat) (@UInt8.instOfNat (112 : Nat))), (@OfNat.ofNat UInt8 (105 : Nat) (@UInt8.instOfNat (105 : Nat))), (@OfNat.ofNat UInt8 (110 : Nat) (@UInt8.instOfNat (110 : Nat))), (@OfNat.ofNat UInt8 (103 : Nat) (@UInt8.instOfNat (103 : Nat)))] : List (UInt8)))), (@Array.toList UInt8 (@List.toArray UInt8 ([(@OfNat.ofNat UInt8 (82 : Nat) (@UInt8.instOfNat (82 : Nat))), (@OfNat.ofNat UInt8 (101 : Nat) (@UInt8.instOfNat (101 : Nat))), (@OfNat.ofNat UInt8 (113 : Nat) (@UInt8.instOfNat (113 : Nat))), (@OfNat.ofNat UInt8 (83 : Nat) (@UInt8.instOfNat (83 : Nat))), (@OfNat.ofNat UInt8 (101 : Nat) (@UInt8.instOfNat (101 : Nat))), (@OfNat.ofNat UInt8 (110 : Nat) (@UInt8.instOfNat (110 : Nat))), (@OfNat.ofNat UInt8 (116 : Nat) (@UInt8.instOfNat (116 : Nat)))] : List (UInt8)))), (@Array.toList UInt8 (@List.toArray UInt8 ([(@OfNat.ofNat UInt8 (65 : Nat) (@UInt8.instOfNat (65 : Nat))), (@OfNat.ofNat UInt8 (99 : Nat) (@UInt8.instOfNat (99 : Nat))), (@OfNat.ofNat UInt8 (107 : Nat) (@UInt8.instOfNat (107 : Nat))), (@OfNat.ofNat UInt8 (82 : Nat) (@UInt8.instOfNat (82 : Nat))), (@OfNat.ofNat UInt8 (99 : Nat) (@UInt8.instOfNat (99 : Nat))), (@OfNat.ofNat UInt8 (118 : Nat) (@UInt8.instOfNat (118 : Nat))), (@OfNat.ofNat UInt8 (100 : Nat) (@UInt8.instOfNat (100 : Nat)))] : List (UInt8)))), (@Array.toList UInt8 (@List.toArray UInt8 ([(@OfNat.ofNat UInt8 (65 : Nat) (@UInt8.instOfNat (65 : Nat))), (@OfNat.ofNat UInt8 (99 : Nat) (@UInt8.instOfNat (99 : Nat))), (@OfNat.ofNat UInt8 (107 : Nat) (@UInt8.instOfNat (107 : Nat))), (@OfNat.ofNat UInt8 (83 : Nat) (@UInt8.instOfNat (83 : Nat))), (@OfNat.ofNat UInt8 (101 : Nat) (@UInt8.instOfNat (101 : Nat))), (@OfNat.ofNat UInt8 (110 : Nat) (@UInt8.instOfNat (110 : Nat))), (@OfNat.ofNat UInt8 (116 : Nat) (@UInt8.instOfNat (116 : Nat)))] : List (UInt8)))), (@Array.toList UInt8 (@List.toArray UInt8 ([(@OfNat.ofNat UInt8 (79 : Nat) (@UInt8.instOfNat (79 : Nat))), (@OfNat.ofNat UInt8 (112 : Nat) (@UInt8.instOfNat (112 : Nat))), (@OfNat.ofNat UInt8 (101 : Nat) (@UInt8.instOfNat (101 : Nat))), (@OfNat.ofNat UInt8 (110 : Nat) (@UInt8.instOfNat (110 : Nat))), (@OfNat.ofNat UInt8 (101 : Nat) (@UInt8.instOfNat (101 : Nat))), (@OfNat.ofNat UInt8 (100 : Nat) (@UInt8.instOfNat (100 : Nat)))] : List (UInt8))))] : List ((List UInt8))) state0) fun (v2 : (List UInt8)) =>
   some (v2)
theorem ref23_Name_S (N : Nat) (state0 : Int) : (runK Go.Proofs.Try.prog (Ev12 N) 400 35 [(.int .i64)] [.str] (state0, ())).run = ref23_Name N state0 := by kernel_rfl
noncomputable def Ev13 (N : Nat) : (R : Type) → Env R := Env.addFn (Ev12 N) 35 (fun R => fnK [(.int .i64)] [.str] (fun c => ref23_Name N c.1))
theorem Ev13_ok (N : Nat) (R : Type) : EnvOK Go.Proofs.Try.prog (Ev13 N R) := EnvOK.addFn hmx (Ev12_ok N R) (Ev12_ok N _) (by kernel_rfl) (fun c => ref23_Name_S N c.1)
noncomputable def fsm_Timed (N : Nat) (s0 : Int) : Option (Bool) :=
 Option.bind (@fsm_Next N s0 (4 : Int)) fun (v2 : (Int × ((List Int) × Int))) =>
 some ((decide (v2.2.2 = (0 : Int))))
theorem fsm_Timed_S (N : Nat) (s0 : Int) : (runK Go.Proofs.Try.prog (Ev13 N) 400 36 [(.int .i64)] [.bool] (s0, ())).run = fsm_Timed N s0 := by kernel_rfl
noncomputable def Ev14 (N : Nat) : (R : Type) → Env R := Env.addFn (Ev13 N) 36 (fun R => fnK [(.int .i64)] [.bool] (fun c => fsm_Timed N c.1))
theorem Ev14_ok (N : Nat) (R : Type) : EnvOK Go.Proofs.Try.prog (Ev14 N R) := EnvOK.addFn hmx (Ev13_ok N R) (Ev13_ok N _) (by kernel_rfl) (fun c => fsm_Timed_S N c.1)
noncomputable def Ev15 (N : Nat) : (R : Type) → Env R := Env.addMv (Ev14 N) [([41], 5), ([41], 8)]
theorem Ev15_ok (N : Nat) (R : Type) : EnvOK Go.Proofs.Try.prog (Ev15 N R) := EnvOK.addMv (Ev14_ok N R) [([41], 5), ([41], 8)]
noncomputable def fsm_Reaches_L10_I : LI := ⟨60, 0, [], ⟨[(1, .ty (.int .i64)), (5, .lit (.box 0 0)), (6, .lit (.own 1)), (7, .ty (.int .i64)), (32, .ty (.int .i64))], [.box 69 (.arr 10 .bool), .own (.int .i64) 52]⟩, [(.exit 2, ⟨[(1, .ty (.int .i64)), (5, .lit (.box 0 0)), (6, .lit (.own 1))], [.box 69 (.arr 10 .bool), .own (.int .i64) 52]⟩)]⟩
noncomputable def fsm_Reaches_L10 (N : Nat) (X : (((Int) × ((Int) × ((Int) × Unit))) × ((Arr (Bool) 10) × ((List (Int)) × Unit))) → Option ((((Int) × Unit) × ((Arr (Bool) 10) × ((List (Int)) × Unit))))) (to1 : Int) (s7 : Int) (x32 : Int) (h0 : Arr (Bool) 10) (h1 : List (Int)) : Option ((((Int) × Unit) × ((Arr (Bool) 10) × ((List (Int)) × Unit)))) :=
 bif (decide (x32 < (16 : Int))) then
  Option.bind (@fsm_Next N s7 x32) fun (v7 : (Int × ((List Int) × Int))) =>
  bif (decide (v7.2.2 = (0 : Int))) then
   bif (decide ((0 : Int) ≤ v7.1 ∧ v7.1 < (((10 : Nat) : Nat) : Int))) then
    Option.bind (@GetElem?.getElem? (List Bool) Nat Bool (fun (as8 : (List Bool)) => (fun (i9 : Nat) => (@LT.lt Nat @instLTNat i9 (List.length as8)))) (@List.instGetElem?NatLtLength Bool) h0.l (Int.toNat v7.1)) fun (v8 : Bool) =>
    bif (@cond Bool @Bool.true (!v8) @Bool.false) then
     bif (decide ((0 : Int) ≤ v7.1 ∧ v7.1 < (((10 : Nat) : Nat) : Int))) then
      Option.bind (@GetElem?.getElem? (List Bool) Nat Bool (fun (as9 : (List Bool)) => (fun (i10 : Nat) => (@LT.lt Nat @instLTNat i10 (List.length as9)))) (@List.instGetElem?NatLtLength Bool) h0.l (Int.toNat v7.1)) fun (v9 : Bool) =>
      bif (roomB ((List.length h1) + (List.length ([v7.1] : List (Int)))) 8) then
       (X ((to1, (s7, ((Go.IntKind.wrap .i64 (x32 + (1 : Int))), @Unit.unit))), ((h0.set (Int.toNat v7.1) @Bool.true), ((h1 ++ ([v7.1] : List (Int))), @Unit.unit))))
      else
       none
     else
      none
    else
     (X ((to1, (s7, ((Go.IntKind.wrap .i64 (x32 + (1 : Int))), @Unit.unit))), (h0, (h1, @Unit.unit))))
   else
    none
  else
   (X ((to1, (s7, ((Go.IntKind.wrap .i64 (x32 + (1 : Int))), @Unit.unit))), (h0, (h1, @Unit.unit))))
 else
  some (((to1, @Unit.unit), (h0, (h1, @Unit.unit))))
noncomputable def fsm_Reaches_L10_R (N : Nat) (c : (((Int) × ((Int) × ((Int) × Unit))) × ((Arr (Bool) 10) × ((List (Int)) × Unit)))) : Option ((((Int) × Unit) × ((Arr (Bool) 10) × ((List (Int)) × Unit)))) := gl (fun X c => fsm_Reaches_L10 N X c.1.1 c.1.2.1 c.1.2.2.1 c.2.1 c.2.2.1) N c
theorem fsm_Reaches_L10_S (N : Nat) (X : (((Int) × ((Int) × ((Int) × Unit))) × ((Arr (Bool) 10) × ((List (Int)) × Unit))) → Option ((((Int) × Unit) × ((Arr (Bool) 10) × ((List (Int)) × Unit))))) (to1 : Int) (s7 : Int) (x32 : Int) (h0 : Arr (Bool) 10) (h1 : List (Int)) : (roundK Go.Proofs.Try.prog (Ev15 N) 400 [41] fsm_Reaches_L10_I (loopAt Go.Proofs.Try.prog [41] 10) X ((to1, s7, x32, ()), (h0, h1, ()))).run = fsm_Reaches_L10 N X to1 s7 x32 h0 h1 := by kernel_rfl
noncomputable def Ev16 (N : Nat) : (R : Type) → Env R := Env.addLp (Ev15 N) [41] 0 10 (fun R => lpK Go.Proofs.Try.prog fsm_Reaches_L10_I (fun X c => fsm_Reaches_L10 N X c.1.1 c.1.2.1 c.1.2.2.1 c.2.1 c.2.2.1) N)
theorem Ev16_ok (N : Nat) (R : Type) : EnvOK Go.Proofs.Try.prog (Ev16 N R) := EnvOK.addLp (Ev15_ok N R) (by kernel_rfl) (lpK_ok (li := fsm_Reaches_L10_I) (G := fun X c => fsm_Reaches_L10 N X c.1.1 c.1.2.1 c.1.2.2.1 c.2.1 c.2.2.1) hmx (Ev15_ok N _) (by kernel_rfl) loopAt_sub (fun (X : CT fsm_Reaches_L10_I.sh → Option (OT fsm_Reaches_L10_I.outs)) (c : CT fsm_Reaches_L10_I.sh) => fsm_Reaches_L10_S N X c.1.1 c.1.2.1 c.1.2.2.1 c.2.1 c.2.2.1) N)
noncomputable def fsm_Reaches_L6_I : LI := ⟨60, 0, [], ⟨[(1, .ty (.int .i64)), (5, .lit (.box 0 0)), (6, .lit (.own 1))], [.box 69 (.arr 10 .bool), .own (.int .i64) 52]⟩, [(.exit 0, ⟨[(1, .ty (.int .i64)), (5, .lit (.box 0 0))], [.box 69 (.arr 10 .bool)]⟩)]⟩
noncomputable def fsm_Reaches_L6 (N : Nat) (X : (((Int) × Unit) × ((Arr (Bool) 10) × ((List (Int)) × Unit))) → Option ((((Int) × Unit) × ((Arr (Bool) 10) × Unit)))) (to1 : Int) (h0 : Arr (Bool) 10) (h1 : List (Int)) : Option ((((Int) × Unit) × ((Arr (Bool) 10) × Unit))) :=
 bif (decide ((0 : Int) < (((List.length h1) : Nat) : Int))) then
  bif (decide ((0 : Int) ≤ (0 : Int) ∧ (0 : Int) < (((List.length h1) : Nat) : Int))) then
   Option.bind (@GetElem?.getElem? (List Int) Nat Int (fun (as5 : (List Int)) => (fun (i6 : Nat) => (@LT.lt Nat @instLTNat i6 (List.length as5)))) (@List.instGetElem?NatLtLength Int) h1 (Int.toNat (0 : Int))) fun (v5 : Int) =>
   Option.bind (dropI h1 (1 : Int)) fun (v6 : (List Int)) =>
   Option.bind (fsm_Reaches_L10_R N ((to1, (v5, ((0 : Int), @Unit.unit))), (h0, (v6, @Unit.unit)))) fun (v7 : ((Int × Unit) × ((Arr Bool 10) × ((List Int) × Unit)))) =>
   (X ((v7.1.1, @Unit.unit), (v7.2.1, (v7.2.2.1, @Unit.unit))))
  else
   none
 else
  some (((to1, @Unit.unit), (h0, @Unit.unit)))
noncomputable def fsm_Reaches_L6_R (N : Nat) (c : (((Int) × Unit) × ((Arr (Bool) 10) × ((List (Int)) × Unit)))) : Option ((((Int) × Unit) × ((Arr (Bool) 10) × Unit))) := gl (fun X c => fsm_Reaches_L6 N X c.1.1 c.2.1 c.2.2.1) N c
theorem fsm_Reaches_L6_S (N : Nat) (X : (((Int) × Unit) × ((Arr (Bool) 10) × ((List (Int)) × Unit))) → Option ((((Int) × Unit) × ((Arr (Bool) 10) × Unit)))) (to1 : Int) (h0 : Arr (Bool) 10) (h1 : List (Int)) : (roundK Go.Proofs.Try.prog (Ev16 N) 400 [41] fsm_Reaches_L6_I (loopAt Go.Proofs.Try.prog [41] 6) X ((to1, ()), (h0, h1, ()))).run = fsm_Reaches_L6 N X to1 h0 h1 := by kernel_rfl
noncomputable def Ev17 (N : Nat) : (R : Type) → Env R := Env.addLp (Ev16 N) [41] 0 6 (fun R => lpK Go.Proofs.Try.prog fsm_Reaches_L6_I (fun X c => fsm_Reaches_L6 N X c.1.1 c.2.1 c.2.2.1) N)
theorem Ev17_ok (N : Nat) (R : Type) : EnvOK Go.Proofs.Try.prog (Ev17 N R) := EnvOK.addLp (Ev16_ok N R) (by kernel_rfl) (lpK_ok (li := fsm_Reaches_L6_I) (G := fun X c => fsm_Reaches_L6 N X c.1.1 c.2.1 c.2.2.1) hmx (Ev16_ok N _) (by kernel_rfl) loopAt_sub (fun (X : CT fsm_Reaches_L6_I.sh → Option (OT fsm_Reaches_L6_I.outs)) (c : CT fsm_Reaches_L6_I.sh) => fsm_Reaches_L6_S N X c.1.1 c.2.1 c.2.2.1) N)
noncomputable def fsm_Reaches (N : Nat) (x0 : Int) (to1 : Int) : Option (Bool) :=
 Option.bind (@fsm_isState N x0) fun (v3 : Bool) =>
 bif (!v3) then
  some (@Bool.false)
 else
  Option.bind (@fsm_isState N to1) fun (v4 : Bool) =>
  bif (@cond Bool @Bool.false @Bool.true (!v4)) then
   some (@Bool.false)
  else
   bif (decide ((0 : Int) ≤ x0 ∧ x0 < (((10 : Nat) : Nat) : Int))) then
    Option.bind (@GetElem?.getElem? (List Bool) Nat Bool (fun (as5 : (List Bool)) => (fun (i6 : Nat) => (@LT.lt Nat @instLTNat i6 (List.length as5)))) (@List.instGetElem?NatLtLength Bool) ([@Bool.false, @Bool.false, @Bool.false, @Bool.false, @Bool.false, @Bool.false, @Bool.false, @Bool.false, @Bool.false, @Bool.false] : List (Bool)) (Int.toNat x0)) fun (v5 : Bool) =>
    Option.bind (fsm_Reaches_L6_R N ((to1, @Unit.unit), (((@Arr.cons Bool (9 : Nat) @Bool.false (@Arr.cons Bool (8 : Nat) @Bool.false (@Arr.cons Bool (7 : Nat) @Bool.false (@Arr.cons Bool (6 : Nat) @Bool.false (@Arr.cons Bool (5 : Nat) @Bool.false (@Arr.cons Bool (4 : Nat) @Bool.false (@Arr.cons Bool (3 : Nat) @Bool.false (@Arr.cons Bool (2 : Nat) @Bool.false (@Arr.cons Bool (1 : Nat) @Bool.false (@Arr.cons Bool (0 : Nat) @Bool.false (@Arr.nil Bool))))))))))).set (Int.toNat x0) @Bool.true), (([x0] : List (Int)), @Unit.unit)))) fun (v6 : ((Int × Unit) × ((Arr Bool 10) × Unit))) =>
    bif (decide ((0 : Int) ≤ v6.1.1 ∧ v6.1.1 < (((10 : Nat) : Nat) : Int))) then
     Option.bind (@GetElem?.getElem? (List Bool) Nat Bool (fun (as7 : (List Bool)) => (fun (i8 : Nat) => (@LT.lt Nat @instLTNat i8 (List.length as7)))) (@List.instGetElem?NatLtLength Bool) v6.2.1.l (Int.toNat v6.1.1)) fun (v7 : Bool) =>
     some (v7)
    else
     none
   else
    none
theorem fsm_Reaches_S (N : Nat) (x0 : Int) (to1 : Int) : (runK Go.Proofs.Try.prog (Ev17 N) 400 41 [(.int .i64), (.int .i64)] [.bool] (x0, to1, ())).run = fsm_Reaches N x0 to1 := by kernel_rfl
noncomputable def Ev18 (N : Nat) : (R : Type) → Env R := Env.addFn (Ev17 N) 41 (fun R => fnK [(.int .i64), (.int .i64)] [.bool] (fun c => fsm_Reaches N c.1 c.2.1))
theorem Ev18_ok (N : Nat) (R : Type) : EnvOK Go.Proofs.Try.prog (Ev18 N R) := EnvOK.addFn hmx (Ev17_ok N R) (Ev17_ok N _) (by kernel_rfl) (fun c => fsm_Reaches_S N c.1 c.2.1)
noncomputable def law23_alive (N : Nat) : Option (Bool) :=
 Option.bind (@fsm_Reaches N (0 : Int) (9 : Int)) fun (v1 : Bool) =>
 some ((@cond Bool @Bool.true v1 @Bool.false))
theorem law23_alive_S (N : Nat) : (runK Go.Proofs.Try.prog (Ev18 N) 400 37 [] [.bool] ()).run = law23_alive N  := by kernel_rfl
noncomputable def Ev19 (N : Nat) : (R : Type) → Env R := Env.addFn (Ev18 N) 37 (fun R => fnK [] [.bool] (fun c => law23_alive N ))
theorem Ev19_ok (N : Nat) (R : Type) : EnvOK Go.Proofs.Try.prog (Ev19 N R) := EnvOK.addFn hmx (Ev18_ok N R) (Ev18_ok N _) (by kernel_rfl) (fun c => law23_alive_S N )
noncomputable def law23_FsmNext (N : Nat) (s0 : Int) (e1 : Int) : Option (Bool) :=
 Option.bind (@fsm_Next N s0 e1) fun (v3 : (Int × ((List Int) × Int))) =>
 Option.bind (@ref23_Next N s0 e1) fun (v4 : (Int × ((List Int) × Int))) =>
 Option.bind (@ref23_Next N s0 (4 : Int)) fun (v5 : (Int × ((List Int) × Int))) =>
 bif (decide (v3.1 = v4.1)) then
  Option.bind (@law23_same N v3.2.1 v4.2.1) fun (v6 : Bool) =>
  bif (@cond Bool @Bool.true v6 @Bool.false) then
   bif (@cond Bool @Bool.true (decide (v3.2.2 = v4.2.2)) @Bool.false) then
    Option.bind (@fsm_Name N s0) fun (v7 : (List UInt8)) =>
    Option.bind (@ref23_Name N s0) fun (v8 : (List UInt8)) =>
    bif (@cond Bool @Bool.true (decide (v7 = v8)) @Bool.false) then
     Option.bind (@fsm_Timed N s0) fun (v9 : Bool) =>
     bif (@cond Bool @Bool.true (@BEq.beq Bool (@instBEqOfDecidableEq Bool @instDecidableEqBool) v9 (decide (v5.2.2 = (0 : Int)))) @Bool.false) then
      Option.bind (@law23_alive N) fun (v10 : Bool) =>
      some ((@cond Bool @Bool.true v10 @Bool.false))
     else
      some (@Bool.false)
    else
     some (@Bool.false)
   else
    some (@Bool.false)
  else
   some (@Bool.false)
 else
  some (@Bool.false)
theorem law23_FsmNext_S (N : Nat) (s0 : Int) (e1 : Int) : (runK Go.Proofs.Try.prog (Ev19 N) 400 5 [(.int .i64), (.int .i64)] [.bool] (s0, e1, ())).run = law23_FsmNext N s0 e1 := by kernel_rfl
theorem law23_FsmNext_C (N : Nat) (s0 : Int) (e1 : Int) (y : Bool) (h : law23_FsmNext N s0 e1 = some y) : CallsK Go.Proofs.Try.prog 5 (valA [(.int .i64), (.int .i64)] (s0, e1, ())) (tupV (valR [.bool] y)) := runK_ok hmx (Ev19_ok N _) (okFn_ok (by kernel_rfl)) (by rw [law23_FsmNext_S]; exact h)
noncomputable def Ev20 (N : Nat) : (R : Type) → Env R := Env.addFn (Ev19 N) 5 (fun R => fnK [(.int .i64), (.int .i64)] [.bool] (fun c => law23_FsmNext N c.1 c.2.1))
theorem Ev20_ok (N : Nat) (R : Type) : EnvOK Go.Proofs.Try.prog (Ev20 N R) := EnvOK.addFn hmx (Ev19_ok N R) (Ev19_ok N _) (by kernel_rfl) (fun c => law23_FsmNext_S N c.1 c.2.1)
noncomputable def law23_FsmRuns_L5_I : LI := ⟨83, 0, [(7, 56)], ⟨[(0, .ty (.int .i64)), (1, .ty (.int .i64)), (2, .ty (.sl (.int .i64))), (7, .lit (.own 0)), (21, .ty (.sl (.int .i64))), (22, .ty (.int .i64)), (23, .ty (.int .i64))], [.own (.int .i64) 56]⟩, [(.exit 0, ⟨[(0, .ty (.int .i64)), (1, .ty (.int .i64)), (2, .ty (.sl (.int .i64))), (7, .lit (.own 0))], [.own (.int .i64) 56]⟩)]⟩
noncomputable def law23_FsmRuns_L5 (N : Nat) (X : (((Int) × ((Int) × ((List (Int)) × ((List (Int)) × ((Int) × ((Int) × Unit)))))) × ((List (Int)) × Unit)) → Option ((((Int) × ((Int) × ((List (Int)) × Unit))) × ((List (Int)) × Unit)))) (s0 : Int) (to1 : Int) (l2 : List (Int)) (x21 : List (Int)) (x22 : Int) (x23 : Int) (h0 : List (Int)) : Option ((((Int) × ((Int) × ((List (Int)) × Unit))) × ((List (Int)) × Unit))) :=
 bif (decide (x23 < x22)) then
  Option.bind (getI x21 x23) fun (v9 : Int) =>
  bif (roomB ((List.length h0) + (List.length ([v9] : List (Int)))) 8) then
   (X ((s0, (to1, (l2, (x21, (x22, ((Go.IntKind.wrap .i64 (x23 + (1 : Int))), @Unit.unit)))))), ((h0 ++ ([v9] : List (Int))), @Unit.unit)))
  else
   none
 else
  some (((s0, (to1, (l2, @Unit.unit))), (h0, @Unit.unit)))
noncomputable def law23_FsmRuns_L5_R (N : Nat) (c : (((Int) × ((Int) × ((List (Int)) × ((List (Int)) × ((Int) × ((Int) × Unit)))))) × ((List (Int)) × Unit))) : Option ((((Int) × ((Int) × ((List (Int)) × Unit))) × ((List (Int)) × Unit))) := gl (fun X c => law23_FsmRuns_L5 N X c.1.1 c.1.2.1 c.1.2.2.1 c.1.2.2.2.1 c.1.2.2.2.2.1 c.1.2.2.2.2.2.1 c.2.1) N c
theorem law23_FsmRuns_L5_S (N : Nat) (X : (((Int) × ((Int) × ((List (Int)) × ((List (Int)) × ((Int) × ((Int) × Unit)))))) × ((List (Int)) × Unit)) → Option ((((Int) × ((Int) × ((List (Int)) × Unit))) × ((List (Int)) × Unit)))) (s0 : Int) (to1 : Int) (l2 : List (Int)) (x21 : List (Int)) (x22 : Int) (x23 : Int) (h0 : List (Int)) : (roundK Go.Proofs.Try.prog (Ev20 N) 400 [6] law23_FsmRuns_L5_I (loopAt Go.Proofs.Try.prog [6] 5) X ((s0, to1, l2, x21, x22, x23, ()), (h0, ()))).run = law23_FsmRuns_L5 N X s0 to1 l2 x21 x22 x23 h0 := by kernel_rfl
noncomputable def Ev21 (N : Nat) : (R : Type) → Env R := Env.addLp (Ev20 N) [6] 0 5 (fun R => lpK Go.Proofs.Try.prog law23_FsmRuns_L5_I (fun X c => law23_FsmRuns_L5 N X c.1.1 c.1.2.1 c.1.2.2.1 c.1.2.2.2.1 c.1.2.2.2.2.1 c.1.2.2.2.2.2.1 c.2.1) N)
theorem Ev21_ok (N : Nat) (R : Type) : EnvOK Go.Proofs.Try.prog (Ev21 N R) := EnvOK.addLp (Ev20_ok N R) (by kernel_rfl) (lpK_ok (li := law23_FsmRuns_L5_I) (G := fun X c => law23_FsmRuns_L5 N X c.1.1 c.1.2.1 c.1.2.2.1 c.1.2.2.2.1 c.1.2.2.2.2.1 c.1.2.2.2.2.2.1 c.2.1) hmx (Ev20_ok N _) (by kernel_rfl) loopAt_sub (fun (X : CT law23_FsmRuns_L5_I.sh → Option (OT law23_FsmRuns_L5_I.outs)) (c : CT law23_FsmRuns_L5_I.sh) => law23_FsmRuns_L5_S N X c.1.1 c.1.2.1 c.1.2.2.1 c.1.2.2.2.1 c.1.2.2.2.2.1 c.1.2.2.2.2.2.1 c.2.1) N)
noncomputable def fsm_Run_L5_I : LI := ⟨44, 0, [(7, 73)], ⟨[(0, .ty (.int .i64)), (1, .ty (.sl (.int .i64))), (7, .lit (.own 0)), (16, .ty (.sl (.int .i64))), (17, .ty (.int .i64)), (18, .ty (.int .i64))], [.own (.int .i64) 73]⟩, [(.ret, ⟨[(4, .ty (.int .i64)), (5, .ty (.sl (.int .i64))), (6, .ty (.int .i64))], []⟩), (.exit 0, ⟨[(0, .ty (.int .i64)), (1, .ty (.sl (.int .i64))), (7, .lit (.own 0))], [.own (.int .i64) 73]⟩)]⟩
noncomputable def fsm_Run_L5 (N : Nat) (X : (((Int) × ((List (Int)) × ((List (Int)) × ((Int) × ((Int) × Unit))))) × ((List (Int)) × Unit)) → Option (((((Int) × ((List (Int)) × ((Int) × Unit))) × Unit) ⊕ (((Int) × ((List (Int)) × Unit)) × ((List (Int)) × Unit))))) (s0 : Int) (l1 : List (Int)) (x16 : List (Int)) (x17 : Int) (x18 : Int) (h0 : List (Int)) : Option (((((Int) × ((List (Int)) × ((Int) × Unit))) × Unit) ⊕ (((Int) × ((List (Int)) × Unit)) × ((List (Int)) × Unit)))) :=
 bif (decide (x18 < x17)) then
  Option.bind (getI x16 x18) fun (v8 : Int) =>
  Option.bind (@fsm_Next N s0 v8) fun (v9 : (Int × ((List Int) × Int))) =>
  bif (!(decide (v9.2.2 = (0 : Int)))) then
   some ((.inl ((s0, (h0, (x18, @Unit.unit))), @Unit.unit)))
  else
   bif (roomB ((List.length h0) + (List.length v9.2.1)) 8) then
    (X ((v9.1, (l1, (x16, (x17, ((Go.IntKind.wrap .i64 (x18 + (1 : Int))), @Unit.unit))))), ((h0 ++ v9.2.1), @Unit.unit)))
   else
    none
 else
  some ((.inr ((s0, (l1, @Unit.unit)), (h0, @Unit.unit))))
noncomputable def fsm_Run_L5_R (N : Nat) (c : (((Int) × ((List (Int)) × ((List (Int)) × ((Int) × ((Int) × Unit))))) × ((List (Int)) × Unit))) : Option (((((Int) × ((List (Int)) × ((Int) × Unit))) × Unit) ⊕ (((Int) × ((List (Int)) × Unit)) × ((List (Int)) × Unit)))) := gl (fun X c => fsm_Run_L5 N X c.1.1 c.1.2.1 c.1.2.2.1 c.1.2.2.2.1 c.1.2.2.2.2.1 c.2.1) N c
theorem fsm_Run_L5_S (N : Nat) (X : (((Int) × ((List (Int)) × ((List (Int)) × ((Int) × ((Int) × Unit))))) × ((List (Int)) × Unit)) → Option (((((Int) × ((List (Int)) × ((Int) × Unit))) × Unit) ⊕ (((Int) × ((List (Int)) × Unit)) × ((List (Int)) × Unit))))) (s0 : Int) (l1 : List (Int)) (x16 : List (Int)) (x17 : Int) (x18 : Int) (h0 : List (Int)) : (roundK Go.Proofs.Try.prog (Ev21 N) 400 [38] fsm_Run_L5_I (loopAt Go.Proofs.Try.prog [38] 5) X ((s0, l1, x16, x17, x18, ()), (h0, ()))).run = fsm_Run_L5 N X s0 l1 x16 x17 x18 h0 := by kernel_rfl
noncomputable def Ev22 (N : Nat) : (R : Type) → Env R := Env.addLp (Ev21 N) [38] 0 5 (fun R => lpK Go.Proofs.Try.prog fsm_Run_L5_I (fun X c => fsm_Run_L5 N X c.1.1 c.1.2.1 c.1.2.2.1 c.1.2.2.2.1 c.1.2.2.2.2.1 c.2.1) N)
theorem Ev22_ok (N : Nat) (R : Type) : EnvOK Go.Proofs.Try.prog (Ev22 N R) := EnvOK.addLp (Ev21_ok N R) (by kernel_rfl) (lpK_ok (li := fsm_Run_L5_I) (G := fun X c => fsm_Run_L5 N X c.1.1 c.1.2.1 c.1.2.2.1 c.1.2.2.2.1 c.1.2.2.2.2.1 c.2.1) hmx (Ev21_ok N _) (by kernel_rfl) loopAt_sub (fun (X : CT fsm_Run_L5_I.sh → Option (OT fsm_Run_L5_I.outs)) (c : CT fsm_Run_L5_I.sh) => fsm_Run_L5_S N X c.1.1 c.1.2.1 c.1.2.2.1 c.1.2.2.2.1 c.1.2.2.2.2.1 c.2.1) N)
noncomputable def fsm_Run (N : Nat) (s0 : Int) (l1 : List (Int)) : Option ((Int) × (List (Int)) × Int) :=
 Option.bind (@fsm_isState N s0) fun (v3 : Bool) =>
 bif (!v3) then
  some (((0 : Int), (([] : List (Int)), (0 : Int))))
 else
  Option.bind (fsm_Run_L5_R N ((s0, (l1, (l1, ((((List.length l1) : Nat) : Int), ((0 : Int), @Unit.unit))))), (([] : List (Int)), @Unit.unit))) fun (v4 : (((Int × ((List Int) × (Int × Unit))) × Unit) ⊕ ((Int × ((List Int) × Unit)) × ((List Int) × Unit)))) =>
  Sum.elim
   (fun (v5 : ((Int × ((List Int) × (Int × Unit))) × Unit)) =>
   some ((v5.1.1, (v5.1.2.1, v5.1.2.2.1))))
   (fun (v5 : ((Int × ((List Int) × Unit)) × ((List Int) × Unit))) =>
   some ((v5.1.1, (v5.2.1, (((List.length v5.1.2.1) : Nat) : Int))))) v4
theorem fsm_Run_S (N : Nat) (s0 : Int) (l1 : List (Int)) : (runK Go.Proofs.Try.prog (Ev22 N) 400 38 [(.int .i64), (.sl (.int .i64))] [(.int .i64), (.sl (.int .i64)), (.int .i64)] (s0, l1, ())).run = fsm_Run N s0 l1 := by kernel_rfl
noncomputable def Ev23 (N : Nat) : (R : Type) → Env R := Env.addFn (Ev22 N) 38 (fun R => fnK [(.int .i64), (.sl (.int .i64))] [(.int .i64), (.sl (.int .i64)), (.int .i64)] (fun c => fsm_Run N c.1 c.2.1))
theorem Ev23_ok (N : Nat) (R : Type) : EnvOK Go.Proofs.Try.prog (Ev23 N R) := EnvOK.addFn hmx (Ev22_ok N R) (Ev22_ok N _) (by kernel_rfl) (fun c => fsm_Run_S N c.1 c.2.1)
noncomputable def ref23_Run_L5_I : LI := ⟨47, 0, [(7, 3)], ⟨[(0, .ty (.int .i64)), (1, .ty (.sl (.int .i64))), (7, .lit (.own 0)), (8, .ty (.int .i64))], [.own (.int .i64) 3]⟩, [(.ret, ⟨[(4, .ty (.int .i64)), (5, .ty (.sl (.int .i64))), (6, .ty (.int .i64))], []⟩), (.exit 0, ⟨[(0, .ty (.int .i64)), (1, .ty (.sl (.int .i64))), (7, .lit (.own 0))], [.own (.int .i64) 3]⟩)]⟩
noncomputable def ref23_Run_L5 (N : Nat) (X : (((Int) × ((List (Int)) × ((Int) × Unit))) × ((List (Int)) × Unit)) → Option (((((Int) × ((List (Int)) × ((Int) × Unit))) × Unit) ⊕ (((Int) × ((List (Int)) × Unit)) × ((List (Int)) × Unit))))) (state0 : Int) (l1 : List (Int)) (i8 : Int) (h0 : List (Int)) : Option (((((Int) × ((List (Int)) × ((Int) × Unit))) × Unit) ⊕ (((Int) × ((List (Int)) × Unit)) × ((List (Int)) × Unit)))) :=
 bif (decide (i8 < (((List.length l1) : Nat) : Int))) then
  Option.bind (getI l1 i8) fun (v6 : Int) =>
  Option.bind (@ref23_Next N state0 v6) fun (v7 : (Int × ((List Int) × Int))) =>
  bif (!(decide (v7.2.2 = (0 : Int)))) then
   some ((.inl ((state0, (h0, (i8, @Unit.unit))), @Unit.unit)))
  else
   bif (roomB ((List.length h0) + (List.length v7.2.1)) 8) then
    (X ((v7.1, (l1, ((Go.IntKind.wrap .i64 (i8 + (1 : Int))), @Unit.unit))), ((h0 ++ v7.2.1), @Unit.unit)))
   else
    none
 else
  some ((.inr ((state0, (l1, @Unit.unit)), (h0, @Unit.unit))))
noncomputable def ref23_Run_L5_R (N : Nat) (c : (((Int) × ((List (Int)) × ((Int) × Unit))) × ((List (Int)) × Unit))) : Option (((((Int) × ((List (Int)) × ((Int) × Unit))) × Unit) ⊕ (((Int) × ((List (Int)) × Unit)) × ((List (Int)) × Unit)))) := gl (fun X c => ref23_Run_L5 N X c.1.1 c.1.2.1 c.1.2.2.1 c.2.1) N c
theorem ref23_Run_L5_S (N : Nat) (X : (((Int) × ((List (Int)) × ((Int) × Unit))) × ((List (Int)) × Unit)) → Option (((((Int) × ((List (Int)) × ((Int) × Unit))) × Unit) ⊕ (((Int) × ((List (Int)) × Unit)) × ((List (Int)) × Unit))))) (state0 : Int) (l1 : List (Int)) (i8 : Int) (h0 : List (Int)) : (roundK Go.Proofs.Try.prog (Ev23 N) 400 [39] ref23_Run_L5_I (loopAt Go.Proofs.Try.prog [39] 5) X ((state0, l1, i8, ()), (h0, ()))).run = ref23_Run_L5 N X state0 l1 i8 h0 := by kernel_rfl
noncomputable def Ev24 (N : Nat) : (R : Type) → Env R := Env.addLp (Ev23 N) [39] 0 5 (fun R => lpK Go.Proofs.Try.prog ref23_Run_L5_I (fun X c => ref23_Run_L5 N X c.1.1 c.1.2.1 c.1.2.2.1 c.2.1) N)
theorem Ev24_ok (N : Nat) (R : Type) : EnvOK Go.Proofs.Try.prog (Ev24 N R) := EnvOK.addLp (Ev23_ok N R) (by kernel_rfl) (lpK_ok (li := ref23_Run_L5_I) (G := fun X c => ref23_Run_L5 N X c.1.1 c.1.2.1 c.1.2.2.1 c.2.1) hmx (Ev23_ok N _) (by kernel_rfl) loopAt_sub (fun (X : CT ref23_Run_L5_I.sh → Option (OT ref23_Run_L5_I.outs)) (c : CT ref23_Run_L5_I.sh) => ref23_Run_L5_S N X c.1.1 c.1.2.1 c.1.2.2.1 c.2.1) N)
noncomputable def ref23_Run (N : Nat) (state0 : Int) (l1 : List (Int)) : Option ((Int) × (List (Int)) × Int) :=
 bif (decide (state0 < (0 : Int))) then
  some (((0 : Int), (([] : List (Int)), (0 : Int))))
 else
  bif (@cond Bool @Bool.false @Bool.true (decide ((9 : Int) < state0))) then
   some (((0 : Int), (([] : List (Int)), (0 : Int))))
  else
   Option.bind (ref23_Run_L5_R N ((state0, (l1, ((0 : Int), @Unit.unit))), (([] : List (Int)), @Unit.unit))) fun (v3 : (((Int × ((List Int) × (Int × Unit))) × Unit) ⊕ ((Int × ((List Int) × Unit)) × ((List Int) × Unit)))) =>
   Sum.elim
    (fun (v4 : ((Int × ((List Int) × (Int × Unit))) × Unit)) =>
    some ((v4.1.1, (v4.1.2.1, v4.1.2.2.1))))
    (fun (v4 : ((Int × ((List Int) × Unit)) × ((List Int) × Unit))) =>
    some ((v4.1.1, (v4.2.1, (((List.length v4.1.2.1) : Nat) : Int))))) v3
theorem ref23_Run_S (N : Nat) (state0 : Int) (l1 : List (Int)) : (runK Go.Proofs.Try.prog (Ev24 N) 400 39 [(.int .i64), (.sl (.int .i64))] [(.int .i64), (.sl (.int .i64)), (.int .i64)] (state0, l1, ())).run = ref23_Run N state0 l1 := by kernel_rfl
noncomputable def Ev25 (N : Nat) : (R : Type) → Env R := Env.addFn (Ev24 N) 39 (fun R => fnK [(.int .i64), (.sl (.int .i64))] [(.int .i64), (.sl (.int .i64)), (.int .i64)] (fun c => ref23_Run N c.1 c.2.1))
theorem Ev25_ok (N : Nat) (R : Type) : EnvOK Go.Proofs.Try.prog (Ev25 N R) := EnvOK.addFn hmx (Ev24_ok N R) (Ev24_ok N _) (by kernel_rfl) (fun c => ref23_Run_S N c.1 c.2.1)
noncomputable def ref23_Reached_L12_I : LI := ⟨48, 0, [], ⟨[(2, .lit (.box 0 0)), (3, .lit (.box 1 0)), (4, .ty (.int .i64)), (5, .ty (.int .i64)), (6, .ty (.int .i64))], [.box 69 (.arr 10 .bool), .box 69 (.arr 10 .bool)]⟩, [(.exit 4, ⟨[(2, .lit (.box 0 0)), (3, .lit (.box 1 0)), (4, .ty (.int .i64)), (5, .ty (.int .i64))], [.box 69 (.arr 10 .bool), .box 69 (.arr 10 .bool)]⟩)]⟩
noncomputable def ref23_Reached_L12 (N : Nat) (X : (((Int) × ((Int) × ((Int) × Unit))) × ((Arr (Bool) 10) × ((Arr (Bool) 10) × Unit))) → Option ((((Int) × ((Int) × Unit)) × ((Arr (Bool) 10) × ((Arr (Bool) 10) × Unit))))) (round4 : Int) (s5 : Int) (e6 : Int) (h0 : Arr (Bool) 10) (h1 : Arr (Bool) 10) : Option ((((Int) × ((Int) × Unit)) × ((Arr (Bool) 10) × ((Arr (Bool) 10) × Unit)))) :=
 bif (decide (e6 < (16 : Int))) then
  Option.bind (@ref23_Next N s5 e6) fun (v7 : (Int × ((List Int) × Int))) =>
  bif (decide ((0 : Int) ≤ s5 ∧ s5 < (((10 : Nat) : Nat) : Int))) then
   Option.bind (@GetElem?.getElem? (List Bool) Nat Bool (fun (as8 : (List Bool)) => (fun (i9 : Nat) => (@LT.lt Nat @instLTNat i9 (List.length as8)))) (@List.instGetElem?NatLtLength Bool) h1.l (Int.toNat s5)) fun (v8 : Bool) =>
   bif v8 then
    bif (@cond Bool @Bool.true (decide (v7.2.2 = (0 : Int))) @Bool.false) then
     bif (decide ((0 : Int) ≤ v7.1 ∧ v7.1 < (((10 : Nat) : Nat) : Int))) then
      Option.bind (@GetElem?.getElem? (List Bool) Nat Bool (fun (as9 : (List Bool)) => (fun (i10 : Nat) => (@LT.lt Nat @instLTNat i10 (List.length as9)))) (@List.instGetElem?NatLtLength Bool) h1.l (Int.toNat v7.1)) fun (v9 : Bool) =>
      (X ((round4, (s5, ((Go.IntKind.wrap .i64 (e6 + (1 : Int))), @Unit.unit))), (h0, ((h1.set (Int.toNat v7.1) @Bool.true), @Unit.unit))))
     else
      none
    else
     (X ((round4, (s5, ((Go.IntKind.wrap .i64 (e6 + (1 : Int))), @Unit.unit))), (h0, (h1, @Unit.unit))))
   else
    (X ((round4, (s5, ((Go.IntKind.wrap .i64 (e6 + (1 : Int))), @Unit.unit))), (h0, (h1, @Unit.unit))))
  else
   none
 else
  some (((round4, (s5, @Unit.unit)), (h0, (h1, @Unit.unit))))
noncomputable def ref23_Reached_L12_R (N : Nat) (c : (((Int) × ((Int) × ((Int) × Unit))) × ((Arr (Bool) 10) × ((Arr (Bool) 10) × Unit)))) : Option ((((Int) × ((Int) × Unit)) × ((Arr (Bool) 10) × ((Arr (Bool) 10) × Unit)))) := gl (fun X c => ref23_Reached_L12 N X c.1.1 c.1.2.1 c.1.2.2.1 c.2.1 c.2.2.1) N c
theorem ref23_Reached_L12_S (N : Nat) (X : (((Int) × ((Int) × ((Int) × Unit))) × ((Arr (Bool) 10) × ((Arr (Bool) 10) × Unit))) → Option ((((Int) × ((Int) × Unit)) × ((Arr (Bool) 10) × ((Arr (Bool) 10) × Unit))))) (round4 : Int) (s5 : Int) (e6 : Int) (h0 : Arr (Bool) 10) (h1 : Arr (Bool) 10) : (roundK Go.Proofs.Try.prog (Ev25 N) 400 [40] ref23_Reached_L12_I (loopAt Go.Proofs.Try.prog [40] 12) X ((round4, s5, e6, ()), (h0, h1, ()))).run = ref23_Reached_L12 N X round4 s5 e6 h0 h1 := by kernel_rfl
noncomputable def Ev26 (N : Nat) : (R : Type) → Env R := Env.addLp (Ev25 N) [40] 0 12 (fun R => lpK Go.Proofs.Try.prog ref23_Reached_L12_I (fun X c => ref23_Reached_L12 N X c.1.1 c.1.2.1 c.1.2.2.1 c.2.1 c.2.2.1) N)
theorem Ev26_ok (N : Nat) (R : Type) : EnvOK Go.Proofs.Try.prog (Ev26 N R) := EnvOK.addLp (Ev25_ok N R) (by kernel_rfl) (lpK_ok (li := ref23_Reached_L12_I) (G := fun X c => ref23_Reached_L12 N X c.1.1 c.1.2.1 c.1.2.2.1 c.2.1 c.2.2.1) hmx (Ev25_ok N _) (by kernel_rfl) loopAt_sub (fun (X : CT ref23_Reached_L12_I.sh → Option (OT ref23_Reached_L12_I.outs)) (c : CT ref23_Reached_L12_I.sh) => ref23_Reached_L12_S N X c.1.1 c.1.2.1 c.1.2.2.1 c.2.1 c.2.2.1) N)
noncomputable def ref23_Reached_L9_I : LI := ⟨48, 0, [], ⟨[(2, .lit (.box 0 0)), (3, .lit (.box 1 0)), (4, .ty (.int .i64)), (5, .ty (.int .i64))], [.box 69 (.arr 10 .bool), .box 69 (.arr 10 .bool)]⟩, [(.exit 2, ⟨[(2, .lit (.box 0 0)), (3, .lit (.box 1 0)), (4, .ty (.int .i64))], [.box 69 (.arr 10 .bool), .box 69 (.arr 10 .bool)]⟩)]⟩
noncomputable def ref23_Reached_L9 (N : Nat) (X : (((Int) × ((Int) × Unit)) × ((Arr (Bool) 10) × ((Arr (Bool) 10) × Unit))) → Option ((((Int) × Unit) × ((Arr (Bool) 10) × ((Arr (Bool) 10) × Unit))))) (round4 : Int) (s5 : Int) (h0 : Arr (Bool) 10) (h1 : Arr (Bool) 10) : Option ((((Int) × Unit) × ((Arr (Bool) 10) × ((Arr (Bool) 10) × Unit)))) :=
 bif (decide (s5 < (10 : Int))) then
  Option.bind (ref23_Reached_L12_R N ((round4, (s5, ((0 : Int), @Unit.unit))), (h0, (h1, @Unit.unit)))) fun (v6 : ((Int × (Int × Unit)) × ((Arr Bool 10) × ((Arr Bool 10) × Unit)))) =>
  (X ((v6.1.1, ((Go.IntKind.wrap .i64 (v6.1.2.1 + (1 : Int))), @Unit.unit)), (v6.2.1, (v6.2.2.1, @Unit.unit))))
 else
  some (((round4, @Unit.unit), (h0, (h1, @Unit.unit))))
noncomputable def ref23_Reached_L9_R (N : Nat) (c : (((Int) × ((Int) × Unit)) × ((Arr (Bool) 10) × ((Arr (Bool) 10) × Unit)))) : Option ((((Int) × Unit) × ((Arr (Bool) 10) × ((Arr (Bool) 10) × Unit)))) := gl (fun X c => ref23_Reached_L9 N X c.1.1 c.1.2.1 c.2.1 c.2.2.1) N c
theorem ref23_Reached_L9_S (N : Nat) (X : (((Int) × ((Int) × Unit)) × ((Arr (Bool) 10) × ((Arr (Bool) 10) × Unit))) → Option ((((Int) × Unit) × ((Arr (Bool) 10) × ((Arr (Bool) 10) × Unit))))) (round4 : Int) (s5 : Int) (h0 : Arr (Bool) 10) (h1 : Arr (Bool) 10) : (roundK Go.Proofs.Try.prog (Ev26 N) 400 [40] ref23_Reached_L9_I (loopAt Go.Proofs.Try.prog [40] 9) X ((round4, s5, ()), (h0, h1, ()))).run = ref23_Reached_L9 N X round4 s5 h0 h1 := by kernel_rfl
noncomputable def Ev27 (N : Nat) : (R : Type) → Env R := Env.addLp (Ev26 N) [40] 0 9 (fun R => lpK Go.Proofs.Try.prog ref23_Reached_L9_I (fun X c => ref23_Reached_L9 N X c.1.1 c.1.2.1 c.2.1 c.2.2.1) N)
theorem Ev27_ok (N : Nat) (R : Type) : EnvOK Go.Proofs.Try.prog (Ev27 N R) := EnvOK.addLp (Ev26_ok N R) (by kernel_rfl) (lpK_ok (li := ref23_Reached_L9_I) (G := fun X c => ref23_Reached_L9 N X c.1.1 c.1.2.1 c.2.1 c.2.2.1) hmx (Ev26_ok N _) (by kernel_rfl) loopAt_sub (fun (X : CT ref23_Reached_L9_I.sh → Option (OT ref23_Reached_L9_I.outs)) (c : CT ref23_Reached_L9_I.sh) => ref23_Reached_L9_S N X c.1.1 c.1.2.1 c.2.1 c.2.2.1) N)
noncomputable def ref23_Reached_L6_I : LI := ⟨48, 0, [], ⟨[(2, .lit (.box 0 0)), (3, .lit (.box 1 0)), (4, .ty (.int .i64))], [.box 69 (.arr 10 .bool), .box 69 (.arr 10 .bool)]⟩, [(.exit 0, ⟨[(2, .lit (.box 0 0)), (3, .lit (.box 1 0))], [.box 69 (.arr 10 .bool), .box 69 (.arr 10 .bool)]⟩)]⟩
noncomputable def ref23_Reached_L6 (N : Nat) (X : (((Int) × Unit) × ((Arr (Bool) 10) × ((Arr (Bool) 10) × Unit))) → Option ((Unit × ((Arr (Bool) 10) × ((Arr (Bool) 10) × Unit))))) (round4 : Int) (h0 : Arr (Bool) 10) (h1 : Arr (Bool) 10) : Option ((Unit × ((Arr (Bool) 10) × ((Arr (Bool) 10) × Unit)))) :=
 bif (decide (round4 < (10 : Int))) then
  Option.bind (ref23_Reached_L9_R N ((round4, ((0 : Int), @Unit.unit)), (h0, (h1, @Unit.unit)))) fun (v5 : ((Int × Unit) × ((Arr Bool 10) × ((Arr Bool 10) × Unit)))) =>
  (X (((Go.IntKind.wrap .i64 (v5.1.1 + (1 : Int))), @Unit.unit), (v5.2.1, (v5.2.2.1, @Unit.unit))))
 else
  some ((@Unit.unit, (h0, (h1, @Unit.unit))))
noncomputable def ref23_Reached_L6_R (N : Nat) (c : (((Int) × Unit) × ((Arr (Bool) 10) × ((Arr (Bool) 10) × Unit)))) : Option ((Unit × ((Arr (Bool) 10) × ((Arr (Bool) 10) × Unit)))) := gl (fun X c => ref23_Reached_L6 N X c.1.1 c.2.1 c.2.2.1) N c
theorem ref23_Reached_L6_S (N : Nat) (X : (((Int) × Unit) × ((Arr (Bool) 10) × ((Arr (Bool) 10) × Unit))) → Option ((Unit × ((Arr (Bool) 10) × ((Arr (Bool) 10) × Unit))))) (round4 : Int) (h0 : Arr (Bool) 10) (h1 : Arr (Bool) 10) : (roundK Go.Proofs.Try.prog (Ev27 N) 400 [40] ref23_Reached_L6_I (loopAt Go.Proofs.Try.prog [40] 6) X ((round4, ()), (h0, h1, ()))).run = ref23_Reached_L6 N X round4 h0 h1 := by kernel_rfl
noncomputable def Ev28 (N : Nat) : (R : Type) → Env R := Env.addLp (Ev27 N) [40] 0 6 (fun R => lpK Go.Proofs.Try.prog ref23_Reached_L6_I (fun X c => ref23_Reached_L6 N X c.1.1 c.2.1 c.2.2.1) N)
theorem Ev28_ok (N : Nat) (R : Type) : EnvOK Go.Proofs.Try.prog (Ev28 N R) := EnvOK.addLp (Ev27_ok N R) (by kernel_rfl) (lpK_ok (li := ref23_Reached_L6_I) (G := fun X c => ref23_Reached_L6 N X c.1.1 c.2.1 c.2.2.1) hmx (Ev27_ok N _) (by kernel_rfl) loopAt_sub (fun (X : CT ref23_Reached_L6_I.sh → Option (OT ref23_Reached_L6_I.outs)) (c : CT ref23_Reached_L6_I.sh) => ref23_Reached_L6_S N X c.1.1 c.2.1 c.2.2.1) N)
noncomputable def ref23_Reached (N : Nat) (x0 : Int) : Option (Arr (Bool) 10) :=
 bif (decide (x0 < (0 : Int))) then
  some ((@Arr.cons Bool (9 : Nat) @Bool.false (@Arr.cons Bool (8 : Nat) @Bool.false (@Arr.cons Bool (7 : Nat) @Bool.false (@Arr.cons Bool (6 : Nat) @Bool.false (@Arr.cons Bool (5 : Nat) @Bool.false (@Arr.cons Bool (4 : Nat) @Bool.false (@Arr.cons Bool (3 : Nat) @Bool.false (@Arr.cons Bool (2 : Nat) @Bool.false (@Arr.cons Bool (1 : Nat) @Bool.false (@Arr.cons Bool (0 : Nat) @Bool.false (@Arr.nil Bool))))))))))))
 else
  bif (@cond Bool @Bool.false @Bool.true (decide ((9 : Int) < x0))) then
   some ((@Arr.cons Bool (9 : Nat) @Bool.false (@Arr.cons Bool (8 : Nat) @Bool.false (@Arr.cons Bool (7 : Nat) @Bool.false (@Arr.cons Bool (6 : Nat) @Bool.false (@Arr.cons Bool (5 : Nat) @Bool.false (@Arr.cons Bool (4 : Nat) @Bool.false (@Arr.cons Bool (3 : Nat) @Bool.false (@Arr.cons Bool (2 : Nat) @Bool.false (@Arr.cons Bool (1 : Nat) @Bool.false (@Arr.cons Bool (0 : Nat) @Bool.false (@Arr.nil Bool))))))))))))
  else
   bif (decide ((0 : Int) ≤ x0 ∧ x0 < (((10 : Nat) : Nat) : Int))) then
    Option.bind (@GetElem?.getElem? (List Bool) Nat Bool (fun (as2 : (List Bool)) => (fun (i3 : Nat) => (@LT.lt Nat @instLTNat i3 (List.length as2)))) (@List.instGetElem?NatLtLength Bool) ([@Bool.false, @Bool.false, @Bool.false, @Bool.false, @Bool.false, @Bool.false, @Bool.false, @Bool.false, @Bool.false, @Bool.false] : List (Bool)) (Int.toNat x0)) fun (v2 : Bool) =>
    Option.bind (ref23_Reached_L6_R N (((0 : Int), @Unit.unit), ((@Arr.cons Bool (9 : Nat) @Bool.false (@Arr.cons Bool (8 : Nat) @Bool.false (@Arr.cons Bool (7 : Nat) @Bool.false (@Arr.cons Bool (6 : Nat) @Bool.false (@Arr.cons Bool (5 : Nat) @Bool.false (@Arr.cons Bool (4 : Nat) @Bool.false (@Arr.cons Bool (3 : Nat) @Bool.false (@Arr.cons Bool (2 : Nat) @Bool.false (@Arr.cons Bool (1 : Nat) @Bool.false (@Arr.cons Bool (0 : Nat) @Bool.false (@Arr.nil Bool))))))))))), (((@Arr.cons Bool (9 : Nat) @Bool.false (@Arr.cons Bool (8 : Nat) @Bool.false (@Arr.cons Bool (7 : Nat) @Bool.false (@Arr.cons Bool (6 : Nat) @Bool.false (@Arr.cons Bool (5 : Nat) @Bool.false (@Arr.cons Bool (4 : Nat) @Bool.false (@Arr.cons Bool (3 : Nat) @Bool.false (@Arr.cons Bool (2 : Nat) @Bool.false (@Arr.cons Bool (1 : Nat) @Bool.false (@Arr.cons Bool (0 : Nat) @Bool.false (@Arr.nil Bool))))))))))).set (Int.toNat x0) @Bool.true), @Unit.unit)))) fun (v3 : (Unit × ((Arr Bool 10) × ((Arr Bool 10) × Unit)))) =>
    some (v3.2.2.1)
   else
    none
theorem ref23_Reached_S (N : Nat) (x0 : Int) : (runK Go.Proofs.Try.prog (Ev28 N) 400 40 [(.int .i64)] [(.arr 10 .bool)] (x0, ())).run = ref23_Reached N x0 := by kernel_rfl
noncomputable def Ev29 (N : Nat) : (R : Type) → Env R := Env.addFn (Ev28 N) 40 (fun R => fnK [(.int .i64)] [(.arr 10 .bool)] (fun c => ref23_Reached N c.1))
theorem Ev29_ok (N : Nat) (R : Type) : EnvOK Go.Proofs.Try.prog (Ev29 N R) := EnvOK.addFn hmx (Ev28_ok N R) (Ev28_ok N _) (by kernel_rfl) (fun c => ref23_Reached_S N c.1)
noncomputable def law23_FsmRuns (N : Nat) (s0 : Int) (to1 : Int) (l2 : List (Int)) : Option (Bool) :=
 bif (decide ((200 : Int) < (((List.length l2) : Nat) : Int))) then
  Option.bind (@law23_alive N) fun (v4 : Bool) =>
  some (v4)
 else
  Option.bind (law23_FsmRuns_L5_R N ((s0, (to1, (l2, (l2, ((((List.length l2) : Nat) : Int), ((0 : Int), @Unit.unit)))))), (([] : List (Int)), @Unit.unit))) fun (v4 : ((Int × (Int × ((List Int) × Unit))) × ((List Int) × Unit))) =>
  Option.bind (@fsm_Run N v4.1.1 v4.2.1) fun (v5 : (Int × ((List Int) × Int))) =>
  Option.bind (@ref23_Run N v4.1.1 v4.1.2.2.1) fun (v6 : (Int × ((List Int) × Int))) =>
  bif (decide ((0 : Int) ≤ v4.1.2.1)) then
   bif (@cond Bool @Bool.true (decide (v4.1.2.1 ≤ (9 : Int))) @Bool.false) then
    Option.bind (@ref23_Reached N v4.1.1) fun (v7 : (Arr Bool 10)) =>
    Option.bind (getI v7.l (@maxI (0 : Int) (@minI v4.1.2.1 (9 : Int)))) fun (v8 : Bool) =>
    bif (decide (v5.1 = v6.1)) then
     Option.bind (@law23_same N v5.2.1 v6.2.1) fun (v9 : Bool) =>
     bif (@cond Bool @Bool.true v9 @Bool.false) then
      bif (@cond Bool @Bool.true (decide (v5.2.2 = v6.2.2)) @Bool.false) then
       Option.bind (@fsm_Reaches N v4.1.1 v4.1.2.1) fun (v10 : Bool) =>
       bif (@cond Bool @Bool.true (@BEq.beq Bool (@instBEqOfDecidableEq Bool @instDecidableEqBool) v10 (@cond Bool @Bool.true v8 @Bool.false)) @Bool.false) then
        Option.bind (@law23_alive N) fun (v11 : Bool) =>
        some ((@cond Bool @Bool.true v11 @Bool.false))
       else
        some (@Bool.false)
      else
       some (@Bool.false)
     else
      some (@Bool.false)
    else
     some (@Bool.false)
   else
    bif (decide (v5.1 = v6.1)) then
     Option.bind (@law23_same N v5.2.1 v6.2.1) fun (v7 : Bool) =>
     bif (@cond Bool @Bool.true v7 @Bool.false) then
      bif (@cond Bool @Bool.true (decide (v5.2.2 = v6.2.2)) @Bool.false) then
       Option.bind (@fsm_Reaches N v4.1.1 v4.1.2.1) fun (v8 : Bool) =>
       bif (@cond Bool @Bool.true (@BEq.beq Bool (@instBEqOfDecidableEq Bool @instDecidableEqBool) v8 @Bool.false) @Bool.false) then
        Option.bind (@law23_alive N) fun (v9 : Bool) =>
        some ((@cond Bool @Bool.true v9 @Bool.false))
       else
        some (@Bool.false)
      else
       some (@Bool.false)
     else
      some (@Bool.false)
    else
     some (@Bool.false)
  else
   bif (decide (v5.1 = v6.1)) then
    Option.bind (@law23_same N v5.2.1 v6.2.1) fun (v7 : Bool) =>
    bif (@cond Bool @Bool.true v7 @Bool.false) then
     bif (@cond Bool @Bool.true (decide (v5.2.2 = v6.2.2)) @Bool.false) then
      Option.bind (@fsm_Reaches N v4.1.1 v4.1.2.1) fun (v8 : Bool) =>
      bif (@cond Bool @Bool.true (@BEq.beq Bool (@instBEqOfDecidableEq Bool @instDecidableEqBool) v8 @Bool.false) @Bool.false) then
       Option.bind (@law23_alive N) fun (v9 : Bool) =>
       some ((@cond Bool @Bool.true v9 @Bool.false))
      else
       some (@Bool.false)
     else
      some (@Bool.false)
    else
     some (@Bool.false)
   else
    some (@Bool.false)
theorem law23_FsmRuns_S (N : Nat) (s0 : Int) (to1 : Int) (l2 : List (Int)) : (runK Go.Proofs.Try.prog (Ev29 N) 400 6 [(.int .i64), (.int .i64), (.sl (.int .i64))] [.bool] (s0, to1, l2, ())).run = law23_FsmRuns N s0 to1 l2 := by kernel_rfl
theorem law23_FsmRuns_C (N : Nat) (s0 : Int) (to1 : Int) (l2 : List (Int)) (y : Bool) (h : law23_FsmRuns N s0 to1 l2 = some y) : CallsK Go.Proofs.Try.prog 6 (valA [(.int .i64), (.int .i64), (.sl (.int .i64))] (s0, to1, l2, ())) (tupV (valR [.bool] y)) := runK_ok hmx (Ev29_ok N _) (okFn_ok (by kernel_rfl)) (by rw [law23_FsmRuns_S]; exact h)
noncomputable def Ev30 (N : Nat) : (R : Type) → Env R := Env.addFn (Ev29 N) 6 (fun R => fnK [(.int .i64), (.int .i64), (.sl (.int .i64))] [.bool] (fun c => law23_FsmRuns N c.1 c.2.1 c.2.2.1))
theorem Ev30_ok (N : Nat) (R : Type) : EnvOK Go.Proofs.Try.prog (Ev30 N R) := EnvOK.addFn hmx (Ev29_ok N R) (Ev29_ok N _) (by kernel_rfl) (fun c => law23_FsmRuns_S N c.1 c.2.1 c.2.2.1)
noncomputable def law23_FsmLayers_L11_I : LI := ⟨90, 0, [], ⟨[(5, .ty (.int .i64)), (8, .ty (.int .i64)), (11, .ty .bool), (12, .ty .bool), (13, .ty .bool), (21, .ty (.sl (.int .i64))), (22, .ty (.int .i64)), (23, .ty (.int .i64)), (36, .ty (.sl (.int .i64))), (37, .ty (.int .i64)), (38, .ty (.int .i64))], []⟩, [(.exit 2, ⟨[(5, .ty (.int .i64)), (8, .ty (.int .i64)), (11, .ty .bool), (12, .ty .bool), (13, .ty .bool), (21, .ty (.sl (.int .i64))), (22, .ty (.int .i64)), (23, .ty (.int .i64))], []⟩)]⟩
noncomputable def law23_FsmLayers_L11 (N : Nat) (X : (((Int) × ((Int) × ((Bool) × ((Bool) × ((Bool) × ((List (Int)) × ((Int) × ((Int) × ((List (Int)) × ((Int) × ((Int) × Unit))))))))))) × Unit) → Option ((((Int) × ((Int) × ((Bool) × ((Bool) × ((Bool) × ((List (Int)) × ((Int) × ((Int) × Unit)))))))) × Unit))) (x5 : Int) (n8 : Int) (up11 : Bool) (down12 : Bool) (req13 : Bool) (x21 : List (Int)) (x22 : Int) (x23 : Int) (x36 : List (Int)) (x37 : Int) (x38 : Int) : Option ((((Int) × ((Int) × ((Bool) × ((Bool) × ((Bool) × ((List (Int)) × ((Int) × ((Int) × Unit)))))))) × Unit)) :=
 bif (decide (x38 < x37)) then
  Option.bind (getI x36 x38) fun (v13 : Int) =>
  bif up11 then
   bif down12 then
    bif req13 then
     (X ((x5, (n8, (@Bool.true, (@Bool.true, (@Bool.true, (x21, (x22, (x23, (x36, (x37, ((Go.IntKind.wrap .i64 (x38 + (1 : Int))), @Unit.unit))))))))))), @Unit.unit))
    else
     (X ((x5, (n8, (@Bool.true, (@Bool.true, ((@cond Bool @Bool.false @Bool.true (decide (v13 = (7 : Int)))), (x21, (x22, (x23, (x36, (x37, ((Go.IntKind.wrap .i64 (x38 + (1 : Int))), @Unit.unit))))))))))), @Unit.unit))
   else
    bif req13 then
     (X ((x5, (n8, (@Bool.true, ((@cond Bool @Bool.false @Bool.true (decide (v13 = (2 : Int)))), (@Bool.true, (x21, (x22, (x23, (x36, (x37, ((Go.IntKind.wrap .i64 (x38 + (1 : Int))), @Unit.unit))))))))))), @Unit.unit))
    else
     (X ((x5, (n8, (@Bool.true, ((@cond Bool @Bool.false @Bool.true (decide (v13 = (2 : Int)))), ((@cond Bool @Bool.false @Bool.true (decide (v13 = (7 : Int)))), (x21, (x22, (x23, (x36, (x37, ((Go.IntKind.wrap .i64 (x38 + (1 : Int))), @Unit.unit))))))))))), @Unit.unit))
  else
   bif down12 then
    bif req13 then
     (X ((x5, (n8, ((@cond Bool @Bool.false @Bool.true (decide (v13 = (1 : Int)))), (@Bool.true, (@Bool.true, (x21, (x22, (x23, (x36, (x37, ((Go.IntKind.wrap .i64 (x38 + (1 : Int))), @Unit.unit))))))))))), @Unit.unit))
    else
     (X ((x5, (n8, ((@cond Bool @Bool.false @Bool.true (decide (v13 = (1 : Int)))), (@Bool.true, ((@cond Bool @Bool.false @Bool.true (decide (v13 = (7 : Int)))), (x21, (x22, (x23, (x36, (x37, ((Go.IntKind.wrap .i64 (x38 + (1 : Int))), @Unit.unit))))))))))), @Unit.unit))
   else
    bif req13 then
     (X ((x5, (n8, ((@cond Bool @Bool.false @Bool.true (decide (v13 = (1 : Int)))), ((@cond Bool @Bool.false @Bool.true (decide (v13 = (2 : Int)))), (@Bool.true, (x21, (x22, (x23, (x36, (x37, ((Go.IntKind.wrap .i64 (x38 + (1 : Int))), @Unit.unit))))))))))), @Unit.unit))
    else
     (X ((x5, (n8, ((@cond Bool @Bool.false @Bool.true (decide (v13 = (1 : Int)))), ((@cond Bool @Bool.false @Bool.true (decide (v13 = (2 : Int)))), ((@cond Bool @Bool.false @Bool.true (decide (v13 = (7 : Int)))), (x21, (x22, (x23, (x36, (x37, ((Go.IntKind.wrap .i64 (x38 + (1 : Int))), @Unit.unit))))))))))), @Unit.unit))
 else
  some (((x5, (n8, (up11, (down12, (req13, (x21, (x22, (x23, @Unit.unit)))))))), @Unit.unit))
noncomputable def law23_FsmLayers_L11_R (N : Nat) (c : (((Int) × ((Int) × ((Bool) × ((Bool) × ((Bool) × ((List (Int)) × ((Int) × ((Int) × ((List (Int)) × ((Int) × ((Int) × Unit))))))))))) × Unit)) : Option ((((Int) × ((Int) × ((Bool) × ((Bool) × ((Bool) × ((List (Int)) × ((Int) × ((Int) × Unit)))))))) × Unit)) := gl (fun X c => law23_FsmLayers_L11 N X c.1.1 c.1.2.1 c.1.2.2.1 c.1.2.2.2.1 c.1.2.2.2.2.1 c.1.2.2.2.2.2.1 c.1.2.2.2.2.2.2.1 c.1.2.2.2.2.2.2.2.1 c.1.2.2.2.2.2.2.2.2.1 c.1.2.2.2.2.2.2.2.2.2.1 c.1.2.2.2.2.2.2.2.2.2.2.1) N c
theorem law23_FsmLayers_L11_S (N : Nat) (X : (((Int) × ((Int) × ((Bool) × ((Bool) × ((Bool) × ((List (Int)) × ((Int) × ((Int) × ((List (Int)) × ((Int) × ((Int) × Unit))))))))))) × Unit) → Option ((((Int) × ((Int) × ((Bool) × ((Bool) × ((Bool) × ((List (Int)) × ((Int) × ((Int) × Unit)))))))) × Unit))) (x5 : Int) (n8 : Int) (up11 : Bool) (down12 : Bool) (req13 : Bool) (x21 : List (Int)) (x22 : Int) (x23 : Int) (x36 : List (Int)) (x37 : Int) (x38 : Int) : (roundK Go.Proofs.Try.prog (Ev30 N) 400 [7] law23_FsmLayers_L11_I (loopAt Go.Proofs.Try.prog [7] 11) X ((x5, n8, up11, down12, req13, x21, x22, x23, x36, x37, x38, ()), ())).run = law23_FsmLayers_L11 N X x5 n8 up11 down12 req13 x21 x22 x23 x36 x37 x38 := by kernel_rfl
noncomputable def Ev31 (N : Nat) : (R : Type) → Env R := Env.addLp (Ev30 N) [7] 0 11 (fun R => lpK Go.Proofs.Try.prog law23_FsmLayers_L11_I (fun X c => law23_FsmLayers_L11 N X c.1.1 c.1.2.1 c.1.2.2.1 c.1.2.2.2.1 c.1.2.2.2.2.1 c.1.2.2.2.2.2.1 c.1.2.2.2.2.2.2.1 c.1.2.2.2.2.2.2.2.1 c.1.2.2.2.2.2.2.2.2.1 c.1.2.2.2.2.2.2.2.2.2.1 c.1.2.2.2.2.2.2.2.2.2.2.1) N)
theorem Ev31_ok (N : Nat) (R : Type) : EnvOK Go.Proofs.Try.prog (Ev31 N R) := EnvOK.addLp (Ev30_ok N R) (by kernel_rfl) (lpK_ok (li := law23_FsmLayers_L11_I) (G := fun X c => law23_FsmLayers_L11 N X c.1.1 c.1.2.1 c.1.2.2.1 c.1.2.2.2.1 c.1.2.2.2.2.1 c.1.2.2.2.2.2.1 c.1.2.2.2.2.2.2.1 c.1.2.2.2.2.2.2.2.1 c.1.2.2.2.2.2.2.2.2.1 c.1.2.2.2.2.2.2.2.2.2.1 c.1.2.2.2.2.2.2.2.2.2.2.1) hmx (Ev30_ok N _) (by kernel_rfl) loopAt_sub (fun (X : CT law23_FsmLayers_L11_I.sh → Option (OT law23_FsmLayers_L11_I.outs)) (c : CT law23_FsmLayers_L11_I.sh) => law23_FsmLayers_L11_S N X c.1.1 c.1.2.1 c.1.2.2.1 c.1.2.2.2.1 c.1.2.2.2.2.1 c.1.2.2.2.2.2.1 c.1.2.2.2.2.2.2.1 c.1.2.2.2.2.2.2.2.1 c.1.2.2.2.2.2.2.2.2.1 c.1.2.2.2.2.2.2.2.2.2.1 c.1.2.2.2.2.2.2.2.2.2.2.1) N)
noncomputable def law23_FsmLayers_L5_I : LI := ⟨90, 0, [], ⟨[(5, .ty (.int .i64)), (21, .ty (.sl (.int .i64))), (22, .ty (.int .i64)), (23, .ty (.int .i64))], []⟩, [(.ret, ⟨[(4, .ty .bool)], []⟩), (.exit 0, ⟨[], []⟩)]⟩
noncomputable def law23_FsmLayers_L5 (N : Nat) (X : (((Int) × ((List (Int)) × ((Int) × ((Int) × Unit)))) × Unit) → Option (((((Bool) × Unit) × Unit) ⊕ (Unit × Unit)))) (x5 : Int) (x21 : List (Int)) (x22 : Int) (x23 : Int) : Option (((((Bool) × Unit) × Unit) ⊕ (Unit × Unit))) :=
 bif (decide (x23 < x22)) then
  Option.bind (getI x21 x23) fun (v6 : Int) =>
  Option.bind (@fsm_Next N x5 v6) fun (v7 : (Int × ((List Int) × Int))) =>
  bif (!(decide (v7.2.2 = (0 : Int)))) then
   (X ((x5, (x21, (x22, ((Go.IntKind.wrap .i64 (x23 + (1 : Int))), @Unit.unit)))), @Unit.unit))
  else
   Option.bind (law23_FsmLayers_L11_R N ((x5, (v7.1, (@Bool.false, (@Bool.false, (@Bool.false, (x21, (x22, (x23, (v7.2.1, ((((List.length v7.2.1) : Nat) : Int), ((0 : Int), @Unit.unit))))))))))), @Unit.unit)) fun (v8 : ((Int × (Int × (Bool × (Bool × (Bool × ((List Int) × (Int × (Int × Unit)))))))) × Unit)) =>
   bif (decide (v8.1.2.1 = (9 : Int))) then
    bif (!(@BEq.beq Bool (@instBEqOfDecidableEq Bool @instDecidableEqBool) v8.1.2.2.1 (@cond Bool @Bool.true (!(decide (v8.1.1 = (9 : Int)))) @Bool.false))) then
     some ((.inl ((@Bool.false, @Unit.unit), @Unit.unit)))
    else
     bif (decide (v8.1.1 = (9 : Int))) then
      bif (@cond Bool @Bool.false @Bool.true (!(@BEq.beq Bool (@instBEqOfDecidableEq Bool @instDecidableEqBool) v8.1.2.2.2.1 (@cond Bool @Bool.true (!(decide (v8.1.2.1 = (9 : Int)))) @Bool.false)))) then
       some ((.inl ((@Bool.false, @Unit.unit), @Unit.unit)))
      else
       bif v8.1.2.2.2.2.1 then
        bif (@cond Bool @Bool.true (!(decide (v8.1.2.1 = (6 : Int)))) @Bool.false) then
         bif (@cond Bool @Bool.false @Bool.true (@cond Bool @Bool.true (!(decide (v8.1.2.1 = (8 : Int)))) @Bool.false)) then
          some ((.inl ((@Bool.false, @Unit.unit), @Unit.unit)))
         else
          (X ((v8.1.2.1, (v8.1.2.2.2.2.2.1, (v8.1.2.2.2.2.2.2.1, ((Go.IntKind.wrap .i64 (v8.1.2.2.2.2.2.2.2.1 + (1 : Int))), @Unit.unit)))), @Unit.unit))
        else
         (X ((v8.1.2.1, (v8.1.2.2.2.2.2.1, (v8.1.2.2.2.2.2.2.1, ((Go.IntKind.wrap .i64 (v8.1.2.2.2.2.2.2.2.1 + (1 : Int))), @Unit.unit)))), @Unit.unit))
       else
        (X ((v8.1.2.1, (v8.1.2.2.2.2.2.1, (v8.1.2.2.2.2.2.2.1, ((Go.IntKind.wrap .i64 (v8.1.2.2.2.2.2.2.2.1 + (1 : Int))), @Unit.unit)))), @Unit.unit))
     else
      bif (@cond Bool @Bool.false @Bool.true (!(@BEq.beq Bool (@instBEqOfDecidableEq Bool @instDecidableEqBool) v8.1.2.2.2.1 @Bool.false))) then
       some ((.inl ((@Bool.false, @Unit.unit), @Unit.unit)))
      else
       bif v8.1.2.2.2.2.1 then
        bif (@cond Bool @Bool.true (!(decide (v8.1.2.1 = (6 : Int)))) @Bool.false) then
         bif (@cond Bool @Bool.false @Bool.true (@cond Bool @Bool.true (!(decide (v8.1.2.1 = (8 : Int)))) @Bool.false)) then
          some ((.inl ((@Bool.false, @Unit.unit), @Unit.unit)))
         else
          (X ((v8.1.2.1, (v8.1.2.2.2.2.2.1, (v8.1.2.2.2.2.2.2.1, ((Go.IntKind.wrap .i64 (v8.1.2.2.2.2.2.2.2.1 + (1 : Int))), @Unit.unit)))), @Unit.unit))
        else
         (X ((v8.1.2.1, (v8.1.2.2.2.2.2.1, (v8.1.2.2.2.2.2.2.1, ((Go.IntKind.wrap .i64 (v8.1.2.2.2.2.2.2.2.1 + (1 : Int))), @Unit.unit)))), @Unit.unit))
       else
        (X ((v8.1.2.1, (v8.1.2.2.2.2.2.1, (v8.1.2.2.2.2.2.2.1, ((Go.IntKind.wrap .i64 (v8.1.2.2.2.2.2.2.2.1 + (1 : Int))), @Unit.unit)))), @Unit.unit))
   else
    bif (!(@BEq.beq Bool (@instBEqOfDecidableEq Bool @instDecidableEqBool) v8.1.2.2.1 @Bool.false)) then
     some ((.inl ((@Bool.false, @Unit.unit), @Unit.unit)))
    else
     bif (decide (v8.1.1 = (9 : Int))) then
      bif (@cond Bool @Bool.false @Bool.true (!(@BEq.beq Bool (@instBEqOfDecidableEq Bool @instDecidableEqBool) v8.1.2.2.2.1 (@cond Bool @Bool.true (!(decide (v8.1.2.1 = (9 : Int)))) @Bool.false)))) then
       some ((.inl ((@Bool.false, @Unit.unit), @Unit.unit)))
      else
       bif v8.1.2.2.2.2.1 then
        bif (@cond Bool @Bool.true (!(decide (v8.1.2.1 = (6 : Int)))) @Bool.false) then
         bif (@cond Bool @Bool.false @Bool.true (@cond Bool @Bool.true (!(decide (v8.1.2.1 = (8 : Int)))) @Bool.false)) then
          some ((.inl ((@Bool.false, @Unit.unit), @Unit.unit)))
         else
          (X ((v8.1.2.1, (v8.1.2.2.2.2.2.1, (v8.1.2.2.2.2.2.2.1, ((Go.IntKind.wrap .i64 (v8.1.2.2.2.2.2.2.2.1 + (1 : Int))), @Unit.unit)))), @Unit.unit))
        else
         (X ((v8.1.2.1, (v8.1.2.2.2.2.2.1, (v8.1.2.2.2.2.2.2.1, ((Go.IntKind.wrap .i64 (v8.1.2.2.2.2.2.2.2.1 + (1 : Int))), @Unit.unit)))), @Unit.unit))
       else
        (X ((v8.1.2.1, (v8.1.2.2.2.2.2.1, (v8.1.2.2.2.2.2.2.1, ((Go.IntKind.wrap .i64 (v8.1.2.2.2.2.2.2.2.1 + (1 : Int))), @Unit.unit)))), @Unit.unit))
     else
      bif (@cond Bool @Bool.false @Bool.true (!(@BEq.beq Bool (@instBEqOfDecidableEq Bool @instDecidableEqBool) v8.1.2.2.2.1 @Bool.false))) then
       some ((.inl ((@Bool.false, @Unit.unit), @Unit.unit)))
      else
       bif v8.1.2.2.2.2.1 then
        bif (@cond Bool @Bool.true (!(decide (v8.1.2.1 = (6 : Int)))) @Bool.false) then
         bif (@cond Bool @Bool.false @Bool.true (@cond Bool @Bool.true (!(decide (v8.1.2.1 = (8 : Int)))) @Bool.false)) then
          some ((.inl ((@Bool.false, @Unit.unit), @Unit.unit)))
         else
          (X ((v8.1.2.1, (v8.1.2.2.2.2.2.1, (v8.1.2.2.2.2.2.2.1, ((Go.IntKind.wrap .i64 (v8.1.2.2.2.2.2.2.2.1 + (1 : Int))), @Unit.unit)))), @Unit.unit))
        else
         (X ((v8.1.2.1, (v8.1.2.2.2.2.2.1, (v8.1.2.2.2.2.2.2.1, ((Go.IntKind.wrap .i64 (v8.1.2.2.2.2.2.2.2.1 + (1 : Int))), @Unit.unit)))), @Unit.unit))
       else
        (X ((v8.1.2.1, (v8.1.2.2.2.2.2.1, (v8.1.2.2.2.2.2.2.1, ((Go.IntKind.wrap .i64 (v8.1.2.2.2.2.2.2.2.1 + (1 : Int))), @Unit.unit)))), @Unit.unit))
 else
  some ((.inr (@Unit.unit, @Unit.unit)))
noncomputable def law23_FsmLayers_L5_R (N : Nat) (c : (((Int) × ((List (Int)) × ((Int) × ((Int) × Unit)))) × Unit)) : Option (((((Bool) × Unit) × Unit) ⊕ (Unit × Unit))) := gl (fun X c => law23_FsmLayers_L5 N X c.1.1 c.1.2.1 c.1.2.2.1 c.1.2.2.2.1) N c
theorem law23_FsmLayers_L5_S (N : Nat) (X : (((Int) × ((List (Int)) × ((Int) × ((Int) × Unit)))) × Unit) → Option (((((Bool) × Unit) × Unit) ⊕ (Unit × Unit)))) (x5 : Int) (x21 : List (Int)) (x22 : Int) (x23 : Int) : (roundK Go.Proofs.Try.prog (Ev31 N) 400 [7] law23_FsmLayers_L5_I (loopAt Go.Proofs.Try.prog [7] 5) X ((x5, x21, x22, x23, ()), ())).run = law23_FsmLayers_L5 N X x5 x21 x22 x23 := by kernel_rfl
noncomputable def Ev32 (N : Nat) : (R : Type) → Env R := Env.addLp (Ev31 N) [7] 0 5 (fun R => lpK Go.Proofs.Try.prog law23_FsmLayers_L5_I (fun X c => law23_FsmLayers_L5 N X c.1.1 c.1.2.1 c.1.2.2.1 c.1.2.2.2.1) N)
theorem Ev32_ok (N : Nat) (R : Type) : EnvOK Go.Proofs.Try.prog (Ev32 N R) := EnvOK.addLp (Ev31_ok N R) (by kernel_rfl) (lpK_ok (li := law23_FsmLayers_L5_I) (G := fun X c => law23_FsmLayers_L5 N X c.1.1 c.1.2.1 c.1.2.2.1 c.1.2.2.2.1) hmx (Ev31_ok N _) (by kernel_rfl) loopAt_sub (fun (X : CT law23_FsmLayers_L5_I.sh → Option (OT law23_FsmLayers_L5_I.outs)) (c : CT law23_FsmLayers_L5_I.sh) => law23_FsmLayers_L5_S N X c.1.1 c.1.2.1 c.1.2.2.1 c.1.2.2.2.1) N)
noncomputable def law23_FsmLayers (N : Nat) (s0 : Int) (l1 : List (Int)) : Option (Bool) :=
 bif (decide ((200 : Int) < (((List.length l1) : Nat) : Int))) then
  Option.bind (@law23_alive N) fun (v3 : Bool) =>
  some (v3)
 else
  Option.bind (law23_FsmLayers_L5_R N ((s0, (l1, ((((List.length l1) : Nat) : Int), ((0 : Int), @Unit.unit)))), @Unit.unit)) fun (v3 : (((Bool × Unit) × Unit) ⊕ (Unit × Unit))) =>
  Sum.elim
   (fun (v4 : ((Bool × Unit) × Unit)) =>
   some (v4.1.1))
   (fun (v4 : (Unit × Unit)) =>
   Option.bind (@law23_alive N) fun (v5 : Bool) =>
   some (v5)) v3
theorem law23_FsmLayers_S (N : Nat) (s0 : Int) (l1 : List (Int)) : (runK Go.Proofs.Try.prog (Ev32 N) 400 7 [(.int .i64), (.sl (.int .i64))] [.bool] (s0, l1, ())).run = law23_FsmLayers N s0 l1 := by kernel_rfl
theorem law23_FsmLayers_C (N : Nat) (s0 : Int) (l1 : List (Int)) (y : Bool) (h : law23_FsmLayers N s0 l1 = some y) : CallsK Go.Proofs.Try.prog 7 (valA [(.int .i64), (.sl (.int .i64))] (s0, l1, ())) (tupV (valR [.bool] y)) := runK_ok hmx (Ev32_ok N _) (okFn_ok (by kernel_rfl)) (by rw [law23_FsmLayers_S]; exact h)
noncomputable def Ev33 (N : Nat) : (R : Type) → Env R := Env.addFn (Ev32 N) 7 (fun R => fnK [(.int .i64), (.sl (.int .i64))] [.bool] (fun c => law23_FsmLayers N c.1 c.2.1))
theorem Ev33_ok (N : Nat) (R : Type) : EnvOK Go.Proofs.Try.prog (Ev33 N R) := EnvOK.addFn hmx (Ev32_ok N R) (Ev32_ok N _) (by kernel_rfl) (fun c => law23_FsmLayers_S N c.1 c.2.1)
noncomputable def law23_FsmCloses_L5_I : LI := ⟨77, 0, [(5, 56)], ⟨[(0, .ty (.int .i64)), (5, .lit (.own 0)), (21, .ty (.sl (.int .i64))), (22, .ty (.int .i64)), (23, .ty (.int .i64))], [.own (.int .i64) 56]⟩, [(.exit 0, ⟨[(0, .ty (.int .i64)), (5, .lit (.own 0))], [.own (.int .i64) 56]⟩)]⟩
noncomputable def law23_FsmCloses_L5 (N : Nat) (X : (((Int) × ((List (Int)) × ((Int) × ((Int) × Unit)))) × ((List (Int)) × Unit)) → Option ((((Int) × Unit) × ((List (Int)) × Unit)))) (s0 : Int) (x21 : List (Int)) (x22 : Int) (x23 : Int) (h0 : List (Int)) : Option ((((Int) × Unit) × ((List (Int)) × Unit))) :=
 bif (decide (x23 < x22)) then
  Option.bind (getI x21 x23) fun (v7 : Int) =>
  bif (roomB ((List.length h0) + (List.length ([v7] : List (Int)))) 8) then
   (X ((s0, (x21, (x22, ((Go.IntKind.wrap .i64 (x23 + (1 : Int))), @Unit.unit)))), ((h0 ++ ([v7] : List (Int))), @Unit.unit)))
  else
   none
 else
  some (((s0, @Unit.unit), (h0, @Unit.unit)))
noncomputable def law23_FsmCloses_L5_R (N : Nat) (c : (((Int) × ((List (Int)) × ((Int) × ((Int) × Unit)))) × ((List (Int)) × Unit))) : Option ((((Int) × Unit) × ((List (Int)) × Unit))) := gl (fun X c => law23_FsmCloses_L5 N X c.1.1 c.1.2.1 c.1.2.2.1 c.1.2.2.2.1 c.2.1) N c
theorem law23_FsmCloses_L5_S (N : Nat) (X : (((Int) × ((List (Int)) × ((Int) × ((Int) × Unit)))) × ((List (Int)) × Unit)) → Option ((((Int) × Unit) × ((List (Int)) × Unit)))) (s0 : Int) (x21 : List (Int)) (x22 : Int) (x23 : Int) (h0 : List (Int)) : (roundK Go.Proofs.Try.prog (Ev33 N) 400 [8] law23_FsmCloses_L5_I (loopAt Go.Proofs.Try.prog [8] 5) X ((s0, x21, x22, x23, ()), (h0, ()))).run = law23_FsmCloses_L5 N X s0 x21 x22 x23 h0 := by kernel_rfl
noncomputable def Ev34 (N : Nat) : (R : Type) → Env R := Env.addLp (Ev33 N) [8] 0 5 (fun R => lpK Go.Proofs.Try.prog law23_FsmCloses_L5_I (fun X c => law23_FsmCloses_L5 N X c.1.1 c.1.2.1 c.1.2.2.1 c.1.2.2.2.1 c.2.1) N)
theorem Ev34_ok (N : Nat) (R : Type) : EnvOK Go.Proofs.Try.prog (Ev34 N R) := EnvOK.addLp (Ev33_ok N R) (by kernel_rfl) (lpK_ok (li := law23_FsmCloses_L5_I) (G := fun X c => law23_FsmCloses_L5 N X c.1.1 c.1.2.1 c.1.2.2.1 c.1.2.2.2.1 c.2.1) hmx (Ev33_ok N _) (by kernel_rfl) loopAt_sub (fun (X : CT law23_FsmCloses_L5_I.sh → Option (OT law23_FsmCloses_L5_I.outs)) (c : CT law23_FsmCloses_L5_I.sh) => law23_FsmCloses_L5_S N X c.1.1 c.1.2.1 c.1.2.2.1 c.1.2.2.2.1 c.2.1) N)
noncomputable def law23_FsmCloses (N : Nat) (s0 : Int) (l1 : List (Int)) : Option (Bool) :=
 bif (decide ((200 : Int) < (((List.length l1) : Nat) : Int))) then
  Option.bind (@law23_alive N) fun (v3 : Bool) =>
  some (v3)
 else
  Option.bind (law23_FsmCloses_L5_R N ((s0, (l1, ((((List.length l1) : Nat) : Int), ((0 : Int), @Unit.unit)))), (([] : List (Int)), @Unit.unit))) fun (v3 : ((Int × Unit) × ((List Int) × Unit))) =>
  Option.bind (@fsm_Run N v3.1.1 v3.2.1) fun (v4 : (Int × ((List Int) × Int))) =>
  Option.bind (@fsm_Next N v4.1 (3 : Int)) fun (v5 : (Int × ((List Int) × Int))) =>
  Option.bind (@fsm_Next N v5.1 (5 : Int)) fun (v6 : (Int × ((List Int) × Int))) =>
  bif (decide (v6.2.2 = (0 : Int))) then
   bif (decide (v5.2.2 = (0 : Int))) then
    bif (decide (v6.1 = (0 : Int))) then
     Option.bind (@fsm_Timed N v6.1) fun (v7 : Bool) =>
     bif (@cond Bool @Bool.true (!v7) @Bool.false) then
      Option.bind (@fsm_Reaches N v4.1 v6.1) fun (v8 : Bool) =>
      bif (@cond Bool @Bool.true v8 @Bool.false) then
       Option.bind (@law23_alive N) fun (v9 : Bool) =>
       some ((@cond Bool @Bool.true v9 @Bool.false))
      else
       some (@Bool.false)
     else
      some (@Bool.false)
    else
     bif (@cond Bool @Bool.true (@cond Bool @Bool.false @Bool.true (decide (v6.1 = (2 : Int)))) @Bool.false) then
      Option.bind (@fsm_Timed N v6.1) fun (v7 : Bool) =>
      bif (@cond Bool @Bool.true (!v7) @Bool.false) then
       Option.bind (@fsm_Reaches N v4.1 v6.1) fun (v8 : Bool) =>
       bif (@cond Bool @Bool.true v8 @Bool.false) then
        Option.bind (@law23_alive N) fun (v9 : Bool) =>
        some ((@cond Bool @Bool.true v9 @Bool.false))
       else
        some (@Bool.false)
      else
       some (@Bool.false)
     else
      some (@Bool.false)
   else
    some (@Bool.false)
  else
   bif (decide (v5.2.2 = (0 : Int))) then
    bif (decide (v5.1 = (0 : Int))) then
     Option.bind (@fsm_Timed N v5.1) fun (v7 : Bool) =>
     bif (@cond Bool @Bool.true (!v7) @Bool.false) then
      Option.bind (@fsm_Reaches N v4.1 v5.1) fun (v8 : Bool) =>
      bif (@cond Bool @Bool.true v8 @Bool.false) then
       Option.bind (@law23_alive N) fun (v9 : Bool) =>
       some ((@cond Bool @Bool.true v9 @Bool.false))
      else
       some (@Bool.false)
     else
      some (@Bool.false)
    else
     bif (@cond Bool @Bool.true (@cond Bool @Bool.false @Bool.true (decide (v5.1 = (2 : Int)))) @Bool.false) then
      Option.bind (@fsm_Timed N v5.1) fun (v7 : Bool) =>
      bif (@cond Bool @Bool.true (!v7) @Bool.false) then
       Option.bind (@fsm_Reaches N v4.1 v5.1) fun (v8 : Bool) =>
       bif (@cond Bool @Bool.true v8 @Bool.false) then
        Option.bind (@law23_alive N) fun (v9 : Bool) =>
        some ((@cond Bool @Bool.true v9 @Bool.false))
       else
        some (@Bool.false)
      else
       some (@Bool.false)
     else
      some (@Bool.false)
   else
    some (@Bool.false)
theorem law23_FsmCloses_S (N : Nat) (s0 : Int) (l1 : List (Int)) : (runK Go.Proofs.Try.prog (Ev34 N) 400 8 [(.int .i64), (.sl (.int .i64))] [.bool] (s0, l1, ())).run = law23_FsmCloses N s0 l1 := by kernel_rfl
theorem law23_FsmCloses_C (N : Nat) (s0 : Int) (l1 : List (Int)) (y : Bool) (h : law23_FsmCloses N s0 l1 = some y) : CallsK Go.Proofs.Try.prog 8 (valA [(.int .i64), (.sl (.int .i64))] (s0, l1, ())) (tupV (valR [.bool] y)) := runK_ok hmx (Ev34_ok N _) (okFn_ok (by kernel_rfl)) (by rw [law23_FsmCloses_S]; exact h)
noncomputable def Ev35 (N : Nat) : (R : Type) → Env R := Env.addFn (Ev34 N) 8 (fun R => fnK [(.int .i64), (.sl (.int .i64))] [.bool] (fun c => law23_FsmCloses N c.1 c.2.1))
theorem Ev35_ok (N : Nat) (R : Type) : EnvOK Go.Proofs.Try.prog (Ev35 N R) := EnvOK.addFn hmx (Ev34_ok N R) (Ev34_ok N _) (by kernel_rfl) (fun c => law23_FsmCloses_S N c.1 c.2.1)
end Go.Proofs.Ytpdmmjbgidjhdaa
