/-
  Parts of my own, one behind the other: GNgB, GNg, QNC0, QNC1, QNC2, QNL0, QNL1, QNL2, QNL3, QNL4, QNg1, QNg2, QNg3.
-/
import Derived.Test.YtjomcoignnlghaaMrg4
namespace Go.Proofs.Ytjomcoignnlghaa
open Go.RowKit
set_option linter.unusedVariables false
set_option maxRecDepth 100000
section
variable (N : Nat)
noncomputable def fsm_answers (e0 : Int) : Option (Arr (Bool × (Int × (List Int))) 10) :=
 bif (decide (e0 = (8 : Int))) then
  some ((@Arr.cons (Bool × (Int × (List Int))) (9 : Nat) (false, ((0 : Int), ([] : List Int))) (@Arr.cons (Bool × (Int × (List Int))) (8 : Nat) (false, ((0 : Int), ([] : List Int))) (@Arr.cons (Bool × (Int × (List Int))) (7 : Nat) (true, ((2 : Int), ([11] : List Int))) (@Arr.cons (Bool × (Int × (List Int))) (6 : Nat) (true, ((3 : Int), ([11] : List Int))) (@Arr.cons (Bool × (Int × (List Int))) (5 : Nat) (true, ((4 : Int), ([] : List Int))) (@Arr.cons (Bool × (Int × (List Int))) (4 : Nat) (true, ((5 : Int), ([] : List Int))) (@Arr.cons (Bool × (Int × (List Int))) (3 : Nat) (true, ((7 : Int), ([5] : List Int))) (@Arr.cons (Bool × (Int × (List Int))) (2 : Nat) (true, ((6 : Int), ([7] : List Int))) (@Arr.cons (Bool × (Int × (List Int))) (1 : Nat) (true, ((9 : Int), ([5, 1] : List Int))) (@Arr.cons (Bool × (Int × (List Int))) (0 : Nat) (true, ((6 : Int), ([2, 7] : List Int))) (@Arr.nil (Bool × (Int × (List Int)))))))))))))))
 else
  bif (decide (e0 = (9 : Int))) then
   some ((@Arr.cons (Bool × (Int × (List Int))) (9 : Nat) (false, ((0 : Int), ([] : List Int))) (@Arr.cons (Bool × (Int × (List Int))) (8 : Nat) (false, ((0 : Int), ([] : List Int))) (@Arr.cons (Bool × (Int × (List Int))) (7 : Nat) (true, ((2 : Int), ([11] : List Int))) (@Arr.cons (Bool × (Int × (List Int))) (6 : Nat) (true, ((3 : Int), ([11] : List Int))) (@Arr.cons (Bool × (Int × (List Int))) (5 : Nat) (true, ((4 : Int), ([] : List Int))) (@Arr.cons (Bool × (Int × (List Int))) (4 : Nat) (true, ((5 : Int), ([] : List Int))) (@Arr.cons (Bool × (Int × (List Int))) (3 : Nat) (true, ((6 : Int), ([5, 7] : List Int))) (@Arr.cons (Bool × (Int × (List Int))) (2 : Nat) (true, ((6 : Int), ([7] : List Int))) (@Arr.cons (Bool × (Int × (List Int))) (1 : Nat) (true, ((8 : Int), ([5, 7] : List Int))) (@Arr.cons (Bool × (Int × (List Int))) (0 : Nat) (true, ((6 : Int), ([2, 7] : List Int))) (@Arr.nil (Bool × (Int × (List Int)))))))))))))))
  else
   bif (decide (e0 = (10 : Int))) then
    some ((@Arr.cons (Bool × (Int × (List Int))) (9 : Nat) (false, ((0 : Int), ([] : List Int))) (@Arr.cons (Bool × (Int × (List Int))) (8 : Nat) (false, ((0 : Int), ([] : List Int))) (@Arr.cons (Bool × (Int × (List Int))) (7 : Nat) (true, ((2 : Int), ([11] : List Int))) (@Arr.cons (Bool × (Int × (List Int))) (6 : Nat) (true, ((3 : Int), ([11] : List Int))) (@Arr.cons (Bool × (Int × (List Int))) (5 : Nat) (true, ((4 : Int), ([11] : List Int))) (@Arr.cons (Bool × (Int × (List Int))) (4 : Nat) (true, ((5 : Int), ([11] : List Int))) (@Arr.cons (Bool × (Int × (List Int))) (3 : Nat) (true, ((6 : Int), ([11] : List Int))) (@Arr.cons (Bool × (Int × (List Int))) (2 : Nat) (true, ((6 : Int), ([11] : List Int))) (@Arr.cons (Bool × (Int × (List Int))) (1 : Nat) (true, ((6 : Int), ([11] : List Int))) (@Arr.cons (Bool × (Int × (List Int))) (0 : Nat) (true, ((5 : Int), ([2, 6, 11] : List Int))) (@Arr.nil (Bool × (Int × (List Int)))))))))))))))
   else
    bif (decide (e0 = (11 : Int))) then
     some ((@Arr.cons (Bool × (Int × (List Int))) (9 : Nat) (false, ((0 : Int), ([] : List Int))) (@Arr.cons (Bool × (Int × (List Int))) (8 : Nat) (false, ((0 : Int), ([] : List Int))) (@Arr.cons (Bool × (Int × (List Int))) (7 : Nat) (true, ((2 : Int), ([] : List Int))) (@Arr.cons (Bool × (Int × (List Int))) (6 : Nat) (true, ((3 : Int), ([] : List Int))) (@Arr.cons (Bool × (Int × (List Int))) (5 : Nat) (true, ((2 : Int), ([4] : List Int))) (@Arr.cons (Bool × (Int × (List Int))) (4 : Nat) (true, ((3 : Int), ([4] : List Int))) (@Arr.cons (Bool × (Int × (List Int))) (3 : Nat) (true, ((6 : Int), ([] : List Int))) (@Arr.cons (Bool × (Int × (List Int))) (2 : Nat) (true, ((6 : Int), ([] : List Int))) (@Arr.cons (Bool × (Int × (List Int))) (1 : Nat) (true, ((8 : Int), ([] : List Int))) (@Arr.cons (Bool × (Int × (List Int))) (0 : Nat) (true, ((6 : Int), ([2, 7] : List Int))) (@Arr.nil (Bool × (Int × (List Int)))))))))))))))
    else
     bif (decide (e0 = (12 : Int))) then
      Option.bind (fsm_same N ([12] : List Int)) fun v2 =>
      some (v2)
     else
      bif (decide (e0 = (13 : Int))) then
       some ((@Arr.cons (Bool × (Int × (List Int))) (9 : Nat) (false, ((0 : Int), ([] : List Int))) (@Arr.cons (Bool × (Int × (List Int))) (8 : Nat) (false, ((0 : Int), ([] : List Int))) (@Arr.cons (Bool × (Int × (List Int))) (7 : Nat) (true, ((2 : Int), ([] : List Int))) (@Arr.cons (Bool × (Int × (List Int))) (6 : Nat) (true, ((3 : Int), ([] : List Int))) (@Arr.cons (Bool × (Int × (List Int))) (5 : Nat) (true, ((4 : Int), ([] : List Int))) (@Arr.cons (Bool × (Int × (List Int))) (4 : Nat) (true, ((5 : Int), ([] : List Int))) (@Arr.cons (Bool × (Int × (List Int))) (3 : Nat) (true, ((6 : Int), ([] : List Int))) (@Arr.cons (Bool × (Int × (List Int))) (2 : Nat) (true, ((6 : Int), ([] : List Int))) (@Arr.cons (Bool × (Int × (List Int))) (1 : Nat) (true, ((8 : Int), ([] : List Int))) (@Arr.cons (Bool × (Int × (List Int))) (0 : Nat) (true, ((9 : Int), ([] : List Int))) (@Arr.nil (Bool × (Int × (List Int)))))))))))))))
      else
       bif (decide (e0 = (14 : Int))) then
        some ((@Arr.cons (Bool × (Int × (List Int))) (9 : Nat) (false, ((0 : Int), ([] : List Int))) (@Arr.cons (Bool × (Int × (List Int))) (8 : Nat) (false, ((0 : Int), ([] : List Int))) (@Arr.cons (Bool × (Int × (List Int))) (7 : Nat) (true, ((2 : Int), ([4] : List Int))) (@Arr.cons (Bool × (Int × (List Int))) (6 : Nat) (true, ((3 : Int), ([4] : List Int))) (@Arr.cons (Bool × (Int × (List Int))) (5 : Nat) (true, ((2 : Int), ([4] : List Int))) (@Arr.cons (Bool × (Int × (List Int))) (4 : Nat) (true, ((3 : Int), ([4] : List Int))) (@Arr.cons (Bool × (Int × (List Int))) (3 : Nat) (true, ((3 : Int), ([4] : List Int))) (@Arr.cons (Bool × (Int × (List Int))) (2 : Nat) (true, ((3 : Int), ([4] : List Int))) (@Arr.cons (Bool × (Int × (List Int))) (1 : Nat) (true, ((3 : Int), ([4] : List Int))) (@Arr.cons (Bool × (Int × (List Int))) (0 : Nat) (true, ((5 : Int), ([2, 5, 10] : List Int))) (@Arr.nil (Bool × (Int × (List Int)))))))))))))))
       else
        bif (decide (e0 = (15 : Int))) then
         Option.bind (fsm_same N ([] : List Int)) fun v2 =>
         Option.bind (@GetElem?.getElem? (List (Bool × (Int × (List Int)))) Nat (Bool × (Int × (List Int))) (fun (as3 : (List (Bool × (Int × (List Int))))) => (fun (i4 : Nat) => (@LT.lt Nat @instLTNat i4 (List.length as3)))) (@List.instGetElem?NatLtLength (Bool × (Int × (List Int)))) v2.l (Int.toNat (9 : Int))) fun (v3 : (Bool × (Int × (List Int)))) =>
         some ((v2.set (Int.toNat (9 : Int)) (true, ((9 : Int), ([13] : List Int)))))
        else
         some ((@Arr.cons (Bool × (Int × (List Int))) (9 : Nat) (false, ((0 : Int), ([] : List Int))) (@Arr.cons (Bool × (Int × (List Int))) (8 : Nat) (false, ((0 : Int), ([] : List Int))) (@Arr.cons (Bool × (Int × (List Int))) (7 : Nat) (false, ((0 : Int), ([] : List Int))) (@Arr.cons (Bool × (Int × (List Int))) (6 : Nat) (false, ((0 : Int), ([] : List Int))) (@Arr.cons (Bool × (Int × (List Int))) (5 : Nat) (false, ((0 : Int), ([] : List Int))) (@Arr.cons (Bool × (Int × (List Int))) (4 : Nat) (false, ((0 : Int), ([] : List Int))) (@Arr.cons (Bool × (Int × (List Int))) (3 : Nat) (false, ((0 : Int), ([] : List Int))) (@Arr.cons (Bool × (Int × (List Int))) (2 : Nat) (false, ((0 : Int), ([] : List Int))) (@Arr.cons (Bool × (Int × (List Int))) (1 : Nat) (false, ((0 : Int), ([] : List Int))) (@Arr.cons (Bool × (Int × (List Int))) (0 : Nat) (false, ((0 : Int), ([] : List Int))) (@Arr.nil (Bool × (Int × (List Int)))))))))))))))
theorem fsm_answers_S (e0 : Int) : (runK Try.prog (Ev76 N) 400 79 [(.int .i64)] [(.arr 10 (.pair .bool (.pair (.int .i64) (.sl (.int .i64)))))] (e0, ())).run = fsm_answers N e0 := by kernel_rfl
noncomputable def Ev77 : (R : Type) → Env R := Env.addFn (Ev76 N) 79 (fun R => fnK [(.int .i64)] [(.arr 10 (.pair .bool (.pair (.int .i64) (.sl (.int .i64)))))] (fun c => fsm_answers N c.1))
theorem Ev77_ok (R : Type) : EnvOK Try.prog (Ev77 N R) := EnvOK.addFn hmx (Ev76_ok N R) (Ev76_ok N _) (by kernel_rfl) (fun c => fsm_answers_S N c.1)
noncomputable def fsm_row (e0 : Int) : Option (Arr (Bool × (Int × (List Int))) 10) :=
 bif (decide (e0 = (0 : Int))) then
  some ((@Arr.cons (Bool × (Int × (List Int))) (9 : Nat) (true, ((2 : Int), ([] : List Int))) (@Arr.cons (Bool × (Int × (List Int))) (8 : Nat) (true, ((6 : Int), ([5, 7] : List Int))) (@Arr.cons (Bool × (Int × (List Int))) (7 : Nat) (false, ((0 : Int), ([] : List Int))) (@Arr.cons (Bool × (Int × (List Int))) (6 : Nat) (false, ((0 : Int), ([] : List Int))) (@Arr.cons (Bool × (Int × (List Int))) (5 : Nat) (false, ((0 : Int), ([] : List Int))) (@Arr.cons (Bool × (Int × (List Int))) (4 : Nat) (false, ((0 : Int), ([] : List Int))) (@Arr.cons (Bool × (Int × (List Int))) (3 : Nat) (false, ((0 : Int), ([] : List Int))) (@Arr.cons (Bool × (Int × (List Int))) (2 : Nat) (false, ((0 : Int), ([] : List Int))) (@Arr.cons (Bool × (Int × (List Int))) (1 : Nat) (false, ((0 : Int), ([] : List Int))) (@Arr.cons (Bool × (Int × (List Int))) (0 : Nat) (false, ((0 : Int), ([] : List Int))) (@Arr.nil (Bool × (Int × (List Int)))))))))))))))
 else
  bif (decide (e0 = (1 : Int))) then
   some ((@Arr.cons (Bool × (Int × (List Int))) (9 : Nat) (false, ((0 : Int), ([] : List Int))) (@Arr.cons (Bool × (Int × (List Int))) (8 : Nat) (false, ((0 : Int), ([] : List Int))) (@Arr.cons (Bool × (Int × (List Int))) (7 : Nat) (true, ((0 : Int), ([] : List Int))) (@Arr.cons (Bool × (Int × (List Int))) (6 : Nat) (true, ((1 : Int), ([3] : List Int))) (@Arr.cons (Bool × (Int × (List Int))) (5 : Nat) (true, ((0 : Int), ([] : List Int))) (@Arr.cons (Bool × (Int × (List Int))) (4 : Nat) (true, ((1 : Int), ([] : List Int))) (@Arr.cons (Bool × (Int × (List Int))) (3 : Nat) (true, ((1 : Int), ([] : List Int))) (@Arr.cons (Bool × (Int × (List Int))) (2 : Nat) (true, ((1 : Int), ([] : List Int))) (@Arr.cons (Bool × (Int × (List Int))) (1 : Nat) (true, ((1 : Int), ([] : List Int))) (@Arr.cons (Bool × (Int × (List Int))) (0 : Nat) (true, ((1 : Int), ([2] : List Int))) (@Arr.nil (Bool × (Int × (List Int)))))))))))))))
  else
   bif (decide (e0 = (2 : Int))) then
    some ((@Arr.cons (Bool × (Int × (List Int))) (9 : Nat) (true, ((1 : Int), ([3] : List Int))) (@Arr.cons (Bool × (Int × (List Int))) (8 : Nat) (true, ((1 : Int), ([] : List Int))) (@Arr.cons (Bool × (Int × (List Int))) (7 : Nat) (true, ((6 : Int), ([5, 7] : List Int))) (@Arr.cons (Bool × (Int × (List Int))) (6 : Nat) (true, ((3 : Int), ([] : List Int))) (@Arr.cons (Bool × (Int × (List Int))) (5 : Nat) (true, ((5 : Int), ([] : List Int))) (@Arr.cons (Bool × (Int × (List Int))) (4 : Nat) (true, ((5 : Int), ([] : List Int))) (@Arr.cons (Bool × (Int × (List Int))) (3 : Nat) (true, ((6 : Int), ([] : List Int))) (@Arr.cons (Bool × (Int × (List Int))) (2 : Nat) (true, ((7 : Int), ([] : List Int))) (@Arr.cons (Bool × (Int × (List Int))) (1 : Nat) (true, ((8 : Int), ([] : List Int))) (@Arr.cons (Bool × (Int × (List Int))) (0 : Nat) (true, ((9 : Int), ([] : List Int))) (@Arr.nil (Bool × (Int × (List Int)))))))))))))))
   else
    bif (decide (e0 = (3 : Int))) then
     some ((@Arr.cons (Bool × (Int × (List Int))) (9 : Nat) (true, ((0 : Int), ([] : List Int))) (@Arr.cons (Bool × (Int × (List Int))) (8 : Nat) (true, ((0 : Int), ([4] : List Int))) (@Arr.cons (Bool × (Int × (List Int))) (7 : Nat) (true, ((2 : Int), ([] : List Int))) (@Arr.cons (Bool × (Int × (List Int))) (6 : Nat) (true, ((2 : Int), ([] : List Int))) (@Arr.cons (Bool × (Int × (List Int))) (5 : Nat) (true, ((4 : Int), ([] : List Int))) (@Arr.cons (Bool × (Int × (List Int))) (4 : Nat) (true, ((4 : Int), ([] : List Int))) (@Arr.cons (Bool × (Int × (List Int))) (3 : Nat) (true, ((4 : Int), ([5, 10] : List Int))) (@Arr.cons (Bool × (Int × (List Int))) (2 : Nat) (true, ((4 : Int), ([5, 10] : List Int))) (@Arr.cons (Bool × (Int × (List Int))) (1 : Nat) (true, ((4 : Int), ([5, 10] : List Int))) (@Arr.cons (Bool × (Int × (List Int))) (0 : Nat) (true, ((4 : Int), ([2, 5, 10] : List Int))) (@Arr.nil (Bool × (Int × (List Int)))))))))))))))
    else
     bif (decide (e0 = (4 : Int))) then
      some ((@Arr.cons (Bool × (Int × (List Int))) (9 : Nat) (false, ((0 : Int), ([] : List Int))) (@Arr.cons (Bool × (Int × (List Int))) (8 : Nat) (false, ((0 : Int), ([] : List Int))) (@Arr.cons (Bool × (Int × (List Int))) (7 : Nat) (false, ((0 : Int), ([] : List Int))) (@Arr.cons (Bool × (Int × (List Int))) (6 : Nat) (false, ((0 : Int), ([] : List Int))) (@Arr.cons (Bool × (Int × (List Int))) (5 : Nat) (true, ((4 : Int), ([10] : List Int))) (@Arr.cons (Bool × (Int × (List Int))) (4 : Nat) (true, ((5 : Int), ([10] : List Int))) (@Arr.cons (Bool × (Int × (List Int))) (3 : Nat) (true, ((6 : Int), ([7] : List Int))) (@Arr.cons (Bool × (Int × (List Int))) (2 : Nat) (true, ((6 : Int), ([7] : List Int))) (@Arr.cons (Bool × (Int × (List Int))) (1 : Nat) (true, ((8 : Int), ([7] : List Int))) (@Arr.cons (Bool × (Int × (List Int))) (0 : Nat) (false, ((0 : Int), ([] : List Int))) (@Arr.nil (Bool × (Int × (List Int)))))))))))))))
     else
      bif (decide (e0 = (5 : Int))) then
       some ((@Arr.cons (Bool × (Int × (List Int))) (9 : Nat) (false, ((0 : Int), ([] : List Int))) (@Arr.cons (Bool × (Int × (List Int))) (8 : Nat) (false, ((0 : Int), ([] : List Int))) (@Arr.cons (Bool × (Int × (List Int))) (7 : Nat) (false, ((0 : Int), ([] : List Int))) (@Arr.cons (Bool × (Int × (List Int))) (6 : Nat) (false, ((0 : Int), ([] : List Int))) (@Arr.cons (Bool × (Int × (List Int))) (5 : Nat) (true, ((2 : Int), ([4] : List Int))) (@Arr.cons (Bool × (Int × (List Int))) (4 : Nat) (true, ((3 : Int), ([4] : List Int))) (@Arr.cons (Bool × (Int × (List Int))) (3 : Nat) (true, ((3 : Int), ([4] : List Int))) (@Arr.cons (Bool × (Int × (List Int))) (2 : Nat) (true, ((3 : Int), ([4] : List Int))) (@Arr.cons (Bool × (Int × (List Int))) (1 : Nat) (true, ((3 : Int), ([4] : List Int))) (@Arr.cons (Bool × (Int × (List Int))) (0 : Nat) (false, ((0 : Int), ([] : List Int))) (@Arr.nil (Bool × (Int × (List Int)))))))))))))))
      else
       bif (decide (e0 = (6 : Int))) then
        some ((@Arr.cons (Bool × (Int × (List Int))) (9 : Nat) (false, ((0 : Int), ([] : List Int))) (@Arr.cons (Bool × (Int × (List Int))) (8 : Nat) (false, ((0 : Int), ([] : List Int))) (@Arr.cons (Bool × (Int × (List Int))) (7 : Nat) (true, ((2 : Int), ([11] : List Int))) (@Arr.cons (Bool × (Int × (List Int))) (6 : Nat) (true, ((8 : Int), ([5, 7, 8] : List Int))) (@Arr.cons (Bool × (Int × (List Int))) (5 : Nat) (true, ((4 : Int), ([] : List Int))) (@Arr.cons (Bool × (Int × (List Int))) (4 : Nat) (true, ((5 : Int), ([] : List Int))) (@Arr.cons (Bool × (Int × (List Int))) (3 : Nat) (true, ((8 : Int), ([8] : List Int))) (@Arr.cons (Bool × (Int × (List Int))) (2 : Nat) (true, ((9 : Int), ([8, 1] : List Int))) (@Arr.cons (Bool × (Int × (List Int))) (1 : Nat) (true, ((8 : Int), ([8] : List Int))) (@Arr.cons (Bool × (Int × (List Int))) (0 : Nat) (true, ((8 : Int), ([2, 7, 8] : List Int))) (@Arr.nil (Bool × (Int × (List Int)))))))))))))))
       else
        bif (decide (e0 = (7 : Int))) then
         some ((@Arr.cons (Bool × (Int × (List Int))) (9 : Nat) (false, ((0 : Int), ([] : List Int))) (@Arr.cons (Bool × (Int × (List Int))) (8 : Nat) (false, ((0 : Int), ([] : List Int))) (@Arr.cons (Bool × (Int × (List Int))) (7 : Nat) (true, ((2 : Int), ([11] : List Int))) (@Arr.cons (Bool × (Int × (List Int))) (6 : Nat) (true, ((6 : Int), ([5, 7, 9] : List Int))) (@Arr.cons (Bool × (Int × (List Int))) (5 : Nat) (true, ((4 : Int), ([] : List Int))) (@Arr.cons (Bool × (Int × (List Int))) (4 : Nat) (true, ((5 : Int), ([] : List Int))) (@Arr.cons (Bool × (Int × (List Int))) (3 : Nat) (true, ((6 : Int), ([9] : List Int))) (@Arr.cons (Bool × (Int × (List Int))) (2 : Nat) (true, ((7 : Int), ([9] : List Int))) (@Arr.cons (Bool × (Int × (List Int))) (1 : Nat) (true, ((6 : Int), ([9] : List Int))) (@Arr.cons (Bool × (Int × (List Int))) (0 : Nat) (true, ((6 : Int), ([2, 7, 9] : List Int))) (@Arr.nil (Bool × (Int × (List Int)))))))))))))))
        else
         Option.bind (fsm_answers N e0) fun v2 =>
         some (v2)
theorem fsm_row_S (e0 : Int) : (runK Try.prog (Ev77 N) 400 61 [(.int .i64)] [(.arr 10 (.pair .bool (.pair (.int .i64) (.sl (.int .i64)))))] (e0, ())).run = fsm_row N e0 := by kernel_rfl
noncomputable def Ev78 : (R : Type) → Env R := Env.addFn (Ev77 N) 61 (fun R => fnK [(.int .i64)] [(.arr 10 (.pair .bool (.pair (.int .i64) (.sl (.int .i64)))))] (fun c => fsm_row N c.1))
theorem Ev78_ok (R : Type) : EnvOK Try.prog (Ev78 N R) := EnvOK.addFn hmx (Ev77_ok N R) (Ev77_ok N _) (by kernel_rfl) (fun c => fsm_row_S N c.1)
noncomputable def slices_Clone_fsm_Action_fsm_Action_ne (N : Nat) (s0 : List (Int)) : Option (List Int) :=
 bif (@List.isEmpty Int s0) then
  none
 else
  bif (roomB (List.length s0) 8) then
   some (s0)
  else
   none
theorem slices_Clone_fsm_Action_fsm_Action_ne_S (s0 : List (Int)) : (runK Try.prog (Ev78 N) 400 62 [(.sl (.int .i64))] [(.sl (.int .i64))] (s0, ())).run = slices_Clone_fsm_Action_fsm_Action_ne N s0 := by kernel_rfl
theorem slices_Clone_fsm_Action_fsm_Action_n1 (c : Nat) : (runV Try.prog (Ev78 N) 400 62 [.c (.slice none 0 c)] [(.sl (.int .i64))]).run = some [] := by kernel_rfl
theorem slices_Clone_fsm_Action_fsm_Action_n2 (A : Addr) (c : Nat) : (runV Try.prog (Ev78 N) 400 62 [.c (.slice (some A) 0 c)] [(.sl (.int .i64))]).run = some [] := by kernel_rfl
noncomputable def slices_Clone_fsm_Action_fsm_Action (s0 : List (Int)) : Option (List Int) := bif s0.isEmpty then some [] else slices_Clone_fsm_Action_fsm_Action_ne N s0
noncomputable def Ev79 : (R : Type) → Env R := Env.addFn (Ev78 N) 62 (fun R => fnK [(.sl (.int .i64))] [(.sl (.int .i64))] (fun c => slices_Clone_fsm_Action_fsm_Action N c.1))
theorem Ev79_ok (R : Type) : EnvOK Try.prog (Ev79 N R) := EnvOK.addNil hmx (Ev78_ok N R) (Ev78_ok N _) (by kernel_rfl) (fun c => slices_Clone_fsm_Action_fsm_Action_ne_S N c.1) (slices_Clone_fsm_Action_fsm_Action_n1 N) (slices_Clone_fsm_Action_fsm_Action_n2 N)
noncomputable def fsm_Next (s0 : Int) (e1 : Int) : Option (Int × (List Int) × Int) :=
 Option.bind (fsm_isState N s0) fun v3 =>
 Option.bind (bif (!v3) then
   some (true)
  else
   some ((cond false true (decide (e1 < (0 : Int)))))) fun (v4 : Bool) =>
 Option.bind (bif v4 then
   some (true)
  else
   some ((cond false true (decide ((15 : Int) < e1))))) fun (v5 : Bool) =>
 bif v5 then
  some (((0 : Int), (([] : List Int), (1 : Int))))
 else
  Option.bind (fsm_row N e1) fun v6 =>
  Option.bind (getI v6.l s0) fun (v7 : (Bool × (Int × (List Int)))) =>
  bif (!v7.1) then
   some (((0 : Int), (([] : List Int), (11 : Int))))
  else
   Option.bind (slices_Clone_fsm_Action_fsm_Action N v7.2.2) fun v8 =>
   some ((v7.2.1, (v8, (0 : Int))))
theorem fsm_Next_S (s0 : Int) (e1 : Int) : (runK Try.prog (Ev79 N) 400 37 [(.int .i64), (.int .i64)] [(.int .i64), (.sl (.int .i64)), (.int .i64)] (s0, e1, ())).run = fsm_Next N s0 e1 := by kernel_rfl
noncomputable def Ev80 : (R : Type) → Env R := Env.addFn (Ev79 N) 37 (fun R => fnK [(.int .i64), (.int .i64)] [(.int .i64), (.sl (.int .i64)), (.int .i64)] (fun c => fsm_Next N c.1 c.2.1))
theorem Ev80_ok (R : Type) : EnvOK Try.prog (Ev80 N R) := EnvOK.addFn hmx (Ev79_ok N R) (Ev79_ok N _) (by kernel_rfl) (fun c => fsm_Next_S N c.1 c.2.1)
noncomputable def fsm_Timed (s0 : Int) : Option Bool :=
 Option.bind (fsm_Next N s0 (4 : Int)) fun v2 =>
 some ((decide (v2.2.2 = (0 : Int))))
theorem fsm_Timed_S (s0 : Int) : (runK Try.prog (Ev80 N) 400 46 [(.int .i64)] [.bool] (s0, ())).run = fsm_Timed N s0 := by kernel_rfl
noncomputable def Ev81 : (R : Type) → Env R := Env.addFn (Ev80 N) 46 (fun R => fnK [(.int .i64)] [.bool] (fun c => fsm_Timed N c.1))
theorem Ev81_ok (R : Type) : EnvOK Try.prog (Ev81 N R) := EnvOK.addFn hmx (Ev80_ok N R) (Ev80_ok N _) (by kernel_rfl) (fun c => fsm_Timed_S N c.1)
noncomputable def retry_Retry_Init (N : Nat) (r0 : Int × Int) (x1 : Bool) : Option (Int × Int) :=
 bif x1 then
  some (((2 : Int), r0.2))
 else
  some (((10 : Int), r0.2))
theorem retry_Retry_Init_S (r0 : Int × Int) (x1 : Bool) : (runK Try.prog (Ev81 N) 400 38 [(.pair (.int .i64) (.int .i64)), .bool] [(.pair (.int .i64) (.int .i64))] (r0, x1, ())).run = retry_Retry_Init N r0 x1 := by kernel_rfl
noncomputable def Ev82 : (R : Type) → Env R := Env.addFn (Ev81 N) 38 (fun R => fnK [(.pair (.int .i64) (.int .i64)), .bool] [(.pair (.int .i64) (.int .i64))] (fun c => retry_Retry_Init N c.1 c.2.1))
theorem Ev82_ok (R : Type) : EnvOK Try.prog (Ev82 N R) := EnvOK.addFn hmx (Ev81_ok N R) (Ev81_ok N _) (by kernel_rfl) (fun c => retry_Retry_Init_S N c.1 c.2.1)
noncomputable def Ev83 : (R : Type) → Env R := Env.addBx (Ev82 N) [(40, 0)]
theorem Ev83_ok (R : Type) : EnvOK Try.prog (Ev83 N R) := EnvOK.addBx (Ev82_ok N R) [(40, 0)]
noncomputable def retry_Retry_Zero (N : Nat) (r0 : Int × Int) : Option (Int × Int) :=
 some (((0 : Int), (3 : Int)))
theorem retry_Retry_Zero_S (r0 : Int × Int) : (runK Try.prog (Ev83 N) 400 40 [(.pair (.int .i64) (.int .i64))] [(.pair (.int .i64) (.int .i64))] (r0, ())).run = retry_Retry_Zero N r0 := by kernel_rfl
noncomputable def Ev84 : (R : Type) → Env R := Env.addFn (Ev83 N) 40 (fun R => fnK [(.pair (.int .i64) (.int .i64))] [(.pair (.int .i64) (.int .i64))] (fun c => retry_Retry_Zero N c.1))
theorem Ev84_ok (R : Type) : EnvOK Try.prog (Ev84 N R) := EnvOK.addFn hmx (Ev83_ok N R) (Ev83_ok N _) (by kernel_rfl) (fun c => retry_Retry_Zero_S N c.1)
noncomputable def Ev85 : (R : Type) → Env R := Env.addBx (Ev84 N) [(42, 0)]
theorem Ev85_ok (R : Type) : EnvOK Try.prog (Ev85 N R) := EnvOK.addBx (Ev84_ok N R) [(42, 0)]
noncomputable def Ev86 : (R : Type) → Env R := Env.addBx (Ev85 N) [(24, 0)]
theorem Ev86_ok (R : Type) : EnvOK Try.prog (Ev86 N R) := EnvOK.addBx (Ev85_ok N R) [(24, 0)]
noncomputable def retry_Retry_More (N : Nat) (r0 : Int × Int) : Option Bool :=
 some ((decide ((0 : Int) < r0.1)))
theorem retry_Retry_More_S (r0 : Int × Int) : (runK Try.prog (Ev86 N) 400 24 [(.pair (.int .i64) (.int .i64))] [.bool] (r0, ())).run = retry_Retry_More N r0 := by kernel_rfl
noncomputable def Ev87 : (R : Type) → Env R := Env.addFn (Ev86 N) 24 (fun R => fnK [(.pair (.int .i64) (.int .i64))] [.bool] (fun c => retry_Retry_More N c.1))
theorem Ev87_ok (R : Type) : EnvOK Try.prog (Ev87 N R) := EnvOK.addFn hmx (Ev86_ok N R) (Ev86_ok N _) (by kernel_rfl) (fun c => retry_Retry_More_S N c.1)
noncomputable def retry_Retry_Sent (N : Nat) (r0 : Int × Int) : Option (Int × Int) :=
 bif (decide ((0 : Int) < r0.1)) then
  some (((IntKind.wrap .i64 (r0.1 - 1)), (3 : Int)))
 else
  some (((0 : Int), (3 : Int)))
theorem retry_Retry_Sent_S (r0 : Int × Int) : (runK Try.prog (Ev87 N) 400 42 [(.pair (.int .i64) (.int .i64))] [(.pair (.int .i64) (.int .i64))] (r0, ())).run = retry_Retry_Sent N r0 := by kernel_rfl
noncomputable def Ev88 : (R : Type) → Env R := Env.addFn (Ev87 N) 42 (fun R => fnK [(.pair (.int .i64) (.int .i64))] [(.pair (.int .i64) (.int .i64))] (fun c => retry_Retry_Sent N c.1))
theorem Ev88_ok (R : Type) : EnvOK Try.prog (Ev88 N R) := EnvOK.addFn hmx (Ev87_ok N R) (Ev87_ok N _) (by kernel_rfl) (fun c => retry_Retry_Sent_S N c.1)
noncomputable def Ev89 : (R : Type) → Env R := Env.addBx (Ev88 N) [(48, 0)]
theorem Ev89_ok (R : Type) : EnvOK Try.prog (Ev89 N R) := EnvOK.addBx (Ev88_ok N R) [(48, 0)]
noncomputable def retry_Retry_On (N : Nat) (r0 : Int × Int) : Option Bool :=
 some ((decide ((0 : Int) < r0.2)))
theorem retry_Retry_On_S (r0 : Int × Int) : (runK Try.prog (Ev89 N) 400 48 [(.pair (.int .i64) (.int .i64))] [.bool] (r0, ())).run = retry_Retry_On N r0 := by kernel_rfl
noncomputable def Ev90 : (R : Type) → Env R := Env.addFn (Ev89 N) 48 (fun R => fnK [(.pair (.int .i64) (.int .i64))] [.bool] (fun c => retry_Retry_On N c.1))
theorem Ev90_ok (R : Type) : EnvOK Try.prog (Ev90 N R) := EnvOK.addFn hmx (Ev89_ok N R) (Ev89_ok N _) (by kernel_rfl) (fun c => retry_Retry_On_S N c.1)
noncomputable def retry_Retry_Tick (N : Nat) (r0 : Int × Int) : Option ((Int × Int) × Bool) :=
 bif (!(decide ((0 : Int) < r0.2))) then
  some (((r0.1, r0.2), false))
 else
  some (((r0.1, (IntKind.wrap .i64 (r0.2 - 1))), (!(decide ((0 : Int) < (IntKind.wrap .i64 (r0.2 - 1)))))))
theorem retry_Retry_Tick_S (r0 : Int × Int) : (runK Try.prog (Ev90 N) 400 23 [(.pair (.int .i64) (.int .i64))] [(.pair (.int .i64) (.int .i64)), .bool] (r0, ())).run = retry_Retry_Tick N r0 := by kernel_rfl
noncomputable def Ev91 : (R : Type) → Env R := Env.addFn (Ev90 N) 23 (fun R => fnK [(.pair (.int .i64) (.int .i64))] [(.pair (.int .i64) (.int .i64)), .bool] (fun c => retry_Retry_Tick N c.1))
theorem Ev91_ok (R : Type) : EnvOK Try.prog (Ev91 N R) := EnvOK.addFn hmx (Ev90_ok N R) (Ev90_ok N _) (by kernel_rfl) (fun c => retry_Retry_Tick_S N c.1)
noncomputable def retry_Retry_Stop (N : Nat) (r0 : Int × Int) : Option (Int × Int) :=
 some ((r0.1, (0 : Int)))
theorem retry_Retry_Stop_S (r0 : Int × Int) : (runK Try.prog (Ev91 N) 400 47 [(.pair (.int .i64) (.int .i64))] [(.pair (.int .i64) (.int .i64))] (r0, ())).run = retry_Retry_Stop N r0 := by kernel_rfl
noncomputable def Ev92 : (R : Type) → Env R := Env.addFn (Ev91 N) 47 (fun R => fnK [(.pair (.int .i64) (.int .i64))] [(.pair (.int .i64) (.int .i64))] (fun c => retry_Retry_Stop N c.1))
theorem Ev92_ok (R : Type) : EnvOK Try.prog (Ev92 N R) := EnvOK.addFn hmx (Ev91_ok N R) (Ev91_ok N _) (by kernel_rfl) (fun c => retry_Retry_Stop_S N c.1)
noncomputable def nego_Fresh (N : Nat) (n0 : Int) : Option Int :=
 some ((@maxI (1 : Int) (IntKind.wrap .u32 ((IntKind.wrap .u32 ((2654435761 : Int) * n0)) + 1))))
theorem nego_Fresh_S (n0 : Int) : (runK Try.prog (Ev92 N) 400 21 [(.int .u32)] [(.int .u32)] (n0, ())).run = nego_Fresh N n0 := by kernel_rfl
noncomputable def Ev93 : (R : Type) → Env R := Env.addFn (Ev92 N) 21 (fun R => fnK [(.int .u32)] [(.int .u32)] (fun c => nego_Fresh N c.1))
theorem Ev93_ok (R : Type) : EnvOK Try.prog (Ev93 N R) := EnvOK.addFn hmx (Ev92_ok N R) (Ev92_ok N _) (by kernel_rfl) (fun c => nego_Fresh_S N c.1)
noncomputable def Ev94 : (R : Type) → Env R := Env.addInl (Ev93 N) [95, 72, 31, 73, 81, 94, 98, 99, 43]
theorem Ev94_ok (R : Type) : EnvOK Try.prog (Ev94 N R) := EnvOK.addInl (Ev93_ok N R) (by kernel_rfl)
noncomputable def Ev95 : (R : Type) → Env R := Env.addMv (Ev94 N) [(51, 6)]
theorem Ev95_ok (R : Type) : EnvOK Try.prog (Ev95 N R) := EnvOK.addMv (Ev94_ok N R) [(51, 6)]
noncomputable def slices_Index_byte_byte_L2_I : LI := ⟨19, 0, [], ⟨[(0, .ty (.sl (.int .u8))), (1, .ty (.int .u8)), (7, .ty (.int .i64)), (8, .ty (.int .i64))], []⟩, [(.ret, ⟨[(4, .ty (.int .i64))], []⟩), (.exit 0, ⟨[], []⟩)]⟩
noncomputable def slices_Index_byte_byte_L2 (N : Nat) (X : (((List Int) × (Int × (Int × (Int × Unit)))) × Unit) → Option ((((Int × Unit) × Unit) ⊕ (Unit × Unit)))) (s0 : List (Int)) (v1 : Int) (x7 : Int) (x8 : Int) : Option ((((Int × Unit) × Unit) ⊕ (Unit × Unit))) :=
 bif (decide (x8 < x7)) then
  Option.bind (getI s0 x8) fun (v6 : Int) =>
  bif (decide (v1 = v6)) then
   some ((.inl ((x8, ()), ())))
  else
   (X ((s0, (v1, (x7, ((IntKind.wrap .i64 (x8 + 1)), ())))), ()))
 else
  some ((.inr ((), ())))
noncomputable def slices_Index_byte_byte_L2_R (c : (((List Int) × (Int × (Int × (Int × Unit)))) × Unit)) : Option ((((Int × Unit) × Unit) ⊕ (Unit × Unit))) := gl (fun X c => slices_Index_byte_byte_L2 N X c.1.1 c.1.2.1 c.1.2.2.1 c.1.2.2.2.1) N c
theorem slices_Index_byte_byte_L2_S (X : (((List Int) × (Int × (Int × (Int × Unit)))) × Unit) → Option ((((Int × Unit) × Unit) ⊕ (Unit × Unit)))) (s0 : List (Int)) (v1 : Int) (x7 : Int) (x8 : Int) : (roundK Try.prog (Ev95 N) 400 [90] slices_Index_byte_byte_L2_I (loopAt Try.prog [90] 2) X ((s0, v1, x7, x8, ()), ())).run = slices_Index_byte_byte_L2 N X s0 v1 x7 x8 := by kernel_rfl
noncomputable def Ev96 : (R : Type) → Env R := Env.addLp (Ev95 N) [90] 0 2 (fun R => lpK Try.prog slices_Index_byte_byte_L2_I (fun X c => slices_Index_byte_byte_L2 N X c.1.1 c.1.2.1 c.1.2.2.1 c.1.2.2.2.1) N)
theorem Ev96_ok (R : Type) : EnvOK Try.prog (Ev96 N R) := EnvOK.addLp (Ev95_ok N R) (by kernel_rfl) (lpK_ok (li := slices_Index_byte_byte_L2_I) (G := fun X c => slices_Index_byte_byte_L2 N X c.1.1 c.1.2.1 c.1.2.2.1 c.1.2.2.2.1) hmx (Ev95_ok N _) (by kernel_rfl) loopAt_sub (fun (X : CT slices_Index_byte_byte_L2_I.sh → Option (OT slices_Index_byte_byte_L2_I.outs)) (c : CT slices_Index_byte_byte_L2_I.sh) => slices_Index_byte_byte_L2_S N X c.1.1 c.1.2.1 c.1.2.2.1 c.1.2.2.2.1) N)
noncomputable def slices_Index_byte_byte (s0 : List (Int)) (v1 : Int) : Option Int :=
 Option.bind (slices_Index_byte_byte_L2_R N ((s0, (v1, ((((List.length s0) : Nat) : Int), ((0 : Int), ())))), ())) fun v3 =>
 Sum.elim
  (fun (v4 : ((Int × Unit) × Unit)) =>
  some (v4.1.1))
  (fun (v4 : (Unit × Unit)) =>
  some ((-1 : Int))) v3
theorem slices_Index_byte_byte_S (s0 : List (Int)) (v1 : Int) : (runK Try.prog (Ev96 N) 400 90 [(.sl (.int .u8)), (.int .u8)] [(.int .i64)] (s0, v1, ())).run = slices_Index_byte_byte N s0 v1 := by kernel_rfl
noncomputable def Ev97 : (R : Type) → Env R := Env.addFn (Ev96 N) 90 (fun R => fnK [(.sl (.int .u8)), (.int .u8)] [(.int .i64)] (fun c => slices_Index_byte_byte N c.1 c.2.1))
theorem Ev97_ok (R : Type) : EnvOK Try.prog (Ev97 N R) := EnvOK.addFn hmx (Ev96_ok N R) (Ev96_ok N _) (by kernel_rfl) (fun c => slices_Index_byte_byte_S N c.1 c.2.1)
noncomputable def slices_Contains_byte_byte (s0 : List (Int)) (v1 : Int) : Option Bool :=
 Option.bind (slices_Index_byte_byte N s0 v1) fun v3 =>
 some ((decide ((0 : Int) ≤ v3)))
theorem slices_Contains_byte_byte_S (s0 : List (Int)) (v1 : Int) : (runK Try.prog (Ev97 N) 400 70 [(.sl (.int .u8)), (.int .u8)] [.bool] (s0, v1, ())).run = slices_Contains_byte_byte N s0 v1 := by kernel_rfl
noncomputable def Ev98 : (R : Type) → Env R := Env.addFn (Ev97 N) 70 (fun R => fnK [(.sl (.int .u8)), (.int .u8)] [.bool] (fun c => slices_Contains_byte_byte N c.1 c.2.1))
theorem Ev98_ok (R : Type) : EnvOK Try.prog (Ev98 N R) := EnvOK.addFn hmx (Ev97_ok N R) (Ev97_ok N _) (by kernel_rfl) (fun c => slices_Contains_byte_byte_S N c.1 c.2.1)
noncomputable def nego_of_L3_I : LI := ⟨24, 0, [(5, 87)], ⟨[(1, .ty (.sl (.int .u8))), (5, .lit (.own 0)), (8, .ty (.sl (.pair (.int .u8) (.sl (.int .u8))))), (9, .ty (.int .i64)), (10, .ty (.int .i64))], [.own (.pair (.int .u8) (.sl (.int .u8))) 87]⟩, [(.exit 0, ⟨[(5, .lit (.own 0))], [.own (.pair (.int .u8) (.sl (.int .u8))) 87]⟩)]⟩
noncomputable def nego_of_L3 (X : (((List Int) × ((List (Int × (List Int))) × (Int × (Int × Unit)))) × ((List (Int × (List Int))) × Unit)) → Option ((Unit × ((List (Int × (List Int))) × Unit)))) (kinds1 : List (Int)) (x8 : List (Int × (List Int))) (x9 : Int) (x10 : Int) (h0 : List (Int × (List Int))) : Option ((Unit × ((List (Int × (List Int))) × Unit))) :=
 bif (decide (x10 < x9)) then
  Option.bind (getI x8 x10) fun (v7 : (Int × (List Int))) =>
  Option.bind (slices_Contains_byte_byte N kinds1 v7.1) fun v8 =>
  bif v8 then
   bif (roomB ((List.length h0) + (List.length ([(v7.1, v7.2)] : List ((Int × (List Int)))))) 32) then
    (X ((kinds1, (x8, (x9, ((IntKind.wrap .i64 (x10 + 1)), ())))), ((h0 ++ ([(v7.1, v7.2)] : List ((Int × (List Int))))), ())))
   else
    none
  else
   (X ((kinds1, (x8, (x9, ((IntKind.wrap .i64 (x10 + 1)), ())))), (h0, ())))
 else
  some (((), (h0, ())))
noncomputable def nego_of_L3_R (c : (((List Int) × ((List (Int × (List Int))) × (Int × (Int × Unit)))) × ((List (Int × (List Int))) × Unit))) : Option ((Unit × ((List (Int × (List Int))) × Unit))) := gl (fun X c => nego_of_L3 N X c.1.1 c.1.2.1 c.1.2.2.1 c.1.2.2.2.1 c.2.1) N c
theorem nego_of_L3_S (X : (((List Int) × ((List (Int × (List Int))) × (Int × (Int × Unit)))) × ((List (Int × (List Int))) × Unit)) → Option ((Unit × ((List (Int × (List Int))) × Unit)))) (kinds1 : List (Int)) (x8 : List (Int × (List Int))) (x9 : Int) (x10 : Int) (h0 : List (Int × (List Int))) : (roundK Try.prog (Ev98 N) 400 [51] nego_of_L3_I (loopAt Try.prog [51] 3) X ((kinds1, x8, x9, x10, ()), (h0, ()))).run = nego_of_L3 N X kinds1 x8 x9 x10 h0 := by kernel_rfl
noncomputable def Ev99 : (R : Type) → Env R := Env.addLp (Ev98 N) [51] 0 3 (fun R => lpK Try.prog nego_of_L3_I (fun X c => nego_of_L3 N X c.1.1 c.1.2.1 c.1.2.2.1 c.1.2.2.2.1 c.2.1) N)
theorem Ev99_ok (R : Type) : EnvOK Try.prog (Ev99 N R) := EnvOK.addLp (Ev98_ok N R) (by kernel_rfl) (lpK_ok (li := nego_of_L3_I) (G := fun X c => nego_of_L3 N X c.1.1 c.1.2.1 c.1.2.2.1 c.1.2.2.2.1 c.2.1) hmx (Ev98_ok N _) (by kernel_rfl) loopAt_sub (fun (X : CT nego_of_L3_I.sh → Option (OT nego_of_L3_I.outs)) (c : CT nego_of_L3_I.sh) => nego_of_L3_S N X c.1.1 c.1.2.1 c.1.2.2.1 c.1.2.2.2.1 c.2.1) N)
noncomputable def nego_of (l0 : List (Int × (List Int))) (kinds1 : List (Int)) : Option (List (Int × (List Int))) :=
 Option.bind (nego_of_L3_R N ((kinds1, (l0, ((((List.length l0) : Nat) : Int), ((0 : Int), ())))), (([] : List ((Int × (List Int)))), ()))) fun v3 =>
 some (v3.2.1)
theorem nego_of_S (l0 : List (Int × (List Int))) (kinds1 : List (Int)) : (runK Try.prog (Ev99 N) 400 51 [(.sl (.pair (.int .u8) (.sl (.int .u8)))), (.sl (.int .u8))] [(.sl (.pair (.int .u8) (.sl (.int .u8))))] (l0, kinds1, ())).run = nego_of N l0 kinds1 := by kernel_rfl
noncomputable def Ev100 : (R : Type) → Env R := Env.addFn (Ev99 N) 51 (fun R => fnK [(.sl (.pair (.int .u8) (.sl (.int .u8)))), (.sl (.int .u8))] [(.sl (.pair (.int .u8) (.sl (.int .u8))))] (fun c => nego_of N c.1 c.2.1))
theorem Ev100_ok (R : Type) : EnvOK Try.prog (Ev100 N R) := EnvOK.addFn hmx (Ev99_ok N R) (Ev99_ok N _) (by kernel_rfl) (fun c => nego_of_S N c.1 c.2.1)
noncomputable def Ev101 : (R : Type) → Env R := Env.addBx (Ev100 N) [(41, 0)]
theorem Ev101_ok (R : Type) : EnvOK Try.prog (Ev101 N R) := EnvOK.addBx (Ev100_ok N R) [(41, 0)]
noncomputable def nego_Nego_asks (n0 : (Bool × ((Int × (Int × (Bool))) × (Bool × (Bool × (Int × (Int × (Int × (Bool)))))))) × (Int × ((Int × Int) × (Int × ((List (Int × (List Int))) × ((List (Int × (List Int))) × Int)))))) : Option (List (Int × (List Int))) :=
 bif n0.1.1 then
  Option.bind (ipcpo_Options N (n0.1.2.2.2.1, (n0.1.2.2.2.2.1, (n0.1.2.2.2.2.2.1, (n0.1.2.2.2.2.2.2.1, n0.1.2.2.2.2.2.2.2))))) fun v2 =>
  some (v2)
 else
  Option.bind (lcpo_Options N (n0.1.2.1.1, (n0.1.2.1.2.1, n0.1.2.1.2.2))) fun v2 =>
  some (v2)
theorem nego_Nego_asks_S (n0 : (Bool × ((Int × (Int × (Bool))) × (Bool × (Bool × (Int × (Int × (Int × (Bool)))))))) × (Int × ((Int × Int) × (Int × ((List (Int × (List Int))) × ((List (Int × (List Int))) × Int)))))) : (runK Try.prog (Ev101 N) 400 41 [(.pair (.pair .bool (.pair (.pair (.int .u16) (.pair (.int .u32) .bool)) (.pair .bool (.pair .bool (.pair (.int .u32) (.pair (.int .u32) (.pair (.int .u32) .bool))))))) (.pair (.int .i64) (.pair (.pair (.int .i64) (.int .i64)) (.pair (.int .u8) (.pair (.sl (.pair (.int .u8) (.sl (.int .u8)))) (.pair (.sl (.pair (.int .u8) (.sl (.int .u8)))) (.int .i64)))))))] [(.sl (.pair (.int .u8) (.sl (.int .u8))))] (n0, ())).run = nego_Nego_asks N n0 := by kernel_rfl
noncomputable def Ev102 : (R : Type) → Env R := Env.addFn (Ev101 N) 41 (fun R => fnK [(.pair (.pair .bool (.pair (.pair (.int .u16) (.pair (.int .u32) .bool)) (.pair .bool (.pair .bool (.pair (.int .u32) (.pair (.int .u32) (.pair (.int .u32) .bool))))))) (.pair (.int .i64) (.pair (.pair (.int .i64) (.int .i64)) (.pair (.int .u8) (.pair (.sl (.pair (.int .u8) (.sl (.int .u8)))) (.pair (.sl (.pair (.int .u8) (.sl (.int .u8)))) (.int .i64)))))))] [(.sl (.pair (.int .u8) (.sl (.int .u8))))] (fun c => nego_Nego_asks N c.1))
theorem Ev102_ok (R : Type) : EnvOK Try.prog (Ev102 N R) := EnvOK.addFn hmx (Ev101_ok N R) (Ev101_ok N _) (by kernel_rfl) (fun c => nego_Nego_asks_S N c.1)
noncomputable def Ev103 : (R : Type) → Env R := Env.addBx (Ev102 N) [(44, 0)]
theorem Ev103_ok (R : Type) : EnvOK Try.prog (Ev103 N R) := EnvOK.addBx (Ev102_ok N R) [(44, 0)]
noncomputable def nego_Nego_opens (n0 : (Bool × ((Int × (Int × (Bool))) × (Bool × (Bool × (Int × (Int × (Int × (Bool)))))))) × (Int × ((Int × Int) × (Int × ((List (Int × (List Int))) × ((List (Int × (List Int))) × Int)))))) (a1 : Int) : Option (Int × (Int × (List Int))) :=
 bif (decide (a1 = (10 : Int))) then
  some (((5 : Int), (n0.2.2.2.1, ([] : List Int))))
 else
  Option.bind (ctl_Conf N (1 : Int) n0.2.2.2.1 n0.2.2.2.2.1) fun v3 =>
  some ((v3.1.1, (v3.1.2.1, v3.1.2.2)))
theorem nego_Nego_opens_S (n0 : (Bool × ((Int × (Int × (Bool))) × (Bool × (Bool × (Int × (Int × (Int × (Bool)))))))) × (Int × ((Int × Int) × (Int × ((List (Int × (List Int))) × ((List (Int × (List Int))) × Int)))))) (a1 : Int) : (runK Try.prog (Ev103 N) 400 44 [(.pair (.pair .bool (.pair (.pair (.int .u16) (.pair (.int .u32) .bool)) (.pair .bool (.pair .bool (.pair (.int .u32) (.pair (.int .u32) (.pair (.int .u32) .bool))))))) (.pair (.int .i64) (.pair (.pair (.int .i64) (.int .i64)) (.pair (.int .u8) (.pair (.sl (.pair (.int .u8) (.sl (.int .u8)))) (.pair (.sl (.pair (.int .u8) (.sl (.int .u8)))) (.int .i64))))))), (.int .i64)] [(.pair (.int .u8) (.pair (.int .u8) (.sl (.int .u8))))] (n0, a1, ())).run = nego_Nego_opens N n0 a1 := by kernel_rfl
noncomputable def Ev104 : (R : Type) → Env R := Env.addFn (Ev103 N) 44 (fun R => fnK [(.pair (.pair .bool (.pair (.pair (.int .u16) (.pair (.int .u32) .bool)) (.pair .bool (.pair .bool (.pair (.int .u32) (.pair (.int .u32) (.pair (.int .u32) .bool))))))) (.pair (.int .i64) (.pair (.pair (.int .i64) (.int .i64)) (.pair (.int .u8) (.pair (.sl (.pair (.int .u8) (.sl (.int .u8)))) (.pair (.sl (.pair (.int .u8) (.sl (.int .u8)))) (.int .i64))))))), (.int .i64)] [(.pair (.int .u8) (.pair (.int .u8) (.sl (.int .u8))))] (fun c => nego_Nego_opens N c.1 c.2.1))
theorem Ev104_ok (R : Type) : EnvOK Try.prog (Ev104 N R) := EnvOK.addFn hmx (Ev103_ok N R) (Ev103_ok N _) (by kernel_rfl) (fun c => nego_Nego_opens_S N c.1 c.2.1)
noncomputable def slices_Index_fsm_Action_fsm_Action_L2_I : LI := ⟨19, 0, [], ⟨[(0, .ty (.sl (.int .i64))), (1, .ty (.int .i64)), (7, .ty (.int .i64)), (8, .ty (.int .i64))], []⟩, [(.ret, ⟨[(4, .ty (.int .i64))], []⟩), (.exit 0, ⟨[], []⟩)]⟩
noncomputable def slices_Index_fsm_Action_fsm_Action_L2 (N : Nat) (X : (((List Int) × (Int × (Int × (Int × Unit)))) × Unit) → Option ((((Int × Unit) × Unit) ⊕ (Unit × Unit)))) (s0 : List (Int)) (v1 : Int) (x7 : Int) (x8 : Int) : Option ((((Int × Unit) × Unit) ⊕ (Unit × Unit))) :=
 bif (decide (x8 < x7)) then
  Option.bind (getI s0 x8) fun (v6 : Int) =>
  bif (decide (v1 = v6)) then
   some ((.inl ((x8, ()), ())))
  else
   (X ((s0, (v1, (x7, ((IntKind.wrap .i64 (x8 + 1)), ())))), ()))
 else
  some ((.inr ((), ())))
noncomputable def slices_Index_fsm_Action_fsm_Action_L2_R (c : (((List Int) × (Int × (Int × (Int × Unit)))) × Unit)) : Option ((((Int × Unit) × Unit) ⊕ (Unit × Unit))) := gl (fun X c => slices_Index_fsm_Action_fsm_Action_L2 N X c.1.1 c.1.2.1 c.1.2.2.1 c.1.2.2.2.1) N c
theorem slices_Index_fsm_Action_fsm_Action_L2_S (X : (((List Int) × (Int × (Int × (Int × Unit)))) × Unit) → Option ((((Int × Unit) × Unit) ⊕ (Unit × Unit)))) (s0 : List (Int)) (v1 : Int) (x7 : Int) (x8 : Int) : (roundK Try.prog (Ev104 N) 400 [63] slices_Index_fsm_Action_fsm_Action_L2_I (loopAt Try.prog [63] 2) X ((s0, v1, x7, x8, ()), ())).run = slices_Index_fsm_Action_fsm_Action_L2 N X s0 v1 x7 x8 := by kernel_rfl
noncomputable def Ev105 : (R : Type) → Env R := Env.addLp (Ev104 N) [63] 0 2 (fun R => lpK Try.prog slices_Index_fsm_Action_fsm_Action_L2_I (fun X c => slices_Index_fsm_Action_fsm_Action_L2 N X c.1.1 c.1.2.1 c.1.2.2.1 c.1.2.2.2.1) N)
theorem Ev105_ok (R : Type) : EnvOK Try.prog (Ev105 N R) := EnvOK.addLp (Ev104_ok N R) (by kernel_rfl) (lpK_ok (li := slices_Index_fsm_Action_fsm_Action_L2_I) (G := fun X c => slices_Index_fsm_Action_fsm_Action_L2 N X c.1.1 c.1.2.1 c.1.2.2.1 c.1.2.2.2.1) hmx (Ev104_ok N _) (by kernel_rfl) loopAt_sub (fun (X : CT slices_Index_fsm_Action_fsm_Action_L2_I.sh → Option (OT slices_Index_fsm_Action_fsm_Action_L2_I.outs)) (c : CT slices_Index_fsm_Action_fsm_Action_L2_I.sh) => slices_Index_fsm_Action_fsm_Action_L2_S N X c.1.1 c.1.2.1 c.1.2.2.1 c.1.2.2.2.1) N)
noncomputable def slices_Index_fsm_Action_fsm_Action (s0 : List (Int)) (v1 : Int) : Option Int :=
 Option.bind (slices_Index_fsm_Action_fsm_Action_L2_R N ((s0, (v1, ((((List.length s0) : Nat) : Int), ((0 : Int), ())))), ())) fun v3 =>
 Sum.elim
  (fun (v4 : ((Int × Unit) × Unit)) =>
  some (v4.1.1))
  (fun (v4 : (Unit × Unit)) =>
  some ((-1 : Int))) v3
theorem slices_Index_fsm_Action_fsm_Action_S (s0 : List (Int)) (v1 : Int) : (runK Try.prog (Ev105 N) 400 63 [(.sl (.int .i64)), (.int .i64)] [(.int .i64)] (s0, v1, ())).run = slices_Index_fsm_Action_fsm_Action N s0 v1 := by kernel_rfl
noncomputable def Ev106 : (R : Type) → Env R := Env.addFn (Ev105 N) 63 (fun R => fnK [(.sl (.int .i64)), (.int .i64)] [(.int .i64)] (fun c => slices_Index_fsm_Action_fsm_Action N c.1 c.2.1))
theorem Ev106_ok (R : Type) : EnvOK Try.prog (Ev106 N R) := EnvOK.addFn hmx (Ev105_ok N R) (Ev105_ok N _) (by kernel_rfl) (fun c => slices_Index_fsm_Action_fsm_Action_S N c.1 c.2.1)
noncomputable def slices_Contains_fsm_Action_fsm_Action (s0 : List (Int)) (v1 : Int) : Option Bool :=
 Option.bind (slices_Index_fsm_Action_fsm_Action N s0 v1) fun v3 =>
 some ((decide ((0 : Int) ≤ v3)))
theorem slices_Contains_fsm_Action_fsm_Action_S (s0 : List (Int)) (v1 : Int) : (runK Try.prog (Ev106 N) 400 39 [(.sl (.int .i64)), (.int .i64)] [.bool] (s0, v1, ())).run = slices_Contains_fsm_Action_fsm_Action N s0 v1 := by kernel_rfl
noncomputable def Ev107 : (R : Type) → Env R := Env.addFn (Ev106 N) 39 (fun R => fnK [(.sl (.int .i64)), (.int .i64)] [.bool] (fun c => slices_Contains_fsm_Action_fsm_Action N c.1 c.2.1))
theorem Ev107_ok (R : Type) : EnvOK Try.prog (Ev107 N R) := EnvOK.addFn hmx (Ev106_ok N R) (Ev106_ok N _) (by kernel_rfl) (fun c => slices_Contains_fsm_Action_fsm_Action_S N c.1 c.2.1)
noncomputable def nego_Nego_done_L7_I : LI := ⟨114, 0, [], ⟨[(4, .lit (.box 0 0)), (6, .lit (.box 1 0)), (7, .lit (.box 2 0)), (8, .lit (.box 3 0)), (9, .lit (.box 4 0)), (10, .ty (.int .i64)), (11, .ty (.sl (.int .i64))), (13, .lit (.box 5 0)), (30, .ty (.sl (.int .i64))), (31, .ty (.int .i64)), (32, .ty (.int .i64))], [.box 42 (.pair (.pair .bool (.pair (.pair (.int .u16) (.pair (.int .u32) .bool)) (.pair .bool (.pair .bool (.pair (.int .u32) (.pair (.int .u32) (.pair (.int .u32) .bool))))))) (.pair (.int .i64) (.pair (.pair (.int .i64) (.int .i64)) (.pair (.int .u8) (.pair (.sl (.pair (.int .u8) (.sl (.int .u8)))) (.pair (.sl (.pair (.int .u8) (.sl (.int .u8)))) (.int .i64))))))), .box 60 (.pair (.int .u8) (.pair (.int .u8) (.sl (.int .u8)))), .box 60 (.pair (.int .u8) (.pair (.int .u8) (.sl (.int .u8)))), .box 42 (.pair (.pair .bool (.pair (.pair (.int .u16) (.pair (.int .u32) .bool)) (.pair .bool (.pair .bool (.pair (.int .u32) (.pair (.int .u32) (.pair (.int .u32) .bool))))))) (.pair (.int .i64) (.pair (.pair (.int .i64) (.int .i64)) (.pair (.int .u8) (.pair (.sl (.pair (.int .u8) (.sl (.int .u8)))) (.pair (.sl (.pair (.int .u8) (.sl (.int .u8)))) (.int .i64))))))), .boxp 54 [.own 6, .ty .bool, .ty .bool, .ty .bool, .ty .bool], .boxp 54 [.own 7, .ty .bool, .ty .bool, .ty .bool, .ty .bool], .own (.pair (.int .u8) (.pair (.int .u8) (.sl (.int .u8)))) 60, .own (.pair (.int .u8) (.pair (.int .u8) (.sl (.int .u8)))) 60]⟩, [(.exit 0, ⟨[(4, .lit (.box 0 0)), (8, .lit (.box 1 0)), (9, .lit (.box 2 0)), (10, .ty (.int .i64)), (13, .lit (.box 3 0))], [.box 42 (.pair (.pair .bool (.pair (.pair (.int .u16) (.pair (.int .u32) .bool)) (.pair .bool (.pair .bool (.pair (.int .u32) (.pair (.int .u32) (.pair (.int .u32) .bool))))))) (.pair (.int .i64) (.pair (.pair (.int .i64) (.int .i64)) (.pair (.int .u8) (.pair (.sl (.pair (.int .u8) (.sl (.int .u8)))) (.pair (.sl (.pair (.int .u8) (.sl (.int .u8)))) (.int .i64))))))), .box 42 (.pair (.pair .bool (.pair (.pair (.int .u16) (.pair (.int .u32) .bool)) (.pair .bool (.pair .bool (.pair (.int .u32) (.pair (.int .u32) (.pair (.int .u32) .bool))))))) (.pair (.int .i64) (.pair (.pair (.int .i64) (.int .i64)) (.pair (.int .u8) (.pair (.sl (.pair (.int .u8) (.sl (.int .u8)))) (.pair (.sl (.pair (.int .u8) (.sl (.int .u8)))) (.int .i64))))))), .boxp 54 [.own 4, .ty .bool, .ty .bool, .ty .bool, .ty .bool], .boxp 54 [.own 5, .ty .bool, .ty .bool, .ty .bool, .ty .bool], .own (.pair (.int .u8) (.pair (.int .u8) (.sl (.int .u8)))) 60, .own (.pair (.int .u8) (.pair (.int .u8) (.sl (.int .u8)))) 60]⟩)]⟩
noncomputable def nego_Nego_done_L7 (X : ((Int × ((List Int) × ((List Int) × (Int × (Int × Unit))))) × (((Bool × ((Int × (Int × (Bool))) × (Bool × (Bool × (Int × (Int × (Int × (Bool)))))))) × (Int × ((Int × Int) × (Int × ((List (Int × (List Int))) × ((List (Int × (List Int))) × Int)))))) × ((Int × (Int × (List Int))) × ((Int × (Int × (List Int))) × (((Bool × ((Int × (Int × (Bool))) × (Bool × (Bool × (Int × (Int × (Int × (Bool)))))))) × (Int × ((Int × Int) × (Int × ((List (Int × (List Int))) × ((List (Int × (List Int))) × Int)))))) × (Bool × (Bool × (Bool × (Bool × (Bool × (Bool × (Bool × (Bool × ((List (Int × (Int × (List Int)))) × ((List (Int × (Int × (List Int)))) × Unit))))))))))))))) → Option (((Int × Unit) × (((Bool × ((Int × (Int × (Bool))) × (Bool × (Bool × (Int × (Int × (Int × (Bool)))))))) × (Int × ((Int × Int) × (Int × ((List (Int × (List Int))) × ((List (Int × (List Int))) × Int)))))) × (((Bool × ((Int × (Int × (Bool))) × (Bool × (Bool × (Int × (Int × (Int × (Bool)))))))) × (Int × ((Int × Int) × (Int × ((List (Int × (List Int))) × ((List (Int × (List Int))) × Int)))))) × (Bool × (Bool × (Bool × (Bool × (Bool × (Bool × (Bool × (Bool × ((List (Int × (Int × (List Int)))) × ((List (Int × (Int × (List Int)))) × Unit))))))))))))))) (next10 : Int) (actions11 : List (Int)) (x30 : List (Int)) (x31 : Int) (x32 : Int) (h0 : (Bool × ((Int × (Int × (Bool))) × (Bool × (Bool × (Int × (Int × (Int × (Bool)))))))) × (Int × ((Int × Int) × (Int × ((List (Int × (List Int))) × ((List (Int × (List Int))) × Int)))))) (h1 : Int × (Int × (List Int))) (h2 : Int × (Int × (List Int))) (h3 : (Bool × ((Int × (Int × (Bool))) × (Bool × (Bool × (Int × (Int × (Int × (Bool)))))))) × (Int × ((Int × Int) × (Int × ((List (Int × (List Int))) × ((List (Int × (List Int))) × Int)))))) (h4 : Bool) (h5 : Bool) (h6 : Bool) (h7 : Bool) (h8 : Bool) (h9 : Bool) (h10 : Bool) (h11 : Bool) (h12 : List (Int × (Int × (List Int)))) (h13 : List (Int × (Int × (List Int)))) : Option (((Int × Unit) × (((Bool × ((Int × (Int × (Bool))) × (Bool × (Bool × (Int × (Int × (Int × (Bool)))))))) × (Int × ((Int × Int) × (Int × ((List (Int × (List Int))) × ((List (Int × (List Int))) × Int)))))) × (((Bool × ((Int × (Int × (Bool))) × (Bool × (Bool × (Int × (Int × (Int × (Bool)))))))) × (Int × ((Int × Int) × (Int × ((List (Int × (List Int))) × ((List (Int × (List Int))) × Int)))))) × (Bool × (Bool × (Bool × (Bool × (Bool × (Bool × (Bool × (Bool × ((List (Int × (Int × (List Int)))) × ((List (Int × (Int × (List Int)))) × Unit)))))))))))))) :=
 bif (decide (x32 < x31)) then
  Option.bind (getI x30 x32) fun (v21 : Int) =>
  bif (decide (v21 = (1 : Int))) then
   (X ((next10, (actions11, (x30, (x31, ((IntKind.wrap .i64 (x32 + 1)), ()))))), (((h0.1.1, ((h0.1.2.1.1, (h0.1.2.1.2.1, h0.1.2.1.2.2)), (h0.1.2.2.1, (h0.1.2.2.2.1, (h0.1.2.2.2.2.1, (h0.1.2.2.2.2.2.1, (h0.1.2.2.2.2.2.2.1, h0.1.2.2.2.2.2.2.2))))))), (h0.2.1, ((h0.2.2.1.1, h0.2.2.1.2), (h0.2.2.2.1, (h0.2.2.2.2.1, (h0.2.2.2.2.2.1, h0.2.2.2.2.2.2)))))), ((h1.1, (h1.2.1, h1.2.2)), ((h2.1, (h2.2.1, h2.2.2)), (((h3.1.1, ((h3.1.2.1.1, (h3.1.2.1.2.1, h3.1.2.1.2.2)), (h3.1.2.2.1, (h3.1.2.2.2.1, (h3.1.2.2.2.2.1, (h3.1.2.2.2.2.2.1, (h3.1.2.2.2.2.2.2.1, h3.1.2.2.2.2.2.2.2))))))), (h3.2.1, ((h3.2.2.1.1, h3.2.2.1.2), (h3.2.2.2.1, (h3.2.2.2.2.1, (h3.2.2.2.2.2.1, h3.2.2.2.2.2.2)))))), (h4, (h5, (h6, (h7, (true, (h9, (h10, (h11, (h12, (h13, ()))))))))))))))))
  else
   bif (decide (v21 = (2 : Int))) then
    (X ((next10, (actions11, (x30, (x31, ((IntKind.wrap .i64 (x32 + 1)), ()))))), (((h0.1.1, ((h0.1.2.1.1, (h0.1.2.1.2.1, h0.1.2.1.2.2)), (h0.1.2.2.1, (h0.1.2.2.2.1, (h0.1.2.2.2.2.1, (h0.1.2.2.2.2.2.1, (h0.1.2.2.2.2.2.2.1, h0.1.2.2.2.2.2.2.2))))))), (h0.2.1, ((h0.2.2.1.1, h0.2.2.1.2), (h0.2.2.2.1, (h0.2.2.2.2.1, (h0.2.2.2.2.2.1, h0.2.2.2.2.2.2)))))), ((h1.1, (h1.2.1, h1.2.2)), ((h2.1, (h2.2.1, h2.2.2)), (((h3.1.1, ((h3.1.2.1.1, (h3.1.2.1.2.1, h3.1.2.1.2.2)), (h3.1.2.2.1, (h3.1.2.2.2.1, (h3.1.2.2.2.2.1, (h3.1.2.2.2.2.2.1, (h3.1.2.2.2.2.2.2.1, h3.1.2.2.2.2.2.2.2))))))), (h3.2.1, ((h3.2.2.1.1, h3.2.2.1.2), (h3.2.2.2.1, (h3.2.2.2.2.1, (h3.2.2.2.2.2.1, h3.2.2.2.2.2.2)))))), (h4, (h5, (h6, (h7, (h8, (true, (h10, (h11, (h12, (h13, ()))))))))))))))))
   else
    bif (decide (v21 = (3 : Int))) then
     (X ((next10, (actions11, (x30, (x31, ((IntKind.wrap .i64 (x32 + 1)), ()))))), (((h0.1.1, ((h0.1.2.1.1, (h0.1.2.1.2.1, h0.1.2.1.2.2)), (h0.1.2.2.1, (h0.1.2.2.2.1, (h0.1.2.2.2.2.1, (h0.1.2.2.2.2.2.1, (h0.1.2.2.2.2.2.2.1, h0.1.2.2.2.2.2.2.2))))))), (h0.2.1, ((h0.2.2.1.1, h0.2.2.1.2), (h0.2.2.2.1, (h0.2.2.2.2.1, (h0.2.2.2.2.2.1, h0.2.2.2.2.2.2)))))), ((h1.1, (h1.2.1, h1.2.2)), ((h2.1, (h2.2.1, h2.2.2)), (((h3.1.1, ((h3.1.2.1.1, (h3.1.2.1.2.1, h3.1.2.1.2.2)), (h3.1.2.2.1, (h3.1.2.2.2.1, (h3.1.2.2.2.2.1, (h3.1.2.2.2.2.2.1, (h3.1.2.2.2.2.2.2.1, h3.1.2.2.2.2.2.2.2))))))), (h3.2.1, ((h3.2.2.1.1, h3.2.2.1.2), (h3.2.2.2.1, (h3.2.2.2.2.1, (h3.2.2.2.2.2.1, h3.2.2.2.2.2.2)))))), (h4, (h5, (h6, (h7, (h8, (h9, (true, (h11, (h12, (h13, ()))))))))))))))))
    else
     bif (decide (v21 = (4 : Int))) then
      (X ((next10, (actions11, (x30, (x31, ((IntKind.wrap .i64 (x32 + 1)), ()))))), (((h0.1.1, ((h0.1.2.1.1, (h0.1.2.1.2.1, h0.1.2.1.2.2)), (h0.1.2.2.1, (h0.1.2.2.2.1, (h0.1.2.2.2.2.1, (h0.1.2.2.2.2.2.1, (h0.1.2.2.2.2.2.2.1, h0.1.2.2.2.2.2.2.2))))))), (h0.2.1, ((h0.2.2.1.1, h0.2.2.1.2), (h0.2.2.2.1, (h0.2.2.2.2.1, (h0.2.2.2.2.2.1, h0.2.2.2.2.2.2)))))), ((h1.1, (h1.2.1, h1.2.2)), ((h2.1, (h2.2.1, h2.2.2)), (((h3.1.1, ((h3.1.2.1.1, (h3.1.2.1.2.1, h3.1.2.1.2.2)), (h3.1.2.2.1, (h3.1.2.2.2.1, (h3.1.2.2.2.2.1, (h3.1.2.2.2.2.2.1, (h3.1.2.2.2.2.2.2.1, h3.1.2.2.2.2.2.2.2))))))), (h3.2.1, ((h3.2.2.1.1, h3.2.2.1.2), (h3.2.2.2.1, (h3.2.2.2.2.1, (h3.2.2.2.2.2.1, h3.2.2.2.2.2.2)))))), (h4, (h5, (h6, (h7, (h8, (h9, (h10, (true, (h12, (h13, ()))))))))))))))))
     else
      bif (decide (v21 = (5 : Int))) then
       Option.bind (slices_Contains_fsm_Action_fsm_Action N actions11 (10 : Int)) fun v22 =>
       Option.bind (retry_Retry_Init N (h0.2.2.1.1, h0.2.2.1.2) v22) fun v23 =>
       (X ((next10, (actions11, (x30, (x31, ((IntKind.wrap .i64 (x32 + 1)), ()))))), (((h0.1.1, ((h0.1.2.1.1, (h0.1.2.1.2.1, h0.1.2.1.2.2)), (h0.1.2.2.1, (h0.1.2.2.2.1, (h0.1.2.2.2.2.1, (h0.1.2.2.2.2.2.1, (h0.1.2.2.2.2.2.2.1, h0.1.2.2.2.2.2.2.2))))))), (h0.2.1, ((v23.1, v23.2), (h0.2.2.2.1, (h0.2.2.2.2.1, (h0.2.2.2.2.2.1, h0.2.2.2.2.2.2)))))), ((h1.1, (h1.2.1, h1.2.2)), ((h2.1, (h2.2.1, h2.2.2)), (((h3.1.1, ((h3.1.2.1.1, (h3.1.2.1.2.1, h3.1.2.1.2.2)), (h3.1.2.2.1, (h3.1.2.2.2.1, (h3.1.2.2.2.2.1, (h3.1.2.2.2.2.2.1, (h3.1.2.2.2.2.2.2.1, h3.1.2.2.2.2.2.2.2))))))), (h3.2.1, ((h3.2.2.1.1, h3.2.2.1.2), (h3.2.2.2.1, (h3.2.2.2.2.1, (h3.2.2.2.2.2.1, h3.2.2.2.2.2.2)))))), (h4, (h5, (h6, (h7, (h8, (h9, (h10, (h11, (h12, (h13, ()))))))))))))))))
      else
       bif (decide (v21 = (6 : Int))) then
        (X ((next10, (actions11, (x30, (x31, ((IntKind.wrap .i64 (x32 + 1)), ()))))), (((h0.1.1, ((h0.1.2.1.1, (h0.1.2.1.2.1, h0.1.2.1.2.2)), (h0.1.2.2.1, (h0.1.2.2.2.1, (h0.1.2.2.2.2.1, (h0.1.2.2.2.2.2.1, (h0.1.2.2.2.2.2.2.1, h0.1.2.2.2.2.2.2.2))))))), (h0.2.1, (((0 : Int), (3 : Int)), (h0.2.2.2.1, (h0.2.2.2.2.1, (h0.2.2.2.2.2.1, h0.2.2.2.2.2.2)))))), ((h1.1, (h1.2.1, h1.2.2)), ((h2.1, (h2.2.1, h2.2.2)), (((h3.1.1, ((h3.1.2.1.1, (h3.1.2.1.2.1, h3.1.2.1.2.2)), (h3.1.2.2.1, (h3.1.2.2.2.1, (h3.1.2.2.2.2.1, (h3.1.2.2.2.2.2.1, (h3.1.2.2.2.2.2.2.1, h3.1.2.2.2.2.2.2.2))))))), (h3.2.1, ((h3.2.2.1.1, h3.2.2.1.2), (h3.2.2.2.1, (h3.2.2.2.2.1, (h3.2.2.2.2.2.1, h3.2.2.2.2.2.2)))))), (h4, (h5, (h6, (h7, (h8, (h9, (h10, (h11, (h12, (h13, ()))))))))))))))))
       else
        bif (decide (v21 = (7 : Int))) then
         Option.bind (nego_Nego_asks N ((h0.1.1, ((h0.1.2.1.1, (h0.1.2.1.2.1, h0.1.2.1.2.2)), (h0.1.2.2.1, (h0.1.2.2.2.1, (h0.1.2.2.2.2.1, (h0.1.2.2.2.2.2.1, (h0.1.2.2.2.2.2.2.1, h0.1.2.2.2.2.2.2.2))))))), (h0.2.1, ((h0.2.2.1.1, h0.2.2.1.2), (h0.2.2.2.1, (h0.2.2.2.2.1, (h0.2.2.2.2.2.1, h0.2.2.2.2.2.2))))))) fun v22 =>
         Option.bind (retry_Retry_Sent N (h0.2.2.1.1, h0.2.2.1.2)) fun v23 =>
         Option.bind (nego_Nego_opens N ((h0.1.1, ((h0.1.2.1.1, (h0.1.2.1.2.1, h0.1.2.1.2.2)), (h0.1.2.2.1, (h0.1.2.2.2.1, (h0.1.2.2.2.2.1, (h0.1.2.2.2.2.2.1, (h0.1.2.2.2.2.2.2.1, h0.1.2.2.2.2.2.2.2))))))), (h0.2.1, ((v23.1, v23.2), ((IntKind.wrap .u8 (h0.2.2.2.1 + 1)), (v22, (h0.2.2.2.2.2.1, h0.2.2.2.2.2.2)))))) v21) fun v24 =>
         Option.bind (ctl_Lay N (v24.1, (v24.2.1, v24.2.2))) fun v25 =>
         bif (decide (v25.2 = (0 : Int))) then
          bif (roomB ((List.length h13) + (List.length ([(v24.1, (v24.2.1, v24.2.2))] : List ((Int × (Int × (List Int))))))) 32) then
           (X ((next10, (actions11, (x30, (x31, ((IntKind.wrap .i64 (x32 + 1)), ()))))), (((h0.1.1, ((h0.1.2.1.1, (h0.1.2.1.2.1, h0.1.2.1.2.2)), (h0.1.2.2.1, (h0.1.2.2.2.1, (h0.1.2.2.2.2.1, (h0.1.2.2.2.2.2.1, (h0.1.2.2.2.2.2.2.1, h0.1.2.2.2.2.2.2.2))))))), (h0.2.1, ((v23.1, v23.2), ((IntKind.wrap .u8 (h0.2.2.2.1 + 1)), (v22, (h0.2.2.2.2.2.1, h0.2.2.2.2.2.2)))))), ((h1.1, (h1.2.1, h1.2.2)), ((h2.1, (h2.2.1, h2.2.2)), (((h3.1.1, ((h3.1.2.1.1, (h3.1.2.1.2.1, h3.1.2.1.2.2)), (h3.1.2.2.1, (h3.1.2.2.2.1, (h3.1.2.2.2.2.1, (h3.1.2.2.2.2.2.1, (h3.1.2.2.2.2.2.2.1, h3.1.2.2.2.2.2.2.2))))))), (h3.2.1, ((h3.2.2.1.1, h3.2.2.1.2), (h3.2.2.2.1, (h3.2.2.2.2.1, (h3.2.2.2.2.2.1, h3.2.2.2.2.2.2)))))), (h4, (h5, (h6, (h7, (h8, (h9, (h10, (h11, (h12, ((h13 ++ ([(v24.1, (v24.2.1, v24.2.2))] : List ((Int × (Int × (List Int)))))), ()))))))))))))))))
          else
           none
         else
          (X ((next10, (actions11, (x30, (x31, ((IntKind.wrap .i64 (x32 + 1)), ()))))), (((h0.1.1, ((h0.1.2.1.1, (h0.1.2.1.2.1, h0.1.2.1.2.2)), (h0.1.2.2.1, (h0.1.2.2.2.1, (h0.1.2.2.2.2.1, (h0.1.2.2.2.2.2.1, (h0.1.2.2.2.2.2.2.1, h0.1.2.2.2.2.2.2.2))))))), (h0.2.1, ((v23.1, v23.2), ((IntKind.wrap .u8 (h0.2.2.2.1 + 1)), (v22, (h0.2.2.2.2.2.1, h0.2.2.2.2.2.2)))))), ((h1.1, (h1.2.1, h1.2.2)), ((h2.1, (h2.2.1, h2.2.2)), (((h3.1.1, ((h3.1.2.1.1, (h3.1.2.1.2.1, h3.1.2.1.2.2)), (h3.1.2.2.1, (h3.1.2.2.2.1, (h3.1.2.2.2.2.1, (h3.1.2.2.2.2.2.1, (h3.1.2.2.2.2.2.2.1, h3.1.2.2.2.2.2.2.2))))))), (h3.2.1, ((h3.2.2.1.1, h3.2.2.1.2), (h3.2.2.2.1, (h3.2.2.2.2.1, (h3.2.2.2.2.2.1, h3.2.2.2.2.2.2)))))), (h4, (h5, (h6, (h7, (h8, (h9, (h10, (h11, (h12, (h13, ()))))))))))))))))
        else
         bif (decide (v21 = (10 : Int))) then
          Option.bind (retry_Retry_Sent N (h0.2.2.1.1, h0.2.2.1.2)) fun v22 =>
          Option.bind (nego_Nego_opens N ((h0.1.1, ((h0.1.2.1.1, (h0.1.2.1.2.1, h0.1.2.1.2.2)), (h0.1.2.2.1, (h0.1.2.2.2.1, (h0.1.2.2.2.2.1, (h0.1.2.2.2.2.2.1, (h0.1.2.2.2.2.2.2.1, h0.1.2.2.2.2.2.2.2))))))), (h0.2.1, ((v22.1, v22.2), ((IntKind.wrap .u8 (h0.2.2.2.1 + 1)), (h0.2.2.2.2.1, (h0.2.2.2.2.2.1, h0.2.2.2.2.2.2)))))) v21) fun v23 =>
          Option.bind (ctl_Lay N (v23.1, (v23.2.1, v23.2.2))) fun v24 =>
          bif (decide (v24.2 = (0 : Int))) then
           bif (roomB ((List.length h13) + (List.length ([(v23.1, (v23.2.1, v23.2.2))] : List ((Int × (Int × (List Int))))))) 32) then
            (X ((next10, (actions11, (x30, (x31, ((IntKind.wrap .i64 (x32 + 1)), ()))))), (((h0.1.1, ((h0.1.2.1.1, (h0.1.2.1.2.1, h0.1.2.1.2.2)), (h0.1.2.2.1, (h0.1.2.2.2.1, (h0.1.2.2.2.2.1, (h0.1.2.2.2.2.2.1, (h0.1.2.2.2.2.2.2.1, h0.1.2.2.2.2.2.2.2))))))), (h0.2.1, ((v22.1, v22.2), ((IntKind.wrap .u8 (h0.2.2.2.1 + 1)), (h0.2.2.2.2.1, (h0.2.2.2.2.2.1, h0.2.2.2.2.2.2)))))), ((h1.1, (h1.2.1, h1.2.2)), ((h2.1, (h2.2.1, h2.2.2)), (((h3.1.1, ((h3.1.2.1.1, (h3.1.2.1.2.1, h3.1.2.1.2.2)), (h3.1.2.2.1, (h3.1.2.2.2.1, (h3.1.2.2.2.2.1, (h3.1.2.2.2.2.2.1, (h3.1.2.2.2.2.2.2.1, h3.1.2.2.2.2.2.2.2))))))), (h3.2.1, ((h3.2.2.1.1, h3.2.2.1.2), (h3.2.2.2.1, (h3.2.2.2.2.1, (h3.2.2.2.2.2.1, h3.2.2.2.2.2.2)))))), (h4, (h5, (h6, (h7, (h8, (h9, (h10, (h11, (h12, ((h13 ++ ([(v23.1, (v23.2.1, v23.2.2))] : List ((Int × (Int × (List Int)))))), ()))))))))))))))))
           else
            none
          else
           (X ((next10, (actions11, (x30, (x31, ((IntKind.wrap .i64 (x32 + 1)), ()))))), (((h0.1.1, ((h0.1.2.1.1, (h0.1.2.1.2.1, h0.1.2.1.2.2)), (h0.1.2.2.1, (h0.1.2.2.2.1, (h0.1.2.2.2.2.1, (h0.1.2.2.2.2.2.1, (h0.1.2.2.2.2.2.2.1, h0.1.2.2.2.2.2.2.2))))))), (h0.2.1, ((v22.1, v22.2), ((IntKind.wrap .u8 (h0.2.2.2.1 + 1)), (h0.2.2.2.2.1, (h0.2.2.2.2.2.1, h0.2.2.2.2.2.2)))))), ((h1.1, (h1.2.1, h1.2.2)), ((h2.1, (h2.2.1, h2.2.2)), (((h3.1.1, ((h3.1.2.1.1, (h3.1.2.1.2.1, h3.1.2.1.2.2)), (h3.1.2.2.1, (h3.1.2.2.2.1, (h3.1.2.2.2.2.1, (h3.1.2.2.2.2.2.1, (h3.1.2.2.2.2.2.2.1, h3.1.2.2.2.2.2.2.2))))))), (h3.2.1, ((h3.2.2.1.1, h3.2.2.1.2), (h3.2.2.2.1, (h3.2.2.2.2.1, (h3.2.2.2.2.2.1, h3.2.2.2.2.2.2)))))), (h4, (h5, (h6, (h7, (h8, (h9, (h10, (h11, (h12, (h13, ()))))))))))))))))
         else
          bif (decide (v21 = (12 : Int))) then
           Option.bind (ctl_Reject N (IntKind.wrap .u8 (h0.2.2.2.1 + 1)) (h1.1, (h1.2.1, h1.2.2)) (1400 : Int)) fun v22 =>
           Option.bind (ctl_Lay N (v22.1, (v22.2.1, v22.2.2))) fun v23 =>
           bif (decide (v23.2 = (0 : Int))) then
            bif (roomB ((List.length h13) + (List.length ([(v22.1, (v22.2.1, v22.2.2))] : List ((Int × (Int × (List Int))))))) 32) then
             (X ((next10, (actions11, (x30, (x31, ((IntKind.wrap .i64 (x32 + 1)), ()))))), (((h0.1.1, ((h0.1.2.1.1, (h0.1.2.1.2.1, h0.1.2.1.2.2)), (h0.1.2.2.1, (h0.1.2.2.2.1, (h0.1.2.2.2.2.1, (h0.1.2.2.2.2.2.1, (h0.1.2.2.2.2.2.2.1, h0.1.2.2.2.2.2.2.2))))))), (h0.2.1, ((h0.2.2.1.1, h0.2.2.1.2), ((IntKind.wrap .u8 (h0.2.2.2.1 + 1)), (h0.2.2.2.2.1, (h0.2.2.2.2.2.1, h0.2.2.2.2.2.2)))))), ((h1.1, (h1.2.1, h1.2.2)), ((h2.1, (h2.2.1, h2.2.2)), (((h3.1.1, ((h3.1.2.1.1, (h3.1.2.1.2.1, h3.1.2.1.2.2)), (h3.1.2.2.1, (h3.1.2.2.2.1, (h3.1.2.2.2.2.1, (h3.1.2.2.2.2.2.1, (h3.1.2.2.2.2.2.2.1, h3.1.2.2.2.2.2.2.2))))))), (h3.2.1, ((h3.2.2.1.1, h3.2.2.1.2), (h3.2.2.2.1, (h3.2.2.2.2.1, (h3.2.2.2.2.2.1, h3.2.2.2.2.2.2)))))), (h4, (h5, (h6, (h7, (h8, (h9, (h10, (h11, (h12, ((h13 ++ ([(v22.1, (v22.2.1, v22.2.2))] : List ((Int × (Int × (List Int)))))), ()))))))))))))))))
            else
             none
           else
            (X ((next10, (actions11, (x30, (x31, ((IntKind.wrap .i64 (x32 + 1)), ()))))), (((h0.1.1, ((h0.1.2.1.1, (h0.1.2.1.2.1, h0.1.2.1.2.2)), (h0.1.2.2.1, (h0.1.2.2.2.1, (h0.1.2.2.2.2.1, (h0.1.2.2.2.2.2.1, (h0.1.2.2.2.2.2.2.1, h0.1.2.2.2.2.2.2.2))))))), (h0.2.1, ((h0.2.2.1.1, h0.2.2.1.2), ((IntKind.wrap .u8 (h0.2.2.2.1 + 1)), (h0.2.2.2.2.1, (h0.2.2.2.2.2.1, h0.2.2.2.2.2.2)))))), ((h1.1, (h1.2.1, h1.2.2)), ((h2.1, (h2.2.1, h2.2.2)), (((h3.1.1, ((h3.1.2.1.1, (h3.1.2.1.2.1, h3.1.2.1.2.2)), (h3.1.2.2.1, (h3.1.2.2.2.1, (h3.1.2.2.2.2.1, (h3.1.2.2.2.2.2.1, (h3.1.2.2.2.2.2.2.1, h3.1.2.2.2.2.2.2.2))))))), (h3.2.1, ((h3.2.2.1.1, h3.2.2.1.2), (h3.2.2.2.1, (h3.2.2.2.2.1, (h3.2.2.2.2.2.1, h3.2.2.2.2.2.2)))))), (h4, (h5, (h6, (h7, (h8, (h9, (h10, (h11, (h12, (h13, ()))))))))))))))))
          else
           bif (decide (v21 = (8 : Int))) then
            bif (decide (v21 = (8 : Int))) then
             Option.bind (ctl_Lay N (h2.1, (h2.2.1, h2.2.2))) fun v22 =>
             bif (decide (v22.2 = (0 : Int))) then
              bif (roomB ((List.length h13) + (List.length ([(h2.1, (h2.2.1, h2.2.2))] : List ((Int × (Int × (List Int))))))) 32) then
               (X ((next10, (actions11, (x30, (x31, ((IntKind.wrap .i64 (x32 + 1)), ()))))), (((h0.1.1, ((h0.1.2.1.1, (h0.1.2.1.2.1, h0.1.2.1.2.2)), (h0.1.2.2.1, (h0.1.2.2.2.1, (h0.1.2.2.2.2.1, (h0.1.2.2.2.2.2.1, (h0.1.2.2.2.2.2.2.1, h0.1.2.2.2.2.2.2.2))))))), (h0.2.1, ((h0.2.2.1.1, h0.2.2.1.2), (h0.2.2.2.1, (h0.2.2.2.2.1, (h0.2.2.2.2.2.1, h0.2.2.2.2.2.2)))))), ((h1.1, (h1.2.1, h1.2.2)), ((h2.1, (h2.2.1, h2.2.2)), (((h3.1.1, ((h3.1.2.1.1, (h3.1.2.1.2.1, h3.1.2.1.2.2)), (h3.1.2.2.1, (h3.1.2.2.2.1, (h3.1.2.2.2.2.1, (h3.1.2.2.2.2.2.1, (h3.1.2.2.2.2.2.2.1, h3.1.2.2.2.2.2.2.2))))))), (h3.2.1, ((h3.2.2.1.1, h3.2.2.1.2), (h3.2.2.2.1, (h3.2.2.2.2.1, (h3.2.2.2.2.2.1, h3.2.2.2.2.2.2)))))), (h4, (h5, (h6, (h7, (h8, (h9, (h10, (h11, (h12, ((h13 ++ ([(h2.1, (h2.2.1, h2.2.2))] : List ((Int × (Int × (List Int)))))), ()))))))))))))))))
              else
               none
             else
              (X ((next10, (actions11, (x30, (x31, ((IntKind.wrap .i64 (x32 + 1)), ()))))), (((h0.1.1, ((h0.1.2.1.1, (h0.1.2.1.2.1, h0.1.2.1.2.2)), (h0.1.2.2.1, (h0.1.2.2.2.1, (h0.1.2.2.2.2.1, (h0.1.2.2.2.2.2.1, (h0.1.2.2.2.2.2.2.1, h0.1.2.2.2.2.2.2.2))))))), (h0.2.1, ((h0.2.2.1.1, h0.2.2.1.2), (h0.2.2.2.1, (h0.2.2.2.2.1, (h0.2.2.2.2.2.1, h0.2.2.2.2.2.2)))))), ((h1.1, (h1.2.1, h1.2.2)), ((h2.1, (h2.2.1, h2.2.2)), (((h3.1.1, ((h3.1.2.1.1, (h3.1.2.1.2.1, h3.1.2.1.2.2)), (h3.1.2.2.1, (h3.1.2.2.2.1, (h3.1.2.2.2.2.1, (h3.1.2.2.2.2.2.1, (h3.1.2.2.2.2.2.2.1, h3.1.2.2.2.2.2.2.2))))))), (h3.2.1, ((h3.2.2.1.1, h3.2.2.1.2), (h3.2.2.2.1, (h3.2.2.2.2.1, (h3.2.2.2.2.2.1, h3.2.2.2.2.2.2)))))), (h4, (h5, (h6, (h7, (h8, (h9, (h10, (h11, (h12, (h13, ()))))))))))))))))
            else
             bif (decide (v21 = (11 : Int))) then
              Option.bind (ctl_Lay N ((6 : Int), (h1.2.1, ([] : List Int)))) fun v22 =>
              bif (decide (v22.2 = (0 : Int))) then
               bif (roomB ((List.length h13) + (List.length ([((6 : Int), (h1.2.1, ([] : List Int)))] : List ((Int × (Int × (List Int))))))) 32) then
                (X ((next10, (actions11, (x30, (x31, ((IntKind.wrap .i64 (x32 + 1)), ()))))), (((h0.1.1, ((h0.1.2.1.1, (h0.1.2.1.2.1, h0.1.2.1.2.2)), (h0.1.2.2.1, (h0.1.2.2.2.1, (h0.1.2.2.2.2.1, (h0.1.2.2.2.2.2.1, (h0.1.2.2.2.2.2.2.1, h0.1.2.2.2.2.2.2.2))))))), (h0.2.1, ((h0.2.2.1.1, h0.2.2.1.2), (h0.2.2.2.1, (h0.2.2.2.2.1, (h0.2.2.2.2.2.1, h0.2.2.2.2.2.2)))))), ((h1.1, (h1.2.1, h1.2.2)), ((h2.1, (h2.2.1, h2.2.2)), (((h3.1.1, ((h3.1.2.1.1, (h3.1.2.1.2.1, h3.1.2.1.2.2)), (h3.1.2.2.1, (h3.1.2.2.2.1, (h3.1.2.2.2.2.1, (h3.1.2.2.2.2.2.1, (h3.1.2.2.2.2.2.2.1, h3.1.2.2.2.2.2.2.2))))))), (h3.2.1, ((h3.2.2.1.1, h3.2.2.1.2), (h3.2.2.2.1, (h3.2.2.2.2.1, (h3.2.2.2.2.2.1, h3.2.2.2.2.2.2)))))), (h4, (h5, (h6, (h7, (h8, (h9, (h10, (h11, (h12, ((h13 ++ ([((6 : Int), (h1.2.1, ([] : List Int)))] : List ((Int × (Int × (List Int)))))), ()))))))))))))))))
               else
                none
              else
               (X ((next10, (actions11, (x30, (x31, ((IntKind.wrap .i64 (x32 + 1)), ()))))), (((h0.1.1, ((h0.1.2.1.1, (h0.1.2.1.2.1, h0.1.2.1.2.2)), (h0.1.2.2.1, (h0.1.2.2.2.1, (h0.1.2.2.2.2.1, (h0.1.2.2.2.2.2.1, (h0.1.2.2.2.2.2.2.1, h0.1.2.2.2.2.2.2.2))))))), (h0.2.1, ((h0.2.2.1.1, h0.2.2.1.2), (h0.2.2.2.1, (h0.2.2.2.2.1, (h0.2.2.2.2.2.1, h0.2.2.2.2.2.2)))))), ((h1.1, (h1.2.1, h1.2.2)), ((h2.1, (h2.2.1, h2.2.2)), (((h3.1.1, ((h3.1.2.1.1, (h3.1.2.1.2.1, h3.1.2.1.2.2)), (h3.1.2.2.1, (h3.1.2.2.2.1, (h3.1.2.2.2.2.1, (h3.1.2.2.2.2.2.1, (h3.1.2.2.2.2.2.2.1, h3.1.2.2.2.2.2.2.2))))))), (h3.2.1, ((h3.2.2.1.1, h3.2.2.1.2), (h3.2.2.2.1, (h3.2.2.2.2.1, (h3.2.2.2.2.2.1, h3.2.2.2.2.2.2)))))), (h4, (h5, (h6, (h7, (h8, (h9, (h10, (h11, (h12, (h13, ()))))))))))))))))
             else
              (X ((next10, (actions11, (x30, (x31, ((IntKind.wrap .i64 (x32 + 1)), ()))))), (((h0.1.1, ((h0.1.2.1.1, (h0.1.2.1.2.1, h0.1.2.1.2.2)), (h0.1.2.2.1, (h0.1.2.2.2.1, (h0.1.2.2.2.2.1, (h0.1.2.2.2.2.2.1, (h0.1.2.2.2.2.2.2.1, h0.1.2.2.2.2.2.2.2))))))), (h0.2.1, ((h0.2.2.1.1, h0.2.2.1.2), (h0.2.2.2.1, (h0.2.2.2.2.1, (h0.2.2.2.2.2.1, h0.2.2.2.2.2.2)))))), ((h1.1, (h1.2.1, h1.2.2)), ((h2.1, (h2.2.1, h2.2.2)), (((h3.1.1, ((h3.1.2.1.1, (h3.1.2.1.2.1, h3.1.2.1.2.2)), (h3.1.2.2.1, (h3.1.2.2.2.1, (h3.1.2.2.2.2.1, (h3.1.2.2.2.2.2.1, (h3.1.2.2.2.2.2.2.1, h3.1.2.2.2.2.2.2.2))))))), (h3.2.1, ((h3.2.2.1.1, h3.2.2.1.2), (h3.2.2.2.1, (h3.2.2.2.2.1, (h3.2.2.2.2.2.1, h3.2.2.2.2.2.2)))))), (h4, (h5, (h6, (h7, (h8, (h9, (h10, (h11, (h12, (h13, ()))))))))))))))))
           else
            bif (decide (v21 = (9 : Int))) then
             Option.bind (ctl_Lay N (h2.1, (h2.2.1, h2.2.2))) fun v22 =>
             bif (decide (v22.2 = (0 : Int))) then
              bif (roomB ((List.length h13) + (List.length ([(h2.1, (h2.2.1, h2.2.2))] : List ((Int × (Int × (List Int))))))) 32) then
               (X ((next10, (actions11, (x30, (x31, ((IntKind.wrap .i64 (x32 + 1)), ()))))), (((h0.1.1, ((h0.1.2.1.1, (h0.1.2.1.2.1, h0.1.2.1.2.2)), (h0.1.2.2.1, (h0.1.2.2.2.1, (h0.1.2.2.2.2.1, (h0.1.2.2.2.2.2.1, (h0.1.2.2.2.2.2.2.1, h0.1.2.2.2.2.2.2.2))))))), (h0.2.1, ((h0.2.2.1.1, h0.2.2.1.2), (h0.2.2.2.1, (h0.2.2.2.2.1, (h0.2.2.2.2.2.1, h0.2.2.2.2.2.2)))))), ((h1.1, (h1.2.1, h1.2.2)), ((h2.1, (h2.2.1, h2.2.2)), (((h3.1.1, ((h3.1.2.1.1, (h3.1.2.1.2.1, h3.1.2.1.2.2)), (h3.1.2.2.1, (h3.1.2.2.2.1, (h3.1.2.2.2.2.1, (h3.1.2.2.2.2.2.1, (h3.1.2.2.2.2.2.2.1, h3.1.2.2.2.2.2.2.2))))))), (h3.2.1, ((h3.2.2.1.1, h3.2.2.1.2), (h3.2.2.2.1, (h3.2.2.2.2.1, (h3.2.2.2.2.2.1, h3.2.2.2.2.2.2)))))), (h4, (h5, (h6, (h7, (h8, (h9, (h10, (h11, (h12, ((h13 ++ ([(h2.1, (h2.2.1, h2.2.2))] : List ((Int × (Int × (List Int)))))), ()))))))))))))))))
              else
               none
             else
              (X ((next10, (actions11, (x30, (x31, ((IntKind.wrap .i64 (x32 + 1)), ()))))), (((h0.1.1, ((h0.1.2.1.1, (h0.1.2.1.2.1, h0.1.2.1.2.2)), (h0.1.2.2.1, (h0.1.2.2.2.1, (h0.1.2.2.2.2.1, (h0.1.2.2.2.2.2.1, (h0.1.2.2.2.2.2.2.1, h0.1.2.2.2.2.2.2.2))))))), (h0.2.1, ((h0.2.2.1.1, h0.2.2.1.2), (h0.2.2.2.1, (h0.2.2.2.2.1, (h0.2.2.2.2.2.1, h0.2.2.2.2.2.2)))))), ((h1.1, (h1.2.1, h1.2.2)), ((h2.1, (h2.2.1, h2.2.2)), (((h3.1.1, ((h3.1.2.1.1, (h3.1.2.1.2.1, h3.1.2.1.2.2)), (h3.1.2.2.1, (h3.1.2.2.2.1, (h3.1.2.2.2.2.1, (h3.1.2.2.2.2.2.1, (h3.1.2.2.2.2.2.2.1, h3.1.2.2.2.2.2.2.2))))))), (h3.2.1, ((h3.2.2.1.1, h3.2.2.1.2), (h3.2.2.2.1, (h3.2.2.2.2.1, (h3.2.2.2.2.2.1, h3.2.2.2.2.2.2)))))), (h4, (h5, (h6, (h7, (h8, (h9, (h10, (h11, (h12, (h13, ()))))))))))))))))
            else
             bif (decide (v21 = (11 : Int))) then
              Option.bind (ctl_Lay N ((6 : Int), (h1.2.1, ([] : List Int)))) fun v22 =>
              bif (decide (v22.2 = (0 : Int))) then
               bif (roomB ((List.length h13) + (List.length ([((6 : Int), (h1.2.1, ([] : List Int)))] : List ((Int × (Int × (List Int))))))) 32) then
                (X ((next10, (actions11, (x30, (x31, ((IntKind.wrap .i64 (x32 + 1)), ()))))), (((h0.1.1, ((h0.1.2.1.1, (h0.1.2.1.2.1, h0.1.2.1.2.2)), (h0.1.2.2.1, (h0.1.2.2.2.1, (h0.1.2.2.2.2.1, (h0.1.2.2.2.2.2.1, (h0.1.2.2.2.2.2.2.1, h0.1.2.2.2.2.2.2.2))))))), (h0.2.1, ((h0.2.2.1.1, h0.2.2.1.2), (h0.2.2.2.1, (h0.2.2.2.2.1, (h0.2.2.2.2.2.1, h0.2.2.2.2.2.2)))))), ((h1.1, (h1.2.1, h1.2.2)), ((h2.1, (h2.2.1, h2.2.2)), (((h3.1.1, ((h3.1.2.1.1, (h3.1.2.1.2.1, h3.1.2.1.2.2)), (h3.1.2.2.1, (h3.1.2.2.2.1, (h3.1.2.2.2.2.1, (h3.1.2.2.2.2.2.1, (h3.1.2.2.2.2.2.2.1, h3.1.2.2.2.2.2.2.2))))))), (h3.2.1, ((h3.2.2.1.1, h3.2.2.1.2), (h3.2.2.2.1, (h3.2.2.2.2.1, (h3.2.2.2.2.2.1, h3.2.2.2.2.2.2)))))), (h4, (h5, (h6, (h7, (h8, (h9, (h10, (h11, (h12, ((h13 ++ ([((6 : Int), (h1.2.1, ([] : List Int)))] : List ((Int × (Int × (List Int)))))), ()))))))))))))))))
               else
                none
              else
               (X ((next10, (actions11, (x30, (x31, ((IntKind.wrap .i64 (x32 + 1)), ()))))), (((h0.1.1, ((h0.1.2.1.1, (h0.1.2.1.2.1, h0.1.2.1.2.2)), (h0.1.2.2.1, (h0.1.2.2.2.1, (h0.1.2.2.2.2.1, (h0.1.2.2.2.2.2.1, (h0.1.2.2.2.2.2.2.1, h0.1.2.2.2.2.2.2.2))))))), (h0.2.1, ((h0.2.2.1.1, h0.2.2.1.2), (h0.2.2.2.1, (h0.2.2.2.2.1, (h0.2.2.2.2.2.1, h0.2.2.2.2.2.2)))))), ((h1.1, (h1.2.1, h1.2.2)), ((h2.1, (h2.2.1, h2.2.2)), (((h3.1.1, ((h3.1.2.1.1, (h3.1.2.1.2.1, h3.1.2.1.2.2)), (h3.1.2.2.1, (h3.1.2.2.2.1, (h3.1.2.2.2.2.1, (h3.1.2.2.2.2.2.1, (h3.1.2.2.2.2.2.2.1, h3.1.2.2.2.2.2.2.2))))))), (h3.2.1, ((h3.2.2.1.1, h3.2.2.1.2), (h3.2.2.2.1, (h3.2.2.2.2.1, (h3.2.2.2.2.2.1, h3.2.2.2.2.2.2)))))), (h4, (h5, (h6, (h7, (h8, (h9, (h10, (h11, (h12, (h13, ()))))))))))))))))
             else
              (X ((next10, (actions11, (x30, (x31, ((IntKind.wrap .i64 (x32 + 1)), ()))))), (((h0.1.1, ((h0.1.2.1.1, (h0.1.2.1.2.1, h0.1.2.1.2.2)), (h0.1.2.2.1, (h0.1.2.2.2.1, (h0.1.2.2.2.2.1, (h0.1.2.2.2.2.2.1, (h0.1.2.2.2.2.2.2.1, h0.1.2.2.2.2.2.2.2))))))), (h0.2.1, ((h0.2.2.1.1, h0.2.2.1.2), (h0.2.2.2.1, (h0.2.2.2.2.1, (h0.2.2.2.2.2.1, h0.2.2.2.2.2.2)))))), ((h1.1, (h1.2.1, h1.2.2)), ((h2.1, (h2.2.1, h2.2.2)), (((h3.1.1, ((h3.1.2.1.1, (h3.1.2.1.2.1, h3.1.2.1.2.2)), (h3.1.2.2.1, (h3.1.2.2.2.1, (h3.1.2.2.2.2.1, (h3.1.2.2.2.2.2.1, (h3.1.2.2.2.2.2.2.1, h3.1.2.2.2.2.2.2.2))))))), (h3.2.1, ((h3.2.2.1.1, h3.2.2.1.2), (h3.2.2.2.1, (h3.2.2.2.2.1, (h3.2.2.2.2.2.1, h3.2.2.2.2.2.2)))))), (h4, (h5, (h6, (h7, (h8, (h9, (h10, (h11, (h12, (h13, ()))))))))))))))))
 else
  some (((next10, ()), (((h0.1.1, ((h0.1.2.1.1, (h0.1.2.1.2.1, h0.1.2.1.2.2)), (h0.1.2.2.1, (h0.1.2.2.2.1, (h0.1.2.2.2.2.1, (h0.1.2.2.2.2.2.1, (h0.1.2.2.2.2.2.2.1, h0.1.2.2.2.2.2.2.2))))))), (h0.2.1, ((h0.2.2.1.1, h0.2.2.1.2), (h0.2.2.2.1, (h0.2.2.2.2.1, (h0.2.2.2.2.2.1, h0.2.2.2.2.2.2)))))), (((h3.1.1, ((h3.1.2.1.1, (h3.1.2.1.2.1, h3.1.2.1.2.2)), (h3.1.2.2.1, (h3.1.2.2.2.1, (h3.1.2.2.2.2.1, (h3.1.2.2.2.2.2.1, (h3.1.2.2.2.2.2.2.1, h3.1.2.2.2.2.2.2.2))))))), (h3.2.1, ((h3.2.2.1.1, h3.2.2.1.2), (h3.2.2.2.1, (h3.2.2.2.2.1, (h3.2.2.2.2.2.1, h3.2.2.2.2.2.2)))))), (h4, (h5, (h6, (h7, (h8, (h9, (h10, (h11, (h12, (h13, ()))))))))))))))
noncomputable def nego_Nego_done_L7_R (c : ((Int × ((List Int) × ((List Int) × (Int × (Int × Unit))))) × (((Bool × ((Int × (Int × (Bool))) × (Bool × (Bool × (Int × (Int × (Int × (Bool)))))))) × (Int × ((Int × Int) × (Int × ((List (Int × (List Int))) × ((List (Int × (List Int))) × Int)))))) × ((Int × (Int × (List Int))) × ((Int × (Int × (List Int))) × (((Bool × ((Int × (Int × (Bool))) × (Bool × (Bool × (Int × (Int × (Int × (Bool)))))))) × (Int × ((Int × Int) × (Int × ((List (Int × (List Int))) × ((List (Int × (List Int))) × Int)))))) × (Bool × (Bool × (Bool × (Bool × (Bool × (Bool × (Bool × (Bool × ((List (Int × (Int × (List Int)))) × ((List (Int × (Int × (List Int)))) × Unit)))))))))))))))) : Option (((Int × Unit) × (((Bool × ((Int × (Int × (Bool))) × (Bool × (Bool × (Int × (Int × (Int × (Bool)))))))) × (Int × ((Int × Int) × (Int × ((List (Int × (List Int))) × ((List (Int × (List Int))) × Int)))))) × (((Bool × ((Int × (Int × (Bool))) × (Bool × (Bool × (Int × (Int × (Int × (Bool)))))))) × (Int × ((Int × Int) × (Int × ((List (Int × (List Int))) × ((List (Int × (List Int))) × Int)))))) × (Bool × (Bool × (Bool × (Bool × (Bool × (Bool × (Bool × (Bool × ((List (Int × (Int × (List Int)))) × ((List (Int × (Int × (List Int)))) × Unit)))))))))))))) := gl (fun X c => nego_Nego_done_L7 N X c.1.1 c.1.2.1 c.1.2.2.1 c.1.2.2.2.1 c.1.2.2.2.2.1 c.2.1 c.2.2.1 c.2.2.2.1 c.2.2.2.2.1 c.2.2.2.2.2.1 c.2.2.2.2.2.2.1 c.2.2.2.2.2.2.2.1 c.2.2.2.2.2.2.2.2.1 c.2.2.2.2.2.2.2.2.2.1 c.2.2.2.2.2.2.2.2.2.2.1 c.2.2.2.2.2.2.2.2.2.2.2.1 c.2.2.2.2.2.2.2.2.2.2.2.2.1 c.2.2.2.2.2.2.2.2.2.2.2.2.2.1 c.2.2.2.2.2.2.2.2.2.2.2.2.2.2.1) N c
theorem nego_Nego_done_L7_S (X : ((Int × ((List Int) × ((List Int) × (Int × (Int × Unit))))) × (((Bool × ((Int × (Int × (Bool))) × (Bool × (Bool × (Int × (Int × (Int × (Bool)))))))) × (Int × ((Int × Int) × (Int × ((List (Int × (List Int))) × ((List (Int × (List Int))) × Int)))))) × ((Int × (Int × (List Int))) × ((Int × (Int × (List Int))) × (((Bool × ((Int × (Int × (Bool))) × (Bool × (Bool × (Int × (Int × (Int × (Bool)))))))) × (Int × ((Int × Int) × (Int × ((List (Int × (List Int))) × ((List (Int × (List Int))) × Int)))))) × (Bool × (Bool × (Bool × (Bool × (Bool × (Bool × (Bool × (Bool × ((List (Int × (Int × (List Int)))) × ((List (Int × (Int × (List Int)))) × Unit))))))))))))))) → Option (((Int × Unit) × (((Bool × ((Int × (Int × (Bool))) × (Bool × (Bool × (Int × (Int × (Int × (Bool)))))))) × (Int × ((Int × Int) × (Int × ((List (Int × (List Int))) × ((List (Int × (List Int))) × Int)))))) × (((Bool × ((Int × (Int × (Bool))) × (Bool × (Bool × (Int × (Int × (Int × (Bool)))))))) × (Int × ((Int × Int) × (Int × ((List (Int × (List Int))) × ((List (Int × (List Int))) × Int)))))) × (Bool × (Bool × (Bool × (Bool × (Bool × (Bool × (Bool × (Bool × ((List (Int × (Int × (List Int)))) × ((List (Int × (Int × (List Int)))) × Unit))))))))))))))) (next10 : Int) (actions11 : List (Int)) (x30 : List (Int)) (x31 : Int) (x32 : Int) (h0 : (Bool × ((Int × (Int × (Bool))) × (Bool × (Bool × (Int × (Int × (Int × (Bool)))))))) × (Int × ((Int × Int) × (Int × ((List (Int × (List Int))) × ((List (Int × (List Int))) × Int)))))) (h1 : Int × (Int × (List Int))) (h2 : Int × (Int × (List Int))) (h3 : (Bool × ((Int × (Int × (Bool))) × (Bool × (Bool × (Int × (Int × (Int × (Bool)))))))) × (Int × ((Int × Int) × (Int × ((List (Int × (List Int))) × ((List (Int × (List Int))) × Int)))))) (h4 : Bool) (h5 : Bool) (h6 : Bool) (h7 : Bool) (h8 : Bool) (h9 : Bool) (h10 : Bool) (h11 : Bool) (h12 : List (Int × (Int × (List Int)))) (h13 : List (Int × (Int × (List Int)))) : (roundK Try.prog (Ev107 N) 400 [22] nego_Nego_done_L7_I (loopAt Try.prog [22] 7) X ((next10, actions11, x30, x31, x32, ()), (h0, h1, h2, h3, h4, h5, h6, h7, h8, h9, h10, h11, h12, h13, ()))).run = nego_Nego_done_L7 N X next10 actions11 x30 x31 x32 h0 h1 h2 h3 h4 h5 h6 h7 h8 h9 h10 h11 h12 h13 := by kernel_rfl
noncomputable def Ev108 : (R : Type) → Env R := Env.addLp (Ev107 N) [22] 0 7 (fun R => lpK Try.prog nego_Nego_done_L7_I (fun X c => nego_Nego_done_L7 N X c.1.1 c.1.2.1 c.1.2.2.1 c.1.2.2.2.1 c.1.2.2.2.2.1 c.2.1 c.2.2.1 c.2.2.2.1 c.2.2.2.2.1 c.2.2.2.2.2.1 c.2.2.2.2.2.2.1 c.2.2.2.2.2.2.2.1 c.2.2.2.2.2.2.2.2.1 c.2.2.2.2.2.2.2.2.2.1 c.2.2.2.2.2.2.2.2.2.2.1 c.2.2.2.2.2.2.2.2.2.2.2.1 c.2.2.2.2.2.2.2.2.2.2.2.2.1 c.2.2.2.2.2.2.2.2.2.2.2.2.2.1 c.2.2.2.2.2.2.2.2.2.2.2.2.2.2.1) N)
theorem Ev108_ok (R : Type) : EnvOK Try.prog (Ev108 N R) := EnvOK.addLp (Ev107_ok N R) (by kernel_rfl) (lpK_ok (li := nego_Nego_done_L7_I) (G := fun X c => nego_Nego_done_L7 N X c.1.1 c.1.2.1 c.1.2.2.1 c.1.2.2.2.1 c.1.2.2.2.2.1 c.2.1 c.2.2.1 c.2.2.2.1 c.2.2.2.2.1 c.2.2.2.2.2.1 c.2.2.2.2.2.2.1 c.2.2.2.2.2.2.2.1 c.2.2.2.2.2.2.2.2.1 c.2.2.2.2.2.2.2.2.2.1 c.2.2.2.2.2.2.2.2.2.2.1 c.2.2.2.2.2.2.2.2.2.2.2.1 c.2.2.2.2.2.2.2.2.2.2.2.2.1 c.2.2.2.2.2.2.2.2.2.2.2.2.2.1 c.2.2.2.2.2.2.2.2.2.2.2.2.2.2.1) hmx (Ev107_ok N _) (by kernel_rfl) loopAt_sub (fun (X : CT nego_Nego_done_L7_I.sh → Option (OT nego_Nego_done_L7_I.outs)) (c : CT nego_Nego_done_L7_I.sh) => nego_Nego_done_L7_S N X c.1.1 c.1.2.1 c.1.2.2.1 c.1.2.2.2.1 c.1.2.2.2.2.1 c.2.1 c.2.2.1 c.2.2.2.1 c.2.2.2.2.1 c.2.2.2.2.2.1 c.2.2.2.2.2.2.1 c.2.2.2.2.2.2.2.1 c.2.2.2.2.2.2.2.2.1 c.2.2.2.2.2.2.2.2.2.1 c.2.2.2.2.2.2.2.2.2.2.1 c.2.2.2.2.2.2.2.2.2.2.2.1 c.2.2.2.2.2.2.2.2.2.2.2.2.1 c.2.2.2.2.2.2.2.2.2.2.2.2.2.1 c.2.2.2.2.2.2.2.2.2.2.2.2.2.2.1) N)
noncomputable def nego_Nego_done (n0 : (Bool × ((Int × (Int × (Bool))) × (Bool × (Bool × (Int × (Int × (Int × (Bool)))))))) × (Int × ((Int × Int) × (Int × ((List (Int × (List Int))) × ((List (Int × (List Int))) × Int)))))) (e1 : Int) (came2 : Int × (Int × (List Int))) (answer3 : Int × (Int × (List Int))) : Option (((Bool × ((Int × (Int × (Bool))) × (Bool × (Bool × (Int × (Int × (Int × (Bool)))))))) × (Int × ((Int × Int) × (Int × ((List (Int × (List Int))) × ((List (Int × (List Int))) × Int)))))) × (List (Int × (Int × (List Int)))) × (Bool × (Bool × (Bool × (Bool))))) :=
 Option.bind (fsm_Next N n0.2.1 e1) fun v5 =>
 bif (!(decide (v5.2.2 = (0 : Int)))) then
  some ((((n0.1.1, ((n0.1.2.1.1, (n0.1.2.1.2.1, n0.1.2.1.2.2)), (n0.1.2.2.1, (n0.1.2.2.2.1, (n0.1.2.2.2.2.1, (n0.1.2.2.2.2.2.1, (n0.1.2.2.2.2.2.2.1, n0.1.2.2.2.2.2.2.2))))))), (n0.2.1, ((n0.2.2.1.1, n0.2.2.1.2), (n0.2.2.2.1, (n0.2.2.2.2.1, (n0.2.2.2.2.2.1, n0.2.2.2.2.2.2)))))), (([] : List ((Int × (Int × (List Int))))), (false, (false, (false, false))))))
 else
  Option.bind (nego_Nego_done_L7_R N ((v5.1, (v5.2.1, (v5.2.1, ((((List.length v5.2.1) : Nat) : Int), ((0 : Int), ()))))), (((n0.1.1, ((n0.1.2.1.1, (n0.1.2.1.2.1, n0.1.2.1.2.2)), (n0.1.2.2.1, (n0.1.2.2.2.1, (n0.1.2.2.2.2.1, (n0.1.2.2.2.2.2.1, (n0.1.2.2.2.2.2.2.1, n0.1.2.2.2.2.2.2.2))))))), (v5.1, ((n0.2.2.1.1, n0.2.2.1.2), (n0.2.2.2.1, (n0.2.2.2.2.1, (n0.2.2.2.2.2.1, n0.2.2.2.2.2.2)))))), ((came2.1, (came2.2.1, came2.2.2)), ((answer3.1, (answer3.2.1, answer3.2.2)), (((false, (((0 : Int), ((0 : Int), false)), (false, (false, ((0 : Int), ((0 : Int), ((0 : Int), false))))))), ((0 : Int), (((0 : Int), (0 : Int)), ((0 : Int), (([] : List ((Int × (List Int)))), (([] : List ((Int × (List Int)))), (0 : Int))))))), (false, (false, (false, (false, (false, (false, (false, (false, (([] : List ((Int × (Int × (List Int))))), (([] : List ((Int × (Int × (List Int))))), ())))))))))))))))) fun v6 =>
  Option.bind (fsm_Timed N v6.1.1) fun v7 =>
  bif (!v7) then
   some ((((v6.2.1.1.1, ((v6.2.1.1.2.1.1, (v6.2.1.1.2.1.2.1, v6.2.1.1.2.1.2.2)), (v6.2.1.1.2.2.1, (v6.2.1.1.2.2.2.1, (v6.2.1.1.2.2.2.2.1, (v6.2.1.1.2.2.2.2.2.1, (v6.2.1.1.2.2.2.2.2.2.1, v6.2.1.1.2.2.2.2.2.2.2))))))), (v6.2.1.2.1, ((v6.2.1.2.2.1.1, (0 : Int)), (v6.2.1.2.2.2.1, (v6.2.1.2.2.2.2.1, (v6.2.1.2.2.2.2.2.1, v6.2.1.2.2.2.2.2.2)))))), (((v6.2.2.2.2.2.2).snd.2.2.2).snd.2.1, ((v6.2.2.2.2.2.2).snd.1, ((v6.2.2.2.2.2.2).snd.2.1, ((v6.2.2.2.2.2.2).snd.2.2.1, (v6.2.2.2.2.2.2).snd.2.2.2.1))))))
  else
   some ((((v6.2.1.1.1, ((v6.2.1.1.2.1.1, (v6.2.1.1.2.1.2.1, v6.2.1.1.2.1.2.2)), (v6.2.1.1.2.2.1, (v6.2.1.1.2.2.2.1, (v6.2.1.1.2.2.2.2.1, (v6.2.1.1.2.2.2.2.2.1, (v6.2.1.1.2.2.2.2.2.2.1, v6.2.1.1.2.2.2.2.2.2.2))))))), (v6.2.1.2.1, ((v6.2.1.2.2.1.1, v6.2.1.2.2.1.2), (v6.2.1.2.2.2.1, (v6.2.1.2.2.2.2.1, (v6.2.1.2.2.2.2.2.1, v6.2.1.2.2.2.2.2.2)))))), (((v6.2.2.2.2.2.2).snd.2.2.2).snd.2.1, ((v6.2.2.2.2.2.2).snd.1, ((v6.2.2.2.2.2.2).snd.2.1, ((v6.2.2.2.2.2.2).snd.2.2.1, (v6.2.2.2.2.2.2).snd.2.2.2.1))))))
theorem nego_Nego_done_S (n0 : (Bool × ((Int × (Int × (Bool))) × (Bool × (Bool × (Int × (Int × (Int × (Bool)))))))) × (Int × ((Int × Int) × (Int × ((List (Int × (List Int))) × ((List (Int × (List Int))) × Int)))))) (e1 : Int) (came2 : Int × (Int × (List Int))) (answer3 : Int × (Int × (List Int))) : (runK Try.prog (Ev108 N) 400 22 [(.pair (.pair .bool (.pair (.pair (.int .u16) (.pair (.int .u32) .bool)) (.pair .bool (.pair .bool (.pair (.int .u32) (.pair (.int .u32) (.pair (.int .u32) .bool))))))) (.pair (.int .i64) (.pair (.pair (.int .i64) (.int .i64)) (.pair (.int .u8) (.pair (.sl (.pair (.int .u8) (.sl (.int .u8)))) (.pair (.sl (.pair (.int .u8) (.sl (.int .u8)))) (.int .i64))))))), (.int .i64), (.pair (.int .u8) (.pair (.int .u8) (.sl (.int .u8)))), (.pair (.int .u8) (.pair (.int .u8) (.sl (.int .u8))))] [(.pair (.pair .bool (.pair (.pair (.int .u16) (.pair (.int .u32) .bool)) (.pair .bool (.pair .bool (.pair (.int .u32) (.pair (.int .u32) (.pair (.int .u32) .bool))))))) (.pair (.int .i64) (.pair (.pair (.int .i64) (.int .i64)) (.pair (.int .u8) (.pair (.sl (.pair (.int .u8) (.sl (.int .u8)))) (.pair (.sl (.pair (.int .u8) (.sl (.int .u8)))) (.int .i64))))))), (.pair (.sl (.pair (.int .u8) (.pair (.int .u8) (.sl (.int .u8))))) (.pair .bool (.pair .bool (.pair .bool .bool))))] (n0, e1, came2, answer3, ())).run = nego_Nego_done N n0 e1 came2 answer3 := by kernel_rfl
noncomputable def Ev109 : (R : Type) → Env R := Env.addFn (Ev108 N) 22 (fun R => fnK [(.pair (.pair .bool (.pair (.pair (.int .u16) (.pair (.int .u32) .bool)) (.pair .bool (.pair .bool (.pair (.int .u32) (.pair (.int .u32) (.pair (.int .u32) .bool))))))) (.pair (.int .i64) (.pair (.pair (.int .i64) (.int .i64)) (.pair (.int .u8) (.pair (.sl (.pair (.int .u8) (.sl (.int .u8)))) (.pair (.sl (.pair (.int .u8) (.sl (.int .u8)))) (.int .i64))))))), (.int .i64), (.pair (.int .u8) (.pair (.int .u8) (.sl (.int .u8)))), (.pair (.int .u8) (.pair (.int .u8) (.sl (.int .u8))))] [(.pair (.pair .bool (.pair (.pair (.int .u16) (.pair (.int .u32) .bool)) (.pair .bool (.pair .bool (.pair (.int .u32) (.pair (.int .u32) (.pair (.int .u32) .bool))))))) (.pair (.int .i64) (.pair (.pair (.int .i64) (.int .i64)) (.pair (.int .u8) (.pair (.sl (.pair (.int .u8) (.sl (.int .u8)))) (.pair (.sl (.pair (.int .u8) (.sl (.int .u8)))) (.int .i64))))))), (.pair (.sl (.pair (.int .u8) (.pair (.int .u8) (.sl (.int .u8))))) (.pair .bool (.pair .bool (.pair .bool .bool))))] (fun c => nego_Nego_done N c.1 c.2.1 c.2.2.1 c.2.2.2.1))
theorem Ev109_ok (R : Type) : EnvOK Try.prog (Ev109 N R) := EnvOK.addFn hmx (Ev108_ok N R) (Ev108_ok N _) (by kernel_rfl) (fun c => nego_Nego_done_S N c.1 c.2.1 c.2.2.1 c.2.2.2.1)
noncomputable def Ev110 : (R : Type) → Env R := Env.addBx (Ev109 N) [(28, 0)]
theorem Ev110_ok (R : Type) : EnvOK Try.prog (Ev110 N R) := EnvOK.addBx (Ev109_ok N R) [(28, 0)]
noncomputable def nego_Nego_event (N : Nat) (n0 : (Bool × ((Int × (Int × (Bool))) × (Bool × (Bool × (Int × (Int × (Int × (Bool)))))))) × (Int × ((Int × Int) × (Int × ((List (Int × (List Int))) × ((List (Int × (List Int))) × Int)))))) (c1 : Int × (Int × (List Int))) : Option Int :=
 bif (decide (c1.1 = (5 : Int))) then
  some ((10 : Int))
 else
  bif (decide (c1.1 = (6 : Int))) then
   some ((11 : Int))
  else
   bif (decide (c1.1 = (7 : Int))) then
    Option.bind (bif (decide ((0 : Int) < (((List.length c1.2.2) : Nat) : Int))) then
      Option.bind (getI c1.2.2 (0 : Int)) fun (v3 : Int) =>
      some ((cond true (decide ((1 : Int) ≤ v3)) false))
     else
      some (false)) fun (v3 : Bool) =>
    Option.bind (bif v3 then
      Option.bind (getI c1.2.2 (0 : Int)) fun (v4 : Int) =>
      some ((cond true (decide (v4 ≤ (7 : Int))) false))
     else
      some (false)) fun (v4 : Bool) =>
    bif v4 then
     some ((14 : Int))
    else
     some ((13 : Int))
   else
    bif (decide (c1.1 = (8 : Int))) then
     bif (!n0.1.1) then
      some ((13 : Int))
     else
      some ((12 : Int))
    else
     bif (decide (c1.1 = (9 : Int))) then
      bif (decide (c1.1 = (9 : Int))) then
       bif (!n0.1.1) then
        some ((15 : Int))
       else
        some ((12 : Int))
      else
       some ((12 : Int))
     else
      bif (decide (c1.1 = (10 : Int))) then
       bif (decide (c1.1 = (10 : Int))) then
        bif (!n0.1.1) then
         some ((15 : Int))
        else
         some ((12 : Int))
       else
        some ((12 : Int))
      else
       bif (decide (c1.1 = (11 : Int))) then
        bif (!n0.1.1) then
         some ((15 : Int))
        else
         some ((12 : Int))
       else
        some ((12 : Int))
theorem nego_Nego_event_S (n0 : (Bool × ((Int × (Int × (Bool))) × (Bool × (Bool × (Int × (Int × (Int × (Bool)))))))) × (Int × ((Int × Int) × (Int × ((List (Int × (List Int))) × ((List (Int × (List Int))) × Int)))))) (c1 : Int × (Int × (List Int))) : (runK Try.prog (Ev110 N) 400 28 [(.pair (.pair .bool (.pair (.pair (.int .u16) (.pair (.int .u32) .bool)) (.pair .bool (.pair .bool (.pair (.int .u32) (.pair (.int .u32) (.pair (.int .u32) .bool))))))) (.pair (.int .i64) (.pair (.pair (.int .i64) (.int .i64)) (.pair (.int .u8) (.pair (.sl (.pair (.int .u8) (.sl (.int .u8)))) (.pair (.sl (.pair (.int .u8) (.sl (.int .u8)))) (.int .i64))))))), (.pair (.int .u8) (.pair (.int .u8) (.sl (.int .u8))))] [(.int .i64)] (n0, c1, ())).run = nego_Nego_event N n0 c1 := by kernel_rfl
noncomputable def Ev111 : (R : Type) → Env R := Env.addFn (Ev110 N) 28 (fun R => fnK [(.pair (.pair .bool (.pair (.pair (.int .u16) (.pair (.int .u32) .bool)) (.pair .bool (.pair .bool (.pair (.int .u32) (.pair (.int .u32) (.pair (.int .u32) .bool))))))) (.pair (.int .i64) (.pair (.pair (.int .i64) (.int .i64)) (.pair (.int .u8) (.pair (.sl (.pair (.int .u8) (.sl (.int .u8)))) (.pair (.sl (.pair (.int .u8) (.sl (.int .u8)))) (.int .i64))))))), (.pair (.int .u8) (.pair (.int .u8) (.sl (.int .u8))))] [(.int .i64)] (fun c => nego_Nego_event N c.1 c.2.1))
theorem Ev111_ok (R : Type) : EnvOK Try.prog (Ev111 N R) := EnvOK.addFn hmx (Ev110_ok N R) (Ev110_ok N _) (by kernel_rfl) (fun c => nego_Nego_event_S N c.1 c.2.1)
noncomputable def Ev112 : (R : Type) → Env R := Env.addBx (Ev111 N) [(50, 0)]
theorem Ev112_ok (R : Type) : EnvOK Try.prog (Ev112 N R) := EnvOK.addBx (Ev111_ok N R) [(50, 0)]
noncomputable def nego_Nego_judged (n0 : (Bool × ((Int × (Int × (Bool))) × (Bool × (Bool × (Int × (Int × (Int × (Bool)))))))) × (Int × ((Int × Int) × (Int × ((List (Int × (List Int))) × ((List (Int × (List Int))) × Int)))))) (l1 : List (Int × (List Int))) : Option (Int × List (Int × (List Int))) :=
 bif n0.1.1 then
  Option.bind (ipcpo_Judge N (n0.1.2.2.2.1, (n0.1.2.2.2.2.1, (n0.1.2.2.2.2.2.1, (n0.1.2.2.2.2.2.2.1, n0.1.2.2.2.2.2.2.2)))) l1) fun v3 =>
  some ((v3.1, v3.2))
 else
  Option.bind (lcpo_Of N l1) fun v3 =>
  Option.bind (lcpo_Judge N l1 n0.1.2.2.1 n0.1.2.1.2.1 (@maxI (1 : Int) (IntKind.wrap .u32 ((IntKind.wrap .u32 ((2654435761 : Int) * (IntKind.wrap .u32 (n0.1.2.1.2.1 + v3.2.1)))) + 1)))) fun v4 =>
  some ((v4.1, v4.2))
theorem nego_Nego_judged_S (n0 : (Bool × ((Int × (Int × (Bool))) × (Bool × (Bool × (Int × (Int × (Int × (Bool)))))))) × (Int × ((Int × Int) × (Int × ((List (Int × (List Int))) × ((List (Int × (List Int))) × Int)))))) (l1 : List (Int × (List Int))) : (runK Try.prog (Ev112 N) 400 50 [(.pair (.pair .bool (.pair (.pair (.int .u16) (.pair (.int .u32) .bool)) (.pair .bool (.pair .bool (.pair (.int .u32) (.pair (.int .u32) (.pair (.int .u32) .bool))))))) (.pair (.int .i64) (.pair (.pair (.int .i64) (.int .i64)) (.pair (.int .u8) (.pair (.sl (.pair (.int .u8) (.sl (.int .u8)))) (.pair (.sl (.pair (.int .u8) (.sl (.int .u8)))) (.int .i64))))))), (.sl (.pair (.int .u8) (.sl (.int .u8))))] [(.int .u8), (.sl (.pair (.int .u8) (.sl (.int .u8))))] (n0, l1, ())).run = nego_Nego_judged N n0 l1 := by kernel_rfl
noncomputable def Ev113 : (R : Type) → Env R := Env.addFn (Ev112 N) 50 (fun R => fnK [(.pair (.pair .bool (.pair (.pair (.int .u16) (.pair (.int .u32) .bool)) (.pair .bool (.pair .bool (.pair (.int .u32) (.pair (.int .u32) (.pair (.int .u32) .bool))))))) (.pair (.int .i64) (.pair (.pair (.int .i64) (.int .i64)) (.pair (.int .u8) (.pair (.sl (.pair (.int .u8) (.sl (.int .u8)))) (.pair (.sl (.pair (.int .u8) (.sl (.int .u8)))) (.int .i64))))))), (.sl (.pair (.int .u8) (.sl (.int .u8))))] [(.int .u8), (.sl (.pair (.int .u8) (.sl (.int .u8))))] (fun c => nego_Nego_judged N c.1 c.2.1))
theorem Ev113_ok (R : Type) : EnvOK Try.prog (Ev113 N R) := EnvOK.addFn hmx (Ev112_ok N R) (Ev112_ok N _) (by kernel_rfl) (fun c => nego_Nego_judged_S N c.1 c.2.1)
noncomputable def nego_Nego_judge (n0 : (Bool × ((Int × (Int × (Bool))) × (Bool × (Bool × (Int × (Int × (Int × (Bool)))))))) × (Int × ((Int × Int) × (Int × ((List (Int × (List Int))) × ((List (Int × (List Int))) × Int)))))) (c1 : Int × (Int × (List Int))) : Option (((Bool × ((Int × (Int × (Bool))) × (Bool × (Bool × (Int × (Int × (Int × (Bool)))))))) × (Int × ((Int × Int) × (Int × ((List (Int × (List Int))) × ((List (Int × (List Int))) × Int)))))) × (List (Int × (Int × (List Int)))) × (Bool × (Bool × (Bool × (Bool))))) :=
 Option.bind (ctl_Options N (c1.1, (c1.2.1, c1.2.2))) fun v3 =>
 bif (!(decide (v3.2 = (0 : Int)))) then
  some ((((n0.1.1, ((n0.1.2.1.1, (n0.1.2.1.2.1, n0.1.2.1.2.2)), (n0.1.2.2.1, (n0.1.2.2.2.1, (n0.1.2.2.2.2.1, (n0.1.2.2.2.2.2.1, (n0.1.2.2.2.2.2.2.1, n0.1.2.2.2.2.2.2.2))))))), (n0.2.1, ((n0.2.2.1.1, n0.2.2.1.2), (n0.2.2.2.1, (n0.2.2.2.2.1, (n0.2.2.2.2.2.1, n0.2.2.2.2.2.2)))))), (([] : List ((Int × (Int × (List Int))))), (false, (false, (false, false))))))
 else
  Option.bind (nego_Nego_judged N ((n0.1.1, ((n0.1.2.1.1, (n0.1.2.1.2.1, n0.1.2.1.2.2)), (n0.1.2.2.1, (n0.1.2.2.2.1, (n0.1.2.2.2.2.1, (n0.1.2.2.2.2.2.1, (n0.1.2.2.2.2.2.2.1, n0.1.2.2.2.2.2.2.2))))))), (n0.2.1, ((n0.2.2.1.1, n0.2.2.1.2), (n0.2.2.2.1, (n0.2.2.2.2.1, (n0.2.2.2.2.2.1, n0.2.2.2.2.2.2)))))) v3.1) fun v4 =>
  bif (decide (v4.1 = (2 : Int))) then
   Option.bind (ctl_Conf N v4.1 c1.2.1 v4.2) fun v5 =>
   Option.bind (nego_Nego_done N ((n0.1.1, ((n0.1.2.1.1, (n0.1.2.1.2.1, n0.1.2.1.2.2)), (n0.1.2.2.1, (n0.1.2.2.2.1, (n0.1.2.2.2.2.1, (n0.1.2.2.2.2.2.1, (n0.1.2.2.2.2.2.2.1, n0.1.2.2.2.2.2.2.2))))))), (n0.2.1, ((n0.2.2.1.1, n0.2.2.1.2), (n0.2.2.2.1, (n0.2.2.2.2.1, (v3.1, n0.2.2.2.2.2.2)))))) (6 : Int) (c1.1, (c1.2.1, c1.2.2)) (v5.1.1, (v5.1.2.1, v5.1.2.2))) fun v6 =>
   some ((((v6.1.1.1, ((v6.1.1.2.1.1, (v6.1.1.2.1.2.1, v6.1.1.2.1.2.2)), (v6.1.1.2.2.1, (v6.1.1.2.2.2.1, (v6.1.1.2.2.2.2.1, (v6.1.1.2.2.2.2.2.1, (v6.1.1.2.2.2.2.2.2.1, v6.1.1.2.2.2.2.2.2.2))))))), (v6.1.2.1, ((v6.1.2.2.1.1, v6.1.2.2.1.2), (v6.1.2.2.2.1, (v6.1.2.2.2.2.1, (v6.1.2.2.2.2.2.1, v6.1.2.2.2.2.2.2)))))), (v6.2.1, (v6.2.2.1, (v6.2.2.2.1, (v6.2.2.2.2.1, v6.2.2.2.2.2))))))
  else
   bif (decide (v4.1 = (3 : Int))) then
    bif (decide ((5 : Int) < (IntKind.wrap .i64 (n0.2.2.2.2.2.2 + 1)))) then
     Option.bind (opts_Kinds N v4.2) fun v5 =>
     Option.bind (nego_of N v3.1 v5) fun v6 =>
     Option.bind (ctl_Conf N (4 : Int) c1.2.1 v6) fun v7 =>
     Option.bind (nego_Nego_done N ((n0.1.1, ((n0.1.2.1.1, (n0.1.2.1.2.1, n0.1.2.1.2.2)), (n0.1.2.2.1, (n0.1.2.2.2.1, (n0.1.2.2.2.2.1, (n0.1.2.2.2.2.2.1, (n0.1.2.2.2.2.2.2.1, n0.1.2.2.2.2.2.2.2))))))), (n0.2.1, ((n0.2.2.1.1, n0.2.2.1.2), (n0.2.2.2.1, (n0.2.2.2.2.1, (n0.2.2.2.2.2.1, (IntKind.wrap .i64 (n0.2.2.2.2.2.2 + 1)))))))) (7 : Int) (c1.1, (c1.2.1, c1.2.2)) (v7.1.1, (v7.1.2.1, v7.1.2.2))) fun v8 =>
     some ((((v8.1.1.1, ((v8.1.1.2.1.1, (v8.1.1.2.1.2.1, v8.1.1.2.1.2.2)), (v8.1.1.2.2.1, (v8.1.1.2.2.2.1, (v8.1.1.2.2.2.2.1, (v8.1.1.2.2.2.2.2.1, (v8.1.1.2.2.2.2.2.2.1, v8.1.1.2.2.2.2.2.2.2))))))), (v8.1.2.1, ((v8.1.2.2.1.1, v8.1.2.2.1.2), (v8.1.2.2.2.1, (v8.1.2.2.2.2.1, (v8.1.2.2.2.2.2.1, v8.1.2.2.2.2.2.2)))))), (v8.2.1, (v8.2.2.1, (v8.2.2.2.1, (v8.2.2.2.2.1, v8.2.2.2.2.2))))))
    else
     Option.bind (ctl_Conf N v4.1 c1.2.1 v4.2) fun v5 =>
     Option.bind (nego_Nego_done N ((n0.1.1, ((n0.1.2.1.1, (n0.1.2.1.2.1, n0.1.2.1.2.2)), (n0.1.2.2.1, (n0.1.2.2.2.1, (n0.1.2.2.2.2.1, (n0.1.2.2.2.2.2.1, (n0.1.2.2.2.2.2.2.1, n0.1.2.2.2.2.2.2.2))))))), (n0.2.1, ((n0.2.2.1.1, n0.2.2.1.2), (n0.2.2.2.1, (n0.2.2.2.2.1, (n0.2.2.2.2.2.1, (IntKind.wrap .i64 (n0.2.2.2.2.2.2 + 1)))))))) (7 : Int) (c1.1, (c1.2.1, c1.2.2)) (v5.1.1, (v5.1.2.1, v5.1.2.2))) fun v6 =>
     some ((((v6.1.1.1, ((v6.1.1.2.1.1, (v6.1.1.2.1.2.1, v6.1.1.2.1.2.2)), (v6.1.1.2.2.1, (v6.1.1.2.2.2.1, (v6.1.1.2.2.2.2.1, (v6.1.1.2.2.2.2.2.1, (v6.1.1.2.2.2.2.2.2.1, v6.1.1.2.2.2.2.2.2.2))))))), (v6.1.2.1, ((v6.1.2.2.1.1, v6.1.2.2.1.2), (v6.1.2.2.2.1, (v6.1.2.2.2.2.1, (v6.1.2.2.2.2.2.1, v6.1.2.2.2.2.2.2)))))), (v6.2.1, (v6.2.2.1, (v6.2.2.2.1, (v6.2.2.2.2.1, v6.2.2.2.2.2))))))
   else
    Option.bind (ctl_Conf N v4.1 c1.2.1 v4.2) fun v5 =>
    Option.bind (nego_Nego_done N ((n0.1.1, ((n0.1.2.1.1, (n0.1.2.1.2.1, n0.1.2.1.2.2)), (n0.1.2.2.1, (n0.1.2.2.2.1, (n0.1.2.2.2.2.1, (n0.1.2.2.2.2.2.1, (n0.1.2.2.2.2.2.2.1, n0.1.2.2.2.2.2.2.2))))))), (n0.2.1, ((n0.2.2.1.1, n0.2.2.1.2), (n0.2.2.2.1, (n0.2.2.2.2.1, (n0.2.2.2.2.2.1, n0.2.2.2.2.2.2)))))) (7 : Int) (c1.1, (c1.2.1, c1.2.2)) (v5.1.1, (v5.1.2.1, v5.1.2.2))) fun v6 =>
    some ((((v6.1.1.1, ((v6.1.1.2.1.1, (v6.1.1.2.1.2.1, v6.1.1.2.1.2.2)), (v6.1.1.2.2.1, (v6.1.1.2.2.2.1, (v6.1.1.2.2.2.2.1, (v6.1.1.2.2.2.2.2.1, (v6.1.1.2.2.2.2.2.2.1, v6.1.1.2.2.2.2.2.2.2))))))), (v6.1.2.1, ((v6.1.2.2.1.1, v6.1.2.2.1.2), (v6.1.2.2.2.1, (v6.1.2.2.2.2.1, (v6.1.2.2.2.2.2.1, v6.1.2.2.2.2.2.2)))))), (v6.2.1, (v6.2.2.1, (v6.2.2.2.1, (v6.2.2.2.2.1, v6.2.2.2.2.2))))))
theorem nego_Nego_judge_S (n0 : (Bool × ((Int × (Int × (Bool))) × (Bool × (Bool × (Int × (Int × (Int × (Bool)))))))) × (Int × ((Int × Int) × (Int × ((List (Int × (List Int))) × ((List (Int × (List Int))) × Int)))))) (c1 : Int × (Int × (List Int))) : (runK Try.prog (Ev113 N) 400 25 [(.pair (.pair .bool (.pair (.pair (.int .u16) (.pair (.int .u32) .bool)) (.pair .bool (.pair .bool (.pair (.int .u32) (.pair (.int .u32) (.pair (.int .u32) .bool))))))) (.pair (.int .i64) (.pair (.pair (.int .i64) (.int .i64)) (.pair (.int .u8) (.pair (.sl (.pair (.int .u8) (.sl (.int .u8)))) (.pair (.sl (.pair (.int .u8) (.sl (.int .u8)))) (.int .i64))))))), (.pair (.int .u8) (.pair (.int .u8) (.sl (.int .u8))))] [(.pair (.pair .bool (.pair (.pair (.int .u16) (.pair (.int .u32) .bool)) (.pair .bool (.pair .bool (.pair (.int .u32) (.pair (.int .u32) (.pair (.int .u32) .bool))))))) (.pair (.int .i64) (.pair (.pair (.int .i64) (.int .i64)) (.pair (.int .u8) (.pair (.sl (.pair (.int .u8) (.sl (.int .u8)))) (.pair (.sl (.pair (.int .u8) (.sl (.int .u8)))) (.int .i64))))))), (.pair (.sl (.pair (.int .u8) (.pair (.int .u8) (.sl (.int .u8))))) (.pair .bool (.pair .bool (.pair .bool .bool))))] (n0, c1, ())).run = nego_Nego_judge N n0 c1 := by kernel_rfl
noncomputable def Ev114 : (R : Type) → Env R := Env.addFn (Ev113 N) 25 (fun R => fnK [(.pair (.pair .bool (.pair (.pair (.int .u16) (.pair (.int .u32) .bool)) (.pair .bool (.pair .bool (.pair (.int .u32) (.pair (.int .u32) (.pair (.int .u32) .bool))))))) (.pair (.int .i64) (.pair (.pair (.int .i64) (.int .i64)) (.pair (.int .u8) (.pair (.sl (.pair (.int .u8) (.sl (.int .u8)))) (.pair (.sl (.pair (.int .u8) (.sl (.int .u8)))) (.int .i64))))))), (.pair (.int .u8) (.pair (.int .u8) (.sl (.int .u8))))] [(.pair (.pair .bool (.pair (.pair (.int .u16) (.pair (.int .u32) .bool)) (.pair .bool (.pair .bool (.pair (.int .u32) (.pair (.int .u32) (.pair (.int .u32) .bool))))))) (.pair (.int .i64) (.pair (.pair (.int .i64) (.int .i64)) (.pair (.int .u8) (.pair (.sl (.pair (.int .u8) (.sl (.int .u8)))) (.pair (.sl (.pair (.int .u8) (.sl (.int .u8)))) (.int .i64))))))), (.pair (.sl (.pair (.int .u8) (.pair (.int .u8) (.sl (.int .u8))))) (.pair .bool (.pair .bool (.pair .bool .bool))))] (fun c => nego_Nego_judge N c.1 c.2.1))
theorem Ev114_ok (R : Type) : EnvOK Try.prog (Ev114 N R) := EnvOK.addFn hmx (Ev113_ok N R) (Ev113_ok N _) (by kernel_rfl) (fun c => nego_Nego_judge_S N c.1 c.2.1)
end
section
variable (N : Nat)
noncomputable def nego_Nego_agreed (n0 : (Bool × ((Int × (Int × (Bool))) × (Bool × (Bool × (Int × (Int × (Int × (Bool)))))))) × (Int × ((Int × Int) × (Int × ((List (Int × (List Int))) × ((List (Int × (List Int))) × Int)))))) (c1 : Int × (Int × (List Int))) : Option (((Bool × ((Int × (Int × (Bool))) × (Bool × (Bool × (Int × (Int × (Int × (Bool)))))))) × (Int × ((Int × Int) × (Int × ((List (Int × (List Int))) × ((List (Int × (List Int))) × Int)))))) × (List (Int × (Int × (List Int)))) × (Bool × (Bool × (Bool × (Bool))))) :=
 Option.bind (ctl_Options N (c1.1, (c1.2.1, c1.2.2))) fun v3 =>
 Option.bind (bif (!(decide (v3.2 = (0 : Int)))) then
   some (true)
  else
   some ((cond false true (!(decide (c1.2.1 = n0.2.2.2.1)))))) fun (v4 : Bool) =>
 bif v4 then
  some ((((n0.1.1, ((n0.1.2.1.1, (n0.1.2.1.2.1, n0.1.2.1.2.2)), (n0.1.2.2.1, (n0.1.2.2.2.1, (n0.1.2.2.2.2.1, (n0.1.2.2.2.2.2.1, (n0.1.2.2.2.2.2.2.1, n0.1.2.2.2.2.2.2.2))))))), (n0.2.1, ((n0.2.2.1.1, n0.2.2.1.2), (n0.2.2.2.1, (n0.2.2.2.2.1, (n0.2.2.2.2.2.1, n0.2.2.2.2.2.2)))))), (([] : List ((Int × (Int × (List Int))))), (false, (false, (false, false))))))
 else
  Option.bind (opts_Same N v3.1 n0.2.2.2.2.1) fun v5 =>
  Option.bind (some ((cond false true (!v5)))) fun (v6 : Bool) =>
  bif v6 then
   some ((((n0.1.1, ((n0.1.2.1.1, (n0.1.2.1.2.1, n0.1.2.1.2.2)), (n0.1.2.2.1, (n0.1.2.2.2.1, (n0.1.2.2.2.2.1, (n0.1.2.2.2.2.2.1, (n0.1.2.2.2.2.2.2.1, n0.1.2.2.2.2.2.2.2))))))), (n0.2.1, ((n0.2.2.1.1, n0.2.2.1.2), (n0.2.2.2.1, (n0.2.2.2.2.1, (n0.2.2.2.2.2.1, n0.2.2.2.2.2.2)))))), (([] : List ((Int × (Int × (List Int))))), (false, (false, (false, false))))))
  else
   Option.bind (nego_Nego_done N ((n0.1.1, ((n0.1.2.1.1, (n0.1.2.1.2.1, n0.1.2.1.2.2)), (n0.1.2.2.1, (n0.1.2.2.2.1, (n0.1.2.2.2.2.1, (n0.1.2.2.2.2.2.1, (n0.1.2.2.2.2.2.2.1, n0.1.2.2.2.2.2.2.2))))))), (n0.2.1, ((n0.2.2.1.1, n0.2.2.1.2), (n0.2.2.2.1, (n0.2.2.2.2.1, (n0.2.2.2.2.2.1, (0 : Int))))))) (8 : Int) (c1.1, (c1.2.1, c1.2.2)) ((0 : Int), ((0 : Int), ([] : List Int)))) fun v7 =>
   some ((((v7.1.1.1, ((v7.1.1.2.1.1, (v7.1.1.2.1.2.1, v7.1.1.2.1.2.2)), (v7.1.1.2.2.1, (v7.1.1.2.2.2.1, (v7.1.1.2.2.2.2.1, (v7.1.1.2.2.2.2.2.1, (v7.1.1.2.2.2.2.2.2.1, v7.1.1.2.2.2.2.2.2.2))))))), (v7.1.2.1, ((v7.1.2.2.1.1, v7.1.2.2.1.2), (v7.1.2.2.2.1, (v7.1.2.2.2.2.1, (v7.1.2.2.2.2.2.1, v7.1.2.2.2.2.2.2)))))), (v7.2.1, (v7.2.2.1, (v7.2.2.2.1, (v7.2.2.2.2.1, v7.2.2.2.2.2))))))
theorem nego_Nego_agreed_S (n0 : (Bool × ((Int × (Int × (Bool))) × (Bool × (Bool × (Int × (Int × (Int × (Bool)))))))) × (Int × ((Int × Int) × (Int × ((List (Int × (List Int))) × ((List (Int × (List Int))) × Int)))))) (c1 : Int × (Int × (List Int))) : (runK Try.prog (Ev114 N) 400 26 [(.pair (.pair .bool (.pair (.pair (.int .u16) (.pair (.int .u32) .bool)) (.pair .bool (.pair .bool (.pair (.int .u32) (.pair (.int .u32) (.pair (.int .u32) .bool))))))) (.pair (.int .i64) (.pair (.pair (.int .i64) (.int .i64)) (.pair (.int .u8) (.pair (.sl (.pair (.int .u8) (.sl (.int .u8)))) (.pair (.sl (.pair (.int .u8) (.sl (.int .u8)))) (.int .i64))))))), (.pair (.int .u8) (.pair (.int .u8) (.sl (.int .u8))))] [(.pair (.pair .bool (.pair (.pair (.int .u16) (.pair (.int .u32) .bool)) (.pair .bool (.pair .bool (.pair (.int .u32) (.pair (.int .u32) (.pair (.int .u32) .bool))))))) (.pair (.int .i64) (.pair (.pair (.int .i64) (.int .i64)) (.pair (.int .u8) (.pair (.sl (.pair (.int .u8) (.sl (.int .u8)))) (.pair (.sl (.pair (.int .u8) (.sl (.int .u8)))) (.int .i64))))))), (.pair (.sl (.pair (.int .u8) (.pair (.int .u8) (.sl (.int .u8))))) (.pair .bool (.pair .bool (.pair .bool .bool))))] (n0, c1, ())).run = nego_Nego_agreed N n0 c1 := by kernel_rfl
noncomputable def Ev115 : (R : Type) → Env R := Env.addFn (Ev114 N) 26 (fun R => fnK [(.pair (.pair .bool (.pair (.pair (.int .u16) (.pair (.int .u32) .bool)) (.pair .bool (.pair .bool (.pair (.int .u32) (.pair (.int .u32) (.pair (.int .u32) .bool))))))) (.pair (.int .i64) (.pair (.pair (.int .i64) (.int .i64)) (.pair (.int .u8) (.pair (.sl (.pair (.int .u8) (.sl (.int .u8)))) (.pair (.sl (.pair (.int .u8) (.sl (.int .u8)))) (.int .i64))))))), (.pair (.int .u8) (.pair (.int .u8) (.sl (.int .u8))))] [(.pair (.pair .bool (.pair (.pair (.int .u16) (.pair (.int .u32) .bool)) (.pair .bool (.pair .bool (.pair (.int .u32) (.pair (.int .u32) (.pair (.int .u32) .bool))))))) (.pair (.int .i64) (.pair (.pair (.int .i64) (.int .i64)) (.pair (.int .u8) (.pair (.sl (.pair (.int .u8) (.sl (.int .u8)))) (.pair (.sl (.pair (.int .u8) (.sl (.int .u8)))) (.int .i64))))))), (.pair (.sl (.pair (.int .u8) (.pair (.int .u8) (.sl (.int .u8))))) (.pair .bool (.pair .bool (.pair .bool .bool))))] (fun c => nego_Nego_agreed N c.1 c.2.1))
theorem Ev115_ok (R : Type) : EnvOK Try.prog (Ev115 N R) := EnvOK.addFn hmx (Ev114_ok N R) (Ev114_ok N _) (by kernel_rfl) (fun c => nego_Nego_agreed_S N c.1 c.2.1)
noncomputable def nego_Rules_turned (r0 : Bool × ((Int × (Int × (Bool))) × (Bool × (Bool × (Int × (Int × (Int × (Bool)))))))) (code1 : Int) (l2 : List (Int × (List Int))) : Option ((Bool × ((Int × (Int × (Bool))) × (Bool × (Bool × (Int × (Int × (Int × (Bool)))))))) × Bool) :=
 Option.bind (bif (decide (code1 = (3 : Int))) then
   some ((cond true r0.1 false))
  else
   some (false)) fun (v4 : Bool) =>
 bif v4 then
  Option.bind (ipcpo_Naked N (r0.2.2.2.1, (r0.2.2.2.2.1, (r0.2.2.2.2.2.1, (r0.2.2.2.2.2.2.1, r0.2.2.2.2.2.2.2)))) l2) fun v5 =>
  some (((r0.1, ((r0.2.1.1, (r0.2.1.2.1, r0.2.1.2.2)), (r0.2.2.1, (v5.1, (v5.2.1, (v5.2.2.1, (v5.2.2.2.1, v5.2.2.2.2))))))), true))
 else
  bif (decide (code1 = (3 : Int))) then
   Option.bind (lcpo_Naked N (r0.2.1.1, (r0.2.1.2.1, r0.2.1.2.2)) l2 (@maxI (1 : Int) (IntKind.wrap .u32 ((IntKind.wrap .u32 ((2654435761 : Int) * r0.2.1.2.1)) + 1)))) fun v5 =>
   some (((r0.1, ((v5.1, (v5.2.1, v5.2.2)), (r0.2.2.1, (r0.2.2.2.1, (r0.2.2.2.2.1, (r0.2.2.2.2.2.1, (r0.2.2.2.2.2.2.1, r0.2.2.2.2.2.2.2))))))), true))
  else
   bif r0.1 then
    Option.bind (ipcpo_Rejected N (r0.2.2.2.1, (r0.2.2.2.2.1, (r0.2.2.2.2.2.1, (r0.2.2.2.2.2.2.1, r0.2.2.2.2.2.2.2)))) l2) fun v5 =>
    some (((r0.1, ((r0.2.1.1, (r0.2.1.2.1, r0.2.1.2.2)), (r0.2.2.1, (v5.1.1, (v5.1.2.1, (v5.1.2.2.1, (v5.1.2.2.2.1, v5.1.2.2.2.2))))))), v5.2))
   else
    Option.bind (lcpo_Rejected N (r0.2.1.1, (r0.2.1.2.1, r0.2.1.2.2)) l2) fun v5 =>
    some (((r0.1, ((v5.1.1, (v5.1.2.1, v5.1.2.2)), (r0.2.2.1, (r0.2.2.2.1, (r0.2.2.2.2.1, (r0.2.2.2.2.2.1, (r0.2.2.2.2.2.2.1, r0.2.2.2.2.2.2.2))))))), v5.2))
theorem nego_Rules_turned_S (r0 : Bool × ((Int × (Int × (Bool))) × (Bool × (Bool × (Int × (Int × (Int × (Bool)))))))) (code1 : Int) (l2 : List (Int × (List Int))) : (runK Try.prog (Ev115 N) 400 55 [(.pair .bool (.pair (.pair (.int .u16) (.pair (.int .u32) .bool)) (.pair .bool (.pair .bool (.pair (.int .u32) (.pair (.int .u32) (.pair (.int .u32) .bool))))))), (.int .u8), (.sl (.pair (.int .u8) (.sl (.int .u8))))] [(.pair .bool (.pair (.pair (.int .u16) (.pair (.int .u32) .bool)) (.pair .bool (.pair .bool (.pair (.int .u32) (.pair (.int .u32) (.pair (.int .u32) .bool))))))), .bool] (r0, code1, l2, ())).run = nego_Rules_turned N r0 code1 l2 := by kernel_rfl
noncomputable def Ev116 : (R : Type) → Env R := Env.addFn (Ev115 N) 55 (fun R => fnK [(.pair .bool (.pair (.pair (.int .u16) (.pair (.int .u32) .bool)) (.pair .bool (.pair .bool (.pair (.int .u32) (.pair (.int .u32) (.pair (.int .u32) .bool))))))), (.int .u8), (.sl (.pair (.int .u8) (.sl (.int .u8))))] [(.pair .bool (.pair (.pair (.int .u16) (.pair (.int .u32) .bool)) (.pair .bool (.pair .bool (.pair (.int .u32) (.pair (.int .u32) (.pair (.int .u32) .bool))))))), .bool] (fun c => nego_Rules_turned N c.1 c.2.1 c.2.2.1))
theorem Ev116_ok (R : Type) : EnvOK Try.prog (Ev116 N R) := EnvOK.addFn hmx (Ev115_ok N R) (Ev115_ok N _) (by kernel_rfl) (fun c => nego_Rules_turned_S N c.1 c.2.1 c.2.2.1)
noncomputable def nego_Nego_refused (n0 : (Bool × ((Int × (Int × (Bool))) × (Bool × (Bool × (Int × (Int × (Int × (Bool)))))))) × (Int × ((Int × Int) × (Int × ((List (Int × (List Int))) × ((List (Int × (List Int))) × Int)))))) (c1 : Int × (Int × (List Int))) : Option (((Bool × ((Int × (Int × (Bool))) × (Bool × (Bool × (Int × (Int × (Int × (Bool)))))))) × (Int × ((Int × Int) × (Int × ((List (Int × (List Int))) × ((List (Int × (List Int))) × Int)))))) × (List (Int × (Int × (List Int)))) × (Bool × (Bool × (Bool × (Bool))))) :=
 Option.bind (ctl_Options N (c1.1, (c1.2.1, c1.2.2))) fun v3 =>
 Option.bind (bif (!(decide (v3.2 = (0 : Int)))) then
   some (true)
  else
   some ((cond false true (!(decide (c1.2.1 = n0.2.2.2.1)))))) fun (v4 : Bool) =>
 bif v4 then
  some ((((n0.1.1, ((n0.1.2.1.1, (n0.1.2.1.2.1, n0.1.2.1.2.2)), (n0.1.2.2.1, (n0.1.2.2.2.1, (n0.1.2.2.2.2.1, (n0.1.2.2.2.2.2.1, (n0.1.2.2.2.2.2.2.1, n0.1.2.2.2.2.2.2.2))))))), (n0.2.1, ((n0.2.2.1.1, n0.2.2.1.2), (n0.2.2.2.1, (n0.2.2.2.2.1, (n0.2.2.2.2.2.1, n0.2.2.2.2.2.2)))))), (([] : List ((Int × (Int × (List Int))))), (false, (false, (false, false))))))
 else
  Option.bind (some ((cond false true (decide ((((List.length v3.1) : Nat) : Int) = (0 : Int)))))) fun (v5 : Bool) =>
  bif v5 then
   some ((((n0.1.1, ((n0.1.2.1.1, (n0.1.2.1.2.1, n0.1.2.1.2.2)), (n0.1.2.2.1, (n0.1.2.2.2.1, (n0.1.2.2.2.2.1, (n0.1.2.2.2.2.2.1, (n0.1.2.2.2.2.2.2.1, n0.1.2.2.2.2.2.2.2))))))), (n0.2.1, ((n0.2.2.1.1, n0.2.2.1.2), (n0.2.2.2.1, (n0.2.2.2.2.1, (n0.2.2.2.2.2.1, n0.2.2.2.2.2.2)))))), (([] : List ((Int × (Int × (List Int))))), (false, (false, (false, false))))))
  else
   bif (decide (c1.1 = (4 : Int))) then
    Option.bind (opts_Among N v3.1 n0.2.2.2.2.1) fun v6 =>
    Option.bind (some ((cond true (!v6) false))) fun (v7 : Bool) =>
    bif v7 then
     some ((((n0.1.1, ((n0.1.2.1.1, (n0.1.2.1.2.1, n0.1.2.1.2.2)), (n0.1.2.2.1, (n0.1.2.2.2.1, (n0.1.2.2.2.2.1, (n0.1.2.2.2.2.2.1, (n0.1.2.2.2.2.2.2.1, n0.1.2.2.2.2.2.2.2))))))), (n0.2.1, ((n0.2.2.1.1, n0.2.2.1.2), (n0.2.2.2.1, (n0.2.2.2.2.1, (n0.2.2.2.2.2.1, n0.2.2.2.2.2.2)))))), (([] : List ((Int × (Int × (List Int))))), (false, (false, (false, false))))))
    else
     Option.bind (nego_Rules_turned N (n0.1.1, ((n0.1.2.1.1, (n0.1.2.1.2.1, n0.1.2.1.2.2)), (n0.1.2.2.1, (n0.1.2.2.2.1, (n0.1.2.2.2.2.1, (n0.1.2.2.2.2.2.1, (n0.1.2.2.2.2.2.2.1, n0.1.2.2.2.2.2.2.2))))))) c1.1 v3.1) fun v8 =>
     bif (!v8.2) then
      Option.bind (nego_Nego_done N ((v8.1.1, ((v8.1.2.1.1, (v8.1.2.1.2.1, v8.1.2.1.2.2)), (v8.1.2.2.1, (v8.1.2.2.2.1, (v8.1.2.2.2.2.1, (v8.1.2.2.2.2.2.1, (v8.1.2.2.2.2.2.2.1, v8.1.2.2.2.2.2.2.2))))))), (n0.2.1, ((n0.2.2.1.1, n0.2.2.1.2), (n0.2.2.2.1, (n0.2.2.2.2.1, (n0.2.2.2.2.2.1, n0.2.2.2.2.2.2)))))) (14 : Int) (c1.1, (c1.2.1, c1.2.2)) ((0 : Int), ((0 : Int), ([] : List Int)))) fun v9 =>
      some ((((v9.1.1.1, ((v9.1.1.2.1.1, (v9.1.1.2.1.2.1, v9.1.1.2.1.2.2)), (v9.1.1.2.2.1, (v9.1.1.2.2.2.1, (v9.1.1.2.2.2.2.1, (v9.1.1.2.2.2.2.2.1, (v9.1.1.2.2.2.2.2.2.1, v9.1.1.2.2.2.2.2.2.2))))))), (v9.1.2.1, ((v9.1.2.2.1.1, v9.1.2.2.1.2), (v9.1.2.2.2.1, (v9.1.2.2.2.2.1, (v9.1.2.2.2.2.2.1, v9.1.2.2.2.2.2.2)))))), (v9.2.1, (v9.2.2.1, (v9.2.2.2.1, (v9.2.2.2.2.1, v9.2.2.2.2.2))))))
     else
      Option.bind (nego_Nego_done N ((v8.1.1, ((v8.1.2.1.1, (v8.1.2.1.2.1, v8.1.2.1.2.2)), (v8.1.2.2.1, (v8.1.2.2.2.1, (v8.1.2.2.2.2.1, (v8.1.2.2.2.2.2.1, (v8.1.2.2.2.2.2.2.1, v8.1.2.2.2.2.2.2.2))))))), (n0.2.1, ((n0.2.2.1.1, n0.2.2.1.2), (n0.2.2.2.1, (n0.2.2.2.2.1, (n0.2.2.2.2.2.1, n0.2.2.2.2.2.2)))))) (9 : Int) (c1.1, (c1.2.1, c1.2.2)) ((0 : Int), ((0 : Int), ([] : List Int)))) fun v9 =>
      some ((((v9.1.1.1, ((v9.1.1.2.1.1, (v9.1.1.2.1.2.1, v9.1.1.2.1.2.2)), (v9.1.1.2.2.1, (v9.1.1.2.2.2.1, (v9.1.1.2.2.2.2.1, (v9.1.1.2.2.2.2.2.1, (v9.1.1.2.2.2.2.2.2.1, v9.1.1.2.2.2.2.2.2.2))))))), (v9.1.2.1, ((v9.1.2.2.1.1, v9.1.2.2.1.2), (v9.1.2.2.2.1, (v9.1.2.2.2.2.1, (v9.1.2.2.2.2.2.1, v9.1.2.2.2.2.2.2)))))), (v9.2.1, (v9.2.2.1, (v9.2.2.2.1, (v9.2.2.2.2.1, v9.2.2.2.2.2))))))
   else
    Option.bind (nego_Rules_turned N (n0.1.1, ((n0.1.2.1.1, (n0.1.2.1.2.1, n0.1.2.1.2.2)), (n0.1.2.2.1, (n0.1.2.2.2.1, (n0.1.2.2.2.2.1, (n0.1.2.2.2.2.2.1, (n0.1.2.2.2.2.2.2.1, n0.1.2.2.2.2.2.2.2))))))) c1.1 v3.1) fun v6 =>
    bif (!v6.2) then
     Option.bind (nego_Nego_done N ((v6.1.1, ((v6.1.2.1.1, (v6.1.2.1.2.1, v6.1.2.1.2.2)), (v6.1.2.2.1, (v6.1.2.2.2.1, (v6.1.2.2.2.2.1, (v6.1.2.2.2.2.2.1, (v6.1.2.2.2.2.2.2.1, v6.1.2.2.2.2.2.2.2))))))), (n0.2.1, ((n0.2.2.1.1, n0.2.2.1.2), (n0.2.2.2.1, (n0.2.2.2.2.1, (n0.2.2.2.2.2.1, n0.2.2.2.2.2.2)))))) (14 : Int) (c1.1, (c1.2.1, c1.2.2)) ((0 : Int), ((0 : Int), ([] : List Int)))) fun v7 =>
     some ((((v7.1.1.1, ((v7.1.1.2.1.1, (v7.1.1.2.1.2.1, v7.1.1.2.1.2.2)), (v7.1.1.2.2.1, (v7.1.1.2.2.2.1, (v7.1.1.2.2.2.2.1, (v7.1.1.2.2.2.2.2.1, (v7.1.1.2.2.2.2.2.2.1, v7.1.1.2.2.2.2.2.2.2))))))), (v7.1.2.1, ((v7.1.2.2.1.1, v7.1.2.2.1.2), (v7.1.2.2.2.1, (v7.1.2.2.2.2.1, (v7.1.2.2.2.2.2.1, v7.1.2.2.2.2.2.2)))))), (v7.2.1, (v7.2.2.1, (v7.2.2.2.1, (v7.2.2.2.2.1, v7.2.2.2.2.2))))))
    else
     Option.bind (nego_Nego_done N ((v6.1.1, ((v6.1.2.1.1, (v6.1.2.1.2.1, v6.1.2.1.2.2)), (v6.1.2.2.1, (v6.1.2.2.2.1, (v6.1.2.2.2.2.1, (v6.1.2.2.2.2.2.1, (v6.1.2.2.2.2.2.2.1, v6.1.2.2.2.2.2.2.2))))))), (n0.2.1, ((n0.2.2.1.1, n0.2.2.1.2), (n0.2.2.2.1, (n0.2.2.2.2.1, (n0.2.2.2.2.2.1, n0.2.2.2.2.2.2)))))) (9 : Int) (c1.1, (c1.2.1, c1.2.2)) ((0 : Int), ((0 : Int), ([] : List Int)))) fun v7 =>
     some ((((v7.1.1.1, ((v7.1.1.2.1.1, (v7.1.1.2.1.2.1, v7.1.1.2.1.2.2)), (v7.1.1.2.2.1, (v7.1.1.2.2.2.1, (v7.1.1.2.2.2.2.1, (v7.1.1.2.2.2.2.2.1, (v7.1.1.2.2.2.2.2.2.1, v7.1.1.2.2.2.2.2.2.2))))))), (v7.1.2.1, ((v7.1.2.2.1.1, v7.1.2.2.1.2), (v7.1.2.2.2.1, (v7.1.2.2.2.2.1, (v7.1.2.2.2.2.2.1, v7.1.2.2.2.2.2.2)))))), (v7.2.1, (v7.2.2.1, (v7.2.2.2.1, (v7.2.2.2.2.1, v7.2.2.2.2.2))))))
theorem nego_Nego_refused_S (n0 : (Bool × ((Int × (Int × (Bool))) × (Bool × (Bool × (Int × (Int × (Int × (Bool)))))))) × (Int × ((Int × Int) × (Int × ((List (Int × (List Int))) × ((List (Int × (List Int))) × Int)))))) (c1 : Int × (Int × (List Int))) : (runK Try.prog (Ev116 N) 400 27 [(.pair (.pair .bool (.pair (.pair (.int .u16) (.pair (.int .u32) .bool)) (.pair .bool (.pair .bool (.pair (.int .u32) (.pair (.int .u32) (.pair (.int .u32) .bool))))))) (.pair (.int .i64) (.pair (.pair (.int .i64) (.int .i64)) (.pair (.int .u8) (.pair (.sl (.pair (.int .u8) (.sl (.int .u8)))) (.pair (.sl (.pair (.int .u8) (.sl (.int .u8)))) (.int .i64))))))), (.pair (.int .u8) (.pair (.int .u8) (.sl (.int .u8))))] [(.pair (.pair .bool (.pair (.pair (.int .u16) (.pair (.int .u32) .bool)) (.pair .bool (.pair .bool (.pair (.int .u32) (.pair (.int .u32) (.pair (.int .u32) .bool))))))) (.pair (.int .i64) (.pair (.pair (.int .i64) (.int .i64)) (.pair (.int .u8) (.pair (.sl (.pair (.int .u8) (.sl (.int .u8)))) (.pair (.sl (.pair (.int .u8) (.sl (.int .u8)))) (.int .i64))))))), (.pair (.sl (.pair (.int .u8) (.pair (.int .u8) (.sl (.int .u8))))) (.pair .bool (.pair .bool (.pair .bool .bool))))] (n0, c1, ())).run = nego_Nego_refused N n0 c1 := by kernel_rfl
noncomputable def Ev117 : (R : Type) → Env R := Env.addFn (Ev116 N) 27 (fun R => fnK [(.pair (.pair .bool (.pair (.pair (.int .u16) (.pair (.int .u32) .bool)) (.pair .bool (.pair .bool (.pair (.int .u32) (.pair (.int .u32) (.pair (.int .u32) .bool))))))) (.pair (.int .i64) (.pair (.pair (.int .i64) (.int .i64)) (.pair (.int .u8) (.pair (.sl (.pair (.int .u8) (.sl (.int .u8)))) (.pair (.sl (.pair (.int .u8) (.sl (.int .u8)))) (.int .i64))))))), (.pair (.int .u8) (.pair (.int .u8) (.sl (.int .u8))))] [(.pair (.pair .bool (.pair (.pair (.int .u16) (.pair (.int .u32) .bool)) (.pair .bool (.pair .bool (.pair (.int .u32) (.pair (.int .u32) (.pair (.int .u32) .bool))))))) (.pair (.int .i64) (.pair (.pair (.int .i64) (.int .i64)) (.pair (.int .u8) (.pair (.sl (.pair (.int .u8) (.sl (.int .u8)))) (.pair (.sl (.pair (.int .u8) (.sl (.int .u8)))) (.int .i64))))))), (.pair (.sl (.pair (.int .u8) (.pair (.int .u8) (.sl (.int .u8))))) (.pair .bool (.pair .bool (.pair .bool .bool))))] (fun c => nego_Nego_refused N c.1 c.2.1))
theorem Ev117_ok (R : Type) : EnvOK Try.prog (Ev117 N R) := EnvOK.addFn hmx (Ev116_ok N R) (Ev116_ok N _) (by kernel_rfl) (fun c => nego_Nego_refused_S N c.1 c.2.1)
noncomputable def Ev118 : (R : Type) → Env R := Env.addBx (Ev117 N) [(9, 0)]
theorem Ev118_ok (R : Type) : EnvOK Try.prog (Ev118 N R) := EnvOK.addBx (Ev117_ok N R) [(9, 0)]
noncomputable def nego_Nego_Do (n0 : (Bool × ((Int × (Int × (Bool))) × (Bool × (Bool × (Int × (Int × (Int × (Bool)))))))) × (Int × ((Int × Int) × (Int × ((List (Int × (List Int))) × ((List (Int × (List Int))) × Int)))))) (e1 : Int) : Option (((Bool × ((Int × (Int × (Bool))) × (Bool × (Bool × (Int × (Int × (Int × (Bool)))))))) × (Int × ((Int × Int) × (Int × ((List (Int × (List Int))) × ((List (Int × (List Int))) × Int)))))) × (List (Int × (Int × (List Int)))) × (Bool × (Bool × (Bool × (Bool))))) :=
 bif (decide (e1 = (0 : Int))) then
  bif (decide (e1 = (0 : Int))) then
   Option.bind (nego_Nego_done N ((n0.1.1, ((n0.1.2.1.1, (n0.1.2.1.2.1, n0.1.2.1.2.2)), (n0.1.2.2.1, (n0.1.2.2.2.1, (n0.1.2.2.2.2.1, (n0.1.2.2.2.2.2.1, (n0.1.2.2.2.2.2.2.1, n0.1.2.2.2.2.2.2.2))))))), (n0.2.1, ((n0.2.2.1.1, n0.2.2.1.2), (n0.2.2.2.1, (n0.2.2.2.2.1, (n0.2.2.2.2.2.1, n0.2.2.2.2.2.2)))))) e1 ((0 : Int), ((0 : Int), ([] : List Int))) ((0 : Int), ((0 : Int), ([] : List Int)))) fun v3 =>
   some ((((v3.1.1.1, ((v3.1.1.2.1.1, (v3.1.1.2.1.2.1, v3.1.1.2.1.2.2)), (v3.1.1.2.2.1, (v3.1.1.2.2.2.1, (v3.1.1.2.2.2.2.1, (v3.1.1.2.2.2.2.2.1, (v3.1.1.2.2.2.2.2.2.1, v3.1.1.2.2.2.2.2.2.2))))))), (v3.1.2.1, ((v3.1.2.2.1.1, v3.1.2.2.1.2), (v3.1.2.2.2.1, (v3.1.2.2.2.2.1, (v3.1.2.2.2.2.2.1, v3.1.2.2.2.2.2.2)))))), (v3.2.1, (v3.2.2.1, (v3.2.2.2.1, (v3.2.2.2.2.1, v3.2.2.2.2.2))))))
  else
   some ((((n0.1.1, ((n0.1.2.1.1, (n0.1.2.1.2.1, n0.1.2.1.2.2)), (n0.1.2.2.1, (n0.1.2.2.2.1, (n0.1.2.2.2.2.1, (n0.1.2.2.2.2.2.1, (n0.1.2.2.2.2.2.2.1, n0.1.2.2.2.2.2.2.2))))))), (n0.2.1, ((n0.2.2.1.1, n0.2.2.1.2), (n0.2.2.2.1, (n0.2.2.2.2.1, (n0.2.2.2.2.2.1, n0.2.2.2.2.2.2)))))), (([] : List ((Int × (Int × (List Int))))), (false, (false, (false, false))))))
 else
  bif (decide (e1 = (1 : Int))) then
   bif (decide (e1 = (1 : Int))) then
    Option.bind (nego_Nego_done N ((n0.1.1, ((n0.1.2.1.1, (n0.1.2.1.2.1, n0.1.2.1.2.2)), (n0.1.2.2.1, (n0.1.2.2.2.1, (n0.1.2.2.2.2.1, (n0.1.2.2.2.2.2.1, (n0.1.2.2.2.2.2.2.1, n0.1.2.2.2.2.2.2.2))))))), (n0.2.1, ((n0.2.2.1.1, n0.2.2.1.2), (n0.2.2.2.1, (n0.2.2.2.2.1, (n0.2.2.2.2.2.1, n0.2.2.2.2.2.2)))))) e1 ((0 : Int), ((0 : Int), ([] : List Int))) ((0 : Int), ((0 : Int), ([] : List Int)))) fun v3 =>
    some ((((v3.1.1.1, ((v3.1.1.2.1.1, (v3.1.1.2.1.2.1, v3.1.1.2.1.2.2)), (v3.1.1.2.2.1, (v3.1.1.2.2.2.1, (v3.1.1.2.2.2.2.1, (v3.1.1.2.2.2.2.2.1, (v3.1.1.2.2.2.2.2.2.1, v3.1.1.2.2.2.2.2.2.2))))))), (v3.1.2.1, ((v3.1.2.2.1.1, v3.1.2.2.1.2), (v3.1.2.2.2.1, (v3.1.2.2.2.2.1, (v3.1.2.2.2.2.2.1, v3.1.2.2.2.2.2.2)))))), (v3.2.1, (v3.2.2.1, (v3.2.2.2.1, (v3.2.2.2.2.1, v3.2.2.2.2.2))))))
   else
    some ((((n0.1.1, ((n0.1.2.1.1, (n0.1.2.1.2.1, n0.1.2.1.2.2)), (n0.1.2.2.1, (n0.1.2.2.2.1, (n0.1.2.2.2.2.1, (n0.1.2.2.2.2.2.1, (n0.1.2.2.2.2.2.2.1, n0.1.2.2.2.2.2.2.2))))))), (n0.2.1, ((n0.2.2.1.1, n0.2.2.1.2), (n0.2.2.2.1, (n0.2.2.2.2.1, (n0.2.2.2.2.2.1, n0.2.2.2.2.2.2)))))), (([] : List ((Int × (Int × (List Int))))), (false, (false, (false, false))))))
  else
   bif (decide (e1 = (2 : Int))) then
    bif (decide (e1 = (2 : Int))) then
     Option.bind (nego_Nego_done N ((n0.1.1, ((n0.1.2.1.1, (n0.1.2.1.2.1, n0.1.2.1.2.2)), (n0.1.2.2.1, (n0.1.2.2.2.1, (n0.1.2.2.2.2.1, (n0.1.2.2.2.2.2.1, (n0.1.2.2.2.2.2.2.1, n0.1.2.2.2.2.2.2.2))))))), (n0.2.1, ((n0.2.2.1.1, n0.2.2.1.2), (n0.2.2.2.1, (n0.2.2.2.2.1, (n0.2.2.2.2.2.1, n0.2.2.2.2.2.2)))))) e1 ((0 : Int), ((0 : Int), ([] : List Int))) ((0 : Int), ((0 : Int), ([] : List Int)))) fun v3 =>
     some ((((v3.1.1.1, ((v3.1.1.2.1.1, (v3.1.1.2.1.2.1, v3.1.1.2.1.2.2)), (v3.1.1.2.2.1, (v3.1.1.2.2.2.1, (v3.1.1.2.2.2.2.1, (v3.1.1.2.2.2.2.2.1, (v3.1.1.2.2.2.2.2.2.1, v3.1.1.2.2.2.2.2.2.2))))))), (v3.1.2.1, ((v3.1.2.2.1.1, v3.1.2.2.1.2), (v3.1.2.2.2.1, (v3.1.2.2.2.2.1, (v3.1.2.2.2.2.2.1, v3.1.2.2.2.2.2.2)))))), (v3.2.1, (v3.2.2.1, (v3.2.2.2.1, (v3.2.2.2.2.1, v3.2.2.2.2.2))))))
    else
     some ((((n0.1.1, ((n0.1.2.1.1, (n0.1.2.1.2.1, n0.1.2.1.2.2)), (n0.1.2.2.1, (n0.1.2.2.2.1, (n0.1.2.2.2.2.1, (n0.1.2.2.2.2.2.1, (n0.1.2.2.2.2.2.2.1, n0.1.2.2.2.2.2.2.2))))))), (n0.2.1, ((n0.2.2.1.1, n0.2.2.1.2), (n0.2.2.2.1, (n0.2.2.2.2.1, (n0.2.2.2.2.2.1, n0.2.2.2.2.2.2)))))), (([] : List ((Int × (Int × (List Int))))), (false, (false, (false, false))))))
   else
    bif (decide (e1 = (3 : Int))) then
     Option.bind (nego_Nego_done N ((n0.1.1, ((n0.1.2.1.1, (n0.1.2.1.2.1, n0.1.2.1.2.2)), (n0.1.2.2.1, (n0.1.2.2.2.1, (n0.1.2.2.2.2.1, (n0.1.2.2.2.2.2.1, (n0.1.2.2.2.2.2.2.1, n0.1.2.2.2.2.2.2.2))))))), (n0.2.1, ((n0.2.2.1.1, n0.2.2.1.2), (n0.2.2.2.1, (n0.2.2.2.2.1, (n0.2.2.2.2.2.1, n0.2.2.2.2.2.2)))))) e1 ((0 : Int), ((0 : Int), ([] : List Int))) ((0 : Int), ((0 : Int), ([] : List Int)))) fun v3 =>
     some ((((v3.1.1.1, ((v3.1.1.2.1.1, (v3.1.1.2.1.2.1, v3.1.1.2.1.2.2)), (v3.1.1.2.2.1, (v3.1.1.2.2.2.1, (v3.1.1.2.2.2.2.1, (v3.1.1.2.2.2.2.2.1, (v3.1.1.2.2.2.2.2.2.1, v3.1.1.2.2.2.2.2.2.2))))))), (v3.1.2.1, ((v3.1.2.2.1.1, v3.1.2.2.1.2), (v3.1.2.2.2.1, (v3.1.2.2.2.2.1, (v3.1.2.2.2.2.2.1, v3.1.2.2.2.2.2.2)))))), (v3.2.1, (v3.2.2.1, (v3.2.2.2.1, (v3.2.2.2.2.1, v3.2.2.2.2.2))))))
    else
     some ((((n0.1.1, ((n0.1.2.1.1, (n0.1.2.1.2.1, n0.1.2.1.2.2)), (n0.1.2.2.1, (n0.1.2.2.2.1, (n0.1.2.2.2.2.1, (n0.1.2.2.2.2.2.1, (n0.1.2.2.2.2.2.2.1, n0.1.2.2.2.2.2.2.2))))))), (n0.2.1, ((n0.2.2.1.1, n0.2.2.1.2), (n0.2.2.2.1, (n0.2.2.2.2.1, (n0.2.2.2.2.2.1, n0.2.2.2.2.2.2)))))), (([] : List ((Int × (Int × (List Int))))), (false, (false, (false, false))))))
theorem nego_Nego_Do_S (n0 : (Bool × ((Int × (Int × (Bool))) × (Bool × (Bool × (Int × (Int × (Int × (Bool)))))))) × (Int × ((Int × Int) × (Int × ((List (Int × (List Int))) × ((List (Int × (List Int))) × Int)))))) (e1 : Int) : (runK Try.prog (Ev118 N) 400 9 [(.pair (.pair .bool (.pair (.pair (.int .u16) (.pair (.int .u32) .bool)) (.pair .bool (.pair .bool (.pair (.int .u32) (.pair (.int .u32) (.pair (.int .u32) .bool))))))) (.pair (.int .i64) (.pair (.pair (.int .i64) (.int .i64)) (.pair (.int .u8) (.pair (.sl (.pair (.int .u8) (.sl (.int .u8)))) (.pair (.sl (.pair (.int .u8) (.sl (.int .u8)))) (.int .i64))))))), (.int .i64)] [(.pair (.pair .bool (.pair (.pair (.int .u16) (.pair (.int .u32) .bool)) (.pair .bool (.pair .bool (.pair (.int .u32) (.pair (.int .u32) (.pair (.int .u32) .bool))))))) (.pair (.int .i64) (.pair (.pair (.int .i64) (.int .i64)) (.pair (.int .u8) (.pair (.sl (.pair (.int .u8) (.sl (.int .u8)))) (.pair (.sl (.pair (.int .u8) (.sl (.int .u8)))) (.int .i64))))))), (.pair (.sl (.pair (.int .u8) (.pair (.int .u8) (.sl (.int .u8))))) (.pair .bool (.pair .bool (.pair .bool .bool))))] (n0, e1, ())).run = nego_Nego_Do N n0 e1 := by kernel_rfl
noncomputable def Ev119 : (R : Type) → Env R := Env.addFn (Ev118 N) 9 (fun R => fnK [(.pair (.pair .bool (.pair (.pair (.int .u16) (.pair (.int .u32) .bool)) (.pair .bool (.pair .bool (.pair (.int .u32) (.pair (.int .u32) (.pair (.int .u32) .bool))))))) (.pair (.int .i64) (.pair (.pair (.int .i64) (.int .i64)) (.pair (.int .u8) (.pair (.sl (.pair (.int .u8) (.sl (.int .u8)))) (.pair (.sl (.pair (.int .u8) (.sl (.int .u8)))) (.int .i64))))))), (.int .i64)] [(.pair (.pair .bool (.pair (.pair (.int .u16) (.pair (.int .u32) .bool)) (.pair .bool (.pair .bool (.pair (.int .u32) (.pair (.int .u32) (.pair (.int .u32) .bool))))))) (.pair (.int .i64) (.pair (.pair (.int .i64) (.int .i64)) (.pair (.int .u8) (.pair (.sl (.pair (.int .u8) (.sl (.int .u8)))) (.pair (.sl (.pair (.int .u8) (.sl (.int .u8)))) (.int .i64))))))), (.pair (.sl (.pair (.int .u8) (.pair (.int .u8) (.sl (.int .u8))))) (.pair .bool (.pair .bool (.pair .bool .bool))))] (fun c => nego_Nego_Do N c.1 c.2.1))
theorem Ev119_ok (R : Type) : EnvOK Try.prog (Ev119 N R) := EnvOK.addFn hmx (Ev118_ok N R) (Ev118_ok N _) (by kernel_rfl) (fun c => nego_Nego_Do_S N c.1 c.2.1)
noncomputable def nego_Nego_Tick (n0 : (Bool × ((Int × (Int × (Bool))) × (Bool × (Bool × (Int × (Int × (Int × (Bool)))))))) × (Int × ((Int × Int) × (Int × ((List (Int × (List Int))) × ((List (Int × (List Int))) × Int)))))) : Option (((Bool × ((Int × (Int × (Bool))) × (Bool × (Bool × (Int × (Int × (Int × (Bool)))))))) × (Int × ((Int × Int) × (Int × ((List (Int × (List Int))) × ((List (Int × (List Int))) × Int)))))) × (List (Int × (Int × (List Int)))) × (Bool × (Bool × (Bool × (Bool))))) :=
 Option.bind (retry_Retry_Tick N (n0.2.2.1.1, n0.2.2.1.2)) fun v2 =>
 bif (!v2.2) then
  some ((((n0.1.1, ((n0.1.2.1.1, (n0.1.2.1.2.1, n0.1.2.1.2.2)), (n0.1.2.2.1, (n0.1.2.2.2.1, (n0.1.2.2.2.2.1, (n0.1.2.2.2.2.2.1, (n0.1.2.2.2.2.2.2.1, n0.1.2.2.2.2.2.2.2))))))), (n0.2.1, ((v2.1.1, v2.1.2), (n0.2.2.2.1, (n0.2.2.2.2.1, (n0.2.2.2.2.2.1, n0.2.2.2.2.2.2)))))), (([] : List ((Int × (Int × (List Int))))), (false, (false, (false, false))))))
 else
  bif (decide ((0 : Int) < v2.1.1)) then
   Option.bind (nego_Nego_done N ((n0.1.1, ((n0.1.2.1.1, (n0.1.2.1.2.1, n0.1.2.1.2.2)), (n0.1.2.2.1, (n0.1.2.2.2.1, (n0.1.2.2.2.2.1, (n0.1.2.2.2.2.2.1, (n0.1.2.2.2.2.2.2.1, n0.1.2.2.2.2.2.2.2))))))), (n0.2.1, ((v2.1.1, v2.1.2), (n0.2.2.2.1, (n0.2.2.2.2.1, (n0.2.2.2.2.2.1, n0.2.2.2.2.2.2)))))) (4 : Int) ((0 : Int), ((0 : Int), ([] : List Int))) ((0 : Int), ((0 : Int), ([] : List Int)))) fun v3 =>
   some ((((v3.1.1.1, ((v3.1.1.2.1.1, (v3.1.1.2.1.2.1, v3.1.1.2.1.2.2)), (v3.1.1.2.2.1, (v3.1.1.2.2.2.1, (v3.1.1.2.2.2.2.1, (v3.1.1.2.2.2.2.2.1, (v3.1.1.2.2.2.2.2.2.1, v3.1.1.2.2.2.2.2.2.2))))))), (v3.1.2.1, ((v3.1.2.2.1.1, v3.1.2.2.1.2), (v3.1.2.2.2.1, (v3.1.2.2.2.2.1, (v3.1.2.2.2.2.2.1, v3.1.2.2.2.2.2.2)))))), (v3.2.1, (v3.2.2.1, (v3.2.2.2.1, (v3.2.2.2.2.1, v3.2.2.2.2.2))))))
  else
   Option.bind (nego_Nego_done N ((n0.1.1, ((n0.1.2.1.1, (n0.1.2.1.2.1, n0.1.2.1.2.2)), (n0.1.2.2.1, (n0.1.2.2.2.1, (n0.1.2.2.2.2.1, (n0.1.2.2.2.2.2.1, (n0.1.2.2.2.2.2.2.1, n0.1.2.2.2.2.2.2.2))))))), (n0.2.1, ((v2.1.1, v2.1.2), (n0.2.2.2.1, (n0.2.2.2.2.1, (n0.2.2.2.2.2.1, n0.2.2.2.2.2.2)))))) (5 : Int) ((0 : Int), ((0 : Int), ([] : List Int))) ((0 : Int), ((0 : Int), ([] : List Int)))) fun v3 =>
   some ((((v3.1.1.1, ((v3.1.1.2.1.1, (v3.1.1.2.1.2.1, v3.1.1.2.1.2.2)), (v3.1.1.2.2.1, (v3.1.1.2.2.2.1, (v3.1.1.2.2.2.2.1, (v3.1.1.2.2.2.2.2.1, (v3.1.1.2.2.2.2.2.2.1, v3.1.1.2.2.2.2.2.2.2))))))), (v3.1.2.1, ((v3.1.2.2.1.1, v3.1.2.2.1.2), (v3.1.2.2.2.1, (v3.1.2.2.2.2.1, (v3.1.2.2.2.2.2.1, v3.1.2.2.2.2.2.2)))))), (v3.2.1, (v3.2.2.1, (v3.2.2.2.1, (v3.2.2.2.2.1, v3.2.2.2.2.2))))))
theorem nego_Nego_Tick_S (n0 : (Bool × ((Int × (Int × (Bool))) × (Bool × (Bool × (Int × (Int × (Int × (Bool)))))))) × (Int × ((Int × Int) × (Int × ((List (Int × (List Int))) × ((List (Int × (List Int))) × Int)))))) : (runK Try.prog (Ev119 N) 400 10 [(.pair (.pair .bool (.pair (.pair (.int .u16) (.pair (.int .u32) .bool)) (.pair .bool (.pair .bool (.pair (.int .u32) (.pair (.int .u32) (.pair (.int .u32) .bool))))))) (.pair (.int .i64) (.pair (.pair (.int .i64) (.int .i64)) (.pair (.int .u8) (.pair (.sl (.pair (.int .u8) (.sl (.int .u8)))) (.pair (.sl (.pair (.int .u8) (.sl (.int .u8)))) (.int .i64)))))))] [(.pair (.pair .bool (.pair (.pair (.int .u16) (.pair (.int .u32) .bool)) (.pair .bool (.pair .bool (.pair (.int .u32) (.pair (.int .u32) (.pair (.int .u32) .bool))))))) (.pair (.int .i64) (.pair (.pair (.int .i64) (.int .i64)) (.pair (.int .u8) (.pair (.sl (.pair (.int .u8) (.sl (.int .u8)))) (.pair (.sl (.pair (.int .u8) (.sl (.int .u8)))) (.int .i64))))))), (.pair (.sl (.pair (.int .u8) (.pair (.int .u8) (.sl (.int .u8))))) (.pair .bool (.pair .bool (.pair .bool .bool))))] (n0, ())).run = nego_Nego_Tick N n0 := by kernel_rfl
noncomputable def Ev120 : (R : Type) → Env R := Env.addFn (Ev119 N) 10 (fun R => fnK [(.pair (.pair .bool (.pair (.pair (.int .u16) (.pair (.int .u32) .bool)) (.pair .bool (.pair .bool (.pair (.int .u32) (.pair (.int .u32) (.pair (.int .u32) .bool))))))) (.pair (.int .i64) (.pair (.pair (.int .i64) (.int .i64)) (.pair (.int .u8) (.pair (.sl (.pair (.int .u8) (.sl (.int .u8)))) (.pair (.sl (.pair (.int .u8) (.sl (.int .u8)))) (.int .i64)))))))] [(.pair (.pair .bool (.pair (.pair (.int .u16) (.pair (.int .u32) .bool)) (.pair .bool (.pair .bool (.pair (.int .u32) (.pair (.int .u32) (.pair (.int .u32) .bool))))))) (.pair (.int .i64) (.pair (.pair (.int .i64) (.int .i64)) (.pair (.int .u8) (.pair (.sl (.pair (.int .u8) (.sl (.int .u8)))) (.pair (.sl (.pair (.int .u8) (.sl (.int .u8)))) (.int .i64))))))), (.pair (.sl (.pair (.int .u8) (.pair (.int .u8) (.sl (.int .u8))))) (.pair .bool (.pair .bool (.pair .bool .bool))))] (fun c => nego_Nego_Tick N c.1))
theorem Ev120_ok (R : Type) : EnvOK Try.prog (Ev120 N R) := EnvOK.addFn hmx (Ev119_ok N R) (Ev119_ok N _) (by kernel_rfl) (fun c => nego_Nego_Tick_S N c.1)
noncomputable def Ev121 : (R : Type) → Env R := Env.addBx (Ev120 N) [(11, 0)]
theorem Ev121_ok (R : Type) : EnvOK Try.prog (Ev121 N R) := EnvOK.addBx (Ev120_ok N R) [(11, 0)]
noncomputable def nego_Nego_Take (n0 : (Bool × ((Int × (Int × (Bool))) × (Bool × (Bool × (Int × (Int × (Int × (Bool)))))))) × (Int × ((Int × Int) × (Int × ((List (Int × (List Int))) × ((List (Int × (List Int))) × Int)))))) (c1 : Int × (Int × (List Int))) : Option (((Bool × ((Int × (Int × (Bool))) × (Bool × (Bool × (Int × (Int × (Int × (Bool)))))))) × (Int × ((Int × Int) × (Int × ((List (Int × (List Int))) × ((List (Int × (List Int))) × Int)))))) × (List (Int × (Int × (List Int)))) × (Bool × (Bool × (Bool × (Bool))))) :=
 bif (decide (c1.1 = (1 : Int))) then
  Option.bind (nego_Nego_judge N ((n0.1.1, ((n0.1.2.1.1, (n0.1.2.1.2.1, n0.1.2.1.2.2)), (n0.1.2.2.1, (n0.1.2.2.2.1, (n0.1.2.2.2.2.1, (n0.1.2.2.2.2.2.1, (n0.1.2.2.2.2.2.2.1, n0.1.2.2.2.2.2.2.2))))))), (n0.2.1, ((n0.2.2.1.1, n0.2.2.1.2), (n0.2.2.2.1, (n0.2.2.2.2.1, (n0.2.2.2.2.2.1, n0.2.2.2.2.2.2)))))) (c1.1, (c1.2.1, c1.2.2))) fun v3 =>
  some ((((v3.1.1.1, ((v3.1.1.2.1.1, (v3.1.1.2.1.2.1, v3.1.1.2.1.2.2)), (v3.1.1.2.2.1, (v3.1.1.2.2.2.1, (v3.1.1.2.2.2.2.1, (v3.1.1.2.2.2.2.2.1, (v3.1.1.2.2.2.2.2.2.1, v3.1.1.2.2.2.2.2.2.2))))))), (v3.1.2.1, ((v3.1.2.2.1.1, v3.1.2.2.1.2), (v3.1.2.2.2.1, (v3.1.2.2.2.2.1, (v3.1.2.2.2.2.2.1, v3.1.2.2.2.2.2.2)))))), (v3.2.1, (v3.2.2.1, (v3.2.2.2.1, (v3.2.2.2.2.1, v3.2.2.2.2.2))))))
 else
  bif (decide (c1.1 = (2 : Int))) then
   Option.bind (nego_Nego_agreed N ((n0.1.1, ((n0.1.2.1.1, (n0.1.2.1.2.1, n0.1.2.1.2.2)), (n0.1.2.2.1, (n0.1.2.2.2.1, (n0.1.2.2.2.2.1, (n0.1.2.2.2.2.2.1, (n0.1.2.2.2.2.2.2.1, n0.1.2.2.2.2.2.2.2))))))), (n0.2.1, ((n0.2.2.1.1, n0.2.2.1.2), (n0.2.2.2.1, (n0.2.2.2.2.1, (n0.2.2.2.2.2.1, n0.2.2.2.2.2.2)))))) (c1.1, (c1.2.1, c1.2.2))) fun v3 =>
   some ((((v3.1.1.1, ((v3.1.1.2.1.1, (v3.1.1.2.1.2.1, v3.1.1.2.1.2.2)), (v3.1.1.2.2.1, (v3.1.1.2.2.2.1, (v3.1.1.2.2.2.2.1, (v3.1.1.2.2.2.2.2.1, (v3.1.1.2.2.2.2.2.2.1, v3.1.1.2.2.2.2.2.2.2))))))), (v3.1.2.1, ((v3.1.2.2.1.1, v3.1.2.2.1.2), (v3.1.2.2.2.1, (v3.1.2.2.2.2.1, (v3.1.2.2.2.2.2.1, v3.1.2.2.2.2.2.2)))))), (v3.2.1, (v3.2.2.1, (v3.2.2.2.1, (v3.2.2.2.2.1, v3.2.2.2.2.2))))))
  else
   bif (decide (c1.1 = (3 : Int))) then
    bif (decide (c1.1 = (3 : Int))) then
     Option.bind (nego_Nego_refused N ((n0.1.1, ((n0.1.2.1.1, (n0.1.2.1.2.1, n0.1.2.1.2.2)), (n0.1.2.2.1, (n0.1.2.2.2.1, (n0.1.2.2.2.2.1, (n0.1.2.2.2.2.2.1, (n0.1.2.2.2.2.2.2.1, n0.1.2.2.2.2.2.2.2))))))), (n0.2.1, ((n0.2.2.1.1, n0.2.2.1.2), (n0.2.2.2.1, (n0.2.2.2.2.1, (n0.2.2.2.2.2.1, n0.2.2.2.2.2.2)))))) (c1.1, (c1.2.1, c1.2.2))) fun v3 =>
     some ((((v3.1.1.1, ((v3.1.1.2.1.1, (v3.1.1.2.1.2.1, v3.1.1.2.1.2.2)), (v3.1.1.2.2.1, (v3.1.1.2.2.2.1, (v3.1.1.2.2.2.2.1, (v3.1.1.2.2.2.2.2.1, (v3.1.1.2.2.2.2.2.2.1, v3.1.1.2.2.2.2.2.2.2))))))), (v3.1.2.1, ((v3.1.2.2.1.1, v3.1.2.2.1.2), (v3.1.2.2.2.1, (v3.1.2.2.2.2.1, (v3.1.2.2.2.2.2.1, v3.1.2.2.2.2.2.2)))))), (v3.2.1, (v3.2.2.1, (v3.2.2.2.1, (v3.2.2.2.2.1, v3.2.2.2.2.2))))))
    else
     Option.bind (nego_Nego_event N ((n0.1.1, ((n0.1.2.1.1, (n0.1.2.1.2.1, n0.1.2.1.2.2)), (n0.1.2.2.1, (n0.1.2.2.2.1, (n0.1.2.2.2.2.1, (n0.1.2.2.2.2.2.1, (n0.1.2.2.2.2.2.2.1, n0.1.2.2.2.2.2.2.2))))))), (n0.2.1, ((n0.2.2.1.1, n0.2.2.1.2), (n0.2.2.2.1, (n0.2.2.2.2.1, (n0.2.2.2.2.2.1, n0.2.2.2.2.2.2)))))) (c1.1, (c1.2.1, c1.2.2))) fun v3 =>
     Option.bind (nego_Nego_done N ((n0.1.1, ((n0.1.2.1.1, (n0.1.2.1.2.1, n0.1.2.1.2.2)), (n0.1.2.2.1, (n0.1.2.2.2.1, (n0.1.2.2.2.2.1, (n0.1.2.2.2.2.2.1, (n0.1.2.2.2.2.2.2.1, n0.1.2.2.2.2.2.2.2))))))), (n0.2.1, ((n0.2.2.1.1, n0.2.2.1.2), (n0.2.2.2.1, (n0.2.2.2.2.1, (n0.2.2.2.2.2.1, n0.2.2.2.2.2.2)))))) v3 (c1.1, (c1.2.1, c1.2.2)) ((0 : Int), ((0 : Int), ([] : List Int)))) fun v4 =>
     some ((((v4.1.1.1, ((v4.1.1.2.1.1, (v4.1.1.2.1.2.1, v4.1.1.2.1.2.2)), (v4.1.1.2.2.1, (v4.1.1.2.2.2.1, (v4.1.1.2.2.2.2.1, (v4.1.1.2.2.2.2.2.1, (v4.1.1.2.2.2.2.2.2.1, v4.1.1.2.2.2.2.2.2.2))))))), (v4.1.2.1, ((v4.1.2.2.1.1, v4.1.2.2.1.2), (v4.1.2.2.2.1, (v4.1.2.2.2.2.1, (v4.1.2.2.2.2.2.1, v4.1.2.2.2.2.2.2)))))), (v4.2.1, (v4.2.2.1, (v4.2.2.2.1, (v4.2.2.2.2.1, v4.2.2.2.2.2))))))
   else
    bif (decide (c1.1 = (4 : Int))) then
     Option.bind (nego_Nego_refused N ((n0.1.1, ((n0.1.2.1.1, (n0.1.2.1.2.1, n0.1.2.1.2.2)), (n0.1.2.2.1, (n0.1.2.2.2.1, (n0.1.2.2.2.2.1, (n0.1.2.2.2.2.2.1, (n0.1.2.2.2.2.2.2.1, n0.1.2.2.2.2.2.2.2))))))), (n0.2.1, ((n0.2.2.1.1, n0.2.2.1.2), (n0.2.2.2.1, (n0.2.2.2.2.1, (n0.2.2.2.2.2.1, n0.2.2.2.2.2.2)))))) (c1.1, (c1.2.1, c1.2.2))) fun v3 =>
     some ((((v3.1.1.1, ((v3.1.1.2.1.1, (v3.1.1.2.1.2.1, v3.1.1.2.1.2.2)), (v3.1.1.2.2.1, (v3.1.1.2.2.2.1, (v3.1.1.2.2.2.2.1, (v3.1.1.2.2.2.2.2.1, (v3.1.1.2.2.2.2.2.2.1, v3.1.1.2.2.2.2.2.2.2))))))), (v3.1.2.1, ((v3.1.2.2.1.1, v3.1.2.2.1.2), (v3.1.2.2.2.1, (v3.1.2.2.2.2.1, (v3.1.2.2.2.2.2.1, v3.1.2.2.2.2.2.2)))))), (v3.2.1, (v3.2.2.1, (v3.2.2.2.1, (v3.2.2.2.2.1, v3.2.2.2.2.2))))))
    else
     Option.bind (nego_Nego_event N ((n0.1.1, ((n0.1.2.1.1, (n0.1.2.1.2.1, n0.1.2.1.2.2)), (n0.1.2.2.1, (n0.1.2.2.2.1, (n0.1.2.2.2.2.1, (n0.1.2.2.2.2.2.1, (n0.1.2.2.2.2.2.2.1, n0.1.2.2.2.2.2.2.2))))))), (n0.2.1, ((n0.2.2.1.1, n0.2.2.1.2), (n0.2.2.2.1, (n0.2.2.2.2.1, (n0.2.2.2.2.2.1, n0.2.2.2.2.2.2)))))) (c1.1, (c1.2.1, c1.2.2))) fun v3 =>
     Option.bind (nego_Nego_done N ((n0.1.1, ((n0.1.2.1.1, (n0.1.2.1.2.1, n0.1.2.1.2.2)), (n0.1.2.2.1, (n0.1.2.2.2.1, (n0.1.2.2.2.2.1, (n0.1.2.2.2.2.2.1, (n0.1.2.2.2.2.2.2.1, n0.1.2.2.2.2.2.2.2))))))), (n0.2.1, ((n0.2.2.1.1, n0.2.2.1.2), (n0.2.2.2.1, (n0.2.2.2.2.1, (n0.2.2.2.2.2.1, n0.2.2.2.2.2.2)))))) v3 (c1.1, (c1.2.1, c1.2.2)) ((0 : Int), ((0 : Int), ([] : List Int)))) fun v4 =>
     some ((((v4.1.1.1, ((v4.1.1.2.1.1, (v4.1.1.2.1.2.1, v4.1.1.2.1.2.2)), (v4.1.1.2.2.1, (v4.1.1.2.2.2.1, (v4.1.1.2.2.2.2.1, (v4.1.1.2.2.2.2.2.1, (v4.1.1.2.2.2.2.2.2.1, v4.1.1.2.2.2.2.2.2.2))))))), (v4.1.2.1, ((v4.1.2.2.1.1, v4.1.2.2.1.2), (v4.1.2.2.2.1, (v4.1.2.2.2.2.1, (v4.1.2.2.2.2.2.1, v4.1.2.2.2.2.2.2)))))), (v4.2.1, (v4.2.2.1, (v4.2.2.2.1, (v4.2.2.2.2.1, v4.2.2.2.2.2))))))
theorem nego_Nego_Take_S (n0 : (Bool × ((Int × (Int × (Bool))) × (Bool × (Bool × (Int × (Int × (Int × (Bool)))))))) × (Int × ((Int × Int) × (Int × ((List (Int × (List Int))) × ((List (Int × (List Int))) × Int)))))) (c1 : Int × (Int × (List Int))) : (runK Try.prog (Ev121 N) 400 11 [(.pair (.pair .bool (.pair (.pair (.int .u16) (.pair (.int .u32) .bool)) (.pair .bool (.pair .bool (.pair (.int .u32) (.pair (.int .u32) (.pair (.int .u32) .bool))))))) (.pair (.int .i64) (.pair (.pair (.int .i64) (.int .i64)) (.pair (.int .u8) (.pair (.sl (.pair (.int .u8) (.sl (.int .u8)))) (.pair (.sl (.pair (.int .u8) (.sl (.int .u8)))) (.int .i64))))))), (.pair (.int .u8) (.pair (.int .u8) (.sl (.int .u8))))] [(.pair (.pair .bool (.pair (.pair (.int .u16) (.pair (.int .u32) .bool)) (.pair .bool (.pair .bool (.pair (.int .u32) (.pair (.int .u32) (.pair (.int .u32) .bool))))))) (.pair (.int .i64) (.pair (.pair (.int .i64) (.int .i64)) (.pair (.int .u8) (.pair (.sl (.pair (.int .u8) (.sl (.int .u8)))) (.pair (.sl (.pair (.int .u8) (.sl (.int .u8)))) (.int .i64))))))), (.pair (.sl (.pair (.int .u8) (.pair (.int .u8) (.sl (.int .u8))))) (.pair .bool (.pair .bool (.pair .bool .bool))))] (n0, c1, ())).run = nego_Nego_Take N n0 c1 := by kernel_rfl
noncomputable def Ev122 : (R : Type) → Env R := Env.addFn (Ev121 N) 11 (fun R => fnK [(.pair (.pair .bool (.pair (.pair (.int .u16) (.pair (.int .u32) .bool)) (.pair .bool (.pair .bool (.pair (.int .u32) (.pair (.int .u32) (.pair (.int .u32) .bool))))))) (.pair (.int .i64) (.pair (.pair (.int .i64) (.int .i64)) (.pair (.int .u8) (.pair (.sl (.pair (.int .u8) (.sl (.int .u8)))) (.pair (.sl (.pair (.int .u8) (.sl (.int .u8)))) (.int .i64))))))), (.pair (.int .u8) (.pair (.int .u8) (.sl (.int .u8))))] [(.pair (.pair .bool (.pair (.pair (.int .u16) (.pair (.int .u32) .bool)) (.pair .bool (.pair .bool (.pair (.int .u32) (.pair (.int .u32) (.pair (.int .u32) .bool))))))) (.pair (.int .i64) (.pair (.pair (.int .i64) (.int .i64)) (.pair (.int .u8) (.pair (.sl (.pair (.int .u8) (.sl (.int .u8)))) (.pair (.sl (.pair (.int .u8) (.sl (.int .u8)))) (.int .i64))))))), (.pair (.sl (.pair (.int .u8) (.pair (.int .u8) (.sl (.int .u8))))) (.pair .bool (.pair .bool (.pair .bool .bool))))] (fun c => nego_Nego_Take N c.1 c.2.1))
theorem Ev122_ok (R : Type) : EnvOK Try.prog (Ev122 N R) := EnvOK.addFn hmx (Ev121_ok N R) (Ev121_ok N _) (by kernel_rfl) (fun c => nego_Nego_Take_S N c.1 c.2.1)
noncomputable def Ev123 : (R : Type) → Env R := Env.addBx (Ev122 N) [(8, 0)]
theorem Ev123_ok (R : Type) : EnvOK Try.prog (Ev123 N R) := EnvOK.addBx (Ev122_ok N R) [(8, 0)]
noncomputable def nego_Nego_State (N : Nat) (n0 : (Bool × ((Int × (Int × (Bool))) × (Bool × (Bool × (Int × (Int × (Int × (Bool)))))))) × (Int × ((Int × Int) × (Int × ((List (Int × (List Int))) × ((List (Int × (List Int))) × Int)))))) : Option Int :=
 some (n0.2.1)
theorem nego_Nego_State_S (n0 : (Bool × ((Int × (Int × (Bool))) × (Bool × (Bool × (Int × (Int × (Int × (Bool)))))))) × (Int × ((Int × Int) × (Int × ((List (Int × (List Int))) × ((List (Int × (List Int))) × Int)))))) : (runK Try.prog (Ev123 N) 400 8 [(.pair (.pair .bool (.pair (.pair (.int .u16) (.pair (.int .u32) .bool)) (.pair .bool (.pair .bool (.pair (.int .u32) (.pair (.int .u32) (.pair (.int .u32) .bool))))))) (.pair (.int .i64) (.pair (.pair (.int .i64) (.int .i64)) (.pair (.int .u8) (.pair (.sl (.pair (.int .u8) (.sl (.int .u8)))) (.pair (.sl (.pair (.int .u8) (.sl (.int .u8)))) (.int .i64)))))))] [(.int .i64)] (n0, ())).run = nego_Nego_State N n0 := by kernel_rfl
noncomputable def Ev124 : (R : Type) → Env R := Env.addFn (Ev123 N) 8 (fun R => fnK [(.pair (.pair .bool (.pair (.pair (.int .u16) (.pair (.int .u32) .bool)) (.pair .bool (.pair .bool (.pair (.int .u32) (.pair (.int .u32) (.pair (.int .u32) .bool))))))) (.pair (.int .i64) (.pair (.pair (.int .i64) (.int .i64)) (.pair (.int .u8) (.pair (.sl (.pair (.int .u8) (.sl (.int .u8)))) (.pair (.sl (.pair (.int .u8) (.sl (.int .u8)))) (.int .i64)))))))] [(.int .i64)] (fun c => nego_Nego_State N c.1))
theorem Ev124_ok (R : Type) : EnvOK Try.prog (Ev124 N R) := EnvOK.addFn hmx (Ev123_ok N R) (Ev123_ok N _) (by kernel_rfl) (fun c => nego_Nego_State_S N c.1)
noncomputable def Ev125 : (R : Type) → Env R := Env.addBx (Ev124 N) [(5, 0)]
theorem Ev125_ok (R : Type) : EnvOK Try.prog (Ev125 N R) := EnvOK.addBx (Ev124_ok N R) [(5, 0)]
noncomputable def nego_New (N : Nat) (r0 : Bool × ((Int × (Int × (Bool))) × (Bool × (Bool × (Int × (Int × (Int × (Bool)))))))) : Option ((Bool × ((Int × (Int × (Bool))) × (Bool × (Bool × (Int × (Int × (Int × (Bool)))))))) × (Int × ((Int × Int) × (Int × ((List (Int × (List Int))) × ((List (Int × (List Int))) × Int)))))) :=
 some (((r0.1, ((r0.2.1.1, (r0.2.1.2.1, r0.2.1.2.2)), (r0.2.2.1, (r0.2.2.2.1, (r0.2.2.2.2.1, (r0.2.2.2.2.2.1, (r0.2.2.2.2.2.2.1, r0.2.2.2.2.2.2.2))))))), ((0 : Int), (((0 : Int), (0 : Int)), ((0 : Int), (([] : List ((Int × (List Int)))), (([] : List ((Int × (List Int)))), (0 : Int))))))))
theorem nego_New_S (r0 : Bool × ((Int × (Int × (Bool))) × (Bool × (Bool × (Int × (Int × (Int × (Bool)))))))) : (runK Try.prog (Ev125 N) 400 5 [(.pair .bool (.pair (.pair (.int .u16) (.pair (.int .u32) .bool)) (.pair .bool (.pair .bool (.pair (.int .u32) (.pair (.int .u32) (.pair (.int .u32) .bool)))))))] [(.pair (.pair .bool (.pair (.pair (.int .u16) (.pair (.int .u32) .bool)) (.pair .bool (.pair .bool (.pair (.int .u32) (.pair (.int .u32) (.pair (.int .u32) .bool))))))) (.pair (.int .i64) (.pair (.pair (.int .i64) (.int .i64)) (.pair (.int .u8) (.pair (.sl (.pair (.int .u8) (.sl (.int .u8)))) (.pair (.sl (.pair (.int .u8) (.sl (.int .u8)))) (.int .i64)))))))] (r0, ())).run = nego_New N r0 := by kernel_rfl
noncomputable def Ev126 : (R : Type) → Env R := Env.addFn (Ev125 N) 5 (fun R => fnK [(.pair .bool (.pair (.pair (.int .u16) (.pair (.int .u32) .bool)) (.pair .bool (.pair .bool (.pair (.int .u32) (.pair (.int .u32) (.pair (.int .u32) .bool)))))))] [(.pair (.pair .bool (.pair (.pair (.int .u16) (.pair (.int .u32) .bool)) (.pair .bool (.pair .bool (.pair (.int .u32) (.pair (.int .u32) (.pair (.int .u32) .bool))))))) (.pair (.int .i64) (.pair (.pair (.int .i64) (.int .i64)) (.pair (.int .u8) (.pair (.sl (.pair (.int .u8) (.sl (.int .u8)))) (.pair (.sl (.pair (.int .u8) (.sl (.int .u8)))) (.int .i64)))))))] (fun c => nego_New N c.1))
theorem Ev126_ok (R : Type) : EnvOK Try.prog (Ev126 N R) := EnvOK.addFn hmx (Ev125_ok N R) (Ev125_ok N _) (by kernel_rfl) (fun c => nego_New_S N c.1)
noncomputable def Ev127 : (R : Type) → Env R := Env.addBx (Ev126 N) [(6, 0)]
theorem Ev127_ok (R : Type) : EnvOK Try.prog (Ev127 N R) := EnvOK.addBx (Ev126_ok N R) [(6, 0)]
noncomputable def law27_rules (N : Nat) (r0 : Bool × ((Int × (Int × (Bool))) × (Bool × (Bool × (Int × (Int × (Int × (Bool)))))))) : Option (Bool × ((Int × (Int × (Bool))) × (Bool × (Bool × (Int × (Int × (Int × (Bool)))))))) :=
 some ((r0.1, ((r0.2.1.1, (r0.2.1.2.1, r0.2.1.2.2)), (r0.2.2.1, (r0.2.2.2.1, (r0.2.2.2.2.1, (r0.2.2.2.2.2.1, (r0.2.2.2.2.2.2.1, r0.2.2.2.2.2.2.2))))))))
theorem law27_rules_S (r0 : Bool × ((Int × (Int × (Bool))) × (Bool × (Bool × (Int × (Int × (Int × (Bool)))))))) : (runK Try.prog (Ev127 N) 400 6 [(.pair .bool (.pair (.pair (.int .u16) (.pair (.int .u32) .bool)) (.pair .bool (.pair .bool (.pair (.int .u32) (.pair (.int .u32) (.pair (.int .u32) .bool)))))))] [(.pair .bool (.pair (.pair (.int .u16) (.pair (.int .u32) .bool)) (.pair .bool (.pair .bool (.pair (.int .u32) (.pair (.int .u32) (.pair (.int .u32) .bool)))))))] (r0, ())).run = law27_rules N r0 := by kernel_rfl
noncomputable def Ev128 : (R : Type) → Env R := Env.addFn (Ev127 N) 6 (fun R => fnK [(.pair .bool (.pair (.pair (.int .u16) (.pair (.int .u32) .bool)) (.pair .bool (.pair .bool (.pair (.int .u32) (.pair (.int .u32) (.pair (.int .u32) .bool)))))))] [(.pair .bool (.pair (.pair (.int .u16) (.pair (.int .u32) .bool)) (.pair .bool (.pair .bool (.pair (.int .u32) (.pair (.int .u32) (.pair (.int .u32) .bool)))))))] (fun c => law27_rules N c.1))
theorem Ev128_ok (R : Type) : EnvOK Try.prog (Ev128 N R) := EnvOK.addFn hmx (Ev127_ok N R) (Ev127_ok N _) (by kernel_rfl) (fun c => law27_rules_S N c.1)
noncomputable def Ev129 : (R : Type) → Env R := Env.addBx (Ev128 N) [(12, 0)]
theorem Ev129_ok (R : Type) : EnvOK Try.prog (Ev129 N R) := EnvOK.addBx (Ev128_ok N R) [(12, 0)]
noncomputable def law27_packet (N : Nat) (c0 : Int × (Int × (List Int))) : Option (Int × (Int × (List Int))) :=
 some ((c0.1, (c0.2.1, c0.2.2)))
theorem law27_packet_S (c0 : Int × (Int × (List Int))) : (runK Try.prog (Ev129 N) 400 12 [(.pair (.int .u8) (.pair (.int .u8) (.sl (.int .u8))))] [(.pair (.int .u8) (.pair (.int .u8) (.sl (.int .u8))))] (c0, ())).run = law27_packet N c0 := by kernel_rfl
noncomputable def Ev130 : (R : Type) → Env R := Env.addFn (Ev129 N) 12 (fun R => fnK [(.pair (.int .u8) (.pair (.int .u8) (.sl (.int .u8))))] [(.pair (.int .u8) (.pair (.int .u8) (.sl (.int .u8))))] (fun c => law27_packet N c.1))
theorem Ev130_ok (R : Type) : EnvOK Try.prog (Ev130 N R) := EnvOK.addFn hmx (Ev129_ok N R) (Ev129_ok N _) (by kernel_rfl) (fun c => law27_packet_S N c.1)
noncomputable def Ev131 : (R : Type) → Env R := Env.addBx (Ev130 N) [(20, 0)]
theorem Ev131_ok (R : Type) : EnvOK Try.prog (Ev131 N R) := EnvOK.addBx (Ev130_ok N R) [(20, 0)]
noncomputable def nego_Nego_Waits (N : Nat) (n0 : (Bool × ((Int × (Int × (Bool))) × (Bool × (Bool × (Int × (Int × (Int × (Bool)))))))) × (Int × ((Int × Int) × (Int × ((List (Int × (List Int))) × ((List (Int × (List Int))) × Int)))))) : Option (Int × Int) :=
 some ((n0.2.2.1.1, n0.2.2.1.2))
theorem nego_Nego_Waits_S (n0 : (Bool × ((Int × (Int × (Bool))) × (Bool × (Bool × (Int × (Int × (Int × (Bool)))))))) × (Int × ((Int × Int) × (Int × ((List (Int × (List Int))) × ((List (Int × (List Int))) × Int)))))) : (runK Try.prog (Ev131 N) 400 20 [(.pair (.pair .bool (.pair (.pair (.int .u16) (.pair (.int .u32) .bool)) (.pair .bool (.pair .bool (.pair (.int .u32) (.pair (.int .u32) (.pair (.int .u32) .bool))))))) (.pair (.int .i64) (.pair (.pair (.int .i64) (.int .i64)) (.pair (.int .u8) (.pair (.sl (.pair (.int .u8) (.sl (.int .u8)))) (.pair (.sl (.pair (.int .u8) (.sl (.int .u8)))) (.int .i64)))))))] [(.int .i64), (.int .i64)] (n0, ())).run = nego_Nego_Waits N n0 := by kernel_rfl
noncomputable def Ev132 : (R : Type) → Env R := Env.addFn (Ev131 N) 20 (fun R => fnK [(.pair (.pair .bool (.pair (.pair (.int .u16) (.pair (.int .u32) .bool)) (.pair .bool (.pair .bool (.pair (.int .u32) (.pair (.int .u32) (.pair (.int .u32) .bool))))))) (.pair (.int .i64) (.pair (.pair (.int .i64) (.int .i64)) (.pair (.int .u8) (.pair (.sl (.pair (.int .u8) (.sl (.int .u8)))) (.pair (.sl (.pair (.int .u8) (.sl (.int .u8)))) (.int .i64)))))))] [(.int .i64), (.int .i64)] (fun c => nego_Nego_Waits N c.1))
theorem Ev132_ok (R : Type) : EnvOK Try.prog (Ev132 N R) := EnvOK.addFn hmx (Ev131_ok N R) (Ev131_ok N _) (by kernel_rfl) (fun c => nego_Nego_Waits_S N c.1)
noncomputable def law27_alive : Option Bool :=
 Option.bind (nego_Nego_Do N ((false, (((1400 : Int), ((0 : Int), false)), (false, (false, ((0 : Int), ((0 : Int), ((0 : Int), false))))))), ((0 : Int), (((0 : Int), (0 : Int)), ((0 : Int), (([] : List ((Int × (List Int)))), (([] : List ((Int × (List Int)))), (0 : Int))))))) (2 : Int)) fun v1 =>
 Option.bind (nego_Nego_Do N ((v1.1.1.1, ((v1.1.1.2.1.1, (v1.1.1.2.1.2.1, v1.1.1.2.1.2.2)), (v1.1.1.2.2.1, (v1.1.1.2.2.2.1, (v1.1.1.2.2.2.2.1, (v1.1.1.2.2.2.2.2.1, (v1.1.1.2.2.2.2.2.2.1, v1.1.1.2.2.2.2.2.2.2))))))), (v1.1.2.1, ((v1.1.2.2.1.1, v1.1.2.2.1.2), (v1.1.2.2.2.1, (v1.1.2.2.2.2.1, (v1.1.2.2.2.2.2.1, v1.1.2.2.2.2.2.2)))))) (0 : Int)) fun v2 =>
 bif v1.2.2.2.2.1 then
  Option.bind (some ((cond true (decide ((((List.length v2.2.1) : Nat) : Int) = (1 : Int))) false))) fun (v3 : Bool) =>
  Option.bind (bif v3 then
    Option.bind (getI v2.2.1 (0 : Int)) fun (v4 : (Int × (Int × (List Int)))) =>
    some ((cond true (decide (v4.1 = (1 : Int))) false))
   else
    some (false)) fun (v4 : Bool) =>
  Option.bind (bif v4 then
    Option.bind (getI v2.2.1 (0 : Int)) fun (v5 : (Int × (Int × (List Int)))) =>
    some ((cond true (decide (v5.2.1 = (1 : Int))) false))
   else
    some (false)) fun (v5 : Bool) =>
  bif v5 then
   Option.bind (getI v2.2.1 (0 : Int)) fun (v6 : (Int × (Int × (List Int)))) =>
   Option.bind (some ((cond true (decide ((((List.length v6.2.2) : Nat) : Int) = (4 : Int))) false))) fun (v7 : Bool) =>
   bif v7 then
    Option.bind (some ((cond true (decide (v2.1.2.1 = (6 : Int))) false))) fun (v8 : Bool) =>
    Option.bind (bif v8 then
      some ((cond true (decide (v2.1.2.2.1.1 = (9 : Int))) false))
     else
      some (false)) fun (v9 : Bool) =>
    Option.bind (bif v9 then
      some ((cond true (decide (v2.1.2.2.1.2 = (3 : Int))) false))
     else
      some (false)) fun (v10 : Bool) =>
    bif v10 then
     some (true)
    else
     some (false)
   else
    some (false)
  else
   some (false)
 else
  some (false)
theorem law27_alive_S : (runK Try.prog (Ev132 N) 400 7 [] [.bool] ()).run = law27_alive N  := by kernel_rfl
noncomputable def Ev133 : (R : Type) → Env R := Env.addFn (Ev132 N) 7 (fun R => fnK [] [.bool] (fun c => law27_alive N ))
theorem Ev133_ok (R : Type) : EnvOK Try.prog (Ev133 N R) := EnvOK.addFn hmx (Ev132_ok N R) (Ev132_ok N _) (by kernel_rfl) (fun c => law27_alive_S N )
noncomputable def Ev134 : (R : Type) → Env R := Env.addBx (Ev133 N) [(3, 0)]
theorem Ev134_ok (R : Type) : EnvOK Try.prog (Ev134 N R) := EnvOK.addBx (Ev133_ok N R) [(3, 0)]
noncomputable def law27_NegoSends_L18_I : LI := ⟨107, 0, [], ⟨[(5, .lit (.box 0 0)), (21, .ty (.sl (.pair (.int .u8) (.pair (.int .i64) (.pair .bool (.pair .bool (.pair (.int .u8) (.pair (.int .u8) (.sl (.int .u8)))))))))), (22, .ty (.int .i64)), (23, .ty (.int .i64)), (91, .ty (.sl (.pair (.int .u8) (.pair (.int .u8) (.sl (.int .u8)))))), (92, .ty (.int .i64)), (93, .ty (.int .i64))], [.box 42 (.pair (.pair .bool (.pair (.pair (.int .u16) (.pair (.int .u32) .bool)) (.pair .bool (.pair .bool (.pair (.int .u32) (.pair (.int .u32) (.pair (.int .u32) .bool))))))) (.pair (.int .i64) (.pair (.pair (.int .i64) (.int .i64)) (.pair (.int .u8) (.pair (.sl (.pair (.int .u8) (.sl (.int .u8)))) (.pair (.sl (.pair (.int .u8) (.sl (.int .u8)))) (.int .i64)))))))]⟩, [(.ret, ⟨[(4, .ty .bool)], []⟩), (.exit 3, ⟨[(5, .lit (.box 0 0)), (21, .ty (.sl (.pair (.int .u8) (.pair (.int .i64) (.pair .bool (.pair .bool (.pair (.int .u8) (.pair (.int .u8) (.sl (.int .u8)))))))))), (22, .ty (.int .i64)), (23, .ty (.int .i64))], [.box 42 (.pair (.pair .bool (.pair (.pair (.int .u16) (.pair (.int .u32) .bool)) (.pair .bool (.pair .bool (.pair (.int .u32) (.pair (.int .u32) (.pair (.int .u32) .bool))))))) (.pair (.int .i64) (.pair (.pair (.int .i64) (.int .i64)) (.pair (.int .u8) (.pair (.sl (.pair (.int .u8) (.sl (.int .u8)))) (.pair (.sl (.pair (.int .u8) (.sl (.int .u8)))) (.int .i64)))))))]⟩)]⟩
noncomputable def law27_NegoSends_L18 (X : (((List (Int × (Int × (Bool × (Bool × (Int × (Int × (List Int)))))))) × (Int × (Int × ((List (Int × (Int × (List Int)))) × (Int × (Int × Unit)))))) × (((Bool × ((Int × (Int × (Bool))) × (Bool × (Bool × (Int × (Int × (Int × (Bool)))))))) × (Int × ((Int × Int) × (Int × ((List (Int × (List Int))) × ((List (Int × (List Int))) × Int)))))) × Unit)) → Option ((((Bool × Unit) × Unit) ⊕ (((List (Int × (Int × (Bool × (Bool × (Int × (Int × (List Int)))))))) × (Int × (Int × Unit))) × (((Bool × ((Int × (Int × (Bool))) × (Bool × (Bool × (Int × (Int × (Int × (Bool)))))))) × (Int × ((Int × Int) × (Int × ((List (Int × (List Int))) × ((List (Int × (List Int))) × Int)))))) × Unit))))) (x21 : List (Int × (Int × (Bool × (Bool × (Int × (Int × (List Int)))))))) (x22 : Int) (x23 : Int) (x91 : List (Int × (Int × (List Int)))) (x92 : Int) (x93 : Int) (h0 : (Bool × ((Int × (Int × (Bool))) × (Bool × (Bool × (Int × (Int × (Int × (Bool)))))))) × (Int × ((Int × Int) × (Int × ((List (Int × (List Int))) × ((List (Int × (List Int))) × Int)))))) : Option ((((Bool × Unit) × Unit) ⊕ (((List (Int × (Int × (Bool × (Bool × (Int × (Int × (List Int)))))))) × (Int × (Int × Unit))) × (((Bool × ((Int × (Int × (Bool))) × (Bool × (Bool × (Int × (Int × (Int × (Bool)))))))) × (Int × ((Int × Int) × (Int × ((List (Int × (List Int))) × ((List (Int × (List Int))) × Int)))))) × Unit)))) :=
 bif (decide (x93 < x92)) then
  Option.bind (getI x91 x93) fun (v9 : (Int × (Int × (List Int)))) =>
  Option.bind (ctl_Lay N (v9.1, (v9.2.1, v9.2.2))) fun v10 =>
  bif (!(decide (v10.2 = (0 : Int)))) then
   some ((.inl ((false, ()), ())))
  else
   (X ((x21, (x22, (x23, (x91, (x92, ((IntKind.wrap .i64 (x93 + 1)), ())))))), (((h0.1.1, ((h0.1.2.1.1, (h0.1.2.1.2.1, h0.1.2.1.2.2)), (h0.1.2.2.1, (h0.1.2.2.2.1, (h0.1.2.2.2.2.1, (h0.1.2.2.2.2.2.1, (h0.1.2.2.2.2.2.2.1, h0.1.2.2.2.2.2.2.2))))))), (h0.2.1, ((h0.2.2.1.1, h0.2.2.1.2), (h0.2.2.2.1, (h0.2.2.2.2.1, (h0.2.2.2.2.2.1, h0.2.2.2.2.2.2)))))), ())))
 else
  some ((.inr ((x21, (x22, (x23, ()))), (((h0.1.1, ((h0.1.2.1.1, (h0.1.2.1.2.1, h0.1.2.1.2.2)), (h0.1.2.2.1, (h0.1.2.2.2.1, (h0.1.2.2.2.2.1, (h0.1.2.2.2.2.2.1, (h0.1.2.2.2.2.2.2.1, h0.1.2.2.2.2.2.2.2))))))), (h0.2.1, ((h0.2.2.1.1, h0.2.2.1.2), (h0.2.2.2.1, (h0.2.2.2.2.1, (h0.2.2.2.2.2.1, h0.2.2.2.2.2.2)))))), ()))))
noncomputable def law27_NegoSends_L18_R (c : (((List (Int × (Int × (Bool × (Bool × (Int × (Int × (List Int)))))))) × (Int × (Int × ((List (Int × (Int × (List Int)))) × (Int × (Int × Unit)))))) × (((Bool × ((Int × (Int × (Bool))) × (Bool × (Bool × (Int × (Int × (Int × (Bool)))))))) × (Int × ((Int × Int) × (Int × ((List (Int × (List Int))) × ((List (Int × (List Int))) × Int)))))) × Unit))) : Option ((((Bool × Unit) × Unit) ⊕ (((List (Int × (Int × (Bool × (Bool × (Int × (Int × (List Int)))))))) × (Int × (Int × Unit))) × (((Bool × ((Int × (Int × (Bool))) × (Bool × (Bool × (Int × (Int × (Int × (Bool)))))))) × (Int × ((Int × Int) × (Int × ((List (Int × (List Int))) × ((List (Int × (List Int))) × Int)))))) × Unit)))) := gl (fun X c => law27_NegoSends_L18 N X c.1.1 c.1.2.1 c.1.2.2.1 c.1.2.2.2.1 c.1.2.2.2.2.1 c.1.2.2.2.2.2.1 c.2.1) N c
theorem law27_NegoSends_L18_S (X : (((List (Int × (Int × (Bool × (Bool × (Int × (Int × (List Int)))))))) × (Int × (Int × ((List (Int × (Int × (List Int)))) × (Int × (Int × Unit)))))) × (((Bool × ((Int × (Int × (Bool))) × (Bool × (Bool × (Int × (Int × (Int × (Bool)))))))) × (Int × ((Int × Int) × (Int × ((List (Int × (List Int))) × ((List (Int × (List Int))) × Int)))))) × Unit)) → Option ((((Bool × Unit) × Unit) ⊕ (((List (Int × (Int × (Bool × (Bool × (Int × (Int × (List Int)))))))) × (Int × (Int × Unit))) × (((Bool × ((Int × (Int × (Bool))) × (Bool × (Bool × (Int × (Int × (Int × (Bool)))))))) × (Int × ((Int × Int) × (Int × ((List (Int × (List Int))) × ((List (Int × (List Int))) × Int)))))) × Unit))))) (x21 : List (Int × (Int × (Bool × (Bool × (Int × (Int × (List Int)))))))) (x22 : Int) (x23 : Int) (x91 : List (Int × (Int × (List Int)))) (x92 : Int) (x93 : Int) (h0 : (Bool × ((Int × (Int × (Bool))) × (Bool × (Bool × (Int × (Int × (Int × (Bool)))))))) × (Int × ((Int × Int) × (Int × ((List (Int × (List Int))) × ((List (Int × (List Int))) × Int)))))) : (roundK Try.prog (Ev134 N) 400 [3] law27_NegoSends_L18_I (loopAt Try.prog [3] 18) X ((x21, x22, x23, x91, x92, x93, ()), (h0, ()))).run = law27_NegoSends_L18 N X x21 x22 x23 x91 x92 x93 h0 := by kernel_rfl
noncomputable def Ev135 : (R : Type) → Env R := Env.addLp (Ev134 N) [3] 0 18 (fun R => lpK Try.prog law27_NegoSends_L18_I (fun X c => law27_NegoSends_L18 N X c.1.1 c.1.2.1 c.1.2.2.1 c.1.2.2.2.1 c.1.2.2.2.2.1 c.1.2.2.2.2.2.1 c.2.1) N)
theorem Ev135_ok (R : Type) : EnvOK Try.prog (Ev135 N R) := EnvOK.addLp (Ev134_ok N R) (by kernel_rfl) (lpK_ok (li := law27_NegoSends_L18_I) (G := fun X c => law27_NegoSends_L18 N X c.1.1 c.1.2.1 c.1.2.2.1 c.1.2.2.2.1 c.1.2.2.2.2.1 c.1.2.2.2.2.2.1 c.2.1) hmx (Ev134_ok N _) (by kernel_rfl) loopAt_sub (fun (X : CT law27_NegoSends_L18_I.sh → Option (OT law27_NegoSends_L18_I.outs)) (c : CT law27_NegoSends_L18_I.sh) => law27_NegoSends_L18_S N X c.1.1 c.1.2.1 c.1.2.2.1 c.1.2.2.2.1 c.1.2.2.2.2.1 c.1.2.2.2.2.2.1 c.2.1) N)
noncomputable def law27_NegoSends_L3_I : LI := ⟨107, 0, [], ⟨[(5, .lit (.box 0 0)), (21, .ty (.sl (.pair (.int .u8) (.pair (.int .i64) (.pair .bool (.pair .bool (.pair (.int .u8) (.pair (.int .u8) (.sl (.int .u8)))))))))), (22, .ty (.int .i64)), (23, .ty (.int .i64))], [.box 42 (.pair (.pair .bool (.pair (.pair (.int .u16) (.pair (.int .u32) .bool)) (.pair .bool (.pair .bool (.pair (.int .u32) (.pair (.int .u32) (.pair (.int .u32) .bool))))))) (.pair (.int .i64) (.pair (.pair (.int .i64) (.int .i64)) (.pair (.int .u8) (.pair (.sl (.pair (.int .u8) (.sl (.int .u8)))) (.pair (.sl (.pair (.int .u8) (.sl (.int .u8)))) (.int .i64)))))))]⟩, [(.ret, ⟨[(4, .ty .bool)], []⟩), (.exit 0, ⟨[], []⟩)]⟩
noncomputable def law27_NegoSends_L3 (X : (((List (Int × (Int × (Bool × (Bool × (Int × (Int × (List Int)))))))) × (Int × (Int × Unit))) × (((Bool × ((Int × (Int × (Bool))) × (Bool × (Bool × (Int × (Int × (Int × (Bool)))))))) × (Int × ((Int × Int) × (Int × ((List (Int × (List Int))) × ((List (Int × (List Int))) × Int)))))) × Unit)) → Option ((((Bool × Unit) × Unit) ⊕ (Unit × Unit)))) (x21 : List (Int × (Int × (Bool × (Bool × (Int × (Int × (List Int)))))))) (x22 : Int) (x23 : Int) (h0 : (Bool × ((Int × (Int × (Bool))) × (Bool × (Bool × (Int × (Int × (Int × (Bool)))))))) × (Int × ((Int × Int) × (Int × ((List (Int × (List Int))) × ((List (Int × (List Int))) × Int)))))) : Option ((((Bool × Unit) × Unit) ⊕ (Unit × Unit))) :=
 bif (decide (x23 < x22)) then
  Option.bind (getI x21 x23) fun (v6 : (Int × (Int × (Bool × (Bool × (Int × (Int × (List Int)))))))) =>
  bif (decide ((1000 : Int) < (((List.length v6.2.2.2.2.2.2) : Nat) : Int))) then
   Option.bind (@law27_alive N) fun (v7 : Bool) =>
   some ((.inl ((v7, ()), ())))
  else
   bif (decide ((@Int.tmod v6.1 (4 : Int)) = (0 : Int))) then
    Option.bind (nego_Nego_Do N ((h0.1.1, ((h0.1.2.1.1, (h0.1.2.1.2.1, h0.1.2.1.2.2)), (h0.1.2.2.1, (h0.1.2.2.2.1, (h0.1.2.2.2.2.1, (h0.1.2.2.2.2.2.1, (h0.1.2.2.2.2.2.2.1, h0.1.2.2.2.2.2.2.2))))))), (h0.2.1, ((h0.2.2.1.1, h0.2.2.1.2), (h0.2.2.2.1, (h0.2.2.2.2.1, (h0.2.2.2.2.2.1, h0.2.2.2.2.2.2)))))) v6.2.1) fun v7 =>
    bif (!(decide (h0.2.1 = (9 : Int)))) then
     bif (!(@BEq.beq Bool (@instBEqOfDecidableEq Bool @instDecidableEqBool) v7.2.2.1 (cond true (decide (v7.1.2.1 = (9 : Int))) false))) then
      some ((.inl ((false, ()), ())))
     else
      bif (decide (h0.2.1 = (9 : Int))) then
       bif (cond false true (!(@BEq.beq Bool (@instBEqOfDecidableEq Bool @instDecidableEqBool) v7.2.2.2.1 (cond true (!(decide (v7.1.2.1 = (9 : Int)))) false)))) then
        some ((.inl ((false, ()), ())))
       else
        bif (cond false true (decide ((2 : Int) < (((List.length v7.2.1) : Nat) : Int)))) then
         some ((.inl ((false, ()), ())))
        else
         Option.bind (law27_NegoSends_L18_R N ((x21, (x22, (x23, (v7.2.1, ((((List.length v7.2.1) : Nat) : Int), ((0 : Int), ())))))), (((v7.1.1.1, ((v7.1.1.2.1.1, (v7.1.1.2.1.2.1, v7.1.1.2.1.2.2)), (v7.1.1.2.2.1, (v7.1.1.2.2.2.1, (v7.1.1.2.2.2.2.1, (v7.1.1.2.2.2.2.2.1, (v7.1.1.2.2.2.2.2.2.1, v7.1.1.2.2.2.2.2.2.2))))))), (v7.1.2.1, ((v7.1.2.2.1.1, v7.1.2.2.1.2), (v7.1.2.2.2.1, (v7.1.2.2.2.2.1, (v7.1.2.2.2.2.2.1, v7.1.2.2.2.2.2.2)))))), ()))) fun v8 =>
         Sum.elim
          (fun (v9 : ((Bool × Unit) × Unit)) =>
          some ((.inl ((v9.1.1, ()), ()))))
          (fun (v9 : (((List (Int × (Int × (Bool × (Bool × (Int × (Int × (List Int)))))))) × (Int × (Int × Unit))) × (((Bool × ((Int × (Int × Bool)) × (Bool × (Bool × (Int × (Int × (Int × Bool))))))) × (Int × ((Int × Int) × (Int × ((List (Int × (List Int))) × ((List (Int × (List Int))) × Int)))))) × Unit))) =>
          (X ((v9.1.1, (v9.1.2.1, ((IntKind.wrap .i64 (v9.1.2.2.1 + 1)), ()))), (((v9.2.1.1.1, ((v9.2.1.1.2.1.1, (v9.2.1.1.2.1.2.1, v9.2.1.1.2.1.2.2)), (v9.2.1.1.2.2.1, (v9.2.1.1.2.2.2.1, (v9.2.1.1.2.2.2.2.1, (v9.2.1.1.2.2.2.2.2.1, (v9.2.1.1.2.2.2.2.2.2.1, v9.2.1.1.2.2.2.2.2.2.2))))))), (v9.2.1.2.1, ((v9.2.1.2.2.1.1, v9.2.1.2.2.1.2), (v9.2.1.2.2.2.1, (v9.2.1.2.2.2.2.1, (v9.2.1.2.2.2.2.2.1, v9.2.1.2.2.2.2.2.2)))))), ())))) v8
      else
       bif (cond false true (!(@BEq.beq Bool (@instBEqOfDecidableEq Bool @instDecidableEqBool) v7.2.2.2.1 false))) then
        some ((.inl ((false, ()), ())))
       else
        bif (cond false true (decide ((2 : Int) < (((List.length v7.2.1) : Nat) : Int)))) then
         some ((.inl ((false, ()), ())))
        else
         Option.bind (law27_NegoSends_L18_R N ((x21, (x22, (x23, (v7.2.1, ((((List.length v7.2.1) : Nat) : Int), ((0 : Int), ())))))), (((v7.1.1.1, ((v7.1.1.2.1.1, (v7.1.1.2.1.2.1, v7.1.1.2.1.2.2)), (v7.1.1.2.2.1, (v7.1.1.2.2.2.1, (v7.1.1.2.2.2.2.1, (v7.1.1.2.2.2.2.2.1, (v7.1.1.2.2.2.2.2.2.1, v7.1.1.2.2.2.2.2.2.2))))))), (v7.1.2.1, ((v7.1.2.2.1.1, v7.1.2.2.1.2), (v7.1.2.2.2.1, (v7.1.2.2.2.2.1, (v7.1.2.2.2.2.2.1, v7.1.2.2.2.2.2.2)))))), ()))) fun v8 =>
         Sum.elim
          (fun (v9 : ((Bool × Unit) × Unit)) =>
          some ((.inl ((v9.1.1, ()), ()))))
          (fun (v9 : (((List (Int × (Int × (Bool × (Bool × (Int × (Int × (List Int)))))))) × (Int × (Int × Unit))) × (((Bool × ((Int × (Int × Bool)) × (Bool × (Bool × (Int × (Int × (Int × Bool))))))) × (Int × ((Int × Int) × (Int × ((List (Int × (List Int))) × ((List (Int × (List Int))) × Int)))))) × Unit))) =>
          (X ((v9.1.1, (v9.1.2.1, ((IntKind.wrap .i64 (v9.1.2.2.1 + 1)), ()))), (((v9.2.1.1.1, ((v9.2.1.1.2.1.1, (v9.2.1.1.2.1.2.1, v9.2.1.1.2.1.2.2)), (v9.2.1.1.2.2.1, (v9.2.1.1.2.2.2.1, (v9.2.1.1.2.2.2.2.1, (v9.2.1.1.2.2.2.2.2.1, (v9.2.1.1.2.2.2.2.2.2.1, v9.2.1.1.2.2.2.2.2.2.2))))))), (v9.2.1.2.1, ((v9.2.1.2.2.1.1, v9.2.1.2.2.1.2), (v9.2.1.2.2.2.1, (v9.2.1.2.2.2.2.1, (v9.2.1.2.2.2.2.2.1, v9.2.1.2.2.2.2.2.2)))))), ())))) v8
    else
     bif (!(@BEq.beq Bool (@instBEqOfDecidableEq Bool @instDecidableEqBool) v7.2.2.1 false)) then
      some ((.inl ((false, ()), ())))
     else
      bif (decide (h0.2.1 = (9 : Int))) then
       bif (cond false true (!(@BEq.beq Bool (@instBEqOfDecidableEq Bool @instDecidableEqBool) v7.2.2.2.1 (cond true (!(decide (v7.1.2.1 = (9 : Int)))) false)))) then
        some ((.inl ((false, ()), ())))
       else
        bif (cond false true (decide ((2 : Int) < (((List.length v7.2.1) : Nat) : Int)))) then
         some ((.inl ((false, ()), ())))
        else
         Option.bind (law27_NegoSends_L18_R N ((x21, (x22, (x23, (v7.2.1, ((((List.length v7.2.1) : Nat) : Int), ((0 : Int), ())))))), (((v7.1.1.1, ((v7.1.1.2.1.1, (v7.1.1.2.1.2.1, v7.1.1.2.1.2.2)), (v7.1.1.2.2.1, (v7.1.1.2.2.2.1, (v7.1.1.2.2.2.2.1, (v7.1.1.2.2.2.2.2.1, (v7.1.1.2.2.2.2.2.2.1, v7.1.1.2.2.2.2.2.2.2))))))), (v7.1.2.1, ((v7.1.2.2.1.1, v7.1.2.2.1.2), (v7.1.2.2.2.1, (v7.1.2.2.2.2.1, (v7.1.2.2.2.2.2.1, v7.1.2.2.2.2.2.2)))))), ()))) fun v8 =>
         Sum.elim
          (fun (v9 : ((Bool × Unit) × Unit)) =>
          some ((.inl ((v9.1.1, ()), ()))))
          (fun (v9 : (((List (Int × (Int × (Bool × (Bool × (Int × (Int × (List Int)))))))) × (Int × (Int × Unit))) × (((Bool × ((Int × (Int × Bool)) × (Bool × (Bool × (Int × (Int × (Int × Bool))))))) × (Int × ((Int × Int) × (Int × ((List (Int × (List Int))) × ((List (Int × (List Int))) × Int)))))) × Unit))) =>
          (X ((v9.1.1, (v9.1.2.1, ((IntKind.wrap .i64 (v9.1.2.2.1 + 1)), ()))), (((v9.2.1.1.1, ((v9.2.1.1.2.1.1, (v9.2.1.1.2.1.2.1, v9.2.1.1.2.1.2.2)), (v9.2.1.1.2.2.1, (v9.2.1.1.2.2.2.1, (v9.2.1.1.2.2.2.2.1, (v9.2.1.1.2.2.2.2.2.1, (v9.2.1.1.2.2.2.2.2.2.1, v9.2.1.1.2.2.2.2.2.2.2))))))), (v9.2.1.2.1, ((v9.2.1.2.2.1.1, v9.2.1.2.2.1.2), (v9.2.1.2.2.2.1, (v9.2.1.2.2.2.2.1, (v9.2.1.2.2.2.2.2.1, v9.2.1.2.2.2.2.2.2)))))), ())))) v8
      else
       bif (cond false true (!(@BEq.beq Bool (@instBEqOfDecidableEq Bool @instDecidableEqBool) v7.2.2.2.1 false))) then
        some ((.inl ((false, ()), ())))
       else
        bif (cond false true (decide ((2 : Int) < (((List.length v7.2.1) : Nat) : Int)))) then
         some ((.inl ((false, ()), ())))
        else
         Option.bind (law27_NegoSends_L18_R N ((x21, (x22, (x23, (v7.2.1, ((((List.length v7.2.1) : Nat) : Int), ((0 : Int), ())))))), (((v7.1.1.1, ((v7.1.1.2.1.1, (v7.1.1.2.1.2.1, v7.1.1.2.1.2.2)), (v7.1.1.2.2.1, (v7.1.1.2.2.2.1, (v7.1.1.2.2.2.2.1, (v7.1.1.2.2.2.2.2.1, (v7.1.1.2.2.2.2.2.2.1, v7.1.1.2.2.2.2.2.2.2))))))), (v7.1.2.1, ((v7.1.2.2.1.1, v7.1.2.2.1.2), (v7.1.2.2.2.1, (v7.1.2.2.2.2.1, (v7.1.2.2.2.2.2.1, v7.1.2.2.2.2.2.2)))))), ()))) fun v8 =>
         Sum.elim
          (fun (v9 : ((Bool × Unit) × Unit)) =>
          some ((.inl ((v9.1.1, ()), ()))))
          (fun (v9 : (((List (Int × (Int × (Bool × (Bool × (Int × (Int × (List Int)))))))) × (Int × (Int × Unit))) × (((Bool × ((Int × (Int × Bool)) × (Bool × (Bool × (Int × (Int × (Int × Bool))))))) × (Int × ((Int × Int) × (Int × ((List (Int × (List Int))) × ((List (Int × (List Int))) × Int)))))) × Unit))) =>
          (X ((v9.1.1, (v9.1.2.1, ((IntKind.wrap .i64 (v9.1.2.2.1 + 1)), ()))), (((v9.2.1.1.1, ((v9.2.1.1.2.1.1, (v9.2.1.1.2.1.2.1, v9.2.1.1.2.1.2.2)), (v9.2.1.1.2.2.1, (v9.2.1.1.2.2.2.1, (v9.2.1.1.2.2.2.2.1, (v9.2.1.1.2.2.2.2.2.1, (v9.2.1.1.2.2.2.2.2.2.1, v9.2.1.1.2.2.2.2.2.2.2))))))), (v9.2.1.2.1, ((v9.2.1.2.2.1.1, v9.2.1.2.2.1.2), (v9.2.1.2.2.2.1, (v9.2.1.2.2.2.2.1, (v9.2.1.2.2.2.2.2.1, v9.2.1.2.2.2.2.2.2)))))), ())))) v8
   else
    bif (decide ((@Int.tmod v6.1 (4 : Int)) = (1 : Int))) then
     Option.bind (nego_Nego_Tick N ((h0.1.1, ((h0.1.2.1.1, (h0.1.2.1.2.1, h0.1.2.1.2.2)), (h0.1.2.2.1, (h0.1.2.2.2.1, (h0.1.2.2.2.2.1, (h0.1.2.2.2.2.2.1, (h0.1.2.2.2.2.2.2.1, h0.1.2.2.2.2.2.2.2))))))), (h0.2.1, ((h0.2.2.1.1, h0.2.2.1.2), (h0.2.2.2.1, (h0.2.2.2.2.1, (h0.2.2.2.2.2.1, h0.2.2.2.2.2.2))))))) fun v7 =>
     bif (!(decide (h0.2.1 = (9 : Int)))) then
      bif (!(@BEq.beq Bool (@instBEqOfDecidableEq Bool @instDecidableEqBool) v7.2.2.1 (cond true (decide (v7.1.2.1 = (9 : Int))) false))) then
       some ((.inl ((false, ()), ())))
      else
       bif (decide (h0.2.1 = (9 : Int))) then
        bif (cond false true (!(@BEq.beq Bool (@instBEqOfDecidableEq Bool @instDecidableEqBool) v7.2.2.2.1 (cond true (!(decide (v7.1.2.1 = (9 : Int)))) false)))) then
         some ((.inl ((false, ()), ())))
        else
         bif (cond false true (decide ((2 : Int) < (((List.length v7.2.1) : Nat) : Int)))) then
          some ((.inl ((false, ()), ())))
         else
          Option.bind (law27_NegoSends_L18_R N ((x21, (x22, (x23, (v7.2.1, ((((List.length v7.2.1) : Nat) : Int), ((0 : Int), ())))))), (((v7.1.1.1, ((v7.1.1.2.1.1, (v7.1.1.2.1.2.1, v7.1.1.2.1.2.2)), (v7.1.1.2.2.1, (v7.1.1.2.2.2.1, (v7.1.1.2.2.2.2.1, (v7.1.1.2.2.2.2.2.1, (v7.1.1.2.2.2.2.2.2.1, v7.1.1.2.2.2.2.2.2.2))))))), (v7.1.2.1, ((v7.1.2.2.1.1, v7.1.2.2.1.2), (v7.1.2.2.2.1, (v7.1.2.2.2.2.1, (v7.1.2.2.2.2.2.1, v7.1.2.2.2.2.2.2)))))), ()))) fun v8 =>
          Sum.elim
           (fun (v9 : ((Bool × Unit) × Unit)) =>
           some ((.inl ((v9.1.1, ()), ()))))
           (fun (v9 : (((List (Int × (Int × (Bool × (Bool × (Int × (Int × (List Int)))))))) × (Int × (Int × Unit))) × (((Bool × ((Int × (Int × Bool)) × (Bool × (Bool × (Int × (Int × (Int × Bool))))))) × (Int × ((Int × Int) × (Int × ((List (Int × (List Int))) × ((List (Int × (List Int))) × Int)))))) × Unit))) =>
           (X ((v9.1.1, (v9.1.2.1, ((IntKind.wrap .i64 (v9.1.2.2.1 + 1)), ()))), (((v9.2.1.1.1, ((v9.2.1.1.2.1.1, (v9.2.1.1.2.1.2.1, v9.2.1.1.2.1.2.2)), (v9.2.1.1.2.2.1, (v9.2.1.1.2.2.2.1, (v9.2.1.1.2.2.2.2.1, (v9.2.1.1.2.2.2.2.2.1, (v9.2.1.1.2.2.2.2.2.2.1, v9.2.1.1.2.2.2.2.2.2.2))))))), (v9.2.1.2.1, ((v9.2.1.2.2.1.1, v9.2.1.2.2.1.2), (v9.2.1.2.2.2.1, (v9.2.1.2.2.2.2.1, (v9.2.1.2.2.2.2.2.1, v9.2.1.2.2.2.2.2.2)))))), ())))) v8
       else
        bif (cond false true (!(@BEq.beq Bool (@instBEqOfDecidableEq Bool @instDecidableEqBool) v7.2.2.2.1 false))) then
         some ((.inl ((false, ()), ())))
        else
         bif (cond false true (decide ((2 : Int) < (((List.length v7.2.1) : Nat) : Int)))) then
          some ((.inl ((false, ()), ())))
         else
          Option.bind (law27_NegoSends_L18_R N ((x21, (x22, (x23, (v7.2.1, ((((List.length v7.2.1) : Nat) : Int), ((0 : Int), ())))))), (((v7.1.1.1, ((v7.1.1.2.1.1, (v7.1.1.2.1.2.1, v7.1.1.2.1.2.2)), (v7.1.1.2.2.1, (v7.1.1.2.2.2.1, (v7.1.1.2.2.2.2.1, (v7.1.1.2.2.2.2.2.1, (v7.1.1.2.2.2.2.2.2.1, v7.1.1.2.2.2.2.2.2.2))))))), (v7.1.2.1, ((v7.1.2.2.1.1, v7.1.2.2.1.2), (v7.1.2.2.2.1, (v7.1.2.2.2.2.1, (v7.1.2.2.2.2.2.1, v7.1.2.2.2.2.2.2)))))), ()))) fun v8 =>
          Sum.elim
           (fun (v9 : ((Bool × Unit) × Unit)) =>
           some ((.inl ((v9.1.1, ()), ()))))
           (fun (v9 : (((List (Int × (Int × (Bool × (Bool × (Int × (Int × (List Int)))))))) × (Int × (Int × Unit))) × (((Bool × ((Int × (Int × Bool)) × (Bool × (Bool × (Int × (Int × (Int × Bool))))))) × (Int × ((Int × Int) × (Int × ((List (Int × (List Int))) × ((List (Int × (List Int))) × Int)))))) × Unit))) =>
           (X ((v9.1.1, (v9.1.2.1, ((IntKind.wrap .i64 (v9.1.2.2.1 + 1)), ()))), (((v9.2.1.1.1, ((v9.2.1.1.2.1.1, (v9.2.1.1.2.1.2.1, v9.2.1.1.2.1.2.2)), (v9.2.1.1.2.2.1, (v9.2.1.1.2.2.2.1, (v9.2.1.1.2.2.2.2.1, (v9.2.1.1.2.2.2.2.2.1, (v9.2.1.1.2.2.2.2.2.2.1, v9.2.1.1.2.2.2.2.2.2.2))))))), (v9.2.1.2.1, ((v9.2.1.2.2.1.1, v9.2.1.2.2.1.2), (v9.2.1.2.2.2.1, (v9.2.1.2.2.2.2.1, (v9.2.1.2.2.2.2.2.1, v9.2.1.2.2.2.2.2.2)))))), ())))) v8
     else
      bif (!(@BEq.beq Bool (@instBEqOfDecidableEq Bool @instDecidableEqBool) v7.2.2.1 false)) then
       some ((.inl ((false, ()), ())))
      else
       bif (decide (h0.2.1 = (9 : Int))) then
        bif (cond false true (!(@BEq.beq Bool (@instBEqOfDecidableEq Bool @instDecidableEqBool) v7.2.2.2.1 (cond true (!(decide (v7.1.2.1 = (9 : Int)))) false)))) then
         some ((.inl ((false, ()), ())))
        else
         bif (cond false true (decide ((2 : Int) < (((List.length v7.2.1) : Nat) : Int)))) then
          some ((.inl ((false, ()), ())))
         else
          Option.bind (law27_NegoSends_L18_R N ((x21, (x22, (x23, (v7.2.1, ((((List.length v7.2.1) : Nat) : Int), ((0 : Int), ())))))), (((v7.1.1.1, ((v7.1.1.2.1.1, (v7.1.1.2.1.2.1, v7.1.1.2.1.2.2)), (v7.1.1.2.2.1, (v7.1.1.2.2.2.1, (v7.1.1.2.2.2.2.1, (v7.1.1.2.2.2.2.2.1, (v7.1.1.2.2.2.2.2.2.1, v7.1.1.2.2.2.2.2.2.2))))))), (v7.1.2.1, ((v7.1.2.2.1.1, v7.1.2.2.1.2), (v7.1.2.2.2.1, (v7.1.2.2.2.2.1, (v7.1.2.2.2.2.2.1, v7.1.2.2.2.2.2.2)))))), ()))) fun v8 =>
          Sum.elim
           (fun (v9 : ((Bool × Unit) × Unit)) =>
           some ((.inl ((v9.1.1, ()), ()))))
           (fun (v9 : (((List (Int × (Int × (Bool × (Bool × (Int × (Int × (List Int)))))))) × (Int × (Int × Unit))) × (((Bool × ((Int × (Int × Bool)) × (Bool × (Bool × (Int × (Int × (Int × Bool))))))) × (Int × ((Int × Int) × (Int × ((List (Int × (List Int))) × ((List (Int × (List Int))) × Int)))))) × Unit))) =>
           (X ((v9.1.1, (v9.1.2.1, ((IntKind.wrap .i64 (v9.1.2.2.1 + 1)), ()))), (((v9.2.1.1.1, ((v9.2.1.1.2.1.1, (v9.2.1.1.2.1.2.1, v9.2.1.1.2.1.2.2)), (v9.2.1.1.2.2.1, (v9.2.1.1.2.2.2.1, (v9.2.1.1.2.2.2.2.1, (v9.2.1.1.2.2.2.2.2.1, (v9.2.1.1.2.2.2.2.2.2.1, v9.2.1.1.2.2.2.2.2.2.2))))))), (v9.2.1.2.1, ((v9.2.1.2.2.1.1, v9.2.1.2.2.1.2), (v9.2.1.2.2.2.1, (v9.2.1.2.2.2.2.1, (v9.2.1.2.2.2.2.2.1, v9.2.1.2.2.2.2.2.2)))))), ())))) v8
       else
        bif (cond false true (!(@BEq.beq Bool (@instBEqOfDecidableEq Bool @instDecidableEqBool) v7.2.2.2.1 false))) then
         some ((.inl ((false, ()), ())))
        else
         bif (cond false true (decide ((2 : Int) < (((List.length v7.2.1) : Nat) : Int)))) then
          some ((.inl ((false, ()), ())))
         else
          Option.bind (law27_NegoSends_L18_R N ((x21, (x22, (x23, (v7.2.1, ((((List.length v7.2.1) : Nat) : Int), ((0 : Int), ())))))), (((v7.1.1.1, ((v7.1.1.2.1.1, (v7.1.1.2.1.2.1, v7.1.1.2.1.2.2)), (v7.1.1.2.2.1, (v7.1.1.2.2.2.1, (v7.1.1.2.2.2.2.1, (v7.1.1.2.2.2.2.2.1, (v7.1.1.2.2.2.2.2.2.1, v7.1.1.2.2.2.2.2.2.2))))))), (v7.1.2.1, ((v7.1.2.2.1.1, v7.1.2.2.1.2), (v7.1.2.2.2.1, (v7.1.2.2.2.2.1, (v7.1.2.2.2.2.2.1, v7.1.2.2.2.2.2.2)))))), ()))) fun v8 =>
          Sum.elim
           (fun (v9 : ((Bool × Unit) × Unit)) =>
           some ((.inl ((v9.1.1, ()), ()))))
           (fun (v9 : (((List (Int × (Int × (Bool × (Bool × (Int × (Int × (List Int)))))))) × (Int × (Int × Unit))) × (((Bool × ((Int × (Int × Bool)) × (Bool × (Bool × (Int × (Int × (Int × Bool))))))) × (Int × ((Int × Int) × (Int × ((List (Int × (List Int))) × ((List (Int × (List Int))) × Int)))))) × Unit))) =>
           (X ((v9.1.1, (v9.1.2.1, ((IntKind.wrap .i64 (v9.1.2.2.1 + 1)), ()))), (((v9.2.1.1.1, ((v9.2.1.1.2.1.1, (v9.2.1.1.2.1.2.1, v9.2.1.1.2.1.2.2)), (v9.2.1.1.2.2.1, (v9.2.1.1.2.2.2.1, (v9.2.1.1.2.2.2.2.1, (v9.2.1.1.2.2.2.2.2.1, (v9.2.1.1.2.2.2.2.2.2.1, v9.2.1.1.2.2.2.2.2.2.2))))))), (v9.2.1.2.1, ((v9.2.1.2.2.1.1, v9.2.1.2.2.1.2), (v9.2.1.2.2.2.1, (v9.2.1.2.2.2.2.1, (v9.2.1.2.2.2.2.2.1, v9.2.1.2.2.2.2.2.2)))))), ())))) v8
    else
     Option.bind (nego_Nego_Take N ((h0.1.1, ((h0.1.2.1.1, (h0.1.2.1.2.1, h0.1.2.1.2.2)), (h0.1.2.2.1, (h0.1.2.2.2.1, (h0.1.2.2.2.2.1, (h0.1.2.2.2.2.2.1, (h0.1.2.2.2.2.2.2.1, h0.1.2.2.2.2.2.2.2))))))), (h0.2.1, ((h0.2.2.1.1, h0.2.2.1.2), (h0.2.2.2.1, (h0.2.2.2.2.1, (h0.2.2.2.2.2.1, h0.2.2.2.2.2.2)))))) (v6.2.2.2.2.1, (v6.2.2.2.2.2.1, v6.2.2.2.2.2.2))) fun v7 =>
     bif (!(decide (h0.2.1 = (9 : Int)))) then
      bif (!(@BEq.beq Bool (@instBEqOfDecidableEq Bool @instDecidableEqBool) v7.2.2.1 (cond true (decide (v7.1.2.1 = (9 : Int))) false))) then
       some ((.inl ((false, ()), ())))
      else
       bif (decide (h0.2.1 = (9 : Int))) then
        bif (cond false true (!(@BEq.beq Bool (@instBEqOfDecidableEq Bool @instDecidableEqBool) v7.2.2.2.1 (cond true (!(decide (v7.1.2.1 = (9 : Int)))) false)))) then
         some ((.inl ((false, ()), ())))
        else
         bif (cond false true (decide ((2 : Int) < (((List.length v7.2.1) : Nat) : Int)))) then
          some ((.inl ((false, ()), ())))
         else
          Option.bind (law27_NegoSends_L18_R N ((x21, (x22, (x23, (v7.2.1, ((((List.length v7.2.1) : Nat) : Int), ((0 : Int), ())))))), (((v7.1.1.1, ((v7.1.1.2.1.1, (v7.1.1.2.1.2.1, v7.1.1.2.1.2.2)), (v7.1.1.2.2.1, (v7.1.1.2.2.2.1, (v7.1.1.2.2.2.2.1, (v7.1.1.2.2.2.2.2.1, (v7.1.1.2.2.2.2.2.2.1, v7.1.1.2.2.2.2.2.2.2))))))), (v7.1.2.1, ((v7.1.2.2.1.1, v7.1.2.2.1.2), (v7.1.2.2.2.1, (v7.1.2.2.2.2.1, (v7.1.2.2.2.2.2.1, v7.1.2.2.2.2.2.2)))))), ()))) fun v8 =>
          Sum.elim
           (fun (v9 : ((Bool × Unit) × Unit)) =>
           some ((.inl ((v9.1.1, ()), ()))))
           (fun (v9 : (((List (Int × (Int × (Bool × (Bool × (Int × (Int × (List Int)))))))) × (Int × (Int × Unit))) × (((Bool × ((Int × (Int × Bool)) × (Bool × (Bool × (Int × (Int × (Int × Bool))))))) × (Int × ((Int × Int) × (Int × ((List (Int × (List Int))) × ((List (Int × (List Int))) × Int)))))) × Unit))) =>
           (X ((v9.1.1, (v9.1.2.1, ((IntKind.wrap .i64 (v9.1.2.2.1 + 1)), ()))), (((v9.2.1.1.1, ((v9.2.1.1.2.1.1, (v9.2.1.1.2.1.2.1, v9.2.1.1.2.1.2.2)), (v9.2.1.1.2.2.1, (v9.2.1.1.2.2.2.1, (v9.2.1.1.2.2.2.2.1, (v9.2.1.1.2.2.2.2.2.1, (v9.2.1.1.2.2.2.2.2.2.1, v9.2.1.1.2.2.2.2.2.2.2))))))), (v9.2.1.2.1, ((v9.2.1.2.2.1.1, v9.2.1.2.2.1.2), (v9.2.1.2.2.2.1, (v9.2.1.2.2.2.2.1, (v9.2.1.2.2.2.2.2.1, v9.2.1.2.2.2.2.2.2)))))), ())))) v8
       else
        bif (cond false true (!(@BEq.beq Bool (@instBEqOfDecidableEq Bool @instDecidableEqBool) v7.2.2.2.1 false))) then
         some ((.inl ((false, ()), ())))
        else
         bif (cond false true (decide ((2 : Int) < (((List.length v7.2.1) : Nat) : Int)))) then
          some ((.inl ((false, ()), ())))
         else
          Option.bind (law27_NegoSends_L18_R N ((x21, (x22, (x23, (v7.2.1, ((((List.length v7.2.1) : Nat) : Int), ((0 : Int), ())))))), (((v7.1.1.1, ((v7.1.1.2.1.1, (v7.1.1.2.1.2.1, v7.1.1.2.1.2.2)), (v7.1.1.2.2.1, (v7.1.1.2.2.2.1, (v7.1.1.2.2.2.2.1, (v7.1.1.2.2.2.2.2.1, (v7.1.1.2.2.2.2.2.2.1, v7.1.1.2.2.2.2.2.2.2))))))), (v7.1.2.1, ((v7.1.2.2.1.1, v7.1.2.2.1.2), (v7.1.2.2.2.1, (v7.1.2.2.2.2.1, (v7.1.2.2.2.2.2.1, v7.1.2.2.2.2.2.2)))))), ()))) fun v8 =>
          Sum.elim
           (fun (v9 : ((Bool × Unit) × Unit)) =>
           some ((.inl ((v9.1.1, ()), ()))))
           (fun (v9 : (((List (Int × (Int × (Bool × (Bool × (Int × (Int × (List Int)))))))) × (Int × (Int × Unit))) × (((Bool × ((Int × (Int × Bool)) × (Bool × (Bool × (Int × (Int × (Int × Bool))))))) × (Int × ((Int × Int) × (Int × ((List (Int × (List Int))) × ((List (Int × (List Int))) × Int)))))) × Unit))) =>
           (X ((v9.1.1, (v9.1.2.1, ((IntKind.wrap .i64 (v9.1.2.2.1 + 1)), ()))), (((v9.2.1.1.1, ((v9.2.1.1.2.1.1, (v9.2.1.1.2.1.2.1, v9.2.1.1.2.1.2.2)), (v9.2.1.1.2.2.1, (v9.2.1.1.2.2.2.1, (v9.2.1.1.2.2.2.2.1, (v9.2.1.1.2.2.2.2.2.1, (v9.2.1.1.2.2.2.2.2.2.1, v9.2.1.1.2.2.2.2.2.2.2))))))), (v9.2.1.2.1, ((v9.2.1.2.2.1.1, v9.2.1.2.2.1.2), (v9.2.1.2.2.2.1, (v9.2.1.2.2.2.2.1, (v9.2.1.2.2.2.2.2.1, v9.2.1.2.2.2.2.2.2)))))), ())))) v8
     else
      bif (!(@BEq.beq Bool (@instBEqOfDecidableEq Bool @instDecidableEqBool) v7.2.2.1 false)) then
       some ((.inl ((false, ()), ())))
      else
       bif (decide (h0.2.1 = (9 : Int))) then
        bif (cond false true (!(@BEq.beq Bool (@instBEqOfDecidableEq Bool @instDecidableEqBool) v7.2.2.2.1 (cond true (!(decide (v7.1.2.1 = (9 : Int)))) false)))) then
         some ((.inl ((false, ()), ())))
        else
         bif (cond false true (decide ((2 : Int) < (((List.length v7.2.1) : Nat) : Int)))) then
          some ((.inl ((false, ()), ())))
         else
          Option.bind (law27_NegoSends_L18_R N ((x21, (x22, (x23, (v7.2.1, ((((List.length v7.2.1) : Nat) : Int), ((0 : Int), ())))))), (((v7.1.1.1, ((v7.1.1.2.1.1, (v7.1.1.2.1.2.1, v7.1.1.2.1.2.2)), (v7.1.1.2.2.1, (v7.1.1.2.2.2.1, (v7.1.1.2.2.2.2.1, (v7.1.1.2.2.2.2.2.1, (v7.1.1.2.2.2.2.2.2.1, v7.1.1.2.2.2.2.2.2.2))))))), (v7.1.2.1, ((v7.1.2.2.1.1, v7.1.2.2.1.2), (v7.1.2.2.2.1, (v7.1.2.2.2.2.1, (v7.1.2.2.2.2.2.1, v7.1.2.2.2.2.2.2)))))), ()))) fun v8 =>
          Sum.elim
           (fun (v9 : ((Bool × Unit) × Unit)) =>
           some ((.inl ((v9.1.1, ()), ()))))
           (fun (v9 : (((List (Int × (Int × (Bool × (Bool × (Int × (Int × (List Int)))))))) × (Int × (Int × Unit))) × (((Bool × ((Int × (Int × Bool)) × (Bool × (Bool × (Int × (Int × (Int × Bool))))))) × (Int × ((Int × Int) × (Int × ((List (Int × (List Int))) × ((List (Int × (List Int))) × Int)))))) × Unit))) =>
           (X ((v9.1.1, (v9.1.2.1, ((IntKind.wrap .i64 (v9.1.2.2.1 + 1)), ()))), (((v9.2.1.1.1, ((v9.2.1.1.2.1.1, (v9.2.1.1.2.1.2.1, v9.2.1.1.2.1.2.2)), (v9.2.1.1.2.2.1, (v9.2.1.1.2.2.2.1, (v9.2.1.1.2.2.2.2.1, (v9.2.1.1.2.2.2.2.2.1, (v9.2.1.1.2.2.2.2.2.2.1, v9.2.1.1.2.2.2.2.2.2.2))))))), (v9.2.1.2.1, ((v9.2.1.2.2.1.1, v9.2.1.2.2.1.2), (v9.2.1.2.2.2.1, (v9.2.1.2.2.2.2.1, (v9.2.1.2.2.2.2.2.1, v9.2.1.2.2.2.2.2.2)))))), ())))) v8
       else
        bif (cond false true (!(@BEq.beq Bool (@instBEqOfDecidableEq Bool @instDecidableEqBool) v7.2.2.2.1 false))) then
         some ((.inl ((false, ()), ())))
        else
         bif (cond false true (decide ((2 : Int) < (((List.length v7.2.1) : Nat) : Int)))) then
          some ((.inl ((false, ()), ())))
         else
          Option.bind (law27_NegoSends_L18_R N ((x21, (x22, (x23, (v7.2.1, ((((List.length v7.2.1) : Nat) : Int), ((0 : Int), ())))))), (((v7.1.1.1, ((v7.1.1.2.1.1, (v7.1.1.2.1.2.1, v7.1.1.2.1.2.2)), (v7.1.1.2.2.1, (v7.1.1.2.2.2.1, (v7.1.1.2.2.2.2.1, (v7.1.1.2.2.2.2.2.1, (v7.1.1.2.2.2.2.2.2.1, v7.1.1.2.2.2.2.2.2.2))))))), (v7.1.2.1, ((v7.1.2.2.1.1, v7.1.2.2.1.2), (v7.1.2.2.2.1, (v7.1.2.2.2.2.1, (v7.1.2.2.2.2.2.1, v7.1.2.2.2.2.2.2)))))), ()))) fun v8 =>
          Sum.elim
           (fun (v9 : ((Bool × Unit) × Unit)) =>
           some ((.inl ((v9.1.1, ()), ()))))
           (fun (v9 : (((List (Int × (Int × (Bool × (Bool × (Int × (Int × (List Int)))))))) × (Int × (Int × Unit))) × (((Bool × ((Int × (Int × Bool)) × (Bool × (Bool × (Int × (Int × (Int × Bool))))))) × (Int × ((Int × Int) × (Int × ((List (Int × (List Int))) × ((List (Int × (List Int))) × Int)))))) × Unit))) =>
           (X ((v9.1.1, (v9.1.2.1, ((IntKind.wrap .i64 (v9.1.2.2.1 + 1)), ()))), (((v9.2.1.1.1, ((v9.2.1.1.2.1.1, (v9.2.1.1.2.1.2.1, v9.2.1.1.2.1.2.2)), (v9.2.1.1.2.2.1, (v9.2.1.1.2.2.2.1, (v9.2.1.1.2.2.2.2.1, (v9.2.1.1.2.2.2.2.2.1, (v9.2.1.1.2.2.2.2.2.2.1, v9.2.1.1.2.2.2.2.2.2.2))))))), (v9.2.1.2.1, ((v9.2.1.2.2.1.1, v9.2.1.2.2.1.2), (v9.2.1.2.2.2.1, (v9.2.1.2.2.2.2.1, (v9.2.1.2.2.2.2.2.1, v9.2.1.2.2.2.2.2.2)))))), ())))) v8
 else
  some ((.inr ((), ())))
noncomputable def law27_NegoSends_L3_R (c : (((List (Int × (Int × (Bool × (Bool × (Int × (Int × (List Int)))))))) × (Int × (Int × Unit))) × (((Bool × ((Int × (Int × (Bool))) × (Bool × (Bool × (Int × (Int × (Int × (Bool)))))))) × (Int × ((Int × Int) × (Int × ((List (Int × (List Int))) × ((List (Int × (List Int))) × Int)))))) × Unit))) : Option ((((Bool × Unit) × Unit) ⊕ (Unit × Unit))) := gl (fun X c => law27_NegoSends_L3 N X c.1.1 c.1.2.1 c.1.2.2.1 c.2.1) N c
theorem law27_NegoSends_L3_S (X : (((List (Int × (Int × (Bool × (Bool × (Int × (Int × (List Int)))))))) × (Int × (Int × Unit))) × (((Bool × ((Int × (Int × (Bool))) × (Bool × (Bool × (Int × (Int × (Int × (Bool)))))))) × (Int × ((Int × Int) × (Int × ((List (Int × (List Int))) × ((List (Int × (List Int))) × Int)))))) × Unit)) → Option ((((Bool × Unit) × Unit) ⊕ (Unit × Unit)))) (x21 : List (Int × (Int × (Bool × (Bool × (Int × (Int × (List Int)))))))) (x22 : Int) (x23 : Int) (h0 : (Bool × ((Int × (Int × (Bool))) × (Bool × (Bool × (Int × (Int × (Int × (Bool)))))))) × (Int × ((Int × Int) × (Int × ((List (Int × (List Int))) × ((List (Int × (List Int))) × Int)))))) : (roundK Try.prog (Ev135 N) 400 [3] law27_NegoSends_L3_I (loopAt Try.prog [3] 3) X ((x21, x22, x23, ()), (h0, ()))).run = law27_NegoSends_L3 N X x21 x22 x23 h0 := by kernel_rfl
noncomputable def Ev136 : (R : Type) → Env R := Env.addLp (Ev135 N) [3] 0 3 (fun R => lpK Try.prog law27_NegoSends_L3_I (fun X c => law27_NegoSends_L3 N X c.1.1 c.1.2.1 c.1.2.2.1 c.2.1) N)
theorem Ev136_ok (R : Type) : EnvOK Try.prog (Ev136 N R) := EnvOK.addLp (Ev135_ok N R) (by kernel_rfl) (lpK_ok (li := law27_NegoSends_L3_I) (G := fun X c => law27_NegoSends_L3 N X c.1.1 c.1.2.1 c.1.2.2.1 c.2.1) hmx (Ev135_ok N _) (by kernel_rfl) loopAt_sub (fun (X : CT law27_NegoSends_L3_I.sh → Option (OT law27_NegoSends_L3_I.outs)) (c : CT law27_NegoSends_L3_I.sh) => law27_NegoSends_L3_S N X c.1.1 c.1.2.1 c.1.2.2.1 c.2.1) N)
noncomputable def law27_NegoSends (r0 : Bool × ((Int × (Int × (Bool))) × (Bool × (Bool × (Int × (Int × (Int × (Bool)))))))) (l1 : List (Int × (Int × (Bool × (Bool × (Int × (Int × (List Int)))))))) : Option Bool :=
 Option.bind (takeI l1 (@minI (((List.length l1) : Nat) : Int) (40 : Int))) fun (v3 : (List (Int × (Int × (Bool × (Bool × (Int × (Int × (List Int))))))))) =>
 Option.bind (law27_NegoSends_L3_R N ((v3, ((((List.length v3) : Nat) : Int), ((0 : Int), ()))), (((r0.1, ((r0.2.1.1, (r0.2.1.2.1, r0.2.1.2.2)), (r0.2.2.1, (r0.2.2.2.1, (r0.2.2.2.2.1, (r0.2.2.2.2.2.1, (r0.2.2.2.2.2.2.1, r0.2.2.2.2.2.2.2))))))), ((0 : Int), (((0 : Int), (0 : Int)), ((0 : Int), (([] : List ((Int × (List Int)))), (([] : List ((Int × (List Int)))), (0 : Int))))))), ()))) fun v4 =>
 Sum.elim
  (fun (v5 : ((Bool × Unit) × Unit)) =>
  some (v5.1.1))
  (fun (v5 : (Unit × Unit)) =>
  Option.bind (@law27_alive N) fun (v6 : Bool) =>
  some (v6)) v4
theorem law27_NegoSends_S (r0 : Bool × ((Int × (Int × (Bool))) × (Bool × (Bool × (Int × (Int × (Int × (Bool)))))))) (l1 : List (Int × (Int × (Bool × (Bool × (Int × (Int × (List Int)))))))) : (runK Try.prog (Ev136 N) 400 3 [(.pair .bool (.pair (.pair (.int .u16) (.pair (.int .u32) .bool)) (.pair .bool (.pair .bool (.pair (.int .u32) (.pair (.int .u32) (.pair (.int .u32) .bool))))))), (.sl (.pair (.int .u8) (.pair (.int .i64) (.pair .bool (.pair .bool (.pair (.int .u8) (.pair (.int .u8) (.sl (.int .u8)))))))))] [.bool] (r0, l1, ())).run = law27_NegoSends N r0 l1 := by kernel_rfl
theorem law27_NegoSends_C (r0 : Bool × ((Int × (Int × (Bool))) × (Bool × (Bool × (Int × (Int × (Int × (Bool)))))))) (l1 : List (Int × (Int × (Bool × (Bool × (Int × (Int × (List Int)))))))) (y : Bool) (h : law27_NegoSends N r0 l1 = some y) : CallsK Try.prog 3 (valA [(.pair .bool (.pair (.pair (.int .u16) (.pair (.int .u32) .bool)) (.pair .bool (.pair .bool (.pair (.int .u32) (.pair (.int .u32) (.pair (.int .u32) .bool))))))), (.sl (.pair (.int .u8) (.pair (.int .i64) (.pair .bool (.pair .bool (.pair (.int .u8) (.pair (.int .u8) (.sl (.int .u8)))))))))] (r0, l1, ())) (tupV (valR [.bool] y)) := runK_ok hmx (Ev136_ok N _) (okFn_ok (by kernel_rfl)) (by rw [law27_NegoSends_S]; exact h)
end
end Go.Proofs.Ytjomcoignnlghaa
namespace Go.Proofs.Ytjomcoignnlghaa
set_option maxRecDepth 100000
open Go.RowKit
set_option linter.unusedVariables false
set_option linter.unusedSimpArgs false
set_option maxRecDepth 100000
abbrev Op := Int × List Int
def wfO (l : List Op) : Prop := ∀ o ∈ l, (0 ≤ o.1 ∧ o.1 < 256) ∧ AllB o.2
def enc1 (o : Op) : List Int := o.1 :: (2 + (o.2.length : Int)) :: o.2
def encs (l : List Op) : List Int := l.flatMap enc1
def small (l : List Op) : Prop := ∀ o ∈ l, o.2.length ≤ 253
theorem encs_cons (o : Op) (l : List Op) : encs (o :: l) = enc1 o ++ encs l := rfl
theorem encs_append (l m : List Op) : encs (l ++ m) = encs l ++ encs m := List.flatMap_append
theorem encs_len : ∀ {l : List Op}, small l → (encs l).length ≤ 255 * l.length
 | [], _ => by simp [encs]
 | o :: l, h => by
  have h1 := h o List.mem_cons_self
  have h2 := encs_len (l := l) fun x hx => h x (List.mem_cons_of_mem _ hx)
  rw [encs_cons, List.length_append, List.length_cons]
  simp only [enc1, List.length_cons]
  omega
theorem encs_all : ∀ {l : List Op}, small l → wfO l → AllB (encs l)
 | [], _, _ => AllB.nil
 | o :: l, h, w => by
  have h1 := h o List.mem_cons_self
  have w1 := w o List.mem_cons_self
  have h2 := encs_all (l := l) (fun x hx => h x (List.mem_cons_of_mem _ hx)) (fun x hx => w x (List.mem_cons_of_mem _ hx))
  rw [encs_cons]
  exact (AllB.cons w1.1 (AllB.cons (by omega) w1.2)).append h2
theorem take_snoc {α : Type} (l : List α) (i : Nat) (h : i < l.length) : l.take (i + 1) = l.take i ++ [l[i]] := by rw [List.take_add_one, List.getElem?_eq_getElem h]; rfl
section
variable {N : Nat}
abbrev LayO := (((List (Int)) × ((Int) × Unit)) × Unit) ⊕ (Unit × ((List (Int)) × Unit))
def layO (l : List Op) : LayO := if l.all (fun o => decide (o.2.length ≤ 253)) then .inr ((), (encs l, ())) else .inl (([], ((8 : Int), ())), ())
def layS (l : List Op) : List Int × Int := if 32 < l.length then ([], 5) else if l.all (fun o => decide (o.2.length ≤ 253)) then (encs l, 0) else ([], 8)
theorem all_small {l : List Op} : l.all (fun o => decide (o.2.length ≤ 253)) = true ↔ small l := by simp [small]
theorem lay_end {l : List Op} {i : Nat} (h : l.length ≤ i) (hs : small (l.take i)) : layO l = .inr ((), (encs l, ())) ∧ encs (l.take i) = encs l := by
 rw [List.take_of_length_le h] at hs ⊢
 exact ⟨by unfold layO; rw [if_pos (all_small.2 hs)], rfl⟩
theorem lay_big {l : List Op} {i : Nat} (hi : i < l.length) (h : 253 < l[i].2.length) : layO l = .inl (([], ((8 : Int), ())), ()) := by
 unfold layO
 rw [if_neg (fun hs => by have := all_small.1 hs _ (List.getElem_mem hi); omega)]
theorem small_snoc {l : List Op} {i : Nat} (hi : i < l.length) (hs : small (l.take i)) (h : l[i].2.length ≤ 253) : small (l.take (i + 1)) := by
 intro o ho
 rw [take_snoc l i hi] at ho
 rcases List.mem_append.1 ho with ho | ho
 ·exact hs o ho
 ·simp at ho; subst ho; exact h
theorem head_len {n : Nat} (h : n ≤ 253) : IntKind.wrap .u8 (IntKind.wrap .i64 ((2 : Int) + (n : Int))) = 2 + (n : Int) := by
 rw [wrap64 (by omega) (by omega), wrapU8 (by omega) (by omega)]
theorem encs_snoc {l : List Op} {i : Nat} (hi : i < l.length) : encs (l.take (i + 1)) = encs (l.take i) ++ [l[i].1, 2 + (l[i].2.length : Int)] ++ l[i].2 := by
 rw [take_snoc l i hi, encs_append]
 simp [encs, enc1]
theorem lay_room {l : List Op} {i : Nat} (hl : l.length ≤ 1000) (hi : i < l.length) (hs : small (l.take i)) (h : l[i].2.length ≤ 253) : roomB ((encs (l.take i)).length + ([l[i].1, 2 + (l[i].2.length : Int)] : List Int).length) 1 = true ∧ roomB ((encs (l.take i) ++ [l[i].1, 2 + (l[i].2.length : Int)]).length + l[i].2.length) 1 = true := by
 have h1 := encs_len hs
 have h2 := big_len
 rw [List.length_take] at h1
 exact ⟨roomB_of (by simp only [List.length_cons, List.length_nil]; omega) (by simp only [List.length_cons, List.length_nil]; omega), roomB_of (by simp only [List.length_append, List.length_cons, List.length_nil]; omega) (by simp only [List.length_append, List.length_cons, List.length_nil]; omega)⟩
theorem lay_ok (l : List Op) (hl : l.length ≤ 1000) (hN : 10000 ≤ N) : opts_Lay N l = some (layS l) := by
 unfold opts_Lay layS
 by_cases h32 : 32 < l.length
 ·have c0 : ((32 : Int) < (l.length : Int)) := by omega
  simp only [c0, h32, decide_true, cond_true, if_true]
 ·have c0 : ¬ ((32 : Int) < (l.length : Int)) := by omega
  simp only [c0, h32, decide_false, cond_false, if_false]
  obtain ⟨o, h1, h2⟩ := gl_inv (G := fun (X : (((List ((Int) × (List (Int)))) × ((Int) × ((Int) × Unit))) × ((List (Int)) × Unit)) → Option LayO) c => opts_Lay_L5 N X c.1.1 c.1.2.1 c.1.2.2.1 c.2.1)
   (fun n c => ∃ i : Nat, c = ((l, ((l.length : Int), ((i : Int), ()))), (encs (l.take i), ())) ∧ i ≤ l.length ∧ n = l.length - i ∧ small (l.take i)) (fun o => o = layO l) (fun X n c ⟨i, hc, hi, hn, hs⟩ => by
    subst hc
    rcases Nat.lt_or_ge i l.length with hlt | hge
    ·have c1 : ((i : Int) < (l.length : Int)) := by omega
     have c2 : IntKind.wrap .i64 ((i : Int) + 1) = ((i + 1 : Nat) : Int) := by rw [wrap64 (by omega) (by omega)]; omega
     by_cases he : (253 : Int) < (l[i].2.length : Int)
     ·left
      exact ⟨_, by simp only [opts_Lay_L5, c1, decide_true, cond_true, getI_lt l i hlt, Option.bind_some, he], (lay_big hlt (by omega)).symm⟩
     ·right
      have he' : l[i].2.length ≤ 253 := by omega
      obtain ⟨r1, r2⟩ := lay_room hl hlt hs he'
      refine ⟨l.length - (i + 1), ((l, ((l.length : Int), (((i + 1 : Nat) : Int), ()))), (encs (l.take (i + 1)), ())), by omega, ⟨i + 1, rfl, hlt, rfl, small_snoc hlt hs he'⟩, ?_⟩
      simp only [opts_Lay_L5, c1, decide_true, cond_true, getI_lt l i hlt, Option.bind_some, he, decide_false, cond_false, c2, head_len he', r1, r2, encs_snoc hlt]
    ·left
     have c1 : ¬ ((i : Int) < (l.length : Int)) := by omega
     obtain ⟨e1, e2⟩ := lay_end hge hs
     exact ⟨.inr ((), (encs (l.take i), ())), by simp only [opts_Lay_L5, c1, decide_false, cond_false], by rw [e1, e2]⟩) N l.length ((l, ((l.length : Int), ((0 : Int), ()))), (([] : List Int), ())) (by omega) ⟨0, rfl, by omega, by omega, fun o ho => by cases ho⟩
  unfold opts_Lay_L5_R
  rw [h1, h2]
  unfold layO
  split <;> rfl
end
abbrev ParO := (((List Op) × ((Int) × Unit)) × Unit) ⊕ (Unit × ((List Op) × Unit))
def parE (e : Int) : ParO := .inl (([], (e, ())), ())
def par : Nat → List Int → List Op → ParO
 | 0, _, _ => parE 4
 | k + 1, b, acc =>
  if b.length = 0 then .inr ((), (acc, ())) else if acc.length = 32 then parE 5 else if b.length < 2 then parE 4 else if b.getD 1 0 < 2 then parE 3 else if (b.length : Int) < b.getD 1 0 then parE 4 else
   par k (b.drop (b.getD 1 0).toNat) (acc ++ [(b.getD 0 0, (b.drop 2).take ((b.getD 1 0).toNat - 2))])
theorem getD_lt {b : List Int} {i : Nat} (h : i < b.length) : b.getD i 0 = b[i] := by rw [List.getD_eq_getElem?_getD, List.getElem?_eq_getElem h]; rfl
section
variable {N : Nat}
theorem clone_ok (s : List Int) (h : s.length ≤ 1000000) : slices_Clone_byte_byte N s = some s := by
 unfold slices_Clone_byte_byte slices_Clone_byte_byte_ne
 cases s with
 | nil => rfl
 | cons x s =>
  have : roomB (x :: s).length 1 = true := roomB_of (by have := big_len; omega) (by omega)
  first
   | (simp only [List.isEmpty_cons, cond_false, this, cond_true]; done)
   | (simp only [List.isEmpty_cons, cond_false, List.length_nil, Nat.zero_add, List.nil_append, this, cond_true]; done)
theorem par_prog : ∀ (k : Nat) (b : List Int) (acc : List Op), b.length < k → b.length ≤ 100000 → acc.length ≤ 32 → AllB b → gl (fun (X : (((List (Int)) × Unit) × ((List ((Int) × (List (Int)))) × Unit)) → Option ParO) c => opts_Parse_L2 N X c.1.1 c.2.1) k ((b, ()), (acc, ())) = some (par k b acc)
 | 0, b, acc, h, _, _, _ => by omega
 | k + 1, b, acc, h, hb, ha, hw => by
  rw [gl_succ]
  unfold par opts_Parse_L2
  by_cases h0 : b.length = 0
  ·have c1 : ¬ ((0 : Int) < (b.length : Int)) := by omega
   simp only [h0, if_true]
   simp only [Int.natCast_zero, Int.lt_irrefl, decide_false, cond_false]
  ·have c1 : ((0 : Int) < (b.length : Int)) := by omega
   simp only [c1, h0, decide_true, cond_true, if_false]
   by_cases h1 : acc.length = 32
   ·have c2 : ((acc.length : Int) = 32) := by omega
    simp only [c2, h1, decide_true, cond_true, if_true]
    rfl
   ·have c2 : ¬ ((acc.length : Int) = 32) := by omega
    simp only [c2, h1, decide_false, cond_false, if_false]
    unfold opts_first
    by_cases h2 : b.length < 2
    ·have c3 : ((b.length : Int) < 2) := by omega
     simp only [c3, h2, decide_true, cond_true, if_true, Option.bind_some]
     rfl
    ·have c3 : ¬ ((b.length : Int) < 2) := by omega
     have hx := hw.get 1 (by omega)
     have c4 : IntKind.wrap .i64 b[1] = b[1] := wrap64 (by omega) (by omega)
     rw [getI_at b (a := (1 : Int)) (i := 1) rfl (by omega), getD_lt (by omega : 1 < b.length), getD_lt (by omega : 0 < b.length)]
     simp only [c3, h2, decide_false, cond_false, if_false, Option.bind_some, c4]
     by_cases h3 : b[1] < 2
     ·simp only [h3, decide_true, cond_true, if_true, Option.bind_some]
      rfl
     ·simp only [h3, decide_false, cond_false, if_false, Option.bind_some]
      by_cases h4 : (b.length : Int) < b[1]
      ·simp only [h4, decide_true, cond_true, if_true, Option.bind_some]
       rfl
      ·have e1 : b[1] = ((b[1].toNat : Nat) : Int) := by omega
       have hn2 : 2 ≤ b[1].toNat := by omega
       have hnl : b[1].toNat ≤ b.length := by omega
       have c5 : roomB (acc.length + ([(b[0], (b.drop 2).take (b[1].toNat - 2))] : List Op).length) 32 = true := roomB_of (by have := big_len; simp; omega) (by simp; omega)
       have s1 := subI_nat b (a := (2 : Int)) (b := b[1]) (i := 2) (j := b[1].toNat) rfl e1 hn2 hnl
       have s2 := dropI_nat b (a := b[1]) (i := b[1].toNat) e1 hnl
       simp only [h4, decide_false, cond_false, if_false, Option.bind_some, decide_true, Bool.not_true]
       rw [getI_at b (a := (0 : Int)) (i := 0) rfl (by omega), Option.bind_some, s1, Option.bind_some, clone_ok _ (by rw [List.length_take, List.length_drop]; omega), Option.bind_some, c5, cond_true, s2, Option.bind_some]
       exact par_prog k _ _ (by rw [List.length_drop]; omega) (by rw [List.length_drop]; omega) (by simp; omega) (hw.drop _)
def fin (o : ParO) : List Op × Int := Sum.elim (fun v => (v.1.1, v.1.2.1)) (fun v => (v.2.1, 0)) o
theorem parse_ok (b : List Int) (hb : b.length ≤ 100000) (hw : AllB b) (hN : 100000 < N) : opts_Parse N b = some (fin (par N b [])) := by
 unfold opts_Parse opts_Parse_L2_R
 rw [par_prog N b [] (by omega) hb (by simp) hw]
 cases par N b [] <;> rfl
end
theorem par_back : ∀ (k : Nat) (b : List Int) (acc : List Op), b.length < k → AllB b → small acc → acc.length ≤ 32 → (∃ e, par k b acc = parE e ∧ e ≠ 0) ∨ ∃ m, par k b acc = .inr ((), (m, ())) ∧ encs m = encs acc ++ b ∧ small m ∧ m.length ≤ 32
 | 0, b, acc, h, _, _, _ => by omega
 | k + 1, b, acc, h, hw, hs, ha => by
  unfold par
  by_cases h0 : b.length = 0
  ·right
   rw [if_pos h0]
   have := List.eq_nil_of_length_eq_zero h0
   exact ⟨acc, rfl, by rw [this, List.append_nil], hs, ha⟩
  ·rw [if_neg h0]
   by_cases h1 : acc.length = 32
   ·left; rw [if_pos h1]; exact ⟨5, rfl, by decide⟩
   ·rw [if_neg h1]
    by_cases h2 : b.length < 2
    ·left; rw [if_pos h2]; exact ⟨4, rfl, by decide⟩
    ·rw [if_neg h2, getD_lt (by omega : 1 < b.length), getD_lt (by omega : 0 < b.length)]
     have hx := hw.get 1 (by omega)
     by_cases h3 : b[1] < 2
     ·left; rw [if_pos h3]; exact ⟨3, rfl, by decide⟩
     ·rw [if_neg h3]
      by_cases h4 : (b.length : Int) < b[1]
      ·left; rw [if_pos h4]; exact ⟨4, rfl, by decide⟩
      ·rw [if_neg h4]
       have hlt : ((b.drop 2).take (b[1].toNat - 2)).length = b[1].toNat - 2 := by rw [List.length_take, List.length_drop]; omega
       rcases par_back k (b.drop b[1].toNat) (acc ++ [(b[0], (b.drop 2).take (b[1].toNat - 2))]) (by rw [List.length_drop]; omega) (hw.drop _) (fun o ho => by
        rcases List.mem_append.1 ho with ho | ho
        ·exact hs o ho
        ·simp only [List.mem_singleton] at ho; subst ho; show ((b.drop 2).take (b[1].toNat - 2)).length ≤ 253; omega) (by simp; omega) with h5 | ⟨m, m1, m2, m3, m4⟩
       ·exact .inl h5
       ·refine .inr ⟨m, m1, ?_, m3, m4⟩
        rw [m2, encs_append, List.append_assoc]
        congr 1
        have e2 : encs [(b[0], (b.drop 2).take (b[1].toNat - 2))] = b[0] :: b[1] :: (b.drop 2).take (b[1].toNat - 2) := by
         show _ :: (2 + (List.length _ : Int)) :: (_ ++ []) = _
         rw [hlt, List.append_nil]
         congr 2
         omega
        rw [e2]
        have e3 : b.drop b[1].toNat = (b.drop 2).drop (b[1].toNat - 2) := by rw [List.drop_drop]; congr 1; omega
        rw [e3, List.cons_append, List.cons_append, List.take_append_drop]
        match b, h2 with
        | x :: y :: r, _ => rfl
        | [_], h2 => exact absurd (by simp) h2
        | [], h2 => exact absurd (by simp) h2
theorem par_wf : ∀ (k : Nat) (b : List Int) (acc : List Op), AllB b → wfO acc → ∀ m, par k b acc = .inr ((), (m, ())) → wfO m
 | 0, b, acc, hw, hs, m, h => by cases h
 | k + 1, b, acc, hw, hs, m, h => by
  unfold par at h
  split at h
  ·injection h with h; injection h with _ h; injection h with h; subst h; exact hs
  ·split at h
   ·cases h
   ·split at h
    ·cases h
    ·rename_i h2
     split at h
     ·cases h
     ·split at h
      ·cases h
      ·refine par_wf k _ _ (hw.drop _) (fun o ho => ?_) m h
       rcases List.mem_append.1 ho with ho | ho
       ·exact hs o ho
       ·simp only [List.mem_singleton] at ho
        subst ho
        exact ⟨by rw [getD_lt (by omega : 0 < b.length)]; exact hw.get 0 (by omega), (hw.drop _).take _⟩
section
variable {N : Nat}
theorem equal_ok (x y : Op) (h1 : AllB x.2) (h2 : AllB y.2) : opts_equal N x y = some (decide (x = y)) := by
 unfold opts_equal bytes_Equal
 rw [toBy_map h1, toBy_map h2]
 simp only [Option.bind_some, bytes_dec h1 h2]
 obtain ⟨x1, x2⟩ := x
 obtain ⟨y1, y2⟩ := y
 by_cases e1 : x1 = y1 <;> by_cases e2 : x2 = y2 <;> simp [e1, e2]
theorem osame_ok (a b : List Op) (ha : wfO a) (hb : wfO b) (hl : a.length < 1000) (hN : 10000 ≤ N) : opts_Same N a b = some (decide (a = b)) := by
 unfold opts_Same
 by_cases hl' : a.length = b.length
 ·have c0 : ((a.length : Int) = (b.length : Int)) := by omega
  simp only [c0, decide_true, Bool.not_true, cond_false]
  obtain ⟨o, h1, h2⟩ := gl_inv (G := fun (X : (((List Op) × ((List Op) × ((Int) × ((Int) × Unit)))) × Unit) → Option (((((Bool) × Unit) × Unit) ⊕ (Unit × Unit)))) c => opts_Same_1_slices_EqualFunc_api_Option_api_Option_api_Option_api_Option_L4 N X c.1.1 c.1.2.1 c.1.2.2.1 c.1.2.2.2.1)
   (fun n c => ∃ i : Nat, c = ((b, (a, ((b.length : Int), ((i : Int), ())))), ()) ∧ i ≤ a.length ∧ n = a.length - i ∧ a.take i = b.take i) (fun o => o = if a = b then .inr ((), ()) else .inl ((false, ()), ())) (fun X n c ⟨i, hc, hi, hn, ht⟩ => by
   subst hc
   rcases Nat.lt_or_ge i a.length with hlt | hge
   ·have c1 : ((i : Int) < (b.length : Int)) := by omega
    have c2 : IntKind.wrap .i64 ((i : Int) + 1) = ((i + 1 : Nat) : Int) := by rw [wrap64 (by omega) (by omega)]; omega
    have eq : opts_equal N (a[i].1, a[i].2) ((b[i]'(by omega)).1, (b[i]'(by omega)).2) = some (decide (a[i] = b[i]'(by omega))) := equal_ok (N := N) a[i] (b[i]'(by omega)) (ha _ (List.getElem_mem hlt)).2 (hb _ (List.getElem_mem _)).2
    by_cases he : a[i] = b[i]'(by omega)
    ·right
     refine ⟨a.length - (i + 1), ((b, (a, ((b.length : Int), (((i + 1 : Nat) : Int), ())))), ()), by omega, ⟨i + 1, rfl, hlt, rfl, ?_⟩, ?_⟩
     ·rw [List.take_add_one, List.take_add_one, ht, List.getElem?_eq_getElem hlt, List.getElem?_eq_getElem (by omega), he]
     ·simp only [opts_Same_1_slices_EqualFunc_api_Option_api_Option_api_Option_api_Option_L4, c1, decide_true, cond_true, getI_lt a i hlt, getI_lt b i (by omega), Option.bind_some, eq]
      simp only [he, decide_true, Bool.not_true, cond_false, c2]
    ·left
     refine ⟨.inl ((false, ()), ()), ?_, ?_⟩
     ·simp only [opts_Same_1_slices_EqualFunc_api_Option_api_Option_api_Option_api_Option_L4, c1, decide_true, cond_true, getI_lt a i hlt, getI_lt b i (by omega), Option.bind_some, eq]
      simp only [he, decide_false, Bool.not_false, cond_true]
     ·rw [if_neg (fun h => he (by simp [h]))]
   ·left
    have c1 : ¬ ((i : Int) < (b.length : Int)) := by omega
    refine ⟨.inr ((), ()), by simp only [opts_Same_1_slices_EqualFunc_api_Option_api_Option_api_Option_api_Option_L4, c1, decide_false, cond_false], ?_⟩
    rw [List.take_of_length_le (by omega), List.take_of_length_le (by omega)] at ht
    rw [if_pos ht]) N a.length ((b, (a, ((b.length : Int), ((0 : Int), ())))), ()) (by omega) ⟨0, rfl, by omega, by omega, by simp⟩
  unfold opts_Same_1_slices_EqualFunc_api_Option_api_Option_api_Option_api_Option_L4_R
  rw [h1, h2]
  by_cases he : a = b <;> simp [he]
 ·have c0 : ¬ ((a.length : Int) = (b.length : Int)) := by omega
  have c1 : ¬ (a = b) := fun h' => hl' (by rw [h'])
  simp only [c0, c1, decide_false, Bool.not_false, cond_true]
end
section
variable {N : Nat}
theorem oput2 (n : Int) (h : 0 ≤ n ∧ n < 18446744073709551616) (hN : 10000 ≤ N) : octs_Put N n 2 false = some ([n / 256 % 256, n % 256], 0) := put2 (N := N) n h (by omega)
theorem ojoin (l : List (List Int)) (hl : l.length ≤ 1000) (hs : ∀ p ∈ l, p.length ≤ 100000) (hN : 10000 ≤ N) : octs_Join N l = some l.flatten := join_ok (N := N) l hl hs (by omega)
abbrev Ct := Int × Int × List Int
def layC (c : Ct) : List Int × Int := if 4000 < c.2.2.length then ([], 8) else (c.1 :: c.2.1 :: ((4 + (c.2.2.length : Int)) / 256) :: ((4 + (c.2.2.length : Int)) % 256) :: c.2.2, 0)
theorem clay_ok (c : Ct) (hl : c.2.2.length ≤ 5000) (hN : 10000 ≤ N) : ctl_Lay N c = some (layC c) := by
 unfold ctl_Lay layC
 have w1 : IntKind.wrap .i64 ((4 : Int) + (c.2.2.length : Int)) = 4 + (c.2.2.length : Int) := wrap64 (by omega) (by omega)
 have w2 : IntKind.wrap .u64 ((4 : Int) + (c.2.2.length : Int)) = 4 + (c.2.2.length : Int) := wrapU64 (by omega) (by omega)
 by_cases hb : 4000 < c.2.2.length
 ·have c1 : (4000 : Int) < (c.2.2.length : Int) := by omega
  simp [c1, hb]
 ·have c1 : ¬ (4000 : Int) < (c.2.2.length : Int) := by omega
  rw [decide_eq_false c1, w1, w2, oput2 _ (by omega) hN]
  simp only [cond_false, Option.bind_some]
  rw [ojoin _ (by simp) (fun p hp => by
   simp only [List.mem_cons, List.not_mem_nil, or_false] at hp
   rcases hp with rfl | rfl | rfl
   ·simp
   ·simp
   ·omega) hN]
  have e1 : (4 + (c.2.2.length : Int)) / 256 % 256 = (4 + (c.2.2.length : Int)) / 256 := by omega
  simp [hb, e1]
end
section
variable {N : Nat}
def cutC (b : List Int) (most : Int) : List Int := if most ≤ 4 then [] else b.take (minI (b.length : Int) (most - 4)).toNat
theorem minI_r {a b : Int} (ha : 0 ≤ a) (hb : 0 ≤ b) : 0 ≤ minI a b ∧ minI a b ≤ a := by unfold minI; split <;> omega
theorem ccut_ok (b : List Int) (most : Int) (hm : -9223372036854775808 ≤ most ∧ most < 9223372036854775808) : ctl_cut N b most = some (cutC b most) := by
 unfold ctl_cut cutC
 by_cases h : most ≤ 4
 ·simp [h]
 ·have w : IntKind.wrap .i64 (most - 4) = most - 4 := wrap64 (by omega) (by omega)
  obtain ⟨r1, r2⟩ := minI_r (show (0 : Int) ≤ (b.length : Int) by omega) (show (0 : Int) ≤ most - 4 by omega)
  have t := takeI_nat b (a := minI (b.length : Int) (most - 4)) (i := (minI (b.length : Int) (most - 4)).toNat) (by omega) (by omega)
  simp [h, w, t]
theorem crej_ok (id : Int) (c : Ct) (most : Int) (hl : c.2.2.length ≤ 5000) (hm : -9223372036854775808 ≤ most ∧ most < 9223372036854775808) (hN : 10000 ≤ N) : ctl_Reject N id c most = some (7, id, cutC (layC c).1 most) := by
 unfold ctl_Reject
 have e : ctl_Lay N (c.1, (c.2.1, c.2.2)) = some (layC c) := clay_ok c hl hN
 rw [e, Option.bind_some, ccut_ok _ _ hm, Option.bind_some]
def isC (code : Int) : Bool := decide (1 ≤ code ∧ code ≤ 4)
theorem chas_ok (code : Int) : ctl_hasOptions N code = some (isC code) := by
 unfold ctl_hasOptions isC
 by_cases h1 : (1 : Int) ≤ code <;> by_cases h2 : code ≤ (4 : Int) <;> simp [h1, h2]
def conC (code id : Int) (l : List Op) : Ct × Int := bif isC code then (bif decide ((layS l).2 = 0) then ((code, id, (layS l).1), 0) else ((0, 0, []), (layS l).2)) else ((0, 0, []), 9)
theorem ccon_ok (code id : Int) (l : List Op) (hl : l.length ≤ 1000) (hN : 10000 ≤ N) : ctl_Conf N code id l = some (conC code id l) := by
 unfold ctl_Conf conC
 rw [chas_ok, Option.bind_some, lay_ok l hl hN]
 cases isC code
 ·rfl
 ·by_cases h : (layS l).2 = 0 <;> simp [h]
def optC (N : Nat) (c : Ct) : List Op × Int := bif isC c.1 then fin (par N c.2.2 []) else ([], 9)
theorem copt_ok (c : Ct) (hb : c.2.2.length ≤ 100000) (hw : AllB c.2.2) (hN : 100000 < N) : ctl_Options N c = some (optC N c) := by
 unfold ctl_Options optC
 rw [chas_ok, Option.bind_some, parse_ok c.2.2 hb hw hN]
 cases isC c.1 <;> rfl
end
theorem optC_wf (c : Ct) (hl : c.2.2.length < 200000) (hw : AllB c.2.2) : wfO (optC 200000 c).1 ∧ (optC 200000 c).1.length ≤ 32 := by
 unfold optC
 cases isC c.1
 ·exact ⟨fun o ho => (by cases ho), Nat.zero_le _⟩
 ·simp only [cond_true]
  rcases par_back 200000 c.2.2 [] hl hw (fun o ho => (by cases ho)) (by simp) with ⟨e, h, he⟩ | ⟨m, h, _, _, hm⟩
  ·rw [h]; exact ⟨fun o ho => (by cases ho), Nat.zero_le _⟩
  ·have := par_wf 200000 c.2.2 [] hw (fun o ho => (by cases ho)) m h
   rw [h]; exact ⟨this, hm⟩
theorem wf_u16 {n : Int} (h : (Lit.int .u16 n).wf = true) : 0 ≤ n ∧ n < 65536 := by
 simp only [Lit.wf, Bool.and_eq_true, decide_eq_true_eq, IntKind.min, IntKind.max, IntKind.signed, IntKind.bits] at h
 simp at h
 omega
theorem layS_wf (l : List Op) (hw : wfO l) : AllB (layS l).1 ∧ (layS l).1.length ≤ 10000 := by
 unfold layS
 split
 ·exact ⟨AllB.nil, by simp⟩
 ·split
  ·rename_i h32 hs
   have hs := all_small.1 hs
   refine ⟨encs_all hs hw, ?_⟩
   have := encs_len hs
   show (encs l).length ≤ _
   omega
  ·exact ⟨AllB.nil, by simp⟩
section
variable {N : Nat}
def findS (l : List Op) (k : Int) : Op × Bool := match l.find? (fun o => decide (o.1 = k)) with
 | some o => (o, true)
 | none => ((0, []), false)
theorem find_step {l : List Op} {k : Int} {i : Nat} (hi : i < l.length) : (l.drop i).find? (fun o => decide (o.1 = k)) = if l[i].1 = k then some l[i] else (l.drop (i + 1)).find? (fun o => decide (o.1 = k)) := by
 rw [List.drop_eq_getElem_cons hi, List.find?_cons]
 by_cases h : l[i].1 = k <;> simp [h]
theorem find_ok (l : List Op) (k : Int) (hl : l.length ≤ 1000) (hs : ∀ o ∈ l, o.2.length ≤ 1000) (hN : 10000 ≤ N) : opts_Find N l k = some (findS l k) := by
 obtain ⟨o, h1, h2⟩ := gl_inv (G := fun (X : ((List Op × Int × Int × Unit) × Int × Op × Unit) → Option (((Int × Unit) × Int × Op × Unit) ⊕ (Unit × Int × Op × Unit))) c => opts_Find_1_slices_IndexFunc_api_Option_api_Option_L2 N X c.1.1 c.1.2.1 c.1.2.2.1 c.2.1 c.2.2.1)
  (fun n c => ∃ i : Nat, c = ((l, ((l.length : Int), ((i : Int), ()))), (k, (((0 : Int), ([] : List Int)), ()))) ∧ i ≤ l.length ∧ n = l.length - i ∧ (l.drop i).find? (fun o => decide (o.1 = k)) = l.find? (fun o => decide (o.1 = k)))
  (fun o => (∃ (i : Nat) (hi : i < l.length), o = .inl (((i : Int), ()), (k, (((0 : Int), ([] : List Int)), ()))) ∧ l.find? (fun o => decide (o.1 = k)) = some l[i]) ∨ (o = .inr ((), (k, (((0 : Int), ([] : List Int)), ()))) ∧ l.find? (fun o => decide (o.1 = k)) = none)) (fun X n c ⟨i, hc, hi, hn, ht⟩ => by
   subst hc
   rcases Nat.lt_or_ge i l.length with hlt | hge
   ·have c1 : ((i : Int) < (l.length : Int)) := by omega
    have c2 : IntKind.wrap .i64 ((i : Int) + 1) = ((i + 1 : Nat) : Int) := by rw [wrap64 (by omega) (by omega)]; omega
    rw [find_step hlt] at ht
    by_cases he : l[i].1 = k
    ·left
     refine ⟨.inl (((i : Int), ()), (k, (((0 : Int), ([] : List Int)), ()))), ?_, .inl ⟨i, hlt, rfl, ?_⟩⟩
     ·simp only [opts_Find_1_slices_IndexFunc_api_Option_api_Option_L2, c1, decide_true, cond_true, getI_lt l i hlt, Option.bind_some, he]
     ·rw [if_pos he] at ht; exact ht.symm
    ·right
     refine ⟨l.length - (i + 1), ((l, ((l.length : Int), (((i + 1 : Nat) : Int), ()))), (k, (((0 : Int), ([] : List Int)), ()))), by omega, ⟨i + 1, rfl, hlt, rfl, ?_⟩, ?_⟩
     ·rw [if_neg he] at ht; exact ht
     ·simp only [opts_Find_1_slices_IndexFunc_api_Option_api_Option_L2, c1, decide_true, cond_true, getI_lt l i hlt, Option.bind_some, he, decide_false, cond_false, c2]
   ·left
    have c1 : ¬ ((i : Int) < (l.length : Int)) := by omega
    refine ⟨.inr ((), (k, (((0 : Int), ([] : List Int)), ()))), by simp only [opts_Find_1_slices_IndexFunc_api_Option_api_Option_L2, c1, decide_false, cond_false], .inr ⟨rfl, ?_⟩⟩
    rw [List.drop_of_length_le hge] at ht
    exact ht.symm) N l.length ((l, ((l.length : Int), ((0 : Int), ()))), (k, (((0 : Int), ([] : List Int)), ()))) (by omega) ⟨0, rfl, by omega, by omega, by simp⟩
 unfold opts_Find opts_Find_1_slices_IndexFunc_api_Option_api_Option_L2_R findS
 rw [h1]
 rcases h2 with ⟨i, hi, rfl, h2⟩ | ⟨rfl, h2⟩
 ·rw [h2]
  have c1 : ¬ ((i : Int) < 0) := by omega
  have hc : opts_clone N (l[i].1, l[i].2) = some l[i] := by
   unfold opts_clone
   rw [clone_ok _ (by have := hs _ (List.getElem_mem hi); show l[i].2.length ≤ _; omega)]
   rfl
  simp only [Option.bind_some, Sum.elim_inl, c1, decide_false, cond_false, getI_lt l i hi, hc]
 ·rw [h2]; rfl
def amS (l all : List Op) : Bool := decide (l.Sublist all)
theorem amS_nil (all : List Op) : amS [] all = true := decide_eq_true (List.nil_sublist _)
theorem amS_end (x : Op) (l : List Op) : amS (x :: l) [] = false := decide_eq_false (fun h => by cases h)
theorem amS_eq (x : Op) (l all : List Op) : amS (x :: l) (x :: all) = amS l all := by
 unfold amS
 by_cases h : l.Sublist all
 ·rw [decide_eq_true h, decide_eq_true (h.cons_cons x)]
 ·rw [decide_eq_false h, decide_eq_false (fun h' => h (List.cons_sublist_cons.1 h'))]
theorem amS_ne {x y : Op} (h : y ≠ x) (l all : List Op) : amS (x :: l) (y :: all) = amS (x :: l) all := by
 unfold amS
 by_cases h1 : (x :: l).Sublist all
 ·rw [decide_eq_true h1, decide_eq_true (h1.cons y)]
 ·rw [decide_eq_false h1, decide_eq_false (fun h' => by
   cases h' with
   | cons _ h2 => exact h1 h2
   | cons_cons _ h2 => exact h rfl)]
theorem idx_ok (all : List Op) (o : Op) (hw : wfO all) (ho : AllB o.2) (hl : all.length ≤ 1000) (hN : 10000 ≤ N) : ∃ r, opts_Among_4_slices_IndexFunc_api_Option_api_Option_L2_R N ((all, ((all.length : Int), ((0 : Int), ()))), (o, ())) = some r ∧ ((∃ (j : Nat), j < all.length ∧ r = .inl (((j : Int), ()), (o, ())) ∧ ∀ l, amS (o :: l) all = amS l (all.drop (j + 1))) ∨ (r = .inr ((), (o, ())) ∧ ∀ l, amS (o :: l) all = false)) := by
 refine gl_inv (G := fun (X : ((List Op × Int × Int × Unit) × Op × Unit) → Option (((Int × Unit) × Op × Unit) ⊕ (Unit × Op × Unit))) c => opts_Among_4_slices_IndexFunc_api_Option_api_Option_L2 N X c.1.1 c.1.2.1 c.1.2.2.1 c.2.1)
  (fun n c => ∃ i : Nat, c = ((all, ((all.length : Int), ((i : Int), ()))), (o, ())) ∧ i ≤ all.length ∧ n = all.length - i ∧ ∀ l, amS (o :: l) all = amS (o :: l) (all.drop i)) _ (fun X n c ⟨i, hc, hi, hn, ht⟩ => ?_) N all.length ((all, ((all.length : Int), ((0 : Int), ()))), (o, ())) (by omega) ⟨0, rfl, by omega, by omega, by simp⟩
 subst hc
 rcases Nat.lt_or_ge i all.length with hlt | hge
 ·have c1 : ((i : Int) < (all.length : Int)) := by omega
  have c2 : IntKind.wrap .i64 ((i : Int) + 1) = ((i + 1 : Nat) : Int) := by rw [wrap64 (by omega) (by omega)]; omega
  have eq : opts_equal N (all[i].1, all[i].2) (o.1, o.2) = some (decide (all[i] = o)) := equal_ok (N := N) all[i] o (hw _ (List.getElem_mem hlt)).2 ho
  by_cases he : all[i] = o
  ·left
   refine ⟨.inl (((i : Int), ()), (o, ())), ?_, .inl ⟨i, hlt, rfl, fun l => ?_⟩⟩
   ·simp only [opts_Among_4_slices_IndexFunc_api_Option_api_Option_L2, c1, decide_true, cond_true, getI_lt all i hlt, Option.bind_some, eq]
    simp only [he, decide_true, cond_true]
   ·rw [ht, List.drop_eq_getElem_cons hlt, he, amS_eq]
  ·right
   refine ⟨all.length - (i + 1), ((all, ((all.length : Int), (((i + 1 : Nat) : Int), ()))), (o, ())), by omega, ⟨i + 1, rfl, hlt, rfl, fun l => ?_⟩, ?_⟩
   ·rw [ht, List.drop_eq_getElem_cons hlt, amS_ne he]
   ·simp only [opts_Among_4_slices_IndexFunc_api_Option_api_Option_L2, c1, decide_true, cond_true, getI_lt all i hlt, Option.bind_some, eq]
    simp only [he, decide_false, cond_false, c2]
 ·left
  have c1 : ¬ ((i : Int) < (all.length : Int)) := by omega
  refine ⟨.inr ((), (o, ())), by simp only [opts_Among_4_slices_IndexFunc_api_Option_api_Option_L2, c1, decide_false, cond_false], .inr ⟨rfl, fun l => ?_⟩⟩
  rw [ht, List.drop_of_length_le hge, amS_end]
theorem among_ok (l all : List Op) (hw : wfO l) (hwa : wfO all) (hl : l.length ≤ 1000) (hla : all.length ≤ 1000) (hN : 10000 ≤ N) : opts_Among N l all = some (amS l all) := by
 have key : ∀ (k i : Nat) (all : List Op), l.length - i < k → i ≤ l.length → all.length ≤ 1000 → wfO all → gl (fun (X : ((List Op × List Op × Int × Int × Unit) × Unit) → Option (((Bool × Unit) × Unit) ⊕ (Unit × Unit))) c => opts_Among_L2 N X c.1.1 c.1.2.1 c.1.2.2.1 c.1.2.2.2.1) k ((all, (l, ((l.length : Int), ((i : Int), ())))), ()) = some (if amS (l.drop i) all = true then .inr ((), ()) else .inl ((false, ()), ())) := by
  intro k
  induction k with
  | zero => intro i all h; omega
  | succ k ih =>
   intro i all h hi ha hwa
   rw [gl_succ]
   rcases Nat.lt_or_ge i l.length with hlt | hge
   ·have c1 : ((i : Int) < (l.length : Int)) := by omega
    have c2 : IntKind.wrap .i64 ((i : Int) + 1) = ((i + 1 : Nat) : Int) := by rw [wrap64 (by omega) (by omega)]; omega
    obtain ⟨r, h1, h2⟩ := idx_ok (N := N) all l[i] hwa (hw _ (List.getElem_mem hlt)).2 ha hN
    have h1' : opts_Among_4_slices_IndexFunc_api_Option_api_Option_L2_R N ((all, ((all.length : Int), ((0 : Int), ()))), ((l[i].1, l[i].2), ())) = some r := h1
    rw [List.drop_eq_getElem_cons hlt]
    rcases h2 with ⟨j, hj, rfl, h2⟩ | ⟨rfl, h2⟩
    ·have c3 : ¬ ((j : Int) < 0) := by omega
     have c4 : IntKind.wrap .i64 ((j : Int) + 1) = ((j + 1 : Nat) : Int) := by rw [wrap64 (by omega) (by omega)]; omega
     rw [h2]
     simp only [opts_Among_L2, c1, decide_true, cond_true, getI_lt l i hlt, Option.bind_some, h1', Sum.elim_inl, c3, decide_false, cond_false, c4, dropI_nat all (a := ((j + 1 : Nat) : Int)) (i := j + 1) rfl hj, c2]
     exact ih (i + 1) (all.drop (j + 1)) (by omega) hlt (by rw [List.length_drop]; omega) (fun o ho => hwa o (List.mem_of_mem_drop ho))
    ·rw [h2]
     simp only [opts_Among_L2, c1, decide_true, cond_true, getI_lt l i hlt, Option.bind_some, h1', Sum.elim_inr]
     rfl
   ·have c1 : ¬ ((i : Int) < (l.length : Int)) := by omega
    rw [List.drop_of_length_le hge, amS_nil]
    simp only [opts_Among_L2, c1, decide_false, cond_false, if_true]
 have h := key N 0 all (by omega) (by omega) hla hwa
 unfold opts_Among opts_Among_L2_R
 rw [show ((0 : Int)) = ((0 : Nat) : Int) from rfl, h, List.drop_zero]
 cases amS l all <;> rfl
end
def sz (k : Int) : Int := if k = 1 then 2 else if k = 3 then 3 else if k = 5 then 4 else if k = 7 then 0 else if k = 8 then 0 else -1
def chapL : List Int := [194, 35, 129]
theorem chap_B : AllB chapL := fun x hx => by
 simp only [chapL, List.mem_cons, List.not_mem_nil, or_false] at hx
 rcases hx with rfl | rfl | rfl <;> omega
def may (o : Op) (proves : Bool) : Bool := decide ((o.2.length : Int) = sz o.1) && (!decide (o.1 = 3) || proves)
section
variable {N : Nat}
theorem size_ok (k : Int) : lcpo_size N k = some (sz k) := by
 unfold lcpo_size sz
 by_cases h1 : k = 1
 ·subst h1; rfl
 ·by_cases h3 : k = 3
  ·subst h3; rfl
  ·by_cases h5 : k = 5
   ·subst h5; rfl
   ·by_cases h7 : k = 7
    ·subst h7; rfl
    ·by_cases h8 : k = 8
     ·subst h8; rfl
     ·simp [h1, h3, h5, h7, h8]
theorem may_ok (o : Op) (proves : Bool) : lcpo_may N o proves = some (may o proves) := by
 unfold lcpo_may may
 rw [size_ok, Option.bind_some]
 by_cases h : (o.2.length : Int) = sz o.1
 ·by_cases h3 : o.1 = 3 <;> cases proves <;> simp [h, h3]
 ·simp [h]
theorem lput2 (n : Int) (h : 0 ≤ n ∧ n < 18446744073709551616) (hN : 100 ≤ N) : octs_Put N n 2 false = some ([n / 256 % 256, n % 256], 0) := put2 n h hN
theorem lput4 (n : Int) (h : 0 ≤ n ∧ n < 18446744073709551616) (hN : 100 ≤ N) : octs_Put N n 4 false = some ([n / 16777216 % 256, n / 65536 % 256, n / 256 % 256, n % 256], 0) := put4 n h hN
theorem lget2 (x y : Int) (hx : 0 ≤ x ∧ x < 256) (hy : 0 ≤ y ∧ y < 256) (hN : 100 ≤ N) : lcpo_value N [x, y] = some (x * 256 + y) := by
 unfold lcpo_value
 exact (congrArg (fun o => Option.bind o _) (show octs_Get N [x, y] false = some (x * 256 + y, 0) from get2 x y hx hy hN)).trans rfl
theorem lget4 (x y z u : Int) (hx : 0 ≤ x ∧ x < 256) (hy : 0 ≤ y ∧ y < 256) (hz : 0 ≤ z ∧ z < 256) (hu : 0 ≤ u ∧ u < 256) (hN : 100 ≤ N) : lcpo_value N [x, y, z, u] = some (((x * 256 + y) * 256 + z) * 256 + u) := by
 unfold lcpo_value
 exact (congrArg (fun o => Option.bind o _) (show octs_Get N [x, y, z, u] false = some (((x * 256 + y) * 256 + z) * 256 + u, 0) from get4 x y z u hx hy hz hu hN)).trans rfl
theorem wrapU32 {x : Int} (h : 0 ≤ x ∧ x < 4294967296) : IntKind.wrap .u32 x = x := by rw [IntKind.wrap_u32]; omega
end
def NK (l : List Op) (own fresh : Int) (nak : List Op) : Prop := ∀ o ∈ nak, AllB o.2 ∧ ∃ x, findS l o.1 = (x, true) ∧ (own ≠ fresh → fresh ≠ 0 → o ≠ x)
theorem NK.snoc {l : List Op} {own fresh : Int} {nak : List Op} {o : Op} (h : NK l own fresh nak) (h1 : AllB o.2) {x : Op} (h2 : findS l o.1 = (x, true)) (h3 : own ≠ fresh → fresh ≠ 0 → o ≠ x) : NK l own fresh (nak ++ [o]) := fun p hp => by
 rcases List.mem_append.1 hp with h' | h'
 ·exact h p h'
 ·rw [List.mem_singleton] at h'; subst h'; exact ⟨h1, x, h2, h3⟩
section
variable {N : Nat}
theorem wfO_sub {l m : List Op} (h : wfO l) (hs : m.Sublist l) : wfO m := fun o ho => h o (hs.subset ho)
end
theorem wf_u32' {n : Int} (h : (Lit.int .u32 n).wf = true) : 0 ≤ n ∧ n < 4294967296 := by
 simp only [Lit.wf, Bool.and_eq_true, decide_eq_true_eq, IntKind.min, IntKind.max, IntKind.signed, IntKind.bits] at h
 simp at h
 omega
abbrev Wt3 := Int × Int × Bool
def wfW (w : Wt3) : Prop := (0 ≤ w.1 ∧ w.1 < 65536) ∧ (0 ≤ w.2.1 ∧ w.2.1 < 4294967296)
def firstP (k : Int) (o : Op) : Bool := decide (o.1 = k) && decide ((o.2.length : Int) = sz k)
def firstS (l : List Op) (k : Int) : Option Op := l.find? (firstP k)
theorem firstS_some {l : List Op} {k : Int} {o : Op} (h : firstS l k = some o) : o ∈ l ∧ o.1 = k ∧ (o.2.length : Int) = sz k := by
 refine ⟨List.mem_of_find?_eq_some h, ?_⟩
 have := List.find?_some h
 simpa [firstP] using this
theorem first_step {l : List Op} {k : Int} {i : Nat} (hi : i < l.length) : (l.drop i).find? (firstP k) = if firstP k l[i] = true then some l[i] else (l.drop (i + 1)).find? (firstP k) := by
 rw [List.drop_eq_getElem_cons hi, List.find?_cons]
 cases firstP k l[i] <;> simp
section
variable {N : Nat}
theorem first_loop (l : List Op) (k : Int) (hl : l.length ≤ 1000) : ∀ (j M i : Nat), j + i = l.length → j < M → gl (fun X c => lcpo_first_L2 N X c.1.1 c.1.2.1 c.1.2.2.1 c.1.2.2.2.1) M ((k, (l, ((l.length : Int), ((i : Int), ())))), ()) = some (match (l.drop i).find? (firstP k) with | some o => .inl ((o.2, (true, ())), ()) | none => .inr ((), ()))
 | 0, M + 1, i, hj, hM => by
  have c1 : ¬ ((i : Int) < (l.length : Int)) := by omega
  rw [gl_succ, List.drop_of_length_le (by omega)]
  simp only [lcpo_first_L2, c1, decide_false, cond_false]
  rfl
 | j + 1, M + 1, i, hj, hM => by
  have hlt : i < l.length := by omega
  have c1 : ((i : Int) < (l.length : Int)) := by omega
  have c2 : IntKind.wrap .i64 ((i : Int) + 1) = ((i + 1 : Nat) : Int) := by rw [wrap64 (by omega) (by omega)]; omega
  have ih := first_loop l k hl j M (i + 1) (by omega) (by omega)
  have hsz := size_ok (N := N) k
  rw [gl_succ, first_step hlt]
  by_cases h1 : l[i].1 = k
  ·by_cases h2 : (l[i].2.length : Int) = sz k
   ·have hp : firstP k l[i] = true := by simp [firstP, h1, h2]
    rw [if_pos hp]
    simp only [lcpo_first_L2, c1, decide_true, cond_true, getI_lt l i hlt, Option.bind_some, h1, hsz, h2]
   ·have hp : ¬ firstP k l[i] = true := by simp [firstP, h1, h2]
    rw [if_neg hp]
    simp only [lcpo_first_L2, c1, decide_true, decide_false, cond_true, cond_false, getI_lt l i hlt, Option.bind_some, h1, hsz, h2, c2]
    exact ih
  ·have hp : ¬ firstP k l[i] = true := by simp [firstP, h1]
   rw [if_neg hp]
   simp only [lcpo_first_L2, c1, decide_true, decide_false, cond_true, cond_false, getI_lt l i hlt, Option.bind_some, h1, c2]
   exact ih
theorem beq_ok (l : List Int) (h : AllB l) : bytes_Equal N l [194, 35, 129] = some (decide (l = chapL)) := by
 unfold bytes_Equal
 rw [toBy_map h, show ([194, 35, 129] : List Int) = chapL from rfl, toBy_map chap_B, Option.bind_some, Option.bind_some, bytes_dec h chap_B]
theorem has_ok (l : List Op) (k : Int) (hl : l.length ≤ 1000) (hs : ∀ o ∈ l, o.2.length ≤ 1000) (hN : 10000 ≤ N) : lcpo_has N l k = some (findS l k).2 := by
 unfold lcpo_has
 rw [find_ok l k hl hs hN]
 rfl
end
section
variable {N : Nat}
def b2 (n : Int) : List Int := [n / 256 % 256, n % 256]
def b4 (n : Int) : List Int := [n / 16777216 % 256, n / 65536 % 256, n / 256 % 256, n % 256]
theorem b2_B (n : Int) : AllB (b2 n) := fun x hx => by
 simp only [b2, List.mem_cons, List.not_mem_nil, or_false] at hx
 rcases hx with rfl | rfl <;> omega
theorem b4_B (n : Int) : AllB (b4 n) := fun x hx => by
 simp only [b4, List.mem_cons, List.not_mem_nil, or_false] at hx
 rcases hx with rfl | rfl | rfl | rfl <;> omega
def valS (d : List Int) : Int := d.foldl (fun a x => a * 256 + x) 0
theorem val2 {d : List Int} (hd : AllB d) (hl : d.length = 2) (hN : 100 ≤ N) : lcpo_value N d = some (valS d) ∧ 0 ≤ valS d ∧ valS d < 65536 := by
 match d, hl with
 | [x, y], _ =>
  have bx := hd x (by simp)
  have by' := hd y (by simp)
  exact ⟨by rw [lget2 x y bx by' hN]; simp [valS], by simp [valS]; omega⟩
theorem val4 {d : List Int} (hd : AllB d) (hl : d.length = 4) (hN : 100 ≤ N) : lcpo_value N d = some (valS d) ∧ 0 ≤ valS d ∧ valS d < 4294967296 := by
 match d, hl with
 | [x, y, z, u], _ =>
  have bx := hd x (by simp)
  have by' := hd y (by simp)
  have bz := hd z (by simp)
  have bu := hd u (by simp)
  exact ⟨by rw [lget4 x y z u bx by' bz bu hN]; simp [valS], by simp [valS]; omega⟩
def betS (o : Op) (own fresh : Int) : Op × Bool :=
 if o.1 = 1 then ((1, b2 1400), decide (valS o.2 < 128)) else if o.1 = 3 then ((3, chapL), !decide (o.2 = chapL)) else if o.1 = 5 then ((5, b4 fresh), decide (valS o.2 = 0) || decide (valS o.2 = own)) else ((0, []), false)
theorem num1 {n : Int} (h : 0 ≤ n ∧ n < 65536) (hN : 10000 ≤ N) : lcpo_number N 1 n = some (1, b2 n) := by
 unfold lcpo_number
 rw [size_ok, show sz 1 = 2 from rfl, Option.bind_some, lput2 (N := N) n (by omega) (by omega)]
 rfl
theorem num5 {n : Int} (h : 0 ≤ n ∧ n < 4294967296) (hN : 10000 ≤ N) : lcpo_number N 5 n = some (5, b4 n) := by
 unfold lcpo_number
 rw [size_ok, show sz 5 = 4 from rfl, Option.bind_some, lput4 (N := N) n (by omega) (by omega)]
 rfl
theorem better_is (o : Op) (own fresh : Int) (hw : AllB o.2) (hs : (o.2.length : Int) = sz o.1) (hf : 0 ≤ fresh ∧ fresh < 4294967296) (hN : 10000 ≤ N) : lcpo_better N o own fresh = some (betS o own fresh) := by
 obtain ⟨k, d⟩ := o
 simp only at hw hs
 unfold lcpo_better betS
 by_cases h1 : k = 1
 ·subst h1
  have hl : d.length = 2 := by rw [show sz 1 = 2 from rfl] at hs; omega
  simp only [decide_true, cond_true, num1 (N := N) (n := 1400) (by omega) hN, (val2 (N := N) hw hl (by omega)).1, Option.bind_some, if_true]
 ·by_cases h3 : k = 3
  ·subst h3
   simp only [h1, decide_false, cond_false, decide_true, cond_true, beq_ok (N := N) d hw, Option.bind_some, if_true, if_false]
   rfl
  ·by_cases h5 : k = 5
   ·subst h5
    have hl : d.length = 4 := by rw [show sz 5 = 4 from rfl] at hs; omega
    obtain ⟨v1, v2⟩ := val4 (N := N) hw hl (by omega)
    have wf : IntKind.wrap .u64 fresh = fresh := wrapU64 (by omega) (by omega)
    simp only [h1, h3, decide_false, cond_false, decide_true, cond_true, v1, Option.bind_some, wf, num5 (N := N) hf hN, wrapU32 v2, if_true, if_false]
    cases decide (valS d = 0) <;> cases decide (valS d = own) <;> rfl
   ·simp only [h1, h3, h5, decide_false, cond_false, if_false]
def judS (rj : List Op → Op → Bool) (nk : Op → Option Op) : List Op → List Op → List Op × List Op
 | pre, [] => ([], [])
 | pre, o :: l => if rj pre o then (o :: (judS rj nk (pre ++ [o]) l).1, (judS rj nk (pre ++ [o]) l).2) else match nk o with
  | some x => ((judS rj nk (pre ++ [o]) l).1, x :: (judS rj nk (pre ++ [o]) l).2)
  | none => judS rj nk (pre ++ [o]) l
def tellS (l : List Op) (r : List Op × List Op) : Int × List Op := if 0 < r.1.length then (4, r.1) else if 0 < r.2.length then (3, r.2) else (2, l)
theorem judS_sub (rj : List Op → Op → Bool) (nk : Op → Option Op) : ∀ (l pre : List Op), (judS rj nk pre l).1.Sublist l ∧ (judS rj nk pre l).2.length ≤ l.length ∧ ∀ x ∈ (judS rj nk pre l).2, ∃ o ∈ l, nk o = some x
 | [], pre => ⟨List.Sublist.refl _, Nat.le_refl _, fun x h => by cases h⟩
 | o :: l, pre => by
  obtain ⟨h1, h2, h3⟩ := judS_sub rj nk l (pre ++ [o])
  unfold judS
  split
  ·exact ⟨h1.cons_cons o, by simp; omega, fun x hx => by obtain ⟨p, hp, he⟩ := h3 x hx; exact ⟨p, List.mem_cons_of_mem _ hp, he⟩⟩
  ·split
   ·rename_i x hx
    refine ⟨h1.cons o, by simp; omega, fun y hy => ?_⟩
    rcases List.mem_cons.1 hy with rfl | hy
    ·exact ⟨o, List.mem_cons_self, hx⟩
    ·obtain ⟨p, hp, he⟩ := h3 y hy; exact ⟨p, List.mem_cons_of_mem _ hp, he⟩
   ·exact ⟨h1.cons o, by simp; omega, fun x hx => by obtain ⟨p, hp, he⟩ := h3 x hx; exact ⟨p, List.mem_cons_of_mem _ hp, he⟩⟩
def lrj (proves : Bool) (pre : List Op) (o : Op) : Bool := (findS pre o.1).2 || !may o proves
def lnk (own fresh : Int) (o : Op) : Option Op := if (betS o own fresh).2 then some (betS o own fresh).1 else none
theorem ljudge_loop (l : List Op) (proves : Bool) (own fresh : Int) (hw : wfO l) (hl : l.length ≤ 40) (hs : ∀ o ∈ l, o.2.length ≤ 300) (hf : 0 ≤ fresh ∧ fresh < 4294967296) (hN : 10000 ≤ N) : ∀ (k M i : Nat) (rej nak : List Op), k + i = l.length → k < M → rej.length ≤ i → nak.length ≤ i →
  gl (fun X c => lcpo_Judge_L3 N X c.1.1 c.1.2.1 c.1.2.2.1 c.1.2.2.2.1 c.1.2.2.2.2.1 c.1.2.2.2.2.2.1 c.1.2.2.2.2.2.2.1 c.2.1 c.2.2.1 c.2.2.2.1) M ((l, (proves, (own, (fresh, (l, ((l.length : Int), ((i : Int), ()))))))), (l.take i, (rej, (nak, ())))) = some ((), (l, (rej ++ (judS (lrj proves) (lnk own fresh) (l.take i) (l.drop i)).1, (nak ++ (judS (lrj proves) (lnk own fresh) (l.take i) (l.drop i)).2, ()))))
 | 0, M + 1, i, rej, nak, hk, hM, hr, hn => by
  have hi : i = l.length := by omega
  subst hi
  have c1 : ¬ ((l.length : Int) < (l.length : Int)) := by omega
  rw [gl_succ, List.take_length, List.drop_length]
  simp only [lcpo_Judge_L3, c1, decide_false, cond_false, judS, List.append_nil]
 | k + 1, M + 1, i, rej, nak, hk, hM, hr, hn => by
  have hlt : i < l.length := by omega
  have c1 : ((i : Int) < (l.length : Int)) := by omega
  have e0 : IntKind.wrap .i64 ((i : Int) + 1) = ((i + 1 : Nat) : Int) := by rw [wrap64 (by omega) (by omega)]; omega
  have g := getI_lt l i hlt
  have tk : takeI l (i : Int) = some (l.take i) := takeI_nat l rfl (by omega)
  have hwi := hw _ (List.getElem_mem hlt)
  have hsi := hs _ (List.getElem_mem hlt)
  have hfind := find_ok (N := N) (l.take i) l[i].1 (by rw [List.length_take]; omega) (fun o ho => by have := hs o (List.mem_of_mem_take ho); omega) (by omega)
  have hts : l.take (i + 1) = l.take i ++ [l[i]] := take_snoc l i hlt
  have hal : (l.take i).length ≤ i := by rw [List.length_take]; omega
  have hcl : slices_Clone_byte_byte N l[i].2 = some l[i].2 := clone_ok _ (by omega)
  have rm : ∀ (x : List Op) (y : Op), x.length ≤ 41 → roomB (x.length + ([y] : List Op).length) 32 = true := fun x y hx => roomB_of (by have := big_len; simp; omega) (by simp; omega)
  have hmay := may_ok (N := N) l[i] proves
  have hbet := fun (h : (l[i].2.length : Int) = sz l[i].1) => better_is (N := N) l[i] own fresh hwi.2 h hf hN
  rw [List.drop_eq_getElem_cons hlt]
  have ih := fun rej' nak' h1 h2 => ljudge_loop l proves own fresh hw hl hs hf hN k M (i + 1) rej' nak' (by omega) (by omega) h1 h2
  rw [hts] at ih
  generalize hx : l[i] = x at *
  obtain ⟨kx, dx⟩ := x
  have r1 := rm (l.take i) (kx, dx) (by omega)
  have r2 := rm rej (kx, dx) (by omega)
  rw [gl_succ]
  unfold judS
  cases hfb : (findS (l.take i) kx).2 with
  | true =>
   have hrj : lrj proves (l.take i) (kx, dx) = true := by simp [lrj, hfb]
   simp only [lcpo_Judge_L3, c1, decide_true, cond_true, g, Option.bind_some, hcl, r1, tk, hfind, hfb, r2, e0, hrj, if_true]
   refine (ih (rej ++ [(kx, dx)]) nak (by simp; omega) (by omega)).trans ?_
   simp
  | false =>
   cases hm : may (kx, dx) proves with
   | false =>
    have hrj : lrj proves (l.take i) (kx, dx) = true := by simp [lrj, hm]
    simp only [lcpo_Judge_L3, c1, decide_true, cond_true, cond_false, g, Option.bind_some, hcl, r1, tk, hfind, hfb, hmay, hm, Bool.not_false, r2, e0, hrj, if_true]
    refine (ih (rej ++ [(kx, dx)]) nak (by simp; omega) (by omega)).trans ?_
    simp
   | true =>
    have hrj : lrj proves (l.take i) (kx, dx) = false := by simp [lrj, hm, hfb]
    have hsz : (dx.length : Int) = sz kx := by
     simp only [may, Bool.and_eq_true, decide_eq_true_eq] at hm
     exact hm.1
    have hb := hbet hsz
    cases hb2 : (betS (kx, dx) own fresh).2 with
    | false =>
     have hnk : lnk own fresh (kx, dx) = none := by simp [lnk, hb2]
     simp only [lcpo_Judge_L3, c1, decide_true, cond_true, cond_false, g, Option.bind_some, hcl, r1, tk, hfind, hfb, hmay, hm, Bool.not_true, hb, hb2, e0, hrj, hnk, Bool.false_eq_true, if_false]
     exact ih rej nak (by omega) (by omega)
    | true =>
     have hnk : lnk own fresh (kx, dx) = some (betS (kx, dx) own fresh).1 := by simp [lnk, hb2]
     have r3 := rm nak (betS (kx, dx) own fresh).1 (by omega)
     simp only [lcpo_Judge_L3, c1, decide_true, cond_true, cond_false, g, Option.bind_some, hcl, r1, tk, hfind, hfb, hmay, hm, Bool.not_true, hb, hb2, r3, e0, hrj, hnk, Bool.false_eq_true, if_false]
     refine (ih rej (nak ++ [(betS (kx, dx) own fresh).1]) (by omega) (by simp; omega)).trans ?_
     simp
def ljudS (l : List Op) (proves : Bool) (own fresh : Int) : Int × List Op := tellS l (judS (lrj proves) (lnk own fresh) [] l)
theorem ljudge_is (l : List Op) (proves : Bool) (own fresh : Int) (hw : wfO l) (hl : l.length ≤ 40) (hs : ∀ o ∈ l, o.2.length ≤ 300) (hf : 0 ≤ fresh ∧ fresh < 4294967296) (hN : 10000 ≤ N) : lcpo_Judge N l proves own fresh = some (ljudS l proves own fresh) := by
 have h := ljudge_loop (N := N) l proves own fresh hw hl hs hf hN l.length N 0 [] [] (by omega) (by omega) (by simp) (by simp)
 simp only [List.take_zero, List.drop_zero, List.nil_append] at h
 unfold lcpo_Judge
 refine (congrArg (fun o => Option.bind o _) (show lcpo_Judge_L3_R N ((l, (proves, (own, (fresh, (l, ((l.length : Int), ((0 : Int), ()))))))), (([] : List Op), (([] : List Op), (([] : List Op), ())))) = _ from h)).trans ?_
 simp only [Option.bind_some, ljudS, tellS]
 generalize judS (lrj proves) (lnk own fresh) [] l = r
 by_cases h1 : 0 < r.1.length
 ·have c1 : ((0 : Int) < (r.1.length : Int)) := by omega
  simp only [c1, decide_true, cond_true, h1, if_true]
 ·have c1 : ¬ ((0 : Int) < (r.1.length : Int)) := by omega
  by_cases h2 : 0 < r.2.length
  ·have c2 : ((0 : Int) < (r.2.length : Int)) := by omega
   simp only [c1, c2, decide_true, decide_false, cond_true, cond_false, h1, h2, if_true, if_false]
  ·have c2 : ¬ ((0 : Int) < (r.2.length : Int)) := by omega
   simp only [c1, c2, decide_false, cond_false, h1, h2, if_false]
theorem first_is (l : List Op) (k : Int) (hl : l.length ≤ 1000) (hN : 10000 ≤ N) : lcpo_first N l k = some (match firstS l k with | some o => (o.2, true) | none => ([], false)) := by
 have h1 := first_loop (N := N) l k hl l.length N 0 (by omega) (by omega)
 rw [List.drop_zero, show l.find? (firstP k) = firstS l k from rfl] at h1
 refine (congrArg (fun o => Option.bind o _) (show lcpo_first_L2_R N ((k, (l, ((l.length : Int), ((0 : Int), ())))), ()) = _ from h1)).trans ?_
 cases firstS l k <;> rfl
def loS (w : Wt3) : List Op := (if w.1 = 0 then [] else [(1, b2 w.1)]) ++ (if w.2.2 then [(3, chapL)] else []) ++ (if w.2.1 = 0 then [] else [(5, b4 w.2.1)])
theorem lopts_is (w : Wt3) (hw : wfW w) (hN : 10000 ≤ N) : lcpo_Options N w = some (loS w) := by
 obtain ⟨m, g, p⟩ := w
 obtain ⟨hm, hg⟩ := hw
 simp only at hm hg
 have em : IntKind.wrap .u64 m = m := wrapU64 (by omega) (by omega)
 have eg : IntKind.wrap .u64 g = g := wrapU64 (by omega) (by omega)
 unfold lcpo_Options loS
 by_cases h1 : m = 0 <;> by_cases h5 : g = 0 <;> cases p <;> simp only [h1, h5, decide_true, decide_false, Bool.not_true, Bool.not_false, cond_true, cond_false, em, eg, num1 (N := N) hm hN, num5 (N := N) hg hN, Option.bind_some, if_true, if_false, Bool.false_eq_true] <;> rfl
theorem loS_wf (w : Wt3) : wfO (loS w) ∧ (loS w).length ≤ 3 ∧ ∀ o ∈ loS w, o.2.length ≤ 4 := by
 have key : ∀ o ∈ loS w, o = (1, b2 w.1) ∨ o = (3, chapL) ∨ o = (5, b4 w.2.1) := fun o ho => by
  unfold loS at ho
  simp only [List.mem_append] at ho
  rcases ho with (ho | ho) | ho
  ·split at ho
   ·cases ho
   ·exact .inl (List.mem_singleton.1 ho)
  ·split at ho
   ·exact .inr (.inl (List.mem_singleton.1 ho))
   ·cases ho
  ·split at ho
   ·cases ho
   ·exact .inr (.inr (List.mem_singleton.1 ho))
 refine ⟨fun o ho => ?_, ?_, fun o ho => ?_⟩
 ·rcases key o ho with rfl | rfl | rfl
  ·exact ⟨by show (0 : Int) ≤ 1 ∧ (1 : Int) < 256; omega, b2_B _⟩
  ·exact ⟨by show (0 : Int) ≤ 3 ∧ (3 : Int) < 256; omega, chap_B⟩
  ·exact ⟨by show (0 : Int) ≤ 5 ∧ (5 : Int) < 256; omega, b4_B _⟩
 ·unfold loS
  split <;> split <;> split <;> simp
 ·rcases key o ho with rfl | rfl | rfl <;> simp [b2, b4, chapL]
def v1S (l : List Op) : Option Int := (firstS l 1).map fun o => valS o.2
def v5S (l : List Op) : Option Int := (firstS l 5).map fun o => valS o.2
theorem v1_ok {l : List Op} (hw : wfO l) {o : Op} (h : firstS l 1 = some o) (hN : 100 ≤ N) : lcpo_value N o.2 = some (valS o.2) ∧ 0 ≤ valS o.2 ∧ valS o.2 < 65536 := by
 obtain ⟨h1, h2, h3⟩ := firstS_some h
 exact val2 (hw _ h1).2 (by rw [show sz 1 = 2 from rfl] at h3; omega) hN
theorem v5_ok {l : List Op} (hw : wfO l) {o : Op} (h : firstS l 5 = some o) (hN : 100 ≤ N) : lcpo_value N o.2 = some (valS o.2) ∧ 0 ≤ valS o.2 ∧ valS o.2 < 4294967296 := by
 obtain ⟨h1, h2, h3⟩ := firstS_some h
 exact val4 (hw _ h1).2 (by rw [show sz 5 = 4 from rfl] at h3; omega) hN
def ofS (l : List Op) : Int × Int × Bool × Bool × Bool := ((v1S l).getD 1500, (v5S l).getD 0, (match firstS l 3 with | some o => decide (o.2 = chapL) | none => false), (firstS l 7).isSome, (firstS l 8).isSome)
theorem of_is (l : List Op) (hw : wfO l) (hl : l.length ≤ 1000) (hN : 10000 ≤ N) : lcpo_Of N l = some (ofS l) ∧ 0 ≤ (ofS l).2.1 ∧ (ofS l).2.1 < 4294967296 := by
 have v16 : ∀ v : Int, 0 ≤ v ∧ v < 65536 → IntKind.wrap .u16 v = v := fun v h => by rw [IntKind.wrap_u16]; omega
 have f := fun k => first_is (N := N) l k hl hN
 have hnil : bytes_Equal N [] [194, 35, 129] = some false := beq_ok [] AllB.nil
 have h3 : ∃ t, bytes_Equal N (match firstS l 3 with | some o => (o.2, true) | none => (([] : List Int), false)).1 [194, 35, 129] = some t ∧ t = (match firstS l 3 with | some o => decide (o.2 = chapL) | none => false) := by
  cases hf : firstS l 3 with
  | none => exact ⟨_, hnil, rfl⟩
  | some o => exact ⟨_, beq_ok o.2 (hw _ (firstS_some hf).1).2, rfl⟩
 obtain ⟨t, t1, t2⟩ := h3
 unfold lcpo_Of ofS v1S v5S
 rw [← t2]
 cases h1 : firstS l 1 with
 | none =>
  cases h5 : firstS l 5 with
  | none =>
   simp only [f, h1, h5, Option.bind_some, cond_false, t1, Option.map_none, Option.getD_none]
   refine ⟨?_, by omega⟩
   cases firstS l 7 <;> cases firstS l 8 <;> rfl
  | some o5 =>
   obtain ⟨u1, u2⟩ := v5_ok (N := N) hw h5 (by omega)
   simp only [f, h1, h5, Option.bind_some, cond_false, cond_true, t1, u1, wrapU32 u2, Option.map_none, Option.getD_none, Option.map_some, Option.getD_some]
   refine ⟨?_, u2⟩
   cases firstS l 7 <;> cases firstS l 8 <;> rfl
 | some o1 =>
  obtain ⟨w1, w2⟩ := v1_ok (N := N) hw h1 (by omega)
  cases h5 : firstS l 5 with
  | none =>
   simp only [f, h1, h5, Option.bind_some, cond_false, cond_true, t1, w1, v16 _ w2, Option.map_none, Option.getD_none, Option.map_some, Option.getD_some]
   refine ⟨?_, by omega⟩
   cases firstS l 7 <;> cases firstS l 8 <;> rfl
  | some o5 =>
   obtain ⟨u1, u2⟩ := v5_ok (N := N) hw h5 (by omega)
   simp only [f, h1, h5, Option.bind_some, cond_true, t1, w1, v16 _ w2, u1, wrapU32 u2, Option.map_some, Option.getD_some]
   refine ⟨?_, u2⟩
   cases firstS l 7 <;> cases firstS l 8 <;> rfl
def lnkS (w : Wt3) (l : List Op) (fresh : Int) : Wt3 := ((match v1S l with | some v => if 128 ≤ v ∧ (v ≤ w.1 ∨ w.1 = 0) then v else w.1 | none => w.1), (if (findS l 5).2 then fresh else w.2.1), w.2.2)
theorem lnaked_is (w : Wt3) (l : List Op) (fresh : Int) (hwl : wfO l) (hl : l.length ≤ 1000) (hs : ∀ o ∈ l, o.2.length ≤ 1000) (hN : 10000 ≤ N) : lcpo_Naked N w l fresh = some (lnkS w l fresh) ∧ (wfW w → 0 ≤ fresh ∧ fresh < 4294967296 → wfW (lnkS w l fresh)) := by
 obtain ⟨m, g, p⟩ := w
 have a5 := has_ok (N := N) l 5 hl hs hN
 have f := first_is (N := N) l 1 hl hN
 refine ⟨?_, fun hw hf => ⟨?_, ?_⟩⟩
 ·unfold lcpo_Naked lnkS v1S
  cases h : firstS l 1 with
  | none =>
   rw [h] at f
   cases h5 : (findS l 5).2 <;> simp only [f, a5, h5, Option.bind_some, cond_true, cond_false, Option.map_none, if_true, Bool.false_eq_true, if_false]
  | some o =>
   rw [h] at f
   obtain ⟨v1, v3⟩ := v1_ok (N := N) hwl h (by omega)
   have u1 : IntKind.wrap .u16 (valS o.2) = valS o.2 := by rw [IntKind.wrap_u16]; omega
   by_cases t1 : (128 : Int) ≤ valS o.2 <;> by_cases t2 : valS o.2 ≤ m <;> by_cases t3 : m = (0 : Int) <;> cases h5 : (findS l 5).2 <;>
    simp only [f, v1, u1, t1, t2, t3, a5, h5, Option.bind_some, cond_true, cond_false, decide_true, decide_false, Option.map_some, if_true, Bool.false_eq_true, if_false, true_and, false_and, or_true, true_or, or_self] <;> (try (cases decide (valS o.2 ≤ 0) <;> rfl))
 ·show 0 ≤ (lnkS (m, g, p) l fresh).1 ∧ (lnkS (m, g, p) l fresh).1 < 65536
  unfold lnkS v1S
  simp only
  cases h : firstS l 1 with
  | none => exact hw.1
  | some o =>
   simp only [Option.map_some]
   split
   ·exact (v1_ok (N := 100) hwl h (by omega)).2
   ·exact hw.1
 ·show 0 ≤ (lnkS (m, g, p) l fresh).2.1 ∧ (lnkS (m, g, p) l fresh).2.1 < 4294967296
  unfold lnkS
  simp only
  split
  ·exact hf
  ·exact hw.2
def lrjS (w : Wt3) (l : List Op) : Wt3 × Bool := (((if (findS l 1).2 then 0 else w.1), (if (findS l 5).2 then 0 else w.2.1), w.2.2), !(findS l 3).2)
theorem lrej_is (w : Wt3) (l : List Op) (hl : l.length ≤ 1000) (hs : ∀ o ∈ l, o.2.length ≤ 1000) (hN : 10000 ≤ N) : lcpo_Rejected N w l = some (lrjS w l) ∧ (wfW w → wfW (lrjS w l).1) := by
 have a1 := has_ok (N := N) l 1 hl hs hN
 have a3 := has_ok (N := N) l 3 hl hs hN
 have a5 := has_ok (N := N) l 5 hl hs hN
 refine ⟨?_, fun hw => ?_⟩
 ·unfold lcpo_Rejected lrjS
  cases h1 : (findS l 1).2 <;> cases h5 : (findS l 5).2 <;> simp only [a1, a3, a5, h1, h5, Option.bind_some, cond_true, cond_false, if_true, Bool.false_eq_true, if_false]
 ·unfold lrjS wfW
  simp only
  obtain ⟨h1, h2⟩ := hw
  refine ⟨?_, ?_⟩ <;> split <;> omega
def frsS (n : Int) : Int := maxI 1 (IntKind.wrap .u32 (IntKind.wrap .u32 (2654435761 * n) + 1))
theorem frsS_r (n : Int) : 0 ≤ frsS n ∧ frsS n < 4294967296 := by
 have : 0 ≤ IntKind.wrap .u32 (IntKind.wrap .u32 (2654435761 * n) + 1) ∧ IntKind.wrap .u32 (IntKind.wrap .u32 (2654435761 * n) + 1) < 4294967296 := by rw [IntKind.wrap_u32]; omega
 unfold frsS maxI
 split <;> omega
end
section
variable {N : Nat}
theorem jget : Jg.octs_Get N = octs_Get N := rfl
theorem jfind : Jg.opts_Find N = opts_Find N := rfl
theorem joption : Jg.ipcpo_option N = ipcpo_option N := rfl
abbrev Sd := Bool × Int × Int × Int × Bool
def wfS (s : Sd) : Prop := (0 ≤ s.2.1 ∧ s.2.1 < 4294967296) ∧ (0 ≤ s.2.2.1 ∧ s.2.2.1 < 4294967296) ∧ (0 ≤ s.2.2.2.1 ∧ s.2.2.2.1 < 4294967296)
def addrS (d : List Int) : Int := if d.length = 4 then valS d else 0
theorem get4S {d : List Int} (hd : AllB d) (hl : d.length = 4) (hN : 100 ≤ N) : octs_Get N d false = some (valS d, 0) ∧ 0 ≤ valS d ∧ valS d < 4294967296 := by
 match d, hl with
 | [x, y, z, u], _ =>
  have bx := hd x (by simp)
  have by' := hd y (by simp)
  have bz := hd z (by simp)
  have bu := hd u (by simp)
  exact ⟨by rw [show octs_Get N [x, y, z, u] false = some (((x * 256 + y) * 256 + z) * 256 + u, 0) from get4 x y z u bx by' bz bu hN]; simp [valS], by simp [valS]; omega⟩
theorem addrS_r {d : List Int} (hd : AllB d) : 0 ≤ addrS d ∧ addrS d < 4294967296 := by
 unfold addrS
 split
 ·rename_i h; exact (get4S (N := 100) hd h (by omega)).2
 ·omega
theorem address_is {d : List Int} (hd : AllB d) (hN : 100 ≤ N) : Jg.ipcpo_address N d = some (addrS d) := by
 unfold Jg.ipcpo_address addrS
 by_cases h : d.length = 4
 ·obtain ⟨h1, h2⟩ := get4S (N := N) hd h hN
  have c1 : ((d.length : Nat) : Int) = 4 := by omega
  rw [jget, if_pos h]
  simp only [c1, decide_true, Bool.not_true, cond_false, h1, Option.bind_some, wrapU32 h2]
 ·have c1 : ¬ ((d.length : Nat) : Int) = 4 := by omega
  rw [if_neg h]
  simp only [c1, decide_false, Bool.not_false, cond_true]
theorem option_is (k a : Int) (ha : 0 ≤ a ∧ a < 4294967296) (hN : 100 ≤ N) : ipcpo_option N k a = some (k, b4 a) := by
 unfold ipcpo_option ipcpo_laid
 have e : IntKind.wrap .u64 a = a := wrapU64 (by omega) (by omega)
 rw [e, lput4 (N := N) a (by omega) hN]
 rfl
def imay (s : Sd) (o : Op) : Bool := if o.2.length = 4 then (if s.1 then decide (o.1 = 3) || (decide (o.1 = 129) && !decide (s.2.2.2.1 = 0)) else decide (o.1 = 3) && !decide (addrS o.2 = 0)) else false
theorem imay_is (s : Sd) (o : Op) (ho : AllB o.2) (hN : 100 ≤ N) : Jg.ipcpo_may N s o = some (imay s o) := by
 unfold Jg.ipcpo_may imay
 by_cases h : o.2.length = 4
 ·have c1 : ((o.2.length : Nat) : Int) = 4 := by omega
  simp only [c1, decide_true, Bool.not_true, cond_false, h, if_true, address_is (N := N) ho hN]
  cases s.1 <;> by_cases h3 : o.1 = 3 <;> by_cases h129 : o.1 = 129 <;> simp only [h3, h129, decide_true, decide_false, cond_true, cond_false, Bool.not_true, Bool.not_false, Option.bind_some, if_true, if_false, Bool.false_eq_true, Bool.true_or, Bool.false_or, Bool.true_and, Bool.false_and] <;> first | rfl | omega | (cases decide (addrS o.2 = 0) <;> rfl) | (cases decide (s.2.2.2.1 = 0) <;> rfl)
 ·have c1 : ¬ ((o.2.length : Nat) : Int) = 4 := by omega
  simp only [c1, decide_false, Bool.not_false, cond_true, h, if_false]
def givS (s : Sd) (k : Int) : Int := if k = 129 then s.2.2.2.1 else s.2.2.1
theorem givS_is (s : Sd) (k : Int) : Jg.ipcpo_gives N s k = some (givS s k) := by
 unfold Jg.ipcpo_gives givS
 by_cases h : k = 129 <;> simp [h]
theorem givS_r {s : Sd} (h : wfS s) (k : Int) : 0 ≤ givS s k ∧ givS s k < 4294967296 := by
 unfold givS
 split
 ·exact h.2.2
 ·exact h.2.1
def irj (s : Sd) (pre : List Op) (o : Op) : Bool := (findS pre o.1).2 || !imay s o
def ink (s : Sd) (o : Op) : Option Op := if s.1 && !decide (addrS o.2 = givS s o.1) then some (o.1, b4 (givS s o.1)) else none
theorem getD_at {l : List Op} {i : Nat} (h : i < l.length) : l.getD i (0, []) = l[i] := by rw [List.getD_eq_getElem?_getD, List.getElem?_eq_getElem h]; rfl
theorem ijudge_loop (s : Sd) (l : List Op) (hw : wfO l) (hsd : wfS s) (hl : l.length ≤ 40) (hs : ∀ o ∈ l, o.2.length ≤ 300) (hN : 10000 ≤ N) : ∀ (m k : Nat) (rej nak : List Op), m + k = l.length → rej.length ≤ k → nak.length ≤ k →
  rr (fun k d => jdg_rd N s l k (l.getD k (0, [])) d) m k (l.take k, rej, nak, ()) = some (.inl (l, rej ++ (judS (irj s) (ink s) (l.take k) (l.drop k)).1, nak ++ (judS (irj s) (ink s) (l.take k) (l.drop k)).2, ()))
 | 0, k, rej, nak, hk, hr, hn => by
  have hi : k = l.length := by omega
  subst hi
  unfold rr
  rw [List.take_length, List.drop_length]
  simp [judS]
 | m + 1, i, rej, nak, hk, hr, hn => by
  have hlt : i < l.length := by omega
  have tk : takeI l (i : Int) = some (l.take i) := takeI_nat l rfl (by omega)
  have hwi := hw _ (List.getElem_mem hlt)
  have hsi := hs _ (List.getElem_mem hlt)
  have hfind := find_ok (N := N) (l.take i) l[i].1 (by rw [List.length_take]; omega) (fun o ho => by have := hs o (List.mem_of_mem_take ho); omega) (by omega)
  have hts : l.take (i + 1) = l.take i ++ [l[i]] := take_snoc l i hlt
  have hal : (l.take i).length ≤ i := by rw [List.length_take]; omega
  have hcl : Jg.slices_Clone_byte_byte N l[i].2 = some l[i].2 := clone_ok (N := N) _ (by omega)
  have rm : ∀ (x : List Op) (y : Op), x.length ≤ 41 → roomB (x.length + ([y] : List Op).length) 32 = true := fun x y hx => roomB_of (by have := big_len; simp; omega) (by simp; omega)
  have hmay := imay_is (N := N) s l[i] hwi.2 (by omega)
  have hadd := address_is (N := N) hwi.2 (by omega)
  have hgiv := givS_is (N := N) s l[i].1
  have hopt := option_is (N := N) l[i].1 (givS s l[i].1) (givS_r hsd _) (by omega)
  rw [← joption] at hopt
  rw [← jfind] at hfind
  rw [List.drop_eq_getElem_cons hlt]
  have ih := fun rej' nak' h1 h2 => ijudge_loop s l hw hsd hl hs hN m (i + 1) rej' nak' (by omega) h1 h2
  rw [hts] at ih
  unfold rr
  rw [getD_at hlt]
  generalize hx : l[i] = x at *
  obtain ⟨kx, dx⟩ := x
  have r1 := rm (l.take i) (kx, dx) (by omega)
  have r2 := rm rej (kx, dx) (by omega)
  unfold judS
  cases hfb : (findS (l.take i) kx).2 with
  | true =>
   have hrj : irj s (l.take i) (kx, dx) = true := by simp [irj, hfb]
   have key : jdg_rd N s l i (kx, dx) (l.take i, rej, nak, ()) = some (.inl (l.take i ++ [(kx, dx)], rej ++ [(kx, dx)], nak, ())) := by
    simp only [jdg_rd, Option.bind_some, hcl, r1, tk, hfind, hfb, r2, cond_true]
   rw [key]
   simp only [hrj, if_true]
   rw [ih (rej ++ [(kx, dx)]) nak (by simp; omega) (by omega)]
   simp
  | false =>
   cases hm : imay s (kx, dx) with
   | false =>
    have hrj : irj s (l.take i) (kx, dx) = true := by simp [irj, hm]
    have key : jdg_rd N s l i (kx, dx) (l.take i, rej, nak, ()) = some (.inl (l.take i ++ [(kx, dx)], rej ++ [(kx, dx)], nak, ())) := by
     have hmay' : Jg.ipcpo_may N (s.1, (s.2.1, (s.2.2.1, (s.2.2.2.1, s.2.2.2.2)))) (kx, dx) = some false := by rw [← hm]; exact hmay
     simp only [jdg_rd, Option.bind_some, hcl, r1, tk, hfind, hfb, r2, cond_true, cond_false, hmay', Bool.not_false]
    rw [key]
    simp only [hrj, if_true]
    rw [ih (rej ++ [(kx, dx)]) nak (by simp; omega) (by omega)]
    simp
   | true =>
    have hrj : irj s (l.take i) (kx, dx) = false := by simp [irj, hm, hfb]
    have hmay' : Jg.ipcpo_may N (s.1, (s.2.1, (s.2.2.1, (s.2.2.2.1, s.2.2.2.2)))) (kx, dx) = some true := by rw [← hm]; exact hmay
    have hgiv' : Jg.ipcpo_gives N (s.1, (s.2.1, (s.2.2.1, (s.2.2.2.1, s.2.2.2.2)))) kx = some (givS s kx) := hgiv
    have r3 := rm nak (kx, b4 (givS s kx)) (by omega)
    simp only at hadd hopt
    cases hsv : s.1 with
    | false =>
     have hnk : ink s (kx, dx) = none := by simp [ink, hsv]
     have key : jdg_rd N s l i (kx, dx) (l.take i, rej, nak, ()) = some (.inl (l.take i ++ [(kx, dx)], rej, nak, ())) := by
      rw [hsv] at hmay' hgiv'
      simp only [jdg_rd, Option.bind_some, hcl, r1, tk, hfind, hfb, cond_true, cond_false, hsv, hmay', hgiv', Bool.not_true]
     rw [key]
     simp only [hrj, hnk, Bool.false_eq_true, if_false]
     exact ih rej nak (by omega) (by omega)
    | true =>
     rw [hsv] at hmay' hgiv'
     cases hd : decide (addrS dx = givS s kx) with
     | true =>
      have hnk : ink s (kx, dx) = none := by simp only [ink, hsv, hd]; rfl
      have key : jdg_rd N s l i (kx, dx) (l.take i, rej, nak, ()) = some (.inl (l.take i ++ [(kx, dx)], rej, nak, ())) := by
       simp only [jdg_rd, Option.bind_some, hcl, r1, tk, hfind, hfb, cond_true, cond_false, hsv, hmay', hgiv', Bool.not_true, hadd, hd]
      rw [key]
      simp only [hrj, hnk, Bool.false_eq_true, if_false]
      exact ih rej nak (by omega) (by omega)
     | false =>
      have hnk : ink s (kx, dx) = some (kx, b4 (givS s kx)) := by simp only [ink, hsv, hd]; rfl
      have key : jdg_rd N s l i (kx, dx) (l.take i, rej, nak, ()) = some (.inl (l.take i ++ [(kx, dx)], rej, nak ++ [(kx, b4 (givS s kx))], ())) := by
       simp only [jdg_rd, Option.bind_some, hcl, r1, tk, hfind, hfb, cond_true, cond_false, hsv, hmay', hgiv', Bool.not_true, Bool.not_false, hadd, hd, hopt, r3]
      rw [key]
      simp only [hrj, hnk, Bool.false_eq_true, if_false]
      rw [ih rej (nak ++ [(kx, b4 (givS s kx))]) (by omega) (by simp; omega)]
      simp
def ijudS (s : Sd) (l : List Op) : Int × List Op := tellS l (judS (irj s) (ink s) [] l)
theorem ijudge_is (s : Sd) (l : List Op) (hw : wfO l) (hsd : wfS s) (hl : l.length ≤ 40) (hs : ∀ o ∈ l, o.2.length ≤ 300) (hN : 10000 ≤ N) : ipcpo_Judge N s l = some (ijudS s l) := by
 have h := ijudge_loop (N := N) s l hw hsd hl hs hN l.length 0 [] [] (by omega) (by simp) (by simp)
 simp only [List.take_zero, List.drop_zero, List.nil_append] at h
 unfold ipcpo_Judge
 rw [decide_eq_true (show l.length ≤ 1000000000 by omega), cond_true]
 refine (congrArg (fun o => Option.bind o _) h).trans ?_
 simp only [Option.bind_some, Sum.elim_inl, ijudS, tellS, jdg_end]
 generalize judS (irj s) (ink s) [] l = r
 by_cases h1 : 0 < r.1.length
 ·have c1 : ((0 : Int) < (r.1.length : Int)) := by omega
  simp only [c1, decide_true, cond_true, h1, if_true]
 ·have c1 : ¬ ((0 : Int) < (r.1.length : Int)) := by omega
  by_cases h2 : 0 < r.2.length
  ·have c2 : ((0 : Int) < (r.2.length : Int)) := by omega
   simp only [c1, c2, decide_true, decide_false, cond_true, cond_false, h1, h2, if_true, if_false]
  ·have c2 : ¬ ((0 : Int) < (r.2.length : Int)) := by omega
   simp only [c1, c2, decide_false, cond_false, h1, h2, if_false]
def ifP (k : Int) (o : Op) : Bool := decide (o.1 = k) && !decide (addrS o.2 = 0)
def ifS (l : List Op) (k : Int) : Int := match l.find? (ifP k) with
 | some o => addrS o.2
 | none => 0
theorem ifirst_loop (l : List Op) (kd : Int) (hw : wfO l) (hN : 100 ≤ N) (d0 : Int) : ∀ (m k : Nat), m + k = l.length →
  rr (fun k d => fst_rd N kd (l.getD k (0, [])) d) m k (d0, ()) = some (match (l.drop k).find? (ifP kd) with | some o => .inr (addrS o.2, ()) | none => .inl (d0, ()))
 | 0, k, hk => by
  unfold rr
  rw [List.drop_of_length_le (by omega)]
  rfl
 | m + 1, i, hk => by
  have hlt : i < l.length := by omega
  have hwi := hw _ (List.getElem_mem hlt)
  have hadd := address_is (N := N) hwi.2 hN
  have ih := ifirst_loop l kd hw hN d0 m (i + 1) (by omega)
  rw [List.drop_eq_getElem_cons hlt, List.find?_cons]
  unfold rr
  rw [getD_at hlt]
  by_cases h1 : l[i].1 = kd
  ·by_cases h2 : addrS l[i].2 = 0
   ·have hp : ifP kd l[i] = false := by simp [ifP, h2]
    have key : fst_rd N kd l[i] (d0, ()) = some (.inl (d0, ())) := by
     simp only [fst_rd, hadd, Option.bind_some, h1, h2, decide_true, Bool.not_true, cond_true, cond_false]
    rw [key, hp]
    exact ih
   ·have hp : ifP kd l[i] = true := by simp [ifP, h1, h2]
    have key : fst_rd N kd l[i] (d0, ()) = some (.inr (addrS l[i].2, ())) := by
     simp only [fst_rd, hadd, Option.bind_some, h1, h2, decide_true, decide_false, Bool.not_false, cond_true]
    rw [key, hp]
  ·have hp : ifP kd l[i] = false := by simp [ifP, h1]
   have key : fst_rd N kd l[i] (d0, ()) = some (.inl (d0, ())) := by
    simp only [fst_rd, hadd, Option.bind_some, h1, decide_false, cond_false]
   rw [key, hp]
   exact ih
theorem ifirst_is (l : List Op) (kd : Int) (hw : wfO l) (hl : l.length ≤ 1000) (hN : 100 ≤ N) : ipcpo_first N l kd = some (ifS l kd) := by
 have h := ifirst_loop (N := N) l kd hw hN 0 l.length 0 (by omega)
 rw [List.drop_zero] at h
 unfold ipcpo_first ifS
 rw [decide_eq_true (show l.length ≤ 1000000000 by omega), cond_true]
 refine (congrArg (fun o => Option.bind o _) h).trans ?_
 cases l.find? (ifP kd) <;> rfl
theorem ifS_r {l : List Op} (hw : wfO l) (k : Int) : 0 ≤ ifS l k ∧ ifS l k < 4294967296 := by
 unfold ifS
 cases h : l.find? (ifP k) with
 | none => simp
 | some o => exact addrS_r (hw o (List.mem_of_find?_eq_some h)).2
def ioS (s : Sd) : List Op := (3, b4 s.2.1) :: (if !s.1 && s.2.2.2.2 then [(129, b4 s.2.2.2.1)] else [])
theorem iopts_is (s : Sd) (hs : wfS s) (hN : 100 ≤ N) : ipcpo_Options N s = some (ioS s) := by
 unfold ipcpo_Options ioS
 cases h1 : s.1 <;> cases h2 : s.2.2.2.2 <;> simp only [h1, h2, option_is (N := N) 3 _ hs.1 hN, option_is (N := N) 129 _ hs.2.2 hN, Option.bind_some, Bool.not_true, Bool.not_false, cond_true, cond_false, Bool.false_and, Bool.true_and, Bool.false_eq_true, if_true, if_false] <;> rfl
theorem ioS_wf (s : Sd) : wfO (ioS s) ∧ (ioS s).length ≤ 3 ∧ ∀ o ∈ ioS s, o.2.length ≤ 4 := by
 have key : ∀ o ∈ ioS s, o = (3, b4 s.2.1) ∨ o = (129, b4 s.2.2.2.1) := fun o ho => by
  unfold ioS at ho
  rcases List.mem_cons.1 ho with h | h
  ·exact .inl h
  ·split at h
   ·exact .inr (List.mem_singleton.1 h)
   ·cases h
 refine ⟨fun o ho => ?_, ?_, fun o ho => ?_⟩
 ·rcases key o ho with rfl | rfl
  ·exact ⟨by show (0 : Int) ≤ 3 ∧ (3 : Int) < 256; omega, b4_B _⟩
  ·exact ⟨by show (0 : Int) ≤ 129 ∧ (129 : Int) < 256; omega, b4_B _⟩
 ·unfold ioS
  split <;> simp
 ·rcases key o ho with rfl | rfl <;> simp [b4]
def inkS (s : Sd) (l : List Op) : Sd := if s.1 then s else (s.1, (if ifS l 3 = 0 then s.2.1 else ifS l 3), s.2.2.1, (if s.2.2.2.2 && !decide (ifS l 129 = 0) then ifS l 129 else s.2.2.2.1), s.2.2.2.2)
theorem inaked_is (s : Sd) (l : List Op) (hw : wfO l) (hl : l.length ≤ 1000) (hN : 100 ≤ N) : ipcpo_Naked N s l = some (inkS s l) ∧ (wfS s → wfS (inkS s l)) := by
 have f3 := ifirst_is (N := N) l 3 hw hl hN
 have f129 := ifirst_is (N := N) l 129 hw hl hN
 refine ⟨?_, fun hs => ?_⟩
 ·unfold ipcpo_Naked inkS
  cases h1 : s.1 with
  | true =>
   simp only [cond_true, if_true]
   rw [← h1]
  | false =>
   by_cases h3 : ifS l 3 = 0 <;> by_cases h129 : ifS l 129 = 0 <;> cases h2 : s.2.2.2.2 <;> simp only [f3, f129, h2, h3, h129, Option.bind_some, cond_true, cond_false, decide_true, decide_false, Bool.not_true, Bool.not_false, Bool.true_and, Bool.false_and, Bool.false_eq_true, if_true, if_false]
 ·unfold inkS
  split
  ·exact hs
  ·refine ⟨?_, hs.2.1, ?_⟩
   ·show 0 ≤ (if ifS l 3 = 0 then s.2.1 else ifS l 3) ∧ (if ifS l 3 = 0 then s.2.1 else ifS l 3) < 4294967296
    split
    ·exact hs.1
    ·exact ifS_r hw 3
   ·show 0 ≤ (if (s.2.2.2.2 && !decide (ifS l 129 = 0)) = true then ifS l 129 else s.2.2.2.1) ∧ (if (s.2.2.2.2 && !decide (ifS l 129 = 0)) = true then ifS l 129 else s.2.2.2.1) < 4294967296
    split
    ·exact ifS_r hw 129
    ·exact hs.2.2
def irjS (s : Sd) (l : List Op) : Sd × Bool := ((s.1, s.2.1, s.2.2.1, s.2.2.2.1, (if (findS l 129).2 && !s.1 then false else s.2.2.2.2)), !(findS l 3).2)
theorem irej_is (s : Sd) (l : List Op) (hl : l.length ≤ 1000) (hs : ∀ o ∈ l, o.2.length ≤ 1000) (hN : 10000 ≤ N) : ipcpo_Rejected N s l = some (irjS s l) := by
 have a3 := find_ok (N := N) l 3 hl hs hN
 have a129 := find_ok (N := N) l 129 hl hs hN
 unfold ipcpo_Rejected irjS
 cases h1 : s.1 <;> cases h2 : (findS l 129).2 <;> simp only [a3, a129, h1, h2, Option.bind_some, cond_true, cond_false, Bool.not_true, Bool.not_false, Bool.true_and, Bool.false_and, Bool.false_eq_true, if_true, if_false]
end
def rowS : Nat → List (List Int)
 | 0 => [[2], [6, 5, 7], [-1], [-1], [-1], [-1], [-1], [-1], [-1], [-1]]
 | 1 => [[-1], [-1], [0], [1, 3], [0], [1], [1], [1], [1], [1, 2]]
 | 2 => [[1, 3], [1], [6, 5, 7], [3], [5], [5], [6], [7], [8], [9]]
 | 3 => [[0], [0, 4], [2], [2], [4], [4], [4, 5, 10], [4, 5, 10], [4, 5, 10], [4, 2, 5, 10]]
 | 4 => [[-1], [-1], [-1], [-1], [4, 10], [5, 10], [6, 7], [6, 7], [8, 7], [-1]]
 | 5 => [[-1], [-1], [-1], [-1], [2, 4], [3, 4], [3, 4], [3, 4], [3, 4], [-1]]
 | 6 => [[-1], [-1], [2, 11], [8, 5, 7, 8], [4], [5], [8, 8], [9, 8, 1], [8, 8], [8, 2, 7, 8]]
 | 7 => [[-1], [-1], [2, 11], [6, 5, 7, 9], [4], [5], [6, 9], [7, 9], [6, 9], [6, 2, 7, 9]]
 | 8 => [[-1], [-1], [2, 11], [3, 11], [4], [5], [7, 5], [6, 7], [9, 5, 1], [6, 2, 7]]
 | 9 => [[-1], [-1], [2, 11], [3, 11], [4], [5], [6, 5, 7], [6, 7], [8, 5, 7], [6, 2, 7]]
 | 10 => [[-1], [-1], [2, 11], [3, 11], [4, 11], [5, 11], [6, 11], [6, 11], [6, 11], [5, 2, 6, 11]]
 | 11 => [[-1], [-1], [2], [3], [2, 4], [3, 4], [6], [6], [8], [6, 2, 7]]
 | 12 => [[-1], [-1], [2, 12], [3, 12], [4, 12], [5, 12], [6, 12], [7, 12], [8, 12], [9, 12]]
 | 13 => [[-1], [-1], [2], [3], [4], [5], [6], [6], [8], [9]]
 | 14 => [[-1], [-1], [2, 4], [3, 4], [2, 4], [3, 4], [3, 4], [3, 4], [3, 4], [5, 2, 5, 10]]
 | 15 => [[-1], [-1], [2], [3], [4], [5], [6], [7], [8], [9, 13]]
 | _ => []
def nextS (s e : Nat) : Int × List Int × Int := match (rowS e).getD s [] with
 | x :: l => if x < 0 then (0, [], 11) else (x, l, 0)
 | [] => (0, [], 1)
theorem next_all : ∀ s : Nat, s < 10 → ∀ e : Nat, e < 16 → fsm_Next 200000 (s : Int) (e : Int) = some (nextS s e) := by decide +kernel
def timS (s : Nat) : Bool := decide ((nextS s 4).2.2 = 0)
theorem timed_all : ∀ s : Nat, s < 10 → fsm_Timed 200000 (s : Int) = some (timS s) := by decide +kernel
def chkS (s e : Nat) : Bool := (nextS s e).2.2 ≠ 0 || (decide (0 ≤ (nextS s e).1) && decide ((nextS s e).1 < 10) && ((nextS s e).2.1.contains 1 == (s ≠ 9 && (nextS s e).1 == 9)) && ((nextS s e).2.1.contains 2 == (s == 9 && (nextS s e).1 != 9)) && decide (((nextS s e).2.1.filter fun a => decide (7 ≤ a ∧ a ≤ 12)).length ≤ 2) && decide ((nextS s e).2.1.length ≤ 5))
theorem chk_all : ∀ s : Nat, s < 10 → ∀ e : Nat, e < 16 → chkS s e = true := by decide +kernel
abbrev Rt := Bool × Wt3 × Bool × Sd
abbrev Nt := Rt × Int × (Int × Int) × Int × List Op × List Op × Int
abbrev Ft := Bool × Bool × Bool × Bool
def wfR (r : Rt) : Prop := wfW r.2.1 ∧ wfS r.2.2.2
def askS (r : Rt) : List Op := if r.1 then ioS r.2.2.2 else loS r.2.1
theorem askS_wf (r : Rt) : wfO (askS r) ∧ (askS r).length ≤ 3 ∧ ∀ o ∈ askS r, o.2.length ≤ 4 := by
 unfold askS
 split
 ·exact ioS_wf _
 ·exact loS_wf _
def sentT (t : Int × Int) : Int × Int := if 0 < t.1 then (IntKind.wrap .i64 (t.1 - 1), 3) else (0, 3)
def initT (t : Int × Int) (b : Bool) : Int × Int := if b then (2, t.2) else (10, t.2)
def idS (i : Int) : Int := IntKind.wrap .u8 (i + 1)
def openS (n : Nt) (a : Int) : Ct := if a = 10 then (5, n.2.2.2.1, []) else (conC 1 n.2.2.2.1 n.2.2.2.2.1).1
def sndS (pk : List Ct) (c : Ct) : List Ct := if (layC c).2 = 0 then pk ++ [c] else pk
def stepA (acts : List Int) (came ans : Ct) (x : Nt × Ft × List Ct) (a : Int) : Nt × Ft × List Ct :=
 if a = 1 then (x.1, (true, x.2.1.2), x.2.2) else if a = 2 then (x.1, (x.2.1.1, true, x.2.1.2.2), x.2.2) else if a = 3 then (x.1, (x.2.1.1, x.2.1.2.1, true, x.2.1.2.2.2), x.2.2) else if a = 4 then (x.1, (x.2.1.1, x.2.1.2.1, x.2.1.2.2.1, true), x.2.2)
 else if a = 5 then ((x.1.1, x.1.2.1, initT x.1.2.2.1 (acts.contains 10), x.1.2.2.2), x.2.1, x.2.2)
 else if a = 6 then ((x.1.1, x.1.2.1, (0, 3), x.1.2.2.2), x.2.1, x.2.2)
 else if a = 7 then ((x.1.1, x.1.2.1, sentT x.1.2.2.1, idS x.1.2.2.2.1, askS x.1.1, x.1.2.2.2.2.2), x.2.1, sndS x.2.2 (conC 1 (idS x.1.2.2.2.1) (askS x.1.1)).1)
 else if a = 10 then ((x.1.1, x.1.2.1, sentT x.1.2.2.1, idS x.1.2.2.2.1, x.1.2.2.2.2), x.2.1, sndS x.2.2 (5, idS x.1.2.2.2.1, []))
 else if a = 12 then ((x.1.1, x.1.2.1, x.1.2.2.1, idS x.1.2.2.2.1, x.1.2.2.2.2), x.2.1, sndS x.2.2 (7, idS x.1.2.2.2.1, cutC (layC came).1 1400))
 else if a = 8 ∨ a = 9 then (x.1, x.2.1, sndS x.2.2 ans)
 else if a = 11 then (x.1, x.2.1, sndS x.2.2 (6, came.2.1, []))
 else x
def doneS (n : Nt) (e : Nat) (came ans : Ct) : Nt × List Ct × Ft :=
 if (nextS n.2.1.toNat e).2.2 ≠ 0 then (n, [], (false, false, false, false)) else
  match (nextS n.2.1.toNat e).2.1.foldl (stepA (nextS n.2.1.toNat e).2.1 came ans) ((n.1, (nextS n.2.1.toNat e).1, n.2.2), (false, false, false, false), []) with
  | (m, f, pk) => if timS (nextS n.2.1.toNat e).1.toNat then (m, pk, f) else ((m.1, m.2.1, (m.2.2.1.1, 0), m.2.2.2), pk, f)
section
variable {N : Nat}
theorem clay2 (c : Ct) (hl : c.2.2.length ≤ 20000) (hN : 10000 ≤ N) : ctl_Lay N c = some (layC c) := by
 unfold ctl_Lay layC
 have w1 : IntKind.wrap .i64 ((4 : Int) + (c.2.2.length : Int)) = 4 + (c.2.2.length : Int) := wrap64 (by omega) (by omega)
 have w2 : IntKind.wrap .u64 ((4 : Int) + (c.2.2.length : Int)) = 4 + (c.2.2.length : Int) := wrapU64 (by omega) (by omega)
 by_cases hb : 4000 < c.2.2.length
 ·have c1 : (4000 : Int) < (c.2.2.length : Int) := by omega
  simp [c1, hb]
 ·have c1 : ¬ (4000 : Int) < (c.2.2.length : Int) := by omega
  rw [decide_eq_false c1, w1, w2, oput2 _ (by omega) hN]
  simp only [cond_false, Option.bind_some]
  rw [ojoin _ (by simp) (fun p hp => by
   simp only [List.mem_cons, List.not_mem_nil, or_false] at hp
   rcases hp with rfl | rfl | rfl
   ·simp
   ·simp
   ·omega) hN]
  have e1 : (4 + (c.2.2.length : Int)) / 256 % 256 = (4 + (c.2.2.length : Int)) / 256 := by omega
  simp [hb, e1]
theorem layC_len (c : Ct) : (layC c).1.length ≤ 4 + c.2.2.length := by
 unfold layC
 split <;> simp
 omega
theorem cutC_len (b : List Int) (most : Int) : (cutC b most).length ≤ b.length := by
 unfold cutC
 split
 ·simp
 ·rw [List.length_take]; omega
theorem asks_is (n : Nt) (h : wfR n.1) (hN : 10000 ≤ N) : nego_Nego_asks N n = some (askS n.1) := by
 unfold nego_Nego_asks askS
 cases hi : n.1.1 with
 | true => simp only [cond_true, iopts_is (N := N) n.1.2.2.2 h.2 (by omega), Option.bind_some, if_true]
 | false => simp only [cond_false, lopts_is (N := N) n.1.2.1 h.1 hN, Option.bind_some, Bool.false_eq_true, if_false]
theorem opens_is (n : Nt) (a : Int) (hl : n.2.2.2.2.1.length ≤ 1000) (hN : 10000 ≤ N) : nego_Nego_opens N n a = some (openS n a) := by
 unfold nego_Nego_opens openS
 by_cases h : a = 10
 ·simp only [h, decide_true, cond_true, if_true]
 ·simp only [h, decide_false, cond_false, if_false, ccon_ok (N := N) 1 n.2.2.2.1 n.2.2.2.2.1 hl hN, Option.bind_some]
theorem sent_is (t : Int × Int) : retry_Retry_Sent N t = some (sentT t) := by
 unfold retry_Retry_Sent sentT
 by_cases h : 0 < t.1 <;> simp [h]
theorem init_is (t : Int × Int) (b : Bool) : retry_Retry_Init N t b = some (initT t b) := by
 unfold retry_Retry_Init initT
 cases b <;> rfl
theorem idx_loop (l : List Int) (v : Int) (hl : l.length ≤ 1000000) : ∀ (m M i : Nat), m + i = l.length → m < M →
  ∃ o, gl (fun X c => slices_Index_fsm_Action_fsm_Action_L2 N X c.1.1 c.1.2.1 c.1.2.2.1 c.1.2.2.2.1) M ((l, (v, ((l.length : Int), ((i : Int), ())))), ()) = some o ∧ ((o = .inr ((), ()) ∧ (l.drop i).contains v = false) ∨ ∃ j : Nat, o = .inl (((j : Int), ()), ()) ∧ (l.drop i).contains v = true)
 | 0, M + 1, i, hm, hM => by
  have c1 : ¬ ((i : Int) < (l.length : Int)) := by omega
  refine ⟨.inr ((), ()), ?_, .inl ⟨rfl, ?_⟩⟩
  ·rw [gl_succ]
   simp only [slices_Index_fsm_Action_fsm_Action_L2, c1, decide_false, cond_false]
  ·rw [List.drop_of_length_le (by omega)]; rfl
 | m + 1, M + 1, i, hm, hM => by
  have hlt : i < l.length := by omega
  have c1 : ((i : Int) < (l.length : Int)) := by omega
  have c2 : IntKind.wrap .i64 ((i : Int) + 1) = ((i + 1 : Nat) : Int) := by rw [wrap64 (by omega) (by omega)]; omega
  rw [List.drop_eq_getElem_cons hlt]
  by_cases h : v = l[i]
  ·refine ⟨.inl (((i : Int), ()), ()), ?_, .inr ⟨i, rfl, ?_⟩⟩
   ·rw [gl_succ]
    simp only [slices_Index_fsm_Action_fsm_Action_L2, c1, decide_true, cond_true, getI_lt l i hlt, Option.bind_some, h]
   ·rw [List.contains_cons, beq_iff_eq.2 h, Bool.true_or]
  ·obtain ⟨o, h1, h2⟩ := idx_loop l v hl m M (i + 1) (by omega) (by omega)
   have e : (l[i] :: l.drop (i + 1)).contains v = (l.drop (i + 1)).contains v := by rw [List.contains_cons, beq_eq_false_iff_ne.2 h, Bool.false_or]
   refine ⟨o, ?_, by rw [e]; exact h2⟩
   rw [gl_succ]
   simp only [slices_Index_fsm_Action_fsm_Action_L2, c1, decide_true, decide_false, cond_true, cond_false, getI_lt l i hlt, Option.bind_some, h, c2]
   exact h1
theorem cont_is (l : List Int) (v : Int) (hl : l.length < N) (hN : N ≤ 1000000) : slices_Contains_fsm_Action_fsm_Action N l v = some (l.contains v) := by
 obtain ⟨o, h1, h2⟩ := idx_loop (N := N) l v (by omega) l.length N 0 (by omega) hl
 rw [List.drop_zero] at h2
 unfold slices_Contains_fsm_Action_fsm_Action slices_Index_fsm_Action_fsm_Action
 have e : slices_Index_fsm_Action_fsm_Action_L2_R N ((l, (v, ((l.length : Int), ((0 : Int), ())))), ()) = some o := h1
 rcases h2 with ⟨rfl, h⟩ | ⟨j, rfl, h⟩
 ·rw [e, h]; rfl
 ·rw [e, h]
  simp only [Option.bind_some, Sum.elim_inl, Option.some.injEq, decide_eq_true_eq]
  omega
theorem contb_is (l : List Int) (v : Int) (hl : l.length < N) (hN : N ≤ 1000000) : slices_Contains_byte_byte N l v = some (l.contains v) := cont_is (N := N) l v hl hN
end
end Go.Proofs.Ytjomcoignnlghaa
