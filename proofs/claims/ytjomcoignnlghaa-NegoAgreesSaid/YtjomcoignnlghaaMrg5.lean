/-
  Parts of my own, one behind the other: GNgB, GNg, GNh, QBase2, QOctsD, QOcts, QNC0, QNC1, QNC2.
-/
import Derived.Test.YtjomcoignnlghaaMrg4
namespace Go.Proofs.Ytjomcoignnlghaa
open Go.RowKit
set_option linter.unusedVariables false
set_option maxRecDepth 100000
section
variable (N : Nat)
noncomputable def fsm_answers (e0 : Int) : Option (Arr (Bool × (Int × (List Int))) 10) :=
 bif (decide (e0 = (8 : Int))) then
  some ((@Arr.cons (Bool × (Int × (List Int))) (9 : Nat) (false, ((0 : Int), ([] : List Int))) (@Arr.cons (Bool × (Int × (List Int))) (8 : Nat) (false, ((0 : Int), ([] : List Int))) (@Arr.cons (Bool × (Int × (List Int))) (7 : Nat) (true, ((2 : Int), ([11] : List Int))) (@Arr.cons (Bool × (Int × (List Int))) (6 : Nat) (true, ((3 : Int), ([11] : List Int))) (@Arr.cons (Bool × (Int × (List Int))) (5 : Nat) (true, ((4 : Int), ([] : List Int))) (@Arr.cons (Bool × (Int × (List Int))) (4 : Nat) (true, ((5 : Int), ([] : List Int))) (@Arr.cons (Bool × (Int × (List Int))) (3 : Nat) (true, ((7 : Int), ([5] : List Int))) (@Arr.cons (Bool × (Int × (List Int))) (2 : Nat) (true, ((6 : Int), ([7] : List Int))) (@Arr.cons (Bool × (Int × (List Int))) (1 : Nat) (true, ((9 : Int), ([5, 1] : List Int))) (@Arr.cons (Bool × (Int × (List Int))) (0 : Nat) (true, ((6 : Int), ([2, 7] : List Int))) (@Arr.nil (Bool × (Int × (List Int)))))))))))))))
 else
  bif (decide (e0 = (9 : Int))) then
   some ((@Arr.cons (Bool × (Int × (List Int))) (9 : Nat) (false, ((0 : Int), ([] : List Int))) (@Arr.cons (Bool × (Int × (List Int))) (8 : Nat) (false, ((0 : Int), ([] : List Int))) (@Arr.cons (Bool × (Int × (List Int))) (7 : Nat) (true, ((2 : Int), ([11] : List Int))) (@Arr.cons (Bool × (Int × (List Int))) (6 : Nat) (true, ((3 : Int), ([11] : List Int))) (@Arr.cons (Bool × (Int × (List Int))) (5 : Nat) (true, ((4 : Int), ([] : List Int))) (@Arr.cons (Bool × (Int × (List Int))) (4 : Nat) (true, ((5 : Int), ([] : List Int))) (@Arr.cons (Bool × (Int × (List Int))) (3 : Nat) (true, ((6 : Int), ([5, 7] : List Int))) (@Arr.cons (Bool × (Int × (List Int))) (2 : Nat) (true, ((6 : Int), ([7] : List Int))) (@Arr.cons (Bool × (Int × (List Int))) (1 : Nat) (true, ((8 : Int), ([5, 7] : List Int))) (@Arr.cons (Bool × (Int × (List Int))) (0 : Nat) (true, ((6 : Int), ([2, 7] : List Int))) (@Arr.nil (Bool × (Int × (List Int)))))))))))))))
  else
   bif (decide (e0 = (10 : Int))) then
    some ((@Arr.cons (Bool × (Int × (List Int))) (9 : Nat) (false, ((0 : Int), ([] : List Int))) (@Arr.cons (Bool × (Int × (List Int))) (8 : Nat) (false, ((0 : Int), ([] : List Int))) (@Arr.cons (Bool × (Int × (List Int))) (7 : Nat) (true, ((2 : Int), ([11] : List Int))) (@Arr.cons (Bool × (Int × (List Int))) (6 : Nat) (true, ((3 : Int), ([11] : List Int))) (@Arr.cons (Bool × (Int × (List Int))) (5 : Nat) (true, ((4 : Int), ([11] : List Int))) (@Arr.cons (Bool × (Int × (List Int))) (4 : Nat) (true, ((5 : Int), ([11] : List Int))) (@Arr.cons (Bool × (Int × (List Int))) (3 : Nat) (true, ((6 : Int), ([11] : List Int))) (@Arr.cons (Bool × (Int × (List Int))) (2 : Nat) (true, ((6 : Int), ([11] : List Int))) (@Arr.cons (Bool × (Int × (List Int))) (1 : Nat) (true, ((6 : Int), ([11] : List Int))) (@Arr.cons (Bool × (Int × (List Int))) (0 : Nat) (true, ((5 : Int), ([2, 6, 11] : List Int))) (@Arr.nil (Bool × (Int × (List Int)))))))))))))))
   else
    bif (decide (e0 = (11 : Int))) then
     some ((@Arr.cons (Bool × (Int × (List Int))) (9 : Nat) (false, ((0 : Int), ([] : List Int))) (@Arr.cons (Bool × (Int × (List Int))) (8 : Nat) (false, ((0 : Int), ([] : List Int))) (@Arr.cons (Bool × (Int × (List Int))) (7 : Nat) (true, ((2 : Int), ([] : List Int))) (@Arr.cons (Bool × (Int × (List Int))) (6 : Nat) (true, ((3 : Int), ([] : List Int))) (@Arr.cons (Bool × (Int × (List Int))) (5 : Nat) (true, ((2 : Int), ([4] : List Int))) (@Arr.cons (Bool × (Int × (List Int))) (4 : Nat) (true, ((3 : Int), ([4] : List Int))) (@Arr.cons (Bool × (Int × (List Int))) (3 : Nat) (true, ((6 : Int), ([] : List Int))) (@Arr.cons (Bool × (Int × (List Int))) (2 : Nat) (true, ((6 : Int), ([] : List Int))) (@Arr.cons (Bool × (Int × (List Int))) (1 : Nat) (true, ((8 : Int), ([] : List Int))) (@Arr.cons (Bool × (Int × (List Int))) (0 : Nat) (true, ((6 : Int), ([2, 7] : List Int))) (@Arr.nil (Bool × (Int × (List Int)))))))))))))))
    else
     bif (decide (e0 = (12 : Int))) then
      Option.bind (fsm_same N ([12] : List Int)) fun v2 =>
      some (v2)
     else
      bif (decide (e0 = (13 : Int))) then
       some ((@Arr.cons (Bool × (Int × (List Int))) (9 : Nat) (false, ((0 : Int), ([] : List Int))) (@Arr.cons (Bool × (Int × (List Int))) (8 : Nat) (false, ((0 : Int), ([] : List Int))) (@Arr.cons (Bool × (Int × (List Int))) (7 : Nat) (true, ((2 : Int), ([] : List Int))) (@Arr.cons (Bool × (Int × (List Int))) (6 : Nat) (true, ((3 : Int), ([] : List Int))) (@Arr.cons (Bool × (Int × (List Int))) (5 : Nat) (true, ((4 : Int), ([] : List Int))) (@Arr.cons (Bool × (Int × (List Int))) (4 : Nat) (true, ((5 : Int), ([] : List Int))) (@Arr.cons (Bool × (Int × (List Int))) (3 : Nat) (true, ((6 : Int), ([] : List Int))) (@Arr.cons (Bool × (Int × (List Int))) (2 : Nat) (true, ((6 : Int), ([] : List Int))) (@Arr.cons (Bool × (Int × (List Int))) (1 : Nat) (true, ((8 : Int), ([] : List Int))) (@Arr.cons (Bool × (Int × (List Int))) (0 : Nat) (true, ((9 : Int), ([] : List Int))) (@Arr.nil (Bool × (Int × (List Int)))))))))))))))
      else
       bif (decide (e0 = (14 : Int))) then
        some ((@Arr.cons (Bool × (Int × (List Int))) (9 : Nat) (false, ((0 : Int), ([] : List Int))) (@Arr.cons (Bool × (Int × (List Int))) (8 : Nat) (false, ((0 : Int), ([] : List Int))) (@Arr.cons (Bool × (Int × (List Int))) (7 : Nat) (true, ((2 : Int), ([4] : List Int))) (@Arr.cons (Bool × (Int × (List Int))) (6 : Nat) (true, ((3 : Int), ([4] : List Int))) (@Arr.cons (Bool × (Int × (List Int))) (5 : Nat) (true, ((2 : Int), ([4] : List Int))) (@Arr.cons (Bool × (Int × (List Int))) (4 : Nat) (true, ((3 : Int), ([4] : List Int))) (@Arr.cons (Bool × (Int × (List Int))) (3 : Nat) (true, ((3 : Int), ([4] : List Int))) (@Arr.cons (Bool × (Int × (List Int))) (2 : Nat) (true, ((3 : Int), ([4] : List Int))) (@Arr.cons (Bool × (Int × (List Int))) (1 : Nat) (true, ((3 : Int), ([4] : List Int))) (@Arr.cons (Bool × (Int × (List Int))) (0 : Nat) (true, ((5 : Int), ([2, 5, 10] : List Int))) (@Arr.nil (Bool × (Int × (List Int)))))))))))))))
       else
        bif (decide (e0 = (15 : Int))) then
         Option.bind (fsm_same N ([] : List Int)) fun v2 =>
         Option.bind (@GetElem?.getElem? (List (Bool × (Int × (List Int)))) Nat (Bool × (Int × (List Int))) (fun (as3 : (List (Bool × (Int × (List Int))))) => (fun (i4 : Nat) => (@LT.lt Nat @instLTNat i4 (List.length as3)))) (@List.instGetElem?NatLtLength (Bool × (Int × (List Int)))) v2.l (Int.toNat (9 : Int))) fun (v3 : (Bool × (Int × (List Int)))) =>
         some ((v2.set (Int.toNat (9 : Int)) (true, ((9 : Int), ([13] : List Int)))))
        else
         some ((@Arr.cons (Bool × (Int × (List Int))) (9 : Nat) (false, ((0 : Int), ([] : List Int))) (@Arr.cons (Bool × (Int × (List Int))) (8 : Nat) (false, ((0 : Int), ([] : List Int))) (@Arr.cons (Bool × (Int × (List Int))) (7 : Nat) (false, ((0 : Int), ([] : List Int))) (@Arr.cons (Bool × (Int × (List Int))) (6 : Nat) (false, ((0 : Int), ([] : List Int))) (@Arr.cons (Bool × (Int × (List Int))) (5 : Nat) (false, ((0 : Int), ([] : List Int))) (@Arr.cons (Bool × (Int × (List Int))) (4 : Nat) (false, ((0 : Int), ([] : List Int))) (@Arr.cons (Bool × (Int × (List Int))) (3 : Nat) (false, ((0 : Int), ([] : List Int))) (@Arr.cons (Bool × (Int × (List Int))) (2 : Nat) (false, ((0 : Int), ([] : List Int))) (@Arr.cons (Bool × (Int × (List Int))) (1 : Nat) (false, ((0 : Int), ([] : List Int))) (@Arr.cons (Bool × (Int × (List Int))) (0 : Nat) (false, ((0 : Int), ([] : List Int))) (@Arr.nil (Bool × (Int × (List Int)))))))))))))))
theorem fsm_answers_S (e0 : Int) : (runK Try.prog (Ev76 N) 400 79 [(.int .i64)] [(.arr 10 (.pair .bool (.pair (.int .i64) (.sl (.int .i64)))))] (e0, ())).run = fsm_answers N e0 := by kernel_rfl
noncomputable def Ev77 : (R : Type) → Env R := Env.addFn (Ev76 N) 79 (fun R => fnK [(.int .i64)] [(.arr 10 (.pair .bool (.pair (.int .i64) (.sl (.int .i64)))))] (fun c => fsm_answers N c.1))
theorem Ev77_ok (R : Type) : EnvOK Try.prog (Ev77 N R) := EnvOK.addFn hmx (Ev76_ok N R) (Ev76_ok N _) (by kernel_rfl) (fun c => fsm_answers_S N c.1)
noncomputable def fsm_row (e0 : Int) : Option (Arr (Bool × (Int × (List Int))) 10) :=
 bif (decide (e0 = (0 : Int))) then
  some ((@Arr.cons (Bool × (Int × (List Int))) (9 : Nat) (true, ((2 : Int), ([] : List Int))) (@Arr.cons (Bool × (Int × (List Int))) (8 : Nat) (true, ((6 : Int), ([5, 7] : List Int))) (@Arr.cons (Bool × (Int × (List Int))) (7 : Nat) (false, ((0 : Int), ([] : List Int))) (@Arr.cons (Bool × (Int × (List Int))) (6 : Nat) (false, ((0 : Int), ([] : List Int))) (@Arr.cons (Bool × (Int × (List Int))) (5 : Nat) (false, ((0 : Int), ([] : List Int))) (@Arr.cons (Bool × (Int × (List Int))) (4 : Nat) (false, ((0 : Int), ([] : List Int))) (@Arr.cons (Bool × (Int × (List Int))) (3 : Nat) (false, ((0 : Int), ([] : List Int))) (@Arr.cons (Bool × (Int × (List Int))) (2 : Nat) (false, ((0 : Int), ([] : List Int))) (@Arr.cons (Bool × (Int × (List Int))) (1 : Nat) (false, ((0 : Int), ([] : List Int))) (@Arr.cons (Bool × (Int × (List Int))) (0 : Nat) (false, ((0 : Int), ([] : List Int))) (@Arr.nil (Bool × (Int × (List Int)))))))))))))))
 else
  bif (decide (e0 = (1 : Int))) then
   some ((@Arr.cons (Bool × (Int × (List Int))) (9 : Nat) (false, ((0 : Int), ([] : List Int))) (@Arr.cons (Bool × (Int × (List Int))) (8 : Nat) (false, ((0 : Int), ([] : List Int))) (@Arr.cons (Bool × (Int × (List Int))) (7 : Nat) (true, ((0 : Int), ([] : List Int))) (@Arr.cons (Bool × (Int × (List Int))) (6 : Nat) (true, ((1 : Int), ([3] : List Int))) (@Arr.cons (Bool × (Int × (List Int))) (5 : Nat) (true, ((0 : Int), ([] : List Int))) (@Arr.cons (Bool × (Int × (List Int))) (4 : Nat) (true, ((1 : Int), ([] : List Int))) (@Arr.cons (Bool × (Int × (List Int))) (3 : Nat) (true, ((1 : Int), ([] : List Int))) (@Arr.cons (Bool × (Int × (List Int))) (2 : Nat) (true, ((1 : Int), ([] : List Int))) (@Arr.cons (Bool × (Int × (List Int))) (1 : Nat) (true, ((1 : Int), ([] : List Int))) (@Arr.cons (Bool × (Int × (List Int))) (0 : Nat) (true, ((1 : Int), ([2] : List Int))) (@Arr.nil (Bool × (Int × (List Int)))))))))))))))
  else
   bif (decide (e0 = (2 : Int))) then
    some ((@Arr.cons (Bool × (Int × (List Int))) (9 : Nat) (true, ((1 : Int), ([3] : List Int))) (@Arr.cons (Bool × (Int × (List Int))) (8 : Nat) (true, ((1 : Int), ([] : List Int))) (@Arr.cons (Bool × (Int × (List Int))) (7 : Nat) (true, ((6 : Int), ([5, 7] : List Int))) (@Arr.cons (Bool × (Int × (List Int))) (6 : Nat) (true, ((3 : Int), ([] : List Int))) (@Arr.cons (Bool × (Int × (List Int))) (5 : Nat) (true, ((5 : Int), ([] : List Int))) (@Arr.cons (Bool × (Int × (List Int))) (4 : Nat) (true, ((5 : Int), ([] : List Int))) (@Arr.cons (Bool × (Int × (List Int))) (3 : Nat) (true, ((6 : Int), ([] : List Int))) (@Arr.cons (Bool × (Int × (List Int))) (2 : Nat) (true, ((7 : Int), ([] : List Int))) (@Arr.cons (Bool × (Int × (List Int))) (1 : Nat) (true, ((8 : Int), ([] : List Int))) (@Arr.cons (Bool × (Int × (List Int))) (0 : Nat) (true, ((9 : Int), ([] : List Int))) (@Arr.nil (Bool × (Int × (List Int)))))))))))))))
   else
    bif (decide (e0 = (3 : Int))) then
     some ((@Arr.cons (Bool × (Int × (List Int))) (9 : Nat) (true, ((0 : Int), ([] : List Int))) (@Arr.cons (Bool × (Int × (List Int))) (8 : Nat) (true, ((0 : Int), ([4] : List Int))) (@Arr.cons (Bool × (Int × (List Int))) (7 : Nat) (true, ((2 : Int), ([] : List Int))) (@Arr.cons (Bool × (Int × (List Int))) (6 : Nat) (true, ((2 : Int), ([] : List Int))) (@Arr.cons (Bool × (Int × (List Int))) (5 : Nat) (true, ((4 : Int), ([] : List Int))) (@Arr.cons (Bool × (Int × (List Int))) (4 : Nat) (true, ((4 : Int), ([] : List Int))) (@Arr.cons (Bool × (Int × (List Int))) (3 : Nat) (true, ((4 : Int), ([5, 10] : List Int))) (@Arr.cons (Bool × (Int × (List Int))) (2 : Nat) (true, ((4 : Int), ([5, 10] : List Int))) (@Arr.cons (Bool × (Int × (List Int))) (1 : Nat) (true, ((4 : Int), ([5, 10] : List Int))) (@Arr.cons (Bool × (Int × (List Int))) (0 : Nat) (true, ((4 : Int), ([2, 5, 10] : List Int))) (@Arr.nil (Bool × (Int × (List Int)))))))))))))))
    else
     bif (decide (e0 = (4 : Int))) then
      some ((@Arr.cons (Bool × (Int × (List Int))) (9 : Nat) (false, ((0 : Int), ([] : List Int))) (@Arr.cons (Bool × (Int × (List Int))) (8 : Nat) (false, ((0 : Int), ([] : List Int))) (@Arr.cons (Bool × (Int × (List Int))) (7 : Nat) (false, ((0 : Int), ([] : List Int))) (@Arr.cons (Bool × (Int × (List Int))) (6 : Nat) (false, ((0 : Int), ([] : List Int))) (@Arr.cons (Bool × (Int × (List Int))) (5 : Nat) (true, ((4 : Int), ([10] : List Int))) (@Arr.cons (Bool × (Int × (List Int))) (4 : Nat) (true, ((5 : Int), ([10] : List Int))) (@Arr.cons (Bool × (Int × (List Int))) (3 : Nat) (true, ((6 : Int), ([7] : List Int))) (@Arr.cons (Bool × (Int × (List Int))) (2 : Nat) (true, ((6 : Int), ([7] : List Int))) (@Arr.cons (Bool × (Int × (List Int))) (1 : Nat) (true, ((8 : Int), ([7] : List Int))) (@Arr.cons (Bool × (Int × (List Int))) (0 : Nat) (false, ((0 : Int), ([] : List Int))) (@Arr.nil (Bool × (Int × (List Int)))))))))))))))
     else
      bif (decide (e0 = (5 : Int))) then
       some ((@Arr.cons (Bool × (Int × (List Int))) (9 : Nat) (false, ((0 : Int), ([] : List Int))) (@Arr.cons (Bool × (Int × (List Int))) (8 : Nat) (false, ((0 : Int), ([] : List Int))) (@Arr.cons (Bool × (Int × (List Int))) (7 : Nat) (false, ((0 : Int), ([] : List Int))) (@Arr.cons (Bool × (Int × (List Int))) (6 : Nat) (false, ((0 : Int), ([] : List Int))) (@Arr.cons (Bool × (Int × (List Int))) (5 : Nat) (true, ((2 : Int), ([4] : List Int))) (@Arr.cons (Bool × (Int × (List Int))) (4 : Nat) (true, ((3 : Int), ([4] : List Int))) (@Arr.cons (Bool × (Int × (List Int))) (3 : Nat) (true, ((3 : Int), ([4] : List Int))) (@Arr.cons (Bool × (Int × (List Int))) (2 : Nat) (true, ((3 : Int), ([4] : List Int))) (@Arr.cons (Bool × (Int × (List Int))) (1 : Nat) (true, ((3 : Int), ([4] : List Int))) (@Arr.cons (Bool × (Int × (List Int))) (0 : Nat) (false, ((0 : Int), ([] : List Int))) (@Arr.nil (Bool × (Int × (List Int)))))))))))))))
      else
       bif (decide (e0 = (6 : Int))) then
        some ((@Arr.cons (Bool × (Int × (List Int))) (9 : Nat) (false, ((0 : Int), ([] : List Int))) (@Arr.cons (Bool × (Int × (List Int))) (8 : Nat) (false, ((0 : Int), ([] : List Int))) (@Arr.cons (Bool × (Int × (List Int))) (7 : Nat) (true, ((2 : Int), ([11] : List Int))) (@Arr.cons (Bool × (Int × (List Int))) (6 : Nat) (true, ((8 : Int), ([5, 7, 8] : List Int))) (@Arr.cons (Bool × (Int × (List Int))) (5 : Nat) (true, ((4 : Int), ([] : List Int))) (@Arr.cons (Bool × (Int × (List Int))) (4 : Nat) (true, ((5 : Int), ([] : List Int))) (@Arr.cons (Bool × (Int × (List Int))) (3 : Nat) (true, ((8 : Int), ([8] : List Int))) (@Arr.cons (Bool × (Int × (List Int))) (2 : Nat) (true, ((9 : Int), ([8, 1] : List Int))) (@Arr.cons (Bool × (Int × (List Int))) (1 : Nat) (true, ((8 : Int), ([8] : List Int))) (@Arr.cons (Bool × (Int × (List Int))) (0 : Nat) (true, ((8 : Int), ([2, 7, 8] : List Int))) (@Arr.nil (Bool × (Int × (List Int)))))))))))))))
       else
        bif (decide (e0 = (7 : Int))) then
         some ((@Arr.cons (Bool × (Int × (List Int))) (9 : Nat) (false, ((0 : Int), ([] : List Int))) (@Arr.cons (Bool × (Int × (List Int))) (8 : Nat) (false, ((0 : Int), ([] : List Int))) (@Arr.cons (Bool × (Int × (List Int))) (7 : Nat) (true, ((2 : Int), ([11] : List Int))) (@Arr.cons (Bool × (Int × (List Int))) (6 : Nat) (true, ((6 : Int), ([5, 7, 9] : List Int))) (@Arr.cons (Bool × (Int × (List Int))) (5 : Nat) (true, ((4 : Int), ([] : List Int))) (@Arr.cons (Bool × (Int × (List Int))) (4 : Nat) (true, ((5 : Int), ([] : List Int))) (@Arr.cons (Bool × (Int × (List Int))) (3 : Nat) (true, ((6 : Int), ([9] : List Int))) (@Arr.cons (Bool × (Int × (List Int))) (2 : Nat) (true, ((7 : Int), ([9] : List Int))) (@Arr.cons (Bool × (Int × (List Int))) (1 : Nat) (true, ((6 : Int), ([9] : List Int))) (@Arr.cons (Bool × (Int × (List Int))) (0 : Nat) (true, ((6 : Int), ([2, 7, 9] : List Int))) (@Arr.nil (Bool × (Int × (List Int)))))))))))))))
        else
         Option.bind (fsm_answers N e0) fun v2 =>
         some (v2)
theorem fsm_row_S (e0 : Int) : (runK Try.prog (Ev77 N) 400 61 [(.int .i64)] [(.arr 10 (.pair .bool (.pair (.int .i64) (.sl (.int .i64)))))] (e0, ())).run = fsm_row N e0 := by kernel_rfl
noncomputable def Ev78 : (R : Type) → Env R := Env.addFn (Ev77 N) 61 (fun R => fnK [(.int .i64)] [(.arr 10 (.pair .bool (.pair (.int .i64) (.sl (.int .i64)))))] (fun c => fsm_row N c.1))
theorem Ev78_ok (R : Type) : EnvOK Try.prog (Ev78 N R) := EnvOK.addFn hmx (Ev77_ok N R) (Ev77_ok N _) (by kernel_rfl) (fun c => fsm_row_S N c.1)
noncomputable def slices_Clone_fsm_Action_fsm_Action_ne (N : Nat) (s0 : List (Int)) : Option (List Int) :=
 bif (@List.isEmpty Int s0) then
  none
 else
  bif (roomB (List.length s0) 8) then
   some (s0)
  else
   none
theorem slices_Clone_fsm_Action_fsm_Action_ne_S (s0 : List (Int)) : (runK Try.prog (Ev78 N) 400 62 [(.sl (.int .i64))] [(.sl (.int .i64))] (s0, ())).run = slices_Clone_fsm_Action_fsm_Action_ne N s0 := by kernel_rfl
theorem slices_Clone_fsm_Action_fsm_Action_n1 (c : Nat) : (runV Try.prog (Ev78 N) 400 62 [.c (.slice none 0 c)] [(.sl (.int .i64))]).run = some [] := by kernel_rfl
theorem slices_Clone_fsm_Action_fsm_Action_n2 (A : Addr) (c : Nat) : (runV Try.prog (Ev78 N) 400 62 [.c (.slice (some A) 0 c)] [(.sl (.int .i64))]).run = some [] := by kernel_rfl
noncomputable def slices_Clone_fsm_Action_fsm_Action (s0 : List (Int)) : Option (List Int) := bif s0.isEmpty then some [] else slices_Clone_fsm_Action_fsm_Action_ne N s0
noncomputable def Ev79 : (R : Type) → Env R := Env.addFn (Ev78 N) 62 (fun R => fnK [(.sl (.int .i64))] [(.sl (.int .i64))] (fun c => slices_Clone_fsm_Action_fsm_Action N c.1))
theorem Ev79_ok (R : Type) : EnvOK Try.prog (Ev79 N R) := EnvOK.addNil hmx (Ev78_ok N R) (Ev78_ok N _) (by kernel_rfl) (fun c => slices_Clone_fsm_Action_fsm_Action_ne_S N c.1) (slices_Clone_fsm_Action_fsm_Action_n1 N) (slices_Clone_fsm_Action_fsm_Action_n2 N)
noncomputable def fsm_Next (s0 : Int) (e1 : Int) : Option (Int × (List Int) × Int) :=
 Option.bind (fsm_isState N s0) fun v3 =>
 Option.bind (bif (!v3) then
   some (true)
  else
   some ((cond false true (decide (e1 < (0 : Int)))))) fun (v4 : Bool) =>
 Option.bind (bif v4 then
   some (true)
  else
   some ((cond false true (decide ((15 : Int) < e1))))) fun (v5 : Bool) =>
 bif v5 then
  some (((0 : Int), (([] : List Int), (1 : Int))))
 else
  Option.bind (fsm_row N e1) fun v6 =>
  Option.bind (getI v6.l s0) fun (v7 : (Bool × (Int × (List Int)))) =>
  bif (!v7.1) then
   some (((0 : Int), (([] : List Int), (11 : Int))))
  else
   Option.bind (slices_Clone_fsm_Action_fsm_Action N v7.2.2) fun v8 =>
   some ((v7.2.1, (v8, (0 : Int))))
theorem fsm_Next_S (s0 : Int) (e1 : Int) : (runK Try.prog (Ev79 N) 400 37 [(.int .i64), (.int .i64)] [(.int .i64), (.sl (.int .i64)), (.int .i64)] (s0, e1, ())).run = fsm_Next N s0 e1 := by kernel_rfl
noncomputable def Ev80 : (R : Type) → Env R := Env.addFn (Ev79 N) 37 (fun R => fnK [(.int .i64), (.int .i64)] [(.int .i64), (.sl (.int .i64)), (.int .i64)] (fun c => fsm_Next N c.1 c.2.1))
theorem Ev80_ok (R : Type) : EnvOK Try.prog (Ev80 N R) := EnvOK.addFn hmx (Ev79_ok N R) (Ev79_ok N _) (by kernel_rfl) (fun c => fsm_Next_S N c.1 c.2.1)
noncomputable def fsm_Timed (s0 : Int) : Option Bool :=
 Option.bind (fsm_Next N s0 (4 : Int)) fun v2 =>
 some ((decide (v2.2.2 = (0 : Int))))
theorem fsm_Timed_S (s0 : Int) : (runK Try.prog (Ev80 N) 400 46 [(.int .i64)] [.bool] (s0, ())).run = fsm_Timed N s0 := by kernel_rfl
noncomputable def Ev81 : (R : Type) → Env R := Env.addFn (Ev80 N) 46 (fun R => fnK [(.int .i64)] [.bool] (fun c => fsm_Timed N c.1))
theorem Ev81_ok (R : Type) : EnvOK Try.prog (Ev81 N R) := EnvOK.addFn hmx (Ev80_ok N R) (Ev80_ok N _) (by kernel_rfl) (fun c => fsm_Timed_S N c.1)
noncomputable def retry_Retry_Init (N : Nat) (r0 : Int × Int) (x1 : Bool) : Option (Int × Int) :=
 bif x1 then
  some (((2 : Int), r0.2))
 else
  some (((10 : Int), r0.2))
theorem retry_Retry_Init_S (r0 : Int × Int) (x1 : Bool) : (runK Try.prog (Ev81 N) 400 38 [(.pair (.int .i64) (.int .i64)), .bool] [(.pair (.int .i64) (.int .i64))] (r0, x1, ())).run = retry_Retry_Init N r0 x1 := by kernel_rfl
noncomputable def Ev82 : (R : Type) → Env R := Env.addFn (Ev81 N) 38 (fun R => fnK [(.pair (.int .i64) (.int .i64)), .bool] [(.pair (.int .i64) (.int .i64))] (fun c => retry_Retry_Init N c.1 c.2.1))
theorem Ev82_ok (R : Type) : EnvOK Try.prog (Ev82 N R) := EnvOK.addFn hmx (Ev81_ok N R) (Ev81_ok N _) (by kernel_rfl) (fun c => retry_Retry_Init_S N c.1 c.2.1)
noncomputable def Ev83 : (R : Type) → Env R := Env.addBx (Ev82 N) [(40, 0)]
theorem Ev83_ok (R : Type) : EnvOK Try.prog (Ev83 N R) := EnvOK.addBx (Ev82_ok N R) [(40, 0)]
noncomputable def retry_Retry_Zero (N : Nat) (r0 : Int × Int) : Option (Int × Int) :=
 some (((0 : Int), (3 : Int)))
theorem retry_Retry_Zero_S (r0 : Int × Int) : (runK Try.prog (Ev83 N) 400 40 [(.pair (.int .i64) (.int .i64))] [(.pair (.int .i64) (.int .i64))] (r0, ())).run = retry_Retry_Zero N r0 := by kernel_rfl
noncomputable def Ev84 : (R : Type) → Env R := Env.addFn (Ev83 N) 40 (fun R => fnK [(.pair (.int .i64) (.int .i64))] [(.pair (.int .i64) (.int .i64))] (fun c => retry_Retry_Zero N c.1))
theorem Ev84_ok (R : Type) : EnvOK Try.prog (Ev84 N R) := EnvOK.addFn hmx (Ev83_ok N R) (Ev83_ok N _) (by kernel_rfl) (fun c => retry_Retry_Zero_S N c.1)
noncomputable def Ev85 : (R : Type) → Env R := Env.addBx (Ev84 N) [(42, 0)]
theorem Ev85_ok (R : Type) : EnvOK Try.prog (Ev85 N R) := EnvOK.addBx (Ev84_ok N R) [(42, 0)]
noncomputable def Ev86 : (R : Type) → Env R := Env.addBx (Ev85 N) [(24, 0)]
theorem Ev86_ok (R : Type) : EnvOK Try.prog (Ev86 N R) := EnvOK.addBx (Ev85_ok N R) [(24, 0)]
noncomputable def retry_Retry_More (N : Nat) (r0 : Int × Int) : Option Bool :=
 some ((decide ((0 : Int) < r0.1)))
theorem retry_Retry_More_S (r0 : Int × Int) : (runK Try.prog (Ev86 N) 400 24 [(.pair (.int .i64) (.int .i64))] [.bool] (r0, ())).run = retry_Retry_More N r0 := by kernel_rfl
noncomputable def Ev87 : (R : Type) → Env R := Env.addFn (Ev86 N) 24 (fun R => fnK [(.pair (.int .i64) (.int .i64))] [.bool] (fun c => retry_Retry_More N c.1))
theorem Ev87_ok (R : Type) : EnvOK Try.prog (Ev87 N R) := EnvOK.addFn hmx (Ev86_ok N R) (Ev86_ok N _) (by kernel_rfl) (fun c => retry_Retry_More_S N c.1)
noncomputable def retry_Retry_Sent (N : Nat) (r0 : Int × Int) : Option (Int × Int) :=
 bif (decide ((0 : Int) < r0.1)) then
  some (((IntKind.wrap .i64 (r0.1 - 1)), (3 : Int)))
 else
  some (((0 : Int), (3 : Int)))
theorem retry_Retry_Sent_S (r0 : Int × Int) : (runK Try.prog (Ev87 N) 400 42 [(.pair (.int .i64) (.int .i64))] [(.pair (.int .i64) (.int .i64))] (r0, ())).run = retry_Retry_Sent N r0 := by kernel_rfl
noncomputable def Ev88 : (R : Type) → Env R := Env.addFn (Ev87 N) 42 (fun R => fnK [(.pair (.int .i64) (.int .i64))] [(.pair (.int .i64) (.int .i64))] (fun c => retry_Retry_Sent N c.1))
theorem Ev88_ok (R : Type) : EnvOK Try.prog (Ev88 N R) := EnvOK.addFn hmx (Ev87_ok N R) (Ev87_ok N _) (by kernel_rfl) (fun c => retry_Retry_Sent_S N c.1)
noncomputable def Ev89 : (R : Type) → Env R := Env.addBx (Ev88 N) [(48, 0)]
theorem Ev89_ok (R : Type) : EnvOK Try.prog (Ev89 N R) := EnvOK.addBx (Ev88_ok N R) [(48, 0)]
noncomputable def retry_Retry_On (N : Nat) (r0 : Int × Int) : Option Bool :=
 some ((decide ((0 : Int) < r0.2)))
theorem retry_Retry_On_S (r0 : Int × Int) : (runK Try.prog (Ev89 N) 400 48 [(.pair (.int .i64) (.int .i64))] [.bool] (r0, ())).run = retry_Retry_On N r0 := by kernel_rfl
noncomputable def Ev90 : (R : Type) → Env R := Env.addFn (Ev89 N) 48 (fun R => fnK [(.pair (.int .i64) (.int .i64))] [.bool] (fun c => retry_Retry_On N c.1))
theorem Ev90_ok (R : Type) : EnvOK Try.prog (Ev90 N R) := EnvOK.addFn hmx (Ev89_ok N R) (Ev89_ok N _) (by kernel_rfl) (fun c => retry_Retry_On_S N c.1)
noncomputable def retry_Retry_Tick (N : Nat) (r0 : Int × Int) : Option ((Int × Int) × Bool) :=
 bif (!(decide ((0 : Int) < r0.2))) then
  some (((r0.1, r0.2), false))
 else
  some (((r0.1, (IntKind.wrap .i64 (r0.2 - 1))), (!(decide ((0 : Int) < (IntKind.wrap .i64 (r0.2 - 1)))))))
theorem retry_Retry_Tick_S (r0 : Int × Int) : (runK Try.prog (Ev90 N) 400 23 [(.pair (.int .i64) (.int .i64))] [(.pair (.int .i64) (.int .i64)), .bool] (r0, ())).run = retry_Retry_Tick N r0 := by kernel_rfl
noncomputable def Ev91 : (R : Type) → Env R := Env.addFn (Ev90 N) 23 (fun R => fnK [(.pair (.int .i64) (.int .i64))] [(.pair (.int .i64) (.int .i64)), .bool] (fun c => retry_Retry_Tick N c.1))
theorem Ev91_ok (R : Type) : EnvOK Try.prog (Ev91 N R) := EnvOK.addFn hmx (Ev90_ok N R) (Ev90_ok N _) (by kernel_rfl) (fun c => retry_Retry_Tick_S N c.1)
noncomputable def retry_Retry_Stop (N : Nat) (r0 : Int × Int) : Option (Int × Int) :=
 some ((r0.1, (0 : Int)))
theorem retry_Retry_Stop_S (r0 : Int × Int) : (runK Try.prog (Ev91 N) 400 47 [(.pair (.int .i64) (.int .i64))] [(.pair (.int .i64) (.int .i64))] (r0, ())).run = retry_Retry_Stop N r0 := by kernel_rfl
noncomputable def Ev92 : (R : Type) → Env R := Env.addFn (Ev91 N) 47 (fun R => fnK [(.pair (.int .i64) (.int .i64))] [(.pair (.int .i64) (.int .i64))] (fun c => retry_Retry_Stop N c.1))
theorem Ev92_ok (R : Type) : EnvOK Try.prog (Ev92 N R) := EnvOK.addFn hmx (Ev91_ok N R) (Ev91_ok N _) (by kernel_rfl) (fun c => retry_Retry_Stop_S N c.1)
noncomputable def nego_Fresh (N : Nat) (n0 : Int) : Option Int :=
 some ((@maxI (1 : Int) (IntKind.wrap .u32 ((IntKind.wrap .u32 ((2654435761 : Int) * n0)) + 1))))
theorem nego_Fresh_S (n0 : Int) : (runK Try.prog (Ev92 N) 400 21 [(.int .u32)] [(.int .u32)] (n0, ())).run = nego_Fresh N n0 := by kernel_rfl
noncomputable def Ev93 : (R : Type) → Env R := Env.addFn (Ev92 N) 21 (fun R => fnK [(.int .u32)] [(.int .u32)] (fun c => nego_Fresh N c.1))
theorem Ev93_ok (R : Type) : EnvOK Try.prog (Ev93 N R) := EnvOK.addFn hmx (Ev92_ok N R) (Ev92_ok N _) (by kernel_rfl) (fun c => nego_Fresh_S N c.1)
noncomputable def Ev94 : (R : Type) → Env R := Env.addInl (Ev93 N) [95, 72, 31, 73, 81, 94, 98, 99, 43]
theorem Ev94_ok (R : Type) : EnvOK Try.prog (Ev94 N R) := EnvOK.addInl (Ev93_ok N R) (by kernel_rfl)
noncomputable def Ev95 : (R : Type) → Env R := Env.addMv (Ev94 N) [(51, 6)]
theorem Ev95_ok (R : Type) : EnvOK Try.prog (Ev95 N R) := EnvOK.addMv (Ev94_ok N R) [(51, 6)]
noncomputable def slices_Index_byte_byte_L2_I : LI := ⟨19, 0, [], ⟨[(0, .ty (.sl (.int .u8))), (1, .ty (.int .u8)), (7, .ty (.int .i64)), (8, .ty (.int .i64))], []⟩, [(.ret, ⟨[(4, .ty (.int .i64))], []⟩), (.exit 0, ⟨[], []⟩)]⟩
noncomputable def slices_Index_byte_byte_L2 (N : Nat) (X : (((List Int) × (Int × (Int × (Int × Unit)))) × Unit) → Option ((((Int × Unit) × Unit) ⊕ (Unit × Unit)))) (s0 : List (Int)) (v1 : Int) (x7 : Int) (x8 : Int) : Option ((((Int × Unit) × Unit) ⊕ (Unit × Unit))) :=
 bif (decide (x8 < x7)) then
  Option.bind (getI s0 x8) fun (v6 : Int) =>
  bif (decide (v1 = v6)) then
   some ((.inl ((x8, ()), ())))
  else
   (X ((s0, (v1, (x7, ((IntKind.wrap .i64 (x8 + 1)), ())))), ()))
 else
  some ((.inr ((), ())))
noncomputable def slices_Index_byte_byte_L2_R (c : (((List Int) × (Int × (Int × (Int × Unit)))) × Unit)) : Option ((((Int × Unit) × Unit) ⊕ (Unit × Unit))) := gl (fun X c => slices_Index_byte_byte_L2 N X c.1.1 c.1.2.1 c.1.2.2.1 c.1.2.2.2.1) N c
theorem slices_Index_byte_byte_L2_S (X : (((List Int) × (Int × (Int × (Int × Unit)))) × Unit) → Option ((((Int × Unit) × Unit) ⊕ (Unit × Unit)))) (s0 : List (Int)) (v1 : Int) (x7 : Int) (x8 : Int) : (roundK Try.prog (Ev95 N) 400 [90] slices_Index_byte_byte_L2_I (loopAt Try.prog [90] 2) X ((s0, v1, x7, x8, ()), ())).run = slices_Index_byte_byte_L2 N X s0 v1 x7 x8 := by kernel_rfl
noncomputable def Ev96 : (R : Type) → Env R := Env.addLp (Ev95 N) [90] 0 2 (fun R => lpK Try.prog slices_Index_byte_byte_L2_I (fun X c => slices_Index_byte_byte_L2 N X c.1.1 c.1.2.1 c.1.2.2.1 c.1.2.2.2.1) N)
theorem Ev96_ok (R : Type) : EnvOK Try.prog (Ev96 N R) := EnvOK.addLp (Ev95_ok N R) (by kernel_rfl) (lpK_ok (li := slices_Index_byte_byte_L2_I) (G := fun X c => slices_Index_byte_byte_L2 N X c.1.1 c.1.2.1 c.1.2.2.1 c.1.2.2.2.1) hmx (Ev95_ok N _) (by kernel_rfl) loopAt_sub (fun (X : CT slices_Index_byte_byte_L2_I.sh → Option (OT slices_Index_byte_byte_L2_I.outs)) (c : CT slices_Index_byte_byte_L2_I.sh) => slices_Index_byte_byte_L2_S N X c.1.1 c.1.2.1 c.1.2.2.1 c.1.2.2.2.1) N)
noncomputable def slices_Index_byte_byte (s0 : List (Int)) (v1 : Int) : Option Int :=
 Option.bind (slices_Index_byte_byte_L2_R N ((s0, (v1, ((((List.length s0) : Nat) : Int), ((0 : Int), ())))), ())) fun v3 =>
 Sum.elim
  (fun (v4 : ((Int × Unit) × Unit)) =>
  some (v4.1.1))
  (fun (v4 : (Unit × Unit)) =>
  some ((-1 : Int))) v3
theorem slices_Index_byte_byte_S (s0 : List (Int)) (v1 : Int) : (runK Try.prog (Ev96 N) 400 90 [(.sl (.int .u8)), (.int .u8)] [(.int .i64)] (s0, v1, ())).run = slices_Index_byte_byte N s0 v1 := by kernel_rfl
noncomputable def Ev97 : (R : Type) → Env R := Env.addFn (Ev96 N) 90 (fun R => fnK [(.sl (.int .u8)), (.int .u8)] [(.int .i64)] (fun c => slices_Index_byte_byte N c.1 c.2.1))
theorem Ev97_ok (R : Type) : EnvOK Try.prog (Ev97 N R) := EnvOK.addFn hmx (Ev96_ok N R) (Ev96_ok N _) (by kernel_rfl) (fun c => slices_Index_byte_byte_S N c.1 c.2.1)
noncomputable def slices_Contains_byte_byte (s0 : List (Int)) (v1 : Int) : Option Bool :=
 Option.bind (slices_Index_byte_byte N s0 v1) fun v3 =>
 some ((decide ((0 : Int) ≤ v3)))
theorem slices_Contains_byte_byte_S (s0 : List (Int)) (v1 : Int) : (runK Try.prog (Ev97 N) 400 70 [(.sl (.int .u8)), (.int .u8)] [.bool] (s0, v1, ())).run = slices_Contains_byte_byte N s0 v1 := by kernel_rfl
noncomputable def Ev98 : (R : Type) → Env R := Env.addFn (Ev97 N) 70 (fun R => fnK [(.sl (.int .u8)), (.int .u8)] [.bool] (fun c => slices_Contains_byte_byte N c.1 c.2.1))
theorem Ev98_ok (R : Type) : EnvOK Try.prog (Ev98 N R) := EnvOK.addFn hmx (Ev97_ok N R) (Ev97_ok N _) (by kernel_rfl) (fun c => slices_Contains_byte_byte_S N c.1 c.2.1)
noncomputable def nego_of_L3_I : LI := ⟨24, 0, [(5, 87)], ⟨[(1, .ty (.sl (.int .u8))), (5, .lit (.own 0)), (8, .ty (.sl (.pair (.int .u8) (.sl (.int .u8))))), (9, .ty (.int .i64)), (10, .ty (.int .i64))], [.own (.pair (.int .u8) (.sl (.int .u8))) 87]⟩, [(.exit 0, ⟨[(5, .lit (.own 0))], [.own (.pair (.int .u8) (.sl (.int .u8))) 87]⟩)]⟩
noncomputable def nego_of_L3 (X : (((List Int) × ((List (Int × (List Int))) × (Int × (Int × Unit)))) × ((List (Int × (List Int))) × Unit)) → Option ((Unit × ((List (Int × (List Int))) × Unit)))) (kinds1 : List (Int)) (x8 : List (Int × (List Int))) (x9 : Int) (x10 : Int) (h0 : List (Int × (List Int))) : Option ((Unit × ((List (Int × (List Int))) × Unit))) :=
 bif (decide (x10 < x9)) then
  Option.bind (getI x8 x10) fun (v7 : (Int × (List Int))) =>
  Option.bind (slices_Contains_byte_byte N kinds1 v7.1) fun v8 =>
  bif v8 then
   bif (roomB ((List.length h0) + (List.length ([(v7.1, v7.2)] : List ((Int × (List Int)))))) 32) then
    (X ((kinds1, (x8, (x9, ((IntKind.wrap .i64 (x10 + 1)), ())))), ((h0 ++ ([(v7.1, v7.2)] : List ((Int × (List Int))))), ())))
   else
    none
  else
   (X ((kinds1, (x8, (x9, ((IntKind.wrap .i64 (x10 + 1)), ())))), (h0, ())))
 else
  some (((), (h0, ())))
noncomputable def nego_of_L3_R (c : (((List Int) × ((List (Int × (List Int))) × (Int × (Int × Unit)))) × ((List (Int × (List Int))) × Unit))) : Option ((Unit × ((List (Int × (List Int))) × Unit))) := gl (fun X c => nego_of_L3 N X c.1.1 c.1.2.1 c.1.2.2.1 c.1.2.2.2.1 c.2.1) N c
theorem nego_of_L3_S (X : (((List Int) × ((List (Int × (List Int))) × (Int × (Int × Unit)))) × ((List (Int × (List Int))) × Unit)) → Option ((Unit × ((List (Int × (List Int))) × Unit)))) (kinds1 : List (Int)) (x8 : List (Int × (List Int))) (x9 : Int) (x10 : Int) (h0 : List (Int × (List Int))) : (roundK Try.prog (Ev98 N) 400 [51] nego_of_L3_I (loopAt Try.prog [51] 3) X ((kinds1, x8, x9, x10, ()), (h0, ()))).run = nego_of_L3 N X kinds1 x8 x9 x10 h0 := by kernel_rfl
noncomputable def Ev99 : (R : Type) → Env R := Env.addLp (Ev98 N) [51] 0 3 (fun R => lpK Try.prog nego_of_L3_I (fun X c => nego_of_L3 N X c.1.1 c.1.2.1 c.1.2.2.1 c.1.2.2.2.1 c.2.1) N)
theorem Ev99_ok (R : Type) : EnvOK Try.prog (Ev99 N R) := EnvOK.addLp (Ev98_ok N R) (by kernel_rfl) (lpK_ok (li := nego_of_L3_I) (G := fun X c => nego_of_L3 N X c.1.1 c.1.2.1 c.1.2.2.1 c.1.2.2.2.1 c.2.1) hmx (Ev98_ok N _) (by kernel_rfl) loopAt_sub (fun (X : CT nego_of_L3_I.sh → Option (OT nego_of_L3_I.outs)) (c : CT nego_of_L3_I.sh) => nego_of_L3_S N X c.1.1 c.1.2.1 c.1.2.2.1 c.1.2.2.2.1 c.2.1) N)
noncomputable def nego_of (l0 : List (Int × (List Int))) (kinds1 : List (Int)) : Option (List (Int × (List Int))) :=
 Option.bind (nego_of_L3_R N ((kinds1, (l0, ((((List.length l0) : Nat) : Int), ((0 : Int), ())))), (([] : List ((Int × (List Int)))), ()))) fun v3 =>
 some (v3.2.1)
theorem nego_of_S (l0 : List (Int × (List Int))) (kinds1 : List (Int)) : (runK Try.prog (Ev99 N) 400 51 [(.sl (.pair (.int .u8) (.sl (.int .u8)))), (.sl (.int .u8))] [(.sl (.pair (.int .u8) (.sl (.int .u8))))] (l0, kinds1, ())).run = nego_of N l0 kinds1 := by kernel_rfl
noncomputable def Ev100 : (R : Type) → Env R := Env.addFn (Ev99 N) 51 (fun R => fnK [(.sl (.pair (.int .u8) (.sl (.int .u8)))), (.sl (.int .u8))] [(.sl (.pair (.int .u8) (.sl (.int .u8))))] (fun c => nego_of N c.1 c.2.1))
theorem Ev100_ok (R : Type) : EnvOK Try.prog (Ev100 N R) := EnvOK.addFn hmx (Ev99_ok N R) (Ev99_ok N _) (by kernel_rfl) (fun c => nego_of_S N c.1 c.2.1)
noncomputable def Ev101 : (R : Type) → Env R := Env.addBx (Ev100 N) [(41, 0)]
theorem Ev101_ok (R : Type) : EnvOK Try.prog (Ev101 N R) := EnvOK.addBx (Ev100_ok N R) [(41, 0)]
noncomputable def nego_Nego_asks (n0 : (Bool × ((Int × (Int × (Bool))) × (Bool × (Bool × (Int × (Int × (Int × (Bool)))))))) × (Int × ((Int × Int) × (Int × ((List (Int × (List Int))) × ((List (Int × (List Int))) × Int)))))) : Option (List (Int × (List Int))) :=
 bif n0.1.1 then
  Option.bind (ipcpo_Options N (n0.1.2.2.2.1, (n0.1.2.2.2.2.1, (n0.1.2.2.2.2.2.1, (n0.1.2.2.2.2.2.2.1, n0.1.2.2.2.2.2.2.2))))) fun v2 =>
  some (v2)
 else
  Option.bind (lcpo_Options N (n0.1.2.1.1, (n0.1.2.1.2.1, n0.1.2.1.2.2))) fun v2 =>
  some (v2)
theorem nego_Nego_asks_S (n0 : (Bool × ((Int × (Int × (Bool))) × (Bool × (Bool × (Int × (Int × (Int × (Bool)))))))) × (Int × ((Int × Int) × (Int × ((List (Int × (List Int))) × ((List (Int × (List Int))) × Int)))))) : (runK Try.prog (Ev101 N) 400 41 [(.pair (.pair .bool (.pair (.pair (.int .u16) (.pair (.int .u32) .bool)) (.pair .bool (.pair .bool (.pair (.int .u32) (.pair (.int .u32) (.pair (.int .u32) .bool))))))) (.pair (.int .i64) (.pair (.pair (.int .i64) (.int .i64)) (.pair (.int .u8) (.pair (.sl (.pair (.int .u8) (.sl (.int .u8)))) (.pair (.sl (.pair (.int .u8) (.sl (.int .u8)))) (.int .i64)))))))] [(.sl (.pair (.int .u8) (.sl (.int .u8))))] (n0, ())).run = nego_Nego_asks N n0 := by kernel_rfl
noncomputable def Ev102 : (R : Type) → Env R := Env.addFn (Ev101 N) 41 (fun R => fnK [(.pair (.pair .bool (.pair (.pair (.int .u16) (.pair (.int .u32) .bool)) (.pair .bool (.pair .bool (.pair (.int .u32) (.pair (.int .u32) (.pair (.int .u32) .bool))))))) (.pair (.int .i64) (.pair (.pair (.int .i64) (.int .i64)) (.pair (.int .u8) (.pair (.sl (.pair (.int .u8) (.sl (.int .u8)))) (.pair (.sl (.pair (.int .u8) (.sl (.int .u8)))) (.int .i64)))))))] [(.sl (.pair (.int .u8) (.sl (.int .u8))))] (fun c => nego_Nego_asks N c.1))
theorem Ev102_ok (R : Type) : EnvOK Try.prog (Ev102 N R) := EnvOK.addFn hmx (Ev101_ok N R) (Ev101_ok N _) (by kernel_rfl) (fun c => nego_Nego_asks_S N c.1)
noncomputable def Ev103 : (R : Type) → Env R := Env.addBx (Ev102 N) [(44, 0)]
theorem Ev103_ok (R : Type) : EnvOK Try.prog (Ev103 N R) := EnvOK.addBx (Ev102_ok N R) [(44, 0)]
noncomputable def nego_Nego_opens (n0 : (Bool × ((Int × (Int × (Bool))) × (Bool × (Bool × (Int × (Int × (Int × (Bool)))))))) × (Int × ((Int × Int) × (Int × ((List (Int × (List Int))) × ((List (Int × (List Int))) × Int)))))) (a1 : Int) : Option (Int × (Int × (List Int))) :=
 bif (decide (a1 = (10 : Int))) then
  some (((5 : Int), (n0.2.2.2.1, ([] : List Int))))
 else
  Option.bind (ctl_Conf N (1 : Int) n0.2.2.2.1 n0.2.2.2.2.1) fun v3 =>
  some ((v3.1.1, (v3.1.2.1, v3.1.2.2)))
theorem nego_Nego_opens_S (n0 : (Bool × ((Int × (Int × (Bool))) × (Bool × (Bool × (Int × (Int × (Int × (Bool)))))))) × (Int × ((Int × Int) × (Int × ((List (Int × (List Int))) × ((List (Int × (List Int))) × Int)))))) (a1 : Int) : (runK Try.prog (Ev103 N) 400 44 [(.pair (.pair .bool (.pair (.pair (.int .u16) (.pair (.int .u32) .bool)) (.pair .bool (.pair .bool (.pair (.int .u32) (.pair (.int .u32) (.pair (.int .u32) .bool))))))) (.pair (.int .i64) (.pair (.pair (.int .i64) (.int .i64)) (.pair (.int .u8) (.pair (.sl (.pair (.int .u8) (.sl (.int .u8)))) (.pair (.sl (.pair (.int .u8) (.sl (.int .u8)))) (.int .i64))))))), (.int .i64)] [(.pair (.int .u8) (.pair (.int .u8) (.sl (.int .u8))))] (n0, a1, ())).run = nego_Nego_opens N n0 a1 := by kernel_rfl
noncomputable def Ev104 : (R : Type) → Env R := Env.addFn (Ev103 N) 44 (fun R => fnK [(.pair (.pair .bool (.pair (.pair (.int .u16) (.pair (.int .u32) .bool)) (.pair .bool (.pair .bool (.pair (.int .u32) (.pair (.int .u32) (.pair (.int .u32) .bool))))))) (.pair (.int .i64) (.pair (.pair (.int .i64) (.int .i64)) (.pair (.int .u8) (.pair (.sl (.pair (.int .u8) (.sl (.int .u8)))) (.pair (.sl (.pair (.int .u8) (.sl (.int .u8)))) (.int .i64))))))), (.int .i64)] [(.pair (.int .u8) (.pair (.int .u8) (.sl (.int .u8))))] (fun c => nego_Nego_opens N c.1 c.2.1))
theorem Ev104_ok (R : Type) : EnvOK Try.prog (Ev104 N R) := EnvOK.addFn hmx (Ev103_ok N R) (Ev103_ok N _) (by kernel_rfl) (fun c => nego_Nego_opens_S N c.1 c.2.1)
noncomputable def slices_Index_fsm_Action_fsm_Action_L2_I : LI := ⟨19, 0, [], ⟨[(0, .ty (.sl (.int .i64))), (1, .ty (.int .i64)), (7, .ty (.int .i64)), (8, .ty (.int .i64))], []⟩, [(.ret, ⟨[(4, .ty (.int .i64))], []⟩), (.exit 0, ⟨[], []⟩)]⟩
noncomputable def slices_Index_fsm_Action_fsm_Action_L2 (N : Nat) (X : (((List Int) × (Int × (Int × (Int × Unit)))) × Unit) → Option ((((Int × Unit) × Unit) ⊕ (Unit × Unit)))) (s0 : List (Int)) (v1 : Int) (x7 : Int) (x8 : Int) : Option ((((Int × Unit) × Unit) ⊕ (Unit × Unit))) :=
 bif (decide (x8 < x7)) then
  Option.bind (getI s0 x8) fun (v6 : Int) =>
  bif (decide (v1 = v6)) then
   some ((.inl ((x8, ()), ())))
  else
   (X ((s0, (v1, (x7, ((IntKind.wrap .i64 (x8 + 1)), ())))), ()))
 else
  some ((.inr ((), ())))
noncomputable def slices_Index_fsm_Action_fsm_Action_L2_R (c : (((List Int) × (Int × (Int × (Int × Unit)))) × Unit)) : Option ((((Int × Unit) × Unit) ⊕ (Unit × Unit))) := gl (fun X c => slices_Index_fsm_Action_fsm_Action_L2 N X c.1.1 c.1.2.1 c.1.2.2.1 c.1.2.2.2.1) N c
theorem slices_Index_fsm_Action_fsm_Action_L2_S (X : (((List Int) × (Int × (Int × (Int × Unit)))) × Unit) → Option ((((Int × Unit) × Unit) ⊕ (Unit × Unit)))) (s0 : List (Int)) (v1 : Int) (x7 : Int) (x8 : Int) : (roundK Try.prog (Ev104 N) 400 [63] slices_Index_fsm_Action_fsm_Action_L2_I (loopAt Try.prog [63] 2) X ((s0, v1, x7, x8, ()), ())).run = slices_Index_fsm_Action_fsm_Action_L2 N X s0 v1 x7 x8 := by kernel_rfl
noncomputable def Ev105 : (R : Type) → Env R := Env.addLp (Ev104 N) [63] 0 2 (fun R => lpK Try.prog slices_Index_fsm_Action_fsm_Action_L2_I (fun X c => slices_Index_fsm_Action_fsm_Action_L2 N X c.1.1 c.1.2.1 c.1.2.2.1 c.1.2.2.2.1) N)
theorem Ev105_ok (R : Type) : EnvOK Try.prog (Ev105 N R) := EnvOK.addLp (Ev104_ok N R) (by kernel_rfl) (lpK_ok (li := slices_Index_fsm_Action_fsm_Action_L2_I) (G := fun X c => slices_Index_fsm_Action_fsm_Action_L2 N X c.1.1 c.1.2.1 c.1.2.2.1 c.1.2.2.2.1) hmx (Ev104_ok N _) (by kernel_rfl) loopAt_sub (fun (X : CT slices_Index_fsm_Action_fsm_Action_L2_I.sh → Option (OT slices_Index_fsm_Action_fsm_Action_L2_I.outs)) (c : CT slices_Index_fsm_Action_fsm_Action_L2_I.sh) => slices_Index_fsm_Action_fsm_Action_L2_S N X c.1.1 c.1.2.1 c.1.2.2.1 c.1.2.2.2.1) N)
noncomputable def slices_Index_fsm_Action_fsm_Action (s0 : List (Int)) (v1 : Int) : Option Int :=
 Option.bind (slices_Index_fsm_Action_fsm_Action_L2_R N ((s0, (v1, ((((List.length s0) : Nat) : Int), ((0 : Int), ())))), ())) fun v3 =>
 Sum.elim
  (fun (v4 : ((Int × Unit) × Unit)) =>
  some (v4.1.1))
  (fun (v4 : (Unit × Unit)) =>
  some ((-1 : Int))) v3
theorem slices_Index_fsm_Action_fsm_Action_S (s0 : List (Int)) (v1 : Int) : (runK Try.prog (Ev105 N) 400 63 [(.sl (.int .i64)), (.int .i64)] [(.int .i64)] (s0, v1, ())).run = slices_Index_fsm_Action_fsm_Action N s0 v1 := by kernel_rfl
noncomputable def Ev106 : (R : Type) → Env R := Env.addFn (Ev105 N) 63 (fun R => fnK [(.sl (.int .i64)), (.int .i64)] [(.int .i64)] (fun c => slices_Index_fsm_Action_fsm_Action N c.1 c.2.1))
theorem Ev106_ok (R : Type) : EnvOK Try.prog (Ev106 N R) := EnvOK.addFn hmx (Ev105_ok N R) (Ev105_ok N _) (by kernel_rfl) (fun c => slices_Index_fsm_Action_fsm_Action_S N c.1 c.2.1)
noncomputable def slices_Contains_fsm_Action_fsm_Action (s0 : List (Int)) (v1 : Int) : Option Bool :=
 Option.bind (slices_Index_fsm_Action_fsm_Action N s0 v1) fun v3 =>
 some ((decide ((0 : Int) ≤ v3)))
theorem slices_Contains_fsm_Action_fsm_Action_S (s0 : List (Int)) (v1 : Int) : (runK Try.prog (Ev106 N) 400 39 [(.sl (.int .i64)), (.int .i64)] [.bool] (s0, v1, ())).run = slices_Contains_fsm_Action_fsm_Action N s0 v1 := by kernel_rfl
noncomputable def Ev107 : (R : Type) → Env R := Env.addFn (Ev106 N) 39 (fun R => fnK [(.sl (.int .i64)), (.int .i64)] [.bool] (fun c => slices_Contains_fsm_Action_fsm_Action N c.1 c.2.1))
theorem Ev107_ok (R : Type) : EnvOK Try.prog (Ev107 N R) := EnvOK.addFn hmx (Ev106_ok N R) (Ev106_ok N _) (by kernel_rfl) (fun c => slices_Contains_fsm_Action_fsm_Action_S N c.1 c.2.1)
noncomputable def nego_Nego_done_L7_I : LI := ⟨114, 0, [], ⟨[(4, .lit (.box 0 0)), (6, .lit (.box 1 0)), (7, .lit (.box 2 0)), (8, .lit (.box 3 0)), (9, .lit (.box 4 0)), (10, .ty (.int .i64)), (11, .ty (.sl (.int .i64))), (13, .lit (.box 5 0)), (30, .ty (.sl (.int .i64))), (31, .ty (.int .i64)), (32, .ty (.int .i64))], [.box 42 (.pair (.pair .bool (.pair (.pair (.int .u16) (.pair (.int .u32) .bool)) (.pair .bool (.pair .bool (.pair (.int .u32) (.pair (.int .u32) (.pair (.int .u32) .bool))))))) (.pair (.int .i64) (.pair (.pair (.int .i64) (.int .i64)) (.pair (.int .u8) (.pair (.sl (.pair (.int .u8) (.sl (.int .u8)))) (.pair (.sl (.pair (.int .u8) (.sl (.int .u8)))) (.int .i64))))))), .box 60 (.pair (.int .u8) (.pair (.int .u8) (.sl (.int .u8)))), .box 60 (.pair (.int .u8) (.pair (.int .u8) (.sl (.int .u8)))), .box 42 (.pair (.pair .bool (.pair (.pair (.int .u16) (.pair (.int .u32) .bool)) (.pair .bool (.pair .bool (.pair (.int .u32) (.pair (.int .u32) (.pair (.int .u32) .bool))))))) (.pair (.int .i64) (.pair (.pair (.int .i64) (.int .i64)) (.pair (.int .u8) (.pair (.sl (.pair (.int .u8) (.sl (.int .u8)))) (.pair (.sl (.pair (.int .u8) (.sl (.int .u8)))) (.int .i64))))))), .boxp 54 [.own 6, .ty .bool, .ty .bool, .ty .bool, .ty .bool], .boxp 54 [.own 7, .ty .bool, .ty .bool, .ty .bool, .ty .bool], .own (.pair (.int .u8) (.pair (.int .u8) (.sl (.int .u8)))) 60, .own (.pair (.int .u8) (.pair (.int .u8) (.sl (.int .u8)))) 60]⟩, [(.exit 0, ⟨[(4, .lit (.box 0 0)), (8, .lit (.box 1 0)), (9, .lit (.box 2 0)), (10, .ty (.int .i64)), (13, .lit (.box 3 0))], [.box 42 (.pair (.pair .bool (.pair (.pair (.int .u16) (.pair (.int .u32) .bool)) (.pair .bool (.pair .bool (.pair (.int .u32) (.pair (.int .u32) (.pair (.int .u32) .bool))))))) (.pair (.int .i64) (.pair (.pair (.int .i64) (.int .i64)) (.pair (.int .u8) (.pair (.sl (.pair (.int .u8) (.sl (.int .u8)))) (.pair (.sl (.pair (.int .u8) (.sl (.int .u8)))) (.int .i64))))))), .box 42 (.pair (.pair .bool (.pair (.pair (.int .u16) (.pair (.int .u32) .bool)) (.pair .bool (.pair .bool (.pair (.int .u32) (.pair (.int .u32) (.pair (.int .u32) .bool))))))) (.pair (.int .i64) (.pair (.pair (.int .i64) (.int .i64)) (.pair (.int .u8) (.pair (.sl (.pair (.int .u8) (.sl (.int .u8)))) (.pair (.sl (.pair (.int .u8) (.sl (.int .u8)))) (.int .i64))))))), .boxp 54 [.own 4, .ty .bool, .ty .bool, .ty .bool, .ty .bool], .boxp 54 [.own 5, .ty .bool, .ty .bool, .ty .bool, .ty .bool], .own (.pair (.int .u8) (.pair (.int .u8) (.sl (.int .u8)))) 60, .own (.pair (.int .u8) (.pair (.int .u8) (.sl (.int .u8)))) 60]⟩)]⟩
noncomputable def nego_Nego_done_L7 (X : ((Int × ((List Int) × ((List Int) × (Int × (Int × Unit))))) × (((Bool × ((Int × (Int × (Bool))) × (Bool × (Bool × (Int × (Int × (Int × (Bool)))))))) × (Int × ((Int × Int) × (Int × ((List (Int × (List Int))) × ((List (Int × (List Int))) × Int)))))) × ((Int × (Int × (List Int))) × ((Int × (Int × (List Int))) × (((Bool × ((Int × (Int × (Bool))) × (Bool × (Bool × (Int × (Int × (Int × (Bool)))))))) × (Int × ((Int × Int) × (Int × ((List (Int × (List Int))) × ((List (Int × (List Int))) × Int)))))) × (Bool × (Bool × (Bool × (Bool × (Bool × (Bool × (Bool × (Bool × ((List (Int × (Int × (List Int)))) × ((List (Int × (Int × (List Int)))) × Unit))))))))))))))) → Option (((Int × Unit) × (((Bool × ((Int × (Int × (Bool))) × (Bool × (Bool × (Int × (Int × (Int × (Bool)))))))) × (Int × ((Int × Int) × (Int × ((List (Int × (List Int))) × ((List (Int × (List Int))) × Int)))))) × (((Bool × ((Int × (Int × (Bool))) × (Bool × (Bool × (Int × (Int × (Int × (Bool)))))))) × (Int × ((Int × Int) × (Int × ((List (Int × (List Int))) × ((List (Int × (List Int))) × Int)))))) × (Bool × (Bool × (Bool × (Bool × (Bool × (Bool × (Bool × (Bool × ((List (Int × (Int × (List Int)))) × ((List (Int × (Int × (List Int)))) × Unit))))))))))))))) (next10 : Int) (actions11 : List (Int)) (x30 : List (Int)) (x31 : Int) (x32 : Int) (h0 : (Bool × ((Int × (Int × (Bool))) × (Bool × (Bool × (Int × (Int × (Int × (Bool)))))))) × (Int × ((Int × Int) × (Int × ((List (Int × (List Int))) × ((List (Int × (List Int))) × Int)))))) (h1 : Int × (Int × (List Int))) (h2 : Int × (Int × (List Int))) (h3 : (Bool × ((Int × (Int × (Bool))) × (Bool × (Bool × (Int × (Int × (Int × (Bool)))))))) × (Int × ((Int × Int) × (Int × ((List (Int × (List Int))) × ((List (Int × (List Int))) × Int)))))) (h4 : Bool) (h5 : Bool) (h6 : Bool) (h7 : Bool) (h8 : Bool) (h9 : Bool) (h10 : Bool) (h11 : Bool) (h12 : List (Int × (Int × (List Int)))) (h13 : List (Int × (Int × (List Int)))) : Option (((Int × Unit) × (((Bool × ((Int × (Int × (Bool))) × (Bool × (Bool × (Int × (Int × (Int × (Bool)))))))) × (Int × ((Int × Int) × (Int × ((List (Int × (List Int))) × ((List (Int × (List Int))) × Int)))))) × (((Bool × ((Int × (Int × (Bool))) × (Bool × (Bool × (Int × (Int × (Int × (Bool)))))))) × (Int × ((Int × Int) × (Int × ((List (Int × (List Int))) × ((List (Int × (List Int))) × Int)))))) × (Bool × (Bool × (Bool × (Bool × (Bool × (Bool × (Bool × (Bool × ((List (Int × (Int × (List Int)))) × ((List (Int × (Int × (List Int)))) × Unit)))))))))))))) :=
 bif (decide (x32 < x31)) then
  Option.bind (getI x30 x32) fun (v21 : Int) =>
  bif (decide (v21 = (1 : Int))) then
   (X ((next10, (actions11, (x30, (x31, ((IntKind.wrap .i64 (x32 + 1)), ()))))), (((h0.1.1, ((h0.1.2.1.1, (h0.1.2.1.2.1, h0.1.2.1.2.2)), (h0.1.2.2.1, (h0.1.2.2.2.1, (h0.1.2.2.2.2.1, (h0.1.2.2.2.2.2.1, (h0.1.2.2.2.2.2.2.1, h0.1.2.2.2.2.2.2.2))))))), (h0.2.1, ((h0.2.2.1.1, h0.2.2.1.2), (h0.2.2.2.1, (h0.2.2.2.2.1, (h0.2.2.2.2.2.1, h0.2.2.2.2.2.2)))))), ((h1.1, (h1.2.1, h1.2.2)), ((h2.1, (h2.2.1, h2.2.2)), (((h3.1.1, ((h3.1.2.1.1, (h3.1.2.1.2.1, h3.1.2.1.2.2)), (h3.1.2.2.1, (h3.1.2.2.2.1, (h3.1.2.2.2.2.1, (h3.1.2.2.2.2.2.1, (h3.1.2.2.2.2.2.2.1, h3.1.2.2.2.2.2.2.2))))))), (h3.2.1, ((h3.2.2.1.1, h3.2.2.1.2), (h3.2.2.2.1, (h3.2.2.2.2.1, (h3.2.2.2.2.2.1, h3.2.2.2.2.2.2)))))), (h4, (h5, (h6, (h7, (true, (h9, (h10, (h11, (h12, (h13, ()))))))))))))))))
  else
   bif (decide (v21 = (2 : Int))) then
    (X ((next10, (actions11, (x30, (x31, ((IntKind.wrap .i64 (x32 + 1)), ()))))), (((h0.1.1, ((h0.1.2.1.1, (h0.1.2.1.2.1, h0.1.2.1.2.2)), (h0.1.2.2.1, (h0.1.2.2.2.1, (h0.1.2.2.2.2.1, (h0.1.2.2.2.2.2.1, (h0.1.2.2.2.2.2.2.1, h0.1.2.2.2.2.2.2.2))))))), (h0.2.1, ((h0.2.2.1.1, h0.2.2.1.2), (h0.2.2.2.1, (h0.2.2.2.2.1, (h0.2.2.2.2.2.1, h0.2.2.2.2.2.2)))))), ((h1.1, (h1.2.1, h1.2.2)), ((h2.1, (h2.2.1, h2.2.2)), (((h3.1.1, ((h3.1.2.1.1, (h3.1.2.1.2.1, h3.1.2.1.2.2)), (h3.1.2.2.1, (h3.1.2.2.2.1, (h3.1.2.2.2.2.1, (h3.1.2.2.2.2.2.1, (h3.1.2.2.2.2.2.2.1, h3.1.2.2.2.2.2.2.2))))))), (h3.2.1, ((h3.2.2.1.1, h3.2.2.1.2), (h3.2.2.2.1, (h3.2.2.2.2.1, (h3.2.2.2.2.2.1, h3.2.2.2.2.2.2)))))), (h4, (h5, (h6, (h7, (h8, (true, (h10, (h11, (h12, (h13, ()))))))))))))))))
   else
    bif (decide (v21 = (3 : Int))) then
     (X ((next10, (actions11, (x30, (x31, ((IntKind.wrap .i64 (x32 + 1)), ()))))), (((h0.1.1, ((h0.1.2.1.1, (h0.1.2.1.2.1, h0.1.2.1.2.2)), (h0.1.2.2.1, (h0.1.2.2.2.1, (h0.1.2.2.2.2.1, (h0.1.2.2.2.2.2.1, (h0.1.2.2.2.2.2.2.1, h0.1.2.2.2.2.2.2.2))))))), (h0.2.1, ((h0.2.2.1.1, h0.2.2.1.2), (h0.2.2.2.1, (h0.2.2.2.2.1, (h0.2.2.2.2.2.1, h0.2.2.2.2.2.2)))))), ((h1.1, (h1.2.1, h1.2.2)), ((h2.1, (h2.2.1, h2.2.2)), (((h3.1.1, ((h3.1.2.1.1, (h3.1.2.1.2.1, h3.1.2.1.2.2)), (h3.1.2.2.1, (h3.1.2.2.2.1, (h3.1.2.2.2.2.1, (h3.1.2.2.2.2.2.1, (h3.1.2.2.2.2.2.2.1, h3.1.2.2.2.2.2.2.2))))))), (h3.2.1, ((h3.2.2.1.1, h3.2.2.1.2), (h3.2.2.2.1, (h3.2.2.2.2.1, (h3.2.2.2.2.2.1, h3.2.2.2.2.2.2)))))), (h4, (h5, (h6, (h7, (h8, (h9, (true, (h11, (h12, (h13, ()))))))))))))))))
    else
     bif (decide (v21 = (4 : Int))) then
      (X ((next10, (actions11, (x30, (x31, ((IntKind.wrap .i64 (x32 + 1)), ()))))), (((h0.1.1, ((h0.1.2.1.1, (h0.1.2.1.2.1, h0.1.2.1.2.2)), (h0.1.2.2.1, (h0.1.2.2.2.1, (h0.1.2.2.2.2.1, (h0.1.2.2.2.2.2.1, (h0.1.2.2.2.2.2.2.1, h0.1.2.2.2.2.2.2.2))))))), (h0.2.1, ((h0.2.2.1.1, h0.2.2.1.2), (h0.2.2.2.1, (h0.2.2.2.2.1, (h0.2.2.2.2.2.1, h0.2.2.2.2.2.2)))))), ((h1.1, (h1.2.1, h1.2.2)), ((h2.1, (h2.2.1, h2.2.2)), (((h3.1.1, ((h3.1.2.1.1, (h3.1.2.1.2.1, h3.1.2.1.2.2)), (h3.1.2.2.1, (h3.1.2.2.2.1, (h3.1.2.2.2.2.1, (h3.1.2.2.2.2.2.1, (h3.1.2.2.2.2.2.2.1, h3.1.2.2.2.2.2.2.2))))))), (h3.2.1, ((h3.2.2.1.1, h3.2.2.1.2), (h3.2.2.2.1, (h3.2.2.2.2.1, (h3.2.2.2.2.2.1, h3.2.2.2.2.2.2)))))), (h4, (h5, (h6, (h7, (h8, (h9, (h10, (true, (h12, (h13, ()))))))))))))))))
     else
      bif (decide (v21 = (5 : Int))) then
       Option.bind (slices_Contains_fsm_Action_fsm_Action N actions11 (10 : Int)) fun v22 =>
       Option.bind (retry_Retry_Init N (h0.2.2.1.1, h0.2.2.1.2) v22) fun v23 =>
       (X ((next10, (actions11, (x30, (x31, ((IntKind.wrap .i64 (x32 + 1)), ()))))), (((h0.1.1, ((h0.1.2.1.1, (h0.1.2.1.2.1, h0.1.2.1.2.2)), (h0.1.2.2.1, (h0.1.2.2.2.1, (h0.1.2.2.2.2.1, (h0.1.2.2.2.2.2.1, (h0.1.2.2.2.2.2.2.1, h0.1.2.2.2.2.2.2.2))))))), (h0.2.1, ((v23.1, v23.2), (h0.2.2.2.1, (h0.2.2.2.2.1, (h0.2.2.2.2.2.1, h0.2.2.2.2.2.2)))))), ((h1.1, (h1.2.1, h1.2.2)), ((h2.1, (h2.2.1, h2.2.2)), (((h3.1.1, ((h3.1.2.1.1, (h3.1.2.1.2.1, h3.1.2.1.2.2)), (h3.1.2.2.1, (h3.1.2.2.2.1, (h3.1.2.2.2.2.1, (h3.1.2.2.2.2.2.1, (h3.1.2.2.2.2.2.2.1, h3.1.2.2.2.2.2.2.2))))))), (h3.2.1, ((h3.2.2.1.1, h3.2.2.1.2), (h3.2.2.2.1, (h3.2.2.2.2.1, (h3.2.2.2.2.2.1, h3.2.2.2.2.2.2)))))), (h4, (h5, (h6, (h7, (h8, (h9, (h10, (h11, (h12, (h13, ()))))))))))))))))
      else
       bif (decide (v21 = (6 : Int))) then
        (X ((next10, (actions11, (x30, (x31, ((IntKind.wrap .i64 (x32 + 1)), ()))))), (((h0.1.1, ((h0.1.2.1.1, (h0.1.2.1.2.1, h0.1.2.1.2.2)), (h0.1.2.2.1, (h0.1.2.2.2.1, (h0.1.2.2.2.2.1, (h0.1.2.2.2.2.2.1, (h0.1.2.2.2.2.2.2.1, h0.1.2.2.2.2.2.2.2))))))), (h0.2.1, (((0 : Int), (3 : Int)), (h0.2.2.2.1, (h0.2.2.2.2.1, (h0.2.2.2.2.2.1, h0.2.2.2.2.2.2)))))), ((h1.1, (h1.2.1, h1.2.2)), ((h2.1, (h2.2.1, h2.2.2)), (((h3.1.1, ((h3.1.2.1.1, (h3.1.2.1.2.1, h3.1.2.1.2.2)), (h3.1.2.2.1, (h3.1.2.2.2.1, (h3.1.2.2.2.2.1, (h3.1.2.2.2.2.2.1, (h3.1.2.2.2.2.2.2.1, h3.1.2.2.2.2.2.2.2))))))), (h3.2.1, ((h3.2.2.1.1, h3.2.2.1.2), (h3.2.2.2.1, (h3.2.2.2.2.1, (h3.2.2.2.2.2.1, h3.2.2.2.2.2.2)))))), (h4, (h5, (h6, (h7, (h8, (h9, (h10, (h11, (h12, (h13, ()))))))))))))))))
       else
        bif (decide (v21 = (7 : Int))) then
         Option.bind (nego_Nego_asks N ((h0.1.1, ((h0.1.2.1.1, (h0.1.2.1.2.1, h0.1.2.1.2.2)), (h0.1.2.2.1, (h0.1.2.2.2.1, (h0.1.2.2.2.2.1, (h0.1.2.2.2.2.2.1, (h0.1.2.2.2.2.2.2.1, h0.1.2.2.2.2.2.2.2))))))), (h0.2.1, ((h0.2.2.1.1, h0.2.2.1.2), (h0.2.2.2.1, (h0.2.2.2.2.1, (h0.2.2.2.2.2.1, h0.2.2.2.2.2.2))))))) fun v22 =>
         Option.bind (retry_Retry_Sent N (h0.2.2.1.1, h0.2.2.1.2)) fun v23 =>
         Option.bind (nego_Nego_opens N ((h0.1.1, ((h0.1.2.1.1, (h0.1.2.1.2.1, h0.1.2.1.2.2)), (h0.1.2.2.1, (h0.1.2.2.2.1, (h0.1.2.2.2.2.1, (h0.1.2.2.2.2.2.1, (h0.1.2.2.2.2.2.2.1, h0.1.2.2.2.2.2.2.2))))))), (h0.2.1, ((v23.1, v23.2), ((IntKind.wrap .u8 (h0.2.2.2.1 + 1)), (v22, (h0.2.2.2.2.2.1, h0.2.2.2.2.2.2)))))) v21) fun v24 =>
         Option.bind (ctl_Lay N (v24.1, (v24.2.1, v24.2.2))) fun v25 =>
         bif (decide (v25.2 = (0 : Int))) then
          bif (roomB ((List.length h13) + (List.length ([(v24.1, (v24.2.1, v24.2.2))] : List ((Int × (Int × (List Int))))))) 32) then
           (X ((next10, (actions11, (x30, (x31, ((IntKind.wrap .i64 (x32 + 1)), ()))))), (((h0.1.1, ((h0.1.2.1.1, (h0.1.2.1.2.1, h0.1.2.1.2.2)), (h0.1.2.2.1, (h0.1.2.2.2.1, (h0.1.2.2.2.2.1, (h0.1.2.2.2.2.2.1, (h0.1.2.2.2.2.2.2.1, h0.1.2.2.2.2.2.2.2))))))), (h0.2.1, ((v23.1, v23.2), ((IntKind.wrap .u8 (h0.2.2.2.1 + 1)), (v22, (h0.2.2.2.2.2.1, h0.2.2.2.2.2.2)))))), ((h1.1, (h1.2.1, h1.2.2)), ((h2.1, (h2.2.1, h2.2.2)), (((h3.1.1, ((h3.1.2.1.1, (h3.1.2.1.2.1, h3.1.2.1.2.2)), (h3.1.2.2.1, (h3.1.2.2.2.1, (h3.1.2.2.2.2.1, (h3.1.2.2.2.2.2.1, (h3.1.2.2.2.2.2.2.1, h3.1.2.2.2.2.2.2.2))))))), (h3.2.1, ((h3.2.2.1.1, h3.2.2.1.2), (h3.2.2.2.1, (h3.2.2.2.2.1, (h3.2.2.2.2.2.1, h3.2.2.2.2.2.2)))))), (h4, (h5, (h6, (h7, (h8, (h9, (h10, (h11, (h12, ((h13 ++ ([(v24.1, (v24.2.1, v24.2.2))] : List ((Int × (Int × (List Int)))))), ()))))))))))))))))
          else
           none
         else
          (X ((next10, (actions11, (x30, (x31, ((IntKind.wrap .i64 (x32 + 1)), ()))))), (((h0.1.1, ((h0.1.2.1.1, (h0.1.2.1.2.1, h0.1.2.1.2.2)), (h0.1.2.2.1, (h0.1.2.2.2.1, (h0.1.2.2.2.2.1, (h0.1.2.2.2.2.2.1, (h0.1.2.2.2.2.2.2.1, h0.1.2.2.2.2.2.2.2))))))), (h0.2.1, ((v23.1, v23.2), ((IntKind.wrap .u8 (h0.2.2.2.1 + 1)), (v22, (h0.2.2.2.2.2.1, h0.2.2.2.2.2.2)))))), ((h1.1, (h1.2.1, h1.2.2)), ((h2.1, (h2.2.1, h2.2.2)), (((h3.1.1, ((h3.1.2.1.1, (h3.1.2.1.2.1, h3.1.2.1.2.2)), (h3.1.2.2.1, (h3.1.2.2.2.1, (h3.1.2.2.2.2.1, (h3.1.2.2.2.2.2.1, (h3.1.2.2.2.2.2.2.1, h3.1.2.2.2.2.2.2.2))))))), (h3.2.1, ((h3.2.2.1.1, h3.2.2.1.2), (h3.2.2.2.1, (h3.2.2.2.2.1, (h3.2.2.2.2.2.1, h3.2.2.2.2.2.2)))))), (h4, (h5, (h6, (h7, (h8, (h9, (h10, (h11, (h12, (h13, ()))))))))))))))))
        else
         bif (decide (v21 = (10 : Int))) then
          Option.bind (retry_Retry_Sent N (h0.2.2.1.1, h0.2.2.1.2)) fun v22 =>
          Option.bind (nego_Nego_opens N ((h0.1.1, ((h0.1.2.1.1, (h0.1.2.1.2.1, h0.1.2.1.2.2)), (h0.1.2.2.1, (h0.1.2.2.2.1, (h0.1.2.2.2.2.1, (h0.1.2.2.2.2.2.1, (h0.1.2.2.2.2.2.2.1, h0.1.2.2.2.2.2.2.2))))))), (h0.2.1, ((v22.1, v22.2), ((IntKind.wrap .u8 (h0.2.2.2.1 + 1)), (h0.2.2.2.2.1, (h0.2.2.2.2.2.1, h0.2.2.2.2.2.2)))))) v21) fun v23 =>
          Option.bind (ctl_Lay N (v23.1, (v23.2.1, v23.2.2))) fun v24 =>
          bif (decide (v24.2 = (0 : Int))) then
           bif (roomB ((List.length h13) + (List.length ([(v23.1, (v23.2.1, v23.2.2))] : List ((Int × (Int × (List Int))))))) 32) then
            (X ((next10, (actions11, (x30, (x31, ((IntKind.wrap .i64 (x32 + 1)), ()))))), (((h0.1.1, ((h0.1.2.1.1, (h0.1.2.1.2.1, h0.1.2.1.2.2)), (h0.1.2.2.1, (h0.1.2.2.2.1, (h0.1.2.2.2.2.1, (h0.1.2.2.2.2.2.1, (h0.1.2.2.2.2.2.2.1, h0.1.2.2.2.2.2.2.2))))))), (h0.2.1, ((v22.1, v22.2), ((IntKind.wrap .u8 (h0.2.2.2.1 + 1)), (h0.2.2.2.2.1, (h0.2.2.2.2.2.1, h0.2.2.2.2.2.2)))))), ((h1.1, (h1.2.1, h1.2.2)), ((h2.1, (h2.2.1, h2.2.2)), (((h3.1.1, ((h3.1.2.1.1, (h3.1.2.1.2.1, h3.1.2.1.2.2)), (h3.1.2.2.1, (h3.1.2.2.2.1, (h3.1.2.2.2.2.1, (h3.1.2.2.2.2.2.1, (h3.1.2.2.2.2.2.2.1, h3.1.2.2.2.2.2.2.2))))))), (h3.2.1, ((h3.2.2.1.1, h3.2.2.1.2), (h3.2.2.2.1, (h3.2.2.2.2.1, (h3.2.2.2.2.2.1, h3.2.2.2.2.2.2)))))), (h4, (h5, (h6, (h7, (h8, (h9, (h10, (h11, (h12, ((h13 ++ ([(v23.1, (v23.2.1, v23.2.2))] : List ((Int × (Int × (List Int)))))), ()))))))))))))))))
           else
            none
          else
           (X ((next10, (actions11, (x30, (x31, ((IntKind.wrap .i64 (x32 + 1)), ()))))), (((h0.1.1, ((h0.1.2.1.1, (h0.1.2.1.2.1, h0.1.2.1.2.2)), (h0.1.2.2.1, (h0.1.2.2.2.1, (h0.1.2.2.2.2.1, (h0.1.2.2.2.2.2.1, (h0.1.2.2.2.2.2.2.1, h0.1.2.2.2.2.2.2.2))))))), (h0.2.1, ((v22.1, v22.2), ((IntKind.wrap .u8 (h0.2.2.2.1 + 1)), (h0.2.2.2.2.1, (h0.2.2.2.2.2.1, h0.2.2.2.2.2.2)))))), ((h1.1, (h1.2.1, h1.2.2)), ((h2.1, (h2.2.1, h2.2.2)), (((h3.1.1, ((h3.1.2.1.1, (h3.1.2.1.2.1, h3.1.2.1.2.2)), (h3.1.2.2.1, (h3.1.2.2.2.1, (h3.1.2.2.2.2.1, (h3.1.2.2.2.2.2.1, (h3.1.2.2.2.2.2.2.1, h3.1.2.2.2.2.2.2.2))))))), (h3.2.1, ((h3.2.2.1.1, h3.2.2.1.2), (h3.2.2.2.1, (h3.2.2.2.2.1, (h3.2.2.2.2.2.1, h3.2.2.2.2.2.2)))))), (h4, (h5, (h6, (h7, (h8, (h9, (h10, (h11, (h12, (h13, ()))))))))))))))))
         else
          bif (decide (v21 = (12 : Int))) then
           Option.bind (ctl_Reject N (IntKind.wrap .u8 (h0.2.2.2.1 + 1)) (h1.1, (h1.2.1, h1.2.2)) (1400 : Int)) fun v22 =>
           Option.bind (ctl_Lay N (v22.1, (v22.2.1, v22.2.2))) fun v23 =>
           bif (decide (v23.2 = (0 : Int))) then
            bif (roomB ((List.length h13) + (List.length ([(v22.1, (v22.2.1, v22.2.2))] : List ((Int × (Int × (List Int))))))) 32) then
             (X ((next10, (actions11, (x30, (x31, ((IntKind.wrap .i64 (x32 + 1)), ()))))), (((h0.1.1, ((h0.1.2.1.1, (h0.1.2.1.2.1, h0.1.2.1.2.2)), (h0.1.2.2.1, (h0.1.2.2.2.1, (h0.1.2.2.2.2.1, (h0.1.2.2.2.2.2.1, (h0.1.2.2.2.2.2.2.1, h0.1.2.2.2.2.2.2.2))))))), (h0.2.1, ((h0.2.2.1.1, h0.2.2.1.2), ((IntKind.wrap .u8 (h0.2.2.2.1 + 1)), (h0.2.2.2.2.1, (h0.2.2.2.2.2.1, h0.2.2.2.2.2.2)))))), ((h1.1, (h1.2.1, h1.2.2)), ((h2.1, (h2.2.1, h2.2.2)), (((h3.1.1, ((h3.1.2.1.1, (h3.1.2.1.2.1, h3.1.2.1.2.2)), (h3.1.2.2.1, (h3.1.2.2.2.1, (h3.1.2.2.2.2.1, (h3.1.2.2.2.2.2.1, (h3.1.2.2.2.2.2.2.1, h3.1.2.2.2.2.2.2.2))))))), (h3.2.1, ((h3.2.2.1.1, h3.2.2.1.2), (h3.2.2.2.1, (h3.2.2.2.2.1, (h3.2.2.2.2.2.1, h3.2.2.2.2.2.2)))))), (h4, (h5, (h6, (h7, (h8, (h9, (h10, (h11, (h12, ((h13 ++ ([(v22.1, (v22.2.1, v22.2.2))] : List ((Int × (Int × (List Int)))))), ()))))))))))))))))
            else
             none
           else
            (X ((next10, (actions11, (x30, (x31, ((IntKind.wrap .i64 (x32 + 1)), ()))))), (((h0.1.1, ((h0.1.2.1.1, (h0.1.2.1.2.1, h0.1.2.1.2.2)), (h0.1.2.2.1, (h0.1.2.2.2.1, (h0.1.2.2.2.2.1, (h0.1.2.2.2.2.2.1, (h0.1.2.2.2.2.2.2.1, h0.1.2.2.2.2.2.2.2))))))), (h0.2.1, ((h0.2.2.1.1, h0.2.2.1.2), ((IntKind.wrap .u8 (h0.2.2.2.1 + 1)), (h0.2.2.2.2.1, (h0.2.2.2.2.2.1, h0.2.2.2.2.2.2)))))), ((h1.1, (h1.2.1, h1.2.2)), ((h2.1, (h2.2.1, h2.2.2)), (((h3.1.1, ((h3.1.2.1.1, (h3.1.2.1.2.1, h3.1.2.1.2.2)), (h3.1.2.2.1, (h3.1.2.2.2.1, (h3.1.2.2.2.2.1, (h3.1.2.2.2.2.2.1, (h3.1.2.2.2.2.2.2.1, h3.1.2.2.2.2.2.2.2))))))), (h3.2.1, ((h3.2.2.1.1, h3.2.2.1.2), (h3.2.2.2.1, (h3.2.2.2.2.1, (h3.2.2.2.2.2.1, h3.2.2.2.2.2.2)))))), (h4, (h5, (h6, (h7, (h8, (h9, (h10, (h11, (h12, (h13, ()))))))))))))))))
          else
           bif (decide (v21 = (8 : Int))) then
            bif (decide (v21 = (8 : Int))) then
             Option.bind (ctl_Lay N (h2.1, (h2.2.1, h2.2.2))) fun v22 =>
             bif (decide (v22.2 = (0 : Int))) then
              bif (roomB ((List.length h13) + (List.length ([(h2.1, (h2.2.1, h2.2.2))] : List ((Int × (Int × (List Int))))))) 32) then
               (X ((next10, (actions11, (x30, (x31, ((IntKind.wrap .i64 (x32 + 1)), ()))))), (((h0.1.1, ((h0.1.2.1.1, (h0.1.2.1.2.1, h0.1.2.1.2.2)), (h0.1.2.2.1, (h0.1.2.2.2.1, (h0.1.2.2.2.2.1, (h0.1.2.2.2.2.2.1, (h0.1.2.2.2.2.2.2.1, h0.1.2.2.2.2.2.2.2))))))), (h0.2.1, ((h0.2.2.1.1, h0.2.2.1.2), (h0.2.2.2.1, (h0.2.2.2.2.1, (h0.2.2.2.2.2.1, h0.2.2.2.2.2.2)))))), ((h1.1, (h1.2.1, h1.2.2)), ((h2.1, (h2.2.1, h2.2.2)), (((h3.1.1, ((h3.1.2.1.1, (h3.1.2.1.2.1, h3.1.2.1.2.2)), (h3.1.2.2.1, (h3.1.2.2.2.1, (h3.1.2.2.2.2.1, (h3.1.2.2.2.2.2.1, (h3.1.2.2.2.2.2.2.1, h3.1.2.2.2.2.2.2.2))))))), (h3.2.1, ((h3.2.2.1.1, h3.2.2.1.2), (h3.2.2.2.1, (h3.2.2.2.2.1, (h3.2.2.2.2.2.1, h3.2.2.2.2.2.2)))))), (h4, (h5, (h6, (h7, (h8, (h9, (h10, (h11, (h12, ((h13 ++ ([(h2.1, (h2.2.1, h2.2.2))] : List ((Int × (Int × (List Int)))))), ()))))))))))))))))
              else
               none
             else
              (X ((next10, (actions11, (x30, (x31, ((IntKind.wrap .i64 (x32 + 1)), ()))))), (((h0.1.1, ((h0.1.2.1.1, (h0.1.2.1.2.1, h0.1.2.1.2.2)), (h0.1.2.2.1, (h0.1.2.2.2.1, (h0.1.2.2.2.2.1, (h0.1.2.2.2.2.2.1, (h0.1.2.2.2.2.2.2.1, h0.1.2.2.2.2.2.2.2))))))), (h0.2.1, ((h0.2.2.1.1, h0.2.2.1.2), (h0.2.2.2.1, (h0.2.2.2.2.1, (h0.2.2.2.2.2.1, h0.2.2.2.2.2.2)))))), ((h1.1, (h1.2.1, h1.2.2)), ((h2.1, (h2.2.1, h2.2.2)), (((h3.1.1, ((h3.1.2.1.1, (h3.1.2.1.2.1, h3.1.2.1.2.2)), (h3.1.2.2.1, (h3.1.2.2.2.1, (h3.1.2.2.2.2.1, (h3.1.2.2.2.2.2.1, (h3.1.2.2.2.2.2.2.1, h3.1.2.2.2.2.2.2.2))))))), (h3.2.1, ((h3.2.2.1.1, h3.2.2.1.2), (h3.2.2.2.1, (h3.2.2.2.2.1, (h3.2.2.2.2.2.1, h3.2.2.2.2.2.2)))))), (h4, (h5, (h6, (h7, (h8, (h9, (h10, (h11, (h12, (h13, ()))))))))))))))))
            else
             bif (decide (v21 = (11 : Int))) then
              Option.bind (ctl_Lay N ((6 : Int), (h1.2.1, ([] : List Int)))) fun v22 =>
              bif (decide (v22.2 = (0 : Int))) then
               bif (roomB ((List.length h13) + (List.length ([((6 : Int), (h1.2.1, ([] : List Int)))] : List ((Int × (Int × (List Int))))))) 32) then
                (X ((next10, (actions11, (x30, (x31, ((IntKind.wrap .i64 (x32 + 1)), ()))))), (((h0.1.1, ((h0.1.2.1.1, (h0.1.2.1.2.1, h0.1.2.1.2.2)), (h0.1.2.2.1, (h0.1.2.2.2.1, (h0.1.2.2.2.2.1, (h0.1.2.2.2.2.2.1, (h0.1.2.2.2.2.2.2.1, h0.1.2.2.2.2.2.2.2))))))), (h0.2.1, ((h0.2.2.1.1, h0.2.2.1.2), (h0.2.2.2.1, (h0.2.2.2.2.1, (h0.2.2.2.2.2.1, h0.2.2.2.2.2.2)))))), ((h1.1, (h1.2.1, h1.2.2)), ((h2.1, (h2.2.1, h2.2.2)), (((h3.1.1, ((h3.1.2.1.1, (h3.1.2.1.2.1, h3.1.2.1.2.2)), (h3.1.2.2.1, (h3.1.2.2.2.1, (h3.1.2.2.2.2.1, (h3.1.2.2.2.2.2.1, (h3.1.2.2.2.2.2.2.1, h3.1.2.2.2.2.2.2.2))))))), (h3.2.1, ((h3.2.2.1.1, h3.2.2.1.2), (h3.2.2.2.1, (h3.2.2.2.2.1, (h3.2.2.2.2.2.1, h3.2.2.2.2.2.2)))))), (h4, (h5, (h6, (h7, (h8, (h9, (h10, (h11, (h12, ((h13 ++ ([((6 : Int), (h1.2.1, ([] : List Int)))] : List ((Int × (Int × (List Int)))))), ()))))))))))))))))
               else
                none
              else
               (X ((next10, (actions11, (x30, (x31, ((IntKind.wrap .i64 (x32 + 1)), ()))))), (((h0.1.1, ((h0.1.2.1.1, (h0.1.2.1.2.1, h0.1.2.1.2.2)), (h0.1.2.2.1, (h0.1.2.2.2.1, (h0.1.2.2.2.2.1, (h0.1.2.2.2.2.2.1, (h0.1.2.2.2.2.2.2.1, h0.1.2.2.2.2.2.2.2))))))), (h0.2.1, ((h0.2.2.1.1, h0.2.2.1.2), (h0.2.2.2.1, (h0.2.2.2.2.1, (h0.2.2.2.2.2.1, h0.2.2.2.2.2.2)))))), ((h1.1, (h1.2.1, h1.2.2)), ((h2.1, (h2.2.1, h2.2.2)), (((h3.1.1, ((h3.1.2.1.1, (h3.1.2.1.2.1, h3.1.2.1.2.2)), (h3.1.2.2.1, (h3.1.2.2.2.1, (h3.1.2.2.2.2.1, (h3.1.2.2.2.2.2.1, (h3.1.2.2.2.2.2.2.1, h3.1.2.2.2.2.2.2.2))))))), (h3.2.1, ((h3.2.2.1.1, h3.2.2.1.2), (h3.2.2.2.1, (h3.2.2.2.2.1, (h3.2.2.2.2.2.1, h3.2.2.2.2.2.2)))))), (h4, (h5, (h6, (h7, (h8, (h9, (h10, (h11, (h12, (h13, ()))))))))))))))))
             else
              (X ((next10, (actions11, (x30, (x31, ((IntKind.wrap .i64 (x32 + 1)), ()))))), (((h0.1.1, ((h0.1.2.1.1, (h0.1.2.1.2.1, h0.1.2.1.2.2)), (h0.1.2.2.1, (h0.1.2.2.2.1, (h0.1.2.2.2.2.1, (h0.1.2.2.2.2.2.1, (h0.1.2.2.2.2.2.2.1, h0.1.2.2.2.2.2.2.2))))))), (h0.2.1, ((h0.2.2.1.1, h0.2.2.1.2), (h0.2.2.2.1, (h0.2.2.2.2.1, (h0.2.2.2.2.2.1, h0.2.2.2.2.2.2)))))), ((h1.1, (h1.2.1, h1.2.2)), ((h2.1, (h2.2.1, h2.2.2)), (((h3.1.1, ((h3.1.2.1.1, (h3.1.2.1.2.1, h3.1.2.1.2.2)), (h3.1.2.2.1, (h3.1.2.2.2.1, (h3.1.2.2.2.2.1, (h3.1.2.2.2.2.2.1, (h3.1.2.2.2.2.2.2.1, h3.1.2.2.2.2.2.2.2))))))), (h3.2.1, ((h3.2.2.1.1, h3.2.2.1.2), (h3.2.2.2.1, (h3.2.2.2.2.1, (h3.2.2.2.2.2.1, h3.2.2.2.2.2.2)))))), (h4, (h5, (h6, (h7, (h8, (h9, (h10, (h11, (h12, (h13, ()))))))))))))))))
           else
            bif (decide (v21 = (9 : Int))) then
             Option.bind (ctl_Lay N (h2.1, (h2.2.1, h2.2.2))) fun v22 =>
             bif (decide (v22.2 = (0 : Int))) then
              bif (roomB ((List.length h13) + (List.length ([(h2.1, (h2.2.1, h2.2.2))] : List ((Int × (Int × (List Int))))))) 32) then
               (X ((next10, (actions11, (x30, (x31, ((IntKind.wrap .i64 (x32 + 1)), ()))))), (((h0.1.1, ((h0.1.2.1.1, (h0.1.2.1.2.1, h0.1.2.1.2.2)), (h0.1.2.2.1, (h0.1.2.2.2.1, (h0.1.2.2.2.2.1, (h0.1.2.2.2.2.2.1, (h0.1.2.2.2.2.2.2.1, h0.1.2.2.2.2.2.2.2))))))), (h0.2.1, ((h0.2.2.1.1, h0.2.2.1.2), (h0.2.2.2.1, (h0.2.2.2.2.1, (h0.2.2.2.2.2.1, h0.2.2.2.2.2.2)))))), ((h1.1, (h1.2.1, h1.2.2)), ((h2.1, (h2.2.1, h2.2.2)), (((h3.1.1, ((h3.1.2.1.1, (h3.1.2.1.2.1, h3.1.2.1.2.2)), (h3.1.2.2.1, (h3.1.2.2.2.1, (h3.1.2.2.2.2.1, (h3.1.2.2.2.2.2.1, (h3.1.2.2.2.2.2.2.1, h3.1.2.2.2.2.2.2.2))))))), (h3.2.1, ((h3.2.2.1.1, h3.2.2.1.2), (h3.2.2.2.1, (h3.2.2.2.2.1, (h3.2.2.2.2.2.1, h3.2.2.2.2.2.2)))))), (h4, (h5, (h6, (h7, (h8, (h9, (h10, (h11, (h12, ((h13 ++ ([(h2.1, (h2.2.1, h2.2.2))] : List ((Int × (Int × (List Int)))))), ()))))))))))))))))
              else
               none
             else
              (X ((next10, (actions11, (x30, (x31, ((IntKind.wrap .i64 (x32 + 1)), ()))))), (((h0.1.1, ((h0.1.2.1.1, (h0.1.2.1.2.1, h0.1.2.1.2.2)), (h0.1.2.2.1, (h0.1.2.2.2.1, (h0.1.2.2.2.2.1, (h0.1.2.2.2.2.2.1, (h0.1.2.2.2.2.2.2.1, h0.1.2.2.2.2.2.2.2))))))), (h0.2.1, ((h0.2.2.1.1, h0.2.2.1.2), (h0.2.2.2.1, (h0.2.2.2.2.1, (h0.2.2.2.2.2.1, h0.2.2.2.2.2.2)))))), ((h1.1, (h1.2.1, h1.2.2)), ((h2.1, (h2.2.1, h2.2.2)), (((h3.1.1, ((h3.1.2.1.1, (h3.1.2.1.2.1, h3.1.2.1.2.2)), (h3.1.2.2.1, (h3.1.2.2.2.1, (h3.1.2.2.2.2.1, (h3.1.2.2.2.2.2.1, (h3.1.2.2.2.2.2.2.1, h3.1.2.2.2.2.2.2.2))))))), (h3.2.1, ((h3.2.2.1.1, h3.2.2.1.2), (h3.2.2.2.1, (h3.2.2.2.2.1, (h3.2.2.2.2.2.1, h3.2.2.2.2.2.2)))))), (h4, (h5, (h6, (h7, (h8, (h9, (h10, (h11, (h12, (h13, ()))))))))))))))))
            else
             bif (decide (v21 = (11 : Int))) then
              Option.bind (ctl_Lay N ((6 : Int), (h1.2.1, ([] : List Int)))) fun v22 =>
              bif (decide (v22.2 = (0 : Int))) then
               bif (roomB ((List.length h13) + (List.length ([((6 : Int), (h1.2.1, ([] : List Int)))] : List ((Int × (Int × (List Int))))))) 32) then
                (X ((next10, (actions11, (x30, (x31, ((IntKind.wrap .i64 (x32 + 1)), ()))))), (((h0.1.1, ((h0.1.2.1.1, (h0.1.2.1.2.1, h0.1.2.1.2.2)), (h0.1.2.2.1, (h0.1.2.2.2.1, (h0.1.2.2.2.2.1, (h0.1.2.2.2.2.2.1, (h0.1.2.2.2.2.2.2.1, h0.1.2.2.2.2.2.2.2))))))), (h0.2.1, ((h0.2.2.1.1, h0.2.2.1.2), (h0.2.2.2.1, (h0.2.2.2.2.1, (h0.2.2.2.2.2.1, h0.2.2.2.2.2.2)))))), ((h1.1, (h1.2.1, h1.2.2)), ((h2.1, (h2.2.1, h2.2.2)), (((h3.1.1, ((h3.1.2.1.1, (h3.1.2.1.2.1, h3.1.2.1.2.2)), (h3.1.2.2.1, (h3.1.2.2.2.1, (h3.1.2.2.2.2.1, (h3.1.2.2.2.2.2.1, (h3.1.2.2.2.2.2.2.1, h3.1.2.2.2.2.2.2.2))))))), (h3.2.1, ((h3.2.2.1.1, h3.2.2.1.2), (h3.2.2.2.1, (h3.2.2.2.2.1, (h3.2.2.2.2.2.1, h3.2.2.2.2.2.2)))))), (h4, (h5, (h6, (h7, (h8, (h9, (h10, (h11, (h12, ((h13 ++ ([((6 : Int), (h1.2.1, ([] : List Int)))] : List ((Int × (Int × (List Int)))))), ()))))))))))))))))
               else
                none
              else
               (X ((next10, (actions11, (x30, (x31, ((IntKind.wrap .i64 (x32 + 1)), ()))))), (((h0.1.1, ((h0.1.2.1.1, (h0.1.2.1.2.1, h0.1.2.1.2.2)), (h0.1.2.2.1, (h0.1.2.2.2.1, (h0.1.2.2.2.2.1, (h0.1.2.2.2.2.2.1, (h0.1.2.2.2.2.2.2.1, h0.1.2.2.2.2.2.2.2))))))), (h0.2.1, ((h0.2.2.1.1, h0.2.2.1.2), (h0.2.2.2.1, (h0.2.2.2.2.1, (h0.2.2.2.2.2.1, h0.2.2.2.2.2.2)))))), ((h1.1, (h1.2.1, h1.2.2)), ((h2.1, (h2.2.1, h2.2.2)), (((h3.1.1, ((h3.1.2.1.1, (h3.1.2.1.2.1, h3.1.2.1.2.2)), (h3.1.2.2.1, (h3.1.2.2.2.1, (h3.1.2.2.2.2.1, (h3.1.2.2.2.2.2.1, (h3.1.2.2.2.2.2.2.1, h3.1.2.2.2.2.2.2.2))))))), (h3.2.1, ((h3.2.2.1.1, h3.2.2.1.2), (h3.2.2.2.1, (h3.2.2.2.2.1, (h3.2.2.2.2.2.1, h3.2.2.2.2.2.2)))))), (h4, (h5, (h6, (h7, (h8, (h9, (h10, (h11, (h12, (h13, ()))))))))))))))))
             else
              (X ((next10, (actions11, (x30, (x31, ((IntKind.wrap .i64 (x32 + 1)), ()))))), (((h0.1.1, ((h0.1.2.1.1, (h0.1.2.1.2.1, h0.1.2.1.2.2)), (h0.1.2.2.1, (h0.1.2.2.2.1, (h0.1.2.2.2.2.1, (h0.1.2.2.2.2.2.1, (h0.1.2.2.2.2.2.2.1, h0.1.2.2.2.2.2.2.2))))))), (h0.2.1, ((h0.2.2.1.1, h0.2.2.1.2), (h0.2.2.2.1, (h0.2.2.2.2.1, (h0.2.2.2.2.2.1, h0.2.2.2.2.2.2)))))), ((h1.1, (h1.2.1, h1.2.2)), ((h2.1, (h2.2.1, h2.2.2)), (((h3.1.1, ((h3.1.2.1.1, (h3.1.2.1.2.1, h3.1.2.1.2.2)), (h3.1.2.2.1, (h3.1.2.2.2.1, (h3.1.2.2.2.2.1, (h3.1.2.2.2.2.2.1, (h3.1.2.2.2.2.2.2.1, h3.1.2.2.2.2.2.2.2))))))), (h3.2.1, ((h3.2.2.1.1, h3.2.2.1.2), (h3.2.2.2.1, (h3.2.2.2.2.1, (h3.2.2.2.2.2.1, h3.2.2.2.2.2.2)))))), (h4, (h5, (h6, (h7, (h8, (h9, (h10, (h11, (h12, (h13, ()))))))))))))))))
 else
  some (((next10, ()), (((h0.1.1, ((h0.1.2.1.1, (h0.1.2.1.2.1, h0.1.2.1.2.2)), (h0.1.2.2.1, (h0.1.2.2.2.1, (h0.1.2.2.2.2.1, (h0.1.2.2.2.2.2.1, (h0.1.2.2.2.2.2.2.1, h0.1.2.2.2.2.2.2.2))))))), (h0.2.1, ((h0.2.2.1.1, h0.2.2.1.2), (h0.2.2.2.1, (h0.2.2.2.2.1, (h0.2.2.2.2.2.1, h0.2.2.2.2.2.2)))))), (((h3.1.1, ((h3.1.2.1.1, (h3.1.2.1.2.1, h3.1.2.1.2.2)), (h3.1.2.2.1, (h3.1.2.2.2.1, (h3.1.2.2.2.2.1, (h3.1.2.2.2.2.2.1, (h3.1.2.2.2.2.2.2.1, h3.1.2.2.2.2.2.2.2))))))), (h3.2.1, ((h3.2.2.1.1, h3.2.2.1.2), (h3.2.2.2.1, (h3.2.2.2.2.1, (h3.2.2.2.2.2.1, h3.2.2.2.2.2.2)))))), (h4, (h5, (h6, (h7, (h8, (h9, (h10, (h11, (h12, (h13, ()))))))))))))))
noncomputable def nego_Nego_done_L7_R (c : ((Int × ((List Int) × ((List Int) × (Int × (Int × Unit))))) × (((Bool × ((Int × (Int × (Bool))) × (Bool × (Bool × (Int × (Int × (Int × (Bool)))))))) × (Int × ((Int × Int) × (Int × ((List (Int × (List Int))) × ((List (Int × (List Int))) × Int)))))) × ((Int × (Int × (List Int))) × ((Int × (Int × (List Int))) × (((Bool × ((Int × (Int × (Bool))) × (Bool × (Bool × (Int × (Int × (Int × (Bool)))))))) × (Int × ((Int × Int) × (Int × ((List (Int × (List Int))) × ((List (Int × (List Int))) × Int)))))) × (Bool × (Bool × (Bool × (Bool × (Bool × (Bool × (Bool × (Bool × ((List (Int × (Int × (List Int)))) × ((List (Int × (Int × (List Int)))) × Unit)))))))))))))))) : Option (((Int × Unit) × (((Bool × ((Int × (Int × (Bool))) × (Bool × (Bool × (Int × (Int × (Int × (Bool)))))))) × (Int × ((Int × Int) × (Int × ((List (Int × (List Int))) × ((List (Int × (List Int))) × Int)))))) × (((Bool × ((Int × (Int × (Bool))) × (Bool × (Bool × (Int × (Int × (Int × (Bool)))))))) × (Int × ((Int × Int) × (Int × ((List (Int × (List Int))) × ((List (Int × (List Int))) × Int)))))) × (Bool × (Bool × (Bool × (Bool × (Bool × (Bool × (Bool × (Bool × ((List (Int × (Int × (List Int)))) × ((List (Int × (Int × (List Int)))) × Unit)))))))))))))) := gl (fun X c => nego_Nego_done_L7 N X c.1.1 c.1.2.1 c.1.2.2.1 c.1.2.2.2.1 c.1.2.2.2.2.1 c.2.1 c.2.2.1 c.2.2.2.1 c.2.2.2.2.1 c.2.2.2.2.2.1 c.2.2.2.2.2.2.1 c.2.2.2.2.2.2.2.1 c.2.2.2.2.2.2.2.2.1 c.2.2.2.2.2.2.2.2.2.1 c.2.2.2.2.2.2.2.2.2.2.1 c.2.2.2.2.2.2.2.2.2.2.2.1 c.2.2.2.2.2.2.2.2.2.2.2.2.1 c.2.2.2.2.2.2.2.2.2.2.2.2.2.1 c.2.2.2.2.2.2.2.2.2.2.2.2.2.2.1) N c
theorem nego_Nego_done_L7_S (X : ((Int × ((List Int) × ((List Int) × (Int × (Int × Unit))))) × (((Bool × ((Int × (Int × (Bool))) × (Bool × (Bool × (Int × (Int × (Int × (Bool)))))))) × (Int × ((Int × Int) × (Int × ((List (Int × (List Int))) × ((List (Int × (List Int))) × Int)))))) × ((Int × (Int × (List Int))) × ((Int × (Int × (List Int))) × (((Bool × ((Int × (Int × (Bool))) × (Bool × (Bool × (Int × (Int × (Int × (Bool)))))))) × (Int × ((Int × Int) × (Int × ((List (Int × (List Int))) × ((List (Int × (List Int))) × Int)))))) × (Bool × (Bool × (Bool × (Bool × (Bool × (Bool × (Bool × (Bool × ((List (Int × (Int × (List Int)))) × ((List (Int × (Int × (List Int)))) × Unit))))))))))))))) → Option (((Int × Unit) × (((Bool × ((Int × (Int × (Bool))) × (Bool × (Bool × (Int × (Int × (Int × (Bool)))))))) × (Int × ((Int × Int) × (Int × ((List (Int × (List Int))) × ((List (Int × (List Int))) × Int)))))) × (((Bool × ((Int × (Int × (Bool))) × (Bool × (Bool × (Int × (Int × (Int × (Bool)))))))) × (Int × ((Int × Int) × (Int × ((List (Int × (List Int))) × ((List (Int × (List Int))) × Int)))))) × (Bool × (Bool × (Bool × (Bool × (Bool × (Bool × (Bool × (Bool × ((List (Int × (Int × (List Int)))) × ((List (Int × (Int × (List Int)))) × Unit))))))))))))))) (next10 : Int) (actions11 : List (Int)) (x30 : List (Int)) (x31 : Int) (x32 : Int) (h0 : (Bool × ((Int × (Int × (Bool))) × (Bool × (Bool × (Int × (Int × (Int × (Bool)))))))) × (Int × ((Int × Int) × (Int × ((List (Int × (List Int))) × ((List (Int × (List Int))) × Int)))))) (h1 : Int × (Int × (List Int))) (h2 : Int × (Int × (List Int))) (h3 : (Bool × ((Int × (Int × (Bool))) × (Bool × (Bool × (Int × (Int × (Int × (Bool)))))))) × (Int × ((Int × Int) × (Int × ((List (Int × (List Int))) × ((List (Int × (List Int))) × Int)))))) (h4 : Bool) (h5 : Bool) (h6 : Bool) (h7 : Bool) (h8 : Bool) (h9 : Bool) (h10 : Bool) (h11 : Bool) (h12 : List (Int × (Int × (List Int)))) (h13 : List (Int × (Int × (List Int)))) : (roundK Try.prog (Ev107 N) 400 [22] nego_Nego_done_L7_I (loopAt Try.prog [22] 7) X ((next10, actions11, x30, x31, x32, ()), (h0, h1, h2, h3, h4, h5, h6, h7, h8, h9, h10, h11, h12, h13, ()))).run = nego_Nego_done_L7 N X next10 actions11 x30 x31 x32 h0 h1 h2 h3 h4 h5 h6 h7 h8 h9 h10 h11 h12 h13 := by kernel_rfl
noncomputable def Ev108 : (R : Type) → Env R := Env.addLp (Ev107 N) [22] 0 7 (fun R => lpK Try.prog nego_Nego_done_L7_I (fun X c => nego_Nego_done_L7 N X c.1.1 c.1.2.1 c.1.2.2.1 c.1.2.2.2.1 c.1.2.2.2.2.1 c.2.1 c.2.2.1 c.2.2.2.1 c.2.2.2.2.1 c.2.2.2.2.2.1 c.2.2.2.2.2.2.1 c.2.2.2.2.2.2.2.1 c.2.2.2.2.2.2.2.2.1 c.2.2.2.2.2.2.2.2.2.1 c.2.2.2.2.2.2.2.2.2.2.1 c.2.2.2.2.2.2.2.2.2.2.2.1 c.2.2.2.2.2.2.2.2.2.2.2.2.1 c.2.2.2.2.2.2.2.2.2.2.2.2.2.1 c.2.2.2.2.2.2.2.2.2.2.2.2.2.2.1) N)
theorem Ev108_ok (R : Type) : EnvOK Try.prog (Ev108 N R) := EnvOK.addLp (Ev107_ok N R) (by kernel_rfl) (lpK_ok (li := nego_Nego_done_L7_I) (G := fun X c => nego_Nego_done_L7 N X c.1.1 c.1.2.1 c.1.2.2.1 c.1.2.2.2.1 c.1.2.2.2.2.1 c.2.1 c.2.2.1 c.2.2.2.1 c.2.2.2.2.1 c.2.2.2.2.2.1 c.2.2.2.2.2.2.1 c.2.2.2.2.2.2.2.1 c.2.2.2.2.2.2.2.2.1 c.2.2.2.2.2.2.2.2.2.1 c.2.2.2.2.2.2.2.2.2.2.1 c.2.2.2.2.2.2.2.2.2.2.2.1 c.2.2.2.2.2.2.2.2.2.2.2.2.1 c.2.2.2.2.2.2.2.2.2.2.2.2.2.1 c.2.2.2.2.2.2.2.2.2.2.2.2.2.2.1) hmx (Ev107_ok N _) (by kernel_rfl) loopAt_sub (fun (X : CT nego_Nego_done_L7_I.sh → Option (OT nego_Nego_done_L7_I.outs)) (c : CT nego_Nego_done_L7_I.sh) => nego_Nego_done_L7_S N X c.1.1 c.1.2.1 c.1.2.2.1 c.1.2.2.2.1 c.1.2.2.2.2.1 c.2.1 c.2.2.1 c.2.2.2.1 c.2.2.2.2.1 c.2.2.2.2.2.1 c.2.2.2.2.2.2.1 c.2.2.2.2.2.2.2.1 c.2.2.2.2.2.2.2.2.1 c.2.2.2.2.2.2.2.2.2.1 c.2.2.2.2.2.2.2.2.2.2.1 c.2.2.2.2.2.2.2.2.2.2.2.1 c.2.2.2.2.2.2.2.2.2.2.2.2.1 c.2.2.2.2.2.2.2.2.2.2.2.2.2.1 c.2.2.2.2.2.2.2.2.2.2.2.2.2.2.1) N)
noncomputable def nego_Nego_done (n0 : (Bool × ((Int × (Int × (Bool))) × (Bool × (Bool × (Int × (Int × (Int × (Bool)))))))) × (Int × ((Int × Int) × (Int × ((List (Int × (List Int))) × ((List (Int × (List Int))) × Int)))))) (e1 : Int) (came2 : Int × (Int × (List Int))) (answer3 : Int × (Int × (List Int))) : Option (((Bool × ((Int × (Int × (Bool))) × (Bool × (Bool × (Int × (Int × (Int × (Bool)))))))) × (Int × ((Int × Int) × (Int × ((List (Int × (List Int))) × ((List (Int × (List Int))) × Int)))))) × (List (Int × (Int × (List Int)))) × (Bool × (Bool × (Bool × (Bool))))) :=
 Option.bind (fsm_Next N n0.2.1 e1) fun v5 =>
 bif (!(decide (v5.2.2 = (0 : Int)))) then
  some ((((n0.1.1, ((n0.1.2.1.1, (n0.1.2.1.2.1, n0.1.2.1.2.2)), (n0.1.2.2.1, (n0.1.2.2.2.1, (n0.1.2.2.2.2.1, (n0.1.2.2.2.2.2.1, (n0.1.2.2.2.2.2.2.1, n0.1.2.2.2.2.2.2.2))))))), (n0.2.1, ((n0.2.2.1.1, n0.2.2.1.2), (n0.2.2.2.1, (n0.2.2.2.2.1, (n0.2.2.2.2.2.1, n0.2.2.2.2.2.2)))))), (([] : List ((Int × (Int × (List Int))))), (false, (false, (false, false))))))
 else
  Option.bind (nego_Nego_done_L7_R N ((v5.1, (v5.2.1, (v5.2.1, ((((List.length v5.2.1) : Nat) : Int), ((0 : Int), ()))))), (((n0.1.1, ((n0.1.2.1.1, (n0.1.2.1.2.1, n0.1.2.1.2.2)), (n0.1.2.2.1, (n0.1.2.2.2.1, (n0.1.2.2.2.2.1, (n0.1.2.2.2.2.2.1, (n0.1.2.2.2.2.2.2.1, n0.1.2.2.2.2.2.2.2))))))), (v5.1, ((n0.2.2.1.1, n0.2.2.1.2), (n0.2.2.2.1, (n0.2.2.2.2.1, (n0.2.2.2.2.2.1, n0.2.2.2.2.2.2)))))), ((came2.1, (came2.2.1, came2.2.2)), ((answer3.1, (answer3.2.1, answer3.2.2)), (((false, (((0 : Int), ((0 : Int), false)), (false, (false, ((0 : Int), ((0 : Int), ((0 : Int), false))))))), ((0 : Int), (((0 : Int), (0 : Int)), ((0 : Int), (([] : List ((Int × (List Int)))), (([] : List ((Int × (List Int)))), (0 : Int))))))), (false, (false, (false, (false, (false, (false, (false, (false, (([] : List ((Int × (Int × (List Int))))), (([] : List ((Int × (Int × (List Int))))), ())))))))))))))))) fun v6 =>
  Option.bind (fsm_Timed N v6.1.1) fun v7 =>
  bif (!v7) then
   some ((((v6.2.1.1.1, ((v6.2.1.1.2.1.1, (v6.2.1.1.2.1.2.1, v6.2.1.1.2.1.2.2)), (v6.2.1.1.2.2.1, (v6.2.1.1.2.2.2.1, (v6.2.1.1.2.2.2.2.1, (v6.2.1.1.2.2.2.2.2.1, (v6.2.1.1.2.2.2.2.2.2.1, v6.2.1.1.2.2.2.2.2.2.2))))))), (v6.2.1.2.1, ((v6.2.1.2.2.1.1, (0 : Int)), (v6.2.1.2.2.2.1, (v6.2.1.2.2.2.2.1, (v6.2.1.2.2.2.2.2.1, v6.2.1.2.2.2.2.2.2)))))), (((v6.2.2.2.2.2.2).snd.2.2.2).snd.2.1, ((v6.2.2.2.2.2.2).snd.1, ((v6.2.2.2.2.2.2).snd.2.1, ((v6.2.2.2.2.2.2).snd.2.2.1, (v6.2.2.2.2.2.2).snd.2.2.2.1))))))
  else
   some ((((v6.2.1.1.1, ((v6.2.1.1.2.1.1, (v6.2.1.1.2.1.2.1, v6.2.1.1.2.1.2.2)), (v6.2.1.1.2.2.1, (v6.2.1.1.2.2.2.1, (v6.2.1.1.2.2.2.2.1, (v6.2.1.1.2.2.2.2.2.1, (v6.2.1.1.2.2.2.2.2.2.1, v6.2.1.1.2.2.2.2.2.2.2))))))), (v6.2.1.2.1, ((v6.2.1.2.2.1.1, v6.2.1.2.2.1.2), (v6.2.1.2.2.2.1, (v6.2.1.2.2.2.2.1, (v6.2.1.2.2.2.2.2.1, v6.2.1.2.2.2.2.2.2)))))), (((v6.2.2.2.2.2.2).snd.2.2.2).snd.2.1, ((v6.2.2.2.2.2.2).snd.1, ((v6.2.2.2.2.2.2).snd.2.1, ((v6.2.2.2.2.2.2).snd.2.2.1, (v6.2.2.2.2.2.2).snd.2.2.2.1))))))
theorem nego_Nego_done_S (n0 : (Bool × ((Int × (Int × (Bool))) × (Bool × (Bool × (Int × (Int × (Int × (Bool)))))))) × (Int × ((Int × Int) × (Int × ((List (Int × (List Int))) × ((List (Int × (List Int))) × Int)))))) (e1 : Int) (came2 : Int × (Int × (List Int))) (answer3 : Int × (Int × (List Int))) : (runK Try.prog (Ev108 N) 400 22 [(.pair (.pair .bool (.pair (.pair (.int .u16) (.pair (.int .u32) .bool)) (.pair .bool (.pair .bool (.pair (.int .u32) (.pair (.int .u32) (.pair (.int .u32) .bool))))))) (.pair (.int .i64) (.pair (.pair (.int .i64) (.int .i64)) (.pair (.int .u8) (.pair (.sl (.pair (.int .u8) (.sl (.int .u8)))) (.pair (.sl (.pair (.int .u8) (.sl (.int .u8)))) (.int .i64))))))), (.int .i64), (.pair (.int .u8) (.pair (.int .u8) (.sl (.int .u8)))), (.pair (.int .u8) (.pair (.int .u8) (.sl (.int .u8))))] [(.pair (.pair .bool (.pair (.pair (.int .u16) (.pair (.int .u32) .bool)) (.pair .bool (.pair .bool (.pair (.int .u32) (.pair (.int .u32) (.pair (.int .u32) .bool))))))) (.pair (.int .i64) (.pair (.pair (.int .i64) (.int .i64)) (.pair (.int .u8) (.pair (.sl (.pair (.int .u8) (.sl (.int .u8)))) (.pair (.sl (.pair (.int .u8) (.sl (.int .u8)))) (.int .i64))))))), (.pair (.sl (.pair (.int .u8) (.pair (.int .u8) (.sl (.int .u8))))) (.pair .bool (.pair .bool (.pair .bool .bool))))] (n0, e1, came2, answer3, ())).run = nego_Nego_done N n0 e1 came2 answer3 := by kernel_rfl
noncomputable def Ev109 : (R : Type) → Env R := Env.addFn (Ev108 N) 22 (fun R => fnK [(.pair (.pair .bool (.pair (.pair (.int .u16) (.pair (.int .u32) .bool)) (.pair .bool (.pair .bool (.pair (.int .u32) (.pair (.int .u32) (.pair (.int .u32) .bool))))))) (.pair (.int .i64) (.pair (.pair (.int .i64) (.int .i64)) (.pair (.int .u8) (.pair (.sl (.pair (.int .u8) (.sl (.int .u8)))) (.pair (.sl (.pair (.int .u8) (.sl (.int .u8)))) (.int .i64))))))), (.int .i64), (.pair (.int .u8) (.pair (.int .u8) (.sl (.int .u8)))), (.pair (.int .u8) (.pair (.int .u8) (.sl (.int .u8))))] [(.pair (.pair .bool (.pair (.pair (.int .u16) (.pair (.int .u32) .bool)) (.pair .bool (.pair .bool (.pair (.int .u32) (.pair (.int .u32) (.pair (.int .u32) .bool))))))) (.pair (.int .i64) (.pair (.pair (.int .i64) (.int .i64)) (.pair (.int .u8) (.pair (.sl (.pair (.int .u8) (.sl (.int .u8)))) (.pair (.sl (.pair (.int .u8) (.sl (.int .u8)))) (.int .i64))))))), (.pair (.sl (.pair (.int .u8) (.pair (.int .u8) (.sl (.int .u8))))) (.pair .bool (.pair .bool (.pair .bool .bool))))] (fun c => nego_Nego_done N c.1 c.2.1 c.2.2.1 c.2.2.2.1))
theorem Ev109_ok (R : Type) : EnvOK Try.prog (Ev109 N R) := EnvOK.addFn hmx (Ev108_ok N R) (Ev108_ok N _) (by kernel_rfl) (fun c => nego_Nego_done_S N c.1 c.2.1 c.2.2.1 c.2.2.2.1)
noncomputable def Ev110 : (R : Type) → Env R := Env.addBx (Ev109 N) [(28, 0)]
theorem Ev110_ok (R : Type) : EnvOK Try.prog (Ev110 N R) := EnvOK.addBx (Ev109_ok N R) [(28, 0)]
noncomputable def nego_Nego_event (N : Nat) (n0 : (Bool × ((Int × (Int × (Bool))) × (Bool × (Bool × (Int × (Int × (Int × (Bool)))))))) × (Int × ((Int × Int) × (Int × ((List (Int × (List Int))) × ((List (Int × (List Int))) × Int)))))) (c1 : Int × (Int × (List Int))) : Option Int :=
 bif (decide (c1.1 = (5 : Int))) then
  some ((10 : Int))
 else
  bif (decide (c1.1 = (6 : Int))) then
   some ((11 : Int))
  else
   bif (decide (c1.1 = (7 : Int))) then
    Option.bind (bif (decide ((0 : Int) < (((List.length c1.2.2) : Nat) : Int))) then
      Option.bind (getI c1.2.2 (0 : Int)) fun (v3 : Int) =>
      some ((cond true (decide ((1 : Int) ≤ v3)) false))
     else
      some (false)) fun (v3 : Bool) =>
    Option.bind (bif v3 then
      Option.bind (getI c1.2.2 (0 : Int)) fun (v4 : Int) =>
      some ((cond true (decide (v4 ≤ (7 : Int))) false))
     else
      some (false)) fun (v4 : Bool) =>
    bif v4 then
     some ((14 : Int))
    else
     some ((13 : Int))
   else
    bif (decide (c1.1 = (8 : Int))) then
     bif (!n0.1.1) then
      some ((13 : Int))
     else
      some ((12 : Int))
    else
     bif (decide (c1.1 = (9 : Int))) then
      bif (decide (c1.1 = (9 : Int))) then
       bif (!n0.1.1) then
        some ((15 : Int))
       else
        some ((12 : Int))
      else
       some ((12 : Int))
     else
      bif (decide (c1.1 = (10 : Int))) then
       bif (decide (c1.1 = (10 : Int))) then
        bif (!n0.1.1) then
         some ((15 : Int))
        else
         some ((12 : Int))
       else
        some ((12 : Int))
      else
       bif (decide (c1.1 = (11 : Int))) then
        bif (!n0.1.1) then
         some ((15 : Int))
        else
         some ((12 : Int))
       else
        some ((12 : Int))
theorem nego_Nego_event_S (n0 : (Bool × ((Int × (Int × (Bool))) × (Bool × (Bool × (Int × (Int × (Int × (Bool)))))))) × (Int × ((Int × Int) × (Int × ((List (Int × (List Int))) × ((List (Int × (List Int))) × Int)))))) (c1 : Int × (Int × (List Int))) : (runK Try.prog (Ev110 N) 400 28 [(.pair (.pair .bool (.pair (.pair (.int .u16) (.pair (.int .u32) .bool)) (.pair .bool (.pair .bool (.pair (.int .u32) (.pair (.int .u32) (.pair (.int .u32) .bool))))))) (.pair (.int .i64) (.pair (.pair (.int .i64) (.int .i64)) (.pair (.int .u8) (.pair (.sl (.pair (.int .u8) (.sl (.int .u8)))) (.pair (.sl (.pair (.int .u8) (.sl (.int .u8)))) (.int .i64))))))), (.pair (.int .u8) (.pair (.int .u8) (.sl (.int .u8))))] [(.int .i64)] (n0, c1, ())).run = nego_Nego_event N n0 c1 := by kernel_rfl
noncomputable def Ev111 : (R : Type) → Env R := Env.addFn (Ev110 N) 28 (fun R => fnK [(.pair (.pair .bool (.pair (.pair (.int .u16) (.pair (.int .u32) .bool)) (.pair .bool (.pair .bool (.pair (.int .u32) (.pair (.int .u32) (.pair (.int .u32) .bool))))))) (.pair (.int .i64) (.pair (.pair (.int .i64) (.int .i64)) (.pair (.int .u8) (.pair (.sl (.pair (.int .u8) (.sl (.int .u8)))) (.pair (.sl (.pair (.int .u8) (.sl (.int .u8)))) (.int .i64))))))), (.pair (.int .u8) (.pair (.int .u8) (.sl (.int .u8))))] [(.int .i64)] (fun c => nego_Nego_event N c.1 c.2.1))
theorem Ev111_ok (R : Type) : EnvOK Try.prog (Ev111 N R) := EnvOK.addFn hmx (Ev110_ok N R) (Ev110_ok N _) (by kernel_rfl) (fun c => nego_Nego_event_S N c.1 c.2.1)
noncomputable def Ev112 : (R : Type) → Env R := Env.addBx (Ev111 N) [(50, 0)]
theorem Ev112_ok (R : Type) : EnvOK Try.prog (Ev112 N R) := EnvOK.addBx (Ev111_ok N R) [(50, 0)]
noncomputable def nego_Nego_judged (n0 : (Bool × ((Int × (Int × (Bool))) × (Bool × (Bool × (Int × (Int × (Int × (Bool)))))))) × (Int × ((Int × Int) × (Int × ((List (Int × (List Int))) × ((List (Int × (List Int))) × Int)))))) (l1 : List (Int × (List Int))) : Option (Int × List (Int × (List Int))) :=
 bif n0.1.1 then
  Option.bind (ipcpo_Judge N (n0.1.2.2.2.1, (n0.1.2.2.2.2.1, (n0.1.2.2.2.2.2.1, (n0.1.2.2.2.2.2.2.1, n0.1.2.2.2.2.2.2.2)))) l1) fun v3 =>
  some ((v3.1, v3.2))
 else
  Option.bind (lcpo_Of N l1) fun v3 =>
  Option.bind (lcpo_Judge N l1 n0.1.2.2.1 n0.1.2.1.2.1 (@maxI (1 : Int) (IntKind.wrap .u32 ((IntKind.wrap .u32 ((2654435761 : Int) * (IntKind.wrap .u32 (n0.1.2.1.2.1 + v3.2.1)))) + 1)))) fun v4 =>
  some ((v4.1, v4.2))
theorem nego_Nego_judged_S (n0 : (Bool × ((Int × (Int × (Bool))) × (Bool × (Bool × (Int × (Int × (Int × (Bool)))))))) × (Int × ((Int × Int) × (Int × ((List (Int × (List Int))) × ((List (Int × (List Int))) × Int)))))) (l1 : List (Int × (List Int))) : (runK Try.prog (Ev112 N) 400 50 [(.pair (.pair .bool (.pair (.pair (.int .u16) (.pair (.int .u32) .bool)) (.pair .bool (.pair .bool (.pair (.int .u32) (.pair (.int .u32) (.pair (.int .u32) .bool))))))) (.pair (.int .i64) (.pair (.pair (.int .i64) (.int .i64)) (.pair (.int .u8) (.pair (.sl (.pair (.int .u8) (.sl (.int .u8)))) (.pair (.sl (.pair (.int .u8) (.sl (.int .u8)))) (.int .i64))))))), (.sl (.pair (.int .u8) (.sl (.int .u8))))] [(.int .u8), (.sl (.pair (.int .u8) (.sl (.int .u8))))] (n0, l1, ())).run = nego_Nego_judged N n0 l1 := by kernel_rfl
noncomputable def Ev113 : (R : Type) → Env R := Env.addFn (Ev112 N) 50 (fun R => fnK [(.pair (.pair .bool (.pair (.pair (.int .u16) (.pair (.int .u32) .bool)) (.pair .bool (.pair .bool (.pair (.int .u32) (.pair (.int .u32) (.pair (.int .u32) .bool))))))) (.pair (.int .i64) (.pair (.pair (.int .i64) (.int .i64)) (.pair (.int .u8) (.pair (.sl (.pair (.int .u8) (.sl (.int .u8)))) (.pair (.sl (.pair (.int .u8) (.sl (.int .u8)))) (.int .i64))))))), (.sl (.pair (.int .u8) (.sl (.int .u8))))] [(.int .u8), (.sl (.pair (.int .u8) (.sl (.int .u8))))] (fun c => nego_Nego_judged N c.1 c.2.1))
theorem Ev113_ok (R : Type) : EnvOK Try.prog (Ev113 N R) := EnvOK.addFn hmx (Ev112_ok N R) (Ev112_ok N _) (by kernel_rfl) (fun c => nego_Nego_judged_S N c.1 c.2.1)
noncomputable def nego_Nego_judge (n0 : (Bool × ((Int × (Int × (Bool))) × (Bool × (Bool × (Int × (Int × (Int × (Bool)))))))) × (Int × ((Int × Int) × (Int × ((List (Int × (List Int))) × ((List (Int × (List Int))) × Int)))))) (c1 : Int × (Int × (List Int))) : Option (((Bool × ((Int × (Int × (Bool))) × (Bool × (Bool × (Int × (Int × (Int × (Bool)))))))) × (Int × ((Int × Int) × (Int × ((List (Int × (List Int))) × ((List (Int × (List Int))) × Int)))))) × (List (Int × (Int × (List Int)))) × (Bool × (Bool × (Bool × (Bool))))) :=
 Option.bind (ctl_Options N (c1.1, (c1.2.1, c1.2.2))) fun v3 =>
 bif (!(decide (v3.2 = (0 : Int)))) then
  some ((((n0.1.1, ((n0.1.2.1.1, (n0.1.2.1.2.1, n0.1.2.1.2.2)), (n0.1.2.2.1, (n0.1.2.2.2.1, (n0.1.2.2.2.2.1, (n0.1.2.2.2.2.2.1, (n0.1.2.2.2.2.2.2.1, n0.1.2.2.2.2.2.2.2))))))), (n0.2.1, ((n0.2.2.1.1, n0.2.2.1.2), (n0.2.2.2.1, (n0.2.2.2.2.1, (n0.2.2.2.2.2.1, n0.2.2.2.2.2.2)))))), (([] : List ((Int × (Int × (List Int))))), (false, (false, (false, false))))))
 else
  Option.bind (nego_Nego_judged N ((n0.1.1, ((n0.1.2.1.1, (n0.1.2.1.2.1, n0.1.2.1.2.2)), (n0.1.2.2.1, (n0.1.2.2.2.1, (n0.1.2.2.2.2.1, (n0.1.2.2.2.2.2.1, (n0.1.2.2.2.2.2.2.1, n0.1.2.2.2.2.2.2.2))))))), (n0.2.1, ((n0.2.2.1.1, n0.2.2.1.2), (n0.2.2.2.1, (n0.2.2.2.2.1, (n0.2.2.2.2.2.1, n0.2.2.2.2.2.2)))))) v3.1) fun v4 =>
  bif (decide (v4.1 = (2 : Int))) then
   Option.bind (ctl_Conf N v4.1 c1.2.1 v4.2) fun v5 =>
   Option.bind (nego_Nego_done N ((n0.1.1, ((n0.1.2.1.1, (n0.1.2.1.2.1, n0.1.2.1.2.2)), (n0.1.2.2.1, (n0.1.2.2.2.1, (n0.1.2.2.2.2.1, (n0.1.2.2.2.2.2.1, (n0.1.2.2.2.2.2.2.1, n0.1.2.2.2.2.2.2.2))))))), (n0.2.1, ((n0.2.2.1.1, n0.2.2.1.2), (n0.2.2.2.1, (n0.2.2.2.2.1, (v3.1, n0.2.2.2.2.2.2)))))) (6 : Int) (c1.1, (c1.2.1, c1.2.2)) (v5.1.1, (v5.1.2.1, v5.1.2.2))) fun v6 =>
   some ((((v6.1.1.1, ((v6.1.1.2.1.1, (v6.1.1.2.1.2.1, v6.1.1.2.1.2.2)), (v6.1.1.2.2.1, (v6.1.1.2.2.2.1, (v6.1.1.2.2.2.2.1, (v6.1.1.2.2.2.2.2.1, (v6.1.1.2.2.2.2.2.2.1, v6.1.1.2.2.2.2.2.2.2))))))), (v6.1.2.1, ((v6.1.2.2.1.1, v6.1.2.2.1.2), (v6.1.2.2.2.1, (v6.1.2.2.2.2.1, (v6.1.2.2.2.2.2.1, v6.1.2.2.2.2.2.2)))))), (v6.2.1, (v6.2.2.1, (v6.2.2.2.1, (v6.2.2.2.2.1, v6.2.2.2.2.2))))))
  else
   bif (decide (v4.1 = (3 : Int))) then
    bif (decide ((5 : Int) < (IntKind.wrap .i64 (n0.2.2.2.2.2.2 + 1)))) then
     Option.bind (opts_Kinds N v4.2) fun v5 =>
     Option.bind (nego_of N v3.1 v5) fun v6 =>
     Option.bind (ctl_Conf N (4 : Int) c1.2.1 v6) fun v7 =>
     Option.bind (nego_Nego_done N ((n0.1.1, ((n0.1.2.1.1, (n0.1.2.1.2.1, n0.1.2.1.2.2)), (n0.1.2.2.1, (n0.1.2.2.2.1, (n0.1.2.2.2.2.1, (n0.1.2.2.2.2.2.1, (n0.1.2.2.2.2.2.2.1, n0.1.2.2.2.2.2.2.2))))))), (n0.2.1, ((n0.2.2.1.1, n0.2.2.1.2), (n0.2.2.2.1, (n0.2.2.2.2.1, (n0.2.2.2.2.2.1, (IntKind.wrap .i64 (n0.2.2.2.2.2.2 + 1)))))))) (7 : Int) (c1.1, (c1.2.1, c1.2.2)) (v7.1.1, (v7.1.2.1, v7.1.2.2))) fun v8 =>
     some ((((v8.1.1.1, ((v8.1.1.2.1.1, (v8.1.1.2.1.2.1, v8.1.1.2.1.2.2)), (v8.1.1.2.2.1, (v8.1.1.2.2.2.1, (v8.1.1.2.2.2.2.1, (v8.1.1.2.2.2.2.2.1, (v8.1.1.2.2.2.2.2.2.1, v8.1.1.2.2.2.2.2.2.2))))))), (v8.1.2.1, ((v8.1.2.2.1.1, v8.1.2.2.1.2), (v8.1.2.2.2.1, (v8.1.2.2.2.2.1, (v8.1.2.2.2.2.2.1, v8.1.2.2.2.2.2.2)))))), (v8.2.1, (v8.2.2.1, (v8.2.2.2.1, (v8.2.2.2.2.1, v8.2.2.2.2.2))))))
    else
     Option.bind (ctl_Conf N v4.1 c1.2.1 v4.2) fun v5 =>
     Option.bind (nego_Nego_done N ((n0.1.1, ((n0.1.2.1.1, (n0.1.2.1.2.1, n0.1.2.1.2.2)), (n0.1.2.2.1, (n0.1.2.2.2.1, (n0.1.2.2.2.2.1, (n0.1.2.2.2.2.2.1, (n0.1.2.2.2.2.2.2.1, n0.1.2.2.2.2.2.2.2))))))), (n0.2.1, ((n0.2.2.1.1, n0.2.2.1.2), (n0.2.2.2.1, (n0.2.2.2.2.1, (n0.2.2.2.2.2.1, (IntKind.wrap .i64 (n0.2.2.2.2.2.2 + 1)))))))) (7 : Int) (c1.1, (c1.2.1, c1.2.2)) (v5.1.1, (v5.1.2.1, v5.1.2.2))) fun v6 =>
     some ((((v6.1.1.1, ((v6.1.1.2.1.1, (v6.1.1.2.1.2.1, v6.1.1.2.1.2.2)), (v6.1.1.2.2.1, (v6.1.1.2.2.2.1, (v6.1.1.2.2.2.2.1, (v6.1.1.2.2.2.2.2.1, (v6.1.1.2.2.2.2.2.2.1, v6.1.1.2.2.2.2.2.2.2))))))), (v6.1.2.1, ((v6.1.2.2.1.1, v6.1.2.2.1.2), (v6.1.2.2.2.1, (v6.1.2.2.2.2.1, (v6.1.2.2.2.2.2.1, v6.1.2.2.2.2.2.2)))))), (v6.2.1, (v6.2.2.1, (v6.2.2.2.1, (v6.2.2.2.2.1, v6.2.2.2.2.2))))))
   else
    Option.bind (ctl_Conf N v4.1 c1.2.1 v4.2) fun v5 =>
    Option.bind (nego_Nego_done N ((n0.1.1, ((n0.1.2.1.1, (n0.1.2.1.2.1, n0.1.2.1.2.2)), (n0.1.2.2.1, (n0.1.2.2.2.1, (n0.1.2.2.2.2.1, (n0.1.2.2.2.2.2.1, (n0.1.2.2.2.2.2.2.1, n0.1.2.2.2.2.2.2.2))))))), (n0.2.1, ((n0.2.2.1.1, n0.2.2.1.2), (n0.2.2.2.1, (n0.2.2.2.2.1, (n0.2.2.2.2.2.1, n0.2.2.2.2.2.2)))))) (7 : Int) (c1.1, (c1.2.1, c1.2.2)) (v5.1.1, (v5.1.2.1, v5.1.2.2))) fun v6 =>
    some ((((v6.1.1.1, ((v6.1.1.2.1.1, (v6.1.1.2.1.2.1, v6.1.1.2.1.2.2)), (v6.1.1.2.2.1, (v6.1.1.2.2.2.1, (v6.1.1.2.2.2.2.1, (v6.1.1.2.2.2.2.2.1, (v6.1.1.2.2.2.2.2.2.1, v6.1.1.2.2.2.2.2.2.2))))))), (v6.1.2.1, ((v6.1.2.2.1.1, v6.1.2.2.1.2), (v6.1.2.2.2.1, (v6.1.2.2.2.2.1, (v6.1.2.2.2.2.2.1, v6.1.2.2.2.2.2.2)))))), (v6.2.1, (v6.2.2.1, (v6.2.2.2.1, (v6.2.2.2.2.1, v6.2.2.2.2.2))))))
theorem nego_Nego_judge_S (n0 : (Bool × ((Int × (Int × (Bool))) × (Bool × (Bool × (Int × (Int × (Int × (Bool)))))))) × (Int × ((Int × Int) × (Int × ((List (Int × (List Int))) × ((List (Int × (List Int))) × Int)))))) (c1 : Int × (Int × (List Int))) : (runK Try.prog (Ev113 N) 400 25 [(.pair (.pair .bool (.pair (.pair (.int .u16) (.pair (.int .u32) .bool)) (.pair .bool (.pair .bool (.pair (.int .u32) (.pair (.int .u32) (.pair (.int .u32) .bool))))))) (.pair (.int .i64) (.pair (.pair (.int .i64) (.int .i64)) (.pair (.int .u8) (.pair (.sl (.pair (.int .u8) (.sl (.int .u8)))) (.pair (.sl (.pair (.int .u8) (.sl (.int .u8)))) (.int .i64))))))), (.pair (.int .u8) (.pair (.int .u8) (.sl (.int .u8))))] [(.pair (.pair .bool (.pair (.pair (.int .u16) (.pair (.int .u32) .bool)) (.pair .bool (.pair .bool (.pair (.int .u32) (.pair (.int .u32) (.pair (.int .u32) .bool))))))) (.pair (.int .i64) (.pair (.pair (.int .i64) (.int .i64)) (.pair (.int .u8) (.pair (.sl (.pair (.int .u8) (.sl (.int .u8)))) (.pair (.sl (.pair (.int .u8) (.sl (.int .u8)))) (.int .i64))))))), (.pair (.sl (.pair (.int .u8) (.pair (.int .u8) (.sl (.int .u8))))) (.pair .bool (.pair .bool (.pair .bool .bool))))] (n0, c1, ())).run = nego_Nego_judge N n0 c1 := by kernel_rfl
noncomputable def Ev114 : (R : Type) → Env R := Env.addFn (Ev113 N) 25 (fun R => fnK [(.pair (.pair .bool (.pair (.pair (.int .u16) (.pair (.int .u32) .bool)) (.pair .bool (.pair .bool (.pair (.int .u32) (.pair (.int .u32) (.pair (.int .u32) .bool))))))) (.pair (.int .i64) (.pair (.pair (.int .i64) (.int .i64)) (.pair (.int .u8) (.pair (.sl (.pair (.int .u8) (.sl (.int .u8)))) (.pair (.sl (.pair (.int .u8) (.sl (.int .u8)))) (.int .i64))))))), (.pair (.int .u8) (.pair (.int .u8) (.sl (.int .u8))))] [(.pair (.pair .bool (.pair (.pair (.int .u16) (.pair (.int .u32) .bool)) (.pair .bool (.pair .bool (.pair (.int .u32) (.pair (.int .u32) (.pair (.int .u32) .bool))))))) (.pair (.int .i64) (.pair (.pair (.int .i64) (.int .i64)) (.pair (.int .u8) (.pair (.sl (.pair (.int .u8) (.sl (.int .u8)))) (.pair (.sl (.pair (.int .u8) (.sl (.int .u8)))) (.int .i64))))))), (.pair (.sl (.pair (.int .u8) (.pair (.int .u8) (.sl (.int .u8))))) (.pair .bool (.pair .bool (.pair .bool .bool))))] (fun c => nego_Nego_judge N c.1 c.2.1))
theorem Ev114_ok (R : Type) : EnvOK Try.prog (Ev114 N R) := EnvOK.addFn hmx (Ev113_ok N R) (Ev113_ok N _) (by kernel_rfl) (fun c => nego_Nego_judge_S N c.1 c.2.1)
end
section
variable (N : Nat)
noncomputable def nego_Nego_agreed (n0 : (Bool × ((Int × (Int × (Bool))) × (Bool × (Bool × (Int × (Int × (Int × (Bool)))))))) × (Int × ((Int × Int) × (Int × ((List (Int × (List Int))) × ((List (Int × (List Int))) × Int)))))) (c1 : Int × (Int × (List Int))) : Option (((Bool × ((Int × (Int × (Bool))) × (Bool × (Bool × (Int × (Int × (Int × (Bool)))))))) × (Int × ((Int × Int) × (Int × ((List (Int × (List Int))) × ((List (Int × (List Int))) × Int)))))) × (List (Int × (Int × (List Int)))) × (Bool × (Bool × (Bool × (Bool))))) :=
 Option.bind (ctl_Options N (c1.1, (c1.2.1, c1.2.2))) fun v3 =>
 Option.bind (bif (!(decide (v3.2 = (0 : Int)))) then
   some (true)
  else
   some ((cond false true (!(decide (c1.2.1 = n0.2.2.2.1)))))) fun (v4 : Bool) =>
 bif v4 then
  some ((((n0.1.1, ((n0.1.2.1.1, (n0.1.2.1.2.1, n0.1.2.1.2.2)), (n0.1.2.2.1, (n0.1.2.2.2.1, (n0.1.2.2.2.2.1, (n0.1.2.2.2.2.2.1, (n0.1.2.2.2.2.2.2.1, n0.1.2.2.2.2.2.2.2))))))), (n0.2.1, ((n0.2.2.1.1, n0.2.2.1.2), (n0.2.2.2.1, (n0.2.2.2.2.1, (n0.2.2.2.2.2.1, n0.2.2.2.2.2.2)))))), (([] : List ((Int × (Int × (List Int))))), (false, (false, (false, false))))))
 else
  Option.bind (opts_Same N v3.1 n0.2.2.2.2.1) fun v5 =>
  Option.bind (some ((cond false true (!v5)))) fun (v6 : Bool) =>
  bif v6 then
   some ((((n0.1.1, ((n0.1.2.1.1, (n0.1.2.1.2.1, n0.1.2.1.2.2)), (n0.1.2.2.1, (n0.1.2.2.2.1, (n0.1.2.2.2.2.1, (n0.1.2.2.2.2.2.1, (n0.1.2.2.2.2.2.2.1, n0.1.2.2.2.2.2.2.2))))))), (n0.2.1, ((n0.2.2.1.1, n0.2.2.1.2), (n0.2.2.2.1, (n0.2.2.2.2.1, (n0.2.2.2.2.2.1, n0.2.2.2.2.2.2)))))), (([] : List ((Int × (Int × (List Int))))), (false, (false, (false, false))))))
  else
   Option.bind (nego_Nego_done N ((n0.1.1, ((n0.1.2.1.1, (n0.1.2.1.2.1, n0.1.2.1.2.2)), (n0.1.2.2.1, (n0.1.2.2.2.1, (n0.1.2.2.2.2.1, (n0.1.2.2.2.2.2.1, (n0.1.2.2.2.2.2.2.1, n0.1.2.2.2.2.2.2.2))))))), (n0.2.1, ((n0.2.2.1.1, n0.2.2.1.2), (n0.2.2.2.1, (n0.2.2.2.2.1, (n0.2.2.2.2.2.1, (0 : Int))))))) (8 : Int) (c1.1, (c1.2.1, c1.2.2)) ((0 : Int), ((0 : Int), ([] : List Int)))) fun v7 =>
   some ((((v7.1.1.1, ((v7.1.1.2.1.1, (v7.1.1.2.1.2.1, v7.1.1.2.1.2.2)), (v7.1.1.2.2.1, (v7.1.1.2.2.2.1, (v7.1.1.2.2.2.2.1, (v7.1.1.2.2.2.2.2.1, (v7.1.1.2.2.2.2.2.2.1, v7.1.1.2.2.2.2.2.2.2))))))), (v7.1.2.1, ((v7.1.2.2.1.1, v7.1.2.2.1.2), (v7.1.2.2.2.1, (v7.1.2.2.2.2.1, (v7.1.2.2.2.2.2.1, v7.1.2.2.2.2.2.2)))))), (v7.2.1, (v7.2.2.1, (v7.2.2.2.1, (v7.2.2.2.2.1, v7.2.2.2.2.2))))))
theorem nego_Nego_agreed_S (n0 : (Bool × ((Int × (Int × (Bool))) × (Bool × (Bool × (Int × (Int × (Int × (Bool)))))))) × (Int × ((Int × Int) × (Int × ((List (Int × (List Int))) × ((List (Int × (List Int))) × Int)))))) (c1 : Int × (Int × (List Int))) : (runK Try.prog (Ev114 N) 400 26 [(.pair (.pair .bool (.pair (.pair (.int .u16) (.pair (.int .u32) .bool)) (.pair .bool (.pair .bool (.pair (.int .u32) (.pair (.int .u32) (.pair (.int .u32) .bool))))))) (.pair (.int .i64) (.pair (.pair (.int .i64) (.int .i64)) (.pair (.int .u8) (.pair (.sl (.pair (.int .u8) (.sl (.int .u8)))) (.pair (.sl (.pair (.int .u8) (.sl (.int .u8)))) (.int .i64))))))), (.pair (.int .u8) (.pair (.int .u8) (.sl (.int .u8))))] [(.pair (.pair .bool (.pair (.pair (.int .u16) (.pair (.int .u32) .bool)) (.pair .bool (.pair .bool (.pair (.int .u32) (.pair (.int .u32) (.pair (.int .u32) .bool))))))) (.pair (.int .i64) (.pair (.pair (.int .i64) (.int .i64)) (.pair (.int .u8) (.pair (.sl (.pair (.int .u8) (.sl (.int .u8)))) (.pair (.sl (.pair (.int .u8) (.sl (.int .u8)))) (.int .i64))))))), (.pair (.sl (.pair (.int .u8) (.pair (.int .u8) (.sl (.int .u8))))) (.pair .bool (.pair .bool (.pair .bool .bool))))] (n0, c1, ())).run = nego_Nego_agreed N n0 c1 := by kernel_rfl
noncomputable def Ev115 : (R : Type) → Env R := Env.addFn (Ev114 N) 26 (fun R => fnK [(.pair (.pair .bool (.pair (.pair (.int .u16) (.pair (.int .u32) .bool)) (.pair .bool (.pair .bool (.pair (.int .u32) (.pair (.int .u32) (.pair (.int .u32) .bool))))))) (.pair (.int .i64) (.pair (.pair (.int .i64) (.int .i64)) (.pair (.int .u8) (.pair (.sl (.pair (.int .u8) (.sl (.int .u8)))) (.pair (.sl (.pair (.int .u8) (.sl (.int .u8)))) (.int .i64))))))), (.pair (.int .u8) (.pair (.int .u8) (.sl (.int .u8))))] [(.pair (.pair .bool (.pair (.pair (.int .u16) (.pair (.int .u32) .bool)) (.pair .bool (.pair .bool (.pair (.int .u32) (.pair (.int .u32) (.pair (.int .u32) .bool))))))) (.pair (.int .i64) (.pair (.pair (.int .i64) (.int .i64)) (.pair (.int .u8) (.pair (.sl (.pair (.int .u8) (.sl (.int .u8)))) (.pair (.sl (.pair (.int .u8) (.sl (.int .u8)))) (.int .i64))))))), (.pair (.sl (.pair (.int .u8) (.pair (.int .u8) (.sl (.int .u8))))) (.pair .bool (.pair .bool (.pair .bool .bool))))] (fun c => nego_Nego_agreed N c.1 c.2.1))
theorem Ev115_ok (R : Type) : EnvOK Try.prog (Ev115 N R) := EnvOK.addFn hmx (Ev114_ok N R) (Ev114_ok N _) (by kernel_rfl) (fun c => nego_Nego_agreed_S N c.1 c.2.1)
noncomputable def nego_Rules_turned (r0 : Bool × ((Int × (Int × (Bool))) × (Bool × (Bool × (Int × (Int × (Int × (Bool)))))))) (code1 : Int) (l2 : List (Int × (List Int))) : Option ((Bool × ((Int × (Int × (Bool))) × (Bool × (Bool × (Int × (Int × (Int × (Bool)))))))) × Bool) :=
 Option.bind (bif (decide (code1 = (3 : Int))) then
   some ((cond true r0.1 false))
  else
   some (false)) fun (v4 : Bool) =>
 bif v4 then
  Option.bind (ipcpo_Naked N (r0.2.2.2.1, (r0.2.2.2.2.1, (r0.2.2.2.2.2.1, (r0.2.2.2.2.2.2.1, r0.2.2.2.2.2.2.2)))) l2) fun v5 =>
  some (((r0.1, ((r0.2.1.1, (r0.2.1.2.1, r0.2.1.2.2)), (r0.2.2.1, (v5.1, (v5.2.1, (v5.2.2.1, (v5.2.2.2.1, v5.2.2.2.2))))))), true))
 else
  bif (decide (code1 = (3 : Int))) then
   Option.bind (lcpo_Naked N (r0.2.1.1, (r0.2.1.2.1, r0.2.1.2.2)) l2 (@maxI (1 : Int) (IntKind.wrap .u32 ((IntKind.wrap .u32 ((2654435761 : Int) * r0.2.1.2.1)) + 1)))) fun v5 =>
   some (((r0.1, ((v5.1, (v5.2.1, v5.2.2)), (r0.2.2.1, (r0.2.2.2.1, (r0.2.2.2.2.1, (r0.2.2.2.2.2.1, (r0.2.2.2.2.2.2.1, r0.2.2.2.2.2.2.2))))))), true))
  else
   bif r0.1 then
    Option.bind (ipcpo_Rejected N (r0.2.2.2.1, (r0.2.2.2.2.1, (r0.2.2.2.2.2.1, (r0.2.2.2.2.2.2.1, r0.2.2.2.2.2.2.2)))) l2) fun v5 =>
    some (((r0.1, ((r0.2.1.1, (r0.2.1.2.1, r0.2.1.2.2)), (r0.2.2.1, (v5.1.1, (v5.1.2.1, (v5.1.2.2.1, (v5.1.2.2.2.1, v5.1.2.2.2.2))))))), v5.2))
   else
    Option.bind (lcpo_Rejected N (r0.2.1.1, (r0.2.1.2.1, r0.2.1.2.2)) l2) fun v5 =>
    some (((r0.1, ((v5.1.1, (v5.1.2.1, v5.1.2.2)), (r0.2.2.1, (r0.2.2.2.1, (r0.2.2.2.2.1, (r0.2.2.2.2.2.1, (r0.2.2.2.2.2.2.1, r0.2.2.2.2.2.2.2))))))), v5.2))
theorem nego_Rules_turned_S (r0 : Bool × ((Int × (Int × (Bool))) × (Bool × (Bool × (Int × (Int × (Int × (Bool)))))))) (code1 : Int) (l2 : List (Int × (List Int))) : (runK Try.prog (Ev115 N) 400 55 [(.pair .bool (.pair (.pair (.int .u16) (.pair (.int .u32) .bool)) (.pair .bool (.pair .bool (.pair (.int .u32) (.pair (.int .u32) (.pair (.int .u32) .bool))))))), (.int .u8), (.sl (.pair (.int .u8) (.sl (.int .u8))))] [(.pair .bool (.pair (.pair (.int .u16) (.pair (.int .u32) .bool)) (.pair .bool (.pair .bool (.pair (.int .u32) (.pair (.int .u32) (.pair (.int .u32) .bool))))))), .bool] (r0, code1, l2, ())).run = nego_Rules_turned N r0 code1 l2 := by kernel_rfl
noncomputable def Ev116 : (R : Type) → Env R := Env.addFn (Ev115 N) 55 (fun R => fnK [(.pair .bool (.pair (.pair (.int .u16) (.pair (.int .u32) .bool)) (.pair .bool (.pair .bool (.pair (.int .u32) (.pair (.int .u32) (.pair (.int .u32) .bool))))))), (.int .u8), (.sl (.pair (.int .u8) (.sl (.int .u8))))] [(.pair .bool (.pair (.pair (.int .u16) (.pair (.int .u32) .bool)) (.pair .bool (.pair .bool (.pair (.int .u32) (.pair (.int .u32) (.pair (.int .u32) .bool))))))), .bool] (fun c => nego_Rules_turned N c.1 c.2.1 c.2.2.1))
theorem Ev116_ok (R : Type) : EnvOK Try.prog (Ev116 N R) := EnvOK.addFn hmx (Ev115_ok N R) (Ev115_ok N _) (by kernel_rfl) (fun c => nego_Rules_turned_S N c.1 c.2.1 c.2.2.1)
noncomputable def nego_Nego_refused (n0 : (Bool × ((Int × (Int × (Bool))) × (Bool × (Bool × (Int × (Int × (Int × (Bool)))))))) × (Int × ((Int × Int) × (Int × ((List (Int × (List Int))) × ((List (Int × (List Int))) × Int)))))) (c1 : Int × (Int × (List Int))) : Option (((Bool × ((Int × (Int × (Bool))) × (Bool × (Bool × (Int × (Int × (Int × (Bool)))))))) × (Int × ((Int × Int) × (Int × ((List (Int × (List Int))) × ((List (Int × (List Int))) × Int)))))) × (List (Int × (Int × (List Int)))) × (Bool × (Bool × (Bool × (Bool))))) :=
 Option.bind (ctl_Options N (c1.1, (c1.2.1, c1.2.2))) fun v3 =>
 Option.bind (bif (!(decide (v3.2 = (0 : Int)))) then
   some (true)
  else
   some ((cond false true (!(decide (c1.2.1 = n0.2.2.2.1)))))) fun (v4 : Bool) =>
 bif v4 then
  some ((((n0.1.1, ((n0.1.2.1.1, (n0.1.2.1.2.1, n0.1.2.1.2.2)), (n0.1.2.2.1, (n0.1.2.2.2.1, (n0.1.2.2.2.2.1, (n0.1.2.2.2.2.2.1, (n0.1.2.2.2.2.2.2.1, n0.1.2.2.2.2.2.2.2))))))), (n0.2.1, ((n0.2.2.1.1, n0.2.2.1.2), (n0.2.2.2.1, (n0.2.2.2.2.1, (n0.2.2.2.2.2.1, n0.2.2.2.2.2.2)))))), (([] : List ((Int × (Int × (List Int))))), (false, (false, (false, false))))))
 else
  Option.bind (some ((cond false true (decide ((((List.length v3.1) : Nat) : Int) = (0 : Int)))))) fun (v5 : Bool) =>
  bif v5 then
   some ((((n0.1.1, ((n0.1.2.1.1, (n0.1.2.1.2.1, n0.1.2.1.2.2)), (n0.1.2.2.1, (n0.1.2.2.2.1, (n0.1.2.2.2.2.1, (n0.1.2.2.2.2.2.1, (n0.1.2.2.2.2.2.2.1, n0.1.2.2.2.2.2.2.2))))))), (n0.2.1, ((n0.2.2.1.1, n0.2.2.1.2), (n0.2.2.2.1, (n0.2.2.2.2.1, (n0.2.2.2.2.2.1, n0.2.2.2.2.2.2)))))), (([] : List ((Int × (Int × (List Int))))), (false, (false, (false, false))))))
  else
   bif (decide (c1.1 = (4 : Int))) then
    Option.bind (opts_Among N v3.1 n0.2.2.2.2.1) fun v6 =>
    Option.bind (some ((cond true (!v6) false))) fun (v7 : Bool) =>
    bif v7 then
     some ((((n0.1.1, ((n0.1.2.1.1, (n0.1.2.1.2.1, n0.1.2.1.2.2)), (n0.1.2.2.1, (n0.1.2.2.2.1, (n0.1.2.2.2.2.1, (n0.1.2.2.2.2.2.1, (n0.1.2.2.2.2.2.2.1, n0.1.2.2.2.2.2.2.2))))))), (n0.2.1, ((n0.2.2.1.1, n0.2.2.1.2), (n0.2.2.2.1, (n0.2.2.2.2.1, (n0.2.2.2.2.2.1, n0.2.2.2.2.2.2)))))), (([] : List ((Int × (Int × (List Int))))), (false, (false, (false, false))))))
    else
     Option.bind (nego_Rules_turned N (n0.1.1, ((n0.1.2.1.1, (n0.1.2.1.2.1, n0.1.2.1.2.2)), (n0.1.2.2.1, (n0.1.2.2.2.1, (n0.1.2.2.2.2.1, (n0.1.2.2.2.2.2.1, (n0.1.2.2.2.2.2.2.1, n0.1.2.2.2.2.2.2.2))))))) c1.1 v3.1) fun v8 =>
     bif (!v8.2) then
      Option.bind (nego_Nego_done N ((v8.1.1, ((v8.1.2.1.1, (v8.1.2.1.2.1, v8.1.2.1.2.2)), (v8.1.2.2.1, (v8.1.2.2.2.1, (v8.1.2.2.2.2.1, (v8.1.2.2.2.2.2.1, (v8.1.2.2.2.2.2.2.1, v8.1.2.2.2.2.2.2.2))))))), (n0.2.1, ((n0.2.2.1.1, n0.2.2.1.2), (n0.2.2.2.1, (n0.2.2.2.2.1, (n0.2.2.2.2.2.1, n0.2.2.2.2.2.2)))))) (14 : Int) (c1.1, (c1.2.1, c1.2.2)) ((0 : Int), ((0 : Int), ([] : List Int)))) fun v9 =>
      some ((((v9.1.1.1, ((v9.1.1.2.1.1, (v9.1.1.2.1.2.1, v9.1.1.2.1.2.2)), (v9.1.1.2.2.1, (v9.1.1.2.2.2.1, (v9.1.1.2.2.2.2.1, (v9.1.1.2.2.2.2.2.1, (v9.1.1.2.2.2.2.2.2.1, v9.1.1.2.2.2.2.2.2.2))))))), (v9.1.2.1, ((v9.1.2.2.1.1, v9.1.2.2.1.2), (v9.1.2.2.2.1, (v9.1.2.2.2.2.1, (v9.1.2.2.2.2.2.1, v9.1.2.2.2.2.2.2)))))), (v9.2.1, (v9.2.2.1, (v9.2.2.2.1, (v9.2.2.2.2.1, v9.2.2.2.2.2))))))
     else
      Option.bind (nego_Nego_done N ((v8.1.1, ((v8.1.2.1.1, (v8.1.2.1.2.1, v8.1.2.1.2.2)), (v8.1.2.2.1, (v8.1.2.2.2.1, (v8.1.2.2.2.2.1, (v8.1.2.2.2.2.2.1, (v8.1.2.2.2.2.2.2.1, v8.1.2.2.2.2.2.2.2))))))), (n0.2.1, ((n0.2.2.1.1, n0.2.2.1.2), (n0.2.2.2.1, (n0.2.2.2.2.1, (n0.2.2.2.2.2.1, n0.2.2.2.2.2.2)))))) (9 : Int) (c1.1, (c1.2.1, c1.2.2)) ((0 : Int), ((0 : Int), ([] : List Int)))) fun v9 =>
      some ((((v9.1.1.1, ((v9.1.1.2.1.1, (v9.1.1.2.1.2.1, v9.1.1.2.1.2.2)), (v9.1.1.2.2.1, (v9.1.1.2.2.2.1, (v9.1.1.2.2.2.2.1, (v9.1.1.2.2.2.2.2.1, (v9.1.1.2.2.2.2.2.2.1, v9.1.1.2.2.2.2.2.2.2))))))), (v9.1.2.1, ((v9.1.2.2.1.1, v9.1.2.2.1.2), (v9.1.2.2.2.1, (v9.1.2.2.2.2.1, (v9.1.2.2.2.2.2.1, v9.1.2.2.2.2.2.2)))))), (v9.2.1, (v9.2.2.1, (v9.2.2.2.1, (v9.2.2.2.2.1, v9.2.2.2.2.2))))))
   else
    Option.bind (nego_Rules_turned N (n0.1.1, ((n0.1.2.1.1, (n0.1.2.1.2.1, n0.1.2.1.2.2)), (n0.1.2.2.1, (n0.1.2.2.2.1, (n0.1.2.2.2.2.1, (n0.1.2.2.2.2.2.1, (n0.1.2.2.2.2.2.2.1, n0.1.2.2.2.2.2.2.2))))))) c1.1 v3.1) fun v6 =>
    bif (!v6.2) then
     Option.bind (nego_Nego_done N ((v6.1.1, ((v6.1.2.1.1, (v6.1.2.1.2.1, v6.1.2.1.2.2)), (v6.1.2.2.1, (v6.1.2.2.2.1, (v6.1.2.2.2.2.1, (v6.1.2.2.2.2.2.1, (v6.1.2.2.2.2.2.2.1, v6.1.2.2.2.2.2.2.2))))))), (n0.2.1, ((n0.2.2.1.1, n0.2.2.1.2), (n0.2.2.2.1, (n0.2.2.2.2.1, (n0.2.2.2.2.2.1, n0.2.2.2.2.2.2)))))) (14 : Int) (c1.1, (c1.2.1, c1.2.2)) ((0 : Int), ((0 : Int), ([] : List Int)))) fun v7 =>
     some ((((v7.1.1.1, ((v7.1.1.2.1.1, (v7.1.1.2.1.2.1, v7.1.1.2.1.2.2)), (v7.1.1.2.2.1, (v7.1.1.2.2.2.1, (v7.1.1.2.2.2.2.1, (v7.1.1.2.2.2.2.2.1, (v7.1.1.2.2.2.2.2.2.1, v7.1.1.2.2.2.2.2.2.2))))))), (v7.1.2.1, ((v7.1.2.2.1.1, v7.1.2.2.1.2), (v7.1.2.2.2.1, (v7.1.2.2.2.2.1, (v7.1.2.2.2.2.2.1, v7.1.2.2.2.2.2.2)))))), (v7.2.1, (v7.2.2.1, (v7.2.2.2.1, (v7.2.2.2.2.1, v7.2.2.2.2.2))))))
    else
     Option.bind (nego_Nego_done N ((v6.1.1, ((v6.1.2.1.1, (v6.1.2.1.2.1, v6.1.2.1.2.2)), (v6.1.2.2.1, (v6.1.2.2.2.1, (v6.1.2.2.2.2.1, (v6.1.2.2.2.2.2.1, (v6.1.2.2.2.2.2.2.1, v6.1.2.2.2.2.2.2.2))))))), (n0.2.1, ((n0.2.2.1.1, n0.2.2.1.2), (n0.2.2.2.1, (n0.2.2.2.2.1, (n0.2.2.2.2.2.1, n0.2.2.2.2.2.2)))))) (9 : Int) (c1.1, (c1.2.1, c1.2.2)) ((0 : Int), ((0 : Int), ([] : List Int)))) fun v7 =>
     some ((((v7.1.1.1, ((v7.1.1.2.1.1, (v7.1.1.2.1.2.1, v7.1.1.2.1.2.2)), (v7.1.1.2.2.1, (v7.1.1.2.2.2.1, (v7.1.1.2.2.2.2.1, (v7.1.1.2.2.2.2.2.1, (v7.1.1.2.2.2.2.2.2.1, v7.1.1.2.2.2.2.2.2.2))))))), (v7.1.2.1, ((v7.1.2.2.1.1, v7.1.2.2.1.2), (v7.1.2.2.2.1, (v7.1.2.2.2.2.1, (v7.1.2.2.2.2.2.1, v7.1.2.2.2.2.2.2)))))), (v7.2.1, (v7.2.2.1, (v7.2.2.2.1, (v7.2.2.2.2.1, v7.2.2.2.2.2))))))
theorem nego_Nego_refused_S (n0 : (Bool × ((Int × (Int × (Bool))) × (Bool × (Bool × (Int × (Int × (Int × (Bool)))))))) × (Int × ((Int × Int) × (Int × ((List (Int × (List Int))) × ((List (Int × (List Int))) × Int)))))) (c1 : Int × (Int × (List Int))) : (runK Try.prog (Ev116 N) 400 27 [(.pair (.pair .bool (.pair (.pair (.int .u16) (.pair (.int .u32) .bool)) (.pair .bool (.pair .bool (.pair (.int .u32) (.pair (.int .u32) (.pair (.int .u32) .bool))))))) (.pair (.int .i64) (.pair (.pair (.int .i64) (.int .i64)) (.pair (.int .u8) (.pair (.sl (.pair (.int .u8) (.sl (.int .u8)))) (.pair (.sl (.pair (.int .u8) (.sl (.int .u8)))) (.int .i64))))))), (.pair (.int .u8) (.pair (.int .u8) (.sl (.int .u8))))] [(.pair (.pair .bool (.pair (.pair (.int .u16) (.pair (.int .u32) .bool)) (.pair .bool (.pair .bool (.pair (.int .u32) (.pair (.int .u32) (.pair (.int .u32) .bool))))))) (.pair (.int .i64) (.pair (.pair (.int .i64) (.int .i64)) (.pair (.int .u8) (.pair (.sl (.pair (.int .u8) (.sl (.int .u8)))) (.pair (.sl (.pair (.int .u8) (.sl (.int .u8)))) (.int .i64))))))), (.pair (.sl (.pair (.int .u8) (.pair (.int .u8) (.sl (.int .u8))))) (.pair .bool (.pair .bool (.pair .bool .bool))))] (n0, c1, ())).run = nego_Nego_refused N n0 c1 := by kernel_rfl
noncomputable def Ev117 : (R : Type) → Env R := Env.addFn (Ev116 N) 27 (fun R => fnK [(.pair (.pair .bool (.pair (.pair (.int .u16) (.pair (.int .u32) .bool)) (.pair .bool (.pair .bool (.pair (.int .u32) (.pair (.int .u32) (.pair (.int .u32) .bool))))))) (.pair (.int .i64) (.pair (.pair (.int .i64) (.int .i64)) (.pair (.int .u8) (.pair (.sl (.pair (.int .u8) (.sl (.int .u8)))) (.pair (.sl (.pair (.int .u8) (.sl (.int .u8)))) (.int .i64))))))), (.pair (.int .u8) (.pair (.int .u8) (.sl (.int .u8))))] [(.pair (.pair .bool (.pair (.pair (.int .u16) (.pair (.int .u32) .bool)) (.pair .bool (.pair .bool (.pair (.int .u32) (.pair (.int .u32) (.pair (.int .u32) .bool))))))) (.pair (.int .i64) (.pair (.pair (.int .i64) (.int .i64)) (.pair (.int .u8) (.pair (.sl (.pair (.int .u8) (.sl (.int .u8)))) (.pair (.sl (.pair (.int .u8) (.sl (.int .u8)))) (.int .i64))))))), (.pair (.sl (.pair (.int .u8) (.pair (.int .u8) (.sl (.int .u8))))) (.pair .bool (.pair .bool (.pair .bool .bool))))] (fun c => nego_Nego_refused N c.1 c.2.1))
theorem Ev117_ok (R : Type) : EnvOK Try.prog (Ev117 N R) := EnvOK.addFn hmx (Ev116_ok N R) (Ev116_ok N _) (by kernel_rfl) (fun c => nego_Nego_refused_S N c.1 c.2.1)
noncomputable def Ev118 : (R : Type) → Env R := Env.addBx (Ev117 N) [(9, 0)]
theorem Ev118_ok (R : Type) : EnvOK Try.prog (Ev118 N R) := EnvOK.addBx (Ev117_ok N R) [(9, 0)]
noncomputable def nego_Nego_Do (n0 : (Bool × ((Int × (Int × (Bool))) × (Bool × (Bool × (Int × (Int × (Int × (Bool)))))))) × (Int × ((Int × Int) × (Int × ((List (Int × (List Int))) × ((List (Int × (List Int))) × Int)))))) (e1 : Int) : Option (((Bool × ((Int × (Int × (Bool))) × (Bool × (Bool × (Int × (Int × (Int × (Bool)))))))) × (Int × ((Int × Int) × (Int × ((List (Int × (List Int))) × ((List (Int × (List Int))) × Int)))))) × (List (Int × (Int × (List Int)))) × (Bool × (Bool × (Bool × (Bool))))) :=
 bif (decide (e1 = (0 : Int))) then
  bif (decide (e1 = (0 : Int))) then
   Option.bind (nego_Nego_done N ((n0.1.1, ((n0.1.2.1.1, (n0.1.2.1.2.1, n0.1.2.1.2.2)), (n0.1.2.2.1, (n0.1.2.2.2.1, (n0.1.2.2.2.2.1, (n0.1.2.2.2.2.2.1, (n0.1.2.2.2.2.2.2.1, n0.1.2.2.2.2.2.2.2))))))), (n0.2.1, ((n0.2.2.1.1, n0.2.2.1.2), (n0.2.2.2.1, (n0.2.2.2.2.1, (n0.2.2.2.2.2.1, n0.2.2.2.2.2.2)))))) e1 ((0 : Int), ((0 : Int), ([] : List Int))) ((0 : Int), ((0 : Int), ([] : List Int)))) fun v3 =>
   some ((((v3.1.1.1, ((v3.1.1.2.1.1, (v3.1.1.2.1.2.1, v3.1.1.2.1.2.2)), (v3.1.1.2.2.1, (v3.1.1.2.2.2.1, (v3.1.1.2.2.2.2.1, (v3.1.1.2.2.2.2.2.1, (v3.1.1.2.2.2.2.2.2.1, v3.1.1.2.2.2.2.2.2.2))))))), (v3.1.2.1, ((v3.1.2.2.1.1, v3.1.2.2.1.2), (v3.1.2.2.2.1, (v3.1.2.2.2.2.1, (v3.1.2.2.2.2.2.1, v3.1.2.2.2.2.2.2)))))), (v3.2.1, (v3.2.2.1, (v3.2.2.2.1, (v3.2.2.2.2.1, v3.2.2.2.2.2))))))
  else
   some ((((n0.1.1, ((n0.1.2.1.1, (n0.1.2.1.2.1, n0.1.2.1.2.2)), (n0.1.2.2.1, (n0.1.2.2.2.1, (n0.1.2.2.2.2.1, (n0.1.2.2.2.2.2.1, (n0.1.2.2.2.2.2.2.1, n0.1.2.2.2.2.2.2.2))))))), (n0.2.1, ((n0.2.2.1.1, n0.2.2.1.2), (n0.2.2.2.1, (n0.2.2.2.2.1, (n0.2.2.2.2.2.1, n0.2.2.2.2.2.2)))))), (([] : List ((Int × (Int × (List Int))))), (false, (false, (false, false))))))
 else
  bif (decide (e1 = (1 : Int))) then
   bif (decide (e1 = (1 : Int))) then
    Option.bind (nego_Nego_done N ((n0.1.1, ((n0.1.2.1.1, (n0.1.2.1.2.1, n0.1.2.1.2.2)), (n0.1.2.2.1, (n0.1.2.2.2.1, (n0.1.2.2.2.2.1, (n0.1.2.2.2.2.2.1, (n0.1.2.2.2.2.2.2.1, n0.1.2.2.2.2.2.2.2))))))), (n0.2.1, ((n0.2.2.1.1, n0.2.2.1.2), (n0.2.2.2.1, (n0.2.2.2.2.1, (n0.2.2.2.2.2.1, n0.2.2.2.2.2.2)))))) e1 ((0 : Int), ((0 : Int), ([] : List Int))) ((0 : Int), ((0 : Int), ([] : List Int)))) fun v3 =>
    some ((((v3.1.1.1, ((v3.1.1.2.1.1, (v3.1.1.2.1.2.1, v3.1.1.2.1.2.2)), (v3.1.1.2.2.1, (v3.1.1.2.2.2.1, (v3.1.1.2.2.2.2.1, (v3.1.1.2.2.2.2.2.1, (v3.1.1.2.2.2.2.2.2.1, v3.1.1.2.2.2.2.2.2.2))))))), (v3.1.2.1, ((v3.1.2.2.1.1, v3.1.2.2.1.2), (v3.1.2.2.2.1, (v3.1.2.2.2.2.1, (v3.1.2.2.2.2.2.1, v3.1.2.2.2.2.2.2)))))), (v3.2.1, (v3.2.2.1, (v3.2.2.2.1, (v3.2.2.2.2.1, v3.2.2.2.2.2))))))
   else
    some ((((n0.1.1, ((n0.1.2.1.1, (n0.1.2.1.2.1, n0.1.2.1.2.2)), (n0.1.2.2.1, (n0.1.2.2.2.1, (n0.1.2.2.2.2.1, (n0.1.2.2.2.2.2.1, (n0.1.2.2.2.2.2.2.1, n0.1.2.2.2.2.2.2.2))))))), (n0.2.1, ((n0.2.2.1.1, n0.2.2.1.2), (n0.2.2.2.1, (n0.2.2.2.2.1, (n0.2.2.2.2.2.1, n0.2.2.2.2.2.2)))))), (([] : List ((Int × (Int × (List Int))))), (false, (false, (false, false))))))
  else
   bif (decide (e1 = (2 : Int))) then
    bif (decide (e1 = (2 : Int))) then
     Option.bind (nego_Nego_done N ((n0.1.1, ((n0.1.2.1.1, (n0.1.2.1.2.1, n0.1.2.1.2.2)), (n0.1.2.2.1, (n0.1.2.2.2.1, (n0.1.2.2.2.2.1, (n0.1.2.2.2.2.2.1, (n0.1.2.2.2.2.2.2.1, n0.1.2.2.2.2.2.2.2))))))), (n0.2.1, ((n0.2.2.1.1, n0.2.2.1.2), (n0.2.2.2.1, (n0.2.2.2.2.1, (n0.2.2.2.2.2.1, n0.2.2.2.2.2.2)))))) e1 ((0 : Int), ((0 : Int), ([] : List Int))) ((0 : Int), ((0 : Int), ([] : List Int)))) fun v3 =>
     some ((((v3.1.1.1, ((v3.1.1.2.1.1, (v3.1.1.2.1.2.1, v3.1.1.2.1.2.2)), (v3.1.1.2.2.1, (v3.1.1.2.2.2.1, (v3.1.1.2.2.2.2.1, (v3.1.1.2.2.2.2.2.1, (v3.1.1.2.2.2.2.2.2.1, v3.1.1.2.2.2.2.2.2.2))))))), (v3.1.2.1, ((v3.1.2.2.1.1, v3.1.2.2.1.2), (v3.1.2.2.2.1, (v3.1.2.2.2.2.1, (v3.1.2.2.2.2.2.1, v3.1.2.2.2.2.2.2)))))), (v3.2.1, (v3.2.2.1, (v3.2.2.2.1, (v3.2.2.2.2.1, v3.2.2.2.2.2))))))
    else
     some ((((n0.1.1, ((n0.1.2.1.1, (n0.1.2.1.2.1, n0.1.2.1.2.2)), (n0.1.2.2.1, (n0.1.2.2.2.1, (n0.1.2.2.2.2.1, (n0.1.2.2.2.2.2.1, (n0.1.2.2.2.2.2.2.1, n0.1.2.2.2.2.2.2.2))))))), (n0.2.1, ((n0.2.2.1.1, n0.2.2.1.2), (n0.2.2.2.1, (n0.2.2.2.2.1, (n0.2.2.2.2.2.1, n0.2.2.2.2.2.2)))))), (([] : List ((Int × (Int × (List Int))))), (false, (false, (false, false))))))
   else
    bif (decide (e1 = (3 : Int))) then
     Option.bind (nego_Nego_done N ((n0.1.1, ((n0.1.2.1.1, (n0.1.2.1.2.1, n0.1.2.1.2.2)), (n0.1.2.2.1, (n0.1.2.2.2.1, (n0.1.2.2.2.2.1, (n0.1.2.2.2.2.2.1, (n0.1.2.2.2.2.2.2.1, n0.1.2.2.2.2.2.2.2))))))), (n0.2.1, ((n0.2.2.1.1, n0.2.2.1.2), (n0.2.2.2.1, (n0.2.2.2.2.1, (n0.2.2.2.2.2.1, n0.2.2.2.2.2.2)))))) e1 ((0 : Int), ((0 : Int), ([] : List Int))) ((0 : Int), ((0 : Int), ([] : List Int)))) fun v3 =>
     some ((((v3.1.1.1, ((v3.1.1.2.1.1, (v3.1.1.2.1.2.1, v3.1.1.2.1.2.2)), (v3.1.1.2.2.1, (v3.1.1.2.2.2.1, (v3.1.1.2.2.2.2.1, (v3.1.1.2.2.2.2.2.1, (v3.1.1.2.2.2.2.2.2.1, v3.1.1.2.2.2.2.2.2.2))))))), (v3.1.2.1, ((v3.1.2.2.1.1, v3.1.2.2.1.2), (v3.1.2.2.2.1, (v3.1.2.2.2.2.1, (v3.1.2.2.2.2.2.1, v3.1.2.2.2.2.2.2)))))), (v3.2.1, (v3.2.2.1, (v3.2.2.2.1, (v3.2.2.2.2.1, v3.2.2.2.2.2))))))
    else
     some ((((n0.1.1, ((n0.1.2.1.1, (n0.1.2.1.2.1, n0.1.2.1.2.2)), (n0.1.2.2.1, (n0.1.2.2.2.1, (n0.1.2.2.2.2.1, (n0.1.2.2.2.2.2.1, (n0.1.2.2.2.2.2.2.1, n0.1.2.2.2.2.2.2.2))))))), (n0.2.1, ((n0.2.2.1.1, n0.2.2.1.2), (n0.2.2.2.1, (n0.2.2.2.2.1, (n0.2.2.2.2.2.1, n0.2.2.2.2.2.2)))))), (([] : List ((Int × (Int × (List Int))))), (false, (false, (false, false))))))
theorem nego_Nego_Do_S (n0 : (Bool × ((Int × (Int × (Bool))) × (Bool × (Bool × (Int × (Int × (Int × (Bool)))))))) × (Int × ((Int × Int) × (Int × ((List (Int × (List Int))) × ((List (Int × (List Int))) × Int)))))) (e1 : Int) : (runK Try.prog (Ev118 N) 400 9 [(.pair (.pair .bool (.pair (.pair (.int .u16) (.pair (.int .u32) .bool)) (.pair .bool (.pair .bool (.pair (.int .u32) (.pair (.int .u32) (.pair (.int .u32) .bool))))))) (.pair (.int .i64) (.pair (.pair (.int .i64) (.int .i64)) (.pair (.int .u8) (.pair (.sl (.pair (.int .u8) (.sl (.int .u8)))) (.pair (.sl (.pair (.int .u8) (.sl (.int .u8)))) (.int .i64))))))), (.int .i64)] [(.pair (.pair .bool (.pair (.pair (.int .u16) (.pair (.int .u32) .bool)) (.pair .bool (.pair .bool (.pair (.int .u32) (.pair (.int .u32) (.pair (.int .u32) .bool))))))) (.pair (.int .i64) (.pair (.pair (.int .i64) (.int .i64)) (.pair (.int .u8) (.pair (.sl (.pair (.int .u8) (.sl (.int .u8)))) (.pair (.sl (.pair (.int .u8) (.sl (.int .u8)))) (.int .i64))))))), (.pair (.sl (.pair (.int .u8) (.pair (.int .u8) (.sl (.int .u8))))) (.pair .bool (.pair .bool (.pair .bool .bool))))] (n0, e1, ())).run = nego_Nego_Do N n0 e1 := by kernel_rfl
noncomputable def Ev119 : (R : Type) → Env R := Env.addFn (Ev118 N) 9 (fun R => fnK [(.pair (.pair .bool (.pair (.pair (.int .u16) (.pair (.int .u32) .bool)) (.pair .bool (.pair .bool (.pair (.int .u32) (.pair (.int .u32) (.pair (.int .u32) .bool))))))) (.pair (.int .i64) (.pair (.pair (.int .i64) (.int .i64)) (.pair (.int .u8) (.pair (.sl (.pair (.int .u8) (.sl (.int .u8)))) (.pair (.sl (.pair (.int .u8) (.sl (.int .u8)))) (.int .i64))))))), (.int .i64)] [(.pair (.pair .bool (.pair (.pair (.int .u16) (.pair (.int .u32) .bool)) (.pair .bool (.pair .bool (.pair (.int .u32) (.pair (.int .u32) (.pair (.int .u32) .bool))))))) (.pair (.int .i64) (.pair (.pair (.int .i64) (.int .i64)) (.pair (.int .u8) (.pair (.sl (.pair (.int .u8) (.sl (.int .u8)))) (.pair (.sl (.pair (.int .u8) (.sl (.int .u8)))) (.int .i64))))))), (.pair (.sl (.pair (.int .u8) (.pair (.int .u8) (.sl (.int .u8))))) (.pair .bool (.pair .bool (.pair .bool .bool))))] (fun c => nego_Nego_Do N c.1 c.2.1))
theorem Ev119_ok (R : Type) : EnvOK Try.prog (Ev119 N R) := EnvOK.addFn hmx (Ev118_ok N R) (Ev118_ok N _) (by kernel_rfl) (fun c => nego_Nego_Do_S N c.1 c.2.1)
noncomputable def nego_Nego_Tick (n0 : (Bool × ((Int × (Int × (Bool))) × (Bool × (Bool × (Int × (Int × (Int × (Bool)))))))) × (Int × ((Int × Int) × (Int × ((List (Int × (List Int))) × ((List (Int × (List Int))) × Int)))))) : Option (((Bool × ((Int × (Int × (Bool))) × (Bool × (Bool × (Int × (Int × (Int × (Bool)))))))) × (Int × ((Int × Int) × (Int × ((List (Int × (List Int))) × ((List (Int × (List Int))) × Int)))))) × (List (Int × (Int × (List Int)))) × (Bool × (Bool × (Bool × (Bool))))) :=
 Option.bind (retry_Retry_Tick N (n0.2.2.1.1, n0.2.2.1.2)) fun v2 =>
 bif (!v2.2) then
  some ((((n0.1.1, ((n0.1.2.1.1, (n0.1.2.1.2.1, n0.1.2.1.2.2)), (n0.1.2.2.1, (n0.1.2.2.2.1, (n0.1.2.2.2.2.1, (n0.1.2.2.2.2.2.1, (n0.1.2.2.2.2.2.2.1, n0.1.2.2.2.2.2.2.2))))))), (n0.2.1, ((v2.1.1, v2.1.2), (n0.2.2.2.1, (n0.2.2.2.2.1, (n0.2.2.2.2.2.1, n0.2.2.2.2.2.2)))))), (([] : List ((Int × (Int × (List Int))))), (false, (false, (false, false))))))
 else
  bif (decide ((0 : Int) < v2.1.1)) then
   Option.bind (nego_Nego_done N ((n0.1.1, ((n0.1.2.1.1, (n0.1.2.1.2.1, n0.1.2.1.2.2)), (n0.1.2.2.1, (n0.1.2.2.2.1, (n0.1.2.2.2.2.1, (n0.1.2.2.2.2.2.1, (n0.1.2.2.2.2.2.2.1, n0.1.2.2.2.2.2.2.2))))))), (n0.2.1, ((v2.1.1, v2.1.2), (n0.2.2.2.1, (n0.2.2.2.2.1, (n0.2.2.2.2.2.1, n0.2.2.2.2.2.2)))))) (4 : Int) ((0 : Int), ((0 : Int), ([] : List Int))) ((0 : Int), ((0 : Int), ([] : List Int)))) fun v3 =>
   some ((((v3.1.1.1, ((v3.1.1.2.1.1, (v3.1.1.2.1.2.1, v3.1.1.2.1.2.2)), (v3.1.1.2.2.1, (v3.1.1.2.2.2.1, (v3.1.1.2.2.2.2.1, (v3.1.1.2.2.2.2.2.1, (v3.1.1.2.2.2.2.2.2.1, v3.1.1.2.2.2.2.2.2.2))))))), (v3.1.2.1, ((v3.1.2.2.1.1, v3.1.2.2.1.2), (v3.1.2.2.2.1, (v3.1.2.2.2.2.1, (v3.1.2.2.2.2.2.1, v3.1.2.2.2.2.2.2)))))), (v3.2.1, (v3.2.2.1, (v3.2.2.2.1, (v3.2.2.2.2.1, v3.2.2.2.2.2))))))
  else
   Option.bind (nego_Nego_done N ((n0.1.1, ((n0.1.2.1.1, (n0.1.2.1.2.1, n0.1.2.1.2.2)), (n0.1.2.2.1, (n0.1.2.2.2.1, (n0.1.2.2.2.2.1, (n0.1.2.2.2.2.2.1, (n0.1.2.2.2.2.2.2.1, n0.1.2.2.2.2.2.2.2))))))), (n0.2.1, ((v2.1.1, v2.1.2), (n0.2.2.2.1, (n0.2.2.2.2.1, (n0.2.2.2.2.2.1, n0.2.2.2.2.2.2)))))) (5 : Int) ((0 : Int), ((0 : Int), ([] : List Int))) ((0 : Int), ((0 : Int), ([] : List Int)))) fun v3 =>
   some ((((v3.1.1.1, ((v3.1.1.2.1.1, (v3.1.1.2.1.2.1, v3.1.1.2.1.2.2)), (v3.1.1.2.2.1, (v3.1.1.2.2.2.1, (v3.1.1.2.2.2.2.1, (v3.1.1.2.2.2.2.2.1, (v3.1.1.2.2.2.2.2.2.1, v3.1.1.2.2.2.2.2.2.2))))))), (v3.1.2.1, ((v3.1.2.2.1.1, v3.1.2.2.1.2), (v3.1.2.2.2.1, (v3.1.2.2.2.2.1, (v3.1.2.2.2.2.2.1, v3.1.2.2.2.2.2.2)))))), (v3.2.1, (v3.2.2.1, (v3.2.2.2.1, (v3.2.2.2.2.1, v3.2.2.2.2.2))))))
theorem nego_Nego_Tick_S (n0 : (Bool × ((Int × (Int × (Bool))) × (Bool × (Bool × (Int × (Int × (Int × (Bool)))))))) × (Int × ((Int × Int) × (Int × ((List (Int × (List Int))) × ((List (Int × (List Int))) × Int)))))) : (runK Try.prog (Ev119 N) 400 10 [(.pair (.pair .bool (.pair (.pair (.int .u16) (.pair (.int .u32) .bool)) (.pair .bool (.pair .bool (.pair (.int .u32) (.pair (.int .u32) (.pair (.int .u32) .bool))))))) (.pair (.int .i64) (.pair (.pair (.int .i64) (.int .i64)) (.pair (.int .u8) (.pair (.sl (.pair (.int .u8) (.sl (.int .u8)))) (.pair (.sl (.pair (.int .u8) (.sl (.int .u8)))) (.int .i64)))))))] [(.pair (.pair .bool (.pair (.pair (.int .u16) (.pair (.int .u32) .bool)) (.pair .bool (.pair .bool (.pair (.int .u32) (.pair (.int .u32) (.pair (.int .u32) .bool))))))) (.pair (.int .i64) (.pair (.pair (.int .i64) (.int .i64)) (.pair (.int .u8) (.pair (.sl (.pair (.int .u8) (.sl (.int .u8)))) (.pair (.sl (.pair (.int .u8) (.sl (.int .u8)))) (.int .i64))))))), (.pair (.sl (.pair (.int .u8) (.pair (.int .u8) (.sl (.int .u8))))) (.pair .bool (.pair .bool (.pair .bool .bool))))] (n0, ())).run = nego_Nego_Tick N n0 := by kernel_rfl
noncomputable def Ev120 : (R : Type) → Env R := Env.addFn (Ev119 N) 10 (fun R => fnK [(.pair (.pair .bool (.pair (.pair (.int .u16) (.pair (.int .u32) .bool)) (.pair .bool (.pair .bool (.pair (.int .u32) (.pair (.int .u32) (.pair (.int .u32) .bool))))))) (.pair (.int .i64) (.pair (.pair (.int .i64) (.int .i64)) (.pair (.int .u8) (.pair (.sl (.pair (.int .u8) (.sl (.int .u8)))) (.pair (.sl (.pair (.int .u8) (.sl (.int .u8)))) (.int .i64)))))))] [(.pair (.pair .bool (.pair (.pair (.int .u16) (.pair (.int .u32) .bool)) (.pair .bool (.pair .bool (.pair (.int .u32) (.pair (.int .u32) (.pair (.int .u32) .bool))))))) (.pair (.int .i64) (.pair (.pair (.int .i64) (.int .i64)) (.pair (.int .u8) (.pair (.sl (.pair (.int .u8) (.sl (.int .u8)))) (.pair (.sl (.pair (.int .u8) (.sl (.int .u8)))) (.int .i64))))))), (.pair (.sl (.pair (.int .u8) (.pair (.int .u8) (.sl (.int .u8))))) (.pair .bool (.pair .bool (.pair .bool .bool))))] (fun c => nego_Nego_Tick N c.1))
theorem Ev120_ok (R : Type) : EnvOK Try.prog (Ev120 N R) := EnvOK.addFn hmx (Ev119_ok N R) (Ev119_ok N _) (by kernel_rfl) (fun c => nego_Nego_Tick_S N c.1)
noncomputable def Ev121 : (R : Type) → Env R := Env.addBx (Ev120 N) [(11, 0)]
theorem Ev121_ok (R : Type) : EnvOK Try.prog (Ev121 N R) := EnvOK.addBx (Ev120_ok N R) [(11, 0)]
noncomputable def nego_Nego_Take (n0 : (Bool × ((Int × (Int × (Bool))) × (Bool × (Bool × (Int × (Int × (Int × (Bool)))))))) × (Int × ((Int × Int) × (Int × ((List (Int × (List Int))) × ((List (Int × (List Int))) × Int)))))) (c1 : Int × (Int × (List Int))) : Option (((Bool × ((Int × (Int × (Bool))) × (Bool × (Bool × (Int × (Int × (Int × (Bool)))))))) × (Int × ((Int × Int) × (Int × ((List (Int × (List Int))) × ((List (Int × (List Int))) × Int)))))) × (List (Int × (Int × (List Int)))) × (Bool × (Bool × (Bool × (Bool))))) :=
 bif (decide (c1.1 = (1 : Int))) then
  Option.bind (nego_Nego_judge N ((n0.1.1, ((n0.1.2.1.1, (n0.1.2.1.2.1, n0.1.2.1.2.2)), (n0.1.2.2.1, (n0.1.2.2.2.1, (n0.1.2.2.2.2.1, (n0.1.2.2.2.2.2.1, (n0.1.2.2.2.2.2.2.1, n0.1.2.2.2.2.2.2.2))))))), (n0.2.1, ((n0.2.2.1.1, n0.2.2.1.2), (n0.2.2.2.1, (n0.2.2.2.2.1, (n0.2.2.2.2.2.1, n0.2.2.2.2.2.2)))))) (c1.1, (c1.2.1, c1.2.2))) fun v3 =>
  some ((((v3.1.1.1, ((v3.1.1.2.1.1, (v3.1.1.2.1.2.1, v3.1.1.2.1.2.2)), (v3.1.1.2.2.1, (v3.1.1.2.2.2.1, (v3.1.1.2.2.2.2.1, (v3.1.1.2.2.2.2.2.1, (v3.1.1.2.2.2.2.2.2.1, v3.1.1.2.2.2.2.2.2.2))))))), (v3.1.2.1, ((v3.1.2.2.1.1, v3.1.2.2.1.2), (v3.1.2.2.2.1, (v3.1.2.2.2.2.1, (v3.1.2.2.2.2.2.1, v3.1.2.2.2.2.2.2)))))), (v3.2.1, (v3.2.2.1, (v3.2.2.2.1, (v3.2.2.2.2.1, v3.2.2.2.2.2))))))
 else
  bif (decide (c1.1 = (2 : Int))) then
   Option.bind (nego_Nego_agreed N ((n0.1.1, ((n0.1.2.1.1, (n0.1.2.1.2.1, n0.1.2.1.2.2)), (n0.1.2.2.1, (n0.1.2.2.2.1, (n0.1.2.2.2.2.1, (n0.1.2.2.2.2.2.1, (n0.1.2.2.2.2.2.2.1, n0.1.2.2.2.2.2.2.2))))))), (n0.2.1, ((n0.2.2.1.1, n0.2.2.1.2), (n0.2.2.2.1, (n0.2.2.2.2.1, (n0.2.2.2.2.2.1, n0.2.2.2.2.2.2)))))) (c1.1, (c1.2.1, c1.2.2))) fun v3 =>
   some ((((v3.1.1.1, ((v3.1.1.2.1.1, (v3.1.1.2.1.2.1, v3.1.1.2.1.2.2)), (v3.1.1.2.2.1, (v3.1.1.2.2.2.1, (v3.1.1.2.2.2.2.1, (v3.1.1.2.2.2.2.2.1, (v3.1.1.2.2.2.2.2.2.1, v3.1.1.2.2.2.2.2.2.2))))))), (v3.1.2.1, ((v3.1.2.2.1.1, v3.1.2.2.1.2), (v3.1.2.2.2.1, (v3.1.2.2.2.2.1, (v3.1.2.2.2.2.2.1, v3.1.2.2.2.2.2.2)))))), (v3.2.1, (v3.2.2.1, (v3.2.2.2.1, (v3.2.2.2.2.1, v3.2.2.2.2.2))))))
  else
   bif (decide (c1.1 = (3 : Int))) then
    bif (decide (c1.1 = (3 : Int))) then
     Option.bind (nego_Nego_refused N ((n0.1.1, ((n0.1.2.1.1, (n0.1.2.1.2.1, n0.1.2.1.2.2)), (n0.1.2.2.1, (n0.1.2.2.2.1, (n0.1.2.2.2.2.1, (n0.1.2.2.2.2.2.1, (n0.1.2.2.2.2.2.2.1, n0.1.2.2.2.2.2.2.2))))))), (n0.2.1, ((n0.2.2.1.1, n0.2.2.1.2), (n0.2.2.2.1, (n0.2.2.2.2.1, (n0.2.2.2.2.2.1, n0.2.2.2.2.2.2)))))) (c1.1, (c1.2.1, c1.2.2))) fun v3 =>
     some ((((v3.1.1.1, ((v3.1.1.2.1.1, (v3.1.1.2.1.2.1, v3.1.1.2.1.2.2)), (v3.1.1.2.2.1, (v3.1.1.2.2.2.1, (v3.1.1.2.2.2.2.1, (v3.1.1.2.2.2.2.2.1, (v3.1.1.2.2.2.2.2.2.1, v3.1.1.2.2.2.2.2.2.2))))))), (v3.1.2.1, ((v3.1.2.2.1.1, v3.1.2.2.1.2), (v3.1.2.2.2.1, (v3.1.2.2.2.2.1, (v3.1.2.2.2.2.2.1, v3.1.2.2.2.2.2.2)))))), (v3.2.1, (v3.2.2.1, (v3.2.2.2.1, (v3.2.2.2.2.1, v3.2.2.2.2.2))))))
    else
     Option.bind (nego_Nego_event N ((n0.1.1, ((n0.1.2.1.1, (n0.1.2.1.2.1, n0.1.2.1.2.2)), (n0.1.2.2.1, (n0.1.2.2.2.1, (n0.1.2.2.2.2.1, (n0.1.2.2.2.2.2.1, (n0.1.2.2.2.2.2.2.1, n0.1.2.2.2.2.2.2.2))))))), (n0.2.1, ((n0.2.2.1.1, n0.2.2.1.2), (n0.2.2.2.1, (n0.2.2.2.2.1, (n0.2.2.2.2.2.1, n0.2.2.2.2.2.2)))))) (c1.1, (c1.2.1, c1.2.2))) fun v3 =>
     Option.bind (nego_Nego_done N ((n0.1.1, ((n0.1.2.1.1, (n0.1.2.1.2.1, n0.1.2.1.2.2)), (n0.1.2.2.1, (n0.1.2.2.2.1, (n0.1.2.2.2.2.1, (n0.1.2.2.2.2.2.1, (n0.1.2.2.2.2.2.2.1, n0.1.2.2.2.2.2.2.2))))))), (n0.2.1, ((n0.2.2.1.1, n0.2.2.1.2), (n0.2.2.2.1, (n0.2.2.2.2.1, (n0.2.2.2.2.2.1, n0.2.2.2.2.2.2)))))) v3 (c1.1, (c1.2.1, c1.2.2)) ((0 : Int), ((0 : Int), ([] : List Int)))) fun v4 =>
     some ((((v4.1.1.1, ((v4.1.1.2.1.1, (v4.1.1.2.1.2.1, v4.1.1.2.1.2.2)), (v4.1.1.2.2.1, (v4.1.1.2.2.2.1, (v4.1.1.2.2.2.2.1, (v4.1.1.2.2.2.2.2.1, (v4.1.1.2.2.2.2.2.2.1, v4.1.1.2.2.2.2.2.2.2))))))), (v4.1.2.1, ((v4.1.2.2.1.1, v4.1.2.2.1.2), (v4.1.2.2.2.1, (v4.1.2.2.2.2.1, (v4.1.2.2.2.2.2.1, v4.1.2.2.2.2.2.2)))))), (v4.2.1, (v4.2.2.1, (v4.2.2.2.1, (v4.2.2.2.2.1, v4.2.2.2.2.2))))))
   else
    bif (decide (c1.1 = (4 : Int))) then
     Option.bind (nego_Nego_refused N ((n0.1.1, ((n0.1.2.1.1, (n0.1.2.1.2.1, n0.1.2.1.2.2)), (n0.1.2.2.1, (n0.1.2.2.2.1, (n0.1.2.2.2.2.1, (n0.1.2.2.2.2.2.1, (n0.1.2.2.2.2.2.2.1, n0.1.2.2.2.2.2.2.2))))))), (n0.2.1, ((n0.2.2.1.1, n0.2.2.1.2), (n0.2.2.2.1, (n0.2.2.2.2.1, (n0.2.2.2.2.2.1, n0.2.2.2.2.2.2)))))) (c1.1, (c1.2.1, c1.2.2))) fun v3 =>
     some ((((v3.1.1.1, ((v3.1.1.2.1.1, (v3.1.1.2.1.2.1, v3.1.1.2.1.2.2)), (v3.1.1.2.2.1, (v3.1.1.2.2.2.1, (v3.1.1.2.2.2.2.1, (v3.1.1.2.2.2.2.2.1, (v3.1.1.2.2.2.2.2.2.1, v3.1.1.2.2.2.2.2.2.2))))))), (v3.1.2.1, ((v3.1.2.2.1.1, v3.1.2.2.1.2), (v3.1.2.2.2.1, (v3.1.2.2.2.2.1, (v3.1.2.2.2.2.2.1, v3.1.2.2.2.2.2.2)))))), (v3.2.1, (v3.2.2.1, (v3.2.2.2.1, (v3.2.2.2.2.1, v3.2.2.2.2.2))))))
    else
     Option.bind (nego_Nego_event N ((n0.1.1, ((n0.1.2.1.1, (n0.1.2.1.2.1, n0.1.2.1.2.2)), (n0.1.2.2.1, (n0.1.2.2.2.1, (n0.1.2.2.2.2.1, (n0.1.2.2.2.2.2.1, (n0.1.2.2.2.2.2.2.1, n0.1.2.2.2.2.2.2.2))))))), (n0.2.1, ((n0.2.2.1.1, n0.2.2.1.2), (n0.2.2.2.1, (n0.2.2.2.2.1, (n0.2.2.2.2.2.1, n0.2.2.2.2.2.2)))))) (c1.1, (c1.2.1, c1.2.2))) fun v3 =>
     Option.bind (nego_Nego_done N ((n0.1.1, ((n0.1.2.1.1, (n0.1.2.1.2.1, n0.1.2.1.2.2)), (n0.1.2.2.1, (n0.1.2.2.2.1, (n0.1.2.2.2.2.1, (n0.1.2.2.2.2.2.1, (n0.1.2.2.2.2.2.2.1, n0.1.2.2.2.2.2.2.2))))))), (n0.2.1, ((n0.2.2.1.1, n0.2.2.1.2), (n0.2.2.2.1, (n0.2.2.2.2.1, (n0.2.2.2.2.2.1, n0.2.2.2.2.2.2)))))) v3 (c1.1, (c1.2.1, c1.2.2)) ((0 : Int), ((0 : Int), ([] : List Int)))) fun v4 =>
     some ((((v4.1.1.1, ((v4.1.1.2.1.1, (v4.1.1.2.1.2.1, v4.1.1.2.1.2.2)), (v4.1.1.2.2.1, (v4.1.1.2.2.2.1, (v4.1.1.2.2.2.2.1, (v4.1.1.2.2.2.2.2.1, (v4.1.1.2.2.2.2.2.2.1, v4.1.1.2.2.2.2.2.2.2))))))), (v4.1.2.1, ((v4.1.2.2.1.1, v4.1.2.2.1.2), (v4.1.2.2.2.1, (v4.1.2.2.2.2.1, (v4.1.2.2.2.2.2.1, v4.1.2.2.2.2.2.2)))))), (v4.2.1, (v4.2.2.1, (v4.2.2.2.1, (v4.2.2.2.2.1, v4.2.2.2.2.2))))))
theorem nego_Nego_Take_S (n0 : (Bool × ((Int × (Int × (Bool))) × (Bool × (Bool × (Int × (Int × (Int × (Bool)))))))) × (Int × ((Int × Int) × (Int × ((List (Int × (List Int))) × ((List (Int × (List Int))) × Int)))))) (c1 : Int × (Int × (List Int))) : (runK Try.prog (Ev121 N) 400 11 [(.pair (.pair .bool (.pair (.pair (.int .u16) (.pair (.int .u32) .bool)) (.pair .bool (.pair .bool (.pair (.int .u32) (.pair (.int .u32) (.pair (.int .u32) .bool))))))) (.pair (.int .i64) (.pair (.pair (.int .i64) (.int .i64)) (.pair (.int .u8) (.pair (.sl (.pair (.int .u8) (.sl (.int .u8)))) (.pair (.sl (.pair (.int .u8) (.sl (.int .u8)))) (.int .i64))))))), (.pair (.int .u8) (.pair (.int .u8) (.sl (.int .u8))))] [(.pair (.pair .bool (.pair (.pair (.int .u16) (.pair (.int .u32) .bool)) (.pair .bool (.pair .bool (.pair (.int .u32) (.pair (.int .u32) (.pair (.int .u32) .bool))))))) (.pair (.int .i64) (.pair (.pair (.int .i64) (.int .i64)) (.pair (.int .u8) (.pair (.sl (.pair (.int .u8) (.sl (.int .u8)))) (.pair (.sl (.pair (.int .u8) (.sl (.int .u8)))) (.int .i64))))))), (.pair (.sl (.pair (.int .u8) (.pair (.int .u8) (.sl (.int .u8))))) (.pair .bool (.pair .bool (.pair .bool .bool))))] (n0, c1, ())).run = nego_Nego_Take N n0 c1 := by kernel_rfl
noncomputable def Ev122 : (R : Type) → Env R := Env.addFn (Ev121 N) 11 (fun R => fnK [(.pair (.pair .bool (.pair (.pair (.int .u16) (.pair (.int .u32) .bool)) (.pair .bool (.pair .bool (.pair (.int .u32) (.pair (.int .u32) (.pair (.int .u32) .bool))))))) (.pair (.int .i64) (.pair (.pair (.int .i64) (.int .i64)) (.pair (.int .u8) (.pair (.sl (.pair (.int .u8) (.sl (.int .u8)))) (.pair (.sl (.pair (.int .u8) (.sl (.int .u8)))) (.int .i64))))))), (.pair (.int .u8) (.pair (.int .u8) (.sl (.int .u8))))] [(.pair (.pair .bool (.pair (.pair (.int .u16) (.pair (.int .u32) .bool)) (.pair .bool (.pair .bool (.pair (.int .u32) (.pair (.int .u32) (.pair (.int .u32) .bool))))))) (.pair (.int .i64) (.pair (.pair (.int .i64) (.int .i64)) (.pair (.int .u8) (.pair (.sl (.pair (.int .u8) (.sl (.int .u8)))) (.pair (.sl (.pair (.int .u8) (.sl (.int .u8)))) (.int .i64))))))), (.pair (.sl (.pair (.int .u8) (.pair (.int .u8) (.sl (.int .u8))))) (.pair .bool (.pair .bool (.pair .bool .bool))))] (fun c => nego_Nego_Take N c.1 c.2.1))
theorem Ev122_ok (R : Type) : EnvOK Try.prog (Ev122 N R) := EnvOK.addFn hmx (Ev121_ok N R) (Ev121_ok N _) (by kernel_rfl) (fun c => nego_Nego_Take_S N c.1 c.2.1)
noncomputable def Ev123 : (R : Type) → Env R := Env.addBx (Ev122 N) [(8, 0)]
theorem Ev123_ok (R : Type) : EnvOK Try.prog (Ev123 N R) := EnvOK.addBx (Ev122_ok N R) [(8, 0)]
noncomputable def nego_Nego_State (N : Nat) (n0 : (Bool × ((Int × (Int × (Bool))) × (Bool × (Bool × (Int × (Int × (Int × (Bool)))))))) × (Int × ((Int × Int) × (Int × ((List (Int × (List Int))) × ((List (Int × (List Int))) × Int)))))) : Option Int :=
 some (n0.2.1)
theorem nego_Nego_State_S (n0 : (Bool × ((Int × (Int × (Bool))) × (Bool × (Bool × (Int × (Int × (Int × (Bool)))))))) × (Int × ((Int × Int) × (Int × ((List (Int × (List Int))) × ((List (Int × (List Int))) × Int)))))) : (runK Try.prog (Ev123 N) 400 8 [(.pair (.pair .bool (.pair (.pair (.int .u16) (.pair (.int .u32) .bool)) (.pair .bool (.pair .bool (.pair (.int .u32) (.pair (.int .u32) (.pair (.int .u32) .bool))))))) (.pair (.int .i64) (.pair (.pair (.int .i64) (.int .i64)) (.pair (.int .u8) (.pair (.sl (.pair (.int .u8) (.sl (.int .u8)))) (.pair (.sl (.pair (.int .u8) (.sl (.int .u8)))) (.int .i64)))))))] [(.int .i64)] (n0, ())).run = nego_Nego_State N n0 := by kernel_rfl
noncomputable def Ev124 : (R : Type) → Env R := Env.addFn (Ev123 N) 8 (fun R => fnK [(.pair (.pair .bool (.pair (.pair (.int .u16) (.pair (.int .u32) .bool)) (.pair .bool (.pair .bool (.pair (.int .u32) (.pair (.int .u32) (.pair (.int .u32) .bool))))))) (.pair (.int .i64) (.pair (.pair (.int .i64) (.int .i64)) (.pair (.int .u8) (.pair (.sl (.pair (.int .u8) (.sl (.int .u8)))) (.pair (.sl (.pair (.int .u8) (.sl (.int .u8)))) (.int .i64)))))))] [(.int .i64)] (fun c => nego_Nego_State N c.1))
theorem Ev124_ok (R : Type) : EnvOK Try.prog (Ev124 N R) := EnvOK.addFn hmx (Ev123_ok N R) (Ev123_ok N _) (by kernel_rfl) (fun c => nego_Nego_State_S N c.1)
noncomputable def Ev125 : (R : Type) → Env R := Env.addBx (Ev124 N) [(5, 0)]
theorem Ev125_ok (R : Type) : EnvOK Try.prog (Ev125 N R) := EnvOK.addBx (Ev124_ok N R) [(5, 0)]
noncomputable def nego_New (N : Nat) (r0 : Bool × ((Int × (Int × (Bool))) × (Bool × (Bool × (Int × (Int × (Int × (Bool)))))))) : Option ((Bool × ((Int × (Int × (Bool))) × (Bool × (Bool × (Int × (Int × (Int × (Bool)))))))) × (Int × ((Int × Int) × (Int × ((List (Int × (List Int))) × ((List (Int × (List Int))) × Int)))))) :=
 some (((r0.1, ((r0.2.1.1, (r0.2.1.2.1, r0.2.1.2.2)), (r0.2.2.1, (r0.2.2.2.1, (r0.2.2.2.2.1, (r0.2.2.2.2.2.1, (r0.2.2.2.2.2.2.1, r0.2.2.2.2.2.2.2))))))), ((0 : Int), (((0 : Int), (0 : Int)), ((0 : Int), (([] : List ((Int × (List Int)))), (([] : List ((Int × (List Int)))), (0 : Int))))))))
theorem nego_New_S (r0 : Bool × ((Int × (Int × (Bool))) × (Bool × (Bool × (Int × (Int × (Int × (Bool)))))))) : (runK Try.prog (Ev125 N) 400 5 [(.pair .bool (.pair (.pair (.int .u16) (.pair (.int .u32) .bool)) (.pair .bool (.pair .bool (.pair (.int .u32) (.pair (.int .u32) (.pair (.int .u32) .bool)))))))] [(.pair (.pair .bool (.pair (.pair (.int .u16) (.pair (.int .u32) .bool)) (.pair .bool (.pair .bool (.pair (.int .u32) (.pair (.int .u32) (.pair (.int .u32) .bool))))))) (.pair (.int .i64) (.pair (.pair (.int .i64) (.int .i64)) (.pair (.int .u8) (.pair (.sl (.pair (.int .u8) (.sl (.int .u8)))) (.pair (.sl (.pair (.int .u8) (.sl (.int .u8)))) (.int .i64)))))))] (r0, ())).run = nego_New N r0 := by kernel_rfl
noncomputable def Ev126 : (R : Type) → Env R := Env.addFn (Ev125 N) 5 (fun R => fnK [(.pair .bool (.pair (.pair (.int .u16) (.pair (.int .u32) .bool)) (.pair .bool (.pair .bool (.pair (.int .u32) (.pair (.int .u32) (.pair (.int .u32) .bool)))))))] [(.pair (.pair .bool (.pair (.pair (.int .u16) (.pair (.int .u32) .bool)) (.pair .bool (.pair .bool (.pair (.int .u32) (.pair (.int .u32) (.pair (.int .u32) .bool))))))) (.pair (.int .i64) (.pair (.pair (.int .i64) (.int .i64)) (.pair (.int .u8) (.pair (.sl (.pair (.int .u8) (.sl (.int .u8)))) (.pair (.sl (.pair (.int .u8) (.sl (.int .u8)))) (.int .i64)))))))] (fun c => nego_New N c.1))
theorem Ev126_ok (R : Type) : EnvOK Try.prog (Ev126 N R) := EnvOK.addFn hmx (Ev125_ok N R) (Ev125_ok N _) (by kernel_rfl) (fun c => nego_New_S N c.1)
noncomputable def Ev127 : (R : Type) → Env R := Env.addBx (Ev126 N) [(6, 0)]
theorem Ev127_ok (R : Type) : EnvOK Try.prog (Ev127 N R) := EnvOK.addBx (Ev126_ok N R) [(6, 0)]
noncomputable def law27_rules (N : Nat) (r0 : Bool × ((Int × (Int × (Bool))) × (Bool × (Bool × (Int × (Int × (Int × (Bool)))))))) : Option (Bool × ((Int × (Int × (Bool))) × (Bool × (Bool × (Int × (Int × (Int × (Bool)))))))) :=
 some ((r0.1, ((r0.2.1.1, (r0.2.1.2.1, r0.2.1.2.2)), (r0.2.2.1, (r0.2.2.2.1, (r0.2.2.2.2.1, (r0.2.2.2.2.2.1, (r0.2.2.2.2.2.2.1, r0.2.2.2.2.2.2.2))))))))
theorem law27_rules_S (r0 : Bool × ((Int × (Int × (Bool))) × (Bool × (Bool × (Int × (Int × (Int × (Bool)))))))) : (runK Try.prog (Ev127 N) 400 6 [(.pair .bool (.pair (.pair (.int .u16) (.pair (.int .u32) .bool)) (.pair .bool (.pair .bool (.pair (.int .u32) (.pair (.int .u32) (.pair (.int .u32) .bool)))))))] [(.pair .bool (.pair (.pair (.int .u16) (.pair (.int .u32) .bool)) (.pair .bool (.pair .bool (.pair (.int .u32) (.pair (.int .u32) (.pair (.int .u32) .bool)))))))] (r0, ())).run = law27_rules N r0 := by kernel_rfl
noncomputable def Ev128 : (R : Type) → Env R := Env.addFn (Ev127 N) 6 (fun R => fnK [(.pair .bool (.pair (.pair (.int .u16) (.pair (.int .u32) .bool)) (.pair .bool (.pair .bool (.pair (.int .u32) (.pair (.int .u32) (.pair (.int .u32) .bool)))))))] [(.pair .bool (.pair (.pair (.int .u16) (.pair (.int .u32) .bool)) (.pair .bool (.pair .bool (.pair (.int .u32) (.pair (.int .u32) (.pair (.int .u32) .bool)))))))] (fun c => law27_rules N c.1))
theorem Ev128_ok (R : Type) : EnvOK Try.prog (Ev128 N R) := EnvOK.addFn hmx (Ev127_ok N R) (Ev127_ok N _) (by kernel_rfl) (fun c => law27_rules_S N c.1)
noncomputable def Ev129 : (R : Type) → Env R := Env.addBx (Ev128 N) [(12, 0)]
theorem Ev129_ok (R : Type) : EnvOK Try.prog (Ev129 N R) := EnvOK.addBx (Ev128_ok N R) [(12, 0)]
noncomputable def law27_packet (N : Nat) (c0 : Int × (Int × (List Int))) : Option (Int × (Int × (List Int))) :=
 some ((c0.1, (c0.2.1, c0.2.2)))
theorem law27_packet_S (c0 : Int × (Int × (List Int))) : (runK Try.prog (Ev129 N) 400 12 [(.pair (.int .u8) (.pair (.int .u8) (.sl (.int .u8))))] [(.pair (.int .u8) (.pair (.int .u8) (.sl (.int .u8))))] (c0, ())).run = law27_packet N c0 := by kernel_rfl
noncomputable def Ev130 : (R : Type) → Env R := Env.addFn (Ev129 N) 12 (fun R => fnK [(.pair (.int .u8) (.pair (.int .u8) (.sl (.int .u8))))] [(.pair (.int .u8) (.pair (.int .u8) (.sl (.int .u8))))] (fun c => law27_packet N c.1))
theorem Ev130_ok (R : Type) : EnvOK Try.prog (Ev130 N R) := EnvOK.addFn hmx (Ev129_ok N R) (Ev129_ok N _) (by kernel_rfl) (fun c => law27_packet_S N c.1)
noncomputable def Ev131 : (R : Type) → Env R := Env.addBx (Ev130 N) [(20, 0)]
theorem Ev131_ok (R : Type) : EnvOK Try.prog (Ev131 N R) := EnvOK.addBx (Ev130_ok N R) [(20, 0)]
noncomputable def nego_Nego_Waits (N : Nat) (n0 : (Bool × ((Int × (Int × (Bool))) × (Bool × (Bool × (Int × (Int × (Int × (Bool)))))))) × (Int × ((Int × Int) × (Int × ((List (Int × (List Int))) × ((List (Int × (List Int))) × Int)))))) : Option (Int × Int) :=
 some ((n0.2.2.1.1, n0.2.2.1.2))
theorem nego_Nego_Waits_S (n0 : (Bool × ((Int × (Int × (Bool))) × (Bool × (Bool × (Int × (Int × (Int × (Bool)))))))) × (Int × ((Int × Int) × (Int × ((List (Int × (List Int))) × ((List (Int × (List Int))) × Int)))))) : (runK Try.prog (Ev131 N) 400 20 [(.pair (.pair .bool (.pair (.pair (.int .u16) (.pair (.int .u32) .bool)) (.pair .bool (.pair .bool (.pair (.int .u32) (.pair (.int .u32) (.pair (.int .u32) .bool))))))) (.pair (.int .i64) (.pair (.pair (.int .i64) (.int .i64)) (.pair (.int .u8) (.pair (.sl (.pair (.int .u8) (.sl (.int .u8)))) (.pair (.sl (.pair (.int .u8) (.sl (.int .u8)))) (.int .i64)))))))] [(.int .i64), (.int .i64)] (n0, ())).run = nego_Nego_Waits N n0 := by kernel_rfl
noncomputable def Ev132 : (R : Type) → Env R := Env.addFn (Ev131 N) 20 (fun R => fnK [(.pair (.pair .bool (.pair (.pair (.int .u16) (.pair (.int .u32) .bool)) (.pair .bool (.pair .bool (.pair (.int .u32) (.pair (.int .u32) (.pair (.int .u32) .bool))))))) (.pair (.int .i64) (.pair (.pair (.int .i64) (.int .i64)) (.pair (.int .u8) (.pair (.sl (.pair (.int .u8) (.sl (.int .u8)))) (.pair (.sl (.pair (.int .u8) (.sl (.int .u8)))) (.int .i64)))))))] [(.int .i64), (.int .i64)] (fun c => nego_Nego_Waits N c.1))
theorem Ev132_ok (R : Type) : EnvOK Try.prog (Ev132 N R) := EnvOK.addFn hmx (Ev131_ok N R) (Ev131_ok N _) (by kernel_rfl) (fun c => nego_Nego_Waits_S N c.1)
noncomputable def law27_alive : Option Bool :=
 Option.bind (nego_Nego_Do N ((false, (((1400 : Int), ((0 : Int), false)), (false, (false, ((0 : Int), ((0 : Int), ((0 : Int), false))))))), ((0 : Int), (((0 : Int), (0 : Int)), ((0 : Int), (([] : List ((Int × (List Int)))), (([] : List ((Int × (List Int)))), (0 : Int))))))) (2 : Int)) fun v1 =>
 Option.bind (nego_Nego_Do N ((v1.1.1.1, ((v1.1.1.2.1.1, (v1.1.1.2.1.2.1, v1.1.1.2.1.2.2)), (v1.1.1.2.2.1, (v1.1.1.2.2.2.1, (v1.1.1.2.2.2.2.1, (v1.1.1.2.2.2.2.2.1, (v1.1.1.2.2.2.2.2.2.1, v1.1.1.2.2.2.2.2.2.2))))))), (v1.1.2.1, ((v1.1.2.2.1.1, v1.1.2.2.1.2), (v1.1.2.2.2.1, (v1.1.2.2.2.2.1, (v1.1.2.2.2.2.2.1, v1.1.2.2.2.2.2.2)))))) (0 : Int)) fun v2 =>
 bif v1.2.2.2.2.1 then
  Option.bind (some ((cond true (decide ((((List.length v2.2.1) : Nat) : Int) = (1 : Int))) false))) fun (v3 : Bool) =>
  Option.bind (bif v3 then
    Option.bind (getI v2.2.1 (0 : Int)) fun (v4 : (Int × (Int × (List Int)))) =>
    some ((cond true (decide (v4.1 = (1 : Int))) false))
   else
    some (false)) fun (v4 : Bool) =>
  Option.bind (bif v4 then
    Option.bind (getI v2.2.1 (0 : Int)) fun (v5 : (Int × (Int × (List Int)))) =>
    some ((cond true (decide (v5.2.1 = (1 : Int))) false))
   else
    some (false)) fun (v5 : Bool) =>
  bif v5 then
   Option.bind (getI v2.2.1 (0 : Int)) fun (v6 : (Int × (Int × (List Int)))) =>
   Option.bind (some ((cond true (decide ((((List.length v6.2.2) : Nat) : Int) = (4 : Int))) false))) fun (v7 : Bool) =>
   bif v7 then
    Option.bind (some ((cond true (decide (v2.1.2.1 = (6 : Int))) false))) fun (v8 : Bool) =>
    Option.bind (bif v8 then
      some ((cond true (decide (v2.1.2.2.1.1 = (9 : Int))) false))
     else
      some (false)) fun (v9 : Bool) =>
    Option.bind (bif v9 then
      some ((cond true (decide (v2.1.2.2.1.2 = (3 : Int))) false))
     else
      some (false)) fun (v10 : Bool) =>
    bif v10 then
     some (true)
    else
     some (false)
   else
    some (false)
  else
   some (false)
 else
  some (false)
theorem law27_alive_S : (runK Try.prog (Ev132 N) 400 7 [] [.bool] ()).run = law27_alive N  := by kernel_rfl
noncomputable def Ev133 : (R : Type) → Env R := Env.addFn (Ev132 N) 7 (fun R => fnK [] [.bool] (fun c => law27_alive N ))
theorem Ev133_ok (R : Type) : EnvOK Try.prog (Ev133 N R) := EnvOK.addFn hmx (Ev132_ok N R) (Ev132_ok N _) (by kernel_rfl) (fun c => law27_alive_S N )
end
section
variable (N : Nat)
noncomputable def law27_talk_L10_I : LI := ⟨90, 0, [(12, 60), (13, 60)], ⟨[(3, .lit (.box 0 0)), (4, .lit (.box 1 0)), (6, .lit (.box 2 0)), (7, .lit (.box 3 0)), (11, .ty (.sl (.pair (.int .u8) (.pair (.int .u8) (.sl (.int .u8)))))), (12, .lit (.own 4)), (13, .lit (.own 5)), (46, .ty (.int .i64)), (47, .ty (.int .i64)), (49, .ty (.sl (.pair (.int .u8) (.pair (.int .u8) (.sl (.int .u8)))))), (50, .ty (.int .i64)), (51, .ty (.int .i64))], [.box 42 (.pair (.pair .bool (.pair (.pair (.int .u16) (.pair (.int .u32) .bool)) (.pair .bool (.pair .bool (.pair (.int .u32) (.pair (.int .u32) (.pair (.int .u32) .bool))))))) (.pair (.int .i64) (.pair (.pair (.int .i64) (.int .i64)) (.pair (.int .u8) (.pair (.sl (.pair (.int .u8) (.sl (.int .u8)))) (.pair (.sl (.pair (.int .u8) (.sl (.int .u8)))) (.int .i64))))))), .box 42 (.pair (.pair .bool (.pair (.pair (.int .u16) (.pair (.int .u32) .bool)) (.pair .bool (.pair .bool (.pair (.int .u32) (.pair (.int .u32) (.pair (.int .u32) .bool))))))) (.pair (.int .i64) (.pair (.pair (.int .i64) (.int .i64)) (.pair (.int .u8) (.pair (.sl (.pair (.int .u8) (.sl (.int .u8)))) (.pair (.sl (.pair (.int .u8) (.sl (.int .u8)))) (.int .i64))))))), .box 42 (.pair (.pair .bool (.pair (.pair (.int .u16) (.pair (.int .u32) .bool)) (.pair .bool (.pair .bool (.pair (.int .u32) (.pair (.int .u32) (.pair (.int .u32) .bool))))))) (.pair (.int .i64) (.pair (.pair (.int .i64) (.int .i64)) (.pair (.int .u8) (.pair (.sl (.pair (.int .u8) (.sl (.int .u8)))) (.pair (.sl (.pair (.int .u8) (.sl (.int .u8)))) (.int .i64))))))), .box 42 (.pair (.pair .bool (.pair (.pair (.int .u16) (.pair (.int .u32) .bool)) (.pair .bool (.pair .bool (.pair (.int .u32) (.pair (.int .u32) (.pair (.int .u32) .bool))))))) (.pair (.int .i64) (.pair (.pair (.int .i64) (.int .i64)) (.pair (.int .u8) (.pair (.sl (.pair (.int .u8) (.sl (.int .u8)))) (.pair (.sl (.pair (.int .u8) (.sl (.int .u8)))) (.int .i64))))))), .own (.pair (.int .u8) (.pair (.int .u8) (.sl (.int .u8)))) 60, .own (.pair (.int .u8) (.pair (.int .u8) (.sl (.int .u8)))) 60]⟩, [(.exit 2, ⟨[(3, .lit (.box 0 0)), (4, .lit (.box 1 0)), (6, .lit (.box 2 0)), (7, .lit (.box 3 0)), (11, .ty (.sl (.pair (.int .u8) (.pair (.int .u8) (.sl (.int .u8)))))), (12, .lit (.own 4)), (13, .lit (.own 5)), (46, .ty (.int .i64)), (47, .ty (.int .i64))], [.box 42 (.pair (.pair .bool (.pair (.pair (.int .u16) (.pair (.int .u32) .bool)) (.pair .bool (.pair .bool (.pair (.int .u32) (.pair (.int .u32) (.pair (.int .u32) .bool))))))) (.pair (.int .i64) (.pair (.pair (.int .i64) (.int .i64)) (.pair (.int .u8) (.pair (.sl (.pair (.int .u8) (.sl (.int .u8)))) (.pair (.sl (.pair (.int .u8) (.sl (.int .u8)))) (.int .i64))))))), .box 42 (.pair (.pair .bool (.pair (.pair (.int .u16) (.pair (.int .u32) .bool)) (.pair .bool (.pair .bool (.pair (.int .u32) (.pair (.int .u32) (.pair (.int .u32) .bool))))))) (.pair (.int .i64) (.pair (.pair (.int .i64) (.int .i64)) (.pair (.int .u8) (.pair (.sl (.pair (.int .u8) (.sl (.int .u8)))) (.pair (.sl (.pair (.int .u8) (.sl (.int .u8)))) (.int .i64))))))), .box 42 (.pair (.pair .bool (.pair (.pair (.int .u16) (.pair (.int .u32) .bool)) (.pair .bool (.pair .bool (.pair (.int .u32) (.pair (.int .u32) (.pair (.int .u32) .bool))))))) (.pair (.int .i64) (.pair (.pair (.int .i64) (.int .i64)) (.pair (.int .u8) (.pair (.sl (.pair (.int .u8) (.sl (.int .u8)))) (.pair (.sl (.pair (.int .u8) (.sl (.int .u8)))) (.int .i64))))))), .box 42 (.pair (.pair .bool (.pair (.pair (.int .u16) (.pair (.int .u32) .bool)) (.pair .bool (.pair .bool (.pair (.int .u32) (.pair (.int .u32) (.pair (.int .u32) .bool))))))) (.pair (.int .i64) (.pair (.pair (.int .i64) (.int .i64)) (.pair (.int .u8) (.pair (.sl (.pair (.int .u8) (.sl (.int .u8)))) (.pair (.sl (.pair (.int .u8) (.sl (.int .u8)))) (.int .i64))))))), .own (.pair (.int .u8) (.pair (.int .u8) (.sl (.int .u8)))) 60, .own (.pair (.int .u8) (.pair (.int .u8) (.sl (.int .u8)))) 60]⟩)]⟩
noncomputable def law27_talk_L10 (X : (((List (Int × (Int × (List Int)))) × (Int × (Int × ((List (Int × (Int × (List Int)))) × (Int × (Int × Unit)))))) × (((Bool × ((Int × (Int × (Bool))) × (Bool × (Bool × (Int × (Int × (Int × (Bool)))))))) × (Int × ((Int × Int) × (Int × ((List (Int × (List Int))) × ((List (Int × (List Int))) × Int)))))) × (((Bool × ((Int × (Int × (Bool))) × (Bool × (Bool × (Int × (Int × (Int × (Bool)))))))) × (Int × ((Int × Int) × (Int × ((List (Int × (List Int))) × ((List (Int × (List Int))) × Int)))))) × (((Bool × ((Int × (Int × (Bool))) × (Bool × (Bool × (Int × (Int × (Int × (Bool)))))))) × (Int × ((Int × Int) × (Int × ((List (Int × (List Int))) × ((List (Int × (List Int))) × Int)))))) × (((Bool × ((Int × (Int × (Bool))) × (Bool × (Bool × (Int × (Int × (Int × (Bool)))))))) × (Int × ((Int × Int) × (Int × ((List (Int × (List Int))) × ((List (Int × (List Int))) × Int)))))) × ((List (Int × (Int × (List Int)))) × ((List (Int × (Int × (List Int)))) × Unit))))))) → Option ((((List (Int × (Int × (List Int)))) × (Int × (Int × Unit))) × (((Bool × ((Int × (Int × (Bool))) × (Bool × (Bool × (Int × (Int × (Int × (Bool)))))))) × (Int × ((Int × Int) × (Int × ((List (Int × (List Int))) × ((List (Int × (List Int))) × Int)))))) × (((Bool × ((Int × (Int × (Bool))) × (Bool × (Bool × (Int × (Int × (Int × (Bool)))))))) × (Int × ((Int × Int) × (Int × ((List (Int × (List Int))) × ((List (Int × (List Int))) × Int)))))) × (((Bool × ((Int × (Int × (Bool))) × (Bool × (Bool × (Int × (Int × (Int × (Bool)))))))) × (Int × ((Int × Int) × (Int × ((List (Int × (List Int))) × ((List (Int × (List Int))) × Int)))))) × (((Bool × ((Int × (Int × (Bool))) × (Bool × (Bool × (Int × (Int × (Int × (Bool)))))))) × (Int × ((Int × Int) × (Int × ((List (Int × (List Int))) × ((List (Int × (List Int))) × Int)))))) × ((List (Int × (Int × (List Int)))) × ((List (Int × (Int × (List Int)))) × Unit))))))))) (toA11 : List (Int × (Int × (List Int)))) (x46 : Int) (x47 : Int) (x49 : List (Int × (Int × (List Int)))) (x50 : Int) (x51 : Int) (h0 : (Bool × ((Int × (Int × (Bool))) × (Bool × (Bool × (Int × (Int × (Int × (Bool)))))))) × (Int × ((Int × Int) × (Int × ((List (Int × (List Int))) × ((List (Int × (List Int))) × Int)))))) (h1 : (Bool × ((Int × (Int × (Bool))) × (Bool × (Bool × (Int × (Int × (Int × (Bool)))))))) × (Int × ((Int × Int) × (Int × ((List (Int × (List Int))) × ((List (Int × (List Int))) × Int)))))) (h2 : (Bool × ((Int × (Int × (Bool))) × (Bool × (Bool × (Int × (Int × (Int × (Bool)))))))) × (Int × ((Int × Int) × (Int × ((List (Int × (List Int))) × ((List (Int × (List Int))) × Int)))))) (h3 : (Bool × ((Int × (Int × (Bool))) × (Bool × (Bool × (Int × (Int × (Int × (Bool)))))))) × (Int × ((Int × Int) × (Int × ((List (Int × (List Int))) × ((List (Int × (List Int))) × Int)))))) (h4 : List (Int × (Int × (List Int)))) (h5 : List (Int × (Int × (List Int)))) : Option ((((List (Int × (Int × (List Int)))) × (Int × (Int × Unit))) × (((Bool × ((Int × (Int × (Bool))) × (Bool × (Bool × (Int × (Int × (Int × (Bool)))))))) × (Int × ((Int × Int) × (Int × ((List (Int × (List Int))) × ((List (Int × (List Int))) × Int)))))) × (((Bool × ((Int × (Int × (Bool))) × (Bool × (Bool × (Int × (Int × (Int × (Bool)))))))) × (Int × ((Int × Int) × (Int × ((List (Int × (List Int))) × ((List (Int × (List Int))) × Int)))))) × (((Bool × ((Int × (Int × (Bool))) × (Bool × (Bool × (Int × (Int × (Int × (Bool)))))))) × (Int × ((Int × Int) × (Int × ((List (Int × (List Int))) × ((List (Int × (List Int))) × Int)))))) × (((Bool × ((Int × (Int × (Bool))) × (Bool × (Bool × (Int × (Int × (Int × (Bool)))))))) × (Int × ((Int × Int) × (Int × ((List (Int × (List Int))) × ((List (Int × (List Int))) × Int)))))) × ((List (Int × (Int × (List Int)))) × ((List (Int × (Int × (List Int)))) × Unit)))))))) :=
 bif (decide (x51 < x50)) then
  Option.bind (getI x49 x51) fun (v14 : (Int × (Int × (List Int)))) =>
  Option.bind (nego_Nego_Take N ((h1.1.1, ((h1.1.2.1.1, (h1.1.2.1.2.1, h1.1.2.1.2.2)), (h1.1.2.2.1, (h1.1.2.2.2.1, (h1.1.2.2.2.2.1, (h1.1.2.2.2.2.2.1, (h1.1.2.2.2.2.2.2.1, h1.1.2.2.2.2.2.2.2))))))), (h1.2.1, ((h1.2.2.1.1, h1.2.2.1.2), (h1.2.2.2.1, (h1.2.2.2.2.1, (h1.2.2.2.2.2.1, h1.2.2.2.2.2.2)))))) (v14.1, (v14.2.1, v14.2.2))) fun v15 =>
  bif (roomB ((List.length h5) + (List.length v15.2.1)) 32) then
   (X ((toA11, (x46, (x47, (x49, (x50, ((IntKind.wrap .i64 (x51 + 1)), ())))))), (((h0.1.1, ((h0.1.2.1.1, (h0.1.2.1.2.1, h0.1.2.1.2.2)), (h0.1.2.2.1, (h0.1.2.2.2.1, (h0.1.2.2.2.2.1, (h0.1.2.2.2.2.2.1, (h0.1.2.2.2.2.2.2.1, h0.1.2.2.2.2.2.2.2))))))), (h0.2.1, ((h0.2.2.1.1, h0.2.2.1.2), (h0.2.2.2.1, (h0.2.2.2.2.1, (h0.2.2.2.2.2.1, h0.2.2.2.2.2.2)))))), (((v15.1.1.1, ((v15.1.1.2.1.1, (v15.1.1.2.1.2.1, v15.1.1.2.1.2.2)), (v15.1.1.2.2.1, (v15.1.1.2.2.2.1, (v15.1.1.2.2.2.2.1, (v15.1.1.2.2.2.2.2.1, (v15.1.1.2.2.2.2.2.2.1, v15.1.1.2.2.2.2.2.2.2))))))), (v15.1.2.1, ((v15.1.2.2.1.1, v15.1.2.2.1.2), (v15.1.2.2.2.1, (v15.1.2.2.2.2.1, (v15.1.2.2.2.2.2.1, v15.1.2.2.2.2.2.2)))))), (((h2.1.1, ((h2.1.2.1.1, (h2.1.2.1.2.1, h2.1.2.1.2.2)), (h2.1.2.2.1, (h2.1.2.2.2.1, (h2.1.2.2.2.2.1, (h2.1.2.2.2.2.2.1, (h2.1.2.2.2.2.2.2.1, h2.1.2.2.2.2.2.2.2))))))), (h2.2.1, ((h2.2.2.1.1, h2.2.2.1.2), (h2.2.2.2.1, (h2.2.2.2.2.1, (h2.2.2.2.2.2.1, h2.2.2.2.2.2.2)))))), (((h3.1.1, ((h3.1.2.1.1, (h3.1.2.1.2.1, h3.1.2.1.2.2)), (h3.1.2.2.1, (h3.1.2.2.2.1, (h3.1.2.2.2.2.1, (h3.1.2.2.2.2.2.1, (h3.1.2.2.2.2.2.2.1, h3.1.2.2.2.2.2.2.2))))))), (h3.2.1, ((h3.2.2.1.1, h3.2.2.1.2), (h3.2.2.2.1, (h3.2.2.2.2.1, (h3.2.2.2.2.2.1, h3.2.2.2.2.2.2)))))), (h4, ((h5 ++ v15.2.1), ()))))))))
  else
   none
 else
  some (((toA11, (x46, (x47, ()))), (((h0.1.1, ((h0.1.2.1.1, (h0.1.2.1.2.1, h0.1.2.1.2.2)), (h0.1.2.2.1, (h0.1.2.2.2.1, (h0.1.2.2.2.2.1, (h0.1.2.2.2.2.2.1, (h0.1.2.2.2.2.2.2.1, h0.1.2.2.2.2.2.2.2))))))), (h0.2.1, ((h0.2.2.1.1, h0.2.2.1.2), (h0.2.2.2.1, (h0.2.2.2.2.1, (h0.2.2.2.2.2.1, h0.2.2.2.2.2.2)))))), (((h1.1.1, ((h1.1.2.1.1, (h1.1.2.1.2.1, h1.1.2.1.2.2)), (h1.1.2.2.1, (h1.1.2.2.2.1, (h1.1.2.2.2.2.1, (h1.1.2.2.2.2.2.1, (h1.1.2.2.2.2.2.2.1, h1.1.2.2.2.2.2.2.2))))))), (h1.2.1, ((h1.2.2.1.1, h1.2.2.1.2), (h1.2.2.2.1, (h1.2.2.2.2.1, (h1.2.2.2.2.2.1, h1.2.2.2.2.2.2)))))), (((h2.1.1, ((h2.1.2.1.1, (h2.1.2.1.2.1, h2.1.2.1.2.2)), (h2.1.2.2.1, (h2.1.2.2.2.1, (h2.1.2.2.2.2.1, (h2.1.2.2.2.2.2.1, (h2.1.2.2.2.2.2.2.1, h2.1.2.2.2.2.2.2.2))))))), (h2.2.1, ((h2.2.2.1.1, h2.2.2.1.2), (h2.2.2.2.1, (h2.2.2.2.2.1, (h2.2.2.2.2.2.1, h2.2.2.2.2.2.2)))))), (((h3.1.1, ((h3.1.2.1.1, (h3.1.2.1.2.1, h3.1.2.1.2.2)), (h3.1.2.2.1, (h3.1.2.2.2.1, (h3.1.2.2.2.2.1, (h3.1.2.2.2.2.2.1, (h3.1.2.2.2.2.2.2.1, h3.1.2.2.2.2.2.2.2))))))), (h3.2.1, ((h3.2.2.1.1, h3.2.2.1.2), (h3.2.2.2.1, (h3.2.2.2.2.1, (h3.2.2.2.2.2.1, h3.2.2.2.2.2.2)))))), (h4, (h5, ()))))))))
noncomputable def law27_talk_L10_R (c : (((List (Int × (Int × (List Int)))) × (Int × (Int × ((List (Int × (Int × (List Int)))) × (Int × (Int × Unit)))))) × (((Bool × ((Int × (Int × (Bool))) × (Bool × (Bool × (Int × (Int × (Int × (Bool)))))))) × (Int × ((Int × Int) × (Int × ((List (Int × (List Int))) × ((List (Int × (List Int))) × Int)))))) × (((Bool × ((Int × (Int × (Bool))) × (Bool × (Bool × (Int × (Int × (Int × (Bool)))))))) × (Int × ((Int × Int) × (Int × ((List (Int × (List Int))) × ((List (Int × (List Int))) × Int)))))) × (((Bool × ((Int × (Int × (Bool))) × (Bool × (Bool × (Int × (Int × (Int × (Bool)))))))) × (Int × ((Int × Int) × (Int × ((List (Int × (List Int))) × ((List (Int × (List Int))) × Int)))))) × (((Bool × ((Int × (Int × (Bool))) × (Bool × (Bool × (Int × (Int × (Int × (Bool)))))))) × (Int × ((Int × Int) × (Int × ((List (Int × (List Int))) × ((List (Int × (List Int))) × Int)))))) × ((List (Int × (Int × (List Int)))) × ((List (Int × (Int × (List Int)))) × Unit)))))))) : Option ((((List (Int × (Int × (List Int)))) × (Int × (Int × Unit))) × (((Bool × ((Int × (Int × (Bool))) × (Bool × (Bool × (Int × (Int × (Int × (Bool)))))))) × (Int × ((Int × Int) × (Int × ((List (Int × (List Int))) × ((List (Int × (List Int))) × Int)))))) × (((Bool × ((Int × (Int × (Bool))) × (Bool × (Bool × (Int × (Int × (Int × (Bool)))))))) × (Int × ((Int × Int) × (Int × ((List (Int × (List Int))) × ((List (Int × (List Int))) × Int)))))) × (((Bool × ((Int × (Int × (Bool))) × (Bool × (Bool × (Int × (Int × (Int × (Bool)))))))) × (Int × ((Int × Int) × (Int × ((List (Int × (List Int))) × ((List (Int × (List Int))) × Int)))))) × (((Bool × ((Int × (Int × (Bool))) × (Bool × (Bool × (Int × (Int × (Int × (Bool)))))))) × (Int × ((Int × Int) × (Int × ((List (Int × (List Int))) × ((List (Int × (List Int))) × Int)))))) × ((List (Int × (Int × (List Int)))) × ((List (Int × (Int × (List Int)))) × Unit)))))))) := gl (fun X c => law27_talk_L10 N X c.1.1 c.1.2.1 c.1.2.2.1 c.1.2.2.2.1 c.1.2.2.2.2.1 c.1.2.2.2.2.2.1 c.2.1 c.2.2.1 c.2.2.2.1 c.2.2.2.2.1 c.2.2.2.2.2.1 c.2.2.2.2.2.2.1) N c
theorem law27_talk_L10_S (X : (((List (Int × (Int × (List Int)))) × (Int × (Int × ((List (Int × (Int × (List Int)))) × (Int × (Int × Unit)))))) × (((Bool × ((Int × (Int × (Bool))) × (Bool × (Bool × (Int × (Int × (Int × (Bool)))))))) × (Int × ((Int × Int) × (Int × ((List (Int × (List Int))) × ((List (Int × (List Int))) × Int)))))) × (((Bool × ((Int × (Int × (Bool))) × (Bool × (Bool × (Int × (Int × (Int × (Bool)))))))) × (Int × ((Int × Int) × (Int × ((List (Int × (List Int))) × ((List (Int × (List Int))) × Int)))))) × (((Bool × ((Int × (Int × (Bool))) × (Bool × (Bool × (Int × (Int × (Int × (Bool)))))))) × (Int × ((Int × Int) × (Int × ((List (Int × (List Int))) × ((List (Int × (List Int))) × Int)))))) × (((Bool × ((Int × (Int × (Bool))) × (Bool × (Bool × (Int × (Int × (Int × (Bool)))))))) × (Int × ((Int × Int) × (Int × ((List (Int × (List Int))) × ((List (Int × (List Int))) × Int)))))) × ((List (Int × (Int × (List Int)))) × ((List (Int × (Int × (List Int)))) × Unit))))))) → Option ((((List (Int × (Int × (List Int)))) × (Int × (Int × Unit))) × (((Bool × ((Int × (Int × (Bool))) × (Bool × (Bool × (Int × (Int × (Int × (Bool)))))))) × (Int × ((Int × Int) × (Int × ((List (Int × (List Int))) × ((List (Int × (List Int))) × Int)))))) × (((Bool × ((Int × (Int × (Bool))) × (Bool × (Bool × (Int × (Int × (Int × (Bool)))))))) × (Int × ((Int × Int) × (Int × ((List (Int × (List Int))) × ((List (Int × (List Int))) × Int)))))) × (((Bool × ((Int × (Int × (Bool))) × (Bool × (Bool × (Int × (Int × (Int × (Bool)))))))) × (Int × ((Int × Int) × (Int × ((List (Int × (List Int))) × ((List (Int × (List Int))) × Int)))))) × (((Bool × ((Int × (Int × (Bool))) × (Bool × (Bool × (Int × (Int × (Int × (Bool)))))))) × (Int × ((Int × Int) × (Int × ((List (Int × (List Int))) × ((List (Int × (List Int))) × Int)))))) × ((List (Int × (Int × (List Int)))) × ((List (Int × (Int × (List Int)))) × Unit))))))))) (toA11 : List (Int × (Int × (List Int)))) (x46 : Int) (x47 : Int) (x49 : List (Int × (Int × (List Int)))) (x50 : Int) (x51 : Int) (h0 : (Bool × ((Int × (Int × (Bool))) × (Bool × (Bool × (Int × (Int × (Int × (Bool)))))))) × (Int × ((Int × Int) × (Int × ((List (Int × (List Int))) × ((List (Int × (List Int))) × Int)))))) (h1 : (Bool × ((Int × (Int × (Bool))) × (Bool × (Bool × (Int × (Int × (Int × (Bool)))))))) × (Int × ((Int × Int) × (Int × ((List (Int × (List Int))) × ((List (Int × (List Int))) × Int)))))) (h2 : (Bool × ((Int × (Int × (Bool))) × (Bool × (Bool × (Int × (Int × (Int × (Bool)))))))) × (Int × ((Int × Int) × (Int × ((List (Int × (List Int))) × ((List (Int × (List Int))) × Int)))))) (h3 : (Bool × ((Int × (Int × (Bool))) × (Bool × (Bool × (Int × (Int × (Int × (Bool)))))))) × (Int × ((Int × Int) × (Int × ((List (Int × (List Int))) × ((List (Int × (List Int))) × Int)))))) (h4 : List (Int × (Int × (List Int)))) (h5 : List (Int × (Int × (List Int)))) : (roundK Try.prog (Ev133 N) 400 [14] law27_talk_L10_I (loopAt Try.prog [14] 10) X ((toA11, x46, x47, x49, x50, x51, ()), (h0, h1, h2, h3, h4, h5, ()))).run = law27_talk_L10 N X toA11 x46 x47 x49 x50 x51 h0 h1 h2 h3 h4 h5 := by kernel_rfl
noncomputable def Eh134 : (R : Type) → Env R := Env.addLp (Ev133 N) [14] 0 10 (fun R => lpK Try.prog law27_talk_L10_I (fun X c => law27_talk_L10 N X c.1.1 c.1.2.1 c.1.2.2.1 c.1.2.2.2.1 c.1.2.2.2.2.1 c.1.2.2.2.2.2.1 c.2.1 c.2.2.1 c.2.2.2.1 c.2.2.2.2.1 c.2.2.2.2.2.1 c.2.2.2.2.2.2.1) N)
theorem Eh134_ok (R : Type) : EnvOK Try.prog (Eh134 N R) := EnvOK.addLp (Ev133_ok N R) (by kernel_rfl) (lpK_ok (li := law27_talk_L10_I) (G := fun X c => law27_talk_L10 N X c.1.1 c.1.2.1 c.1.2.2.1 c.1.2.2.2.1 c.1.2.2.2.2.1 c.1.2.2.2.2.2.1 c.2.1 c.2.2.1 c.2.2.2.1 c.2.2.2.2.1 c.2.2.2.2.2.1 c.2.2.2.2.2.2.1) hmx (Ev133_ok N _) (by kernel_rfl) loopAt_sub (fun (X : CT law27_talk_L10_I.sh → Option (OT law27_talk_L10_I.outs)) (c : CT law27_talk_L10_I.sh) => law27_talk_L10_S N X c.1.1 c.1.2.1 c.1.2.2.1 c.1.2.2.2.1 c.1.2.2.2.2.1 c.1.2.2.2.2.2.1 c.2.1 c.2.2.1 c.2.2.2.1 c.2.2.2.2.1 c.2.2.2.2.2.1 c.2.2.2.2.2.2.1) N)
noncomputable def law27_talk_L17_I : LI := ⟨90, 0, [], ⟨[(3, .lit (.box 0 0)), (4, .lit (.box 1 0)), (6, .lit (.box 2 0)), (7, .lit (.box 3 0)), (12, .lit (.own 4)), (13, .lit (.own 5)), (46, .ty (.int .i64)), (47, .ty (.int .i64)), (67, .ty (.sl (.pair (.int .u8) (.pair (.int .u8) (.sl (.int .u8)))))), (68, .ty (.int .i64)), (69, .ty (.int .i64))], [.box 42 (.pair (.pair .bool (.pair (.pair (.int .u16) (.pair (.int .u32) .bool)) (.pair .bool (.pair .bool (.pair (.int .u32) (.pair (.int .u32) (.pair (.int .u32) .bool))))))) (.pair (.int .i64) (.pair (.pair (.int .i64) (.int .i64)) (.pair (.int .u8) (.pair (.sl (.pair (.int .u8) (.sl (.int .u8)))) (.pair (.sl (.pair (.int .u8) (.sl (.int .u8)))) (.int .i64))))))), .box 42 (.pair (.pair .bool (.pair (.pair (.int .u16) (.pair (.int .u32) .bool)) (.pair .bool (.pair .bool (.pair (.int .u32) (.pair (.int .u32) (.pair (.int .u32) .bool))))))) (.pair (.int .i64) (.pair (.pair (.int .i64) (.int .i64)) (.pair (.int .u8) (.pair (.sl (.pair (.int .u8) (.sl (.int .u8)))) (.pair (.sl (.pair (.int .u8) (.sl (.int .u8)))) (.int .i64))))))), .box 42 (.pair (.pair .bool (.pair (.pair (.int .u16) (.pair (.int .u32) .bool)) (.pair .bool (.pair .bool (.pair (.int .u32) (.pair (.int .u32) (.pair (.int .u32) .bool))))))) (.pair (.int .i64) (.pair (.pair (.int .i64) (.int .i64)) (.pair (.int .u8) (.pair (.sl (.pair (.int .u8) (.sl (.int .u8)))) (.pair (.sl (.pair (.int .u8) (.sl (.int .u8)))) (.int .i64))))))), .box 42 (.pair (.pair .bool (.pair (.pair (.int .u16) (.pair (.int .u32) .bool)) (.pair .bool (.pair .bool (.pair (.int .u32) (.pair (.int .u32) (.pair (.int .u32) .bool))))))) (.pair (.int .i64) (.pair (.pair (.int .i64) (.int .i64)) (.pair (.int .u8) (.pair (.sl (.pair (.int .u8) (.sl (.int .u8)))) (.pair (.sl (.pair (.int .u8) (.sl (.int .u8)))) (.int .i64))))))), .own (.pair (.int .u8) (.pair (.int .u8) (.sl (.int .u8)))) 60, .own (.pair (.int .u8) (.pair (.int .u8) (.sl (.int .u8)))) 60]⟩, [(.exit 4, ⟨[(3, .lit (.box 0 0)), (4, .lit (.box 1 0)), (6, .lit (.box 2 0)), (7, .lit (.box 3 0)), (12, .lit (.own 4)), (13, .lit (.own 5)), (46, .ty (.int .i64)), (47, .ty (.int .i64))], [.box 42 (.pair (.pair .bool (.pair (.pair (.int .u16) (.pair (.int .u32) .bool)) (.pair .bool (.pair .bool (.pair (.int .u32) (.pair (.int .u32) (.pair (.int .u32) .bool))))))) (.pair (.int .i64) (.pair (.pair (.int .i64) (.int .i64)) (.pair (.int .u8) (.pair (.sl (.pair (.int .u8) (.sl (.int .u8)))) (.pair (.sl (.pair (.int .u8) (.sl (.int .u8)))) (.int .i64))))))), .box 42 (.pair (.pair .bool (.pair (.pair (.int .u16) (.pair (.int .u32) .bool)) (.pair .bool (.pair .bool (.pair (.int .u32) (.pair (.int .u32) (.pair (.int .u32) .bool))))))) (.pair (.int .i64) (.pair (.pair (.int .i64) (.int .i64)) (.pair (.int .u8) (.pair (.sl (.pair (.int .u8) (.sl (.int .u8)))) (.pair (.sl (.pair (.int .u8) (.sl (.int .u8)))) (.int .i64))))))), .box 42 (.pair (.pair .bool (.pair (.pair (.int .u16) (.pair (.int .u32) .bool)) (.pair .bool (.pair .bool (.pair (.int .u32) (.pair (.int .u32) (.pair (.int .u32) .bool))))))) (.pair (.int .i64) (.pair (.pair (.int .i64) (.int .i64)) (.pair (.int .u8) (.pair (.sl (.pair (.int .u8) (.sl (.int .u8)))) (.pair (.sl (.pair (.int .u8) (.sl (.int .u8)))) (.int .i64))))))), .box 42 (.pair (.pair .bool (.pair (.pair (.int .u16) (.pair (.int .u32) .bool)) (.pair .bool (.pair .bool (.pair (.int .u32) (.pair (.int .u32) (.pair (.int .u32) .bool))))))) (.pair (.int .i64) (.pair (.pair (.int .i64) (.int .i64)) (.pair (.int .u8) (.pair (.sl (.pair (.int .u8) (.sl (.int .u8)))) (.pair (.sl (.pair (.int .u8) (.sl (.int .u8)))) (.int .i64))))))), .own (.pair (.int .u8) (.pair (.int .u8) (.sl (.int .u8)))) 60, .own (.pair (.int .u8) (.pair (.int .u8) (.sl (.int .u8)))) 60]⟩)]⟩
noncomputable def law27_talk_L17 (X : ((Int × (Int × ((List (Int × (Int × (List Int)))) × (Int × (Int × Unit))))) × (((Bool × ((Int × (Int × (Bool))) × (Bool × (Bool × (Int × (Int × (Int × (Bool)))))))) × (Int × ((Int × Int) × (Int × ((List (Int × (List Int))) × ((List (Int × (List Int))) × Int)))))) × (((Bool × ((Int × (Int × (Bool))) × (Bool × (Bool × (Int × (Int × (Int × (Bool)))))))) × (Int × ((Int × Int) × (Int × ((List (Int × (List Int))) × ((List (Int × (List Int))) × Int)))))) × (((Bool × ((Int × (Int × (Bool))) × (Bool × (Bool × (Int × (Int × (Int × (Bool)))))))) × (Int × ((Int × Int) × (Int × ((List (Int × (List Int))) × ((List (Int × (List Int))) × Int)))))) × (((Bool × ((Int × (Int × (Bool))) × (Bool × (Bool × (Int × (Int × (Int × (Bool)))))))) × (Int × ((Int × Int) × (Int × ((List (Int × (List Int))) × ((List (Int × (List Int))) × Int)))))) × ((List (Int × (Int × (List Int)))) × ((List (Int × (Int × (List Int)))) × Unit))))))) → Option (((Int × (Int × Unit)) × (((Bool × ((Int × (Int × (Bool))) × (Bool × (Bool × (Int × (Int × (Int × (Bool)))))))) × (Int × ((Int × Int) × (Int × ((List (Int × (List Int))) × ((List (Int × (List Int))) × Int)))))) × (((Bool × ((Int × (Int × (Bool))) × (Bool × (Bool × (Int × (Int × (Int × (Bool)))))))) × (Int × ((Int × Int) × (Int × ((List (Int × (List Int))) × ((List (Int × (List Int))) × Int)))))) × (((Bool × ((Int × (Int × (Bool))) × (Bool × (Bool × (Int × (Int × (Int × (Bool)))))))) × (Int × ((Int × Int) × (Int × ((List (Int × (List Int))) × ((List (Int × (List Int))) × Int)))))) × (((Bool × ((Int × (Int × (Bool))) × (Bool × (Bool × (Int × (Int × (Int × (Bool)))))))) × (Int × ((Int × Int) × (Int × ((List (Int × (List Int))) × ((List (Int × (List Int))) × Int)))))) × ((List (Int × (Int × (List Int)))) × ((List (Int × (Int × (List Int)))) × Unit))))))))) (x46 : Int) (x47 : Int) (x67 : List (Int × (Int × (List Int)))) (x68 : Int) (x69 : Int) (h0 : (Bool × ((Int × (Int × (Bool))) × (Bool × (Bool × (Int × (Int × (Int × (Bool)))))))) × (Int × ((Int × Int) × (Int × ((List (Int × (List Int))) × ((List (Int × (List Int))) × Int)))))) (h1 : (Bool × ((Int × (Int × (Bool))) × (Bool × (Bool × (Int × (Int × (Int × (Bool)))))))) × (Int × ((Int × Int) × (Int × ((List (Int × (List Int))) × ((List (Int × (List Int))) × Int)))))) (h2 : (Bool × ((Int × (Int × (Bool))) × (Bool × (Bool × (Int × (Int × (Int × (Bool)))))))) × (Int × ((Int × Int) × (Int × ((List (Int × (List Int))) × ((List (Int × (List Int))) × Int)))))) (h3 : (Bool × ((Int × (Int × (Bool))) × (Bool × (Bool × (Int × (Int × (Int × (Bool)))))))) × (Int × ((Int × Int) × (Int × ((List (Int × (List Int))) × ((List (Int × (List Int))) × Int)))))) (h4 : List (Int × (Int × (List Int)))) (h5 : List (Int × (Int × (List Int)))) : Option (((Int × (Int × Unit)) × (((Bool × ((Int × (Int × (Bool))) × (Bool × (Bool × (Int × (Int × (Int × (Bool)))))))) × (Int × ((Int × Int) × (Int × ((List (Int × (List Int))) × ((List (Int × (List Int))) × Int)))))) × (((Bool × ((Int × (Int × (Bool))) × (Bool × (Bool × (Int × (Int × (Int × (Bool)))))))) × (Int × ((Int × Int) × (Int × ((List (Int × (List Int))) × ((List (Int × (List Int))) × Int)))))) × (((Bool × ((Int × (Int × (Bool))) × (Bool × (Bool × (Int × (Int × (Int × (Bool)))))))) × (Int × ((Int × Int) × (Int × ((List (Int × (List Int))) × ((List (Int × (List Int))) × Int)))))) × (((Bool × ((Int × (Int × (Bool))) × (Bool × (Bool × (Int × (Int × (Int × (Bool)))))))) × (Int × ((Int × Int) × (Int × ((List (Int × (List Int))) × ((List (Int × (List Int))) × Int)))))) × ((List (Int × (Int × (List Int)))) × ((List (Int × (Int × (List Int)))) × Unit)))))))) :=
 bif (decide (x69 < x68)) then
  Option.bind (getI x67 x69) fun (v13 : (Int × (Int × (List Int)))) =>
  Option.bind (nego_Nego_Take N ((h0.1.1, ((h0.1.2.1.1, (h0.1.2.1.2.1, h0.1.2.1.2.2)), (h0.1.2.2.1, (h0.1.2.2.2.1, (h0.1.2.2.2.2.1, (h0.1.2.2.2.2.2.1, (h0.1.2.2.2.2.2.2.1, h0.1.2.2.2.2.2.2.2))))))), (h0.2.1, ((h0.2.2.1.1, h0.2.2.1.2), (h0.2.2.2.1, (h0.2.2.2.2.1, (h0.2.2.2.2.2.1, h0.2.2.2.2.2.2)))))) (v13.1, (v13.2.1, v13.2.2))) fun v14 =>
  bif (roomB ((List.length h4) + (List.length v14.2.1)) 32) then
   (X ((x46, (x47, (x67, (x68, ((IntKind.wrap .i64 (x69 + 1)), ()))))), (((v14.1.1.1, ((v14.1.1.2.1.1, (v14.1.1.2.1.2.1, v14.1.1.2.1.2.2)), (v14.1.1.2.2.1, (v14.1.1.2.2.2.1, (v14.1.1.2.2.2.2.1, (v14.1.1.2.2.2.2.2.1, (v14.1.1.2.2.2.2.2.2.1, v14.1.1.2.2.2.2.2.2.2))))))), (v14.1.2.1, ((v14.1.2.2.1.1, v14.1.2.2.1.2), (v14.1.2.2.2.1, (v14.1.2.2.2.2.1, (v14.1.2.2.2.2.2.1, v14.1.2.2.2.2.2.2)))))), (((h1.1.1, ((h1.1.2.1.1, (h1.1.2.1.2.1, h1.1.2.1.2.2)), (h1.1.2.2.1, (h1.1.2.2.2.1, (h1.1.2.2.2.2.1, (h1.1.2.2.2.2.2.1, (h1.1.2.2.2.2.2.2.1, h1.1.2.2.2.2.2.2.2))))))), (h1.2.1, ((h1.2.2.1.1, h1.2.2.1.2), (h1.2.2.2.1, (h1.2.2.2.2.1, (h1.2.2.2.2.2.1, h1.2.2.2.2.2.2)))))), (((h2.1.1, ((h2.1.2.1.1, (h2.1.2.1.2.1, h2.1.2.1.2.2)), (h2.1.2.2.1, (h2.1.2.2.2.1, (h2.1.2.2.2.2.1, (h2.1.2.2.2.2.2.1, (h2.1.2.2.2.2.2.2.1, h2.1.2.2.2.2.2.2.2))))))), (h2.2.1, ((h2.2.2.1.1, h2.2.2.1.2), (h2.2.2.2.1, (h2.2.2.2.2.1, (h2.2.2.2.2.2.1, h2.2.2.2.2.2.2)))))), (((h3.1.1, ((h3.1.2.1.1, (h3.1.2.1.2.1, h3.1.2.1.2.2)), (h3.1.2.2.1, (h3.1.2.2.2.1, (h3.1.2.2.2.2.1, (h3.1.2.2.2.2.2.1, (h3.1.2.2.2.2.2.2.1, h3.1.2.2.2.2.2.2.2))))))), (h3.2.1, ((h3.2.2.1.1, h3.2.2.1.2), (h3.2.2.2.1, (h3.2.2.2.2.1, (h3.2.2.2.2.2.1, h3.2.2.2.2.2.2)))))), ((h4 ++ v14.2.1), (h5, ()))))))))
  else
   none
 else
  some (((x46, (x47, ())), (((h0.1.1, ((h0.1.2.1.1, (h0.1.2.1.2.1, h0.1.2.1.2.2)), (h0.1.2.2.1, (h0.1.2.2.2.1, (h0.1.2.2.2.2.1, (h0.1.2.2.2.2.2.1, (h0.1.2.2.2.2.2.2.1, h0.1.2.2.2.2.2.2.2))))))), (h0.2.1, ((h0.2.2.1.1, h0.2.2.1.2), (h0.2.2.2.1, (h0.2.2.2.2.1, (h0.2.2.2.2.2.1, h0.2.2.2.2.2.2)))))), (((h1.1.1, ((h1.1.2.1.1, (h1.1.2.1.2.1, h1.1.2.1.2.2)), (h1.1.2.2.1, (h1.1.2.2.2.1, (h1.1.2.2.2.2.1, (h1.1.2.2.2.2.2.1, (h1.1.2.2.2.2.2.2.1, h1.1.2.2.2.2.2.2.2))))))), (h1.2.1, ((h1.2.2.1.1, h1.2.2.1.2), (h1.2.2.2.1, (h1.2.2.2.2.1, (h1.2.2.2.2.2.1, h1.2.2.2.2.2.2)))))), (((h2.1.1, ((h2.1.2.1.1, (h2.1.2.1.2.1, h2.1.2.1.2.2)), (h2.1.2.2.1, (h2.1.2.2.2.1, (h2.1.2.2.2.2.1, (h2.1.2.2.2.2.2.1, (h2.1.2.2.2.2.2.2.1, h2.1.2.2.2.2.2.2.2))))))), (h2.2.1, ((h2.2.2.1.1, h2.2.2.1.2), (h2.2.2.2.1, (h2.2.2.2.2.1, (h2.2.2.2.2.2.1, h2.2.2.2.2.2.2)))))), (((h3.1.1, ((h3.1.2.1.1, (h3.1.2.1.2.1, h3.1.2.1.2.2)), (h3.1.2.2.1, (h3.1.2.2.2.1, (h3.1.2.2.2.2.1, (h3.1.2.2.2.2.2.1, (h3.1.2.2.2.2.2.2.1, h3.1.2.2.2.2.2.2.2))))))), (h3.2.1, ((h3.2.2.1.1, h3.2.2.1.2), (h3.2.2.2.1, (h3.2.2.2.2.1, (h3.2.2.2.2.2.1, h3.2.2.2.2.2.2)))))), (h4, (h5, ()))))))))
noncomputable def law27_talk_L17_R (c : ((Int × (Int × ((List (Int × (Int × (List Int)))) × (Int × (Int × Unit))))) × (((Bool × ((Int × (Int × (Bool))) × (Bool × (Bool × (Int × (Int × (Int × (Bool)))))))) × (Int × ((Int × Int) × (Int × ((List (Int × (List Int))) × ((List (Int × (List Int))) × Int)))))) × (((Bool × ((Int × (Int × (Bool))) × (Bool × (Bool × (Int × (Int × (Int × (Bool)))))))) × (Int × ((Int × Int) × (Int × ((List (Int × (List Int))) × ((List (Int × (List Int))) × Int)))))) × (((Bool × ((Int × (Int × (Bool))) × (Bool × (Bool × (Int × (Int × (Int × (Bool)))))))) × (Int × ((Int × Int) × (Int × ((List (Int × (List Int))) × ((List (Int × (List Int))) × Int)))))) × (((Bool × ((Int × (Int × (Bool))) × (Bool × (Bool × (Int × (Int × (Int × (Bool)))))))) × (Int × ((Int × Int) × (Int × ((List (Int × (List Int))) × ((List (Int × (List Int))) × Int)))))) × ((List (Int × (Int × (List Int)))) × ((List (Int × (Int × (List Int)))) × Unit)))))))) : Option (((Int × (Int × Unit)) × (((Bool × ((Int × (Int × (Bool))) × (Bool × (Bool × (Int × (Int × (Int × (Bool)))))))) × (Int × ((Int × Int) × (Int × ((List (Int × (List Int))) × ((List (Int × (List Int))) × Int)))))) × (((Bool × ((Int × (Int × (Bool))) × (Bool × (Bool × (Int × (Int × (Int × (Bool)))))))) × (Int × ((Int × Int) × (Int × ((List (Int × (List Int))) × ((List (Int × (List Int))) × Int)))))) × (((Bool × ((Int × (Int × (Bool))) × (Bool × (Bool × (Int × (Int × (Int × (Bool)))))))) × (Int × ((Int × Int) × (Int × ((List (Int × (List Int))) × ((List (Int × (List Int))) × Int)))))) × (((Bool × ((Int × (Int × (Bool))) × (Bool × (Bool × (Int × (Int × (Int × (Bool)))))))) × (Int × ((Int × Int) × (Int × ((List (Int × (List Int))) × ((List (Int × (List Int))) × Int)))))) × ((List (Int × (Int × (List Int)))) × ((List (Int × (Int × (List Int)))) × Unit)))))))) := gl (fun X c => law27_talk_L17 N X c.1.1 c.1.2.1 c.1.2.2.1 c.1.2.2.2.1 c.1.2.2.2.2.1 c.2.1 c.2.2.1 c.2.2.2.1 c.2.2.2.2.1 c.2.2.2.2.2.1 c.2.2.2.2.2.2.1) N c
theorem law27_talk_L17_S (X : ((Int × (Int × ((List (Int × (Int × (List Int)))) × (Int × (Int × Unit))))) × (((Bool × ((Int × (Int × (Bool))) × (Bool × (Bool × (Int × (Int × (Int × (Bool)))))))) × (Int × ((Int × Int) × (Int × ((List (Int × (List Int))) × ((List (Int × (List Int))) × Int)))))) × (((Bool × ((Int × (Int × (Bool))) × (Bool × (Bool × (Int × (Int × (Int × (Bool)))))))) × (Int × ((Int × Int) × (Int × ((List (Int × (List Int))) × ((List (Int × (List Int))) × Int)))))) × (((Bool × ((Int × (Int × (Bool))) × (Bool × (Bool × (Int × (Int × (Int × (Bool)))))))) × (Int × ((Int × Int) × (Int × ((List (Int × (List Int))) × ((List (Int × (List Int))) × Int)))))) × (((Bool × ((Int × (Int × (Bool))) × (Bool × (Bool × (Int × (Int × (Int × (Bool)))))))) × (Int × ((Int × Int) × (Int × ((List (Int × (List Int))) × ((List (Int × (List Int))) × Int)))))) × ((List (Int × (Int × (List Int)))) × ((List (Int × (Int × (List Int)))) × Unit))))))) → Option (((Int × (Int × Unit)) × (((Bool × ((Int × (Int × (Bool))) × (Bool × (Bool × (Int × (Int × (Int × (Bool)))))))) × (Int × ((Int × Int) × (Int × ((List (Int × (List Int))) × ((List (Int × (List Int))) × Int)))))) × (((Bool × ((Int × (Int × (Bool))) × (Bool × (Bool × (Int × (Int × (Int × (Bool)))))))) × (Int × ((Int × Int) × (Int × ((List (Int × (List Int))) × ((List (Int × (List Int))) × Int)))))) × (((Bool × ((Int × (Int × (Bool))) × (Bool × (Bool × (Int × (Int × (Int × (Bool)))))))) × (Int × ((Int × Int) × (Int × ((List (Int × (List Int))) × ((List (Int × (List Int))) × Int)))))) × (((Bool × ((Int × (Int × (Bool))) × (Bool × (Bool × (Int × (Int × (Int × (Bool)))))))) × (Int × ((Int × Int) × (Int × ((List (Int × (List Int))) × ((List (Int × (List Int))) × Int)))))) × ((List (Int × (Int × (List Int)))) × ((List (Int × (Int × (List Int)))) × Unit))))))))) (x46 : Int) (x47 : Int) (x67 : List (Int × (Int × (List Int)))) (x68 : Int) (x69 : Int) (h0 : (Bool × ((Int × (Int × (Bool))) × (Bool × (Bool × (Int × (Int × (Int × (Bool)))))))) × (Int × ((Int × Int) × (Int × ((List (Int × (List Int))) × ((List (Int × (List Int))) × Int)))))) (h1 : (Bool × ((Int × (Int × (Bool))) × (Bool × (Bool × (Int × (Int × (Int × (Bool)))))))) × (Int × ((Int × Int) × (Int × ((List (Int × (List Int))) × ((List (Int × (List Int))) × Int)))))) (h2 : (Bool × ((Int × (Int × (Bool))) × (Bool × (Bool × (Int × (Int × (Int × (Bool)))))))) × (Int × ((Int × Int) × (Int × ((List (Int × (List Int))) × ((List (Int × (List Int))) × Int)))))) (h3 : (Bool × ((Int × (Int × (Bool))) × (Bool × (Bool × (Int × (Int × (Int × (Bool)))))))) × (Int × ((Int × Int) × (Int × ((List (Int × (List Int))) × ((List (Int × (List Int))) × Int)))))) (h4 : List (Int × (Int × (List Int)))) (h5 : List (Int × (Int × (List Int)))) : (roundK Try.prog (Eh134 N) 400 [14] law27_talk_L17_I (loopAt Try.prog [14] 17) X ((x46, x47, x67, x68, x69, ()), (h0, h1, h2, h3, h4, h5, ()))).run = law27_talk_L17 N X x46 x47 x67 x68 x69 h0 h1 h2 h3 h4 h5 := by kernel_rfl
noncomputable def Eh135 : (R : Type) → Env R := Env.addLp (Eh134 N) [14] 0 17 (fun R => lpK Try.prog law27_talk_L17_I (fun X c => law27_talk_L17 N X c.1.1 c.1.2.1 c.1.2.2.1 c.1.2.2.2.1 c.1.2.2.2.2.1 c.2.1 c.2.2.1 c.2.2.2.1 c.2.2.2.2.1 c.2.2.2.2.2.1 c.2.2.2.2.2.2.1) N)
theorem Eh135_ok (R : Type) : EnvOK Try.prog (Eh135 N R) := EnvOK.addLp (Eh134_ok N R) (by kernel_rfl) (lpK_ok (li := law27_talk_L17_I) (G := fun X c => law27_talk_L17 N X c.1.1 c.1.2.1 c.1.2.2.1 c.1.2.2.2.1 c.1.2.2.2.2.1 c.2.1 c.2.2.1 c.2.2.2.1 c.2.2.2.2.1 c.2.2.2.2.2.1 c.2.2.2.2.2.2.1) hmx (Eh134_ok N _) (by kernel_rfl) loopAt_sub (fun (X : CT law27_talk_L17_I.sh → Option (OT law27_talk_L17_I.outs)) (c : CT law27_talk_L17_I.sh) => law27_talk_L17_S N X c.1.1 c.1.2.1 c.1.2.2.1 c.1.2.2.2.1 c.1.2.2.2.2.1 c.2.1 c.2.2.1 c.2.2.2.1 c.2.2.2.2.1 c.2.2.2.2.2.1 c.2.2.2.2.2.2.1) N)
noncomputable def law27_talk_L7_I : LI := ⟨90, 0, [], ⟨[(3, .lit (.box 0 0)), (4, .lit (.box 1 0)), (6, .lit (.box 2 0)), (7, .lit (.box 3 0)), (10, .ty (.sl (.pair (.int .u8) (.pair (.int .u8) (.sl (.int .u8)))))), (11, .ty (.sl (.pair (.int .u8) (.pair (.int .u8) (.sl (.int .u8)))))), (46, .ty (.int .i64)), (47, .ty (.int .i64))], [.box 42 (.pair (.pair .bool (.pair (.pair (.int .u16) (.pair (.int .u32) .bool)) (.pair .bool (.pair .bool (.pair (.int .u32) (.pair (.int .u32) (.pair (.int .u32) .bool))))))) (.pair (.int .i64) (.pair (.pair (.int .i64) (.int .i64)) (.pair (.int .u8) (.pair (.sl (.pair (.int .u8) (.sl (.int .u8)))) (.pair (.sl (.pair (.int .u8) (.sl (.int .u8)))) (.int .i64))))))), .box 42 (.pair (.pair .bool (.pair (.pair (.int .u16) (.pair (.int .u32) .bool)) (.pair .bool (.pair .bool (.pair (.int .u32) (.pair (.int .u32) (.pair (.int .u32) .bool))))))) (.pair (.int .i64) (.pair (.pair (.int .i64) (.int .i64)) (.pair (.int .u8) (.pair (.sl (.pair (.int .u8) (.sl (.int .u8)))) (.pair (.sl (.pair (.int .u8) (.sl (.int .u8)))) (.int .i64))))))), .box 42 (.pair (.pair .bool (.pair (.pair (.int .u16) (.pair (.int .u32) .bool)) (.pair .bool (.pair .bool (.pair (.int .u32) (.pair (.int .u32) (.pair (.int .u32) .bool))))))) (.pair (.int .i64) (.pair (.pair (.int .i64) (.int .i64)) (.pair (.int .u8) (.pair (.sl (.pair (.int .u8) (.sl (.int .u8)))) (.pair (.sl (.pair (.int .u8) (.sl (.int .u8)))) (.int .i64))))))), .box 42 (.pair (.pair .bool (.pair (.pair (.int .u16) (.pair (.int .u32) .bool)) (.pair .bool (.pair .bool (.pair (.int .u32) (.pair (.int .u32) (.pair (.int .u32) .bool))))))) (.pair (.int .i64) (.pair (.pair (.int .i64) (.int .i64)) (.pair (.int .u8) (.pair (.sl (.pair (.int .u8) (.sl (.int .u8)))) (.pair (.sl (.pair (.int .u8) (.sl (.int .u8)))) (.int .i64)))))))]⟩, [(.exit 0, ⟨[(3, .lit (.box 0 0)), (4, .lit (.box 1 0)), (6, .lit (.box 2 0)), (7, .lit (.box 3 0))], [.box 42 (.pair (.pair .bool (.pair (.pair (.int .u16) (.pair (.int .u32) .bool)) (.pair .bool (.pair .bool (.pair (.int .u32) (.pair (.int .u32) (.pair (.int .u32) .bool))))))) (.pair (.int .i64) (.pair (.pair (.int .i64) (.int .i64)) (.pair (.int .u8) (.pair (.sl (.pair (.int .u8) (.sl (.int .u8)))) (.pair (.sl (.pair (.int .u8) (.sl (.int .u8)))) (.int .i64))))))), .box 42 (.pair (.pair .bool (.pair (.pair (.int .u16) (.pair (.int .u32) .bool)) (.pair .bool (.pair .bool (.pair (.int .u32) (.pair (.int .u32) (.pair (.int .u32) .bool))))))) (.pair (.int .i64) (.pair (.pair (.int .i64) (.int .i64)) (.pair (.int .u8) (.pair (.sl (.pair (.int .u8) (.sl (.int .u8)))) (.pair (.sl (.pair (.int .u8) (.sl (.int .u8)))) (.int .i64))))))), .box 42 (.pair (.pair .bool (.pair (.pair (.int .u16) (.pair (.int .u32) .bool)) (.pair .bool (.pair .bool (.pair (.int .u32) (.pair (.int .u32) (.pair (.int .u32) .bool))))))) (.pair (.int .i64) (.pair (.pair (.int .i64) (.int .i64)) (.pair (.int .u8) (.pair (.sl (.pair (.int .u8) (.sl (.int .u8)))) (.pair (.sl (.pair (.int .u8) (.sl (.int .u8)))) (.int .i64))))))), .box 42 (.pair (.pair .bool (.pair (.pair (.int .u16) (.pair (.int .u32) .bool)) (.pair .bool (.pair .bool (.pair (.int .u32) (.pair (.int .u32) (.pair (.int .u32) .bool))))))) (.pair (.int .i64) (.pair (.pair (.int .i64) (.int .i64)) (.pair (.int .u8) (.pair (.sl (.pair (.int .u8) (.sl (.int .u8)))) (.pair (.sl (.pair (.int .u8) (.sl (.int .u8)))) (.int .i64)))))))]⟩)]⟩
noncomputable def law27_talk_L7 (X : (((List (Int × (Int × (List Int)))) × ((List (Int × (Int × (List Int)))) × (Int × (Int × Unit)))) × (((Bool × ((Int × (Int × (Bool))) × (Bool × (Bool × (Int × (Int × (Int × (Bool)))))))) × (Int × ((Int × Int) × (Int × ((List (Int × (List Int))) × ((List (Int × (List Int))) × Int)))))) × (((Bool × ((Int × (Int × (Bool))) × (Bool × (Bool × (Int × (Int × (Int × (Bool)))))))) × (Int × ((Int × Int) × (Int × ((List (Int × (List Int))) × ((List (Int × (List Int))) × Int)))))) × (((Bool × ((Int × (Int × (Bool))) × (Bool × (Bool × (Int × (Int × (Int × (Bool)))))))) × (Int × ((Int × Int) × (Int × ((List (Int × (List Int))) × ((List (Int × (List Int))) × Int)))))) × (((Bool × ((Int × (Int × (Bool))) × (Bool × (Bool × (Int × (Int × (Int × (Bool)))))))) × (Int × ((Int × Int) × (Int × ((List (Int × (List Int))) × ((List (Int × (List Int))) × Int)))))) × Unit))))) → Option ((Unit × (((Bool × ((Int × (Int × (Bool))) × (Bool × (Bool × (Int × (Int × (Int × (Bool)))))))) × (Int × ((Int × Int) × (Int × ((List (Int × (List Int))) × ((List (Int × (List Int))) × Int)))))) × (((Bool × ((Int × (Int × (Bool))) × (Bool × (Bool × (Int × (Int × (Int × (Bool)))))))) × (Int × ((Int × Int) × (Int × ((List (Int × (List Int))) × ((List (Int × (List Int))) × Int)))))) × (((Bool × ((Int × (Int × (Bool))) × (Bool × (Bool × (Int × (Int × (Int × (Bool)))))))) × (Int × ((Int × Int) × (Int × ((List (Int × (List Int))) × ((List (Int × (List Int))) × Int)))))) × (((Bool × ((Int × (Int × (Bool))) × (Bool × (Bool × (Int × (Int × (Int × (Bool)))))))) × (Int × ((Int × Int) × (Int × ((List (Int × (List Int))) × ((List (Int × (List Int))) × Int)))))) × Unit))))))) (toB10 : List (Int × (Int × (List Int)))) (toA11 : List (Int × (Int × (List Int)))) (x46 : Int) (x47 : Int) (h0 : (Bool × ((Int × (Int × (Bool))) × (Bool × (Bool × (Int × (Int × (Int × (Bool)))))))) × (Int × ((Int × Int) × (Int × ((List (Int × (List Int))) × ((List (Int × (List Int))) × Int)))))) (h1 : (Bool × ((Int × (Int × (Bool))) × (Bool × (Bool × (Int × (Int × (Int × (Bool)))))))) × (Int × ((Int × Int) × (Int × ((List (Int × (List Int))) × ((List (Int × (List Int))) × Int)))))) (h2 : (Bool × ((Int × (Int × (Bool))) × (Bool × (Bool × (Int × (Int × (Int × (Bool)))))))) × (Int × ((Int × Int) × (Int × ((List (Int × (List Int))) × ((List (Int × (List Int))) × Int)))))) (h3 : (Bool × ((Int × (Int × (Bool))) × (Bool × (Bool × (Int × (Int × (Int × (Bool)))))))) × (Int × ((Int × Int) × (Int × ((List (Int × (List Int))) × ((List (Int × (List Int))) × Int)))))) : Option ((Unit × (((Bool × ((Int × (Int × (Bool))) × (Bool × (Bool × (Int × (Int × (Int × (Bool)))))))) × (Int × ((Int × Int) × (Int × ((List (Int × (List Int))) × ((List (Int × (List Int))) × Int)))))) × (((Bool × ((Int × (Int × (Bool))) × (Bool × (Bool × (Int × (Int × (Int × (Bool)))))))) × (Int × ((Int × Int) × (Int × ((List (Int × (List Int))) × ((List (Int × (List Int))) × Int)))))) × (((Bool × ((Int × (Int × (Bool))) × (Bool × (Bool × (Int × (Int × (Int × (Bool)))))))) × (Int × ((Int × Int) × (Int × ((List (Int × (List Int))) × ((List (Int × (List Int))) × Int)))))) × (((Bool × ((Int × (Int × (Bool))) × (Bool × (Bool × (Int × (Int × (Int × (Bool)))))))) × (Int × ((Int × Int) × (Int × ((List (Int × (List Int))) × ((List (Int × (List Int))) × Int)))))) × Unit)))))) :=
 bif (decide (x47 < x46)) then
  Option.bind (law27_talk_L10_R N ((toA11, (x46, (x47, (toB10, ((((List.length toB10) : Nat) : Int), ((0 : Int), ())))))), (((h0.1.1, ((h0.1.2.1.1, (h0.1.2.1.2.1, h0.1.2.1.2.2)), (h0.1.2.2.1, (h0.1.2.2.2.1, (h0.1.2.2.2.2.1, (h0.1.2.2.2.2.2.1, (h0.1.2.2.2.2.2.2.1, h0.1.2.2.2.2.2.2.2))))))), (h0.2.1, ((h0.2.2.1.1, h0.2.2.1.2), (h0.2.2.2.1, (h0.2.2.2.2.1, (h0.2.2.2.2.2.1, h0.2.2.2.2.2.2)))))), (((h1.1.1, ((h1.1.2.1.1, (h1.1.2.1.2.1, h1.1.2.1.2.2)), (h1.1.2.2.1, (h1.1.2.2.2.1, (h1.1.2.2.2.2.1, (h1.1.2.2.2.2.2.1, (h1.1.2.2.2.2.2.2.1, h1.1.2.2.2.2.2.2.2))))))), (h1.2.1, ((h1.2.2.1.1, h1.2.2.1.2), (h1.2.2.2.1, (h1.2.2.2.2.1, (h1.2.2.2.2.2.1, h1.2.2.2.2.2.2)))))), (((h2.1.1, ((h2.1.2.1.1, (h2.1.2.1.2.1, h2.1.2.1.2.2)), (h2.1.2.2.1, (h2.1.2.2.2.1, (h2.1.2.2.2.2.1, (h2.1.2.2.2.2.2.1, (h2.1.2.2.2.2.2.2.1, h2.1.2.2.2.2.2.2.2))))))), (h2.2.1, ((h2.2.2.1.1, h2.2.2.1.2), (h2.2.2.2.1, (h2.2.2.2.2.1, (h2.2.2.2.2.2.1, h2.2.2.2.2.2.2)))))), (((h3.1.1, ((h3.1.2.1.1, (h3.1.2.1.2.1, h3.1.2.1.2.2)), (h3.1.2.2.1, (h3.1.2.2.2.1, (h3.1.2.2.2.2.1, (h3.1.2.2.2.2.2.1, (h3.1.2.2.2.2.2.2.1, h3.1.2.2.2.2.2.2.2))))))), (h3.2.1, ((h3.2.2.1.1, h3.2.2.1.2), (h3.2.2.2.1, (h3.2.2.2.2.1, (h3.2.2.2.2.2.1, h3.2.2.2.2.2.2)))))), (([] : List ((Int × (Int × (List Int))))), (([] : List ((Int × (Int × (List Int))))), ())))))))) fun v10 =>
  Option.bind (law27_talk_L17_R N ((v10.1.2.1, (v10.1.2.2.1, (v10.1.1, ((((List.length v10.1.1) : Nat) : Int), ((0 : Int), ()))))), (((v10.2.1.1.1, ((v10.2.1.1.2.1.1, (v10.2.1.1.2.1.2.1, v10.2.1.1.2.1.2.2)), (v10.2.1.1.2.2.1, (v10.2.1.1.2.2.2.1, (v10.2.1.1.2.2.2.2.1, (v10.2.1.1.2.2.2.2.2.1, (v10.2.1.1.2.2.2.2.2.2.1, v10.2.1.1.2.2.2.2.2.2.2))))))), (v10.2.1.2.1, ((v10.2.1.2.2.1.1, v10.2.1.2.2.1.2), (v10.2.1.2.2.2.1, (v10.2.1.2.2.2.2.1, (v10.2.1.2.2.2.2.2.1, v10.2.1.2.2.2.2.2.2)))))), (((v10.2.2.1.1.1, ((v10.2.2.1.1.2.1.1, (v10.2.2.1.1.2.1.2.1, v10.2.2.1.1.2.1.2.2)), (v10.2.2.1.1.2.2.1, (v10.2.2.1.1.2.2.2.1, (v10.2.2.1.1.2.2.2.2.1, (v10.2.2.1.1.2.2.2.2.2.1, (v10.2.2.1.1.2.2.2.2.2.2.1, v10.2.2.1.1.2.2.2.2.2.2.2))))))), (v10.2.2.1.2.1, ((v10.2.2.1.2.2.1.1, v10.2.2.1.2.2.1.2), (v10.2.2.1.2.2.2.1, (v10.2.2.1.2.2.2.2.1, (v10.2.2.1.2.2.2.2.2.1, v10.2.2.1.2.2.2.2.2.2)))))), (((v10.2.2.2.1.1.1, ((v10.2.2.2.1.1.2.1.1, (v10.2.2.2.1.1.2.1.2.1, v10.2.2.2.1.1.2.1.2.2)), (v10.2.2.2.1.1.2.2.1, (v10.2.2.2.1.1.2.2.2.1, (v10.2.2.2.1.1.2.2.2.2.1, (v10.2.2.2.1.1.2.2.2.2.2.1, (v10.2.2.2.1.1.2.2.2.2.2.2.1, v10.2.2.2.1.1.2.2.2.2.2.2.2))))))), (v10.2.2.2.1.2.1, ((v10.2.2.2.1.2.2.1.1, v10.2.2.2.1.2.2.1.2), (v10.2.2.2.1.2.2.2.1, (v10.2.2.2.1.2.2.2.2.1, (v10.2.2.2.1.2.2.2.2.2.1, v10.2.2.2.1.2.2.2.2.2.2)))))), (((v10.2.2.2.2.1.1.1, ((v10.2.2.2.2.1.1.2.1.1, (v10.2.2.2.2.1.1.2.1.2.1, v10.2.2.2.2.1.1.2.1.2.2)), (v10.2.2.2.2.1.1.2.2.1, (v10.2.2.2.2.1.1.2.2.2.1, (v10.2.2.2.2.1.1.2.2.2.2.1, (v10.2.2.2.2.1.1.2.2.2.2.2.1, (v10.2.2.2.2.1.1.2.2.2.2.2.2.1, v10.2.2.2.2.1.1.2.2.2.2.2.2.2))))))), (v10.2.2.2.2.1.2.1, ((v10.2.2.2.2.1.2.2.1.1, v10.2.2.2.2.1.2.2.1.2), (v10.2.2.2.2.1.2.2.2.1, (v10.2.2.2.2.1.2.2.2.2.1, (v10.2.2.2.2.1.2.2.2.2.2.1, v10.2.2.2.2.1.2.2.2.2.2.2)))))), (v10.2.2.2.2.2.1, (v10.2.2.2.2.2.2.1, ())))))))) fun v11 =>
  (X ((v11.2.2.2.2.2.1, (v11.2.2.2.2.2.2.1, (v11.1.1, ((IntKind.wrap .i64 (v11.1.2.1 + 1)), ())))), (((v11.2.1.1.1, ((v11.2.1.1.2.1.1, (v11.2.1.1.2.1.2.1, v11.2.1.1.2.1.2.2)), (v11.2.1.1.2.2.1, (v11.2.1.1.2.2.2.1, (v11.2.1.1.2.2.2.2.1, (v11.2.1.1.2.2.2.2.2.1, (v11.2.1.1.2.2.2.2.2.2.1, v11.2.1.1.2.2.2.2.2.2.2))))))), (v11.2.1.2.1, ((v11.2.1.2.2.1.1, v11.2.1.2.2.1.2), (v11.2.1.2.2.2.1, (v11.2.1.2.2.2.2.1, (v11.2.1.2.2.2.2.2.1, v11.2.1.2.2.2.2.2.2)))))), (((v11.2.2.1.1.1, ((v11.2.2.1.1.2.1.1, (v11.2.2.1.1.2.1.2.1, v11.2.2.1.1.2.1.2.2)), (v11.2.2.1.1.2.2.1, (v11.2.2.1.1.2.2.2.1, (v11.2.2.1.1.2.2.2.2.1, (v11.2.2.1.1.2.2.2.2.2.1, (v11.2.2.1.1.2.2.2.2.2.2.1, v11.2.2.1.1.2.2.2.2.2.2.2))))))), (v11.2.2.1.2.1, ((v11.2.2.1.2.2.1.1, v11.2.2.1.2.2.1.2), (v11.2.2.1.2.2.2.1, (v11.2.2.1.2.2.2.2.1, (v11.2.2.1.2.2.2.2.2.1, v11.2.2.1.2.2.2.2.2.2)))))), (((v11.2.2.2.1.1.1, ((v11.2.2.2.1.1.2.1.1, (v11.2.2.2.1.1.2.1.2.1, v11.2.2.2.1.1.2.1.2.2)), (v11.2.2.2.1.1.2.2.1, (v11.2.2.2.1.1.2.2.2.1, (v11.2.2.2.1.1.2.2.2.2.1, (v11.2.2.2.1.1.2.2.2.2.2.1, (v11.2.2.2.1.1.2.2.2.2.2.2.1, v11.2.2.2.1.1.2.2.2.2.2.2.2))))))), (v11.2.2.2.1.2.1, ((v11.2.2.2.1.2.2.1.1, v11.2.2.2.1.2.2.1.2), (v11.2.2.2.1.2.2.2.1, (v11.2.2.2.1.2.2.2.2.1, (v11.2.2.2.1.2.2.2.2.2.1, v11.2.2.2.1.2.2.2.2.2.2)))))), (((v11.2.2.2.2.1.1.1, ((v11.2.2.2.2.1.1.2.1.1, (v11.2.2.2.2.1.1.2.1.2.1, v11.2.2.2.2.1.1.2.1.2.2)), (v11.2.2.2.2.1.1.2.2.1, (v11.2.2.2.2.1.1.2.2.2.1, (v11.2.2.2.2.1.1.2.2.2.2.1, (v11.2.2.2.2.1.1.2.2.2.2.2.1, (v11.2.2.2.2.1.1.2.2.2.2.2.2.1, v11.2.2.2.2.1.1.2.2.2.2.2.2.2))))))), (v11.2.2.2.2.1.2.1, ((v11.2.2.2.2.1.2.2.1.1, v11.2.2.2.2.1.2.2.1.2), (v11.2.2.2.2.1.2.2.2.1, (v11.2.2.2.2.1.2.2.2.2.1, (v11.2.2.2.2.1.2.2.2.2.2.1, v11.2.2.2.2.1.2.2.2.2.2.2)))))), ()))))))
 else
  some (((), (((h0.1.1, ((h0.1.2.1.1, (h0.1.2.1.2.1, h0.1.2.1.2.2)), (h0.1.2.2.1, (h0.1.2.2.2.1, (h0.1.2.2.2.2.1, (h0.1.2.2.2.2.2.1, (h0.1.2.2.2.2.2.2.1, h0.1.2.2.2.2.2.2.2))))))), (h0.2.1, ((h0.2.2.1.1, h0.2.2.1.2), (h0.2.2.2.1, (h0.2.2.2.2.1, (h0.2.2.2.2.2.1, h0.2.2.2.2.2.2)))))), (((h1.1.1, ((h1.1.2.1.1, (h1.1.2.1.2.1, h1.1.2.1.2.2)), (h1.1.2.2.1, (h1.1.2.2.2.1, (h1.1.2.2.2.2.1, (h1.1.2.2.2.2.2.1, (h1.1.2.2.2.2.2.2.1, h1.1.2.2.2.2.2.2.2))))))), (h1.2.1, ((h1.2.2.1.1, h1.2.2.1.2), (h1.2.2.2.1, (h1.2.2.2.2.1, (h1.2.2.2.2.2.1, h1.2.2.2.2.2.2)))))), (((h2.1.1, ((h2.1.2.1.1, (h2.1.2.1.2.1, h2.1.2.1.2.2)), (h2.1.2.2.1, (h2.1.2.2.2.1, (h2.1.2.2.2.2.1, (h2.1.2.2.2.2.2.1, (h2.1.2.2.2.2.2.2.1, h2.1.2.2.2.2.2.2.2))))))), (h2.2.1, ((h2.2.2.1.1, h2.2.2.1.2), (h2.2.2.2.1, (h2.2.2.2.2.1, (h2.2.2.2.2.2.1, h2.2.2.2.2.2.2)))))), (((h3.1.1, ((h3.1.2.1.1, (h3.1.2.1.2.1, h3.1.2.1.2.2)), (h3.1.2.2.1, (h3.1.2.2.2.1, (h3.1.2.2.2.2.1, (h3.1.2.2.2.2.2.1, (h3.1.2.2.2.2.2.2.1, h3.1.2.2.2.2.2.2.2))))))), (h3.2.1, ((h3.2.2.1.1, h3.2.2.1.2), (h3.2.2.2.1, (h3.2.2.2.2.1, (h3.2.2.2.2.2.1, h3.2.2.2.2.2.2)))))), ()))))))
noncomputable def law27_talk_L7_R (c : (((List (Int × (Int × (List Int)))) × ((List (Int × (Int × (List Int)))) × (Int × (Int × Unit)))) × (((Bool × ((Int × (Int × (Bool))) × (Bool × (Bool × (Int × (Int × (Int × (Bool)))))))) × (Int × ((Int × Int) × (Int × ((List (Int × (List Int))) × ((List (Int × (List Int))) × Int)))))) × (((Bool × ((Int × (Int × (Bool))) × (Bool × (Bool × (Int × (Int × (Int × (Bool)))))))) × (Int × ((Int × Int) × (Int × ((List (Int × (List Int))) × ((List (Int × (List Int))) × Int)))))) × (((Bool × ((Int × (Int × (Bool))) × (Bool × (Bool × (Int × (Int × (Int × (Bool)))))))) × (Int × ((Int × Int) × (Int × ((List (Int × (List Int))) × ((List (Int × (List Int))) × Int)))))) × (((Bool × ((Int × (Int × (Bool))) × (Bool × (Bool × (Int × (Int × (Int × (Bool)))))))) × (Int × ((Int × Int) × (Int × ((List (Int × (List Int))) × ((List (Int × (List Int))) × Int)))))) × Unit)))))) : Option ((Unit × (((Bool × ((Int × (Int × (Bool))) × (Bool × (Bool × (Int × (Int × (Int × (Bool)))))))) × (Int × ((Int × Int) × (Int × ((List (Int × (List Int))) × ((List (Int × (List Int))) × Int)))))) × (((Bool × ((Int × (Int × (Bool))) × (Bool × (Bool × (Int × (Int × (Int × (Bool)))))))) × (Int × ((Int × Int) × (Int × ((List (Int × (List Int))) × ((List (Int × (List Int))) × Int)))))) × (((Bool × ((Int × (Int × (Bool))) × (Bool × (Bool × (Int × (Int × (Int × (Bool)))))))) × (Int × ((Int × Int) × (Int × ((List (Int × (List Int))) × ((List (Int × (List Int))) × Int)))))) × (((Bool × ((Int × (Int × (Bool))) × (Bool × (Bool × (Int × (Int × (Int × (Bool)))))))) × (Int × ((Int × Int) × (Int × ((List (Int × (List Int))) × ((List (Int × (List Int))) × Int)))))) × Unit)))))) := gl (fun X c => law27_talk_L7 N X c.1.1 c.1.2.1 c.1.2.2.1 c.1.2.2.2.1 c.2.1 c.2.2.1 c.2.2.2.1 c.2.2.2.2.1) N c
theorem law27_talk_L7_S (X : (((List (Int × (Int × (List Int)))) × ((List (Int × (Int × (List Int)))) × (Int × (Int × Unit)))) × (((Bool × ((Int × (Int × (Bool))) × (Bool × (Bool × (Int × (Int × (Int × (Bool)))))))) × (Int × ((Int × Int) × (Int × ((List (Int × (List Int))) × ((List (Int × (List Int))) × Int)))))) × (((Bool × ((Int × (Int × (Bool))) × (Bool × (Bool × (Int × (Int × (Int × (Bool)))))))) × (Int × ((Int × Int) × (Int × ((List (Int × (List Int))) × ((List (Int × (List Int))) × Int)))))) × (((Bool × ((Int × (Int × (Bool))) × (Bool × (Bool × (Int × (Int × (Int × (Bool)))))))) × (Int × ((Int × Int) × (Int × ((List (Int × (List Int))) × ((List (Int × (List Int))) × Int)))))) × (((Bool × ((Int × (Int × (Bool))) × (Bool × (Bool × (Int × (Int × (Int × (Bool)))))))) × (Int × ((Int × Int) × (Int × ((List (Int × (List Int))) × ((List (Int × (List Int))) × Int)))))) × Unit))))) → Option ((Unit × (((Bool × ((Int × (Int × (Bool))) × (Bool × (Bool × (Int × (Int × (Int × (Bool)))))))) × (Int × ((Int × Int) × (Int × ((List (Int × (List Int))) × ((List (Int × (List Int))) × Int)))))) × (((Bool × ((Int × (Int × (Bool))) × (Bool × (Bool × (Int × (Int × (Int × (Bool)))))))) × (Int × ((Int × Int) × (Int × ((List (Int × (List Int))) × ((List (Int × (List Int))) × Int)))))) × (((Bool × ((Int × (Int × (Bool))) × (Bool × (Bool × (Int × (Int × (Int × (Bool)))))))) × (Int × ((Int × Int) × (Int × ((List (Int × (List Int))) × ((List (Int × (List Int))) × Int)))))) × (((Bool × ((Int × (Int × (Bool))) × (Bool × (Bool × (Int × (Int × (Int × (Bool)))))))) × (Int × ((Int × Int) × (Int × ((List (Int × (List Int))) × ((List (Int × (List Int))) × Int)))))) × Unit))))))) (toB10 : List (Int × (Int × (List Int)))) (toA11 : List (Int × (Int × (List Int)))) (x46 : Int) (x47 : Int) (h0 : (Bool × ((Int × (Int × (Bool))) × (Bool × (Bool × (Int × (Int × (Int × (Bool)))))))) × (Int × ((Int × Int) × (Int × ((List (Int × (List Int))) × ((List (Int × (List Int))) × Int)))))) (h1 : (Bool × ((Int × (Int × (Bool))) × (Bool × (Bool × (Int × (Int × (Int × (Bool)))))))) × (Int × ((Int × Int) × (Int × ((List (Int × (List Int))) × ((List (Int × (List Int))) × Int)))))) (h2 : (Bool × ((Int × (Int × (Bool))) × (Bool × (Bool × (Int × (Int × (Int × (Bool)))))))) × (Int × ((Int × Int) × (Int × ((List (Int × (List Int))) × ((List (Int × (List Int))) × Int)))))) (h3 : (Bool × ((Int × (Int × (Bool))) × (Bool × (Bool × (Int × (Int × (Int × (Bool)))))))) × (Int × ((Int × Int) × (Int × ((List (Int × (List Int))) × ((List (Int × (List Int))) × Int)))))) : (roundK Try.prog (Eh135 N) 400 [14] law27_talk_L7_I (loopAt Try.prog [14] 7) X ((toB10, toA11, x46, x47, ()), (h0, h1, h2, h3, ()))).run = law27_talk_L7 N X toB10 toA11 x46 x47 h0 h1 h2 h3 := by kernel_rfl
noncomputable def Eh136 : (R : Type) → Env R := Env.addLp (Eh135 N) [14] 0 7 (fun R => lpK Try.prog law27_talk_L7_I (fun X c => law27_talk_L7 N X c.1.1 c.1.2.1 c.1.2.2.1 c.1.2.2.2.1 c.2.1 c.2.2.1 c.2.2.2.1 c.2.2.2.2.1) N)
theorem Eh136_ok (R : Type) : EnvOK Try.prog (Eh136 N R) := EnvOK.addLp (Eh135_ok N R) (by kernel_rfl) (lpK_ok (li := law27_talk_L7_I) (G := fun X c => law27_talk_L7 N X c.1.1 c.1.2.1 c.1.2.2.1 c.1.2.2.2.1 c.2.1 c.2.2.1 c.2.2.2.1 c.2.2.2.2.1) hmx (Eh135_ok N _) (by kernel_rfl) loopAt_sub (fun (X : CT law27_talk_L7_I.sh → Option (OT law27_talk_L7_I.outs)) (c : CT law27_talk_L7_I.sh) => law27_talk_L7_S N X c.1.1 c.1.2.1 c.1.2.2.1 c.1.2.2.2.1 c.2.1 c.2.2.1 c.2.2.2.1 c.2.2.2.2.1) N)
noncomputable def law27_talk (a0 : (Bool × ((Int × (Int × (Bool))) × (Bool × (Bool × (Int × (Int × (Int × (Bool)))))))) × (Int × ((Int × Int) × (Int × ((List (Int × (List Int))) × ((List (Int × (List Int))) × Int)))))) (b1 : (Bool × ((Int × (Int × (Bool))) × (Bool × (Bool × (Int × (Int × (Int × (Bool)))))))) × (Int × ((Int × Int) × (Int × ((List (Int × (List Int))) × ((List (Int × (List Int))) × Int)))))) (rounds2 : Int) : Option (((Bool × ((Int × (Int × (Bool))) × (Bool × (Bool × (Int × (Int × (Int × (Bool)))))))) × (Int × ((Int × Int) × (Int × ((List (Int × (List Int))) × ((List (Int × (List Int))) × Int)))))) × (Bool × ((Int × (Int × (Bool))) × (Bool × (Bool × (Int × (Int × (Int × (Bool)))))))) × (Int × ((Int × Int) × (Int × ((List (Int × (List Int))) × ((List (Int × (List Int))) × Int)))))) :=
 Option.bind (nego_Nego_Do N ((a0.1.1, ((a0.1.2.1.1, (a0.1.2.1.2.1, a0.1.2.1.2.2)), (a0.1.2.2.1, (a0.1.2.2.2.1, (a0.1.2.2.2.2.1, (a0.1.2.2.2.2.2.1, (a0.1.2.2.2.2.2.2.1, a0.1.2.2.2.2.2.2.2))))))), (a0.2.1, ((a0.2.2.1.1, a0.2.2.1.2), (a0.2.2.2.1, (a0.2.2.2.2.1, (a0.2.2.2.2.2.1, a0.2.2.2.2.2.2)))))) (2 : Int)) fun v4 =>
 Option.bind (nego_Nego_Do N ((b1.1.1, ((b1.1.2.1.1, (b1.1.2.1.2.1, b1.1.2.1.2.2)), (b1.1.2.2.1, (b1.1.2.2.2.1, (b1.1.2.2.2.2.1, (b1.1.2.2.2.2.2.1, (b1.1.2.2.2.2.2.2.1, b1.1.2.2.2.2.2.2.2))))))), (b1.2.1, ((b1.2.2.1.1, b1.2.2.1.2), (b1.2.2.2.1, (b1.2.2.2.2.1, (b1.2.2.2.2.2.1, b1.2.2.2.2.2.2)))))) (2 : Int)) fun v5 =>
 Option.bind (nego_Nego_Do N ((v4.1.1.1, ((v4.1.1.2.1.1, (v4.1.1.2.1.2.1, v4.1.1.2.1.2.2)), (v4.1.1.2.2.1, (v4.1.1.2.2.2.1, (v4.1.1.2.2.2.2.1, (v4.1.1.2.2.2.2.2.1, (v4.1.1.2.2.2.2.2.2.1, v4.1.1.2.2.2.2.2.2.2))))))), (v4.1.2.1, ((v4.1.2.2.1.1, v4.1.2.2.1.2), (v4.1.2.2.2.1, (v4.1.2.2.2.2.1, (v4.1.2.2.2.2.2.1, v4.1.2.2.2.2.2.2)))))) (0 : Int)) fun v6 =>
 Option.bind (nego_Nego_Do N ((v5.1.1.1, ((v5.1.1.2.1.1, (v5.1.1.2.1.2.1, v5.1.1.2.1.2.2)), (v5.1.1.2.2.1, (v5.1.1.2.2.2.1, (v5.1.1.2.2.2.2.1, (v5.1.1.2.2.2.2.2.1, (v5.1.1.2.2.2.2.2.2.1, v5.1.1.2.2.2.2.2.2.2))))))), (v5.1.2.1, ((v5.1.2.2.1.1, v5.1.2.2.1.2), (v5.1.2.2.2.1, (v5.1.2.2.2.2.1, (v5.1.2.2.2.2.2.1, v5.1.2.2.2.2.2.2)))))) (0 : Int)) fun v7 =>
 Option.bind (law27_talk_L7_R N ((v6.2.1, (v7.2.1, (rounds2, ((0 : Int), ())))), (((v6.1.1.1, ((v6.1.1.2.1.1, (v6.1.1.2.1.2.1, v6.1.1.2.1.2.2)), (v6.1.1.2.2.1, (v6.1.1.2.2.2.1, (v6.1.1.2.2.2.2.1, (v6.1.1.2.2.2.2.2.1, (v6.1.1.2.2.2.2.2.2.1, v6.1.1.2.2.2.2.2.2.2))))))), (v6.1.2.1, ((v6.1.2.2.1.1, v6.1.2.2.1.2), (v6.1.2.2.2.1, (v6.1.2.2.2.2.1, (v6.1.2.2.2.2.2.1, v6.1.2.2.2.2.2.2)))))), (((v7.1.1.1, ((v7.1.1.2.1.1, (v7.1.1.2.1.2.1, v7.1.1.2.1.2.2)), (v7.1.1.2.2.1, (v7.1.1.2.2.2.1, (v7.1.1.2.2.2.2.1, (v7.1.1.2.2.2.2.2.1, (v7.1.1.2.2.2.2.2.2.1, v7.1.1.2.2.2.2.2.2.2))))))), (v7.1.2.1, ((v7.1.2.2.1.1, v7.1.2.2.1.2), (v7.1.2.2.2.1, (v7.1.2.2.2.2.1, (v7.1.2.2.2.2.2.1, v7.1.2.2.2.2.2.2)))))), (((false, (((0 : Int), ((0 : Int), false)), (false, (false, ((0 : Int), ((0 : Int), ((0 : Int), false))))))), ((0 : Int), (((0 : Int), (0 : Int)), ((0 : Int), (([] : List ((Int × (List Int)))), (([] : List ((Int × (List Int)))), (0 : Int))))))), (((false, (((0 : Int), ((0 : Int), false)), (false, (false, ((0 : Int), ((0 : Int), ((0 : Int), false))))))), ((0 : Int), (((0 : Int), (0 : Int)), ((0 : Int), (([] : List ((Int × (List Int)))), (([] : List ((Int × (List Int)))), (0 : Int))))))), ())))))) fun v8 =>
 some ((((v8.2.1.1.1, ((v8.2.1.1.2.1.1, (v8.2.1.1.2.1.2.1, v8.2.1.1.2.1.2.2)), (v8.2.1.1.2.2.1, (v8.2.1.1.2.2.2.1, (v8.2.1.1.2.2.2.2.1, (v8.2.1.1.2.2.2.2.2.1, (v8.2.1.1.2.2.2.2.2.2.1, v8.2.1.1.2.2.2.2.2.2.2))))))), (v8.2.1.2.1, ((v8.2.1.2.2.1.1, v8.2.1.2.2.1.2), (v8.2.1.2.2.2.1, (v8.2.1.2.2.2.2.1, (v8.2.1.2.2.2.2.2.1, v8.2.1.2.2.2.2.2.2)))))), ((v8.2.2.1.1.1, ((v8.2.2.1.1.2.1.1, (v8.2.2.1.1.2.1.2.1, v8.2.2.1.1.2.1.2.2)), (v8.2.2.1.1.2.2.1, (v8.2.2.1.1.2.2.2.1, (v8.2.2.1.1.2.2.2.2.1, (v8.2.2.1.1.2.2.2.2.2.1, (v8.2.2.1.1.2.2.2.2.2.2.1, v8.2.2.1.1.2.2.2.2.2.2.2))))))), (v8.2.2.1.2.1, ((v8.2.2.1.2.2.1.1, v8.2.2.1.2.2.1.2), (v8.2.2.1.2.2.2.1, (v8.2.2.1.2.2.2.2.1, (v8.2.2.1.2.2.2.2.2.1, v8.2.2.1.2.2.2.2.2.2))))))))
theorem law27_talk_S (a0 : (Bool × ((Int × (Int × (Bool))) × (Bool × (Bool × (Int × (Int × (Int × (Bool)))))))) × (Int × ((Int × Int) × (Int × ((List (Int × (List Int))) × ((List (Int × (List Int))) × Int)))))) (b1 : (Bool × ((Int × (Int × (Bool))) × (Bool × (Bool × (Int × (Int × (Int × (Bool)))))))) × (Int × ((Int × Int) × (Int × ((List (Int × (List Int))) × ((List (Int × (List Int))) × Int)))))) (rounds2 : Int) : (runK Try.prog (Eh136 N) 400 14 [(.pair (.pair .bool (.pair (.pair (.int .u16) (.pair (.int .u32) .bool)) (.pair .bool (.pair .bool (.pair (.int .u32) (.pair (.int .u32) (.pair (.int .u32) .bool))))))) (.pair (.int .i64) (.pair (.pair (.int .i64) (.int .i64)) (.pair (.int .u8) (.pair (.sl (.pair (.int .u8) (.sl (.int .u8)))) (.pair (.sl (.pair (.int .u8) (.sl (.int .u8)))) (.int .i64))))))), (.pair (.pair .bool (.pair (.pair (.int .u16) (.pair (.int .u32) .bool)) (.pair .bool (.pair .bool (.pair (.int .u32) (.pair (.int .u32) (.pair (.int .u32) .bool))))))) (.pair (.int .i64) (.pair (.pair (.int .i64) (.int .i64)) (.pair (.int .u8) (.pair (.sl (.pair (.int .u8) (.sl (.int .u8)))) (.pair (.sl (.pair (.int .u8) (.sl (.int .u8)))) (.int .i64))))))), (.int .i64)] [(.pair (.pair .bool (.pair (.pair (.int .u16) (.pair (.int .u32) .bool)) (.pair .bool (.pair .bool (.pair (.int .u32) (.pair (.int .u32) (.pair (.int .u32) .bool))))))) (.pair (.int .i64) (.pair (.pair (.int .i64) (.int .i64)) (.pair (.int .u8) (.pair (.sl (.pair (.int .u8) (.sl (.int .u8)))) (.pair (.sl (.pair (.int .u8) (.sl (.int .u8)))) (.int .i64))))))), (.pair (.pair .bool (.pair (.pair (.int .u16) (.pair (.int .u32) .bool)) (.pair .bool (.pair .bool (.pair (.int .u32) (.pair (.int .u32) (.pair (.int .u32) .bool))))))) (.pair (.int .i64) (.pair (.pair (.int .i64) (.int .i64)) (.pair (.int .u8) (.pair (.sl (.pair (.int .u8) (.sl (.int .u8)))) (.pair (.sl (.pair (.int .u8) (.sl (.int .u8)))) (.int .i64)))))))] (a0, b1, rounds2, ())).run = law27_talk N a0 b1 rounds2 := by kernel_rfl
noncomputable def Eh137 : (R : Type) → Env R := Env.addFn (Eh136 N) 14 (fun R => fnK [(.pair (.pair .bool (.pair (.pair (.int .u16) (.pair (.int .u32) .bool)) (.pair .bool (.pair .bool (.pair (.int .u32) (.pair (.int .u32) (.pair (.int .u32) .bool))))))) (.pair (.int .i64) (.pair (.pair (.int .i64) (.int .i64)) (.pair (.int .u8) (.pair (.sl (.pair (.int .u8) (.sl (.int .u8)))) (.pair (.sl (.pair (.int .u8) (.sl (.int .u8)))) (.int .i64))))))), (.pair (.pair .bool (.pair (.pair (.int .u16) (.pair (.int .u32) .bool)) (.pair .bool (.pair .bool (.pair (.int .u32) (.pair (.int .u32) (.pair (.int .u32) .bool))))))) (.pair (.int .i64) (.pair (.pair (.int .i64) (.int .i64)) (.pair (.int .u8) (.pair (.sl (.pair (.int .u8) (.sl (.int .u8)))) (.pair (.sl (.pair (.int .u8) (.sl (.int .u8)))) (.int .i64))))))), (.int .i64)] [(.pair (.pair .bool (.pair (.pair (.int .u16) (.pair (.int .u32) .bool)) (.pair .bool (.pair .bool (.pair (.int .u32) (.pair (.int .u32) (.pair (.int .u32) .bool))))))) (.pair (.int .i64) (.pair (.pair (.int .i64) (.int .i64)) (.pair (.int .u8) (.pair (.sl (.pair (.int .u8) (.sl (.int .u8)))) (.pair (.sl (.pair (.int .u8) (.sl (.int .u8)))) (.int .i64))))))), (.pair (.pair .bool (.pair (.pair (.int .u16) (.pair (.int .u32) .bool)) (.pair .bool (.pair .bool (.pair (.int .u32) (.pair (.int .u32) (.pair (.int .u32) .bool))))))) (.pair (.int .i64) (.pair (.pair (.int .i64) (.int .i64)) (.pair (.int .u8) (.pair (.sl (.pair (.int .u8) (.sl (.int .u8)))) (.pair (.sl (.pair (.int .u8) (.sl (.int .u8)))) (.int .i64)))))))] (fun c => law27_talk N c.1 c.2.1 c.2.2.1))
theorem Eh137_ok (R : Type) : EnvOK Try.prog (Eh137 N R) := EnvOK.addFn hmx (Eh136_ok N R) (Eh136_ok N _) (by kernel_rfl) (fun c => law27_talk_S N c.1 c.2.1 c.2.2.1)
noncomputable def Eh138 : (R : Type) → Env R := Env.addMv (Eh137 N) [(17, 5)]
theorem Eh138_ok (R : Type) : EnvOK Try.prog (Eh138 N R) := EnvOK.addMv (Eh137_ok N R) [(17, 5)]
noncomputable def Eh139 : (R : Type) → Env R := Env.addBx (Eh138 N) [(17, 0)]
theorem Eh139_ok (R : Type) : EnvOK Try.prog (Eh139 N R) := EnvOK.addBx (Eh138_ok N R) [(17, 0)]
noncomputable def nego_Nego_Acked_L3_I : LI := ⟨24, 0, [(3, 87)], ⟨[(3, .lit (.own 0)), (7, .ty (.sl (.pair (.int .u8) (.sl (.int .u8))))), (8, .ty (.int .i64)), (9, .ty (.int .i64))], [.own (.pair (.int .u8) (.sl (.int .u8))) 87]⟩, [(.exit 0, ⟨[(3, .lit (.own 0))], [.own (.pair (.int .u8) (.sl (.int .u8))) 87]⟩)]⟩
noncomputable def nego_Nego_Acked_L3 (X : (((List (Int × (List Int))) × (Int × (Int × Unit))) × ((List (Int × (List Int))) × Unit)) → Option ((Unit × ((List (Int × (List Int))) × Unit)))) (x7 : List (Int × (List Int))) (x8 : Int) (x9 : Int) (h0 : List (Int × (List Int))) : Option ((Unit × ((List (Int × (List Int))) × Unit))) :=
 bif (decide (x9 < x8)) then
  Option.bind (getI x7 x9) fun (v6 : (Int × (List Int))) =>
  Option.bind (slices_Clone_byte_byte N v6.2) fun v7 =>
  bif (roomB ((List.length h0) + (List.length ([(v6.1, v7)] : List ((Int × (List Int)))))) 32) then
   (X ((x7, (x8, ((IntKind.wrap .i64 (x9 + 1)), ()))), ((h0 ++ ([(v6.1, v7)] : List ((Int × (List Int))))), ())))
  else
   none
 else
  some (((), (h0, ())))
noncomputable def nego_Nego_Acked_L3_R (c : (((List (Int × (List Int))) × (Int × (Int × Unit))) × ((List (Int × (List Int))) × Unit))) : Option ((Unit × ((List (Int × (List Int))) × Unit))) := gl (fun X c => nego_Nego_Acked_L3 N X c.1.1 c.1.2.1 c.1.2.2.1 c.2.1) N c
theorem nego_Nego_Acked_L3_S (X : (((List (Int × (List Int))) × (Int × (Int × Unit))) × ((List (Int × (List Int))) × Unit)) → Option ((Unit × ((List (Int × (List Int))) × Unit)))) (x7 : List (Int × (List Int))) (x8 : Int) (x9 : Int) (h0 : List (Int × (List Int))) : (roundK Try.prog (Eh139 N) 400 [17] nego_Nego_Acked_L3_I (loopAt Try.prog [17] 3) X ((x7, x8, x9, ()), (h0, ()))).run = nego_Nego_Acked_L3 N X x7 x8 x9 h0 := by kernel_rfl
noncomputable def Eh140 : (R : Type) → Env R := Env.addLp (Eh139 N) [17] 0 3 (fun R => lpK Try.prog nego_Nego_Acked_L3_I (fun X c => nego_Nego_Acked_L3 N X c.1.1 c.1.2.1 c.1.2.2.1 c.2.1) N)
theorem Eh140_ok (R : Type) : EnvOK Try.prog (Eh140 N R) := EnvOK.addLp (Eh139_ok N R) (by kernel_rfl) (lpK_ok (li := nego_Nego_Acked_L3_I) (G := fun X c => nego_Nego_Acked_L3 N X c.1.1 c.1.2.1 c.1.2.2.1 c.2.1) hmx (Eh139_ok N _) (by kernel_rfl) loopAt_sub (fun (X : CT nego_Nego_Acked_L3_I.sh → Option (OT nego_Nego_Acked_L3_I.outs)) (c : CT nego_Nego_Acked_L3_I.sh) => nego_Nego_Acked_L3_S N X c.1.1 c.1.2.1 c.1.2.2.1 c.2.1) N)
noncomputable def nego_Nego_Acked (n0 : (Bool × ((Int × (Int × (Bool))) × (Bool × (Bool × (Int × (Int × (Int × (Bool)))))))) × (Int × ((Int × Int) × (Int × ((List (Int × (List Int))) × ((List (Int × (List Int))) × Int)))))) : Option (List (Int × (List Int))) :=
 Option.bind (nego_Nego_Acked_L3_R N ((n0.2.2.2.2.2.1, ((((List.length n0.2.2.2.2.2.1) : Nat) : Int), ((0 : Int), ()))), (([] : List ((Int × (List Int)))), ()))) fun v2 =>
 some (v2.2.1)
theorem nego_Nego_Acked_S (n0 : (Bool × ((Int × (Int × (Bool))) × (Bool × (Bool × (Int × (Int × (Int × (Bool)))))))) × (Int × ((Int × Int) × (Int × ((List (Int × (List Int))) × ((List (Int × (List Int))) × Int)))))) : (runK Try.prog (Eh140 N) 400 17 [(.pair (.pair .bool (.pair (.pair (.int .u16) (.pair (.int .u32) .bool)) (.pair .bool (.pair .bool (.pair (.int .u32) (.pair (.int .u32) (.pair (.int .u32) .bool))))))) (.pair (.int .i64) (.pair (.pair (.int .i64) (.int .i64)) (.pair (.int .u8) (.pair (.sl (.pair (.int .u8) (.sl (.int .u8)))) (.pair (.sl (.pair (.int .u8) (.sl (.int .u8)))) (.int .i64)))))))] [(.sl (.pair (.int .u8) (.sl (.int .u8))))] (n0, ())).run = nego_Nego_Acked N n0 := by kernel_rfl
noncomputable def Eh141 : (R : Type) → Env R := Env.addFn (Eh140 N) 17 (fun R => fnK [(.pair (.pair .bool (.pair (.pair (.int .u16) (.pair (.int .u32) .bool)) (.pair .bool (.pair .bool (.pair (.int .u32) (.pair (.int .u32) (.pair (.int .u32) .bool))))))) (.pair (.int .i64) (.pair (.pair (.int .i64) (.int .i64)) (.pair (.int .u8) (.pair (.sl (.pair (.int .u8) (.sl (.int .u8)))) (.pair (.sl (.pair (.int .u8) (.sl (.int .u8)))) (.int .i64)))))))] [(.sl (.pair (.int .u8) (.sl (.int .u8))))] (fun c => nego_Nego_Acked N c.1))
theorem Eh141_ok (R : Type) : EnvOK Try.prog (Eh141 N R) := EnvOK.addFn hmx (Eh140_ok N R) (Eh140_ok N _) (by kernel_rfl) (fun c => nego_Nego_Acked_S N c.1)
noncomputable def Eh142 : (R : Type) → Env R := Env.addBx (Eh141 N) [(15, 0)]
theorem Eh142_ok (R : Type) : EnvOK Try.prog (Eh142 N R) := EnvOK.addBx (Eh141_ok N R) [(15, 0)]
noncomputable def nego_Nego_Rules (N : Nat) (n0 : (Bool × ((Int × (Int × (Bool))) × (Bool × (Bool × (Int × (Int × (Int × (Bool)))))))) × (Int × ((Int × Int) × (Int × ((List (Int × (List Int))) × ((List (Int × (List Int))) × Int)))))) : Option (Bool × ((Int × (Int × (Bool))) × (Bool × (Bool × (Int × (Int × (Int × (Bool)))))))) :=
 some ((n0.1.1, ((n0.1.2.1.1, (n0.1.2.1.2.1, n0.1.2.1.2.2)), (n0.1.2.2.1, (n0.1.2.2.2.1, (n0.1.2.2.2.2.1, (n0.1.2.2.2.2.2.1, (n0.1.2.2.2.2.2.2.1, n0.1.2.2.2.2.2.2.2))))))))
theorem nego_Nego_Rules_S (n0 : (Bool × ((Int × (Int × (Bool))) × (Bool × (Bool × (Int × (Int × (Int × (Bool)))))))) × (Int × ((Int × Int) × (Int × ((List (Int × (List Int))) × ((List (Int × (List Int))) × Int)))))) : (runK Try.prog (Eh142 N) 400 15 [(.pair (.pair .bool (.pair (.pair (.int .u16) (.pair (.int .u32) .bool)) (.pair .bool (.pair .bool (.pair (.int .u32) (.pair (.int .u32) (.pair (.int .u32) .bool))))))) (.pair (.int .i64) (.pair (.pair (.int .i64) (.int .i64)) (.pair (.int .u8) (.pair (.sl (.pair (.int .u8) (.sl (.int .u8)))) (.pair (.sl (.pair (.int .u8) (.sl (.int .u8)))) (.int .i64)))))))] [(.pair .bool (.pair (.pair (.int .u16) (.pair (.int .u32) .bool)) (.pair .bool (.pair .bool (.pair (.int .u32) (.pair (.int .u32) (.pair (.int .u32) .bool)))))))] (n0, ())).run = nego_Nego_Rules N n0 := by kernel_rfl
noncomputable def Eh143 : (R : Type) → Env R := Env.addFn (Eh142 N) 15 (fun R => fnK [(.pair (.pair .bool (.pair (.pair (.int .u16) (.pair (.int .u32) .bool)) (.pair .bool (.pair .bool (.pair (.int .u32) (.pair (.int .u32) (.pair (.int .u32) .bool))))))) (.pair (.int .i64) (.pair (.pair (.int .i64) (.int .i64)) (.pair (.int .u8) (.pair (.sl (.pair (.int .u8) (.sl (.int .u8)))) (.pair (.sl (.pair (.int .u8) (.sl (.int .u8)))) (.int .i64)))))))] [(.pair .bool (.pair (.pair (.int .u16) (.pair (.int .u32) .bool)) (.pair .bool (.pair .bool (.pair (.int .u32) (.pair (.int .u32) (.pair (.int .u32) .bool)))))))] (fun c => nego_Nego_Rules N c.1))
theorem Eh143_ok (R : Type) : EnvOK Try.prog (Eh143 N R) := EnvOK.addFn hmx (Eh142_ok N R) (Eh142_ok N _) (by kernel_rfl) (fun c => nego_Nego_Rules_S N c.1)
noncomputable def Eh144 : (R : Type) → Env R := Env.addBx (Eh143 N) [(4, 0)]
theorem Eh144_ok (R : Type) : EnvOK Try.prog (Eh144 N R) := EnvOK.addBx (Eh143_ok N R) [(4, 0)]
noncomputable def law27_NegoAgrees (l0 : Arr (Bool × ((Int × (Int × (Bool))) × (Bool × (Bool × (Int × (Int × (Int × (Bool)))))))) 2) (ip1 : Bool) : Option Bool :=
 Option.bind (getI l0.l (0 : Int)) fun (v3 : (Bool × ((Int × (Int × Bool)) × (Bool × (Bool × (Int × (Int × (Int × Bool)))))))) =>
 Option.bind (getI l0.l (1 : Int)) fun (v4 : (Bool × ((Int × (Int × Bool)) × (Bool × (Bool × (Int × (Int × (Int × Bool)))))))) =>
 Option.bind (bif ip1 then
   bif (decide (v4.2.2.2.2.1 = (0 : Int))) then
    some ((cond true true false))
   else
    some ((cond true (cond false true (decide (v4.2.2.2.2.2.1 = (0 : Int)))) false))
  else
   some (false)) fun (v5 : Bool) =>
 Option.bind (bif v5 then
   some (true)
  else
   bif (!ip1) then
    bif (decide ((0 : Int) < v3.2.1.1)) then
     bif (cond true (decide (v3.2.1.1 < (128 : Int))) false) then
      some ((cond false true (cond true true false)))
     else
      bif (decide ((0 : Int) < v4.2.1.1)) then
       bif (cond false true (cond true (decide (v4.2.1.1 < (128 : Int))) false)) then
        some ((cond false true (cond true true false)))
       else
        bif (decide (v3.2.1.2.1 = v4.2.1.2.1)) then
         some ((cond false true (cond true (cond false true (cond true (!(decide (v3.2.1.2.1 = (0 : Int)))) false)) false)))
        else
         some ((cond false true (cond true (cond false true false) false)))
      else
       bif (decide (v3.2.1.2.1 = v4.2.1.2.1)) then
        some ((cond false true (cond true (cond false true (cond true (!(decide (v3.2.1.2.1 = (0 : Int)))) false)) false)))
       else
        some ((cond false true (cond true (cond false true false) false)))
    else
     bif (decide ((0 : Int) < v4.2.1.1)) then
      bif (cond false true (cond true (decide (v4.2.1.1 < (128 : Int))) false)) then
       some ((cond false true (cond true true false)))
      else
       bif (decide (v3.2.1.2.1 = v4.2.1.2.1)) then
        some ((cond false true (cond true (cond false true (cond true (!(decide (v3.2.1.2.1 = (0 : Int)))) false)) false)))
       else
        some ((cond false true (cond true (cond false true false) false)))
     else
      bif (decide (v3.2.1.2.1 = v4.2.1.2.1)) then
       some ((cond false true (cond true (cond false true (cond true (!(decide (v3.2.1.2.1 = (0 : Int)))) false)) false)))
      else
       some ((cond false true (cond true (cond false true false) false)))
   else
    some ((cond false true false))) fun (v6 : Bool) =>
 bif v6 then
  Option.bind (@law27_alive N) fun (v7 : Bool) =>
  some (v7)
 else
  Option.bind (law27_talk N ((ip1, ((v3.2.1.1, (v3.2.1.2.1, false)), (true, (false, (v3.2.2.2.2.1, (v3.2.2.2.2.2.1, (v3.2.2.2.2.2.2.1, v3.2.2.2.2.2.2.2))))))), ((0 : Int), (((0 : Int), (0 : Int)), ((0 : Int), (([] : List ((Int × (List Int)))), (([] : List ((Int × (List Int)))), (0 : Int))))))) ((ip1, ((v4.2.1.1, (v4.2.1.2.1, true)), (false, (true, (v4.2.2.2.2.1, (v4.2.2.2.2.2.1, (v4.2.2.2.2.2.2.1, v4.2.2.2.2.2.2.2))))))), ((0 : Int), (((0 : Int), (0 : Int)), ((0 : Int), (([] : List ((Int × (List Int)))), (([] : List ((Int × (List Int)))), (0 : Int))))))) (12 : Int)) fun v7 =>
  bif (!(decide (v7.1.2.1 = (9 : Int)))) then
   some (false)
  else
   Option.bind (some ((cond false true (!(decide (v7.2.2.1 = (9 : Int))))))) fun (v8 : Bool) =>
   bif v8 then
    some (false)
   else
    bif ip1 then
     bif (decide (v7.1.1.2.2.2.2.1 = v4.2.2.2.2.2.1)) then
      Option.bind (nego_Nego_Acked N ((v7.2.1.1, ((v7.2.1.2.1.1, (v7.2.1.2.1.2.1, v7.2.1.2.1.2.2)), (v7.2.1.2.2.1, (v7.2.1.2.2.2.1, (v7.2.1.2.2.2.2.1, (v7.2.1.2.2.2.2.2.1, (v7.2.1.2.2.2.2.2.2.1, v7.2.1.2.2.2.2.2.2.2))))))), (v7.2.2.1, ((v7.2.2.2.1.1, v7.2.2.2.1.2), (v7.2.2.2.2.1, (v7.2.2.2.2.2.1, (v7.2.2.2.2.2.2.1, v7.2.2.2.2.2.2.2))))))) fun v9 =>
      Option.bind (ipcpo_Options N (v7.1.1.2.2.2.1, (v7.1.1.2.2.2.2.1, (v7.1.1.2.2.2.2.2.1, (v7.1.1.2.2.2.2.2.2.1, v7.1.1.2.2.2.2.2.2.2))))) fun v10 =>
      Option.bind (opts_Same N v9 v10) fun v11 =>
      bif (cond true v11 false) then
       Option.bind (nego_Nego_Acked N ((v7.1.1.1, ((v7.1.1.2.1.1, (v7.1.1.2.1.2.1, v7.1.1.2.1.2.2)), (v7.1.1.2.2.1, (v7.1.1.2.2.2.1, (v7.1.1.2.2.2.2.1, (v7.1.1.2.2.2.2.2.1, (v7.1.1.2.2.2.2.2.2.1, v7.1.1.2.2.2.2.2.2.2))))))), (v7.1.2.1, ((v7.1.2.2.1.1, v7.1.2.2.1.2), (v7.1.2.2.2.1, (v7.1.2.2.2.2.1, (v7.1.2.2.2.2.2.1, v7.1.2.2.2.2.2.2))))))) fun v12 =>
       Option.bind (ipcpo_Options N (v7.2.1.2.2.2.1, (v7.2.1.2.2.2.2.1, (v7.2.1.2.2.2.2.2.1, (v7.2.1.2.2.2.2.2.2.1, v7.2.1.2.2.2.2.2.2.2))))) fun v13 =>
       Option.bind (opts_Same N v12 v13) fun v14 =>
       bif (cond true v14 false) then
        Option.bind (@law27_alive N) fun (v15 : Bool) =>
        some ((cond true v15 false))
       else
        some (false)
      else
       some (false)
     else
      some (false)
    else
     Option.bind (nego_Nego_Acked N ((v7.2.1.1, ((v7.2.1.2.1.1, (v7.2.1.2.1.2.1, v7.2.1.2.1.2.2)), (v7.2.1.2.2.1, (v7.2.1.2.2.2.1, (v7.2.1.2.2.2.2.1, (v7.2.1.2.2.2.2.2.1, (v7.2.1.2.2.2.2.2.2.1, v7.2.1.2.2.2.2.2.2.2))))))), (v7.2.2.1, ((v7.2.2.2.1.1, v7.2.2.2.1.2), (v7.2.2.2.2.1, (v7.2.2.2.2.2.1, (v7.2.2.2.2.2.2.1, v7.2.2.2.2.2.2.2))))))) fun v9 =>
     Option.bind (lcpo_Options N (v7.1.1.2.1.1, (v7.1.1.2.1.2.1, v7.1.1.2.1.2.2))) fun v10 =>
     Option.bind (opts_Same N v9 v10) fun v11 =>
     bif v11 then
      Option.bind (nego_Nego_Acked N ((v7.1.1.1, ((v7.1.1.2.1.1, (v7.1.1.2.1.2.1, v7.1.1.2.1.2.2)), (v7.1.1.2.2.1, (v7.1.1.2.2.2.1, (v7.1.1.2.2.2.2.1, (v7.1.1.2.2.2.2.2.1, (v7.1.1.2.2.2.2.2.2.1, v7.1.1.2.2.2.2.2.2.2))))))), (v7.1.2.1, ((v7.1.2.2.1.1, v7.1.2.2.1.2), (v7.1.2.2.2.1, (v7.1.2.2.2.2.1, (v7.1.2.2.2.2.2.1, v7.1.2.2.2.2.2.2))))))) fun v12 =>
      Option.bind (lcpo_Options N (v7.2.1.2.1.1, (v7.2.1.2.1.2.1, v7.2.1.2.1.2.2))) fun v13 =>
      Option.bind (opts_Same N v12 v13) fun v14 =>
      bif (cond true v14 false) then
       bif ((@wfB (@Td.pair (@Td.int @IntKind.u16) (@Td.pair (@Td.int @IntKind.u32) @Td.bool)) (v7.1.1.2.1.1, (v7.1.1.2.1.2.1, v7.1.1.2.1.2.2))) && (@wfB (@Td.pair (@Td.int @IntKind.u16) (@Td.pair (@Td.int @IntKind.u32) @Td.bool)) (v3.2.1.1, (v3.2.1.2.1, false)))) then
        bif (cond true (@Decidable.decide (@Eq (Int × (Int × Bool)) (v7.1.1.2.1.1, (v7.1.1.2.1.2.1, v7.1.1.2.1.2.2)) (v3.2.1.1, (v3.2.1.2.1, false))) (@decT (@Td.pair (@Td.int @IntKind.u16) (@Td.pair (@Td.int @IntKind.u32) @Td.bool)) (v7.1.1.2.1.1, (v7.1.1.2.1.2.1, v7.1.1.2.1.2.2)) (v3.2.1.1, (v3.2.1.2.1, false)))) false) then
         Option.bind (@law27_alive N) fun (v15 : Bool) =>
         some ((cond true v15 false))
        else
         some (false)
       else
        none
      else
       some (false)
     else
      some (false)
theorem law27_NegoAgrees_S (l0 : Arr (Bool × ((Int × (Int × (Bool))) × (Bool × (Bool × (Int × (Int × (Int × (Bool)))))))) 2) (ip1 : Bool) : (runK Try.prog (Eh144 N) 400 4 [(.arr 2 (.pair .bool (.pair (.pair (.int .u16) (.pair (.int .u32) .bool)) (.pair .bool (.pair .bool (.pair (.int .u32) (.pair (.int .u32) (.pair (.int .u32) .bool)))))))), .bool] [.bool] (l0, ip1, ())).run = law27_NegoAgrees N l0 ip1 := by kernel_rfl
theorem law27_NegoAgrees_C (l0 : Arr (Bool × ((Int × (Int × (Bool))) × (Bool × (Bool × (Int × (Int × (Int × (Bool)))))))) 2) (ip1 : Bool) (y : Bool) (h : law27_NegoAgrees N l0 ip1 = some y) : CallsK Try.prog 4 (valA [(.arr 2 (.pair .bool (.pair (.pair (.int .u16) (.pair (.int .u32) .bool)) (.pair .bool (.pair .bool (.pair (.int .u32) (.pair (.int .u32) (.pair (.int .u32) .bool)))))))), .bool] (l0, ip1, ())) (tupV (valR [.bool] y)) := runK_ok hmx (Eh144_ok N _) (okFn_ok (by kernel_rfl)) (by rw [law27_NegoAgrees_S]; exact h)
end
end Go.Proofs.Ytjomcoignnlghaa
namespace Go.Proofs.Ytjomcoignnlghaa
set_option maxRecDepth 100000
open Go.RowKit
set_option linter.unusedVariables false
set_option linter.unusedSimpArgs false
def AllB (l : List Int) : Prop := ∀ x ∈ l, 0 ≤ x ∧ x < 256
theorem AllB.nil : AllB [] := fun _ h => by cases h
theorem AllB.cons {x : Int} {l : List Int} (h1 : 0 ≤ x ∧ x < 256) (h2 : AllB l) : AllB (x :: l) := fun y hy => by
  rcases List.mem_cons.1 hy with rfl | hy
  · exact h1
  · exact h2 y hy
theorem AllB.append {l m : List Int} (h1 : AllB l) (h2 : AllB m) : AllB (l ++ m) := fun y hy => by
  rcases List.mem_append.1 hy with hy | hy
  · exact h1 y hy
  · exact h2 y hy
theorem AllB.drop {l : List Int} (h : AllB l) (n : Nat) : AllB (l.drop n) := fun y hy => h y (List.mem_of_mem_drop hy)
theorem AllB.take {l : List Int} (h : AllB l) (n : Nat) : AllB (l.take n) := fun y hy => h y (List.mem_of_mem_take hy)
theorem AllB.get {l : List Int} (h : AllB l) (i : Nat) (hi : i < l.length) : 0 ≤ l[i] ∧ l[i] < 256 := h _ (List.getElem_mem hi)
def byteOf (x : Int) : UInt8 := UInt8.ofNat x.toNat
theorem toBy_map : ∀ {l : List Int}, AllB l → toBy l = some (l.map byteOf)
  | [], _ => rfl
  | x :: l, h => by
    have h1 := h x List.mem_cons_self
    unfold toBy
    rw [if_pos h1, toBy_map (fun y hy => h y (List.mem_cons_of_mem _ hy))]
    rfl
theorem byte_inj {x y : Int} (h1 : 0 ≤ x ∧ x < 256) (h2 : 0 ≤ y ∧ y < 256) (h : byteOf x = byteOf y) : x = y := by
  unfold byteOf at h
  have := congrArg UInt8.toNat h
  simp only [UInt8.toNat_ofNat'] at this
  omega
theorem bytes_inj : ∀ {a b : List Int}, AllB a → AllB b → a.map byteOf = b.map byteOf → a = b
  | [], [], _, _, _ => rfl
  | [], _ :: _, _, _, h => by cases h
  | _ :: _, [], _, _, h => by cases h
  | x :: a, y :: b, h1, h2, h => by
    simp only [List.map_cons, List.cons.injEq] at h
    rw [byte_inj (h1 x List.mem_cons_self) (h2 y List.mem_cons_self) h.1, bytes_inj (fun z hz => h1 z (List.mem_cons_of_mem _ hz)) (fun z hz => h2 z (List.mem_cons_of_mem _ hz)) h.2]
theorem bytes_dec {a b : List Int} (h1 : AllB a) (h2 : AllB b) : decide (a.map byteOf = b.map byteOf) = decide (a = b) := by
  by_cases h : a = b
  · subst h; simp
  · rw [decide_eq_false h, decide_eq_false (fun h' => h (bytes_inj h1 h2 h'))]
theorem subI_nat {α : Type} (l : List α) {a b : Int} {i j : Nat} (ha : a = i) (hb : b = j) (h1 : i ≤ j) (h2 : j ≤ l.length) : subI l a b = some ((l.drop i).take (j - i)) := by
  subst ha hb
  unfold subI
  rw [if_pos ⟨by omega, by omega, by omega⟩, Int.toNat_natCast, Int.toNat_natCast]
theorem dropI_nat {α : Type} (l : List α) {a : Int} {i : Nat} (ha : a = i) (h1 : i ≤ l.length) : dropI l a = some (l.drop i) := by
  subst ha
  unfold dropI
  rw [if_pos ⟨by omega, by omega⟩, Int.toNat_natCast]
theorem takeI_nat {α : Type} (l : List α) {a : Int} {i : Nat} (ha : a = i) (h1 : i ≤ l.length) : takeI l a = some (l.take i) := by
  subst ha
  unfold takeI
  rw [if_pos ⟨by omega, by omega⟩, Int.toNat_natCast]
theorem getI_at {α : Type} (l : List α) {a : Int} {i : Nat} (ha : a = i) (h1 : i < l.length) : getI l a = some l[i] := by subst ha; exact getI_lt l i h1
def qOplace (N : Nat) (i0 : Int) (width1 : Int) (little2 : Bool) : Option (Int) :=
 bif little2 then
  some (i0)
 else
  some ((IntKind.wrap .i64 ((IntKind.wrap .i64 (width1 - (1 : Int))) - i0)))
def qOPutL5 (N : Nat) (X : (((Int) × ((Int) × ((Bool) × ((Int) × ((Int) × Unit))))) × ((List (Int)) × Unit)) → Option ((Unit × ((List (Int)) × Unit)))) (n0 : Int) (width1 : Int) (little2 : Bool) (x19 : Int) (x20 : Int) (h0 : List (Int)) : Option ((Unit × ((List (Int)) × Unit))) :=
 bif (decide (x20 < x19)) then
  Option.bind (qOplace N x20 width1 little2) fun (v8 : Int) =>
  bif (decide ((0 : Int) ≤ v8 ∧ v8 < (((List.length h0) : Nat) : Int))) then
   Option.bind (@GetElem?.getElem? (List Int) Nat Int (fun (as9 : (List Int)) => (fun (i10 : Nat) => (@LT.lt Nat @instLTNat i10 (List.length as9)))) (@List.instGetElem?NatLtLength Int) h0 (Int.toNat v8)) fun (v9 : Int) =>
   (X (((@Int.fdiv n0 (@HPow.hPow Int Nat Int (@instHPow Int Nat (@instPowNat Int @Int.instNatPow)) (2 : Int) (@Min.min Nat @instMinNat (Int.toNat (8 : Int)) (@IntKind.bits @IntKind.u64)))), (width1, (little2, (x19, ((IntKind.wrap .i64 (x20 + (1 : Int))), @Unit.unit))))), ((@List.set Int h0 (Int.toNat v8) (IntKind.wrap .u8 n0)), @Unit.unit)))
  else
   none
 else
  some ((@Unit.unit, (h0, @Unit.unit)))
def qOPutL5R (N : Nat) (c : (((Int) × ((Int) × ((Bool) × ((Int) × ((Int) × Unit))))) × ((List (Int)) × Unit))) : Option ((Unit × ((List (Int)) × Unit))) := gl (fun X c => qOPutL5 N X c.1.1 c.1.2.1 c.1.2.2.1 c.1.2.2.2.1 c.1.2.2.2.2.1 c.2.1) N c
def qOPut (N : Nat) (n0 : Int) (width1 : Int) (little2 : Bool) : Option ((List (Int)) × Int) :=
 bif (decide (width1 < (1 : Int))) then
  some ((([] : List (Int)), (1 : Int)))
 else
  bif (@cond Bool @Bool.false @Bool.true (decide ((8 : Int) < width1))) then
   some ((([] : List (Int)), (1 : Int)))
  else
   bif ((decide ((0 : Int) ≤ width1 ∧ width1 ≤ width1)) && (roomB (Int.toNat width1) 1)) then
    Option.bind (qOPutL5R N ((n0, (width1, (little2, ((((List.length (@List.replicate Int (Int.toNat width1) (0 : Int))) : Nat) : Int), ((0 : Int), @Unit.unit))))), ((@List.replicate Int (Int.toNat width1) (0 : Int)), @Unit.unit))) fun (v4 : (Unit × ((List Int) × Unit))) =>
    some ((v4.2.1, (0 : Int)))
   else
    none
def qOJoinL3 (N : Nat) (X : (((List (List (Int))) × ((Int) × ((List (List (Int))) × ((Int) × ((Int) × Unit))))) × Unit) → Option ((((List (List (Int))) × ((Int) × Unit)) × Unit))) (parts0 : List (List (Int))) (size3 : Int) (x9 : List (List (Int))) (x10 : Int) (x11 : Int) : Option ((((List (List (Int))) × ((Int) × Unit)) × Unit)) :=
 bif (decide (x11 < x10)) then
  Option.bind (getI x9 x11) fun (v7 : (List Int)) =>
  (X ((parts0, ((IntKind.wrap .i64 (size3 + (((List.length v7) : Nat) : Int))), (x9, (x10, ((IntKind.wrap .i64 (x11 + (1 : Int))), @Unit.unit))))), @Unit.unit))
 else
  some (((parts0, (size3, @Unit.unit)), @Unit.unit))
def qOJoinL3R (N : Nat) (c : (((List (List (Int))) × ((Int) × ((List (List (Int))) × ((Int) × ((Int) × Unit))))) × Unit)) : Option ((((List (List (Int))) × ((Int) × Unit)) × Unit)) := gl (fun X c => qOJoinL3 N X c.1.1 c.1.2.1 c.1.2.2.1 c.1.2.2.2.1 c.1.2.2.2.2.1) N c
def qOJoinL9 (N : Nat) (X : (((List (List (Int))) × ((Int) × ((Int) × Unit))) × ((List (Int)) × Unit)) → Option ((Unit × ((List (Int)) × Unit)))) (x22 : List (List (Int))) (x23 : Int) (x24 : Int) (h0 : List (Int)) : Option ((Unit × ((List (Int)) × Unit))) :=
 bif (decide (x24 < x23)) then
  Option.bind (getI x22 x24) fun (v6 : (List Int)) =>
  bif (roomB ((List.length h0) + (List.length v6)) 1) then
   (X ((x22, (x23, ((IntKind.wrap .i64 (x24 + (1 : Int))), @Unit.unit))), ((h0 ++ v6), @Unit.unit)))
  else
   none
 else
  some ((@Unit.unit, (h0, @Unit.unit)))
def qOJoinL9R (N : Nat) (c : (((List (List (Int))) × ((Int) × ((Int) × Unit))) × ((List (Int)) × Unit))) : Option ((Unit × ((List (Int)) × Unit))) := gl (fun X c => qOJoinL9 N X c.1.1 c.1.2.1 c.1.2.2.1 c.2.1) N c
def qOJoin (N : Nat) (parts0 : List (List (Int))) : Option (List (Int)) :=
 Option.bind (qOJoinL3R N ((parts0, ((0 : Int), (parts0, ((((List.length parts0) : Nat) : Int), ((0 : Int), @Unit.unit))))), @Unit.unit)) fun (v2 : (((List (List Int)) × (Int × Unit)) × Unit)) =>
 bif ((decide ((0 : Int) ≤ (0 : Int) ∧ (0 : Int) ≤ v2.1.2.1)) && (roomB (Int.toNat v2.1.2.1) 1)) then
  Option.bind (qOJoinL9R N ((v2.1.1, ((((List.length v2.1.1) : Nat) : Int), ((0 : Int), @Unit.unit))), ((@List.replicate Int (Int.toNat (0 : Int)) (0 : Int)), @Unit.unit))) fun (v3 : (Unit × ((List Int) × Unit))) =>
  some (v3.2.1)
 else
  none
def qOGetL5 (N : Nat) (X : (((List (Int)) × ((Bool) × ((Int) × ((Int) × ((Int) × Unit))))) × Unit) → Option ((((Int) × Unit) × Unit))) (b0 : List (Int)) (little1 : Bool) (n6 : Int) (x17 : Int) (x18 : Int) : Option ((((Int) × Unit) × Unit)) :=
 bif (decide (x18 < x17)) then
  Option.bind (qOplace N x18 (((List.length b0) : Nat) : Int) little1) fun (v7 : Int) =>
  Option.bind (getI b0 v7) fun (v8 : Int) =>
  bif (decide ((0 : Int) ≤ (IntKind.wrap .i64 ((8 : Int) * x18)))) then
   (X ((b0, (little1, ((@Go.bits @Go.BinOp.or @IntKind.u64 n6 (IntKind.wrap .u64 ((IntKind.wrap .u64 v8) * (@HPow.hPow Int Nat Int (@instHPow Int Nat (@instPowNat Int @Int.instNatPow)) (2 : Int) (@Min.min Nat @instMinNat (Int.toNat (IntKind.wrap .i64 ((8 : Int) * x18))) (@IntKind.bits @IntKind.u64)))))), (x17, ((IntKind.wrap .i64 (x18 + (1 : Int))), @Unit.unit))))), @Unit.unit))
  else
   none
 else
  some (((n6, @Unit.unit), @Unit.unit))
def qOGetL5R (N : Nat) (c : (((List (Int)) × ((Bool) × ((Int) × ((Int) × ((Int) × Unit))))) × Unit)) : Option ((((Int) × Unit) × Unit)) := gl (fun X c => qOGetL5 N X c.1.1 c.1.2.1 c.1.2.2.1 c.1.2.2.2.1 c.1.2.2.2.2.1) N c
def qOGet (N : Nat) (b0 : List (Int)) (little1 : Bool) : Option ((Int) × Int) :=
 bif (decide ((((List.length b0) : Nat) : Int) < (1 : Int))) then
  some (((0 : Int), (1 : Int)))
 else
  bif (@cond Bool @Bool.false @Bool.true (decide ((8 : Int) < (((List.length b0) : Nat) : Int)))) then
   some (((0 : Int), (1 : Int)))
  else
   Option.bind (qOGetL5R N ((b0, (little1, ((0 : Int), ((((List.length b0) : Nat) : Int), ((0 : Int), @Unit.unit))))), @Unit.unit)) fun (v3 : ((Int × Unit) × Unit)) =>
   some ((v3.1.1, (0 : Int)))
theorem q64_of (a : Nat) (ha : a < 18446744073709551616) : (BitVec.ofInt 64 (a : Int)).toNat = a := by
 rw [BitVec.ofInt_natCast, BitVec.toNat_ofNat]; exact Nat.mod_eq_of_lt (by omega)
theorem q64_or (a b : Nat) (ha : a < 18446744073709551616) (hb : b < 18446744073709551616) : bits .or .u64 (a : Int) (b : Int) = ((a ||| b : Nat) : Int) := by
 have hx : a ||| b < 2 ^ 64 := Nat.or_lt_two_pow (n := 64) (by omega) (by omega)
 show IntKind.u64.wrap ((BitVec.ofInt 64 (a : Int) ||| BitVec.ofInt 64 (b : Int)).toNat : Int) = _
 rw [BitVec.toNat_or, q64_of a ha, q64_of b hb, IntKind.wrap_u64]
 omega
theorem or_nat (x y k : Nat) (hx : x < 2 ^ k) (hx' : x < 18446744073709551616) (hy : y * 2 ^ k < 18446744073709551616) : bits .or .u64 (x : Int) ((y * 2 ^ k : Nat) : Int) = ((y * 2 ^ k + x : Nat) : Int) := by
 rw [q64_or x (y * 2 ^ k) hx' hy, Nat.or_comm, ← Nat.shiftLeft_eq, ← Nat.shiftLeft_add_eq_or_of_lt hx]
theorem or_at (a b : Int) (k : Nat) (h0 : 0 ≤ a) (ha : a.toNat < 2 ^ k) (ha' : a < 18446744073709551616) (hb : 0 ≤ b) (hk : b.toNat * 2 ^ k < 18446744073709551616) : bits .or .u64 a (b * ((2 ^ k : Nat) : Int)) = b * ((2 ^ k : Nat) : Int) + a := by
 obtain ⟨x, rfl⟩ := Int.eq_ofNat_of_zero_le h0
 obtain ⟨y, rfl⟩ := Int.eq_ofNat_of_zero_le hb
 have := or_nat x y k (by simpa using ha) (by omega) (by simpa using hk)
 rw [Int.natCast_add, Int.natCast_mul] at this
 exact this
theorem wrapU64 {x : Int} (h1 : 0 ≤ x) (h2 : x < 18446744073709551616) : IntKind.wrap .u64 x = x := by
 rw [IntKind.wrap_u64]; omega
section
variable {N : Nat}
theorem put2 (n : Int) (h : 0 ≤ n ∧ n < 18446744073709551616) (hN : 100 ≤ N) : qOPut N n 2 false = some ([n / 256 % 256, n % 256], 0) := by
 obtain ⟨M, rfl⟩ : ∃ M, N = M + 3 := ⟨N - 3, by omega⟩
 have r1 : roomB (Int.toNat 2) 1 = true := by decide
 have r2 : List.replicate (Int.toNat 2) (0 : Int) = [0, 0] := rfl
 have w1 : IntKind.wrap .i64 ((2 : Int) - 1) = 1 := by decide
 have w2 : IntKind.wrap .i64 ((1 : Int) - 1) = 0 := by decide
 have w3 : IntKind.wrap .i64 ((0 : Int) + 1) = 1 := by decide
 have w4 : IntKind.wrap .i64 ((1 : Int) + 1) = 2 := by decide
 have w5 : IntKind.wrap .i64 ((1 : Int) - 0) = 1 := by decide
 have e1 : (2 : Int) ^ min (Int.toNat 8) (IntKind.bits IntKind.u64) = 256 := by decide
 have d1 : Int.fdiv n 256 = n / 256 := Int.fdiv_eq_ediv_of_nonneg n (by decide)
 have d2 : Int.fdiv (n / 256) 256 = n / 256 / 256 := Int.fdiv_eq_ediv_of_nonneg _ (by decide)
 have w7 : IntKind.wrap .u8 n = n % 256 := by rw [IntKind.wrap_u8]
 have w8 : IntKind.wrap .u8 (n / 256) = n / 256 % 256 := by rw [IntKind.wrap_u8]
 simp only [qOPut, qOPutL5R, gl, qOPutL5, qOplace, r1, r2, e1, cond_false, Option.bind_some, w1, w2, w3, w4, w5]
 simp [w1, w2, w3, w4, w5, d1, d2, w7, w8]
theorem get2 (x y : Int) (hx : 0 ≤ x ∧ x < 256) (hy : 0 ≤ y ∧ y < 256) (hN : 100 ≤ N) : qOGet N [x, y] false = some (x * 256 + y, 0) := by
 obtain ⟨M, rfl⟩ : ∃ M, N = M + 3 := ⟨N - 3, by omega⟩
 have w1 : IntKind.wrap .i64 ((2 : Int) - 1) = 1 := by decide
 have w2 : IntKind.wrap .i64 ((1 : Int) - 1) = 0 := by decide
 have w3 : IntKind.wrap .i64 ((0 : Int) + 1) = 1 := by decide
 have w4 : IntKind.wrap .i64 ((1 : Int) + 1) = 2 := by decide
 have w0 : IntKind.wrap .i64 ((1 : Int) - 0) = 1 := by decide
 have w5 : IntKind.wrap .i64 ((8 : Int) * 0) = 0 := by decide
 have w6 : IntKind.wrap .i64 ((8 : Int) * 1) = 8 := by decide
 have w7 : IntKind.wrap .u64 x = x := wrapU64 (by omega) (by omega)
 have w8 : IntKind.wrap .u64 y = y := wrapU64 (by omega) (by omega)
 have e0 : (2 : Int) ^ min (Int.toNat 0) (IntKind.bits IntKind.u64) = 1 := by decide
 have e1 : (2 : Int) ^ min (Int.toNat 8) (IntKind.bits IntKind.u64) = 256 := by decide
 have w9 : IntKind.wrap .u64 (x * 256) = x * 256 := wrapU64 (by omega) (by omega)
 have w10 : IntKind.wrap .u64 (y * 1) = y := by rw [Int.mul_one]; exact w8
 have o1 : bits .or .u64 0 y = y := by
  have := or_at 0 y 0 (by decide) (by decide) (by decide) (by omega) (by simp; omega)
  simpa using this
 have o2 : bits .or .u64 y (x * 256) = x * 256 + y := or_at y x 8 (by omega) (by show y.toNat < 256; omega) (by omega) (by omega) (by show x.toNat * 256 < _; omega)
 have g0 : getI [x, y] (0 : Int) = some x := rfl
 have g1 : getI [x, y] (1 : Int) = some y := rfl
 have l2 : (([x, y] : List Int).length : Int) = 2 := rfl
 simp only [qOGet, qOGetL5R, gl, qOGetL5, qOplace, l2, cond_false, Option.bind_some, w0, w1, w2, w3, w4, w5, w6, w7, w8, w9, w10, e0, e1, o1, o2, g0, g1]
 simp [w4, w6, w7, w9, e1, o2, w2, g0]
theorem put4 (n : Int) (h : 0 ≤ n ∧ n < 18446744073709551616) (hN : 100 ≤ N) : qOPut N n 4 false = some ([n / 16777216 % 256, n / 65536 % 256, n / 256 % 256, n % 256], 0) := by
 obtain ⟨M, rfl⟩ : ∃ M, N = M + 5 := ⟨N - 5, by omega⟩
 have r1 : roomB (Int.toNat 4) 1 = true := by decide
 have r2 : List.replicate (Int.toNat 4) (0 : Int) = [0, 0, 0, 0] := rfl
 have w1 : IntKind.wrap .i64 ((4 : Int) - 1) = 3 := by decide
 have v0 : IntKind.wrap .i64 ((3 : Int) - 0) = 3 := by decide
 have v1 : IntKind.wrap .i64 ((3 : Int) - 1) = 2 := by decide
 have v2 : IntKind.wrap .i64 ((3 : Int) - 2) = 1 := by decide
 have v3 : IntKind.wrap .i64 ((3 : Int) - 3) = 0 := by decide
 have w3 : IntKind.wrap .i64 ((0 : Int) + 1) = 1 := by decide
 have w4 : IntKind.wrap .i64 ((1 : Int) + 1) = 2 := by decide
 have w5 : IntKind.wrap .i64 ((2 : Int) + 1) = 3 := by decide
 have w6 : IntKind.wrap .i64 ((3 : Int) + 1) = 4 := by decide
 have e1 : (2 : Int) ^ min (Int.toNat 8) (IntKind.bits IntKind.u64) = 256 := by decide
 have d1 : Int.fdiv n 256 = n / 256 := Int.fdiv_eq_ediv_of_nonneg n (by decide)
 have d2 : Int.fdiv (n / 256) 256 = n / 65536 := by rw [Int.fdiv_eq_ediv_of_nonneg _ (by decide)]; omega
 have d3 : Int.fdiv (n / 65536) 256 = n / 16777216 := by rw [Int.fdiv_eq_ediv_of_nonneg _ (by decide)]; omega
 have w7 : IntKind.wrap .u8 n = n % 256 := by rw [IntKind.wrap_u8]
 have w8 : IntKind.wrap .u8 (n / 256) = n / 256 % 256 := by rw [IntKind.wrap_u8]
 have w9 : IntKind.wrap .u8 (n / 65536) = n / 65536 % 256 := by rw [IntKind.wrap_u8]
 have w10 : IntKind.wrap .u8 (n / 16777216) = n / 16777216 % 256 := by rw [IntKind.wrap_u8]
 simp only [qOPut, qOPutL5R, gl, qOPutL5, qOplace, r1, r2, e1, cond_false, Option.bind_some, w1, v0, v1, v2, v3, w3, w4, w5, w6]
 simp [w1, v0, v1, v2, v3, w3, w4, w5, w6, d1, d2, d3, w7, w8, w9, w10]
theorem get4 (x y z u : Int) (hx : 0 ≤ x ∧ x < 256) (hy : 0 ≤ y ∧ y < 256) (hz : 0 ≤ z ∧ z < 256) (hu : 0 ≤ u ∧ u < 256) (hN : 100 ≤ N) : qOGet N [x, y, z, u] false = some (((x * 256 + y) * 256 + z) * 256 + u, 0) := by
 obtain ⟨M, rfl⟩ : ∃ M, N = M + 5 := ⟨N - 5, by omega⟩
 have w1 : IntKind.wrap .i64 ((4 : Int) - 1) = 3 := by decide
 have v0 : IntKind.wrap .i64 ((3 : Int) - 0) = 3 := by decide
 have v1 : IntKind.wrap .i64 ((3 : Int) - 1) = 2 := by decide
 have v2 : IntKind.wrap .i64 ((3 : Int) - 2) = 1 := by decide
 have v3 : IntKind.wrap .i64 ((3 : Int) - 3) = 0 := by decide
 have w3 : IntKind.wrap .i64 ((0 : Int) + 1) = 1 := by decide
 have w4 : IntKind.wrap .i64 ((1 : Int) + 1) = 2 := by decide
 have w5 : IntKind.wrap .i64 ((2 : Int) + 1) = 3 := by decide
 have w6 : IntKind.wrap .i64 ((3 : Int) + 1) = 4 := by decide
 have m0 : IntKind.wrap .i64 ((8 : Int) * 0) = 0 := by decide
 have m1 : IntKind.wrap .i64 ((8 : Int) * 1) = 8 := by decide
 have m2 : IntKind.wrap .i64 ((8 : Int) * 2) = 16 := by decide
 have m3 : IntKind.wrap .i64 ((8 : Int) * 3) = 24 := by decide
 have x1 : IntKind.wrap .u64 x = x := wrapU64 (by omega) (by omega)
 have y1 : IntKind.wrap .u64 y = y := wrapU64 (by omega) (by omega)
 have z1 : IntKind.wrap .u64 z = z := wrapU64 (by omega) (by omega)
 have u1 : IntKind.wrap .u64 u = u := wrapU64 (by omega) (by omega)
 have e0 : (2 : Int) ^ min (Int.toNat 0) (IntKind.bits IntKind.u64) = 1 := by decide
 have e1 : (2 : Int) ^ min (Int.toNat 8) (IntKind.bits IntKind.u64) = 256 := by decide
 have e2 : (2 : Int) ^ min (Int.toNat 16) (IntKind.bits IntKind.u64) = 65536 := by decide
 have e3 : (2 : Int) ^ min (Int.toNat 24) (IntKind.bits IntKind.u64) = 16777216 := by decide
 have u2 : IntKind.wrap .u64 (u * 1) = u := by rw [Int.mul_one]; exact u1
 have z2 : IntKind.wrap .u64 (z * 256) = z * 256 := wrapU64 (by omega) (by omega)
 have y2 : IntKind.wrap .u64 (y * 65536) = y * 65536 := wrapU64 (by omega) (by omega)
 have x2 : IntKind.wrap .u64 (x * 16777216) = x * 16777216 := wrapU64 (by omega) (by omega)
 have o1 : bits .or .u64 0 u = u := by
  have := or_at 0 u 0 (by decide) (by decide) (by decide) (by omega) (by simp; omega)
  simpa using this
 have o2 : bits .or .u64 u (z * 256) = z * 256 + u := or_at u z 8 (by omega) (by show u.toNat < 256; omega) (by omega) (by omega) (by show z.toNat * 256 < _; omega)
 have o3 : bits .or .u64 (z * 256 + u) (y * 65536) = y * 65536 + (z * 256 + u) := or_at (z * 256 + u) y 16 (by omega) (by show (z * 256 + u).toNat < 65536; omega) (by omega) (by omega) (by show y.toNat * 65536 < _; omega)
 have o4 : bits .or .u64 (y * 65536 + (z * 256 + u)) (x * 16777216) = x * 16777216 + (y * 65536 + (z * 256 + u)) := or_at (y * 65536 + (z * 256 + u)) x 24 (by omega) (by show (y * 65536 + (z * 256 + u)).toNat < 16777216; omega) (by omega) (by omega) (by show x.toNat * 16777216 < _; omega)
 have fin : x * 16777216 + (y * 65536 + (z * 256 + u)) = ((x * 256 + y) * 256 + z) * 256 + u := by omega
 have g0 : getI [x, y, z, u] (0 : Int) = some x := rfl
 have g1 : getI [x, y, z, u] (1 : Int) = some y := rfl
 have g2 : getI [x, y, z, u] (2 : Int) = some z := rfl
 have g3 : getI [x, y, z, u] (3 : Int) = some u := rfl
 have l4 : (([x, y, z, u] : List Int).length : Int) = 4 := rfl
 rw [← fin]
 simp only [qOGet, qOGetL5R, gl, qOGetL5, qOplace, l4, cond_false, Option.bind_some, w1, v0, v1, v2, v3, w3, w4, w5, w6, m0, m1, m2, m3, x1, y1, z1, u1, e0, e1, e2, e3, u2, z2, y2, x2, o1, o2, o3, o4, g0, g1, g2, g3]
 simp [w1, v0, v1, v2, v3, w3, w4, w5, w6, m1, m2, m3, x1, y1, z1, u1, e1, e2, e3, z2, y2, x2, o2, o3, o4, g0, g1, g2, g3]
theorem join_ok (l : List (List Int)) (hl : l.length ≤ 1000) (hs : ∀ p ∈ l, p.length ≤ 100000) (hN : 2000 ≤ N) : qOJoin N l = some l.flatten := by
 have tot : ∀ (m : List (List Int)), (∀ p ∈ m, p.length ≤ 100000) → m.flatten.length ≤ 100000 * m.length := by
  intro m
  induction m with
  | nil => intro _; simp
  | cons p m ih =>
   intro h
   have h1 := h p List.mem_cons_self
   have h2 := ih fun q hq => h q (List.mem_cons_of_mem _ hq)
   rw [List.flatten_cons, List.length_append, List.length_cons]
   omega
 have tk : ∀ i, (l.take i).flatten.length ≤ 100000000 := fun i => by
  have := tot (l.take i) fun p hp => hs p (List.mem_of_mem_take hp)
  rw [List.length_take] at this
  omega
 have hsn : ∀ i (hi : i < l.length), (l.take (i + 1)).flatten = (l.take i).flatten ++ l[i] := fun i hi => by
  have : l.take (i + 1) = l.take i ++ [l[i]] := by rw [List.take_add_one, List.getElem?_eq_getElem hi]; rfl
  rw [this, List.flatten_append]
  simp
 have h1 := gl_run (G := fun (X : ((List (List Int) × Int × List (List Int) × Int × Int × Unit) × Unit) → Option ((List (List Int) × Int × Unit) × Unit)) c => qOJoinL3 N X c.1.1 c.1.2.1 c.1.2.2.1 c.1.2.2.2.1 c.1.2.2.2.2.1)
  (fun i => ((l, (((l.take i).flatten.length : Int), (l, ((l.length : Int), ((i : Int), ()))))), ())) l.length ((l, ((l.flatten.length : Int), ())), ()) (fun X i hi => by
  have c1 : ((i : Int) < (l.length : Int)) := by omega
  have c2 : IntKind.wrap .i64 ((i : Int) + 1) = ((i + 1 : Nat) : Int) := by rw [wrap64 (by omega) (by omega)]; omega
  have hp := hs _ (List.getElem_mem hi)
  have ht := tk i
  have c3 : IntKind.wrap .i64 (((l.take i).flatten.length : Int) + (l[i].length : Int)) = (((l.take (i + 1)).flatten.length : Nat) : Int) := by rw [wrap64 (by omega) (by omega), hsn i hi, List.length_append]; omega
  simp only [qOJoinL3, c1, decide_true, cond_true, getI_lt l i hi, Option.bind_some, c3, c2]) (fun X => by
  simp [qOJoinL3]) N 0 (by omega) (by omega)
 have h2 := gl_run (G := fun (X : ((List (List Int) × Int × Int × Unit) × List Int × Unit) → Option (Unit × List Int × Unit)) c => qOJoinL9 N X c.1.1 c.1.2.1 c.1.2.2.1 c.2.1)
  (fun i => ((l, ((l.length : Int), ((i : Int), ()))), ((l.take i).flatten, ()))) l.length ((), (l.flatten, ())) (fun X i hi => by
  have c1 : ((i : Int) < (l.length : Int)) := by omega
  have c2 : IntKind.wrap .i64 ((i : Int) + 1) = ((i + 1 : Nat) : Int) := by rw [wrap64 (by omega) (by omega)]; omega
  have hp := hs _ (List.getElem_mem hi)
  have ht := tk i
  have c3 : roomB ((l.take i).flatten.length + l[i].length) 1 = true := roomB_of (by have := big_len; omega) (by omega)
  simp only [qOJoinL9, c1, decide_true, cond_true, getI_lt l i hi, Option.bind_some, c3, c2, hsn i hi]) (fun X => by
  simp [qOJoinL9]) N 0 (by omega) (by omega)
 have htot := tk l.length
 rw [List.take_length] at htot
 have c4 : (decide ((0 : Int) ≤ (0 : Int) ∧ (0 : Int) ≤ (l.flatten.length : Int)) && roomB (Int.toNat (l.flatten.length : Int)) 1) = true := by
  rw [Bool.and_eq_true]
  exact ⟨decide_eq_true ⟨by omega, by omega⟩, roomB_of (by have := big_len; omega) (by omega)⟩
 unfold qOJoin qOJoinL3R qOJoinL9R
 simp only [Int.natCast_zero, List.take_zero, List.flatten_nil, List.length_nil] at h1 h2
 rw [h1]
 simp only [Option.bind_some, c4, cond_true]
 have e0 : List.replicate (Int.toNat 0) (0 : Int) = [] := rfl
 rw [e0, h2]
 rfl
end
end Go.Proofs.Ytjomcoignnlghaa
namespace Go.Proofs.Ytjomcoignnlghaa
set_option maxRecDepth 100000
open Go.RowKit
set_option linter.unusedVariables false
set_option linter.unusedSimpArgs false
set_option maxRecDepth 100000
abbrev Op := Int × List Int
def wfO (l : List Op) : Prop := ∀ o ∈ l, (0 ≤ o.1 ∧ o.1 < 256) ∧ AllB o.2
def enc1 (o : Op) : List Int := o.1 :: (2 + (o.2.length : Int)) :: o.2
def encs (l : List Op) : List Int := l.flatMap enc1
def small (l : List Op) : Prop := ∀ o ∈ l, o.2.length ≤ 253
theorem encs_cons (o : Op) (l : List Op) : encs (o :: l) = enc1 o ++ encs l := rfl
theorem encs_append (l m : List Op) : encs (l ++ m) = encs l ++ encs m := List.flatMap_append
theorem encs_len : ∀ {l : List Op}, small l → (encs l).length ≤ 255 * l.length
 | [], _ => by simp [encs]
 | o :: l, h => by
  have h1 := h o List.mem_cons_self
  have h2 := encs_len (l := l) fun x hx => h x (List.mem_cons_of_mem _ hx)
  rw [encs_cons, List.length_append, List.length_cons]
  simp only [enc1, List.length_cons]
  omega
theorem encs_all : ∀ {l : List Op}, small l → wfO l → AllB (encs l)
 | [], _, _ => AllB.nil
 | o :: l, h, w => by
  have h1 := h o List.mem_cons_self
  have w1 := w o List.mem_cons_self
  have h2 := encs_all (l := l) (fun x hx => h x (List.mem_cons_of_mem _ hx)) (fun x hx => w x (List.mem_cons_of_mem _ hx))
  rw [encs_cons]
  exact (AllB.cons w1.1 (AllB.cons (by omega) w1.2)).append h2
theorem take_snoc {α : Type} (l : List α) (i : Nat) (h : i < l.length) : l.take (i + 1) = l.take i ++ [l[i]] := by rw [List.take_add_one, List.getElem?_eq_getElem h]; rfl
section
variable {N : Nat}
abbrev LayO := (((List (Int)) × ((Int) × Unit)) × Unit) ⊕ (Unit × ((List (Int)) × Unit))
def layO (l : List Op) : LayO := if l.all (fun o => decide (o.2.length ≤ 253)) then .inr ((), (encs l, ())) else .inl (([], ((8 : Int), ())), ())
def layS (l : List Op) : List Int × Int := if 32 < l.length then ([], 5) else if l.all (fun o => decide (o.2.length ≤ 253)) then (encs l, 0) else ([], 8)
theorem all_small {l : List Op} : l.all (fun o => decide (o.2.length ≤ 253)) = true ↔ small l := by simp [small]
theorem lay_end {l : List Op} {i : Nat} (h : l.length ≤ i) (hs : small (l.take i)) : layO l = .inr ((), (encs l, ())) ∧ encs (l.take i) = encs l := by
 rw [List.take_of_length_le h] at hs ⊢
 exact ⟨by unfold layO; rw [if_pos (all_small.2 hs)], rfl⟩
theorem lay_big {l : List Op} {i : Nat} (hi : i < l.length) (h : 253 < l[i].2.length) : layO l = .inl (([], ((8 : Int), ())), ()) := by
 unfold layO
 rw [if_neg (fun hs => by have := all_small.1 hs _ (List.getElem_mem hi); omega)]
theorem small_snoc {l : List Op} {i : Nat} (hi : i < l.length) (hs : small (l.take i)) (h : l[i].2.length ≤ 253) : small (l.take (i + 1)) := by
 intro o ho
 rw [take_snoc l i hi] at ho
 rcases List.mem_append.1 ho with ho | ho
 ·exact hs o ho
 ·simp at ho; subst ho; exact h
theorem head_len {n : Nat} (h : n ≤ 253) : IntKind.wrap .u8 (IntKind.wrap .i64 ((2 : Int) + (n : Int))) = 2 + (n : Int) := by
 rw [wrap64 (by omega) (by omega), wrapU8 (by omega) (by omega)]
theorem encs_snoc {l : List Op} {i : Nat} (hi : i < l.length) : encs (l.take (i + 1)) = encs (l.take i) ++ [l[i].1, 2 + (l[i].2.length : Int)] ++ l[i].2 := by
 rw [take_snoc l i hi, encs_append]
 simp [encs, enc1]
theorem lay_room {l : List Op} {i : Nat} (hl : l.length ≤ 1000) (hi : i < l.length) (hs : small (l.take i)) (h : l[i].2.length ≤ 253) : roomB ((encs (l.take i)).length + ([l[i].1, 2 + (l[i].2.length : Int)] : List Int).length) 1 = true ∧ roomB ((encs (l.take i) ++ [l[i].1, 2 + (l[i].2.length : Int)]).length + l[i].2.length) 1 = true := by
 have h1 := encs_len hs
 have h2 := big_len
 rw [List.length_take] at h1
 exact ⟨roomB_of (by simp only [List.length_cons, List.length_nil]; omega) (by simp only [List.length_cons, List.length_nil]; omega), roomB_of (by simp only [List.length_append, List.length_cons, List.length_nil]; omega) (by simp only [List.length_append, List.length_cons, List.length_nil]; omega)⟩
theorem lay_ok (l : List Op) (hl : l.length ≤ 1000) (hN : 10000 ≤ N) : opts_Lay N l = some (layS l) := by
 unfold opts_Lay layS
 by_cases h32 : 32 < l.length
 ·have c0 : ((32 : Int) < (l.length : Int)) := by omega
  simp only [c0, h32, decide_true, cond_true, if_true]
 ·have c0 : ¬ ((32 : Int) < (l.length : Int)) := by omega
  simp only [c0, h32, decide_false, cond_false, if_false]
  obtain ⟨o, h1, h2⟩ := gl_inv (G := fun (X : (((List ((Int) × (List (Int)))) × ((Int) × ((Int) × Unit))) × ((List (Int)) × Unit)) → Option LayO) c => opts_Lay_L5 N X c.1.1 c.1.2.1 c.1.2.2.1 c.2.1)
   (fun n c => ∃ i : Nat, c = ((l, ((l.length : Int), ((i : Int), ()))), (encs (l.take i), ())) ∧ i ≤ l.length ∧ n = l.length - i ∧ small (l.take i)) (fun o => o = layO l) (fun X n c ⟨i, hc, hi, hn, hs⟩ => by
    subst hc
    rcases Nat.lt_or_ge i l.length with hlt | hge
    ·have c1 : ((i : Int) < (l.length : Int)) := by omega
     have c2 : IntKind.wrap .i64 ((i : Int) + 1) = ((i + 1 : Nat) : Int) := by rw [wrap64 (by omega) (by omega)]; omega
     by_cases he : (253 : Int) < (l[i].2.length : Int)
     ·left
      exact ⟨_, by simp only [opts_Lay_L5, c1, decide_true, cond_true, getI_lt l i hlt, Option.bind_some, he], (lay_big hlt (by omega)).symm⟩
     ·right
      have he' : l[i].2.length ≤ 253 := by omega
      obtain ⟨r1, r2⟩ := lay_room hl hlt hs he'
      refine ⟨l.length - (i + 1), ((l, ((l.length : Int), (((i + 1 : Nat) : Int), ()))), (encs (l.take (i + 1)), ())), by omega, ⟨i + 1, rfl, hlt, rfl, small_snoc hlt hs he'⟩, ?_⟩
      simp only [opts_Lay_L5, c1, decide_true, cond_true, getI_lt l i hlt, Option.bind_some, he, decide_false, cond_false, c2, head_len he', r1, r2, encs_snoc hlt]
    ·left
     have c1 : ¬ ((i : Int) < (l.length : Int)) := by omega
     obtain ⟨e1, e2⟩ := lay_end hge hs
     exact ⟨.inr ((), (encs (l.take i), ())), by simp only [opts_Lay_L5, c1, decide_false, cond_false], by rw [e1, e2]⟩) N l.length ((l, ((l.length : Int), ((0 : Int), ()))), (([] : List Int), ())) (by omega) ⟨0, rfl, by omega, by omega, fun o ho => by cases ho⟩
  unfold opts_Lay_L5_R
  rw [h1, h2]
  unfold layO
  split <;> rfl
end
abbrev ParO := (((List Op) × ((Int) × Unit)) × Unit) ⊕ (Unit × ((List Op) × Unit))
def parE (e : Int) : ParO := .inl (([], (e, ())), ())
def par : Nat → List Int → List Op → ParO
 | 0, _, _ => parE 4
 | k + 1, b, acc =>
  if b.length = 0 then .inr ((), (acc, ())) else if acc.length = 32 then parE 5 else if b.length < 2 then parE 4 else if b.getD 1 0 < 2 then parE 3 else if (b.length : Int) < b.getD 1 0 then parE 4 else
   par k (b.drop (b.getD 1 0).toNat) (acc ++ [(b.getD 0 0, (b.drop 2).take ((b.getD 1 0).toNat - 2))])
theorem getD_lt {b : List Int} {i : Nat} (h : i < b.length) : b.getD i 0 = b[i] := by rw [List.getD_eq_getElem?_getD, List.getElem?_eq_getElem h]; rfl
section
variable {N : Nat}
theorem clone_ok (s : List Int) (h : s.length ≤ 1000000) : slices_Clone_byte_byte N s = some s := by
 unfold slices_Clone_byte_byte slices_Clone_byte_byte_ne
 cases s with
 | nil => rfl
 | cons x s =>
  have : roomB (x :: s).length 1 = true := roomB_of (by have := big_len; omega) (by omega)
  first
   | (simp only [List.isEmpty_cons, cond_false, this, cond_true]; done)
   | (simp only [List.isEmpty_cons, cond_false, List.length_nil, Nat.zero_add, List.nil_append, this, cond_true]; done)
theorem par_prog : ∀ (k : Nat) (b : List Int) (acc : List Op), b.length < k → b.length ≤ 100000 → acc.length ≤ 32 → AllB b → gl (fun (X : (((List (Int)) × Unit) × ((List ((Int) × (List (Int)))) × Unit)) → Option ParO) c => opts_Parse_L2 N X c.1.1 c.2.1) k ((b, ()), (acc, ())) = some (par k b acc)
 | 0, b, acc, h, _, _, _ => by omega
 | k + 1, b, acc, h, hb, ha, hw => by
  rw [gl_succ]
  unfold par opts_Parse_L2
  by_cases h0 : b.length = 0
  ·have c1 : ¬ ((0 : Int) < (b.length : Int)) := by omega
   simp only [h0, if_true]
   simp only [Int.natCast_zero, Int.lt_irrefl, decide_false, cond_false]
  ·have c1 : ((0 : Int) < (b.length : Int)) := by omega
   simp only [c1, h0, decide_true, cond_true, if_false]
   by_cases h1 : acc.length = 32
   ·have c2 : ((acc.length : Int) = 32) := by omega
    simp only [c2, h1, decide_true, cond_true, if_true]
    rfl
   ·have c2 : ¬ ((acc.length : Int) = 32) := by omega
    simp only [c2, h1, decide_false, cond_false, if_false]
    unfold opts_first
    by_cases h2 : b.length < 2
    ·have c3 : ((b.length : Int) < 2) := by omega
     simp only [c3, h2, decide_true, cond_true, if_true, Option.bind_some]
     rfl
    ·have c3 : ¬ ((b.length : Int) < 2) := by omega
     have hx := hw.get 1 (by omega)
     have c4 : IntKind.wrap .i64 b[1] = b[1] := wrap64 (by omega) (by omega)
     rw [getI_at b (a := (1 : Int)) (i := 1) rfl (by omega), getD_lt (by omega : 1 < b.length), getD_lt (by omega : 0 < b.length)]
     simp only [c3, h2, decide_false, cond_false, if_false, Option.bind_some, c4]
     by_cases h3 : b[1] < 2
     ·simp only [h3, decide_true, cond_true, if_true, Option.bind_some]
      rfl
     ·simp only [h3, decide_false, cond_false, if_false, Option.bind_some]
      by_cases h4 : (b.length : Int) < b[1]
      ·simp only [h4, decide_true, cond_true, if_true, Option.bind_some]
       rfl
      ·have e1 : b[1] = ((b[1].toNat : Nat) : Int) := by omega
       have hn2 : 2 ≤ b[1].toNat := by omega
       have hnl : b[1].toNat ≤ b.length := by omega
       have c5 : roomB (acc.length + ([(b[0], (b.drop 2).take (b[1].toNat - 2))] : List Op).length) 32 = true := roomB_of (by have := big_len; simp; omega) (by simp; omega)
       have s1 := subI_nat b (a := (2 : Int)) (b := b[1]) (i := 2) (j := b[1].toNat) rfl e1 hn2 hnl
       have s2 := dropI_nat b (a := b[1]) (i := b[1].toNat) e1 hnl
       simp only [h4, decide_false, cond_false, if_false, Option.bind_some, decide_true, Bool.not_true]
       rw [getI_at b (a := (0 : Int)) (i := 0) rfl (by omega), Option.bind_some, s1, Option.bind_some, clone_ok _ (by rw [List.length_take, List.length_drop]; omega), Option.bind_some, c5, cond_true, s2, Option.bind_some]
       exact par_prog k _ _ (by rw [List.length_drop]; omega) (by rw [List.length_drop]; omega) (by simp; omega) (hw.drop _)
def fin (o : ParO) : List Op × Int := Sum.elim (fun v => (v.1.1, v.1.2.1)) (fun v => (v.2.1, 0)) o
theorem parse_ok (b : List Int) (hb : b.length ≤ 100000) (hw : AllB b) (hN : 100000 < N) : opts_Parse N b = some (fin (par N b [])) := by
 unfold opts_Parse opts_Parse_L2_R
 rw [par_prog N b [] (by omega) hb (by simp) hw]
 cases par N b [] <;> rfl
end
theorem par_encs : ∀ (l : List Op) (k : Nat) (acc : List Op), (encs l).length < k → small l → acc.length + l.length ≤ 32 → par k (encs l) acc = .inr ((), (acc ++ l, ()))
 | [], k + 1, acc, h, hs, ha => by simp [par, encs]
 | o :: l, 0, acc, h, hs, ha => by omega
 | o :: l, k + 1, acc, h, hs, ha => by
  have h1 := hs o List.mem_cons_self
  have hl : (encs (o :: l)).length = 2 + o.2.length + (encs l).length := by rw [encs_cons, List.length_append]; simp only [enc1, List.length_cons]; omega
  have e1 : encs (o :: l) = o.1 :: (2 + (o.2.length : Int)) :: (o.2 ++ encs l) := by rw [encs_cons]; rfl
  rw [List.length_cons] at ha
  have g1 : (encs (o :: l)).getD 1 0 = 2 + (o.2.length : Int) := by rw [e1]; rfl
  have g0 : (encs (o :: l)).getD 0 0 = o.1 := by rw [e1]; rfl
  have gn : (2 + (o.2.length : Int)).toNat = o.2.length + 2 := by omega
  have gd : (encs (o :: l)).drop (o.2.length + 2) = encs l := by rw [e1]; simp
  have gt : ((encs (o :: l)).drop 2).take (o.2.length + 2 - 2) = o.2 := by rw [e1]; simp
  unfold par
  rw [if_neg (by omega), if_neg (by omega), if_neg (by omega), g1, if_neg (by omega), if_neg (by omega), gn, gd, gt, g0]
  rw [par_encs l k _ (by omega) (fun x hx => hs x (List.mem_cons_of_mem _ hx)) (by simp; omega)]
  simp
theorem par_back : ∀ (k : Nat) (b : List Int) (acc : List Op), b.length < k → AllB b → small acc → acc.length ≤ 32 → (∃ e, par k b acc = parE e ∧ e ≠ 0) ∨ ∃ m, par k b acc = .inr ((), (m, ())) ∧ encs m = encs acc ++ b ∧ small m ∧ m.length ≤ 32
 | 0, b, acc, h, _, _, _ => by omega
 | k + 1, b, acc, h, hw, hs, ha => by
  unfold par
  by_cases h0 : b.length = 0
  ·right
   rw [if_pos h0]
   have := List.eq_nil_of_length_eq_zero h0
   exact ⟨acc, rfl, by rw [this, List.append_nil], hs, ha⟩
  ·rw [if_neg h0]
   by_cases h1 : acc.length = 32
   ·left; rw [if_pos h1]; exact ⟨5, rfl, by decide⟩
   ·rw [if_neg h1]
    by_cases h2 : b.length < 2
    ·left; rw [if_pos h2]; exact ⟨4, rfl, by decide⟩
    ·rw [if_neg h2, getD_lt (by omega : 1 < b.length), getD_lt (by omega : 0 < b.length)]
     have hx := hw.get 1 (by omega)
     by_cases h3 : b[1] < 2
     ·left; rw [if_pos h3]; exact ⟨3, rfl, by decide⟩
     ·rw [if_neg h3]
      by_cases h4 : (b.length : Int) < b[1]
      ·left; rw [if_pos h4]; exact ⟨4, rfl, by decide⟩
      ·rw [if_neg h4]
       have hlt : ((b.drop 2).take (b[1].toNat - 2)).length = b[1].toNat - 2 := by rw [List.length_take, List.length_drop]; omega
       rcases par_back k (b.drop b[1].toNat) (acc ++ [(b[0], (b.drop 2).take (b[1].toNat - 2))]) (by rw [List.length_drop]; omega) (hw.drop _) (fun o ho => by
        rcases List.mem_append.1 ho with ho | ho
        ·exact hs o ho
        ·simp only [List.mem_singleton] at ho; subst ho; show ((b.drop 2).take (b[1].toNat - 2)).length ≤ 253; omega) (by simp; omega) with h5 | ⟨m, m1, m2, m3, m4⟩
       ·exact .inl h5
       ·refine .inr ⟨m, m1, ?_, m3, m4⟩
        rw [m2, encs_append, List.append_assoc]
        congr 1
        have e2 : encs [(b[0], (b.drop 2).take (b[1].toNat - 2))] = b[0] :: b[1] :: (b.drop 2).take (b[1].toNat - 2) := by
         show _ :: (2 + (List.length _ : Int)) :: (_ ++ []) = _
         rw [hlt, List.append_nil]
         congr 2
         omega
        rw [e2]
        have e3 : b.drop b[1].toNat = (b.drop 2).drop (b[1].toNat - 2) := by rw [List.drop_drop]; congr 1; omega
        rw [e3, List.cons_append, List.cons_append, List.take_append_drop]
        match b, h2 with
        | x :: y :: r, _ => rfl
        | [_], h2 => exact absurd (by simp) h2
        | [], h2 => exact absurd (by simp) h2
theorem par_wf : ∀ (k : Nat) (b : List Int) (acc : List Op), AllB b → wfO acc → ∀ m, par k b acc = .inr ((), (m, ())) → wfO m
 | 0, b, acc, hw, hs, m, h => by cases h
 | k + 1, b, acc, hw, hs, m, h => by
  unfold par at h
  split at h
  ·injection h with h; injection h with _ h; injection h with h; subst h; exact hs
  ·split at h
   ·cases h
   ·split at h
    ·cases h
    ·rename_i h2
     split at h
     ·cases h
     ·split at h
      ·cases h
      ·refine par_wf k _ _ (hw.drop _) (fun o ho => ?_) m h
       rcases List.mem_append.1 ho with ho | ho
       ·exact hs o ho
       ·simp only [List.mem_singleton] at ho
        subst ho
        exact ⟨by rw [getD_lt (by omega : 0 < b.length)]; exact hw.get 0 (by omega), (hw.drop _).take _⟩
section
variable {N : Nat}
theorem equal_ok (x y : Op) (h1 : AllB x.2) (h2 : AllB y.2) : opts_equal N x y = some (decide (x = y)) := by
 unfold opts_equal bytes_Equal
 rw [toBy_map h1, toBy_map h2]
 simp only [Option.bind_some, bytes_dec h1 h2]
 obtain ⟨x1, x2⟩ := x
 obtain ⟨y1, y2⟩ := y
 by_cases e1 : x1 = y1 <;> by_cases e2 : x2 = y2 <;> simp [e1, e2]
theorem osame_ok (a b : List Op) (ha : wfO a) (hb : wfO b) (hl : a.length < 1000) (hN : 10000 ≤ N) : opts_Same N a b = some (decide (a = b)) := by
 unfold opts_Same
 by_cases hl' : a.length = b.length
 ·have c0 : ((a.length : Int) = (b.length : Int)) := by omega
  simp only [c0, decide_true, Bool.not_true, cond_false]
  obtain ⟨o, h1, h2⟩ := gl_inv (G := fun (X : (((List Op) × ((List Op) × ((Int) × ((Int) × Unit)))) × Unit) → Option (((((Bool) × Unit) × Unit) ⊕ (Unit × Unit)))) c => opts_Same_1_slices_EqualFunc_api_Option_api_Option_api_Option_api_Option_L4 N X c.1.1 c.1.2.1 c.1.2.2.1 c.1.2.2.2.1)
   (fun n c => ∃ i : Nat, c = ((b, (a, ((b.length : Int), ((i : Int), ())))), ()) ∧ i ≤ a.length ∧ n = a.length - i ∧ a.take i = b.take i) (fun o => o = if a = b then .inr ((), ()) else .inl ((false, ()), ())) (fun X n c ⟨i, hc, hi, hn, ht⟩ => by
   subst hc
   rcases Nat.lt_or_ge i a.length with hlt | hge
   ·have c1 : ((i : Int) < (b.length : Int)) := by omega
    have c2 : IntKind.wrap .i64 ((i : Int) + 1) = ((i + 1 : Nat) : Int) := by rw [wrap64 (by omega) (by omega)]; omega
    have eq : opts_equal N (a[i].1, a[i].2) ((b[i]'(by omega)).1, (b[i]'(by omega)).2) = some (decide (a[i] = b[i]'(by omega))) := equal_ok (N := N) a[i] (b[i]'(by omega)) (ha _ (List.getElem_mem hlt)).2 (hb _ (List.getElem_mem _)).2
    by_cases he : a[i] = b[i]'(by omega)
    ·right
     refine ⟨a.length - (i + 1), ((b, (a, ((b.length : Int), (((i + 1 : Nat) : Int), ())))), ()), by omega, ⟨i + 1, rfl, hlt, rfl, ?_⟩, ?_⟩
     ·rw [List.take_add_one, List.take_add_one, ht, List.getElem?_eq_getElem hlt, List.getElem?_eq_getElem (by omega), he]
     ·simp only [opts_Same_1_slices_EqualFunc_api_Option_api_Option_api_Option_api_Option_L4, c1, decide_true, cond_true, getI_lt a i hlt, getI_lt b i (by omega), Option.bind_some, eq]
      simp only [he, decide_true, Bool.not_true, cond_false, c2]
    ·left
     refine ⟨.inl ((false, ()), ()), ?_, ?_⟩
     ·simp only [opts_Same_1_slices_EqualFunc_api_Option_api_Option_api_Option_api_Option_L4, c1, decide_true, cond_true, getI_lt a i hlt, getI_lt b i (by omega), Option.bind_some, eq]
      simp only [he, decide_false, Bool.not_false, cond_true]
     ·rw [if_neg (fun h => he (by simp [h]))]
   ·left
    have c1 : ¬ ((i : Int) < (b.length : Int)) := by omega
    refine ⟨.inr ((), ()), by simp only [opts_Same_1_slices_EqualFunc_api_Option_api_Option_api_Option_api_Option_L4, c1, decide_false, cond_false], ?_⟩
    rw [List.take_of_length_le (by omega), List.take_of_length_le (by omega)] at ht
    rw [if_pos ht]) N a.length ((b, (a, ((b.length : Int), ((0 : Int), ())))), ()) (by omega) ⟨0, rfl, by omega, by omega, by simp⟩
  unfold opts_Same_1_slices_EqualFunc_api_Option_api_Option_api_Option_api_Option_L4_R
  rw [h1, h2]
  by_cases he : a = b <;> simp [he]
 ·have c0 : ¬ ((a.length : Int) = (b.length : Int)) := by omega
  have c1 : ¬ (a = b) := fun h' => hl' (by rw [h'])
  simp only [c0, c1, decide_false, Bool.not_false, cond_true]
end
section
variable {N : Nat}
theorem oput2 (n : Int) (h : 0 ≤ n ∧ n < 18446744073709551616) (hN : 10000 ≤ N) : octs_Put N n 2 false = some ([n / 256 % 256, n % 256], 0) := put2 (N := N) n h (by omega)
theorem ojoin (l : List (List Int)) (hl : l.length ≤ 1000) (hs : ∀ p ∈ l, p.length ≤ 100000) (hN : 10000 ≤ N) : octs_Join N l = some l.flatten := join_ok (N := N) l hl hs (by omega)
abbrev Ct := Int × Int × List Int
def layC (c : Ct) : List Int × Int := if 4000 < c.2.2.length then ([], 8) else (c.1 :: c.2.1 :: ((4 + (c.2.2.length : Int)) / 256) :: ((4 + (c.2.2.length : Int)) % 256) :: c.2.2, 0)
theorem clay_ok (c : Ct) (hl : c.2.2.length ≤ 5000) (hN : 10000 ≤ N) : ctl_Lay N c = some (layC c) := by
 unfold ctl_Lay layC
 have w1 : IntKind.wrap .i64 ((4 : Int) + (c.2.2.length : Int)) = 4 + (c.2.2.length : Int) := wrap64 (by omega) (by omega)
 have w2 : IntKind.wrap .u64 ((4 : Int) + (c.2.2.length : Int)) = 4 + (c.2.2.length : Int) := wrapU64 (by omega) (by omega)
 by_cases hb : 4000 < c.2.2.length
 ·have c1 : (4000 : Int) < (c.2.2.length : Int) := by omega
  simp [c1, hb]
 ·have c1 : ¬ (4000 : Int) < (c.2.2.length : Int) := by omega
  rw [decide_eq_false c1, w1, w2, oput2 _ (by omega) hN]
  simp only [cond_false, Option.bind_some]
  rw [ojoin _ (by simp) (fun p hp => by
   simp only [List.mem_cons, List.not_mem_nil, or_false] at hp
   rcases hp with rfl | rfl | rfl
   ·simp
   ·simp
   ·omega) hN]
  have e1 : (4 + (c.2.2.length : Int)) / 256 % 256 = (4 + (c.2.2.length : Int)) / 256 := by omega
  simp [hb, e1]
end
section
variable {N : Nat}
def cutC (b : List Int) (most : Int) : List Int := if most ≤ 4 then [] else b.take (minI (b.length : Int) (most - 4)).toNat
theorem minI_r {a b : Int} (ha : 0 ≤ a) (hb : 0 ≤ b) : 0 ≤ minI a b ∧ minI a b ≤ a := by unfold minI; split <;> omega
theorem ccut_ok (b : List Int) (most : Int) (hm : -9223372036854775808 ≤ most ∧ most < 9223372036854775808) : ctl_cut N b most = some (cutC b most) := by
 unfold ctl_cut cutC
 by_cases h : most ≤ 4
 ·simp [h]
 ·have w : IntKind.wrap .i64 (most - 4) = most - 4 := wrap64 (by omega) (by omega)
  obtain ⟨r1, r2⟩ := minI_r (show (0 : Int) ≤ (b.length : Int) by omega) (show (0 : Int) ≤ most - 4 by omega)
  have t := takeI_nat b (a := minI (b.length : Int) (most - 4)) (i := (minI (b.length : Int) (most - 4)).toNat) (by omega) (by omega)
  simp [h, w, t]
theorem crej_ok (id : Int) (c : Ct) (most : Int) (hl : c.2.2.length ≤ 5000) (hm : -9223372036854775808 ≤ most ∧ most < 9223372036854775808) (hN : 10000 ≤ N) : ctl_Reject N id c most = some (7, id, cutC (layC c).1 most) := by
 unfold ctl_Reject
 have e : ctl_Lay N (c.1, (c.2.1, c.2.2)) = some (layC c) := clay_ok c hl hN
 rw [e, Option.bind_some, ccut_ok _ _ hm, Option.bind_some]
def isC (code : Int) : Bool := decide (1 ≤ code ∧ code ≤ 4)
theorem chas_ok (code : Int) : ctl_hasOptions N code = some (isC code) := by
 unfold ctl_hasOptions isC
 by_cases h1 : (1 : Int) ≤ code <;> by_cases h2 : code ≤ (4 : Int) <;> simp [h1, h2]
def conC (code id : Int) (l : List Op) : Ct × Int := bif isC code then (bif decide ((layS l).2 = 0) then ((code, id, (layS l).1), 0) else ((0, 0, []), (layS l).2)) else ((0, 0, []), 9)
theorem ccon_ok (code id : Int) (l : List Op) (hl : l.length ≤ 1000) (hN : 10000 ≤ N) : ctl_Conf N code id l = some (conC code id l) := by
 unfold ctl_Conf conC
 rw [chas_ok, Option.bind_some, lay_ok l hl hN]
 cases isC code
 ·rfl
 ·by_cases h : (layS l).2 = 0 <;> simp [h]
def optC (N : Nat) (c : Ct) : List Op × Int := bif isC c.1 then fin (par N c.2.2 []) else ([], 9)
theorem copt_ok (c : Ct) (hb : c.2.2.length ≤ 100000) (hw : AllB c.2.2) (hN : 100000 < N) : ctl_Options N c = some (optC N c) := by
 unfold ctl_Options optC
 rw [chas_ok, Option.bind_some, parse_ok c.2.2 hb hw hN]
 cases isC c.1 <;> rfl
end
theorem optC_wf (c : Ct) (hl : c.2.2.length < 200000) (hw : AllB c.2.2) : wfO (optC 200000 c).1 ∧ (optC 200000 c).1.length ≤ 32 := by
 unfold optC
 cases isC c.1
 ·exact ⟨fun o ho => (by cases ho), Nat.zero_le _⟩
 ·simp only [cond_true]
  rcases par_back 200000 c.2.2 [] hl hw (fun o ho => (by cases ho)) (by simp) with ⟨e, h, he⟩ | ⟨m, h, _, _, hm⟩
  ·rw [h]; exact ⟨fun o ho => (by cases ho), Nat.zero_le _⟩
  ·have := par_wf 200000 c.2.2 [] hw (fun o ho => (by cases ho)) m h
   rw [h]; exact ⟨this, hm⟩
theorem wf_u16 {n : Int} (h : (Lit.int .u16 n).wf = true) : 0 ≤ n ∧ n < 65536 := by
 simp only [Lit.wf, Bool.and_eq_true, decide_eq_true_eq, IntKind.min, IntKind.max, IntKind.signed, IntKind.bits] at h
 simp at h
 omega
theorem layS_wf (l : List Op) (hw : wfO l) : AllB (layS l).1 ∧ (layS l).1.length ≤ 10000 := by
 unfold layS
 split
 ·exact ⟨AllB.nil, by simp⟩
 ·split
  ·rename_i h32 hs
   have hs := all_small.1 hs
   refine ⟨encs_all hs hw, ?_⟩
   have := encs_len hs
   show (encs l).length ≤ _
   omega
  ·exact ⟨AllB.nil, by simp⟩
theorem conC_back (code id : Int) (l : List Op) (h : (conC code id l).2 = 0) : optC 200000 (conC code id l).1 = (l, 0) := by
 unfold conC at h ⊢
 cases hc : isC code with
 | false => rw [hc] at h; cases h
 | true =>
  rw [hc] at h
  simp only [cond_true] at h ⊢
  by_cases h0 : (layS l).2 = 0
  ·simp only [h0, decide_true, cond_true]
   have hl : l.length ≤ 32 ∧ small l ∧ (layS l).1 = encs l := by
    unfold layS at h0 ⊢
    split at h0
    ·cases h0
    ·rename_i h32
     rw [if_neg h32]
     split at h0
     ·rename_i hs
      rw [if_pos hs]
      exact ⟨by omega, all_small.1 hs, rfl⟩
     ·cases h0
   unfold optC
   simp only [hc, cond_true, hl.2.2]
   have hel := encs_len hl.2.1
   rw [par_encs l 200000 [] (by omega) hl.2.1 (by simpa using hl.1)]
   rfl
  ·simp only [h0, decide_false, cond_false] at h
end Go.Proofs.Ytjomcoignnlghaa
