/-
  Parts of my own, one behind the other: GWd, QBase2, QOctsD, QW1, QW2, QW3, QW5, QW7.
-/
import Derived.Test.YtailoanlfbpfnaaDoorMrg4
/-
  Functions of the program as plain functions on typed data, and that they are so. Printed by a program of mine.
-/
namespace Go.Proofs.YtailoanlfbpfnaaDoor
open Go.RowKit
set_option linter.unusedVariables false
set_option maxRecDepth 100000
theorem hmx : Go.Proofs.Tryd.prog.follows .mixedOrders = true := by kernel_rfl
noncomputable def Ev0 (N : Nat) : (R : Type) → Env R := Env.addInl env0 [23, 32, 42, 57]
theorem Ev0_ok (N : Nat) (R : Type) : EnvOK Go.Proofs.Tryd.prog (Ev0 N R) := EnvOK.addInl (env0_ok R) (by kernel_rfl)
noncomputable def Ev1 (N : Nat) : (R : Type) → Env R := Env.addFn (Ev0 N) 37 (fun R => lowK)
theorem Ev1_ok (N : Nat) (R : Type) : EnvOK Go.Proofs.Tryd.prog (Ev1 N R) := EnvOK.addExt (Ev0_ok N R) low_ok
noncomputable def words_Alike (N : Nat) (a0 : List UInt8) (b1 : List UInt8) : Option (Bool) :=
 bif (decide ((List.length a0) ≤ (1000000 : Nat))) then
  bif (decide ((List.length b1) ≤ (1000000 : Nat))) then
   some ((decide ((@lowS a0) = (@lowS b1))))
  else
   none
 else
  none
theorem words_Alike_S (N : Nat) (a0 : List UInt8) (b1 : List UInt8) : (runK Go.Proofs.Tryd.prog (Ev1 N) 400 27 [.str, .str] [.bool] (a0, b1, ())).run = words_Alike N a0 b1 := by kernel_rfl
theorem words_Alike_C (N : Nat) (a0 : List UInt8) (b1 : List UInt8) (y : Bool) (h : words_Alike N a0 b1 = some y) : CallsK Go.Proofs.Tryd.prog 27 (valA [.str, .str] (a0, b1, ())) (tupV (valR [.bool] y)) := runK_ok hmx (Ev1_ok N _) (okFn_ok (by kernel_rfl)) (by rw [words_Alike_S]; exact h)
noncomputable def Ev2 (N : Nat) : (R : Type) → Env R := Env.addFn (Ev1 N) 27 (fun R => fnK [.str, .str] [.bool] (fun c => words_Alike N c.1 c.2.1))
theorem Ev2_ok (N : Nat) (R : Type) : EnvOK Go.Proofs.Tryd.prog (Ev2 N R) := EnvOK.addFn hmx (Ev1_ok N R) (Ev1_ok N _) (by kernel_rfl) (fun c => words_Alike_S N c.1 c.2.1)
noncomputable def words_isDigit (N : Nat) (sign0 : Int) : Option (Bool) :=
 Option.bind (bif (decide ((48 : Int) ≤ sign0)) then
   some ((@cond Bool @Bool.true (decide (sign0 ≤ (57 : Int))) @Bool.false))
  else
   some (@Bool.false)) fun (v2 : Bool) =>
 some (v2)
theorem words_isDigit_S (N : Nat) (sign0 : Int) : (runK Go.Proofs.Tryd.prog (Ev2 N) 400 43 [(.int .i32)] [.bool] (sign0, ())).run = words_isDigit N sign0 := by kernel_rfl
theorem words_isDigit_C (N : Nat) (sign0 : Int) (y : Bool) (h : words_isDigit N sign0 = some y) : CallsK Go.Proofs.Tryd.prog 43 (valA [(.int .i32)] (sign0, ())) (tupV (valR [.bool] y)) := runK_ok hmx (Ev2_ok N _) (okFn_ok (by kernel_rfl)) (by rw [words_isDigit_S]; exact h)
noncomputable def Ev3 (N : Nat) : (R : Type) → Env R := Env.addFn (Ev2 N) 43 (fun R => fnK [(.int .i32)] [.bool] (fun c => words_isDigit N c.1))
theorem Ev3_ok (N : Nat) (R : Type) : EnvOK Go.Proofs.Tryd.prog (Ev3 N R) := EnvOK.addFn hmx (Ev2_ok N R) (Ev2_ok N _) (by kernel_rfl) (fun c => words_isDigit_S N c.1)
noncomputable def words_inToken (N : Nat) (sign0 : Int) : Option (Bool) :=
 bif (decide (sign0 = (45 : Int))) then
  bif (decide (sign0 = (45 : Int))) then
   some (@Bool.true)
  else
   Option.bind (@words_isDigit N sign0) fun (v2 : Bool) =>
   Option.bind (bif v2 then
     some (@Bool.true)
    else
     bif (decide ((65 : Int) ≤ sign0)) then
      some ((@cond Bool @Bool.false @Bool.true (@cond Bool @Bool.true (decide (sign0 ≤ (90 : Int))) @Bool.false)))
     else
      some ((@cond Bool @Bool.false @Bool.true @Bool.false))) fun (v3 : Bool) =>
   Option.bind (bif v3 then
     some (@Bool.true)
    else
     bif (decide ((97 : Int) ≤ sign0)) then
      some ((@cond Bool @Bool.false @Bool.true (@cond Bool @Bool.true (decide (sign0 ≤ (122 : Int))) @Bool.false)))
     else
      some ((@cond Bool @Bool.false @Bool.true @Bool.false))) fun (v4 : Bool) =>
   some (v4)
 else
  bif (decide (sign0 = (95 : Int))) then
   bif (decide (sign0 = (95 : Int))) then
    some (@Bool.true)
   else
    Option.bind (@words_isDigit N sign0) fun (v2 : Bool) =>
    Option.bind (bif v2 then
      some (@Bool.true)
     else
      bif (decide ((65 : Int) ≤ sign0)) then
       some ((@cond Bool @Bool.false @Bool.true (@cond Bool @Bool.true (decide (sign0 ≤ (90 : Int))) @Bool.false)))
      else
       some ((@cond Bool @Bool.false @Bool.true @Bool.false))) fun (v3 : Bool) =>
    Option.bind (bif v3 then
      some (@Bool.true)
     else
      bif (decide ((97 : Int) ≤ sign0)) then
       some ((@cond Bool @Bool.false @Bool.true (@cond Bool @Bool.true (decide (sign0 ≤ (122 : Int))) @Bool.false)))
      else
       some ((@cond Bool @Bool.false @Bool.true @Bool.false))) fun (v4 : Bool) =>
    some (v4)
  else
   bif (decide (sign0 = (46 : Int))) then
    bif (decide (sign0 = (46 : Int))) then
     some (@Bool.true)
    else
     Option.bind (@words_isDigit N sign0) fun (v2 : Bool) =>
     Option.bind (bif v2 then
       some (@Bool.true)
      else
       bif (decide ((65 : Int) ≤ sign0)) then
        some ((@cond Bool @Bool.false @Bool.true (@cond Bool @Bool.true (decide (sign0 ≤ (90 : Int))) @Bool.false)))
       else
        some ((@cond Bool @Bool.false @Bool.true @Bool.false))) fun (v3 : Bool) =>
     Option.bind (bif v3 then
       some (@Bool.true)
      else
       bif (decide ((97 : Int) ≤ sign0)) then
        some ((@cond Bool @Bool.false @Bool.true (@cond Bool @Bool.true (decide (sign0 ≤ (122 : Int))) @Bool.false)))
       else
        some ((@cond Bool @Bool.false @Bool.true @Bool.false))) fun (v4 : Bool) =>
     some (v4)
   else
    bif (decide (sign0 = (123 : Int))) then
     bif (decide (sign0 = (123 : Int))) then
      some (@Bool.true)
     else
      Option.bind (@words_isDigit N sign0) fun (v2 : Bool) =>
      Option.bind (bif v2 then
        some (@Bool.true)
       else
        bif (decide ((65 : Int) ≤ sign0)) then
         some ((@cond Bool @Bool.false @Bool.true (@cond Bool @Bool.true (decide (sign0 ≤ (90 : Int))) @Bool.false)))
        else
         some ((@cond Bool @Bool.false @Bool.true @Bool.false))) fun (v3 : Bool) =>
      Option.bind (bif v3 then
        some (@Bool.true)
       else
        bif (decide ((97 : Int) ≤ sign0)) then
         some ((@cond Bool @Bool.false @Bool.true (@cond Bool @Bool.true (decide (sign0 ≤ (122 : Int))) @Bool.false)))
        else
         some ((@cond Bool @Bool.false @Bool.true @Bool.false))) fun (v4 : Bool) =>
      some (v4)
    else
     bif (decide (sign0 = (125 : Int))) then
      bif (decide (sign0 = (125 : Int))) then
       some (@Bool.true)
      else
       Option.bind (@words_isDigit N sign0) fun (v2 : Bool) =>
       Option.bind (bif v2 then
         some (@Bool.true)
        else
         bif (decide ((65 : Int) ≤ sign0)) then
          some ((@cond Bool @Bool.false @Bool.true (@cond Bool @Bool.true (decide (sign0 ≤ (90 : Int))) @Bool.false)))
         else
          some ((@cond Bool @Bool.false @Bool.true @Bool.false))) fun (v3 : Bool) =>
       Option.bind (bif v3 then
         some (@Bool.true)
        else
         bif (decide ((97 : Int) ≤ sign0)) then
          some ((@cond Bool @Bool.false @Bool.true (@cond Bool @Bool.true (decide (sign0 ≤ (122 : Int))) @Bool.false)))
         else
          some ((@cond Bool @Bool.false @Bool.true @Bool.false))) fun (v4 : Bool) =>
       some (v4)
     else
      bif (decide (sign0 = (47 : Int))) then
       some (@Bool.true)
      else
       Option.bind (@words_isDigit N sign0) fun (v2 : Bool) =>
       Option.bind (bif v2 then
         some (@Bool.true)
        else
         bif (decide ((65 : Int) ≤ sign0)) then
          some ((@cond Bool @Bool.false @Bool.true (@cond Bool @Bool.true (decide (sign0 ≤ (90 : Int))) @Bool.false)))
         else
          some ((@cond Bool @Bool.false @Bool.true @Bool.false))) fun (v3 : Bool) =>
       Option.bind (bif v3 then
         some (@Bool.true)
        else
         bif (decide ((97 : Int) ≤ sign0)) then
          some ((@cond Bool @Bool.false @Bool.true (@cond Bool @Bool.true (decide (sign0 ≤ (122 : Int))) @Bool.false)))
         else
          some ((@cond Bool @Bool.false @Bool.true @Bool.false))) fun (v4 : Bool) =>
       some (v4)
theorem words_inToken_S (N : Nat) (sign0 : Int) : (runK Go.Proofs.Tryd.prog (Ev3 N) 400 35 [(.int .i32)] [.bool] (sign0, ())).run = words_inToken N sign0 := by kernel_rfl
theorem words_inToken_C (N : Nat) (sign0 : Int) (y : Bool) (h : words_inToken N sign0 = some y) : CallsK Go.Proofs.Tryd.prog 35 (valA [(.int .i32)] (sign0, ())) (tupV (valR [.bool] y)) := runK_ok hmx (Ev3_ok N _) (okFn_ok (by kernel_rfl)) (by rw [words_inToken_S]; exact h)
noncomputable def Ev4 (N : Nat) : (R : Type) → Env R := Env.addFn (Ev3 N) 35 (fun R => fnK [(.int .i32)] [.bool] (fun c => words_inToken N c.1))
theorem Ev4_ok (N : Nat) (R : Type) : EnvOK Go.Proofs.Tryd.prog (Ev4 N R) := EnvOK.addFn hmx (Ev3_ok N R) (Ev3_ok N _) (by kernel_rfl) (fun c => words_inToken_S N c.1)
noncomputable def words_Token_L2_I : LI := ⟨21, 0, [], ⟨[(0, .ty .str), (6, .lit (.box 0 0))], [.itr]⟩, [(.ret, ⟨[(2, .ty .bool)], []⟩), (.exit 0, ⟨[(0, .ty .str)], []⟩)]⟩
noncomputable def words_Token_L2 (N : Nat) (X : (((List UInt8) × Unit) × ((List UInt8) × ((Int) × Unit))) → Option (((((Bool) × Unit) × Unit) ⊕ (((List UInt8) × Unit) × Unit)))) (s0 : List UInt8) (h0 : List UInt8) (h1 : Int) : Option (((((Bool) × Unit) × Unit) ⊕ (((List UInt8) × Unit) × Unit))) :=
 bif (decide ((Int.toNat h1) < (List.length h0))) then
  Option.bind (@words_inToken N (@rdec h0 h1).1) fun (v5 : Bool) =>
  bif (!v5) then
   some ((.inl ((@Bool.false, @Unit.unit), @Unit.unit)))
  else
   (X ((s0, @Unit.unit), (h0, (((((Int.toNat h1) : Nat) : Int) + (@rdec h0 h1).2), @Unit.unit))))
 else
  some ((.inr ((s0, @Unit.unit), @Unit.unit)))
noncomputable def words_Token_L2_R (N : Nat) (c : (((List UInt8) × Unit) × ((List UInt8) × ((Int) × Unit)))) : Option (((((Bool) × Unit) × Unit) ⊕ (((List UInt8) × Unit) × Unit))) := gl (fun X c => words_Token_L2 N X c.1.1 c.2.1 c.2.2.1) N c
theorem words_Token_L2_S (N : Nat) (X : (((List UInt8) × Unit) × ((List UInt8) × ((Int) × Unit))) → Option (((((Bool) × Unit) × Unit) ⊕ (((List UInt8) × Unit) × Unit)))) (s0 : List UInt8) (h0 : List UInt8) (h1 : Int) : (roundK Go.Proofs.Tryd.prog (Ev4 N) 400 [25] words_Token_L2_I (loopAt Go.Proofs.Tryd.prog [25] 2) X ((s0, ()), (h0, h1, ()))).run = words_Token_L2 N X s0 h0 h1 := by kernel_rfl
noncomputable def Ev5 (N : Nat) : (R : Type) → Env R := Env.addLp (Ev4 N) [25] 0 2 (fun R => lpK Go.Proofs.Tryd.prog words_Token_L2_I (fun X c => words_Token_L2 N X c.1.1 c.2.1 c.2.2.1) N)
theorem Ev5_ok (N : Nat) (R : Type) : EnvOK Go.Proofs.Tryd.prog (Ev5 N R) := EnvOK.addLp (Ev4_ok N R) (by kernel_rfl) (lpK_ok (li := words_Token_L2_I) (G := fun X c => words_Token_L2 N X c.1.1 c.2.1 c.2.2.1) hmx (Ev4_ok N _) (by kernel_rfl) loopAt_sub (fun (X : CT words_Token_L2_I.sh → Option (OT words_Token_L2_I.outs)) (c : CT words_Token_L2_I.sh) => words_Token_L2_S N X c.1.1 c.2.1 c.2.2.1) N)
noncomputable def words_Token (N : Nat) (s0 : List UInt8) : Option (Bool) :=
 Option.bind (words_Token_L2_R N ((s0, @Unit.unit), (s0, ((0 : Int), @Unit.unit)))) fun (v2 : (((Bool × Unit) × Unit) ⊕ (((List UInt8) × Unit) × Unit))) =>
 Sum.elim
  (fun (v3 : ((Bool × Unit) × Unit)) =>
  some (v3.1.1))
  (fun (v3 : (((List UInt8) × Unit) × Unit)) =>
  bif (decide ((1 : Int) ≤ (((List.length v3.1.1) : Nat) : Int))) then
   Option.bind (some ((@cond Bool @Bool.true (decide ((((List.length v3.1.1) : Nat) : Int) ≤ (64 : Int))) @Bool.false))) fun (v4 : Bool) =>
   some (v4)
  else
   Option.bind (some (@Bool.false)) fun (v4 : Bool) =>
   some (v4)) v2
theorem words_Token_S (N : Nat) (s0 : List UInt8) : (runK Go.Proofs.Tryd.prog (Ev5 N) 400 25 [.str] [.bool] (s0, ())).run = words_Token N s0 := by kernel_rfl
theorem words_Token_C (N : Nat) (s0 : List UInt8) (y : Bool) (h : words_Token N s0 = some y) : CallsK Go.Proofs.Tryd.prog 25 (valA [.str] (s0, ())) (tupV (valR [.bool] y)) := runK_ok hmx (Ev5_ok N _) (okFn_ok (by kernel_rfl)) (by rw [words_Token_S]; exact h)
noncomputable def Ev6 (N : Nat) : (R : Type) → Env R := Env.addFn (Ev5 N) 25 (fun R => fnK [.str] [.bool] (fun c => words_Token N c.1))
theorem Ev6_ok (N : Nat) (R : Type) : EnvOK Go.Proofs.Tryd.prog (Ev6 N R) := EnvOK.addFn hmx (Ev5_ok N R) (Ev5_ok N _) (by kernel_rfl) (fun c => words_Token_S N c.1)
noncomputable def Ev7 (N : Nat) : (R : Type) → Env R := Env.addFn (Ev6 N) 36 (fun R => trK)
theorem Ev7_ok (N : Nat) (R : Type) : EnvOK Go.Proofs.Tryd.prog (Ev7 N R) := EnvOK.addExt (Ev6_ok N R) tr_ok
noncomputable def words_Trim (N : Nat) (s0 : List UInt8) : Option (List UInt8) :=
 bif (decide ((List.length s0) ≤ (281474976710656 : Nat))) then
  some ((@Go.Lib.trimS s0 (@Array.toList UInt8 (@List.toArray UInt8 ([(@OfNat.ofNat UInt8 (32 : Nat) (@UInt8.instOfNat (32 : Nat))), (@OfNat.ofNat UInt8 (9 : Nat) (@UInt8.instOfNat (9 : Nat)))] : List (UInt8))))))
 else
  none
theorem words_Trim_S (N : Nat) (s0 : List UInt8) : (runK Go.Proofs.Tryd.prog (Ev7 N) 400 26 [.str] [.str] (s0, ())).run = words_Trim N s0 := by kernel_rfl
theorem words_Trim_C (N : Nat) (s0 : List UInt8) (y : List UInt8) (h : words_Trim N s0 = some y) : CallsK Go.Proofs.Tryd.prog 26 (valA [.str] (s0, ())) (tupV (valR [.str] y)) := runK_ok hmx (Ev7_ok N _) (okFn_ok (by kernel_rfl)) (by rw [words_Trim_S]; exact h)
noncomputable def Ev8 (N : Nat) : (R : Type) → Env R := Env.addFn (Ev7 N) 26 (fun R => fnK [.str] [.str] (fun c => words_Trim N c.1))
theorem Ev8_ok (N : Nat) (R : Type) : EnvOK Go.Proofs.Tryd.prog (Ev8 N R) := EnvOK.addFn hmx (Ev7_ok N R) (Ev7_ok N _) (by kernel_rfl) (fun c => words_Trim_S N c.1)
noncomputable def words_isNumber_L2_I : LI := ⟨24, 0, [], ⟨[(0, .ty .str), (6, .lit (.box 0 0))], [.itr]⟩, [(.ret, ⟨[(2, .ty .bool)], []⟩), (.exit 0, ⟨[(0, .ty .str)], []⟩)]⟩
noncomputable def words_isNumber_L2 (N : Nat) (X : (((List UInt8) × Unit) × ((List UInt8) × ((Int) × Unit))) → Option (((((Bool) × Unit) × Unit) ⊕ (((List UInt8) × Unit) × Unit)))) (s0 : List UInt8) (h0 : List UInt8) (h1 : Int) : Option (((((Bool) × Unit) × Unit) ⊕ (((List UInt8) × Unit) × Unit))) :=
 bif (decide ((Int.toNat h1) < (List.length h0))) then
  Option.bind (@words_isDigit N (@rdec h0 h1).1) fun (v5 : Bool) =>
  bif (!v5) then
   some ((.inl ((@Bool.false, @Unit.unit), @Unit.unit)))
  else
   (X ((s0, @Unit.unit), (h0, (((((Int.toNat h1) : Nat) : Int) + (@rdec h0 h1).2), @Unit.unit))))
 else
  some ((.inr ((s0, @Unit.unit), @Unit.unit)))
noncomputable def words_isNumber_L2_R (N : Nat) (c : (((List UInt8) × Unit) × ((List UInt8) × ((Int) × Unit)))) : Option (((((Bool) × Unit) × Unit) ⊕ (((List UInt8) × Unit) × Unit))) := gl (fun X c => words_isNumber_L2 N X c.1.1 c.2.1 c.2.2.1) N c
theorem words_isNumber_L2_S (N : Nat) (X : (((List UInt8) × Unit) × ((List UInt8) × ((Int) × Unit))) → Option (((((Bool) × Unit) × Unit) ⊕ (((List UInt8) × Unit) × Unit)))) (s0 : List UInt8) (h0 : List UInt8) (h1 : Int) : (roundK Go.Proofs.Tryd.prog (Ev8 N) 400 [33] words_isNumber_L2_I (loopAt Go.Proofs.Tryd.prog [33] 2) X ((s0, ()), (h0, h1, ()))).run = words_isNumber_L2 N X s0 h0 h1 := by kernel_rfl
noncomputable def Ev9 (N : Nat) : (R : Type) → Env R := Env.addLp (Ev8 N) [33] 0 2 (fun R => lpK Go.Proofs.Tryd.prog words_isNumber_L2_I (fun X c => words_isNumber_L2 N X c.1.1 c.2.1 c.2.2.1) N)
theorem Ev9_ok (N : Nat) (R : Type) : EnvOK Go.Proofs.Tryd.prog (Ev9 N R) := EnvOK.addLp (Ev8_ok N R) (by kernel_rfl) (lpK_ok (li := words_isNumber_L2_I) (G := fun X c => words_isNumber_L2 N X c.1.1 c.2.1 c.2.2.1) hmx (Ev8_ok N _) (by kernel_rfl) loopAt_sub (fun (X : CT words_isNumber_L2_I.sh → Option (OT words_isNumber_L2_I.outs)) (c : CT words_isNumber_L2_I.sh) => words_isNumber_L2_S N X c.1.1 c.2.1 c.2.2.1) N)
noncomputable def words_isNumber (N : Nat) (s0 : List UInt8) : Option (Bool) :=
 Option.bind (words_isNumber_L2_R N ((s0, @Unit.unit), (s0, ((0 : Int), @Unit.unit)))) fun (v2 : (((Bool × Unit) × Unit) ⊕ (((List UInt8) × Unit) × Unit))) =>
 Sum.elim
  (fun (v3 : ((Bool × Unit) × Unit)) =>
  some (v3.1.1))
  (fun (v3 : (((List UInt8) × Unit) × Unit)) =>
  Option.bind (bif (decide (v3.1.1 = (@Array.toList UInt8 (@List.toArray UInt8 ([(@OfNat.ofNat UInt8 (48 : Nat) (@UInt8.instOfNat (48 : Nat)))] : List (UInt8)))))) then
    some (@Bool.true)
   else
    bif (!(decide (v3.1.1 = (@Array.toList UInt8 (@List.toArray UInt8 ([] : List (UInt8))))))) then
     Option.bind (getI v3.1.1 (0 : Int)) fun (v4 : UInt8) =>
     some ((@cond Bool @Bool.false @Bool.true (@cond Bool @Bool.true (!(decide ((((@UInt8.toNat v4) : Nat) : Int) = (48 : Int)))) @Bool.false)))
    else
     some ((@cond Bool @Bool.false @Bool.true @Bool.false))) fun (v4 : Bool) =>
  some (v4)) v2
theorem words_isNumber_S (N : Nat) (s0 : List UInt8) : (runK Go.Proofs.Tryd.prog (Ev9 N) 400 33 [.str] [.bool] (s0, ())).run = words_isNumber N s0 := by kernel_rfl
theorem words_isNumber_C (N : Nat) (s0 : List UInt8) (y : Bool) (h : words_isNumber N s0 = some y) : CallsK Go.Proofs.Tryd.prog 33 (valA [.str] (s0, ())) (tupV (valR [.bool] y)) := runK_ok hmx (Ev9_ok N _) (okFn_ok (by kernel_rfl)) (by rw [words_isNumber_S]; exact h)
noncomputable def Ev10 (N : Nat) : (R : Type) → Env R := Env.addFn (Ev9 N) 33 (fun R => fnK [.str] [.bool] (fun c => words_isNumber N c.1))
theorem Ev10_ok (N : Nat) (R : Type) : EnvOK Go.Proofs.Tryd.prog (Ev10 N R) := EnvOK.addFn hmx (Ev9_ok N R) (Ev9_ok N _) (by kernel_rfl) (fun c => words_isNumber_S N c.1)
noncomputable def Ev11 (N : Nat) : (R : Type) → Env R := Env.addFn (Ev10 N) 34 (fun R => puK)
theorem Ev11_ok (N : Nat) (R : Type) : EnvOK Go.Proofs.Tryd.prog (Ev11 N R) := EnvOK.addExt (Ev10_ok N R) pu_ok
noncomputable def words_Number (N : Nat) (s0 : List UInt8) : Option ((Int) × Int) :=
 Option.bind (@words_isNumber N s0) fun (v2 : Bool) =>
 bif (!v2) then
  some (((0 : Int), (3 : Int)))
 else
  bif (decide ((List.length s0) ≤ (281474976710656 : Nat))) then
   Sum.elim
    (fun (v3 : Int) =>
    some ((v3, (0 : Int))))
    (fun (v3 : Int) =>
    some (((0 : Int), (8 : Int)))) (@puS s0)
  else
   none
theorem words_Number_S (N : Nat) (s0 : List UInt8) : (runK Go.Proofs.Tryd.prog (Ev11 N) 400 24 [.str] [(.int .u64), (.int .i64)] (s0, ())).run = words_Number N s0 := by kernel_rfl
theorem words_Number_C (N : Nat) (s0 : List UInt8) (y : (Int) × Int) (h : words_Number N s0 = some y) : CallsK Go.Proofs.Tryd.prog 24 (valA [.str] (s0, ())) (tupV (valR [(.int .u64), (.int .i64)] y)) := runK_ok hmx (Ev11_ok N _) (okFn_ok (by kernel_rfl)) (by rw [words_Number_S]; exact h)
noncomputable def Ev12 (N : Nat) : (R : Type) → Env R := Env.addFn (Ev11 N) 24 (fun R => fnK [.str] [(.int .u64), (.int .i64)] (fun c => words_Number N c.1))
theorem Ev12_ok (N : Nat) (R : Type) : EnvOK Go.Proofs.Tryd.prog (Ev12 N R) := EnvOK.addFn hmx (Ev11_ok N R) (Ev11_ok N _) (by kernel_rfl) (fun c => words_Number_S N c.1)
noncomputable def Ev13 (N : Nat) : (R : Type) → Env R := Env.addFn (Ev12 N) 31 (fun R => fuK)
theorem Ev13_ok (N : Nat) (R : Type) : EnvOK Go.Proofs.Tryd.prog (Ev13 N R) := EnvOK.addExt (Ev12_ok N R) fu_ok
noncomputable def words_Digits (N : Nat) (n0 : Int) : Option (List UInt8) :=
 bif (decide ((0 : Int) ≤ n0 ∧ n0 < (18446744073709551616 : Int))) then
  some ((@Go.Lib.decDigits (Int.toNat n0)))
 else
  none
theorem words_Digits_S (N : Nat) (n0 : Int) : (runK Go.Proofs.Tryd.prog (Ev13 N) 400 21 [(.int .u64)] [.str] (n0, ())).run = words_Digits N n0 := by kernel_rfl
theorem words_Digits_C (N : Nat) (n0 : Int) (y : List UInt8) (h : words_Digits N n0 = some y) : CallsK Go.Proofs.Tryd.prog 21 (valA [(.int .u64)] (n0, ())) (tupV (valR [.str] y)) := runK_ok hmx (Ev13_ok N _) (okFn_ok (by kernel_rfl)) (by rw [words_Digits_S]; exact h)
noncomputable def Ev14 (N : Nat) : (R : Type) → Env R := Env.addFn (Ev13 N) 21 (fun R => fnK [(.int .u64)] [.str] (fun c => words_Digits N c.1))
theorem Ev14_ok (N : Nat) (R : Type) : EnvOK Go.Proofs.Tryd.prog (Ev14 N R) := EnvOK.addFn hmx (Ev13_ok N R) (Ev13_ok N _) (by kernel_rfl) (fun c => words_Digits_S N c.1)
noncomputable def words_may (N : Nat) (seen0 : List (Int)) (i1 : Int) : Option (Bool) :=
 Option.bind (getI seen0 i1) fun (v3 : Int) =>
 bif (decide (v3 = (13 : Int))) then
  Option.bind (bif (decide ((Go.IntKind.wrap .i64 (i1 + (1 : Int))) = (((List.length seen0) : Nat) : Int))) then
    some (@Bool.true)
   else
    Option.bind (getI seen0 (Go.IntKind.wrap .i64 (i1 + (1 : Int)))) fun (v4 : Int) =>
    some ((@cond Bool @Bool.false @Bool.true (decide (v4 = (10 : Int)))))) fun (v4 : Bool) =>
  some (v4)
 else
  bif (decide (v3 = (10 : Int))) then
   Option.bind (bif (decide ((0 : Int) < i1)) then
     Option.bind (getI seen0 (Go.IntKind.wrap .i64 (i1 - (1 : Int)))) fun (v4 : Int) =>
     some ((@cond Bool @Bool.true (decide (v4 = (13 : Int))) @Bool.false))
    else
     some (@Bool.false)) fun (v4 : Bool) =>
   some (v4)
  else
   Option.bind (bif (decide (v3 = (9 : Int))) then
     some (@Bool.true)
    else
     bif (decide ((32 : Int) ≤ v3)) then
      some ((@cond Bool @Bool.false @Bool.true (@cond Bool @Bool.true (decide (v3 ≤ (126 : Int))) @Bool.false)))
     else
      some ((@cond Bool @Bool.false @Bool.true @Bool.false))) fun (v4 : Bool) =>
   some (v4)
theorem words_may_S (N : Nat) (seen0 : List (Int)) (i1 : Int) : (runK Go.Proofs.Tryd.prog (Ev14 N) 400 22 [(.sl (.int .u8)), (.int .i64)] [.bool] (seen0, i1, ())).run = words_may N seen0 i1 := by kernel_rfl
theorem words_may_C (N : Nat) (seen0 : List (Int)) (i1 : Int) (y : Bool) (h : words_may N seen0 i1 = some y) : CallsK Go.Proofs.Tryd.prog 22 (valA [(.sl (.int .u8)), (.int .i64)] (seen0, i1, ())) (tupV (valR [.bool] y)) := runK_ok hmx (Ev14_ok N _) (okFn_ok (by kernel_rfl)) (by rw [words_may_S]; exact h)
noncomputable def Ev15 (N : Nat) : (R : Type) → Env R := Env.addFn (Ev14 N) 22 (fun R => fnK [(.sl (.int .u8)), (.int .i64)] [.bool] (fun c => words_may N c.1 c.2.1))
theorem Ev15_ok (N : Nat) (R : Type) : EnvOK Go.Proofs.Tryd.prog (Ev15 N R) := EnvOK.addFn hmx (Ev14_ok N R) (Ev14_ok N _) (by kernel_rfl) (fun c => words_may_S N c.1 c.2.1)
noncomputable def Ev16 (N : Nat) : (R : Type) → Env R := Env.addMv (Ev15 N) [(10, 14)]
theorem Ev16_ok (N : Nat) (R : Type) : EnvOK Go.Proofs.Tryd.prog (Ev16 N R) := EnvOK.addMv (Ev15_ok N R) [(10, 14)]
noncomputable def words_Head_L5_I : LI := ⟨49, 0, [(6, 9)], ⟨[(0, .ty (.sl (.int .u8))), (5, .ty (.sl (.int .u8))), (6, .lit (.own 0)), (7, .ty (.int .i64)), (16, .ty (.sl (.int .u8))), (17, .ty (.int .i64)), (18, .ty (.int .i64))], [.own .str 9]⟩, [(.ret, ⟨[(2, .ty (.sl .str)), (3, .ty (.int .i64)), (4, .ty (.int .i64))], []⟩), (.exit 0, ⟨[(0, .ty (.sl (.int .u8)))], []⟩)]⟩
noncomputable def words_Head_L5 (N : Nat) (X : (((List (Int)) × ((List (Int)) × ((Int) × ((List (Int)) × ((Int) × ((Int) × Unit)))))) × ((List (List UInt8)) × Unit)) → Option (((((List (List UInt8)) × ((Int) × ((Int) × Unit))) × Unit) ⊕ (((List (Int)) × Unit) × Unit)))) (b0 : List (Int)) (seen5 : List (Int)) (start7 : Int) (x16 : List (Int)) (x17 : Int) (x18 : Int) (h0 : List (List UInt8)) : Option (((((List (List UInt8)) × ((Int) × ((Int) × Unit))) × Unit) ⊕ (((List (Int)) × Unit) × Unit))) :=
 bif (decide (x18 < x17)) then
  Option.bind (getI x16 x18) fun (v9 : Int) =>
  Option.bind (@words_may N seen5 x18) fun (v10 : Bool) =>
  bif (!v10) then
   some ((.inl ((([] : List ((List UInt8))), ((0 : Int), ((3 : Int), @Unit.unit))), @Unit.unit)))
  else
   bif (!(decide (v9 = (10 : Int)))) then
    (X ((b0, (seen5, (start7, (x16, (x17, ((Go.IntKind.wrap .i64 (x18 + (1 : Int))), @Unit.unit)))))), (h0, @Unit.unit)))
   else
    Option.bind (subI seen5 start7 (Go.IntKind.wrap .i64 (x18 - (1 : Int)))) fun (v11 : (List Int)) =>
    Option.bind (@toBy v11) fun (v12 : (List UInt8)) =>
    bif (decide (v12 = (@Array.toList UInt8 (@List.toArray UInt8 ([] : List (UInt8)))))) then
     some ((.inl ((h0, ((Go.IntKind.wrap .i64 (x18 + (1 : Int))), ((0 : Int), @Unit.unit))), @Unit.unit)))
    else
     bif (roomB ((List.length h0) + (List.length ([v12] : List ((List UInt8))))) 16) then
      (X ((b0, (seen5, ((Go.IntKind.wrap .i64 (x18 + (1 : Int))), (x16, (x17, ((Go.IntKind.wrap .i64 (x18 + (1 : Int))), @Unit.unit)))))), ((h0 ++ ([v12] : List ((List UInt8)))), @Unit.unit)))
     else
      none
 else
  some ((.inr ((b0, @Unit.unit), @Unit.unit)))
noncomputable def words_Head_L5_R (N : Nat) (c : (((List (Int)) × ((List (Int)) × ((Int) × ((List (Int)) × ((Int) × ((Int) × Unit)))))) × ((List (List UInt8)) × Unit))) : Option (((((List (List UInt8)) × ((Int) × ((Int) × Unit))) × Unit) ⊕ (((List (Int)) × Unit) × Unit))) := gl (fun X c => words_Head_L5 N X c.1.1 c.1.2.1 c.1.2.2.1 c.1.2.2.2.1 c.1.2.2.2.2.1 c.1.2.2.2.2.2.1 c.2.1) N c
theorem words_Head_L5_S (N : Nat) (X : (((List (Int)) × ((List (Int)) × ((Int) × ((List (Int)) × ((Int) × ((Int) × Unit)))))) × ((List (List UInt8)) × Unit)) → Option (((((List (List UInt8)) × ((Int) × ((Int) × Unit))) × Unit) ⊕ (((List (Int)) × Unit) × Unit)))) (b0 : List (Int)) (seen5 : List (Int)) (start7 : Int) (x16 : List (Int)) (x17 : Int) (x18 : Int) (h0 : List (List UInt8)) : (roundK Go.Proofs.Tryd.prog (Ev16 N) 400 [10] words_Head_L5_I (loopAt Go.Proofs.Tryd.prog [10] 5) X ((b0, seen5, start7, x16, x17, x18, ()), (h0, ()))).run = words_Head_L5 N X b0 seen5 start7 x16 x17 x18 h0 := by kernel_rfl
noncomputable def Ev17 (N : Nat) : (R : Type) → Env R := Env.addLp (Ev16 N) [10] 0 5 (fun R => lpK Go.Proofs.Tryd.prog words_Head_L5_I (fun X c => words_Head_L5 N X c.1.1 c.1.2.1 c.1.2.2.1 c.1.2.2.2.1 c.1.2.2.2.2.1 c.1.2.2.2.2.2.1 c.2.1) N)
theorem Ev17_ok (N : Nat) (R : Type) : EnvOK Go.Proofs.Tryd.prog (Ev17 N R) := EnvOK.addLp (Ev16_ok N R) (by kernel_rfl) (lpK_ok (li := words_Head_L5_I) (G := fun X c => words_Head_L5 N X c.1.1 c.1.2.1 c.1.2.2.1 c.1.2.2.2.1 c.1.2.2.2.2.1 c.1.2.2.2.2.2.1 c.2.1) hmx (Ev16_ok N _) (by kernel_rfl) loopAt_sub (fun (X : CT words_Head_L5_I.sh → Option (OT words_Head_L5_I.outs)) (c : CT words_Head_L5_I.sh) => words_Head_L5_S N X c.1.1 c.1.2.1 c.1.2.2.1 c.1.2.2.2.1 c.1.2.2.2.2.1 c.1.2.2.2.2.2.1 c.2.1) N)
noncomputable def words_Head (N : Nat) (b0 : List (Int)) : Option ((List (List UInt8)) × (Int) × Int) :=
 Option.bind (takeI b0 (@minI (((List.length b0) : Nat) : Int) (2048 : Int))) fun (v2 : (List Int)) =>
 Option.bind (words_Head_L5_R N ((b0, (v2, ((0 : Int), (v2, ((((List.length v2) : Nat) : Int), ((0 : Int), @Unit.unit)))))), (([] : List ((List UInt8))), @Unit.unit))) fun (v3 : ((((List (List UInt8)) × (Int × (Int × Unit))) × Unit) ⊕ (((List Int) × Unit) × Unit))) =>
 Sum.elim
  (fun (v4 : (((List (List UInt8)) × (Int × (Int × Unit))) × Unit)) =>
  some ((v4.1.1, (v4.1.2.1, v4.1.2.2.1))))
  (fun (v4 : (((List Int) × Unit) × Unit)) =>
  bif (decide ((((List.length v4.1.1) : Nat) : Int) < (2048 : Int))) then
   some ((([] : List ((List UInt8))), ((0 : Int), (4 : Int))))
  else
   some ((([] : List ((List UInt8))), ((0 : Int), (8 : Int))))) v3
theorem words_Head_S (N : Nat) (b0 : List (Int)) : (runK Go.Proofs.Tryd.prog (Ev17 N) 400 10 [(.sl (.int .u8))] [(.sl .str), (.int .i64), (.int .i64)] (b0, ())).run = words_Head N b0 := by kernel_rfl
theorem words_Head_C (N : Nat) (b0 : List (Int)) (y : (List (List UInt8)) × (Int) × Int) (h : words_Head N b0 = some y) : CallsK Go.Proofs.Tryd.prog 10 (valA [(.sl (.int .u8))] (b0, ())) (tupV (valR [(.sl .str), (.int .i64), (.int .i64)] y)) := runK_ok hmx (Ev17_ok N _) (okFn_ok (by kernel_rfl)) (by rw [words_Head_S]; exact h)
noncomputable def Ev18 (N : Nat) : (R : Type) → Env R := Env.addFn (Ev17 N) 10 (fun R => fnK [(.sl (.int .u8))] [(.sl .str), (.int .i64), (.int .i64)] (fun c => words_Head N c.1))
theorem Ev18_ok (N : Nat) (R : Type) : EnvOK Go.Proofs.Tryd.prog (Ev18 N R) := EnvOK.addFn hmx (Ev17_ok N R) (Ev17_ok N _) (by kernel_rfl) (fun c => words_Head_S N c.1)
noncomputable def Ev19 (N : Nat) : (R : Type) → Env R := Env.addMv (Ev18 N) [(12, 10)]
theorem Ev19_ok (N : Nat) (R : Type) : EnvOK Go.Proofs.Tryd.prog (Ev19 N R) := EnvOK.addMv (Ev18_ok N R) [(12, 10)]
noncomputable def Ev20 (N : Nat) : (R : Type) → Env R := Env.addFn (Ev19 N) 76 (fun R => ixK)
theorem Ev20_ok (N : Nat) (R : Type) : EnvOK Go.Proofs.Tryd.prog (Ev20 N R) := EnvOK.addExt (Ev19_ok N R) (ix_ok (fn := Go.Proofs.Tryd.f76) (by kernel_rfl) (by kernel_rfl) (by decide +kernel) (by kernel_rfl) (by kernel_rfl))
noncomputable def words_Fields_L5_I : LI := ⟨41, 0, [(4, 61)], ⟨[(4, .lit (.own 0)), (13, .ty (.sl .str)), (14, .ty (.int .i64)), (15, .ty (.int .i64))], [.own (.pair .str .str) 61]⟩, [(.ret, ⟨[(2, .ty (.sl (.pair .str .str))), (3, .ty (.int .i64))], []⟩), (.exit 0, ⟨[(4, .lit (.own 0))], [.own (.pair .str .str) 61]⟩)]⟩
noncomputable def words_Fields_L5 (N : Nat) (X : (((List (List UInt8)) × ((Int) × ((Int) × Unit))) × ((List ((List UInt8) × (List UInt8))) × Unit)) → Option (((((List ((List UInt8) × (List UInt8))) × ((Int) × Unit)) × Unit) ⊕ (Unit × ((List ((List UInt8) × (List UInt8))) × Unit))))) (x13 : List (List UInt8)) (x14 : Int) (x15 : Int) (h0 : List ((List UInt8) × (List UInt8))) : Option (((((List ((List UInt8) × (List UInt8))) × ((Int) × Unit)) × Unit) ⊕ (Unit × ((List ((List UInt8) × (List UInt8))) × Unit)))) :=
 bif (decide (x15 < x14)) then
  Option.bind (getI x13 x15) fun (v6 : (List UInt8)) =>
  Option.bind (some ((@cond Bool @Bool.false @Bool.true (decide ((@Array.toList UInt8 (@List.toArray UInt8 ([(@OfNat.ofNat UInt8 (58 : Nat) (@UInt8.instOfNat (58 : Nat)))] : List (UInt8)))) = v6))))) fun (v7 : Bool) =>
  bif v7 then
   Option.bind (dropI v6 (Go.IntKind.wrap .i64 ((0 : Int) + (((List.length (@Array.toList UInt8 (@List.toArray UInt8 ([(@OfNat.ofNat UInt8 (58 : Nat) (@UInt8.instOfNat (58 : Nat)))] : List (UInt8))))) : Nat) : Int)))) fun (v8 : (List UInt8)) =>
   Option.bind (@words_Token N (@List.take UInt8 (Int.toNat (0 : Int)) v6)) fun (v9 : Bool) =>
   Option.bind (some ((@cond Bool @Bool.false @Bool.true (!v9)))) fun (v10 : Bool) =>
   bif v10 then
    some ((.inl ((([] : List (((List UInt8) × (List UInt8)))), ((3 : Int), @Unit.unit)), @Unit.unit)))
   else
    Option.bind (@words_Trim N v8) fun (v11 : (List UInt8)) =>
    bif (roomB ((List.length h0) + (List.length ([((@List.take UInt8 (Int.toNat (0 : Int)) v6), v11)] : List (((List UInt8) × (List UInt8)))))) 32) then
     (X ((x13, (x14, ((Go.IntKind.wrap .i64 (x15 + (1 : Int))), @Unit.unit))), ((h0 ++ ([((@List.take UInt8 (Int.toNat (0 : Int)) v6), v11)] : List (((List UInt8) × (List UInt8))))), @Unit.unit)))
    else
     none
  else
   bif (decide ((0 : Int) ≤ (@idxB v6 (((@UInt8.toNat (@OfNat.ofNat UInt8 (58 : Nat) (@UInt8.instOfNat (58 : Nat)))) : Nat) : Int)))) then
    Option.bind (takeI v6 (@idxB v6 (((@UInt8.toNat (@OfNat.ofNat UInt8 (58 : Nat) (@UInt8.instOfNat (58 : Nat)))) : Nat) : Int))) fun (v8 : (List UInt8)) =>
    Option.bind (dropI v6 (Go.IntKind.wrap .i64 ((@idxB v6 (((@UInt8.toNat (@OfNat.ofNat UInt8 (58 : Nat) (@UInt8.instOfNat (58 : Nat)))) : Nat) : Int)) + (((List.length (@Array.toList UInt8 (@List.toArray UInt8 ([(@OfNat.ofNat UInt8 (58 : Nat) (@UInt8.instOfNat (58 : Nat)))] : List (UInt8))))) : Nat) : Int)))) fun (v9 : (List UInt8)) =>
    Option.bind (@words_Token N v8) fun (v10 : Bool) =>
    Option.bind (some ((@cond Bool @Bool.false @Bool.true (!v10)))) fun (v11 : Bool) =>
    bif v11 then
     some ((.inl ((([] : List (((List UInt8) × (List UInt8)))), ((3 : Int), @Unit.unit)), @Unit.unit)))
    else
     Option.bind (@words_Trim N v9) fun (v12 : (List UInt8)) =>
     bif (roomB ((List.length h0) + (List.length ([(v8, v12)] : List (((List UInt8) × (List UInt8)))))) 32) then
      (X ((x13, (x14, ((Go.IntKind.wrap .i64 (x15 + (1 : Int))), @Unit.unit))), ((h0 ++ ([(v8, v12)] : List (((List UInt8) × (List UInt8))))), @Unit.unit)))
     else
      none
   else
    Option.bind (some (@Bool.true)) fun (v8 : Bool) =>
    bif v8 then
     some ((.inl ((([] : List (((List UInt8) × (List UInt8)))), ((3 : Int), @Unit.unit)), @Unit.unit)))
    else
     bif (roomB ((List.length h0) + (List.length ([(v6, (@Go.Lib.trimS (@Array.toList UInt8 (@List.toArray UInt8 ([] : List (UInt8)))) (@Array.toList UInt8 (@List.toArray UInt8 ([(@OfNat.ofNat UInt8 (32 : Nat) (@UInt8.instOfNat (32 : Nat))), (@OfNat.ofNat UInt8 (9 : Nat) (@UInt8.instOfNat (9 : Nat)))] : List (UInt8))))))] : List (((List UInt8) × (List UInt8)))))) 32) then
      (X ((x13, (x14, ((Go.IntKind.wrap .i64 (x15 + (1 : Int))), @Unit.unit))), ((h0 ++ ([(v6, (@Go.Lib.trimS (@Array.toList UInt8 (@List.toArray UInt8 ([] : List (UInt8)))) (@Array.toList UInt8 (@List.toArray UInt8 ([(@OfNat.ofNat UInt8 (32 : Nat) (@UInt8.instOfNat (32 : Nat))), (@OfNat.ofNat UInt8 (9 : Nat) (@UInt8.instOfNat (9 : Nat)))] : List (UInt8))))))] : List (((List UInt8) × (List UInt8))))), @Unit.unit)))
     else
      none
 else
  some ((.inr (@Unit.unit, (h0, @Unit.unit))))
noncomputable def words_Fields_L5_R (N : Nat) (c : (((List (List UInt8)) × ((Int) × ((Int) × Unit))) × ((List ((List UInt8) × (List UInt8))) × Unit))) : Option (((((List ((List UInt8) × (List UInt8))) × ((Int) × Unit)) × Unit) ⊕ (Unit × ((List ((List UInt8) × (List UInt8))) × Unit)))) := gl (fun X c => words_Fields_L5 N X c.1.1 c.1.2.1 c.1.2.2.1 c.2.1) N c
theorem words_Fields_L5_S (N : Nat) (X : (((List (List UInt8)) × ((Int) × ((Int) × Unit))) × ((List ((List UInt8) × (List UInt8))) × Unit)) → Option (((((List ((List UInt8) × (List UInt8))) × ((Int) × Unit)) × Unit) ⊕ (Unit × ((List ((List UInt8) × (List UInt8))) × Unit))))) (x13 : List (List UInt8)) (x14 : Int) (x15 : Int) (h0 : List ((List UInt8) × (List UInt8))) : (roundK Go.Proofs.Tryd.prog (Ev20 N) 400 [12] words_Fields_L5_I (loopAt Go.Proofs.Tryd.prog [12] 5) X ((x13, x14, x15, ()), (h0, ()))).run = words_Fields_L5 N X x13 x14 x15 h0 := by kernel_rfl
noncomputable def Ev21 (N : Nat) : (R : Type) → Env R := Env.addLp (Ev20 N) [12] 0 5 (fun R => lpK Go.Proofs.Tryd.prog words_Fields_L5_I (fun X c => words_Fields_L5 N X c.1.1 c.1.2.1 c.1.2.2.1 c.2.1) N)
theorem Ev21_ok (N : Nat) (R : Type) : EnvOK Go.Proofs.Tryd.prog (Ev21 N R) := EnvOK.addLp (Ev20_ok N R) (by kernel_rfl) (lpK_ok (li := words_Fields_L5_I) (G := fun X c => words_Fields_L5 N X c.1.1 c.1.2.1 c.1.2.2.1 c.2.1) hmx (Ev20_ok N _) (by kernel_rfl) loopAt_sub (fun (X : CT words_Fields_L5_I.sh → Option (OT words_Fields_L5_I.outs)) (c : CT words_Fields_L5_I.sh) => words_Fields_L5_S N X c.1.1 c.1.2.1 c.1.2.2.1 c.2.1) N)
noncomputable def words_Fields (N : Nat) (lines0 : List (List UInt8)) : Option ((List ((List UInt8) × (List UInt8))) × Int) :=
 bif (decide ((32 : Int) < (((List.length lines0) : Nat) : Int))) then
  some ((([] : List (((List UInt8) × (List UInt8)))), (5 : Int)))
 else
  Option.bind (words_Fields_L5_R N ((lines0, ((((List.length lines0) : Nat) : Int), ((0 : Int), @Unit.unit))), (([] : List (((List UInt8) × (List UInt8)))), @Unit.unit))) fun (v2 : ((((List ((List UInt8) × (List UInt8))) × (Int × Unit)) × Unit) ⊕ (Unit × ((List ((List UInt8) × (List UInt8))) × Unit)))) =>
  Sum.elim
   (fun (v3 : (((List ((List UInt8) × (List UInt8))) × (Int × Unit)) × Unit)) =>
   some ((v3.1.1, v3.1.2.1)))
   (fun (v3 : (Unit × ((List ((List UInt8) × (List UInt8))) × Unit))) =>
   some ((v3.2.1, (0 : Int)))) v2
theorem words_Fields_S (N : Nat) (lines0 : List (List UInt8)) : (runK Go.Proofs.Tryd.prog (Ev21 N) 400 12 [(.sl .str)] [(.sl (.pair .str .str)), (.int .i64)] (lines0, ())).run = words_Fields N lines0 := by kernel_rfl
theorem words_Fields_C (N : Nat) (lines0 : List (List UInt8)) (y : (List ((List UInt8) × (List UInt8))) × Int) (h : words_Fields N lines0 = some y) : CallsK Go.Proofs.Tryd.prog 12 (valA [(.sl .str)] (lines0, ())) (tupV (valR [(.sl (.pair .str .str)), (.int .i64)] y)) := runK_ok hmx (Ev21_ok N _) (okFn_ok (by kernel_rfl)) (by rw [words_Fields_S]; exact h)
noncomputable def Ev22 (N : Nat) : (R : Type) → Env R := Env.addFn (Ev21 N) 12 (fun R => fnK [(.sl .str)] [(.sl (.pair .str .str)), (.int .i64)] (fun c => words_Fields N c.1))
theorem Ev22_ok (N : Nat) (R : Type) : EnvOK Go.Proofs.Tryd.prog (Ev22 N R) := EnvOK.addFn hmx (Ev21_ok N R) (Ev21_ok N _) (by kernel_rfl) (fun c => words_Fields_S N c.1)
noncomputable def words_Find_L3_I : LI := ⟨31, 0, [], ⟨[(1, .ty .str), (6, .ty .str), (7, .ty (.int .i64)), (10, .ty (.sl (.pair .str .str))), (11, .ty (.int .i64)), (12, .ty (.int .i64))], []⟩, [(.exit 0, ⟨[(6, .ty .str), (7, .ty (.int .i64))], []⟩)]⟩
noncomputable def words_Find_L3 (N : Nat) (X : (((List UInt8) × ((List UInt8) × ((Int) × ((List ((List UInt8) × (List UInt8))) × ((Int) × ((Int) × Unit)))))) × Unit) → Option ((((List UInt8) × ((Int) × Unit)) × Unit))) (name1 : List UInt8) (value6 : List UInt8) (many7 : Int) (x10 : List ((List UInt8) × (List UInt8))) (x11 : Int) (x12 : Int) : Option ((((List UInt8) × ((Int) × Unit)) × Unit)) :=
 bif (decide (x12 < x11)) then
  Option.bind (getI x10 x12) fun (v8 : ((List UInt8) × (List UInt8))) =>
  Option.bind (@words_Alike N v8.1 name1) fun (v9 : Bool) =>
  bif v9 then
   (X ((name1, (v8.2, ((Go.IntKind.wrap .i64 (many7 + (1 : Int))), (x10, (x11, ((Go.IntKind.wrap .i64 (x12 + (1 : Int))), @Unit.unit)))))), @Unit.unit))
  else
   (X ((name1, (value6, (many7, (x10, (x11, ((Go.IntKind.wrap .i64 (x12 + (1 : Int))), @Unit.unit)))))), @Unit.unit))
 else
  some (((value6, (many7, @Unit.unit)), @Unit.unit))
noncomputable def words_Find_L3_R (N : Nat) (c : (((List UInt8) × ((List UInt8) × ((Int) × ((List ((List UInt8) × (List UInt8))) × ((Int) × ((Int) × Unit)))))) × Unit)) : Option ((((List UInt8) × ((Int) × Unit)) × Unit)) := gl (fun X c => words_Find_L3 N X c.1.1 c.1.2.1 c.1.2.2.1 c.1.2.2.2.1 c.1.2.2.2.2.1 c.1.2.2.2.2.2.1) N c
theorem words_Find_L3_S (N : Nat) (X : (((List UInt8) × ((List UInt8) × ((Int) × ((List ((List UInt8) × (List UInt8))) × ((Int) × ((Int) × Unit)))))) × Unit) → Option ((((List UInt8) × ((Int) × Unit)) × Unit))) (name1 : List UInt8) (value6 : List UInt8) (many7 : Int) (x10 : List ((List UInt8) × (List UInt8))) (x11 : Int) (x12 : Int) : (roundK Go.Proofs.Tryd.prog (Ev22 N) 400 [13] words_Find_L3_I (loopAt Go.Proofs.Tryd.prog [13] 3) X ((name1, value6, many7, x10, x11, x12, ()), ())).run = words_Find_L3 N X name1 value6 many7 x10 x11 x12 := by kernel_rfl
noncomputable def Ev23 (N : Nat) : (R : Type) → Env R := Env.addLp (Ev22 N) [13] 0 3 (fun R => lpK Go.Proofs.Tryd.prog words_Find_L3_I (fun X c => words_Find_L3 N X c.1.1 c.1.2.1 c.1.2.2.1 c.1.2.2.2.1 c.1.2.2.2.2.1 c.1.2.2.2.2.2.1) N)
theorem Ev23_ok (N : Nat) (R : Type) : EnvOK Go.Proofs.Tryd.prog (Ev23 N R) := EnvOK.addLp (Ev22_ok N R) (by kernel_rfl) (lpK_ok (li := words_Find_L3_I) (G := fun X c => words_Find_L3 N X c.1.1 c.1.2.1 c.1.2.2.1 c.1.2.2.2.1 c.1.2.2.2.2.1 c.1.2.2.2.2.2.1) hmx (Ev22_ok N _) (by kernel_rfl) loopAt_sub (fun (X : CT words_Find_L3_I.sh → Option (OT words_Find_L3_I.outs)) (c : CT words_Find_L3_I.sh) => words_Find_L3_S N X c.1.1 c.1.2.1 c.1.2.2.1 c.1.2.2.2.1 c.1.2.2.2.2.1 c.1.2.2.2.2.2.1) N)
noncomputable def words_Find (N : Nat) (l0 : List ((List UInt8) × (List UInt8))) (name1 : List UInt8) : Option ((List UInt8) × Int) :=
 Option.bind (words_Find_L3_R N ((name1, ((@Array.toList UInt8 (@List.toArray UInt8 ([] : List (UInt8)))), ((0 : Int), (l0, ((((List.length l0) : Nat) : Int), ((0 : Int), @Unit.unit)))))), @Unit.unit)) fun (v3 : (((List UInt8) × (Int × Unit)) × Unit)) =>
 bif (decide (v3.1.2.1 = (0 : Int))) then
  some (((@Array.toList UInt8 (@List.toArray UInt8 ([] : List (UInt8)))), (6 : Int)))
 else
  bif (decide (v3.1.2.1 = (1 : Int))) then
   some ((v3.1.1, (0 : Int)))
  else
   some (((@Array.toList UInt8 (@List.toArray UInt8 ([] : List (UInt8)))), (7 : Int)))
theorem words_Find_S (N : Nat) (l0 : List ((List UInt8) × (List UInt8))) (name1 : List UInt8) : (runK Go.Proofs.Tryd.prog (Ev23 N) 400 13 [(.sl (.pair .str .str)), .str] [.str, (.int .i64)] (l0, name1, ())).run = words_Find N l0 name1 := by kernel_rfl
theorem words_Find_C (N : Nat) (l0 : List ((List UInt8) × (List UInt8))) (name1 : List UInt8) (y : (List UInt8) × Int) (h : words_Find N l0 name1 = some y) : CallsK Go.Proofs.Tryd.prog 13 (valA [(.sl (.pair .str .str)), .str] (l0, name1, ())) (tupV (valR [.str, (.int .i64)] y)) := runK_ok hmx (Ev23_ok N _) (okFn_ok (by kernel_rfl)) (by rw [words_Find_S]; exact h)
noncomputable def Ev24 (N : Nat) : (R : Type) → Env R := Env.addFn (Ev23 N) 13 (fun R => fnK [(.sl (.pair .str .str)), .str] [.str, (.int .i64)] (fun c => words_Find N c.1 c.2.1))
theorem Ev24_ok (N : Nat) (R : Type) : EnvOK Go.Proofs.Tryd.prog (Ev24 N R) := EnvOK.addFn hmx (Ev23_ok N R) (Ev23_ok N _) (by kernel_rfl) (fun c => words_Find_S N c.1 c.2.1)
noncomputable def ref14_small (N : Nat) (c0 : Int) : Option (Int) :=
 Option.bind (bif (decide ((65 : Int) ≤ c0)) then
   some ((@cond Bool @Bool.true (decide (c0 ≤ (90 : Int))) @Bool.false))
  else
   some (@Bool.false)) fun (v2 : Bool) =>
 bif v2 then
  some ((Go.IntKind.wrap .u8 (c0 + (32 : Int))))
 else
  some (c0)
theorem ref14_small_S (N : Nat) (c0 : Int) : (runK Go.Proofs.Tryd.prog (Ev24 N) 400 38 [(.int .u8)] [(.int .u8)] (c0, ())).run = ref14_small N c0 := by kernel_rfl
theorem ref14_small_C (N : Nat) (c0 : Int) (y : Int) (h : ref14_small N c0 = some y) : CallsK Go.Proofs.Tryd.prog 38 (valA [(.int .u8)] (c0, ())) (tupV (valR [(.int .u8)] y)) := runK_ok hmx (Ev24_ok N _) (okFn_ok (by kernel_rfl)) (by rw [ref14_small_S]; exact h)
noncomputable def Ev25 (N : Nat) : (R : Type) → Env R := Env.addFn (Ev24 N) 38 (fun R => fnK [(.int .u8)] [(.int .u8)] (fun c => ref14_small N c.1))
theorem Ev25_ok (N : Nat) (R : Type) : EnvOK Go.Proofs.Tryd.prog (Ev25 N R) := EnvOK.addFn hmx (Ev24_ok N R) (Ev24_ok N _) (by kernel_rfl) (fun c => ref14_small_S N c.1)
noncomputable def ref14_Lower_L3_I : LI := ⟨23, 0, [], ⟨[(0, .ty .str), (3, .lit (.own 0)), (4, .ty (.int .i64))], [.own (.int .u8) 5]⟩, [(.exit 0, ⟨[(3, .lit (.own 0))], [.own (.int .u8) 5]⟩)]⟩
noncomputable def ref14_Lower_L3 (N : Nat) (X : (((List UInt8) × ((Int) × Unit)) × ((List (Int)) × Unit)) → Option ((Unit × ((List (Int)) × Unit)))) (s0 : List UInt8) (i4 : Int) (h0 : List (Int)) : Option ((Unit × ((List (Int)) × Unit))) :=
 bif (decide (i4 < (((List.length s0) : Nat) : Int))) then
  Option.bind (getI s0 i4) fun (v5 : UInt8) =>
  Option.bind (@ref14_small N (((@UInt8.toNat v5) : Nat) : Int)) fun (v6 : Int) =>
  bif (decide ((0 : Int) ≤ i4 ∧ i4 < (((List.length h0) : Nat) : Int))) then
   Option.bind (@GetElem?.getElem? (List Int) Nat Int (fun (as7 : (List Int)) => (fun (i8 : Nat) => (@LT.lt Nat @instLTNat i8 (List.length as7)))) (@List.instGetElem?NatLtLength Int) h0 (Int.toNat i4)) fun (v7 : Int) =>
   (X ((s0, ((Go.IntKind.wrap .i64 (i4 + (1 : Int))), @Unit.unit)), ((@List.set Int h0 (Int.toNat i4) v6), @Unit.unit)))
  else
   none
 else
  some ((@Unit.unit, (h0, @Unit.unit)))
noncomputable def ref14_Lower_L3_R (N : Nat) (c : (((List UInt8) × ((Int) × Unit)) × ((List (Int)) × Unit))) : Option ((Unit × ((List (Int)) × Unit))) := gl (fun X c => ref14_Lower_L3 N X c.1.1 c.1.2.1 c.2.1) N c
theorem ref14_Lower_L3_S (N : Nat) (X : (((List UInt8) × ((Int) × Unit)) × ((List (Int)) × Unit)) → Option ((Unit × ((List (Int)) × Unit)))) (s0 : List UInt8) (i4 : Int) (h0 : List (Int)) : (roundK Go.Proofs.Tryd.prog (Ev25 N) 400 [40] ref14_Lower_L3_I (loopAt Go.Proofs.Tryd.prog [40] 3) X ((s0, i4, ()), (h0, ()))).run = ref14_Lower_L3 N X s0 i4 h0 := by kernel_rfl
noncomputable def Ev26 (N : Nat) : (R : Type) → Env R := Env.addLp (Ev25 N) [40] 0 3 (fun R => lpK Go.Proofs.Tryd.prog ref14_Lower_L3_I (fun X c => ref14_Lower_L3 N X c.1.1 c.1.2.1 c.2.1) N)
theorem Ev26_ok (N : Nat) (R : Type) : EnvOK Go.Proofs.Tryd.prog (Ev26 N R) := EnvOK.addLp (Ev25_ok N R) (by kernel_rfl) (lpK_ok (li := ref14_Lower_L3_I) (G := fun X c => ref14_Lower_L3 N X c.1.1 c.1.2.1 c.2.1) hmx (Ev25_ok N _) (by kernel_rfl) loopAt_sub (fun (X : CT ref14_Lower_L3_I.sh → Option (OT ref14_Lower_L3_I.outs)) (c : CT ref14_Lower_L3_I.sh) => ref14_Lower_L3_S N X c.1.1 c.1.2.1 c.2.1) N)
noncomputable def ref14_Lower (N : Nat) (s0 : List UInt8) : Option (List UInt8) :=
 bif ((decide ((0 : Int) ≤ (((List.length s0) : Nat) : Int) ∧ (((List.length s0) : Nat) : Int) ≤ (((List.length s0) : Nat) : Int))) && (roomB (Int.toNat (((List.length s0) : Nat) : Int)) 1)) then
  Option.bind (ref14_Lower_L3_R N ((s0, ((0 : Int), @Unit.unit)), ((@List.replicate Int (Int.toNat (((List.length s0) : Nat) : Int)) (0 : Int)), @Unit.unit))) fun (v2 : (Unit × ((List Int) × Unit))) =>
  Option.bind (@toBy v2.2.1) fun (v3 : (List UInt8)) =>
  some (v3)
 else
  none
theorem ref14_Lower_S (N : Nat) (s0 : List UInt8) : (runK Go.Proofs.Tryd.prog (Ev26 N) 400 40 [.str] [.str] (s0, ())).run = ref14_Lower N s0 := by kernel_rfl
theorem ref14_Lower_C (N : Nat) (s0 : List UInt8) (y : List UInt8) (h : ref14_Lower N s0 = some y) : CallsK Go.Proofs.Tryd.prog 40 (valA [.str] (s0, ())) (tupV (valR [.str] y)) := runK_ok hmx (Ev26_ok N _) (okFn_ok (by kernel_rfl)) (by rw [ref14_Lower_S]; exact h)
noncomputable def Ev27 (N : Nat) : (R : Type) → Env R := Env.addFn (Ev26 N) 40 (fun R => fnK [.str] [.str] (fun c => ref14_Lower N c.1))
theorem Ev27_ok (N : Nat) (R : Type) : EnvOK Go.Proofs.Tryd.prog (Ev27 N R) := EnvOK.addFn hmx (Ev26_ok N R) (Ev26_ok N _) (by kernel_rfl) (fun c => ref14_Lower_S N c.1)
noncomputable def ref14_Alike (N : Nat) (a0 : List UInt8) (b1 : List UInt8) : Option (Bool) :=
 Option.bind (@ref14_Lower N a0) fun (v3 : (List UInt8)) =>
 Option.bind (@ref14_Lower N b1) fun (v4 : (List UInt8)) =>
 some ((decide (v3 = v4)))
theorem ref14_Alike_S (N : Nat) (a0 : List UInt8) (b1 : List UInt8) : (runK Go.Proofs.Tryd.prog (Ev27 N) 400 30 [.str, .str] [.bool] (a0, b1, ())).run = ref14_Alike N a0 b1 := by kernel_rfl
theorem ref14_Alike_C (N : Nat) (a0 : List UInt8) (b1 : List UInt8) (y : Bool) (h : ref14_Alike N a0 b1 = some y) : CallsK Go.Proofs.Tryd.prog 30 (valA [.str, .str] (a0, b1, ())) (tupV (valR [.bool] y)) := runK_ok hmx (Ev27_ok N _) (okFn_ok (by kernel_rfl)) (by rw [ref14_Alike_S]; exact h)
noncomputable def Ev28 (N : Nat) : (R : Type) → Env R := Env.addFn (Ev27 N) 30 (fun R => fnK [.str, .str] [.bool] (fun c => ref14_Alike N c.1 c.2.1))
theorem Ev28_ok (N : Nat) (R : Type) : EnvOK Go.Proofs.Tryd.prog (Ev28 N R) := EnvOK.addFn hmx (Ev27_ok N R) (Ev27_ok N _) (by kernel_rfl) (fun c => ref14_Alike_S N c.1 c.2.1)
noncomputable def ref14_Token_L2_I : LI := ⟨62, 0, [], ⟨[(0, .ty .str), (3, .ty (.int .i64))], []⟩, [(.ret, ⟨[(2, .ty .bool)], []⟩), (.exit 0, ⟨[(0, .ty .str)], []⟩)]⟩
noncomputable def ref14_Token_L2 (N : Nat) (X : (((List UInt8) × ((Int) × Unit)) × Unit) → Option (((((Bool) × Unit) × Unit) ⊕ (((List UInt8) × Unit) × Unit)))) (s0 : List UInt8) (i3 : Int) : Option (((((Bool) × Unit) × Unit) ⊕ (((List UInt8) × Unit) × Unit))) :=
 bif (decide (i3 < (((List.length s0) : Nat) : Int))) then
  Option.bind (getI s0 i3) fun (v4 : UInt8) =>
  Option.bind (@ref14_small N (((@UInt8.toNat v4) : Nat) : Int)) fun (v5 : Int) =>
  Option.bind (bif (decide ((97 : Int) ≤ v5)) then
    some ((@cond Bool @Bool.true (decide (v5 ≤ (122 : Int))) @Bool.false))
   else
    some (@Bool.false)) fun (v6 : Bool) =>
  Option.bind (bif v6 then
    some (@Bool.true)
   else
    bif (decide ((48 : Int) ≤ v5)) then
     some ((@cond Bool @Bool.false @Bool.true (@cond Bool @Bool.true (decide (v5 ≤ (57 : Int))) @Bool.false)))
    else
     some ((@cond Bool @Bool.false @Bool.true @Bool.false))) fun (v7 : Bool) =>
  Option.bind (bif v7 then
    some (@Bool.true)
   else
    some ((@cond Bool @Bool.false @Bool.true (decide (v5 = (45 : Int)))))) fun (v8 : Bool) =>
  Option.bind (bif v8 then
    some (@Bool.true)
   else
    some ((@cond Bool @Bool.false @Bool.true (decide (v5 = (95 : Int)))))) fun (v9 : Bool) =>
  Option.bind (bif v9 then
    some (@Bool.true)
   else
    some ((@cond Bool @Bool.false @Bool.true (decide (v5 = (46 : Int)))))) fun (v10 : Bool) =>
  Option.bind (bif v10 then
    some (@Bool.true)
   else
    some ((@cond Bool @Bool.false @Bool.true (decide (v5 = (123 : Int)))))) fun (v11 : Bool) =>
  Option.bind (bif v11 then
    some (@Bool.true)
   else
    some ((@cond Bool @Bool.false @Bool.true (decide (v5 = (125 : Int)))))) fun (v12 : Bool) =>
  Option.bind (bif v12 then
    some (@Bool.true)
   else
    some ((@cond Bool @Bool.false @Bool.true (decide (v5 = (47 : Int)))))) fun (v13 : Bool) =>
  bif (!v13) then
   some ((.inl ((@Bool.false, @Unit.unit), @Unit.unit)))
  else
   (X ((s0, ((Go.IntKind.wrap .i64 (i3 + (1 : Int))), @Unit.unit)), @Unit.unit))
 else
  some ((.inr ((s0, @Unit.unit), @Unit.unit)))
noncomputable def ref14_Token_L2_R (N : Nat) (c : (((List UInt8) × ((Int) × Unit)) × Unit)) : Option (((((Bool) × Unit) × Unit) ⊕ (((List UInt8) × Unit) × Unit))) := gl (fun X c => ref14_Token_L2 N X c.1.1 c.1.2.1) N c
theorem ref14_Token_L2_S (N : Nat) (X : (((List UInt8) × ((Int) × Unit)) × Unit) → Option (((((Bool) × Unit) × Unit) ⊕ (((List UInt8) × Unit) × Unit)))) (s0 : List UInt8) (i3 : Int) : (roundK Go.Proofs.Tryd.prog (Ev28 N) 400 [28] ref14_Token_L2_I (loopAt Go.Proofs.Tryd.prog [28] 2) X ((s0, i3, ()), ())).run = ref14_Token_L2 N X s0 i3 := by kernel_rfl
noncomputable def Ev29 (N : Nat) : (R : Type) → Env R := Env.addLp (Ev28 N) [28] 0 2 (fun R => lpK Go.Proofs.Tryd.prog ref14_Token_L2_I (fun X c => ref14_Token_L2 N X c.1.1 c.1.2.1) N)
theorem Ev29_ok (N : Nat) (R : Type) : EnvOK Go.Proofs.Tryd.prog (Ev29 N R) := EnvOK.addLp (Ev28_ok N R) (by kernel_rfl) (lpK_ok (li := ref14_Token_L2_I) (G := fun X c => ref14_Token_L2 N X c.1.1 c.1.2.1) hmx (Ev28_ok N _) (by kernel_rfl) loopAt_sub (fun (X : CT ref14_Token_L2_I.sh → Option (OT ref14_Token_L2_I.outs)) (c : CT ref14_Token_L2_I.sh) => ref14_Token_L2_S N X c.1.1 c.1.2.1) N)
noncomputable def ref14_Token (N : Nat) (s0 : List UInt8) : Option (Bool) :=
 Option.bind (ref14_Token_L2_R N ((s0, ((0 : Int), @Unit.unit)), @Unit.unit)) fun (v2 : (((Bool × Unit) × Unit) ⊕ (((List UInt8) × Unit) × Unit))) =>
 Sum.elim
  (fun (v3 : ((Bool × Unit) × Unit)) =>
  some (v3.1.1))
  (fun (v3 : (((List UInt8) × Unit) × Unit)) =>
  bif (decide ((1 : Int) ≤ (((List.length v3.1.1) : Nat) : Int))) then
   Option.bind (some ((@cond Bool @Bool.true (decide ((((List.length v3.1.1) : Nat) : Int) ≤ (64 : Int))) @Bool.false))) fun (v4 : Bool) =>
   some (v4)
  else
   Option.bind (some (@Bool.false)) fun (v4 : Bool) =>
   some (v4)) v2
theorem ref14_Token_S (N : Nat) (s0 : List UInt8) : (runK Go.Proofs.Tryd.prog (Ev29 N) 400 28 [.str] [.bool] (s0, ())).run = ref14_Token N s0 := by kernel_rfl
theorem ref14_Token_C (N : Nat) (s0 : List UInt8) (y : Bool) (h : ref14_Token N s0 = some y) : CallsK Go.Proofs.Tryd.prog 28 (valA [.str] (s0, ())) (tupV (valR [.bool] y)) := runK_ok hmx (Ev29_ok N _) (okFn_ok (by kernel_rfl)) (by rw [ref14_Token_S]; exact h)
noncomputable def Ev30 (N : Nat) : (R : Type) → Env R := Env.addFn (Ev29 N) 28 (fun R => fnK [.str] [.bool] (fun c => ref14_Token N c.1))
theorem Ev30_ok (N : Nat) (R : Type) : EnvOK Go.Proofs.Tryd.prog (Ev30 N R) := EnvOK.addFn hmx (Ev29_ok N R) (Ev29_ok N _) (by kernel_rfl) (fun c => ref14_Token_S N c.1)
noncomputable def ref14_blank (N : Nat) (c0 : Int) : Option (Bool) :=
 Option.bind (bif (decide (c0 = (32 : Int))) then
   some (@Bool.true)
  else
   some ((@cond Bool @Bool.false @Bool.true (decide (c0 = (9 : Int)))))) fun (v2 : Bool) =>
 some (v2)
theorem ref14_blank_S (N : Nat) (c0 : Int) : (runK Go.Proofs.Tryd.prog (Ev30 N) 400 39 [(.int .u8)] [.bool] (c0, ())).run = ref14_blank N c0 := by kernel_rfl
theorem ref14_blank_C (N : Nat) (c0 : Int) (y : Bool) (h : ref14_blank N c0 = some y) : CallsK Go.Proofs.Tryd.prog 39 (valA [(.int .u8)] (c0, ())) (tupV (valR [.bool] y)) := runK_ok hmx (Ev30_ok N _) (okFn_ok (by kernel_rfl)) (by rw [ref14_blank_S]; exact h)
noncomputable def Ev31 (N : Nat) : (R : Type) → Env R := Env.addFn (Ev30 N) 39 (fun R => fnK [(.int .u8)] [.bool] (fun c => ref14_blank N c.1))
theorem Ev31_ok (N : Nat) (R : Type) : EnvOK Go.Proofs.Tryd.prog (Ev31 N R) := EnvOK.addFn hmx (Ev30_ok N R) (Ev30_ok N _) (by kernel_rfl) (fun c => ref14_blank_S N c.1)
noncomputable def ref14_Trim_L1_I : LI := ⟨30, 0, [], ⟨[(0, .ty .str)], []⟩, [(.exit 0, ⟨[(0, .ty .str)], []⟩)]⟩
noncomputable def ref14_Trim_L1 (N : Nat) (X : (((List UInt8) × Unit) × Unit) → Option ((((List UInt8) × Unit) × Unit))) (s0 : List UInt8) : Option ((((List UInt8) × Unit) × Unit)) :=
 bif (decide ((0 : Int) < (((List.length s0) : Nat) : Int))) then
  Option.bind (getI s0 (0 : Int)) fun (v3 : UInt8) =>
  Option.bind (@ref14_blank N (((@UInt8.toNat v3) : Nat) : Int)) fun (v4 : Bool) =>
  bif (@cond Bool @Bool.true v4 @Bool.false) then
   Option.bind (dropI s0 (1 : Int)) fun (v5 : (List UInt8)) =>
   (X ((v5, @Unit.unit), @Unit.unit))
  else
   some (((s0, @Unit.unit), @Unit.unit))
 else
  some (((s0, @Unit.unit), @Unit.unit))
noncomputable def ref14_Trim_L1_R (N : Nat) (c : (((List UInt8) × Unit) × Unit)) : Option ((((List UInt8) × Unit) × Unit)) := gl (fun X c => ref14_Trim_L1 N X c.1.1) N c
theorem ref14_Trim_L1_S (N : Nat) (X : (((List UInt8) × Unit) × Unit) → Option ((((List UInt8) × Unit) × Unit))) (s0 : List UInt8) : (roundK Go.Proofs.Tryd.prog (Ev31 N) 400 [29] ref14_Trim_L1_I (loopAt Go.Proofs.Tryd.prog [29] 1) X ((s0, ()), ())).run = ref14_Trim_L1 N X s0 := by kernel_rfl
noncomputable def Ev32 (N : Nat) : (R : Type) → Env R := Env.addLp (Ev31 N) [29] 0 1 (fun R => lpK Go.Proofs.Tryd.prog ref14_Trim_L1_I (fun X c => ref14_Trim_L1 N X c.1.1) N)
theorem Ev32_ok (N : Nat) (R : Type) : EnvOK Go.Proofs.Tryd.prog (Ev32 N R) := EnvOK.addLp (Ev31_ok N R) (by kernel_rfl) (lpK_ok (li := ref14_Trim_L1_I) (G := fun X c => ref14_Trim_L1 N X c.1.1) hmx (Ev31_ok N _) (by kernel_rfl) loopAt_sub (fun (X : CT ref14_Trim_L1_I.sh → Option (OT ref14_Trim_L1_I.outs)) (c : CT ref14_Trim_L1_I.sh) => ref14_Trim_L1_S N X c.1.1) N)
noncomputable def ref14_Trim_L3_I : LI := ⟨30, 0, [], ⟨[(0, .ty .str)], []⟩, [(.exit 2, ⟨[(0, .ty .str)], []⟩)]⟩
noncomputable def ref14_Trim_L3 (N : Nat) (X : (((List UInt8) × Unit) × Unit) → Option ((((List UInt8) × Unit) × Unit))) (s0 : List UInt8) : Option ((((List UInt8) × Unit) × Unit)) :=
 bif (decide ((0 : Int) < (((List.length s0) : Nat) : Int))) then
  Option.bind (getI s0 (Go.IntKind.wrap .i64 ((((List.length s0) : Nat) : Int) - (1 : Int)))) fun (v3 : UInt8) =>
  Option.bind (@ref14_blank N (((@UInt8.toNat v3) : Nat) : Int)) fun (v4 : Bool) =>
  bif (@cond Bool @Bool.true v4 @Bool.false) then
   Option.bind (takeI s0 (Go.IntKind.wrap .i64 ((((List.length s0) : Nat) : Int) - (1 : Int)))) fun (v5 : (List UInt8)) =>
   (X ((v5, @Unit.unit), @Unit.unit))
  else
   some (((s0, @Unit.unit), @Unit.unit))
 else
  some (((s0, @Unit.unit), @Unit.unit))
noncomputable def ref14_Trim_L3_R (N : Nat) (c : (((List UInt8) × Unit) × Unit)) : Option ((((List UInt8) × Unit) × Unit)) := gl (fun X c => ref14_Trim_L3 N X c.1.1) N c
theorem ref14_Trim_L3_S (N : Nat) (X : (((List UInt8) × Unit) × Unit) → Option ((((List UInt8) × Unit) × Unit))) (s0 : List UInt8) : (roundK Go.Proofs.Tryd.prog (Ev32 N) 400 [29] ref14_Trim_L3_I (loopAt Go.Proofs.Tryd.prog [29] 3) X ((s0, ()), ())).run = ref14_Trim_L3 N X s0 := by kernel_rfl
noncomputable def Ev33 (N : Nat) : (R : Type) → Env R := Env.addLp (Ev32 N) [29] 0 3 (fun R => lpK Go.Proofs.Tryd.prog ref14_Trim_L3_I (fun X c => ref14_Trim_L3 N X c.1.1) N)
theorem Ev33_ok (N : Nat) (R : Type) : EnvOK Go.Proofs.Tryd.prog (Ev33 N R) := EnvOK.addLp (Ev32_ok N R) (by kernel_rfl) (lpK_ok (li := ref14_Trim_L3_I) (G := fun X c => ref14_Trim_L3 N X c.1.1) hmx (Ev32_ok N _) (by kernel_rfl) loopAt_sub (fun (X : CT ref14_Trim_L3_I.sh → Option (OT ref14_Trim_L3_I.outs)) (c : CT ref14_Trim_L3_I.sh) => ref14_Trim_L3_S N X c.1.1) N)
noncomputable def ref14_Trim (N : Nat) (s0 : List UInt8) : Option (List UInt8) :=
 Option.bind (ref14_Trim_L1_R N ((s0, @Unit.unit), @Unit.unit)) fun (v2 : (((List UInt8) × Unit) × Unit)) =>
 Option.bind (ref14_Trim_L3_R N ((v2.1.1, @Unit.unit), @Unit.unit)) fun (v3 : (((List UInt8) × Unit) × Unit)) =>
 some (v3.1.1)
theorem ref14_Trim_S (N : Nat) (s0 : List UInt8) : (runK Go.Proofs.Tryd.prog (Ev33 N) 400 29 [.str] [.str] (s0, ())).run = ref14_Trim N s0 := by kernel_rfl
theorem ref14_Trim_C (N : Nat) (s0 : List UInt8) (y : List UInt8) (h : ref14_Trim N s0 = some y) : CallsK Go.Proofs.Tryd.prog 29 (valA [.str] (s0, ())) (tupV (valR [.str] y)) := runK_ok hmx (Ev33_ok N _) (okFn_ok (by kernel_rfl)) (by rw [ref14_Trim_S]; exact h)
noncomputable def Ev34 (N : Nat) : (R : Type) → Env R := Env.addFn (Ev33 N) 29 (fun R => fnK [.str] [.str] (fun c => ref14_Trim N c.1))
theorem Ev34_ok (N : Nat) (R : Type) : EnvOK Go.Proofs.Tryd.prog (Ev34 N R) := EnvOK.addFn hmx (Ev33_ok N R) (Ev33_ok N _) (by kernel_rfl) (fun c => ref14_Trim_S N c.1)
noncomputable def Ev35 (N : Nat) : (R : Type) → Env R := Env.addMv (Ev34 N) [(15, 14)]
theorem Ev35_ok (N : Nat) (R : Type) : EnvOK Go.Proofs.Tryd.prog (Ev35 N R) := EnvOK.addMv (Ev34_ok N R) [(15, 14)]
noncomputable def ref14_Head_L4_I : LI := ⟨89, 0, [(5, 9)], ⟨[(0, .ty (.sl (.int .u8))), (5, .lit (.own 0)), (6, .ty .str), (7, .ty (.int .i64))], [.own .str 9]⟩, [(.ret, ⟨[(2, .ty (.sl .str)), (3, .ty (.int .i64)), (4, .ty (.int .i64))], []⟩), (.exit 0, ⟨[(0, .ty (.sl (.int .u8)))], []⟩)]⟩
noncomputable def ref14_Head_L4 (N : Nat) (X : (((List (Int)) × ((List UInt8) × ((Int) × Unit))) × ((List (List UInt8)) × Unit)) → Option (((((List (List UInt8)) × ((Int) × ((Int) × Unit))) × Unit) ⊕ (((List (Int)) × Unit) × Unit)))) (b0 : List (Int)) (line6 : List UInt8) (i7 : Int) (h0 : List (List UInt8)) : Option (((((List (List UInt8)) × ((Int) × ((Int) × Unit))) × Unit) ⊕ (((List (Int)) × Unit) × Unit))) :=
 Option.bind (bif (decide (i7 < (((List.length b0) : Nat) : Int))) then
   some ((@cond Bool @Bool.true (decide (i7 < (2048 : Int))) @Bool.false))
  else
   some (@Bool.false)) fun (v6 : Bool) =>
 bif v6 then
  Option.bind (getI b0 i7) fun (v7 : Int) =>
  Option.bind (bif (decide ((32 : Int) ≤ v7)) then
    some ((@cond Bool @Bool.true (decide (v7 ≤ (126 : Int))) @Bool.false))
   else
    some (@Bool.false)) fun (v8 : Bool) =>
  Option.bind (bif v8 then
    some (@Bool.true)
   else
    some ((@cond Bool @Bool.false @Bool.true (decide (v7 = (9 : Int)))))) fun (v9 : Bool) =>
  bif v9 then
   Option.bind (subI b0 i7 (Go.IntKind.wrap .i64 (i7 + (1 : Int)))) fun (v10 : (List Int)) =>
   Option.bind (@toBy v10) fun (v11 : (List UInt8)) =>
   bif (decide (((List.length line6) + (List.length v11)) ≤ @Go.maxLen)) then
    (X ((b0, ((line6 ++ v11), ((Go.IntKind.wrap .i64 (i7 + (1 : Int))), @Unit.unit))), (h0, @Unit.unit)))
   else
    none
  else
   bif (decide (v7 = (13 : Int))) then
    Option.bind (bif (decide ((Go.IntKind.wrap .i64 (i7 + (1 : Int))) = (((List.length b0) : Nat) : Int))) then
      some ((@cond Bool @Bool.true @Bool.true @Bool.false))
     else
      bif (@cond Bool @Bool.false @Bool.true (decide ((Go.IntKind.wrap .i64 (i7 + (1 : Int))) = (2048 : Int)))) then
       some ((@cond Bool @Bool.true @Bool.true @Bool.false))
      else
       Option.bind (getI b0 (Go.IntKind.wrap .i64 (i7 + (1 : Int)))) fun (v10 : Int) =>
       some ((@cond Bool @Bool.true (@cond Bool @Bool.false @Bool.true (decide (v10 = (10 : Int)))) @Bool.false))) fun (v10 : Bool) =>
    bif v10 then
     (X ((b0, (line6, ((Go.IntKind.wrap .i64 (i7 + (1 : Int))), @Unit.unit))), (h0, @Unit.unit)))
    else
     Option.bind (bif (!(decide (v7 = (10 : Int)))) then
       some (@Bool.true)
      else
       some ((@cond Bool @Bool.false @Bool.true (decide (i7 = (0 : Int)))))) fun (v11 : Bool) =>
     Option.bind (bif v11 then
       some (@Bool.true)
      else
       Option.bind (getI b0 (Go.IntKind.wrap .i64 (i7 - (1 : Int)))) fun (v12 : Int) =>
       some ((@cond Bool @Bool.false @Bool.true (!(decide (v12 = (13 : Int))))))) fun (v12 : Bool) =>
     bif v12 then
      some ((.inl ((([] : List ((List UInt8))), ((0 : Int), ((3 : Int), @Unit.unit))), @Unit.unit)))
     else
      bif (decide (line6 = (@Array.toList UInt8 (@List.toArray UInt8 ([] : List (UInt8)))))) then
       some ((.inl ((h0, ((Go.IntKind.wrap .i64 (i7 + (1 : Int))), ((0 : Int), @Unit.unit))), @Unit.unit)))
      else
       bif (roomB ((List.length h0) + (List.length ([line6] : List ((List UInt8))))) 16) then
        (X ((b0, ((@Array.toList UInt8 (@List.toArray UInt8 ([] : List (UInt8)))), ((Go.IntKind.wrap .i64 (i7 + (1 : Int))), @Unit.unit))), ((h0 ++ ([line6] : List ((List UInt8)))), @Unit.unit)))
       else
        none
   else
    Option.bind (some (@Bool.false)) fun (v10 : Bool) =>
    bif v10 then
     (X ((b0, (line6, ((Go.IntKind.wrap .i64 (i7 + (1 : Int))), @Unit.unit))), (h0, @Unit.unit)))
    else
     Option.bind (bif (!(decide (v7 = (10 : Int)))) then
       some (@Bool.true)
      else
       some ((@cond Bool @Bool.false @Bool.true (decide (i7 = (0 : Int)))))) fun (v11 : Bool) =>
     Option.bind (bif v11 then
       some (@Bool.true)
      else
       Option.bind (getI b0 (Go.IntKind.wrap .i64 (i7 - (1 : Int)))) fun (v12 : Int) =>
       some ((@cond Bool @Bool.false @Bool.true (!(decide (v12 = (13 : Int))))))) fun (v12 : Bool) =>
     bif v12 then
      some ((.inl ((([] : List ((List UInt8))), ((0 : Int), ((3 : Int), @Unit.unit))), @Unit.unit)))
     else
      bif (decide (line6 = (@Array.toList UInt8 (@List.toArray UInt8 ([] : List (UInt8)))))) then
       some ((.inl ((h0, ((Go.IntKind.wrap .i64 (i7 + (1 : Int))), ((0 : Int), @Unit.unit))), @Unit.unit)))
      else
       bif (roomB ((List.length h0) + (List.length ([line6] : List ((List UInt8))))) 16) then
        (X ((b0, ((@Array.toList UInt8 (@List.toArray UInt8 ([] : List (UInt8)))), ((Go.IntKind.wrap .i64 (i7 + (1 : Int))), @Unit.unit))), ((h0 ++ ([line6] : List ((List UInt8)))), @Unit.unit)))
       else
        none
 else
  some ((.inr ((b0, @Unit.unit), @Unit.unit)))
noncomputable def ref14_Head_L4_R (N : Nat) (c : (((List (Int)) × ((List UInt8) × ((Int) × Unit))) × ((List (List UInt8)) × Unit))) : Option (((((List (List UInt8)) × ((Int) × ((Int) × Unit))) × Unit) ⊕ (((List (Int)) × Unit) × Unit))) := gl (fun X c => ref14_Head_L4 N X c.1.1 c.1.2.1 c.1.2.2.1 c.2.1) N c
theorem ref14_Head_L4_S (N : Nat) (X : (((List (Int)) × ((List UInt8) × ((Int) × Unit))) × ((List (List UInt8)) × Unit)) → Option (((((List (List UInt8)) × ((Int) × ((Int) × Unit))) × Unit) ⊕ (((List (Int)) × Unit) × Unit)))) (b0 : List (Int)) (line6 : List UInt8) (i7 : Int) (h0 : List (List UInt8)) : (roundK Go.Proofs.Tryd.prog (Ev35 N) 400 [15] ref14_Head_L4_I (loopAt Go.Proofs.Tryd.prog [15] 4) X ((b0, line6, i7, ()), (h0, ()))).run = ref14_Head_L4 N X b0 line6 i7 h0 := by kernel_rfl
noncomputable def Ev36 (N : Nat) : (R : Type) → Env R := Env.addLp (Ev35 N) [15] 0 4 (fun R => lpK Go.Proofs.Tryd.prog ref14_Head_L4_I (fun X c => ref14_Head_L4 N X c.1.1 c.1.2.1 c.1.2.2.1 c.2.1) N)
theorem Ev36_ok (N : Nat) (R : Type) : EnvOK Go.Proofs.Tryd.prog (Ev36 N R) := EnvOK.addLp (Ev35_ok N R) (by kernel_rfl) (lpK_ok (li := ref14_Head_L4_I) (G := fun X c => ref14_Head_L4 N X c.1.1 c.1.2.1 c.1.2.2.1 c.2.1) hmx (Ev35_ok N _) (by kernel_rfl) loopAt_sub (fun (X : CT ref14_Head_L4_I.sh → Option (OT ref14_Head_L4_I.outs)) (c : CT ref14_Head_L4_I.sh) => ref14_Head_L4_S N X c.1.1 c.1.2.1 c.1.2.2.1 c.2.1) N)
noncomputable def ref14_Head (N : Nat) (b0 : List (Int)) : Option ((List (List UInt8)) × (Int) × Int) :=
 Option.bind (ref14_Head_L4_R N ((b0, ((@Array.toList UInt8 (@List.toArray UInt8 ([] : List (UInt8)))), ((0 : Int), @Unit.unit))), (([] : List ((List UInt8))), @Unit.unit))) fun (v2 : ((((List (List UInt8)) × (Int × (Int × Unit))) × Unit) ⊕ (((List Int) × Unit) × Unit))) =>
 Sum.elim
  (fun (v3 : (((List (List UInt8)) × (Int × (Int × Unit))) × Unit)) =>
  some ((v3.1.1, (v3.1.2.1, v3.1.2.2.1))))
  (fun (v3 : (((List Int) × Unit) × Unit)) =>
  bif (decide ((((List.length v3.1.1) : Nat) : Int) < (2048 : Int))) then
   some ((([] : List ((List UInt8))), ((0 : Int), (4 : Int))))
  else
   some ((([] : List ((List UInt8))), ((0 : Int), (8 : Int))))) v2
theorem ref14_Head_S (N : Nat) (b0 : List (Int)) : (runK Go.Proofs.Tryd.prog (Ev36 N) 400 15 [(.sl (.int .u8))] [(.sl .str), (.int .i64), (.int .i64)] (b0, ())).run = ref14_Head N b0 := by kernel_rfl
theorem ref14_Head_C (N : Nat) (b0 : List (Int)) (y : (List (List UInt8)) × (Int) × Int) (h : ref14_Head N b0 = some y) : CallsK Go.Proofs.Tryd.prog 15 (valA [(.sl (.int .u8))] (b0, ())) (tupV (valR [(.sl .str), (.int .i64), (.int .i64)] y)) := runK_ok hmx (Ev36_ok N _) (okFn_ok (by kernel_rfl)) (by rw [ref14_Head_S]; exact h)
noncomputable def Ev37 (N : Nat) : (R : Type) → Env R := Env.addFn (Ev36 N) 15 (fun R => fnK [(.sl (.int .u8))] [(.sl .str), (.int .i64), (.int .i64)] (fun c => ref14_Head N c.1))
theorem Ev37_ok (N : Nat) (R : Type) : EnvOK Go.Proofs.Tryd.prog (Ev37 N R) := EnvOK.addFn hmx (Ev36_ok N R) (Ev36_ok N _) (by kernel_rfl) (fun c => ref14_Head_S N c.1)
noncomputable def ref14_Fields_L8_I : LI := ⟨70, 0, [], ⟨[(0, .ty (.sl .str)), (4, .lit (.own 0)), (5, .ty (.int .i64)), (6, .ty (.int .i64))], [.own (.pair .str .str) 63]⟩, [(.exit 2, ⟨[(0, .ty (.sl .str)), (4, .lit (.own 0)), (5, .ty (.int .i64)), (6, .ty (.int .i64))], [.own (.pair .str .str) 63]⟩)]⟩
noncomputable def ref14_Fields_L8 (N : Nat) (X : (((List (List UInt8)) × ((Int) × ((Int) × Unit))) × ((List ((List UInt8) × (List UInt8))) × Unit)) → Option ((((List (List UInt8)) × ((Int) × ((Int) × Unit))) × ((List ((List UInt8) × (List UInt8))) × Unit)))) (lines0 : List (List UInt8)) (i5 : Int) (x6 : Int) (h0 : List ((List UInt8) × (List UInt8))) : Option ((((List (List UInt8)) × ((Int) × ((Int) × Unit))) × ((List ((List UInt8) × (List UInt8))) × Unit))) :=
 Option.bind (getI lines0 i5) fun (v6 : (List UInt8)) =>
 Option.bind (bif (decide (x6 < (((List.length v6) : Nat) : Int))) then
   Option.bind (getI lines0 i5) fun (v7 : (List UInt8)) =>
   Option.bind (getI v7 x6) fun (v8 : UInt8) =>
   some ((@cond Bool @Bool.true (!(decide ((((@UInt8.toNat v8) : Nat) : Int) = (58 : Int)))) @Bool.false))
  else
   some (@Bool.false)) fun (v7 : Bool) =>
 bif v7 then
  (X ((lines0, (i5, ((Go.IntKind.wrap .i64 (x6 + (1 : Int))), @Unit.unit))), (h0, @Unit.unit)))
 else
  some (((lines0, (i5, (x6, @Unit.unit))), (h0, @Unit.unit)))
noncomputable def ref14_Fields_L8_R (N : Nat) (c : (((List (List UInt8)) × ((Int) × ((Int) × Unit))) × ((List ((List UInt8) × (List UInt8))) × Unit))) : Option ((((List (List UInt8)) × ((Int) × ((Int) × Unit))) × ((List ((List UInt8) × (List UInt8))) × Unit))) := gl (fun X c => ref14_Fields_L8 N X c.1.1 c.1.2.1 c.1.2.2.1 c.2.1) N c
theorem ref14_Fields_L8_S (N : Nat) (X : (((List (List UInt8)) × ((Int) × ((Int) × Unit))) × ((List ((List UInt8) × (List UInt8))) × Unit)) → Option ((((List (List UInt8)) × ((Int) × ((Int) × Unit))) × ((List ((List UInt8) × (List UInt8))) × Unit)))) (lines0 : List (List UInt8)) (i5 : Int) (x6 : Int) (h0 : List ((List UInt8) × (List UInt8))) : (roundK Go.Proofs.Tryd.prog (Ev37 N) 400 [17] ref14_Fields_L8_I (loopAt Go.Proofs.Tryd.prog [17] 8) X ((lines0, i5, x6, ()), (h0, ()))).run = ref14_Fields_L8 N X lines0 i5 x6 h0 := by kernel_rfl
noncomputable def Ev38 (N : Nat) : (R : Type) → Env R := Env.addLp (Ev37 N) [17] 0 8 (fun R => lpK Go.Proofs.Tryd.prog ref14_Fields_L8_I (fun X c => ref14_Fields_L8 N X c.1.1 c.1.2.1 c.1.2.2.1 c.2.1) N)
theorem Ev38_ok (N : Nat) (R : Type) : EnvOK Go.Proofs.Tryd.prog (Ev38 N R) := EnvOK.addLp (Ev37_ok N R) (by kernel_rfl) (lpK_ok (li := ref14_Fields_L8_I) (G := fun X c => ref14_Fields_L8 N X c.1.1 c.1.2.1 c.1.2.2.1 c.2.1) hmx (Ev37_ok N _) (by kernel_rfl) loopAt_sub (fun (X : CT ref14_Fields_L8_I.sh → Option (OT ref14_Fields_L8_I.outs)) (c : CT ref14_Fields_L8_I.sh) => ref14_Fields_L8_S N X c.1.1 c.1.2.1 c.1.2.2.1 c.2.1) N)
noncomputable def ref14_Fields_L5_I : LI := ⟨70, 0, [(4, 63)], ⟨[(0, .ty (.sl .str)), (4, .lit (.own 0)), (5, .ty (.int .i64))], [.own (.pair .str .str) 63]⟩, [(.ret, ⟨[(2, .ty (.sl (.pair .str .str))), (3, .ty (.int .i64))], []⟩), (.exit 0, ⟨[(4, .lit (.own 0))], [.own (.pair .str .str) 63]⟩)]⟩
noncomputable def ref14_Fields_L5 (N : Nat) (X : (((List (List UInt8)) × ((Int) × Unit)) × ((List ((List UInt8) × (List UInt8))) × Unit)) → Option (((((List ((List UInt8) × (List UInt8))) × ((Int) × Unit)) × Unit) ⊕ (Unit × ((List ((List UInt8) × (List UInt8))) × Unit))))) (lines0 : List (List UInt8)) (i5 : Int) (h0 : List ((List UInt8) × (List UInt8))) : Option (((((List ((List UInt8) × (List UInt8))) × ((Int) × Unit)) × Unit) ⊕ (Unit × ((List ((List UInt8) × (List UInt8))) × Unit)))) :=
 bif (decide (i5 < (((List.length lines0) : Nat) : Int))) then
  Option.bind (ref14_Fields_L8_R N ((lines0, (i5, ((0 : Int), @Unit.unit))), (h0, @Unit.unit))) fun (v5 : (((List (List UInt8)) × (Int × (Int × Unit))) × ((List ((List UInt8) × (List UInt8))) × Unit))) =>
  Option.bind (getI v5.1.1 v5.1.2.1) fun (v6 : (List UInt8)) =>
  bif (decide (v5.1.2.2.1 = (((List.length v6) : Nat) : Int))) then
   Option.bind (some (@Bool.true)) fun (v7 : Bool) =>
   bif v7 then
    some ((.inl ((([] : List (((List UInt8) × (List UInt8)))), ((3 : Int), @Unit.unit)), @Unit.unit)))
   else
    Option.bind (getI v5.1.1 v5.1.2.1) fun (v8 : (List UInt8)) =>
    Option.bind (takeI v8 v5.1.2.2.1) fun (v9 : (List UInt8)) =>
    Option.bind (getI v5.1.1 v5.1.2.1) fun (v10 : (List UInt8)) =>
    Option.bind (dropI v10 (Go.IntKind.wrap .i64 (v5.1.2.2.1 + (1 : Int)))) fun (v11 : (List UInt8)) =>
    Option.bind (@ref14_Trim N v11) fun (v12 : (List UInt8)) =>
    bif (roomB ((List.length v5.2.1) + (List.length ([(v9, v12)] : List (((List UInt8) × (List UInt8)))))) 32) then
     (X ((v5.1.1, ((Go.IntKind.wrap .i64 (v5.1.2.1 + (1 : Int))), @Unit.unit)), ((v5.2.1 ++ ([(v9, v12)] : List (((List UInt8) × (List UInt8))))), @Unit.unit)))
    else
     none
  else
   Option.bind (getI v5.1.1 v5.1.2.1) fun (v7 : (List UInt8)) =>
   Option.bind (takeI v7 v5.1.2.2.1) fun (v8 : (List UInt8)) =>
   Option.bind (@ref14_Token N v8) fun (v9 : Bool) =>
   Option.bind (some ((@cond Bool @Bool.false @Bool.true (!v9)))) fun (v10 : Bool) =>
   bif v10 then
    some ((.inl ((([] : List (((List UInt8) × (List UInt8)))), ((3 : Int), @Unit.unit)), @Unit.unit)))
   else
    Option.bind (getI v5.1.1 v5.1.2.1) fun (v11 : (List UInt8)) =>
    Option.bind (takeI v11 v5.1.2.2.1) fun (v12 : (List UInt8)) =>
    Option.bind (getI v5.1.1 v5.1.2.1) fun (v13 : (List UInt8)) =>
    Option.bind (dropI v13 (Go.IntKind.wrap .i64 (v5.1.2.2.1 + (1 : Int)))) fun (v14 : (List UInt8)) =>
    Option.bind (@ref14_Trim N v14) fun (v15 : (List UInt8)) =>
    bif (roomB ((List.length v5.2.1) + (List.length ([(v12, v15)] : List (((List UInt8) × (List UInt8)))))) 32) then
     (X ((v5.1.1, ((Go.IntKind.wrap .i64 (v5.1.2.1 + (1 : Int))), @Unit.unit)), ((v5.2.1 ++ ([(v12, v15)] : List (((List UInt8) × (List UInt8))))), @Unit.unit)))
    else
     none
 else
  some ((.inr (@Unit.unit, (h0, @Unit.unit))))
noncomputable def ref14_Fields_L5_R (N : Nat) (c : (((List (List UInt8)) × ((Int) × Unit)) × ((List ((List UInt8) × (List UInt8))) × Unit))) : Option (((((List ((List UInt8) × (List UInt8))) × ((Int) × Unit)) × Unit) ⊕ (Unit × ((List ((List UInt8) × (List UInt8))) × Unit)))) := gl (fun X c => ref14_Fields_L5 N X c.1.1 c.1.2.1 c.2.1) N c
theorem ref14_Fields_L5_S (N : Nat) (X : (((List (List UInt8)) × ((Int) × Unit)) × ((List ((List UInt8) × (List UInt8))) × Unit)) → Option (((((List ((List UInt8) × (List UInt8))) × ((Int) × Unit)) × Unit) ⊕ (Unit × ((List ((List UInt8) × (List UInt8))) × Unit))))) (lines0 : List (List UInt8)) (i5 : Int) (h0 : List ((List UInt8) × (List UInt8))) : (roundK Go.Proofs.Tryd.prog (Ev38 N) 400 [17] ref14_Fields_L5_I (loopAt Go.Proofs.Tryd.prog [17] 5) X ((lines0, i5, ()), (h0, ()))).run = ref14_Fields_L5 N X lines0 i5 h0 := by kernel_rfl
noncomputable def Ev39 (N : Nat) : (R : Type) → Env R := Env.addLp (Ev38 N) [17] 0 5 (fun R => lpK Go.Proofs.Tryd.prog ref14_Fields_L5_I (fun X c => ref14_Fields_L5 N X c.1.1 c.1.2.1 c.2.1) N)
theorem Ev39_ok (N : Nat) (R : Type) : EnvOK Go.Proofs.Tryd.prog (Ev39 N R) := EnvOK.addLp (Ev38_ok N R) (by kernel_rfl) (lpK_ok (li := ref14_Fields_L5_I) (G := fun X c => ref14_Fields_L5 N X c.1.1 c.1.2.1 c.2.1) hmx (Ev38_ok N _) (by kernel_rfl) loopAt_sub (fun (X : CT ref14_Fields_L5_I.sh → Option (OT ref14_Fields_L5_I.outs)) (c : CT ref14_Fields_L5_I.sh) => ref14_Fields_L5_S N X c.1.1 c.1.2.1 c.2.1) N)
noncomputable def ref14_Fields (N : Nat) (lines0 : List (List UInt8)) : Option ((List ((List UInt8) × (List UInt8))) × Int) :=
 bif (decide ((32 : Int) < (((List.length lines0) : Nat) : Int))) then
  some ((([] : List (((List UInt8) × (List UInt8)))), (5 : Int)))
 else
  Option.bind (ref14_Fields_L5_R N ((lines0, ((0 : Int), @Unit.unit)), (([] : List (((List UInt8) × (List UInt8)))), @Unit.unit))) fun (v2 : ((((List ((List UInt8) × (List UInt8))) × (Int × Unit)) × Unit) ⊕ (Unit × ((List ((List UInt8) × (List UInt8))) × Unit)))) =>
  Sum.elim
   (fun (v3 : (((List ((List UInt8) × (List UInt8))) × (Int × Unit)) × Unit)) =>
   some ((v3.1.1, v3.1.2.1)))
   (fun (v3 : (Unit × ((List ((List UInt8) × (List UInt8))) × Unit))) =>
   some ((v3.2.1, (0 : Int)))) v2
theorem ref14_Fields_S (N : Nat) (lines0 : List (List UInt8)) : (runK Go.Proofs.Tryd.prog (Ev39 N) 400 17 [(.sl .str)] [(.sl (.pair .str .str)), (.int .i64)] (lines0, ())).run = ref14_Fields N lines0 := by kernel_rfl
theorem ref14_Fields_C (N : Nat) (lines0 : List (List UInt8)) (y : (List ((List UInt8) × (List UInt8))) × Int) (h : ref14_Fields N lines0 = some y) : CallsK Go.Proofs.Tryd.prog 17 (valA [(.sl .str)] (lines0, ())) (tupV (valR [(.sl (.pair .str .str)), (.int .i64)] y)) := runK_ok hmx (Ev39_ok N _) (okFn_ok (by kernel_rfl)) (by rw [ref14_Fields_S]; exact h)
noncomputable def Ev40 (N : Nat) : (R : Type) → Env R := Env.addFn (Ev39 N) 17 (fun R => fnK [(.sl .str)] [(.sl (.pair .str .str)), (.int .i64)] (fun c => ref14_Fields N c.1))
theorem Ev40_ok (N : Nat) (R : Type) : EnvOK Go.Proofs.Tryd.prog (Ev40 N R) := EnvOK.addFn hmx (Ev39_ok N R) (Ev39_ok N _) (by kernel_rfl) (fun c => ref14_Fields_S N c.1)
noncomputable def ref14_Find_L3_I : LI := ⟨34, 0, [], ⟨[(0, .ty (.sl (.pair .str .str))), (1, .ty .str), (6, .ty (.int .i64)), (7, .ty .str), (8, .ty (.int .i64))], []⟩, [(.exit 0, ⟨[(6, .ty (.int .i64)), (7, .ty .str)], []⟩)]⟩
noncomputable def ref14_Find_L3 (N : Nat) (X : (((List ((List UInt8) × (List UInt8))) × ((List UInt8) × ((Int) × ((List UInt8) × ((Int) × Unit))))) × Unit) → Option ((((Int) × ((List UInt8) × Unit)) × Unit))) (l0 : List ((List UInt8) × (List UInt8))) (name1 : List UInt8) (many6 : Int) (value7 : List UInt8) (i8 : Int) : Option ((((Int) × ((List UInt8) × Unit)) × Unit)) :=
 bif (decide (i8 < (((List.length l0) : Nat) : Int))) then
  Option.bind (getI l0 i8) fun (v7 : ((List UInt8) × (List UInt8))) =>
  Option.bind (@ref14_Alike N v7.1 name1) fun (v8 : Bool) =>
  bif v8 then
   Option.bind (getI l0 i8) fun (v9 : ((List UInt8) × (List UInt8))) =>
   (X ((l0, (name1, ((Go.IntKind.wrap .i64 (many6 + (1 : Int))), (v9.2, ((Go.IntKind.wrap .i64 (i8 + (1 : Int))), @Unit.unit))))), @Unit.unit))
  else
   (X ((l0, (name1, (many6, (value7, ((Go.IntKind.wrap .i64 (i8 + (1 : Int))), @Unit.unit))))), @Unit.unit))
 else
  some (((many6, (value7, @Unit.unit)), @Unit.unit))
noncomputable def ref14_Find_L3_R (N : Nat) (c : (((List ((List UInt8) × (List UInt8))) × ((List UInt8) × ((Int) × ((List UInt8) × ((Int) × Unit))))) × Unit)) : Option ((((Int) × ((List UInt8) × Unit)) × Unit)) := gl (fun X c => ref14_Find_L3 N X c.1.1 c.1.2.1 c.1.2.2.1 c.1.2.2.2.1 c.1.2.2.2.2.1) N c
theorem ref14_Find_L3_S (N : Nat) (X : (((List ((List UInt8) × (List UInt8))) × ((List UInt8) × ((Int) × ((List UInt8) × ((Int) × Unit))))) × Unit) → Option ((((Int) × ((List UInt8) × Unit)) × Unit))) (l0 : List ((List UInt8) × (List UInt8))) (name1 : List UInt8) (many6 : Int) (value7 : List UInt8) (i8 : Int) : (roundK Go.Proofs.Tryd.prog (Ev40 N) 400 [18] ref14_Find_L3_I (loopAt Go.Proofs.Tryd.prog [18] 3) X ((l0, name1, many6, value7, i8, ()), ())).run = ref14_Find_L3 N X l0 name1 many6 value7 i8 := by kernel_rfl
noncomputable def Ev41 (N : Nat) : (R : Type) → Env R := Env.addLp (Ev40 N) [18] 0 3 (fun R => lpK Go.Proofs.Tryd.prog ref14_Find_L3_I (fun X c => ref14_Find_L3 N X c.1.1 c.1.2.1 c.1.2.2.1 c.1.2.2.2.1 c.1.2.2.2.2.1) N)
theorem Ev41_ok (N : Nat) (R : Type) : EnvOK Go.Proofs.Tryd.prog (Ev41 N R) := EnvOK.addLp (Ev40_ok N R) (by kernel_rfl) (lpK_ok (li := ref14_Find_L3_I) (G := fun X c => ref14_Find_L3 N X c.1.1 c.1.2.1 c.1.2.2.1 c.1.2.2.2.1 c.1.2.2.2.2.1) hmx (Ev40_ok N _) (by kernel_rfl) loopAt_sub (fun (X : CT ref14_Find_L3_I.sh → Option (OT ref14_Find_L3_I.outs)) (c : CT ref14_Find_L3_I.sh) => ref14_Find_L3_S N X c.1.1 c.1.2.1 c.1.2.2.1 c.1.2.2.2.1 c.1.2.2.2.2.1) N)
noncomputable def ref14_Find (N : Nat) (l0 : List ((List UInt8) × (List UInt8))) (name1 : List UInt8) : Option ((List UInt8) × Int) :=
 Option.bind (ref14_Find_L3_R N ((l0, (name1, ((0 : Int), ((@Array.toList UInt8 (@List.toArray UInt8 ([] : List (UInt8)))), ((0 : Int), @Unit.unit))))), @Unit.unit)) fun (v3 : ((Int × ((List UInt8) × Unit)) × Unit)) =>
 bif (decide (v3.1.1 = (0 : Int))) then
  some (((@Array.toList UInt8 (@List.toArray UInt8 ([] : List (UInt8)))), (6 : Int)))
 else
  bif (decide ((1 : Int) < v3.1.1)) then
   some (((@Array.toList UInt8 (@List.toArray UInt8 ([] : List (UInt8)))), (7 : Int)))
  else
   some ((v3.1.2.1, (0 : Int)))
theorem ref14_Find_S (N : Nat) (l0 : List ((List UInt8) × (List UInt8))) (name1 : List UInt8) : (runK Go.Proofs.Tryd.prog (Ev41 N) 400 18 [(.sl (.pair .str .str)), .str] [.str, (.int .i64)] (l0, name1, ())).run = ref14_Find N l0 name1 := by kernel_rfl
theorem ref14_Find_C (N : Nat) (l0 : List ((List UInt8) × (List UInt8))) (name1 : List UInt8) (y : (List UInt8) × Int) (h : ref14_Find N l0 name1 = some y) : CallsK Go.Proofs.Tryd.prog 18 (valA [(.sl (.pair .str .str)), .str] (l0, name1, ())) (tupV (valR [.str, (.int .i64)] y)) := runK_ok hmx (Ev41_ok N _) (okFn_ok (by kernel_rfl)) (by rw [ref14_Find_S]; exact h)
noncomputable def Ev42 (N : Nat) : (R : Type) → Env R := Env.addFn (Ev41 N) 18 (fun R => fnK [(.sl (.pair .str .str)), .str] [.str, (.int .i64)] (fun c => ref14_Find N c.1 c.2.1))
theorem Ev42_ok (N : Nat) (R : Type) : EnvOK Go.Proofs.Tryd.prog (Ev42 N R) := EnvOK.addFn hmx (Ev41_ok N R) (Ev41_ok N _) (by kernel_rfl) (fun c => ref14_Find_S N c.1 c.2.1)
noncomputable def httpp_Reason (N : Nat) (status0 : Int) : Option (List UInt8) :=
 bif (decide (status0 = (200 : Int))) then
  some ((@Array.toList UInt8 (@List.toArray UInt8 ([(@OfNat.ofNat UInt8 (79 : Nat) (@UInt8.instOfNat (79 : Nat))), (@OfNat.ofNat UInt8 (75 : Nat) (@UInt8.instOfNat (75 : Nat)))] : List (UInt8)))))
 else
  bif (decide (status0 = (400 : Int))) then
   some ((@Array.toList UInt8 (@List.toArray UInt8 ([(@OfNat.ofNat UInt8 (66 : Nat) (@UInt8.instOfNat (66 : Nat))), (@OfNat.ofNat UInt8 (97 : Nat) (@UInt8.instOfNat (97 : Nat))), (@OfNat.ofNat UInt8 (100 : Nat) (@UInt8.instOfNat (100 : Nat))), (@OfNat.ofNat UInt8 (32 : Nat) (@UInt8.instOfNat (32 : Nat))), (@OfNat.ofNat UInt8 (82 : Nat) (@UInt8.instOfNat (82 : Nat))), (@OfNat.ofNat UInt8 (101 : Nat) (@UInt8.instOfNat (101 : Nat))), (@OfNat.ofNat UInt8 (113 : Nat) (@UInt8.instOfNat (113 : Nat))), (@OfNat.ofNat UInt8 (117 : Nat) (@UInt8.instOfNat (117 : Nat))), (@OfNat.ofNat UInt8 (101 : Nat) (@UInt8.instOfNat (101 : Nat))), (@OfNat.ofNat UInt8 (115 : Nat) (@UInt8.instOfNat (115 : Nat))), (@OfNat.ofNat UInt8 (116 : Nat) (@UInt8.instOfNat (116 : Nat)))] : List (UInt8)))))
  else
   bif (decide (status0 = (404 : Int))) then
    some ((@Array.toList UInt8 (@List.toArray UInt8 ([(@OfNat.ofNat UInt8 (78 : Nat) (@UInt8.instOfNat (78 : Nat))), (@OfNat.ofNat UInt8 (111 : Nat) (@UInt8.instOfNat (111 : Nat))), (@OfNat.ofNat UInt8 (116 : Nat) (@UInt8.instOfNat (116 : Nat))), (@OfNat.ofNat UInt8 (32 : Nat) (@UInt8.instOfNat (32 : Nat))), (@OfNat.ofNat UInt8 (70 : Nat) (@UInt8.instOfNat (70 : Nat))), (@OfNat.ofNat UInt8 (111 : Nat) (@UInt8.instOfNat (111 : Nat))), (@OfNat.ofNat UInt8 (117 : Nat) (@UInt8.instOfNat (117 : Nat))), (@OfNat.ofNat UInt8 (110 : Nat) (@UInt8.instOfNat (110 : Nat))), (@OfNat.ofNat UInt8 (100 : Nat) (@UInt8.instOfNat (100 : Nat)))] : List (UInt8)))))
   else
    bif (decide (status0 = (405 : Int))) then
     some ((@Array.toList UInt8 (@List.toArray UInt8 ([(@OfNat.ofNat UInt8 (77 : Nat) (@UInt8.instOfNat (77 : Nat))), (@OfNat.ofNat UInt8 (101 : Nat) (@UInt8.instOfNat (101 : Nat))), (@OfNat.ofNat UInt8 (116 : Nat) (@UInt8.instOfNat (116 : Nat))), (@OfNat.ofNat UInt8 (104 : Nat) (@UInt8.instOfNat (104 : Nat))), (@OfNat.ofNat UInt8 (111 : Nat) (@UInt8.instOfNat (111 : Nat))), (@OfNat.ofNat UInt8 (100 : Nat) (@UInt8.instOfNat (100 : Nat))), (@OfNat.ofNat UInt8 (32 : Nat) (@UInt8.instOfNat (32 : Nat))), (@OfNat.ofNat UInt8 (78 : Nat) (@UInt8.instOfNat (78 : Nat))), (@OfNat.ofNat UInt8 (111 : Nat) (@UInt8.instOfNat (111 : Nat))), (@OfNat.ofNat UInt8 (116 : Nat) (@UInt8.instOfNat (116 : Nat))), (@OfNat.ofNat UInt8 (32 : Nat) (@UInt8.instOfNat (32 : Nat))), (@OfNat.ofNat UInt8 (65 : Nat) (@UInt8.instOfNat (65 : Nat))), (@OfNat.ofNat UInt8 (108 : Nat) (@UInt8.instOfNat (108 : Nat))), (@OfNat.ofNat UInt8 (108 : Nat) (@UInt8.instOfNat (108 : Nat))), (@OfNat.ofNat UInt8 (111 : Nat) (@UInt8.instOfNat (111 : Nat))), (@OfNat.ofNat UInt8 (119 : Nat) (@UInt8.instOfNat (119 : Nat))), (@OfNat.ofNat UInt8 (101 : Nat) (@UInt8.instOfNat (101 : Nat))), (@OfNat.ofNat UInt8 (100 : Nat) (@UInt8.instOfNat (100 : Nat)))] : List (UInt8)))))
    else
     bif (decide (status0 = (431 : Int))) then
      some ((@Array.toList UInt8 (@List.toArray UInt8 ([(@OfNat.ofNat UInt8 (82 : Nat) (@UInt8.instOfNat (82 : Nat))), (@OfNat.ofNat UInt8 (101 : Nat) (@UInt8.instOfNat (101 : Nat))), (@OfNat.ofNat UInt8 (113 : Nat) (@UInt8.instOfNat (113 : Nat))), (@OfNat.ofNat UInt8 (117 : Nat) (@UInt8.instOfNat (117 : Nat))), (@OfNat.ofNat UInt8 (101 : Nat) (@UInt8.instOfNat (101 : Nat))), (@OfNat.ofNat UInt8 (115 : Nat) (@UInt8.instOfNat (115 : Nat))), (@OfNat.ofNat UInt8 (116 : Nat) (@UInt8.instOfNat (116 : Nat))), (@OfNat.ofNat UInt8 (32 : Nat) (@UInt8.instOfNat (32 : Nat))), (@OfNat.ofNat UInt8 (72 : Nat) (@UInt8.instOfNat (72 : Nat))), (@OfNat.ofNat UInt8 (101 : Nat) (@UInt8.instOfNat (101 : Nat))), (@OfNat.ofNat UInt8 (97 : Nat) (@UInt8.instOfNat (97 : Nat))), (@OfNat.ofNat UInt8 (100 : Nat) (@UInt8.instOfNat (100 : Nat))), (@OfNat.ofNat UInt8 (101 : Nat) (@UInt8.instOfNat (101 : Nat))), (@OfNat.ofNat UInt8 (114 : Nat) (@UInt8.instOfNat (114 : Nat))), (@OfNat.ofNat UInt8 (32 : Nat) (@UInt8.instOfNat (32 : Nat))), (@OfNat.ofNat UInt8 (70 : Nat) (@UInt8.instOfNat (70 : Nat))), (@OfNat.ofNat UInt8 (105 : Nat) (@UInt8.instOfNat (105 : Nat))), (@OfNat.ofNat UInt8 (101 : Nat) (@UInt8.instOfNat (101 : Nat))), (@OfNat.ofNat UInt8 (108 : Nat) (@UInt8.instOfNat (108 : Nat))), (@OfNat.ofNat UInt8 (100 : Nat) (@UInt8.instOfNat (100 : Nat))), (@OfNat.ofNat UInt8 (115 : Nat) (@UInt8.instOfNat (115 : Nat))), (@OfNat.ofNat UInt8 (32 : Nat) (@UInt8.instOfNat (32 : Nat))), (@OfNat.ofNat UInt8 (84 : Nat) (@UInt8.instOfNat (84 : Nat))), (@OfNat.ofNat UInt8 (111 : Nat) (@UInt8.instOfNat (111 : Nat))), (@OfNat.ofNat UInt8 (111 : Nat) (@UInt8.instOfNat (111 : Nat))), (@OfNat.ofNat UInt8 (32 : Nat) (@UInt8.instOfNat (32 : Nat))), (@OfNat.ofNat UInt8 (76 : Nat) (@UInt8.instOfNat (76 : Nat))), (@OfNat.ofNat UInt8 (97 : Nat) (@UInt8.instOfNat (97 : Nat))), (@OfNat.ofNat UInt8 (114 : Nat) (@UInt8.instOfNat (114 : Nat))), (@OfNat.ofNat UInt8 (103 : Nat) (@UInt8.instOfNat (103 : Nat))), (@OfNat.ofNat UInt8 (101 : Nat) (@UInt8.instOfNat (101 : Nat)))] : List (UInt8)))))
     else
      bif (decide (status0 = (503 : Int))) then
       some ((@Array.toList UInt8 (@List.toArray UInt8 ([(@OfNat.ofNat UInt8 (83 : Nat) (@UInt8.instOfNat (83 : Nat))), (@OfNat.ofNat UInt8 (101 : Nat) (@UInt8.instOfNat (101 : Nat))), (@OfNat.ofNat UInt8 (114 : Nat) (@UInt8.instOfNat (114 : Nat))), (@OfNat.ofNat UInt8 (118 : Nat) (@UInt8.instOfNat (118 : Nat))), (@OfNat.ofNat UInt8 (105 : Nat) (@UInt8.instOfNat (105 : Nat))), (@OfNat.ofNat UInt8 (99 : Nat) (@UInt8.instOfNat (99 : Nat))), (@OfNat.ofNat UInt8 (101 : Nat) (@UInt8.instOfNat (101 : Nat))), (@OfNat.ofNat UInt8 (32 : Nat) (@UInt8.instOfNat (32 : Nat))), (@OfNat.ofNat UInt8 (85 : Nat) (@UInt8.instOfNat (85 : Nat))), (@OfNat.ofNat UInt8 (110 : Nat) (@UInt8.instOfNat (110 : Nat))), (@OfNat.ofNat UInt8 (97 : Nat) (@UInt8.instOfNat (97 : Nat))), (@OfNat.ofNat UInt8 (118 : Nat) (@UInt8.instOfNat (118 : Nat))), (@OfNat.ofNat UInt8 (97 : Nat) (@UInt8.instOfNat (97 : Nat))), (@OfNat.ofNat UInt8 (105 : Nat) (@UInt8.instOfNat (105 : Nat))), (@OfNat.ofNat UInt8 (108 : Nat) (@UInt8.instOfNat (108 : Nat))), (@OfNat.ofNat UInt8 (97 : Nat) (@UInt8.instOfNat (97 : Nat))), (@OfNat.ofNat UInt8 (98 : Nat) (@UInt8.instOfNat (98 : Nat))), (@OfNat.ofNat UInt8 (108 : Nat) (@UInt8.instOfNat (108 : Nat))), (@OfNat.ofNat UInt8 (101 : Nat) (@UInt8.instOfNat (101 : Nat)))] : List (UInt8)))))
      else
       bif (decide (status0 = (505 : Int))) then
        some ((@Array.toList UInt8 (@List.toArray UInt8 ([(@OfNat.ofNat UInt8 (72 : Nat) (@UInt8.instOfNat (72 : Nat))), (@OfNat.ofNat UInt8 (84 : Nat) (@UInt8.instOfNat (84 : Nat))), (@OfNat.ofNat UInt8 (84 : Nat) (@UInt8.instOfNat (84 : Nat))), (@OfNat.ofNat UInt8 (80 : Nat) (@UInt8.instOfNat (80 : Nat))), (@OfNat.ofNat UInt8 (32 : Nat) (@UInt8.instOfNat (32 : Nat))), (@OfNat.ofNat UInt8 (86 : Nat) (@UInt8.instOfNat (86 : Nat))), (@OfNat.ofNat UInt8 (101 : Nat) (@UInt8.instOfNat (101 : Nat))), (@OfNat.ofNat UInt8 (114 : Nat) (@UInt8.instOfNat (114 : Nat))), (@OfNat.ofNat UInt8 (115 : Nat) (@UInt8.instOfNat (115 : Nat))), (@OfNat.ofNat UInt8 (105 : Nat) (@UInt8.instOfNat (105 : Nat))), (@OfNat.ofNat UInt8 (111 : Nat) (@UInt8.instOfNat (111 : Nat))), (@OfNat.ofNat UInt8 (110 : Nat) (@UInt8.instOfNat (110 : Nat))), (@OfNat.ofNat UInt8 (32 : Nat) (@UInt8.instOfNat (32 : Nat))), (@OfNat.ofNat UInt8 (78 : Nat) (@UInt8.instOfNat (78 : Nat))), (@OfNat.ofNat UInt8 (111 : Nat) (@UInt8.instOfNat (111 : Nat))), (@OfNat.ofNat UInt8 (116 : Nat) (@UInt8.instOfNat (116 : Nat))), (@OfNat.ofNat UInt8 (32 : Nat) (@UInt8.instOfNat (32 : Nat))), (@OfNat.ofNat UInt8 (83 : Nat) (@UInt8.instOfNat (83 : Nat))), (@OfNat.ofNat UInt8 (117 : Nat) (@UInt8.instOfNat (117 : Nat))), (@OfNat.ofNat UInt8 (112 : Nat) (@UInt8.instOfNat (112 : Nat))), (@OfNat.ofNat UInt8 (112 : Nat) (@UInt8.instOfNat (112 : Nat))), (@OfNat.ofNat UInt8 (111 : Nat) (@UInt8.instOfNat (111 : Nat))), (@OfNat.ofNat UInt8 (114 : Nat) (@UInt8.instOfNat (114 : Nat))), (@OfNat.ofNat UInt8 (116 : Nat) (@UInt8.instOfNat (116 : Nat))), (@OfNat.ofNat UInt8 (101 : Nat) (@UInt8.instOfNat (101 : Nat))), (@OfNat.ofNat UInt8 (100 : Nat) (@UInt8.instOfNat (100 : Nat)))] : List (UInt8)))))
       else
        some ((@Array.toList UInt8 (@List.toArray UInt8 ([] : List (UInt8)))))
theorem httpp_Reason_S (N : Nat) (status0 : Int) : (runK Go.Proofs.Tryd.prog (Ev42 N) 400 9 [(.int .i64)] [.str] (status0, ())).run = httpp_Reason N status0 := by kernel_rfl
theorem httpp_Reason_C (N : Nat) (status0 : Int) (y : List UInt8) (h : httpp_Reason N status0 = some y) : CallsK Go.Proofs.Tryd.prog 9 (valA [(.int .i64)] (status0, ())) (tupV (valR [.str] y)) := runK_ok hmx (Ev42_ok N _) (okFn_ok (by kernel_rfl)) (by rw [httpp_Reason_S]; exact h)
noncomputable def Ev43 (N : Nat) : (R : Type) → Env R := Env.addFn (Ev42 N) 9 (fun R => fnK [(.int .i64)] [.str] (fun c => httpp_Reason N c.1))
theorem Ev43_ok (N : Nat) (R : Type) : EnvOK Go.Proofs.Tryd.prog (Ev43 N R) := EnvOK.addFn hmx (Ev42_ok N R) (Ev42_ok N _) (by kernel_rfl) (fun c => httpp_Reason_S N c.1)
noncomputable def httpp_may (N : Nat) (status0 : Int) : Option (Bool) :=
 Option.bind (bif (decide ((100 : Int) ≤ status0)) then
   some ((@cond Bool @Bool.true (decide (status0 ≤ (599 : Int))) @Bool.false))
  else
   some (@Bool.false)) fun (v2 : Bool) =>
 some (v2)
theorem httpp_may_S (N : Nat) (status0 : Int) : (runK Go.Proofs.Tryd.prog (Ev43 N) 400 20 [(.int .i64)] [.bool] (status0, ())).run = httpp_may N status0 := by kernel_rfl
theorem httpp_may_C (N : Nat) (status0 : Int) (y : Bool) (h : httpp_may N status0 = some y) : CallsK Go.Proofs.Tryd.prog 20 (valA [(.int .i64)] (status0, ())) (tupV (valR [.bool] y)) := runK_ok hmx (Ev43_ok N _) (okFn_ok (by kernel_rfl)) (by rw [httpp_may_S]; exact h)
noncomputable def Ev44 (N : Nat) : (R : Type) → Env R := Env.addFn (Ev43 N) 20 (fun R => fnK [(.int .i64)] [.bool] (fun c => httpp_may N c.1))
theorem Ev44_ok (N : Nat) (R : Type) : EnvOK Go.Proofs.Tryd.prog (Ev44 N R) := EnvOK.addFn hmx (Ev43_ok N R) (Ev43_ok N _) (by kernel_rfl) (fun c => httpp_may_S N c.1)
noncomputable def httpp_Fine (N : Nat) (status0 : Int) : Option (Bool) :=
 some ((decide (status0 = (200 : Int))))
theorem httpp_Fine_S (N : Nat) (status0 : Int) : (runK Go.Proofs.Tryd.prog (Ev44 N) 400 8 [(.int .i64)] [.bool] (status0, ())).run = httpp_Fine N status0 := by kernel_rfl
theorem httpp_Fine_C (N : Nat) (status0 : Int) (y : Bool) (h : httpp_Fine N status0 = some y) : CallsK Go.Proofs.Tryd.prog 8 (valA [(.int .i64)] (status0, ())) (tupV (valR [.bool] y)) := runK_ok hmx (Ev44_ok N _) (okFn_ok (by kernel_rfl)) (by rw [httpp_Fine_S]; exact h)
noncomputable def Ev45 (N : Nat) : (R : Type) → Env R := Env.addFn (Ev44 N) 8 (fun R => fnK [(.int .i64)] [.bool] (fun c => httpp_Fine N c.1))
theorem Ev45_ok (N : Nat) (R : Type) : EnvOK Go.Proofs.Tryd.prog (Ev45 N R) := EnvOK.addFn hmx (Ev44_ok N R) (Ev44_ok N _) (by kernel_rfl) (fun c => httpp_Fine_S N c.1)
noncomputable def httpp_length (N : Nat) (status0 : Int) : Option (List UInt8) :=
 bif (decide (status0 = (200 : Int))) then
  some ((@Array.toList UInt8 (@List.toArray UInt8 ([(@OfNat.ofNat UInt8 (49 : Nat) (@UInt8.instOfNat (49 : Nat))), (@OfNat.ofNat UInt8 (56 : Nat) (@UInt8.instOfNat (56 : Nat))), (@OfNat.ofNat UInt8 (52 : Nat) (@UInt8.instOfNat (52 : Nat))), (@OfNat.ofNat UInt8 (52 : Nat) (@UInt8.instOfNat (52 : Nat))), (@OfNat.ofNat UInt8 (54 : Nat) (@UInt8.instOfNat (54 : Nat))), (@OfNat.ofNat UInt8 (55 : Nat) (@UInt8.instOfNat (55 : Nat))), (@OfNat.ofNat UInt8 (52 : Nat) (@UInt8.instOfNat (52 : Nat))), (@OfNat.ofNat UInt8 (52 : Nat) (@UInt8.instOfNat (52 : Nat))), (@OfNat.ofNat UInt8 (48 : Nat) (@UInt8.instOfNat (48 : Nat))), (@OfNat.ofNat UInt8 (55 : Nat) (@UInt8.instOfNat (55 : Nat))), (@OfNat.ofNat UInt8 (51 : Nat) (@UInt8.instOfNat (51 : Nat))), (@OfNat.ofNat UInt8 (55 : Nat) (@UInt8.instOfNat (55 : Nat))), (@OfNat.ofNat UInt8 (48 : Nat) (@UInt8.instOfNat (48 : Nat))), (@OfNat.ofNat UInt8 (57 : Nat) (@UInt8.instOfNat (57 : Nat))), (@OfNat.ofNat UInt8 (53 : Nat) (@UInt8.instOfNat (53 : Nat))), (@OfNat.ofNat UInt8 (53 : Nat) (@UInt8.instOfNat (53 : Nat))), (@OfNat.ofNat UInt8 (49 : Nat) (@UInt8.instOfNat (49 : Nat))), (@OfNat.ofNat UInt8 (54 : Nat) (@UInt8.instOfNat (54 : Nat))), (@OfNat.ofNat UInt8 (49 : Nat) (@UInt8.instOfNat (49 : Nat))), (@OfNat.ofNat UInt8 (53 : Nat) (@UInt8.instOfNat (53 : Nat)))] : List (UInt8)))))
 else
  some ((@Array.toList UInt8 (@List.toArray UInt8 ([(@OfNat.ofNat UInt8 (48 : Nat) (@UInt8.instOfNat (48 : Nat)))] : List (UInt8)))))
theorem httpp_length_S (N : Nat) (status0 : Int) : (runK Go.Proofs.Tryd.prog (Ev45 N) 400 14 [(.int .i64)] [.str] (status0, ())).run = httpp_length N status0 := by kernel_rfl
theorem httpp_length_C (N : Nat) (status0 : Int) (y : List UInt8) (h : httpp_length N status0 = some y) : CallsK Go.Proofs.Tryd.prog 14 (valA [(.int .i64)] (status0, ())) (tupV (valR [.str] y)) := runK_ok hmx (Ev45_ok N _) (okFn_ok (by kernel_rfl)) (by rw [httpp_length_S]; exact h)
noncomputable def Ev46 (N : Nat) : (R : Type) → Env R := Env.addFn (Ev45 N) 14 (fun R => fnK [(.int .i64)] [.str] (fun c => httpp_length N c.1))
theorem Ev46_ok (N : Nat) (R : Type) : EnvOK Go.Proofs.Tryd.prog (Ev46 N R) := EnvOK.addFn hmx (Ev45_ok N R) (Ev45_ok N _) (by kernel_rfl) (fun c => httpp_length_S N c.1)
noncomputable def httpp_Lay (N : Nat) (status0 : Int) : Option ((List (Int)) × Int) :=
 Option.bind (@httpp_may N status0) fun (v2 : Bool) =>
 bif (!v2) then
  some ((([] : List (Int)), (1 : Int)))
 else
  Option.bind (@words_Digits N (Go.IntKind.wrap .u64 status0)) fun (v3 : (List UInt8)) =>
  bif (decide (((List.length (@Array.toList UInt8 (@List.toArray UInt8 ([(@OfNat.ofNat UInt8 (72 : Nat) (@UInt8.instOfNat (72 : Nat))), (@OfNat.ofNat UInt8 (84 : Nat) (@UInt8.instOfNat (84 : Nat))), (@OfNat.ofNat UInt8 (84 : Nat) (@UInt8.instOfNat (84 : Nat))), (@OfNat.ofNat UInt8 (80 : Nat) (@UInt8.instOfNat (80 : Nat))), (@OfNat.ofNat UInt8 (47 : Nat) (@UInt8.instOfNat (47 : Nat))), (@OfNat.ofNat UInt8 (49 : Nat) (@UInt8.instOfNat (49 : Nat))), (@OfNat.ofNat UInt8 (46 : Nat) (@UInt8.instOfNat (46 : Nat))), (@OfNat.ofNat UInt8 (49 : Nat) (@UInt8.instOfNat (49 : Nat))), (@OfNat.ofNat UInt8 (32 : Nat) (@UInt8.instOfNat (32 : Nat)))] : List (UInt8))))) + (List.length v3)) ≤ @Go.maxLen)) then
   Option.bind (@httpp_Reason N status0) fun (v4 : (List UInt8)) =>
   bif (!(decide (v4 = (@Array.toList UInt8 (@List.toArray UInt8 ([] : List (UInt8))))))) then
    bif (decide (((List.length (@Array.toList UInt8 (@List.toArray UInt8 ([(@OfNat.ofNat UInt8 (32 : Nat) (@UInt8.instOfNat (32 : Nat)))] : List (UInt8))))) + (List.length v4)) ≤ @Go.maxLen)) then
     bif (decide (((List.length ((@Array.toList UInt8 (@List.toArray UInt8 ([(@OfNat.ofNat UInt8 (72 : Nat) (@UInt8.instOfNat (72 : Nat))), (@OfNat.ofNat UInt8 (84 : Nat) (@UInt8.instOfNat (84 : Nat))), (@OfNat.ofNat UInt8 (84 : Nat) (@UInt8.instOfNat (84 : Nat))), (@OfNat.ofNat UInt8 (80 : Nat) (@UInt8.instOfNat (80 : Nat))), (@OfNat.ofNat UInt8 (47 : Nat) (@UInt8.instOfNat (47 : Nat))), (@OfNat.ofNat UInt8 (49 : Nat) (@UInt8.instOfNat (49 : Nat))), (@OfNat.ofNat UInt8 (46 : Nat) (@UInt8.instOfNat (46 : Nat))), (@OfNat.ofNat UInt8 (49 : Nat) (@UInt8.instOfNat (49 : Nat))), (@OfNat.ofNat UInt8 (32 : Nat) (@UInt8.instOfNat (32 : Nat)))] : List (UInt8)))) ++ v3)) + (List.length ((@Array.toList UInt8 (@List.toArray UInt8 ([(@OfNat.ofNat UInt8 (32 : Nat) (@UInt8.instOfNat (32 : Nat)))] : List (UInt8)))) ++ v4))) ≤ @Go.maxLen)) then
      Option.bind (@httpp_length N status0) fun (v5 : (List UInt8)) =>
      bif (decide (((List.length (@Array.toList UInt8 (@List.toArray UInt8 ([(@OfNat.ofNat UInt8 (13 : Nat) (@UInt8.instOfNat (13 : Nat))), (@OfNat.ofNat UInt8 (10 : Nat) (@UInt8.instOfNat (10 : Nat))), (@OfNat.ofNat UInt8 (67 : Nat) (@UInt8.instOfNat (67 : Nat))), (@OfNat.ofNat UInt8 (111 : Nat) (@UInt8.instOfNat (111 : Nat))), (@OfNat.ofNat UInt8 (110 : Nat) (@UInt8.instOfNat (110 : Nat))), (@OfNat.ofNat UInt8 (116 : Nat) (@UInt8.instOfNat (116 : Nat))), (@OfNat.ofNat UInt8 (101 : Nat) (@UInt8.instOfNat (101 : Nat))), (@OfNat.ofNat UInt8 (110 : Nat) (@UInt8.instOfNat (110 : Nat))), (@OfNat.ofNat UInt8 (116 : Nat) (@UInt8.instOfNat (116 : Nat))), (@OfNat.ofNat UInt8 (45 : Nat) (@UInt8.instOfNat (45 : Nat))), (@OfNat.ofNat UInt8 (76 : Nat) (@UInt8.instOfNat (76 : Nat))), (@OfNat.ofNat UInt8 (101 : Nat) (@UInt8.instOfNat (101 : Nat))), (@OfNat.ofNat UInt8 (110 : Nat) (@UInt8.instOfNat (110 : Nat))), (@OfNat.ofNat UInt8 (103 : Nat) (@UInt8.instOfNat (103 : Nat))), (@OfNat.ofNat UInt8 (116 : Nat) (@UInt8.instOfNat (116 : Nat))), (@OfNat.ofNat UInt8 (104 : Nat) (@UInt8.instOfNat (104 : Nat))), (@OfNat.ofNat UInt8 (58 : Nat) (@UInt8.instOfNat (58 : Nat))), (@OfNat.ofNat UInt8 (32 : Nat) (@UInt8.instOfNat (32 : Nat)))] : List (UInt8))))) + (List.length v5)) ≤ @Go.maxLen)) then
       bif (decide (((List.length ((@Array.toList UInt8 (@List.toArray UInt8 ([(@OfNat.ofNat UInt8 (13 : Nat) (@UInt8.instOfNat (13 : Nat))), (@OfNat.ofNat UInt8 (10 : Nat) (@UInt8.instOfNat (10 : Nat))), (@OfNat.ofNat UInt8 (67 : Nat) (@UInt8.instOfNat (67 : Nat))), (@OfNat.ofNat UInt8 (111 : Nat) (@UInt8.instOfNat (111 : Nat))), (@OfNat.ofNat UInt8 (110 : Nat) (@UInt8.instOfNat (110 : Nat))), (@OfNat.ofNat UInt8 (116 : Nat) (@UInt8.instOfNat (116 : Nat))), (@OfNat.ofNat UInt8 (101 : Nat) (@UInt8.instOfNat (101 : Nat))), (@OfNat.ofNat UInt8 (110 : Nat) (@UInt8.instOfNat (110 : Nat))), (@OfNat.ofNat UInt8 (116 : Nat) (@UInt8.instOfNat (116 : Nat))), (@OfNat.ofNat UInt8 (45 : Nat) (@UInt8.instOfNat (45 : Nat))), (@OfNat.ofNat UInt8 (76 : Nat) (@UInt8.instOfNat (76 : Nat))), (@OfNat.ofNat UInt8 (101 : Nat) (@UInt8.instOfNat (101 : Nat))), (@OfNat.ofNat UInt8 (110 : Nat) (@UInt8.instOfNat (110 : Nat))), (@OfNat.ofNat UInt8 (103 : Nat) (@UInt8.instOfNat (103 : Nat))), (@OfNat.ofNat UInt8 (116 : Nat) (@UInt8.instOfNat (116 : Nat))), (@OfNat.ofNat UInt8 (104 : Nat) (@UInt8.instOfNat (104 : Nat))), (@OfNat.ofNat UInt8 (58 : Nat) (@UInt8.instOfNat (58 : Nat))), (@OfNat.ofNat UInt8 (32 : Nat) (@UInt8.instOfNat (32 : Nat)))] : List (UInt8)))) ++ v5)) + (List.length (@Array.toList UInt8 (@List.toArray UInt8 ([(@OfNat.ofNat UInt8 (13 : Nat) (@UInt8.instOfNat (13 : Nat))), (@OfNat.ofNat UInt8 (10 : Nat) (@UInt8.instOfNat (10 : Nat)))] : List (UInt8)))))) ≤ @Go.maxLen)) then
        bif (decide (((List.length (((@Array.toList UInt8 (@List.toArray UInt8 ([(@OfNat.ofNat UInt8 (13 : Nat) (@UInt8.instOfNat (13 : Nat))), (@OfNat.ofNat UInt8 (10 : Nat) (@UInt8.instOfNat (10 : Nat))), (@OfNat.ofNat UInt8 (67 : Nat) (@UInt8.instOfNat (67 : Nat))), (@OfNat.ofNat UInt8 (111 : Nat) (@UInt8.instOfNat (111 : Nat))), (@OfNat.ofNat UInt8 (110 : Nat) (@UInt8.instOfNat (110 : Nat))), (@OfNat.ofNat UInt8 (116 : Nat) (@UInt8.instOfNat (116 : Nat))), (@OfNat.ofNat UInt8 (101 : Nat) (@UInt8.instOfNat (101 : Nat))), (@OfNat.ofNat UInt8 (110 : Nat) (@UInt8.instOfNat (110 : Nat))), (@OfNat.ofNat UInt8 (116 : Nat) (@UInt8.instOfNat (116 : Nat))), (@OfNat.ofNat UInt8 (45 : Nat) (@UInt8.instOfNat (45 : Nat))), (@OfNat.ofNat UInt8 (76 : Nat) (@UInt8.instOfNat (76 : Nat))), (@OfNat.ofNat UInt8 (101 : Nat) (@UInt8.instOfNat (101 : Nat))), (@OfNat.ofNat UInt8 (110 : Nat) (@UInt8.instOfNat (110 : Nat))), (@OfNat.ofNat UInt8 (103 : Nat) (@UInt8.instOfNat (103 : Nat))), (@OfNat.ofNat UInt8 (116 : Nat) (@UInt8.instOfNat (116 : Nat))), (@OfNat.ofNat UInt8 (104 : Nat) (@UInt8.instOfNat (104 : Nat))), (@OfNat.ofNat UInt8 (58 : Nat) (@UInt8.instOfNat (58 : Nat))), (@OfNat.ofNat UInt8 (32 : Nat) (@UInt8.instOfNat (32 : Nat)))] : List (UInt8)))) ++ v5) ++ (@Array.toList UInt8 (@List.toArray UInt8 ([(@OfNat.ofNat UInt8 (13 : Nat) (@UInt8.instOfNat (13 : Nat))), (@OfNat.ofNat UInt8 (10 : Nat) (@UInt8.instOfNat (10 : Nat)))] : List (UInt8)))))) + (List.length (@Array.toList UInt8 (@List.toArray UInt8 ([(@OfNat.ofNat UInt8 (13 : Nat) (@UInt8.instOfNat (13 : Nat))), (@OfNat.ofNat UInt8 (10 : Nat) (@UInt8.instOfNat (10 : Nat)))] : List (UInt8)))))) ≤ @Go.maxLen)) then
         bif (decide (((List.length (((@Array.toList UInt8 (@List.toArray UInt8 ([(@OfNat.ofNat UInt8 (72 : Nat) (@UInt8.instOfNat (72 : Nat))), (@OfNat.ofNat UInt8 (84 : Nat) (@UInt8.instOfNat (84 : Nat))), (@OfNat.ofNat UInt8 (84 : Nat) (@UInt8.instOfNat (84 : Nat))), (@OfNat.ofNat UInt8 (80 : Nat) (@UInt8.instOfNat (80 : Nat))), (@OfNat.ofNat UInt8 (47 : Nat) (@UInt8.instOfNat (47 : Nat))), (@OfNat.ofNat UInt8 (49 : Nat) (@UInt8.instOfNat (49 : Nat))), (@OfNat.ofNat UInt8 (46 : Nat) (@UInt8.instOfNat (46 : Nat))), (@OfNat.ofNat UInt8 (49 : Nat) (@UInt8.instOfNat (49 : Nat))), (@OfNat.ofNat UInt8 (32 : Nat) (@UInt8.instOfNat (32 : Nat)))] : List (UInt8)))) ++ v3) ++ ((@Array.toList UInt8 (@List.toArray UInt8 ([(@OfNat.ofNat UInt8 (32 : Nat) (@UInt8.instOfNat (32 : Nat)))] : List (UInt8)))) ++ v4))) + (List.length ((((@Array.toList UInt8 (@List.toArray UInt8 ([(@OfNat.ofNat UInt8 (13 : Nat) (@UInt8.instOfNat (13 : Nat))), (@OfNat.ofNat UInt8 (10 : Nat) (@UInt8.instOfNat (10 : Nat))), (@OfNat.ofNat UInt8 (67 : Nat) (@UInt8.instOfNat (67 : Nat))), (@OfNat.ofNat UInt8 (111 : Nat) (@UInt8.instOfNat (111 : Nat))), (@OfNat.ofNat UInt8 (110 : Nat) (@UInt8.instOfNat (110 : Nat))), (@OfNat.ofNat UInt8 (116 : Nat) (@UInt8.instOfNat (116 : Nat))), (@OfNat.ofNat UInt8 (101 : Nat) (@UInt8.instOfNat (101 : Nat))), (@OfNat.ofNat UInt8 (110 : Nat) (@UInt8.instOfNat (110 : Nat))), (@OfNat.ofNat UInt8 (116 : Nat) (@UInt8.instOfNat (116 : Nat))), (@OfNat.ofNat UInt8 (45 : Nat) (@UInt8.instOfNat (45 : Nat))), (@OfNat.ofNat UInt8 (76 : Nat) (@UInt8.instOfNat (76 : Nat))), (@OfNat.ofNat UInt8 (101 : Nat) (@UInt8.instOfNat (101 : Nat))), (@OfNat.ofNat UInt8 (110 : Nat) (@UInt8.instOfNat (110 : Nat))), (@OfNat.ofNat UInt8 (103 : Nat) (@UInt8.instOfNat (103 : Nat))), (@OfNat.ofNat UInt8 (116 : Nat) (@UInt8.instOfNat (116 : Nat))), (@OfNat.ofNat UInt8 (104 : Nat) (@UInt8.instOfNat (104 : Nat))), (@OfNat.ofNat UInt8 (58 : Nat) (@UInt8.instOfNat (58 : Nat))), (@OfNat.ofNat UInt8 (32 : Nat) (@UInt8.instOfNat (32 : Nat)))] : List (UInt8)))) ++ v5) ++ (@Array.toList UInt8 (@List.toArray UInt8 ([(@OfNat.ofNat UInt8 (13 : Nat) (@UInt8.instOfNat (13 : Nat))), (@OfNat.ofNat UInt8 (10 : Nat) (@UInt8.instOfNat (10 : Nat)))] : List (UInt8))))) ++ (@Array.toList UInt8 (@List.toArray UInt8 ([(@OfNat.ofNat UInt8 (13 : Nat) (@UInt8.instOfNat (13 : Nat))), (@OfNat.ofNat UInt8 (10 : Nat) (@UInt8.instOfNat (10 : Nat)))] : List (UInt8))))))) ≤ @Go.maxLen)) then
          bif (roomB (List.length ((((@Array.toList UInt8 (@List.toArray UInt8 ([(@OfNat.ofNat UInt8 (72 : Nat) (@UInt8.instOfNat (72 : Nat))), (@OfNat.ofNat UInt8 (84 : Nat) (@UInt8.instOfNat (84 : Nat))), (@OfNat.ofNat UInt8 (84 : Nat) (@UInt8.instOfNat (84 : Nat))), (@OfNat.ofNat UInt8 (80 : Nat) (@UInt8.instOfNat (80 : Nat))), (@OfNat.ofNat UInt8 (47 : Nat) (@UInt8.instOfNat (47 : Nat))), (@OfNat.ofNat UInt8 (49 : Nat) (@UInt8.instOfNat (49 : Nat))), (@OfNat.ofNat UInt8 (46 : Nat) (@UInt8.instOfNat (46 : Nat))), (@OfNat.ofNat UInt8 (49 : Nat) (@UInt8.instOfNat (49 : Nat))), (@OfNat.ofNat UInt8 (32 : Nat) (@UInt8.instOfNat (32 : Nat)))] : List (UInt8)))) ++ v3) ++ ((@Array.toList UInt8 (@List.toArray UInt8 ([(@OfNat.ofNat UInt8 (32 : Nat) (@UInt8.instOfNat (32 : Nat)))] : List (UInt8)))) ++ v4)) ++ ((((@Array.toList UInt8 (@List.toArray UInt8 ([(@OfNat.ofNat UInt8 (13 : Nat) (@UInt8.instOfNat (13 : Nat))), (@OfNat.ofNat UInt8 (10 : Nat) (@UInt8.instOfNat (10 : Nat))), (@OfNat.ofNat UInt8 (67 : Nat) (@UInt8.instOfNat (67 : Nat))), (@OfNat.ofNat UInt8 (111 : Nat) (@UInt8.instOfNat (111 : Nat))), (@OfNat.ofNat UInt8 (110 : Nat) (@UInt8.instOfNat (110 : Nat))), (@OfNat.ofNat UInt8 (116 : Nat) (@UInt8.instOfNat (116 : Nat))), (@OfNat.ofNat UInt8 (101 : Nat) (@UInt8.instOfNat (101 : Nat))), (@OfNat.ofNat UInt8 (110 : Nat) (@UInt8.instOfNat (110 : Nat))), (@OfNat.ofNat UInt8 (116 : Nat) (@UInt8.instOfNat (116 : Nat))), (@OfNat.ofNat UInt8 (45 : Nat) (@UInt8.instOfNat (45 : Nat))), (@OfNat.ofNat UInt8 (76 : Nat) (@UInt8.instOfNat (76 : Nat))), (@OfNat.ofNat UInt8 (101 : Nat) (@UInt8.instOfNat (101 : Nat))), (@OfNat.ofNat UInt8 (110 : Nat) (@UInt8.instOfNat (110 : Nat))), (@OfNat.ofNat UInt8 (103 : Nat) (@UInt8.instOfNat (103 : Nat))), (@OfNat.ofNat UInt8 (116 : Nat) (@UInt8.instOfNat (116 : Nat))), (@OfNat.ofNat UInt8 (104 : Nat) (@UInt8.instOfNat (104 : Nat))), (@OfNat.ofNat UInt8 (58 : Nat) (@UInt8.instOfNat (58 : Nat))), (@OfNat.ofNat UInt8 (32 : Nat) (@UInt8.instOfNat (32 : Nat)))] : List (UInt8)))) ++ v5) ++ (@Array.toList UInt8 (@List.toArray UInt8 ([(@OfNat.ofNat UInt8 (13 : Nat) (@UInt8.instOfNat (13 : Nat))), (@OfNat.ofNat UInt8 (10 : Nat) (@UInt8.instOfNat (10 : Nat)))] : List (UInt8))))) ++ (@Array.toList UInt8 (@List.toArray UInt8 ([(@OfNat.ofNat UInt8 (13 : Nat) (@UInt8.instOfNat (13 : Nat))), (@OfNat.ofNat UInt8 (10 : Nat) (@UInt8.instOfNat (10 : Nat)))] : List (UInt8))))))) 1) then
           some (((@ofB ((((@Array.toList UInt8 (@List.toArray UInt8 ([(@OfNat.ofNat UInt8 (72 : Nat) (@UInt8.instOfNat (72 : Nat))), (@OfNat.ofNat UInt8 (84 : Nat) (@UInt8.instOfNat (84 : Nat))), (@OfNat.ofNat UInt8 (84 : Nat) (@UInt8.instOfNat (84 : Nat))), (@OfNat.ofNat UInt8 (80 : Nat) (@UInt8.instOfNat (80 : Nat))), (@OfNat.ofNat UInt8 (47 : Nat) (@UInt8.instOfNat (47 : Nat))), (@OfNat.ofNat UInt8 (49 : Nat) (@UInt8.instOfNat (49 : Nat))), (@OfNat.ofNat UInt8 (46 : Nat) (@UInt8.instOfNat (46 : Nat))), (@OfNat.ofNat UInt8 (49 : Nat) (@UInt8.instOfNat (49 : Nat))), (@OfNat.ofNat UInt8 (32 : Nat) (@UInt8.instOfNat (32 : Nat)))] : List (UInt8)))) ++ v3) ++ ((@Array.toList UInt8 (@List.toArray UInt8 ([(@OfNat.ofNat UInt8 (32 : Nat) (@UInt8.instOfNat (32 : Nat)))] : List (UInt8)))) ++ v4)) ++ ((((@Array.toList UInt8 (@List.toArray UInt8 ([(@OfNat.ofNat UInt8 (13 : Nat) (@UInt8.instOfNat (13 : Nat))), (@OfNat.ofNat UInt8 (10 : Nat) (@UInt8.instOfNat (10 : Nat))), (@OfNat.ofNat UInt8 (67 : Nat) (@UInt8.instOfNat (67 : Nat))), (@OfNat.ofNat UInt8 (111 : Nat) (@UInt8.instOfNat (111 : Nat))), (@OfNat.ofNat UInt8 (110 : Nat) (@UInt8.instOfNat (110 : Nat))), (@OfNat.ofNat UInt8 (116 : Nat) (@UInt8.instOfNat (116 : Nat))), (@OfNat.ofNat UInt8 (101 : Nat) (@UInt8.instOfNat (101 : Nat))), (@OfNat.ofNat UInt8 (110 : Nat) (@UInt8.instOfNat (110 : Nat))), (@OfNat.ofNat UInt8 (116 : Nat) (@UInt8.instOfNat (116 : Nat))), (@OfNat.ofNat UInt8 (45 : Nat) (@UInt8.instOfNat (45 : Nat))), (@OfNat.ofNat UInt8 (76 : Nat) (@UInt8.instOfNat (76 : Nat))), (@OfNat.ofNat UInt8 (101 : Nat) (@UInt8.instOfNat (101 : Nat))), (@OfNat.ofNat UInt8 (110 : Nat) (@UInt8.instOfNat (110 : Nat))), (@OfNat.ofNat UInt8 (103 : Nat) (@UInt8.instOfNat (103 : Nat))), (@OfNat.ofNat UInt8 (116 : Nat) (@UInt8.instOfNat (116 : Nat))), (@OfNat.ofNat UInt8 (104 : Nat) (@UInt8.instOfNat (104 : Nat))), (@OfNat.ofNat UInt8 (58 : Nat) (@UInt8.instOfNat (58 : Nat))), (@OfNat.ofNat UInt8 (32 : Nat) (@UInt8.instOfNat (32 : Nat)))] : List (UInt8)))) ++ v5) ++ (@Array.toList UInt8 (@List.toArray UInt8 ([(@OfNat.ofNat UInt8 (13 : Nat) (@UInt8.instOfNat (13 : Nat))), (@OfNat.ofNat UInt8 (10 : Nat) (@UInt8.instOfNat (10 : Nat)))] : List (UInt8))))) ++ (@Array.toList UInt8 (@List.toArray UInt8 ([(@OfNat.ofNat UInt8 (13 : Nat) (@UInt8.instOfNat (13 : Nat))), (@OfNat.ofNat UInt8 (10 : Nat) (@UInt8.instOfNat (10 : Nat)))] : List (UInt8))))))), (0 : Int)))
          else
           none
         else
          none
        else
         none
       else
        none
      else
       none
     else
      none
    else
     none
   else
    Option.bind (@httpp_length N status0) fun (v5 : (List UInt8)) =>
    bif (decide (((List.length (@Array.toList UInt8 (@List.toArray UInt8 ([(@OfNat.ofNat UInt8 (13 : Nat) (@UInt8.instOfNat (13 : Nat))), (@OfNat.ofNat UInt8 (10 : Nat) (@UInt8.instOfNat (10 : Nat))), (@OfNat.ofNat UInt8 (67 : Nat) (@UInt8.instOfNat (67 : Nat))), (@OfNat.ofNat UInt8 (111 : Nat) (@UInt8.instOfNat (111 : Nat))), (@OfNat.ofNat UInt8 (110 : Nat) (@UInt8.instOfNat (110 : Nat))), (@OfNat.ofNat UInt8 (116 : Nat) (@UInt8.instOfNat (116 : Nat))), (@OfNat.ofNat UInt8 (101 : Nat) (@UInt8.instOfNat (101 : Nat))), (@OfNat.ofNat UInt8 (110 : Nat) (@UInt8.instOfNat (110 : Nat))), (@OfNat.ofNat UInt8 (116 : Nat) (@UInt8.instOfNat (116 : Nat))), (@OfNat.ofNat UInt8 (45 : Nat) (@UInt8.instOfNat (45 : Nat))), (@OfNat.ofNat UInt8 (76 : Nat) (@UInt8.instOfNat (76 : Nat))), (@OfNat.ofNat UInt8 (101 : Nat) (@UInt8.instOfNat (101 : Nat))), (@OfNat.ofNat UInt8 (110 : Nat) (@UInt8.instOfNat (110 : Nat))), (@OfNat.ofNat UInt8 (103 : Nat) (@UInt8.instOfNat (103 : Nat))), (@OfNat.ofNat UInt8 (116 : Nat) (@UInt8.instOfNat (116 : Nat))), (@OfNat.ofNat UInt8 (104 : Nat) (@UInt8.instOfNat (104 : Nat))), (@OfNat.ofNat UInt8 (58 : Nat) (@UInt8.instOfNat (58 : Nat))), (@OfNat.ofNat UInt8 (32 : Nat) (@UInt8.instOfNat (32 : Nat)))] : List (UInt8))))) + (List.length v5)) ≤ @Go.maxLen)) then
     bif (decide (((List.length ((@Array.toList UInt8 (@List.toArray UInt8 ([(@OfNat.ofNat UInt8 (13 : Nat) (@UInt8.instOfNat (13 : Nat))), (@OfNat.ofNat UInt8 (10 : Nat) (@UInt8.instOfNat (10 : Nat))), (@OfNat.ofNat UInt8 (67 : Nat) (@UInt8.instOfNat (67 : Nat))), (@OfNat.ofNat UInt8 (111 : Nat) (@UInt8.instOfNat (111 : Nat))), (@OfNat.ofNat UInt8 (110 : Nat) (@UInt8.instOfNat (110 : Nat))), (@OfNat.ofNat UInt8 (116 : Nat) (@UInt8.instOfNat (116 : Nat))), (@OfNat.ofNat UInt8 (101 : Nat) (@UInt8.instOfNat (101 : Nat))), (@OfNat.ofNat UInt8 (110 : Nat) (@UInt8.instOfNat (110 : Nat))), (@OfNat.ofNat UInt8 (116 : Nat) (@UInt8.instOfNat (116 : Nat))), (@OfNat.ofNat UInt8 (45 : Nat) (@UInt8.instOfNat (45 : Nat))), (@OfNat.ofNat UInt8 (76 : Nat) (@UInt8.instOfNat (76 : Nat))), (@OfNat.ofNat UInt8 (101 : Nat) (@UInt8.instOfNat (101 : Nat))), (@OfNat.ofNat UInt8 (110 : Nat) (@UInt8.instOfNat (110 : Nat))), (@OfNat.ofNat UInt8 (103 : Nat) (@UInt8.instOfNat (103 : Nat))), (@OfNat.ofNat UInt8 (116 : Nat) (@UInt8.instOfNat (116 : Nat))), (@OfNat.ofNat UInt8 (104 : Nat) (@UInt8.instOfNat (104 : Nat))), (@OfNat.ofNat UInt8 (58 : Nat) (@UInt8.instOfNat (58 : Nat))), (@OfNat.ofNat UInt8 (32 : Nat) (@UInt8.instOfNat (32 : Nat)))] : List (UInt8)))) ++ v5)) + (List.length (@Array.toList UInt8 (@List.toArray UInt8 ([(@OfNat.ofNat UInt8 (13 : Nat) (@UInt8.instOfNat (13 : Nat))), (@OfNat.ofNat UInt8 (10 : Nat) (@UInt8.instOfNat (10 : Nat)))] : List (UInt8)))))) ≤ @Go.maxLen)) then
      bif (decide (((List.length (((@Array.toList UInt8 (@List.toArray UInt8 ([(@OfNat.ofNat UInt8 (13 : Nat) (@UInt8.instOfNat (13 : Nat))), (@OfNat.ofNat UInt8 (10 : Nat) (@UInt8.instOfNat (10 : Nat))), (@OfNat.ofNat UInt8 (67 : Nat) (@UInt8.instOfNat (67 : Nat))), (@OfNat.ofNat UInt8 (111 : Nat) (@UInt8.instOfNat (111 : Nat))), (@OfNat.ofNat UInt8 (110 : Nat) (@UInt8.instOfNat (110 : Nat))), (@OfNat.ofNat UInt8 (116 : Nat) (@UInt8.instOfNat (116 : Nat))), (@OfNat.ofNat UInt8 (101 : Nat) (@UInt8.instOfNat (101 : Nat))), (@OfNat.ofNat UInt8 (110 : Nat) (@UInt8.instOfNat (110 : Nat))), (@OfNat.ofNat UInt8 (116 : Nat) (@UInt8.instOfNat (116 : Nat))), (@OfNat.ofNat UInt8 (45 : Nat) (@UInt8.instOfNat (45 : Nat))), (@OfNat.ofNat UInt8 (76 : Nat) (@UInt8.instOfNat (76 : Nat))), (@OfNat.ofNat UInt8 (101 : Nat) (@UInt8.instOfNat (101 : Nat))), (@OfNat.ofNat UInt8 (110 : Nat) (@UInt8.instOfNat (110 : Nat))), (@OfNat.ofNat UInt8 (103 : Nat) (@UInt8.instOfNat (103 : Nat))), (@OfNat.ofNat UInt8 (116 : Nat) (@UInt8.instOfNat (116 : Nat))), (@OfNat.ofNat UInt8 (104 : Nat) (@UInt8.instOfNat (104 : Nat))), (@OfNat.ofNat UInt8 (58 : Nat) (@UInt8.instOfNat (58 : Nat))), (@OfNat.ofNat UInt8 (32 : Nat) (@UInt8.instOfNat (32 : Nat)))] : List (UInt8)))) ++ v5) ++ (@Array.toList UInt8 (@List.toArray UInt8 ([(@OfNat.ofNat UInt8 (13 : Nat) (@UInt8.instOfNat (13 : Nat))), (@OfNat.ofNat UInt8 (10 : Nat) (@UInt8.instOfNat (10 : Nat)))] : List (UInt8)))))) + (List.length (@Array.toList UInt8 (@List.toArray UInt8 ([(@OfNat.ofNat UInt8 (13 : Nat) (@UInt8.instOfNat (13 : Nat))), (@OfNat.ofNat UInt8 (10 : Nat) (@UInt8.instOfNat (10 : Nat)))] : List (UInt8)))))) ≤ @Go.maxLen)) then
       bif (decide (((List.length ((@Array.toList UInt8 (@List.toArray UInt8 ([(@OfNat.ofNat UInt8 (72 : Nat) (@UInt8.instOfNat (72 : Nat))), (@OfNat.ofNat UInt8 (84 : Nat) (@UInt8.instOfNat (84 : Nat))), (@OfNat.ofNat UInt8 (84 : Nat) (@UInt8.instOfNat (84 : Nat))), (@OfNat.ofNat UInt8 (80 : Nat) (@UInt8.instOfNat (80 : Nat))), (@OfNat.ofNat UInt8 (47 : Nat) (@UInt8.instOfNat (47 : Nat))), (@OfNat.ofNat UInt8 (49 : Nat) (@UInt8.instOfNat (49 : Nat))), (@OfNat.ofNat UInt8 (46 : Nat) (@UInt8.instOfNat (46 : Nat))), (@OfNat.ofNat UInt8 (49 : Nat) (@UInt8.instOfNat (49 : Nat))), (@OfNat.ofNat UInt8 (32 : Nat) (@UInt8.instOfNat (32 : Nat)))] : List (UInt8)))) ++ v3)) + (List.length ((((@Array.toList UInt8 (@List.toArray UInt8 ([(@OfNat.ofNat UInt8 (13 : Nat) (@UInt8.instOfNat (13 : Nat))), (@OfNat.ofNat UInt8 (10 : Nat) (@UInt8.instOfNat (10 : Nat))), (@OfNat.ofNat UInt8 (67 : Nat) (@UInt8.instOfNat (67 : Nat))), (@OfNat.ofNat UInt8 (111 : Nat) (@UInt8.instOfNat (111 : Nat))), (@OfNat.ofNat UInt8 (110 : Nat) (@UInt8.instOfNat (110 : Nat))), (@OfNat.ofNat UInt8 (116 : Nat) (@UInt8.instOfNat (116 : Nat))), (@OfNat.ofNat UInt8 (101 : Nat) (@UInt8.instOfNat (101 : Nat))), (@OfNat.ofNat UInt8 (110 : Nat) (@UInt8.instOfNat (110 : Nat))), (@OfNat.ofNat UInt8 (116 : Nat) (@UInt8.instOfNat (116 : Nat))), (@OfNat.ofNat UInt8 (45 : Nat) (@UInt8.instOfNat (45 : Nat))), (@OfNat.ofNat UInt8 (76 : Nat) (@UInt8.instOfNat (76 : Nat))), (@OfNat.ofNat UInt8 (101 : Nat) (@UInt8.instOfNat (101 : Nat))), (@OfNat.ofNat UInt8 (110 : Nat) (@UInt8.instOfNat (110 : Nat))), (@OfNat.ofNat UInt8 (103 : Nat) (@UInt8.instOfNat (103 : Nat))), (@OfNat.ofNat UInt8 (116 : Nat) (@UInt8.instOfNat (116 : Nat))), (@OfNat.ofNat UInt8 (104 : Nat) (@UInt8.instOfNat (104 : Nat))), (@OfNat.ofNat UInt8 (58 : Nat) (@UInt8.instOfNat (58 : Nat))), (@OfNat.ofNat UInt8 (32 : Nat) (@UInt8.instOfNat (32 : Nat)))] : List (UInt8)))) ++ v5) ++ (@Array.toList UInt8 (@List.toArray UInt8 ([(@OfNat.ofNat UInt8 (13 : Nat) (@UInt8.instOfNat (13 : Nat))), (@OfNat.ofNat UInt8 (10 : Nat) (@UInt8.instOfNat (10 : Nat)))] : List (UInt8))))) ++ (@Array.toList UInt8 (@List.toArray UInt8 ([(@OfNat.ofNat UInt8 (13 : Nat) (@UInt8.instOfNat (13 : Nat))), (@OfNat.ofNat UInt8 (10 : Nat) (@UInt8.instOfNat (10 : Nat)))] : List (UInt8))))))) ≤ @Go.maxLen)) then
        bif (roomB (List.length (((@Array.toList UInt8 (@List.toArray UInt8 ([(@OfNat.ofNat UInt8 (72 : Nat) (@UInt8.instOfNat (72 : Nat))), (@OfNat.ofNat UInt8 (84 : Nat) (@UInt8.instOfNat (84 : Nat))), (@OfNat.ofNat UInt8 (84 : Nat) (@UInt8.instOfNat (84 : Nat))), (@OfNat.ofNat UInt8 (80 : Nat) (@UInt8.instOfNat (80 : Nat))), (@OfNat.ofNat UInt8 (47 : Nat) (@UInt8.instOfNat (47 : Nat))), (@OfNat.ofNat UInt8 (49 : Nat) (@UInt8.instOfNat (49 : Nat))), (@OfNat.ofNat UInt8 (46 : Nat) (@UInt8.instOfNat (46 : Nat))), (@OfNat.ofNat UInt8 (49 : Nat) (@UInt8.instOfNat (49 : Nat))), (@OfNat.ofNat UInt8 (32 : Nat) (@UInt8.instOfNat (32 : Nat)))] : List (UInt8)))) ++ v3) ++ ((((@Array.toList UInt8 (@List.toArray UInt8 ([(@OfNat.ofNat UInt8 (13 : Nat) (@UInt8.instOfNat (13 : Nat))), (@OfNat.ofNat UInt8 (10 : Nat) (@UInt8.instOfNat (10 : Nat))), (@OfNat.ofNat UInt8 (67 : Nat) (@UInt8.instOfNat (67 : Nat))), (@OfNat.ofNat UInt8 (111 : Nat) (@UInt8.instOfNat (111 : Nat))), (@OfNat.ofNat UInt8 (110 : Nat) (@UInt8.instOfNat (110 : Nat))), (@OfNat.ofNat UInt8 (116 : Nat) (@UInt8.instOfNat (116 : Nat))), (@OfNat.ofNat UInt8 (101 : Nat) (@UInt8.instOfNat (101 : Nat))), (@OfNat.ofNat UInt8 (110 : Nat) (@UInt8.instOfNat (110 : Nat))), (@OfNat.ofNat UInt8 (116 : Nat) (@UInt8.instOfNat (116 : Nat))), (@OfNat.ofNat UInt8 (45 : Nat) (@UInt8.instOfNat (45 : Nat))), (@OfNat.ofNat UInt8 (76 : Nat) (@UInt8.instOfNat (76 : Nat))), (@OfNat.ofNat UInt8 (101 : Nat) (@UInt8.instOfNat (101 : Nat))), (@OfNat.ofNat UInt8 (110 : Nat) (@UInt8.instOfNat (110 : Nat))), (@OfNat.ofNat UInt8 (103 : Nat) (@UInt8.instOfNat (103 : Nat))), (@OfNat.ofNat UInt8 (116 : Nat) (@UInt8.instOfNat (116 : Nat))), (@OfNat.ofNat UInt8 (104 : Nat) (@UInt8.instOfNat (104 : Nat))), (@OfNat.ofNat UInt8 (58 : Nat) (@UInt8.instOfNat (58 : Nat))), (@OfNat.ofNat UInt8 (32 : Nat) (@UInt8.instOfNat (32 : Nat)))] : List (UInt8)))) ++ v5) ++ (@Array.toList UInt8 (@List.toArray UInt8 ([(@OfNat.ofNat UInt8 (13 : Nat) (@UInt8.instOfNat (13 : Nat))), (@OfNat.ofNat UInt8 (10 : Nat) (@UInt8.instOfNat (10 : Nat)))] : List (UInt8))))) ++ (@Array.toList UInt8 (@List.toArray UInt8 ([(@OfNat.ofNat UInt8 (13 : Nat) (@UInt8.instOfNat (13 : Nat))), (@OfNat.ofNat UInt8 (10 : Nat) (@UInt8.instOfNat (10 : Nat)))] : List (UInt8))))))) 1) then
         some (((@ofB (((@Array.toList UInt8 (@List.toArray UInt8 ([(@OfNat.ofNat UInt8 (72 : Nat) (@UInt8.instOfNat (72 : Nat))), (@OfNat.ofNat UInt8 (84 : Nat) (@UInt8.instOfNat (84 : Nat))), (@OfNat.ofNat UInt8 (84 : Nat) (@UInt8.instOfNat (84 : Nat))), (@OfNat.ofNat UInt8 (80 : Nat) (@UInt8.instOfNat (80 : Nat))), (@OfNat.ofNat UInt8 (47 : Nat) (@UInt8.instOfNat (47 : Nat))), (@OfNat.ofNat UInt8 (49 : Nat) (@UInt8.instOfNat (49 : Nat))), (@OfNat.ofNat UInt8 (46 : Nat) (@UInt8.instOfNat (46 : Nat))), (@OfNat.ofNat UInt8 (49 : Nat) (@UInt8.instOfNat (49 : Nat))), (@OfNat.ofNat UInt8 (32 : Nat) (@UInt8.instOfNat (32 : Nat)))] : List (UInt8)))) ++ v3) ++ ((((@Array.toList UInt8 (@List.toArray UInt8 ([(@OfNat.ofNat UInt8 (13 : Nat) (@UInt8.instOfNat (13 : Nat))), (@OfNat.ofNat UInt8 (10 : Nat) (@UInt8.instOfNat (10 : Nat))), (@OfNat.ofNat UInt8 (67 : Nat) (@UInt8.instOfNat (67 : Nat))), (@OfNat.ofNat UInt8 (111 : Nat) (@UInt8.instOfNat (111 : Nat))), (@OfNat.ofNat UInt8 (110 : Nat) (@UInt8.instOfNat (110 : Nat))), (@OfNat.ofNat UInt8 (116 : Nat) (@UInt8.instOfNat (116 : Nat))), (@OfNat.ofNat UInt8 (101 : Nat) (@UInt8.instOfNat (101 : Nat))), (@OfNat.ofNat UInt8 (110 : Nat) (@UInt8.instOfNat (110 : Nat))), (@OfNat.ofNat UInt8 (116 : Nat) (@UInt8.instOfNat (116 : Nat))), (@OfNat.ofNat UInt8 (45 : Nat) (@UInt8.instOfNat (45 : Nat))), (@OfNat.ofNat UInt8 (76 : Nat) (@UInt8.instOfNat (76 : Nat))), (@OfNat.ofNat UInt8 (101 : Nat) (@UInt8.instOfNat (101 : Nat))), (@OfNat.ofNat UInt8 (110 : Nat) (@UInt8.instOfNat (110 : Nat))), (@OfNat.ofNat UInt8 (103 : Nat) (@UInt8.instOfNat (103 : Nat))), (@OfNat.ofNat UInt8 (116 : Nat) (@UInt8.instOfNat (116 : Nat))), (@OfNat.ofNat UInt8 (104 : Nat) (@UInt8.instOfNat (104 : Nat))), (@OfNat.ofNat UInt8 (58 : Nat) (@UInt8.instOfNat (58 : Nat))), (@OfNat.ofNat UInt8 (32 : Nat) (@UInt8.instOfNat (32 : Nat)))] : List (UInt8)))) ++ v5) ++ (@Array.toList UInt8 (@List.toArray UInt8 ([(@OfNat.ofNat UInt8 (13 : Nat) (@UInt8.instOfNat (13 : Nat))), (@OfNat.ofNat UInt8 (10 : Nat) (@UInt8.instOfNat (10 : Nat)))] : List (UInt8))))) ++ (@Array.toList UInt8 (@List.toArray UInt8 ([(@OfNat.ofNat UInt8 (13 : Nat) (@UInt8.instOfNat (13 : Nat))), (@OfNat.ofNat UInt8 (10 : Nat) (@UInt8.instOfNat (10 : Nat)))] : List (UInt8))))))), (0 : Int)))
        else
         none
       else
        none
      else
       none
     else
      none
    else
     none
  else
   none
theorem httpp_Lay_S (N : Nat) (status0 : Int) : (runK Go.Proofs.Tryd.prog (Ev46 N) 400 7 [(.int .i64)] [(.sl (.int .u8)), (.int .i64)] (status0, ())).run = httpp_Lay N status0 := by kernel_rfl
theorem httpp_Lay_C (N : Nat) (status0 : Int) (y : (List (Int)) × Int) (h : httpp_Lay N status0 = some y) : CallsK Go.Proofs.Tryd.prog 7 (valA [(.int .i64)] (status0, ())) (tupV (valR [(.sl (.int .u8)), (.int .i64)] y)) := runK_ok hmx (Ev46_ok N _) (okFn_ok (by kernel_rfl)) (by rw [httpp_Lay_S]; exact h)
noncomputable def Ev47 (N : Nat) : (R : Type) → Env R := Env.addFn (Ev46 N) 7 (fun R => fnK [(.int .i64)] [(.sl (.int .u8)), (.int .i64)] (fun c => httpp_Lay N c.1))
theorem Ev47_ok (N : Nat) (R : Type) : EnvOK Go.Proofs.Tryd.prog (Ev47 N R) := EnvOK.addFn hmx (Ev46_ok N R) (Ev46_ok N _) (by kernel_rfl) (fun c => httpp_Lay_S N c.1)
noncomputable def httpp_first (N : Nat) (lines0 : List (List UInt8)) : Option ((Int) × Int) :=
 bif (decide ((((List.length lines0) : Nat) : Int) = (0 : Int))) then
  some (((0 : Int), (3 : Int)))
 else
  Option.bind (getI lines0 (0 : Int)) fun (v2 : (List UInt8)) =>
  Option.bind (some ((@cond Bool @Bool.false @Bool.true (decide ((@Array.toList UInt8 (@List.toArray UInt8 ([(@OfNat.ofNat UInt8 (32 : Nat) (@UInt8.instOfNat (32 : Nat)))] : List (UInt8)))) = v2))))) fun (v3 : Bool) =>
  bif v3 then
   Option.bind (dropI v2 (Go.IntKind.wrap .i64 ((0 : Int) + (((List.length (@Array.toList UInt8 (@List.toArray UInt8 ([(@OfNat.ofNat UInt8 (32 : Nat) (@UInt8.instOfNat (32 : Nat)))] : List (UInt8))))) : Nat) : Int)))) fun (v4 : (List UInt8)) =>
   some (((0 : Int), (15 : Int)))
  else
   bif (decide ((0 : Int) ≤ (@idxB v2 (((@UInt8.toNat (@OfNat.ofNat UInt8 (32 : Nat) (@UInt8.instOfNat (32 : Nat)))) : Nat) : Int)))) then
    Option.bind (takeI v2 (@idxB v2 (((@UInt8.toNat (@OfNat.ofNat UInt8 (32 : Nat) (@UInt8.instOfNat (32 : Nat)))) : Nat) : Int))) fun (v4 : (List UInt8)) =>
    Option.bind (dropI v2 (Go.IntKind.wrap .i64 ((@idxB v2 (((@UInt8.toNat (@OfNat.ofNat UInt8 (32 : Nat) (@UInt8.instOfNat (32 : Nat)))) : Nat) : Int)) + (((List.length (@Array.toList UInt8 (@List.toArray UInt8 ([(@OfNat.ofNat UInt8 (32 : Nat) (@UInt8.instOfNat (32 : Nat)))] : List (UInt8))))) : Nat) : Int)))) fun (v5 : (List UInt8)) =>
    bif (!(decide (v4 = (@Array.toList UInt8 (@List.toArray UInt8 ([(@OfNat.ofNat UInt8 (72 : Nat) (@UInt8.instOfNat (72 : Nat))), (@OfNat.ofNat UInt8 (84 : Nat) (@UInt8.instOfNat (84 : Nat))), (@OfNat.ofNat UInt8 (84 : Nat) (@UInt8.instOfNat (84 : Nat))), (@OfNat.ofNat UInt8 (80 : Nat) (@UInt8.instOfNat (80 : Nat))), (@OfNat.ofNat UInt8 (47 : Nat) (@UInt8.instOfNat (47 : Nat))), (@OfNat.ofNat UInt8 (49 : Nat) (@UInt8.instOfNat (49 : Nat))), (@OfNat.ofNat UInt8 (46 : Nat) (@UInt8.instOfNat (46 : Nat))), (@OfNat.ofNat UInt8 (49 : Nat) (@UInt8.instOfNat (49 : Nat)))] : List (UInt8))))))) then
     some (((0 : Int), (15 : Int)))
    else
     Option.bind (some ((@cond Bool @Bool.false @Bool.true (decide ((@Array.toList UInt8 (@List.toArray UInt8 ([(@OfNat.ofNat UInt8 (32 : Nat) (@UInt8.instOfNat (32 : Nat)))] : List (UInt8)))) = v5))))) fun (v6 : Bool) =>
     bif v6 then
      Option.bind (dropI v5 (Go.IntKind.wrap .i64 ((0 : Int) + (((List.length (@Array.toList UInt8 (@List.toArray UInt8 ([(@OfNat.ofNat UInt8 (32 : Nat) (@UInt8.instOfNat (32 : Nat)))] : List (UInt8))))) : Nat) : Int)))) fun (v7 : (List UInt8)) =>
      Option.bind (@words_Number N (@List.take UInt8 (Int.toNat (0 : Int)) v5)) fun (v8 : (Int × Int)) =>
      bif (!(decide (v8.2 = (0 : Int)))) then
       Option.bind (some (@Bool.true)) fun (v9 : Bool) =>
       bif v9 then
        some (((0 : Int), (3 : Int)))
       else
        some (((Go.IntKind.wrap .i64 v8.1), (0 : Int)))
      else
       Option.bind (@httpp_may N (Go.IntKind.wrap .i64 v8.1)) fun (v9 : Bool) =>
       Option.bind (some ((@cond Bool @Bool.false @Bool.true (!v9)))) fun (v10 : Bool) =>
       bif v10 then
        some (((0 : Int), (3 : Int)))
       else
        some (((Go.IntKind.wrap .i64 v8.1), (0 : Int)))
     else
      bif (decide ((0 : Int) ≤ (@idxB v5 (((@UInt8.toNat (@OfNat.ofNat UInt8 (32 : Nat) (@UInt8.instOfNat (32 : Nat)))) : Nat) : Int)))) then
       Option.bind (takeI v5 (@idxB v5 (((@UInt8.toNat (@OfNat.ofNat UInt8 (32 : Nat) (@UInt8.instOfNat (32 : Nat)))) : Nat) : Int))) fun (v7 : (List UInt8)) =>
       Option.bind (dropI v5 (Go.IntKind.wrap .i64 ((@idxB v5 (((@UInt8.toNat (@OfNat.ofNat UInt8 (32 : Nat) (@UInt8.instOfNat (32 : Nat)))) : Nat) : Int)) + (((List.length (@Array.toList UInt8 (@List.toArray UInt8 ([(@OfNat.ofNat UInt8 (32 : Nat) (@UInt8.instOfNat (32 : Nat)))] : List (UInt8))))) : Nat) : Int)))) fun (v8 : (List UInt8)) =>
       Option.bind (@words_Number N v7) fun (v9 : (Int × Int)) =>
       bif (!(decide (v9.2 = (0 : Int)))) then
        Option.bind (some (@Bool.true)) fun (v10 : Bool) =>
        bif v10 then
         some (((0 : Int), (3 : Int)))
        else
         some (((Go.IntKind.wrap .i64 v9.1), (0 : Int)))
       else
        Option.bind (@httpp_may N (Go.IntKind.wrap .i64 v9.1)) fun (v10 : Bool) =>
        Option.bind (some ((@cond Bool @Bool.false @Bool.true (!v10)))) fun (v11 : Bool) =>
        bif v11 then
         some (((0 : Int), (3 : Int)))
        else
         some (((Go.IntKind.wrap .i64 v9.1), (0 : Int)))
      else
       Option.bind (@words_Number N v5) fun (v7 : (Int × Int)) =>
       bif (!(decide (v7.2 = (0 : Int)))) then
        Option.bind (some (@Bool.true)) fun (v8 : Bool) =>
        bif v8 then
         some (((0 : Int), (3 : Int)))
        else
         some (((Go.IntKind.wrap .i64 v7.1), (0 : Int)))
       else
        Option.bind (@httpp_may N (Go.IntKind.wrap .i64 v7.1)) fun (v8 : Bool) =>
        Option.bind (some ((@cond Bool @Bool.false @Bool.true (!v8)))) fun (v9 : Bool) =>
        bif v9 then
         some (((0 : Int), (3 : Int)))
        else
         some (((Go.IntKind.wrap .i64 v7.1), (0 : Int)))
   else
    some (((0 : Int), (3 : Int)))
theorem httpp_first_S (N : Nat) (lines0 : List (List UInt8)) : (runK Go.Proofs.Tryd.prog (Ev47 N) 400 11 [(.sl .str)] [(.int .i64), (.int .i64)] (lines0, ())).run = httpp_first N lines0 := by kernel_rfl
theorem httpp_first_C (N : Nat) (lines0 : List (List UInt8)) (y : (Int) × Int) (h : httpp_first N lines0 = some y) : CallsK Go.Proofs.Tryd.prog 11 (valA [(.sl .str)] (lines0, ())) (tupV (valR [(.int .i64), (.int .i64)] y)) := runK_ok hmx (Ev47_ok N _) (okFn_ok (by kernel_rfl)) (by rw [httpp_first_S]; exact h)
noncomputable def Ev48 (N : Nat) : (R : Type) → Env R := Env.addFn (Ev47 N) 11 (fun R => fnK [(.sl .str)] [(.int .i64), (.int .i64)] (fun c => httpp_first N c.1))
theorem Ev48_ok (N : Nat) (R : Type) : EnvOK Go.Proofs.Tryd.prog (Ev48 N R) := EnvOK.addFn hmx (Ev47_ok N R) (Ev47_ok N _) (by kernel_rfl) (fun c => httpp_first_S N c.1)
noncomputable def httpp_Parse (N : Nat) (b0 : List (Int)) : Option ((Int) × (Int) × Int) :=
 Option.bind (@words_Head N b0) fun (v2 : ((List (List UInt8)) × (Int × Int))) =>
 bif (!(decide (v2.2.2 = (0 : Int)))) then
  some (((0 : Int), ((0 : Int), v2.2.2)))
 else
  Option.bind (@httpp_first N v2.1) fun (v3 : (Int × Int)) =>
  bif (!(decide (v3.2 = (0 : Int)))) then
   some (((0 : Int), ((0 : Int), v3.2)))
  else
   Option.bind (dropI v2.1 (1 : Int)) fun (v4 : (List (List UInt8))) =>
   Option.bind (@words_Fields N v4) fun (v5 : ((List ((List UInt8) × (List UInt8))) × Int)) =>
   bif (!(decide (v5.2 = (0 : Int)))) then
    some (((0 : Int), ((0 : Int), v5.2)))
   else
    Option.bind (@words_Find N v5.1 (@Array.toList UInt8 (@List.toArray UInt8 ([(@OfNat.ofNat UInt8 (67 : Nat) (@UInt8.instOfNat (67 : Nat))), (@OfNat.ofNat UInt8 (111 : Nat) (@UInt8.instOfNat (111 : Nat))), (@OfNat.ofNat UInt8 (110 : Nat) (@UInt8.instOfNat (110 : Nat))), (@OfNat.ofNat UInt8 (116 : Nat) (@UInt8.instOfNat (116 : Nat))), (@OfNat.ofNat UInt8 (101 : Nat) (@UInt8.instOfNat (101 : Nat))), (@OfNat.ofNat UInt8 (110 : Nat) (@UInt8.instOfNat (110 : Nat))), (@OfNat.ofNat UInt8 (116 : Nat) (@UInt8.instOfNat (116 : Nat))), (@OfNat.ofNat UInt8 (45 : Nat) (@UInt8.instOfNat (45 : Nat))), (@OfNat.ofNat UInt8 (76 : Nat) (@UInt8.instOfNat (76 : Nat))), (@OfNat.ofNat UInt8 (101 : Nat) (@UInt8.instOfNat (101 : Nat))), (@OfNat.ofNat UInt8 (110 : Nat) (@UInt8.instOfNat (110 : Nat))), (@OfNat.ofNat UInt8 (103 : Nat) (@UInt8.instOfNat (103 : Nat))), (@OfNat.ofNat UInt8 (116 : Nat) (@UInt8.instOfNat (116 : Nat))), (@OfNat.ofNat UInt8 (104 : Nat) (@UInt8.instOfNat (104 : Nat)))] : List (UInt8))))) fun (v6 : ((List UInt8) × Int)) =>
    bif (!(decide (v6.2 = (0 : Int)))) then
     some (((0 : Int), ((0 : Int), v6.2)))
    else
     Option.bind (@httpp_length N v3.1) fun (v7 : (List UInt8)) =>
     bif (!(decide (v6.1 = v7))) then
      some (((0 : Int), ((0 : Int), (3 : Int))))
     else
      some ((v3.1, (v2.2.1, (0 : Int))))
theorem httpp_Parse_S (N : Nat) (b0 : List (Int)) : (runK Go.Proofs.Tryd.prog (Ev48 N) 400 5 [(.sl (.int .u8))] [(.int .i64), (.int .i64), (.int .i64)] (b0, ())).run = httpp_Parse N b0 := by kernel_rfl
theorem httpp_Parse_C (N : Nat) (b0 : List (Int)) (y : (Int) × (Int) × Int) (h : httpp_Parse N b0 = some y) : CallsK Go.Proofs.Tryd.prog 5 (valA [(.sl (.int .u8))] (b0, ())) (tupV (valR [(.int .i64), (.int .i64), (.int .i64)] y)) := runK_ok hmx (Ev48_ok N _) (okFn_ok (by kernel_rfl)) (by rw [httpp_Parse_S]; exact h)
noncomputable def Ev49 (N : Nat) : (R : Type) → Env R := Env.addFn (Ev48 N) 5 (fun R => fnK [(.sl (.int .u8))] [(.int .i64), (.int .i64), (.int .i64)] (fun c => httpp_Parse N c.1))
theorem Ev49_ok (N : Nat) (R : Type) : EnvOK Go.Proofs.Tryd.prog (Ev49 N R) := EnvOK.addFn hmx (Ev48_ok N R) (Ev48_ok N _) (by kernel_rfl) (fun c => httpp_Parse_S N c.1)
noncomputable def ref16_may (N : Nat) (status0 : Int) : Option (Bool) :=
 Option.bind (bif (decide ((100 : Int) ≤ status0)) then
   some ((@cond Bool @Bool.true (decide (status0 ≤ (599 : Int))) @Bool.false))
  else
   some (@Bool.false)) fun (v2 : Bool) =>
 some (v2)
theorem ref16_may_S (N : Nat) (status0 : Int) : (runK Go.Proofs.Tryd.prog (Ev49 N) 400 16 [(.int .i64)] [.bool] (status0, ())).run = ref16_may N status0 := by kernel_rfl
theorem ref16_may_C (N : Nat) (status0 : Int) (y : Bool) (h : ref16_may N status0 = some y) : CallsK Go.Proofs.Tryd.prog 16 (valA [(.int .i64)] (status0, ())) (tupV (valR [.bool] y)) := runK_ok hmx (Ev49_ok N _) (okFn_ok (by kernel_rfl)) (by rw [ref16_may_S]; exact h)
noncomputable def Ev50 (N : Nat) : (R : Type) → Env R := Env.addFn (Ev49 N) 16 (fun R => fnK [(.int .i64)] [.bool] (fun c => ref16_may N c.1))
theorem Ev50_ok (N : Nat) (R : Type) : EnvOK Go.Proofs.Tryd.prog (Ev50 N R) := EnvOK.addFn hmx (Ev49_ok N R) (Ev49_ok N _) (by kernel_rfl) (fun c => ref16_may_S N c.1)
noncomputable def ref16_length (N : Nat) (status0 : Int) : Option (List UInt8) :=
 bif (decide (status0 = (200 : Int))) then
  some ((@Array.toList UInt8 (@List.toArray UInt8 ([(@OfNat.ofNat UInt8 (49 : Nat) (@UInt8.instOfNat (49 : Nat))), (@OfNat.ofNat UInt8 (56 : Nat) (@UInt8.instOfNat (56 : Nat))), (@OfNat.ofNat UInt8 (52 : Nat) (@UInt8.instOfNat (52 : Nat))), (@OfNat.ofNat UInt8 (52 : Nat) (@UInt8.instOfNat (52 : Nat))), (@OfNat.ofNat UInt8 (54 : Nat) (@UInt8.instOfNat (54 : Nat))), (@OfNat.ofNat UInt8 (55 : Nat) (@UInt8.instOfNat (55 : Nat))), (@OfNat.ofNat UInt8 (52 : Nat) (@UInt8.instOfNat (52 : Nat))), (@OfNat.ofNat UInt8 (52 : Nat) (@UInt8.instOfNat (52 : Nat))), (@OfNat.ofNat UInt8 (48 : Nat) (@UInt8.instOfNat (48 : Nat))), (@OfNat.ofNat UInt8 (55 : Nat) (@UInt8.instOfNat (55 : Nat))), (@OfNat.ofNat UInt8 (51 : Nat) (@UInt8.instOfNat (51 : Nat))), (@OfNat.ofNat UInt8 (55 : Nat) (@UInt8.instOfNat (55 : Nat))), (@OfNat.ofNat UInt8 (48 : Nat) (@UInt8.instOfNat (48 : Nat))), (@OfNat.ofNat UInt8 (57 : Nat) (@UInt8.instOfNat (57 : Nat))), (@OfNat.ofNat UInt8 (53 : Nat) (@UInt8.instOfNat (53 : Nat))), (@OfNat.ofNat UInt8 (53 : Nat) (@UInt8.instOfNat (53 : Nat))), (@OfNat.ofNat UInt8 (49 : Nat) (@UInt8.instOfNat (49 : Nat))), (@OfNat.ofNat UInt8 (54 : Nat) (@UInt8.instOfNat (54 : Nat))), (@OfNat.ofNat UInt8 (49 : Nat) (@UInt8.instOfNat (49 : Nat))), (@OfNat.ofNat UInt8 (53 : Nat) (@UInt8.instOfNat (53 : Nat)))] : List (UInt8)))))
 else
  some ((@Array.toList UInt8 (@List.toArray UInt8 ([(@OfNat.ofNat UInt8 (48 : Nat) (@UInt8.instOfNat (48 : Nat)))] : List (UInt8)))))
theorem ref16_length_S (N : Nat) (status0 : Int) : (runK Go.Proofs.Tryd.prog (Ev50 N) 400 19 [(.int .i64)] [.str] (status0, ())).run = ref16_length N status0 := by kernel_rfl
theorem ref16_length_C (N : Nat) (status0 : Int) (y : List UInt8) (h : ref16_length N status0 = some y) : CallsK Go.Proofs.Tryd.prog 19 (valA [(.int .i64)] (status0, ())) (tupV (valR [.str] y)) := runK_ok hmx (Ev50_ok N _) (okFn_ok (by kernel_rfl)) (by rw [ref16_length_S]; exact h)
noncomputable def Ev51 (N : Nat) : (R : Type) → Env R := Env.addFn (Ev50 N) 19 (fun R => fnK [(.int .i64)] [.str] (fun c => ref16_length N c.1))
theorem Ev51_ok (N : Nat) (R : Type) : EnvOK Go.Proofs.Tryd.prog (Ev51 N R) := EnvOK.addFn hmx (Ev50_ok N R) (Ev50_ok N _) (by kernel_rfl) (fun c => ref16_length_S N c.1)
noncomputable def ref16_Parse_L8_I : LI := ⟨115, 0, [], ⟨[(5, .ty (.sl .str)), (6, .ty (.int .i64)), (8, .ty .str), (9, .ty (.int .i64))], []⟩, [(.exit 0, ⟨[(5, .ty (.sl .str)), (6, .ty (.int .i64)), (8, .ty .str), (9, .ty (.int .i64))], []⟩)]⟩
noncomputable def ref16_Parse_L8 (N : Nat) (X : (((List (List UInt8)) × ((Int) × ((List UInt8) × ((Int) × Unit)))) × Unit) → Option ((((List (List UInt8)) × ((Int) × ((List UInt8) × ((Int) × Unit)))) × Unit))) (lines5 : List (List UInt8)) (n6 : Int) (s8 : List UInt8) (x9 : Int) : Option ((((List (List UInt8)) × ((Int) × ((List UInt8) × ((Int) × Unit)))) × Unit)) :=
 Option.bind (bif (decide (x9 < (((List.length s8) : Nat) : Int))) then
   Option.bind (getI s8 x9) fun (v6 : UInt8) =>
   some ((@cond Bool @Bool.true (!(decide ((((@UInt8.toNat v6) : Nat) : Int) = (32 : Int)))) @Bool.false))
  else
   some (@Bool.false)) fun (v6 : Bool) =>
 bif v6 then
  (X ((lines5, (n6, (s8, ((Go.IntKind.wrap .i64 (x9 + (1 : Int))), @Unit.unit)))), @Unit.unit))
 else
  some (((lines5, (n6, (s8, (x9, @Unit.unit)))), @Unit.unit))
noncomputable def ref16_Parse_L8_R (N : Nat) (c : (((List (List UInt8)) × ((Int) × ((List UInt8) × ((Int) × Unit)))) × Unit)) : Option ((((List (List UInt8)) × ((Int) × ((List UInt8) × ((Int) × Unit)))) × Unit)) := gl (fun X c => ref16_Parse_L8 N X c.1.1 c.1.2.1 c.1.2.2.1 c.1.2.2.2.1) N c
theorem ref16_Parse_L8_S (N : Nat) (X : (((List (List UInt8)) × ((Int) × ((List UInt8) × ((Int) × Unit)))) × Unit) → Option ((((List (List UInt8)) × ((Int) × ((List UInt8) × ((Int) × Unit)))) × Unit))) (lines5 : List (List UInt8)) (n6 : Int) (s8 : List UInt8) (x9 : Int) : (roundK Go.Proofs.Tryd.prog (Ev51 N) 400 [6] ref16_Parse_L8_I (loopAt Go.Proofs.Tryd.prog [6] 8) X ((lines5, n6, s8, x9, ()), ())).run = ref16_Parse_L8 N X lines5 n6 s8 x9 := by kernel_rfl
noncomputable def Ev52 (N : Nat) : (R : Type) → Env R := Env.addLp (Ev51 N) [6] 0 8 (fun R => lpK Go.Proofs.Tryd.prog ref16_Parse_L8_I (fun X c => ref16_Parse_L8 N X c.1.1 c.1.2.1 c.1.2.2.1 c.1.2.2.2.1) N)
theorem Ev52_ok (N : Nat) (R : Type) : EnvOK Go.Proofs.Tryd.prog (Ev52 N R) := EnvOK.addLp (Ev51_ok N R) (by kernel_rfl) (lpK_ok (li := ref16_Parse_L8_I) (G := fun X c => ref16_Parse_L8 N X c.1.1 c.1.2.1 c.1.2.2.1 c.1.2.2.2.1) hmx (Ev51_ok N _) (by kernel_rfl) loopAt_sub (fun (X : CT ref16_Parse_L8_I.sh → Option (OT ref16_Parse_L8_I.outs)) (c : CT ref16_Parse_L8_I.sh) => ref16_Parse_L8_S N X c.1.1 c.1.2.1 c.1.2.2.1 c.1.2.2.2.1) N)
noncomputable def ref16_Parse_L19_I : LI := ⟨115, 0, [], ⟨[(5, .ty (.sl .str)), (6, .ty (.int .i64)), (10, .ty .str), (11, .ty (.int .i64)), (12, .ty (.int .i64))], []⟩, [(.ret, ⟨[(2, .ty (.int .i64)), (3, .ty (.int .i64)), (4, .ty (.int .i64))], []⟩), (.exit 2, ⟨[(5, .ty (.sl .str)), (6, .ty (.int .i64)), (11, .ty (.int .i64))], []⟩)]⟩
noncomputable def ref16_Parse_L19 (N : Nat) (X : (((List (List UInt8)) × ((Int) × ((List UInt8) × ((Int) × ((Int) × Unit))))) × Unit) → Option (((((Int) × ((Int) × ((Int) × Unit))) × Unit) ⊕ (((List (List UInt8)) × ((Int) × ((Int) × Unit))) × Unit)))) (lines5 : List (List UInt8)) (n6 : Int) (rest10 : List UInt8) (status11 : Int) (i12 : Int) : Option (((((Int) × ((Int) × ((Int) × Unit))) × Unit) ⊕ (((List (List UInt8)) × ((Int) × ((Int) × Unit))) × Unit))) :=
 bif (decide (i12 < (3 : Int))) then
  Option.bind (getI rest10 i12) fun (v7 : UInt8) =>
  Option.bind (bif (decide ((((@UInt8.toNat v7) : Nat) : Int) < (48 : Int))) then
    some (@Bool.true)
   else
    Option.bind (getI rest10 i12) fun (v8 : UInt8) =>
    some ((@cond Bool @Bool.false @Bool.true (decide ((57 : Int) < (((@UInt8.toNat v8) : Nat) : Int)))))) fun (v8 : Bool) =>
  bif v8 then
   some ((.inl (((0 : Int), ((0 : Int), ((3 : Int), @Unit.unit))), @Unit.unit)))
  else
   Option.bind (getI rest10 i12) fun (v9 : UInt8) =>
   (X ((lines5, (n6, (rest10, ((Go.IntKind.wrap .i64 ((Go.IntKind.wrap .i64 ((10 : Int) * status11)) + (Go.IntKind.wrap .i64 (Go.IntKind.wrap .u8 ((((@UInt8.toNat v9) : Nat) : Int) - (48 : Int)))))), ((Go.IntKind.wrap .i64 (i12 + (1 : Int))), @Unit.unit))))), @Unit.unit))
 else
  some ((.inr ((lines5, (n6, (status11, @Unit.unit))), @Unit.unit)))
noncomputable def ref16_Parse_L19_R (N : Nat) (c : (((List (List UInt8)) × ((Int) × ((List UInt8) × ((Int) × ((Int) × Unit))))) × Unit)) : Option (((((Int) × ((Int) × ((Int) × Unit))) × Unit) ⊕ (((List (List UInt8)) × ((Int) × ((Int) × Unit))) × Unit))) := gl (fun X c => ref16_Parse_L19 N X c.1.1 c.1.2.1 c.1.2.2.1 c.1.2.2.2.1 c.1.2.2.2.2.1) N c
theorem ref16_Parse_L19_S (N : Nat) (X : (((List (List UInt8)) × ((Int) × ((List UInt8) × ((Int) × ((Int) × Unit))))) × Unit) → Option (((((Int) × ((Int) × ((Int) × Unit))) × Unit) ⊕ (((List (List UInt8)) × ((Int) × ((Int) × Unit))) × Unit)))) (lines5 : List (List UInt8)) (n6 : Int) (rest10 : List UInt8) (status11 : Int) (i12 : Int) : (roundK Go.Proofs.Tryd.prog (Ev52 N) 400 [6] ref16_Parse_L19_I (loopAt Go.Proofs.Tryd.prog [6] 19) X ((lines5, n6, rest10, status11, i12, ()), ())).run = ref16_Parse_L19 N X lines5 n6 rest10 status11 i12 := by kernel_rfl
noncomputable def Ev53 (N : Nat) : (R : Type) → Env R := Env.addLp (Ev52 N) [6] 0 19 (fun R => lpK Go.Proofs.Tryd.prog ref16_Parse_L19_I (fun X c => ref16_Parse_L19 N X c.1.1 c.1.2.1 c.1.2.2.1 c.1.2.2.2.1 c.1.2.2.2.2.1) N)
theorem Ev53_ok (N : Nat) (R : Type) : EnvOK Go.Proofs.Tryd.prog (Ev53 N R) := EnvOK.addLp (Ev52_ok N R) (by kernel_rfl) (lpK_ok (li := ref16_Parse_L19_I) (G := fun X c => ref16_Parse_L19 N X c.1.1 c.1.2.1 c.1.2.2.1 c.1.2.2.2.1 c.1.2.2.2.2.1) hmx (Ev52_ok N _) (by kernel_rfl) loopAt_sub (fun (X : CT ref16_Parse_L19_I.sh → Option (OT ref16_Parse_L19_I.outs)) (c : CT ref16_Parse_L19_I.sh) => ref16_Parse_L19_S N X c.1.1 c.1.2.1 c.1.2.2.1 c.1.2.2.2.1 c.1.2.2.2.2.1) N)
noncomputable def ref16_Parse (N : Nat) (b0 : List (Int)) : Option ((Int) × (Int) × Int) :=
 Option.bind (@ref14_Head N b0) fun (v2 : ((List (List UInt8)) × (Int × Int))) =>
 bif (!(decide (v2.2.2 = (0 : Int)))) then
  some (((0 : Int), ((0 : Int), v2.2.2)))
 else
  bif (decide ((((List.length v2.1) : Nat) : Int) = (0 : Int))) then
   some (((0 : Int), ((0 : Int), (3 : Int))))
  else
   Option.bind (getI v2.1 (0 : Int)) fun (v3 : (List UInt8)) =>
   Option.bind (ref16_Parse_L8_R N ((v2.1, (v2.2.1, (v3, ((0 : Int), @Unit.unit)))), @Unit.unit)) fun (v4 : (((List (List UInt8)) × (Int × ((List UInt8) × (Int × Unit)))) × Unit)) =>
   bif (decide (v4.1.2.2.2.1 = (((List.length v4.1.2.2.1) : Nat) : Int))) then
    some (((0 : Int), ((0 : Int), (3 : Int))))
   else
    Option.bind (takeI v4.1.2.2.1 v4.1.2.2.2.1) fun (v5 : (List UInt8)) =>
    bif (!(decide (v5 = (@Array.toList UInt8 (@List.toArray UInt8 ([(@OfNat.ofNat UInt8 (72 : Nat) (@UInt8.instOfNat (72 : Nat))), (@OfNat.ofNat UInt8 (84 : Nat) (@UInt8.instOfNat (84 : Nat))), (@OfNat.ofNat UInt8 (84 : Nat) (@UInt8.instOfNat (84 : Nat))), (@OfNat.ofNat UInt8 (80 : Nat) (@UInt8.instOfNat (80 : Nat))), (@OfNat.ofNat UInt8 (47 : Nat) (@UInt8.instOfNat (47 : Nat))), (@OfNat.ofNat UInt8 (49 : Nat) (@UInt8.instOfNat (49 : Nat))), (@OfNat.ofNat UInt8 (46 : Nat) (@UInt8.instOfNat (46 : Nat))), (@OfNat.ofNat UInt8 (49 : Nat) (@UInt8.instOfNat (49 : Nat)))] : List (UInt8))))))) then
     some (((0 : Int), ((0 : Int), (15 : Int))))
    else
     Option.bind (dropI v4.1.2.2.1 (Go.IntKind.wrap .i64 (v4.1.2.2.2.1 + (1 : Int)))) fun (v6 : (List UInt8)) =>
     bif (decide ((((List.length v6) : Nat) : Int) < (3 : Int))) then
      Option.bind (some (@Bool.true)) fun (v7 : Bool) =>
      bif v7 then
       some (((0 : Int), ((0 : Int), (3 : Int))))
      else
       Option.bind (ref16_Parse_L19_R N ((v4.1.1, (v4.1.2.1, (v6, ((0 : Int), ((0 : Int), @Unit.unit))))), @Unit.unit)) fun (v8 : (((Int × (Int × (Int × Unit))) × Unit) ⊕ (((List (List UInt8)) × (Int × (Int × Unit))) × Unit))) =>
       Sum.elim
        (fun (v9 : ((Int × (Int × (Int × Unit))) × Unit)) =>
        some ((v9.1.1, (v9.1.2.1, v9.1.2.2.1))))
        (fun (v9 : (((List (List UInt8)) × (Int × (Int × Unit))) × Unit)) =>
        Option.bind (@ref16_may N v9.1.2.2.1) fun (v10 : Bool) =>
        bif (!v10) then
         some (((0 : Int), ((0 : Int), (3 : Int))))
        else
         Option.bind (dropI v9.1.1 (1 : Int)) fun (v11 : (List (List UInt8))) =>
         Option.bind (@ref14_Fields N v11) fun (v12 : ((List ((List UInt8) × (List UInt8))) × Int)) =>
         bif (!(decide (v12.2 = (0 : Int)))) then
          some (((0 : Int), ((0 : Int), v12.2)))
         else
          Option.bind (@ref14_Find N v12.1 (@Array.toList UInt8 (@List.toArray UInt8 ([(@OfNat.ofNat UInt8 (67 : Nat) (@UInt8.instOfNat (67 : Nat))), (@OfNat.ofNat UInt8 (111 : Nat) (@UInt8.instOfNat (111 : Nat))), (@OfNat.ofNat UInt8 (110 : Nat) (@UInt8.instOfNat (110 : Nat))), (@OfNat.ofNat UInt8 (116 : Nat) (@UInt8.instOfNat (116 : Nat))), (@OfNat.ofNat UInt8 (101 : Nat) (@UInt8.instOfNat (101 : Nat))), (@OfNat.ofNat UInt8 (110 : Nat) (@UInt8.instOfNat (110 : Nat))), (@OfNat.ofNat UInt8 (116 : Nat) (@UInt8.instOfNat (116 : Nat))), (@OfNat.ofNat UInt8 (45 : Nat) (@UInt8.instOfNat (45 : Nat))), (@OfNat.ofNat UInt8 (76 : Nat) (@UInt8.instOfNat (76 : Nat))), (@OfNat.ofNat UInt8 (101 : Nat) (@UInt8.instOfNat (101 : Nat))), (@OfNat.ofNat UInt8 (110 : Nat) (@UInt8.instOfNat (110 : Nat))), (@OfNat.ofNat UInt8 (103 : Nat) (@UInt8.instOfNat (103 : Nat))), (@OfNat.ofNat UInt8 (116 : Nat) (@UInt8.instOfNat (116 : Nat))), (@OfNat.ofNat UInt8 (104 : Nat) (@UInt8.instOfNat (104 : Nat)))] : List (UInt8))))) fun (v13 : ((List UInt8) × Int)) =>
          bif (!(decide (v13.2 = (0 : Int)))) then
           some (((0 : Int), ((0 : Int), v13.2)))
          else
           Option.bind (@ref16_length N v9.1.2.2.1) fun (v14 : (List UInt8)) =>
           bif (!(decide (v13.1 = v14))) then
            some (((0 : Int), ((0 : Int), (3 : Int))))
           else
            some ((v9.1.2.2.1, (v9.1.2.1, (0 : Int))))) v8
     else
      Option.bind (bif (decide ((3 : Int) < (((List.length v6) : Nat) : Int))) then
        Option.bind (getI v6 (3 : Int)) fun (v7 : UInt8) =>
        some ((@cond Bool @Bool.false @Bool.true (@cond Bool @Bool.true (!(decide ((((@UInt8.toNat v7) : Nat) : Int) = (32 : Int)))) @Bool.false)))
       else
        some ((@cond Bool @Bool.false @Bool.true @Bool.false))) fun (v7 : Bool) =>
      bif v7 then
       some (((0 : Int), ((0 : Int), (3 : Int))))
      else
       Option.bind (ref16_Parse_L19_R N ((v4.1.1, (v4.1.2.1, (v6, ((0 : Int), ((0 : Int), @Unit.unit))))), @Unit.unit)) fun (v8 : (((Int × (Int × (Int × Unit))) × Unit) ⊕ (((List (List UInt8)) × (Int × (Int × Unit))) × Unit))) =>
       Sum.elim
        (fun (v9 : ((Int × (Int × (Int × Unit))) × Unit)) =>
        some ((v9.1.1, (v9.1.2.1, v9.1.2.2.1))))
        (fun (v9 : (((List (List UInt8)) × (Int × (Int × Unit))) × Unit)) =>
        Option.bind (@ref16_may N v9.1.2.2.1) fun (v10 : Bool) =>
        bif (!v10) then
         some (((0 : Int), ((0 : Int), (3 : Int))))
        else
         Option.bind (dropI v9.1.1 (1 : Int)) fun (v11 : (List (List UInt8))) =>
         Option.bind (@ref14_Fields N v11) fun (v12 : ((List ((List UInt8) × (List UInt8))) × Int)) =>
         bif (!(decide (v12.2 = (0 : Int)))) then
          some (((0 : Int), ((0 : Int), v12.2)))
         else
          Option.bind (@ref14_Find N v12.1 (@Array.toList UInt8 (@List.toArray UInt8 ([(@OfNat.ofNat UInt8 (67 : Nat) (@UInt8.instOfNat (67 : Nat))), (@OfNat.ofNat UInt8 (111 : Nat) (@UInt8.instOfNat (111 : Nat))), (@OfNat.ofNat UInt8 (110 : Nat) (@UInt8.instOfNat (110 : Nat))), (@OfNat.ofNat UInt8 (116 : Nat) (@UInt8.instOfNat (116 : Nat))), (@OfNat.ofNat UInt8 (101 : Nat) (@UInt8.instOfNat (101 : Nat))), (@OfNat.ofNat UInt8 (110 : Nat) (@UInt8.instOfNat (110 : Nat))), (@OfNat.ofNat UInt8 (116 : Nat) (@UInt8.instOfNat (116 : Nat))), (@OfNat.ofNat UInt8 (45 : Nat) (@UInt8.instOfNat (45 : Nat))), (@OfNat.ofNat UInt8 (76 : Nat) (@UInt8.instOfNat (76 : Nat))), (@OfNat.ofNat UInt8 (101 : Nat) (@UInt8.instOfNat (101 : Nat))), (@OfNat.ofNat UInt8 (110 : Nat) (@UInt8.instOfNat (110 : Nat))), (@OfNat.ofNat UInt8 (103 : Nat) (@UInt8.instOfNat (103 : Nat))), (@OfNat.ofNat UInt8 (116 : Nat) (@UInt8.instOfNat (116 : Nat))), (@OfNat.ofNat UInt8 (104 : Nat) (@UInt8.instOfNat (104 : Nat)))] : List (UInt8))))) fun (v13 : ((List UInt8) × Int)) =>
          bif (!(decide (v13.2 = (0 : Int)))) then
           some (((0 : Int), ((0 : Int), v13.2)))
          else
           Option.bind (@ref16_length N v9.1.2.2.1) fun (v14 : (List UInt8)) =>
           bif (!(decide (v13.1 = v14))) then
            some (((0 : Int), ((0 : Int), (3 : Int))))
           else
            some ((v9.1.2.2.1, (v9.1.2.1, (0 : Int))))) v8
theorem ref16_Parse_S (N : Nat) (b0 : List (Int)) : (runK Go.Proofs.Tryd.prog (Ev53 N) 400 6 [(.sl (.int .u8))] [(.int .i64), (.int .i64), (.int .i64)] (b0, ())).run = ref16_Parse N b0 := by kernel_rfl
theorem ref16_Parse_C (N : Nat) (b0 : List (Int)) (y : (Int) × (Int) × Int) (h : ref16_Parse N b0 = some y) : CallsK Go.Proofs.Tryd.prog 6 (valA [(.sl (.int .u8))] (b0, ())) (tupV (valR [(.int .i64), (.int .i64), (.int .i64)] y)) := runK_ok hmx (Ev53_ok N _) (okFn_ok (by kernel_rfl)) (by rw [ref16_Parse_S]; exact h)
noncomputable def Ev54 (N : Nat) : (R : Type) → Env R := Env.addFn (Ev53 N) 6 (fun R => fnK [(.sl (.int .u8))] [(.int .i64), (.int .i64), (.int .i64)] (fun c => ref16_Parse N c.1))
theorem Ev54_ok (N : Nat) (R : Type) : EnvOK Go.Proofs.Tryd.prog (Ev54 N R) := EnvOK.addFn hmx (Ev53_ok N R) (Ev53_ok N _) (by kernel_rfl) (fun c => ref16_Parse_S N c.1)
noncomputable def law16_alive (N : Nat) : Option (Bool) :=
 Option.bind (@httpp_Parse N (@ofB ((((@Array.toList UInt8 (@List.toArray UInt8 ([(@OfNat.ofNat UInt8 (72 : Nat) (@UInt8.instOfNat (72 : Nat))), (@OfNat.ofNat UInt8 (84 : Nat) (@UInt8.instOfNat (84 : Nat))), (@OfNat.ofNat UInt8 (84 : Nat) (@UInt8.instOfNat (84 : Nat))), (@OfNat.ofNat UInt8 (80 : Nat) (@UInt8.instOfNat (80 : Nat))), (@OfNat.ofNat UInt8 (47 : Nat) (@UInt8.instOfNat (47 : Nat))), (@OfNat.ofNat UInt8 (49 : Nat) (@UInt8.instOfNat (49 : Nat))), (@OfNat.ofNat UInt8 (46 : Nat) (@UInt8.instOfNat (46 : Nat))), (@OfNat.ofNat UInt8 (49 : Nat) (@UInt8.instOfNat (49 : Nat))), (@OfNat.ofNat UInt8 (32 : Nat) (@UInt8.instOfNat (32 : Nat)))] : List (UInt8)))) ++ (@Go.Lib.decDigits (Int.toNat (Go.IntKind.wrap .u64 (200 : Int))))) ++ ((@Array.toList UInt8 (@List.toArray UInt8 ([(@OfNat.ofNat UInt8 (32 : Nat) (@UInt8.instOfNat (32 : Nat)))] : List (UInt8)))) ++ (@Array.toList UInt8 (@List.toArray UInt8 ([(@OfNat.ofNat UInt8 (79 : Nat) (@UInt8.instOfNat (79 : Nat))), (@OfNat.ofNat UInt8 (75 : Nat) (@UInt8.instOfNat (75 : Nat)))] : List (UInt8)))))) ++ ((((@Array.toList UInt8 (@List.toArray UInt8 ([(@OfNat.ofNat UInt8 (13 : Nat) (@UInt8.instOfNat (13 : Nat))), (@OfNat.ofNat UInt8 (10 : Nat) (@UInt8.instOfNat (10 : Nat))), (@OfNat.ofNat UInt8 (67 : Nat) (@UInt8.instOfNat (67 : Nat))), (@OfNat.ofNat UInt8 (111 : Nat) (@UInt8.instOfNat (111 : Nat))), (@OfNat.ofNat UInt8 (110 : Nat) (@UInt8.instOfNat (110 : Nat))), (@OfNat.ofNat UInt8 (116 : Nat) (@UInt8.instOfNat (116 : Nat))), (@OfNat.ofNat UInt8 (101 : Nat) (@UInt8.instOfNat (101 : Nat))), (@OfNat.ofNat UInt8 (110 : Nat) (@UInt8.instOfNat (110 : Nat))), (@OfNat.ofNat UInt8 (116 : Nat) (@UInt8.instOfNat (116 : Nat))), (@OfNat.ofNat UInt8 (45 : Nat) (@UInt8.instOfNat (45 : Nat))), (@OfNat.ofNat UInt8 (76 : Nat) (@UInt8.instOfNat (76 : Nat))), (@OfNat.ofNat UInt8 (101 : Nat) (@UInt8.instOfNat (101 : Nat))), (@OfNat.ofNat UInt8 (110 : Nat) (@UInt8.instOfNat (110 : Nat))), (@OfNat.ofNat UInt8 (103 : Nat) (@UInt8.instOfNat (103 : Nat))), (@OfNat.ofNat UInt8 (116 : Nat) (@UInt8.instOfNat (116 : Nat))), (@OfNat.ofNat UInt8 (104 : Nat) (@UInt8.instOfNat (104 : Nat))), (@OfNat.ofNat UInt8 (58 : Nat) (@UInt8.instOfNat (58 : Nat))), (@OfNat.ofNat UInt8 (32 : Nat) (@UInt8.instOfNat (32 : Nat)))] : List (UInt8)))) ++ (@Array.toList UInt8 (@List.toArray UInt8 ([(@OfNat.ofNat UInt8 (49 : Nat) (@UInt8.instOfNat (49 : Nat))), (@OfNat.ofNat UInt8 (56 : Nat) (@UInt8.instOfNat (56 : Nat))), (@OfNat.ofNat UInt8 (52 : Nat) (@UInt8.instOfNat (52 : Nat))), (@OfNat.ofNat UInt8 (52 : Nat) (@UInt8.instOfNat (52 : Nat))), (@OfNat.ofNat UInt8 (54 : Nat) (@UInt8.instOfNat (54 : Nat))), (@OfNat.ofNat UInt8 (55 : Nat) (@UInt8.instOfNat (55 : Nat))), (@OfNat.ofNat UInt8 (52 : Nat) (@UInt8.instOfNat (52 : Nat))), (@OfNat.ofNat UInt8 (52 : Nat) (@UInt8.instOfNat (52 : Nat))), (@OfNat.ofNat UInt8 (48 : Nat) (@UInt8.instOfNat (48 : Nat))), (@OfNat.ofNat UInt8 (55 : Nat) (@UInt8.instOfNat (55 : Nat))), (@OfNat.ofNat UInt8 (51 : Nat) (@UInt8.instOfNat (51 : Nat))), (@OfNat.ofNat UInt8 (55 : Nat) (@UInt8.instOfNat (55 : Nat))), (@OfNat.ofNat UInt8 (48 : Nat) (@UInt8.instOfNat (48 : Nat))), (@OfNat.ofNat UInt8 (57 : Nat) (@UInt8.instOfNat (57 : Nat))), (@OfNat.ofNat UInt8 (53 : Nat) (@UInt8.instOfNat (53 : Nat))), (@OfNat.ofNat UInt8 (53 : Nat) (@UInt8.instOfNat (53 : Nat))), (@OfNat.ofNat UInt8 (49 : Nat) (@UInt8.instOfNat (49 : Nat))), (@OfNat.ofNat UInt8 (54 : Nat) (@UInt8.instOfNat (54 : Nat))), (@OfNat.ofNat UInt8 (49 : Nat) (@UInt8.instOfNat (49 : Nat))), (@OfNat.ofNat UInt8 (53 : Nat) (@UInt8.instOfNat (53 : Nat)))] : List (UInt8))))) ++ (@Array.toList UInt8 (@List.toArray UInt8 ([(@OfNat.ofNat UInt8 (13 : Nat) (@UInt8.instOfNat (13 : Nat))), (@OfNat.ofNat UInt8 (10 : Nat) (@UInt8.instOfNat (10 : Nat)))] : List (UInt8))))) ++ (@Array.toList UInt8 (@List.toArray UInt8 ([(@OfNat.ofNat UInt8 (13 : Nat) (@UInt8.instOfNat (13 : Nat))), (@OfNat.ofNat UInt8 (10 : Nat) (@UInt8.instOfNat (10 : Nat)))] : List (UInt8)))))))) fun (v1 : (Int × (Int × Int))) =>
 Option.bind (some ((@cond Bool @Bool.true (decide ((0 : Int) = (0 : Int))) @Bool.false))) fun (v2 : Bool) =>
 Option.bind (bif v2 then
   some ((@cond Bool @Bool.true (decide (v1.1 = (200 : Int))) @Bool.false))
  else
   some (@Bool.false)) fun (v3 : Bool) =>
 bif v3 then
  Option.bind (some ((@cond Bool @Bool.true (decide (v1.2.1 = (((List.length (@ofB ((((@Array.toList UInt8 (@List.toArray UInt8 ([(@OfNat.ofNat UInt8 (72 : Nat) (@UInt8.instOfNat (72 : Nat))), (@OfNat.ofNat UInt8 (84 : Nat) (@UInt8.instOfNat (84 : Nat))), (@OfNat.ofNat UInt8 (84 : Nat) (@UInt8.instOfNat (84 : Nat))), (@OfNat.ofNat UInt8 (80 : Nat) (@UInt8.instOfNat (80 : Nat))), (@OfNat.ofNat UInt8 (47 : Nat) (@UInt8.instOfNat (47 : Nat))), (@OfNat.ofNat UInt8 (49 : Nat) (@UInt8.instOfNat (49 : Nat))), (@OfNat.ofNat UInt8 (46 : Nat) (@UInt8.instOfNat (46 : Nat))), (@OfNat.ofNat UInt8 (49 : Nat) (@UInt8.instOfNat (49 : Nat))), (@OfNat.ofNat UInt8 (32 : Nat) (@UInt8.instOfNat (32 : Nat)))] : List (UInt8)))) ++ (@Go.Lib.decDigits (Int.toNat (Go.IntKind.wrap .u64 (200 : Int))))) ++ ((@Array.toList UInt8 (@List.toArray UInt8 ([(@OfNat.ofNat UInt8 (32 : Nat) (@UInt8.instOfNat (32 : Nat)))] : List (UInt8)))) ++ (@Array.toList UInt8 (@List.toArray UInt8 ([(@OfNat.ofNat UInt8 (79 : Nat) (@UInt8.instOfNat (79 : Nat))), (@OfNat.ofNat UInt8 (75 : Nat) (@UInt8.instOfNat (75 : Nat)))] : List (UInt8)))))) ++ ((((@Array.toList UInt8 (@List.toArray UInt8 ([(@OfNat.ofNat UInt8 (13 : Nat) (@UInt8.instOfNat (13 : Nat))), (@OfNat.ofNat UInt8 (10 : Nat) (@UInt8.instOfNat (10 : Nat))), (@OfNat.ofNat UInt8 (67 : Nat) (@UInt8.instOfNat (67 : Nat))), (@OfNat.ofNat UInt8 (111 : Nat) (@UInt8.instOfNat (111 : Nat))), (@OfNat.ofNat UInt8 (110 : Nat) (@UInt8.instOfNat (110 : Nat))), (@OfNat.ofNat UInt8 (116 : Nat) (@UInt8.instOfNat (116 : Nat))), (@OfNat.ofNat UInt8 (101 : Nat) (@UInt8.instOfNat (101 : Nat))), (@OfNat.ofNat UInt8 (110 : Nat) (@UInt8.instOfNat (110 : Nat))), (@OfNat.ofNat UInt8 (116 : Nat) (@UInt8.instOfNat (116 : Nat))), (@OfNat.ofNat UInt8 (45 : Nat) (@UInt8.instOfNat (45 : Nat))), (@OfNat.ofNat UInt8 (76 : Nat) (@UInt8.instOfNat (76 : Nat))), (@OfNat.ofNat UInt8 (101 : Nat) (@UInt8.instOfNat (101 : Nat))), (@OfNat.ofNat UInt8 (110 : Nat) (@UInt8.instOfNat (110 : Nat))), (@OfNat.ofNat UInt8 (103 : Nat) (@UInt8.instOfNat (103 : Nat))), (@OfNat.ofNat UInt8 (116 : Nat) (@UInt8.instOfNat (116 : Nat))), (@OfNat.ofNat UInt8 (104 : Nat) (@UInt8.instOfNat (104 : Nat))), (@OfNat.ofNat UInt8 (58 : Nat) (@UInt8.instOfNat (58 : Nat))), (@OfNat.ofNat UInt8 (32 : Nat) (@UInt8.instOfNat (32 : Nat)))] : List (UInt8)))) ++ (@Array.toList UInt8 (@List.toArray UInt8 ([(@OfNat.ofNat UInt8 (49 : Nat) (@UInt8.instOfNat (49 : Nat))), (@OfNat.ofNat UInt8 (56 : Nat) (@UInt8.instOfNat (56 : Nat))), (@OfNat.ofNat UInt8 (52 : Nat) (@UInt8.instOfNat (52 : Nat))), (@OfNat.ofNat UInt8 (52 : Nat) (@UInt8.instOfNat (52 : Nat))), (@OfNat.ofNat UInt8 (54 : Nat) (@UInt8.instOfNat (54 : Nat))), (@OfNat.ofNat UInt8 (55 : Nat) (@UInt8.instOfNat (55 : Nat))), (@OfNat.ofNat UInt8 (52 : Nat) (@UInt8.instOfNat (52 : Nat))), (@OfNat.ofNat UInt8 (52 : Nat) (@UInt8.instOfNat (52 : Nat))), (@OfNat.ofNat UInt8 (48 : Nat) (@UInt8.instOfNat (48 : Nat))), (@OfNat.ofNat UInt8 (55 : Nat) (@UInt8.instOfNat (55 : Nat))), (@OfNat.ofNat UInt8 (51 : Nat) (@UInt8.instOfNat (51 : Nat))), (@OfNat.ofNat UInt8 (55 : Nat) (@UInt8.instOfNat (55 : Nat))), (@OfNat.ofNat UInt8 (48 : Nat) (@UInt8.instOfNat (48 : Nat))), (@OfNat.ofNat UInt8 (57 : Nat) (@UInt8.instOfNat (57 : Nat))), (@OfNat.ofNat UInt8 (53 : Nat) (@UInt8.instOfNat (53 : Nat))), (@OfNat.ofNat UInt8 (53 : Nat) (@UInt8.instOfNat (53 : Nat))), (@OfNat.ofNat UInt8 (49 : Nat) (@UInt8.instOfNat (49 : Nat))), (@OfNat.ofNat UInt8 (54 : Nat) (@UInt8.instOfNat (54 : Nat))), (@OfNat.ofNat UInt8 (49 : Nat) (@UInt8.instOfNat (49 : Nat))), (@OfNat.ofNat UInt8 (53 : Nat) (@UInt8.instOfNat (53 : Nat)))] : List (UInt8))))) ++ (@Array.toList UInt8 (@List.toArray UInt8 ([(@OfNat.ofNat UInt8 (13 : Nat) (@UInt8.instOfNat (13 : Nat))), (@OfNat.ofNat UInt8 (10 : Nat) (@UInt8.instOfNat (10 : Nat)))] : List (UInt8))))) ++ (@Array.toList UInt8 (@List.toArray UInt8 ([(@OfNat.ofNat UInt8 (13 : Nat) (@UInt8.instOfNat (13 : Nat))), (@OfNat.ofNat UInt8 (10 : Nat) (@UInt8.instOfNat (10 : Nat)))] : List (UInt8)))))))) : Nat) : Int))) @Bool.false))) fun (v4 : Bool) =>
  Option.bind (bif v4 then
    some ((@cond Bool @Bool.true (decide (v1.2.2 = (0 : Int))) @Bool.false))
   else
    some (@Bool.false)) fun (v5 : Bool) =>
  bif v5 then
   Option.bind (some ((@cond Bool @Bool.true (decide ((@Array.toList UInt8 (@List.toArray UInt8 ([(@OfNat.ofNat UInt8 (83 : Nat) (@UInt8.instOfNat (83 : Nat))), (@OfNat.ofNat UInt8 (101 : Nat) (@UInt8.instOfNat (101 : Nat))), (@OfNat.ofNat UInt8 (114 : Nat) (@UInt8.instOfNat (114 : Nat))), (@OfNat.ofNat UInt8 (118 : Nat) (@UInt8.instOfNat (118 : Nat))), (@OfNat.ofNat UInt8 (105 : Nat) (@UInt8.instOfNat (105 : Nat))), (@OfNat.ofNat UInt8 (99 : Nat) (@UInt8.instOfNat (99 : Nat))), (@OfNat.ofNat UInt8 (101 : Nat) (@UInt8.instOfNat (101 : Nat))), (@OfNat.ofNat UInt8 (32 : Nat) (@UInt8.instOfNat (32 : Nat))), (@OfNat.ofNat UInt8 (85 : Nat) (@UInt8.instOfNat (85 : Nat))), (@OfNat.ofNat UInt8 (110 : Nat) (@UInt8.instOfNat (110 : Nat))), (@OfNat.ofNat UInt8 (97 : Nat) (@UInt8.instOfNat (97 : Nat))), (@OfNat.ofNat UInt8 (118 : Nat) (@UInt8.instOfNat (118 : Nat))), (@OfNat.ofNat UInt8 (97 : Nat) (@UInt8.instOfNat (97 : Nat))), (@OfNat.ofNat UInt8 (105 : Nat) (@UInt8.instOfNat (105 : Nat))), (@OfNat.ofNat UInt8 (108 : Nat) (@UInt8.instOfNat (108 : Nat))), (@OfNat.ofNat UInt8 (97 : Nat) (@UInt8.instOfNat (97 : Nat))), (@OfNat.ofNat UInt8 (98 : Nat) (@UInt8.instOfNat (98 : Nat))), (@OfNat.ofNat UInt8 (108 : Nat) (@UInt8.instOfNat (108 : Nat))), (@OfNat.ofNat UInt8 (101 : Nat) (@UInt8.instOfNat (101 : Nat)))] : List (UInt8)))) = (@Array.toList UInt8 (@List.toArray UInt8 ([(@OfNat.ofNat UInt8 (83 : Nat) (@UInt8.instOfNat (83 : Nat))), (@OfNat.ofNat UInt8 (101 : Nat) (@UInt8.instOfNat (101 : Nat))), (@OfNat.ofNat UInt8 (114 : Nat) (@UInt8.instOfNat (114 : Nat))), (@OfNat.ofNat UInt8 (118 : Nat) (@UInt8.instOfNat (118 : Nat))), (@OfNat.ofNat UInt8 (105 : Nat) (@UInt8.instOfNat (105 : Nat))), (@OfNat.ofNat UInt8 (99 : Nat) (@UInt8.instOfNat (99 : Nat))), (@OfNat.ofNat UInt8 (101 : Nat) (@UInt8.instOfNat (101 : Nat))), (@OfNat.ofNat UInt8 (32 : Nat) (@UInt8.instOfNat (32 : Nat))), (@OfNat.ofNat UInt8 (85 : Nat) (@UInt8.instOfNat (85 : Nat))), (@OfNat.ofNat UInt8 (110 : Nat) (@UInt8.instOfNat (110 : Nat))), (@OfNat.ofNat UInt8 (97 : Nat) (@UInt8.instOfNat (97 : Nat))), (@OfNat.ofNat UInt8 (118 : Nat) (@UInt8.instOfNat (118 : Nat))), (@OfNat.ofNat UInt8 (97 : Nat) (@UInt8.instOfNat (97 : Nat))), (@OfNat.ofNat UInt8 (105 : Nat) (@UInt8.instOfNat (105 : Nat))), (@OfNat.ofNat UInt8 (108 : Nat) (@UInt8.instOfNat (108 : Nat))), (@OfNat.ofNat UInt8 (97 : Nat) (@UInt8.instOfNat (97 : Nat))), (@OfNat.ofNat UInt8 (98 : Nat) (@UInt8.instOfNat (98 : Nat))), (@OfNat.ofNat UInt8 (108 : Nat) (@UInt8.instOfNat (108 : Nat))), (@OfNat.ofNat UInt8 (101 : Nat) (@UInt8.instOfNat (101 : Nat)))] : List (UInt8)))))) @Bool.false))) fun (v6 : Bool) =>
   some (v6)
  else
   Option.bind (some (@Bool.false)) fun (v6 : Bool) =>
   some (v6)
 else
  Option.bind (some (@Bool.false)) fun (v4 : Bool) =>
  Option.bind (bif v4 then
    some ((@cond Bool @Bool.true (decide (v1.2.2 = (0 : Int))) @Bool.false))
   else
    some (@Bool.false)) fun (v5 : Bool) =>
  bif v5 then
   Option.bind (some ((@cond Bool @Bool.true (decide ((@Array.toList UInt8 (@List.toArray UInt8 ([(@OfNat.ofNat UInt8 (83 : Nat) (@UInt8.instOfNat (83 : Nat))), (@OfNat.ofNat UInt8 (101 : Nat) (@UInt8.instOfNat (101 : Nat))), (@OfNat.ofNat UInt8 (114 : Nat) (@UInt8.instOfNat (114 : Nat))), (@OfNat.ofNat UInt8 (118 : Nat) (@UInt8.instOfNat (118 : Nat))), (@OfNat.ofNat UInt8 (105 : Nat) (@UInt8.instOfNat (105 : Nat))), (@OfNat.ofNat UInt8 (99 : Nat) (@UInt8.instOfNat (99 : Nat))), (@OfNat.ofNat UInt8 (101 : Nat) (@UInt8.instOfNat (101 : Nat))), (@OfNat.ofNat UInt8 (32 : Nat) (@UInt8.instOfNat (32 : Nat))), (@OfNat.ofNat UInt8 (85 : Nat) (@UInt8.instOfNat (85 : Nat))), (@OfNat.ofNat UInt8 (110 : Nat) (@UInt8.instOfNat (110 : Nat))), (@OfNat.ofNat UInt8 (97 : Nat) (@UInt8.instOfNat (97 : Nat))), (@OfNat.ofNat UInt8 (118 : Nat) (@UInt8.instOfNat (118 : Nat))), (@OfNat.ofNat UInt8 (97 : Nat) (@UInt8.instOfNat (97 : Nat))), (@OfNat.ofNat UInt8 (105 : Nat) (@UInt8.instOfNat (105 : Nat))), (@OfNat.ofNat UInt8 (108 : Nat) (@UInt8.instOfNat (108 : Nat))), (@OfNat.ofNat UInt8 (97 : Nat) (@UInt8.instOfNat (97 : Nat))), (@OfNat.ofNat UInt8 (98 : Nat) (@UInt8.instOfNat (98 : Nat))), (@OfNat.ofNat UInt8 (108 : Nat) (@UInt8.instOfNat (108 : Nat))), (@OfNat.ofNat UInt8 (101 : Nat) (@UInt8.instOfNat (101 : Nat)))] : List (UInt8)))) = (@Array.toList UInt8 (@List.toArray UInt8 ([(@OfNat.ofNat UInt8 (83 : Nat) (@UInt8.instOfNat (83 : Nat))), (@OfNat.ofNat UInt8 (101 : Nat) (@UInt8.instOfNat (101 : Nat))), (@OfNat.ofNat UInt8 (114 : Nat) (@UInt8.instOfNat (114 : Nat))), (@OfNat.ofNat UInt8 (118 : Nat) (@UInt8.instOfNat (118 : Nat))), (@OfNat.ofNat UInt8 (105 : Nat) (@UInt8.instOfNat (105 : Nat))), (@OfNat.ofNat UInt8 (99 : Nat) (@UInt8.instOfNat (99 : Nat))), (@OfNat.ofNat UInt8 (101 : Nat) (@UInt8.instOfNat (101 : Nat))), (@OfNat.ofNat UInt8 (32 : Nat) (@UInt8.instOfNat (32 : Nat))), (@OfNat.ofNat UInt8 (85 : Nat) (@UInt8.instOfNat (85 : Nat))), (@OfNat.ofNat UInt8 (110 : Nat) (@UInt8.instOfNat (110 : Nat))), (@OfNat.ofNat UInt8 (97 : Nat) (@UInt8.instOfNat (97 : Nat))), (@OfNat.ofNat UInt8 (118 : Nat) (@UInt8.instOfNat (118 : Nat))), (@OfNat.ofNat UInt8 (97 : Nat) (@UInt8.instOfNat (97 : Nat))), (@OfNat.ofNat UInt8 (105 : Nat) (@UInt8.instOfNat (105 : Nat))), (@OfNat.ofNat UInt8 (108 : Nat) (@UInt8.instOfNat (108 : Nat))), (@OfNat.ofNat UInt8 (97 : Nat) (@UInt8.instOfNat (97 : Nat))), (@OfNat.ofNat UInt8 (98 : Nat) (@UInt8.instOfNat (98 : Nat))), (@OfNat.ofNat UInt8 (108 : Nat) (@UInt8.instOfNat (108 : Nat))), (@OfNat.ofNat UInt8 (101 : Nat) (@UInt8.instOfNat (101 : Nat)))] : List (UInt8)))))) @Bool.false))) fun (v6 : Bool) =>
   some (v6)
  else
   Option.bind (some (@Bool.false)) fun (v6 : Bool) =>
   some (v6)
theorem law16_alive_S (N : Nat) : (runK Go.Proofs.Tryd.prog (Ev54 N) 400 4 [] [.bool] ()).run = law16_alive N  := by kernel_rfl
theorem law16_alive_C (N : Nat) (y : Bool) (h : law16_alive N  = some y) : CallsK Go.Proofs.Tryd.prog 4 (valA [] ()) (tupV (valR [.bool] y)) := runK_ok hmx (Ev54_ok N _) (okFn_ok (by kernel_rfl)) (by rw [law16_alive_S]; exact h)
noncomputable def Ev55 (N : Nat) : (R : Type) → Env R := Env.addFn (Ev54 N) 4 (fun R => fnK [] [.bool] (fun c => law16_alive N ))
theorem Ev55_ok (N : Nat) (R : Type) : EnvOK Go.Proofs.Tryd.prog (Ev55 N R) := EnvOK.addFn hmx (Ev54_ok N R) (Ev54_ok N _) (by kernel_rfl) (fun c => law16_alive_S N )
noncomputable def law16_HttppParses (N : Nat) (b0 : List (Int)) : Option (Bool) :=
 bif (decide ((3000 : Int) < (((List.length b0) : Nat) : Int))) then
  Option.bind (@law16_alive N) fun (v2 : Bool) =>
  some (v2)
 else
  Option.bind (@httpp_Parse N b0) fun (v2 : (Int × (Int × Int))) =>
  Option.bind (@ref16_Parse N b0) fun (v3 : (Int × (Int × Int))) =>
  Option.bind (bif (decide (v2.1 = v3.1)) then
    some ((@cond Bool @Bool.true (decide (v2.2.1 = v3.2.1)) @Bool.false))
   else
    some (@Bool.false)) fun (v4 : Bool) =>
  Option.bind (bif v4 then
    some ((@cond Bool @Bool.true (decide (v2.2.2 = v3.2.2)) @Bool.false))
   else
    some (@Bool.false)) fun (v5 : Bool) =>
  bif v5 then
   Option.bind (@law16_alive N) fun (v6 : Bool) =>
   some ((@cond Bool @Bool.true v6 @Bool.false))
  else
   some (@Bool.false)
theorem law16_HttppParses_S (N : Nat) (b0 : List (Int)) : (runK Go.Proofs.Tryd.prog (Ev55 N) 400 3 [(.sl (.int .u8))] [.bool] (b0, ())).run = law16_HttppParses N b0 := by kernel_rfl
theorem law16_HttppParses_C (N : Nat) (b0 : List (Int)) (y : Bool) (h : law16_HttppParses N b0 = some y) : CallsK Go.Proofs.Tryd.prog 3 (valA [(.sl (.int .u8))] (b0, ())) (tupV (valR [.bool] y)) := runK_ok hmx (Ev55_ok N _) (okFn_ok (by kernel_rfl)) (by rw [law16_HttppParses_S]; exact h)
noncomputable def Ev56 (N : Nat) : (R : Type) → Env R := Env.addFn (Ev55 N) 3 (fun R => fnK [(.sl (.int .u8))] [.bool] (fun c => law16_HttppParses N c.1))
theorem Ev56_ok (N : Nat) (R : Type) : EnvOK Go.Proofs.Tryd.prog (Ev56 N R) := EnvOK.addFn hmx (Ev55_ok N R) (Ev55_ok N _) (by kernel_rfl) (fun c => law16_HttppParses_S N c.1)
end Go.Proofs.YtailoanlfbpfnaaDoor
/-
  Plain functions: bytes, and whether two rows are the same.
-/
namespace Go.Proofs.YtailoanlfbpfnaaDoor
set_option maxRecDepth 100000
open Go.RowKit
set_option linter.unusedVariables false
set_option linter.unusedSimpArgs false

def AllB (l : List Int) : Prop := ∀ x ∈ l, 0 ≤ x ∧ x < 256
theorem AllB.nil : AllB [] := fun _ h => by cases h
theorem AllB.cons {x : Int} {l : List Int} (h1 : 0 ≤ x ∧ x < 256) (h2 : AllB l) : AllB (x :: l) := fun y hy => by
  rcases List.mem_cons.1 hy with rfl | hy
  · exact h1
  · exact h2 y hy
theorem AllB.append {l m : List Int} (h1 : AllB l) (h2 : AllB m) : AllB (l ++ m) := fun y hy => by
  rcases List.mem_append.1 hy with hy | hy
  · exact h1 y hy
  · exact h2 y hy
theorem AllB.drop {l : List Int} (h : AllB l) (n : Nat) : AllB (l.drop n) := fun y hy => h y (List.mem_of_mem_drop hy)
theorem AllB.take {l : List Int} (h : AllB l) (n : Nat) : AllB (l.take n) := fun y hy => h y (List.mem_of_mem_take hy)
theorem AllB.get {l : List Int} (h : AllB l) (i : Nat) (hi : i < l.length) : 0 ≤ l[i] ∧ l[i] < 256 := h _ (List.getElem_mem hi)
theorem wf_u8 {n : Int} (h : (Lit.int .u8 n).wf = true) : 0 ≤ n ∧ n < 256 := by
  simp only [Lit.wf, Bool.and_eq_true, decide_eq_true_eq, IntKind.min, IntKind.max, IntKind.signed, IntKind.bits] at h
  simp at h
  omega
theorem wf_bytes {l : List Int} (h : wfT (.sl (.int .u8)) l) : AllB l := fun x hx => wf_u8 (h.2 x hx)
def byteOf (x : Int) : UInt8 := UInt8.ofNat x.toNat
theorem toBy_map : ∀ {l : List Int}, AllB l → toBy l = some (l.map byteOf)
  | [], _ => rfl
  | x :: l, h => by
    have h1 := h x List.mem_cons_self
    unfold toBy
    rw [if_pos h1, toBy_map (fun y hy => h y (List.mem_cons_of_mem _ hy))]
    rfl
theorem byte_inj {x y : Int} (h1 : 0 ≤ x ∧ x < 256) (h2 : 0 ≤ y ∧ y < 256) (h : byteOf x = byteOf y) : x = y := by
  unfold byteOf at h
  have := congrArg UInt8.toNat h
  simp only [UInt8.toNat_ofNat'] at this
  omega
theorem bytes_inj : ∀ {a b : List Int}, AllB a → AllB b → a.map byteOf = b.map byteOf → a = b
  | [], [], _, _, _ => rfl
  | [], _ :: _, _, _, h => by cases h
  | _ :: _, [], _, _, h => by cases h
  | x :: a, y :: b, h1, h2, h => by
    simp only [List.map_cons, List.cons.injEq] at h
    rw [byte_inj (h1 x List.mem_cons_self) (h2 y List.mem_cons_self) h.1, bytes_inj (fun z hz => h1 z (List.mem_cons_of_mem _ hz)) (fun z hz => h2 z (List.mem_cons_of_mem _ hz)) h.2]
theorem bytes_dec {a b : List Int} (h1 : AllB a) (h2 : AllB b) : decide (a.map byteOf = b.map byteOf) = decide (a = b) := by
  by_cases h : a = b
  · subst h; simp
  · rw [decide_eq_false h, decide_eq_false (fun h' => h (bytes_inj h1 h2 h'))]
theorem subI_nat {α : Type} (l : List α) {a b : Int} {i j : Nat} (ha : a = i) (hb : b = j) (h1 : i ≤ j) (h2 : j ≤ l.length) : subI l a b = some ((l.drop i).take (j - i)) := by
  subst ha hb
  unfold subI
  rw [if_pos ⟨by omega, by omega, by omega⟩, Int.toNat_natCast, Int.toNat_natCast]
theorem dropI_nat {α : Type} (l : List α) {a : Int} {i : Nat} (ha : a = i) (h1 : i ≤ l.length) : dropI l a = some (l.drop i) := by
  subst ha
  unfold dropI
  rw [if_pos ⟨by omega, by omega⟩, Int.toNat_natCast]
theorem takeI_nat {α : Type} (l : List α) {a : Int} {i : Nat} (ha : a = i) (h1 : i ≤ l.length) : takeI l a = some (l.take i) := by
  subst ha
  unfold takeI
  rw [if_pos ⟨by omega, by omega⟩, Int.toNat_natCast]
theorem getI_at {α : Type} (l : List α) {a : Int} {i : Nat} (ha : a = i) (h1 : i < l.length) : getI l a = some l[i] := by subst ha; exact getI_lt l i h1
/-- Are two rows of numbers the same? -/
def sameB (X : (((List (Int)) × ((List (Int)) × ((Int) × Unit))) × Unit) → Option (((((Bool) × Unit) × Unit) ⊕ (Unit × Unit)))) (a0 : List (Int)) (b1 : List (Int)) (i5 : Int) : Option (((((Bool) × Unit) × Unit) ⊕ (Unit × Unit))) :=
 bif (decide (i5 < (((List.length a0) : Nat) : Int))) then
  Option.bind (getI a0 i5) fun (v5 : Int) =>
  Option.bind (getI b1 i5) fun (v6 : Int) =>
  bif (!(decide (v5 = v6))) then
   some ((.inl ((Bool.false, Unit.unit), Unit.unit)))
  else
   (X ((a0, (b1, ((Go.IntKind.wrap .i64 (i5 + (1 : Int))), Unit.unit))), Unit.unit))
 else
  some ((.inr (Unit.unit, Unit.unit)))
def sameF (N : Nat) (a0 : List (Int)) (b1 : List (Int)) : Option (Bool) :=
 bif (!(decide ((((List.length a0) : Nat) : Int) = (((List.length b1) : Nat) : Int)))) then
  some (Bool.false)
 else
  Option.bind (gl (fun X c => sameB X c.1.1 c.1.2.1 c.1.2.2.1) N ((a0, (b1, ((0 : Int), Unit.unit))), Unit.unit)) fun (v3 : (((Bool × Unit) × Unit) ⊕ (Unit × Unit))) =>
  Sum.elim
   (fun (v4 : ((Bool × Unit) × Unit)) =>
   some (v4.1.1))
   (fun (v4 : (Unit × Unit)) =>
   some (Bool.true)) v3
theorem sameF_ok {N : Nat} {a b : List Int} (h : a.length < N) (hb : a.length < 1000000000) : sameF N a b = some (decide (a = b)) := by
  unfold sameF
  by_cases hl : a.length = b.length
  · have c0 : ((a.length : Int) = (b.length : Int)) := by omega
    simp only [c0, decide_true, Bool.not_true, cond_false]
    obtain ⟨o, h1, h2⟩ := gl_inv (G := fun (X : (((List (Int)) × ((List (Int)) × ((Int) × Unit))) × Unit) → Option (((((Bool) × Unit) × Unit) ⊕ (Unit × Unit)))) c => sameB X c.1.1 c.1.2.1 c.1.2.2.1)
      (fun n c => ∃ i : Nat, c = ((a, (b, ((i : Int), ()))), ()) ∧ i ≤ a.length ∧ n = a.length - i ∧ a.take i = b.take i) (fun o => o = if a = b then .inr ((), ()) else .inl ((false, ()), ())) (fun X n c ⟨i, hc, hi, hn, ht⟩ => by
      subst hc
      rcases Nat.lt_or_ge i a.length with hlt | hge
      · have c1 : ((i : Int) < (a.length : Int)) := by omega
        have c2 : Go.IntKind.wrap .i64 ((i : Int) + 1) = ((i + 1 : Nat) : Int) := by rw [wrap64 (by omega) (by omega)]; omega
        by_cases he : a[i] = b[i]'(by omega)
        · right
          refine ⟨a.length - (i + 1), ((a, (b, (((i + 1 : Nat) : Int), ()))), ()), by omega, ⟨i + 1, rfl, hlt, rfl, ?_⟩, ?_⟩
          · rw [List.take_add_one, List.take_add_one, ht, List.getElem?_eq_getElem hlt, List.getElem?_eq_getElem (by omega), he]
          · simp only [sameB, c1, decide_true, cond_true, getI_lt a i hlt, getI_lt b i (by omega), Option.bind_some, he, Bool.not_true, cond_false, c2]
        · left
          refine ⟨.inl ((false, ()), ()), ?_, ?_⟩
          · simp only [sameB, c1, decide_true, cond_true, getI_lt a i hlt, getI_lt b i (by omega), Option.bind_some, he, decide_false, Bool.not_false]
          · rw [if_neg (fun h => he (by simp [h]))]
      · left
        have c1 : ¬ ((i : Int) < (a.length : Int)) := by omega
        refine ⟨.inr ((), ()), by simp only [sameB, c1, decide_false, cond_false], ?_⟩
        rw [List.take_of_length_le (by omega), List.take_of_length_le (by omega)] at ht
        rw [if_pos ht]) N a.length ((a, (b, ((0 : Int), ()))), ()) h ⟨0, rfl, by omega, by omega, by simp⟩
    rw [h1, h2]
    by_cases he : a = b <;> simp [he]
  · have c0 : ¬ ((a.length : Int) = (b.length : Int)) := by omega
    have c1 : ¬ (a = b) := fun h' => hl (by rw [h'])
    simp only [c0, c1, decide_false, Bool.not_false, cond_true]
end Go.Proofs.YtailoanlfbpfnaaDoor
/-
  Numbers as bytes, on plain data: the functions that lay and read them, as they are printed of the program, under names of their own.
-/
namespace Go.Proofs.YtailoanlfbpfnaaDoor
set_option maxRecDepth 100000
open Go.RowKit
set_option linter.unusedVariables false
set_option linter.unusedSimpArgs false

def qOplace (N : Nat) (i0 : Int) (width1 : Int) (little2 : Bool) : Option (Int) :=
 bif little2 then
  some (i0)
 else
  some ((Go.IntKind.wrap .i64 ((Go.IntKind.wrap .i64 (width1 - (1 : Int))) - i0)))
def qOPutL5 (N : Nat) (X : (((Int) × ((Int) × ((Bool) × ((Int) × ((Int) × Unit))))) × ((List (Int)) × Unit)) → Option ((Unit × ((List (Int)) × Unit)))) (n0 : Int) (width1 : Int) (little2 : Bool) (x19 : Int) (x20 : Int) (h0 : List (Int)) : Option ((Unit × ((List (Int)) × Unit))) :=
 bif (decide (x20 < x19)) then
  Option.bind (qOplace N x20 width1 little2) fun (v8 : Int) =>
  bif (decide ((0 : Int) ≤ v8 ∧ v8 < (((List.length h0) : Nat) : Int))) then
   Option.bind (@GetElem?.getElem? (List Int) Nat Int (fun (as9 : (List Int)) => (fun (i10 : Nat) => (@LT.lt Nat @instLTNat i10 (List.length as9)))) (@List.instGetElem?NatLtLength Int) h0 (Int.toNat v8)) fun (v9 : Int) =>
   (X (((@Int.fdiv n0 (@HPow.hPow Int Nat Int (@instHPow Int Nat (@instPowNat Int @Int.instNatPow)) (2 : Int) (@Min.min Nat @instMinNat (Int.toNat (8 : Int)) (@Go.IntKind.bits @Go.IntKind.u64)))), (width1, (little2, (x19, ((Go.IntKind.wrap .i64 (x20 + (1 : Int))), @Unit.unit))))), ((@List.set Int h0 (Int.toNat v8) (Go.IntKind.wrap .u8 n0)), @Unit.unit)))
  else
   none
 else
  some ((@Unit.unit, (h0, @Unit.unit)))
def qOPutL5R (N : Nat) (c : (((Int) × ((Int) × ((Bool) × ((Int) × ((Int) × Unit))))) × ((List (Int)) × Unit))) : Option ((Unit × ((List (Int)) × Unit))) := gl (fun X c => qOPutL5 N X c.1.1 c.1.2.1 c.1.2.2.1 c.1.2.2.2.1 c.1.2.2.2.2.1 c.2.1) N c
def qOPut (N : Nat) (n0 : Int) (width1 : Int) (little2 : Bool) : Option ((List (Int)) × Int) :=
 bif (decide (width1 < (1 : Int))) then
  some ((([] : List (Int)), (1 : Int)))
 else
  bif (@cond Bool @Bool.false @Bool.true (decide ((8 : Int) < width1))) then
   some ((([] : List (Int)), (1 : Int)))
  else
   bif ((decide ((0 : Int) ≤ width1 ∧ width1 ≤ width1)) && (roomB (Int.toNat width1) 1)) then
    Option.bind (qOPutL5R N ((n0, (width1, (little2, ((((List.length (@List.replicate Int (Int.toNat width1) (0 : Int))) : Nat) : Int), ((0 : Int), @Unit.unit))))), ((@List.replicate Int (Int.toNat width1) (0 : Int)), @Unit.unit))) fun (v4 : (Unit × ((List Int) × Unit))) =>
    some ((v4.2.1, (0 : Int)))
   else
    none
def qOJoinL3 (N : Nat) (X : (((List (List (Int))) × ((Int) × ((List (List (Int))) × ((Int) × ((Int) × Unit))))) × Unit) → Option ((((List (List (Int))) × ((Int) × Unit)) × Unit))) (parts0 : List (List (Int))) (size3 : Int) (x9 : List (List (Int))) (x10 : Int) (x11 : Int) : Option ((((List (List (Int))) × ((Int) × Unit)) × Unit)) :=
 bif (decide (x11 < x10)) then
  Option.bind (getI x9 x11) fun (v7 : (List Int)) =>
  (X ((parts0, ((Go.IntKind.wrap .i64 (size3 + (((List.length v7) : Nat) : Int))), (x9, (x10, ((Go.IntKind.wrap .i64 (x11 + (1 : Int))), @Unit.unit))))), @Unit.unit))
 else
  some (((parts0, (size3, @Unit.unit)), @Unit.unit))
def qOJoinL3R (N : Nat) (c : (((List (List (Int))) × ((Int) × ((List (List (Int))) × ((Int) × ((Int) × Unit))))) × Unit)) : Option ((((List (List (Int))) × ((Int) × Unit)) × Unit)) := gl (fun X c => qOJoinL3 N X c.1.1 c.1.2.1 c.1.2.2.1 c.1.2.2.2.1 c.1.2.2.2.2.1) N c
def qOJoinL9 (N : Nat) (X : (((List (List (Int))) × ((Int) × ((Int) × Unit))) × ((List (Int)) × Unit)) → Option ((Unit × ((List (Int)) × Unit)))) (x22 : List (List (Int))) (x23 : Int) (x24 : Int) (h0 : List (Int)) : Option ((Unit × ((List (Int)) × Unit))) :=
 bif (decide (x24 < x23)) then
  Option.bind (getI x22 x24) fun (v6 : (List Int)) =>
  bif (roomB ((List.length h0) + (List.length v6)) 1) then
   (X ((x22, (x23, ((Go.IntKind.wrap .i64 (x24 + (1 : Int))), @Unit.unit))), ((h0 ++ v6), @Unit.unit)))
  else
   none
 else
  some ((@Unit.unit, (h0, @Unit.unit)))
def qOJoinL9R (N : Nat) (c : (((List (List (Int))) × ((Int) × ((Int) × Unit))) × ((List (Int)) × Unit))) : Option ((Unit × ((List (Int)) × Unit))) := gl (fun X c => qOJoinL9 N X c.1.1 c.1.2.1 c.1.2.2.1 c.2.1) N c
def qOJoin (N : Nat) (parts0 : List (List (Int))) : Option (List (Int)) :=
 Option.bind (qOJoinL3R N ((parts0, ((0 : Int), (parts0, ((((List.length parts0) : Nat) : Int), ((0 : Int), @Unit.unit))))), @Unit.unit)) fun (v2 : (((List (List Int)) × (Int × Unit)) × Unit)) =>
 bif ((decide ((0 : Int) ≤ (0 : Int) ∧ (0 : Int) ≤ v2.1.2.1)) && (roomB (Int.toNat v2.1.2.1) 1)) then
  Option.bind (qOJoinL9R N ((v2.1.1, ((((List.length v2.1.1) : Nat) : Int), ((0 : Int), @Unit.unit))), ((@List.replicate Int (Int.toNat (0 : Int)) (0 : Int)), @Unit.unit))) fun (v3 : (Unit × ((List Int) × Unit))) =>
  some (v3.2.1)
 else
  none
def qOGetL5 (N : Nat) (X : (((List (Int)) × ((Bool) × ((Int) × ((Int) × ((Int) × Unit))))) × Unit) → Option ((((Int) × Unit) × Unit))) (b0 : List (Int)) (little1 : Bool) (n6 : Int) (x17 : Int) (x18 : Int) : Option ((((Int) × Unit) × Unit)) :=
 bif (decide (x18 < x17)) then
  Option.bind (qOplace N x18 (((List.length b0) : Nat) : Int) little1) fun (v7 : Int) =>
  Option.bind (getI b0 v7) fun (v8 : Int) =>
  bif (decide ((0 : Int) ≤ (Go.IntKind.wrap .i64 ((8 : Int) * x18)))) then
   (X ((b0, (little1, ((@Go.bits @Go.BinOp.or @Go.IntKind.u64 n6 (Go.IntKind.wrap .u64 ((Go.IntKind.wrap .u64 v8) * (@HPow.hPow Int Nat Int (@instHPow Int Nat (@instPowNat Int @Int.instNatPow)) (2 : Int) (@Min.min Nat @instMinNat (Int.toNat (Go.IntKind.wrap .i64 ((8 : Int) * x18))) (@Go.IntKind.bits @Go.IntKind.u64)))))), (x17, ((Go.IntKind.wrap .i64 (x18 + (1 : Int))), @Unit.unit))))), @Unit.unit))
  else
   none
 else
  some (((n6, @Unit.unit), @Unit.unit))
def qOGetL5R (N : Nat) (c : (((List (Int)) × ((Bool) × ((Int) × ((Int) × ((Int) × Unit))))) × Unit)) : Option ((((Int) × Unit) × Unit)) := gl (fun X c => qOGetL5 N X c.1.1 c.1.2.1 c.1.2.2.1 c.1.2.2.2.1 c.1.2.2.2.2.1) N c
def qOGet (N : Nat) (b0 : List (Int)) (little1 : Bool) : Option ((Int) × Int) :=
 bif (decide ((((List.length b0) : Nat) : Int) < (1 : Int))) then
  some (((0 : Int), (1 : Int)))
 else
  bif (@cond Bool @Bool.false @Bool.true (decide ((8 : Int) < (((List.length b0) : Nat) : Int)))) then
   some (((0 : Int), (1 : Int)))
  else
   Option.bind (qOGetL5R N ((b0, (little1, ((0 : Int), ((((List.length b0) : Nat) : Int), ((0 : Int), @Unit.unit))))), @Unit.unit)) fun (v3 : ((Int × Unit) × Unit)) =>
   some ((v3.1.1, (0 : Int)))
def qRBigL3 (N : Nat) (X : (((Int) × ((Int) × Unit)) × ((List (Int)) × Unit)) → Option ((Unit × ((List (Int)) × Unit)))) (n0 : Int) (i6 : Int) (h0 : List (Int)) : Option ((Unit × ((List (Int)) × Unit))) :=
 bif (decide ((0 : Int) ≤ i6)) then
  bif (decide ((0 : Int) ≤ i6 ∧ i6 < (((List.length h0) : Nat) : Int))) then
   Option.bind (@GetElem?.getElem? (List Int) Nat Int (fun (as5 : (List Int)) => (fun (i6 : Nat) => (@LT.lt Nat @instLTNat i6 (List.length as5)))) (@List.instGetElem?NatLtLength Int) h0 (Int.toNat i6)) fun (v5 : Int) =>
   (X (((Go.IntKind.wrap .u64 (@Int.tdiv n0 (256 : Int))), ((Go.IntKind.wrap .i64 (i6 - (1 : Int))), @Unit.unit)), ((@List.set Int h0 (Int.toNat i6) (Go.IntKind.wrap .u8 (@Int.tmod n0 (256 : Int)))), @Unit.unit)))
  else
   none
 else
  some ((@Unit.unit, (h0, @Unit.unit)))
def qRBigL3R (N : Nat) (c : (((Int) × ((Int) × Unit)) × ((List (Int)) × Unit))) : Option ((Unit × ((List (Int)) × Unit))) := gl (fun X c => qRBigL3 N X c.1.1 c.1.2.1 c.2.1) N c
def qRBig (N : Nat) (n0 : Int) (width1 : Int) : Option (List (Int)) :=
 bif ((decide ((0 : Int) ≤ width1 ∧ width1 ≤ width1)) && (roomB (Int.toNat width1) 1)) then
  Option.bind (qRBigL3R N ((n0, ((Go.IntKind.wrap .i64 (width1 - (1 : Int))), @Unit.unit)), ((@List.replicate Int (Int.toNat width1) (0 : Int)), @Unit.unit))) fun (v3 : (Unit × ((List Int) × Unit))) =>
  some (v3.2.1)
 else
  none
def qRNumL3 (N : Nat) (X : (((List (Int)) × ((Int) × ((Int) × Unit))) × Unit) → Option ((((Int) × Unit) × Unit))) (b0 : List (Int)) (n3 : Int) (i4 : Int) : Option ((((Int) × Unit) × Unit)) :=
 bif (decide (i4 < (((List.length b0) : Nat) : Int))) then
  Option.bind (getI b0 i4) fun (v5 : Int) =>
  (X ((b0, ((Go.IntKind.wrap .u64 ((Go.IntKind.wrap .u64 (n3 * (256 : Int))) + (Go.IntKind.wrap .u64 v5))), ((Go.IntKind.wrap .i64 (i4 + (1 : Int))), @Unit.unit))), @Unit.unit))
 else
  some (((n3, @Unit.unit), @Unit.unit))
def qRNumL3R (N : Nat) (c : (((List (Int)) × ((Int) × ((Int) × Unit))) × Unit)) : Option ((((Int) × Unit) × Unit)) := gl (fun X c => qRNumL3 N X c.1.1 c.1.2.1 c.1.2.2.1) N c
def qRNum (N : Nat) (b0 : List (Int)) : Option (Int) :=
 Option.bind (qRNumL3R N ((b0, ((0 : Int), ((0 : Int), @Unit.unit))), @Unit.unit)) fun (v2 : ((Int × Unit) × Unit)) =>
 some (v2.1.1)
end Go.Proofs.YtailoanlfbpfnaaDoor
/-
  Layer 14, on plain data: small letters, tokens, blanks.
-/
namespace Go.Proofs.YtailoanlfbpfnaaDoor
set_option maxRecDepth 100000
open Go.RowKit
set_option linter.unusedVariables false
set_option linter.unusedSimpArgs false
set_option maxRecDepth 100000

theorem wrap8 (x : Int) (h0 : 0 ≤ x) (h1 : x < 256) : Go.IntKind.wrap .u8 x = x := wrapU8 h0 h1
theorem small_ok (N : Nat) (b : UInt8) : ref14_small N ((b.toNat : Nat) : Int) = some (((sm b).toNat : Nat) : Int) := by
  unfold ref14_small
  have hb := UInt8.toNat_lt b
  by_cases h1 : (65 : Int) ≤ ((b.toNat : Nat) : Int)
  · by_cases h2 : ((b.toNat : Nat) : Int) ≤ 90
    · simp only [decide_eq_true h1, decide_eq_true h2, cond_true, Option.bind_some]
      rw [wrap8 _ (by omega) (by omega), sm_up ⟨by omega, by omega⟩]
      congr 1
    · simp only [decide_eq_true h1, decide_eq_false h2, cond_true, Option.bind_some, cond_false]
      rw [sm_id (by omega)]
  · simp only [decide_eq_false h1, cond_false, Option.bind_some]
    rw [sm_id (by omega)]
theorem toBy_nat : ∀ l : List UInt8, toBy (l.map fun b => ((b.toNat : Nat) : Int)) = some l := fun l => by
  have h : AllB (l.map fun b => ((b.toNat : Nat) : Int)) := fun x hx => by
    obtain ⟨b, _, rfl⟩ := List.mem_map.1 hx
    have := UInt8.toNat_lt b
    omega
  rw [toBy_map h, List.map_map]
  congr 1
  have : ∀ b : UInt8, byteOf ((b.toNat : Nat) : Int) = b := fun b => by unfold byteOf; simp
  induction l with
  | nil => rfl
  | cons a l ih => rw [List.map_cons, Function.comp, this, ih (fun x hx => h x (by simp at hx ⊢; exact .inr hx))]
theorem lowS_length (s : List UInt8) : (lowS s).length = s.length := by simp [lowS]
theorem rlower_ok {N : Nat} (s : List UInt8) (h : s.length < N) (hb : s.length < 1000000000) : ref14_Lower N s = some (lowS s) := by
  have hr : roomB (Int.toNat (((List.length s) : Nat) : Int)) 1 = true := by rw [Int.toNat_natCast]; exact roomB_of (by have := big_len; omega) (by omega)
  have hl : ref14_Lower_L3_R N ((s, ((0 : Int), ())), (List.replicate (Int.toNat (((List.length s) : Nat) : Int)) (0 : Int), ())) = some ((), (s.map fun b => (((sm b).toNat : Nat) : Int), ())) := by
    rw [Int.toNat_natCast]
    unfold ref14_Lower_L3_R
    have := gl_run (G := fun X c => ref14_Lower_L3 N X c.1.1 c.1.2.1 c.2.1) (fun i => ((s, ((i : Int), ())), ((s.take i).map (fun b => (((sm b).toNat : Nat) : Int)) ++ List.replicate (s.length - i) 0, ()))) s.length ((), (s.map fun b => (((sm b).toNat : Nat) : Int), ())) (fun X i hi => ?_) (fun X => ?_) N 0 (Nat.zero_le _) (by omega)
    · simpa using this
    · have c1 : ((i : Int) < (((List.length s) : Nat) : Int)) := by omega
      have e3 : Go.IntKind.wrap .i64 ((i : Int) + 1) = ((i + 1 : Nat) : Int) := by rw [wrap64 (by omega) (by omega)]; omega
      have hlen : ((s.take i).map (fun b => (((sm b).toNat : Nat) : Int)) ++ List.replicate (s.length - i) (0 : Int)).length = s.length := by simp; omega
      have c2 : ((0 : Int) ≤ (i : Int) ∧ (i : Int) < (((List.length ((s.take i).map (fun b => (((sm b).toNat : Nat) : Int)) ++ List.replicate (s.length - i) (0 : Int))) : Nat) : Int)) := by rw [hlen]; omega
      have e4 : ((s.take i).map (fun b => (((sm b).toNat : Nat) : Int)) ++ List.replicate (s.length - i) (0 : Int)).set i (((sm s[i]).toNat : Nat) : Int) = (s.take (i + 1)).map (fun b => (((sm b).toNat : Nat) : Int)) ++ List.replicate (s.length - (i + 1)) 0 := by
        have h1 : ((s.take i).map (fun b => (((sm b).toNat : Nat) : Int))).length = i := by simp; omega
        rw [List.set_append_right _ _ (by omega), h1, Nat.sub_self]
        obtain ⟨m, hm⟩ : ∃ m, s.length - i = m + 1 := ⟨s.length - i - 1, by omega⟩
        rw [hm, List.replicate_succ, List.set_cons_zero, show s.length - (i + 1) = m by omega, List.take_succ_eq_append_getElem hi, List.map_append]
        simp
      have e5 : ∃ v, ((s.take i).map (fun b => (((sm b).toNat : Nat) : Int)) ++ List.replicate (s.length - i) (0 : Int))[i]? = some v := ⟨_, List.getElem?_eq_getElem (by rw [hlen]; exact hi)⟩
      obtain ⟨v, e5⟩ := e5
      simp only [ref14_Lower_L3, decide_eq_true c1, cond_true, getI_lt s i hi, Option.bind_some, small_ok, decide_eq_true c2, Int.toNat_natCast, e5, e3, e4]
    · have c1 : ¬ ((((List.length s) : Nat) : Int) < (((List.length s) : Nat) : Int)) := by omega
      simp only [ref14_Lower_L3, decide_eq_false c1, cond_false, Nat.sub_self, List.replicate_zero, List.append_nil, List.take_length]
  unfold ref14_Lower
  have c : ((0 : Int) ≤ (((List.length s) : Nat) : Int) ∧ (((List.length s) : Nat) : Int) ≤ (((List.length s) : Nat) : Int)) := by omega
  have h2 := toBy_nat (lowS s)
  unfold lowS at h2
  rw [List.map_map] at h2
  simp only [decide_eq_true c, hr, Bool.and_self, cond_true, hl, Option.bind_some]
  rw [show (s.map fun b => (((sm b).toNat : Nat) : Int)) = s.map ((fun b : UInt8 => ((b.toNat : Nat) : Int)) ∘ sm) from rfl, h2]
  rfl
theorem alike_ok {N : Nat} (a b : List UInt8) (h1 : a.length ≤ 1000000) (h2 : b.length ≤ 1000000) : words_Alike N a b = some (decide (lowS a = lowS b)) := by
  unfold words_Alike
  simp only [decide_eq_true h1, decide_eq_true h2, cond_true, Option.bind_some]
theorem ralike_ok {N : Nat} (a b : List UInt8) (h1 : a.length < N) (h2 : b.length < N) (h3 : a.length < 1000000) (h4 : b.length < 1000000) : ref14_Alike N a b = some (decide (lowS a = lowS b)) := by
  unfold ref14_Alike
  rw [rlower_ok a h1 (by omega), rlower_ok b h2 (by omega)]
  simp only [Option.bind_some]

/-! ### Signs of a token -/
def tokI (r : Int) : Bool := decide (r = 45 ∨ r = 95 ∨ r = 46 ∨ r = 123 ∨ r = 125 ∨ r = 47 ∨ (48 ≤ r ∧ r ≤ 57) ∨ (65 ≤ r ∧ r ≤ 90) ∨ (97 ≤ r ∧ r ≤ 122))
def digI (r : Int) : Bool := decide (48 ≤ r ∧ r ≤ 57)
theorem digit_ok (N : Nat) (r : Int) : words_isDigit N r = some (digI r) := by
  unfold words_isDigit digI
  by_cases h1 : (48 : Int) ≤ r
  · by_cases h2 : r ≤ 57
    · simp [h1, h2]
    · simp [h1, h2]
  · simp [h1]
theorem inTok_ok (N : Nat) (r : Int) : words_inToken N r = some (tokI r) := by
  unfold words_inToken
  simp only [digit_ok, Option.bind_some]
  by_cases h1 : r = 45
  · subst h1; rfl
  by_cases h2 : r = 95
  · subst h2; rfl
  by_cases h3 : r = 46
  · subst h3; rfl
  by_cases h4 : r = 123
  · subst h4; rfl
  by_cases h5 : r = 125
  · subst h5; rfl
  by_cases h6 : r = 47
  · subst h6; rfl
  simp only [decide_eq_false h1, decide_eq_false h2, decide_eq_false h3, decide_eq_false h4, decide_eq_false h5, decide_eq_false h6, cond_false]
  unfold tokI digI
  by_cases a1 : (48 : Int) ≤ r <;> by_cases a2 : r ≤ 57 <;> by_cases a3 : (65 : Int) ≤ r <;> by_cases a4 : r ≤ 90 <;> by_cases a5 : (97 : Int) ≤ r <;> by_cases a6 : r ≤ 122 <;>
    simp [a1, a2, a3, a4, a5, a6, h1, h2, h3, h4, h5, h6]
def tokC (b : UInt8) : Bool := tokI (b.toNat : Int)
def digC (b : UInt8) : Bool := digI (b.toNat : Int)
theorem tokI_hi {r : Int} (h : 128 ≤ r) : tokI r = false := decide_eq_false (by omega)
theorem digI_hi {r : Int} (h : 128 ≤ r) : digI r = false := decide_eq_false (by omega)
theorem getD_at {s : List UInt8} {p : Nat} (h : p < s.length) : s.getD p 0 = s[p] := by rw [List.getD_eq_getElem?_getD, List.getElem?_eq_getElem h, Option.getD_some]
theorem ptok_loop (N : Nat) (s : List UInt8) : ∀ (n p : Nat), p ≤ s.length → s.length - p < n → gl (fun X c => words_Token_L2 N X c.1.1 c.2.1 c.2.2.1) n ((s, ()), (s, ((p : Int), ()))) = some (if (s.drop p).all tokC = true then .inr ((s, ()), ()) else .inl ((false, ()), ()))
  | 0, p, _, h => by omega
  | n + 1, p, hp, h => by
    rw [gl_succ]
    rcases Nat.lt_or_ge p s.length with hlt | hge
    · have c1 : Int.toNat (p : Int) < List.length s := by rw [Int.toNat_natCast]; exact hlt
      rw [List.drop_eq_getElem_cons hlt, List.all_cons]
      rcases dec_ge s p hlt with ⟨h1, h2⟩ | ⟨h1, h2, h3, h4, h5⟩
      · have ht : words_inToken N (rdec s (p : Int)).1 = some (tokC s[p]) := by rw [h2, inTok_ok, getD_at hlt]; rfl
        have e1 : (((Int.toNat (p : Int)) : Nat) : Int) + (rdec s (p : Int)).2 = ((p + 1 : Nat) : Int) := by rw [h2, Int.toNat_natCast]; omega
        simp only [words_Token_L2, decide_eq_true c1, cond_true, ht, Option.bind_some, e1]
        cases hc : tokC s[p] with
        | false => simp
        | true =>
          simp only [Bool.not_true, cond_false, Bool.true_and]
          exact ptok_loop N s n (p + 1) (by omega) (by omega)
      · have ht : words_inToken N (rdec s (p : Int)).1 = some false := by rw [inTok_ok, tokI_hi h2]
        have hc : tokC s[p] = false := by rw [← getD_at hlt]; exact tokI_hi (by omega)
        simp only [words_Token_L2, decide_eq_true c1, cond_true, ht, Option.bind_some, Bool.not_false, hc, Bool.false_and]
        rfl
    · have c1 : ¬ (Int.toNat (p : Int) < List.length s) := by rw [Int.toNat_natCast]; omega
      rw [List.drop_of_length_le hge]
      simp only [words_Token_L2, decide_eq_false c1, cond_false, List.all_nil, if_true]
def tokB (s : List UInt8) : Bool := s.all tokC && decide (1 ≤ s.length ∧ s.length ≤ 64)
theorem tok_end (s : List UInt8) (o : (((Bool × Unit) × Unit) ⊕ (((List UInt8) × Unit) × Unit))) (ho : o = if s.all tokC = true then .inr ((s, ()), ()) else .inl ((false, ()), ())) :
    Sum.elim (fun (v3 : ((Bool × Unit) × Unit)) => some (v3.1.1)) (fun (v3 : (((List UInt8) × Unit) × Unit)) =>
      bif (decide ((1 : Int) ≤ (((List.length v3.1.1) : Nat) : Int))) then Option.bind (some ((@cond Bool Bool.true (decide ((((List.length v3.1.1) : Nat) : Int) ≤ (64 : Int))) Bool.false))) fun (v4 : Bool) => some (v4)
      else Option.bind (some (Bool.false)) fun (v4 : Bool) => some (v4)) o = some (tokB s) := by
  subst ho
  unfold tokB
  cases hc : s.all tokC with
  | false => simp
  | true =>
    by_cases h1 : 1 ≤ s.length
    · have c1 : (1 : Int) ≤ (((List.length s) : Nat) : Int) := by omega
      by_cases h2 : s.length ≤ 64
      · have c2 : (((List.length s) : Nat) : Int) ≤ 64 := by omega
        simp only [if_true, Sum.elim_inr, decide_eq_true c1, decide_eq_true c2, cond_true, Option.bind_some, Bool.true_and]
        congr 1
        exact (decide_eq_true ⟨h1, h2⟩).symm
      · have c2 : ¬ ((((List.length s) : Nat) : Int) ≤ 64) := by omega
        simp only [if_true, Sum.elim_inr, decide_eq_true c1, decide_eq_false c2, cond_true, Option.bind_some, Bool.true_and]
        congr 1
        exact (decide_eq_false (fun h => h2 h.2)).symm
    · have c1 : ¬ ((1 : Int) ≤ (((List.length s) : Nat) : Int)) := by omega
      simp only [if_true, Sum.elim_inr, decide_eq_false c1, cond_false, Option.bind_some, Bool.true_and]
      congr 1
      exact (decide_eq_false (fun h => h1 h.1)).symm
theorem token_ok {N : Nat} (s : List UInt8) (h : s.length < N) : words_Token N s = some (tokB s) := by
  unfold words_Token words_Token_L2_R
  have := ptok_loop N s N 0 (Nat.zero_le _) (by omega)
  rw [List.drop_zero] at this
  rw [show ((0 : Int)) = ((0 : Nat) : Int) from rfl, this, Option.bind_some]
  exact tok_end s _ rfl
theorem rtok_loop (N : Nat) (s : List UInt8) (hb : s.length < 1000000) : ∀ (n p : Nat), p ≤ s.length → s.length - p < n → gl (fun X c => ref14_Token_L2 N X c.1.1 c.1.2.1) n ((s, ((p : Int), ())), ()) = some (if (s.drop p).all tokC = true then .inr ((s, ()), ()) else .inl ((false, ()), ()))
  | 0, p, _, h => by omega
  | n + 1, p, hp, h => by
    rw [gl_succ]
    rcases Nat.lt_or_ge p s.length with hlt | hge
    · have c1 : (p : Int) < (((List.length s) : Nat) : Int) := by omega
      have e3 : Go.IntKind.wrap .i64 ((p : Int) + 1) = ((p + 1 : Nat) : Int) := by rw [wrap64 (by omega) (by omega)]; omega
      rw [List.drop_eq_getElem_cons hlt, List.all_cons]
      have key : ∀ X, ref14_Token_L2 N X s (p : Int) = bif (!(tokC s[p])) then some (.inl ((false, ()), ())) else X ((s, (((p + 1 : Nat) : Int), ())), ()) := fun X => by
        simp only [ref14_Token_L2, decide_eq_true c1, cond_true, getI_lt s p hlt, Option.bind_some, small_ok, e3]
        generalize s[p] = b
        have hb := UInt8.toNat_lt b
        have key2 : ∀ z : Int, z = (((sm b).toNat : Nat) : Int) → ((97 ≤ z ∧ z ≤ 122) ∨ (48 ≤ z ∧ z ≤ 57) ∨ z = 45 ∨ z = 95 ∨ z = 46 ∨ z = 123 ∨ z = 125 ∨ z = 47 ↔ tokC b = true) := fun z hz => by
          unfold tokC tokI
          rw [decide_eq_true_iff]
          by_cases hu : 65 ≤ b.toNat ∧ b.toNat ≤ 90
          · rw [sm_up hu] at hz; omega
          · rw [sm_id hu] at hz; omega
        generalize hz : (((sm b).toNat : Nat) : Int) = z
        have k2 := key2 z hz.symm
        cases ht : tokC b with
        | true =>
          have := k2.2 ht
          by_cases a1 : (97 : Int) ≤ z <;> by_cases a2 : z ≤ 122 <;> by_cases a3 : (48 : Int) ≤ z <;> by_cases a4 : z ≤ 57 <;> by_cases a5 : z = 45 <;> by_cases a6 : z = 95 <;> by_cases a7 : z = 46 <;> by_cases a8 : z = 123 <;> by_cases a9 : z = 125 <;> by_cases a0 : z = 47 <;>
            first | (exfalso; omega) | simp [a1, a2, a3, a4, a5, a6, a7, a8, a9, a0]
        | false =>
          have hn : ¬ ((97 ≤ z ∧ z ≤ 122) ∨ (48 ≤ z ∧ z ≤ 57) ∨ z = 45 ∨ z = 95 ∨ z = 46 ∨ z = 123 ∨ z = 125 ∨ z = 47) := fun hc => by rw [k2.1 hc] at ht; cases ht
          have a5 : ¬ z = 45 := by omega
          have a6 : ¬ z = 95 := by omega
          have a7 : ¬ z = 46 := by omega
          have a8 : ¬ z = 123 := by omega
          have a9 : ¬ z = 125 := by omega
          have a0 : ¬ z = 47 := by omega
          by_cases a1 : (97 : Int) ≤ z <;> by_cases a2 : z ≤ 122 <;> by_cases a3 : (48 : Int) ≤ z <;> by_cases a4 : z ≤ 57 <;>
            first | (exfalso; omega) | simp [a1, a2, a3, a4, a5, a6, a7, a8, a9, a0]
      show ref14_Token_L2 N _ s (p : Int) = _
      rw [key]
      cases hc : tokC s[p] with
      | false => simp
      | true =>
        simp only [Bool.not_true, cond_false, Bool.true_and]
        exact rtok_loop N s hb n (p + 1) (by omega) (by omega)
    · have c1 : ¬ ((p : Int) < (((List.length s) : Nat) : Int)) := by omega
      rw [List.drop_of_length_le hge]
      show ref14_Token_L2 N _ s (p : Int) = _
      simp only [ref14_Token_L2, decide_eq_false c1, cond_false, List.all_nil, if_true]
theorem rtoken_ok {N : Nat} (s : List UInt8) (h : s.length < N) (hb : s.length < 1000000) : ref14_Token N s = some (tokB s) := by
  unfold ref14_Token ref14_Token_L2_R
  have := rtok_loop N s hb N 0 (Nat.zero_le _) (by omega)
  rw [List.drop_zero] at this
  rw [show ((0 : Int)) = ((0 : Nat) : Int) from rfl, this, Option.bind_some]
  exact tok_end s _ rfl
end Go.Proofs.YtailoanlfbpfnaaDoor
/-
  Layer 14, on plain data: blanks, and numbers.
-/
namespace Go.Proofs.YtailoanlfbpfnaaDoor
set_option maxRecDepth 100000
open Go.RowKit
set_option linter.unusedVariables false
set_option linter.unusedSimpArgs false
set_option maxRecDepth 100000

/-! ### Blanks -/
def blk (b : UInt8) : Bool := [32, 9].contains b
theorem blank_ok (N : Nat) (b : UInt8) : ref14_blank N ((b.toNat : Nat) : Int) = some (blk b) := by
  unfold ref14_blank
  have h1 : (((b.toNat : Nat) : Int) = 32) ↔ b = 32 := ⟨fun h => UInt8.toNat_inj.1 (by have : (32 : UInt8).toNat = 32 := rfl; omega), fun h => by subst h; rfl⟩
  have h2 : (((b.toNat : Nat) : Int) = 9) ↔ b = 9 := ⟨fun h => UInt8.toNat_inj.1 (by have : (9 : UInt8).toNat = 9 := rfl; omega), fun h => by subst h; rfl⟩
  by_cases a1 : b = 32
  · simp only [decide_eq_true (h1.2 a1), cond_true, Option.bind_some]
    subst a1; rfl
  · by_cases a2 : b = 9
    · simp only [decide_eq_false (fun h => a1 (h1.1 h)), decide_eq_true (h2.2 a2), cond_false, Option.bind_some]
      subst a2; rfl
    · simp only [decide_eq_false (fun h => a1 (h1.1 h)), decide_eq_false (fun h => a2 (h2.1 h)), cond_false, Option.bind_some]
      congr 1
      symm
      unfold blk
      simp [a1, a2]
theorem trimL_loop (N : Nat) : ∀ (n : Nat) (s : List UInt8), s.length < n → gl (fun X c => ref14_Trim_L1 N X c.1.1) n ((s, ()), ()) = some ((s.dropWhile blk, ()), ())
  | 0, s, h => by omega
  | n + 1, [], h => by
    rw [gl_succ]
    rfl
  | n + 1, b :: s, h => by
    rw [gl_succ]
    have c1 : (0 : Int) < (((List.length (b :: s)) : Nat) : Int) := by simp only [List.length_cons]; omega
    have hg : getI (b :: s) (0 : Int) = some b := rfl
    have hd : dropI (b :: s) (1 : Int) = some s := by
      have := dropI_nat (b :: s) (a := (1 : Int)) (i := 1) rfl (by simp)
      exact this
    have key : ∀ X, ref14_Trim_L1 N X (b :: s) = bif blk b then X ((s, ()), ()) else some ((b :: s, ()), ()) := fun X => by
      simp only [ref14_Trim_L1, decide_eq_true c1, cond_true, hg, Option.bind_some, blank_ok]
      cases hb : blk b with
      | true => simp only [cond_true, hd, Option.bind_some]
      | false => simp only [cond_false, cond_true]
    show ref14_Trim_L1 N _ (b :: s) = _
    rw [key]
    cases hb : blk b with
    | true =>
      rw [cond_true, trimL_loop N n s (by simp only [List.length_cons] at h; omega), List.dropWhile_cons_of_pos hb]
    | false =>
      rw [cond_false, List.dropWhile_cons_of_neg (by simp [hb])]
def tailW (s : List UInt8) : List UInt8 := (s.reverse.dropWhile blk).reverse
theorem tailW_app (s : List UInt8) (b : UInt8) : tailW (s ++ [b]) = if blk b = true then tailW s else s ++ [b] := by
  unfold tailW
  rw [List.reverse_append]
  simp only [List.reverse_cons, List.reverse_nil, List.nil_append, List.singleton_append]
  by_cases hb : blk b = true
  · rw [List.dropWhile_cons_of_pos hb, if_pos hb]
  · rw [List.dropWhile_cons_of_neg hb, if_neg hb]
    simp
theorem trimR_loop (N : Nat) : ∀ (n : Nat) (s : List UInt8), s.length < n → s.length < 1000000 → gl (fun X c => ref14_Trim_L3 N X c.1.1) n ((s, ()), ()) = some ((tailW s, ()), ())
  | 0, s, h, _ => by omega
  | n + 1, s, h, hb => by
    rw [gl_succ]
    show ref14_Trim_L3 N _ s = _
    rcases Nat.eq_zero_or_pos s.length with h0 | h0
    · have : s = [] := List.eq_nil_of_length_eq_zero h0
      subst this; rfl
    · obtain ⟨t, b, rfl⟩ : ∃ t b, s = t ++ [b] := ⟨s.dropLast, s.getLast (by intro hc; subst hc; simp at h0), (List.dropLast_concat_getLast _).symm⟩
      have hl : (t ++ [b]).length = t.length + 1 := by simp
      have c1 : (0 : Int) < (((List.length (t ++ [b])) : Nat) : Int) := by omega
      have e1 : Go.IntKind.wrap .i64 ((((List.length (t ++ [b])) : Nat) : Int) - 1) = ((t.length : Nat) : Int) := by rw [wrap64 (by omega) (by omega)]; omega
      have hg : getI (t ++ [b]) ((t.length : Nat) : Int) = some b := by rw [getI_nat]; simp
      have hd : takeI (t ++ [b]) ((t.length : Nat) : Int) = some t := by rw [takeI_nat (i := t.length) _ rfl (by omega)]; simp
      have key : ∀ X, ref14_Trim_L3 N X (t ++ [b]) = bif blk b then X ((t, ()), ()) else some ((t ++ [b], ()), ()) := fun X => by
        simp only [ref14_Trim_L3, decide_eq_true c1, cond_true, e1, hg, Option.bind_some, blank_ok]
        cases hb : blk b with
        | true => simp only [cond_true, hd, Option.bind_some]
        | false => simp only [cond_false, cond_true]
      rw [key, tailW_app]
      cases hb : blk b with
      | true =>
        rw [cond_true, if_pos rfl]
        exact trimR_loop N n t (by omega) (by omega)
      | false =>
        rw [cond_false]
        rfl
theorem drop_app (p : UInt8 → Bool) : ∀ (a m : List UInt8) (x : UInt8), a.all p = true → p x = false → (a ++ x :: m).dropWhile p = x :: m
  | [], m, x, _, hx => by simp [hx]
  | y :: a, m, x, ha, hx => by
    simp only [List.all_cons, Bool.and_eq_true] at ha
    rw [List.cons_append, List.dropWhile_cons_of_pos ha.1]
    exact drop_app p a m x ha.2 hx
theorem split_first (p : UInt8 → Bool) : ∀ s : List UInt8, s.all p = true ∨ ∃ a x m, s = a ++ x :: m ∧ a.all p = true ∧ p x = false
  | [] => .inl rfl
  | y :: s => by
    cases hy : p y with
    | false => exact .inr ⟨[], y, s, rfl, rfl, hy⟩
    | true =>
      rcases split_first p s with h | ⟨a, x, m, h1, h2, h3⟩
      · exact .inl (by simp [hy, h])
      · exact .inr ⟨y :: a, x, m, by rw [h1]; rfl, by simp [hy, h2], h3⟩
theorem all_drop (p : UInt8 → Bool) (s : List UInt8) (h : s.all p = true) : s.dropWhile p = [] := by
  induction s with
  | nil => rfl
  | cons y s ih =>
    simp only [List.all_cons, Bool.and_eq_true] at h
    rw [List.dropWhile_cons_of_pos h.1, ih h.2]
/-- Both ends, in either order. -/
theorem both_ends (s : List UInt8) : tailW (s.dropWhile blk) = (tailW s).dropWhile blk := by
  rcases split_first blk s with h | ⟨a, x, m, rfl, h2, h3⟩
  · have hr : (s.reverse).all blk = true := by rw [List.all_reverse]; exact h
    have e1 : tailW s = [] := by unfold tailW; rw [all_drop _ _ hr]; rfl
    rw [all_drop _ _ h, e1]; rfl
  · rw [drop_app _ _ _ _ h2 h3]
    rcases split_first blk (m.reverse) with hm | ⟨c, y, r, hm, hc, hy⟩
    · have hm' : m.all blk = true := by rw [← List.all_reverse]; exact hm
      have e1 : tailW (x :: m) = [x] := by
        unfold tailW
        rw [List.reverse_cons, drop_app _ _ _ _ hm h3]; rfl
      have e2 : tailW (a ++ x :: m) = a ++ [x] := by
        unfold tailW
        rw [List.reverse_append, List.reverse_cons, List.append_assoc, List.singleton_append, drop_app _ _ _ _ hm h3]
        simp
      rw [e1, e2, drop_app _ _ _ _ h2 h3]
    · have e0 : m = r.reverse ++ y :: c.reverse := by
        have := congrArg List.reverse hm
        simpa using this
      have e1 : tailW (x :: m) = x :: (r.reverse ++ [y]) := by
        unfold tailW
        rw [List.reverse_cons, hm, List.append_assoc, List.cons_append, drop_app _ _ _ _ hc hy]
        simp
      have e2 : tailW (a ++ x :: m) = a ++ x :: (r.reverse ++ [y]) := by
        unfold tailW
        rw [List.reverse_append, List.reverse_cons, hm, List.append_assoc, List.append_assoc, List.cons_append, drop_app _ _ _ _ hc hy]
        simp
      rw [e1, e2, drop_app _ _ _ _ h2 h3]
def trimB (s : List UInt8) : List UInt8 := Go.Lib.trimS s [32, 9]
theorem rtrim_ok {N : Nat} (s : List UInt8) (h : s.length < N) (hb : s.length < 1000000) : ref14_Trim N s = some (trimB s) := by
  unfold ref14_Trim ref14_Trim_L1_R ref14_Trim_L3_R
  rw [trimL_loop N N s h, Option.bind_some]
  have hl : (s.dropWhile blk).length ≤ s.length := (List.dropWhile_sublist _).length_le
  rw [trimR_loop N N _ (by show (s.dropWhile blk).length < N; omega) (by show (s.dropWhile blk).length < 1000000; omega), Option.bind_some]
  show some (tailW (s.dropWhile blk)) = _
  rw [both_ends]
  rfl
theorem trim_ok {N : Nat} (s : List UInt8) (h : s.length ≤ 281474976710656) : words_Trim N s = some (trimB s) := by
  unfold words_Trim
  simp only [decide_eq_true h, cond_true]
  rfl
end Go.Proofs.YtailoanlfbpfnaaDoor
/-
  Layer 14, on plain data: numbers.
-/
namespace Go.Proofs.YtailoanlfbpfnaaDoor
set_option maxRecDepth 100000
open Go.RowKit
set_option linter.unusedVariables false
set_option linter.unusedSimpArgs false
set_option maxRecDepth 100000

theorem pnum_loop (N : Nat) (s : List UInt8) : ∀ (n p : Nat), p ≤ s.length → s.length - p < n → gl (fun X c => words_isNumber_L2 N X c.1.1 c.2.1 c.2.2.1) n ((s, ()), (s, ((p : Int), ()))) = some (if (s.drop p).all digC = true then .inr ((s, ()), ()) else .inl ((false, ()), ()))
  | 0, p, _, h => by omega
  | n + 1, p, hp, h => by
    rw [gl_succ]
    rcases Nat.lt_or_ge p s.length with hlt | hge
    · have c1 : Int.toNat (p : Int) < List.length s := by rw [Int.toNat_natCast]; exact hlt
      rw [List.drop_eq_getElem_cons hlt, List.all_cons]
      rcases dec_ge s p hlt with ⟨h1, h2⟩ | ⟨h1, h2, h3, h4, h5⟩
      · have ht : words_isDigit N (rdec s (p : Int)).1 = some (digC s[p]) := by rw [h2, digit_ok, getD_at hlt]; rfl
        have e1 : (((Int.toNat (p : Int)) : Nat) : Int) + (rdec s (p : Int)).2 = ((p + 1 : Nat) : Int) := by rw [h2, Int.toNat_natCast]; omega
        simp only [words_isNumber_L2, decide_eq_true c1, cond_true, ht, Option.bind_some, e1]
        cases hc : digC s[p] with
        | false => simp
        | true =>
          simp only [Bool.not_true, cond_false, Bool.true_and]
          exact pnum_loop N s n (p + 1) (by omega) (by omega)
      · have ht : words_isDigit N (rdec s (p : Int)).1 = some false := by rw [digit_ok, digI_hi h2]
        have hc : digC s[p] = false := by rw [← getD_at hlt]; exact digI_hi (by omega)
        simp only [words_isNumber_L2, decide_eq_true c1, cond_true, ht, Option.bind_some, Bool.not_false, hc, Bool.false_and]
        rfl
    · have c1 : ¬ (Int.toNat (p : Int) < List.length s) := by rw [Int.toNat_natCast]; omega
      rw [List.drop_of_length_le hge]
      simp only [words_isNumber_L2, decide_eq_false c1, cond_false, List.all_nil, if_true]
/-- Digits, of which the first is no nought, or one nought. -/
def numB (s : List UInt8) : Bool := s.all digC && decide (s ≠ [] ∧ (s = [48] ∨ s.getD 0 0 ≠ 48))
theorem u48 (b : UInt8) : (((b.toNat : Nat) : Int) = 48) ↔ b = 48 := ⟨fun h => UInt8.toNat_inj.1 (by have : (48 : UInt8).toNat = 48 := rfl; omega), fun h => by subst h; rfl⟩
theorem isNum_ok {N : Nat} (s : List UInt8) (h : s.length < N) : words_isNumber N s = some (numB s) := by
  unfold words_isNumber words_isNumber_L2_R
  have := pnum_loop N s N 0 (Nat.zero_le _) (by omega)
  rw [List.drop_zero] at this
  rw [show ((0 : Int)) = ((0 : Nat) : Int) from rfl, this, Option.bind_some]
  unfold numB
  cases hc : s.all digC with
  | false => rfl
  | true =>
    simp only [if_true, Sum.elim_inr, Bool.true_and]
    by_cases h1 : s = [48]
    · subst h1; rfl
    · match s, h1 with
      | [], _ => rfl
      | b :: t, h1 =>
        have hd : decide ((b :: t) = [(48 : UInt8)]) = false := decide_eq_false h1
        have hd2 : decide ((b :: t) = ([] : List UInt8)) = false := rfl
        have hg : getI (b :: t) ((0 : Nat) : Int) = some b := rfl
        by_cases hb : b = 48
        · have e : decide ((((b.toNat : Nat)) : Int) = 48) = true := decide_eq_true ((u48 b).2 hb)
          simp only [hd, cond_false, hd2, Bool.not_false, cond_true, hg, Option.bind_some, e, Bool.not_true]
          congr 1
          symm
          exact decide_eq_false (fun hx => hx.2.elim h1 (fun hy => hy hb))
        · have e : decide ((((b.toNat : Nat)) : Int) = 48) = false := decide_eq_false (fun hx => hb ((u48 b).1 hx))
          simp only [hd, cond_false, hd2, Bool.not_false, cond_true, hg, Option.bind_some, e]
          congr 1
          symm
          exact decide_eq_true ⟨by simp, .inr hb⟩
/-- What digits tell behind acc, if it may be. -/
def vm : Nat → List UInt8 → Option Nat
  | acc, [] => some acc
  | acc, c :: r => if 18446744073709551615 < acc * 10 + (c.toNat - 48) then none else vm (acc * 10 + (c.toNat - 48)) r
theorem vm_parse : ∀ (s : List UInt8) (acc : Nat), s.all digC = true → Go.Lib.parseUintM 18446744073709551615 acc s = (match vm acc s with | some u => .ok u | none => .range)
  | [], acc, _ => rfl
  | c :: r, acc, h => by
    simp only [List.all_cons, Bool.and_eq_true] at h
    have hc : 48 ≤ c.toNat ∧ c.toNat ≤ 57 := by
      have := of_decide_eq_true h.1
      omega
    unfold Go.Lib.parseUintM vm
    rw [if_pos hc]
    by_cases h1 : 1844674407370955162 ≤ acc
    · rw [if_pos h1, if_pos (by omega)]
    · rw [if_neg h1]
      by_cases h2 : 18446744073709551615 < acc * 10 + (c.toNat - 48)
      · rw [if_pos h2, if_pos h2]
      · rw [if_neg h2, if_neg h2, vm_parse r _ h.2]
def numR (s : List UInt8) : Int × Int := if numB s = true then (match vm 0 s with | some u => ((u : Int), 0) | none => (0, 8)) else (0, 3)
theorem number_ok {N : Nat} (s : List UInt8) (h : s.length < N) (hb : s.length ≤ 1000000) : words_Number N s = some (numR s) := by
  have c : List.length s ≤ (281474976710656 : Nat) := by omega
  unfold words_Number numR
  rw [isNum_ok s h, Option.bind_some]
  cases hn : numB s with
  | false => rfl
  | true =>
    have hn' := hn
    unfold numB at hn'
    rw [Bool.and_eq_true] at hn'
    have hne := (of_decide_eq_true hn'.2).1
    simp only [Bool.not_true, cond_false, decide_eq_true c, cond_true, if_true]
    have hp : puS s = (match vm 0 s with | some u => (Sum.inl (u : Int) : Sum Int Int) | none => .inr 18446744073709551615) := by
      unfold puS Go.Lib.parseUintB
      rw [if_neg hne, show (2 ^ 64 - 1 : Nat) = 18446744073709551615 from rfl, vm_parse s 0 hn'.1]
      cases vm 0 s <;> rfl
    rw [hp]
    cases vm 0 s <;> rfl
theorem dig_iff (b : UInt8) : digC b = true ↔ 48 ≤ b.toNat ∧ b.toNat ≤ 57 := by
  unfold digC digI
  rw [decide_eq_true_iff]
  omega
theorem wrapU64 {x : Int} (h0 : 0 ≤ x) (h1 : x < 18446744073709551616) : Go.IntKind.wrap .u64 x = x := by rw [IntKind.wrap_u64]; omega
/-! ### A number's digits -/
theorem vm_app : ∀ (s : List UInt8) (acc : Nat) (c : UInt8) (u : Nat), vm acc s = some u → vm acc (s ++ [c]) = if 18446744073709551615 < u * 10 + (c.toNat - 48) then none else some (u * 10 + (c.toNat - 48))
  | [], acc, c, u, h => by
    simp only [vm, Option.some.injEq] at h
    subst h
    rfl
  | d :: s, acc, c, u, h => by
    rw [List.cons_append]
    unfold vm at h ⊢
    split at h
    · cases h
    · rename_i hx
      rw [if_neg hx]
      exact vm_app s _ c u h
theorem dig_nat {k : Nat} (h : k < 10) : digC (UInt8.ofNat (48 + k)) = true ∧ (UInt8.ofNat (48 + k)).toNat = 48 + k := by
  have : (UInt8.ofNat (48 + k)).toNat = 48 + k := by simp; omega
  exact ⟨(dig_iff _).2 (by omega), this⟩
theorem dec_facts2 : ∀ (n : Nat) (u : Nat), u < n → u < 18446744073709551616 → (Go.Lib.decDigits u).all digC = true ∧ vm 0 (Go.Lib.decDigits u) = some u ∧ Go.Lib.decDigits u ≠ [] ∧ (1 ≤ u → (Go.Lib.decDigits u).getD 0 0 ≠ 48) ∧ (Go.Lib.decDigits u).length ≤ u + 1
  | 0, u, h, _ => by omega
  | n + 1, u, h, hu => by
    rw [Go.Lib.decDigits]
    by_cases h10 : u < 10
    · rw [dif_pos h10]
      obtain ⟨d1, d2⟩ := dig_nat h10
      refine ⟨by rw [List.all_cons, d1]; rfl, ?_, by simp, fun h1 => ?_, by simp⟩
      · simp only [vm, d2]
        rw [if_neg (by omega)]
        congr 1
        omega
      · intro hc
        have h2 : UInt8.ofNat (48 + u) = 48 := hc
        have h3 : (UInt8.ofNat (48 + u)).toNat = 48 := by rw [h2]; rfl
        omega
    · rw [dif_neg h10]
      obtain ⟨g1, g2, g3, g4, g5⟩ := dec_facts2 n (u / 10) (by omega) (by omega)
      obtain ⟨d1, d2⟩ := dig_nat (k := u % 10) (by omega)
      refine ⟨by rw [List.all_append, g1, List.all_cons, d1]; rfl, ?_, by simp, fun _ => ?_, by simp; omega⟩
      · rw [vm_app _ _ _ _ g2, d2, if_neg (by omega)]
        congr 1
        omega
      · have h1 := g4 (by omega)
        cases hd : Go.Lib.decDigits (u / 10) with
        | nil => exact absurd hd g3
        | cons a t => rw [hd] at h1; exact h1
theorem dec_zero : Go.Lib.decDigits 0 = [48] := by rw [Go.Lib.decDigits]; rfl
theorem dec_num (u : Nat) (hu : u < 18446744073709551616) : numR (Go.Lib.decDigits u) = ((u : Int), 0) := by
  obtain ⟨g1, g2, g3, g4, _⟩ := dec_facts2 (u + 1) u (by omega) hu
  have hn : numB (Go.Lib.decDigits u) = true := by
    unfold numB
    rw [g1, Bool.true_and]
    refine decide_eq_true ⟨g3, ?_⟩
    rcases Nat.eq_zero_or_pos u with h0 | h0
    · subst h0; exact .inl dec_zero
    · exact .inr (g4 h0)
  unfold numR
  rw [if_pos hn, g2]
theorem dec_len (u : Nat) (hu : u < 18446744073709551616) : (Go.Lib.decDigits u).length ≤ 20 := by
  rw [Go.Lib.decDigits_length]
  by_cases h1 : 1 ≤ u
  · have := Go.Lib.numDigits_eq u h1 hu
    split at this <;> omega
  · have : u = 0 := by omega
    subst this
    rw [← Go.Lib.decDigits_length, dec_zero]
    simp
end Go.Proofs.YtailoanlfbpfnaaDoor
/-
  Layer 14, on plain data: heads.
-/
namespace Go.Proofs.YtailoanlfbpfnaaDoor
set_option maxRecDepth 100000
open Go.RowKit
set_option linter.unusedVariables false
set_option linter.unusedSimpArgs false
set_option maxRecDepth 100000

/-- May the byte i stand there? -/
def mayB (seen : List Int) (i : Nat) : Bool :=
  if seen.getD i 0 = 13 then decide (i + 1 = seen.length) || decide (seen.getD (i + 1) 0 = 10)
  else if seen.getD i 0 = 10 then decide (0 < i) && decide (seen.getD (i - 1) 0 = 13)
  else decide (seen.getD i 0 = 9) || decide (32 ≤ seen.getD i 0 ∧ seen.getD i 0 ≤ 126)
theorem getDI {s : List Int} {p : Nat} (h : p < s.length) : getI s (p : Int) = some (s.getD p 0) := by rw [getI_lt s p h, List.getD_eq_getElem?_getD, List.getElem?_eq_getElem h, Option.getD_some]
theorem may_ok (N : Nat) (seen : List Int) (i : Nat) (h : i < seen.length) (hb : seen.length < 1000000) : words_may N seen (i : Int) = some (mayB seen i) := by
  have e3 : Go.IntKind.wrap .i64 ((i : Int) + 1) = ((i + 1 : Nat) : Int) := by rw [wrap64 (by omega) (by omega)]; omega
  unfold words_may mayB
  rw [getDI h, Option.bind_some, e3]
  by_cases h1 : seen.getD i 0 = 13
  · rw [decide_eq_true h1, cond_true, if_pos h1]
    by_cases h2 : i + 1 = seen.length
    · have c : (((i + 1 : Nat)) : Int) = (((List.length seen) : Nat) : Int) := by rw [h2]
      rw [decide_eq_true c, cond_true, decide_eq_true h2, Bool.true_or]; rfl
    · have c : ¬ ((((i + 1 : Nat)) : Int) = (((List.length seen) : Nat) : Int)) := by omega
      rw [decide_eq_false c, cond_false, decide_eq_false h2, Bool.false_or, getDI (by omega)]; rfl
  · rw [decide_eq_false h1, cond_false, if_neg h1]
    by_cases h3 : seen.getD i 0 = 10
    · rw [decide_eq_true h3, cond_true, if_pos h3]
      by_cases h4 : 0 < i
      · have e4 : Go.IntKind.wrap .i64 ((i : Int) - 1) = ((i - 1 : Nat) : Int) := by rw [wrap64 (by omega) (by omega)]; omega
        have c : (0 : Int) < (i : Int) := by omega
        rw [decide_eq_true c, cond_true, decide_eq_true h4, e4, getDI (by omega), Bool.true_and]
        simp only [Option.bind_some, cond_true]
      · have c : ¬ ((0 : Int) < (i : Int)) := by omega
        rw [decide_eq_false c, cond_false, decide_eq_false h4, Bool.false_and]; rfl
    · rw [decide_eq_false h3, cond_false, if_neg h3]
      by_cases h5 : seen.getD i 0 = 9
      · rw [decide_eq_true h5]; rfl
      · rw [decide_eq_false h5, cond_false, Bool.false_or]
        by_cases h6 : (32 : Int) ≤ seen.getD i 0
        · rw [decide_eq_true h6, cond_true]
          by_cases h7 : seen.getD i 0 ≤ 126
          · rw [decide_eq_true h7, decide_eq_true ⟨h6, h7⟩]; rfl
          · rw [decide_eq_false h7, decide_eq_false (fun hx => h7 hx.2)]; rfl
        · rw [decide_eq_false h6, cond_false, decide_eq_false (fun hx => h6 hx.1)]; rfl
/-- A part of the bytes, as a text. -/
def seg (seen : List Int) (a b : Nat) : List UInt8 := ((seen.drop a).take (b - a)).map byteOf
theorem seg_self (seen : List Int) (a : Nat) : seg seen a a = [] := by unfold seg; rw [Nat.sub_self, List.take_zero]; rfl
theorem seg_length (seen : List Int) (a b : Nat) (h : b ≤ seen.length) : (seg seen a b).length = b - a := by unfold seg; simp; omega
theorem seg_succ (seen : List Int) (a b : Nat) (hab : a ≤ b) (h : b < seen.length) : seg seen a (b + 1) = seg seen a b ++ [byteOf (seen.getD b 0)] := by
  unfold seg
  rw [show b + 1 - a = (b - a) + 1 by omega, List.take_add_one, List.map_append, List.getElem?_drop, show a + (b - a) = b by omega, List.getElem?_eq_getElem h, List.getD_eq_getElem?_getD, List.getElem?_eq_getElem h]
  rfl
def hdS (seen : List Int) : Nat → Nat → Nat → List (List UInt8) → (List (List UInt8) × (Int × Int)) ⊕ Unit
  | 0, _, _, _ => .inr ()
  | f + 1, i, start, ls => if i < seen.length then (if mayB seen i = true then (if seen.getD i 0 = 10 then
      (if seg seen start (i - 1) = [] then .inl (ls, (((i + 1 : Nat) : Int), 0)) else hdS seen f (i + 1) (i + 1) (ls ++ [seg seen start (i - 1)]))
      else hdS seen f (i + 1) start ls) else .inl ([], (0, 3))) else .inr ()
/-- A line begins behind an end, or at the beginning. -/
def Beg (seen : List Int) (start : Nat) : Prop := start = 0 ∨ seen.getD (start - 1) 0 = 10
theorem beg_lt {seen : List Int} {start i : Nat} (hB : Beg seen start) (hs : start ≤ i) (hm : mayB seen i = true) (h10 : seen.getD i 0 = 10) : start + 1 ≤ i ∧ seen.getD (i - 1) 0 = 13 := by
  unfold mayB at hm
  rw [if_neg (by omega), if_pos h10, Bool.and_eq_true] at hm
  have h1 := of_decide_eq_true hm.1
  have h2 := of_decide_eq_true hm.2
  refine ⟨?_, h2⟩
  rcases Nat.lt_or_ge start i with h | h
  · exact h
  · have : start = i := by omega
    subst this
    rcases hB with h3 | h3 <;> omega
def outH (b : List Int) : (List (List UInt8) × (Int × Int)) ⊕ Unit → (((List (List UInt8) × (Int × (Int × Unit))) × Unit) ⊕ ((List Int × Unit) × Unit))
  | .inl r => .inl ((r.1, (r.2.1, (r.2.2, ()))), ())
  | .inr () => .inr ((b, ()), ())
theorem head_loop (N : Nat) (b seen : List Int) (ha : AllB seen) (hb : seen.length < 1000000) : ∀ (n i start : Nat) (ls : List (List UInt8)), i ≤ seen.length → start ≤ i → Beg seen start → ls.length ≤ i → seen.length - i < n →
    gl (fun X c => words_Head_L5 N X c.1.1 c.1.2.1 c.1.2.2.1 c.1.2.2.2.1 c.1.2.2.2.2.1 c.1.2.2.2.2.2.1 c.2.1) n ((b, (seen, ((start : Int), (seen, (((seen.length : Nat) : Int), ((i : Int), ())))))), (ls, ())) = some (outH b (hdS seen n i start ls))
  | 0, i, start, ls, _, _, _, _, h => by omega
  | n + 1, i, start, ls, hi, hs, hB, hls, h => by
    rw [gl_succ]
    show words_Head_L5 N _ b seen (start : Int) seen ((seen.length : Nat) : Int) (i : Int) ls = _
    unfold hdS
    have e3 : Go.IntKind.wrap .i64 ((i : Int) + 1) = ((i + 1 : Nat) : Int) := by rw [wrap64 (by omega) (by omega)]; omega
    rcases Nat.lt_or_ge i seen.length with hlt | hge
    · have c1 : (i : Int) < ((seen.length : Nat) : Int) := by omega
      rw [if_pos hlt]
      cases hm : mayB seen i with
      | false =>
        simp only [words_Head_L5, decide_eq_true c1, cond_true, getDI hlt, Option.bind_some, may_ok N seen i hlt hb, hm, Bool.not_false]
        rfl
      | true =>
        rw [if_pos rfl]
        by_cases h10 : seen.getD i 0 = 10
        · obtain ⟨hlt2, h13⟩ := beg_lt hB hs hm h10
          have e4 : Go.IntKind.wrap .i64 ((i : Int) - 1) = ((i - 1 : Nat) : Int) := by rw [wrap64 (by omega) (by omega)]; omega
          have hsub : subI seen (start : Int) ((i - 1 : Nat) : Int) = some ((seen.drop start).take (i - 1 - start)) := subI_nat seen rfl rfl (by omega) (by omega)
          have hby : toBy ((seen.drop start).take (i - 1 - start)) = some (seg seen start (i - 1)) := toBy_map ((ha.drop _).take _)
          rw [if_pos h10]
          by_cases hz : seg seen start (i - 1) = []
          · rw [if_pos hz]
            have hz2 : decide (seg seen start (i - 1) = ([] : List UInt8)) = true := decide_eq_true hz
            simp only [words_Head_L5, decide_eq_true c1, cond_true, getDI hlt, Option.bind_some, may_ok N seen i hlt hb, hm, Bool.not_true, cond_false, decide_eq_true h10, e4, hsub, hby, hz2, e3]
            rfl
          · rw [if_neg hz]
            have hz2 : decide (seg seen start (i - 1) = ([] : List UInt8)) = false := decide_eq_false hz
            have hr : roomB ((List.length ls) + (List.length ([seg seen start (i - 1)] : List (List UInt8)))) 16 = true := roomB_of (by have := big_len; simp only [List.length_singleton]; omega) (by simp only [List.length_singleton]; omega)
            have key : ∀ X, words_Head_L5 N X b seen (start : Int) seen ((seen.length : Nat) : Int) (i : Int) ls = X ((b, (seen, (((i + 1 : Nat) : Int), (seen, (((seen.length : Nat) : Int), (((i + 1 : Nat) : Int), ())))))), (ls ++ [seg seen start (i - 1)], ())) := fun X => by
              simp only [words_Head_L5, decide_eq_true c1, cond_true, getDI hlt, Option.bind_some, may_ok N seen i hlt hb, hm, Bool.not_true, cond_false, decide_eq_true h10, e4, hsub, hby, hz2, e3, hr]
            rw [key]
            exact head_loop N b seen ha hb n (i + 1) (i + 1) _ (by omega) (Nat.le_refl _) (.inr (by rw [Nat.add_sub_cancel]; exact h10)) (by simp; omega) (by omega)
        · rw [if_neg h10]
          have key : ∀ X, words_Head_L5 N X b seen (start : Int) seen ((seen.length : Nat) : Int) (i : Int) ls = X ((b, (seen, ((start : Int), (seen, (((seen.length : Nat) : Int), (((i + 1 : Nat) : Int), ())))))), (ls, ())) := fun X => by
            simp only [words_Head_L5, decide_eq_true c1, cond_true, getDI hlt, Option.bind_some, may_ok N seen i hlt hb, hm, Bool.not_true, cond_false, decide_eq_false h10, Bool.not_false, e3]
          rw [key]
          exact head_loop N b seen ha hb n (i + 1) start ls (by omega) (by omega) hB (by omega) (by omega)
    · have c1 : ¬ ((i : Int) < ((seen.length : Nat) : Int)) := by omega
      rw [if_neg (by omega)]
      simp only [words_Head_L5, decide_eq_false c1, cond_false]
      rfl
def headR (b : List Int) : List (List UInt8) × (Int × Int) := match hdS (b.take 2048) 200000 0 0 [] with
  | .inl r => r
  | .inr () => if b.length < 2048 then ([], (0, 4)) else ([], (0, 8))
theorem head_end (b : List Int) (o : (List (List UInt8) × (Int × Int)) ⊕ Unit) :
    Sum.elim (fun (v4 : (((List (List UInt8)) × (Int × (Int × Unit))) × Unit)) => some ((v4.1.1, (v4.1.2.1, v4.1.2.2.1)))) (fun (v4 : (((List Int) × Unit) × Unit)) =>
      bif (decide ((((List.length v4.1.1) : Nat) : Int) < (2048 : Int))) then some ((([] : List ((List UInt8))), ((0 : Int), (4 : Int)))) else some ((([] : List ((List UInt8))), ((0 : Int), (8 : Int))))) (outH b o) = some (match o with | .inl r => r | .inr () => if b.length < 2048 then ([], (0, 4)) else ([], (0, 8))) := by
  cases o with
  | inl r => rfl
  | inr u =>
    simp only [outH, Sum.elim_inr]
    by_cases h : b.length < 2048
    · have c : (((List.length b) : Nat) : Int) < (2048 : Int) := by omega
      rw [decide_eq_true c, if_pos h]; rfl
    · have c : ¬ ((((List.length b) : Nat) : Int) < (2048 : Int)) := by omega
      rw [decide_eq_false c, if_neg h]; rfl
theorem head_ok (b : List Int) (ha : AllB b) (hb : b.length ≤ 100000) : words_Head 200000 b = some (headR b) := by
  unfold words_Head words_Head_L5_R headR
  have hmin : minI (((List.length b) : Nat) : Int) (2048 : Int) = ((min b.length 2048 : Nat) : Int) := by unfold minI; split <;> omega
  have htk : takeI b ((min b.length 2048 : Nat) : Int) = some (b.take 2048) := by
    rw [takeI_nat (i := min b.length 2048) b rfl (by omega)]
    congr 1
    rcases Nat.le_total b.length 2048 with h | h
    · rw [Nat.min_eq_left h, List.take_length, List.take_of_length_le h]
    · rw [Nat.min_eq_right h]
  rw [hmin, htk, Option.bind_some]
  have hl : (b.take 2048).length ≤ b.length := by simp; omega
  have := head_loop 200000 b (b.take 2048) (ha.take _) (by omega) 200000 0 0 [] (Nat.zero_le _) (Nat.le_refl _) (.inl rfl) (by simp) (by omega)
  rw [show ((b, (List.take 2048 b, ((0 : Int), (List.take 2048 b, ((((List.length (List.take 2048 b)) : Nat) : Int), ((0 : Int), Unit.unit)))))), (([] : List (List UInt8)), Unit.unit)) = ((b, (List.take 2048 b, (((0 : Nat) : Int), (List.take 2048 b, ((((List.take 2048 b).length : Nat) : Int), (((0 : Nat) : Int), ())))))), ([], ())) from rfl, this, Option.bind_some]
  exact head_end b _
/-! ### The document's -/
def lineAt (seen : List Int) (start i : Nat) : List UInt8 := seg seen start (if start < i ∧ seen.getD (i - 1) 0 = 13 then i - 1 else i)
theorem rhead_loop (N : Nat) (b : List Int) (ha : AllB b) (hb : b.length < 1000000) : ∀ (n i start : Nat) (ls : List (List UInt8)), i ≤ (b.take 2048).length → start ≤ i → Beg (b.take 2048) start → ls.length ≤ i → (b.take 2048).length - i < n →
    (start < i → (b.take 2048).getD (i - 1) 0 = 13 → i < (b.take 2048).length → (b.take 2048).getD i 0 = 10) →
    gl (fun X c => ref14_Head_L4 N X c.1.1 c.1.2.1 c.1.2.2.1 c.2.1) n ((b, (lineAt (b.take 2048) start i, ((i : Int), ()))), (ls, ())) = some (outH b (hdS (b.take 2048) n i start ls))
  | 0, i, start, ls, _, _, _, _, h, _ => by omega
  | n + 1, i, start, ls, hi, hs, hB, hls, h, hpre => by
    rw [gl_succ]
    have hsl : (b.take 2048).length = min 2048 b.length := by simp
    have hget : ∀ j, j < (b.take 2048).length → b.getD j 0 = (b.take 2048).getD j 0 := fun j hj => by
      rw [List.getD_eq_getElem?_getD, List.getD_eq_getElem?_getD, List.getElem?_take, if_pos (by omega)]
    have e3 : Go.IntKind.wrap .i64 ((i : Int) + 1) = ((i + 1 : Nat) : Int) := by rw [wrap64 (by omega) (by omega)]; omega
    generalize hseen : b.take 2048 = seen at *
    generalize hline : lineAt seen start i = line
    show ref14_Head_L4 N _ b line (i : Int) ls = _
    unfold hdS
    rcases Nat.lt_or_ge i seen.length with hlt | hge
    · have c1 : (i : Int) < (((List.length b) : Nat) : Int) := by omega
      have c2 : (i : Int) < 2048 := by omega
      have hgi : getI b (i : Int) = some (seen.getD i 0) := by rw [getDI (by omega), hget i hlt]
      have hAB : 0 ≤ seen.getD i 0 ∧ seen.getD i 0 < 256 := by
        have hx := (ha.take 2048)
        rw [hseen] at hx
        have := hx.get i hlt
        rw [List.getD_eq_getElem?_getD, List.getElem?_eq_getElem hlt, Option.getD_some]; exact this
      rw [if_pos hlt]
      -- a sign
      by_cases hpr : seen.getD i 0 = 9 ∨ (32 ≤ seen.getD i 0 ∧ seen.getD i 0 ≤ 126)
      · have n13 : ¬ seen.getD i 0 = 13 := by omega
        have n10 : ¬ seen.getD i 0 = 10 := by omega
        have hm : mayB seen i = true := by
          unfold mayB
          rw [if_neg n13, if_neg n10]
          rcases hpr with h9 | h32
          · rw [decide_eq_true h9, Bool.true_or]
          · rw [decide_eq_true h32, Bool.or_true]
        have hl2 : line = seg seen start i := by
          rw [← hline]; unfold lineAt
          rw [if_neg (fun hx => n10 (hpre hx.1 hx.2 hlt))]
        have hsub : subI b (i : Int) ((i + 1 : Nat) : Int) = some [seen.getD i 0] := by
          rw [subI_nat b rfl rfl (by omega) (by omega), show i + 1 - i = 1 by omega]
          congr 1
          have hib : i < b.length := by omega
          rw [List.drop_eq_getElem_cons hib, List.take_succ_cons, List.take_zero]
          have := hget i hlt
          rw [List.getD_eq_getElem?_getD, List.getElem?_eq_getElem hib, Option.getD_some] at this
          rw [this]
        have hby : toBy [seen.getD i 0] = some [byteOf (seen.getD i 0)] := toBy_map (AllB.cons hAB AllB.nil)
        have hll : line.length ≤ i := by rw [hl2, seg_length _ _ _ hi]; omega
        have hrm : (List.length line) + (List.length [byteOf (seen.getD i 0)]) ≤ Go.maxLen := by have := big_len; simp only [List.length_singleton]; omega
        have key : ∀ X, ref14_Head_L4 N X b line (i : Int) ls = X ((b, (line ++ [byteOf (seen.getD i 0)], (((i + 1 : Nat) : Int), ()))), (ls, ())) := fun X => by
          unfold ref14_Head_L4
          rw [decide_eq_true c1, cond_true, decide_eq_true c2, Option.bind_some]
          simp only [cond_true, hgi, Option.bind_some, e3, hsub, hby, decide_eq_true hrm]
          by_cases a1 : (32 : Int) ≤ seen.getD i 0
          · by_cases a2 : seen.getD i 0 ≤ 126
            · simp only [decide_eq_true a1, decide_eq_true a2, cond_true, Option.bind_some]
            · have a3 : seen.getD i 0 = 9 := by omega
              simp only [decide_eq_true a1, decide_eq_false a2, decide_eq_true a3, cond_true, cond_false, Option.bind_some]
          · have a3 : seen.getD i 0 = 9 := by omega
            simp only [decide_eq_false a1, decide_eq_true a3, cond_true, cond_false, Option.bind_some]
        rw [key, hm, if_pos rfl, if_neg n10, hl2, ← seg_succ seen start i hs hlt]
        have := rhead_loop N b ha hb n (i + 1) start ls
        rw [hseen] at this
        have hla : lineAt seen start (i + 1) = seg seen start (i + 1) := by
          unfold lineAt
          rw [if_neg (fun hx => n13 (by have := hx.2; rwa [Nat.add_sub_cancel] at this))]
        rw [hla] at this
        exact this (by omega) (by omega) hB (by omega) (by omega) (fun _ hx => absurd (by rwa [Nat.add_sub_cancel] at hx) n13)
      · -- no sign
        have np : ∀ {α : Type} (f : Bool → Option α), (Option.bind (bif (decide ((32 : Int) ≤ seen.getD i 0)) then some (decide (seen.getD i 0 ≤ (126 : Int))) else some (Bool.false)) fun (v8 : Bool) => Option.bind (bif v8 then some (Bool.true) else some ((@cond Bool Bool.false Bool.true (decide (seen.getD i 0 = (9 : Int)))))) f) = f false := fun f => by
          have a3 : ¬ seen.getD i 0 = 9 := fun hx => hpr (.inl hx)
          by_cases a1 : (32 : Int) ≤ seen.getD i 0
          · have a2 : ¬ seen.getD i 0 ≤ 126 := fun hx => hpr (.inr ⟨a1, hx⟩)
            simp only [decide_eq_true a1, decide_eq_false a2, decide_eq_false a3, cond_true, cond_false, Option.bind_some]
          · simp only [decide_eq_false a1, decide_eq_false a3, cond_true, cond_false, Option.bind_some]
        by_cases h13 : seen.getD i 0 = 13
        · have n10 : ¬ seen.getD i 0 = 10 := by omega
          by_cases hok : i + 1 = seen.length ∨ seen.getD (i + 1) 0 = 10
          · have hm : mayB seen i = true := by
              unfold mayB
              rw [if_pos h13]
              rcases hok with hx | hx
              · rw [decide_eq_true hx, Bool.true_or]
              · rw [decide_eq_true hx, Bool.or_true]
            have hl2 : line = seg seen start i := by
              rw [← hline]; unfold lineAt
              rw [if_neg (fun hx => n10 (hpre hx.1 hx.2 hlt))]
            have key : ∀ X, ref14_Head_L4 N X b line (i : Int) ls = X ((b, (line, (((i + 1 : Nat) : Int), ()))), (ls, ())) := fun X => by
              unfold ref14_Head_L4
              rw [decide_eq_true c1, cond_true, decide_eq_true c2, Option.bind_some]
              simp only [cond_true, hgi, Option.bind_some, e3]
              rw [np]
              simp only [cond_false, decide_eq_true h13, cond_true]
              by_cases b1 : (((i + 1 : Nat)) : Int) = (((List.length b) : Nat) : Int)
              · simp only [decide_eq_true b1, cond_true, Option.bind_some]
              · by_cases b2 : (((i + 1 : Nat)) : Int) = 2048
                · simp only [decide_eq_false b1, decide_eq_true b2, cond_true, cond_false, Option.bind_some]
                · have b3 : i + 1 < seen.length := by omega
                  have b4 : seen.getD (i + 1) 0 = 10 := by rcases hok with hx | hx <;> omega
                  have b5 : getI b ((i + 1 : Nat) : Int) = some (seen.getD (i + 1) 0) := by rw [getDI (by omega), hget _ b3]
                  simp only [decide_eq_false b1, decide_eq_false b2, cond_true, cond_false, b5, Option.bind_some, decide_eq_true b4]
            rw [key, hm, if_pos rfl, if_neg n10, hl2]
            have := rhead_loop N b ha hb n (i + 1) start ls
            rw [hseen] at this
            have hla : lineAt seen start (i + 1) = seg seen start i := by
              unfold lineAt
              rw [if_pos ⟨by omega, by rw [Nat.add_sub_cancel]; exact h13⟩, Nat.add_sub_cancel]
            rw [hla] at this
            exact this (by omega) (by omega) hB (by omega) (by omega) (fun _ _ hx => by rcases hok with hy | hy <;> omega)
          · have hm : mayB seen i = false := by
              unfold mayB
              rw [if_pos h13, decide_eq_false (fun hx => hok (.inl hx)), decide_eq_false (fun hx => hok (.inr hx))]; rfl
            rw [hm, if_neg (by simp)]
            unfold ref14_Head_L4
            rw [decide_eq_true c1, cond_true, decide_eq_true c2, Option.bind_some]
            simp only [cond_true, hgi, Option.bind_some, e3]
            rw [np]
            have b1 : ¬ ((((i + 1 : Nat)) : Int) = (((List.length b) : Nat) : Int)) := fun hx => hok (.inl (by omega))
            have b2 : ¬ ((((i + 1 : Nat)) : Int) = 2048) := fun hx => hok (.inl (by omega))
            have b3 : i + 1 < seen.length := by omega
            have b4 : ¬ seen.getD (i + 1) 0 = 10 := fun hx => hok (.inr hx)
            have b5 : getI b ((i + 1 : Nat) : Int) = some (seen.getD (i + 1) 0) := by rw [getDI (by omega), hget _ b3]
            simp only [cond_false, decide_eq_true h13, cond_true, decide_eq_false b1, decide_eq_false b2, b5, Option.bind_some, decide_eq_false b4, decide_eq_false n10, Bool.not_false]
            rfl
        · -- an end, or nothing that may be
          have tail : ∀ X, ref14_Head_L4 N X b line (i : Int) ls = (Option.bind (bif (!(decide (seen.getD i 0 = (10 : Int)))) then some (Bool.true) else some ((@cond Bool Bool.false Bool.true (decide ((i : Int) = (0 : Int)))))) fun (v11 : Bool) =>
              Option.bind (bif v11 then some (Bool.true) else Option.bind (getI b (Go.IntKind.wrap .i64 ((i : Int) - (1 : Int)))) fun (v12 : Int) => some ((@cond Bool Bool.false Bool.true (!(decide (v12 = (13 : Int))))))) fun (v12 : Bool) =>
              bif v12 then some ((.inl ((([] : List ((List UInt8))), ((0 : Int), ((3 : Int), Unit.unit))), Unit.unit)))
              else bif (decide (line = ([] : List UInt8))) then some ((.inl ((ls, (((i + 1 : Nat) : Int), ((0 : Int), Unit.unit))), Unit.unit)))
              else bif (roomB ((List.length ls) + (List.length ([line] : List ((List UInt8))))) 16) then (X ((b, (([] : List UInt8), (((i + 1 : Nat) : Int), Unit.unit))), ((ls ++ ([line] : List ((List UInt8)))), Unit.unit))) else none) := fun X => by
            unfold ref14_Head_L4
            rw [decide_eq_true c1, cond_true, decide_eq_true c2, Option.bind_some]
            simp only [cond_true, hgi, Option.bind_some, e3]
            rw [np]
            simp only [cond_false, decide_eq_false h13, Option.bind_some]
          rw [tail]
          by_cases h10 : seen.getD i 0 = 10
          · rw [decide_eq_true h10, Bool.not_true, cond_false]
            cases hm : mayB seen i with
            | true =>
              obtain ⟨hlt2, hp13⟩ := beg_lt hB hs hm h10
              have e4 : Go.IntKind.wrap .i64 ((i : Int) - 1) = ((i - 1 : Nat) : Int) := by rw [wrap64 (by omega) (by omega)]; omega
              have i0 : ¬ ((i : Int) = 0) := by omega
              have b5 : getI b ((i - 1 : Nat) : Int) = some (seen.getD (i - 1) 0) := by rw [getDI (by omega), hget _ (by omega)]
              have hl2 : line = seg seen start (i - 1) := by
                rw [← hline]; unfold lineAt
                rw [if_pos ⟨by omega, hp13⟩]
              rw [if_pos rfl, if_pos h10]
              simp only [decide_eq_false i0, cond_false, Option.bind_some, e4, b5, decide_eq_true hp13, Bool.not_true]
              rw [← hl2]
              by_cases hz : line = []
              · rw [decide_eq_true hz, if_pos hz]; rfl
              · have hr : roomB ((List.length ls) + (List.length ([line] : List ((List UInt8))))) 16 = true := roomB_of (by have := big_len; simp only [List.length_singleton]; omega) (by simp only [List.length_singleton]; omega)
                rw [decide_eq_false hz, if_neg hz, cond_false, hr, cond_true]
                have := rhead_loop N b ha hb n (i + 1) (i + 1) (ls ++ [line])
                rw [hseen] at this
                have hla : lineAt seen (i + 1) (i + 1) = [] := by
                  unfold lineAt
                  rw [if_neg (fun hx => by omega), seg_self]
                rw [hla] at this
                exact this (by omega) (Nat.le_refl _) (.inr (by rw [Nat.add_sub_cancel]; exact h10)) (by simp; omega) (by omega) (fun hx => by omega)
            | false =>
              rw [if_neg (by simp)]
              unfold mayB at hm
              rw [if_neg h13, if_pos h10] at hm
              by_cases i0 : i = 0
              · subst i0; rfl
              · have i0' : ¬ ((i : Int) = 0) := by omega
                have e4 : Go.IntKind.wrap .i64 ((i : Int) - 1) = ((i - 1 : Nat) : Int) := by rw [wrap64 (by omega) (by omega)]; omega
                have b5 : getI b ((i - 1 : Nat) : Int) = some (seen.getD (i - 1) 0) := by rw [getDI (by omega), hget _ (by omega)]
                rw [decide_eq_true (show 0 < i by omega), Bool.true_and] at hm
                simp only [decide_eq_false i0', cond_false, Option.bind_some, e4, b5, hm, Bool.not_false, cond_true]
                rfl
          · have hm : mayB seen i = false := by
              unfold mayB
              rw [if_neg h13, if_neg h10, decide_eq_false (fun hx => hpr (.inl hx)), decide_eq_false (fun hx => hpr (.inr hx))]; rfl
            rw [hm, if_neg (by simp), decide_eq_false h10]
            rfl
    · rw [if_neg (by omega)]
      unfold ref14_Head_L4
      by_cases c1 : (i : Int) < (((List.length b) : Nat) : Int)
      · have c2 : ¬ ((i : Int) < 2048) := by omega
        rw [decide_eq_true c1, cond_true, decide_eq_false c2]; rfl
      · rw [decide_eq_false c1]; rfl
theorem rhead_ok (b : List Int) (ha : AllB b) (hb : b.length ≤ 100000) : ref14_Head 200000 b = some (headR b) := by
  unfold ref14_Head ref14_Head_L4_R headR
  have hl : (b.take 2048).length ≤ b.length := by simp; omega
  have := rhead_loop 200000 b ha (by omega) 200000 0 0 [] (Nat.zero_le _) (Nat.le_refl _) (.inl rfl) (by simp) (by omega) (fun hx => by omega)
  have hla : lineAt (b.take 2048) 0 0 = [] := by
    unfold lineAt
    rw [if_neg (fun hx => by omega), seg_self]
  rw [hla] at this
  rw [show ((b, (([] : List UInt8), ((0 : Int), Unit.unit))), (([] : List (List UInt8)), Unit.unit)) = ((b, ([], (((0 : Nat) : Int), ()))), ([], ())) from rfl, this, Option.bind_some]
  exact head_end b _
end Go.Proofs.YtailoanlfbpfnaaDoor
/-
  Layer 14, on plain data: fields, and the value of a name.
-/
namespace Go.Proofs.YtailoanlfbpfnaaDoor
set_option maxRecDepth 100000
open Go.RowKit
set_option linter.unusedVariables false
set_option linter.unusedSimpArgs false
set_option maxRecDepth 100000

/-- Where a byte stands first. -/
def ix (s : List UInt8) (c : UInt8) : Option Nat := s.findIdx? (fun b => b == c)
theorem idx_eq (s : List UInt8) (c : UInt8) : idxB s (((c.toNat : Nat)) : Int) = (match ix s c with | some i => ((i : Nat) : Int) | none => -1) := by
  unfold idxB ix
  rw [show ((((c.toNat : Nat)) : Int)).toNat.toUInt8 = c by simp]
  cases s.findIdx? (fun b => b == c) <;> rfl
theorem ix_some {s : List UInt8} {c : UInt8} {i : Nat} (h : ix s c = some i) : ∃ hi : i < s.length, s[i] = c ∧ ∀ j (hj : j < i), s[j]'(Nat.lt_trans hj hi) ≠ c := by
  unfold ix at h
  rw [List.findIdx?_eq_some_iff_getElem] at h
  obtain ⟨h1, h2, h3⟩ := h
  exact ⟨h1, by simpa using h2, fun j hj => by simpa using h3 j hj⟩
theorem ix_none {s : List UInt8} {c : UInt8} (h : ix s c = none) : ∀ j (hj : j < s.length), s[j] ≠ c := by
  unfold ix at h
  rw [List.findIdx?_eq_none_iff] at h
  intro j hj hc
  have := h s[j] (List.getElem_mem hj)
  rw [hc] at this
  simp at this
def spn (s : List UInt8) (c : UInt8) : Nat := (ix s c).getD s.length
theorem spn_le (s : List UInt8) (c : UInt8) : spn s c ≤ s.length := by
  unfold spn
  cases h : ix s c with
  | none => simp
  | some i => obtain ⟨h1, _⟩ := ix_some h; simp; omega
theorem spn_lt {s : List UInt8} {c : UInt8} {j : Nat} (h : j < spn s c) (hj : j < s.length) : s[j] ≠ c := by
  unfold spn at h
  cases hi : ix s c with
  | none => exact ix_none hi j hj
  | some i =>
    rw [hi] at h
    obtain ⟨h1, _, h3⟩ := ix_some hi
    exact h3 j h
theorem spn_at {s : List UInt8} {c : UInt8} (h : spn s c < s.length) : s[spn s c] = c ∧ ix s c = some (spn s c) := by
  cases hi : ix s c with
  | none => unfold spn at h; rw [hi] at h; simp at h
  | some i =>
    have e : spn s c = i := by unfold spn; rw [hi]; rfl
    obtain ⟨h1, h2, _⟩ := ix_some hi
    exact ⟨by simp only [e]; exact h2, by rw [e]⟩
theorem spn_end {s : List UInt8} {c : UInt8} (h : spn s c = s.length) : ix s c = none := by
  cases hi : ix s c with
  | none => rfl
  | some i =>
    have e : spn s c = i := by unfold spn; rw [hi]; rfl
    obtain ⟨h1, _⟩ := ix_some hi
    omega
theorem u8_eq (b c : UInt8) : ((((b.toNat : Nat)) : Int) = ((c.toNat : Nat) : Int)) ↔ b = c := ⟨fun h => UInt8.toNat_inj.1 (by omega), fun h => by rw [h]⟩
/-- A field of a line. -/
def fieldOf (l : List UInt8) : Option (List UInt8 × List UInt8) := match ix l 58 with
  | none => none
  | some i => if tokB (l.take i) = true then some (l.take i, trimB (l.drop (i + 1))) else none
def allF : List (List UInt8) → Option (List (List UInt8 × List UInt8))
  | [] => some []
  | l :: r => match fieldOf l, allF r with
    | some f, some m => some (f :: m)
    | _, _ => none
def fieldsR (l : List (List UInt8)) : List (List UInt8 × List UInt8) × Int := if 32 < l.length then ([], 5) else match allF l with
  | some m => (m, 0)
  | none => ([], 3)
theorem trimB_nil : trimB [] = [] := rfl
theorem field_key (N : Nat) (hN : 100000 ≤ N) (l : List (List UInt8)) (i : Nat) (hi : i < l.length) (hl : l.length < 100000) (hb : ∀ x ∈ l, x.length < 100000) (acc : List (List UInt8 × List UInt8)) (ha : acc.length ≤ i) (X) :
    words_Fields_L5 N X l ((l.length : Nat) : Int) (i : Int) acc = (match fieldOf l[i] with | some f => X ((l, (((l.length : Nat) : Int), (((i + 1 : Nat) : Int), ()))), (acc ++ [f], ())) | none => some (.inl (([], (3, ())), ()))) := by
  have c1 : (i : Int) < ((l.length : Nat) : Int) := by omega
  have e3 : Go.IntKind.wrap .i64 ((i : Int) + 1) = ((i + 1 : Nat) : Int) := by rw [wrap64 (by omega) (by omega)]; omega
  have hx := hb _ (List.getElem_mem hi)
  have hrm : ∀ f : List UInt8 × List UInt8, roomB ((List.length acc) + (List.length ([f] : List (List UInt8 × List UInt8)))) 32 = true := fun f => roomB_of (by have := big_len; simp only [List.length_singleton]; omega) (by simp only [List.length_singleton]; omega)
  have h58 : idxB l[i] ((((58 : UInt8).toNat : Nat)) : Int) = (match ix l[i] 58 with | some k => ((k : Nat) : Int) | none => -1) := idx_eq _ 58
  unfold words_Fields_L5
  rw [decide_eq_true c1, cond_true, getI_lt l i hi, Option.bind_some]
  generalize hline : l[i] = v at hx h58 ⊢
  unfold fieldOf
  by_cases h1 : v = [58]
  · subst h1
    have ht0 : words_Token N [] = some (tokB []) := token_ok [] (by simp; omega)
    have htk : tokB [] = false := by decide
    simp only [decide_eq_true (show ([58] : List UInt8) = [58] from rfl), cond_true, cond_false, Option.bind_some]
    have hd : dropI ([58] : List UInt8) (Go.IntKind.wrap .i64 ((0 : Int) + (((List.length ([58] : List UInt8)) : Nat) : Int))) = some [] := by decide +kernel
    have htk0 : List.take (Int.toNat (0 : Int)) ([58] : List UInt8) = [] := rfl
    simp only [hd, Option.bind_some, htk0, ht0, htk, Bool.not_false, cond_true]
    rfl
  · have hne : ¬ (([58] : List UInt8) = v) := fun h => h1 h.symm
    simp only [decide_eq_false hne, cond_true, cond_false, Option.bind_some]
    cases hix : ix v 58 with
    | none =>
      rw [hix] at h58
      simp only at h58
      have c0 : ¬ ((0 : Int) ≤ -1) := by omega
      simp only [h58, decide_eq_false c0, cond_false, Option.bind_some, cond_true]
    | some k =>
      rw [hix] at h58
      simp only at h58
      obtain ⟨hk, hk2, hk3⟩ := ix_some hix
      have c0 : (0 : Int) ≤ ((k : Nat) : Int) := by omega
      have t1 : takeI v ((k : Nat) : Int) = some (v.take k) := takeI_nat v rfl (by omega)
      have e5 : Go.IntKind.wrap .i64 (((k : Nat) : Int) + (((List.length ([58] : List UInt8)) : Nat) : Int)) = ((k + 1 : Nat) : Int) := by simp only [List.length_singleton]; rw [wrap64 (by omega) (by omega)]; omega
      have t2 : dropI v ((k + 1 : Nat) : Int) = some (v.drop (k + 1)) := dropI_nat v rfl (by omega)
      have tk : words_Token N (v.take k) = some (tokB (v.take k)) := token_ok _ (by simp; omega)
      have tr : words_Trim N (v.drop (k + 1)) = some (trimB (v.drop (k + 1))) := trim_ok _ (by simp; omega)
      simp only [h58, decide_eq_true c0, cond_true, t1, Option.bind_some, e5, t2, tk]
      cases hb : tokB (v.take k) with
      | false => simp only [Bool.not_false, cond_false, cond_true, Option.bind_some]; rfl
      | true => simp only [Bool.not_true, cond_false, Option.bind_some, tr, hrm, cond_true, e3, if_true]
theorem fields_loop (N : Nat) (hN : 100000 ≤ N) (l : List (List UInt8)) (hl : l.length < 100000) (hb : ∀ x ∈ l, x.length < 100000) : ∀ (n i : Nat) (acc : List (List UInt8 × List UInt8)), i ≤ l.length → acc.length ≤ i → l.length - i < n →
    gl (fun X c => words_Fields_L5 N X c.1.1 c.1.2.1 c.1.2.2.1 c.2.1) n ((l, (((l.length : Nat) : Int), ((i : Int), ()))), (acc, ())) = some (match allF (l.drop i) with | some m => .inr ((), (acc ++ m, ())) | none => .inl (([], (3, ())), ()))
  | 0, i, acc, _, _, h => by omega
  | n + 1, i, acc, hi, ha, h => by
    rw [gl_succ]
    show words_Fields_L5 N _ l ((l.length : Nat) : Int) (i : Int) acc = _
    rcases Nat.lt_or_ge i l.length with hlt | hge
    · rw [field_key N hN l i hlt hl hb acc ha, List.drop_eq_getElem_cons hlt]
      unfold allF
      cases hf : fieldOf l[i] with
      | none => rfl
      | some f =>
        simp only
        rw [fields_loop N hN l hl hb n (i + 1) (acc ++ [f]) (by omega) (by simp; omega) (by omega)]
        cases allF (l.drop (i + 1)) with
        | none => rfl
        | some m => simp
    · have c1 : ¬ ((i : Int) < ((l.length : Nat) : Int)) := by omega
      rw [List.drop_of_length_le hge]
      unfold words_Fields_L5
      rw [decide_eq_false c1, cond_false]
      simp [allF]
theorem fields_end (l : List (List UInt8)) (o : ((((List ((List UInt8) × (List UInt8))) × (Int × Unit)) × Unit) ⊕ (Unit × ((List ((List UInt8) × (List UInt8))) × Unit)))) (ho : o = (match allF l with | some m => .inr ((), ([] ++ m, ())) | none => .inl (([], (3, ())), ()))) :
    Sum.elim (fun (v3 : (((List ((List UInt8) × (List UInt8))) × (Int × Unit)) × Unit)) => some ((v3.1.1, v3.1.2.1))) (fun (v3 : (Unit × ((List ((List UInt8) × (List UInt8))) × Unit))) => some ((v3.2.1, (0 : Int)))) o = some (match allF l with | some m => (m, 0) | none => ([], 3)) := by
  subst ho
  cases allF l <;> rfl
theorem fields_ok {N : Nat} (hN : 100000 ≤ N) (l : List (List UInt8)) (hb : ∀ x ∈ l, x.length < 100000) : words_Fields N l = some (fieldsR l) := by
  unfold words_Fields words_Fields_L5_R fieldsR
  by_cases h : 32 < l.length
  · have c : (32 : Int) < (((List.length l) : Nat) : Int) := by omega
    rw [decide_eq_true c, if_pos h]; rfl
  · have c : ¬ ((32 : Int) < (((List.length l) : Nat) : Int)) := by omega
    have := fields_loop N hN l (by omega) hb N 0 [] (Nat.zero_le _) (by simp) (by omega)
    rw [List.drop_zero] at this
    rw [decide_eq_false c, if_neg h, cond_false, show ((l, ((((List.length l) : Nat) : Int), ((0 : Int), Unit.unit))), (([] : List (List UInt8 × List UInt8)), Unit.unit)) = ((l, (((l.length : Nat) : Int), (((0 : Nat) : Int), ()))), ([], ())) from rfl, this, Option.bind_some]
    exact fields_end l _ rfl
/-! ### The document's -/
theorem rspan (N : Nat) (l : List (List UInt8)) (i : Nat) (hi : i < l.length) (hb : (l[i]).length < 100000) (acc : List (List UInt8 × List UInt8)) : ∀ (n p : Nat), p ≤ spn l[i] 58 → spn l[i] 58 - p < n →
    gl (fun X c => ref14_Fields_L8 N X c.1.1 c.1.2.1 c.1.2.2.1 c.2.1) n ((l, ((i : Int), ((p : Int), ()))), (acc, ())) = some ((l, ((i : Int), (((spn l[i] 58 : Nat) : Int), ()))), (acc, ()))
  | 0, p, _, h => by omega
  | n + 1, p, hp, h => by
    rw [gl_succ]
    show ref14_Fields_L8 N _ l (i : Int) (p : Int) acc = _
    have hle := spn_le l[i] 58
    rcases Nat.lt_or_ge p (spn l[i] 58) with hlt | hge
    · have hpl : p < (l[i]).length := by omega
      have c1 : (p : Int) < (((List.length l[i]) : Nat) : Int) := by omega
      have e3 : Go.IntKind.wrap .i64 ((p : Int) + 1) = ((p + 1 : Nat) : Int) := by rw [wrap64 (by omega) (by omega)]; omega
      have hne : ¬ ((((((l[i])[p]).toNat : Nat)) : Int) = 58) := fun hc => spn_lt hlt hpl ((u8_eq _ 58).1 hc)
      have key : ∀ X, ref14_Fields_L8 N X l (i : Int) (p : Int) acc = X ((l, ((i : Int), (((p + 1 : Nat) : Int), ()))), (acc, ())) := fun X => by
        simp only [ref14_Fields_L8, getI_lt l i hi, Option.bind_some, decide_eq_true c1, cond_true, getI_lt l[i] p hpl, decide_eq_false hne, Bool.not_false, e3]
      rw [key]
      exact rspan N l i hi hb acc n (p + 1) (by omega) (by omega)
    · have hpe : p = spn l[i] 58 := by omega
      subst hpe
      by_cases c : spn l[i] 58 < (l[i]).length
      · have c1 : ((spn l[i] 58 : Nat) : Int) < (((List.length l[i]) : Nat) : Int) := by omega
        have heq : (((((l[i])[spn l[i] 58]).toNat : Nat)) : Int) = 58 := (u8_eq _ 58).2 (spn_at c).1
        simp only [ref14_Fields_L8, getI_lt l i hi, Option.bind_some, decide_eq_true c1, cond_true, getI_lt l[i] _ c, decide_eq_true heq, Bool.not_true, cond_false]
      · have c1 : ¬ (((spn l[i] 58 : Nat) : Int) < (((List.length l[i]) : Nat) : Int)) := by omega
        simp only [ref14_Fields_L8, getI_lt l i hi, Option.bind_some, decide_eq_false c1, cond_false]
theorem rfield_key (N : Nat) (hN : 110000 ≤ N) (l : List (List UInt8)) (i : Nat) (hi : i < l.length) (hl : l.length < 100000) (hb : ∀ x ∈ l, x.length < 100000) (acc : List (List UInt8 × List UInt8)) (ha : acc.length ≤ i) (X) :
    ref14_Fields_L5 N X l (i : Int) acc = (match fieldOf l[i] with | some f => X ((l, (((i + 1 : Nat) : Int), ())), (acc ++ [f], ())) | none => some (.inl (([], (3, ())), ()))) := by
  have c1 : (i : Int) < ((l.length : Nat) : Int) := by omega
  have e3 : Go.IntKind.wrap .i64 ((i : Int) + 1) = ((i + 1 : Nat) : Int) := by rw [wrap64 (by omega) (by omega)]; omega
  have hx := hb _ (List.getElem_mem hi)
  have hrm : ∀ f : List UInt8 × List UInt8, roomB ((List.length acc) + (List.length ([f] : List (List UInt8 × List UInt8)))) 32 = true := fun f => roomB_of (by have := big_len; simp only [List.length_singleton]; omega) (by simp only [List.length_singleton]; omega)
  have hsp : ref14_Fields_L8_R N ((l, ((i : Int), ((0 : Int), ()))), (acc, ())) = some ((l, ((i : Int), (((spn l[i] 58 : Nat) : Int), ()))), (acc, ())) := rspan N l i hi hx acc N 0 (Nat.zero_le _) (by have := spn_le l[i] 58; omega)
  unfold ref14_Fields_L5
  rw [decide_eq_true c1, cond_true, hsp, Option.bind_some]
  simp only [getI_lt l i hi, Option.bind_some]
  unfold fieldOf
  by_cases h : spn l[i] 58 < (l[i]).length
  · have hix := (spn_at h).2
    have c2 : ¬ (((spn l[i] 58 : Nat) : Int) = (((List.length l[i]) : Nat) : Int)) := by omega
    have t1 : takeI l[i] ((spn l[i] 58 : Nat) : Int) = some ((l[i]).take (spn l[i] 58)) := takeI_nat _ rfl (by omega)
    have e5 : Go.IntKind.wrap .i64 (((spn l[i] 58 : Nat) : Int) + 1) = ((spn l[i] 58 + 1 : Nat) : Int) := by rw [wrap64 (by omega) (by omega)]; omega
    have t2 : dropI l[i] ((spn l[i] 58 + 1 : Nat) : Int) = some ((l[i]).drop (spn l[i] 58 + 1)) := dropI_nat _ rfl (by omega)
    have tk : ref14_Token N ((l[i]).take (spn l[i] 58)) = some (tokB ((l[i]).take (spn l[i] 58))) := rtoken_ok _ (by simp; omega) (by simp; omega)
    have tr : ref14_Trim N ((l[i]).drop (spn l[i] 58 + 1)) = some (trimB ((l[i]).drop (spn l[i] 58 + 1))) := rtrim_ok _ (by simp; omega) (by simp; omega)
    rw [hix]
    simp only [decide_eq_false c2, cond_false, t1, Option.bind_some, tk]
    cases hb : tokB ((l[i]).take (spn l[i] 58)) with
    | false => simp only [Bool.not_false, cond_false, cond_true, Option.bind_some]; rfl
    | true => simp only [Bool.not_true, cond_false, Option.bind_some, e5, t2, tr, hrm, cond_true, e3, if_true]
  · have he : spn l[i] 58 = (l[i]).length := by have := spn_le l[i] 58; omega
    have c2 : ((spn l[i] 58 : Nat) : Int) = (((List.length l[i]) : Nat) : Int) := by omega
    rw [spn_end he]
    simp only [decide_eq_true c2, cond_true, Option.bind_some]
theorem rfields_loop (N : Nat) (hN : 110000 ≤ N) (l : List (List UInt8)) (hl : l.length < 100000) (hb : ∀ x ∈ l, x.length < 100000) : ∀ (n i : Nat) (acc : List (List UInt8 × List UInt8)), i ≤ l.length → acc.length ≤ i → l.length - i < n →
    gl (fun X c => ref14_Fields_L5 N X c.1.1 c.1.2.1 c.2.1) n ((l, ((i : Int), ())), (acc, ())) = some (match allF (l.drop i) with | some m => .inr ((), (acc ++ m, ())) | none => .inl (([], (3, ())), ()))
  | 0, i, acc, _, _, h => by omega
  | n + 1, i, acc, hi, ha, h => by
    rw [gl_succ]
    show ref14_Fields_L5 N _ l (i : Int) acc = _
    rcases Nat.lt_or_ge i l.length with hlt | hge
    · rw [rfield_key N hN l i hlt hl hb acc ha, List.drop_eq_getElem_cons hlt]
      unfold allF
      cases hf : fieldOf l[i] with
      | none => rfl
      | some f =>
        simp only
        rw [rfields_loop N hN l hl hb n (i + 1) (acc ++ [f]) (by omega) (by simp; omega) (by omega)]
        cases allF (l.drop (i + 1)) with
        | none => rfl
        | some m => simp
    · have c1 : ¬ ((i : Int) < ((l.length : Nat) : Int)) := by omega
      rw [List.drop_of_length_le hge]
      unfold ref14_Fields_L5
      rw [decide_eq_false c1, cond_false]
      simp [allF]
theorem rfields_ok {N : Nat} (hN : 110000 ≤ N) (l : List (List UInt8)) (hb : ∀ x ∈ l, x.length < 100000) : ref14_Fields N l = some (fieldsR l) := by
  unfold ref14_Fields ref14_Fields_L5_R fieldsR
  by_cases h : 32 < l.length
  · have c : (32 : Int) < (((List.length l) : Nat) : Int) := by omega
    rw [decide_eq_true c, if_pos h]; rfl
  · have c : ¬ ((32 : Int) < (((List.length l) : Nat) : Int)) := by omega
    have := rfields_loop N hN l (by omega) hb N 0 [] (Nat.zero_le _) (by simp) (by omega)
    rw [List.drop_zero] at this
    rw [decide_eq_false c, if_neg h, cond_false, show ((l, ((0 : Int), Unit.unit)), (([] : List (List UInt8 × List UInt8)), Unit.unit)) = ((l, (((0 : Nat) : Int), ())), ([], ())) from rfl, this, Option.bind_some]
    exact fields_end l _ rfl
/-! ### The value of a name -/
def foldF (name : List UInt8) : List (List UInt8 × List UInt8) → Nat → List UInt8 → Nat × List UInt8
  | [], m, v => (m, v)
  | f :: r, m, v => if lowS f.1 = lowS name then foldF name r (m + 1) f.2 else foldF name r m v
def findR (l : List (List UInt8 × List UInt8)) (name : List UInt8) : List UInt8 × Int := if (foldF name l 0 []).1 = 0 then ([], 6) else if (foldF name l 0 []).1 = 1 then ((foldF name l 0 []).2, 0) else ([], 7)
theorem find_loop (N : Nat) (l : List (List UInt8 × List UInt8)) (name : List UInt8) (hl : l.length < 100000) (hn : name.length ≤ 100000) (hb : ∀ x ∈ l, x.1.length ≤ 100000) : ∀ (n i m : Nat) (v : List UInt8), i ≤ l.length → m ≤ i → l.length - i < n →
    gl (fun X c => words_Find_L3 N X c.1.1 c.1.2.1 c.1.2.2.1 c.1.2.2.2.1 c.1.2.2.2.2.1 c.1.2.2.2.2.2.1) n ((name, (v, (((m : Nat) : Int), (l, (((l.length : Nat) : Int), ((i : Int), ())))))), ()) = some (((foldF name (l.drop i) m v).2, ((((foldF name (l.drop i) m v).1 : Nat) : Int), ())), ())
  | 0, i, m, v, _, _, h => by omega
  | n + 1, i, m, v, hi, hm, h => by
    rw [gl_succ]
    show words_Find_L3 N _ name v ((m : Nat) : Int) l ((l.length : Nat) : Int) (i : Int) = _
    rcases Nat.lt_or_ge i l.length with hlt | hge
    · have c1 : (i : Int) < ((l.length : Nat) : Int) := by omega
      have e3 : Go.IntKind.wrap .i64 ((i : Int) + 1) = ((i + 1 : Nat) : Int) := by rw [wrap64 (by omega) (by omega)]; omega
      have e4 : Go.IntKind.wrap .i64 (((m : Nat) : Int) + 1) = ((m + 1 : Nat) : Int) := by rw [wrap64 (by omega) (by omega)]; omega
      have hal : words_Alike N (l[i]).1 name = some (decide (lowS (l[i]).1 = lowS name)) := alike_ok _ _ (by have := hb _ (List.getElem_mem hlt); omega) (by omega)
      rw [List.drop_eq_getElem_cons hlt]
      unfold foldF
      by_cases hx : lowS (l[i]).1 = lowS name
      · have key : ∀ X, words_Find_L3 N X name v ((m : Nat) : Int) l ((l.length : Nat) : Int) (i : Int) = X ((name, ((l[i]).2, (((m + 1 : Nat) : Int), (l, (((l.length : Nat) : Int), (((i + 1 : Nat) : Int), ())))))), ()) := fun X => by
          simp only [words_Find_L3, decide_eq_true c1, cond_true, getI_lt l i hlt, Option.bind_some, hal, decide_eq_true hx, e3, e4]
        rw [key, if_pos hx]
        exact find_loop N l name hl hn hb n (i + 1) (m + 1) _ (by omega) (by omega) (by omega)
      · have key : ∀ X, words_Find_L3 N X name v ((m : Nat) : Int) l ((l.length : Nat) : Int) (i : Int) = X ((name, (v, (((m : Nat) : Int), (l, (((l.length : Nat) : Int), (((i + 1 : Nat) : Int), ())))))), ()) := fun X => by
          simp only [words_Find_L3, decide_eq_true c1, cond_true, getI_lt l i hlt, Option.bind_some, hal, decide_eq_false hx, cond_false, e3]
        rw [key, if_neg hx]
        exact find_loop N l name hl hn hb n (i + 1) m _ (by omega) (by omega) (by omega)
    · have c1 : ¬ ((i : Int) < ((l.length : Nat) : Int)) := by omega
      rw [List.drop_of_length_le hge]
      simp only [words_Find_L3, decide_eq_false c1, cond_false, foldF]
theorem find_ok {N : Nat} (l : List (List UInt8 × List UInt8)) (name : List UInt8) (hl : l.length < 100000) (hN : 100000 ≤ N) (hn : name.length ≤ 100000) (hb : ∀ x ∈ l, x.1.length ≤ 100000) : words_Find N l name = some (findR l name) := by
  unfold words_Find words_Find_L3_R findR
  have := find_loop N l name hl hn hb N 0 0 [] (Nat.zero_le _) (Nat.le_refl _) (by omega)
  rw [List.drop_zero] at this
  rw [show ((name, ((@Array.toList UInt8 (@List.toArray UInt8 ([] : List UInt8))), ((0 : Int), (l, ((((List.length l) : Nat) : Int), ((0 : Int), Unit.unit)))))), Unit.unit) = ((name, ([], (((0 : Nat) : Int), (l, (((l.length : Nat) : Int), (((0 : Nat) : Int), ())))))), ()) from rfl, this, Option.bind_some]
  generalize foldF name l 0 [] = r
  by_cases h0 : r.1 = 0
  · have c : ((r.1 : Nat) : Int) = 0 := by omega
    simp only [decide_eq_true c, cond_true, if_pos h0]
  · have c : ¬ (((r.1 : Nat) : Int) = 0) := by omega
    by_cases h1 : r.1 = 1
    · have c2 : ((r.1 : Nat) : Int) = 1 := by omega
      simp only [decide_eq_false c, cond_false, decide_eq_true c2, cond_true, if_neg h0, if_pos h1]
    · have c2 : ¬ (((r.1 : Nat) : Int) = 1) := by omega
      simp only [decide_eq_false c, cond_false, decide_eq_false c2, if_neg h0, if_neg h1]
theorem rfind_loop (N : Nat) (l : List (List UInt8 × List UInt8)) (name : List UInt8) (hN : 110000 ≤ N) (hl : l.length < 100000) (hn : name.length ≤ 100000) (hb : ∀ x ∈ l, x.1.length ≤ 100000) : ∀ (n i m : Nat) (v : List UInt8), i ≤ l.length → m ≤ i → l.length - i < n →
    gl (fun X c => ref14_Find_L3 N X c.1.1 c.1.2.1 c.1.2.2.1 c.1.2.2.2.1 c.1.2.2.2.2.1) n ((l, (name, (((m : Nat) : Int), (v, ((i : Int), ()))))), ()) = some ((((((foldF name (l.drop i) m v).1 : Nat) : Int)), ((foldF name (l.drop i) m v).2, ())), ())
  | 0, i, m, v, _, _, h => by omega
  | n + 1, i, m, v, hi, hm, h => by
    rw [gl_succ]
    show ref14_Find_L3 N _ l name ((m : Nat) : Int) v (i : Int) = _
    rcases Nat.lt_or_ge i l.length with hlt | hge
    · have c1 : (i : Int) < ((l.length : Nat) : Int) := by omega
      have e3 : Go.IntKind.wrap .i64 ((i : Int) + 1) = ((i + 1 : Nat) : Int) := by rw [wrap64 (by omega) (by omega)]; omega
      have e4 : Go.IntKind.wrap .i64 (((m : Nat) : Int) + 1) = ((m + 1 : Nat) : Int) := by rw [wrap64 (by omega) (by omega)]; omega
      have hal : ref14_Alike N (l[i]).1 name = some (decide (lowS (l[i]).1 = lowS name)) := by
        have := hb _ (List.getElem_mem hlt)
        exact ralike_ok _ _ (by omega) (by omega) (by omega) (by omega)
      rw [List.drop_eq_getElem_cons hlt]
      unfold foldF
      by_cases hx : lowS (l[i]).1 = lowS name
      · have key : ∀ X, ref14_Find_L3 N X l name ((m : Nat) : Int) v (i : Int) = X ((l, (name, (((m + 1 : Nat) : Int), ((l[i]).2, (((i + 1 : Nat) : Int), ()))))), ()) := fun X => by
          simp only [ref14_Find_L3, decide_eq_true c1, cond_true, getI_lt l i hlt, Option.bind_some, hal, decide_eq_true hx, e3, e4]
        rw [key, if_pos hx]
        exact rfind_loop N l name hN hl hn hb n (i + 1) (m + 1) _ (by omega) (by omega) (by omega)
      · have key : ∀ X, ref14_Find_L3 N X l name ((m : Nat) : Int) v (i : Int) = X ((l, (name, (((m : Nat) : Int), (v, (((i + 1 : Nat) : Int), ()))))), ()) := fun X => by
          simp only [ref14_Find_L3, decide_eq_true c1, cond_true, getI_lt l i hlt, Option.bind_some, hal, decide_eq_false hx, cond_false, e3]
        rw [key, if_neg hx]
        exact rfind_loop N l name hN hl hn hb n (i + 1) m _ (by omega) (by omega) (by omega)
    · have c1 : ¬ ((i : Int) < ((l.length : Nat) : Int)) := by omega
      rw [List.drop_of_length_le hge]
      simp only [ref14_Find_L3, decide_eq_false c1, cond_false, foldF]
theorem rfind_ok {N : Nat} (l : List (List UInt8 × List UInt8)) (name : List UInt8) (hl : l.length < 100000) (hN : 110000 ≤ N) (hn : name.length ≤ 100000) (hb : ∀ x ∈ l, x.1.length ≤ 100000) : ref14_Find N l name = some (findR l name) := by
  unfold ref14_Find ref14_Find_L3_R findR
  have := rfind_loop N l name hN hl hn hb N 0 0 [] (Nat.zero_le _) (Nat.le_refl _) (by omega)
  rw [List.drop_zero] at this
  rw [show ((l, (name, ((0 : Int), ((@Array.toList UInt8 (@List.toArray UInt8 ([] : List UInt8))), ((0 : Int), Unit.unit))))), Unit.unit) = ((l, (name, (((0 : Nat) : Int), ([], (((0 : Nat) : Int), ()))))), ()) from rfl, this, Option.bind_some]
  generalize foldF name l 0 [] = r
  by_cases h0 : r.1 = 0
  · have c : ((r.1 : Nat) : Int) = 0 := by omega
    simp only [decide_eq_true c, cond_true, if_pos h0]
  · have c : ¬ (((r.1 : Nat) : Int) = 0) := by omega
    by_cases h1 : r.1 = 1
    · have c2 : ¬ ((1 : Int) < ((r.1 : Nat) : Int)) := by omega
      simp only [decide_eq_false c, cond_false, decide_eq_false c2, if_neg h0, if_pos h1]
    · have c2 : (1 : Int) < ((r.1 : Nat) : Int) := by omega
      simp only [decide_eq_false c, cond_false, decide_eq_true c2, cond_true, if_neg h0, if_neg h1]
/-- Bounds of what is told. -/
theorem fieldOf_len {l : List UInt8} {f : List UInt8 × List UInt8} (h : fieldOf l = some f) : f.1.length ≤ l.length := by
  unfold fieldOf at h
  cases hi : ix l 58 with
  | none => rw [hi] at h; cases h
  | some i =>
    rw [hi] at h
    simp only at h
    split at h
    · injection h with h; subst h; simp; omega
    · cases h
theorem allF_len : ∀ {l : List (List UInt8)} {m : List (List UInt8 × List UInt8)} {B : Nat}, allF l = some m → (∀ x ∈ l, x.length ≤ B) → m.length = l.length ∧ ∀ f ∈ m, f.1.length ≤ B
  | [], m, B, h, _ => by simp only [allF, Option.some.injEq] at h; subst h; exact ⟨rfl, fun f hf => by cases hf⟩
  | l :: r, m, B, h, hb => by
    unfold allF at h
    cases hf : fieldOf l with
    | none => rw [hf] at h; cases h
    | some f =>
      rw [hf] at h
      cases hr : allF r with
      | none => rw [hr] at h; cases h
      | some m' =>
        rw [hr] at h
        injection h with h
        subst h
        obtain ⟨h1, h2⟩ := allF_len hr (fun x hx => hb x (by simp [hx]))
        refine ⟨by simp [h1], fun g hg => ?_⟩
        rcases List.mem_cons.1 hg with rfl | hg
        · have h3 := fieldOf_len hf; have h4 := hb l (by simp); omega
        · exact h2 g hg
theorem fieldsR_len (l : List (List UInt8)) {B : Nat} (hb : ∀ x ∈ l, x.length ≤ B) : (fieldsR l).1.length ≤ l.length ∧ ∀ f ∈ (fieldsR l).1, f.1.length ≤ B := by
  unfold fieldsR
  split
  · exact ⟨by simp, fun f hf => by cases hf⟩
  · cases hm : allF l with
    | none => exact ⟨by simp, fun f hf => by cases hf⟩
    | some m => obtain ⟨h1, h2⟩ := allF_len hm hb; exact ⟨by simp [h1], h2⟩
/-- Lines are no longer than the bytes. -/
theorem hd_len (s : List Int) : ∀ (f i start : Nat) (ls : List (List UInt8)) (r : List (List UInt8) × (Int × Int)), hdS s f i start ls = .inl r → (∀ l ∈ ls, l.length ≤ s.length) → ls.length ≤ i → i ≤ s.length → r.1.length ≤ s.length ∧ ∀ l ∈ r.1, l.length ≤ s.length
  | 0, i, start, ls, r, h, _, _, _ => by cases h
  | f + 1, i, start, ls, r, h, hb, hl, hi => by
    unfold hdS at h
    split at h
    · rename_i hlt
      split at h
      · split at h
        · split at h
          · injection h with h; subst h; exact ⟨by simp only; omega, hb⟩
          · refine hd_len s f _ _ _ r h (fun l hm => ?_) (by simp; omega) (by omega)
            rcases List.mem_append.1 hm with h1 | h1
            · exact hb l h1
            · rw [List.mem_singleton.1 h1, seg_length _ _ _ (by omega)]; omega
        · exact hd_len s f _ _ _ r h hb (by omega) (by omega)
      · injection h with h; subst h; exact ⟨by simp, fun l hl => by cases hl⟩
    · cases h
theorem headR_len (b : List Int) : (headR b).1.length ≤ b.length ∧ ∀ l ∈ (headR b).1, l.length ≤ b.length := by
  unfold headR
  cases hh : hdS (b.take 2048) 200000 0 0 [] with
  | inl r =>
    obtain ⟨h1, h2⟩ := hd_len _ _ _ _ _ r hh (fun l hl => by cases hl) (by simp) (Nat.zero_le _)
    have hl : (b.take 2048).length ≤ b.length := by simp; omega
    exact ⟨by simp only; omega, fun l hm => by have := h2 l hm; omega⟩
  | inr u =>
    simp only
    split <;> exact ⟨by simp, fun l hl => by cases hl⟩
end Go.Proofs.YtailoanlfbpfnaaDoor
