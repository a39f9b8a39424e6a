/-
  Functions of the program as plain functions on typed data, and that they are so. Printed by a program of mine.
-/
import Derived.Test.YtbaidlcbldbmdaaGBndA
namespace Go.Proofs.Ytbaidlcbldbmdaa
open Go.RowKit
set_option linter.unusedVariables false
set_option maxRecDepth 100000
noncomputable def attr_isKind (N : Nat) (kind0 : Int) : Option (Bool) :=
 bif (decide ((1 : Int) ≤ kind0)) then
  some ((@cond Bool @Bool.true (decide (kind0 ≤ (4 : Int))) @Bool.false))
 else
  some (@Bool.false)
theorem attr_isKind_S (N : Nat) (kind0 : Int) : (runK Go.Proofs.Try.prog (Ev103 N) 400 107 [(.int .u8)] [.bool] (kind0, ())).run = attr_isKind N kind0 := by kernel_rfl
noncomputable def Ev104 (N : Nat) : (R : Type) → Env R := Env.addFn (Ev103 N) 107 (fun R => fnK [(.int .u8)] [.bool] (fun c => attr_isKind N c.1))
theorem Ev104_ok (N : Nat) (R : Type) : EnvOK Go.Proofs.Try.prog (Ev104 N R) := EnvOK.addFn hmx (Ev103_ok N R) (Ev103_ok N _) (by kernel_rfl) (fun c => attr_isKind_S N c.1)
noncomputable def octs_Join_L3_I : LI := ⟨33, 0, [], ⟨[(0, .ty (.sl (.sl (.int .u8)))), (3, .ty (.int .i64)), (9, .ty (.sl (.sl (.int .u8)))), (10, .ty (.int .i64)), (11, .ty (.int .i64))], []⟩, [(.exit 0, ⟨[(0, .ty (.sl (.sl (.int .u8)))), (3, .ty (.int .i64))], []⟩)]⟩
noncomputable def octs_Join_L3 (N : Nat) (X : (((List (List (Int))) × ((Int) × ((List (List (Int))) × ((Int) × ((Int) × Unit))))) × Unit) → Option ((((List (List (Int))) × ((Int) × Unit)) × Unit))) (parts0 : List (List (Int))) (size3 : Int) (x9 : List (List (Int))) (x10 : Int) (x11 : Int) : Option ((((List (List (Int))) × ((Int) × Unit)) × Unit)) :=
 bif (decide (x11 < x10)) then
  Option.bind (getI x9 x11) fun (v7 : (List Int)) =>
  (X ((parts0, ((Go.IntKind.wrap .i64 (size3 + (((List.length v7) : Nat) : Int))), (x9, (x10, ((Go.IntKind.wrap .i64 (x11 + (1 : Int))), @Unit.unit))))), @Unit.unit))
 else
  some (((parts0, (size3, @Unit.unit)), @Unit.unit))
noncomputable def octs_Join_L3_R (N : Nat) (c : (((List (List (Int))) × ((Int) × ((List (List (Int))) × ((Int) × ((Int) × Unit))))) × Unit)) : Option ((((List (List (Int))) × ((Int) × Unit)) × Unit)) := gl (fun X c => octs_Join_L3 N X c.1.1 c.1.2.1 c.1.2.2.1 c.1.2.2.2.1 c.1.2.2.2.2.1) N c
theorem octs_Join_L3_S (N : Nat) (X : (((List (List (Int))) × ((Int) × ((List (List (Int))) × ((Int) × ((Int) × Unit))))) × Unit) → Option ((((List (List (Int))) × ((Int) × Unit)) × Unit))) (parts0 : List (List (Int))) (size3 : Int) (x9 : List (List (Int))) (x10 : Int) (x11 : Int) : (roundK Go.Proofs.Try.prog (Ev104 N) 400 [58] octs_Join_L3_I (loopAt Go.Proofs.Try.prog [58] 3) X ((parts0, size3, x9, x10, x11, ()), ())).run = octs_Join_L3 N X parts0 size3 x9 x10 x11 := by kernel_rfl
noncomputable def Ev105 (N : Nat) : (R : Type) → Env R := Env.addLp (Ev104 N) [58] 0 3 (fun R => lpK Go.Proofs.Try.prog octs_Join_L3_I (fun X c => octs_Join_L3 N X c.1.1 c.1.2.1 c.1.2.2.1 c.1.2.2.2.1 c.1.2.2.2.2.1) N)
theorem Ev105_ok (N : Nat) (R : Type) : EnvOK Go.Proofs.Try.prog (Ev105 N R) := EnvOK.addLp (Ev104_ok N R) (by kernel_rfl) (lpK_ok (li := octs_Join_L3_I) (G := fun X c => octs_Join_L3 N X c.1.1 c.1.2.1 c.1.2.2.1 c.1.2.2.2.1 c.1.2.2.2.2.1) hmx (Ev104_ok N _) (by kernel_rfl) loopAt_sub (fun (X : CT octs_Join_L3_I.sh → Option (OT octs_Join_L3_I.outs)) (c : CT octs_Join_L3_I.sh) => octs_Join_L3_S N X c.1.1 c.1.2.1 c.1.2.2.1 c.1.2.2.2.1 c.1.2.2.2.2.1) N)
noncomputable def octs_Join_L9_I : LI := ⟨33, 0, [], ⟨[(6, .lit (.own 0)), (22, .ty (.sl (.sl (.int .u8)))), (23, .ty (.int .i64)), (24, .ty (.int .i64))], [.own (.int .u8) 5]⟩, [(.exit 2, ⟨[(6, .lit (.own 0))], [.own (.int .u8) 5]⟩)]⟩
noncomputable def octs_Join_L9 (N : Nat) (X : (((List (List (Int))) × ((Int) × ((Int) × Unit))) × ((List (Int)) × Unit)) → Option ((Unit × ((List (Int)) × Unit)))) (x22 : List (List (Int))) (x23 : Int) (x24 : Int) (h0 : List (Int)) : Option ((Unit × ((List (Int)) × Unit))) :=
 bif (decide (x24 < x23)) then
  Option.bind (getI x22 x24) fun (v6 : (List Int)) =>
  bif (roomB ((List.length h0) + (List.length v6)) 1) then
   (X ((x22, (x23, ((Go.IntKind.wrap .i64 (x24 + (1 : Int))), @Unit.unit))), ((h0 ++ v6), @Unit.unit)))
  else
   none
 else
  some ((@Unit.unit, (h0, @Unit.unit)))
noncomputable def octs_Join_L9_R (N : Nat) (c : (((List (List (Int))) × ((Int) × ((Int) × Unit))) × ((List (Int)) × Unit))) : Option ((Unit × ((List (Int)) × Unit))) := gl (fun X c => octs_Join_L9 N X c.1.1 c.1.2.1 c.1.2.2.1 c.2.1) N c
theorem octs_Join_L9_S (N : Nat) (X : (((List (List (Int))) × ((Int) × ((Int) × Unit))) × ((List (Int)) × Unit)) → Option ((Unit × ((List (Int)) × Unit)))) (x22 : List (List (Int))) (x23 : Int) (x24 : Int) (h0 : List (Int)) : (roundK Go.Proofs.Try.prog (Ev105 N) 400 [58] octs_Join_L9_I (loopAt Go.Proofs.Try.prog [58] 9) X ((x22, x23, x24, ()), (h0, ()))).run = octs_Join_L9 N X x22 x23 x24 h0 := by kernel_rfl
noncomputable def Ev106 (N : Nat) : (R : Type) → Env R := Env.addLp (Ev105 N) [58] 0 9 (fun R => lpK Go.Proofs.Try.prog octs_Join_L9_I (fun X c => octs_Join_L9 N X c.1.1 c.1.2.1 c.1.2.2.1 c.2.1) N)
theorem Ev106_ok (N : Nat) (R : Type) : EnvOK Go.Proofs.Try.prog (Ev106 N R) := EnvOK.addLp (Ev105_ok N R) (by kernel_rfl) (lpK_ok (li := octs_Join_L9_I) (G := fun X c => octs_Join_L9 N X c.1.1 c.1.2.1 c.1.2.2.1 c.2.1) hmx (Ev105_ok N _) (by kernel_rfl) loopAt_sub (fun (X : CT octs_Join_L9_I.sh → Option (OT octs_Join_L9_I.outs)) (c : CT octs_Join_L9_I.sh) => octs_Join_L9_S N X c.1.1 c.1.2.1 c.1.2.2.1 c.2.1) N)
noncomputable def octs_Join (N : Nat) (parts0 : List (List (Int))) : Option (List (Int)) :=
 Option.bind (octs_Join_L3_R N ((parts0, ((0 : Int), (parts0, ((((List.length parts0) : Nat) : Int), ((0 : Int), @Unit.unit))))), @Unit.unit)) fun (v2 : (((List (List Int)) × (Int × Unit)) × Unit)) =>
 bif ((decide ((0 : Int) ≤ (0 : Int) ∧ (0 : Int) ≤ v2.1.2.1)) && (roomB (Int.toNat v2.1.2.1) 1)) then
  Option.bind (octs_Join_L9_R N ((v2.1.1, ((((List.length v2.1.1) : Nat) : Int), ((0 : Int), @Unit.unit))), ((@List.replicate Int (Int.toNat (0 : Int)) (0 : Int)), @Unit.unit))) fun (v3 : (Unit × ((List Int) × Unit))) =>
  some (v3.2.1)
 else
  none
theorem octs_Join_S (N : Nat) (parts0 : List (List (Int))) : (runK Go.Proofs.Try.prog (Ev106 N) 400 58 [(.sl (.sl (.int .u8)))] [(.sl (.int .u8))] (parts0, ())).run = octs_Join N parts0 := by kernel_rfl
noncomputable def Ev107 (N : Nat) : (R : Type) → Env R := Env.addFn (Ev106 N) 58 (fun R => fnK [(.sl (.sl (.int .u8)))] [(.sl (.int .u8))] (fun c => octs_Join N c.1))
theorem Ev107_ok (N : Nat) (R : Type) : EnvOK Go.Proofs.Try.prog (Ev107 N R) := EnvOK.addFn hmx (Ev106_ok N R) (Ev106_ok N _) (by kernel_rfl) (fun c => octs_Join_S N c.1)
noncomputable def attr_Lay (N : Nat) (a0 : (Int) × (List (Int))) : Option ((List (Int)) × Int) :=
 Option.bind (@attr_isKind N a0.1) fun (v2 : Bool) =>
 bif (!v2) then
  some ((([] : List (Int)), (9 : Int)))
 else
  bif (decide ((4095 : Int) < (Go.IntKind.wrap .i64 ((4 : Int) + (((List.length a0.2) : Nat) : Int))))) then
   some ((([] : List (Int)), (8 : Int)))
  else
   Option.bind (@octs_Put N (Go.IntKind.wrap .u64 (Go.IntKind.wrap .i64 ((4 : Int) + (((List.length a0.2) : Nat) : Int)))) (2 : Int) @Bool.false) fun (v3 : ((List Int) × Int)) =>
   Option.bind (@octs_Join N ([([(0 : Int), a0.1] : List (Int)), v3.1, a0.2] : List ((List Int)))) fun (v4 : (List Int)) =>
   some ((v4, (0 : Int)))
theorem attr_Lay_S (N : Nat) (a0 : (Int) × (List (Int))) : (runK Go.Proofs.Try.prog (Ev107 N) 400 93 [(.pair (.int .u8) (.sl (.int .u8)))] [(.sl (.int .u8)), (.int .i64)] (a0, ())).run = attr_Lay N a0 := by kernel_rfl
theorem attr_Lay_C (N : Nat) (a0 : (Int) × (List (Int))) (y : (List (Int)) × Int) (h : attr_Lay N a0 = some y) : CallsK Go.Proofs.Try.prog 93 (valA [(.pair (.int .u8) (.sl (.int .u8)))] (a0, ())) (tupV (valR [(.sl (.int .u8)), (.int .i64)] y)) := runK_ok hmx (Ev107_ok N _) (okFn_ok (by kernel_rfl)) (by rw [attr_Lay_S]; exact h)
noncomputable def Ev108 (N : Nat) : (R : Type) → Env R := Env.addFn (Ev107 N) 93 (fun R => fnK [(.pair (.int .u8) (.sl (.int .u8)))] [(.sl (.int .u8)), (.int .i64)] (fun c => attr_Lay N c.1))
theorem Ev108_ok (N : Nat) (R : Type) : EnvOK Go.Proofs.Try.prog (Ev108 N R) := EnvOK.addFn hmx (Ev107_ok N R) (Ev107_ok N _) (by kernel_rfl) (fun c => attr_Lay_S N c.1)
noncomputable def Ev109 (N : Nat) : (R : Type) → Env R := Env.addBx (Ev108 N) [(105, 0)]
theorem Ev109_ok (N : Nat) (R : Type) : EnvOK Go.Proofs.Try.prog (Ev109 N R) := EnvOK.addBx (Ev108_ok N R) [(105, 0)]
noncomputable def attr_sizes (N : Nat) (kind0 : Int) : Option ((Int) × Int) :=
 bif (decide (kind0 = (1 : Int))) then
  some (((2 : Int), (2 : Int)))
 else
  bif (decide (kind0 = (2 : Int))) then
   some (((8 : Int), (72 : Int)))
  else
   bif (decide (kind0 = (3 : Int))) then
    some (((100 : Int), (100 : Int)))
   else
    bif (decide (kind0 = (4 : Int))) then
     some (((36 : Int), (36 : Int)))
    else
     some (((0 : Int), (0 : Int)))
theorem attr_sizes_S (N : Nat) (kind0 : Int) : (runK Go.Proofs.Try.prog (Ev109 N) 400 128 [(.int .u8)] [(.int .i64), (.int .i64)] (kind0, ())).run = attr_sizes N kind0 := by kernel_rfl
noncomputable def Ev110 (N : Nat) : (R : Type) → Env R := Env.addFn (Ev109 N) 128 (fun R => fnK [(.int .u8)] [(.int .i64), (.int .i64)] (fun c => attr_sizes N c.1))
theorem Ev110_ok (N : Nat) (R : Type) : EnvOK Go.Proofs.Try.prog (Ev110 N R) := EnvOK.addFn hmx (Ev109_ok N R) (Ev109_ok N _) (by kernel_rfl) (fun c => attr_sizes_S N c.1)
noncomputable def Ev111 (N : Nat) : (R : Type) → Env R := Env.addBx (Ev110 N) [(129, 0)]
theorem Ev111_ok (N : Nat) (R : Type) : EnvOK Go.Proofs.Try.prog (Ev111 N R) := EnvOK.addBx (Ev110_ok N R) [(129, 0)]
noncomputable def attr_fine (N : Nat) (a0 : (Int) × (List (Int))) : Option (Bool) :=
 bif (decide (a0.1 = (1 : Int))) then
  some (@Bool.true)
 else
  Option.bind (getI a0.2 (3 : Int)) fun (v2 : Int) =>
  Option.bind (takeI a0.2 (3 : Int)) fun (v3 : (List Int)) =>
  Option.bind (@toArr Int (3 : Nat) v3) fun (v4 : (Arr Int 3)) =>
  bif ((@wfB (@Td.arr (3 : Nat) (@Td.int @Go.IntKind.u8)) v4) && (@wfB (@Td.arr (3 : Nat) (@Td.int @Go.IntKind.u8)) (@Arr.cons Int (2 : Nat) (0 : Int) (@Arr.cons Int (1 : Nat) (0 : Int) (@Arr.cons Int (0 : Nat) (0 : Int) (@Arr.nil Int)))))) then
   bif (!(@Decidable.decide (@Eq (Arr Int 3) v4 (@Arr.cons Int (2 : Nat) (0 : Int) (@Arr.cons Int (1 : Nat) (0 : Int) (@Arr.cons Int (0 : Nat) (0 : Int) (@Arr.nil Int))))) (@decT (@Td.arr (3 : Nat) (@Td.int @Go.IntKind.u8)) v4 (@Arr.cons Int (2 : Nat) (0 : Int) (@Arr.cons Int (1 : Nat) (0 : Int) (@Arr.cons Int (0 : Nat) (0 : Int) (@Arr.nil Int))))))) then
    some (@Bool.false)
   else
    bif (decide (a0.1 = (2 : Int))) then
     some ((decide (v2 ≤ (4 : Int))))
    else
     bif (decide (a0.1 = (3 : Int))) then
      bif (decide (v2 = (1 : Int))) then
       some (@Bool.true)
      else
       some ((@cond Bool @Bool.false @Bool.true (decide (v2 = (2 : Int)))))
     else
      bif (decide ((1 : Int) ≤ v2)) then
       some ((@cond Bool @Bool.true (decide (v2 ≤ (3 : Int))) @Bool.false))
      else
       some (@Bool.false)
  else
   none
theorem attr_fine_S (N : Nat) (a0 : (Int) × (List (Int))) : (runK Go.Proofs.Try.prog (Ev111 N) 400 129 [(.pair (.int .u8) (.sl (.int .u8)))] [.bool] (a0, ())).run = attr_fine N a0 := by kernel_rfl
noncomputable def Ev112 (N : Nat) : (R : Type) → Env R := Env.addFn (Ev111 N) 129 (fun R => fnK [(.pair (.int .u8) (.sl (.int .u8)))] [.bool] (fun c => attr_fine N c.1))
theorem Ev112_ok (N : Nat) (R : Type) : EnvOK Go.Proofs.Try.prog (Ev112 N R) := EnvOK.addFn hmx (Ev111_ok N R) (Ev111_ok N _) (by kernel_rfl) (fun c => attr_fine_S N c.1)
noncomputable def attr_Check (N : Nat) (a0 : (Int) × (List (Int))) : Option (Int) :=
 Option.bind (@attr_sizes N a0.1) fun (v2 : (Int × Int)) =>
 Option.bind (@attr_isKind N a0.1) fun (v3 : Bool) =>
 bif (!v3) then
  some ((9 : Int))
 else
  bif (decide ((((List.length a0.2) : Nat) : Int) < v2.1)) then
   some ((4 : Int))
  else
   bif (decide (v2.2 < (((List.length a0.2) : Nat) : Int))) then
    some ((3 : Int))
   else
    Option.bind (@attr_fine N (a0.1, a0.2)) fun (v4 : Bool) =>
    bif (@cond Bool @Bool.false @Bool.true (!v4)) then
     some ((3 : Int))
    else
     some ((0 : Int))
theorem attr_Check_S (N : Nat) (a0 : (Int) × (List (Int))) : (runK Go.Proofs.Try.prog (Ev112 N) 400 105 [(.pair (.int .u8) (.sl (.int .u8)))] [(.int .i64)] (a0, ())).run = attr_Check N a0 := by kernel_rfl
theorem attr_Check_C (N : Nat) (a0 : (Int) × (List (Int))) (y : Int) (h : attr_Check N a0 = some y) : CallsK Go.Proofs.Try.prog 105 (valA [(.pair (.int .u8) (.sl (.int .u8)))] (a0, ())) (tupV (valR [(.int .i64)] y)) := runK_ok hmx (Ev112_ok N _) (okFn_ok (by kernel_rfl)) (by rw [attr_Check_S]; exact h)
noncomputable def Ev113 (N : Nat) : (R : Type) → Env R := Env.addFn (Ev112 N) 105 (fun R => fnK [(.pair (.int .u8) (.sl (.int .u8)))] [(.int .i64)] (fun c => attr_Check N c.1))
theorem Ev113_ok (N : Nat) (R : Type) : EnvOK Go.Proofs.Try.prog (Ev113 N R) := EnvOK.addFn hmx (Ev112_ok N R) (Ev112_ok N _) (by kernel_rfl) (fun c => attr_Check_S N c.1)
noncomputable def Ev114 (N : Nat) : (R : Type) → Env R := Env.addBx (Ev113 N) [(52, 0)]
theorem Ev114_ok (N : Nat) (R : Type) : EnvOK Go.Proofs.Try.prog (Ev114 N R) := EnvOK.addBx (Ev113_ok N R) [(52, 0)]
noncomputable def attr_Same (N : Nat) (a0 : (Int) × (List (Int))) (b1 : (Int) × (List (Int))) : Option (Bool) :=
 Option.bind (@toBy a0.2) fun (v3 : (List UInt8)) =>
 Option.bind (@toBy b1.2) fun (v4 : (List UInt8)) =>
 bif ((@wfB (@Td.pair (@Td.int @Go.IntKind.u8) @Td.str) (a0.1, v3)) && (@wfB (@Td.pair (@Td.int @Go.IntKind.u8) @Td.str) (b1.1, v4))) then
  some ((@Decidable.decide (@Eq (Int × (List UInt8)) (a0.1, v3) (b1.1, v4)) (@decT (@Td.pair (@Td.int @Go.IntKind.u8) @Td.str) (a0.1, v3) (b1.1, v4))))
 else
  none
theorem attr_Same_S (N : Nat) (a0 : (Int) × (List (Int))) (b1 : (Int) × (List (Int))) : (runK Go.Proofs.Try.prog (Ev114 N) 400 52 [(.pair (.int .u8) (.sl (.int .u8))), (.pair (.int .u8) (.sl (.int .u8)))] [.bool] (a0, b1, ())).run = attr_Same N a0 b1 := by kernel_rfl
theorem attr_Same_C (N : Nat) (a0 : (Int) × (List (Int))) (b1 : (Int) × (List (Int))) (y : Bool) (h : attr_Same N a0 b1 = some y) : CallsK Go.Proofs.Try.prog 52 (valA [(.pair (.int .u8) (.sl (.int .u8))), (.pair (.int .u8) (.sl (.int .u8)))] (a0, b1, ())) (tupV (valR [.bool] y)) := runK_ok hmx (Ev114_ok N _) (okFn_ok (by kernel_rfl)) (by rw [attr_Same_S]; exact h)
noncomputable def Ev115 (N : Nat) : (R : Type) → Env R := Env.addFn (Ev114 N) 52 (fun R => fnK [(.pair (.int .u8) (.sl (.int .u8))), (.pair (.int .u8) (.sl (.int .u8)))] [.bool] (fun c => attr_Same N c.1 c.2.1))
theorem Ev115_ok (N : Nat) (R : Type) : EnvOK Go.Proofs.Try.prog (Ev115 N R) := EnvOK.addFn hmx (Ev114_ok N R) (Ev114_ok N _) (by kernel_rfl) (fun c => attr_Same_S N c.1 c.2.1)
noncomputable def Ev116 (N : Nat) : (R : Type) → Env R := Env.addBx (Ev115 N) [(84, 0)]
theorem Ev116_ok (N : Nat) (R : Type) : EnvOK Go.Proofs.Try.prog (Ev116 N R) := EnvOK.addBx (Ev115_ok N R) [(84, 0)]
noncomputable def attr_behind (N : Nat) (first0 : Int) (parts1 : List (List (Int))) : Option (List (Int)) :=
 Option.bind (@octs_Join N parts1) fun (v3 : (List Int)) =>
 Option.bind (@octs_Join N ([(@List.replicate Int (Int.toNat (3 : Int)) (0 : Int)), ([first0] : List (Int)), v3] : List ((List Int)))) fun (v4 : (List Int)) =>
 some (v4)
theorem attr_behind_S (N : Nat) (first0 : Int) (parts1 : List (List (Int))) : (runK Go.Proofs.Try.prog (Ev116 N) 400 89 [(.int .u8), (.sl (.sl (.int .u8)))] [(.sl (.int .u8))] (first0, parts1, ())).run = attr_behind N first0 parts1 := by kernel_rfl
noncomputable def Ev117 (N : Nat) : (R : Type) → Env R := Env.addFn (Ev116 N) 89 (fun R => fnK [(.int .u8), (.sl (.sl (.int .u8)))] [(.sl (.int .u8))] (fun c => attr_behind N c.1 c.2.1))
theorem Ev117_ok (N : Nat) (R : Type) : EnvOK Go.Proofs.Try.prog (Ev117 N R) := EnvOK.addFn hmx (Ev116_ok N R) (Ev116_ok N _) (by kernel_rfl) (fun c => attr_behind_S N c.1 c.2.1)
noncomputable def attr_OfBinding (N : Nat) (x0 : (Int) × ((Arr (Int) 32) × ((Arr (Int) 32) × (Arr (Int) 32)))) : Option ((Int) × (List (Int))) :=
 Option.bind (@attr_behind N x0.1 ([x0.2.1.l, x0.2.2.1.l, x0.2.2.2.l] : List ((List Int)))) fun (v2 : (List Int)) =>
 some (((3 : Int), v2))
theorem attr_OfBinding_S (N : Nat) (x0 : (Int) × ((Arr (Int) 32) × ((Arr (Int) 32) × (Arr (Int) 32)))) : (runK Go.Proofs.Try.prog (Ev117 N) 400 84 [(.pair (.int .u8) (.pair (.arr 32 (.int .u8)) (.pair (.arr 32 (.int .u8)) (.arr 32 (.int .u8)))))] [(.pair (.int .u8) (.sl (.int .u8)))] (x0, ())).run = attr_OfBinding N x0 := by kernel_rfl
theorem attr_OfBinding_C (N : Nat) (x0 : (Int) × ((Arr (Int) 32) × ((Arr (Int) 32) × (Arr (Int) 32)))) (y : (Int) × (List (Int))) (h : attr_OfBinding N x0 = some y) : CallsK Go.Proofs.Try.prog 84 (valA [(.pair (.int .u8) (.pair (.arr 32 (.int .u8)) (.pair (.arr 32 (.int .u8)) (.arr 32 (.int .u8)))))] (x0, ())) (tupV (valR [(.pair (.int .u8) (.sl (.int .u8)))] y)) := runK_ok hmx (Ev117_ok N _) (okFn_ok (by kernel_rfl)) (by rw [attr_OfBinding_S]; exact h)
noncomputable def Ev118 (N : Nat) : (R : Type) → Env R := Env.addFn (Ev117 N) 84 (fun R => fnK [(.pair (.int .u8) (.pair (.arr 32 (.int .u8)) (.pair (.arr 32 (.int .u8)) (.arr 32 (.int .u8)))))] [(.pair (.int .u8) (.sl (.int .u8)))] (fun c => attr_OfBinding N c.1))
theorem Ev118_ok (N : Nat) (R : Type) : EnvOK Go.Proofs.Try.prog (Ev118 N R) := EnvOK.addFn hmx (Ev117_ok N R) (Ev117_ok N _) (by kernel_rfl) (fun c => attr_OfBinding_S N c.1)
noncomputable def Ev119 (N : Nat) : (R : Type) → Env R := Env.addBx (Ev118 N) [(69, 0)]
theorem Ev119_ok (N : Nat) (R : Type) : EnvOK Go.Proofs.Try.prog (Ev119 N R) := EnvOK.addBx (Ev118_ok N R) [(69, 0)]
noncomputable def attr_OfAsk (N : Nat) (x0 : (Int) × (Arr (Int) 32)) : Option ((Int) × (List (Int))) :=
 Option.bind (@attr_behind N x0.1 ([x0.2.l] : List ((List Int)))) fun (v2 : (List Int)) =>
 some (((4 : Int), v2))
theorem attr_OfAsk_S (N : Nat) (x0 : (Int) × (Arr (Int) 32)) : (runK Go.Proofs.Try.prog (Ev119 N) 400 69 [(.pair (.int .u8) (.arr 32 (.int .u8)))] [(.pair (.int .u8) (.sl (.int .u8)))] (x0, ())).run = attr_OfAsk N x0 := by kernel_rfl
theorem attr_OfAsk_C (N : Nat) (x0 : (Int) × (Arr (Int) 32)) (y : (Int) × (List (Int))) (h : attr_OfAsk N x0 = some y) : CallsK Go.Proofs.Try.prog 69 (valA [(.pair (.int .u8) (.arr 32 (.int .u8)))] (x0, ())) (tupV (valR [(.pair (.int .u8) (.sl (.int .u8)))] y)) := runK_ok hmx (Ev119_ok N _) (okFn_ok (by kernel_rfl)) (by rw [attr_OfAsk_S]; exact h)
noncomputable def Ev120 (N : Nat) : (R : Type) → Env R := Env.addFn (Ev119 N) 69 (fun R => fnK [(.pair (.int .u8) (.arr 32 (.int .u8)))] [(.pair (.int .u8) (.sl (.int .u8)))] (fun c => attr_OfAsk N c.1))
theorem Ev120_ok (N : Nat) (R : Type) : EnvOK Go.Proofs.Try.prog (Ev120 N R) := EnvOK.addFn hmx (Ev119_ok N R) (Ev119_ok N _) (by kernel_rfl) (fun c => attr_OfAsk_S N c.1)
noncomputable def Ev121 (N : Nat) : (R : Type) → Env R := Env.addBx (Ev120 N) [(92, 0)]
theorem Ev121_ok (N : Nat) (R : Type) : EnvOK Go.Proofs.Try.prog (Ev121 N R) := EnvOK.addBx (Ev120_ok N R) [(92, 0)]
noncomputable def Ev122 (N : Nat) : (R : Type) → Env R := Env.addBx (Ev121 N) [(106, 0)]
theorem Ev122_ok (N : Nat) (R : Type) : EnvOK Go.Proofs.Try.prog (Ev122 N R) := EnvOK.addBx (Ev121_ok N R) [(106, 0)]
noncomputable def attr_checked (N : Nat) (a0 : (Int) × (List (Int))) (kind1 : Int) : Option (Int) :=
 bif (!(decide (a0.1 = kind1))) then
  some ((9 : Int))
 else
  Option.bind (@attr_Check N (a0.1, a0.2)) fun (v3 : Int) =>
  some (v3)
theorem attr_checked_S (N : Nat) (a0 : (Int) × (List (Int))) (kind1 : Int) : (runK Go.Proofs.Try.prog (Ev122 N) 400 106 [(.pair (.int .u8) (.sl (.int .u8))), (.int .u8)] [(.int .i64)] (a0, kind1, ())).run = attr_checked N a0 kind1 := by kernel_rfl
noncomputable def Ev123 (N : Nat) : (R : Type) → Env R := Env.addFn (Ev122 N) 106 (fun R => fnK [(.pair (.int .u8) (.sl (.int .u8))), (.int .u8)] [(.int .i64)] (fun c => attr_checked N c.1 c.2.1))
theorem Ev123_ok (N : Nat) (R : Type) : EnvOK Go.Proofs.Try.prog (Ev123 N R) := EnvOK.addFn hmx (Ev122_ok N R) (Ev122_ok N _) (by kernel_rfl) (fun c => attr_checked_S N c.1 c.2.1)
noncomputable def attr_ToBinding (N : Nat) (a0 : (Int) × (List (Int))) : Option (((Int) × ((Arr (Int) 32) × ((Arr (Int) 32) × (Arr (Int) 32)))) × Int) :=
 Option.bind (@attr_checked N (a0.1, a0.2) (3 : Int)) fun (v2 : Int) =>
 bif (!(decide (v2 = (0 : Int)))) then
  some ((((0 : Int), ((@Arr.cons Int (31 : Nat) (0 : Int) (@Arr.cons Int (30 : Nat) (0 : Int) (@Arr.cons Int (29 : Nat) (0 : Int) (@Arr.cons Int (28 : Nat) (0 : Int) (@Arr.cons Int (27 : Nat) (0 : Int) (@Arr.cons Int (26 : Nat) (0 : Int) (@Arr.cons Int (25 : Nat) (0 : Int) (@Arr.cons Int (24 : Nat) (0 : Int) (@Arr.cons Int (23 : Nat) (0 : Int) (@Arr.cons Int (22 : Nat) (0 : Int) (@Arr.cons Int (21 : Nat) (0 : Int) (@Arr.cons Int (20 : Nat) (0 : Int) (@Arr.cons Int (19 : Nat) (0 : Int) (@Arr.cons Int (18 : Nat) (0 : Int) (@Arr.cons Int (17 : Nat) (0 : Int) (@Arr.cons Int (16 : Nat) (0 : Int) (@Arr.cons Int (15 : Nat) (0 : Int) (@Arr.cons Int (14 : Nat) (0 : Int) (@Arr.cons Int (13 : Nat) (0 : Int) (@Arr.cons Int (12 : Nat) (0 : Int) (@Arr.cons Int (11 : Nat) (0 : Int) (@Arr.cons Int (10 : Nat) (0 : Int) (@Arr.cons Int (9 : Nat) (0 : Int) (@Arr.cons Int (8 : Nat) (0 : Int) (@Arr.cons Int (7 : Nat) (0 : Int) (@Arr.cons Int (6 : Nat) (0 : Int) (@Arr.cons Int (5 : Nat) (0 : Int) (@Arr.cons Int (4 : Nat) (0 : Int) (@Arr.cons Int (3 : Nat) (0 : Int) (@Arr.cons Int (2 : Nat) (0 : Int) (@Arr.cons Int (1 : Nat) (0 : Int) (@Arr.cons Int (0 : Nat) (0 : Int) (@Arr.nil Int))))))))))))))))))))))))))))))))), ((@Arr.cons Int (31 : Nat) (0 : Int) (@Arr.cons Int (30 : Nat) (0 : Int) (@Arr.cons Int (29 : Nat) (0 : Int) (@Arr.cons Int (28 : Nat) (0 : Int) (@Arr.cons Int (27 : Nat) (0 : Int) (@Arr.cons Int (26 : Nat) (0 : Int) (@Arr.cons Int (25 : Nat) (0 : Int) (@Arr.cons Int (24 : Nat) (0 : Int) (@Arr.cons Int (23 : Nat) (0 : Int) (@Arr.cons Int (22 : Nat) (0 : Int) (@Arr.cons Int (21 : Nat) (0 : Int) (@Arr.cons Int (20 : Nat) (0 : Int) (@Arr.cons Int (19 : Nat) (0 : Int) (@Arr.cons Int (18 : Nat) (0 : Int) (@Arr.cons Int (17 : Nat) (0 : Int) (@Arr.cons Int (16 : Nat) (0 : Int) (@Arr.cons Int (15 : Nat) (0 : Int) (@Arr.cons Int (14 : Nat) (0 : Int) (@Arr.cons Int (13 : Nat) (0 : Int) (@Arr.cons Int (12 : Nat) (0 : Int) (@Arr.cons Int (11 : Nat) (0 : Int) (@Arr.cons Int (10 : Nat) (0 : Int) (@Arr.cons Int (9 : Nat) (0 : Int) (@Arr.cons Int (8 : Nat) (0 : Int) (@Arr.cons Int (7 : Nat) (0 : Int) (@Arr.cons Int (6 : Nat) (0 : Int) (@Arr.cons Int (5 : Nat) (0 : Int) (@Arr.cons Int (4 : Nat) (0 : Int) (@Arr.cons Int (3 : Nat) (0 : Int) (@Arr.cons Int (2 : Nat) (0 : Int) (@Arr.cons Int (1 : Nat) (0 : Int) (@Arr.cons Int (0 : Nat) (0 : Int) (@Arr.nil Int))))))))))))))))))))))))))))))))), (@Arr.cons Int (31 : Nat) (0 : Int) (@Arr.cons Int (30 : Nat) (0 : Int) (@Arr.cons Int (29 : Nat) (0 : Int) (@Arr.cons Int (28 : Nat) (0 : Int) (@Arr.cons Int (27 : Nat) (0 : Int) (@Arr.cons Int (26 : Nat) (0 : Int) (@Arr.cons Int (25 : Nat) (0 : Int) (@Arr.cons Int (24 : Nat) (0 : Int) (@Arr.cons Int (23 : Nat) (0 : Int) (@Arr.cons Int (22 : Nat) (0 : Int) (@Arr.cons Int (21 : Nat) (0 : Int) (@Arr.cons Int (20 : Nat) (0 : Int) (@Arr.cons Int (19 : Nat) (0 : Int) (@Arr.cons Int (18 : Nat) (0 : Int) (@Arr.cons Int (17 : Nat) (0 : Int) (@Arr.cons Int (16 : Nat) (0 : Int) (@Arr.cons Int (15 : Nat) (0 : Int) (@Arr.cons Int (14 : Nat) (0 : Int) (@Arr.cons Int (13 : Nat) (0 : Int) (@Arr.cons Int (12 : Nat) (0 : Int) (@Arr.cons Int (11 : Nat) (0 : Int) (@Arr.cons Int (10 : Nat) (0 : Int) (@Arr.cons Int (9 : Nat) (0 : Int) (@Arr.cons Int (8 : Nat) (0 : Int) (@Arr.cons Int (7 : Nat) (0 : Int) (@Arr.cons Int (6 : Nat) (0 : Int) (@Arr.cons Int (5 : Nat) (0 : Int) (@Arr.cons Int (4 : Nat) (0 : Int) (@Arr.cons Int (3 : Nat) (0 : Int) (@Arr.cons Int (2 : Nat) (0 : Int) (@Arr.cons Int (1 : Nat) (0 : Int) (@Arr.cons Int (0 : Nat) (0 : Int) (@Arr.nil Int)))))))))))))))))))))))))))))))))))), v2))
 else
  Option.bind (getI a0.2 (3 : Int)) fun (v3 : Int) =>
  Option.bind (subI a0.2 (4 : Int) (36 : Int)) fun (v4 : (List Int)) =>
  Option.bind (@toArr Int (32 : Nat) v4) fun (v5 : (Arr Int 32)) =>
  Option.bind (subI a0.2 (36 : Int) (68 : Int)) fun (v6 : (List Int)) =>
  Option.bind (@toArr Int (32 : Nat) v6) fun (v7 : (Arr Int 32)) =>
  Option.bind (dropI a0.2 (68 : Int)) fun (v8 : (List Int)) =>
  Option.bind (@toArr Int (32 : Nat) v8) fun (v9 : (Arr Int 32)) =>
  some (((v3, (v5, (v7, v9))), (0 : Int)))
theorem attr_ToBinding_S (N : Nat) (a0 : (Int) × (List (Int))) : (runK Go.Proofs.Try.prog (Ev123 N) 400 92 [(.pair (.int .u8) (.sl (.int .u8)))] [(.pair (.int .u8) (.pair (.arr 32 (.int .u8)) (.pair (.arr 32 (.int .u8)) (.arr 32 (.int .u8))))), (.int .i64)] (a0, ())).run = attr_ToBinding N a0 := by kernel_rfl
theorem attr_ToBinding_C (N : Nat) (a0 : (Int) × (List (Int))) (y : ((Int) × ((Arr (Int) 32) × ((Arr (Int) 32) × (Arr (Int) 32)))) × Int) (h : attr_ToBinding N a0 = some y) : CallsK Go.Proofs.Try.prog 92 (valA [(.pair (.int .u8) (.sl (.int .u8)))] (a0, ())) (tupV (valR [(.pair (.int .u8) (.pair (.arr 32 (.int .u8)) (.pair (.arr 32 (.int .u8)) (.arr 32 (.int .u8))))), (.int .i64)] y)) := runK_ok hmx (Ev123_ok N _) (okFn_ok (by kernel_rfl)) (by rw [attr_ToBinding_S]; exact h)
noncomputable def Ev124 (N : Nat) : (R : Type) → Env R := Env.addFn (Ev123 N) 92 (fun R => fnK [(.pair (.int .u8) (.sl (.int .u8)))] [(.pair (.int .u8) (.pair (.arr 32 (.int .u8)) (.pair (.arr 32 (.int .u8)) (.arr 32 (.int .u8))))), (.int .i64)] (fun c => attr_ToBinding N c.1))
theorem Ev124_ok (N : Nat) (R : Type) : EnvOK Go.Proofs.Try.prog (Ev124 N R) := EnvOK.addFn hmx (Ev123_ok N R) (Ev123_ok N _) (by kernel_rfl) (fun c => attr_ToBinding_S N c.1)
noncomputable def Ev125 (N : Nat) : (R : Type) → Env R := Env.addBx (Ev124 N) [(91, 0)]
theorem Ev125_ok (N : Nat) (R : Type) : EnvOK Go.Proofs.Try.prog (Ev125 N R) := EnvOK.addBx (Ev124_ok N R) [(91, 0)]
noncomputable def attr_ToAsk (N : Nat) (a0 : (Int) × (List (Int))) : Option (((Int) × (Arr (Int) 32)) × Int) :=
 Option.bind (@attr_checked N (a0.1, a0.2) (4 : Int)) fun (v2 : Int) =>
 bif (!(decide (v2 = (0 : Int)))) then
  some ((((0 : Int), (@Arr.cons Int (31 : Nat) (0 : Int) (@Arr.cons Int (30 : Nat) (0 : Int) (@Arr.cons Int (29 : Nat) (0 : Int) (@Arr.cons Int (28 : Nat) (0 : Int) (@Arr.cons Int (27 : Nat) (0 : Int) (@Arr.cons Int (26 : Nat) (0 : Int) (@Arr.cons Int (25 : Nat) (0 : Int) (@Arr.cons Int (24 : Nat) (0 : Int) (@Arr.cons Int (23 : Nat) (0 : Int) (@Arr.cons Int (22 : Nat) (0 : Int) (@Arr.cons Int (21 : Nat) (0 : Int) (@Arr.cons Int (20 : Nat) (0 : Int) (@Arr.cons Int (19 : Nat) (0 : Int) (@Arr.cons Int (18 : Nat) (0 : Int) (@Arr.cons Int (17 : Nat) (0 : Int) (@Arr.cons Int (16 : Nat) (0 : Int) (@Arr.cons Int (15 : Nat) (0 : Int) (@Arr.cons Int (14 : Nat) (0 : Int) (@Arr.cons Int (13 : Nat) (0 : Int) (@Arr.cons Int (12 : Nat) (0 : Int) (@Arr.cons Int (11 : Nat) (0 : Int) (@Arr.cons Int (10 : Nat) (0 : Int) (@Arr.cons Int (9 : Nat) (0 : Int) (@Arr.cons Int (8 : Nat) (0 : Int) (@Arr.cons Int (7 : Nat) (0 : Int) (@Arr.cons Int (6 : Nat) (0 : Int) (@Arr.cons Int (5 : Nat) (0 : Int) (@Arr.cons Int (4 : Nat) (0 : Int) (@Arr.cons Int (3 : Nat) (0 : Int) (@Arr.cons Int (2 : Nat) (0 : Int) (@Arr.cons Int (1 : Nat) (0 : Int) (@Arr.cons Int (0 : Nat) (0 : Int) (@Arr.nil Int)))))))))))))))))))))))))))))))))), v2))
 else
  Option.bind (getI a0.2 (3 : Int)) fun (v3 : Int) =>
  Option.bind (dropI a0.2 (4 : Int)) fun (v4 : (List Int)) =>
  Option.bind (@toArr Int (32 : Nat) v4) fun (v5 : (Arr Int 32)) =>
  some (((v3, v5), (0 : Int)))
theorem attr_ToAsk_S (N : Nat) (a0 : (Int) × (List (Int))) : (runK Go.Proofs.Try.prog (Ev125 N) 400 91 [(.pair (.int .u8) (.sl (.int .u8)))] [(.pair (.int .u8) (.arr 32 (.int .u8))), (.int .i64)] (a0, ())).run = attr_ToAsk N a0 := by kernel_rfl
theorem attr_ToAsk_C (N : Nat) (a0 : (Int) × (List (Int))) (y : ((Int) × (Arr (Int) 32)) × Int) (h : attr_ToAsk N a0 = some y) : CallsK Go.Proofs.Try.prog 91 (valA [(.pair (.int .u8) (.sl (.int .u8)))] (a0, ())) (tupV (valR [(.pair (.int .u8) (.arr 32 (.int .u8))), (.int .i64)] y)) := runK_ok hmx (Ev125_ok N _) (okFn_ok (by kernel_rfl)) (by rw [attr_ToAsk_S]; exact h)
noncomputable def Ev126 (N : Nat) : (R : Type) → Env R := Env.addFn (Ev125 N) 91 (fun R => fnK [(.pair (.int .u8) (.sl (.int .u8)))] [(.pair (.int .u8) (.arr 32 (.int .u8))), (.int .i64)] (fun c => attr_ToAsk N c.1))
theorem Ev126_ok (N : Nat) (R : Type) : EnvOK Go.Proofs.Try.prog (Ev126 N R) := EnvOK.addFn hmx (Ev125_ok N R) (Ev125_ok N _) (by kernel_rfl) (fun c => attr_ToAsk_S N c.1)
noncomputable def Ev127 (N : Nat) : (R : Type) → Env R := Env.addBx (Ev126 N) [(99, 0)]
theorem Ev127_ok (N : Nat) (R : Type) : EnvOK Go.Proofs.Try.prog (Ev127 N R) := EnvOK.addBx (Ev126_ok N R) [(99, 0)]
noncomputable def ref17_kind (N : Nat) (id0 : Int) : Option (Bool) :=
 bif (decide ((1 : Int) ≤ id0)) then
  some ((@cond Bool @Bool.true (decide (id0 ≤ (4 : Int))) @Bool.false))
 else
  some (@Bool.false)
theorem ref17_kind_S (N : Nat) (id0 : Int) : (runK Go.Proofs.Try.prog (Ev127 N) 400 94 [(.int .u8)] [.bool] (id0, ())).run = ref17_kind N id0 := by kernel_rfl
noncomputable def Ev128 (N : Nat) : (R : Type) → Env R := Env.addFn (Ev127 N) 94 (fun R => fnK [(.int .u8)] [.bool] (fun c => ref17_kind N c.1))
theorem Ev128_ok (N : Nat) (R : Type) : EnvOK Go.Proofs.Try.prog (Ev128 N R) := EnvOK.addFn hmx (Ev127_ok N R) (Ev127_ok N _) (by kernel_rfl) (fun c => ref17_kind_S N c.1)
noncomputable def ref17_Lay_5_ref01_Big_L3_I : LI := ⟨24, 0, [], ⟨[(0, .ty (.int .u64)), (5, .lit (.own 0)), (6, .ty (.int .i64))], [.own (.int .u8) 5]⟩, [(.exit 0, ⟨[(5, .lit (.own 0))], [.own (.int .u8) 5]⟩)]⟩
noncomputable def ref17_Lay_5_ref01_Big_L3 (N : Nat) (X : (((Int) × ((Int) × Unit)) × ((List (Int)) × Unit)) → Option ((Unit × ((List (Int)) × Unit)))) (n0 : Int) (i6 : Int) (h0 : List (Int)) : Option ((Unit × ((List (Int)) × Unit))) :=
 bif (decide ((0 : Int) ≤ i6)) then
  bif (decide ((0 : Int) ≤ i6 ∧ i6 < (((List.length h0) : Nat) : Int))) then
   Option.bind (@GetElem?.getElem? (List Int) Nat Int (fun (as5 : (List Int)) => (fun (i6 : Nat) => (@LT.lt Nat @instLTNat i6 (List.length as5)))) (@List.instGetElem?NatLtLength Int) h0 (Int.toNat i6)) fun (v5 : Int) =>
   (X (((Go.IntKind.wrap .u64 (@Int.tdiv n0 (256 : Int))), ((Go.IntKind.wrap .i64 (i6 - (1 : Int))), @Unit.unit)), ((@List.set Int h0 (Int.toNat i6) (Go.IntKind.wrap .u8 (@Int.tmod n0 (256 : Int)))), @Unit.unit)))
  else
   none
 else
  some ((@Unit.unit, (h0, @Unit.unit)))
noncomputable def ref17_Lay_5_ref01_Big_L3_R (N : Nat) (c : (((Int) × ((Int) × Unit)) × ((List (Int)) × Unit))) : Option ((Unit × ((List (Int)) × Unit))) := gl (fun X c => ref17_Lay_5_ref01_Big_L3 N X c.1.1 c.1.2.1 c.2.1) N c
theorem ref17_Lay_5_ref01_Big_L3_S (N : Nat) (X : (((Int) × ((Int) × Unit)) × ((List (Int)) × Unit)) → Option ((Unit × ((List (Int)) × Unit)))) (n0 : Int) (i6 : Int) (h0 : List (Int)) : (roundK Go.Proofs.Try.prog (Ev128 N) 400 [59, 5, 99] ref17_Lay_5_ref01_Big_L3_I (loopAt Go.Proofs.Try.prog [59, 5, 99] 3) X ((n0, i6, ()), (h0, ()))).run = ref17_Lay_5_ref01_Big_L3 N X n0 i6 h0 := by kernel_rfl
noncomputable def Ev129 (N : Nat) : (R : Type) → Env R := Env.addLp (Ev128 N) [59, 5, 99] 0 3 (fun R => lpK Go.Proofs.Try.prog ref17_Lay_5_ref01_Big_L3_I (fun X c => ref17_Lay_5_ref01_Big_L3 N X c.1.1 c.1.2.1 c.2.1) N)
theorem Ev129_ok (N : Nat) (R : Type) : EnvOK Go.Proofs.Try.prog (Ev129 N R) := EnvOK.addLp (Ev128_ok N R) (by kernel_rfl) (lpK_ok (li := ref17_Lay_5_ref01_Big_L3_I) (G := fun X c => ref17_Lay_5_ref01_Big_L3 N X c.1.1 c.1.2.1 c.2.1) hmx (Ev128_ok N _) (by kernel_rfl) loopAt_sub (fun (X : CT ref17_Lay_5_ref01_Big_L3_I.sh → Option (OT ref17_Lay_5_ref01_Big_L3_I.outs)) (c : CT ref17_Lay_5_ref01_Big_L3_I.sh) => ref17_Lay_5_ref01_Big_L3_S N X c.1.1 c.1.2.1 c.2.1) N)
noncomputable def ref17_Lay (N : Nat) (a0 : (Int) × (List (Int))) : Option ((List (Int)) × Int) :=
 Option.bind (@ref17_kind N a0.1) fun (v2 : Bool) =>
 bif (!v2) then
  some ((([] : List (Int)), (9 : Int)))
 else
  bif (decide ((4091 : Int) < (((List.length a0.2) : Nat) : Int))) then
   some ((([] : List (Int)), (8 : Int)))
  else
   Option.bind (ref17_Lay_5_ref01_Big_L3_R N (((Go.IntKind.wrap .u64 (Go.IntKind.wrap .i64 ((4 : Int) + (((List.length a0.2) : Nat) : Int)))), ((Go.IntKind.wrap .i64 ((2 : Int) - (1 : Int))), @Unit.unit)), ((@List.replicate Int (Int.toNat (2 : Int)) (0 : Int)), @Unit.unit))) fun (v3 : (Unit × ((List Int) × Unit))) =>
   bif ((roomB ((List.length ([(0 : Int), a0.1] : List (Int))) + (List.length v3.2.1)) 1) && (!(@List.isEmpty Int v3.2.1))) then
    bif (roomB ((List.length (([(0 : Int), a0.1] : List (Int)) ++ v3.2.1)) + (List.length a0.2)) 1) then
     some ((((([(0 : Int), a0.1] : List (Int)) ++ v3.2.1) ++ a0.2), (0 : Int)))
    else
     none
   else
    none
theorem ref17_Lay_S (N : Nat) (a0 : (Int) × (List (Int))) : (runK Go.Proofs.Try.prog (Ev129 N) 400 99 [(.pair (.int .u8) (.sl (.int .u8)))] [(.sl (.int .u8)), (.int .i64)] (a0, ())).run = ref17_Lay N a0 := by kernel_rfl
theorem ref17_Lay_C (N : Nat) (a0 : (Int) × (List (Int))) (y : (List (Int)) × Int) (h : ref17_Lay N a0 = some y) : CallsK Go.Proofs.Try.prog 99 (valA [(.pair (.int .u8) (.sl (.int .u8)))] (a0, ())) (tupV (valR [(.sl (.int .u8)), (.int .i64)] y)) := runK_ok hmx (Ev129_ok N _) (okFn_ok (by kernel_rfl)) (by rw [ref17_Lay_S]; exact h)
noncomputable def Ev130 (N : Nat) : (R : Type) → Env R := Env.addFn (Ev129 N) 99 (fun R => fnK [(.pair (.int .u8) (.sl (.int .u8)))] [(.sl (.int .u8)), (.int .i64)] (fun c => ref17_Lay N c.1))
theorem Ev130_ok (N : Nat) (R : Type) : EnvOK Go.Proofs.Try.prog (Ev130 N R) := EnvOK.addFn hmx (Ev129_ok N R) (Ev129_ok N _) (by kernel_rfl) (fun c => ref17_Lay_S N c.1)
noncomputable def Ev131 (N : Nat) : (R : Type) → Env R := Env.addBx (Ev130 N) [(85, 0)]
theorem Ev131_ok (N : Nat) (R : Type) : EnvOK Go.Proofs.Try.prog (Ev131 N R) := EnvOK.addBx (Ev130_ok N R) [(85, 0)]
noncomputable def ref17_Binding (N : Nat) (method0 : Int) (nonce1 : Arr (Int) 32) (hash2 : Arr (Int) 32) (x3 : Arr (Int) 32) : Option ((Int) × (List (Int))) :=
 bif ((roomB ((List.length ([(0 : Int), (0 : Int), (0 : Int), method0] : List (Int))) + (List.length nonce1.l)) 1) && (!(@List.isEmpty Int nonce1.l))) then
  bif (roomB ((List.length (([(0 : Int), (0 : Int), (0 : Int), method0] : List (Int)) ++ nonce1.l)) + (List.length hash2.l)) 1) then
   bif (roomB ((List.length ((([(0 : Int), (0 : Int), (0 : Int), method0] : List (Int)) ++ nonce1.l) ++ hash2.l)) + (List.length x3.l)) 1) then
    some (((3 : Int), (((([(0 : Int), (0 : Int), (0 : Int), method0] : List (Int)) ++ nonce1.l) ++ hash2.l) ++ x3.l)))
   else
    none
  else
   none
 else
  none
theorem ref17_Binding_S (N : Nat) (method0 : Int) (nonce1 : Arr (Int) 32) (hash2 : Arr (Int) 32) (x3 : Arr (Int) 32) : (runK Go.Proofs.Try.prog (Ev131 N) 400 85 [(.int .u8), (.arr 32 (.int .u8)), (.arr 32 (.int .u8)), (.arr 32 (.int .u8))] [(.pair (.int .u8) (.sl (.int .u8)))] (method0, nonce1, hash2, x3, ())).run = ref17_Binding N method0 nonce1 hash2 x3 := by kernel_rfl
theorem ref17_Binding_C (N : Nat) (method0 : Int) (nonce1 : Arr (Int) 32) (hash2 : Arr (Int) 32) (x3 : Arr (Int) 32) (y : (Int) × (List (Int))) (h : ref17_Binding N method0 nonce1 hash2 x3 = some y) : CallsK Go.Proofs.Try.prog 85 (valA [(.int .u8), (.arr 32 (.int .u8)), (.arr 32 (.int .u8)), (.arr 32 (.int .u8))] (method0, nonce1, hash2, x3, ())) (tupV (valR [(.pair (.int .u8) (.sl (.int .u8)))] y)) := runK_ok hmx (Ev131_ok N _) (okFn_ok (by kernel_rfl)) (by rw [ref17_Binding_S]; exact h)
noncomputable def Ev132 (N : Nat) : (R : Type) → Env R := Env.addFn (Ev131 N) 85 (fun R => fnK [(.int .u8), (.arr 32 (.int .u8)), (.arr 32 (.int .u8)), (.arr 32 (.int .u8))] [(.pair (.int .u8) (.sl (.int .u8)))] (fun c => ref17_Binding N c.1 c.2.1 c.2.2.1 c.2.2.2.1))
theorem Ev132_ok (N : Nat) (R : Type) : EnvOK Go.Proofs.Try.prog (Ev132 N R) := EnvOK.addFn hmx (Ev131_ok N R) (Ev131_ok N _) (by kernel_rfl) (fun c => ref17_Binding_S N c.1 c.2.1 c.2.2.1 c.2.2.2.1)
noncomputable def Ev133 (N : Nat) : (R : Type) → Env R := Env.addBx (Ev132 N) [(70, 0)]
theorem Ev133_ok (N : Nat) (R : Type) : EnvOK Go.Proofs.Try.prog (Ev133 N R) := EnvOK.addBx (Ev132_ok N R) [(70, 0)]
noncomputable def ref17_Ask (N : Nat) (methods0 : Int) (nonce1 : Arr (Int) 32) : Option ((Int) × (List (Int))) :=
 bif ((roomB ((List.length ([(0 : Int), (0 : Int), (0 : Int), methods0] : List (Int))) + (List.length nonce1.l)) 1) && (!(@List.isEmpty Int nonce1.l))) then
  some (((4 : Int), (([(0 : Int), (0 : Int), (0 : Int), methods0] : List (Int)) ++ nonce1.l)))
 else
  none
theorem ref17_Ask_S (N : Nat) (methods0 : Int) (nonce1 : Arr (Int) 32) : (runK Go.Proofs.Try.prog (Ev133 N) 400 70 [(.int .u8), (.arr 32 (.int .u8))] [(.pair (.int .u8) (.sl (.int .u8)))] (methods0, nonce1, ())).run = ref17_Ask N methods0 nonce1 := by kernel_rfl
theorem ref17_Ask_C (N : Nat) (methods0 : Int) (nonce1 : Arr (Int) 32) (y : (Int) × (List (Int))) (h : ref17_Ask N methods0 nonce1 = some y) : CallsK Go.Proofs.Try.prog 70 (valA [(.int .u8), (.arr 32 (.int .u8))] (methods0, nonce1, ())) (tupV (valR [(.pair (.int .u8) (.sl (.int .u8)))] y)) := runK_ok hmx (Ev133_ok N _) (okFn_ok (by kernel_rfl)) (by rw [ref17_Ask_S]; exact h)
noncomputable def Ev134 (N : Nat) : (R : Type) → Env R := Env.addFn (Ev133 N) 70 (fun R => fnK [(.int .u8), (.arr 32 (.int .u8))] [(.pair (.int .u8) (.sl (.int .u8)))] (fun c => ref17_Ask N c.1 c.2.1))
theorem Ev134_ok (N : Nat) (R : Type) : EnvOK Go.Proofs.Try.prog (Ev134 N R) := EnvOK.addFn hmx (Ev133_ok N R) (Ev133_ok N _) (by kernel_rfl) (fun c => ref17_Ask_S N c.1 c.2.1)
noncomputable def Ev135 (N : Nat) : (R : Type) → Env R := Env.addInl (Ev134 N) [59, 58]
theorem Ev135_ok (N : Nat) (R : Type) : EnvOK Go.Proofs.Try.prog (Ev135 N R) := EnvOK.addInl (Ev134_ok N R) (by kernel_rfl)
noncomputable def Ev136 (N : Nat) : (R : Type) → Env R := Env.addBx (Ev135 N) [(74, 0)]
theorem Ev136_ok (N : Nat) (R : Type) : EnvOK Go.Proofs.Try.prog (Ev136 N R) := EnvOK.addBx (Ev135_ok N R) [(74, 0)]
noncomputable def packet_body_9_octs_Join_L3_I : LI := ⟨33, 0, [], ⟨[(0, .ty (.sl (.sl (.int .u8)))), (3, .ty (.int .i64)), (9, .ty (.sl (.sl (.int .u8)))), (10, .ty (.int .i64)), (11, .ty (.int .i64))], []⟩, [(.exit 0, ⟨[(0, .ty (.sl (.sl (.int .u8)))), (3, .ty (.int .i64))], []⟩)]⟩
noncomputable def packet_body_9_octs_Join_L3 (N : Nat) (X : (((List (List (Int))) × ((Int) × ((List (List (Int))) × ((Int) × ((Int) × Unit))))) × Unit) → Option ((((List (List (Int))) × ((Int) × Unit)) × Unit))) (parts0 : List (List (Int))) (size3 : Int) (x9 : List (List (Int))) (x10 : Int) (x11 : Int) : Option ((((List (List (Int))) × ((Int) × Unit)) × Unit)) :=
 bif (decide (x11 < x10)) then
  Option.bind (getI x9 x11) fun (v7 : (List Int)) =>
  (X ((parts0, ((Go.IntKind.wrap .i64 (size3 + (((List.length v7) : Nat) : Int))), (x9, (x10, ((Go.IntKind.wrap .i64 (x11 + (1 : Int))), @Unit.unit))))), @Unit.unit))
 else
  some (((parts0, (size3, @Unit.unit)), @Unit.unit))
noncomputable def packet_body_9_octs_Join_L3_R (N : Nat) (c : (((List (List (Int))) × ((Int) × ((List (List (Int))) × ((Int) × ((Int) × Unit))))) × Unit)) : Option ((((List (List (Int))) × ((Int) × Unit)) × Unit)) := gl (fun X c => packet_body_9_octs_Join_L3 N X c.1.1 c.1.2.1 c.1.2.2.1 c.1.2.2.2.1 c.1.2.2.2.2.1) N c
theorem packet_body_9_octs_Join_L3_S (N : Nat) (X : (((List (List (Int))) × ((Int) × ((List (List (Int))) × ((Int) × ((Int) × Unit))))) × Unit) → Option ((((List (List (Int))) × ((Int) × Unit)) × Unit))) (parts0 : List (List (Int))) (size3 : Int) (x9 : List (List (Int))) (x10 : Int) (x11 : Int) : (roundK Go.Proofs.Try.prog (Ev136 N) 400 [58, 9, 74] packet_body_9_octs_Join_L3_I (loopAt Go.Proofs.Try.prog [58, 9, 74] 3) X ((parts0, size3, x9, x10, x11, ()), ())).run = packet_body_9_octs_Join_L3 N X parts0 size3 x9 x10 x11 := by kernel_rfl
noncomputable def Ev137 (N : Nat) : (R : Type) → Env R := Env.addLp (Ev136 N) [58, 9, 74] 0 3 (fun R => lpK Go.Proofs.Try.prog packet_body_9_octs_Join_L3_I (fun X c => packet_body_9_octs_Join_L3 N X c.1.1 c.1.2.1 c.1.2.2.1 c.1.2.2.2.1 c.1.2.2.2.2.1) N)
theorem Ev137_ok (N : Nat) (R : Type) : EnvOK Go.Proofs.Try.prog (Ev137 N R) := EnvOK.addLp (Ev136_ok N R) (by kernel_rfl) (lpK_ok (li := packet_body_9_octs_Join_L3_I) (G := fun X c => packet_body_9_octs_Join_L3 N X c.1.1 c.1.2.1 c.1.2.2.1 c.1.2.2.2.1 c.1.2.2.2.2.1) hmx (Ev136_ok N _) (by kernel_rfl) loopAt_sub (fun (X : CT packet_body_9_octs_Join_L3_I.sh → Option (OT packet_body_9_octs_Join_L3_I.outs)) (c : CT packet_body_9_octs_Join_L3_I.sh) => packet_body_9_octs_Join_L3_S N X c.1.1 c.1.2.1 c.1.2.2.1 c.1.2.2.2.1 c.1.2.2.2.2.1) N)
noncomputable def packet_body_9_octs_Join_L9_I : LI := ⟨33, 0, [], ⟨[(6, .lit (.own 0)), (22, .ty (.sl (.sl (.int .u8)))), (23, .ty (.int .i64)), (24, .ty (.int .i64))], [.own (.int .u8) 5]⟩, [(.exit 2, ⟨[(6, .lit (.own 0))], [.own (.int .u8) 5]⟩)]⟩
noncomputable def packet_body_9_octs_Join_L9 (N : Nat) (X : (((List (List (Int))) × ((Int) × ((Int) × Unit))) × ((List (Int)) × Unit)) → Option ((Unit × ((List (Int)) × Unit)))) (x22 : List (List (Int))) (x23 : Int) (x24 : Int) (h0 : List (Int)) : Option ((Unit × ((List (Int)) × Unit))) :=
 bif (decide (x24 < x23)) then
  Option.bind (getI x22 x24) fun (v6 : (List Int)) =>
  bif (roomB ((List.length h0) + (List.length v6)) 1) then
   (X ((x22, (x23, ((Go.IntKind.wrap .i64 (x24 + (1 : Int))), @Unit.unit))), ((h0 ++ v6), @Unit.unit)))
  else
   none
 else
  some ((@Unit.unit, (h0, @Unit.unit)))
noncomputable def packet_body_9_octs_Join_L9_R (N : Nat) (c : (((List (List (Int))) × ((Int) × ((Int) × Unit))) × ((List (Int)) × Unit))) : Option ((Unit × ((List (Int)) × Unit))) := gl (fun X c => packet_body_9_octs_Join_L9 N X c.1.1 c.1.2.1 c.1.2.2.1 c.2.1) N c
theorem packet_body_9_octs_Join_L9_S (N : Nat) (X : (((List (List (Int))) × ((Int) × ((Int) × Unit))) × ((List (Int)) × Unit)) → Option ((Unit × ((List (Int)) × Unit)))) (x22 : List (List (Int))) (x23 : Int) (x24 : Int) (h0 : List (Int)) : (roundK Go.Proofs.Try.prog (Ev137 N) 400 [58, 9, 74] packet_body_9_octs_Join_L9_I (loopAt Go.Proofs.Try.prog [58, 9, 74] 9) X ((x22, x23, x24, ()), (h0, ()))).run = packet_body_9_octs_Join_L9 N X x22 x23 x24 h0 := by kernel_rfl
noncomputable def Ev138 (N : Nat) : (R : Type) → Env R := Env.addLp (Ev137 N) [58, 9, 74] 0 9 (fun R => lpK Go.Proofs.Try.prog packet_body_9_octs_Join_L9_I (fun X c => packet_body_9_octs_Join_L9 N X c.1.1 c.1.2.1 c.1.2.2.1 c.2.1) N)
theorem Ev138_ok (N : Nat) (R : Type) : EnvOK Go.Proofs.Try.prog (Ev138 N R) := EnvOK.addLp (Ev137_ok N R) (by kernel_rfl) (lpK_ok (li := packet_body_9_octs_Join_L9_I) (G := fun X c => packet_body_9_octs_Join_L9 N X c.1.1 c.1.2.1 c.1.2.2.1 c.2.1) hmx (Ev137_ok N _) (by kernel_rfl) loopAt_sub (fun (X : CT packet_body_9_octs_Join_L9_I.sh → Option (OT packet_body_9_octs_Join_L9_I.outs)) (c : CT packet_body_9_octs_Join_L9_I.sh) => packet_body_9_octs_Join_L9_S N X c.1.1 c.1.2.1 c.1.2.2.1 c.2.1) N)
noncomputable def packet_body_L11_I : LI := ⟨65, 0, [], ⟨[(8, .lit (.own 0)), (46, .ty (.sl (.pair (.int .u8) (.sl (.int .u8))))), (47, .ty (.int .i64)), (48, .ty (.int .i64))], [.own (.int .u8) 5]⟩, [(.ret, ⟨[(2, .ty (.sl (.int .u8))), (3, .ty (.int .i64))], []⟩), (.exit 0, ⟨[(8, .lit (.own 0))], [.own (.int .u8) 5]⟩)]⟩
noncomputable def packet_body_L11 (N : Nat) (X : (((List ((Int) × (List (Int)))) × ((Int) × ((Int) × Unit))) × ((List (Int)) × Unit)) → Option (((((List (Int)) × ((Int) × Unit)) × Unit) ⊕ (Unit × ((List (Int)) × Unit))))) (x46 : List ((Int) × (List (Int)))) (x47 : Int) (x48 : Int) (h0 : List (Int)) : Option (((((List (Int)) × ((Int) × Unit)) × Unit) ⊕ (Unit × ((List (Int)) × Unit)))) :=
 bif (decide (x48 < x47)) then
  Option.bind (getI x46 x48) fun (v6 : (Int × (List Int))) =>
  Option.bind (@attr_Lay N (v6.1, v6.2)) fun (v7 : ((List Int) × Int)) =>
  bif (!(decide (v7.2 = (0 : Int)))) then
   some ((.inl ((([] : List (Int)), (v7.2, @Unit.unit)), @Unit.unit)))
  else
   bif (roomB ((List.length h0) + (List.length v7.1)) 1) then
    (X ((x46, (x47, ((Go.IntKind.wrap .i64 (x48 + (1 : Int))), @Unit.unit))), ((h0 ++ v7.1), @Unit.unit)))
   else
    none
 else
  some ((.inr (@Unit.unit, (h0, @Unit.unit))))
noncomputable def packet_body_L11_R (N : Nat) (c : (((List ((Int) × (List (Int)))) × ((Int) × ((Int) × Unit))) × ((List (Int)) × Unit))) : Option (((((List (Int)) × ((Int) × Unit)) × Unit) ⊕ (Unit × ((List (Int)) × Unit)))) := gl (fun X c => packet_body_L11 N X c.1.1 c.1.2.1 c.1.2.2.1 c.2.1) N c
theorem packet_body_L11_S (N : Nat) (X : (((List ((Int) × (List (Int)))) × ((Int) × ((Int) × Unit))) × ((List (Int)) × Unit)) → Option (((((List (Int)) × ((Int) × Unit)) × Unit) ⊕ (Unit × ((List (Int)) × Unit))))) (x46 : List ((Int) × (List (Int)))) (x47 : Int) (x48 : Int) (h0 : List (Int)) : (roundK Go.Proofs.Try.prog (Ev138 N) 400 [74] packet_body_L11_I (loopAt Go.Proofs.Try.prog [74] 11) X ((x46, x47, x48, ()), (h0, ()))).run = packet_body_L11 N X x46 x47 x48 h0 := by kernel_rfl
noncomputable def Ev139 (N : Nat) : (R : Type) → Env R := Env.addLp (Ev138 N) [74] 0 11 (fun R => lpK Go.Proofs.Try.prog packet_body_L11_I (fun X c => packet_body_L11 N X c.1.1 c.1.2.1 c.1.2.2.1 c.2.1) N)
theorem Ev139_ok (N : Nat) (R : Type) : EnvOK Go.Proofs.Try.prog (Ev139 N R) := EnvOK.addLp (Ev138_ok N R) (by kernel_rfl) (lpK_ok (li := packet_body_L11_I) (G := fun X c => packet_body_L11 N X c.1.1 c.1.2.1 c.1.2.2.1 c.2.1) hmx (Ev138_ok N _) (by kernel_rfl) loopAt_sub (fun (X : CT packet_body_L11_I.sh → Option (OT packet_body_L11_I.outs)) (c : CT packet_body_L11_I.sh) => packet_body_L11_S N X c.1.1 c.1.2.1 c.1.2.2.1 c.2.1) N)
noncomputable def packet_body (N : Nat) (p0 : (Bool) × ((Int) × ((List ((Int) × (List (Int)))) × (List (Int))))) : Option ((List (Int)) × Int) :=
 bif (!p0.1) then
  bif (decide ((((List.length p0.2.2.2) : Nat) : Int) = (0 : Int))) then
   some ((([] : List (Int)), (4 : Int)))
  else
   some ((p0.2.2.2, (0 : Int)))
 else
  bif (decide ((8 : Int) < (((List.length p0.2.2.1) : Nat) : Int))) then
   some ((([] : List (Int)), (5 : Int)))
  else
   Option.bind (@octs_Put N (Go.IntKind.wrap .u64 p0.2.1) (2 : Int) @Bool.false) fun (v2 : ((List Int) × Int)) =>
   Option.bind (@octs_Put N (Go.IntKind.wrap .u64 (((List.length p0.2.2.1) : Nat) : Int)) (2 : Int) @Bool.false) fun (v3 : ((List Int) × Int)) =>
   Option.bind (packet_body_9_octs_Join_L3_R N ((([v2.1, v3.1] : List ((List Int))), ((0 : Int), (([v2.1, v3.1] : List ((List Int))), ((((List.length ([v2.1, v3.1] : List ((List Int)))) : Nat) : Int), ((0 : Int), @Unit.unit))))), @Unit.unit)) fun (v4 : (((List (List Int)) × (Int × Unit)) × Unit)) =>
   bif ((decide ((0 : Int) ≤ (0 : Int) ∧ (0 : Int) ≤ v4.1.2.1)) && (roomB (Int.toNat v4.1.2.1) 1)) then
    Option.bind (packet_body_9_octs_Join_L9_R N ((v4.1.1, ((((List.length v4.1.1) : Nat) : Int), ((0 : Int), @Unit.unit))), ((@List.replicate Int (Int.toNat (0 : Int)) (0 : Int)), @Unit.unit))) fun (v5 : (Unit × ((List Int) × Unit))) =>
    Option.bind (packet_body_L11_R N ((p0.2.2.1, ((((List.length p0.2.2.1) : Nat) : Int), ((0 : Int), @Unit.unit))), (v5.2.1, @Unit.unit))) fun (v6 : ((((List Int) × (Int × Unit)) × Unit) ⊕ (Unit × ((List Int) × Unit)))) =>
    Sum.elim
     (fun (v7 : (((List Int) × (Int × Unit)) × Unit)) =>
     some ((v7.1.1, v7.1.2.1)))
     (fun (v7 : (Unit × ((List Int) × Unit))) =>
     some ((v7.2.1, (0 : Int)))) v6
   else
    none
theorem packet_body_S (N : Nat) (p0 : (Bool) × ((Int) × ((List ((Int) × (List (Int)))) × (List (Int))))) : (runK Go.Proofs.Try.prog (Ev139 N) 400 74 [(.pair .bool (.pair (.int .u16) (.pair (.sl (.pair (.int .u8) (.sl (.int .u8)))) (.sl (.int .u8)))))] [(.sl (.int .u8)), (.int .i64)] (p0, ())).run = packet_body N p0 := by kernel_rfl
theorem packet_body_C (N : Nat) (p0 : (Bool) × ((Int) × ((List ((Int) × (List (Int)))) × (List (Int))))) (y : (List (Int)) × Int) (h : packet_body N p0 = some y) : CallsK Go.Proofs.Try.prog 74 (valA [(.pair .bool (.pair (.int .u16) (.pair (.sl (.pair (.int .u8) (.sl (.int .u8)))) (.sl (.int .u8)))))] (p0, ())) (tupV (valR [(.sl (.int .u8)), (.int .i64)] y)) := runK_ok hmx (Ev139_ok N _) (okFn_ok (by kernel_rfl)) (by rw [packet_body_S]; exact h)
noncomputable def Ev140 (N : Nat) : (R : Type) → Env R := Env.addFn (Ev139 N) 74 (fun R => fnK [(.pair .bool (.pair (.int .u16) (.pair (.sl (.pair (.int .u8) (.sl (.int .u8)))) (.sl (.int .u8)))))] [(.sl (.int .u8)), (.int .i64)] (fun c => packet_body N c.1))
theorem Ev140_ok (N : Nat) (R : Type) : EnvOK Go.Proofs.Try.prog (Ev140 N R) := EnvOK.addFn hmx (Ev139_ok N R) (Ev139_ok N _) (by kernel_rfl) (fun c => packet_body_S N c.1)
noncomputable def Ev141 (N : Nat) : (R : Type) → Env R := Env.addInl (Ev140 N) [59, 51]
theorem Ev141_ok (N : Nat) (R : Type) : EnvOK Go.Proofs.Try.prog (Ev141 N R) := EnvOK.addInl (Ev140_ok N R) (by kernel_rfl)
noncomputable def Ev142 (N : Nat) : (R : Type) → Env R := Env.addMv (Ev141 N) [(43, 7)]
theorem Ev142_ok (N : Nat) (R : Type) : EnvOK Go.Proofs.Try.prog (Ev142 N R) := EnvOK.addMv (Ev141_ok N R) [(43, 7)]
noncomputable def Ev143 (N : Nat) : (R : Type) → Env R := Env.addBx (Ev142 N) [(43, 0)]
theorem Ev143_ok (N : Nat) (R : Type) : EnvOK Go.Proofs.Try.prog (Ev143 N R) := EnvOK.addBx (Ev142_ok N R) [(43, 0)]
noncomputable def packet_Lay (N : Nat) (p0 : (Bool) × ((Int) × ((List ((Int) × (List (Int)))) × (List (Int))))) : Option ((List (Int)) × Int) :=
 Option.bind (@packet_body N (p0.1, (p0.2.1, (p0.2.2.1, p0.2.2.2)))) fun (v2 : ((List Int) × Int)) =>
 bif (!(decide (v2.2 = (0 : Int)))) then
  some ((([] : List (Int)), v2.2))
 else
  bif (decide ((4095 : Int) < (Go.IntKind.wrap .i64 ((4 : Int) + (((List.length v2.1) : Nat) : Int))))) then
   some ((([] : List (Int)), (8 : Int)))
  else
   bif p0.1 then
    Option.bind (@octs_Put N (Go.IntKind.wrap .u64 (Go.IntKind.wrap .i64 ((4 : Int) + (((List.length v2.1) : Nat) : Int)))) (2 : Int) @Bool.false) fun (v3 : ((List Int) × Int)) =>
    Option.bind (@octs_Join N ([(@List.set Int ([(16 : Int), (0 : Int)] : List (Int)) (Int.toNat (1 : Int)) (1 : Int)), v3.1, v2.1] : List ((List Int)))) fun (v4 : (List Int)) =>
    some ((v4, (0 : Int)))
   else
    Option.bind (@octs_Put N (Go.IntKind.wrap .u64 (Go.IntKind.wrap .i64 ((4 : Int) + (((List.length v2.1) : Nat) : Int)))) (2 : Int) @Bool.false) fun (v3 : ((List Int) × Int)) =>
    Option.bind (@octs_Join N ([([(16 : Int), (0 : Int)] : List (Int)), v3.1, v2.1] : List ((List Int)))) fun (v4 : (List Int)) =>
    some ((v4, (0 : Int)))
theorem packet_Lay_S (N : Nat) (p0 : (Bool) × ((Int) × ((List ((Int) × (List (Int)))) × (List (Int))))) : (runK Go.Proofs.Try.prog (Ev143 N) 400 43 [(.pair .bool (.pair (.int .u16) (.pair (.sl (.pair (.int .u8) (.sl (.int .u8)))) (.sl (.int .u8)))))] [(.sl (.int .u8)), (.int .i64)] (p0, ())).run = packet_Lay N p0 := by kernel_rfl
theorem packet_Lay_C (N : Nat) (p0 : (Bool) × ((Int) × ((List ((Int) × (List (Int)))) × (List (Int))))) (y : (List (Int)) × Int) (h : packet_Lay N p0 = some y) : CallsK Go.Proofs.Try.prog 43 (valA [(.pair .bool (.pair (.int .u16) (.pair (.sl (.pair (.int .u8) (.sl (.int .u8)))) (.sl (.int .u8)))))] (p0, ())) (tupV (valR [(.sl (.int .u8)), (.int .i64)] y)) := runK_ok hmx (Ev143_ok N _) (okFn_ok (by kernel_rfl)) (by rw [packet_Lay_S]; exact h)
noncomputable def Ev144 (N : Nat) : (R : Type) → Env R := Env.addFn (Ev143 N) 43 (fun R => fnK [(.pair .bool (.pair (.int .u16) (.pair (.sl (.pair (.int .u8) (.sl (.int .u8)))) (.sl (.int .u8)))))] [(.sl (.int .u8)), (.int .i64)] (fun c => packet_Lay N c.1))
theorem Ev144_ok (N : Nat) (R : Type) : EnvOK Go.Proofs.Try.prog (Ev144 N R) := EnvOK.addFn hmx (Ev143_ok N R) (Ev143_ok N _) (by kernel_rfl) (fun c => packet_Lay_S N c.1)
noncomputable def Ev145 (N : Nat) : (R : Type) → Env R := Env.addBx (Ev144 N) [(90, 0)]
theorem Ev145_ok (N : Nat) (R : Type) : EnvOK Go.Proofs.Try.prog (Ev145 N R) := EnvOK.addBx (Ev144_ok N R) [(90, 0)]
noncomputable def packet_are_L2_I : LI := ⟨32, 0, [], ⟨[(0, .ty (.sl (.pair (.int .u8) (.sl (.int .u8))))), (1, .ty (.int .i64)), (2, .ty (.int .i64)), (3, .ty (.int .u8)), (11, .ty (.sl (.pair (.int .u8) (.sl (.int .u8))))), (12, .ty (.int .i64)), (13, .ty (.int .i64))], []⟩, [(.ret, ⟨[(8, .ty .bool)], []⟩), (.exit 0, ⟨[(0, .ty (.sl (.pair (.int .u8) (.sl (.int .u8))))), (1, .ty (.int .i64)), (2, .ty (.int .i64))], []⟩)]⟩
noncomputable def packet_are_L2 (N : Nat) (X : (((List ((Int) × (List (Int)))) × ((Int) × ((Int) × ((Int) × ((List ((Int) × (List (Int)))) × ((Int) × ((Int) × Unit))))))) × Unit) → Option (((((Bool) × Unit) × Unit) ⊕ (((List ((Int) × (List (Int)))) × ((Int) × ((Int) × Unit))) × Unit)))) (l0 : List ((Int) × (List (Int)))) (least1 : Int) (most2 : Int) (kind3 : Int) (x11 : List ((Int) × (List (Int)))) (x12 : Int) (x13 : Int) : Option (((((Bool) × Unit) × Unit) ⊕ (((List ((Int) × (List (Int)))) × ((Int) × ((Int) × Unit))) × Unit))) :=
 bif (decide (x13 < x12)) then
  Option.bind (getI x11 x13) fun (v9 : (Int × (List Int))) =>
  bif (!(decide (v9.1 = kind3))) then
   some ((.inl ((@Bool.false, @Unit.unit), @Unit.unit)))
  else
   (X ((l0, (least1, (most2, (kind3, (x11, (x12, ((Go.IntKind.wrap .i64 (x13 + (1 : Int))), @Unit.unit))))))), @Unit.unit))
 else
  some ((.inr ((l0, (least1, (most2, @Unit.unit))), @Unit.unit)))
noncomputable def packet_are_L2_R (N : Nat) (c : (((List ((Int) × (List (Int)))) × ((Int) × ((Int) × ((Int) × ((List ((Int) × (List (Int)))) × ((Int) × ((Int) × Unit))))))) × Unit)) : Option (((((Bool) × Unit) × Unit) ⊕ (((List ((Int) × (List (Int)))) × ((Int) × ((Int) × Unit))) × Unit))) := gl (fun X c => packet_are_L2 N X c.1.1 c.1.2.1 c.1.2.2.1 c.1.2.2.2.1 c.1.2.2.2.2.1 c.1.2.2.2.2.2.1 c.1.2.2.2.2.2.2.1) N c
theorem packet_are_L2_S (N : Nat) (X : (((List ((Int) × (List (Int)))) × ((Int) × ((Int) × ((Int) × ((List ((Int) × (List (Int)))) × ((Int) × ((Int) × Unit))))))) × Unit) → Option (((((Bool) × Unit) × Unit) ⊕ (((List ((Int) × (List (Int)))) × ((Int) × ((Int) × Unit))) × Unit)))) (l0 : List ((Int) × (List (Int)))) (least1 : Int) (most2 : Int) (kind3 : Int) (x11 : List ((Int) × (List (Int)))) (x12 : Int) (x13 : Int) : (roundK Go.Proofs.Try.prog (Ev145 N) 400 [127] packet_are_L2_I (loopAt Go.Proofs.Try.prog [127] 2) X ((l0, least1, most2, kind3, x11, x12, x13, ()), ())).run = packet_are_L2 N X l0 least1 most2 kind3 x11 x12 x13 := by kernel_rfl
noncomputable def Ev146 (N : Nat) : (R : Type) → Env R := Env.addLp (Ev145 N) [127] 0 2 (fun R => lpK Go.Proofs.Try.prog packet_are_L2_I (fun X c => packet_are_L2 N X c.1.1 c.1.2.1 c.1.2.2.1 c.1.2.2.2.1 c.1.2.2.2.2.1 c.1.2.2.2.2.2.1 c.1.2.2.2.2.2.2.1) N)
theorem Ev146_ok (N : Nat) (R : Type) : EnvOK Go.Proofs.Try.prog (Ev146 N R) := EnvOK.addLp (Ev145_ok N R) (by kernel_rfl) (lpK_ok (li := packet_are_L2_I) (G := fun X c => packet_are_L2 N X c.1.1 c.1.2.1 c.1.2.2.1 c.1.2.2.2.1 c.1.2.2.2.2.1 c.1.2.2.2.2.2.1 c.1.2.2.2.2.2.2.1) hmx (Ev145_ok N _) (by kernel_rfl) loopAt_sub (fun (X : CT packet_are_L2_I.sh → Option (OT packet_are_L2_I.outs)) (c : CT packet_are_L2_I.sh) => packet_are_L2_S N X c.1.1 c.1.2.1 c.1.2.2.1 c.1.2.2.2.1 c.1.2.2.2.2.1 c.1.2.2.2.2.2.1 c.1.2.2.2.2.2.2.1) N)
noncomputable def packet_are (N : Nat) (l0 : List ((Int) × (List (Int)))) (least1 : Int) (most2 : Int) (kind3 : Int) : Option (Bool) :=
 Option.bind (packet_are_L2_R N ((l0, (least1, (most2, (kind3, (l0, ((((List.length l0) : Nat) : Int), ((0 : Int), @Unit.unit))))))), @Unit.unit)) fun (v5 : (((Bool × Unit) × Unit) ⊕ (((List (Int × (List Int))) × (Int × (Int × Unit))) × Unit))) =>
 Sum.elim
  (fun (v6 : ((Bool × Unit) × Unit)) =>
  some (v6.1.1))
  (fun (v6 : (((List (Int × (List Int))) × (Int × (Int × Unit))) × Unit)) =>
  bif (decide (v6.1.2.1 ≤ (((List.length v6.1.1) : Nat) : Int))) then
   some ((@cond Bool @Bool.true (decide ((((List.length v6.1.1) : Nat) : Int) ≤ v6.1.2.2.1)) @Bool.false))
  else
   some (@Bool.false)) v5
theorem packet_are_S (N : Nat) (l0 : List ((Int) × (List (Int)))) (least1 : Int) (most2 : Int) (kind3 : Int) : (runK Go.Proofs.Try.prog (Ev146 N) 400 127 [(.sl (.pair (.int .u8) (.sl (.int .u8)))), (.int .i64), (.int .i64), (.int .u8)] [.bool] (l0, least1, most2, kind3, ())).run = packet_are N l0 least1 most2 kind3 := by kernel_rfl
noncomputable def Ev147 (N : Nat) : (R : Type) → Env R := Env.addFn (Ev146 N) 127 (fun R => fnK [(.sl (.pair (.int .u8) (.sl (.int .u8)))), (.int .i64), (.int .i64), (.int .u8)] [.bool] (fun c => packet_are N c.1 c.2.1 c.2.2.1 c.2.2.2.1))
theorem Ev147_ok (N : Nat) (R : Type) : EnvOK Go.Proofs.Try.prog (Ev147 N R) := EnvOK.addFn hmx (Ev146_ok N R) (Ev146_ok N _) (by kernel_rfl) (fun c => packet_are_S N c.1 c.2.1 c.2.2.1 c.2.2.2.1)
noncomputable def packet_fits (N : Nat) (kind0 : Int) (l1 : List ((Int) × (List (Int)))) : Option (Bool) :=
 bif (decide (kind0 = (1 : Int))) then
  Option.bind (@packet_are N l1 (1 : Int) (1 : Int) (1 : Int)) fun (v3 : Bool) =>
  some (v3)
 else
  bif (decide (kind0 = (2 : Int))) then
   Option.bind (@packet_are N l1 (1 : Int) (1 : Int) (4 : Int)) fun (v3 : Bool) =>
   some (v3)
  else
   bif (decide (kind0 = (3 : Int))) then
    Option.bind (@packet_are N l1 (1 : Int) (3 : Int) (2 : Int)) fun (v3 : Bool) =>
    some (v3)
   else
    bif (decide (kind0 = (4 : Int))) then
     Option.bind (@packet_are N l1 (1 : Int) (1 : Int) (3 : Int)) fun (v3 : Bool) =>
     some (v3)
    else
     bif (decide (kind0 = (5 : Int))) then
      bif (decide (kind0 = (5 : Int))) then
       Option.bind (@packet_are N l1 (0 : Int) (1 : Int) (2 : Int)) fun (v3 : Bool) =>
       some (v3)
      else
       some ((decide ((((List.length l1) : Nat) : Int) = (0 : Int))))
     else
      bif (decide (kind0 = (6 : Int))) then
       Option.bind (@packet_are N l1 (0 : Int) (1 : Int) (2 : Int)) fun (v3 : Bool) =>
       some (v3)
      else
       some ((decide ((((List.length l1) : Nat) : Int) = (0 : Int))))
theorem packet_fits_S (N : Nat) (kind0 : Int) (l1 : List ((Int) × (List (Int)))) : (runK Go.Proofs.Try.prog (Ev147 N) 400 104 [(.int .u16), (.sl (.pair (.int .u8) (.sl (.int .u8))))] [.bool] (kind0, l1, ())).run = packet_fits N kind0 l1 := by kernel_rfl
noncomputable def Ev148 (N : Nat) : (R : Type) → Env R := Env.addFn (Ev147 N) 104 (fun R => fnK [(.int .u16), (.sl (.pair (.int .u8) (.sl (.int .u8))))] [.bool] (fun c => packet_fits N c.1 c.2.1))
theorem Ev148_ok (N : Nat) (R : Type) : EnvOK Go.Proofs.Try.prog (Ev148 N R) := EnvOK.addFn hmx (Ev147_ok N R) (Ev147_ok N _) (by kernel_rfl) (fun c => packet_fits_S N c.1 c.2.1)
noncomputable def packet_Check_L8_I : LI := ⟨39, 0, [], ⟨[(27, .ty (.sl (.pair (.int .u8) (.sl (.int .u8))))), (28, .ty (.int .i64)), (29, .ty (.int .i64))], []⟩, [(.ret, ⟨[(2, .ty (.int .i64))], []⟩), (.exit 1, ⟨[], []⟩)]⟩
noncomputable def packet_Check_L8 (N : Nat) (X : (((List ((Int) × (List (Int)))) × ((Int) × ((Int) × Unit))) × Unit) → Option (((((Int) × Unit) × Unit) ⊕ (Unit × Unit)))) (x27 : List ((Int) × (List (Int)))) (x28 : Int) (x29 : Int) : Option (((((Int) × Unit) × Unit) ⊕ (Unit × Unit))) :=
 bif (decide (x29 < x28)) then
  Option.bind (getI x27 x29) fun (v5 : (Int × (List Int))) =>
  Option.bind (@attr_Check N (v5.1, v5.2)) fun (v6 : Int) =>
  bif (!(decide (v6 = (0 : Int)))) then
   some ((.inl ((v6, @Unit.unit), @Unit.unit)))
  else
   (X ((x27, (x28, ((Go.IntKind.wrap .i64 (x29 + (1 : Int))), @Unit.unit))), @Unit.unit))
 else
  some ((.inr (@Unit.unit, @Unit.unit)))
noncomputable def packet_Check_L8_R (N : Nat) (c : (((List ((Int) × (List (Int)))) × ((Int) × ((Int) × Unit))) × Unit)) : Option (((((Int) × Unit) × Unit) ⊕ (Unit × Unit))) := gl (fun X c => packet_Check_L8 N X c.1.1 c.1.2.1 c.1.2.2.1) N c
theorem packet_Check_L8_S (N : Nat) (X : (((List ((Int) × (List (Int)))) × ((Int) × ((Int) × Unit))) × Unit) → Option (((((Int) × Unit) × Unit) ⊕ (Unit × Unit)))) (x27 : List ((Int) × (List (Int)))) (x28 : Int) (x29 : Int) : (roundK Go.Proofs.Try.prog (Ev148 N) 400 [90] packet_Check_L8_I (loopAt Go.Proofs.Try.prog [90] 8) X ((x27, x28, x29, ()), ())).run = packet_Check_L8 N X x27 x28 x29 := by kernel_rfl
noncomputable def Ev149 (N : Nat) : (R : Type) → Env R := Env.addLp (Ev148 N) [90] 0 8 (fun R => lpK Go.Proofs.Try.prog packet_Check_L8_I (fun X c => packet_Check_L8 N X c.1.1 c.1.2.1 c.1.2.2.1) N)
theorem Ev149_ok (N : Nat) (R : Type) : EnvOK Go.Proofs.Try.prog (Ev149 N R) := EnvOK.addLp (Ev148_ok N R) (by kernel_rfl) (lpK_ok (li := packet_Check_L8_I) (G := fun X c => packet_Check_L8 N X c.1.1 c.1.2.1 c.1.2.2.1) hmx (Ev148_ok N _) (by kernel_rfl) loopAt_sub (fun (X : CT packet_Check_L8_I.sh → Option (OT packet_Check_L8_I.outs)) (c : CT packet_Check_L8_I.sh) => packet_Check_L8_S N X c.1.1 c.1.2.1 c.1.2.2.1) N)
noncomputable def packet_Check (N : Nat) (p0 : (Bool) × ((Int) × ((List ((Int) × (List (Int)))) × (List (Int))))) : Option (Int) :=
 bif (!p0.1) then
  some ((0 : Int))
 else
  bif (decide (p0.2.1 < (1 : Int))) then
   some ((9 : Int))
  else
   bif (@cond Bool @Bool.false @Bool.true (decide ((9 : Int) < p0.2.1))) then
    some ((9 : Int))
   else
    Option.bind (@packet_fits N p0.2.1 p0.2.2.1) fun (v2 : Bool) =>
    bif (!v2) then
     some ((1 : Int))
    else
     Option.bind (packet_Check_L8_R N ((p0.2.2.1, ((((List.length p0.2.2.1) : Nat) : Int), ((0 : Int), @Unit.unit))), @Unit.unit)) fun (v3 : (((Int × Unit) × Unit) ⊕ (Unit × Unit))) =>
     Sum.elim
      (fun (v4 : ((Int × Unit) × Unit)) =>
      some (v4.1.1))
      (fun (v4 : (Unit × Unit)) =>
      some ((0 : Int))) v3
theorem packet_Check_S (N : Nat) (p0 : (Bool) × ((Int) × ((List ((Int) × (List (Int)))) × (List (Int))))) : (runK Go.Proofs.Try.prog (Ev149 N) 400 90 [(.pair .bool (.pair (.int .u16) (.pair (.sl (.pair (.int .u8) (.sl (.int .u8)))) (.sl (.int .u8)))))] [(.int .i64)] (p0, ())).run = packet_Check N p0 := by kernel_rfl
theorem packet_Check_C (N : Nat) (p0 : (Bool) × ((Int) × ((List ((Int) × (List (Int)))) × (List (Int))))) (y : Int) (h : packet_Check N p0 = some y) : CallsK Go.Proofs.Try.prog 90 (valA [(.pair .bool (.pair (.int .u16) (.pair (.sl (.pair (.int .u8) (.sl (.int .u8)))) (.sl (.int .u8)))))] (p0, ())) (tupV (valR [(.int .i64)] y)) := runK_ok hmx (Ev149_ok N _) (okFn_ok (by kernel_rfl)) (by rw [packet_Check_S]; exact h)
noncomputable def Ev150 (N : Nat) : (R : Type) → Env R := Env.addFn (Ev149 N) 90 (fun R => fnK [(.pair .bool (.pair (.int .u16) (.pair (.sl (.pair (.int .u8) (.sl (.int .u8)))) (.sl (.int .u8)))))] [(.int .i64)] (fun c => packet_Check N c.1))
theorem Ev150_ok (N : Nat) (R : Type) : EnvOK Go.Proofs.Try.prog (Ev150 N R) := EnvOK.addFn hmx (Ev149_ok N R) (Ev149_ok N _) (by kernel_rfl) (fun c => packet_Check_S N c.1)
noncomputable def Ev151 (N : Nat) : (R : Type) → Env R := Env.addBx (Ev150 N) [(21, 0)]
theorem Ev151_ok (N : Nat) (R : Type) : EnvOK Go.Proofs.Try.prog (Ev151 N R) := EnvOK.addBx (Ev150_ok N R) [(21, 0)]
noncomputable def packet_Same_1_slices_EqualFunc_api_Attr_api_Attr_api_Attr_api_Attr_L4_I : LI := ⟨32, 0, [], ⟨[(1, .ty (.sl (.pair (.int .u8) (.sl (.int .u8))))), (2, .lit (.clo 52 [])), (15, .ty (.sl (.pair (.int .u8) (.sl (.int .u8))))), (16, .ty (.int .i64)), (17, .ty (.int .i64))], []⟩, [(.ret, ⟨[(6, .ty .bool)], []⟩), (.exit 0, ⟨[], []⟩)]⟩
noncomputable def packet_Same_1_slices_EqualFunc_api_Attr_api_Attr_api_Attr_api_Attr_L4 (N : Nat) (X : (((List ((Int) × (List (Int)))) × ((List ((Int) × (List (Int)))) × ((Int) × ((Int) × Unit)))) × Unit) → Option (((((Bool) × Unit) × Unit) ⊕ (Unit × Unit)))) (s21 : List ((Int) × (List (Int)))) (x15 : List ((Int) × (List (Int)))) (x16 : Int) (x17 : Int) : Option (((((Bool) × Unit) × Unit) ⊕ (Unit × Unit))) :=
 bif (decide (x17 < x16)) then
  Option.bind (getI x15 x17) fun (v6 : (Int × (List Int))) =>
  Option.bind (getI s21 x17) fun (v7 : (Int × (List Int))) =>
  Option.bind (@attr_Same N (v6.1, v6.2) (v7.1, v7.2)) fun (v8 : Bool) =>
  bif (!v8) then
   some ((.inl ((@Bool.false, @Unit.unit), @Unit.unit)))
  else
   (X ((s21, (x15, (x16, ((Go.IntKind.wrap .i64 (x17 + (1 : Int))), @Unit.unit)))), @Unit.unit))
 else
  some ((.inr (@Unit.unit, @Unit.unit)))
noncomputable def packet_Same_1_slices_EqualFunc_api_Attr_api_Attr_api_Attr_api_Attr_L4_R (N : Nat) (c : (((List ((Int) × (List (Int)))) × ((List ((Int) × (List (Int)))) × ((Int) × ((Int) × Unit)))) × Unit)) : Option (((((Bool) × Unit) × Unit) ⊕ (Unit × Unit))) := gl (fun X c => packet_Same_1_slices_EqualFunc_api_Attr_api_Attr_api_Attr_api_Attr_L4 N X c.1.1 c.1.2.1 c.1.2.2.1 c.1.2.2.2.1) N c
theorem packet_Same_1_slices_EqualFunc_api_Attr_api_Attr_api_Attr_api_Attr_L4_S (N : Nat) (X : (((List ((Int) × (List (Int)))) × ((List ((Int) × (List (Int)))) × ((Int) × ((Int) × Unit)))) × Unit) → Option (((((Bool) × Unit) × Unit) ⊕ (Unit × Unit)))) (s21 : List ((Int) × (List (Int)))) (x15 : List ((Int) × (List (Int)))) (x16 : Int) (x17 : Int) : (roundK Go.Proofs.Try.prog (Ev151 N) 400 [51, 1, 21] packet_Same_1_slices_EqualFunc_api_Attr_api_Attr_api_Attr_api_Attr_L4_I (loopAt Go.Proofs.Try.prog [51, 1, 21] 4) X ((s21, x15, x16, x17, ()), ())).run = packet_Same_1_slices_EqualFunc_api_Attr_api_Attr_api_Attr_api_Attr_L4 N X s21 x15 x16 x17 := by kernel_rfl
noncomputable def Ev152 (N : Nat) : (R : Type) → Env R := Env.addLp (Ev151 N) [51, 1, 21] 0 4 (fun R => lpK Go.Proofs.Try.prog packet_Same_1_slices_EqualFunc_api_Attr_api_Attr_api_Attr_api_Attr_L4_I (fun X c => packet_Same_1_slices_EqualFunc_api_Attr_api_Attr_api_Attr_api_Attr_L4 N X c.1.1 c.1.2.1 c.1.2.2.1 c.1.2.2.2.1) N)
theorem Ev152_ok (N : Nat) (R : Type) : EnvOK Go.Proofs.Try.prog (Ev152 N R) := EnvOK.addLp (Ev151_ok N R) (by kernel_rfl) (lpK_ok (li := packet_Same_1_slices_EqualFunc_api_Attr_api_Attr_api_Attr_api_Attr_L4_I) (G := fun X c => packet_Same_1_slices_EqualFunc_api_Attr_api_Attr_api_Attr_api_Attr_L4 N X c.1.1 c.1.2.1 c.1.2.2.1 c.1.2.2.2.1) hmx (Ev151_ok N _) (by kernel_rfl) loopAt_sub (fun (X : CT packet_Same_1_slices_EqualFunc_api_Attr_api_Attr_api_Attr_api_Attr_L4_I.sh → Option (OT packet_Same_1_slices_EqualFunc_api_Attr_api_Attr_api_Attr_api_Attr_L4_I.outs)) (c : CT packet_Same_1_slices_EqualFunc_api_Attr_api_Attr_api_Attr_api_Attr_L4_I.sh) => packet_Same_1_slices_EqualFunc_api_Attr_api_Attr_api_Attr_api_Attr_L4_S N X c.1.1 c.1.2.1 c.1.2.2.1 c.1.2.2.2.1) N)
noncomputable def slices_Equal_byte_byte_L4_I : LI := ⟨26, 0, [], ⟨[(0, .ty (.sl (.int .u8))), (1, .ty (.sl (.int .u8))), (12, .ty (.int .i64)), (13, .ty (.int .i64))], []⟩, [(.ret, ⟨[(4, .ty .bool)], []⟩), (.exit 0, ⟨[], []⟩)]⟩
noncomputable def slices_Equal_byte_byte_L4 (N : Nat) (X : (((List (Int)) × ((List (Int)) × ((Int) × ((Int) × Unit)))) × Unit) → Option (((((Bool) × Unit) × Unit) ⊕ (Unit × Unit)))) (s10 : List (Int)) (s21 : List (Int)) (x12 : Int) (x13 : Int) : Option (((((Bool) × Unit) × Unit) ⊕ (Unit × Unit))) :=
 bif (decide (x13 < x12)) then
  Option.bind (getI s10 x13) fun (v6 : Int) =>
  Option.bind (getI s21 x13) fun (v7 : Int) =>
  bif (!(decide (v6 = v7))) then
   some ((.inl ((@Bool.false, @Unit.unit), @Unit.unit)))
  else
   (X ((s10, (s21, (x12, ((Go.IntKind.wrap .i64 (x13 + (1 : Int))), @Unit.unit)))), @Unit.unit))
 else
  some ((.inr (@Unit.unit, @Unit.unit)))
noncomputable def slices_Equal_byte_byte_L4_R (N : Nat) (c : (((List (Int)) × ((List (Int)) × ((Int) × ((Int) × Unit)))) × Unit)) : Option (((((Bool) × Unit) × Unit) ⊕ (Unit × Unit))) := gl (fun X c => slices_Equal_byte_byte_L4 N X c.1.1 c.1.2.1 c.1.2.2.1 c.1.2.2.2.1) N c
theorem slices_Equal_byte_byte_L4_S (N : Nat) (X : (((List (Int)) × ((List (Int)) × ((Int) × ((Int) × Unit)))) × Unit) → Option (((((Bool) × Unit) × Unit) ⊕ (Unit × Unit)))) (s10 : List (Int)) (s21 : List (Int)) (x12 : Int) (x13 : Int) : (roundK Go.Proofs.Try.prog (Ev152 N) 400 [53] slices_Equal_byte_byte_L4_I (loopAt Go.Proofs.Try.prog [53] 4) X ((s10, s21, x12, x13, ()), ())).run = slices_Equal_byte_byte_L4 N X s10 s21 x12 x13 := by kernel_rfl
noncomputable def Ev153 (N : Nat) : (R : Type) → Env R := Env.addLp (Ev152 N) [53] 0 4 (fun R => lpK Go.Proofs.Try.prog slices_Equal_byte_byte_L4_I (fun X c => slices_Equal_byte_byte_L4 N X c.1.1 c.1.2.1 c.1.2.2.1 c.1.2.2.2.1) N)
theorem Ev153_ok (N : Nat) (R : Type) : EnvOK Go.Proofs.Try.prog (Ev153 N R) := EnvOK.addLp (Ev152_ok N R) (by kernel_rfl) (lpK_ok (li := slices_Equal_byte_byte_L4_I) (G := fun X c => slices_Equal_byte_byte_L4 N X c.1.1 c.1.2.1 c.1.2.2.1 c.1.2.2.2.1) hmx (Ev152_ok N _) (by kernel_rfl) loopAt_sub (fun (X : CT slices_Equal_byte_byte_L4_I.sh → Option (OT slices_Equal_byte_byte_L4_I.outs)) (c : CT slices_Equal_byte_byte_L4_I.sh) => slices_Equal_byte_byte_L4_S N X c.1.1 c.1.2.1 c.1.2.2.1 c.1.2.2.2.1) N)
noncomputable def slices_Equal_byte_byte (N : Nat) (s10 : List (Int)) (s21 : List (Int)) : Option (Bool) :=
 bif (!(decide ((((List.length s10) : Nat) : Int) = (((List.length s21) : Nat) : Int)))) then
  some (@Bool.false)
 else
  Option.bind (slices_Equal_byte_byte_L4_R N ((s10, (s21, ((((List.length s10) : Nat) : Int), ((0 : Int), @Unit.unit)))), @Unit.unit)) fun (v3 : (((Bool × Unit) × Unit) ⊕ (Unit × Unit))) =>
  Sum.elim
   (fun (v4 : ((Bool × Unit) × Unit)) =>
   some (v4.1.1))
   (fun (v4 : (Unit × Unit)) =>
   some (@Bool.true)) v3
theorem slices_Equal_byte_byte_S (N : Nat) (s10 : List (Int)) (s21 : List (Int)) : (runK Go.Proofs.Try.prog (Ev153 N) 400 53 [(.sl (.int .u8)), (.sl (.int .u8))] [.bool] (s10, s21, ())).run = slices_Equal_byte_byte N s10 s21 := by kernel_rfl
noncomputable def Ev154 (N : Nat) : (R : Type) → Env R := Env.addFn (Ev153 N) 53 (fun R => fnK [(.sl (.int .u8)), (.sl (.int .u8))] [.bool] (fun c => slices_Equal_byte_byte N c.1 c.2.1))
theorem Ev154_ok (N : Nat) (R : Type) : EnvOK Go.Proofs.Try.prog (Ev154 N R) := EnvOK.addFn hmx (Ev153_ok N R) (Ev153_ok N _) (by kernel_rfl) (fun c => slices_Equal_byte_byte_S N c.1 c.2.1)
noncomputable def packet_Same (N : Nat) (a0 : (Bool) × ((Int) × ((List ((Int) × (List (Int)))) × (List (Int))))) (b1 : (Bool) × ((Int) × ((List ((Int) × (List (Int)))) × (List (Int))))) : Option (Bool) :=
 bif (@BEq.beq Bool (@instBEqOfDecidableEq Bool @instDecidableEqBool) a0.1 b1.1) then
  bif (@cond Bool @Bool.true (decide (a0.2.1 = b1.2.1)) @Bool.false) then
   bif (!(decide ((((List.length a0.2.2.1) : Nat) : Int) = (((List.length b1.2.2.1) : Nat) : Int)))) then
    some (@Bool.false)
   else
    Option.bind (packet_Same_1_slices_EqualFunc_api_Attr_api_Attr_api_Attr_api_Attr_L4_R N ((b1.2.2.1, (a0.2.2.1, ((((List.length a0.2.2.1) : Nat) : Int), ((0 : Int), @Unit.unit)))), @Unit.unit)) fun (v3 : (((Bool × Unit) × Unit) ⊕ (Unit × Unit))) =>
    Sum.elim
     (fun (v4 : ((Bool × Unit) × Unit)) =>
     bif (@cond Bool @Bool.true v4.1.1 @Bool.false) then
      Option.bind (@slices_Equal_byte_byte N a0.2.2.2 b1.2.2.2) fun (v5 : Bool) =>
      some ((@cond Bool @Bool.true v5 @Bool.false))
     else
      some (@Bool.false))
     (fun (v4 : (Unit × Unit)) =>
     Option.bind (@slices_Equal_byte_byte N a0.2.2.2 b1.2.2.2) fun (v5 : Bool) =>
     some ((@cond Bool @Bool.true v5 @Bool.false))) v3
  else
   some (@Bool.false)
 else
  some (@Bool.false)
theorem packet_Same_S (N : Nat) (a0 : (Bool) × ((Int) × ((List ((Int) × (List (Int)))) × (List (Int))))) (b1 : (Bool) × ((Int) × ((List ((Int) × (List (Int)))) × (List (Int))))) : (runK Go.Proofs.Try.prog (Ev154 N) 400 21 [(.pair .bool (.pair (.int .u16) (.pair (.sl (.pair (.int .u8) (.sl (.int .u8)))) (.sl (.int .u8))))), (.pair .bool (.pair (.int .u16) (.pair (.sl (.pair (.int .u8) (.sl (.int .u8)))) (.sl (.int .u8)))))] [.bool] (a0, b1, ())).run = packet_Same N a0 b1 := by kernel_rfl
theorem packet_Same_C (N : Nat) (a0 : (Bool) × ((Int) × ((List ((Int) × (List (Int)))) × (List (Int))))) (b1 : (Bool) × ((Int) × ((List ((Int) × (List (Int)))) × (List (Int))))) (y : Bool) (h : packet_Same N a0 b1 = some y) : CallsK Go.Proofs.Try.prog 21 (valA [(.pair .bool (.pair (.int .u16) (.pair (.sl (.pair (.int .u8) (.sl (.int .u8)))) (.sl (.int .u8))))), (.pair .bool (.pair (.int .u16) (.pair (.sl (.pair (.int .u8) (.sl (.int .u8)))) (.sl (.int .u8)))))] (a0, b1, ())) (tupV (valR [.bool] y)) := runK_ok hmx (Ev154_ok N _) (okFn_ok (by kernel_rfl)) (by rw [packet_Same_S]; exact h)
noncomputable def Ev155 (N : Nat) : (R : Type) → Env R := Env.addFn (Ev154 N) 21 (fun R => fnK [(.pair .bool (.pair (.int .u16) (.pair (.sl (.pair (.int .u8) (.sl (.int .u8)))) (.sl (.int .u8))))), (.pair .bool (.pair (.int .u16) (.pair (.sl (.pair (.int .u8) (.sl (.int .u8)))) (.sl (.int .u8)))))] [.bool] (fun c => packet_Same N c.1 c.2.1))
theorem Ev155_ok (N : Nat) (R : Type) : EnvOK Go.Proofs.Try.prog (Ev155 N R) := EnvOK.addFn hmx (Ev154_ok N R) (Ev154_ok N _) (by kernel_rfl) (fun c => packet_Same_S N c.1 c.2.1)
noncomputable def Ev156 (N : Nat) : (R : Type) → Env R := Env.addMv (Ev155 N) [(44, 5)]
theorem Ev156_ok (N : Nat) (R : Type) : EnvOK Go.Proofs.Try.prog (Ev156 N R) := EnvOK.addMv (Ev155_ok N R) [(44, 5)]
noncomputable def slices_Clone_byte_byte_ne (N : Nat) (s0 : List (Int)) : Option (List (Int)) :=
 bif (@List.isEmpty Int s0) then
  none
 else
  bif (roomB (List.length s0) 1) then
   some (s0)
  else
   none
theorem slices_Clone_byte_byte_ne_S (N : Nat) (s0 : List (Int)) : (runK Go.Proofs.Try.prog (Ev156 N) 400 62 [(.sl (.int .u8))] [(.sl (.int .u8))] (s0, ())).run = slices_Clone_byte_byte_ne N s0 := by kernel_rfl
theorem slices_Clone_byte_byte_n1 (N : Nat) (c : Nat) : (runV Go.Proofs.Try.prog (Ev156 N) 400 62 [.c (.slice none 0 c)] [(.sl (.int .u8))]).run = some [] := by kernel_rfl
theorem slices_Clone_byte_byte_n2 (N : Nat) (A : Addr) (c : Nat) : (runV Go.Proofs.Try.prog (Ev156 N) 400 62 [.c (.slice (some A) 0 c)] [(.sl (.int .u8))]).run = some [] := by kernel_rfl
noncomputable def slices_Clone_byte_byte (N : Nat) (s0 : List (Int)) : Option (List (Int)) := bif s0.isEmpty then some [] else slices_Clone_byte_byte_ne N s0
noncomputable def Ev157 (N : Nat) : (R : Type) → Env R := Env.addFn (Ev156 N) 62 (fun R => fnK [(.sl (.int .u8))] [(.sl (.int .u8))] (fun c => slices_Clone_byte_byte N c.1))
theorem Ev157_ok (N : Nat) (R : Type) : EnvOK Go.Proofs.Try.prog (Ev157 N R) := EnvOK.addNil hmx (Ev156_ok N R) (Ev156_ok N _) (by kernel_rfl) (fun c => slices_Clone_byte_byte_ne_S N c.1) (slices_Clone_byte_byte_n1 N) (slices_Clone_byte_byte_n2 N)
noncomputable def packet_Of_L3_I : LI := ⟨29, 0, [], ⟨[(4, .lit (.box 0 0)), (5, .lit (.box 1 0)), (10, .ty (.sl (.pair (.int .u8) (.sl (.int .u8))))), (11, .ty (.int .i64)), (12, .ty (.int .i64))], [.boxp 42 [.ty .bool, .ty (.int .u16), .own 2, .ty (.sl (.int .u8))], .boxp 42 [.ty .bool, .ty (.int .u16), .own 3, .ty (.sl (.int .u8))], .own (.pair (.int .u8) (.sl (.int .u8))) 99, .own (.pair (.int .u8) (.sl (.int .u8))) 99]⟩, [(.exit 0, ⟨[(4, .lit (.box 0 0)), (5, .lit (.box 1 0))], [.boxp 42 [.ty .bool, .ty (.int .u16), .own 2, .ty (.sl (.int .u8))], .boxp 42 [.ty .bool, .ty (.int .u16), .own 3, .ty (.sl (.int .u8))], .own (.pair (.int .u8) (.sl (.int .u8))) 99, .own (.pair (.int .u8) (.sl (.int .u8))) 99]⟩)]⟩
noncomputable def packet_Of_L3 (N : Nat) (X : (((List ((Int) × (List (Int)))) × ((Int) × ((Int) × Unit))) × ((Bool) × ((Int) × ((List (Int)) × ((Bool) × ((Int) × ((List (Int)) × ((List ((Int) × (List (Int)))) × ((List ((Int) × (List (Int)))) × Unit))))))))) → Option ((Unit × ((Bool) × ((Int) × ((List (Int)) × ((Bool) × ((Int) × ((List (Int)) × ((List ((Int) × (List (Int)))) × ((List ((Int) × (List (Int)))) × Unit))))))))))) (x10 : List ((Int) × (List (Int)))) (x11 : Int) (x12 : Int) (h0 : Bool) (h1 : Int) (h2 : List (Int)) (h3 : Bool) (h4 : Int) (h5 : List (Int)) (h6 : List ((Int) × (List (Int)))) (h7 : List ((Int) × (List (Int)))) : Option ((Unit × ((Bool) × ((Int) × ((List (Int)) × ((Bool) × ((Int) × ((List (Int)) × ((List ((Int) × (List (Int)))) × ((List ((Int) × (List (Int)))) × Unit)))))))))) :=
 bif (decide (x12 < x11)) then
  Option.bind (getI x10 x12) fun (v13 : (Int × (List Int))) =>
  Option.bind (@slices_Clone_byte_byte N v13.2) fun (v14 : (List Int)) =>
  bif (roomB ((List.length h7) + (List.length ([(v13.1, v14)] : List ((Int × (List Int)))))) 32) then
   (X ((x10, (x11, ((Go.IntKind.wrap .i64 (x12 + (1 : Int))), @Unit.unit))), (h0, (h1, (h2, (h3, (h4, (h5, (h6, ((h7 ++ ([(v13.1, v14)] : List ((Int × (List Int))))), @Unit.unit))))))))))
  else
   none
 else
  some ((@Unit.unit, (h0, (h1, (h2, (h3, (h4, (h5, (h6, (h7, @Unit.unit))))))))))
noncomputable def packet_Of_L3_R (N : Nat) (c : (((List ((Int) × (List (Int)))) × ((Int) × ((Int) × Unit))) × ((Bool) × ((Int) × ((List (Int)) × ((Bool) × ((Int) × ((List (Int)) × ((List ((Int) × (List (Int)))) × ((List ((Int) × (List (Int)))) × Unit)))))))))) : Option ((Unit × ((Bool) × ((Int) × ((List (Int)) × ((Bool) × ((Int) × ((List (Int)) × ((List ((Int) × (List (Int)))) × ((List ((Int) × (List (Int)))) × Unit)))))))))) := gl (fun X c => packet_Of_L3 N X c.1.1 c.1.2.1 c.1.2.2.1 c.2.1 c.2.2.1 c.2.2.2.1 c.2.2.2.2.1 c.2.2.2.2.2.1 c.2.2.2.2.2.2.1 c.2.2.2.2.2.2.2.1 c.2.2.2.2.2.2.2.2.1) N c
theorem packet_Of_L3_S (N : Nat) (X : (((List ((Int) × (List (Int)))) × ((Int) × ((Int) × Unit))) × ((Bool) × ((Int) × ((List (Int)) × ((Bool) × ((Int) × ((List (Int)) × ((List ((Int) × (List (Int)))) × ((List ((Int) × (List (Int)))) × Unit))))))))) → Option ((Unit × ((Bool) × ((Int) × ((List (Int)) × ((Bool) × ((Int) × ((List (Int)) × ((List ((Int) × (List (Int)))) × ((List ((Int) × (List (Int)))) × Unit))))))))))) (x10 : List ((Int) × (List (Int)))) (x11 : Int) (x12 : Int) (h0 : Bool) (h1 : Int) (h2 : List (Int)) (h3 : Bool) (h4 : Int) (h5 : List (Int)) (h6 : List ((Int) × (List (Int)))) (h7 : List ((Int) × (List (Int)))) : (roundK Go.Proofs.Try.prog (Ev157 N) 400 [44] packet_Of_L3_I (loopAt Go.Proofs.Try.prog [44] 3) X ((x10, x11, x12, ()), (h0, h1, h2, h3, h4, h5, h6, h7, ()))).run = packet_Of_L3 N X x10 x11 x12 h0 h1 h2 h3 h4 h5 h6 h7 := by kernel_rfl
noncomputable def Ev158 (N : Nat) : (R : Type) → Env R := Env.addLp (Ev157 N) [44] 0 3 (fun R => lpK Go.Proofs.Try.prog packet_Of_L3_I (fun X c => packet_Of_L3 N X c.1.1 c.1.2.1 c.1.2.2.1 c.2.1 c.2.2.1 c.2.2.2.1 c.2.2.2.2.1 c.2.2.2.2.2.1 c.2.2.2.2.2.2.1 c.2.2.2.2.2.2.2.1 c.2.2.2.2.2.2.2.2.1) N)
theorem Ev158_ok (N : Nat) (R : Type) : EnvOK Go.Proofs.Try.prog (Ev158 N R) := EnvOK.addLp (Ev157_ok N R) (by kernel_rfl) (lpK_ok (li := packet_Of_L3_I) (G := fun X c => packet_Of_L3 N X c.1.1 c.1.2.1 c.1.2.2.1 c.2.1 c.2.2.1 c.2.2.2.1 c.2.2.2.2.1 c.2.2.2.2.2.1 c.2.2.2.2.2.2.1 c.2.2.2.2.2.2.2.1 c.2.2.2.2.2.2.2.2.1) hmx (Ev157_ok N _) (by kernel_rfl) loopAt_sub (fun (X : CT packet_Of_L3_I.sh → Option (OT packet_Of_L3_I.outs)) (c : CT packet_Of_L3_I.sh) => packet_Of_L3_S N X c.1.1 c.1.2.1 c.1.2.2.1 c.2.1 c.2.2.1 c.2.2.2.1 c.2.2.2.2.1 c.2.2.2.2.2.1 c.2.2.2.2.2.2.1 c.2.2.2.2.2.2.2.1 c.2.2.2.2.2.2.2.2.1) N)
noncomputable def packet_Of (N : Nat) (kind0 : Int) (l1 : List ((Int) × (List (Int)))) : Option ((Bool) × ((Int) × ((List ((Int) × (List (Int)))) × (List (Int))))) :=
 Option.bind (packet_Of_L3_R N ((l1, ((((List.length l1) : Nat) : Int), ((0 : Int), @Unit.unit))), (@Bool.false, ((0 : Int), (([] : List (Int)), (@Bool.true, (kind0, (([] : List (Int)), (([] : List ((Int × (List Int)))), (([] : List ((Int × (List Int)))), @Unit.unit)))))))))) fun (v3 : (Unit × (Bool × (Int × ((List Int) × (Bool × (Int × ((List Int) × ((List (Int × (List Int))) × ((List (Int × (List Int))) × Unit)))))))))) =>
 some (((v3.2.2.2).snd.1, ((v3.2.2.2).snd.2.1, (((v3.2.2.2).snd.2.2).snd.2.1, (v3.2.2.2).snd.2.2.1))))
theorem packet_Of_S (N : Nat) (kind0 : Int) (l1 : List ((Int) × (List (Int)))) : (runK Go.Proofs.Try.prog (Ev158 N) 400 44 [(.int .u16), (.sl (.pair (.int .u8) (.sl (.int .u8))))] [(.pair .bool (.pair (.int .u16) (.pair (.sl (.pair (.int .u8) (.sl (.int .u8)))) (.sl (.int .u8)))))] (kind0, l1, ())).run = packet_Of N kind0 l1 := by kernel_rfl
theorem packet_Of_C (N : Nat) (kind0 : Int) (l1 : List ((Int) × (List (Int)))) (y : (Bool) × ((Int) × ((List ((Int) × (List (Int)))) × (List (Int))))) (h : packet_Of N kind0 l1 = some y) : CallsK Go.Proofs.Try.prog 44 (valA [(.int .u16), (.sl (.pair (.int .u8) (.sl (.int .u8))))] (kind0, l1, ())) (tupV (valR [(.pair .bool (.pair (.int .u16) (.pair (.sl (.pair (.int .u8) (.sl (.int .u8)))) (.sl (.int .u8)))))] y)) := runK_ok hmx (Ev158_ok N _) (okFn_ok (by kernel_rfl)) (by rw [packet_Of_S]; exact h)
noncomputable def Ev159 (N : Nat) : (R : Type) → Env R := Env.addFn (Ev158 N) 44 (fun R => fnK [(.int .u16), (.sl (.pair (.int .u8) (.sl (.int .u8))))] [(.pair .bool (.pair (.int .u16) (.pair (.sl (.pair (.int .u8) (.sl (.int .u8)))) (.sl (.int .u8)))))] (fun c => packet_Of N c.1 c.2.1))
theorem Ev159_ok (N : Nat) (R : Type) : EnvOK Go.Proofs.Try.prog (Ev159 N R) := EnvOK.addFn hmx (Ev158_ok N R) (Ev158_ok N _) (by kernel_rfl) (fun c => packet_Of_S N c.1 c.2.1)
noncomputable def Ev160 (N : Nat) : (R : Type) → Env R := Env.addBx (Ev159 N) [(86, 0)]
theorem Ev160_ok (N : Nat) (R : Type) : EnvOK Go.Proofs.Try.prog (Ev160 N R) := EnvOK.addBx (Ev159_ok N R) [(86, 0)]
noncomputable def ref18_Lay_7_ref01_Big_L3_I : LI := ⟨24, 0, [], ⟨[(0, .ty (.int .u64)), (5, .lit (.own 0)), (6, .ty (.int .i64))], [.own (.int .u8) 5]⟩, [(.exit 0, ⟨[(5, .lit (.own 0))], [.own (.int .u8) 5]⟩)]⟩
noncomputable def ref18_Lay_7_ref01_Big_L3 (N : Nat) (X : (((Int) × ((Int) × Unit)) × ((List (Int)) × Unit)) → Option ((Unit × ((List (Int)) × Unit)))) (n0 : Int) (i6 : Int) (h0 : List (Int)) : Option ((Unit × ((List (Int)) × Unit))) :=
 bif (decide ((0 : Int) ≤ i6)) then
  bif (decide ((0 : Int) ≤ i6 ∧ i6 < (((List.length h0) : Nat) : Int))) then
   Option.bind (@GetElem?.getElem? (List Int) Nat Int (fun (as5 : (List Int)) => (fun (i6 : Nat) => (@LT.lt Nat @instLTNat i6 (List.length as5)))) (@List.instGetElem?NatLtLength Int) h0 (Int.toNat i6)) fun (v5 : Int) =>
   (X (((Go.IntKind.wrap .u64 (@Int.tdiv n0 (256 : Int))), ((Go.IntKind.wrap .i64 (i6 - (1 : Int))), @Unit.unit)), ((@List.set Int h0 (Int.toNat i6) (Go.IntKind.wrap .u8 (@Int.tmod n0 (256 : Int)))), @Unit.unit)))
  else
   none
 else
  some ((@Unit.unit, (h0, @Unit.unit)))
noncomputable def ref18_Lay_7_ref01_Big_L3_R (N : Nat) (c : (((Int) × ((Int) × Unit)) × ((List (Int)) × Unit))) : Option ((Unit × ((List (Int)) × Unit))) := gl (fun X c => ref18_Lay_7_ref01_Big_L3 N X c.1.1 c.1.2.1 c.2.1) N c
theorem ref18_Lay_7_ref01_Big_L3_S (N : Nat) (X : (((Int) × ((Int) × Unit)) × ((List (Int)) × Unit)) → Option ((Unit × ((List (Int)) × Unit)))) (n0 : Int) (i6 : Int) (h0 : List (Int)) : (roundK Go.Proofs.Try.prog (Ev160 N) 400 [59, 7, 86] ref18_Lay_7_ref01_Big_L3_I (loopAt Go.Proofs.Try.prog [59, 7, 86] 3) X ((n0, i6, ()), (h0, ()))).run = ref18_Lay_7_ref01_Big_L3 N X n0 i6 h0 := by kernel_rfl
noncomputable def Ev161 (N : Nat) : (R : Type) → Env R := Env.addLp (Ev160 N) [59, 7, 86] 0 3 (fun R => lpK Go.Proofs.Try.prog ref18_Lay_7_ref01_Big_L3_I (fun X c => ref18_Lay_7_ref01_Big_L3 N X c.1.1 c.1.2.1 c.2.1) N)
theorem Ev161_ok (N : Nat) (R : Type) : EnvOK Go.Proofs.Try.prog (Ev161 N R) := EnvOK.addLp (Ev160_ok N R) (by kernel_rfl) (lpK_ok (li := ref18_Lay_7_ref01_Big_L3_I) (G := fun X c => ref18_Lay_7_ref01_Big_L3 N X c.1.1 c.1.2.1 c.2.1) hmx (Ev160_ok N _) (by kernel_rfl) loopAt_sub (fun (X : CT ref18_Lay_7_ref01_Big_L3_I.sh → Option (OT ref18_Lay_7_ref01_Big_L3_I.outs)) (c : CT ref18_Lay_7_ref01_Big_L3_I.sh) => ref18_Lay_7_ref01_Big_L3_S N X c.1.1 c.1.2.1 c.2.1) N)
noncomputable def ref18_Lay_7_ref01_Big_L3_2_I : LI := ⟨24, 1, [], ⟨[(0, .ty (.int .u64)), (5, .lit (.own 1)), (6, .ty (.int .i64))], [.own (.int .u8) 5, .own (.int .u8) 5]⟩, [(.exit 0, ⟨[(5, .lit (.own 1))], [.own (.int .u8) 5, .own (.int .u8) 5]⟩)]⟩
noncomputable def ref18_Lay_7_ref01_Big_L3_2 (N : Nat) (X : (((Int) × ((Int) × Unit)) × ((List (Int)) × ((List (Int)) × Unit))) → Option ((Unit × ((List (Int)) × ((List (Int)) × Unit))))) (n0 : Int) (i6 : Int) (h0 : List (Int)) (h1 : List (Int)) : Option ((Unit × ((List (Int)) × ((List (Int)) × Unit)))) :=
 bif (decide ((0 : Int) ≤ i6)) then
  bif (decide ((0 : Int) ≤ i6 ∧ i6 < (((List.length h1) : Nat) : Int))) then
   Option.bind (@GetElem?.getElem? (List Int) Nat Int (fun (as6 : (List Int)) => (fun (i7 : Nat) => (@LT.lt Nat @instLTNat i7 (List.length as6)))) (@List.instGetElem?NatLtLength Int) h1 (Int.toNat i6)) fun (v6 : Int) =>
   (X (((Go.IntKind.wrap .u64 (@Int.tdiv n0 (256 : Int))), ((Go.IntKind.wrap .i64 (i6 - (1 : Int))), @Unit.unit)), (h0, ((@List.set Int h1 (Int.toNat i6) (Go.IntKind.wrap .u8 (@Int.tmod n0 (256 : Int)))), @Unit.unit))))
  else
   none
 else
  some ((@Unit.unit, (h0, (h1, @Unit.unit))))
noncomputable def ref18_Lay_7_ref01_Big_L3_2_R (N : Nat) (c : (((Int) × ((Int) × Unit)) × ((List (Int)) × ((List (Int)) × Unit)))) : Option ((Unit × ((List (Int)) × ((List (Int)) × Unit)))) := gl (fun X c => ref18_Lay_7_ref01_Big_L3_2 N X c.1.1 c.1.2.1 c.2.1 c.2.2.1) N c
theorem ref18_Lay_7_ref01_Big_L3_2_S (N : Nat) (X : (((Int) × ((Int) × Unit)) × ((List (Int)) × ((List (Int)) × Unit))) → Option ((Unit × ((List (Int)) × ((List (Int)) × Unit))))) (n0 : Int) (i6 : Int) (h0 : List (Int)) (h1 : List (Int)) : (roundK Go.Proofs.Try.prog (Ev161 N) 400 [59, 7, 86] ref18_Lay_7_ref01_Big_L3_2_I (loopAt Go.Proofs.Try.prog [59, 7, 86] 3) X ((n0, i6, ()), (h0, h1, ()))).run = ref18_Lay_7_ref01_Big_L3_2 N X n0 i6 h0 h1 := by kernel_rfl
noncomputable def Ev162 (N : Nat) : (R : Type) → Env R := Env.addLp (Ev161 N) [59, 7, 86] 1 3 (fun R => lpK Go.Proofs.Try.prog ref18_Lay_7_ref01_Big_L3_2_I (fun X c => ref18_Lay_7_ref01_Big_L3_2 N X c.1.1 c.1.2.1 c.2.1 c.2.2.1) N)
theorem Ev162_ok (N : Nat) (R : Type) : EnvOK Go.Proofs.Try.prog (Ev162 N R) := EnvOK.addLp (Ev161_ok N R) (by kernel_rfl) (lpK_ok (li := ref18_Lay_7_ref01_Big_L3_2_I) (G := fun X c => ref18_Lay_7_ref01_Big_L3_2 N X c.1.1 c.1.2.1 c.2.1 c.2.2.1) hmx (Ev161_ok N _) (by kernel_rfl) loopAt_sub (fun (X : CT ref18_Lay_7_ref01_Big_L3_2_I.sh → Option (OT ref18_Lay_7_ref01_Big_L3_2_I.outs)) (c : CT ref18_Lay_7_ref01_Big_L3_2_I.sh) => ref18_Lay_7_ref01_Big_L3_2_S N X c.1.1 c.1.2.1 c.2.1 c.2.2.1) N)
noncomputable def ref18_Lay_L9_I : LI := ⟨66, 0, [], ⟨[(1, .adr (.pair .bool (.pair (.int .u16) (.pair (.sl (.pair (.int .u8) (.sl (.int .u8)))) (.sl (.int .u8)))))), (4, .lit (.own 0)), (5, .ty (.int .u8)), (6, .ty (.int .i64))], [.own (.int .u8) 5]⟩, [(.ret, ⟨[(2, .ty (.sl (.int .u8))), (3, .ty (.int .i64))], []⟩), (.exit 0, ⟨[(4, .lit (.own 0)), (5, .ty (.int .u8))], [.own (.int .u8) 5]⟩)]⟩
noncomputable def ref18_Lay_L9 (N : Nat) (X : ((((Bool) × ((Int) × ((List ((Int) × (List (Int)))) × (List (Int))))) × ((Int) × ((Int) × Unit))) × ((List (Int)) × Unit)) → Option (((((List (Int)) × ((Int) × Unit)) × Unit) ⊕ (((Int) × Unit) × ((List (Int)) × Unit))))) (p1 : (Bool) × ((Int) × ((List ((Int) × (List (Int)))) × (List (Int))))) (c5 : Int) (i6 : Int) (h0 : List (Int)) : Option (((((List (Int)) × ((Int) × Unit)) × Unit) ⊕ (((Int) × Unit) × ((List (Int)) × Unit)))) :=
 bif (decide (i6 < (((List.length p1.2.2.1) : Nat) : Int))) then
  Option.bind (getI p1.2.2.1 i6) fun (v6 : (Int × (List Int))) =>
  Option.bind (@ref17_Lay N (v6.1, v6.2)) fun (v7 : ((List Int) × Int)) =>
  bif (!(decide (v7.2 = (0 : Int)))) then
   some ((.inl ((([] : List (Int)), (v7.2, @Unit.unit)), @Unit.unit)))
  else
   bif (roomB ((List.length h0) + (List.length v7.1)) 1) then
    (X (((p1.1, (p1.2.1, (p1.2.2.1, p1.2.2.2))), (c5, ((Go.IntKind.wrap .i64 (i6 + (1 : Int))), @Unit.unit))), ((h0 ++ v7.1), @Unit.unit)))
   else
    none
 else
  some ((.inr ((c5, @Unit.unit), (h0, @Unit.unit))))
noncomputable def ref18_Lay_L9_R (N : Nat) (c : ((((Bool) × ((Int) × ((List ((Int) × (List (Int)))) × (List (Int))))) × ((Int) × ((Int) × Unit))) × ((List (Int)) × Unit))) : Option (((((List (Int)) × ((Int) × Unit)) × Unit) ⊕ (((Int) × Unit) × ((List (Int)) × Unit)))) := gl (fun X c => ref18_Lay_L9 N X c.1.1 c.1.2.1 c.1.2.2.1 c.2.1) N c
theorem ref18_Lay_L9_S (N : Nat) (X : ((((Bool) × ((Int) × ((List ((Int) × (List (Int)))) × (List (Int))))) × ((Int) × ((Int) × Unit))) × ((List (Int)) × Unit)) → Option (((((List (Int)) × ((Int) × Unit)) × Unit) ⊕ (((Int) × Unit) × ((List (Int)) × Unit))))) (p1 : (Bool) × ((Int) × ((List ((Int) × (List (Int)))) × (List (Int))))) (c5 : Int) (i6 : Int) (h0 : List (Int)) : (roundK Go.Proofs.Try.prog (Ev162 N) 400 [86] ref18_Lay_L9_I (loopAt Go.Proofs.Try.prog [86] 9) X ((p1, c5, i6, ()), (h0, ()))).run = ref18_Lay_L9 N X p1 c5 i6 h0 := by kernel_rfl
noncomputable def Ev163 (N : Nat) : (R : Type) → Env R := Env.addLp (Ev162 N) [86] 0 9 (fun R => lpK Go.Proofs.Try.prog ref18_Lay_L9_I (fun X c => ref18_Lay_L9 N X c.1.1 c.1.2.1 c.1.2.2.1 c.2.1) N)
theorem Ev163_ok (N : Nat) (R : Type) : EnvOK Go.Proofs.Try.prog (Ev163 N R) := EnvOK.addLp (Ev162_ok N R) (by kernel_rfl) (lpK_ok (li := ref18_Lay_L9_I) (G := fun X c => ref18_Lay_L9 N X c.1.1 c.1.2.1 c.1.2.2.1 c.2.1) hmx (Ev162_ok N _) (by kernel_rfl) loopAt_sub (fun (X : CT ref18_Lay_L9_I.sh → Option (OT ref18_Lay_L9_I.outs)) (c : CT ref18_Lay_L9_I.sh) => ref18_Lay_L9_S N X c.1.1 c.1.2.1 c.1.2.2.1 c.2.1) N)
noncomputable def ref18_Lay_19_ref01_Big_L3_I : LI := ⟨24, 1, [], ⟨[(0, .ty (.int .u64)), (5, .lit (.own 1)), (6, .ty (.int .i64))], [.own (.int .u8) 5, .own (.int .u8) 5]⟩, [(.exit 0, ⟨[(5, .lit (.own 1))], [.own (.int .u8) 5, .own (.int .u8) 5]⟩)]⟩
noncomputable def ref18_Lay_19_ref01_Big_L3 (N : Nat) (X : (((Int) × ((Int) × Unit)) × ((List (Int)) × ((List (Int)) × Unit))) → Option ((Unit × ((List (Int)) × ((List (Int)) × Unit))))) (n0 : Int) (i6 : Int) (h0 : List (Int)) (h1 : List (Int)) : Option ((Unit × ((List (Int)) × ((List (Int)) × Unit)))) :=
 bif (decide ((0 : Int) ≤ i6)) then
  bif (decide ((0 : Int) ≤ i6 ∧ i6 < (((List.length h1) : Nat) : Int))) then
   Option.bind (@GetElem?.getElem? (List Int) Nat Int (fun (as6 : (List Int)) => (fun (i7 : Nat) => (@LT.lt Nat @instLTNat i7 (List.length as6)))) (@List.instGetElem?NatLtLength Int) h1 (Int.toNat i6)) fun (v6 : Int) =>
   (X (((Go.IntKind.wrap .u64 (@Int.tdiv n0 (256 : Int))), ((Go.IntKind.wrap .i64 (i6 - (1 : Int))), @Unit.unit)), (h0, ((@List.set Int h1 (Int.toNat i6) (Go.IntKind.wrap .u8 (@Int.tmod n0 (256 : Int)))), @Unit.unit))))
  else
   none
 else
  some ((@Unit.unit, (h0, (h1, @Unit.unit))))
noncomputable def ref18_Lay_19_ref01_Big_L3_R (N : Nat) (c : (((Int) × ((Int) × Unit)) × ((List (Int)) × ((List (Int)) × Unit)))) : Option ((Unit × ((List (Int)) × ((List (Int)) × Unit)))) := gl (fun X c => ref18_Lay_19_ref01_Big_L3 N X c.1.1 c.1.2.1 c.2.1 c.2.2.1) N c
theorem ref18_Lay_19_ref01_Big_L3_S (N : Nat) (X : (((Int) × ((Int) × Unit)) × ((List (Int)) × ((List (Int)) × Unit))) → Option ((Unit × ((List (Int)) × ((List (Int)) × Unit))))) (n0 : Int) (i6 : Int) (h0 : List (Int)) (h1 : List (Int)) : (roundK Go.Proofs.Try.prog (Ev163 N) 400 [59, 19, 86] ref18_Lay_19_ref01_Big_L3_I (loopAt Go.Proofs.Try.prog [59, 19, 86] 3) X ((n0, i6, ()), (h0, h1, ()))).run = ref18_Lay_19_ref01_Big_L3 N X n0 i6 h0 h1 := by kernel_rfl
noncomputable def Ev164 (N : Nat) : (R : Type) → Env R := Env.addLp (Ev163 N) [59, 19, 86] 1 3 (fun R => lpK Go.Proofs.Try.prog ref18_Lay_19_ref01_Big_L3_I (fun X c => ref18_Lay_19_ref01_Big_L3 N X c.1.1 c.1.2.1 c.2.1 c.2.2.1) N)
theorem Ev164_ok (N : Nat) (R : Type) : EnvOK Go.Proofs.Try.prog (Ev164 N R) := EnvOK.addLp (Ev163_ok N R) (by kernel_rfl) (lpK_ok (li := ref18_Lay_19_ref01_Big_L3_I) (G := fun X c => ref18_Lay_19_ref01_Big_L3 N X c.1.1 c.1.2.1 c.2.1 c.2.2.1) hmx (Ev163_ok N _) (by kernel_rfl) loopAt_sub (fun (X : CT ref18_Lay_19_ref01_Big_L3_I.sh → Option (OT ref18_Lay_19_ref01_Big_L3_I.outs)) (c : CT ref18_Lay_19_ref01_Big_L3_I.sh) => ref18_Lay_19_ref01_Big_L3_S N X c.1.1 c.1.2.1 c.2.1 c.2.2.1) N)
noncomputable def ref18_Lay_19_ref01_Big_L3_2_I : LI := ⟨24, 0, [], ⟨[(0, .ty (.int .u64)), (5, .lit (.own 0)), (6, .ty (.int .i64))], [.own (.int .u8) 5]⟩, [(.exit 0, ⟨[(5, .lit (.own 0))], [.own (.int .u8) 5]⟩)]⟩
noncomputable def ref18_Lay_19_ref01_Big_L3_2 (N : Nat) (X : (((Int) × ((Int) × Unit)) × ((List (Int)) × Unit)) → Option ((Unit × ((List (Int)) × Unit)))) (n0 : Int) (i6 : Int) (h0 : List (Int)) : Option ((Unit × ((List (Int)) × Unit))) :=
 bif (decide ((0 : Int) ≤ i6)) then
  bif (decide ((0 : Int) ≤ i6 ∧ i6 < (((List.length h0) : Nat) : Int))) then
   Option.bind (@GetElem?.getElem? (List Int) Nat Int (fun (as5 : (List Int)) => (fun (i6 : Nat) => (@LT.lt Nat @instLTNat i6 (List.length as5)))) (@List.instGetElem?NatLtLength Int) h0 (Int.toNat i6)) fun (v5 : Int) =>
   (X (((Go.IntKind.wrap .u64 (@Int.tdiv n0 (256 : Int))), ((Go.IntKind.wrap .i64 (i6 - (1 : Int))), @Unit.unit)), ((@List.set Int h0 (Int.toNat i6) (Go.IntKind.wrap .u8 (@Int.tmod n0 (256 : Int)))), @Unit.unit)))
  else
   none
 else
  some ((@Unit.unit, (h0, @Unit.unit)))
noncomputable def ref18_Lay_19_ref01_Big_L3_2_R (N : Nat) (c : (((Int) × ((Int) × Unit)) × ((List (Int)) × Unit))) : Option ((Unit × ((List (Int)) × Unit))) := gl (fun X c => ref18_Lay_19_ref01_Big_L3_2 N X c.1.1 c.1.2.1 c.2.1) N c
theorem ref18_Lay_19_ref01_Big_L3_2_S (N : Nat) (X : (((Int) × ((Int) × Unit)) × ((List (Int)) × Unit)) → Option ((Unit × ((List (Int)) × Unit)))) (n0 : Int) (i6 : Int) (h0 : List (Int)) : (roundK Go.Proofs.Try.prog (Ev164 N) 400 [59, 19, 86] ref18_Lay_19_ref01_Big_L3_2_I (loopAt Go.Proofs.Try.prog [59, 19, 86] 3) X ((n0, i6, ()), (h0, ()))).run = ref18_Lay_19_ref01_Big_L3_2 N X n0 i6 h0 := by kernel_rfl
noncomputable def Ev165 (N : Nat) : (R : Type) → Env R := Env.addLp (Ev164 N) [59, 19, 86] 0 3 (fun R => lpK Go.Proofs.Try.prog ref18_Lay_19_ref01_Big_L3_2_I (fun X c => ref18_Lay_19_ref01_Big_L3_2 N X c.1.1 c.1.2.1 c.2.1) N)
theorem Ev165_ok (N : Nat) (R : Type) : EnvOK Go.Proofs.Try.prog (Ev165 N R) := EnvOK.addLp (Ev164_ok N R) (by kernel_rfl) (lpK_ok (li := ref18_Lay_19_ref01_Big_L3_2_I) (G := fun X c => ref18_Lay_19_ref01_Big_L3_2 N X c.1.1 c.1.2.1 c.2.1) hmx (Ev164_ok N _) (by kernel_rfl) loopAt_sub (fun (X : CT ref18_Lay_19_ref01_Big_L3_2_I.sh → Option (OT ref18_Lay_19_ref01_Big_L3_2_I.outs)) (c : CT ref18_Lay_19_ref01_Big_L3_2_I.sh) => ref18_Lay_19_ref01_Big_L3_2_S N X c.1.1 c.1.2.1 c.2.1) N)
noncomputable def ref18_Lay (N : Nat) (p0 : (Bool) × ((Int) × ((List ((Int) × (List (Int)))) × (List (Int))))) : Option ((List (Int)) × Int) :=
 bif p0.1 then
  bif (decide ((8 : Int) < (((List.length p0.2.2.1) : Nat) : Int))) then
   some ((([] : List (Int)), (5 : Int)))
  else
   Option.bind (ref18_Lay_7_ref01_Big_L3_R N (((Go.IntKind.wrap .u64 p0.2.1), ((Go.IntKind.wrap .i64 ((2 : Int) - (1 : Int))), @Unit.unit)), ((@List.replicate Int (Int.toNat (2 : Int)) (0 : Int)), @Unit.unit))) fun (v2 : (Unit × ((List Int) × Unit))) =>
   Option.bind (ref18_Lay_7_ref01_Big_L3_2_R N (((Go.IntKind.wrap .u64 (((List.length p0.2.2.1) : Nat) : Int)), ((Go.IntKind.wrap .i64 ((2 : Int) - (1 : Int))), @Unit.unit)), (v2.2.1, ((@List.replicate Int (Int.toNat (2 : Int)) (0 : Int)), @Unit.unit)))) fun (v3 : (Unit × ((List Int) × ((List Int) × Unit)))) =>
   bif (roomB ((List.length v3.2.1) + (List.length v3.2.2.1)) 1) then
    Option.bind (ref18_Lay_L9_R N (((p0.1, (p0.2.1, (p0.2.2.1, p0.2.2.2))), ((1 : Int), ((0 : Int), @Unit.unit))), ((v3.2.1 ++ v3.2.2.1), @Unit.unit))) fun (v4 : ((((List Int) × (Int × Unit)) × Unit) ⊕ ((Int × Unit) × ((List Int) × Unit)))) =>
    Sum.elim
     (fun (v5 : (((List Int) × (Int × Unit)) × Unit)) =>
     some ((v5.1.1, v5.1.2.1)))
     (fun (v5 : ((Int × Unit) × ((List Int) × Unit))) =>
     bif (decide ((((List.length v5.2.1) : Nat) : Int) = (0 : Int))) then
      some ((([] : List (Int)), (4 : Int)))
     else
      bif (decide ((4095 : Int) < (Go.IntKind.wrap .i64 ((4 : Int) + (((List.length v5.2.1) : Nat) : Int))))) then
       some ((([] : List (Int)), (8 : Int)))
      else
       Option.bind (ref18_Lay_19_ref01_Big_L3_R N (((Go.IntKind.wrap .u64 (Go.IntKind.wrap .i64 ((4 : Int) + (((List.length v5.2.1) : Nat) : Int)))), ((Go.IntKind.wrap .i64 ((2 : Int) - (1 : Int))), @Unit.unit)), (v5.2.1, ((@List.replicate Int (Int.toNat (2 : Int)) (0 : Int)), @Unit.unit)))) fun (v6 : (Unit × ((List Int) × ((List Int) × Unit)))) =>
       bif ((roomB ((List.length ([(16 : Int), v5.1.1] : List (Int))) + (List.length v6.2.2.1)) 1) && (!(@List.isEmpty Int v6.2.2.1))) then
        bif (roomB ((List.length (([(16 : Int), v5.1.1] : List (Int)) ++ v6.2.2.1)) + (List.length v6.2.1)) 1) then
         some ((((([(16 : Int), v5.1.1] : List (Int)) ++ v6.2.2.1) ++ v6.2.1), (0 : Int)))
        else
         none
       else
        none) v4
   else
    none
 else
  bif (decide ((((List.length p0.2.2.2) : Nat) : Int) = (0 : Int))) then
   some ((([] : List (Int)), (4 : Int)))
  else
   bif (decide ((4095 : Int) < (Go.IntKind.wrap .i64 ((4 : Int) + (((List.length p0.2.2.2) : Nat) : Int))))) then
    some ((([] : List (Int)), (8 : Int)))
   else
    Option.bind (ref18_Lay_19_ref01_Big_L3_2_R N (((Go.IntKind.wrap .u64 (Go.IntKind.wrap .i64 ((4 : Int) + (((List.length p0.2.2.2) : Nat) : Int)))), ((Go.IntKind.wrap .i64 ((2 : Int) - (1 : Int))), @Unit.unit)), ((@List.replicate Int (Int.toNat (2 : Int)) (0 : Int)), @Unit.unit))) fun (v2 : (Unit × ((List Int) × Unit))) =>
    bif ((roomB ((List.length ([(16 : Int), (0 : Int)] : List (Int))) + (List.length v2.2.1)) 1) && (!(@List.isEmpty Int v2.2.1))) then
     bif (roomB ((List.length (([(16 : Int), (0 : Int)] : List (Int)) ++ v2.2.1)) + (List.length p0.2.2.2)) 1) then
      some ((((([(16 : Int), (0 : Int)] : List (Int)) ++ v2.2.1) ++ p0.2.2.2), (0 : Int)))
     else
      none
    else
     none
theorem ref18_Lay_S (N : Nat) (p0 : (Bool) × ((Int) × ((List ((Int) × (List (Int)))) × (List (Int))))) : (runK Go.Proofs.Try.prog (Ev165 N) 400 86 [(.pair .bool (.pair (.int .u16) (.pair (.sl (.pair (.int .u8) (.sl (.int .u8)))) (.sl (.int .u8)))))] [(.sl (.int .u8)), (.int .i64)] (p0, ())).run = ref18_Lay N p0 := by kernel_rfl
theorem ref18_Lay_C (N : Nat) (p0 : (Bool) × ((Int) × ((List ((Int) × (List (Int)))) × (List (Int))))) (y : (List (Int)) × Int) (h : ref18_Lay N p0 = some y) : CallsK Go.Proofs.Try.prog 86 (valA [(.pair .bool (.pair (.int .u16) (.pair (.sl (.pair (.int .u8) (.sl (.int .u8)))) (.sl (.int .u8)))))] (p0, ())) (tupV (valR [(.sl (.int .u8)), (.int .i64)] y)) := runK_ok hmx (Ev165_ok N _) (okFn_ok (by kernel_rfl)) (by rw [ref18_Lay_S]; exact h)
noncomputable def Ev166 (N : Nat) : (R : Type) → Env R := Env.addFn (Ev165 N) 86 (fun R => fnK [(.pair .bool (.pair (.int .u16) (.pair (.sl (.pair (.int .u8) (.sl (.int .u8)))) (.sl (.int .u8)))))] [(.sl (.int .u8)), (.int .i64)] (fun c => ref18_Lay N c.1))
theorem Ev166_ok (N : Nat) (R : Type) : EnvOK Go.Proofs.Try.prog (Ev166 N R) := EnvOK.addFn hmx (Ev165_ok N R) (Ev165_ok N _) (by kernel_rfl) (fun c => ref18_Lay_S N c.1)
noncomputable def Ev167 (N : Nat) : (R : Type) → Env R := Env.addBx (Ev166 N) [(66, 0)]
theorem Ev167_ok (N : Nat) (R : Type) : EnvOK Go.Proofs.Try.prog (Ev167 N R) := EnvOK.addBx (Ev166_ok N R) [(66, 0)]
noncomputable def bind_of (N : Nat) (x0 : (Int) × ((Arr (Int) 32) × ((Arr (Int) 32) × (Arr (Int) 32)))) : Option ((Bool) × ((Int) × ((List ((Int) × (List (Int)))) × (List (Int))))) :=
 Option.bind (@attr_OfBinding N (x0.1, (x0.2.1, (x0.2.2.1, x0.2.2.2)))) fun (v2 : (Int × (List Int))) =>
 Option.bind (@packet_Of N (4 : Int) ([(v2.1, v2.2)] : List ((Int × (List Int))))) fun (v3 : (Bool × (Int × ((List (Int × (List Int))) × (List Int))))) =>
 some ((v3.1, (v3.2.1, (v3.2.2.1, v3.2.2.2))))
theorem bind_of_S (N : Nat) (x0 : (Int) × ((Arr (Int) 32) × ((Arr (Int) 32) × (Arr (Int) 32)))) : (runK Go.Proofs.Try.prog (Ev167 N) 400 66 [(.pair (.int .u8) (.pair (.arr 32 (.int .u8)) (.pair (.arr 32 (.int .u8)) (.arr 32 (.int .u8)))))] [(.pair .bool (.pair (.int .u16) (.pair (.sl (.pair (.int .u8) (.sl (.int .u8)))) (.sl (.int .u8)))))] (x0, ())).run = bind_of N x0 := by kernel_rfl
theorem bind_of_C (N : Nat) (x0 : (Int) × ((Arr (Int) 32) × ((Arr (Int) 32) × (Arr (Int) 32)))) (y : (Bool) × ((Int) × ((List ((Int) × (List (Int)))) × (List (Int))))) (h : bind_of N x0 = some y) : CallsK Go.Proofs.Try.prog 66 (valA [(.pair (.int .u8) (.pair (.arr 32 (.int .u8)) (.pair (.arr 32 (.int .u8)) (.arr 32 (.int .u8)))))] (x0, ())) (tupV (valR [(.pair .bool (.pair (.int .u16) (.pair (.sl (.pair (.int .u8) (.sl (.int .u8)))) (.sl (.int .u8)))))] y)) := runK_ok hmx (Ev167_ok N _) (okFn_ok (by kernel_rfl)) (by rw [bind_of_S]; exact h)
noncomputable def Ev168 (N : Nat) : (R : Type) → Env R := Env.addFn (Ev167 N) 66 (fun R => fnK [(.pair (.int .u8) (.pair (.arr 32 (.int .u8)) (.pair (.arr 32 (.int .u8)) (.arr 32 (.int .u8)))))] [(.pair .bool (.pair (.int .u16) (.pair (.sl (.pair (.int .u8) (.sl (.int .u8)))) (.sl (.int .u8)))))] (fun c => bind_of N c.1))
theorem Ev168_ok (N : Nat) (R : Type) : EnvOK Go.Proofs.Try.prog (Ev168 N R) := EnvOK.addFn hmx (Ev167_ok N R) (Ev167_ok N _) (by kernel_rfl) (fun c => bind_of_S N c.1)
noncomputable def bind_seal (N : Nat) (x0 : (Int) × ((Arr (Int) 32) × ((Arr (Int) 32) × (Arr (Int) 32)))) (upper1 : Arr (Int) 32) : Option (Arr (Int) 32) :=
 Option.bind (@bind_of N (x0.1, (x0.2.1, (x0.2.2.1, (@Arr.cons Int (31 : Nat) (0 : Int) (@Arr.cons Int (30 : Nat) (0 : Int) (@Arr.cons Int (29 : Nat) (0 : Int) (@Arr.cons Int (28 : Nat) (0 : Int) (@Arr.cons Int (27 : Nat) (0 : Int) (@Arr.cons Int (26 : Nat) (0 : Int) (@Arr.cons Int (25 : Nat) (0 : Int) (@Arr.cons Int (24 : Nat) (0 : Int) (@Arr.cons Int (23 : Nat) (0 : Int) (@Arr.cons Int (22 : Nat) (0 : Int) (@Arr.cons Int (21 : Nat) (0 : Int) (@Arr.cons Int (20 : Nat) (0 : Int) (@Arr.cons Int (19 : Nat) (0 : Int) (@Arr.cons Int (18 : Nat) (0 : Int) (@Arr.cons Int (17 : Nat) (0 : Int) (@Arr.cons Int (16 : Nat) (0 : Int) (@Arr.cons Int (15 : Nat) (0 : Int) (@Arr.cons Int (14 : Nat) (0 : Int) (@Arr.cons Int (13 : Nat) (0 : Int) (@Arr.cons Int (12 : Nat) (0 : Int) (@Arr.cons Int (11 : Nat) (0 : Int) (@Arr.cons Int (10 : Nat) (0 : Int) (@Arr.cons Int (9 : Nat) (0 : Int) (@Arr.cons Int (8 : Nat) (0 : Int) (@Arr.cons Int (7 : Nat) (0 : Int) (@Arr.cons Int (6 : Nat) (0 : Int) (@Arr.cons Int (5 : Nat) (0 : Int) (@Arr.cons Int (4 : Nat) (0 : Int) (@Arr.cons Int (3 : Nat) (0 : Int) (@Arr.cons Int (2 : Nat) (0 : Int) (@Arr.cons Int (1 : Nat) (0 : Int) (@Arr.cons Int (0 : Nat) (0 : Int) (@Arr.nil Int))))))))))))))))))))))))))))))))))))) fun (v3 : (Bool × (Int × ((List (Int × (List Int))) × (List Int))))) =>
 Option.bind (@packet_Lay N (v3.1, (v3.2.1, (v3.2.2.1, v3.2.2.2)))) fun (v4 : ((List Int) × Int)) =>
 Option.bind (@prf_Bind N upper1) fun (v5 : (Arr Int 32)) =>
 Option.bind (@prf_Seal N v5 v4.1) fun (v6 : (Arr Int 32)) =>
 some (v6)
theorem bind_seal_S (N : Nat) (x0 : (Int) × ((Arr (Int) 32) × ((Arr (Int) 32) × (Arr (Int) 32)))) (upper1 : Arr (Int) 32) : (runK Go.Proofs.Try.prog (Ev168 N) 400 65 [(.pair (.int .u8) (.pair (.arr 32 (.int .u8)) (.pair (.arr 32 (.int .u8)) (.arr 32 (.int .u8))))), (.arr 32 (.int .u8))] [(.arr 32 (.int .u8))] (x0, upper1, ())).run = bind_seal N x0 upper1 := by kernel_rfl
theorem bind_seal_C (N : Nat) (x0 : (Int) × ((Arr (Int) 32) × ((Arr (Int) 32) × (Arr (Int) 32)))) (upper1 : Arr (Int) 32) (y : Arr (Int) 32) (h : bind_seal N x0 upper1 = some y) : CallsK Go.Proofs.Try.prog 65 (valA [(.pair (.int .u8) (.pair (.arr 32 (.int .u8)) (.pair (.arr 32 (.int .u8)) (.arr 32 (.int .u8))))), (.arr 32 (.int .u8))] (x0, upper1, ())) (tupV (valR [(.arr 32 (.int .u8))] y)) := runK_ok hmx (Ev168_ok N _) (okFn_ok (by kernel_rfl)) (by rw [bind_seal_S]; exact h)
noncomputable def Ev169 (N : Nat) : (R : Type) → Env R := Env.addFn (Ev168 N) 65 (fun R => fnK [(.pair (.int .u8) (.pair (.arr 32 (.int .u8)) (.pair (.arr 32 (.int .u8)) (.arr 32 (.int .u8))))), (.arr 32 (.int .u8))] [(.arr 32 (.int .u8))] (fun c => bind_seal N c.1 c.2.1))
theorem Ev169_ok (N : Nat) (R : Type) : EnvOK Go.Proofs.Try.prog (Ev169 N R) := EnvOK.addFn hmx (Ev168_ok N R) (Ev168_ok N _) (by kernel_rfl) (fun c => bind_seal_S N c.1 c.2.1)
noncomputable def Ev170 (N : Nat) : (R : Type) → Env R := Env.addBx (Ev169 N) [(72, 0)]
theorem Ev170_ok (N : Nat) (R : Type) : EnvOK Go.Proofs.Try.prog (Ev170 N R) := EnvOK.addBx (Ev169_ok N R) [(72, 0)]
noncomputable def bind_binding (N : Nat) (p0 : (Bool) × ((Int) × ((List ((Int) × (List (Int)))) × (List (Int))))) : Option (((Int) × ((Arr (Int) 32) × ((Arr (Int) 32) × (Arr (Int) 32)))) × Int) :=
 Option.bind (@packet_Check N (p0.1, (p0.2.1, (p0.2.2.1, p0.2.2.2)))) fun (v2 : Int) =>
 bif (!(decide (v2 = (0 : Int)))) then
  some ((((0 : Int), ((@Arr.cons Int (31 : Nat) (0 : Int) (@Arr.cons Int (30 : Nat) (0 : Int) (@Arr.cons Int (29 : Nat) (0 : Int) (@Arr.cons Int (28 : Nat) (0 : Int) (@Arr.cons Int (27 : Nat) (0 : Int) (@Arr.cons Int (26 : Nat) (0 : Int) (@Arr.cons Int (25 : Nat) (0 : Int) (@Arr.cons Int (24 : Nat) (0 : Int) (@Arr.cons Int (23 : Nat) (0 : Int) (@Arr.cons Int (22 : Nat) (0 : Int) (@Arr.cons Int (21 : Nat) (0 : Int) (@Arr.cons Int (20 : Nat) (0 : Int) (@Arr.cons Int (19 : Nat) (0 : Int) (@Arr.cons Int (18 : Nat) (0 : Int) (@Arr.cons Int (17 : Nat) (0 : Int) (@Arr.cons Int (16 : Nat) (0 : Int) (@Arr.cons Int (15 : Nat) (0 : Int) (@Arr.cons Int (14 : Nat) (0 : Int) (@Arr.cons Int (13 : Nat) (0 : Int) (@Arr.cons Int (12 : Nat) (0 : Int) (@Arr.cons Int (11 : Nat) (0 : Int) (@Arr.cons Int (10 : Nat) (0 : Int) (@Arr.cons Int (9 : Nat) (0 : Int) (@Arr.cons Int (8 : Nat) (0 : Int) (@Arr.cons Int (7 : Nat) (0 : Int) (@Arr.cons Int (6 : Nat) (0 : Int) (@Arr.cons Int (5 : Nat) (0 : Int) (@Arr.cons Int (4 : Nat) (0 : Int) (@Arr.cons Int (3 : Nat) (0 : Int) (@Arr.cons Int (2 : Nat) (0 : Int) (@Arr.cons Int (1 : Nat) (0 : Int) (@Arr.cons Int (0 : Nat) (0 : Int) (@Arr.nil Int))))))))))))))))))))))))))))))))), ((@Arr.cons Int (31 : Nat) (0 : Int) (@Arr.cons Int (30 : Nat) (0 : Int) (@Arr.cons Int (29 : Nat) (0 : Int) (@Arr.cons Int (28 : Nat) (0 : Int) (@Arr.cons Int (27 : Nat) (0 : Int) (@Arr.cons Int (26 : Nat) (0 : Int) (@Arr.cons Int (25 : Nat) (0 : Int) (@Arr.cons Int (24 : Nat) (0 : Int) (@Arr.cons Int (23 : Nat) (0 : Int) (@Arr.cons Int (22 : Nat) (0 : Int) (@Arr.cons Int (21 : Nat) (0 : Int) (@Arr.cons Int (20 : Nat) (0 : Int) (@Arr.cons Int (19 : Nat) (0 : Int) (@Arr.cons Int (18 : Nat) (0 : Int) (@Arr.cons Int (17 : Nat) (0 : Int) (@Arr.cons Int (16 : Nat) (0 : Int) (@Arr.cons Int (15 : Nat) (0 : Int) (@Arr.cons Int (14 : Nat) (0 : Int) (@Arr.cons Int (13 : Nat) (0 : Int) (@Arr.cons Int (12 : Nat) (0 : Int) (@Arr.cons Int (11 : Nat) (0 : Int) (@Arr.cons Int (10 : Nat) (0 : Int) (@Arr.cons Int (9 : Nat) (0 : Int) (@Arr.cons Int (8 : Nat) (0 : Int) (@Arr.cons Int (7 : Nat) (0 : Int) (@Arr.cons Int (6 : Nat) (0 : Int) (@Arr.cons Int (5 : Nat) (0 : Int) (@Arr.cons Int (4 : Nat) (0 : Int) (@Arr.cons Int (3 : Nat) (0 : Int) (@Arr.cons Int (2 : Nat) (0 : Int) (@Arr.cons Int (1 : Nat) (0 : Int) (@Arr.cons Int (0 : Nat) (0 : Int) (@Arr.nil Int))))))))))))))))))))))))))))))))), (@Arr.cons Int (31 : Nat) (0 : Int) (@Arr.cons Int (30 : Nat) (0 : Int) (@Arr.cons Int (29 : Nat) (0 : Int) (@Arr.cons Int (28 : Nat) (0 : Int) (@Arr.cons Int (27 : Nat) (0 : Int) (@Arr.cons Int (26 : Nat) (0 : Int) (@Arr.cons Int (25 : Nat) (0 : Int) (@Arr.cons Int (24 : Nat) (0 : Int) (@Arr.cons Int (23 : Nat) (0 : Int) (@Arr.cons Int (22 : Nat) (0 : Int) (@Arr.cons Int (21 : Nat) (0 : Int) (@Arr.cons Int (20 : Nat) (0 : Int) (@Arr.cons Int (19 : Nat) (0 : Int) (@Arr.cons Int (18 : Nat) (0 : Int) (@Arr.cons Int (17 : Nat) (0 : Int) (@Arr.cons Int (16 : Nat) (0 : Int) (@Arr.cons Int (15 : Nat) (0 : Int) (@Arr.cons Int (14 : Nat) (0 : Int) (@Arr.cons Int (13 : Nat) (0 : Int) (@Arr.cons Int (12 : Nat) (0 : Int) (@Arr.cons Int (11 : Nat) (0 : Int) (@Arr.cons Int (10 : Nat) (0 : Int) (@Arr.cons Int (9 : Nat) (0 : Int) (@Arr.cons Int (8 : Nat) (0 : Int) (@Arr.cons Int (7 : Nat) (0 : Int) (@Arr.cons Int (6 : Nat) (0 : Int) (@Arr.cons Int (5 : Nat) (0 : Int) (@Arr.cons Int (4 : Nat) (0 : Int) (@Arr.cons Int (3 : Nat) (0 : Int) (@Arr.cons Int (2 : Nat) (0 : Int) (@Arr.cons Int (1 : Nat) (0 : Int) (@Arr.cons Int (0 : Nat) (0 : Int) (@Arr.nil Int)))))))))))))))))))))))))))))))))))), v2))
 else
  bif (!p0.1) then
   some ((((0 : Int), ((@Arr.cons Int (31 : Nat) (0 : Int) (@Arr.cons Int (30 : Nat) (0 : Int) (@Arr.cons Int (29 : Nat) (0 : Int) (@Arr.cons Int (28 : Nat) (0 : Int) (@Arr.cons Int (27 : Nat) (0 : Int) (@Arr.cons Int (26 : Nat) (0 : Int) (@Arr.cons Int (25 : Nat) (0 : Int) (@Arr.cons Int (24 : Nat) (0 : Int) (@Arr.cons Int (23 : Nat) (0 : Int) (@Arr.cons Int (22 : Nat) (0 : Int) (@Arr.cons Int (21 : Nat) (0 : Int) (@Arr.cons Int (20 : Nat) (0 : Int) (@Arr.cons Int (19 : Nat) (0 : Int) (@Arr.cons Int (18 : Nat) (0 : Int) (@Arr.cons Int (17 : Nat) (0 : Int) (@Arr.cons Int (16 : Nat) (0 : Int) (@Arr.cons Int (15 : Nat) (0 : Int) (@Arr.cons Int (14 : Nat) (0 : Int) (@Arr.cons Int (13 : Nat) (0 : Int) (@Arr.cons Int (12 : Nat) (0 : Int) (@Arr.cons Int (11 : Nat) (0 : Int) (@Arr.cons Int (10 : Nat) (0 : Int) (@Arr.cons Int (9 : Nat) (0 : Int) (@Arr.cons Int (8 : Nat) (0 : Int) (@Arr.cons Int (7 : Nat) (0 : Int) (@Arr.cons Int (6 : Nat) (0 : Int) (@Arr.cons Int (5 : Nat) (0 : Int) (@Arr.cons Int (4 : Nat) (0 : Int) (@Arr.cons Int (3 : Nat) (0 : Int) (@Arr.cons Int (2 : Nat) (0 : Int) (@Arr.cons Int (1 : Nat) (0 : Int) (@Arr.cons Int (0 : Nat) (0 : Int) (@Arr.nil Int))))))))))))))))))))))))))))))))), ((@Arr.cons Int (31 : Nat) (0 : Int) (@Arr.cons Int (30 : Nat) (0 : Int) (@Arr.cons Int (29 : Nat) (0 : Int) (@Arr.cons Int (28 : Nat) (0 : Int) (@Arr.cons Int (27 : Nat) (0 : Int) (@Arr.cons Int (26 : Nat) (0 : Int) (@Arr.cons Int (25 : Nat) (0 : Int) (@Arr.cons Int (24 : Nat) (0 : Int) (@Arr.cons Int (23 : Nat) (0 : Int) (@Arr.cons Int (22 : Nat) (0 : Int) (@Arr.cons Int (21 : Nat) (0 : Int) (@Arr.cons Int (20 : Nat) (0 : Int) (@Arr.cons Int (19 : Nat) (0 : Int) (@Arr.cons Int (18 : Nat) (0 : Int) (@Arr.cons Int (17 : Nat) (0 : Int) (@Arr.cons Int (16 : Nat) (0 : Int) (@Arr.cons Int (15 : Nat) (0 : Int) (@Arr.cons Int (14 : Nat) (0 : Int) (@Arr.cons Int (13 : Nat) (0 : Int) (@Arr.cons Int (12 : Nat) (0 : Int) (@Arr.cons Int (11 : Nat) (0 : Int) (@Arr.cons Int (10 : Nat) (0 : Int) (@Arr.cons Int (9 : Nat) (0 : Int) (@Arr.cons Int (8 : Nat) (0 : Int) (@Arr.cons Int (7 : Nat) (0 : Int) (@Arr.cons Int (6 : Nat) (0 : Int) (@Arr.cons Int (5 : Nat) (0 : Int) (@Arr.cons Int (4 : Nat) (0 : Int) (@Arr.cons Int (3 : Nat) (0 : Int) (@Arr.cons Int (2 : Nat) (0 : Int) (@Arr.cons Int (1 : Nat) (0 : Int) (@Arr.cons Int (0 : Nat) (0 : Int) (@Arr.nil Int))))))))))))))))))))))))))))))))), (@Arr.cons Int (31 : Nat) (0 : Int) (@Arr.cons Int (30 : Nat) (0 : Int) (@Arr.cons Int (29 : Nat) (0 : Int) (@Arr.cons Int (28 : Nat) (0 : Int) (@Arr.cons Int (27 : Nat) (0 : Int) (@Arr.cons Int (26 : Nat) (0 : Int) (@Arr.cons Int (25 : Nat) (0 : Int) (@Arr.cons Int (24 : Nat) (0 : Int) (@Arr.cons Int (23 : Nat) (0 : Int) (@Arr.cons Int (22 : Nat) (0 : Int) (@Arr.cons Int (21 : Nat) (0 : Int) (@Arr.cons Int (20 : Nat) (0 : Int) (@Arr.cons Int (19 : Nat) (0 : Int) (@Arr.cons Int (18 : Nat) (0 : Int) (@Arr.cons Int (17 : Nat) (0 : Int) (@Arr.cons Int (16 : Nat) (0 : Int) (@Arr.cons Int (15 : Nat) (0 : Int) (@Arr.cons Int (14 : Nat) (0 : Int) (@Arr.cons Int (13 : Nat) (0 : Int) (@Arr.cons Int (12 : Nat) (0 : Int) (@Arr.cons Int (11 : Nat) (0 : Int) (@Arr.cons Int (10 : Nat) (0 : Int) (@Arr.cons Int (9 : Nat) (0 : Int) (@Arr.cons Int (8 : Nat) (0 : Int) (@Arr.cons Int (7 : Nat) (0 : Int) (@Arr.cons Int (6 : Nat) (0 : Int) (@Arr.cons Int (5 : Nat) (0 : Int) (@Arr.cons Int (4 : Nat) (0 : Int) (@Arr.cons Int (3 : Nat) (0 : Int) (@Arr.cons Int (2 : Nat) (0 : Int) (@Arr.cons Int (1 : Nat) (0 : Int) (@Arr.cons Int (0 : Nat) (0 : Int) (@Arr.nil Int)))))))))))))))))))))))))))))))))))), (1 : Int)))
  else
   bif (@cond Bool @Bool.false @Bool.true (!(decide (p0.2.1 = (4 : Int))))) then
    some ((((0 : Int), ((@Arr.cons Int (31 : Nat) (0 : Int) (@Arr.cons Int (30 : Nat) (0 : Int) (@Arr.cons Int (29 : Nat) (0 : Int) (@Arr.cons Int (28 : Nat) (0 : Int) (@Arr.cons Int (27 : Nat) (0 : Int) (@Arr.cons Int (26 : Nat) (0 : Int) (@Arr.cons Int (25 : Nat) (0 : Int) (@Arr.cons Int (24 : Nat) (0 : Int) (@Arr.cons Int (23 : Nat) (0 : Int) (@Arr.cons Int (22 : Nat) (0 : Int) (@Arr.cons Int (21 : Nat) (0 : Int) (@Arr.cons Int (20 : Nat) (0 : Int) (@Arr.cons Int (19 : Nat) (0 : Int) (@Arr.cons Int (18 : Nat) (0 : Int) (@Arr.cons Int (17 : Nat) (0 : Int) (@Arr.cons Int (16 : Nat) (0 : Int) (@Arr.cons Int (15 : Nat) (0 : Int) (@Arr.cons Int (14 : Nat) (0 : Int) (@Arr.cons Int (13 : Nat) (0 : Int) (@Arr.cons Int (12 : Nat) (0 : Int) (@Arr.cons Int (11 : Nat) (0 : Int) (@Arr.cons Int (10 : Nat) (0 : Int) (@Arr.cons Int (9 : Nat) (0 : Int) (@Arr.cons Int (8 : Nat) (0 : Int) (@Arr.cons Int (7 : Nat) (0 : Int) (@Arr.cons Int (6 : Nat) (0 : Int) (@Arr.cons Int (5 : Nat) (0 : Int) (@Arr.cons Int (4 : Nat) (0 : Int) (@Arr.cons Int (3 : Nat) (0 : Int) (@Arr.cons Int (2 : Nat) (0 : Int) (@Arr.cons Int (1 : Nat) (0 : Int) (@Arr.cons Int (0 : Nat) (0 : Int) (@Arr.nil Int))))))))))))))))))))))))))))))))), ((@Arr.cons Int (31 : Nat) (0 : Int) (@Arr.cons Int (30 : Nat) (0 : Int) (@Arr.cons Int (29 : Nat) (0 : Int) (@Arr.cons Int (28 : Nat) (0 : Int) (@Arr.cons Int (27 : Nat) (0 : Int) (@Arr.cons Int (26 : Nat) (0 : Int) (@Arr.cons Int (25 : Nat) (0 : Int) (@Arr.cons Int (24 : Nat) (0 : Int) (@Arr.cons Int (23 : Nat) (0 : Int) (@Arr.cons Int (22 : Nat) (0 : Int) (@Arr.cons Int (21 : Nat) (0 : Int) (@Arr.cons Int (20 : Nat) (0 : Int) (@Arr.cons Int (19 : Nat) (0 : Int) (@Arr.cons Int (18 : Nat) (0 : Int) (@Arr.cons Int (17 : Nat) (0 : Int) (@Arr.cons Int (16 : Nat) (0 : Int) (@Arr.cons Int (15 : Nat) (0 : Int) (@Arr.cons Int (14 : Nat) (0 : Int) (@Arr.cons Int (13 : Nat) (0 : Int) (@Arr.cons Int (12 : Nat) (0 : Int) (@Arr.cons Int (11 : Nat) (0 : Int) (@Arr.cons Int (10 : Nat) (0 : Int) (@Arr.cons Int (9 : Nat) (0 : Int) (@Arr.cons Int (8 : Nat) (0 : Int) (@Arr.cons Int (7 : Nat) (0 : Int) (@Arr.cons Int (6 : Nat) (0 : Int) (@Arr.cons Int (5 : Nat) (0 : Int) (@Arr.cons Int (4 : Nat) (0 : Int) (@Arr.cons Int (3 : Nat) (0 : Int) (@Arr.cons Int (2 : Nat) (0 : Int) (@Arr.cons Int (1 : Nat) (0 : Int) (@Arr.cons Int (0 : Nat) (0 : Int) (@Arr.nil Int))))))))))))))))))))))))))))))))), (@Arr.cons Int (31 : Nat) (0 : Int) (@Arr.cons Int (30 : Nat) (0 : Int) (@Arr.cons Int (29 : Nat) (0 : Int) (@Arr.cons Int (28 : Nat) (0 : Int) (@Arr.cons Int (27 : Nat) (0 : Int) (@Arr.cons Int (26 : Nat) (0 : Int) (@Arr.cons Int (25 : Nat) (0 : Int) (@Arr.cons Int (24 : Nat) (0 : Int) (@Arr.cons Int (23 : Nat) (0 : Int) (@Arr.cons Int (22 : Nat) (0 : Int) (@Arr.cons Int (21 : Nat) (0 : Int) (@Arr.cons Int (20 : Nat) (0 : Int) (@Arr.cons Int (19 : Nat) (0 : Int) (@Arr.cons Int (18 : Nat) (0 : Int) (@Arr.cons Int (17 : Nat) (0 : Int) (@Arr.cons Int (16 : Nat) (0 : Int) (@Arr.cons Int (15 : Nat) (0 : Int) (@Arr.cons Int (14 : Nat) (0 : Int) (@Arr.cons Int (13 : Nat) (0 : Int) (@Arr.cons Int (12 : Nat) (0 : Int) (@Arr.cons Int (11 : Nat) (0 : Int) (@Arr.cons Int (10 : Nat) (0 : Int) (@Arr.cons Int (9 : Nat) (0 : Int) (@Arr.cons Int (8 : Nat) (0 : Int) (@Arr.cons Int (7 : Nat) (0 : Int) (@Arr.cons Int (6 : Nat) (0 : Int) (@Arr.cons Int (5 : Nat) (0 : Int) (@Arr.cons Int (4 : Nat) (0 : Int) (@Arr.cons Int (3 : Nat) (0 : Int) (@Arr.cons Int (2 : Nat) (0 : Int) (@Arr.cons Int (1 : Nat) (0 : Int) (@Arr.cons Int (0 : Nat) (0 : Int) (@Arr.nil Int)))))))))))))))))))))))))))))))))))), (1 : Int)))
   else
    Option.bind (getI p0.2.2.1 (0 : Int)) fun (v3 : (Int × (List Int))) =>
    Option.bind (@attr_ToBinding N (v3.1, v3.2)) fun (v4 : ((Int × ((Arr Int 32) × ((Arr Int 32) × (Arr Int 32)))) × Int)) =>
    some (((v4.1.1, (v4.1.2.1, (v4.1.2.2.1, v4.1.2.2.2))), v4.2))
theorem bind_binding_S (N : Nat) (p0 : (Bool) × ((Int) × ((List ((Int) × (List (Int)))) × (List (Int))))) : (runK Go.Proofs.Try.prog (Ev170 N) 400 72 [(.pair .bool (.pair (.int .u16) (.pair (.sl (.pair (.int .u8) (.sl (.int .u8)))) (.sl (.int .u8)))))] [(.pair (.int .u8) (.pair (.arr 32 (.int .u8)) (.pair (.arr 32 (.int .u8)) (.arr 32 (.int .u8))))), (.int .i64)] (p0, ())).run = bind_binding N p0 := by kernel_rfl
theorem bind_binding_C (N : Nat) (p0 : (Bool) × ((Int) × ((List ((Int) × (List (Int)))) × (List (Int))))) (y : ((Int) × ((Arr (Int) 32) × ((Arr (Int) 32) × (Arr (Int) 32)))) × Int) (h : bind_binding N p0 = some y) : CallsK Go.Proofs.Try.prog 72 (valA [(.pair .bool (.pair (.int .u16) (.pair (.sl (.pair (.int .u8) (.sl (.int .u8)))) (.sl (.int .u8)))))] (p0, ())) (tupV (valR [(.pair (.int .u8) (.pair (.arr 32 (.int .u8)) (.pair (.arr 32 (.int .u8)) (.arr 32 (.int .u8))))), (.int .i64)] y)) := runK_ok hmx (Ev170_ok N _) (okFn_ok (by kernel_rfl)) (by rw [bind_binding_S]; exact h)
noncomputable def Ev171 (N : Nat) : (R : Type) → Env R := Env.addFn (Ev170 N) 72 (fun R => fnK [(.pair .bool (.pair (.int .u16) (.pair (.sl (.pair (.int .u8) (.sl (.int .u8)))) (.sl (.int .u8)))))] [(.pair (.int .u8) (.pair (.arr 32 (.int .u8)) (.pair (.arr 32 (.int .u8)) (.arr 32 (.int .u8))))), (.int .i64)] (fun c => bind_binding N c.1))
theorem Ev171_ok (N : Nat) (R : Type) : EnvOK Go.Proofs.Try.prog (Ev171 N R) := EnvOK.addFn hmx (Ev170_ok N R) (Ev170_ok N _) (by kernel_rfl) (fun c => bind_binding_S N c.1)
noncomputable def Ev172 (N : Nat) : (R : Type) → Env R := Env.addBx (Ev171 N) [(34, 0)]
theorem Ev172_ok (N : Nat) (R : Type) : EnvOK Go.Proofs.Try.prog (Ev172 N R) := EnvOK.addBx (Ev171_ok N R) [(34, 0)]
noncomputable def bind_Connected (N : Nat) (upper0 : Arr (Int) 32) (nonce1 : Arr (Int) 32) (hash2 : Arr (Int) 32) : Option ((Bool) × ((Int) × ((List ((Int) × (List (Int)))) × (List (Int))))) :=
 Option.bind (@bind_seal N ((2 : Int), (nonce1, (hash2, (@Arr.cons Int (31 : Nat) (0 : Int) (@Arr.cons Int (30 : Nat) (0 : Int) (@Arr.cons Int (29 : Nat) (0 : Int) (@Arr.cons Int (28 : Nat) (0 : Int) (@Arr.cons Int (27 : Nat) (0 : Int) (@Arr.cons Int (26 : Nat) (0 : Int) (@Arr.cons Int (25 : Nat) (0 : Int) (@Arr.cons Int (24 : Nat) (0 : Int) (@Arr.cons Int (23 : Nat) (0 : Int) (@Arr.cons Int (22 : Nat) (0 : Int) (@Arr.cons Int (21 : Nat) (0 : Int) (@Arr.cons Int (20 : Nat) (0 : Int) (@Arr.cons Int (19 : Nat) (0 : Int) (@Arr.cons Int (18 : Nat) (0 : Int) (@Arr.cons Int (17 : Nat) (0 : Int) (@Arr.cons Int (16 : Nat) (0 : Int) (@Arr.cons Int (15 : Nat) (0 : Int) (@Arr.cons Int (14 : Nat) (0 : Int) (@Arr.cons Int (13 : Nat) (0 : Int) (@Arr.cons Int (12 : Nat) (0 : Int) (@Arr.cons Int (11 : Nat) (0 : Int) (@Arr.cons Int (10 : Nat) (0 : Int) (@Arr.cons Int (9 : Nat) (0 : Int) (@Arr.cons Int (8 : Nat) (0 : Int) (@Arr.cons Int (7 : Nat) (0 : Int) (@Arr.cons Int (6 : Nat) (0 : Int) (@Arr.cons Int (5 : Nat) (0 : Int) (@Arr.cons Int (4 : Nat) (0 : Int) (@Arr.cons Int (3 : Nat) (0 : Int) (@Arr.cons Int (2 : Nat) (0 : Int) (@Arr.cons Int (1 : Nat) (0 : Int) (@Arr.cons Int (0 : Nat) (0 : Int) (@Arr.nil Int)))))))))))))))))))))))))))))))))))) upper0) fun (v4 : (Arr Int 32)) =>
 Option.bind (@bind_of N ((2 : Int), (nonce1, (hash2, v4)))) fun (v5 : (Bool × (Int × ((List (Int × (List Int))) × (List Int))))) =>
 some ((v5.1, (v5.2.1, (v5.2.2.1, v5.2.2.2))))
theorem bind_Connected_S (N : Nat) (upper0 : Arr (Int) 32) (nonce1 : Arr (Int) 32) (hash2 : Arr (Int) 32) : (runK Go.Proofs.Try.prog (Ev172 N) 400 34 [(.arr 32 (.int .u8)), (.arr 32 (.int .u8)), (.arr 32 (.int .u8))] [(.pair .bool (.pair (.int .u16) (.pair (.sl (.pair (.int .u8) (.sl (.int .u8)))) (.sl (.int .u8)))))] (upper0, nonce1, hash2, ())).run = bind_Connected N upper0 nonce1 hash2 := by kernel_rfl
theorem bind_Connected_C (N : Nat) (upper0 : Arr (Int) 32) (nonce1 : Arr (Int) 32) (hash2 : Arr (Int) 32) (y : (Bool) × ((Int) × ((List ((Int) × (List (Int)))) × (List (Int))))) (h : bind_Connected N upper0 nonce1 hash2 = some y) : CallsK Go.Proofs.Try.prog 34 (valA [(.arr 32 (.int .u8)), (.arr 32 (.int .u8)), (.arr 32 (.int .u8))] (upper0, nonce1, hash2, ())) (tupV (valR [(.pair .bool (.pair (.int .u16) (.pair (.sl (.pair (.int .u8) (.sl (.int .u8)))) (.sl (.int .u8)))))] y)) := runK_ok hmx (Ev172_ok N _) (okFn_ok (by kernel_rfl)) (by rw [bind_Connected_S]; exact h)
noncomputable def Ev173 (N : Nat) : (R : Type) → Env R := Env.addFn (Ev172 N) 34 (fun R => fnK [(.arr 32 (.int .u8)), (.arr 32 (.int .u8)), (.arr 32 (.int .u8))] [(.pair .bool (.pair (.int .u16) (.pair (.sl (.pair (.int .u8) (.sl (.int .u8)))) (.sl (.int .u8)))))] (fun c => bind_Connected N c.1 c.2.1 c.2.2.1))
theorem Ev173_ok (N : Nat) (R : Type) : EnvOK Go.Proofs.Try.prog (Ev173 N R) := EnvOK.addFn hmx (Ev172_ok N R) (Ev172_ok N _) (by kernel_rfl) (fun c => bind_Connected_S N c.1 c.2.1 c.2.2.1)
noncomputable def Ev174 (N : Nat) : (R : Type) → Env R := Env.addBx (Ev173 N) [(41, 0)]
theorem Ev174_ok (N : Nat) (R : Type) : EnvOK Go.Proofs.Try.prog (Ev174 N R) := EnvOK.addBx (Ev173_ok N R) [(41, 0)]
noncomputable def bind_Bare (N : Nat) (p0 : (Bool) × ((Int) × ((List ((Int) × (List (Int)))) × (List (Int))))) : Option (((Bool) × ((Int) × ((List ((Int) × (List (Int)))) × (List (Int))))) × Int) :=
 Option.bind (@bind_binding N (p0.1, (p0.2.1, (p0.2.2.1, p0.2.2.2)))) fun (v2 : ((Int × ((Arr Int 32) × ((Arr Int 32) × (Arr Int 32)))) × Int)) =>
 bif (!(decide (v2.2 = (0 : Int)))) then
  some (((@Bool.false, ((0 : Int), (([] : List ((Int × (List Int)))), ([] : List (Int))))), v2.2))
 else
  Option.bind (@bind_of N (v2.1.1, (v2.1.2.1, (v2.1.2.2.1, (@Arr.cons Int (31 : Nat) (0 : Int) (@Arr.cons Int (30 : Nat) (0 : Int) (@Arr.cons Int (29 : Nat) (0 : Int) (@Arr.cons Int (28 : Nat) (0 : Int) (@Arr.cons Int (27 : Nat) (0 : Int) (@Arr.cons Int (26 : Nat) (0 : Int) (@Arr.cons Int (25 : Nat) (0 : Int) (@Arr.cons Int (24 : Nat) (0 : Int) (@Arr.cons Int (23 : Nat) (0 : Int) (@Arr.cons Int (22 : Nat) (0 : Int) (@Arr.cons Int (21 : Nat) (0 : Int) (@Arr.cons Int (20 : Nat) (0 : Int) (@Arr.cons Int (19 : Nat) (0 : Int) (@Arr.cons Int (18 : Nat) (0 : Int) (@Arr.cons Int (17 : Nat) (0 : Int) (@Arr.cons Int (16 : Nat) (0 : Int) (@Arr.cons Int (15 : Nat) (0 : Int) (@Arr.cons Int (14 : Nat) (0 : Int) (@Arr.cons Int (13 : Nat) (0 : Int) (@Arr.cons Int (12 : Nat) (0 : Int) (@Arr.cons Int (11 : Nat) (0 : Int) (@Arr.cons Int (10 : Nat) (0 : Int) (@Arr.cons Int (9 : Nat) (0 : Int) (@Arr.cons Int (8 : Nat) (0 : Int) (@Arr.cons Int (7 : Nat) (0 : Int) (@Arr.cons Int (6 : Nat) (0 : Int) (@Arr.cons Int (5 : Nat) (0 : Int) (@Arr.cons Int (4 : Nat) (0 : Int) (@Arr.cons Int (3 : Nat) (0 : Int) (@Arr.cons Int (2 : Nat) (0 : Int) (@Arr.cons Int (1 : Nat) (0 : Int) (@Arr.cons Int (0 : Nat) (0 : Int) (@Arr.nil Int))))))))))))))))))))))))))))))))))))) fun (v3 : (Bool × (Int × ((List (Int × (List Int))) × (List Int))))) =>
  some (((v3.1, (v3.2.1, (v3.2.2.1, v3.2.2.2))), (0 : Int)))
theorem bind_Bare_S (N : Nat) (p0 : (Bool) × ((Int) × ((List ((Int) × (List (Int)))) × (List (Int))))) : (runK Go.Proofs.Try.prog (Ev174 N) 400 41 [(.pair .bool (.pair (.int .u16) (.pair (.sl (.pair (.int .u8) (.sl (.int .u8)))) (.sl (.int .u8)))))] [(.pair .bool (.pair (.int .u16) (.pair (.sl (.pair (.int .u8) (.sl (.int .u8)))) (.sl (.int .u8))))), (.int .i64)] (p0, ())).run = bind_Bare N p0 := by kernel_rfl
theorem bind_Bare_C (N : Nat) (p0 : (Bool) × ((Int) × ((List ((Int) × (List (Int)))) × (List (Int))))) (y : ((Bool) × ((Int) × ((List ((Int) × (List (Int)))) × (List (Int))))) × Int) (h : bind_Bare N p0 = some y) : CallsK Go.Proofs.Try.prog 41 (valA [(.pair .bool (.pair (.int .u16) (.pair (.sl (.pair (.int .u8) (.sl (.int .u8)))) (.sl (.int .u8)))))] (p0, ())) (tupV (valR [(.pair .bool (.pair (.int .u16) (.pair (.sl (.pair (.int .u8) (.sl (.int .u8)))) (.sl (.int .u8))))), (.int .i64)] y)) := runK_ok hmx (Ev174_ok N _) (okFn_ok (by kernel_rfl)) (by rw [bind_Bare_S]; exact h)
noncomputable def Ev175 (N : Nat) : (R : Type) → Env R := Env.addFn (Ev174 N) 41 (fun R => fnK [(.pair .bool (.pair (.int .u16) (.pair (.sl (.pair (.int .u8) (.sl (.int .u8)))) (.sl (.int .u8)))))] [(.pair .bool (.pair (.int .u16) (.pair (.sl (.pair (.int .u8) (.sl (.int .u8)))) (.sl (.int .u8))))), (.int .i64)] (fun c => bind_Bare N c.1))
theorem Ev175_ok (N : Nat) (R : Type) : EnvOK Go.Proofs.Try.prog (Ev175 N R) := EnvOK.addFn hmx (Ev174_ok N R) (Ev174_ok N _) (by kernel_rfl) (fun c => bind_Bare_S N c.1)
noncomputable def Ev176 (N : Nat) : (R : Type) → Env R := Env.addBx (Ev175 N) [(42, 0)]
theorem Ev176_ok (N : Nat) (R : Type) : EnvOK Go.Proofs.Try.prog (Ev176 N R) := EnvOK.addBx (Ev175_ok N R) [(42, 0)]
noncomputable def bind_Seal (N : Nat) (p0 : (Bool) × ((Int) × ((List ((Int) × (List (Int)))) × (List (Int))))) (upper1 : Arr (Int) 32) : Option ((Arr (Int) 32) × Int) :=
 Option.bind (@bind_binding N (p0.1, (p0.2.1, (p0.2.2.1, p0.2.2.2)))) fun (v3 : ((Int × ((Arr Int 32) × ((Arr Int 32) × (Arr Int 32)))) × Int)) =>
 bif (!(decide (v3.2 = (0 : Int)))) then
  some (((@Arr.cons Int (31 : Nat) (0 : Int) (@Arr.cons Int (30 : Nat) (0 : Int) (@Arr.cons Int (29 : Nat) (0 : Int) (@Arr.cons Int (28 : Nat) (0 : Int) (@Arr.cons Int (27 : Nat) (0 : Int) (@Arr.cons Int (26 : Nat) (0 : Int) (@Arr.cons Int (25 : Nat) (0 : Int) (@Arr.cons Int (24 : Nat) (0 : Int) (@Arr.cons Int (23 : Nat) (0 : Int) (@Arr.cons Int (22 : Nat) (0 : Int) (@Arr.cons Int (21 : Nat) (0 : Int) (@Arr.cons Int (20 : Nat) (0 : Int) (@Arr.cons Int (19 : Nat) (0 : Int) (@Arr.cons Int (18 : Nat) (0 : Int) (@Arr.cons Int (17 : Nat) (0 : Int) (@Arr.cons Int (16 : Nat) (0 : Int) (@Arr.cons Int (15 : Nat) (0 : Int) (@Arr.cons Int (14 : Nat) (0 : Int) (@Arr.cons Int (13 : Nat) (0 : Int) (@Arr.cons Int (12 : Nat) (0 : Int) (@Arr.cons Int (11 : Nat) (0 : Int) (@Arr.cons Int (10 : Nat) (0 : Int) (@Arr.cons Int (9 : Nat) (0 : Int) (@Arr.cons Int (8 : Nat) (0 : Int) (@Arr.cons Int (7 : Nat) (0 : Int) (@Arr.cons Int (6 : Nat) (0 : Int) (@Arr.cons Int (5 : Nat) (0 : Int) (@Arr.cons Int (4 : Nat) (0 : Int) (@Arr.cons Int (3 : Nat) (0 : Int) (@Arr.cons Int (2 : Nat) (0 : Int) (@Arr.cons Int (1 : Nat) (0 : Int) (@Arr.cons Int (0 : Nat) (0 : Int) (@Arr.nil Int))))))))))))))))))))))))))))))))), v3.2))
 else
  Option.bind (@bind_seal N (v3.1.1, (v3.1.2.1, (v3.1.2.2.1, v3.1.2.2.2))) upper1) fun (v4 : (Arr Int 32)) =>
  some ((v4, (0 : Int)))
theorem bind_Seal_S (N : Nat) (p0 : (Bool) × ((Int) × ((List ((Int) × (List (Int)))) × (List (Int))))) (upper1 : Arr (Int) 32) : (runK Go.Proofs.Try.prog (Ev176 N) 400 42 [(.pair .bool (.pair (.int .u16) (.pair (.sl (.pair (.int .u8) (.sl (.int .u8)))) (.sl (.int .u8))))), (.arr 32 (.int .u8))] [(.arr 32 (.int .u8)), (.int .i64)] (p0, upper1, ())).run = bind_Seal N p0 upper1 := by kernel_rfl
theorem bind_Seal_C (N : Nat) (p0 : (Bool) × ((Int) × ((List ((Int) × (List (Int)))) × (List (Int))))) (upper1 : Arr (Int) 32) (y : (Arr (Int) 32) × Int) (h : bind_Seal N p0 upper1 = some y) : CallsK Go.Proofs.Try.prog 42 (valA [(.pair .bool (.pair (.int .u16) (.pair (.sl (.pair (.int .u8) (.sl (.int .u8)))) (.sl (.int .u8))))), (.arr 32 (.int .u8))] (p0, upper1, ())) (tupV (valR [(.arr 32 (.int .u8)), (.int .i64)] y)) := runK_ok hmx (Ev176_ok N _) (okFn_ok (by kernel_rfl)) (by rw [bind_Seal_S]; exact h)
noncomputable def Ev177 (N : Nat) : (R : Type) → Env R := Env.addFn (Ev176 N) 42 (fun R => fnK [(.pair .bool (.pair (.int .u16) (.pair (.sl (.pair (.int .u8) (.sl (.int .u8)))) (.sl (.int .u8))))), (.arr 32 (.int .u8))] [(.arr 32 (.int .u8)), (.int .i64)] (fun c => bind_Seal N c.1 c.2.1))
theorem Ev177_ok (N : Nat) (R : Type) : EnvOK Go.Proofs.Try.prog (Ev177 N R) := EnvOK.addFn hmx (Ev176_ok N R) (Ev176_ok N _) (by kernel_rfl) (fun c => bind_Seal_S N c.1 c.2.1)
noncomputable def Ev178 (N : Nat) : (R : Type) → Env R := Env.addBx (Ev177 N) [(40, 0)]
theorem Ev178_ok (N : Nat) (R : Type) : EnvOK Go.Proofs.Try.prog (Ev178 N R) := EnvOK.addBx (Ev177_ok N R) [(40, 0)]
noncomputable def bind_Check (N : Nat) (p0 : (Bool) × ((Int) × ((List ((Int) × (List (Int)))) × (List (Int))))) (upper1 : Arr (Int) 32) (nonce2 : Arr (Int) 32) (hash3 : Arr (Int) 32) : Option (Int) :=
 Option.bind (@bind_binding N (p0.1, (p0.2.1, (p0.2.2.1, p0.2.2.2)))) fun (v5 : ((Int × ((Arr Int 32) × ((Arr Int 32) × (Arr Int 32)))) × Int)) =>
 bif (!(decide (v5.2 = (0 : Int)))) then
  some (v5.2)
 else
  Option.bind (@bind_seal N (v5.1.1, (v5.1.2.1, (v5.1.2.2.1, v5.1.2.2.2))) upper1) fun (v6 : (Arr Int 32)) =>
  bif (!(decide (v5.1.1 = (2 : Int)))) then
   some ((1 : Int))
  else
   bif ((@wfB (@Td.arr (32 : Nat) (@Td.int @Go.IntKind.u8)) v5.1.2.1) && (@wfB (@Td.arr (32 : Nat) (@Td.int @Go.IntKind.u8)) nonce2)) then
    bif (!(@Decidable.decide (@Eq (Arr Int 32) v5.1.2.1 nonce2) (@decT (@Td.arr (32 : Nat) (@Td.int @Go.IntKind.u8)) v5.1.2.1 nonce2))) then
     some ((10 : Int))
    else
     bif ((@wfB (@Td.arr (32 : Nat) (@Td.int @Go.IntKind.u8)) v5.1.2.2.1) && (@wfB (@Td.arr (32 : Nat) (@Td.int @Go.IntKind.u8)) hash3)) then
      bif (!(@Decidable.decide (@Eq (Arr Int 32) v5.1.2.2.1 hash3) (@decT (@Td.arr (32 : Nat) (@Td.int @Go.IntKind.u8)) v5.1.2.2.1 hash3))) then
       some ((14 : Int))
      else
       Option.bind (@octs_Same N v5.1.2.2.2.l v6.l) fun (v7 : Bool) =>
       bif (@cond Bool @Bool.false @Bool.true (!v7)) then
        some ((14 : Int))
       else
        some ((0 : Int))
     else
      none
   else
    none
theorem bind_Check_S (N : Nat) (p0 : (Bool) × ((Int) × ((List ((Int) × (List (Int)))) × (List (Int))))) (upper1 : Arr (Int) 32) (nonce2 : Arr (Int) 32) (hash3 : Arr (Int) 32) : (runK Go.Proofs.Try.prog (Ev178 N) 400 40 [(.pair .bool (.pair (.int .u16) (.pair (.sl (.pair (.int .u8) (.sl (.int .u8)))) (.sl (.int .u8))))), (.arr 32 (.int .u8)), (.arr 32 (.int .u8)), (.arr 32 (.int .u8))] [(.int .i64)] (p0, upper1, nonce2, hash3, ())).run = bind_Check N p0 upper1 nonce2 hash3 := by kernel_rfl
theorem bind_Check_C (N : Nat) (p0 : (Bool) × ((Int) × ((List ((Int) × (List (Int)))) × (List (Int))))) (upper1 : Arr (Int) 32) (nonce2 : Arr (Int) 32) (hash3 : Arr (Int) 32) (y : Int) (h : bind_Check N p0 upper1 nonce2 hash3 = some y) : CallsK Go.Proofs.Try.prog 40 (valA [(.pair .bool (.pair (.int .u16) (.pair (.sl (.pair (.int .u8) (.sl (.int .u8)))) (.sl (.int .u8))))), (.arr 32 (.int .u8)), (.arr 32 (.int .u8)), (.arr 32 (.int .u8))] (p0, upper1, nonce2, hash3, ())) (tupV (valR [(.int .i64)] y)) := runK_ok hmx (Ev178_ok N _) (okFn_ok (by kernel_rfl)) (by rw [bind_Check_S]; exact h)
noncomputable def Ev179 (N : Nat) : (R : Type) → Env R := Env.addFn (Ev178 N) 40 (fun R => fnK [(.pair .bool (.pair (.int .u16) (.pair (.sl (.pair (.int .u8) (.sl (.int .u8)))) (.sl (.int .u8))))), (.arr 32 (.int .u8)), (.arr 32 (.int .u8)), (.arr 32 (.int .u8))] [(.int .i64)] (fun c => bind_Check N c.1 c.2.1 c.2.2.1 c.2.2.2.1))
theorem Ev179_ok (N : Nat) (R : Type) : EnvOK Go.Proofs.Try.prog (Ev179 N R) := EnvOK.addFn hmx (Ev178_ok N R) (Ev178_ok N _) (by kernel_rfl) (fun c => bind_Check_S N c.1 c.2.1 c.2.2.1 c.2.2.2.1)
noncomputable def Ev180 (N : Nat) : (R : Type) → Env R := Env.addBx (Ev179 N) [(37, 0)]
theorem Ev180_ok (N : Nat) (R : Type) : EnvOK Go.Proofs.Try.prog (Ev180 N R) := EnvOK.addBx (Ev179_ok N R) [(37, 0)]
noncomputable def bind_Ask (N : Nat) (nonce0 : Arr (Int) 32) : Option ((Bool) × ((Int) × ((List ((Int) × (List (Int)))) × (List (Int))))) :=
 Option.bind (@attr_OfAsk N ((2 : Int), nonce0)) fun (v2 : (Int × (List Int))) =>
 Option.bind (@packet_Of N (2 : Int) ([(v2.1, v2.2)] : List ((Int × (List Int))))) fun (v3 : (Bool × (Int × ((List (Int × (List Int))) × (List Int))))) =>
 some ((v3.1, (v3.2.1, (v3.2.2.1, v3.2.2.2))))
theorem bind_Ask_S (N : Nat) (nonce0 : Arr (Int) 32) : (runK Go.Proofs.Try.prog (Ev180 N) 400 37 [(.arr 32 (.int .u8))] [(.pair .bool (.pair (.int .u16) (.pair (.sl (.pair (.int .u8) (.sl (.int .u8)))) (.sl (.int .u8)))))] (nonce0, ())).run = bind_Ask N nonce0 := by kernel_rfl
theorem bind_Ask_C (N : Nat) (nonce0 : Arr (Int) 32) (y : (Bool) × ((Int) × ((List ((Int) × (List (Int)))) × (List (Int))))) (h : bind_Ask N nonce0 = some y) : CallsK Go.Proofs.Try.prog 37 (valA [(.arr 32 (.int .u8))] (nonce0, ())) (tupV (valR [(.pair .bool (.pair (.int .u16) (.pair (.sl (.pair (.int .u8) (.sl (.int .u8)))) (.sl (.int .u8)))))] y)) := runK_ok hmx (Ev180_ok N _) (okFn_ok (by kernel_rfl)) (by rw [bind_Ask_S]; exact h)
noncomputable def Ev181 (N : Nat) : (R : Type) → Env R := Env.addFn (Ev180 N) 37 (fun R => fnK [(.arr 32 (.int .u8))] [(.pair .bool (.pair (.int .u16) (.pair (.sl (.pair (.int .u8) (.sl (.int .u8)))) (.sl (.int .u8)))))] (fun c => bind_Ask N c.1))
theorem Ev181_ok (N : Nat) (R : Type) : EnvOK Go.Proofs.Try.prog (Ev181 N R) := EnvOK.addFn hmx (Ev180_ok N R) (Ev180_ok N _) (by kernel_rfl) (fun c => bind_Ask_S N c.1)
noncomputable def Ev182 (N : Nat) : (R : Type) → Env R := Env.addBx (Ev181 N) [(71, 0)]
theorem Ev182_ok (N : Nat) (R : Type) : EnvOK Go.Proofs.Try.prog (Ev182 N R) := EnvOK.addBx (Ev181_ok N R) [(71, 0)]
noncomputable def bind_Asked (N : Nat) (p0 : (Bool) × ((Int) × ((List ((Int) × (List (Int)))) × (List (Int))))) : Option ((Arr (Int) 32) × Int) :=
 Option.bind (@packet_Check N (p0.1, (p0.2.1, (p0.2.2.1, p0.2.2.2)))) fun (v2 : Int) =>
 bif (!(decide (v2 = (0 : Int)))) then
  some (((@Arr.cons Int (31 : Nat) (0 : Int) (@Arr.cons Int (30 : Nat) (0 : Int) (@Arr.cons Int (29 : Nat) (0 : Int) (@Arr.cons Int (28 : Nat) (0 : Int) (@Arr.cons Int (27 : Nat) (0 : Int) (@Arr.cons Int (26 : Nat) (0 : Int) (@Arr.cons Int (25 : Nat) (0 : Int) (@Arr.cons Int (24 : Nat) (0 : Int) (@Arr.cons Int (23 : Nat) (0 : Int) (@Arr.cons Int (22 : Nat) (0 : Int) (@Arr.cons Int (21 : Nat) (0 : Int) (@Arr.cons Int (20 : Nat) (0 : Int) (@Arr.cons Int (19 : Nat) (0 : Int) (@Arr.cons Int (18 : Nat) (0 : Int) (@Arr.cons Int (17 : Nat) (0 : Int) (@Arr.cons Int (16 : Nat) (0 : Int) (@Arr.cons Int (15 : Nat) (0 : Int) (@Arr.cons Int (14 : Nat) (0 : Int) (@Arr.cons Int (13 : Nat) (0 : Int) (@Arr.cons Int (12 : Nat) (0 : Int) (@Arr.cons Int (11 : Nat) (0 : Int) (@Arr.cons Int (10 : Nat) (0 : Int) (@Arr.cons Int (9 : Nat) (0 : Int) (@Arr.cons Int (8 : Nat) (0 : Int) (@Arr.cons Int (7 : Nat) (0 : Int) (@Arr.cons Int (6 : Nat) (0 : Int) (@Arr.cons Int (5 : Nat) (0 : Int) (@Arr.cons Int (4 : Nat) (0 : Int) (@Arr.cons Int (3 : Nat) (0 : Int) (@Arr.cons Int (2 : Nat) (0 : Int) (@Arr.cons Int (1 : Nat) (0 : Int) (@Arr.cons Int (0 : Nat) (0 : Int) (@Arr.nil Int))))))))))))))))))))))))))))))))), v2))
 else
  bif (!p0.1) then
   some (((@Arr.cons Int (31 : Nat) (0 : Int) (@Arr.cons Int (30 : Nat) (0 : Int) (@Arr.cons Int (29 : Nat) (0 : Int) (@Arr.cons Int (28 : Nat) (0 : Int) (@Arr.cons Int (27 : Nat) (0 : Int) (@Arr.cons Int (26 : Nat) (0 : Int) (@Arr.cons Int (25 : Nat) (0 : Int) (@Arr.cons Int (24 : Nat) (0 : Int) (@Arr.cons Int (23 : Nat) (0 : Int) (@Arr.cons Int (22 : Nat) (0 : Int) (@Arr.cons Int (21 : Nat) (0 : Int) (@Arr.cons Int (20 : Nat) (0 : Int) (@Arr.cons Int (19 : Nat) (0 : Int) (@Arr.cons Int (18 : Nat) (0 : Int) (@Arr.cons Int (17 : Nat) (0 : Int) (@Arr.cons Int (16 : Nat) (0 : Int) (@Arr.cons Int (15 : Nat) (0 : Int) (@Arr.cons Int (14 : Nat) (0 : Int) (@Arr.cons Int (13 : Nat) (0 : Int) (@Arr.cons Int (12 : Nat) (0 : Int) (@Arr.cons Int (11 : Nat) (0 : Int) (@Arr.cons Int (10 : Nat) (0 : Int) (@Arr.cons Int (9 : Nat) (0 : Int) (@Arr.cons Int (8 : Nat) (0 : Int) (@Arr.cons Int (7 : Nat) (0 : Int) (@Arr.cons Int (6 : Nat) (0 : Int) (@Arr.cons Int (5 : Nat) (0 : Int) (@Arr.cons Int (4 : Nat) (0 : Int) (@Arr.cons Int (3 : Nat) (0 : Int) (@Arr.cons Int (2 : Nat) (0 : Int) (@Arr.cons Int (1 : Nat) (0 : Int) (@Arr.cons Int (0 : Nat) (0 : Int) (@Arr.nil Int))))))))))))))))))))))))))))))))), (1 : Int)))
  else
   bif (@cond Bool @Bool.false @Bool.true (!(decide (p0.2.1 = (2 : Int))))) then
    some (((@Arr.cons Int (31 : Nat) (0 : Int) (@Arr.cons Int (30 : Nat) (0 : Int) (@Arr.cons Int (29 : Nat) (0 : Int) (@Arr.cons Int (28 : Nat) (0 : Int) (@Arr.cons Int (27 : Nat) (0 : Int) (@Arr.cons Int (26 : Nat) (0 : Int) (@Arr.cons Int (25 : Nat) (0 : Int) (@Arr.cons Int (24 : Nat) (0 : Int) (@Arr.cons Int (23 : Nat) (0 : Int) (@Arr.cons Int (22 : Nat) (0 : Int) (@Arr.cons Int (21 : Nat) (0 : Int) (@Arr.cons Int (20 : Nat) (0 : Int) (@Arr.cons Int (19 : Nat) (0 : Int) (@Arr.cons Int (18 : Nat) (0 : Int) (@Arr.cons Int (17 : Nat) (0 : Int) (@Arr.cons Int (16 : Nat) (0 : Int) (@Arr.cons Int (15 : Nat) (0 : Int) (@Arr.cons Int (14 : Nat) (0 : Int) (@Arr.cons Int (13 : Nat) (0 : Int) (@Arr.cons Int (12 : Nat) (0 : Int) (@Arr.cons Int (11 : Nat) (0 : Int) (@Arr.cons Int (10 : Nat) (0 : Int) (@Arr.cons Int (9 : Nat) (0 : Int) (@Arr.cons Int (8 : Nat) (0 : Int) (@Arr.cons Int (7 : Nat) (0 : Int) (@Arr.cons Int (6 : Nat) (0 : Int) (@Arr.cons Int (5 : Nat) (0 : Int) (@Arr.cons Int (4 : Nat) (0 : Int) (@Arr.cons Int (3 : Nat) (0 : Int) (@Arr.cons Int (2 : Nat) (0 : Int) (@Arr.cons Int (1 : Nat) (0 : Int) (@Arr.cons Int (0 : Nat) (0 : Int) (@Arr.nil Int))))))))))))))))))))))))))))))))), (1 : Int)))
   else
    Option.bind (getI p0.2.2.1 (0 : Int)) fun (v3 : (Int × (List Int))) =>
    Option.bind (@attr_ToAsk N (v3.1, v3.2)) fun (v4 : ((Int × (Arr Int 32)) × Int)) =>
    bif (!(decide (v4.2 = (0 : Int)))) then
     some (((@Arr.cons Int (31 : Nat) (0 : Int) (@Arr.cons Int (30 : Nat) (0 : Int) (@Arr.cons Int (29 : Nat) (0 : Int) (@Arr.cons Int (28 : Nat) (0 : Int) (@Arr.cons Int (27 : Nat) (0 : Int) (@Arr.cons Int (26 : Nat) (0 : Int) (@Arr.cons Int (25 : Nat) (0 : Int) (@Arr.cons Int (24 : Nat) (0 : Int) (@Arr.cons Int (23 : Nat) (0 : Int) (@Arr.cons Int (22 : Nat) (0 : Int) (@Arr.cons Int (21 : Nat) (0 : Int) (@Arr.cons Int (20 : Nat) (0 : Int) (@Arr.cons Int (19 : Nat) (0 : Int) (@Arr.cons Int (18 : Nat) (0 : Int) (@Arr.cons Int (17 : Nat) (0 : Int) (@Arr.cons Int (16 : Nat) (0 : Int) (@Arr.cons Int (15 : Nat) (0 : Int) (@Arr.cons Int (14 : Nat) (0 : Int) (@Arr.cons Int (13 : Nat) (0 : Int) (@Arr.cons Int (12 : Nat) (0 : Int) (@Arr.cons Int (11 : Nat) (0 : Int) (@Arr.cons Int (10 : Nat) (0 : Int) (@Arr.cons Int (9 : Nat) (0 : Int) (@Arr.cons Int (8 : Nat) (0 : Int) (@Arr.cons Int (7 : Nat) (0 : Int) (@Arr.cons Int (6 : Nat) (0 : Int) (@Arr.cons Int (5 : Nat) (0 : Int) (@Arr.cons Int (4 : Nat) (0 : Int) (@Arr.cons Int (3 : Nat) (0 : Int) (@Arr.cons Int (2 : Nat) (0 : Int) (@Arr.cons Int (1 : Nat) (0 : Int) (@Arr.cons Int (0 : Nat) (0 : Int) (@Arr.nil Int))))))))))))))))))))))))))))))))), (1 : Int)))
    else
     bif (@cond Bool @Bool.false @Bool.true (decide ((@Go.bits @Go.BinOp.and @Go.IntKind.u8 v4.1.1 (2 : Int)) = (0 : Int)))) then
      some (((@Arr.cons Int (31 : Nat) (0 : Int) (@Arr.cons Int (30 : Nat) (0 : Int) (@Arr.cons Int (29 : Nat) (0 : Int) (@Arr.cons Int (28 : Nat) (0 : Int) (@Arr.cons Int (27 : Nat) (0 : Int) (@Arr.cons Int (26 : Nat) (0 : Int) (@Arr.cons Int (25 : Nat) (0 : Int) (@Arr.cons Int (24 : Nat) (0 : Int) (@Arr.cons Int (23 : Nat) (0 : Int) (@Arr.cons Int (22 : Nat) (0 : Int) (@Arr.cons Int (21 : Nat) (0 : Int) (@Arr.cons Int (20 : Nat) (0 : Int) (@Arr.cons Int (19 : Nat) (0 : Int) (@Arr.cons Int (18 : Nat) (0 : Int) (@Arr.cons Int (17 : Nat) (0 : Int) (@Arr.cons Int (16 : Nat) (0 : Int) (@Arr.cons Int (15 : Nat) (0 : Int) (@Arr.cons Int (14 : Nat) (0 : Int) (@Arr.cons Int (13 : Nat) (0 : Int) (@Arr.cons Int (12 : Nat) (0 : Int) (@Arr.cons Int (11 : Nat) (0 : Int) (@Arr.cons Int (10 : Nat) (0 : Int) (@Arr.cons Int (9 : Nat) (0 : Int) (@Arr.cons Int (8 : Nat) (0 : Int) (@Arr.cons Int (7 : Nat) (0 : Int) (@Arr.cons Int (6 : Nat) (0 : Int) (@Arr.cons Int (5 : Nat) (0 : Int) (@Arr.cons Int (4 : Nat) (0 : Int) (@Arr.cons Int (3 : Nat) (0 : Int) (@Arr.cons Int (2 : Nat) (0 : Int) (@Arr.cons Int (1 : Nat) (0 : Int) (@Arr.cons Int (0 : Nat) (0 : Int) (@Arr.nil Int))))))))))))))))))))))))))))))))), (1 : Int)))
     else
      some ((v4.1.2, (0 : Int)))
theorem bind_Asked_S (N : Nat) (p0 : (Bool) × ((Int) × ((List ((Int) × (List (Int)))) × (List (Int))))) : (runK Go.Proofs.Try.prog (Ev182 N) 400 71 [(.pair .bool (.pair (.int .u16) (.pair (.sl (.pair (.int .u8) (.sl (.int .u8)))) (.sl (.int .u8)))))] [(.arr 32 (.int .u8)), (.int .i64)] (p0, ())).run = bind_Asked N p0 := by kernel_rfl
theorem bind_Asked_C (N : Nat) (p0 : (Bool) × ((Int) × ((List ((Int) × (List (Int)))) × (List (Int))))) (y : (Arr (Int) 32) × Int) (h : bind_Asked N p0 = some y) : CallsK Go.Proofs.Try.prog 71 (valA [(.pair .bool (.pair (.int .u16) (.pair (.sl (.pair (.int .u8) (.sl (.int .u8)))) (.sl (.int .u8)))))] (p0, ())) (tupV (valR [(.arr 32 (.int .u8)), (.int .i64)] y)) := runK_ok hmx (Ev182_ok N _) (okFn_ok (by kernel_rfl)) (by rw [bind_Asked_S]; exact h)
noncomputable def Ev183 (N : Nat) : (R : Type) → Env R := Env.addFn (Ev182 N) 71 (fun R => fnK [(.pair .bool (.pair (.int .u16) (.pair (.sl (.pair (.int .u8) (.sl (.int .u8)))) (.sl (.int .u8)))))] [(.arr 32 (.int .u8)), (.int .i64)] (fun c => bind_Asked N c.1))
theorem Ev183_ok (N : Nat) (R : Type) : EnvOK Go.Proofs.Try.prog (Ev183 N R) := EnvOK.addFn hmx (Ev182_ok N R) (Ev182_ok N _) (by kernel_rfl) (fun c => bind_Asked_S N c.1)
noncomputable def Ev184 (N : Nat) : (R : Type) → Env R := Env.addBx (Ev183 N) [(67, 0)]
theorem Ev184_ok (N : Nat) (R : Type) : EnvOK Go.Proofs.Try.prog (Ev184 N R) := EnvOK.addBx (Ev183_ok N R) [(67, 0)]
noncomputable def ref34_packet (N : Nat) (method0 : Int) (nonce1 : Arr (Int) 32) (hash2 : Arr (Int) 32) (x3 : Arr (Int) 32) : Option ((Bool) × ((Int) × ((List ((Int) × (List (Int)))) × (List (Int))))) :=
 Option.bind (@ref17_Binding N method0 nonce1 hash2 x3) fun (v5 : (Int × (List Int))) =>
 some ((@Bool.true, ((4 : Int), (([(v5.1, v5.2)] : List ((Int × (List Int)))), ([] : List (Int))))))
theorem ref34_packet_S (N : Nat) (method0 : Int) (nonce1 : Arr (Int) 32) (hash2 : Arr (Int) 32) (x3 : Arr (Int) 32) : (runK Go.Proofs.Try.prog (Ev184 N) 400 67 [(.int .u8), (.arr 32 (.int .u8)), (.arr 32 (.int .u8)), (.arr 32 (.int .u8))] [(.pair .bool (.pair (.int .u16) (.pair (.sl (.pair (.int .u8) (.sl (.int .u8)))) (.sl (.int .u8)))))] (method0, nonce1, hash2, x3, ())).run = ref34_packet N method0 nonce1 hash2 x3 := by kernel_rfl
theorem ref34_packet_C (N : Nat) (method0 : Int) (nonce1 : Arr (Int) 32) (hash2 : Arr (Int) 32) (x3 : Arr (Int) 32) (y : (Bool) × ((Int) × ((List ((Int) × (List (Int)))) × (List (Int))))) (h : ref34_packet N method0 nonce1 hash2 x3 = some y) : CallsK Go.Proofs.Try.prog 67 (valA [(.int .u8), (.arr 32 (.int .u8)), (.arr 32 (.int .u8)), (.arr 32 (.int .u8))] (method0, nonce1, hash2, x3, ())) (tupV (valR [(.pair .bool (.pair (.int .u16) (.pair (.sl (.pair (.int .u8) (.sl (.int .u8)))) (.sl (.int .u8)))))] y)) := runK_ok hmx (Ev184_ok N _) (okFn_ok (by kernel_rfl)) (by rw [ref34_packet_S]; exact h)
noncomputable def Ev185 (N : Nat) : (R : Type) → Env R := Env.addFn (Ev184 N) 67 (fun R => fnK [(.int .u8), (.arr 32 (.int .u8)), (.arr 32 (.int .u8)), (.arr 32 (.int .u8))] [(.pair .bool (.pair (.int .u16) (.pair (.sl (.pair (.int .u8) (.sl (.int .u8)))) (.sl (.int .u8)))))] (fun c => ref34_packet N c.1 c.2.1 c.2.2.1 c.2.2.2.1))
theorem Ev185_ok (N : Nat) (R : Type) : EnvOK Go.Proofs.Try.prog (Ev185 N R) := EnvOK.addFn hmx (Ev184_ok N R) (Ev184_ok N _) (by kernel_rfl) (fun c => ref34_packet_S N c.1 c.2.1 c.2.2.1 c.2.2.2.1)
noncomputable def Ev186 (N : Nat) : (R : Type) → Env R := Env.addBx (Ev185 N) [(68, 0)]
theorem Ev186_ok (N : Nat) (R : Type) : EnvOK Go.Proofs.Try.prog (Ev186 N R) := EnvOK.addBx (Ev185_ok N R) [(68, 0)]
noncomputable def ref34_sealed (N : Nat) (p0 : (Bool) × ((Int) × ((List ((Int) × (List (Int)))) × (List (Int))))) (upper1 : Arr (Int) 32) : Option (Arr (Int) 32) :=
 Option.bind (@ref18_Lay N (p0.1, (p0.2.1, (p0.2.2.1, p0.2.2.2)))) fun (v3 : ((List Int) × Int)) =>
 Option.bind (@ref13_Bind N upper1) fun (v4 : (Arr Int 32)) =>
 Option.bind (@ref07_Of N v4.l v3.1) fun (v5 : (Arr Int 32)) =>
 some (v5)
theorem ref34_sealed_S (N : Nat) (p0 : (Bool) × ((Int) × ((List ((Int) × (List (Int)))) × (List (Int))))) (upper1 : Arr (Int) 32) : (runK Go.Proofs.Try.prog (Ev186 N) 400 68 [(.pair .bool (.pair (.int .u16) (.pair (.sl (.pair (.int .u8) (.sl (.int .u8)))) (.sl (.int .u8))))), (.arr 32 (.int .u8))] [(.arr 32 (.int .u8))] (p0, upper1, ())).run = ref34_sealed N p0 upper1 := by kernel_rfl
theorem ref34_sealed_C (N : Nat) (p0 : (Bool) × ((Int) × ((List ((Int) × (List (Int)))) × (List (Int))))) (upper1 : Arr (Int) 32) (y : Arr (Int) 32) (h : ref34_sealed N p0 upper1 = some y) : CallsK Go.Proofs.Try.prog 68 (valA [(.pair .bool (.pair (.int .u16) (.pair (.sl (.pair (.int .u8) (.sl (.int .u8)))) (.sl (.int .u8))))), (.arr 32 (.int .u8))] (p0, upper1, ())) (tupV (valR [(.arr 32 (.int .u8))] y)) := runK_ok hmx (Ev186_ok N _) (okFn_ok (by kernel_rfl)) (by rw [ref34_sealed_S]; exact h)
noncomputable def Ev187 (N : Nat) : (R : Type) → Env R := Env.addFn (Ev186 N) 68 (fun R => fnK [(.pair .bool (.pair (.int .u16) (.pair (.sl (.pair (.int .u8) (.sl (.int .u8)))) (.sl (.int .u8))))), (.arr 32 (.int .u8))] [(.arr 32 (.int .u8))] (fun c => ref34_sealed N c.1 c.2.1))
theorem Ev187_ok (N : Nat) (R : Type) : EnvOK Go.Proofs.Try.prog (Ev187 N R) := EnvOK.addFn hmx (Ev186_ok N R) (Ev186_ok N _) (by kernel_rfl) (fun c => ref34_sealed_S N c.1 c.2.1)
noncomputable def Ev188 (N : Nat) : (R : Type) → Env R := Env.addBx (Ev187 N) [(36, 0)]
theorem Ev188_ok (N : Nat) (R : Type) : EnvOK Go.Proofs.Try.prog (Ev188 N R) := EnvOK.addBx (Ev187_ok N R) [(36, 0)]
noncomputable def ref34_Connected (N : Nat) (upper0 : Arr (Int) 32) (nonce1 : Arr (Int) 32) (hash2 : Arr (Int) 32) : Option ((Bool) × ((Int) × ((List ((Int) × (List (Int)))) × (List (Int))))) :=
 Option.bind (@ref34_packet N (2 : Int) nonce1 hash2 (@Arr.cons Int (31 : Nat) (0 : Int) (@Arr.cons Int (30 : Nat) (0 : Int) (@Arr.cons Int (29 : Nat) (0 : Int) (@Arr.cons Int (28 : Nat) (0 : Int) (@Arr.cons Int (27 : Nat) (0 : Int) (@Arr.cons Int (26 : Nat) (0 : Int) (@Arr.cons Int (25 : Nat) (0 : Int) (@Arr.cons Int (24 : Nat) (0 : Int) (@Arr.cons Int (23 : Nat) (0 : Int) (@Arr.cons Int (22 : Nat) (0 : Int) (@Arr.cons Int (21 : Nat) (0 : Int) (@Arr.cons Int (20 : Nat) (0 : Int) (@Arr.cons Int (19 : Nat) (0 : Int) (@Arr.cons Int (18 : Nat) (0 : Int) (@Arr.cons Int (17 : Nat) (0 : Int) (@Arr.cons Int (16 : Nat) (0 : Int) (@Arr.cons Int (15 : Nat) (0 : Int) (@Arr.cons Int (14 : Nat) (0 : Int) (@Arr.cons Int (13 : Nat) (0 : Int) (@Arr.cons Int (12 : Nat) (0 : Int) (@Arr.cons Int (11 : Nat) (0 : Int) (@Arr.cons Int (10 : Nat) (0 : Int) (@Arr.cons Int (9 : Nat) (0 : Int) (@Arr.cons Int (8 : Nat) (0 : Int) (@Arr.cons Int (7 : Nat) (0 : Int) (@Arr.cons Int (6 : Nat) (0 : Int) (@Arr.cons Int (5 : Nat) (0 : Int) (@Arr.cons Int (4 : Nat) (0 : Int) (@Arr.cons Int (3 : Nat) (0 : Int) (@Arr.cons Int (2 : Nat) (0 : Int) (@Arr.cons Int (1 : Nat) (0 : Int) (@Arr.cons Int (0 : Nat) (0 : Int) (@Arr.nil Int)))))))))))))))))))))))))))))))))) fun (v4 : (Bool × (Int × ((List (Int × (List Int))) × (List Int))))) =>
 Option.bind (@ref34_sealed N (v4.1, (v4.2.1, (v4.2.2.1, v4.2.2.2))) upper0) fun (v5 : (Arr Int 32)) =>
 Option.bind (@ref34_packet N (2 : Int) nonce1 hash2 v5) fun (v6 : (Bool × (Int × ((List (Int × (List Int))) × (List Int))))) =>
 some ((v6.1, (v6.2.1, (v6.2.2.1, v6.2.2.2))))
theorem ref34_Connected_S (N : Nat) (upper0 : Arr (Int) 32) (nonce1 : Arr (Int) 32) (hash2 : Arr (Int) 32) : (runK Go.Proofs.Try.prog (Ev188 N) 400 36 [(.arr 32 (.int .u8)), (.arr 32 (.int .u8)), (.arr 32 (.int .u8))] [(.pair .bool (.pair (.int .u16) (.pair (.sl (.pair (.int .u8) (.sl (.int .u8)))) (.sl (.int .u8)))))] (upper0, nonce1, hash2, ())).run = ref34_Connected N upper0 nonce1 hash2 := by kernel_rfl
theorem ref34_Connected_C (N : Nat) (upper0 : Arr (Int) 32) (nonce1 : Arr (Int) 32) (hash2 : Arr (Int) 32) (y : (Bool) × ((Int) × ((List ((Int) × (List (Int)))) × (List (Int))))) (h : ref34_Connected N upper0 nonce1 hash2 = some y) : CallsK Go.Proofs.Try.prog 36 (valA [(.arr 32 (.int .u8)), (.arr 32 (.int .u8)), (.arr 32 (.int .u8))] (upper0, nonce1, hash2, ())) (tupV (valR [(.pair .bool (.pair (.int .u16) (.pair (.sl (.pair (.int .u8) (.sl (.int .u8)))) (.sl (.int .u8)))))] y)) := runK_ok hmx (Ev188_ok N _) (okFn_ok (by kernel_rfl)) (by rw [ref34_Connected_S]; exact h)
noncomputable def Ev189 (N : Nat) : (R : Type) → Env R := Env.addFn (Ev188 N) 36 (fun R => fnK [(.arr 32 (.int .u8)), (.arr 32 (.int .u8)), (.arr 32 (.int .u8))] [(.pair .bool (.pair (.int .u16) (.pair (.sl (.pair (.int .u8) (.sl (.int .u8)))) (.sl (.int .u8)))))] (fun c => ref34_Connected N c.1 c.2.1 c.2.2.1))
theorem Ev189_ok (N : Nat) (R : Type) : EnvOK Go.Proofs.Try.prog (Ev189 N R) := EnvOK.addFn hmx (Ev188_ok N R) (Ev188_ok N _) (by kernel_rfl) (fun c => ref34_Connected_S N c.1 c.2.1 c.2.2.1)
noncomputable def Ev190 (N : Nat) : (R : Type) → Env R := Env.addBx (Ev189 N) [(38, 0)]
theorem Ev190_ok (N : Nat) (R : Type) : EnvOK Go.Proofs.Try.prog (Ev190 N R) := EnvOK.addBx (Ev189_ok N R) [(38, 0)]
noncomputable def ref34_Ask (N : Nat) (nonce0 : Arr (Int) 32) : Option ((Bool) × ((Int) × ((List ((Int) × (List (Int)))) × (List (Int))))) :=
 Option.bind (@ref17_Ask N (2 : Int) nonce0) fun (v2 : (Int × (List Int))) =>
 some ((@Bool.true, ((2 : Int), (([(v2.1, v2.2)] : List ((Int × (List Int)))), ([] : List (Int))))))
theorem ref34_Ask_S (N : Nat) (nonce0 : Arr (Int) 32) : (runK Go.Proofs.Try.prog (Ev190 N) 400 38 [(.arr 32 (.int .u8))] [(.pair .bool (.pair (.int .u16) (.pair (.sl (.pair (.int .u8) (.sl (.int .u8)))) (.sl (.int .u8)))))] (nonce0, ())).run = ref34_Ask N nonce0 := by kernel_rfl
theorem ref34_Ask_C (N : Nat) (nonce0 : Arr (Int) 32) (y : (Bool) × ((Int) × ((List ((Int) × (List (Int)))) × (List (Int))))) (h : ref34_Ask N nonce0 = some y) : CallsK Go.Proofs.Try.prog 38 (valA [(.arr 32 (.int .u8))] (nonce0, ())) (tupV (valR [(.pair .bool (.pair (.int .u16) (.pair (.sl (.pair (.int .u8) (.sl (.int .u8)))) (.sl (.int .u8)))))] y)) := runK_ok hmx (Ev190_ok N _) (okFn_ok (by kernel_rfl)) (by rw [ref34_Ask_S]; exact h)
noncomputable def Ev191 (N : Nat) : (R : Type) → Env R := Env.addFn (Ev190 N) 38 (fun R => fnK [(.arr 32 (.int .u8))] [(.pair .bool (.pair (.int .u16) (.pair (.sl (.pair (.int .u8) (.sl (.int .u8)))) (.sl (.int .u8)))))] (fun c => ref34_Ask N c.1))
theorem Ev191_ok (N : Nat) (R : Type) : EnvOK Go.Proofs.Try.prog (Ev191 N R) := EnvOK.addFn hmx (Ev190_ok N R) (Ev190_ok N _) (by kernel_rfl) (fun c => ref34_Ask_S N c.1)
noncomputable def Ev192 (N : Nat) : (R : Type) → Env R := Env.addMv (Ev191 N) [(35, 5)]
theorem Ev192_ok (N : Nat) (R : Type) : EnvOK Go.Proofs.Try.prog (Ev192 N R) := EnvOK.addMv (Ev191_ok N R) [(35, 5)]
noncomputable def Ev193 (N : Nat) : (R : Type) → Env R := Env.addBx (Ev192 N) [(35, 0)]
theorem Ev193_ok (N : Nat) (R : Type) : EnvOK Go.Proofs.Try.prog (Ev193 N R) := EnvOK.addBx (Ev192_ok N R) [(35, 0)]
noncomputable def law34_theirs_L3_I : LI := ⟨32, 0, [], ⟨[(2, .lit (.box 0 0)), (3, .lit (.box 1 0)), (14, .ty (.sl (.pair (.int .u8) (.sl (.int .u8))))), (15, .ty (.int .i64)), (16, .ty (.int .i64))], [.boxp 42 [.ty .bool, .ty (.int .u16), .own 2, .ty (.sl (.int .u8))], .boxp 42 [.ty .bool, .ty (.int .u16), .own 3, .ty (.sl (.int .u8))], .own (.pair (.int .u8) (.sl (.int .u8))) 99, .own (.pair (.int .u8) (.sl (.int .u8))) 99]⟩, [(.exit 0, ⟨[(2, .lit (.box 0 0)), (3, .lit (.box 1 0))], [.boxp 42 [.ty .bool, .ty (.int .u16), .own 2, .ty (.sl (.int .u8))], .boxp 42 [.ty .bool, .ty (.int .u16), .own 3, .ty (.sl (.int .u8))], .own (.pair (.int .u8) (.sl (.int .u8))) 99, .own (.pair (.int .u8) (.sl (.int .u8))) 99]⟩)]⟩
noncomputable def law34_theirs_L3 (N : Nat) (X : (((List ((Int) × (List (Int)))) × ((Int) × ((Int) × Unit))) × ((Bool) × ((Int) × ((List (Int)) × ((Bool) × ((Int) × ((List (Int)) × ((List ((Int) × (List (Int)))) × ((List ((Int) × (List (Int)))) × Unit))))))))) → Option ((Unit × ((Bool) × ((Int) × ((List (Int)) × ((Bool) × ((Int) × ((List (Int)) × ((List ((Int) × (List (Int)))) × ((List ((Int) × (List (Int)))) × Unit))))))))))) (x14 : List ((Int) × (List (Int)))) (x15 : Int) (x16 : Int) (h0 : Bool) (h1 : Int) (h2 : List (Int)) (h3 : Bool) (h4 : Int) (h5 : List (Int)) (h6 : List ((Int) × (List (Int)))) (h7 : List ((Int) × (List (Int)))) : Option ((Unit × ((Bool) × ((Int) × ((List (Int)) × ((Bool) × ((Int) × ((List (Int)) × ((List ((Int) × (List (Int)))) × ((List ((Int) × (List (Int)))) × Unit)))))))))) :=
 bif (decide (x16 < x15)) then
  Option.bind (getI x14 x16) fun (v13 : (Int × (List Int))) =>
  bif (roomB ((List.length h7) + (List.length ([(v13.1, v13.2)] : List ((Int × (List Int)))))) 32) then
   (X ((x14, (x15, ((Go.IntKind.wrap .i64 (x16 + (1 : Int))), @Unit.unit))), (h0, (h1, (h2, (h3, (h4, (h5, (h6, ((h7 ++ ([(v13.1, v13.2)] : List ((Int × (List Int))))), @Unit.unit))))))))))
  else
   none
 else
  some ((@Unit.unit, (h0, (h1, (h2, (h3, (h4, (h5, (h6, (h7, @Unit.unit))))))))))
noncomputable def law34_theirs_L3_R (N : Nat) (c : (((List ((Int) × (List (Int)))) × ((Int) × ((Int) × Unit))) × ((Bool) × ((Int) × ((List (Int)) × ((Bool) × ((Int) × ((List (Int)) × ((List ((Int) × (List (Int)))) × ((List ((Int) × (List (Int)))) × Unit)))))))))) : Option ((Unit × ((Bool) × ((Int) × ((List (Int)) × ((Bool) × ((Int) × ((List (Int)) × ((List ((Int) × (List (Int)))) × ((List ((Int) × (List (Int)))) × Unit)))))))))) := gl (fun X c => law34_theirs_L3 N X c.1.1 c.1.2.1 c.1.2.2.1 c.2.1 c.2.2.1 c.2.2.2.1 c.2.2.2.2.1 c.2.2.2.2.2.1 c.2.2.2.2.2.2.1 c.2.2.2.2.2.2.2.1 c.2.2.2.2.2.2.2.2.1) N c
theorem law34_theirs_L3_S (N : Nat) (X : (((List ((Int) × (List (Int)))) × ((Int) × ((Int) × Unit))) × ((Bool) × ((Int) × ((List (Int)) × ((Bool) × ((Int) × ((List (Int)) × ((List ((Int) × (List (Int)))) × ((List ((Int) × (List (Int)))) × Unit))))))))) → Option ((Unit × ((Bool) × ((Int) × ((List (Int)) × ((Bool) × ((Int) × ((List (Int)) × ((List ((Int) × (List (Int)))) × ((List ((Int) × (List (Int)))) × Unit))))))))))) (x14 : List ((Int) × (List (Int)))) (x15 : Int) (x16 : Int) (h0 : Bool) (h1 : Int) (h2 : List (Int)) (h3 : Bool) (h4 : Int) (h5 : List (Int)) (h6 : List ((Int) × (List (Int)))) (h7 : List ((Int) × (List (Int)))) : (roundK Go.Proofs.Try.prog (Ev193 N) 400 [35] law34_theirs_L3_I (loopAt Go.Proofs.Try.prog [35] 3) X ((x14, x15, x16, ()), (h0, h1, h2, h3, h4, h5, h6, h7, ()))).run = law34_theirs_L3 N X x14 x15 x16 h0 h1 h2 h3 h4 h5 h6 h7 := by kernel_rfl
noncomputable def Ev194 (N : Nat) : (R : Type) → Env R := Env.addLp (Ev193 N) [35] 0 3 (fun R => lpK Go.Proofs.Try.prog law34_theirs_L3_I (fun X c => law34_theirs_L3 N X c.1.1 c.1.2.1 c.1.2.2.1 c.2.1 c.2.2.1 c.2.2.2.1 c.2.2.2.2.1 c.2.2.2.2.2.1 c.2.2.2.2.2.2.1 c.2.2.2.2.2.2.2.1 c.2.2.2.2.2.2.2.2.1) N)
theorem Ev194_ok (N : Nat) (R : Type) : EnvOK Go.Proofs.Try.prog (Ev194 N R) := EnvOK.addLp (Ev193_ok N R) (by kernel_rfl) (lpK_ok (li := law34_theirs_L3_I) (G := fun X c => law34_theirs_L3 N X c.1.1 c.1.2.1 c.1.2.2.1 c.2.1 c.2.2.1 c.2.2.2.1 c.2.2.2.2.1 c.2.2.2.2.2.1 c.2.2.2.2.2.2.1 c.2.2.2.2.2.2.2.1 c.2.2.2.2.2.2.2.2.1) hmx (Ev193_ok N _) (by kernel_rfl) loopAt_sub (fun (X : CT law34_theirs_L3_I.sh → Option (OT law34_theirs_L3_I.outs)) (c : CT law34_theirs_L3_I.sh) => law34_theirs_L3_S N X c.1.1 c.1.2.1 c.1.2.2.1 c.2.1 c.2.2.1 c.2.2.2.1 c.2.2.2.2.1 c.2.2.2.2.2.1 c.2.2.2.2.2.2.1 c.2.2.2.2.2.2.2.1 c.2.2.2.2.2.2.2.2.1) N)
noncomputable def law34_theirs (N : Nat) (p0 : (Bool) × ((Int) × ((List ((Int) × (List (Int)))) × (List (Int))))) : Option ((Bool) × ((Int) × ((List ((Int) × (List (Int)))) × (List (Int))))) :=
 Option.bind (law34_theirs_L3_R N ((p0.2.2.1, ((((List.length p0.2.2.1) : Nat) : Int), ((0 : Int), @Unit.unit))), (@Bool.false, ((0 : Int), (([] : List (Int)), (p0.1, (p0.2.1, (p0.2.2.2, (([] : List ((Int × (List Int)))), (([] : List ((Int × (List Int)))), @Unit.unit)))))))))) fun (v2 : (Unit × (Bool × (Int × ((List Int) × (Bool × (Int × ((List Int) × ((List (Int × (List Int))) × ((List (Int × (List Int))) × Unit)))))))))) =>
 some (((v2.2.2.2).snd.1, ((v2.2.2.2).snd.2.1, (((v2.2.2.2).snd.2.2).snd.2.1, (v2.2.2.2).snd.2.2.1))))
theorem law34_theirs_S (N : Nat) (p0 : (Bool) × ((Int) × ((List ((Int) × (List (Int)))) × (List (Int))))) : (runK Go.Proofs.Try.prog (Ev194 N) 400 35 [(.pair .bool (.pair (.int .u16) (.pair (.sl (.pair (.int .u8) (.sl (.int .u8)))) (.sl (.int .u8)))))] [(.pair .bool (.pair (.int .u16) (.pair (.sl (.pair (.int .u8) (.sl (.int .u8)))) (.sl (.int .u8)))))] (p0, ())).run = law34_theirs N p0 := by kernel_rfl
theorem law34_theirs_C (N : Nat) (p0 : (Bool) × ((Int) × ((List ((Int) × (List (Int)))) × (List (Int))))) (y : (Bool) × ((Int) × ((List ((Int) × (List (Int)))) × (List (Int))))) (h : law34_theirs N p0 = some y) : CallsK Go.Proofs.Try.prog 35 (valA [(.pair .bool (.pair (.int .u16) (.pair (.sl (.pair (.int .u8) (.sl (.int .u8)))) (.sl (.int .u8)))))] (p0, ())) (tupV (valR [(.pair .bool (.pair (.int .u16) (.pair (.sl (.pair (.int .u8) (.sl (.int .u8)))) (.sl (.int .u8)))))] y)) := runK_ok hmx (Ev194_ok N _) (okFn_ok (by kernel_rfl)) (by rw [law34_theirs_S]; exact h)
noncomputable def Ev195 (N : Nat) : (R : Type) → Env R := Env.addFn (Ev194 N) 35 (fun R => fnK [(.pair .bool (.pair (.int .u16) (.pair (.sl (.pair (.int .u8) (.sl (.int .u8)))) (.sl (.int .u8)))))] [(.pair .bool (.pair (.int .u16) (.pair (.sl (.pair (.int .u8) (.sl (.int .u8)))) (.sl (.int .u8)))))] (fun c => law34_theirs N c.1))
theorem Ev195_ok (N : Nat) (R : Type) : EnvOK Go.Proofs.Try.prog (Ev195 N R) := EnvOK.addFn hmx (Ev194_ok N R) (Ev194_ok N _) (by kernel_rfl) (fun c => law34_theirs_S N c.1)
noncomputable def law34_alive (N : Nat) : Option (Bool) :=
 Option.bind (@bind_Connected N (@Arr.cons Int (31 : Nat) (1 : Int) (@Arr.cons Int (30 : Nat) (0 : Int) (@Arr.cons Int (29 : Nat) (0 : Int) (@Arr.cons Int (28 : Nat) (0 : Int) (@Arr.cons Int (27 : Nat) (0 : Int) (@Arr.cons Int (26 : Nat) (0 : Int) (@Arr.cons Int (25 : Nat) (0 : Int) (@Arr.cons Int (24 : Nat) (0 : Int) (@Arr.cons Int (23 : Nat) (0 : Int) (@Arr.cons Int (22 : Nat) (0 : Int) (@Arr.cons Int (21 : Nat) (0 : Int) (@Arr.cons Int (20 : Nat) (0 : Int) (@Arr.cons Int (19 : Nat) (0 : Int) (@Arr.cons Int (18 : Nat) (0 : Int) (@Arr.cons Int (17 : Nat) (0 : Int) (@Arr.cons Int (16 : Nat) (0 : Int) (@Arr.cons Int (15 : Nat) (0 : Int) (@Arr.cons Int (14 : Nat) (0 : Int) (@Arr.cons Int (13 : Nat) (0 : Int) (@Arr.cons Int (12 : Nat) (0 : Int) (@Arr.cons Int (11 : Nat) (0 : Int) (@Arr.cons Int (10 : Nat) (0 : Int) (@Arr.cons Int (9 : Nat) (0 : Int) (@Arr.cons Int (8 : Nat) (0 : Int) (@Arr.cons Int (7 : Nat) (0 : Int) (@Arr.cons Int (6 : Nat) (0 : Int) (@Arr.cons Int (5 : Nat) (0 : Int) (@Arr.cons Int (4 : Nat) (0 : Int) (@Arr.cons Int (3 : Nat) (0 : Int) (@Arr.cons Int (2 : Nat) (0 : Int) (@Arr.cons Int (1 : Nat) (0 : Int) (@Arr.cons Int (0 : Nat) (0 : Int) (@Arr.nil Int))))))))))))))))))))))))))))))))) (@Arr.cons Int (31 : Nat) (2 : Int) (@Arr.cons Int (30 : Nat) (0 : Int) (@Arr.cons Int (29 : Nat) (0 : Int) (@Arr.cons Int (28 : Nat) (0 : Int) (@Arr.cons Int (27 : Nat) (0 : Int) (@Arr.cons Int (26 : Nat) (0 : Int) (@Arr.cons Int (25 : Nat) (0 : Int) (@Arr.cons Int (24 : Nat) (0 : Int) (@Arr.cons Int (23 : Nat) (0 : Int) (@Arr.cons Int (22 : Nat) (0 : Int) (@Arr.cons Int (21 : Nat) (0 : Int) (@Arr.cons Int (20 : Nat) (0 : Int) (@Arr.cons Int (19 : Nat) (0 : Int) (@Arr.cons Int (18 : Nat) (0 : Int) (@Arr.cons Int (17 : Nat) (0 : Int) (@Arr.cons Int (16 : Nat) (0 : Int) (@Arr.cons Int (15 : Nat) (0 : Int) (@Arr.cons Int (14 : Nat) (0 : Int) (@Arr.cons Int (13 : Nat) (0 : Int) (@Arr.cons Int (12 : Nat) (0 : Int) (@Arr.cons Int (11 : Nat) (0 : Int) (@Arr.cons Int (10 : Nat) (0 : Int) (@Arr.cons Int (9 : Nat) (0 : Int) (@Arr.cons Int (8 : Nat) (0 : Int) (@Arr.cons Int (7 : Nat) (0 : Int) (@Arr.cons Int (6 : Nat) (0 : Int) (@Arr.cons Int (5 : Nat) (0 : Int) (@Arr.cons Int (4 : Nat) (0 : Int) (@Arr.cons Int (3 : Nat) (0 : Int) (@Arr.cons Int (2 : Nat) (0 : Int) (@Arr.cons Int (1 : Nat) (0 : Int) (@Arr.cons Int (0 : Nat) (0 : Int) (@Arr.nil Int))))))))))))))))))))))))))))))))) (@Arr.cons Int (31 : Nat) (3 : Int) (@Arr.cons Int (30 : Nat) (0 : Int) (@Arr.cons Int (29 : Nat) (0 : Int) (@Arr.cons Int (28 : Nat) (0 : Int) (@Arr.cons Int (27 : Nat) (0 : Int) (@Arr.cons Int (26 : Nat) (0 : Int) (@Arr.cons Int (25 : Nat) (0 : Int) (@Arr.cons Int (24 : Nat) (0 : Int) (@Arr.cons Int (23 : Nat) (0 : Int) (@Arr.cons Int (22 : Nat) (0 : Int) (@Arr.cons Int (21 : Nat) (0 : Int) (@Arr.cons Int (20 : Nat) (0 : Int) (@Arr.cons Int (19 : Nat) (0 : Int) (@Arr.cons Int (18 : Nat) (0 : Int) (@Arr.cons Int (17 : Nat) (0 : Int) (@Arr.cons Int (16 : Nat) (0 : Int) (@Arr.cons Int (15 : Nat) (0 : Int) (@Arr.cons Int (14 : Nat) (0 : Int) (@Arr.cons Int (13 : Nat) (0 : Int) (@Arr.cons Int (12 : Nat) (0 : Int) (@Arr.cons Int (11 : Nat) (0 : Int) (@Arr.cons Int (10 : Nat) (0 : Int) (@Arr.cons Int (9 : Nat) (0 : Int) (@Arr.cons Int (8 : Nat) (0 : Int) (@Arr.cons Int (7 : Nat) (0 : Int) (@Arr.cons Int (6 : Nat) (0 : Int) (@Arr.cons Int (5 : Nat) (0 : Int) (@Arr.cons Int (4 : Nat) (0 : Int) (@Arr.cons Int (3 : Nat) (0 : Int) (@Arr.cons Int (2 : Nat) (0 : Int) (@Arr.cons Int (1 : Nat) (0 : Int) (@Arr.cons Int (0 : Nat) (0 : Int) (@Arr.nil Int)))))))))))))))))))))))))))))))))) fun (v1 : (Bool × (Int × ((List (Int × (List Int))) × (List Int))))) =>
 Option.bind (@bind_Ask N (@Arr.cons Int (31 : Nat) (4 : Int) (@Arr.cons Int (30 : Nat) (0 : Int) (@Arr.cons Int (29 : Nat) (0 : Int) (@Arr.cons Int (28 : Nat) (0 : Int) (@Arr.cons Int (27 : Nat) (0 : Int) (@Arr.cons Int (26 : Nat) (0 : Int) (@Arr.cons Int (25 : Nat) (0 : Int) (@Arr.cons Int (24 : Nat) (0 : Int) (@Arr.cons Int (23 : Nat) (0 : Int) (@Arr.cons Int (22 : Nat) (0 : Int) (@Arr.cons Int (21 : Nat) (0 : Int) (@Arr.cons Int (20 : Nat) (0 : Int) (@Arr.cons Int (19 : Nat) (0 : Int) (@Arr.cons Int (18 : Nat) (0 : Int) (@Arr.cons Int (17 : Nat) (0 : Int) (@Arr.cons Int (16 : Nat) (0 : Int) (@Arr.cons Int (15 : Nat) (0 : Int) (@Arr.cons Int (14 : Nat) (0 : Int) (@Arr.cons Int (13 : Nat) (0 : Int) (@Arr.cons Int (12 : Nat) (0 : Int) (@Arr.cons Int (11 : Nat) (0 : Int) (@Arr.cons Int (10 : Nat) (0 : Int) (@Arr.cons Int (9 : Nat) (0 : Int) (@Arr.cons Int (8 : Nat) (0 : Int) (@Arr.cons Int (7 : Nat) (0 : Int) (@Arr.cons Int (6 : Nat) (0 : Int) (@Arr.cons Int (5 : Nat) (0 : Int) (@Arr.cons Int (4 : Nat) (0 : Int) (@Arr.cons Int (3 : Nat) (0 : Int) (@Arr.cons Int (2 : Nat) (0 : Int) (@Arr.cons Int (1 : Nat) (0 : Int) (@Arr.cons Int (0 : Nat) (0 : Int) (@Arr.nil Int)))))))))))))))))))))))))))))))))) fun (v2 : (Bool × (Int × ((List (Int × (List Int))) × (List Int))))) =>
 Option.bind (@bind_Asked N (v2.1, (v2.2.1, (v2.2.2.1, v2.2.2.2)))) fun (v3 : ((Arr Int 32) × Int)) =>
 Option.bind (@bind_Check N (v1.1, (v1.2.1, (v1.2.2.1, v1.2.2.2))) (@Arr.cons Int (31 : Nat) (1 : Int) (@Arr.cons Int (30 : Nat) (0 : Int) (@Arr.cons Int (29 : Nat) (0 : Int) (@Arr.cons Int (28 : Nat) (0 : Int) (@Arr.cons Int (27 : Nat) (0 : Int) (@Arr.cons Int (26 : Nat) (0 : Int) (@Arr.cons Int (25 : Nat) (0 : Int) (@Arr.cons Int (24 : Nat) (0 : Int) (@Arr.cons Int (23 : Nat) (0 : Int) (@Arr.cons Int (22 : Nat) (0 : Int) (@Arr.cons Int (21 : Nat) (0 : Int) (@Arr.cons Int (20 : Nat) (0 : Int) (@Arr.cons Int (19 : Nat) (0 : Int) (@Arr.cons Int (18 : Nat) (0 : Int) (@Arr.cons Int (17 : Nat) (0 : Int) (@Arr.cons Int (16 : Nat) (0 : Int) (@Arr.cons Int (15 : Nat) (0 : Int) (@Arr.cons Int (14 : Nat) (0 : Int) (@Arr.cons Int (13 : Nat) (0 : Int) (@Arr.cons Int (12 : Nat) (0 : Int) (@Arr.cons Int (11 : Nat) (0 : Int) (@Arr.cons Int (10 : Nat) (0 : Int) (@Arr.cons Int (9 : Nat) (0 : Int) (@Arr.cons Int (8 : Nat) (0 : Int) (@Arr.cons Int (7 : Nat) (0 : Int) (@Arr.cons Int (6 : Nat) (0 : Int) (@Arr.cons Int (5 : Nat) (0 : Int) (@Arr.cons Int (4 : Nat) (0 : Int) (@Arr.cons Int (3 : Nat) (0 : Int) (@Arr.cons Int (2 : Nat) (0 : Int) (@Arr.cons Int (1 : Nat) (0 : Int) (@Arr.cons Int (0 : Nat) (0 : Int) (@Arr.nil Int))))))))))))))))))))))))))))))))) (@Arr.cons Int (31 : Nat) (2 : Int) (@Arr.cons Int (30 : Nat) (0 : Int) (@Arr.cons Int (29 : Nat) (0 : Int) (@Arr.cons Int (28 : Nat) (0 : Int) (@Arr.cons Int (27 : Nat) (0 : Int) (@Arr.cons Int (26 : Nat) (0 : Int) (@Arr.cons Int (25 : Nat) (0 : Int) (@Arr.cons Int (24 : Nat) (0 : Int) (@Arr.cons Int (23 : Nat) (0 : Int) (@Arr.cons Int (22 : Nat) (0 : Int) (@Arr.cons Int (21 : Nat) (0 : Int) (@Arr.cons Int (20 : Nat) (0 : Int) (@Arr.cons Int (19 : Nat) (0 : Int) (@Arr.cons Int (18 : Nat) (0 : Int) (@Arr.cons Int (17 : Nat) (0 : Int) (@Arr.cons Int (16 : Nat) (0 : Int) (@Arr.cons Int (15 : Nat) (0 : Int) (@Arr.cons Int (14 : Nat) (0 : Int) (@Arr.cons Int (13 : Nat) (0 : Int) (@Arr.cons Int (12 : Nat) (0 : Int) (@Arr.cons Int (11 : Nat) (0 : Int) (@Arr.cons Int (10 : Nat) (0 : Int) (@Arr.cons Int (9 : Nat) (0 : Int) (@Arr.cons Int (8 : Nat) (0 : Int) (@Arr.cons Int (7 : Nat) (0 : Int) (@Arr.cons Int (6 : Nat) (0 : Int) (@Arr.cons Int (5 : Nat) (0 : Int) (@Arr.cons Int (4 : Nat) (0 : Int) (@Arr.cons Int (3 : Nat) (0 : Int) (@Arr.cons Int (2 : Nat) (0 : Int) (@Arr.cons Int (1 : Nat) (0 : Int) (@Arr.cons Int (0 : Nat) (0 : Int) (@Arr.nil Int))))))))))))))))))))))))))))))))) (@Arr.cons Int (31 : Nat) (3 : Int) (@Arr.cons Int (30 : Nat) (0 : Int) (@Arr.cons Int (29 : Nat) (0 : Int) (@Arr.cons Int (28 : Nat) (0 : Int) (@Arr.cons Int (27 : Nat) (0 : Int) (@Arr.cons Int (26 : Nat) (0 : Int) (@Arr.cons Int (25 : Nat) (0 : Int) (@Arr.cons Int (24 : Nat) (0 : Int) (@Arr.cons Int (23 : Nat) (0 : Int) (@Arr.cons Int (22 : Nat) (0 : Int) (@Arr.cons Int (21 : Nat) (0 : Int) (@Arr.cons Int (20 : Nat) (0 : Int) (@Arr.cons Int (19 : Nat) (0 : Int) (@Arr.cons Int (18 : Nat) (0 : Int) (@Arr.cons Int (17 : Nat) (0 : Int) (@Arr.cons Int (16 : Nat) (0 : Int) (@Arr.cons Int (15 : Nat) (0 : Int) (@Arr.cons Int (14 : Nat) (0 : Int) (@Arr.cons Int (13 : Nat) (0 : Int) (@Arr.cons Int (12 : Nat) (0 : Int) (@Arr.cons Int (11 : Nat) (0 : Int) (@Arr.cons Int (10 : Nat) (0 : Int) (@Arr.cons Int (9 : Nat) (0 : Int) (@Arr.cons Int (8 : Nat) (0 : Int) (@Arr.cons Int (7 : Nat) (0 : Int) (@Arr.cons Int (6 : Nat) (0 : Int) (@Arr.cons Int (5 : Nat) (0 : Int) (@Arr.cons Int (4 : Nat) (0 : Int) (@Arr.cons Int (3 : Nat) (0 : Int) (@Arr.cons Int (2 : Nat) (0 : Int) (@Arr.cons Int (1 : Nat) (0 : Int) (@Arr.cons Int (0 : Nat) (0 : Int) (@Arr.nil Int)))))))))))))))))))))))))))))))))) fun (v4 : Int) =>
 bif (decide (v4 = (0 : Int))) then
  Option.bind (@bind_Check N (v1.1, (v1.2.1, (v1.2.2.1, v1.2.2.2))) (@Arr.cons Int (31 : Nat) (1 : Int) (@Arr.cons Int (30 : Nat) (0 : Int) (@Arr.cons Int (29 : Nat) (0 : Int) (@Arr.cons Int (28 : Nat) (0 : Int) (@Arr.cons Int (27 : Nat) (0 : Int) (@Arr.cons Int (26 : Nat) (0 : Int) (@Arr.cons Int (25 : Nat) (0 : Int) (@Arr.cons Int (24 : Nat) (0 : Int) (@Arr.cons Int (23 : Nat) (0 : Int) (@Arr.cons Int (22 : Nat) (0 : Int) (@Arr.cons Int (21 : Nat) (0 : Int) (@Arr.cons Int (20 : Nat) (0 : Int) (@Arr.cons Int (19 : Nat) (0 : Int) (@Arr.cons Int (18 : Nat) (0 : Int) (@Arr.cons Int (17 : Nat) (0 : Int) (@Arr.cons Int (16 : Nat) (0 : Int) (@Arr.cons Int (15 : Nat) (0 : Int) (@Arr.cons Int (14 : Nat) (0 : Int) (@Arr.cons Int (13 : Nat) (0 : Int) (@Arr.cons Int (12 : Nat) (0 : Int) (@Arr.cons Int (11 : Nat) (0 : Int) (@Arr.cons Int (10 : Nat) (0 : Int) (@Arr.cons Int (9 : Nat) (0 : Int) (@Arr.cons Int (8 : Nat) (0 : Int) (@Arr.cons Int (7 : Nat) (0 : Int) (@Arr.cons Int (6 : Nat) (0 : Int) (@Arr.cons Int (5 : Nat) (0 : Int) (@Arr.cons Int (4 : Nat) (0 : Int) (@Arr.cons Int (3 : Nat) (0 : Int) (@Arr.cons Int (2 : Nat) (0 : Int) (@Arr.cons Int (1 : Nat) (0 : Int) (@Arr.cons Int (0 : Nat) (0 : Int) (@Arr.nil Int))))))))))))))))))))))))))))))))) (@Arr.cons Int (31 : Nat) (5 : Int) (@Arr.cons Int (30 : Nat) (0 : Int) (@Arr.cons Int (29 : Nat) (0 : Int) (@Arr.cons Int (28 : Nat) (0 : Int) (@Arr.cons Int (27 : Nat) (0 : Int) (@Arr.cons Int (26 : Nat) (0 : Int) (@Arr.cons Int (25 : Nat) (0 : Int) (@Arr.cons Int (24 : Nat) (0 : Int) (@Arr.cons Int (23 : Nat) (0 : Int) (@Arr.cons Int (22 : Nat) (0 : Int) (@Arr.cons Int (21 : Nat) (0 : Int) (@Arr.cons Int (20 : Nat) (0 : Int) (@Arr.cons Int (19 : Nat) (0 : Int) (@Arr.cons Int (18 : Nat) (0 : Int) (@Arr.cons Int (17 : Nat) (0 : Int) (@Arr.cons Int (16 : Nat) (0 : Int) (@Arr.cons Int (15 : Nat) (0 : Int) (@Arr.cons Int (14 : Nat) (0 : Int) (@Arr.cons Int (13 : Nat) (0 : Int) (@Arr.cons Int (12 : Nat) (0 : Int) (@Arr.cons Int (11 : Nat) (0 : Int) (@Arr.cons Int (10 : Nat) (0 : Int) (@Arr.cons Int (9 : Nat) (0 : Int) (@Arr.cons Int (8 : Nat) (0 : Int) (@Arr.cons Int (7 : Nat) (0 : Int) (@Arr.cons Int (6 : Nat) (0 : Int) (@Arr.cons Int (5 : Nat) (0 : Int) (@Arr.cons Int (4 : Nat) (0 : Int) (@Arr.cons Int (3 : Nat) (0 : Int) (@Arr.cons Int (2 : Nat) (0 : Int) (@Arr.cons Int (1 : Nat) (0 : Int) (@Arr.cons Int (0 : Nat) (0 : Int) (@Arr.nil Int))))))))))))))))))))))))))))))))) (@Arr.cons Int (31 : Nat) (3 : Int) (@Arr.cons Int (30 : Nat) (0 : Int) (@Arr.cons Int (29 : Nat) (0 : Int) (@Arr.cons Int (28 : Nat) (0 : Int) (@Arr.cons Int (27 : Nat) (0 : Int) (@Arr.cons Int (26 : Nat) (0 : Int) (@Arr.cons Int (25 : Nat) (0 : Int) (@Arr.cons Int (24 : Nat) (0 : Int) (@Arr.cons Int (23 : Nat) (0 : Int) (@Arr.cons Int (22 : Nat) (0 : Int) (@Arr.cons Int (21 : Nat) (0 : Int) (@Arr.cons Int (20 : Nat) (0 : Int) (@Arr.cons Int (19 : Nat) (0 : Int) (@Arr.cons Int (18 : Nat) (0 : Int) (@Arr.cons Int (17 : Nat) (0 : Int) (@Arr.cons Int (16 : Nat) (0 : Int) (@Arr.cons Int (15 : Nat) (0 : Int) (@Arr.cons Int (14 : Nat) (0 : Int) (@Arr.cons Int (13 : Nat) (0 : Int) (@Arr.cons Int (12 : Nat) (0 : Int) (@Arr.cons Int (11 : Nat) (0 : Int) (@Arr.cons Int (10 : Nat) (0 : Int) (@Arr.cons Int (9 : Nat) (0 : Int) (@Arr.cons Int (8 : Nat) (0 : Int) (@Arr.cons Int (7 : Nat) (0 : Int) (@Arr.cons Int (6 : Nat) (0 : Int) (@Arr.cons Int (5 : Nat) (0 : Int) (@Arr.cons Int (4 : Nat) (0 : Int) (@Arr.cons Int (3 : Nat) (0 : Int) (@Arr.cons Int (2 : Nat) (0 : Int) (@Arr.cons Int (1 : Nat) (0 : Int) (@Arr.cons Int (0 : Nat) (0 : Int) (@Arr.nil Int)))))))))))))))))))))))))))))))))) fun (v5 : Int) =>
  bif (@cond Bool @Bool.true (decide (v5 = (10 : Int))) @Bool.false) then
   bif ((@wfB (@Td.arr (32 : Nat) (@Td.int @Go.IntKind.u8)) v3.1) && (@wfB (@Td.arr (32 : Nat) (@Td.int @Go.IntKind.u8)) (@Arr.cons Int (31 : Nat) (4 : Int) (@Arr.cons Int (30 : Nat) (0 : Int) (@Arr.cons Int (29 : Nat) (0 : Int) (@Arr.cons Int (28 : Nat) (0 : Int) (@Arr.cons Int (27 : Nat) (0 : Int) (@Arr.cons Int (26 : Nat) (0 : Int) (@Arr.cons Int (25 : Nat) (0 : Int) (@Arr.cons Int (24 : Nat) (0 : Int) (@Arr.cons Int (23 : Nat) (0 : Int) (@Arr.cons Int (22 : Nat) (0 : Int) (@Arr.cons Int (21 : Nat) (0 : Int) (@Arr.cons Int (20 : Nat) (0 : Int) (@Arr.cons Int (19 : Nat) (0 : Int) (@Arr.cons Int (18 : Nat) (0 : Int) (@Arr.cons Int (17 : Nat) (0 : Int) (@Arr.cons Int (16 : Nat) (0 : Int) (@Arr.cons Int (15 : Nat) (0 : Int) (@Arr.cons Int (14 : Nat) (0 : Int) (@Arr.cons Int (13 : Nat) (0 : Int) (@Arr.cons Int (12 : Nat) (0 : Int) (@Arr.cons Int (11 : Nat) (0 : Int) (@Arr.cons Int (10 : Nat) (0 : Int) (@Arr.cons Int (9 : Nat) (0 : Int) (@Arr.cons Int (8 : Nat) (0 : Int) (@Arr.cons Int (7 : Nat) (0 : Int) (@Arr.cons Int (6 : Nat) (0 : Int) (@Arr.cons Int (5 : Nat) (0 : Int) (@Arr.cons Int (4 : Nat) (0 : Int) (@Arr.cons Int (3 : Nat) (0 : Int) (@Arr.cons Int (2 : Nat) (0 : Int) (@Arr.cons Int (1 : Nat) (0 : Int) (@Arr.cons Int (0 : Nat) (0 : Int) (@Arr.nil Int))))))))))))))))))))))))))))))))))) then
    bif (@cond Bool @Bool.true (@Decidable.decide (@Eq (Arr Int 32) v3.1 (@Arr.cons Int (31 : Nat) (4 : Int) (@Arr.cons Int (30 : Nat) (0 : Int) (@Arr.cons Int (29 : Nat) (0 : Int) (@Arr.cons Int (28 : Nat) (0 : Int) (@Arr.cons Int (27 : Nat) (0 : Int) (@Arr.cons Int (26 : Nat) (0 : Int) (@Arr.cons Int (25 : Nat) (0 : Int) (@Arr.cons Int (24 : Nat) (0 : Int) (@Arr.cons Int (23 : Nat) (0 : Int) (@Arr.cons Int (22 : Nat) (0 : Int) (@Arr.cons Int (21 : Nat) (0 : Int) (@Arr.cons Int (20 : Nat) (0 : Int) (@Arr.cons Int (19 : Nat) (0 : Int) (@Arr.cons Int (18 : Nat) (0 : Int) (@Arr.cons Int (17 : Nat) (0 : Int) (@Arr.cons Int (16 : Nat) (0 : Int) (@Arr.cons Int (15 : Nat) (0 : Int) (@Arr.cons Int (14 : Nat) (0 : Int) (@Arr.cons Int (13 : Nat) (0 : Int) (@Arr.cons Int (12 : Nat) (0 : Int) (@Arr.cons Int (11 : Nat) (0 : Int) (@Arr.cons Int (10 : Nat) (0 : Int) (@Arr.cons Int (9 : Nat) (0 : Int) (@Arr.cons Int (8 : Nat) (0 : Int) (@Arr.cons Int (7 : Nat) (0 : Int) (@Arr.cons Int (6 : Nat) (0 : Int) (@Arr.cons Int (5 : Nat) (0 : Int) (@Arr.cons Int (4 : Nat) (0 : Int) (@Arr.cons Int (3 : Nat) (0 : Int) (@Arr.cons Int (2 : Nat) (0 : Int) (@Arr.cons Int (1 : Nat) (0 : Int) (@Arr.cons Int (0 : Nat) (0 : Int) (@Arr.nil Int)))))))))))))))))))))))))))))))))) (@decT (@Td.arr (32 : Nat) (@Td.int @Go.IntKind.u8)) v3.1 (@Arr.cons Int (31 : Nat) (4 : Int) (@Arr.cons Int (30 : Nat) (0 : Int) (@Arr.cons Int (29 : Nat) (0 : Int) (@Arr.cons Int (28 : Nat) (0 : Int) (@Arr.cons Int (27 : Nat) (0 : Int) (@Arr.cons Int (26 : Nat) (0 : Int) (@Arr.cons Int (25 : Nat) (0 : Int) (@Arr.cons Int (24 : Nat) (0 : Int) (@Arr.cons Int (23 : Nat) (0 : Int) (@Arr.cons Int (22 : Nat) (0 : Int) (@Arr.cons Int (21 : Nat) (0 : Int) (@Arr.cons Int (20 : Nat) (0 : Int) (@Arr.cons Int (19 : Nat) (0 : Int) (@Arr.cons Int (18 : Nat) (0 : Int) (@Arr.cons Int (17 : Nat) (0 : Int) (@Arr.cons Int (16 : Nat) (0 : Int) (@Arr.cons Int (15 : Nat) (0 : Int) (@Arr.cons Int (14 : Nat) (0 : Int) (@Arr.cons Int (13 : Nat) (0 : Int) (@Arr.cons Int (12 : Nat) (0 : Int) (@Arr.cons Int (11 : Nat) (0 : Int) (@Arr.cons Int (10 : Nat) (0 : Int) (@Arr.cons Int (9 : Nat) (0 : Int) (@Arr.cons Int (8 : Nat) (0 : Int) (@Arr.cons Int (7 : Nat) (0 : Int) (@Arr.cons Int (6 : Nat) (0 : Int) (@Arr.cons Int (5 : Nat) (0 : Int) (@Arr.cons Int (4 : Nat) (0 : Int) (@Arr.cons Int (3 : Nat) (0 : Int) (@Arr.cons Int (2 : Nat) (0 : Int) (@Arr.cons Int (1 : Nat) (0 : Int) (@Arr.cons Int (0 : Nat) (0 : Int) (@Arr.nil Int))))))))))))))))))))))))))))))))))) @Bool.false) then
     bif (@cond Bool (@cond Bool @Bool.true (decide (v3.2 = (0 : Int))) @Bool.false) @Bool.true @Bool.false) then
      some ((@cond Bool @Bool.true (decide ((((List.length v1.2.2.1) : Nat) : Int) = (1 : Int))) @Bool.false))
     else
      some (@Bool.false)
    else
     some (@Bool.false)
   else
    none
  else
   some (@Bool.false)
 else
  some (@Bool.false)
theorem law34_alive_S (N : Nat) : (runK Go.Proofs.Try.prog (Ev195 N) 400 39 [] [.bool] ()).run = law34_alive N  := by kernel_rfl
theorem law34_alive_C (N : Nat) (y : Bool) (h : law34_alive N  = some y) : CallsK Go.Proofs.Try.prog 39 (valA [] ()) (tupV (valR [.bool] y)) := runK_ok hmx (Ev195_ok N _) (okFn_ok (by kernel_rfl)) (by rw [law34_alive_S]; exact h)
noncomputable def Ev196 (N : Nat) : (R : Type) → Env R := Env.addFn (Ev195 N) 39 (fun R => fnK [] [.bool] (fun c => law34_alive N ))
theorem Ev196_ok (N : Nat) (R : Type) : EnvOK Go.Proofs.Try.prog (Ev196 N R) := EnvOK.addFn hmx (Ev195_ok N R) (Ev195_ok N _) (by kernel_rfl) (fun c => law34_alive_S N )
noncomputable def Ev197 (N : Nat) : (R : Type) → Env R := Env.addBx (Ev196 N) [(9, 0)]
theorem Ev197_ok (N : Nat) (R : Type) : EnvOK Go.Proofs.Try.prog (Ev197 N R) := EnvOK.addBx (Ev196_ok N R) [(9, 0)]
noncomputable def law34_BindMakes (N : Nat) (k0 : (Arr (Int) 32) × ((Arr (Int) 32) × (Arr (Int) 32))) : Option (Bool) :=
 Option.bind (@bind_Connected N k0.1 k0.2.1 k0.2.2) fun (v2 : (Bool × (Int × ((List (Int × (List Int))) × (List Int))))) =>
 Option.bind (@ref34_Connected N k0.1 k0.2.1 k0.2.2) fun (v3 : (Bool × (Int × ((List (Int × (List Int))) × (List Int))))) =>
 Option.bind (@law34_theirs N (v3.1, (v3.2.1, (v3.2.2.1, v3.2.2.2)))) fun (v4 : (Bool × (Int × ((List (Int × (List Int))) × (List Int))))) =>
 Option.bind (@packet_Same N (v2.1, (v2.2.1, (v2.2.2.1, v2.2.2.2))) (v4.1, (v4.2.1, (v4.2.2.1, v4.2.2.2)))) fun (v5 : Bool) =>
 bif v5 then
  Option.bind (@bind_Ask N k0.2.1) fun (v6 : (Bool × (Int × ((List (Int × (List Int))) × (List Int))))) =>
  Option.bind (@ref34_Ask N k0.2.1) fun (v7 : (Bool × (Int × ((List (Int × (List Int))) × (List Int))))) =>
  Option.bind (@law34_theirs N (v7.1, (v7.2.1, (v7.2.2.1, v7.2.2.2)))) fun (v8 : (Bool × (Int × ((List (Int × (List Int))) × (List Int))))) =>
  Option.bind (@packet_Same N (v6.1, (v6.2.1, (v6.2.2.1, v6.2.2.2))) (v8.1, (v8.2.1, (v8.2.2.1, v8.2.2.2)))) fun (v9 : Bool) =>
  bif (@cond Bool @Bool.true v9 @Bool.false) then
   Option.bind (@law34_alive N) fun (v10 : Bool) =>
   some ((@cond Bool @Bool.true v10 @Bool.false))
  else
   some (@Bool.false)
 else
  some (@Bool.false)
theorem law34_BindMakes_S (N : Nat) (k0 : (Arr (Int) 32) × ((Arr (Int) 32) × (Arr (Int) 32))) : (runK Go.Proofs.Try.prog (Ev197 N) 400 9 [(.pair (.arr 32 (.int .u8)) (.pair (.arr 32 (.int .u8)) (.arr 32 (.int .u8))))] [.bool] (k0, ())).run = law34_BindMakes N k0 := by kernel_rfl
theorem law34_BindMakes_C (N : Nat) (k0 : (Arr (Int) 32) × ((Arr (Int) 32) × (Arr (Int) 32))) (y : Bool) (h : law34_BindMakes N k0 = some y) : CallsK Go.Proofs.Try.prog 9 (valA [(.pair (.arr 32 (.int .u8)) (.pair (.arr 32 (.int .u8)) (.arr 32 (.int .u8))))] (k0, ())) (tupV (valR [.bool] y)) := runK_ok hmx (Ev197_ok N _) (okFn_ok (by kernel_rfl)) (by rw [law34_BindMakes_S]; exact h)
noncomputable def Ev198 (N : Nat) : (R : Type) → Env R := Env.addFn (Ev197 N) 9 (fun R => fnK [(.pair (.arr 32 (.int .u8)) (.pair (.arr 32 (.int .u8)) (.arr 32 (.int .u8))))] [.bool] (fun c => law34_BindMakes N c.1))
theorem Ev198_ok (N : Nat) (R : Type) : EnvOK Go.Proofs.Try.prog (Ev198 N R) := EnvOK.addFn hmx (Ev197_ok N R) (Ev197_ok N _) (by kernel_rfl) (fun c => law34_BindMakes_S N c.1)
noncomputable def Ev199 (N : Nat) : (R : Type) → Env R := Env.addBx (Ev198 N) [(10, 0)]
theorem Ev199_ok (N : Nat) (R : Type) : EnvOK Go.Proofs.Try.prog (Ev199 N R) := EnvOK.addBx (Ev198_ok N R) [(10, 0)]
noncomputable def law34_BindOwn (N : Nat) (k0 : (Arr (Int) 32) × ((Arr (Int) 32) × (Arr (Int) 32))) (other1 : (Arr (Int) 32) × ((Arr (Int) 32) × (Arr (Int) 32))) : Option (Bool) :=
 Option.bind (@bind_Connected N k0.1 k0.2.1 k0.2.2) fun (v3 : (Bool × (Int × ((List (Int × (List Int))) × (List Int))))) =>
 Option.bind (@bind_Check N (v3.1, (v3.2.1, (v3.2.2.1, v3.2.2.2))) k0.1 k0.2.1 k0.2.2) fun (v4 : Int) =>
 bif (!(decide (v4 = (0 : Int)))) then
  some (@Bool.false)
 else
  bif ((@wfB (@Td.arr (32 : Nat) (@Td.int @Go.IntKind.u8)) other1.2.1) && (@wfB (@Td.arr (32 : Nat) (@Td.int @Go.IntKind.u8)) k0.2.1)) then
   bif (!(@Decidable.decide (@Eq (Arr Int 32) other1.2.1 k0.2.1) (@decT (@Td.arr (32 : Nat) (@Td.int @Go.IntKind.u8)) other1.2.1 k0.2.1))) then
    Option.bind (@bind_Check N (v3.1, (v3.2.1, (v3.2.2.1, v3.2.2.2))) k0.1 other1.2.1 k0.2.2) fun (v5 : Int) =>
    bif (@cond Bool @Bool.true (!(decide (v5 = (10 : Int)))) @Bool.false) then
     some (@Bool.false)
    else
     bif ((@wfB (@Td.arr (32 : Nat) (@Td.int @Go.IntKind.u8)) other1.2.2) && (@wfB (@Td.arr (32 : Nat) (@Td.int @Go.IntKind.u8)) k0.2.2)) then
      bif (!(@Decidable.decide (@Eq (Arr Int 32) other1.2.2 k0.2.2) (@decT (@Td.arr (32 : Nat) (@Td.int @Go.IntKind.u8)) other1.2.2 k0.2.2))) then
       Option.bind (@bind_Check N (v3.1, (v3.2.1, (v3.2.2.1, v3.2.2.2))) k0.1 k0.2.1 other1.2.2) fun (v6 : Int) =>
       bif (@cond Bool @Bool.false @Bool.true (@cond Bool @Bool.true (!(decide (v6 = (14 : Int)))) @Bool.false)) then
        some (@Bool.false)
       else
        Option.bind (@bind_Bare N (v3.1, (v3.2.1, (v3.2.2.1, v3.2.2.2)))) fun (v7 : ((Bool × (Int × ((List (Int × (List Int))) × (List Int)))) × Int)) =>
        Option.bind (@bind_Seal N (v3.1, (v3.2.1, (v3.2.2.1, v3.2.2.2))) k0.1) fun (v8 : ((Arr Int 32) × Int)) =>
        Option.bind (@bind_Seal N (v7.1.1, (v7.1.2.1, (v7.1.2.2.1, v7.1.2.2.2))) k0.1) fun (v9 : ((Arr Int 32) × Int)) =>
        bif (decide (v7.2 = (0 : Int))) then
         bif (@cond Bool @Bool.true (decide (v8.2 = (0 : Int))) @Bool.false) then
          bif (@cond Bool @Bool.true (decide (v9.2 = (0 : Int))) @Bool.false) then
           bif ((@wfB (@Td.arr (32 : Nat) (@Td.int @Go.IntKind.u8)) v8.1) && (@wfB (@Td.arr (32 : Nat) (@Td.int @Go.IntKind.u8)) v9.1)) then
            bif (@cond Bool @Bool.true (@Decidable.decide (@Eq (Arr Int 32) v8.1 v9.1) (@decT (@Td.arr (32 : Nat) (@Td.int @Go.IntKind.u8)) v8.1 v9.1)) @Bool.false) then
             Option.bind (@law34_alive N) fun (v10 : Bool) =>
             some ((@cond Bool @Bool.true v10 @Bool.false))
            else
             some (@Bool.false)
           else
            none
          else
           some (@Bool.false)
         else
          some (@Bool.false)
        else
         some (@Bool.false)
      else
       Option.bind (@bind_Bare N (v3.1, (v3.2.1, (v3.2.2.1, v3.2.2.2)))) fun (v6 : ((Bool × (Int × ((List (Int × (List Int))) × (List Int)))) × Int)) =>
       Option.bind (@bind_Seal N (v3.1, (v3.2.1, (v3.2.2.1, v3.2.2.2))) k0.1) fun (v7 : ((Arr Int 32) × Int)) =>
       Option.bind (@bind_Seal N (v6.1.1, (v6.1.2.1, (v6.1.2.2.1, v6.1.2.2.2))) k0.1) fun (v8 : ((Arr Int 32) × Int)) =>
       bif (decide (v6.2 = (0 : Int))) then
        bif (@cond Bool @Bool.true (decide (v7.2 = (0 : Int))) @Bool.false) then
         bif (@cond Bool @Bool.true (decide (v8.2 = (0 : Int))) @Bool.false) then
          bif ((@wfB (@Td.arr (32 : Nat) (@Td.int @Go.IntKind.u8)) v7.1) && (@wfB (@Td.arr (32 : Nat) (@Td.int @Go.IntKind.u8)) v8.1)) then
           bif (@cond Bool @Bool.true (@Decidable.decide (@Eq (Arr Int 32) v7.1 v8.1) (@decT (@Td.arr (32 : Nat) (@Td.int @Go.IntKind.u8)) v7.1 v8.1)) @Bool.false) then
            Option.bind (@law34_alive N) fun (v9 : Bool) =>
            some ((@cond Bool @Bool.true v9 @Bool.false))
           else
            some (@Bool.false)
          else
           none
         else
          some (@Bool.false)
        else
         some (@Bool.false)
       else
        some (@Bool.false)
     else
      none
   else
    bif ((@wfB (@Td.arr (32 : Nat) (@Td.int @Go.IntKind.u8)) other1.2.2) && (@wfB (@Td.arr (32 : Nat) (@Td.int @Go.IntKind.u8)) k0.2.2)) then
     bif (!(@Decidable.decide (@Eq (Arr Int 32) other1.2.2 k0.2.2) (@decT (@Td.arr (32 : Nat) (@Td.int @Go.IntKind.u8)) other1.2.2 k0.2.2))) then
      Option.bind (@bind_Check N (v3.1, (v3.2.1, (v3.2.2.1, v3.2.2.2))) k0.1 k0.2.1 other1.2.2) fun (v5 : Int) =>
      bif (@cond Bool @Bool.false @Bool.true (@cond Bool @Bool.true (!(decide (v5 = (14 : Int)))) @Bool.false)) then
       some (@Bool.false)
      else
       Option.bind (@bind_Bare N (v3.1, (v3.2.1, (v3.2.2.1, v3.2.2.2)))) fun (v6 : ((Bool × (Int × ((List (Int × (List Int))) × (List Int)))) × Int)) =>
       Option.bind (@bind_Seal N (v3.1, (v3.2.1, (v3.2.2.1, v3.2.2.2))) k0.1) fun (v7 : ((Arr Int 32) × Int)) =>
       Option.bind (@bind_Seal N (v6.1.1, (v6.1.2.1, (v6.1.2.2.1, v6.1.2.2.2))) k0.1) fun (v8 : ((Arr Int 32) × Int)) =>
       bif (decide (v6.2 = (0 : Int))) then
        bif (@cond Bool @Bool.true (decide (v7.2 = (0 : Int))) @Bool.false) then
         bif (@cond Bool @Bool.true (decide (v8.2 = (0 : Int))) @Bool.false) then
          bif ((@wfB (@Td.arr (32 : Nat) (@Td.int @Go.IntKind.u8)) v7.1) && (@wfB (@Td.arr (32 : Nat) (@Td.int @Go.IntKind.u8)) v8.1)) then
           bif (@cond Bool @Bool.true (@Decidable.decide (@Eq (Arr Int 32) v7.1 v8.1) (@decT (@Td.arr (32 : Nat) (@Td.int @Go.IntKind.u8)) v7.1 v8.1)) @Bool.false) then
            Option.bind (@law34_alive N) fun (v9 : Bool) =>
            some ((@cond Bool @Bool.true v9 @Bool.false))
           else
            some (@Bool.false)
          else
           none
         else
          some (@Bool.false)
        else
         some (@Bool.false)
       else
        some (@Bool.false)
     else
      Option.bind (@bind_Bare N (v3.1, (v3.2.1, (v3.2.2.1, v3.2.2.2)))) fun (v5 : ((Bool × (Int × ((List (Int × (List Int))) × (List Int)))) × Int)) =>
      Option.bind (@bind_Seal N (v3.1, (v3.2.1, (v3.2.2.1, v3.2.2.2))) k0.1) fun (v6 : ((Arr Int 32) × Int)) =>
      Option.bind (@bind_Seal N (v5.1.1, (v5.1.2.1, (v5.1.2.2.1, v5.1.2.2.2))) k0.1) fun (v7 : ((Arr Int 32) × Int)) =>
      bif (decide (v5.2 = (0 : Int))) then
       bif (@cond Bool @Bool.true (decide (v6.2 = (0 : Int))) @Bool.false) then
        bif (@cond Bool @Bool.true (decide (v7.2 = (0 : Int))) @Bool.false) then
         bif ((@wfB (@Td.arr (32 : Nat) (@Td.int @Go.IntKind.u8)) v6.1) && (@wfB (@Td.arr (32 : Nat) (@Td.int @Go.IntKind.u8)) v7.1)) then
          bif (@cond Bool @Bool.true (@Decidable.decide (@Eq (Arr Int 32) v6.1 v7.1) (@decT (@Td.arr (32 : Nat) (@Td.int @Go.IntKind.u8)) v6.1 v7.1)) @Bool.false) then
           Option.bind (@law34_alive N) fun (v8 : Bool) =>
           some ((@cond Bool @Bool.true v8 @Bool.false))
          else
           some (@Bool.false)
         else
          none
        else
         some (@Bool.false)
       else
        some (@Bool.false)
      else
       some (@Bool.false)
    else
     none
  else
   none
theorem law34_BindOwn_S (N : Nat) (k0 : (Arr (Int) 32) × ((Arr (Int) 32) × (Arr (Int) 32))) (other1 : (Arr (Int) 32) × ((Arr (Int) 32) × (Arr (Int) 32))) : (runK Go.Proofs.Try.prog (Ev199 N) 400 10 [(.pair (.arr 32 (.int .u8)) (.pair (.arr 32 (.int .u8)) (.arr 32 (.int .u8)))), (.pair (.arr 32 (.int .u8)) (.pair (.arr 32 (.int .u8)) (.arr 32 (.int .u8))))] [.bool] (k0, other1, ())).run = law34_BindOwn N k0 other1 := by kernel_rfl
theorem law34_BindOwn_C (N : Nat) (k0 : (Arr (Int) 32) × ((Arr (Int) 32) × (Arr (Int) 32))) (other1 : (Arr (Int) 32) × ((Arr (Int) 32) × (Arr (Int) 32))) (y : Bool) (h : law34_BindOwn N k0 other1 = some y) : CallsK Go.Proofs.Try.prog 10 (valA [(.pair (.arr 32 (.int .u8)) (.pair (.arr 32 (.int .u8)) (.arr 32 (.int .u8)))), (.pair (.arr 32 (.int .u8)) (.pair (.arr 32 (.int .u8)) (.arr 32 (.int .u8))))] (k0, other1, ())) (tupV (valR [.bool] y)) := runK_ok hmx (Ev199_ok N _) (okFn_ok (by kernel_rfl)) (by rw [law34_BindOwn_S]; exact h)
noncomputable def Ev200 (N : Nat) : (R : Type) → Env R := Env.addFn (Ev199 N) 10 (fun R => fnK [(.pair (.arr 32 (.int .u8)) (.pair (.arr 32 (.int .u8)) (.arr 32 (.int .u8)))), (.pair (.arr 32 (.int .u8)) (.pair (.arr 32 (.int .u8)) (.arr 32 (.int .u8))))] [.bool] (fun c => law34_BindOwn N c.1 c.2.1))
theorem Ev200_ok (N : Nat) (R : Type) : EnvOK Go.Proofs.Try.prog (Ev200 N R) := EnvOK.addFn hmx (Ev199_ok N R) (Ev199_ok N _) (by kernel_rfl) (fun c => law34_BindOwn_S N c.1 c.2.1)
end Go.Proofs.Ytbaidlcbldbmdaa
