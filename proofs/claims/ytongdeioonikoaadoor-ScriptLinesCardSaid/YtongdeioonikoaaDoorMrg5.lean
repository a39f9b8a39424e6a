/-
  Parts of my own, one behind the other: GScB, GSc, QSd0, QSd1, QSd2, QSd3, QSd4, QSd5, QSd6, QSc1, QSc2, QSc3, QSc4, QSc5, QSc6, QSc7, QSc8, QScA.
-/
import Derived.Test.YtongdeioonikoaaDoorMrg4
import Derived.Lib.ItoaMem
namespace Go.Proofs.YtongdeioonikoaaDoor
open Go.RowKit
set_option linter.unusedVariables false
set_option maxRecDepth 100000
section
variable (N : Nat)
noncomputable def ref01_Same (a0 : List (Int)) (b1 : List (Int)) : Option Bool :=
 bif (!(decide ((((List.length a0) : Nat) : Int) = (((List.length b1) : Nat) : Int)))) then
  some (false)
 else
  Option.bind (ref01_Same_L4_R N ((a0, (b1, ((0 : Int), ()))), ())) fun v3 =>
  Sum.elim
   (fun (v4 : ((Bool × Unit) × Unit)) =>
   some (v4.1.1))
   (fun (v4 : (Unit × Unit)) =>
   some (true)) v3
theorem ref01_Same_S (a0 : List (Int)) (b1 : List (Int)) : (runK Tryd.prog (Ev72 N) 400 12 [(.sl (.int .u8)), (.sl (.int .u8))] [.bool] (a0, b1, ())).run = ref01_Same N a0 b1 := by kernel_rfl
noncomputable def Ev73 : (R : Type) → Env R := Env.addFn (Ev72 N) 12 (fun R => fnK [(.sl (.int .u8)), (.sl (.int .u8))] [.bool] (fun c => ref01_Same N c.1 c.2.1))
theorem Ev73_ok (R : Type) : EnvOK Tryd.prog (Ev73 N R) := EnvOK.addFn hmx (Ev72_ok N R) (Ev72_ok N _) (by kernel_rfl) (fun c => ref01_Same_S N c.1 c.2.1)
noncomputable def octs_Same_L3_I : LI := ⟨35, 0, [], ⟨[(0, .ty (.sl (.int .u8))), (1, .ty (.sl (.int .u8))), (5, .ty (.int .i64)), (16, .ty (.int .i64)), (17, .ty (.int .i64))], []⟩, [(.exit 0, ⟨[(5, .ty (.int .i64))], []⟩)]⟩
noncomputable def octs_Same_L3 (N : Nat) (X : (((List Int) × ((List Int) × (Int × (Int × (Int × Unit))))) × Unit) → Option (((Int × Unit) × Unit))) (a0 : List (Int)) (b1 : List (Int)) (differ5 : Int) (x16 : Int) (x17 : Int) : Option (((Int × Unit) × Unit)) :=
 bif (decide (x17 < x16)) then
  Option.bind (getI a0 x17) fun (v7 : Int) =>
  Option.bind (getI b1 x17) fun (v8 : Int) =>
  (X ((a0, (b1, ((bits .or .i64 differ5 (IntKind.wrap .i64 (bits .xor .u8 v7 v8))), (x16, ((IntKind.wrap .i64 (x17 + 1)), ()))))), ()))
 else
  some (((differ5, ()), ()))
noncomputable def octs_Same_L3_R (c : (((List Int) × ((List Int) × (Int × (Int × (Int × Unit))))) × Unit)) : Option (((Int × Unit) × Unit)) := gl (fun X c => octs_Same_L3 N X c.1.1 c.1.2.1 c.1.2.2.1 c.1.2.2.2.1 c.1.2.2.2.2.1) N c
theorem octs_Same_L3_S (X : (((List Int) × ((List Int) × (Int × (Int × (Int × Unit))))) × Unit) → Option (((Int × Unit) × Unit))) (a0 : List (Int)) (b1 : List (Int)) (differ5 : Int) (x16 : Int) (x17 : Int) : (roundK Tryd.prog (Ev73 N) 400 [34] octs_Same_L3_I (loopAt Tryd.prog [34] 3) X ((a0, b1, differ5, x16, x17, ()), ())).run = octs_Same_L3 N X a0 b1 differ5 x16 x17 := by kernel_rfl
noncomputable def Ev74 : (R : Type) → Env R := Env.addLp (Ev73 N) [34] 0 3 (fun R => lpK Tryd.prog octs_Same_L3_I (fun X c => octs_Same_L3 N X c.1.1 c.1.2.1 c.1.2.2.1 c.1.2.2.2.1 c.1.2.2.2.2.1) N)
theorem Ev74_ok (R : Type) : EnvOK Tryd.prog (Ev74 N R) := EnvOK.addLp (Ev73_ok N R) (by kernel_rfl) (lpK_ok (li := octs_Same_L3_I) (G := fun X c => octs_Same_L3 N X c.1.1 c.1.2.1 c.1.2.2.1 c.1.2.2.2.1 c.1.2.2.2.2.1) hmx (Ev73_ok N _) (by kernel_rfl) loopAt_sub (fun (X : CT octs_Same_L3_I.sh → Option (OT octs_Same_L3_I.outs)) (c : CT octs_Same_L3_I.sh) => octs_Same_L3_S N X c.1.1 c.1.2.1 c.1.2.2.1 c.1.2.2.2.1 c.1.2.2.2.2.1) N)
noncomputable def octs_Same (a0 : List (Int)) (b1 : List (Int)) : Option Bool :=
 Option.bind (octs_Same_L3_R N ((a0, (b1, ((bits .xor .i64 (((List.length a0) : Nat) : Int) (((List.length b1) : Nat) : Int)), ((@minI (((List.length a0) : Nat) : Int) (((List.length b1) : Nat) : Int)), ((0 : Int), ()))))), ())) fun v3 =>
 some ((decide (v3.1.1 = (0 : Int))))
theorem octs_Same_S (a0 : List (Int)) (b1 : List (Int)) : (runK Tryd.prog (Ev74 N) 400 34 [(.sl (.int .u8)), (.sl (.int .u8))] [.bool] (a0, b1, ())).run = octs_Same N a0 b1 := by kernel_rfl
noncomputable def Ev75 : (R : Type) → Env R := Env.addFn (Ev74 N) 34 (fun R => fnK [(.sl (.int .u8)), (.sl (.int .u8))] [.bool] (fun c => octs_Same N c.1 c.2.1))
theorem Ev75_ok (R : Type) : EnvOK Tryd.prog (Ev75 N R) := EnvOK.addFn hmx (Ev74_ok N R) (Ev74_ok N _) (by kernel_rfl) (fun c => octs_Same_S N c.1 c.2.1)
noncomputable def script_isKind (N : Nat) (kind0 : Int) : Option Bool :=
 Option.bind (bif (decide ((1 : Int) ≤ kind0)) then
   some ((cond true (decide (kind0 ≤ (12 : Int))) false))
  else
   some (false)) fun (v2 : Bool) =>
 some (v2)
theorem script_isKind_S (kind0 : Int) : (runK Tryd.prog (Ev75 N) 400 28 [(.int .i64)] [.bool] (kind0, ())).run = script_isKind N kind0 := by kernel_rfl
noncomputable def Ev76 : (R : Type) → Env R := Env.addFn (Ev75 N) 28 (fun R => fnK [(.int .i64)] [.bool] (fun c => script_isKind N c.1))
theorem Ev76_ok (R : Type) : EnvOK Tryd.prog (Ev76 N R) := EnvOK.addFn hmx (Ev75_ok N R) (Ev75_ok N _) (by kernel_rfl) (fun c => script_isKind_S N c.1)
noncomputable def script_isByte (N : Nat) (n0 : Int) : Option Bool :=
 Option.bind (bif (decide ((0 : Int) ≤ n0)) then
   some ((cond true (decide (n0 ≤ (255 : Int))) false))
  else
   some (false)) fun (v2 : Bool) =>
 some (v2)
theorem script_isByte_S (n0 : Int) : (runK Tryd.prog (Ev76 N) 400 29 [(.int .i64)] [.bool] (n0, ())).run = script_isByte N n0 := by kernel_rfl
noncomputable def Ev77 : (R : Type) → Env R := Env.addFn (Ev76 N) 29 (fun R => fnK [(.int .i64)] [.bool] (fun c => script_isByte N c.1))
theorem Ev77_ok (R : Type) : EnvOK Tryd.prog (Ev77 N R) := EnvOK.addFn hmx (Ev76_ok N R) (Ev76_ok N _) (by kernel_rfl) (fun c => script_isByte_S N c.1)
noncomputable def Ev78 : (R : Type) → Env R := Env.addBx (Ev77 N) [(13, 0)]
theorem Ev78_ok (R : Type) : EnvOK Tryd.prog (Ev78 N R) := EnvOK.addBx (Ev77_ok N R) [(13, 0)]
noncomputable def script_May (x0 : Int × (Int × (Int × (Int × (Int × ((Arr Int 32) × (List UInt8 × (List UInt8 × (((Arr Int 32) × ((Arr Int 16) × Int)) × ((Arr Int 16) × (Int × (Int × (List Int))))))))))))) : Option Int :=
 Option.bind (script_isKind N x0.1) fun v2 =>
 bif (!v2) then
  some ((9 : Int))
 else
  Option.bind (script_isByte N x0.2.1) fun v3 =>
  bif (!v3) then
   some ((1 : Int))
  else
   Option.bind (script_isByte N x0.2.2.1) fun v4 =>
   Option.bind (some ((cond false true (!v4)))) fun (v5 : Bool) =>
   bif v5 then
    some ((1 : Int))
   else
    Option.bind (script_isByte N x0.2.2.2.1) fun v6 =>
    Option.bind (some ((cond false true (!v6)))) fun (v7 : Bool) =>
    Option.bind (bif v7 then
      some (true)
     else
      some ((cond false true (decide (x0.2.2.2.2.1 < (0 : Int)))))) fun (v8 : Bool) =>
    Option.bind (bif v8 then
      some (true)
     else
      some ((cond false true (decide ((2147483647 : Int) < x0.2.2.2.2.1))))) fun (v9 : Bool) =>
    bif v9 then
     some ((1 : Int))
    else
     bif (decide ((64 : Int) < (((List.length x0.2.2.2.2.2.2.1) : Nat) : Int))) then
      some ((8 : Int))
     else
      Option.bind (some ((cond false true (decide ((256 : Int) < (((List.length x0.2.2.2.2.2.2.2.1) : Nat) : Int)))))) fun (v10 : Bool) =>
      bif v10 then
       some ((8 : Int))
      else
       Option.bind (some ((cond false true (decide ((2000 : Int) < (((List.length x0.2.2.2.2.2.2.2.2.2.2.2.2) : Nat) : Int)))))) fun (v11 : Bool) =>
       bif v11 then
        some ((8 : Int))
       else
        some ((0 : Int))
theorem script_May_S (x0 : Int × (Int × (Int × (Int × (Int × ((Arr Int 32) × (List UInt8 × (List UInt8 × (((Arr Int 32) × ((Arr Int 16) × Int)) × ((Arr Int 16) × (Int × (Int × (List Int))))))))))))) : (runK Tryd.prog (Ev78 N) 400 13 [(.pair (.int .i64) (.pair (.int .i64) (.pair (.int .i64) (.pair (.int .i64) (.pair (.int .i64) (.pair (.arr 32 (.int .u8)) (.pair .str (.pair .str (.pair (.pair (.arr 32 (.int .u8)) (.pair (.arr 16 (.int .u8)) (.int .u32))) (.pair (.arr 16 (.int .u8)) (.pair (.int .u32) (.pair (.int .u32) (.sl (.int .u8))))))))))))))] [(.int .i64)] (x0, ())).run = script_May N x0 := by kernel_rfl
noncomputable def Ev79 : (R : Type) → Env R := Env.addFn (Ev78 N) 13 (fun R => fnK [(.pair (.int .i64) (.pair (.int .i64) (.pair (.int .i64) (.pair (.int .i64) (.pair (.int .i64) (.pair (.arr 32 (.int .u8)) (.pair .str (.pair .str (.pair (.pair (.arr 32 (.int .u8)) (.pair (.arr 16 (.int .u8)) (.int .u32))) (.pair (.arr 16 (.int .u8)) (.pair (.int .u32) (.pair (.int .u32) (.sl (.int .u8))))))))))))))] [(.int .i64)] (fun c => script_May N c.1))
theorem Ev79_ok (R : Type) : EnvOK Tryd.prog (Ev79 N R) := EnvOK.addFn hmx (Ev78_ok N R) (Ev78_ok N _) (by kernel_rfl) (fun c => script_May_S N c.1)
noncomputable def script_number (n0 : Int) (width1 : Int) : Option (List Int) :=
 Option.bind (octs_Put N n0 width1 false) fun v3 =>
 some (v3.1)
theorem script_number_S (n0 : Int) (width1 : Int) : (runK Tryd.prog (Ev79 N) 400 24 [(.int .u64), (.int .i64)] [(.sl (.int .u8))] (n0, width1, ())).run = script_number N n0 width1 := by kernel_rfl
noncomputable def Ev80 : (R : Type) → Env R := Env.addFn (Ev79 N) 24 (fun R => fnK [(.int .u64), (.int .i64)] [(.sl (.int .u8))] (fun c => script_number N c.1 c.2.1))
theorem Ev80_ok (R : Type) : EnvOK Tryd.prog (Ev80 N R) := EnvOK.addFn hmx (Ev79_ok N R) (Ev79_ok N _) (by kernel_rfl) (fun c => script_number_S N c.1 c.2.1)
noncomputable def script_long_1_octs_Join_L3_I : LI := ⟨33, 0, [], ⟨[(0, .ty (.sl (.sl (.int .u8)))), (3, .ty (.int .i64)), (9, .ty (.sl (.sl (.int .u8)))), (10, .ty (.int .i64)), (11, .ty (.int .i64))], []⟩, [(.exit 0, ⟨[(0, .ty (.sl (.sl (.int .u8)))), (3, .ty (.int .i64))], []⟩)]⟩
noncomputable def script_long_1_octs_Join_L3 (N : Nat) (X : (((List (List Int)) × (Int × ((List (List Int)) × (Int × (Int × Unit))))) × Unit) → Option ((((List (List Int)) × (Int × Unit)) × Unit))) (parts0 : List (List Int)) (size3 : Int) (x9 : List (List Int)) (x10 : Int) (x11 : Int) : Option ((((List (List Int)) × (Int × Unit)) × Unit)) :=
 bif (decide (x11 < x10)) then
  Option.bind (getI x9 x11) fun (v7 : (List Int)) =>
  (X ((parts0, ((IntKind.wrap .i64 (size3 + (((List.length v7) : Nat) : Int))), (x9, (x10, ((IntKind.wrap .i64 (x11 + 1)), ()))))), ()))
 else
  some (((parts0, (size3, ())), ()))
noncomputable def script_long_1_octs_Join_L3_R (c : (((List (List Int)) × (Int × ((List (List Int)) × (Int × (Int × Unit))))) × Unit)) : Option ((((List (List Int)) × (Int × Unit)) × Unit)) := gl (fun X c => script_long_1_octs_Join_L3 N X c.1.1 c.1.2.1 c.1.2.2.1 c.1.2.2.2.1 c.1.2.2.2.2.1) N c
theorem script_long_1_octs_Join_L3_S (X : (((List (List Int)) × (Int × ((List (List Int)) × (Int × (Int × Unit))))) × Unit) → Option ((((List (List Int)) × (Int × Unit)) × Unit))) (parts0 : List (List Int)) (size3 : Int) (x9 : List (List Int)) (x10 : Int) (x11 : Int) : (roundK Tryd.prog (Ev80 N) 400 [23, 1, 43] script_long_1_octs_Join_L3_I (loopAt Tryd.prog [23, 1, 43] 3) X ((parts0, size3, x9, x10, x11, ()), ())).run = script_long_1_octs_Join_L3 N X parts0 size3 x9 x10 x11 := by kernel_rfl
noncomputable def Ev81 : (R : Type) → Env R := Env.addLp (Ev80 N) [23, 1, 43] 0 3 (fun R => lpK Tryd.prog script_long_1_octs_Join_L3_I (fun X c => script_long_1_octs_Join_L3 N X c.1.1 c.1.2.1 c.1.2.2.1 c.1.2.2.2.1 c.1.2.2.2.2.1) N)
theorem Ev81_ok (R : Type) : EnvOK Tryd.prog (Ev81 N R) := EnvOK.addLp (Ev80_ok N R) (by kernel_rfl) (lpK_ok (li := script_long_1_octs_Join_L3_I) (G := fun X c => script_long_1_octs_Join_L3 N X c.1.1 c.1.2.1 c.1.2.2.1 c.1.2.2.2.1 c.1.2.2.2.2.1) hmx (Ev80_ok N _) (by kernel_rfl) loopAt_sub (fun (X : CT script_long_1_octs_Join_L3_I.sh → Option (OT script_long_1_octs_Join_L3_I.outs)) (c : CT script_long_1_octs_Join_L3_I.sh) => script_long_1_octs_Join_L3_S N X c.1.1 c.1.2.1 c.1.2.2.1 c.1.2.2.2.1 c.1.2.2.2.2.1) N)
noncomputable def script_long_1_octs_Join_L9_I : LI := ⟨33, 0, [], ⟨[(6, .lit (.own 0)), (22, .ty (.sl (.sl (.int .u8)))), (23, .ty (.int .i64)), (24, .ty (.int .i64))], [.own (.int .u8) 5]⟩, [(.exit 2, ⟨[(6, .lit (.own 0))], [.own (.int .u8) 5]⟩)]⟩
noncomputable def script_long_1_octs_Join_L9 (N : Nat) (X : (((List (List Int)) × (Int × (Int × Unit))) × ((List Int) × Unit)) → Option ((Unit × ((List Int) × Unit)))) (x22 : List (List Int)) (x23 : Int) (x24 : Int) (h0 : List (Int)) : Option ((Unit × ((List Int) × Unit))) :=
 bif (decide (x24 < x23)) then
  Option.bind (getI x22 x24) fun (v6 : (List Int)) =>
  bif (roomB ((List.length h0) + (List.length v6)) 1) then
   (X ((x22, (x23, ((IntKind.wrap .i64 (x24 + 1)), ()))), ((h0 ++ v6), ())))
  else
   none
 else
  some (((), (h0, ())))
noncomputable def script_long_1_octs_Join_L9_R (c : (((List (List Int)) × (Int × (Int × Unit))) × ((List Int) × Unit))) : Option ((Unit × ((List Int) × Unit))) := gl (fun X c => script_long_1_octs_Join_L9 N X c.1.1 c.1.2.1 c.1.2.2.1 c.2.1) N c
theorem script_long_1_octs_Join_L9_S (X : (((List (List Int)) × (Int × (Int × Unit))) × ((List Int) × Unit)) → Option ((Unit × ((List Int) × Unit)))) (x22 : List (List Int)) (x23 : Int) (x24 : Int) (h0 : List (Int)) : (roundK Tryd.prog (Ev81 N) 400 [23, 1, 43] script_long_1_octs_Join_L9_I (loopAt Tryd.prog [23, 1, 43] 9) X ((x22, x23, x24, ()), (h0, ()))).run = script_long_1_octs_Join_L9 N X x22 x23 x24 h0 := by kernel_rfl
noncomputable def Ev82 : (R : Type) → Env R := Env.addLp (Ev81 N) [23, 1, 43] 0 9 (fun R => lpK Tryd.prog script_long_1_octs_Join_L9_I (fun X c => script_long_1_octs_Join_L9 N X c.1.1 c.1.2.1 c.1.2.2.1 c.2.1) N)
theorem Ev82_ok (R : Type) : EnvOK Tryd.prog (Ev82 N R) := EnvOK.addLp (Ev81_ok N R) (by kernel_rfl) (lpK_ok (li := script_long_1_octs_Join_L9_I) (G := fun X c => script_long_1_octs_Join_L9 N X c.1.1 c.1.2.1 c.1.2.2.1 c.2.1) hmx (Ev81_ok N _) (by kernel_rfl) loopAt_sub (fun (X : CT script_long_1_octs_Join_L9_I.sh → Option (OT script_long_1_octs_Join_L9_I.outs)) (c : CT script_long_1_octs_Join_L9_I.sh) => script_long_1_octs_Join_L9_S N X c.1.1 c.1.2.1 c.1.2.2.1 c.2.1) N)
noncomputable def script_long (b0 : List (Int)) : Option (List Int) :=
 Option.bind (script_number N (IntKind.wrap .u64 (((List.length b0) : Nat) : Int)) (2 : Int)) fun v2 =>
 Option.bind (script_long_1_octs_Join_L3_R N ((([v2, b0] : List ((List Int))), ((0 : Int), (([v2, b0] : List ((List Int))), ((((List.length ([v2, b0] : List ((List Int)))) : Nat) : Int), ((0 : Int), ()))))), ())) fun v3 =>
 bif ((decide ((0 : Int) ≤ (0 : Int) ∧ (0 : Int) ≤ v3.1.2.1)) && (roomB (Int.toNat v3.1.2.1) 1)) then
  Option.bind (script_long_1_octs_Join_L9_R N ((v3.1.1, ((((List.length v3.1.1) : Nat) : Int), ((0 : Int), ()))), ((@List.replicate Int (Int.toNat (0 : Int)) (0 : Int)), ()))) fun v4 =>
  some (v4.2.1)
 else
  none
theorem script_long_S (b0 : List (Int)) : (runK Tryd.prog (Ev82 N) 400 43 [(.sl (.int .u8))] [(.sl (.int .u8))] (b0, ())).run = script_long N b0 := by kernel_rfl
noncomputable def Ev83 : (R : Type) → Env R := Env.addFn (Ev82 N) 43 (fun R => fnK [(.sl (.int .u8))] [(.sl (.int .u8))] (fun c => script_long N c.1))
theorem Ev83_ok (R : Type) : EnvOK Tryd.prog (Ev83 N R) := EnvOK.addFn hmx (Ev82_ok N R) (Ev82_ok N _) (by kernel_rfl) (fun c => script_long_S N c.1)
noncomputable def Ev84 : (R : Type) → Env R := Env.addBx (Ev83 N) [(25, 0)]
theorem Ev84_ok (R : Type) : EnvOK Tryd.prog (Ev84 N R) := EnvOK.addBx (Ev83_ok N R) [(25, 0)]
noncomputable def script_event_1_octs_Join_L3_I : LI := ⟨33, 0, [], ⟨[(0, .ty (.sl (.sl (.int .u8)))), (3, .ty (.int .i64)), (9, .ty (.sl (.sl (.int .u8)))), (10, .ty (.int .i64)), (11, .ty (.int .i64))], []⟩, [(.exit 0, ⟨[(0, .ty (.sl (.sl (.int .u8)))), (3, .ty (.int .i64))], []⟩)]⟩
noncomputable def script_event_1_octs_Join_L3 (N : Nat) (X : (((List (List Int)) × (Int × ((List (List Int)) × (Int × (Int × Unit))))) × Unit) → Option ((((List (List Int)) × (Int × Unit)) × Unit))) (parts0 : List (List Int)) (size3 : Int) (x9 : List (List Int)) (x10 : Int) (x11 : Int) : Option ((((List (List Int)) × (Int × Unit)) × Unit)) :=
 bif (decide (x11 < x10)) then
  Option.bind (getI x9 x11) fun (v7 : (List Int)) =>
  (X ((parts0, ((IntKind.wrap .i64 (size3 + (((List.length v7) : Nat) : Int))), (x9, (x10, ((IntKind.wrap .i64 (x11 + 1)), ()))))), ()))
 else
  some (((parts0, (size3, ())), ()))
noncomputable def script_event_1_octs_Join_L3_R (c : (((List (List Int)) × (Int × ((List (List Int)) × (Int × (Int × Unit))))) × Unit)) : Option ((((List (List Int)) × (Int × Unit)) × Unit)) := gl (fun X c => script_event_1_octs_Join_L3 N X c.1.1 c.1.2.1 c.1.2.2.1 c.1.2.2.2.1 c.1.2.2.2.2.1) N c
theorem script_event_1_octs_Join_L3_S (X : (((List (List Int)) × (Int × ((List (List Int)) × (Int × (Int × Unit))))) × Unit) → Option ((((List (List Int)) × (Int × Unit)) × Unit))) (parts0 : List (List Int)) (size3 : Int) (x9 : List (List Int)) (x10 : Int) (x11 : Int) : (roundK Tryd.prog (Ev84 N) 400 [23, 1, 25] script_event_1_octs_Join_L3_I (loopAt Tryd.prog [23, 1, 25] 3) X ((parts0, size3, x9, x10, x11, ()), ())).run = script_event_1_octs_Join_L3 N X parts0 size3 x9 x10 x11 := by kernel_rfl
noncomputable def Ev85 : (R : Type) → Env R := Env.addLp (Ev84 N) [23, 1, 25] 0 3 (fun R => lpK Tryd.prog script_event_1_octs_Join_L3_I (fun X c => script_event_1_octs_Join_L3 N X c.1.1 c.1.2.1 c.1.2.2.1 c.1.2.2.2.1 c.1.2.2.2.2.1) N)
theorem Ev85_ok (R : Type) : EnvOK Tryd.prog (Ev85 N R) := EnvOK.addLp (Ev84_ok N R) (by kernel_rfl) (lpK_ok (li := script_event_1_octs_Join_L3_I) (G := fun X c => script_event_1_octs_Join_L3 N X c.1.1 c.1.2.1 c.1.2.2.1 c.1.2.2.2.1 c.1.2.2.2.2.1) hmx (Ev84_ok N _) (by kernel_rfl) loopAt_sub (fun (X : CT script_event_1_octs_Join_L3_I.sh → Option (OT script_event_1_octs_Join_L3_I.outs)) (c : CT script_event_1_octs_Join_L3_I.sh) => script_event_1_octs_Join_L3_S N X c.1.1 c.1.2.1 c.1.2.2.1 c.1.2.2.2.1 c.1.2.2.2.2.1) N)
noncomputable def script_event_1_octs_Join_L9_I : LI := ⟨33, 0, [], ⟨[(6, .lit (.own 0)), (22, .ty (.sl (.sl (.int .u8)))), (23, .ty (.int .i64)), (24, .ty (.int .i64))], [.own (.int .u8) 5]⟩, [(.exit 2, ⟨[(6, .lit (.own 0))], [.own (.int .u8) 5]⟩)]⟩
noncomputable def script_event_1_octs_Join_L9 (N : Nat) (X : (((List (List Int)) × (Int × (Int × Unit))) × ((List Int) × Unit)) → Option ((Unit × ((List Int) × Unit)))) (x22 : List (List Int)) (x23 : Int) (x24 : Int) (h0 : List (Int)) : Option ((Unit × ((List Int) × Unit))) :=
 bif (decide (x24 < x23)) then
  Option.bind (getI x22 x24) fun (v6 : (List Int)) =>
  bif (roomB ((List.length h0) + (List.length v6)) 1) then
   (X ((x22, (x23, ((IntKind.wrap .i64 (x24 + 1)), ()))), ((h0 ++ v6), ())))
  else
   none
 else
  some (((), (h0, ())))
noncomputable def script_event_1_octs_Join_L9_R (c : (((List (List Int)) × (Int × (Int × Unit))) × ((List Int) × Unit))) : Option ((Unit × ((List Int) × Unit))) := gl (fun X c => script_event_1_octs_Join_L9 N X c.1.1 c.1.2.1 c.1.2.2.1 c.2.1) N c
theorem script_event_1_octs_Join_L9_S (X : (((List (List Int)) × (Int × (Int × Unit))) × ((List Int) × Unit)) → Option ((Unit × ((List Int) × Unit)))) (x22 : List (List Int)) (x23 : Int) (x24 : Int) (h0 : List (Int)) : (roundK Tryd.prog (Ev85 N) 400 [23, 1, 25] script_event_1_octs_Join_L9_I (loopAt Tryd.prog [23, 1, 25] 9) X ((x22, x23, x24, ()), (h0, ()))).run = script_event_1_octs_Join_L9 N X x22 x23 x24 h0 := by kernel_rfl
noncomputable def Ev86 : (R : Type) → Env R := Env.addLp (Ev85 N) [23, 1, 25] 0 9 (fun R => lpK Tryd.prog script_event_1_octs_Join_L9_I (fun X c => script_event_1_octs_Join_L9 N X c.1.1 c.1.2.1 c.1.2.2.1 c.2.1) N)
theorem Ev86_ok (R : Type) : EnvOK Tryd.prog (Ev86 N R) := EnvOK.addLp (Ev85_ok N R) (by kernel_rfl) (lpK_ok (li := script_event_1_octs_Join_L9_I) (G := fun X c => script_event_1_octs_Join_L9 N X c.1.1 c.1.2.1 c.1.2.2.1 c.2.1) hmx (Ev85_ok N _) (by kernel_rfl) loopAt_sub (fun (X : CT script_event_1_octs_Join_L9_I.sh → Option (OT script_event_1_octs_Join_L9_I.outs)) (c : CT script_event_1_octs_Join_L9_I.sh) => script_event_1_octs_Join_L9_S N X c.1.1 c.1.2.1 c.1.2.2.1 c.2.1) N)
noncomputable def script_event (x0 : Int × (Int × (Int × (Int × (Int × ((Arr Int 32) × (List UInt8 × (List UInt8 × (((Arr Int 32) × ((Arr Int 16) × Int)) × ((Arr Int 16) × (Int × (Int × (List Int))))))))))))) : Option (List Int) :=
 Option.bind (script_number N (IntKind.wrap .u64 x0.2.2.2.2.1) (4 : Int)) fun v2 =>
 Option.bind (script_number N (IntKind.wrap .u64 x0.2.2.2.2.2.2.2.2.1.2.2) (4 : Int)) fun v3 =>
 Option.bind (script_number N (IntKind.wrap .u64 x0.2.2.2.2.2.2.2.2.2.2.1) (4 : Int)) fun v4 =>
 Option.bind (script_number N (IntKind.wrap .u64 x0.2.2.2.2.2.2.2.2.2.2.2.1) (4 : Int)) fun v5 =>
 bif (roomB (List.length x0.2.2.2.2.2.2.1) 1) then
  Option.bind (script_long N (@ofB x0.2.2.2.2.2.2.1)) fun v6 =>
  bif (roomB (List.length x0.2.2.2.2.2.2.2.1) 1) then
   Option.bind (script_long N (@ofB x0.2.2.2.2.2.2.2.1)) fun v7 =>
   Option.bind (script_long N x0.2.2.2.2.2.2.2.2.2.2.2.2) fun v8 =>
   Option.bind (script_event_1_octs_Join_L3_R N ((([([(IntKind.wrap .u8 x0.1), (IntKind.wrap .u8 x0.2.1), (IntKind.wrap .u8 x0.2.2.1), (IntKind.wrap .u8 x0.2.2.2.1)] : List (Int)), v2, x0.2.2.2.2.2.1.l, x0.2.2.2.2.2.2.2.2.1.1.l, x0.2.2.2.2.2.2.2.2.1.2.1.l, v3, x0.2.2.2.2.2.2.2.2.2.1.l, v4, v5, v6, v7, v8] : List ((List Int))), ((0 : Int), (([([(IntKind.wrap .u8 x0.1), (IntKind.wrap .u8 x0.2.1), (IntKind.wrap .u8 x0.2.2.1), (IntKind.wrap .u8 x0.2.2.2.1)] : List (Int)), v2, x0.2.2.2.2.2.1.l, x0.2.2.2.2.2.2.2.2.1.1.l, x0.2.2.2.2.2.2.2.2.1.2.1.l, v3, x0.2.2.2.2.2.2.2.2.2.1.l, v4, v5, v6, v7, v8] : List ((List Int))), ((((List.length ([([(IntKind.wrap .u8 x0.1), (IntKind.wrap .u8 x0.2.1), (IntKind.wrap .u8 x0.2.2.1), (IntKind.wrap .u8 x0.2.2.2.1)] : List (Int)), v2, x0.2.2.2.2.2.1.l, x0.2.2.2.2.2.2.2.2.1.1.l, x0.2.2.2.2.2.2.2.2.1.2.1.l, v3, x0.2.2.2.2.2.2.2.2.2.1.l, v4, v5, v6, v7, v8] : List ((List Int)))) : Nat) : Int), ((0 : Int), ()))))), ())) fun v9 =>
   bif ((decide ((0 : Int) ≤ (0 : Int) ∧ (0 : Int) ≤ v9.1.2.1)) && (roomB (Int.toNat v9.1.2.1) 1)) then
    Option.bind (script_event_1_octs_Join_L9_R N ((v9.1.1, ((((List.length v9.1.1) : Nat) : Int), ((0 : Int), ()))), ((@List.replicate Int (Int.toNat (0 : Int)) (0 : Int)), ()))) fun v10 =>
    some (v10.2.1)
   else
    none
  else
   none
 else
  none
theorem script_event_S (x0 : Int × (Int × (Int × (Int × (Int × ((Arr Int 32) × (List UInt8 × (List UInt8 × (((Arr Int 32) × ((Arr Int 16) × Int)) × ((Arr Int 16) × (Int × (Int × (List Int))))))))))))) : (runK Tryd.prog (Ev86 N) 400 25 [(.pair (.int .i64) (.pair (.int .i64) (.pair (.int .i64) (.pair (.int .i64) (.pair (.int .i64) (.pair (.arr 32 (.int .u8)) (.pair .str (.pair .str (.pair (.pair (.arr 32 (.int .u8)) (.pair (.arr 16 (.int .u8)) (.int .u32))) (.pair (.arr 16 (.int .u8)) (.pair (.int .u32) (.pair (.int .u32) (.sl (.int .u8))))))))))))))] [(.sl (.int .u8))] (x0, ())).run = script_event N x0 := by kernel_rfl
noncomputable def Ev87 : (R : Type) → Env R := Env.addFn (Ev86 N) 25 (fun R => fnK [(.pair (.int .i64) (.pair (.int .i64) (.pair (.int .i64) (.pair (.int .i64) (.pair (.int .i64) (.pair (.arr 32 (.int .u8)) (.pair .str (.pair .str (.pair (.pair (.arr 32 (.int .u8)) (.pair (.arr 16 (.int .u8)) (.int .u32))) (.pair (.arr 16 (.int .u8)) (.pair (.int .u32) (.pair (.int .u32) (.sl (.int .u8))))))))))))))] [(.sl (.int .u8))] (fun c => script_event N c.1))
theorem Ev87_ok (R : Type) : EnvOK Tryd.prog (Ev87 N R) := EnvOK.addFn hmx (Ev86_ok N R) (Ev86_ok N _) (by kernel_rfl) (fun c => script_event_S N c.1)
noncomputable def script_seal (b0 : List (Int)) : Option (List Int) :=
 Option.bind (sha256_Of N ([b0] : List ((List Int)))) fun v2 =>
 Option.bind (takeI v2.l (8 : Int)) fun (v3 : (List Int)) =>
 some (v3)
theorem script_seal_S (b0 : List (Int)) : (runK Tryd.prog (Ev87 N) 400 26 [(.sl (.int .u8))] [(.sl (.int .u8))] (b0, ())).run = script_seal N b0 := by kernel_rfl
noncomputable def Ev88 : (R : Type) → Env R := Env.addFn (Ev87 N) 26 (fun R => fnK [(.sl (.int .u8))] [(.sl (.int .u8))] (fun c => script_seal N c.1))
theorem Ev88_ok (R : Type) : EnvOK Tryd.prog (Ev88 N R) := EnvOK.addFn hmx (Ev87_ok N R) (Ev87_ok N _) (by kernel_rfl) (fun c => script_seal_S N c.1)
noncomputable def Ev89 : (R : Type) → Env R := Env.addMv (Ev88 N) [(9, 12)]
theorem Ev89_ok (R : Type) : EnvOK Tryd.prog (Ev89 N R) := EnvOK.addMv (Ev88_ok N R) [(9, 12)]
noncomputable def Ev90 : (R : Type) → Env R := Env.addBx (Ev89 N) [(9, 12)]
theorem Ev90_ok (R : Type) : EnvOK Tryd.prog (Ev90 N R) := EnvOK.addBx (Ev89_ok N R) [(9, 12)]
noncomputable def script_Lay_3_octs_Join_L3_I : LI := ⟨33, 0, [], ⟨[(0, .ty (.sl (.sl (.int .u8)))), (3, .ty (.int .i64)), (9, .ty (.sl (.sl (.int .u8)))), (10, .ty (.int .i64)), (11, .ty (.int .i64))], []⟩, [(.exit 0, ⟨[(0, .ty (.sl (.sl (.int .u8)))), (3, .ty (.int .i64))], []⟩)]⟩
noncomputable def script_Lay_3_octs_Join_L3 (N : Nat) (X : (((List (List Int)) × (Int × ((List (List Int)) × (Int × (Int × Unit))))) × Unit) → Option ((((List (List Int)) × (Int × Unit)) × Unit))) (parts0 : List (List Int)) (size3 : Int) (x9 : List (List Int)) (x10 : Int) (x11 : Int) : Option ((((List (List Int)) × (Int × Unit)) × Unit)) :=
 bif (decide (x11 < x10)) then
  Option.bind (getI x9 x11) fun (v7 : (List Int)) =>
  (X ((parts0, ((IntKind.wrap .i64 (size3 + (((List.length v7) : Nat) : Int))), (x9, (x10, ((IntKind.wrap .i64 (x11 + 1)), ()))))), ()))
 else
  some (((parts0, (size3, ())), ()))
noncomputable def script_Lay_3_octs_Join_L3_R (c : (((List (List Int)) × (Int × ((List (List Int)) × (Int × (Int × Unit))))) × Unit)) : Option ((((List (List Int)) × (Int × Unit)) × Unit)) := gl (fun X c => script_Lay_3_octs_Join_L3 N X c.1.1 c.1.2.1 c.1.2.2.1 c.1.2.2.2.1 c.1.2.2.2.2.1) N c
theorem script_Lay_3_octs_Join_L3_S (X : (((List (List Int)) × (Int × ((List (List Int)) × (Int × (Int × Unit))))) × Unit) → Option ((((List (List Int)) × (Int × Unit)) × Unit))) (parts0 : List (List Int)) (size3 : Int) (x9 : List (List Int)) (x10 : Int) (x11 : Int) : (roundK Tryd.prog (Ev90 N) 400 [23, 3, 9] script_Lay_3_octs_Join_L3_I (loopAt Tryd.prog [23, 3, 9] 3) X ((parts0, size3, x9, x10, x11, ()), ())).run = script_Lay_3_octs_Join_L3 N X parts0 size3 x9 x10 x11 := by kernel_rfl
noncomputable def Ev91 : (R : Type) → Env R := Env.addLp (Ev90 N) [23, 3, 9] 0 3 (fun R => lpK Tryd.prog script_Lay_3_octs_Join_L3_I (fun X c => script_Lay_3_octs_Join_L3 N X c.1.1 c.1.2.1 c.1.2.2.1 c.1.2.2.2.1 c.1.2.2.2.2.1) N)
theorem Ev91_ok (R : Type) : EnvOK Tryd.prog (Ev91 N R) := EnvOK.addLp (Ev90_ok N R) (by kernel_rfl) (lpK_ok (li := script_Lay_3_octs_Join_L3_I) (G := fun X c => script_Lay_3_octs_Join_L3 N X c.1.1 c.1.2.1 c.1.2.2.1 c.1.2.2.2.1 c.1.2.2.2.2.1) hmx (Ev90_ok N _) (by kernel_rfl) loopAt_sub (fun (X : CT script_Lay_3_octs_Join_L3_I.sh → Option (OT script_Lay_3_octs_Join_L3_I.outs)) (c : CT script_Lay_3_octs_Join_L3_I.sh) => script_Lay_3_octs_Join_L3_S N X c.1.1 c.1.2.1 c.1.2.2.1 c.1.2.2.2.1 c.1.2.2.2.2.1) N)
noncomputable def script_Lay_3_octs_Join_L9_I : LI := ⟨33, 0, [], ⟨[(6, .lit (.own 0)), (22, .ty (.sl (.sl (.int .u8)))), (23, .ty (.int .i64)), (24, .ty (.int .i64))], [.own (.int .u8) 5]⟩, [(.exit 2, ⟨[(6, .lit (.own 0))], [.own (.int .u8) 5]⟩)]⟩
noncomputable def script_Lay_3_octs_Join_L9 (N : Nat) (X : (((List (List Int)) × (Int × (Int × Unit))) × ((List Int) × Unit)) → Option ((Unit × ((List Int) × Unit)))) (x22 : List (List Int)) (x23 : Int) (x24 : Int) (h0 : List (Int)) : Option ((Unit × ((List Int) × Unit))) :=
 bif (decide (x24 < x23)) then
  Option.bind (getI x22 x24) fun (v6 : (List Int)) =>
  bif (roomB ((List.length h0) + (List.length v6)) 1) then
   (X ((x22, (x23, ((IntKind.wrap .i64 (x24 + 1)), ()))), ((h0 ++ v6), ())))
  else
   none
 else
  some (((), (h0, ())))
noncomputable def script_Lay_3_octs_Join_L9_R (c : (((List (List Int)) × (Int × (Int × Unit))) × ((List Int) × Unit))) : Option ((Unit × ((List Int) × Unit))) := gl (fun X c => script_Lay_3_octs_Join_L9 N X c.1.1 c.1.2.1 c.1.2.2.1 c.2.1) N c
theorem script_Lay_3_octs_Join_L9_S (X : (((List (List Int)) × (Int × (Int × Unit))) × ((List Int) × Unit)) → Option ((Unit × ((List Int) × Unit)))) (x22 : List (List Int)) (x23 : Int) (x24 : Int) (h0 : List (Int)) : (roundK Tryd.prog (Ev91 N) 400 [23, 3, 9] script_Lay_3_octs_Join_L9_I (loopAt Tryd.prog [23, 3, 9] 9) X ((x22, x23, x24, ()), (h0, ()))).run = script_Lay_3_octs_Join_L9 N X x22 x23 x24 h0 := by kernel_rfl
noncomputable def Ev92 : (R : Type) → Env R := Env.addLp (Ev91 N) [23, 3, 9] 0 9 (fun R => lpK Tryd.prog script_Lay_3_octs_Join_L9_I (fun X c => script_Lay_3_octs_Join_L9 N X c.1.1 c.1.2.1 c.1.2.2.1 c.2.1) N)
theorem Ev92_ok (R : Type) : EnvOK Tryd.prog (Ev92 N R) := EnvOK.addLp (Ev91_ok N R) (by kernel_rfl) (lpK_ok (li := script_Lay_3_octs_Join_L9_I) (G := fun X c => script_Lay_3_octs_Join_L9 N X c.1.1 c.1.2.1 c.1.2.2.1 c.2.1) hmx (Ev91_ok N _) (by kernel_rfl) loopAt_sub (fun (X : CT script_Lay_3_octs_Join_L9_I.sh → Option (OT script_Lay_3_octs_Join_L9_I.outs)) (c : CT script_Lay_3_octs_Join_L9_I.sh) => script_Lay_3_octs_Join_L9_S N X c.1.1 c.1.2.1 c.1.2.2.1 c.2.1) N)
noncomputable def script_Lay_L5_I : LI := ⟨39, 0, [], ⟨[(4, .lit (.own 0)), (19, .ty (.sl (.pair (.int .i64) (.pair (.int .i64) (.pair (.int .i64) (.pair (.int .i64) (.pair (.int .i64) (.pair (.arr 32 (.int .u8)) (.pair .str (.pair .str (.pair (.pair (.arr 32 (.int .u8)) (.pair (.arr 16 (.int .u8)) (.int .u32))) (.pair (.arr 16 (.int .u8)) (.pair (.int .u32) (.pair (.int .u32) (.sl (.int .u8)))))))))))))))), (20, .ty (.int .i64)), (21, .ty (.int .i64))], [.own (.int .u8) 5]⟩, [(.ret, ⟨[(2, .ty (.sl (.int .u8))), (3, .ty (.int .i64))], []⟩), (.exit 0, ⟨[(4, .lit (.own 0))], [.own (.int .u8) 5]⟩)]⟩
noncomputable def script_Lay_L5 (X : (((List (Int × (Int × (Int × (Int × (Int × ((Arr Int 32) × (List UInt8 × (List UInt8 × (((Arr Int 32) × ((Arr Int 16) × Int)) × ((Arr Int 16) × (Int × (Int × (List Int)))))))))))))) × (Int × (Int × Unit))) × ((List Int) × Unit)) → Option (((((List Int) × (Int × Unit)) × Unit) ⊕ (Unit × ((List Int) × Unit))))) (x19 : List (Int × (Int × (Int × (Int × (Int × ((Arr Int 32) × (List UInt8 × (List UInt8 × (((Arr Int 32) × ((Arr Int 16) × Int)) × ((Arr Int 16) × (Int × (Int × (List Int)))))))))))))) (x20 : Int) (x21 : Int) (h0 : List (Int)) : Option (((((List Int) × (Int × Unit)) × Unit) ⊕ (Unit × ((List Int) × Unit)))) :=
 bif (decide (x21 < x20)) then
  Option.bind (getI x19 x21) fun (v6 : (Int × (Int × (Int × (Int × (Int × ((Arr Int 32) × (List UInt8 × (List UInt8 × (((Arr Int 32) × ((Arr Int 16) × Int)) × ((Arr Int 16) × (Int × (Int × (List Int)))))))))))))) =>
  Option.bind (script_May N (v6.1, (v6.2.1, (v6.2.2.1, (v6.2.2.2.1, (v6.2.2.2.2.1, (v6.2.2.2.2.2.1, (v6.2.2.2.2.2.2.1, (v6.2.2.2.2.2.2.2.1, ((v6.2.2.2.2.2.2.2.2.1.1, (v6.2.2.2.2.2.2.2.2.1.2.1, v6.2.2.2.2.2.2.2.2.1.2.2)), (v6.2.2.2.2.2.2.2.2.2.1, (v6.2.2.2.2.2.2.2.2.2.2.1, (v6.2.2.2.2.2.2.2.2.2.2.2.1, v6.2.2.2.2.2.2.2.2.2.2.2.2))))))))))))) fun v7 =>
  bif (!(decide (v7 = (0 : Int)))) then
   some ((.inl ((([] : List Int), (v7, ())), ())))
  else
   Option.bind (script_event N (v6.1, (v6.2.1, (v6.2.2.1, (v6.2.2.2.1, (v6.2.2.2.2.1, (v6.2.2.2.2.2.1, (v6.2.2.2.2.2.2.1, (v6.2.2.2.2.2.2.2.1, ((v6.2.2.2.2.2.2.2.2.1.1, (v6.2.2.2.2.2.2.2.2.1.2.1, v6.2.2.2.2.2.2.2.2.1.2.2)), (v6.2.2.2.2.2.2.2.2.2.1, (v6.2.2.2.2.2.2.2.2.2.2.1, (v6.2.2.2.2.2.2.2.2.2.2.2.1, v6.2.2.2.2.2.2.2.2.2.2.2.2))))))))))))) fun v8 =>
   bif (roomB ((List.length h0) + (List.length v8)) 1) then
    (X ((x19, (x20, ((IntKind.wrap .i64 (x21 + 1)), ()))), ((h0 ++ v8), ())))
   else
    none
 else
  some ((.inr ((), (h0, ()))))
noncomputable def script_Lay_L5_R (c : (((List (Int × (Int × (Int × (Int × (Int × ((Arr Int 32) × (List UInt8 × (List UInt8 × (((Arr Int 32) × ((Arr Int 16) × Int)) × ((Arr Int 16) × (Int × (Int × (List Int)))))))))))))) × (Int × (Int × Unit))) × ((List Int) × Unit))) : Option (((((List Int) × (Int × Unit)) × Unit) ⊕ (Unit × ((List Int) × Unit)))) := gl (fun X c => script_Lay_L5 N X c.1.1 c.1.2.1 c.1.2.2.1 c.2.1) N c
theorem script_Lay_L5_S (X : (((List (Int × (Int × (Int × (Int × (Int × ((Arr Int 32) × (List UInt8 × (List UInt8 × (((Arr Int 32) × ((Arr Int 16) × Int)) × ((Arr Int 16) × (Int × (Int × (List Int)))))))))))))) × (Int × (Int × Unit))) × ((List Int) × Unit)) → Option (((((List Int) × (Int × Unit)) × Unit) ⊕ (Unit × ((List Int) × Unit))))) (x19 : List (Int × (Int × (Int × (Int × (Int × ((Arr Int 32) × (List UInt8 × (List UInt8 × (((Arr Int 32) × ((Arr Int 16) × Int)) × ((Arr Int 16) × (Int × (Int × (List Int)))))))))))))) (x20 : Int) (x21 : Int) (h0 : List (Int)) : (roundK Tryd.prog (Ev92 N) 400 [9] script_Lay_L5_I (loopAt Tryd.prog [9] 5) X ((x19, x20, x21, ()), (h0, ()))).run = script_Lay_L5 N X x19 x20 x21 h0 := by kernel_rfl
noncomputable def Ev93 : (R : Type) → Env R := Env.addLp (Ev92 N) [9] 0 5 (fun R => lpK Tryd.prog script_Lay_L5_I (fun X c => script_Lay_L5 N X c.1.1 c.1.2.1 c.1.2.2.1 c.2.1) N)
theorem Ev93_ok (R : Type) : EnvOK Tryd.prog (Ev93 N R) := EnvOK.addLp (Ev92_ok N R) (by kernel_rfl) (lpK_ok (li := script_Lay_L5_I) (G := fun X c => script_Lay_L5 N X c.1.1 c.1.2.1 c.1.2.2.1 c.2.1) hmx (Ev92_ok N _) (by kernel_rfl) loopAt_sub (fun (X : CT script_Lay_L5_I.sh → Option (OT script_Lay_L5_I.outs)) (c : CT script_Lay_L5_I.sh) => script_Lay_L5_S N X c.1.1 c.1.2.1 c.1.2.2.1 c.2.1) N)
noncomputable def script_Lay (l0 : List (Int × (Int × (Int × (Int × (Int × ((Arr Int 32) × (List UInt8 × (List UInt8 × (((Arr Int 32) × ((Arr Int 16) × Int)) × ((Arr Int 16) × (Int × (Int × (List Int)))))))))))))) : Option ((List Int) × Int) :=
 bif (decide ((2000 : Int) < (((List.length l0) : Nat) : Int))) then
  some ((([] : List Int), (5 : Int)))
 else
  Option.bind (script_number N (IntKind.wrap .u64 (((List.length l0) : Nat) : Int)) (2 : Int)) fun v2 =>
  Option.bind (script_Lay_3_octs_Join_L3_R N ((([([69, 85] : List Int), v2] : List ((List Int))), ((0 : Int), (([([69, 85] : List Int), v2] : List ((List Int))), ((((List.length ([([69, 85] : List Int), v2] : List ((List Int)))) : Nat) : Int), ((0 : Int), ()))))), ())) fun v3 =>
  bif ((decide ((0 : Int) ≤ (0 : Int) ∧ (0 : Int) ≤ v3.1.2.1)) && (roomB (Int.toNat v3.1.2.1) 1)) then
   Option.bind (script_Lay_3_octs_Join_L9_R N ((v3.1.1, ((((List.length v3.1.1) : Nat) : Int), ((0 : Int), ()))), ((@List.replicate Int (Int.toNat (0 : Int)) (0 : Int)), ()))) fun v4 =>
   Option.bind (script_Lay_L5_R N ((l0, ((((List.length l0) : Nat) : Int), ((0 : Int), ()))), (v4.2.1, ()))) fun v5 =>
   Sum.elim
    (fun (v6 : (((List Int) × (Int × Unit)) × Unit)) =>
    some ((v6.1.1, v6.1.2.1)))
    (fun (v6 : (Unit × ((List Int) × Unit))) =>
    Option.bind (script_seal N v6.2.1) fun v7 =>
    bif (roomB ((List.length v6.2.1) + (List.length v7)) 1) then
     some (((v6.2.1 ++ v7), (0 : Int)))
    else
     none) v5
  else
   none
theorem script_Lay_S (l0 : List (Int × (Int × (Int × (Int × (Int × ((Arr Int 32) × (List UInt8 × (List UInt8 × (((Arr Int 32) × ((Arr Int 16) × Int)) × ((Arr Int 16) × (Int × (Int × (List Int)))))))))))))) : (runK Tryd.prog (Ev93 N) 400 9 [(.sl (.pair (.int .i64) (.pair (.int .i64) (.pair (.int .i64) (.pair (.int .i64) (.pair (.int .i64) (.pair (.arr 32 (.int .u8)) (.pair .str (.pair .str (.pair (.pair (.arr 32 (.int .u8)) (.pair (.arr 16 (.int .u8)) (.int .u32))) (.pair (.arr 16 (.int .u8)) (.pair (.int .u32) (.pair (.int .u32) (.sl (.int .u8)))))))))))))))] [(.sl (.int .u8)), (.int .i64)] (l0, ())).run = script_Lay N l0 := by kernel_rfl
noncomputable def Ev94 : (R : Type) → Env R := Env.addFn (Ev93 N) 9 (fun R => fnK [(.sl (.pair (.int .i64) (.pair (.int .i64) (.pair (.int .i64) (.pair (.int .i64) (.pair (.int .i64) (.pair (.arr 32 (.int .u8)) (.pair .str (.pair .str (.pair (.pair (.arr 32 (.int .u8)) (.pair (.arr 16 (.int .u8)) (.int .u32))) (.pair (.arr 16 (.int .u8)) (.pair (.int .u32) (.pair (.int .u32) (.sl (.int .u8)))))))))))))))] [(.sl (.int .u8)), (.int .i64)] (fun c => script_Lay N c.1))
theorem Ev94_ok (R : Type) : EnvOK Tryd.prog (Ev94 N R) := EnvOK.addFn hmx (Ev93_ok N R) (Ev93_ok N _) (by kernel_rfl) (fun c => script_Lay_S N c.1)
noncomputable def bytes_Equal (N : Nat) (a0 : List (Int)) (b1 : List (Int)) : Option Bool :=
 Option.bind (@toBy a0) fun (v3 : (List UInt8)) =>
 Option.bind (@toBy b1) fun (v4 : (List UInt8)) =>
 some ((decide (v3 = v4)))
theorem bytes_Equal_S (a0 : List (Int)) (b1 : List (Int)) : (runK Tryd.prog (Ev94 N) 400 31 [(.sl (.int .u8)), (.sl (.int .u8))] [.bool] (a0, b1, ())).run = bytes_Equal N a0 b1 := by kernel_rfl
noncomputable def Ev95 : (R : Type) → Env R := Env.addFn (Ev94 N) 31 (fun R => fnK [(.sl (.int .u8)), (.sl (.int .u8))] [.bool] (fun c => bytes_Equal N c.1 c.2.1))
theorem Ev95_ok (R : Type) : EnvOK Tryd.prog (Ev95 N R) := EnvOK.addFn hmx (Ev94_ok N R) (Ev94_ok N _) (by kernel_rfl) (fun c => bytes_Equal_S N c.1 c.2.1)
noncomputable def Ev96 : (R : Type) → Env R := Env.addBx (Ev95 N) [(16, 0)]
theorem Ev96_ok (R : Type) : EnvOK Tryd.prog (Ev96 N R) := EnvOK.addBx (Ev95_ok N R) [(16, 0)]
noncomputable def script_Same (a0 : Int × (Int × (Int × (Int × (Int × ((Arr Int 32) × (List UInt8 × (List UInt8 × (((Arr Int 32) × ((Arr Int 16) × Int)) × ((Arr Int 16) × (Int × (Int × (List Int))))))))))))) (b1 : Int × (Int × (Int × (Int × (Int × ((Arr Int 32) × (List UInt8 × (List UInt8 × (((Arr Int 32) × ((Arr Int 16) × Int)) × ((Arr Int 16) × (Int × (Int × (List Int))))))))))))) : Option Bool :=
 Option.bind (bif (decide (a0.1 = b1.1)) then
   some ((cond true (decide (a0.2.1 = b1.2.1)) false))
  else
   some (false)) fun (v3 : Bool) =>
 Option.bind (bif v3 then
   some ((cond true (decide (a0.2.2.1 = b1.2.2.1)) false))
  else
   some (false)) fun (v4 : Bool) =>
 Option.bind (bif v4 then
   some ((cond true (decide (a0.2.2.2.1 = b1.2.2.2.1)) false))
  else
   some (false)) fun (v5 : Bool) =>
 Option.bind (bif v5 then
   some ((cond true (decide (a0.2.2.2.2.1 = b1.2.2.2.2.1)) false))
  else
   some (false)) fun (v6 : Bool) =>
 Option.bind (bif v6 then
   bif ((@wfB (@Td.arr (32 : Nat) (@Td.int @IntKind.u8)) a0.2.2.2.2.2.1) && (@wfB (@Td.arr (32 : Nat) (@Td.int @IntKind.u8)) b1.2.2.2.2.2.1)) then
    some ((cond true (@Decidable.decide (@Eq (Arr Int 32) a0.2.2.2.2.2.1 b1.2.2.2.2.2.1) (@decT (@Td.arr (32 : Nat) (@Td.int @IntKind.u8)) a0.2.2.2.2.2.1 b1.2.2.2.2.2.1)) false))
   else
    none
  else
   some (false)) fun (v7 : Bool) =>
 Option.bind (bif v7 then
   bif ((@wfB (@Td.pair (@Td.arr (32 : Nat) (@Td.int @IntKind.u8)) (@Td.pair (@Td.arr (16 : Nat) (@Td.int @IntKind.u8)) (@Td.int @IntKind.u32))) (a0.2.2.2.2.2.2.2.2.1.1, (a0.2.2.2.2.2.2.2.2.1.2.1, a0.2.2.2.2.2.2.2.2.1.2.2))) && (@wfB (@Td.pair (@Td.arr (32 : Nat) (@Td.int @IntKind.u8)) (@Td.pair (@Td.arr (16 : Nat) (@Td.int @IntKind.u8)) (@Td.int @IntKind.u32))) (b1.2.2.2.2.2.2.2.2.1.1, (b1.2.2.2.2.2.2.2.2.1.2.1, b1.2.2.2.2.2.2.2.2.1.2.2)))) then
    some ((cond true (@Decidable.decide (@Eq ((Arr Int 32) × ((Arr Int 16) × Int)) (a0.2.2.2.2.2.2.2.2.1.1, (a0.2.2.2.2.2.2.2.2.1.2.1, a0.2.2.2.2.2.2.2.2.1.2.2)) (b1.2.2.2.2.2.2.2.2.1.1, (b1.2.2.2.2.2.2.2.2.1.2.1, b1.2.2.2.2.2.2.2.2.1.2.2))) (@decT (@Td.pair (@Td.arr (32 : Nat) (@Td.int @IntKind.u8)) (@Td.pair (@Td.arr (16 : Nat) (@Td.int @IntKind.u8)) (@Td.int @IntKind.u32))) (a0.2.2.2.2.2.2.2.2.1.1, (a0.2.2.2.2.2.2.2.2.1.2.1, a0.2.2.2.2.2.2.2.2.1.2.2)) (b1.2.2.2.2.2.2.2.2.1.1, (b1.2.2.2.2.2.2.2.2.1.2.1, b1.2.2.2.2.2.2.2.2.1.2.2)))) false))
   else
    none
  else
   some (false)) fun (v8 : Bool) =>
 Option.bind (bif v8 then
   bif ((@wfB (@Td.arr (16 : Nat) (@Td.int @IntKind.u8)) a0.2.2.2.2.2.2.2.2.2.1) && (@wfB (@Td.arr (16 : Nat) (@Td.int @IntKind.u8)) b1.2.2.2.2.2.2.2.2.2.1)) then
    some ((cond true (@Decidable.decide (@Eq (Arr Int 16) a0.2.2.2.2.2.2.2.2.2.1 b1.2.2.2.2.2.2.2.2.2.1) (@decT (@Td.arr (16 : Nat) (@Td.int @IntKind.u8)) a0.2.2.2.2.2.2.2.2.2.1 b1.2.2.2.2.2.2.2.2.2.1)) false))
   else
    none
  else
   some (false)) fun (v9 : Bool) =>
 Option.bind (bif v9 then
   some ((cond true (decide (a0.2.2.2.2.2.2.2.2.2.2.1 = b1.2.2.2.2.2.2.2.2.2.2.1)) false))
  else
   some (false)) fun (v10 : Bool) =>
 Option.bind (bif v10 then
   some ((cond true (decide (a0.2.2.2.2.2.2.2.2.2.2.2.1 = b1.2.2.2.2.2.2.2.2.2.2.2.1)) false))
  else
   some (false)) fun (v11 : Bool) =>
 Option.bind (bif v11 then
   some ((cond true (decide (a0.2.2.2.2.2.2.1 = b1.2.2.2.2.2.2.1)) false))
  else
   some (false)) fun (v12 : Bool) =>
 Option.bind (bif v12 then
   some ((cond true (decide (a0.2.2.2.2.2.2.2.1 = b1.2.2.2.2.2.2.2.1)) false))
  else
   some (false)) fun (v13 : Bool) =>
 bif v13 then
  Option.bind (bytes_Equal N a0.2.2.2.2.2.2.2.2.2.2.2.2 b1.2.2.2.2.2.2.2.2.2.2.2.2) fun v14 =>
  some ((cond true v14 false))
 else
  some (false)
theorem script_Same_S (a0 : Int × (Int × (Int × (Int × (Int × ((Arr Int 32) × (List UInt8 × (List UInt8 × (((Arr Int 32) × ((Arr Int 16) × Int)) × ((Arr Int 16) × (Int × (Int × (List Int))))))))))))) (b1 : Int × (Int × (Int × (Int × (Int × ((Arr Int 32) × (List UInt8 × (List UInt8 × (((Arr Int 32) × ((Arr Int 16) × Int)) × ((Arr Int 16) × (Int × (Int × (List Int))))))))))))) : (runK Tryd.prog (Ev96 N) 400 16 [(.pair (.int .i64) (.pair (.int .i64) (.pair (.int .i64) (.pair (.int .i64) (.pair (.int .i64) (.pair (.arr 32 (.int .u8)) (.pair .str (.pair .str (.pair (.pair (.arr 32 (.int .u8)) (.pair (.arr 16 (.int .u8)) (.int .u32))) (.pair (.arr 16 (.int .u8)) (.pair (.int .u32) (.pair (.int .u32) (.sl (.int .u8)))))))))))))), (.pair (.int .i64) (.pair (.int .i64) (.pair (.int .i64) (.pair (.int .i64) (.pair (.int .i64) (.pair (.arr 32 (.int .u8)) (.pair .str (.pair .str (.pair (.pair (.arr 32 (.int .u8)) (.pair (.arr 16 (.int .u8)) (.int .u32))) (.pair (.arr 16 (.int .u8)) (.pair (.int .u32) (.pair (.int .u32) (.sl (.int .u8))))))))))))))] [.bool] (a0, b1, ())).run = script_Same N a0 b1 := by kernel_rfl
noncomputable def Ev97 : (R : Type) → Env R := Env.addFn (Ev96 N) 16 (fun R => fnK [(.pair (.int .i64) (.pair (.int .i64) (.pair (.int .i64) (.pair (.int .i64) (.pair (.int .i64) (.pair (.arr 32 (.int .u8)) (.pair .str (.pair .str (.pair (.pair (.arr 32 (.int .u8)) (.pair (.arr 16 (.int .u8)) (.int .u32))) (.pair (.arr 16 (.int .u8)) (.pair (.int .u32) (.pair (.int .u32) (.sl (.int .u8)))))))))))))), (.pair (.int .i64) (.pair (.int .i64) (.pair (.int .i64) (.pair (.int .i64) (.pair (.int .i64) (.pair (.arr 32 (.int .u8)) (.pair .str (.pair .str (.pair (.pair (.arr 32 (.int .u8)) (.pair (.arr 16 (.int .u8)) (.int .u32))) (.pair (.arr 16 (.int .u8)) (.pair (.int .u32) (.pair (.int .u32) (.sl (.int .u8))))))))))))))] [.bool] (fun c => script_Same N c.1 c.2.1))
theorem Ev97_ok (R : Type) : EnvOK Tryd.prog (Ev97 N R) := EnvOK.addFn hmx (Ev96_ok N R) (Ev96_ok N _) (by kernel_rfl) (fun c => script_Same_S N c.1 c.2.1)
noncomputable def ref40_small (N : Nat) (n0 : Int) : Option Bool :=
 Option.bind (bif (decide ((0 : Int) ≤ n0)) then
   some ((cond true (decide (n0 ≤ (255 : Int))) false))
  else
   some (false)) fun (v2 : Bool) =>
 some (v2)
theorem ref40_small_S (n0 : Int) : (runK Tryd.prog (Ev97 N) 400 30 [(.int .i64)] [.bool] (n0, ())).run = ref40_small N n0 := by kernel_rfl
noncomputable def Ev98 : (R : Type) → Env R := Env.addFn (Ev97 N) 30 (fun R => fnK [(.int .i64)] [.bool] (fun c => ref40_small N c.1))
theorem Ev98_ok (R : Type) : EnvOK Tryd.prog (Ev98 N R) := EnvOK.addFn hmx (Ev97_ok N R) (Ev97_ok N _) (by kernel_rfl) (fun c => ref40_small_S N c.1)
noncomputable def Ev99 : (R : Type) → Env R := Env.addBx (Ev98 N) [(15, 0)]
theorem Ev99_ok (R : Type) : EnvOK Tryd.prog (Ev99 N R) := EnvOK.addBx (Ev98_ok N R) [(15, 0)]
noncomputable def ref40_May (x0 : Int × (Int × (Int × (Int × (Int × ((Arr Int 32) × (List UInt8 × (List UInt8 × (((Arr Int 32) × ((Arr Int 16) × Int)) × ((Arr Int 16) × (Int × (Int × (List Int))))))))))))) : Option Int :=
 Option.bind (bif (decide (x0.1 < (1 : Int))) then
   some (true)
  else
   some ((cond false true (decide ((12 : Int) < x0.1))))) fun (v2 : Bool) =>
 bif v2 then
  some ((9 : Int))
 else
  Option.bind (ref40_small N x0.2.1) fun v3 =>
  bif (!v3) then
   some ((1 : Int))
  else
   Option.bind (ref40_small N x0.2.2.1) fun v4 =>
   Option.bind (some ((cond false true (!v4)))) fun (v5 : Bool) =>
   bif v5 then
    some ((1 : Int))
   else
    Option.bind (ref40_small N x0.2.2.2.1) fun v6 =>
    Option.bind (some ((cond false true (!v6)))) fun (v7 : Bool) =>
    Option.bind (bif v7 then
      some (true)
     else
      some ((cond false true (decide (x0.2.2.2.2.1 < (0 : Int)))))) fun (v8 : Bool) =>
    Option.bind (bif v8 then
      some (true)
     else
      some ((cond false true (decide ((2147483647 : Int) < x0.2.2.2.2.1))))) fun (v9 : Bool) =>
    bif v9 then
     some ((1 : Int))
    else
     bif (decide ((64 : Int) < (((List.length x0.2.2.2.2.2.2.1) : Nat) : Int))) then
      some ((8 : Int))
     else
      Option.bind (some ((cond false true (decide ((256 : Int) < (((List.length x0.2.2.2.2.2.2.2.1) : Nat) : Int)))))) fun (v10 : Bool) =>
      bif v10 then
       some ((8 : Int))
      else
       Option.bind (some ((cond false true (decide ((2000 : Int) < (((List.length x0.2.2.2.2.2.2.2.2.2.2.2.2) : Nat) : Int)))))) fun (v11 : Bool) =>
       bif v11 then
        some ((8 : Int))
       else
        some ((0 : Int))
theorem ref40_May_S (x0 : Int × (Int × (Int × (Int × (Int × ((Arr Int 32) × (List UInt8 × (List UInt8 × (((Arr Int 32) × ((Arr Int 16) × Int)) × ((Arr Int 16) × (Int × (Int × (List Int))))))))))))) : (runK Tryd.prog (Ev99 N) 400 15 [(.pair (.int .i64) (.pair (.int .i64) (.pair (.int .i64) (.pair (.int .i64) (.pair (.int .i64) (.pair (.arr 32 (.int .u8)) (.pair .str (.pair .str (.pair (.pair (.arr 32 (.int .u8)) (.pair (.arr 16 (.int .u8)) (.int .u32))) (.pair (.arr 16 (.int .u8)) (.pair (.int .u32) (.pair (.int .u32) (.sl (.int .u8))))))))))))))] [(.int .i64)] (x0, ())).run = ref40_May N x0 := by kernel_rfl
noncomputable def Ev100 : (R : Type) → Env R := Env.addFn (Ev99 N) 15 (fun R => fnK [(.pair (.int .i64) (.pair (.int .i64) (.pair (.int .i64) (.pair (.int .i64) (.pair (.int .i64) (.pair (.arr 32 (.int .u8)) (.pair .str (.pair .str (.pair (.pair (.arr 32 (.int .u8)) (.pair (.arr 16 (.int .u8)) (.int .u32))) (.pair (.arr 16 (.int .u8)) (.pair (.int .u32) (.pair (.int .u32) (.sl (.int .u8))))))))))))))] [(.int .i64)] (fun c => ref40_May N c.1))
theorem Ev100_ok (R : Type) : EnvOK Tryd.prog (Ev100 N R) := EnvOK.addFn hmx (Ev99_ok N R) (Ev99_ok N _) (by kernel_rfl) (fun c => ref40_May_S N c.1)
noncomputable def Ev101 : (R : Type) → Env R := Env.addInl (Ev100 N) [48, 35, 49, 36]
theorem Ev101_ok (R : Type) : EnvOK Tryd.prog (Ev101 N R) := EnvOK.addInl (Ev100_ok N R) (by kernel_rfl)
noncomputable def Ev102 : (R : Type) → Env R := Env.addMv (Ev101 N) [(19, 18)]
theorem Ev102_ok (R : Type) : EnvOK Tryd.prog (Ev102 N R) := EnvOK.addMv (Ev101_ok N R) [(19, 18)]
noncomputable def slices_Clone_byte_byte_ne (N : Nat) (s0 : List (Int)) : Option (List Int) :=
 bif (@List.isEmpty Int s0) then
  none
 else
  bif (roomB (List.length s0) 1) then
   some (s0)
  else
   none
theorem slices_Clone_byte_byte_ne_S (s0 : List (Int)) : (runK Tryd.prog (Ev102 N) 400 61 [(.sl (.int .u8))] [(.sl (.int .u8))] (s0, ())).run = slices_Clone_byte_byte_ne N s0 := by kernel_rfl
theorem slices_Clone_byte_byte_n1 (c : Nat) : (runV Tryd.prog (Ev102 N) 400 61 [.c (.slice none 0 c)] [(.sl (.int .u8))]).run = some [] := by kernel_rfl
theorem slices_Clone_byte_byte_n2 (A : Addr) (c : Nat) : (runV Tryd.prog (Ev102 N) 400 61 [.c (.slice (some A) 0 c)] [(.sl (.int .u8))]).run = some [] := by kernel_rfl
noncomputable def slices_Clone_byte_byte (s0 : List (Int)) : Option (List Int) := bif s0.isEmpty then some [] else slices_Clone_byte_byte_ne N s0
noncomputable def Ev103 : (R : Type) → Env R := Env.addFn (Ev102 N) 61 (fun R => fnK [(.sl (.int .u8))] [(.sl (.int .u8))] (fun c => slices_Clone_byte_byte N c.1))
theorem Ev103_ok (R : Type) : EnvOK Tryd.prog (Ev103 N R) := EnvOK.addNil hmx (Ev102_ok N R) (Ev102_ok N _) (by kernel_rfl) (fun c => slices_Clone_byte_byte_ne_S N c.1) (slices_Clone_byte_byte_n1 N) (slices_Clone_byte_byte_n2 N)
noncomputable def script_Parse_L14_I : LI := ⟨58, 0, [(7, 45)], ⟨[(5, .lit (.box 0 0)), (7, .lit (.own 1)), (38, .ty (.int .i64)), (39, .ty (.int .i64))], [.box 75 (.pair (.sl (.int .u8)) .bool), .own (.pair (.int .i64) (.pair (.int .i64) (.pair (.int .i64) (.pair (.int .i64) (.pair (.int .i64) (.pair (.arr 32 (.int .u8)) (.pair .str (.pair .str (.pair (.pair (.arr 32 (.int .u8)) (.pair (.arr 16 (.int .u8)) (.int .u32))) (.pair (.arr 16 (.int .u8)) (.pair (.int .u32) (.pair (.int .u32) (.sl (.int .u8)))))))))))))) 45]⟩, [(.ret, ⟨[(2, .ty (.sl (.pair (.int .i64) (.pair (.int .i64) (.pair (.int .i64) (.pair (.int .i64) (.pair (.int .i64) (.pair (.arr 32 (.int .u8)) (.pair .str (.pair .str (.pair (.pair (.arr 32 (.int .u8)) (.pair (.arr 16 (.int .u8)) (.int .u32))) (.pair (.arr 16 (.int .u8)) (.pair (.int .u32) (.pair (.int .u32) (.sl (.int .u8)))))))))))))))), (3, .ty (.int .i64))], []⟩), (.exit 1, ⟨[(5, .lit (.box 0 0)), (7, .lit (.own 1))], [.box 75 (.pair (.sl (.int .u8)) .bool), .own (.pair (.int .i64) (.pair (.int .i64) (.pair (.int .i64) (.pair (.int .i64) (.pair (.int .i64) (.pair (.arr 32 (.int .u8)) (.pair .str (.pair .str (.pair (.pair (.arr 32 (.int .u8)) (.pair (.arr 16 (.int .u8)) (.int .u32))) (.pair (.arr 16 (.int .u8)) (.pair (.int .u32) (.pair (.int .u32) (.sl (.int .u8)))))))))))))) 45]⟩)]⟩
noncomputable def script_Parse_L14 (X : ((Int × (Int × Unit)) × (((List Int) × (Bool)) × ((List (Int × (Int × (Int × (Int × (Int × ((Arr Int 32) × (List UInt8 × (List UInt8 × (((Arr Int 32) × ((Arr Int 16) × Int)) × ((Arr Int 16) × (Int × (Int × (List Int)))))))))))))) × Unit))) → Option (((((List (Int × (Int × (Int × (Int × (Int × ((Arr Int 32) × (List UInt8 × (List UInt8 × (((Arr Int 32) × ((Arr Int 16) × Int)) × ((Arr Int 16) × (Int × (Int × (List Int)))))))))))))) × (Int × Unit)) × Unit) ⊕ (Unit × (((List Int) × (Bool)) × ((List (Int × (Int × (Int × (Int × (Int × ((Arr Int 32) × (List UInt8 × (List UInt8 × (((Arr Int 32) × ((Arr Int 16) × Int)) × ((Arr Int 16) × (Int × (Int × (List Int)))))))))))))) × Unit)))))) (x38 : Int) (x39 : Int) (h0 : (List Int) × (Bool)) (h1 : List (Int × (Int × (Int × (Int × (Int × ((Arr Int 32) × (List UInt8 × (List UInt8 × (((Arr Int 32) × ((Arr Int 16) × Int)) × ((Arr Int 16) × (Int × (Int × (List Int)))))))))))))) : Option (((((List (Int × (Int × (Int × (Int × (Int × ((Arr Int 32) × (List UInt8 × (List UInt8 × (((Arr Int 32) × ((Arr Int 16) × Int)) × ((Arr Int 16) × (Int × (Int × (List Int)))))))))))))) × (Int × Unit)) × Unit) ⊕ (Unit × (((List Int) × (Bool)) × ((List (Int × (Int × (Int × (Int × (Int × ((Arr Int 32) × (List UInt8 × (List UInt8 × (((Arr Int 32) × ((Arr Int 16) × Int)) × ((Arr Int 16) × (Int × (Int × (List Int)))))))))))))) × Unit))))) :=
 bif (decide (x39 < x38)) then
  bif (decide ((((List.length h0.1) : Nat) : Int) < (1 : Int))) then
   some ((.inl ((([] : List ((Int × (Int × (Int × (Int × (Int × ((Arr Int 32) × (List UInt8 × (List UInt8 × (((Arr Int 32) × ((Arr Int 16) × Int)) × ((Arr Int 16) × (Int × (Int × (List Int))))))))))))))), ((4 : Int), ())), ())))
  else
   Option.bind (takeI h0.1 (1 : Int)) fun (v6 : (List Int)) =>
   Option.bind (slices_Clone_byte_byte N v6) fun v7 =>
   Option.bind (dropI h0.1 (1 : Int)) fun (v8 : (List Int)) =>
   Option.bind (@Gt.octs_Get (200 : Nat) v7 false) fun (v9 : (Int × Int)) =>
   bif h0.2 then
    some ((.inl ((([] : List ((Int × (Int × (Int × (Int × (Int × ((Arr Int 32) × (List UInt8 × (List UInt8 × (((Arr Int 32) × ((Arr Int 16) × Int)) × ((Arr Int 16) × (Int × (Int × (List Int))))))))))))))), ((4 : Int), ())), ())))
   else
    Option.bind (script_isKind N (IntKind.wrap .i64 v9.1)) fun v10 =>
    bif (!v10) then
     some ((.inl ((([] : List ((Int × (Int × (Int × (Int × (Int × ((Arr Int 32) × (List UInt8 × (List UInt8 × (((Arr Int 32) × ((Arr Int 16) × Int)) × ((Arr Int 16) × (Int × (Int × (List Int))))))))))))))), ((9 : Int), ())), ())))
    else
     bif (decide ((((List.length v8) : Nat) : Int) < (1 : Int))) then
      some ((.inl ((([] : List ((Int × (Int × (Int × (Int × (Int × ((Arr Int 32) × (List UInt8 × (List UInt8 × (((Arr Int 32) × ((Arr Int 16) × Int)) × ((Arr Int 16) × (Int × (Int × (List Int))))))))))))))), ((4 : Int), ())), ())))
     else
      Option.bind (takeI v8 (1 : Int)) fun (v11 : (List Int)) =>
      Option.bind (slices_Clone_byte_byte N v11) fun v12 =>
      Option.bind (dropI v8 (1 : Int)) fun (v13 : (List Int)) =>
      Option.bind (@Gt.octs_Get (200 : Nat) v12 false) fun (v14 : (Int × Int)) =>
      bif (decide ((((List.length v13) : Nat) : Int) < (1 : Int))) then
       some ((.inl ((([] : List ((Int × (Int × (Int × (Int × (Int × ((Arr Int 32) × (List UInt8 × (List UInt8 × (((Arr Int 32) × ((Arr Int 16) × Int)) × ((Arr Int 16) × (Int × (Int × (List Int))))))))))))))), ((4 : Int), ())), ())))
      else
       Option.bind (takeI v13 (1 : Int)) fun (v15 : (List Int)) =>
       Option.bind (slices_Clone_byte_byte N v15) fun v16 =>
       Option.bind (dropI v13 (1 : Int)) fun (v17 : (List Int)) =>
       Option.bind (@Gt.octs_Get (200 : Nat) v16 false) fun (v18 : (Int × Int)) =>
       bif (decide ((((List.length v17) : Nat) : Int) < (1 : Int))) then
        some ((.inl ((([] : List ((Int × (Int × (Int × (Int × (Int × ((Arr Int 32) × (List UInt8 × (List UInt8 × (((Arr Int 32) × ((Arr Int 16) × Int)) × ((Arr Int 16) × (Int × (Int × (List Int))))))))))))))), ((4 : Int), ())), ())))
       else
        Option.bind (takeI v17 (1 : Int)) fun (v19 : (List Int)) =>
        Option.bind (slices_Clone_byte_byte N v19) fun v20 =>
        Option.bind (dropI v17 (1 : Int)) fun (v21 : (List Int)) =>
        Option.bind (@Gt.octs_Get (200 : Nat) v20 false) fun (v22 : (Int × Int)) =>
        bif (decide ((((List.length v21) : Nat) : Int) < (4 : Int))) then
         some ((.inl ((([] : List ((Int × (Int × (Int × (Int × (Int × ((Arr Int 32) × (List UInt8 × (List UInt8 × (((Arr Int 32) × ((Arr Int 16) × Int)) × ((Arr Int 16) × (Int × (Int × (List Int))))))))))))))), ((4 : Int), ())), ())))
        else
         Option.bind (takeI v21 (4 : Int)) fun (v23 : (List Int)) =>
         Option.bind (slices_Clone_byte_byte N v23) fun v24 =>
         Option.bind (dropI v21 (4 : Int)) fun (v25 : (List Int)) =>
         Option.bind (@Gt.octs_Get (200 : Nat) v24 false) fun (v26 : (Int × Int)) =>
         bif (decide ((((List.length v25) : Nat) : Int) < (32 : Int))) then
          some ((.inl ((([] : List ((Int × (Int × (Int × (Int × (Int × ((Arr Int 32) × (List UInt8 × (List UInt8 × (((Arr Int 32) × ((Arr Int 16) × Int)) × ((Arr Int 16) × (Int × (Int × (List Int))))))))))))))), ((4 : Int), ())), ())))
         else
          Option.bind (takeI v25 (32 : Int)) fun (v27 : (List Int)) =>
          Option.bind (slices_Clone_byte_byte N v27) fun v28 =>
          Option.bind (dropI v25 (32 : Int)) fun (v29 : (List Int)) =>
          Option.bind (@toArr Int (32 : Nat) v28) fun (v30 : (Arr Int 32)) =>
          bif (decide ((((List.length v29) : Nat) : Int) < (32 : Int))) then
           some ((.inl ((([] : List ((Int × (Int × (Int × (Int × (Int × ((Arr Int 32) × (List UInt8 × (List UInt8 × (((Arr Int 32) × ((Arr Int 16) × Int)) × ((Arr Int 16) × (Int × (Int × (List Int))))))))))))))), ((4 : Int), ())), ())))
          else
           Option.bind (takeI v29 (32 : Int)) fun (v31 : (List Int)) =>
           Option.bind (slices_Clone_byte_byte N v31) fun v32 =>
           Option.bind (dropI v29 (32 : Int)) fun (v33 : (List Int)) =>
           Option.bind (@toArr Int (32 : Nat) v32) fun (v34 : (Arr Int 32)) =>
           bif (decide ((((List.length v33) : Nat) : Int) < (16 : Int))) then
            some ((.inl ((([] : List ((Int × (Int × (Int × (Int × (Int × ((Arr Int 32) × (List UInt8 × (List UInt8 × (((Arr Int 32) × ((Arr Int 16) × Int)) × ((Arr Int 16) × (Int × (Int × (List Int))))))))))))))), ((4 : Int), ())), ())))
           else
            Option.bind (takeI v33 (16 : Int)) fun (v35 : (List Int)) =>
            Option.bind (slices_Clone_byte_byte N v35) fun v36 =>
            Option.bind (dropI v33 (16 : Int)) fun (v37 : (List Int)) =>
            Option.bind (@toArr Int (16 : Nat) v36) fun (v38 : (Arr Int 16)) =>
            bif (decide ((((List.length v37) : Nat) : Int) < (4 : Int))) then
             some ((.inl ((([] : List ((Int × (Int × (Int × (Int × (Int × ((Arr Int 32) × (List UInt8 × (List UInt8 × (((Arr Int 32) × ((Arr Int 16) × Int)) × ((Arr Int 16) × (Int × (Int × (List Int))))))))))))))), ((4 : Int), ())), ())))
            else
             Option.bind (takeI v37 (4 : Int)) fun (v39 : (List Int)) =>
             Option.bind (slices_Clone_byte_byte N v39) fun v40 =>
             Option.bind (dropI v37 (4 : Int)) fun (v41 : (List Int)) =>
             Option.bind (@Gt.octs_Get (200 : Nat) v40 false) fun (v42 : (Int × Int)) =>
             bif (decide ((((List.length v41) : Nat) : Int) < (16 : Int))) then
              some ((.inl ((([] : List ((Int × (Int × (Int × (Int × (Int × ((Arr Int 32) × (List UInt8 × (List UInt8 × (((Arr Int 32) × ((Arr Int 16) × Int)) × ((Arr Int 16) × (Int × (Int × (List Int))))))))))))))), ((4 : Int), ())), ())))
             else
              Option.bind (takeI v41 (16 : Int)) fun (v43 : (List Int)) =>
              Option.bind (slices_Clone_byte_byte N v43) fun v44 =>
              Option.bind (dropI v41 (16 : Int)) fun (v45 : (List Int)) =>
              Option.bind (@toArr Int (16 : Nat) v44) fun (v46 : (Arr Int 16)) =>
              bif (decide ((((List.length v45) : Nat) : Int) < (4 : Int))) then
               some ((.inl ((([] : List ((Int × (Int × (Int × (Int × (Int × ((Arr Int 32) × (List UInt8 × (List UInt8 × (((Arr Int 32) × ((Arr Int 16) × Int)) × ((Arr Int 16) × (Int × (Int × (List Int))))))))))))))), ((4 : Int), ())), ())))
              else
               Option.bind (takeI v45 (4 : Int)) fun (v47 : (List Int)) =>
               Option.bind (slices_Clone_byte_byte N v47) fun v48 =>
               Option.bind (dropI v45 (4 : Int)) fun (v49 : (List Int)) =>
               Option.bind (@Gt.octs_Get (200 : Nat) v48 false) fun (v50 : (Int × Int)) =>
               bif (decide ((((List.length v49) : Nat) : Int) < (4 : Int))) then
                some ((.inl ((([] : List ((Int × (Int × (Int × (Int × (Int × ((Arr Int 32) × (List UInt8 × (List UInt8 × (((Arr Int 32) × ((Arr Int 16) × Int)) × ((Arr Int 16) × (Int × (Int × (List Int))))))))))))))), ((4 : Int), ())), ())))
               else
                Option.bind (takeI v49 (4 : Int)) fun (v51 : (List Int)) =>
                Option.bind (slices_Clone_byte_byte N v51) fun v52 =>
                Option.bind (dropI v49 (4 : Int)) fun (v53 : (List Int)) =>
                Option.bind (@Gt.octs_Get (200 : Nat) v52 false) fun (v54 : (Int × Int)) =>
                bif (decide ((((List.length v53) : Nat) : Int) < (2 : Int))) then
                 some ((.inl ((([] : List ((Int × (Int × (Int × (Int × (Int × ((Arr Int 32) × (List UInt8 × (List UInt8 × (((Arr Int 32) × ((Arr Int 16) × Int)) × ((Arr Int 16) × (Int × (Int × (List Int))))))))))))))), ((4 : Int), ())), ())))
                else
                 Option.bind (takeI v53 (2 : Int)) fun (v55 : (List Int)) =>
                 Option.bind (slices_Clone_byte_byte N v55) fun v56 =>
                 Option.bind (dropI v53 (2 : Int)) fun (v57 : (List Int)) =>
                 Option.bind (@Gt.octs_Get (200 : Nat) v56 false) fun (v58 : (Int × Int)) =>
                 bif (decide ((((List.length v57) : Nat) : Int) < (IntKind.wrap .i64 v58.1))) then
                  bif ((decide ((0 : Int) ≤ (IntKind.wrap .i64 v58.1) ∧ (IntKind.wrap .i64 v58.1) ≤ (IntKind.wrap .i64 v58.1))) && (roomB (Int.toNat (IntKind.wrap .i64 v58.1)) 1)) then
                   Option.bind (@toBy (@List.replicate Int (Int.toNat (IntKind.wrap .i64 v58.1)) (0 : Int))) fun (v59 : (List UInt8)) =>
                   some ((.inl ((([] : List ((Int × (Int × (Int × (Int × (Int × ((Arr Int 32) × (List UInt8 × (List UInt8 × (((Arr Int 32) × ((Arr Int 16) × Int)) × ((Arr Int 16) × (Int × (Int × (List Int))))))))))))))), ((4 : Int), ())), ())))
                  else
                   none
                 else
                  Option.bind (takeI v57 (IntKind.wrap .i64 v58.1)) fun (v59 : (List Int)) =>
                  Option.bind (slices_Clone_byte_byte N v59) fun v60 =>
                  Option.bind (dropI v57 (IntKind.wrap .i64 v58.1)) fun (v61 : (List Int)) =>
                  Option.bind (@toBy v60) fun (v62 : (List UInt8)) =>
                  bif (decide ((((List.length v61) : Nat) : Int) < (2 : Int))) then
                   some ((.inl ((([] : List ((Int × (Int × (Int × (Int × (Int × ((Arr Int 32) × (List UInt8 × (List UInt8 × (((Arr Int 32) × ((Arr Int 16) × Int)) × ((Arr Int 16) × (Int × (Int × (List Int))))))))))))))), ((4 : Int), ())), ())))
                  else
                   Option.bind (takeI v61 (2 : Int)) fun (v63 : (List Int)) =>
                   Option.bind (slices_Clone_byte_byte N v63) fun v64 =>
                   Option.bind (dropI v61 (2 : Int)) fun (v65 : (List Int)) =>
                   Option.bind (@Gt.octs_Get (200 : Nat) v64 false) fun (v66 : (Int × Int)) =>
                   bif (decide ((((List.length v65) : Nat) : Int) < (IntKind.wrap .i64 v66.1))) then
                    bif ((decide ((0 : Int) ≤ (IntKind.wrap .i64 v66.1) ∧ (IntKind.wrap .i64 v66.1) ≤ (IntKind.wrap .i64 v66.1))) && (roomB (Int.toNat (IntKind.wrap .i64 v66.1)) 1)) then
                     Option.bind (@toBy (@List.replicate Int (Int.toNat (IntKind.wrap .i64 v66.1)) (0 : Int))) fun (v67 : (List UInt8)) =>
                     some ((.inl ((([] : List ((Int × (Int × (Int × (Int × (Int × ((Arr Int 32) × (List UInt8 × (List UInt8 × (((Arr Int 32) × ((Arr Int 16) × Int)) × ((Arr Int 16) × (Int × (Int × (List Int))))))))))))))), ((4 : Int), ())), ())))
                    else
                     none
                   else
                    Option.bind (takeI v65 (IntKind.wrap .i64 v66.1)) fun (v67 : (List Int)) =>
                    Option.bind (slices_Clone_byte_byte N v67) fun v68 =>
                    Option.bind (dropI v65 (IntKind.wrap .i64 v66.1)) fun (v69 : (List Int)) =>
                    Option.bind (@toBy v68) fun (v70 : (List UInt8)) =>
                    bif (decide ((((List.length v69) : Nat) : Int) < (2 : Int))) then
                     some ((.inl ((([] : List ((Int × (Int × (Int × (Int × (Int × ((Arr Int 32) × (List UInt8 × (List UInt8 × (((Arr Int 32) × ((Arr Int 16) × Int)) × ((Arr Int 16) × (Int × (Int × (List Int))))))))))))))), ((4 : Int), ())), ())))
                    else
                     Option.bind (takeI v69 (2 : Int)) fun (v71 : (List Int)) =>
                     Option.bind (slices_Clone_byte_byte N v71) fun v72 =>
                     Option.bind (dropI v69 (2 : Int)) fun (v73 : (List Int)) =>
                     Option.bind (@Gt.octs_Get (200 : Nat) v72 false) fun (v74 : (Int × Int)) =>
                     bif (decide ((((List.length v73) : Nat) : Int) < (IntKind.wrap .i64 v74.1))) then
                      bif ((decide ((0 : Int) ≤ (IntKind.wrap .i64 v74.1) ∧ (IntKind.wrap .i64 v74.1) ≤ (IntKind.wrap .i64 v74.1))) && (roomB (Int.toNat (IntKind.wrap .i64 v74.1)) 1)) then
                       some ((.inl ((([] : List ((Int × (Int × (Int × (Int × (Int × ((Arr Int 32) × (List UInt8 × (List UInt8 × (((Arr Int 32) × ((Arr Int 16) × Int)) × ((Arr Int 16) × (Int × (Int × (List Int))))))))))))))), ((4 : Int), ())), ())))
                      else
                       none
                     else
                      Option.bind (takeI v73 (IntKind.wrap .i64 v74.1)) fun (v75 : (List Int)) =>
                      Option.bind (slices_Clone_byte_byte N v75) fun v76 =>
                      Option.bind (dropI v73 (IntKind.wrap .i64 v74.1)) fun (v77 : (List Int)) =>
                      bif h0.2 then
                       some ((.inl ((([] : List ((Int × (Int × (Int × (Int × (Int × ((Arr Int 32) × (List UInt8 × (List UInt8 × (((Arr Int 32) × ((Arr Int 16) × Int)) × ((Arr Int 16) × (Int × (Int × (List Int))))))))))))))), ((4 : Int), ())), ())))
                      else
                       Option.bind (script_May N ((IntKind.wrap .i64 v9.1), ((IntKind.wrap .i64 v14.1), ((IntKind.wrap .i64 v18.1), ((IntKind.wrap .i64 v22.1), ((IntKind.wrap .i64 v26.1), (v30, (v62, (v70, ((v34, (v38, (IntKind.wrap .u32 (IntKind.wrap .i64 v42.1)))), (v46, ((IntKind.wrap .u32 (IntKind.wrap .i64 v50.1)), ((IntKind.wrap .u32 (IntKind.wrap .i64 v54.1)), v76))))))))))))) fun v78 =>
                       bif (!(decide (v78 = (0 : Int)))) then
                        bif (!(decide (v78 = (0 : Int)))) then
                         some ((.inl ((([] : List ((Int × (Int × (Int × (Int × (Int × ((Arr Int 32) × (List UInt8 × (List UInt8 × (((Arr Int 32) × ((Arr Int 16) × Int)) × ((Arr Int 16) × (Int × (Int × (List Int))))))))))))))), (v78, ())), ())))
                        else
                         bif (roomB ((List.length h1) + (List.length ([((0 : Int), ((0 : Int), ((0 : Int), ((0 : Int), ((0 : Int), ((@Arr.cons Int 31 0 (@Arr.cons Int 30 0 (@Arr.cons Int 29 0 (@Arr.cons Int 28 0 (@Arr.cons Int 27 0 (@Arr.cons Int 26 0 (@Arr.cons Int 25 0 (@Arr.cons Int 24 0 (@Arr.cons Int 23 0 (@Arr.cons Int 22 0 (@Arr.cons Int 21 0 (@Arr.cons Int 20 0 (@Arr.cons Int 19 0 (@Arr.cons Int 18 0 (@Arr.cons Int 17 0 (@Arr.cons Int 16 0 (@Arr.cons Int 15 0 (@Arr.cons Int 14 0 (@Arr.cons Int 13 0 (@Arr.cons Int 12 0 (@Arr.cons Int 11 0 (@Arr.cons Int 10 0 (@Arr.cons Int 9 0 (@Arr.cons Int 8 0 (@Arr.cons Int 7 0 (@Arr.cons Int 6 0 (@Arr.cons Int 5 0 (@Arr.cons Int 4 0 (@Arr.cons Int 3 0 (@Arr.cons Int 2 0 (@Arr.cons Int 1 0 (@Arr.cons Int 0 0 (@Arr.nil Int))))))))))))))))))))))))))))))))), ((Array.toList (List.toArray ([] : List UInt8))), ((Array.toList (List.toArray ([] : List UInt8))), (((@Arr.cons Int 31 0 (@Arr.cons Int 30 0 (@Arr.cons Int 29 0 (@Arr.cons Int 28 0 (@Arr.cons Int 27 0 (@Arr.cons Int 26 0 (@Arr.cons Int 25 0 (@Arr.cons Int 24 0 (@Arr.cons Int 23 0 (@Arr.cons Int 22 0 (@Arr.cons Int 21 0 (@Arr.cons Int 20 0 (@Arr.cons Int 19 0 (@Arr.cons Int 18 0 (@Arr.cons Int 17 0 (@Arr.cons Int 16 0 (@Arr.cons Int 15 0 (@Arr.cons Int 14 0 (@Arr.cons Int 13 0 (@Arr.cons Int 12 0 (@Arr.cons Int 11 0 (@Arr.cons Int 10 0 (@Arr.cons Int 9 0 (@Arr.cons Int 8 0 (@Arr.cons Int 7 0 (@Arr.cons Int 6 0 (@Arr.cons Int 5 0 (@Arr.cons Int 4 0 (@Arr.cons Int 3 0 (@Arr.cons Int 2 0 (@Arr.cons Int 1 0 (@Arr.cons Int 0 0 (@Arr.nil Int))))))))))))))))))))))))))))))))), ((@Arr.cons Int 15 0 (@Arr.cons Int 14 0 (@Arr.cons Int 13 0 (@Arr.cons Int 12 0 (@Arr.cons Int 11 0 (@Arr.cons Int 10 0 (@Arr.cons Int 9 0 (@Arr.cons Int 8 0 (@Arr.cons Int 7 0 (@Arr.cons Int 6 0 (@Arr.cons Int 5 0 (@Arr.cons Int 4 0 (@Arr.cons Int 3 0 (@Arr.cons Int 2 0 (@Arr.cons Int 1 0 (@Arr.cons Int 0 0 (@Arr.nil Int))))))))))))))))), (0 : Int))), ((@Arr.cons Int 15 0 (@Arr.cons Int 14 0 (@Arr.cons Int 13 0 (@Arr.cons Int 12 0 (@Arr.cons Int 11 0 (@Arr.cons Int 10 0 (@Arr.cons Int 9 0 (@Arr.cons Int 8 0 (@Arr.cons Int 7 0 (@Arr.cons Int 6 0 (@Arr.cons Int 5 0 (@Arr.cons Int 4 0 (@Arr.cons Int 3 0 (@Arr.cons Int 2 0 (@Arr.cons Int 1 0 (@Arr.cons Int 0 0 (@Arr.nil Int))))))))))))))))), ((0 : Int), ((0 : Int), ([] : List Int)))))))))))))] : List ((Int × (Int × (Int × (Int × (Int × ((Arr Int 32) × (List UInt8 × (List UInt8 × (((Arr Int 32) × ((Arr Int 16) × Int)) × ((Arr Int 16) × (Int × (Int × (List Int))))))))))))))))) 208) then
                          (X ((x38, ((IntKind.wrap .i64 (x39 + 1)), ())), ((v77, h0.2), ((h1 ++ ([((0 : Int), ((0 : Int), ((0 : Int), ((0 : Int), ((0 : Int), ((@Arr.cons Int 31 0 (@Arr.cons Int 30 0 (@Arr.cons Int 29 0 (@Arr.cons Int 28 0 (@Arr.cons Int 27 0 (@Arr.cons Int 26 0 (@Arr.cons Int 25 0 (@Arr.cons Int 24 0 (@Arr.cons Int 23 0 (@Arr.cons Int 22 0 (@Arr.cons Int 21 0 (@Arr.cons Int 20 0 (@Arr.cons Int 19 0 (@Arr.cons Int 18 0 (@Arr.cons Int 17 0 (@Arr.cons Int 16 0 (@Arr.cons Int 15 0 (@Arr.cons Int 14 0 (@Arr.cons Int 13 0 (@Arr.cons Int 12 0 (@Arr.cons Int 11 0 (@Arr.cons Int 10 0 (@Arr.cons Int 9 0 (@Arr.cons Int 8 0 (@Arr.cons Int 7 0 (@Arr.cons Int 6 0 (@Arr.cons Int 5 0 (@Arr.cons Int 4 0 (@Arr.cons Int 3 0 (@Arr.cons Int 2 0 (@Arr.cons Int 1 0 (@Arr.cons Int 0 0 (@Arr.nil Int))))))))))))))))))))))))))))))))), ((Array.toList (List.toArray ([] : List UInt8))), ((Array.toList (List.toArray ([] : List UInt8))), (((@Arr.cons Int 31 0 (@Arr.cons Int 30 0 (@Arr.cons Int 29 0 (@Arr.cons Int 28 0 (@Arr.cons Int 27 0 (@Arr.cons Int 26 0 (@Arr.cons Int 25 0 (@Arr.cons Int 24 0 (@Arr.cons Int 23 0 (@Arr.cons Int 22 0 (@Arr.cons Int 21 0 (@Arr.cons Int 20 0 (@Arr.cons Int 19 0 (@Arr.cons Int 18 0 (@Arr.cons Int 17 0 (@Arr.cons Int 16 0 (@Arr.cons Int 15 0 (@Arr.cons Int 14 0 (@Arr.cons Int 13 0 (@Arr.cons Int 12 0 (@Arr.cons Int 11 0 (@Arr.cons Int 10 0 (@Arr.cons Int 9 0 (@Arr.cons Int 8 0 (@Arr.cons Int 7 0 (@Arr.cons Int 6 0 (@Arr.cons Int 5 0 (@Arr.cons Int 4 0 (@Arr.cons Int 3 0 (@Arr.cons Int 2 0 (@Arr.cons Int 1 0 (@Arr.cons Int 0 0 (@Arr.nil Int))))))))))))))))))))))))))))))))), ((@Arr.cons Int 15 0 (@Arr.cons Int 14 0 (@Arr.cons Int 13 0 (@Arr.cons Int 12 0 (@Arr.cons Int 11 0 (@Arr.cons Int 10 0 (@Arr.cons Int 9 0 (@Arr.cons Int 8 0 (@Arr.cons Int 7 0 (@Arr.cons Int 6 0 (@Arr.cons Int 5 0 (@Arr.cons Int 4 0 (@Arr.cons Int 3 0 (@Arr.cons Int 2 0 (@Arr.cons Int 1 0 (@Arr.cons Int 0 0 (@Arr.nil Int))))))))))))))))), (0 : Int))), ((@Arr.cons Int 15 0 (@Arr.cons Int 14 0 (@Arr.cons Int 13 0 (@Arr.cons Int 12 0 (@Arr.cons Int 11 0 (@Arr.cons Int 10 0 (@Arr.cons Int 9 0 (@Arr.cons Int 8 0 (@Arr.cons Int 7 0 (@Arr.cons Int 6 0 (@Arr.cons Int 5 0 (@Arr.cons Int 4 0 (@Arr.cons Int 3 0 (@Arr.cons Int 2 0 (@Arr.cons Int 1 0 (@Arr.cons Int 0 0 (@Arr.nil Int))))))))))))))))), ((0 : Int), ((0 : Int), ([] : List Int)))))))))))))] : List ((Int × (Int × (Int × (Int × (Int × ((Arr Int 32) × (List UInt8 × (List UInt8 × (((Arr Int 32) × ((Arr Int 16) × Int)) × ((Arr Int 16) × (Int × (Int × (List Int)))))))))))))))), ()))))
                         else
                          none
                       else
                        bif (roomB ((List.length h1) + (List.length ([((IntKind.wrap .i64 v9.1), ((IntKind.wrap .i64 v14.1), ((IntKind.wrap .i64 v18.1), ((IntKind.wrap .i64 v22.1), ((IntKind.wrap .i64 v26.1), (v30, (v62, (v70, ((v34, (v38, (IntKind.wrap .u32 (IntKind.wrap .i64 v42.1)))), (v46, ((IntKind.wrap .u32 (IntKind.wrap .i64 v50.1)), ((IntKind.wrap .u32 (IntKind.wrap .i64 v54.1)), v76))))))))))))] : List ((Int × (Int × (Int × (Int × (Int × ((Arr Int 32) × (List UInt8 × (List UInt8 × (((Arr Int 32) × ((Arr Int 16) × Int)) × ((Arr Int 16) × (Int × (Int × (List Int))))))))))))))))) 208) then
                         (X ((x38, ((IntKind.wrap .i64 (x39 + 1)), ())), ((v77, h0.2), ((h1 ++ ([((IntKind.wrap .i64 v9.1), ((IntKind.wrap .i64 v14.1), ((IntKind.wrap .i64 v18.1), ((IntKind.wrap .i64 v22.1), ((IntKind.wrap .i64 v26.1), (v30, (v62, (v70, ((v34, (v38, (IntKind.wrap .u32 (IntKind.wrap .i64 v42.1)))), (v46, ((IntKind.wrap .u32 (IntKind.wrap .i64 v50.1)), ((IntKind.wrap .u32 (IntKind.wrap .i64 v54.1)), v76))))))))))))] : List ((Int × (Int × (Int × (Int × (Int × ((Arr Int 32) × (List UInt8 × (List UInt8 × (((Arr Int 32) × ((Arr Int 16) × Int)) × ((Arr Int 16) × (Int × (Int × (List Int)))))))))))))))), ()))))
                        else
                         none
 else
  some ((.inr ((), ((h0.1, h0.2), (h1, ())))))
noncomputable def script_Parse_L14_R (c : ((Int × (Int × Unit)) × (((List Int) × (Bool)) × ((List (Int × (Int × (Int × (Int × (Int × ((Arr Int 32) × (List UInt8 × (List UInt8 × (((Arr Int 32) × ((Arr Int 16) × Int)) × ((Arr Int 16) × (Int × (Int × (List Int)))))))))))))) × Unit)))) : Option (((((List (Int × (Int × (Int × (Int × (Int × ((Arr Int 32) × (List UInt8 × (List UInt8 × (((Arr Int 32) × ((Arr Int 16) × Int)) × ((Arr Int 16) × (Int × (Int × (List Int)))))))))))))) × (Int × Unit)) × Unit) ⊕ (Unit × (((List Int) × (Bool)) × ((List (Int × (Int × (Int × (Int × (Int × ((Arr Int 32) × (List UInt8 × (List UInt8 × (((Arr Int 32) × ((Arr Int 16) × Int)) × ((Arr Int 16) × (Int × (Int × (List Int)))))))))))))) × Unit))))) := gl (fun X c => script_Parse_L14 N X c.1.1 c.1.2.1 c.2.1 c.2.2.1) N c
theorem script_Parse_L14_S (X : ((Int × (Int × Unit)) × (((List Int) × (Bool)) × ((List (Int × (Int × (Int × (Int × (Int × ((Arr Int 32) × (List UInt8 × (List UInt8 × (((Arr Int 32) × ((Arr Int 16) × Int)) × ((Arr Int 16) × (Int × (Int × (List Int)))))))))))))) × Unit))) → Option (((((List (Int × (Int × (Int × (Int × (Int × ((Arr Int 32) × (List UInt8 × (List UInt8 × (((Arr Int 32) × ((Arr Int 16) × Int)) × ((Arr Int 16) × (Int × (Int × (List Int)))))))))))))) × (Int × Unit)) × Unit) ⊕ (Unit × (((List Int) × (Bool)) × ((List (Int × (Int × (Int × (Int × (Int × ((Arr Int 32) × (List UInt8 × (List UInt8 × (((Arr Int 32) × ((Arr Int 16) × Int)) × ((Arr Int 16) × (Int × (Int × (List Int)))))))))))))) × Unit)))))) (x38 : Int) (x39 : Int) (h0 : (List Int) × (Bool)) (h1 : List (Int × (Int × (Int × (Int × (Int × ((Arr Int 32) × (List UInt8 × (List UInt8 × (((Arr Int 32) × ((Arr Int 16) × Int)) × ((Arr Int 16) × (Int × (Int × (List Int)))))))))))))) : (roundK Tryd.prog (Ev103 N) 400 [19] script_Parse_L14_I (loopAt Tryd.prog [19] 14) X ((x38, x39, ()), (h0, h1, ()))).run = script_Parse_L14 N X x38 x39 h0 h1 := by kernel_rfl
noncomputable def Ev104 : (R : Type) → Env R := Env.addLp (Ev103 N) [19] 0 14 (fun R => lpK Tryd.prog script_Parse_L14_I (fun X c => script_Parse_L14 N X c.1.1 c.1.2.1 c.2.1 c.2.2.1) N)
theorem Ev104_ok (R : Type) : EnvOK Tryd.prog (Ev104 N R) := EnvOK.addLp (Ev103_ok N R) (by kernel_rfl) (lpK_ok (li := script_Parse_L14_I) (G := fun X c => script_Parse_L14 N X c.1.1 c.1.2.1 c.2.1 c.2.2.1) hmx (Ev103_ok N _) (by kernel_rfl) loopAt_sub (fun (X : CT script_Parse_L14_I.sh → Option (OT script_Parse_L14_I.outs)) (c : CT script_Parse_L14_I.sh) => script_Parse_L14_S N X c.1.1 c.1.2.1 c.2.1 c.2.2.1) N)
noncomputable def script_Parse (b0 : List (Int)) : Option ((List (Int × (Int × (Int × (Int × (Int × ((Arr Int 32) × (List UInt8 × (List UInt8 × (((Arr Int 32) × ((Arr Int 16) × Int)) × ((Arr Int 16) × (Int × (Int × (List Int)))))))))))))) × Int) :=
 bif (decide ((((List.length b0) : Nat) : Int) < (12 : Int))) then
  some ((([] : List ((Int × (Int × (Int × (Int × (Int × ((Arr Int 32) × (List UInt8 × (List UInt8 × (((Arr Int 32) × ((Arr Int 16) × Int)) × ((Arr Int 16) × (Int × (Int × (List Int))))))))))))))), (4 : Int)))
 else
  Option.bind (takeI b0 (2 : Int)) fun (v2 : (List Int)) =>
  Option.bind (@toBy v2) fun (v3 : (List UInt8)) =>
  bif (!(decide (v3 = (Array.toList (List.toArray ([69, 85] : List UInt8)))))) then
   some ((([] : List ((Int × (Int × (Int × (Int × (Int × ((Arr Int 32) × (List UInt8 × (List UInt8 × (((Arr Int 32) × ((Arr Int 16) × Int)) × ((Arr Int 16) × (Int × (Int × (List Int))))))))))))))), (3 : Int)))
  else
   Option.bind (takeI b0 (IntKind.wrap .i64 ((((List.length b0) : Nat) : Int) - 8))) fun (v4 : (List Int)) =>
   Option.bind (script_seal N v4) fun v5 =>
   Option.bind (dropI b0 (((List.length v4) : Nat) : Int)) fun (v6 : (List Int)) =>
   Option.bind (octs_Same N v5 v6) fun v7 =>
   bif (!v7) then
    some ((([] : List ((Int × (Int × (Int × (Int × (Int × ((Arr Int 32) × (List UInt8 × (List UInt8 × (((Arr Int 32) × ((Arr Int 16) × Int)) × ((Arr Int 16) × (Int × (Int × (List Int))))))))))))))), (14 : Int)))
   else
    Option.bind (dropI v4 (2 : Int)) fun (v8 : (List Int)) =>
    bif (decide ((((List.length v8) : Nat) : Int) < (2 : Int))) then
     Option.bind (script_Parse_L14_R N (((IntKind.wrap .i64 (bits .or .u64 (bits .or .u64 (0 : Int) (IntKind.wrap .u64 ((IntKind.wrap .u64 (0 : Int)) * ((2 : Int) ^ (min (Int.toNat (IntKind.wrap .i64 ((8 : Int) * (0 : Int)))) (IntKind.bits .u64)))))) (IntKind.wrap .u64 ((IntKind.wrap .u64 (0 : Int)) * ((2 : Int) ^ (min (Int.toNat (IntKind.wrap .i64 ((8 : Int) * (IntKind.wrap .i64 ((0 : Int) + 1))))) (IntKind.bits .u64))))))), ((0 : Int), ())), ((([] : List Int), true), (([] : List ((Int × (Int × (Int × (Int × (Int × ((Arr Int 32) × (List UInt8 × (List UInt8 × (((Arr Int 32) × ((Arr Int 16) × Int)) × ((Arr Int 16) × (Int × (Int × (List Int))))))))))))))), ())))) fun v9 =>
     Sum.elim
      (fun (v10 : (((List (Int × (Int × (Int × (Int × (Int × ((Arr Int 32) × (List UInt8 × (List UInt8 × (((Arr Int 32) × ((Arr Int 16) × Int)) × ((Arr Int 16) × (Int × (Int × (List Int)))))))))))))) × (Int × Unit)) × Unit)) =>
      some ((v10.1.1, v10.1.2.1)))
      (fun (v10 : (Unit × (((List Int) × Bool) × ((List (Int × (Int × (Int × (Int × (Int × ((Arr Int 32) × (List UInt8 × (List UInt8 × (((Arr Int 32) × ((Arr Int 16) × Int)) × ((Arr Int 16) × (Int × (Int × (List Int)))))))))))))) × Unit)))) =>
      bif (decide ((0 : Int) < (((List.length v10.2.1.1) : Nat) : Int))) then
       some ((([] : List ((Int × (Int × (Int × (Int × (Int × ((Arr Int 32) × (List UInt8 × (List UInt8 × (((Arr Int 32) × ((Arr Int 16) × Int)) × ((Arr Int 16) × (Int × (Int × (List Int))))))))))))))), (3 : Int)))
      else
       some ((v10.2.2.1, (0 : Int)))) v9
    else
     Option.bind (takeI v8 (2 : Int)) fun (v9 : (List Int)) =>
     Option.bind (slices_Clone_byte_byte N v9) fun v10 =>
     Option.bind (dropI v8 (2 : Int)) fun (v11 : (List Int)) =>
     Option.bind (@Gt.octs_Get (200 : Nat) v10 false) fun (v12 : (Int × Int)) =>
     bif (decide ((2000 : Int) < (IntKind.wrap .i64 v12.1))) then
      some ((([] : List ((Int × (Int × (Int × (Int × (Int × ((Arr Int 32) × (List UInt8 × (List UInt8 × (((Arr Int 32) × ((Arr Int 16) × Int)) × ((Arr Int 16) × (Int × (Int × (List Int))))))))))))))), (5 : Int)))
     else
      Option.bind (script_Parse_L14_R N (((IntKind.wrap .i64 v12.1), ((0 : Int), ())), ((v11, false), (([] : List ((Int × (Int × (Int × (Int × (Int × ((Arr Int 32) × (List UInt8 × (List UInt8 × (((Arr Int 32) × ((Arr Int 16) × Int)) × ((Arr Int 16) × (Int × (Int × (List Int))))))))))))))), ())))) fun v13 =>
      Sum.elim
       (fun (v14 : (((List (Int × (Int × (Int × (Int × (Int × ((Arr Int 32) × (List UInt8 × (List UInt8 × (((Arr Int 32) × ((Arr Int 16) × Int)) × ((Arr Int 16) × (Int × (Int × (List Int)))))))))))))) × (Int × Unit)) × Unit)) =>
       some ((v14.1.1, v14.1.2.1)))
       (fun (v14 : (Unit × (((List Int) × Bool) × ((List (Int × (Int × (Int × (Int × (Int × ((Arr Int 32) × (List UInt8 × (List UInt8 × (((Arr Int 32) × ((Arr Int 16) × Int)) × ((Arr Int 16) × (Int × (Int × (List Int)))))))))))))) × Unit)))) =>
       bif (decide ((0 : Int) < (((List.length v14.2.1.1) : Nat) : Int))) then
        some ((([] : List ((Int × (Int × (Int × (Int × (Int × ((Arr Int 32) × (List UInt8 × (List UInt8 × (((Arr Int 32) × ((Arr Int 16) × Int)) × ((Arr Int 16) × (Int × (Int × (List Int))))))))))))))), (3 : Int)))
       else
        some ((v14.2.2.1, (0 : Int)))) v13
theorem script_Parse_S (b0 : List (Int)) : (runK Tryd.prog (Ev104 N) 400 19 [(.sl (.int .u8))] [(.sl (.pair (.int .i64) (.pair (.int .i64) (.pair (.int .i64) (.pair (.int .i64) (.pair (.int .i64) (.pair (.arr 32 (.int .u8)) (.pair .str (.pair .str (.pair (.pair (.arr 32 (.int .u8)) (.pair (.arr 16 (.int .u8)) (.int .u32))) (.pair (.arr 16 (.int .u8)) (.pair (.int .u32) (.pair (.int .u32) (.sl (.int .u8))))))))))))))), (.int .i64)] (b0, ())).run = script_Parse N b0 := by kernel_rfl
noncomputable def Ev105 : (R : Type) → Env R := Env.addFn (Ev104 N) 19 (fun R => fnK [(.sl (.int .u8))] [(.sl (.pair (.int .i64) (.pair (.int .i64) (.pair (.int .i64) (.pair (.int .i64) (.pair (.int .i64) (.pair (.arr 32 (.int .u8)) (.pair .str (.pair .str (.pair (.pair (.arr 32 (.int .u8)) (.pair (.arr 16 (.int .u8)) (.int .u32))) (.pair (.arr 16 (.int .u8)) (.pair (.int .u32) (.pair (.int .u32) (.sl (.int .u8))))))))))))))), (.int .i64)] (fun c => script_Parse N c.1))
theorem Ev105_ok (R : Type) : EnvOK Tryd.prog (Ev105 N R) := EnvOK.addFn hmx (Ev104_ok N R) (Ev104_ok N _) (by kernel_rfl) (fun c => script_Parse_S N c.1)
noncomputable def Ev106 : (R : Type) → Env R := Env.addInl (Ev105 N) [23, 33]
theorem Ev106_ok (R : Type) : EnvOK Tryd.prog (Ev106 N R) := EnvOK.addInl (Ev105_ok N R) (by kernel_rfl)
noncomputable def ref40_text_1_ref01_Big_L3_I : LI := ⟨24, 0, [], ⟨[(0, .ty (.int .u64)), (5, .lit (.own 0)), (6, .ty (.int .i64))], [.own (.int .u8) 5]⟩, [(.exit 0, ⟨[(5, .lit (.own 0))], [.own (.int .u8) 5]⟩)]⟩
noncomputable def ref40_text_1_ref01_Big_L3 (N : Nat) (X : ((Int × (Int × Unit)) × ((List Int) × Unit)) → Option ((Unit × ((List Int) × Unit)))) (n0 : Int) (i6 : Int) (h0 : List (Int)) : Option ((Unit × ((List Int) × Unit))) :=
 bif (decide ((0 : Int) ≤ i6)) then
  bif (decide ((0 : Int) ≤ i6 ∧ i6 < (((List.length h0) : Nat) : Int))) then
   Option.bind (h0[Int.toNat i6]?) fun (v5 : Int) =>
   (X (((IntKind.wrap .u64 (@Int.tdiv n0 (256 : Int))), ((IntKind.wrap .i64 (i6 - 1)), ())), ((@List.set Int h0 (Int.toNat i6) (IntKind.wrap .u8 (@Int.tmod n0 (256 : Int)))), ())))
  else
   none
 else
  some (((), (h0, ())))
noncomputable def ref40_text_1_ref01_Big_L3_R (c : ((Int × (Int × Unit)) × ((List Int) × Unit))) : Option ((Unit × ((List Int) × Unit))) := gl (fun X c => ref40_text_1_ref01_Big_L3 N X c.1.1 c.1.2.1 c.2.1) N c
theorem ref40_text_1_ref01_Big_L3_S (X : ((Int × (Int × Unit)) × ((List Int) × Unit)) → Option ((Unit × ((List Int) × Unit)))) (n0 : Int) (i6 : Int) (h0 : List (Int)) : (roundK Tryd.prog (Ev106 N) 400 [33, 1, 45] ref40_text_1_ref01_Big_L3_I (loopAt Tryd.prog [33, 1, 45] 3) X ((n0, i6, ()), (h0, ()))).run = ref40_text_1_ref01_Big_L3 N X n0 i6 h0 := by kernel_rfl
noncomputable def Ev107 : (R : Type) → Env R := Env.addLp (Ev106 N) [33, 1, 45] 0 3 (fun R => lpK Tryd.prog ref40_text_1_ref01_Big_L3_I (fun X c => ref40_text_1_ref01_Big_L3 N X c.1.1 c.1.2.1 c.2.1) N)
theorem Ev107_ok (R : Type) : EnvOK Tryd.prog (Ev107 N R) := EnvOK.addLp (Ev106_ok N R) (by kernel_rfl) (lpK_ok (li := ref40_text_1_ref01_Big_L3_I) (G := fun X c => ref40_text_1_ref01_Big_L3 N X c.1.1 c.1.2.1 c.2.1) hmx (Ev106_ok N _) (by kernel_rfl) loopAt_sub (fun (X : CT ref40_text_1_ref01_Big_L3_I.sh → Option (OT ref40_text_1_ref01_Big_L3_I.outs)) (c : CT ref40_text_1_ref01_Big_L3_I.sh) => ref40_text_1_ref01_Big_L3_S N X c.1.1 c.1.2.1 c.2.1) N)
noncomputable def ref40_text (b0 : List (Int)) : Option (List Int) :=
 Option.bind (ref40_text_1_ref01_Big_L3_R N (((IntKind.wrap .u64 (((List.length b0) : Nat) : Int)), ((IntKind.wrap .i64 ((2 : Int) - 1)), ())), ((@List.replicate Int (Int.toNat (2 : Int)) (0 : Int)), ()))) fun v2 =>
 bif (roomB ((List.length v2.2.1) + (List.length b0)) 1) then
  some ((v2.2.1 ++ b0))
 else
  none
theorem ref40_text_S (b0 : List (Int)) : (runK Tryd.prog (Ev107 N) 400 45 [(.sl (.int .u8))] [(.sl (.int .u8))] (b0, ())).run = ref40_text N b0 := by kernel_rfl
noncomputable def Ev108 : (R : Type) → Env R := Env.addFn (Ev107 N) 45 (fun R => fnK [(.sl (.int .u8))] [(.sl (.int .u8))] (fun c => ref40_text N c.1))
theorem Ev108_ok (R : Type) : EnvOK Tryd.prog (Ev108 N R) := EnvOK.addFn hmx (Ev107_ok N R) (Ev107_ok N _) (by kernel_rfl) (fun c => ref40_text_S N c.1)
noncomputable def Ev109 : (R : Type) → Env R := Env.addInl (Ev108 N) [23]
theorem Ev109_ok (R : Type) : EnvOK Tryd.prog (Ev109 N R) := EnvOK.addInl (Ev108_ok N R) (by kernel_rfl)
noncomputable def Ev110 : (R : Type) → Env R := Env.addBx (Ev109 N) [(27, 0)]
theorem Ev110_ok (R : Type) : EnvOK Tryd.prog (Ev110 N R) := EnvOK.addBx (Ev109_ok N R) [(27, 0)]
noncomputable def ref01_Big_L3_I : LI := ⟨24, 0, [], ⟨[(0, .ty (.int .u64)), (5, .lit (.own 0)), (6, .ty (.int .i64))], [.own (.int .u8) 5]⟩, [(.exit 0, ⟨[(5, .lit (.own 0))], [.own (.int .u8) 5]⟩)]⟩
noncomputable def ref01_Big_L3 (N : Nat) (X : ((Int × (Int × Unit)) × ((List Int) × Unit)) → Option ((Unit × ((List Int) × Unit)))) (n0 : Int) (i6 : Int) (h0 : List (Int)) : Option ((Unit × ((List Int) × Unit))) :=
 bif (decide ((0 : Int) ≤ i6)) then
  bif (decide ((0 : Int) ≤ i6 ∧ i6 < (((List.length h0) : Nat) : Int))) then
   Option.bind (h0[Int.toNat i6]?) fun (v5 : Int) =>
   (X (((IntKind.wrap .u64 (@Int.tdiv n0 (256 : Int))), ((IntKind.wrap .i64 (i6 - 1)), ())), ((@List.set Int h0 (Int.toNat i6) (IntKind.wrap .u8 (@Int.tmod n0 (256 : Int)))), ())))
  else
   none
 else
  some (((), (h0, ())))
noncomputable def ref01_Big_L3_R (c : ((Int × (Int × Unit)) × ((List Int) × Unit))) : Option ((Unit × ((List Int) × Unit))) := gl (fun X c => ref01_Big_L3 N X c.1.1 c.1.2.1 c.2.1) N c
theorem ref01_Big_L3_S (X : ((Int × (Int × Unit)) × ((List Int) × Unit)) → Option ((Unit × ((List Int) × Unit)))) (n0 : Int) (i6 : Int) (h0 : List (Int)) : (roundK Tryd.prog (Ev110 N) 400 [33] ref01_Big_L3_I (loopAt Tryd.prog [33] 3) X ((n0, i6, ()), (h0, ()))).run = ref01_Big_L3 N X n0 i6 h0 := by kernel_rfl
noncomputable def Ev111 : (R : Type) → Env R := Env.addLp (Ev110 N) [33] 0 3 (fun R => lpK Tryd.prog ref01_Big_L3_I (fun X c => ref01_Big_L3 N X c.1.1 c.1.2.1 c.2.1) N)
theorem Ev111_ok (R : Type) : EnvOK Tryd.prog (Ev111 N R) := EnvOK.addLp (Ev110_ok N R) (by kernel_rfl) (lpK_ok (li := ref01_Big_L3_I) (G := fun X c => ref01_Big_L3 N X c.1.1 c.1.2.1 c.2.1) hmx (Ev110_ok N _) (by kernel_rfl) loopAt_sub (fun (X : CT ref01_Big_L3_I.sh → Option (OT ref01_Big_L3_I.outs)) (c : CT ref01_Big_L3_I.sh) => ref01_Big_L3_S N X c.1.1 c.1.2.1 c.2.1) N)
noncomputable def ref01_Big (n0 : Int) (width1 : Int) : Option (List Int) :=
 bif ((decide ((0 : Int) ≤ width1 ∧ width1 ≤ width1)) && (roomB (Int.toNat width1) 1)) then
  Option.bind (ref01_Big_L3_R N ((n0, ((IntKind.wrap .i64 (width1 - 1)), ())), ((@List.replicate Int (Int.toNat width1) (0 : Int)), ()))) fun v3 =>
  some (v3.2.1)
 else
  none
theorem ref01_Big_S (n0 : Int) (width1 : Int) : (runK Tryd.prog (Ev111 N) 400 33 [(.int .u64), (.int .i64)] [(.sl (.int .u8))] (n0, width1, ())).run = ref01_Big N n0 width1 := by kernel_rfl
noncomputable def Ev112 : (R : Type) → Env R := Env.addFn (Ev111 N) 33 (fun R => fnK [(.int .u64), (.int .i64)] [(.sl (.int .u8))] (fun c => ref01_Big N c.1 c.2.1))
theorem Ev112_ok (R : Type) : EnvOK Tryd.prog (Ev112 N R) := EnvOK.addFn hmx (Ev111_ok N R) (Ev111_ok N _) (by kernel_rfl) (fun c => ref01_Big_S N c.1 c.2.1)
noncomputable def ref40_one (x0 : Int × (Int × (Int × (Int × (Int × ((Arr Int 32) × (List UInt8 × (List UInt8 × (((Arr Int 32) × ((Arr Int 16) × Int)) × ((Arr Int 16) × (Int × (Int × (List Int))))))))))))) : Option (List Int) :=
 Option.bind (ref01_Big N (IntKind.wrap .u64 x0.2.2.2.2.1) (4 : Int)) fun v2 =>
 bif ((roomB ((List.length ([(IntKind.wrap .u8 x0.1), (IntKind.wrap .u8 x0.2.1), (IntKind.wrap .u8 x0.2.2.1), (IntKind.wrap .u8 x0.2.2.2.1)] : List (Int))) + (List.length v2)) 1) && (!(@List.isEmpty Int v2))) then
  bif (roomB ((List.length (([(IntKind.wrap .u8 x0.1), (IntKind.wrap .u8 x0.2.1), (IntKind.wrap .u8 x0.2.2.1), (IntKind.wrap .u8 x0.2.2.2.1)] : List (Int)) ++ v2)) + (List.length x0.2.2.2.2.2.1.l)) 1) then
   bif (roomB ((List.length ((([(IntKind.wrap .u8 x0.1), (IntKind.wrap .u8 x0.2.1), (IntKind.wrap .u8 x0.2.2.1), (IntKind.wrap .u8 x0.2.2.2.1)] : List (Int)) ++ v2) ++ x0.2.2.2.2.2.1.l)) + (List.length x0.2.2.2.2.2.2.2.2.1.1.l)) 1) then
    Option.bind (ref01_Big N (IntKind.wrap .u64 x0.2.2.2.2.2.2.2.2.1.2.2) (4 : Int)) fun v3 =>
    bif (roomB ((List.length (((([(IntKind.wrap .u8 x0.1), (IntKind.wrap .u8 x0.2.1), (IntKind.wrap .u8 x0.2.2.1), (IntKind.wrap .u8 x0.2.2.2.1)] : List (Int)) ++ v2) ++ x0.2.2.2.2.2.1.l) ++ x0.2.2.2.2.2.2.2.2.1.1.l)) + (List.length x0.2.2.2.2.2.2.2.2.1.2.1.l)) 1) then
     bif (roomB ((List.length ((((([(IntKind.wrap .u8 x0.1), (IntKind.wrap .u8 x0.2.1), (IntKind.wrap .u8 x0.2.2.1), (IntKind.wrap .u8 x0.2.2.2.1)] : List (Int)) ++ v2) ++ x0.2.2.2.2.2.1.l) ++ x0.2.2.2.2.2.2.2.2.1.1.l) ++ x0.2.2.2.2.2.2.2.2.1.2.1.l)) + (List.length v3)) 1) then
      Option.bind (ref01_Big N (IntKind.wrap .u64 x0.2.2.2.2.2.2.2.2.2.2.1) (4 : Int)) fun v4 =>
      bif (roomB ((List.length (((((([(IntKind.wrap .u8 x0.1), (IntKind.wrap .u8 x0.2.1), (IntKind.wrap .u8 x0.2.2.1), (IntKind.wrap .u8 x0.2.2.2.1)] : List (Int)) ++ v2) ++ x0.2.2.2.2.2.1.l) ++ x0.2.2.2.2.2.2.2.2.1.1.l) ++ x0.2.2.2.2.2.2.2.2.1.2.1.l) ++ v3)) + (List.length x0.2.2.2.2.2.2.2.2.2.1.l)) 1) then
       bif (roomB ((List.length ((((((([(IntKind.wrap .u8 x0.1), (IntKind.wrap .u8 x0.2.1), (IntKind.wrap .u8 x0.2.2.1), (IntKind.wrap .u8 x0.2.2.2.1)] : List (Int)) ++ v2) ++ x0.2.2.2.2.2.1.l) ++ x0.2.2.2.2.2.2.2.2.1.1.l) ++ x0.2.2.2.2.2.2.2.2.1.2.1.l) ++ v3) ++ x0.2.2.2.2.2.2.2.2.2.1.l)) + (List.length v4)) 1) then
        Option.bind (ref01_Big N (IntKind.wrap .u64 x0.2.2.2.2.2.2.2.2.2.2.2.1) (4 : Int)) fun v5 =>
        bif (roomB (List.length x0.2.2.2.2.2.2.1) 1) then
         Option.bind (ref40_text N (@ofB x0.2.2.2.2.2.2.1)) fun v6 =>
         bif (roomB ((List.length (((((((([(IntKind.wrap .u8 x0.1), (IntKind.wrap .u8 x0.2.1), (IntKind.wrap .u8 x0.2.2.1), (IntKind.wrap .u8 x0.2.2.2.1)] : List (Int)) ++ v2) ++ x0.2.2.2.2.2.1.l) ++ x0.2.2.2.2.2.2.2.2.1.1.l) ++ x0.2.2.2.2.2.2.2.2.1.2.1.l) ++ v3) ++ x0.2.2.2.2.2.2.2.2.2.1.l) ++ v4)) + (List.length v5)) 1) then
          bif (roomB ((List.length ((((((((([(IntKind.wrap .u8 x0.1), (IntKind.wrap .u8 x0.2.1), (IntKind.wrap .u8 x0.2.2.1), (IntKind.wrap .u8 x0.2.2.2.1)] : List (Int)) ++ v2) ++ x0.2.2.2.2.2.1.l) ++ x0.2.2.2.2.2.2.2.2.1.1.l) ++ x0.2.2.2.2.2.2.2.2.1.2.1.l) ++ v3) ++ x0.2.2.2.2.2.2.2.2.2.1.l) ++ v4) ++ v5)) + (List.length v6)) 1) then
           bif (roomB (List.length x0.2.2.2.2.2.2.2.1) 1) then
            Option.bind (ref40_text N (@ofB x0.2.2.2.2.2.2.2.1)) fun v7 =>
            Option.bind (ref40_text N x0.2.2.2.2.2.2.2.2.2.2.2.2) fun v8 =>
            bif (roomB ((List.length (((((((((([(IntKind.wrap .u8 x0.1), (IntKind.wrap .u8 x0.2.1), (IntKind.wrap .u8 x0.2.2.1), (IntKind.wrap .u8 x0.2.2.2.1)] : List (Int)) ++ v2) ++ x0.2.2.2.2.2.1.l) ++ x0.2.2.2.2.2.2.2.2.1.1.l) ++ x0.2.2.2.2.2.2.2.2.1.2.1.l) ++ v3) ++ x0.2.2.2.2.2.2.2.2.2.1.l) ++ v4) ++ v5) ++ v6)) + (List.length v7)) 1) then
             bif (roomB ((List.length ((((((((((([(IntKind.wrap .u8 x0.1), (IntKind.wrap .u8 x0.2.1), (IntKind.wrap .u8 x0.2.2.1), (IntKind.wrap .u8 x0.2.2.2.1)] : List (Int)) ++ v2) ++ x0.2.2.2.2.2.1.l) ++ x0.2.2.2.2.2.2.2.2.1.1.l) ++ x0.2.2.2.2.2.2.2.2.1.2.1.l) ++ v3) ++ x0.2.2.2.2.2.2.2.2.2.1.l) ++ v4) ++ v5) ++ v6) ++ v7)) + (List.length v8)) 1) then
              some ((((((((((((([(IntKind.wrap .u8 x0.1), (IntKind.wrap .u8 x0.2.1), (IntKind.wrap .u8 x0.2.2.1), (IntKind.wrap .u8 x0.2.2.2.1)] : List (Int)) ++ v2) ++ x0.2.2.2.2.2.1.l) ++ x0.2.2.2.2.2.2.2.2.1.1.l) ++ x0.2.2.2.2.2.2.2.2.1.2.1.l) ++ v3) ++ x0.2.2.2.2.2.2.2.2.2.1.l) ++ v4) ++ v5) ++ v6) ++ v7) ++ v8))
             else
              none
            else
             none
           else
            none
          else
           none
         else
          none
        else
         none
       else
        none
      else
       none
     else
      none
    else
     none
   else
    none
  else
   none
 else
  none
theorem ref40_one_S (x0 : Int × (Int × (Int × (Int × (Int × ((Arr Int 32) × (List UInt8 × (List UInt8 × (((Arr Int 32) × ((Arr Int 16) × Int)) × ((Arr Int 16) × (Int × (Int × (List Int))))))))))))) : (runK Tryd.prog (Ev112 N) 400 27 [(.pair (.int .i64) (.pair (.int .i64) (.pair (.int .i64) (.pair (.int .i64) (.pair (.int .i64) (.pair (.arr 32 (.int .u8)) (.pair .str (.pair .str (.pair (.pair (.arr 32 (.int .u8)) (.pair (.arr 16 (.int .u8)) (.int .u32))) (.pair (.arr 16 (.int .u8)) (.pair (.int .u32) (.pair (.int .u32) (.sl (.int .u8))))))))))))))] [(.sl (.int .u8))] (x0, ())).run = ref40_one N x0 := by kernel_rfl
noncomputable def Ev113 : (R : Type) → Env R := Env.addFn (Ev112 N) 27 (fun R => fnK [(.pair (.int .i64) (.pair (.int .i64) (.pair (.int .i64) (.pair (.int .i64) (.pair (.int .i64) (.pair (.arr 32 (.int .u8)) (.pair .str (.pair .str (.pair (.pair (.arr 32 (.int .u8)) (.pair (.arr 16 (.int .u8)) (.int .u32))) (.pair (.arr 16 (.int .u8)) (.pair (.int .u32) (.pair (.int .u32) (.sl (.int .u8))))))))))))))] [(.sl (.int .u8))] (fun c => ref40_one N c.1))
theorem Ev113_ok (R : Type) : EnvOK Tryd.prog (Ev113 N R) := EnvOK.addFn hmx (Ev112_ok N R) (Ev112_ok N _) (by kernel_rfl) (fun c => ref40_one_S N c.1)
noncomputable def ref40_sealed (b0 : List (Int)) : Option (List Int) :=
 Option.bind (ref06_Of N b0) fun v2 =>
 Option.bind (takeI v2.l (8 : Int)) fun (v3 : (List Int)) =>
 bif (roomB (List.length b0) 1) then
  bif (roomB ((List.length b0) + (List.length v3)) 1) then
   some ((b0 ++ v3))
  else
   none
 else
  none
theorem ref40_sealed_S (b0 : List (Int)) : (runK Tryd.prog (Ev113 N) 400 32 [(.sl (.int .u8))] [(.sl (.int .u8))] (b0, ())).run = ref40_sealed N b0 := by kernel_rfl
noncomputable def Ev114 : (R : Type) → Env R := Env.addFn (Ev113 N) 32 (fun R => fnK [(.sl (.int .u8))] [(.sl (.int .u8))] (fun c => ref40_sealed N c.1))
theorem Ev114_ok (R : Type) : EnvOK Tryd.prog (Ev114 N R) := EnvOK.addFn hmx (Ev113_ok N R) (Ev113_ok N _) (by kernel_rfl) (fun c => ref40_sealed_S N c.1)
noncomputable def ref40_Seal (n0 : Int) (b1 : List (Int)) : Option (List Int) :=
 Option.bind (ref01_Big N (IntKind.wrap .u64 n0) (2 : Int)) fun v3 =>
 bif ((roomB ((List.length ([69, 85] : List Int)) + (List.length v3)) 1) && (!(@List.isEmpty Int v3))) then
  bif (roomB ((List.length (([69, 85] : List Int) ++ v3)) + (List.length b1)) 1) then
   Option.bind (ref40_sealed N ((([69, 85] : List Int) ++ v3) ++ b1)) fun v4 =>
   some (v4)
  else
   none
 else
  none
theorem ref40_Seal_S (n0 : Int) (b1 : List (Int)) : (runK Tryd.prog (Ev114 N) 400 18 [(.int .i64), (.sl (.int .u8))] [(.sl (.int .u8))] (n0, b1, ())).run = ref40_Seal N n0 b1 := by kernel_rfl
noncomputable def Ev115 : (R : Type) → Env R := Env.addFn (Ev114 N) 18 (fun R => fnK [(.int .i64), (.sl (.int .u8))] [(.sl (.int .u8))] (fun c => ref40_Seal N c.1 c.2.1))
theorem Ev115_ok (R : Type) : EnvOK Tryd.prog (Ev115 N R) := EnvOK.addFn hmx (Ev114_ok N R) (Ev114_ok N _) (by kernel_rfl) (fun c => ref40_Seal_S N c.1 c.2.1)
noncomputable def ref40_Lay_L5_I : LI := ⟨35, 0, [(4, 5)], ⟨[(0, .ty (.sl (.pair (.int .i64) (.pair (.int .i64) (.pair (.int .i64) (.pair (.int .i64) (.pair (.int .i64) (.pair (.arr 32 (.int .u8)) (.pair .str (.pair .str (.pair (.pair (.arr 32 (.int .u8)) (.pair (.arr 16 (.int .u8)) (.int .u32))) (.pair (.arr 16 (.int .u8)) (.pair (.int .u32) (.pair (.int .u32) (.sl (.int .u8)))))))))))))))), (4, .lit (.own 0)), (5, .ty (.int .i64))], [.own (.int .u8) 5]⟩, [(.ret, ⟨[(2, .ty (.sl (.int .u8))), (3, .ty (.int .i64))], []⟩), (.exit 0, ⟨[(0, .ty (.sl (.pair (.int .i64) (.pair (.int .i64) (.pair (.int .i64) (.pair (.int .i64) (.pair (.int .i64) (.pair (.arr 32 (.int .u8)) (.pair .str (.pair .str (.pair (.pair (.arr 32 (.int .u8)) (.pair (.arr 16 (.int .u8)) (.int .u32))) (.pair (.arr 16 (.int .u8)) (.pair (.int .u32) (.pair (.int .u32) (.sl (.int .u8)))))))))))))))), (4, .lit (.own 0))], [.own (.int .u8) 5]⟩)]⟩
noncomputable def ref40_Lay_L5 (X : (((List (Int × (Int × (Int × (Int × (Int × ((Arr Int 32) × (List UInt8 × (List UInt8 × (((Arr Int 32) × ((Arr Int 16) × Int)) × ((Arr Int 16) × (Int × (Int × (List Int)))))))))))))) × (Int × Unit)) × ((List Int) × Unit)) → Option (((((List Int) × (Int × Unit)) × Unit) ⊕ (((List (Int × (Int × (Int × (Int × (Int × ((Arr Int 32) × (List UInt8 × (List UInt8 × (((Arr Int 32) × ((Arr Int 16) × Int)) × ((Arr Int 16) × (Int × (Int × (List Int)))))))))))))) × Unit) × ((List Int) × Unit))))) (l0 : List (Int × (Int × (Int × (Int × (Int × ((Arr Int 32) × (List UInt8 × (List UInt8 × (((Arr Int 32) × ((Arr Int 16) × Int)) × ((Arr Int 16) × (Int × (Int × (List Int)))))))))))))) (i5 : Int) (h0 : List (Int)) : Option (((((List Int) × (Int × Unit)) × Unit) ⊕ (((List (Int × (Int × (Int × (Int × (Int × ((Arr Int 32) × (List UInt8 × (List UInt8 × (((Arr Int 32) × ((Arr Int 16) × Int)) × ((Arr Int 16) × (Int × (Int × (List Int)))))))))))))) × Unit) × ((List Int) × Unit)))) :=
 bif (decide (i5 < (((List.length l0) : Nat) : Int))) then
  Option.bind (getI l0 i5) fun (v5 : (Int × (Int × (Int × (Int × (Int × ((Arr Int 32) × (List UInt8 × (List UInt8 × (((Arr Int 32) × ((Arr Int 16) × Int)) × ((Arr Int 16) × (Int × (Int × (List Int)))))))))))))) =>
  Option.bind (ref40_May N (v5.1, (v5.2.1, (v5.2.2.1, (v5.2.2.2.1, (v5.2.2.2.2.1, (v5.2.2.2.2.2.1, (v5.2.2.2.2.2.2.1, (v5.2.2.2.2.2.2.2.1, ((v5.2.2.2.2.2.2.2.2.1.1, (v5.2.2.2.2.2.2.2.2.1.2.1, v5.2.2.2.2.2.2.2.2.1.2.2)), (v5.2.2.2.2.2.2.2.2.2.1, (v5.2.2.2.2.2.2.2.2.2.2.1, (v5.2.2.2.2.2.2.2.2.2.2.2.1, v5.2.2.2.2.2.2.2.2.2.2.2.2))))))))))))) fun v6 =>
  bif (!(decide (v6 = (0 : Int)))) then
   some ((.inl ((([] : List Int), (v6, ())), ())))
  else
   Option.bind (getI l0 i5) fun (v7 : (Int × (Int × (Int × (Int × (Int × ((Arr Int 32) × (List UInt8 × (List UInt8 × (((Arr Int 32) × ((Arr Int 16) × Int)) × ((Arr Int 16) × (Int × (Int × (List Int)))))))))))))) =>
   Option.bind (ref40_one N (v7.1, (v7.2.1, (v7.2.2.1, (v7.2.2.2.1, (v7.2.2.2.2.1, (v7.2.2.2.2.2.1, (v7.2.2.2.2.2.2.1, (v7.2.2.2.2.2.2.2.1, ((v7.2.2.2.2.2.2.2.2.1.1, (v7.2.2.2.2.2.2.2.2.1.2.1, v7.2.2.2.2.2.2.2.2.1.2.2)), (v7.2.2.2.2.2.2.2.2.2.1, (v7.2.2.2.2.2.2.2.2.2.2.1, (v7.2.2.2.2.2.2.2.2.2.2.2.1, v7.2.2.2.2.2.2.2.2.2.2.2.2))))))))))))) fun v8 =>
   bif (roomB ((List.length h0) + (List.length v8)) 1) then
    (X ((l0, ((IntKind.wrap .i64 (i5 + 1)), ())), ((h0 ++ v8), ())))
   else
    none
 else
  some ((.inr ((l0, ()), (h0, ()))))
noncomputable def ref40_Lay_L5_R (c : (((List (Int × (Int × (Int × (Int × (Int × ((Arr Int 32) × (List UInt8 × (List UInt8 × (((Arr Int 32) × ((Arr Int 16) × Int)) × ((Arr Int 16) × (Int × (Int × (List Int)))))))))))))) × (Int × Unit)) × ((List Int) × Unit))) : Option (((((List Int) × (Int × Unit)) × Unit) ⊕ (((List (Int × (Int × (Int × (Int × (Int × ((Arr Int 32) × (List UInt8 × (List UInt8 × (((Arr Int 32) × ((Arr Int 16) × Int)) × ((Arr Int 16) × (Int × (Int × (List Int)))))))))))))) × Unit) × ((List Int) × Unit)))) := gl (fun X c => ref40_Lay_L5 N X c.1.1 c.1.2.1 c.2.1) N c
theorem ref40_Lay_L5_S (X : (((List (Int × (Int × (Int × (Int × (Int × ((Arr Int 32) × (List UInt8 × (List UInt8 × (((Arr Int 32) × ((Arr Int 16) × Int)) × ((Arr Int 16) × (Int × (Int × (List Int)))))))))))))) × (Int × Unit)) × ((List Int) × Unit)) → Option (((((List Int) × (Int × Unit)) × Unit) ⊕ (((List (Int × (Int × (Int × (Int × (Int × ((Arr Int 32) × (List UInt8 × (List UInt8 × (((Arr Int 32) × ((Arr Int 16) × Int)) × ((Arr Int 16) × (Int × (Int × (List Int)))))))))))))) × Unit) × ((List Int) × Unit))))) (l0 : List (Int × (Int × (Int × (Int × (Int × ((Arr Int 32) × (List UInt8 × (List UInt8 × (((Arr Int 32) × ((Arr Int 16) × Int)) × ((Arr Int 16) × (Int × (Int × (List Int)))))))))))))) (i5 : Int) (h0 : List (Int)) : (roundK Tryd.prog (Ev115 N) 400 [11] ref40_Lay_L5_I (loopAt Tryd.prog [11] 5) X ((l0, i5, ()), (h0, ()))).run = ref40_Lay_L5 N X l0 i5 h0 := by kernel_rfl
noncomputable def Ev116 : (R : Type) → Env R := Env.addLp (Ev115 N) [11] 0 5 (fun R => lpK Tryd.prog ref40_Lay_L5_I (fun X c => ref40_Lay_L5 N X c.1.1 c.1.2.1 c.2.1) N)
theorem Ev116_ok (R : Type) : EnvOK Tryd.prog (Ev116 N R) := EnvOK.addLp (Ev115_ok N R) (by kernel_rfl) (lpK_ok (li := ref40_Lay_L5_I) (G := fun X c => ref40_Lay_L5 N X c.1.1 c.1.2.1 c.2.1) hmx (Ev115_ok N _) (by kernel_rfl) loopAt_sub (fun (X : CT ref40_Lay_L5_I.sh → Option (OT ref40_Lay_L5_I.outs)) (c : CT ref40_Lay_L5_I.sh) => ref40_Lay_L5_S N X c.1.1 c.1.2.1 c.2.1) N)
noncomputable def ref40_Lay (l0 : List (Int × (Int × (Int × (Int × (Int × ((Arr Int 32) × (List UInt8 × (List UInt8 × (((Arr Int 32) × ((Arr Int 16) × Int)) × ((Arr Int 16) × (Int × (Int × (List Int)))))))))))))) : Option ((List Int) × Int) :=
 bif (decide ((2000 : Int) < (((List.length l0) : Nat) : Int))) then
  some ((([] : List Int), (5 : Int)))
 else
  Option.bind (ref40_Lay_L5_R N ((l0, ((0 : Int), ())), (([] : List Int), ()))) fun v2 =>
  Sum.elim
   (fun (v3 : (((List Int) × (Int × Unit)) × Unit)) =>
   some ((v3.1.1, v3.1.2.1)))
   (fun (v3 : (((List (Int × (Int × (Int × (Int × (Int × ((Arr Int 32) × (List UInt8 × (List UInt8 × (((Arr Int 32) × ((Arr Int 16) × Int)) × ((Arr Int 16) × (Int × (Int × (List Int)))))))))))))) × Unit) × ((List Int) × Unit))) =>
   Option.bind (ref40_Seal N (((List.length v3.1.1) : Nat) : Int) v3.2.1) fun v4 =>
   some ((v4, (0 : Int)))) v2
theorem ref40_Lay_S (l0 : List (Int × (Int × (Int × (Int × (Int × ((Arr Int 32) × (List UInt8 × (List UInt8 × (((Arr Int 32) × ((Arr Int 16) × Int)) × ((Arr Int 16) × (Int × (Int × (List Int)))))))))))))) : (runK Tryd.prog (Ev116 N) 400 11 [(.sl (.pair (.int .i64) (.pair (.int .i64) (.pair (.int .i64) (.pair (.int .i64) (.pair (.int .i64) (.pair (.arr 32 (.int .u8)) (.pair .str (.pair .str (.pair (.pair (.arr 32 (.int .u8)) (.pair (.arr 16 (.int .u8)) (.int .u32))) (.pair (.arr 16 (.int .u8)) (.pair (.int .u32) (.pair (.int .u32) (.sl (.int .u8)))))))))))))))] [(.sl (.int .u8)), (.int .i64)] (l0, ())).run = ref40_Lay N l0 := by kernel_rfl
noncomputable def Ev117 : (R : Type) → Env R := Env.addFn (Ev116 N) 11 (fun R => fnK [(.sl (.pair (.int .i64) (.pair (.int .i64) (.pair (.int .i64) (.pair (.int .i64) (.pair (.int .i64) (.pair (.arr 32 (.int .u8)) (.pair .str (.pair .str (.pair (.pair (.arr 32 (.int .u8)) (.pair (.arr 16 (.int .u8)) (.int .u32))) (.pair (.arr 16 (.int .u8)) (.pair (.int .u32) (.pair (.int .u32) (.sl (.int .u8)))))))))))))))] [(.sl (.int .u8)), (.int .i64)] (fun c => ref40_Lay N c.1))
theorem Ev117_ok (R : Type) : EnvOK Tryd.prog (Ev117 N R) := EnvOK.addFn hmx (Ev116_ok N R) (Ev116_ok N _) (by kernel_rfl) (fun c => ref40_Lay_S N c.1)
noncomputable def ref01_Num_L3_I : LI := ⟨20, 0, [], ⟨[(0, .ty (.sl (.int .u8))), (3, .ty (.int .u64)), (4, .ty (.int .i64))], []⟩, [(.exit 0, ⟨[(3, .ty (.int .u64))], []⟩)]⟩
noncomputable def ref01_Num_L3 (N : Nat) (X : (((List Int) × (Int × (Int × Unit))) × Unit) → Option (((Int × Unit) × Unit))) (b0 : List (Int)) (n3 : Int) (i4 : Int) : Option (((Int × Unit) × Unit)) :=
 bif (decide (i4 < (((List.length b0) : Nat) : Int))) then
  Option.bind (getI b0 i4) fun (v5 : Int) =>
  (X ((b0, ((IntKind.wrap .u64 ((IntKind.wrap .u64 (n3 * (256 : Int))) + (IntKind.wrap .u64 v5))), ((IntKind.wrap .i64 (i4 + 1)), ()))), ()))
 else
  some (((n3, ()), ()))
noncomputable def ref01_Num_L3_R (c : (((List Int) × (Int × (Int × Unit))) × Unit)) : Option (((Int × Unit) × Unit)) := gl (fun X c => ref01_Num_L3 N X c.1.1 c.1.2.1 c.1.2.2.1) N c
theorem ref01_Num_L3_S (X : (((List Int) × (Int × (Int × Unit))) × Unit) → Option (((Int × Unit) × Unit))) (b0 : List (Int)) (n3 : Int) (i4 : Int) : (roundK Tryd.prog (Ev117 N) 400 [37] ref01_Num_L3_I (loopAt Tryd.prog [37] 3) X ((b0, n3, i4, ()), ())).run = ref01_Num_L3 N X b0 n3 i4 := by kernel_rfl
noncomputable def Ev118 : (R : Type) → Env R := Env.addLp (Ev117 N) [37] 0 3 (fun R => lpK Tryd.prog ref01_Num_L3_I (fun X c => ref01_Num_L3 N X c.1.1 c.1.2.1 c.1.2.2.1) N)
theorem Ev118_ok (R : Type) : EnvOK Tryd.prog (Ev118 N R) := EnvOK.addLp (Ev117_ok N R) (by kernel_rfl) (lpK_ok (li := ref01_Num_L3_I) (G := fun X c => ref01_Num_L3 N X c.1.1 c.1.2.1 c.1.2.2.1) hmx (Ev117_ok N _) (by kernel_rfl) loopAt_sub (fun (X : CT ref01_Num_L3_I.sh → Option (OT ref01_Num_L3_I.outs)) (c : CT ref01_Num_L3_I.sh) => ref01_Num_L3_S N X c.1.1 c.1.2.1 c.1.2.2.1) N)
noncomputable def ref01_Num (b0 : List (Int)) : Option Int :=
 Option.bind (ref01_Num_L3_R N ((b0, ((0 : Int), ((0 : Int), ()))), ())) fun v2 =>
 some (v2.1.1)
theorem ref01_Num_S (b0 : List (Int)) : (runK Tryd.prog (Ev118 N) 400 37 [(.sl (.int .u8))] [(.int .u64)] (b0, ())).run = ref01_Num N b0 := by kernel_rfl
noncomputable def Ev119 : (R : Type) → Env R := Env.addFn (Ev118 N) 37 (fun R => fnK [(.sl (.int .u8))] [(.int .u64)] (fun c => ref01_Num N c.1))
theorem Ev119_ok (R : Type) : EnvOK Tryd.prog (Ev119 N R) := EnvOK.addFn hmx (Ev118_ok N R) (Ev118_ok N _) (by kernel_rfl) (fun c => ref01_Num_S N c.1)
noncomputable def ref40_first_L9_I : LI := ⟨176, 0, [], ⟨[(0, .ty (.sl (.int .u8))), (2, .lit (.box 0 0)), (5, .lit (.box 1 0)), (6, .ty (.int .i64))], [.box 30 (.pair (.int .i64) (.pair (.int .i64) (.pair (.int .i64) (.pair (.int .i64) (.pair (.int .i64) (.pair (.arr 32 (.int .u8)) (.pair .str (.pair .str (.pair (.pair (.arr 32 (.int .u8)) (.pair (.arr 16 (.int .u8)) (.int .u32))) (.pair (.arr 16 (.int .u8)) (.pair (.int .u32) (.pair (.int .u32) (.sl (.int .u8)))))))))))))), .box 30 (.pair (.int .i64) (.pair (.int .i64) (.pair (.int .i64) (.pair (.int .i64) (.pair (.int .i64) (.pair (.arr 32 (.int .u8)) (.pair .str (.pair .str (.pair (.pair (.arr 32 (.int .u8)) (.pair (.arr 16 (.int .u8)) (.int .u32))) (.pair (.arr 16 (.int .u8)) (.pair (.int .u32) (.pair (.int .u32) (.sl (.int .u8))))))))))))))]⟩, [(.exit 0, ⟨[(0, .ty (.sl (.int .u8))), (2, .lit (.box 0 0)), (5, .lit (.box 1 0))], [.box 30 (.pair (.int .i64) (.pair (.int .i64) (.pair (.int .i64) (.pair (.int .i64) (.pair (.int .i64) (.pair (.arr 32 (.int .u8)) (.pair .str (.pair .str (.pair (.pair (.arr 32 (.int .u8)) (.pair (.arr 16 (.int .u8)) (.int .u32))) (.pair (.arr 16 (.int .u8)) (.pair (.int .u32) (.pair (.int .u32) (.sl (.int .u8)))))))))))))), .box 30 (.pair (.int .i64) (.pair (.int .i64) (.pair (.int .i64) (.pair (.int .i64) (.pair (.int .i64) (.pair (.arr 32 (.int .u8)) (.pair .str (.pair .str (.pair (.pair (.arr 32 (.int .u8)) (.pair (.arr 16 (.int .u8)) (.int .u32))) (.pair (.arr 16 (.int .u8)) (.pair (.int .u32) (.pair (.int .u32) (.sl (.int .u8))))))))))))))]⟩)]⟩
noncomputable def ref40_first_L9 (N : Nat) (X : (((List Int) × (Int × Unit)) × ((Int × (Int × (Int × (Int × (Int × ((Arr Int 32) × (List UInt8 × (List UInt8 × (((Arr Int 32) × ((Arr Int 16) × Int)) × ((Arr Int 16) × (Int × (Int × (List Int))))))))))))) × ((Int × (Int × (Int × (Int × (Int × ((Arr Int 32) × (List UInt8 × (List UInt8 × (((Arr Int 32) × ((Arr Int 16) × Int)) × ((Arr Int 16) × (Int × (Int × (List Int))))))))))))) × Unit))) → Option ((((List Int) × Unit) × ((Int × (Int × (Int × (Int × (Int × ((Arr Int 32) × (List UInt8 × (List UInt8 × (((Arr Int 32) × ((Arr Int 16) × Int)) × ((Arr Int 16) × (Int × (Int × (List Int))))))))))))) × ((Int × (Int × (Int × (Int × (Int × ((Arr Int 32) × (List UInt8 × (List UInt8 × (((Arr Int 32) × ((Arr Int 16) × Int)) × ((Arr Int 16) × (Int × (Int × (List Int))))))))))))) × Unit))))) (b0 : List (Int)) (i6 : Int) (h0 : Int × (Int × (Int × (Int × (Int × ((Arr Int 32) × (List UInt8 × (List UInt8 × (((Arr Int 32) × ((Arr Int 16) × Int)) × ((Arr Int 16) × (Int × (Int × (List Int))))))))))))) (h1 : Int × (Int × (Int × (Int × (Int × ((Arr Int 32) × (List UInt8 × (List UInt8 × (((Arr Int 32) × ((Arr Int 16) × Int)) × ((Arr Int 16) × (Int × (Int × (List Int))))))))))))) : Option ((((List Int) × Unit) × ((Int × (Int × (Int × (Int × (Int × ((Arr Int 32) × (List UInt8 × (List UInt8 × (((Arr Int 32) × ((Arr Int 16) × Int)) × ((Arr Int 16) × (Int × (Int × (List Int))))))))))))) × ((Int × (Int × (Int × (Int × (Int × ((Arr Int 32) × (List UInt8 × (List UInt8 × (((Arr Int 32) × ((Arr Int 16) × Int)) × ((Arr Int 16) × (Int × (Int × (List Int))))))))))))) × Unit)))) :=
 bif (decide (i6 < (32 : Int))) then
  Option.bind (getI b0 (IntKind.wrap .i64 ((8 : Int) + i6))) fun (v6 : Int) =>
  Option.bind (getI b0 (IntKind.wrap .i64 ((40 : Int) + i6))) fun (v7 : Int) =>
  bif (decide ((0 : Int) ≤ i6 ∧ i6 < ((32 : Nat) : Int))) then
   bif (decide ((0 : Int) ≤ i6 ∧ i6 < ((32 : Nat) : Int))) then
    Option.bind (h1.2.2.2.2.2.1.l[Int.toNat i6]?) fun (v8 : Int) =>
    Option.bind (h1.2.2.2.2.2.2.2.2.1.1.l[Int.toNat i6]?) fun (v9 : Int) =>
    (X ((b0, ((IntKind.wrap .i64 (i6 + 1)), ())), ((h0.1, (h0.2.1, (h0.2.2.1, (h0.2.2.2.1, (h0.2.2.2.2.1, (h0.2.2.2.2.2.1, (h0.2.2.2.2.2.2.1, (h0.2.2.2.2.2.2.2.1, ((h0.2.2.2.2.2.2.2.2.1.1, (h0.2.2.2.2.2.2.2.2.1.2.1, h0.2.2.2.2.2.2.2.2.1.2.2)), (h0.2.2.2.2.2.2.2.2.2.1, (h0.2.2.2.2.2.2.2.2.2.2.1, (h0.2.2.2.2.2.2.2.2.2.2.2.1, h0.2.2.2.2.2.2.2.2.2.2.2.2)))))))))))), ((h1.1, (h1.2.1, (h1.2.2.1, (h1.2.2.2.1, (h1.2.2.2.2.1, ((h1.2.2.2.2.2.1.set (Int.toNat i6) v6), (h1.2.2.2.2.2.2.1, (h1.2.2.2.2.2.2.2.1, (((h1.2.2.2.2.2.2.2.2.1.1.set (Int.toNat i6) v7), (h1.2.2.2.2.2.2.2.2.1.2.1, h1.2.2.2.2.2.2.2.2.1.2.2)), (h1.2.2.2.2.2.2.2.2.2.1, (h1.2.2.2.2.2.2.2.2.2.2.1, (h1.2.2.2.2.2.2.2.2.2.2.2.1, h1.2.2.2.2.2.2.2.2.2.2.2.2)))))))))))), ()))))
   else
    none
  else
   none
 else
  some (((b0, ()), ((h0.1, (h0.2.1, (h0.2.2.1, (h0.2.2.2.1, (h0.2.2.2.2.1, (h0.2.2.2.2.2.1, (h0.2.2.2.2.2.2.1, (h0.2.2.2.2.2.2.2.1, ((h0.2.2.2.2.2.2.2.2.1.1, (h0.2.2.2.2.2.2.2.2.1.2.1, h0.2.2.2.2.2.2.2.2.1.2.2)), (h0.2.2.2.2.2.2.2.2.2.1, (h0.2.2.2.2.2.2.2.2.2.2.1, (h0.2.2.2.2.2.2.2.2.2.2.2.1, h0.2.2.2.2.2.2.2.2.2.2.2.2)))))))))))), ((h1.1, (h1.2.1, (h1.2.2.1, (h1.2.2.2.1, (h1.2.2.2.2.1, (h1.2.2.2.2.2.1, (h1.2.2.2.2.2.2.1, (h1.2.2.2.2.2.2.2.1, ((h1.2.2.2.2.2.2.2.2.1.1, (h1.2.2.2.2.2.2.2.2.1.2.1, h1.2.2.2.2.2.2.2.2.1.2.2)), (h1.2.2.2.2.2.2.2.2.2.1, (h1.2.2.2.2.2.2.2.2.2.2.1, (h1.2.2.2.2.2.2.2.2.2.2.2.1, h1.2.2.2.2.2.2.2.2.2.2.2.2)))))))))))), ()))))
noncomputable def ref40_first_L9_R (c : (((List Int) × (Int × Unit)) × ((Int × (Int × (Int × (Int × (Int × ((Arr Int 32) × (List UInt8 × (List UInt8 × (((Arr Int 32) × ((Arr Int 16) × Int)) × ((Arr Int 16) × (Int × (Int × (List Int))))))))))))) × ((Int × (Int × (Int × (Int × (Int × ((Arr Int 32) × (List UInt8 × (List UInt8 × (((Arr Int 32) × ((Arr Int 16) × Int)) × ((Arr Int 16) × (Int × (Int × (List Int))))))))))))) × Unit)))) : Option ((((List Int) × Unit) × ((Int × (Int × (Int × (Int × (Int × ((Arr Int 32) × (List UInt8 × (List UInt8 × (((Arr Int 32) × ((Arr Int 16) × Int)) × ((Arr Int 16) × (Int × (Int × (List Int))))))))))))) × ((Int × (Int × (Int × (Int × (Int × ((Arr Int 32) × (List UInt8 × (List UInt8 × (((Arr Int 32) × ((Arr Int 16) × Int)) × ((Arr Int 16) × (Int × (Int × (List Int))))))))))))) × Unit)))) := gl (fun X c => ref40_first_L9 N X c.1.1 c.1.2.1 c.2.1 c.2.2.1) N c
theorem ref40_first_L9_S (X : (((List Int) × (Int × Unit)) × ((Int × (Int × (Int × (Int × (Int × ((Arr Int 32) × (List UInt8 × (List UInt8 × (((Arr Int 32) × ((Arr Int 16) × Int)) × ((Arr Int 16) × (Int × (Int × (List Int))))))))))))) × ((Int × (Int × (Int × (Int × (Int × ((Arr Int 32) × (List UInt8 × (List UInt8 × (((Arr Int 32) × ((Arr Int 16) × Int)) × ((Arr Int 16) × (Int × (Int × (List Int))))))))))))) × Unit))) → Option ((((List Int) × Unit) × ((Int × (Int × (Int × (Int × (Int × ((Arr Int 32) × (List UInt8 × (List UInt8 × (((Arr Int 32) × ((Arr Int 16) × Int)) × ((Arr Int 16) × (Int × (Int × (List Int))))))))))))) × ((Int × (Int × (Int × (Int × (Int × ((Arr Int 32) × (List UInt8 × (List UInt8 × (((Arr Int 32) × ((Arr Int 16) × Int)) × ((Arr Int 16) × (Int × (Int × (List Int))))))))))))) × Unit))))) (b0 : List (Int)) (i6 : Int) (h0 : Int × (Int × (Int × (Int × (Int × ((Arr Int 32) × (List UInt8 × (List UInt8 × (((Arr Int 32) × ((Arr Int 16) × Int)) × ((Arr Int 16) × (Int × (Int × (List Int))))))))))))) (h1 : Int × (Int × (Int × (Int × (Int × ((Arr Int 32) × (List UInt8 × (List UInt8 × (((Arr Int 32) × ((Arr Int 16) × Int)) × ((Arr Int 16) × (Int × (Int × (List Int))))))))))))) : (roundK Tryd.prog (Ev119 N) 400 [38] ref40_first_L9_I (loopAt Tryd.prog [38] 9) X ((b0, i6, ()), (h0, h1, ()))).run = ref40_first_L9 N X b0 i6 h0 h1 := by kernel_rfl
noncomputable def Ev120 : (R : Type) → Env R := Env.addLp (Ev119 N) [38] 0 9 (fun R => lpK Tryd.prog ref40_first_L9_I (fun X c => ref40_first_L9 N X c.1.1 c.1.2.1 c.2.1 c.2.2.1) N)
theorem Ev120_ok (R : Type) : EnvOK Tryd.prog (Ev120 N R) := EnvOK.addLp (Ev119_ok N R) (by kernel_rfl) (lpK_ok (li := ref40_first_L9_I) (G := fun X c => ref40_first_L9 N X c.1.1 c.1.2.1 c.2.1 c.2.2.1) hmx (Ev119_ok N _) (by kernel_rfl) loopAt_sub (fun (X : CT ref40_first_L9_I.sh → Option (OT ref40_first_L9_I.outs)) (c : CT ref40_first_L9_I.sh) => ref40_first_L9_S N X c.1.1 c.1.2.1 c.2.1 c.2.2.1) N)
noncomputable def ref40_first_L13_I : LI := ⟨176, 0, [], ⟨[(0, .ty (.sl (.int .u8))), (2, .lit (.box 0 0)), (5, .lit (.box 1 0)), (7, .ty (.int .i64))], [.box 30 (.pair (.int .i64) (.pair (.int .i64) (.pair (.int .i64) (.pair (.int .i64) (.pair (.int .i64) (.pair (.arr 32 (.int .u8)) (.pair .str (.pair .str (.pair (.pair (.arr 32 (.int .u8)) (.pair (.arr 16 (.int .u8)) (.int .u32))) (.pair (.arr 16 (.int .u8)) (.pair (.int .u32) (.pair (.int .u32) (.sl (.int .u8)))))))))))))), .box 30 (.pair (.int .i64) (.pair (.int .i64) (.pair (.int .i64) (.pair (.int .i64) (.pair (.int .i64) (.pair (.arr 32 (.int .u8)) (.pair .str (.pair .str (.pair (.pair (.arr 32 (.int .u8)) (.pair (.arr 16 (.int .u8)) (.int .u32))) (.pair (.arr 16 (.int .u8)) (.pair (.int .u32) (.pair (.int .u32) (.sl (.int .u8))))))))))))))]⟩, [(.exit 2, ⟨[(0, .ty (.sl (.int .u8))), (2, .lit (.box 0 0)), (5, .lit (.box 1 0))], [.box 30 (.pair (.int .i64) (.pair (.int .i64) (.pair (.int .i64) (.pair (.int .i64) (.pair (.int .i64) (.pair (.arr 32 (.int .u8)) (.pair .str (.pair .str (.pair (.pair (.arr 32 (.int .u8)) (.pair (.arr 16 (.int .u8)) (.int .u32))) (.pair (.arr 16 (.int .u8)) (.pair (.int .u32) (.pair (.int .u32) (.sl (.int .u8)))))))))))))), .box 30 (.pair (.int .i64) (.pair (.int .i64) (.pair (.int .i64) (.pair (.int .i64) (.pair (.int .i64) (.pair (.arr 32 (.int .u8)) (.pair .str (.pair .str (.pair (.pair (.arr 32 (.int .u8)) (.pair (.arr 16 (.int .u8)) (.int .u32))) (.pair (.arr 16 (.int .u8)) (.pair (.int .u32) (.pair (.int .u32) (.sl (.int .u8))))))))))))))]⟩)]⟩
end
section
variable (N : Nat)
noncomputable def ref40_first_L13 (N : Nat) (X : (((List Int) × (Int × Unit)) × ((Int × (Int × (Int × (Int × (Int × ((Arr Int 32) × (List UInt8 × (List UInt8 × (((Arr Int 32) × ((Arr Int 16) × Int)) × ((Arr Int 16) × (Int × (Int × (List Int))))))))))))) × ((Int × (Int × (Int × (Int × (Int × ((Arr Int 32) × (List UInt8 × (List UInt8 × (((Arr Int 32) × ((Arr Int 16) × Int)) × ((Arr Int 16) × (Int × (Int × (List Int))))))))))))) × Unit))) → Option ((((List Int) × Unit) × ((Int × (Int × (Int × (Int × (Int × ((Arr Int 32) × (List UInt8 × (List UInt8 × (((Arr Int 32) × ((Arr Int 16) × Int)) × ((Arr Int 16) × (Int × (Int × (List Int))))))))))))) × ((Int × (Int × (Int × (Int × (Int × ((Arr Int 32) × (List UInt8 × (List UInt8 × (((Arr Int 32) × ((Arr Int 16) × Int)) × ((Arr Int 16) × (Int × (Int × (List Int))))))))))))) × Unit))))) (b0 : List (Int)) (i7 : Int) (h0 : Int × (Int × (Int × (Int × (Int × ((Arr Int 32) × (List UInt8 × (List UInt8 × (((Arr Int 32) × ((Arr Int 16) × Int)) × ((Arr Int 16) × (Int × (Int × (List Int))))))))))))) (h1 : Int × (Int × (Int × (Int × (Int × ((Arr Int 32) × (List UInt8 × (List UInt8 × (((Arr Int 32) × ((Arr Int 16) × Int)) × ((Arr Int 16) × (Int × (Int × (List Int))))))))))))) : Option ((((List Int) × Unit) × ((Int × (Int × (Int × (Int × (Int × ((Arr Int 32) × (List UInt8 × (List UInt8 × (((Arr Int 32) × ((Arr Int 16) × Int)) × ((Arr Int 16) × (Int × (Int × (List Int))))))))))))) × ((Int × (Int × (Int × (Int × (Int × ((Arr Int 32) × (List UInt8 × (List UInt8 × (((Arr Int 32) × ((Arr Int 16) × Int)) × ((Arr Int 16) × (Int × (Int × (List Int))))))))))))) × Unit)))) :=
 bif (decide (i7 < (16 : Int))) then
  Option.bind (getI b0 (IntKind.wrap .i64 ((72 : Int) + i7))) fun (v6 : Int) =>
  Option.bind (getI b0 (IntKind.wrap .i64 ((92 : Int) + i7))) fun (v7 : Int) =>
  bif (decide ((0 : Int) ≤ i7 ∧ i7 < ((16 : Nat) : Int))) then
   bif (decide ((0 : Int) ≤ i7 ∧ i7 < ((16 : Nat) : Int))) then
    Option.bind (h1.2.2.2.2.2.2.2.2.1.2.1.l[Int.toNat i7]?) fun (v8 : Int) =>
    Option.bind (h1.2.2.2.2.2.2.2.2.2.1.l[Int.toNat i7]?) fun (v9 : Int) =>
    (X ((b0, ((IntKind.wrap .i64 (i7 + 1)), ())), ((h0.1, (h0.2.1, (h0.2.2.1, (h0.2.2.2.1, (h0.2.2.2.2.1, (h0.2.2.2.2.2.1, (h0.2.2.2.2.2.2.1, (h0.2.2.2.2.2.2.2.1, ((h0.2.2.2.2.2.2.2.2.1.1, (h0.2.2.2.2.2.2.2.2.1.2.1, h0.2.2.2.2.2.2.2.2.1.2.2)), (h0.2.2.2.2.2.2.2.2.2.1, (h0.2.2.2.2.2.2.2.2.2.2.1, (h0.2.2.2.2.2.2.2.2.2.2.2.1, h0.2.2.2.2.2.2.2.2.2.2.2.2)))))))))))), ((h1.1, (h1.2.1, (h1.2.2.1, (h1.2.2.2.1, (h1.2.2.2.2.1, (h1.2.2.2.2.2.1, (h1.2.2.2.2.2.2.1, (h1.2.2.2.2.2.2.2.1, ((h1.2.2.2.2.2.2.2.2.1.1, ((h1.2.2.2.2.2.2.2.2.1.2.1.set (Int.toNat i7) v6), h1.2.2.2.2.2.2.2.2.1.2.2)), ((h1.2.2.2.2.2.2.2.2.2.1.set (Int.toNat i7) v7), (h1.2.2.2.2.2.2.2.2.2.2.1, (h1.2.2.2.2.2.2.2.2.2.2.2.1, h1.2.2.2.2.2.2.2.2.2.2.2.2)))))))))))), ()))))
   else
    none
  else
   none
 else
  some (((b0, ()), ((h0.1, (h0.2.1, (h0.2.2.1, (h0.2.2.2.1, (h0.2.2.2.2.1, (h0.2.2.2.2.2.1, (h0.2.2.2.2.2.2.1, (h0.2.2.2.2.2.2.2.1, ((h0.2.2.2.2.2.2.2.2.1.1, (h0.2.2.2.2.2.2.2.2.1.2.1, h0.2.2.2.2.2.2.2.2.1.2.2)), (h0.2.2.2.2.2.2.2.2.2.1, (h0.2.2.2.2.2.2.2.2.2.2.1, (h0.2.2.2.2.2.2.2.2.2.2.2.1, h0.2.2.2.2.2.2.2.2.2.2.2.2)))))))))))), ((h1.1, (h1.2.1, (h1.2.2.1, (h1.2.2.2.1, (h1.2.2.2.2.1, (h1.2.2.2.2.2.1, (h1.2.2.2.2.2.2.1, (h1.2.2.2.2.2.2.2.1, ((h1.2.2.2.2.2.2.2.2.1.1, (h1.2.2.2.2.2.2.2.2.1.2.1, h1.2.2.2.2.2.2.2.2.1.2.2)), (h1.2.2.2.2.2.2.2.2.2.1, (h1.2.2.2.2.2.2.2.2.2.2.1, (h1.2.2.2.2.2.2.2.2.2.2.2.1, h1.2.2.2.2.2.2.2.2.2.2.2.2)))))))))))), ()))))
noncomputable def ref40_first_L13_R (c : (((List Int) × (Int × Unit)) × ((Int × (Int × (Int × (Int × (Int × ((Arr Int 32) × (List UInt8 × (List UInt8 × (((Arr Int 32) × ((Arr Int 16) × Int)) × ((Arr Int 16) × (Int × (Int × (List Int))))))))))))) × ((Int × (Int × (Int × (Int × (Int × ((Arr Int 32) × (List UInt8 × (List UInt8 × (((Arr Int 32) × ((Arr Int 16) × Int)) × ((Arr Int 16) × (Int × (Int × (List Int))))))))))))) × Unit)))) : Option ((((List Int) × Unit) × ((Int × (Int × (Int × (Int × (Int × ((Arr Int 32) × (List UInt8 × (List UInt8 × (((Arr Int 32) × ((Arr Int 16) × Int)) × ((Arr Int 16) × (Int × (Int × (List Int))))))))))))) × ((Int × (Int × (Int × (Int × (Int × ((Arr Int 32) × (List UInt8 × (List UInt8 × (((Arr Int 32) × ((Arr Int 16) × Int)) × ((Arr Int 16) × (Int × (Int × (List Int))))))))))))) × Unit)))) := gl (fun X c => ref40_first_L13 N X c.1.1 c.1.2.1 c.2.1 c.2.2.1) N c
theorem ref40_first_L13_S (X : (((List Int) × (Int × Unit)) × ((Int × (Int × (Int × (Int × (Int × ((Arr Int 32) × (List UInt8 × (List UInt8 × (((Arr Int 32) × ((Arr Int 16) × Int)) × ((Arr Int 16) × (Int × (Int × (List Int))))))))))))) × ((Int × (Int × (Int × (Int × (Int × ((Arr Int 32) × (List UInt8 × (List UInt8 × (((Arr Int 32) × ((Arr Int 16) × Int)) × ((Arr Int 16) × (Int × (Int × (List Int))))))))))))) × Unit))) → Option ((((List Int) × Unit) × ((Int × (Int × (Int × (Int × (Int × ((Arr Int 32) × (List UInt8 × (List UInt8 × (((Arr Int 32) × ((Arr Int 16) × Int)) × ((Arr Int 16) × (Int × (Int × (List Int))))))))))))) × ((Int × (Int × (Int × (Int × (Int × ((Arr Int 32) × (List UInt8 × (List UInt8 × (((Arr Int 32) × ((Arr Int 16) × Int)) × ((Arr Int 16) × (Int × (Int × (List Int))))))))))))) × Unit))))) (b0 : List (Int)) (i7 : Int) (h0 : Int × (Int × (Int × (Int × (Int × ((Arr Int 32) × (List UInt8 × (List UInt8 × (((Arr Int 32) × ((Arr Int 16) × Int)) × ((Arr Int 16) × (Int × (Int × (List Int))))))))))))) (h1 : Int × (Int × (Int × (Int × (Int × ((Arr Int 32) × (List UInt8 × (List UInt8 × (((Arr Int 32) × ((Arr Int 16) × Int)) × ((Arr Int 16) × (Int × (Int × (List Int))))))))))))) : (roundK Tryd.prog (Ev120 N) 400 [38] ref40_first_L13_I (loopAt Tryd.prog [38] 13) X ((b0, i7, ()), (h0, h1, ()))).run = ref40_first_L13 N X b0 i7 h0 h1 := by kernel_rfl
noncomputable def Ev121 : (R : Type) → Env R := Env.addLp (Ev120 N) [38] 0 13 (fun R => lpK Tryd.prog ref40_first_L13_I (fun X c => ref40_first_L13 N X c.1.1 c.1.2.1 c.2.1 c.2.2.1) N)
theorem Ev121_ok (R : Type) : EnvOK Tryd.prog (Ev121 N R) := EnvOK.addLp (Ev120_ok N R) (by kernel_rfl) (lpK_ok (li := ref40_first_L13_I) (G := fun X c => ref40_first_L13 N X c.1.1 c.1.2.1 c.2.1 c.2.2.1) hmx (Ev120_ok N _) (by kernel_rfl) loopAt_sub (fun (X : CT ref40_first_L13_I.sh → Option (OT ref40_first_L13_I.outs)) (c : CT ref40_first_L13_I.sh) => ref40_first_L13_S N X c.1.1 c.1.2.1 c.2.1 c.2.2.1) N)
noncomputable def ref40_first_L20_I : LI := ⟨176, 0, [], ⟨[(0, .ty (.sl (.int .u8))), (2, .lit (.box 0 0)), (5, .lit (.box 1 0)), (8, .ty (.int .i64)), (9, .lit (.box 2 0)), (10, .ty (.int .i64))], [.box 30 (.pair (.int .i64) (.pair (.int .i64) (.pair (.int .i64) (.pair (.int .i64) (.pair (.int .i64) (.pair (.arr 32 (.int .u8)) (.pair .str (.pair .str (.pair (.pair (.arr 32 (.int .u8)) (.pair (.arr 16 (.int .u8)) (.int .u32))) (.pair (.arr 16 (.int .u8)) (.pair (.int .u32) (.pair (.int .u32) (.sl (.int .u8)))))))))))))), .box 30 (.pair (.int .i64) (.pair (.int .i64) (.pair (.int .i64) (.pair (.int .i64) (.pair (.int .i64) (.pair (.arr 32 (.int .u8)) (.pair .str (.pair .str (.pair (.pair (.arr 32 (.int .u8)) (.pair (.arr 16 (.int .u8)) (.int .u32))) (.pair (.arr 16 (.int .u8)) (.pair (.int .u32) (.pair (.int .u32) (.sl (.int .u8)))))))))))))), .box 100 (.arr 3 (.sl (.int .u8)))]⟩, [(.ret, ⟨[(2, .lit (.box 0 0)), (3, .ty (.int .i64)), (4, .ty (.int .i64))], [.boxp 30 [.ty (.int .i64), .ty (.int .i64), .ty (.int .i64), .ty (.int .i64), .ty (.int .i64), .ty (.arr 32 (.int .u8)), .ty .str, .ty .str, .ty (.arr 32 (.int .u8)), .ty (.arr 16 (.int .u8)), .ty (.int .u32), .ty (.arr 16 (.int .u8)), .ty (.int .u32), .ty (.int .u32), .nil]]⟩), (.exit 4, ⟨[(2, .lit (.box 0 0)), (5, .lit (.box 1 0)), (8, .ty (.int .i64)), (9, .lit (.box 2 0))], [.box 30 (.pair (.int .i64) (.pair (.int .i64) (.pair (.int .i64) (.pair (.int .i64) (.pair (.int .i64) (.pair (.arr 32 (.int .u8)) (.pair .str (.pair .str (.pair (.pair (.arr 32 (.int .u8)) (.pair (.arr 16 (.int .u8)) (.int .u32))) (.pair (.arr 16 (.int .u8)) (.pair (.int .u32) (.pair (.int .u32) (.sl (.int .u8)))))))))))))), .box 30 (.pair (.int .i64) (.pair (.int .i64) (.pair (.int .i64) (.pair (.int .i64) (.pair (.int .i64) (.pair (.arr 32 (.int .u8)) (.pair .str (.pair .str (.pair (.pair (.arr 32 (.int .u8)) (.pair (.arr 16 (.int .u8)) (.int .u32))) (.pair (.arr 16 (.int .u8)) (.pair (.int .u32) (.pair (.int .u32) (.sl (.int .u8)))))))))))))), .box 100 (.arr 3 (.sl (.int .u8)))]⟩)]⟩
noncomputable def ref40_first_L20 (X : (((List Int) × (Int × (Int × Unit))) × ((Int × (Int × (Int × (Int × (Int × ((Arr Int 32) × (List UInt8 × (List UInt8 × (((Arr Int 32) × ((Arr Int 16) × Int)) × ((Arr Int 16) × (Int × (Int × (List Int))))))))))))) × ((Int × (Int × (Int × (Int × (Int × ((Arr Int 32) × (List UInt8 × (List UInt8 × (((Arr Int 32) × ((Arr Int 16) × Int)) × ((Arr Int 16) × (Int × (Int × (List Int))))))))))))) × ((Arr (List Int) 3) × Unit)))) → Option ((((Int × (Int × Unit)) × (Int × (Int × (Int × (Int × (Int × ((Arr Int 32) × (List UInt8 × (List UInt8 × ((Arr Int 32) × ((Arr Int 16) × (Int × ((Arr Int 16) × (Int × (Int × Unit))))))))))))))) ⊕ ((Int × Unit) × ((Int × (Int × (Int × (Int × (Int × ((Arr Int 32) × (List UInt8 × (List UInt8 × (((Arr Int 32) × ((Arr Int 16) × Int)) × ((Arr Int 16) × (Int × (Int × (List Int))))))))))))) × ((Int × (Int × (Int × (Int × (Int × ((Arr Int 32) × (List UInt8 × (List UInt8 × (((Arr Int 32) × ((Arr Int 16) × Int)) × ((Arr Int 16) × (Int × (Int × (List Int))))))))))))) × ((Arr (List Int) 3) × Unit))))))) (b0 : List (Int)) (x8 : Int) (k10 : Int) (h0 : Int × (Int × (Int × (Int × (Int × ((Arr Int 32) × (List UInt8 × (List UInt8 × (((Arr Int 32) × ((Arr Int 16) × Int)) × ((Arr Int 16) × (Int × (Int × (List Int))))))))))))) (h1 : Int × (Int × (Int × (Int × (Int × ((Arr Int 32) × (List UInt8 × (List UInt8 × (((Arr Int 32) × ((Arr Int 16) × Int)) × ((Arr Int 16) × (Int × (Int × (List Int))))))))))))) (h2 : Arr (List Int) 3) : Option ((((Int × (Int × Unit)) × (Int × (Int × (Int × (Int × (Int × ((Arr Int 32) × (List UInt8 × (List UInt8 × ((Arr Int 32) × ((Arr Int 16) × (Int × ((Arr Int 16) × (Int × (Int × Unit))))))))))))))) ⊕ ((Int × Unit) × ((Int × (Int × (Int × (Int × (Int × ((Arr Int 32) × (List UInt8 × (List UInt8 × (((Arr Int 32) × ((Arr Int 16) × Int)) × ((Arr Int 16) × (Int × (Int × (List Int))))))))))))) × ((Int × (Int × (Int × (Int × (Int × ((Arr Int 32) × (List UInt8 × (List UInt8 × (((Arr Int 32) × ((Arr Int 16) × Int)) × ((Arr Int 16) × (Int × (Int × (List Int))))))))))))) × ((Arr (List Int) 3) × Unit)))))) :=
 bif (decide (k10 < (3 : Int))) then
  bif (decide ((((List.length b0) : Nat) : Int) < (IntKind.wrap .i64 (x8 + 2)))) then
   some ((.inl (((0 : Int), ((4 : Int), ())), ((0 : Int), ((0 : Int), ((0 : Int), ((0 : Int), ((0 : Int), ((@Arr.cons Int 31 0 (@Arr.cons Int 30 0 (@Arr.cons Int 29 0 (@Arr.cons Int 28 0 (@Arr.cons Int 27 0 (@Arr.cons Int 26 0 (@Arr.cons Int 25 0 (@Arr.cons Int 24 0 (@Arr.cons Int 23 0 (@Arr.cons Int 22 0 (@Arr.cons Int 21 0 (@Arr.cons Int 20 0 (@Arr.cons Int 19 0 (@Arr.cons Int 18 0 (@Arr.cons Int 17 0 (@Arr.cons Int 16 0 (@Arr.cons Int 15 0 (@Arr.cons Int 14 0 (@Arr.cons Int 13 0 (@Arr.cons Int 12 0 (@Arr.cons Int 11 0 (@Arr.cons Int 10 0 (@Arr.cons Int 9 0 (@Arr.cons Int 8 0 (@Arr.cons Int 7 0 (@Arr.cons Int 6 0 (@Arr.cons Int 5 0 (@Arr.cons Int 4 0 (@Arr.cons Int 3 0 (@Arr.cons Int 2 0 (@Arr.cons Int 1 0 (@Arr.cons Int 0 0 (@Arr.nil Int))))))))))))))))))))))))))))))))), ((Array.toList (List.toArray ([] : List UInt8))), ((Array.toList (List.toArray ([] : List UInt8))), ((@Arr.cons Int 31 0 (@Arr.cons Int 30 0 (@Arr.cons Int 29 0 (@Arr.cons Int 28 0 (@Arr.cons Int 27 0 (@Arr.cons Int 26 0 (@Arr.cons Int 25 0 (@Arr.cons Int 24 0 (@Arr.cons Int 23 0 (@Arr.cons Int 22 0 (@Arr.cons Int 21 0 (@Arr.cons Int 20 0 (@Arr.cons Int 19 0 (@Arr.cons Int 18 0 (@Arr.cons Int 17 0 (@Arr.cons Int 16 0 (@Arr.cons Int 15 0 (@Arr.cons Int 14 0 (@Arr.cons Int 13 0 (@Arr.cons Int 12 0 (@Arr.cons Int 11 0 (@Arr.cons Int 10 0 (@Arr.cons Int 9 0 (@Arr.cons Int 8 0 (@Arr.cons Int 7 0 (@Arr.cons Int 6 0 (@Arr.cons Int 5 0 (@Arr.cons Int 4 0 (@Arr.cons Int 3 0 (@Arr.cons Int 2 0 (@Arr.cons Int 1 0 (@Arr.cons Int 0 0 (@Arr.nil Int))))))))))))))))))))))))))))))))), ((@Arr.cons Int 15 0 (@Arr.cons Int 14 0 (@Arr.cons Int 13 0 (@Arr.cons Int 12 0 (@Arr.cons Int 11 0 (@Arr.cons Int 10 0 (@Arr.cons Int 9 0 (@Arr.cons Int 8 0 (@Arr.cons Int 7 0 (@Arr.cons Int 6 0 (@Arr.cons Int 5 0 (@Arr.cons Int 4 0 (@Arr.cons Int 3 0 (@Arr.cons Int 2 0 (@Arr.cons Int 1 0 (@Arr.cons Int 0 0 (@Arr.nil Int))))))))))))))))), ((0 : Int), ((@Arr.cons Int 15 0 (@Arr.cons Int 14 0 (@Arr.cons Int 13 0 (@Arr.cons Int 12 0 (@Arr.cons Int 11 0 (@Arr.cons Int 10 0 (@Arr.cons Int 9 0 (@Arr.cons Int 8 0 (@Arr.cons Int 7 0 (@Arr.cons Int 6 0 (@Arr.cons Int 5 0 (@Arr.cons Int 4 0 (@Arr.cons Int 3 0 (@Arr.cons Int 2 0 (@Arr.cons Int 1 0 (@Arr.cons Int 0 0 (@Arr.nil Int))))))))))))))))), ((0 : Int), ((0 : Int), ())))))))))))))))))
  else
   Option.bind (subI b0 x8 (IntKind.wrap .i64 (x8 + 2))) fun (v8 : (List Int)) =>
   Option.bind (ref01_Num N v8) fun v9 =>
   Option.bind (some ((cond false true (decide ((((List.length b0) : Nat) : Int) < (IntKind.wrap .i64 ((IntKind.wrap .i64 (x8 + 2)) + (IntKind.wrap .i64 v9)))))))) fun (v10 : Bool) =>
   bif v10 then
    some ((.inl (((0 : Int), ((4 : Int), ())), ((0 : Int), ((0 : Int), ((0 : Int), ((0 : Int), ((0 : Int), ((@Arr.cons Int 31 0 (@Arr.cons Int 30 0 (@Arr.cons Int 29 0 (@Arr.cons Int 28 0 (@Arr.cons Int 27 0 (@Arr.cons Int 26 0 (@Arr.cons Int 25 0 (@Arr.cons Int 24 0 (@Arr.cons Int 23 0 (@Arr.cons Int 22 0 (@Arr.cons Int 21 0 (@Arr.cons Int 20 0 (@Arr.cons Int 19 0 (@Arr.cons Int 18 0 (@Arr.cons Int 17 0 (@Arr.cons Int 16 0 (@Arr.cons Int 15 0 (@Arr.cons Int 14 0 (@Arr.cons Int 13 0 (@Arr.cons Int 12 0 (@Arr.cons Int 11 0 (@Arr.cons Int 10 0 (@Arr.cons Int 9 0 (@Arr.cons Int 8 0 (@Arr.cons Int 7 0 (@Arr.cons Int 6 0 (@Arr.cons Int 5 0 (@Arr.cons Int 4 0 (@Arr.cons Int 3 0 (@Arr.cons Int 2 0 (@Arr.cons Int 1 0 (@Arr.cons Int 0 0 (@Arr.nil Int))))))))))))))))))))))))))))))))), ((Array.toList (List.toArray ([] : List UInt8))), ((Array.toList (List.toArray ([] : List UInt8))), ((@Arr.cons Int 31 0 (@Arr.cons Int 30 0 (@Arr.cons Int 29 0 (@Arr.cons Int 28 0 (@Arr.cons Int 27 0 (@Arr.cons Int 26 0 (@Arr.cons Int 25 0 (@Arr.cons Int 24 0 (@Arr.cons Int 23 0 (@Arr.cons Int 22 0 (@Arr.cons Int 21 0 (@Arr.cons Int 20 0 (@Arr.cons Int 19 0 (@Arr.cons Int 18 0 (@Arr.cons Int 17 0 (@Arr.cons Int 16 0 (@Arr.cons Int 15 0 (@Arr.cons Int 14 0 (@Arr.cons Int 13 0 (@Arr.cons Int 12 0 (@Arr.cons Int 11 0 (@Arr.cons Int 10 0 (@Arr.cons Int 9 0 (@Arr.cons Int 8 0 (@Arr.cons Int 7 0 (@Arr.cons Int 6 0 (@Arr.cons Int 5 0 (@Arr.cons Int 4 0 (@Arr.cons Int 3 0 (@Arr.cons Int 2 0 (@Arr.cons Int 1 0 (@Arr.cons Int 0 0 (@Arr.nil Int))))))))))))))))))))))))))))))))), ((@Arr.cons Int 15 0 (@Arr.cons Int 14 0 (@Arr.cons Int 13 0 (@Arr.cons Int 12 0 (@Arr.cons Int 11 0 (@Arr.cons Int 10 0 (@Arr.cons Int 9 0 (@Arr.cons Int 8 0 (@Arr.cons Int 7 0 (@Arr.cons Int 6 0 (@Arr.cons Int 5 0 (@Arr.cons Int 4 0 (@Arr.cons Int 3 0 (@Arr.cons Int 2 0 (@Arr.cons Int 1 0 (@Arr.cons Int 0 0 (@Arr.nil Int))))))))))))))))), ((0 : Int), ((@Arr.cons Int 15 0 (@Arr.cons Int 14 0 (@Arr.cons Int 13 0 (@Arr.cons Int 12 0 (@Arr.cons Int 11 0 (@Arr.cons Int 10 0 (@Arr.cons Int 9 0 (@Arr.cons Int 8 0 (@Arr.cons Int 7 0 (@Arr.cons Int 6 0 (@Arr.cons Int 5 0 (@Arr.cons Int 4 0 (@Arr.cons Int 3 0 (@Arr.cons Int 2 0 (@Arr.cons Int 1 0 (@Arr.cons Int 0 0 (@Arr.nil Int))))))))))))))))), ((0 : Int), ((0 : Int), ())))))))))))))))))
   else
    Option.bind (subI b0 x8 (IntKind.wrap .i64 (x8 + 2))) fun (v11 : (List Int)) =>
    Option.bind (ref01_Num N v11) fun v12 =>
    Option.bind (subI b0 (IntKind.wrap .i64 (x8 + 2)) (IntKind.wrap .i64 ((IntKind.wrap .i64 (x8 + 2)) + (IntKind.wrap .i64 v12)))) fun (v13 : (List Int)) =>
    bif (decide ((0 : Int) ≤ k10 ∧ k10 < ((3 : Nat) : Int))) then
     Option.bind (@GetElem?.getElem? (List (List Int)) Nat (List Int) (fun (as14 : (List (List Int))) => (fun (i15 : Nat) => (@LT.lt Nat @instLTNat i15 (List.length as14)))) (@List.instGetElem?NatLtLength (List Int)) h2.l (Int.toNat k10)) fun (v14 : (List Int)) =>
     (X ((b0, ((IntKind.wrap .i64 (x8 + (IntKind.wrap .i64 ((2 : Int) + (IntKind.wrap .i64 v12))))), ((IntKind.wrap .i64 (k10 + 1)), ()))), ((h0.1, (h0.2.1, (h0.2.2.1, (h0.2.2.2.1, (h0.2.2.2.2.1, (h0.2.2.2.2.2.1, (h0.2.2.2.2.2.2.1, (h0.2.2.2.2.2.2.2.1, ((h0.2.2.2.2.2.2.2.2.1.1, (h0.2.2.2.2.2.2.2.2.1.2.1, h0.2.2.2.2.2.2.2.2.1.2.2)), (h0.2.2.2.2.2.2.2.2.2.1, (h0.2.2.2.2.2.2.2.2.2.2.1, (h0.2.2.2.2.2.2.2.2.2.2.2.1, h0.2.2.2.2.2.2.2.2.2.2.2.2)))))))))))), ((h1.1, (h1.2.1, (h1.2.2.1, (h1.2.2.2.1, (h1.2.2.2.2.1, (h1.2.2.2.2.2.1, (h1.2.2.2.2.2.2.1, (h1.2.2.2.2.2.2.2.1, ((h1.2.2.2.2.2.2.2.2.1.1, (h1.2.2.2.2.2.2.2.2.1.2.1, h1.2.2.2.2.2.2.2.2.1.2.2)), (h1.2.2.2.2.2.2.2.2.2.1, (h1.2.2.2.2.2.2.2.2.2.2.1, (h1.2.2.2.2.2.2.2.2.2.2.2.1, h1.2.2.2.2.2.2.2.2.2.2.2.2)))))))))))), ((h2.set (Int.toNat k10) v13), ())))))
    else
     none
 else
  some ((.inr ((x8, ()), ((h0.1, (h0.2.1, (h0.2.2.1, (h0.2.2.2.1, (h0.2.2.2.2.1, (h0.2.2.2.2.2.1, (h0.2.2.2.2.2.2.1, (h0.2.2.2.2.2.2.2.1, ((h0.2.2.2.2.2.2.2.2.1.1, (h0.2.2.2.2.2.2.2.2.1.2.1, h0.2.2.2.2.2.2.2.2.1.2.2)), (h0.2.2.2.2.2.2.2.2.2.1, (h0.2.2.2.2.2.2.2.2.2.2.1, (h0.2.2.2.2.2.2.2.2.2.2.2.1, h0.2.2.2.2.2.2.2.2.2.2.2.2)))))))))))), ((h1.1, (h1.2.1, (h1.2.2.1, (h1.2.2.2.1, (h1.2.2.2.2.1, (h1.2.2.2.2.2.1, (h1.2.2.2.2.2.2.1, (h1.2.2.2.2.2.2.2.1, ((h1.2.2.2.2.2.2.2.2.1.1, (h1.2.2.2.2.2.2.2.2.1.2.1, h1.2.2.2.2.2.2.2.2.1.2.2)), (h1.2.2.2.2.2.2.2.2.2.1, (h1.2.2.2.2.2.2.2.2.2.2.1, (h1.2.2.2.2.2.2.2.2.2.2.2.1, h1.2.2.2.2.2.2.2.2.2.2.2.2)))))))))))), (h2, ()))))))
noncomputable def ref40_first_L20_R (c : (((List Int) × (Int × (Int × Unit))) × ((Int × (Int × (Int × (Int × (Int × ((Arr Int 32) × (List UInt8 × (List UInt8 × (((Arr Int 32) × ((Arr Int 16) × Int)) × ((Arr Int 16) × (Int × (Int × (List Int))))))))))))) × ((Int × (Int × (Int × (Int × (Int × ((Arr Int 32) × (List UInt8 × (List UInt8 × (((Arr Int 32) × ((Arr Int 16) × Int)) × ((Arr Int 16) × (Int × (Int × (List Int))))))))))))) × ((Arr (List Int) 3) × Unit))))) : Option ((((Int × (Int × Unit)) × (Int × (Int × (Int × (Int × (Int × ((Arr Int 32) × (List UInt8 × (List UInt8 × ((Arr Int 32) × ((Arr Int 16) × (Int × ((Arr Int 16) × (Int × (Int × Unit))))))))))))))) ⊕ ((Int × Unit) × ((Int × (Int × (Int × (Int × (Int × ((Arr Int 32) × (List UInt8 × (List UInt8 × (((Arr Int 32) × ((Arr Int 16) × Int)) × ((Arr Int 16) × (Int × (Int × (List Int))))))))))))) × ((Int × (Int × (Int × (Int × (Int × ((Arr Int 32) × (List UInt8 × (List UInt8 × (((Arr Int 32) × ((Arr Int 16) × Int)) × ((Arr Int 16) × (Int × (Int × (List Int))))))))))))) × ((Arr (List Int) 3) × Unit)))))) := gl (fun X c => ref40_first_L20 N X c.1.1 c.1.2.1 c.1.2.2.1 c.2.1 c.2.2.1 c.2.2.2.1) N c
theorem ref40_first_L20_S (X : (((List Int) × (Int × (Int × Unit))) × ((Int × (Int × (Int × (Int × (Int × ((Arr Int 32) × (List UInt8 × (List UInt8 × (((Arr Int 32) × ((Arr Int 16) × Int)) × ((Arr Int 16) × (Int × (Int × (List Int))))))))))))) × ((Int × (Int × (Int × (Int × (Int × ((Arr Int 32) × (List UInt8 × (List UInt8 × (((Arr Int 32) × ((Arr Int 16) × Int)) × ((Arr Int 16) × (Int × (Int × (List Int))))))))))))) × ((Arr (List Int) 3) × Unit)))) → Option ((((Int × (Int × Unit)) × (Int × (Int × (Int × (Int × (Int × ((Arr Int 32) × (List UInt8 × (List UInt8 × ((Arr Int 32) × ((Arr Int 16) × (Int × ((Arr Int 16) × (Int × (Int × Unit))))))))))))))) ⊕ ((Int × Unit) × ((Int × (Int × (Int × (Int × (Int × ((Arr Int 32) × (List UInt8 × (List UInt8 × (((Arr Int 32) × ((Arr Int 16) × Int)) × ((Arr Int 16) × (Int × (Int × (List Int))))))))))))) × ((Int × (Int × (Int × (Int × (Int × ((Arr Int 32) × (List UInt8 × (List UInt8 × (((Arr Int 32) × ((Arr Int 16) × Int)) × ((Arr Int 16) × (Int × (Int × (List Int))))))))))))) × ((Arr (List Int) 3) × Unit))))))) (b0 : List (Int)) (x8 : Int) (k10 : Int) (h0 : Int × (Int × (Int × (Int × (Int × ((Arr Int 32) × (List UInt8 × (List UInt8 × (((Arr Int 32) × ((Arr Int 16) × Int)) × ((Arr Int 16) × (Int × (Int × (List Int))))))))))))) (h1 : Int × (Int × (Int × (Int × (Int × ((Arr Int 32) × (List UInt8 × (List UInt8 × (((Arr Int 32) × ((Arr Int 16) × Int)) × ((Arr Int 16) × (Int × (Int × (List Int))))))))))))) (h2 : Arr (List Int) 3) : (roundK Tryd.prog (Ev121 N) 400 [38] ref40_first_L20_I (loopAt Tryd.prog [38] 20) X ((b0, x8, k10, ()), (h0, h1, h2, ()))).run = ref40_first_L20 N X b0 x8 k10 h0 h1 h2 := by kernel_rfl
noncomputable def Ev122 : (R : Type) → Env R := Env.addLp (Ev121 N) [38] 0 20 (fun R => lpK Tryd.prog ref40_first_L20_I (fun X c => ref40_first_L20 N X c.1.1 c.1.2.1 c.1.2.2.1 c.2.1 c.2.2.1 c.2.2.2.1) N)
theorem Ev122_ok (R : Type) : EnvOK Tryd.prog (Ev122 N R) := EnvOK.addLp (Ev121_ok N R) (by kernel_rfl) (lpK_ok (li := ref40_first_L20_I) (G := fun X c => ref40_first_L20 N X c.1.1 c.1.2.1 c.1.2.2.1 c.2.1 c.2.2.1 c.2.2.2.1) hmx (Ev121_ok N _) (by kernel_rfl) loopAt_sub (fun (X : CT ref40_first_L20_I.sh → Option (OT ref40_first_L20_I.outs)) (c : CT ref40_first_L20_I.sh) => ref40_first_L20_S N X c.1.1 c.1.2.1 c.1.2.2.1 c.2.1 c.2.2.1 c.2.2.2.1) N)
noncomputable def ref40_first (b0 : List (Int)) : Option ((Int × (Int × (Int × (Int × (Int × ((Arr Int 32) × (List UInt8 × (List UInt8 × (((Arr Int 32) × ((Arr Int 16) × Int)) × ((Arr Int 16) × (Int × (Int × (List Int))))))))))))) × Int × Int) :=
 bif (decide ((((List.length b0) : Nat) : Int) = (0 : Int))) then
  some ((((0 : Int), ((0 : Int), ((0 : Int), ((0 : Int), ((0 : Int), ((@Arr.cons Int 31 0 (@Arr.cons Int 30 0 (@Arr.cons Int 29 0 (@Arr.cons Int 28 0 (@Arr.cons Int 27 0 (@Arr.cons Int 26 0 (@Arr.cons Int 25 0 (@Arr.cons Int 24 0 (@Arr.cons Int 23 0 (@Arr.cons Int 22 0 (@Arr.cons Int 21 0 (@Arr.cons Int 20 0 (@Arr.cons Int 19 0 (@Arr.cons Int 18 0 (@Arr.cons Int 17 0 (@Arr.cons Int 16 0 (@Arr.cons Int 15 0 (@Arr.cons Int 14 0 (@Arr.cons Int 13 0 (@Arr.cons Int 12 0 (@Arr.cons Int 11 0 (@Arr.cons Int 10 0 (@Arr.cons Int 9 0 (@Arr.cons Int 8 0 (@Arr.cons Int 7 0 (@Arr.cons Int 6 0 (@Arr.cons Int 5 0 (@Arr.cons Int 4 0 (@Arr.cons Int 3 0 (@Arr.cons Int 2 0 (@Arr.cons Int 1 0 (@Arr.cons Int 0 0 (@Arr.nil Int))))))))))))))))))))))))))))))))), ((Array.toList (List.toArray ([] : List UInt8))), ((Array.toList (List.toArray ([] : List UInt8))), (((@Arr.cons Int 31 0 (@Arr.cons Int 30 0 (@Arr.cons Int 29 0 (@Arr.cons Int 28 0 (@Arr.cons Int 27 0 (@Arr.cons Int 26 0 (@Arr.cons Int 25 0 (@Arr.cons Int 24 0 (@Arr.cons Int 23 0 (@Arr.cons Int 22 0 (@Arr.cons Int 21 0 (@Arr.cons Int 20 0 (@Arr.cons Int 19 0 (@Arr.cons Int 18 0 (@Arr.cons Int 17 0 (@Arr.cons Int 16 0 (@Arr.cons Int 15 0 (@Arr.cons Int 14 0 (@Arr.cons Int 13 0 (@Arr.cons Int 12 0 (@Arr.cons Int 11 0 (@Arr.cons Int 10 0 (@Arr.cons Int 9 0 (@Arr.cons Int 8 0 (@Arr.cons Int 7 0 (@Arr.cons Int 6 0 (@Arr.cons Int 5 0 (@Arr.cons Int 4 0 (@Arr.cons Int 3 0 (@Arr.cons Int 2 0 (@Arr.cons Int 1 0 (@Arr.cons Int 0 0 (@Arr.nil Int))))))))))))))))))))))))))))))))), ((@Arr.cons Int 15 0 (@Arr.cons Int 14 0 (@Arr.cons Int 13 0 (@Arr.cons Int 12 0 (@Arr.cons Int 11 0 (@Arr.cons Int 10 0 (@Arr.cons Int 9 0 (@Arr.cons Int 8 0 (@Arr.cons Int 7 0 (@Arr.cons Int 6 0 (@Arr.cons Int 5 0 (@Arr.cons Int 4 0 (@Arr.cons Int 3 0 (@Arr.cons Int 2 0 (@Arr.cons Int 1 0 (@Arr.cons Int 0 0 (@Arr.nil Int))))))))))))))))), (0 : Int))), ((@Arr.cons Int 15 0 (@Arr.cons Int 14 0 (@Arr.cons Int 13 0 (@Arr.cons Int 12 0 (@Arr.cons Int 11 0 (@Arr.cons Int 10 0 (@Arr.cons Int 9 0 (@Arr.cons Int 8 0 (@Arr.cons Int 7 0 (@Arr.cons Int 6 0 (@Arr.cons Int 5 0 (@Arr.cons Int 4 0 (@Arr.cons Int 3 0 (@Arr.cons Int 2 0 (@Arr.cons Int 1 0 (@Arr.cons Int 0 0 (@Arr.nil Int))))))))))))))))), ((0 : Int), ((0 : Int), ([] : List Int))))))))))))), ((0 : Int), (4 : Int))))
 else
  Option.bind (getI b0 (0 : Int)) fun (v2 : Int) =>
  Option.bind (bif (decide (v2 < (1 : Int))) then
    some (true)
   else
    Option.bind (getI b0 (0 : Int)) fun (v3 : Int) =>
    some ((cond false true (decide ((12 : Int) < v3))))) fun (v3 : Bool) =>
  bif v3 then
   some ((((0 : Int), ((0 : Int), ((0 : Int), ((0 : Int), ((0 : Int), ((@Arr.cons Int 31 0 (@Arr.cons Int 30 0 (@Arr.cons Int 29 0 (@Arr.cons Int 28 0 (@Arr.cons Int 27 0 (@Arr.cons Int 26 0 (@Arr.cons Int 25 0 (@Arr.cons Int 24 0 (@Arr.cons Int 23 0 (@Arr.cons Int 22 0 (@Arr.cons Int 21 0 (@Arr.cons Int 20 0 (@Arr.cons Int 19 0 (@Arr.cons Int 18 0 (@Arr.cons Int 17 0 (@Arr.cons Int 16 0 (@Arr.cons Int 15 0 (@Arr.cons Int 14 0 (@Arr.cons Int 13 0 (@Arr.cons Int 12 0 (@Arr.cons Int 11 0 (@Arr.cons Int 10 0 (@Arr.cons Int 9 0 (@Arr.cons Int 8 0 (@Arr.cons Int 7 0 (@Arr.cons Int 6 0 (@Arr.cons Int 5 0 (@Arr.cons Int 4 0 (@Arr.cons Int 3 0 (@Arr.cons Int 2 0 (@Arr.cons Int 1 0 (@Arr.cons Int 0 0 (@Arr.nil Int))))))))))))))))))))))))))))))))), ((Array.toList (List.toArray ([] : List UInt8))), ((Array.toList (List.toArray ([] : List UInt8))), (((@Arr.cons Int 31 0 (@Arr.cons Int 30 0 (@Arr.cons Int 29 0 (@Arr.cons Int 28 0 (@Arr.cons Int 27 0 (@Arr.cons Int 26 0 (@Arr.cons Int 25 0 (@Arr.cons Int 24 0 (@Arr.cons Int 23 0 (@Arr.cons Int 22 0 (@Arr.cons Int 21 0 (@Arr.cons Int 20 0 (@Arr.cons Int 19 0 (@Arr.cons Int 18 0 (@Arr.cons Int 17 0 (@Arr.cons Int 16 0 (@Arr.cons Int 15 0 (@Arr.cons Int 14 0 (@Arr.cons Int 13 0 (@Arr.cons Int 12 0 (@Arr.cons Int 11 0 (@Arr.cons Int 10 0 (@Arr.cons Int 9 0 (@Arr.cons Int 8 0 (@Arr.cons Int 7 0 (@Arr.cons Int 6 0 (@Arr.cons Int 5 0 (@Arr.cons Int 4 0 (@Arr.cons Int 3 0 (@Arr.cons Int 2 0 (@Arr.cons Int 1 0 (@Arr.cons Int 0 0 (@Arr.nil Int))))))))))))))))))))))))))))))))), ((@Arr.cons Int 15 0 (@Arr.cons Int 14 0 (@Arr.cons Int 13 0 (@Arr.cons Int 12 0 (@Arr.cons Int 11 0 (@Arr.cons Int 10 0 (@Arr.cons Int 9 0 (@Arr.cons Int 8 0 (@Arr.cons Int 7 0 (@Arr.cons Int 6 0 (@Arr.cons Int 5 0 (@Arr.cons Int 4 0 (@Arr.cons Int 3 0 (@Arr.cons Int 2 0 (@Arr.cons Int 1 0 (@Arr.cons Int 0 0 (@Arr.nil Int))))))))))))))))), (0 : Int))), ((@Arr.cons Int 15 0 (@Arr.cons Int 14 0 (@Arr.cons Int 13 0 (@Arr.cons Int 12 0 (@Arr.cons Int 11 0 (@Arr.cons Int 10 0 (@Arr.cons Int 9 0 (@Arr.cons Int 8 0 (@Arr.cons Int 7 0 (@Arr.cons Int 6 0 (@Arr.cons Int 5 0 (@Arr.cons Int 4 0 (@Arr.cons Int 3 0 (@Arr.cons Int 2 0 (@Arr.cons Int 1 0 (@Arr.cons Int 0 0 (@Arr.nil Int))))))))))))))))), ((0 : Int), ((0 : Int), ([] : List Int))))))))))))), ((0 : Int), (9 : Int))))
  else
   bif (decide ((((List.length b0) : Nat) : Int) < (116 : Int))) then
    some ((((0 : Int), ((0 : Int), ((0 : Int), ((0 : Int), ((0 : Int), ((@Arr.cons Int 31 0 (@Arr.cons Int 30 0 (@Arr.cons Int 29 0 (@Arr.cons Int 28 0 (@Arr.cons Int 27 0 (@Arr.cons Int 26 0 (@Arr.cons Int 25 0 (@Arr.cons Int 24 0 (@Arr.cons Int 23 0 (@Arr.cons Int 22 0 (@Arr.cons Int 21 0 (@Arr.cons Int 20 0 (@Arr.cons Int 19 0 (@Arr.cons Int 18 0 (@Arr.cons Int 17 0 (@Arr.cons Int 16 0 (@Arr.cons Int 15 0 (@Arr.cons Int 14 0 (@Arr.cons Int 13 0 (@Arr.cons Int 12 0 (@Arr.cons Int 11 0 (@Arr.cons Int 10 0 (@Arr.cons Int 9 0 (@Arr.cons Int 8 0 (@Arr.cons Int 7 0 (@Arr.cons Int 6 0 (@Arr.cons Int 5 0 (@Arr.cons Int 4 0 (@Arr.cons Int 3 0 (@Arr.cons Int 2 0 (@Arr.cons Int 1 0 (@Arr.cons Int 0 0 (@Arr.nil Int))))))))))))))))))))))))))))))))), ((Array.toList (List.toArray ([] : List UInt8))), ((Array.toList (List.toArray ([] : List UInt8))), (((@Arr.cons Int 31 0 (@Arr.cons Int 30 0 (@Arr.cons Int 29 0 (@Arr.cons Int 28 0 (@Arr.cons Int 27 0 (@Arr.cons Int 26 0 (@Arr.cons Int 25 0 (@Arr.cons Int 24 0 (@Arr.cons Int 23 0 (@Arr.cons Int 22 0 (@Arr.cons Int 21 0 (@Arr.cons Int 20 0 (@Arr.cons Int 19 0 (@Arr.cons Int 18 0 (@Arr.cons Int 17 0 (@Arr.cons Int 16 0 (@Arr.cons Int 15 0 (@Arr.cons Int 14 0 (@Arr.cons Int 13 0 (@Arr.cons Int 12 0 (@Arr.cons Int 11 0 (@Arr.cons Int 10 0 (@Arr.cons Int 9 0 (@Arr.cons Int 8 0 (@Arr.cons Int 7 0 (@Arr.cons Int 6 0 (@Arr.cons Int 5 0 (@Arr.cons Int 4 0 (@Arr.cons Int 3 0 (@Arr.cons Int 2 0 (@Arr.cons Int 1 0 (@Arr.cons Int 0 0 (@Arr.nil Int))))))))))))))))))))))))))))))))), ((@Arr.cons Int 15 0 (@Arr.cons Int 14 0 (@Arr.cons Int 13 0 (@Arr.cons Int 12 0 (@Arr.cons Int 11 0 (@Arr.cons Int 10 0 (@Arr.cons Int 9 0 (@Arr.cons Int 8 0 (@Arr.cons Int 7 0 (@Arr.cons Int 6 0 (@Arr.cons Int 5 0 (@Arr.cons Int 4 0 (@Arr.cons Int 3 0 (@Arr.cons Int 2 0 (@Arr.cons Int 1 0 (@Arr.cons Int 0 0 (@Arr.nil Int))))))))))))))))), (0 : Int))), ((@Arr.cons Int 15 0 (@Arr.cons Int 14 0 (@Arr.cons Int 13 0 (@Arr.cons Int 12 0 (@Arr.cons Int 11 0 (@Arr.cons Int 10 0 (@Arr.cons Int 9 0 (@Arr.cons Int 8 0 (@Arr.cons Int 7 0 (@Arr.cons Int 6 0 (@Arr.cons Int 5 0 (@Arr.cons Int 4 0 (@Arr.cons Int 3 0 (@Arr.cons Int 2 0 (@Arr.cons Int 1 0 (@Arr.cons Int 0 0 (@Arr.nil Int))))))))))))))))), ((0 : Int), ((0 : Int), ([] : List Int))))))))))))), ((0 : Int), (4 : Int))))
   else
    Option.bind (getI b0 (0 : Int)) fun (v4 : Int) =>
    Option.bind (getI b0 (1 : Int)) fun (v5 : Int) =>
    Option.bind (getI b0 (2 : Int)) fun (v6 : Int) =>
    Option.bind (getI b0 (3 : Int)) fun (v7 : Int) =>
    Option.bind (subI b0 (4 : Int) (8 : Int)) fun (v8 : (List Int)) =>
    Option.bind (ref01_Num N v8) fun v9 =>
    Option.bind (ref40_first_L9_R N ((b0, ((0 : Int), ())), (((0 : Int), ((0 : Int), ((0 : Int), ((0 : Int), ((0 : Int), ((@Arr.cons Int 31 0 (@Arr.cons Int 30 0 (@Arr.cons Int 29 0 (@Arr.cons Int 28 0 (@Arr.cons Int 27 0 (@Arr.cons Int 26 0 (@Arr.cons Int 25 0 (@Arr.cons Int 24 0 (@Arr.cons Int 23 0 (@Arr.cons Int 22 0 (@Arr.cons Int 21 0 (@Arr.cons Int 20 0 (@Arr.cons Int 19 0 (@Arr.cons Int 18 0 (@Arr.cons Int 17 0 (@Arr.cons Int 16 0 (@Arr.cons Int 15 0 (@Arr.cons Int 14 0 (@Arr.cons Int 13 0 (@Arr.cons Int 12 0 (@Arr.cons Int 11 0 (@Arr.cons Int 10 0 (@Arr.cons Int 9 0 (@Arr.cons Int 8 0 (@Arr.cons Int 7 0 (@Arr.cons Int 6 0 (@Arr.cons Int 5 0 (@Arr.cons Int 4 0 (@Arr.cons Int 3 0 (@Arr.cons Int 2 0 (@Arr.cons Int 1 0 (@Arr.cons Int 0 0 (@Arr.nil Int))))))))))))))))))))))))))))))))), ((Array.toList (List.toArray ([] : List UInt8))), ((Array.toList (List.toArray ([] : List UInt8))), (((@Arr.cons Int 31 0 (@Arr.cons Int 30 0 (@Arr.cons Int 29 0 (@Arr.cons Int 28 0 (@Arr.cons Int 27 0 (@Arr.cons Int 26 0 (@Arr.cons Int 25 0 (@Arr.cons Int 24 0 (@Arr.cons Int 23 0 (@Arr.cons Int 22 0 (@Arr.cons Int 21 0 (@Arr.cons Int 20 0 (@Arr.cons Int 19 0 (@Arr.cons Int 18 0 (@Arr.cons Int 17 0 (@Arr.cons Int 16 0 (@Arr.cons Int 15 0 (@Arr.cons Int 14 0 (@Arr.cons Int 13 0 (@Arr.cons Int 12 0 (@Arr.cons Int 11 0 (@Arr.cons Int 10 0 (@Arr.cons Int 9 0 (@Arr.cons Int 8 0 (@Arr.cons Int 7 0 (@Arr.cons Int 6 0 (@Arr.cons Int 5 0 (@Arr.cons Int 4 0 (@Arr.cons Int 3 0 (@Arr.cons Int 2 0 (@Arr.cons Int 1 0 (@Arr.cons Int 0 0 (@Arr.nil Int))))))))))))))))))))))))))))))))), ((@Arr.cons Int 15 0 (@Arr.cons Int 14 0 (@Arr.cons Int 13 0 (@Arr.cons Int 12 0 (@Arr.cons Int 11 0 (@Arr.cons Int 10 0 (@Arr.cons Int 9 0 (@Arr.cons Int 8 0 (@Arr.cons Int 7 0 (@Arr.cons Int 6 0 (@Arr.cons Int 5 0 (@Arr.cons Int 4 0 (@Arr.cons Int 3 0 (@Arr.cons Int 2 0 (@Arr.cons Int 1 0 (@Arr.cons Int 0 0 (@Arr.nil Int))))))))))))))))), (0 : Int))), ((@Arr.cons Int 15 0 (@Arr.cons Int 14 0 (@Arr.cons Int 13 0 (@Arr.cons Int 12 0 (@Arr.cons Int 11 0 (@Arr.cons Int 10 0 (@Arr.cons Int 9 0 (@Arr.cons Int 8 0 (@Arr.cons Int 7 0 (@Arr.cons Int 6 0 (@Arr.cons Int 5 0 (@Arr.cons Int 4 0 (@Arr.cons Int 3 0 (@Arr.cons Int 2 0 (@Arr.cons Int 1 0 (@Arr.cons Int 0 0 (@Arr.nil Int))))))))))))))))), ((0 : Int), ((0 : Int), ([] : List Int))))))))))))), (((IntKind.wrap .i64 v4), ((IntKind.wrap .i64 v5), ((IntKind.wrap .i64 v6), ((IntKind.wrap .i64 v7), ((IntKind.wrap .i64 v9), ((@Arr.cons Int 31 0 (@Arr.cons Int 30 0 (@Arr.cons Int 29 0 (@Arr.cons Int 28 0 (@Arr.cons Int 27 0 (@Arr.cons Int 26 0 (@Arr.cons Int 25 0 (@Arr.cons Int 24 0 (@Arr.cons Int 23 0 (@Arr.cons Int 22 0 (@Arr.cons Int 21 0 (@Arr.cons Int 20 0 (@Arr.cons Int 19 0 (@Arr.cons Int 18 0 (@Arr.cons Int 17 0 (@Arr.cons Int 16 0 (@Arr.cons Int 15 0 (@Arr.cons Int 14 0 (@Arr.cons Int 13 0 (@Arr.cons Int 12 0 (@Arr.cons Int 11 0 (@Arr.cons Int 10 0 (@Arr.cons Int 9 0 (@Arr.cons Int 8 0 (@Arr.cons Int 7 0 (@Arr.cons Int 6 0 (@Arr.cons Int 5 0 (@Arr.cons Int 4 0 (@Arr.cons Int 3 0 (@Arr.cons Int 2 0 (@Arr.cons Int 1 0 (@Arr.cons Int 0 0 (@Arr.nil Int))))))))))))))))))))))))))))))))), ((Array.toList (List.toArray ([] : List UInt8))), ((Array.toList (List.toArray ([] : List UInt8))), (((@Arr.cons Int 31 0 (@Arr.cons Int 30 0 (@Arr.cons Int 29 0 (@Arr.cons Int 28 0 (@Arr.cons Int 27 0 (@Arr.cons Int 26 0 (@Arr.cons Int 25 0 (@Arr.cons Int 24 0 (@Arr.cons Int 23 0 (@Arr.cons Int 22 0 (@Arr.cons Int 21 0 (@Arr.cons Int 20 0 (@Arr.cons Int 19 0 (@Arr.cons Int 18 0 (@Arr.cons Int 17 0 (@Arr.cons Int 16 0 (@Arr.cons Int 15 0 (@Arr.cons Int 14 0 (@Arr.cons Int 13 0 (@Arr.cons Int 12 0 (@Arr.cons Int 11 0 (@Arr.cons Int 10 0 (@Arr.cons Int 9 0 (@Arr.cons Int 8 0 (@Arr.cons Int 7 0 (@Arr.cons Int 6 0 (@Arr.cons Int 5 0 (@Arr.cons Int 4 0 (@Arr.cons Int 3 0 (@Arr.cons Int 2 0 (@Arr.cons Int 1 0 (@Arr.cons Int 0 0 (@Arr.nil Int))))))))))))))))))))))))))))))))), ((@Arr.cons Int 15 0 (@Arr.cons Int 14 0 (@Arr.cons Int 13 0 (@Arr.cons Int 12 0 (@Arr.cons Int 11 0 (@Arr.cons Int 10 0 (@Arr.cons Int 9 0 (@Arr.cons Int 8 0 (@Arr.cons Int 7 0 (@Arr.cons Int 6 0 (@Arr.cons Int 5 0 (@Arr.cons Int 4 0 (@Arr.cons Int 3 0 (@Arr.cons Int 2 0 (@Arr.cons Int 1 0 (@Arr.cons Int 0 0 (@Arr.nil Int))))))))))))))))), (0 : Int))), ((@Arr.cons Int 15 0 (@Arr.cons Int 14 0 (@Arr.cons Int 13 0 (@Arr.cons Int 12 0 (@Arr.cons Int 11 0 (@Arr.cons Int 10 0 (@Arr.cons Int 9 0 (@Arr.cons Int 8 0 (@Arr.cons Int 7 0 (@Arr.cons Int 6 0 (@Arr.cons Int 5 0 (@Arr.cons Int 4 0 (@Arr.cons Int 3 0 (@Arr.cons Int 2 0 (@Arr.cons Int 1 0 (@Arr.cons Int 0 0 (@Arr.nil Int))))))))))))))))), ((0 : Int), ((0 : Int), ([] : List Int))))))))))))), ())))) fun v10 =>
    Option.bind (ref40_first_L13_R N ((v10.1.1, ((0 : Int), ())), ((v10.2.1.1, (v10.2.1.2.1, (v10.2.1.2.2.1, (v10.2.1.2.2.2.1, (v10.2.1.2.2.2.2.1, (v10.2.1.2.2.2.2.2.1, (v10.2.1.2.2.2.2.2.2.1, (v10.2.1.2.2.2.2.2.2.2.1, ((v10.2.1.2.2.2.2.2.2.2.2.1.1, (v10.2.1.2.2.2.2.2.2.2.2.1.2.1, v10.2.1.2.2.2.2.2.2.2.2.1.2.2)), (v10.2.1.2.2.2.2.2.2.2.2.2.1, (v10.2.1.2.2.2.2.2.2.2.2.2.2.1, (v10.2.1.2.2.2.2.2.2.2.2.2.2.2.1, v10.2.1.2.2.2.2.2.2.2.2.2.2.2.2)))))))))))), ((v10.2.2.1.1, (v10.2.2.1.2.1, (v10.2.2.1.2.2.1, (v10.2.2.1.2.2.2.1, (v10.2.2.1.2.2.2.2.1, (v10.2.2.1.2.2.2.2.2.1, (v10.2.2.1.2.2.2.2.2.2.1, (v10.2.2.1.2.2.2.2.2.2.2.1, ((v10.2.2.1.2.2.2.2.2.2.2.2.1.1, (v10.2.2.1.2.2.2.2.2.2.2.2.1.2.1, v10.2.2.1.2.2.2.2.2.2.2.2.1.2.2)), (v10.2.2.1.2.2.2.2.2.2.2.2.2.1, (v10.2.2.1.2.2.2.2.2.2.2.2.2.2.1, (v10.2.2.1.2.2.2.2.2.2.2.2.2.2.2.1, v10.2.2.1.2.2.2.2.2.2.2.2.2.2.2.2)))))))))))), ())))) fun v11 =>
    Option.bind (subI v11.1.1 (88 : Int) (92 : Int)) fun (v12 : (List Int)) =>
    Option.bind (ref01_Num N v12) fun v13 =>
    Option.bind (subI v11.1.1 (108 : Int) (112 : Int)) fun (v14 : (List Int)) =>
    Option.bind (ref01_Num N v14) fun v15 =>
    Option.bind (subI v11.1.1 (112 : Int) (116 : Int)) fun (v16 : (List Int)) =>
    Option.bind (ref01_Num N v16) fun v17 =>
    Option.bind (ref40_first_L20_R N ((v11.1.1, ((116 : Int), ((0 : Int), ()))), ((v11.2.1.1, (v11.2.1.2.1, (v11.2.1.2.2.1, (v11.2.1.2.2.2.1, (v11.2.1.2.2.2.2.1, (v11.2.1.2.2.2.2.2.1, (v11.2.1.2.2.2.2.2.2.1, (v11.2.1.2.2.2.2.2.2.2.1, ((v11.2.1.2.2.2.2.2.2.2.2.1.1, (v11.2.1.2.2.2.2.2.2.2.2.1.2.1, v11.2.1.2.2.2.2.2.2.2.2.1.2.2)), (v11.2.1.2.2.2.2.2.2.2.2.2.1, (v11.2.1.2.2.2.2.2.2.2.2.2.2.1, (v11.2.1.2.2.2.2.2.2.2.2.2.2.2.1, v11.2.1.2.2.2.2.2.2.2.2.2.2.2.2)))))))))))), ((v11.2.2.1.1, (v11.2.2.1.2.1, (v11.2.2.1.2.2.1, (v11.2.2.1.2.2.2.1, (v11.2.2.1.2.2.2.2.1, (v11.2.2.1.2.2.2.2.2.1, (v11.2.2.1.2.2.2.2.2.2.1, (v11.2.2.1.2.2.2.2.2.2.2.1, ((v11.2.2.1.2.2.2.2.2.2.2.2.1.1, (v11.2.2.1.2.2.2.2.2.2.2.2.1.2.1, (IntKind.wrap .u32 v13))), (v11.2.2.1.2.2.2.2.2.2.2.2.2.1, ((IntKind.wrap .u32 v15), ((IntKind.wrap .u32 v17), v11.2.2.1.2.2.2.2.2.2.2.2.2.2.2.2)))))))))))), ((@Arr.cons (List Int) (2 : Nat) ([] : List Int) (@Arr.cons (List Int) (1 : Nat) ([] : List Int) (@Arr.cons (List Int) (0 : Nat) ([] : List Int) (@Arr.nil (List Int))))), ()))))) fun v18 =>
    Sum.elim
     (fun (v19 : ((Int × (Int × Unit)) × (Int × (Int × (Int × (Int × (Int × ((Arr Int 32) × (List UInt8 × (List UInt8 × ((Arr Int 32) × ((Arr Int 16) × (Int × ((Arr Int 16) × (Int × (Int × Unit)))))))))))))))) =>
     some (((v19.2.1, (v19.2.2.1, (v19.2.2.2.1, (v19.2.2.2.2.1, (v19.2.2.2.2.2.1, (v19.2.2.2.2.2.2.1, (v19.2.2.2.2.2.2.2.1, (v19.2.2.2.2.2.2.2.2.1, ((v19.2.2.2.2.2.2.2.2.2.1, (v19.2.2.2.2.2.2.2.2.2.2.1, v19.2.2.2.2.2.2.2.2.2.2.2.1)), (v19.2.2.2.2.2.2.2.2.2.2.2.2.1, (v19.2.2.2.2.2.2.2.2.2.2.2.2.2.1, (v19.2.2.2.2.2.2.2.2.2.2.2.2.2.2.1, ([] : List Int))))))))))))), (v19.1.1, v19.1.2.1))))
     (fun (v19 : ((Int × Unit) × ((Int × (Int × (Int × (Int × (Int × ((Arr Int 32) × (List UInt8 × (List UInt8 × (((Arr Int 32) × ((Arr Int 16) × Int)) × ((Arr Int 16) × (Int × (Int × (List Int))))))))))))) × ((Int × (Int × (Int × (Int × (Int × ((Arr Int 32) × (List UInt8 × (List UInt8 × (((Arr Int 32) × ((Arr Int 16) × Int)) × ((Arr Int 16) × (Int × (Int × (List Int))))))))))))) × ((Arr (List Int) 3) × Unit))))) =>
     Option.bind (@GetElem?.getElem? (List (List Int)) Nat (List Int) (fun (as20 : (List (List Int))) => (fun (i21 : Nat) => (@LT.lt Nat @instLTNat i21 (List.length as20)))) (@List.instGetElem?NatLtLength (List Int)) v19.2.2.2.1.l (Int.toNat (0 : Int))) fun (v20 : (List Int)) =>
     Option.bind (@toBy v20) fun (v21 : (List UInt8)) =>
     Option.bind (@GetElem?.getElem? (List (List Int)) Nat (List Int) (fun (as22 : (List (List Int))) => (fun (i23 : Nat) => (@LT.lt Nat @instLTNat i23 (List.length as22)))) (@List.instGetElem?NatLtLength (List Int)) v19.2.2.2.1.l (Int.toNat (1 : Int))) fun (v22 : (List Int)) =>
     Option.bind (@toBy v22) fun (v23 : (List UInt8)) =>
     Option.bind (@GetElem?.getElem? (List (List Int)) Nat (List Int) (fun (as24 : (List (List Int))) => (fun (i25 : Nat) => (@LT.lt Nat @instLTNat i25 (List.length as24)))) (@List.instGetElem?NatLtLength (List Int)) v19.2.2.2.1.l (Int.toNat (2 : Int))) fun (v24 : (List Int)) =>
     Option.bind (ref40_May N (v19.2.2.1.1, (v19.2.2.1.2.1, (v19.2.2.1.2.2.1, (v19.2.2.1.2.2.2.1, (v19.2.2.1.2.2.2.2.1, (v19.2.2.1.2.2.2.2.2.1, (v21, (v23, ((v19.2.2.1.2.2.2.2.2.2.2.2.1.1, (v19.2.2.1.2.2.2.2.2.2.2.2.1.2.1, v19.2.2.1.2.2.2.2.2.2.2.2.1.2.2)), (v19.2.2.1.2.2.2.2.2.2.2.2.2.1, (v19.2.2.1.2.2.2.2.2.2.2.2.2.2.1, (v19.2.2.1.2.2.2.2.2.2.2.2.2.2.2.1, v24))))))))))))) fun v25 =>
     bif (!(decide (v25 = (0 : Int)))) then
      some ((((0 : Int), ((0 : Int), ((0 : Int), ((0 : Int), ((0 : Int), ((@Arr.cons Int 31 0 (@Arr.cons Int 30 0 (@Arr.cons Int 29 0 (@Arr.cons Int 28 0 (@Arr.cons Int 27 0 (@Arr.cons Int 26 0 (@Arr.cons Int 25 0 (@Arr.cons Int 24 0 (@Arr.cons Int 23 0 (@Arr.cons Int 22 0 (@Arr.cons Int 21 0 (@Arr.cons Int 20 0 (@Arr.cons Int 19 0 (@Arr.cons Int 18 0 (@Arr.cons Int 17 0 (@Arr.cons Int 16 0 (@Arr.cons Int 15 0 (@Arr.cons Int 14 0 (@Arr.cons Int 13 0 (@Arr.cons Int 12 0 (@Arr.cons Int 11 0 (@Arr.cons Int 10 0 (@Arr.cons Int 9 0 (@Arr.cons Int 8 0 (@Arr.cons Int 7 0 (@Arr.cons Int 6 0 (@Arr.cons Int 5 0 (@Arr.cons Int 4 0 (@Arr.cons Int 3 0 (@Arr.cons Int 2 0 (@Arr.cons Int 1 0 (@Arr.cons Int 0 0 (@Arr.nil Int))))))))))))))))))))))))))))))))), ((Array.toList (List.toArray ([] : List UInt8))), ((Array.toList (List.toArray ([] : List UInt8))), (((@Arr.cons Int 31 0 (@Arr.cons Int 30 0 (@Arr.cons Int 29 0 (@Arr.cons Int 28 0 (@Arr.cons Int 27 0 (@Arr.cons Int 26 0 (@Arr.cons Int 25 0 (@Arr.cons Int 24 0 (@Arr.cons Int 23 0 (@Arr.cons Int 22 0 (@Arr.cons Int 21 0 (@Arr.cons Int 20 0 (@Arr.cons Int 19 0 (@Arr.cons Int 18 0 (@Arr.cons Int 17 0 (@Arr.cons Int 16 0 (@Arr.cons Int 15 0 (@Arr.cons Int 14 0 (@Arr.cons Int 13 0 (@Arr.cons Int 12 0 (@Arr.cons Int 11 0 (@Arr.cons Int 10 0 (@Arr.cons Int 9 0 (@Arr.cons Int 8 0 (@Arr.cons Int 7 0 (@Arr.cons Int 6 0 (@Arr.cons Int 5 0 (@Arr.cons Int 4 0 (@Arr.cons Int 3 0 (@Arr.cons Int 2 0 (@Arr.cons Int 1 0 (@Arr.cons Int 0 0 (@Arr.nil Int))))))))))))))))))))))))))))))))), ((@Arr.cons Int 15 0 (@Arr.cons Int 14 0 (@Arr.cons Int 13 0 (@Arr.cons Int 12 0 (@Arr.cons Int 11 0 (@Arr.cons Int 10 0 (@Arr.cons Int 9 0 (@Arr.cons Int 8 0 (@Arr.cons Int 7 0 (@Arr.cons Int 6 0 (@Arr.cons Int 5 0 (@Arr.cons Int 4 0 (@Arr.cons Int 3 0 (@Arr.cons Int 2 0 (@Arr.cons Int 1 0 (@Arr.cons Int 0 0 (@Arr.nil Int))))))))))))))))), (0 : Int))), ((@Arr.cons Int 15 0 (@Arr.cons Int 14 0 (@Arr.cons Int 13 0 (@Arr.cons Int 12 0 (@Arr.cons Int 11 0 (@Arr.cons Int 10 0 (@Arr.cons Int 9 0 (@Arr.cons Int 8 0 (@Arr.cons Int 7 0 (@Arr.cons Int 6 0 (@Arr.cons Int 5 0 (@Arr.cons Int 4 0 (@Arr.cons Int 3 0 (@Arr.cons Int 2 0 (@Arr.cons Int 1 0 (@Arr.cons Int 0 0 (@Arr.nil Int))))))))))))))))), ((0 : Int), ((0 : Int), ([] : List Int))))))))))))), ((0 : Int), v25)))
     else
      some (((v19.2.2.1.1, (v19.2.2.1.2.1, (v19.2.2.1.2.2.1, (v19.2.2.1.2.2.2.1, (v19.2.2.1.2.2.2.2.1, (v19.2.2.1.2.2.2.2.2.1, (v21, (v23, ((v19.2.2.1.2.2.2.2.2.2.2.2.1.1, (v19.2.2.1.2.2.2.2.2.2.2.2.1.2.1, v19.2.2.1.2.2.2.2.2.2.2.2.1.2.2)), (v19.2.2.1.2.2.2.2.2.2.2.2.2.1, (v19.2.2.1.2.2.2.2.2.2.2.2.2.2.1, (v19.2.2.1.2.2.2.2.2.2.2.2.2.2.2.1, v24)))))))))))), (v19.1.1, (0 : Int))))) v18
theorem ref40_first_S (b0 : List (Int)) : (runK Tryd.prog (Ev122 N) 400 38 [(.sl (.int .u8))] [(.pair (.int .i64) (.pair (.int .i64) (.pair (.int .i64) (.pair (.int .i64) (.pair (.int .i64) (.pair (.arr 32 (.int .u8)) (.pair .str (.pair .str (.pair (.pair (.arr 32 (.int .u8)) (.pair (.arr 16 (.int .u8)) (.int .u32))) (.pair (.arr 16 (.int .u8)) (.pair (.int .u32) (.pair (.int .u32) (.sl (.int .u8)))))))))))))), (.int .i64), (.int .i64)] (b0, ())).run = ref40_first N b0 := by kernel_rfl
noncomputable def Ev123 : (R : Type) → Env R := Env.addFn (Ev122 N) 38 (fun R => fnK [(.sl (.int .u8))] [(.pair (.int .i64) (.pair (.int .i64) (.pair (.int .i64) (.pair (.int .i64) (.pair (.int .i64) (.pair (.arr 32 (.int .u8)) (.pair .str (.pair .str (.pair (.pair (.arr 32 (.int .u8)) (.pair (.arr 16 (.int .u8)) (.int .u32))) (.pair (.arr 16 (.int .u8)) (.pair (.int .u32) (.pair (.int .u32) (.sl (.int .u8)))))))))))))), (.int .i64), (.int .i64)] (fun c => ref40_first N c.1))
theorem Ev123_ok (R : Type) : EnvOK Tryd.prog (Ev123 N R) := EnvOK.addFn hmx (Ev122_ok N R) (Ev122_ok N _) (by kernel_rfl) (fun c => ref40_first_S N c.1)
noncomputable def Ev124 : (R : Type) → Env R := Env.addMv (Ev123 N) [(20, 18)]
theorem Ev124_ok (R : Type) : EnvOK Tryd.prog (Ev124 N R) := EnvOK.addMv (Ev123_ok N R) [(20, 18)]
noncomputable def ref40_Parse_L13_I : LI := ⟨69, 0, [(6, 30)], ⟨[(4, .ty (.int .i64)), (5, .ty (.sl (.int .u8))), (6, .lit (.own 0)), (7, .ty (.int .i64))], [.own (.pair (.int .i64) (.pair (.int .i64) (.pair (.int .i64) (.pair (.int .i64) (.pair (.int .i64) (.pair (.arr 32 (.int .u8)) (.pair .str (.pair .str (.pair (.pair (.arr 32 (.int .u8)) (.pair (.arr 16 (.int .u8)) (.int .u32))) (.pair (.arr 16 (.int .u8)) (.pair (.int .u32) (.pair (.int .u32) (.sl (.int .u8)))))))))))))) 30]⟩, [(.ret, ⟨[(2, .ty (.sl (.pair (.int .i64) (.pair (.int .i64) (.pair (.int .i64) (.pair (.int .i64) (.pair (.int .i64) (.pair (.arr 32 (.int .u8)) (.pair .str (.pair .str (.pair (.pair (.arr 32 (.int .u8)) (.pair (.arr 16 (.int .u8)) (.int .u32))) (.pair (.arr 16 (.int .u8)) (.pair (.int .u32) (.pair (.int .u32) (.sl (.int .u8)))))))))))))))), (3, .ty (.int .i64))], []⟩), (.exit 0, ⟨[(5, .ty (.sl (.int .u8))), (6, .lit (.own 0))], [.own (.pair (.int .i64) (.pair (.int .i64) (.pair (.int .i64) (.pair (.int .i64) (.pair (.int .i64) (.pair (.arr 32 (.int .u8)) (.pair .str (.pair .str (.pair (.pair (.arr 32 (.int .u8)) (.pair (.arr 16 (.int .u8)) (.int .u32))) (.pair (.arr 16 (.int .u8)) (.pair (.int .u32) (.pair (.int .u32) (.sl (.int .u8)))))))))))))) 30]⟩)]⟩
noncomputable def ref40_Parse_L13 (X : ((Int × ((List Int) × (Int × Unit))) × ((List (Int × (Int × (Int × (Int × (Int × ((Arr Int 32) × (List UInt8 × (List UInt8 × (((Arr Int 32) × ((Arr Int 16) × Int)) × ((Arr Int 16) × (Int × (Int × (List Int)))))))))))))) × Unit)) → Option (((((List (Int × (Int × (Int × (Int × (Int × ((Arr Int 32) × (List UInt8 × (List UInt8 × (((Arr Int 32) × ((Arr Int 16) × Int)) × ((Arr Int 16) × (Int × (Int × (List Int)))))))))))))) × (Int × Unit)) × Unit) ⊕ (((List Int) × Unit) × ((List (Int × (Int × (Int × (Int × (Int × ((Arr Int 32) × (List UInt8 × (List UInt8 × (((Arr Int 32) × ((Arr Int 16) × Int)) × ((Arr Int 16) × (Int × (Int × (List Int)))))))))))))) × Unit))))) (many4 : Int) (rest5 : List (Int)) (i7 : Int) (h0 : List (Int × (Int × (Int × (Int × (Int × ((Arr Int 32) × (List UInt8 × (List UInt8 × (((Arr Int 32) × ((Arr Int 16) × Int)) × ((Arr Int 16) × (Int × (Int × (List Int)))))))))))))) : Option (((((List (Int × (Int × (Int × (Int × (Int × ((Arr Int 32) × (List UInt8 × (List UInt8 × (((Arr Int 32) × ((Arr Int 16) × Int)) × ((Arr Int 16) × (Int × (Int × (List Int)))))))))))))) × (Int × Unit)) × Unit) ⊕ (((List Int) × Unit) × ((List (Int × (Int × (Int × (Int × (Int × ((Arr Int 32) × (List UInt8 × (List UInt8 × (((Arr Int 32) × ((Arr Int 16) × Int)) × ((Arr Int 16) × (Int × (Int × (List Int)))))))))))))) × Unit)))) :=
 bif (decide (i7 < many4)) then
  Option.bind (ref40_first N rest5) fun v6 =>
  bif (!(decide (v6.2.2 = (0 : Int)))) then
   some ((.inl ((([] : List ((Int × (Int × (Int × (Int × (Int × ((Arr Int 32) × (List UInt8 × (List UInt8 × (((Arr Int 32) × ((Arr Int 16) × Int)) × ((Arr Int 16) × (Int × (Int × (List Int))))))))))))))), (v6.2.2, ())), ())))
  else
   bif (roomB ((List.length h0) + (List.length ([(v6.1.1, (v6.1.2.1, (v6.1.2.2.1, (v6.1.2.2.2.1, (v6.1.2.2.2.2.1, (v6.1.2.2.2.2.2.1, (v6.1.2.2.2.2.2.2.1, (v6.1.2.2.2.2.2.2.2.1, ((v6.1.2.2.2.2.2.2.2.2.1.1, (v6.1.2.2.2.2.2.2.2.2.1.2.1, v6.1.2.2.2.2.2.2.2.2.1.2.2)), (v6.1.2.2.2.2.2.2.2.2.2.1, (v6.1.2.2.2.2.2.2.2.2.2.2.1, (v6.1.2.2.2.2.2.2.2.2.2.2.2.1, v6.1.2.2.2.2.2.2.2.2.2.2.2.2))))))))))))] : List ((Int × (Int × (Int × (Int × (Int × ((Arr Int 32) × (List UInt8 × (List UInt8 × (((Arr Int 32) × ((Arr Int 16) × Int)) × ((Arr Int 16) × (Int × (Int × (List Int))))))))))))))))) 208) then
    Option.bind (dropI rest5 v6.2.1) fun (v7 : (List Int)) =>
    (X ((many4, (v7, ((IntKind.wrap .i64 (i7 + 1)), ()))), ((h0 ++ ([(v6.1.1, (v6.1.2.1, (v6.1.2.2.1, (v6.1.2.2.2.1, (v6.1.2.2.2.2.1, (v6.1.2.2.2.2.2.1, (v6.1.2.2.2.2.2.2.1, (v6.1.2.2.2.2.2.2.2.1, ((v6.1.2.2.2.2.2.2.2.2.1.1, (v6.1.2.2.2.2.2.2.2.2.1.2.1, v6.1.2.2.2.2.2.2.2.2.1.2.2)), (v6.1.2.2.2.2.2.2.2.2.2.1, (v6.1.2.2.2.2.2.2.2.2.2.2.1, (v6.1.2.2.2.2.2.2.2.2.2.2.2.1, v6.1.2.2.2.2.2.2.2.2.2.2.2.2))))))))))))] : List ((Int × (Int × (Int × (Int × (Int × ((Arr Int 32) × (List UInt8 × (List UInt8 × (((Arr Int 32) × ((Arr Int 16) × Int)) × ((Arr Int 16) × (Int × (Int × (List Int)))))))))))))))), ())))
   else
    none
 else
  some ((.inr ((rest5, ()), (h0, ()))))
noncomputable def ref40_Parse_L13_R (c : ((Int × ((List Int) × (Int × Unit))) × ((List (Int × (Int × (Int × (Int × (Int × ((Arr Int 32) × (List UInt8 × (List UInt8 × (((Arr Int 32) × ((Arr Int 16) × Int)) × ((Arr Int 16) × (Int × (Int × (List Int)))))))))))))) × Unit))) : Option (((((List (Int × (Int × (Int × (Int × (Int × ((Arr Int 32) × (List UInt8 × (List UInt8 × (((Arr Int 32) × ((Arr Int 16) × Int)) × ((Arr Int 16) × (Int × (Int × (List Int)))))))))))))) × (Int × Unit)) × Unit) ⊕ (((List Int) × Unit) × ((List (Int × (Int × (Int × (Int × (Int × ((Arr Int 32) × (List UInt8 × (List UInt8 × (((Arr Int 32) × ((Arr Int 16) × Int)) × ((Arr Int 16) × (Int × (Int × (List Int)))))))))))))) × Unit)))) := gl (fun X c => ref40_Parse_L13 N X c.1.1 c.1.2.1 c.1.2.2.1 c.2.1) N c
theorem ref40_Parse_L13_S (X : ((Int × ((List Int) × (Int × Unit))) × ((List (Int × (Int × (Int × (Int × (Int × ((Arr Int 32) × (List UInt8 × (List UInt8 × (((Arr Int 32) × ((Arr Int 16) × Int)) × ((Arr Int 16) × (Int × (Int × (List Int)))))))))))))) × Unit)) → Option (((((List (Int × (Int × (Int × (Int × (Int × ((Arr Int 32) × (List UInt8 × (List UInt8 × (((Arr Int 32) × ((Arr Int 16) × Int)) × ((Arr Int 16) × (Int × (Int × (List Int)))))))))))))) × (Int × Unit)) × Unit) ⊕ (((List Int) × Unit) × ((List (Int × (Int × (Int × (Int × (Int × ((Arr Int 32) × (List UInt8 × (List UInt8 × (((Arr Int 32) × ((Arr Int 16) × Int)) × ((Arr Int 16) × (Int × (Int × (List Int)))))))))))))) × Unit))))) (many4 : Int) (rest5 : List (Int)) (i7 : Int) (h0 : List (Int × (Int × (Int × (Int × (Int × ((Arr Int 32) × (List UInt8 × (List UInt8 × (((Arr Int 32) × ((Arr Int 16) × Int)) × ((Arr Int 16) × (Int × (Int × (List Int)))))))))))))) : (roundK Tryd.prog (Ev124 N) 400 [20] ref40_Parse_L13_I (loopAt Tryd.prog [20] 13) X ((many4, rest5, i7, ()), (h0, ()))).run = ref40_Parse_L13 N X many4 rest5 i7 h0 := by kernel_rfl
noncomputable def Ev125 : (R : Type) → Env R := Env.addLp (Ev124 N) [20] 0 13 (fun R => lpK Tryd.prog ref40_Parse_L13_I (fun X c => ref40_Parse_L13 N X c.1.1 c.1.2.1 c.1.2.2.1 c.2.1) N)
theorem Ev125_ok (R : Type) : EnvOK Tryd.prog (Ev125 N R) := EnvOK.addLp (Ev124_ok N R) (by kernel_rfl) (lpK_ok (li := ref40_Parse_L13_I) (G := fun X c => ref40_Parse_L13 N X c.1.1 c.1.2.1 c.1.2.2.1 c.2.1) hmx (Ev124_ok N _) (by kernel_rfl) loopAt_sub (fun (X : CT ref40_Parse_L13_I.sh → Option (OT ref40_Parse_L13_I.outs)) (c : CT ref40_Parse_L13_I.sh) => ref40_Parse_L13_S N X c.1.1 c.1.2.1 c.1.2.2.1 c.2.1) N)
noncomputable def ref40_Parse (b0 : List (Int)) : Option ((List (Int × (Int × (Int × (Int × (Int × ((Arr Int 32) × (List UInt8 × (List UInt8 × (((Arr Int 32) × ((Arr Int 16) × Int)) × ((Arr Int 16) × (Int × (Int × (List Int)))))))))))))) × Int) :=
 bif (decide ((((List.length b0) : Nat) : Int) < (12 : Int))) then
  some ((([] : List ((Int × (Int × (Int × (Int × (Int × ((Arr Int 32) × (List UInt8 × (List UInt8 × (((Arr Int 32) × ((Arr Int 16) × Int)) × ((Arr Int 16) × (Int × (Int × (List Int))))))))))))))), (4 : Int)))
 else
  Option.bind (getI b0 (0 : Int)) fun (v2 : Int) =>
  Option.bind (bif (!(decide (v2 = (69 : Int)))) then
    some (true)
   else
    Option.bind (getI b0 (1 : Int)) fun (v3 : Int) =>
    some ((cond false true (!(decide (v3 = (85 : Int))))))) fun (v3 : Bool) =>
  bif v3 then
   some ((([] : List ((Int × (Int × (Int × (Int × (Int × ((Arr Int 32) × (List UInt8 × (List UInt8 × (((Arr Int 32) × ((Arr Int 16) × Int)) × ((Arr Int 16) × (Int × (Int × (List Int))))))))))))))), (3 : Int)))
  else
   Option.bind (takeI b0 (IntKind.wrap .i64 ((((List.length b0) : Nat) : Int) - 8))) fun (v4 : (List Int)) =>
   Option.bind (ref40_sealed N v4) fun v5 =>
   Option.bind (ref01_Same N v5 b0) fun v6 =>
   bif (!v6) then
    some ((([] : List ((Int × (Int × (Int × (Int × (Int × ((Arr Int 32) × (List UInt8 × (List UInt8 × (((Arr Int 32) × ((Arr Int 16) × Int)) × ((Arr Int 16) × (Int × (Int × (List Int))))))))))))))), (14 : Int)))
   else
    Option.bind (subI b0 (2 : Int) (4 : Int)) fun (v7 : (List Int)) =>
    Option.bind (ref01_Num N v7) fun v8 =>
    bif (decide ((2000 : Int) < (IntKind.wrap .i64 v8))) then
     some ((([] : List ((Int × (Int × (Int × (Int × (Int × ((Arr Int 32) × (List UInt8 × (List UInt8 × (((Arr Int 32) × ((Arr Int 16) × Int)) × ((Arr Int 16) × (Int × (Int × (List Int))))))))))))))), (5 : Int)))
    else
     Option.bind (subI b0 (4 : Int) (IntKind.wrap .i64 ((((List.length b0) : Nat) : Int) - 8))) fun (v9 : (List Int)) =>
     Option.bind (ref40_Parse_L13_R N (((IntKind.wrap .i64 v8), (v9, ((0 : Int), ()))), (([] : List ((Int × (Int × (Int × (Int × (Int × ((Arr Int 32) × (List UInt8 × (List UInt8 × (((Arr Int 32) × ((Arr Int 16) × Int)) × ((Arr Int 16) × (Int × (Int × (List Int))))))))))))))), ()))) fun v10 =>
     Sum.elim
      (fun (v11 : (((List (Int × (Int × (Int × (Int × (Int × ((Arr Int 32) × (List UInt8 × (List UInt8 × (((Arr Int 32) × ((Arr Int 16) × Int)) × ((Arr Int 16) × (Int × (Int × (List Int)))))))))))))) × (Int × Unit)) × Unit)) =>
      some ((v11.1.1, v11.1.2.1)))
      (fun (v11 : (((List Int) × Unit) × ((List (Int × (Int × (Int × (Int × (Int × ((Arr Int 32) × (List UInt8 × (List UInt8 × (((Arr Int 32) × ((Arr Int 16) × Int)) × ((Arr Int 16) × (Int × (Int × (List Int)))))))))))))) × Unit))) =>
      bif (decide ((0 : Int) < (((List.length v11.1.1) : Nat) : Int))) then
       some ((([] : List ((Int × (Int × (Int × (Int × (Int × ((Arr Int 32) × (List UInt8 × (List UInt8 × (((Arr Int 32) × ((Arr Int 16) × Int)) × ((Arr Int 16) × (Int × (Int × (List Int))))))))))))))), (3 : Int)))
      else
       some ((v11.2.1, (0 : Int)))) v10
theorem ref40_Parse_S (b0 : List (Int)) : (runK Tryd.prog (Ev125 N) 400 20 [(.sl (.int .u8))] [(.sl (.pair (.int .i64) (.pair (.int .i64) (.pair (.int .i64) (.pair (.int .i64) (.pair (.int .i64) (.pair (.arr 32 (.int .u8)) (.pair .str (.pair .str (.pair (.pair (.arr 32 (.int .u8)) (.pair (.arr 16 (.int .u8)) (.int .u32))) (.pair (.arr 16 (.int .u8)) (.pair (.int .u32) (.pair (.int .u32) (.sl (.int .u8))))))))))))))), (.int .i64)] (b0, ())).run = ref40_Parse N b0 := by kernel_rfl
noncomputable def Ev126 : (R : Type) → Env R := Env.addFn (Ev125 N) 20 (fun R => fnK [(.sl (.int .u8))] [(.sl (.pair (.int .i64) (.pair (.int .i64) (.pair (.int .i64) (.pair (.int .i64) (.pair (.int .i64) (.pair (.arr 32 (.int .u8)) (.pair .str (.pair .str (.pair (.pair (.arr 32 (.int .u8)) (.pair (.arr 16 (.int .u8)) (.int .u32))) (.pair (.arr 16 (.int .u8)) (.pair (.int .u32) (.pair (.int .u32) (.sl (.int .u8))))))))))))))), (.int .i64)] (fun c => ref40_Parse N c.1))
theorem Ev126_ok (R : Type) : EnvOK Tryd.prog (Ev126 N R) := EnvOK.addFn hmx (Ev125_ok N R) (Ev125_ok N _) (by kernel_rfl) (fun c => ref40_Parse_S N c.1)
noncomputable def Ev127 : (R : Type) → Env R := Env.addBx (Ev126 N) [(17, 0)]
theorem Ev127_ok (R : Type) : EnvOK Tryd.prog (Ev127 N R) := EnvOK.addBx (Ev126_ok N R) [(17, 0)]
noncomputable def ref40_Same (a0 : Int × (Int × (Int × (Int × (Int × ((Arr Int 32) × (List UInt8 × (List UInt8 × (((Arr Int 32) × ((Arr Int 16) × Int)) × ((Arr Int 16) × (Int × (Int × (List Int))))))))))))) (b1 : Int × (Int × (Int × (Int × (Int × ((Arr Int 32) × (List UInt8 × (List UInt8 × (((Arr Int 32) × ((Arr Int 16) × Int)) × ((Arr Int 16) × (Int × (Int × (List Int))))))))))))) : Option Bool :=
 Option.bind (ref01_Same N a0.2.2.2.2.2.2.2.2.2.2.2.2 b1.2.2.2.2.2.2.2.2.2.2.2.2) fun v3 =>
 Option.bind (bif v3 then
   some ((cond true (decide (a0.1 = b1.1)) false))
  else
   some (false)) fun (v4 : Bool) =>
 Option.bind (bif v4 then
   some ((cond true (decide (a0.2.1 = b1.2.1)) false))
  else
   some (false)) fun (v5 : Bool) =>
 Option.bind (bif v5 then
   some ((cond true (decide (a0.2.2.1 = b1.2.2.1)) false))
  else
   some (false)) fun (v6 : Bool) =>
 Option.bind (bif v6 then
   some ((cond true (decide (a0.2.2.2.1 = b1.2.2.2.1)) false))
  else
   some (false)) fun (v7 : Bool) =>
 Option.bind (bif v7 then
   some ((cond true (decide (a0.2.2.2.2.1 = b1.2.2.2.2.1)) false))
  else
   some (false)) fun (v8 : Bool) =>
 Option.bind (bif v8 then
   bif ((@wfB (@Td.arr (32 : Nat) (@Td.int @IntKind.u8)) a0.2.2.2.2.2.1) && (@wfB (@Td.arr (32 : Nat) (@Td.int @IntKind.u8)) b1.2.2.2.2.2.1)) then
    some ((cond true (@Decidable.decide (@Eq (Arr Int 32) a0.2.2.2.2.2.1 b1.2.2.2.2.2.1) (@decT (@Td.arr (32 : Nat) (@Td.int @IntKind.u8)) a0.2.2.2.2.2.1 b1.2.2.2.2.2.1)) false))
   else
    none
  else
   some (false)) fun (v9 : Bool) =>
 Option.bind (bif v9 then
   some ((cond true (decide (a0.2.2.2.2.2.2.1 = b1.2.2.2.2.2.2.1)) false))
  else
   some (false)) fun (v10 : Bool) =>
 Option.bind (bif v10 then
   some ((cond true (decide (a0.2.2.2.2.2.2.2.1 = b1.2.2.2.2.2.2.2.1)) false))
  else
   some (false)) fun (v11 : Bool) =>
 Option.bind (bif v11 then
   bif ((@wfB (@Td.pair (@Td.arr (32 : Nat) (@Td.int @IntKind.u8)) (@Td.pair (@Td.arr (16 : Nat) (@Td.int @IntKind.u8)) (@Td.int @IntKind.u32))) (a0.2.2.2.2.2.2.2.2.1.1, (a0.2.2.2.2.2.2.2.2.1.2.1, a0.2.2.2.2.2.2.2.2.1.2.2))) && (@wfB (@Td.pair (@Td.arr (32 : Nat) (@Td.int @IntKind.u8)) (@Td.pair (@Td.arr (16 : Nat) (@Td.int @IntKind.u8)) (@Td.int @IntKind.u32))) (b1.2.2.2.2.2.2.2.2.1.1, (b1.2.2.2.2.2.2.2.2.1.2.1, b1.2.2.2.2.2.2.2.2.1.2.2)))) then
    some ((cond true (@Decidable.decide (@Eq ((Arr Int 32) × ((Arr Int 16) × Int)) (a0.2.2.2.2.2.2.2.2.1.1, (a0.2.2.2.2.2.2.2.2.1.2.1, a0.2.2.2.2.2.2.2.2.1.2.2)) (b1.2.2.2.2.2.2.2.2.1.1, (b1.2.2.2.2.2.2.2.2.1.2.1, b1.2.2.2.2.2.2.2.2.1.2.2))) (@decT (@Td.pair (@Td.arr (32 : Nat) (@Td.int @IntKind.u8)) (@Td.pair (@Td.arr (16 : Nat) (@Td.int @IntKind.u8)) (@Td.int @IntKind.u32))) (a0.2.2.2.2.2.2.2.2.1.1, (a0.2.2.2.2.2.2.2.2.1.2.1, a0.2.2.2.2.2.2.2.2.1.2.2)) (b1.2.2.2.2.2.2.2.2.1.1, (b1.2.2.2.2.2.2.2.2.1.2.1, b1.2.2.2.2.2.2.2.2.1.2.2)))) false))
   else
    none
  else
   some (false)) fun (v12 : Bool) =>
 Option.bind (bif v12 then
   bif ((@wfB (@Td.arr (16 : Nat) (@Td.int @IntKind.u8)) a0.2.2.2.2.2.2.2.2.2.1) && (@wfB (@Td.arr (16 : Nat) (@Td.int @IntKind.u8)) b1.2.2.2.2.2.2.2.2.2.1)) then
    some ((cond true (@Decidable.decide (@Eq (Arr Int 16) a0.2.2.2.2.2.2.2.2.2.1 b1.2.2.2.2.2.2.2.2.2.1) (@decT (@Td.arr (16 : Nat) (@Td.int @IntKind.u8)) a0.2.2.2.2.2.2.2.2.2.1 b1.2.2.2.2.2.2.2.2.2.1)) false))
   else
    none
  else
   some (false)) fun (v13 : Bool) =>
 Option.bind (bif v13 then
   some ((cond true (decide (a0.2.2.2.2.2.2.2.2.2.2.1 = b1.2.2.2.2.2.2.2.2.2.2.1)) false))
  else
   some (false)) fun (v14 : Bool) =>
 Option.bind (bif v14 then
   some ((cond true (decide (a0.2.2.2.2.2.2.2.2.2.2.2.1 = b1.2.2.2.2.2.2.2.2.2.2.2.1)) false))
  else
   some (false)) fun (v15 : Bool) =>
 some (v15)
theorem ref40_Same_S (a0 : Int × (Int × (Int × (Int × (Int × ((Arr Int 32) × (List UInt8 × (List UInt8 × (((Arr Int 32) × ((Arr Int 16) × Int)) × ((Arr Int 16) × (Int × (Int × (List Int))))))))))))) (b1 : Int × (Int × (Int × (Int × (Int × ((Arr Int 32) × (List UInt8 × (List UInt8 × (((Arr Int 32) × ((Arr Int 16) × Int)) × ((Arr Int 16) × (Int × (Int × (List Int))))))))))))) : (runK Tryd.prog (Ev127 N) 400 17 [(.pair (.int .i64) (.pair (.int .i64) (.pair (.int .i64) (.pair (.int .i64) (.pair (.int .i64) (.pair (.arr 32 (.int .u8)) (.pair .str (.pair .str (.pair (.pair (.arr 32 (.int .u8)) (.pair (.arr 16 (.int .u8)) (.int .u32))) (.pair (.arr 16 (.int .u8)) (.pair (.int .u32) (.pair (.int .u32) (.sl (.int .u8)))))))))))))), (.pair (.int .i64) (.pair (.int .i64) (.pair (.int .i64) (.pair (.int .i64) (.pair (.int .i64) (.pair (.arr 32 (.int .u8)) (.pair .str (.pair .str (.pair (.pair (.arr 32 (.int .u8)) (.pair (.arr 16 (.int .u8)) (.int .u32))) (.pair (.arr 16 (.int .u8)) (.pair (.int .u32) (.pair (.int .u32) (.sl (.int .u8))))))))))))))] [.bool] (a0, b1, ())).run = ref40_Same N a0 b1 := by kernel_rfl
noncomputable def Ev128 : (R : Type) → Env R := Env.addFn (Ev127 N) 17 (fun R => fnK [(.pair (.int .i64) (.pair (.int .i64) (.pair (.int .i64) (.pair (.int .i64) (.pair (.int .i64) (.pair (.arr 32 (.int .u8)) (.pair .str (.pair .str (.pair (.pair (.arr 32 (.int .u8)) (.pair (.arr 16 (.int .u8)) (.int .u32))) (.pair (.arr 16 (.int .u8)) (.pair (.int .u32) (.pair (.int .u32) (.sl (.int .u8)))))))))))))), (.pair (.int .i64) (.pair (.int .i64) (.pair (.int .i64) (.pair (.int .i64) (.pair (.int .i64) (.pair (.arr 32 (.int .u8)) (.pair .str (.pair .str (.pair (.pair (.arr 32 (.int .u8)) (.pair (.arr 16 (.int .u8)) (.int .u32))) (.pair (.arr 16 (.int .u8)) (.pair (.int .u32) (.pair (.int .u32) (.sl (.int .u8))))))))))))))] [.bool] (fun c => ref40_Same N c.1 c.2.1))
theorem Ev128_ok (R : Type) : EnvOK Tryd.prog (Ev128 N R) := EnvOK.addFn hmx (Ev127_ok N R) (Ev127_ok N _) (by kernel_rfl) (fun c => ref40_Same_S N c.1 c.2.1)
noncomputable def Ev129 : (R : Type) → Env R := Env.addBx (Ev128 N) [(14, 0)]
theorem Ev129_ok (R : Type) : EnvOK Tryd.prog (Ev129 N R) := EnvOK.addBx (Ev128_ok N R) [(14, 0)]
noncomputable def law40_theirs (N : Nat) (x0 : Int × (Int × (Int × (Int × (Int × ((Arr Int 32) × (List UInt8 × (List UInt8 × (((Arr Int 32) × ((Arr Int 16) × Int)) × ((Arr Int 16) × (Int × (Int × (List Int))))))))))))) : Option (Int × (Int × (Int × (Int × (Int × ((Arr Int 32) × (List UInt8 × (List UInt8 × (((Arr Int 32) × ((Arr Int 16) × Int)) × ((Arr Int 16) × (Int × (Int × (List Int))))))))))))) :=
 some ((x0.1, (x0.2.1, (x0.2.2.1, (x0.2.2.2.1, (x0.2.2.2.2.1, (x0.2.2.2.2.2.1, (x0.2.2.2.2.2.2.1, (x0.2.2.2.2.2.2.2.1, ((x0.2.2.2.2.2.2.2.2.1.1, (x0.2.2.2.2.2.2.2.2.1.2.1, x0.2.2.2.2.2.2.2.2.1.2.2)), (x0.2.2.2.2.2.2.2.2.2.1, (x0.2.2.2.2.2.2.2.2.2.2.1, (x0.2.2.2.2.2.2.2.2.2.2.2.1, x0.2.2.2.2.2.2.2.2.2.2.2.2)))))))))))))
theorem law40_theirs_S (x0 : Int × (Int × (Int × (Int × (Int × ((Arr Int 32) × (List UInt8 × (List UInt8 × (((Arr Int 32) × ((Arr Int 16) × Int)) × ((Arr Int 16) × (Int × (Int × (List Int))))))))))))) : (runK Tryd.prog (Ev129 N) 400 14 [(.pair (.int .i64) (.pair (.int .i64) (.pair (.int .i64) (.pair (.int .i64) (.pair (.int .i64) (.pair (.arr 32 (.int .u8)) (.pair .str (.pair .str (.pair (.pair (.arr 32 (.int .u8)) (.pair (.arr 16 (.int .u8)) (.int .u32))) (.pair (.arr 16 (.int .u8)) (.pair (.int .u32) (.pair (.int .u32) (.sl (.int .u8))))))))))))))] [(.pair (.int .i64) (.pair (.int .i64) (.pair (.int .i64) (.pair (.int .i64) (.pair (.int .i64) (.pair (.arr 32 (.int .u8)) (.pair .str (.pair .str (.pair (.pair (.arr 32 (.int .u8)) (.pair (.arr 16 (.int .u8)) (.int .u32))) (.pair (.arr 16 (.int .u8)) (.pair (.int .u32) (.pair (.int .u32) (.sl (.int .u8))))))))))))))] (x0, ())).run = law40_theirs N x0 := by kernel_rfl
noncomputable def Ev130 : (R : Type) → Env R := Env.addFn (Ev129 N) 14 (fun R => fnK [(.pair (.int .i64) (.pair (.int .i64) (.pair (.int .i64) (.pair (.int .i64) (.pair (.int .i64) (.pair (.arr 32 (.int .u8)) (.pair .str (.pair .str (.pair (.pair (.arr 32 (.int .u8)) (.pair (.arr 16 (.int .u8)) (.int .u32))) (.pair (.arr 16 (.int .u8)) (.pair (.int .u32) (.pair (.int .u32) (.sl (.int .u8))))))))))))))] [(.pair (.int .i64) (.pair (.int .i64) (.pair (.int .i64) (.pair (.int .i64) (.pair (.int .i64) (.pair (.arr 32 (.int .u8)) (.pair .str (.pair .str (.pair (.pair (.arr 32 (.int .u8)) (.pair (.arr 16 (.int .u8)) (.int .u32))) (.pair (.arr 16 (.int .u8)) (.pair (.int .u32) (.pair (.int .u32) (.sl (.int .u8))))))))))))))] (fun c => law40_theirs N c.1))
theorem Ev130_ok (R : Type) : EnvOK Tryd.prog (Ev130 N R) := EnvOK.addFn hmx (Ev129_ok N R) (Ev129_ok N _) (by kernel_rfl) (fun c => law40_theirs_S N c.1)
noncomputable def Ev131 : (R : Type) → Env R := Env.addMv (Ev130 N) [(10, 5)]
theorem Ev131_ok (R : Type) : EnvOK Tryd.prog (Ev131 N R) := EnvOK.addMv (Ev130_ok N R) [(10, 5)]
noncomputable def law40_all_L3_I : LI := ⟨19, 0, [(3, 45)], ⟨[(3, .lit (.own 0)), (6, .ty (.sl (.pair (.int .i64) (.pair (.int .i64) (.pair (.int .i64) (.pair (.int .i64) (.pair (.int .i64) (.pair (.arr 32 (.int .u8)) (.pair .str (.pair .str (.pair (.pair (.arr 32 (.int .u8)) (.pair (.arr 16 (.int .u8)) (.int .u32))) (.pair (.arr 16 (.int .u8)) (.pair (.int .u32) (.pair (.int .u32) (.sl (.int .u8)))))))))))))))), (7, .ty (.int .i64)), (8, .ty (.int .i64))], [.own (.pair (.int .i64) (.pair (.int .i64) (.pair (.int .i64) (.pair (.int .i64) (.pair (.int .i64) (.pair (.arr 32 (.int .u8)) (.pair .str (.pair .str (.pair (.pair (.arr 32 (.int .u8)) (.pair (.arr 16 (.int .u8)) (.int .u32))) (.pair (.arr 16 (.int .u8)) (.pair (.int .u32) (.pair (.int .u32) (.sl (.int .u8)))))))))))))) 45]⟩, [(.exit 0, ⟨[(3, .lit (.own 0))], [.own (.pair (.int .i64) (.pair (.int .i64) (.pair (.int .i64) (.pair (.int .i64) (.pair (.int .i64) (.pair (.arr 32 (.int .u8)) (.pair .str (.pair .str (.pair (.pair (.arr 32 (.int .u8)) (.pair (.arr 16 (.int .u8)) (.int .u32))) (.pair (.arr 16 (.int .u8)) (.pair (.int .u32) (.pair (.int .u32) (.sl (.int .u8)))))))))))))) 45]⟩)]⟩
noncomputable def law40_all_L3 (N : Nat) (X : (((List (Int × (Int × (Int × (Int × (Int × ((Arr Int 32) × (List UInt8 × (List UInt8 × (((Arr Int 32) × ((Arr Int 16) × Int)) × ((Arr Int 16) × (Int × (Int × (List Int)))))))))))))) × (Int × (Int × Unit))) × ((List (Int × (Int × (Int × (Int × (Int × ((Arr Int 32) × (List UInt8 × (List UInt8 × (((Arr Int 32) × ((Arr Int 16) × Int)) × ((Arr Int 16) × (Int × (Int × (List Int)))))))))))))) × Unit)) → Option ((Unit × ((List (Int × (Int × (Int × (Int × (Int × ((Arr Int 32) × (List UInt8 × (List UInt8 × (((Arr Int 32) × ((Arr Int 16) × Int)) × ((Arr Int 16) × (Int × (Int × (List Int)))))))))))))) × Unit)))) (x6 : List (Int × (Int × (Int × (Int × (Int × ((Arr Int 32) × (List UInt8 × (List UInt8 × (((Arr Int 32) × ((Arr Int 16) × Int)) × ((Arr Int 16) × (Int × (Int × (List Int)))))))))))))) (x7 : Int) (x8 : Int) (h0 : List (Int × (Int × (Int × (Int × (Int × ((Arr Int 32) × (List UInt8 × (List UInt8 × (((Arr Int 32) × ((Arr Int 16) × Int)) × ((Arr Int 16) × (Int × (Int × (List Int)))))))))))))) : Option ((Unit × ((List (Int × (Int × (Int × (Int × (Int × ((Arr Int 32) × (List UInt8 × (List UInt8 × (((Arr Int 32) × ((Arr Int 16) × Int)) × ((Arr Int 16) × (Int × (Int × (List Int)))))))))))))) × Unit))) :=
 bif (decide (x8 < x7)) then
  Option.bind (getI x6 x8) fun (v6 : (Int × (Int × (Int × (Int × (Int × ((Arr Int 32) × (List UInt8 × (List UInt8 × (((Arr Int 32) × ((Arr Int 16) × Int)) × ((Arr Int 16) × (Int × (Int × (List Int)))))))))))))) =>
  bif (roomB ((List.length h0) + (List.length ([(v6.1, (v6.2.1, (v6.2.2.1, (v6.2.2.2.1, (v6.2.2.2.2.1, (v6.2.2.2.2.2.1, (v6.2.2.2.2.2.2.1, (v6.2.2.2.2.2.2.2.1, ((v6.2.2.2.2.2.2.2.2.1.1, (v6.2.2.2.2.2.2.2.2.1.2.1, v6.2.2.2.2.2.2.2.2.1.2.2)), (v6.2.2.2.2.2.2.2.2.2.1, (v6.2.2.2.2.2.2.2.2.2.2.1, (v6.2.2.2.2.2.2.2.2.2.2.2.1, v6.2.2.2.2.2.2.2.2.2.2.2.2))))))))))))] : List ((Int × (Int × (Int × (Int × (Int × ((Arr Int 32) × (List UInt8 × (List UInt8 × (((Arr Int 32) × ((Arr Int 16) × Int)) × ((Arr Int 16) × (Int × (Int × (List Int))))))))))))))))) 208) then
   (X ((x6, (x7, ((IntKind.wrap .i64 (x8 + 1)), ()))), ((h0 ++ ([(v6.1, (v6.2.1, (v6.2.2.1, (v6.2.2.2.1, (v6.2.2.2.2.1, (v6.2.2.2.2.2.1, (v6.2.2.2.2.2.2.1, (v6.2.2.2.2.2.2.2.1, ((v6.2.2.2.2.2.2.2.2.1.1, (v6.2.2.2.2.2.2.2.2.1.2.1, v6.2.2.2.2.2.2.2.2.1.2.2)), (v6.2.2.2.2.2.2.2.2.2.1, (v6.2.2.2.2.2.2.2.2.2.2.1, (v6.2.2.2.2.2.2.2.2.2.2.2.1, v6.2.2.2.2.2.2.2.2.2.2.2.2))))))))))))] : List ((Int × (Int × (Int × (Int × (Int × ((Arr Int 32) × (List UInt8 × (List UInt8 × (((Arr Int 32) × ((Arr Int 16) × Int)) × ((Arr Int 16) × (Int × (Int × (List Int)))))))))))))))), ())))
  else
   none
 else
  some (((), (h0, ())))
noncomputable def law40_all_L3_R (c : (((List (Int × (Int × (Int × (Int × (Int × ((Arr Int 32) × (List UInt8 × (List UInt8 × (((Arr Int 32) × ((Arr Int 16) × Int)) × ((Arr Int 16) × (Int × (Int × (List Int)))))))))))))) × (Int × (Int × Unit))) × ((List (Int × (Int × (Int × (Int × (Int × ((Arr Int 32) × (List UInt8 × (List UInt8 × (((Arr Int 32) × ((Arr Int 16) × Int)) × ((Arr Int 16) × (Int × (Int × (List Int)))))))))))))) × Unit))) : Option ((Unit × ((List (Int × (Int × (Int × (Int × (Int × ((Arr Int 32) × (List UInt8 × (List UInt8 × (((Arr Int 32) × ((Arr Int 16) × Int)) × ((Arr Int 16) × (Int × (Int × (List Int)))))))))))))) × Unit))) := gl (fun X c => law40_all_L3 N X c.1.1 c.1.2.1 c.1.2.2.1 c.2.1) N c
theorem law40_all_L3_S (X : (((List (Int × (Int × (Int × (Int × (Int × ((Arr Int 32) × (List UInt8 × (List UInt8 × (((Arr Int 32) × ((Arr Int 16) × Int)) × ((Arr Int 16) × (Int × (Int × (List Int)))))))))))))) × (Int × (Int × Unit))) × ((List (Int × (Int × (Int × (Int × (Int × ((Arr Int 32) × (List UInt8 × (List UInt8 × (((Arr Int 32) × ((Arr Int 16) × Int)) × ((Arr Int 16) × (Int × (Int × (List Int)))))))))))))) × Unit)) → Option ((Unit × ((List (Int × (Int × (Int × (Int × (Int × ((Arr Int 32) × (List UInt8 × (List UInt8 × (((Arr Int 32) × ((Arr Int 16) × Int)) × ((Arr Int 16) × (Int × (Int × (List Int)))))))))))))) × Unit)))) (x6 : List (Int × (Int × (Int × (Int × (Int × ((Arr Int 32) × (List UInt8 × (List UInt8 × (((Arr Int 32) × ((Arr Int 16) × Int)) × ((Arr Int 16) × (Int × (Int × (List Int)))))))))))))) (x7 : Int) (x8 : Int) (h0 : List (Int × (Int × (Int × (Int × (Int × ((Arr Int 32) × (List UInt8 × (List UInt8 × (((Arr Int 32) × ((Arr Int 16) × Int)) × ((Arr Int 16) × (Int × (Int × (List Int)))))))))))))) : (roundK Tryd.prog (Ev131 N) 400 [10] law40_all_L3_I (loopAt Tryd.prog [10] 3) X ((x6, x7, x8, ()), (h0, ()))).run = law40_all_L3 N X x6 x7 x8 h0 := by kernel_rfl
noncomputable def Ev132 : (R : Type) → Env R := Env.addLp (Ev131 N) [10] 0 3 (fun R => lpK Tryd.prog law40_all_L3_I (fun X c => law40_all_L3 N X c.1.1 c.1.2.1 c.1.2.2.1 c.2.1) N)
theorem Ev132_ok (R : Type) : EnvOK Tryd.prog (Ev132 N R) := EnvOK.addLp (Ev131_ok N R) (by kernel_rfl) (lpK_ok (li := law40_all_L3_I) (G := fun X c => law40_all_L3 N X c.1.1 c.1.2.1 c.1.2.2.1 c.2.1) hmx (Ev131_ok N _) (by kernel_rfl) loopAt_sub (fun (X : CT law40_all_L3_I.sh → Option (OT law40_all_L3_I.outs)) (c : CT law40_all_L3_I.sh) => law40_all_L3_S N X c.1.1 c.1.2.1 c.1.2.2.1 c.2.1) N)
noncomputable def law40_all (l0 : List (Int × (Int × (Int × (Int × (Int × ((Arr Int 32) × (List UInt8 × (List UInt8 × (((Arr Int 32) × ((Arr Int 16) × Int)) × ((Arr Int 16) × (Int × (Int × (List Int)))))))))))))) : Option (List (Int × (Int × (Int × (Int × (Int × ((Arr Int 32) × (List UInt8 × (List UInt8 × (((Arr Int 32) × ((Arr Int 16) × Int)) × ((Arr Int 16) × (Int × (Int × (List Int)))))))))))))) :=
 Option.bind (law40_all_L3_R N ((l0, ((((List.length l0) : Nat) : Int), ((0 : Int), ()))), (([] : List ((Int × (Int × (Int × (Int × (Int × ((Arr Int 32) × (List UInt8 × (List UInt8 × (((Arr Int 32) × ((Arr Int 16) × Int)) × ((Arr Int 16) × (Int × (Int × (List Int))))))))))))))), ()))) fun v2 =>
 some (v2.2.1)
theorem law40_all_S (l0 : List (Int × (Int × (Int × (Int × (Int × ((Arr Int 32) × (List UInt8 × (List UInt8 × (((Arr Int 32) × ((Arr Int 16) × Int)) × ((Arr Int 16) × (Int × (Int × (List Int)))))))))))))) : (runK Tryd.prog (Ev132 N) 400 10 [(.sl (.pair (.int .i64) (.pair (.int .i64) (.pair (.int .i64) (.pair (.int .i64) (.pair (.int .i64) (.pair (.arr 32 (.int .u8)) (.pair .str (.pair .str (.pair (.pair (.arr 32 (.int .u8)) (.pair (.arr 16 (.int .u8)) (.int .u32))) (.pair (.arr 16 (.int .u8)) (.pair (.int .u32) (.pair (.int .u32) (.sl (.int .u8)))))))))))))))] [(.sl (.pair (.int .i64) (.pair (.int .i64) (.pair (.int .i64) (.pair (.int .i64) (.pair (.int .i64) (.pair (.arr 32 (.int .u8)) (.pair .str (.pair .str (.pair (.pair (.arr 32 (.int .u8)) (.pair (.arr 16 (.int .u8)) (.int .u32))) (.pair (.arr 16 (.int .u8)) (.pair (.int .u32) (.pair (.int .u32) (.sl (.int .u8)))))))))))))))] (l0, ())).run = law40_all N l0 := by kernel_rfl
noncomputable def Ev133 : (R : Type) → Env R := Env.addFn (Ev132 N) 10 (fun R => fnK [(.sl (.pair (.int .i64) (.pair (.int .i64) (.pair (.int .i64) (.pair (.int .i64) (.pair (.int .i64) (.pair (.arr 32 (.int .u8)) (.pair .str (.pair .str (.pair (.pair (.arr 32 (.int .u8)) (.pair (.arr 16 (.int .u8)) (.int .u32))) (.pair (.arr 16 (.int .u8)) (.pair (.int .u32) (.pair (.int .u32) (.sl (.int .u8)))))))))))))))] [(.sl (.pair (.int .i64) (.pair (.int .i64) (.pair (.int .i64) (.pair (.int .i64) (.pair (.int .i64) (.pair (.arr 32 (.int .u8)) (.pair .str (.pair .str (.pair (.pair (.arr 32 (.int .u8)) (.pair (.arr 16 (.int .u8)) (.int .u32))) (.pair (.arr 16 (.int .u8)) (.pair (.int .u32) (.pair (.int .u32) (.sl (.int .u8)))))))))))))))] (fun c => law40_all N c.1))
theorem Ev133_ok (R : Type) : EnvOK Tryd.prog (Ev133 N R) := EnvOK.addFn hmx (Ev132_ok N R) (Ev132_ok N _) (by kernel_rfl) (fun c => law40_all_S N c.1)
noncomputable def law40_same_L4_I : LI := ⟨28, 0, [], ⟨[(0, .ty (.sl (.pair (.int .i64) (.pair (.int .i64) (.pair (.int .i64) (.pair (.int .i64) (.pair (.int .i64) (.pair (.arr 32 (.int .u8)) (.pair .str (.pair .str (.pair (.pair (.arr 32 (.int .u8)) (.pair (.arr 16 (.int .u8)) (.int .u32))) (.pair (.arr 16 (.int .u8)) (.pair (.int .u32) (.pair (.int .u32) (.sl (.int .u8)))))))))))))))), (1, .ty (.sl (.pair (.int .i64) (.pair (.int .i64) (.pair (.int .i64) (.pair (.int .i64) (.pair (.int .i64) (.pair (.arr 32 (.int .u8)) (.pair .str (.pair .str (.pair (.pair (.arr 32 (.int .u8)) (.pair (.arr 16 (.int .u8)) (.int .u32))) (.pair (.arr 16 (.int .u8)) (.pair (.int .u32) (.pair (.int .u32) (.sl (.int .u8)))))))))))))))), (12, .ty (.int .i64)), (13, .ty (.int .i64))], []⟩, [(.ret, ⟨[(4, .ty .bool)], []⟩), (.exit 0, ⟨[], []⟩)]⟩
noncomputable def law40_same_L4 (X : (((List (Int × (Int × (Int × (Int × (Int × ((Arr Int 32) × (List UInt8 × (List UInt8 × (((Arr Int 32) × ((Arr Int 16) × Int)) × ((Arr Int 16) × (Int × (Int × (List Int)))))))))))))) × ((List (Int × (Int × (Int × (Int × (Int × ((Arr Int 32) × (List UInt8 × (List UInt8 × (((Arr Int 32) × ((Arr Int 16) × Int)) × ((Arr Int 16) × (Int × (Int × (List Int)))))))))))))) × (Int × (Int × Unit)))) × Unit) → Option ((((Bool × Unit) × Unit) ⊕ (Unit × Unit)))) (a0 : List (Int × (Int × (Int × (Int × (Int × ((Arr Int 32) × (List UInt8 × (List UInt8 × (((Arr Int 32) × ((Arr Int 16) × Int)) × ((Arr Int 16) × (Int × (Int × (List Int)))))))))))))) (b1 : List (Int × (Int × (Int × (Int × (Int × ((Arr Int 32) × (List UInt8 × (List UInt8 × (((Arr Int 32) × ((Arr Int 16) × Int)) × ((Arr Int 16) × (Int × (Int × (List Int)))))))))))))) (x12 : Int) (x13 : Int) : Option ((((Bool × Unit) × Unit) ⊕ (Unit × Unit))) :=
 bif (decide (x13 < x12)) then
  Option.bind (getI a0 x13) fun (v6 : (Int × (Int × (Int × (Int × (Int × ((Arr Int 32) × (List UInt8 × (List UInt8 × (((Arr Int 32) × ((Arr Int 16) × Int)) × ((Arr Int 16) × (Int × (Int × (List Int)))))))))))))) =>
  Option.bind (getI b1 x13) fun (v7 : (Int × (Int × (Int × (Int × (Int × ((Arr Int 32) × (List UInt8 × (List UInt8 × (((Arr Int 32) × ((Arr Int 16) × Int)) × ((Arr Int 16) × (Int × (Int × (List Int)))))))))))))) =>
  Option.bind (script_Same N (v6.1, (v6.2.1, (v6.2.2.1, (v6.2.2.2.1, (v6.2.2.2.2.1, (v6.2.2.2.2.2.1, (v6.2.2.2.2.2.2.1, (v6.2.2.2.2.2.2.2.1, ((v6.2.2.2.2.2.2.2.2.1.1, (v6.2.2.2.2.2.2.2.2.1.2.1, v6.2.2.2.2.2.2.2.2.1.2.2)), (v6.2.2.2.2.2.2.2.2.2.1, (v6.2.2.2.2.2.2.2.2.2.2.1, (v6.2.2.2.2.2.2.2.2.2.2.2.1, v6.2.2.2.2.2.2.2.2.2.2.2.2)))))))))))) (v7.1, (v7.2.1, (v7.2.2.1, (v7.2.2.2.1, (v7.2.2.2.2.1, (v7.2.2.2.2.2.1, (v7.2.2.2.2.2.2.1, (v7.2.2.2.2.2.2.2.1, ((v7.2.2.2.2.2.2.2.2.1.1, (v7.2.2.2.2.2.2.2.2.1.2.1, v7.2.2.2.2.2.2.2.2.1.2.2)), (v7.2.2.2.2.2.2.2.2.2.1, (v7.2.2.2.2.2.2.2.2.2.2.1, (v7.2.2.2.2.2.2.2.2.2.2.2.1, v7.2.2.2.2.2.2.2.2.2.2.2.2))))))))))))) fun v8 =>
  bif (!v8) then
   some ((.inl ((false, ()), ())))
  else
   (X ((a0, (b1, (x12, ((IntKind.wrap .i64 (x13 + 1)), ())))), ()))
 else
  some ((.inr ((), ())))
noncomputable def law40_same_L4_R (c : (((List (Int × (Int × (Int × (Int × (Int × ((Arr Int 32) × (List UInt8 × (List UInt8 × (((Arr Int 32) × ((Arr Int 16) × Int)) × ((Arr Int 16) × (Int × (Int × (List Int)))))))))))))) × ((List (Int × (Int × (Int × (Int × (Int × ((Arr Int 32) × (List UInt8 × (List UInt8 × (((Arr Int 32) × ((Arr Int 16) × Int)) × ((Arr Int 16) × (Int × (Int × (List Int)))))))))))))) × (Int × (Int × Unit)))) × Unit)) : Option ((((Bool × Unit) × Unit) ⊕ (Unit × Unit))) := gl (fun X c => law40_same_L4 N X c.1.1 c.1.2.1 c.1.2.2.1 c.1.2.2.2.1) N c
theorem law40_same_L4_S (X : (((List (Int × (Int × (Int × (Int × (Int × ((Arr Int 32) × (List UInt8 × (List UInt8 × (((Arr Int 32) × ((Arr Int 16) × Int)) × ((Arr Int 16) × (Int × (Int × (List Int)))))))))))))) × ((List (Int × (Int × (Int × (Int × (Int × ((Arr Int 32) × (List UInt8 × (List UInt8 × (((Arr Int 32) × ((Arr Int 16) × Int)) × ((Arr Int 16) × (Int × (Int × (List Int)))))))))))))) × (Int × (Int × Unit)))) × Unit) → Option ((((Bool × Unit) × Unit) ⊕ (Unit × Unit)))) (a0 : List (Int × (Int × (Int × (Int × (Int × ((Arr Int 32) × (List UInt8 × (List UInt8 × (((Arr Int 32) × ((Arr Int 16) × Int)) × ((Arr Int 16) × (Int × (Int × (List Int)))))))))))))) (b1 : List (Int × (Int × (Int × (Int × (Int × ((Arr Int 32) × (List UInt8 × (List UInt8 × (((Arr Int 32) × ((Arr Int 16) × Int)) × ((Arr Int 16) × (Int × (Int × (List Int)))))))))))))) (x12 : Int) (x13 : Int) : (roundK Tryd.prog (Ev133 N) 400 [21] law40_same_L4_I (loopAt Tryd.prog [21] 4) X ((a0, b1, x12, x13, ()), ())).run = law40_same_L4 N X a0 b1 x12 x13 := by kernel_rfl
noncomputable def Ev134 : (R : Type) → Env R := Env.addLp (Ev133 N) [21] 0 4 (fun R => lpK Tryd.prog law40_same_L4_I (fun X c => law40_same_L4 N X c.1.1 c.1.2.1 c.1.2.2.1 c.1.2.2.2.1) N)
theorem Ev134_ok (R : Type) : EnvOK Tryd.prog (Ev134 N R) := EnvOK.addLp (Ev133_ok N R) (by kernel_rfl) (lpK_ok (li := law40_same_L4_I) (G := fun X c => law40_same_L4 N X c.1.1 c.1.2.1 c.1.2.2.1 c.1.2.2.2.1) hmx (Ev133_ok N _) (by kernel_rfl) loopAt_sub (fun (X : CT law40_same_L4_I.sh → Option (OT law40_same_L4_I.outs)) (c : CT law40_same_L4_I.sh) => law40_same_L4_S N X c.1.1 c.1.2.1 c.1.2.2.1 c.1.2.2.2.1) N)
noncomputable def law40_same (a0 : List (Int × (Int × (Int × (Int × (Int × ((Arr Int 32) × (List UInt8 × (List UInt8 × (((Arr Int 32) × ((Arr Int 16) × Int)) × ((Arr Int 16) × (Int × (Int × (List Int)))))))))))))) (b1 : List (Int × (Int × (Int × (Int × (Int × ((Arr Int 32) × (List UInt8 × (List UInt8 × (((Arr Int 32) × ((Arr Int 16) × Int)) × ((Arr Int 16) × (Int × (Int × (List Int)))))))))))))) : Option Bool :=
 bif (!(decide ((((List.length a0) : Nat) : Int) = (((List.length b1) : Nat) : Int)))) then
  some (false)
 else
  Option.bind (law40_same_L4_R N ((a0, (b1, ((((List.length a0) : Nat) : Int), ((0 : Int), ())))), ())) fun v3 =>
  Sum.elim
   (fun (v4 : ((Bool × Unit) × Unit)) =>
   some (v4.1.1))
   (fun (v4 : (Unit × Unit)) =>
   some (true)) v3
theorem law40_same_S (a0 : List (Int × (Int × (Int × (Int × (Int × ((Arr Int 32) × (List UInt8 × (List UInt8 × (((Arr Int 32) × ((Arr Int 16) × Int)) × ((Arr Int 16) × (Int × (Int × (List Int)))))))))))))) (b1 : List (Int × (Int × (Int × (Int × (Int × ((Arr Int 32) × (List UInt8 × (List UInt8 × (((Arr Int 32) × ((Arr Int 16) × Int)) × ((Arr Int 16) × (Int × (Int × (List Int)))))))))))))) : (runK Tryd.prog (Ev134 N) 400 21 [(.sl (.pair (.int .i64) (.pair (.int .i64) (.pair (.int .i64) (.pair (.int .i64) (.pair (.int .i64) (.pair (.arr 32 (.int .u8)) (.pair .str (.pair .str (.pair (.pair (.arr 32 (.int .u8)) (.pair (.arr 16 (.int .u8)) (.int .u32))) (.pair (.arr 16 (.int .u8)) (.pair (.int .u32) (.pair (.int .u32) (.sl (.int .u8))))))))))))))), (.sl (.pair (.int .i64) (.pair (.int .i64) (.pair (.int .i64) (.pair (.int .i64) (.pair (.int .i64) (.pair (.arr 32 (.int .u8)) (.pair .str (.pair .str (.pair (.pair (.arr 32 (.int .u8)) (.pair (.arr 16 (.int .u8)) (.int .u32))) (.pair (.arr 16 (.int .u8)) (.pair (.int .u32) (.pair (.int .u32) (.sl (.int .u8)))))))))))))))] [.bool] (a0, b1, ())).run = law40_same N a0 b1 := by kernel_rfl
noncomputable def Ev135 : (R : Type) → Env R := Env.addFn (Ev134 N) 21 (fun R => fnK [(.sl (.pair (.int .i64) (.pair (.int .i64) (.pair (.int .i64) (.pair (.int .i64) (.pair (.int .i64) (.pair (.arr 32 (.int .u8)) (.pair .str (.pair .str (.pair (.pair (.arr 32 (.int .u8)) (.pair (.arr 16 (.int .u8)) (.int .u32))) (.pair (.arr 16 (.int .u8)) (.pair (.int .u32) (.pair (.int .u32) (.sl (.int .u8))))))))))))))), (.sl (.pair (.int .i64) (.pair (.int .i64) (.pair (.int .i64) (.pair (.int .i64) (.pair (.int .i64) (.pair (.arr 32 (.int .u8)) (.pair .str (.pair .str (.pair (.pair (.arr 32 (.int .u8)) (.pair (.arr 16 (.int .u8)) (.int .u32))) (.pair (.arr 16 (.int .u8)) (.pair (.int .u32) (.pair (.int .u32) (.sl (.int .u8)))))))))))))))] [.bool] (fun c => law40_same N c.1 c.2.1))
theorem Ev135_ok (R : Type) : EnvOK Tryd.prog (Ev135 N R) := EnvOK.addFn hmx (Ev134_ok N R) (Ev134_ok N _) (by kernel_rfl) (fun c => law40_same_S N c.1 c.2.1)
noncomputable def law40_far_L2_I : LI := ⟨45, 0, [], ⟨[(0, .ty (.sl (.pair (.int .i64) (.pair (.int .i64) (.pair (.int .i64) (.pair (.int .i64) (.pair (.int .i64) (.pair (.arr 32 (.int .u8)) (.pair .str (.pair .str (.pair (.pair (.arr 32 (.int .u8)) (.pair (.arr 16 (.int .u8)) (.int .u32))) (.pair (.arr 16 (.int .u8)) (.pair (.int .u32) (.pair (.int .u32) (.sl (.int .u8)))))))))))))))), (9, .ty (.sl (.pair (.int .i64) (.pair (.int .i64) (.pair (.int .i64) (.pair (.int .i64) (.pair (.int .i64) (.pair (.arr 32 (.int .u8)) (.pair .str (.pair .str (.pair (.pair (.arr 32 (.int .u8)) (.pair (.arr 16 (.int .u8)) (.int .u32))) (.pair (.arr 16 (.int .u8)) (.pair (.int .u32) (.pair (.int .u32) (.sl (.int .u8)))))))))))))))), (10, .ty (.int .i64)), (11, .ty (.int .i64))], []⟩, [(.ret, ⟨[(2, .ty .bool)], []⟩), (.exit 0, ⟨[(0, .ty (.sl (.pair (.int .i64) (.pair (.int .i64) (.pair (.int .i64) (.pair (.int .i64) (.pair (.int .i64) (.pair (.arr 32 (.int .u8)) (.pair .str (.pair .str (.pair (.pair (.arr 32 (.int .u8)) (.pair (.arr 16 (.int .u8)) (.int .u32))) (.pair (.arr 16 (.int .u8)) (.pair (.int .u32) (.pair (.int .u32) (.sl (.int .u8))))))))))))))))], []⟩)]⟩
noncomputable def law40_far_L2 (N : Nat) (X : (((List (Int × (Int × (Int × (Int × (Int × ((Arr Int 32) × (List UInt8 × (List UInt8 × (((Arr Int 32) × ((Arr Int 16) × Int)) × ((Arr Int 16) × (Int × (Int × (List Int)))))))))))))) × ((List (Int × (Int × (Int × (Int × (Int × ((Arr Int 32) × (List UInt8 × (List UInt8 × (((Arr Int 32) × ((Arr Int 16) × Int)) × ((Arr Int 16) × (Int × (Int × (List Int)))))))))))))) × (Int × (Int × Unit)))) × Unit) → Option ((((Bool × Unit) × Unit) ⊕ (((List (Int × (Int × (Int × (Int × (Int × ((Arr Int 32) × (List UInt8 × (List UInt8 × (((Arr Int 32) × ((Arr Int 16) × Int)) × ((Arr Int 16) × (Int × (Int × (List Int)))))))))))))) × Unit) × Unit)))) (l0 : List (Int × (Int × (Int × (Int × (Int × ((Arr Int 32) × (List UInt8 × (List UInt8 × (((Arr Int 32) × ((Arr Int 16) × Int)) × ((Arr Int 16) × (Int × (Int × (List Int)))))))))))))) (x9 : List (Int × (Int × (Int × (Int × (Int × ((Arr Int 32) × (List UInt8 × (List UInt8 × (((Arr Int 32) × ((Arr Int 16) × Int)) × ((Arr Int 16) × (Int × (Int × (List Int)))))))))))))) (x10 : Int) (x11 : Int) : Option ((((Bool × Unit) × Unit) ⊕ (((List (Int × (Int × (Int × (Int × (Int × ((Arr Int 32) × (List UInt8 × (List UInt8 × (((Arr Int 32) × ((Arr Int 16) × Int)) × ((Arr Int 16) × (Int × (Int × (List Int)))))))))))))) × Unit) × Unit))) :=
 bif (decide (x11 < x10)) then
  Option.bind (getI x9 x11) fun (v6 : (Int × (Int × (Int × (Int × (Int × ((Arr Int 32) × (List UInt8 × (List UInt8 × (((Arr Int 32) × ((Arr Int 16) × Int)) × ((Arr Int 16) × (Int × (Int × (List Int)))))))))))))) =>
  bif (decide ((300 : Int) < (((List.length v6.2.2.2.2.2.2.1) : Nat) : Int))) then
   some ((.inl ((true, ()), ())))
  else
   Option.bind (some ((cond false true (decide ((400 : Int) < (((List.length v6.2.2.2.2.2.2.2.1) : Nat) : Int)))))) fun (v7 : Bool) =>
   bif v7 then
    some ((.inl ((true, ()), ())))
   else
    Option.bind (some ((cond false true (decide ((2100 : Int) < (((List.length v6.2.2.2.2.2.2.2.2.2.2.2.2) : Nat) : Int)))))) fun (v8 : Bool) =>
    bif v8 then
     some ((.inl ((true, ()), ())))
    else
     (X ((l0, (x9, (x10, ((IntKind.wrap .i64 (x11 + 1)), ())))), ()))
 else
  some ((.inr ((l0, ()), ())))
noncomputable def law40_far_L2_R (c : (((List (Int × (Int × (Int × (Int × (Int × ((Arr Int 32) × (List UInt8 × (List UInt8 × (((Arr Int 32) × ((Arr Int 16) × Int)) × ((Arr Int 16) × (Int × (Int × (List Int)))))))))))))) × ((List (Int × (Int × (Int × (Int × (Int × ((Arr Int 32) × (List UInt8 × (List UInt8 × (((Arr Int 32) × ((Arr Int 16) × Int)) × ((Arr Int 16) × (Int × (Int × (List Int)))))))))))))) × (Int × (Int × Unit)))) × Unit)) : Option ((((Bool × Unit) × Unit) ⊕ (((List (Int × (Int × (Int × (Int × (Int × ((Arr Int 32) × (List UInt8 × (List UInt8 × (((Arr Int 32) × ((Arr Int 16) × Int)) × ((Arr Int 16) × (Int × (Int × (List Int)))))))))))))) × Unit) × Unit))) := gl (fun X c => law40_far_L2 N X c.1.1 c.1.2.1 c.1.2.2.1 c.1.2.2.2.1) N c
theorem law40_far_L2_S (X : (((List (Int × (Int × (Int × (Int × (Int × ((Arr Int 32) × (List UInt8 × (List UInt8 × (((Arr Int 32) × ((Arr Int 16) × Int)) × ((Arr Int 16) × (Int × (Int × (List Int)))))))))))))) × ((List (Int × (Int × (Int × (Int × (Int × ((Arr Int 32) × (List UInt8 × (List UInt8 × (((Arr Int 32) × ((Arr Int 16) × Int)) × ((Arr Int 16) × (Int × (Int × (List Int)))))))))))))) × (Int × (Int × Unit)))) × Unit) → Option ((((Bool × Unit) × Unit) ⊕ (((List (Int × (Int × (Int × (Int × (Int × ((Arr Int 32) × (List UInt8 × (List UInt8 × (((Arr Int 32) × ((Arr Int 16) × Int)) × ((Arr Int 16) × (Int × (Int × (List Int)))))))))))))) × Unit) × Unit)))) (l0 : List (Int × (Int × (Int × (Int × (Int × ((Arr Int 32) × (List UInt8 × (List UInt8 × (((Arr Int 32) × ((Arr Int 16) × Int)) × ((Arr Int 16) × (Int × (Int × (List Int)))))))))))))) (x9 : List (Int × (Int × (Int × (Int × (Int × ((Arr Int 32) × (List UInt8 × (List UInt8 × (((Arr Int 32) × ((Arr Int 16) × Int)) × ((Arr Int 16) × (Int × (Int × (List Int)))))))))))))) (x10 : Int) (x11 : Int) : (roundK Tryd.prog (Ev135 N) 400 [7] law40_far_L2_I (loopAt Tryd.prog [7] 2) X ((l0, x9, x10, x11, ()), ())).run = law40_far_L2 N X l0 x9 x10 x11 := by kernel_rfl
noncomputable def Ev136 : (R : Type) → Env R := Env.addLp (Ev135 N) [7] 0 2 (fun R => lpK Tryd.prog law40_far_L2_I (fun X c => law40_far_L2 N X c.1.1 c.1.2.1 c.1.2.2.1 c.1.2.2.2.1) N)
theorem Ev136_ok (R : Type) : EnvOK Tryd.prog (Ev136 N R) := EnvOK.addLp (Ev135_ok N R) (by kernel_rfl) (lpK_ok (li := law40_far_L2_I) (G := fun X c => law40_far_L2 N X c.1.1 c.1.2.1 c.1.2.2.1 c.1.2.2.2.1) hmx (Ev135_ok N _) (by kernel_rfl) loopAt_sub (fun (X : CT law40_far_L2_I.sh → Option (OT law40_far_L2_I.outs)) (c : CT law40_far_L2_I.sh) => law40_far_L2_S N X c.1.1 c.1.2.1 c.1.2.2.1 c.1.2.2.2.1) N)
noncomputable def law40_far (l0 : List (Int × (Int × (Int × (Int × (Int × ((Arr Int 32) × (List UInt8 × (List UInt8 × (((Arr Int 32) × ((Arr Int 16) × Int)) × ((Arr Int 16) × (Int × (Int × (List Int)))))))))))))) : Option Bool :=
 Option.bind (takeI l0 (@minI (((List.length l0) : Nat) : Int) (2100 : Int))) fun (v2 : (List (Int × (Int × (Int × (Int × (Int × ((Arr Int 32) × (List UInt8 × (List UInt8 × (((Arr Int 32) × ((Arr Int 16) × Int)) × ((Arr Int 16) × (Int × (Int × (List Int))))))))))))))) =>
 Option.bind (law40_far_L2_R N ((l0, (v2, ((((List.length v2) : Nat) : Int), ((0 : Int), ())))), ())) fun v3 =>
 Sum.elim
  (fun (v4 : ((Bool × Unit) × Unit)) =>
  some (v4.1.1))
  (fun (v4 : (((List (Int × (Int × (Int × (Int × (Int × ((Arr Int 32) × (List UInt8 × (List UInt8 × (((Arr Int 32) × ((Arr Int 16) × Int)) × ((Arr Int 16) × (Int × (Int × (List Int)))))))))))))) × Unit) × Unit)) =>
  bif (decide ((20 : Int) < (((List.length v4.1.1) : Nat) : Int))) then
   Option.bind (some ((cond true (decide ((((List.length v4.1.1) : Nat) : Int) ≤ (2000 : Int))) false))) fun (v5 : Bool) =>
   bif v5 then
    some (true)
   else
    Option.bind (some ((cond false true (decide ((2100 : Int) < (((List.length v4.1.1) : Nat) : Int)))))) fun (v6 : Bool) =>
    some (v6)
  else
   Option.bind (some ((cond false true (decide ((2100 : Int) < (((List.length v4.1.1) : Nat) : Int)))))) fun (v5 : Bool) =>
   some (v5)) v3
theorem law40_far_S (l0 : List (Int × (Int × (Int × (Int × (Int × ((Arr Int 32) × (List UInt8 × (List UInt8 × (((Arr Int 32) × ((Arr Int 16) × Int)) × ((Arr Int 16) × (Int × (Int × (List Int)))))))))))))) : (runK Tryd.prog (Ev136 N) 400 7 [(.sl (.pair (.int .i64) (.pair (.int .i64) (.pair (.int .i64) (.pair (.int .i64) (.pair (.int .i64) (.pair (.arr 32 (.int .u8)) (.pair .str (.pair .str (.pair (.pair (.arr 32 (.int .u8)) (.pair (.arr 16 (.int .u8)) (.int .u32))) (.pair (.arr 16 (.int .u8)) (.pair (.int .u32) (.pair (.int .u32) (.sl (.int .u8)))))))))))))))] [.bool] (l0, ())).run = law40_far N l0 := by kernel_rfl
noncomputable def Ev137 : (R : Type) → Env R := Env.addFn (Ev136 N) 7 (fun R => fnK [(.sl (.pair (.int .i64) (.pair (.int .i64) (.pair (.int .i64) (.pair (.int .i64) (.pair (.int .i64) (.pair (.arr 32 (.int .u8)) (.pair .str (.pair .str (.pair (.pair (.arr 32 (.int .u8)) (.pair (.arr 16 (.int .u8)) (.int .u32))) (.pair (.arr 16 (.int .u8)) (.pair (.int .u32) (.pair (.int .u32) (.sl (.int .u8)))))))))))))))] [.bool] (fun c => law40_far N c.1))
theorem Ev137_ok (R : Type) : EnvOK Tryd.prog (Ev137 N R) := EnvOK.addFn hmx (Ev136_ok N R) (Ev136_ok N _) (by kernel_rfl) (fun c => law40_far_S N c.1)
noncomputable def Ev138 : (R : Type) → Env R := Env.addFn (Ev137 N) 22 (fun R => txK)
theorem Ev138_ok (R : Type) : EnvOK Tryd.prog (Ev138 N R) := EnvOK.addExt (Ev137_ok N R) tx_ok
noncomputable def law40_alive : Option Bool :=
 Option.bind (script_Lay N ([((6 : Int), ((0 : Int), ((0 : Int), ((0 : Int), ((0 : Int), ((@Arr.cons Int 31 0 (@Arr.cons Int 30 0 (@Arr.cons Int 29 0 (@Arr.cons Int 28 0 (@Arr.cons Int 27 0 (@Arr.cons Int 26 0 (@Arr.cons Int 25 0 (@Arr.cons Int 24 0 (@Arr.cons Int 23 0 (@Arr.cons Int 22 0 (@Arr.cons Int 21 0 (@Arr.cons Int 20 0 (@Arr.cons Int 19 0 (@Arr.cons Int 18 0 (@Arr.cons Int 17 0 (@Arr.cons Int 16 0 (@Arr.cons Int 15 0 (@Arr.cons Int 14 0 (@Arr.cons Int 13 0 (@Arr.cons Int 12 0 (@Arr.cons Int 11 0 (@Arr.cons Int 10 0 (@Arr.cons Int 9 0 (@Arr.cons Int 8 0 (@Arr.cons Int 7 0 (@Arr.cons Int 6 0 (@Arr.cons Int 5 0 (@Arr.cons Int 4 0 (@Arr.cons Int 3 0 (@Arr.cons Int 2 0 (@Arr.cons Int 1 0 (@Arr.cons Int 0 0 (@Arr.nil Int))))))))))))))))))))))))))))))))), ((Array.toList (List.toArray ([] : List UInt8))), ((Array.toList (List.toArray ([] : List UInt8))), (((@Arr.cons Int 31 0 (@Arr.cons Int 30 0 (@Arr.cons Int 29 0 (@Arr.cons Int 28 0 (@Arr.cons Int 27 0 (@Arr.cons Int 26 0 (@Arr.cons Int 25 0 (@Arr.cons Int 24 0 (@Arr.cons Int 23 0 (@Arr.cons Int 22 0 (@Arr.cons Int 21 0 (@Arr.cons Int 20 0 (@Arr.cons Int 19 0 (@Arr.cons Int 18 0 (@Arr.cons Int 17 0 (@Arr.cons Int 16 0 (@Arr.cons Int 15 0 (@Arr.cons Int 14 0 (@Arr.cons Int 13 0 (@Arr.cons Int 12 0 (@Arr.cons Int 11 0 (@Arr.cons Int 10 0 (@Arr.cons Int 9 0 (@Arr.cons Int 8 0 (@Arr.cons Int 7 0 (@Arr.cons Int 6 0 (@Arr.cons Int 5 0 (@Arr.cons Int 4 0 (@Arr.cons Int 3 0 (@Arr.cons Int 2 0 (@Arr.cons Int 1 0 (@Arr.cons Int 0 0 (@Arr.nil Int))))))))))))))))))))))))))))))))), ((@Arr.cons Int 15 0 (@Arr.cons Int 14 0 (@Arr.cons Int 13 0 (@Arr.cons Int 12 0 (@Arr.cons Int 11 0 (@Arr.cons Int 10 0 (@Arr.cons Int 9 0 (@Arr.cons Int 8 0 (@Arr.cons Int 7 0 (@Arr.cons Int 6 0 (@Arr.cons Int 5 0 (@Arr.cons Int 4 0 (@Arr.cons Int 3 0 (@Arr.cons Int 2 0 (@Arr.cons Int 1 0 (@Arr.cons Int 0 0 (@Arr.nil Int))))))))))))))))), (0 : Int))), ((@Arr.cons Int 15 0 (@Arr.cons Int 14 0 (@Arr.cons Int 13 0 (@Arr.cons Int 12 0 (@Arr.cons Int 11 0 (@Arr.cons Int 10 0 (@Arr.cons Int 9 0 (@Arr.cons Int 8 0 (@Arr.cons Int 7 0 (@Arr.cons Int 6 0 (@Arr.cons Int 5 0 (@Arr.cons Int 4 0 (@Arr.cons Int 3 0 (@Arr.cons Int 2 0 (@Arr.cons Int 1 0 (@Arr.cons Int 0 0 (@Arr.nil Int))))))))))))))))), ((0 : Int), ((0 : Int), ([] : List Int)))))))))))))] : List ((Int × (Int × (Int × (Int × (Int × ((Arr Int 32) × (List UInt8 × (List UInt8 × (((Arr Int 32) × ((Arr Int 16) × Int)) × ((Arr Int 16) × (Int × (Int × (List Int)))))))))))))))) fun v1 =>
 Option.bind (script_Parse N v1.1) fun v2 =>
 Option.bind (bif (decide ((((List.length v1.1) : Nat) : Int) = (134 : Int))) then
   some ((cond true (decide (v1.2 = (0 : Int))) false))
  else
   some (false)) fun (v3 : Bool) =>
 bif v3 then
  Option.bind (some ((cond true (decide ((((List.length v2.1) : Nat) : Int) = (1 : Int))) false))) fun (v4 : Bool) =>
  Option.bind (bif v4 then
    Option.bind (getI v2.1 (0 : Int)) fun (v5 : (Int × (Int × (Int × (Int × (Int × ((Arr Int 32) × (List UInt8 × (List UInt8 × (((Arr Int 32) × ((Arr Int 16) × Int)) × ((Arr Int 16) × (Int × (Int × (List Int)))))))))))))) =>
    some ((cond true (decide (v5.1 = (6 : Int))) false))
   else
    some (false)) fun (v5 : Bool) =>
  Option.bind (bif v5 then
    some ((cond true (decide (v2.2 = (0 : Int))) false))
   else
    some (false)) fun (v6 : Bool) =>
  bif v6 then
   some (true)
  else
   some (false)
 else
  some (false)
theorem law40_alive_S : (runK Tryd.prog (Ev138 N) 400 8 [] [.bool] ()).run = law40_alive N  := by kernel_rfl
noncomputable def Ev139 : (R : Type) → Env R := Env.addFn (Ev138 N) 8 (fun R => fnK [] [.bool] (fun c => law40_alive N ))
theorem Ev139_ok (R : Type) : EnvOK Tryd.prog (Ev139 N R) := EnvOK.addFn hmx (Ev138_ok N R) (Ev138_ok N _) (by kernel_rfl) (fun c => law40_alive_S N )
noncomputable def Ev140 : (R : Type) → Env R := Env.addBx (Ev139 N) [(3, 0)]
theorem Ev140_ok (R : Type) : EnvOK Tryd.prog (Ev140 N R) := EnvOK.addBx (Ev139_ok N R) [(3, 0)]
noncomputable def law40_ScriptLays (l0 : List (Int × (Int × (Int × (Int × (Int × ((Arr Int 32) × (List UInt8 × (List UInt8 × (((Arr Int 32) × ((Arr Int 16) × Int)) × ((Arr Int 16) × (Int × (Int × (List Int)))))))))))))) (x1 : Int × (Int × (Int × (Int × (Int × ((Arr Int 32) × (List UInt8 × (List UInt8 × (((Arr Int 32) × ((Arr Int 16) × Int)) × ((Arr Int 16) × (Int × (Int × (List Int))))))))))))) (y2 : Int × (Int × (Int × (Int × (Int × ((Arr Int 32) × (List UInt8 × (List UInt8 × (((Arr Int 32) × ((Arr Int 16) × Int)) × ((Arr Int 16) × (Int × (Int × (List Int))))))))))))) : Option Bool :=
 Option.bind (law40_far N l0) fun v4 =>
 bif v4 then
  Option.bind (@law40_alive N) fun (v5 : Bool) =>
  some (v5)
 else
  Option.bind (law40_far N ([(x1.1, (x1.2.1, (x1.2.2.1, (x1.2.2.2.1, (x1.2.2.2.2.1, (x1.2.2.2.2.2.1, (x1.2.2.2.2.2.2.1, (x1.2.2.2.2.2.2.2.1, ((x1.2.2.2.2.2.2.2.2.1.1, (x1.2.2.2.2.2.2.2.2.1.2.1, x1.2.2.2.2.2.2.2.2.1.2.2)), (x1.2.2.2.2.2.2.2.2.2.1, (x1.2.2.2.2.2.2.2.2.2.2.1, (x1.2.2.2.2.2.2.2.2.2.2.2.1, x1.2.2.2.2.2.2.2.2.2.2.2.2)))))))))))), (y2.1, (y2.2.1, (y2.2.2.1, (y2.2.2.2.1, (y2.2.2.2.2.1, (y2.2.2.2.2.2.1, (y2.2.2.2.2.2.2.1, (y2.2.2.2.2.2.2.2.1, ((y2.2.2.2.2.2.2.2.2.1.1, (y2.2.2.2.2.2.2.2.2.1.2.1, y2.2.2.2.2.2.2.2.2.1.2.2)), (y2.2.2.2.2.2.2.2.2.2.1, (y2.2.2.2.2.2.2.2.2.2.2.1, (y2.2.2.2.2.2.2.2.2.2.2.2.1, y2.2.2.2.2.2.2.2.2.2.2.2.2))))))))))))] : List ((Int × (Int × (Int × (Int × (Int × ((Arr Int 32) × (List UInt8 × (List UInt8 × (((Arr Int 32) × ((Arr Int 16) × Int)) × ((Arr Int 16) × (Int × (Int × (List Int)))))))))))))))) fun v5 =>
  bif (cond false true v5) then
   Option.bind (@law40_alive N) fun (v6 : Bool) =>
   some (v6)
  else
   Option.bind (law40_all N l0) fun v6 =>
   Option.bind (script_Lay N v6) fun v7 =>
   Option.bind (ref40_Lay N l0) fun v8 =>
   Option.bind (ref01_Same N v7.1 v8.1) fun v9 =>
   bif v9 then
    bif (cond true (decide (v7.2 = v8.2)) false) then
     Option.bind (script_May N (x1.1, (x1.2.1, (x1.2.2.1, (x1.2.2.2.1, (x1.2.2.2.2.1, (x1.2.2.2.2.2.1, (x1.2.2.2.2.2.2.1, (x1.2.2.2.2.2.2.2.1, ((x1.2.2.2.2.2.2.2.2.1.1, (x1.2.2.2.2.2.2.2.2.1.2.1, x1.2.2.2.2.2.2.2.2.1.2.2)), (x1.2.2.2.2.2.2.2.2.2.1, (x1.2.2.2.2.2.2.2.2.2.2.1, (x1.2.2.2.2.2.2.2.2.2.2.2.1, x1.2.2.2.2.2.2.2.2.2.2.2.2))))))))))))) fun v10 =>
     Option.bind (ref40_May N (x1.1, (x1.2.1, (x1.2.2.1, (x1.2.2.2.1, (x1.2.2.2.2.1, (x1.2.2.2.2.2.1, (x1.2.2.2.2.2.2.1, (x1.2.2.2.2.2.2.2.1, ((x1.2.2.2.2.2.2.2.2.1.1, (x1.2.2.2.2.2.2.2.2.1.2.1, x1.2.2.2.2.2.2.2.2.1.2.2)), (x1.2.2.2.2.2.2.2.2.2.1, (x1.2.2.2.2.2.2.2.2.2.2.1, (x1.2.2.2.2.2.2.2.2.2.2.2.1, x1.2.2.2.2.2.2.2.2.2.2.2.2))))))))))))) fun v11 =>
     bif (cond true (decide (v10 = v11)) false) then
      Option.bind (script_Same N (x1.1, (x1.2.1, (x1.2.2.1, (x1.2.2.2.1, (x1.2.2.2.2.1, (x1.2.2.2.2.2.1, (x1.2.2.2.2.2.2.1, (x1.2.2.2.2.2.2.2.1, ((x1.2.2.2.2.2.2.2.2.1.1, (x1.2.2.2.2.2.2.2.2.1.2.1, x1.2.2.2.2.2.2.2.2.1.2.2)), (x1.2.2.2.2.2.2.2.2.2.1, (x1.2.2.2.2.2.2.2.2.2.2.1, (x1.2.2.2.2.2.2.2.2.2.2.2.1, x1.2.2.2.2.2.2.2.2.2.2.2.2)))))))))))) (y2.1, (y2.2.1, (y2.2.2.1, (y2.2.2.2.1, (y2.2.2.2.2.1, (y2.2.2.2.2.2.1, (y2.2.2.2.2.2.2.1, (y2.2.2.2.2.2.2.2.1, ((y2.2.2.2.2.2.2.2.2.1.1, (y2.2.2.2.2.2.2.2.2.1.2.1, y2.2.2.2.2.2.2.2.2.1.2.2)), (y2.2.2.2.2.2.2.2.2.2.1, (y2.2.2.2.2.2.2.2.2.2.2.1, (y2.2.2.2.2.2.2.2.2.2.2.2.1, y2.2.2.2.2.2.2.2.2.2.2.2.2))))))))))))) fun v12 =>
      Option.bind (ref40_Same N (x1.1, (x1.2.1, (x1.2.2.1, (x1.2.2.2.1, (x1.2.2.2.2.1, (x1.2.2.2.2.2.1, (x1.2.2.2.2.2.2.1, (x1.2.2.2.2.2.2.2.1, ((x1.2.2.2.2.2.2.2.2.1.1, (x1.2.2.2.2.2.2.2.2.1.2.1, x1.2.2.2.2.2.2.2.2.1.2.2)), (x1.2.2.2.2.2.2.2.2.2.1, (x1.2.2.2.2.2.2.2.2.2.2.1, (x1.2.2.2.2.2.2.2.2.2.2.2.1, x1.2.2.2.2.2.2.2.2.2.2.2.2)))))))))))) (y2.1, (y2.2.1, (y2.2.2.1, (y2.2.2.2.1, (y2.2.2.2.2.1, (y2.2.2.2.2.2.1, (y2.2.2.2.2.2.2.1, (y2.2.2.2.2.2.2.2.1, ((y2.2.2.2.2.2.2.2.2.1.1, (y2.2.2.2.2.2.2.2.2.1.2.1, y2.2.2.2.2.2.2.2.2.1.2.2)), (y2.2.2.2.2.2.2.2.2.2.1, (y2.2.2.2.2.2.2.2.2.2.2.1, (y2.2.2.2.2.2.2.2.2.2.2.2.1, y2.2.2.2.2.2.2.2.2.2.2.2.2))))))))))))) fun v13 =>
      bif (cond true (@BEq.beq Bool (@instBEqOfDecidableEq Bool @instDecidableEqBool) v12 v13) false) then
       Option.bind (script_Same N (x1.1, (x1.2.1, (x1.2.2.1, (x1.2.2.2.1, (x1.2.2.2.2.1, (x1.2.2.2.2.2.1, (x1.2.2.2.2.2.2.1, (x1.2.2.2.2.2.2.2.1, ((x1.2.2.2.2.2.2.2.2.1.1, (x1.2.2.2.2.2.2.2.2.1.2.1, x1.2.2.2.2.2.2.2.2.1.2.2)), (x1.2.2.2.2.2.2.2.2.2.1, (x1.2.2.2.2.2.2.2.2.2.2.1, (x1.2.2.2.2.2.2.2.2.2.2.2.1, x1.2.2.2.2.2.2.2.2.2.2.2.2)))))))))))) (x1.1, (x1.2.1, (x1.2.2.1, (x1.2.2.2.1, (x1.2.2.2.2.1, (x1.2.2.2.2.2.1, (x1.2.2.2.2.2.2.1, (x1.2.2.2.2.2.2.2.1, ((x1.2.2.2.2.2.2.2.2.1.1, (x1.2.2.2.2.2.2.2.2.1.2.1, x1.2.2.2.2.2.2.2.2.1.2.2)), (x1.2.2.2.2.2.2.2.2.2.1, (x1.2.2.2.2.2.2.2.2.2.2.1, (x1.2.2.2.2.2.2.2.2.2.2.2.1, x1.2.2.2.2.2.2.2.2.2.2.2.2))))))))))))) fun v14 =>
       bif (cond true v14 false) then
        Option.bind (@law40_alive N) fun (v15 : Bool) =>
        some ((cond true v15 false))
       else
        some (false)
      else
       some (false)
     else
      some (false)
    else
     some (false)
   else
    some (false)
theorem law40_ScriptLays_S (l0 : List (Int × (Int × (Int × (Int × (Int × ((Arr Int 32) × (List UInt8 × (List UInt8 × (((Arr Int 32) × ((Arr Int 16) × Int)) × ((Arr Int 16) × (Int × (Int × (List Int)))))))))))))) (x1 : Int × (Int × (Int × (Int × (Int × ((Arr Int 32) × (List UInt8 × (List UInt8 × (((Arr Int 32) × ((Arr Int 16) × Int)) × ((Arr Int 16) × (Int × (Int × (List Int))))))))))))) (y2 : Int × (Int × (Int × (Int × (Int × ((Arr Int 32) × (List UInt8 × (List UInt8 × (((Arr Int 32) × ((Arr Int 16) × Int)) × ((Arr Int 16) × (Int × (Int × (List Int))))))))))))) : (runK Tryd.prog (Ev140 N) 400 3 [(.sl (.pair (.int .i64) (.pair (.int .i64) (.pair (.int .i64) (.pair (.int .i64) (.pair (.int .i64) (.pair (.arr 32 (.int .u8)) (.pair .str (.pair .str (.pair (.pair (.arr 32 (.int .u8)) (.pair (.arr 16 (.int .u8)) (.int .u32))) (.pair (.arr 16 (.int .u8)) (.pair (.int .u32) (.pair (.int .u32) (.sl (.int .u8))))))))))))))), (.pair (.int .i64) (.pair (.int .i64) (.pair (.int .i64) (.pair (.int .i64) (.pair (.int .i64) (.pair (.arr 32 (.int .u8)) (.pair .str (.pair .str (.pair (.pair (.arr 32 (.int .u8)) (.pair (.arr 16 (.int .u8)) (.int .u32))) (.pair (.arr 16 (.int .u8)) (.pair (.int .u32) (.pair (.int .u32) (.sl (.int .u8)))))))))))))), (.pair (.int .i64) (.pair (.int .i64) (.pair (.int .i64) (.pair (.int .i64) (.pair (.int .i64) (.pair (.arr 32 (.int .u8)) (.pair .str (.pair .str (.pair (.pair (.arr 32 (.int .u8)) (.pair (.arr 16 (.int .u8)) (.int .u32))) (.pair (.arr 16 (.int .u8)) (.pair (.int .u32) (.pair (.int .u32) (.sl (.int .u8))))))))))))))] [.bool] (l0, x1, y2, ())).run = law40_ScriptLays N l0 x1 y2 := by kernel_rfl
noncomputable def Ev141 : (R : Type) → Env R := Env.addFn (Ev140 N) 3 (fun R => fnK [(.sl (.pair (.int .i64) (.pair (.int .i64) (.pair (.int .i64) (.pair (.int .i64) (.pair (.int .i64) (.pair (.arr 32 (.int .u8)) (.pair .str (.pair .str (.pair (.pair (.arr 32 (.int .u8)) (.pair (.arr 16 (.int .u8)) (.int .u32))) (.pair (.arr 16 (.int .u8)) (.pair (.int .u32) (.pair (.int .u32) (.sl (.int .u8))))))))))))))), (.pair (.int .i64) (.pair (.int .i64) (.pair (.int .i64) (.pair (.int .i64) (.pair (.int .i64) (.pair (.arr 32 (.int .u8)) (.pair .str (.pair .str (.pair (.pair (.arr 32 (.int .u8)) (.pair (.arr 16 (.int .u8)) (.int .u32))) (.pair (.arr 16 (.int .u8)) (.pair (.int .u32) (.pair (.int .u32) (.sl (.int .u8)))))))))))))), (.pair (.int .i64) (.pair (.int .i64) (.pair (.int .i64) (.pair (.int .i64) (.pair (.int .i64) (.pair (.arr 32 (.int .u8)) (.pair .str (.pair .str (.pair (.pair (.arr 32 (.int .u8)) (.pair (.arr 16 (.int .u8)) (.int .u32))) (.pair (.arr 16 (.int .u8)) (.pair (.int .u32) (.pair (.int .u32) (.sl (.int .u8))))))))))))))] [.bool] (fun c => law40_ScriptLays N c.1 c.2.1 c.2.2.1))
theorem Ev141_ok (R : Type) : EnvOK Tryd.prog (Ev141 N R) := EnvOK.addFn hmx (Ev140_ok N R) (Ev140_ok N _) (by kernel_rfl) (fun c => law40_ScriptLays_S N c.1 c.2.1 c.2.2.1)
noncomputable def law40_ScriptParses (b0 : List (Int)) (x1 : Bool) (n2 : Int) : Option Bool :=
 bif (decide ((3000 : Int) < (((List.length b0) : Nat) : Int))) then
  Option.bind (@law40_alive N) fun (v4 : Bool) =>
  some (v4)
 else
  bif x1 then
   Option.bind (ref40_Seal N (IntKind.wrap .i64 n2) b0) fun v4 =>
   Option.bind (script_Parse N v4) fun v5 =>
   Option.bind (ref40_Parse N v4) fun v6 =>
   Option.bind (law40_same N v5.1 v6.1) fun v7 =>
   Option.bind (bif v7 then
     some ((cond true (decide (v5.2 = v6.2)) false))
    else
     some (false)) fun (v8 : Bool) =>
   bif v8 then
    Option.bind (@law40_alive N) fun (v9 : Bool) =>
    some ((cond true v9 false))
   else
    some (false)
  else
   Option.bind (script_Parse N b0) fun v4 =>
   Option.bind (ref40_Parse N b0) fun v5 =>
   Option.bind (law40_same N v4.1 v5.1) fun v6 =>
   Option.bind (bif v6 then
     some ((cond true (decide (v4.2 = v5.2)) false))
    else
     some (false)) fun (v7 : Bool) =>
   bif v7 then
    Option.bind (@law40_alive N) fun (v8 : Bool) =>
    some ((cond true v8 false))
   else
    some (false)
theorem law40_ScriptParses_S (b0 : List (Int)) (x1 : Bool) (n2 : Int) : (runK Tryd.prog (Ev141 N) 400 4 [(.sl (.int .u8)), .bool, (.int .u16)] [.bool] (b0, x1, n2, ())).run = law40_ScriptParses N b0 x1 n2 := by kernel_rfl
noncomputable def Ev142 : (R : Type) → Env R := Env.addFn (Ev141 N) 4 (fun R => fnK [(.sl (.int .u8)), .bool, (.int .u16)] [.bool] (fun c => law40_ScriptParses N c.1 c.2.1 c.2.2.1))
theorem Ev142_ok (R : Type) : EnvOK Tryd.prog (Ev142 N R) := EnvOK.addFn hmx (Ev141_ok N R) (Ev141_ok N _) (by kernel_rfl) (fun c => law40_ScriptParses_S N c.1 c.2.1 c.2.2.1)
noncomputable def law40_ScriptBack (l0 : List (Int × (Int × (Int × (Int × (Int × ((Arr Int 32) × (List UInt8 × (List UInt8 × (((Arr Int 32) × ((Arr Int 16) × Int)) × ((Arr Int 16) × (Int × (Int × (List Int)))))))))))))) (b1 : List (Int)) : Option Bool :=
 Option.bind (law40_far N l0) fun v3 =>
 bif v3 then
  Option.bind (@law40_alive N) fun (v4 : Bool) =>
  some (v4)
 else
  Option.bind (some ((cond false true (decide ((3000 : Int) < (((List.length b1) : Nat) : Int)))))) fun (v4 : Bool) =>
  bif v4 then
   Option.bind (@law40_alive N) fun (v5 : Bool) =>
   some (v5)
  else
   Option.bind (law40_all N l0) fun v5 =>
   Option.bind (script_Lay N v5) fun v6 =>
   bif (decide (v6.2 = (0 : Int))) then
    Option.bind (script_Parse N v6.1) fun v7 =>
    Option.bind (law40_same N v7.1 l0) fun v8 =>
    Option.bind (bif (!v8) then
      some (true)
     else
      some ((cond false true (!(decide (v7.2 = (0 : Int))))))) fun (v9 : Bool) =>
    bif v9 then
     some (false)
    else
     Option.bind (script_Parse N b1) fun v10 =>
     bif (!(decide (v10.2 = (0 : Int)))) then
      bif (decide ((((List.length v10.1) : Nat) : Int) = (0 : Int))) then
       Option.bind (@law40_alive N) fun (v11 : Bool) =>
       some ((cond true v11 false))
      else
       some (false)
     else
      Option.bind (script_Lay N v10.1) fun v11 =>
      bif (decide (v11.2 = (0 : Int))) then
       Option.bind (ref01_Same N v11.1 b1) fun v12 =>
       bif (cond true v12 false) then
        Option.bind (@law40_alive N) fun (v13 : Bool) =>
        some ((cond true v13 false))
       else
        some (false)
      else
       some (false)
   else
    Option.bind (script_Parse N b1) fun v7 =>
    bif (!(decide (v7.2 = (0 : Int)))) then
     bif (decide ((((List.length v7.1) : Nat) : Int) = (0 : Int))) then
      Option.bind (@law40_alive N) fun (v8 : Bool) =>
      some ((cond true v8 false))
     else
      some (false)
    else
     Option.bind (script_Lay N v7.1) fun v8 =>
     bif (decide (v8.2 = (0 : Int))) then
      Option.bind (ref01_Same N v8.1 b1) fun v9 =>
      bif (cond true v9 false) then
       Option.bind (@law40_alive N) fun (v10 : Bool) =>
       some ((cond true v10 false))
      else
       some (false)
     else
      some (false)
theorem law40_ScriptBack_S (l0 : List (Int × (Int × (Int × (Int × (Int × ((Arr Int 32) × (List UInt8 × (List UInt8 × (((Arr Int 32) × ((Arr Int 16) × Int)) × ((Arr Int 16) × (Int × (Int × (List Int)))))))))))))) (b1 : List (Int)) : (runK Tryd.prog (Ev142 N) 400 5 [(.sl (.pair (.int .i64) (.pair (.int .i64) (.pair (.int .i64) (.pair (.int .i64) (.pair (.int .i64) (.pair (.arr 32 (.int .u8)) (.pair .str (.pair .str (.pair (.pair (.arr 32 (.int .u8)) (.pair (.arr 16 (.int .u8)) (.int .u32))) (.pair (.arr 16 (.int .u8)) (.pair (.int .u32) (.pair (.int .u32) (.sl (.int .u8))))))))))))))), (.sl (.int .u8))] [.bool] (l0, b1, ())).run = law40_ScriptBack N l0 b1 := by kernel_rfl
noncomputable def Ev143 : (R : Type) → Env R := Env.addFn (Ev142 N) 5 (fun R => fnK [(.sl (.pair (.int .i64) (.pair (.int .i64) (.pair (.int .i64) (.pair (.int .i64) (.pair (.int .i64) (.pair (.arr 32 (.int .u8)) (.pair .str (.pair .str (.pair (.pair (.arr 32 (.int .u8)) (.pair (.arr 16 (.int .u8)) (.int .u32))) (.pair (.arr 16 (.int .u8)) (.pair (.int .u32) (.pair (.int .u32) (.sl (.int .u8))))))))))))))), (.sl (.int .u8))] [.bool] (fun c => law40_ScriptBack N c.1 c.2.1))
theorem Ev143_ok (R : Type) : EnvOK Tryd.prog (Ev143 N R) := EnvOK.addFn hmx (Ev142_ok N R) (Ev142_ok N _) (by kernel_rfl) (fun c => law40_ScriptBack_S N c.1 c.2.1)
noncomputable def Ev144 : (R : Type) → Env R := Env.addMv (Ev143 N) [(6, 7)]
theorem Ev144_ok (R : Type) : EnvOK Tryd.prog (Ev144 N R) := EnvOK.addMv (Ev143_ok N R) [(6, 7)]
noncomputable def law40_ScriptLines_L3_I : LI := ⟨72, 0, [(5, 64)], ⟨[(1, .ty (.int .u8)), (5, .lit (.own 0)), (16, .ty (.sl (.pair .bool (.pair (.int .i64) (.pair (.int .i64) (.sl (.int .u8))))))), (17, .ty (.int .i64)), (18, .ty (.int .i64))], [.own (.pair .bool (.pair (.int .i64) (.pair (.int .i64) (.sl (.int .u8))))) 64]⟩, [(.ret, ⟨[(4, .ty .bool)], []⟩), (.exit 0, ⟨[(1, .ty (.int .u8)), (5, .lit (.own 0))], [.own (.pair .bool (.pair (.int .i64) (.pair (.int .i64) (.sl (.int .u8))))) 64]⟩)]⟩
noncomputable def law40_ScriptLines_L3 (X : ((Int × ((List (Bool × (Int × (Int × (List Int))))) × (Int × (Int × Unit)))) × ((List (Bool × (Int × (Int × (List Int))))) × Unit)) → Option ((((Bool × Unit) × Unit) ⊕ ((Int × Unit) × ((List (Bool × (Int × (Int × (List Int))))) × Unit))))) (x1 : Int) (x16 : List (Bool × (Int × (Int × (List Int))))) (x17 : Int) (x18 : Int) (h0 : List (Bool × (Int × (Int × (List Int))))) : Option ((((Bool × Unit) × Unit) ⊕ ((Int × Unit) × ((List (Bool × (Int × (Int × (List Int))))) × Unit)))) :=
 bif (decide (x18 < x17)) then
  Option.bind (getI x16 x18) fun (v7 : (Bool × (Int × (Int × (List Int))))) =>
  bif (decide ((500 : Int) < (((List.length v7.2.2.2) : Nat) : Int))) then
   Option.bind (@law40_alive N) fun (v8 : Bool) =>
   some ((.inl ((v8, ()), ())))
  else
   bif (roomB ((List.length h0) + (List.length ([(v7.1, (v7.2.1, (v7.2.2.1, v7.2.2.2)))] : List ((Bool × (Int × (Int × (List Int)))))))) 48) then
    (X ((x1, (x16, (x17, ((IntKind.wrap .i64 (x18 + 1)), ())))), ((h0 ++ ([(v7.1, (v7.2.1, (v7.2.2.1, v7.2.2.2)))] : List ((Bool × (Int × (Int × (List Int))))))), ())))
   else
    none
 else
  some ((.inr ((x1, ()), (h0, ()))))
noncomputable def law40_ScriptLines_L3_R (c : ((Int × ((List (Bool × (Int × (Int × (List Int))))) × (Int × (Int × Unit)))) × ((List (Bool × (Int × (Int × (List Int))))) × Unit))) : Option ((((Bool × Unit) × Unit) ⊕ ((Int × Unit) × ((List (Bool × (Int × (Int × (List Int))))) × Unit)))) := gl (fun X c => law40_ScriptLines_L3 N X c.1.1 c.1.2.1 c.1.2.2.1 c.1.2.2.2.1 c.2.1) N c
theorem law40_ScriptLines_L3_S (X : ((Int × ((List (Bool × (Int × (Int × (List Int))))) × (Int × (Int × Unit)))) × ((List (Bool × (Int × (Int × (List Int))))) × Unit)) → Option ((((Bool × Unit) × Unit) ⊕ ((Int × Unit) × ((List (Bool × (Int × (Int × (List Int))))) × Unit))))) (x1 : Int) (x16 : List (Bool × (Int × (Int × (List Int))))) (x17 : Int) (x18 : Int) (h0 : List (Bool × (Int × (Int × (List Int))))) : (roundK Tryd.prog (Ev144 N) 400 [6] law40_ScriptLines_L3_I (loopAt Tryd.prog [6] 3) X ((x1, x16, x17, x18, ()), (h0, ()))).run = law40_ScriptLines_L3 N X x1 x16 x17 x18 h0 := by kernel_rfl
noncomputable def Ev145 : (R : Type) → Env R := Env.addLp (Ev144 N) [6] 0 3 (fun R => lpK Tryd.prog law40_ScriptLines_L3_I (fun X c => law40_ScriptLines_L3 N X c.1.1 c.1.2.1 c.1.2.2.1 c.1.2.2.2.1 c.2.1) N)
theorem Ev145_ok (R : Type) : EnvOK Tryd.prog (Ev145 N R) := EnvOK.addLp (Ev144_ok N R) (by kernel_rfl) (lpK_ok (li := law40_ScriptLines_L3_I) (G := fun X c => law40_ScriptLines_L3 N X c.1.1 c.1.2.1 c.1.2.2.1 c.1.2.2.2.1 c.2.1) hmx (Ev144_ok N _) (by kernel_rfl) loopAt_sub (fun (X : CT law40_ScriptLines_L3_I.sh → Option (OT law40_ScriptLines_L3_I.outs)) (c : CT law40_ScriptLines_L3_I.sh) => law40_ScriptLines_L3_S N X c.1.1 c.1.2.1 c.1.2.2.1 c.1.2.2.2.1 c.2.1) N)
noncomputable def law40_ScriptLines_L13_I : LI := ⟨72, 0, [], ⟨[(5, .ty (.sl (.pair .bool (.pair (.int .i64) (.pair (.int .i64) (.sl (.int .u8))))))), (8, .ty (.int .i64)), (9, .ty .str), (10, .ty (.int .i64)), (41, .ty (.int .i64)), (42, .ty (.int .i64))], []⟩, [(.exit 2, ⟨[(5, .ty (.sl (.pair .bool (.pair (.int .i64) (.pair (.int .i64) (.sl (.int .u8))))))), (8, .ty (.int .i64)), (9, .ty .str), (10, .ty (.int .i64))], []⟩)]⟩
noncomputable def law40_ScriptLines_L13 (N : Nat) (X : (((List (Bool × (Int × (Int × (List Int))))) × (Int × (List UInt8 × (Int × (Int × (Int × Unit)))))) × Unit) → Option ((((List (Bool × (Int × (Int × (List Int))))) × (Int × (List UInt8 × (Int × Unit)))) × Unit))) (k5 : List (Bool × (Int × (Int × (List Int))))) (i8 : Int) (s9 : List UInt8) (lines10 : Int) (x41 : Int) (x42 : Int) : Option ((((List (Bool × (Int × (Int × (List Int))))) × (Int × (List UInt8 × (Int × Unit)))) × Unit)) :=
 bif (decide (x42 < x41)) then
  Option.bind (getI s9 x42) fun (v8 : UInt8) =>
  bif (decide ((((@UInt8.toNat v8) : Nat) : Int) = (10 : Int))) then
   (X ((k5, (i8, (s9, ((IntKind.wrap .i64 (lines10 + 1)), (x41, ((IntKind.wrap .i64 (x42 + 1)), ())))))), ()))
  else
   (X ((k5, (i8, (s9, (lines10, (x41, ((IntKind.wrap .i64 (x42 + 1)), ())))))), ()))
 else
  some (((k5, (i8, (s9, (lines10, ())))), ()))
noncomputable def law40_ScriptLines_L13_R (c : (((List (Bool × (Int × (Int × (List Int))))) × (Int × (List UInt8 × (Int × (Int × (Int × Unit)))))) × Unit)) : Option ((((List (Bool × (Int × (Int × (List Int))))) × (Int × (List UInt8 × (Int × Unit)))) × Unit)) := gl (fun X c => law40_ScriptLines_L13 N X c.1.1 c.1.2.1 c.1.2.2.1 c.1.2.2.2.1 c.1.2.2.2.2.1 c.1.2.2.2.2.2.1) N c
theorem law40_ScriptLines_L13_S (X : (((List (Bool × (Int × (Int × (List Int))))) × (Int × (List UInt8 × (Int × (Int × (Int × Unit)))))) × Unit) → Option ((((List (Bool × (Int × (Int × (List Int))))) × (Int × (List UInt8 × (Int × Unit)))) × Unit))) (k5 : List (Bool × (Int × (Int × (List Int))))) (i8 : Int) (s9 : List UInt8) (lines10 : Int) (x41 : Int) (x42 : Int) : (roundK Tryd.prog (Ev145 N) 400 [6] law40_ScriptLines_L13_I (loopAt Tryd.prog [6] 13) X ((k5, i8, s9, lines10, x41, x42, ()), ())).run = law40_ScriptLines_L13 N X k5 i8 s9 lines10 x41 x42 := by kernel_rfl
noncomputable def Ev146 : (R : Type) → Env R := Env.addLp (Ev145 N) [6] 0 13 (fun R => lpK Tryd.prog law40_ScriptLines_L13_I (fun X c => law40_ScriptLines_L13 N X c.1.1 c.1.2.1 c.1.2.2.1 c.1.2.2.2.1 c.1.2.2.2.2.1 c.1.2.2.2.2.2.1) N)
theorem Ev146_ok (R : Type) : EnvOK Tryd.prog (Ev146 N R) := EnvOK.addLp (Ev145_ok N R) (by kernel_rfl) (lpK_ok (li := law40_ScriptLines_L13_I) (G := fun X c => law40_ScriptLines_L13 N X c.1.1 c.1.2.1 c.1.2.2.1 c.1.2.2.2.1 c.1.2.2.2.2.1 c.1.2.2.2.2.2.1) hmx (Ev145_ok N _) (by kernel_rfl) loopAt_sub (fun (X : CT law40_ScriptLines_L13_I.sh → Option (OT law40_ScriptLines_L13_I.outs)) (c : CT law40_ScriptLines_L13_I.sh) => law40_ScriptLines_L13_S N X c.1.1 c.1.2.1 c.1.2.2.1 c.1.2.2.2.1 c.1.2.2.2.2.1 c.1.2.2.2.2.2.1) N)
noncomputable def law40_ScriptLines (notes0 : List (Bool × (Int × (Int × (List Int))))) (x1 : Int) : Option Bool :=
 Option.bind (takeI notes0 (@minI (((List.length notes0) : Nat) : Int) (40 : Int))) fun (v3 : (List (Bool × (Int × (Int × (List Int)))))) =>
 Option.bind (law40_ScriptLines_L3_R N ((x1, (v3, ((((List.length v3) : Nat) : Int), ((0 : Int), ())))), (([] : List ((Bool × (Int × (Int × (List Int)))))), ()))) fun v4 =>
 Sum.elim
  (fun (v5 : ((Bool × Unit) × Unit)) =>
  some (v5.1.1))
  (fun (v5 : ((Int × Unit) × ((List (Bool × (Int × (Int × (List Int))))) × Unit))) =>
  bif (decide ((IntKind.wrap .i64 ((((List.length v5.2.1) : Nat) : Int) + 1)) = (0 : Int))) then
   none
  else
   Option.bind (@script_TextF (200000 : Nat) v5.2.1) fun (v6 : (List UInt8)) =>
   Option.bind (law40_ScriptLines_L13_R N ((v5.2.1, ((@Int.tmod (IntKind.wrap .i64 v5.1.1) (IntKind.wrap .i64 ((((List.length v5.2.1) : Nat) : Int) + 1))), (v6, ((0 : Int), ((((List.length v6) : Nat) : Int), ((0 : Int), ())))))), ())) fun v7 =>
   Option.bind (takeI v7.1.1 v7.1.2.1) fun (v8 : (List (Bool × (Int × (Int × (List Int)))))) =>
   Option.bind (@script_TextF (200000 : Nat) v8) fun (v9 : (List UInt8)) =>
   Option.bind (dropI v7.1.1 v7.1.2.1) fun (v10 : (List (Bool × (Int × (Int × (List Int)))))) =>
   Option.bind (@script_TextF (200000 : Nat) v10) fun (v11 : (List UInt8)) =>
   bif (decide (((List.length v9) + (List.length v11)) ≤ maxLen)) then
    bif (decide ((v9 ++ v11) = v7.1.2.2.1)) then
     bif (cond true (decide (v7.1.2.2.2.1 = (((List.length v7.1.1) : Nat) : Int))) false) then
      Option.bind (@law40_alive N) fun (v12 : Bool) =>
      some ((cond true v12 false))
     else
      some (false)
    else
     some (false)
   else
    none) v4
theorem law40_ScriptLines_S (notes0 : List (Bool × (Int × (Int × (List Int))))) (x1 : Int) : (runK Tryd.prog (Ev146 N) 400 6 [(.sl (.pair .bool (.pair (.int .i64) (.pair (.int .i64) (.sl (.int .u8)))))), (.int .u8)] [.bool] (notes0, x1, ())).run = law40_ScriptLines N notes0 x1 := by kernel_rfl
theorem law40_ScriptLines_C (notes0 : List (Bool × (Int × (Int × (List Int))))) (x1 : Int) (y : Bool) (h : law40_ScriptLines N notes0 x1 = some y) : CallsK Tryd.prog 6 (valA [(.sl (.pair .bool (.pair (.int .i64) (.pair (.int .i64) (.sl (.int .u8)))))), (.int .u8)] (notes0, x1, ())) (tupV (valR [.bool] y)) := runK_ok hmx (Ev146_ok N _) (okFn_ok (by kernel_rfl)) (by rw [law40_ScriptLines_S]; exact h)
end
end Go.Proofs.YtongdeioonikoaaDoor
namespace Go.Proofs.YtongdeioonikoaaDoor
set_option maxRecDepth 100000
open Go.RowKit
set_option linter.unusedVariables false
set_option linter.unusedSimpArgs false
set_option maxRecDepth 100000
def AllW (l : List Int) : Prop := ∀ x ∈ l, 0 ≤ x ∧ x < 4294967296
theorem AllW.get {l : List Int} (h : AllW l) (i : Nat) (hi : i < l.length) : 0 ≤ l[i] ∧ l[i] < 4294967296 := h _ (List.getElem_mem hi)
theorem AllW.set {l : List Int} (h : AllW l) (i : Nat) {x : Int} (hx : 0 ≤ x ∧ x < 4294967296) : AllW (l.set i x) := fun y hy => by
 rcases List.mem_or_eq_of_mem_set hy with h1 | rfl
 ·exact h y h1
 ·exact hx
section
variable {N : Nat}
end
section
variable {N : Nat}
end
section
variable {N : Nat}
end
section
variable {N : Nat}
end
section
variable {N : Nat}
end
abbrev EvT := Int × (Int × (Int × (Int × (Int × ((Arr Int 32) × (List UInt8 × (List UInt8 × (((Arr Int 32) × ((Arr Int 16) × Int)) × ((Arr Int 16) × (Int × (Int × (List Int))))))))))))
structure EvW (x : EvT) : Prop where
 hash : AllB x.2.2.2.2.2.1.l
 nonce : AllB x.2.2.2.2.2.2.2.2.1.1.l
 chal : AllB x.2.2.2.2.2.2.2.2.1.2.1.l
 magic : 0 ≤ x.2.2.2.2.2.2.2.2.1.2.2 ∧ x.2.2.2.2.2.2.2.2.1.2.2 < 4294967296
 peer : AllB x.2.2.2.2.2.2.2.2.2.1.l
 magic2 : 0 ≤ x.2.2.2.2.2.2.2.2.2.2.1 ∧ x.2.2.2.2.2.2.2.2.2.2.1 < 4294967296
 addr : 0 ≤ x.2.2.2.2.2.2.2.2.2.2.2.1 ∧ x.2.2.2.2.2.2.2.2.2.2.2.1 < 4294967296
 data : AllB x.2.2.2.2.2.2.2.2.2.2.2.2
theorem getI_d {α : Type} {l r : List α} {x : α} {i : Nat} (hd : l.drop i = x :: r) : getI l (i : Int) = some x ∧ l.drop (i + 1) = r ∧ i < l.length := by
 have hl : i < l.length := by
  have := congrArg List.length hd
  simp only [List.length_drop, List.length_cons] at this
  omega
 have := List.drop_eq_getElem_cons hl
 rw [hd] at this
 exact ⟨by rw [getI_lt l i hl, (List.cons.inj this).1], (List.cons.inj this).2.symm, hl⟩
theorem len_d {α : Type} {l : List α} {i : Nat} (hd : l.drop i = []) : l.length ≤ i := by
 have := congrArg List.length hd
 simp only [List.length_drop, List.length_nil] at this
 omega
abbrev NoT := Bool × (Int × (Int × (List Int)))
theorem dec_no10 : ∀ (k u : Nat), u < 10 ^ k → ∀ b ∈ Lib.decDigits u, b ≠ 10
 | 0, u, h => fun b hb => by
  rw [Lib.decDigits, dif_pos (by omega)] at hb
  have hu : u = 0 := by omega
  subst hu
  simp only [List.mem_singleton] at hb
  subst hb
  decide
 | k + 1, u, h => fun b hb => by
  have key : ∀ d : Nat, d < 10 → UInt8.ofNat (48 + d) ≠ 10 := by decide
  rw [Lib.decDigits] at hb
  split at hb
  ·rename_i h1
   simp only [List.mem_singleton] at hb
   subst hb
   exact key u h1
  ·rename_i h1
   rcases List.mem_append.1 hb with hb | hb
   ·exact dec_no10 k (u / 10) (by rw [Nat.pow_succ] at h; omega) b hb
   ·simp only [List.mem_singleton] at hb
    subst hb
    exact key _ (Nat.mod_lt _ (by omega))
theorem dec_len : ∀ (k u : Nat), u < 10 ^ (k + 1) → (Lib.decDigits u).length ≤ k + 1
 | 0, u, h => by
  rw [Lib.decDigits, dif_pos (by omega)]
  simp
 | k + 1, u, h => by
  rw [Lib.decDigits]
  split
  ·simp
  ·rw [List.length_append, List.length_singleton]
   have := dec_len k (u / 10) (by rw [Nat.pow_succ] at h; omega)
   omega
theorem ito (n : Int) (h0 : -9223372036854775808 ≤ n) (h1 : n ≤ 9223372036854775807) : (Lib.itoa n).length ≤ 21 ∧ ∀ b ∈ Lib.itoa n, b ≠ 10 := by
 unfold Lib.itoa
 have e : (10 : Nat) ^ 20 = 100000000000000000000 := by decide
 split
 ·have hl := dec_len 19 n.natAbs (by omega)
  have hn := dec_no10 20 n.natAbs (by omega)
  refine ⟨by rw [List.length_cons]; omega, fun b hb => ?_⟩
  rcases List.mem_cons.1 hb with rfl | hb
  ·decide
  ·exact hn b hb
 ·have hl := dec_len 19 n.toNat (by omega)
  exact ⟨by omega, dec_no10 20 n.toNat (by omega)⟩
def Fine (n : Nat) (t : List UInt8) : Prop := t.length ≤ n ∧ ∀ b ∈ t, b ≠ 10
theorem Fine.app {n m : Nat} {s t : List UInt8} (h1 : Fine n s) (h2 : Fine m t) : Fine (n + m) (s ++ t) := ⟨by have := h1.1; have := h2.1; rw [List.length_append]; omega, fun b hb => by
 rcases List.mem_append.1 hb with hb | hb
 ·exact h1.2 b hb
 ·exact h2.2 b hb⟩
def fineB (n : Nat) (t : List UInt8) : Bool := decide (t.length ≤ n) && t.all fun b => b != 10
theorem fine_of {n : Nat} {t : List UInt8} (h : fineB n t = true) : Fine n t := by
 unfold fineB at h
 rw [Bool.and_eq_true] at h
 exact ⟨of_decide_eq_true h.1, fun b hb => by have := List.all_eq_true.1 h.2 b hb; simpa using this⟩
theorem maxLen_ge : (100000 : Nat) ≤ maxLen := by decide +kernel
theorem mx {n : Nat} (h : n ≤ 100000) : decide (n ≤ maxLen) = true := decide_eq_true (Nat.le_trans h maxLen_ge)
theorem line_ok (x : NoT) (h0 : -9223372036854775808 ≤ x.2.1) (h1 : x.2.1 ≤ 9223372036854775807) (hl : x.2.2.2.length ≤ 1000) : ∃ t, Ln.script_line 200000 x = some t ∧ Fine 100 t := by
 have hi := ito x.2.1 h0 h1
 have hn := ito ((x.2.2.2.length : Nat) : Int) (by omega) (by omega)
 have fi : Fine 21 (Lib.itoa x.2.1) := hi
 have fn : Fine 21 (Lib.itoa ((x.2.2.2.length : Nat) : Int)) := hn
 have c1 : decide ((-9223372036854775808 : Int) ≤ x.2.1 ∧ x.2.1 ≤ (9223372036854775807 : Int)) = true := decide_eq_true ⟨h0, h1⟩
 have c2 : decide ((-9223372036854775808 : Int) ≤ ((x.2.2.2.length : Nat) : Int) ∧ ((x.2.2.2.length : Nat) : Int) ≤ (9223372036854775807 : Int)) = true := decide_eq_true ⟨by omega, by omega⟩
 have li := fi.1
 have ln := fn.1
 have fc : Fine 6 ([99, 108, 105, 101, 110, 116] : List UInt8) := fine_of (by decide)
 have fs : Fine 6 ([115, 101, 114, 118, 101, 114] : List UInt8) := fine_of (by decide)
 have f32 : Fine 1 ([32] : List UInt8) := fine_of (by decide)
 have f63 : Fine 1 ([63] : List UInt8) := fine_of (by decide)
 have fnm : ∀ v ∈ ([([63] : List UInt8), [98, 111, 117, 110, 100], [99, 108, 111, 115, 101, 100], [100, 97, 116, 97]] : List (List UInt8)), Fine 6 v := by
  intro v hv
  simp only [List.mem_cons, List.not_mem_nil, or_false] at hv
  rcases hv with rfl | rfl | rfl | rfl <;> exact fine_of (by decide)
 have up : ∀ {n : Nat} {t : List UInt8}, Fine n t → n ≤ 100 → Fine 100 t := fun h hn => ⟨by have := h.1; omega, h.2⟩
 unfold Ln.script_line
 rw [c1, c2]
 by_cases k1 : x.2.2.1 < 1
 ·cases x.1
  ·simp only [cond_true, cond_false, k1, decide_true, Option.bind_some]
   rw [mx (by simp only [List.length_append, List.length_cons, List.length_nil]; omega), mx (by simp only [List.length_append, List.length_cons, List.length_nil]; omega), mx (by simp only [List.length_append, List.length_cons, List.length_nil]; omega), mx (by simp only [List.length_append, List.length_cons, List.length_nil]; omega)]
   exact ⟨_, rfl, up (((fs.app ((f32.app fi).app f32)).app f63)) (by omega)⟩
  ·simp only [cond_true, cond_false, k1, decide_true, Option.bind_some]
   rw [mx (by simp only [List.length_append, List.length_cons, List.length_nil]; omega), mx (by simp only [List.length_append, List.length_cons, List.length_nil]; omega), mx (by simp only [List.length_append, List.length_cons, List.length_nil]; omega), mx (by simp only [List.length_append, List.length_cons, List.length_nil]; omega)]
   exact ⟨_, rfl, up (((fc.app ((f32.app fi).app f32)).app f63)) (by omega)⟩
 ·by_cases k2 : 4 ≤ x.2.2.1
  ·cases x.1
   ·simp only [cond_true, cond_false, k1, k2, decide_true, decide_false, Option.bind_some]
    rw [mx (by simp only [List.length_append, List.length_cons, List.length_nil]; omega), mx (by simp only [List.length_append, List.length_cons, List.length_nil]; omega), mx (by simp only [List.length_append, List.length_cons, List.length_nil]; omega), mx (by simp only [List.length_append, List.length_cons, List.length_nil]; omega)]
    exact ⟨_, rfl, up (((fs.app ((f32.app fi).app f32)).app f63)) (by omega)⟩
   ·simp only [cond_true, cond_false, k1, k2, decide_true, decide_false, Option.bind_some]
    rw [mx (by simp only [List.length_append, List.length_cons, List.length_nil]; omega), mx (by simp only [List.length_append, List.length_cons, List.length_nil]; omega), mx (by simp only [List.length_append, List.length_cons, List.length_nil]; omega), mx (by simp only [List.length_append, List.length_cons, List.length_nil]; omega)]
    exact ⟨_, rfl, up (((fc.app ((f32.app fi).app f32)).app f63)) (by omega)⟩
  ·obtain ⟨v, hv, fv⟩ : ∃ v, getI ([([63] : List UInt8), ([98, 111, 117, 110, 100] : List UInt8), ([99, 108, 111, 115, 101, 100] : List UInt8), ([100, 97, 116, 97] : List UInt8)] : List (List UInt8)) x.2.2.1 = some v ∧ Fine 6 v := by
    obtain ⟨i, hi⟩ := Int.eq_ofNat_of_zero_le (show 0 ≤ x.2.2.1 by omega)
    have hi' : i < 4 := by omega
    rw [hi]
    exact ⟨_, getI_lt ([([63] : List UInt8), ([98, 111, 117, 110, 100] : List UInt8), ([99, 108, 111, 115, 101, 100] : List UInt8), ([100, 97, 116, 97] : List UInt8)] : List (List UInt8)) i hi', fnm _ (List.getElem_mem _)⟩
   have lv := fv.1
   cases x.1
   ·simp only [cond_true, cond_false, k1, k2, decide_true, decide_false, Option.bind_some, hv]
    rw [mx (by simp only [List.length_append, List.length_cons, List.length_nil]; omega), mx (by simp only [List.length_append, List.length_cons, List.length_nil]; omega), mx (by simp only [List.length_append, List.length_cons, List.length_nil]; omega), mx (by simp only [List.length_append, List.length_cons, List.length_nil]; omega)]
    by_cases k3 : x.2.2.1 = 3
    ·simp only [cond_true, k3, decide_true]
     rw [mx (by simp only [List.length_append, List.length_cons, List.length_nil]; omega), mx (by simp only [List.length_append, List.length_cons, List.length_nil]; omega)]
     exact ⟨_, rfl, up ((((fs.app ((f32.app fi).app f32)).app fv)).app (f32.app fn)) (by omega)⟩
    ·simp only [cond_true, cond_false, k3, decide_false]
     exact ⟨_, rfl, up (((fs.app ((f32.app fi).app f32)).app fv)) (by omega)⟩
   ·simp only [cond_true, cond_false, k1, k2, decide_true, decide_false, Option.bind_some, hv]
    rw [mx (by simp only [List.length_append, List.length_cons, List.length_nil]; omega), mx (by simp only [List.length_append, List.length_cons, List.length_nil]; omega), mx (by simp only [List.length_append, List.length_cons, List.length_nil]; omega), mx (by simp only [List.length_append, List.length_cons, List.length_nil]; omega)]
    by_cases k3 : x.2.2.1 = 3
    ·simp only [cond_true, k3, decide_true]
     rw [mx (by simp only [List.length_append, List.length_cons, List.length_nil]; omega), mx (by simp only [List.length_append, List.length_cons, List.length_nil]; omega)]
     exact ⟨_, rfl, up ((((fc.app ((f32.app fi).app f32)).app fv)).app (f32.app fn)) (by omega)⟩
    ·simp only [cond_true, cond_false, k3, decide_false]
     exact ⟨_, rfl, up (((fc.app ((f32.app fi).app f32)).app fv)) (by omega)⟩
def NoW (x : NoT) : Prop := (-9223372036854775808 ≤ x.2.1 ∧ x.2.1 ≤ 9223372036854775807) ∧ x.2.2.2.length ≤ 1000
noncomputable def lineV (x : NoT) : List UInt8 := (Ln.script_line 200000 x).getD []
theorem lineV_ok (x : NoT) (h : NoW x) : Ln.script_line 200000 x = some (lineV x) ∧ Fine 100 (lineV x) := by
 obtain ⟨t, ht, hf⟩ := line_ok x h.1.1 h.1.2 h.2
 have : lineV x = t := by unfold lineV; rw [ht]; rfl
 rw [this]
 exact ⟨ht, hf⟩
noncomputable def txtV (l : List NoT) : List UInt8 := l.flatMap fun x => lineV x ++ [10]
theorem txt_run : ∀ (l : List NoT) (acc : List UInt8), (∀ x ∈ l, NoW x) → acc.length + 200 * l.length ≤ 1000000 → txtR (Ln.script_line 200000) l acc = some (acc ++ txtV l)
 | [], acc, _, _ => by simp [txtR, txtV]
 | x :: l, acc, hw, hb => by
  obtain ⟨h1, h2⟩ := lineV_ok x (hw x (by simp))
  have := h2.1
  simp only [List.length_cons] at hb
  unfold txtR
  rw [h1]
  simp only []
  rw [if_pos (by omega), txt_run l _ (fun y hy => hw y (by simp [hy])) (by simp only [List.length_append, List.length_singleton]; omega)]
  simp [txtV]
theorem text_ok (l : List NoT) (hw : ∀ x ∈ l, NoW x) (hl : l.length ≤ 1000) : script_TextF 200000 l = some (txtV l) := by
 unfold script_TextF
 rw [if_pos (by omega), txt_run l [] hw (by simp only [List.length_nil]; omega)]
 rfl
theorem cnt_fine {n : Nat} {t : List UInt8} (h : Fine n t) : t.countP (fun b => decide (b = 10)) = 0 := List.countP_eq_zero.2 fun b hb => by simpa using h.2 b hb
theorem cnt_txt : ∀ l : List NoT, (∀ x ∈ l, NoW x) → (txtV l).countP (fun b => decide (b = 10)) = l.length ∧ (txtV l).length ≤ 200 * l.length
 | [], _ => ⟨rfl, by simp [txtV]⟩
 | x :: l, hw => by
  have h := (lineV_ok x (hw x (by simp))).2
  have hl := h.1
  have ih := cnt_txt l fun y hy => hw y (by simp [hy])
  simp only [txtV] at ih
  simp only [txtV, List.flatMap_cons, List.countP_append, List.length_append, List.length_cons, List.length_nil, cnt_fine h, ih.1]
  refine ⟨?_, by omega⟩
  rw [show List.countP (fun b => decide (b = (10 : UInt8))) [10] = 1 by decide]
  omega
theorem txt_app (a b : List NoT) : txtV (a ++ b) = txtV a ++ txtV b := by simp [txtV]
theorem b10 (b : UInt8) : decide (((b.toNat : Nat) : Int) = (10 : Int)) = decide (b = 10) := by
 by_cases h : b = 10
 ·subst h; rfl
 ·have : ¬ ((b.toNat : Nat) : Int) = 10 := fun e => h (UInt8.toNat_inj.1 (by show b.toNat = 10; omega))
  rw [decide_eq_false h, decide_eq_false this]
theorem count_loop (k : List NoT) (i : Int) (s : List UInt8) (hs : s.length ≤ 100000) :
  law40_ScriptLines_L13_R 200000 ((k, (i, (s, ((0 : Int), ((s.length : Int), ((0 : Int), ())))))), ()) = some ((k, (i, (s, (((s.countP fun b => decide (b = 10) : Nat) : Int), ())))), ()) := by
 have h := gl_run (G := fun (X : ((List NoT × (Int × (List UInt8 × (Int × (Int × (Int × Unit)))))) × Unit) → Option ((List NoT × (Int × (List UInt8 × (Int × Unit)))) × Unit)) c => law40_ScriptLines_L13 200000 X c.1.1 c.1.2.1 c.1.2.2.1 c.1.2.2.2.1 c.1.2.2.2.2.1 c.1.2.2.2.2.2.1)
  (fun j => ((k, (i, (s, ((((s.take j).countP fun b => decide (b = 10) : Nat) : Int), ((s.length : Int), ((j : Int), ())))))), ())) s.length ((k, (i, (s, (((s.countP fun b => decide (b = 10) : Nat) : Int), ())))), ()) (fun X j hj => by
  have c : ((j : Int) < (s.length : Int)) := by omega
  have c2 : IntKind.wrap .i64 ((j : Int) + 1) = ((j + 1 : Nat) : Int) := by rw [wrap64 (by omega) (by omega)]; omega
  have hc : (s.take j).countP (fun b => decide (b = 10)) ≤ 100000 := Nat.le_trans List.countP_le_length (by rw [List.length_take]; omega)
  have e : (s.take (j + 1)).countP (fun b => decide (b = 10)) = (s.take j).countP (fun b => decide (b = 10)) + (bif decide (s[j] = 10) then 1 else 0) := by
   have : s.take (j + 1) = s.take j ++ [s[j]] := by rw [List.take_add_one, List.getElem?_eq_getElem hj]; rfl
   rw [this, List.countP_append, List.countP_singleton]
   cases decide (s[j] = 10) <;> rfl
  simp only [law40_ScriptLines_L13, c, decide_true, cond_true, getI_lt s j hj, Option.bind_some, b10]
  rw [c2, e]
  cases decide (s[j] = 10)
  ·rfl
  ·simp only [cond_true]
   rw [wrap64 (by omega) (by omega), Int.natCast_add]
   rfl) (fun X => by simp [law40_ScriptLines_L13]) 200000 0 (by omega) (by omega)
 exact h
def NoI (x : NoT) : Prop := -9223372036854775808 ≤ x.2.1 ∧ x.2.1 ≤ 9223372036854775807
theorem rb48 {n : Nat} (h : n ≤ 10000) : roomB n 48 = true := roomB_of (by have := big_len; omega) (by omega)
theorem notes_loop (ha : law40_alive 200000 = some true) (x1 : Int) (s : List NoT) (hs : s.length ≤ 40) : ∀ (r : List NoT) (i k : Nat) (h : List NoT), s.drop i = r → r.length < k → s.take i = h → (∀ x ∈ h, x.2.2.2.length ≤ 1000) →
  ∃ o, gl (fun X c => law40_ScriptLines_L3 200000 X c.1.1 c.1.2.1 c.1.2.2.1 c.1.2.2.2.1 c.2.1) k ((x1, (s, ((s.length : Int), ((i : Int), ())))), (h, ())) = some o ∧ (o = .inl ((true, ()), ()) ∨ (o = .inr ((x1, ()), (s, ())) ∧ ∀ x ∈ s, x.2.2.2.length ≤ 1000))
 | r, i, 0, h, hd, hk, _, _ => by simp at hk
 | [], i, k + 1, h, hd, _, hh, hp => by
  have hl := len_d hd
  have c : ¬ ((i : Int) < (s.length : Int)) := by omega
  have : h = s := by rw [← hh, List.take_of_length_le hl]
  subst this
  rw [gl_succ]
  simp only [law40_ScriptLines_L3, c, decide_false, cond_false]
  exact ⟨_, rfl, .inr ⟨rfl, hp⟩⟩
 | x :: r, i, k + 1, h, hd, hk, hh, hp => by
  obtain ⟨g, hd', hl⟩ := getI_d hd
  have c : ((i : Int) < (s.length : Int)) := by omega
  have c2 : IntKind.wrap .i64 ((i : Int) + 1) = ((i + 1 : Nat) : Int) := by rw [wrap64 (by omega) (by omega)]; omega
  have hx : s[i] = x := by
   have := List.drop_eq_getElem_cons hl
   rw [hd] at this
   exact (List.cons.inj this).1.symm
  have e : s.take (i + 1) = h ++ [x] := by rw [List.take_add_one, List.getElem?_eq_getElem hl, hx, hh]; rfl
  have hlen : h.length ≤ 40 := by rw [← hh, List.length_take]; omega
  rw [gl_succ]
  simp only [law40_ScriptLines_L3, c, decide_true, cond_true, g, Option.bind_some]
  by_cases h1 : (500 : Int) < (x.2.2.2.length : Int)
  ·simp only [h1, decide_true, cond_true, ha, Option.bind_some]
   exact ⟨_, rfl, .inl rfl⟩
  ·simp only [h1, decide_false, cond_false]
   rw [rb48 (by simp only [List.length_cons, List.length_nil]; omega), c2]
   simp only [cond_true]
   exact notes_loop ha x1 s hs r (i + 1) k (h ++ [x]) hd' (by simp only [List.length_cons] at hk; omega) e (fun y hy => by
    rcases List.mem_append.1 hy with hy | hy
    ·exact hp y hy
    ·simp only [List.mem_singleton] at hy
     subst hy
     omega)
theorem law_ScriptLines (ha : law40_alive 200000 = some true) (l : List NoT) (n : Int) (hw : ∀ x ∈ l, NoI x) (hn : 0 ≤ n ∧ n < 256) : law40_ScriptLines 200000 l n = some true := by
 have hm : minI ((l.length : Nat) : Int) (40 : Int) = ((min l.length 40 : Nat) : Int) := by
  unfold minI
  first | omega | (split <;> omega)
 have ht := takeI_nat l (a := minI ((l.length : Nat) : Int) (40 : Int)) (i := min l.length 40) hm (by omega)
 have hlt : (l.take (min l.length 40)).length ≤ 40 := by rw [List.length_take]; omega
 have hws : ∀ x ∈ l.take (min l.length 40), NoI x := fun x hx => hw x (List.mem_of_mem_take hx)
 unfold law40_ScriptLines
 rw [ht, Option.bind_some]
 revert hlt hws
 generalize l.take (min l.length 40) = s
 intro hlt hws
 obtain ⟨o, ho, hr⟩ := notes_loop ha n s hlt s 0 200000 [] rfl (by omega) rfl (fun x hx => by simp at hx)
 refine (congrArg (fun o => Option.bind o _) ho).trans ?_
 rcases hr with hr | ⟨hr, hall⟩
 ·rw [hr]
  rfl
 ·rw [hr]
  have hN : ∀ x ∈ s, NoW x := fun x hx => ⟨hws x hx, hall x hx⟩
  have w1 : IntKind.wrap .i64 (((s.length : Nat) : Int) + 1) = ((s.length + 1 : Nat) : Int) := by rw [wrap64 (by omega) (by omega)]; omega
  have w2 : IntKind.wrap .i64 n = n := wrap64 (by omega) (by omega)
  have c1 : ¬ ((s.length + 1 : Nat) : Int) = 0 := by omega
  obtain ⟨m, rfl⟩ := Int.eq_ofNat_of_zero_le hn.1
  have c3 : Int.tmod (m : Int) ((s.length + 1 : Nat) : Int) = ((m % (s.length + 1) : Nat) : Int) := rfl
  have hi : m % (s.length + 1) ≤ s.length := by have := Nat.mod_lt m (show 0 < s.length + 1 by omega); omega
  obtain ⟨hc, hcl⟩ := cnt_txt s hN
  simp only [Option.bind_some, Sum.elim_inr]
  rw [w1, w2, c3]
  simp only [c1, decide_false, cond_false]
  rw [text_ok s hN (by omega), Option.bind_some]
  rw [count_loop s _ (txtV s) (by omega)]
  simp only [Option.bind_some]
  rw [takeI_nat s rfl hi, Option.bind_some, dropI_nat s rfl hi]
  rw [text_ok (s.take _) (fun x hx => hN x (List.mem_of_mem_take hx)) (by rw [List.length_take]; omega), Option.bind_some, Option.bind_some]
  rw [text_ok (s.drop _) (fun x hx => hN x (List.mem_of_mem_drop hx)) (by rw [List.length_drop]; omega), Option.bind_some]
  have e : txtV (s.take (m % (s.length + 1))) ++ txtV (s.drop (m % (s.length + 1))) = txtV s := by rw [← txt_app, List.take_append_drop]
  have hle : (txtV (s.take (m % (s.length + 1)))).length + (txtV (s.drop (m % (s.length + 1)))).length ≤ 100000 := by
   rw [← List.length_append, e]; omega
  rw [mx hle, e, hc]
  simp only [decide_true, cond_true, ha, Option.bind_some]
end Go.Proofs.YtongdeioonikoaaDoor
namespace Go.Proofs.YtongdeioonikoaaDoor
set_option maxRecDepth 100000
open Go.RowKit
set_option linter.unusedVariables false
set_option maxRecDepth 100000
set_option linter.unusedSimpArgs false
theorem alive_ok : law40_alive 200000 = some true := by decide +kernel
abbrev NOD : Td := .pair .bool (.pair (.int .i64) (.pair (.int .i64) (.sl (.int .u8))))
theorem i64_of {n : Int} (h : (Lit.int .i64 n).wf = true) : -9223372036854775808 ≤ n ∧ n ≤ 9223372036854775807 := by
 simp only [Lit.wf, Bool.and_eq_true, decide_eq_true_eq, IntKind.min, IntKind.max, IntKind.signed, IntKind.bits] at h
 simp at h
 omega
theorem lw_ScriptLines (l : T (.sl NOD)) (n : T (.int .u8)) (w0 : wfT (.sl NOD) l) (w1 : wfT (.int .u8) n) : law40_ScriptLines 200000 l n = some true :=
 law_ScriptLines alive_ok l n (fun z hz => i64_of (w0.2 z hz).2.1) (wf_u8 w1)
end Go.Proofs.YtongdeioonikoaaDoor
