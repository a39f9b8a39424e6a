/-
  Parts of my own, one behind the other: GScB, GSc, QSd0, QSd1, QSd2, QSd3.
-/
import Derived.Test.YtongdeioonikoaaDoorMrg4
namespace Go.Proofs.YtongdeioonikoaaDoor
open Go.RowKit
set_option linter.unusedVariables false
set_option maxRecDepth 100000
section
variable (N : Nat)
noncomputable def ref01_Same (a0 : List (Int)) (b1 : List (Int)) : Option Bool :=
 bif (!(decide ((((List.length a0) : Nat) : Int) = (((List.length b1) : Nat) : Int)))) then
  some (false)
 else
  Option.bind (ref01_Same_L4_R N ((a0, (b1, ((0 : Int), ()))), ())) fun v3 =>
  Sum.elim
   (fun (v4 : ((Bool × Unit) × Unit)) =>
   some (v4.1.1))
   (fun (v4 : (Unit × Unit)) =>
   some (true)) v3
theorem ref01_Same_S (a0 : List (Int)) (b1 : List (Int)) : (runK Tryd.prog (Ev72 N) 400 12 [(.sl (.int .u8)), (.sl (.int .u8))] [.bool] (a0, b1, ())).run = ref01_Same N a0 b1 := by kernel_rfl
noncomputable def Ev73 : (R : Type) → Env R := Env.addFn (Ev72 N) 12 (fun R => fnK [(.sl (.int .u8)), (.sl (.int .u8))] [.bool] (fun c => ref01_Same N c.1 c.2.1))
theorem Ev73_ok (R : Type) : EnvOK Tryd.prog (Ev73 N R) := EnvOK.addFn hmx (Ev72_ok N R) (Ev72_ok N _) (by kernel_rfl) (fun c => ref01_Same_S N c.1 c.2.1)
noncomputable def octs_Same_L3_I : LI := ⟨35, 0, [], ⟨[(0, .ty (.sl (.int .u8))), (1, .ty (.sl (.int .u8))), (5, .ty (.int .i64)), (16, .ty (.int .i64)), (17, .ty (.int .i64))], []⟩, [(.exit 0, ⟨[(5, .ty (.int .i64))], []⟩)]⟩
noncomputable def octs_Same_L3 (N : Nat) (X : (((List Int) × ((List Int) × (Int × (Int × (Int × Unit))))) × Unit) → Option (((Int × Unit) × Unit))) (a0 : List (Int)) (b1 : List (Int)) (differ5 : Int) (x16 : Int) (x17 : Int) : Option (((Int × Unit) × Unit)) :=
 bif (decide (x17 < x16)) then
  Option.bind (getI a0 x17) fun (v7 : Int) =>
  Option.bind (getI b1 x17) fun (v8 : Int) =>
  (X ((a0, (b1, ((bits .or .i64 differ5 (IntKind.wrap .i64 (bits .xor .u8 v7 v8))), (x16, ((IntKind.wrap .i64 (x17 + 1)), ()))))), ()))
 else
  some (((differ5, ()), ()))
noncomputable def octs_Same_L3_R (c : (((List Int) × ((List Int) × (Int × (Int × (Int × Unit))))) × Unit)) : Option (((Int × Unit) × Unit)) := gl (fun X c => octs_Same_L3 N X c.1.1 c.1.2.1 c.1.2.2.1 c.1.2.2.2.1 c.1.2.2.2.2.1) N c
theorem octs_Same_L3_S (X : (((List Int) × ((List Int) × (Int × (Int × (Int × Unit))))) × Unit) → Option (((Int × Unit) × Unit))) (a0 : List (Int)) (b1 : List (Int)) (differ5 : Int) (x16 : Int) (x17 : Int) : (roundK Tryd.prog (Ev73 N) 400 [34] octs_Same_L3_I (loopAt Tryd.prog [34] 3) X ((a0, b1, differ5, x16, x17, ()), ())).run = octs_Same_L3 N X a0 b1 differ5 x16 x17 := by kernel_rfl
noncomputable def Ev74 : (R : Type) → Env R := Env.addLp (Ev73 N) [34] 0 3 (fun R => lpK Tryd.prog octs_Same_L3_I (fun X c => octs_Same_L3 N X c.1.1 c.1.2.1 c.1.2.2.1 c.1.2.2.2.1 c.1.2.2.2.2.1) N)
theorem Ev74_ok (R : Type) : EnvOK Tryd.prog (Ev74 N R) := EnvOK.addLp (Ev73_ok N R) (by kernel_rfl) (lpK_ok (li := octs_Same_L3_I) (G := fun X c => octs_Same_L3 N X c.1.1 c.1.2.1 c.1.2.2.1 c.1.2.2.2.1 c.1.2.2.2.2.1) hmx (Ev73_ok N _) (by kernel_rfl) loopAt_sub (fun (X : CT octs_Same_L3_I.sh → Option (OT octs_Same_L3_I.outs)) (c : CT octs_Same_L3_I.sh) => octs_Same_L3_S N X c.1.1 c.1.2.1 c.1.2.2.1 c.1.2.2.2.1 c.1.2.2.2.2.1) N)
noncomputable def octs_Same (a0 : List (Int)) (b1 : List (Int)) : Option Bool :=
 Option.bind (octs_Same_L3_R N ((a0, (b1, ((bits .xor .i64 (((List.length a0) : Nat) : Int) (((List.length b1) : Nat) : Int)), ((@minI (((List.length a0) : Nat) : Int) (((List.length b1) : Nat) : Int)), ((0 : Int), ()))))), ())) fun v3 =>
 some ((decide (v3.1.1 = (0 : Int))))
theorem octs_Same_S (a0 : List (Int)) (b1 : List (Int)) : (runK Tryd.prog (Ev74 N) 400 34 [(.sl (.int .u8)), (.sl (.int .u8))] [.bool] (a0, b1, ())).run = octs_Same N a0 b1 := by kernel_rfl
noncomputable def Ev75 : (R : Type) → Env R := Env.addFn (Ev74 N) 34 (fun R => fnK [(.sl (.int .u8)), (.sl (.int .u8))] [.bool] (fun c => octs_Same N c.1 c.2.1))
theorem Ev75_ok (R : Type) : EnvOK Tryd.prog (Ev75 N R) := EnvOK.addFn hmx (Ev74_ok N R) (Ev74_ok N _) (by kernel_rfl) (fun c => octs_Same_S N c.1 c.2.1)
noncomputable def script_isKind (N : Nat) (kind0 : Int) : Option Bool :=
 Option.bind (bif (decide ((1 : Int) ≤ kind0)) then
   some ((cond true (decide (kind0 ≤ (12 : Int))) false))
  else
   some (false)) fun (v2 : Bool) =>
 some (v2)
theorem script_isKind_S (kind0 : Int) : (runK Tryd.prog (Ev75 N) 400 28 [(.int .i64)] [.bool] (kind0, ())).run = script_isKind N kind0 := by kernel_rfl
noncomputable def Ev76 : (R : Type) → Env R := Env.addFn (Ev75 N) 28 (fun R => fnK [(.int .i64)] [.bool] (fun c => script_isKind N c.1))
theorem Ev76_ok (R : Type) : EnvOK Tryd.prog (Ev76 N R) := EnvOK.addFn hmx (Ev75_ok N R) (Ev75_ok N _) (by kernel_rfl) (fun c => script_isKind_S N c.1)
noncomputable def script_isByte (N : Nat) (n0 : Int) : Option Bool :=
 Option.bind (bif (decide ((0 : Int) ≤ n0)) then
   some ((cond true (decide (n0 ≤ (255 : Int))) false))
  else
   some (false)) fun (v2 : Bool) =>
 some (v2)
theorem script_isByte_S (n0 : Int) : (runK Tryd.prog (Ev76 N) 400 29 [(.int .i64)] [.bool] (n0, ())).run = script_isByte N n0 := by kernel_rfl
noncomputable def Ev77 : (R : Type) → Env R := Env.addFn (Ev76 N) 29 (fun R => fnK [(.int .i64)] [.bool] (fun c => script_isByte N c.1))
theorem Ev77_ok (R : Type) : EnvOK Tryd.prog (Ev77 N R) := EnvOK.addFn hmx (Ev76_ok N R) (Ev76_ok N _) (by kernel_rfl) (fun c => script_isByte_S N c.1)
noncomputable def Ev78 : (R : Type) → Env R := Env.addBx (Ev77 N) [(13, 0)]
theorem Ev78_ok (R : Type) : EnvOK Tryd.prog (Ev78 N R) := EnvOK.addBx (Ev77_ok N R) [(13, 0)]
noncomputable def script_May (x0 : Int × (Int × (Int × (Int × (Int × ((Arr Int 32) × (List UInt8 × (List UInt8 × (((Arr Int 32) × ((Arr Int 16) × Int)) × ((Arr Int 16) × (Int × (Int × (List Int))))))))))))) : Option Int :=
 Option.bind (script_isKind N x0.1) fun v2 =>
 bif (!v2) then
  some ((9 : Int))
 else
  Option.bind (script_isByte N x0.2.1) fun v3 =>
  bif (!v3) then
   some ((1 : Int))
  else
   Option.bind (script_isByte N x0.2.2.1) fun v4 =>
   Option.bind (some ((cond false true (!v4)))) fun (v5 : Bool) =>
   bif v5 then
    some ((1 : Int))
   else
    Option.bind (script_isByte N x0.2.2.2.1) fun v6 =>
    Option.bind (some ((cond false true (!v6)))) fun (v7 : Bool) =>
    Option.bind (bif v7 then
      some (true)
     else
      some ((cond false true (decide (x0.2.2.2.2.1 < (0 : Int)))))) fun (v8 : Bool) =>
    Option.bind (bif v8 then
      some (true)
     else
      some ((cond false true (decide ((2147483647 : Int) < x0.2.2.2.2.1))))) fun (v9 : Bool) =>
    bif v9 then
     some ((1 : Int))
    else
     bif (decide ((64 : Int) < (((List.length x0.2.2.2.2.2.2.1) : Nat) : Int))) then
      some ((8 : Int))
     else
      Option.bind (some ((cond false true (decide ((256 : Int) < (((List.length x0.2.2.2.2.2.2.2.1) : Nat) : Int)))))) fun (v10 : Bool) =>
      bif v10 then
       some ((8 : Int))
      else
       Option.bind (some ((cond false true (decide ((2000 : Int) < (((List.length x0.2.2.2.2.2.2.2.2.2.2.2.2) : Nat) : Int)))))) fun (v11 : Bool) =>
       bif v11 then
        some ((8 : Int))
       else
        some ((0 : Int))
theorem script_May_S (x0 : Int × (Int × (Int × (Int × (Int × ((Arr Int 32) × (List UInt8 × (List UInt8 × (((Arr Int 32) × ((Arr Int 16) × Int)) × ((Arr Int 16) × (Int × (Int × (List Int))))))))))))) : (runK Tryd.prog (Ev78 N) 400 13 [(.pair (.int .i64) (.pair (.int .i64) (.pair (.int .i64) (.pair (.int .i64) (.pair (.int .i64) (.pair (.arr 32 (.int .u8)) (.pair .str (.pair .str (.pair (.pair (.arr 32 (.int .u8)) (.pair (.arr 16 (.int .u8)) (.int .u32))) (.pair (.arr 16 (.int .u8)) (.pair (.int .u32) (.pair (.int .u32) (.sl (.int .u8))))))))))))))] [(.int .i64)] (x0, ())).run = script_May N x0 := by kernel_rfl
noncomputable def Ev79 : (R : Type) → Env R := Env.addFn (Ev78 N) 13 (fun R => fnK [(.pair (.int .i64) (.pair (.int .i64) (.pair (.int .i64) (.pair (.int .i64) (.pair (.int .i64) (.pair (.arr 32 (.int .u8)) (.pair .str (.pair .str (.pair (.pair (.arr 32 (.int .u8)) (.pair (.arr 16 (.int .u8)) (.int .u32))) (.pair (.arr 16 (.int .u8)) (.pair (.int .u32) (.pair (.int .u32) (.sl (.int .u8))))))))))))))] [(.int .i64)] (fun c => script_May N c.1))
theorem Ev79_ok (R : Type) : EnvOK Tryd.prog (Ev79 N R) := EnvOK.addFn hmx (Ev78_ok N R) (Ev78_ok N _) (by kernel_rfl) (fun c => script_May_S N c.1)
noncomputable def script_number (n0 : Int) (width1 : Int) : Option (List Int) :=
 Option.bind (octs_Put N n0 width1 false) fun v3 =>
 some (v3.1)
theorem script_number_S (n0 : Int) (width1 : Int) : (runK Tryd.prog (Ev79 N) 400 24 [(.int .u64), (.int .i64)] [(.sl (.int .u8))] (n0, width1, ())).run = script_number N n0 width1 := by kernel_rfl
noncomputable def Ev80 : (R : Type) → Env R := Env.addFn (Ev79 N) 24 (fun R => fnK [(.int .u64), (.int .i64)] [(.sl (.int .u8))] (fun c => script_number N c.1 c.2.1))
theorem Ev80_ok (R : Type) : EnvOK Tryd.prog (Ev80 N R) := EnvOK.addFn hmx (Ev79_ok N R) (Ev79_ok N _) (by kernel_rfl) (fun c => script_number_S N c.1 c.2.1)
noncomputable def script_long_1_octs_Join_L3_I : LI := ⟨33, 0, [], ⟨[(0, .ty (.sl (.sl (.int .u8)))), (3, .ty (.int .i64)), (9, .ty (.sl (.sl (.int .u8)))), (10, .ty (.int .i64)), (11, .ty (.int .i64))], []⟩, [(.exit 0, ⟨[(0, .ty (.sl (.sl (.int .u8)))), (3, .ty (.int .i64))], []⟩)]⟩
noncomputable def script_long_1_octs_Join_L3 (N : Nat) (X : (((List (List Int)) × (Int × ((List (List Int)) × (Int × (Int × Unit))))) × Unit) → Option ((((List (List Int)) × (Int × Unit)) × Unit))) (parts0 : List (List Int)) (size3 : Int) (x9 : List (List Int)) (x10 : Int) (x11 : Int) : Option ((((List (List Int)) × (Int × Unit)) × Unit)) :=
 bif (decide (x11 < x10)) then
  Option.bind (getI x9 x11) fun (v7 : (List Int)) =>
  (X ((parts0, ((IntKind.wrap .i64 (size3 + (((List.length v7) : Nat) : Int))), (x9, (x10, ((IntKind.wrap .i64 (x11 + 1)), ()))))), ()))
 else
  some (((parts0, (size3, ())), ()))
noncomputable def script_long_1_octs_Join_L3_R (c : (((List (List Int)) × (Int × ((List (List Int)) × (Int × (Int × Unit))))) × Unit)) : Option ((((List (List Int)) × (Int × Unit)) × Unit)) := gl (fun X c => script_long_1_octs_Join_L3 N X c.1.1 c.1.2.1 c.1.2.2.1 c.1.2.2.2.1 c.1.2.2.2.2.1) N c
theorem script_long_1_octs_Join_L3_S (X : (((List (List Int)) × (Int × ((List (List Int)) × (Int × (Int × Unit))))) × Unit) → Option ((((List (List Int)) × (Int × Unit)) × Unit))) (parts0 : List (List Int)) (size3 : Int) (x9 : List (List Int)) (x10 : Int) (x11 : Int) : (roundK Tryd.prog (Ev80 N) 400 [23, 1, 43] script_long_1_octs_Join_L3_I (loopAt Tryd.prog [23, 1, 43] 3) X ((parts0, size3, x9, x10, x11, ()), ())).run = script_long_1_octs_Join_L3 N X parts0 size3 x9 x10 x11 := by kernel_rfl
noncomputable def Ev81 : (R : Type) → Env R := Env.addLp (Ev80 N) [23, 1, 43] 0 3 (fun R => lpK Tryd.prog script_long_1_octs_Join_L3_I (fun X c => script_long_1_octs_Join_L3 N X c.1.1 c.1.2.1 c.1.2.2.1 c.1.2.2.2.1 c.1.2.2.2.2.1) N)
theorem Ev81_ok (R : Type) : EnvOK Tryd.prog (Ev81 N R) := EnvOK.addLp (Ev80_ok N R) (by kernel_rfl) (lpK_ok (li := script_long_1_octs_Join_L3_I) (G := fun X c => script_long_1_octs_Join_L3 N X c.1.1 c.1.2.1 c.1.2.2.1 c.1.2.2.2.1 c.1.2.2.2.2.1) hmx (Ev80_ok N _) (by kernel_rfl) loopAt_sub (fun (X : CT script_long_1_octs_Join_L3_I.sh → Option (OT script_long_1_octs_Join_L3_I.outs)) (c : CT script_long_1_octs_Join_L3_I.sh) => script_long_1_octs_Join_L3_S N X c.1.1 c.1.2.1 c.1.2.2.1 c.1.2.2.2.1 c.1.2.2.2.2.1) N)
noncomputable def script_long_1_octs_Join_L9_I : LI := ⟨33, 0, [], ⟨[(6, .lit (.own 0)), (22, .ty (.sl (.sl (.int .u8)))), (23, .ty (.int .i64)), (24, .ty (.int .i64))], [.own (.int .u8) 5]⟩, [(.exit 2, ⟨[(6, .lit (.own 0))], [.own (.int .u8) 5]⟩)]⟩
noncomputable def script_long_1_octs_Join_L9 (N : Nat) (X : (((List (List Int)) × (Int × (Int × Unit))) × ((List Int) × Unit)) → Option ((Unit × ((List Int) × Unit)))) (x22 : List (List Int)) (x23 : Int) (x24 : Int) (h0 : List (Int)) : Option ((Unit × ((List Int) × Unit))) :=
 bif (decide (x24 < x23)) then
  Option.bind (getI x22 x24) fun (v6 : (List Int)) =>
  bif (roomB ((List.length h0) + (List.length v6)) 1) then
   (X ((x22, (x23, ((IntKind.wrap .i64 (x24 + 1)), ()))), ((h0 ++ v6), ())))
  else
   none
 else
  some (((), (h0, ())))
noncomputable def script_long_1_octs_Join_L9_R (c : (((List (List Int)) × (Int × (Int × Unit))) × ((List Int) × Unit))) : Option ((Unit × ((List Int) × Unit))) := gl (fun X c => script_long_1_octs_Join_L9 N X c.1.1 c.1.2.1 c.1.2.2.1 c.2.1) N c
theorem script_long_1_octs_Join_L9_S (X : (((List (List Int)) × (Int × (Int × Unit))) × ((List Int) × Unit)) → Option ((Unit × ((List Int) × Unit)))) (x22 : List (List Int)) (x23 : Int) (x24 : Int) (h0 : List (Int)) : (roundK Tryd.prog (Ev81 N) 400 [23, 1, 43] script_long_1_octs_Join_L9_I (loopAt Tryd.prog [23, 1, 43] 9) X ((x22, x23, x24, ()), (h0, ()))).run = script_long_1_octs_Join_L9 N X x22 x23 x24 h0 := by kernel_rfl
noncomputable def Ev82 : (R : Type) → Env R := Env.addLp (Ev81 N) [23, 1, 43] 0 9 (fun R => lpK Tryd.prog script_long_1_octs_Join_L9_I (fun X c => script_long_1_octs_Join_L9 N X c.1.1 c.1.2.1 c.1.2.2.1 c.2.1) N)
theorem Ev82_ok (R : Type) : EnvOK Tryd.prog (Ev82 N R) := EnvOK.addLp (Ev81_ok N R) (by kernel_rfl) (lpK_ok (li := script_long_1_octs_Join_L9_I) (G := fun X c => script_long_1_octs_Join_L9 N X c.1.1 c.1.2.1 c.1.2.2.1 c.2.1) hmx (Ev81_ok N _) (by kernel_rfl) loopAt_sub (fun (X : CT script_long_1_octs_Join_L9_I.sh → Option (OT script_long_1_octs_Join_L9_I.outs)) (c : CT script_long_1_octs_Join_L9_I.sh) => script_long_1_octs_Join_L9_S N X c.1.1 c.1.2.1 c.1.2.2.1 c.2.1) N)
noncomputable def script_long (b0 : List (Int)) : Option (List Int) :=
 Option.bind (script_number N (IntKind.wrap .u64 (((List.length b0) : Nat) : Int)) (2 : Int)) fun v2 =>
 Option.bind (script_long_1_octs_Join_L3_R N ((([v2, b0] : List ((List Int))), ((0 : Int), (([v2, b0] : List ((List Int))), ((((List.length ([v2, b0] : List ((List Int)))) : Nat) : Int), ((0 : Int), ()))))), ())) fun v3 =>
 bif ((decide ((0 : Int) ≤ (0 : Int) ∧ (0 : Int) ≤ v3.1.2.1)) && (roomB (Int.toNat v3.1.2.1) 1)) then
  Option.bind (script_long_1_octs_Join_L9_R N ((v3.1.1, ((((List.length v3.1.1) : Nat) : Int), ((0 : Int), ()))), ((@List.replicate Int (Int.toNat (0 : Int)) (0 : Int)), ()))) fun v4 =>
  some (v4.2.1)
 else
  none
theorem script_long_S (b0 : List (Int)) : (runK Tryd.prog (Ev82 N) 400 43 [(.sl (.int .u8))] [(.sl (.int .u8))] (b0, ())).run = script_long N b0 := by kernel_rfl
noncomputable def Ev83 : (R : Type) → Env R := Env.addFn (Ev82 N) 43 (fun R => fnK [(.sl (.int .u8))] [(.sl (.int .u8))] (fun c => script_long N c.1))
theorem Ev83_ok (R : Type) : EnvOK Tryd.prog (Ev83 N R) := EnvOK.addFn hmx (Ev82_ok N R) (Ev82_ok N _) (by kernel_rfl) (fun c => script_long_S N c.1)
noncomputable def Ev84 : (R : Type) → Env R := Env.addBx (Ev83 N) [(25, 0)]
theorem Ev84_ok (R : Type) : EnvOK Tryd.prog (Ev84 N R) := EnvOK.addBx (Ev83_ok N R) [(25, 0)]
noncomputable def script_event_1_octs_Join_L3_I : LI := ⟨33, 0, [], ⟨[(0, .ty (.sl (.sl (.int .u8)))), (3, .ty (.int .i64)), (9, .ty (.sl (.sl (.int .u8)))), (10, .ty (.int .i64)), (11, .ty (.int .i64))], []⟩, [(.exit 0, ⟨[(0, .ty (.sl (.sl (.int .u8)))), (3, .ty (.int .i64))], []⟩)]⟩
noncomputable def script_event_1_octs_Join_L3 (N : Nat) (X : (((List (List Int)) × (Int × ((List (List Int)) × (Int × (Int × Unit))))) × Unit) → Option ((((List (List Int)) × (Int × Unit)) × Unit))) (parts0 : List (List Int)) (size3 : Int) (x9 : List (List Int)) (x10 : Int) (x11 : Int) : Option ((((List (List Int)) × (Int × Unit)) × Unit)) :=
 bif (decide (x11 < x10)) then
  Option.bind (getI x9 x11) fun (v7 : (List Int)) =>
  (X ((parts0, ((IntKind.wrap .i64 (size3 + (((List.length v7) : Nat) : Int))), (x9, (x10, ((IntKind.wrap .i64 (x11 + 1)), ()))))), ()))
 else
  some (((parts0, (size3, ())), ()))
noncomputable def script_event_1_octs_Join_L3_R (c : (((List (List Int)) × (Int × ((List (List Int)) × (Int × (Int × Unit))))) × Unit)) : Option ((((List (List Int)) × (Int × Unit)) × Unit)) := gl (fun X c => script_event_1_octs_Join_L3 N X c.1.1 c.1.2.1 c.1.2.2.1 c.1.2.2.2.1 c.1.2.2.2.2.1) N c
theorem script_event_1_octs_Join_L3_S (X : (((List (List Int)) × (Int × ((List (List Int)) × (Int × (Int × Unit))))) × Unit) → Option ((((List (List Int)) × (Int × Unit)) × Unit))) (parts0 : List (List Int)) (size3 : Int) (x9 : List (List Int)) (x10 : Int) (x11 : Int) : (roundK Tryd.prog (Ev84 N) 400 [23, 1, 25] script_event_1_octs_Join_L3_I (loopAt Tryd.prog [23, 1, 25] 3) X ((parts0, size3, x9, x10, x11, ()), ())).run = script_event_1_octs_Join_L3 N X parts0 size3 x9 x10 x11 := by kernel_rfl
noncomputable def Ev85 : (R : Type) → Env R := Env.addLp (Ev84 N) [23, 1, 25] 0 3 (fun R => lpK Tryd.prog script_event_1_octs_Join_L3_I (fun X c => script_event_1_octs_Join_L3 N X c.1.1 c.1.2.1 c.1.2.2.1 c.1.2.2.2.1 c.1.2.2.2.2.1) N)
theorem Ev85_ok (R : Type) : EnvOK Tryd.prog (Ev85 N R) := EnvOK.addLp (Ev84_ok N R) (by kernel_rfl) (lpK_ok (li := script_event_1_octs_Join_L3_I) (G := fun X c => script_event_1_octs_Join_L3 N X c.1.1 c.1.2.1 c.1.2.2.1 c.1.2.2.2.1 c.1.2.2.2.2.1) hmx (Ev84_ok N _) (by kernel_rfl) loopAt_sub (fun (X : CT script_event_1_octs_Join_L3_I.sh → Option (OT script_event_1_octs_Join_L3_I.outs)) (c : CT script_event_1_octs_Join_L3_I.sh) => script_event_1_octs_Join_L3_S N X c.1.1 c.1.2.1 c.1.2.2.1 c.1.2.2.2.1 c.1.2.2.2.2.1) N)
noncomputable def script_event_1_octs_Join_L9_I : LI := ⟨33, 0, [], ⟨[(6, .lit (.own 0)), (22, .ty (.sl (.sl (.int .u8)))), (23, .ty (.int .i64)), (24, .ty (.int .i64))], [.own (.int .u8) 5]⟩, [(.exit 2, ⟨[(6, .lit (.own 0))], [.own (.int .u8) 5]⟩)]⟩
noncomputable def script_event_1_octs_Join_L9 (N : Nat) (X : (((List (List Int)) × (Int × (Int × Unit))) × ((List Int) × Unit)) → Option ((Unit × ((List Int) × Unit)))) (x22 : List (List Int)) (x23 : Int) (x24 : Int) (h0 : List (Int)) : Option ((Unit × ((List Int) × Unit))) :=
 bif (decide (x24 < x23)) then
  Option.bind (getI x22 x24) fun (v6 : (List Int)) =>
  bif (roomB ((List.length h0) + (List.length v6)) 1) then
   (X ((x22, (x23, ((IntKind.wrap .i64 (x24 + 1)), ()))), ((h0 ++ v6), ())))
  else
   none
 else
  some (((), (h0, ())))
noncomputable def script_event_1_octs_Join_L9_R (c : (((List (List Int)) × (Int × (Int × Unit))) × ((List Int) × Unit))) : Option ((Unit × ((List Int) × Unit))) := gl (fun X c => script_event_1_octs_Join_L9 N X c.1.1 c.1.2.1 c.1.2.2.1 c.2.1) N c
theorem script_event_1_octs_Join_L9_S (X : (((List (List Int)) × (Int × (Int × Unit))) × ((List Int) × Unit)) → Option ((Unit × ((List Int) × Unit)))) (x22 : List (List Int)) (x23 : Int) (x24 : Int) (h0 : List (Int)) : (roundK Tryd.prog (Ev85 N) 400 [23, 1, 25] script_event_1_octs_Join_L9_I (loopAt Tryd.prog [23, 1, 25] 9) X ((x22, x23, x24, ()), (h0, ()))).run = script_event_1_octs_Join_L9 N X x22 x23 x24 h0 := by kernel_rfl
noncomputable def Ev86 : (R : Type) → Env R := Env.addLp (Ev85 N) [23, 1, 25] 0 9 (fun R => lpK Tryd.prog script_event_1_octs_Join_L9_I (fun X c => script_event_1_octs_Join_L9 N X c.1.1 c.1.2.1 c.1.2.2.1 c.2.1) N)
theorem Ev86_ok (R : Type) : EnvOK Tryd.prog (Ev86 N R) := EnvOK.addLp (Ev85_ok N R) (by kernel_rfl) (lpK_ok (li := script_event_1_octs_Join_L9_I) (G := fun X c => script_event_1_octs_Join_L9 N X c.1.1 c.1.2.1 c.1.2.2.1 c.2.1) hmx (Ev85_ok N _) (by kernel_rfl) loopAt_sub (fun (X : CT script_event_1_octs_Join_L9_I.sh → Option (OT script_event_1_octs_Join_L9_I.outs)) (c : CT script_event_1_octs_Join_L9_I.sh) => script_event_1_octs_Join_L9_S N X c.1.1 c.1.2.1 c.1.2.2.1 c.2.1) N)
noncomputable def script_event (x0 : Int × (Int × (Int × (Int × (Int × ((Arr Int 32) × (List UInt8 × (List UInt8 × (((Arr Int 32) × ((Arr Int 16) × Int)) × ((Arr Int 16) × (Int × (Int × (List Int))))))))))))) : Option (List Int) :=
 Option.bind (script_number N (IntKind.wrap .u64 x0.2.2.2.2.1) (4 : Int)) fun v2 =>
 Option.bind (script_number N (IntKind.wrap .u64 x0.2.2.2.2.2.2.2.2.1.2.2) (4 : Int)) fun v3 =>
 Option.bind (script_number N (IntKind.wrap .u64 x0.2.2.2.2.2.2.2.2.2.2.1) (4 : Int)) fun v4 =>
 Option.bind (script_number N (IntKind.wrap .u64 x0.2.2.2.2.2.2.2.2.2.2.2.1) (4 : Int)) fun v5 =>
 bif (roomB (List.length x0.2.2.2.2.2.2.1) 1) then
  Option.bind (script_long N (@ofB x0.2.2.2.2.2.2.1)) fun v6 =>
  bif (roomB (List.length x0.2.2.2.2.2.2.2.1) 1) then
   Option.bind (script_long N (@ofB x0.2.2.2.2.2.2.2.1)) fun v7 =>
   Option.bind (script_long N x0.2.2.2.2.2.2.2.2.2.2.2.2) fun v8 =>
   Option.bind (script_event_1_octs_Join_L3_R N ((([([(IntKind.wrap .u8 x0.1), (IntKind.wrap .u8 x0.2.1), (IntKind.wrap .u8 x0.2.2.1), (IntKind.wrap .u8 x0.2.2.2.1)] : List (Int)), v2, x0.2.2.2.2.2.1.l, x0.2.2.2.2.2.2.2.2.1.1.l, x0.2.2.2.2.2.2.2.2.1.2.1.l, v3, x0.2.2.2.2.2.2.2.2.2.1.l, v4, v5, v6, v7, v8] : List ((List Int))), ((0 : Int), (([([(IntKind.wrap .u8 x0.1), (IntKind.wrap .u8 x0.2.1), (IntKind.wrap .u8 x0.2.2.1), (IntKind.wrap .u8 x0.2.2.2.1)] : List (Int)), v2, x0.2.2.2.2.2.1.l, x0.2.2.2.2.2.2.2.2.1.1.l, x0.2.2.2.2.2.2.2.2.1.2.1.l, v3, x0.2.2.2.2.2.2.2.2.2.1.l, v4, v5, v6, v7, v8] : List ((List Int))), ((((List.length ([([(IntKind.wrap .u8 x0.1), (IntKind.wrap .u8 x0.2.1), (IntKind.wrap .u8 x0.2.2.1), (IntKind.wrap .u8 x0.2.2.2.1)] : List (Int)), v2, x0.2.2.2.2.2.1.l, x0.2.2.2.2.2.2.2.2.1.1.l, x0.2.2.2.2.2.2.2.2.1.2.1.l, v3, x0.2.2.2.2.2.2.2.2.2.1.l, v4, v5, v6, v7, v8] : List ((List Int)))) : Nat) : Int), ((0 : Int), ()))))), ())) fun v9 =>
   bif ((decide ((0 : Int) ≤ (0 : Int) ∧ (0 : Int) ≤ v9.1.2.1)) && (roomB (Int.toNat v9.1.2.1) 1)) then
    Option.bind (script_event_1_octs_Join_L9_R N ((v9.1.1, ((((List.length v9.1.1) : Nat) : Int), ((0 : Int), ()))), ((@List.replicate Int (Int.toNat (0 : Int)) (0 : Int)), ()))) fun v10 =>
    some (v10.2.1)
   else
    none
  else
   none
 else
  none
theorem script_event_S (x0 : Int × (Int × (Int × (Int × (Int × ((Arr Int 32) × (List UInt8 × (List UInt8 × (((Arr Int 32) × ((Arr Int 16) × Int)) × ((Arr Int 16) × (Int × (Int × (List Int))))))))))))) : (runK Tryd.prog (Ev86 N) 400 25 [(.pair (.int .i64) (.pair (.int .i64) (.pair (.int .i64) (.pair (.int .i64) (.pair (.int .i64) (.pair (.arr 32 (.int .u8)) (.pair .str (.pair .str (.pair (.pair (.arr 32 (.int .u8)) (.pair (.arr 16 (.int .u8)) (.int .u32))) (.pair (.arr 16 (.int .u8)) (.pair (.int .u32) (.pair (.int .u32) (.sl (.int .u8))))))))))))))] [(.sl (.int .u8))] (x0, ())).run = script_event N x0 := by kernel_rfl
noncomputable def Ev87 : (R : Type) → Env R := Env.addFn (Ev86 N) 25 (fun R => fnK [(.pair (.int .i64) (.pair (.int .i64) (.pair (.int .i64) (.pair (.int .i64) (.pair (.int .i64) (.pair (.arr 32 (.int .u8)) (.pair .str (.pair .str (.pair (.pair (.arr 32 (.int .u8)) (.pair (.arr 16 (.int .u8)) (.int .u32))) (.pair (.arr 16 (.int .u8)) (.pair (.int .u32) (.pair (.int .u32) (.sl (.int .u8))))))))))))))] [(.sl (.int .u8))] (fun c => script_event N c.1))
theorem Ev87_ok (R : Type) : EnvOK Tryd.prog (Ev87 N R) := EnvOK.addFn hmx (Ev86_ok N R) (Ev86_ok N _) (by kernel_rfl) (fun c => script_event_S N c.1)
noncomputable def script_seal (b0 : List (Int)) : Option (List Int) :=
 Option.bind (sha256_Of N ([b0] : List ((List Int)))) fun v2 =>
 Option.bind (takeI v2.l (8 : Int)) fun (v3 : (List Int)) =>
 some (v3)
theorem script_seal_S (b0 : List (Int)) : (runK Tryd.prog (Ev87 N) 400 26 [(.sl (.int .u8))] [(.sl (.int .u8))] (b0, ())).run = script_seal N b0 := by kernel_rfl
noncomputable def Ev88 : (R : Type) → Env R := Env.addFn (Ev87 N) 26 (fun R => fnK [(.sl (.int .u8))] [(.sl (.int .u8))] (fun c => script_seal N c.1))
theorem Ev88_ok (R : Type) : EnvOK Tryd.prog (Ev88 N R) := EnvOK.addFn hmx (Ev87_ok N R) (Ev87_ok N _) (by kernel_rfl) (fun c => script_seal_S N c.1)
noncomputable def Ev89 : (R : Type) → Env R := Env.addMv (Ev88 N) [(9, 12)]
theorem Ev89_ok (R : Type) : EnvOK Tryd.prog (Ev89 N R) := EnvOK.addMv (Ev88_ok N R) [(9, 12)]
noncomputable def Ev90 : (R : Type) → Env R := Env.addBx (Ev89 N) [(9, 12)]
theorem Ev90_ok (R : Type) : EnvOK Tryd.prog (Ev90 N R) := EnvOK.addBx (Ev89_ok N R) [(9, 12)]
noncomputable def script_Lay_3_octs_Join_L3_I : LI := ⟨33, 0, [], ⟨[(0, .ty (.sl (.sl (.int .u8)))), (3, .ty (.int .i64)), (9, .ty (.sl (.sl (.int .u8)))), (10, .ty (.int .i64)), (11, .ty (.int .i64))], []⟩, [(.exit 0, ⟨[(0, .ty (.sl (.sl (.int .u8)))), (3, .ty (.int .i64))], []⟩)]⟩
noncomputable def script_Lay_3_octs_Join_L3 (N : Nat) (X : (((List (List Int)) × (Int × ((List (List Int)) × (Int × (Int × Unit))))) × Unit) → Option ((((List (List Int)) × (Int × Unit)) × Unit))) (parts0 : List (List Int)) (size3 : Int) (x9 : List (List Int)) (x10 : Int) (x11 : Int) : Option ((((List (List Int)) × (Int × Unit)) × Unit)) :=
 bif (decide (x11 < x10)) then
  Option.bind (getI x9 x11) fun (v7 : (List Int)) =>
  (X ((parts0, ((IntKind.wrap .i64 (size3 + (((List.length v7) : Nat) : Int))), (x9, (x10, ((IntKind.wrap .i64 (x11 + 1)), ()))))), ()))
 else
  some (((parts0, (size3, ())), ()))
noncomputable def script_Lay_3_octs_Join_L3_R (c : (((List (List Int)) × (Int × ((List (List Int)) × (Int × (Int × Unit))))) × Unit)) : Option ((((List (List Int)) × (Int × Unit)) × Unit)) := gl (fun X c => script_Lay_3_octs_Join_L3 N X c.1.1 c.1.2.1 c.1.2.2.1 c.1.2.2.2.1 c.1.2.2.2.2.1) N c
theorem script_Lay_3_octs_Join_L3_S (X : (((List (List Int)) × (Int × ((List (List Int)) × (Int × (Int × Unit))))) × Unit) → Option ((((List (List Int)) × (Int × Unit)) × Unit))) (parts0 : List (List Int)) (size3 : Int) (x9 : List (List Int)) (x10 : Int) (x11 : Int) : (roundK Tryd.prog (Ev90 N) 400 [23, 3, 9] script_Lay_3_octs_Join_L3_I (loopAt Tryd.prog [23, 3, 9] 3) X ((parts0, size3, x9, x10, x11, ()), ())).run = script_Lay_3_octs_Join_L3 N X parts0 size3 x9 x10 x11 := by kernel_rfl
noncomputable def Ev91 : (R : Type) → Env R := Env.addLp (Ev90 N) [23, 3, 9] 0 3 (fun R => lpK Tryd.prog script_Lay_3_octs_Join_L3_I (fun X c => script_Lay_3_octs_Join_L3 N X c.1.1 c.1.2.1 c.1.2.2.1 c.1.2.2.2.1 c.1.2.2.2.2.1) N)
theorem Ev91_ok (R : Type) : EnvOK Tryd.prog (Ev91 N R) := EnvOK.addLp (Ev90_ok N R) (by kernel_rfl) (lpK_ok (li := script_Lay_3_octs_Join_L3_I) (G := fun X c => script_Lay_3_octs_Join_L3 N X c.1.1 c.1.2.1 c.1.2.2.1 c.1.2.2.2.1 c.1.2.2.2.2.1) hmx (Ev90_ok N _) (by kernel_rfl) loopAt_sub (fun (X : CT script_Lay_3_octs_Join_L3_I.sh → Option (OT script_Lay_3_octs_Join_L3_I.outs)) (c : CT script_Lay_3_octs_Join_L3_I.sh) => script_Lay_3_octs_Join_L3_S N X c.1.1 c.1.2.1 c.1.2.2.1 c.1.2.2.2.1 c.1.2.2.2.2.1) N)
noncomputable def script_Lay_3_octs_Join_L9_I : LI := ⟨33, 0, [], ⟨[(6, .lit (.own 0)), (22, .ty (.sl (.sl (.int .u8)))), (23, .ty (.int .i64)), (24, .ty (.int .i64))], [.own (.int .u8) 5]⟩, [(.exit 2, ⟨[(6, .lit (.own 0))], [.own (.int .u8) 5]⟩)]⟩
noncomputable def script_Lay_3_octs_Join_L9 (N : Nat) (X : (((List (List Int)) × (Int × (Int × Unit))) × ((List Int) × Unit)) → Option ((Unit × ((List Int) × Unit)))) (x22 : List (List Int)) (x23 : Int) (x24 : Int) (h0 : List (Int)) : Option ((Unit × ((List Int) × Unit))) :=
 bif (decide (x24 < x23)) then
  Option.bind (getI x22 x24) fun (v6 : (List Int)) =>
  bif (roomB ((List.length h0) + (List.length v6)) 1) then
   (X ((x22, (x23, ((IntKind.wrap .i64 (x24 + 1)), ()))), ((h0 ++ v6), ())))
  else
   none
 else
  some (((), (h0, ())))
noncomputable def script_Lay_3_octs_Join_L9_R (c : (((List (List Int)) × (Int × (Int × Unit))) × ((List Int) × Unit))) : Option ((Unit × ((List Int) × Unit))) := gl (fun X c => script_Lay_3_octs_Join_L9 N X c.1.1 c.1.2.1 c.1.2.2.1 c.2.1) N c
theorem script_Lay_3_octs_Join_L9_S (X : (((List (List Int)) × (Int × (Int × Unit))) × ((List Int) × Unit)) → Option ((Unit × ((List Int) × Unit)))) (x22 : List (List Int)) (x23 : Int) (x24 : Int) (h0 : List (Int)) : (roundK Tryd.prog (Ev91 N) 400 [23, 3, 9] script_Lay_3_octs_Join_L9_I (loopAt Tryd.prog [23, 3, 9] 9) X ((x22, x23, x24, ()), (h0, ()))).run = script_Lay_3_octs_Join_L9 N X x22 x23 x24 h0 := by kernel_rfl
noncomputable def Ev92 : (R : Type) → Env R := Env.addLp (Ev91 N) [23, 3, 9] 0 9 (fun R => lpK Tryd.prog script_Lay_3_octs_Join_L9_I (fun X c => script_Lay_3_octs_Join_L9 N X c.1.1 c.1.2.1 c.1.2.2.1 c.2.1) N)
theorem Ev92_ok (R : Type) : EnvOK Tryd.prog (Ev92 N R) := EnvOK.addLp (Ev91_ok N R) (by kernel_rfl) (lpK_ok (li := script_Lay_3_octs_Join_L9_I) (G := fun X c => script_Lay_3_octs_Join_L9 N X c.1.1 c.1.2.1 c.1.2.2.1 c.2.1) hmx (Ev91_ok N _) (by kernel_rfl) loopAt_sub (fun (X : CT script_Lay_3_octs_Join_L9_I.sh → Option (OT script_Lay_3_octs_Join_L9_I.outs)) (c : CT script_Lay_3_octs_Join_L9_I.sh) => script_Lay_3_octs_Join_L9_S N X c.1.1 c.1.2.1 c.1.2.2.1 c.2.1) N)
noncomputable def script_Lay_L5_I : LI := ⟨39, 0, [], ⟨[(4, .lit (.own 0)), (19, .ty (.sl (.pair (.int .i64) (.pair (.int .i64) (.pair (.int .i64) (.pair (.int .i64) (.pair (.int .i64) (.pair (.arr 32 (.int .u8)) (.pair .str (.pair .str (.pair (.pair (.arr 32 (.int .u8)) (.pair (.arr 16 (.int .u8)) (.int .u32))) (.pair (.arr 16 (.int .u8)) (.pair (.int .u32) (.pair (.int .u32) (.sl (.int .u8)))))))))))))))), (20, .ty (.int .i64)), (21, .ty (.int .i64))], [.own (.int .u8) 5]⟩, [(.ret, ⟨[(2, .ty (.sl (.int .u8))), (3, .ty (.int .i64))], []⟩), (.exit 0, ⟨[(4, .lit (.own 0))], [.own (.int .u8) 5]⟩)]⟩
noncomputable def script_Lay_L5 (X : (((List (Int × (Int × (Int × (Int × (Int × ((Arr Int 32) × (List UInt8 × (List UInt8 × (((Arr Int 32) × ((Arr Int 16) × Int)) × ((Arr Int 16) × (Int × (Int × (List Int)))))))))))))) × (Int × (Int × Unit))) × ((List Int) × Unit)) → Option (((((List Int) × (Int × Unit)) × Unit) ⊕ (Unit × ((List Int) × Unit))))) (x19 : List (Int × (Int × (Int × (Int × (Int × ((Arr Int 32) × (List UInt8 × (List UInt8 × (((Arr Int 32) × ((Arr Int 16) × Int)) × ((Arr Int 16) × (Int × (Int × (List Int)))))))))))))) (x20 : Int) (x21 : Int) (h0 : List (Int)) : Option (((((List Int) × (Int × Unit)) × Unit) ⊕ (Unit × ((List Int) × Unit)))) :=
 bif (decide (x21 < x20)) then
  Option.bind (getI x19 x21) fun (v6 : (Int × (Int × (Int × (Int × (Int × ((Arr Int 32) × (List UInt8 × (List UInt8 × (((Arr Int 32) × ((Arr Int 16) × Int)) × ((Arr Int 16) × (Int × (Int × (List Int)))))))))))))) =>
  Option.bind (script_May N (v6.1, (v6.2.1, (v6.2.2.1, (v6.2.2.2.1, (v6.2.2.2.2.1, (v6.2.2.2.2.2.1, (v6.2.2.2.2.2.2.1, (v6.2.2.2.2.2.2.2.1, ((v6.2.2.2.2.2.2.2.2.1.1, (v6.2.2.2.2.2.2.2.2.1.2.1, v6.2.2.2.2.2.2.2.2.1.2.2)), (v6.2.2.2.2.2.2.2.2.2.1, (v6.2.2.2.2.2.2.2.2.2.2.1, (v6.2.2.2.2.2.2.2.2.2.2.2.1, v6.2.2.2.2.2.2.2.2.2.2.2.2))))))))))))) fun v7 =>
  bif (!(decide (v7 = (0 : Int)))) then
   some ((.inl ((([] : List Int), (v7, ())), ())))
  else
   Option.bind (script_event N (v6.1, (v6.2.1, (v6.2.2.1, (v6.2.2.2.1, (v6.2.2.2.2.1, (v6.2.2.2.2.2.1, (v6.2.2.2.2.2.2.1, (v6.2.2.2.2.2.2.2.1, ((v6.2.2.2.2.2.2.2.2.1.1, (v6.2.2.2.2.2.2.2.2.1.2.1, v6.2.2.2.2.2.2.2.2.1.2.2)), (v6.2.2.2.2.2.2.2.2.2.1, (v6.2.2.2.2.2.2.2.2.2.2.1, (v6.2.2.2.2.2.2.2.2.2.2.2.1, v6.2.2.2.2.2.2.2.2.2.2.2.2))))))))))))) fun v8 =>
   bif (roomB ((List.length h0) + (List.length v8)) 1) then
    (X ((x19, (x20, ((IntKind.wrap .i64 (x21 + 1)), ()))), ((h0 ++ v8), ())))
   else
    none
 else
  some ((.inr ((), (h0, ()))))
noncomputable def script_Lay_L5_R (c : (((List (Int × (Int × (Int × (Int × (Int × ((Arr Int 32) × (List UInt8 × (List UInt8 × (((Arr Int 32) × ((Arr Int 16) × Int)) × ((Arr Int 16) × (Int × (Int × (List Int)))))))))))))) × (Int × (Int × Unit))) × ((List Int) × Unit))) : Option (((((List Int) × (Int × Unit)) × Unit) ⊕ (Unit × ((List Int) × Unit)))) := gl (fun X c => script_Lay_L5 N X c.1.1 c.1.2.1 c.1.2.2.1 c.2.1) N c
theorem script_Lay_L5_S (X : (((List (Int × (Int × (Int × (Int × (Int × ((Arr Int 32) × (List UInt8 × (List UInt8 × (((Arr Int 32) × ((Arr Int 16) × Int)) × ((Arr Int 16) × (Int × (Int × (List Int)))))))))))))) × (Int × (Int × Unit))) × ((List Int) × Unit)) → Option (((((List Int) × (Int × Unit)) × Unit) ⊕ (Unit × ((List Int) × Unit))))) (x19 : List (Int × (Int × (Int × (Int × (Int × ((Arr Int 32) × (List UInt8 × (List UInt8 × (((Arr Int 32) × ((Arr Int 16) × Int)) × ((Arr Int 16) × (Int × (Int × (List Int)))))))))))))) (x20 : Int) (x21 : Int) (h0 : List (Int)) : (roundK Tryd.prog (Ev92 N) 400 [9] script_Lay_L5_I (loopAt Tryd.prog [9] 5) X ((x19, x20, x21, ()), (h0, ()))).run = script_Lay_L5 N X x19 x20 x21 h0 := by kernel_rfl
noncomputable def Ev93 : (R : Type) → Env R := Env.addLp (Ev92 N) [9] 0 5 (fun R => lpK Tryd.prog script_Lay_L5_I (fun X c => script_Lay_L5 N X c.1.1 c.1.2.1 c.1.2.2.1 c.2.1) N)
theorem Ev93_ok (R : Type) : EnvOK Tryd.prog (Ev93 N R) := EnvOK.addLp (Ev92_ok N R) (by kernel_rfl) (lpK_ok (li := script_Lay_L5_I) (G := fun X c => script_Lay_L5 N X c.1.1 c.1.2.1 c.1.2.2.1 c.2.1) hmx (Ev92_ok N _) (by kernel_rfl) loopAt_sub (fun (X : CT script_Lay_L5_I.sh → Option (OT script_Lay_L5_I.outs)) (c : CT script_Lay_L5_I.sh) => script_Lay_L5_S N X c.1.1 c.1.2.1 c.1.2.2.1 c.2.1) N)
noncomputable def script_Lay (l0 : List (Int × (Int × (Int × (Int × (Int × ((Arr Int 32) × (List UInt8 × (List UInt8 × (((Arr Int 32) × ((Arr Int 16) × Int)) × ((Arr Int 16) × (Int × (Int × (List Int)))))))))))))) : Option ((List Int) × Int) :=
 bif (decide ((2000 : Int) < (((List.length l0) : Nat) : Int))) then
  some ((([] : List Int), (5 : Int)))
 else
  Option.bind (script_number N (IntKind.wrap .u64 (((List.length l0) : Nat) : Int)) (2 : Int)) fun v2 =>
  Option.bind (script_Lay_3_octs_Join_L3_R N ((([([69, 85] : List Int), v2] : List ((List Int))), ((0 : Int), (([([69, 85] : List Int), v2] : List ((List Int))), ((((List.length ([([69, 85] : List Int), v2] : List ((List Int)))) : Nat) : Int), ((0 : Int), ()))))), ())) fun v3 =>
  bif ((decide ((0 : Int) ≤ (0 : Int) ∧ (0 : Int) ≤ v3.1.2.1)) && (roomB (Int.toNat v3.1.2.1) 1)) then
   Option.bind (script_Lay_3_octs_Join_L9_R N ((v3.1.1, ((((List.length v3.1.1) : Nat) : Int), ((0 : Int), ()))), ((@List.replicate Int (Int.toNat (0 : Int)) (0 : Int)), ()))) fun v4 =>
   Option.bind (script_Lay_L5_R N ((l0, ((((List.length l0) : Nat) : Int), ((0 : Int), ()))), (v4.2.1, ()))) fun v5 =>
   Sum.elim
    (fun (v6 : (((List Int) × (Int × Unit)) × Unit)) =>
    some ((v6.1.1, v6.1.2.1)))
    (fun (v6 : (Unit × ((List Int) × Unit))) =>
    Option.bind (script_seal N v6.2.1) fun v7 =>
    bif (roomB ((List.length v6.2.1) + (List.length v7)) 1) then
     some (((v6.2.1 ++ v7), (0 : Int)))
    else
     none) v5
  else
   none
theorem script_Lay_S (l0 : List (Int × (Int × (Int × (Int × (Int × ((Arr Int 32) × (List UInt8 × (List UInt8 × (((Arr Int 32) × ((Arr Int 16) × Int)) × ((Arr Int 16) × (Int × (Int × (List Int)))))))))))))) : (runK Tryd.prog (Ev93 N) 400 9 [(.sl (.pair (.int .i64) (.pair (.int .i64) (.pair (.int .i64) (.pair (.int .i64) (.pair (.int .i64) (.pair (.arr 32 (.int .u8)) (.pair .str (.pair .str (.pair (.pair (.arr 32 (.int .u8)) (.pair (.arr 16 (.int .u8)) (.int .u32))) (.pair (.arr 16 (.int .u8)) (.pair (.int .u32) (.pair (.int .u32) (.sl (.int .u8)))))))))))))))] [(.sl (.int .u8)), (.int .i64)] (l0, ())).run = script_Lay N l0 := by kernel_rfl
noncomputable def Ev94 : (R : Type) → Env R := Env.addFn (Ev93 N) 9 (fun R => fnK [(.sl (.pair (.int .i64) (.pair (.int .i64) (.pair (.int .i64) (.pair (.int .i64) (.pair (.int .i64) (.pair (.arr 32 (.int .u8)) (.pair .str (.pair .str (.pair (.pair (.arr 32 (.int .u8)) (.pair (.arr 16 (.int .u8)) (.int .u32))) (.pair (.arr 16 (.int .u8)) (.pair (.int .u32) (.pair (.int .u32) (.sl (.int .u8)))))))))))))))] [(.sl (.int .u8)), (.int .i64)] (fun c => script_Lay N c.1))
theorem Ev94_ok (R : Type) : EnvOK Tryd.prog (Ev94 N R) := EnvOK.addFn hmx (Ev93_ok N R) (Ev93_ok N _) (by kernel_rfl) (fun c => script_Lay_S N c.1)
noncomputable def bytes_Equal (N : Nat) (a0 : List (Int)) (b1 : List (Int)) : Option Bool :=
 Option.bind (@toBy a0) fun (v3 : (List UInt8)) =>
 Option.bind (@toBy b1) fun (v4 : (List UInt8)) =>
 some ((decide (v3 = v4)))
theorem bytes_Equal_S (a0 : List (Int)) (b1 : List (Int)) : (runK Tryd.prog (Ev94 N) 400 31 [(.sl (.int .u8)), (.sl (.int .u8))] [.bool] (a0, b1, ())).run = bytes_Equal N a0 b1 := by kernel_rfl
noncomputable def Ev95 : (R : Type) → Env R := Env.addFn (Ev94 N) 31 (fun R => fnK [(.sl (.int .u8)), (.sl (.int .u8))] [.bool] (fun c => bytes_Equal N c.1 c.2.1))
theorem Ev95_ok (R : Type) : EnvOK Tryd.prog (Ev95 N R) := EnvOK.addFn hmx (Ev94_ok N R) (Ev94_ok N _) (by kernel_rfl) (fun c => bytes_Equal_S N c.1 c.2.1)
noncomputable def Ev96 : (R : Type) → Env R := Env.addBx (Ev95 N) [(16, 0)]
theorem Ev96_ok (R : Type) : EnvOK Tryd.prog (Ev96 N R) := EnvOK.addBx (Ev95_ok N R) [(16, 0)]
noncomputable def script_Same (a0 : Int × (Int × (Int × (Int × (Int × ((Arr Int 32) × (List UInt8 × (List UInt8 × (((Arr Int 32) × ((Arr Int 16) × Int)) × ((Arr Int 16) × (Int × (Int × (List Int))))))))))))) (b1 : Int × (Int × (Int × (Int × (Int × ((Arr Int 32) × (List UInt8 × (List UInt8 × (((Arr Int 32) × ((Arr Int 16) × Int)) × ((Arr Int 16) × (Int × (Int × (List Int))))))))))))) : Option Bool :=
 Option.bind (bif (decide (a0.1 = b1.1)) then
   some ((cond true (decide (a0.2.1 = b1.2.1)) false))
  else
   some (false)) fun (v3 : Bool) =>
 Option.bind (bif v3 then
   some ((cond true (decide (a0.2.2.1 = b1.2.2.1)) false))
  else
   some (false)) fun (v4 : Bool) =>
 Option.bind (bif v4 then
   some ((cond true (decide (a0.2.2.2.1 = b1.2.2.2.1)) false))
  else
   some (false)) fun (v5 : Bool) =>
 Option.bind (bif v5 then
   some ((cond true (decide (a0.2.2.2.2.1 = b1.2.2.2.2.1)) false))
  else
   some (false)) fun (v6 : Bool) =>
 Option.bind (bif v6 then
   bif ((@wfB (@Td.arr (32 : Nat) (@Td.int @IntKind.u8)) a0.2.2.2.2.2.1) && (@wfB (@Td.arr (32 : Nat) (@Td.int @IntKind.u8)) b1.2.2.2.2.2.1)) then
    some ((cond true (@Decidable.decide (@Eq (Arr Int 32) a0.2.2.2.2.2.1 b1.2.2.2.2.2.1) (@decT (@Td.arr (32 : Nat) (@Td.int @IntKind.u8)) a0.2.2.2.2.2.1 b1.2.2.2.2.2.1)) false))
   else
    none
  else
   some (false)) fun (v7 : Bool) =>
 Option.bind (bif v7 then
   bif ((@wfB (@Td.pair (@Td.arr (32 : Nat) (@Td.int @IntKind.u8)) (@Td.pair (@Td.arr (16 : Nat) (@Td.int @IntKind.u8)) (@Td.int @IntKind.u32))) (a0.2.2.2.2.2.2.2.2.1.1, (a0.2.2.2.2.2.2.2.2.1.2.1, a0.2.2.2.2.2.2.2.2.1.2.2))) && (@wfB (@Td.pair (@Td.arr (32 : Nat) (@Td.int @IntKind.u8)) (@Td.pair (@Td.arr (16 : Nat) (@Td.int @IntKind.u8)) (@Td.int @IntKind.u32))) (b1.2.2.2.2.2.2.2.2.1.1, (b1.2.2.2.2.2.2.2.2.1.2.1, b1.2.2.2.2.2.2.2.2.1.2.2)))) then
    some ((cond true (@Decidable.decide (@Eq ((Arr Int 32) × ((Arr Int 16) × Int)) (a0.2.2.2.2.2.2.2.2.1.1, (a0.2.2.2.2.2.2.2.2.1.2.1, a0.2.2.2.2.2.2.2.2.1.2.2)) (b1.2.2.2.2.2.2.2.2.1.1, (b1.2.2.2.2.2.2.2.2.1.2.1, b1.2.2.2.2.2.2.2.2.1.2.2))) (@decT (@Td.pair (@Td.arr (32 : Nat) (@Td.int @IntKind.u8)) (@Td.pair (@Td.arr (16 : Nat) (@Td.int @IntKind.u8)) (@Td.int @IntKind.u32))) (a0.2.2.2.2.2.2.2.2.1.1, (a0.2.2.2.2.2.2.2.2.1.2.1, a0.2.2.2.2.2.2.2.2.1.2.2)) (b1.2.2.2.2.2.2.2.2.1.1, (b1.2.2.2.2.2.2.2.2.1.2.1, b1.2.2.2.2.2.2.2.2.1.2.2)))) false))
   else
    none
  else
   some (false)) fun (v8 : Bool) =>
 Option.bind (bif v8 then
   bif ((@wfB (@Td.arr (16 : Nat) (@Td.int @IntKind.u8)) a0.2.2.2.2.2.2.2.2.2.1) && (@wfB (@Td.arr (16 : Nat) (@Td.int @IntKind.u8)) b1.2.2.2.2.2.2.2.2.2.1)) then
    some ((cond true (@Decidable.decide (@Eq (Arr Int 16) a0.2.2.2.2.2.2.2.2.2.1 b1.2.2.2.2.2.2.2.2.2.1) (@decT (@Td.arr (16 : Nat) (@Td.int @IntKind.u8)) a0.2.2.2.2.2.2.2.2.2.1 b1.2.2.2.2.2.2.2.2.2.1)) false))
   else
    none
  else
   some (false)) fun (v9 : Bool) =>
 Option.bind (bif v9 then
   some ((cond true (decide (a0.2.2.2.2.2.2.2.2.2.2.1 = b1.2.2.2.2.2.2.2.2.2.2.1)) false))
  else
   some (false)) fun (v10 : Bool) =>
 Option.bind (bif v10 then
   some ((cond true (decide (a0.2.2.2.2.2.2.2.2.2.2.2.1 = b1.2.2.2.2.2.2.2.2.2.2.2.1)) false))
  else
   some (false)) fun (v11 : Bool) =>
 Option.bind (bif v11 then
   some ((cond true (decide (a0.2.2.2.2.2.2.1 = b1.2.2.2.2.2.2.1)) false))
  else
   some (false)) fun (v12 : Bool) =>
 Option.bind (bif v12 then
   some ((cond true (decide (a0.2.2.2.2.2.2.2.1 = b1.2.2.2.2.2.2.2.1)) false))
  else
   some (false)) fun (v13 : Bool) =>
 bif v13 then
  Option.bind (bytes_Equal N a0.2.2.2.2.2.2.2.2.2.2.2.2 b1.2.2.2.2.2.2.2.2.2.2.2.2) fun v14 =>
  some ((cond true v14 false))
 else
  some (false)
theorem script_Same_S (a0 : Int × (Int × (Int × (Int × (Int × ((Arr Int 32) × (List UInt8 × (List UInt8 × (((Arr Int 32) × ((Arr Int 16) × Int)) × ((Arr Int 16) × (Int × (Int × (List Int))))))))))))) (b1 : Int × (Int × (Int × (Int × (Int × ((Arr Int 32) × (List UInt8 × (List UInt8 × (((Arr Int 32) × ((Arr Int 16) × Int)) × ((Arr Int 16) × (Int × (Int × (List Int))))))))))))) : (runK Tryd.prog (Ev96 N) 400 16 [(.pair (.int .i64) (.pair (.int .i64) (.pair (.int .i64) (.pair (.int .i64) (.pair (.int .i64) (.pair (.arr 32 (.int .u8)) (.pair .str (.pair .str (.pair (.pair (.arr 32 (.int .u8)) (.pair (.arr 16 (.int .u8)) (.int .u32))) (.pair (.arr 16 (.int .u8)) (.pair (.int .u32) (.pair (.int .u32) (.sl (.int .u8)))))))))))))), (.pair (.int .i64) (.pair (.int .i64) (.pair (.int .i64) (.pair (.int .i64) (.pair (.int .i64) (.pair (.arr 32 (.int .u8)) (.pair .str (.pair .str (.pair (.pair (.arr 32 (.int .u8)) (.pair (.arr 16 (.int .u8)) (.int .u32))) (.pair (.arr 16 (.int .u8)) (.pair (.int .u32) (.pair (.int .u32) (.sl (.int .u8))))))))))))))] [.bool] (a0, b1, ())).run = script_Same N a0 b1 := by kernel_rfl
noncomputable def Ev97 : (R : Type) → Env R := Env.addFn (Ev96 N) 16 (fun R => fnK [(.pair (.int .i64) (.pair (.int .i64) (.pair (.int .i64) (.pair (.int .i64) (.pair (.int .i64) (.pair (.arr 32 (.int .u8)) (.pair .str (.pair .str (.pair (.pair (.arr 32 (.int .u8)) (.pair (.arr 16 (.int .u8)) (.int .u32))) (.pair (.arr 16 (.int .u8)) (.pair (.int .u32) (.pair (.int .u32) (.sl (.int .u8)))))))))))))), (.pair (.int .i64) (.pair (.int .i64) (.pair (.int .i64) (.pair (.int .i64) (.pair (.int .i64) (.pair (.arr 32 (.int .u8)) (.pair .str (.pair .str (.pair (.pair (.arr 32 (.int .u8)) (.pair (.arr 16 (.int .u8)) (.int .u32))) (.pair (.arr 16 (.int .u8)) (.pair (.int .u32) (.pair (.int .u32) (.sl (.int .u8))))))))))))))] [.bool] (fun c => script_Same N c.1 c.2.1))
theorem Ev97_ok (R : Type) : EnvOK Tryd.prog (Ev97 N R) := EnvOK.addFn hmx (Ev96_ok N R) (Ev96_ok N _) (by kernel_rfl) (fun c => script_Same_S N c.1 c.2.1)
noncomputable def ref40_small (N : Nat) (n0 : Int) : Option Bool :=
 Option.bind (bif (decide ((0 : Int) ≤ n0)) then
   some ((cond true (decide (n0 ≤ (255 : Int))) false))
  else
   some (false)) fun (v2 : Bool) =>
 some (v2)
theorem ref40_small_S (n0 : Int) : (runK Tryd.prog (Ev97 N) 400 30 [(.int .i64)] [.bool] (n0, ())).run = ref40_small N n0 := by kernel_rfl
noncomputable def Ev98 : (R : Type) → Env R := Env.addFn (Ev97 N) 30 (fun R => fnK [(.int .i64)] [.bool] (fun c => ref40_small N c.1))
theorem Ev98_ok (R : Type) : EnvOK Tryd.prog (Ev98 N R) := EnvOK.addFn hmx (Ev97_ok N R) (Ev97_ok N _) (by kernel_rfl) (fun c => ref40_small_S N c.1)
noncomputable def Ev99 : (R : Type) → Env R := Env.addBx (Ev98 N) [(15, 0)]
theorem Ev99_ok (R : Type) : EnvOK Tryd.prog (Ev99 N R) := EnvOK.addBx (Ev98_ok N R) [(15, 0)]
noncomputable def ref40_May (x0 : Int × (Int × (Int × (Int × (Int × ((Arr Int 32) × (List UInt8 × (List UInt8 × (((Arr Int 32) × ((Arr Int 16) × Int)) × ((Arr Int 16) × (Int × (Int × (List Int))))))))))))) : Option Int :=
 Option.bind (bif (decide (x0.1 < (1 : Int))) then
   some (true)
  else
   some ((cond false true (decide ((12 : Int) < x0.1))))) fun (v2 : Bool) =>
 bif v2 then
  some ((9 : Int))
 else
  Option.bind (ref40_small N x0.2.1) fun v3 =>
  bif (!v3) then
   some ((1 : Int))
  else
   Option.bind (ref40_small N x0.2.2.1) fun v4 =>
   Option.bind (some ((cond false true (!v4)))) fun (v5 : Bool) =>
   bif v5 then
    some ((1 : Int))
   else
    Option.bind (ref40_small N x0.2.2.2.1) fun v6 =>
    Option.bind (some ((cond false true (!v6)))) fun (v7 : Bool) =>
    Option.bind (bif v7 then
      some (true)
     else
      some ((cond false true (decide (x0.2.2.2.2.1 < (0 : Int)))))) fun (v8 : Bool) =>
    Option.bind (bif v8 then
      some (true)
     else
      some ((cond false true (decide ((2147483647 : Int) < x0.2.2.2.2.1))))) fun (v9 : Bool) =>
    bif v9 then
     some ((1 : Int))
    else
     bif (decide ((64 : Int) < (((List.length x0.2.2.2.2.2.2.1) : Nat) : Int))) then
      some ((8 : Int))
     else
      Option.bind (some ((cond false true (decide ((256 : Int) < (((List.length x0.2.2.2.2.2.2.2.1) : Nat) : Int)))))) fun (v10 : Bool) =>
      bif v10 then
       some ((8 : Int))
      else
       Option.bind (some ((cond false true (decide ((2000 : Int) < (((List.length x0.2.2.2.2.2.2.2.2.2.2.2.2) : Nat) : Int)))))) fun (v11 : Bool) =>
       bif v11 then
        some ((8 : Int))
       else
        some ((0 : Int))
theorem ref40_May_S (x0 : Int × (Int × (Int × (Int × (Int × ((Arr Int 32) × (List UInt8 × (List UInt8 × (((Arr Int 32) × ((Arr Int 16) × Int)) × ((Arr Int 16) × (Int × (Int × (List Int))))))))))))) : (runK Tryd.prog (Ev99 N) 400 15 [(.pair (.int .i64) (.pair (.int .i64) (.pair (.int .i64) (.pair (.int .i64) (.pair (.int .i64) (.pair (.arr 32 (.int .u8)) (.pair .str (.pair .str (.pair (.pair (.arr 32 (.int .u8)) (.pair (.arr 16 (.int .u8)) (.int .u32))) (.pair (.arr 16 (.int .u8)) (.pair (.int .u32) (.pair (.int .u32) (.sl (.int .u8))))))))))))))] [(.int .i64)] (x0, ())).run = ref40_May N x0 := by kernel_rfl
noncomputable def Ev100 : (R : Type) → Env R := Env.addFn (Ev99 N) 15 (fun R => fnK [(.pair (.int .i64) (.pair (.int .i64) (.pair (.int .i64) (.pair (.int .i64) (.pair (.int .i64) (.pair (.arr 32 (.int .u8)) (.pair .str (.pair .str (.pair (.pair (.arr 32 (.int .u8)) (.pair (.arr 16 (.int .u8)) (.int .u32))) (.pair (.arr 16 (.int .u8)) (.pair (.int .u32) (.pair (.int .u32) (.sl (.int .u8))))))))))))))] [(.int .i64)] (fun c => ref40_May N c.1))
theorem Ev100_ok (R : Type) : EnvOK Tryd.prog (Ev100 N R) := EnvOK.addFn hmx (Ev99_ok N R) (Ev99_ok N _) (by kernel_rfl) (fun c => ref40_May_S N c.1)
noncomputable def Ev101 : (R : Type) → Env R := Env.addInl (Ev100 N) [48, 35, 49, 36]
theorem Ev101_ok (R : Type) : EnvOK Tryd.prog (Ev101 N R) := EnvOK.addInl (Ev100_ok N R) (by kernel_rfl)
noncomputable def Ev102 : (R : Type) → Env R := Env.addMv (Ev101 N) [(19, 18)]
theorem Ev102_ok (R : Type) : EnvOK Tryd.prog (Ev102 N R) := EnvOK.addMv (Ev101_ok N R) [(19, 18)]
noncomputable def slices_Clone_byte_byte_ne (N : Nat) (s0 : List (Int)) : Option (List Int) :=
 bif (@List.isEmpty Int s0) then
  none
 else
  bif (roomB (List.length s0) 1) then
   some (s0)
  else
   none
theorem slices_Clone_byte_byte_ne_S (s0 : List (Int)) : (runK Tryd.prog (Ev102 N) 400 61 [(.sl (.int .u8))] [(.sl (.int .u8))] (s0, ())).run = slices_Clone_byte_byte_ne N s0 := by kernel_rfl
theorem slices_Clone_byte_byte_n1 (c : Nat) : (runV Tryd.prog (Ev102 N) 400 61 [.c (.slice none 0 c)] [(.sl (.int .u8))]).run = some [] := by kernel_rfl
theorem slices_Clone_byte_byte_n2 (A : Addr) (c : Nat) : (runV Tryd.prog (Ev102 N) 400 61 [.c (.slice (some A) 0 c)] [(.sl (.int .u8))]).run = some [] := by kernel_rfl
noncomputable def slices_Clone_byte_byte (s0 : List (Int)) : Option (List Int) := bif s0.isEmpty then some [] else slices_Clone_byte_byte_ne N s0
noncomputable def Ev103 : (R : Type) → Env R := Env.addFn (Ev102 N) 61 (fun R => fnK [(.sl (.int .u8))] [(.sl (.int .u8))] (fun c => slices_Clone_byte_byte N c.1))
theorem Ev103_ok (R : Type) : EnvOK Tryd.prog (Ev103 N R) := EnvOK.addNil hmx (Ev102_ok N R) (Ev102_ok N _) (by kernel_rfl) (fun c => slices_Clone_byte_byte_ne_S N c.1) (slices_Clone_byte_byte_n1 N) (slices_Clone_byte_byte_n2 N)
noncomputable def script_Parse_L14_I : LI := ⟨58, 0, [(7, 45)], ⟨[(5, .lit (.box 0 0)), (7, .lit (.own 1)), (38, .ty (.int .i64)), (39, .ty (.int .i64))], [.box 75 (.pair (.sl (.int .u8)) .bool), .own (.pair (.int .i64) (.pair (.int .i64) (.pair (.int .i64) (.pair (.int .i64) (.pair (.int .i64) (.pair (.arr 32 (.int .u8)) (.pair .str (.pair .str (.pair (.pair (.arr 32 (.int .u8)) (.pair (.arr 16 (.int .u8)) (.int .u32))) (.pair (.arr 16 (.int .u8)) (.pair (.int .u32) (.pair (.int .u32) (.sl (.int .u8)))))))))))))) 45]⟩, [(.ret, ⟨[(2, .ty (.sl (.pair (.int .i64) (.pair (.int .i64) (.pair (.int .i64) (.pair (.int .i64) (.pair (.int .i64) (.pair (.arr 32 (.int .u8)) (.pair .str (.pair .str (.pair (.pair (.arr 32 (.int .u8)) (.pair (.arr 16 (.int .u8)) (.int .u32))) (.pair (.arr 16 (.int .u8)) (.pair (.int .u32) (.pair (.int .u32) (.sl (.int .u8)))))))))))))))), (3, .ty (.int .i64))], []⟩), (.exit 1, ⟨[(5, .lit (.box 0 0)), (7, .lit (.own 1))], [.box 75 (.pair (.sl (.int .u8)) .bool), .own (.pair (.int .i64) (.pair (.int .i64) (.pair (.int .i64) (.pair (.int .i64) (.pair (.int .i64) (.pair (.arr 32 (.int .u8)) (.pair .str (.pair .str (.pair (.pair (.arr 32 (.int .u8)) (.pair (.arr 16 (.int .u8)) (.int .u32))) (.pair (.arr 16 (.int .u8)) (.pair (.int .u32) (.pair (.int .u32) (.sl (.int .u8)))))))))))))) 45]⟩)]⟩
noncomputable def script_Parse_L14 (X : ((Int × (Int × Unit)) × (((List Int) × (Bool)) × ((List (Int × (Int × (Int × (Int × (Int × ((Arr Int 32) × (List UInt8 × (List UInt8 × (((Arr Int 32) × ((Arr Int 16) × Int)) × ((Arr Int 16) × (Int × (Int × (List Int)))))))))))))) × Unit))) → Option (((((List (Int × (Int × (Int × (Int × (Int × ((Arr Int 32) × (List UInt8 × (List UInt8 × (((Arr Int 32) × ((Arr Int 16) × Int)) × ((Arr Int 16) × (Int × (Int × (List Int)))))))))))))) × (Int × Unit)) × Unit) ⊕ (Unit × (((List Int) × (Bool)) × ((List (Int × (Int × (Int × (Int × (Int × ((Arr Int 32) × (List UInt8 × (List UInt8 × (((Arr Int 32) × ((Arr Int 16) × Int)) × ((Arr Int 16) × (Int × (Int × (List Int)))))))))))))) × Unit)))))) (x38 : Int) (x39 : Int) (h0 : (List Int) × (Bool)) (h1 : List (Int × (Int × (Int × (Int × (Int × ((Arr Int 32) × (List UInt8 × (List UInt8 × (((Arr Int 32) × ((Arr Int 16) × Int)) × ((Arr Int 16) × (Int × (Int × (List Int)))))))))))))) : Option (((((List (Int × (Int × (Int × (Int × (Int × ((Arr Int 32) × (List UInt8 × (List UInt8 × (((Arr Int 32) × ((Arr Int 16) × Int)) × ((Arr Int 16) × (Int × (Int × (List Int)))))))))))))) × (Int × Unit)) × Unit) ⊕ (Unit × (((List Int) × (Bool)) × ((List (Int × (Int × (Int × (Int × (Int × ((Arr Int 32) × (List UInt8 × (List UInt8 × (((Arr Int 32) × ((Arr Int 16) × Int)) × ((Arr Int 16) × (Int × (Int × (List Int)))))))))))))) × Unit))))) :=
 bif (decide (x39 < x38)) then
  bif (decide ((((List.length h0.1) : Nat) : Int) < (1 : Int))) then
   some ((.inl ((([] : List ((Int × (Int × (Int × (Int × (Int × ((Arr Int 32) × (List UInt8 × (List UInt8 × (((Arr Int 32) × ((Arr Int 16) × Int)) × ((Arr Int 16) × (Int × (Int × (List Int))))))))))))))), ((4 : Int), ())), ())))
  else
   Option.bind (takeI h0.1 (1 : Int)) fun (v6 : (List Int)) =>
   Option.bind (slices_Clone_byte_byte N v6) fun v7 =>
   Option.bind (dropI h0.1 (1 : Int)) fun (v8 : (List Int)) =>
   Option.bind (@Gt.octs_Get (200 : Nat) v7 false) fun (v9 : (Int × Int)) =>
   bif h0.2 then
    some ((.inl ((([] : List ((Int × (Int × (Int × (Int × (Int × ((Arr Int 32) × (List UInt8 × (List UInt8 × (((Arr Int 32) × ((Arr Int 16) × Int)) × ((Arr Int 16) × (Int × (Int × (List Int))))))))))))))), ((4 : Int), ())), ())))
   else
    Option.bind (script_isKind N (IntKind.wrap .i64 v9.1)) fun v10 =>
    bif (!v10) then
     some ((.inl ((([] : List ((Int × (Int × (Int × (Int × (Int × ((Arr Int 32) × (List UInt8 × (List UInt8 × (((Arr Int 32) × ((Arr Int 16) × Int)) × ((Arr Int 16) × (Int × (Int × (List Int))))))))))))))), ((9 : Int), ())), ())))
    else
     bif (decide ((((List.length v8) : Nat) : Int) < (1 : Int))) then
      some ((.inl ((([] : List ((Int × (Int × (Int × (Int × (Int × ((Arr Int 32) × (List UInt8 × (List UInt8 × (((Arr Int 32) × ((Arr Int 16) × Int)) × ((Arr Int 16) × (Int × (Int × (List Int))))))))))))))), ((4 : Int), ())), ())))
     else
      Option.bind (takeI v8 (1 : Int)) fun (v11 : (List Int)) =>
      Option.bind (slices_Clone_byte_byte N v11) fun v12 =>
      Option.bind (dropI v8 (1 : Int)) fun (v13 : (List Int)) =>
      Option.bind (@Gt.octs_Get (200 : Nat) v12 false) fun (v14 : (Int × Int)) =>
      bif (decide ((((List.length v13) : Nat) : Int) < (1 : Int))) then
       some ((.inl ((([] : List ((Int × (Int × (Int × (Int × (Int × ((Arr Int 32) × (List UInt8 × (List UInt8 × (((Arr Int 32) × ((Arr Int 16) × Int)) × ((Arr Int 16) × (Int × (Int × (List Int))))))))))))))), ((4 : Int), ())), ())))
      else
       Option.bind (takeI v13 (1 : Int)) fun (v15 : (List Int)) =>
       Option.bind (slices_Clone_byte_byte N v15) fun v16 =>
       Option.bind (dropI v13 (1 : Int)) fun (v17 : (List Int)) =>
       Option.bind (@Gt.octs_Get (200 : Nat) v16 false) fun (v18 : (Int × Int)) =>
       bif (decide ((((List.length v17) : Nat) : Int) < (1 : Int))) then
        some ((.inl ((([] : List ((Int × (Int × (Int × (Int × (Int × ((Arr Int 32) × (List UInt8 × (List UInt8 × (((Arr Int 32) × ((Arr Int 16) × Int)) × ((Arr Int 16) × (Int × (Int × (List Int))))))))))))))), ((4 : Int), ())), ())))
       else
        Option.bind (takeI v17 (1 : Int)) fun (v19 : (List Int)) =>
        Option.bind (slices_Clone_byte_byte N v19) fun v20 =>
        Option.bind (dropI v17 (1 : Int)) fun (v21 : (List Int)) =>
        Option.bind (@Gt.octs_Get (200 : Nat) v20 false) fun (v22 : (Int × Int)) =>
        bif (decide ((((List.length v21) : Nat) : Int) < (4 : Int))) then
         some ((.inl ((([] : List ((Int × (Int × (Int × (Int × (Int × ((Arr Int 32) × (List UInt8 × (List UInt8 × (((Arr Int 32) × ((Arr Int 16) × Int)) × ((Arr Int 16) × (Int × (Int × (List Int))))))))))))))), ((4 : Int), ())), ())))
        else
         Option.bind (takeI v21 (4 : Int)) fun (v23 : (List Int)) =>
         Option.bind (slices_Clone_byte_byte N v23) fun v24 =>
         Option.bind (dropI v21 (4 : Int)) fun (v25 : (List Int)) =>
         Option.bind (@Gt.octs_Get (200 : Nat) v24 false) fun (v26 : (Int × Int)) =>
         bif (decide ((((List.length v25) : Nat) : Int) < (32 : Int))) then
          some ((.inl ((([] : List ((Int × (Int × (Int × (Int × (Int × ((Arr Int 32) × (List UInt8 × (List UInt8 × (((Arr Int 32) × ((Arr Int 16) × Int)) × ((Arr Int 16) × (Int × (Int × (List Int))))))))))))))), ((4 : Int), ())), ())))
         else
          Option.bind (takeI v25 (32 : Int)) fun (v27 : (List Int)) =>
          Option.bind (slices_Clone_byte_byte N v27) fun v28 =>
          Option.bind (dropI v25 (32 : Int)) fun (v29 : (List Int)) =>
          Option.bind (@toArr Int (32 : Nat) v28) fun (v30 : (Arr Int 32)) =>
          bif (decide ((((List.length v29) : Nat) : Int) < (32 : Int))) then
           some ((.inl ((([] : List ((Int × (Int × (Int × (Int × (Int × ((Arr Int 32) × (List UInt8 × (List UInt8 × (((Arr Int 32) × ((Arr Int 16) × Int)) × ((Arr Int 16) × (Int × (Int × (List Int))))))))))))))), ((4 : Int), ())), ())))
          else
           Option.bind (takeI v29 (32 : Int)) fun (v31 : (List Int)) =>
           Option.bind (slices_Clone_byte_byte N v31) fun v32 =>
           Option.bind (dropI v29 (32 : Int)) fun (v33 : (List Int)) =>
           Option.bind (@toArr Int (32 : Nat) v32) fun (v34 : (Arr Int 32)) =>
           bif (decide ((((List.length v33) : Nat) : Int) < (16 : Int))) then
            some ((.inl ((([] : List ((Int × (Int × (Int × (Int × (Int × ((Arr Int 32) × (List UInt8 × (List UInt8 × (((Arr Int 32) × ((Arr Int 16) × Int)) × ((Arr Int 16) × (Int × (Int × (List Int))))))))))))))), ((4 : Int), ())), ())))
           else
            Option.bind (takeI v33 (16 : Int)) fun (v35 : (List Int)) =>
            Option.bind (slices_Clone_byte_byte N v35) fun v36 =>
            Option.bind (dropI v33 (16 : Int)) fun (v37 : (List Int)) =>
            Option.bind (@toArr Int (16 : Nat) v36) fun (v38 : (Arr Int 16)) =>
            bif (decide ((((List.length v37) : Nat) : Int) < (4 : Int))) then
             some ((.inl ((([] : List ((Int × (Int × (Int × (Int × (Int × ((Arr Int 32) × (List UInt8 × (List UInt8 × (((Arr Int 32) × ((Arr Int 16) × Int)) × ((Arr Int 16) × (Int × (Int × (List Int))))))))))))))), ((4 : Int), ())), ())))
            else
             Option.bind (takeI v37 (4 : Int)) fun (v39 : (List Int)) =>
             Option.bind (slices_Clone_byte_byte N v39) fun v40 =>
             Option.bind (dropI v37 (4 : Int)) fun (v41 : (List Int)) =>
             Option.bind (@Gt.octs_Get (200 : Nat) v40 false) fun (v42 : (Int × Int)) =>
             bif (decide ((((List.length v41) : Nat) : Int) < (16 : Int))) then
              some ((.inl ((([] : List ((Int × (Int × (Int × (Int × (Int × ((Arr Int 32) × (List UInt8 × (List UInt8 × (((Arr Int 32) × ((Arr Int 16) × Int)) × ((Arr Int 16) × (Int × (Int × (List Int))))))))))))))), ((4 : Int), ())), ())))
             else
              Option.bind (takeI v41 (16 : Int)) fun (v43 : (List Int)) =>
              Option.bind (slices_Clone_byte_byte N v43) fun v44 =>
              Option.bind (dropI v41 (16 : Int)) fun (v45 : (List Int)) =>
              Option.bind (@toArr Int (16 : Nat) v44) fun (v46 : (Arr Int 16)) =>
              bif (decide ((((List.length v45) : Nat) : Int) < (4 : Int))) then
               some ((.inl ((([] : List ((Int × (Int × (Int × (Int × (Int × ((Arr Int 32) × (List UInt8 × (List UInt8 × (((Arr Int 32) × ((Arr Int 16) × Int)) × ((Arr Int 16) × (Int × (Int × (List Int))))))))))))))), ((4 : Int), ())), ())))
              else
               Option.bind (takeI v45 (4 : Int)) fun (v47 : (List Int)) =>
               Option.bind (slices_Clone_byte_byte N v47) fun v48 =>
               Option.bind (dropI v45 (4 : Int)) fun (v49 : (List Int)) =>
               Option.bind (@Gt.octs_Get (200 : Nat) v48 false) fun (v50 : (Int × Int)) =>
               bif (decide ((((List.length v49) : Nat) : Int) < (4 : Int))) then
                some ((.inl ((([] : List ((Int × (Int × (Int × (Int × (Int × ((Arr Int 32) × (List UInt8 × (List UInt8 × (((Arr Int 32) × ((Arr Int 16) × Int)) × ((Arr Int 16) × (Int × (Int × (List Int))))))))))))))), ((4 : Int), ())), ())))
               else
                Option.bind (takeI v49 (4 : Int)) fun (v51 : (List Int)) =>
                Option.bind (slices_Clone_byte_byte N v51) fun v52 =>
                Option.bind (dropI v49 (4 : Int)) fun (v53 : (List Int)) =>
                Option.bind (@Gt.octs_Get (200 : Nat) v52 false) fun (v54 : (Int × Int)) =>
                bif (decide ((((List.length v53) : Nat) : Int) < (2 : Int))) then
                 some ((.inl ((([] : List ((Int × (Int × (Int × (Int × (Int × ((Arr Int 32) × (List UInt8 × (List UInt8 × (((Arr Int 32) × ((Arr Int 16) × Int)) × ((Arr Int 16) × (Int × (Int × (List Int))))))))))))))), ((4 : Int), ())), ())))
                else
                 Option.bind (takeI v53 (2 : Int)) fun (v55 : (List Int)) =>
                 Option.bind (slices_Clone_byte_byte N v55) fun v56 =>
                 Option.bind (dropI v53 (2 : Int)) fun (v57 : (List Int)) =>
                 Option.bind (@Gt.octs_Get (200 : Nat) v56 false) fun (v58 : (Int × Int)) =>
                 bif (decide ((((List.length v57) : Nat) : Int) < (IntKind.wrap .i64 v58.1))) then
                  bif ((decide ((0 : Int) ≤ (IntKind.wrap .i64 v58.1) ∧ (IntKind.wrap .i64 v58.1) ≤ (IntKind.wrap .i64 v58.1))) && (roomB (Int.toNat (IntKind.wrap .i64 v58.1)) 1)) then
                   Option.bind (@toBy (@List.replicate Int (Int.toNat (IntKind.wrap .i64 v58.1)) (0 : Int))) fun (v59 : (List UInt8)) =>
                   some ((.inl ((([] : List ((Int × (Int × (Int × (Int × (Int × ((Arr Int 32) × (List UInt8 × (List UInt8 × (((Arr Int 32) × ((Arr Int 16) × Int)) × ((Arr Int 16) × (Int × (Int × (List Int))))))))))))))), ((4 : Int), ())), ())))
                  else
                   none
                 else
                  Option.bind (takeI v57 (IntKind.wrap .i64 v58.1)) fun (v59 : (List Int)) =>
                  Option.bind (slices_Clone_byte_byte N v59) fun v60 =>
                  Option.bind (dropI v57 (IntKind.wrap .i64 v58.1)) fun (v61 : (List Int)) =>
                  Option.bind (@toBy v60) fun (v62 : (List UInt8)) =>
                  bif (decide ((((List.length v61) : Nat) : Int) < (2 : Int))) then
                   some ((.inl ((([] : List ((Int × (Int × (Int × (Int × (Int × ((Arr Int 32) × (List UInt8 × (List UInt8 × (((Arr Int 32) × ((Arr Int 16) × Int)) × ((Arr Int 16) × (Int × (Int × (List Int))))))))))))))), ((4 : Int), ())), ())))
                  else
                   Option.bind (takeI v61 (2 : Int)) fun (v63 : (List Int)) =>
                   Option.bind (slices_Clone_byte_byte N v63) fun v64 =>
                   Option.bind (dropI v61 (2 : Int)) fun (v65 : (List Int)) =>
                   Option.bind (@Gt.octs_Get (200 : Nat) v64 false) fun (v66 : (Int × Int)) =>
                   bif (decide ((((List.length v65) : Nat) : Int) < (IntKind.wrap .i64 v66.1))) then
                    bif ((decide ((0 : Int) ≤ (IntKind.wrap .i64 v66.1) ∧ (IntKind.wrap .i64 v66.1) ≤ (IntKind.wrap .i64 v66.1))) && (roomB (Int.toNat (IntKind.wrap .i64 v66.1)) 1)) then
                     Option.bind (@toBy (@List.replicate Int (Int.toNat (IntKind.wrap .i64 v66.1)) (0 : Int))) fun (v67 : (List UInt8)) =>
                     some ((.inl ((([] : List ((Int × (Int × (Int × (Int × (Int × ((Arr Int 32) × (List UInt8 × (List UInt8 × (((Arr Int 32) × ((Arr Int 16) × Int)) × ((Arr Int 16) × (Int × (Int × (List Int))))))))))))))), ((4 : Int), ())), ())))
                    else
                     none
                   else
                    Option.bind (takeI v65 (IntKind.wrap .i64 v66.1)) fun (v67 : (List Int)) =>
                    Option.bind (slices_Clone_byte_byte N v67) fun v68 =>
                    Option.bind (dropI v65 (IntKind.wrap .i64 v66.1)) fun (v69 : (List Int)) =>
                    Option.bind (@toBy v68) fun (v70 : (List UInt8)) =>
                    bif (decide ((((List.length v69) : Nat) : Int) < (2 : Int))) then
                     some ((.inl ((([] : List ((Int × (Int × (Int × (Int × (Int × ((Arr Int 32) × (List UInt8 × (List UInt8 × (((Arr Int 32) × ((Arr Int 16) × Int)) × ((Arr Int 16) × (Int × (Int × (List Int))))))))))))))), ((4 : Int), ())), ())))
                    else
                     Option.bind (takeI v69 (2 : Int)) fun (v71 : (List Int)) =>
                     Option.bind (slices_Clone_byte_byte N v71) fun v72 =>
                     Option.bind (dropI v69 (2 : Int)) fun (v73 : (List Int)) =>
                     Option.bind (@Gt.octs_Get (200 : Nat) v72 false) fun (v74 : (Int × Int)) =>
                     bif (decide ((((List.length v73) : Nat) : Int) < (IntKind.wrap .i64 v74.1))) then
                      bif ((decide ((0 : Int) ≤ (IntKind.wrap .i64 v74.1) ∧ (IntKind.wrap .i64 v74.1) ≤ (IntKind.wrap .i64 v74.1))) && (roomB (Int.toNat (IntKind.wrap .i64 v74.1)) 1)) then
                       some ((.inl ((([] : List ((Int × (Int × (Int × (Int × (Int × ((Arr Int 32) × (List UInt8 × (List UInt8 × (((Arr Int 32) × ((Arr Int 16) × Int)) × ((Arr Int 16) × (Int × (Int × (List Int))))))))))))))), ((4 : Int), ())), ())))
                      else
                       none
                     else
                      Option.bind (takeI v73 (IntKind.wrap .i64 v74.1)) fun (v75 : (List Int)) =>
                      Option.bind (slices_Clone_byte_byte N v75) fun v76 =>
                      Option.bind (dropI v73 (IntKind.wrap .i64 v74.1)) fun (v77 : (List Int)) =>
                      bif h0.2 then
                       some ((.inl ((([] : List ((Int × (Int × (Int × (Int × (Int × ((Arr Int 32) × (List UInt8 × (List UInt8 × (((Arr Int 32) × ((Arr Int 16) × Int)) × ((Arr Int 16) × (Int × (Int × (List Int))))))))))))))), ((4 : Int), ())), ())))
                      else
                       Option.bind (script_May N ((IntKind.wrap .i64 v9.1), ((IntKind.wrap .i64 v14.1), ((IntKind.wrap .i64 v18.1), ((IntKind.wrap .i64 v22.1), ((IntKind.wrap .i64 v26.1), (v30, (v62, (v70, ((v34, (v38, (IntKind.wrap .u32 (IntKind.wrap .i64 v42.1)))), (v46, ((IntKind.wrap .u32 (IntKind.wrap .i64 v50.1)), ((IntKind.wrap .u32 (IntKind.wrap .i64 v54.1)), v76))))))))))))) fun v78 =>
                       bif (!(decide (v78 = (0 : Int)))) then
                        bif (!(decide (v78 = (0 : Int)))) then
                         some ((.inl ((([] : List ((Int × (Int × (Int × (Int × (Int × ((Arr Int 32) × (List UInt8 × (List UInt8 × (((Arr Int 32) × ((Arr Int 16) × Int)) × ((Arr Int 16) × (Int × (Int × (List Int))))))))))))))), (v78, ())), ())))
                        else
                         bif (roomB ((List.length h1) + (List.length ([((0 : Int), ((0 : Int), ((0 : Int), ((0 : Int), ((0 : Int), ((@Arr.cons Int 31 0 (@Arr.cons Int 30 0 (@Arr.cons Int 29 0 (@Arr.cons Int 28 0 (@Arr.cons Int 27 0 (@Arr.cons Int 26 0 (@Arr.cons Int 25 0 (@Arr.cons Int 24 0 (@Arr.cons Int 23 0 (@Arr.cons Int 22 0 (@Arr.cons Int 21 0 (@Arr.cons Int 20 0 (@Arr.cons Int 19 0 (@Arr.cons Int 18 0 (@Arr.cons Int 17 0 (@Arr.cons Int 16 0 (@Arr.cons Int 15 0 (@Arr.cons Int 14 0 (@Arr.cons Int 13 0 (@Arr.cons Int 12 0 (@Arr.cons Int 11 0 (@Arr.cons Int 10 0 (@Arr.cons Int 9 0 (@Arr.cons Int 8 0 (@Arr.cons Int 7 0 (@Arr.cons Int 6 0 (@Arr.cons Int 5 0 (@Arr.cons Int 4 0 (@Arr.cons Int 3 0 (@Arr.cons Int 2 0 (@Arr.cons Int 1 0 (@Arr.cons Int 0 0 (@Arr.nil Int))))))))))))))))))))))))))))))))), ((Array.toList (List.toArray ([] : List UInt8))), ((Array.toList (List.toArray ([] : List UInt8))), (((@Arr.cons Int 31 0 (@Arr.cons Int 30 0 (@Arr.cons Int 29 0 (@Arr.cons Int 28 0 (@Arr.cons Int 27 0 (@Arr.cons Int 26 0 (@Arr.cons Int 25 0 (@Arr.cons Int 24 0 (@Arr.cons Int 23 0 (@Arr.cons Int 22 0 (@Arr.cons Int 21 0 (@Arr.cons Int 20 0 (@Arr.cons Int 19 0 (@Arr.cons Int 18 0 (@Arr.cons Int 17 0 (@Arr.cons Int 16 0 (@Arr.cons Int 15 0 (@Arr.cons Int 14 0 (@Arr.cons Int 13 0 (@Arr.cons Int 12 0 (@Arr.cons Int 11 0 (@Arr.cons Int 10 0 (@Arr.cons Int 9 0 (@Arr.cons Int 8 0 (@Arr.cons Int 7 0 (@Arr.cons Int 6 0 (@Arr.cons Int 5 0 (@Arr.cons Int 4 0 (@Arr.cons Int 3 0 (@Arr.cons Int 2 0 (@Arr.cons Int 1 0 (@Arr.cons Int 0 0 (@Arr.nil Int))))))))))))))))))))))))))))))))), ((@Arr.cons Int 15 0 (@Arr.cons Int 14 0 (@Arr.cons Int 13 0 (@Arr.cons Int 12 0 (@Arr.cons Int 11 0 (@Arr.cons Int 10 0 (@Arr.cons Int 9 0 (@Arr.cons Int 8 0 (@Arr.cons Int 7 0 (@Arr.cons Int 6 0 (@Arr.cons Int 5 0 (@Arr.cons Int 4 0 (@Arr.cons Int 3 0 (@Arr.cons Int 2 0 (@Arr.cons Int 1 0 (@Arr.cons Int 0 0 (@Arr.nil Int))))))))))))))))), (0 : Int))), ((@Arr.cons Int 15 0 (@Arr.cons Int 14 0 (@Arr.cons Int 13 0 (@Arr.cons Int 12 0 (@Arr.cons Int 11 0 (@Arr.cons Int 10 0 (@Arr.cons Int 9 0 (@Arr.cons Int 8 0 (@Arr.cons Int 7 0 (@Arr.cons Int 6 0 (@Arr.cons Int 5 0 (@Arr.cons Int 4 0 (@Arr.cons Int 3 0 (@Arr.cons Int 2 0 (@Arr.cons Int 1 0 (@Arr.cons Int 0 0 (@Arr.nil Int))))))))))))))))), ((0 : Int), ((0 : Int), ([] : List Int)))))))))))))] : List ((Int × (Int × (Int × (Int × (Int × ((Arr Int 32) × (List UInt8 × (List UInt8 × (((Arr Int 32) × ((Arr Int 16) × Int)) × ((Arr Int 16) × (Int × (Int × (List Int))))))))))))))))) 208) then
                          (X ((x38, ((IntKind.wrap .i64 (x39 + 1)), ())), ((v77, h0.2), ((h1 ++ ([((0 : Int), ((0 : Int), ((0 : Int), ((0 : Int), ((0 : Int), ((@Arr.cons Int 31 0 (@Arr.cons Int 30 0 (@Arr.cons Int 29 0 (@Arr.cons Int 28 0 (@Arr.cons Int 27 0 (@Arr.cons Int 26 0 (@Arr.cons Int 25 0 (@Arr.cons Int 24 0 (@Arr.cons Int 23 0 (@Arr.cons Int 22 0 (@Arr.cons Int 21 0 (@Arr.cons Int 20 0 (@Arr.cons Int 19 0 (@Arr.cons Int 18 0 (@Arr.cons Int 17 0 (@Arr.cons Int 16 0 (@Arr.cons Int 15 0 (@Arr.cons Int 14 0 (@Arr.cons Int 13 0 (@Arr.cons Int 12 0 (@Arr.cons Int 11 0 (@Arr.cons Int 10 0 (@Arr.cons Int 9 0 (@Arr.cons Int 8 0 (@Arr.cons Int 7 0 (@Arr.cons Int 6 0 (@Arr.cons Int 5 0 (@Arr.cons Int 4 0 (@Arr.cons Int 3 0 (@Arr.cons Int 2 0 (@Arr.cons Int 1 0 (@Arr.cons Int 0 0 (@Arr.nil Int))))))))))))))))))))))))))))))))), ((Array.toList (List.toArray ([] : List UInt8))), ((Array.toList (List.toArray ([] : List UInt8))), (((@Arr.cons Int 31 0 (@Arr.cons Int 30 0 (@Arr.cons Int 29 0 (@Arr.cons Int 28 0 (@Arr.cons Int 27 0 (@Arr.cons Int 26 0 (@Arr.cons Int 25 0 (@Arr.cons Int 24 0 (@Arr.cons Int 23 0 (@Arr.cons Int 22 0 (@Arr.cons Int 21 0 (@Arr.cons Int 20 0 (@Arr.cons Int 19 0 (@Arr.cons Int 18 0 (@Arr.cons Int 17 0 (@Arr.cons Int 16 0 (@Arr.cons Int 15 0 (@Arr.cons Int 14 0 (@Arr.cons Int 13 0 (@Arr.cons Int 12 0 (@Arr.cons Int 11 0 (@Arr.cons Int 10 0 (@Arr.cons Int 9 0 (@Arr.cons Int 8 0 (@Arr.cons Int 7 0 (@Arr.cons Int 6 0 (@Arr.cons Int 5 0 (@Arr.cons Int 4 0 (@Arr.cons Int 3 0 (@Arr.cons Int 2 0 (@Arr.cons Int 1 0 (@Arr.cons Int 0 0 (@Arr.nil Int))))))))))))))))))))))))))))))))), ((@Arr.cons Int 15 0 (@Arr.cons Int 14 0 (@Arr.cons Int 13 0 (@Arr.cons Int 12 0 (@Arr.cons Int 11 0 (@Arr.cons Int 10 0 (@Arr.cons Int 9 0 (@Arr.cons Int 8 0 (@Arr.cons Int 7 0 (@Arr.cons Int 6 0 (@Arr.cons Int 5 0 (@Arr.cons Int 4 0 (@Arr.cons Int 3 0 (@Arr.cons Int 2 0 (@Arr.cons Int 1 0 (@Arr.cons Int 0 0 (@Arr.nil Int))))))))))))))))), (0 : Int))), ((@Arr.cons Int 15 0 (@Arr.cons Int 14 0 (@Arr.cons Int 13 0 (@Arr.cons Int 12 0 (@Arr.cons Int 11 0 (@Arr.cons Int 10 0 (@Arr.cons Int 9 0 (@Arr.cons Int 8 0 (@Arr.cons Int 7 0 (@Arr.cons Int 6 0 (@Arr.cons Int 5 0 (@Arr.cons Int 4 0 (@Arr.cons Int 3 0 (@Arr.cons Int 2 0 (@Arr.cons Int 1 0 (@Arr.cons Int 0 0 (@Arr.nil Int))))))))))))))))), ((0 : Int), ((0 : Int), ([] : List Int)))))))))))))] : List ((Int × (Int × (Int × (Int × (Int × ((Arr Int 32) × (List UInt8 × (List UInt8 × (((Arr Int 32) × ((Arr Int 16) × Int)) × ((Arr Int 16) × (Int × (Int × (List Int)))))))))))))))), ()))))
                         else
                          none
                       else
                        bif (roomB ((List.length h1) + (List.length ([((IntKind.wrap .i64 v9.1), ((IntKind.wrap .i64 v14.1), ((IntKind.wrap .i64 v18.1), ((IntKind.wrap .i64 v22.1), ((IntKind.wrap .i64 v26.1), (v30, (v62, (v70, ((v34, (v38, (IntKind.wrap .u32 (IntKind.wrap .i64 v42.1)))), (v46, ((IntKind.wrap .u32 (IntKind.wrap .i64 v50.1)), ((IntKind.wrap .u32 (IntKind.wrap .i64 v54.1)), v76))))))))))))] : List ((Int × (Int × (Int × (Int × (Int × ((Arr Int 32) × (List UInt8 × (List UInt8 × (((Arr Int 32) × ((Arr Int 16) × Int)) × ((Arr Int 16) × (Int × (Int × (List Int))))))))))))))))) 208) then
                         (X ((x38, ((IntKind.wrap .i64 (x39 + 1)), ())), ((v77, h0.2), ((h1 ++ ([((IntKind.wrap .i64 v9.1), ((IntKind.wrap .i64 v14.1), ((IntKind.wrap .i64 v18.1), ((IntKind.wrap .i64 v22.1), ((IntKind.wrap .i64 v26.1), (v30, (v62, (v70, ((v34, (v38, (IntKind.wrap .u32 (IntKind.wrap .i64 v42.1)))), (v46, ((IntKind.wrap .u32 (IntKind.wrap .i64 v50.1)), ((IntKind.wrap .u32 (IntKind.wrap .i64 v54.1)), v76))))))))))))] : List ((Int × (Int × (Int × (Int × (Int × ((Arr Int 32) × (List UInt8 × (List UInt8 × (((Arr Int 32) × ((Arr Int 16) × Int)) × ((Arr Int 16) × (Int × (Int × (List Int)))))))))))))))), ()))))
                        else
                         none
 else
  some ((.inr ((), ((h0.1, h0.2), (h1, ())))))
noncomputable def script_Parse_L14_R (c : ((Int × (Int × Unit)) × (((List Int) × (Bool)) × ((List (Int × (Int × (Int × (Int × (Int × ((Arr Int 32) × (List UInt8 × (List UInt8 × (((Arr Int 32) × ((Arr Int 16) × Int)) × ((Arr Int 16) × (Int × (Int × (List Int)))))))))))))) × Unit)))) : Option (((((List (Int × (Int × (Int × (Int × (Int × ((Arr Int 32) × (List UInt8 × (List UInt8 × (((Arr Int 32) × ((Arr Int 16) × Int)) × ((Arr Int 16) × (Int × (Int × (List Int)))))))))))))) × (Int × Unit)) × Unit) ⊕ (Unit × (((List Int) × (Bool)) × ((List (Int × (Int × (Int × (Int × (Int × ((Arr Int 32) × (List UInt8 × (List UInt8 × (((Arr Int 32) × ((Arr Int 16) × Int)) × ((Arr Int 16) × (Int × (Int × (List Int)))))))))))))) × Unit))))) := gl (fun X c => script_Parse_L14 N X c.1.1 c.1.2.1 c.2.1 c.2.2.1) N c
theorem script_Parse_L14_S (X : ((Int × (Int × Unit)) × (((List Int) × (Bool)) × ((List (Int × (Int × (Int × (Int × (Int × ((Arr Int 32) × (List UInt8 × (List UInt8 × (((Arr Int 32) × ((Arr Int 16) × Int)) × ((Arr Int 16) × (Int × (Int × (List Int)))))))))))))) × Unit))) → Option (((((List (Int × (Int × (Int × (Int × (Int × ((Arr Int 32) × (List UInt8 × (List UInt8 × (((Arr Int 32) × ((Arr Int 16) × Int)) × ((Arr Int 16) × (Int × (Int × (List Int)))))))))))))) × (Int × Unit)) × Unit) ⊕ (Unit × (((List Int) × (Bool)) × ((List (Int × (Int × (Int × (Int × (Int × ((Arr Int 32) × (List UInt8 × (List UInt8 × (((Arr Int 32) × ((Arr Int 16) × Int)) × ((Arr Int 16) × (Int × (Int × (List Int)))))))))))))) × Unit)))))) (x38 : Int) (x39 : Int) (h0 : (List Int) × (Bool)) (h1 : List (Int × (Int × (Int × (Int × (Int × ((Arr Int 32) × (List UInt8 × (List UInt8 × (((Arr Int 32) × ((Arr Int 16) × Int)) × ((Arr Int 16) × (Int × (Int × (List Int)))))))))))))) : (roundK Tryd.prog (Ev103 N) 400 [19] script_Parse_L14_I (loopAt Tryd.prog [19] 14) X ((x38, x39, ()), (h0, h1, ()))).run = script_Parse_L14 N X x38 x39 h0 h1 := by kernel_rfl
noncomputable def Ev104 : (R : Type) → Env R := Env.addLp (Ev103 N) [19] 0 14 (fun R => lpK Tryd.prog script_Parse_L14_I (fun X c => script_Parse_L14 N X c.1.1 c.1.2.1 c.2.1 c.2.2.1) N)
theorem Ev104_ok (R : Type) : EnvOK Tryd.prog (Ev104 N R) := EnvOK.addLp (Ev103_ok N R) (by kernel_rfl) (lpK_ok (li := script_Parse_L14_I) (G := fun X c => script_Parse_L14 N X c.1.1 c.1.2.1 c.2.1 c.2.2.1) hmx (Ev103_ok N _) (by kernel_rfl) loopAt_sub (fun (X : CT script_Parse_L14_I.sh → Option (OT script_Parse_L14_I.outs)) (c : CT script_Parse_L14_I.sh) => script_Parse_L14_S N X c.1.1 c.1.2.1 c.2.1 c.2.2.1) N)
noncomputable def script_Parse (b0 : List (Int)) : Option ((List (Int × (Int × (Int × (Int × (Int × ((Arr Int 32) × (List UInt8 × (List UInt8 × (((Arr Int 32) × ((Arr Int 16) × Int)) × ((Arr Int 16) × (Int × (Int × (List Int)))))))))))))) × Int) :=
 bif (decide ((((List.length b0) : Nat) : Int) < (12 : Int))) then
  some ((([] : List ((Int × (Int × (Int × (Int × (Int × ((Arr Int 32) × (List UInt8 × (List UInt8 × (((Arr Int 32) × ((Arr Int 16) × Int)) × ((Arr Int 16) × (Int × (Int × (List Int))))))))))))))), (4 : Int)))
 else
  Option.bind (takeI b0 (2 : Int)) fun (v2 : (List Int)) =>
  Option.bind (@toBy v2) fun (v3 : (List UInt8)) =>
  bif (!(decide (v3 = (Array.toList (List.toArray ([69, 85] : List UInt8)))))) then
   some ((([] : List ((Int × (Int × (Int × (Int × (Int × ((Arr Int 32) × (List UInt8 × (List UInt8 × (((Arr Int 32) × ((Arr Int 16) × Int)) × ((Arr Int 16) × (Int × (Int × (List Int))))))))))))))), (3 : Int)))
  else
   Option.bind (takeI b0 (IntKind.wrap .i64 ((((List.length b0) : Nat) : Int) - 8))) fun (v4 : (List Int)) =>
   Option.bind (script_seal N v4) fun v5 =>
   Option.bind (dropI b0 (((List.length v4) : Nat) : Int)) fun (v6 : (List Int)) =>
   Option.bind (octs_Same N v5 v6) fun v7 =>
   bif (!v7) then
    some ((([] : List ((Int × (Int × (Int × (Int × (Int × ((Arr Int 32) × (List UInt8 × (List UInt8 × (((Arr Int 32) × ((Arr Int 16) × Int)) × ((Arr Int 16) × (Int × (Int × (List Int))))))))))))))), (14 : Int)))
   else
    Option.bind (dropI v4 (2 : Int)) fun (v8 : (List Int)) =>
    bif (decide ((((List.length v8) : Nat) : Int) < (2 : Int))) then
     Option.bind (script_Parse_L14_R N (((IntKind.wrap .i64 (bits .or .u64 (bits .or .u64 (0 : Int) (IntKind.wrap .u64 ((IntKind.wrap .u64 (0 : Int)) * ((2 : Int) ^ (min (Int.toNat (IntKind.wrap .i64 ((8 : Int) * (0 : Int)))) (IntKind.bits .u64)))))) (IntKind.wrap .u64 ((IntKind.wrap .u64 (0 : Int)) * ((2 : Int) ^ (min (Int.toNat (IntKind.wrap .i64 ((8 : Int) * (IntKind.wrap .i64 ((0 : Int) + 1))))) (IntKind.bits .u64))))))), ((0 : Int), ())), ((([] : List Int), true), (([] : List ((Int × (Int × (Int × (Int × (Int × ((Arr Int 32) × (List UInt8 × (List UInt8 × (((Arr Int 32) × ((Arr Int 16) × Int)) × ((Arr Int 16) × (Int × (Int × (List Int))))))))))))))), ())))) fun v9 =>
     Sum.elim
      (fun (v10 : (((List (Int × (Int × (Int × (Int × (Int × ((Arr Int 32) × (List UInt8 × (List UInt8 × (((Arr Int 32) × ((Arr Int 16) × Int)) × ((Arr Int 16) × (Int × (Int × (List Int)))))))))))))) × (Int × Unit)) × Unit)) =>
      some ((v10.1.1, v10.1.2.1)))
      (fun (v10 : (Unit × (((List Int) × Bool) × ((List (Int × (Int × (Int × (Int × (Int × ((Arr Int 32) × (List UInt8 × (List UInt8 × (((Arr Int 32) × ((Arr Int 16) × Int)) × ((Arr Int 16) × (Int × (Int × (List Int)))))))))))))) × Unit)))) =>
      bif (decide ((0 : Int) < (((List.length v10.2.1.1) : Nat) : Int))) then
       some ((([] : List ((Int × (Int × (Int × (Int × (Int × ((Arr Int 32) × (List UInt8 × (List UInt8 × (((Arr Int 32) × ((Arr Int 16) × Int)) × ((Arr Int 16) × (Int × (Int × (List Int))))))))))))))), (3 : Int)))
      else
       some ((v10.2.2.1, (0 : Int)))) v9
    else
     Option.bind (takeI v8 (2 : Int)) fun (v9 : (List Int)) =>
     Option.bind (slices_Clone_byte_byte N v9) fun v10 =>
     Option.bind (dropI v8 (2 : Int)) fun (v11 : (List Int)) =>
     Option.bind (@Gt.octs_Get (200 : Nat) v10 false) fun (v12 : (Int × Int)) =>
     bif (decide ((2000 : Int) < (IntKind.wrap .i64 v12.1))) then
      some ((([] : List ((Int × (Int × (Int × (Int × (Int × ((Arr Int 32) × (List UInt8 × (List UInt8 × (((Arr Int 32) × ((Arr Int 16) × Int)) × ((Arr Int 16) × (Int × (Int × (List Int))))))))))))))), (5 : Int)))
     else
      Option.bind (script_Parse_L14_R N (((IntKind.wrap .i64 v12.1), ((0 : Int), ())), ((v11, false), (([] : List ((Int × (Int × (Int × (Int × (Int × ((Arr Int 32) × (List UInt8 × (List UInt8 × (((Arr Int 32) × ((Arr Int 16) × Int)) × ((Arr Int 16) × (Int × (Int × (List Int))))))))))))))), ())))) fun v13 =>
      Sum.elim
       (fun (v14 : (((List (Int × (Int × (Int × (Int × (Int × ((Arr Int 32) × (List UInt8 × (List UInt8 × (((Arr Int 32) × ((Arr Int 16) × Int)) × ((Arr Int 16) × (Int × (Int × (List Int)))))))))))))) × (Int × Unit)) × Unit)) =>
       some ((v14.1.1, v14.1.2.1)))
       (fun (v14 : (Unit × (((List Int) × Bool) × ((List (Int × (Int × (Int × (Int × (Int × ((Arr Int 32) × (List UInt8 × (List UInt8 × (((Arr Int 32) × ((Arr Int 16) × Int)) × ((Arr Int 16) × (Int × (Int × (List Int)))))))))))))) × Unit)))) =>
       bif (decide ((0 : Int) < (((List.length v14.2.1.1) : Nat) : Int))) then
        some ((([] : List ((Int × (Int × (Int × (Int × (Int × ((Arr Int 32) × (List UInt8 × (List UInt8 × (((Arr Int 32) × ((Arr Int 16) × Int)) × ((Arr Int 16) × (Int × (Int × (List Int))))))))))))))), (3 : Int)))
       else
        some ((v14.2.2.1, (0 : Int)))) v13
theorem script_Parse_S (b0 : List (Int)) : (runK Tryd.prog (Ev104 N) 400 19 [(.sl (.int .u8))] [(.sl (.pair (.int .i64) (.pair (.int .i64) (.pair (.int .i64) (.pair (.int .i64) (.pair (.int .i64) (.pair (.arr 32 (.int .u8)) (.pair .str (.pair .str (.pair (.pair (.arr 32 (.int .u8)) (.pair (.arr 16 (.int .u8)) (.int .u32))) (.pair (.arr 16 (.int .u8)) (.pair (.int .u32) (.pair (.int .u32) (.sl (.int .u8))))))))))))))), (.int .i64)] (b0, ())).run = script_Parse N b0 := by kernel_rfl
noncomputable def Ev105 : (R : Type) → Env R := Env.addFn (Ev104 N) 19 (fun R => fnK [(.sl (.int .u8))] [(.sl (.pair (.int .i64) (.pair (.int .i64) (.pair (.int .i64) (.pair (.int .i64) (.pair (.int .i64) (.pair (.arr 32 (.int .u8)) (.pair .str (.pair .str (.pair (.pair (.arr 32 (.int .u8)) (.pair (.arr 16 (.int .u8)) (.int .u32))) (.pair (.arr 16 (.int .u8)) (.pair (.int .u32) (.pair (.int .u32) (.sl (.int .u8))))))))))))))), (.int .i64)] (fun c => script_Parse N c.1))
theorem Ev105_ok (R : Type) : EnvOK Tryd.prog (Ev105 N R) := EnvOK.addFn hmx (Ev104_ok N R) (Ev104_ok N _) (by kernel_rfl) (fun c => script_Parse_S N c.1)
noncomputable def Ev106 : (R : Type) → Env R := Env.addInl (Ev105 N) [23, 33]
theorem Ev106_ok (R : Type) : EnvOK Tryd.prog (Ev106 N R) := EnvOK.addInl (Ev105_ok N R) (by kernel_rfl)
noncomputable def ref40_text_1_ref01_Big_L3_I : LI := ⟨24, 0, [], ⟨[(0, .ty (.int .u64)), (5, .lit (.own 0)), (6, .ty (.int .i64))], [.own (.int .u8) 5]⟩, [(.exit 0, ⟨[(5, .lit (.own 0))], [.own (.int .u8) 5]⟩)]⟩
noncomputable def ref40_text_1_ref01_Big_L3 (N : Nat) (X : ((Int × (Int × Unit)) × ((List Int) × Unit)) → Option ((Unit × ((List Int) × Unit)))) (n0 : Int) (i6 : Int) (h0 : List (Int)) : Option ((Unit × ((List Int) × Unit))) :=
 bif (decide ((0 : Int) ≤ i6)) then
  bif (decide ((0 : Int) ≤ i6 ∧ i6 < (((List.length h0) : Nat) : Int))) then
   Option.bind (h0[Int.toNat i6]?) fun (v5 : Int) =>
   (X (((IntKind.wrap .u64 (@Int.tdiv n0 (256 : Int))), ((IntKind.wrap .i64 (i6 - 1)), ())), ((@List.set Int h0 (Int.toNat i6) (IntKind.wrap .u8 (@Int.tmod n0 (256 : Int)))), ())))
  else
   none
 else
  some (((), (h0, ())))
noncomputable def ref40_text_1_ref01_Big_L3_R (c : ((Int × (Int × Unit)) × ((List Int) × Unit))) : Option ((Unit × ((List Int) × Unit))) := gl (fun X c => ref40_text_1_ref01_Big_L3 N X c.1.1 c.1.2.1 c.2.1) N c
theorem ref40_text_1_ref01_Big_L3_S (X : ((Int × (Int × Unit)) × ((List Int) × Unit)) → Option ((Unit × ((List Int) × Unit)))) (n0 : Int) (i6 : Int) (h0 : List (Int)) : (roundK Tryd.prog (Ev106 N) 400 [33, 1, 45] ref40_text_1_ref01_Big_L3_I (loopAt Tryd.prog [33, 1, 45] 3) X ((n0, i6, ()), (h0, ()))).run = ref40_text_1_ref01_Big_L3 N X n0 i6 h0 := by kernel_rfl
noncomputable def Ev107 : (R : Type) → Env R := Env.addLp (Ev106 N) [33, 1, 45] 0 3 (fun R => lpK Tryd.prog ref40_text_1_ref01_Big_L3_I (fun X c => ref40_text_1_ref01_Big_L3 N X c.1.1 c.1.2.1 c.2.1) N)
theorem Ev107_ok (R : Type) : EnvOK Tryd.prog (Ev107 N R) := EnvOK.addLp (Ev106_ok N R) (by kernel_rfl) (lpK_ok (li := ref40_text_1_ref01_Big_L3_I) (G := fun X c => ref40_text_1_ref01_Big_L3 N X c.1.1 c.1.2.1 c.2.1) hmx (Ev106_ok N _) (by kernel_rfl) loopAt_sub (fun (X : CT ref40_text_1_ref01_Big_L3_I.sh → Option (OT ref40_text_1_ref01_Big_L3_I.outs)) (c : CT ref40_text_1_ref01_Big_L3_I.sh) => ref40_text_1_ref01_Big_L3_S N X c.1.1 c.1.2.1 c.2.1) N)
noncomputable def ref40_text (b0 : List (Int)) : Option (List Int) :=
 Option.bind (ref40_text_1_ref01_Big_L3_R N (((IntKind.wrap .u64 (((List.length b0) : Nat) : Int)), ((IntKind.wrap .i64 ((2 : Int) - 1)), ())), ((@List.replicate Int (Int.toNat (2 : Int)) (0 : Int)), ()))) fun v2 =>
 bif (roomB ((List.length v2.2.1) + (List.length b0)) 1) then
  some ((v2.2.1 ++ b0))
 else
  none
theorem ref40_text_S (b0 : List (Int)) : (runK Tryd.prog (Ev107 N) 400 45 [(.sl (.int .u8))] [(.sl (.int .u8))] (b0, ())).run = ref40_text N b0 := by kernel_rfl
noncomputable def Ev108 : (R : Type) → Env R := Env.addFn (Ev107 N) 45 (fun R => fnK [(.sl (.int .u8))] [(.sl (.int .u8))] (fun c => ref40_text N c.1))
theorem Ev108_ok (R : Type) : EnvOK Tryd.prog (Ev108 N R) := EnvOK.addFn hmx (Ev107_ok N R) (Ev107_ok N _) (by kernel_rfl) (fun c => ref40_text_S N c.1)
noncomputable def Ev109 : (R : Type) → Env R := Env.addInl (Ev108 N) [23]
theorem Ev109_ok (R : Type) : EnvOK Tryd.prog (Ev109 N R) := EnvOK.addInl (Ev108_ok N R) (by kernel_rfl)
noncomputable def Ev110 : (R : Type) → Env R := Env.addBx (Ev109 N) [(27, 0)]
theorem Ev110_ok (R : Type) : EnvOK Tryd.prog (Ev110 N R) := EnvOK.addBx (Ev109_ok N R) [(27, 0)]
noncomputable def ref01_Big_L3_I : LI := ⟨24, 0, [], ⟨[(0, .ty (.int .u64)), (5, .lit (.own 0)), (6, .ty (.int .i64))], [.own (.int .u8) 5]⟩, [(.exit 0, ⟨[(5, .lit (.own 0))], [.own (.int .u8) 5]⟩)]⟩
noncomputable def ref01_Big_L3 (N : Nat) (X : ((Int × (Int × Unit)) × ((List Int) × Unit)) → Option ((Unit × ((List Int) × Unit)))) (n0 : Int) (i6 : Int) (h0 : List (Int)) : Option ((Unit × ((List Int) × Unit))) :=
 bif (decide ((0 : Int) ≤ i6)) then
  bif (decide ((0 : Int) ≤ i6 ∧ i6 < (((List.length h0) : Nat) : Int))) then
   Option.bind (h0[Int.toNat i6]?) fun (v5 : Int) =>
   (X (((IntKind.wrap .u64 (@Int.tdiv n0 (256 : Int))), ((IntKind.wrap .i64 (i6 - 1)), ())), ((@List.set Int h0 (Int.toNat i6) (IntKind.wrap .u8 (@Int.tmod n0 (256 : Int)))), ())))
  else
   none
 else
  some (((), (h0, ())))
noncomputable def ref01_Big_L3_R (c : ((Int × (Int × Unit)) × ((List Int) × Unit))) : Option ((Unit × ((List Int) × Unit))) := gl (fun X c => ref01_Big_L3 N X c.1.1 c.1.2.1 c.2.1) N c
theorem ref01_Big_L3_S (X : ((Int × (Int × Unit)) × ((List Int) × Unit)) → Option ((Unit × ((List Int) × Unit)))) (n0 : Int) (i6 : Int) (h0 : List (Int)) : (roundK Tryd.prog (Ev110 N) 400 [33] ref01_Big_L3_I (loopAt Tryd.prog [33] 3) X ((n0, i6, ()), (h0, ()))).run = ref01_Big_L3 N X n0 i6 h0 := by kernel_rfl
noncomputable def Ev111 : (R : Type) → Env R := Env.addLp (Ev110 N) [33] 0 3 (fun R => lpK Tryd.prog ref01_Big_L3_I (fun X c => ref01_Big_L3 N X c.1.1 c.1.2.1 c.2.1) N)
theorem Ev111_ok (R : Type) : EnvOK Tryd.prog (Ev111 N R) := EnvOK.addLp (Ev110_ok N R) (by kernel_rfl) (lpK_ok (li := ref01_Big_L3_I) (G := fun X c => ref01_Big_L3 N X c.1.1 c.1.2.1 c.2.1) hmx (Ev110_ok N _) (by kernel_rfl) loopAt_sub (fun (X : CT ref01_Big_L3_I.sh → Option (OT ref01_Big_L3_I.outs)) (c : CT ref01_Big_L3_I.sh) => ref01_Big_L3_S N X c.1.1 c.1.2.1 c.2.1) N)
noncomputable def ref01_Big (n0 : Int) (width1 : Int) : Option (List Int) :=
 bif ((decide ((0 : Int) ≤ width1 ∧ width1 ≤ width1)) && (roomB (Int.toNat width1) 1)) then
  Option.bind (ref01_Big_L3_R N ((n0, ((IntKind.wrap .i64 (width1 - 1)), ())), ((@List.replicate Int (Int.toNat width1) (0 : Int)), ()))) fun v3 =>
  some (v3.2.1)
 else
  none
theorem ref01_Big_S (n0 : Int) (width1 : Int) : (runK Tryd.prog (Ev111 N) 400 33 [(.int .u64), (.int .i64)] [(.sl (.int .u8))] (n0, width1, ())).run = ref01_Big N n0 width1 := by kernel_rfl
noncomputable def Ev112 : (R : Type) → Env R := Env.addFn (Ev111 N) 33 (fun R => fnK [(.int .u64), (.int .i64)] [(.sl (.int .u8))] (fun c => ref01_Big N c.1 c.2.1))
theorem Ev112_ok (R : Type) : EnvOK Tryd.prog (Ev112 N R) := EnvOK.addFn hmx (Ev111_ok N R) (Ev111_ok N _) (by kernel_rfl) (fun c => ref01_Big_S N c.1 c.2.1)
noncomputable def ref40_one (x0 : Int × (Int × (Int × (Int × (Int × ((Arr Int 32) × (List UInt8 × (List UInt8 × (((Arr Int 32) × ((Arr Int 16) × Int)) × ((Arr Int 16) × (Int × (Int × (List Int))))))))))))) : Option (List Int) :=
 Option.bind (ref01_Big N (IntKind.wrap .u64 x0.2.2.2.2.1) (4 : Int)) fun v2 =>
 bif ((roomB ((List.length ([(IntKind.wrap .u8 x0.1), (IntKind.wrap .u8 x0.2.1), (IntKind.wrap .u8 x0.2.2.1), (IntKind.wrap .u8 x0.2.2.2.1)] : List (Int))) + (List.length v2)) 1) && (!(@List.isEmpty Int v2))) then
  bif (roomB ((List.length (([(IntKind.wrap .u8 x0.1), (IntKind.wrap .u8 x0.2.1), (IntKind.wrap .u8 x0.2.2.1), (IntKind.wrap .u8 x0.2.2.2.1)] : List (Int)) ++ v2)) + (List.length x0.2.2.2.2.2.1.l)) 1) then
   bif (roomB ((List.length ((([(IntKind.wrap .u8 x0.1), (IntKind.wrap .u8 x0.2.1), (IntKind.wrap .u8 x0.2.2.1), (IntKind.wrap .u8 x0.2.2.2.1)] : List (Int)) ++ v2) ++ x0.2.2.2.2.2.1.l)) + (List.length x0.2.2.2.2.2.2.2.2.1.1.l)) 1) then
    Option.bind (ref01_Big N (IntKind.wrap .u64 x0.2.2.2.2.2.2.2.2.1.2.2) (4 : Int)) fun v3 =>
    bif (roomB ((List.length (((([(IntKind.wrap .u8 x0.1), (IntKind.wrap .u8 x0.2.1), (IntKind.wrap .u8 x0.2.2.1), (IntKind.wrap .u8 x0.2.2.2.1)] : List (Int)) ++ v2) ++ x0.2.2.2.2.2.1.l) ++ x0.2.2.2.2.2.2.2.2.1.1.l)) + (List.length x0.2.2.2.2.2.2.2.2.1.2.1.l)) 1) then
     bif (roomB ((List.length ((((([(IntKind.wrap .u8 x0.1), (IntKind.wrap .u8 x0.2.1), (IntKind.wrap .u8 x0.2.2.1), (IntKind.wrap .u8 x0.2.2.2.1)] : List (Int)) ++ v2) ++ x0.2.2.2.2.2.1.l) ++ x0.2.2.2.2.2.2.2.2.1.1.l) ++ x0.2.2.2.2.2.2.2.2.1.2.1.l)) + (List.length v3)) 1) then
      Option.bind (ref01_Big N (IntKind.wrap .u64 x0.2.2.2.2.2.2.2.2.2.2.1) (4 : Int)) fun v4 =>
      bif (roomB ((List.length (((((([(IntKind.wrap .u8 x0.1), (IntKind.wrap .u8 x0.2.1), (IntKind.wrap .u8 x0.2.2.1), (IntKind.wrap .u8 x0.2.2.2.1)] : List (Int)) ++ v2) ++ x0.2.2.2.2.2.1.l) ++ x0.2.2.2.2.2.2.2.2.1.1.l) ++ x0.2.2.2.2.2.2.2.2.1.2.1.l) ++ v3)) + (List.length x0.2.2.2.2.2.2.2.2.2.1.l)) 1) then
       bif (roomB ((List.length ((((((([(IntKind.wrap .u8 x0.1), (IntKind.wrap .u8 x0.2.1), (IntKind.wrap .u8 x0.2.2.1), (IntKind.wrap .u8 x0.2.2.2.1)] : List (Int)) ++ v2) ++ x0.2.2.2.2.2.1.l) ++ x0.2.2.2.2.2.2.2.2.1.1.l) ++ x0.2.2.2.2.2.2.2.2.1.2.1.l) ++ v3) ++ x0.2.2.2.2.2.2.2.2.2.1.l)) + (List.length v4)) 1) then
        Option.bind (ref01_Big N (IntKind.wrap .u64 x0.2.2.2.2.2.2.2.2.2.2.2.1) (4 : Int)) fun v5 =>
        bif (roomB (List.length x0.2.2.2.2.2.2.1) 1) then
         Option.bind (ref40_text N (@ofB x0.2.2.2.2.2.2.1)) fun v6 =>
         bif (roomB ((List.length (((((((([(IntKind.wrap .u8 x0.1), (IntKind.wrap .u8 x0.2.1), (IntKind.wrap .u8 x0.2.2.1), (IntKind.wrap .u8 x0.2.2.2.1)] : List (Int)) ++ v2) ++ x0.2.2.2.2.2.1.l) ++ x0.2.2.2.2.2.2.2.2.1.1.l) ++ x0.2.2.2.2.2.2.2.2.1.2.1.l) ++ v3) ++ x0.2.2.2.2.2.2.2.2.2.1.l) ++ v4)) + (List.length v5)) 1) then
          bif (roomB ((List.length ((((((((([(IntKind.wrap .u8 x0.1), (IntKind.wrap .u8 x0.2.1), (IntKind.wrap .u8 x0.2.2.1), (IntKind.wrap .u8 x0.2.2.2.1)] : List (Int)) ++ v2) ++ x0.2.2.2.2.2.1.l) ++ x0.2.2.2.2.2.2.2.2.1.1.l) ++ x0.2.2.2.2.2.2.2.2.1.2.1.l) ++ v3) ++ x0.2.2.2.2.2.2.2.2.2.1.l) ++ v4) ++ v5)) + (List.length v6)) 1) then
           bif (roomB (List.length x0.2.2.2.2.2.2.2.1) 1) then
            Option.bind (ref40_text N (@ofB x0.2.2.2.2.2.2.2.1)) fun v7 =>
            Option.bind (ref40_text N x0.2.2.2.2.2.2.2.2.2.2.2.2) fun v8 =>
            bif (roomB ((List.length (((((((((([(IntKind.wrap .u8 x0.1), (IntKind.wrap .u8 x0.2.1), (IntKind.wrap .u8 x0.2.2.1), (IntKind.wrap .u8 x0.2.2.2.1)] : List (Int)) ++ v2) ++ x0.2.2.2.2.2.1.l) ++ x0.2.2.2.2.2.2.2.2.1.1.l) ++ x0.2.2.2.2.2.2.2.2.1.2.1.l) ++ v3) ++ x0.2.2.2.2.2.2.2.2.2.1.l) ++ v4) ++ v5) ++ v6)) + (List.length v7)) 1) then
             bif (roomB ((List.length ((((((((((([(IntKind.wrap .u8 x0.1), (IntKind.wrap .u8 x0.2.1), (IntKind.wrap .u8 x0.2.2.1), (IntKind.wrap .u8 x0.2.2.2.1)] : List (Int)) ++ v2) ++ x0.2.2.2.2.2.1.l) ++ x0.2.2.2.2.2.2.2.2.1.1.l) ++ x0.2.2.2.2.2.2.2.2.1.2.1.l) ++ v3) ++ x0.2.2.2.2.2.2.2.2.2.1.l) ++ v4) ++ v5) ++ v6) ++ v7)) + (List.length v8)) 1) then
              some ((((((((((((([(IntKind.wrap .u8 x0.1), (IntKind.wrap .u8 x0.2.1), (IntKind.wrap .u8 x0.2.2.1), (IntKind.wrap .u8 x0.2.2.2.1)] : List (Int)) ++ v2) ++ x0.2.2.2.2.2.1.l) ++ x0.2.2.2.2.2.2.2.2.1.1.l) ++ x0.2.2.2.2.2.2.2.2.1.2.1.l) ++ v3) ++ x0.2.2.2.2.2.2.2.2.2.1.l) ++ v4) ++ v5) ++ v6) ++ v7) ++ v8))
             else
              none
            else
             none
           else
            none
          else
           none
         else
          none
        else
         none
       else
        none
      else
       none
     else
      none
    else
     none
   else
    none
  else
   none
 else
  none
theorem ref40_one_S (x0 : Int × (Int × (Int × (Int × (Int × ((Arr Int 32) × (List UInt8 × (List UInt8 × (((Arr Int 32) × ((Arr Int 16) × Int)) × ((Arr Int 16) × (Int × (Int × (List Int))))))))))))) : (runK Tryd.prog (Ev112 N) 400 27 [(.pair (.int .i64) (.pair (.int .i64) (.pair (.int .i64) (.pair (.int .i64) (.pair (.int .i64) (.pair (.arr 32 (.int .u8)) (.pair .str (.pair .str (.pair (.pair (.arr 32 (.int .u8)) (.pair (.arr 16 (.int .u8)) (.int .u32))) (.pair (.arr 16 (.int .u8)) (.pair (.int .u32) (.pair (.int .u32) (.sl (.int .u8))))))))))))))] [(.sl (.int .u8))] (x0, ())).run = ref40_one N x0 := by kernel_rfl
noncomputable def Ev113 : (R : Type) → Env R := Env.addFn (Ev112 N) 27 (fun R => fnK [(.pair (.int .i64) (.pair (.int .i64) (.pair (.int .i64) (.pair (.int .i64) (.pair (.int .i64) (.pair (.arr 32 (.int .u8)) (.pair .str (.pair .str (.pair (.pair (.arr 32 (.int .u8)) (.pair (.arr 16 (.int .u8)) (.int .u32))) (.pair (.arr 16 (.int .u8)) (.pair (.int .u32) (.pair (.int .u32) (.sl (.int .u8))))))))))))))] [(.sl (.int .u8))] (fun c => ref40_one N c.1))
theorem Ev113_ok (R : Type) : EnvOK Tryd.prog (Ev113 N R) := EnvOK.addFn hmx (Ev112_ok N R) (Ev112_ok N _) (by kernel_rfl) (fun c => ref40_one_S N c.1)
noncomputable def ref40_sealed (b0 : List (Int)) : Option (List Int) :=
 Option.bind (ref06_Of N b0) fun v2 =>
 Option.bind (takeI v2.l (8 : Int)) fun (v3 : (List Int)) =>
 bif (roomB (List.length b0) 1) then
  bif (roomB ((List.length b0) + (List.length v3)) 1) then
   some ((b0 ++ v3))
  else
   none
 else
  none
theorem ref40_sealed_S (b0 : List (Int)) : (runK Tryd.prog (Ev113 N) 400 32 [(.sl (.int .u8))] [(.sl (.int .u8))] (b0, ())).run = ref40_sealed N b0 := by kernel_rfl
noncomputable def Ev114 : (R : Type) → Env R := Env.addFn (Ev113 N) 32 (fun R => fnK [(.sl (.int .u8))] [(.sl (.int .u8))] (fun c => ref40_sealed N c.1))
theorem Ev114_ok (R : Type) : EnvOK Tryd.prog (Ev114 N R) := EnvOK.addFn hmx (Ev113_ok N R) (Ev113_ok N _) (by kernel_rfl) (fun c => ref40_sealed_S N c.1)
noncomputable def ref40_Seal (n0 : Int) (b1 : List (Int)) : Option (List Int) :=
 Option.bind (ref01_Big N (IntKind.wrap .u64 n0) (2 : Int)) fun v3 =>
 bif ((roomB ((List.length ([69, 85] : List Int)) + (List.length v3)) 1) && (!(@List.isEmpty Int v3))) then
  bif (roomB ((List.length (([69, 85] : List Int) ++ v3)) + (List.length b1)) 1) then
   Option.bind (ref40_sealed N ((([69, 85] : List Int) ++ v3) ++ b1)) fun v4 =>
   some (v4)
  else
   none
 else
  none
theorem ref40_Seal_S (n0 : Int) (b1 : List (Int)) : (runK Tryd.prog (Ev114 N) 400 18 [(.int .i64), (.sl (.int .u8))] [(.sl (.int .u8))] (n0, b1, ())).run = ref40_Seal N n0 b1 := by kernel_rfl
noncomputable def Ev115 : (R : Type) → Env R := Env.addFn (Ev114 N) 18 (fun R => fnK [(.int .i64), (.sl (.int .u8))] [(.sl (.int .u8))] (fun c => ref40_Seal N c.1 c.2.1))
theorem Ev115_ok (R : Type) : EnvOK Tryd.prog (Ev115 N R) := EnvOK.addFn hmx (Ev114_ok N R) (Ev114_ok N _) (by kernel_rfl) (fun c => ref40_Seal_S N c.1 c.2.1)
noncomputable def ref40_Lay_L5_I : LI := ⟨35, 0, [(4, 5)], ⟨[(0, .ty (.sl (.pair (.int .i64) (.pair (.int .i64) (.pair (.int .i64) (.pair (.int .i64) (.pair (.int .i64) (.pair (.arr 32 (.int .u8)) (.pair .str (.pair .str (.pair (.pair (.arr 32 (.int .u8)) (.pair (.arr 16 (.int .u8)) (.int .u32))) (.pair (.arr 16 (.int .u8)) (.pair (.int .u32) (.pair (.int .u32) (.sl (.int .u8)))))))))))))))), (4, .lit (.own 0)), (5, .ty (.int .i64))], [.own (.int .u8) 5]⟩, [(.ret, ⟨[(2, .ty (.sl (.int .u8))), (3, .ty (.int .i64))], []⟩), (.exit 0, ⟨[(0, .ty (.sl (.pair (.int .i64) (.pair (.int .i64) (.pair (.int .i64) (.pair (.int .i64) (.pair (.int .i64) (.pair (.arr 32 (.int .u8)) (.pair .str (.pair .str (.pair (.pair (.arr 32 (.int .u8)) (.pair (.arr 16 (.int .u8)) (.int .u32))) (.pair (.arr 16 (.int .u8)) (.pair (.int .u32) (.pair (.int .u32) (.sl (.int .u8)))))))))))))))), (4, .lit (.own 0))], [.own (.int .u8) 5]⟩)]⟩
noncomputable def ref40_Lay_L5 (X : (((List (Int × (Int × (Int × (Int × (Int × ((Arr Int 32) × (List UInt8 × (List UInt8 × (((Arr Int 32) × ((Arr Int 16) × Int)) × ((Arr Int 16) × (Int × (Int × (List Int)))))))))))))) × (Int × Unit)) × ((List Int) × Unit)) → Option (((((List Int) × (Int × Unit)) × Unit) ⊕ (((List (Int × (Int × (Int × (Int × (Int × ((Arr Int 32) × (List UInt8 × (List UInt8 × (((Arr Int 32) × ((Arr Int 16) × Int)) × ((Arr Int 16) × (Int × (Int × (List Int)))))))))))))) × Unit) × ((List Int) × Unit))))) (l0 : List (Int × (Int × (Int × (Int × (Int × ((Arr Int 32) × (List UInt8 × (List UInt8 × (((Arr Int 32) × ((Arr Int 16) × Int)) × ((Arr Int 16) × (Int × (Int × (List Int)))))))))))))) (i5 : Int) (h0 : List (Int)) : Option (((((List Int) × (Int × Unit)) × Unit) ⊕ (((List (Int × (Int × (Int × (Int × (Int × ((Arr Int 32) × (List UInt8 × (List UInt8 × (((Arr Int 32) × ((Arr Int 16) × Int)) × ((Arr Int 16) × (Int × (Int × (List Int)))))))))))))) × Unit) × ((List Int) × Unit)))) :=
 bif (decide (i5 < (((List.length l0) : Nat) : Int))) then
  Option.bind (getI l0 i5) fun (v5 : (Int × (Int × (Int × (Int × (Int × ((Arr Int 32) × (List UInt8 × (List UInt8 × (((Arr Int 32) × ((Arr Int 16) × Int)) × ((Arr Int 16) × (Int × (Int × (List Int)))))))))))))) =>
  Option.bind (ref40_May N (v5.1, (v5.2.1, (v5.2.2.1, (v5.2.2.2.1, (v5.2.2.2.2.1, (v5.2.2.2.2.2.1, (v5.2.2.2.2.2.2.1, (v5.2.2.2.2.2.2.2.1, ((v5.2.2.2.2.2.2.2.2.1.1, (v5.2.2.2.2.2.2.2.2.1.2.1, v5.2.2.2.2.2.2.2.2.1.2.2)), (v5.2.2.2.2.2.2.2.2.2.1, (v5.2.2.2.2.2.2.2.2.2.2.1, (v5.2.2.2.2.2.2.2.2.2.2.2.1, v5.2.2.2.2.2.2.2.2.2.2.2.2))))))))))))) fun v6 =>
  bif (!(decide (v6 = (0 : Int)))) then
   some ((.inl ((([] : List Int), (v6, ())), ())))
  else
   Option.bind (getI l0 i5) fun (v7 : (Int × (Int × (Int × (Int × (Int × ((Arr Int 32) × (List UInt8 × (List UInt8 × (((Arr Int 32) × ((Arr Int 16) × Int)) × ((Arr Int 16) × (Int × (Int × (List Int)))))))))))))) =>
   Option.bind (ref40_one N (v7.1, (v7.2.1, (v7.2.2.1, (v7.2.2.2.1, (v7.2.2.2.2.1, (v7.2.2.2.2.2.1, (v7.2.2.2.2.2.2.1, (v7.2.2.2.2.2.2.2.1, ((v7.2.2.2.2.2.2.2.2.1.1, (v7.2.2.2.2.2.2.2.2.1.2.1, v7.2.2.2.2.2.2.2.2.1.2.2)), (v7.2.2.2.2.2.2.2.2.2.1, (v7.2.2.2.2.2.2.2.2.2.2.1, (v7.2.2.2.2.2.2.2.2.2.2.2.1, v7.2.2.2.2.2.2.2.2.2.2.2.2))))))))))))) fun v8 =>
   bif (roomB ((List.length h0) + (List.length v8)) 1) then
    (X ((l0, ((IntKind.wrap .i64 (i5 + 1)), ())), ((h0 ++ v8), ())))
   else
    none
 else
  some ((.inr ((l0, ()), (h0, ()))))
noncomputable def ref40_Lay_L5_R (c : (((List (Int × (Int × (Int × (Int × (Int × ((Arr Int 32) × (List UInt8 × (List UInt8 × (((Arr Int 32) × ((Arr Int 16) × Int)) × ((Arr Int 16) × (Int × (Int × (List Int)))))))))))))) × (Int × Unit)) × ((List Int) × Unit))) : Option (((((List Int) × (Int × Unit)) × Unit) ⊕ (((List (Int × (Int × (Int × (Int × (Int × ((Arr Int 32) × (List UInt8 × (List UInt8 × (((Arr Int 32) × ((Arr Int 16) × Int)) × ((Arr Int 16) × (Int × (Int × (List Int)))))))))))))) × Unit) × ((List Int) × Unit)))) := gl (fun X c => ref40_Lay_L5 N X c.1.1 c.1.2.1 c.2.1) N c
theorem ref40_Lay_L5_S (X : (((List (Int × (Int × (Int × (Int × (Int × ((Arr Int 32) × (List UInt8 × (List UInt8 × (((Arr Int 32) × ((Arr Int 16) × Int)) × ((Arr Int 16) × (Int × (Int × (List Int)))))))))))))) × (Int × Unit)) × ((List Int) × Unit)) → Option (((((List Int) × (Int × Unit)) × Unit) ⊕ (((List (Int × (Int × (Int × (Int × (Int × ((Arr Int 32) × (List UInt8 × (List UInt8 × (((Arr Int 32) × ((Arr Int 16) × Int)) × ((Arr Int 16) × (Int × (Int × (List Int)))))))))))))) × Unit) × ((List Int) × Unit))))) (l0 : List (Int × (Int × (Int × (Int × (Int × ((Arr Int 32) × (List UInt8 × (List UInt8 × (((Arr Int 32) × ((Arr Int 16) × Int)) × ((Arr Int 16) × (Int × (Int × (List Int)))))))))))))) (i5 : Int) (h0 : List (Int)) : (roundK Tryd.prog (Ev115 N) 400 [11] ref40_Lay_L5_I (loopAt Tryd.prog [11] 5) X ((l0, i5, ()), (h0, ()))).run = ref40_Lay_L5 N X l0 i5 h0 := by kernel_rfl
noncomputable def Ev116 : (R : Type) → Env R := Env.addLp (Ev115 N) [11] 0 5 (fun R => lpK Tryd.prog ref40_Lay_L5_I (fun X c => ref40_Lay_L5 N X c.1.1 c.1.2.1 c.2.1) N)
theorem Ev116_ok (R : Type) : EnvOK Tryd.prog (Ev116 N R) := EnvOK.addLp (Ev115_ok N R) (by kernel_rfl) (lpK_ok (li := ref40_Lay_L5_I) (G := fun X c => ref40_Lay_L5 N X c.1.1 c.1.2.1 c.2.1) hmx (Ev115_ok N _) (by kernel_rfl) loopAt_sub (fun (X : CT ref40_Lay_L5_I.sh → Option (OT ref40_Lay_L5_I.outs)) (c : CT ref40_Lay_L5_I.sh) => ref40_Lay_L5_S N X c.1.1 c.1.2.1 c.2.1) N)
noncomputable def ref40_Lay (l0 : List (Int × (Int × (Int × (Int × (Int × ((Arr Int 32) × (List UInt8 × (List UInt8 × (((Arr Int 32) × ((Arr Int 16) × Int)) × ((Arr Int 16) × (Int × (Int × (List Int)))))))))))))) : Option ((List Int) × Int) :=
 bif (decide ((2000 : Int) < (((List.length l0) : Nat) : Int))) then
  some ((([] : List Int), (5 : Int)))
 else
  Option.bind (ref40_Lay_L5_R N ((l0, ((0 : Int), ())), (([] : List Int), ()))) fun v2 =>
  Sum.elim
   (fun (v3 : (((List Int) × (Int × Unit)) × Unit)) =>
   some ((v3.1.1, v3.1.2.1)))
   (fun (v3 : (((List (Int × (Int × (Int × (Int × (Int × ((Arr Int 32) × (List UInt8 × (List UInt8 × (((Arr Int 32) × ((Arr Int 16) × Int)) × ((Arr Int 16) × (Int × (Int × (List Int)))))))))))))) × Unit) × ((List Int) × Unit))) =>
   Option.bind (ref40_Seal N (((List.length v3.1.1) : Nat) : Int) v3.2.1) fun v4 =>
   some ((v4, (0 : Int)))) v2
theorem ref40_Lay_S (l0 : List (Int × (Int × (Int × (Int × (Int × ((Arr Int 32) × (List UInt8 × (List UInt8 × (((Arr Int 32) × ((Arr Int 16) × Int)) × ((Arr Int 16) × (Int × (Int × (List Int)))))))))))))) : (runK Tryd.prog (Ev116 N) 400 11 [(.sl (.pair (.int .i64) (.pair (.int .i64) (.pair (.int .i64) (.pair (.int .i64) (.pair (.int .i64) (.pair (.arr 32 (.int .u8)) (.pair .str (.pair .str (.pair (.pair (.arr 32 (.int .u8)) (.pair (.arr 16 (.int .u8)) (.int .u32))) (.pair (.arr 16 (.int .u8)) (.pair (.int .u32) (.pair (.int .u32) (.sl (.int .u8)))))))))))))))] [(.sl (.int .u8)), (.int .i64)] (l0, ())).run = ref40_Lay N l0 := by kernel_rfl
noncomputable def Ev117 : (R : Type) → Env R := Env.addFn (Ev116 N) 11 (fun R => fnK [(.sl (.pair (.int .i64) (.pair (.int .i64) (.pair (.int .i64) (.pair (.int .i64) (.pair (.int .i64) (.pair (.arr 32 (.int .u8)) (.pair .str (.pair .str (.pair (.pair (.arr 32 (.int .u8)) (.pair (.arr 16 (.int .u8)) (.int .u32))) (.pair (.arr 16 (.int .u8)) (.pair (.int .u32) (.pair (.int .u32) (.sl (.int .u8)))))))))))))))] [(.sl (.int .u8)), (.int .i64)] (fun c => ref40_Lay N c.1))
theorem Ev117_ok (R : Type) : EnvOK Tryd.prog (Ev117 N R) := EnvOK.addFn hmx (Ev116_ok N R) (Ev116_ok N _) (by kernel_rfl) (fun c => ref40_Lay_S N c.1)
noncomputable def ref01_Num_L3_I : LI := ⟨20, 0, [], ⟨[(0, .ty (.sl (.int .u8))), (3, .ty (.int .u64)), (4, .ty (.int .i64))], []⟩, [(.exit 0, ⟨[(3, .ty (.int .u64))], []⟩)]⟩
noncomputable def ref01_Num_L3 (N : Nat) (X : (((List Int) × (Int × (Int × Unit))) × Unit) → Option (((Int × Unit) × Unit))) (b0 : List (Int)) (n3 : Int) (i4 : Int) : Option (((Int × Unit) × Unit)) :=
 bif (decide (i4 < (((List.length b0) : Nat) : Int))) then
  Option.bind (getI b0 i4) fun (v5 : Int) =>
  (X ((b0, ((IntKind.wrap .u64 ((IntKind.wrap .u64 (n3 * (256 : Int))) + (IntKind.wrap .u64 v5))), ((IntKind.wrap .i64 (i4 + 1)), ()))), ()))
 else
  some (((n3, ()), ()))
noncomputable def ref01_Num_L3_R (c : (((List Int) × (Int × (Int × Unit))) × Unit)) : Option (((Int × Unit) × Unit)) := gl (fun X c => ref01_Num_L3 N X c.1.1 c.1.2.1 c.1.2.2.1) N c
theorem ref01_Num_L3_S (X : (((List Int) × (Int × (Int × Unit))) × Unit) → Option (((Int × Unit) × Unit))) (b0 : List (Int)) (n3 : Int) (i4 : Int) : (roundK Tryd.prog (Ev117 N) 400 [37] ref01_Num_L3_I (loopAt Tryd.prog [37] 3) X ((b0, n3, i4, ()), ())).run = ref01_Num_L3 N X b0 n3 i4 := by kernel_rfl
noncomputable def Ev118 : (R : Type) → Env R := Env.addLp (Ev117 N) [37] 0 3 (fun R => lpK Tryd.prog ref01_Num_L3_I (fun X c => ref01_Num_L3 N X c.1.1 c.1.2.1 c.1.2.2.1) N)
theorem Ev118_ok (R : Type) : EnvOK Tryd.prog (Ev118 N R) := EnvOK.addLp (Ev117_ok N R) (by kernel_rfl) (lpK_ok (li := ref01_Num_L3_I) (G := fun X c => ref01_Num_L3 N X c.1.1 c.1.2.1 c.1.2.2.1) hmx (Ev117_ok N _) (by kernel_rfl) loopAt_sub (fun (X : CT ref01_Num_L3_I.sh → Option (OT ref01_Num_L3_I.outs)) (c : CT ref01_Num_L3_I.sh) => ref01_Num_L3_S N X c.1.1 c.1.2.1 c.1.2.2.1) N)
noncomputable def ref01_Num (b0 : List (Int)) : Option Int :=
 Option.bind (ref01_Num_L3_R N ((b0, ((0 : Int), ((0 : Int), ()))), ())) fun v2 =>
 some (v2.1.1)
theorem ref01_Num_S (b0 : List (Int)) : (runK Tryd.prog (Ev118 N) 400 37 [(.sl (.int .u8))] [(.int .u64)] (b0, ())).run = ref01_Num N b0 := by kernel_rfl
noncomputable def Ev119 : (R : Type) → Env R := Env.addFn (Ev118 N) 37 (fun R => fnK [(.sl (.int .u8))] [(.int .u64)] (fun c => ref01_Num N c.1))
theorem Ev119_ok (R : Type) : EnvOK Tryd.prog (Ev119 N R) := EnvOK.addFn hmx (Ev118_ok N R) (Ev118_ok N _) (by kernel_rfl) (fun c => ref01_Num_S N c.1)
noncomputable def ref40_first_L9_I : LI := ⟨176, 0, [], ⟨[(0, .ty (.sl (.int .u8))), (2, .lit (.box 0 0)), (5, .lit (.box 1 0)), (6, .ty (.int .i64))], [.box 30 (.pair (.int .i64) (.pair (.int .i64) (.pair (.int .i64) (.pair (.int .i64) (.pair (.int .i64) (.pair (.arr 32 (.int .u8)) (.pair .str (.pair .str (.pair (.pair (.arr 32 (.int .u8)) (.pair (.arr 16 (.int .u8)) (.int .u32))) (.pair (.arr 16 (.int .u8)) (.pair (.int .u32) (.pair (.int .u32) (.sl (.int .u8)))))))))))))), .box 30 (.pair (.int .i64) (.pair (.int .i64) (.pair (.int .i64) (.pair (.int .i64) (.pair (.int .i64) (.pair (.arr 32 (.int .u8)) (.pair .str (.pair .str (.pair (.pair (.arr 32 (.int .u8)) (.pair (.arr 16 (.int .u8)) (.int .u32))) (.pair (.arr 16 (.int .u8)) (.pair (.int .u32) (.pair (.int .u32) (.sl (.int .u8))))))))))))))]⟩, [(.exit 0, ⟨[(0, .ty (.sl (.int .u8))), (2, .lit (.box 0 0)), (5, .lit (.box 1 0))], [.box 30 (.pair (.int .i64) (.pair (.int .i64) (.pair (.int .i64) (.pair (.int .i64) (.pair (.int .i64) (.pair (.arr 32 (.int .u8)) (.pair .str (.pair .str (.pair (.pair (.arr 32 (.int .u8)) (.pair (.arr 16 (.int .u8)) (.int .u32))) (.pair (.arr 16 (.int .u8)) (.pair (.int .u32) (.pair (.int .u32) (.sl (.int .u8)))))))))))))), .box 30 (.pair (.int .i64) (.pair (.int .i64) (.pair (.int .i64) (.pair (.int .i64) (.pair (.int .i64) (.pair (.arr 32 (.int .u8)) (.pair .str (.pair .str (.pair (.pair (.arr 32 (.int .u8)) (.pair (.arr 16 (.int .u8)) (.int .u32))) (.pair (.arr 16 (.int .u8)) (.pair (.int .u32) (.pair (.int .u32) (.sl (.int .u8))))))))))))))]⟩)]⟩
noncomputable def ref40_first_L9 (N : Nat) (X : (((List Int) × (Int × Unit)) × ((Int × (Int × (Int × (Int × (Int × ((Arr Int 32) × (List UInt8 × (List UInt8 × (((Arr Int 32) × ((Arr Int 16) × Int)) × ((Arr Int 16) × (Int × (Int × (List Int))))))))))))) × ((Int × (Int × (Int × (Int × (Int × ((Arr Int 32) × (List UInt8 × (List UInt8 × (((Arr Int 32) × ((Arr Int 16) × Int)) × ((Arr Int 16) × (Int × (Int × (List Int))))))))))))) × Unit))) → Option ((((List Int) × Unit) × ((Int × (Int × (Int × (Int × (Int × ((Arr Int 32) × (List UInt8 × (List UInt8 × (((Arr Int 32) × ((Arr Int 16) × Int)) × ((Arr Int 16) × (Int × (Int × (List Int))))))))))))) × ((Int × (Int × (Int × (Int × (Int × ((Arr Int 32) × (List UInt8 × (List UInt8 × (((Arr Int 32) × ((Arr Int 16) × Int)) × ((Arr Int 16) × (Int × (Int × (List Int))))))))))))) × Unit))))) (b0 : List (Int)) (i6 : Int) (h0 : Int × (Int × (Int × (Int × (Int × ((Arr Int 32) × (List UInt8 × (List UInt8 × (((Arr Int 32) × ((Arr Int 16) × Int)) × ((Arr Int 16) × (Int × (Int × (List Int))))))))))))) (h1 : Int × (Int × (Int × (Int × (Int × ((Arr Int 32) × (List UInt8 × (List UInt8 × (((Arr Int 32) × ((Arr Int 16) × Int)) × ((Arr Int 16) × (Int × (Int × (List Int))))))))))))) : Option ((((List Int) × Unit) × ((Int × (Int × (Int × (Int × (Int × ((Arr Int 32) × (List UInt8 × (List UInt8 × (((Arr Int 32) × ((Arr Int 16) × Int)) × ((Arr Int 16) × (Int × (Int × (List Int))))))))))))) × ((Int × (Int × (Int × (Int × (Int × ((Arr Int 32) × (List UInt8 × (List UInt8 × (((Arr Int 32) × ((Arr Int 16) × Int)) × ((Arr Int 16) × (Int × (Int × (List Int))))))))))))) × Unit)))) :=
 bif (decide (i6 < (32 : Int))) then
  Option.bind (getI b0 (IntKind.wrap .i64 ((8 : Int) + i6))) fun (v6 : Int) =>
  Option.bind (getI b0 (IntKind.wrap .i64 ((40 : Int) + i6))) fun (v7 : Int) =>
  bif (decide ((0 : Int) ≤ i6 ∧ i6 < ((32 : Nat) : Int))) then
   bif (decide ((0 : Int) ≤ i6 ∧ i6 < ((32 : Nat) : Int))) then
    Option.bind (h1.2.2.2.2.2.1.l[Int.toNat i6]?) fun (v8 : Int) =>
    Option.bind (h1.2.2.2.2.2.2.2.2.1.1.l[Int.toNat i6]?) fun (v9 : Int) =>
    (X ((b0, ((IntKind.wrap .i64 (i6 + 1)), ())), ((h0.1, (h0.2.1, (h0.2.2.1, (h0.2.2.2.1, (h0.2.2.2.2.1, (h0.2.2.2.2.2.1, (h0.2.2.2.2.2.2.1, (h0.2.2.2.2.2.2.2.1, ((h0.2.2.2.2.2.2.2.2.1.1, (h0.2.2.2.2.2.2.2.2.1.2.1, h0.2.2.2.2.2.2.2.2.1.2.2)), (h0.2.2.2.2.2.2.2.2.2.1, (h0.2.2.2.2.2.2.2.2.2.2.1, (h0.2.2.2.2.2.2.2.2.2.2.2.1, h0.2.2.2.2.2.2.2.2.2.2.2.2)))))))))))), ((h1.1, (h1.2.1, (h1.2.2.1, (h1.2.2.2.1, (h1.2.2.2.2.1, ((h1.2.2.2.2.2.1.set (Int.toNat i6) v6), (h1.2.2.2.2.2.2.1, (h1.2.2.2.2.2.2.2.1, (((h1.2.2.2.2.2.2.2.2.1.1.set (Int.toNat i6) v7), (h1.2.2.2.2.2.2.2.2.1.2.1, h1.2.2.2.2.2.2.2.2.1.2.2)), (h1.2.2.2.2.2.2.2.2.2.1, (h1.2.2.2.2.2.2.2.2.2.2.1, (h1.2.2.2.2.2.2.2.2.2.2.2.1, h1.2.2.2.2.2.2.2.2.2.2.2.2)))))))))))), ()))))
   else
    none
  else
   none
 else
  some (((b0, ()), ((h0.1, (h0.2.1, (h0.2.2.1, (h0.2.2.2.1, (h0.2.2.2.2.1, (h0.2.2.2.2.2.1, (h0.2.2.2.2.2.2.1, (h0.2.2.2.2.2.2.2.1, ((h0.2.2.2.2.2.2.2.2.1.1, (h0.2.2.2.2.2.2.2.2.1.2.1, h0.2.2.2.2.2.2.2.2.1.2.2)), (h0.2.2.2.2.2.2.2.2.2.1, (h0.2.2.2.2.2.2.2.2.2.2.1, (h0.2.2.2.2.2.2.2.2.2.2.2.1, h0.2.2.2.2.2.2.2.2.2.2.2.2)))))))))))), ((h1.1, (h1.2.1, (h1.2.2.1, (h1.2.2.2.1, (h1.2.2.2.2.1, (h1.2.2.2.2.2.1, (h1.2.2.2.2.2.2.1, (h1.2.2.2.2.2.2.2.1, ((h1.2.2.2.2.2.2.2.2.1.1, (h1.2.2.2.2.2.2.2.2.1.2.1, h1.2.2.2.2.2.2.2.2.1.2.2)), (h1.2.2.2.2.2.2.2.2.2.1, (h1.2.2.2.2.2.2.2.2.2.2.1, (h1.2.2.2.2.2.2.2.2.2.2.2.1, h1.2.2.2.2.2.2.2.2.2.2.2.2)))))))))))), ()))))
noncomputable def ref40_first_L9_R (c : (((List Int) × (Int × Unit)) × ((Int × (Int × (Int × (Int × (Int × ((Arr Int 32) × (List UInt8 × (List UInt8 × (((Arr Int 32) × ((Arr Int 16) × Int)) × ((Arr Int 16) × (Int × (Int × (List Int))))))))))))) × ((Int × (Int × (Int × (Int × (Int × ((Arr Int 32) × (List UInt8 × (List UInt8 × (((Arr Int 32) × ((Arr Int 16) × Int)) × ((Arr Int 16) × (Int × (Int × (List Int))))))))))))) × Unit)))) : Option ((((List Int) × Unit) × ((Int × (Int × (Int × (Int × (Int × ((Arr Int 32) × (List UInt8 × (List UInt8 × (((Arr Int 32) × ((Arr Int 16) × Int)) × ((Arr Int 16) × (Int × (Int × (List Int))))))))))))) × ((Int × (Int × (Int × (Int × (Int × ((Arr Int 32) × (List UInt8 × (List UInt8 × (((Arr Int 32) × ((Arr Int 16) × Int)) × ((Arr Int 16) × (Int × (Int × (List Int))))))))))))) × Unit)))) := gl (fun X c => ref40_first_L9 N X c.1.1 c.1.2.1 c.2.1 c.2.2.1) N c
theorem ref40_first_L9_S (X : (((List Int) × (Int × Unit)) × ((Int × (Int × (Int × (Int × (Int × ((Arr Int 32) × (List UInt8 × (List UInt8 × (((Arr Int 32) × ((Arr Int 16) × Int)) × ((Arr Int 16) × (Int × (Int × (List Int))))))))))))) × ((Int × (Int × (Int × (Int × (Int × ((Arr Int 32) × (List UInt8 × (List UInt8 × (((Arr Int 32) × ((Arr Int 16) × Int)) × ((Arr Int 16) × (Int × (Int × (List Int))))))))))))) × Unit))) → Option ((((List Int) × Unit) × ((Int × (Int × (Int × (Int × (Int × ((Arr Int 32) × (List UInt8 × (List UInt8 × (((Arr Int 32) × ((Arr Int 16) × Int)) × ((Arr Int 16) × (Int × (Int × (List Int))))))))))))) × ((Int × (Int × (Int × (Int × (Int × ((Arr Int 32) × (List UInt8 × (List UInt8 × (((Arr Int 32) × ((Arr Int 16) × Int)) × ((Arr Int 16) × (Int × (Int × (List Int))))))))))))) × Unit))))) (b0 : List (Int)) (i6 : Int) (h0 : Int × (Int × (Int × (Int × (Int × ((Arr Int 32) × (List UInt8 × (List UInt8 × (((Arr Int 32) × ((Arr Int 16) × Int)) × ((Arr Int 16) × (Int × (Int × (List Int))))))))))))) (h1 : Int × (Int × (Int × (Int × (Int × ((Arr Int 32) × (List UInt8 × (List UInt8 × (((Arr Int 32) × ((Arr Int 16) × Int)) × ((Arr Int 16) × (Int × (Int × (List Int))))))))))))) : (roundK Tryd.prog (Ev119 N) 400 [38] ref40_first_L9_I (loopAt Tryd.prog [38] 9) X ((b0, i6, ()), (h0, h1, ()))).run = ref40_first_L9 N X b0 i6 h0 h1 := by kernel_rfl
noncomputable def Ev120 : (R : Type) → Env R := Env.addLp (Ev119 N) [38] 0 9 (fun R => lpK Tryd.prog ref40_first_L9_I (fun X c => ref40_first_L9 N X c.1.1 c.1.2.1 c.2.1 c.2.2.1) N)
theorem Ev120_ok (R : Type) : EnvOK Tryd.prog (Ev120 N R) := EnvOK.addLp (Ev119_ok N R) (by kernel_rfl) (lpK_ok (li := ref40_first_L9_I) (G := fun X c => ref40_first_L9 N X c.1.1 c.1.2.1 c.2.1 c.2.2.1) hmx (Ev119_ok N _) (by kernel_rfl) loopAt_sub (fun (X : CT ref40_first_L9_I.sh → Option (OT ref40_first_L9_I.outs)) (c : CT ref40_first_L9_I.sh) => ref40_first_L9_S N X c.1.1 c.1.2.1 c.2.1 c.2.2.1) N)
noncomputable def ref40_first_L13_I : LI := ⟨176, 0, [], ⟨[(0, .ty (.sl (.int .u8))), (2, .lit (.box 0 0)), (5, .lit (.box 1 0)), (7, .ty (.int .i64))], [.box 30 (.pair (.int .i64) (.pair (.int .i64) (.pair (.int .i64) (.pair (.int .i64) (.pair (.int .i64) (.pair (.arr 32 (.int .u8)) (.pair .str (.pair .str (.pair (.pair (.arr 32 (.int .u8)) (.pair (.arr 16 (.int .u8)) (.int .u32))) (.pair (.arr 16 (.int .u8)) (.pair (.int .u32) (.pair (.int .u32) (.sl (.int .u8)))))))))))))), .box 30 (.pair (.int .i64) (.pair (.int .i64) (.pair (.int .i64) (.pair (.int .i64) (.pair (.int .i64) (.pair (.arr 32 (.int .u8)) (.pair .str (.pair .str (.pair (.pair (.arr 32 (.int .u8)) (.pair (.arr 16 (.int .u8)) (.int .u32))) (.pair (.arr 16 (.int .u8)) (.pair (.int .u32) (.pair (.int .u32) (.sl (.int .u8))))))))))))))]⟩, [(.exit 2, ⟨[(0, .ty (.sl (.int .u8))), (2, .lit (.box 0 0)), (5, .lit (.box 1 0))], [.box 30 (.pair (.int .i64) (.pair (.int .i64) (.pair (.int .i64) (.pair (.int .i64) (.pair (.int .i64) (.pair (.arr 32 (.int .u8)) (.pair .str (.pair .str (.pair (.pair (.arr 32 (.int .u8)) (.pair (.arr 16 (.int .u8)) (.int .u32))) (.pair (.arr 16 (.int .u8)) (.pair (.int .u32) (.pair (.int .u32) (.sl (.int .u8)))))))))))))), .box 30 (.pair (.int .i64) (.pair (.int .i64) (.pair (.int .i64) (.pair (.int .i64) (.pair (.int .i64) (.pair (.arr 32 (.int .u8)) (.pair .str (.pair .str (.pair (.pair (.arr 32 (.int .u8)) (.pair (.arr 16 (.int .u8)) (.int .u32))) (.pair (.arr 16 (.int .u8)) (.pair (.int .u32) (.pair (.int .u32) (.sl (.int .u8))))))))))))))]⟩)]⟩
end
section
variable (N : Nat)
noncomputable def ref40_first_L13 (N : Nat) (X : (((List Int) × (Int × Unit)) × ((Int × (Int × (Int × (Int × (Int × ((Arr Int 32) × (List UInt8 × (List UInt8 × (((Arr Int 32) × ((Arr Int 16) × Int)) × ((Arr Int 16) × (Int × (Int × (List Int))))))))))))) × ((Int × (Int × (Int × (Int × (Int × ((Arr Int 32) × (List UInt8 × (List UInt8 × (((Arr Int 32) × ((Arr Int 16) × Int)) × ((Arr Int 16) × (Int × (Int × (List Int))))))))))))) × Unit))) → Option ((((List Int) × Unit) × ((Int × (Int × (Int × (Int × (Int × ((Arr Int 32) × (List UInt8 × (List UInt8 × (((Arr Int 32) × ((Arr Int 16) × Int)) × ((Arr Int 16) × (Int × (Int × (List Int))))))))))))) × ((Int × (Int × (Int × (Int × (Int × ((Arr Int 32) × (List UInt8 × (List UInt8 × (((Arr Int 32) × ((Arr Int 16) × Int)) × ((Arr Int 16) × (Int × (Int × (List Int))))))))))))) × Unit))))) (b0 : List (Int)) (i7 : Int) (h0 : Int × (Int × (Int × (Int × (Int × ((Arr Int 32) × (List UInt8 × (List UInt8 × (((Arr Int 32) × ((Arr Int 16) × Int)) × ((Arr Int 16) × (Int × (Int × (List Int))))))))))))) (h1 : Int × (Int × (Int × (Int × (Int × ((Arr Int 32) × (List UInt8 × (List UInt8 × (((Arr Int 32) × ((Arr Int 16) × Int)) × ((Arr Int 16) × (Int × (Int × (List Int))))))))))))) : Option ((((List Int) × Unit) × ((Int × (Int × (Int × (Int × (Int × ((Arr Int 32) × (List UInt8 × (List UInt8 × (((Arr Int 32) × ((Arr Int 16) × Int)) × ((Arr Int 16) × (Int × (Int × (List Int))))))))))))) × ((Int × (Int × (Int × (Int × (Int × ((Arr Int 32) × (List UInt8 × (List UInt8 × (((Arr Int 32) × ((Arr Int 16) × Int)) × ((Arr Int 16) × (Int × (Int × (List Int))))))))))))) × Unit)))) :=
 bif (decide (i7 < (16 : Int))) then
  Option.bind (getI b0 (IntKind.wrap .i64 ((72 : Int) + i7))) fun (v6 : Int) =>
  Option.bind (getI b0 (IntKind.wrap .i64 ((92 : Int) + i7))) fun (v7 : Int) =>
  bif (decide ((0 : Int) ≤ i7 ∧ i7 < ((16 : Nat) : Int))) then
   bif (decide ((0 : Int) ≤ i7 ∧ i7 < ((16 : Nat) : Int))) then
    Option.bind (h1.2.2.2.2.2.2.2.2.1.2.1.l[Int.toNat i7]?) fun (v8 : Int) =>
    Option.bind (h1.2.2.2.2.2.2.2.2.2.1.l[Int.toNat i7]?) fun (v9 : Int) =>
    (X ((b0, ((IntKind.wrap .i64 (i7 + 1)), ())), ((h0.1, (h0.2.1, (h0.2.2.1, (h0.2.2.2.1, (h0.2.2.2.2.1, (h0.2.2.2.2.2.1, (h0.2.2.2.2.2.2.1, (h0.2.2.2.2.2.2.2.1, ((h0.2.2.2.2.2.2.2.2.1.1, (h0.2.2.2.2.2.2.2.2.1.2.1, h0.2.2.2.2.2.2.2.2.1.2.2)), (h0.2.2.2.2.2.2.2.2.2.1, (h0.2.2.2.2.2.2.2.2.2.2.1, (h0.2.2.2.2.2.2.2.2.2.2.2.1, h0.2.2.2.2.2.2.2.2.2.2.2.2)))))))))))), ((h1.1, (h1.2.1, (h1.2.2.1, (h1.2.2.2.1, (h1.2.2.2.2.1, (h1.2.2.2.2.2.1, (h1.2.2.2.2.2.2.1, (h1.2.2.2.2.2.2.2.1, ((h1.2.2.2.2.2.2.2.2.1.1, ((h1.2.2.2.2.2.2.2.2.1.2.1.set (Int.toNat i7) v6), h1.2.2.2.2.2.2.2.2.1.2.2)), ((h1.2.2.2.2.2.2.2.2.2.1.set (Int.toNat i7) v7), (h1.2.2.2.2.2.2.2.2.2.2.1, (h1.2.2.2.2.2.2.2.2.2.2.2.1, h1.2.2.2.2.2.2.2.2.2.2.2.2)))))))))))), ()))))
   else
    none
  else
   none
 else
  some (((b0, ()), ((h0.1, (h0.2.1, (h0.2.2.1, (h0.2.2.2.1, (h0.2.2.2.2.1, (h0.2.2.2.2.2.1, (h0.2.2.2.2.2.2.1, (h0.2.2.2.2.2.2.2.1, ((h0.2.2.2.2.2.2.2.2.1.1, (h0.2.2.2.2.2.2.2.2.1.2.1, h0.2.2.2.2.2.2.2.2.1.2.2)), (h0.2.2.2.2.2.2.2.2.2.1, (h0.2.2.2.2.2.2.2.2.2.2.1, (h0.2.2.2.2.2.2.2.2.2.2.2.1, h0.2.2.2.2.2.2.2.2.2.2.2.2)))))))))))), ((h1.1, (h1.2.1, (h1.2.2.1, (h1.2.2.2.1, (h1.2.2.2.2.1, (h1.2.2.2.2.2.1, (h1.2.2.2.2.2.2.1, (h1.2.2.2.2.2.2.2.1, ((h1.2.2.2.2.2.2.2.2.1.1, (h1.2.2.2.2.2.2.2.2.1.2.1, h1.2.2.2.2.2.2.2.2.1.2.2)), (h1.2.2.2.2.2.2.2.2.2.1, (h1.2.2.2.2.2.2.2.2.2.2.1, (h1.2.2.2.2.2.2.2.2.2.2.2.1, h1.2.2.2.2.2.2.2.2.2.2.2.2)))))))))))), ()))))
noncomputable def ref40_first_L13_R (c : (((List Int) × (Int × Unit)) × ((Int × (Int × (Int × (Int × (Int × ((Arr Int 32) × (List UInt8 × (List UInt8 × (((Arr Int 32) × ((Arr Int 16) × Int)) × ((Arr Int 16) × (Int × (Int × (List Int))))))))))))) × ((Int × (Int × (Int × (Int × (Int × ((Arr Int 32) × (List UInt8 × (List UInt8 × (((Arr Int 32) × ((Arr Int 16) × Int)) × ((Arr Int 16) × (Int × (Int × (List Int))))))))))))) × Unit)))) : Option ((((List Int) × Unit) × ((Int × (Int × (Int × (Int × (Int × ((Arr Int 32) × (List UInt8 × (List UInt8 × (((Arr Int 32) × ((Arr Int 16) × Int)) × ((Arr Int 16) × (Int × (Int × (List Int))))))))))))) × ((Int × (Int × (Int × (Int × (Int × ((Arr Int 32) × (List UInt8 × (List UInt8 × (((Arr Int 32) × ((Arr Int 16) × Int)) × ((Arr Int 16) × (Int × (Int × (List Int))))))))))))) × Unit)))) := gl (fun X c => ref40_first_L13 N X c.1.1 c.1.2.1 c.2.1 c.2.2.1) N c
theorem ref40_first_L13_S (X : (((List Int) × (Int × Unit)) × ((Int × (Int × (Int × (Int × (Int × ((Arr Int 32) × (List UInt8 × (List UInt8 × (((Arr Int 32) × ((Arr Int 16) × Int)) × ((Arr Int 16) × (Int × (Int × (List Int))))))))))))) × ((Int × (Int × (Int × (Int × (Int × ((Arr Int 32) × (List UInt8 × (List UInt8 × (((Arr Int 32) × ((Arr Int 16) × Int)) × ((Arr Int 16) × (Int × (Int × (List Int))))))))))))) × Unit))) → Option ((((List Int) × Unit) × ((Int × (Int × (Int × (Int × (Int × ((Arr Int 32) × (List UInt8 × (List UInt8 × (((Arr Int 32) × ((Arr Int 16) × Int)) × ((Arr Int 16) × (Int × (Int × (List Int))))))))))))) × ((Int × (Int × (Int × (Int × (Int × ((Arr Int 32) × (List UInt8 × (List UInt8 × (((Arr Int 32) × ((Arr Int 16) × Int)) × ((Arr Int 16) × (Int × (Int × (List Int))))))))))))) × Unit))))) (b0 : List (Int)) (i7 : Int) (h0 : Int × (Int × (Int × (Int × (Int × ((Arr Int 32) × (List UInt8 × (List UInt8 × (((Arr Int 32) × ((Arr Int 16) × Int)) × ((Arr Int 16) × (Int × (Int × (List Int))))))))))))) (h1 : Int × (Int × (Int × (Int × (Int × ((Arr Int 32) × (List UInt8 × (List UInt8 × (((Arr Int 32) × ((Arr Int 16) × Int)) × ((Arr Int 16) × (Int × (Int × (List Int))))))))))))) : (roundK Tryd.prog (Ev120 N) 400 [38] ref40_first_L13_I (loopAt Tryd.prog [38] 13) X ((b0, i7, ()), (h0, h1, ()))).run = ref40_first_L13 N X b0 i7 h0 h1 := by kernel_rfl
noncomputable def Ev121 : (R : Type) → Env R := Env.addLp (Ev120 N) [38] 0 13 (fun R => lpK Tryd.prog ref40_first_L13_I (fun X c => ref40_first_L13 N X c.1.1 c.1.2.1 c.2.1 c.2.2.1) N)
theorem Ev121_ok (R : Type) : EnvOK Tryd.prog (Ev121 N R) := EnvOK.addLp (Ev120_ok N R) (by kernel_rfl) (lpK_ok (li := ref40_first_L13_I) (G := fun X c => ref40_first_L13 N X c.1.1 c.1.2.1 c.2.1 c.2.2.1) hmx (Ev120_ok N _) (by kernel_rfl) loopAt_sub (fun (X : CT ref40_first_L13_I.sh → Option (OT ref40_first_L13_I.outs)) (c : CT ref40_first_L13_I.sh) => ref40_first_L13_S N X c.1.1 c.1.2.1 c.2.1 c.2.2.1) N)
noncomputable def ref40_first_L20_I : LI := ⟨176, 0, [], ⟨[(0, .ty (.sl (.int .u8))), (2, .lit (.box 0 0)), (5, .lit (.box 1 0)), (8, .ty (.int .i64)), (9, .lit (.box 2 0)), (10, .ty (.int .i64))], [.box 30 (.pair (.int .i64) (.pair (.int .i64) (.pair (.int .i64) (.pair (.int .i64) (.pair (.int .i64) (.pair (.arr 32 (.int .u8)) (.pair .str (.pair .str (.pair (.pair (.arr 32 (.int .u8)) (.pair (.arr 16 (.int .u8)) (.int .u32))) (.pair (.arr 16 (.int .u8)) (.pair (.int .u32) (.pair (.int .u32) (.sl (.int .u8)))))))))))))), .box 30 (.pair (.int .i64) (.pair (.int .i64) (.pair (.int .i64) (.pair (.int .i64) (.pair (.int .i64) (.pair (.arr 32 (.int .u8)) (.pair .str (.pair .str (.pair (.pair (.arr 32 (.int .u8)) (.pair (.arr 16 (.int .u8)) (.int .u32))) (.pair (.arr 16 (.int .u8)) (.pair (.int .u32) (.pair (.int .u32) (.sl (.int .u8)))))))))))))), .box 100 (.arr 3 (.sl (.int .u8)))]⟩, [(.ret, ⟨[(2, .lit (.box 0 0)), (3, .ty (.int .i64)), (4, .ty (.int .i64))], [.boxp 30 [.ty (.int .i64), .ty (.int .i64), .ty (.int .i64), .ty (.int .i64), .ty (.int .i64), .ty (.arr 32 (.int .u8)), .ty .str, .ty .str, .ty (.arr 32 (.int .u8)), .ty (.arr 16 (.int .u8)), .ty (.int .u32), .ty (.arr 16 (.int .u8)), .ty (.int .u32), .ty (.int .u32), .nil]]⟩), (.exit 4, ⟨[(2, .lit (.box 0 0)), (5, .lit (.box 1 0)), (8, .ty (.int .i64)), (9, .lit (.box 2 0))], [.box 30 (.pair (.int .i64) (.pair (.int .i64) (.pair (.int .i64) (.pair (.int .i64) (.pair (.int .i64) (.pair (.arr 32 (.int .u8)) (.pair .str (.pair .str (.pair (.pair (.arr 32 (.int .u8)) (.pair (.arr 16 (.int .u8)) (.int .u32))) (.pair (.arr 16 (.int .u8)) (.pair (.int .u32) (.pair (.int .u32) (.sl (.int .u8)))))))))))))), .box 30 (.pair (.int .i64) (.pair (.int .i64) (.pair (.int .i64) (.pair (.int .i64) (.pair (.int .i64) (.pair (.arr 32 (.int .u8)) (.pair .str (.pair .str (.pair (.pair (.arr 32 (.int .u8)) (.pair (.arr 16 (.int .u8)) (.int .u32))) (.pair (.arr 16 (.int .u8)) (.pair (.int .u32) (.pair (.int .u32) (.sl (.int .u8)))))))))))))), .box 100 (.arr 3 (.sl (.int .u8)))]⟩)]⟩
noncomputable def ref40_first_L20 (X : (((List Int) × (Int × (Int × Unit))) × ((Int × (Int × (Int × (Int × (Int × ((Arr Int 32) × (List UInt8 × (List UInt8 × (((Arr Int 32) × ((Arr Int 16) × Int)) × ((Arr Int 16) × (Int × (Int × (List Int))))))))))))) × ((Int × (Int × (Int × (Int × (Int × ((Arr Int 32) × (List UInt8 × (List UInt8 × (((Arr Int 32) × ((Arr Int 16) × Int)) × ((Arr Int 16) × (Int × (Int × (List Int))))))))))))) × ((Arr (List Int) 3) × Unit)))) → Option ((((Int × (Int × Unit)) × (Int × (Int × (Int × (Int × (Int × ((Arr Int 32) × (List UInt8 × (List UInt8 × ((Arr Int 32) × ((Arr Int 16) × (Int × ((Arr Int 16) × (Int × (Int × Unit))))))))))))))) ⊕ ((Int × Unit) × ((Int × (Int × (Int × (Int × (Int × ((Arr Int 32) × (List UInt8 × (List UInt8 × (((Arr Int 32) × ((Arr Int 16) × Int)) × ((Arr Int 16) × (Int × (Int × (List Int))))))))))))) × ((Int × (Int × (Int × (Int × (Int × ((Arr Int 32) × (List UInt8 × (List UInt8 × (((Arr Int 32) × ((Arr Int 16) × Int)) × ((Arr Int 16) × (Int × (Int × (List Int))))))))))))) × ((Arr (List Int) 3) × Unit))))))) (b0 : List (Int)) (x8 : Int) (k10 : Int) (h0 : Int × (Int × (Int × (Int × (Int × ((Arr Int 32) × (List UInt8 × (List UInt8 × (((Arr Int 32) × ((Arr Int 16) × Int)) × ((Arr Int 16) × (Int × (Int × (List Int))))))))))))) (h1 : Int × (Int × (Int × (Int × (Int × ((Arr Int 32) × (List UInt8 × (List UInt8 × (((Arr Int 32) × ((Arr Int 16) × Int)) × ((Arr Int 16) × (Int × (Int × (List Int))))))))))))) (h2 : Arr (List Int) 3) : Option ((((Int × (Int × Unit)) × (Int × (Int × (Int × (Int × (Int × ((Arr Int 32) × (List UInt8 × (List UInt8 × ((Arr Int 32) × ((Arr Int 16) × (Int × ((Arr Int 16) × (Int × (Int × Unit))))))))))))))) ⊕ ((Int × Unit) × ((Int × (Int × (Int × (Int × (Int × ((Arr Int 32) × (List UInt8 × (List UInt8 × (((Arr Int 32) × ((Arr Int 16) × Int)) × ((Arr Int 16) × (Int × (Int × (List Int))))))))))))) × ((Int × (Int × (Int × (Int × (Int × ((Arr Int 32) × (List UInt8 × (List UInt8 × (((Arr Int 32) × ((Arr Int 16) × Int)) × ((Arr Int 16) × (Int × (Int × (List Int))))))))))))) × ((Arr (List Int) 3) × Unit)))))) :=
 bif (decide (k10 < (3 : Int))) then
  bif (decide ((((List.length b0) : Nat) : Int) < (IntKind.wrap .i64 (x8 + 2)))) then
   some ((.inl (((0 : Int), ((4 : Int), ())), ((0 : Int), ((0 : Int), ((0 : Int), ((0 : Int), ((0 : Int), ((@Arr.cons Int 31 0 (@Arr.cons Int 30 0 (@Arr.cons Int 29 0 (@Arr.cons Int 28 0 (@Arr.cons Int 27 0 (@Arr.cons Int 26 0 (@Arr.cons Int 25 0 (@Arr.cons Int 24 0 (@Arr.cons Int 23 0 (@Arr.cons Int 22 0 (@Arr.cons Int 21 0 (@Arr.cons Int 20 0 (@Arr.cons Int 19 0 (@Arr.cons Int 18 0 (@Arr.cons Int 17 0 (@Arr.cons Int 16 0 (@Arr.cons Int 15 0 (@Arr.cons Int 14 0 (@Arr.cons Int 13 0 (@Arr.cons Int 12 0 (@Arr.cons Int 11 0 (@Arr.cons Int 10 0 (@Arr.cons Int 9 0 (@Arr.cons Int 8 0 (@Arr.cons Int 7 0 (@Arr.cons Int 6 0 (@Arr.cons Int 5 0 (@Arr.cons Int 4 0 (@Arr.cons Int 3 0 (@Arr.cons Int 2 0 (@Arr.cons Int 1 0 (@Arr.cons Int 0 0 (@Arr.nil Int))))))))))))))))))))))))))))))))), ((Array.toList (List.toArray ([] : List UInt8))), ((Array.toList (List.toArray ([] : List UInt8))), ((@Arr.cons Int 31 0 (@Arr.cons Int 30 0 (@Arr.cons Int 29 0 (@Arr.cons Int 28 0 (@Arr.cons Int 27 0 (@Arr.cons Int 26 0 (@Arr.cons Int 25 0 (@Arr.cons Int 24 0 (@Arr.cons Int 23 0 (@Arr.cons Int 22 0 (@Arr.cons Int 21 0 (@Arr.cons Int 20 0 (@Arr.cons Int 19 0 (@Arr.cons Int 18 0 (@Arr.cons Int 17 0 (@Arr.cons Int 16 0 (@Arr.cons Int 15 0 (@Arr.cons Int 14 0 (@Arr.cons Int 13 0 (@Arr.cons Int 12 0 (@Arr.cons Int 11 0 (@Arr.cons Int 10 0 (@Arr.cons Int 9 0 (@Arr.cons Int 8 0 (@Arr.cons Int 7 0 (@Arr.cons Int 6 0 (@Arr.cons Int 5 0 (@Arr.cons Int 4 0 (@Arr.cons Int 3 0 (@Arr.cons Int 2 0 (@Arr.cons Int 1 0 (@Arr.cons Int 0 0 (@Arr.nil Int))))))))))))))))))))))))))))))))), ((@Arr.cons Int 15 0 (@Arr.cons Int 14 0 (@Arr.cons Int 13 0 (@Arr.cons Int 12 0 (@Arr.cons Int 11 0 (@Arr.cons Int 10 0 (@Arr.cons Int 9 0 (@Arr.cons Int 8 0 (@Arr.cons Int 7 0 (@Arr.cons Int 6 0 (@Arr.cons Int 5 0 (@Arr.cons Int 4 0 (@Arr.cons Int 3 0 (@Arr.cons Int 2 0 (@Arr.cons Int 1 0 (@Arr.cons Int 0 0 (@Arr.nil Int))))))))))))))))), ((0 : Int), ((@Arr.cons Int 15 0 (@Arr.cons Int 14 0 (@Arr.cons Int 13 0 (@Arr.cons Int 12 0 (@Arr.cons Int 11 0 (@Arr.cons Int 10 0 (@Arr.cons Int 9 0 (@Arr.cons Int 8 0 (@Arr.cons Int 7 0 (@Arr.cons Int 6 0 (@Arr.cons Int 5 0 (@Arr.cons Int 4 0 (@Arr.cons Int 3 0 (@Arr.cons Int 2 0 (@Arr.cons Int 1 0 (@Arr.cons Int 0 0 (@Arr.nil Int))))))))))))))))), ((0 : Int), ((0 : Int), ())))))))))))))))))
  else
   Option.bind (subI b0 x8 (IntKind.wrap .i64 (x8 + 2))) fun (v8 : (List Int)) =>
   Option.bind (ref01_Num N v8) fun v9 =>
   Option.bind (some ((cond false true (decide ((((List.length b0) : Nat) : Int) < (IntKind.wrap .i64 ((IntKind.wrap .i64 (x8 + 2)) + (IntKind.wrap .i64 v9)))))))) fun (v10 : Bool) =>
   bif v10 then
    some ((.inl (((0 : Int), ((4 : Int), ())), ((0 : Int), ((0 : Int), ((0 : Int), ((0 : Int), ((0 : Int), ((@Arr.cons Int 31 0 (@Arr.cons Int 30 0 (@Arr.cons Int 29 0 (@Arr.cons Int 28 0 (@Arr.cons Int 27 0 (@Arr.cons Int 26 0 (@Arr.cons Int 25 0 (@Arr.cons Int 24 0 (@Arr.cons Int 23 0 (@Arr.cons Int 22 0 (@Arr.cons Int 21 0 (@Arr.cons Int 20 0 (@Arr.cons Int 19 0 (@Arr.cons Int 18 0 (@Arr.cons Int 17 0 (@Arr.cons Int 16 0 (@Arr.cons Int 15 0 (@Arr.cons Int 14 0 (@Arr.cons Int 13 0 (@Arr.cons Int 12 0 (@Arr.cons Int 11 0 (@Arr.cons Int 10 0 (@Arr.cons Int 9 0 (@Arr.cons Int 8 0 (@Arr.cons Int 7 0 (@Arr.cons Int 6 0 (@Arr.cons Int 5 0 (@Arr.cons Int 4 0 (@Arr.cons Int 3 0 (@Arr.cons Int 2 0 (@Arr.cons Int 1 0 (@Arr.cons Int 0 0 (@Arr.nil Int))))))))))))))))))))))))))))))))), ((Array.toList (List.toArray ([] : List UInt8))), ((Array.toList (List.toArray ([] : List UInt8))), ((@Arr.cons Int 31 0 (@Arr.cons Int 30 0 (@Arr.cons Int 29 0 (@Arr.cons Int 28 0 (@Arr.cons Int 27 0 (@Arr.cons Int 26 0 (@Arr.cons Int 25 0 (@Arr.cons Int 24 0 (@Arr.cons Int 23 0 (@Arr.cons Int 22 0 (@Arr.cons Int 21 0 (@Arr.cons Int 20 0 (@Arr.cons Int 19 0 (@Arr.cons Int 18 0 (@Arr.cons Int 17 0 (@Arr.cons Int 16 0 (@Arr.cons Int 15 0 (@Arr.cons Int 14 0 (@Arr.cons Int 13 0 (@Arr.cons Int 12 0 (@Arr.cons Int 11 0 (@Arr.cons Int 10 0 (@Arr.cons Int 9 0 (@Arr.cons Int 8 0 (@Arr.cons Int 7 0 (@Arr.cons Int 6 0 (@Arr.cons Int 5 0 (@Arr.cons Int 4 0 (@Arr.cons Int 3 0 (@Arr.cons Int 2 0 (@Arr.cons Int 1 0 (@Arr.cons Int 0 0 (@Arr.nil Int))))))))))))))))))))))))))))))))), ((@Arr.cons Int 15 0 (@Arr.cons Int 14 0 (@Arr.cons Int 13 0 (@Arr.cons Int 12 0 (@Arr.cons Int 11 0 (@Arr.cons Int 10 0 (@Arr.cons Int 9 0 (@Arr.cons Int 8 0 (@Arr.cons Int 7 0 (@Arr.cons Int 6 0 (@Arr.cons Int 5 0 (@Arr.cons Int 4 0 (@Arr.cons Int 3 0 (@Arr.cons Int 2 0 (@Arr.cons Int 1 0 (@Arr.cons Int 0 0 (@Arr.nil Int))))))))))))))))), ((0 : Int), ((@Arr.cons Int 15 0 (@Arr.cons Int 14 0 (@Arr.cons Int 13 0 (@Arr.cons Int 12 0 (@Arr.cons Int 11 0 (@Arr.cons Int 10 0 (@Arr.cons Int 9 0 (@Arr.cons Int 8 0 (@Arr.cons Int 7 0 (@Arr.cons Int 6 0 (@Arr.cons Int 5 0 (@Arr.cons Int 4 0 (@Arr.cons Int 3 0 (@Arr.cons Int 2 0 (@Arr.cons Int 1 0 (@Arr.cons Int 0 0 (@Arr.nil Int))))))))))))))))), ((0 : Int), ((0 : Int), ())))))))))))))))))
   else
    Option.bind (subI b0 x8 (IntKind.wrap .i64 (x8 + 2))) fun (v11 : (List Int)) =>
    Option.bind (ref01_Num N v11) fun v12 =>
    Option.bind (subI b0 (IntKind.wrap .i64 (x8 + 2)) (IntKind.wrap .i64 ((IntKind.wrap .i64 (x8 + 2)) + (IntKind.wrap .i64 v12)))) fun (v13 : (List Int)) =>
    bif (decide ((0 : Int) ≤ k10 ∧ k10 < ((3 : Nat) : Int))) then
     Option.bind (@GetElem?.getElem? (List (List Int)) Nat (List Int) (fun (as14 : (List (List Int))) => (fun (i15 : Nat) => (@LT.lt Nat @instLTNat i15 (List.length as14)))) (@List.instGetElem?NatLtLength (List Int)) h2.l (Int.toNat k10)) fun (v14 : (List Int)) =>
     (X ((b0, ((IntKind.wrap .i64 (x8 + (IntKind.wrap .i64 ((2 : Int) + (IntKind.wrap .i64 v12))))), ((IntKind.wrap .i64 (k10 + 1)), ()))), ((h0.1, (h0.2.1, (h0.2.2.1, (h0.2.2.2.1, (h0.2.2.2.2.1, (h0.2.2.2.2.2.1, (h0.2.2.2.2.2.2.1, (h0.2.2.2.2.2.2.2.1, ((h0.2.2.2.2.2.2.2.2.1.1, (h0.2.2.2.2.2.2.2.2.1.2.1, h0.2.2.2.2.2.2.2.2.1.2.2)), (h0.2.2.2.2.2.2.2.2.2.1, (h0.2.2.2.2.2.2.2.2.2.2.1, (h0.2.2.2.2.2.2.2.2.2.2.2.1, h0.2.2.2.2.2.2.2.2.2.2.2.2)))))))))))), ((h1.1, (h1.2.1, (h1.2.2.1, (h1.2.2.2.1, (h1.2.2.2.2.1, (h1.2.2.2.2.2.1, (h1.2.2.2.2.2.2.1, (h1.2.2.2.2.2.2.2.1, ((h1.2.2.2.2.2.2.2.2.1.1, (h1.2.2.2.2.2.2.2.2.1.2.1, h1.2.2.2.2.2.2.2.2.1.2.2)), (h1.2.2.2.2.2.2.2.2.2.1, (h1.2.2.2.2.2.2.2.2.2.2.1, (h1.2.2.2.2.2.2.2.2.2.2.2.1, h1.2.2.2.2.2.2.2.2.2.2.2.2)))))))))))), ((h2.set (Int.toNat k10) v13), ())))))
    else
     none
 else
  some ((.inr ((x8, ()), ((h0.1, (h0.2.1, (h0.2.2.1, (h0.2.2.2.1, (h0.2.2.2.2.1, (h0.2.2.2.2.2.1, (h0.2.2.2.2.2.2.1, (h0.2.2.2.2.2.2.2.1, ((h0.2.2.2.2.2.2.2.2.1.1, (h0.2.2.2.2.2.2.2.2.1.2.1, h0.2.2.2.2.2.2.2.2.1.2.2)), (h0.2.2.2.2.2.2.2.2.2.1, (h0.2.2.2.2.2.2.2.2.2.2.1, (h0.2.2.2.2.2.2.2.2.2.2.2.1, h0.2.2.2.2.2.2.2.2.2.2.2.2)))))))))))), ((h1.1, (h1.2.1, (h1.2.2.1, (h1.2.2.2.1, (h1.2.2.2.2.1, (h1.2.2.2.2.2.1, (h1.2.2.2.2.2.2.1, (h1.2.2.2.2.2.2.2.1, ((h1.2.2.2.2.2.2.2.2.1.1, (h1.2.2.2.2.2.2.2.2.1.2.1, h1.2.2.2.2.2.2.2.2.1.2.2)), (h1.2.2.2.2.2.2.2.2.2.1, (h1.2.2.2.2.2.2.2.2.2.2.1, (h1.2.2.2.2.2.2.2.2.2.2.2.1, h1.2.2.2.2.2.2.2.2.2.2.2.2)))))))))))), (h2, ()))))))
noncomputable def ref40_first_L20_R (c : (((List Int) × (Int × (Int × Unit))) × ((Int × (Int × (Int × (Int × (Int × ((Arr Int 32) × (List UInt8 × (List UInt8 × (((Arr Int 32) × ((Arr Int 16) × Int)) × ((Arr Int 16) × (Int × (Int × (List Int))))))))))))) × ((Int × (Int × (Int × (Int × (Int × ((Arr Int 32) × (List UInt8 × (List UInt8 × (((Arr Int 32) × ((Arr Int 16) × Int)) × ((Arr Int 16) × (Int × (Int × (List Int))))))))))))) × ((Arr (List Int) 3) × Unit))))) : Option ((((Int × (Int × Unit)) × (Int × (Int × (Int × (Int × (Int × ((Arr Int 32) × (List UInt8 × (List UInt8 × ((Arr Int 32) × ((Arr Int 16) × (Int × ((Arr Int 16) × (Int × (Int × Unit))))))))))))))) ⊕ ((Int × Unit) × ((Int × (Int × (Int × (Int × (Int × ((Arr Int 32) × (List UInt8 × (List UInt8 × (((Arr Int 32) × ((Arr Int 16) × Int)) × ((Arr Int 16) × (Int × (Int × (List Int))))))))))))) × ((Int × (Int × (Int × (Int × (Int × ((Arr Int 32) × (List UInt8 × (List UInt8 × (((Arr Int 32) × ((Arr Int 16) × Int)) × ((Arr Int 16) × (Int × (Int × (List Int))))))))))))) × ((Arr (List Int) 3) × Unit)))))) := gl (fun X c => ref40_first_L20 N X c.1.1 c.1.2.1 c.1.2.2.1 c.2.1 c.2.2.1 c.2.2.2.1) N c
theorem ref40_first_L20_S (X : (((List Int) × (Int × (Int × Unit))) × ((Int × (Int × (Int × (Int × (Int × ((Arr Int 32) × (List UInt8 × (List UInt8 × (((Arr Int 32) × ((Arr Int 16) × Int)) × ((Arr Int 16) × (Int × (Int × (List Int))))))))))))) × ((Int × (Int × (Int × (Int × (Int × ((Arr Int 32) × (List UInt8 × (List UInt8 × (((Arr Int 32) × ((Arr Int 16) × Int)) × ((Arr Int 16) × (Int × (Int × (List Int))))))))))))) × ((Arr (List Int) 3) × Unit)))) → Option ((((Int × (Int × Unit)) × (Int × (Int × (Int × (Int × (Int × ((Arr Int 32) × (List UInt8 × (List UInt8 × ((Arr Int 32) × ((Arr Int 16) × (Int × ((Arr Int 16) × (Int × (Int × Unit))))))))))))))) ⊕ ((Int × Unit) × ((Int × (Int × (Int × (Int × (Int × ((Arr Int 32) × (List UInt8 × (List UInt8 × (((Arr Int 32) × ((Arr Int 16) × Int)) × ((Arr Int 16) × (Int × (Int × (List Int))))))))))))) × ((Int × (Int × (Int × (Int × (Int × ((Arr Int 32) × (List UInt8 × (List UInt8 × (((Arr Int 32) × ((Arr Int 16) × Int)) × ((Arr Int 16) × (Int × (Int × (List Int))))))))))))) × ((Arr (List Int) 3) × Unit))))))) (b0 : List (Int)) (x8 : Int) (k10 : Int) (h0 : Int × (Int × (Int × (Int × (Int × ((Arr Int 32) × (List UInt8 × (List UInt8 × (((Arr Int 32) × ((Arr Int 16) × Int)) × ((Arr Int 16) × (Int × (Int × (List Int))))))))))))) (h1 : Int × (Int × (Int × (Int × (Int × ((Arr Int 32) × (List UInt8 × (List UInt8 × (((Arr Int 32) × ((Arr Int 16) × Int)) × ((Arr Int 16) × (Int × (Int × (List Int))))))))))))) (h2 : Arr (List Int) 3) : (roundK Tryd.prog (Ev121 N) 400 [38] ref40_first_L20_I (loopAt Tryd.prog [38] 20) X ((b0, x8, k10, ()), (h0, h1, h2, ()))).run = ref40_first_L20 N X b0 x8 k10 h0 h1 h2 := by kernel_rfl
noncomputable def Ev122 : (R : Type) → Env R := Env.addLp (Ev121 N) [38] 0 20 (fun R => lpK Tryd.prog ref40_first_L20_I (fun X c => ref40_first_L20 N X c.1.1 c.1.2.1 c.1.2.2.1 c.2.1 c.2.2.1 c.2.2.2.1) N)
theorem Ev122_ok (R : Type) : EnvOK Tryd.prog (Ev122 N R) := EnvOK.addLp (Ev121_ok N R) (by kernel_rfl) (lpK_ok (li := ref40_first_L20_I) (G := fun X c => ref40_first_L20 N X c.1.1 c.1.2.1 c.1.2.2.1 c.2.1 c.2.2.1 c.2.2.2.1) hmx (Ev121_ok N _) (by kernel_rfl) loopAt_sub (fun (X : CT ref40_first_L20_I.sh → Option (OT ref40_first_L20_I.outs)) (c : CT ref40_first_L20_I.sh) => ref40_first_L20_S N X c.1.1 c.1.2.1 c.1.2.2.1 c.2.1 c.2.2.1 c.2.2.2.1) N)
noncomputable def ref40_first (b0 : List (Int)) : Option ((Int × (Int × (Int × (Int × (Int × ((Arr Int 32) × (List UInt8 × (List UInt8 × (((Arr Int 32) × ((Arr Int 16) × Int)) × ((Arr Int 16) × (Int × (Int × (List Int))))))))))))) × Int × Int) :=
 bif (decide ((((List.length b0) : Nat) : Int) = (0 : Int))) then
  some ((((0 : Int), ((0 : Int), ((0 : Int), ((0 : Int), ((0 : Int), ((@Arr.cons Int 31 0 (@Arr.cons Int 30 0 (@Arr.cons Int 29 0 (@Arr.cons Int 28 0 (@Arr.cons Int 27 0 (@Arr.cons Int 26 0 (@Arr.cons Int 25 0 (@Arr.cons Int 24 0 (@Arr.cons Int 23 0 (@Arr.cons Int 22 0 (@Arr.cons Int 21 0 (@Arr.cons Int 20 0 (@Arr.cons Int 19 0 (@Arr.cons Int 18 0 (@Arr.cons Int 17 0 (@Arr.cons Int 16 0 (@Arr.cons Int 15 0 (@Arr.cons Int 14 0 (@Arr.cons Int 13 0 (@Arr.cons Int 12 0 (@Arr.cons Int 11 0 (@Arr.cons Int 10 0 (@Arr.cons Int 9 0 (@Arr.cons Int 8 0 (@Arr.cons Int 7 0 (@Arr.cons Int 6 0 (@Arr.cons Int 5 0 (@Arr.cons Int 4 0 (@Arr.cons Int 3 0 (@Arr.cons Int 2 0 (@Arr.cons Int 1 0 (@Arr.cons Int 0 0 (@Arr.nil Int))))))))))))))))))))))))))))))))), ((Array.toList (List.toArray ([] : List UInt8))), ((Array.toList (List.toArray ([] : List UInt8))), (((@Arr.cons Int 31 0 (@Arr.cons Int 30 0 (@Arr.cons Int 29 0 (@Arr.cons Int 28 0 (@Arr.cons Int 27 0 (@Arr.cons Int 26 0 (@Arr.cons Int 25 0 (@Arr.cons Int 24 0 (@Arr.cons Int 23 0 (@Arr.cons Int 22 0 (@Arr.cons Int 21 0 (@Arr.cons Int 20 0 (@Arr.cons Int 19 0 (@Arr.cons Int 18 0 (@Arr.cons Int 17 0 (@Arr.cons Int 16 0 (@Arr.cons Int 15 0 (@Arr.cons Int 14 0 (@Arr.cons Int 13 0 (@Arr.cons Int 12 0 (@Arr.cons Int 11 0 (@Arr.cons Int 10 0 (@Arr.cons Int 9 0 (@Arr.cons Int 8 0 (@Arr.cons Int 7 0 (@Arr.cons Int 6 0 (@Arr.cons Int 5 0 (@Arr.cons Int 4 0 (@Arr.cons Int 3 0 (@Arr.cons Int 2 0 (@Arr.cons Int 1 0 (@Arr.cons Int 0 0 (@Arr.nil Int))))))))))))))))))))))))))))))))), ((@Arr.cons Int 15 0 (@Arr.cons Int 14 0 (@Arr.cons Int 13 0 (@Arr.cons Int 12 0 (@Arr.cons Int 11 0 (@Arr.cons Int 10 0 (@Arr.cons Int 9 0 (@Arr.cons Int 8 0 (@Arr.cons Int 7 0 (@Arr.cons Int 6 0 (@Arr.cons Int 5 0 (@Arr.cons Int 4 0 (@Arr.cons Int 3 0 (@Arr.cons Int 2 0 (@Arr.cons Int 1 0 (@Arr.cons Int 0 0 (@Arr.nil Int))))))))))))))))), (0 : Int))), ((@Arr.cons Int 15 0 (@Arr.cons Int 14 0 (@Arr.cons Int 13 0 (@Arr.cons Int 12 0 (@Arr.cons Int 11 0 (@Arr.cons Int 10 0 (@Arr.cons Int 9 0 (@Arr.cons Int 8 0 (@Arr.cons Int 7 0 (@Arr.cons Int 6 0 (@Arr.cons Int 5 0 (@Arr.cons Int 4 0 (@Arr.cons Int 3 0 (@Arr.cons Int 2 0 (@Arr.cons Int 1 0 (@Arr.cons Int 0 0 (@Arr.nil Int))))))))))))))))), ((0 : Int), ((0 : Int), ([] : List Int))))))))))))), ((0 : Int), (4 : Int))))
 else
  Option.bind (getI b0 (0 : Int)) fun (v2 : Int) =>
  Option.bind (bif (decide (v2 < (1 : Int))) then
    some (true)
   else
    Option.bind (getI b0 (0 : Int)) fun (v3 : Int) =>
    some ((cond false true (decide ((12 : Int) < v3))))) fun (v3 : Bool) =>
  bif v3 then
   some ((((0 : Int), ((0 : Int), ((0 : Int), ((0 : Int), ((0 : Int), ((@Arr.cons Int 31 0 (@Arr.cons Int 30 0 (@Arr.cons Int 29 0 (@Arr.cons Int 28 0 (@Arr.cons Int 27 0 (@Arr.cons Int 26 0 (@Arr.cons Int 25 0 (@Arr.cons Int 24 0 (@Arr.cons Int 23 0 (@Arr.cons Int 22 0 (@Arr.cons Int 21 0 (@Arr.cons Int 20 0 (@Arr.cons Int 19 0 (@Arr.cons Int 18 0 (@Arr.cons Int 17 0 (@Arr.cons Int 16 0 (@Arr.cons Int 15 0 (@Arr.cons Int 14 0 (@Arr.cons Int 13 0 (@Arr.cons Int 12 0 (@Arr.cons Int 11 0 (@Arr.cons Int 10 0 (@Arr.cons Int 9 0 (@Arr.cons Int 8 0 (@Arr.cons Int 7 0 (@Arr.cons Int 6 0 (@Arr.cons Int 5 0 (@Arr.cons Int 4 0 (@Arr.cons Int 3 0 (@Arr.cons Int 2 0 (@Arr.cons Int 1 0 (@Arr.cons Int 0 0 (@Arr.nil Int))))))))))))))))))))))))))))))))), ((Array.toList (List.toArray ([] : List UInt8))), ((Array.toList (List.toArray ([] : List UInt8))), (((@Arr.cons Int 31 0 (@Arr.cons Int 30 0 (@Arr.cons Int 29 0 (@Arr.cons Int 28 0 (@Arr.cons Int 27 0 (@Arr.cons Int 26 0 (@Arr.cons Int 25 0 (@Arr.cons Int 24 0 (@Arr.cons Int 23 0 (@Arr.cons Int 22 0 (@Arr.cons Int 21 0 (@Arr.cons Int 20 0 (@Arr.cons Int 19 0 (@Arr.cons Int 18 0 (@Arr.cons Int 17 0 (@Arr.cons Int 16 0 (@Arr.cons Int 15 0 (@Arr.cons Int 14 0 (@Arr.cons Int 13 0 (@Arr.cons Int 12 0 (@Arr.cons Int 11 0 (@Arr.cons Int 10 0 (@Arr.cons Int 9 0 (@Arr.cons Int 8 0 (@Arr.cons Int 7 0 (@Arr.cons Int 6 0 (@Arr.cons Int 5 0 (@Arr.cons Int 4 0 (@Arr.cons Int 3 0 (@Arr.cons Int 2 0 (@Arr.cons Int 1 0 (@Arr.cons Int 0 0 (@Arr.nil Int))))))))))))))))))))))))))))))))), ((@Arr.cons Int 15 0 (@Arr.cons Int 14 0 (@Arr.cons Int 13 0 (@Arr.cons Int 12 0 (@Arr.cons Int 11 0 (@Arr.cons Int 10 0 (@Arr.cons Int 9 0 (@Arr.cons Int 8 0 (@Arr.cons Int 7 0 (@Arr.cons Int 6 0 (@Arr.cons Int 5 0 (@Arr.cons Int 4 0 (@Arr.cons Int 3 0 (@Arr.cons Int 2 0 (@Arr.cons Int 1 0 (@Arr.cons Int 0 0 (@Arr.nil Int))))))))))))))))), (0 : Int))), ((@Arr.cons Int 15 0 (@Arr.cons Int 14 0 (@Arr.cons Int 13 0 (@Arr.cons Int 12 0 (@Arr.cons Int 11 0 (@Arr.cons Int 10 0 (@Arr.cons Int 9 0 (@Arr.cons Int 8 0 (@Arr.cons Int 7 0 (@Arr.cons Int 6 0 (@Arr.cons Int 5 0 (@Arr.cons Int 4 0 (@Arr.cons Int 3 0 (@Arr.cons Int 2 0 (@Arr.cons Int 1 0 (@Arr.cons Int 0 0 (@Arr.nil Int))))))))))))))))), ((0 : Int), ((0 : Int), ([] : List Int))))))))))))), ((0 : Int), (9 : Int))))
  else
   bif (decide ((((List.length b0) : Nat) : Int) < (116 : Int))) then
    some ((((0 : Int), ((0 : Int), ((0 : Int), ((0 : Int), ((0 : Int), ((@Arr.cons Int 31 0 (@Arr.cons Int 30 0 (@Arr.cons Int 29 0 (@Arr.cons Int 28 0 (@Arr.cons Int 27 0 (@Arr.cons Int 26 0 (@Arr.cons Int 25 0 (@Arr.cons Int 24 0 (@Arr.cons Int 23 0 (@Arr.cons Int 22 0 (@Arr.cons Int 21 0 (@Arr.cons Int 20 0 (@Arr.cons Int 19 0 (@Arr.cons Int 18 0 (@Arr.cons Int 17 0 (@Arr.cons Int 16 0 (@Arr.cons Int 15 0 (@Arr.cons Int 14 0 (@Arr.cons Int 13 0 (@Arr.cons Int 12 0 (@Arr.cons Int 11 0 (@Arr.cons Int 10 0 (@Arr.cons Int 9 0 (@Arr.cons Int 8 0 (@Arr.cons Int 7 0 (@Arr.cons Int 6 0 (@Arr.cons Int 5 0 (@Arr.cons Int 4 0 (@Arr.cons Int 3 0 (@Arr.cons Int 2 0 (@Arr.cons Int 1 0 (@Arr.cons Int 0 0 (@Arr.nil Int))))))))))))))))))))))))))))))))), ((Array.toList (List.toArray ([] : List UInt8))), ((Array.toList (List.toArray ([] : List UInt8))), (((@Arr.cons Int 31 0 (@Arr.cons Int 30 0 (@Arr.cons Int 29 0 (@Arr.cons Int 28 0 (@Arr.cons Int 27 0 (@Arr.cons Int 26 0 (@Arr.cons Int 25 0 (@Arr.cons Int 24 0 (@Arr.cons Int 23 0 (@Arr.cons Int 22 0 (@Arr.cons Int 21 0 (@Arr.cons Int 20 0 (@Arr.cons Int 19 0 (@Arr.cons Int 18 0 (@Arr.cons Int 17 0 (@Arr.cons Int 16 0 (@Arr.cons Int 15 0 (@Arr.cons Int 14 0 (@Arr.cons Int 13 0 (@Arr.cons Int 12 0 (@Arr.cons Int 11 0 (@Arr.cons Int 10 0 (@Arr.cons Int 9 0 (@Arr.cons Int 8 0 (@Arr.cons Int 7 0 (@Arr.cons Int 6 0 (@Arr.cons Int 5 0 (@Arr.cons Int 4 0 (@Arr.cons Int 3 0 (@Arr.cons Int 2 0 (@Arr.cons Int 1 0 (@Arr.cons Int 0 0 (@Arr.nil Int))))))))))))))))))))))))))))))))), ((@Arr.cons Int 15 0 (@Arr.cons Int 14 0 (@Arr.cons Int 13 0 (@Arr.cons Int 12 0 (@Arr.cons Int 11 0 (@Arr.cons Int 10 0 (@Arr.cons Int 9 0 (@Arr.cons Int 8 0 (@Arr.cons Int 7 0 (@Arr.cons Int 6 0 (@Arr.cons Int 5 0 (@Arr.cons Int 4 0 (@Arr.cons Int 3 0 (@Arr.cons Int 2 0 (@Arr.cons Int 1 0 (@Arr.cons Int 0 0 (@Arr.nil Int))))))))))))))))), (0 : Int))), ((@Arr.cons Int 15 0 (@Arr.cons Int 14 0 (@Arr.cons Int 13 0 (@Arr.cons Int 12 0 (@Arr.cons Int 11 0 (@Arr.cons Int 10 0 (@Arr.cons Int 9 0 (@Arr.cons Int 8 0 (@Arr.cons Int 7 0 (@Arr.cons Int 6 0 (@Arr.cons Int 5 0 (@Arr.cons Int 4 0 (@Arr.cons Int 3 0 (@Arr.cons Int 2 0 (@Arr.cons Int 1 0 (@Arr.cons Int 0 0 (@Arr.nil Int))))))))))))))))), ((0 : Int), ((0 : Int), ([] : List Int))))))))))))), ((0 : Int), (4 : Int))))
   else
    Option.bind (getI b0 (0 : Int)) fun (v4 : Int) =>
    Option.bind (getI b0 (1 : Int)) fun (v5 : Int) =>
    Option.bind (getI b0 (2 : Int)) fun (v6 : Int) =>
    Option.bind (getI b0 (3 : Int)) fun (v7 : Int) =>
    Option.bind (subI b0 (4 : Int) (8 : Int)) fun (v8 : (List Int)) =>
    Option.bind (ref01_Num N v8) fun v9 =>
    Option.bind (ref40_first_L9_R N ((b0, ((0 : Int), ())), (((0 : Int), ((0 : Int), ((0 : Int), ((0 : Int), ((0 : Int), ((@Arr.cons Int 31 0 (@Arr.cons Int 30 0 (@Arr.cons Int 29 0 (@Arr.cons Int 28 0 (@Arr.cons Int 27 0 (@Arr.cons Int 26 0 (@Arr.cons Int 25 0 (@Arr.cons Int 24 0 (@Arr.cons Int 23 0 (@Arr.cons Int 22 0 (@Arr.cons Int 21 0 (@Arr.cons Int 20 0 (@Arr.cons Int 19 0 (@Arr.cons Int 18 0 (@Arr.cons Int 17 0 (@Arr.cons Int 16 0 (@Arr.cons Int 15 0 (@Arr.cons Int 14 0 (@Arr.cons Int 13 0 (@Arr.cons Int 12 0 (@Arr.cons Int 11 0 (@Arr.cons Int 10 0 (@Arr.cons Int 9 0 (@Arr.cons Int 8 0 (@Arr.cons Int 7 0 (@Arr.cons Int 6 0 (@Arr.cons Int 5 0 (@Arr.cons Int 4 0 (@Arr.cons Int 3 0 (@Arr.cons Int 2 0 (@Arr.cons Int 1 0 (@Arr.cons Int 0 0 (@Arr.nil Int))))))))))))))))))))))))))))))))), ((Array.toList (List.toArray ([] : List UInt8))), ((Array.toList (List.toArray ([] : List UInt8))), (((@Arr.cons Int 31 0 (@Arr.cons Int 30 0 (@Arr.cons Int 29 0 (@Arr.cons Int 28 0 (@Arr.cons Int 27 0 (@Arr.cons Int 26 0 (@Arr.cons Int 25 0 (@Arr.cons Int 24 0 (@Arr.cons Int 23 0 (@Arr.cons Int 22 0 (@Arr.cons Int 21 0 (@Arr.cons Int 20 0 (@Arr.cons Int 19 0 (@Arr.cons Int 18 0 (@Arr.cons Int 17 0 (@Arr.cons Int 16 0 (@Arr.cons Int 15 0 (@Arr.cons Int 14 0 (@Arr.cons Int 13 0 (@Arr.cons Int 12 0 (@Arr.cons Int 11 0 (@Arr.cons Int 10 0 (@Arr.cons Int 9 0 (@Arr.cons Int 8 0 (@Arr.cons Int 7 0 (@Arr.cons Int 6 0 (@Arr.cons Int 5 0 (@Arr.cons Int 4 0 (@Arr.cons Int 3 0 (@Arr.cons Int 2 0 (@Arr.cons Int 1 0 (@Arr.cons Int 0 0 (@Arr.nil Int))))))))))))))))))))))))))))))))), ((@Arr.cons Int 15 0 (@Arr.cons Int 14 0 (@Arr.cons Int 13 0 (@Arr.cons Int 12 0 (@Arr.cons Int 11 0 (@Arr.cons Int 10 0 (@Arr.cons Int 9 0 (@Arr.cons Int 8 0 (@Arr.cons Int 7 0 (@Arr.cons Int 6 0 (@Arr.cons Int 5 0 (@Arr.cons Int 4 0 (@Arr.cons Int 3 0 (@Arr.cons Int 2 0 (@Arr.cons Int 1 0 (@Arr.cons Int 0 0 (@Arr.nil Int))))))))))))))))), (0 : Int))), ((@Arr.cons Int 15 0 (@Arr.cons Int 14 0 (@Arr.cons Int 13 0 (@Arr.cons Int 12 0 (@Arr.cons Int 11 0 (@Arr.cons Int 10 0 (@Arr.cons Int 9 0 (@Arr.cons Int 8 0 (@Arr.cons Int 7 0 (@Arr.cons Int 6 0 (@Arr.cons Int 5 0 (@Arr.cons Int 4 0 (@Arr.cons Int 3 0 (@Arr.cons Int 2 0 (@Arr.cons Int 1 0 (@Arr.cons Int 0 0 (@Arr.nil Int))))))))))))))))), ((0 : Int), ((0 : Int), ([] : List Int))))))))))))), (((IntKind.wrap .i64 v4), ((IntKind.wrap .i64 v5), ((IntKind.wrap .i64 v6), ((IntKind.wrap .i64 v7), ((IntKind.wrap .i64 v9), ((@Arr.cons Int 31 0 (@Arr.cons Int 30 0 (@Arr.cons Int 29 0 (@Arr.cons Int 28 0 (@Arr.cons Int 27 0 (@Arr.cons Int 26 0 (@Arr.cons Int 25 0 (@Arr.cons Int 24 0 (@Arr.cons Int 23 0 (@Arr.cons Int 22 0 (@Arr.cons Int 21 0 (@Arr.cons Int 20 0 (@Arr.cons Int 19 0 (@Arr.cons Int 18 0 (@Arr.cons Int 17 0 (@Arr.cons Int 16 0 (@Arr.cons Int 15 0 (@Arr.cons Int 14 0 (@Arr.cons Int 13 0 (@Arr.cons Int 12 0 (@Arr.cons Int 11 0 (@Arr.cons Int 10 0 (@Arr.cons Int 9 0 (@Arr.cons Int 8 0 (@Arr.cons Int 7 0 (@Arr.cons Int 6 0 (@Arr.cons Int 5 0 (@Arr.cons Int 4 0 (@Arr.cons Int 3 0 (@Arr.cons Int 2 0 (@Arr.cons Int 1 0 (@Arr.cons Int 0 0 (@Arr.nil Int))))))))))))))))))))))))))))))))), ((Array.toList (List.toArray ([] : List UInt8))), ((Array.toList (List.toArray ([] : List UInt8))), (((@Arr.cons Int 31 0 (@Arr.cons Int 30 0 (@Arr.cons Int 29 0 (@Arr.cons Int 28 0 (@Arr.cons Int 27 0 (@Arr.cons Int 26 0 (@Arr.cons Int 25 0 (@Arr.cons Int 24 0 (@Arr.cons Int 23 0 (@Arr.cons Int 22 0 (@Arr.cons Int 21 0 (@Arr.cons Int 20 0 (@Arr.cons Int 19 0 (@Arr.cons Int 18 0 (@Arr.cons Int 17 0 (@Arr.cons Int 16 0 (@Arr.cons Int 15 0 (@Arr.cons Int 14 0 (@Arr.cons Int 13 0 (@Arr.cons Int 12 0 (@Arr.cons Int 11 0 (@Arr.cons Int 10 0 (@Arr.cons Int 9 0 (@Arr.cons Int 8 0 (@Arr.cons Int 7 0 (@Arr.cons Int 6 0 (@Arr.cons Int 5 0 (@Arr.cons Int 4 0 (@Arr.cons Int 3 0 (@Arr.cons Int 2 0 (@Arr.cons Int 1 0 (@Arr.cons Int 0 0 (@Arr.nil Int))))))))))))))))))))))))))))))))), ((@Arr.cons Int 15 0 (@Arr.cons Int 14 0 (@Arr.cons Int 13 0 (@Arr.cons Int 12 0 (@Arr.cons Int 11 0 (@Arr.cons Int 10 0 (@Arr.cons Int 9 0 (@Arr.cons Int 8 0 (@Arr.cons Int 7 0 (@Arr.cons Int 6 0 (@Arr.cons Int 5 0 (@Arr.cons Int 4 0 (@Arr.cons Int 3 0 (@Arr.cons Int 2 0 (@Arr.cons Int 1 0 (@Arr.cons Int 0 0 (@Arr.nil Int))))))))))))))))), (0 : Int))), ((@Arr.cons Int 15 0 (@Arr.cons Int 14 0 (@Arr.cons Int 13 0 (@Arr.cons Int 12 0 (@Arr.cons Int 11 0 (@Arr.cons Int 10 0 (@Arr.cons Int 9 0 (@Arr.cons Int 8 0 (@Arr.cons Int 7 0 (@Arr.cons Int 6 0 (@Arr.cons Int 5 0 (@Arr.cons Int 4 0 (@Arr.cons Int 3 0 (@Arr.cons Int 2 0 (@Arr.cons Int 1 0 (@Arr.cons Int 0 0 (@Arr.nil Int))))))))))))))))), ((0 : Int), ((0 : Int), ([] : List Int))))))))))))), ())))) fun v10 =>
    Option.bind (ref40_first_L13_R N ((v10.1.1, ((0 : Int), ())), ((v10.2.1.1, (v10.2.1.2.1, (v10.2.1.2.2.1, (v10.2.1.2.2.2.1, (v10.2.1.2.2.2.2.1, (v10.2.1.2.2.2.2.2.1, (v10.2.1.2.2.2.2.2.2.1, (v10.2.1.2.2.2.2.2.2.2.1, ((v10.2.1.2.2.2.2.2.2.2.2.1.1, (v10.2.1.2.2.2.2.2.2.2.2.1.2.1, v10.2.1.2.2.2.2.2.2.2.2.1.2.2)), (v10.2.1.2.2.2.2.2.2.2.2.2.1, (v10.2.1.2.2.2.2.2.2.2.2.2.2.1, (v10.2.1.2.2.2.2.2.2.2.2.2.2.2.1, v10.2.1.2.2.2.2.2.2.2.2.2.2.2.2)))))))))))), ((v10.2.2.1.1, (v10.2.2.1.2.1, (v10.2.2.1.2.2.1, (v10.2.2.1.2.2.2.1, (v10.2.2.1.2.2.2.2.1, (v10.2.2.1.2.2.2.2.2.1, (v10.2.2.1.2.2.2.2.2.2.1, (v10.2.2.1.2.2.2.2.2.2.2.1, ((v10.2.2.1.2.2.2.2.2.2.2.2.1.1, (v10.2.2.1.2.2.2.2.2.2.2.2.1.2.1, v10.2.2.1.2.2.2.2.2.2.2.2.1.2.2)), (v10.2.2.1.2.2.2.2.2.2.2.2.2.1, (v10.2.2.1.2.2.2.2.2.2.2.2.2.2.1, (v10.2.2.1.2.2.2.2.2.2.2.2.2.2.2.1, v10.2.2.1.2.2.2.2.2.2.2.2.2.2.2.2)))))))))))), ())))) fun v11 =>
    Option.bind (subI v11.1.1 (88 : Int) (92 : Int)) fun (v12 : (List Int)) =>
    Option.bind (ref01_Num N v12) fun v13 =>
    Option.bind (subI v11.1.1 (108 : Int) (112 : Int)) fun (v14 : (List Int)) =>
    Option.bind (ref01_Num N v14) fun v15 =>
    Option.bind (subI v11.1.1 (112 : Int) (116 : Int)) fun (v16 : (List Int)) =>
    Option.bind (ref01_Num N v16) fun v17 =>
    Option.bind (ref40_first_L20_R N ((v11.1.1, ((116 : Int), ((0 : Int), ()))), ((v11.2.1.1, (v11.2.1.2.1, (v11.2.1.2.2.1, (v11.2.1.2.2.2.1, (v11.2.1.2.2.2.2.1, (v11.2.1.2.2.2.2.2.1, (v11.2.1.2.2.2.2.2.2.1, (v11.2.1.2.2.2.2.2.2.2.1, ((v11.2.1.2.2.2.2.2.2.2.2.1.1, (v11.2.1.2.2.2.2.2.2.2.2.1.2.1, v11.2.1.2.2.2.2.2.2.2.2.1.2.2)), (v11.2.1.2.2.2.2.2.2.2.2.2.1, (v11.2.1.2.2.2.2.2.2.2.2.2.2.1, (v11.2.1.2.2.2.2.2.2.2.2.2.2.2.1, v11.2.1.2.2.2.2.2.2.2.2.2.2.2.2)))))))))))), ((v11.2.2.1.1, (v11.2.2.1.2.1, (v11.2.2.1.2.2.1, (v11.2.2.1.2.2.2.1, (v11.2.2.1.2.2.2.2.1, (v11.2.2.1.2.2.2.2.2.1, (v11.2.2.1.2.2.2.2.2.2.1, (v11.2.2.1.2.2.2.2.2.2.2.1, ((v11.2.2.1.2.2.2.2.2.2.2.2.1.1, (v11.2.2.1.2.2.2.2.2.2.2.2.1.2.1, (IntKind.wrap .u32 v13))), (v11.2.2.1.2.2.2.2.2.2.2.2.2.1, ((IntKind.wrap .u32 v15), ((IntKind.wrap .u32 v17), v11.2.2.1.2.2.2.2.2.2.2.2.2.2.2.2)))))))))))), ((@Arr.cons (List Int) (2 : Nat) ([] : List Int) (@Arr.cons (List Int) (1 : Nat) ([] : List Int) (@Arr.cons (List Int) (0 : Nat) ([] : List Int) (@Arr.nil (List Int))))), ()))))) fun v18 =>
    Sum.elim
     (fun (v19 : ((Int × (Int × Unit)) × (Int × (Int × (Int × (Int × (Int × ((Arr Int 32) × (List UInt8 × (List UInt8 × ((Arr Int 32) × ((Arr Int 16) × (Int × ((Arr Int 16) × (Int × (Int × Unit)))))))))))))))) =>
     some (((v19.2.1, (v19.2.2.1, (v19.2.2.2.1, (v19.2.2.2.2.1, (v19.2.2.2.2.2.1, (v19.2.2.2.2.2.2.1, (v19.2.2.2.2.2.2.2.1, (v19.2.2.2.2.2.2.2.2.1, ((v19.2.2.2.2.2.2.2.2.2.1, (v19.2.2.2.2.2.2.2.2.2.2.1, v19.2.2.2.2.2.2.2.2.2.2.2.1)), (v19.2.2.2.2.2.2.2.2.2.2.2.2.1, (v19.2.2.2.2.2.2.2.2.2.2.2.2.2.1, (v19.2.2.2.2.2.2.2.2.2.2.2.2.2.2.1, ([] : List Int))))))))))))), (v19.1.1, v19.1.2.1))))
     (fun (v19 : ((Int × Unit) × ((Int × (Int × (Int × (Int × (Int × ((Arr Int 32) × (List UInt8 × (List UInt8 × (((Arr Int 32) × ((Arr Int 16) × Int)) × ((Arr Int 16) × (Int × (Int × (List Int))))))))))))) × ((Int × (Int × (Int × (Int × (Int × ((Arr Int 32) × (List UInt8 × (List UInt8 × (((Arr Int 32) × ((Arr Int 16) × Int)) × ((Arr Int 16) × (Int × (Int × (List Int))))))))))))) × ((Arr (List Int) 3) × Unit))))) =>
     Option.bind (@GetElem?.getElem? (List (List Int)) Nat (List Int) (fun (as20 : (List (List Int))) => (fun (i21 : Nat) => (@LT.lt Nat @instLTNat i21 (List.length as20)))) (@List.instGetElem?NatLtLength (List Int)) v19.2.2.2.1.l (Int.toNat (0 : Int))) fun (v20 : (List Int)) =>
     Option.bind (@toBy v20) fun (v21 : (List UInt8)) =>
     Option.bind (@GetElem?.getElem? (List (List Int)) Nat (List Int) (fun (as22 : (List (List Int))) => (fun (i23 : Nat) => (@LT.lt Nat @instLTNat i23 (List.length as22)))) (@List.instGetElem?NatLtLength (List Int)) v19.2.2.2.1.l (Int.toNat (1 : Int))) fun (v22 : (List Int)) =>
     Option.bind (@toBy v22) fun (v23 : (List UInt8)) =>
     Option.bind (@GetElem?.getElem? (List (List Int)) Nat (List Int) (fun (as24 : (List (List Int))) => (fun (i25 : Nat) => (@LT.lt Nat @instLTNat i25 (List.length as24)))) (@List.instGetElem?NatLtLength (List Int)) v19.2.2.2.1.l (Int.toNat (2 : Int))) fun (v24 : (List Int)) =>
     Option.bind (ref40_May N (v19.2.2.1.1, (v19.2.2.1.2.1, (v19.2.2.1.2.2.1, (v19.2.2.1.2.2.2.1, (v19.2.2.1.2.2.2.2.1, (v19.2.2.1.2.2.2.2.2.1, (v21, (v23, ((v19.2.2.1.2.2.2.2.2.2.2.2.1.1, (v19.2.2.1.2.2.2.2.2.2.2.2.1.2.1, v19.2.2.1.2.2.2.2.2.2.2.2.1.2.2)), (v19.2.2.1.2.2.2.2.2.2.2.2.2.1, (v19.2.2.1.2.2.2.2.2.2.2.2.2.2.1, (v19.2.2.1.2.2.2.2.2.2.2.2.2.2.2.1, v24))))))))))))) fun v25 =>
     bif (!(decide (v25 = (0 : Int)))) then
      some ((((0 : Int), ((0 : Int), ((0 : Int), ((0 : Int), ((0 : Int), ((@Arr.cons Int 31 0 (@Arr.cons Int 30 0 (@Arr.cons Int 29 0 (@Arr.cons Int 28 0 (@Arr.cons Int 27 0 (@Arr.cons Int 26 0 (@Arr.cons Int 25 0 (@Arr.cons Int 24 0 (@Arr.cons Int 23 0 (@Arr.cons Int 22 0 (@Arr.cons Int 21 0 (@Arr.cons Int 20 0 (@Arr.cons Int 19 0 (@Arr.cons Int 18 0 (@Arr.cons Int 17 0 (@Arr.cons Int 16 0 (@Arr.cons Int 15 0 (@Arr.cons Int 14 0 (@Arr.cons Int 13 0 (@Arr.cons Int 12 0 (@Arr.cons Int 11 0 (@Arr.cons Int 10 0 (@Arr.cons Int 9 0 (@Arr.cons Int 8 0 (@Arr.cons Int 7 0 (@Arr.cons Int 6 0 (@Arr.cons Int 5 0 (@Arr.cons Int 4 0 (@Arr.cons Int 3 0 (@Arr.cons Int 2 0 (@Arr.cons Int 1 0 (@Arr.cons Int 0 0 (@Arr.nil Int))))))))))))))))))))))))))))))))), ((Array.toList (List.toArray ([] : List UInt8))), ((Array.toList (List.toArray ([] : List UInt8))), (((@Arr.cons Int 31 0 (@Arr.cons Int 30 0 (@Arr.cons Int 29 0 (@Arr.cons Int 28 0 (@Arr.cons Int 27 0 (@Arr.cons Int 26 0 (@Arr.cons Int 25 0 (@Arr.cons Int 24 0 (@Arr.cons Int 23 0 (@Arr.cons Int 22 0 (@Arr.cons Int 21 0 (@Arr.cons Int 20 0 (@Arr.cons Int 19 0 (@Arr.cons Int 18 0 (@Arr.cons Int 17 0 (@Arr.cons Int 16 0 (@Arr.cons Int 15 0 (@Arr.cons Int 14 0 (@Arr.cons Int 13 0 (@Arr.cons Int 12 0 (@Arr.cons Int 11 0 (@Arr.cons Int 10 0 (@Arr.cons Int 9 0 (@Arr.cons Int 8 0 (@Arr.cons Int 7 0 (@Arr.cons Int 6 0 (@Arr.cons Int 5 0 (@Arr.cons Int 4 0 (@Arr.cons Int 3 0 (@Arr.cons Int 2 0 (@Arr.cons Int 1 0 (@Arr.cons Int 0 0 (@Arr.nil Int))))))))))))))))))))))))))))))))), ((@Arr.cons Int 15 0 (@Arr.cons Int 14 0 (@Arr.cons Int 13 0 (@Arr.cons Int 12 0 (@Arr.cons Int 11 0 (@Arr.cons Int 10 0 (@Arr.cons Int 9 0 (@Arr.cons Int 8 0 (@Arr.cons Int 7 0 (@Arr.cons Int 6 0 (@Arr.cons Int 5 0 (@Arr.cons Int 4 0 (@Arr.cons Int 3 0 (@Arr.cons Int 2 0 (@Arr.cons Int 1 0 (@Arr.cons Int 0 0 (@Arr.nil Int))))))))))))))))), (0 : Int))), ((@Arr.cons Int 15 0 (@Arr.cons Int 14 0 (@Arr.cons Int 13 0 (@Arr.cons Int 12 0 (@Arr.cons Int 11 0 (@Arr.cons Int 10 0 (@Arr.cons Int 9 0 (@Arr.cons Int 8 0 (@Arr.cons Int 7 0 (@Arr.cons Int 6 0 (@Arr.cons Int 5 0 (@Arr.cons Int 4 0 (@Arr.cons Int 3 0 (@Arr.cons Int 2 0 (@Arr.cons Int 1 0 (@Arr.cons Int 0 0 (@Arr.nil Int))))))))))))))))), ((0 : Int), ((0 : Int), ([] : List Int))))))))))))), ((0 : Int), v25)))
     else
      some (((v19.2.2.1.1, (v19.2.2.1.2.1, (v19.2.2.1.2.2.1, (v19.2.2.1.2.2.2.1, (v19.2.2.1.2.2.2.2.1, (v19.2.2.1.2.2.2.2.2.1, (v21, (v23, ((v19.2.2.1.2.2.2.2.2.2.2.2.1.1, (v19.2.2.1.2.2.2.2.2.2.2.2.1.2.1, v19.2.2.1.2.2.2.2.2.2.2.2.1.2.2)), (v19.2.2.1.2.2.2.2.2.2.2.2.2.1, (v19.2.2.1.2.2.2.2.2.2.2.2.2.2.1, (v19.2.2.1.2.2.2.2.2.2.2.2.2.2.2.1, v24)))))))))))), (v19.1.1, (0 : Int))))) v18
theorem ref40_first_S (b0 : List (Int)) : (runK Tryd.prog (Ev122 N) 400 38 [(.sl (.int .u8))] [(.pair (.int .i64) (.pair (.int .i64) (.pair (.int .i64) (.pair (.int .i64) (.pair (.int .i64) (.pair (.arr 32 (.int .u8)) (.pair .str (.pair .str (.pair (.pair (.arr 32 (.int .u8)) (.pair (.arr 16 (.int .u8)) (.int .u32))) (.pair (.arr 16 (.int .u8)) (.pair (.int .u32) (.pair (.int .u32) (.sl (.int .u8)))))))))))))), (.int .i64), (.int .i64)] (b0, ())).run = ref40_first N b0 := by kernel_rfl
noncomputable def Ev123 : (R : Type) → Env R := Env.addFn (Ev122 N) 38 (fun R => fnK [(.sl (.int .u8))] [(.pair (.int .i64) (.pair (.int .i64) (.pair (.int .i64) (.pair (.int .i64) (.pair (.int .i64) (.pair (.arr 32 (.int .u8)) (.pair .str (.pair .str (.pair (.pair (.arr 32 (.int .u8)) (.pair (.arr 16 (.int .u8)) (.int .u32))) (.pair (.arr 16 (.int .u8)) (.pair (.int .u32) (.pair (.int .u32) (.sl (.int .u8)))))))))))))), (.int .i64), (.int .i64)] (fun c => ref40_first N c.1))
theorem Ev123_ok (R : Type) : EnvOK Tryd.prog (Ev123 N R) := EnvOK.addFn hmx (Ev122_ok N R) (Ev122_ok N _) (by kernel_rfl) (fun c => ref40_first_S N c.1)
noncomputable def Ev124 : (R : Type) → Env R := Env.addMv (Ev123 N) [(20, 18)]
theorem Ev124_ok (R : Type) : EnvOK Tryd.prog (Ev124 N R) := EnvOK.addMv (Ev123_ok N R) [(20, 18)]
noncomputable def ref40_Parse_L13_I : LI := ⟨69, 0, [(6, 30)], ⟨[(4, .ty (.int .i64)), (5, .ty (.sl (.int .u8))), (6, .lit (.own 0)), (7, .ty (.int .i64))], [.own (.pair (.int .i64) (.pair (.int .i64) (.pair (.int .i64) (.pair (.int .i64) (.pair (.int .i64) (.pair (.arr 32 (.int .u8)) (.pair .str (.pair .str (.pair (.pair (.arr 32 (.int .u8)) (.pair (.arr 16 (.int .u8)) (.int .u32))) (.pair (.arr 16 (.int .u8)) (.pair (.int .u32) (.pair (.int .u32) (.sl (.int .u8)))))))))))))) 30]⟩, [(.ret, ⟨[(2, .ty (.sl (.pair (.int .i64) (.pair (.int .i64) (.pair (.int .i64) (.pair (.int .i64) (.pair (.int .i64) (.pair (.arr 32 (.int .u8)) (.pair .str (.pair .str (.pair (.pair (.arr 32 (.int .u8)) (.pair (.arr 16 (.int .u8)) (.int .u32))) (.pair (.arr 16 (.int .u8)) (.pair (.int .u32) (.pair (.int .u32) (.sl (.int .u8)))))))))))))))), (3, .ty (.int .i64))], []⟩), (.exit 0, ⟨[(5, .ty (.sl (.int .u8))), (6, .lit (.own 0))], [.own (.pair (.int .i64) (.pair (.int .i64) (.pair (.int .i64) (.pair (.int .i64) (.pair (.int .i64) (.pair (.arr 32 (.int .u8)) (.pair .str (.pair .str (.pair (.pair (.arr 32 (.int .u8)) (.pair (.arr 16 (.int .u8)) (.int .u32))) (.pair (.arr 16 (.int .u8)) (.pair (.int .u32) (.pair (.int .u32) (.sl (.int .u8)))))))))))))) 30]⟩)]⟩
noncomputable def ref40_Parse_L13 (X : ((Int × ((List Int) × (Int × Unit))) × ((List (Int × (Int × (Int × (Int × (Int × ((Arr Int 32) × (List UInt8 × (List UInt8 × (((Arr Int 32) × ((Arr Int 16) × Int)) × ((Arr Int 16) × (Int × (Int × (List Int)))))))))))))) × Unit)) → Option (((((List (Int × (Int × (Int × (Int × (Int × ((Arr Int 32) × (List UInt8 × (List UInt8 × (((Arr Int 32) × ((Arr Int 16) × Int)) × ((Arr Int 16) × (Int × (Int × (List Int)))))))))))))) × (Int × Unit)) × Unit) ⊕ (((List Int) × Unit) × ((List (Int × (Int × (Int × (Int × (Int × ((Arr Int 32) × (List UInt8 × (List UInt8 × (((Arr Int 32) × ((Arr Int 16) × Int)) × ((Arr Int 16) × (Int × (Int × (List Int)))))))))))))) × Unit))))) (many4 : Int) (rest5 : List (Int)) (i7 : Int) (h0 : List (Int × (Int × (Int × (Int × (Int × ((Arr Int 32) × (List UInt8 × (List UInt8 × (((Arr Int 32) × ((Arr Int 16) × Int)) × ((Arr Int 16) × (Int × (Int × (List Int)))))))))))))) : Option (((((List (Int × (Int × (Int × (Int × (Int × ((Arr Int 32) × (List UInt8 × (List UInt8 × (((Arr Int 32) × ((Arr Int 16) × Int)) × ((Arr Int 16) × (Int × (Int × (List Int)))))))))))))) × (Int × Unit)) × Unit) ⊕ (((List Int) × Unit) × ((List (Int × (Int × (Int × (Int × (Int × ((Arr Int 32) × (List UInt8 × (List UInt8 × (((Arr Int 32) × ((Arr Int 16) × Int)) × ((Arr Int 16) × (Int × (Int × (List Int)))))))))))))) × Unit)))) :=
 bif (decide (i7 < many4)) then
  Option.bind (ref40_first N rest5) fun v6 =>
  bif (!(decide (v6.2.2 = (0 : Int)))) then
   some ((.inl ((([] : List ((Int × (Int × (Int × (Int × (Int × ((Arr Int 32) × (List UInt8 × (List UInt8 × (((Arr Int 32) × ((Arr Int 16) × Int)) × ((Arr Int 16) × (Int × (Int × (List Int))))))))))))))), (v6.2.2, ())), ())))
  else
   bif (roomB ((List.length h0) + (List.length ([(v6.1.1, (v6.1.2.1, (v6.1.2.2.1, (v6.1.2.2.2.1, (v6.1.2.2.2.2.1, (v6.1.2.2.2.2.2.1, (v6.1.2.2.2.2.2.2.1, (v6.1.2.2.2.2.2.2.2.1, ((v6.1.2.2.2.2.2.2.2.2.1.1, (v6.1.2.2.2.2.2.2.2.2.1.2.1, v6.1.2.2.2.2.2.2.2.2.1.2.2)), (v6.1.2.2.2.2.2.2.2.2.2.1, (v6.1.2.2.2.2.2.2.2.2.2.2.1, (v6.1.2.2.2.2.2.2.2.2.2.2.2.1, v6.1.2.2.2.2.2.2.2.2.2.2.2.2))))))))))))] : List ((Int × (Int × (Int × (Int × (Int × ((Arr Int 32) × (List UInt8 × (List UInt8 × (((Arr Int 32) × ((Arr Int 16) × Int)) × ((Arr Int 16) × (Int × (Int × (List Int))))))))))))))))) 208) then
    Option.bind (dropI rest5 v6.2.1) fun (v7 : (List Int)) =>
    (X ((many4, (v7, ((IntKind.wrap .i64 (i7 + 1)), ()))), ((h0 ++ ([(v6.1.1, (v6.1.2.1, (v6.1.2.2.1, (v6.1.2.2.2.1, (v6.1.2.2.2.2.1, (v6.1.2.2.2.2.2.1, (v6.1.2.2.2.2.2.2.1, (v6.1.2.2.2.2.2.2.2.1, ((v6.1.2.2.2.2.2.2.2.2.1.1, (v6.1.2.2.2.2.2.2.2.2.1.2.1, v6.1.2.2.2.2.2.2.2.2.1.2.2)), (v6.1.2.2.2.2.2.2.2.2.2.1, (v6.1.2.2.2.2.2.2.2.2.2.2.1, (v6.1.2.2.2.2.2.2.2.2.2.2.2.1, v6.1.2.2.2.2.2.2.2.2.2.2.2.2))))))))))))] : List ((Int × (Int × (Int × (Int × (Int × ((Arr Int 32) × (List UInt8 × (List UInt8 × (((Arr Int 32) × ((Arr Int 16) × Int)) × ((Arr Int 16) × (Int × (Int × (List Int)))))))))))))))), ())))
   else
    none
 else
  some ((.inr ((rest5, ()), (h0, ()))))
noncomputable def ref40_Parse_L13_R (c : ((Int × ((List Int) × (Int × Unit))) × ((List (Int × (Int × (Int × (Int × (Int × ((Arr Int 32) × (List UInt8 × (List UInt8 × (((Arr Int 32) × ((Arr Int 16) × Int)) × ((Arr Int 16) × (Int × (Int × (List Int)))))))))))))) × Unit))) : Option (((((List (Int × (Int × (Int × (Int × (Int × ((Arr Int 32) × (List UInt8 × (List UInt8 × (((Arr Int 32) × ((Arr Int 16) × Int)) × ((Arr Int 16) × (Int × (Int × (List Int)))))))))))))) × (Int × Unit)) × Unit) ⊕ (((List Int) × Unit) × ((List (Int × (Int × (Int × (Int × (Int × ((Arr Int 32) × (List UInt8 × (List UInt8 × (((Arr Int 32) × ((Arr Int 16) × Int)) × ((Arr Int 16) × (Int × (Int × (List Int)))))))))))))) × Unit)))) := gl (fun X c => ref40_Parse_L13 N X c.1.1 c.1.2.1 c.1.2.2.1 c.2.1) N c
theorem ref40_Parse_L13_S (X : ((Int × ((List Int) × (Int × Unit))) × ((List (Int × (Int × (Int × (Int × (Int × ((Arr Int 32) × (List UInt8 × (List UInt8 × (((Arr Int 32) × ((Arr Int 16) × Int)) × ((Arr Int 16) × (Int × (Int × (List Int)))))))))))))) × Unit)) → Option (((((List (Int × (Int × (Int × (Int × (Int × ((Arr Int 32) × (List UInt8 × (List UInt8 × (((Arr Int 32) × ((Arr Int 16) × Int)) × ((Arr Int 16) × (Int × (Int × (List Int)))))))))))))) × (Int × Unit)) × Unit) ⊕ (((List Int) × Unit) × ((List (Int × (Int × (Int × (Int × (Int × ((Arr Int 32) × (List UInt8 × (List UInt8 × (((Arr Int 32) × ((Arr Int 16) × Int)) × ((Arr Int 16) × (Int × (Int × (List Int)))))))))))))) × Unit))))) (many4 : Int) (rest5 : List (Int)) (i7 : Int) (h0 : List (Int × (Int × (Int × (Int × (Int × ((Arr Int 32) × (List UInt8 × (List UInt8 × (((Arr Int 32) × ((Arr Int 16) × Int)) × ((Arr Int 16) × (Int × (Int × (List Int)))))))))))))) : (roundK Tryd.prog (Ev124 N) 400 [20] ref40_Parse_L13_I (loopAt Tryd.prog [20] 13) X ((many4, rest5, i7, ()), (h0, ()))).run = ref40_Parse_L13 N X many4 rest5 i7 h0 := by kernel_rfl
noncomputable def Ev125 : (R : Type) → Env R := Env.addLp (Ev124 N) [20] 0 13 (fun R => lpK Tryd.prog ref40_Parse_L13_I (fun X c => ref40_Parse_L13 N X c.1.1 c.1.2.1 c.1.2.2.1 c.2.1) N)
theorem Ev125_ok (R : Type) : EnvOK Tryd.prog (Ev125 N R) := EnvOK.addLp (Ev124_ok N R) (by kernel_rfl) (lpK_ok (li := ref40_Parse_L13_I) (G := fun X c => ref40_Parse_L13 N X c.1.1 c.1.2.1 c.1.2.2.1 c.2.1) hmx (Ev124_ok N _) (by kernel_rfl) loopAt_sub (fun (X : CT ref40_Parse_L13_I.sh → Option (OT ref40_Parse_L13_I.outs)) (c : CT ref40_Parse_L13_I.sh) => ref40_Parse_L13_S N X c.1.1 c.1.2.1 c.1.2.2.1 c.2.1) N)
noncomputable def ref40_Parse (b0 : List (Int)) : Option ((List (Int × (Int × (Int × (Int × (Int × ((Arr Int 32) × (List UInt8 × (List UInt8 × (((Arr Int 32) × ((Arr Int 16) × Int)) × ((Arr Int 16) × (Int × (Int × (List Int)))))))))))))) × Int) :=
 bif (decide ((((List.length b0) : Nat) : Int) < (12 : Int))) then
  some ((([] : List ((Int × (Int × (Int × (Int × (Int × ((Arr Int 32) × (List UInt8 × (List UInt8 × (((Arr Int 32) × ((Arr Int 16) × Int)) × ((Arr Int 16) × (Int × (Int × (List Int))))))))))))))), (4 : Int)))
 else
  Option.bind (getI b0 (0 : Int)) fun (v2 : Int) =>
  Option.bind (bif (!(decide (v2 = (69 : Int)))) then
    some (true)
   else
    Option.bind (getI b0 (1 : Int)) fun (v3 : Int) =>
    some ((cond false true (!(decide (v3 = (85 : Int))))))) fun (v3 : Bool) =>
  bif v3 then
   some ((([] : List ((Int × (Int × (Int × (Int × (Int × ((Arr Int 32) × (List UInt8 × (List UInt8 × (((Arr Int 32) × ((Arr Int 16) × Int)) × ((Arr Int 16) × (Int × (Int × (List Int))))))))))))))), (3 : Int)))
  else
   Option.bind (takeI b0 (IntKind.wrap .i64 ((((List.length b0) : Nat) : Int) - 8))) fun (v4 : (List Int)) =>
   Option.bind (ref40_sealed N v4) fun v5 =>
   Option.bind (ref01_Same N v5 b0) fun v6 =>
   bif (!v6) then
    some ((([] : List ((Int × (Int × (Int × (Int × (Int × ((Arr Int 32) × (List UInt8 × (List UInt8 × (((Arr Int 32) × ((Arr Int 16) × Int)) × ((Arr Int 16) × (Int × (Int × (List Int))))))))))))))), (14 : Int)))
   else
    Option.bind (subI b0 (2 : Int) (4 : Int)) fun (v7 : (List Int)) =>
    Option.bind (ref01_Num N v7) fun v8 =>
    bif (decide ((2000 : Int) < (IntKind.wrap .i64 v8))) then
     some ((([] : List ((Int × (Int × (Int × (Int × (Int × ((Arr Int 32) × (List UInt8 × (List UInt8 × (((Arr Int 32) × ((Arr Int 16) × Int)) × ((Arr Int 16) × (Int × (Int × (List Int))))))))))))))), (5 : Int)))
    else
     Option.bind (subI b0 (4 : Int) (IntKind.wrap .i64 ((((List.length b0) : Nat) : Int) - 8))) fun (v9 : (List Int)) =>
     Option.bind (ref40_Parse_L13_R N (((IntKind.wrap .i64 v8), (v9, ((0 : Int), ()))), (([] : List ((Int × (Int × (Int × (Int × (Int × ((Arr Int 32) × (List UInt8 × (List UInt8 × (((Arr Int 32) × ((Arr Int 16) × Int)) × ((Arr Int 16) × (Int × (Int × (List Int))))))))))))))), ()))) fun v10 =>
     Sum.elim
      (fun (v11 : (((List (Int × (Int × (Int × (Int × (Int × ((Arr Int 32) × (List UInt8 × (List UInt8 × (((Arr Int 32) × ((Arr Int 16) × Int)) × ((Arr Int 16) × (Int × (Int × (List Int)))))))))))))) × (Int × Unit)) × Unit)) =>
      some ((v11.1.1, v11.1.2.1)))
      (fun (v11 : (((List Int) × Unit) × ((List (Int × (Int × (Int × (Int × (Int × ((Arr Int 32) × (List UInt8 × (List UInt8 × (((Arr Int 32) × ((Arr Int 16) × Int)) × ((Arr Int 16) × (Int × (Int × (List Int)))))))))))))) × Unit))) =>
      bif (decide ((0 : Int) < (((List.length v11.1.1) : Nat) : Int))) then
       some ((([] : List ((Int × (Int × (Int × (Int × (Int × ((Arr Int 32) × (List UInt8 × (List UInt8 × (((Arr Int 32) × ((Arr Int 16) × Int)) × ((Arr Int 16) × (Int × (Int × (List Int))))))))))))))), (3 : Int)))
      else
       some ((v11.2.1, (0 : Int)))) v10
theorem ref40_Parse_S (b0 : List (Int)) : (runK Tryd.prog (Ev125 N) 400 20 [(.sl (.int .u8))] [(.sl (.pair (.int .i64) (.pair (.int .i64) (.pair (.int .i64) (.pair (.int .i64) (.pair (.int .i64) (.pair (.arr 32 (.int .u8)) (.pair .str (.pair .str (.pair (.pair (.arr 32 (.int .u8)) (.pair (.arr 16 (.int .u8)) (.int .u32))) (.pair (.arr 16 (.int .u8)) (.pair (.int .u32) (.pair (.int .u32) (.sl (.int .u8))))))))))))))), (.int .i64)] (b0, ())).run = ref40_Parse N b0 := by kernel_rfl
noncomputable def Ev126 : (R : Type) → Env R := Env.addFn (Ev125 N) 20 (fun R => fnK [(.sl (.int .u8))] [(.sl (.pair (.int .i64) (.pair (.int .i64) (.pair (.int .i64) (.pair (.int .i64) (.pair (.int .i64) (.pair (.arr 32 (.int .u8)) (.pair .str (.pair .str (.pair (.pair (.arr 32 (.int .u8)) (.pair (.arr 16 (.int .u8)) (.int .u32))) (.pair (.arr 16 (.int .u8)) (.pair (.int .u32) (.pair (.int .u32) (.sl (.int .u8))))))))))))))), (.int .i64)] (fun c => ref40_Parse N c.1))
theorem Ev126_ok (R : Type) : EnvOK Tryd.prog (Ev126 N R) := EnvOK.addFn hmx (Ev125_ok N R) (Ev125_ok N _) (by kernel_rfl) (fun c => ref40_Parse_S N c.1)
noncomputable def Ev127 : (R : Type) → Env R := Env.addBx (Ev126 N) [(17, 0)]
theorem Ev127_ok (R : Type) : EnvOK Tryd.prog (Ev127 N R) := EnvOK.addBx (Ev126_ok N R) [(17, 0)]
noncomputable def ref40_Same (a0 : Int × (Int × (Int × (Int × (Int × ((Arr Int 32) × (List UInt8 × (List UInt8 × (((Arr Int 32) × ((Arr Int 16) × Int)) × ((Arr Int 16) × (Int × (Int × (List Int))))))))))))) (b1 : Int × (Int × (Int × (Int × (Int × ((Arr Int 32) × (List UInt8 × (List UInt8 × (((Arr Int 32) × ((Arr Int 16) × Int)) × ((Arr Int 16) × (Int × (Int × (List Int))))))))))))) : Option Bool :=
 Option.bind (ref01_Same N a0.2.2.2.2.2.2.2.2.2.2.2.2 b1.2.2.2.2.2.2.2.2.2.2.2.2) fun v3 =>
 Option.bind (bif v3 then
   some ((cond true (decide (a0.1 = b1.1)) false))
  else
   some (false)) fun (v4 : Bool) =>
 Option.bind (bif v4 then
   some ((cond true (decide (a0.2.1 = b1.2.1)) false))
  else
   some (false)) fun (v5 : Bool) =>
 Option.bind (bif v5 then
   some ((cond true (decide (a0.2.2.1 = b1.2.2.1)) false))
  else
   some (false)) fun (v6 : Bool) =>
 Option.bind (bif v6 then
   some ((cond true (decide (a0.2.2.2.1 = b1.2.2.2.1)) false))
  else
   some (false)) fun (v7 : Bool) =>
 Option.bind (bif v7 then
   some ((cond true (decide (a0.2.2.2.2.1 = b1.2.2.2.2.1)) false))
  else
   some (false)) fun (v8 : Bool) =>
 Option.bind (bif v8 then
   bif ((@wfB (@Td.arr (32 : Nat) (@Td.int @IntKind.u8)) a0.2.2.2.2.2.1) && (@wfB (@Td.arr (32 : Nat) (@Td.int @IntKind.u8)) b1.2.2.2.2.2.1)) then
    some ((cond true (@Decidable.decide (@Eq (Arr Int 32) a0.2.2.2.2.2.1 b1.2.2.2.2.2.1) (@decT (@Td.arr (32 : Nat) (@Td.int @IntKind.u8)) a0.2.2.2.2.2.1 b1.2.2.2.2.2.1)) false))
   else
    none
  else
   some (false)) fun (v9 : Bool) =>
 Option.bind (bif v9 then
   some ((cond true (decide (a0.2.2.2.2.2.2.1 = b1.2.2.2.2.2.2.1)) false))
  else
   some (false)) fun (v10 : Bool) =>
 Option.bind (bif v10 then
   some ((cond true (decide (a0.2.2.2.2.2.2.2.1 = b1.2.2.2.2.2.2.2.1)) false))
  else
   some (false)) fun (v11 : Bool) =>
 Option.bind (bif v11 then
   bif ((@wfB (@Td.pair (@Td.arr (32 : Nat) (@Td.int @IntKind.u8)) (@Td.pair (@Td.arr (16 : Nat) (@Td.int @IntKind.u8)) (@Td.int @IntKind.u32))) (a0.2.2.2.2.2.2.2.2.1.1, (a0.2.2.2.2.2.2.2.2.1.2.1, a0.2.2.2.2.2.2.2.2.1.2.2))) && (@wfB (@Td.pair (@Td.arr (32 : Nat) (@Td.int @IntKind.u8)) (@Td.pair (@Td.arr (16 : Nat) (@Td.int @IntKind.u8)) (@Td.int @IntKind.u32))) (b1.2.2.2.2.2.2.2.2.1.1, (b1.2.2.2.2.2.2.2.2.1.2.1, b1.2.2.2.2.2.2.2.2.1.2.2)))) then
    some ((cond true (@Decidable.decide (@Eq ((Arr Int 32) × ((Arr Int 16) × Int)) (a0.2.2.2.2.2.2.2.2.1.1, (a0.2.2.2.2.2.2.2.2.1.2.1, a0.2.2.2.2.2.2.2.2.1.2.2)) (b1.2.2.2.2.2.2.2.2.1.1, (b1.2.2.2.2.2.2.2.2.1.2.1, b1.2.2.2.2.2.2.2.2.1.2.2))) (@decT (@Td.pair (@Td.arr (32 : Nat) (@Td.int @IntKind.u8)) (@Td.pair (@Td.arr (16 : Nat) (@Td.int @IntKind.u8)) (@Td.int @IntKind.u32))) (a0.2.2.2.2.2.2.2.2.1.1, (a0.2.2.2.2.2.2.2.2.1.2.1, a0.2.2.2.2.2.2.2.2.1.2.2)) (b1.2.2.2.2.2.2.2.2.1.1, (b1.2.2.2.2.2.2.2.2.1.2.1, b1.2.2.2.2.2.2.2.2.1.2.2)))) false))
   else
    none
  else
   some (false)) fun (v12 : Bool) =>
 Option.bind (bif v12 then
   bif ((@wfB (@Td.arr (16 : Nat) (@Td.int @IntKind.u8)) a0.2.2.2.2.2.2.2.2.2.1) && (@wfB (@Td.arr (16 : Nat) (@Td.int @IntKind.u8)) b1.2.2.2.2.2.2.2.2.2.1)) then
    some ((cond true (@Decidable.decide (@Eq (Arr Int 16) a0.2.2.2.2.2.2.2.2.2.1 b1.2.2.2.2.2.2.2.2.2.1) (@decT (@Td.arr (16 : Nat) (@Td.int @IntKind.u8)) a0.2.2.2.2.2.2.2.2.2.1 b1.2.2.2.2.2.2.2.2.2.1)) false))
   else
    none
  else
   some (false)) fun (v13 : Bool) =>
 Option.bind (bif v13 then
   some ((cond true (decide (a0.2.2.2.2.2.2.2.2.2.2.1 = b1.2.2.2.2.2.2.2.2.2.2.1)) false))
  else
   some (false)) fun (v14 : Bool) =>
 Option.bind (bif v14 then
   some ((cond true (decide (a0.2.2.2.2.2.2.2.2.2.2.2.1 = b1.2.2.2.2.2.2.2.2.2.2.2.1)) false))
  else
   some (false)) fun (v15 : Bool) =>
 some (v15)
theorem ref40_Same_S (a0 : Int × (Int × (Int × (Int × (Int × ((Arr Int 32) × (List UInt8 × (List UInt8 × (((Arr Int 32) × ((Arr Int 16) × Int)) × ((Arr Int 16) × (Int × (Int × (List Int))))))))))))) (b1 : Int × (Int × (Int × (Int × (Int × ((Arr Int 32) × (List UInt8 × (List UInt8 × (((Arr Int 32) × ((Arr Int 16) × Int)) × ((Arr Int 16) × (Int × (Int × (List Int))))))))))))) : (runK Tryd.prog (Ev127 N) 400 17 [(.pair (.int .i64) (.pair (.int .i64) (.pair (.int .i64) (.pair (.int .i64) (.pair (.int .i64) (.pair (.arr 32 (.int .u8)) (.pair .str (.pair .str (.pair (.pair (.arr 32 (.int .u8)) (.pair (.arr 16 (.int .u8)) (.int .u32))) (.pair (.arr 16 (.int .u8)) (.pair (.int .u32) (.pair (.int .u32) (.sl (.int .u8)))))))))))))), (.pair (.int .i64) (.pair (.int .i64) (.pair (.int .i64) (.pair (.int .i64) (.pair (.int .i64) (.pair (.arr 32 (.int .u8)) (.pair .str (.pair .str (.pair (.pair (.arr 32 (.int .u8)) (.pair (.arr 16 (.int .u8)) (.int .u32))) (.pair (.arr 16 (.int .u8)) (.pair (.int .u32) (.pair (.int .u32) (.sl (.int .u8))))))))))))))] [.bool] (a0, b1, ())).run = ref40_Same N a0 b1 := by kernel_rfl
noncomputable def Ev128 : (R : Type) → Env R := Env.addFn (Ev127 N) 17 (fun R => fnK [(.pair (.int .i64) (.pair (.int .i64) (.pair (.int .i64) (.pair (.int .i64) (.pair (.int .i64) (.pair (.arr 32 (.int .u8)) (.pair .str (.pair .str (.pair (.pair (.arr 32 (.int .u8)) (.pair (.arr 16 (.int .u8)) (.int .u32))) (.pair (.arr 16 (.int .u8)) (.pair (.int .u32) (.pair (.int .u32) (.sl (.int .u8)))))))))))))), (.pair (.int .i64) (.pair (.int .i64) (.pair (.int .i64) (.pair (.int .i64) (.pair (.int .i64) (.pair (.arr 32 (.int .u8)) (.pair .str (.pair .str (.pair (.pair (.arr 32 (.int .u8)) (.pair (.arr 16 (.int .u8)) (.int .u32))) (.pair (.arr 16 (.int .u8)) (.pair (.int .u32) (.pair (.int .u32) (.sl (.int .u8))))))))))))))] [.bool] (fun c => ref40_Same N c.1 c.2.1))
theorem Ev128_ok (R : Type) : EnvOK Tryd.prog (Ev128 N R) := EnvOK.addFn hmx (Ev127_ok N R) (Ev127_ok N _) (by kernel_rfl) (fun c => ref40_Same_S N c.1 c.2.1)
noncomputable def Ev129 : (R : Type) → Env R := Env.addBx (Ev128 N) [(14, 0)]
theorem Ev129_ok (R : Type) : EnvOK Tryd.prog (Ev129 N R) := EnvOK.addBx (Ev128_ok N R) [(14, 0)]
noncomputable def law40_theirs (N : Nat) (x0 : Int × (Int × (Int × (Int × (Int × ((Arr Int 32) × (List UInt8 × (List UInt8 × (((Arr Int 32) × ((Arr Int 16) × Int)) × ((Arr Int 16) × (Int × (Int × (List Int))))))))))))) : Option (Int × (Int × (Int × (Int × (Int × ((Arr Int 32) × (List UInt8 × (List UInt8 × (((Arr Int 32) × ((Arr Int 16) × Int)) × ((Arr Int 16) × (Int × (Int × (List Int))))))))))))) :=
 some ((x0.1, (x0.2.1, (x0.2.2.1, (x0.2.2.2.1, (x0.2.2.2.2.1, (x0.2.2.2.2.2.1, (x0.2.2.2.2.2.2.1, (x0.2.2.2.2.2.2.2.1, ((x0.2.2.2.2.2.2.2.2.1.1, (x0.2.2.2.2.2.2.2.2.1.2.1, x0.2.2.2.2.2.2.2.2.1.2.2)), (x0.2.2.2.2.2.2.2.2.2.1, (x0.2.2.2.2.2.2.2.2.2.2.1, (x0.2.2.2.2.2.2.2.2.2.2.2.1, x0.2.2.2.2.2.2.2.2.2.2.2.2)))))))))))))
theorem law40_theirs_S (x0 : Int × (Int × (Int × (Int × (Int × ((Arr Int 32) × (List UInt8 × (List UInt8 × (((Arr Int 32) × ((Arr Int 16) × Int)) × ((Arr Int 16) × (Int × (Int × (List Int))))))))))))) : (runK Tryd.prog (Ev129 N) 400 14 [(.pair (.int .i64) (.pair (.int .i64) (.pair (.int .i64) (.pair (.int .i64) (.pair (.int .i64) (.pair (.arr 32 (.int .u8)) (.pair .str (.pair .str (.pair (.pair (.arr 32 (.int .u8)) (.pair (.arr 16 (.int .u8)) (.int .u32))) (.pair (.arr 16 (.int .u8)) (.pair (.int .u32) (.pair (.int .u32) (.sl (.int .u8))))))))))))))] [(.pair (.int .i64) (.pair (.int .i64) (.pair (.int .i64) (.pair (.int .i64) (.pair (.int .i64) (.pair (.arr 32 (.int .u8)) (.pair .str (.pair .str (.pair (.pair (.arr 32 (.int .u8)) (.pair (.arr 16 (.int .u8)) (.int .u32))) (.pair (.arr 16 (.int .u8)) (.pair (.int .u32) (.pair (.int .u32) (.sl (.int .u8))))))))))))))] (x0, ())).run = law40_theirs N x0 := by kernel_rfl
noncomputable def Ev130 : (R : Type) → Env R := Env.addFn (Ev129 N) 14 (fun R => fnK [(.pair (.int .i64) (.pair (.int .i64) (.pair (.int .i64) (.pair (.int .i64) (.pair (.int .i64) (.pair (.arr 32 (.int .u8)) (.pair .str (.pair .str (.pair (.pair (.arr 32 (.int .u8)) (.pair (.arr 16 (.int .u8)) (.int .u32))) (.pair (.arr 16 (.int .u8)) (.pair (.int .u32) (.pair (.int .u32) (.sl (.int .u8))))))))))))))] [(.pair (.int .i64) (.pair (.int .i64) (.pair (.int .i64) (.pair (.int .i64) (.pair (.int .i64) (.pair (.arr 32 (.int .u8)) (.pair .str (.pair .str (.pair (.pair (.arr 32 (.int .u8)) (.pair (.arr 16 (.int .u8)) (.int .u32))) (.pair (.arr 16 (.int .u8)) (.pair (.int .u32) (.pair (.int .u32) (.sl (.int .u8))))))))))))))] (fun c => law40_theirs N c.1))
theorem Ev130_ok (R : Type) : EnvOK Tryd.prog (Ev130 N R) := EnvOK.addFn hmx (Ev129_ok N R) (Ev129_ok N _) (by kernel_rfl) (fun c => law40_theirs_S N c.1)
noncomputable def Ev131 : (R : Type) → Env R := Env.addMv (Ev130 N) [(10, 5)]
theorem Ev131_ok (R : Type) : EnvOK Tryd.prog (Ev131 N R) := EnvOK.addMv (Ev130_ok N R) [(10, 5)]
noncomputable def law40_all_L3_I : LI := ⟨19, 0, [(3, 45)], ⟨[(3, .lit (.own 0)), (6, .ty (.sl (.pair (.int .i64) (.pair (.int .i64) (.pair (.int .i64) (.pair (.int .i64) (.pair (.int .i64) (.pair (.arr 32 (.int .u8)) (.pair .str (.pair .str (.pair (.pair (.arr 32 (.int .u8)) (.pair (.arr 16 (.int .u8)) (.int .u32))) (.pair (.arr 16 (.int .u8)) (.pair (.int .u32) (.pair (.int .u32) (.sl (.int .u8)))))))))))))))), (7, .ty (.int .i64)), (8, .ty (.int .i64))], [.own (.pair (.int .i64) (.pair (.int .i64) (.pair (.int .i64) (.pair (.int .i64) (.pair (.int .i64) (.pair (.arr 32 (.int .u8)) (.pair .str (.pair .str (.pair (.pair (.arr 32 (.int .u8)) (.pair (.arr 16 (.int .u8)) (.int .u32))) (.pair (.arr 16 (.int .u8)) (.pair (.int .u32) (.pair (.int .u32) (.sl (.int .u8)))))))))))))) 45]⟩, [(.exit 0, ⟨[(3, .lit (.own 0))], [.own (.pair (.int .i64) (.pair (.int .i64) (.pair (.int .i64) (.pair (.int .i64) (.pair (.int .i64) (.pair (.arr 32 (.int .u8)) (.pair .str (.pair .str (.pair (.pair (.arr 32 (.int .u8)) (.pair (.arr 16 (.int .u8)) (.int .u32))) (.pair (.arr 16 (.int .u8)) (.pair (.int .u32) (.pair (.int .u32) (.sl (.int .u8)))))))))))))) 45]⟩)]⟩
noncomputable def law40_all_L3 (N : Nat) (X : (((List (Int × (Int × (Int × (Int × (Int × ((Arr Int 32) × (List UInt8 × (List UInt8 × (((Arr Int 32) × ((Arr Int 16) × Int)) × ((Arr Int 16) × (Int × (Int × (List Int)))))))))))))) × (Int × (Int × Unit))) × ((List (Int × (Int × (Int × (Int × (Int × ((Arr Int 32) × (List UInt8 × (List UInt8 × (((Arr Int 32) × ((Arr Int 16) × Int)) × ((Arr Int 16) × (Int × (Int × (List Int)))))))))))))) × Unit)) → Option ((Unit × ((List (Int × (Int × (Int × (Int × (Int × ((Arr Int 32) × (List UInt8 × (List UInt8 × (((Arr Int 32) × ((Arr Int 16) × Int)) × ((Arr Int 16) × (Int × (Int × (List Int)))))))))))))) × Unit)))) (x6 : List (Int × (Int × (Int × (Int × (Int × ((Arr Int 32) × (List UInt8 × (List UInt8 × (((Arr Int 32) × ((Arr Int 16) × Int)) × ((Arr Int 16) × (Int × (Int × (List Int)))))))))))))) (x7 : Int) (x8 : Int) (h0 : List (Int × (Int × (Int × (Int × (Int × ((Arr Int 32) × (List UInt8 × (List UInt8 × (((Arr Int 32) × ((Arr Int 16) × Int)) × ((Arr Int 16) × (Int × (Int × (List Int)))))))))))))) : Option ((Unit × ((List (Int × (Int × (Int × (Int × (Int × ((Arr Int 32) × (List UInt8 × (List UInt8 × (((Arr Int 32) × ((Arr Int 16) × Int)) × ((Arr Int 16) × (Int × (Int × (List Int)))))))))))))) × Unit))) :=
 bif (decide (x8 < x7)) then
  Option.bind (getI x6 x8) fun (v6 : (Int × (Int × (Int × (Int × (Int × ((Arr Int 32) × (List UInt8 × (List UInt8 × (((Arr Int 32) × ((Arr Int 16) × Int)) × ((Arr Int 16) × (Int × (Int × (List Int)))))))))))))) =>
  bif (roomB ((List.length h0) + (List.length ([(v6.1, (v6.2.1, (v6.2.2.1, (v6.2.2.2.1, (v6.2.2.2.2.1, (v6.2.2.2.2.2.1, (v6.2.2.2.2.2.2.1, (v6.2.2.2.2.2.2.2.1, ((v6.2.2.2.2.2.2.2.2.1.1, (v6.2.2.2.2.2.2.2.2.1.2.1, v6.2.2.2.2.2.2.2.2.1.2.2)), (v6.2.2.2.2.2.2.2.2.2.1, (v6.2.2.2.2.2.2.2.2.2.2.1, (v6.2.2.2.2.2.2.2.2.2.2.2.1, v6.2.2.2.2.2.2.2.2.2.2.2.2))))))))))))] : List ((Int × (Int × (Int × (Int × (Int × ((Arr Int 32) × (List UInt8 × (List UInt8 × (((Arr Int 32) × ((Arr Int 16) × Int)) × ((Arr Int 16) × (Int × (Int × (List Int))))))))))))))))) 208) then
   (X ((x6, (x7, ((IntKind.wrap .i64 (x8 + 1)), ()))), ((h0 ++ ([(v6.1, (v6.2.1, (v6.2.2.1, (v6.2.2.2.1, (v6.2.2.2.2.1, (v6.2.2.2.2.2.1, (v6.2.2.2.2.2.2.1, (v6.2.2.2.2.2.2.2.1, ((v6.2.2.2.2.2.2.2.2.1.1, (v6.2.2.2.2.2.2.2.2.1.2.1, v6.2.2.2.2.2.2.2.2.1.2.2)), (v6.2.2.2.2.2.2.2.2.2.1, (v6.2.2.2.2.2.2.2.2.2.2.1, (v6.2.2.2.2.2.2.2.2.2.2.2.1, v6.2.2.2.2.2.2.2.2.2.2.2.2))))))))))))] : List ((Int × (Int × (Int × (Int × (Int × ((Arr Int 32) × (List UInt8 × (List UInt8 × (((Arr Int 32) × ((Arr Int 16) × Int)) × ((Arr Int 16) × (Int × (Int × (List Int)))))))))))))))), ())))
  else
   none
 else
  some (((), (h0, ())))
noncomputable def law40_all_L3_R (c : (((List (Int × (Int × (Int × (Int × (Int × ((Arr Int 32) × (List UInt8 × (List UInt8 × (((Arr Int 32) × ((Arr Int 16) × Int)) × ((Arr Int 16) × (Int × (Int × (List Int)))))))))))))) × (Int × (Int × Unit))) × ((List (Int × (Int × (Int × (Int × (Int × ((Arr Int 32) × (List UInt8 × (List UInt8 × (((Arr Int 32) × ((Arr Int 16) × Int)) × ((Arr Int 16) × (Int × (Int × (List Int)))))))))))))) × Unit))) : Option ((Unit × ((List (Int × (Int × (Int × (Int × (Int × ((Arr Int 32) × (List UInt8 × (List UInt8 × (((Arr Int 32) × ((Arr Int 16) × Int)) × ((Arr Int 16) × (Int × (Int × (List Int)))))))))))))) × Unit))) := gl (fun X c => law40_all_L3 N X c.1.1 c.1.2.1 c.1.2.2.1 c.2.1) N c
theorem law40_all_L3_S (X : (((List (Int × (Int × (Int × (Int × (Int × ((Arr Int 32) × (List UInt8 × (List UInt8 × (((Arr Int 32) × ((Arr Int 16) × Int)) × ((Arr Int 16) × (Int × (Int × (List Int)))))))))))))) × (Int × (Int × Unit))) × ((List (Int × (Int × (Int × (Int × (Int × ((Arr Int 32) × (List UInt8 × (List UInt8 × (((Arr Int 32) × ((Arr Int 16) × Int)) × ((Arr Int 16) × (Int × (Int × (List Int)))))))))))))) × Unit)) → Option ((Unit × ((List (Int × (Int × (Int × (Int × (Int × ((Arr Int 32) × (List UInt8 × (List UInt8 × (((Arr Int 32) × ((Arr Int 16) × Int)) × ((Arr Int 16) × (Int × (Int × (List Int)))))))))))))) × Unit)))) (x6 : List (Int × (Int × (Int × (Int × (Int × ((Arr Int 32) × (List UInt8 × (List UInt8 × (((Arr Int 32) × ((Arr Int 16) × Int)) × ((Arr Int 16) × (Int × (Int × (List Int)))))))))))))) (x7 : Int) (x8 : Int) (h0 : List (Int × (Int × (Int × (Int × (Int × ((Arr Int 32) × (List UInt8 × (List UInt8 × (((Arr Int 32) × ((Arr Int 16) × Int)) × ((Arr Int 16) × (Int × (Int × (List Int)))))))))))))) : (roundK Tryd.prog (Ev131 N) 400 [10] law40_all_L3_I (loopAt Tryd.prog [10] 3) X ((x6, x7, x8, ()), (h0, ()))).run = law40_all_L3 N X x6 x7 x8 h0 := by kernel_rfl
noncomputable def Ev132 : (R : Type) → Env R := Env.addLp (Ev131 N) [10] 0 3 (fun R => lpK Tryd.prog law40_all_L3_I (fun X c => law40_all_L3 N X c.1.1 c.1.2.1 c.1.2.2.1 c.2.1) N)
theorem Ev132_ok (R : Type) : EnvOK Tryd.prog (Ev132 N R) := EnvOK.addLp (Ev131_ok N R) (by kernel_rfl) (lpK_ok (li := law40_all_L3_I) (G := fun X c => law40_all_L3 N X c.1.1 c.1.2.1 c.1.2.2.1 c.2.1) hmx (Ev131_ok N _) (by kernel_rfl) loopAt_sub (fun (X : CT law40_all_L3_I.sh → Option (OT law40_all_L3_I.outs)) (c : CT law40_all_L3_I.sh) => law40_all_L3_S N X c.1.1 c.1.2.1 c.1.2.2.1 c.2.1) N)
noncomputable def law40_all (l0 : List (Int × (Int × (Int × (Int × (Int × ((Arr Int 32) × (List UInt8 × (List UInt8 × (((Arr Int 32) × ((Arr Int 16) × Int)) × ((Arr Int 16) × (Int × (Int × (List Int)))))))))))))) : Option (List (Int × (Int × (Int × (Int × (Int × ((Arr Int 32) × (List UInt8 × (List UInt8 × (((Arr Int 32) × ((Arr Int 16) × Int)) × ((Arr Int 16) × (Int × (Int × (List Int)))))))))))))) :=
 Option.bind (law40_all_L3_R N ((l0, ((((List.length l0) : Nat) : Int), ((0 : Int), ()))), (([] : List ((Int × (Int × (Int × (Int × (Int × ((Arr Int 32) × (List UInt8 × (List UInt8 × (((Arr Int 32) × ((Arr Int 16) × Int)) × ((Arr Int 16) × (Int × (Int × (List Int))))))))))))))), ()))) fun v2 =>
 some (v2.2.1)
theorem law40_all_S (l0 : List (Int × (Int × (Int × (Int × (Int × ((Arr Int 32) × (List UInt8 × (List UInt8 × (((Arr Int 32) × ((Arr Int 16) × Int)) × ((Arr Int 16) × (Int × (Int × (List Int)))))))))))))) : (runK Tryd.prog (Ev132 N) 400 10 [(.sl (.pair (.int .i64) (.pair (.int .i64) (.pair (.int .i64) (.pair (.int .i64) (.pair (.int .i64) (.pair (.arr 32 (.int .u8)) (.pair .str (.pair .str (.pair (.pair (.arr 32 (.int .u8)) (.pair (.arr 16 (.int .u8)) (.int .u32))) (.pair (.arr 16 (.int .u8)) (.pair (.int .u32) (.pair (.int .u32) (.sl (.int .u8)))))))))))))))] [(.sl (.pair (.int .i64) (.pair (.int .i64) (.pair (.int .i64) (.pair (.int .i64) (.pair (.int .i64) (.pair (.arr 32 (.int .u8)) (.pair .str (.pair .str (.pair (.pair (.arr 32 (.int .u8)) (.pair (.arr 16 (.int .u8)) (.int .u32))) (.pair (.arr 16 (.int .u8)) (.pair (.int .u32) (.pair (.int .u32) (.sl (.int .u8)))))))))))))))] (l0, ())).run = law40_all N l0 := by kernel_rfl
noncomputable def Ev133 : (R : Type) → Env R := Env.addFn (Ev132 N) 10 (fun R => fnK [(.sl (.pair (.int .i64) (.pair (.int .i64) (.pair (.int .i64) (.pair (.int .i64) (.pair (.int .i64) (.pair (.arr 32 (.int .u8)) (.pair .str (.pair .str (.pair (.pair (.arr 32 (.int .u8)) (.pair (.arr 16 (.int .u8)) (.int .u32))) (.pair (.arr 16 (.int .u8)) (.pair (.int .u32) (.pair (.int .u32) (.sl (.int .u8)))))))))))))))] [(.sl (.pair (.int .i64) (.pair (.int .i64) (.pair (.int .i64) (.pair (.int .i64) (.pair (.int .i64) (.pair (.arr 32 (.int .u8)) (.pair .str (.pair .str (.pair (.pair (.arr 32 (.int .u8)) (.pair (.arr 16 (.int .u8)) (.int .u32))) (.pair (.arr 16 (.int .u8)) (.pair (.int .u32) (.pair (.int .u32) (.sl (.int .u8)))))))))))))))] (fun c => law40_all N c.1))
theorem Ev133_ok (R : Type) : EnvOK Tryd.prog (Ev133 N R) := EnvOK.addFn hmx (Ev132_ok N R) (Ev132_ok N _) (by kernel_rfl) (fun c => law40_all_S N c.1)
noncomputable def law40_same_L4_I : LI := ⟨28, 0, [], ⟨[(0, .ty (.sl (.pair (.int .i64) (.pair (.int .i64) (.pair (.int .i64) (.pair (.int .i64) (.pair (.int .i64) (.pair (.arr 32 (.int .u8)) (.pair .str (.pair .str (.pair (.pair (.arr 32 (.int .u8)) (.pair (.arr 16 (.int .u8)) (.int .u32))) (.pair (.arr 16 (.int .u8)) (.pair (.int .u32) (.pair (.int .u32) (.sl (.int .u8)))))))))))))))), (1, .ty (.sl (.pair (.int .i64) (.pair (.int .i64) (.pair (.int .i64) (.pair (.int .i64) (.pair (.int .i64) (.pair (.arr 32 (.int .u8)) (.pair .str (.pair .str (.pair (.pair (.arr 32 (.int .u8)) (.pair (.arr 16 (.int .u8)) (.int .u32))) (.pair (.arr 16 (.int .u8)) (.pair (.int .u32) (.pair (.int .u32) (.sl (.int .u8)))))))))))))))), (12, .ty (.int .i64)), (13, .ty (.int .i64))], []⟩, [(.ret, ⟨[(4, .ty .bool)], []⟩), (.exit 0, ⟨[], []⟩)]⟩
noncomputable def law40_same_L4 (X : (((List (Int × (Int × (Int × (Int × (Int × ((Arr Int 32) × (List UInt8 × (List UInt8 × (((Arr Int 32) × ((Arr Int 16) × Int)) × ((Arr Int 16) × (Int × (Int × (List Int)))))))))))))) × ((List (Int × (Int × (Int × (Int × (Int × ((Arr Int 32) × (List UInt8 × (List UInt8 × (((Arr Int 32) × ((Arr Int 16) × Int)) × ((Arr Int 16) × (Int × (Int × (List Int)))))))))))))) × (Int × (Int × Unit)))) × Unit) → Option ((((Bool × Unit) × Unit) ⊕ (Unit × Unit)))) (a0 : List (Int × (Int × (Int × (Int × (Int × ((Arr Int 32) × (List UInt8 × (List UInt8 × (((Arr Int 32) × ((Arr Int 16) × Int)) × ((Arr Int 16) × (Int × (Int × (List Int)))))))))))))) (b1 : List (Int × (Int × (Int × (Int × (Int × ((Arr Int 32) × (List UInt8 × (List UInt8 × (((Arr Int 32) × ((Arr Int 16) × Int)) × ((Arr Int 16) × (Int × (Int × (List Int)))))))))))))) (x12 : Int) (x13 : Int) : Option ((((Bool × Unit) × Unit) ⊕ (Unit × Unit))) :=
 bif (decide (x13 < x12)) then
  Option.bind (getI a0 x13) fun (v6 : (Int × (Int × (Int × (Int × (Int × ((Arr Int 32) × (List UInt8 × (List UInt8 × (((Arr Int 32) × ((Arr Int 16) × Int)) × ((Arr Int 16) × (Int × (Int × (List Int)))))))))))))) =>
  Option.bind (getI b1 x13) fun (v7 : (Int × (Int × (Int × (Int × (Int × ((Arr Int 32) × (List UInt8 × (List UInt8 × (((Arr Int 32) × ((Arr Int 16) × Int)) × ((Arr Int 16) × (Int × (Int × (List Int)))))))))))))) =>
  Option.bind (script_Same N (v6.1, (v6.2.1, (v6.2.2.1, (v6.2.2.2.1, (v6.2.2.2.2.1, (v6.2.2.2.2.2.1, (v6.2.2.2.2.2.2.1, (v6.2.2.2.2.2.2.2.1, ((v6.2.2.2.2.2.2.2.2.1.1, (v6.2.2.2.2.2.2.2.2.1.2.1, v6.2.2.2.2.2.2.2.2.1.2.2)), (v6.2.2.2.2.2.2.2.2.2.1, (v6.2.2.2.2.2.2.2.2.2.2.1, (v6.2.2.2.2.2.2.2.2.2.2.2.1, v6.2.2.2.2.2.2.2.2.2.2.2.2)))))))))))) (v7.1, (v7.2.1, (v7.2.2.1, (v7.2.2.2.1, (v7.2.2.2.2.1, (v7.2.2.2.2.2.1, (v7.2.2.2.2.2.2.1, (v7.2.2.2.2.2.2.2.1, ((v7.2.2.2.2.2.2.2.2.1.1, (v7.2.2.2.2.2.2.2.2.1.2.1, v7.2.2.2.2.2.2.2.2.1.2.2)), (v7.2.2.2.2.2.2.2.2.2.1, (v7.2.2.2.2.2.2.2.2.2.2.1, (v7.2.2.2.2.2.2.2.2.2.2.2.1, v7.2.2.2.2.2.2.2.2.2.2.2.2))))))))))))) fun v8 =>
  bif (!v8) then
   some ((.inl ((false, ()), ())))
  else
   (X ((a0, (b1, (x12, ((IntKind.wrap .i64 (x13 + 1)), ())))), ()))
 else
  some ((.inr ((), ())))
noncomputable def law40_same_L4_R (c : (((List (Int × (Int × (Int × (Int × (Int × ((Arr Int 32) × (List UInt8 × (List UInt8 × (((Arr Int 32) × ((Arr Int 16) × Int)) × ((Arr Int 16) × (Int × (Int × (List Int)))))))))))))) × ((List (Int × (Int × (Int × (Int × (Int × ((Arr Int 32) × (List UInt8 × (List UInt8 × (((Arr Int 32) × ((Arr Int 16) × Int)) × ((Arr Int 16) × (Int × (Int × (List Int)))))))))))))) × (Int × (Int × Unit)))) × Unit)) : Option ((((Bool × Unit) × Unit) ⊕ (Unit × Unit))) := gl (fun X c => law40_same_L4 N X c.1.1 c.1.2.1 c.1.2.2.1 c.1.2.2.2.1) N c
theorem law40_same_L4_S (X : (((List (Int × (Int × (Int × (Int × (Int × ((Arr Int 32) × (List UInt8 × (List UInt8 × (((Arr Int 32) × ((Arr Int 16) × Int)) × ((Arr Int 16) × (Int × (Int × (List Int)))))))))))))) × ((List (Int × (Int × (Int × (Int × (Int × ((Arr Int 32) × (List UInt8 × (List UInt8 × (((Arr Int 32) × ((Arr Int 16) × Int)) × ((Arr Int 16) × (Int × (Int × (List Int)))))))))))))) × (Int × (Int × Unit)))) × Unit) → Option ((((Bool × Unit) × Unit) ⊕ (Unit × Unit)))) (a0 : List (Int × (Int × (Int × (Int × (Int × ((Arr Int 32) × (List UInt8 × (List UInt8 × (((Arr Int 32) × ((Arr Int 16) × Int)) × ((Arr Int 16) × (Int × (Int × (List Int)))))))))))))) (b1 : List (Int × (Int × (Int × (Int × (Int × ((Arr Int 32) × (List UInt8 × (List UInt8 × (((Arr Int 32) × ((Arr Int 16) × Int)) × ((Arr Int 16) × (Int × (Int × (List Int)))))))))))))) (x12 : Int) (x13 : Int) : (roundK Tryd.prog (Ev133 N) 400 [21] law40_same_L4_I (loopAt Tryd.prog [21] 4) X ((a0, b1, x12, x13, ()), ())).run = law40_same_L4 N X a0 b1 x12 x13 := by kernel_rfl
noncomputable def Ev134 : (R : Type) → Env R := Env.addLp (Ev133 N) [21] 0 4 (fun R => lpK Tryd.prog law40_same_L4_I (fun X c => law40_same_L4 N X c.1.1 c.1.2.1 c.1.2.2.1 c.1.2.2.2.1) N)
theorem Ev134_ok (R : Type) : EnvOK Tryd.prog (Ev134 N R) := EnvOK.addLp (Ev133_ok N R) (by kernel_rfl) (lpK_ok (li := law40_same_L4_I) (G := fun X c => law40_same_L4 N X c.1.1 c.1.2.1 c.1.2.2.1 c.1.2.2.2.1) hmx (Ev133_ok N _) (by kernel_rfl) loopAt_sub (fun (X : CT law40_same_L4_I.sh → Option (OT law40_same_L4_I.outs)) (c : CT law40_same_L4_I.sh) => law40_same_L4_S N X c.1.1 c.1.2.1 c.1.2.2.1 c.1.2.2.2.1) N)
noncomputable def law40_same (a0 : List (Int × (Int × (Int × (Int × (Int × ((Arr Int 32) × (List UInt8 × (List UInt8 × (((Arr Int 32) × ((Arr Int 16) × Int)) × ((Arr Int 16) × (Int × (Int × (List Int)))))))))))))) (b1 : List (Int × (Int × (Int × (Int × (Int × ((Arr Int 32) × (List UInt8 × (List UInt8 × (((Arr Int 32) × ((Arr Int 16) × Int)) × ((Arr Int 16) × (Int × (Int × (List Int)))))))))))))) : Option Bool :=
 bif (!(decide ((((List.length a0) : Nat) : Int) = (((List.length b1) : Nat) : Int)))) then
  some (false)
 else
  Option.bind (law40_same_L4_R N ((a0, (b1, ((((List.length a0) : Nat) : Int), ((0 : Int), ())))), ())) fun v3 =>
  Sum.elim
   (fun (v4 : ((Bool × Unit) × Unit)) =>
   some (v4.1.1))
   (fun (v4 : (Unit × Unit)) =>
   some (true)) v3
theorem law40_same_S (a0 : List (Int × (Int × (Int × (Int × (Int × ((Arr Int 32) × (List UInt8 × (List UInt8 × (((Arr Int 32) × ((Arr Int 16) × Int)) × ((Arr Int 16) × (Int × (Int × (List Int)))))))))))))) (b1 : List (Int × (Int × (Int × (Int × (Int × ((Arr Int 32) × (List UInt8 × (List UInt8 × (((Arr Int 32) × ((Arr Int 16) × Int)) × ((Arr Int 16) × (Int × (Int × (List Int)))))))))))))) : (runK Tryd.prog (Ev134 N) 400 21 [(.sl (.pair (.int .i64) (.pair (.int .i64) (.pair (.int .i64) (.pair (.int .i64) (.pair (.int .i64) (.pair (.arr 32 (.int .u8)) (.pair .str (.pair .str (.pair (.pair (.arr 32 (.int .u8)) (.pair (.arr 16 (.int .u8)) (.int .u32))) (.pair (.arr 16 (.int .u8)) (.pair (.int .u32) (.pair (.int .u32) (.sl (.int .u8))))))))))))))), (.sl (.pair (.int .i64) (.pair (.int .i64) (.pair (.int .i64) (.pair (.int .i64) (.pair (.int .i64) (.pair (.arr 32 (.int .u8)) (.pair .str (.pair .str (.pair (.pair (.arr 32 (.int .u8)) (.pair (.arr 16 (.int .u8)) (.int .u32))) (.pair (.arr 16 (.int .u8)) (.pair (.int .u32) (.pair (.int .u32) (.sl (.int .u8)))))))))))))))] [.bool] (a0, b1, ())).run = law40_same N a0 b1 := by kernel_rfl
noncomputable def Ev135 : (R : Type) → Env R := Env.addFn (Ev134 N) 21 (fun R => fnK [(.sl (.pair (.int .i64) (.pair (.int .i64) (.pair (.int .i64) (.pair (.int .i64) (.pair (.int .i64) (.pair (.arr 32 (.int .u8)) (.pair .str (.pair .str (.pair (.pair (.arr 32 (.int .u8)) (.pair (.arr 16 (.int .u8)) (.int .u32))) (.pair (.arr 16 (.int .u8)) (.pair (.int .u32) (.pair (.int .u32) (.sl (.int .u8))))))))))))))), (.sl (.pair (.int .i64) (.pair (.int .i64) (.pair (.int .i64) (.pair (.int .i64) (.pair (.int .i64) (.pair (.arr 32 (.int .u8)) (.pair .str (.pair .str (.pair (.pair (.arr 32 (.int .u8)) (.pair (.arr 16 (.int .u8)) (.int .u32))) (.pair (.arr 16 (.int .u8)) (.pair (.int .u32) (.pair (.int .u32) (.sl (.int .u8)))))))))))))))] [.bool] (fun c => law40_same N c.1 c.2.1))
theorem Ev135_ok (R : Type) : EnvOK Tryd.prog (Ev135 N R) := EnvOK.addFn hmx (Ev134_ok N R) (Ev134_ok N _) (by kernel_rfl) (fun c => law40_same_S N c.1 c.2.1)
noncomputable def law40_far_L2_I : LI := ⟨45, 0, [], ⟨[(0, .ty (.sl (.pair (.int .i64) (.pair (.int .i64) (.pair (.int .i64) (.pair (.int .i64) (.pair (.int .i64) (.pair (.arr 32 (.int .u8)) (.pair .str (.pair .str (.pair (.pair (.arr 32 (.int .u8)) (.pair (.arr 16 (.int .u8)) (.int .u32))) (.pair (.arr 16 (.int .u8)) (.pair (.int .u32) (.pair (.int .u32) (.sl (.int .u8)))))))))))))))), (9, .ty (.sl (.pair (.int .i64) (.pair (.int .i64) (.pair (.int .i64) (.pair (.int .i64) (.pair (.int .i64) (.pair (.arr 32 (.int .u8)) (.pair .str (.pair .str (.pair (.pair (.arr 32 (.int .u8)) (.pair (.arr 16 (.int .u8)) (.int .u32))) (.pair (.arr 16 (.int .u8)) (.pair (.int .u32) (.pair (.int .u32) (.sl (.int .u8)))))))))))))))), (10, .ty (.int .i64)), (11, .ty (.int .i64))], []⟩, [(.ret, ⟨[(2, .ty .bool)], []⟩), (.exit 0, ⟨[(0, .ty (.sl (.pair (.int .i64) (.pair (.int .i64) (.pair (.int .i64) (.pair (.int .i64) (.pair (.int .i64) (.pair (.arr 32 (.int .u8)) (.pair .str (.pair .str (.pair (.pair (.arr 32 (.int .u8)) (.pair (.arr 16 (.int .u8)) (.int .u32))) (.pair (.arr 16 (.int .u8)) (.pair (.int .u32) (.pair (.int .u32) (.sl (.int .u8))))))))))))))))], []⟩)]⟩
noncomputable def law40_far_L2 (N : Nat) (X : (((List (Int × (Int × (Int × (Int × (Int × ((Arr Int 32) × (List UInt8 × (List UInt8 × (((Arr Int 32) × ((Arr Int 16) × Int)) × ((Arr Int 16) × (Int × (Int × (List Int)))))))))))))) × ((List (Int × (Int × (Int × (Int × (Int × ((Arr Int 32) × (List UInt8 × (List UInt8 × (((Arr Int 32) × ((Arr Int 16) × Int)) × ((Arr Int 16) × (Int × (Int × (List Int)))))))))))))) × (Int × (Int × Unit)))) × Unit) → Option ((((Bool × Unit) × Unit) ⊕ (((List (Int × (Int × (Int × (Int × (Int × ((Arr Int 32) × (List UInt8 × (List UInt8 × (((Arr Int 32) × ((Arr Int 16) × Int)) × ((Arr Int 16) × (Int × (Int × (List Int)))))))))))))) × Unit) × Unit)))) (l0 : List (Int × (Int × (Int × (Int × (Int × ((Arr Int 32) × (List UInt8 × (List UInt8 × (((Arr Int 32) × ((Arr Int 16) × Int)) × ((Arr Int 16) × (Int × (Int × (List Int)))))))))))))) (x9 : List (Int × (Int × (Int × (Int × (Int × ((Arr Int 32) × (List UInt8 × (List UInt8 × (((Arr Int 32) × ((Arr Int 16) × Int)) × ((Arr Int 16) × (Int × (Int × (List Int)))))))))))))) (x10 : Int) (x11 : Int) : Option ((((Bool × Unit) × Unit) ⊕ (((List (Int × (Int × (Int × (Int × (Int × ((Arr Int 32) × (List UInt8 × (List UInt8 × (((Arr Int 32) × ((Arr Int 16) × Int)) × ((Arr Int 16) × (Int × (Int × (List Int)))))))))))))) × Unit) × Unit))) :=
 bif (decide (x11 < x10)) then
  Option.bind (getI x9 x11) fun (v6 : (Int × (Int × (Int × (Int × (Int × ((Arr Int 32) × (List UInt8 × (List UInt8 × (((Arr Int 32) × ((Arr Int 16) × Int)) × ((Arr Int 16) × (Int × (Int × (List Int)))))))))))))) =>
  bif (decide ((300 : Int) < (((List.length v6.2.2.2.2.2.2.1) : Nat) : Int))) then
   some ((.inl ((true, ()), ())))
  else
   Option.bind (some ((cond false true (decide ((400 : Int) < (((List.length v6.2.2.2.2.2.2.2.1) : Nat) : Int)))))) fun (v7 : Bool) =>
   bif v7 then
    some ((.inl ((true, ()), ())))
   else
    Option.bind (some ((cond false true (decide ((2100 : Int) < (((List.length v6.2.2.2.2.2.2.2.2.2.2.2.2) : Nat) : Int)))))) fun (v8 : Bool) =>
    bif v8 then
     some ((.inl ((true, ()), ())))
    else
     (X ((l0, (x9, (x10, ((IntKind.wrap .i64 (x11 + 1)), ())))), ()))
 else
  some ((.inr ((l0, ()), ())))
noncomputable def law40_far_L2_R (c : (((List (Int × (Int × (Int × (Int × (Int × ((Arr Int 32) × (List UInt8 × (List UInt8 × (((Arr Int 32) × ((Arr Int 16) × Int)) × ((Arr Int 16) × (Int × (Int × (List Int)))))))))))))) × ((List (Int × (Int × (Int × (Int × (Int × ((Arr Int 32) × (List UInt8 × (List UInt8 × (((Arr Int 32) × ((Arr Int 16) × Int)) × ((Arr Int 16) × (Int × (Int × (List Int)))))))))))))) × (Int × (Int × Unit)))) × Unit)) : Option ((((Bool × Unit) × Unit) ⊕ (((List (Int × (Int × (Int × (Int × (Int × ((Arr Int 32) × (List UInt8 × (List UInt8 × (((Arr Int 32) × ((Arr Int 16) × Int)) × ((Arr Int 16) × (Int × (Int × (List Int)))))))))))))) × Unit) × Unit))) := gl (fun X c => law40_far_L2 N X c.1.1 c.1.2.1 c.1.2.2.1 c.1.2.2.2.1) N c
theorem law40_far_L2_S (X : (((List (Int × (Int × (Int × (Int × (Int × ((Arr Int 32) × (List UInt8 × (List UInt8 × (((Arr Int 32) × ((Arr Int 16) × Int)) × ((Arr Int 16) × (Int × (Int × (List Int)))))))))))))) × ((List (Int × (Int × (Int × (Int × (Int × ((Arr Int 32) × (List UInt8 × (List UInt8 × (((Arr Int 32) × ((Arr Int 16) × Int)) × ((Arr Int 16) × (Int × (Int × (List Int)))))))))))))) × (Int × (Int × Unit)))) × Unit) → Option ((((Bool × Unit) × Unit) ⊕ (((List (Int × (Int × (Int × (Int × (Int × ((Arr Int 32) × (List UInt8 × (List UInt8 × (((Arr Int 32) × ((Arr Int 16) × Int)) × ((Arr Int 16) × (Int × (Int × (List Int)))))))))))))) × Unit) × Unit)))) (l0 : List (Int × (Int × (Int × (Int × (Int × ((Arr Int 32) × (List UInt8 × (List UInt8 × (((Arr Int 32) × ((Arr Int 16) × Int)) × ((Arr Int 16) × (Int × (Int × (List Int)))))))))))))) (x9 : List (Int × (Int × (Int × (Int × (Int × ((Arr Int 32) × (List UInt8 × (List UInt8 × (((Arr Int 32) × ((Arr Int 16) × Int)) × ((Arr Int 16) × (Int × (Int × (List Int)))))))))))))) (x10 : Int) (x11 : Int) : (roundK Tryd.prog (Ev135 N) 400 [7] law40_far_L2_I (loopAt Tryd.prog [7] 2) X ((l0, x9, x10, x11, ()), ())).run = law40_far_L2 N X l0 x9 x10 x11 := by kernel_rfl
noncomputable def Ev136 : (R : Type) → Env R := Env.addLp (Ev135 N) [7] 0 2 (fun R => lpK Tryd.prog law40_far_L2_I (fun X c => law40_far_L2 N X c.1.1 c.1.2.1 c.1.2.2.1 c.1.2.2.2.1) N)
theorem Ev136_ok (R : Type) : EnvOK Tryd.prog (Ev136 N R) := EnvOK.addLp (Ev135_ok N R) (by kernel_rfl) (lpK_ok (li := law40_far_L2_I) (G := fun X c => law40_far_L2 N X c.1.1 c.1.2.1 c.1.2.2.1 c.1.2.2.2.1) hmx (Ev135_ok N _) (by kernel_rfl) loopAt_sub (fun (X : CT law40_far_L2_I.sh → Option (OT law40_far_L2_I.outs)) (c : CT law40_far_L2_I.sh) => law40_far_L2_S N X c.1.1 c.1.2.1 c.1.2.2.1 c.1.2.2.2.1) N)
noncomputable def law40_far (l0 : List (Int × (Int × (Int × (Int × (Int × ((Arr Int 32) × (List UInt8 × (List UInt8 × (((Arr Int 32) × ((Arr Int 16) × Int)) × ((Arr Int 16) × (Int × (Int × (List Int)))))))))))))) : Option Bool :=
 Option.bind (takeI l0 (@minI (((List.length l0) : Nat) : Int) (2100 : Int))) fun (v2 : (List (Int × (Int × (Int × (Int × (Int × ((Arr Int 32) × (List UInt8 × (List UInt8 × (((Arr Int 32) × ((Arr Int 16) × Int)) × ((Arr Int 16) × (Int × (Int × (List Int))))))))))))))) =>
 Option.bind (law40_far_L2_R N ((l0, (v2, ((((List.length v2) : Nat) : Int), ((0 : Int), ())))), ())) fun v3 =>
 Sum.elim
  (fun (v4 : ((Bool × Unit) × Unit)) =>
  some (v4.1.1))
  (fun (v4 : (((List (Int × (Int × (Int × (Int × (Int × ((Arr Int 32) × (List UInt8 × (List UInt8 × (((Arr Int 32) × ((Arr Int 16) × Int)) × ((Arr Int 16) × (Int × (Int × (List Int)))))))))))))) × Unit) × Unit)) =>
  bif (decide ((20 : Int) < (((List.length v4.1.1) : Nat) : Int))) then
   Option.bind (some ((cond true (decide ((((List.length v4.1.1) : Nat) : Int) ≤ (2000 : Int))) false))) fun (v5 : Bool) =>
   bif v5 then
    some (true)
   else
    Option.bind (some ((cond false true (decide ((2100 : Int) < (((List.length v4.1.1) : Nat) : Int)))))) fun (v6 : Bool) =>
    some (v6)
  else
   Option.bind (some ((cond false true (decide ((2100 : Int) < (((List.length v4.1.1) : Nat) : Int)))))) fun (v5 : Bool) =>
   some (v5)) v3
theorem law40_far_S (l0 : List (Int × (Int × (Int × (Int × (Int × ((Arr Int 32) × (List UInt8 × (List UInt8 × (((Arr Int 32) × ((Arr Int 16) × Int)) × ((Arr Int 16) × (Int × (Int × (List Int)))))))))))))) : (runK Tryd.prog (Ev136 N) 400 7 [(.sl (.pair (.int .i64) (.pair (.int .i64) (.pair (.int .i64) (.pair (.int .i64) (.pair (.int .i64) (.pair (.arr 32 (.int .u8)) (.pair .str (.pair .str (.pair (.pair (.arr 32 (.int .u8)) (.pair (.arr 16 (.int .u8)) (.int .u32))) (.pair (.arr 16 (.int .u8)) (.pair (.int .u32) (.pair (.int .u32) (.sl (.int .u8)))))))))))))))] [.bool] (l0, ())).run = law40_far N l0 := by kernel_rfl
noncomputable def Ev137 : (R : Type) → Env R := Env.addFn (Ev136 N) 7 (fun R => fnK [(.sl (.pair (.int .i64) (.pair (.int .i64) (.pair (.int .i64) (.pair (.int .i64) (.pair (.int .i64) (.pair (.arr 32 (.int .u8)) (.pair .str (.pair .str (.pair (.pair (.arr 32 (.int .u8)) (.pair (.arr 16 (.int .u8)) (.int .u32))) (.pair (.arr 16 (.int .u8)) (.pair (.int .u32) (.pair (.int .u32) (.sl (.int .u8)))))))))))))))] [.bool] (fun c => law40_far N c.1))
theorem Ev137_ok (R : Type) : EnvOK Tryd.prog (Ev137 N R) := EnvOK.addFn hmx (Ev136_ok N R) (Ev136_ok N _) (by kernel_rfl) (fun c => law40_far_S N c.1)
noncomputable def Ev138 : (R : Type) → Env R := Env.addFn (Ev137 N) 22 (fun R => txK)
theorem Ev138_ok (R : Type) : EnvOK Tryd.prog (Ev138 N R) := EnvOK.addExt (Ev137_ok N R) tx_ok
noncomputable def law40_alive : Option Bool :=
 Option.bind (script_Lay N ([((6 : Int), ((0 : Int), ((0 : Int), ((0 : Int), ((0 : Int), ((@Arr.cons Int 31 0 (@Arr.cons Int 30 0 (@Arr.cons Int 29 0 (@Arr.cons Int 28 0 (@Arr.cons Int 27 0 (@Arr.cons Int 26 0 (@Arr.cons Int 25 0 (@Arr.cons Int 24 0 (@Arr.cons Int 23 0 (@Arr.cons Int 22 0 (@Arr.cons Int 21 0 (@Arr.cons Int 20 0 (@Arr.cons Int 19 0 (@Arr.cons Int 18 0 (@Arr.cons Int 17 0 (@Arr.cons Int 16 0 (@Arr.cons Int 15 0 (@Arr.cons Int 14 0 (@Arr.cons Int 13 0 (@Arr.cons Int 12 0 (@Arr.cons Int 11 0 (@Arr.cons Int 10 0 (@Arr.cons Int 9 0 (@Arr.cons Int 8 0 (@Arr.cons Int 7 0 (@Arr.cons Int 6 0 (@Arr.cons Int 5 0 (@Arr.cons Int 4 0 (@Arr.cons Int 3 0 (@Arr.cons Int 2 0 (@Arr.cons Int 1 0 (@Arr.cons Int 0 0 (@Arr.nil Int))))))))))))))))))))))))))))))))), ((Array.toList (List.toArray ([] : List UInt8))), ((Array.toList (List.toArray ([] : List UInt8))), (((@Arr.cons Int 31 0 (@Arr.cons Int 30 0 (@Arr.cons Int 29 0 (@Arr.cons Int 28 0 (@Arr.cons Int 27 0 (@Arr.cons Int 26 0 (@Arr.cons Int 25 0 (@Arr.cons Int 24 0 (@Arr.cons Int 23 0 (@Arr.cons Int 22 0 (@Arr.cons Int 21 0 (@Arr.cons Int 20 0 (@Arr.cons Int 19 0 (@Arr.cons Int 18 0 (@Arr.cons Int 17 0 (@Arr.cons Int 16 0 (@Arr.cons Int 15 0 (@Arr.cons Int 14 0 (@Arr.cons Int 13 0 (@Arr.cons Int 12 0 (@Arr.cons Int 11 0 (@Arr.cons Int 10 0 (@Arr.cons Int 9 0 (@Arr.cons Int 8 0 (@Arr.cons Int 7 0 (@Arr.cons Int 6 0 (@Arr.cons Int 5 0 (@Arr.cons Int 4 0 (@Arr.cons Int 3 0 (@Arr.cons Int 2 0 (@Arr.cons Int 1 0 (@Arr.cons Int 0 0 (@Arr.nil Int))))))))))))))))))))))))))))))))), ((@Arr.cons Int 15 0 (@Arr.cons Int 14 0 (@Arr.cons Int 13 0 (@Arr.cons Int 12 0 (@Arr.cons Int 11 0 (@Arr.cons Int 10 0 (@Arr.cons Int 9 0 (@Arr.cons Int 8 0 (@Arr.cons Int 7 0 (@Arr.cons Int 6 0 (@Arr.cons Int 5 0 (@Arr.cons Int 4 0 (@Arr.cons Int 3 0 (@Arr.cons Int 2 0 (@Arr.cons Int 1 0 (@Arr.cons Int 0 0 (@Arr.nil Int))))))))))))))))), (0 : Int))), ((@Arr.cons Int 15 0 (@Arr.cons Int 14 0 (@Arr.cons Int 13 0 (@Arr.cons Int 12 0 (@Arr.cons Int 11 0 (@Arr.cons Int 10 0 (@Arr.cons Int 9 0 (@Arr.cons Int 8 0 (@Arr.cons Int 7 0 (@Arr.cons Int 6 0 (@Arr.cons Int 5 0 (@Arr.cons Int 4 0 (@Arr.cons Int 3 0 (@Arr.cons Int 2 0 (@Arr.cons Int 1 0 (@Arr.cons Int 0 0 (@Arr.nil Int))))))))))))))))), ((0 : Int), ((0 : Int), ([] : List Int)))))))))))))] : List ((Int × (Int × (Int × (Int × (Int × ((Arr Int 32) × (List UInt8 × (List UInt8 × (((Arr Int 32) × ((Arr Int 16) × Int)) × ((Arr Int 16) × (Int × (Int × (List Int)))))))))))))))) fun v1 =>
 Option.bind (script_Parse N v1.1) fun v2 =>
 Option.bind (bif (decide ((((List.length v1.1) : Nat) : Int) = (134 : Int))) then
   some ((cond true (decide (v1.2 = (0 : Int))) false))
  else
   some (false)) fun (v3 : Bool) =>
 bif v3 then
  Option.bind (some ((cond true (decide ((((List.length v2.1) : Nat) : Int) = (1 : Int))) false))) fun (v4 : Bool) =>
  Option.bind (bif v4 then
    Option.bind (getI v2.1 (0 : Int)) fun (v5 : (Int × (Int × (Int × (Int × (Int × ((Arr Int 32) × (List UInt8 × (List UInt8 × (((Arr Int 32) × ((Arr Int 16) × Int)) × ((Arr Int 16) × (Int × (Int × (List Int)))))))))))))) =>
    some ((cond true (decide (v5.1 = (6 : Int))) false))
   else
    some (false)) fun (v5 : Bool) =>
  Option.bind (bif v5 then
    some ((cond true (decide (v2.2 = (0 : Int))) false))
   else
    some (false)) fun (v6 : Bool) =>
  bif v6 then
   some (true)
  else
   some (false)
 else
  some (false)
theorem law40_alive_S : (runK Tryd.prog (Ev138 N) 400 8 [] [.bool] ()).run = law40_alive N  := by kernel_rfl
noncomputable def Ev139 : (R : Type) → Env R := Env.addFn (Ev138 N) 8 (fun R => fnK [] [.bool] (fun c => law40_alive N ))
theorem Ev139_ok (R : Type) : EnvOK Tryd.prog (Ev139 N R) := EnvOK.addFn hmx (Ev138_ok N R) (Ev138_ok N _) (by kernel_rfl) (fun c => law40_alive_S N )
noncomputable def Ev140 : (R : Type) → Env R := Env.addBx (Ev139 N) [(3, 0)]
theorem Ev140_ok (R : Type) : EnvOK Tryd.prog (Ev140 N R) := EnvOK.addBx (Ev139_ok N R) [(3, 0)]
noncomputable def law40_ScriptLays (l0 : List (Int × (Int × (Int × (Int × (Int × ((Arr Int 32) × (List UInt8 × (List UInt8 × (((Arr Int 32) × ((Arr Int 16) × Int)) × ((Arr Int 16) × (Int × (Int × (List Int)))))))))))))) (x1 : Int × (Int × (Int × (Int × (Int × ((Arr Int 32) × (List UInt8 × (List UInt8 × (((Arr Int 32) × ((Arr Int 16) × Int)) × ((Arr Int 16) × (Int × (Int × (List Int))))))))))))) (y2 : Int × (Int × (Int × (Int × (Int × ((Arr Int 32) × (List UInt8 × (List UInt8 × (((Arr Int 32) × ((Arr Int 16) × Int)) × ((Arr Int 16) × (Int × (Int × (List Int))))))))))))) : Option Bool :=
 Option.bind (law40_far N l0) fun v4 =>
 bif v4 then
  Option.bind (@law40_alive N) fun (v5 : Bool) =>
  some (v5)
 else
  Option.bind (law40_far N ([(x1.1, (x1.2.1, (x1.2.2.1, (x1.2.2.2.1, (x1.2.2.2.2.1, (x1.2.2.2.2.2.1, (x1.2.2.2.2.2.2.1, (x1.2.2.2.2.2.2.2.1, ((x1.2.2.2.2.2.2.2.2.1.1, (x1.2.2.2.2.2.2.2.2.1.2.1, x1.2.2.2.2.2.2.2.2.1.2.2)), (x1.2.2.2.2.2.2.2.2.2.1, (x1.2.2.2.2.2.2.2.2.2.2.1, (x1.2.2.2.2.2.2.2.2.2.2.2.1, x1.2.2.2.2.2.2.2.2.2.2.2.2)))))))))))), (y2.1, (y2.2.1, (y2.2.2.1, (y2.2.2.2.1, (y2.2.2.2.2.1, (y2.2.2.2.2.2.1, (y2.2.2.2.2.2.2.1, (y2.2.2.2.2.2.2.2.1, ((y2.2.2.2.2.2.2.2.2.1.1, (y2.2.2.2.2.2.2.2.2.1.2.1, y2.2.2.2.2.2.2.2.2.1.2.2)), (y2.2.2.2.2.2.2.2.2.2.1, (y2.2.2.2.2.2.2.2.2.2.2.1, (y2.2.2.2.2.2.2.2.2.2.2.2.1, y2.2.2.2.2.2.2.2.2.2.2.2.2))))))))))))] : List ((Int × (Int × (Int × (Int × (Int × ((Arr Int 32) × (List UInt8 × (List UInt8 × (((Arr Int 32) × ((Arr Int 16) × Int)) × ((Arr Int 16) × (Int × (Int × (List Int)))))))))))))))) fun v5 =>
  bif (cond false true v5) then
   Option.bind (@law40_alive N) fun (v6 : Bool) =>
   some (v6)
  else
   Option.bind (law40_all N l0) fun v6 =>
   Option.bind (script_Lay N v6) fun v7 =>
   Option.bind (ref40_Lay N l0) fun v8 =>
   Option.bind (ref01_Same N v7.1 v8.1) fun v9 =>
   bif v9 then
    bif (cond true (decide (v7.2 = v8.2)) false) then
     Option.bind (script_May N (x1.1, (x1.2.1, (x1.2.2.1, (x1.2.2.2.1, (x1.2.2.2.2.1, (x1.2.2.2.2.2.1, (x1.2.2.2.2.2.2.1, (x1.2.2.2.2.2.2.2.1, ((x1.2.2.2.2.2.2.2.2.1.1, (x1.2.2.2.2.2.2.2.2.1.2.1, x1.2.2.2.2.2.2.2.2.1.2.2)), (x1.2.2.2.2.2.2.2.2.2.1, (x1.2.2.2.2.2.2.2.2.2.2.1, (x1.2.2.2.2.2.2.2.2.2.2.2.1, x1.2.2.2.2.2.2.2.2.2.2.2.2))))))))))))) fun v10 =>
     Option.bind (ref40_May N (x1.1, (x1.2.1, (x1.2.2.1, (x1.2.2.2.1, (x1.2.2.2.2.1, (x1.2.2.2.2.2.1, (x1.2.2.2.2.2.2.1, (x1.2.2.2.2.2.2.2.1, ((x1.2.2.2.2.2.2.2.2.1.1, (x1.2.2.2.2.2.2.2.2.1.2.1, x1.2.2.2.2.2.2.2.2.1.2.2)), (x1.2.2.2.2.2.2.2.2.2.1, (x1.2.2.2.2.2.2.2.2.2.2.1, (x1.2.2.2.2.2.2.2.2.2.2.2.1, x1.2.2.2.2.2.2.2.2.2.2.2.2))))))))))))) fun v11 =>
     bif (cond true (decide (v10 = v11)) false) then
      Option.bind (script_Same N (x1.1, (x1.2.1, (x1.2.2.1, (x1.2.2.2.1, (x1.2.2.2.2.1, (x1.2.2.2.2.2.1, (x1.2.2.2.2.2.2.1, (x1.2.2.2.2.2.2.2.1, ((x1.2.2.2.2.2.2.2.2.1.1, (x1.2.2.2.2.2.2.2.2.1.2.1, x1.2.2.2.2.2.2.2.2.1.2.2)), (x1.2.2.2.2.2.2.2.2.2.1, (x1.2.2.2.2.2.2.2.2.2.2.1, (x1.2.2.2.2.2.2.2.2.2.2.2.1, x1.2.2.2.2.2.2.2.2.2.2.2.2)))))))))))) (y2.1, (y2.2.1, (y2.2.2.1, (y2.2.2.2.1, (y2.2.2.2.2.1, (y2.2.2.2.2.2.1, (y2.2.2.2.2.2.2.1, (y2.2.2.2.2.2.2.2.1, ((y2.2.2.2.2.2.2.2.2.1.1, (y2.2.2.2.2.2.2.2.2.1.2.1, y2.2.2.2.2.2.2.2.2.1.2.2)), (y2.2.2.2.2.2.2.2.2.2.1, (y2.2.2.2.2.2.2.2.2.2.2.1, (y2.2.2.2.2.2.2.2.2.2.2.2.1, y2.2.2.2.2.2.2.2.2.2.2.2.2))))))))))))) fun v12 =>
      Option.bind (ref40_Same N (x1.1, (x1.2.1, (x1.2.2.1, (x1.2.2.2.1, (x1.2.2.2.2.1, (x1.2.2.2.2.2.1, (x1.2.2.2.2.2.2.1, (x1.2.2.2.2.2.2.2.1, ((x1.2.2.2.2.2.2.2.2.1.1, (x1.2.2.2.2.2.2.2.2.1.2.1, x1.2.2.2.2.2.2.2.2.1.2.2)), (x1.2.2.2.2.2.2.2.2.2.1, (x1.2.2.2.2.2.2.2.2.2.2.1, (x1.2.2.2.2.2.2.2.2.2.2.2.1, x1.2.2.2.2.2.2.2.2.2.2.2.2)))))))))))) (y2.1, (y2.2.1, (y2.2.2.1, (y2.2.2.2.1, (y2.2.2.2.2.1, (y2.2.2.2.2.2.1, (y2.2.2.2.2.2.2.1, (y2.2.2.2.2.2.2.2.1, ((y2.2.2.2.2.2.2.2.2.1.1, (y2.2.2.2.2.2.2.2.2.1.2.1, y2.2.2.2.2.2.2.2.2.1.2.2)), (y2.2.2.2.2.2.2.2.2.2.1, (y2.2.2.2.2.2.2.2.2.2.2.1, (y2.2.2.2.2.2.2.2.2.2.2.2.1, y2.2.2.2.2.2.2.2.2.2.2.2.2))))))))))))) fun v13 =>
      bif (cond true (@BEq.beq Bool (@instBEqOfDecidableEq Bool @instDecidableEqBool) v12 v13) false) then
       Option.bind (script_Same N (x1.1, (x1.2.1, (x1.2.2.1, (x1.2.2.2.1, (x1.2.2.2.2.1, (x1.2.2.2.2.2.1, (x1.2.2.2.2.2.2.1, (x1.2.2.2.2.2.2.2.1, ((x1.2.2.2.2.2.2.2.2.1.1, (x1.2.2.2.2.2.2.2.2.1.2.1, x1.2.2.2.2.2.2.2.2.1.2.2)), (x1.2.2.2.2.2.2.2.2.2.1, (x1.2.2.2.2.2.2.2.2.2.2.1, (x1.2.2.2.2.2.2.2.2.2.2.2.1, x1.2.2.2.2.2.2.2.2.2.2.2.2)))))))))))) (x1.1, (x1.2.1, (x1.2.2.1, (x1.2.2.2.1, (x1.2.2.2.2.1, (x1.2.2.2.2.2.1, (x1.2.2.2.2.2.2.1, (x1.2.2.2.2.2.2.2.1, ((x1.2.2.2.2.2.2.2.2.1.1, (x1.2.2.2.2.2.2.2.2.1.2.1, x1.2.2.2.2.2.2.2.2.1.2.2)), (x1.2.2.2.2.2.2.2.2.2.1, (x1.2.2.2.2.2.2.2.2.2.2.1, (x1.2.2.2.2.2.2.2.2.2.2.2.1, x1.2.2.2.2.2.2.2.2.2.2.2.2))))))))))))) fun v14 =>
       bif (cond true v14 false) then
        Option.bind (@law40_alive N) fun (v15 : Bool) =>
        some ((cond true v15 false))
       else
        some (false)
      else
       some (false)
     else
      some (false)
    else
     some (false)
   else
    some (false)
theorem law40_ScriptLays_S (l0 : List (Int × (Int × (Int × (Int × (Int × ((Arr Int 32) × (List UInt8 × (List UInt8 × (((Arr Int 32) × ((Arr Int 16) × Int)) × ((Arr Int 16) × (Int × (Int × (List Int)))))))))))))) (x1 : Int × (Int × (Int × (Int × (Int × ((Arr Int 32) × (List UInt8 × (List UInt8 × (((Arr Int 32) × ((Arr Int 16) × Int)) × ((Arr Int 16) × (Int × (Int × (List Int))))))))))))) (y2 : Int × (Int × (Int × (Int × (Int × ((Arr Int 32) × (List UInt8 × (List UInt8 × (((Arr Int 32) × ((Arr Int 16) × Int)) × ((Arr Int 16) × (Int × (Int × (List Int))))))))))))) : (runK Tryd.prog (Ev140 N) 400 3 [(.sl (.pair (.int .i64) (.pair (.int .i64) (.pair (.int .i64) (.pair (.int .i64) (.pair (.int .i64) (.pair (.arr 32 (.int .u8)) (.pair .str (.pair .str (.pair (.pair (.arr 32 (.int .u8)) (.pair (.arr 16 (.int .u8)) (.int .u32))) (.pair (.arr 16 (.int .u8)) (.pair (.int .u32) (.pair (.int .u32) (.sl (.int .u8))))))))))))))), (.pair (.int .i64) (.pair (.int .i64) (.pair (.int .i64) (.pair (.int .i64) (.pair (.int .i64) (.pair (.arr 32 (.int .u8)) (.pair .str (.pair .str (.pair (.pair (.arr 32 (.int .u8)) (.pair (.arr 16 (.int .u8)) (.int .u32))) (.pair (.arr 16 (.int .u8)) (.pair (.int .u32) (.pair (.int .u32) (.sl (.int .u8)))))))))))))), (.pair (.int .i64) (.pair (.int .i64) (.pair (.int .i64) (.pair (.int .i64) (.pair (.int .i64) (.pair (.arr 32 (.int .u8)) (.pair .str (.pair .str (.pair (.pair (.arr 32 (.int .u8)) (.pair (.arr 16 (.int .u8)) (.int .u32))) (.pair (.arr 16 (.int .u8)) (.pair (.int .u32) (.pair (.int .u32) (.sl (.int .u8))))))))))))))] [.bool] (l0, x1, y2, ())).run = law40_ScriptLays N l0 x1 y2 := by kernel_rfl
noncomputable def Ev141 : (R : Type) → Env R := Env.addFn (Ev140 N) 3 (fun R => fnK [(.sl (.pair (.int .i64) (.pair (.int .i64) (.pair (.int .i64) (.pair (.int .i64) (.pair (.int .i64) (.pair (.arr 32 (.int .u8)) (.pair .str (.pair .str (.pair (.pair (.arr 32 (.int .u8)) (.pair (.arr 16 (.int .u8)) (.int .u32))) (.pair (.arr 16 (.int .u8)) (.pair (.int .u32) (.pair (.int .u32) (.sl (.int .u8))))))))))))))), (.pair (.int .i64) (.pair (.int .i64) (.pair (.int .i64) (.pair (.int .i64) (.pair (.int .i64) (.pair (.arr 32 (.int .u8)) (.pair .str (.pair .str (.pair (.pair (.arr 32 (.int .u8)) (.pair (.arr 16 (.int .u8)) (.int .u32))) (.pair (.arr 16 (.int .u8)) (.pair (.int .u32) (.pair (.int .u32) (.sl (.int .u8)))))))))))))), (.pair (.int .i64) (.pair (.int .i64) (.pair (.int .i64) (.pair (.int .i64) (.pair (.int .i64) (.pair (.arr 32 (.int .u8)) (.pair .str (.pair .str (.pair (.pair (.arr 32 (.int .u8)) (.pair (.arr 16 (.int .u8)) (.int .u32))) (.pair (.arr 16 (.int .u8)) (.pair (.int .u32) (.pair (.int .u32) (.sl (.int .u8))))))))))))))] [.bool] (fun c => law40_ScriptLays N c.1 c.2.1 c.2.2.1))
theorem Ev141_ok (R : Type) : EnvOK Tryd.prog (Ev141 N R) := EnvOK.addFn hmx (Ev140_ok N R) (Ev140_ok N _) (by kernel_rfl) (fun c => law40_ScriptLays_S N c.1 c.2.1 c.2.2.1)
noncomputable def law40_ScriptParses (b0 : List (Int)) (x1 : Bool) (n2 : Int) : Option Bool :=
 bif (decide ((3000 : Int) < (((List.length b0) : Nat) : Int))) then
  Option.bind (@law40_alive N) fun (v4 : Bool) =>
  some (v4)
 else
  bif x1 then
   Option.bind (ref40_Seal N (IntKind.wrap .i64 n2) b0) fun v4 =>
   Option.bind (script_Parse N v4) fun v5 =>
   Option.bind (ref40_Parse N v4) fun v6 =>
   Option.bind (law40_same N v5.1 v6.1) fun v7 =>
   Option.bind (bif v7 then
     some ((cond true (decide (v5.2 = v6.2)) false))
    else
     some (false)) fun (v8 : Bool) =>
   bif v8 then
    Option.bind (@law40_alive N) fun (v9 : Bool) =>
    some ((cond true v9 false))
   else
    some (false)
  else
   Option.bind (script_Parse N b0) fun v4 =>
   Option.bind (ref40_Parse N b0) fun v5 =>
   Option.bind (law40_same N v4.1 v5.1) fun v6 =>
   Option.bind (bif v6 then
     some ((cond true (decide (v4.2 = v5.2)) false))
    else
     some (false)) fun (v7 : Bool) =>
   bif v7 then
    Option.bind (@law40_alive N) fun (v8 : Bool) =>
    some ((cond true v8 false))
   else
    some (false)
theorem law40_ScriptParses_S (b0 : List (Int)) (x1 : Bool) (n2 : Int) : (runK Tryd.prog (Ev141 N) 400 4 [(.sl (.int .u8)), .bool, (.int .u16)] [.bool] (b0, x1, n2, ())).run = law40_ScriptParses N b0 x1 n2 := by kernel_rfl
noncomputable def Ev142 : (R : Type) → Env R := Env.addFn (Ev141 N) 4 (fun R => fnK [(.sl (.int .u8)), .bool, (.int .u16)] [.bool] (fun c => law40_ScriptParses N c.1 c.2.1 c.2.2.1))
theorem Ev142_ok (R : Type) : EnvOK Tryd.prog (Ev142 N R) := EnvOK.addFn hmx (Ev141_ok N R) (Ev141_ok N _) (by kernel_rfl) (fun c => law40_ScriptParses_S N c.1 c.2.1 c.2.2.1)
noncomputable def law40_ScriptBack (l0 : List (Int × (Int × (Int × (Int × (Int × ((Arr Int 32) × (List UInt8 × (List UInt8 × (((Arr Int 32) × ((Arr Int 16) × Int)) × ((Arr Int 16) × (Int × (Int × (List Int)))))))))))))) (b1 : List (Int)) : Option Bool :=
 Option.bind (law40_far N l0) fun v3 =>
 bif v3 then
  Option.bind (@law40_alive N) fun (v4 : Bool) =>
  some (v4)
 else
  Option.bind (some ((cond false true (decide ((3000 : Int) < (((List.length b1) : Nat) : Int)))))) fun (v4 : Bool) =>
  bif v4 then
   Option.bind (@law40_alive N) fun (v5 : Bool) =>
   some (v5)
  else
   Option.bind (law40_all N l0) fun v5 =>
   Option.bind (script_Lay N v5) fun v6 =>
   bif (decide (v6.2 = (0 : Int))) then
    Option.bind (script_Parse N v6.1) fun v7 =>
    Option.bind (law40_same N v7.1 l0) fun v8 =>
    Option.bind (bif (!v8) then
      some (true)
     else
      some ((cond false true (!(decide (v7.2 = (0 : Int))))))) fun (v9 : Bool) =>
    bif v9 then
     some (false)
    else
     Option.bind (script_Parse N b1) fun v10 =>
     bif (!(decide (v10.2 = (0 : Int)))) then
      bif (decide ((((List.length v10.1) : Nat) : Int) = (0 : Int))) then
       Option.bind (@law40_alive N) fun (v11 : Bool) =>
       some ((cond true v11 false))
      else
       some (false)
     else
      Option.bind (script_Lay N v10.1) fun v11 =>
      bif (decide (v11.2 = (0 : Int))) then
       Option.bind (ref01_Same N v11.1 b1) fun v12 =>
       bif (cond true v12 false) then
        Option.bind (@law40_alive N) fun (v13 : Bool) =>
        some ((cond true v13 false))
       else
        some (false)
      else
       some (false)
   else
    Option.bind (script_Parse N b1) fun v7 =>
    bif (!(decide (v7.2 = (0 : Int)))) then
     bif (decide ((((List.length v7.1) : Nat) : Int) = (0 : Int))) then
      Option.bind (@law40_alive N) fun (v8 : Bool) =>
      some ((cond true v8 false))
     else
      some (false)
    else
     Option.bind (script_Lay N v7.1) fun v8 =>
     bif (decide (v8.2 = (0 : Int))) then
      Option.bind (ref01_Same N v8.1 b1) fun v9 =>
      bif (cond true v9 false) then
       Option.bind (@law40_alive N) fun (v10 : Bool) =>
       some ((cond true v10 false))
      else
       some (false)
     else
      some (false)
theorem law40_ScriptBack_S (l0 : List (Int × (Int × (Int × (Int × (Int × ((Arr Int 32) × (List UInt8 × (List UInt8 × (((Arr Int 32) × ((Arr Int 16) × Int)) × ((Arr Int 16) × (Int × (Int × (List Int)))))))))))))) (b1 : List (Int)) : (runK Tryd.prog (Ev142 N) 400 5 [(.sl (.pair (.int .i64) (.pair (.int .i64) (.pair (.int .i64) (.pair (.int .i64) (.pair (.int .i64) (.pair (.arr 32 (.int .u8)) (.pair .str (.pair .str (.pair (.pair (.arr 32 (.int .u8)) (.pair (.arr 16 (.int .u8)) (.int .u32))) (.pair (.arr 16 (.int .u8)) (.pair (.int .u32) (.pair (.int .u32) (.sl (.int .u8))))))))))))))), (.sl (.int .u8))] [.bool] (l0, b1, ())).run = law40_ScriptBack N l0 b1 := by kernel_rfl
theorem law40_ScriptBack_C (l0 : List (Int × (Int × (Int × (Int × (Int × ((Arr Int 32) × (List UInt8 × (List UInt8 × (((Arr Int 32) × ((Arr Int 16) × Int)) × ((Arr Int 16) × (Int × (Int × (List Int)))))))))))))) (b1 : List (Int)) (y : Bool) (h : law40_ScriptBack N l0 b1 = some y) : CallsK Tryd.prog 5 (valA [(.sl (.pair (.int .i64) (.pair (.int .i64) (.pair (.int .i64) (.pair (.int .i64) (.pair (.int .i64) (.pair (.arr 32 (.int .u8)) (.pair .str (.pair .str (.pair (.pair (.arr 32 (.int .u8)) (.pair (.arr 16 (.int .u8)) (.int .u32))) (.pair (.arr 16 (.int .u8)) (.pair (.int .u32) (.pair (.int .u32) (.sl (.int .u8))))))))))))))), (.sl (.int .u8))] (l0, b1, ())) (tupV (valR [.bool] y)) := runK_ok hmx (Ev142_ok N _) (okFn_ok (by kernel_rfl)) (by rw [law40_ScriptBack_S]; exact h)
end
end Go.Proofs.YtongdeioonikoaaDoor
namespace Go.Proofs.YtongdeioonikoaaDoor
set_option maxRecDepth 100000
open Go.RowKit
set_option linter.unusedVariables false
set_option linter.unusedSimpArgs false
set_option maxRecDepth 100000
def kl06 : List Int := [1116352408, 1899447441, 3049323471, 3921009573, 961987163, 1508970993, 2453635748, 2870763221, 3624381080, 310598401, 607225278, 1426881987, 1925078388, 2162078206, 2614888103, 3248222580, 3835390401, 4022224774, 264347078, 604807628, 770255983, 1249150122, 1555081692, 1996064986, 2554220882, 2821834349, 2952996808, 3210313671, 3336571891, 3584528711, 113926993, 338241895, 666307205, 773529912, 1294757372, 1396182291, 1695183700, 1986661051, 2177026350, 2456956037, 2730485921, 2820302411, 3259730800, 3345764771, 3516065817, 3600352804, 4094571909, 275423344, 430227734, 506948616, 659060556, 883997877, 958139571, 1322822218, 1537002063, 1747873779, 1955562222, 2024104815, 2227730452, 2361852424, 2428436474, 2756734187, 3204031479, 3329325298]
def fl06 : List Int := [1779033703, 3144134277, 1013904242, 2773480762, 1359893119, 2600822924, 528734635, 1541459225]
def ks06 : Arr Int 64 := ⟨kl06, rfl⟩
def first06 : Arr Int 8 := ⟨fl06, rfl⟩
theorem consts06 : sha256_constants 200000 = some ks06 := by kernel_rfl
theorem firsts06 : sha256_First 200000 = some first06 := by kernel_rfl
def AllW (l : List Int) : Prop := ∀ x ∈ l, 0 ≤ x ∧ x < 4294967296
theorem AllW.get {l : List Int} (h : AllW l) (i : Nat) (hi : i < l.length) : 0 ≤ l[i] ∧ l[i] < 4294967296 := h _ (List.getElem_mem hi)
theorem AllW.set {l : List Int} (h : AllW l) (i : Nat) {x : Int} (hx : 0 ≤ x ∧ x < 4294967296) : AllW (l.set i x) := fun y hy => by
 rcases List.mem_or_eq_of_mem_set hy with h1 | rfl
 ·exact h y h1
 ·exact hx
theorem wfu32 {n : Int} (h : 0 ≤ n ∧ n < 4294967296) : (Lit.int .u32 n).wf = true := by
 simp only [Lit.wf, Bool.and_eq_true, decide_eq_true_eq, IntKind.min, IntKind.max, IntKind.signed, IntKind.bits]
 simp
 omega
theorem w32 (x : Int) : IntKind.wrap .u32 x = x % 4294967296 := IntKind.wrap_u32 x
theorem w32r (x : Int) : 0 ≤ IntKind.wrap .u32 x ∧ IntKind.wrap .u32 x < 4294967296 := by rw [w32]; omega
theorem not32 (b : Int) (h : 0 ≤ b ∧ b < 4294967296) : bits .xor .u32 (if IntKind.signed .u32 = true then (-1) else IntKind.max .u32) b = IntKind.wrap .u32 (4294967295 - b) := by
 obtain ⟨x, rfl⟩ := Int.eq_ofNat_of_zero_le h.1
 show IntKind.u32.wrap ((BitVec.ofInt 32 4294967295 ^^^ BitVec.ofInt 32 (x : Int)).toNat : Int) = _
 have e1 : (BitVec.ofInt 32 4294967295 : BitVec 32) = BitVec.allOnes 32 := by decide
 rw [e1, BitVec.allOnes_xor, BitVec.toNat_not, BitVec.ofInt_natCast, BitVec.toNat_ofNat, w32, w32]
 have : x % 2 ^ 32 = x := Nat.mod_eq_of_lt (by omega)
 rw [this]
 omega
theorem drop4 (l : List Int) (i : Nat) (h : i + 4 ≤ l.length) : (l.drop i).take (i + 4 - i) = [l[i], l[i + 1], l[i + 2], l[i + 3]] := by
 rw [show i + 4 - i = 4 by omega, List.drop_eq_getElem_cons (by omega), List.drop_eq_getElem_cons (by omega), List.drop_eq_getElem_cons (by omega), List.drop_eq_getElem_cons (by omega)]
 rfl
section
variable {N : Nat}
theorem gt_get (N : Nat) (b : List Int) (l : Bool) : Gt.octs_Get N b l = qOGet N b l := by
 unfold Gt.octs_Get qOGet
 cases decide (((List.length b : Nat) : Int) < 1) <;> rfl
theorem get4' (x y z u : Int) (hx : 0 ≤ x ∧ x < 256) (hy : 0 ≤ y ∧ y < 256) (hz : 0 ≤ z ∧ z < 256) (hu : 0 ≤ u ∧ u < 256) (hN : 100 ≤ N) : Gt.octs_Get 200 [x, y, z, u] false = some (((x * 256 + y) * 256 + z) * 256 + u, 0) := (gt_get _ _ _).trans (get4 x y z u hx hy hz hu (by omega))
theorem sa2 : (2 : Int) ^ min (Int.toNat (bits .and .u64 (IntKind.wrap .u64 (IntKind.wrap .i64 (0 - 2))) 31)) (IntKind.bits .u32) = 1073741824 := by decide +kernel
theorem sb2 : (2 : Int) ^ min (Int.toNat (IntKind.wrap .u64 (32 - bits .and .u64 (IntKind.wrap .u64 (IntKind.wrap .i64 (0 - 2))) 31))) (IntKind.bits .u32) = 4 := by decide +kernel
theorem ra2 : (2 : Int) ^ min (Int.toNat 2) (IntKind.bits .u32) = 4 := by decide +kernel
theorem rb2 : (2 : Int) ^ min (Int.toNat (IntKind.wrap .i64 (32 - 2))) (IntKind.bits .u32) = 1073741824 := by decide +kernel
theorem sa6 : (2 : Int) ^ min (Int.toNat (bits .and .u64 (IntKind.wrap .u64 (IntKind.wrap .i64 (0 - 6))) 31)) (IntKind.bits .u32) = 67108864 := by decide +kernel
theorem sb6 : (2 : Int) ^ min (Int.toNat (IntKind.wrap .u64 (32 - bits .and .u64 (IntKind.wrap .u64 (IntKind.wrap .i64 (0 - 6))) 31))) (IntKind.bits .u32) = 64 := by decide +kernel
theorem ra6 : (2 : Int) ^ min (Int.toNat 6) (IntKind.bits .u32) = 64 := by decide +kernel
theorem rb6 : (2 : Int) ^ min (Int.toNat (IntKind.wrap .i64 (32 - 6))) (IntKind.bits .u32) = 67108864 := by decide +kernel
theorem sa7 : (2 : Int) ^ min (Int.toNat (bits .and .u64 (IntKind.wrap .u64 (IntKind.wrap .i64 (0 - 7))) 31)) (IntKind.bits .u32) = 33554432 := by decide +kernel
theorem sb7 : (2 : Int) ^ min (Int.toNat (IntKind.wrap .u64 (32 - bits .and .u64 (IntKind.wrap .u64 (IntKind.wrap .i64 (0 - 7))) 31))) (IntKind.bits .u32) = 128 := by decide +kernel
theorem ra7 : (2 : Int) ^ min (Int.toNat 7) (IntKind.bits .u32) = 128 := by decide +kernel
theorem rb7 : (2 : Int) ^ min (Int.toNat (IntKind.wrap .i64 (32 - 7))) (IntKind.bits .u32) = 33554432 := by decide +kernel
theorem sa11 : (2 : Int) ^ min (Int.toNat (bits .and .u64 (IntKind.wrap .u64 (IntKind.wrap .i64 (0 - 11))) 31)) (IntKind.bits .u32) = 2097152 := by decide +kernel
theorem sb11 : (2 : Int) ^ min (Int.toNat (IntKind.wrap .u64 (32 - bits .and .u64 (IntKind.wrap .u64 (IntKind.wrap .i64 (0 - 11))) 31))) (IntKind.bits .u32) = 2048 := by decide +kernel
theorem ra11 : (2 : Int) ^ min (Int.toNat 11) (IntKind.bits .u32) = 2048 := by decide +kernel
theorem rb11 : (2 : Int) ^ min (Int.toNat (IntKind.wrap .i64 (32 - 11))) (IntKind.bits .u32) = 2097152 := by decide +kernel
theorem sa13 : (2 : Int) ^ min (Int.toNat (bits .and .u64 (IntKind.wrap .u64 (IntKind.wrap .i64 (0 - 13))) 31)) (IntKind.bits .u32) = 524288 := by decide +kernel
theorem sb13 : (2 : Int) ^ min (Int.toNat (IntKind.wrap .u64 (32 - bits .and .u64 (IntKind.wrap .u64 (IntKind.wrap .i64 (0 - 13))) 31))) (IntKind.bits .u32) = 8192 := by decide +kernel
theorem ra13 : (2 : Int) ^ min (Int.toNat 13) (IntKind.bits .u32) = 8192 := by decide +kernel
theorem rb13 : (2 : Int) ^ min (Int.toNat (IntKind.wrap .i64 (32 - 13))) (IntKind.bits .u32) = 524288 := by decide +kernel
theorem sa17 : (2 : Int) ^ min (Int.toNat (bits .and .u64 (IntKind.wrap .u64 (IntKind.wrap .i64 (0 - 17))) 31)) (IntKind.bits .u32) = 32768 := by decide +kernel
theorem sb17 : (2 : Int) ^ min (Int.toNat (IntKind.wrap .u64 (32 - bits .and .u64 (IntKind.wrap .u64 (IntKind.wrap .i64 (0 - 17))) 31))) (IntKind.bits .u32) = 131072 := by decide +kernel
theorem ra17 : (2 : Int) ^ min (Int.toNat 17) (IntKind.bits .u32) = 131072 := by decide +kernel
theorem rb17 : (2 : Int) ^ min (Int.toNat (IntKind.wrap .i64 (32 - 17))) (IntKind.bits .u32) = 32768 := by decide +kernel
theorem sa18 : (2 : Int) ^ min (Int.toNat (bits .and .u64 (IntKind.wrap .u64 (IntKind.wrap .i64 (0 - 18))) 31)) (IntKind.bits .u32) = 16384 := by decide +kernel
theorem sb18 : (2 : Int) ^ min (Int.toNat (IntKind.wrap .u64 (32 - bits .and .u64 (IntKind.wrap .u64 (IntKind.wrap .i64 (0 - 18))) 31))) (IntKind.bits .u32) = 262144 := by decide +kernel
theorem ra18 : (2 : Int) ^ min (Int.toNat 18) (IntKind.bits .u32) = 262144 := by decide +kernel
theorem rb18 : (2 : Int) ^ min (Int.toNat (IntKind.wrap .i64 (32 - 18))) (IntKind.bits .u32) = 16384 := by decide +kernel
theorem sa19 : (2 : Int) ^ min (Int.toNat (bits .and .u64 (IntKind.wrap .u64 (IntKind.wrap .i64 (0 - 19))) 31)) (IntKind.bits .u32) = 8192 := by decide +kernel
theorem sb19 : (2 : Int) ^ min (Int.toNat (IntKind.wrap .u64 (32 - bits .and .u64 (IntKind.wrap .u64 (IntKind.wrap .i64 (0 - 19))) 31))) (IntKind.bits .u32) = 524288 := by decide +kernel
theorem ra19 : (2 : Int) ^ min (Int.toNat 19) (IntKind.bits .u32) = 524288 := by decide +kernel
theorem rb19 : (2 : Int) ^ min (Int.toNat (IntKind.wrap .i64 (32 - 19))) (IntKind.bits .u32) = 8192 := by decide +kernel
theorem sa22 : (2 : Int) ^ min (Int.toNat (bits .and .u64 (IntKind.wrap .u64 (IntKind.wrap .i64 (0 - 22))) 31)) (IntKind.bits .u32) = 1024 := by decide +kernel
theorem sb22 : (2 : Int) ^ min (Int.toNat (IntKind.wrap .u64 (32 - bits .and .u64 (IntKind.wrap .u64 (IntKind.wrap .i64 (0 - 22))) 31))) (IntKind.bits .u32) = 4194304 := by decide +kernel
theorem ra22 : (2 : Int) ^ min (Int.toNat 22) (IntKind.bits .u32) = 4194304 := by decide +kernel
theorem rb22 : (2 : Int) ^ min (Int.toNat (IntKind.wrap .i64 (32 - 22))) (IntKind.bits .u32) = 1024 := by decide +kernel
theorem sa25 : (2 : Int) ^ min (Int.toNat (bits .and .u64 (IntKind.wrap .u64 (IntKind.wrap .i64 (0 - 25))) 31)) (IntKind.bits .u32) = 128 := by decide +kernel
theorem sb25 : (2 : Int) ^ min (Int.toNat (IntKind.wrap .u64 (32 - bits .and .u64 (IntKind.wrap .u64 (IntKind.wrap .i64 (0 - 25))) 31))) (IntKind.bits .u32) = 33554432 := by decide +kernel
theorem ra25 : (2 : Int) ^ min (Int.toNat 25) (IntKind.bits .u32) = 33554432 := by decide +kernel
theorem rb25 : (2 : Int) ^ min (Int.toNat (IntKind.wrap .i64 (32 - 25))) (IntKind.bits .u32) = 128 := by decide +kernel
theorem ra3 : (2 : Int) ^ min (Int.toNat 3) (IntKind.bits .u32) = 8 := by decide +kernel
theorem ra10 : (2 : Int) ^ min (Int.toNat 10) (IntKind.bits .u32) = 1024 := by decide +kernel
theorem orc (v A B : Int) : bits .or .u32 (Int.fdiv v A) (IntKind.wrap .u32 (v * B)) = bits .or .u32 (IntKind.wrap .u32 (v * B)) (Int.fdiv v A) := by
 unfold bits
 simp only [BitVec.or_comm]
theorem wordsA (hN : 10000 ≤ N) (b : Arr Int 64) (hb : AllB b.l) (s : Arr Int 8) (h0 : Arr Int 64) (h0' : Arr Int 8) : ∀ (k M i : Nat) (h1 : Arr Int 64), k + i = 16 → k < M → AllW h1.l →
  ∃ h2 : Arr Int 64, AllW h2.l ∧ gl (fun X c => sha256_words_L3 N X c.1.1 c.1.2.1 c.2.1 c.2.2.1) M ((b, ((i : Int), ())), (h0, (h1, ()))) = some ((), (h0, (h2, ()))) ∧
   ∀ K, gl (fun X c => ref06_Block_L3 N X c.1.1 c.1.2.1 c.1.2.2.1 c.2.1 c.2.2.1) (K + k) ((s, (b, ((i : Int), ()))), (h0', (h1, ()))) = gl (fun X c => ref06_Block_L3 N X c.1.1 c.1.2.1 c.1.2.2.1 c.2.1 c.2.2.1) K ((s, (b, ((16 : Int), ()))), (h0', (h2, ())))
 | 0, M + 1, i, h1, hk, hM, hw => by
  have hi : i = 16 := by omega
  subst hi
  refine ⟨h1, hw, ?_, fun K => rfl⟩
  rw [gl_succ]
  rfl
 | k + 1, M + 1, i, h1, hk, hM, hw => by
  have hl := h1.h
  have hbl := b.h
  have c0 : ((i : Int) < 64) := by omega
  have c3 : ((i : Int) < 16) := by omega
  have c2 : (0 : Int) ≤ (i : Int) ∧ (i : Int) < ((64 : Nat) : Int) := by omega
  have e0 : IntKind.wrap .i64 ((i : Int) + 1) = ((i + 1 : Nat) : Int) := by rw [wrap64 (by omega) (by omega)]; omega
  have e1 : Int.toNat (i : Int) = i := Int.toNat_natCast i
  have g1 : h1.l[i]? = some (h1.l[i]'(by omega)) := List.getElem?_eq_getElem _
  have s1 : IntKind.wrap .i64 ((4 : Int) * (i : Int)) = ((4 * i : Nat) : Int) := by rw [wrap64 (by omega) (by omega)]; omega
  have s2 : IntKind.wrap .i64 (((4 * i : Nat) : Int) + 4) = ((4 * i + 4 : Nat) : Int) := by rw [wrap64 (by omega) (by omega)]; omega
  have s3 : IntKind.wrap .i64 (((4 * i : Nat) : Int) + 1) = ((4 * i + 1 : Nat) : Int) := by rw [wrap64 (by omega) (by omega)]; omega
  have s4 : IntKind.wrap .i64 (((4 * i : Nat) : Int) + 2) = ((4 * i + 2 : Nat) : Int) := by rw [wrap64 (by omega) (by omega)]; omega
  have s5 : IntKind.wrap .i64 (((4 * i : Nat) : Int) + 3) = ((4 * i + 3 : Nat) : Int) := by rw [wrap64 (by omega) (by omega)]; omega
  have s6 : subI b.l ((4 * i : Nat) : Int) ((4 * i + 4 : Nat) : Int) = some [b.l[4 * i]'(by omega), b.l[4 * i + 1]'(by omega), b.l[4 * i + 2]'(by omega), b.l[4 * i + 3]'(by omega)] := by
   rw [subI_nat b.l rfl rfl (by omega) (by omega), drop4 b.l (4 * i) (by omega)]
  have ba := hb.get (4 * i) (by omega)
  have bb := hb.get (4 * i + 1) (by omega)
  have bc := hb.get (4 * i + 2) (by omega)
  have bd := hb.get (4 * i + 3) (by omega)
  have s7 := get4' (N := N) _ _ _ _ ba bb bc bd (by omega)
  have G0 := getI_lt b.l (4 * i) (by omega)
  have G1 := getI_lt b.l (4 * i + 1) (by omega)
  have G2 := getI_lt b.l (4 * i + 2) (by omega)
  have G3 := getI_lt b.l (4 * i + 3) (by omega)
  generalize hx : b.l[4 * i]'(by omega) = x at *
  generalize hy : b.l[4 * i + 1]'(by omega) = y at *
  generalize hz : b.l[4 * i + 2]'(by omega) = z at *
  generalize hu : b.l[4 * i + 3]'(by omega) = u at *
  have v1 : IntKind.wrap .u32 (((x * 256 + y) * 256 + z) * 256 + u) = ((x * 256 + y) * 256 + z) * 256 + u := by rw [w32]; omega
  have v2 : IntKind.wrap .u32 (IntKind.wrap .u32 (IntKind.wrap .u32 (IntKind.wrap .u32 (IntKind.wrap .u32 x * 16777216) + IntKind.wrap .u32 (IntKind.wrap .u32 y * 65536)) + IntKind.wrap .u32 (IntKind.wrap .u32 z * 256)) + IntKind.wrap .u32 u) = ((x * 256 + y) * 256 + z) * 256 + u := by
   simp only [w32]; omega
  obtain ⟨h2, r1, r2, r3⟩ := wordsA hN b hb s h0 h0' k M (i + 1) (h1.set i (((x * 256 + y) * 256 + z) * 256 + u)) (by omega) (by omega) (hw.set i (by omega))
  refine ⟨h2, r1, ?_, fun K => ?_⟩
  ·rw [gl_succ]
   simp only [sha256_words_L3, c3, decide_true, cond_true, s1, s2, s6, Option.bind_some, s7, c2, and_self, e1, g1, e0, v1]
   exact r2
  ·rw [show K + (k + 1) = (K + k) + 1 from rfl, gl_succ]
   simp only [ref06_Block_L3, c0, c3, decide_true, cond_true, s1, s3, s4, s5, G0, G1, G2, G3, Option.bind_some, c2, and_self, e1, g1, e0, v2]
   exact r3 K
theorem wordsB (hN : 10000 ≤ N) (b : Arr Int 64) (s : Arr Int 8) (h0 : Arr Int 64) (h0' : Arr Int 8) : ∀ (k M M' i : Nat) (h1 : Arr Int 64), k + i = 64 → 16 ≤ i → k < M → k < M' → AllW h1.l →
  ∃ h2 : Arr Int 64, AllW h2.l ∧ gl (fun X c => sha256_words_L9 N X c.1.1 c.2.1 c.2.2.1) M (((i : Int), ()), (h0, (h1, ()))) = some ((), (h0, (h2, ()))) ∧
   gl (fun X c => ref06_Block_L3 N X c.1.1 c.1.2.1 c.1.2.2.1 c.2.1 c.2.2.1) M' ((s, (b, ((i : Int), ()))), (h0', (h1, ()))) = some ((s, ()), (h0', (h2, ())))
 | 0, M + 1, M' + 1, i, h1, hk, h16, hM, hM', hw => by
  have hi : i = 64 := by omega
  subst hi
  refine ⟨h1, hw, ?_, ?_⟩
  ·rw [gl_succ]; rfl
  ·rw [gl_succ]; rfl
 | k + 1, M + 1, M' + 1, i, h1, hk, h16, hM, hM', hw => by
  have hl := h1.h
  have c0 : ((i : Int) < 64) := by omega
  have c3 : ¬ ((i : Int) < 16) := by omega
  have c2 : (0 : Int) ≤ (i : Int) ∧ (i : Int) < ((64 : Nat) : Int) := by omega
  have e0 : IntKind.wrap .i64 ((i : Int) + 1) = ((i + 1 : Nat) : Int) := by rw [wrap64 (by omega) (by omega)]; omega
  have e1 : Int.toNat (i : Int) = i := Int.toNat_natCast i
  have g1 : h1.l[i]? = some (h1.l[i]'(by omega)) := List.getElem?_eq_getElem _
  have t1 : IntKind.wrap .i64 ((i : Int) - 16) = ((i - 16 : Nat) : Int) := by rw [wrap64 (by omega) (by omega)]; omega
  have d1 : (0 : Int) ≤ ((i - 16 : Nat) : Int) ∧ ((i - 16 : Nat) : Int) < ((64 : Nat) : Int) := by omega
  have f1 : Int.toNat ((i - 16 : Nat) : Int) = i - 16 := Int.toNat_natCast _
  have g2 : h1.l[i - 16]? = some (h1.l[i - 16]'(by omega)) := List.getElem?_eq_getElem _
  have t2 : IntKind.wrap .i64 ((i : Int) - 7) = ((i - 7 : Nat) : Int) := by rw [wrap64 (by omega) (by omega)]; omega
  have d2 : (0 : Int) ≤ ((i - 7 : Nat) : Int) ∧ ((i - 7 : Nat) : Int) < ((64 : Nat) : Int) := by omega
  have f2 : Int.toNat ((i - 7 : Nat) : Int) = i - 7 := Int.toNat_natCast _
  have g3 : h1.l[i - 7]? = some (h1.l[i - 7]'(by omega)) := List.getElem?_eq_getElem _
  have t3 : IntKind.wrap .i64 ((i : Int) - 15) = ((i - 15 : Nat) : Int) := by rw [wrap64 (by omega) (by omega)]; omega
  have d3 : (0 : Int) ≤ ((i - 15 : Nat) : Int) ∧ ((i - 15 : Nat) : Int) < ((64 : Nat) : Int) := by omega
  have f3 : Int.toNat ((i - 15 : Nat) : Int) = i - 15 := Int.toNat_natCast _
  have g4 : h1.l[i - 15]? = some (h1.l[i - 15]'(by omega)) := List.getElem?_eq_getElem _
  have t4 : IntKind.wrap .i64 ((i : Int) - 2) = ((i - 2 : Nat) : Int) := by rw [wrap64 (by omega) (by omega)]; omega
  have d4 : (0 : Int) ≤ ((i - 2 : Nat) : Int) ∧ ((i - 2 : Nat) : Int) < ((64 : Nat) : Int) := by omega
  have f4 : Int.toNat ((i - 2 : Nat) : Int) = i - 2 := Int.toNat_natCast _
  have g5 : h1.l[i - 2]? = some (h1.l[i - 2]'(by omega)) := List.getElem?_eq_getElem _
  generalize h1.l[i - 16]'(by omega) = x at *
  generalize h1.l[i - 7]'(by omega) = y at *
  generalize h1.l[i - 15]'(by omega) = z at *
  generalize h1.l[i - 2]'(by omega) = u at *
  obtain ⟨h2, r1, r2, r3⟩ := wordsB hN b s h0 h0' k M M' (i + 1) (h1.set i (IntKind.wrap .u32 (IntKind.wrap .u32 (IntKind.wrap .u32 (x + y) + bits .xor .u32 (bits .xor .u32 (bits .or .u32 (IntKind.wrap .u32 (z * 33554432)) (Int.fdiv z 128)) (bits .or .u32 (IntKind.wrap .u32 (z * 16384)) (Int.fdiv z 262144))) (Int.fdiv z 8)) + bits .xor .u32 (bits .xor .u32 (bits .or .u32 (IntKind.wrap .u32 (u * 32768)) (Int.fdiv u 131072)) (bits .or .u32 (IntKind.wrap .u32 (u * 8192)) (Int.fdiv u 524288))) (Int.fdiv u 1024)))) (by omega) (by omega) (by omega) (by omega) (hw.set i (w32r _))
  refine ⟨h2, r1, ?_, ?_⟩
  ·rw [gl_succ]
   show sha256_words_L9 N (gl (fun X c => sha256_words_L9 N X c.1.1 c.2.1 c.2.2.1) M) (i : Int) h0 h1 = _
   generalize gl (fun X c => sha256_words_L9 N X c.1.1 c.2.1 c.2.2.1) M = X at r2 ⊢
   simp only [sha256_words_L9, c0, decide_true, cond_true, t1, t2, t3, t4, d1, d2, d3, d4, f1, f2, f3, f4, g2, g3, g4, g5, Option.bind_some, c2, and_self, e1, g1, e0, sa7, sb7, sa18, sb18, sa17, sb17, sa19, sb19, ra3, ra10]
   exact r2
  ·rw [gl_succ]
   show ref06_Block_L3 N (gl (fun X c => ref06_Block_L3 N X c.1.1 c.1.2.1 c.1.2.2.1 c.2.1 c.2.2.1) M') s b (i : Int) h0' h1 = _
   generalize gl (fun X c => ref06_Block_L3 N X c.1.1 c.1.2.1 c.1.2.2.1 c.2.1 c.2.2.1) M' = X at r3 ⊢
   simp only [ref06_Block_L3, c0, c3, decide_true, decide_false, cond_true, cond_false, t1, t2, t3, t4, d1, d2, d3, d4, f1, f2, f3, f4, g2, g3, g4, g5, Option.bind_some, c2, and_self, e1, g1, e0, ra7, rb7, ra18, rb18, ra17, rb17, ra19, rb19, ra3, ra10, orc]
   exact r3
end
section
variable {N : Nat}
theorem steps_pair (hN : 10000 ≤ N) (W : Arr Int 64) (hW : AllW W.l) (s h0 h0' : Arr Int 8) : ∀ (k M i : Nat) (t : Arr Int 8), k + i = 64 → k < M → AllW t.l →
  ∃ t2 : Arr Int 8, AllW t2.l ∧ gl (fun X c => sha256_behind_L4 N X c.1.1 c.1.2.1 c.1.2.2.1 c.2.1 c.2.2.1 c.2.2.2.1) M ((s, (ks06, ((i : Int), ()))), (h0, (W, (t, ())))) = some ((s, ()), (h0, (t2, ()))) ∧
   gl (fun X c => ref06_Block_L11 N X c.1.1 c.1.2.1 c.1.2.2.1 c.2.1 c.2.2.1 c.2.2.2.1) M ((s, (kl06, ((i : Int), ()))), (h0', (W, (t, ())))) = some ((s, ()), (h0', (t2, ())))
 | 0, M + 1, i, t, hk, hM, hw => by
  have hi : i = 64 := by omega
  subst hi
  refine ⟨t, hw, ?_, ?_⟩
  ·rw [gl_succ]; rfl
  ·rw [gl_succ]; rfl
 | k + 1, M + 1, i, t, hk, hM, hw => by
  have hWl := W.h
  have c1 : ((i : Int) < 64) := by omega
  have c2 : (0 : Int) ≤ (i : Int) ∧ (i : Int) < ((64 : Nat) : Int) := by omega
  have e0 : IntKind.wrap .i64 ((i : Int) + 1) = ((i + 1 : Nat) : Int) := by rw [wrap64 (by omega) (by omega)]; omega
  have e1 : Int.toNat (i : Int) = i := Int.toNat_natCast i
  have g1 : W.l[i]? = some (W.l[i]'(by omega)) := List.getElem?_eq_getElem _
  have hWi := hW.get i (by omega)
  have hkl : kl06.length = 64 := rfl
  have k1 : getI ks06.l (i : Int) = some (kl06[i]'(by omega)) := getI_lt kl06 i (by omega)
  have k2 : getI kl06 (i : Int) = some (kl06[i]'(by omega)) := getI_lt kl06 i (by omega)
  generalize W.l[i]'(by omega) = wi at *
  generalize kl06[i]'(by omega) = ki at *
  match t, hw with
  | ⟨[a, b, c, d, e, f, g, h], ht⟩, hw =>
   have ra := hw a (by simp)
   have rb := hw b (by simp)
   have rc := hw c (by simp)
   have re := hw e (by simp)
   have rf := hw f (by simp)
   have rg := hw g (by simp)
   have nt := not32 e re
   have z0 : ([a, b, c, d, e, f, g, h] : List Int)[Int.toNat 0]? = some a := rfl
   have y0 : getI ([a, b, c, d, e, f, g, h] : List Int) 0 = some a := rfl
   have z1 : ([a, b, c, d, e, f, g, h] : List Int)[Int.toNat 1]? = some b := rfl
   have y1 : getI ([a, b, c, d, e, f, g, h] : List Int) 1 = some b := rfl
   have z2 : ([a, b, c, d, e, f, g, h] : List Int)[Int.toNat 2]? = some c := rfl
   have y2 : getI ([a, b, c, d, e, f, g, h] : List Int) 2 = some c := rfl
   have z3 : ([a, b, c, d, e, f, g, h] : List Int)[Int.toNat 3]? = some d := rfl
   have y3 : getI ([a, b, c, d, e, f, g, h] : List Int) 3 = some d := rfl
   have z4 : ([a, b, c, d, e, f, g, h] : List Int)[Int.toNat 4]? = some e := rfl
   have y4 : getI ([a, b, c, d, e, f, g, h] : List Int) 4 = some e := rfl
   have z5 : ([a, b, c, d, e, f, g, h] : List Int)[Int.toNat 5]? = some f := rfl
   have y5 : getI ([a, b, c, d, e, f, g, h] : List Int) 5 = some f := rfl
   have z6 : ([a, b, c, d, e, f, g, h] : List Int)[Int.toNat 6]? = some g := rfl
   have y6 : getI ([a, b, c, d, e, f, g, h] : List Int) 6 = some g := rfl
   have z7 : ([a, b, c, d, e, f, g, h] : List Int)[Int.toNat 7]? = some h := rfl
   have y7 : getI ([a, b, c, d, e, f, g, h] : List Int) 7 = some h := rfl
   have x1 : ∀ r : Int, IntKind.wrap .u32 (r + IntKind.wrap .u32 (ki + wi)) = IntKind.wrap .u32 (IntKind.wrap .u32 (r + ki) + wi) := fun r => by simp only [w32]; omega
   obtain ⟨t2, r1, r2, r3⟩ := steps_pair hN W hW s h0 h0' k M (i + 1) (Arr.cons (IntKind.wrap .u32 (IntKind.wrap .u32 (IntKind.wrap .u32 (IntKind.wrap .u32 (IntKind.wrap .u32 (h + (bits .xor .u32 (bits .xor .u32 (bits .or .u32 (IntKind.wrap .u32 (e * 67108864)) (Int.fdiv e 64)) (bits .or .u32 (IntKind.wrap .u32 (e * 2097152)) (Int.fdiv e 2048))) (bits .or .u32 (IntKind.wrap .u32 (e * 128)) (Int.fdiv e 33554432)))) + (bits .or .u32 (bits .and .u32 e f) (bits .and .u32 (IntKind.wrap .u32 (4294967295 - e)) g))) + ki) + wi) + IntKind.wrap .u32 ((bits .xor .u32 (bits .xor .u32 (bits .or .u32 (IntKind.wrap .u32 (a * 1073741824)) (Int.fdiv a 4)) (bits .or .u32 (IntKind.wrap .u32 (a * 524288)) (Int.fdiv a 8192))) (bits .or .u32 (IntKind.wrap .u32 (a * 1024)) (Int.fdiv a 4194304))) + (bits .or .u32 (bits .or .u32 (bits .and .u32 a b) (bits .and .u32 a c)) (bits .and .u32 b c))))) (Arr.cons a (Arr.cons b (Arr.cons c (Arr.cons (IntKind.wrap .u32 (d + IntKind.wrap .u32 (IntKind.wrap .u32 (IntKind.wrap .u32 (IntKind.wrap .u32 (h + (bits .xor .u32 (bits .xor .u32 (bits .or .u32 (IntKind.wrap .u32 (e * 67108864)) (Int.fdiv e 64)) (bits .or .u32 (IntKind.wrap .u32 (e * 2097152)) (Int.fdiv e 2048))) (bits .or .u32 (IntKind.wrap .u32 (e * 128)) (Int.fdiv e 33554432)))) + (bits .or .u32 (bits .and .u32 e f) (bits .and .u32 (IntKind.wrap .u32 (4294967295 - e)) g))) + ki) + wi))) (Arr.cons e (Arr.cons f (Arr.cons g Arr.nil)))))))) (by omega) (by omega) (fun x hx => by
    simp only [Arr.cons, Arr.nil, List.mem_cons, List.not_mem_nil, or_false] at hx
    rcases hx with rfl | rfl | rfl | rfl | rfl | rfl | rfl | rfl
    ·exact w32r _
    ·exact ra
    ·exact rb
    ·exact rc
    ·exact w32r _
    ·exact re
    ·exact rf
    ·exact rg)
   refine ⟨t2, r1, ?_, ?_⟩
   ·rw [gl_succ]
    show sha256_behind_L4 N (gl (fun X c => sha256_behind_L4 N X c.1.1 c.1.2.1 c.1.2.2.1 c.2.1 c.2.2.1 c.2.2.2.1) M) s ks06 (i : Int) h0 W ⟨[a, b, c, d, e, f, g, h], ht⟩ = _
    generalize gl (fun X c => sha256_behind_L4 N X c.1.1 c.1.2.1 c.1.2.2.1 c.2.1 c.2.2.1 c.2.2.2.1) M = X at r2 ⊢
    simp only [sha256_behind_L4, sha256_step, c1, decide_true, cond_true, k1, y0, y1, y2, y3, y4, y5, y6, y7, Option.bind_some, c2, and_self, e1, g1, e0, nt, sa6, sb6, sa11, sb11, sa25, sb25, sa2, sb2, sa13, sb13, sa22, sb22, x1]
    exact r2
   ·rw [gl_succ]
    show ref06_Block_L11 N (gl (fun X c => ref06_Block_L11 N X c.1.1 c.1.2.1 c.1.2.2.1 c.2.1 c.2.2.1 c.2.2.2.1) M) s kl06 (i : Int) h0' W ⟨[a, b, c, d, e, f, g, h], ht⟩ = _
    generalize gl (fun X c => ref06_Block_L11 N X c.1.1 c.1.2.1 c.1.2.2.1 c.2.1 c.2.2.1 c.2.2.2.1) M = X at r3 ⊢
    simp only [ref06_Block_L11, c1, decide_true, cond_true, k2, z0, z1, z2, z3, z4, z5, z6, z7, Option.bind_some, c2, and_self, e1, g1, e0, ra6, rb6, ra11, rb11, ra25, rb25, ra2, rb2, ra13, rb13, ra22, rb22, orc]
    exact r3
theorem add_pair (hN : 10000 ≤ N) (s h0 : Arr Int 8) (hs : AllW s.l) : ∀ (k M i : Nat) (t : Arr Int 8), k + i = 8 → k < M → AllW t.l →
  ∃ t2 : Arr Int 8, AllW t2.l ∧ gl (fun X c => sha256_behind_L9 N X c.1.1 c.1.2.1 c.2.1 c.2.2.1) M ((s, ((i : Int), ())), (h0, (t, ()))) = some ((), (h0, (t2, ()))) ∧ (gl (fun X c => ref06_Block_L17 N X c.1.1 c.1.2.1 c.2.1 c.2.2.1) M ((s, ((i : Int), ())), (h0, (t, ()))) = some ((), (h0, (t2, ()))))
 | 0, M + 1, i, t, hk, hM, hw => by
  have c1 : ¬ ((i : Int) < 8) := by omega
  refine ⟨t, hw, ?_, ?_⟩
  ·simp only [gl, sha256_behind_L9, c1, decide_false, cond_false]
  ·simp only [gl, ref06_Block_L17, c1, decide_false, cond_false]
 | k + 1, M + 1, i, t, hk, hM, hw => by
  have hl := t.h
  have hsl := s.h
  have c1 : ((i : Int) < 8) := by omega
  have c2 : (0 : Int) ≤ (i : Int) ∧ (i : Int) < ((8 : Nat) : Int) := by omega
  have e0 : IntKind.wrap .i64 ((i : Int) + 1) = ((i + 1 : Nat) : Int) := by rw [wrap64 (by omega) (by omega)]; omega
  have e1 : Int.toNat (i : Int) = i := Int.toNat_natCast i
  have g1 : t.l[i]? = some (t.l[i]'(by omega)) := List.getElem?_eq_getElem _
  have g2 := getI_lt s.l i (by omega)
  obtain ⟨t2, r1, r2, r3⟩ := add_pair hN s h0 hs k M (i + 1) (t.set i (IntKind.wrap .u32 (t.l[i]'(by omega) + s.l[i]'(by omega)))) (by omega) (by omega) (hw.set i (w32r _))
  refine ⟨t2, r1, ?_, ?_⟩
  ·rw [gl_succ]
   simp only [sha256_behind_L9, c1, decide_true, cond_true, c2, and_self, e1, g1, g2, e0, Option.bind_some]
   exact r2
  ·rw [gl_succ]
   simp only [ref06_Block_L17, c1, decide_true, cond_true, c2, and_self, e1, g1, g2, e0, Option.bind_some]
   exact r3
theorem behind_pair (hN : 10000 ≤ N) (s : Arr Int 8) (b : Arr Int 64) (hs : AllW s.l) (hb : AllB b.l) : ∃ t : Arr Int 8, AllW t.l ∧ sha256_behind N s b ks06 = some t ∧ ref06_Block N s b = some t := by
 have hz : AllW (List.replicate 64 (0 : Int)) := fun x hx => by rw [(List.mem_replicate.1 hx).2]; omega
 obtain ⟨V, v1, v2, v3⟩ := wordsA (N := N) hN b hb s ⟨List.replicate 64 0, rfl⟩ ⟨List.replicate 8 0, rfl⟩ 16 N 0 ⟨List.replicate 64 0, rfl⟩ (by omega) (by omega) hz
 obtain ⟨W, w1, w2, w3⟩ := wordsB (N := N) hN b s ⟨List.replicate 64 0, rfl⟩ ⟨List.replicate 8 0, rfl⟩ 48 N (N - 16) 16 V (by omega) (by omega) (by omega) (by omega) v1
 have v3' := (v3 (N - 16)).trans w3
 rw [show N - 16 + 16 = N by omega] at v3'
 unfold sha256_behind sha256_words ref06_Block
 have v2' : sha256_words_L3_R N ((b, ((0 : Int), ())), ((⟨List.replicate 64 0, rfl⟩ : Arr Int 64), ((⟨List.replicate 64 0, rfl⟩ : Arr Int 64), ()))) = some ((), ((⟨List.replicate 64 0, rfl⟩ : Arr Int 64), (V, ()))) := v2
 have w2' : sha256_words_L9_R N (((16 : Int), ()), ((⟨List.replicate 64 0, rfl⟩ : Arr Int 64), (V, ()))) = some ((), ((⟨List.replicate 64 0, rfl⟩ : Arr Int 64), (W, ()))) := w2
 have w3' : ref06_Block_L3_R N ((s, (b, ((0 : Int), ()))), ((⟨List.replicate 8 0, rfl⟩ : Arr Int 8), ((⟨List.replicate 64 0, rfl⟩ : Arr Int 64), ()))) = some ((s, ()), ((⟨List.replicate 8 0, rfl⟩ : Arr Int 8), (W, ()))) := v3'
 obtain ⟨t, t1, t2, t3⟩ := steps_pair (N := N) hN W w1 s ⟨List.replicate 8 0, rfl⟩ ⟨List.replicate 8 0, rfl⟩ 64 N 0 s (by omega) (by omega) hs
 have t2' : sha256_behind_L4_R N ((s, (ks06, ((0 : Int), ()))), ((⟨List.replicate 8 0, rfl⟩ : Arr Int 8), (W, (s, ())))) = some ((s, ()), ((⟨List.replicate 8 0, rfl⟩ : Arr Int 8), (t, ()))) := t2
 have t3' : ref06_Block_L11_R N ((s, (kl06, ((0 : Int), ()))), ((⟨List.replicate 8 0, rfl⟩ : Arr Int 8), (W, (s, ())))) = some ((s, ()), ((⟨List.replicate 8 0, rfl⟩ : Arr Int 8), (t, ()))) := t3
 obtain ⟨u, u1, u2, u3⟩ := add_pair (N := N) hN s ⟨List.replicate 8 0, rfl⟩ hs 8 N 0 t (by omega) (by omega) t1
 have u2' : sha256_behind_L9_R N ((s, ((0 : Int), ())), ((⟨List.replicate 8 0, rfl⟩ : Arr Int 8), (t, ()))) = some ((), ((⟨List.replicate 8 0, rfl⟩ : Arr Int 8), (u, ()))) := u2
 have u3' : ref06_Block_L17_R N ((s, ((0 : Int), ())), ((⟨List.replicate 8 0, rfl⟩ : Arr Int 8), (t, ()))) = some ((), ((⟨List.replicate 8 0, rfl⟩ : Arr Int 8), (u, ()))) := u3
 refine ⟨u, u1, ?_, ?_⟩
 ·refine (congrArg (fun o => Option.bind (Option.bind o _) _) v2').trans ?_
  simp only [Option.bind_some]
  refine (congrArg (fun o => Option.bind (Option.bind o _) _) w2').trans ?_
  simp only [Option.bind_some]
  refine (congrArg (fun o => Option.bind o _) t2').trans ?_
  simp only [Option.bind_some]
  refine (congrArg (fun o => Option.bind o _) u2').trans ?_
  rfl
 ·refine (congrArg (fun o => Option.bind o _) w3').trans ?_
  simp only [Option.bind_some]
  refine (congrArg (fun o => Option.bind o _) t3').trans ?_
  simp only [Option.bind_some]
  refine (congrArg (fun o => Option.bind o _) u3').trans ?_
  rfl
end
def by8 (n : Int) : List Int := [n / 72057594037927936 % 256, n / 281474976710656 % 256, n / 1099511627776 % 256, n / 4294967296 % 256, n / 16777216 % 256, n / 65536 % 256, n / 256 % 256, n % 256]
theorem by8_B (n : Int) : AllB (by8 n) := fun x hx => by
 simp only [by8, List.mem_cons, List.not_mem_nil, or_false] at hx
 rcases hx with rfl | rfl | rfl | rfl | rfl | rfl | rfl | rfl <;> omega
section
variable {N : Nat}
theorem put8 (n : Int) (h : 0 ≤ n ∧ n < 18446744073709551616) (hN : 100 ≤ N) : octs_Put N n 8 false = some (by8 n, 0) := by
 obtain ⟨M, rfl⟩ : ∃ M, N = M + 9 := ⟨N - 9, by omega⟩
 have r1 : roomB (Int.toNat 8) 1 = true := by decide
 have r2 : List.replicate (Int.toNat 8) (0 : Int) = [0, 0, 0, 0, 0, 0, 0, 0] := rfl
 have w1 : IntKind.wrap .i64 ((8 : Int) - 1) = 7 := by decide
 have v0 : IntKind.wrap .i64 ((7 : Int) - 0) = 7 := by decide
 have v1 : IntKind.wrap .i64 ((7 : Int) - 1) = 6 := by decide
 have v2 : IntKind.wrap .i64 ((7 : Int) - 2) = 5 := by decide
 have v3 : IntKind.wrap .i64 ((7 : Int) - 3) = 4 := by decide
 have v4 : IntKind.wrap .i64 ((7 : Int) - 4) = 3 := by decide
 have v5 : IntKind.wrap .i64 ((7 : Int) - 5) = 2 := by decide
 have v6 : IntKind.wrap .i64 ((7 : Int) - 6) = 1 := by decide
 have v7 : IntKind.wrap .i64 ((7 : Int) - 7) = 0 := by decide
 have w3 : IntKind.wrap .i64 ((0 : Int) + 1) = 1 := by decide
 have w4 : IntKind.wrap .i64 ((1 : Int) + 1) = 2 := by decide
 have w5 : IntKind.wrap .i64 ((2 : Int) + 1) = 3 := by decide
 have w6 : IntKind.wrap .i64 ((3 : Int) + 1) = 4 := by decide
 have w7 : IntKind.wrap .i64 ((4 : Int) + 1) = 5 := by decide
 have w8 : IntKind.wrap .i64 ((5 : Int) + 1) = 6 := by decide
 have w9 : IntKind.wrap .i64 ((6 : Int) + 1) = 7 := by decide
 have w10 : IntKind.wrap .i64 ((7 : Int) + 1) = 8 := by decide
 have e1 : (2 : Int) ^ min (Int.toNat 8) (IntKind.bits IntKind.u64) = 256 := by decide
 have fd : ∀ x : Int, Int.fdiv x 256 = x / 256 := fun x => Int.fdiv_eq_ediv_of_nonneg _ (by decide)
 have d2 : n / 256 / 256 = n / 65536 := by omega
 have d3 : n / 65536 / 256 = n / 16777216 := by omega
 have d4 : n / 16777216 / 256 = n / 4294967296 := by omega
 have d5 : n / 4294967296 / 256 = n / 1099511627776 := by omega
 have d6 : n / 1099511627776 / 256 = n / 281474976710656 := by omega
 have d7 : n / 281474976710656 / 256 = n / 72057594037927936 := by omega
 have u8 : ∀ x : Int, IntKind.wrap .u8 x = x % 256 := fun x => by rw [IntKind.wrap_u8]
 simp only [octs_Put, octs_Put_L5_R, gl, octs_Put_L5, octs_place, r1, r2, e1, cond_false, Option.bind_some, w1, v0, v1, v2, v3, v4, v5, v6, v7, w3, w4, w5, w6, w7, w8, w9, w10]
 simp [w1, v0, v1, v2, v3, v4, v5, v6, v7, w3, w4, w5, w6, w7, w8, w9, w10, fd, d2, d3, d4, d5, d6, d7, u8, by8]
def nz (n : Int) : Nat := ((119 - n % 64) % 64).toNat
def tail5 (n : Int) : List Int := [128] ++ List.replicate (nz n) 0 ++ by8 (8 * n % 18446744073709551616)
theorem nz_lt (n : Int) : nz n < 64 := by unfold nz; omega
theorem tail5_len (n : Int) : (tail5 n).length = nz n + 9 := by simp [tail5, by8]
theorem tail5_B (n : Int) : AllB (tail5 n) := by
 refine AllB.append (AllB.append (AllB.cons (by omega) AllB.nil) fun x hx => ?_) (by8_B _)
 rw [(List.mem_replicate.1 hx).2]; omega
theorem sha256_tail_ok (n : Int) (h : 0 ≤ n ∧ n < 18446744073709551616) (hN : 10000 ≤ N) : sha256_Tail N n = some (tail5 n) := by
 unfold sha256_Tail
 have hw : IntKind.wrap .u64 ((8 : Int) * n) = 8 * n % 18446744073709551616 := by rw [IntKind.wrap_u64]
 have hz : Int.tmod (IntKind.wrap .u64 ((119 : Int) - Int.tmod n 64)) 64 = ((nz n : Nat) : Int) := by
  have hm : Int.tmod n 64 = n % 64 := Int.tmod_eq_emod_of_nonneg h.1
  rw [hm, wrapU64 (by omega) (by omega), Int.tmod_eq_emod_of_nonneg (by omega)]
  unfold nz
  omega
 have hl := nz_lt n
 have c1 : ((decide ((0 : Int) ≤ ((nz n : Nat) : Int) ∧ ((nz n : Nat) : Int) ≤ ((nz n : Nat) : Int))) && roomB (nz n) 1) = true := by
  have : roomB (nz n) 1 = true := roomB_of (by have := big_len; omega) (by omega)
  simp [this]
 rw [hw, put8 _ (by omega) (by omega), hz]
 simp only [Option.bind_some, c1, cond_true, Int.toNat_natCast]
 refine (join_ok (N := N) [[128], List.replicate (nz n) 0, by8 (8 * n % 18446744073709551616)] (by simp) ?_ ?_).trans ?_
 all_goals first | omega | skip
 ·simp [by8]; omega
 ·simp [tail5]
theorem zeros_ok (n : Int) (h : 0 ≤ n ∧ n < 18446744073709551616) : ∀ (k M : Nat) (l : List Int), k < M → l.length + k < 1000 → (n + l.length + k) % 64 = 56 → k < 64 →
  gl (fun X c => ref04_Tail_L2 N X c.1.1 c.2.1) M ((n, ()), (l, ())) = some ((n, ()), (l ++ List.replicate k 0, ()))
 | 0, M + 1, l, hM, hl, hk, _ => by
  have e : Int.tmod (IntKind.wrap .u64 (n + IntKind.wrap .u64 (l.length : Int))) 64 = 56 := by
   rw [wrapU64 (x := (l.length : Int)) (by omega) (by omega), IntKind.wrap_u64, Int.tmod_eq_emod_of_nonneg (by omega)]; omega
  rw [gl_succ]
  simp only [ref04_Tail_L2, e, decide_true, Bool.not_true, cond_false, List.replicate_zero, List.append_nil]
 | k + 1, M + 1, l, hM, hl, hk, h64 => by
  have e : ¬ Int.tmod (IntKind.wrap .u64 (n + IntKind.wrap .u64 (l.length : Int))) 64 = 56 := by
   rw [wrapU64 (x := (l.length : Int)) (by omega) (by omega), IntKind.wrap_u64, Int.tmod_eq_emod_of_nonneg (by omega)]; omega
  have r : roomB (l.length + ([(0 : Int)] : List Int).length) 1 = true := roomB_of (by have := big_len; simp; omega) (by simp; omega)
  rw [gl_succ]
  simp only [ref04_Tail_L2, e, decide_false, Bool.not_false, cond_true, r]
  refine (zeros_ok n h k M (l ++ [0]) (by omega) (by simp; omega) (by simp; omega) (by omega)).trans ?_
  rw [List.replicate_succ, List.append_assoc]; rfl
def le8 (n : Int) : List Int := [n % 256, n / 256 % 256, n / 65536 % 256, n / 16777216 % 256, n / 4294967296 % 256, n / 1099511627776 % 256, n / 281474976710656 % 256, n / 72057594037927936 % 256]
theorem ref04_tail_ok (n : Int) (h : 0 ≤ n ∧ n < 18446744073709551616) (hN : 10000 ≤ N) : ref04_Tail N n = some ([128] ++ List.replicate (nz n) 0 ++ le8 (8 * n % 18446744073709551616)) := by
 unfold ref04_Tail
 have hl := nz_lt n
 have hz := zeros_ok (N := N) n h (nz n) N [128] (by omega) (by simp; omega) (by unfold nz; simp; omega) hl
 refine (congrArg (fun o => Option.bind o _) hz).trans ?_
 simp only [Option.bind_some]
 have hw : IntKind.wrap .u64 ((8 : Int) * n) = 8 * n % 18446744073709551616 := by rw [IntKind.wrap_u64]
 rw [hw]
 have hb : 0 ≤ 8 * n % 18446744073709551616 ∧ 8 * n % 18446744073709551616 < 18446744073709551616 := by omega
 generalize 8 * n % 18446744073709551616 = m at *
 have hpl : ([128] ++ List.replicate (nz n) (0 : Int)).length = nz n + 1 := by simp
 generalize [128] ++ List.replicate (nz n) (0 : Int) = p at *
 obtain ⟨M, rfl⟩ : ∃ M, N = M + 9 := ⟨N - 9, by omega⟩
 have dv : ∀ x : Int, 0 ≤ x → x < 18446744073709551616 → IntKind.wrap .u64 (Int.tdiv x 256) = x / 256 := fun x h1 h2 => by
  rw [Int.tdiv_eq_ediv_of_nonneg h1, wrapU64 (by omega) (by omega)]
 have md : ∀ x : Int, 0 ≤ x → IntKind.wrap .u8 (Int.tmod x 256) = x % 256 := fun x h1 => by
  rw [Int.tmod_eq_emod_of_nonneg h1, wrapU8 (by omega) (by omega)]
 have st : ∀ (K : Nat) (x : Int) (i : Nat) (q : List Int), i < 8 → 0 ≤ x → x < 18446744073709551616 → q.length < 1000 → gl (fun X c => ref04_Tail_L6 (M + 9) X c.1.1 c.1.2.1 c.2.1) (K + 1) ((x, ((i : Int), ())), (q, ())) = gl (fun X c => ref04_Tail_L6 (M + 9) X c.1.1 c.1.2.1 c.2.1) K ((x / 256, (((i + 1 : Nat) : Int), ())), (q ++ [x % 256], ())) := fun K x i q hi h1 h2 hq => by
  have c1 : ((i : Int) < 8) := by omega
  have e0 : IntKind.wrap .i64 ((i : Int) + 1) = ((i + 1 : Nat) : Int) := by rw [wrap64 (by omega) (by omega)]; omega
  have r : ∀ y : Int, roomB (q.length + ([y] : List Int).length) 1 = true := fun y => roomB_of (by have := big_len; simp; omega) (by simp; omega)
  rw [gl_succ]
  simp only [ref04_Tail_L6, c1, decide_true, cond_true, md x h1, r, dv x h1 h2, e0]
 have fin : ∀ (K : Nat) (x : Int) (q : List Int), gl (fun X c => ref04_Tail_L6 (M + 9) X c.1.1 c.1.2.1 c.2.1) (K + 1) ((x, (((8 : Nat) : Int), ())), (q, ())) = some ((), (q, ())) := fun K x q => by
  rw [gl_succ]
  rfl
 have all : ref04_Tail_L6_R (M + 9) ((m, ((0 : Int), ())), (p, ())) = some ((), (p ++ le8 m, ())) := by
  refine (st (M + 8) m 0 p (by omega) hb.1 hb.2 (by omega)).trans ?_
  refine (st (M + 7) _ 1 _ (by omega) (by omega) (by omega) (by simp; omega)).trans ?_
  refine (st (M + 6) _ 2 _ (by omega) (by omega) (by omega) (by simp; omega)).trans ?_
  refine (st (M + 5) _ 3 _ (by omega) (by omega) (by omega) (by simp; omega)).trans ?_
  refine (st (M + 4) _ 4 _ (by omega) (by omega) (by omega) (by simp; omega)).trans ?_
  refine (st (M + 3) _ 5 _ (by omega) (by omega) (by omega) (by simp; omega)).trans ?_
  refine (st (M + 2) _ 6 _ (by omega) (by omega) (by omega) (by simp; omega)).trans ?_
  refine (st (M + 1) _ 7 _ (by omega) (by omega) (by omega) (by simp; omega)).trans ?_
  refine (fin M _ _).trans ?_
  have d2 : m / 256 / 256 = m / 65536 := by omega
  have d3 : m / 65536 / 256 = m / 16777216 := by omega
  have d4 : m / 16777216 / 256 = m / 4294967296 := by omega
  have d5 : m / 4294967296 / 256 = m / 1099511627776 := by omega
  have d6 : m / 1099511627776 / 256 = m / 281474976710656 := by omega
  have d7 : m / 281474976710656 / 256 = m / 72057594037927936 := by omega
  simp only [d2, d3, d4, d5, d6, d7, List.append_assoc, List.cons_append, List.nil_append, le8]
 refine (congrArg (fun o => Option.bind o _) all).trans ?_
 rfl
theorem ref05_tail_ok (n : Int) (h : 0 ≤ n ∧ n < 18446744073709551616) (hN : 10000 ≤ N) : ref05_Tail N n = some (tail5 n) := by
 unfold ref05_Tail
 rw [ref04_tail_ok n h hN, Option.bind_some]
 have hl := nz_lt n
 unfold tail5
 generalize 8 * n % 18446744073709551616 = m at *
 have hpl : ([128] ++ List.replicate (nz n) (0 : Int)).length = nz n + 1 := by simp
 generalize [128] ++ List.replicate (nz n) (0 : Int) = p at *
 have h8 : (le8 m).length = 8 := rfl
 have e1 : IntKind.wrap .i64 (((p ++ le8 m).length : Int) - 8) = (p.length : Int) := by
  rw [List.length_append, h8, wrap64 (by omega) (by omega)]; omega
 have r : roomB p.length 1 = true := roomB_of (by have := big_len; omega) (by omega)
 have tk : takeI (p ++ le8 m) (p.length : Int) = some p := by
  rw [takeI_nat _ rfl (by simp)]; simp
 rw [e1, tk, Option.bind_some, r]
 simp only [cond_true]
 obtain ⟨M, rfl⟩ : ∃ M, N = M + 9 := ⟨N - 9, by omega⟩
 have st : ∀ (K : Nat) (i : Nat) (q : List Int) (y : Int), i < 8 → q.length < 1000 → (le8 m)[i]? = some y → gl (fun X c => ref05_Tail_L5 (M + 9) X c.1.1 c.1.2.1 c.1.2.2.1 c.2.1) (K + 1) ((p ++ le8 m, ((p.length : Int), ((i : Int), ()))), (q, ())) = gl (fun X c => ref05_Tail_L5 (M + 9) X c.1.1 c.1.2.1 c.1.2.2.1 c.2.1) K ((p ++ le8 m, ((p.length : Int), (((i : Int) - 1), ()))), (q ++ [y], ())) := fun K i q y hi hq hy => by
  have c1 : ((0 : Int) ≤ (i : Int)) := by omega
  have e0 : IntKind.wrap .i64 ((i : Int) - 1) = ((i : Int) - 1) := by rw [wrap64 (by omega) (by omega)]
  have e2 : IntKind.wrap .i64 ((p.length : Int) + (i : Int)) = ((p.length + i : Nat) : Int) := by rw [wrap64 (by omega) (by omega)]; omega
  have r : roomB (q.length + ([y] : List Int).length) 1 = true := roomB_of (by have := big_len; simp; omega) (by simp; omega)
  have g : getI (p ++ le8 m) ((p.length + i : Nat) : Int) = some y := by
   rw [getI_nat, List.getElem?_append_right (by omega)]
   rw [show p.length + i - p.length = i by omega, hy]
  rw [gl_succ]
  simp only [ref05_Tail_L5, c1, decide_true, cond_true, e2, g, Option.bind_some, r, e0]
 have fin : ∀ (K : Nat) (q : List Int), gl (fun X c => ref05_Tail_L5 (M + 9) X c.1.1 c.1.2.1 c.1.2.2.1 c.2.1) (K + 1) ((p ++ le8 m, ((p.length : Int), (((0 : Nat) : Int) - 1, ()))), (q, ())) = some ((), (q, ())) := fun K q => by
  rw [gl_succ]
  rfl
 have all : ref05_Tail_L5_R (M + 9) ((p ++ le8 m, ((p.length : Int), ((7 : Int), ()))), (p, ())) = some ((), (p ++ by8 m, ())) := by
  refine (st (M + 8) 7 p _ (by omega) (by omega) rfl).trans ?_
  refine (st (M + 7) 6 _ _ (by omega) (by simp; omega) rfl).trans ?_
  refine (st (M + 6) 5 _ _ (by omega) (by simp; omega) rfl).trans ?_
  refine (st (M + 5) 4 _ _ (by omega) (by simp; omega) rfl).trans ?_
  refine (st (M + 4) 3 _ _ (by omega) (by simp; omega) rfl).trans ?_
  refine (st (M + 3) 2 _ _ (by omega) (by simp; omega) rfl).trans ?_
  refine (st (M + 2) 1 _ _ (by omega) (by simp; omega) rfl).trans ?_
  refine (st (M + 1) 0 _ _ (by omega) (by simp; omega) rfl).trans ?_
  refine (fin M _).trans ?_
  simp only [List.append_assoc, List.cons_append, List.nil_append, by8]
 refine (congrArg (fun o => Option.bind o _) all).trans ?_
 rfl
end
theorem ref06_tail_ok {N : Nat} (n : Int) (h : 0 ≤ n ∧ n < 18446744073709551616) (hN : 10000 ≤ N) : ref06_Tail N n = some (tail5 n) := by
 unfold ref06_Tail
 rw [ref05_tail_ok n h hN]
 rfl
theorem first_W : AllW first06.l := fun x hx => by
 simp only [first06, fl06, List.mem_cons, List.not_mem_nil, or_false] at hx
 rcases hx with rfl | rfl | rfl | rfl | rfl | rfl | rfl | rfl <;> omega
end Go.Proofs.YtongdeioonikoaaDoor
