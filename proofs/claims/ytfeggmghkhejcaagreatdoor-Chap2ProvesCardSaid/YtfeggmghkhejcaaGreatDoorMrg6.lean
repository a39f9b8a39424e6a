/-
  Parts of my own, one behind the other: GCp.
-/
import Derived.Test.YtfeggmghkhejcaaGreatDoorMrg5
namespace Go.Proofs.YtfeggmghkhejcaaGreatDoor
open Go.RowKit
set_option linter.unusedVariables false
set_option maxRecDepth 100000
section
variable (N : Nat)
noncomputable def bitp_Spread_3_bitp_gathered_5_bitp_each_L4 (N : Nat) (X : ((Int × (Int × ((List Int) × (Int × (Int × (Int × (Int × Unit))))))) × (Int × (Int × (Int × ((List Int) × Unit))))) → Option (((Int × ((List Int) × (Int × (Int × Unit)))) × (Int × (Int × (Int × ((List Int) × Unit))))))) (many1 : Int) (b7 : Int) (x9 : List (Int)) (x10 : Int) (x11 : Int) (x15 : Int) (x16 : Int) (h0 : Int) (h1 : Int) (h2 : Int) (h3 : List (Int)) : Option (((Int × ((List Int) × (Int × (Int × Unit)))) × (Int × (Int × (Int × ((List Int) × Unit)))))) :=
 bif (decide (x16 < x15)) then
  bif (decide ((0 : Int) ≤ (IntKind.wrap .i64 ((7 : Int) - x16)))) then
   bif (decide ((IntKind.wrap .i64 (h2 + 1)) = h0)) then
    bif (roomB ((List.length h3) + (List.length ([(bits .or .u8 (IntKind.wrap .u8 (h1 * ((2 : Int) ^ (min (Int.toNat (1 : Int)) (IntKind.bits .u8))))) (bits .and .u8 (@Int.fdiv b7 ((2 : Int) ^ (min (Int.toNat (IntKind.wrap .i64 ((7 : Int) - x16))) (IntKind.bits .u8)))) (1 : Int)))] : List (Int)))) 1) then
     (X ((many1, (b7, (x9, (x10, (x11, (x15, ((IntKind.wrap .i64 (x16 + 1)), ()))))))), (h0, ((0 : Int), ((0 : Int), ((h3 ++ ([(bits .or .u8 (IntKind.wrap .u8 (h1 * ((2 : Int) ^ (min (Int.toNat (1 : Int)) (IntKind.bits .u8))))) (bits .and .u8 (@Int.fdiv b7 ((2 : Int) ^ (min (Int.toNat (IntKind.wrap .i64 ((7 : Int) - x16))) (IntKind.bits .u8)))) (1 : Int)))] : List (Int))), ()))))))
    else
     none
   else
    (X ((many1, (b7, (x9, (x10, (x11, (x15, ((IntKind.wrap .i64 (x16 + 1)), ()))))))), (h0, ((bits .or .u8 (IntKind.wrap .u8 (h1 * ((2 : Int) ^ (min (Int.toNat (1 : Int)) (IntKind.bits .u8))))) (bits .and .u8 (@Int.fdiv b7 ((2 : Int) ^ (min (Int.toNat (IntKind.wrap .i64 ((7 : Int) - x16))) (IntKind.bits .u8)))) (1 : Int))), ((IntKind.wrap .i64 (h2 + 1)), (h3, ()))))))
  else
   none
 else
  some (((many1, (x9, (x10, (x11, ())))), (h0, (h1, (h2, (h3, ()))))))
noncomputable def bitp_Spread_3_bitp_gathered_5_bitp_each_L4_R (c : ((Int × (Int × ((List Int) × (Int × (Int × (Int × (Int × Unit))))))) × (Int × (Int × (Int × ((List Int) × Unit)))))) : Option (((Int × ((List Int) × (Int × (Int × Unit)))) × (Int × (Int × (Int × ((List Int) × Unit)))))) := gl (fun X c => bitp_Spread_3_bitp_gathered_5_bitp_each_L4 N X c.1.1 c.1.2.1 c.1.2.2.1 c.1.2.2.2.1 c.1.2.2.2.2.1 c.1.2.2.2.2.2.1 c.1.2.2.2.2.2.2.1 c.2.1 c.2.2.1 c.2.2.2.1 c.2.2.2.2.1) N c
theorem bitp_Spread_3_bitp_gathered_5_bitp_each_L4_S (X : ((Int × (Int × ((List Int) × (Int × (Int × (Int × (Int × Unit))))))) × (Int × (Int × (Int × ((List Int) × Unit))))) → Option (((Int × ((List Int) × (Int × (Int × Unit)))) × (Int × (Int × (Int × ((List Int) × Unit))))))) (many1 : Int) (b7 : Int) (x9 : List (Int)) (x10 : Int) (x11 : Int) (x15 : Int) (x16 : Int) (h0 : Int) (h1 : Int) (h2 : Int) (h3 : List (Int)) : (roundK Tryz.prog (Ev170 N) 400 [121, 5, 87, 3, 60] bitp_Spread_3_bitp_gathered_5_bitp_each_L4_I (loopAt Tryz.prog [121, 5, 87, 3, 60] 4) X ((many1, b7, x9, x10, x11, x15, x16, ()), (h0, h1, h2, h3, ()))).run = bitp_Spread_3_bitp_gathered_5_bitp_each_L4 N X many1 b7 x9 x10 x11 x15 x16 h0 h1 h2 h3 := by kernel_rfl
noncomputable def Ev171 : (R : Type) → Env R := Env.addLp (Ev170 N) [121, 5, 87, 3, 60] 4 4 (fun R => lpK Tryz.prog bitp_Spread_3_bitp_gathered_5_bitp_each_L4_I (fun X c => bitp_Spread_3_bitp_gathered_5_bitp_each_L4 N X c.1.1 c.1.2.1 c.1.2.2.1 c.1.2.2.2.1 c.1.2.2.2.2.1 c.1.2.2.2.2.2.1 c.1.2.2.2.2.2.2.1 c.2.1 c.2.2.1 c.2.2.2.1 c.2.2.2.2.1) N)
theorem Ev171_ok (R : Type) : EnvOK Tryz.prog (Ev171 N R) := EnvOK.addLp (Ev170_ok N R) (by kernel_rfl) (lpK_ok (li := bitp_Spread_3_bitp_gathered_5_bitp_each_L4_I) (G := fun X c => bitp_Spread_3_bitp_gathered_5_bitp_each_L4 N X c.1.1 c.1.2.1 c.1.2.2.1 c.1.2.2.2.1 c.1.2.2.2.2.1 c.1.2.2.2.2.2.1 c.1.2.2.2.2.2.2.1 c.2.1 c.2.2.1 c.2.2.2.1 c.2.2.2.2.1) hmx (Ev170_ok N _) (by kernel_rfl) loopAt_sub (fun (X : CT bitp_Spread_3_bitp_gathered_5_bitp_each_L4_I.sh → Option (OT bitp_Spread_3_bitp_gathered_5_bitp_each_L4_I.outs)) (c : CT bitp_Spread_3_bitp_gathered_5_bitp_each_L4_I.sh) => bitp_Spread_3_bitp_gathered_5_bitp_each_L4_S N X c.1.1 c.1.2.1 c.1.2.2.1 c.1.2.2.2.1 c.1.2.2.2.2.1 c.1.2.2.2.2.2.1 c.1.2.2.2.2.2.2.1 c.2.1 c.2.2.1 c.2.2.2.1 c.2.2.2.2.1) N)
noncomputable def bitp_Spread_3_bitp_gathered_5_bitp_each_L1_I : LI := ⟨28, 4, [], ⟨[(1, .ty (.int .i64)), (2, .lit (.clo 120 [.box 2 0, .box 3 0, .box 0 0, .box 1 0])), (9, .ty (.sl (.int .u8))), (10, .ty (.int .i64)), (11, .ty (.int .i64))], [.box 3 (.int .i64), .boxp 40 [.own 4], .box 5 (.int .u8), .box 3 (.int .i64), .own (.int .u8) 5]⟩, [(.exit 0, ⟨[], [.box 3 (.int .i64), .boxp 40 [.own 4], .box 5 (.int .u8), .box 3 (.int .i64), .own (.int .u8) 5]⟩)]⟩
noncomputable def bitp_Spread_3_bitp_gathered_5_bitp_each_L1 (X : ((Int × ((List Int) × (Int × (Int × Unit)))) × (Int × (Int × (Int × ((List Int) × Unit))))) → Option ((Unit × (Int × (Int × (Int × ((List Int) × Unit))))))) (many1 : Int) (x9 : List (Int)) (x10 : Int) (x11 : Int) (h0 : Int) (h1 : Int) (h2 : Int) (h3 : List (Int)) : Option ((Unit × (Int × (Int × (Int × ((List Int) × Unit)))))) :=
 bif (decide (x11 < x10)) then
  Option.bind (getI x9 x11) fun (v10 : Int) =>
  Option.bind (bitp_Spread_3_bitp_gathered_5_bitp_each_L4_R N ((many1, (v10, (x9, (x10, (x11, (many1, ((0 : Int), ()))))))), (h0, (h1, (h2, (h3, ())))))) fun v11 =>
  (X ((v11.1.1, (v11.1.2.1, (v11.1.2.2.1, ((IntKind.wrap .i64 (v11.1.2.2.2.1 + 1)), ())))), (v11.2.1, ((v11.2).snd.1, ((v11.2).snd.2.1, ((v11.2).snd.2.2.1, ()))))))
 else
  some (((), (h0, (h1, (h2, (h3, ()))))))
noncomputable def bitp_Spread_3_bitp_gathered_5_bitp_each_L1_R (c : ((Int × ((List Int) × (Int × (Int × Unit)))) × (Int × (Int × (Int × ((List Int) × Unit)))))) : Option ((Unit × (Int × (Int × (Int × ((List Int) × Unit)))))) := gl (fun X c => bitp_Spread_3_bitp_gathered_5_bitp_each_L1 N X c.1.1 c.1.2.1 c.1.2.2.1 c.1.2.2.2.1 c.2.1 c.2.2.1 c.2.2.2.1 c.2.2.2.2.1) N c
theorem bitp_Spread_3_bitp_gathered_5_bitp_each_L1_S (X : ((Int × ((List Int) × (Int × (Int × Unit)))) × (Int × (Int × (Int × ((List Int) × Unit))))) → Option ((Unit × (Int × (Int × (Int × ((List Int) × Unit))))))) (many1 : Int) (x9 : List (Int)) (x10 : Int) (x11 : Int) (h0 : Int) (h1 : Int) (h2 : Int) (h3 : List (Int)) : (roundK Tryz.prog (Ev171 N) 400 [121, 5, 87, 3, 60] bitp_Spread_3_bitp_gathered_5_bitp_each_L1_I (loopAt Tryz.prog [121, 5, 87, 3, 60] 1) X ((many1, x9, x10, x11, ()), (h0, h1, h2, h3, ()))).run = bitp_Spread_3_bitp_gathered_5_bitp_each_L1 N X many1 x9 x10 x11 h0 h1 h2 h3 := by kernel_rfl
noncomputable def Ev172 : (R : Type) → Env R := Env.addLp (Ev171 N) [121, 5, 87, 3, 60] 4 1 (fun R => lpK Tryz.prog bitp_Spread_3_bitp_gathered_5_bitp_each_L1_I (fun X c => bitp_Spread_3_bitp_gathered_5_bitp_each_L1 N X c.1.1 c.1.2.1 c.1.2.2.1 c.1.2.2.2.1 c.2.1 c.2.2.1 c.2.2.2.1 c.2.2.2.2.1) N)
theorem Ev172_ok (R : Type) : EnvOK Tryz.prog (Ev172 N R) := EnvOK.addLp (Ev171_ok N R) (by kernel_rfl) (lpK_ok (li := bitp_Spread_3_bitp_gathered_5_bitp_each_L1_I) (G := fun X c => bitp_Spread_3_bitp_gathered_5_bitp_each_L1 N X c.1.1 c.1.2.1 c.1.2.2.1 c.1.2.2.2.1 c.2.1 c.2.2.1 c.2.2.2.1 c.2.2.2.2.1) hmx (Ev171_ok N _) (by kernel_rfl) loopAt_sub (fun (X : CT bitp_Spread_3_bitp_gathered_5_bitp_each_L1_I.sh → Option (OT bitp_Spread_3_bitp_gathered_5_bitp_each_L1_I.outs)) (c : CT bitp_Spread_3_bitp_gathered_5_bitp_each_L1_I.sh) => bitp_Spread_3_bitp_gathered_5_bitp_each_L1_S N X c.1.1 c.1.2.1 c.1.2.2.1 c.1.2.2.2.1 c.2.1 c.2.2.1 c.2.2.2.1 c.2.2.2.2.1) N)
noncomputable def math_bits_OnesCount8 (N : Nat) (x0 : Int) : Option Int :=
 Option.bind (getI (Array.toList (List.toArray (@List.append UInt8 (@List.append UInt8 ([0, 1, 1, 2, 1, 2, 2, 3, 1, 2, 2, 3, 2, 3, 3, 4, 1, 2, 2, 3, 2, 3, 3, 4, 2, 3, 3, 4, 3, 4, 4, 5, 1, 2, 2, 3, 2, 3, 3, 4, 2, 3, 3, 4, 3, 4, 4, 5, 2, 3, 3, 4, 3, 4, 4, 5, 3, 4, 4, 5, 4, 5, 5, 6] : List UInt8) ([1, 2, 2, 3, 2, 3, 3, 4, 2, 3, 3, 4, 3, 4, 4, 5, 2, 3, 3, 4, 3, 4, 4, 5, 3, 4, 4, 5, 4, 5, 5, 6, 2, 3, 3, 4, 3, 4, 4, 5, 3, 4, 4, 5, 4, 5, 5, 6, 3, 4, 4, 5, 4, 5, 5, 6, 4, 5, 5, 6, 5, 6, 6, 7] : List UInt8)) (@List.append UInt8 ([1, 2, 2, 3, 2, 3, 3, 4, 2, 3, 3, 4, 3, 4, 4, 5, 2, 3, 3, 4, 3, 4, 4, 5, 3, 4, 4, 5, 4, 5, 5, 6, 2, 3, 3, 4, 3, 4, 4, 5, 3, 4, 4, 5, 4, 5, 5, 6, 3, 4, 4, 5, 4, 5, 5, 6, 4, 5, 5, 6, 5, 6, 6, 7] : List UInt8) ([2, 3, 3, 4, 3, 4, 4, 5, 3, 4, 4, 5, 4, 5, 5, 6, 3, 4, 4, 5, 4, 5, 5, 6, 4, 5, 5, 6, 5, 6, 6, 7, 3, 4, 4, 5, 4, 5, 5, 6, 4, 5, 5, 6, 5, 6, 6, 7, 4, 5, 5, 6, 5, 6, 6, 7, 5, 6, 6, 7, 6, 7, 7, 8] : List UInt8))))) x0) fun (v2 : UInt8) =>
 some ((IntKind.wrap .i64 (((@UInt8.toNat v2) : Nat) : Int)))
theorem math_bits_OnesCount8_S (x0 : Int) : (runK Tryz.prog (Ev172 N) 400 122 [(.int .u8)] [(.int .i64)] (x0, ())).run = math_bits_OnesCount8 N x0 := by kernel_rfl
noncomputable def Ev173 : (R : Type) → Env R := Env.addFn (Ev172 N) 122 (fun R => fnK [(.int .u8)] [(.int .i64)] (fun c => math_bits_OnesCount8 N c.1))
theorem Ev173_ok (R : Type) : EnvOK Tryz.prog (Ev173 N R) := EnvOK.addFn hmx (Ev172_ok N R) (Ev172_ok N _) (by kernel_rfl) (fun c => math_bits_OnesCount8_S N c.1)
noncomputable def bitp_Odd (b0 : Int) : Option Int :=
 Option.bind (math_bits_OnesCount8 N (bits .andNot .u8 b0 (1 : Int))) fun v2 =>
 bif (decide ((@Int.tmod v2 (2 : Int)) = (0 : Int))) then
  some ((bits .or .u8 (bits .andNot .u8 b0 (1 : Int)) (1 : Int)))
 else
  some ((bits .andNot .u8 b0 (1 : Int)))
theorem bitp_Odd_S (b0 : Int) : (runK Tryz.prog (Ev173 N) 400 88 [(.int .u8)] [(.int .u8)] (b0, ())).run = bitp_Odd N b0 := by kernel_rfl
noncomputable def Ev174 : (R : Type) → Env R := Env.addFn (Ev173 N) 88 (fun R => fnK [(.int .u8)] [(.int .u8)] (fun c => bitp_Odd N c.1))
theorem Ev174_ok (R : Type) : EnvOK Tryz.prog (Ev174 N R) := EnvOK.addFn hmx (Ev173_ok N R) (Ev173_ok N _) (by kernel_rfl) (fun c => bitp_Odd_S N c.1)
noncomputable def bitp_Spread_L5_I : LI := ⟨27, 0, [], ⟨[(4, .lit (.own 0)), (12, .lit (.own 0)), (13, .ty (.int .i64)), (14, .ty (.int .i64))], [.own (.int .u8) 5]⟩, [(.exit 0, ⟨[(4, .lit (.own 0))], [.own (.int .u8) 5]⟩)]⟩
noncomputable def bitp_Spread_L5 (X : ((Int × (Int × Unit)) × ((List Int) × Unit)) → Option ((Unit × ((List Int) × Unit)))) (x13 : Int) (x14 : Int) (h0 : List (Int)) : Option ((Unit × ((List Int) × Unit))) :=
 bif (decide (x14 < x13)) then
  bif (decide ((0 : Int) ≤ x14 ∧ x14 < (((List.length h0) : Nat) : Int))) then
   Option.bind (h0[Int.toNat x14]?) fun (v5 : Int) =>
   Option.bind (bitp_Odd N (IntKind.wrap .u8 (v5 * ((2 : Int) ^ (min (Int.toNat (1 : Int)) (IntKind.bits .u8)))))) fun v6 =>
   bif (decide ((0 : Int) ≤ x14 ∧ x14 < (((List.length h0) : Nat) : Int))) then
    Option.bind (h0[Int.toNat x14]?) fun (v7 : Int) =>
    (X ((x13, ((IntKind.wrap .i64 (x14 + 1)), ())), ((@List.set Int h0 (Int.toNat x14) v6), ())))
   else
    none
  else
   none
 else
  some (((), (h0, ())))
noncomputable def bitp_Spread_L5_R (c : ((Int × (Int × Unit)) × ((List Int) × Unit))) : Option ((Unit × ((List Int) × Unit))) := gl (fun X c => bitp_Spread_L5 N X c.1.1 c.1.2.1 c.2.1) N c
theorem bitp_Spread_L5_S (X : ((Int × (Int × Unit)) × ((List Int) × Unit)) → Option ((Unit × ((List Int) × Unit)))) (x13 : Int) (x14 : Int) (h0 : List (Int)) : (roundK Tryz.prog (Ev174 N) 400 [60] bitp_Spread_L5_I (loopAt Tryz.prog [60] 5) X ((x13, x14, ()), (h0, ()))).run = bitp_Spread_L5 N X x13 x14 h0 := by kernel_rfl
noncomputable def Ev175 : (R : Type) → Env R := Env.addLp (Ev174 N) [60] 0 5 (fun R => lpK Tryz.prog bitp_Spread_L5_I (fun X c => bitp_Spread_L5 N X c.1.1 c.1.2.1 c.2.1) N)
theorem Ev175_ok (R : Type) : EnvOK Tryz.prog (Ev175 N R) := EnvOK.addLp (Ev174_ok N R) (by kernel_rfl) (lpK_ok (li := bitp_Spread_L5_I) (G := fun X c => bitp_Spread_L5 N X c.1.1 c.1.2.1 c.2.1) hmx (Ev174_ok N _) (by kernel_rfl) loopAt_sub (fun (X : CT bitp_Spread_L5_I.sh → Option (OT bitp_Spread_L5_I.outs)) (c : CT bitp_Spread_L5_I.sh) => bitp_Spread_L5_S N X c.1.1 c.1.2.1 c.2.1) N)
noncomputable def bitp_Spread (key0 : List (Int)) : Option ((List Int) × Int) :=
 bif (!(decide ((((List.length key0) : Nat) : Int) = (7 : Int)))) then
  some ((([] : List Int), (1 : Int)))
 else
  Option.bind (bitp_Spread_3_bitp_gathered_5_bitp_each_L1_R N (((8 : Int), (key0, ((((List.length key0) : Nat) : Int), ((0 : Int), ())))), ((7 : Int), ((0 : Int), ((0 : Int), (([] : List Int), ())))))) fun v2 =>
  Option.bind (bitp_Spread_L5_R N (((((List.length (v2.2).snd.2.2.1) : Nat) : Int), ((0 : Int), ())), ((v2.2).snd.2.2.1, ()))) fun v3 =>
  some ((v3.2.1, (0 : Int)))
theorem bitp_Spread_S (key0 : List (Int)) : (runK Tryz.prog (Ev175 N) 400 60 [(.sl (.int .u8))] [(.sl (.int .u8)), (.int .i64)] (key0, ())).run = bitp_Spread N key0 := by kernel_rfl
noncomputable def Ev176 : (R : Type) → Env R := Env.addFn (Ev175 N) 60 (fun R => fnK [(.sl (.int .u8))] [(.sl (.int .u8)), (.int .i64)] (fun c => bitp_Spread N c.1))
theorem Ev176_ok (R : Type) : EnvOK Tryz.prog (Ev176 N R) := EnvOK.addFn hmx (Ev175_ok N R) (Ev175_ok N _) (by kernel_rfl) (fun c => bitp_Spread_S N c.1)
noncomputable def des_Seven (key0 : List (Int)) (block1 : List (Int)) : Option ((List Int) × Int) :=
 Option.bind (bitp_Spread N key0) fun v3 =>
 bif (!(decide (v3.2 = (0 : Int)))) then
  Option.bind (some (true)) fun (v4 : Bool) =>
  bif v4 then
   some ((([] : List Int), (1 : Int)))
  else
   Option.bind (octs_Get N v3.1 false) fun v5 =>
   Option.bind (octs_Get N block1 false) fun v6 =>
   Option.bind (des_Turn N v5.1 v6.1) fun v7 =>
   Option.bind (octs_Put N v7 (8 : Int) false) fun v8 =>
   some ((v8.1, v8.2))
 else
  Option.bind (some ((cond false true (!(decide ((((List.length block1) : Nat) : Int) = (8 : Int))))))) fun (v4 : Bool) =>
  bif v4 then
   some ((([] : List Int), (1 : Int)))
  else
   Option.bind (octs_Get N v3.1 false) fun v5 =>
   Option.bind (octs_Get N block1 false) fun v6 =>
   Option.bind (des_Turn N v5.1 v6.1) fun v7 =>
   Option.bind (octs_Put N v7 (8 : Int) false) fun v8 =>
   some ((v8.1, v8.2))
theorem des_Seven_S (key0 : List (Int)) (block1 : List (Int)) : (runK Tryz.prog (Ev176 N) 400 29 [(.sl (.int .u8)), (.sl (.int .u8))] [(.sl (.int .u8)), (.int .i64)] (key0, block1, ())).run = des_Seven N key0 block1 := by kernel_rfl
noncomputable def Ev177 : (R : Type) → Env R := Env.addFn (Ev176 N) 29 (fun R => fnK [(.sl (.int .u8)), (.sl (.int .u8))] [(.sl (.int .u8)), (.int .i64)] (fun c => des_Seven N c.1 c.2.1))
theorem Ev177_ok (R : Type) : EnvOK Tryz.prog (Ev177 N R) := EnvOK.addFn hmx (Ev176_ok N R) (Ev176_ok N _) (by kernel_rfl) (fun c => des_Seven_S N c.1 c.2.1)
noncomputable def Ev178 : (R : Type) → Env R := Env.addMv (Ev177 N) [(110, 2), (110, 12)]
theorem Ev178_ok (R : Type) : EnvOK Tryz.prog (Ev178 N R) := EnvOK.addMv (Ev177_ok N R) [(110, 2), (110, 12)]
noncomputable def ref03_Row_L3_I : LI := ⟨24, 0, [], ⟨[(0, .ty (.int .u64)), (5, .lit (.own 0)), (6, .ty (.int .i64))], [.own (.int .u8) 5]⟩, [(.exit 0, ⟨[(5, .lit (.own 0))], [.own (.int .u8) 5]⟩)]⟩
noncomputable def ref03_Row_L3 (N : Nat) (X : ((Int × (Int × Unit)) × ((List Int) × Unit)) → Option ((Unit × ((List Int) × Unit)))) (x0 : Int) (i6 : Int) (h0 : List (Int)) : Option ((Unit × ((List Int) × Unit))) :=
 bif (decide ((0 : Int) ≤ i6)) then
  bif (decide ((0 : Int) ≤ i6 ∧ i6 < (((List.length h0) : Nat) : Int))) then
   Option.bind (h0[Int.toNat i6]?) fun (v5 : Int) =>
   (X (((IntKind.wrap .u64 (@Int.tdiv x0 (2 : Int))), ((IntKind.wrap .i64 (i6 - 1)), ())), ((@List.set Int h0 (Int.toNat i6) (IntKind.wrap .u8 (@Int.tmod x0 (2 : Int)))), ())))
  else
   none
 else
  some (((), (h0, ())))
noncomputable def ref03_Row_L3_R (c : ((Int × (Int × Unit)) × ((List Int) × Unit))) : Option ((Unit × ((List Int) × Unit))) := gl (fun X c => ref03_Row_L3 N X c.1.1 c.1.2.1 c.2.1) N c
theorem ref03_Row_L3_S (X : ((Int × (Int × Unit)) × ((List Int) × Unit)) → Option ((Unit × ((List Int) × Unit)))) (x0 : Int) (i6 : Int) (h0 : List (Int)) : (roundK Tryz.prog (Ev178 N) 400 [106] ref03_Row_L3_I (loopAt Tryz.prog [106] 3) X ((x0, i6, ()), (h0, ()))).run = ref03_Row_L3 N X x0 i6 h0 := by kernel_rfl
noncomputable def Ev179 : (R : Type) → Env R := Env.addLp (Ev178 N) [106] 0 3 (fun R => lpK Tryz.prog ref03_Row_L3_I (fun X c => ref03_Row_L3 N X c.1.1 c.1.2.1 c.2.1) N)
theorem Ev179_ok (R : Type) : EnvOK Tryz.prog (Ev179 N R) := EnvOK.addLp (Ev178_ok N R) (by kernel_rfl) (lpK_ok (li := ref03_Row_L3_I) (G := fun X c => ref03_Row_L3 N X c.1.1 c.1.2.1 c.2.1) hmx (Ev178_ok N _) (by kernel_rfl) loopAt_sub (fun (X : CT ref03_Row_L3_I.sh → Option (OT ref03_Row_L3_I.outs)) (c : CT ref03_Row_L3_I.sh) => ref03_Row_L3_S N X c.1.1 c.1.2.1 c.2.1) N)
noncomputable def ref03_Row (x0 : Int) (width1 : Int) : Option (List Int) :=
 bif ((decide ((0 : Int) ≤ width1 ∧ width1 ≤ width1)) && (roomB (Int.toNat width1) 1)) then
  Option.bind (ref03_Row_L3_R N ((x0, ((IntKind.wrap .i64 (width1 - 1)), ())), ((@List.replicate Int (Int.toNat width1) (0 : Int)), ()))) fun v3 =>
  some (v3.2.1)
 else
  none
theorem ref03_Row_S (x0 : Int) (width1 : Int) : (runK Tryz.prog (Ev179 N) 400 106 [(.int .u64), (.int .i64)] [(.sl (.int .u8))] (x0, width1, ())).run = ref03_Row N x0 width1 := by kernel_rfl
noncomputable def Ev180 : (R : Type) → Env R := Env.addFn (Ev179 N) 106 (fun R => fnK [(.int .u64), (.int .i64)] [(.sl (.int .u8))] (fun c => ref03_Row N c.1 c.2.1))
theorem Ev180_ok (R : Type) : EnvOK Tryz.prog (Ev180 N R) := EnvOK.addFn hmx (Ev179_ok N R) (Ev179_ok N _) (by kernel_rfl) (fun c => ref03_Row_S N c.1 c.2.1)
noncomputable def ref08_ofKeys (N : Nat) : Option (List Int) :=
 some (([57, 49, 41, 33, 25, 17, 9, 1, 58, 50, 42, 34, 26, 18, 10, 2, 59, 51, 43, 35, 27, 19, 11, 3, 60, 52, 44, 36, 63, 55, 47, 39, 31, 23, 15, 7, 62, 54, 46, 38, 30, 22, 14, 6, 61, 53, 45, 37, 29, 21, 13, 5, 28, 20, 12, 4] : List Int))
theorem ref08_ofKeys_S : (runK Tryz.prog (Ev180 N) 400 148 [] [(.sl (.int .i64))] ()).run = ref08_ofKeys N  := by kernel_rfl
noncomputable def Ev181 : (R : Type) → Env R := Env.addFn (Ev180 N) 148 (fun R => fnK [] [(.sl (.int .i64))] (fun c => ref08_ofKeys N ))
theorem Ev181_ok (R : Type) : EnvOK Tryz.prog (Ev181 N R) := EnvOK.addFn hmx (Ev180_ok N R) (Ev180_ok N _) (by kernel_rfl) (fun c => ref08_ofKeys_S N )
noncomputable def Ev182 : (R : Type) → Env R := Env.addMv (Ev181 N) [(143, 5)]
theorem Ev182_ok (R : Type) : EnvOK Tryz.prog (Ev182 N R) := EnvOK.addMv (Ev181_ok N R) [(143, 5)]
noncomputable def ref08_by_L3_I : LI := ⟨25, 0, [(5, 5)], ⟨[(0, .ty (.sl (.int .u8))), (1, .ty (.sl (.int .i64))), (5, .lit (.own 0)), (6, .ty (.int .i64))], [.own (.int .u8) 5]⟩, [(.exit 0, ⟨[(5, .lit (.own 0))], [.own (.int .u8) 5]⟩)]⟩
noncomputable def ref08_by_L3 (N : Nat) (X : (((List Int) × ((List Int) × (Int × Unit))) × ((List Int) × Unit)) → Option ((Unit × ((List Int) × Unit)))) (row0 : List (Int)) (table1 : List (Int)) (i6 : Int) (h0 : List (Int)) : Option ((Unit × ((List Int) × Unit))) :=
 bif (decide (i6 < (((List.length table1) : Nat) : Int))) then
  Option.bind (getI table1 i6) fun (v6 : Int) =>
  Option.bind (getI row0 (IntKind.wrap .i64 (v6 - 1))) fun (v7 : Int) =>
  bif (roomB ((List.length h0) + (List.length ([v7] : List (Int)))) 1) then
   (X ((row0, (table1, ((IntKind.wrap .i64 (i6 + 1)), ()))), ((h0 ++ ([v7] : List (Int))), ())))
  else
   none
 else
  some (((), (h0, ())))
noncomputable def ref08_by_L3_R (c : (((List Int) × ((List Int) × (Int × Unit))) × ((List Int) × Unit))) : Option ((Unit × ((List Int) × Unit))) := gl (fun X c => ref08_by_L3 N X c.1.1 c.1.2.1 c.1.2.2.1 c.2.1) N c
theorem ref08_by_L3_S (X : (((List Int) × ((List Int) × (Int × Unit))) × ((List Int) × Unit)) → Option ((Unit × ((List Int) × Unit)))) (row0 : List (Int)) (table1 : List (Int)) (i6 : Int) (h0 : List (Int)) : (roundK Tryz.prog (Ev182 N) 400 [143] ref08_by_L3_I (loopAt Tryz.prog [143] 3) X ((row0, table1, i6, ()), (h0, ()))).run = ref08_by_L3 N X row0 table1 i6 h0 := by kernel_rfl
noncomputable def Ev183 : (R : Type) → Env R := Env.addLp (Ev182 N) [143] 0 3 (fun R => lpK Tryz.prog ref08_by_L3_I (fun X c => ref08_by_L3 N X c.1.1 c.1.2.1 c.1.2.2.1 c.2.1) N)
theorem Ev183_ok (R : Type) : EnvOK Tryz.prog (Ev183 N R) := EnvOK.addLp (Ev182_ok N R) (by kernel_rfl) (lpK_ok (li := ref08_by_L3_I) (G := fun X c => ref08_by_L3 N X c.1.1 c.1.2.1 c.1.2.2.1 c.2.1) hmx (Ev182_ok N _) (by kernel_rfl) loopAt_sub (fun (X : CT ref08_by_L3_I.sh → Option (OT ref08_by_L3_I.outs)) (c : CT ref08_by_L3_I.sh) => ref08_by_L3_S N X c.1.1 c.1.2.1 c.1.2.2.1 c.2.1) N)
noncomputable def ref08_by (row0 : List (Int)) (table1 : List (Int)) : Option (List Int) :=
 Option.bind (ref08_by_L3_R N ((row0, (table1, ((0 : Int), ()))), (([] : List Int), ()))) fun v3 =>
 some (v3.2.1)
theorem ref08_by_S (row0 : List (Int)) (table1 : List (Int)) : (runK Tryz.prog (Ev183 N) 400 143 [(.sl (.int .u8)), (.sl (.int .i64))] [(.sl (.int .u8))] (row0, table1, ())).run = ref08_by N row0 table1 := by kernel_rfl
noncomputable def Ev184 : (R : Type) → Env R := Env.addFn (Ev183 N) 143 (fun R => fnK [(.sl (.int .u8)), (.sl (.int .i64))] [(.sl (.int .u8))] (fun c => ref08_by N c.1 c.2.1))
theorem Ev184_ok (R : Type) : EnvOK Tryz.prog (Ev184 N R) := EnvOK.addFn hmx (Ev183_ok N R) (Ev183_ok N _) (by kernel_rfl) (fun c => ref08_by_S N c.1 c.2.1)
noncomputable def ref08_ofRounds (N : Nat) : Option (List Int) :=
 some (([14, 17, 11, 24, 1, 5, 3, 28, 15, 6, 21, 10, 23, 19, 12, 4, 26, 8, 16, 7, 27, 20, 13, 2, 41, 52, 31, 37, 47, 55, 30, 40, 51, 45, 33, 48, 44, 49, 39, 56, 34, 53, 46, 42, 50, 36, 29, 32] : List Int))
theorem ref08_ofRounds_S : (runK Tryz.prog (Ev184 N) 400 149 [] [(.sl (.int .i64))] ()).run = ref08_ofRounds N  := by kernel_rfl
noncomputable def Ev185 : (R : Type) → Env R := Env.addFn (Ev184 N) 149 (fun R => fnK [] [(.sl (.int .i64))] (fun c => ref08_ofRounds N ))
theorem Ev185_ok (R : Type) : EnvOK Tryz.prog (Ev185 N R) := EnvOK.addFn hmx (Ev184_ok N R) (Ev184_ok N _) (by kernel_rfl) (fun c => ref08_ofRounds_S N )
noncomputable def ref08_keys_L5_I : LI := ⟨61, 0, [(6, 40)], ⟨[(4, .ty (.sl (.int .u8))), (5, .ty (.sl (.int .u8))), (6, .lit (.own 0)), (7, .ty (.int .i64))], [.own (.sl (.int .u8)) 40]⟩, [(.exit 0, ⟨[(6, .lit (.own 0))], [.own (.sl (.int .u8)) 40]⟩)]⟩
noncomputable def ref08_keys_L5 (X : (((List Int) × ((List Int) × (Int × Unit))) × ((List (List Int)) × Unit)) → Option ((Unit × ((List (List Int)) × Unit)))) (c4 : List (Int)) (d5 : List (Int)) (i7 : Int) (h0 : List (List Int)) : Option ((Unit × ((List (List Int)) × Unit))) :=
 bif (decide (i7 ≤ (16 : Int))) then
  Option.bind (bif (decide (i7 = (1 : Int))) then
    some (true)
   else
    some ((cond false true (decide (i7 = (2 : Int)))))) fun (v6 : Bool) =>
  Option.bind (bif v6 then
    some (true)
   else
    some ((cond false true (decide (i7 = (9 : Int)))))) fun (v7 : Bool) =>
  Option.bind (bif v7 then
    some (true)
   else
    some ((cond false true (decide (i7 = (16 : Int)))))) fun (v8 : Bool) =>
  bif v8 then
   Option.bind (dropI c4 (1 : Int)) fun (v9 : (List Int)) =>
   Option.bind (takeI c4 (1 : Int)) fun (v10 : (List Int)) =>
   bif (roomB (List.length v9) 1) then
    bif (roomB ((List.length v9) + (List.length v10)) 1) then
     Option.bind (dropI d5 (1 : Int)) fun (v11 : (List Int)) =>
     Option.bind (takeI d5 (1 : Int)) fun (v12 : (List Int)) =>
     bif (roomB (List.length v11) 1) then
      bif (roomB ((List.length v11) + (List.length v12)) 1) then
       bif (roomB (List.length (v9 ++ v10)) 1) then
        bif (roomB ((List.length (v9 ++ v10)) + (List.length (v11 ++ v12))) 1) then
         Option.bind (ref08_by N ((v9 ++ v10) ++ (v11 ++ v12)) (@List.cons Int (14 : Int) (@List.cons Int (17 : Int) (@List.cons Int (11 : Int) (@List.cons Int (24 : Int) (@List.cons Int (1 : Int) (@List.cons Int (5 : Int) (@List.cons Int (3 : Int) (@List.cons Int (28 : Int) (@List.cons Int (15 : Int) (@List.cons Int (6 : Int) (@List.cons Int (21 : Int) (@List.cons Int (10 : Int) (@List.cons Int (23 : Int) (@List.cons Int (19 : Int) (@List.cons Int (12 : Int) (@List.cons Int (4 : Int) (@List.cons Int (26 : Int) (@List.cons Int (8 : Int) (@List.cons Int (16 : Int) (@List.cons Int (7 : Int) (@List.cons Int (27 : Int) (@List.cons Int (20 : Int) (@List.cons Int (13 : Int) (@List.cons Int (2 : Int) (@List.cons Int (41 : Int) (@List.cons Int (52 : Int) (@List.cons Int (31 : Int) (@List.cons Int (37 : Int) (@List.cons Int (47 : Int) (@List.cons Int (55 : Int) (@List.cons Int (30 : Int) (@List.cons Int (40 : Int) (@List.cons Int (51 : Int) (@List.cons Int (45 : Int) (@List.cons Int (33 : Int) (@List.cons Int (48 : Int) ([44, 49, 39, 56, 34, 53, 46, 42, 50, 36, 29, 32] : List Int)))))))))))))))))))))))))))))))))))))) fun v13 =>
         bif (roomB ((List.length h0) + (List.length ([v13] : List ((List Int))))) 24) then
          (X (((v9 ++ v10), ((v11 ++ v12), ((IntKind.wrap .i64 (i7 + 1)), ()))), ((h0 ++ ([v13] : List ((List Int)))), ())))
         else
          none
        else
         none
       else
        none
      else
       none
     else
      none
    else
     none
   else
    none
  else
   Option.bind (dropI c4 (2 : Int)) fun (v9 : (List Int)) =>
   Option.bind (takeI c4 (2 : Int)) fun (v10 : (List Int)) =>
   bif (roomB (List.length v9) 1) then
    bif (roomB ((List.length v9) + (List.length v10)) 1) then
     Option.bind (dropI d5 (2 : Int)) fun (v11 : (List Int)) =>
     Option.bind (takeI d5 (2 : Int)) fun (v12 : (List Int)) =>
     bif (roomB (List.length v11) 1) then
      bif (roomB ((List.length v11) + (List.length v12)) 1) then
       bif (roomB (List.length (v9 ++ v10)) 1) then
        bif (roomB ((List.length (v9 ++ v10)) + (List.length (v11 ++ v12))) 1) then
         Option.bind (ref08_by N ((v9 ++ v10) ++ (v11 ++ v12)) (@List.cons Int (14 : Int) (@List.cons Int (17 : Int) (@List.cons Int (11 : Int) (@List.cons Int (24 : Int) (@List.cons Int (1 : Int) (@List.cons Int (5 : Int) (@List.cons Int (3 : Int) (@List.cons Int (28 : Int) (@List.cons Int (15 : Int) (@List.cons Int (6 : Int) (@List.cons Int (21 : Int) (@List.cons Int (10 : Int) (@List.cons Int (23 : Int) (@List.cons Int (19 : Int) (@List.cons Int (12 : Int) (@List.cons Int (4 : Int) (@List.cons Int (26 : Int) (@List.cons Int (8 : Int) (@List.cons Int (16 : Int) (@List.cons Int (7 : Int) (@List.cons Int (27 : Int) (@List.cons Int (20 : Int) (@List.cons Int (13 : Int) (@List.cons Int (2 : Int) (@List.cons Int (41 : Int) (@List.cons Int (52 : Int) (@List.cons Int (31 : Int) (@List.cons Int (37 : Int) (@List.cons Int (47 : Int) (@List.cons Int (55 : Int) (@List.cons Int (30 : Int) (@List.cons Int (40 : Int) (@List.cons Int (51 : Int) (@List.cons Int (45 : Int) (@List.cons Int (33 : Int) (@List.cons Int (48 : Int) ([44, 49, 39, 56, 34, 53, 46, 42, 50, 36, 29, 32] : List Int)))))))))))))))))))))))))))))))))))))) fun v13 =>
         bif (roomB ((List.length h0) + (List.length ([v13] : List ((List Int))))) 24) then
          (X (((v9 ++ v10), ((v11 ++ v12), ((IntKind.wrap .i64 (i7 + 1)), ()))), ((h0 ++ ([v13] : List ((List Int)))), ())))
         else
          none
        else
         none
       else
        none
      else
       none
     else
      none
    else
     none
   else
    none
 else
  some (((), (h0, ())))
noncomputable def ref08_keys_L5_R (c : (((List Int) × ((List Int) × (Int × Unit))) × ((List (List Int)) × Unit))) : Option ((Unit × ((List (List Int)) × Unit))) := gl (fun X c => ref08_keys_L5 N X c.1.1 c.1.2.1 c.1.2.2.1 c.2.1) N c
theorem ref08_keys_L5_S (X : (((List Int) × ((List Int) × (Int × Unit))) × ((List (List Int)) × Unit)) → Option ((Unit × ((List (List Int)) × Unit)))) (c4 : List (Int)) (d5 : List (Int)) (i7 : Int) (h0 : List (List Int)) : (roundK Tryz.prog (Ev185 N) 400 [110] ref08_keys_L5_I (loopAt Tryz.prog [110] 5) X ((c4, d5, i7, ()), (h0, ()))).run = ref08_keys_L5 N X c4 d5 i7 h0 := by kernel_rfl
noncomputable def Ev186 : (R : Type) → Env R := Env.addLp (Ev185 N) [110] 0 5 (fun R => lpK Tryz.prog ref08_keys_L5_I (fun X c => ref08_keys_L5 N X c.1.1 c.1.2.1 c.1.2.2.1 c.2.1) N)
theorem Ev186_ok (R : Type) : EnvOK Tryz.prog (Ev186 N R) := EnvOK.addLp (Ev185_ok N R) (by kernel_rfl) (lpK_ok (li := ref08_keys_L5_I) (G := fun X c => ref08_keys_L5 N X c.1.1 c.1.2.1 c.1.2.2.1 c.2.1) hmx (Ev185_ok N _) (by kernel_rfl) loopAt_sub (fun (X : CT ref08_keys_L5_I.sh → Option (OT ref08_keys_L5_I.outs)) (c : CT ref08_keys_L5_I.sh) => ref08_keys_L5_S N X c.1.1 c.1.2.1 c.1.2.2.1 c.2.1) N)
noncomputable def ref08_keys (key0 : Int) : Option (List (List Int)) :=
 Option.bind (ref03_Row N key0 (64 : Int)) fun v2 =>
 Option.bind (ref08_by N v2 (@List.cons Int (57 : Int) (@List.cons Int (49 : Int) (@List.cons Int (41 : Int) (@List.cons Int (33 : Int) (@List.cons Int (25 : Int) (@List.cons Int (17 : Int) (@List.cons Int (9 : Int) (@List.cons Int (1 : Int) (@List.cons Int (58 : Int) (@List.cons Int (50 : Int) (@List.cons Int (42 : Int) (@List.cons Int (34 : Int) (@List.cons Int (26 : Int) (@List.cons Int (18 : Int) (@List.cons Int (10 : Int) (@List.cons Int (2 : Int) (@List.cons Int (59 : Int) (@List.cons Int (51 : Int) (@List.cons Int (43 : Int) (@List.cons Int (35 : Int) (@List.cons Int (27 : Int) (@List.cons Int (19 : Int) (@List.cons Int (11 : Int) (@List.cons Int (3 : Int) (@List.cons Int (60 : Int) (@List.cons Int (52 : Int) (@List.cons Int (44 : Int) (@List.cons Int (36 : Int) (@List.cons Int (63 : Int) (@List.cons Int (55 : Int) (@List.cons Int (47 : Int) (@List.cons Int (39 : Int) (@List.cons Int (31 : Int) (@List.cons Int (23 : Int) (@List.cons Int (15 : Int) (@List.cons Int (7 : Int) (@List.cons Int (62 : Int) (@List.cons Int (54 : Int) (@List.cons Int (46 : Int) (@List.cons Int (38 : Int) (@List.cons Int (30 : Int) (@List.cons Int (22 : Int) ([14, 6, 61, 53, 45, 37, 29, 21, 13, 5, 28, 20, 12, 4] : List Int)))))))))))))))))))))))))))))))))))))))))))) fun v3 =>
 Option.bind (takeI v3 (28 : Int)) fun (v4 : (List Int)) =>
 Option.bind (dropI v3 (28 : Int)) fun (v5 : (List Int)) =>
 Option.bind (ref08_keys_L5_R N ((v4, (v5, ((1 : Int), ()))), (([] : List ((List Int))), ()))) fun v6 =>
 some (v6.2.1)
theorem ref08_keys_S (key0 : Int) : (runK Tryz.prog (Ev186 N) 400 110 [(.int .u64)] [(.sl (.sl (.int .u8)))] (key0, ())).run = ref08_keys N key0 := by kernel_rfl
noncomputable def Ev187 : (R : Type) → Env R := Env.addFn (Ev186 N) 110 (fun R => fnK [(.int .u64)] [(.sl (.sl (.int .u8)))] (fun c => ref08_keys N c.1))
theorem Ev187_ok (R : Type) : EnvOK Tryz.prog (Ev187 N R) := EnvOK.addFn hmx (Ev186_ok N R) (Ev186_ok N _) (by kernel_rfl) (fun c => ref08_keys_S N c.1)
noncomputable def ref08_first (N : Nat) : Option (List Int) :=
 some (([58, 50, 42, 34, 26, 18, 10, 2, 60, 52, 44, 36, 28, 20, 12, 4, 62, 54, 46, 38, 30, 22, 14, 6, 64, 56, 48, 40, 32, 24, 16, 8, 57, 49, 41, 33, 25, 17, 9, 1, 59, 51, 43, 35, 27, 19, 11, 3, 61, 53, 45, 37, 29, 21, 13, 5, 63, 55, 47, 39, 31, 23, 15, 7] : List Int))
theorem ref08_first_S : (runK Tryz.prog (Ev187 N) 400 144 [] [(.sl (.int .i64))] ()).run = ref08_first N  := by kernel_rfl
noncomputable def Ev188 : (R : Type) → Env R := Env.addFn (Ev187 N) 144 (fun R => fnK [] [(.sl (.int .i64))] (fun c => ref08_first N ))
theorem Ev188_ok (R : Type) : EnvOK Tryz.prog (Ev188 N R) := EnvOK.addFn hmx (Ev187_ok N R) (Ev187_ok N _) (by kernel_rfl) (fun c => ref08_first_S N )
noncomputable def ref08_wide (N : Nat) : Option (List Int) :=
 some (([32, 1, 2, 3, 4, 5, 4, 5, 6, 7, 8, 9, 8, 9, 10, 11, 12, 13, 12, 13, 14, 15, 16, 17, 16, 17, 18, 19, 20, 21, 20, 21, 22, 23, 24, 25, 24, 25, 26, 27, 28, 29, 28, 29, 30, 31, 32, 1] : List Int))
theorem ref08_wide_S : (runK Tryz.prog (Ev188 N) 400 173 [] [(.sl (.int .i64))] ()).run = ref08_wide N  := by kernel_rfl
noncomputable def Ev189 : (R : Type) → Env R := Env.addFn (Ev188 N) 173 (fun R => fnK [] [(.sl (.int .i64))] (fun c => ref08_wide N ))
theorem Ev189_ok (R : Type) : EnvOK Tryz.prog (Ev189 N R) := EnvOK.addFn hmx (Ev188_ok N R) (Ev188_ok N _) (by kernel_rfl) (fun c => ref08_wide_S N )
noncomputable def ref08_turned_L3_I : LI := ⟨29, 0, [], ⟨[(0, .ty (.sl (.int .u8))), (1, .ty (.sl (.int .u8))), (5, .lit (.own 0)), (6, .ty (.int .i64))], [.own (.int .u8) 5]⟩, [(.exit 0, ⟨[(5, .lit (.own 0))], [.own (.int .u8) 5]⟩)]⟩
noncomputable def ref08_turned_L3 (N : Nat) (X : (((List Int) × ((List Int) × (Int × Unit))) × ((List Int) × Unit)) → Option ((Unit × ((List Int) × Unit)))) (a0 : List (Int)) (b1 : List (Int)) (i6 : Int) (h0 : List (Int)) : Option ((Unit × ((List Int) × Unit))) :=
 bif (decide (i6 < (((List.length a0) : Nat) : Int))) then
  Option.bind (getI a0 i6) fun (v6 : Int) =>
  Option.bind (getI b1 i6) fun (v7 : Int) =>
  bif (decide ((0 : Int) ≤ i6 ∧ i6 < (((List.length h0) : Nat) : Int))) then
   Option.bind (h0[Int.toNat i6]?) fun (v8 : Int) =>
   (X ((a0, (b1, ((IntKind.wrap .i64 (i6 + 1)), ()))), ((@List.set Int h0 (Int.toNat i6) (bits .xor .u8 v6 v7)), ())))
  else
   none
 else
  some (((), (h0, ())))
noncomputable def ref08_turned_L3_R (c : (((List Int) × ((List Int) × (Int × Unit))) × ((List Int) × Unit))) : Option ((Unit × ((List Int) × Unit))) := gl (fun X c => ref08_turned_L3 N X c.1.1 c.1.2.1 c.1.2.2.1 c.2.1) N c
theorem ref08_turned_L3_S (X : (((List Int) × ((List Int) × (Int × Unit))) × ((List Int) × Unit)) → Option ((Unit × ((List Int) × Unit)))) (a0 : List (Int)) (b1 : List (Int)) (i6 : Int) (h0 : List (Int)) : (roundK Tryz.prog (Ev189 N) 400 [145] ref08_turned_L3_I (loopAt Tryz.prog [145] 3) X ((a0, b1, i6, ()), (h0, ()))).run = ref08_turned_L3 N X a0 b1 i6 h0 := by kernel_rfl
noncomputable def Ev190 : (R : Type) → Env R := Env.addLp (Ev189 N) [145] 0 3 (fun R => lpK Tryz.prog ref08_turned_L3_I (fun X c => ref08_turned_L3 N X c.1.1 c.1.2.1 c.1.2.2.1 c.2.1) N)
theorem Ev190_ok (R : Type) : EnvOK Tryz.prog (Ev190 N R) := EnvOK.addLp (Ev189_ok N R) (by kernel_rfl) (lpK_ok (li := ref08_turned_L3_I) (G := fun X c => ref08_turned_L3 N X c.1.1 c.1.2.1 c.1.2.2.1 c.2.1) hmx (Ev189_ok N _) (by kernel_rfl) loopAt_sub (fun (X : CT ref08_turned_L3_I.sh → Option (OT ref08_turned_L3_I.outs)) (c : CT ref08_turned_L3_I.sh) => ref08_turned_L3_S N X c.1.1 c.1.2.1 c.1.2.2.1 c.2.1) N)
noncomputable def ref08_turned (a0 : List (Int)) (b1 : List (Int)) : Option (List Int) :=
 bif ((decide ((0 : Int) ≤ (((List.length a0) : Nat) : Int) ∧ (((List.length a0) : Nat) : Int) ≤ (((List.length a0) : Nat) : Int))) && (roomB (Int.toNat (((List.length a0) : Nat) : Int)) 1)) then
  Option.bind (ref08_turned_L3_R N ((a0, (b1, ((0 : Int), ()))), ((@List.replicate Int (Int.toNat (((List.length a0) : Nat) : Int)) (0 : Int)), ()))) fun v3 =>
  some (v3.2.1)
 else
  none
theorem ref08_turned_S (a0 : List (Int)) (b1 : List (Int)) : (runK Tryz.prog (Ev190 N) 400 145 [(.sl (.int .u8)), (.sl (.int .u8))] [(.sl (.int .u8))] (a0, b1, ())).run = ref08_turned N a0 b1 := by kernel_rfl
noncomputable def Ev191 : (R : Type) → Env R := Env.addFn (Ev190 N) 145 (fun R => fnK [(.sl (.int .u8)), (.sl (.int .u8))] [(.sl (.int .u8))] (fun c => ref08_turned N c.1 c.2.1))
theorem Ev191_ok (R : Type) : EnvOK Tryz.prog (Ev191 N R) := EnvOK.addFn hmx (Ev190_ok N R) (Ev190_ok N _) (by kernel_rfl) (fun c => ref08_turned_S N c.1 c.2.1)
noncomputable def ref03_Word_L3_I : LI := ⟨20, 0, [], ⟨[(0, .ty (.sl (.int .u8))), (3, .ty (.int .u64)), (4, .ty (.int .i64))], []⟩, [(.exit 0, ⟨[(3, .ty (.int .u64))], []⟩)]⟩
noncomputable def ref03_Word_L3 (N : Nat) (X : (((List Int) × (Int × (Int × Unit))) × Unit) → Option (((Int × Unit) × Unit))) (row0 : List (Int)) (x3 : Int) (i4 : Int) : Option (((Int × Unit) × Unit)) :=
 bif (decide (i4 < (((List.length row0) : Nat) : Int))) then
  Option.bind (getI row0 i4) fun (v5 : Int) =>
  (X ((row0, ((IntKind.wrap .u64 ((IntKind.wrap .u64 ((2 : Int) * x3)) + (IntKind.wrap .u64 v5))), ((IntKind.wrap .i64 (i4 + 1)), ()))), ()))
 else
  some (((x3, ()), ()))
noncomputable def ref03_Word_L3_R (c : (((List Int) × (Int × (Int × Unit))) × Unit)) : Option (((Int × Unit) × Unit)) := gl (fun X c => ref03_Word_L3 N X c.1.1 c.1.2.1 c.1.2.2.1) N c
theorem ref03_Word_L3_S (X : (((List Int) × (Int × (Int × Unit))) × Unit) → Option (((Int × Unit) × Unit))) (row0 : List (Int)) (x3 : Int) (i4 : Int) : (roundK Tryz.prog (Ev191 N) 400 [108] ref03_Word_L3_I (loopAt Tryz.prog [108] 3) X ((row0, x3, i4, ()), ())).run = ref03_Word_L3 N X row0 x3 i4 := by kernel_rfl
noncomputable def Ev192 : (R : Type) → Env R := Env.addLp (Ev191 N) [108] 0 3 (fun R => lpK Tryz.prog ref03_Word_L3_I (fun X c => ref03_Word_L3 N X c.1.1 c.1.2.1 c.1.2.2.1) N)
theorem Ev192_ok (R : Type) : EnvOK Tryz.prog (Ev192 N R) := EnvOK.addLp (Ev191_ok N R) (by kernel_rfl) (lpK_ok (li := ref03_Word_L3_I) (G := fun X c => ref03_Word_L3 N X c.1.1 c.1.2.1 c.1.2.2.1) hmx (Ev191_ok N _) (by kernel_rfl) loopAt_sub (fun (X : CT ref03_Word_L3_I.sh → Option (OT ref03_Word_L3_I.outs)) (c : CT ref03_Word_L3_I.sh) => ref03_Word_L3_S N X c.1.1 c.1.2.1 c.1.2.2.1) N)
noncomputable def ref03_Word (row0 : List (Int)) : Option Int :=
 Option.bind (ref03_Word_L3_R N ((row0, ((0 : Int), ((0 : Int), ()))), ())) fun v2 =>
 some (v2.1.1)
theorem ref03_Word_S (row0 : List (Int)) : (runK Tryz.prog (Ev192 N) 400 108 [(.sl (.int .u8))] [(.int .u64)] (row0, ())).run = ref03_Word N row0 := by kernel_rfl
noncomputable def Ev193 : (R : Type) → Env R := Env.addFn (Ev192 N) 108 (fun R => fnK [(.sl (.int .u8))] [(.int .u64)] (fun c => ref03_Word N c.1))
theorem Ev193_ok (R : Type) : EnvOK Tryz.prog (Ev193 N R) := EnvOK.addFn hmx (Ev192_ok N R) (Ev192_ok N _) (by kernel_rfl) (fun c => ref03_Word_S N c.1)
noncomputable def ref08_box (N : Nat) (n0 : Int) : Option (List Int) :=
 bif (decide (n0 = (1 : Int))) then
  some (([14, 4, 13, 1, 2, 15, 11, 8, 3, 10, 6, 12, 5, 9, 0, 7, 0, 15, 7, 4, 14, 2, 13, 1, 10, 6, 12, 11, 9, 5, 3, 8, 4, 1, 14, 8, 13, 6, 2, 11, 15, 12, 9, 7, 3, 10, 5, 0, 15, 12, 8, 2, 4, 9, 1, 7, 5, 11, 3, 14, 10, 0, 6, 13] : List Int))
 else
  bif (decide (n0 = (2 : Int))) then
   some (([15, 1, 8, 14, 6, 11, 3, 4, 9, 7, 2, 13, 12, 0, 5, 10, 3, 13, 4, 7, 15, 2, 8, 14, 12, 0, 1, 10, 6, 9, 11, 5, 0, 14, 7, 11, 10, 4, 13, 1, 5, 8, 12, 6, 9, 3, 2, 15, 13, 8, 10, 1, 3, 15, 4, 2, 11, 6, 7, 12, 0, 5, 14, 9] : List Int))
  else
   bif (decide (n0 = (3 : Int))) then
    some (([10, 0, 9, 14, 6, 3, 15, 5, 1, 13, 12, 7, 11, 4, 2, 8, 13, 7, 0, 9, 3, 4, 6, 10, 2, 8, 5, 14, 12, 11, 15, 1, 13, 6, 4, 9, 8, 15, 3, 0, 11, 1, 2, 12, 5, 10, 14, 7, 1, 10, 13, 0, 6, 9, 8, 7, 4, 15, 14, 3, 11, 5, 2, 12] : List Int))
   else
    bif (decide (n0 = (4 : Int))) then
     some (([7, 13, 14, 3, 0, 6, 9, 10, 1, 2, 8, 5, 11, 12, 4, 15, 13, 8, 11, 5, 6, 15, 0, 3, 4, 7, 2, 12, 1, 10, 14, 9, 10, 6, 9, 0, 12, 11, 7, 13, 15, 1, 3, 14, 5, 2, 8, 4, 3, 15, 0, 6, 10, 1, 13, 8, 9, 4, 5, 11, 12, 7, 2, 14] : List Int))
    else
     bif (decide (n0 = (5 : Int))) then
      some (([2, 12, 4, 1, 7, 10, 11, 6, 8, 5, 3, 15, 13, 0, 14, 9, 14, 11, 2, 12, 4, 7, 13, 1, 5, 0, 15, 10, 3, 9, 8, 6, 4, 2, 1, 11, 10, 13, 7, 8, 15, 9, 12, 5, 6, 3, 0, 14, 11, 8, 12, 7, 1, 14, 2, 13, 6, 15, 0, 9, 10, 4, 5, 3] : List Int))
     else
      bif (decide (n0 = (6 : Int))) then
       some (([12, 1, 10, 15, 9, 2, 6, 8, 0, 13, 3, 4, 14, 7, 5, 11, 10, 15, 4, 2, 7, 12, 9, 5, 6, 1, 13, 14, 0, 11, 3, 8, 9, 14, 15, 5, 2, 8, 12, 3, 7, 0, 4, 10, 1, 13, 11, 6, 4, 3, 2, 12, 9, 5, 15, 10, 11, 14, 1, 7, 6, 0, 8, 13] : List Int))
      else
       bif (decide (n0 = (7 : Int))) then
        some (([4, 11, 2, 14, 15, 0, 8, 13, 3, 12, 9, 7, 5, 10, 6, 1, 13, 0, 11, 7, 4, 9, 1, 10, 14, 3, 5, 12, 2, 15, 8, 6, 1, 4, 11, 13, 12, 3, 7, 14, 10, 15, 6, 8, 0, 5, 9, 2, 6, 11, 13, 8, 1, 4, 10, 7, 9, 5, 0, 15, 14, 2, 3, 12] : List Int))
       else
        bif (decide (n0 = (8 : Int))) then
         some (([13, 2, 8, 4, 6, 15, 11, 1, 10, 9, 3, 14, 5, 0, 12, 7, 1, 15, 13, 8, 10, 3, 7, 4, 12, 5, 6, 11, 0, 14, 9, 2, 7, 11, 4, 1, 9, 12, 14, 2, 0, 6, 10, 13, 15, 3, 5, 8, 2, 1, 14, 7, 4, 10, 8, 13, 15, 12, 9, 0, 3, 5, 6, 11] : List Int))
        else
         some ((@List.replicate Int (Int.toNat (64 : Int)) (0 : Int)))
theorem ref08_box_S (n0 : Int) : (runK Tryz.prog (Ev193 N) 400 191 [(.int .i64)] [(.sl (.int .i64))] (n0, ())).run = ref08_box N n0 := by kernel_rfl
noncomputable def Ev194 : (R : Type) → Env R := Env.addFn (Ev193 N) 191 (fun R => fnK [(.int .i64)] [(.sl (.int .i64))] (fun c => ref08_box N c.1))
theorem Ev194_ok (R : Type) : EnvOK Tryz.prog (Ev194 N R) := EnvOK.addFn hmx (Ev193_ok N R) (Ev193_ok N _) (by kernel_rfl) (fun c => ref08_box_S N c.1)
noncomputable def ref08_digit (n0 : Int) (six1 : List (Int)) : Option Int :=
 Option.bind (getI six1 (0 : Int)) fun (v3 : Int) =>
 Option.bind (getI six1 (5 : Int)) fun (v4 : Int) =>
 Option.bind (subI six1 (1 : Int) (5 : Int)) fun (v5 : (List Int)) =>
 Option.bind (ref03_Word N v5) fun v6 =>
 Option.bind (ref08_box N n0) fun v7 =>
 Option.bind (getI v7 (IntKind.wrap .i64 ((IntKind.wrap .i64 ((16 : Int) * (IntKind.wrap .i64 ((IntKind.wrap .i64 ((2 : Int) * (IntKind.wrap .i64 v3))) + (IntKind.wrap .i64 v4))))) + (IntKind.wrap .i64 v6)))) fun (v8 : Int) =>
 some (v8)
theorem ref08_digit_S (n0 : Int) (six1 : List (Int)) : (runK Tryz.prog (Ev194 N) 400 174 [(.int .i64), (.sl (.int .u8))] [(.int .i64)] (n0, six1, ())).run = ref08_digit N n0 six1 := by kernel_rfl
noncomputable def Ev195 : (R : Type) → Env R := Env.addFn (Ev194 N) 174 (fun R => fnK [(.int .i64), (.sl (.int .u8))] [(.int .i64)] (fun c => ref08_digit N c.1 c.2.1))
theorem Ev195_ok (R : Type) : EnvOK Tryz.prog (Ev195 N R) := EnvOK.addFn hmx (Ev194_ok N R) (Ev194_ok N _) (by kernel_rfl) (fun c => ref08_digit_S N c.1 c.2.1)
noncomputable def ref08_word_L4_I : LI := ⟨34, 0, [(6, 5)], ⟨[(5, .ty (.sl (.int .u8))), (6, .lit (.own 0)), (7, .ty (.int .i64))], [.own (.int .u8) 5]⟩, [(.exit 0, ⟨[(6, .lit (.own 0))], [.own (.int .u8) 5]⟩)]⟩
noncomputable def ref08_word_L4 (X : (((List Int) × (Int × Unit)) × ((List Int) × Unit)) → Option ((Unit × ((List Int) × Unit)))) (x5 : List (Int)) (i7 : Int) (h0 : List (Int)) : Option ((Unit × ((List Int) × Unit))) :=
 bif (decide (i7 < (8 : Int))) then
  Option.bind (subI x5 (IntKind.wrap .i64 ((6 : Int) * i7)) (IntKind.wrap .i64 ((IntKind.wrap .i64 ((6 : Int) * i7)) + 6))) fun (v5 : (List Int)) =>
  Option.bind (ref08_digit N (IntKind.wrap .i64 (i7 + 1)) v5) fun v6 =>
  Option.bind (ref03_Row N (IntKind.wrap .u64 v6) (4 : Int)) fun v7 =>
  bif (roomB ((List.length h0) + (List.length v7)) 1) then
   (X ((x5, ((IntKind.wrap .i64 (i7 + 1)), ())), ((h0 ++ v7), ())))
  else
   none
 else
  some (((), (h0, ())))
noncomputable def ref08_word_L4_R (c : (((List Int) × (Int × Unit)) × ((List Int) × Unit))) : Option ((Unit × ((List Int) × Unit))) := gl (fun X c => ref08_word_L4 N X c.1.1 c.1.2.1 c.2.1) N c
theorem ref08_word_L4_S (X : (((List Int) × (Int × Unit)) × ((List Int) × Unit)) → Option ((Unit × ((List Int) × Unit)))) (x5 : List (Int)) (i7 : Int) (h0 : List (Int)) : (roundK Tryz.prog (Ev195 N) 400 [146] ref08_word_L4_I (loopAt Tryz.prog [146] 4) X ((x5, i7, ()), (h0, ()))).run = ref08_word_L4 N X x5 i7 h0 := by kernel_rfl
noncomputable def Ev196 : (R : Type) → Env R := Env.addLp (Ev195 N) [146] 0 4 (fun R => lpK Tryz.prog ref08_word_L4_I (fun X c => ref08_word_L4 N X c.1.1 c.1.2.1 c.2.1) N)
theorem Ev196_ok (R : Type) : EnvOK Tryz.prog (Ev196 N R) := EnvOK.addLp (Ev195_ok N R) (by kernel_rfl) (lpK_ok (li := ref08_word_L4_I) (G := fun X c => ref08_word_L4 N X c.1.1 c.1.2.1 c.2.1) hmx (Ev195_ok N _) (by kernel_rfl) loopAt_sub (fun (X : CT ref08_word_L4_I.sh → Option (OT ref08_word_L4_I.outs)) (c : CT ref08_word_L4_I.sh) => ref08_word_L4_S N X c.1.1 c.1.2.1 c.2.1) N)
noncomputable def ref08_mixing (N : Nat) : Option (List Int) :=
 some (([16, 7, 20, 21, 29, 12, 28, 17, 1, 15, 23, 26, 5, 18, 31, 10, 2, 8, 24, 14, 32, 27, 3, 9, 19, 13, 30, 6, 22, 11, 4, 25] : List Int))
theorem ref08_mixing_S : (runK Tryz.prog (Ev196 N) 400 175 [] [(.sl (.int .i64))] ()).run = ref08_mixing N  := by kernel_rfl
noncomputable def Ev197 : (R : Type) → Env R := Env.addFn (Ev196 N) 175 (fun R => fnK [] [(.sl (.int .i64))] (fun c => ref08_mixing N ))
theorem Ev197_ok (R : Type) : EnvOK Tryz.prog (Ev197 N R) := EnvOK.addFn hmx (Ev196_ok N R) (Ev196_ok N _) (by kernel_rfl) (fun c => ref08_mixing_S N )
noncomputable def ref08_word (half0 : List (Int)) (key1 : List (Int)) : Option (List Int) :=
 Option.bind (ref08_by N half0 (@List.cons Int (32 : Int) (@List.cons Int (1 : Int) (@List.cons Int (2 : Int) (@List.cons Int (3 : Int) (@List.cons Int (4 : Int) (@List.cons Int (5 : Int) (@List.cons Int (4 : Int) (@List.cons Int (5 : Int) (@List.cons Int (6 : Int) (@List.cons Int (7 : Int) (@List.cons Int (8 : Int) (@List.cons Int (9 : Int) (@List.cons Int (8 : Int) (@List.cons Int (9 : Int) (@List.cons Int (10 : Int) (@List.cons Int (11 : Int) (@List.cons Int (12 : Int) (@List.cons Int (13 : Int) (@List.cons Int (12 : Int) (@List.cons Int (13 : Int) (@List.cons Int (14 : Int) (@List.cons Int (15 : Int) (@List.cons Int (16 : Int) (@List.cons Int (17 : Int) (@List.cons Int (16 : Int) (@List.cons Int (17 : Int) (@List.cons Int (18 : Int) (@List.cons Int (19 : Int) (@List.cons Int (20 : Int) (@List.cons Int (21 : Int) (@List.cons Int (20 : Int) (@List.cons Int (21 : Int) (@List.cons Int (22 : Int) (@List.cons Int (23 : Int) (@List.cons Int (24 : Int) (@List.cons Int (25 : Int) ([24, 25, 26, 27, 28, 29, 28, 29, 30, 31, 32, 1] : List Int)))))))))))))))))))))))))))))))))))))) fun v3 =>
 Option.bind (ref08_turned N v3 key1) fun v4 =>
 Option.bind (ref08_word_L4_R N ((v4, ((0 : Int), ())), (([] : List Int), ()))) fun v5 =>
 Option.bind (ref08_by N v5.2.1 ([16, 7, 20, 21, 29, 12, 28, 17, 1, 15, 23, 26, 5, 18, 31, 10, 2, 8, 24, 14, 32, 27, 3, 9, 19, 13, 30, 6, 22, 11, 4, 25] : List Int)) fun v6 =>
 some (v6)
theorem ref08_word_S (half0 : List (Int)) (key1 : List (Int)) : (runK Tryz.prog (Ev197 N) 400 146 [(.sl (.int .u8)), (.sl (.int .u8))] [(.sl (.int .u8))] (half0, key1, ())).run = ref08_word N half0 key1 := by kernel_rfl
noncomputable def Ev198 : (R : Type) → Env R := Env.addFn (Ev197 N) 146 (fun R => fnK [(.sl (.int .u8)), (.sl (.int .u8))] [(.sl (.int .u8))] (fun c => ref08_word N c.1 c.2.1))
theorem Ev198_ok (R : Type) : EnvOK Tryz.prog (Ev198 N R) := EnvOK.addFn hmx (Ev197_ok N R) (Ev197_ok N _) (by kernel_rfl) (fun c => ref08_word_S N c.1 c.2.1)
noncomputable def ref08_turn_L4_I : LI := ⟨39, 0, [], ⟨[(1, .ty (.sl (.sl (.int .u8)))), (6, .ty (.sl (.int .u8))), (7, .ty (.sl (.int .u8))), (8, .ty (.int .i64))], []⟩, [(.exit 0, ⟨[(6, .ty (.sl (.int .u8))), (7, .ty (.sl (.int .u8)))], []⟩)]⟩
noncomputable def ref08_turn_L4 (X : (((List (List Int)) × ((List Int) × ((List Int) × (Int × Unit)))) × Unit) → Option ((((List Int) × ((List Int) × Unit)) × Unit))) (l1 : List (List Int)) (left6 : List (Int)) (right7 : List (Int)) (i8 : Int) : Option ((((List Int) × ((List Int) × Unit)) × Unit)) :=
 bif (decide (i8 < (((List.length l1) : Nat) : Int))) then
  Option.bind (getI l1 i8) fun (v6 : (List Int)) =>
  Option.bind (ref08_word N right7 v6) fun v7 =>
  Option.bind (ref08_turned N left6 v7) fun v8 =>
  (X ((l1, (right7, (v8, ((IntKind.wrap .i64 (i8 + 1)), ())))), ()))
 else
  some (((left6, (right7, ())), ()))
noncomputable def ref08_turn_L4_R (c : (((List (List Int)) × ((List Int) × ((List Int) × (Int × Unit)))) × Unit)) : Option ((((List Int) × ((List Int) × Unit)) × Unit)) := gl (fun X c => ref08_turn_L4 N X c.1.1 c.1.2.1 c.1.2.2.1 c.1.2.2.2.1) N c
theorem ref08_turn_L4_S (X : (((List (List Int)) × ((List Int) × ((List Int) × (Int × Unit)))) × Unit) → Option ((((List Int) × ((List Int) × Unit)) × Unit))) (l1 : List (List Int)) (left6 : List (Int)) (right7 : List (Int)) (i8 : Int) : (roundK Tryz.prog (Ev198 N) 400 [109] ref08_turn_L4_I (loopAt Tryz.prog [109] 4) X ((l1, left6, right7, i8, ()), ())).run = ref08_turn_L4 N X l1 left6 right7 i8 := by kernel_rfl
noncomputable def Ev199 : (R : Type) → Env R := Env.addLp (Ev198 N) [109] 0 4 (fun R => lpK Tryz.prog ref08_turn_L4_I (fun X c => ref08_turn_L4 N X c.1.1 c.1.2.1 c.1.2.2.1 c.1.2.2.2.1) N)
theorem Ev199_ok (R : Type) : EnvOK Tryz.prog (Ev199 N R) := EnvOK.addLp (Ev198_ok N R) (by kernel_rfl) (lpK_ok (li := ref08_turn_L4_I) (G := fun X c => ref08_turn_L4 N X c.1.1 c.1.2.1 c.1.2.2.1 c.1.2.2.2.1) hmx (Ev198_ok N _) (by kernel_rfl) loopAt_sub (fun (X : CT ref08_turn_L4_I.sh → Option (OT ref08_turn_L4_I.outs)) (c : CT ref08_turn_L4_I.sh) => ref08_turn_L4_S N X c.1.1 c.1.2.1 c.1.2.2.1 c.1.2.2.2.1) N)
noncomputable def ref08_last (N : Nat) : Option (List Int) :=
 some (([40, 8, 48, 16, 56, 24, 64, 32, 39, 7, 47, 15, 55, 23, 63, 31, 38, 6, 46, 14, 54, 22, 62, 30, 37, 5, 45, 13, 53, 21, 61, 29, 36, 4, 44, 12, 52, 20, 60, 28, 35, 3, 43, 11, 51, 19, 59, 27, 34, 2, 42, 10, 50, 18, 58, 26, 33, 1, 41, 9, 49, 17, 57, 25] : List Int))
theorem ref08_last_S : (runK Tryz.prog (Ev199 N) 400 147 [] [(.sl (.int .i64))] ()).run = ref08_last N  := by kernel_rfl
noncomputable def Ev200 : (R : Type) → Env R := Env.addFn (Ev199 N) 147 (fun R => fnK [] [(.sl (.int .i64))] (fun c => ref08_last N ))
theorem Ev200_ok (R : Type) : EnvOK Tryz.prog (Ev200 N R) := EnvOK.addFn hmx (Ev199_ok N R) (Ev199_ok N _) (by kernel_rfl) (fun c => ref08_last_S N )
noncomputable def ref08_turn (block0 : Int) (l1 : List (List Int)) : Option Int :=
 Option.bind (ref03_Row N block0 (64 : Int)) fun v3 =>
 Option.bind (ref08_by N v3 (@List.cons Int (58 : Int) (@List.cons Int (50 : Int) (@List.cons Int (42 : Int) (@List.cons Int (34 : Int) (@List.cons Int (26 : Int) (@List.cons Int (18 : Int) (@List.cons Int (10 : Int) (@List.cons Int (2 : Int) (@List.cons Int (60 : Int) (@List.cons Int (52 : Int) (@List.cons Int (44 : Int) (@List.cons Int (36 : Int) (@List.cons Int (28 : Int) (@List.cons Int (20 : Int) (@List.cons Int (12 : Int) (@List.cons Int (4 : Int) (@List.cons Int (62 : Int) (@List.cons Int (54 : Int) (@List.cons Int (46 : Int) (@List.cons Int (38 : Int) (@List.cons Int (30 : Int) (@List.cons Int (22 : Int) (@List.cons Int (14 : Int) (@List.cons Int (6 : Int) (@List.cons Int (64 : Int) (@List.cons Int (56 : Int) (@List.cons Int (48 : Int) (@List.cons Int (40 : Int) (@List.cons Int (32 : Int) (@List.cons Int (24 : Int) (@List.cons Int (16 : Int) (@List.cons Int (8 : Int) (@List.cons Int (57 : Int) (@List.cons Int (49 : Int) (@List.cons Int (41 : Int) (@List.cons Int (33 : Int) (@List.cons Int (25 : Int) (@List.cons Int (17 : Int) (@List.cons Int (9 : Int) (@List.cons Int (1 : Int) (@List.cons Int (59 : Int) (@List.cons Int (51 : Int) (@List.cons Int (43 : Int) (@List.cons Int (35 : Int) (@List.cons Int (27 : Int) (@List.cons Int (19 : Int) (@List.cons Int (11 : Int) (@List.cons Int (3 : Int) (@List.cons Int (61 : Int) (@List.cons Int (53 : Int) (@List.cons Int (45 : Int) (@List.cons Int (37 : Int) (@List.cons Int (29 : Int) (@List.cons Int (21 : Int) (@List.cons Int (13 : Int) (@List.cons Int (5 : Int) ([63, 55, 47, 39, 31, 23, 15, 7] : List Int)))))))))))))))))))))))))))))))))))))))))))))))))))))))))) fun v4 =>
 Option.bind (takeI v4 (32 : Int)) fun (v5 : (List Int)) =>
 Option.bind (dropI v4 (32 : Int)) fun (v6 : (List Int)) =>
 Option.bind (ref08_turn_L4_R N ((l1, (v5, (v6, ((0 : Int), ())))), ())) fun v7 =>
 bif (roomB (List.length v7.1.2.1) 1) then
  bif (roomB ((List.length v7.1.2.1) + (List.length v7.1.1)) 1) then
   Option.bind (ref08_by N (v7.1.2.1 ++ v7.1.1) (@List.cons Int (40 : Int) (@List.cons Int (8 : Int) (@List.cons Int (48 : Int) (@List.cons Int (16 : Int) (@List.cons Int (56 : Int) (@List.cons Int (24 : Int) (@List.cons Int (64 : Int) (@List.cons Int (32 : Int) (@List.cons Int (39 : Int) (@List.cons Int (7 : Int) (@List.cons Int (47 : Int) (@List.cons Int (15 : Int) (@List.cons Int (55 : Int) (@List.cons Int (23 : Int) (@List.cons Int (63 : Int) (@List.cons Int (31 : Int) (@List.cons Int (38 : Int) (@List.cons Int (6 : Int) (@List.cons Int (46 : Int) (@List.cons Int (14 : Int) (@List.cons Int (54 : Int) (@List.cons Int (22 : Int) (@List.cons Int (62 : Int) (@List.cons Int (30 : Int) (@List.cons Int (37 : Int) (@List.cons Int (5 : Int) (@List.cons Int (45 : Int) (@List.cons Int (13 : Int) (@List.cons Int (53 : Int) (@List.cons Int (21 : Int) (@List.cons Int (61 : Int) (@List.cons Int (29 : Int) (@List.cons Int (36 : Int) (@List.cons Int (4 : Int) (@List.cons Int (44 : Int) (@List.cons Int (12 : Int) (@List.cons Int (52 : Int) (@List.cons Int (20 : Int) (@List.cons Int (60 : Int) (@List.cons Int (28 : Int) (@List.cons Int (35 : Int) (@List.cons Int (3 : Int) (@List.cons Int (43 : Int) (@List.cons Int (11 : Int) (@List.cons Int (51 : Int) (@List.cons Int (19 : Int) (@List.cons Int (59 : Int) (@List.cons Int (27 : Int) (@List.cons Int (34 : Int) (@List.cons Int (2 : Int) (@List.cons Int (42 : Int) (@List.cons Int (10 : Int) (@List.cons Int (50 : Int) (@List.cons Int (18 : Int) (@List.cons Int (58 : Int) (@List.cons Int (26 : Int) ([33, 1, 41, 9, 49, 17, 57, 25] : List Int)))))))))))))))))))))))))))))))))))))))))))))))))))))))))) fun v8 =>
   Option.bind (ref03_Word N v8) fun v9 =>
   some (v9)
  else
   none
 else
  none
theorem ref08_turn_S (block0 : Int) (l1 : List (List Int)) : (runK Tryz.prog (Ev200 N) 400 109 [(.int .u64), (.sl (.sl (.int .u8)))] [(.int .u64)] (block0, l1, ())).run = ref08_turn N block0 l1 := by kernel_rfl
noncomputable def Ev201 : (R : Type) → Env R := Env.addFn (Ev200 N) 109 (fun R => fnK [(.int .u64), (.sl (.sl (.int .u8)))] [(.int .u64)] (fun c => ref08_turn N c.1 c.2.1))
theorem Ev201_ok (R : Type) : EnvOK Tryz.prog (Ev201 N R) := EnvOK.addFn hmx (Ev200_ok N R) (Ev200_ok N _) (by kernel_rfl) (fun c => ref08_turn_S N c.1 c.2.1)
noncomputable def ref08_Turn (key0 : Int) (block1 : Int) : Option Int :=
 Option.bind (ref08_keys N key0) fun v3 =>
 Option.bind (ref08_turn N block1 v3) fun v4 =>
 some (v4)
theorem ref08_Turn_S (key0 : Int) (block1 : Int) : (runK Tryz.prog (Ev201 N) 400 73 [(.int .u64), (.int .u64)] [(.int .u64)] (key0, block1, ())).run = ref08_Turn N key0 block1 := by kernel_rfl
noncomputable def Ev202 : (R : Type) → Env R := Env.addFn (Ev201 N) 73 (fun R => fnK [(.int .u64), (.int .u64)] [(.int .u64)] (fun c => ref08_Turn N c.1 c.2.1))
theorem Ev202_ok (R : Type) : EnvOK Tryz.prog (Ev202 N R) := EnvOK.addFn hmx (Ev201_ok N R) (Ev201_ok N _) (by kernel_rfl) (fun c => ref08_Turn_S N c.1 c.2.1)
noncomputable def ref03_Spread_L5_I : LI := ⟨42, 0, [(4, 5)], ⟨[(0, .ty (.sl (.int .u8))), (4, .lit (.own 0)), (5, .lit (.c (.slice none 0 0))), (6, .ty (.int .i64))], [.own (.int .u8) 5]⟩, [(.exit 0, ⟨[(4, .lit (.own 0)), (5, .lit (.c (.slice none 0 0)))], [.own (.int .u8) 5]⟩)]⟩
noncomputable def ref03_Spread_L5 (X : (((List Int) × (Int × Unit)) × ((List Int) × Unit)) → Option ((Unit × ((List Int) × Unit)))) (key0 : List (Int)) (i6 : Int) (h0 : List (Int)) : Option ((Unit × ((List Int) × Unit))) :=
 bif (decide (i6 < (7 : Int))) then
  Option.bind (getI key0 i6) fun (v5 : Int) =>
  Option.bind (ref03_Row N (IntKind.wrap .u64 v5) (8 : Int)) fun v6 =>
  bif (roomB ((List.length h0) + (List.length v6)) 1) then
   (X ((key0, ((IntKind.wrap .i64 (i6 + 1)), ())), ((h0 ++ v6), ())))
  else
   none
 else
  some (((), (h0, ())))
noncomputable def ref03_Spread_L5_R (c : (((List Int) × (Int × Unit)) × ((List Int) × Unit))) : Option ((Unit × ((List Int) × Unit))) := gl (fun X c => ref03_Spread_L5 N X c.1.1 c.1.2.1 c.2.1) N c
theorem ref03_Spread_L5_S (X : (((List Int) × (Int × Unit)) × ((List Int) × Unit)) → Option ((Unit × ((List Int) × Unit)))) (key0 : List (Int)) (i6 : Int) (h0 : List (Int)) : (roundK Tryz.prog (Ev202 N) 400 [71] ref03_Spread_L5_I (loopAt Tryz.prog [71] 5) X ((key0, i6, ()), (h0, ()))).run = ref03_Spread_L5 N X key0 i6 h0 := by kernel_rfl
noncomputable def Ev203 : (R : Type) → Env R := Env.addLp (Ev202 N) [71] 0 5 (fun R => lpK Tryz.prog ref03_Spread_L5_I (fun X c => ref03_Spread_L5 N X c.1.1 c.1.2.1 c.2.1) N)
theorem Ev203_ok (R : Type) : EnvOK Tryz.prog (Ev203 N R) := EnvOK.addLp (Ev202_ok N R) (by kernel_rfl) (lpK_ok (li := ref03_Spread_L5_I) (G := fun X c => ref03_Spread_L5 N X c.1.1 c.1.2.1 c.2.1) hmx (Ev202_ok N _) (by kernel_rfl) loopAt_sub (fun (X : CT ref03_Spread_L5_I.sh → Option (OT ref03_Spread_L5_I.outs)) (c : CT ref03_Spread_L5_I.sh) => ref03_Spread_L5_S N X c.1.1 c.1.2.1 c.2.1) N)
noncomputable def ref03_Odd_L3_I : LI := ⟨23, 0, [], ⟨[(0, .ty (.int .u8)), (3, .ty (.int .u8)), (4, .ty (.int .i64))], []⟩, [(.exit 0, ⟨[(0, .ty (.int .u8)), (3, .ty (.int .u8))], []⟩)]⟩
noncomputable def ref03_Odd_L3 (N : Nat) (X : ((Int × (Int × (Int × Unit))) × Unit) → Option (((Int × (Int × Unit)) × Unit))) (b0 : Int) (n3 : Int) (i4 : Int) : Option (((Int × (Int × Unit)) × Unit)) :=
 bif (decide (i4 < (8 : Int))) then
  bif (decide ((0 : Int) ≤ i4)) then
   (X ((b0, ((IntKind.wrap .u8 (n3 + (@Int.tmod (@Int.fdiv b0 ((2 : Int) ^ (min (Int.toNat i4) (IntKind.bits .u8)))) (2 : Int)))), ((IntKind.wrap .i64 (i4 + 1)), ()))), ()))
  else
   none
 else
  some (((b0, (n3, ())), ()))
noncomputable def ref03_Odd_L3_R (c : ((Int × (Int × (Int × Unit))) × Unit)) : Option (((Int × (Int × Unit)) × Unit)) := gl (fun X c => ref03_Odd_L3 N X c.1.1 c.1.2.1 c.1.2.2.1) N c
theorem ref03_Odd_L3_S (X : ((Int × (Int × (Int × Unit))) × Unit) → Option (((Int × (Int × Unit)) × Unit))) (b0 : Int) (n3 : Int) (i4 : Int) : (roundK Tryz.prog (Ev203 N) 400 [107] ref03_Odd_L3_I (loopAt Tryz.prog [107] 3) X ((b0, n3, i4, ()), ())).run = ref03_Odd_L3 N X b0 n3 i4 := by kernel_rfl
noncomputable def Ev204 : (R : Type) → Env R := Env.addLp (Ev203 N) [107] 0 3 (fun R => lpK Tryz.prog ref03_Odd_L3_I (fun X c => ref03_Odd_L3 N X c.1.1 c.1.2.1 c.1.2.2.1) N)
theorem Ev204_ok (R : Type) : EnvOK Tryz.prog (Ev204 N R) := EnvOK.addLp (Ev203_ok N R) (by kernel_rfl) (lpK_ok (li := ref03_Odd_L3_I) (G := fun X c => ref03_Odd_L3 N X c.1.1 c.1.2.1 c.1.2.2.1) hmx (Ev203_ok N _) (by kernel_rfl) loopAt_sub (fun (X : CT ref03_Odd_L3_I.sh → Option (OT ref03_Odd_L3_I.outs)) (c : CT ref03_Odd_L3_I.sh) => ref03_Odd_L3_S N X c.1.1 c.1.2.1 c.1.2.2.1) N)
noncomputable def ref03_Odd (b0 : Int) : Option Int :=
 Option.bind (ref03_Odd_L3_R N ((b0, ((0 : Int), ((1 : Int), ()))), ())) fun v2 =>
 some ((IntKind.wrap .u8 ((IntKind.wrap .u8 (v2.1.1 - (@Int.tmod v2.1.1 (2 : Int)))) + (@Int.tmod (IntKind.wrap .u8 (v2.1.2.1 + 1)) (2 : Int)))))
theorem ref03_Odd_S (b0 : Int) : (runK Tryz.prog (Ev204 N) 400 107 [(.int .u8)] [(.int .u8)] (b0, ())).run = ref03_Odd N b0 := by kernel_rfl
noncomputable def Ev205 : (R : Type) → Env R := Env.addFn (Ev204 N) 107 (fun R => fnK [(.int .u8)] [(.int .u8)] (fun c => ref03_Odd N c.1))
theorem Ev205_ok (R : Type) : EnvOK Tryz.prog (Ev205 N R) := EnvOK.addFn hmx (Ev204_ok N R) (Ev204_ok N _) (by kernel_rfl) (fun c => ref03_Odd_S N c.1)
noncomputable def ref03_Spread_L9_I : LI := ⟨42, 0, [(5, 5)], ⟨[(4, .ty (.sl (.int .u8))), (5, .lit (.own 0)), (7, .ty (.int .i64))], [.own (.int .u8) 5]⟩, [(.exit 2, ⟨[(5, .lit (.own 0))], [.own (.int .u8) 5]⟩)]⟩
noncomputable def ref03_Spread_L9 (X : (((List Int) × (Int × Unit)) × ((List Int) × Unit)) → Option ((Unit × ((List Int) × Unit)))) (row4 : List (Int)) (i7 : Int) (h0 : List (Int)) : Option ((Unit × ((List Int) × Unit))) :=
 bif (decide (i7 < (8 : Int))) then
  Option.bind (subI row4 (IntKind.wrap .i64 ((7 : Int) * i7)) (IntKind.wrap .i64 ((IntKind.wrap .i64 ((7 : Int) * i7)) + 7))) fun (v5 : (List Int)) =>
  Option.bind (ref03_Word N v5) fun v6 =>
  Option.bind (ref03_Odd N (IntKind.wrap .u8 (IntKind.wrap .u64 ((2 : Int) * v6)))) fun v7 =>
  bif (roomB ((List.length h0) + (List.length ([v7] : List (Int)))) 1) then
   (X ((row4, ((IntKind.wrap .i64 (i7 + 1)), ())), ((h0 ++ ([v7] : List (Int))), ())))
  else
   none
 else
  some (((), (h0, ())))
noncomputable def ref03_Spread_L9_R (c : (((List Int) × (Int × Unit)) × ((List Int) × Unit))) : Option ((Unit × ((List Int) × Unit))) := gl (fun X c => ref03_Spread_L9 N X c.1.1 c.1.2.1 c.2.1) N c
theorem ref03_Spread_L9_S (X : (((List Int) × (Int × Unit)) × ((List Int) × Unit)) → Option ((Unit × ((List Int) × Unit)))) (row4 : List (Int)) (i7 : Int) (h0 : List (Int)) : (roundK Tryz.prog (Ev205 N) 400 [71] ref03_Spread_L9_I (loopAt Tryz.prog [71] 9) X ((row4, i7, ()), (h0, ()))).run = ref03_Spread_L9 N X row4 i7 h0 := by kernel_rfl
noncomputable def Ev206 : (R : Type) → Env R := Env.addLp (Ev205 N) [71] 0 9 (fun R => lpK Tryz.prog ref03_Spread_L9_I (fun X c => ref03_Spread_L9 N X c.1.1 c.1.2.1 c.2.1) N)
theorem Ev206_ok (R : Type) : EnvOK Tryz.prog (Ev206 N R) := EnvOK.addLp (Ev205_ok N R) (by kernel_rfl) (lpK_ok (li := ref03_Spread_L9_I) (G := fun X c => ref03_Spread_L9 N X c.1.1 c.1.2.1 c.2.1) hmx (Ev205_ok N _) (by kernel_rfl) loopAt_sub (fun (X : CT ref03_Spread_L9_I.sh → Option (OT ref03_Spread_L9_I.outs)) (c : CT ref03_Spread_L9_I.sh) => ref03_Spread_L9_S N X c.1.1 c.1.2.1 c.2.1) N)
noncomputable def ref03_Spread (key0 : List (Int)) : Option ((List Int) × Int) :=
 bif (!(decide ((((List.length key0) : Nat) : Int) = (7 : Int)))) then
  some ((([] : List Int), (1 : Int)))
 else
  Option.bind (ref03_Spread_L5_R N ((key0, ((0 : Int), ())), (([] : List Int), ()))) fun v2 =>
  Option.bind (ref03_Spread_L9_R N ((v2.2.1, ((0 : Int), ())), (([] : List Int), ()))) fun v3 =>
  some ((v3.2.1, (0 : Int)))
theorem ref03_Spread_S (key0 : List (Int)) : (runK Tryz.prog (Ev206 N) 400 71 [(.sl (.int .u8))] [(.sl (.int .u8)), (.int .i64)] (key0, ())).run = ref03_Spread N key0 := by kernel_rfl
noncomputable def Ev207 : (R : Type) → Env R := Env.addFn (Ev206 N) 71 (fun R => fnK [(.sl (.int .u8))] [(.sl (.int .u8)), (.int .i64)] (fun c => ref03_Spread N c.1))
theorem Ev207_ok (R : Type) : EnvOK Tryz.prog (Ev207 N R) := EnvOK.addFn hmx (Ev206_ok N R) (Ev206_ok N _) (by kernel_rfl) (fun c => ref03_Spread_S N c.1)
noncomputable def ref01_Num_L3_I : LI := ⟨20, 0, [], ⟨[(0, .ty (.sl (.int .u8))), (3, .ty (.int .u64)), (4, .ty (.int .i64))], []⟩, [(.exit 0, ⟨[(3, .ty (.int .u64))], []⟩)]⟩
noncomputable def ref01_Num_L3 (N : Nat) (X : (((List Int) × (Int × (Int × Unit))) × Unit) → Option (((Int × Unit) × Unit))) (b0 : List (Int)) (n3 : Int) (i4 : Int) : Option (((Int × Unit) × Unit)) :=
 bif (decide (i4 < (((List.length b0) : Nat) : Int))) then
  Option.bind (getI b0 i4) fun (v5 : Int) =>
  (X ((b0, ((IntKind.wrap .u64 ((IntKind.wrap .u64 (n3 * (256 : Int))) + (IntKind.wrap .u64 v5))), ((IntKind.wrap .i64 (i4 + 1)), ()))), ()))
 else
  some (((n3, ()), ()))
noncomputable def ref01_Num_L3_R (c : (((List Int) × (Int × (Int × Unit))) × Unit)) : Option (((Int × Unit) × Unit)) := gl (fun X c => ref01_Num_L3 N X c.1.1 c.1.2.1 c.1.2.2.1) N c
theorem ref01_Num_L3_S (X : (((List Int) × (Int × (Int × Unit))) × Unit) → Option (((Int × Unit) × Unit))) (b0 : List (Int)) (n3 : Int) (i4 : Int) : (roundK Tryz.prog (Ev207 N) 400 [74] ref01_Num_L3_I (loopAt Tryz.prog [74] 3) X ((b0, n3, i4, ()), ())).run = ref01_Num_L3 N X b0 n3 i4 := by kernel_rfl
noncomputable def Ev208 : (R : Type) → Env R := Env.addLp (Ev207 N) [74] 0 3 (fun R => lpK Tryz.prog ref01_Num_L3_I (fun X c => ref01_Num_L3 N X c.1.1 c.1.2.1 c.1.2.2.1) N)
theorem Ev208_ok (R : Type) : EnvOK Tryz.prog (Ev208 N R) := EnvOK.addLp (Ev207_ok N R) (by kernel_rfl) (lpK_ok (li := ref01_Num_L3_I) (G := fun X c => ref01_Num_L3 N X c.1.1 c.1.2.1 c.1.2.2.1) hmx (Ev207_ok N _) (by kernel_rfl) loopAt_sub (fun (X : CT ref01_Num_L3_I.sh → Option (OT ref01_Num_L3_I.outs)) (c : CT ref01_Num_L3_I.sh) => ref01_Num_L3_S N X c.1.1 c.1.2.1 c.1.2.2.1) N)
noncomputable def ref01_Num (b0 : List (Int)) : Option Int :=
 Option.bind (ref01_Num_L3_R N ((b0, ((0 : Int), ((0 : Int), ()))), ())) fun v2 =>
 some (v2.1.1)
theorem ref01_Num_S (b0 : List (Int)) : (runK Tryz.prog (Ev208 N) 400 74 [(.sl (.int .u8))] [(.int .u64)] (b0, ())).run = ref01_Num N b0 := by kernel_rfl
noncomputable def Ev209 : (R : Type) → Env R := Env.addFn (Ev208 N) 74 (fun R => fnK [(.sl (.int .u8))] [(.int .u64)] (fun c => ref01_Num N c.1))
theorem Ev209_ok (R : Type) : EnvOK Tryz.prog (Ev209 N R) := EnvOK.addFn hmx (Ev208_ok N R) (Ev208_ok N _) (by kernel_rfl) (fun c => ref01_Num_S N c.1)
noncomputable def ref01_Big_L3_I : LI := ⟨24, 0, [], ⟨[(0, .ty (.int .u64)), (5, .lit (.own 0)), (6, .ty (.int .i64))], [.own (.int .u8) 5]⟩, [(.exit 0, ⟨[(5, .lit (.own 0))], [.own (.int .u8) 5]⟩)]⟩
noncomputable def ref01_Big_L3 (N : Nat) (X : ((Int × (Int × Unit)) × ((List Int) × Unit)) → Option ((Unit × ((List Int) × Unit)))) (n0 : Int) (i6 : Int) (h0 : List (Int)) : Option ((Unit × ((List Int) × Unit))) :=
 bif (decide ((0 : Int) ≤ i6)) then
  bif (decide ((0 : Int) ≤ i6 ∧ i6 < (((List.length h0) : Nat) : Int))) then
   Option.bind (h0[Int.toNat i6]?) fun (v5 : Int) =>
   (X (((IntKind.wrap .u64 (@Int.tdiv n0 (256 : Int))), ((IntKind.wrap .i64 (i6 - 1)), ())), ((@List.set Int h0 (Int.toNat i6) (IntKind.wrap .u8 (@Int.tmod n0 (256 : Int)))), ())))
  else
   none
 else
  some (((), (h0, ())))
noncomputable def ref01_Big_L3_R (c : ((Int × (Int × Unit)) × ((List Int) × Unit))) : Option ((Unit × ((List Int) × Unit))) := gl (fun X c => ref01_Big_L3 N X c.1.1 c.1.2.1 c.2.1) N c
theorem ref01_Big_L3_S (X : ((Int × (Int × Unit)) × ((List Int) × Unit)) → Option ((Unit × ((List Int) × Unit)))) (n0 : Int) (i6 : Int) (h0 : List (Int)) : (roundK Tryz.prog (Ev209 N) 400 [72] ref01_Big_L3_I (loopAt Tryz.prog [72] 3) X ((n0, i6, ()), (h0, ()))).run = ref01_Big_L3 N X n0 i6 h0 := by kernel_rfl
noncomputable def Ev210 : (R : Type) → Env R := Env.addLp (Ev209 N) [72] 0 3 (fun R => lpK Tryz.prog ref01_Big_L3_I (fun X c => ref01_Big_L3 N X c.1.1 c.1.2.1 c.2.1) N)
theorem Ev210_ok (R : Type) : EnvOK Tryz.prog (Ev210 N R) := EnvOK.addLp (Ev209_ok N R) (by kernel_rfl) (lpK_ok (li := ref01_Big_L3_I) (G := fun X c => ref01_Big_L3 N X c.1.1 c.1.2.1 c.2.1) hmx (Ev209_ok N _) (by kernel_rfl) loopAt_sub (fun (X : CT ref01_Big_L3_I.sh → Option (OT ref01_Big_L3_I.outs)) (c : CT ref01_Big_L3_I.sh) => ref01_Big_L3_S N X c.1.1 c.1.2.1 c.2.1) N)
noncomputable def ref01_Big (n0 : Int) (width1 : Int) : Option (List Int) :=
 bif ((decide ((0 : Int) ≤ width1 ∧ width1 ≤ width1)) && (roomB (Int.toNat width1) 1)) then
  Option.bind (ref01_Big_L3_R N ((n0, ((IntKind.wrap .i64 (width1 - 1)), ())), ((@List.replicate Int (Int.toNat width1) (0 : Int)), ()))) fun v3 =>
  some (v3.2.1)
 else
  none
theorem ref01_Big_S (n0 : Int) (width1 : Int) : (runK Tryz.prog (Ev210 N) 400 72 [(.int .u64), (.int .i64)] [(.sl (.int .u8))] (n0, width1, ())).run = ref01_Big N n0 width1 := by kernel_rfl
noncomputable def Ev211 : (R : Type) → Env R := Env.addFn (Ev210 N) 72 (fun R => fnK [(.int .u64), (.int .i64)] [(.sl (.int .u8))] (fun c => ref01_Big N c.1 c.2.1))
theorem Ev211_ok (R : Type) : EnvOK Tryz.prog (Ev211 N R) := EnvOK.addFn hmx (Ev210_ok N R) (Ev210_ok N _) (by kernel_rfl) (fun c => ref01_Big_S N c.1 c.2.1)
noncomputable def ref08_Seven (key0 : List (Int)) (block1 : List (Int)) : Option ((List Int) × Int) :=
 bif (!(decide ((((List.length key0) : Nat) : Int) = (7 : Int)))) then
  Option.bind (some (true)) fun (v3 : Bool) =>
  bif v3 then
   some ((([] : List Int), (1 : Int)))
  else
   Option.bind (ref03_Spread N key0) fun v4 =>
   Option.bind (ref01_Num N v4.1) fun v5 =>
   Option.bind (ref01_Num N block1) fun v6 =>
   Option.bind (ref08_Turn N v5 v6) fun v7 =>
   Option.bind (ref01_Big N v7 (8 : Int)) fun v8 =>
   some ((v8, (0 : Int)))
 else
  Option.bind (some ((cond false true (!(decide ((((List.length block1) : Nat) : Int) = (8 : Int))))))) fun (v3 : Bool) =>
  bif v3 then
   some ((([] : List Int), (1 : Int)))
  else
   Option.bind (ref03_Spread N key0) fun v4 =>
   Option.bind (ref01_Num N v4.1) fun v5 =>
   Option.bind (ref01_Num N block1) fun v6 =>
   Option.bind (ref08_Turn N v5 v6) fun v7 =>
   Option.bind (ref01_Big N v7 (8 : Int)) fun v8 =>
   some ((v8, (0 : Int)))
theorem ref08_Seven_S (key0 : List (Int)) (block1 : List (Int)) : (runK Tryz.prog (Ev211 N) 400 34 [(.sl (.int .u8)), (.sl (.int .u8))] [(.sl (.int .u8)), (.int .i64)] (key0, block1, ())).run = ref08_Seven N key0 block1 := by kernel_rfl
noncomputable def Ev212 : (R : Type) → Env R := Env.addFn (Ev211 N) 34 (fun R => fnK [(.sl (.int .u8)), (.sl (.int .u8))] [(.sl (.int .u8)), (.int .i64)] (fun c => ref08_Seven N c.1 c.2.1))
theorem Ev212_ok (R : Type) : EnvOK Tryz.prog (Ev212 N R) := EnvOK.addFn hmx (Ev211_ok N R) (Ev211_ok N _) (by kernel_rfl) (fun c => ref08_Seven_S N c.1 c.2.1)
noncomputable def ref01_Same_L4_I : LI := ⟨26, 0, [], ⟨[(0, .ty (.sl (.int .u8))), (1, .ty (.sl (.int .u8))), (5, .ty (.int .i64))], []⟩, [(.ret, ⟨[(4, .ty .bool)], []⟩), (.exit 0, ⟨[], []⟩)]⟩
noncomputable def ref01_Same_L4 (N : Nat) (X : (((List Int) × ((List Int) × (Int × Unit))) × Unit) → Option ((((Bool × Unit) × Unit) ⊕ (Unit × Unit)))) (a0 : List (Int)) (b1 : List (Int)) (i5 : Int) : Option ((((Bool × Unit) × Unit) ⊕ (Unit × Unit))) :=
 bif (decide (i5 < (((List.length a0) : Nat) : Int))) then
  Option.bind (getI a0 i5) fun (v5 : Int) =>
  Option.bind (getI b1 i5) fun (v6 : Int) =>
  bif (!(decide (v5 = v6))) then
   some ((.inl ((false, ()), ())))
  else
   (X ((a0, (b1, ((IntKind.wrap .i64 (i5 + 1)), ()))), ()))
 else
  some ((.inr ((), ())))
noncomputable def ref01_Same_L4_R (c : (((List Int) × ((List Int) × (Int × Unit))) × Unit)) : Option ((((Bool × Unit) × Unit) ⊕ (Unit × Unit))) := gl (fun X c => ref01_Same_L4 N X c.1.1 c.1.2.1 c.1.2.2.1) N c
theorem ref01_Same_L4_S (X : (((List Int) × ((List Int) × (Int × Unit))) × Unit) → Option ((((Bool × Unit) × Unit) ⊕ (Unit × Unit)))) (a0 : List (Int)) (b1 : List (Int)) (i5 : Int) : (roundK Tryz.prog (Ev212 N) 400 [21] ref01_Same_L4_I (loopAt Tryz.prog [21] 4) X ((a0, b1, i5, ()), ())).run = ref01_Same_L4 N X a0 b1 i5 := by kernel_rfl
noncomputable def Ev213 : (R : Type) → Env R := Env.addLp (Ev212 N) [21] 0 4 (fun R => lpK Tryz.prog ref01_Same_L4_I (fun X c => ref01_Same_L4 N X c.1.1 c.1.2.1 c.1.2.2.1) N)
theorem Ev213_ok (R : Type) : EnvOK Tryz.prog (Ev213 N R) := EnvOK.addLp (Ev212_ok N R) (by kernel_rfl) (lpK_ok (li := ref01_Same_L4_I) (G := fun X c => ref01_Same_L4 N X c.1.1 c.1.2.1 c.1.2.2.1) hmx (Ev212_ok N _) (by kernel_rfl) loopAt_sub (fun (X : CT ref01_Same_L4_I.sh → Option (OT ref01_Same_L4_I.outs)) (c : CT ref01_Same_L4_I.sh) => ref01_Same_L4_S N X c.1.1 c.1.2.1 c.1.2.2.1) N)
noncomputable def ref01_Same (a0 : List (Int)) (b1 : List (Int)) : Option Bool :=
 bif (!(decide ((((List.length a0) : Nat) : Int) = (((List.length b1) : Nat) : Int)))) then
  some (false)
 else
  Option.bind (ref01_Same_L4_R N ((a0, (b1, ((0 : Int), ()))), ())) fun v3 =>
  Sum.elim
   (fun (v4 : ((Bool × Unit) × Unit)) =>
   some (v4.1.1))
   (fun (v4 : (Unit × Unit)) =>
   some (true)) v3
theorem ref01_Same_S (a0 : List (Int)) (b1 : List (Int)) : (runK Tryz.prog (Ev213 N) 400 21 [(.sl (.int .u8)), (.sl (.int .u8))] [.bool] (a0, b1, ())).run = ref01_Same N a0 b1 := by kernel_rfl
noncomputable def Ev214 : (R : Type) → Env R := Env.addFn (Ev213 N) 21 (fun R => fnK [(.sl (.int .u8)), (.sl (.int .u8))] [.bool] (fun c => ref01_Same N c.1 c.2.1))
theorem Ev214_ok (R : Type) : EnvOK Tryz.prog (Ev214 N R) := EnvOK.addFn hmx (Ev213_ok N R) (Ev213_ok N _) (by kernel_rfl) (fun c => ref01_Same_S N c.1 c.2.1)
noncomputable def octs_Same_L3_I : LI := ⟨35, 0, [], ⟨[(0, .ty (.sl (.int .u8))), (1, .ty (.sl (.int .u8))), (5, .ty (.int .i64)), (16, .ty (.int .i64)), (17, .ty (.int .i64))], []⟩, [(.exit 0, ⟨[(5, .ty (.int .i64))], []⟩)]⟩
noncomputable def octs_Same_L3 (N : Nat) (X : (((List Int) × ((List Int) × (Int × (Int × (Int × Unit))))) × Unit) → Option (((Int × Unit) × Unit))) (a0 : List (Int)) (b1 : List (Int)) (differ5 : Int) (x16 : Int) (x17 : Int) : Option (((Int × Unit) × Unit)) :=
 bif (decide (x17 < x16)) then
  Option.bind (getI a0 x17) fun (v7 : Int) =>
  Option.bind (getI b1 x17) fun (v8 : Int) =>
  (X ((a0, (b1, ((bits .or .i64 differ5 (IntKind.wrap .i64 (bits .xor .u8 v7 v8))), (x16, ((IntKind.wrap .i64 (x17 + 1)), ()))))), ()))
 else
  some (((differ5, ()), ()))
noncomputable def octs_Same_L3_R (c : (((List Int) × ((List Int) × (Int × (Int × (Int × Unit))))) × Unit)) : Option (((Int × Unit) × Unit)) := gl (fun X c => octs_Same_L3 N X c.1.1 c.1.2.1 c.1.2.2.1 c.1.2.2.2.1 c.1.2.2.2.2.1) N c
theorem octs_Same_L3_S (X : (((List Int) × ((List Int) × (Int × (Int × (Int × Unit))))) × Unit) → Option (((Int × Unit) × Unit))) (a0 : List (Int)) (b1 : List (Int)) (differ5 : Int) (x16 : Int) (x17 : Int) : (roundK Tryz.prog (Ev214 N) 400 [50] octs_Same_L3_I (loopAt Tryz.prog [50] 3) X ((a0, b1, differ5, x16, x17, ()), ())).run = octs_Same_L3 N X a0 b1 differ5 x16 x17 := by kernel_rfl
noncomputable def Ev215 : (R : Type) → Env R := Env.addLp (Ev214 N) [50] 0 3 (fun R => lpK Tryz.prog octs_Same_L3_I (fun X c => octs_Same_L3 N X c.1.1 c.1.2.1 c.1.2.2.1 c.1.2.2.2.1 c.1.2.2.2.2.1) N)
theorem Ev215_ok (R : Type) : EnvOK Tryz.prog (Ev215 N R) := EnvOK.addLp (Ev214_ok N R) (by kernel_rfl) (lpK_ok (li := octs_Same_L3_I) (G := fun X c => octs_Same_L3 N X c.1.1 c.1.2.1 c.1.2.2.1 c.1.2.2.2.1 c.1.2.2.2.2.1) hmx (Ev214_ok N _) (by kernel_rfl) loopAt_sub (fun (X : CT octs_Same_L3_I.sh → Option (OT octs_Same_L3_I.outs)) (c : CT octs_Same_L3_I.sh) => octs_Same_L3_S N X c.1.1 c.1.2.1 c.1.2.2.1 c.1.2.2.2.1 c.1.2.2.2.2.1) N)
noncomputable def octs_Same (a0 : List (Int)) (b1 : List (Int)) : Option Bool :=
 Option.bind (octs_Same_L3_R N ((a0, (b1, ((bits .xor .i64 (((List.length a0) : Nat) : Int) (((List.length b1) : Nat) : Int)), ((@minI (((List.length a0) : Nat) : Int) (((List.length b1) : Nat) : Int)), ((0 : Int), ()))))), ())) fun v3 =>
 some ((decide (v3.1.1 = (0 : Int))))
theorem octs_Same_S (a0 : List (Int)) (b1 : List (Int)) : (runK Tryz.prog (Ev215 N) 400 50 [(.sl (.int .u8)), (.sl (.int .u8))] [.bool] (a0, b1, ())).run = octs_Same N a0 b1 := by kernel_rfl
noncomputable def Ev216 : (R : Type) → Env R := Env.addFn (Ev215 N) 50 (fun R => fnK [(.sl (.int .u8)), (.sl (.int .u8))] [.bool] (fun c => octs_Same N c.1 c.2.1))
theorem Ev216_ok (R : Type) : EnvOK Tryz.prog (Ev216 N R) := EnvOK.addFn hmx (Ev215_ok N R) (Ev215_ok N _) (by kernel_rfl) (fun c => octs_Same_S N c.1 c.2.1)
noncomputable def Ev217 : (R : Type) → Env R := Env.addMv (Ev216 N) [(37, 5)]
theorem Ev217_ok (R : Type) : EnvOK Tryz.prog (Ev217 N R) := EnvOK.addMv (Ev216_ok N R) [(37, 5)]
noncomputable def octs_Hex_L3_I : LI := ⟨28, 0, [], ⟨[(3, .lit (.own 0)), (10, .ty (.sl (.int .u8))), (11, .ty (.int .i64)), (12, .ty (.int .i64))], [.own (.int .u8) 5]⟩, [(.exit 0, ⟨[(3, .lit (.own 0))], [.own (.int .u8) 5]⟩)]⟩
noncomputable def octs_Hex_L3 (N : Nat) (X : (((List Int) × (Int × (Int × Unit))) × ((List Int) × Unit)) → Option ((Unit × ((List Int) × Unit)))) (x10 : List (Int)) (x11 : Int) (x12 : Int) (h0 : List (Int)) : Option ((Unit × ((List Int) × Unit))) :=
 bif (decide (x12 < x11)) then
  Option.bind (getI x10 x12) fun (v6 : Int) =>
  Option.bind (getI (Array.toList (List.toArray ([48, 49, 50, 51, 52, 53, 54, 55, 56, 57, 65, 66, 67, 68, 69, 70] : List UInt8))) (@Int.fdiv v6 ((2 : Int) ^ (min (Int.toNat (4 : Int)) (IntKind.bits .u8))))) fun (v7 : UInt8) =>
  Option.bind (getI (Array.toList (List.toArray ([48, 49, 50, 51, 52, 53, 54, 55, 56, 57, 65, 66, 67, 68, 69, 70] : List UInt8))) (bits .and .u8 v6 (15 : Int))) fun (v8 : UInt8) =>
  bif (roomB ((List.length h0) + (List.length ([(((@UInt8.toNat v7) : Nat) : Int), (((@UInt8.toNat v8) : Nat) : Int)] : List (Int)))) 1) then
   (X ((x10, (x11, ((IntKind.wrap .i64 (x12 + 1)), ()))), ((h0 ++ ([(((@UInt8.toNat v7) : Nat) : Int), (((@UInt8.toNat v8) : Nat) : Int)] : List (Int))), ())))
  else
   none
 else
  some (((), (h0, ())))
noncomputable def octs_Hex_L3_R (c : (((List Int) × (Int × (Int × Unit))) × ((List Int) × Unit))) : Option ((Unit × ((List Int) × Unit))) := gl (fun X c => octs_Hex_L3 N X c.1.1 c.1.2.1 c.1.2.2.1 c.2.1) N c
theorem octs_Hex_L3_S (X : (((List Int) × (Int × (Int × Unit))) × ((List Int) × Unit)) → Option ((Unit × ((List Int) × Unit)))) (x10 : List (Int)) (x11 : Int) (x12 : Int) (h0 : List (Int)) : (roundK Tryz.prog (Ev217 N) 400 [37] octs_Hex_L3_I (loopAt Tryz.prog [37] 3) X ((x10, x11, x12, ()), (h0, ()))).run = octs_Hex_L3 N X x10 x11 x12 h0 := by kernel_rfl
noncomputable def Ev218 : (R : Type) → Env R := Env.addLp (Ev217 N) [37] 0 3 (fun R => lpK Tryz.prog octs_Hex_L3_I (fun X c => octs_Hex_L3 N X c.1.1 c.1.2.1 c.1.2.2.1 c.2.1) N)
theorem Ev218_ok (R : Type) : EnvOK Tryz.prog (Ev218 N R) := EnvOK.addLp (Ev217_ok N R) (by kernel_rfl) (lpK_ok (li := octs_Hex_L3_I) (G := fun X c => octs_Hex_L3 N X c.1.1 c.1.2.1 c.1.2.2.1 c.2.1) hmx (Ev217_ok N _) (by kernel_rfl) loopAt_sub (fun (X : CT octs_Hex_L3_I.sh → Option (OT octs_Hex_L3_I.outs)) (c : CT octs_Hex_L3_I.sh) => octs_Hex_L3_S N X c.1.1 c.1.2.1 c.1.2.2.1 c.2.1) N)
noncomputable def octs_Hex (b0 : List (Int)) : Option (List UInt8) :=
 bif ((decide ((0 : Int) ≤ (0 : Int) ∧ (0 : Int) ≤ (IntKind.wrap .i64 ((2 : Int) * (((List.length b0) : Nat) : Int))))) && (roomB (Int.toNat (IntKind.wrap .i64 ((2 : Int) * (((List.length b0) : Nat) : Int)))) 1)) then
  Option.bind (octs_Hex_L3_R N ((b0, ((((List.length b0) : Nat) : Int), ((0 : Int), ()))), ((@List.replicate Int (Int.toNat (0 : Int)) (0 : Int)), ()))) fun v2 =>
  Option.bind (@toBy v2.2.1) fun (v3 : (List UInt8)) =>
  some (v3)
 else
  none
theorem octs_Hex_S (b0 : List (Int)) : (runK Tryz.prog (Ev218 N) 400 37 [(.sl (.int .u8))] [.str] (b0, ())).run = octs_Hex N b0 := by kernel_rfl
noncomputable def Ev219 : (R : Type) → Env R := Env.addFn (Ev218 N) 37 (fun R => fnK [(.sl (.int .u8))] [.str] (fun c => octs_Hex N c.1))
theorem Ev219_ok (R : Type) : EnvOK Tryz.prog (Ev219 N R) := EnvOK.addFn hmx (Ev218_ok N R) (Ev218_ok N _) (by kernel_rfl) (fun c => octs_Hex_S N c.1)
noncomputable def ref01_Hex_L4_I : LI := ⟨40, 0, [], ⟨[(0, .ty (.sl (.int .u8))), (3, .ty .str), (4, .ty .str), (5, .ty (.int .i64))], []⟩, [(.exit 0, ⟨[(4, .ty .str)], []⟩)]⟩
noncomputable def ref01_Hex_L4 (N : Nat) (X : (((List Int) × (List UInt8 × (List UInt8 × (Int × Unit)))) × Unit) → Option (((List UInt8 × Unit) × Unit))) (b0 : List (Int)) (all3 : List UInt8) (s4 : List UInt8) (i5 : Int) : Option (((List UInt8 × Unit) × Unit)) :=
 bif (decide (i5 < (((List.length b0) : Nat) : Int))) then
  Option.bind (getI b0 i5) fun (v6 : Int) =>
  Option.bind (getI b0 i5) fun (v7 : Int) =>
  Option.bind (subI all3 (IntKind.wrap .i64 (IntKind.wrap .u8 (@Int.tdiv v6 (16 : Int)))) (IntKind.wrap .i64 ((IntKind.wrap .i64 (IntKind.wrap .u8 (@Int.tdiv v6 (16 : Int)))) + 1))) fun (v8 : (List UInt8)) =>
  Option.bind (subI all3 (IntKind.wrap .i64 (@Int.tmod v7 (16 : Int))) (IntKind.wrap .i64 ((IntKind.wrap .i64 (@Int.tmod v7 (16 : Int))) + 1))) fun (v9 : (List UInt8)) =>
  bif (decide (((List.length v8) + (List.length v9)) ≤ maxLen)) then
   bif (decide (((List.length s4) + (List.length (v8 ++ v9))) ≤ maxLen)) then
    (X ((b0, (all3, ((s4 ++ (v8 ++ v9)), ((IntKind.wrap .i64 (i5 + 1)), ())))), ()))
   else
    none
  else
   none
 else
  some (((s4, ()), ()))
noncomputable def ref01_Hex_L4_R (c : (((List Int) × (List UInt8 × (List UInt8 × (Int × Unit)))) × Unit)) : Option (((List UInt8 × Unit) × Unit)) := gl (fun X c => ref01_Hex_L4 N X c.1.1 c.1.2.1 c.1.2.2.1 c.1.2.2.2.1) N c
theorem ref01_Hex_L4_S (X : (((List Int) × (List UInt8 × (List UInt8 × (Int × Unit)))) × Unit) → Option (((List UInt8 × Unit) × Unit))) (b0 : List (Int)) (all3 : List UInt8) (s4 : List UInt8) (i5 : Int) : (roundK Tryz.prog (Ev219 N) 400 [39] ref01_Hex_L4_I (loopAt Tryz.prog [39] 4) X ((b0, all3, s4, i5, ()), ())).run = ref01_Hex_L4 N X b0 all3 s4 i5 := by kernel_rfl
noncomputable def Ev220 : (R : Type) → Env R := Env.addLp (Ev219 N) [39] 0 4 (fun R => lpK Tryz.prog ref01_Hex_L4_I (fun X c => ref01_Hex_L4 N X c.1.1 c.1.2.1 c.1.2.2.1 c.1.2.2.2.1) N)
theorem Ev220_ok (R : Type) : EnvOK Tryz.prog (Ev220 N R) := EnvOK.addLp (Ev219_ok N R) (by kernel_rfl) (lpK_ok (li := ref01_Hex_L4_I) (G := fun X c => ref01_Hex_L4 N X c.1.1 c.1.2.1 c.1.2.2.1 c.1.2.2.2.1) hmx (Ev219_ok N _) (by kernel_rfl) loopAt_sub (fun (X : CT ref01_Hex_L4_I.sh → Option (OT ref01_Hex_L4_I.outs)) (c : CT ref01_Hex_L4_I.sh) => ref01_Hex_L4_S N X c.1.1 c.1.2.1 c.1.2.2.1 c.1.2.2.2.1) N)
noncomputable def ref01_Hex (b0 : List (Int)) : Option (List UInt8) :=
 Option.bind (ref01_Hex_L4_R N ((b0, ((Array.toList (List.toArray ([48, 49, 50, 51, 52, 53, 54, 55, 56, 57, 65, 66, 67, 68, 69, 70] : List UInt8))), ((Array.toList (List.toArray ([] : List UInt8))), ((0 : Int), ())))), ())) fun v2 =>
 some (v2.1.1)
theorem ref01_Hex_S (b0 : List (Int)) : (runK Tryz.prog (Ev220 N) 400 39 [(.sl (.int .u8))] [.str] (b0, ())).run = ref01_Hex N b0 := by kernel_rfl
noncomputable def Ev221 : (R : Type) → Env R := Env.addFn (Ev220 N) 39 (fun R => fnK [(.sl (.int .u8))] [.str] (fun c => ref01_Hex N c.1))
theorem Ev221_ok (R : Type) : EnvOK Tryz.prog (Ev221 N R) := EnvOK.addFn hmx (Ev220_ok N R) (Ev220_ok N _) (by kernel_rfl) (fun c => ref01_Hex_S N c.1)
noncomputable def Ev222 : (R : Type) → Env R := Env.addInl (Ev221 N) []
theorem Ev222_ok (R : Type) : EnvOK Tryz.prog (Ev222 N R) := EnvOK.addInl (Ev221_ok N R) (by kernel_rfl)
noncomputable def octs_Join_L3_I : LI := ⟨33, 0, [], ⟨[(0, .ty (.sl (.sl (.int .u8)))), (3, .ty (.int .i64)), (9, .ty (.sl (.sl (.int .u8)))), (10, .ty (.int .i64)), (11, .ty (.int .i64))], []⟩, [(.exit 0, ⟨[(0, .ty (.sl (.sl (.int .u8)))), (3, .ty (.int .i64))], []⟩)]⟩
noncomputable def octs_Join_L3 (N : Nat) (X : (((List (List Int)) × (Int × ((List (List Int)) × (Int × (Int × Unit))))) × Unit) → Option ((((List (List Int)) × (Int × Unit)) × Unit))) (parts0 : List (List Int)) (size3 : Int) (x9 : List (List Int)) (x10 : Int) (x11 : Int) : Option ((((List (List Int)) × (Int × Unit)) × Unit)) :=
 bif (decide (x11 < x10)) then
  Option.bind (getI x9 x11) fun (v7 : (List Int)) =>
  (X ((parts0, ((IntKind.wrap .i64 (size3 + (((List.length v7) : Nat) : Int))), (x9, (x10, ((IntKind.wrap .i64 (x11 + 1)), ()))))), ()))
 else
  some (((parts0, (size3, ())), ()))
noncomputable def octs_Join_L3_R (c : (((List (List Int)) × (Int × ((List (List Int)) × (Int × (Int × Unit))))) × Unit)) : Option ((((List (List Int)) × (Int × Unit)) × Unit)) := gl (fun X c => octs_Join_L3 N X c.1.1 c.1.2.1 c.1.2.2.1 c.1.2.2.2.1 c.1.2.2.2.2.1) N c
theorem octs_Join_L3_S (X : (((List (List Int)) × (Int × ((List (List Int)) × (Int × (Int × Unit))))) × Unit) → Option ((((List (List Int)) × (Int × Unit)) × Unit))) (parts0 : List (List Int)) (size3 : Int) (x9 : List (List Int)) (x10 : Int) (x11 : Int) : (roundK Tryz.prog (Ev222 N) 400 [52] octs_Join_L3_I (loopAt Tryz.prog [52] 3) X ((parts0, size3, x9, x10, x11, ()), ())).run = octs_Join_L3 N X parts0 size3 x9 x10 x11 := by kernel_rfl
noncomputable def Ev223 : (R : Type) → Env R := Env.addLp (Ev222 N) [52] 0 3 (fun R => lpK Tryz.prog octs_Join_L3_I (fun X c => octs_Join_L3 N X c.1.1 c.1.2.1 c.1.2.2.1 c.1.2.2.2.1 c.1.2.2.2.2.1) N)
theorem Ev223_ok (R : Type) : EnvOK Tryz.prog (Ev223 N R) := EnvOK.addLp (Ev222_ok N R) (by kernel_rfl) (lpK_ok (li := octs_Join_L3_I) (G := fun X c => octs_Join_L3 N X c.1.1 c.1.2.1 c.1.2.2.1 c.1.2.2.2.1 c.1.2.2.2.2.1) hmx (Ev222_ok N _) (by kernel_rfl) loopAt_sub (fun (X : CT octs_Join_L3_I.sh → Option (OT octs_Join_L3_I.outs)) (c : CT octs_Join_L3_I.sh) => octs_Join_L3_S N X c.1.1 c.1.2.1 c.1.2.2.1 c.1.2.2.2.1 c.1.2.2.2.2.1) N)
noncomputable def octs_Join_L9_I : LI := ⟨33, 0, [], ⟨[(6, .lit (.own 0)), (22, .ty (.sl (.sl (.int .u8)))), (23, .ty (.int .i64)), (24, .ty (.int .i64))], [.own (.int .u8) 5]⟩, [(.exit 2, ⟨[(6, .lit (.own 0))], [.own (.int .u8) 5]⟩)]⟩
noncomputable def octs_Join_L9 (N : Nat) (X : (((List (List Int)) × (Int × (Int × Unit))) × ((List Int) × Unit)) → Option ((Unit × ((List Int) × Unit)))) (x22 : List (List Int)) (x23 : Int) (x24 : Int) (h0 : List (Int)) : Option ((Unit × ((List Int) × Unit))) :=
 bif (decide (x24 < x23)) then
  Option.bind (getI x22 x24) fun (v6 : (List Int)) =>
  bif (roomB ((List.length h0) + (List.length v6)) 1) then
   (X ((x22, (x23, ((IntKind.wrap .i64 (x24 + 1)), ()))), ((h0 ++ v6), ())))
  else
   none
 else
  some (((), (h0, ())))
noncomputable def octs_Join_L9_R (c : (((List (List Int)) × (Int × (Int × Unit))) × ((List Int) × Unit))) : Option ((Unit × ((List Int) × Unit))) := gl (fun X c => octs_Join_L9 N X c.1.1 c.1.2.1 c.1.2.2.1 c.2.1) N c
theorem octs_Join_L9_S (X : (((List (List Int)) × (Int × (Int × Unit))) × ((List Int) × Unit)) → Option ((Unit × ((List Int) × Unit)))) (x22 : List (List Int)) (x23 : Int) (x24 : Int) (h0 : List (Int)) : (roundK Tryz.prog (Ev223 N) 400 [52] octs_Join_L9_I (loopAt Tryz.prog [52] 9) X ((x22, x23, x24, ()), (h0, ()))).run = octs_Join_L9 N X x22 x23 x24 h0 := by kernel_rfl
noncomputable def Ev224 : (R : Type) → Env R := Env.addLp (Ev223 N) [52] 0 9 (fun R => lpK Tryz.prog octs_Join_L9_I (fun X c => octs_Join_L9 N X c.1.1 c.1.2.1 c.1.2.2.1 c.2.1) N)
theorem Ev224_ok (R : Type) : EnvOK Tryz.prog (Ev224 N R) := EnvOK.addLp (Ev223_ok N R) (by kernel_rfl) (lpK_ok (li := octs_Join_L9_I) (G := fun X c => octs_Join_L9 N X c.1.1 c.1.2.1 c.1.2.2.1 c.2.1) hmx (Ev223_ok N _) (by kernel_rfl) loopAt_sub (fun (X : CT octs_Join_L9_I.sh → Option (OT octs_Join_L9_I.outs)) (c : CT octs_Join_L9_I.sh) => octs_Join_L9_S N X c.1.1 c.1.2.1 c.1.2.2.1 c.2.1) N)
noncomputable def octs_Join (parts0 : List (List Int)) : Option (List Int) :=
 Option.bind (octs_Join_L3_R N ((parts0, ((0 : Int), (parts0, ((((List.length parts0) : Nat) : Int), ((0 : Int), ()))))), ())) fun v2 =>
 bif ((decide ((0 : Int) ≤ (0 : Int) ∧ (0 : Int) ≤ v2.1.2.1)) && (roomB (Int.toNat v2.1.2.1) 1)) then
  Option.bind (octs_Join_L9_R N ((v2.1.1, ((((List.length v2.1.1) : Nat) : Int), ((0 : Int), ()))), ((@List.replicate Int (Int.toNat (0 : Int)) (0 : Int)), ()))) fun v3 =>
  some (v3.2.1)
 else
  none
theorem octs_Join_S (parts0 : List (List Int)) : (runK Tryz.prog (Ev224 N) 400 52 [(.sl (.sl (.int .u8)))] [(.sl (.int .u8))] (parts0, ())).run = octs_Join N parts0 := by kernel_rfl
noncomputable def Ev225 : (R : Type) → Env R := Env.addFn (Ev224 N) 52 (fun R => fnK [(.sl (.sl (.int .u8)))] [(.sl (.int .u8))] (fun c => octs_Join N c.1))
theorem Ev225_ok (R : Type) : EnvOK Tryz.prog (Ev225 N R) := EnvOK.addFn hmx (Ev224_ok N R) (Ev224_ok N _) (by kernel_rfl) (fun c => octs_Join_S N c.1)
noncomputable def bytealg_LastIndexByteString_L2_I : LI := ⟨19, 0, [], ⟨[(0, .ty .str), (1, .ty (.int .u8)), (5, .ty (.int .i64))], []⟩, [(.ret, ⟨[(4, .ty (.int .i64))], []⟩), (.exit 0, ⟨[], []⟩)]⟩
noncomputable def bytealg_LastIndexByteString_L2 (N : Nat) (X : ((List UInt8 × (Int × (Int × Unit))) × Unit) → Option ((((Int × Unit) × Unit) ⊕ (Unit × Unit)))) (s0 : List UInt8) (c1 : Int) (i5 : Int) : Option ((((Int × Unit) × Unit) ⊕ (Unit × Unit))) :=
 bif (decide ((0 : Int) ≤ i5)) then
  Option.bind (getI s0 i5) fun (v5 : UInt8) =>
  bif (decide ((((@UInt8.toNat v5) : Nat) : Int) = c1)) then
   some ((.inl ((i5, ()), ())))
  else
   (X ((s0, (c1, ((IntKind.wrap .i64 (i5 - 1)), ()))), ()))
 else
  some ((.inr ((), ())))
noncomputable def bytealg_LastIndexByteString_L2_R (c : ((List UInt8 × (Int × (Int × Unit))) × Unit)) : Option ((((Int × Unit) × Unit) ⊕ (Unit × Unit))) := gl (fun X c => bytealg_LastIndexByteString_L2 N X c.1.1 c.1.2.1 c.1.2.2.1) N c
theorem bytealg_LastIndexByteString_L2_S (X : ((List UInt8 × (Int × (Int × Unit))) × Unit) → Option ((((Int × Unit) × Unit) ⊕ (Unit × Unit)))) (s0 : List UInt8) (c1 : Int) (i5 : Int) : (roundK Tryz.prog (Ev225 N) 400 [86] bytealg_LastIndexByteString_L2_I (loopAt Tryz.prog [86] 2) X ((s0, c1, i5, ()), ())).run = bytealg_LastIndexByteString_L2 N X s0 c1 i5 := by kernel_rfl
noncomputable def Ev226 : (R : Type) → Env R := Env.addLp (Ev225 N) [86] 0 2 (fun R => lpK Tryz.prog bytealg_LastIndexByteString_L2_I (fun X c => bytealg_LastIndexByteString_L2 N X c.1.1 c.1.2.1 c.1.2.2.1) N)
theorem Ev226_ok (R : Type) : EnvOK Tryz.prog (Ev226 N R) := EnvOK.addLp (Ev225_ok N R) (by kernel_rfl) (lpK_ok (li := bytealg_LastIndexByteString_L2_I) (G := fun X c => bytealg_LastIndexByteString_L2 N X c.1.1 c.1.2.1 c.1.2.2.1) hmx (Ev225_ok N _) (by kernel_rfl) loopAt_sub (fun (X : CT bytealg_LastIndexByteString_L2_I.sh → Option (OT bytealg_LastIndexByteString_L2_I.outs)) (c : CT bytealg_LastIndexByteString_L2_I.sh) => bytealg_LastIndexByteString_L2_S N X c.1.1 c.1.2.1 c.1.2.2.1) N)
noncomputable def bytealg_LastIndexByteString (s0 : List UInt8) (c1 : Int) : Option Int :=
 Option.bind (bytealg_LastIndexByteString_L2_R N ((s0, (c1, ((IntKind.wrap .i64 ((((List.length s0) : Nat) : Int) - 1)), ()))), ())) fun v3 =>
 Sum.elim
  (fun (v4 : ((Int × Unit) × Unit)) =>
  some (v4.1.1))
  (fun (v4 : (Unit × Unit)) =>
  some ((-1 : Int))) v3
theorem bytealg_LastIndexByteString_S (s0 : List UInt8) (c1 : Int) : (runK Tryz.prog (Ev226 N) 400 86 [.str, (.int .u8)] [(.int .i64)] (s0, c1, ())).run = bytealg_LastIndexByteString N s0 c1 := by kernel_rfl
noncomputable def Ev227 : (R : Type) → Env R := Env.addFn (Ev226 N) 86 (fun R => fnK [.str, (.int .u8)] [(.int .i64)] (fun c => bytealg_LastIndexByteString N c.1 c.2.1))
theorem Ev227_ok (R : Type) : EnvOK Tryz.prog (Ev227 N R) := EnvOK.addFn hmx (Ev226_ok N R) (Ev226_ok N _) (by kernel_rfl) (fun c => bytealg_LastIndexByteString_S N c.1 c.2.1)
noncomputable def strings_LastIndexByte (s0 : List UInt8) (c1 : Int) : Option Int :=
 Option.bind (bytealg_LastIndexByteString N s0 c1) fun v3 =>
 some (v3)
theorem strings_LastIndexByte_S (s0 : List UInt8) (c1 : Int) : (runK Tryz.prog (Ev227 N) 400 58 [.str, (.int .u8)] [(.int .i64)] (s0, c1, ())).run = strings_LastIndexByte N s0 c1 := by kernel_rfl
noncomputable def Ev228 : (R : Type) → Env R := Env.addFn (Ev227 N) 58 (fun R => fnK [.str, (.int .u8)] [(.int .i64)] (fun c => strings_LastIndexByte N c.1 c.2.1))
theorem Ev228_ok (R : Type) : EnvOK Tryz.prog (Ev228 N R) := EnvOK.addFn hmx (Ev227_ok N R) (Ev227_ok N _) (by kernel_rfl) (fun c => strings_LastIndexByte_S N c.1 c.2.1)
noncomputable def utf16_Bare (name0 : List UInt8) : Option (List UInt8) :=
 Option.bind (strings_LastIndexByte N name0 (92 : Int)) fun v2 =>
 Option.bind (dropI name0 (IntKind.wrap .i64 (v2 + 1))) fun (v3 : (List UInt8)) =>
 some (v3)
theorem utf16_Bare_S (name0 : List UInt8) : (runK Tryz.prog (Ev228 N) 400 27 [.str] [.str] (name0, ())).run = utf16_Bare N name0 := by kernel_rfl
noncomputable def Ev229 : (R : Type) → Env R := Env.addFn (Ev228 N) 27 (fun R => fnK [.str] [.str] (fun c => utf16_Bare N c.1))
theorem Ev229_ok (R : Type) : EnvOK Tryz.prog (Ev229 N R) := EnvOK.addFn hmx (Ev228_ok N R) (Ev228_ok N _) (by kernel_rfl) (fun c => utf16_Bare_S N c.1)
noncomputable def ref09_Bare_L3_I : LI := ⟨20, 0, [], ⟨[(0, .ty .str), (3, .ty (.int .i64)), (4, .ty (.int .i64))], []⟩, [(.exit 0, ⟨[(0, .ty .str), (3, .ty (.int .i64))], []⟩)]⟩
noncomputable def ref09_Bare_L3 (N : Nat) (X : ((List UInt8 × (Int × (Int × Unit))) × Unit) → Option (((List UInt8 × (Int × Unit)) × Unit))) (name0 : List UInt8) (x3 : Int) (i4 : Int) : Option (((List UInt8 × (Int × Unit)) × Unit)) :=
 bif (decide (i4 < (((List.length name0) : Nat) : Int))) then
  Option.bind (getI name0 i4) fun (v5 : UInt8) =>
  bif (decide ((((@UInt8.toNat v5) : Nat) : Int) = (92 : Int))) then
   (X ((name0, ((IntKind.wrap .i64 (i4 + 1)), ((IntKind.wrap .i64 (i4 + 1)), ()))), ()))
  else
   (X ((name0, (x3, ((IntKind.wrap .i64 (i4 + 1)), ()))), ()))
 else
  some (((name0, (x3, ())), ()))
noncomputable def ref09_Bare_L3_R (c : ((List UInt8 × (Int × (Int × Unit))) × Unit)) : Option (((List UInt8 × (Int × Unit)) × Unit)) := gl (fun X c => ref09_Bare_L3 N X c.1.1 c.1.2.1 c.1.2.2.1) N c
theorem ref09_Bare_L3_S (X : ((List UInt8 × (Int × (Int × Unit))) × Unit) → Option (((List UInt8 × (Int × Unit)) × Unit))) (name0 : List UInt8) (x3 : Int) (i4 : Int) : (roundK Tryz.prog (Ev229 N) 400 [33] ref09_Bare_L3_I (loopAt Tryz.prog [33] 3) X ((name0, x3, i4, ()), ())).run = ref09_Bare_L3 N X name0 x3 i4 := by kernel_rfl
noncomputable def Ev230 : (R : Type) → Env R := Env.addLp (Ev229 N) [33] 0 3 (fun R => lpK Tryz.prog ref09_Bare_L3_I (fun X c => ref09_Bare_L3 N X c.1.1 c.1.2.1 c.1.2.2.1) N)
theorem Ev230_ok (R : Type) : EnvOK Tryz.prog (Ev230 N R) := EnvOK.addLp (Ev229_ok N R) (by kernel_rfl) (lpK_ok (li := ref09_Bare_L3_I) (G := fun X c => ref09_Bare_L3 N X c.1.1 c.1.2.1 c.1.2.2.1) hmx (Ev229_ok N _) (by kernel_rfl) loopAt_sub (fun (X : CT ref09_Bare_L3_I.sh → Option (OT ref09_Bare_L3_I.outs)) (c : CT ref09_Bare_L3_I.sh) => ref09_Bare_L3_S N X c.1.1 c.1.2.1 c.1.2.2.1) N)
noncomputable def ref09_Bare (name0 : List UInt8) : Option (List UInt8) :=
 Option.bind (ref09_Bare_L3_R N ((name0, ((0 : Int), ((0 : Int), ()))), ())) fun v2 =>
 Option.bind (dropI v2.1.1 v2.1.2.1) fun (v3 : (List UInt8)) =>
 some (v3)
theorem ref09_Bare_S (name0 : List UInt8) : (runK Tryz.prog (Ev230 N) 400 33 [.str] [.str] (name0, ())).run = ref09_Bare N name0 := by kernel_rfl
noncomputable def Ev231 : (R : Type) → Env R := Env.addFn (Ev230 N) 33 (fun R => fnK [.str] [.str] (fun c => ref09_Bare N c.1))
theorem Ev231_ok (R : Type) : EnvOK Tryz.prog (Ev231 N R) := EnvOK.addFn hmx (Ev230_ok N R) (Ev230_ok N _) (by kernel_rfl) (fun c => ref09_Bare_S N c.1)
noncomputable def Ev232 : (R : Type) → Env R := Env.addBx (Ev231 N) [(25, 0)]
theorem Ev232_ok (R : Type) : EnvOK Tryz.prog (Ev232 N R) := EnvOK.addBx (Ev231_ok N R) [(25, 0)]
noncomputable def chap2_Value (peer0 : Arr Int 16) (response1 : Arr Int 24) : Option (List Int) :=
 Option.bind (octs_Join N ([peer0.l, (@List.replicate Int (Int.toNat (8 : Int)) (0 : Int)), response1.l, ([0] : List Int)] : List ((List Int)))) fun v3 =>
 some (v3)
theorem chap2_Value_S (peer0 : Arr Int 16) (response1 : Arr Int 24) : (runK Tryz.prog (Ev232 N) 400 25 [(.arr 16 (.int .u8)), (.arr 24 (.int .u8))] [(.sl (.int .u8))] (peer0, response1, ())).run = chap2_Value N peer0 response1 := by kernel_rfl
noncomputable def Ev233 : (R : Type) → Env R := Env.addFn (Ev232 N) 25 (fun R => fnK [(.arr 16 (.int .u8)), (.arr 24 (.int .u8))] [(.sl (.int .u8))] (fun c => chap2_Value N c.1 c.2.1))
theorem Ev233_ok (R : Type) : EnvOK Tryz.prog (Ev233 N R) := EnvOK.addFn hmx (Ev232_ok N R) (Ev232_ok N _) (by kernel_rfl) (fun c => chap2_Value_S N c.1 c.2.1)
noncomputable def chap2_Parse (value0 : List (Int)) : Option ((Arr Int 16) × (Arr Int 24) × Int) :=
 bif (!(decide ((((List.length value0) : Nat) : Int) = (49 : Int)))) then
  some (((@Arr.cons Int 15 0 (@Arr.cons Int 14 0 (@Arr.cons Int 13 0 (@Arr.cons Int 12 0 (@Arr.cons Int 11 0 (@Arr.cons Int 10 0 (@Arr.cons Int 9 0 (@Arr.cons Int 8 0 (@Arr.cons Int 7 0 (@Arr.cons Int 6 0 (@Arr.cons Int 5 0 (@Arr.cons Int 4 0 (@Arr.cons Int 3 0 (@Arr.cons Int 2 0 (@Arr.cons Int 1 0 (@Arr.cons Int 0 0 (@Arr.nil Int))))))))))))))))), ((@Arr.cons Int 23 0 (@Arr.cons Int 22 0 (@Arr.cons Int 21 0 (@Arr.cons Int 20 0 (@Arr.cons Int 19 0 (@Arr.cons Int 18 0 (@Arr.cons Int 17 0 (@Arr.cons Int 16 0 (@Arr.cons Int 15 0 (@Arr.cons Int 14 0 (@Arr.cons Int 13 0 (@Arr.cons Int 12 0 (@Arr.cons Int 11 0 (@Arr.cons Int 10 0 (@Arr.cons Int 9 0 (@Arr.cons Int 8 0 (@Arr.cons Int 7 0 (@Arr.cons Int 6 0 (@Arr.cons Int 5 0 (@Arr.cons Int 4 0 (@Arr.cons Int 3 0 (@Arr.cons Int 2 0 (@Arr.cons Int 1 0 (@Arr.cons Int 0 0 (@Arr.nil Int))))))))))))))))))))))))), (1 : Int))))
 else
  Option.bind (takeI value0 (16 : Int)) fun (v2 : (List Int)) =>
  Option.bind (@toArr Int (16 : Nat) v2) fun (v3 : (Arr Int 16)) =>
  Option.bind (subI value0 (24 : Int) (48 : Int)) fun (v4 : (List Int)) =>
  Option.bind (@toArr Int (24 : Nat) v4) fun (v5 : (Arr Int 24)) =>
  Option.bind (chap2_Value N v3 v5) fun v6 =>
  Option.bind (octs_Same N v6 value0) fun v7 =>
  bif (!v7) then
   some (((@Arr.cons Int 15 0 (@Arr.cons Int 14 0 (@Arr.cons Int 13 0 (@Arr.cons Int 12 0 (@Arr.cons Int 11 0 (@Arr.cons Int 10 0 (@Arr.cons Int 9 0 (@Arr.cons Int 8 0 (@Arr.cons Int 7 0 (@Arr.cons Int 6 0 (@Arr.cons Int 5 0 (@Arr.cons Int 4 0 (@Arr.cons Int 3 0 (@Arr.cons Int 2 0 (@Arr.cons Int 1 0 (@Arr.cons Int 0 0 (@Arr.nil Int))))))))))))))))), ((@Arr.cons Int 23 0 (@Arr.cons Int 22 0 (@Arr.cons Int 21 0 (@Arr.cons Int 20 0 (@Arr.cons Int 19 0 (@Arr.cons Int 18 0 (@Arr.cons Int 17 0 (@Arr.cons Int 16 0 (@Arr.cons Int 15 0 (@Arr.cons Int 14 0 (@Arr.cons Int 13 0 (@Arr.cons Int 12 0 (@Arr.cons Int 11 0 (@Arr.cons Int 10 0 (@Arr.cons Int 9 0 (@Arr.cons Int 8 0 (@Arr.cons Int 7 0 (@Arr.cons Int 6 0 (@Arr.cons Int 5 0 (@Arr.cons Int 4 0 (@Arr.cons Int 3 0 (@Arr.cons Int 2 0 (@Arr.cons Int 1 0 (@Arr.cons Int 0 0 (@Arr.nil Int))))))))))))))))))))))))), (3 : Int))))
  else
   some ((v3, (v5, (0 : Int))))
theorem chap2_Parse_S (value0 : List (Int)) : (runK Tryz.prog (Ev233 N) 400 24 [(.sl (.int .u8))] [(.arr 16 (.int .u8)), (.arr 24 (.int .u8)), (.int .i64)] (value0, ())).run = chap2_Parse N value0 := by kernel_rfl
noncomputable def Ev234 : (R : Type) → Env R := Env.addFn (Ev233 N) 24 (fun R => fnK [(.sl (.int .u8))] [(.arr 16 (.int .u8)), (.arr 24 (.int .u8)), (.int .i64)] (fun c => chap2_Parse N c.1))
theorem Ev234_ok (R : Type) : EnvOK Tryz.prog (Ev234 N R) := EnvOK.addFn hmx (Ev233_ok N R) (Ev233_ok N _) (by kernel_rfl) (fun c => chap2_Parse_S N c.1)
noncomputable def Ev235 : (R : Type) → Env R := Env.addBx (Ev234 N) [(7, 0)]
theorem Ev235_ok (R : Type) : EnvOK Tryz.prog (Ev235 N R) := EnvOK.addBx (Ev234_ok N R) [(7, 0)]
noncomputable def chap2_Challenge (peer0 : Arr Int 16) (auth1 : Arr Int 16) (name2 : List UInt8) : Option (Arr Int 8) :=
 Option.bind (utf16_Bare N name2) fun v4 =>
 bif (roomB (List.length v4) 1) then
  Option.bind (sha1_Of N ([peer0.l, auth1.l, (@ofB v4)] : List ((List Int)))) fun v5 =>
  Option.bind (takeI v5.l (8 : Int)) fun (v6 : (List Int)) =>
  Option.bind (@toArr Int (8 : Nat) v6) fun (v7 : (Arr Int 8)) =>
  some (v7)
 else
  none
theorem chap2_Challenge_S (peer0 : Arr Int 16) (auth1 : Arr Int 16) (name2 : List UInt8) : (runK Tryz.prog (Ev235 N) 400 7 [(.arr 16 (.int .u8)), (.arr 16 (.int .u8)), .str] [(.arr 8 (.int .u8))] (peer0, auth1, name2, ())).run = chap2_Challenge N peer0 auth1 name2 := by kernel_rfl
noncomputable def Ev236 : (R : Type) → Env R := Env.addFn (Ev235 N) 7 (fun R => fnK [(.arr 16 (.int .u8)), (.arr 16 (.int .u8)), .str] [(.arr 8 (.int .u8))] (fun c => chap2_Challenge N c.1 c.2.1 c.2.2.1))
theorem Ev236_ok (R : Type) : EnvOK Tryz.prog (Ev236 N R) := EnvOK.addFn hmx (Ev235_ok N R) (Ev235_ok N _) (by kernel_rfl) (fun c => chap2_Challenge_S N c.1 c.2.1 c.2.2.1)
noncomputable def Ev237 : (R : Type) → Env R := Env.addBx (Ev236 N) [(8, 0)]
theorem Ev237_ok (R : Type) : EnvOK Tryz.prog (Ev237 N R) := EnvOK.addBx (Ev236_ok N R) [(8, 0)]
noncomputable def chap2_Response_L3_I : LI := ⟨28, 0, [(5, 5)], ⟨[(2, .adr (.arr 8 (.int .u8))), (4, .lit (.box 0 0)), (5, .lit (.own 1)), (11, .ty (.arr 3 (.arr 7 (.int .u8)))), (12, .ty (.int .i64))], [.box 27 (.arr 24 (.int .u8)), .own (.int .u8) 5]⟩, [(.exit 0, ⟨[(4, .lit (.box 0 0)), (5, .lit (.own 1))], [.box 27 (.arr 24 (.int .u8)), .own (.int .u8) 5]⟩)]⟩
noncomputable def chap2_Response_L3 (X : (((Arr Int 8) × ((Arr (Arr Int 7) 3) × (Int × Unit))) × ((Arr Int 24) × ((List Int) × Unit))) → Option ((Unit × ((Arr Int 24) × ((List Int) × Unit))))) (c2 : Arr Int 8) (x11 : Arr (Arr Int 7) 3) (x12 : Int) (h0 : Arr Int 24) (h1 : List (Int)) : Option ((Unit × ((Arr Int 24) × ((List Int) × Unit)))) :=
 bif (decide (x12 < (3 : Int))) then
  Option.bind (getI x11.l x12) fun (v7 : (Arr Int 7)) =>
  Option.bind (des_Seven N v7.l c2.l) fun v8 =>
  bif (roomB ((List.length h1) + (List.length v8.1)) 1) then
   (X ((c2, (x11, ((IntKind.wrap .i64 (x12 + 1)), ()))), (h0, ((h1 ++ v8.1), ()))))
  else
   none
 else
  some (((), (h0, (h1, ()))))
noncomputable def chap2_Response_L3_R (c : (((Arr Int 8) × ((Arr (Arr Int 7) 3) × (Int × Unit))) × ((Arr Int 24) × ((List Int) × Unit)))) : Option ((Unit × ((Arr Int 24) × ((List Int) × Unit)))) := gl (fun X c => chap2_Response_L3 N X c.1.1 c.1.2.1 c.1.2.2.1 c.2.1 c.2.2.1) N c
theorem chap2_Response_L3_S (X : (((Arr Int 8) × ((Arr (Arr Int 7) 3) × (Int × Unit))) × ((Arr Int 24) × ((List Int) × Unit))) → Option ((Unit × ((Arr Int 24) × ((List Int) × Unit))))) (c2 : Arr Int 8) (x11 : Arr (Arr Int 7) 3) (x12 : Int) (h0 : Arr Int 24) (h1 : List (Int)) : (roundK Tryz.prog (Ev237 N) 400 [8] chap2_Response_L3_I (loopAt Tryz.prog [8] 3) X ((c2, x11, x12, ()), (h0, h1, ()))).run = chap2_Response_L3 N X c2 x11 x12 h0 h1 := by kernel_rfl
noncomputable def Ev238 : (R : Type) → Env R := Env.addLp (Ev237 N) [8] 0 3 (fun R => lpK Tryz.prog chap2_Response_L3_I (fun X c => chap2_Response_L3 N X c.1.1 c.1.2.1 c.1.2.2.1 c.2.1 c.2.2.1) N)
theorem Ev238_ok (R : Type) : EnvOK Tryz.prog (Ev238 N R) := EnvOK.addLp (Ev237_ok N R) (by kernel_rfl) (lpK_ok (li := chap2_Response_L3_I) (G := fun X c => chap2_Response_L3 N X c.1.1 c.1.2.1 c.1.2.2.1 c.2.1 c.2.2.1) hmx (Ev237_ok N _) (by kernel_rfl) loopAt_sub (fun (X : CT chap2_Response_L3_I.sh → Option (OT chap2_Response_L3_I.outs)) (c : CT chap2_Response_L3_I.sh) => chap2_Response_L3_S N X c.1.1 c.1.2.1 c.1.2.2.1 c.2.1 c.2.2.1) N)
noncomputable def chap2_Response (c0 : Arr Int 8) (h1 : Arr Int 16) : Option (Arr Int 24) :=
 Option.bind (nthash_Thirds N h1) fun v3 =>
 Option.bind (chap2_Response_L3_R N ((c0, (v3, ((0 : Int), ()))), ((@Arr.cons Int 23 0 (@Arr.cons Int 22 0 (@Arr.cons Int 21 0 (@Arr.cons Int 20 0 (@Arr.cons Int 19 0 (@Arr.cons Int 18 0 (@Arr.cons Int 17 0 (@Arr.cons Int 16 0 (@Arr.cons Int 15 0 (@Arr.cons Int 14 0 (@Arr.cons Int 13 0 (@Arr.cons Int 12 0 (@Arr.cons Int 11 0 (@Arr.cons Int 10 0 (@Arr.cons Int 9 0 (@Arr.cons Int 8 0 (@Arr.cons Int 7 0 (@Arr.cons Int 6 0 (@Arr.cons Int 5 0 (@Arr.cons Int 4 0 (@Arr.cons Int 3 0 (@Arr.cons Int 2 0 (@Arr.cons Int 1 0 (@Arr.cons Int 0 0 (@Arr.nil Int))))))))))))))))))))))))), (([] : List Int), ())))) fun v4 =>
 Option.bind (@toArr Int (24 : Nat) v4.2.2.1) fun (v5 : (Arr Int 24)) =>
 some (v5)
theorem chap2_Response_S (c0 : Arr Int 8) (h1 : Arr Int 16) : (runK Tryz.prog (Ev238 N) 400 8 [(.arr 8 (.int .u8)), (.arr 16 (.int .u8))] [(.arr 24 (.int .u8))] (c0, h1, ())).run = chap2_Response N c0 h1 := by kernel_rfl
noncomputable def Ev239 : (R : Type) → Env R := Env.addFn (Ev238 N) 8 (fun R => fnK [(.arr 8 (.int .u8)), (.arr 16 (.int .u8))] [(.arr 24 (.int .u8))] (fun c => chap2_Response N c.1 c.2.1))
theorem Ev239_ok (R : Type) : EnvOK Tryz.prog (Ev239 N R) := EnvOK.addFn hmx (Ev238_ok N R) (Ev238_ok N _) (by kernel_rfl) (fun c => chap2_Response_S N c.1 c.2.1)
noncomputable def Ev240 : (R : Type) → Env R := Env.addBx (Ev239 N) [(9, 0)]
theorem Ev240_ok (R : Type) : EnvOK Tryz.prog (Ev240 N R) := EnvOK.addBx (Ev239_ok N R) [(9, 0)]
noncomputable def chap2_Prove (peer0 : Arr Int 16) (auth1 : Arr Int 16) (name2 : List UInt8) (password3 : List UInt8) : Option ((Arr Int 24) × Int) :=
 Option.bind (nthash_Of N password3) fun v5 =>
 bif (!(decide (v5.2 = (0 : Int)))) then
  some (((@Arr.cons Int 23 0 (@Arr.cons Int 22 0 (@Arr.cons Int 21 0 (@Arr.cons Int 20 0 (@Arr.cons Int 19 0 (@Arr.cons Int 18 0 (@Arr.cons Int 17 0 (@Arr.cons Int 16 0 (@Arr.cons Int 15 0 (@Arr.cons Int 14 0 (@Arr.cons Int 13 0 (@Arr.cons Int 12 0 (@Arr.cons Int 11 0 (@Arr.cons Int 10 0 (@Arr.cons Int 9 0 (@Arr.cons Int 8 0 (@Arr.cons Int 7 0 (@Arr.cons Int 6 0 (@Arr.cons Int 5 0 (@Arr.cons Int 4 0 (@Arr.cons Int 3 0 (@Arr.cons Int 2 0 (@Arr.cons Int 1 0 (@Arr.cons Int 0 0 (@Arr.nil Int))))))))))))))))))))))))), v5.2))
 else
  Option.bind (chap2_Challenge N peer0 auth1 name2) fun v6 =>
  Option.bind (chap2_Response N v6 v5.1) fun v7 =>
  some ((v7, (0 : Int)))
theorem chap2_Prove_S (peer0 : Arr Int 16) (auth1 : Arr Int 16) (name2 : List UInt8) (password3 : List UInt8) : (runK Tryz.prog (Ev240 N) 400 9 [(.arr 16 (.int .u8)), (.arr 16 (.int .u8)), .str, .str] [(.arr 24 (.int .u8)), (.int .i64)] (peer0, auth1, name2, password3, ())).run = chap2_Prove N peer0 auth1 name2 password3 := by kernel_rfl
noncomputable def Ev241 : (R : Type) → Env R := Env.addFn (Ev240 N) 9 (fun R => fnK [(.arr 16 (.int .u8)), (.arr 16 (.int .u8)), .str, .str] [(.arr 24 (.int .u8)), (.int .i64)] (fun c => chap2_Prove N c.1 c.2.1 c.2.2.1 c.2.2.2.1))
theorem Ev241_ok (R : Type) : EnvOK Tryz.prog (Ev241 N R) := EnvOK.addFn hmx (Ev240_ok N R) (Ev240_ok N _) (by kernel_rfl) (fun c => chap2_Prove_S N c.1 c.2.1 c.2.2.1 c.2.2.2.1)
noncomputable def Ev242 : (R : Type) → Env R := Env.addBx (Ev241 N) [(13, 0)]
theorem Ev242_ok (R : Type) : EnvOK Tryz.prog (Ev242 N R) := EnvOK.addBx (Ev241_ok N R) [(13, 0)]
noncomputable def chap2_Answer (h0 : Arr Int 16) (response1 : Arr Int 24) (c2 : Arr Int 8) : Option (List UInt8) :=
 Option.bind (nthash_Twice N h0) fun v4 =>
 Option.bind (sha1_Of N ([v4.l, response1.l, ([77, 97, 103, 105, 99, 32, 115, 101, 114, 118, 101, 114, 32, 116, 111, 32, 99, 108, 105, 101, 110, 116, 32, 115, 105, 103, 110, 105, 110, 103, 32, 99, 111, 110, 115, 116, 97, 110, 116] : List Int)] : List ((List Int)))) fun v5 =>
 Option.bind (sha1_Of N ([v5.l, c2.l, ([80, 97, 100, 32, 116, 111, 32, 109, 97, 107, 101, 32, 105, 116, 32, 100, 111, 32, 109, 111, 114, 101, 32, 116, 104, 97, 110, 32, 111, 110, 101, 32, 105, 116, 101, 114, 97, 116, 105, 111, 110] : List Int)] : List ((List Int)))) fun v6 =>
 Option.bind (octs_Hex N v6.l) fun v7 =>
 bif (decide (((List.length (Array.toList (List.toArray ([83, 61] : List UInt8)))) + (List.length v7)) ≤ maxLen)) then
  some (((Array.toList (List.toArray ([83, 61] : List UInt8))) ++ v7))
 else
  none
theorem chap2_Answer_S (h0 : Arr Int 16) (response1 : Arr Int 24) (c2 : Arr Int 8) : (runK Tryz.prog (Ev242 N) 400 13 [(.arr 16 (.int .u8)), (.arr 24 (.int .u8)), (.arr 8 (.int .u8))] [.str] (h0, response1, c2, ())).run = chap2_Answer N h0 response1 c2 := by kernel_rfl
noncomputable def Ev243 : (R : Type) → Env R := Env.addFn (Ev242 N) 13 (fun R => fnK [(.arr 16 (.int .u8)), (.arr 24 (.int .u8)), (.arr 8 (.int .u8))] [.str] (fun c => chap2_Answer N c.1 c.2.1 c.2.2.1))
theorem Ev243_ok (R : Type) : EnvOK Tryz.prog (Ev243 N R) := EnvOK.addFn hmx (Ev242_ok N R) (Ev242_ok N _) (by kernel_rfl) (fun c => chap2_Answer_S N c.1 c.2.1 c.2.2.1)
noncomputable def Ev244 : (R : Type) → Env R := Env.addBx (Ev243 N) [(11, 0)]
theorem Ev244_ok (R : Type) : EnvOK Tryz.prog (Ev244 N R) := EnvOK.addBx (Ev243_ok N R) [(11, 0)]
noncomputable def ref11_Challenge_L5_I : LI := ⟨30, 0, [], ⟨[(6, .lit (.box 0 0)), (8, .lit (.box 1 0)), (9, .lit (.box 2 0)), (10, .ty (.int .i64))], [.box 25 (.arr 8 (.int .u8)), .box 62 (.arr 20 (.int .u8)), .box 25 (.arr 8 (.int .u8))]⟩, [(.exit 0, ⟨[(6, .lit (.box 0 0)), (9, .lit (.box 1 0))], [.box 25 (.arr 8 (.int .u8)), .box 25 (.arr 8 (.int .u8))]⟩)]⟩
noncomputable def ref11_Challenge_L5 (N : Nat) (X : ((Int × Unit) × ((Arr Int 8) × ((Arr Int 20) × ((Arr Int 8) × Unit)))) → Option ((Unit × ((Arr Int 8) × ((Arr Int 8) × Unit))))) (i10 : Int) (h0 : Arr Int 8) (h1 : Arr Int 20) (h2 : Arr Int 8) : Option ((Unit × ((Arr Int 8) × ((Arr Int 8) × Unit)))) :=
 bif (decide (i10 < (8 : Int))) then
  bif (decide ((0 : Int) ≤ i10 ∧ i10 < ((20 : Nat) : Int))) then
   Option.bind (h1.l[Int.toNat i10]?) fun (v6 : Int) =>
   bif (decide ((0 : Int) ≤ i10 ∧ i10 < ((8 : Nat) : Int))) then
    Option.bind (h2.l[Int.toNat i10]?) fun (v7 : Int) =>
    (X (((IntKind.wrap .i64 (i10 + 1)), ()), (h0, (h1, ((h2.set (Int.toNat i10) v6), ())))))
   else
    none
  else
   none
 else
  some (((), (h0, (h2, ()))))
noncomputable def ref11_Challenge_L5_R (c : ((Int × Unit) × ((Arr Int 8) × ((Arr Int 20) × ((Arr Int 8) × Unit))))) : Option ((Unit × ((Arr Int 8) × ((Arr Int 8) × Unit)))) := gl (fun X c => ref11_Challenge_L5 N X c.1.1 c.2.1 c.2.2.1 c.2.2.2.1) N c
theorem ref11_Challenge_L5_S (X : ((Int × Unit) × ((Arr Int 8) × ((Arr Int 20) × ((Arr Int 8) × Unit)))) → Option ((Unit × ((Arr Int 8) × ((Arr Int 8) × Unit))))) (i10 : Int) (h0 : Arr Int 8) (h1 : Arr Int 20) (h2 : Arr Int 8) : (roundK Tryz.prog (Ev244 N) 400 [11] ref11_Challenge_L5_I (loopAt Tryz.prog [11] 5) X ((i10, ()), (h0, h1, h2, ()))).run = ref11_Challenge_L5 N X i10 h0 h1 h2 := by kernel_rfl
noncomputable def Ev245 : (R : Type) → Env R := Env.addLp (Ev244 N) [11] 0 5 (fun R => lpK Tryz.prog ref11_Challenge_L5_I (fun X c => ref11_Challenge_L5 N X c.1.1 c.2.1 c.2.2.1 c.2.2.2.1) N)
theorem Ev245_ok (R : Type) : EnvOK Tryz.prog (Ev245 N R) := EnvOK.addLp (Ev244_ok N R) (by kernel_rfl) (lpK_ok (li := ref11_Challenge_L5_I) (G := fun X c => ref11_Challenge_L5 N X c.1.1 c.2.1 c.2.2.1 c.2.2.2.1) hmx (Ev244_ok N _) (by kernel_rfl) loopAt_sub (fun (X : CT ref11_Challenge_L5_I.sh → Option (OT ref11_Challenge_L5_I.outs)) (c : CT ref11_Challenge_L5_I.sh) => ref11_Challenge_L5_S N X c.1.1 c.2.1 c.2.2.1 c.2.2.2.1) N)
noncomputable def ref11_Challenge (peer0 : Arr Int 16) (auth1 : Arr Int 16) (name2 : List UInt8) : Option (Arr Int 8) :=
 bif (roomB (List.length peer0.l) 1) then
  bif (roomB ((List.length peer0.l) + (List.length auth1.l)) 1) then
   Option.bind (ref09_Bare N name2) fun v4 =>
   bif (roomB ((List.length (peer0.l ++ auth1.l)) + (List.length v4)) 1) then
    Option.bind (ref05_Of N ((peer0.l ++ auth1.l) ++ (@ofB v4))) fun v5 =>
    Option.bind (ref11_Challenge_L5_R N (((0 : Int), ()), ((@Arr.cons Int 7 0 (@Arr.cons Int 6 0 (@Arr.cons Int 5 0 (@Arr.cons Int 4 0 (@Arr.cons Int 3 0 (@Arr.cons Int 2 0 (@Arr.cons Int 1 0 (@Arr.cons Int 0 0 (@Arr.nil Int))))))))), (v5, ((@Arr.cons Int 7 0 (@Arr.cons Int 6 0 (@Arr.cons Int 5 0 (@Arr.cons Int 4 0 (@Arr.cons Int 3 0 (@Arr.cons Int 2 0 (@Arr.cons Int 1 0 (@Arr.cons Int 0 0 (@Arr.nil Int))))))))), ()))))) fun v6 =>
    some (v6.2.2.1)
   else
    none
  else
   none
 else
  none
theorem ref11_Challenge_S (peer0 : Arr Int 16) (auth1 : Arr Int 16) (name2 : List UInt8) : (runK Tryz.prog (Ev245 N) 400 11 [(.arr 16 (.int .u8)), (.arr 16 (.int .u8)), .str] [(.arr 8 (.int .u8))] (peer0, auth1, name2, ())).run = ref11_Challenge N peer0 auth1 name2 := by kernel_rfl
noncomputable def Ev246 : (R : Type) → Env R := Env.addFn (Ev245 N) 11 (fun R => fnK [(.arr 16 (.int .u8)), (.arr 16 (.int .u8)), .str] [(.arr 8 (.int .u8))] (fun c => ref11_Challenge N c.1 c.2.1 c.2.2.1))
theorem Ev246_ok (R : Type) : EnvOK Tryz.prog (Ev246 N R) := EnvOK.addFn hmx (Ev245_ok N R) (Ev245_ok N _) (by kernel_rfl) (fun c => ref11_Challenge_S N c.1 c.2.1 c.2.2.1)
noncomputable def Ev247 : (R : Type) → Env R := Env.addBx (Ev246 N) [(12, 0)]
theorem Ev247_ok (R : Type) : EnvOK Tryz.prog (Ev247 N R) := EnvOK.addBx (Ev246_ok N R) [(12, 0)]
noncomputable def ref11_Response_L7_I : LI := ⟨42, 0, [], ⟨[(2, .adr (.arr 8 (.int .u8))), (3, .adr (.arr 16 (.int .u8))), (4, .lit (.box 0 0)), (5, .lit (.box 1 0)), (6, .ty (.int .i64)), (7, .ty (.sl (.int .u8))), (9, .ty (.int .i64))], [.box 27 (.arr 24 (.int .u8)), .box 27 (.arr 24 (.int .u8))]⟩, [(.exit 2, ⟨[(2, .adr (.arr 8 (.int .u8))), (3, .adr (.arr 16 (.int .u8))), (4, .lit (.box 0 0)), (5, .lit (.box 1 0)), (6, .ty (.int .i64))], [.box 27 (.arr 24 (.int .u8)), .box 27 (.arr 24 (.int .u8))]⟩)]⟩
noncomputable def ref11_Response_L7 (N : Nat) (X : (((Arr Int 8) × ((Arr Int 16) × (Int × ((List Int) × (Int × Unit))))) × ((Arr Int 24) × ((Arr Int 24) × Unit))) → Option ((((Arr Int 8) × ((Arr Int 16) × (Int × Unit))) × ((Arr Int 24) × ((Arr Int 24) × Unit))))) (c2 : Arr Int 8) (h3 : Arr Int 16) (n6 : Int) (b7 : List (Int)) (i9 : Int) (h0 : Arr Int 24) (h1 : Arr Int 24) : Option ((((Arr Int 8) × ((Arr Int 16) × (Int × Unit))) × ((Arr Int 24) × ((Arr Int 24) × Unit)))) :=
 bif (decide (i9 < (8 : Int))) then
  Option.bind (some ((cond true (decide (i9 < (((List.length b7) : Nat) : Int))) false))) fun (v9 : Bool) =>
  bif v9 then
   Option.bind (getI b7 i9) fun (v10 : Int) =>
   bif (decide ((0 : Int) ≤ (IntKind.wrap .i64 ((IntKind.wrap .i64 ((8 : Int) * n6)) + i9)) ∧ (IntKind.wrap .i64 ((IntKind.wrap .i64 ((8 : Int) * n6)) + i9)) < ((24 : Nat) : Int))) then
    Option.bind (h1.l[Int.toNat (IntKind.wrap .i64 ((IntKind.wrap .i64 ((8 : Int) * n6)) + i9))]?) fun (v11 : Int) =>
    (X ((c2, (h3, (n6, (b7, ((IntKind.wrap .i64 (i9 + 1)), ()))))), (h0, ((h1.set (Int.toNat (IntKind.wrap .i64 ((IntKind.wrap .i64 ((8 : Int) * n6)) + i9))) v10), ()))))
   else
    none
  else
   some (((c2, (h3, (n6, ()))), (h0, (h1, ()))))
 else
  Option.bind (some (false)) fun (v9 : Bool) =>
  bif v9 then
   Option.bind (getI b7 i9) fun (v10 : Int) =>
   bif (decide ((0 : Int) ≤ (IntKind.wrap .i64 ((IntKind.wrap .i64 ((8 : Int) * n6)) + i9)) ∧ (IntKind.wrap .i64 ((IntKind.wrap .i64 ((8 : Int) * n6)) + i9)) < ((24 : Nat) : Int))) then
    Option.bind (h1.l[Int.toNat (IntKind.wrap .i64 ((IntKind.wrap .i64 ((8 : Int) * n6)) + i9))]?) fun (v11 : Int) =>
    (X ((c2, (h3, (n6, (b7, ((IntKind.wrap .i64 (i9 + 1)), ()))))), (h0, ((h1.set (Int.toNat (IntKind.wrap .i64 ((IntKind.wrap .i64 ((8 : Int) * n6)) + i9))) v10), ()))))
   else
    none
  else
   some (((c2, (h3, (n6, ()))), (h0, (h1, ()))))
noncomputable def ref11_Response_L7_R (c : (((Arr Int 8) × ((Arr Int 16) × (Int × ((List Int) × (Int × Unit))))) × ((Arr Int 24) × ((Arr Int 24) × Unit)))) : Option ((((Arr Int 8) × ((Arr Int 16) × (Int × Unit))) × ((Arr Int 24) × ((Arr Int 24) × Unit)))) := gl (fun X c => ref11_Response_L7 N X c.1.1 c.1.2.1 c.1.2.2.1 c.1.2.2.2.1 c.1.2.2.2.2.1 c.2.1 c.2.2.1) N c
theorem ref11_Response_L7_S (X : (((Arr Int 8) × ((Arr Int 16) × (Int × ((List Int) × (Int × Unit))))) × ((Arr Int 24) × ((Arr Int 24) × Unit))) → Option ((((Arr Int 8) × ((Arr Int 16) × (Int × Unit))) × ((Arr Int 24) × ((Arr Int 24) × Unit))))) (c2 : Arr Int 8) (h3 : Arr Int 16) (n6 : Int) (b7 : List (Int)) (i9 : Int) (h0 : Arr Int 24) (h1 : Arr Int 24) : (roundK Tryz.prog (Ev247 N) 400 [12] ref11_Response_L7_I (loopAt Tryz.prog [12] 7) X ((c2, h3, n6, b7, i9, ()), (h0, h1, ()))).run = ref11_Response_L7 N X c2 h3 n6 b7 i9 h0 h1 := by kernel_rfl
noncomputable def Ev248 : (R : Type) → Env R := Env.addLp (Ev247 N) [12] 0 7 (fun R => lpK Tryz.prog ref11_Response_L7_I (fun X c => ref11_Response_L7 N X c.1.1 c.1.2.1 c.1.2.2.1 c.1.2.2.2.1 c.1.2.2.2.2.1 c.2.1 c.2.2.1) N)
theorem Ev248_ok (R : Type) : EnvOK Tryz.prog (Ev248 N R) := EnvOK.addLp (Ev247_ok N R) (by kernel_rfl) (lpK_ok (li := ref11_Response_L7_I) (G := fun X c => ref11_Response_L7 N X c.1.1 c.1.2.1 c.1.2.2.1 c.1.2.2.2.1 c.1.2.2.2.2.1 c.2.1 c.2.2.1) hmx (Ev247_ok N _) (by kernel_rfl) loopAt_sub (fun (X : CT ref11_Response_L7_I.sh → Option (OT ref11_Response_L7_I.outs)) (c : CT ref11_Response_L7_I.sh) => ref11_Response_L7_S N X c.1.1 c.1.2.1 c.1.2.2.1 c.1.2.2.2.1 c.1.2.2.2.2.1 c.2.1 c.2.2.1) N)
noncomputable def ref11_Response_L3_I : LI := ⟨42, 0, [], ⟨[(2, .adr (.arr 8 (.int .u8))), (3, .adr (.arr 16 (.int .u8))), (4, .lit (.box 0 0)), (5, .lit (.box 1 0)), (6, .ty (.int .i64))], [.box 27 (.arr 24 (.int .u8)), .box 27 (.arr 24 (.int .u8))]⟩, [(.exit 0, ⟨[(4, .lit (.box 0 0)), (5, .lit (.box 1 0))], [.box 27 (.arr 24 (.int .u8)), .box 27 (.arr 24 (.int .u8))]⟩)]⟩
noncomputable def ref11_Response_L3 (X : (((Arr Int 8) × ((Arr Int 16) × (Int × Unit))) × ((Arr Int 24) × ((Arr Int 24) × Unit))) → Option ((Unit × ((Arr Int 24) × ((Arr Int 24) × Unit))))) (c2 : Arr Int 8) (h3 : Arr Int 16) (n6 : Int) (h0 : Arr Int 24) (h1 : Arr Int 24) : Option ((Unit × ((Arr Int 24) × ((Arr Int 24) × Unit)))) :=
 bif (decide (n6 < (3 : Int))) then
  Option.bind (ref10_Third N h3 n6) fun v7 =>
  Option.bind (ref08_Seven N v7 c2.l) fun v8 =>
  Option.bind (ref11_Response_L7_R N ((c2, (h3, (n6, (v8.1, ((0 : Int), ()))))), (h0, (h1, ())))) fun v9 =>
  (X ((v9.1.1, (v9.1.2.1, ((IntKind.wrap .i64 (v9.1.2.2.1 + 1)), ()))), (v9.2.1, (v9.2.2.1, ()))))
 else
  some (((), (h0, (h1, ()))))
noncomputable def ref11_Response_L3_R (c : (((Arr Int 8) × ((Arr Int 16) × (Int × Unit))) × ((Arr Int 24) × ((Arr Int 24) × Unit)))) : Option ((Unit × ((Arr Int 24) × ((Arr Int 24) × Unit)))) := gl (fun X c => ref11_Response_L3 N X c.1.1 c.1.2.1 c.1.2.2.1 c.2.1 c.2.2.1) N c
theorem ref11_Response_L3_S (X : (((Arr Int 8) × ((Arr Int 16) × (Int × Unit))) × ((Arr Int 24) × ((Arr Int 24) × Unit))) → Option ((Unit × ((Arr Int 24) × ((Arr Int 24) × Unit))))) (c2 : Arr Int 8) (h3 : Arr Int 16) (n6 : Int) (h0 : Arr Int 24) (h1 : Arr Int 24) : (roundK Tryz.prog (Ev248 N) 400 [12] ref11_Response_L3_I (loopAt Tryz.prog [12] 3) X ((c2, h3, n6, ()), (h0, h1, ()))).run = ref11_Response_L3 N X c2 h3 n6 h0 h1 := by kernel_rfl
noncomputable def Ev249 : (R : Type) → Env R := Env.addLp (Ev248 N) [12] 0 3 (fun R => lpK Tryz.prog ref11_Response_L3_I (fun X c => ref11_Response_L3 N X c.1.1 c.1.2.1 c.1.2.2.1 c.2.1 c.2.2.1) N)
theorem Ev249_ok (R : Type) : EnvOK Tryz.prog (Ev249 N R) := EnvOK.addLp (Ev248_ok N R) (by kernel_rfl) (lpK_ok (li := ref11_Response_L3_I) (G := fun X c => ref11_Response_L3 N X c.1.1 c.1.2.1 c.1.2.2.1 c.2.1 c.2.2.1) hmx (Ev248_ok N _) (by kernel_rfl) loopAt_sub (fun (X : CT ref11_Response_L3_I.sh → Option (OT ref11_Response_L3_I.outs)) (c : CT ref11_Response_L3_I.sh) => ref11_Response_L3_S N X c.1.1 c.1.2.1 c.1.2.2.1 c.2.1 c.2.2.1) N)
noncomputable def ref11_Response (c0 : Arr Int 8) (h1 : Arr Int 16) : Option (Arr Int 24) :=
 Option.bind (ref11_Response_L3_R N ((c0, (h1, ((0 : Int), ()))), ((@Arr.cons Int 23 0 (@Arr.cons Int 22 0 (@Arr.cons Int 21 0 (@Arr.cons Int 20 0 (@Arr.cons Int 19 0 (@Arr.cons Int 18 0 (@Arr.cons Int 17 0 (@Arr.cons Int 16 0 (@Arr.cons Int 15 0 (@Arr.cons Int 14 0 (@Arr.cons Int 13 0 (@Arr.cons Int 12 0 (@Arr.cons Int 11 0 (@Arr.cons Int 10 0 (@Arr.cons Int 9 0 (@Arr.cons Int 8 0 (@Arr.cons Int 7 0 (@Arr.cons Int 6 0 (@Arr.cons Int 5 0 (@Arr.cons Int 4 0 (@Arr.cons Int 3 0 (@Arr.cons Int 2 0 (@Arr.cons Int 1 0 (@Arr.cons Int 0 0 (@Arr.nil Int))))))))))))))))))))))))), ((@Arr.cons Int 23 0 (@Arr.cons Int 22 0 (@Arr.cons Int 21 0 (@Arr.cons Int 20 0 (@Arr.cons Int 19 0 (@Arr.cons Int 18 0 (@Arr.cons Int 17 0 (@Arr.cons Int 16 0 (@Arr.cons Int 15 0 (@Arr.cons Int 14 0 (@Arr.cons Int 13 0 (@Arr.cons Int 12 0 (@Arr.cons Int 11 0 (@Arr.cons Int 10 0 (@Arr.cons Int 9 0 (@Arr.cons Int 8 0 (@Arr.cons Int 7 0 (@Arr.cons Int 6 0 (@Arr.cons Int 5 0 (@Arr.cons Int 4 0 (@Arr.cons Int 3 0 (@Arr.cons Int 2 0 (@Arr.cons Int 1 0 (@Arr.cons Int 0 0 (@Arr.nil Int))))))))))))))))))))))))), ())))) fun v3 =>
 some (v3.2.2.1)
theorem ref11_Response_S (c0 : Arr Int 8) (h1 : Arr Int 16) : (runK Tryz.prog (Ev249 N) 400 12 [(.arr 8 (.int .u8)), (.arr 16 (.int .u8))] [(.arr 24 (.int .u8))] (c0, h1, ())).run = ref11_Response N c0 h1 := by kernel_rfl
noncomputable def Ev250 : (R : Type) → Env R := Env.addFn (Ev249 N) 12 (fun R => fnK [(.arr 8 (.int .u8)), (.arr 16 (.int .u8))] [(.arr 24 (.int .u8))] (fun c => ref11_Response N c.1 c.2.1))
theorem Ev250_ok (R : Type) : EnvOK Tryz.prog (Ev250 N R) := EnvOK.addFn hmx (Ev249_ok N R) (Ev249_ok N _) (by kernel_rfl) (fun c => ref11_Response_S N c.1 c.2.1)
noncomputable def Ev251 : (R : Type) → Env R := Env.addBx (Ev250 N) [(10, 0)]
theorem Ev251_ok (R : Type) : EnvOK Tryz.prog (Ev251 N R) := EnvOK.addBx (Ev250_ok N R) [(10, 0)]
noncomputable def ref11_Prove (peer0 : Arr Int 16) (auth1 : Arr Int 16) (name2 : List UInt8) (password3 : List UInt8) : Option ((Arr Int 24) × Int) :=
 Option.bind (ref10_Of N password3) fun v5 =>
 bif (!(decide (v5.2 = (0 : Int)))) then
  some (((@Arr.cons Int 23 0 (@Arr.cons Int 22 0 (@Arr.cons Int 21 0 (@Arr.cons Int 20 0 (@Arr.cons Int 19 0 (@Arr.cons Int 18 0 (@Arr.cons Int 17 0 (@Arr.cons Int 16 0 (@Arr.cons Int 15 0 (@Arr.cons Int 14 0 (@Arr.cons Int 13 0 (@Arr.cons Int 12 0 (@Arr.cons Int 11 0 (@Arr.cons Int 10 0 (@Arr.cons Int 9 0 (@Arr.cons Int 8 0 (@Arr.cons Int 7 0 (@Arr.cons Int 6 0 (@Arr.cons Int 5 0 (@Arr.cons Int 4 0 (@Arr.cons Int 3 0 (@Arr.cons Int 2 0 (@Arr.cons Int 1 0 (@Arr.cons Int 0 0 (@Arr.nil Int))))))))))))))))))))))))), v5.2))
 else
  Option.bind (ref11_Challenge N peer0 auth1 name2) fun v6 =>
  Option.bind (ref11_Response N v6 v5.1) fun v7 =>
  some ((v7, (0 : Int)))
theorem ref11_Prove_S (peer0 : Arr Int 16) (auth1 : Arr Int 16) (name2 : List UInt8) (password3 : List UInt8) : (runK Tryz.prog (Ev251 N) 400 10 [(.arr 16 (.int .u8)), (.arr 16 (.int .u8)), .str, .str] [(.arr 24 (.int .u8)), (.int .i64)] (peer0, auth1, name2, password3, ())).run = ref11_Prove N peer0 auth1 name2 password3 := by kernel_rfl
noncomputable def Ev252 : (R : Type) → Env R := Env.addFn (Ev251 N) 10 (fun R => fnK [(.arr 16 (.int .u8)), (.arr 16 (.int .u8)), .str, .str] [(.arr 24 (.int .u8)), (.int .i64)] (fun c => ref11_Prove N c.1 c.2.1 c.2.2.1 c.2.2.2.1))
theorem Ev252_ok (R : Type) : EnvOK Tryz.prog (Ev252 N R) := EnvOK.addFn hmx (Ev251_ok N R) (Ev251_ok N _) (by kernel_rfl) (fun c => ref11_Prove_S N c.1 c.2.1 c.2.2.1 c.2.2.2.1)
noncomputable def Ev253 : (R : Type) → Env R := Env.addBx (Ev252 N) [(14, 0)]
theorem Ev253_ok (R : Type) : EnvOK Tryz.prog (Ev253 N R) := EnvOK.addBx (Ev252_ok N R) [(14, 0)]
noncomputable def ref11_Answer (h0 : Arr Int 16) (response1 : Arr Int 24) (c2 : Arr Int 8) : Option (List UInt8) :=
 Option.bind (ref10_Twice N h0) fun v4 =>
 bif (roomB (List.length v4.l) 1) then
  bif (roomB ((List.length v4.l) + (List.length response1.l)) 1) then
   bif (roomB ((List.length (v4.l ++ response1.l)) + (List.length (Array.toList (List.toArray ([77, 97, 103, 105, 99, 32, 115, 101, 114, 118, 101, 114, 32, 116, 111, 32, 99, 108, 105, 101, 110, 116, 32, 115, 105, 103, 110, 105, 110, 103, 32, 99, 111, 110, 115, 116, 97, 110, 116] : List UInt8))))) 1) then
    Option.bind (ref05_Of N ((v4.l ++ response1.l) ++ (@ofB (Array.toList (List.toArray ([77, 97, 103, 105, 99, 32, 115, 101, 114, 118, 101, 114, 32, 116, 111, 32, 99, 108, 105, 101, 110, 116, 32, 115, 105, 103, 110, 105, 110, 103, 32, 99, 111, 110, 115, 116, 97, 110, 116] : List UInt8)))))) fun v5 =>
    bif (roomB (List.length v5.l) 1) then
     bif (roomB ((List.length v5.l) + (List.length c2.l)) 1) then
      bif (roomB ((List.length (v5.l ++ c2.l)) + (List.length (Array.toList (List.toArray ([80, 97, 100, 32, 116, 111, 32, 109, 97, 107, 101, 32, 105, 116, 32, 100, 111, 32, 109, 111, 114, 101, 32, 116, 104, 97, 110, 32, 111, 110, 101, 32, 105, 116, 101, 114, 97, 116, 105, 111, 110] : List UInt8))))) 1) then
       Option.bind (ref05_Of N ((v5.l ++ c2.l) ++ (@ofB (Array.toList (List.toArray ([80, 97, 100, 32, 116, 111, 32, 109, 97, 107, 101, 32, 105, 116, 32, 100, 111, 32, 109, 111, 114, 101, 32, 116, 104, 97, 110, 32, 111, 110, 101, 32, 105, 116, 101, 114, 97, 116, 105, 111, 110] : List UInt8)))))) fun v6 =>
       Option.bind (ref01_Hex N v6.l) fun v7 =>
       bif (decide (((List.length (Array.toList (List.toArray ([83, 61] : List UInt8)))) + (List.length v7)) ≤ maxLen)) then
        some (((Array.toList (List.toArray ([83, 61] : List UInt8))) ++ v7))
       else
        none
      else
       none
     else
      none
    else
     none
   else
    none
  else
   none
 else
  none
theorem ref11_Answer_S (h0 : Arr Int 16) (response1 : Arr Int 24) (c2 : Arr Int 8) : (runK Tryz.prog (Ev253 N) 400 14 [(.arr 16 (.int .u8)), (.arr 24 (.int .u8)), (.arr 8 (.int .u8))] [.str] (h0, response1, c2, ())).run = ref11_Answer N h0 response1 c2 := by kernel_rfl
noncomputable def Ev254 : (R : Type) → Env R := Env.addFn (Ev253 N) 14 (fun R => fnK [(.arr 16 (.int .u8)), (.arr 24 (.int .u8)), (.arr 8 (.int .u8))] [.str] (fun c => ref11_Answer N c.1 c.2.1 c.2.2.1))
theorem Ev254_ok (R : Type) : EnvOK Tryz.prog (Ev254 N R) := EnvOK.addFn hmx (Ev253_ok N R) (Ev253_ok N _) (by kernel_rfl) (fun c => ref11_Answer_S N c.1 c.2.1 c.2.2.1)
noncomputable def law11_alive : Option Bool :=
 Option.bind (chap2_Prove N (@Arr.cons Int 15 33 (@Arr.cons Int 14 64 (@Arr.cons Int 13 35 (@Arr.cons Int 12 36 (@Arr.cons Int 11 37 (@Arr.cons Int 10 94 (@Arr.cons Int 9 38 (@Arr.cons Int 8 42 (@Arr.cons Int 7 40 (@Arr.cons Int 6 41 (@Arr.cons Int 5 95 (@Arr.cons Int 4 43 (@Arr.cons Int 3 58 (@Arr.cons Int 2 51 (@Arr.cons Int 1 124 (@Arr.cons Int 0 126 (@Arr.nil Int))))))))))))))))) (@Arr.cons Int 15 91 (@Arr.cons Int 14 93 (@Arr.cons Int 13 124 (@Arr.cons Int 12 125 (@Arr.cons Int 11 123 (@Arr.cons Int 10 63 (@Arr.cons Int 9 47 (@Arr.cons Int 8 62 (@Arr.cons Int 7 60 (@Arr.cons Int 6 44 (@Arr.cons Int 5 96 (@Arr.cons Int 4 33 (@Arr.cons Int 3 50 (@Arr.cons Int 2 38 (@Arr.cons Int 1 38 (@Arr.cons Int 0 40 (@Arr.nil Int))))))))))))))))) (Array.toList (List.toArray ([85, 115, 101, 114] : List UInt8))) (Array.toList (List.toArray ([99, 108, 105, 101, 110, 116, 80, 97, 115, 115] : List UInt8)))) fun v1 =>
 Option.bind (chap2_Value N (@Arr.cons Int 15 33 (@Arr.cons Int 14 64 (@Arr.cons Int 13 35 (@Arr.cons Int 12 36 (@Arr.cons Int 11 37 (@Arr.cons Int 10 94 (@Arr.cons Int 9 38 (@Arr.cons Int 8 42 (@Arr.cons Int 7 40 (@Arr.cons Int 6 41 (@Arr.cons Int 5 95 (@Arr.cons Int 4 43 (@Arr.cons Int 3 58 (@Arr.cons Int 2 51 (@Arr.cons Int 1 124 (@Arr.cons Int 0 126 (@Arr.nil Int))))))))))))))))) v1.1) fun v2 =>
 Option.bind (chap2_Parse N v2) fun v3 =>
 Option.bind (v1.1.l[Int.toNat (0 : Int)]?) fun (v4 : Int) =>
 Option.bind (bif (decide (v4 = (130 : Int))) then
   Option.bind (v1.1.l[Int.toNat (1 : Int)]?) fun (v5 : Int) =>
   some ((cond true (decide (v5 = (48 : Int))) false))
  else
   some (false)) fun (v5 : Bool) =>
 Option.bind (bif v5 then
   Option.bind (v1.1.l[Int.toNat (2 : Int)]?) fun (v6 : Int) =>
   some ((cond true (decide (v6 = (158 : Int))) false))
  else
   some (false)) fun (v6 : Bool) =>
 Option.bind (bif v6 then
   some ((cond true (decide (v1.2 = (0 : Int))) false))
  else
   some (false)) fun (v7 : Bool) =>
 Option.bind (bif v7 then
   bif ((@wfB (@Td.arr (16 : Nat) (@Td.int @IntKind.u8)) v3.1) && (@wfB (@Td.arr (16 : Nat) (@Td.int @IntKind.u8)) (@Arr.cons Int 15 33 (@Arr.cons Int 14 64 (@Arr.cons Int 13 35 (@Arr.cons Int 12 36 (@Arr.cons Int 11 37 (@Arr.cons Int 10 94 (@Arr.cons Int 9 38 (@Arr.cons Int 8 42 (@Arr.cons Int 7 40 (@Arr.cons Int 6 41 (@Arr.cons Int 5 95 (@Arr.cons Int 4 43 (@Arr.cons Int 3 58 (@Arr.cons Int 2 51 (@Arr.cons Int 1 124 (@Arr.cons Int 0 126 (@Arr.nil Int))))))))))))))))))) then
    some ((cond true (@Decidable.decide (@Eq (Arr Int 16) v3.1 (@Arr.cons Int 15 33 (@Arr.cons Int 14 64 (@Arr.cons Int 13 35 (@Arr.cons Int 12 36 (@Arr.cons Int 11 37 (@Arr.cons Int 10 94 (@Arr.cons Int 9 38 (@Arr.cons Int 8 42 (@Arr.cons Int 7 40 (@Arr.cons Int 6 41 (@Arr.cons Int 5 95 (@Arr.cons Int 4 43 (@Arr.cons Int 3 58 (@Arr.cons Int 2 51 (@Arr.cons Int 1 124 (@Arr.cons Int 0 126 (@Arr.nil Int)))))))))))))))))) (@decT (@Td.arr (16 : Nat) (@Td.int @IntKind.u8)) v3.1 (@Arr.cons Int 15 33 (@Arr.cons Int 14 64 (@Arr.cons Int 13 35 (@Arr.cons Int 12 36 (@Arr.cons Int 11 37 (@Arr.cons Int 10 94 (@Arr.cons Int 9 38 (@Arr.cons Int 8 42 (@Arr.cons Int 7 40 (@Arr.cons Int 6 41 (@Arr.cons Int 5 95 (@Arr.cons Int 4 43 (@Arr.cons Int 3 58 (@Arr.cons Int 2 51 (@Arr.cons Int 1 124 (@Arr.cons Int 0 126 (@Arr.nil Int))))))))))))))))))) false))
   else
    none
  else
   some (false)) fun (v8 : Bool) =>
 Option.bind (bif v8 then
   bif ((@wfB (@Td.arr (24 : Nat) (@Td.int @IntKind.u8)) v3.2.1) && (@wfB (@Td.arr (24 : Nat) (@Td.int @IntKind.u8)) v1.1)) then
    some ((cond true (@Decidable.decide (@Eq (Arr Int 24) v3.2.1 v1.1) (@decT (@Td.arr (24 : Nat) (@Td.int @IntKind.u8)) v3.2.1 v1.1)) false))
   else
    none
  else
   some (false)) fun (v9 : Bool) =>
 Option.bind (bif v9 then
   some ((cond true (decide (v3.2.2 = (0 : Int))) false))
  else
   some (false)) fun (v10 : Bool) =>
 bif v10 then
  Option.bind (chap2_Answer N (@Arr.cons Int 15 0 (@Arr.cons Int 14 0 (@Arr.cons Int 13 0 (@Arr.cons Int 12 0 (@Arr.cons Int 11 0 (@Arr.cons Int 10 0 (@Arr.cons Int 9 0 (@Arr.cons Int 8 0 (@Arr.cons Int 7 0 (@Arr.cons Int 6 0 (@Arr.cons Int 5 0 (@Arr.cons Int 4 0 (@Arr.cons Int 3 0 (@Arr.cons Int 2 0 (@Arr.cons Int 1 0 (@Arr.cons Int 0 0 (@Arr.nil Int))))))))))))))))) v1.1 (@Arr.cons Int 7 0 (@Arr.cons Int 6 0 (@Arr.cons Int 5 0 (@Arr.cons Int 4 0 (@Arr.cons Int 3 0 (@Arr.cons Int 2 0 (@Arr.cons Int 1 0 (@Arr.cons Int 0 0 (@Arr.nil Int)))))))))) fun v11 =>
  Option.bind (some ((cond true (decide ((((List.length v11) : Nat) : Int) = (42 : Int))) false))) fun (v12 : Bool) =>
  some (v12)
 else
  Option.bind (some (false)) fun (v11 : Bool) =>
  some (v11)
theorem law11_alive_S : (runK Tryz.prog (Ev254 N) 400 6 [] [.bool] ()).run = law11_alive N  := by kernel_rfl
noncomputable def Ev255 : (R : Type) → Env R := Env.addFn (Ev254 N) 6 (fun R => fnK [] [.bool] (fun c => law11_alive N ))
theorem Ev255_ok (R : Type) : EnvOK Tryz.prog (Ev255 N R) := EnvOK.addFn hmx (Ev254_ok N R) (Ev254_ok N _) (by kernel_rfl) (fun c => law11_alive_S N )
noncomputable def Ev256 : (R : Type) → Env R := Env.addBx (Ev255 N) [(3, 0)]
theorem Ev256_ok (R : Type) : EnvOK Tryz.prog (Ev256 N R) := EnvOK.addBx (Ev255_ok N R) [(3, 0)]
noncomputable def law11_Chap2Proves (l0 : Arr (Arr Int 16) 2) (name1 : List UInt8) (password2 : List UInt8) : Option Bool :=
 bif (decide ((300 : Int) < (((List.length name1) : Nat) : Int))) then
  Option.bind (some (true)) fun (v4 : Bool) =>
  bif v4 then
   Option.bind (@law11_alive N) fun (v5 : Bool) =>
   some (v5)
  else
   Option.bind (getI l0.l (0 : Int)) fun (v5 : (Arr Int 16)) =>
   Option.bind (getI l0.l (1 : Int)) fun (v6 : (Arr Int 16)) =>
   Option.bind (chap2_Challenge N v5 v6 name1) fun v7 =>
   Option.bind (getI l0.l (0 : Int)) fun (v8 : (Arr Int 16)) =>
   Option.bind (chap2_Response N v7 v8) fun v9 =>
   Option.bind (getI l0.l (0 : Int)) fun (v10 : (Arr Int 16)) =>
   Option.bind (getI l0.l (1 : Int)) fun (v11 : (Arr Int 16)) =>
   Option.bind (chap2_Prove N v10 v11 name1 password2) fun v12 =>
   Option.bind (getI l0.l (0 : Int)) fun (v13 : (Arr Int 16)) =>
   Option.bind (getI l0.l (1 : Int)) fun (v14 : (Arr Int 16)) =>
   Option.bind (ref11_Prove N v13 v14 name1 password2) fun v15 =>
   Option.bind (getI l0.l (0 : Int)) fun (v16 : (Arr Int 16)) =>
   Option.bind (getI l0.l (1 : Int)) fun (v17 : (Arr Int 16)) =>
   Option.bind (ref11_Challenge N v16 v17 name1) fun v18 =>
   bif ((@wfB (@Td.arr (8 : Nat) (@Td.int @IntKind.u8)) v7) && (@wfB (@Td.arr (8 : Nat) (@Td.int @IntKind.u8)) v18)) then
    bif (@Decidable.decide (@Eq (Arr Int 8) v7 v18) (@decT (@Td.arr (8 : Nat) (@Td.int @IntKind.u8)) v7 v18)) then
     Option.bind (getI l0.l (0 : Int)) fun (v19 : (Arr Int 16)) =>
     Option.bind (ref11_Response N v7 v19) fun v20 =>
     bif ((@wfB (@Td.arr (24 : Nat) (@Td.int @IntKind.u8)) v9) && (@wfB (@Td.arr (24 : Nat) (@Td.int @IntKind.u8)) v20)) then
      bif (cond true (@Decidable.decide (@Eq (Arr Int 24) v9 v20) (@decT (@Td.arr (24 : Nat) (@Td.int @IntKind.u8)) v9 v20)) false) then
       bif ((@wfB (@Td.arr (24 : Nat) (@Td.int @IntKind.u8)) v12.1) && (@wfB (@Td.arr (24 : Nat) (@Td.int @IntKind.u8)) v15.1)) then
        bif (cond true (@Decidable.decide (@Eq (Arr Int 24) v12.1 v15.1) (@decT (@Td.arr (24 : Nat) (@Td.int @IntKind.u8)) v12.1 v15.1)) false) then
         bif (cond true (decide (v12.2 = v15.2)) false) then
          Option.bind (getI l0.l (1 : Int)) fun (v21 : (Arr Int 16)) =>
          Option.bind (chap2_Answer N v21 v9 v7) fun v22 =>
          Option.bind (getI l0.l (1 : Int)) fun (v23 : (Arr Int 16)) =>
          Option.bind (ref11_Answer N v23 v9 v7) fun v24 =>
          bif (cond true (decide (v22 = v24)) false) then
           Option.bind (@law11_alive N) fun (v25 : Bool) =>
           some ((cond true v25 false))
          else
           some (false)
         else
          some (false)
        else
         some (false)
       else
        none
      else
       some (false)
     else
      none
    else
     some (false)
   else
    none
 else
  Option.bind (some ((cond false true (decide ((300 : Int) < (((List.length password2) : Nat) : Int)))))) fun (v4 : Bool) =>
  bif v4 then
   Option.bind (@law11_alive N) fun (v5 : Bool) =>
   some (v5)
  else
   Option.bind (getI l0.l (0 : Int)) fun (v5 : (Arr Int 16)) =>
   Option.bind (getI l0.l (1 : Int)) fun (v6 : (Arr Int 16)) =>
   Option.bind (chap2_Challenge N v5 v6 name1) fun v7 =>
   Option.bind (getI l0.l (0 : Int)) fun (v8 : (Arr Int 16)) =>
   Option.bind (chap2_Response N v7 v8) fun v9 =>
   Option.bind (getI l0.l (0 : Int)) fun (v10 : (Arr Int 16)) =>
   Option.bind (getI l0.l (1 : Int)) fun (v11 : (Arr Int 16)) =>
   Option.bind (chap2_Prove N v10 v11 name1 password2) fun v12 =>
   Option.bind (getI l0.l (0 : Int)) fun (v13 : (Arr Int 16)) =>
   Option.bind (getI l0.l (1 : Int)) fun (v14 : (Arr Int 16)) =>
   Option.bind (ref11_Prove N v13 v14 name1 password2) fun v15 =>
   Option.bind (getI l0.l (0 : Int)) fun (v16 : (Arr Int 16)) =>
   Option.bind (getI l0.l (1 : Int)) fun (v17 : (Arr Int 16)) =>
   Option.bind (ref11_Challenge N v16 v17 name1) fun v18 =>
   bif ((@wfB (@Td.arr (8 : Nat) (@Td.int @IntKind.u8)) v7) && (@wfB (@Td.arr (8 : Nat) (@Td.int @IntKind.u8)) v18)) then
    bif (@Decidable.decide (@Eq (Arr Int 8) v7 v18) (@decT (@Td.arr (8 : Nat) (@Td.int @IntKind.u8)) v7 v18)) then
     Option.bind (getI l0.l (0 : Int)) fun (v19 : (Arr Int 16)) =>
     Option.bind (ref11_Response N v7 v19) fun v20 =>
     bif ((@wfB (@Td.arr (24 : Nat) (@Td.int @IntKind.u8)) v9) && (@wfB (@Td.arr (24 : Nat) (@Td.int @IntKind.u8)) v20)) then
      bif (cond true (@Decidable.decide (@Eq (Arr Int 24) v9 v20) (@decT (@Td.arr (24 : Nat) (@Td.int @IntKind.u8)) v9 v20)) false) then
       bif ((@wfB (@Td.arr (24 : Nat) (@Td.int @IntKind.u8)) v12.1) && (@wfB (@Td.arr (24 : Nat) (@Td.int @IntKind.u8)) v15.1)) then
        bif (cond true (@Decidable.decide (@Eq (Arr Int 24) v12.1 v15.1) (@decT (@Td.arr (24 : Nat) (@Td.int @IntKind.u8)) v12.1 v15.1)) false) then
         bif (cond true (decide (v12.2 = v15.2)) false) then
          Option.bind (getI l0.l (1 : Int)) fun (v21 : (Arr Int 16)) =>
          Option.bind (chap2_Answer N v21 v9 v7) fun v22 =>
          Option.bind (getI l0.l (1 : Int)) fun (v23 : (Arr Int 16)) =>
          Option.bind (ref11_Answer N v23 v9 v7) fun v24 =>
          bif (cond true (decide (v22 = v24)) false) then
           Option.bind (@law11_alive N) fun (v25 : Bool) =>
           some ((cond true v25 false))
          else
           some (false)
         else
          some (false)
        else
         some (false)
       else
        none
      else
       some (false)
     else
      none
    else
     some (false)
   else
    none
theorem law11_Chap2Proves_S (l0 : Arr (Arr Int 16) 2) (name1 : List UInt8) (password2 : List UInt8) : (runK Tryz.prog (Ev256 N) 400 3 [(.arr 2 (.arr 16 (.int .u8))), .str, .str] [.bool] (l0, name1, password2, ())).run = law11_Chap2Proves N l0 name1 password2 := by kernel_rfl
theorem law11_Chap2Proves_C (l0 : Arr (Arr Int 16) 2) (name1 : List UInt8) (password2 : List UInt8) (y : Bool) (h : law11_Chap2Proves N l0 name1 password2 = some y) : CallsK Tryz.prog 3 (valA [(.arr 2 (.arr 16 (.int .u8))), .str, .str] (l0, name1, password2, ())) (tupV (valR [.bool] y)) := runK_ok hmx (Ev256_ok N _) (okFn_ok (by kernel_rfl)) (by rw [law11_Chap2Proves_S]; exact h)
end
end Go.Proofs.YtfeggmghkhejcaaGreatDoor
