/-
  Parts of my own, one behind the other: GCt, QCT1, QCT2, QCT3, QCT4, QCT5, QCTa, QCT6, QBa0, QBa1, QBa2, QBa3, QBa4, QBa5, QBs0, QBs1, QBs2, QBs3, QBs4.
-/
import Derived.Test.YtphkpiocblmpeaaGreatDoorMrg4
namespace Go.Proofs.YtphkpiocblmpeaaGreatDoor
open Go.RowKit
set_option linter.unusedVariables false
set_option maxRecDepth 100000
section
variable (N : Nat)
noncomputable def bitp_low (N : Nat) (x0 : Int) (many1 : Int) : Option Int :=
 bif (decide ((0 : Int) ≤ many1)) then
  some ((bits .and .u64 x0 (IntKind.wrap .u64 ((IntKind.wrap .u64 ((1 : Int) * ((2 : Int) ^ (min (Int.toNat many1) (IntKind.bits .u64))))) - 1))))
 else
  none
theorem bitp_low_S (x0 : Int) (many1 : Int) : (runK Tryz.prog (Ev95 N) 400 139 [(.int .u64), (.int .i64)] [(.int .u64)] (x0, many1, ())).run = bitp_low N x0 many1 := by kernel_rfl
noncomputable def Ev96 : (R : Type) → Env R := Env.addFn (Ev95 N) 139 (fun R => fnK [(.int .u64), (.int .i64)] [(.int .u64)] (fun c => bitp_low N c.1 c.2.1))
theorem Ev96_ok (R : Type) : EnvOK Tryz.prog (Ev96 N R) := EnvOK.addFn hmx (Ev95_ok N R) (Ev95_ok N _) (by kernel_rfl) (fun c => bitp_low_S N c.1 c.2.1)
noncomputable def bitp_Split (x0 : Int) (width1 : Int) (x2 : Int) : Option (Int × Int × Int) :=
 Option.bind (bitp_may N width1) fun v4 =>
 Option.bind (bif (!v4) then
   some (true)
  else
   some ((cond false true (decide (x2 < (0 : Int)))))) fun (v5 : Bool) =>
 Option.bind (bif v5 then
   some (true)
  else
   some ((cond false true (decide (width1 < x2))))) fun (v6 : Bool) =>
 bif v6 then
  some (((0 : Int), ((0 : Int), (1 : Int))))
 else
  Option.bind (bitp_low N x0 width1) fun v7 =>
  bif (decide ((0 : Int) ≤ (IntKind.wrap .i64 (width1 - x2)))) then
   Option.bind (bitp_low N v7 (IntKind.wrap .i64 (width1 - x2))) fun v8 =>
   some (((@Int.fdiv v7 ((2 : Int) ^ (min (Int.toNat (IntKind.wrap .i64 (width1 - x2))) (IntKind.bits .u64)))), (v8, (0 : Int))))
  else
   none
theorem bitp_Split_S (x0 : Int) (width1 : Int) (x2 : Int) : (runK Tryz.prog (Ev96 N) 400 127 [(.int .u64), (.int .i64), (.int .i64)] [(.int .u64), (.int .u64), (.int .i64)] (x0, width1, x2, ())).run = bitp_Split N x0 width1 x2 := by kernel_rfl
noncomputable def Ev97 : (R : Type) → Env R := Env.addFn (Ev96 N) 127 (fun R => fnK [(.int .u64), (.int .i64), (.int .i64)] [(.int .u64), (.int .u64), (.int .i64)] (fun c => bitp_Split N c.1 c.2.1 c.2.2.1))
theorem Ev97_ok (R : Type) : EnvOK Tryz.prog (Ev97 N R) := EnvOK.addFn hmx (Ev96_ok N R) (Ev96_ok N _) (by kernel_rfl) (fun c => bitp_Split_S N c.1 c.2.1 c.2.2.1)
noncomputable def des_ofRounds (N : Nat) : Option (List Int) :=
 some ((((([14, 17, 11, 24, 1, 5, 3, 28, 15, 6, 21, 10] : List Int) ++ ([23, 19, 12, 4, 26, 8, 16, 7, 27, 20, 13, 2] : List Int)) ++ ([41, 52, 31, 37, 47, 55, 30, 40, 51, 45, 33, 48] : List Int)) ++ ([44, 49, 39, 56, 34, 53, 46, 42, 50, 36, 29, 32] : List Int)))
theorem des_ofRounds_S : (runK Tryz.prog (Ev97 N) 400 129 [] [(.sl (.int .i64))] ()).run = des_ofRounds N  := by kernel_rfl
noncomputable def Ev98 : (R : Type) → Env R := Env.addFn (Ev97 N) 129 (fun R => fnK [] [(.sl (.int .i64))] (fun c => des_ofRounds N ))
theorem Ev98_ok (R : Type) : EnvOK Tryz.prog (Ev98 N R) := EnvOK.addFn hmx (Ev97_ok N R) (Ev97_ok N _) (by kernel_rfl) (fun c => des_ofRounds_S N )
noncomputable def des_turned_L3_I : LI := ⟨23, 0, [], ⟨[(0, .ty (.int .u64)), (1, .ty (.int .i64)), (5, .ty (.int .i64)), (8, .ty (.arr 4 (.int .i64))), (9, .ty (.int .i64))], []⟩, [(.exit 0, ⟨[(0, .ty (.int .u64)), (5, .ty (.int .i64))], []⟩)]⟩
noncomputable def des_turned_L3 (N : Nat) (X : ((Int × (Int × (Int × ((Arr Int 4) × (Int × Unit))))) × Unit) → Option (((Int × (Int × Unit)) × Unit))) (half0 : Int) (round1 : Int) (x5 : Int) (x8 : Arr Int 4) (x9 : Int) : Option (((Int × (Int × Unit)) × Unit)) :=
 bif (decide (x9 < (4 : Int))) then
  Option.bind (getI x8.l x9) fun (v7 : Int) =>
  bif (decide (v7 = round1)) then
   (X ((half0, (round1, ((1 : Int), (x8, ((IntKind.wrap .i64 (x9 + 1)), ()))))), ()))
  else
   (X ((half0, (round1, (x5, (x8, ((IntKind.wrap .i64 (x9 + 1)), ()))))), ()))
 else
  some (((half0, (x5, ())), ()))
noncomputable def des_turned_L3_R (c : ((Int × (Int × (Int × ((Arr Int 4) × (Int × Unit))))) × Unit)) : Option (((Int × (Int × Unit)) × Unit)) := gl (fun X c => des_turned_L3 N X c.1.1 c.1.2.1 c.1.2.2.1 c.1.2.2.2.1 c.1.2.2.2.2.1) N c
theorem des_turned_L3_S (X : ((Int × (Int × (Int × ((Arr Int 4) × (Int × Unit))))) × Unit) → Option (((Int × (Int × Unit)) × Unit))) (half0 : Int) (round1 : Int) (x5 : Int) (x8 : Arr Int 4) (x9 : Int) : (roundK Tryz.prog (Ev98 N) 400 [130] des_turned_L3_I (loopAt Tryz.prog [130] 3) X ((half0, round1, x5, x8, x9, ()), ())).run = des_turned_L3 N X half0 round1 x5 x8 x9 := by kernel_rfl
noncomputable def Ev99 : (R : Type) → Env R := Env.addLp (Ev98 N) [130] 0 3 (fun R => lpK Tryz.prog des_turned_L3_I (fun X c => des_turned_L3 N X c.1.1 c.1.2.1 c.1.2.2.1 c.1.2.2.2.1 c.1.2.2.2.2.1) N)
theorem Ev99_ok (R : Type) : EnvOK Tryz.prog (Ev99 N R) := EnvOK.addLp (Ev98_ok N R) (by kernel_rfl) (lpK_ok (li := des_turned_L3_I) (G := fun X c => des_turned_L3 N X c.1.1 c.1.2.1 c.1.2.2.1 c.1.2.2.2.1 c.1.2.2.2.2.1) hmx (Ev98_ok N _) (by kernel_rfl) loopAt_sub (fun (X : CT des_turned_L3_I.sh → Option (OT des_turned_L3_I.outs)) (c : CT des_turned_L3_I.sh) => des_turned_L3_S N X c.1.1 c.1.2.1 c.1.2.2.1 c.1.2.2.2.1 c.1.2.2.2.2.1) N)
noncomputable def bitp_Turn (x0 : Int) (width1 : Int) (n2 : Int) : Option (Int × Int) :=
 Option.bind (bitp_may N width1) fun v4 =>
 bif (!v4) then
  some (((0 : Int), (1 : Int)))
 else
  bif (decide (width1 = (0 : Int))) then
   none
  else
   bif (decide ((@Int.tmod n2 width1) < (0 : Int))) then
    Option.bind (bitp_Split N x0 width1 (IntKind.wrap .i64 ((@Int.tmod n2 width1) + width1))) fun v5 =>
    bif (decide ((0 : Int) ≤ (IntKind.wrap .i64 ((@Int.tmod n2 width1) + width1)))) then
     some (((bits .or .u64 (IntKind.wrap .u64 (v5.2.1 * ((2 : Int) ^ (min (Int.toNat (IntKind.wrap .i64 ((@Int.tmod n2 width1) + width1))) (IntKind.bits .u64))))) v5.1), (0 : Int)))
    else
     none
   else
    Option.bind (bitp_Split N x0 width1 (@Int.tmod n2 width1)) fun v5 =>
    bif (decide ((0 : Int) ≤ (@Int.tmod n2 width1))) then
     some (((bits .or .u64 (IntKind.wrap .u64 (v5.2.1 * ((2 : Int) ^ (min (Int.toNat (@Int.tmod n2 width1)) (IntKind.bits .u64))))) v5.1), (0 : Int)))
    else
     none
theorem bitp_Turn_S (x0 : Int) (width1 : Int) (n2 : Int) : (runK Tryz.prog (Ev99 N) 400 140 [(.int .u64), (.int .i64), (.int .i64)] [(.int .u64), (.int .i64)] (x0, width1, n2, ())).run = bitp_Turn N x0 width1 n2 := by kernel_rfl
noncomputable def Ev100 : (R : Type) → Env R := Env.addFn (Ev99 N) 140 (fun R => fnK [(.int .u64), (.int .i64), (.int .i64)] [(.int .u64), (.int .i64)] (fun c => bitp_Turn N c.1 c.2.1 c.2.2.1))
theorem Ev100_ok (R : Type) : EnvOK Tryz.prog (Ev100 N R) := EnvOK.addFn hmx (Ev99_ok N R) (Ev99_ok N _) (by kernel_rfl) (fun c => bitp_Turn_S N c.1 c.2.1 c.2.2.1)
noncomputable def des_turned (half0 : Int) (round1 : Int) : Option Int :=
 Option.bind (des_turned_L3_R N ((half0, (round1, ((2 : Int), ((@Arr.mk Int (4 : Nat) ([1, 2, 9, 16] : List Int) @globVs._proof_8), ((0 : Int), ()))))), ())) fun v3 =>
 Option.bind (bitp_Turn N v3.1.1 (28 : Int) v3.1.2.1) fun v4 =>
 some (v4.1)
theorem des_turned_S (half0 : Int) (round1 : Int) : (runK Tryz.prog (Ev100 N) 400 130 [(.int .u64), (.int .i64)] [(.int .u64)] (half0, round1, ())).run = des_turned N half0 round1 := by kernel_rfl
noncomputable def Ev101 : (R : Type) → Env R := Env.addFn (Ev100 N) 130 (fun R => fnK [(.int .u64), (.int .i64)] [(.int .u64)] (fun c => des_turned N c.1 c.2.1))
theorem Ev101_ok (R : Type) : EnvOK Tryz.prog (Ev101 N R) := EnvOK.addFn hmx (Ev100_ok N R) (Ev100_ok N _) (by kernel_rfl) (fun c => des_turned_S N c.1 c.2.1)
noncomputable def des_Keys_L5_I : LI := ⟨39, 0, [], ⟨[(2, .lit (.box 0 0)), (3, .ty (.int .u64)), (4, .ty (.int .u64)), (6, .ty (.sl (.int .i64))), (7, .lit (.box 1 0)), (18, .ty (.int .i64))], [.box 148 (.arr 16 (.int .u64)), .box 148 (.arr 16 (.int .u64))]⟩, [(.exit 0, ⟨[(2, .lit (.box 0 0)), (7, .lit (.box 1 0))], [.box 148 (.arr 16 (.int .u64)), .box 148 (.arr 16 (.int .u64))]⟩)]⟩
noncomputable def des_Keys_L5 (X : ((Int × (Int × ((List Int) × (Int × Unit)))) × ((Arr Int 16) × ((Arr Int 16) × Unit))) → Option ((Unit × ((Arr Int 16) × ((Arr Int 16) × Unit))))) (left3 : Int) (right4 : Int) (table6 : List (Int)) (x18 : Int) (h0 : Arr Int 16) (h1 : Arr Int 16) : Option ((Unit × ((Arr Int 16) × ((Arr Int 16) × Unit)))) :=
 bif (decide (x18 < (16 : Int))) then
  Option.bind (des_turned N left3 (IntKind.wrap .i64 (x18 + 1))) fun v8 =>
  Option.bind (des_turned N right4 (IntKind.wrap .i64 (x18 + 1))) fun v9 =>
  Option.bind (des_permuted N (bits .or .u64 (IntKind.wrap .u64 (v8 * ((2 : Int) ^ (min (Int.toNat (28 : Int)) (IntKind.bits .u64))))) v9) (56 : Int) table6) fun v10 =>
  bif (decide ((0 : Int) ≤ x18 ∧ x18 < ((16 : Nat) : Int))) then
   Option.bind (h1.l[Int.toNat x18]?) fun (v11 : Int) =>
   (X ((v8, (v9, (table6, ((IntKind.wrap .i64 (x18 + 1)), ())))), (h0, ((h1.set (Int.toNat x18) v10), ()))))
  else
   none
 else
  some (((), (h0, (h1, ()))))
noncomputable def des_Keys_L5_R (c : ((Int × (Int × ((List Int) × (Int × Unit)))) × ((Arr Int 16) × ((Arr Int 16) × Unit)))) : Option ((Unit × ((Arr Int 16) × ((Arr Int 16) × Unit)))) := gl (fun X c => des_Keys_L5 N X c.1.1 c.1.2.1 c.1.2.2.1 c.1.2.2.2.1 c.2.1 c.2.2.1) N c
theorem des_Keys_L5_S (X : ((Int × (Int × ((List Int) × (Int × Unit)))) × ((Arr Int 16) × ((Arr Int 16) × Unit))) → Option ((Unit × ((Arr Int 16) × ((Arr Int 16) × Unit))))) (left3 : Int) (right4 : Int) (table6 : List (Int)) (x18 : Int) (h0 : Arr Int 16) (h1 : Arr Int 16) : (roundK Tryz.prog (Ev101 N) 400 [103] des_Keys_L5_I (loopAt Tryz.prog [103] 5) X ((left3, right4, table6, x18, ()), (h0, h1, ()))).run = des_Keys_L5 N X left3 right4 table6 x18 h0 h1 := by kernel_rfl
noncomputable def Ev102 : (R : Type) → Env R := Env.addLp (Ev101 N) [103] 0 5 (fun R => lpK Tryz.prog des_Keys_L5_I (fun X c => des_Keys_L5 N X c.1.1 c.1.2.1 c.1.2.2.1 c.1.2.2.2.1 c.2.1 c.2.2.1) N)
theorem Ev102_ok (R : Type) : EnvOK Tryz.prog (Ev102 N R) := EnvOK.addLp (Ev101_ok N R) (by kernel_rfl) (lpK_ok (li := des_Keys_L5_I) (G := fun X c => des_Keys_L5 N X c.1.1 c.1.2.1 c.1.2.2.1 c.1.2.2.2.1 c.2.1 c.2.2.1) hmx (Ev101_ok N _) (by kernel_rfl) loopAt_sub (fun (X : CT des_Keys_L5_I.sh → Option (OT des_Keys_L5_I.outs)) (c : CT des_Keys_L5_I.sh) => des_Keys_L5_S N X c.1.1 c.1.2.1 c.1.2.2.1 c.1.2.2.2.1 c.2.1 c.2.2.1) N)
noncomputable def des_Keys (key0 : Int) : Option (Arr Int 16) :=
 Option.bind (@des_ofKeys N) fun (v2 : (List Int)) =>
 Option.bind (des_permuted N key0 (64 : Int) v2) fun v3 =>
 Option.bind (des_Keys_L5_R N (((@Int.fdiv (bits .and .u64 v3 (IntKind.wrap .u64 ((IntKind.wrap .u64 ((1 : Int) * ((2 : Int) ^ (min (Int.toNat (56 : Int)) (IntKind.bits .u64))))) - 1))) ((2 : Int) ^ (min (Int.toNat (IntKind.wrap .i64 ((56 : Int) - 28))) (IntKind.bits .u64)))), ((bits .and .u64 (bits .and .u64 v3 (IntKind.wrap .u64 ((IntKind.wrap .u64 ((1 : Int) * ((2 : Int) ^ (min (Int.toNat (56 : Int)) (IntKind.bits .u64))))) - 1))) (IntKind.wrap .u64 ((IntKind.wrap .u64 ((1 : Int) * ((2 : Int) ^ (min (Int.toNat (IntKind.wrap .i64 ((56 : Int) - 28))) (IntKind.bits .u64))))) - 1))), ((((([14, 17, 11, 24, 1, 5, 3, 28, 15, 6, 21, 10] : List Int) ++ ([23, 19, 12, 4, 26, 8, 16, 7, 27, 20, 13, 2] : List Int)) ++ ([41, 52, 31, 37, 47, 55, 30, 40, 51, 45, 33, 48] : List Int)) ++ ([44, 49, 39, 56, 34, 53, 46, 42, 50, 36, 29, 32] : List Int)), ((0 : Int), ())))), ((@Arr.cons Int 15 0 (@Arr.cons Int 14 0 (@Arr.cons Int 13 0 (@Arr.cons Int 12 0 (@Arr.cons Int 11 0 (@Arr.cons Int 10 0 (@Arr.cons Int 9 0 (@Arr.cons Int 8 0 (@Arr.cons Int 7 0 (@Arr.cons Int 6 0 (@Arr.cons Int 5 0 (@Arr.cons Int 4 0 (@Arr.cons Int 3 0 (@Arr.cons Int 2 0 (@Arr.cons Int 1 0 (@Arr.cons Int 0 0 (@Arr.nil Int))))))))))))))))), ((@Arr.cons Int 15 0 (@Arr.cons Int 14 0 (@Arr.cons Int 13 0 (@Arr.cons Int 12 0 (@Arr.cons Int 11 0 (@Arr.cons Int 10 0 (@Arr.cons Int 9 0 (@Arr.cons Int 8 0 (@Arr.cons Int 7 0 (@Arr.cons Int 6 0 (@Arr.cons Int 5 0 (@Arr.cons Int 4 0 (@Arr.cons Int 3 0 (@Arr.cons Int 2 0 (@Arr.cons Int 1 0 (@Arr.cons Int 0 0 (@Arr.nil Int))))))))))))))))), ())))) fun v4 =>
 some (v4.2.2.1)
theorem des_Keys_S (key0 : Int) : (runK Tryz.prog (Ev102 N) 400 103 [(.int .u64)] [(.arr 16 (.int .u64))] (key0, ())).run = des_Keys N key0 := by kernel_rfl
noncomputable def Ev103 : (R : Type) → Env R := Env.addFn (Ev102 N) 103 (fun R => fnK [(.int .u64)] [(.arr 16 (.int .u64))] (fun c => des_Keys N c.1))
theorem Ev103_ok (R : Type) : EnvOK Tryz.prog (Ev103 N R) := EnvOK.addFn hmx (Ev102_ok N R) (Ev102_ok N _) (by kernel_rfl) (fun c => des_Keys_S N c.1)
noncomputable def Ev104 : (R : Type) → Env R := Env.addBx (Ev103 N) [(102, 0)]
theorem Ev104_ok (R : Type) : EnvOK Tryz.prog (Ev104 N R) := EnvOK.addBx (Ev103_ok N R) [(102, 0)]
noncomputable def Ev105 : (R : Type) → Env R := Env.addMv (Ev104 N) [(121, 8)]
theorem Ev105_ok (R : Type) : EnvOK Tryz.prog (Ev105 N R) := EnvOK.addMv (Ev104_ok N R) [(121, 8)]
noncomputable def des_wide_L6_I : LI := ⟨24, 0, [], ⟨[(1, .lit (.own 0)), (2, .ty (.int .i64)), (4, .ty (.int .i64)), (7, .ty (.int .i64))], [.own (.int .i64) 3]⟩, [(.exit 2, ⟨[(1, .lit (.own 0)), (4, .ty (.int .i64))], [.own (.int .i64) 3]⟩)]⟩
noncomputable def des_wide_L6 (N : Nat) (X : ((Int × (Int × (Int × Unit))) × ((List Int) × Unit)) → Option (((Int × Unit) × ((List Int) × Unit)))) (row2 : Int) (x4 : Int) (x7 : Int) (h0 : List (Int)) : Option (((Int × Unit) × ((List Int) × Unit))) :=
 bif (decide (x7 < (6 : Int))) then
  bif (roomB ((List.length h0) + (List.length ([(IntKind.wrap .i64 ((@Int.tmod (IntKind.wrap .i64 ((IntKind.wrap .i64 ((IntKind.wrap .i64 ((IntKind.wrap .i64 ((4 : Int) * row2)) + x7)) + 32)) - 1)) (32 : Int)) + 1))] : List (Int)))) 8) then
   (X ((row2, (x4, ((IntKind.wrap .i64 (x7 + 1)), ()))), ((h0 ++ ([(IntKind.wrap .i64 ((@Int.tmod (IntKind.wrap .i64 ((IntKind.wrap .i64 ((IntKind.wrap .i64 ((IntKind.wrap .i64 ((4 : Int) * row2)) + x7)) + 32)) - 1)) (32 : Int)) + 1))] : List (Int))), ())))
  else
   none
 else
  some (((x4, ()), (h0, ())))
noncomputable def des_wide_L6_R (c : ((Int × (Int × (Int × Unit))) × ((List Int) × Unit))) : Option (((Int × Unit) × ((List Int) × Unit))) := gl (fun X c => des_wide_L6 N X c.1.1 c.1.2.1 c.1.2.2.1 c.2.1) N c
theorem des_wide_L6_S (X : ((Int × (Int × (Int × Unit))) × ((List Int) × Unit)) → Option (((Int × Unit) × ((List Int) × Unit)))) (row2 : Int) (x4 : Int) (x7 : Int) (h0 : List (Int)) : (roundK Tryz.prog (Ev105 N) 400 [121] des_wide_L6_I (loopAt Tryz.prog [121] 6) X ((row2, x4, x7, ()), (h0, ()))).run = des_wide_L6 N X row2 x4 x7 h0 := by kernel_rfl
noncomputable def Ev106 : (R : Type) → Env R := Env.addLp (Ev105 N) [121] 0 6 (fun R => lpK Tryz.prog des_wide_L6_I (fun X c => des_wide_L6 N X c.1.1 c.1.2.1 c.1.2.2.1 c.2.1) N)
theorem Ev106_ok (R : Type) : EnvOK Tryz.prog (Ev106 N R) := EnvOK.addLp (Ev105_ok N R) (by kernel_rfl) (lpK_ok (li := des_wide_L6_I) (G := fun X c => des_wide_L6 N X c.1.1 c.1.2.1 c.1.2.2.1 c.2.1) hmx (Ev105_ok N _) (by kernel_rfl) loopAt_sub (fun (X : CT des_wide_L6_I.sh → Option (OT des_wide_L6_I.outs)) (c : CT des_wide_L6_I.sh) => des_wide_L6_S N X c.1.1 c.1.2.1 c.1.2.2.1 c.2.1) N)
noncomputable def des_wide_L3_I : LI := ⟨24, 0, [(1, 3)], ⟨[(1, .lit (.own 0)), (4, .ty (.int .i64))], [.own (.int .i64) 3]⟩, [(.exit 0, ⟨[(1, .lit (.own 0))], [.own (.int .i64) 3]⟩)]⟩
noncomputable def des_wide_L3 (X : ((Int × Unit) × ((List Int) × Unit)) → Option ((Unit × ((List Int) × Unit)))) (x4 : Int) (h0 : List (Int)) : Option ((Unit × ((List Int) × Unit))) :=
 bif (decide (x4 < (8 : Int))) then
  Option.bind (des_wide_L6_R N ((x4, (x4, ((0 : Int), ()))), (h0, ()))) fun v4 =>
  (X (((IntKind.wrap .i64 (v4.1.1 + 1)), ()), (v4.2.1, ())))
 else
  some (((), (h0, ())))
noncomputable def des_wide_L3_R (c : ((Int × Unit) × ((List Int) × Unit))) : Option ((Unit × ((List Int) × Unit))) := gl (fun X c => des_wide_L3 N X c.1.1 c.2.1) N c
theorem des_wide_L3_S (X : ((Int × Unit) × ((List Int) × Unit)) → Option ((Unit × ((List Int) × Unit)))) (x4 : Int) (h0 : List (Int)) : (roundK Tryz.prog (Ev106 N) 400 [121] des_wide_L3_I (loopAt Tryz.prog [121] 3) X ((x4, ()), (h0, ()))).run = des_wide_L3 N X x4 h0 := by kernel_rfl
noncomputable def Ev107 : (R : Type) → Env R := Env.addLp (Ev106 N) [121] 0 3 (fun R => lpK Tryz.prog des_wide_L3_I (fun X c => des_wide_L3 N X c.1.1 c.2.1) N)
theorem Ev107_ok (R : Type) : EnvOK Tryz.prog (Ev107 N R) := EnvOK.addLp (Ev106_ok N R) (by kernel_rfl) (lpK_ok (li := des_wide_L3_I) (G := fun X c => des_wide_L3 N X c.1.1 c.2.1) hmx (Ev106_ok N _) (by kernel_rfl) loopAt_sub (fun (X : CT des_wide_L3_I.sh → Option (OT des_wide_L3_I.outs)) (c : CT des_wide_L3_I.sh) => des_wide_L3_S N X c.1.1 c.2.1) N)
noncomputable def des_wide : Option (List Int) :=
 Option.bind (des_wide_L3_R N (((0 : Int), ()), (([] : List Int), ()))) fun v1 =>
 some (v1.2.1)
theorem des_wide_S : (runK Tryz.prog (Ev107 N) 400 121 [] [(.sl (.int .i64))] ()).run = des_wide N  := by kernel_rfl
noncomputable def Ev108 : (R : Type) → Env R := Env.addFn (Ev107 N) 121 (fun R => fnK [] [(.sl (.int .i64))] (fun c => des_wide N ))
theorem Ev108_ok (R : Type) : EnvOK Tryz.prog (Ev108 N R) := EnvOK.addFn hmx (Ev107_ok N R) (Ev107_ok N _) (by kernel_rfl) (fun c => des_wide_S N )
noncomputable def des_mixing (N : Nat) : Option (List Int) :=
 some ((((([16, 7, 20, 21, 29, 12, 28, 17] : List Int) ++ ([1, 15, 23, 26, 5, 18, 31, 10] : List Int)) ++ ([2, 8, 24, 14, 32, 27, 3, 9] : List Int)) ++ ([19, 13, 30, 6, 22, 11, 4, 25] : List Int)))
theorem des_mixing_S : (runK Tryz.prog (Ev108 N) 400 122 [] [(.sl (.int .i64))] ()).run = des_mixing N  := by kernel_rfl
noncomputable def Ev109 : (R : Type) → Env R := Env.addFn (Ev108 N) 122 (fun R => fnK [] [(.sl (.int .i64))] (fun c => des_mixing N ))
theorem Ev109_ok (R : Type) : EnvOK Tryz.prog (Ev109 N R) := EnvOK.addFn hmx (Ev108_ok N R) (Ev108_ok N _) (by kernel_rfl) (fun c => des_mixing_S N )
noncomputable def Ev110 : (R : Type) → Env R := Env.addMv (Ev109 N) [(124, 5)]
theorem Ev110_ok (R : Type) : EnvOK Tryz.prog (Ev110 N R) := EnvOK.addMv (Ev109_ok N R) [(124, 5)]
noncomputable def des_first_5_des_falling_L2_I : LI := ⟨21, 1, [(0, 3)], ⟨[(0, .lit (.own 1)), (1, .ty (.int .i64)), (8, .ty (.int .i64)), (9, .ty (.int .i64))], [.dead, .own (.int .i64) 3]⟩, [(.exit 0, ⟨[(0, .lit (.own 1))], [.dead, .own (.int .i64) 3]⟩)]⟩
noncomputable def des_first_5_des_falling_L2 (N : Nat) (X : ((Int × (Int × (Int × Unit))) × ((List Int) × Unit)) → Option ((Unit × ((List Int) × Unit)))) (x1 : Int) (x8 : Int) (x9 : Int) (h0 : List (Int)) : Option ((Unit × ((List Int) × Unit))) :=
 bif (decide (x9 < x8)) then
  bif (roomB ((List.length h0) + (List.length ([(IntKind.wrap .i64 (x1 - (IntKind.wrap .i64 ((8 : Int) * x9))))] : List (Int)))) 8) then
   (X ((x1, (x8, ((IntKind.wrap .i64 (x9 + 1)), ()))), ((h0 ++ ([(IntKind.wrap .i64 (x1 - (IntKind.wrap .i64 ((8 : Int) * x9))))] : List (Int))), ())))
  else
   none
 else
  some (((), (h0, ())))
noncomputable def des_first_5_des_falling_L2_R (c : ((Int × (Int × (Int × Unit))) × ((List Int) × Unit))) : Option ((Unit × ((List Int) × Unit))) := gl (fun X c => des_first_5_des_falling_L2 N X c.1.1 c.1.2.1 c.1.2.2.1 c.2.1) N c
theorem des_first_5_des_falling_L2_S (X : ((Int × (Int × (Int × Unit))) × ((List Int) × Unit)) → Option ((Unit × ((List Int) × Unit)))) (x1 : Int) (x8 : Int) (x9 : Int) (h0 : List (Int)) : (roundK Tryz.prog (Ev110 N) 400 [136, 5, 124] des_first_5_des_falling_L2_I (loopAt Tryz.prog [136, 5, 124] 2) X ((x1, x8, x9, ()), (h0, ()))).run = des_first_5_des_falling_L2 N X x1 x8 x9 h0 := by kernel_rfl
noncomputable def Ev111 : (R : Type) → Env R := Env.addLp (Ev110 N) [136, 5, 124] 1 2 (fun R => lpK Tryz.prog des_first_5_des_falling_L2_I (fun X c => des_first_5_des_falling_L2 N X c.1.1 c.1.2.1 c.1.2.2.1 c.2.1) N)
theorem Ev111_ok (R : Type) : EnvOK Tryz.prog (Ev111 N R) := EnvOK.addLp (Ev110_ok N R) (by kernel_rfl) (lpK_ok (li := des_first_5_des_falling_L2_I) (G := fun X c => des_first_5_des_falling_L2 N X c.1.1 c.1.2.1 c.1.2.2.1 c.2.1) hmx (Ev110_ok N _) (by kernel_rfl) loopAt_sub (fun (X : CT des_first_5_des_falling_L2_I.sh → Option (OT des_first_5_des_falling_L2_I.outs)) (c : CT des_first_5_des_falling_L2_I.sh) => des_first_5_des_falling_L2_S N X c.1.1 c.1.2.1 c.1.2.2.1 c.2.1) N)
noncomputable def des_first_L3_I : LI := ⟨13, 0, [(1, 3)], ⟨[(1, .lit (.own 0)), (4, .ty (.arr 8 (.int .i64))), (5, .ty (.int .i64))], [.own (.int .i64) 3]⟩, [(.exit 0, ⟨[(1, .lit (.own 0))], [.own (.int .i64) 3]⟩)]⟩
noncomputable def des_first_L3 (X : (((Arr Int 8) × (Int × Unit)) × ((List Int) × Unit)) → Option ((Unit × ((List Int) × Unit)))) (x4 : Arr Int 8) (x5 : Int) (h0 : List (Int)) : Option ((Unit × ((List Int) × Unit))) :=
 bif (decide (x5 < (8 : Int))) then
  Option.bind (getI x4.l x5) fun (v5 : Int) =>
  Option.bind (des_first_5_des_falling_L2_R N ((v5, ((8 : Int), ((0 : Int), ()))), (h0, ()))) fun v6 =>
  (X ((x4, ((IntKind.wrap .i64 (x5 + 1)), ())), (v6.2.1, ())))
 else
  some (((), (h0, ())))
noncomputable def des_first_L3_R (c : (((Arr Int 8) × (Int × Unit)) × ((List Int) × Unit))) : Option ((Unit × ((List Int) × Unit))) := gl (fun X c => des_first_L3 N X c.1.1 c.1.2.1 c.2.1) N c
theorem des_first_L3_S (X : (((Arr Int 8) × (Int × Unit)) × ((List Int) × Unit)) → Option ((Unit × ((List Int) × Unit)))) (x4 : Arr Int 8) (x5 : Int) (h0 : List (Int)) : (roundK Tryz.prog (Ev111 N) 400 [124] des_first_L3_I (loopAt Tryz.prog [124] 3) X ((x4, x5, ()), (h0, ()))).run = des_first_L3 N X x4 x5 h0 := by kernel_rfl
noncomputable def Ev112 : (R : Type) → Env R := Env.addLp (Ev111 N) [124] 0 3 (fun R => lpK Tryz.prog des_first_L3_I (fun X c => des_first_L3 N X c.1.1 c.1.2.1 c.2.1) N)
theorem Ev112_ok (R : Type) : EnvOK Tryz.prog (Ev112 N R) := EnvOK.addLp (Ev111_ok N R) (by kernel_rfl) (lpK_ok (li := des_first_L3_I) (G := fun X c => des_first_L3 N X c.1.1 c.1.2.1 c.2.1) hmx (Ev111_ok N _) (by kernel_rfl) loopAt_sub (fun (X : CT des_first_L3_I.sh → Option (OT des_first_L3_I.outs)) (c : CT des_first_L3_I.sh) => des_first_L3_S N X c.1.1 c.1.2.1 c.2.1) N)
noncomputable def des_first : Option (List Int) :=
 Option.bind (des_first_L3_R N (((@Arr.cons Int 7 58 (@Arr.cons Int 6 60 (@Arr.cons Int 5 62 (@Arr.cons Int 4 64 (@Arr.cons Int 3 57 (@Arr.cons Int 2 59 (@Arr.cons Int 1 61 (@Arr.cons Int 0 63 (@Arr.nil Int))))))))), ((0 : Int), ())), (([] : List Int), ()))) fun v1 =>
 some (v1.2.1)
theorem des_first_S : (runK Tryz.prog (Ev112 N) 400 124 [] [(.sl (.int .i64))] ()).run = des_first N  := by kernel_rfl
noncomputable def Ev113 : (R : Type) → Env R := Env.addFn (Ev112 N) 124 (fun R => fnK [] [(.sl (.int .i64))] (fun c => des_first N ))
theorem Ev113_ok (R : Type) : EnvOK Tryz.prog (Ev113 N R) := EnvOK.addFn hmx (Ev112_ok N R) (Ev112_ok N _) (by kernel_rfl) (fun c => des_first_S N )
noncomputable def des_word_L4_I : LI := ⟨36, 0, [], ⟨[(3, .ty (.sl (.int .i64))), (9, .ty (.int .u64)), (10, .ty (.int .u64)), (11, .ty (.int .i64))], []⟩, [(.exit 0, ⟨[(3, .ty (.sl (.int .i64))), (10, .ty (.int .u64))], []⟩)]⟩
noncomputable def des_word_L4 (X : (((List Int) × (Int × (Int × (Int × Unit)))) × Unit) → Option ((((List Int) × (Int × Unit)) × Unit))) (mix3 : List (Int)) (six9 : Int) (digits10 : Int) (n11 : Int) : Option ((((List Int) × (Int × Unit)) × Unit)) :=
 bif (decide (n11 ≤ (8 : Int))) then
  bif (decide ((0 : Int) ≤ (IntKind.wrap .i64 ((48 : Int) - (IntKind.wrap .i64 ((6 : Int) * n11)))))) then
   Option.bind (des_Box N n11 (@Int.fdiv six9 ((2 : Int) ^ (min (Int.toNat (IntKind.wrap .i64 ((48 : Int) - (IntKind.wrap .i64 ((6 : Int) * n11))))) (IntKind.bits .u64))))) fun v6 =>
   (X ((mix3, (six9, ((bits .or .u64 (IntKind.wrap .u64 (digits10 * ((2 : Int) ^ (min (Int.toNat (4 : Int)) (IntKind.bits .u64))))) v6), ((IntKind.wrap .i64 (n11 + 1)), ())))), ()))
  else
   none
 else
  some (((mix3, (digits10, ())), ()))
noncomputable def des_word_L4_R (c : (((List Int) × (Int × (Int × (Int × Unit)))) × Unit)) : Option ((((List Int) × (Int × Unit)) × Unit)) := gl (fun X c => des_word_L4 N X c.1.1 c.1.2.1 c.1.2.2.1 c.1.2.2.2.1) N c
theorem des_word_L4_S (X : (((List Int) × (Int × (Int × (Int × Unit)))) × Unit) → Option ((((List Int) × (Int × Unit)) × Unit))) (mix3 : List (Int)) (six9 : Int) (digits10 : Int) (n11 : Int) : (roundK Tryz.prog (Ev113 N) 400 [125] des_word_L4_I (loopAt Tryz.prog [125] 4) X ((mix3, six9, digits10, n11, ()), ())).run = des_word_L4 N X mix3 six9 digits10 n11 := by kernel_rfl
noncomputable def Ev114 : (R : Type) → Env R := Env.addLp (Ev113 N) [125] 0 4 (fun R => lpK Tryz.prog des_word_L4_I (fun X c => des_word_L4 N X c.1.1 c.1.2.1 c.1.2.2.1 c.1.2.2.2.1) N)
theorem Ev114_ok (R : Type) : EnvOK Tryz.prog (Ev114 N R) := EnvOK.addLp (Ev113_ok N R) (by kernel_rfl) (lpK_ok (li := des_word_L4_I) (G := fun X c => des_word_L4 N X c.1.1 c.1.2.1 c.1.2.2.1 c.1.2.2.2.1) hmx (Ev113_ok N _) (by kernel_rfl) loopAt_sub (fun (X : CT des_word_L4_I.sh → Option (OT des_word_L4_I.outs)) (c : CT des_word_L4_I.sh) => des_word_L4_S N X c.1.1 c.1.2.1 c.1.2.2.1 c.1.2.2.2.1) N)
noncomputable def des_word (half0 : Int) (key1 : Int) (widen2 : List (Int)) (mix3 : List (Int)) : Option Int :=
 Option.bind (des_permuted N (IntKind.wrap .u64 half0) (32 : Int) widen2) fun v5 =>
 Option.bind (des_word_L4_R N ((mix3, ((bits .xor .u64 v5 key1), ((0 : Int), ((1 : Int), ())))), ())) fun v6 =>
 Option.bind (des_permuted N v6.1.2.1 (32 : Int) v6.1.1) fun v7 =>
 some ((IntKind.wrap .u32 v7))
theorem des_word_S (half0 : Int) (key1 : Int) (widen2 : List (Int)) (mix3 : List (Int)) : (runK Tryz.prog (Ev114 N) 400 125 [(.int .u32), (.int .u64), (.sl (.int .i64)), (.sl (.int .i64))] [(.int .u32)] (half0, key1, widen2, mix3, ())).run = des_word N half0 key1 widen2 mix3 := by kernel_rfl
noncomputable def Ev115 : (R : Type) → Env R := Env.addFn (Ev114 N) 125 (fun R => fnK [(.int .u32), (.int .u64), (.sl (.int .i64)), (.sl (.int .i64))] [(.int .u32)] (fun c => des_word N c.1 c.2.1 c.2.2.1 c.2.2.2.1))
theorem Ev115_ok (R : Type) : EnvOK Tryz.prog (Ev115 N R) := EnvOK.addFn hmx (Ev114_ok N R) (Ev114_ok N _) (by kernel_rfl) (fun c => des_word_S N c.1 c.2.1 c.2.2.1 c.2.2.2.1)
noncomputable def des_through_L5_I : LI := ⟨43, 0, [], ⟨[(5, .ty (.sl (.int .i64))), (6, .ty (.sl (.int .i64))), (8, .ty (.int .u32)), (9, .ty (.int .u32)), (22, .ty (.arr 16 (.int .u64))), (23, .ty (.int .i64))], []⟩, [(.exit 0, ⟨[(8, .ty (.int .u32)), (9, .ty (.int .u32))], []⟩)]⟩
noncomputable def des_through_L5 (X : (((List Int) × ((List Int) × (Int × (Int × ((Arr Int 16) × (Int × Unit)))))) × Unit) → Option (((Int × (Int × Unit)) × Unit))) (widen5 : List (Int)) (mix6 : List (Int)) (left8 : Int) (right9 : Int) (x22 : Arr Int 16) (x23 : Int) : Option (((Int × (Int × Unit)) × Unit)) :=
 bif (decide (x23 < (16 : Int))) then
  Option.bind (getI x22.l x23) fun (v8 : Int) =>
  Option.bind (des_word N right9 v8 widen5 mix6) fun v9 =>
  (X ((widen5, (mix6, (right9, ((bits .xor .u32 left8 v9), (x22, ((IntKind.wrap .i64 (x23 + 1)), ())))))), ()))
 else
  some (((left8, (right9, ())), ()))
noncomputable def des_through_L5_R (c : (((List Int) × ((List Int) × (Int × (Int × ((Arr Int 16) × (Int × Unit)))))) × Unit)) : Option (((Int × (Int × Unit)) × Unit)) := gl (fun X c => des_through_L5 N X c.1.1 c.1.2.1 c.1.2.2.1 c.1.2.2.2.1 c.1.2.2.2.2.1 c.1.2.2.2.2.2.1) N c
theorem des_through_L5_S (X : (((List Int) × ((List Int) × (Int × (Int × ((Arr Int 16) × (Int × Unit)))))) × Unit) → Option (((Int × (Int × Unit)) × Unit))) (widen5 : List (Int)) (mix6 : List (Int)) (left8 : Int) (right9 : Int) (x22 : Arr Int 16) (x23 : Int) : (roundK Tryz.prog (Ev115 N) 400 [102] des_through_L5_I (loopAt Tryz.prog [102] 5) X ((widen5, mix6, left8, right9, x22, x23, ()), ())).run = des_through_L5 N X widen5 mix6 left8 right9 x22 x23 := by kernel_rfl
noncomputable def Ev116 : (R : Type) → Env R := Env.addLp (Ev115 N) [102] 0 5 (fun R => lpK Tryz.prog des_through_L5_I (fun X c => des_through_L5 N X c.1.1 c.1.2.1 c.1.2.2.1 c.1.2.2.2.1 c.1.2.2.2.2.1 c.1.2.2.2.2.2.1) N)
theorem Ev116_ok (R : Type) : EnvOK Tryz.prog (Ev116 N R) := EnvOK.addLp (Ev115_ok N R) (by kernel_rfl) (lpK_ok (li := des_through_L5_I) (G := fun X c => des_through_L5 N X c.1.1 c.1.2.1 c.1.2.2.1 c.1.2.2.2.1 c.1.2.2.2.2.1 c.1.2.2.2.2.2.1) hmx (Ev115_ok N _) (by kernel_rfl) loopAt_sub (fun (X : CT des_through_L5_I.sh → Option (OT des_through_L5_I.outs)) (c : CT des_through_L5_I.sh) => des_through_L5_S N X c.1.1 c.1.2.1 c.1.2.2.1 c.1.2.2.2.1 c.1.2.2.2.2.1 c.1.2.2.2.2.2.1) N)
noncomputable def des_last_L3_I : LI := ⟨20, 0, [], ⟨[(1, .lit (.own 0)), (5, .ty (.sl (.int .i64))), (6, .ty (.int .i64)), (7, .ty (.int .i64))], [.own (.int .i64) 3]⟩, [(.exit 0, ⟨[(1, .lit (.own 0))], [.own (.int .i64) 3]⟩)]⟩
noncomputable def des_last_L3 (N : Nat) (X : (((List Int) × (Int × (Int × Unit))) × ((List Int) × Unit)) → Option ((Unit × ((List Int) × Unit)))) (x5 : List (Int)) (x6 : Int) (x7 : Int) (h0 : List (Int)) : Option ((Unit × ((List Int) × Unit))) :=
 bif (decide (x7 < x6)) then
  Option.bind (getI x5 x7) fun (v6 : Int) =>
  bif (decide ((0 : Int) ≤ (IntKind.wrap .i64 (v6 - 1)) ∧ (IntKind.wrap .i64 (v6 - 1)) < (((List.length h0) : Nat) : Int))) then
   Option.bind (h0[Int.toNat (IntKind.wrap .i64 (v6 - 1))]?) fun (v7 : Int) =>
   (X ((x5, (x6, ((IntKind.wrap .i64 (x7 + 1)), ()))), ((@List.set Int h0 (Int.toNat (IntKind.wrap .i64 (v6 - 1))) (IntKind.wrap .i64 (x7 + 1))), ())))
  else
   none
 else
  some (((), (h0, ())))
noncomputable def des_last_L3_R (c : (((List Int) × (Int × (Int × Unit))) × ((List Int) × Unit))) : Option ((Unit × ((List Int) × Unit))) := gl (fun X c => des_last_L3 N X c.1.1 c.1.2.1 c.1.2.2.1 c.2.1) N c
theorem des_last_L3_S (X : (((List Int) × (Int × (Int × Unit))) × ((List Int) × Unit)) → Option ((Unit × ((List Int) × Unit)))) (x5 : List (Int)) (x6 : Int) (x7 : Int) (h0 : List (Int)) : (roundK Tryz.prog (Ev116 N) 400 [126] des_last_L3_I (loopAt Tryz.prog [126] 3) X ((x5, x6, x7, ()), (h0, ()))).run = des_last_L3 N X x5 x6 x7 h0 := by kernel_rfl
noncomputable def Ev117 : (R : Type) → Env R := Env.addLp (Ev116 N) [126] 0 3 (fun R => lpK Tryz.prog des_last_L3_I (fun X c => des_last_L3 N X c.1.1 c.1.2.1 c.1.2.2.1 c.2.1) N)
theorem Ev117_ok (R : Type) : EnvOK Tryz.prog (Ev117 N R) := EnvOK.addLp (Ev116_ok N R) (by kernel_rfl) (lpK_ok (li := des_last_L3_I) (G := fun X c => des_last_L3 N X c.1.1 c.1.2.1 c.1.2.2.1 c.2.1) hmx (Ev116_ok N _) (by kernel_rfl) loopAt_sub (fun (X : CT des_last_L3_I.sh → Option (OT des_last_L3_I.outs)) (c : CT des_last_L3_I.sh) => des_last_L3_S N X c.1.1 c.1.2.1 c.1.2.2.1 c.2.1) N)
noncomputable def des_last : Option (List Int) :=
 Option.bind (@des_first N) fun (v1 : (List Int)) =>
 Option.bind (des_last_L3_R N ((v1, ((((List.length v1) : Nat) : Int), ((0 : Int), ()))), ((@List.replicate Int (Int.toNat (64 : Int)) (0 : Int)), ()))) fun v2 =>
 some (v2.2.1)
theorem des_last_S : (runK Tryz.prog (Ev117 N) 400 126 [] [(.sl (.int .i64))] ()).run = des_last N  := by kernel_rfl
noncomputable def Ev118 : (R : Type) → Env R := Env.addFn (Ev117 N) 126 (fun R => fnK [] [(.sl (.int .i64))] (fun c => des_last N ))
theorem Ev118_ok (R : Type) : EnvOK Tryz.prog (Ev118 N R) := EnvOK.addFn hmx (Ev117_ok N R) (Ev117_ok N _) (by kernel_rfl) (fun c => des_last_S N )
noncomputable def des_through (keys0 : Arr Int 16) (block1 : Int) : Option Int :=
 Option.bind (@des_wide N) fun (v3 : (List Int)) =>
 Option.bind (@des_first N) fun (v4 : (List Int)) =>
 Option.bind (des_permuted N block1 (64 : Int) v4) fun v5 =>
 Option.bind (des_through_L5_R N ((v3, ((((([16, 7, 20, 21, 29, 12, 28, 17] : List Int) ++ ([1, 15, 23, 26, 5, 18, 31, 10] : List Int)) ++ ([2, 8, 24, 14, 32, 27, 3, 9] : List Int)) ++ ([19, 13, 30, 6, 22, 11, 4, 25] : List Int)), ((IntKind.wrap .u32 (@Int.fdiv v5 ((2 : Int) ^ (min (Int.toNat (32 : Int)) (IntKind.bits .u64))))), ((IntKind.wrap .u32 v5), (keys0, ((0 : Int), ())))))), ())) fun v6 =>
 Option.bind (@des_last N) fun (v7 : (List Int)) =>
 Option.bind (des_permuted N (bits .or .u64 (IntKind.wrap .u64 ((IntKind.wrap .u64 v6.1.2.1) * ((2 : Int) ^ (min (Int.toNat (32 : Int)) (IntKind.bits .u64))))) (IntKind.wrap .u64 v6.1.1)) (64 : Int) v7) fun v8 =>
 some (v8)
theorem des_through_S (keys0 : Arr Int 16) (block1 : Int) : (runK Tryz.prog (Ev118 N) 400 102 [(.arr 16 (.int .u64)), (.int .u64)] [(.int .u64)] (keys0, block1, ())).run = des_through N keys0 block1 := by kernel_rfl
noncomputable def Ev119 : (R : Type) → Env R := Env.addFn (Ev118 N) 102 (fun R => fnK [(.arr 16 (.int .u64)), (.int .u64)] [(.int .u64)] (fun c => des_through N c.1 c.2.1))
theorem Ev119_ok (R : Type) : EnvOK Tryz.prog (Ev119 N R) := EnvOK.addFn hmx (Ev118_ok N R) (Ev118_ok N _) (by kernel_rfl) (fun c => des_through_S N c.1 c.2.1)
noncomputable def des_Turn (key0 : Int) (block1 : Int) : Option Int :=
 Option.bind (des_Keys N key0) fun v3 =>
 Option.bind (des_through N v3 block1) fun v4 =>
 some (v4)
theorem des_Turn_S (key0 : Int) (block1 : Int) : (runK Tryz.prog (Ev119 N) 400 79 [(.int .u64), (.int .u64)] [(.int .u64)] (key0, block1, ())).run = des_Turn N key0 block1 := by kernel_rfl
noncomputable def Ev120 : (R : Type) → Env R := Env.addFn (Ev119 N) 79 (fun R => fnK [(.int .u64), (.int .u64)] [(.int .u64)] (fun c => des_Turn N c.1 c.2.1))
theorem Ev120_ok (R : Type) : EnvOK Tryz.prog (Ev120 N R) := EnvOK.addFn hmx (Ev119_ok N R) (Ev119_ok N _) (by kernel_rfl) (fun c => des_Turn_S N c.1 c.2.1)
noncomputable def bitp_Spread_3_bitp_gathered_5_bitp_each_L4_I : LI := ⟨28, 4, [], ⟨[(1, .ty (.int .i64)), (2, .lit (.clo 118 [.box 2 0, .box 3 0, .box 0 0, .box 1 0])), (7, .ty (.int .u8)), (9, .ty (.sl (.int .u8))), (10, .ty (.int .i64)), (11, .ty (.int .i64)), (15, .ty (.int .i64)), (16, .ty (.int .i64))], [.box 3 (.int .i64), .boxp 25 [.own 4], .box 5 (.int .u8), .box 3 (.int .i64), .own (.int .u8) 5]⟩, [(.exit 2, ⟨[(1, .ty (.int .i64)), (2, .lit (.clo 118 [.box 2 0, .box 3 0, .box 0 0, .box 1 0])), (9, .ty (.sl (.int .u8))), (10, .ty (.int .i64)), (11, .ty (.int .i64))], [.box 3 (.int .i64), .boxp 25 [.own 4], .box 5 (.int .u8), .box 3 (.int .i64), .own (.int .u8) 5]⟩)]⟩
noncomputable def bitp_Spread_3_bitp_gathered_5_bitp_each_L4 (N : Nat) (X : ((Int × (Int × ((List Int) × (Int × (Int × (Int × (Int × Unit))))))) × (Int × (Int × (Int × ((List Int) × Unit))))) → Option (((Int × ((List Int) × (Int × (Int × Unit)))) × (Int × (Int × (Int × ((List Int) × Unit))))))) (many1 : Int) (b7 : Int) (x9 : List (Int)) (x10 : Int) (x11 : Int) (x15 : Int) (x16 : Int) (h0 : Int) (h1 : Int) (h2 : Int) (h3 : List (Int)) : Option (((Int × ((List Int) × (Int × (Int × Unit)))) × (Int × (Int × (Int × ((List Int) × Unit)))))) :=
 bif (decide (x16 < x15)) then
  bif (decide ((0 : Int) ≤ (IntKind.wrap .i64 ((7 : Int) - x16)))) then
   bif (decide ((IntKind.wrap .i64 (h2 + 1)) = h0)) then
    bif (roomB ((List.length h3) + (List.length ([(bits .or .u8 (IntKind.wrap .u8 (h1 * ((2 : Int) ^ (min (Int.toNat (1 : Int)) (IntKind.bits .u8))))) (bits .and .u8 (@Int.fdiv b7 ((2 : Int) ^ (min (Int.toNat (IntKind.wrap .i64 ((7 : Int) - x16))) (IntKind.bits .u8)))) (1 : Int)))] : List (Int)))) 1) then
     (X ((many1, (b7, (x9, (x10, (x11, (x15, ((IntKind.wrap .i64 (x16 + 1)), ()))))))), (h0, ((0 : Int), ((0 : Int), ((h3 ++ ([(bits .or .u8 (IntKind.wrap .u8 (h1 * ((2 : Int) ^ (min (Int.toNat (1 : Int)) (IntKind.bits .u8))))) (bits .and .u8 (@Int.fdiv b7 ((2 : Int) ^ (min (Int.toNat (IntKind.wrap .i64 ((7 : Int) - x16))) (IntKind.bits .u8)))) (1 : Int)))] : List (Int))), ()))))))
    else
     none
   else
    (X ((many1, (b7, (x9, (x10, (x11, (x15, ((IntKind.wrap .i64 (x16 + 1)), ()))))))), (h0, ((bits .or .u8 (IntKind.wrap .u8 (h1 * ((2 : Int) ^ (min (Int.toNat (1 : Int)) (IntKind.bits .u8))))) (bits .and .u8 (@Int.fdiv b7 ((2 : Int) ^ (min (Int.toNat (IntKind.wrap .i64 ((7 : Int) - x16))) (IntKind.bits .u8)))) (1 : Int))), ((IntKind.wrap .i64 (h2 + 1)), (h3, ()))))))
  else
   none
 else
  some (((many1, (x9, (x10, (x11, ())))), (h0, (h1, (h2, (h3, ()))))))
noncomputable def bitp_Spread_3_bitp_gathered_5_bitp_each_L4_R (c : ((Int × (Int × ((List Int) × (Int × (Int × (Int × (Int × Unit))))))) × (Int × (Int × (Int × ((List Int) × Unit)))))) : Option (((Int × ((List Int) × (Int × (Int × Unit)))) × (Int × (Int × (Int × ((List Int) × Unit)))))) := gl (fun X c => bitp_Spread_3_bitp_gathered_5_bitp_each_L4 N X c.1.1 c.1.2.1 c.1.2.2.1 c.1.2.2.2.1 c.1.2.2.2.2.1 c.1.2.2.2.2.2.1 c.1.2.2.2.2.2.2.1 c.2.1 c.2.2.1 c.2.2.2.1 c.2.2.2.2.1) N c
theorem bitp_Spread_3_bitp_gathered_5_bitp_each_L4_S (X : ((Int × (Int × ((List Int) × (Int × (Int × (Int × (Int × Unit))))))) × (Int × (Int × (Int × ((List Int) × Unit))))) → Option (((Int × ((List Int) × (Int × (Int × Unit)))) × (Int × (Int × (Int × ((List Int) × Unit))))))) (many1 : Int) (b7 : Int) (x9 : List (Int)) (x10 : Int) (x11 : Int) (x15 : Int) (x16 : Int) (h0 : Int) (h1 : Int) (h2 : Int) (h3 : List (Int)) : (roundK Tryz.prog (Ev120 N) 400 [119, 5, 100, 3, 77] bitp_Spread_3_bitp_gathered_5_bitp_each_L4_I (loopAt Tryz.prog [119, 5, 100, 3, 77] 4) X ((many1, b7, x9, x10, x11, x15, x16, ()), (h0, h1, h2, h3, ()))).run = bitp_Spread_3_bitp_gathered_5_bitp_each_L4 N X many1 b7 x9 x10 x11 x15 x16 h0 h1 h2 h3 := by kernel_rfl
noncomputable def Ev121 : (R : Type) → Env R := Env.addLp (Ev120 N) [119, 5, 100, 3, 77] 4 4 (fun R => lpK Tryz.prog bitp_Spread_3_bitp_gathered_5_bitp_each_L4_I (fun X c => bitp_Spread_3_bitp_gathered_5_bitp_each_L4 N X c.1.1 c.1.2.1 c.1.2.2.1 c.1.2.2.2.1 c.1.2.2.2.2.1 c.1.2.2.2.2.2.1 c.1.2.2.2.2.2.2.1 c.2.1 c.2.2.1 c.2.2.2.1 c.2.2.2.2.1) N)
theorem Ev121_ok (R : Type) : EnvOK Tryz.prog (Ev121 N R) := EnvOK.addLp (Ev120_ok N R) (by kernel_rfl) (lpK_ok (li := bitp_Spread_3_bitp_gathered_5_bitp_each_L4_I) (G := fun X c => bitp_Spread_3_bitp_gathered_5_bitp_each_L4 N X c.1.1 c.1.2.1 c.1.2.2.1 c.1.2.2.2.1 c.1.2.2.2.2.1 c.1.2.2.2.2.2.1 c.1.2.2.2.2.2.2.1 c.2.1 c.2.2.1 c.2.2.2.1 c.2.2.2.2.1) hmx (Ev120_ok N _) (by kernel_rfl) loopAt_sub (fun (X : CT bitp_Spread_3_bitp_gathered_5_bitp_each_L4_I.sh → Option (OT bitp_Spread_3_bitp_gathered_5_bitp_each_L4_I.outs)) (c : CT bitp_Spread_3_bitp_gathered_5_bitp_each_L4_I.sh) => bitp_Spread_3_bitp_gathered_5_bitp_each_L4_S N X c.1.1 c.1.2.1 c.1.2.2.1 c.1.2.2.2.1 c.1.2.2.2.2.1 c.1.2.2.2.2.2.1 c.1.2.2.2.2.2.2.1 c.2.1 c.2.2.1 c.2.2.2.1 c.2.2.2.2.1) N)
noncomputable def bitp_Spread_3_bitp_gathered_5_bitp_each_L1_I : LI := ⟨28, 4, [], ⟨[(1, .ty (.int .i64)), (2, .lit (.clo 118 [.box 2 0, .box 3 0, .box 0 0, .box 1 0])), (9, .ty (.sl (.int .u8))), (10, .ty (.int .i64)), (11, .ty (.int .i64))], [.box 3 (.int .i64), .boxp 25 [.own 4], .box 5 (.int .u8), .box 3 (.int .i64), .own (.int .u8) 5]⟩, [(.exit 0, ⟨[], [.box 3 (.int .i64), .boxp 25 [.own 4], .box 5 (.int .u8), .box 3 (.int .i64), .own (.int .u8) 5]⟩)]⟩
noncomputable def bitp_Spread_3_bitp_gathered_5_bitp_each_L1 (X : ((Int × ((List Int) × (Int × (Int × Unit)))) × (Int × (Int × (Int × ((List Int) × Unit))))) → Option ((Unit × (Int × (Int × (Int × ((List Int) × Unit))))))) (many1 : Int) (x9 : List (Int)) (x10 : Int) (x11 : Int) (h0 : Int) (h1 : Int) (h2 : Int) (h3 : List (Int)) : Option ((Unit × (Int × (Int × (Int × ((List Int) × Unit)))))) :=
 bif (decide (x11 < x10)) then
  Option.bind (getI x9 x11) fun (v10 : Int) =>
  Option.bind (bitp_Spread_3_bitp_gathered_5_bitp_each_L4_R N ((many1, (v10, (x9, (x10, (x11, (many1, ((0 : Int), ()))))))), (h0, (h1, (h2, (h3, ())))))) fun v11 =>
  (X ((v11.1.1, (v11.1.2.1, (v11.1.2.2.1, ((IntKind.wrap .i64 (v11.1.2.2.2.1 + 1)), ())))), (v11.2.1, ((v11.2).snd.1, ((v11.2).snd.2.1, ((v11.2).snd.2.2.1, ()))))))
 else
  some (((), (h0, (h1, (h2, (h3, ()))))))
noncomputable def bitp_Spread_3_bitp_gathered_5_bitp_each_L1_R (c : ((Int × ((List Int) × (Int × (Int × Unit)))) × (Int × (Int × (Int × ((List Int) × Unit)))))) : Option ((Unit × (Int × (Int × (Int × ((List Int) × Unit)))))) := gl (fun X c => bitp_Spread_3_bitp_gathered_5_bitp_each_L1 N X c.1.1 c.1.2.1 c.1.2.2.1 c.1.2.2.2.1 c.2.1 c.2.2.1 c.2.2.2.1 c.2.2.2.2.1) N c
theorem bitp_Spread_3_bitp_gathered_5_bitp_each_L1_S (X : ((Int × ((List Int) × (Int × (Int × Unit)))) × (Int × (Int × (Int × ((List Int) × Unit))))) → Option ((Unit × (Int × (Int × (Int × ((List Int) × Unit))))))) (many1 : Int) (x9 : List (Int)) (x10 : Int) (x11 : Int) (h0 : Int) (h1 : Int) (h2 : Int) (h3 : List (Int)) : (roundK Tryz.prog (Ev121 N) 400 [119, 5, 100, 3, 77] bitp_Spread_3_bitp_gathered_5_bitp_each_L1_I (loopAt Tryz.prog [119, 5, 100, 3, 77] 1) X ((many1, x9, x10, x11, ()), (h0, h1, h2, h3, ()))).run = bitp_Spread_3_bitp_gathered_5_bitp_each_L1 N X many1 x9 x10 x11 h0 h1 h2 h3 := by kernel_rfl
noncomputable def Ev122 : (R : Type) → Env R := Env.addLp (Ev121 N) [119, 5, 100, 3, 77] 4 1 (fun R => lpK Tryz.prog bitp_Spread_3_bitp_gathered_5_bitp_each_L1_I (fun X c => bitp_Spread_3_bitp_gathered_5_bitp_each_L1 N X c.1.1 c.1.2.1 c.1.2.2.1 c.1.2.2.2.1 c.2.1 c.2.2.1 c.2.2.2.1 c.2.2.2.2.1) N)
theorem Ev122_ok (R : Type) : EnvOK Tryz.prog (Ev122 N R) := EnvOK.addLp (Ev121_ok N R) (by kernel_rfl) (lpK_ok (li := bitp_Spread_3_bitp_gathered_5_bitp_each_L1_I) (G := fun X c => bitp_Spread_3_bitp_gathered_5_bitp_each_L1 N X c.1.1 c.1.2.1 c.1.2.2.1 c.1.2.2.2.1 c.2.1 c.2.2.1 c.2.2.2.1 c.2.2.2.2.1) hmx (Ev121_ok N _) (by kernel_rfl) loopAt_sub (fun (X : CT bitp_Spread_3_bitp_gathered_5_bitp_each_L1_I.sh → Option (OT bitp_Spread_3_bitp_gathered_5_bitp_each_L1_I.outs)) (c : CT bitp_Spread_3_bitp_gathered_5_bitp_each_L1_I.sh) => bitp_Spread_3_bitp_gathered_5_bitp_each_L1_S N X c.1.1 c.1.2.1 c.1.2.2.1 c.1.2.2.2.1 c.2.1 c.2.2.1 c.2.2.2.1 c.2.2.2.2.1) N)
noncomputable def math_bits_OnesCount8 (N : Nat) (x0 : Int) : Option Int :=
 Option.bind (getI (Array.toList (List.toArray (@List.append UInt8 (@List.append UInt8 ([0, 1, 1, 2, 1, 2, 2, 3, 1, 2, 2, 3, 2, 3, 3, 4, 1, 2, 2, 3, 2, 3, 3, 4, 2, 3, 3, 4, 3, 4, 4, 5, 1, 2, 2, 3, 2, 3, 3, 4, 2, 3, 3, 4, 3, 4, 4, 5, 2, 3, 3, 4, 3, 4, 4, 5, 3, 4, 4, 5, 4, 5, 5, 6] : List UInt8) ([1, 2, 2, 3, 2, 3, 3, 4, 2, 3, 3, 4, 3, 4, 4, 5, 2, 3, 3, 4, 3, 4, 4, 5, 3, 4, 4, 5, 4, 5, 5, 6, 2, 3, 3, 4, 3, 4, 4, 5, 3, 4, 4, 5, 4, 5, 5, 6, 3, 4, 4, 5, 4, 5, 5, 6, 4, 5, 5, 6, 5, 6, 6, 7] : List UInt8)) (@List.append UInt8 ([1, 2, 2, 3, 2, 3, 3, 4, 2, 3, 3, 4, 3, 4, 4, 5, 2, 3, 3, 4, 3, 4, 4, 5, 3, 4, 4, 5, 4, 5, 5, 6, 2, 3, 3, 4, 3, 4, 4, 5, 3, 4, 4, 5, 4, 5, 5, 6, 3, 4, 4, 5, 4, 5, 5, 6, 4, 5, 5, 6, 5, 6, 6, 7] : List UInt8) ([2, 3, 3, 4, 3, 4, 4, 5, 3, 4, 4, 5, 4, 5, 5, 6, 3, 4, 4, 5, 4, 5, 5, 6, 4, 5, 5, 6, 5, 6, 6, 7, 3, 4, 4, 5, 4, 5, 5, 6, 4, 5, 5, 6, 5, 6, 6, 7, 4, 5, 5, 6, 5, 6, 6, 7, 5, 6, 6, 7, 6, 7, 7, 8] : List UInt8))))) x0) fun (v2 : UInt8) =>
 some ((IntKind.wrap .i64 (((@UInt8.toNat v2) : Nat) : Int)))
theorem math_bits_OnesCount8_S (x0 : Int) : (runK Tryz.prog (Ev122 N) 400 120 [(.int .u8)] [(.int .i64)] (x0, ())).run = math_bits_OnesCount8 N x0 := by kernel_rfl
noncomputable def Ev123 : (R : Type) → Env R := Env.addFn (Ev122 N) 120 (fun R => fnK [(.int .u8)] [(.int .i64)] (fun c => math_bits_OnesCount8 N c.1))
theorem Ev123_ok (R : Type) : EnvOK Tryz.prog (Ev123 N R) := EnvOK.addFn hmx (Ev122_ok N R) (Ev122_ok N _) (by kernel_rfl) (fun c => math_bits_OnesCount8_S N c.1)
noncomputable def bitp_Odd (b0 : Int) : Option Int :=
 Option.bind (math_bits_OnesCount8 N (bits .andNot .u8 b0 (1 : Int))) fun v2 =>
 bif (decide ((@Int.tmod v2 (2 : Int)) = (0 : Int))) then
  some ((bits .or .u8 (bits .andNot .u8 b0 (1 : Int)) (1 : Int)))
 else
  some ((bits .andNot .u8 b0 (1 : Int)))
theorem bitp_Odd_S (b0 : Int) : (runK Tryz.prog (Ev123 N) 400 101 [(.int .u8)] [(.int .u8)] (b0, ())).run = bitp_Odd N b0 := by kernel_rfl
noncomputable def Ev124 : (R : Type) → Env R := Env.addFn (Ev123 N) 101 (fun R => fnK [(.int .u8)] [(.int .u8)] (fun c => bitp_Odd N c.1))
theorem Ev124_ok (R : Type) : EnvOK Tryz.prog (Ev124 N R) := EnvOK.addFn hmx (Ev123_ok N R) (Ev123_ok N _) (by kernel_rfl) (fun c => bitp_Odd_S N c.1)
noncomputable def bitp_Spread_L5_I : LI := ⟨27, 0, [], ⟨[(4, .lit (.own 0)), (12, .lit (.own 0)), (13, .ty (.int .i64)), (14, .ty (.int .i64))], [.own (.int .u8) 5]⟩, [(.exit 0, ⟨[(4, .lit (.own 0))], [.own (.int .u8) 5]⟩)]⟩
noncomputable def bitp_Spread_L5 (X : ((Int × (Int × Unit)) × ((List Int) × Unit)) → Option ((Unit × ((List Int) × Unit)))) (x13 : Int) (x14 : Int) (h0 : List (Int)) : Option ((Unit × ((List Int) × Unit))) :=
 bif (decide (x14 < x13)) then
  bif (decide ((0 : Int) ≤ x14 ∧ x14 < (((List.length h0) : Nat) : Int))) then
   Option.bind (h0[Int.toNat x14]?) fun (v5 : Int) =>
   Option.bind (bitp_Odd N (IntKind.wrap .u8 (v5 * ((2 : Int) ^ (min (Int.toNat (1 : Int)) (IntKind.bits .u8)))))) fun v6 =>
   bif (decide ((0 : Int) ≤ x14 ∧ x14 < (((List.length h0) : Nat) : Int))) then
    Option.bind (h0[Int.toNat x14]?) fun (v7 : Int) =>
    (X ((x13, ((IntKind.wrap .i64 (x14 + 1)), ())), ((@List.set Int h0 (Int.toNat x14) v6), ())))
   else
    none
  else
   none
 else
  some (((), (h0, ())))
noncomputable def bitp_Spread_L5_R (c : ((Int × (Int × Unit)) × ((List Int) × Unit))) : Option ((Unit × ((List Int) × Unit))) := gl (fun X c => bitp_Spread_L5 N X c.1.1 c.1.2.1 c.2.1) N c
theorem bitp_Spread_L5_S (X : ((Int × (Int × Unit)) × ((List Int) × Unit)) → Option ((Unit × ((List Int) × Unit)))) (x13 : Int) (x14 : Int) (h0 : List (Int)) : (roundK Tryz.prog (Ev124 N) 400 [77] bitp_Spread_L5_I (loopAt Tryz.prog [77] 5) X ((x13, x14, ()), (h0, ()))).run = bitp_Spread_L5 N X x13 x14 h0 := by kernel_rfl
noncomputable def Ev125 : (R : Type) → Env R := Env.addLp (Ev124 N) [77] 0 5 (fun R => lpK Tryz.prog bitp_Spread_L5_I (fun X c => bitp_Spread_L5 N X c.1.1 c.1.2.1 c.2.1) N)
theorem Ev125_ok (R : Type) : EnvOK Tryz.prog (Ev125 N R) := EnvOK.addLp (Ev124_ok N R) (by kernel_rfl) (lpK_ok (li := bitp_Spread_L5_I) (G := fun X c => bitp_Spread_L5 N X c.1.1 c.1.2.1 c.2.1) hmx (Ev124_ok N _) (by kernel_rfl) loopAt_sub (fun (X : CT bitp_Spread_L5_I.sh → Option (OT bitp_Spread_L5_I.outs)) (c : CT bitp_Spread_L5_I.sh) => bitp_Spread_L5_S N X c.1.1 c.1.2.1 c.2.1) N)
noncomputable def bitp_Spread (key0 : List (Int)) : Option ((List Int) × Int) :=
 bif (!(decide ((((List.length key0) : Nat) : Int) = (7 : Int)))) then
  some ((([] : List Int), (1 : Int)))
 else
  Option.bind (bitp_Spread_3_bitp_gathered_5_bitp_each_L1_R N (((8 : Int), (key0, ((((List.length key0) : Nat) : Int), ((0 : Int), ())))), ((7 : Int), ((0 : Int), ((0 : Int), (([] : List Int), ())))))) fun v2 =>
  Option.bind (bitp_Spread_L5_R N (((((List.length (v2.2).snd.2.2.1) : Nat) : Int), ((0 : Int), ())), ((v2.2).snd.2.2.1, ()))) fun v3 =>
  some ((v3.2.1, (0 : Int)))
theorem bitp_Spread_S (key0 : List (Int)) : (runK Tryz.prog (Ev125 N) 400 77 [(.sl (.int .u8))] [(.sl (.int .u8)), (.int .i64)] (key0, ())).run = bitp_Spread N key0 := by kernel_rfl
noncomputable def Ev126 : (R : Type) → Env R := Env.addFn (Ev125 N) 77 (fun R => fnK [(.sl (.int .u8))] [(.sl (.int .u8)), (.int .i64)] (fun c => bitp_Spread N c.1))
theorem Ev126_ok (R : Type) : EnvOK Tryz.prog (Ev126 N R) := EnvOK.addFn hmx (Ev125_ok N R) (Ev125_ok N _) (by kernel_rfl) (fun c => bitp_Spread_S N c.1)
noncomputable def des_Seven (key0 : List (Int)) (block1 : List (Int)) : Option ((List Int) × Int) :=
 Option.bind (bitp_Spread N key0) fun v3 =>
 bif (!(decide (v3.2 = (0 : Int)))) then
  some ((([] : List Int), (1 : Int)))
 else
  Option.bind (some ((cond false true (!(decide ((((List.length block1) : Nat) : Int) = (8 : Int))))))) fun (v4 : Bool) =>
  bif v4 then
   some ((([] : List Int), (1 : Int)))
  else
   Option.bind (octs_Get N v3.1 false) fun v5 =>
   Option.bind (octs_Get N block1 false) fun v6 =>
   Option.bind (des_Turn N v5.1 v6.1) fun v7 =>
   Option.bind (octs_Put N v7 (8 : Int) false) fun v8 =>
   some ((v8.1, v8.2))
theorem des_Seven_S (key0 : List (Int)) (block1 : List (Int)) : (runK Tryz.prog (Ev126 N) 400 54 [(.sl (.int .u8)), (.sl (.int .u8))] [(.sl (.int .u8)), (.int .i64)] (key0, block1, ())).run = des_Seven N key0 block1 := by kernel_rfl
noncomputable def Ev127 : (R : Type) → Env R := Env.addFn (Ev126 N) 54 (fun R => fnK [(.sl (.int .u8)), (.sl (.int .u8))] [(.sl (.int .u8)), (.int .i64)] (fun c => des_Seven N c.1 c.2.1))
theorem Ev127_ok (R : Type) : EnvOK Tryz.prog (Ev127 N R) := EnvOK.addFn hmx (Ev126_ok N R) (Ev126_ok N _) (by kernel_rfl) (fun c => des_Seven_S N c.1 c.2.1)
noncomputable def ref01_Same_L4_I : LI := ⟨26, 0, [], ⟨[(0, .ty (.sl (.int .u8))), (1, .ty (.sl (.int .u8))), (5, .ty (.int .i64))], []⟩, [(.ret, ⟨[(4, .ty .bool)], []⟩), (.exit 0, ⟨[], []⟩)]⟩
noncomputable def ref01_Same_L4 (N : Nat) (X : (((List Int) × ((List Int) × (Int × Unit))) × Unit) → Option ((((Bool × Unit) × Unit) ⊕ (Unit × Unit)))) (a0 : List (Int)) (b1 : List (Int)) (i5 : Int) : Option ((((Bool × Unit) × Unit) ⊕ (Unit × Unit))) :=
 bif (decide (i5 < (((List.length a0) : Nat) : Int))) then
  Option.bind (getI a0 i5) fun (v5 : Int) =>
  Option.bind (getI b1 i5) fun (v6 : Int) =>
  bif (!(decide (v5 = v6))) then
   some ((.inl ((false, ()), ())))
  else
   (X ((a0, (b1, ((IntKind.wrap .i64 (i5 + 1)), ()))), ()))
 else
  some ((.inr ((), ())))
noncomputable def ref01_Same_L4_R (c : (((List Int) × ((List Int) × (Int × Unit))) × Unit)) : Option ((((Bool × Unit) × Unit) ⊕ (Unit × Unit))) := gl (fun X c => ref01_Same_L4 N X c.1.1 c.1.2.1 c.1.2.2.1) N c
theorem ref01_Same_L4_S (X : (((List Int) × ((List Int) × (Int × Unit))) × Unit) → Option ((((Bool × Unit) × Unit) ⊕ (Unit × Unit)))) (a0 : List (Int)) (b1 : List (Int)) (i5 : Int) : (roundK Tryz.prog (Ev127 N) 400 [12] ref01_Same_L4_I (loopAt Tryz.prog [12] 4) X ((a0, b1, i5, ()), ())).run = ref01_Same_L4 N X a0 b1 i5 := by kernel_rfl
noncomputable def Ev128 : (R : Type) → Env R := Env.addLp (Ev127 N) [12] 0 4 (fun R => lpK Tryz.prog ref01_Same_L4_I (fun X c => ref01_Same_L4 N X c.1.1 c.1.2.1 c.1.2.2.1) N)
theorem Ev128_ok (R : Type) : EnvOK Tryz.prog (Ev128 N R) := EnvOK.addLp (Ev127_ok N R) (by kernel_rfl) (lpK_ok (li := ref01_Same_L4_I) (G := fun X c => ref01_Same_L4 N X c.1.1 c.1.2.1 c.1.2.2.1) hmx (Ev127_ok N _) (by kernel_rfl) loopAt_sub (fun (X : CT ref01_Same_L4_I.sh → Option (OT ref01_Same_L4_I.outs)) (c : CT ref01_Same_L4_I.sh) => ref01_Same_L4_S N X c.1.1 c.1.2.1 c.1.2.2.1) N)
noncomputable def ref01_Same (a0 : List (Int)) (b1 : List (Int)) : Option Bool :=
 bif (!(decide ((((List.length a0) : Nat) : Int) = (((List.length b1) : Nat) : Int)))) then
  some (false)
 else
  Option.bind (ref01_Same_L4_R N ((a0, (b1, ((0 : Int), ()))), ())) fun v3 =>
  Sum.elim
   (fun (v4 : ((Bool × Unit) × Unit)) =>
   some (v4.1.1))
   (fun (v4 : (Unit × Unit)) =>
   some (true)) v3
theorem ref01_Same_S (a0 : List (Int)) (b1 : List (Int)) : (runK Tryz.prog (Ev128 N) 400 12 [(.sl (.int .u8)), (.sl (.int .u8))] [.bool] (a0, b1, ())).run = ref01_Same N a0 b1 := by kernel_rfl
noncomputable def Ev129 : (R : Type) → Env R := Env.addFn (Ev128 N) 12 (fun R => fnK [(.sl (.int .u8)), (.sl (.int .u8))] [.bool] (fun c => ref01_Same N c.1 c.2.1))
theorem Ev129_ok (R : Type) : EnvOK Tryz.prog (Ev129 N R) := EnvOK.addFn hmx (Ev128_ok N R) (Ev128_ok N _) (by kernel_rfl) (fun c => ref01_Same_S N c.1 c.2.1)
noncomputable def octs_Same_L3_I : LI := ⟨35, 0, [], ⟨[(0, .ty (.sl (.int .u8))), (1, .ty (.sl (.int .u8))), (5, .ty (.int .i64)), (16, .ty (.int .i64)), (17, .ty (.int .i64))], []⟩, [(.exit 0, ⟨[(5, .ty (.int .i64))], []⟩)]⟩
noncomputable def octs_Same_L3 (N : Nat) (X : (((List Int) × ((List Int) × (Int × (Int × (Int × Unit))))) × Unit) → Option (((Int × Unit) × Unit))) (a0 : List (Int)) (b1 : List (Int)) (differ5 : Int) (x16 : Int) (x17 : Int) : Option (((Int × Unit) × Unit)) :=
 bif (decide (x17 < x16)) then
  Option.bind (getI a0 x17) fun (v7 : Int) =>
  Option.bind (getI b1 x17) fun (v8 : Int) =>
  (X ((a0, (b1, ((bits .or .i64 differ5 (IntKind.wrap .i64 (bits .xor .u8 v7 v8))), (x16, ((IntKind.wrap .i64 (x17 + 1)), ()))))), ()))
 else
  some (((differ5, ()), ()))
noncomputable def octs_Same_L3_R (c : (((List Int) × ((List Int) × (Int × (Int × (Int × Unit))))) × Unit)) : Option (((Int × Unit) × Unit)) := gl (fun X c => octs_Same_L3 N X c.1.1 c.1.2.1 c.1.2.2.1 c.1.2.2.2.1 c.1.2.2.2.2.1) N c
theorem octs_Same_L3_S (X : (((List Int) × ((List Int) × (Int × (Int × (Int × Unit))))) × Unit) → Option (((Int × Unit) × Unit))) (a0 : List (Int)) (b1 : List (Int)) (differ5 : Int) (x16 : Int) (x17 : Int) : (roundK Tryz.prog (Ev129 N) 400 [31] octs_Same_L3_I (loopAt Tryz.prog [31] 3) X ((a0, b1, differ5, x16, x17, ()), ())).run = octs_Same_L3 N X a0 b1 differ5 x16 x17 := by kernel_rfl
noncomputable def Ev130 : (R : Type) → Env R := Env.addLp (Ev129 N) [31] 0 3 (fun R => lpK Tryz.prog octs_Same_L3_I (fun X c => octs_Same_L3 N X c.1.1 c.1.2.1 c.1.2.2.1 c.1.2.2.2.1 c.1.2.2.2.2.1) N)
theorem Ev130_ok (R : Type) : EnvOK Tryz.prog (Ev130 N R) := EnvOK.addLp (Ev129_ok N R) (by kernel_rfl) (lpK_ok (li := octs_Same_L3_I) (G := fun X c => octs_Same_L3 N X c.1.1 c.1.2.1 c.1.2.2.1 c.1.2.2.2.1 c.1.2.2.2.2.1) hmx (Ev129_ok N _) (by kernel_rfl) loopAt_sub (fun (X : CT octs_Same_L3_I.sh → Option (OT octs_Same_L3_I.outs)) (c : CT octs_Same_L3_I.sh) => octs_Same_L3_S N X c.1.1 c.1.2.1 c.1.2.2.1 c.1.2.2.2.1 c.1.2.2.2.2.1) N)
noncomputable def octs_Same (a0 : List (Int)) (b1 : List (Int)) : Option Bool :=
 Option.bind (octs_Same_L3_R N ((a0, (b1, ((bits .xor .i64 (((List.length a0) : Nat) : Int) (((List.length b1) : Nat) : Int)), ((@minI (((List.length a0) : Nat) : Int) (((List.length b1) : Nat) : Int)), ((0 : Int), ()))))), ())) fun v3 =>
 some ((decide (v3.1.1 = (0 : Int))))
theorem octs_Same_S (a0 : List (Int)) (b1 : List (Int)) : (runK Tryz.prog (Ev130 N) 400 31 [(.sl (.int .u8)), (.sl (.int .u8))] [.bool] (a0, b1, ())).run = octs_Same N a0 b1 := by kernel_rfl
noncomputable def Ev131 : (R : Type) → Env R := Env.addFn (Ev130 N) 31 (fun R => fnK [(.sl (.int .u8)), (.sl (.int .u8))] [.bool] (fun c => octs_Same N c.1 c.2.1))
theorem Ev131_ok (R : Type) : EnvOK Tryz.prog (Ev131 N R) := EnvOK.addFn hmx (Ev130_ok N R) (Ev130_ok N _) (by kernel_rfl) (fun c => octs_Same_S N c.1 c.2.1)
noncomputable def Ev132 : (R : Type) → Env R := Env.addMv (Ev131 N) [(23, 5)]
theorem Ev132_ok (R : Type) : EnvOK Tryz.prog (Ev132 N R) := EnvOK.addMv (Ev131_ok N R) [(23, 5)]
noncomputable def octs_Hex_L3_I : LI := ⟨28, 0, [], ⟨[(3, .lit (.own 0)), (10, .ty (.sl (.int .u8))), (11, .ty (.int .i64)), (12, .ty (.int .i64))], [.own (.int .u8) 5]⟩, [(.exit 0, ⟨[(3, .lit (.own 0))], [.own (.int .u8) 5]⟩)]⟩
noncomputable def octs_Hex_L3 (N : Nat) (X : (((List Int) × (Int × (Int × Unit))) × ((List Int) × Unit)) → Option ((Unit × ((List Int) × Unit)))) (x10 : List (Int)) (x11 : Int) (x12 : Int) (h0 : List (Int)) : Option ((Unit × ((List Int) × Unit))) :=
 bif (decide (x12 < x11)) then
  Option.bind (getI x10 x12) fun (v6 : Int) =>
  Option.bind (getI (Array.toList (List.toArray ([48, 49, 50, 51, 52, 53, 54, 55, 56, 57, 65, 66, 67, 68, 69, 70] : List UInt8))) (@Int.fdiv v6 ((2 : Int) ^ (min (Int.toNat (4 : Int)) (IntKind.bits .u8))))) fun (v7 : UInt8) =>
  Option.bind (getI (Array.toList (List.toArray ([48, 49, 50, 51, 52, 53, 54, 55, 56, 57, 65, 66, 67, 68, 69, 70] : List UInt8))) (bits .and .u8 v6 (15 : Int))) fun (v8 : UInt8) =>
  bif (roomB ((List.length h0) + (List.length ([(((@UInt8.toNat v7) : Nat) : Int), (((@UInt8.toNat v8) : Nat) : Int)] : List (Int)))) 1) then
   (X ((x10, (x11, ((IntKind.wrap .i64 (x12 + 1)), ()))), ((h0 ++ ([(((@UInt8.toNat v7) : Nat) : Int), (((@UInt8.toNat v8) : Nat) : Int)] : List (Int))), ())))
  else
   none
 else
  some (((), (h0, ())))
noncomputable def octs_Hex_L3_R (c : (((List Int) × (Int × (Int × Unit))) × ((List Int) × Unit))) : Option ((Unit × ((List Int) × Unit))) := gl (fun X c => octs_Hex_L3 N X c.1.1 c.1.2.1 c.1.2.2.1 c.2.1) N c
theorem octs_Hex_L3_S (X : (((List Int) × (Int × (Int × Unit))) × ((List Int) × Unit)) → Option ((Unit × ((List Int) × Unit)))) (x10 : List (Int)) (x11 : Int) (x12 : Int) (h0 : List (Int)) : (roundK Tryz.prog (Ev132 N) 400 [23] octs_Hex_L3_I (loopAt Tryz.prog [23] 3) X ((x10, x11, x12, ()), (h0, ()))).run = octs_Hex_L3 N X x10 x11 x12 h0 := by kernel_rfl
noncomputable def Ev133 : (R : Type) → Env R := Env.addLp (Ev132 N) [23] 0 3 (fun R => lpK Tryz.prog octs_Hex_L3_I (fun X c => octs_Hex_L3 N X c.1.1 c.1.2.1 c.1.2.2.1 c.2.1) N)
theorem Ev133_ok (R : Type) : EnvOK Tryz.prog (Ev133 N R) := EnvOK.addLp (Ev132_ok N R) (by kernel_rfl) (lpK_ok (li := octs_Hex_L3_I) (G := fun X c => octs_Hex_L3 N X c.1.1 c.1.2.1 c.1.2.2.1 c.2.1) hmx (Ev132_ok N _) (by kernel_rfl) loopAt_sub (fun (X : CT octs_Hex_L3_I.sh → Option (OT octs_Hex_L3_I.outs)) (c : CT octs_Hex_L3_I.sh) => octs_Hex_L3_S N X c.1.1 c.1.2.1 c.1.2.2.1 c.2.1) N)
noncomputable def octs_Hex (b0 : List (Int)) : Option (List UInt8) :=
 bif ((decide ((0 : Int) ≤ (0 : Int) ∧ (0 : Int) ≤ (IntKind.wrap .i64 ((2 : Int) * (((List.length b0) : Nat) : Int))))) && (roomB (Int.toNat (IntKind.wrap .i64 ((2 : Int) * (((List.length b0) : Nat) : Int)))) 1)) then
  Option.bind (octs_Hex_L3_R N ((b0, ((((List.length b0) : Nat) : Int), ((0 : Int), ()))), ((@List.replicate Int (Int.toNat (0 : Int)) (0 : Int)), ()))) fun v2 =>
  Option.bind (@toBy v2.2.1) fun (v3 : (List UInt8)) =>
  some (v3)
 else
  none
theorem octs_Hex_S (b0 : List (Int)) : (runK Tryz.prog (Ev133 N) 400 23 [(.sl (.int .u8))] [.str] (b0, ())).run = octs_Hex N b0 := by kernel_rfl
noncomputable def Ev134 : (R : Type) → Env R := Env.addFn (Ev133 N) 23 (fun R => fnK [(.sl (.int .u8))] [.str] (fun c => octs_Hex N c.1))
theorem Ev134_ok (R : Type) : EnvOK Tryz.prog (Ev134 N R) := EnvOK.addFn hmx (Ev133_ok N R) (Ev133_ok N _) (by kernel_rfl) (fun c => octs_Hex_S N c.1)
noncomputable def ref01_Hex_L4_I : LI := ⟨40, 0, [], ⟨[(0, .ty (.sl (.int .u8))), (3, .ty .str), (4, .ty .str), (5, .ty (.int .i64))], []⟩, [(.exit 0, ⟨[(4, .ty .str)], []⟩)]⟩
noncomputable def ref01_Hex_L4 (N : Nat) (X : (((List Int) × (List UInt8 × (List UInt8 × (Int × Unit)))) × Unit) → Option (((List UInt8 × Unit) × Unit))) (b0 : List (Int)) (all3 : List UInt8) (s4 : List UInt8) (i5 : Int) : Option (((List UInt8 × Unit) × Unit)) :=
 bif (decide (i5 < (((List.length b0) : Nat) : Int))) then
  Option.bind (getI b0 i5) fun (v6 : Int) =>
  Option.bind (getI b0 i5) fun (v7 : Int) =>
  Option.bind (subI all3 (IntKind.wrap .i64 (IntKind.wrap .u8 (@Int.tdiv v6 (16 : Int)))) (IntKind.wrap .i64 ((IntKind.wrap .i64 (IntKind.wrap .u8 (@Int.tdiv v6 (16 : Int)))) + 1))) fun (v8 : (List UInt8)) =>
  Option.bind (subI all3 (IntKind.wrap .i64 (@Int.tmod v7 (16 : Int))) (IntKind.wrap .i64 ((IntKind.wrap .i64 (@Int.tmod v7 (16 : Int))) + 1))) fun (v9 : (List UInt8)) =>
  bif (decide (((List.length v8) + (List.length v9)) ≤ maxLen)) then
   bif (decide (((List.length s4) + (List.length (v8 ++ v9))) ≤ maxLen)) then
    (X ((b0, (all3, ((s4 ++ (v8 ++ v9)), ((IntKind.wrap .i64 (i5 + 1)), ())))), ()))
   else
    none
  else
   none
 else
  some (((s4, ()), ()))
noncomputable def ref01_Hex_L4_R (c : (((List Int) × (List UInt8 × (List UInt8 × (Int × Unit)))) × Unit)) : Option (((List UInt8 × Unit) × Unit)) := gl (fun X c => ref01_Hex_L4 N X c.1.1 c.1.2.1 c.1.2.2.1 c.1.2.2.2.1) N c
theorem ref01_Hex_L4_S (X : (((List Int) × (List UInt8 × (List UInt8 × (Int × Unit)))) × Unit) → Option (((List UInt8 × Unit) × Unit))) (b0 : List (Int)) (all3 : List UInt8) (s4 : List UInt8) (i5 : Int) : (roundK Tryz.prog (Ev134 N) 400 [26] ref01_Hex_L4_I (loopAt Tryz.prog [26] 4) X ((b0, all3, s4, i5, ()), ())).run = ref01_Hex_L4 N X b0 all3 s4 i5 := by kernel_rfl
noncomputable def Ev135 : (R : Type) → Env R := Env.addLp (Ev134 N) [26] 0 4 (fun R => lpK Tryz.prog ref01_Hex_L4_I (fun X c => ref01_Hex_L4 N X c.1.1 c.1.2.1 c.1.2.2.1 c.1.2.2.2.1) N)
theorem Ev135_ok (R : Type) : EnvOK Tryz.prog (Ev135 N R) := EnvOK.addLp (Ev134_ok N R) (by kernel_rfl) (lpK_ok (li := ref01_Hex_L4_I) (G := fun X c => ref01_Hex_L4 N X c.1.1 c.1.2.1 c.1.2.2.1 c.1.2.2.2.1) hmx (Ev134_ok N _) (by kernel_rfl) loopAt_sub (fun (X : CT ref01_Hex_L4_I.sh → Option (OT ref01_Hex_L4_I.outs)) (c : CT ref01_Hex_L4_I.sh) => ref01_Hex_L4_S N X c.1.1 c.1.2.1 c.1.2.2.1 c.1.2.2.2.1) N)
noncomputable def ref01_Hex (b0 : List (Int)) : Option (List UInt8) :=
 Option.bind (ref01_Hex_L4_R N ((b0, ((Array.toList (List.toArray ([48, 49, 50, 51, 52, 53, 54, 55, 56, 57, 65, 66, 67, 68, 69, 70] : List UInt8))), ((Array.toList (List.toArray ([] : List UInt8))), ((0 : Int), ())))), ())) fun v2 =>
 some (v2.1.1)
theorem ref01_Hex_S (b0 : List (Int)) : (runK Tryz.prog (Ev135 N) 400 26 [(.sl (.int .u8))] [.str] (b0, ())).run = ref01_Hex N b0 := by kernel_rfl
noncomputable def Ev136 : (R : Type) → Env R := Env.addFn (Ev135 N) 26 (fun R => fnK [(.sl (.int .u8))] [.str] (fun c => ref01_Hex N c.1))
theorem Ev136_ok (R : Type) : EnvOK Tryz.prog (Ev136 N R) := EnvOK.addFn hmx (Ev135_ok N R) (Ev135_ok N _) (by kernel_rfl) (fun c => ref01_Hex_S N c.1)
noncomputable def utf16_Ascii_L2_I : LI := ⟨19, 0, [], ⟨[(6, .ty (.sl (.int .u8))), (7, .ty (.int .i64)), (8, .ty (.int .i64))], []⟩, [(.ret, ⟨[(2, .ty .bool)], []⟩), (.exit 0, ⟨[], []⟩)]⟩
noncomputable def utf16_Ascii_L2 (N : Nat) (X : (((List Int) × (Int × (Int × Unit))) × Unit) → Option ((((Bool × Unit) × Unit) ⊕ (Unit × Unit)))) (x6 : List (Int)) (x7 : Int) (x8 : Int) : Option ((((Bool × Unit) × Unit) ⊕ (Unit × Unit))) :=
 bif (decide (x8 < x7)) then
  Option.bind (getI x6 x8) fun (v5 : Int) =>
  Option.bind (bif (decide (v5 < (32 : Int))) then
    some (true)
   else
    some ((cond false true (decide ((126 : Int) < v5))))) fun (v6 : Bool) =>
  bif v6 then
   some ((.inl ((false, ()), ())))
  else
   (X ((x6, (x7, ((IntKind.wrap .i64 (x8 + 1)), ()))), ()))
 else
  some ((.inr ((), ())))
noncomputable def utf16_Ascii_L2_R (c : (((List Int) × (Int × (Int × Unit))) × Unit)) : Option ((((Bool × Unit) × Unit) ⊕ (Unit × Unit))) := gl (fun X c => utf16_Ascii_L2 N X c.1.1 c.1.2.1 c.1.2.2.1) N c
theorem utf16_Ascii_L2_S (X : (((List Int) × (Int × (Int × Unit))) × Unit) → Option ((((Bool × Unit) × Unit) ⊕ (Unit × Unit)))) (x6 : List (Int)) (x7 : Int) (x8 : Int) : (roundK Tryz.prog (Ev136 N) 400 [21] utf16_Ascii_L2_I (loopAt Tryz.prog [21] 2) X ((x6, x7, x8, ()), ())).run = utf16_Ascii_L2 N X x6 x7 x8 := by kernel_rfl
noncomputable def Ev137 : (R : Type) → Env R := Env.addLp (Ev136 N) [21] 0 2 (fun R => lpK Tryz.prog utf16_Ascii_L2_I (fun X c => utf16_Ascii_L2 N X c.1.1 c.1.2.1 c.1.2.2.1) N)
theorem Ev137_ok (R : Type) : EnvOK Tryz.prog (Ev137 N R) := EnvOK.addLp (Ev136_ok N R) (by kernel_rfl) (lpK_ok (li := utf16_Ascii_L2_I) (G := fun X c => utf16_Ascii_L2 N X c.1.1 c.1.2.1 c.1.2.2.1) hmx (Ev136_ok N _) (by kernel_rfl) loopAt_sub (fun (X : CT utf16_Ascii_L2_I.sh → Option (OT utf16_Ascii_L2_I.outs)) (c : CT utf16_Ascii_L2_I.sh) => utf16_Ascii_L2_S N X c.1.1 c.1.2.1 c.1.2.2.1) N)
noncomputable def utf16_Ascii (s0 : List UInt8) : Option Bool :=
 bif (roomB (List.length s0) 1) then
  Option.bind (utf16_Ascii_L2_R N (((@ofB s0), ((((List.length (@ofB s0)) : Nat) : Int), ((0 : Int), ()))), ())) fun v2 =>
  Sum.elim
   (fun (v3 : ((Bool × Unit) × Unit)) =>
   some (v3.1.1))
   (fun (v3 : (Unit × Unit)) =>
   some (true)) v2
 else
  none
theorem utf16_Ascii_S (s0 : List UInt8) : (runK Tryz.prog (Ev137 N) 400 21 [.str] [.bool] (s0, ())).run = utf16_Ascii N s0 := by kernel_rfl
noncomputable def Ev138 : (R : Type) → Env R := Env.addFn (Ev137 N) 21 (fun R => fnK [.str] [.bool] (fun c => utf16_Ascii N c.1))
theorem Ev138_ok (R : Type) : EnvOK Tryz.prog (Ev138 N R) := EnvOK.addFn hmx (Ev137_ok N R) (Ev137_ok N _) (by kernel_rfl) (fun c => utf16_Ascii_S N c.1)
noncomputable def ref09_Ascii_L2_I : LI := ⟨20, 0, [], ⟨[(0, .ty .str), (3, .ty (.int .i64))], []⟩, [(.ret, ⟨[(2, .ty .bool)], []⟩), (.exit 0, ⟨[], []⟩)]⟩
noncomputable def ref09_Ascii_L2 (N : Nat) (X : ((List UInt8 × (Int × Unit)) × Unit) → Option ((((Bool × Unit) × Unit) ⊕ (Unit × Unit)))) (s0 : List UInt8) (i3 : Int) : Option ((((Bool × Unit) × Unit) ⊕ (Unit × Unit))) :=
 bif (decide (i3 < (((List.length s0) : Nat) : Int))) then
  Option.bind (getI s0 i3) fun (v4 : UInt8) =>
  Option.bind (bif (decide ((((@UInt8.toNat v4) : Nat) : Int) < (32 : Int))) then
    some (true)
   else
    Option.bind (getI s0 i3) fun (v5 : UInt8) =>
    some ((cond false true (decide ((126 : Int) < (((@UInt8.toNat v5) : Nat) : Int)))))) fun (v5 : Bool) =>
  bif v5 then
   some ((.inl ((false, ()), ())))
  else
   (X ((s0, ((IntKind.wrap .i64 (i3 + 1)), ())), ()))
 else
  some ((.inr ((), ())))
noncomputable def ref09_Ascii_L2_R (c : ((List UInt8 × (Int × Unit)) × Unit)) : Option ((((Bool × Unit) × Unit) ⊕ (Unit × Unit))) := gl (fun X c => ref09_Ascii_L2 N X c.1.1 c.1.2.1) N c
theorem ref09_Ascii_L2_S (X : ((List UInt8 × (Int × Unit)) × Unit) → Option ((((Bool × Unit) × Unit) ⊕ (Unit × Unit)))) (s0 : List UInt8) (i3 : Int) : (roundK Tryz.prog (Ev138 N) 400 [24] ref09_Ascii_L2_I (loopAt Tryz.prog [24] 2) X ((s0, i3, ()), ())).run = ref09_Ascii_L2 N X s0 i3 := by kernel_rfl
noncomputable def Ev139 : (R : Type) → Env R := Env.addLp (Ev138 N) [24] 0 2 (fun R => lpK Tryz.prog ref09_Ascii_L2_I (fun X c => ref09_Ascii_L2 N X c.1.1 c.1.2.1) N)
theorem Ev139_ok (R : Type) : EnvOK Tryz.prog (Ev139 N R) := EnvOK.addLp (Ev138_ok N R) (by kernel_rfl) (lpK_ok (li := ref09_Ascii_L2_I) (G := fun X c => ref09_Ascii_L2 N X c.1.1 c.1.2.1) hmx (Ev138_ok N _) (by kernel_rfl) loopAt_sub (fun (X : CT ref09_Ascii_L2_I.sh → Option (OT ref09_Ascii_L2_I.outs)) (c : CT ref09_Ascii_L2_I.sh) => ref09_Ascii_L2_S N X c.1.1 c.1.2.1) N)
noncomputable def ref09_Ascii (s0 : List UInt8) : Option Bool :=
 Option.bind (ref09_Ascii_L2_R N ((s0, ((0 : Int), ())), ())) fun v2 =>
 Sum.elim
  (fun (v3 : ((Bool × Unit) × Unit)) =>
  some (v3.1.1))
  (fun (v3 : (Unit × Unit)) =>
  some (true)) v2
theorem ref09_Ascii_S (s0 : List UInt8) : (runK Tryz.prog (Ev139 N) 400 24 [.str] [.bool] (s0, ())).run = ref09_Ascii N s0 := by kernel_rfl
noncomputable def Ev140 : (R : Type) → Env R := Env.addFn (Ev139 N) 24 (fun R => fnK [.str] [.bool] (fun c => ref09_Ascii N c.1))
theorem Ev140_ok (R : Type) : EnvOK Tryz.prog (Ev140 N R) := EnvOK.addFn hmx (Ev139_ok N R) (Ev139_ok N _) (by kernel_rfl) (fun c => ref09_Ascii_S N c.1)
noncomputable def Ev141 : (R : Type) → Env R := Env.addInl (Ev140 N) []
theorem Ev141_ok (R : Type) : EnvOK Tryz.prog (Ev141 N R) := EnvOK.addInl (Ev140_ok N R) (by kernel_rfl)
noncomputable def octs_Join_L3_I : LI := ⟨33, 0, [], ⟨[(0, .ty (.sl (.sl (.int .u8)))), (3, .ty (.int .i64)), (9, .ty (.sl (.sl (.int .u8)))), (10, .ty (.int .i64)), (11, .ty (.int .i64))], []⟩, [(.exit 0, ⟨[(0, .ty (.sl (.sl (.int .u8)))), (3, .ty (.int .i64))], []⟩)]⟩
noncomputable def octs_Join_L3 (N : Nat) (X : (((List (List Int)) × (Int × ((List (List Int)) × (Int × (Int × Unit))))) × Unit) → Option ((((List (List Int)) × (Int × Unit)) × Unit))) (parts0 : List (List Int)) (size3 : Int) (x9 : List (List Int)) (x10 : Int) (x11 : Int) : Option ((((List (List Int)) × (Int × Unit)) × Unit)) :=
 bif (decide (x11 < x10)) then
  Option.bind (getI x9 x11) fun (v7 : (List Int)) =>
  (X ((parts0, ((IntKind.wrap .i64 (size3 + (((List.length v7) : Nat) : Int))), (x9, (x10, ((IntKind.wrap .i64 (x11 + 1)), ()))))), ()))
 else
  some (((parts0, (size3, ())), ()))
noncomputable def octs_Join_L3_R (c : (((List (List Int)) × (Int × ((List (List Int)) × (Int × (Int × Unit))))) × Unit)) : Option ((((List (List Int)) × (Int × Unit)) × Unit)) := gl (fun X c => octs_Join_L3 N X c.1.1 c.1.2.1 c.1.2.2.1 c.1.2.2.2.1 c.1.2.2.2.2.1) N c
theorem octs_Join_L3_S (X : (((List (List Int)) × (Int × ((List (List Int)) × (Int × (Int × Unit))))) × Unit) → Option ((((List (List Int)) × (Int × Unit)) × Unit))) (parts0 : List (List Int)) (size3 : Int) (x9 : List (List Int)) (x10 : Int) (x11 : Int) : (roundK Tryz.prog (Ev141 N) 400 [33] octs_Join_L3_I (loopAt Tryz.prog [33] 3) X ((parts0, size3, x9, x10, x11, ()), ())).run = octs_Join_L3 N X parts0 size3 x9 x10 x11 := by kernel_rfl
noncomputable def Ev142 : (R : Type) → Env R := Env.addLp (Ev141 N) [33] 0 3 (fun R => lpK Tryz.prog octs_Join_L3_I (fun X c => octs_Join_L3 N X c.1.1 c.1.2.1 c.1.2.2.1 c.1.2.2.2.1 c.1.2.2.2.2.1) N)
theorem Ev142_ok (R : Type) : EnvOK Tryz.prog (Ev142 N R) := EnvOK.addLp (Ev141_ok N R) (by kernel_rfl) (lpK_ok (li := octs_Join_L3_I) (G := fun X c => octs_Join_L3 N X c.1.1 c.1.2.1 c.1.2.2.1 c.1.2.2.2.1 c.1.2.2.2.2.1) hmx (Ev141_ok N _) (by kernel_rfl) loopAt_sub (fun (X : CT octs_Join_L3_I.sh → Option (OT octs_Join_L3_I.outs)) (c : CT octs_Join_L3_I.sh) => octs_Join_L3_S N X c.1.1 c.1.2.1 c.1.2.2.1 c.1.2.2.2.1 c.1.2.2.2.2.1) N)
noncomputable def octs_Join_L9_I : LI := ⟨33, 0, [], ⟨[(6, .lit (.own 0)), (22, .ty (.sl (.sl (.int .u8)))), (23, .ty (.int .i64)), (24, .ty (.int .i64))], [.own (.int .u8) 5]⟩, [(.exit 2, ⟨[(6, .lit (.own 0))], [.own (.int .u8) 5]⟩)]⟩
noncomputable def octs_Join_L9 (N : Nat) (X : (((List (List Int)) × (Int × (Int × Unit))) × ((List Int) × Unit)) → Option ((Unit × ((List Int) × Unit)))) (x22 : List (List Int)) (x23 : Int) (x24 : Int) (h0 : List (Int)) : Option ((Unit × ((List Int) × Unit))) :=
 bif (decide (x24 < x23)) then
  Option.bind (getI x22 x24) fun (v6 : (List Int)) =>
  bif (roomB ((List.length h0) + (List.length v6)) 1) then
   (X ((x22, (x23, ((IntKind.wrap .i64 (x24 + 1)), ()))), ((h0 ++ v6), ())))
  else
   none
 else
  some (((), (h0, ())))
noncomputable def octs_Join_L9_R (c : (((List (List Int)) × (Int × (Int × Unit))) × ((List Int) × Unit))) : Option ((Unit × ((List Int) × Unit))) := gl (fun X c => octs_Join_L9 N X c.1.1 c.1.2.1 c.1.2.2.1 c.2.1) N c
theorem octs_Join_L9_S (X : (((List (List Int)) × (Int × (Int × Unit))) × ((List Int) × Unit)) → Option ((Unit × ((List Int) × Unit)))) (x22 : List (List Int)) (x23 : Int) (x24 : Int) (h0 : List (Int)) : (roundK Tryz.prog (Ev142 N) 400 [33] octs_Join_L9_I (loopAt Tryz.prog [33] 9) X ((x22, x23, x24, ()), (h0, ()))).run = octs_Join_L9 N X x22 x23 x24 h0 := by kernel_rfl
noncomputable def Ev143 : (R : Type) → Env R := Env.addLp (Ev142 N) [33] 0 9 (fun R => lpK Tryz.prog octs_Join_L9_I (fun X c => octs_Join_L9 N X c.1.1 c.1.2.1 c.1.2.2.1 c.2.1) N)
theorem Ev143_ok (R : Type) : EnvOK Tryz.prog (Ev143 N R) := EnvOK.addLp (Ev142_ok N R) (by kernel_rfl) (lpK_ok (li := octs_Join_L9_I) (G := fun X c => octs_Join_L9 N X c.1.1 c.1.2.1 c.1.2.2.1 c.2.1) hmx (Ev142_ok N _) (by kernel_rfl) loopAt_sub (fun (X : CT octs_Join_L9_I.sh → Option (OT octs_Join_L9_I.outs)) (c : CT octs_Join_L9_I.sh) => octs_Join_L9_S N X c.1.1 c.1.2.1 c.1.2.2.1 c.2.1) N)
noncomputable def octs_Join (parts0 : List (List Int)) : Option (List Int) :=
 Option.bind (octs_Join_L3_R N ((parts0, ((0 : Int), (parts0, ((((List.length parts0) : Nat) : Int), ((0 : Int), ()))))), ())) fun v2 =>
 bif ((decide ((0 : Int) ≤ (0 : Int) ∧ (0 : Int) ≤ v2.1.2.1)) && (roomB (Int.toNat v2.1.2.1) 1)) then
  Option.bind (octs_Join_L9_R N ((v2.1.1, ((((List.length v2.1.1) : Nat) : Int), ((0 : Int), ()))), ((@List.replicate Int (Int.toNat (0 : Int)) (0 : Int)), ()))) fun v3 =>
  some (v3.2.1)
 else
  none
theorem octs_Join_S (parts0 : List (List Int)) : (runK Tryz.prog (Ev143 N) 400 33 [(.sl (.sl (.int .u8)))] [(.sl (.int .u8))] (parts0, ())).run = octs_Join N parts0 := by kernel_rfl
noncomputable def Ev144 : (R : Type) → Env R := Env.addFn (Ev143 N) 33 (fun R => fnK [(.sl (.sl (.int .u8)))] [(.sl (.int .u8))] (fun c => octs_Join N c.1))
theorem Ev144_ok (R : Type) : EnvOK Tryz.prog (Ev144 N R) := EnvOK.addFn hmx (Ev143_ok N R) (Ev143_ok N _) (by kernel_rfl) (fun c => octs_Join_S N c.1)
noncomputable def bytealg_LastIndexByteString_L2_I : LI := ⟨19, 0, [], ⟨[(0, .ty .str), (1, .ty (.int .u8)), (5, .ty (.int .i64))], []⟩, [(.ret, ⟨[(4, .ty (.int .i64))], []⟩), (.exit 0, ⟨[], []⟩)]⟩
noncomputable def bytealg_LastIndexByteString_L2 (N : Nat) (X : ((List UInt8 × (Int × (Int × Unit))) × Unit) → Option ((((Int × Unit) × Unit) ⊕ (Unit × Unit)))) (s0 : List UInt8) (c1 : Int) (i5 : Int) : Option ((((Int × Unit) × Unit) ⊕ (Unit × Unit))) :=
 bif (decide ((0 : Int) ≤ i5)) then
  Option.bind (getI s0 i5) fun (v5 : UInt8) =>
  bif (decide ((((@UInt8.toNat v5) : Nat) : Int) = c1)) then
   some ((.inl ((i5, ()), ())))
  else
   (X ((s0, (c1, ((IntKind.wrap .i64 (i5 - 1)), ()))), ()))
 else
  some ((.inr ((), ())))
noncomputable def bytealg_LastIndexByteString_L2_R (c : ((List UInt8 × (Int × (Int × Unit))) × Unit)) : Option ((((Int × Unit) × Unit) ⊕ (Unit × Unit))) := gl (fun X c => bytealg_LastIndexByteString_L2 N X c.1.1 c.1.2.1 c.1.2.2.1) N c
theorem bytealg_LastIndexByteString_L2_S (X : ((List UInt8 × (Int × (Int × Unit))) × Unit) → Option ((((Int × Unit) × Unit) ⊕ (Unit × Unit)))) (s0 : List UInt8) (c1 : Int) (i5 : Int) : (roundK Tryz.prog (Ev144 N) 400 [104] bytealg_LastIndexByteString_L2_I (loopAt Tryz.prog [104] 2) X ((s0, c1, i5, ()), ())).run = bytealg_LastIndexByteString_L2 N X s0 c1 i5 := by kernel_rfl
noncomputable def Ev145 : (R : Type) → Env R := Env.addLp (Ev144 N) [104] 0 2 (fun R => lpK Tryz.prog bytealg_LastIndexByteString_L2_I (fun X c => bytealg_LastIndexByteString_L2 N X c.1.1 c.1.2.1 c.1.2.2.1) N)
theorem Ev145_ok (R : Type) : EnvOK Tryz.prog (Ev145 N R) := EnvOK.addLp (Ev144_ok N R) (by kernel_rfl) (lpK_ok (li := bytealg_LastIndexByteString_L2_I) (G := fun X c => bytealg_LastIndexByteString_L2 N X c.1.1 c.1.2.1 c.1.2.2.1) hmx (Ev144_ok N _) (by kernel_rfl) loopAt_sub (fun (X : CT bytealg_LastIndexByteString_L2_I.sh → Option (OT bytealg_LastIndexByteString_L2_I.outs)) (c : CT bytealg_LastIndexByteString_L2_I.sh) => bytealg_LastIndexByteString_L2_S N X c.1.1 c.1.2.1 c.1.2.2.1) N)
noncomputable def bytealg_LastIndexByteString (s0 : List UInt8) (c1 : Int) : Option Int :=
 Option.bind (bytealg_LastIndexByteString_L2_R N ((s0, (c1, ((IntKind.wrap .i64 ((((List.length s0) : Nat) : Int) - 1)), ()))), ())) fun v3 =>
 Sum.elim
  (fun (v4 : ((Int × Unit) × Unit)) =>
  some (v4.1.1))
  (fun (v4 : (Unit × Unit)) =>
  some ((-1 : Int))) v3
theorem bytealg_LastIndexByteString_S (s0 : List UInt8) (c1 : Int) : (runK Tryz.prog (Ev145 N) 400 104 [.str, (.int .u8)] [(.int .i64)] (s0, c1, ())).run = bytealg_LastIndexByteString N s0 c1 := by kernel_rfl
noncomputable def Ev146 : (R : Type) → Env R := Env.addFn (Ev145 N) 104 (fun R => fnK [.str, (.int .u8)] [(.int .i64)] (fun c => bytealg_LastIndexByteString N c.1 c.2.1))
theorem Ev146_ok (R : Type) : EnvOK Tryz.prog (Ev146 N R) := EnvOK.addFn hmx (Ev145_ok N R) (Ev145_ok N _) (by kernel_rfl) (fun c => bytealg_LastIndexByteString_S N c.1 c.2.1)
noncomputable def strings_LastIndexByte (s0 : List UInt8) (c1 : Int) : Option Int :=
 Option.bind (bytealg_LastIndexByteString N s0 c1) fun v3 =>
 some (v3)
theorem strings_LastIndexByte_S (s0 : List UInt8) (c1 : Int) : (runK Tryz.prog (Ev146 N) 400 80 [.str, (.int .u8)] [(.int .i64)] (s0, c1, ())).run = strings_LastIndexByte N s0 c1 := by kernel_rfl
noncomputable def Ev147 : (R : Type) → Env R := Env.addFn (Ev146 N) 80 (fun R => fnK [.str, (.int .u8)] [(.int .i64)] (fun c => strings_LastIndexByte N c.1 c.2.1))
theorem Ev147_ok (R : Type) : EnvOK Tryz.prog (Ev147 N R) := EnvOK.addFn hmx (Ev146_ok N R) (Ev146_ok N _) (by kernel_rfl) (fun c => strings_LastIndexByte_S N c.1 c.2.1)
noncomputable def utf16_Bare (name0 : List UInt8) : Option (List UInt8) :=
 Option.bind (strings_LastIndexByte N name0 (92 : Int)) fun v2 =>
 Option.bind (dropI name0 (IntKind.wrap .i64 (v2 + 1))) fun (v3 : (List UInt8)) =>
 some (v3)
theorem utf16_Bare_S (name0 : List UInt8) : (runK Tryz.prog (Ev147 N) 400 55 [.str] [.str] (name0, ())).run = utf16_Bare N name0 := by kernel_rfl
noncomputable def Ev148 : (R : Type) → Env R := Env.addFn (Ev147 N) 55 (fun R => fnK [.str] [.str] (fun c => utf16_Bare N c.1))
theorem Ev148_ok (R : Type) : EnvOK Tryz.prog (Ev148 N R) := EnvOK.addFn hmx (Ev147_ok N R) (Ev147_ok N _) (by kernel_rfl) (fun c => utf16_Bare_S N c.1)
noncomputable def Ev149 : (R : Type) → Env R := Env.addBx (Ev148 N) [(16, 0)]
theorem Ev149_ok (R : Type) : EnvOK Tryz.prog (Ev149 N R) := EnvOK.addBx (Ev148_ok N R) [(16, 0)]
noncomputable def chap2_Value (peer0 : Arr Int 16) (response1 : Arr Int 24) : Option (List Int) :=
 Option.bind (octs_Join N ([peer0.l, (@List.replicate Int (Int.toNat (8 : Int)) (0 : Int)), response1.l, ([0] : List Int)] : List ((List Int)))) fun v3 =>
 some (v3)
theorem chap2_Value_S (peer0 : Arr Int 16) (response1 : Arr Int 24) : (runK Tryz.prog (Ev149 N) 400 16 [(.arr 16 (.int .u8)), (.arr 24 (.int .u8))] [(.sl (.int .u8))] (peer0, response1, ())).run = chap2_Value N peer0 response1 := by kernel_rfl
noncomputable def Ev150 : (R : Type) → Env R := Env.addFn (Ev149 N) 16 (fun R => fnK [(.arr 16 (.int .u8)), (.arr 24 (.int .u8))] [(.sl (.int .u8))] (fun c => chap2_Value N c.1 c.2.1))
theorem Ev150_ok (R : Type) : EnvOK Tryz.prog (Ev150 N R) := EnvOK.addFn hmx (Ev149_ok N R) (Ev149_ok N _) (by kernel_rfl) (fun c => chap2_Value_S N c.1 c.2.1)
noncomputable def chap2_Parse (value0 : List (Int)) : Option ((Arr Int 16) × (Arr Int 24) × Int) :=
 bif (!(decide ((((List.length value0) : Nat) : Int) = (49 : Int)))) then
  some (((@Arr.cons Int 15 0 (@Arr.cons Int 14 0 (@Arr.cons Int 13 0 (@Arr.cons Int 12 0 (@Arr.cons Int 11 0 (@Arr.cons Int 10 0 (@Arr.cons Int 9 0 (@Arr.cons Int 8 0 (@Arr.cons Int 7 0 (@Arr.cons Int 6 0 (@Arr.cons Int 5 0 (@Arr.cons Int 4 0 (@Arr.cons Int 3 0 (@Arr.cons Int 2 0 (@Arr.cons Int 1 0 (@Arr.cons Int 0 0 (@Arr.nil Int))))))))))))))))), ((@Arr.cons Int 23 0 (@Arr.cons Int 22 0 (@Arr.cons Int 21 0 (@Arr.cons Int 20 0 (@Arr.cons Int 19 0 (@Arr.cons Int 18 0 (@Arr.cons Int 17 0 (@Arr.cons Int 16 0 (@Arr.cons Int 15 0 (@Arr.cons Int 14 0 (@Arr.cons Int 13 0 (@Arr.cons Int 12 0 (@Arr.cons Int 11 0 (@Arr.cons Int 10 0 (@Arr.cons Int 9 0 (@Arr.cons Int 8 0 (@Arr.cons Int 7 0 (@Arr.cons Int 6 0 (@Arr.cons Int 5 0 (@Arr.cons Int 4 0 (@Arr.cons Int 3 0 (@Arr.cons Int 2 0 (@Arr.cons Int 1 0 (@Arr.cons Int 0 0 (@Arr.nil Int))))))))))))))))))))))))), (1 : Int))))
 else
  Option.bind (takeI value0 (16 : Int)) fun (v2 : (List Int)) =>
  Option.bind (@toArr Int (16 : Nat) v2) fun (v3 : (Arr Int 16)) =>
  Option.bind (subI value0 (24 : Int) (48 : Int)) fun (v4 : (List Int)) =>
  Option.bind (@toArr Int (24 : Nat) v4) fun (v5 : (Arr Int 24)) =>
  Option.bind (chap2_Value N v3 v5) fun v6 =>
  Option.bind (octs_Same N v6 value0) fun v7 =>
  bif (!v7) then
   some (((@Arr.cons Int 15 0 (@Arr.cons Int 14 0 (@Arr.cons Int 13 0 (@Arr.cons Int 12 0 (@Arr.cons Int 11 0 (@Arr.cons Int 10 0 (@Arr.cons Int 9 0 (@Arr.cons Int 8 0 (@Arr.cons Int 7 0 (@Arr.cons Int 6 0 (@Arr.cons Int 5 0 (@Arr.cons Int 4 0 (@Arr.cons Int 3 0 (@Arr.cons Int 2 0 (@Arr.cons Int 1 0 (@Arr.cons Int 0 0 (@Arr.nil Int))))))))))))))))), ((@Arr.cons Int 23 0 (@Arr.cons Int 22 0 (@Arr.cons Int 21 0 (@Arr.cons Int 20 0 (@Arr.cons Int 19 0 (@Arr.cons Int 18 0 (@Arr.cons Int 17 0 (@Arr.cons Int 16 0 (@Arr.cons Int 15 0 (@Arr.cons Int 14 0 (@Arr.cons Int 13 0 (@Arr.cons Int 12 0 (@Arr.cons Int 11 0 (@Arr.cons Int 10 0 (@Arr.cons Int 9 0 (@Arr.cons Int 8 0 (@Arr.cons Int 7 0 (@Arr.cons Int 6 0 (@Arr.cons Int 5 0 (@Arr.cons Int 4 0 (@Arr.cons Int 3 0 (@Arr.cons Int 2 0 (@Arr.cons Int 1 0 (@Arr.cons Int 0 0 (@Arr.nil Int))))))))))))))))))))))))), (3 : Int))))
  else
   some ((v3, (v5, (0 : Int))))
theorem chap2_Parse_S (value0 : List (Int)) : (runK Tryz.prog (Ev150 N) 400 15 [(.sl (.int .u8))] [(.arr 16 (.int .u8)), (.arr 24 (.int .u8)), (.int .i64)] (value0, ())).run = chap2_Parse N value0 := by kernel_rfl
noncomputable def Ev151 : (R : Type) → Env R := Env.addFn (Ev150 N) 15 (fun R => fnK [(.sl (.int .u8))] [(.arr 16 (.int .u8)), (.arr 24 (.int .u8)), (.int .i64)] (fun c => chap2_Parse N c.1))
theorem Ev151_ok (R : Type) : EnvOK Tryz.prog (Ev151 N R) := EnvOK.addFn hmx (Ev150_ok N R) (Ev150_ok N _) (by kernel_rfl) (fun c => chap2_Parse_S N c.1)
noncomputable def Ev152 : (R : Type) → Env R := Env.addBx (Ev151 N) [(38, 0)]
theorem Ev152_ok (R : Type) : EnvOK Tryz.prog (Ev152 N R) := EnvOK.addBx (Ev151_ok N R) [(38, 0)]
noncomputable def chap2_Challenge (peer0 : Arr Int 16) (auth1 : Arr Int 16) (name2 : List UInt8) : Option (Arr Int 8) :=
 Option.bind (utf16_Bare N name2) fun v4 =>
 bif (roomB (List.length v4) 1) then
  Option.bind (sha1_Of N ([peer0.l, auth1.l, (@ofB v4)] : List ((List Int)))) fun v5 =>
  Option.bind (takeI v5.l (8 : Int)) fun (v6 : (List Int)) =>
  Option.bind (@toArr Int (8 : Nat) v6) fun (v7 : (Arr Int 8)) =>
  some (v7)
 else
  none
theorem chap2_Challenge_S (peer0 : Arr Int 16) (auth1 : Arr Int 16) (name2 : List UInt8) : (runK Tryz.prog (Ev152 N) 400 38 [(.arr 16 (.int .u8)), (.arr 16 (.int .u8)), .str] [(.arr 8 (.int .u8))] (peer0, auth1, name2, ())).run = chap2_Challenge N peer0 auth1 name2 := by kernel_rfl
noncomputable def Ev153 : (R : Type) → Env R := Env.addFn (Ev152 N) 38 (fun R => fnK [(.arr 16 (.int .u8)), (.arr 16 (.int .u8)), .str] [(.arr 8 (.int .u8))] (fun c => chap2_Challenge N c.1 c.2.1 c.2.2.1))
theorem Ev153_ok (R : Type) : EnvOK Tryz.prog (Ev153 N R) := EnvOK.addFn hmx (Ev152_ok N R) (Ev152_ok N _) (by kernel_rfl) (fun c => chap2_Challenge_S N c.1 c.2.1 c.2.2.1)
noncomputable def Ev154 : (R : Type) → Env R := Env.addBx (Ev153 N) [(37, 0)]
theorem Ev154_ok (R : Type) : EnvOK Tryz.prog (Ev154 N R) := EnvOK.addBx (Ev153_ok N R) [(37, 0)]
noncomputable def chap2_Response_L3_I : LI := ⟨28, 0, [(5, 5)], ⟨[(2, .adr (.arr 8 (.int .u8))), (4, .lit (.box 0 0)), (5, .lit (.own 1)), (11, .ty (.arr 3 (.arr 7 (.int .u8)))), (12, .ty (.int .i64))], [.box 44 (.arr 24 (.int .u8)), .own (.int .u8) 5]⟩, [(.exit 0, ⟨[(4, .lit (.box 0 0)), (5, .lit (.own 1))], [.box 44 (.arr 24 (.int .u8)), .own (.int .u8) 5]⟩)]⟩
noncomputable def chap2_Response_L3 (X : (((Arr Int 8) × ((Arr (Arr Int 7) 3) × (Int × Unit))) × ((Arr Int 24) × ((List Int) × Unit))) → Option ((Unit × ((Arr Int 24) × ((List Int) × Unit))))) (c2 : Arr Int 8) (x11 : Arr (Arr Int 7) 3) (x12 : Int) (h0 : Arr Int 24) (h1 : List (Int)) : Option ((Unit × ((Arr Int 24) × ((List Int) × Unit)))) :=
 bif (decide (x12 < (3 : Int))) then
  Option.bind (getI x11.l x12) fun (v7 : (Arr Int 7)) =>
  Option.bind (des_Seven N v7.l c2.l) fun v8 =>
  bif (roomB ((List.length h1) + (List.length v8.1)) 1) then
   (X ((c2, (x11, ((IntKind.wrap .i64 (x12 + 1)), ()))), (h0, ((h1 ++ v8.1), ()))))
  else
   none
 else
  some (((), (h0, (h1, ()))))
noncomputable def chap2_Response_L3_R (c : (((Arr Int 8) × ((Arr (Arr Int 7) 3) × (Int × Unit))) × ((Arr Int 24) × ((List Int) × Unit)))) : Option ((Unit × ((Arr Int 24) × ((List Int) × Unit)))) := gl (fun X c => chap2_Response_L3 N X c.1.1 c.1.2.1 c.1.2.2.1 c.2.1 c.2.2.1) N c
theorem chap2_Response_L3_S (X : (((Arr Int 8) × ((Arr (Arr Int 7) 3) × (Int × Unit))) × ((Arr Int 24) × ((List Int) × Unit))) → Option ((Unit × ((Arr Int 24) × ((List Int) × Unit))))) (c2 : Arr Int 8) (x11 : Arr (Arr Int 7) 3) (x12 : Int) (h0 : Arr Int 24) (h1 : List (Int)) : (roundK Tryz.prog (Ev154 N) 400 [37] chap2_Response_L3_I (loopAt Tryz.prog [37] 3) X ((c2, x11, x12, ()), (h0, h1, ()))).run = chap2_Response_L3 N X c2 x11 x12 h0 h1 := by kernel_rfl
noncomputable def Ev155 : (R : Type) → Env R := Env.addLp (Ev154 N) [37] 0 3 (fun R => lpK Tryz.prog chap2_Response_L3_I (fun X c => chap2_Response_L3 N X c.1.1 c.1.2.1 c.1.2.2.1 c.2.1 c.2.2.1) N)
theorem Ev155_ok (R : Type) : EnvOK Tryz.prog (Ev155 N R) := EnvOK.addLp (Ev154_ok N R) (by kernel_rfl) (lpK_ok (li := chap2_Response_L3_I) (G := fun X c => chap2_Response_L3 N X c.1.1 c.1.2.1 c.1.2.2.1 c.2.1 c.2.2.1) hmx (Ev154_ok N _) (by kernel_rfl) loopAt_sub (fun (X : CT chap2_Response_L3_I.sh → Option (OT chap2_Response_L3_I.outs)) (c : CT chap2_Response_L3_I.sh) => chap2_Response_L3_S N X c.1.1 c.1.2.1 c.1.2.2.1 c.2.1 c.2.2.1) N)
noncomputable def chap2_Response (c0 : Arr Int 8) (h1 : Arr Int 16) : Option (Arr Int 24) :=
 Option.bind (nthash_Thirds N h1) fun v3 =>
 Option.bind (chap2_Response_L3_R N ((c0, (v3, ((0 : Int), ()))), ((@Arr.cons Int 23 0 (@Arr.cons Int 22 0 (@Arr.cons Int 21 0 (@Arr.cons Int 20 0 (@Arr.cons Int 19 0 (@Arr.cons Int 18 0 (@Arr.cons Int 17 0 (@Arr.cons Int 16 0 (@Arr.cons Int 15 0 (@Arr.cons Int 14 0 (@Arr.cons Int 13 0 (@Arr.cons Int 12 0 (@Arr.cons Int 11 0 (@Arr.cons Int 10 0 (@Arr.cons Int 9 0 (@Arr.cons Int 8 0 (@Arr.cons Int 7 0 (@Arr.cons Int 6 0 (@Arr.cons Int 5 0 (@Arr.cons Int 4 0 (@Arr.cons Int 3 0 (@Arr.cons Int 2 0 (@Arr.cons Int 1 0 (@Arr.cons Int 0 0 (@Arr.nil Int))))))))))))))))))))))))), (([] : List Int), ())))) fun v4 =>
 Option.bind (@toArr Int (24 : Nat) v4.2.2.1) fun (v5 : (Arr Int 24)) =>
 some (v5)
theorem chap2_Response_S (c0 : Arr Int 8) (h1 : Arr Int 16) : (runK Tryz.prog (Ev155 N) 400 37 [(.arr 8 (.int .u8)), (.arr 16 (.int .u8))] [(.arr 24 (.int .u8))] (c0, h1, ())).run = chap2_Response N c0 h1 := by kernel_rfl
noncomputable def Ev156 : (R : Type) → Env R := Env.addFn (Ev155 N) 37 (fun R => fnK [(.arr 8 (.int .u8)), (.arr 16 (.int .u8))] [(.arr 24 (.int .u8))] (fun c => chap2_Response N c.1 c.2.1))
theorem Ev156_ok (R : Type) : EnvOK Tryz.prog (Ev156 N R) := EnvOK.addFn hmx (Ev155_ok N R) (Ev155_ok N _) (by kernel_rfl) (fun c => chap2_Response_S N c.1 c.2.1)
noncomputable def Ev157 : (R : Type) → Env R := Env.addBx (Ev156 N) [(18, 0)]
theorem Ev157_ok (R : Type) : EnvOK Tryz.prog (Ev157 N R) := EnvOK.addBx (Ev156_ok N R) [(18, 0)]
noncomputable def chap2_Prove (peer0 : Arr Int 16) (auth1 : Arr Int 16) (name2 : List UInt8) (password3 : List UInt8) : Option ((Arr Int 24) × Int) :=
 Option.bind (nthash_Of N password3) fun v5 =>
 bif (!(decide (v5.2 = (0 : Int)))) then
  some (((@Arr.cons Int 23 0 (@Arr.cons Int 22 0 (@Arr.cons Int 21 0 (@Arr.cons Int 20 0 (@Arr.cons Int 19 0 (@Arr.cons Int 18 0 (@Arr.cons Int 17 0 (@Arr.cons Int 16 0 (@Arr.cons Int 15 0 (@Arr.cons Int 14 0 (@Arr.cons Int 13 0 (@Arr.cons Int 12 0 (@Arr.cons Int 11 0 (@Arr.cons Int 10 0 (@Arr.cons Int 9 0 (@Arr.cons Int 8 0 (@Arr.cons Int 7 0 (@Arr.cons Int 6 0 (@Arr.cons Int 5 0 (@Arr.cons Int 4 0 (@Arr.cons Int 3 0 (@Arr.cons Int 2 0 (@Arr.cons Int 1 0 (@Arr.cons Int 0 0 (@Arr.nil Int))))))))))))))))))))))))), v5.2))
 else
  Option.bind (chap2_Challenge N peer0 auth1 name2) fun v6 =>
  Option.bind (chap2_Response N v6 v5.1) fun v7 =>
  some ((v7, (0 : Int)))
theorem chap2_Prove_S (peer0 : Arr Int 16) (auth1 : Arr Int 16) (name2 : List UInt8) (password3 : List UInt8) : (runK Tryz.prog (Ev157 N) 400 18 [(.arr 16 (.int .u8)), (.arr 16 (.int .u8)), .str, .str] [(.arr 24 (.int .u8)), (.int .i64)] (peer0, auth1, name2, password3, ())).run = chap2_Prove N peer0 auth1 name2 password3 := by kernel_rfl
noncomputable def Ev158 : (R : Type) → Env R := Env.addFn (Ev157 N) 18 (fun R => fnK [(.arr 16 (.int .u8)), (.arr 16 (.int .u8)), .str, .str] [(.arr 24 (.int .u8)), (.int .i64)] (fun c => chap2_Prove N c.1 c.2.1 c.2.2.1 c.2.2.2.1))
theorem Ev158_ok (R : Type) : EnvOK Tryz.prog (Ev158 N R) := EnvOK.addFn hmx (Ev157_ok N R) (Ev157_ok N _) (by kernel_rfl) (fun c => chap2_Prove_S N c.1 c.2.1 c.2.2.1 c.2.2.2.1)
noncomputable def Ev159 : (R : Type) → Env R := Env.addBx (Ev158 N) [(17, 0)]
theorem Ev159_ok (R : Type) : EnvOK Tryz.prog (Ev159 N R) := EnvOK.addBx (Ev158_ok N R) [(17, 0)]
noncomputable def chap2_Answer (h0 : Arr Int 16) (response1 : Arr Int 24) (c2 : Arr Int 8) : Option (List UInt8) :=
 Option.bind (nthash_Twice N h0) fun v4 =>
 Option.bind (sha1_Of N ([v4.l, response1.l, ([77, 97, 103, 105, 99, 32, 115, 101, 114, 118, 101, 114, 32, 116, 111, 32, 99, 108, 105, 101, 110, 116, 32, 115, 105, 103, 110, 105, 110, 103, 32, 99, 111, 110, 115, 116, 97, 110, 116] : List Int)] : List ((List Int)))) fun v5 =>
 Option.bind (sha1_Of N ([v5.l, c2.l, ([80, 97, 100, 32, 116, 111, 32, 109, 97, 107, 101, 32, 105, 116, 32, 100, 111, 32, 109, 111, 114, 101, 32, 116, 104, 97, 110, 32, 111, 110, 101, 32, 105, 116, 101, 114, 97, 116, 105, 111, 110] : List Int)] : List ((List Int)))) fun v6 =>
 Option.bind (octs_Hex N v6.l) fun v7 =>
 bif (decide (((List.length (Array.toList (List.toArray ([83, 61] : List UInt8)))) + (List.length v7)) ≤ maxLen)) then
  some (((Array.toList (List.toArray ([83, 61] : List UInt8))) ++ v7))
 else
  none
theorem chap2_Answer_S (h0 : Arr Int 16) (response1 : Arr Int 24) (c2 : Arr Int 8) : (runK Tryz.prog (Ev159 N) 400 17 [(.arr 16 (.int .u8)), (.arr 24 (.int .u8)), (.arr 8 (.int .u8))] [.str] (h0, response1, c2, ())).run = chap2_Answer N h0 response1 c2 := by kernel_rfl
noncomputable def Ev160 : (R : Type) → Env R := Env.addFn (Ev159 N) 17 (fun R => fnK [(.arr 16 (.int .u8)), (.arr 24 (.int .u8)), (.arr 8 (.int .u8))] [.str] (fun c => chap2_Answer N c.1 c.2.1 c.2.2.1))
theorem Ev160_ok (R : Type) : EnvOK Tryz.prog (Ev160 N R) := EnvOK.addFn hmx (Ev159_ok N R) (Ev159_ok N _) (by kernel_rfl) (fun c => chap2_Answer_S N c.1 c.2.1 c.2.2.1)
noncomputable def chap2_Success (N : Nat) (answer0 : List UInt8) (text1 : List UInt8) : Option (List Int) :=
 bif (decide (((List.length answer0) + (List.length (Array.toList (List.toArray ([32, 77, 61] : List UInt8))))) ≤ maxLen)) then
  bif (decide (((List.length (answer0 ++ (Array.toList (List.toArray ([32, 77, 61] : List UInt8))))) + (List.length text1)) ≤ maxLen)) then
   bif (roomB (List.length ((answer0 ++ (Array.toList (List.toArray ([32, 77, 61] : List UInt8)))) ++ text1)) 1) then
    some ((@ofB ((answer0 ++ (Array.toList (List.toArray ([32, 77, 61] : List UInt8)))) ++ text1)))
   else
    none
  else
   none
 else
  none
theorem chap2_Success_S (answer0 : List UInt8) (text1 : List UInt8) : (runK Tryz.prog (Ev160 N) 400 13 [.str, .str] [(.sl (.int .u8))] (answer0, text1, ())).run = chap2_Success N answer0 text1 := by kernel_rfl
noncomputable def Ev161 : (R : Type) → Env R := Env.addFn (Ev160 N) 13 (fun R => fnK [.str, .str] [(.sl (.int .u8))] (fun c => chap2_Success N c.1 c.2.1))
theorem Ev161_ok (R : Type) : EnvOK Tryz.prog (Ev161 N R) := EnvOK.addFn hmx (Ev160_ok N R) (Ev160_ok N _) (by kernel_rfl) (fun c => chap2_Success_S N c.1 c.2.1)
noncomputable def ref11_Success (N : Nat) (answer0 : List UInt8) (text1 : List UInt8) : Option (List Int) :=
 bif (decide (((List.length answer0) + (List.length (Array.toList (List.toArray ([32, 77, 61] : List UInt8))))) ≤ maxLen)) then
  bif (decide (((List.length (answer0 ++ (Array.toList (List.toArray ([32, 77, 61] : List UInt8))))) + (List.length text1)) ≤ maxLen)) then
   bif (roomB (List.length ((answer0 ++ (Array.toList (List.toArray ([32, 77, 61] : List UInt8)))) ++ text1)) 1) then
    some ((@ofB ((answer0 ++ (Array.toList (List.toArray ([32, 77, 61] : List UInt8)))) ++ text1)))
   else
    none
  else
   none
 else
  none
theorem ref11_Success_S (answer0 : List UInt8) (text1 : List UInt8) : (runK Tryz.prog (Ev161 N) 400 14 [.str, .str] [(.sl (.int .u8))] (answer0, text1, ())).run = ref11_Success N answer0 text1 := by kernel_rfl
noncomputable def Ev162 : (R : Type) → Env R := Env.addFn (Ev161 N) 14 (fun R => fnK [.str, .str] [(.sl (.int .u8))] (fun c => ref11_Success N c.1 c.2.1))
theorem Ev162_ok (R : Type) : EnvOK Tryz.prog (Ev162 N R) := EnvOK.addFn hmx (Ev161_ok N R) (Ev161_ok N _) (by kernel_rfl) (fun c => ref11_Success_S N c.1 c.2.1)
noncomputable def chap2_isAnswer_L4_I : LI := ⟨38, 0, [], ⟨[(16, .ty (.sl (.int .u8))), (17, .ty (.int .i64)), (18, .ty (.int .i64))], []⟩, [(.ret, ⟨[(2, .ty .bool)], []⟩), (.exit 0, ⟨[], []⟩)]⟩
noncomputable def chap2_isAnswer_L4 (N : Nat) (X : (((List Int) × (Int × (Int × Unit))) × Unit) → Option ((((Bool × Unit) × Unit) ⊕ (Unit × Unit)))) (x16 : List (Int)) (x17 : Int) (x18 : Int) : Option ((((Bool × Unit) × Unit) ⊕ (Unit × Unit))) :=
 bif (decide (x18 < x17)) then
  Option.bind (getI x16 x18) fun (v5 : Int) =>
  Option.bind (bif (decide ((48 : Int) ≤ v5)) then
    some ((cond true (decide (v5 ≤ (57 : Int))) false))
   else
    some (false)) fun (v6 : Bool) =>
  Option.bind (bif v6 then
    some (true)
   else
    bif (decide ((65 : Int) ≤ v5)) then
     some ((cond false true (cond true (decide (v5 ≤ (70 : Int))) false)))
    else
     some ((cond false true false))) fun (v7 : Bool) =>
  bif (!v7) then
   some ((.inl ((false, ()), ())))
  else
   (X ((x16, (x17, ((IntKind.wrap .i64 (x18 + 1)), ()))), ()))
 else
  some ((.inr ((), ())))
noncomputable def chap2_isAnswer_L4_R (c : (((List Int) × (Int × (Int × Unit))) × Unit)) : Option ((((Bool × Unit) × Unit) ⊕ (Unit × Unit))) := gl (fun X c => chap2_isAnswer_L4 N X c.1.1 c.1.2.1 c.1.2.2.1) N c
theorem chap2_isAnswer_L4_S (X : (((List Int) × (Int × (Int × Unit))) × Unit) → Option ((((Bool × Unit) × Unit) ⊕ (Unit × Unit)))) (x16 : List (Int)) (x17 : Int) (x18 : Int) : (roundK Tryz.prog (Ev162 N) 400 [19] chap2_isAnswer_L4_I (loopAt Tryz.prog [19] 4) X ((x16, x17, x18, ()), ())).run = chap2_isAnswer_L4 N X x16 x17 x18 := by kernel_rfl
noncomputable def Ev163 : (R : Type) → Env R := Env.addLp (Ev162 N) [19] 0 4 (fun R => lpK Tryz.prog chap2_isAnswer_L4_I (fun X c => chap2_isAnswer_L4 N X c.1.1 c.1.2.1 c.1.2.2.1) N)
theorem Ev163_ok (R : Type) : EnvOK Tryz.prog (Ev163 N R) := EnvOK.addLp (Ev162_ok N R) (by kernel_rfl) (lpK_ok (li := chap2_isAnswer_L4_I) (G := fun X c => chap2_isAnswer_L4 N X c.1.1 c.1.2.1 c.1.2.2.1) hmx (Ev162_ok N _) (by kernel_rfl) loopAt_sub (fun (X : CT chap2_isAnswer_L4_I.sh → Option (OT chap2_isAnswer_L4_I.outs)) (c : CT chap2_isAnswer_L4_I.sh) => chap2_isAnswer_L4_S N X c.1.1 c.1.2.1 c.1.2.2.1) N)
noncomputable def chap2_isAnswer (b0 : List (Int)) : Option Bool :=
 Option.bind (getI b0 (0 : Int)) fun (v2 : Int) =>
 Option.bind (bif (!(decide (v2 = (83 : Int)))) then
   some (true)
  else
   Option.bind (getI b0 (1 : Int)) fun (v3 : Int) =>
   some ((cond false true (!(decide (v3 = (61 : Int))))))) fun (v3 : Bool) =>
 bif v3 then
  some (false)
 else
  Option.bind (dropI b0 (2 : Int)) fun (v4 : (List Int)) =>
  Option.bind (chap2_isAnswer_L4_R N ((v4, ((((List.length v4) : Nat) : Int), ((0 : Int), ()))), ())) fun v5 =>
  Sum.elim
   (fun (v6 : ((Bool × Unit) × Unit)) =>
   some (v6.1.1))
   (fun (v6 : (Unit × Unit)) =>
   some (true)) v5
theorem chap2_isAnswer_S (b0 : List (Int)) : (runK Tryz.prog (Ev163 N) 400 19 [(.sl (.int .u8))] [.bool] (b0, ())).run = chap2_isAnswer N b0 := by kernel_rfl
noncomputable def Ev164 : (R : Type) → Env R := Env.addFn (Ev163 N) 19 (fun R => fnK [(.sl (.int .u8))] [.bool] (fun c => chap2_isAnswer N c.1))
theorem Ev164_ok (R : Type) : EnvOK Tryz.prog (Ev164 N R) := EnvOK.addFn hmx (Ev163_ok N R) (Ev163_ok N _) (by kernel_rfl) (fun c => chap2_isAnswer_S N c.1)
noncomputable def chap2_Told (b0 : List (Int)) : Option (List UInt8 × Int) :=
 bif (decide ((((List.length b0) : Nat) : Int) < (42 : Int))) then
  some (((Array.toList (List.toArray ([] : List UInt8))), (4 : Int)))
 else
  Option.bind (takeI b0 (42 : Int)) fun (v2 : (List Int)) =>
  Option.bind (chap2_isAnswer N v2) fun v3 =>
  bif (!v3) then
   some (((Array.toList (List.toArray ([] : List UInt8))), (3 : Int)))
  else
   Option.bind (bif (decide ((42 : Int) < (((List.length b0) : Nat) : Int))) then
     Option.bind (getI b0 (42 : Int)) fun (v4 : Int) =>
     some ((cond false true (cond true (!(decide (v4 = (32 : Int)))) false)))
    else
     some ((cond false true false))) fun (v4 : Bool) =>
   bif v4 then
    some (((Array.toList (List.toArray ([] : List UInt8))), (3 : Int)))
   else
    Option.bind (takeI b0 (42 : Int)) fun (v5 : (List Int)) =>
    Option.bind (@toBy v5) fun (v6 : (List UInt8)) =>
    some ((v6, (0 : Int)))
theorem chap2_Told_S (b0 : List (Int)) : (runK Tryz.prog (Ev164 N) 400 6 [(.sl (.int .u8))] [.str, (.int .i64)] (b0, ())).run = chap2_Told N b0 := by kernel_rfl
noncomputable def Ev165 : (R : Type) → Env R := Env.addFn (Ev164 N) 6 (fun R => fnK [(.sl (.int .u8))] [.str, (.int .i64)] (fun c => chap2_Told N c.1))
theorem Ev165_ok (R : Type) : EnvOK Tryz.prog (Ev165 N R) := EnvOK.addFn hmx (Ev164_ok N R) (Ev164_ok N _) (by kernel_rfl) (fun c => chap2_Told_S N c.1)
noncomputable def ref11_great (N : Nat) (c0 : Int) : Option Bool :=
 Option.bind (bif (decide ((48 : Int) ≤ c0)) then
   some ((cond true (decide (c0 ≤ (57 : Int))) false))
  else
   some (false)) fun (v2 : Bool) =>
 Option.bind (bif v2 then
   some (true)
  else
   bif (decide ((65 : Int) ≤ c0)) then
    some ((cond false true (cond true (decide (c0 ≤ (70 : Int))) false)))
   else
    some ((cond false true false))) fun (v3 : Bool) =>
 some (v3)
theorem ref11_great_S (c0 : Int) : (runK Tryz.prog (Ev165 N) 400 20 [(.int .u8)] [.bool] (c0, ())).run = ref11_great N c0 := by kernel_rfl
noncomputable def Ev166 : (R : Type) → Env R := Env.addFn (Ev165 N) 20 (fun R => fnK [(.int .u8)] [.bool] (fun c => ref11_great N c.1))
theorem Ev166_ok (R : Type) : EnvOK Tryz.prog (Ev166 N R) := EnvOK.addFn hmx (Ev165_ok N R) (Ev165_ok N _) (by kernel_rfl) (fun c => ref11_great_S N c.1)
noncomputable def ref11_Told_L6_I : LI := ⟨42, 0, [], ⟨[(0, .ty (.sl (.int .u8))), (4, .ty (.int .i64))], []⟩, [(.ret, ⟨[(2, .ty .str), (3, .ty (.int .i64))], []⟩), (.exit 0, ⟨[(0, .ty (.sl (.int .u8)))], []⟩)]⟩
noncomputable def ref11_Told_L6 (X : (((List Int) × (Int × Unit)) × Unit) → Option ((((List UInt8 × (Int × Unit)) × Unit) ⊕ (((List Int) × Unit) × Unit)))) (b0 : List (Int)) (i4 : Int) : Option ((((List UInt8 × (Int × Unit)) × Unit) ⊕ (((List Int) × Unit) × Unit))) :=
 bif (decide (i4 < (42 : Int))) then
  Option.bind (getI b0 i4) fun (v4 : Int) =>
  Option.bind (ref11_great N v4) fun v5 =>
  bif (!v5) then
   some ((.inl (((Array.toList (List.toArray ([] : List UInt8))), ((3 : Int), ())), ())))
  else
   (X ((b0, ((IntKind.wrap .i64 (i4 + 1)), ())), ()))
 else
  some ((.inr ((b0, ()), ())))
noncomputable def ref11_Told_L6_R (c : (((List Int) × (Int × Unit)) × Unit)) : Option ((((List UInt8 × (Int × Unit)) × Unit) ⊕ (((List Int) × Unit) × Unit))) := gl (fun X c => ref11_Told_L6 N X c.1.1 c.1.2.1) N c
theorem ref11_Told_L6_S (X : (((List Int) × (Int × Unit)) × Unit) → Option ((((List UInt8 × (Int × Unit)) × Unit) ⊕ (((List Int) × Unit) × Unit)))) (b0 : List (Int)) (i4 : Int) : (roundK Tryz.prog (Ev166 N) 400 [7] ref11_Told_L6_I (loopAt Tryz.prog [7] 6) X ((b0, i4, ()), ())).run = ref11_Told_L6 N X b0 i4 := by kernel_rfl
noncomputable def Ev167 : (R : Type) → Env R := Env.addLp (Ev166 N) [7] 0 6 (fun R => lpK Tryz.prog ref11_Told_L6_I (fun X c => ref11_Told_L6 N X c.1.1 c.1.2.1) N)
theorem Ev167_ok (R : Type) : EnvOK Tryz.prog (Ev167 N R) := EnvOK.addLp (Ev166_ok N R) (by kernel_rfl) (lpK_ok (li := ref11_Told_L6_I) (G := fun X c => ref11_Told_L6 N X c.1.1 c.1.2.1) hmx (Ev166_ok N _) (by kernel_rfl) loopAt_sub (fun (X : CT ref11_Told_L6_I.sh → Option (OT ref11_Told_L6_I.outs)) (c : CT ref11_Told_L6_I.sh) => ref11_Told_L6_S N X c.1.1 c.1.2.1) N)
noncomputable def ref11_Told (b0 : List (Int)) : Option (List UInt8 × Int) :=
 bif (decide ((((List.length b0) : Nat) : Int) < (42 : Int))) then
  some (((Array.toList (List.toArray ([] : List UInt8))), (4 : Int)))
 else
  Option.bind (getI b0 (0 : Int)) fun (v2 : Int) =>
  Option.bind (bif (!(decide (v2 = (83 : Int)))) then
    some (true)
   else
    Option.bind (getI b0 (1 : Int)) fun (v3 : Int) =>
    some ((cond false true (!(decide (v3 = (61 : Int))))))) fun (v3 : Bool) =>
  bif v3 then
   some (((Array.toList (List.toArray ([] : List UInt8))), (3 : Int)))
  else
   Option.bind (bif (decide ((42 : Int) < (((List.length b0) : Nat) : Int))) then
     Option.bind (getI b0 (42 : Int)) fun (v4 : Int) =>
     some ((cond false true (cond true (!(decide (v4 = (32 : Int)))) false)))
    else
     some ((cond false true false))) fun (v4 : Bool) =>
   bif v4 then
    some (((Array.toList (List.toArray ([] : List UInt8))), (3 : Int)))
   else
    Option.bind (ref11_Told_L6_R N ((b0, ((2 : Int), ())), ())) fun v5 =>
    Sum.elim
     (fun (v6 : ((List UInt8 × (Int × Unit)) × Unit)) =>
     some ((v6.1.1, v6.1.2.1)))
     (fun (v6 : (((List Int) × Unit) × Unit)) =>
     Option.bind (takeI v6.1.1 (42 : Int)) fun (v7 : (List Int)) =>
     Option.bind (@toBy v7) fun (v8 : (List UInt8)) =>
     some ((v8, (0 : Int)))) v5
theorem ref11_Told_S (b0 : List (Int)) : (runK Tryz.prog (Ev167 N) 400 7 [(.sl (.int .u8))] [.str, (.int .i64)] (b0, ())).run = ref11_Told N b0 := by kernel_rfl
noncomputable def Ev168 : (R : Type) → Env R := Env.addFn (Ev167 N) 7 (fun R => fnK [(.sl (.int .u8))] [.str, (.int .i64)] (fun c => ref11_Told N c.1))
theorem Ev168_ok (R : Type) : EnvOK Tryz.prog (Ev168 N R) := EnvOK.addFn hmx (Ev167_ok N R) (Ev167_ok N _) (by kernel_rfl) (fun c => ref11_Told_S N c.1)
noncomputable def Ev169 : (R : Type) → Env R := Env.addBx (Ev168 N) [(8, 0)]
theorem Ev169_ok (R : Type) : EnvOK Tryz.prog (Ev169 N R) := EnvOK.addBx (Ev168_ok N R) [(8, 0)]
noncomputable def Ev170 : (R : Type) → Env R := Env.addFn (Ev169 N) 22 (fun R => itK)
theorem Ev170_ok (R : Type) : EnvOK Tryz.prog (Ev170 N R) := EnvOK.addExt (Ev169_ok N R) it_ok
noncomputable def chap2_Fail (f0 : Int × (Bool × ((Arr Int 16) × (List UInt8)))) : Option ((List Int) × Int) :=
 Option.bind (bif (decide (f0.1 < (0 : Int))) then
   some (true)
  else
   some ((cond false true (decide ((9999 : Int) < f0.1))))) fun (v2 : Bool) =>
 bif v2 then
  some ((([] : List Int), (1 : Int)))
 else
  Option.bind (utf16_Ascii N f0.2.2.2) fun v3 =>
  bif (!v3) then
   some ((([] : List Int), (3 : Int)))
  else
   bif f0.2.1 then
    bif (decide ((-9223372036854775808 : Int) ≤ f0.1 ∧ f0.1 ≤ (9223372036854775807 : Int))) then
     bif (decide (((List.length (Array.toList (List.toArray ([69, 61] : List UInt8)))) + (List.length (@Go.Lib.itoa f0.1))) ≤ maxLen)) then
      bif (decide (((List.length ((Array.toList (List.toArray ([69, 61] : List UInt8))) ++ (@Go.Lib.itoa f0.1))) + (List.length (Array.toList (List.toArray ([32, 82, 61] : List UInt8))))) ≤ maxLen)) then
       bif (decide (((List.length (((Array.toList (List.toArray ([69, 61] : List UInt8))) ++ (@Go.Lib.itoa f0.1)) ++ (Array.toList (List.toArray ([32, 82, 61] : List UInt8))))) + (List.length (Array.toList (List.toArray ([49] : List UInt8))))) ≤ maxLen)) then
        bif (decide (((List.length ((((Array.toList (List.toArray ([69, 61] : List UInt8))) ++ (@Go.Lib.itoa f0.1)) ++ (Array.toList (List.toArray ([32, 82, 61] : List UInt8)))) ++ (Array.toList (List.toArray ([49] : List UInt8))))) + (List.length (Array.toList (List.toArray ([32, 67, 61] : List UInt8))))) ≤ maxLen)) then
         Option.bind (octs_Hex N f0.2.2.1.l) fun v4 =>
         bif (decide (((List.length (((((Array.toList (List.toArray ([69, 61] : List UInt8))) ++ (@Go.Lib.itoa f0.1)) ++ (Array.toList (List.toArray ([32, 82, 61] : List UInt8)))) ++ (Array.toList (List.toArray ([49] : List UInt8)))) ++ (Array.toList (List.toArray ([32, 67, 61] : List UInt8))))) + (List.length v4)) ≤ maxLen)) then
          bif (decide (((List.length ((((((Array.toList (List.toArray ([69, 61] : List UInt8))) ++ (@Go.Lib.itoa f0.1)) ++ (Array.toList (List.toArray ([32, 82, 61] : List UInt8)))) ++ (Array.toList (List.toArray ([49] : List UInt8)))) ++ (Array.toList (List.toArray ([32, 67, 61] : List UInt8)))) ++ v4)) + (List.length (Array.toList (List.toArray ([32, 86, 61, 51, 32, 77, 61] : List UInt8))))) ≤ maxLen)) then
           bif (decide (((List.length (((((((Array.toList (List.toArray ([69, 61] : List UInt8))) ++ (@Go.Lib.itoa f0.1)) ++ (Array.toList (List.toArray ([32, 82, 61] : List UInt8)))) ++ (Array.toList (List.toArray ([49] : List UInt8)))) ++ (Array.toList (List.toArray ([32, 67, 61] : List UInt8)))) ++ v4) ++ (Array.toList (List.toArray ([32, 86, 61, 51, 32, 77, 61] : List UInt8))))) + (List.length f0.2.2.2)) ≤ maxLen)) then
            bif (roomB (List.length ((((((((Array.toList (List.toArray ([69, 61] : List UInt8))) ++ (@Go.Lib.itoa f0.1)) ++ (Array.toList (List.toArray ([32, 82, 61] : List UInt8)))) ++ (Array.toList (List.toArray ([49] : List UInt8)))) ++ (Array.toList (List.toArray ([32, 67, 61] : List UInt8)))) ++ v4) ++ (Array.toList (List.toArray ([32, 86, 61, 51, 32, 77, 61] : List UInt8)))) ++ f0.2.2.2)) 1) then
             some (((@ofB ((((((((Array.toList (List.toArray ([69, 61] : List UInt8))) ++ (@Go.Lib.itoa f0.1)) ++ (Array.toList (List.toArray ([32, 82, 61] : List UInt8)))) ++ (Array.toList (List.toArray ([49] : List UInt8)))) ++ (Array.toList (List.toArray ([32, 67, 61] : List UInt8)))) ++ v4) ++ (Array.toList (List.toArray ([32, 86, 61, 51, 32, 77, 61] : List UInt8)))) ++ f0.2.2.2)), (0 : Int)))
            else
             none
           else
            none
          else
           none
         else
          none
        else
         none
       else
        none
      else
       none
     else
      none
    else
     none
   else
    bif (decide ((-9223372036854775808 : Int) ≤ f0.1 ∧ f0.1 ≤ (9223372036854775807 : Int))) then
     bif (decide (((List.length (Array.toList (List.toArray ([69, 61] : List UInt8)))) + (List.length (@Go.Lib.itoa f0.1))) ≤ maxLen)) then
      bif (decide (((List.length ((Array.toList (List.toArray ([69, 61] : List UInt8))) ++ (@Go.Lib.itoa f0.1))) + (List.length (Array.toList (List.toArray ([32, 82, 61] : List UInt8))))) ≤ maxLen)) then
       bif (decide (((List.length (((Array.toList (List.toArray ([69, 61] : List UInt8))) ++ (@Go.Lib.itoa f0.1)) ++ (Array.toList (List.toArray ([32, 82, 61] : List UInt8))))) + (List.length (Array.toList (List.toArray ([48] : List UInt8))))) ≤ maxLen)) then
        bif (decide (((List.length ((((Array.toList (List.toArray ([69, 61] : List UInt8))) ++ (@Go.Lib.itoa f0.1)) ++ (Array.toList (List.toArray ([32, 82, 61] : List UInt8)))) ++ (Array.toList (List.toArray ([48] : List UInt8))))) + (List.length (Array.toList (List.toArray ([32, 67, 61] : List UInt8))))) ≤ maxLen)) then
         Option.bind (octs_Hex N f0.2.2.1.l) fun v4 =>
         bif (decide (((List.length (((((Array.toList (List.toArray ([69, 61] : List UInt8))) ++ (@Go.Lib.itoa f0.1)) ++ (Array.toList (List.toArray ([32, 82, 61] : List UInt8)))) ++ (Array.toList (List.toArray ([48] : List UInt8)))) ++ (Array.toList (List.toArray ([32, 67, 61] : List UInt8))))) + (List.length v4)) ≤ maxLen)) then
          bif (decide (((List.length ((((((Array.toList (List.toArray ([69, 61] : List UInt8))) ++ (@Go.Lib.itoa f0.1)) ++ (Array.toList (List.toArray ([32, 82, 61] : List UInt8)))) ++ (Array.toList (List.toArray ([48] : List UInt8)))) ++ (Array.toList (List.toArray ([32, 67, 61] : List UInt8)))) ++ v4)) + (List.length (Array.toList (List.toArray ([32, 86, 61, 51, 32, 77, 61] : List UInt8))))) ≤ maxLen)) then
           bif (decide (((List.length (((((((Array.toList (List.toArray ([69, 61] : List UInt8))) ++ (@Go.Lib.itoa f0.1)) ++ (Array.toList (List.toArray ([32, 82, 61] : List UInt8)))) ++ (Array.toList (List.toArray ([48] : List UInt8)))) ++ (Array.toList (List.toArray ([32, 67, 61] : List UInt8)))) ++ v4) ++ (Array.toList (List.toArray ([32, 86, 61, 51, 32, 77, 61] : List UInt8))))) + (List.length f0.2.2.2)) ≤ maxLen)) then
            bif (roomB (List.length ((((((((Array.toList (List.toArray ([69, 61] : List UInt8))) ++ (@Go.Lib.itoa f0.1)) ++ (Array.toList (List.toArray ([32, 82, 61] : List UInt8)))) ++ (Array.toList (List.toArray ([48] : List UInt8)))) ++ (Array.toList (List.toArray ([32, 67, 61] : List UInt8)))) ++ v4) ++ (Array.toList (List.toArray ([32, 86, 61, 51, 32, 77, 61] : List UInt8)))) ++ f0.2.2.2)) 1) then
             some (((@ofB ((((((((Array.toList (List.toArray ([69, 61] : List UInt8))) ++ (@Go.Lib.itoa f0.1)) ++ (Array.toList (List.toArray ([32, 82, 61] : List UInt8)))) ++ (Array.toList (List.toArray ([48] : List UInt8)))) ++ (Array.toList (List.toArray ([32, 67, 61] : List UInt8)))) ++ v4) ++ (Array.toList (List.toArray ([32, 86, 61, 51, 32, 77, 61] : List UInt8)))) ++ f0.2.2.2)), (0 : Int)))
            else
             none
           else
            none
          else
           none
         else
          none
        else
         none
       else
        none
      else
       none
     else
      none
    else
     none
theorem chap2_Fail_S (f0 : Int × (Bool × ((Arr Int 16) × (List UInt8)))) : (runK Tryz.prog (Ev170 N) 400 8 [(.pair (.int .i64) (.pair .bool (.pair (.arr 16 (.int .u8)) .str)))] [(.sl (.int .u8)), (.int .i64)] (f0, ())).run = chap2_Fail N f0 := by kernel_rfl
noncomputable def Ev171 : (R : Type) → Env R := Env.addFn (Ev170 N) 8 (fun R => fnK [(.pair (.int .i64) (.pair .bool (.pair (.arr 16 (.int .u8)) .str)))] [(.sl (.int .u8)), (.int .i64)] (fun c => chap2_Fail N c.1))
theorem Ev171_ok (R : Type) : EnvOK Tryz.prog (Ev171 N R) := EnvOK.addFn hmx (Ev170_ok N R) (Ev170_ok N _) (by kernel_rfl) (fun c => chap2_Fail_S N c.1)
noncomputable def Ev172 (X0 : (Int × Unit) → Option (List UInt8)) : (R : Type) → Env R := Env.addFn (Ev171 N) 25 (fun R => fnK [(.int .i64)] [.str] X0)
theorem Ev172_ok (X0 : (Int × Unit) → Option (List UInt8)) (hX0 : ∀ c y, X0 c = some y → CallsK Tryz.prog 25 (valA [(.int .i64)] c) (tupV (valR [.str] y))) (R : Type) : EnvOK Tryz.prog (Ev172 N X0 R) := EnvOK.addSelf (Ev171_ok N R) (inl := (Ev171 N Unit).inl) (by kernel_rfl) hX0
noncomputable def ref11_Digits_B (N : Nat) (X0 : (Int × Unit) → Option (List UInt8)) (n0 : Int) : Option (List UInt8) :=
 bif (decide (n0 < (10 : Int))) then
  Option.bind (@toBy ([(IntKind.wrap .u8 (IntKind.wrap .i64 ((48 : Int) + n0)))] : List (Int))) fun (v3 : (List UInt8)) =>
  some (v3)
 else
  Option.bind (X0 ((IntKind.wrap .i64 (@Int.tdiv n0 (10 : Int))), ())) fun (v3 : (List UInt8)) =>
  Option.bind (X0 ((@Int.tmod n0 (10 : Int)), ())) fun (v4 : (List UInt8)) =>
  bif (decide (((List.length v3) + (List.length v4)) ≤ maxLen)) then
   some ((v3 ++ v4))
  else
   none
theorem ref11_Digits_B_S (X0 : (Int × Unit) → Option (List UInt8)) (n0 : Int) : (runK Tryz.prog (Ev172 N X0) 400 25 [(.int .i64)] [.str] (n0, ())).run = ref11_Digits_B N X0 n0 := by kernel_rfl
noncomputable def ref11_Digits (n0 : Int) : Option (List UInt8) := gl (fun X c => ref11_Digits_B N X c.1) N (n0, ())
noncomputable def Ev173 : (R : Type) → Env R := Env.addFn (Ev171 N) 25 (fun R => fnK [(.int .i64)] [.str] (fun c => ref11_Digits N c.1))
theorem Ev173_ok (R : Type) : EnvOK Tryz.prog (Ev173 N R) := EnvOK.addSelf (Ev171_ok N R) (inl := (Ev171 N Unit).inl) (by kernel_rfl) (fun c y h => rec_ok (f := 25) (ds := [(.int .i64)]) (rs := [.str]) hmx (G := fun (X : (Int × Unit) → Option (List UInt8)) (c : (Int × Unit)) => ref11_Digits_B N X c.1) (Γs := fun (X : (Int × Unit) → Option (List UInt8)) => Ev172 N X) (fuel := 400) (fun X hX => Ev172_ok N X hX _) (fun X => by kernel_rfl) (fun X c => ref11_Digits_B_S N X c.1) N c y h)
noncomputable def Ev174 : (R : Type) → Env R := Env.addBx (Ev173 N) [(9, 0)]
theorem Ev174_ok (R : Type) : EnvOK Tryz.prog (Ev174 N R) := EnvOK.addBx (Ev173_ok N R) [(9, 0)]
noncomputable def ref11_Fail (f0 : Int × (Bool × ((Arr Int 16) × (List UInt8)))) : Option ((List Int) × Int) :=
 Option.bind (bif (decide (f0.1 < (0 : Int))) then
   some (true)
  else
   some ((cond false true (decide ((9999 : Int) < f0.1))))) fun (v2 : Bool) =>
 bif v2 then
  some ((([] : List Int), (1 : Int)))
 else
  Option.bind (ref09_Ascii N f0.2.2.2) fun v3 =>
  bif (!v3) then
   some ((([] : List Int), (3 : Int)))
  else
   bif f0.2.1 then
    Option.bind (ref11_Digits N f0.1) fun v4 =>
    bif (decide (((List.length (Array.toList (List.toArray ([69, 61] : List UInt8)))) + (List.length v4)) ≤ maxLen)) then
     bif (decide (((List.length ((Array.toList (List.toArray ([69, 61] : List UInt8))) ++ v4)) + (List.length (Array.toList (List.toArray ([32, 82, 61] : List UInt8))))) ≤ maxLen)) then
      bif (decide (((List.length (((Array.toList (List.toArray ([69, 61] : List UInt8))) ++ v4) ++ (Array.toList (List.toArray ([32, 82, 61] : List UInt8))))) + (List.length (Array.toList (List.toArray ([49] : List UInt8))))) ≤ maxLen)) then
       bif (decide (((List.length ((((Array.toList (List.toArray ([69, 61] : List UInt8))) ++ v4) ++ (Array.toList (List.toArray ([32, 82, 61] : List UInt8)))) ++ (Array.toList (List.toArray ([49] : List UInt8))))) + (List.length (Array.toList (List.toArray ([32, 67, 61] : List UInt8))))) ≤ maxLen)) then
        Option.bind (ref01_Hex N f0.2.2.1.l) fun v5 =>
        bif (decide (((List.length (((((Array.toList (List.toArray ([69, 61] : List UInt8))) ++ v4) ++ (Array.toList (List.toArray ([32, 82, 61] : List UInt8)))) ++ (Array.toList (List.toArray ([49] : List UInt8)))) ++ (Array.toList (List.toArray ([32, 67, 61] : List UInt8))))) + (List.length v5)) ≤ maxLen)) then
         bif (decide (((List.length ((((((Array.toList (List.toArray ([69, 61] : List UInt8))) ++ v4) ++ (Array.toList (List.toArray ([32, 82, 61] : List UInt8)))) ++ (Array.toList (List.toArray ([49] : List UInt8)))) ++ (Array.toList (List.toArray ([32, 67, 61] : List UInt8)))) ++ v5)) + (List.length (Array.toList (List.toArray ([32, 86, 61, 51, 32, 77, 61] : List UInt8))))) ≤ maxLen)) then
          bif (decide (((List.length (((((((Array.toList (List.toArray ([69, 61] : List UInt8))) ++ v4) ++ (Array.toList (List.toArray ([32, 82, 61] : List UInt8)))) ++ (Array.toList (List.toArray ([49] : List UInt8)))) ++ (Array.toList (List.toArray ([32, 67, 61] : List UInt8)))) ++ v5) ++ (Array.toList (List.toArray ([32, 86, 61, 51, 32, 77, 61] : List UInt8))))) + (List.length f0.2.2.2)) ≤ maxLen)) then
           bif (roomB (List.length ((((((((Array.toList (List.toArray ([69, 61] : List UInt8))) ++ v4) ++ (Array.toList (List.toArray ([32, 82, 61] : List UInt8)))) ++ (Array.toList (List.toArray ([49] : List UInt8)))) ++ (Array.toList (List.toArray ([32, 67, 61] : List UInt8)))) ++ v5) ++ (Array.toList (List.toArray ([32, 86, 61, 51, 32, 77, 61] : List UInt8)))) ++ f0.2.2.2)) 1) then
            some (((@ofB ((((((((Array.toList (List.toArray ([69, 61] : List UInt8))) ++ v4) ++ (Array.toList (List.toArray ([32, 82, 61] : List UInt8)))) ++ (Array.toList (List.toArray ([49] : List UInt8)))) ++ (Array.toList (List.toArray ([32, 67, 61] : List UInt8)))) ++ v5) ++ (Array.toList (List.toArray ([32, 86, 61, 51, 32, 77, 61] : List UInt8)))) ++ f0.2.2.2)), (0 : Int)))
           else
            none
          else
           none
         else
          none
        else
         none
       else
        none
      else
       none
     else
      none
    else
     none
   else
    Option.bind (ref11_Digits N f0.1) fun v4 =>
    bif (decide (((List.length (Array.toList (List.toArray ([69, 61] : List UInt8)))) + (List.length v4)) ≤ maxLen)) then
     bif (decide (((List.length ((Array.toList (List.toArray ([69, 61] : List UInt8))) ++ v4)) + (List.length (Array.toList (List.toArray ([32, 82, 61] : List UInt8))))) ≤ maxLen)) then
      bif (decide (((List.length (((Array.toList (List.toArray ([69, 61] : List UInt8))) ++ v4) ++ (Array.toList (List.toArray ([32, 82, 61] : List UInt8))))) + (List.length (Array.toList (List.toArray ([48] : List UInt8))))) ≤ maxLen)) then
       bif (decide (((List.length ((((Array.toList (List.toArray ([69, 61] : List UInt8))) ++ v4) ++ (Array.toList (List.toArray ([32, 82, 61] : List UInt8)))) ++ (Array.toList (List.toArray ([48] : List UInt8))))) + (List.length (Array.toList (List.toArray ([32, 67, 61] : List UInt8))))) ≤ maxLen)) then
        Option.bind (ref01_Hex N f0.2.2.1.l) fun v5 =>
        bif (decide (((List.length (((((Array.toList (List.toArray ([69, 61] : List UInt8))) ++ v4) ++ (Array.toList (List.toArray ([32, 82, 61] : List UInt8)))) ++ (Array.toList (List.toArray ([48] : List UInt8)))) ++ (Array.toList (List.toArray ([32, 67, 61] : List UInt8))))) + (List.length v5)) ≤ maxLen)) then
         bif (decide (((List.length ((((((Array.toList (List.toArray ([69, 61] : List UInt8))) ++ v4) ++ (Array.toList (List.toArray ([32, 82, 61] : List UInt8)))) ++ (Array.toList (List.toArray ([48] : List UInt8)))) ++ (Array.toList (List.toArray ([32, 67, 61] : List UInt8)))) ++ v5)) + (List.length (Array.toList (List.toArray ([32, 86, 61, 51, 32, 77, 61] : List UInt8))))) ≤ maxLen)) then
          bif (decide (((List.length (((((((Array.toList (List.toArray ([69, 61] : List UInt8))) ++ v4) ++ (Array.toList (List.toArray ([32, 82, 61] : List UInt8)))) ++ (Array.toList (List.toArray ([48] : List UInt8)))) ++ (Array.toList (List.toArray ([32, 67, 61] : List UInt8)))) ++ v5) ++ (Array.toList (List.toArray ([32, 86, 61, 51, 32, 77, 61] : List UInt8))))) + (List.length f0.2.2.2)) ≤ maxLen)) then
           bif (roomB (List.length ((((((((Array.toList (List.toArray ([69, 61] : List UInt8))) ++ v4) ++ (Array.toList (List.toArray ([32, 82, 61] : List UInt8)))) ++ (Array.toList (List.toArray ([48] : List UInt8)))) ++ (Array.toList (List.toArray ([32, 67, 61] : List UInt8)))) ++ v5) ++ (Array.toList (List.toArray ([32, 86, 61, 51, 32, 77, 61] : List UInt8)))) ++ f0.2.2.2)) 1) then
            some (((@ofB ((((((((Array.toList (List.toArray ([69, 61] : List UInt8))) ++ v4) ++ (Array.toList (List.toArray ([32, 82, 61] : List UInt8)))) ++ (Array.toList (List.toArray ([48] : List UInt8)))) ++ (Array.toList (List.toArray ([32, 67, 61] : List UInt8)))) ++ v5) ++ (Array.toList (List.toArray ([32, 86, 61, 51, 32, 77, 61] : List UInt8)))) ++ f0.2.2.2)), (0 : Int)))
           else
            none
          else
           none
         else
          none
        else
         none
       else
        none
      else
       none
     else
      none
    else
     none
theorem ref11_Fail_S (f0 : Int × (Bool × ((Arr Int 16) × (List UInt8)))) : (runK Tryz.prog (Ev174 N) 400 9 [(.pair (.int .i64) (.pair .bool (.pair (.arr 16 (.int .u8)) .str)))] [(.sl (.int .u8)), (.int .i64)] (f0, ())).run = ref11_Fail N f0 := by kernel_rfl
noncomputable def Ev175 : (R : Type) → Env R := Env.addFn (Ev174 N) 9 (fun R => fnK [(.pair (.int .i64) (.pair .bool (.pair (.arr 16 (.int .u8)) .str)))] [(.sl (.int .u8)), (.int .i64)] (fun c => ref11_Fail N c.1))
theorem Ev175_ok (R : Type) : EnvOK Tryz.prog (Ev175 N R) := EnvOK.addFn hmx (Ev174_ok N R) (Ev174_ok N _) (by kernel_rfl) (fun c => ref11_Fail_S N c.1)
noncomputable def Ev176 : (R : Type) → Env R := Env.addFn (Ev175 N) 28 (fun R => tpK)
theorem Ev176_ok (R : Type) : EnvOK Tryz.prog (Ev176 N R) := EnvOK.addExt (Ev175_ok N R) tp_ok
noncomputable def Ev177 : (R : Type) → Env R := Env.addFn (Ev176 N) 27 (fun R => ctK)
theorem Ev177_ok (R : Type) : EnvOK Tryz.prog (Ev177 N R) := EnvOK.addExt (Ev176_ok N R) ct_ok
noncomputable def Ev178 : (R : Type) → Env R := Env.addFn (Ev177 N) 29 (fun R => uhK)
theorem Ev178_ok (R : Type) : EnvOK Tryz.prog (Ev178 N R) := EnvOK.addExt (Ev177_ok N R) uh_ok
noncomputable def Ev179 : (R : Type) → Env R := Env.addFn (Ev178 N) 30 (fun R => atK)
theorem Ev179_ok (R : Type) : EnvOK Tryz.prog (Ev179 N R) := EnvOK.addExt (Ev178_ok N R) at_ok
noncomputable def chap2_Failed (b0 : List (Int)) : Option ((Int × (Bool × ((Arr Int 16) × (List UInt8)))) × Int) :=
 Option.bind (@toBy b0) fun (v2 : (List UInt8)) =>
 bif (decide ((List.length (@Go.Lib.trimPrefix v2 (Array.toList (List.toArray ([69, 61] : List UInt8))))) ≤ (1000000 : Nat))) then
  bif (decide ((List.length (@Go.Lib.cut (@Go.Lib.trimPrefix v2 (Array.toList (List.toArray ([69, 61] : List UInt8)))) (Array.toList (List.toArray ([32, 82, 61] : List UInt8)))).2.1) ≤ (1000000 : Nat))) then
   bif (decide ((List.length (@Go.Lib.cut (@Go.Lib.cut (@Go.Lib.trimPrefix v2 (Array.toList (List.toArray ([69, 61] : List UInt8)))) (Array.toList (List.toArray ([32, 82, 61] : List UInt8)))).2.1 (Array.toList (List.toArray ([32, 67, 61] : List UInt8)))).2.1) ≤ (1000000 : Nat))) then
    bif (decide ((List.length (@Go.Lib.cut (@Go.Lib.cut (@Go.Lib.cut (@Go.Lib.trimPrefix v2 (Array.toList (List.toArray ([69, 61] : List UInt8)))) (Array.toList (List.toArray ([32, 82, 61] : List UInt8)))).2.1 (Array.toList (List.toArray ([32, 67, 61] : List UInt8)))).2.1 (Array.toList (List.toArray ([32, 86, 61, 51, 32, 77, 61] : List UInt8)))).1) ≤ (1000000 : Nat))) then
     bif (decide ((List.length (@Go.Lib.cut (@Go.Lib.trimPrefix v2 (Array.toList (List.toArray ([69, 61] : List UInt8)))) (Array.toList (List.toArray ([32, 82, 61] : List UInt8)))).1) ≤ (281474976710656 : Nat))) then
      Sum.elim
       (fun (v3 : Int) =>
       Option.bind (some ((cond false true (!(decide ((@unhexE (@Go.Lib.cut (@Go.Lib.cut (@Go.Lib.cut (@Go.Lib.trimPrefix v2 (Array.toList (List.toArray ([69, 61] : List UInt8)))) (Array.toList (List.toArray ([32, 82, 61] : List UInt8)))).2.1 (Array.toList (List.toArray ([32, 67, 61] : List UInt8)))).2.1 (Array.toList (List.toArray ([32, 86, 61, 51, 32, 77, 61] : List UInt8)))).1) = (0 : Int))))))) fun (v4 : Bool) =>
       bif v4 then
        some ((((0 : Int), (false, ((@Arr.cons Int 15 0 (@Arr.cons Int 14 0 (@Arr.cons Int 13 0 (@Arr.cons Int 12 0 (@Arr.cons Int 11 0 (@Arr.cons Int 10 0 (@Arr.cons Int 9 0 (@Arr.cons Int 8 0 (@Arr.cons Int 7 0 (@Arr.cons Int 6 0 (@Arr.cons Int 5 0 (@Arr.cons Int 4 0 (@Arr.cons Int 3 0 (@Arr.cons Int 2 0 (@Arr.cons Int 1 0 (@Arr.cons Int 0 0 (@Arr.nil Int))))))))))))))))), (Array.toList (List.toArray ([] : List UInt8)))))), (3 : Int)))
       else
        Option.bind (some ((cond false true (!(decide ((((List.length (@unhexR (@Go.Lib.cut (@Go.Lib.cut (@Go.Lib.cut (@Go.Lib.trimPrefix v2 (Array.toList (List.toArray ([69, 61] : List UInt8)))) (Array.toList (List.toArray ([32, 82, 61] : List UInt8)))).2.1 (Array.toList (List.toArray ([32, 67, 61] : List UInt8)))).2.1 (Array.toList (List.toArray ([32, 86, 61, 51, 32, 77, 61] : List UInt8)))).1)) : Nat) : Int) = (16 : Int))))))) fun (v5 : Bool) =>
        bif v5 then
         some ((((0 : Int), (false, ((@Arr.cons Int 15 0 (@Arr.cons Int 14 0 (@Arr.cons Int 13 0 (@Arr.cons Int 12 0 (@Arr.cons Int 11 0 (@Arr.cons Int 10 0 (@Arr.cons Int 9 0 (@Arr.cons Int 8 0 (@Arr.cons Int 7 0 (@Arr.cons Int 6 0 (@Arr.cons Int 5 0 (@Arr.cons Int 4 0 (@Arr.cons Int 3 0 (@Arr.cons Int 2 0 (@Arr.cons Int 1 0 (@Arr.cons Int 0 0 (@Arr.nil Int))))))))))))))))), (Array.toList (List.toArray ([] : List UInt8)))))), (3 : Int)))
        else
         Option.bind (@toArr Int (16 : Nat) (@unhexR (@Go.Lib.cut (@Go.Lib.cut (@Go.Lib.cut (@Go.Lib.trimPrefix v2 (Array.toList (List.toArray ([69, 61] : List UInt8)))) (Array.toList (List.toArray ([32, 82, 61] : List UInt8)))).2.1 (Array.toList (List.toArray ([32, 67, 61] : List UInt8)))).2.1 (Array.toList (List.toArray ([32, 86, 61, 51, 32, 77, 61] : List UInt8)))).1)) fun (v6 : (Arr Int 16)) =>
         Option.bind (chap2_Fail N (v3, ((decide ((@Go.Lib.cut (@Go.Lib.cut (@Go.Lib.trimPrefix v2 (Array.toList (List.toArray ([69, 61] : List UInt8)))) (Array.toList (List.toArray ([32, 82, 61] : List UInt8)))).2.1 (Array.toList (List.toArray ([32, 67, 61] : List UInt8)))).1 = (Array.toList (List.toArray ([49] : List UInt8))))), (v6, (@Go.Lib.cut (@Go.Lib.cut (@Go.Lib.cut (@Go.Lib.trimPrefix v2 (Array.toList (List.toArray ([69, 61] : List UInt8)))) (Array.toList (List.toArray ([32, 82, 61] : List UInt8)))).2.1 (Array.toList (List.toArray ([32, 67, 61] : List UInt8)))).2.1 (Array.toList (List.toArray ([32, 86, 61, 51, 32, 77, 61] : List UInt8)))).2.1)))) fun v7 =>
         bif (!(decide (v7.2 = (0 : Int)))) then
          some ((((0 : Int), (false, ((@Arr.cons Int 15 0 (@Arr.cons Int 14 0 (@Arr.cons Int 13 0 (@Arr.cons Int 12 0 (@Arr.cons Int 11 0 (@Arr.cons Int 10 0 (@Arr.cons Int 9 0 (@Arr.cons Int 8 0 (@Arr.cons Int 7 0 (@Arr.cons Int 6 0 (@Arr.cons Int 5 0 (@Arr.cons Int 4 0 (@Arr.cons Int 3 0 (@Arr.cons Int 2 0 (@Arr.cons Int 1 0 (@Arr.cons Int 0 0 (@Arr.nil Int))))))))))))))))), (Array.toList (List.toArray ([] : List UInt8)))))), (3 : Int)))
         else
          Option.bind (octs_Same N v7.1 b0) fun v8 =>
          Option.bind (some ((cond false true (!v8)))) fun (v9 : Bool) =>
          bif v9 then
           some ((((0 : Int), (false, ((@Arr.cons Int 15 0 (@Arr.cons Int 14 0 (@Arr.cons Int 13 0 (@Arr.cons Int 12 0 (@Arr.cons Int 11 0 (@Arr.cons Int 10 0 (@Arr.cons Int 9 0 (@Arr.cons Int 8 0 (@Arr.cons Int 7 0 (@Arr.cons Int 6 0 (@Arr.cons Int 5 0 (@Arr.cons Int 4 0 (@Arr.cons Int 3 0 (@Arr.cons Int 2 0 (@Arr.cons Int 1 0 (@Arr.cons Int 0 0 (@Arr.nil Int))))))))))))))))), (Array.toList (List.toArray ([] : List UInt8)))))), (3 : Int)))
          else
           some (((v3, ((decide ((@Go.Lib.cut (@Go.Lib.cut (@Go.Lib.trimPrefix v2 (Array.toList (List.toArray ([69, 61] : List UInt8)))) (Array.toList (List.toArray ([32, 82, 61] : List UInt8)))).2.1 (Array.toList (List.toArray ([32, 67, 61] : List UInt8)))).1 = (Array.toList (List.toArray ([49] : List UInt8))))), (v6, (@Go.Lib.cut (@Go.Lib.cut (@Go.Lib.cut (@Go.Lib.trimPrefix v2 (Array.toList (List.toArray ([69, 61] : List UInt8)))) (Array.toList (List.toArray ([32, 82, 61] : List UInt8)))).2.1 (Array.toList (List.toArray ([32, 67, 61] : List UInt8)))).2.1 (Array.toList (List.toArray ([32, 86, 61, 51, 32, 77, 61] : List UInt8)))).2.1))), (0 : Int))))
       (fun (v3 : Int) =>
       some ((((0 : Int), (false, ((@Arr.cons Int 15 0 (@Arr.cons Int 14 0 (@Arr.cons Int 13 0 (@Arr.cons Int 12 0 (@Arr.cons Int 11 0 (@Arr.cons Int 10 0 (@Arr.cons Int 9 0 (@Arr.cons Int 8 0 (@Arr.cons Int 7 0 (@Arr.cons Int 6 0 (@Arr.cons Int 5 0 (@Arr.cons Int 4 0 (@Arr.cons Int 3 0 (@Arr.cons Int 2 0 (@Arr.cons Int 1 0 (@Arr.cons Int 0 0 (@Arr.nil Int))))))))))))))))), (Array.toList (List.toArray ([] : List UInt8)))))), (3 : Int)))) (@atS (@Go.Lib.cut (@Go.Lib.trimPrefix v2 (Array.toList (List.toArray ([69, 61] : List UInt8)))) (Array.toList (List.toArray ([32, 82, 61] : List UInt8)))).1)
     else
      none
    else
     none
   else
    none
  else
   none
 else
  none
theorem chap2_Failed_S (b0 : List (Int)) : (runK Tryz.prog (Ev179 N) 400 10 [(.sl (.int .u8))] [(.pair (.int .i64) (.pair .bool (.pair (.arr 16 (.int .u8)) .str))), (.int .i64)] (b0, ())).run = chap2_Failed N b0 := by kernel_rfl
noncomputable def Ev180 : (R : Type) → Env R := Env.addFn (Ev179 N) 10 (fun R => fnK [(.sl (.int .u8))] [(.pair (.int .i64) (.pair .bool (.pair (.arr 16 (.int .u8)) .str))), (.int .i64)] (fun c => chap2_Failed N c.1))
theorem Ev180_ok (R : Type) : EnvOK Tryz.prog (Ev180 N R) := EnvOK.addFn hmx (Ev179_ok N R) (Ev179_ok N _) (by kernel_rfl) (fun c => chap2_Failed_S N c.1)
noncomputable def ref11_Failed_L3_I : LI := ⟨106, 0, [], ⟨[(0, .ty (.sl (.int .u8))), (2, .lit (.box 0 0)), (4, .lit (.box 1 0)), (5, .ty (.int .i64))], [.box 24 (.pair (.int .i64) (.pair .bool (.pair (.arr 16 (.int .u8)) .str))), .box 24 (.pair (.int .i64) (.pair .bool (.pair (.arr 16 (.int .u8)) .str)))]⟩, [(.exit 0, ⟨[(0, .ty (.sl (.int .u8))), (2, .lit (.box 0 0)), (4, .lit (.box 1 0)), (5, .ty (.int .i64))], [.box 24 (.pair (.int .i64) (.pair .bool (.pair (.arr 16 (.int .u8)) .str))), .box 24 (.pair (.int .i64) (.pair .bool (.pair (.arr 16 (.int .u8)) .str)))]⟩)]⟩
noncomputable def ref11_Failed_L3 (N : Nat) (X : (((List Int) × (Int × Unit)) × ((Int × (Bool × ((Arr Int 16) × (List UInt8)))) × ((Int × (Bool × ((Arr Int 16) × (List UInt8)))) × Unit))) → Option ((((List Int) × (Int × Unit)) × ((Int × (Bool × ((Arr Int 16) × (List UInt8)))) × ((Int × (Bool × ((Arr Int 16) × (List UInt8)))) × Unit))))) (b0 : List (Int)) (x5 : Int) (h0 : Int × (Bool × ((Arr Int 16) × (List UInt8)))) (h1 : Int × (Bool × ((Arr Int 16) × (List UInt8)))) : Option ((((List Int) × (Int × Unit)) × ((Int × (Bool × ((Arr Int 16) × (List UInt8)))) × ((Int × (Bool × ((Arr Int 16) × (List UInt8)))) × Unit)))) :=
 Option.bind (bif (decide (x5 < (((List.length b0) : Nat) : Int))) then
   some ((cond true (decide (x5 < (7 : Int))) false))
  else
   some (false)) fun (v6 : Bool) =>
 Option.bind (bif v6 then
   Option.bind (getI b0 x5) fun (v7 : Int) =>
   some ((cond true (decide ((48 : Int) ≤ v7)) false))
  else
   some (false)) fun (v7 : Bool) =>
 Option.bind (bif v7 then
   Option.bind (getI b0 x5) fun (v8 : Int) =>
   some ((cond true (decide (v8 ≤ (57 : Int))) false))
  else
   some (false)) fun (v8 : Bool) =>
 bif v8 then
  Option.bind (getI b0 x5) fun (v9 : Int) =>
  (X ((b0, ((IntKind.wrap .i64 (x5 + 1)), ())), ((h0.1, (h0.2.1, (h0.2.2.1, h0.2.2.2))), (((IntKind.wrap .i64 ((IntKind.wrap .i64 ((10 : Int) * h1.1)) + (IntKind.wrap .i64 (IntKind.wrap .u8 (v9 - 48))))), (h1.2.1, (h1.2.2.1, h1.2.2.2))), ()))))
 else
  some (((b0, (x5, ())), ((h0.1, (h0.2.1, (h0.2.2.1, h0.2.2.2))), ((h1.1, (h1.2.1, (h1.2.2.1, h1.2.2.2))), ()))))
noncomputable def ref11_Failed_L3_R (c : (((List Int) × (Int × Unit)) × ((Int × (Bool × ((Arr Int 16) × (List UInt8)))) × ((Int × (Bool × ((Arr Int 16) × (List UInt8)))) × Unit)))) : Option ((((List Int) × (Int × Unit)) × ((Int × (Bool × ((Arr Int 16) × (List UInt8)))) × ((Int × (Bool × ((Arr Int 16) × (List UInt8)))) × Unit)))) := gl (fun X c => ref11_Failed_L3 N X c.1.1 c.1.2.1 c.2.1 c.2.2.1) N c
theorem ref11_Failed_L3_S (X : (((List Int) × (Int × Unit)) × ((Int × (Bool × ((Arr Int 16) × (List UInt8)))) × ((Int × (Bool × ((Arr Int 16) × (List UInt8)))) × Unit))) → Option ((((List Int) × (Int × Unit)) × ((Int × (Bool × ((Arr Int 16) × (List UInt8)))) × ((Int × (Bool × ((Arr Int 16) × (List UInt8)))) × Unit))))) (b0 : List (Int)) (x5 : Int) (h0 : Int × (Bool × ((Arr Int 16) × (List UInt8)))) (h1 : Int × (Bool × ((Arr Int 16) × (List UInt8)))) : (roundK Tryz.prog (Ev180 N) 400 [11] ref11_Failed_L3_I (loopAt Tryz.prog [11] 3) X ((b0, x5, ()), (h0, h1, ()))).run = ref11_Failed_L3 N X b0 x5 h0 h1 := by kernel_rfl
noncomputable def Ev181 : (R : Type) → Env R := Env.addLp (Ev180 N) [11] 0 3 (fun R => lpK Tryz.prog ref11_Failed_L3_I (fun X c => ref11_Failed_L3 N X c.1.1 c.1.2.1 c.2.1 c.2.2.1) N)
theorem Ev181_ok (R : Type) : EnvOK Tryz.prog (Ev181 N R) := EnvOK.addLp (Ev180_ok N R) (by kernel_rfl) (lpK_ok (li := ref11_Failed_L3_I) (G := fun X c => ref11_Failed_L3 N X c.1.1 c.1.2.1 c.2.1 c.2.2.1) hmx (Ev180_ok N _) (by kernel_rfl) loopAt_sub (fun (X : CT ref11_Failed_L3_I.sh → Option (OT ref11_Failed_L3_I.outs)) (c : CT ref11_Failed_L3_I.sh) => ref11_Failed_L3_S N X c.1.1 c.1.2.1 c.2.1 c.2.2.1) N)
noncomputable def Ev182 : (R : Type) → Env R := Env.addFn (Ev181 N) 32 (fun R => uhK)
theorem Ev182_ok (R : Type) : EnvOK Tryz.prog (Ev182 N R) := EnvOK.addExt (Ev181_ok N R) ruh_ok
noncomputable def ref11_Failed_L13_I : LI := ⟨106, 0, [], ⟨[(0, .ty (.sl (.int .u8))), (2, .lit (.box 0 0)), (4, .lit (.box 1 0)), (5, .ty (.int .i64)), (6, .ty (.sl (.int .u8))), (8, .ty (.int .i64))], [.box 24 (.pair (.int .i64) (.pair .bool (.pair (.arr 16 (.int .u8)) .str))), .box 24 (.pair (.int .i64) (.pair .bool (.pair (.arr 16 (.int .u8)) .str)))]⟩, [(.exit 2, ⟨[(0, .ty (.sl (.int .u8))), (2, .lit (.box 0 0)), (4, .lit (.box 1 0)), (5, .ty (.int .i64))], [.box 24 (.pair (.int .i64) (.pair .bool (.pair (.arr 16 (.int .u8)) .str))), .box 24 (.pair (.int .i64) (.pair .bool (.pair (.arr 16 (.int .u8)) .str)))]⟩)]⟩
noncomputable def ref11_Failed_L13 (N : Nat) (X : (((List Int) × (Int × ((List Int) × (Int × Unit)))) × ((Int × (Bool × ((Arr Int 16) × (List UInt8)))) × ((Int × (Bool × ((Arr Int 16) × (List UInt8)))) × Unit))) → Option ((((List Int) × (Int × Unit)) × ((Int × (Bool × ((Arr Int 16) × (List UInt8)))) × ((Int × (Bool × ((Arr Int 16) × (List UInt8)))) × Unit))))) (b0 : List (Int)) (x5 : Int) (c6 : List (Int)) (i8 : Int) (h0 : Int × (Bool × ((Arr Int 16) × (List UInt8)))) (h1 : Int × (Bool × ((Arr Int 16) × (List UInt8)))) : Option ((((List Int) × (Int × Unit)) × ((Int × (Bool × ((Arr Int 16) × (List UInt8)))) × ((Int × (Bool × ((Arr Int 16) × (List UInt8)))) × Unit)))) :=
 bif (decide (i8 < (16 : Int))) then
  Option.bind (getI c6 i8) fun (v8 : Int) =>
  bif (decide ((0 : Int) ≤ i8 ∧ i8 < ((16 : Nat) : Int))) then
   Option.bind (h1.2.2.1.l[Int.toNat i8]?) fun (v9 : Int) =>
   (X ((b0, (x5, (c6, ((IntKind.wrap .i64 (i8 + 1)), ())))), ((h0.1, (h0.2.1, (h0.2.2.1, h0.2.2.2))), ((h1.1, (h1.2.1, ((h1.2.2.1.set (Int.toNat i8) v8), h1.2.2.2))), ()))))
  else
   none
 else
  some (((b0, (x5, ())), ((h0.1, (h0.2.1, (h0.2.2.1, h0.2.2.2))), ((h1.1, (h1.2.1, (h1.2.2.1, h1.2.2.2))), ()))))
noncomputable def ref11_Failed_L13_R (c : (((List Int) × (Int × ((List Int) × (Int × Unit)))) × ((Int × (Bool × ((Arr Int 16) × (List UInt8)))) × ((Int × (Bool × ((Arr Int 16) × (List UInt8)))) × Unit)))) : Option ((((List Int) × (Int × Unit)) × ((Int × (Bool × ((Arr Int 16) × (List UInt8)))) × ((Int × (Bool × ((Arr Int 16) × (List UInt8)))) × Unit)))) := gl (fun X c => ref11_Failed_L13 N X c.1.1 c.1.2.1 c.1.2.2.1 c.1.2.2.2.1 c.2.1 c.2.2.1) N c
theorem ref11_Failed_L13_S (X : (((List Int) × (Int × ((List Int) × (Int × Unit)))) × ((Int × (Bool × ((Arr Int 16) × (List UInt8)))) × ((Int × (Bool × ((Arr Int 16) × (List UInt8)))) × Unit))) → Option ((((List Int) × (Int × Unit)) × ((Int × (Bool × ((Arr Int 16) × (List UInt8)))) × ((Int × (Bool × ((Arr Int 16) × (List UInt8)))) × Unit))))) (b0 : List (Int)) (x5 : Int) (c6 : List (Int)) (i8 : Int) (h0 : Int × (Bool × ((Arr Int 16) × (List UInt8)))) (h1 : Int × (Bool × ((Arr Int 16) × (List UInt8)))) : (roundK Tryz.prog (Ev182 N) 400 [11] ref11_Failed_L13_I (loopAt Tryz.prog [11] 13) X ((b0, x5, c6, i8, ()), (h0, h1, ()))).run = ref11_Failed_L13 N X b0 x5 c6 i8 h0 h1 := by kernel_rfl
noncomputable def Ev183 : (R : Type) → Env R := Env.addLp (Ev182 N) [11] 0 13 (fun R => lpK Tryz.prog ref11_Failed_L13_I (fun X c => ref11_Failed_L13 N X c.1.1 c.1.2.1 c.1.2.2.1 c.1.2.2.2.1 c.2.1 c.2.2.1) N)
theorem Ev183_ok (R : Type) : EnvOK Tryz.prog (Ev183 N R) := EnvOK.addLp (Ev182_ok N R) (by kernel_rfl) (lpK_ok (li := ref11_Failed_L13_I) (G := fun X c => ref11_Failed_L13 N X c.1.1 c.1.2.1 c.1.2.2.1 c.1.2.2.2.1 c.2.1 c.2.2.1) hmx (Ev182_ok N _) (by kernel_rfl) loopAt_sub (fun (X : CT ref11_Failed_L13_I.sh → Option (OT ref11_Failed_L13_I.outs)) (c : CT ref11_Failed_L13_I.sh) => ref11_Failed_L13_S N X c.1.1 c.1.2.1 c.1.2.2.1 c.1.2.2.2.1 c.2.1 c.2.2.1) N)
noncomputable def ref11_Failed (b0 : List (Int)) : Option ((Int × (Bool × ((Arr Int 16) × (List UInt8)))) × Int) :=
 Option.bind (ref11_Failed_L3_R N ((b0, ((2 : Int), ())), (((0 : Int), (false, ((@Arr.cons Int 15 0 (@Arr.cons Int 14 0 (@Arr.cons Int 13 0 (@Arr.cons Int 12 0 (@Arr.cons Int 11 0 (@Arr.cons Int 10 0 (@Arr.cons Int 9 0 (@Arr.cons Int 8 0 (@Arr.cons Int 7 0 (@Arr.cons Int 6 0 (@Arr.cons Int 5 0 (@Arr.cons Int 4 0 (@Arr.cons Int 3 0 (@Arr.cons Int 2 0 (@Arr.cons Int 1 0 (@Arr.cons Int 0 0 (@Arr.nil Int))))))))))))))))), (Array.toList (List.toArray ([] : List UInt8)))))), (((0 : Int), (false, ((@Arr.cons Int 15 0 (@Arr.cons Int 14 0 (@Arr.cons Int 13 0 (@Arr.cons Int 12 0 (@Arr.cons Int 11 0 (@Arr.cons Int 10 0 (@Arr.cons Int 9 0 (@Arr.cons Int 8 0 (@Arr.cons Int 7 0 (@Arr.cons Int 6 0 (@Arr.cons Int 5 0 (@Arr.cons Int 4 0 (@Arr.cons Int 3 0 (@Arr.cons Int 2 0 (@Arr.cons Int 1 0 (@Arr.cons Int 0 0 (@Arr.nil Int))))))))))))))))), (Array.toList (List.toArray ([] : List UInt8)))))), ())))) fun v2 =>
 bif (decide ((((List.length v2.1.1) : Nat) : Int) < (IntKind.wrap .i64 ((IntKind.wrap .i64 ((IntKind.wrap .i64 (v2.1.2.1 + 7)) + 32)) + 7)))) then
  some ((((0 : Int), (false, ((@Arr.cons Int 15 0 (@Arr.cons Int 14 0 (@Arr.cons Int 13 0 (@Arr.cons Int 12 0 (@Arr.cons Int 11 0 (@Arr.cons Int 10 0 (@Arr.cons Int 9 0 (@Arr.cons Int 8 0 (@Arr.cons Int 7 0 (@Arr.cons Int 6 0 (@Arr.cons Int 5 0 (@Arr.cons Int 4 0 (@Arr.cons Int 3 0 (@Arr.cons Int 2 0 (@Arr.cons Int 1 0 (@Arr.cons Int 0 0 (@Arr.nil Int))))))))))))))))), (Array.toList (List.toArray ([] : List UInt8)))))), (3 : Int)))
 else
  Option.bind (getI v2.1.1 (IntKind.wrap .i64 (v2.1.2.1 + 3))) fun (v3 : Int) =>
  Option.bind (subI v2.1.1 (IntKind.wrap .i64 (v2.1.2.1 + 7)) (IntKind.wrap .i64 (v2.1.2.1 + 39))) fun (v4 : (List Int)) =>
  Option.bind (@toBy v4) fun (v5 : (List UInt8)) =>
  bif (decide ((List.length v5) ≤ (1000000 : Nat))) then
   bif (!(decide ((@unhexE v5) = (0 : Int)))) then
    some ((((0 : Int), (false, ((@Arr.cons Int 15 0 (@Arr.cons Int 14 0 (@Arr.cons Int 13 0 (@Arr.cons Int 12 0 (@Arr.cons Int 11 0 (@Arr.cons Int 10 0 (@Arr.cons Int 9 0 (@Arr.cons Int 8 0 (@Arr.cons Int 7 0 (@Arr.cons Int 6 0 (@Arr.cons Int 5 0 (@Arr.cons Int 4 0 (@Arr.cons Int 3 0 (@Arr.cons Int 2 0 (@Arr.cons Int 1 0 (@Arr.cons Int 0 0 (@Arr.nil Int))))))))))))))))), (Array.toList (List.toArray ([] : List UInt8)))))), (3 : Int)))
   else
    Option.bind (ref11_Failed_L13_R N ((v2.1.1, (v2.1.2.1, ((@unhexR v5), ((0 : Int), ())))), ((v2.2.1.1, (v2.2.1.2.1, (v2.2.1.2.2.1, v2.2.1.2.2.2))), ((v2.2.2.1.1, ((decide (v3 = (49 : Int))), (v2.2.2.1.2.2.1, v2.2.2.1.2.2.2))), ())))) fun v6 =>
    Option.bind (dropI v6.1.1 (IntKind.wrap .i64 (v6.1.2.1 + 46))) fun (v7 : (List Int)) =>
    Option.bind (@toBy v7) fun (v8 : (List UInt8)) =>
    Option.bind (ref11_Fail N (v6.2.2.1.1, (v6.2.2.1.2.1, (v6.2.2.1.2.2.1, v8)))) fun v9 =>
    bif (!(decide (v9.2 = (0 : Int)))) then
     some ((((0 : Int), (false, ((@Arr.cons Int 15 0 (@Arr.cons Int 14 0 (@Arr.cons Int 13 0 (@Arr.cons Int 12 0 (@Arr.cons Int 11 0 (@Arr.cons Int 10 0 (@Arr.cons Int 9 0 (@Arr.cons Int 8 0 (@Arr.cons Int 7 0 (@Arr.cons Int 6 0 (@Arr.cons Int 5 0 (@Arr.cons Int 4 0 (@Arr.cons Int 3 0 (@Arr.cons Int 2 0 (@Arr.cons Int 1 0 (@Arr.cons Int 0 0 (@Arr.nil Int))))))))))))))))), (Array.toList (List.toArray ([] : List UInt8)))))), (3 : Int)))
    else
     Option.bind (ref01_Same N v9.1 v6.1.1) fun v10 =>
     Option.bind (some ((cond false true (!v10)))) fun (v11 : Bool) =>
     bif v11 then
      some ((((0 : Int), (false, ((@Arr.cons Int 15 0 (@Arr.cons Int 14 0 (@Arr.cons Int 13 0 (@Arr.cons Int 12 0 (@Arr.cons Int 11 0 (@Arr.cons Int 10 0 (@Arr.cons Int 9 0 (@Arr.cons Int 8 0 (@Arr.cons Int 7 0 (@Arr.cons Int 6 0 (@Arr.cons Int 5 0 (@Arr.cons Int 4 0 (@Arr.cons Int 3 0 (@Arr.cons Int 2 0 (@Arr.cons Int 1 0 (@Arr.cons Int 0 0 (@Arr.nil Int))))))))))))))))), (Array.toList (List.toArray ([] : List UInt8)))))), (3 : Int)))
     else
      some (((v6.2.2.1.1, (v6.2.2.1.2.1, (v6.2.2.1.2.2.1, v8))), (0 : Int)))
  else
   none
theorem ref11_Failed_S (b0 : List (Int)) : (runK Tryz.prog (Ev183 N) 400 11 [(.sl (.int .u8))] [(.pair (.int .i64) (.pair .bool (.pair (.arr 16 (.int .u8)) .str))), (.int .i64)] (b0, ())).run = ref11_Failed N b0 := by kernel_rfl
noncomputable def Ev184 : (R : Type) → Env R := Env.addFn (Ev183 N) 11 (fun R => fnK [(.sl (.int .u8))] [(.pair (.int .i64) (.pair .bool (.pair (.arr 16 (.int .u8)) .str))), (.int .i64)] (fun c => ref11_Failed N c.1))
theorem Ev184_ok (R : Type) : EnvOK Tryz.prog (Ev184 N R) := EnvOK.addFn hmx (Ev183_ok N R) (Ev183_ok N _) (by kernel_rfl) (fun c => ref11_Failed_S N c.1)
noncomputable def law11_alive : Option Bool :=
 Option.bind (chap2_Prove N (@Arr.cons Int 15 33 (@Arr.cons Int 14 64 (@Arr.cons Int 13 35 (@Arr.cons Int 12 36 (@Arr.cons Int 11 37 (@Arr.cons Int 10 94 (@Arr.cons Int 9 38 (@Arr.cons Int 8 42 (@Arr.cons Int 7 40 (@Arr.cons Int 6 41 (@Arr.cons Int 5 95 (@Arr.cons Int 4 43 (@Arr.cons Int 3 58 (@Arr.cons Int 2 51 (@Arr.cons Int 1 124 (@Arr.cons Int 0 126 (@Arr.nil Int))))))))))))))))) (@Arr.cons Int 15 91 (@Arr.cons Int 14 93 (@Arr.cons Int 13 124 (@Arr.cons Int 12 125 (@Arr.cons Int 11 123 (@Arr.cons Int 10 63 (@Arr.cons Int 9 47 (@Arr.cons Int 8 62 (@Arr.cons Int 7 60 (@Arr.cons Int 6 44 (@Arr.cons Int 5 96 (@Arr.cons Int 4 33 (@Arr.cons Int 3 50 (@Arr.cons Int 2 38 (@Arr.cons Int 1 38 (@Arr.cons Int 0 40 (@Arr.nil Int))))))))))))))))) (Array.toList (List.toArray ([85, 115, 101, 114] : List UInt8))) (Array.toList (List.toArray ([99, 108, 105, 101, 110, 116, 80, 97, 115, 115] : List UInt8)))) fun v1 =>
 Option.bind (chap2_Value N (@Arr.cons Int 15 33 (@Arr.cons Int 14 64 (@Arr.cons Int 13 35 (@Arr.cons Int 12 36 (@Arr.cons Int 11 37 (@Arr.cons Int 10 94 (@Arr.cons Int 9 38 (@Arr.cons Int 8 42 (@Arr.cons Int 7 40 (@Arr.cons Int 6 41 (@Arr.cons Int 5 95 (@Arr.cons Int 4 43 (@Arr.cons Int 3 58 (@Arr.cons Int 2 51 (@Arr.cons Int 1 124 (@Arr.cons Int 0 126 (@Arr.nil Int))))))))))))))))) v1.1) fun v2 =>
 Option.bind (chap2_Parse N v2) fun v3 =>
 Option.bind (v1.1.l[Int.toNat (0 : Int)]?) fun (v4 : Int) =>
 Option.bind (bif (decide (v4 = (130 : Int))) then
   Option.bind (v1.1.l[Int.toNat (1 : Int)]?) fun (v5 : Int) =>
   some ((cond true (decide (v5 = (48 : Int))) false))
  else
   some (false)) fun (v5 : Bool) =>
 Option.bind (bif v5 then
   Option.bind (v1.1.l[Int.toNat (2 : Int)]?) fun (v6 : Int) =>
   some ((cond true (decide (v6 = (158 : Int))) false))
  else
   some (false)) fun (v6 : Bool) =>
 Option.bind (bif v6 then
   some ((cond true (decide (v1.2 = (0 : Int))) false))
  else
   some (false)) fun (v7 : Bool) =>
 Option.bind (bif v7 then
   bif ((@wfB (@Td.arr (16 : Nat) (@Td.int @IntKind.u8)) v3.1) && (@wfB (@Td.arr (16 : Nat) (@Td.int @IntKind.u8)) (@Arr.cons Int 15 33 (@Arr.cons Int 14 64 (@Arr.cons Int 13 35 (@Arr.cons Int 12 36 (@Arr.cons Int 11 37 (@Arr.cons Int 10 94 (@Arr.cons Int 9 38 (@Arr.cons Int 8 42 (@Arr.cons Int 7 40 (@Arr.cons Int 6 41 (@Arr.cons Int 5 95 (@Arr.cons Int 4 43 (@Arr.cons Int 3 58 (@Arr.cons Int 2 51 (@Arr.cons Int 1 124 (@Arr.cons Int 0 126 (@Arr.nil Int))))))))))))))))))) then
    some ((cond true (@Decidable.decide (@Eq (Arr Int 16) v3.1 (@Arr.cons Int 15 33 (@Arr.cons Int 14 64 (@Arr.cons Int 13 35 (@Arr.cons Int 12 36 (@Arr.cons Int 11 37 (@Arr.cons Int 10 94 (@Arr.cons Int 9 38 (@Arr.cons Int 8 42 (@Arr.cons Int 7 40 (@Arr.cons Int 6 41 (@Arr.cons Int 5 95 (@Arr.cons Int 4 43 (@Arr.cons Int 3 58 (@Arr.cons Int 2 51 (@Arr.cons Int 1 124 (@Arr.cons Int 0 126 (@Arr.nil Int)))))))))))))))))) (@decT (@Td.arr (16 : Nat) (@Td.int @IntKind.u8)) v3.1 (@Arr.cons Int 15 33 (@Arr.cons Int 14 64 (@Arr.cons Int 13 35 (@Arr.cons Int 12 36 (@Arr.cons Int 11 37 (@Arr.cons Int 10 94 (@Arr.cons Int 9 38 (@Arr.cons Int 8 42 (@Arr.cons Int 7 40 (@Arr.cons Int 6 41 (@Arr.cons Int 5 95 (@Arr.cons Int 4 43 (@Arr.cons Int 3 58 (@Arr.cons Int 2 51 (@Arr.cons Int 1 124 (@Arr.cons Int 0 126 (@Arr.nil Int))))))))))))))))))) false))
   else
    none
  else
   some (false)) fun (v8 : Bool) =>
 Option.bind (bif v8 then
   bif ((@wfB (@Td.arr (24 : Nat) (@Td.int @IntKind.u8)) v3.2.1) && (@wfB (@Td.arr (24 : Nat) (@Td.int @IntKind.u8)) v1.1)) then
    some ((cond true (@Decidable.decide (@Eq (Arr Int 24) v3.2.1 v1.1) (@decT (@Td.arr (24 : Nat) (@Td.int @IntKind.u8)) v3.2.1 v1.1)) false))
   else
    none
  else
   some (false)) fun (v9 : Bool) =>
 Option.bind (bif v9 then
   some ((cond true (decide (v3.2.2 = (0 : Int))) false))
  else
   some (false)) fun (v10 : Bool) =>
 bif v10 then
  Option.bind (chap2_Answer N (@Arr.cons Int 15 0 (@Arr.cons Int 14 0 (@Arr.cons Int 13 0 (@Arr.cons Int 12 0 (@Arr.cons Int 11 0 (@Arr.cons Int 10 0 (@Arr.cons Int 9 0 (@Arr.cons Int 8 0 (@Arr.cons Int 7 0 (@Arr.cons Int 6 0 (@Arr.cons Int 5 0 (@Arr.cons Int 4 0 (@Arr.cons Int 3 0 (@Arr.cons Int 2 0 (@Arr.cons Int 1 0 (@Arr.cons Int 0 0 (@Arr.nil Int))))))))))))))))) v1.1 (@Arr.cons Int 7 0 (@Arr.cons Int 6 0 (@Arr.cons Int 5 0 (@Arr.cons Int 4 0 (@Arr.cons Int 3 0 (@Arr.cons Int 2 0 (@Arr.cons Int 1 0 (@Arr.cons Int 0 0 (@Arr.nil Int)))))))))) fun v11 =>
  Option.bind (some ((cond true (decide ((((List.length v11) : Nat) : Int) = (42 : Int))) false))) fun (v12 : Bool) =>
  some (v12)
 else
  some (false)
theorem law11_alive_S : (runK Tryz.prog (Ev184 N) 400 5 [] [.bool] ()).run = law11_alive N  := by kernel_rfl
noncomputable def Ev185 : (R : Type) → Env R := Env.addFn (Ev184 N) 5 (fun R => fnK [] [.bool] (fun c => law11_alive N ))
theorem Ev185_ok (R : Type) : EnvOK Tryz.prog (Ev185 N R) := EnvOK.addFn hmx (Ev184_ok N R) (Ev184_ok N _) (by kernel_rfl) (fun c => law11_alive_S N )
noncomputable def Ev186 : (R : Type) → Env R := Env.addBx (Ev185 N) [(3, 0)]
theorem Ev186_ok (R : Type) : EnvOK Tryz.prog (Ev186 N R) := EnvOK.addBx (Ev185_ok N R) [(3, 0)]
noncomputable def law11_Chap2Tells (f0 : Int × (Bool × ((Arr Int 16) × (List UInt8)))) (text1 : List UInt8) (b2 : List (Int)) : Option Bool :=
 bif (decide ((300 : Int) < (((List.length f0.2.2.2) : Nat) : Int))) then
  Option.bind (@law11_alive N) fun (v4 : Bool) =>
  some (v4)
 else
  Option.bind (some ((cond false true (decide ((300 : Int) < (((List.length text1) : Nat) : Int)))))) fun (v4 : Bool) =>
  bif v4 then
   Option.bind (@law11_alive N) fun (v5 : Bool) =>
   some (v5)
  else
   Option.bind (some ((cond false true (decide ((500 : Int) < (((List.length b2) : Nat) : Int)))))) fun (v5 : Bool) =>
   bif v5 then
    Option.bind (@law11_alive N) fun (v6 : Bool) =>
    some (v6)
   else
    Option.bind (chap2_Told N b2) fun v6 =>
    Option.bind (ref11_Told N b2) fun v7 =>
    Option.bind (chap2_Fail N (f0.1, (f0.2.1, (f0.2.2.1, f0.2.2.2)))) fun v8 =>
    Option.bind (ref11_Fail N (f0.1, (f0.2.1, (f0.2.2.1, f0.2.2.2)))) fun v9 =>
    Option.bind (chap2_Failed N b2) fun v10 =>
    Option.bind (ref11_Failed N b2) fun v11 =>
    Option.bind (chap2_Success N f0.2.2.2 text1) fun v12 =>
    Option.bind (ref11_Success N f0.2.2.2 text1) fun v13 =>
    Option.bind (ref01_Same N v12 v13) fun v14 =>
    bif v14 then
     bif (cond true (decide (v6.1 = v7.1)) false) then
      bif (cond true (decide (v6.2 = v7.2)) false) then
       Option.bind (ref01_Same N v8.1 v9.1) fun v15 =>
       bif (cond true v15 false) then
        bif (cond true (decide (v8.2 = v9.2)) false) then
         bif ((@wfB (@Td.pair (@Td.int @IntKind.i64) (@Td.pair @Td.bool (@Td.pair (@Td.arr (16 : Nat) (@Td.int @IntKind.u8)) @Td.str))) (v10.1.1, (v10.1.2.1, (v10.1.2.2.1, v10.1.2.2.2)))) && (@wfB (@Td.pair (@Td.int @IntKind.i64) (@Td.pair @Td.bool (@Td.pair (@Td.arr (16 : Nat) (@Td.int @IntKind.u8)) @Td.str))) (v11.1.1, (v11.1.2.1, (v11.1.2.2.1, v11.1.2.2.2))))) then
          bif (cond true (@Decidable.decide (@Eq (Int × (Bool × ((Arr Int 16) × (List UInt8)))) (v10.1.1, (v10.1.2.1, (v10.1.2.2.1, v10.1.2.2.2))) (v11.1.1, (v11.1.2.1, (v11.1.2.2.1, v11.1.2.2.2)))) (@decT (@Td.pair (@Td.int @IntKind.i64) (@Td.pair @Td.bool (@Td.pair (@Td.arr (16 : Nat) (@Td.int @IntKind.u8)) @Td.str))) (v10.1.1, (v10.1.2.1, (v10.1.2.2.1, v10.1.2.2.2))) (v11.1.1, (v11.1.2.1, (v11.1.2.2.1, v11.1.2.2.2))))) false) then
           bif (cond true (decide (v10.2 = v11.2)) false) then
            Option.bind (@law11_alive N) fun (v16 : Bool) =>
            some ((cond true v16 false))
           else
            some (false)
          else
           some (false)
         else
          none
        else
         some (false)
       else
        some (false)
      else
       some (false)
     else
      some (false)
    else
     some (false)
theorem law11_Chap2Tells_S (f0 : Int × (Bool × ((Arr Int 16) × (List UInt8)))) (text1 : List UInt8) (b2 : List (Int)) : (runK Tryz.prog (Ev186 N) 400 3 [(.pair (.int .i64) (.pair .bool (.pair (.arr 16 (.int .u8)) .str))), .str, (.sl (.int .u8))] [.bool] (f0, text1, b2, ())).run = law11_Chap2Tells N f0 text1 b2 := by kernel_rfl
noncomputable def Ev187 : (R : Type) → Env R := Env.addFn (Ev186 N) 3 (fun R => fnK [(.pair (.int .i64) (.pair .bool (.pair (.arr 16 (.int .u8)) .str))), .str, (.sl (.int .u8))] [.bool] (fun c => law11_Chap2Tells N c.1 c.2.1 c.2.2.1))
theorem Ev187_ok (R : Type) : EnvOK Tryz.prog (Ev187 N R) := EnvOK.addFn hmx (Ev186_ok N R) (Ev186_ok N _) (by kernel_rfl) (fun c => law11_Chap2Tells_S N c.1 c.2.1 c.2.2.1)
noncomputable def Ev188 : (R : Type) → Env R := Env.addBx (Ev187 N) [(4, 0)]
theorem Ev188_ok (R : Type) : EnvOK Tryz.prog (Ev188 N R) := EnvOK.addBx (Ev187_ok N R) [(4, 0)]
noncomputable def law11_Chap2Back (peer0 : Arr Int 16) (response1 : Arr Int 24) (f2 : Int × (Bool × ((Arr Int 16) × (List UInt8)))) : Option Bool :=
 bif (decide ((300 : Int) < (((List.length f2.2.2.2) : Nat) : Int))) then
  Option.bind (@law11_alive N) fun (v4 : Bool) =>
  some (v4)
 else
  Option.bind (chap2_Value N peer0 response1) fun v4 =>
  Option.bind (chap2_Parse N v4) fun v5 =>
  Option.bind (chap2_Answer N peer0 response1 (@Arr.cons Int 7 0 (@Arr.cons Int 6 0 (@Arr.cons Int 5 0 (@Arr.cons Int 4 0 (@Arr.cons Int 3 0 (@Arr.cons Int 2 0 (@Arr.cons Int 1 0 (@Arr.cons Int 0 0 (@Arr.nil Int)))))))))) fun v6 =>
  Option.bind (chap2_Success N v6 f2.2.2.2) fun v7 =>
  Option.bind (chap2_Told N v7) fun v8 =>
  Option.bind (chap2_Fail N (f2.1, (f2.2.1, (f2.2.2.1, f2.2.2.2)))) fun v9 =>
  bif (decide (v9.2 = (0 : Int))) then
   Option.bind (chap2_Failed N v9.1) fun v10 =>
   bif ((@wfB (@Td.pair (@Td.int @IntKind.i64) (@Td.pair @Td.bool (@Td.pair (@Td.arr (16 : Nat) (@Td.int @IntKind.u8)) @Td.str))) (v10.1.1, (v10.1.2.1, (v10.1.2.2.1, v10.1.2.2.2)))) && (@wfB (@Td.pair (@Td.int @IntKind.i64) (@Td.pair @Td.bool (@Td.pair (@Td.arr (16 : Nat) (@Td.int @IntKind.u8)) @Td.str))) (f2.1, (f2.2.1, (f2.2.2.1, f2.2.2.2))))) then
    Option.bind (bif (!(@Decidable.decide (@Eq (Int × (Bool × ((Arr Int 16) × (List UInt8)))) (v10.1.1, (v10.1.2.1, (v10.1.2.2.1, v10.1.2.2.2))) (f2.1, (f2.2.1, (f2.2.2.1, f2.2.2.2)))) (@decT (@Td.pair (@Td.int @IntKind.i64) (@Td.pair @Td.bool (@Td.pair (@Td.arr (16 : Nat) (@Td.int @IntKind.u8)) @Td.str))) (v10.1.1, (v10.1.2.1, (v10.1.2.2.1, v10.1.2.2.2))) (f2.1, (f2.2.1, (f2.2.2.1, f2.2.2.2)))))) then
      some (true)
     else
      some ((cond false true (!(decide (v10.2 = (0 : Int))))))) fun (v11 : Bool) =>
    bif v11 then
     some (false)
    else
     bif ((@wfB (@Td.arr (16 : Nat) (@Td.int @IntKind.u8)) v5.1) && (@wfB (@Td.arr (16 : Nat) (@Td.int @IntKind.u8)) peer0)) then
      Option.bind (bif (@Decidable.decide (@Eq (Arr Int 16) v5.1 peer0) (@decT (@Td.arr (16 : Nat) (@Td.int @IntKind.u8)) v5.1 peer0)) then
        bif ((@wfB (@Td.arr (24 : Nat) (@Td.int @IntKind.u8)) v5.2.1) && (@wfB (@Td.arr (24 : Nat) (@Td.int @IntKind.u8)) response1)) then
         some ((cond true (@Decidable.decide (@Eq (Arr Int 24) v5.2.1 response1) (@decT (@Td.arr (24 : Nat) (@Td.int @IntKind.u8)) v5.2.1 response1)) false))
        else
         none
       else
        some (false)) fun (v12 : Bool) =>
      Option.bind (bif v12 then
        some ((cond true (decide (v5.2.2 = (0 : Int))) false))
       else
        some (false)) fun (v13 : Bool) =>
      Option.bind (bif v13 then
        some ((cond true (decide (v8.1 = v6)) false))
       else
        some (false)) fun (v14 : Bool) =>
      Option.bind (bif v14 then
        some ((cond true (decide (v8.2 = (0 : Int))) false))
       else
        some (false)) fun (v15 : Bool) =>
      bif v15 then
       Option.bind (@law11_alive N) fun (v16 : Bool) =>
       some ((cond true v16 false))
      else
       some (false)
     else
      none
   else
    none
  else
   bif ((@wfB (@Td.arr (16 : Nat) (@Td.int @IntKind.u8)) v5.1) && (@wfB (@Td.arr (16 : Nat) (@Td.int @IntKind.u8)) peer0)) then
    Option.bind (bif (@Decidable.decide (@Eq (Arr Int 16) v5.1 peer0) (@decT (@Td.arr (16 : Nat) (@Td.int @IntKind.u8)) v5.1 peer0)) then
      bif ((@wfB (@Td.arr (24 : Nat) (@Td.int @IntKind.u8)) v5.2.1) && (@wfB (@Td.arr (24 : Nat) (@Td.int @IntKind.u8)) response1)) then
       some ((cond true (@Decidable.decide (@Eq (Arr Int 24) v5.2.1 response1) (@decT (@Td.arr (24 : Nat) (@Td.int @IntKind.u8)) v5.2.1 response1)) false))
      else
       none
     else
      some (false)) fun (v10 : Bool) =>
    Option.bind (bif v10 then
      some ((cond true (decide (v5.2.2 = (0 : Int))) false))
     else
      some (false)) fun (v11 : Bool) =>
    Option.bind (bif v11 then
      some ((cond true (decide (v8.1 = v6)) false))
     else
      some (false)) fun (v12 : Bool) =>
    Option.bind (bif v12 then
      some ((cond true (decide (v8.2 = (0 : Int))) false))
     else
      some (false)) fun (v13 : Bool) =>
    bif v13 then
     Option.bind (@law11_alive N) fun (v14 : Bool) =>
     some ((cond true v14 false))
    else
     some (false)
   else
    none
theorem law11_Chap2Back_S (peer0 : Arr Int 16) (response1 : Arr Int 24) (f2 : Int × (Bool × ((Arr Int 16) × (List UInt8)))) : (runK Tryz.prog (Ev188 N) 400 4 [(.arr 16 (.int .u8)), (.arr 24 (.int .u8)), (.pair (.int .i64) (.pair .bool (.pair (.arr 16 (.int .u8)) .str)))] [.bool] (peer0, response1, f2, ())).run = law11_Chap2Back N peer0 response1 f2 := by kernel_rfl
theorem law11_Chap2Back_C (peer0 : Arr Int 16) (response1 : Arr Int 24) (f2 : Int × (Bool × ((Arr Int 16) × (List UInt8)))) (y : Bool) (h : law11_Chap2Back N peer0 response1 f2 = some y) : CallsK Tryz.prog 4 (valA [(.arr 16 (.int .u8)), (.arr 24 (.int .u8)), (.pair (.int .i64) (.pair .bool (.pair (.arr 16 (.int .u8)) .str)))] (peer0, response1, f2, ())) (tupV (valR [.bool] y)) := runK_ok hmx (Ev188_ok N _) (okFn_ok (by kernel_rfl)) (by rw [law11_Chap2Back_S]; exact h)
end
end Go.Proofs.YtphkpiocblmpeaaGreatDoor
namespace Go.Proofs.YtphkpiocblmpeaaGreatDoor
set_option maxRecDepth 100000
open Go.RowKit
set_option linter.unusedVariables false
set_option linter.unusedSimpArgs false
set_option maxRecDepth 100000
theorem q8_of (a : Nat) (ha : a < 256) : (BitVec.ofInt 8 (a : Int)).toNat = a := by
 rw [BitVec.ofInt_natCast, BitVec.toNat_ofNat]; exact Nat.mod_eq_of_lt (by omega)
theorem xor8 (a b : Nat) (ha : a < 256) (hb : b < 256) : bits .xor .u8 (a : Int) (b : Int) = ((a ^^^ b : Nat) : Int) := by
 have hx : a ^^^ b < 2 ^ 8 := Nat.xor_lt_two_pow (by omega) (by omega)
 show IntKind.u8.wrap ((BitVec.ofInt 8 (a : Int) ^^^ BitVec.ofInt 8 (b : Int)).toNat : Int) = _
 rw [BitVec.toNat_xor, q8_of a ha, q8_of b hb, IntKind.wrap_u8]
 omega
theorem xor64 (a b : Nat) (ha : a < 2 ^ 62) (hb : b < 2 ^ 62) : bits .xor .i64 (a : Int) (b : Int) = ((a ^^^ b : Nat) : Int) := by
 have hx : a ^^^ b < 2 ^ 62 := Nat.xor_lt_two_pow ha hb
 show IntKind.i64.wrap ((BitVec.ofInt 64 (a : Int) ^^^ BitVec.ofInt 64 (b : Int)).toNat : Int) = _
 rw [BitVec.toNat_xor, q64_of a (by omega), q64_of b (by omega), wrap64 (by omega) (by omega)]
theorem or64 (a b : Nat) (ha : a < 2 ^ 62) (hb : b < 2 ^ 62) : bits .or .i64 (a : Int) (b : Int) = ((a ||| b : Nat) : Int) := by
 have hx : a ||| b < 2 ^ 62 := Nat.or_lt_two_pow ha hb
 show IntKind.i64.wrap ((BitVec.ofInt 64 (a : Int) ||| BitVec.ofInt 64 (b : Int)).toNat : Int) = _
 rw [BitVec.toNat_or, q64_of a (by omega), q64_of b (by omega), wrap64 (by omega) (by omega)]
theorem xor_zero (a b : Nat) : a ^^^ b = 0 ↔ a = b := by
 constructor
 ·intro h
  have h2 : a ^^^ b ^^^ b = b := by rw [h, Nat.zero_xor]
  rw [Nat.xor_assoc, Nat.xor_self, Nat.xor_zero] at h2
  exact h2
 ·rintro rfl; exact Nat.xor_self a
theorem or_zero' (a b : Nat) : a ||| b = 0 ↔ a = 0 ∧ b = 0 := by
 constructor
 ·intro h
  constructor
  ·apply Nat.eq_of_testBit_eq; intro i
   have := congrArg (Nat.testBit · i) h
   simp at this ⊢; exact this.1
  ·apply Nat.eq_of_testBit_eq; intro i
   have := congrArg (Nat.testBit · i) h
   simp at this ⊢; exact this.2
 ·rintro ⟨rfl, rfl⟩; rfl
def dif (a b : List Int) : Nat → Nat
 | 0 => a.length ^^^ b.length
 | i + 1 => dif a b i ||| ((a.getD i 0).toNat ^^^ (b.getD i 0).toNat)
theorem b8 {a : List Int} (h : AllB a) (i : Nat) : 0 ≤ a.getD i 0 ∧ a.getD i 0 < 256 := by
 rw [List.getD_eq_getElem?_getD]
 rcases Nat.lt_or_ge i a.length with hi | hi
 ·rw [List.getElem?_eq_getElem hi]; exact h.get i hi
 ·rw [List.getElem?_eq_none hi]; exact ⟨Int.le_refl _, by decide⟩
theorem dif_lt {a b : List Int} (ha : AllB a) (hb : AllB b) (la : a.length < 100000) (lb : b.length < 100000) : ∀ i, dif a b i < 2 ^ 62
 | 0 => Nat.xor_lt_two_pow (by omega) (by omega)
 | i + 1 => by
  have h1 := b8 ha i
  have h2 := b8 hb i
  exact Nat.or_lt_two_pow (dif_lt ha hb la lb i) (Nat.xor_lt_two_pow (by omega) (by omega))
theorem dif_zero (a b : List Int) : ∀ i, dif a b i = 0 ↔ a.length = b.length ∧ ∀ j, j < i → (a.getD j 0).toNat = (b.getD j 0).toNat
 | 0 => by
  unfold dif
  rw [xor_zero]
  exact ⟨fun h => ⟨h, fun j hj => by omega⟩, fun h => h.1⟩
 | i + 1 => by
  unfold dif
  rw [or_zero', dif_zero a b i, xor_zero]
  constructor
  ·rintro ⟨⟨h1, h2⟩, h3⟩
   refine ⟨h1, fun j hj => ?_⟩
   rcases Nat.lt_or_ge j i with h | h
   ·exact h2 j h
   ·have : j = i := by omega
    subst this; exact h3
  ·rintro ⟨h1, h2⟩
   exact ⟨⟨h1, fun j hj => h2 j (by omega)⟩, h2 i (by omega)⟩
theorem osame (a b : List Int) (ha : AllB a) (hb : AllB b) (la : a.length < 100000) (lb : b.length < 100000) {N : Nat} (hN : 200000 ≤ N) : octs_Same N a b = some (decide (a = b)) := by
 obtain ⟨m, hm⟩ : ∃ m, m = min a.length b.length := ⟨_, rfl⟩
 have hmi : minI (a.length : Int) (b.length : Int) = (m : Int) := by unfold minI; split <;> omega
 have hloop : octs_Same_L3_R N ((a, (b, (((dif a b 0 : Nat) : Int), ((m : Int), ((0 : Int), ()))))), ()) = some ((((dif a b m : Nat) : Int), ()), ()) := by
  refine gl_run (G := fun X c => octs_Same_L3 N X c.1.1 c.1.2.1 c.1.2.2.1 c.1.2.2.2.1 c.1.2.2.2.2.1) (fun i => ((a, (b, (((dif a b i : Nat) : Int), ((m : Int), (((i : Nat) : Int), ()))))), ())) m _ (fun X i hi => ?_) (fun X => ?_) N 0 (Nat.zero_le _) (by omega)
  ·have c1 : ((i : Int) < (m : Int)) := by omega
   have hia : i < a.length := by omega
   have hib : i < b.length := by omega
   have h1 := b8 ha i
   have h2 := b8 hb i
   have e1 : a[i] = ((a.getD i 0).toNat : Int) := by
    rw [Int.toNat_of_nonneg h1.1, List.getD_eq_getElem?_getD, List.getElem?_eq_getElem hia]; rfl
   have e2 : b[i] = ((b.getD i 0).toNat : Int) := by
    rw [Int.toNat_of_nonneg h2.1, List.getD_eq_getElem?_getD, List.getElem?_eq_getElem hib]; rfl
   have hx : (a.getD i 0).toNat ^^^ (b.getD i 0).toNat < 2 ^ 8 := Nat.xor_lt_two_pow (by omega) (by omega)
   have e3 : IntKind.wrap .i64 ((i : Int) + 1) = ((i + 1 : Nat) : Int) := by rw [wrap64 (by omega) (by omega)]; omega
   simp only [octs_Same_L3, c1, decide_true, cond_true, getI_lt a i hia, getI_lt b i hib, Option.bind_some, e3]
   rw [e1, e2, xor8 _ _ (by omega) (by omega), wrap64 (by omega) (by omega), or64 _ _ (dif_lt ha hb la lb i) (by omega)]
   rfl
  ·have c1 : ¬ ((m : Int) < (m : Int)) := by omega
   simp only [octs_Same_L3, c1, decide_false, cond_false]
 have hx : bits .xor .i64 (a.length : Int) (b.length : Int) = ((dif a b 0 : Nat) : Int) := xor64 _ _ (by omega) (by omega)
 unfold octs_Same
 rw [hx, hmi]
 refine (congrArg (fun o => Option.bind o _) hloop).trans ?_
 simp only [Option.bind_some, Option.some.injEq]
 have key : ((dif a b m : Nat) : Int) = 0 ↔ a = b := by
  rw [show (((dif a b m : Nat) : Int) = 0 ↔ dif a b m = 0) from by omega, dif_zero]
  constructor
  ·rintro ⟨h1, h2⟩
   apply List.ext_getElem h1
   intro j hj1 hj2
   have h3 := h2 j (by omega)
   have q1 := b8 ha j
   have q2 := b8 hb j
   rw [List.getD_eq_getElem?_getD, List.getElem?_eq_getElem hj1, Option.getD_some] at h3 q1
   rw [List.getD_eq_getElem?_getD, List.getElem?_eq_getElem hj2, Option.getD_some] at h3 q2
   omega
  ·rintro rfl; exact ⟨rfl, fun _ _ => rfl⟩
 exact decide_eq_decide.2 key
theorem Arr.eq {α : Type} {n : Nat} {a b : Arr α n} (h : a.l = b.l) : a = b := by
 cases a; cases b; simp only at h; subst h; rfl
theorem wfB_b {n : Nat} (a : Arr Int n) (h : AllB a.l) : wfB (.arr n (.int .u8)) a = true := List.all_eq_true.2 fun x hx => by
 have h1 := h x hx
 show (Lit.int .u8 x).wf = true
 simp only [Lit.wf, Bool.and_eq_true, decide_eq_true_eq, IntKind.min, IntKind.max, IntKind.signed, IntKind.bits]
 simp
 omega
theorem room_small {n : Nat} (h : n ≤ 100000) : roomB n 1 = true := roomB_of (by have := big_len; omega) (by omega)
theorem toArrN (n : Nat) (l : List Int) (h : l.length = n) : toArr n l = some ⟨l, h⟩ := by
 subst h
 unfold toArr
 rw [dif_pos (Nat.le_refl _)]
 congr 1
 exact Arr.ext' (List.take_of_length_le (Nat.le_refl _))
theorem rep_B (n : Nat) (x : Int) (h : 0 ≤ x ∧ x < 256) : AllB (List.replicate n x) := fun y hy => by rw [(List.mem_replicate.1 hy).2]; exact h
def valB (p r : List Int) : List Int := p ++ List.replicate 8 0 ++ r ++ [0]
theorem value_ok (p : Arr Int 16) (r : Arr Int 24) : chap2_Value 200000 p r = some (valB p.l r.l) := by
 have hp := p.h
 have hr := r.h
 have : octs_Join 200000 [p.l, List.replicate (Int.toNat 8) 0, r.l, [0]] = some ([p.l, List.replicate (Int.toNat 8) 0, r.l, [0]] : List (List Int)).flatten := join_ok (N := 200000) _ (by simp) (fun q hq => by
  simp only [List.mem_cons, List.not_mem_nil, or_false] at hq
  rcases hq with rfl | rfl | rfl | rfl
  ·omega
  ·simp
  ·omega
  ·simp) (by omega)
 unfold chap2_Value
 rw [this]
 simp [valB]
def z16 : Arr Int 16 := ⟨List.replicate 16 0, rfl⟩
def z24 : Arr Int 24 := ⟨List.replicate 24 0, rfl⟩
def peerOf (v : List Int) (h : v.length = 49) : Arr Int 16 := ⟨v.take 16, by rw [List.length_take]; omega⟩
def respOf (v : List Int) (h : v.length = 49) : Arr Int 24 := ⟨(v.drop 24).take 24, by rw [List.length_take, List.length_drop]; omega⟩
def fineV (v : List Int) : Prop := (v.drop 16).take 8 = List.replicate 8 0 ∧ v.drop 48 = [0]
instance (v : List Int) : Decidable (fineV v) := by unfold fineV; infer_instance
theorem split49 (v : List Int) (h : v.length = 49) : v = v.take 16 ++ (v.drop 16).take 8 ++ (v.drop 24).take 24 ++ v.drop 48 := by
 have e1 : (v.drop 16).take 8 ++ v.drop 24 = v.drop 16 := by
  have := List.take_append_drop 8 (v.drop 16)
  rw [List.drop_drop] at this; exact this
 have e2 : (v.drop 24).take 24 ++ v.drop 48 = v.drop 24 := by
  have := List.take_append_drop 24 (v.drop 24)
  rw [List.drop_drop] at this; exact this
 rw [List.append_assoc, List.append_assoc, e2, e1, List.take_append_drop]
theorem value_iff (v : List Int) (h : v.length = 49) : valB (peerOf v h).l (respOf v h).l = v ↔ fineV v := by
 show v.take 16 ++ List.replicate 8 0 ++ (v.drop 24).take 24 ++ [0] = v ↔ _
 constructor
 ·intro e
  have h1 := split49 v h
  have l1 : ((v.drop 16).take 8).length = 8 := by rw [List.length_take, List.length_drop]; omega
  have l2 : (v.drop 48).length = 1 := by rw [List.length_drop]; omega
  have e2 : v.take 16 ++ List.replicate 8 0 ++ (v.drop 24).take 24 ++ [0] = v.take 16 ++ (v.drop 16).take 8 ++ (v.drop 24).take 24 ++ v.drop 48 := by rw [e]; exact h1
  have k1 := List.append_inj' e2 (by rw [l2]; rfl)
  have k2 := List.append_inj' k1.1 rfl
  have k3 := List.append_inj' k2.1 (by rw [l1]; simp)
  exact ⟨k3.2.symm, k1.2.symm⟩
 ·rintro ⟨h1, h2⟩
  have := split49 v h
  rw [h1, h2] at this
  exact this.symm
theorem parse_ok (v : List Int) (hb : AllB v) (hl : v.length ≤ 200) : chap2_Parse 200000 v = some (if h : v.length = 49 then (if fineV v then (peerOf v h, respOf v h, 0) else (z16, z24, 3)) else (z16, z24, 1)) := by
 unfold chap2_Parse
 by_cases h : v.length = 49
 ·have c1 : ((v.length : Int) = 49) := by omega
  have t1 : takeI v (16 : Int) = some (v.take 16) := takeI_nat v (i := 16) rfl (by omega)
  have t2 : toArr 16 (v.take 16) = some (peerOf v h) := toArrN 16 _ (peerOf v h).h
  have t3 : subI v (24 : Int) 48 = some ((v.drop 24).take 24) := subI_nat v (i := 24) (j := 48) rfl rfl (by omega) (by omega)
  have t4 : toArr 24 ((v.drop 24).take 24) = some (respOf v h) := toArrN 24 _ (respOf v h).h
  have hvl : (valB (peerOf v h).l (respOf v h).l).length = 49 := by
   have a1 := (peerOf v h).h
   have a2 := (respOf v h).h
   simp only [valB, List.length_append, List.length_replicate, List.length_cons, List.length_nil]; omega
  have hvB : AllB (valB (peerOf v h).l (respOf v h).l) := (((hb.take 16).append (rep_B 8 0 (by omega))).append ((hb.drop 24).take 24)).append (AllB.cons (by omega) AllB.nil)
  have hs : octs_Same 200000 (valB (peerOf v h).l (respOf v h).l) v = some (decide (valB (peerOf v h).l (respOf v h).l = v)) := osame _ _ hvB hb (by omega) (by omega) (by omega)
  rw [dif_pos h, decide_eq_true c1, t1, Option.bind_some, t2, Option.bind_some, t3, Option.bind_some, t4, Option.bind_some, value_ok, Option.bind_some, hs, Option.bind_some]
  by_cases hf : fineV v
  ·rw [if_pos hf, decide_eq_true ((value_iff v h).2 hf)]; rfl
  ·rw [if_neg hf, decide_eq_false (fun e => hf ((value_iff v h).1 e))]; rfl
 ·have c1 : ¬ ((v.length : Int) = 49) := by omega
  rw [dif_neg h, decide_eq_false c1]; rfl
section
variable {N : Nat}
abbrev DIG : List UInt8 := (@Array.toList UInt8 (@List.toArray UInt8 ([(@OfNat.ofNat UInt8 (48 : Nat) (@UInt8.instOfNat (48 : Nat))), (@OfNat.ofNat UInt8 (49 : Nat) (@UInt8.instOfNat (49 : Nat))), (@OfNat.ofNat UInt8 (50 : Nat) (@UInt8.instOfNat (50 : Nat))), (@OfNat.ofNat UInt8 (51 : Nat) (@UInt8.instOfNat (51 : Nat))), (@OfNat.ofNat UInt8 (52 : Nat) (@UInt8.instOfNat (52 : Nat))), (@OfNat.ofNat UInt8 (53 : Nat) (@UInt8.instOfNat (53 : Nat))), (@OfNat.ofNat UInt8 (54 : Nat) (@UInt8.instOfNat (54 : Nat))), (@OfNat.ofNat UInt8 (55 : Nat) (@UInt8.instOfNat (55 : Nat))), (@OfNat.ofNat UInt8 (56 : Nat) (@UInt8.instOfNat (56 : Nat))), (@OfNat.ofNat UInt8 (57 : Nat) (@UInt8.instOfNat (57 : Nat))), (@OfNat.ofNat UInt8 (65 : Nat) (@UInt8.instOfNat (65 : Nat))), (@OfNat.ofNat UInt8 (66 : Nat) (@UInt8.instOfNat (66 : Nat))), (@OfNat.ofNat UInt8 (67 : Nat) (@UInt8.instOfNat (67 : Nat))), (@OfNat.ofNat UInt8 (68 : Nat) (@UInt8.instOfNat (68 : Nat))), (@OfNat.ofNat UInt8 (69 : Nat) (@UInt8.instOfNat (69 : Nat))), (@OfNat.ofNat UInt8 (70 : Nat) (@UInt8.instOfNat (70 : Nat)))] : List (UInt8))))
def dg (n : Nat) : UInt8 := [48, 49, 50, 51, 52, 53, 54, 55, 56, 57, 65, 66, 67, 68, 69, 70].getD n 0
theorem hx1 : ∀ n : Nat, n < 256 → (getI DIG (@Int.fdiv (n : Int) (@HPow.hPow Int Nat Int (@instHPow Int Nat (@instPowNat Int @Int.instNatPow)) (2 : Int) (@Min.min Nat @instMinNat (Int.toNat (4 : Int)) (@IntKind.bits @IntKind.u8))))) = some (dg (n / 16)) := by decide +kernel
theorem hx2 : ∀ n : Nat, n < 256 → (getI DIG (@Go.bits @Go.BinOp.and @IntKind.u8 (n : Int) (15 : Int))) = some (dg (n % 16)) := by decide +kernel
theorem hy1 : ∀ n : Nat, n < 256 → (subI DIG (IntKind.wrap .i64 (IntKind.wrap .u8 (@Int.tdiv (n : Int) (16 : Int)))) (IntKind.wrap .i64 ((IntKind.wrap .i64 (IntKind.wrap .u8 (@Int.tdiv (n : Int) (16 : Int)))) + (1 : Int)))) = some [dg (n / 16)] := by decide +kernel
theorem hy2 : ∀ n : Nat, n < 256 → (subI DIG (IntKind.wrap .i64 (@Int.tmod (n : Int) (16 : Int))) (IntKind.wrap .i64 ((IntKind.wrap .i64 (@Int.tmod (n : Int) (16 : Int))) + (1 : Int)))) = some [dg (n % 16)] := by decide +kernel
def hexS (b : List Int) : List UInt8 := b.flatMap fun v => [dg (v.toNat / 16), dg (v.toNat % 16)]
theorem hexS_len : ∀ b : List Int, (hexS b).length = 2 * b.length
 | [] => rfl
 | v :: b => by
  show (dg (v.toNat / 16) :: dg (v.toNat % 16) :: hexS b).length = _
  simp only [List.length_cons, hexS_len b]; omega
theorem hexS_snoc (b : List Int) (v : Int) : hexS (b ++ [v]) = hexS b ++ [dg (v.toNat / 16), dg (v.toNat % 16)] := by
 unfold hexS
 rw [List.flatMap_append]
 rfl
theorem toBy_ofB : ∀ s : List UInt8, toBy (ofB s) = some s
 | [] => rfl
 | x :: s => by
  have h : (0 : Int) ≤ ((x.toNat : Nat) : Int) ∧ ((x.toNat : Nat) : Int) < 256 := by
   have := x.toNat_lt
   omega
  show toBy (((x.toNat : Nat) : Int) :: ofB s) = _
  unfold toBy
  rw [if_pos h, toBy_ofB s]
  simp
theorem ofB_app (a b : List UInt8) : ofB (a ++ b) = ofB a ++ ofB b := by simp [ofB]
theorem hex_p (b : List Int) (hB : AllB b) (hb : b.length ≤ 100) (hN : 10000 ≤ N) : octs_Hex N b = some (hexS b) := by
 have h : octs_Hex_L3_R N ((b, ((b.length : Int), ((0 : Int), ()))), (([] : List Int), ())) = some ((), (ofB (hexS b), ())) := by
  have := gl_run (G := fun X c => octs_Hex_L3 N X c.1.1 c.1.2.1 c.1.2.2.1 c.2.1) (fun i => ((b, ((b.length : Int), ((i : Int), ()))), (ofB (hexS (b.take i)), ()))) b.length ((), (ofB (hexS b), ())) (fun X i hi => ?_) (fun X => ?_) N 0 (Nat.zero_le _) (by omega)
  ·exact this
  ·have c1 : ((i : Int) < (b.length : Int)) := by omega
   have g := getI_lt b i hi
   have hv := hB _ (List.getElem_mem hi)
   have w : IntKind.wrap .i64 ((i : Int) + 1) = ((i + 1 : Nat) : Int) := by rw [wrap64 (by omega) (by omega)]; omega
   obtain ⟨n, hn⟩ : ∃ n : Nat, b[i] = (n : Int) := ⟨b[i].toNat, by omega⟩
   have hn2 : n < 256 := by omega
   have t1 := hx1 n hn2
   have t2 := hx2 n hn2
   have hts : b.take (i + 1) = b.take i ++ [b[i]] := by rw [List.take_add_one, List.getElem?_eq_getElem hi]; rfl
   have hap : ofB (hexS (b.take (i + 1))) = ofB (hexS (b.take i)) ++ [(((dg (n / 16)).toNat : Nat) : Int), (((dg (n % 16)).toNat : Nat) : Int)] := by
    rw [hts, hexS_snoc, ofB_app, hn, Int.toNat_natCast]
    rfl
   have rm : roomB ((ofB (hexS (b.take i))).length + ([(((dg (n / 16)).toNat : Nat) : Int), (((dg (n % 16)).toNat : Nat) : Int)] : List Int).length) 1 = true := by
    rw [ofB_length, hexS_len, List.length_take]
    exact roomB_of (by have := big_len; simp; omega) (by simp; omega)
   rw [hn] at g
   simp only [octs_Hex_L3, c1, decide_true, cond_true, g, Option.bind_some, t1, t2, rm, w, hap]
  ·have c1 : ¬ ((b.length : Int) < (b.length : Int)) := by omega
   simp only [octs_Hex_L3, c1, decide_false, cond_false, List.take_length]
 have w : IntKind.wrap .i64 ((2 : Int) * (b.length : Int)) = ((2 * b.length : Nat) : Int) := by rw [wrap64 (by omega) (by omega)]; omega
 have c0 : decide ((0 : Int) ≤ 0 ∧ (0 : Int) ≤ ((2 * b.length : Nat) : Int)) = true := decide_eq_true ⟨by omega, by omega⟩
 have r0 : roomB (Int.toNat ((2 * b.length : Nat) : Int)) 1 = true := roomB_of (by have := big_len; omega) (by omega)
 unfold octs_Hex
 rw [w, c0, r0]
 simp only [Bool.and_self, cond_true]
 refine (congrArg (fun o => Option.bind o _) h).trans ?_
 simp only [Option.bind_some, toBy_ofB]
end
theorem bpos {α : Type} {p : Prop} [Decidable p] {x y : α} (h : p) : (bif decide p then x else y) = x := by rw [decide_eq_true h]; rfl
theorem bneg {α : Type} {p : Prop} [Decidable p] {x y : α} (h : ¬ p) : (bif decide p then x else y) = y := by rw [decide_eq_false h]; rfl
theorem rpos {α : Type} {n : Nat} {x y : α} (h : n ≤ 100000) : (bif roomB n 1 then x else y) = x := by rw [room_small h]; rfl
theorem bnd {α β : Type} {o : Option α} {v : α} {k : α → Option β} (h : o = some v) : Option.bind o k = k v := by rw [h]; rfl
theorem getB (s : List UInt8) (i : Nat) (h : i < s.length) : getI (ofB s) (i : Int) = some ((s[i].toNat : Nat) : Int) := by
 rw [getI_nat]
 unfold ofB
 rw [List.getElem?_map, List.getElem?_eq_getElem h]
 rfl
theorem ofB_take (s : List UInt8) (n : Nat) : (ofB s).take n = ofB (s.take n) := by unfold ofB; rw [List.map_take]
theorem ofB_drop (s : List UInt8) (n : Nat) : (ofB s).drop n = ofB (s.drop n) := by unfold ofB; rw [List.map_drop]
theorem ofB_all (s : List UInt8) : AllB (ofB s) := fun x hx => by
 unfold ofB at hx
 obtain ⟨c, _, rfl⟩ := List.mem_map.1 hx
 have := c.toNat_lt
 omega
abbrev Fl : Type := Int × (Bool × ((Arr Int 16) × (List UInt8)))
def fin (c : UInt8) : Bool := decide (32 ≤ c.toNat) && decide (c.toNat ≤ 126)
def asc (s : List UInt8) : Bool := s.all fin
theorem asc_step (s : List UInt8) (i : Nat) (h : i < s.length) : asc (s.drop i) = (fin s[i] && asc (s.drop (i + 1))) := by
 rw [List.drop_eq_getElem_cons h]; rfl
section
variable {N : Nat}
theorem ascP (s : List UInt8) (hs : s.length ≤ 100000) : ∀ (n k i : Nat), i + n = s.length → n < k → gl (fun X c => utf16_Ascii_L2 N X c.1.1 c.1.2.1 c.1.2.2.1) k ((ofB s, ((s.length : Int), ((i : Int), ()))), ()) = some (if asc (s.drop i) = true then .inr ((), ()) else .inl ((false, ()), ()))
 | 0, k + 1, i, hi, _ => by
  have c1 : ¬ ((i : Int) < (s.length : Int)) := by omega
  rw [gl_succ, List.drop_eq_nil_of_le (by omega)]
  simp only [utf16_Ascii_L2, c1, decide_false, cond_false]
  rfl
 | n + 1, k + 1, i, hi, hk => by
  have c1 : ((i : Int) < (s.length : Int)) := by omega
  have hlt : i < s.length := by omega
  have g := getB s i hlt
  have w : IntKind.wrap .i64 ((i : Int) + 1) = ((i + 1 : Nat) : Int) := by rw [wrap64 (by omega) (by omega)]; omega
  have ih := ascP s hs n k (i + 1) (by omega) (by omega)
  rw [gl_succ, asc_step s i hlt]
  by_cases h1 : ((s[i].toNat : Nat) : Int) < 32
  ·have e : fin s[i] = false := by unfold fin; rw [decide_eq_false (by omega)]; rfl
   simp only [utf16_Ascii_L2, c1, decide_true, cond_true, g, Option.bind_some, h1, e, Bool.false_and]
   rfl
  ·by_cases h2 : (126 : Int) < ((s[i].toNat : Nat) : Int)
   ·have e : fin s[i] = false := by unfold fin; rw [decide_eq_false (p := s[i].toNat ≤ 126) (by omega), Bool.and_false]
    simp only [utf16_Ascii_L2, c1, decide_true, cond_true, g, Option.bind_some, h1, h2, decide_false, cond_false, e, Bool.false_and]
    rfl
   ·have e : fin s[i] = true := by unfold fin; rw [decide_eq_true (p := 32 ≤ s[i].toNat) (by omega), decide_eq_true (by omega)]; rfl
    simp only [utf16_Ascii_L2, c1, decide_true, cond_true, g, Option.bind_some, h1, h2, decide_false, cond_false, e, Bool.true_and, w]
    exact ih
theorem asc_p (s : List UInt8) (hs : s.length ≤ 10000) (hN : 20000 ≤ N) : utf16_Ascii N s = some (asc s) := by
 unfold utf16_Ascii
 rw [rpos (by omega), ofB_length]
 have h : utf16_Ascii_L2_R N ((ofB s, ((s.length : Int), (((0 : Nat) : Int), ()))), ()) = _ := ascP s (by omega) s.length N 0 (by omega) (by omega)
 refine (bnd h).trans ?_
 rw [List.drop_zero]
 cases asc s <;> rfl
end
def mE : List UInt8 := [69, 61]
def mR : List UInt8 := [32, 82, 61]
def mC : List UInt8 := [32, 67, 61]
def mV : List UInt8 := [32, 86, 61, 51, 32, 77, 61]
def L8 (D A H T : List UInt8) : List UInt8 := ((((((mE ++ D) ++ mR) ++ A) ++ mC) ++ H) ++ mV) ++ T
def agS (a : Bool) : List UInt8 := if a then [49] else [48]
def layF (f : Fl) : List UInt8 := L8 (Lib.decDigits f.1.toNat) (agS f.2.1) (hexS f.2.2.1.l) f.2.2.2
def failS (f : Fl) : List Int × Int := if f.1 < 0 ∨ 9999 < f.1 then ([], 1) else if asc f.2.2.2 = true then (ofB (layF f), 0) else ([], 3)
theorem fail_p (f : Fl) (hc : AllB f.2.2.1.l) (ht : f.2.2.2.length ≤ 1000) : chap2_Fail 200000 f = some (failS f) := by
 obtain ⟨n, ag, c, t⟩ := f
 simp only at hc ht
 have hcl := c.h
 have bl := big_len
 unfold failS chap2_Fail
 dsimp only
 by_cases h1 : n < 0 ∨ 9999 < n
 ·have e : (bif decide (n < 0) then some true else some (cond false true (decide (9999 < n)))) = some true := by
   by_cases h2 : n < 0
   ·exact bpos h2
   ·exact (bneg h2).trans (by rw [decide_eq_true (by omega)]; rfl)
  rw [if_pos h1]
  exact (bnd e).trans rfl
 ·have e : (bif decide (n < 0) then some true else some (cond false true (decide (9999 < n)))) = some false := (bneg (by omega)).trans (by rw [decide_eq_false (by omega)]; rfl)
  rw [if_neg h1]
  refine (bnd e).trans ?_
  refine (bnd (asc_p t (by omega) (by omega))).trans ?_
  obtain ⟨m, rfl⟩ : ∃ m : Nat, n = (m : Int) := ⟨n.toNat, by omega⟩
  have hm : m ≤ 9999 := by omega
  have hd := dec_len hm
  have hx := hex_p (N := 200000) c.l hc (by omega) (by omega)
  have hxl := hexS_len c.l
  unfold layF
  simp only [Int.toNat_natCast]
  rw [itoa_dec]
  generalize Lib.decDigits m = D at hd
  cases hA : asc t
  ·rfl
  ·simp only [Bool.not_true, cond_false, if_true]
   cases ag
   ·simp only [cond_false]
    refine (bpos (by omega)).trans ?_
    iterate 4 (refine (bpos (by simp only [List.length_append, List.length_cons, List.length_nil]; omega)).trans ?_)
    refine (bnd hx).trans ?_
    iterate 3 (refine (bpos (by simp only [List.length_append, List.length_cons, List.length_nil]; omega)).trans ?_)
    refine (rpos (by simp only [List.length_append, List.length_cons, List.length_nil]; omega)).trans ?_
    rfl
   ·simp only [cond_true]
    refine (bpos (by omega)).trans ?_
    iterate 4 (refine (bpos (by simp only [List.length_append, List.length_cons, List.length_nil]; omega)).trans ?_)
    refine (bnd hx).trans ?_
    iterate 3 (refine (bpos (by simp only [List.length_append, List.length_cons, List.length_nil]; omega)).trans ?_)
    refine (rpos (by simp only [List.length_append, List.length_cons, List.length_nil]; omega)).trans ?_
    rfl
def z16' : Arr Int 16 := ⟨List.replicate 16 0, rfl⟩
def zF : Fl := (0, (false, (z16', [])))
def t0 (v : List UInt8) : List UInt8 := Lib.trimPrefix v mE
def c1 (v : List UInt8) : List UInt8 × List UInt8 × Bool := Lib.cut (t0 v) mR
def c2 (v : List UInt8) : List UInt8 × List UInt8 × Bool := Lib.cut (c1 v).2.1 mC
def c3 (v : List UInt8) : List UInt8 × List UInt8 × Bool := Lib.cut (c2 v).2.1 mV
theorem failedP_def (N : Nat) (b : List Int) : chap2_Failed N b = Option.bind (toBy b) fun v => bif decide ((t0 v).length ≤ 1000000) then (bif decide ((c1 v).2.1.length ≤ 1000000) then (bif decide ((c2 v).2.1.length ≤ 1000000) then (bif decide ((c3 v).1.length ≤ 1000000) then (bif decide ((c1 v).1.length ≤ 281474976710656) then
  Sum.elim (fun n => Option.bind (some (cond false true (!(decide (unhexE (c3 v).1 = 0))))) fun x => bif x then some (zF, 3) else Option.bind (some (cond false true (!(decide ((((unhexR (c3 v).1).length : Nat) : Int) = 16))))) fun y => bif y then some (zF, 3) else
   Option.bind (toArr 16 (unhexR (c3 v).1)) fun a => Option.bind (chap2_Fail N (n, (decide ((c2 v).1 = [49]), (a, (c3 v).2.1)))) fun r => bif !(decide (r.2 = 0)) then some (zF, 3) else Option.bind (octs_Same N r.1 b) fun q => Option.bind (some (cond false true (!q))) fun z => bif z then some (zF, 3) else some ((n, (decide ((c2 v).1 = [49]), (a, (c3 v).2.1))), 0))
   (fun _ => some (zF, 3)) (atS (c1 v).1) else none) else none) else none) else none) else none := by kernel_rfl
theorem cut_len (s p : List UInt8) : (Lib.cut s p).1.length ≤ s.length ∧ (Lib.cut s p).2.1.length ≤ s.length := by
 unfold Lib.cut
 split
 ·exact ⟨by rw [List.length_take]; omega, by rw [List.length_drop]; omega⟩
 ·exact ⟨Nat.le_refl _, by simp⟩
theorem trim_len (s p : List UInt8) : (Lib.trimPrefix s p).length ≤ s.length := by
 unfold Lib.trimPrefix
 split
 ·rw [List.length_drop]; omega
 ·exact Nat.le_refl _
def fine (f : Fl) : Prop := 0 ≤ f.1 ∧ f.1 ≤ 9999 ∧ asc f.2.2.2 = true ∧ AllB f.2.2.1.l
theorem failS_fine {f : Fl} (h : fine f) : failS f = (ofB (layF f), 0) := by
 unfold failS
 rw [if_neg (by have := h.1; have := h.2.1; omega), if_pos h.2.2.1]
theorem failS_cases (f : Fl) (hc : AllB f.2.2.1.l) : (fine f ∧ failS f = (ofB (layF f), 0)) ∨ (failS f).2 ≠ 0 := by
 unfold failS
 by_cases h1 : f.1 < 0 ∨ 9999 < f.1
 ·right; rw [if_pos h1]; decide
 ·rw [if_neg h1]
  by_cases h2 : asc f.2.2.2 = true
  ·left; rw [if_pos h2]; exact ⟨⟨by omega, by omega, h2, hc⟩, rfl⟩
  ·right; rw [if_neg h2]; decide
theorem layF_len (f : Fl) (h : fine f) : (layF f).length = 2 + (Lib.decDigits f.1.toNat).length + 3 + 1 + 3 + 32 + 7 + f.2.2.2.length := by
 have := hexS_len f.2.2.1.l
 have := f.2.2.1.h
 have e : (agS f.2.1).length = 1 := by cases f.2.1 <;> rfl
 unfold layF L8
 simp only [List.length_append, mE, mR, mC, mV, List.length_cons, List.length_nil]
 omega
theorem layF_short (f : Fl) (h : fine f) (ht : f.2.2.2.length ≤ 2000) : (layF f).length ≤ 3000 := by
 rw [layF_len f h]
 have := dec_len (n := f.1.toNat) (by have := h.2.1; omega)
 omega
noncomputable instance fineDec (f : Fl) (s : List UInt8) : Decidable (fine f ∧ layF f = s) := Classical.propDecidable _
noncomputable def endS (f : Fl) (s : List UInt8) : Fl × Int := if fine f ∧ layF f = s then (f, 0) else (zF, 3)
theorem failedP (s : List UInt8) (hs : s.length ≤ 1000) : chap2_Failed 200000 (ofB s) = some (match atS (c1 s).1 with
  | .inl n => if h : unhexE (c3 s).1 = 0 ∧ (unhexR (c3 s).1).length = 16 then endS (n, (decide ((c2 s).1 = [49]), (⟨unhexR (c3 s).1, h.2⟩, (c3 s).2.1))) s else (zF, 3)
  | .inr _ => (zF, 3)) := by
 have l0 : (t0 s).length ≤ s.length := trim_len s mE
 have l1 := cut_len (t0 s) mR
 have l2 := cut_len (c1 s).2.1 mC
 have l3 := cut_len (c2 s).2.1 mV
 have k1 : (c1 s).1.length ≤ 1000 := Nat.le_trans l1.1 (by omega)
 have k2 : (c1 s).2.1.length ≤ 1000 := Nat.le_trans l1.2 (by omega)
 have k3 : (c2 s).2.1.length ≤ 1000 := Nat.le_trans l2.2 (by omega)
 have k4 : (c3 s).1.length ≤ 1000 := Nat.le_trans l3.1 (by omega)
 have k5 : (c3 s).2.1.length ≤ 1000 := Nat.le_trans l3.2 (by omega)
 rw [failedP_def]
 refine (bnd (toBy_ofB s)).trans ?_
 refine (bpos (by omega)).trans ?_
 refine (bpos (by omega)).trans ?_
 refine (bpos (by omega)).trans ?_
 refine (bpos (by omega)).trans ?_
 refine (bpos (by omega)).trans ?_
 generalize atS (c1 s).1 = o
 rcases o with n | z
 ·simp only [Sum.elim_inl]
  by_cases e1 : unhexE (c3 s).1 = 0
  ·by_cases e2 : (unhexR (c3 s).1).length = 16
   ·have e3 : ((((unhexR (c3 s).1).length : Nat) : Int) = 16) := by omega
    have t1 : toArr 16 (unhexR (c3 s).1) = some ⟨unhexR (c3 s).1, e2⟩ := toArrN 16 _ e2
    have hB : AllB (unhexR (c3 s).1) := ofB_all _
    simp only [e1, e3, decide_true, Bool.not_true, cond_false, Option.bind_some, t1, e2, and_self, dif_pos]
    generalize hf : ((n, (decide ((c2 s).1 = [49]), ((⟨unhexR (c3 s).1, e2⟩ : Arr Int 16), (c3 s).2.1))) : Fl) = f
    have hc : AllB f.2.2.1.l := by rw [← hf]; exact hB
    have ht : f.2.2.2.length ≤ 1000 := by rw [← hf]; exact k5
    refine (bnd (fail_p f hc ht)).trans ?_
    unfold endS
    rcases failS_cases f hc with ⟨q1, q2⟩ | q2
    ·rw [q2]
     have hsm := osame (ofB (layF f)) (ofB s) (ofB_all _) (ofB_all _) (by rw [ofB_length]; have := layF_short f q1 (by omega); omega) (by rw [ofB_length]; omega) (Nat.le_refl 200000)
     simp only [decide_true, Bool.not_true, cond_false, hsm, Option.bind_some]
     by_cases he : layF f = s
     ·rw [if_pos ⟨q1, he⟩, he]
      simp only [decide_true, Bool.not_true, cond_false]
     ·rw [if_neg (fun h => he h.2), decide_eq_false (fun h => he (ofB_inj h))]
      rfl
    ·rw [if_neg (fun h => by rw [failS_fine h.1] at q2; exact q2 rfl)]
     simp only [q2, decide_false, Bool.not_false, cond_true]
   ·have e3 : ¬ ((((unhexR (c3 s).1).length : Nat) : Int) = 16) := by omega
    rw [dif_neg (fun h => e2 h.2)]
    simp only [e1, e3, decide_true, decide_false, Bool.not_true, Bool.not_false, cond_false, cond_true, Option.bind_some]
  ·rw [dif_neg (fun h => e1 h.1)]
   simp only [e1, decide_false, Bool.not_false, cond_true, cond_false, Option.bind_some]
 ·rfl
theorem hv_dg : ∀ n : Nat, n < 16 → hv (dg n) = n ∧ dg n ≠ 32 := by decide +kernel
theorem unhex_hex : ∀ c : List Int, AllB c → ∃ bs, unhexL (hexS c) = some bs ∧ ofB bs = c
 | [], _ => ⟨[], rfl, rfl⟩
 | v :: c, h => by
  obtain ⟨bs, h1, h2⟩ := unhex_hex c (fun x hx => h x (List.mem_cons_of_mem _ hx))
  have hv' := h v List.mem_cons_self
  have q1 := (hv_dg (v.toNat / 16) (by omega)).1
  have q2 := (hv_dg (v.toNat % 16) (by omega)).1
  have e : 16 * (v.toNat / 16) + v.toNat % 16 = v.toNat := by omega
  refine ⟨UInt8.ofNat v.toNat :: bs, ?_, ?_⟩
  ·show unhexL (dg (v.toNat / 16) :: dg (v.toNat % 16) :: hexS c) = _
   unfold unhexL
   rw [q1, q2, if_pos (by omega), h1, e]
   rfl
  ·show ((UInt8.ofNat v.toNat).toNat : Int) :: ofB bs = _
   have e2 : (UInt8.ofNat v.toNat).toNat = v.toNat % 256 := by simp
   rw [h2, e2]
   congr 1
   omega
theorem hex_no32 (c : List Int) (h : AllB c) : ∀ x ∈ hexS c, x ≠ 32 := fun x hx => by
 unfold hexS at hx
 obtain ⟨v, hv', hx⟩ := List.mem_flatMap.1 hx
 have := h v hv'
 simp only [List.mem_cons, List.not_mem_nil, or_false] at hx
 rcases hx with rfl | rfl
 ·exact (hv_dg _ (by omega)).2
 ·exact (hv_dg _ (by omega)).2
theorem endS_fine {f : Fl} (h : fine f) : endS f (layF f) = (f, 0) := by
 unfold endS
 rw [if_pos ⟨h, rfl⟩]
theorem backP (f : Fl) (hf : fine f) (ht : f.2.2.2.length ≤ 900) : chap2_Failed 200000 (ofB (layF f)) = some (f, 0) := by
 obtain ⟨h1, h2, h3, h4⟩ := hf
 obtain ⟨m, hm⟩ : ∃ m : Nat, f.1 = (m : Int) := ⟨f.1.toNat, by omega⟩
 have hm2 : m ≤ 9999 := by omega
 have hmt : f.1.toNat = m := by omega
 have hl : (layF f).length ≤ 1000 := by
  rw [layF_len f ⟨h1, h2, h3, h4⟩]
  have := dec_len (n := f.1.toNat) (by omega)
  omega
 obtain ⟨d1, d2, d3⟩ := dec_all m
 have hd := dec_len hm2
 have e0 : t0 (layF f) = Lib.decDigits m ++ mR ++ (agS f.2.1 ++ mC ++ (hexS f.2.2.1.l ++ mV ++ f.2.2.2)) := by
  unfold t0 layF L8
  rw [hmt]
  simp only [List.append_assoc]
  exact trim_at _ _
 have e1 : c1 (layF f) = (Lib.decDigits m, (agS f.2.1 ++ mC ++ (hexS f.2.2.1.l ++ mV ++ f.2.2.2)), true) := by
  unfold c1
  rw [e0]
  exact cut_at _ _ _ 32 (fun c hc => by
   have := d1 c hc
   intro e; subst e
   have : (32 : UInt8).toNat = 32 := rfl
   omega)
 have e2 : c2 (layF f) = (agS f.2.1, (hexS f.2.2.1.l ++ mV ++ f.2.2.2), true) := by
  unfold c2
  rw [e1]
  exact cut_at _ _ _ 32 (fun c hc => by
   unfold agS at hc
   split at hc <;> (rw [List.mem_singleton] at hc; subst hc; decide))
 have e3 : c3 (layF f) = (hexS f.2.2.1.l, f.2.2.2, true) := by
  unfold c3
  rw [e2]
  exact cut_at _ _ _ 32 (hex_no32 _ h4)
 obtain ⟨bs, u1, u2⟩ := unhex_hex f.2.2.1.l h4
 have uE : unhexE (hexS f.2.2.1.l) = 0 := by unfold unhexE; rw [u1]; rfl
 have uR : unhexR (hexS f.2.2.1.l) = f.2.2.1.l := by unfold unhexR; rw [u1]; exact u2
 have uL : (unhexR (hexS f.2.2.1.l)).length = 16 := by rw [uR]; exact f.2.2.1.h
 have ha : atS (Lib.decDigits m) = .inl (m : Int) := by unfold atS; rw [atoi_dec hm2]
 have hag : decide (agS f.2.1 = [49]) = f.2.1 := by cases f.2.1 <;> decide
 rw [failedP _ hl, e1, e2, e3]
 simp only [ha]
 rw [dif_pos ⟨uE, uL⟩]
 have hff : ((m : Int), (decide (agS f.2.1 = [49]), ((⟨unhexR (hexS f.2.2.1.l), uL⟩ : Arr Int 16), f.2.2.2))) = f := by
  rw [hag, ← hm]
  have : (⟨unhexR (hexS f.2.2.1.l), uL⟩ : Arr Int 16) = f.2.2.1 := Arr.eq uR
  rw [this]
 rw [hff, endS_fine ⟨h1, h2, h3, h4⟩]
section
variable {N : Nat}
end
def gr (c : UInt8) : Bool := (decide (48 ≤ c.toNat) && decide (c.toNat ≤ 57)) || (decide (65 ≤ c.toNat) && decide (c.toNat ≤ 70))
def grs (s : List UInt8) : Bool := s.all gr
theorem grs_step (s : List UInt8) (i : Nat) (h : i < s.length) : grs (s.drop i) = (gr s[i] && grs (s.drop (i + 1))) := by
 rw [List.drop_eq_getElem_cons h]; rfl
theorem gr_cases (c : UInt8) : (48 ≤ c.toNat ∧ c.toNat ≤ 57 ∧ gr c = true) ∨ (65 ≤ c.toNat ∧ c.toNat ≤ 70 ∧ gr c = true) ∨ (c.toNat < 48 ∧ gr c = false) ∨ (57 < c.toNat ∧ c.toNat < 65 ∧ gr c = false) ∨ (70 < c.toNat ∧ gr c = false) := by
 unfold gr
 rcases Nat.lt_or_ge c.toNat 48 with h | h
 ·right; right; left
  exact ⟨h, by rw [decide_eq_false (by omega), decide_eq_false (p := 65 ≤ c.toNat) (by omega)]; rfl⟩
 ·rcases Nat.lt_or_ge 57 c.toNat with h2 | h2
  ·rcases Nat.lt_or_ge c.toNat 65 with h3 | h3
   ·right; right; right; left
    exact ⟨h2, h3, by rw [decide_eq_true (p := 48 ≤ c.toNat) (by omega), decide_eq_false (p := c.toNat ≤ 57) (by omega), decide_eq_false (p := 65 ≤ c.toNat) (by omega)]; rfl⟩
   ·rcases Nat.lt_or_ge 70 c.toNat with h4 | h4
    ·right; right; right; right
     exact ⟨h4, by rw [decide_eq_true (p := 48 ≤ c.toNat) (by omega), decide_eq_false (p := c.toNat ≤ 57) (by omega), decide_eq_true (p := 65 ≤ c.toNat) (by omega), decide_eq_false (p := c.toNat ≤ 70) (by omega)]; rfl⟩
    ·right; left
     exact ⟨h3, h4, by rw [decide_eq_true (p := 65 ≤ c.toNat) (by omega), decide_eq_true (p := c.toNat ≤ 70) (by omega)]; simp⟩
  ·left
   exact ⟨h, h2, by rw [decide_eq_true (p := 48 ≤ c.toNat) (by omega), decide_eq_true (p := c.toNat ≤ 57) (by omega)]; rfl⟩
section
variable {N : Nat}
theorem ansP (s : List UInt8) (hs : s.length ≤ 100000) : ∀ (n k i : Nat), i + n = s.length → n < k → gl (fun X c => chap2_isAnswer_L4 N X c.1.1 c.1.2.1 c.1.2.2.1) k ((ofB s, ((s.length : Int), ((i : Int), ()))), ()) = some (if grs (s.drop i) = true then .inr ((), ()) else .inl ((false, ()), ()))
 | 0, k + 1, i, hi, _ => by
  have c1 : ¬ ((i : Int) < (s.length : Int)) := by omega
  rw [gl_succ, List.drop_eq_nil_of_le (by omega)]
  simp only [chap2_isAnswer_L4, c1, decide_false, cond_false]
  rfl
 | n + 1, k + 1, i, hi, hk => by
  have c1 : ((i : Int) < (s.length : Int)) := by omega
  have hlt : i < s.length := by omega
  have g := getB s i hlt
  have w : IntKind.wrap .i64 ((i : Int) + 1) = ((i + 1 : Nat) : Int) := by rw [wrap64 (by omega) (by omega)]; omega
  have ih := ansP s hs n k (i + 1) (by omega) (by omega)
  rw [gl_succ, grs_step s i hlt]
  rcases gr_cases s[i] with ⟨h1, h2, h3⟩ | ⟨h1, h2, h3⟩ | ⟨h1, h3⟩ | ⟨h1, h2, h3⟩ | ⟨h1, h3⟩
  ·simp only [chap2_isAnswer_L4, c1, g, w, show (48 : Int) ≤ ((s[i].toNat : Nat) : Int) by omega, show ((s[i].toNat : Nat) : Int) ≤ 57 by omega, decide_true, cond_true, cond_false, Option.bind_some, h3, Bool.not_true, Bool.true_and]
   exact ih
  ·simp only [chap2_isAnswer_L4, c1, g, w, show (48 : Int) ≤ ((s[i].toNat : Nat) : Int) by omega, show ¬ ((s[i].toNat : Nat) : Int) ≤ 57 by omega, show (65 : Int) ≤ ((s[i].toNat : Nat) : Int) by omega, show ((s[i].toNat : Nat) : Int) ≤ 70 by omega, decide_true, decide_false, cond_true, cond_false, Option.bind_some, h3, Bool.not_true, Bool.true_and]
   exact ih
  ·simp only [chap2_isAnswer_L4, c1, g, w, show ¬ (48 : Int) ≤ ((s[i].toNat : Nat) : Int) by omega, show ¬ (65 : Int) ≤ ((s[i].toNat : Nat) : Int) by omega, decide_true, decide_false, cond_true, cond_false, Option.bind_some, h3, Bool.not_false, Bool.false_and]
   rfl
  ·simp only [chap2_isAnswer_L4, c1, g, w, show (48 : Int) ≤ ((s[i].toNat : Nat) : Int) by omega, show ¬ ((s[i].toNat : Nat) : Int) ≤ 57 by omega, show ¬ (65 : Int) ≤ ((s[i].toNat : Nat) : Int) by omega, decide_true, decide_false, cond_true, cond_false, Option.bind_some, h3, Bool.not_false, Bool.false_and]
   rfl
  ·simp only [chap2_isAnswer_L4, c1, g, w, show (48 : Int) ≤ ((s[i].toNat : Nat) : Int) by omega, show ¬ ((s[i].toNat : Nat) : Int) ≤ 57 by omega, show (65 : Int) ≤ ((s[i].toNat : Nat) : Int) by omega, show ¬ ((s[i].toNat : Nat) : Int) ≤ 70 by omega, decide_true, decide_false, cond_true, cond_false, Option.bind_some, h3, Bool.not_false, Bool.false_and]
   rfl
end
def bt (s : List UInt8) (i : Nat) : Int := ((s.getD i 0).toNat : Nat)
theorem getBt (s : List UInt8) (i : Nat) (h : i < s.length) : getI (ofB s) (i : Int) = some (bt s i) := by
 rw [getB s i h]
 unfold bt
 rw [List.getD_eq_getElem?_getD, List.getElem?_eq_getElem h]
 rfl
def tOk (s : List UInt8) : Prop := bt s 0 = 83 ∧ bt s 1 = 61 ∧ grs ((s.take 42).drop 2) = true ∧ (42 < s.length → bt s 42 = 32)
instance (s : List UInt8) : Decidable (tOk s) := by unfold tOk; infer_instance
def toldS (s : List UInt8) : List UInt8 × Int := if s.length < 42 then ([], 4) else if tOk s then (s.take 42, 0) else ([], 3)
theorem headV (v0 v1 : Int) : (bif (!(decide (v0 = (83 : Int)))) then some (true) else Option.bind (some v1) fun (v3 : Int) => some ((cond false true (!(decide (v3 = (61 : Int))))))) = some (!(decide (v0 = 83 ∧ v1 = 61))) := by
 by_cases h0 : v0 = 83 <;> by_cases h1 : v1 = 61 <;> simp [h0, h1]
theorem tailV (s : List UInt8) : (bif (decide ((42 : Int) < (s.length : Int))) then Option.bind (getI (ofB s) (42 : Int)) fun (v4 : Int) => some ((cond false true (cond true (!(decide (v4 = (32 : Int)))) false))) else some ((cond false true false))) = some (!(decide (42 < s.length → bt s 42 = 32))) := by
 by_cases h : 42 < s.length
 ·have h' : (42 : Int) < (s.length : Int) := by omega
  have g : getI (ofB s) (42 : Int) = some (bt s 42) := getBt s 42 h
  rw [g]
  by_cases h2 : bt s 42 = 32 <;> simp [h, h', h2]
 ·have h' : ¬ (42 : Int) < (s.length : Int) := by omega
  simp [h, h']
theorem isAns (u : List UInt8) (hu : u.length = 42) : chap2_isAnswer 200000 (ofB u) = some (decide (bt u 0 = 83 ∧ bt u 1 = 61) && grs (u.drop 2)) := by
 have g0 : getI (ofB u) (0 : Int) = some (bt u 0) := getBt u 0 (by omega)
 have g1 : getI (ofB u) (1 : Int) = some (bt u 1) := getBt u 1 (by omega)
 unfold chap2_isAnswer
 rw [g0, g1]
 refine (bnd (v := bt u 0) rfl).trans ?_
 refine (bnd (headV (bt u 0) (bt u 1))).trans ?_
 cases hh : decide (bt u 0 = 83 ∧ bt u 1 = 61)
 ·rfl
 ·have hd : dropI (ofB u) (2 : Int) = some (ofB (u.drop 2)) := (dropI_nat (ofB u) (a := 2) (i := 2) rfl (by rw [ofB_length]; omega)).trans (by rw [ofB_drop])
  have hl : (u.drop 2).length = 40 := by rw [List.length_drop]; omega
  simp only [Bool.not_true, cond_false, Bool.true_and]
  refine (bnd hd).trans ?_
  rw [ofB_length]
  have h : chap2_isAnswer_L4_R 200000 ((ofB (u.drop 2), (((u.drop 2).length : Int), (((0 : Nat) : Int), ()))), ()) = _ := ansP (u.drop 2) (by omega) (u.drop 2).length 200000 0 (by omega) (by omega)
  refine (bnd h).trans ?_
  rw [List.drop_zero]
  cases grs (u.drop 2) <;> rfl
theorem bt_take (s : List UInt8) (n i : Nat) (h : i < n) : bt (s.take n) i = bt s i := by
 unfold bt
 rw [List.getD_eq_getElem?_getD, List.getD_eq_getElem?_getD, List.getElem?_take_of_lt h]
theorem told_p (s : List UInt8) : chap2_Told 200000 (ofB s) = some (toldS s) := by
 unfold chap2_Told toldS
 rw [ofB_length]
 by_cases hl : s.length < 42
 ·rw [if_pos hl]
  exact bpos (by omega)
 ·rw [if_neg hl]
  refine (bneg (by omega)).trans ?_
  have tk : takeI (ofB s) (42 : Int) = some (ofB (s.take 42)) := (takeI_nat (ofB s) (a := 42) (i := 42) rfl (by rw [ofB_length]; omega)).trans (by rw [ofB_take])
  have hu : (s.take 42).length = 42 := by rw [List.length_take]; omega
  have ha := isAns (s.take 42) hu
  rw [bt_take s 42 0 (by omega), bt_take s 42 1 (by omega)] at ha
  refine (bnd tk).trans ?_
  refine (bnd ha).trans ?_
  by_cases k1 : bt s 0 = 83 ∧ bt s 1 = 61
  ·cases k2 : grs ((s.take 42).drop 2)
   ·rw [if_neg (fun h => by have := h.2.2.1; rw [k2] at this; cases this)]
    simp only [Bool.and_false, Bool.not_false, cond_true]
   ·simp only [k1, and_self, decide_true, Bool.and_self, Bool.not_true, cond_false]
    refine (bnd (tailV s)).trans ?_
    by_cases k3 : 42 < s.length → bt s 42 = 32
    ·rw [if_pos ⟨k1.1, k1.2, k2, k3⟩, decide_eq_true k3]
     simp only [Bool.not_true, cond_false]
     exact (bnd tk).trans (bnd (toBy_ofB _))
    ·rw [if_neg (fun h => k3 h.2.2.2), decide_eq_false k3]
     rfl
  ·rw [if_neg (fun h => k1 ⟨h.1, h.2.1⟩), decide_eq_false k1]
   rfl
def mM : List UInt8 := [32, 77, 61]
theorem succ_p (a t : List UInt8) (ha : a.length ≤ 1000) (ht : t.length ≤ 1000) : chap2_Success 200000 a t = some (ofB ((a ++ mM) ++ t)) := by
 have bl := big_len
 unfold chap2_Success
 iterate 2 (refine (bpos (by simp only [List.length_append, List.length_cons, List.length_nil]; omega)).trans ?_)
 refine (rpos (by simp only [List.length_append, List.length_cons, List.length_nil]; omega)).trans ?_
 rfl
end Go.Proofs.YtphkpiocblmpeaaGreatDoor
namespace Go.Proofs.YtphkpiocblmpeaaGreatDoor
set_option maxRecDepth 100000
open Go.RowKit
set_option maxRecDepth 100000
theorem alive11 : law11_alive 200000 = some true := by decide +kernel
end Go.Proofs.YtphkpiocblmpeaaGreatDoor
namespace Go.Proofs.YtphkpiocblmpeaaGreatDoor
set_option maxRecDepth 100000
open Go.RowKit
set_option linter.unusedVariables false
set_option linter.unusedSimpArgs false
set_option maxRecDepth 100000
theorem bvp {α : Type} {v : Bool} {x y : α} (h : v = true) : (bif v then x else y) = x := by rw [h]; rfl
theorem bvn {α : Type} {v : Bool} {x y : α} (h : v = false) : (bif v then x else y) = y := by rw [h]; rfl
abbrev TF : Td := .pair (.int .i64) (.pair .bool (.pair (.arr 16 (.int .u8)) .str))
theorem wf_fine {f : Fl} (h : fine f) (ht : f.2.2.2.length ≤ 100000) : wfB TF f = true := by
 obtain ⟨n, ag, c, t⟩ := f
 obtain ⟨h1, h2, h3, h4⟩ := h
 have hb := wfB_b c h4
 have hl : (Lit.int .i64 n).wf = true := by
  simp only [Lit.wf, Bool.and_eq_true, decide_eq_true_eq, IntKind.min, IntKind.max, IntKind.signed, IntKind.bits]
  simp at h1 h2 ⊢
  omega
 show ((Lit.int .i64 n).wf && (true && (wfB (.arr 16 (.int .u8)) c && decide (t.length ≤ maxLen)))) = true
 rw [hl, hb, decide_eq_true (by have := big_len; simp only at ht; omega)]
 rfl
end Go.Proofs.YtphkpiocblmpeaaGreatDoor
namespace Go.Proofs.YtphkpiocblmpeaaGreatDoor
set_option maxRecDepth 100000
set_option maxRecDepth 100000
theorem consts04 : md4_constants 200000 = some (Arr.cons 0 (Arr.cons 1518500249 (Arr.cons 1859775393 Arr.nil))) := by kernel_rfl
end Go.Proofs.YtphkpiocblmpeaaGreatDoor
namespace Go.Proofs.YtphkpiocblmpeaaGreatDoor
set_option maxRecDepth 100000
open Go.RowKit
set_option linter.unusedVariables false
set_option linter.unusedSimpArgs false
set_option maxRecDepth 100000
def AllW (l : List Int) : Prop := ∀ x ∈ l, 0 ≤ x ∧ x < 4294967296
theorem AllW.get {l : List Int} (h : AllW l) (i : Nat) (hi : i < l.length) : 0 ≤ l[i] ∧ l[i] < 4294967296 := h _ (List.getElem_mem hi)
theorem AllW.set {l : List Int} (h : AllW l) (i : Nat) {x : Int} (hx : 0 ≤ x ∧ x < 4294967296) : AllW (l.set i x) := fun y hy => by
 rcases List.mem_or_eq_of_mem_set hy with h1 | rfl
 ·exact h y h1
 ·exact hx
theorem w32 (x : Int) : IntKind.wrap .u32 x = x % 4294967296 := IntKind.wrap_u32 x
theorem w32r (x : Int) : 0 ≤ IntKind.wrap .u32 x ∧ IntKind.wrap .u32 x < 4294967296 := by rw [w32]; omega
theorem or32r (a b : Int) : 0 ≤ bits .or .u32 a b ∧ bits .or .u32 a b < 4294967296 := w32r _
theorem drop4 (l : List Int) (i : Nat) (h : i + 4 ≤ l.length) : (l.drop i).take (i + 4 - i) = [l[i], l[i + 1], l[i + 2], l[i + 3]] := by
 rw [show i + 4 - i = 4 by omega, List.drop_eq_getElem_cons (by omega), List.drop_eq_getElem_cons (by omega), List.drop_eq_getElem_cons (by omega), List.drop_eq_getElem_cons (by omega)]
 rfl
section
variable {N : Nat}
theorem get4l (u z y x : Int) (hx : 0 ≤ x ∧ x < 256) (hy : 0 ≤ y ∧ y < 256) (hz : 0 ≤ z ∧ z < 256) (hu : 0 ≤ u ∧ u < 256) (hN : 100 ≤ N) : octs_Get N [u, z, y, x] true = some (((x * 256 + y) * 256 + z) * 256 + u, 0) := by
 show qOGet N [u, z, y, x] true = _
 obtain ⟨M, rfl⟩ : ∃ M, N = M + 5 := ⟨N - 5, by omega⟩
 have w3 : IntKind.wrap .i64 ((0 : Int) + 1) = 1 := by decide
 have w4 : IntKind.wrap .i64 ((1 : Int) + 1) = 2 := by decide
 have w5 : IntKind.wrap .i64 ((2 : Int) + 1) = 3 := by decide
 have w6 : IntKind.wrap .i64 ((3 : Int) + 1) = 4 := by decide
 have m0 : IntKind.wrap .i64 ((8 : Int) * 0) = 0 := by decide
 have m1 : IntKind.wrap .i64 ((8 : Int) * 1) = 8 := by decide
 have m2 : IntKind.wrap .i64 ((8 : Int) * 2) = 16 := by decide
 have m3 : IntKind.wrap .i64 ((8 : Int) * 3) = 24 := by decide
 have x1 : IntKind.wrap .u64 x = x := wrapU64 (by omega) (by omega)
 have y1 : IntKind.wrap .u64 y = y := wrapU64 (by omega) (by omega)
 have z1 : IntKind.wrap .u64 z = z := wrapU64 (by omega) (by omega)
 have u1 : IntKind.wrap .u64 u = u := wrapU64 (by omega) (by omega)
 have e0 : (2 : Int) ^ min (Int.toNat 0) (IntKind.bits IntKind.u64) = 1 := by decide
 have e1 : (2 : Int) ^ min (Int.toNat 8) (IntKind.bits IntKind.u64) = 256 := by decide
 have e2 : (2 : Int) ^ min (Int.toNat 16) (IntKind.bits IntKind.u64) = 65536 := by decide
 have e3 : (2 : Int) ^ min (Int.toNat 24) (IntKind.bits IntKind.u64) = 16777216 := by decide
 have u2 : IntKind.wrap .u64 (u * 1) = u := by rw [Int.mul_one]; exact u1
 have z2 : IntKind.wrap .u64 (z * 256) = z * 256 := wrapU64 (by omega) (by omega)
 have y2 : IntKind.wrap .u64 (y * 65536) = y * 65536 := wrapU64 (by omega) (by omega)
 have x2 : IntKind.wrap .u64 (x * 16777216) = x * 16777216 := wrapU64 (by omega) (by omega)
 have o1 : bits .or .u64 0 u = u := by
  have := or_at 0 u 0 (by decide) (by decide) (by decide) (by omega) (by simp; omega)
  simpa using this
 have o2 : bits .or .u64 u (z * 256) = z * 256 + u := or_at u z 8 (by omega) (by show u.toNat < 256; omega) (by omega) (by omega) (by show z.toNat * 256 < _; omega)
 have o3 : bits .or .u64 (z * 256 + u) (y * 65536) = y * 65536 + (z * 256 + u) := or_at (z * 256 + u) y 16 (by omega) (by show (z * 256 + u).toNat < 65536; omega) (by omega) (by omega) (by show y.toNat * 65536 < _; omega)
 have o4 : bits .or .u64 (y * 65536 + (z * 256 + u)) (x * 16777216) = x * 16777216 + (y * 65536 + (z * 256 + u)) := or_at (y * 65536 + (z * 256 + u)) x 24 (by omega) (by show (y * 65536 + (z * 256 + u)).toNat < 16777216; omega) (by omega) (by omega) (by show x.toNat * 16777216 < _; omega)
 have fin : x * 16777216 + (y * 65536 + (z * 256 + u)) = ((x * 256 + y) * 256 + z) * 256 + u := by omega
 have g0 : getI [u, z, y, x] (0 : Int) = some u := rfl
 have g1 : getI [u, z, y, x] (1 : Int) = some z := rfl
 have g2 : getI [u, z, y, x] (2 : Int) = some y := rfl
 have g3 : getI [u, z, y, x] (3 : Int) = some x := rfl
 have l4 : (([u, z, y, x] : List Int).length : Int) = 4 := rfl
 rw [← fin]
 simp only [qOGet, qOGetL5R, gl, qOGetL5, qOplace, l4, cond_false, cond_true, Option.bind_some, w3, w4, w5, w6, m0, m1, m2, m3, x1, y1, z1, u1, e0, e1, e2, e3, u2, z2, y2, x2, o1, o2, o3, o4, g0, g1, g2, g3]
 simp [w3, w4, w5, w6, m1, m2, m3, x1, y1, z1, u1, e1, e2, e3, z2, y2, x2, o2, o3, o4, g0, g1, g2, g3]
def lew (l : List Int) (j : Nat) : Int := ((l.getD (4 * j + 3) 0 * 256 + l.getD (4 * j + 2) 0) * 256 + l.getD (4 * j + 1) 0) * 256 + l.getD (4 * j) 0
theorem AllB.getD {l : List Int} (h : AllB l) (i : Nat) : 0 ≤ l.getD i 0 ∧ l.getD i 0 < 256 := by
 rw [List.getD_eq_getElem?_getD]
 cases hq : l[i]? with
 | none => simp
 | some x => exact h x (List.mem_of_getElem? hq)
theorem lew_W {l : List Int} (h : AllB l) (j : Nat) : 0 ≤ lew l j ∧ lew l j < 4294967296 := by
 have h0 := h.getD (4 * j); have h1 := h.getD (4 * j + 1); have h2 := h.getD (4 * j + 2); have h3 := h.getD (4 * j + 3)
 unfold lew; omega
theorem getD_at {l : List Int} {i : Nat} (h : i < l.length) : l.getD i 0 = l[i] := by simp [List.getD_eq_getElem?_getD, h]
theorem words_loop (hN : 10000 ≤ N) (b : Arr Int 64) (hb : AllB b.l) (h0 : Arr Int 16) : ∀ (k M i : Nat) (h1 : Arr Int 16), k + i = 16 → k < M → (∀ j, j < i → h1.l[j]? = some (lew b.l j)) →
  ∃ h2 : Arr Int 16, (∀ j, j < 16 → h2.l[j]? = some (lew b.l j)) ∧ gl (fun X c => md4_words_L3 N X c.1.1 c.1.2.1 c.2.1 c.2.2.1) M ((b, ((i : Int), ())), (h0, (h1, ()))) = some ((), (h0, (h2, ())))
 | 0, M + 1, i, h1, hk, hM, hw => by
  have c1 : ¬ ((i : Int) < 16) := by omega
  refine ⟨h1, fun j hj => hw j (by omega), ?_⟩
  simp only [gl, md4_words_L3, c1, decide_false, cond_false]
 | k + 1, M + 1, i, h1, hk, hM, hw => by
  have hl := h1.h
  have hbl := b.h
  have c1 : ((i : Int) < 16) := by omega
  have c2 : (0 : Int) ≤ (i : Int) ∧ (i : Int) < ((16 : Nat) : Int) := by omega
  have e0 : IntKind.wrap .i64 ((i : Int) + 1) = ((i + 1 : Nat) : Int) := by rw [wrap64 (by omega) (by omega)]; omega
  have e1 : Int.toNat (i : Int) = i := Int.toNat_natCast i
  have g1 : h1.l[i]? = some (h1.l[i]'(by omega)) := List.getElem?_eq_getElem _
  have s1 : IntKind.wrap .i64 ((4 : Int) * (i : Int)) = ((4 * i : Nat) : Int) := by rw [wrap64 (by omega) (by omega)]; omega
  have s2 : IntKind.wrap .i64 (((4 * i : Nat) : Int) + 4) = ((4 * i + 4 : Nat) : Int) := by rw [wrap64 (by omega) (by omega)]; omega
  have s6 : subI b.l ((4 * i : Nat) : Int) ((4 * i + 4 : Nat) : Int) = some [b.l[4 * i]'(by omega), b.l[4 * i + 1]'(by omega), b.l[4 * i + 2]'(by omega), b.l[4 * i + 3]'(by omega)] := by
   rw [subI_nat b.l rfl rfl (by omega) (by omega), drop4 b.l (4 * i) (by omega)]
  have ba := hb.get (4 * i) (by omega)
  have bb := hb.get (4 * i + 1) (by omega)
  have bc := hb.get (4 * i + 2) (by omega)
  have bd := hb.get (4 * i + 3) (by omega)
  have s7 := get4l (N := N) _ _ _ _ bd bc bb ba (by omega)
  have hlw : lew b.l i = ((b.l[4 * i + 3]'(by omega) * 256 + b.l[4 * i + 2]'(by omega)) * 256 + b.l[4 * i + 1]'(by omega)) * 256 + b.l[4 * i]'(by omega) := by
   unfold lew
   rw [getD_at (by omega), getD_at (by omega), getD_at (by omega), getD_at (by omega)]
  rw [← hlw] at s7
  have v1 : IntKind.wrap .u32 (lew b.l i) = lew b.l i := by have := lew_W hb i; rw [w32]; omega
  obtain ⟨h2, r1, r2⟩ := words_loop hN b hb h0 k M (i + 1) (h1.set i (lew b.l i)) (by omega) (by omega) (fun j hj => by
   show (h1.l.set i (lew b.l i))[j]? = _
   by_cases hji : j = i
   ·subst hji; rw [List.getElem?_set_self (by omega)]
   ·rw [List.getElem?_set_ne (by omega)]; exact hw j (by omega))
  refine ⟨h2, r1, ?_⟩
  rw [gl_succ]
  simp only [md4_words_L3, c1, decide_true, cond_true, s1, s2, s6, Option.bind_some, s7, c2, and_self, e1, g1, e0, v1]
  exact r2
theorem words_ok (hN : 10000 ≤ N) (b : Arr Int 64) (hb : AllB b.l) : ∃ W : Arr Int 16, (∀ j, j < 16 → W.l[j]? = some (lew b.l j)) ∧ md4_words N b = some W := by
 obtain ⟨W, h1, h2⟩ := words_loop hN b hb ⟨List.replicate 16 0, rfl⟩ 16 N 0 ⟨List.replicate 16 0, rfl⟩ (by omega) (by omega) (fun j hj => by omega)
 refine ⟨W, h1, ?_⟩
 have h2' : md4_words_L3_R N ((b, ((0 : Int), ())), ((⟨List.replicate 16 0, rfl⟩ : Arr Int 16), ((⟨List.replicate 16 0, rfl⟩ : Arr Int 16), ()))) = some ((), ((⟨List.replicate 16 0, rfl⟩ : Arr Int 16), (W, ()))) := h2
 unfold md4_words
 refine (congrArg (fun o => Option.bind o _) h2').trans ?_
 rfl
end
theorem rot_pair (N : Nat) (x k : Int) (hk : k = 3 ∨ k = 5 ∨ k = 7 ∨ k = 9 ∨ k = 11 ∨ k = 13 ∨ k = 15 ∨ k = 19) : ∃ r, 0 ≤ r ∧ r < 4294967296 ∧ math_bits_RotateLeft32 N x k = some r ∧ True := by
 rcases hk with rfl | rfl | rfl | rfl | rfl | rfl | rfl | rfl
 ·exact ⟨bits .or .u32 (IntKind.wrap .u32 (x * 8)) (Int.fdiv x 536870912), (or32r _ _).1, (or32r _ _).2, by kernel_rfl, trivial⟩
 ·exact ⟨bits .or .u32 (IntKind.wrap .u32 (x * 32)) (Int.fdiv x 134217728), (or32r _ _).1, (or32r _ _).2, by kernel_rfl, trivial⟩
 ·exact ⟨bits .or .u32 (IntKind.wrap .u32 (x * 128)) (Int.fdiv x 33554432), (or32r _ _).1, (or32r _ _).2, by kernel_rfl, trivial⟩
 ·exact ⟨bits .or .u32 (IntKind.wrap .u32 (x * 512)) (Int.fdiv x 8388608), (or32r _ _).1, (or32r _ _).2, by kernel_rfl, trivial⟩
 ·exact ⟨bits .or .u32 (IntKind.wrap .u32 (x * 2048)) (Int.fdiv x 2097152), (or32r _ _).1, (or32r _ _).2, by kernel_rfl, trivial⟩
 ·exact ⟨bits .or .u32 (IntKind.wrap .u32 (x * 8192)) (Int.fdiv x 524288), (or32r _ _).1, (or32r _ _).2, by kernel_rfl, trivial⟩
 ·exact ⟨bits .or .u32 (IntKind.wrap .u32 (x * 32768)) (Int.fdiv x 131072), (or32r _ _).1, (or32r _ _).2, by kernel_rfl, trivial⟩
 ·exact ⟨bits .or .u32 (IntKind.wrap .u32 (x * 524288)) (Int.fdiv x 8192), (or32r _ _).1, (or32r _ _).2, by kernel_rfl, trivial⟩
def ks04 : Arr Int 3 := Arr.cons 0 (Arr.cons 1518500249 (Arr.cons 1859775393 Arr.nil))
def ta04 : List (Arr Int 4) := [⟨[3, 7, 11, 19], rfl⟩, ⟨[3, 5, 9, 13], rfl⟩, ⟨[3, 9, 11, 15], rfl⟩]
def tl04 : List (List Int) := [[3, 7, 11, 19], [3, 5, 9, 13], [3, 9, 11, 15]]
section
variable {N : Nat}
theorem div16 (i : Nat) (hi : i < 48) : IntKind.wrap .i64 (Int.tdiv (i : Int) 16) = ((i / 16 : Nat) : Int) := by
 rw [Int.tdiv_eq_ediv_of_nonneg (by omega), wrap64 (by omega) (by omega)]; omega
theorem mix_pair (q : Nat) (hq : q < 3) (b c d : Int) (hb : 0 ≤ b ∧ b < 4294967296) : ∃ m k, md4_mixed N (q : Int) b c d = some m ∧ getI ks04.l (q : Int) = some k ∧ True := by
 have hq : q = 0 ∨ q = 1 ∨ q = 2 := by omega
 unfold md4_mixed
 rcases hq with rfl | rfl | rfl
 ·exact ⟨_, 0, rfl, rfl, trivial⟩
 ·exact ⟨_, 1518500249, rfl, rfl, trivial⟩
 ·exact ⟨_, 1859775393, rfl, rfl, trivial⟩
theorem place_all : ((List.range 48).all fun i => match md4_place 0 (i : Int) with | some a => decide (0 ≤ a) && decide (a < 16) | none => false) = true := by decide +kernel
theorem place_pair (i : Nat) (hi : i < 48) : ∃ j : Nat, j < 16 ∧ md4_place N (i : Int) = some (j : Int) ∧ True := by
 have h := List.all_eq_true.1 place_all i (List.mem_range.2 hi)
 show ∃ j : Nat, j < 16 ∧ md4_place 0 (i : Int) = some (j : Int) ∧ True
 revert h
 generalize md4_place 0 (i : Int) = x
 intro h
 split at h
 ·rename_i a
  simp only [Bool.and_eq_true, decide_eq_true_eq] at h
  obtain ⟨h1, h2⟩ := h
  exact ⟨a.toNat, by omega, by rw [Int.toNat_of_nonneg h1], trivial⟩
 ·cases h
theorem turns_pair (i : Nat) (hi : i < 48) : ∃ (a : Arr Int 4) (l : List Int) (k : Int), getI ta04 ((i / 16 : Nat) : Int) = some a ∧ getI a.l (Int.tmod (i : Int) 4) = some k ∧ getI tl04 ((i / 16 : Nat) : Int) = some l ∧ getI l (Int.tmod (i : Int) 4) = some k ∧
  (k = 3 ∨ k = 5 ∨ k = 7 ∨ k = 9 ∨ k = 11 ∨ k = 13 ∨ k = 15 ∨ k = 19) := by
 have e : Int.tmod (i : Int) 4 = ((i % 4 : Nat) : Int) := by rw [Int.tmod_eq_emod_of_nonneg (by omega)]; omega
 rw [e]
 have hq : i / 16 = 0 ∨ i / 16 = 1 ∨ i / 16 = 2 := by omega
 have hr : i % 4 = 0 ∨ i % 4 = 1 ∨ i % 4 = 2 ∨ i % 4 = 3 := by omega
 rcases hq with hq | hq | hq <;> rcases hr with hr | hr | hr | hr <;> rw [hq, hr] <;> exact ⟨_, _, _, rfl, rfl, rfl, rfl, by decide⟩
theorem steps_pair (hN : 10000 ≤ N) (blk : Arr Int 64) (hB : AllB blk.l) (W : Arr Int 16) (hW : ∀ j, j < 16 → W.l[j]? = some (lew blk.l j)) (s : Arr Int 4) (h0 h0' : Arr Int 4) : ∀ (k M i : Nat) (t : Arr Int 4), k + i = 48 → k < M → AllW t.l →
  ∃ t2 : Arr Int 4, AllW t2.l ∧ gl (fun X c => md4_behind_L4 N X c.1.1 c.1.2.1 c.1.2.2.1 c.2.1 c.2.2.1 c.2.2.2.1) M ((s, (ks04, ((i : Int), ()))), (h0, (W, (t, ())))) = some ((s, ()), (h0, (t2, ()))) ∧ True
 | 0, M + 1, i, t, hk, hM, hw => by
  have c1 : ¬ ((i : Int) < 48) := by omega
  refine ⟨t, hw, ?_, ?_⟩
  ·simp only [gl, md4_behind_L4, c1, decide_false, cond_false]
  ·trivial
 | k + 1, M + 1, i, t, hk, hM, hw => by
  have hbl := blk.h
  have c1 : ((i : Int) < 48) := by omega
  have e0 : IntKind.wrap .i64 ((i : Int) + 1) = ((i + 1 : Nat) : Int) := by rw [wrap64 (by omega) (by omega)]; omega
  have dq := div16 i (by omega)
  obtain ⟨j, j1, j2, j3⟩ := place_pair (N := N) i (by omega)
  obtain ⟨ar, lr, kk, k1, k2, k3, k4, k5⟩ := turns_pair i (by omega)
  have c2 : (0 : Int) ≤ (j : Int) ∧ (j : Int) < ((16 : Nat) : Int) := by omega
  have e1 : Int.toNat (j : Int) = j := Int.toNat_natCast j
  have g1 := hW j j1
  have s1 : IntKind.wrap .i64 ((4 : Int) * (j : Int)) = ((4 * j : Nat) : Int) := by rw [wrap64 (by omega) (by omega)]; omega
  have s3 : IntKind.wrap .i64 (((4 * j : Nat) : Int) + 1) = ((4 * j + 1 : Nat) : Int) := by rw [wrap64 (by omega) (by omega)]; omega
  have s4 : IntKind.wrap .i64 (((4 * j : Nat) : Int) + 2) = ((4 * j + 2 : Nat) : Int) := by rw [wrap64 (by omega) (by omega)]; omega
  have s5 : IntKind.wrap .i64 (((4 * j : Nat) : Int) + 3) = ((4 * j + 3 : Nat) : Int) := by rw [wrap64 (by omega) (by omega)]; omega
  have ba := hB.get (4 * j) (by omega)
  have bb := hB.get (4 * j + 1) (by omega)
  have bc := hB.get (4 * j + 2) (by omega)
  have bd := hB.get (4 * j + 3) (by omega)
  have G0 := getI_lt blk.l (4 * j) (by omega)
  have G1 := getI_lt blk.l (4 * j + 1) (by omega)
  have G2 := getI_lt blk.l (4 * j + 2) (by omega)
  have G3 := getI_lt blk.l (4 * j + 3) (by omega)
  have hlw : lew blk.l j = ((blk.l[4 * j + 3]'(by omega) * 256 + blk.l[4 * j + 2]'(by omega)) * 256 + blk.l[4 * j + 1]'(by omega)) * 256 + blk.l[4 * j]'(by omega) := by
   unfold lew
   rw [getD_at (by omega), getD_at (by omega), getD_at (by omega), getD_at (by omega)]
  generalize lew blk.l j = wj at *
  generalize hx : blk.l[4 * j]'(by omega) = x at *
  generalize hy : blk.l[4 * j + 1]'(by omega) = y at *
  generalize hz : blk.l[4 * j + 2]'(by omega) = z at *
  generalize hu : blk.l[4 * j + 3]'(by omega) = u at *
  have v2 : IntKind.wrap .u32 (IntKind.wrap .u32 (IntKind.wrap .u32 (IntKind.wrap .u32 x + IntKind.wrap .u32 (IntKind.wrap .u32 y * 256)) + IntKind.wrap .u32 (IntKind.wrap .u32 z * 65536)) + IntKind.wrap .u32 (IntKind.wrap .u32 u * 16777216)) = wj := by
   simp only [w32]; omega
  match t, hw with
  | ⟨[a, b, c, d], ht⟩, hw =>
   have ra := hw a (by simp)
   have rb := hw b (by simp)
   have rc := hw c (by simp)
   have rd := hw d (by simp)
   obtain ⟨m, kc, m1, m2, m3⟩ := mix_pair (N := N) (i / 16) (by omega) b c d rb
   have z0 : ([a, b, c, d] : List Int)[Int.toNat 0]? = some a := rfl
   have z1 : ([a, b, c, d] : List Int)[Int.toNat 1]? = some b := rfl
   have z2 : ([a, b, c, d] : List Int)[Int.toNat 2]? = some c := rfl
   have z3 : ([a, b, c, d] : List Int)[Int.toNat 3]? = some d := rfl
   have x1 : IntKind.wrap .u32 (IntKind.wrap .u32 (a + IntKind.wrap .u32 (m + kc)) + wj) = IntKind.wrap .u32 (IntKind.wrap .u32 (IntKind.wrap .u32 (a + m) + wj) + kc) := by
    simp only [w32]; omega
   obtain ⟨r, r1, r2, r3, r4⟩ := rot_pair N (IntKind.wrap .u32 (IntKind.wrap .u32 (IntKind.wrap .u32 (a + m) + wj) + kc)) kk k5
   obtain ⟨t2, q1, q2, q3⟩ := steps_pair hN blk hB W hW s h0 h0' k M (i + 1) (Arr.cons d (Arr.cons r (Arr.cons b (Arr.cons c Arr.nil)))) (by omega) (by omega) (fun x hx => by
    simp only [Arr.cons, Arr.nil, List.mem_cons, List.not_mem_nil, or_false] at hx
    rcases hx with rfl | rfl | rfl | rfl
    ·exact rd
    ·exact ⟨r1, r2⟩
    ·exact rb
    ·exact rc)
   refine ⟨t2, q1, ?_, ?_⟩
   ·rw [gl_succ]
    unfold ta04 at k1
    simp only [md4_behind_L4, c1, decide_true, cond_true, z0, z1, z2, z3, Option.bind_some, dq, m1, j2, c2, and_self, e1, g1, m2, k1, k2, r3, e0]
    exact q2
   ·trivial
theorem add_pair (hN : 10000 ≤ N) (s h0 : Arr Int 4) (hs : AllW s.l) : ∀ (k M i : Nat) (t : Arr Int 4), k + i = 4 → k < M → AllW t.l →
  ∃ t2 : Arr Int 4, AllW t2.l ∧ gl (fun X c => md4_behind_L11 N X c.1.1 c.1.2.1 c.2.1 c.2.2.1) M ((s, ((i : Int), ())), (h0, (t, ()))) = some ((), (h0, (t2, ()))) ∧ True
 | 0, M + 1, i, t, hk, hM, hw => by
  have c1 : ¬ ((i : Int) < 4) := by omega
  refine ⟨t, hw, ?_, ?_⟩
  ·simp only [gl, md4_behind_L11, c1, decide_false, cond_false]
  ·trivial
 | k + 1, M + 1, i, t, hk, hM, hw => by
  have hl := t.h
  have hsl := s.h
  have c1 : ((i : Int) < 4) := by omega
  have c2 : (0 : Int) ≤ (i : Int) ∧ (i : Int) < ((4 : Nat) : Int) := by omega
  have e0 : IntKind.wrap .i64 ((i : Int) + 1) = ((i + 1 : Nat) : Int) := by rw [wrap64 (by omega) (by omega)]; omega
  have e1 : Int.toNat (i : Int) = i := Int.toNat_natCast i
  have g1 : t.l[i]? = some (t.l[i]'(by omega)) := List.getElem?_eq_getElem _
  have g2 := getI_lt s.l i (by omega)
  obtain ⟨t2, r1, r2, r3⟩ := add_pair hN s h0 hs k M (i + 1) (t.set i (IntKind.wrap .u32 (t.l[i]'(by omega) + s.l[i]'(by omega)))) (by omega) (by omega) (hw.set i (w32r _))
  refine ⟨t2, r1, ?_, ?_⟩
  ·rw [gl_succ]
   simp only [md4_behind_L11, c1, decide_true, cond_true, c2, and_self, e1, g1, g2, e0, Option.bind_some]
   exact r2
  ·trivial
theorem behind_pair (hN : 10000 ≤ N) (s : Arr Int 4) (b : Arr Int 64) (hs : AllW s.l) (hb : AllB b.l) : ∃ t : Arr Int 4, AllW t.l ∧ md4_behind N s b ks04 = some t ∧ True := by
 unfold md4_behind
 obtain ⟨W, w1, w2⟩ := words_ok (N := N) hN b hb
 obtain ⟨t, t1, t2, t3⟩ := steps_pair (N := N) hN b hb W w1 s ⟨List.replicate 4 0, rfl⟩ ⟨List.replicate 4 0, rfl⟩ 48 N 0 s (by omega) (by omega) hs
 have t2' : md4_behind_L4_R N ((s, (ks04, ((0 : Int), ()))), ((⟨List.replicate 4 0, rfl⟩ : Arr Int 4), (W, (s, ())))) = some ((s, ()), ((⟨List.replicate 4 0, rfl⟩ : Arr Int 4), (t, ()))) := t2
 obtain ⟨u, u1, u2, u3⟩ := add_pair (N := N) hN s ⟨List.replicate 4 0, rfl⟩ hs 4 N 0 t (by omega) (by omega) t1
 have u2' : md4_behind_L11_R N ((s, ((0 : Int), ())), ((⟨List.replicate 4 0, rfl⟩ : Arr Int 4), (t, ()))) = some ((), ((⟨List.replicate 4 0, rfl⟩ : Arr Int 4), (u, ()))) := u2
 refine ⟨u, u1, ?_, ?_⟩
 ·rw [w2, Option.bind_some]
  refine (congrArg (fun o => Option.bind o _) t2').trans ?_
  simp only [Option.bind_some]
  refine (congrArg (fun o => Option.bind o _) u2').trans ?_
  rfl
 ·trivial
end
def le8 (n : Int) : List Int := [n % 256, n / 256 % 256, n / 65536 % 256, n / 16777216 % 256, n / 4294967296 % 256, n / 1099511627776 % 256, n / 281474976710656 % 256, n / 72057594037927936 % 256]
theorem le8_B (n : Int) : AllB (le8 n) := fun x hx => by
 simp only [le8, List.mem_cons, List.not_mem_nil, or_false] at hx
 rcases hx with rfl | rfl | rfl | rfl | rfl | rfl | rfl | rfl <;> omega
section
variable {N : Nat}
theorem put8 (n : Int) (h : 0 ≤ n ∧ n < 18446744073709551616) (hN : 100 ≤ N) : octs_Put N n 8 true = some (le8 n, 0) := by
 obtain ⟨M, rfl⟩ : ∃ M, N = M + 9 := ⟨N - 9, by omega⟩
 have r1 : roomB (Int.toNat 8) 1 = true := by decide
 have r2 : List.replicate (Int.toNat 8) (0 : Int) = [0, 0, 0, 0, 0, 0, 0, 0] := rfl
 have w1 : IntKind.wrap .i64 ((8 : Int) - 1) = 7 := by decide
 have v0 : IntKind.wrap .i64 ((7 : Int) - 0) = 7 := by decide
 have v1 : IntKind.wrap .i64 ((7 : Int) - 1) = 6 := by decide
 have v2 : IntKind.wrap .i64 ((7 : Int) - 2) = 5 := by decide
 have v3 : IntKind.wrap .i64 ((7 : Int) - 3) = 4 := by decide
 have v4 : IntKind.wrap .i64 ((7 : Int) - 4) = 3 := by decide
 have v5 : IntKind.wrap .i64 ((7 : Int) - 5) = 2 := by decide
 have v6 : IntKind.wrap .i64 ((7 : Int) - 6) = 1 := by decide
 have v7 : IntKind.wrap .i64 ((7 : Int) - 7) = 0 := by decide
 have w3 : IntKind.wrap .i64 ((0 : Int) + 1) = 1 := by decide
 have w4 : IntKind.wrap .i64 ((1 : Int) + 1) = 2 := by decide
 have w5 : IntKind.wrap .i64 ((2 : Int) + 1) = 3 := by decide
 have w6 : IntKind.wrap .i64 ((3 : Int) + 1) = 4 := by decide
 have w7 : IntKind.wrap .i64 ((4 : Int) + 1) = 5 := by decide
 have w8 : IntKind.wrap .i64 ((5 : Int) + 1) = 6 := by decide
 have w9 : IntKind.wrap .i64 ((6 : Int) + 1) = 7 := by decide
 have w10 : IntKind.wrap .i64 ((7 : Int) + 1) = 8 := by decide
 have e1 : (2 : Int) ^ min (Int.toNat 8) (IntKind.bits IntKind.u64) = 256 := by decide
 have fd : ∀ x : Int, Int.fdiv x 256 = x / 256 := fun x => Int.fdiv_eq_ediv_of_nonneg _ (by decide)
 have d2 : n / 256 / 256 = n / 65536 := by omega
 have d3 : n / 65536 / 256 = n / 16777216 := by omega
 have d4 : n / 16777216 / 256 = n / 4294967296 := by omega
 have d5 : n / 4294967296 / 256 = n / 1099511627776 := by omega
 have d6 : n / 1099511627776 / 256 = n / 281474976710656 := by omega
 have d7 : n / 281474976710656 / 256 = n / 72057594037927936 := by omega
 have u8 : ∀ x : Int, IntKind.wrap .u8 x = x % 256 := fun x => by rw [IntKind.wrap_u8]
 simp only [octs_Put, octs_Put_L5_R, gl, octs_Put_L5, octs_place, r1, r2, e1, cond_false, cond_true, Option.bind_some, w1, v0, v1, v2, v3, v4, v5, v6, v7, w3, w4, w5, w6, w7, w8, w9, w10]
 simp [w1, v0, v1, v2, v3, v4, v5, v6, v7, w3, w4, w5, w6, w7, w8, w9, w10, fd, d2, d3, d4, d5, d6, d7, u8, le8]
def nz (n : Int) : Nat := ((119 - n % 64) % 64).toNat
def tail4 (n : Int) : List Int := [128] ++ List.replicate (nz n) 0 ++ le8 (8 * n % 18446744073709551616)
theorem nz_lt (n : Int) : nz n < 64 := by unfold nz; omega
theorem tail4_len (n : Int) : (tail4 n).length = nz n + 9 := by simp [tail4, le8]
theorem tail4_B (n : Int) : AllB (tail4 n) := by
 refine AllB.append (AllB.append (AllB.cons (by omega) AllB.nil) fun x hx => ?_) (le8_B _)
 rw [(List.mem_replicate.1 hx).2]; omega
theorem md4_tail_ok (n : Int) (h : 0 ≤ n ∧ n < 18446744073709551616) (hN : 10000 ≤ N) : md4_Tail N n = some (tail4 n) := by
 unfold md4_Tail
 have hw : IntKind.wrap .u64 ((8 : Int) * n) = 8 * n % 18446744073709551616 := by rw [IntKind.wrap_u64]
 have hz : Int.tmod (IntKind.wrap .u64 ((119 : Int) - Int.tmod n 64)) 64 = ((nz n : Nat) : Int) := by
  have hm : Int.tmod n 64 = n % 64 := Int.tmod_eq_emod_of_nonneg h.1
  rw [hm, wrapU64 (by omega) (by omega), Int.tmod_eq_emod_of_nonneg (by omega)]
  unfold nz
  omega
 have hl := nz_lt n
 have c1 : ((decide ((0 : Int) ≤ ((nz n : Nat) : Int) ∧ ((nz n : Nat) : Int) ≤ ((nz n : Nat) : Int))) && roomB (nz n) 1) = true := by
  have : roomB (nz n) 1 = true := roomB_of (by have := big_len; omega) (by omega)
  simp [this]
 rw [hw, put8 _ (by omega) (by omega), hz]
 simp only [Option.bind_some, c1, cond_true, Int.toNat_natCast]
 refine (join_ok (N := N) [[128], List.replicate (nz n) 0, le8 (8 * n % 18446744073709551616)] (by simp) ?_ ?_).trans ?_
 all_goals first | omega | skip
 ·simp [le8]; omega
 ·simp [tail4]
end
theorem flat_len (m : List (List Int)) (k : Nat) (h : ∀ p ∈ m, p.length ≤ k) : m.flatten.length ≤ k * m.length := by
 induction m with
 | nil => simp
 | cons p m ih =>
  have h1 := h p List.mem_cons_self
  have h2 := ih fun q hq => h q (List.mem_cons_of_mem _ hq)
  rw [List.flatten_cons, List.length_append, List.length_cons, Nat.mul_add]
  omega
section
variable {N : Nat}
theorem joinS (l : List (List Int)) (h0 : Arr Int 16) (hl : l.length ≤ 1000) (hs : ∀ p ∈ l, p.length ≤ 100000) (hN : 2000 ≤ N) :
  md4_Of_1_octs_Join_L3_R N ((l, ((0 : Int), (l, ((l.length : Int), ((0 : Int), ()))))), (h0, ())) = some ((l, ((l.flatten.length : Int), ())), (h0, ())) ∧
  md4_Of_1_octs_Join_L9_R N ((l, ((l.length : Int), ((0 : Int), ()))), (h0, (([] : List Int), ()))) = some ((), (h0, (l.flatten, ()))) := by
 have tk : ∀ i, (l.take i).flatten.length ≤ 100000000 := fun i => by
  have := flat_len (l.take i) 100000 fun p hp => hs p (List.mem_of_mem_take hp)
  rw [List.length_take] at this
  omega
 have hsn : ∀ i (hi : i < l.length), (l.take (i + 1)).flatten = (l.take i).flatten ++ l[i] := fun i hi => by
  have : l.take (i + 1) = l.take i ++ [l[i]] := by rw [List.take_add_one, List.getElem?_eq_getElem hi]; rfl
  rw [this, List.flatten_append]
  simp
 have h1 := gl_run (G := fun (X : ((List (List Int) × Int × List (List Int) × Int × Int × Unit) × Arr Int 16 × Unit) → Option ((List (List Int) × Int × Unit) × Arr Int 16 × Unit)) c => md4_Of_1_octs_Join_L3 N X c.1.1 c.1.2.1 c.1.2.2.1 c.1.2.2.2.1 c.1.2.2.2.2.1 c.2.1)
  (fun i => ((l, (((l.take i).flatten.length : Int), (l, ((l.length : Int), ((i : Int), ()))))), (h0, ()))) l.length ((l, ((l.flatten.length : Int), ())), (h0, ())) (fun X i hi => by
  have c1 : ((i : Int) < (l.length : Int)) := by omega
  have c2 : IntKind.wrap .i64 ((i : Int) + 1) = ((i + 1 : Nat) : Int) := by rw [wrap64 (by omega) (by omega)]; omega
  have hp := hs _ (List.getElem_mem hi)
  have ht := tk i
  have c3 : IntKind.wrap .i64 (((l.take i).flatten.length : Int) + (l[i].length : Int)) = (((l.take (i + 1)).flatten.length : Nat) : Int) := by rw [wrap64 (by omega) (by omega), hsn i hi, List.length_append]; omega
  simp only [md4_Of_1_octs_Join_L3, c1, decide_true, cond_true, getI_lt l i hi, Option.bind_some, c3, c2]) (fun X => by
  simp [md4_Of_1_octs_Join_L3]) N 0 (by omega) (by omega)
 have h2 := gl_run (G := fun (X : ((List (List Int) × Int × Int × Unit) × Arr Int 16 × List Int × Unit) → Option (Unit × Arr Int 16 × List Int × Unit)) c => md4_Of_1_octs_Join_L9 N X c.1.1 c.1.2.1 c.1.2.2.1 c.2.1 c.2.2.1)
  (fun i => ((l, ((l.length : Int), ((i : Int), ()))), (h0, ((l.take i).flatten, ())))) l.length ((), (h0, (l.flatten, ()))) (fun X i hi => by
  have c1 : ((i : Int) < (l.length : Int)) := by omega
  have c2 : IntKind.wrap .i64 ((i : Int) + 1) = ((i + 1 : Nat) : Int) := by rw [wrap64 (by omega) (by omega)]; omega
  have hp := hs _ (List.getElem_mem hi)
  have ht := tk i
  have c3 : roomB ((l.take i).flatten.length + l[i].length) 1 = true := roomB_of (by have := big_len; omega) (by omega)
  simp only [md4_Of_1_octs_Join_L9, c1, decide_true, cond_true, getI_lt l i hi, Option.bind_some, c3, c2, hsn i hi]) (fun X => by
  simp [md4_Of_1_octs_Join_L9]) N 0 (by omega) (by omega)
 simp only [Int.natCast_zero, List.take_zero, List.flatten_nil, List.length_nil] at h1 h2
 exact ⟨h1, h2⟩
theorem put4l (n : Int) (h : 0 ≤ n ∧ n < 4294967296) (hN : 100 ≤ N) : octs_Put N (IntKind.wrap .u64 n) 4 true = some ([n % 256, n / 256 % 256, n / 65536 % 256, n / 16777216 % 256], 0) := by
 rw [wrapU64 (by omega) (by omega)]
 show qOPut N n 4 true = _
 obtain ⟨M, rfl⟩ : ∃ M, N = M + 5 := ⟨N - 5, by omega⟩
 have r1 : roomB (Int.toNat 4) 1 = true := by decide
 have r2 : List.replicate (Int.toNat 4) (0 : Int) = [0, 0, 0, 0] := rfl
 have w3 : IntKind.wrap .i64 ((0 : Int) + 1) = 1 := by decide
 have w4 : IntKind.wrap .i64 ((1 : Int) + 1) = 2 := by decide
 have w5 : IntKind.wrap .i64 ((2 : Int) + 1) = 3 := by decide
 have w6 : IntKind.wrap .i64 ((3 : Int) + 1) = 4 := by decide
 have e1 : (2 : Int) ^ min (Int.toNat 8) (IntKind.bits IntKind.u64) = 256 := by decide
 have d1 : Int.fdiv n 256 = n / 256 := Int.fdiv_eq_ediv_of_nonneg n (by decide)
 have d2 : Int.fdiv (n / 256) 256 = n / 65536 := by rw [Int.fdiv_eq_ediv_of_nonneg _ (by decide)]; omega
 have d3 : Int.fdiv (n / 65536) 256 = n / 16777216 := by rw [Int.fdiv_eq_ediv_of_nonneg _ (by decide)]; omega
 have w7 : IntKind.wrap .u8 n = n % 256 := by rw [IntKind.wrap_u8]
 have w8 : IntKind.wrap .u8 (n / 256) = n / 256 % 256 := by rw [IntKind.wrap_u8]
 have w9 : IntKind.wrap .u8 (n / 65536) = n / 65536 % 256 := by rw [IntKind.wrap_u8]
 have w10 : IntKind.wrap .u8 (n / 16777216) = n / 16777216 % 256 := by rw [IntKind.wrap_u8]
 simp only [qOPut, qOPutL5R, gl, qOPutL5, qOplace, r1, r2, e1, cond_false, cond_true, Option.bind_some, w3, w4, w5, w6]
 simp [w3, w4, w5, w6, d1, d2, d3, w7, w8, w9, w10]
def by4 (n : Int) : List Int := [n % 256, n / 256 % 256, n / 65536 % 256, n / 16777216 % 256]
theorem by4_B (n : Int) : AllB (by4 n) := fun x hx => by
 simp only [by4, List.mem_cons, List.not_mem_nil, or_false] at hx
 rcases hx with rfl | rfl | rfl | rfl <;> omega
theorem digest_ok (a b c d : Int) (ht : ([a, b, c, d] : List Int).length = 4) (ha : AllW [a, b, c, d]) (hN : 10000 ≤ N) : ∃ D : Arr Int 16, D.l = by4 a ++ by4 b ++ by4 c ++ by4 d ∧ md4_digest N ⟨[a, b, c, d], ht⟩ = some D := by
 obtain ⟨M, rfl⟩ : ∃ M, N = M + 6 := ⟨N - 6, by omega⟩
 have pa := put4l (N := M + 6) a (ha a (by simp)) (by omega)
 have pb := put4l (N := M + 6) b (ha b (by simp)) (by omega)
 have pc := put4l (N := M + 6) c (ha c (by simp)) (by omega)
 have pd := put4l (N := M + 6) d (ha d (by simp)) (by omega)
 have w3 : IntKind.wrap .i64 ((0 : Int) + 1) = 1 := by decide
 have w4 : IntKind.wrap .i64 ((1 : Int) + 1) = 2 := by decide
 have w5 : IntKind.wrap .i64 ((2 : Int) + 1) = 3 := by decide
 have w6 : IntKind.wrap .i64 ((3 : Int) + 1) = 4 := by decide
 have z0 : getI ([a, b, c, d] : List Int) 0 = some a := rfl
 have z1 : getI ([a, b, c, d] : List Int) 1 = some b := rfl
 have z2 : getI ([a, b, c, d] : List Int) 2 = some c := rfl
 have z3 : getI ([a, b, c, d] : List Int) 3 = some d := rfl
 have l0 : (decide ((0 : Int) < 4)) = true := rfl
 have l1 : (decide ((1 : Int) < 4)) = true := rfl
 have l2 : (decide ((2 : Int) < 4)) = true := rfl
 have l3 : (decide ((3 : Int) < 4)) = true := rfl
 have rm : ∀ (p : List Int) (u v x y : Int), p.length < 100 → roomB (p.length + ([u, v, x, y] : List Int).length) 1 = true := fun p u v x y hp => roomB_of (by have := big_len; simp; omega) (by simp; omega)
 have step : ∀ (K : Nat) (i j : Int) (n : Int) (p : List Int) (h0 : Arr Int 16), decide (i < 4) = true → getI ([a, b, c, d] : List Int) i = some n → octs_Put (M + 6) (IntKind.wrap .u64 n) 4 true = some (by4 n, 0) → IntKind.wrap .i64 (i + 1) = j → p.length < 100 →
   gl (fun X c => md4_digest_L3 (M + 6) X c.1.1 c.1.2.1 c.2.1 c.2.2.1) (K + 1) (((⟨[a, b, c, d], ht⟩ : Arr Int 4), (i, ())), (h0, (p, ()))) = gl (fun X c => md4_digest_L3 (M + 6) X c.1.1 c.1.2.1 c.2.1 c.2.2.1) K (((⟨[a, b, c, d], ht⟩ : Arr Int 4), (j, ())), (h0, (p ++ by4 n, ()))) := fun K i j n p h0 q1 q2 q3 q4 q5 => by
  rw [gl_succ]
  have r := rm p (n % 256) (n / 256 % 256) (n / 65536 % 256) (n / 16777216 % 256) q5
  have r : roomB (p.length + (by4 n).length) 1 = true := r
  simp only [md4_digest_L3, q1, cond_true, q2, Option.bind_some, q3, r, q4]
 have fin : ∀ (K : Nat) (p : List Int) (h0 : Arr Int 16), gl (fun X c => md4_digest_L3 (M + 6) X c.1.1 c.1.2.1 c.2.1 c.2.2.1) (K + 1) (((⟨[a, b, c, d], ht⟩ : Arr Int 4), ((4 : Int), ())), (h0, (p, ()))) = some ((), (h0, (p, ()))) := fun K p h0 => by
  rw [gl_succ]; rfl
 have all : ∀ h0 : Arr Int 16, md4_digest_L3_R (M + 6) (((⟨[a, b, c, d], ht⟩ : Arr Int 4), ((0 : Int), ())), (h0, (([] : List Int), ()))) = some ((), (h0, (by4 a ++ by4 b ++ by4 c ++ by4 d, ()))) := fun h0 => by
  refine (step (M + 5) 0 1 a [] h0 l0 z0 pa w3 (by simp)).trans ?_
  refine (step (M + 4) 1 2 b _ h0 l1 z1 pb w4 (by simp [by4])).trans ?_
  refine (step (M + 3) 2 3 c _ h0 l2 z2 pc w5 (by simp [by4])).trans ?_
  refine (step (M + 2) 3 4 d _ h0 l3 z3 pd w6 (by simp [by4])).trans ?_
  exact fin (M + 1) _ h0
 have hl : (by4 a ++ by4 b ++ by4 c ++ by4 d).length = 16 := by simp [by4]
 unfold md4_digest
 rw [all, Option.bind_some]
 refine ⟨⟨(by4 a ++ by4 b ++ by4 c ++ by4 d).take 16, by rw [List.length_take, hl]; rfl⟩, ?_, ?_⟩
 ·exact List.take_of_length_le (by omega)
 ·have : toArr 16 (by4 a ++ by4 b ++ by4 c ++ by4 d) = some ⟨(by4 a ++ by4 b ++ by4 c ++ by4 d).take 16, by rw [List.length_take, hl]; rfl⟩ := dif_pos (by omega)
  simp only [this, Option.bind_some]
end
noncomputable def stepB (N : Nat) (t : Arr Int 4) (l : List Int) : Option (Arr Int 4) := (toArr 64 l).bind fun a => md4_behind N t a ks04
noncomputable def runB (N : Nat) : Nat → Arr Int 4 → List Int → Option (Arr Int 4)
 | 0, t, _ => some t
 | m + 1, t, l => (stepB N t (l.take 64)).bind fun t' => runB N m t' (l.drop 64)
theorem toArr64 (l : List Int) (h : 64 ≤ l.length) : ∃ a : Arr Int 64, a.l = l.take 64 ∧ toArr 64 (l.take 64) = some a := by
 have h1 : 64 ≤ (l.take 64).length := by rw [List.length_take]; omega
 refine ⟨⟨(l.take 64).take 64, by rw [List.length_take]; omega⟩, ?_, dif_pos h1⟩
 exact List.take_of_length_le (by rw [List.length_take]; omega)
section
variable {N : Nat}
theorem runB_some (hN : 10000 ≤ N) : ∀ (m : Nat) (t : Arr Int 4) (l : List Int), AllW t.l → AllB l → l.length = 64 * m → ∃ t', AllW t'.l ∧ runB N m t l = some t'
 | 0, t, l, ht, _, _ => ⟨t, ht, rfl⟩
 | m + 1, t, l, ht, hl, hm => by
  obtain ⟨a, a1, a2⟩ := toArr64 l (by omega)
  obtain ⟨t1, h1, h2, _⟩ := behind_pair (N := N) hN t a ht (by rw [a1]; exact hl.take 64)
  obtain ⟨t', h3, h4⟩ := runB_some hN m t1 (l.drop 64) h1 (hl.drop 64) (by rw [List.length_drop]; omega)
  refine ⟨t', h3, ?_⟩
  unfold runB stepB
  rw [a2, Option.bind_some, h2, Option.bind_some, h4]
theorem loopOf (hN : 10000 ≤ N) (all : List Int) (ha : all.length < 100000) (h0 : Arr Int 16) : ∀ (m M i : Nat) (t t' : Arr Int 4), m < M → all.length = i + 64 * m → runB N m t (all.drop i) = some t' →
  gl (fun X c => md4_Of_L5 N X c.1.1 c.1.2.1 c.2.1 c.2.2.1 c.2.2.2.1) M ((all, ((i : Int), ())), (h0, (t, (ks04, ())))) = some ((), (h0, (t', ())))
 | 0, M + 1, i, t, t', hM, hi, hr => by
  have c1 : ¬ ((i : Int) < (all.length : Int)) := by omega
  have hr : some t = some t' := hr
  injection hr with hr
  subst hr
  rw [gl_succ]
  simp only [md4_Of_L5, c1, decide_false, cond_false]
 | m + 1, M + 1, i, t, t', hM, hi, hr => by
  have c1 : ((i : Int) < (all.length : Int)) := by omega
  have e0 : IntKind.wrap .i64 ((i : Int) + 64) = ((i + 64 : Nat) : Int) := by rw [wrap64 (by omega) (by omega)]; omega
  have s1 : subI all (i : Int) ((i + 64 : Nat) : Int) = some ((all.drop i).take 64) := by
   rw [subI_nat all rfl rfl (by omega) (by omega)]; congr 2; omega
  unfold runB stepB at hr
  cases hb : toArr 64 ((all.drop i).take 64) with
  | none => rw [hb] at hr; cases hr
  | some a =>
   rw [hb, Option.bind_some] at hr
   cases hc : md4_behind N t a ks04 with
   | none => rw [hc] at hr; cases hr
   | some t1 =>
    rw [hc, Option.bind_some, List.drop_drop] at hr
    have ih := loopOf hN all ha h0 m M (i + 64) t1 t' (by omega) (by omega) (by rw [show i + 64 = i + 64 from rfl]; exact hr)
    rw [gl_succ]
    simp only [md4_Of_L5, c1, decide_true, cond_true, e0, s1, Option.bind_some, hb, hc]
    exact ih
def dg4 (a b c d : Int) : List Int := by4 a ++ by4 b ++ by4 c ++ by4 d
theorem dg4_B (a b c d : Int) : AllB (dg4 a b c d) := AllB.append (AllB.append (AllB.append (by4_B a) (by4_B b)) (by4_B c)) (by4_B d)
end
def first04 : Arr Int 4 := Arr.cons 1732584193 (Arr.cons 4023233417 (Arr.cons 2562383102 (Arr.cons 271733878 Arr.nil)))
theorem first_W : AllW first04.l := fun x hx => by
 simp only [first04, Arr.cons, Arr.nil, List.mem_cons, List.not_mem_nil, or_false] at hx
 rcases hx with rfl | rfl | rfl | rfl <;> omega
def nb (n : Nat) : Nat := (n + (tail4 (n : Int)).length) / 64
theorem nb_ok (n : Nat) (l : List Int) (h : l.length = n) : (l ++ tail4 (n : Int)).length = 64 * nb n := by
 unfold nb
 rw [List.length_append, tail4_len, h]
 unfold nz
 omega
theorem of_ok (l : List (List Int)) (hl : l.length ≤ 1000) (hs : ∀ p ∈ l, p.length ≤ 5000 ∧ AllB p) (hf : l.flatten.length ≤ 5000) :
  ∃ a b c d ht, ∃ D : Arr Int 16, runB 200000 (nb l.flatten.length) first04 (l.flatten ++ tail4 (l.flatten.length : Int)) = some ⟨[a, b, c, d], ht⟩ ∧ AllW [a, b, c, d] ∧ D.l = dg4 a b c d ∧ md4_Of 200000 l = some D := by
 have hB : AllB l.flatten := fun x hx => by
  obtain ⟨p, hp, hx⟩ := List.mem_flatten.1 hx
  exact (hs p hp).2 x hx
 have hall : AllB (l.flatten ++ tail4 (l.flatten.length : Int)) := hB.append (tail4_B _)
 have hlen := nb_ok l.flatten.length l.flatten rfl
 have htl := tail4_len (l.flatten.length : Int)
 have hnz := nz_lt (l.flatten.length : Int)
 obtain ⟨t', t1, t2⟩ := runB_some (N := 200000) (by omega) (nb l.flatten.length) first04 _ first_W hall hlen
 match t', t1, t2 with
 | ⟨[a, b, c, d], ht⟩, t1, t2 =>
  obtain ⟨D, d1, d2⟩ := digest_ok (N := 200000) a b c d ht t1 (by omega)
  refine ⟨a, b, c, d, ht, D, t2, t1, d1, ?_⟩
  have hj : ∀ h0, _ := fun h0 => joinS (N := 200000) l h0 hl (fun p hp => by have := (hs p hp).1; omega) (by omega)
  have hwn : IntKind.wrap .u64 (l.flatten.length : Int) = (l.flatten.length : Int) := wrapU64 (by omega) (by omega)
  have htail := md4_tail_ok (N := 200000) (l.flatten.length : Int) (by omega) (by omega)
  have c4 : (decide ((0 : Int) ≤ (0 : Int) ∧ (0 : Int) ≤ (l.flatten.length : Int)) && roomB (Int.toNat (l.flatten.length : Int)) 1) = true := by
   rw [Bool.and_eq_true]
   exact ⟨decide_eq_true ⟨by omega, by omega⟩, roomB_of (by have := big_len; omega) (by omega)⟩
  have c5 : roomB (l.flatten.length + (tail4 (l.flatten.length : Int)).length) 1 = true := roomB_of (by have := big_len; omega) (by omega)
  have hloop : ∀ h0, md4_Of_L5_R 200000 (((l.flatten ++ tail4 (l.flatten.length : Int)), ((0 : Int), ())), (h0, (first04, (ks04, ())))) = some ((), (h0, ((⟨[a, b, c, d], ht⟩ : Arr Int 4), ()))) := fun h0 =>
   loopOf (N := 200000) (by omega) _ (by rw [List.length_append]; omega) h0 (nb l.flatten.length) 200000 0 first04 _ (by rw [List.length_append] at hlen; omega) (by rw [hlen]; omega) t2
  have e0 : List.replicate (Int.toNat 0) (0 : Int) = [] := rfl
  unfold md4_Of
  rw [(hj _).1, Option.bind_some]
  simp only [c4, cond_true, e0]
  rw [(hj _).2, Option.bind_some]
  simp only [hwn]
  rw [htail, Option.bind_some]
  simp only [c5, cond_true, consts04, Option.bind_some]
  refine (congrArg (fun o => Option.bind o _) (hloop _)).trans ?_
  simp only [Option.bind_some, d2]
end Go.Proofs.YtphkpiocblmpeaaGreatDoor
namespace Go.Proofs.YtphkpiocblmpeaaGreatDoor.Sh
set_option maxRecDepth 100000
set_option maxRecDepth 100000
theorem consts05 : sha1_constants 200000 = some (Arr.cons 1518500249 (Arr.cons 1859775393 (Arr.cons 2400959708 (Arr.cons 3395469782 Arr.nil)))) := by kernel_rfl
end Go.Proofs.YtphkpiocblmpeaaGreatDoor.Sh
namespace Go.Proofs.YtphkpiocblmpeaaGreatDoor.Sh
set_option maxRecDepth 100000
open Go.RowKit
set_option linter.unusedVariables false
set_option linter.unusedSimpArgs false
set_option maxRecDepth 100000
def AllW (l : List Int) : Prop := ∀ x ∈ l, 0 ≤ x ∧ x < 4294967296
theorem AllW.get {l : List Int} (h : AllW l) (i : Nat) (hi : i < l.length) : 0 ≤ l[i] ∧ l[i] < 4294967296 := h _ (List.getElem_mem hi)
theorem AllW.set {l : List Int} (h : AllW l) (i : Nat) {x : Int} (hx : 0 ≤ x ∧ x < 4294967296) : AllW (l.set i x) := fun y hy => by
 rcases List.mem_or_eq_of_mem_set hy with h1 | rfl
 ·exact h y h1
 ·exact hx
theorem w32 (x : Int) : IntKind.wrap .u32 x = x % 4294967296 := IntKind.wrap_u32 x
theorem w32r (x : Int) : 0 ≤ IntKind.wrap .u32 x ∧ IntKind.wrap .u32 x < 4294967296 := by rw [w32]; omega
theorem or32r (a b : Int) : 0 ≤ bits .or .u32 a b ∧ bits .or .u32 a b < 4294967296 := w32r _
theorem drop4 (l : List Int) (i : Nat) (h : i + 4 ≤ l.length) : (l.drop i).take (i + 4 - i) = [l[i], l[i + 1], l[i + 2], l[i + 3]] := by
 rw [show i + 4 - i = 4 by omega, List.drop_eq_getElem_cons (by omega), List.drop_eq_getElem_cons (by omega), List.drop_eq_getElem_cons (by omega), List.drop_eq_getElem_cons (by omega)]
 rfl
section
variable {N : Nat}
theorem get4' (x y z u : Int) (hx : 0 ≤ x ∧ x < 256) (hy : 0 ≤ y ∧ y < 256) (hz : 0 ≤ z ∧ z < 256) (hu : 0 ≤ u ∧ u < 256) (hN : 100 ≤ N) : octs_Get N [x, y, z, u] false = some (((x * 256 + y) * 256 + z) * 256 + u, 0) := get4 x y z u hx hy hz hu hN
theorem q1 : (2 : Int) ^ min (Int.toNat (bits .and .u64 (IntKind.wrap .u64 1) 31)) (IntKind.bits .u32) = 2 := by decide +kernel
theorem q2 : (2 : Int) ^ min (Int.toNat (IntKind.wrap .u64 (32 - bits .and .u64 (IntKind.wrap .u64 1) 31))) (IntKind.bits .u32) = 2147483648 := by decide +kernel
theorem q3 : (2 : Int) ^ min (Int.toNat 1) (IntKind.bits .u32) = 2 := by decide +kernel
theorem q4 : (2 : Int) ^ min (Int.toNat (IntKind.wrap .i64 (32 - 1))) (IntKind.bits .u32) = 2147483648 := by decide +kernel
theorem words_pair (hN : 10000 ≤ N) (b : Arr Int 64) (hb : AllB b.l) (s : Arr Int 5) (h0 : Arr Int 80) (h0' : Arr Int 5) : ∀ (k M i : Nat) (h1 : Arr Int 80), k + i = 80 → k < M → AllW h1.l →
  ∃ h2 : Arr Int 80, AllW h2.l ∧ gl (fun X c => sha1_words_L3 N X c.1.1 c.1.2.1 c.2.1 c.2.2.1) M ((b, ((i : Int), ())), (h0, (h1, ()))) = some ((), (h0, (h2, ()))) ∧ True
 | 0, M + 1, i, h1, hk, hM, hw => by
  have c1 : ¬ ((i : Int) < 80) := by omega
  refine ⟨h1, hw, ?_, ?_⟩
  ·simp only [gl, sha1_words_L3, c1, decide_false, cond_false]
  ·trivial
 | k + 1, M + 1, i, h1, hk, hM, hw => by
  have hl := h1.h
  have hbl := b.h
  have c1 : ((i : Int) < 80) := by omega
  have c2 : (0 : Int) ≤ (i : Int) ∧ (i : Int) < ((80 : Nat) : Int) := by omega
  have e0 : IntKind.wrap .i64 ((i : Int) + 1) = ((i + 1 : Nat) : Int) := by rw [wrap64 (by omega) (by omega)]; omega
  have e1 : Int.toNat (i : Int) = i := Int.toNat_natCast i
  have g1 : h1.l[i]? = some (h1.l[i]'(by omega)) := List.getElem?_eq_getElem _
  by_cases h16 : i < 16
  ·have c3 : ((i : Int) < 16) := by omega
   have s1 : IntKind.wrap .i64 ((4 : Int) * (i : Int)) = ((4 * i : Nat) : Int) := by rw [wrap64 (by omega) (by omega)]; omega
   have s2 : IntKind.wrap .i64 (((4 * i : Nat) : Int) + 4) = ((4 * i + 4 : Nat) : Int) := by rw [wrap64 (by omega) (by omega)]; omega
   have s3 : IntKind.wrap .i64 (((4 * i : Nat) : Int) + 1) = ((4 * i + 1 : Nat) : Int) := by rw [wrap64 (by omega) (by omega)]; omega
   have s4 : IntKind.wrap .i64 (((4 * i : Nat) : Int) + 2) = ((4 * i + 2 : Nat) : Int) := by rw [wrap64 (by omega) (by omega)]; omega
   have s5 : IntKind.wrap .i64 (((4 * i : Nat) : Int) + 3) = ((4 * i + 3 : Nat) : Int) := by rw [wrap64 (by omega) (by omega)]; omega
   have s6 : subI b.l ((4 * i : Nat) : Int) ((4 * i + 4 : Nat) : Int) = some [b.l[4 * i]'(by omega), b.l[4 * i + 1]'(by omega), b.l[4 * i + 2]'(by omega), b.l[4 * i + 3]'(by omega)] := by
    rw [subI_nat b.l rfl rfl (by omega) (by omega), drop4 b.l (4 * i) (by omega)]
   have ba := hb.get (4 * i) (by omega)
   have bb := hb.get (4 * i + 1) (by omega)
   have bc := hb.get (4 * i + 2) (by omega)
   have bd := hb.get (4 * i + 3) (by omega)
   have s7 := get4' (N := N) _ _ _ _ ba bb bc bd (by omega)
   have G0 := getI_lt b.l (4 * i) (by omega)
   have G1 := getI_lt b.l (4 * i + 1) (by omega)
   have G2 := getI_lt b.l (4 * i + 2) (by omega)
   have G3 := getI_lt b.l (4 * i + 3) (by omega)
   generalize hx : b.l[4 * i]'(by omega) = x at *
   generalize hy : b.l[4 * i + 1]'(by omega) = y at *
   generalize hz : b.l[4 * i + 2]'(by omega) = z at *
   generalize hu : b.l[4 * i + 3]'(by omega) = u at *
   have v1 : IntKind.wrap .u32 (((x * 256 + y) * 256 + z) * 256 + u) = ((x * 256 + y) * 256 + z) * 256 + u := by rw [w32]; omega
   have v2 : IntKind.wrap .u32 (IntKind.wrap .u32 (IntKind.wrap .u32 (IntKind.wrap .u32 (IntKind.wrap .u32 x * 16777216) + IntKind.wrap .u32 (IntKind.wrap .u32 y * 65536)) + IntKind.wrap .u32 (IntKind.wrap .u32 z * 256)) + IntKind.wrap .u32 u) = ((x * 256 + y) * 256 + z) * 256 + u := by
    simp only [w32]; omega
   obtain ⟨h2, r1, r2, r3⟩ := words_pair hN b hb s h0 h0' k M (i + 1) (h1.set i (((x * 256 + y) * 256 + z) * 256 + u)) (by omega) (by omega) (hw.set i (by omega))
   refine ⟨h2, r1, ?_, ?_⟩
   ·rw [gl_succ]
    simp only [sha1_words_L3, c1, c3, decide_true, cond_true, s1, s2, s6, Option.bind_some, s7, c2, and_self, e1, g1, e0, v1]
    exact r2
   ·trivial
  ·have c3 : ¬ ((i : Int) < 16) := by omega
   have t1 : IntKind.wrap .i64 ((i : Int) - 3) = ((i - 3 : Nat) : Int) := by rw [wrap64 (by omega) (by omega)]; omega
   have t2 : IntKind.wrap .i64 ((i : Int) - 8) = ((i - 8 : Nat) : Int) := by rw [wrap64 (by omega) (by omega)]; omega
   have t3 : IntKind.wrap .i64 ((i : Int) - 14) = ((i - 14 : Nat) : Int) := by rw [wrap64 (by omega) (by omega)]; omega
   have t4 : IntKind.wrap .i64 ((i : Int) - 16) = ((i - 16 : Nat) : Int) := by rw [wrap64 (by omega) (by omega)]; omega
   have d1 : (0 : Int) ≤ ((i - 3 : Nat) : Int) ∧ ((i - 3 : Nat) : Int) < ((80 : Nat) : Int) := by omega
   have d2 : (0 : Int) ≤ ((i - 8 : Nat) : Int) ∧ ((i - 8 : Nat) : Int) < ((80 : Nat) : Int) := by omega
   have d3 : (0 : Int) ≤ ((i - 14 : Nat) : Int) ∧ ((i - 14 : Nat) : Int) < ((80 : Nat) : Int) := by omega
   have d4 : (0 : Int) ≤ ((i - 16 : Nat) : Int) ∧ ((i - 16 : Nat) : Int) < ((80 : Nat) : Int) := by omega
   have f1 : Int.toNat ((i - 3 : Nat) : Int) = i - 3 := Int.toNat_natCast _
   have f2 : Int.toNat ((i - 8 : Nat) : Int) = i - 8 := Int.toNat_natCast _
   have f3 : Int.toNat ((i - 14 : Nat) : Int) = i - 14 := Int.toNat_natCast _
   have f4 : Int.toNat ((i - 16 : Nat) : Int) = i - 16 := Int.toNat_natCast _
   have g2 : h1.l[i - 3]? = some (h1.l[i - 3]'(by omega)) := List.getElem?_eq_getElem _
   have g3 : h1.l[i - 8]? = some (h1.l[i - 8]'(by omega)) := List.getElem?_eq_getElem _
   have g4 : h1.l[i - 14]? = some (h1.l[i - 14]'(by omega)) := List.getElem?_eq_getElem _
   have g5 : h1.l[i - 16]? = some (h1.l[i - 16]'(by omega)) := List.getElem?_eq_getElem _
   generalize h1.l[i - 3]'(by omega) = x at *
   generalize h1.l[i - 8]'(by omega) = y at *
   generalize h1.l[i - 14]'(by omega) = z at *
   generalize h1.l[i - 16]'(by omega) = u at *
   obtain ⟨h2, r1, r2, r3⟩ := words_pair hN b hb s h0 h0' k M (i + 1) (h1.set i (bits .or .u32 (IntKind.wrap .u32 (bits .xor .u32 (bits .xor .u32 (bits .xor .u32 x y) z) u * 2)) (Int.fdiv (bits .xor .u32 (bits .xor .u32 (bits .xor .u32 x y) z) u) 2147483648))) (by omega) (by omega) (hw.set i (or32r _ _))
   refine ⟨h2, r1, ?_, ?_⟩
   ·rw [gl_succ]
    simp only [sha1_words_L3, c1, c3, decide_true, decide_false, cond_true, cond_false, t1, t2, t3, t4, d1, d2, d3, d4, f1, f2, f3, f4, g2, g3, g4, g5, Option.bind_some, c2, and_self, e1, g1, e0, q1, q2]
    exact r2
   ·trivial
end
section
variable {N : Nat}
theorem q5 : (2 : Int) ^ min (Int.toNat (bits .and .u64 (IntKind.wrap .u64 5) 31)) (IntKind.bits .u32) = 32 := by decide +kernel
theorem q6 : (2 : Int) ^ min (Int.toNat (IntKind.wrap .u64 (32 - bits .and .u64 (IntKind.wrap .u64 5) 31))) (IntKind.bits .u32) = 134217728 := by decide +kernel
theorem q7 : (2 : Int) ^ min (Int.toNat 5) (IntKind.bits .u32) = 32 := by decide +kernel
theorem q8 : (2 : Int) ^ min (Int.toNat (IntKind.wrap .i64 (32 - 5))) (IntKind.bits .u32) = 134217728 := by decide +kernel
theorem q9 : (2 : Int) ^ min (Int.toNat (bits .and .u64 (IntKind.wrap .u64 30) 31)) (IntKind.bits .u32) = 1073741824 := by decide +kernel
theorem q10 : (2 : Int) ^ min (Int.toNat (IntKind.wrap .u64 (32 - bits .and .u64 (IntKind.wrap .u64 30) 31))) (IntKind.bits .u32) = 4 := by decide +kernel
def ks05 : Arr Int 4 := Arr.cons 1518500249 (Arr.cons 1859775393 (Arr.cons 2400959708 (Arr.cons 3395469782 Arr.nil)))
theorem mix_pair (i : Nat) (hi : i < 80) (b c d : Int) (hb : 0 ≤ b ∧ b < 4294967296) : ∃ m k, sha1_mixed N (IntKind.wrap .i64 (Int.tdiv (i : Int) 20)) b c d = some m ∧ getI ks05.l (IntKind.wrap .i64 (Int.tdiv (i : Int) 20)) = some k ∧ True := by
 have e : IntKind.wrap .i64 (Int.tdiv (i : Int) 20) = ((i / 20 : Nat) : Int) := by
  rw [Int.tdiv_eq_ediv_of_nonneg (by omega), wrap64 (by omega) (by omega)]; omega
 unfold sha1_mixed
 rw [e]
 have hq : i / 20 = 0 ∨ i / 20 = 1 ∨ i / 20 = 2 ∨ i / 20 = 3 := by omega
 rcases hq with hq | hq | hq | hq <;> rw [hq]
 ·exact ⟨_, 1518500249, rfl, rfl, trivial⟩
 ·exact ⟨_, 1859775393, rfl, rfl, trivial⟩
 ·exact ⟨_, 2400959708, rfl, rfl, trivial⟩
 ·exact ⟨_, 3395469782, rfl, rfl, trivial⟩
theorem steps_pair (hN : 10000 ≤ N) (W : Arr Int 80) (hW : AllW W.l) (s : Arr Int 5) (h0 : Arr Int 5) (h0' : Arr Int 5) : ∀ (k M i : Nat) (t : Arr Int 5), k + i = 80 → k < M → AllW t.l →
  ∃ t2 : Arr Int 5, AllW t2.l ∧ gl (fun X c => sha1_behind_L4 N X c.1.1 c.1.2.1 c.1.2.2.1 c.2.1 c.2.2.1 c.2.2.2.1) M ((s, (ks05, ((i : Int), ()))), (h0, (W, (t, ())))) = some ((s, ()), (h0, (t2, ()))) ∧ True
 | 0, M + 1, i, t, hk, hM, hw => by
  have c1 : ¬ ((i : Int) < 80) := by omega
  refine ⟨t, hw, ?_, ?_⟩
  ·simp only [gl, sha1_behind_L4, c1, decide_false, cond_false]
  ·trivial
 | k + 1, M + 1, i, t, hk, hM, hw => by
  have hWl := W.h
  have c1 : ((i : Int) < 80) := by omega
  have c2 : (0 : Int) ≤ (i : Int) ∧ (i : Int) < ((80 : Nat) : Int) := by omega
  have e0 : IntKind.wrap .i64 ((i : Int) + 1) = ((i + 1 : Nat) : Int) := by rw [wrap64 (by omega) (by omega)]; omega
  have e1 : Int.toNat (i : Int) = i := Int.toNat_natCast i
  have g1 : W.l[i]? = some (W.l[i]'(by omega)) := List.getElem?_eq_getElem _
  have hWi := hW.get i (by omega)
  generalize W.l[i]'(by omega) = wi at *
  match t, hw with
  | ⟨[a, b, c, d, e], ht⟩, hw =>
   have ra := hw a (by simp)
   have rb := hw b (by simp)
   have rc := hw c (by simp)
   have rd := hw d (by simp)
   have re := hw e (by simp)
   obtain ⟨m, kk, m1, m2, m3⟩ := mix_pair (N := N) i (by omega) b c d rb
   have z0 : ([a, b, c, d, e] : List Int)[Int.toNat 0]? = some a := rfl
   have z1 : ([a, b, c, d, e] : List Int)[Int.toNat 1]? = some b := rfl
   have z2 : ([a, b, c, d, e] : List Int)[Int.toNat 2]? = some c := rfl
   have z3 : ([a, b, c, d, e] : List Int)[Int.toNat 3]? = some d := rfl
   have z4 : ([a, b, c, d, e] : List Int)[Int.toNat 4]? = some e := rfl
   have x1 : ∀ r : Int, IntKind.wrap .u32 (IntKind.wrap .u32 (IntKind.wrap .u32 (IntKind.wrap .u32 (r + m) + e) + kk) + wi) = IntKind.wrap .u32 (IntKind.wrap .u32 (IntKind.wrap .u32 (r + IntKind.wrap .u32 (m + kk)) + e) + wi) := fun r => by
    simp only [w32]; omega
   obtain ⟨t2, r1, r2, r3⟩ := steps_pair hN W hW s h0 h0' k M (i + 1) (Arr.cons (IntKind.wrap .u32 (IntKind.wrap .u32 (IntKind.wrap .u32 (bits .or .u32 (IntKind.wrap .u32 (a * 32)) (Int.fdiv a 134217728) + IntKind.wrap .u32 (m + kk)) + e) + wi)) (Arr.cons a (Arr.cons (bits .or .u32 (IntKind.wrap .u32 (b * 1073741824)) (Int.fdiv b 4)) (Arr.cons c (Arr.cons d Arr.nil))))) (by omega) (by omega) (fun x hx => by
    simp only [Arr.cons, Arr.nil, List.mem_cons, List.not_mem_nil, or_false] at hx
    rcases hx with rfl | rfl | rfl | rfl | rfl
    ·exact w32r _
    ·exact ra
    ·exact or32r _ _
    ·exact rc
    ·exact rd)
   refine ⟨t2, r1, ?_, ?_⟩
   ·rw [gl_succ]
    simp only [sha1_behind_L4, c1, decide_true, cond_true, z0, z1, z2, z3, z4, Option.bind_some, m1, m2, c2, and_self, e1, g1, e0, q5, q6, q9, q10, x1]
    exact r2
   ·trivial
theorem add_pair (hN : 10000 ≤ N) (s h0 : Arr Int 5) (hs : AllW s.l) : ∀ (k M i : Nat) (t : Arr Int 5), k + i = 5 → k < M → AllW t.l →
  ∃ t2 : Arr Int 5, AllW t2.l ∧ gl (fun X c => sha1_behind_L11 N X c.1.1 c.1.2.1 c.2.1 c.2.2.1) M ((s, ((i : Int), ())), (h0, (t, ()))) = some ((), (h0, (t2, ()))) ∧ True
 | 0, M + 1, i, t, hk, hM, hw => by
  have c1 : ¬ ((i : Int) < 5) := by omega
  refine ⟨t, hw, ?_, ?_⟩
  ·simp only [gl, sha1_behind_L11, c1, decide_false, cond_false]
  ·trivial
 | k + 1, M + 1, i, t, hk, hM, hw => by
  have hl := t.h
  have hsl := s.h
  have c1 : ((i : Int) < 5) := by omega
  have c2 : (0 : Int) ≤ (i : Int) ∧ (i : Int) < ((5 : Nat) : Int) := by omega
  have e0 : IntKind.wrap .i64 ((i : Int) + 1) = ((i + 1 : Nat) : Int) := by rw [wrap64 (by omega) (by omega)]; omega
  have e1 : Int.toNat (i : Int) = i := Int.toNat_natCast i
  have g1 : t.l[i]? = some (t.l[i]'(by omega)) := List.getElem?_eq_getElem _
  have g2 := getI_lt s.l i (by omega)
  obtain ⟨t2, r1, r2, r3⟩ := add_pair hN s h0 hs k M (i + 1) (t.set i (IntKind.wrap .u32 (t.l[i]'(by omega) + s.l[i]'(by omega)))) (by omega) (by omega) (hw.set i (w32r _))
  refine ⟨t2, r1, ?_, ?_⟩
  ·rw [gl_succ]
   simp only [sha1_behind_L11, c1, decide_true, cond_true, c2, and_self, e1, g1, g2, e0, Option.bind_some]
   exact r2
  ·trivial
theorem behind_pair (hN : 10000 ≤ N) (s : Arr Int 5) (b : Arr Int 64) (hs : AllW s.l) (hb : AllB b.l) : ∃ t : Arr Int 5, AllW t.l ∧ sha1_behind N s b ks05 = some t ∧ True := by
 obtain ⟨M, rfl⟩ : ∃ M, N = M := ⟨N, rfl⟩
 unfold sha1_behind sha1_words
 have hz : AllW (List.replicate 80 (0 : Int)) := fun x hx => by rw [(List.mem_replicate.1 hx).2]; omega
 obtain ⟨W, w1, w2, w3⟩ := words_pair (N := N) hN b hb s ⟨List.replicate 80 0, rfl⟩ ⟨List.replicate 5 0, rfl⟩ 80 N 0 ⟨List.replicate 80 0, rfl⟩ (by omega) (by omega) hz
 have w2' : sha1_words_L3_R N ((b, ((0 : Int), ())), ((⟨List.replicate 80 0, rfl⟩ : Arr Int 80), ((⟨List.replicate 80 0, rfl⟩ : Arr Int 80), ()))) = some ((), ((⟨List.replicate 80 0, rfl⟩ : Arr Int 80), (W, ()))) := w2
 obtain ⟨t, t1, t2, t3⟩ := steps_pair (N := N) hN W w1 s ⟨List.replicate 5 0, rfl⟩ ⟨List.replicate 5 0, rfl⟩ 80 N 0 s (by omega) (by omega) hs
 have t2' : sha1_behind_L4_R N ((s, (ks05, ((0 : Int), ()))), ((⟨List.replicate 5 0, rfl⟩ : Arr Int 5), (W, (s, ())))) = some ((s, ()), ((⟨List.replicate 5 0, rfl⟩ : Arr Int 5), (t, ()))) := t2
 obtain ⟨u, u1, u2, u3⟩ := add_pair (N := N) hN s ⟨List.replicate 5 0, rfl⟩ hs 5 N 0 t (by omega) (by omega) t1
 have u2' : sha1_behind_L11_R N ((s, ((0 : Int), ())), ((⟨List.replicate 5 0, rfl⟩ : Arr Int 5), (t, ()))) = some ((), ((⟨List.replicate 5 0, rfl⟩ : Arr Int 5), (u, ()))) := u2
 refine ⟨u, u1, ?_, ?_⟩
 ·refine (congrArg (fun o => Option.bind (Option.bind o _) _) w2').trans ?_
  simp only [Option.bind_some]
  refine (congrArg (fun o => Option.bind o _) t2').trans ?_
  simp only [Option.bind_some]
  refine (congrArg (fun o => Option.bind o _) u2').trans ?_
  rfl
 ·trivial
end
def by8 (n : Int) : List Int := [n / 72057594037927936 % 256, n / 281474976710656 % 256, n / 1099511627776 % 256, n / 4294967296 % 256, n / 16777216 % 256, n / 65536 % 256, n / 256 % 256, n % 256]
theorem by8_B (n : Int) : AllB (by8 n) := fun x hx => by
 simp only [by8, List.mem_cons, List.not_mem_nil, or_false] at hx
 rcases hx with rfl | rfl | rfl | rfl | rfl | rfl | rfl | rfl <;> omega
section
variable {N : Nat}
theorem put8 (n : Int) (h : 0 ≤ n ∧ n < 18446744073709551616) (hN : 100 ≤ N) : octs_Put N n 8 false = some (by8 n, 0) := by
 obtain ⟨M, rfl⟩ : ∃ M, N = M + 9 := ⟨N - 9, by omega⟩
 have r1 : roomB (Int.toNat 8) 1 = true := by decide
 have r2 : List.replicate (Int.toNat 8) (0 : Int) = [0, 0, 0, 0, 0, 0, 0, 0] := rfl
 have w1 : IntKind.wrap .i64 ((8 : Int) - 1) = 7 := by decide
 have v0 : IntKind.wrap .i64 ((7 : Int) - 0) = 7 := by decide
 have v1 : IntKind.wrap .i64 ((7 : Int) - 1) = 6 := by decide
 have v2 : IntKind.wrap .i64 ((7 : Int) - 2) = 5 := by decide
 have v3 : IntKind.wrap .i64 ((7 : Int) - 3) = 4 := by decide
 have v4 : IntKind.wrap .i64 ((7 : Int) - 4) = 3 := by decide
 have v5 : IntKind.wrap .i64 ((7 : Int) - 5) = 2 := by decide
 have v6 : IntKind.wrap .i64 ((7 : Int) - 6) = 1 := by decide
 have v7 : IntKind.wrap .i64 ((7 : Int) - 7) = 0 := by decide
 have w3 : IntKind.wrap .i64 ((0 : Int) + 1) = 1 := by decide
 have w4 : IntKind.wrap .i64 ((1 : Int) + 1) = 2 := by decide
 have w5 : IntKind.wrap .i64 ((2 : Int) + 1) = 3 := by decide
 have w6 : IntKind.wrap .i64 ((3 : Int) + 1) = 4 := by decide
 have w7 : IntKind.wrap .i64 ((4 : Int) + 1) = 5 := by decide
 have w8 : IntKind.wrap .i64 ((5 : Int) + 1) = 6 := by decide
 have w9 : IntKind.wrap .i64 ((6 : Int) + 1) = 7 := by decide
 have w10 : IntKind.wrap .i64 ((7 : Int) + 1) = 8 := by decide
 have e1 : (2 : Int) ^ min (Int.toNat 8) (IntKind.bits IntKind.u64) = 256 := by decide
 have fd : ∀ x : Int, Int.fdiv x 256 = x / 256 := fun x => Int.fdiv_eq_ediv_of_nonneg _ (by decide)
 have d2 : n / 256 / 256 = n / 65536 := by omega
 have d3 : n / 65536 / 256 = n / 16777216 := by omega
 have d4 : n / 16777216 / 256 = n / 4294967296 := by omega
 have d5 : n / 4294967296 / 256 = n / 1099511627776 := by omega
 have d6 : n / 1099511627776 / 256 = n / 281474976710656 := by omega
 have d7 : n / 281474976710656 / 256 = n / 72057594037927936 := by omega
 have u8 : ∀ x : Int, IntKind.wrap .u8 x = x % 256 := fun x => by rw [IntKind.wrap_u8]
 simp only [octs_Put, octs_Put_L5_R, gl, octs_Put_L5, octs_place, r1, r2, e1, cond_false, Option.bind_some, w1, v0, v1, v2, v3, v4, v5, v6, v7, w3, w4, w5, w6, w7, w8, w9, w10]
 simp [w1, v0, v1, v2, v3, v4, v5, v6, v7, w3, w4, w5, w6, w7, w8, w9, w10, fd, d2, d3, d4, d5, d6, d7, u8, by8]
def nz (n : Int) : Nat := ((119 - n % 64) % 64).toNat
def tail5 (n : Int) : List Int := [128] ++ List.replicate (nz n) 0 ++ by8 (8 * n % 18446744073709551616)
theorem nz_lt (n : Int) : nz n < 64 := by unfold nz; omega
theorem tail5_len (n : Int) : (tail5 n).length = nz n + 9 := by simp [tail5, by8]
theorem tail5_B (n : Int) : AllB (tail5 n) := by
 refine AllB.append (AllB.append (AllB.cons (by omega) AllB.nil) fun x hx => ?_) (by8_B _)
 rw [(List.mem_replicate.1 hx).2]; omega
theorem sha1_tail_ok (n : Int) (h : 0 ≤ n ∧ n < 18446744073709551616) (hN : 10000 ≤ N) : sha1_Tail N n = some (tail5 n) := by
 unfold sha1_Tail
 have hw : IntKind.wrap .u64 ((8 : Int) * n) = 8 * n % 18446744073709551616 := by rw [IntKind.wrap_u64]
 have hz : Int.tmod (IntKind.wrap .u64 ((119 : Int) - Int.tmod n 64)) 64 = ((nz n : Nat) : Int) := by
  have hm : Int.tmod n 64 = n % 64 := Int.tmod_eq_emod_of_nonneg h.1
  rw [hm, wrapU64 (by omega) (by omega), Int.tmod_eq_emod_of_nonneg (by omega)]
  unfold nz
  omega
 have hl := nz_lt n
 have c1 : ((decide ((0 : Int) ≤ ((nz n : Nat) : Int) ∧ ((nz n : Nat) : Int) ≤ ((nz n : Nat) : Int))) && roomB (nz n) 1) = true := by
  have : roomB (nz n) 1 = true := roomB_of (by have := big_len; omega) (by omega)
  simp [this]
 rw [hw, put8 _ (by omega) (by omega), hz]
 simp only [Option.bind_some, c1, cond_true, Int.toNat_natCast]
 refine (join_ok (N := N) [[128], List.replicate (nz n) 0, by8 (8 * n % 18446744073709551616)] (by simp) ?_ ?_).trans ?_
 all_goals first | omega | skip
 ·simp [by8]; omega
 ·simp [tail5]
def le8 (n : Int) : List Int := [n % 256, n / 256 % 256, n / 65536 % 256, n / 16777216 % 256, n / 4294967296 % 256, n / 1099511627776 % 256, n / 281474976710656 % 256, n / 72057594037927936 % 256]
end
theorem flat_len (m : List (List Int)) (k : Nat) (h : ∀ p ∈ m, p.length ≤ k) : m.flatten.length ≤ k * m.length := by
 induction m with
 | nil => simp
 | cons p m ih =>
  have h1 := h p List.mem_cons_self
  have h2 := ih fun q hq => h q (List.mem_cons_of_mem _ hq)
  rw [List.flatten_cons, List.length_append, List.length_cons, Nat.mul_add]
  omega
section
variable {N : Nat}
theorem joinS (l : List (List Int)) (h0 : Arr Int 20) (hl : l.length ≤ 1000) (hs : ∀ p ∈ l, p.length ≤ 100000) (hN : 2000 ≤ N) :
  sha1_Of_1_octs_Join_L3_R N ((l, ((0 : Int), (l, ((l.length : Int), ((0 : Int), ()))))), (h0, ())) = some ((l, ((l.flatten.length : Int), ())), (h0, ())) ∧
  sha1_Of_1_octs_Join_L9_R N ((l, ((l.length : Int), ((0 : Int), ()))), (h0, (([] : List Int), ()))) = some ((), (h0, (l.flatten, ()))) := by
 have tk : ∀ i, (l.take i).flatten.length ≤ 100000000 := fun i => by
  have := flat_len (l.take i) 100000 fun p hp => hs p (List.mem_of_mem_take hp)
  rw [List.length_take] at this
  omega
 have hsn : ∀ i (hi : i < l.length), (l.take (i + 1)).flatten = (l.take i).flatten ++ l[i] := fun i hi => by
  have : l.take (i + 1) = l.take i ++ [l[i]] := by rw [List.take_add_one, List.getElem?_eq_getElem hi]; rfl
  rw [this, List.flatten_append]
  simp
 have h1 := gl_run (G := fun (X : ((List (List Int) × Int × List (List Int) × Int × Int × Unit) × Arr Int 20 × Unit) → Option ((List (List Int) × Int × Unit) × Arr Int 20 × Unit)) c => sha1_Of_1_octs_Join_L3 N X c.1.1 c.1.2.1 c.1.2.2.1 c.1.2.2.2.1 c.1.2.2.2.2.1 c.2.1)
  (fun i => ((l, (((l.take i).flatten.length : Int), (l, ((l.length : Int), ((i : Int), ()))))), (h0, ()))) l.length ((l, ((l.flatten.length : Int), ())), (h0, ())) (fun X i hi => by
  have c1 : ((i : Int) < (l.length : Int)) := by omega
  have c2 : IntKind.wrap .i64 ((i : Int) + 1) = ((i + 1 : Nat) : Int) := by rw [wrap64 (by omega) (by omega)]; omega
  have hp := hs _ (List.getElem_mem hi)
  have ht := tk i
  have c3 : IntKind.wrap .i64 (((l.take i).flatten.length : Int) + (l[i].length : Int)) = (((l.take (i + 1)).flatten.length : Nat) : Int) := by rw [wrap64 (by omega) (by omega), hsn i hi, List.length_append]; omega
  simp only [sha1_Of_1_octs_Join_L3, c1, decide_true, cond_true, getI_lt l i hi, Option.bind_some, c3, c2]) (fun X => by
  simp [sha1_Of_1_octs_Join_L3]) N 0 (by omega) (by omega)
 have h2 := gl_run (G := fun (X : ((List (List Int) × Int × Int × Unit) × Arr Int 20 × List Int × Unit) → Option (Unit × Arr Int 20 × List Int × Unit)) c => sha1_Of_1_octs_Join_L9 N X c.1.1 c.1.2.1 c.1.2.2.1 c.2.1 c.2.2.1)
  (fun i => ((l, ((l.length : Int), ((i : Int), ()))), (h0, ((l.take i).flatten, ())))) l.length ((), (h0, (l.flatten, ()))) (fun X i hi => by
  have c1 : ((i : Int) < (l.length : Int)) := by omega
  have c2 : IntKind.wrap .i64 ((i : Int) + 1) = ((i + 1 : Nat) : Int) := by rw [wrap64 (by omega) (by omega)]; omega
  have hp := hs _ (List.getElem_mem hi)
  have ht := tk i
  have c3 : roomB ((l.take i).flatten.length + l[i].length) 1 = true := roomB_of (by have := big_len; omega) (by omega)
  simp only [sha1_Of_1_octs_Join_L9, c1, decide_true, cond_true, getI_lt l i hi, Option.bind_some, c3, c2, hsn i hi]) (fun X => by
  simp [sha1_Of_1_octs_Join_L9]) N 0 (by omega) (by omega)
 simp only [Int.natCast_zero, List.take_zero, List.flatten_nil, List.length_nil] at h1 h2
 exact ⟨h1, h2⟩
theorem put4' (n : Int) (h : 0 ≤ n ∧ n < 4294967296) (hN : 100 ≤ N) : octs_Put N (IntKind.wrap .u64 n) 4 false = some ([n / 16777216 % 256, n / 65536 % 256, n / 256 % 256, n % 256], 0) := by
 rw [wrapU64 (by omega) (by omega)]
 exact put4 n (by omega) hN
def by4 (n : Int) : List Int := [n / 16777216 % 256, n / 65536 % 256, n / 256 % 256, n % 256]
theorem by4_B (n : Int) : AllB (by4 n) := fun x hx => by
 simp only [by4, List.mem_cons, List.not_mem_nil, or_false] at hx
 rcases hx with rfl | rfl | rfl | rfl <;> omega
theorem digest_ok (a b c d e : Int) (ht : ([a, b, c, d, e] : List Int).length = 5) (ha : AllW [a, b, c, d, e]) (hN : 10000 ≤ N) : ∃ D : Arr Int 20, D.l = by4 a ++ by4 b ++ by4 c ++ by4 d ++ by4 e ∧ sha1_digest N ⟨[a, b, c, d, e], ht⟩ = some D := by
 obtain ⟨M, rfl⟩ : ∃ M, N = M + 6 := ⟨N - 6, by omega⟩
 have pa := put4' (N := M + 6) a (ha a (by simp)) (by omega)
 have pb := put4' (N := M + 6) b (ha b (by simp)) (by omega)
 have pc := put4' (N := M + 6) c (ha c (by simp)) (by omega)
 have pd := put4' (N := M + 6) d (ha d (by simp)) (by omega)
 have pe := put4' (N := M + 6) e (ha e (by simp)) (by omega)
 have w3 : IntKind.wrap .i64 ((0 : Int) + 1) = 1 := by decide
 have w4 : IntKind.wrap .i64 ((1 : Int) + 1) = 2 := by decide
 have w5 : IntKind.wrap .i64 ((2 : Int) + 1) = 3 := by decide
 have w6 : IntKind.wrap .i64 ((3 : Int) + 1) = 4 := by decide
 have w7 : IntKind.wrap .i64 ((4 : Int) + 1) = 5 := by decide
 have z0 : getI ([a, b, c, d, e] : List Int) 0 = some a := rfl
 have z1 : getI ([a, b, c, d, e] : List Int) 1 = some b := rfl
 have z2 : getI ([a, b, c, d, e] : List Int) 2 = some c := rfl
 have z3 : getI ([a, b, c, d, e] : List Int) 3 = some d := rfl
 have z4 : getI ([a, b, c, d, e] : List Int) 4 = some e := rfl
 have l0 : (decide ((0 : Int) < 5)) = true := rfl
 have l1 : (decide ((1 : Int) < 5)) = true := rfl
 have l2 : (decide ((2 : Int) < 5)) = true := rfl
 have l3 : (decide ((3 : Int) < 5)) = true := rfl
 have l4 : (decide ((4 : Int) < 5)) = true := rfl
 have l5 : (decide ((5 : Int) < 5)) = false := rfl
 have rm : ∀ (p : List Int) (u v x y : Int), p.length < 100 → roomB (p.length + ([u, v, x, y] : List Int).length) 1 = true := fun p u v x y hp => roomB_of (by have := big_len; simp; omega) (by simp; omega)
 have step : ∀ (K : Nat) (i j : Int) (n : Int) (p : List Int) (h0 : Arr Int 20), decide (i < 5) = true → getI ([a, b, c, d, e] : List Int) i = some n → octs_Put (M + 6) (IntKind.wrap .u64 n) 4 false = some (by4 n, 0) → IntKind.wrap .i64 (i + 1) = j → p.length < 100 →
   gl (fun X c => sha1_digest_L3 (M + 6) X c.1.1 c.1.2.1 c.2.1 c.2.2.1) (K + 1) (((⟨[a, b, c, d, e], ht⟩ : Arr Int 5), (i, ())), (h0, (p, ()))) = gl (fun X c => sha1_digest_L3 (M + 6) X c.1.1 c.1.2.1 c.2.1 c.2.2.1) K (((⟨[a, b, c, d, e], ht⟩ : Arr Int 5), (j, ())), (h0, (p ++ by4 n, ()))) := fun K i j n p h0 q1 q2 q3 q4 q5 => by
  rw [gl_succ]
  have r := rm p (n / 16777216 % 256) (n / 65536 % 256) (n / 256 % 256) (n % 256) q5
  have r : roomB (p.length + (by4 n).length) 1 = true := r
  simp only [sha1_digest_L3, q1, cond_true, q2, Option.bind_some, q3, r, q4]
 have fin : ∀ (K : Nat) (p : List Int) (h0 : Arr Int 20), gl (fun X c => sha1_digest_L3 (M + 6) X c.1.1 c.1.2.1 c.2.1 c.2.2.1) (K + 1) (((⟨[a, b, c, d, e], ht⟩ : Arr Int 5), ((5 : Int), ())), (h0, (p, ()))) = some ((), (h0, (p, ()))) := fun K p h0 => by
  rw [gl_succ]; rfl
 have all : ∀ h0 : Arr Int 20, sha1_digest_L3_R (M + 6) (((⟨[a, b, c, d, e], ht⟩ : Arr Int 5), ((0 : Int), ())), (h0, (([] : List Int), ()))) = some ((), (h0, (by4 a ++ by4 b ++ by4 c ++ by4 d ++ by4 e, ()))) := fun h0 => by
  refine (step (M + 5) 0 1 a [] h0 l0 z0 pa w3 (by simp)).trans ?_
  refine (step (M + 4) 1 2 b _ h0 l1 z1 pb w4 (by simp [by4])).trans ?_
  refine (step (M + 3) 2 3 c _ h0 l2 z2 pc w5 (by simp [by4])).trans ?_
  refine (step (M + 2) 3 4 d _ h0 l3 z3 pd w6 (by simp [by4])).trans ?_
  refine (step (M + 1) 4 5 e _ h0 l4 z4 pe w7 (by simp [by4])).trans ?_
  exact fin M _ h0
 have hl : (by4 a ++ by4 b ++ by4 c ++ by4 d ++ by4 e).length = 20 := by simp [by4]
 unfold sha1_digest
 rw [all, Option.bind_some]
 refine ⟨⟨(by4 a ++ by4 b ++ by4 c ++ by4 d ++ by4 e).take 20, by rw [List.length_take, hl]; rfl⟩, ?_, ?_⟩
 ·exact List.take_of_length_le (by omega)
 ·have : toArr 20 (by4 a ++ by4 b ++ by4 c ++ by4 d ++ by4 e) = some ⟨(by4 a ++ by4 b ++ by4 c ++ by4 d ++ by4 e).take 20, by rw [List.length_take, hl]; rfl⟩ := dif_pos (by omega)
  simp only [this, Option.bind_some]
end
end Go.Proofs.YtphkpiocblmpeaaGreatDoor.Sh
