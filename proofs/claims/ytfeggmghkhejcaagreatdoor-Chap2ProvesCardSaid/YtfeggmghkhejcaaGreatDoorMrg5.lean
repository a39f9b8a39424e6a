/-
  Parts of my own, one behind the other: GCpB.
-/
import Derived.Test.YtfeggmghkhejcaaGreatDoorMrg4
namespace Go.Proofs.YtfeggmghkhejcaaGreatDoor
open Go.RowKit
set_option linter.unusedVariables false
set_option maxRecDepth 100000
section
variable (N : Nat)
noncomputable def ref05_Block (s0 : Arr Int 5) (block1 : Arr Int 64) : Option (Arr Int 5) :=
 Option.bind (ref05_Block_L3_R N ((s0, (block1, ((0 : Int), ()))), ((@Arr.cons Int 4 0 (@Arr.cons Int 3 0 (@Arr.cons Int 2 0 (@Arr.cons Int 1 0 (@Arr.cons Int 0 0 (@Arr.nil Int)))))), ((@Arr.cons Int 79 0 (@Arr.cons Int 78 0 (@Arr.cons Int 77 0 (@Arr.cons Int 76 0 (@Arr.cons Int 75 0 (@Arr.cons Int 74 0 (@Arr.cons Int 73 0 (@Arr.cons Int 72 0 (@Arr.cons Int 71 0 (@Arr.cons Int 70 0 (@Arr.cons Int 69 0 (@Arr.cons Int 68 0 (@Arr.cons Int 67 0 (@Arr.cons Int 66 0 (@Arr.cons Int 65 0 (@Arr.cons Int 64 0 (@Arr.cons Int 63 0 (@Arr.cons Int 62 0 (@Arr.cons Int 61 0 (@Arr.cons Int 60 0 (@Arr.cons Int 59 0 (@Arr.cons Int 58 0 (@Arr.cons Int 57 0 (@Arr.cons Int 56 0 (@Arr.cons Int 55 0 (@Arr.cons Int 54 0 (@Arr.cons Int 53 0 (@Arr.cons Int 52 0 (@Arr.cons Int 51 0 (@Arr.cons Int 50 0 (@Arr.cons Int 49 0 (@Arr.cons Int 48 0 (@Arr.cons Int 47 0 (@Arr.cons Int 46 0 (@Arr.cons Int 45 0 (@Arr.cons Int 44 0 (@Arr.cons Int 43 0 (@Arr.cons Int 42 0 (@Arr.cons Int 41 0 (@Arr.cons Int 40 0 (@Arr.cons Int 39 0 (@Arr.cons Int 38 0 (@Arr.cons Int 37 0 (@Arr.cons Int 36 0 (@Arr.cons Int 35 0 (@Arr.cons Int 34 0 (@Arr.cons Int 33 0 (@Arr.cons Int 32 0 (@Arr.cons Int 31 0 (@Arr.cons Int 30 0 (@Arr.cons Int 29 0 (@Arr.cons Int 28 0 (@Arr.cons Int 27 0 (@Arr.cons Int 26 0 (@Arr.cons Int 25 0 (@Arr.cons Int 24 0 (@Arr.cons Int 23 0 (@Arr.cons Int 22 0 (@Arr.cons Int 21 0 (@Arr.cons Int 20 0 (@Arr.cons Int 19 0 (@Arr.cons Int 18 0 (@Arr.cons Int 17 0 (@Arr.cons Int 16 0 (@Arr.cons Int 15 0 (@Arr.cons Int 14 0 (@Arr.cons Int 13 0 (@Arr.cons Int 12 0 (@Arr.cons Int 11 0 (@Arr.cons Int 10 0 (@Arr.cons Int 9 0 (@Arr.cons Int 8 0 (@Arr.cons Int 7 0 (@Arr.cons Int 6 0 (@Arr.cons Int 5 0 (@Arr.cons Int 4 0 (@Arr.cons Int 3 0 (@Arr.cons Int 2 0 (@Arr.cons Int 1 0 (@Arr.cons Int 0 0 (@Arr.nil Int))))))))))))))))))))))))))))))))))))))))))))))))))))))))))))))))))))))))))))))))), ())))) fun v3 =>
 Option.bind (ref05_Block_L10_R N ((v3.1.1, ((0 : Int), ())), (v3.2.1, (v3.2.2.1, (v3.1.1, ()))))) fun v4 =>
 Option.bind (ref05_Block_L15_R N ((v4.1.1, ((0 : Int), ())), (v4.2.1, (v4.2.2.1, ())))) fun v5 =>
 some (v5.2.2.1)
theorem ref05_Block_S (s0 : Arr Int 5) (block1 : Arr Int 64) : (runK Tryz.prog (Ev81 N) 400 70 [(.arr 5 (.int .u32)), (.arr 64 (.int .u8))] [(.arr 5 (.int .u32))] (s0, block1, ())).run = ref05_Block N s0 block1 := by kernel_rfl
noncomputable def Ev82 : (R : Type) → Env R := Env.addFn (Ev81 N) 70 (fun R => fnK [(.arr 5 (.int .u32)), (.arr 64 (.int .u8))] [(.arr 5 (.int .u32))] (fun c => ref05_Block N c.1 c.2.1))
theorem Ev82_ok (R : Type) : EnvOK Tryz.prog (Ev82 N R) := EnvOK.addFn hmx (Ev81_ok N R) (Ev81_ok N _) (by kernel_rfl) (fun c => ref05_Block_S N c.1 c.2.1)
noncomputable def Ev83 : (R : Type) → Env R := Env.addMv (Ev82 N) [(68, 7)]
theorem Ev83_ok (R : Type) : EnvOK Tryz.prog (Ev83 N R) := EnvOK.addMv (Ev82_ok N R) [(68, 7)]
noncomputable def ref05_Tail_L5_I : LI := ⟨30, 0, [], ⟨[(3, .ty (.sl (.int .u8))), (4, .ty (.int .i64)), (5, .lit (.own 0)), (6, .ty (.int .i64))], [.own (.int .u8) 5]⟩, [(.exit 0, ⟨[(5, .lit (.own 0))], [.own (.int .u8) 5]⟩)]⟩
noncomputable def ref05_Tail_L5 (N : Nat) (X : (((List Int) × (Int × (Int × Unit))) × ((List Int) × Unit)) → Option ((Unit × ((List Int) × Unit)))) (b3 : List (Int)) (k4 : Int) (i6 : Int) (h0 : List (Int)) : Option ((Unit × ((List Int) × Unit))) :=
 bif (decide ((0 : Int) ≤ i6)) then
  Option.bind (getI b3 (IntKind.wrap .i64 (k4 + i6))) fun (v6 : Int) =>
  bif (roomB ((List.length h0) + (List.length ([v6] : List (Int)))) 1) then
   (X ((b3, (k4, ((IntKind.wrap .i64 (i6 - 1)), ()))), ((h0 ++ ([v6] : List (Int))), ())))
  else
   none
 else
  some (((), (h0, ())))
noncomputable def ref05_Tail_L5_R (c : (((List Int) × (Int × (Int × Unit))) × ((List Int) × Unit))) : Option ((Unit × ((List Int) × Unit))) := gl (fun X c => ref05_Tail_L5 N X c.1.1 c.1.2.1 c.1.2.2.1 c.2.1) N c
theorem ref05_Tail_L5_S (X : (((List Int) × (Int × (Int × Unit))) × ((List Int) × Unit)) → Option ((Unit × ((List Int) × Unit)))) (b3 : List (Int)) (k4 : Int) (i6 : Int) (h0 : List (Int)) : (roundK Tryz.prog (Ev83 N) 400 [68] ref05_Tail_L5_I (loopAt Tryz.prog [68] 5) X ((b3, k4, i6, ()), (h0, ()))).run = ref05_Tail_L5 N X b3 k4 i6 h0 := by kernel_rfl
noncomputable def Ev84 : (R : Type) → Env R := Env.addLp (Ev83 N) [68] 0 5 (fun R => lpK Tryz.prog ref05_Tail_L5_I (fun X c => ref05_Tail_L5 N X c.1.1 c.1.2.1 c.1.2.2.1 c.2.1) N)
theorem Ev84_ok (R : Type) : EnvOK Tryz.prog (Ev84 N R) := EnvOK.addLp (Ev83_ok N R) (by kernel_rfl) (lpK_ok (li := ref05_Tail_L5_I) (G := fun X c => ref05_Tail_L5 N X c.1.1 c.1.2.1 c.1.2.2.1 c.2.1) hmx (Ev83_ok N _) (by kernel_rfl) loopAt_sub (fun (X : CT ref05_Tail_L5_I.sh → Option (OT ref05_Tail_L5_I.outs)) (c : CT ref05_Tail_L5_I.sh) => ref05_Tail_L5_S N X c.1.1 c.1.2.1 c.1.2.2.1 c.2.1) N)
noncomputable def ref05_Tail (n0 : Int) : Option (List Int) :=
 Option.bind (ref04_Tail N n0) fun v2 =>
 Option.bind (takeI v2 (IntKind.wrap .i64 ((((List.length v2) : Nat) : Int) - 8))) fun (v3 : (List Int)) =>
 bif (roomB (List.length v3) 1) then
  Option.bind (ref05_Tail_L5_R N ((v2, ((IntKind.wrap .i64 ((((List.length v2) : Nat) : Int) - 8)), ((7 : Int), ()))), (v3, ()))) fun v4 =>
  some (v4.2.1)
 else
  none
theorem ref05_Tail_S (n0 : Int) : (runK Tryz.prog (Ev84 N) 400 68 [(.int .u64)] [(.sl (.int .u8))] (n0, ())).run = ref05_Tail N n0 := by kernel_rfl
noncomputable def Ev85 : (R : Type) → Env R := Env.addFn (Ev84 N) 68 (fun R => fnK [(.int .u64)] [(.sl (.int .u8))] (fun c => ref05_Tail N c.1))
theorem Ev85_ok (R : Type) : EnvOK Tryz.prog (Ev85 N R) := EnvOK.addFn hmx (Ev84_ok N R) (Ev84_ok N _) (by kernel_rfl) (fun c => ref05_Tail_S N c.1)
noncomputable def ref05_First (N : Nat) : Option (Arr Int 5) :=
 some ((@Arr.cons Int 4 1732584193 (@Arr.cons Int 3 4023233417 (@Arr.cons Int 2 2562383102 (@Arr.cons Int 1 271733878 (@Arr.cons Int 0 3285377520 (@Arr.nil Int)))))))
theorem ref05_First_S : (runK Tryz.prog (Ev85 N) 400 69 [] [(.arr 5 (.int .u32))] ()).run = ref05_First N  := by kernel_rfl
noncomputable def Ev86 : (R : Type) → Env R := Env.addFn (Ev85 N) 69 (fun R => fnK [] [(.arr 5 (.int .u32))] (fun c => ref05_First N ))
theorem Ev86_ok (R : Type) : EnvOK Tryz.prog (Ev86 N R) := EnvOK.addFn hmx (Ev85_ok N R) (Ev85_ok N _) (by kernel_rfl) (fun c => ref05_First_S N )
noncomputable def ref05_Of_L8_I : LI := ⟨56, 0, [], ⟨[(2, .lit (.box 0 0)), (3, .lit (.own 1)), (4, .lit (.box 2 0)), (5, .ty (.int .i64)), (6, .lit (.box 3 0)), (7, .ty (.int .i64))], [.box 62 (.arr 20 (.int .u8)), .own (.int .u8) 5, .box 97 (.arr 5 (.int .u32)), .box 103 (.arr 64 (.int .u8))]⟩, [(.exit 2, ⟨[(2, .lit (.box 0 0)), (3, .lit (.own 1)), (4, .lit (.box 2 0)), (5, .ty (.int .i64)), (6, .lit (.box 3 0))], [.box 62 (.arr 20 (.int .u8)), .own (.int .u8) 5, .box 97 (.arr 5 (.int .u32)), .box 103 (.arr 64 (.int .u8))]⟩)]⟩
noncomputable def ref05_Of_L8 (N : Nat) (X : ((Int × (Int × Unit)) × ((Arr Int 20) × ((List Int) × ((Arr Int 5) × ((Arr Int 64) × Unit))))) → Option (((Int × Unit) × ((Arr Int 20) × ((List Int) × ((Arr Int 5) × ((Arr Int 64) × Unit))))))) (x5 : Int) (i7 : Int) (h0 : Arr Int 20) (h1 : List (Int)) (h2 : Arr Int 5) (h3 : Arr Int 64) : Option (((Int × Unit) × ((Arr Int 20) × ((List Int) × ((Arr Int 5) × ((Arr Int 64) × Unit)))))) :=
 bif (decide (i7 < (64 : Int))) then
  bif (decide ((0 : Int) ≤ (IntKind.wrap .i64 (x5 + i7)) ∧ (IntKind.wrap .i64 (x5 + i7)) < (((List.length h1) : Nat) : Int))) then
   Option.bind (h1[Int.toNat (IntKind.wrap .i64 (x5 + i7))]?) fun (v8 : Int) =>
   bif (decide ((0 : Int) ≤ i7 ∧ i7 < ((64 : Nat) : Int))) then
    Option.bind (h3.l[Int.toNat i7]?) fun (v9 : Int) =>
    (X ((x5, ((IntKind.wrap .i64 (i7 + 1)), ())), (h0, (h1, (h2, ((h3.set (Int.toNat i7) v8), ()))))))
   else
    none
  else
   none
 else
  some (((x5, ()), (h0, (h1, (h2, (h3, ()))))))
noncomputable def ref05_Of_L8_R (c : ((Int × (Int × Unit)) × ((Arr Int 20) × ((List Int) × ((Arr Int 5) × ((Arr Int 64) × Unit)))))) : Option (((Int × Unit) × ((Arr Int 20) × ((List Int) × ((Arr Int 5) × ((Arr Int 64) × Unit)))))) := gl (fun X c => ref05_Of_L8 N X c.1.1 c.1.2.1 c.2.1 c.2.2.1 c.2.2.2.1 c.2.2.2.2.1) N c
theorem ref05_Of_L8_S (X : ((Int × (Int × Unit)) × ((Arr Int 20) × ((List Int) × ((Arr Int 5) × ((Arr Int 64) × Unit))))) → Option (((Int × Unit) × ((Arr Int 20) × ((List Int) × ((Arr Int 5) × ((Arr Int 64) × Unit))))))) (x5 : Int) (i7 : Int) (h0 : Arr Int 20) (h1 : List (Int)) (h2 : Arr Int 5) (h3 : Arr Int 64) : (roundK Tryz.prog (Ev86 N) 400 [32] ref05_Of_L8_I (loopAt Tryz.prog [32] 8) X ((x5, i7, ()), (h0, h1, h2, h3, ()))).run = ref05_Of_L8 N X x5 i7 h0 h1 h2 h3 := by kernel_rfl
noncomputable def Ev87 : (R : Type) → Env R := Env.addLp (Ev86 N) [32] 0 8 (fun R => lpK Tryz.prog ref05_Of_L8_I (fun X c => ref05_Of_L8 N X c.1.1 c.1.2.1 c.2.1 c.2.2.1 c.2.2.2.1 c.2.2.2.2.1) N)
theorem Ev87_ok (R : Type) : EnvOK Tryz.prog (Ev87 N R) := EnvOK.addLp (Ev86_ok N R) (by kernel_rfl) (lpK_ok (li := ref05_Of_L8_I) (G := fun X c => ref05_Of_L8 N X c.1.1 c.1.2.1 c.2.1 c.2.2.1 c.2.2.2.1 c.2.2.2.2.1) hmx (Ev86_ok N _) (by kernel_rfl) loopAt_sub (fun (X : CT ref05_Of_L8_I.sh → Option (OT ref05_Of_L8_I.outs)) (c : CT ref05_Of_L8_I.sh) => ref05_Of_L8_S N X c.1.1 c.1.2.1 c.2.1 c.2.2.1 c.2.2.2.1 c.2.2.2.2.1) N)
noncomputable def ref05_Of_L4_I : LI := ⟨56, 0, [], ⟨[(2, .lit (.box 0 0)), (3, .lit (.own 1)), (4, .lit (.box 2 0)), (5, .ty (.int .i64))], [.box 62 (.arr 20 (.int .u8)), .own (.int .u8) 5, .box 97 (.arr 5 (.int .u32))]⟩, [(.exit 0, ⟨[(2, .lit (.box 0 0)), (4, .lit (.box 1 0))], [.box 62 (.arr 20 (.int .u8)), .box 97 (.arr 5 (.int .u32))]⟩)]⟩
noncomputable def ref05_Of_L4 (X : ((Int × Unit) × ((Arr Int 20) × ((List Int) × ((Arr Int 5) × Unit)))) → Option ((Unit × ((Arr Int 20) × ((Arr Int 5) × Unit))))) (x5 : Int) (h0 : Arr Int 20) (h1 : List (Int)) (h2 : Arr Int 5) : Option ((Unit × ((Arr Int 20) × ((Arr Int 5) × Unit)))) :=
 bif (decide (x5 < (((List.length h1) : Nat) : Int))) then
  Option.bind (ref05_Of_L8_R N ((x5, ((0 : Int), ())), (h0, (h1, (h2, ((@Arr.cons Int 63 0 (@Arr.cons Int 62 0 (@Arr.cons Int 61 0 (@Arr.cons Int 60 0 (@Arr.cons Int 59 0 (@Arr.cons Int 58 0 (@Arr.cons Int 57 0 (@Arr.cons Int 56 0 (@Arr.cons Int 55 0 (@Arr.cons Int 54 0 (@Arr.cons Int 53 0 (@Arr.cons Int 52 0 (@Arr.cons Int 51 0 (@Arr.cons Int 50 0 (@Arr.cons Int 49 0 (@Arr.cons Int 48 0 (@Arr.cons Int 47 0 (@Arr.cons Int 46 0 (@Arr.cons Int 45 0 (@Arr.cons Int 44 0 (@Arr.cons Int 43 0 (@Arr.cons Int 42 0 (@Arr.cons Int 41 0 (@Arr.cons Int 40 0 (@Arr.cons Int 39 0 (@Arr.cons Int 38 0 (@Arr.cons Int 37 0 (@Arr.cons Int 36 0 (@Arr.cons Int 35 0 (@Arr.cons Int 34 0 (@Arr.cons Int 33 0 (@Arr.cons Int 32 0 (@Arr.cons Int 31 0 (@Arr.cons Int 30 0 (@Arr.cons Int 29 0 (@Arr.cons Int 28 0 (@Arr.cons Int 27 0 (@Arr.cons Int 26 0 (@Arr.cons Int 25 0 (@Arr.cons Int 24 0 (@Arr.cons Int 23 0 (@Arr.cons Int 22 0 (@Arr.cons Int 21 0 (@Arr.cons Int 20 0 (@Arr.cons Int 19 0 (@Arr.cons Int 18 0 (@Arr.cons Int 17 0 (@Arr.cons Int 16 0 (@Arr.cons Int 15 0 (@Arr.cons Int 14 0 (@Arr.cons Int 13 0 (@Arr.cons Int 12 0 (@Arr.cons Int 11 0 (@Arr.cons Int 10 0 (@Arr.cons Int 9 0 (@Arr.cons Int 8 0 (@Arr.cons Int 7 0 (@Arr.cons Int 6 0 (@Arr.cons Int 5 0 (@Arr.cons Int 4 0 (@Arr.cons Int 3 0 (@Arr.cons Int 2 0 (@Arr.cons Int 1 0 (@Arr.cons Int 0 0 (@Arr.nil Int))))))))))))))))))))))))))))))))))))))))))))))))))))))))))))))))), ())))))) fun v6 =>
  Option.bind (ref05_Block N v6.2.2.2.1 v6.2.2.2.2.1) fun v7 =>
  (X (((IntKind.wrap .i64 (v6.1.1 + 64)), ()), (v6.2.1, (v6.2.2.1, (v7, ())))))
 else
  some (((), (h0, (h2, ()))))
noncomputable def ref05_Of_L4_R (c : ((Int × Unit) × ((Arr Int 20) × ((List Int) × ((Arr Int 5) × Unit))))) : Option ((Unit × ((Arr Int 20) × ((Arr Int 5) × Unit)))) := gl (fun X c => ref05_Of_L4 N X c.1.1 c.2.1 c.2.2.1 c.2.2.2.1) N c
theorem ref05_Of_L4_S (X : ((Int × Unit) × ((Arr Int 20) × ((List Int) × ((Arr Int 5) × Unit)))) → Option ((Unit × ((Arr Int 20) × ((Arr Int 5) × Unit))))) (x5 : Int) (h0 : Arr Int 20) (h1 : List (Int)) (h2 : Arr Int 5) : (roundK Tryz.prog (Ev87 N) 400 [32] ref05_Of_L4_I (loopAt Tryz.prog [32] 4) X ((x5, ()), (h0, h1, h2, ()))).run = ref05_Of_L4 N X x5 h0 h1 h2 := by kernel_rfl
noncomputable def Ev88 : (R : Type) → Env R := Env.addLp (Ev87 N) [32] 0 4 (fun R => lpK Tryz.prog ref05_Of_L4_I (fun X c => ref05_Of_L4 N X c.1.1 c.2.1 c.2.2.1 c.2.2.2.1) N)
theorem Ev88_ok (R : Type) : EnvOK Tryz.prog (Ev88 N R) := EnvOK.addLp (Ev87_ok N R) (by kernel_rfl) (lpK_ok (li := ref05_Of_L4_I) (G := fun X c => ref05_Of_L4 N X c.1.1 c.2.1 c.2.2.1 c.2.2.2.1) hmx (Ev87_ok N _) (by kernel_rfl) loopAt_sub (fun (X : CT ref05_Of_L4_I.sh → Option (OT ref05_Of_L4_I.outs)) (c : CT ref05_Of_L4_I.sh) => ref05_Of_L4_S N X c.1.1 c.2.1 c.2.2.1 c.2.2.2.1) N)
noncomputable def ref05_Of_L14_I : LI := ⟨56, 0, [], ⟨[(2, .lit (.box 0 0)), (4, .lit (.box 1 0)), (8, .lit (.box 2 0)), (9, .ty (.int .i64))], [.box 62 (.arr 20 (.int .u8)), .box 97 (.arr 5 (.int .u32)), .box 62 (.arr 20 (.int .u8))]⟩, [(.exit 4, ⟨[(2, .lit (.box 0 0)), (8, .lit (.box 1 0))], [.box 62 (.arr 20 (.int .u8)), .box 62 (.arr 20 (.int .u8))]⟩)]⟩
noncomputable def ref05_Of_L14 (N : Nat) (X : ((Int × Unit) × ((Arr Int 20) × ((Arr Int 5) × ((Arr Int 20) × Unit)))) → Option ((Unit × ((Arr Int 20) × ((Arr Int 20) × Unit))))) (i9 : Int) (h0 : Arr Int 20) (h1 : Arr Int 5) (h2 : Arr Int 20) : Option ((Unit × ((Arr Int 20) × ((Arr Int 20) × Unit)))) :=
 bif (decide (i9 < (20 : Int))) then
  bif (decide ((0 : Int) ≤ (IntKind.wrap .i64 (@Int.tdiv i9 (4 : Int))) ∧ (IntKind.wrap .i64 (@Int.tdiv i9 (4 : Int))) < ((5 : Nat) : Int))) then
   Option.bind (h1.l[Int.toNat (IntKind.wrap .i64 (@Int.tdiv i9 (4 : Int)))]?) fun (v6 : Int) =>
   bif (decide ((0 : Int) ≤ (IntKind.wrap .i64 ((24 : Int) - (IntKind.wrap .i64 ((8 : Int) * (@Int.tmod i9 (4 : Int)))))))) then
    bif (decide ((0 : Int) ≤ i9 ∧ i9 < ((20 : Nat) : Int))) then
     Option.bind (h2.l[Int.toNat i9]?) fun (v7 : Int) =>
     (X (((IntKind.wrap .i64 (i9 + 1)), ()), (h0, (h1, ((h2.set (Int.toNat i9) (IntKind.wrap .u8 (@Int.fdiv v6 ((2 : Int) ^ (min (Int.toNat (IntKind.wrap .i64 ((24 : Int) - (IntKind.wrap .i64 ((8 : Int) * (@Int.tmod i9 (4 : Int))))))) (IntKind.bits .u32)))))), ())))))
    else
     none
   else
    none
  else
   none
 else
  some (((), (h0, (h2, ()))))
noncomputable def ref05_Of_L14_R (c : ((Int × Unit) × ((Arr Int 20) × ((Arr Int 5) × ((Arr Int 20) × Unit))))) : Option ((Unit × ((Arr Int 20) × ((Arr Int 20) × Unit)))) := gl (fun X c => ref05_Of_L14 N X c.1.1 c.2.1 c.2.2.1 c.2.2.2.1) N c
theorem ref05_Of_L14_S (X : ((Int × Unit) × ((Arr Int 20) × ((Arr Int 5) × ((Arr Int 20) × Unit)))) → Option ((Unit × ((Arr Int 20) × ((Arr Int 20) × Unit))))) (i9 : Int) (h0 : Arr Int 20) (h1 : Arr Int 5) (h2 : Arr Int 20) : (roundK Tryz.prog (Ev88 N) 400 [32] ref05_Of_L14_I (loopAt Tryz.prog [32] 14) X ((i9, ()), (h0, h1, h2, ()))).run = ref05_Of_L14 N X i9 h0 h1 h2 := by kernel_rfl
noncomputable def Ev89 : (R : Type) → Env R := Env.addLp (Ev88 N) [32] 0 14 (fun R => lpK Tryz.prog ref05_Of_L14_I (fun X c => ref05_Of_L14 N X c.1.1 c.2.1 c.2.2.1 c.2.2.2.1) N)
theorem Ev89_ok (R : Type) : EnvOK Tryz.prog (Ev89 N R) := EnvOK.addLp (Ev88_ok N R) (by kernel_rfl) (lpK_ok (li := ref05_Of_L14_I) (G := fun X c => ref05_Of_L14 N X c.1.1 c.2.1 c.2.2.1 c.2.2.2.1) hmx (Ev88_ok N _) (by kernel_rfl) loopAt_sub (fun (X : CT ref05_Of_L14_I.sh → Option (OT ref05_Of_L14_I.outs)) (c : CT ref05_Of_L14_I.sh) => ref05_Of_L14_S N X c.1.1 c.2.1 c.2.2.1 c.2.2.2.1) N)
noncomputable def ref05_Of (b0 : List (Int)) : Option (Arr Int 20) :=
 bif (roomB (List.length b0) 1) then
  Option.bind (ref05_Tail N (IntKind.wrap .u64 (((List.length b0) : Nat) : Int))) fun v2 =>
  bif (roomB ((List.length b0) + (List.length v2)) 1) then
   Option.bind (ref05_Of_L4_R N (((0 : Int), ()), ((@Arr.cons Int 19 0 (@Arr.cons Int 18 0 (@Arr.cons Int 17 0 (@Arr.cons Int 16 0 (@Arr.cons Int 15 0 (@Arr.cons Int 14 0 (@Arr.cons Int 13 0 (@Arr.cons Int 12 0 (@Arr.cons Int 11 0 (@Arr.cons Int 10 0 (@Arr.cons Int 9 0 (@Arr.cons Int 8 0 (@Arr.cons Int 7 0 (@Arr.cons Int 6 0 (@Arr.cons Int 5 0 (@Arr.cons Int 4 0 (@Arr.cons Int 3 0 (@Arr.cons Int 2 0 (@Arr.cons Int 1 0 (@Arr.cons Int 0 0 (@Arr.nil Int))))))))))))))))))))), ((b0 ++ v2), ((@Arr.cons Int 4 1732584193 (@Arr.cons Int 3 4023233417 (@Arr.cons Int 2 2562383102 (@Arr.cons Int 1 271733878 (@Arr.cons Int 0 3285377520 (@Arr.nil Int)))))), ()))))) fun v3 =>
   Option.bind (ref05_Of_L14_R N (((0 : Int), ()), (v3.2.1, (v3.2.2.1, ((@Arr.cons Int 19 0 (@Arr.cons Int 18 0 (@Arr.cons Int 17 0 (@Arr.cons Int 16 0 (@Arr.cons Int 15 0 (@Arr.cons Int 14 0 (@Arr.cons Int 13 0 (@Arr.cons Int 12 0 (@Arr.cons Int 11 0 (@Arr.cons Int 10 0 (@Arr.cons Int 9 0 (@Arr.cons Int 8 0 (@Arr.cons Int 7 0 (@Arr.cons Int 6 0 (@Arr.cons Int 5 0 (@Arr.cons Int 4 0 (@Arr.cons Int 3 0 (@Arr.cons Int 2 0 (@Arr.cons Int 1 0 (@Arr.cons Int 0 0 (@Arr.nil Int))))))))))))))))))))), ()))))) fun v4 =>
   some (v4.2.2.1)
  else
   none
 else
  none
theorem ref05_Of_S (b0 : List (Int)) : (runK Tryz.prog (Ev89 N) 400 32 [(.sl (.int .u8))] [(.arr 20 (.int .u8))] (b0, ())).run = ref05_Of N b0 := by kernel_rfl
noncomputable def Ev90 : (R : Type) → Env R := Env.addFn (Ev89 N) 32 (fun R => fnK [(.sl (.int .u8))] [(.arr 20 (.int .u8))] (fun c => ref05_Of N c.1))
theorem Ev90_ok (R : Type) : EnvOK Tryz.prog (Ev90 N R) := EnvOK.addFn hmx (Ev89_ok N R) (Ev89_ok N _) (by kernel_rfl) (fun c => ref05_Of_S N c.1)
noncomputable def unicode_utf8_word_string (N : Nat) (s0 : List UInt8) : Option Int :=
 Option.bind (getI s0 (0 : Int)) fun (v2 : UInt8) =>
 Option.bind (getI s0 (1 : Int)) fun (v3 : UInt8) =>
 Option.bind (getI s0 (2 : Int)) fun (v4 : UInt8) =>
 Option.bind (getI s0 (3 : Int)) fun (v5 : UInt8) =>
 Option.bind (getI s0 (4 : Int)) fun (v6 : UInt8) =>
 Option.bind (getI s0 (5 : Int)) fun (v7 : UInt8) =>
 Option.bind (getI s0 (6 : Int)) fun (v8 : UInt8) =>
 Option.bind (getI s0 (7 : Int)) fun (v9 : UInt8) =>
 some ((bits .or .u64 (bits .or .u64 (bits .or .u64 (bits .or .u64 (bits .or .u64 (bits .or .u64 (bits .or .u64 (IntKind.wrap .u64 (((@UInt8.toNat v2) : Nat) : Int)) (IntKind.wrap .u64 ((IntKind.wrap .u64 (((@UInt8.toNat v3) : Nat) : Int)) * ((2 : Int) ^ (min (Int.toNat (8 : Int)) (IntKind.bits .u64)))))) (IntKind.wrap .u64 ((IntKind.wrap .u64 (((@UInt8.toNat v4) : Nat) : Int)) * ((2 : Int) ^ (min (Int.toNat (16 : Int)) (IntKind.bits .u64)))))) (IntKind.wrap .u64 ((IntKind.wrap .u64 (((@UInt8.toNat v5) : Nat) : Int)) * ((2 : Int) ^ (min (Int.toNat (24 : Int)) (IntKind.bits .u64)))))) (IntKind.wrap .u64 ((IntKind.wrap .u64 (((@UInt8.toNat v6) : Nat) : Int)) * ((2 : Int) ^ (min (Int.toNat (32 : Int)) (IntKind.bits .u64)))))) (IntKind.wrap .u64 ((IntKind.wrap .u64 (((@UInt8.toNat v7) : Nat) : Int)) * ((2 : Int) ^ (min (Int.toNat (40 : Int)) (IntKind.bits .u64)))))) (IntKind.wrap .u64 ((IntKind.wrap .u64 (((@UInt8.toNat v8) : Nat) : Int)) * ((2 : Int) ^ (min (Int.toNat (48 : Int)) (IntKind.bits .u64)))))) (IntKind.wrap .u64 ((IntKind.wrap .u64 (((@UInt8.toNat v9) : Nat) : Int)) * ((2 : Int) ^ (min (Int.toNat (56 : Int)) (IntKind.bits .u64)))))))
theorem unicode_utf8_word_string_S (s0 : List UInt8) : (runK Tryz.prog (Ev90 N) 400 169 [.str] [(.int .u64)] (s0, ())).run = unicode_utf8_word_string N s0 := by kernel_rfl
noncomputable def Ev91 : (R : Type) → Env R := Env.addFn (Ev90 N) 169 (fun R => fnK [.str] [(.int .u64)] (fun c => unicode_utf8_word_string N c.1))
theorem Ev91_ok (R : Type) : EnvOK Tryz.prog (Ev91 N R) := EnvOK.addFn hmx (Ev90_ok N R) (Ev90_ok N _) (by kernel_rfl) (fun c => unicode_utf8_word_string_S N c.1)
noncomputable def unicode_utf8_ValidString_L9_I : LI := ⟨169, 0, [], ⟨[(0, .ty .str)], []⟩, [(.exit 2, ⟨[(0, .ty .str)], []⟩)]⟩
noncomputable def unicode_utf8_ValidString_L9 (X : ((List UInt8 × Unit) × Unit) → Option (((List UInt8 × Unit) × Unit))) (s0 : List UInt8) : Option (((List UInt8 × Unit) × Unit)) :=
 bif (decide ((32 : Int) < (((List.length s0) : Nat) : Int))) then
  Option.bind (unicode_utf8_word_string N s0) fun v3 =>
  Option.bind (dropI s0 (8 : Int)) fun (v4 : (List UInt8)) =>
  Option.bind (unicode_utf8_word_string N v4) fun v5 =>
  Option.bind (dropI s0 (16 : Int)) fun (v6 : (List UInt8)) =>
  Option.bind (unicode_utf8_word_string N v6) fun v7 =>
  Option.bind (dropI s0 (24 : Int)) fun (v8 : (List UInt8)) =>
  Option.bind (unicode_utf8_word_string N v8) fun v9 =>
  bif (cond true (decide ((bits .and .u64 (bits .or .u64 (bits .or .u64 v3 v5) (bits .or .u64 v7 v9)) (9259542123273814144 : Int)) = (0 : Int))) false) then
   Option.bind (dropI s0 (32 : Int)) fun (v10 : (List UInt8)) =>
   (X ((v10, ()), ()))
  else
   some (((s0, ()), ()))
 else
  some (((s0, ()), ()))
noncomputable def unicode_utf8_ValidString_L9_R (c : ((List UInt8 × Unit) × Unit)) : Option (((List UInt8 × Unit) × Unit)) := gl (fun X c => unicode_utf8_ValidString_L9 N X c.1.1) N c
theorem unicode_utf8_ValidString_L9_S (X : ((List UInt8 × Unit) × Unit) → Option (((List UInt8 × Unit) × Unit))) (s0 : List UInt8) : (roundK Tryz.prog (Ev91 N) 400 [133] unicode_utf8_ValidString_L9_I (loopAt Tryz.prog [133] 9) X ((s0, ()), ())).run = unicode_utf8_ValidString_L9 N X s0 := by kernel_rfl
noncomputable def Ev92 : (R : Type) → Env R := Env.addLp (Ev91 N) [133] 0 9 (fun R => lpK Tryz.prog unicode_utf8_ValidString_L9_I (fun X c => unicode_utf8_ValidString_L9 N X c.1.1) N)
theorem Ev92_ok (R : Type) : EnvOK Tryz.prog (Ev92 N R) := EnvOK.addLp (Ev91_ok N R) (by kernel_rfl) (lpK_ok (li := unicode_utf8_ValidString_L9_I) (G := fun X c => unicode_utf8_ValidString_L9 N X c.1.1) hmx (Ev91_ok N _) (by kernel_rfl) loopAt_sub (fun (X : CT unicode_utf8_ValidString_L9_I.sh → Option (OT unicode_utf8_ValidString_L9_I.outs)) (c : CT unicode_utf8_ValidString_L9_I.sh) => unicode_utf8_ValidString_L9_S N X c.1.1) N)
noncomputable def unicode_utf8_ValidString_L1_I : LI := ⟨169, 0, [], ⟨[(0, .ty .str)], []⟩, [(.ret, ⟨[(2, .ty .bool)], []⟩), (.exit 0, ⟨[], []⟩)]⟩
noncomputable def unicode_utf8_ValidString_L1 (X : ((List UInt8 × Unit) × Unit) → Option ((((Bool × Unit) × Unit) ⊕ (Unit × Unit)))) (s0 : List UInt8) : Option ((((Bool × Unit) × Unit) ⊕ (Unit × Unit))) :=
 bif (decide ((0 : Int) < (((List.length s0) : Nat) : Int))) then
  Option.bind (getI s0 (0 : Int)) fun (v3 : UInt8) =>
  bif (decide ((((@UInt8.toNat v3) : Nat) : Int) < (128 : Int))) then
   Option.bind (dropI s0 (1 : Int)) fun (v4 : (List UInt8)) =>
   bif (decide ((8 : Int) < (((List.length v4) : Nat) : Int))) then
    Option.bind (unicode_utf8_word_string N v4) fun v5 =>
    Option.bind (some ((cond true (decide ((bits .and .u64 v5 (9259542123273814144 : Int)) = (0 : Int))) false))) fun (v6 : Bool) =>
    bif v6 then
     Option.bind (dropI v4 (8 : Int)) fun (v7 : (List UInt8)) =>
     bif (decide ((16 : Int) < (((List.length v7) : Nat) : Int))) then
      Option.bind (unicode_utf8_word_string N v7) fun v8 =>
      Option.bind (dropI v7 (8 : Int)) fun (v9 : (List UInt8)) =>
      Option.bind (unicode_utf8_word_string N v9) fun v10 =>
      bif (cond true (decide ((bits .and .u64 (bits .or .u64 v8 v10) (9259542123273814144 : Int)) = (0 : Int))) false) then
       Option.bind (dropI v7 (16 : Int)) fun (v11 : (List UInt8)) =>
       Option.bind (unicode_utf8_ValidString_L9_R N ((v11, ()), ())) fun v12 =>
       (X ((v12.1.1, ()), ()))
      else
       (X ((v7, ()), ()))
     else
      (X ((v7, ()), ()))
    else
     (X ((v4, ()), ()))
   else
    Option.bind (some (false)) fun (v5 : Bool) =>
    bif v5 then
     Option.bind (dropI v4 (8 : Int)) fun (v6 : (List UInt8)) =>
     bif (decide ((16 : Int) < (((List.length v6) : Nat) : Int))) then
      Option.bind (unicode_utf8_word_string N v6) fun v7 =>
      Option.bind (dropI v6 (8 : Int)) fun (v8 : (List UInt8)) =>
      Option.bind (unicode_utf8_word_string N v8) fun v9 =>
      bif (cond true (decide ((bits .and .u64 (bits .or .u64 v7 v9) (9259542123273814144 : Int)) = (0 : Int))) false) then
       Option.bind (dropI v6 (16 : Int)) fun (v10 : (List UInt8)) =>
       Option.bind (unicode_utf8_ValidString_L9_R N ((v10, ()), ())) fun v11 =>
       (X ((v11.1.1, ()), ()))
      else
       (X ((v6, ()), ()))
     else
      (X ((v6, ()), ()))
    else
     (X ((v4, ()), ()))
  else
   Option.bind (getI (@List.cons Int (240 : Int) (@List.cons Int (240 : Int) (@List.cons Int (240 : Int) (@List.cons Int (240 : Int) (@List.cons Int (240 : Int) (@List.cons Int (240 : Int) (@List.cons Int (240 : Int) (@List.cons Int (240 : Int) (@List.cons Int (240 : Int) (@List.cons Int (240 : Int) (@List.cons Int (240 : Int) (@List.cons Int (240 : Int) (@List.cons Int (240 : Int) (@List.cons Int (240 : Int) (@List.cons Int (240 : Int) (@List.cons Int (240 : Int) (@List.cons Int (240 : Int) (@List.cons Int (240 : Int) (@List.cons Int (240 : Int) (@List.cons Int (240 : Int) (@List.cons Int (240 : Int) (@List.cons Int (240 : Int) (@List.cons Int (240 : Int) (@List.cons Int (240 : Int) (@List.cons Int (240 : Int) (@List.cons Int (240 : Int) (@List.cons Int (240 : Int) (@List.cons Int (240 : Int) (@List.cons Int (240 : Int) (@List.cons Int (240 : Int) (@List.cons Int (240 : Int) (@List.cons Int (240 : Int) (@List.cons Int (240 : Int) (@List.cons Int (240 : Int) (@List.cons Int (240 : Int) (@List.cons Int (240 : Int) (@List.cons Int (240 : Int) (@List.cons Int (240 : Int) (@List.cons Int (240 : Int) (@List.cons Int (240 : Int) (@List.cons Int (240 : Int) (@List.cons Int (240 : Int) (@List.cons Int (240 : Int) (@List.cons Int (240 : Int) (@List.cons Int (240 : Int) (@List.cons Int (240 : Int) (@List.cons Int (240 : Int) (@List.cons Int (240 : Int) (@List.cons Int (240 : Int) (@List.cons Int (240 : Int) (@List.cons Int (240 : Int) (@List.cons Int (240 : Int) (@List.cons Int (240 : Int) (@List.cons Int (240 : Int) (@List.cons Int (240 : Int) (@List.cons Int (240 : Int) (@List.cons Int (240 : Int) (@List.cons Int (240 : Int) (@List.cons Int (240 : Int) (@List.cons Int (240 : Int) (@List.cons Int (240 : Int) (@List.cons Int (240 : Int) (@List.cons Int (240 : Int) (@List.cons Int (240 : Int) (@List.cons Int (240 : Int) (@List.cons Int (240 : Int) (@List.cons Int (240 : Int) (@List.cons Int (240 : Int) (@List.cons Int (240 : Int) (@List.cons Int (240 : Int) (@List.cons Int (240 : Int) (@List.cons Int (240 : Int) (@List.cons Int (240 : Int) (@List.cons Int (240 : Int) (@List.cons Int (240 : Int) (@List.cons Int (240 : Int) (@List.cons Int (240 : Int) (@List.cons Int (240 : Int) (@List.cons Int (240 : Int) (@List.cons Int (240 : Int) (@List.cons Int (240 : Int) (@List.cons Int (240 : Int) (@List.cons Int (240 : Int) (@List.cons Int (240 : Int) (@List.cons Int (240 : Int) (@List.cons Int (240 : Int) (@List.cons Int (240 : Int) (@List.cons Int (240 : Int) (@List.cons Int (240 : Int) (@List.cons Int (240 : Int) (@List.cons Int (240 : Int) (@List.cons Int (240 : Int) (@List.cons Int (240 : Int) (@List.cons Int (240 : Int) (@List.cons Int (240 : Int) (@List.cons Int (240 : Int) (@List.cons Int (240 : Int) (@List.cons Int (240 : Int) (@List.cons Int (240 : Int) (@List.cons Int (240 : Int) (@List.cons Int (240 : Int) (@List.cons Int (240 : Int) (@List.cons Int (240 : Int) (@List.cons Int (240 : Int) (@List.cons Int (240 : Int) (@List.cons Int (240 : Int) (@List.cons Int (240 : Int) (@List.cons Int (240 : Int) (@List.cons Int (240 : Int) (@List.cons Int (240 : Int) (@List.cons Int (240 : Int) (@List.cons Int (240 : Int) (@List.cons Int (240 : Int) (@List.cons Int (240 : Int) (@List.cons Int (240 : Int) (@List.cons Int (240 : Int) (@List.cons Int (240 : Int) (@List.cons Int (240 : Int) (@List.cons Int (240 : Int) (@List.cons Int (240 : Int) (@List.cons Int (240 : Int) (@List.cons Int (240 : Int) (@List.cons Int (240 : Int) (@List.cons Int (240 : Int) (@List.cons Int (240 : Int) (@List.cons Int (240 : Int) (@List.cons Int (240 : Int) (@List.cons Int (240 : Int) (@List.cons Int (241 : Int) (@List.cons Int (241 : Int) (@List.cons Int (241 : Int) (@List.cons Int (241 : Int) (@List.cons Int (241 : Int) (@List.cons Int (241 : Int) (@List.cons Int (241 : Int) (@List.cons Int (241 : Int) (@List.cons Int (241 : Int) (@List.cons Int (241 : Int) (@List.cons Int (241 : Int) (@List.cons Int (241 : Int) (@List.cons Int (241 : Int) (@List.cons Int (241 : Int) (@List.cons Int (241 : Int) (@List.cons Int (241 : Int) (@List.cons Int (241 : Int) (@List.cons Int (241 : Int) (@List.cons Int (241 : Int) (@List.cons Int (241 : Int) (@List.cons Int (241 : Int) (@List.cons Int (241 : Int) (@List.cons Int (241 : Int) (@List.cons Int (241 : Int) (@List.cons Int (241 : Int) (@List.cons Int (241 : Int) (@List.cons Int (241 : Int) (@List.cons Int (241 : Int) (@List.cons Int (241 : Int) (@List.cons Int (241 : Int) (@List.cons Int (241 : Int) (@List.cons Int (241 : Int) (@List.cons Int (241 : Int) (@List.cons Int (241 : Int) (@List.cons Int (241 : Int) (@List.cons Int (241 : Int) (@List.cons Int (241 : Int) (@List.cons Int (241 : Int) (@List.cons Int (241 : Int) (@List.cons Int (241 : Int) (@List.cons Int (241 : Int) (@List.cons Int (241 : Int) (@List.cons Int (241 : Int) (@List.cons Int (241 : Int) (@List.cons Int (241 : Int) (@List.cons Int (241 : Int) (@List.cons Int (241 : Int) (@List.cons Int (241 : Int) (@List.cons Int (241 : Int) (@List.cons Int (241 : Int) (@List.cons Int (241 : Int) (@List.cons Int (241 : Int) (@List.cons Int (241 : Int) (@List.cons Int (241 : Int) (@List.cons Int (241 : Int) (@List.cons Int (241 : Int) (@List.cons Int (241 : Int) (@List.cons Int (241 : Int) (@List.cons Int (241 : Int) (@List.cons Int (241 : Int) (@List.cons Int (241 : Int) (@List.cons Int (241 : Int) (@List.cons Int (241 : Int) (@List.cons Int (241 : Int) (@List.cons Int (241 : Int) (@List.cons Int (241 : Int) (@List.cons Int (2 : Int) (@List.cons Int (2 : Int) (@List.cons Int (2 : Int) (@List.cons Int (2 : Int) (@List.cons Int (2 : Int) (@List.cons Int (2 : Int) (@List.cons Int (2 : Int) (@List.cons Int (2 : Int) (@List.cons Int (2 : Int) (@List.cons Int (2 : Int) (@List.cons Int (2 : Int) (@List.cons Int (2 : Int) (@List.cons Int (2 : Int) (@List.cons Int (2 : Int) (@List.cons Int (2 : Int) (@List.cons Int (2 : Int) (@List.cons Int (2 : Int) (@List.cons Int (2 : Int) (@List.cons Int (2 : Int) (@List.cons Int (2 : Int) (@List.cons Int (2 : Int) (@List.cons Int (2 : Int) (@List.cons Int (2 : Int) (@List.cons Int (2 : Int) (@List.cons Int (2 : Int) (@List.cons Int (2 : Int) (@List.cons Int (2 : Int) (@List.cons Int (2 : Int) (@List.cons Int (2 : Int) (@List.cons Int (2 : Int) (@List.cons Int (19 : Int) (@List.cons Int (3 : Int) (@List.cons Int (3 : Int) (@List.cons Int (3 : Int) (@List.cons Int (3 : Int) (@List.cons Int (3 : Int) (@List.cons Int (3 : Int) (@List.cons Int (3 : Int) (@List.cons Int (3 : Int) (@List.cons Int (3 : Int) (@List.cons Int (3 : Int) (@List.cons Int (3 : Int) (@List.cons Int (3 : Int) (@List.cons Int (35 : Int) (@List.cons Int (3 : Int) (@List.cons Int (3 : Int) (@List.cons Int (52 : Int) (@List.cons Int (4 : Int) (@List.cons Int (4 : Int) (@List.cons Int (4 : Int) (@List.cons Int (68 : Int) (@List.cons Int (241 : Int) (@List.cons Int (241 : Int) (@List.cons Int (241 : Int) ([241, 241, 241, 241, 241, 241, 241, 241] : List Int))))))))))))))))))))))))))))))))))))))))))))))))))))))))))))))))))))))))))))))))))))))))))))))))))))))))))))))))))))))))))))))))))))))))))))))))))))))))))))))))))))))))))))))))))))))))))))))))))))))))))))))))))))))))))))))))))))))))))))))))))))))))) (((@UInt8.toNat v3) : Nat) : Int)) fun (v4 : Int) =>
   Option.bind (getI ([((128 : Int), (191 : Int)), ((160 : Int), (191 : Int)), ((128 : Int), (159 : Int)), ((144 : Int), (191 : Int)), ((128 : Int), (143 : Int)), ((0 : Int), (0 : Int)), ((0 : Int), (0 : Int)), ((0 : Int), (0 : Int)), ((0 : Int), (0 : Int)), ((0 : Int), (0 : Int)), ((0 : Int), (0 : Int)), ((0 : Int), (0 : Int)), ((0 : Int), (0 : Int)), ((0 : Int), (0 : Int)), ((0 : Int), (0 : Int)), ((0 : Int), (0 : Int))] : List ((Int × Int))) (@Int.fdiv v4 ((2 : Int) ^ (min (Int.toNat (4 : Int)) (IntKind.bits .u8))))) fun (v5 : (Int × Int)) =>
   bif (decide ((IntKind.wrap .i64 (bits .and .u8 v4 (7 : Int))) = (2 : Int))) then
    bif (decide ((((List.length s0) : Nat) : Int) < (2 : Int))) then
     some ((.inl ((false, ()), ())))
    else
     Option.bind (getI s0 (1 : Int)) fun (v6 : UInt8) =>
     bif (cond false true (decide ((((@UInt8.toNat v6) : Nat) : Int) < v5.1))) then
      some ((.inl ((false, ()), ())))
     else
      Option.bind (getI s0 (1 : Int)) fun (v7 : UInt8) =>
      bif (cond false true (decide (v5.2 < (((@UInt8.toNat v7) : Nat) : Int)))) then
       some ((.inl ((false, ()), ())))
      else
       Option.bind (dropI s0 (2 : Int)) fun (v8 : (List UInt8)) =>
       (X ((v8, ()), ()))
   else
    bif (decide ((IntKind.wrap .i64 (bits .and .u8 v4 (7 : Int))) = (3 : Int))) then
     bif (decide ((((List.length s0) : Nat) : Int) < (3 : Int))) then
      some ((.inl ((false, ()), ())))
     else
      Option.bind (getI s0 (1 : Int)) fun (v6 : UInt8) =>
      bif (cond false true (decide ((((@UInt8.toNat v6) : Nat) : Int) < v5.1))) then
       some ((.inl ((false, ()), ())))
      else
       Option.bind (getI s0 (1 : Int)) fun (v7 : UInt8) =>
       bif (cond false true (decide (v5.2 < (((@UInt8.toNat v7) : Nat) : Int)))) then
        some ((.inl ((false, ()), ())))
       else
        Option.bind (getI s0 (2 : Int)) fun (v8 : UInt8) =>
        bif (cond false true (decide ((((@UInt8.toNat v8) : Nat) : Int) < (128 : Int)))) then
         some ((.inl ((false, ()), ())))
        else
         Option.bind (getI s0 (2 : Int)) fun (v9 : UInt8) =>
         bif (cond false true (decide ((191 : Int) < (((@UInt8.toNat v9) : Nat) : Int)))) then
          some ((.inl ((false, ()), ())))
         else
          Option.bind (dropI s0 (3 : Int)) fun (v10 : (List UInt8)) =>
          (X ((v10, ()), ()))
    else
     bif (decide ((IntKind.wrap .i64 (bits .and .u8 v4 (7 : Int))) = (4 : Int))) then
      bif (decide ((((List.length s0) : Nat) : Int) < (4 : Int))) then
       some ((.inl ((false, ()), ())))
      else
       Option.bind (getI s0 (1 : Int)) fun (v6 : UInt8) =>
       bif (cond false true (decide ((((@UInt8.toNat v6) : Nat) : Int) < v5.1))) then
        some ((.inl ((false, ()), ())))
       else
        Option.bind (getI s0 (1 : Int)) fun (v7 : UInt8) =>
        bif (cond false true (decide (v5.2 < (((@UInt8.toNat v7) : Nat) : Int)))) then
         some ((.inl ((false, ()), ())))
        else
         Option.bind (getI s0 (2 : Int)) fun (v8 : UInt8) =>
         bif (cond false true (decide ((((@UInt8.toNat v8) : Nat) : Int) < (128 : Int)))) then
          some ((.inl ((false, ()), ())))
         else
          Option.bind (getI s0 (2 : Int)) fun (v9 : UInt8) =>
          bif (cond false true (decide ((191 : Int) < (((@UInt8.toNat v9) : Nat) : Int)))) then
           some ((.inl ((false, ()), ())))
          else
           Option.bind (getI s0 (3 : Int)) fun (v10 : UInt8) =>
           bif (cond false true (decide ((((@UInt8.toNat v10) : Nat) : Int) < (128 : Int)))) then
            some ((.inl ((false, ()), ())))
           else
            Option.bind (getI s0 (3 : Int)) fun (v11 : UInt8) =>
            bif (cond false true (decide ((191 : Int) < (((@UInt8.toNat v11) : Nat) : Int)))) then
             some ((.inl ((false, ()), ())))
            else
             Option.bind (dropI s0 (4 : Int)) fun (v12 : (List UInt8)) =>
             (X ((v12, ()), ()))
     else
      some ((.inl ((false, ()), ())))
 else
  some ((.inr ((), ())))
noncomputable def unicode_utf8_ValidString_L1_R (c : ((List UInt8 × Unit) × Unit)) : Option ((((Bool × Unit) × Unit) ⊕ (Unit × Unit))) := gl (fun X c => unicode_utf8_ValidString_L1 N X c.1.1) N c
theorem unicode_utf8_ValidString_L1_S (X : ((List UInt8 × Unit) × Unit) → Option ((((Bool × Unit) × Unit) ⊕ (Unit × Unit)))) (s0 : List UInt8) : (roundK Tryz.prog (Ev92 N) 400 [133] unicode_utf8_ValidString_L1_I (loopAt Tryz.prog [133] 1) X ((s0, ()), ())).run = unicode_utf8_ValidString_L1 N X s0 := by kernel_rfl
noncomputable def Ev93 : (R : Type) → Env R := Env.addLp (Ev92 N) [133] 0 1 (fun R => lpK Tryz.prog unicode_utf8_ValidString_L1_I (fun X c => unicode_utf8_ValidString_L1 N X c.1.1) N)
theorem Ev93_ok (R : Type) : EnvOK Tryz.prog (Ev93 N R) := EnvOK.addLp (Ev92_ok N R) (by kernel_rfl) (lpK_ok (li := unicode_utf8_ValidString_L1_I) (G := fun X c => unicode_utf8_ValidString_L1 N X c.1.1) hmx (Ev92_ok N _) (by kernel_rfl) loopAt_sub (fun (X : CT unicode_utf8_ValidString_L1_I.sh → Option (OT unicode_utf8_ValidString_L1_I.outs)) (c : CT unicode_utf8_ValidString_L1_I.sh) => unicode_utf8_ValidString_L1_S N X c.1.1) N)
noncomputable def unicode_utf8_ValidString (s0 : List UInt8) : Option Bool :=
 Option.bind (unicode_utf8_ValidString_L1_R N ((s0, ()), ())) fun v2 =>
 Sum.elim
  (fun (v3 : ((Bool × Unit) × Unit)) =>
  some (v3.1.1))
  (fun (v3 : (Unit × Unit)) =>
  some (true)) v2
theorem unicode_utf8_ValidString_S (s0 : List UInt8) : (runK Tryz.prog (Ev93 N) 400 133 [.str] [.bool] (s0, ())).run = unicode_utf8_ValidString N s0 := by kernel_rfl
noncomputable def Ev94 : (R : Type) → Env R := Env.addFn (Ev93 N) 133 (fun R => fnK [.str] [.bool] (fun c => unicode_utf8_ValidString N c.1))
theorem Ev94_ok (R : Type) : EnvOK Tryz.prog (Ev94 N R) := EnvOK.addFn hmx (Ev93_ok N R) (Ev93_ok N _) (by kernel_rfl) (fun c => unicode_utf8_ValidString_S N c.1)
noncomputable def unicode_utf8_RuneCountInString_L2_I : LI := ⟨10, 0, [], ⟨[(2, .ty (.int .i64)), (4, .lit (.box 0 0))], [.itr]⟩, [(.exit 0, ⟨[(2, .ty (.int .i64))], []⟩)]⟩
noncomputable def unicode_utf8_RuneCountInString_L2 (N : Nat) (X : ((Int × Unit) × (List UInt8 × (Int × Unit))) → Option (((Int × Unit) × Unit))) (n2 : Int) (h0 : List UInt8) (h1 : Int) : Option (((Int × Unit) × Unit)) :=
 bif (decide ((Int.toNat h1) < (List.length h0))) then
  (X (((IntKind.wrap .i64 (n2 + 1)), ()), (h0, (((((Int.toNat h1) : Nat) : Int) + (@rdec h0 h1).2), ()))))
 else
  some (((n2, ()), ()))
noncomputable def unicode_utf8_RuneCountInString_L2_R (c : ((Int × Unit) × (List UInt8 × (Int × Unit)))) : Option (((Int × Unit) × Unit)) := gl (fun X c => unicode_utf8_RuneCountInString_L2 N X c.1.1 c.2.1 c.2.2.1) N c
theorem unicode_utf8_RuneCountInString_L2_S (X : ((Int × Unit) × (List UInt8 × (Int × Unit))) → Option (((Int × Unit) × Unit))) (n2 : Int) (h0 : List UInt8) (h1 : Int) : (roundK Tryz.prog (Ev94 N) 400 [170] unicode_utf8_RuneCountInString_L2_I (loopAt Tryz.prog [170] 2) X ((n2, ()), (h0, h1, ()))).run = unicode_utf8_RuneCountInString_L2 N X n2 h0 h1 := by kernel_rfl
noncomputable def Ev95 : (R : Type) → Env R := Env.addLp (Ev94 N) [170] 0 2 (fun R => lpK Tryz.prog unicode_utf8_RuneCountInString_L2_I (fun X c => unicode_utf8_RuneCountInString_L2 N X c.1.1 c.2.1 c.2.2.1) N)
theorem Ev95_ok (R : Type) : EnvOK Tryz.prog (Ev95 N R) := EnvOK.addLp (Ev94_ok N R) (by kernel_rfl) (lpK_ok (li := unicode_utf8_RuneCountInString_L2_I) (G := fun X c => unicode_utf8_RuneCountInString_L2 N X c.1.1 c.2.1 c.2.2.1) hmx (Ev94_ok N _) (by kernel_rfl) loopAt_sub (fun (X : CT unicode_utf8_RuneCountInString_L2_I.sh → Option (OT unicode_utf8_RuneCountInString_L2_I.outs)) (c : CT unicode_utf8_RuneCountInString_L2_I.sh) => unicode_utf8_RuneCountInString_L2_S N X c.1.1 c.2.1 c.2.2.1) N)
noncomputable def unicode_utf8_RuneCountInString (s0 : List UInt8) : Option Int :=
 Option.bind (unicode_utf8_RuneCountInString_L2_R N (((0 : Int), ()), (s0, ((0 : Int), ())))) fun v2 =>
 some (v2.1.1)
theorem unicode_utf8_RuneCountInString_S (s0 : List UInt8) : (runK Tryz.prog (Ev95 N) 400 170 [.str] [(.int .i64)] (s0, ())).run = unicode_utf8_RuneCountInString N s0 := by kernel_rfl
noncomputable def Ev96 : (R : Type) → Env R := Env.addFn (Ev95 N) 170 (fun R => fnK [.str] [(.int .i64)] (fun c => unicode_utf8_RuneCountInString N c.1))
theorem Ev96_ok (R : Type) : EnvOK Tryz.prog (Ev96 N R) := EnvOK.addFn hmx (Ev95_ok N R) (Ev95_ok N _) (by kernel_rfl) (fun c => unicode_utf8_RuneCountInString_S N c.1)
noncomputable def utf16_Count (s0 : List UInt8) : Option Int :=
 Option.bind (unicode_utf8_ValidString N s0) fun v2 =>
 bif (!v2) then
  some ((0 : Int))
 else
  Option.bind (unicode_utf8_RuneCountInString N s0) fun v3 =>
  some (v3)
theorem utf16_Count_S (s0 : List UInt8) : (runK Tryz.prog (Ev96 N) 400 134 [.str] [(.int .i64)] (s0, ())).run = utf16_Count N s0 := by kernel_rfl
noncomputable def Ev97 : (R : Type) → Env R := Env.addFn (Ev96 N) 134 (fun R => fnK [.str] [(.int .i64)] (fun c => utf16_Count N c.1))
theorem Ev97_ok (R : Type) : EnvOK Tryz.prog (Ev97 N R) := EnvOK.addFn hmx (Ev96_ok N R) (Ev96_ok N _) (by kernel_rfl) (fun c => utf16_Count_S N c.1)
noncomputable def utf16_May (s0 : List UInt8) : Option Int :=
 Option.bind (unicode_utf8_ValidString N s0) fun v2 =>
 bif (!v2) then
  some ((3 : Int))
 else
  Option.bind (utf16_Count N s0) fun v3 =>
  bif (decide ((64 : Int) < v3)) then
   some ((8 : Int))
  else
   some ((0 : Int))
theorem utf16_May_S (s0 : List UInt8) : (runK Tryz.prog (Ev97 N) 400 92 [.str] [(.int .i64)] (s0, ())).run = utf16_May N s0 := by kernel_rfl
noncomputable def Ev98 : (R : Type) → Env R := Env.addFn (Ev97 N) 92 (fun R => fnK [.str] [(.int .i64)] (fun c => utf16_May N c.1))
theorem Ev98_ok (R : Type) : EnvOK Tryz.prog (Ev98 N R) := EnvOK.addFn hmx (Ev97_ok N R) (Ev97_ok N _) (by kernel_rfl) (fun c => utf16_May_S N c.1)
noncomputable def Ev99 : (R : Type) → Env R := Env.addMv (Ev98 N) [(93, 8), (93, 10)]
theorem Ev99_ok (R : Type) : EnvOK Tryz.prog (Ev99 N R) := EnvOK.addMv (Ev98_ok N R) [(93, 8), (93, 10)]
noncomputable def utf16_Units_L5_I : LI := ⟨36, 0, [(3, 136)], ⟨[(3, .lit (.own 0)), (11, .lit (.box 1 0))], [.own (.int .u16) 136, .itr]⟩, [(.exit 0, ⟨[(3, .lit (.own 0))], [.own (.int .u16) 136]⟩)]⟩
noncomputable def utf16_Units_L5 (N : Nat) (X : (Unit × ((List Int) × (List UInt8 × (Int × Unit)))) → Option ((Unit × ((List Int) × Unit)))) (h0 : List (Int)) (h1 : List UInt8) (h2 : Int) : Option ((Unit × ((List Int) × Unit))) :=
 bif (decide ((Int.toNat h2) < (List.length h1))) then
  bif (decide ((@rdec h1 h2).1 < (65536 : Int))) then
   bif (roomB ((List.length h0) + (List.length ([(IntKind.wrap .u16 (@rdec h1 h2).1)] : List (Int)))) 2) then
    (X ((), ((h0 ++ ([(IntKind.wrap .u16 (@rdec h1 h2).1)] : List (Int))), (h1, (((((Int.toNat h2) : Nat) : Int) + (@rdec h1 h2).2), ())))))
   else
    none
  else
   bif (roomB ((List.length h0) + (List.length ([(IntKind.wrap .u16 (IntKind.wrap .i32 ((55296 : Int) + (@Int.fdiv (IntKind.wrap .i32 ((@rdec h1 h2).1 - 65536)) ((2 : Int) ^ (min (Int.toNat (10 : Int)) (IntKind.bits .i32))))))), (IntKind.wrap .u16 (IntKind.wrap .i32 ((56320 : Int) + (bits .and .i32 (IntKind.wrap .i32 ((@rdec h1 h2).1 - 65536)) (1023 : Int)))))] : List (Int)))) 2) then
    (X ((), ((h0 ++ ([(IntKind.wrap .u16 (IntKind.wrap .i32 ((55296 : Int) + (@Int.fdiv (IntKind.wrap .i32 ((@rdec h1 h2).1 - 65536)) ((2 : Int) ^ (min (Int.toNat (10 : Int)) (IntKind.bits .i32))))))), (IntKind.wrap .u16 (IntKind.wrap .i32 ((56320 : Int) + (bits .and .i32 (IntKind.wrap .i32 ((@rdec h1 h2).1 - 65536)) (1023 : Int)))))] : List (Int))), (h1, (((((Int.toNat h2) : Nat) : Int) + (@rdec h1 h2).2), ())))))
   else
    none
 else
  some (((), (h0, ())))
noncomputable def utf16_Units_L5_R (c : (Unit × ((List Int) × (List UInt8 × (Int × Unit))))) : Option ((Unit × ((List Int) × Unit))) := gl (fun X c => utf16_Units_L5 N X c.2.1 c.2.2.1 c.2.2.2.1) N c
theorem utf16_Units_L5_S (X : (Unit × ((List Int) × (List UInt8 × (Int × Unit)))) → Option ((Unit × ((List Int) × Unit)))) (h0 : List (Int)) (h1 : List UInt8) (h2 : Int) : (roundK Tryz.prog (Ev99 N) 400 [93] utf16_Units_L5_I (loopAt Tryz.prog [93] 5) X ((), (h0, h1, h2, ()))).run = utf16_Units_L5 N X h0 h1 h2 := by kernel_rfl
noncomputable def Ev100 : (R : Type) → Env R := Env.addLp (Ev99 N) [93] 0 5 (fun R => lpK Tryz.prog utf16_Units_L5_I (fun X c => utf16_Units_L5 N X c.2.1 c.2.2.1 c.2.2.2.1) N)
theorem Ev100_ok (R : Type) : EnvOK Tryz.prog (Ev100 N R) := EnvOK.addLp (Ev99_ok N R) (by kernel_rfl) (lpK_ok (li := utf16_Units_L5_I) (G := fun X c => utf16_Units_L5 N X c.2.1 c.2.2.1 c.2.2.2.1) hmx (Ev99_ok N _) (by kernel_rfl) loopAt_sub (fun (X : CT utf16_Units_L5_I.sh → Option (OT utf16_Units_L5_I.outs)) (c : CT utf16_Units_L5_I.sh) => utf16_Units_L5_S N X c.2.1 c.2.2.1 c.2.2.2.1) N)
noncomputable def utf16_Units (s0 : List UInt8) : Option (List Int) :=
 Option.bind (utf16_May N s0) fun v2 =>
 bif (!(decide (v2 = (0 : Int)))) then
  some (([] : List Int))
 else
  Option.bind (utf16_Units_L5_R N ((), (([] : List Int), (s0, ((0 : Int), ()))))) fun v3 =>
  some (v3.2.1)
theorem utf16_Units_S (s0 : List UInt8) : (runK Tryz.prog (Ev100 N) 400 93 [.str] [(.sl (.int .u16))] (s0, ())).run = utf16_Units N s0 := by kernel_rfl
noncomputable def Ev101 : (R : Type) → Env R := Env.addFn (Ev100 N) 93 (fun R => fnK [.str] [(.sl (.int .u16))] (fun c => utf16_Units N c.1))
theorem Ev101_ok (R : Type) : EnvOK Tryz.prog (Ev101 N R) := EnvOK.addFn hmx (Ev100_ok N R) (Ev100_ok N _) (by kernel_rfl) (fun c => utf16_Units_S N c.1)
noncomputable def utf16_Lay_L6_I : LI := ⟨33, 0, [(5, 5)], ⟨[(5, .lit (.own 0)), (16, .ty (.sl (.int .u16))), (17, .ty (.int .i64)), (18, .ty (.int .i64))], [.own (.int .u8) 5]⟩, [(.exit 0, ⟨[(5, .lit (.own 0))], [.own (.int .u8) 5]⟩)]⟩
noncomputable def utf16_Lay_L6 (X : (((List Int) × (Int × (Int × Unit))) × ((List Int) × Unit)) → Option ((Unit × ((List Int) × Unit)))) (x16 : List (Int)) (x17 : Int) (x18 : Int) (h0 : List (Int)) : Option ((Unit × ((List Int) × Unit))) :=
 bif (decide (x18 < x17)) then
  Option.bind (getI x16 x18) fun (v6 : Int) =>
  Option.bind (octs_Put N (IntKind.wrap .u64 v6) (2 : Int) true) fun v7 =>
  bif (roomB ((List.length h0) + (List.length v7.1)) 1) then
   (X ((x16, (x17, ((IntKind.wrap .i64 (x18 + 1)), ()))), ((h0 ++ v7.1), ())))
  else
   none
 else
  some (((), (h0, ())))
noncomputable def utf16_Lay_L6_R (c : (((List Int) × (Int × (Int × Unit))) × ((List Int) × Unit))) : Option ((Unit × ((List Int) × Unit))) := gl (fun X c => utf16_Lay_L6 N X c.1.1 c.1.2.1 c.1.2.2.1 c.2.1) N c
theorem utf16_Lay_L6_S (X : (((List Int) × (Int × (Int × Unit))) × ((List Int) × Unit)) → Option ((Unit × ((List Int) × Unit)))) (x16 : List (Int)) (x17 : Int) (x18 : Int) (h0 : List (Int)) : (roundK Tryz.prog (Ev101 N) 400 [64] utf16_Lay_L6_I (loopAt Tryz.prog [64] 6) X ((x16, x17, x18, ()), (h0, ()))).run = utf16_Lay_L6 N X x16 x17 x18 h0 := by kernel_rfl
noncomputable def Ev102 : (R : Type) → Env R := Env.addLp (Ev101 N) [64] 0 6 (fun R => lpK Tryz.prog utf16_Lay_L6_I (fun X c => utf16_Lay_L6 N X c.1.1 c.1.2.1 c.1.2.2.1 c.2.1) N)
theorem Ev102_ok (R : Type) : EnvOK Tryz.prog (Ev102 N R) := EnvOK.addLp (Ev101_ok N R) (by kernel_rfl) (lpK_ok (li := utf16_Lay_L6_I) (G := fun X c => utf16_Lay_L6 N X c.1.1 c.1.2.1 c.1.2.2.1 c.2.1) hmx (Ev101_ok N _) (by kernel_rfl) loopAt_sub (fun (X : CT utf16_Lay_L6_I.sh → Option (OT utf16_Lay_L6_I.outs)) (c : CT utf16_Lay_L6_I.sh) => utf16_Lay_L6_S N X c.1.1 c.1.2.1 c.1.2.2.1 c.2.1) N)
noncomputable def utf16_Lay (s0 : List UInt8) : Option ((List Int) × Int) :=
 Option.bind (utf16_May N s0) fun v2 =>
 bif (!(decide (v2 = (0 : Int)))) then
  some ((([] : List Int), v2))
 else
  Option.bind (utf16_Units N s0) fun v3 =>
  Option.bind (utf16_Lay_L6_R N ((v3, ((((List.length v3) : Nat) : Int), ((0 : Int), ()))), (([] : List Int), ()))) fun v4 =>
  some ((v4.2.1, (0 : Int)))
theorem utf16_Lay_S (s0 : List UInt8) : (runK Tryz.prog (Ev102 N) 400 64 [.str] [(.sl (.int .u8)), (.int .i64)] (s0, ())).run = utf16_Lay N s0 := by kernel_rfl
noncomputable def Ev103 : (R : Type) → Env R := Env.addFn (Ev102 N) 64 (fun R => fnK [.str] [(.sl (.int .u8)), (.int .i64)] (fun c => utf16_Lay N c.1))
theorem Ev103_ok (R : Type) : EnvOK Tryz.prog (Ev103 N R) := EnvOK.addFn hmx (Ev102_ok N R) (Ev102_ok N _) (by kernel_rfl) (fun c => utf16_Lay_S N c.1)
noncomputable def Ev104 : (R : Type) → Env R := Env.addMv (Ev103 N) [(139, 7)]
theorem Ev104_ok (R : Type) : EnvOK Tryz.prog (Ev104 N R) := EnvOK.addMv (Ev103_ok N R) [(139, 7)]
noncomputable def ref09_more (N : Nat) (s0 : List UInt8) (i1 : Int) : Option (Int × Bool) :=
 Option.bind (bif (decide ((((List.length s0) : Nat) : Int) ≤ i1)) then
   some (true)
  else
   Option.bind (getI s0 i1) fun (v3 : UInt8) =>
   some ((cond false true (decide ((((@UInt8.toNat v3) : Nat) : Int) < (128 : Int)))))) fun (v3 : Bool) =>
 Option.bind (bif v3 then
   some (true)
  else
   Option.bind (getI s0 i1) fun (v4 : UInt8) =>
   some ((cond false true (decide ((191 : Int) < (((@UInt8.toNat v4) : Nat) : Int)))))) fun (v4 : Bool) =>
 bif v4 then
  some (((0 : Int), false))
 else
  Option.bind (getI s0 i1) fun (v5 : UInt8) =>
  some (((IntKind.wrap .i64 ((IntKind.wrap .i64 (((@UInt8.toNat v5) : Nat) : Int)) - 128)), true))
theorem ref09_more_S (s0 : List UInt8) (i1 : Int) : (runK Tryz.prog (Ev104 N) 400 190 [.str, (.int .i64)] [(.int .i64), .bool] (s0, i1, ())).run = ref09_more N s0 i1 := by kernel_rfl
noncomputable def Ev105 : (R : Type) → Env R := Env.addFn (Ev104 N) 190 (fun R => fnK [.str, (.int .i64)] [(.int .i64), .bool] (fun c => ref09_more N c.1 c.2.1))
theorem Ev105_ok (R : Type) : EnvOK Tryz.prog (Ev105 N R) := EnvOK.addFn hmx (Ev104_ok N R) (Ev104_ok N _) (by kernel_rfl) (fun c => ref09_more_S N c.1 c.2.1)
noncomputable def ref09_sign_L13_I : LI := ⟨85, 0, [], ⟨[(0, .ty .str), (1, .ty (.int .i64)), (7, .ty (.int .i64)), (8, .ty (.int .i64)), (9, .ty (.int .i64)), (10, .ty (.int .i64))], []⟩, [(.ret, ⟨[(4, .ty (.int .i64)), (5, .ty (.int .i64))], []⟩), (.exit 1, ⟨[(7, .ty (.int .i64)), (8, .ty (.int .i64)), (9, .ty (.int .i64))], []⟩)]⟩
noncomputable def ref09_sign_L13 (X : ((List UInt8 × (Int × (Int × (Int × (Int × (Int × Unit)))))) × Unit) → Option ((((Int × (Int × Unit)) × Unit) ⊕ ((Int × (Int × (Int × Unit))) × Unit)))) (s0 : List UInt8) (i1 : Int) (need7 : Int) (n8 : Int) (least9 : Int) (k10 : Int) : Option ((((Int × (Int × Unit)) × Unit) ⊕ ((Int × (Int × (Int × Unit))) × Unit))) :=
 bif (decide (k10 ≤ need7)) then
  Option.bind (ref09_more N s0 (IntKind.wrap .i64 (i1 + k10))) fun v8 =>
  bif (!v8.2) then
   some ((.inl (((0 : Int), ((0 : Int), ())), ())))
  else
   (X ((s0, (i1, (need7, ((IntKind.wrap .i64 ((IntKind.wrap .i64 ((64 : Int) * n8)) + v8.1)), (least9, ((IntKind.wrap .i64 (k10 + 1)), ())))))), ()))
 else
  some ((.inr ((need7, (n8, (least9, ()))), ())))
noncomputable def ref09_sign_L13_R (c : ((List UInt8 × (Int × (Int × (Int × (Int × (Int × Unit)))))) × Unit)) : Option ((((Int × (Int × Unit)) × Unit) ⊕ ((Int × (Int × (Int × Unit))) × Unit))) := gl (fun X c => ref09_sign_L13 N X c.1.1 c.1.2.1 c.1.2.2.1 c.1.2.2.2.1 c.1.2.2.2.2.1 c.1.2.2.2.2.2.1) N c
theorem ref09_sign_L13_S (X : ((List UInt8 × (Int × (Int × (Int × (Int × (Int × Unit)))))) × Unit) → Option ((((Int × (Int × Unit)) × Unit) ⊕ ((Int × (Int × (Int × Unit))) × Unit)))) (s0 : List UInt8) (i1 : Int) (need7 : Int) (n8 : Int) (least9 : Int) (k10 : Int) : (roundK Tryz.prog (Ev105 N) 400 [171] ref09_sign_L13_I (loopAt Tryz.prog [171] 13) X ((s0, i1, need7, n8, least9, k10, ()), ())).run = ref09_sign_L13 N X s0 i1 need7 n8 least9 k10 := by kernel_rfl
noncomputable def Ev106 : (R : Type) → Env R := Env.addLp (Ev105 N) [171] 0 13 (fun R => lpK Tryz.prog ref09_sign_L13_I (fun X c => ref09_sign_L13 N X c.1.1 c.1.2.1 c.1.2.2.1 c.1.2.2.2.1 c.1.2.2.2.2.1 c.1.2.2.2.2.2.1) N)
theorem Ev106_ok (R : Type) : EnvOK Tryz.prog (Ev106 N R) := EnvOK.addLp (Ev105_ok N R) (by kernel_rfl) (lpK_ok (li := ref09_sign_L13_I) (G := fun X c => ref09_sign_L13 N X c.1.1 c.1.2.1 c.1.2.2.1 c.1.2.2.2.1 c.1.2.2.2.2.1 c.1.2.2.2.2.2.1) hmx (Ev105_ok N _) (by kernel_rfl) loopAt_sub (fun (X : CT ref09_sign_L13_I.sh → Option (OT ref09_sign_L13_I.outs)) (c : CT ref09_sign_L13_I.sh) => ref09_sign_L13_S N X c.1.1 c.1.2.1 c.1.2.2.1 c.1.2.2.2.1 c.1.2.2.2.2.1 c.1.2.2.2.2.2.1) N)
noncomputable def ref09_sign (s0 : List UInt8) (i1 : Int) : Option (Int × Int) :=
 Option.bind (getI s0 i1) fun (v3 : UInt8) =>
 bif (decide ((IntKind.wrap .i64 (((@UInt8.toNat v3) : Nat) : Int)) < (128 : Int))) then
  some (((IntKind.wrap .i64 (((@UInt8.toNat v3) : Nat) : Int)), (1 : Int)))
 else
  Option.bind (bif (decide ((192 : Int) ≤ (IntKind.wrap .i64 (((@UInt8.toNat v3) : Nat) : Int)))) then
    some ((cond true (decide ((IntKind.wrap .i64 (((@UInt8.toNat v3) : Nat) : Int)) < (224 : Int))) false))
   else
    some (false)) fun (v4 : Bool) =>
  bif v4 then
   Option.bind (ref09_sign_L13_R N ((s0, (i1, ((1 : Int), ((IntKind.wrap .i64 ((IntKind.wrap .i64 (((@UInt8.toNat v3) : Nat) : Int)) - 192)), ((128 : Int), ((1 : Int), ())))))), ())) fun v5 =>
   Sum.elim
    (fun (v6 : ((Int × (Int × Unit)) × Unit)) =>
    some ((v6.1.1, v6.1.2.1)))
    (fun (v6 : ((Int × (Int × (Int × Unit))) × Unit)) =>
    Option.bind (bif (decide (v6.1.2.1 < v6.1.2.2.1)) then
      some (true)
     else
      some ((cond false true (decide ((1114111 : Int) < v6.1.2.1))))) fun (v7 : Bool) =>
    Option.bind (bif v7 then
      some (true)
     else
      bif (decide ((55296 : Int) ≤ v6.1.2.1)) then
       some ((cond false true (cond true (decide (v6.1.2.1 ≤ (57343 : Int))) false)))
      else
       some ((cond false true false))) fun (v8 : Bool) =>
    bif v8 then
     some (((0 : Int), (0 : Int)))
    else
     some ((v6.1.2.1, (IntKind.wrap .i64 (v6.1.1 + 1))))) v5
  else
   Option.bind (bif (decide ((224 : Int) ≤ (IntKind.wrap .i64 (((@UInt8.toNat v3) : Nat) : Int)))) then
     some ((cond true (decide ((IntKind.wrap .i64 (((@UInt8.toNat v3) : Nat) : Int)) < (240 : Int))) false))
    else
     some (false)) fun (v5 : Bool) =>
   bif v5 then
    Option.bind (ref09_sign_L13_R N ((s0, (i1, ((2 : Int), ((IntKind.wrap .i64 ((IntKind.wrap .i64 (((@UInt8.toNat v3) : Nat) : Int)) - 224)), ((2048 : Int), ((1 : Int), ())))))), ())) fun v6 =>
    Sum.elim
     (fun (v7 : ((Int × (Int × Unit)) × Unit)) =>
     some ((v7.1.1, v7.1.2.1)))
     (fun (v7 : ((Int × (Int × (Int × Unit))) × Unit)) =>
     Option.bind (bif (decide (v7.1.2.1 < v7.1.2.2.1)) then
       some (true)
      else
       some ((cond false true (decide ((1114111 : Int) < v7.1.2.1))))) fun (v8 : Bool) =>
     Option.bind (bif v8 then
       some (true)
      else
       bif (decide ((55296 : Int) ≤ v7.1.2.1)) then
        some ((cond false true (cond true (decide (v7.1.2.1 ≤ (57343 : Int))) false)))
       else
        some ((cond false true false))) fun (v9 : Bool) =>
     bif v9 then
      some (((0 : Int), (0 : Int)))
     else
      some ((v7.1.2.1, (IntKind.wrap .i64 (v7.1.1 + 1))))) v6
   else
    Option.bind (bif (decide ((240 : Int) ≤ (IntKind.wrap .i64 (((@UInt8.toNat v3) : Nat) : Int)))) then
      some ((cond true (decide ((IntKind.wrap .i64 (((@UInt8.toNat v3) : Nat) : Int)) < (248 : Int))) false))
     else
      some (false)) fun (v6 : Bool) =>
    bif v6 then
     Option.bind (ref09_sign_L13_R N ((s0, (i1, ((3 : Int), ((IntKind.wrap .i64 ((IntKind.wrap .i64 (((@UInt8.toNat v3) : Nat) : Int)) - 240)), ((65536 : Int), ((1 : Int), ())))))), ())) fun v7 =>
     Sum.elim
      (fun (v8 : ((Int × (Int × Unit)) × Unit)) =>
      some ((v8.1.1, v8.1.2.1)))
      (fun (v8 : ((Int × (Int × (Int × Unit))) × Unit)) =>
      Option.bind (bif (decide (v8.1.2.1 < v8.1.2.2.1)) then
        some (true)
       else
        some ((cond false true (decide ((1114111 : Int) < v8.1.2.1))))) fun (v9 : Bool) =>
      Option.bind (bif v9 then
        some (true)
       else
        bif (decide ((55296 : Int) ≤ v8.1.2.1)) then
         some ((cond false true (cond true (decide (v8.1.2.1 ≤ (57343 : Int))) false)))
        else
         some ((cond false true false))) fun (v10 : Bool) =>
      bif v10 then
       some (((0 : Int), (0 : Int)))
      else
       some ((v8.1.2.1, (IntKind.wrap .i64 (v8.1.1 + 1))))) v7
    else
     some (((0 : Int), (0 : Int)))
theorem ref09_sign_S (s0 : List UInt8) (i1 : Int) : (runK Tryz.prog (Ev106 N) 400 171 [.str, (.int .i64)] [(.int .i64), (.int .i64)] (s0, i1, ())).run = ref09_sign N s0 i1 := by kernel_rfl
noncomputable def Ev107 : (R : Type) → Env R := Env.addFn (Ev106 N) 171 (fun R => fnK [.str, (.int .i64)] [(.int .i64), (.int .i64)] (fun c => ref09_sign N c.1 c.2.1))
theorem Ev107_ok (R : Type) : EnvOK Tryz.prog (Ev107 N R) := EnvOK.addFn hmx (Ev106_ok N R) (Ev106_ok N _) (by kernel_rfl) (fun c => ref09_sign_S N c.1 c.2.1)
noncomputable def ref09_Signs_L3_I : LI := ⟨28, 0, [(4, 3)], ⟨[(0, .ty .str), (4, .lit (.own 0)), (5, .ty (.int .i64))], [.own (.int .i64) 3]⟩, [(.ret, ⟨[(2, .ty (.sl (.int .i64))), (3, .ty .bool)], []⟩), (.exit 0, ⟨[(4, .lit (.own 0))], [.own (.int .i64) 3]⟩)]⟩
noncomputable def ref09_Signs_L3 (X : ((List UInt8 × (Int × Unit)) × ((List Int) × Unit)) → Option (((((List Int) × (Bool × Unit)) × Unit) ⊕ (Unit × ((List Int) × Unit))))) (s0 : List UInt8) (i5 : Int) (h0 : List (Int)) : Option (((((List Int) × (Bool × Unit)) × Unit) ⊕ (Unit × ((List Int) × Unit)))) :=
 bif (decide (i5 < (((List.length s0) : Nat) : Int))) then
  Option.bind (ref09_sign N s0 i5) fun v5 =>
  bif (decide (v5.2 = (0 : Int))) then
   some ((.inl ((([] : List Int), (false, ())), ())))
  else
   bif (roomB ((List.length h0) + (List.length ([v5.1] : List (Int)))) 8) then
    (X ((s0, ((IntKind.wrap .i64 (i5 + v5.2)), ())), ((h0 ++ ([v5.1] : List (Int))), ())))
   else
    none
 else
  some ((.inr ((), (h0, ()))))
noncomputable def ref09_Signs_L3_R (c : ((List UInt8 × (Int × Unit)) × ((List Int) × Unit))) : Option (((((List Int) × (Bool × Unit)) × Unit) ⊕ (Unit × ((List Int) × Unit)))) := gl (fun X c => ref09_Signs_L3 N X c.1.1 c.1.2.1 c.2.1) N c
theorem ref09_Signs_L3_S (X : ((List UInt8 × (Int × Unit)) × ((List Int) × Unit)) → Option (((((List Int) × (Bool × Unit)) × Unit) ⊕ (Unit × ((List Int) × Unit))))) (s0 : List UInt8) (i5 : Int) (h0 : List (Int)) : (roundK Tryz.prog (Ev107 N) 400 [139] ref09_Signs_L3_I (loopAt Tryz.prog [139] 3) X ((s0, i5, ()), (h0, ()))).run = ref09_Signs_L3 N X s0 i5 h0 := by kernel_rfl
noncomputable def Ev108 : (R : Type) → Env R := Env.addLp (Ev107 N) [139] 0 3 (fun R => lpK Tryz.prog ref09_Signs_L3_I (fun X c => ref09_Signs_L3 N X c.1.1 c.1.2.1 c.2.1) N)
theorem Ev108_ok (R : Type) : EnvOK Tryz.prog (Ev108 N R) := EnvOK.addLp (Ev107_ok N R) (by kernel_rfl) (lpK_ok (li := ref09_Signs_L3_I) (G := fun X c => ref09_Signs_L3 N X c.1.1 c.1.2.1 c.2.1) hmx (Ev107_ok N _) (by kernel_rfl) loopAt_sub (fun (X : CT ref09_Signs_L3_I.sh → Option (OT ref09_Signs_L3_I.outs)) (c : CT ref09_Signs_L3_I.sh) => ref09_Signs_L3_S N X c.1.1 c.1.2.1 c.2.1) N)
noncomputable def ref09_Signs (s0 : List UInt8) : Option ((List Int) × Bool) :=
 Option.bind (ref09_Signs_L3_R N ((s0, ((0 : Int), ())), (([] : List Int), ()))) fun v2 =>
 Sum.elim
  (fun (v3 : (((List Int) × (Bool × Unit)) × Unit)) =>
  some ((v3.1.1, v3.1.2.1)))
  (fun (v3 : (Unit × ((List Int) × Unit))) =>
  some ((v3.2.1, true))) v2
theorem ref09_Signs_S (s0 : List UInt8) : (runK Tryz.prog (Ev108 N) 400 139 [.str] [(.sl (.int .i64)), .bool] (s0, ())).run = ref09_Signs N s0 := by kernel_rfl
noncomputable def Ev109 : (R : Type) → Env R := Env.addFn (Ev108 N) 139 (fun R => fnK [.str] [(.sl (.int .i64)), .bool] (fun c => ref09_Signs N c.1))
theorem Ev109_ok (R : Type) : EnvOK Tryz.prog (Ev109 N R) := EnvOK.addFn hmx (Ev108_ok N R) (Ev108_ok N _) (by kernel_rfl) (fun c => ref09_Signs_S N c.1)
noncomputable def ref09_May (s0 : List UInt8) : Option Int :=
 Option.bind (ref09_Signs N s0) fun v2 =>
 bif (!v2.2) then
  some ((3 : Int))
 else
  bif (decide ((64 : Int) < (((List.length v2.1) : Nat) : Int))) then
   some ((8 : Int))
  else
   some ((0 : Int))
theorem ref09_May_S (s0 : List UInt8) : (runK Tryz.prog (Ev109 N) 400 99 [.str] [(.int .i64)] (s0, ())).run = ref09_May N s0 := by kernel_rfl
noncomputable def Ev110 : (R : Type) → Env R := Env.addFn (Ev109 N) 99 (fun R => fnK [.str] [(.int .i64)] (fun c => ref09_May N c.1))
theorem Ev110_ok (R : Type) : EnvOK Tryz.prog (Ev110 N R) := EnvOK.addFn hmx (Ev109_ok N R) (Ev109_ok N _) (by kernel_rfl) (fun c => ref09_May_S N c.1)
noncomputable def Ev111 : (R : Type) → Env R := Env.addMv (Ev110 N) [(100, 9), (100, 11)]
theorem Ev111_ok (R : Type) : EnvOK Tryz.prog (Ev111 N R) := EnvOK.addMv (Ev110_ok N R) [(100, 9), (100, 11)]
noncomputable def ref09_Units_L6_I : LI := ⟨52, 0, [(5, 136)], ⟨[(3, .ty (.sl (.int .i64))), (5, .lit (.own 0)), (6, .ty (.int .i64))], [.own (.int .u16) 136]⟩, [(.exit 0, ⟨[(5, .lit (.own 0))], [.own (.int .u16) 136]⟩)]⟩
noncomputable def ref09_Units_L6 (N : Nat) (X : (((List Int) × (Int × Unit)) × ((List Int) × Unit)) → Option ((Unit × ((List Int) × Unit)))) (l3 : List (Int)) (i6 : Int) (h0 : List (Int)) : Option ((Unit × ((List Int) × Unit))) :=
 bif (decide (i6 < (((List.length l3) : Nat) : Int))) then
  Option.bind (getI l3 i6) fun (v5 : Int) =>
  bif (decide (v5 < (65536 : Int))) then
   Option.bind (getI l3 i6) fun (v6 : Int) =>
   bif (roomB ((List.length h0) + (List.length ([(IntKind.wrap .u16 v6)] : List (Int)))) 2) then
    (X ((l3, ((IntKind.wrap .i64 (i6 + 1)), ())), ((h0 ++ ([(IntKind.wrap .u16 v6)] : List (Int))), ())))
   else
    none
  else
   Option.bind (getI l3 i6) fun (v6 : Int) =>
   bif (roomB ((List.length h0) + (List.length ([(IntKind.wrap .u16 (IntKind.wrap .i64 ((55296 : Int) + (IntKind.wrap .i64 (@Int.tdiv (IntKind.wrap .i64 (v6 - 65536)) (1024 : Int)))))), (IntKind.wrap .u16 (IntKind.wrap .i64 ((56320 : Int) + (@Int.tmod (IntKind.wrap .i64 (v6 - 65536)) (1024 : Int)))))] : List (Int)))) 2) then
    (X ((l3, ((IntKind.wrap .i64 (i6 + 1)), ())), ((h0 ++ ([(IntKind.wrap .u16 (IntKind.wrap .i64 ((55296 : Int) + (IntKind.wrap .i64 (@Int.tdiv (IntKind.wrap .i64 (v6 - 65536)) (1024 : Int)))))), (IntKind.wrap .u16 (IntKind.wrap .i64 ((56320 : Int) + (@Int.tmod (IntKind.wrap .i64 (v6 - 65536)) (1024 : Int)))))] : List (Int))), ())))
   else
    none
 else
  some (((), (h0, ())))
noncomputable def ref09_Units_L6_R (c : (((List Int) × (Int × Unit)) × ((List Int) × Unit))) : Option ((Unit × ((List Int) × Unit))) := gl (fun X c => ref09_Units_L6 N X c.1.1 c.1.2.1 c.2.1) N c
theorem ref09_Units_L6_S (X : (((List Int) × (Int × Unit)) × ((List Int) × Unit)) → Option ((Unit × ((List Int) × Unit)))) (l3 : List (Int)) (i6 : Int) (h0 : List (Int)) : (roundK Tryz.prog (Ev111 N) 400 [100] ref09_Units_L6_I (loopAt Tryz.prog [100] 6) X ((l3, i6, ()), (h0, ()))).run = ref09_Units_L6 N X l3 i6 h0 := by kernel_rfl
noncomputable def Ev112 : (R : Type) → Env R := Env.addLp (Ev111 N) [100] 0 6 (fun R => lpK Tryz.prog ref09_Units_L6_I (fun X c => ref09_Units_L6 N X c.1.1 c.1.2.1 c.2.1) N)
theorem Ev112_ok (R : Type) : EnvOK Tryz.prog (Ev112 N R) := EnvOK.addLp (Ev111_ok N R) (by kernel_rfl) (lpK_ok (li := ref09_Units_L6_I) (G := fun X c => ref09_Units_L6 N X c.1.1 c.1.2.1 c.2.1) hmx (Ev111_ok N _) (by kernel_rfl) loopAt_sub (fun (X : CT ref09_Units_L6_I.sh → Option (OT ref09_Units_L6_I.outs)) (c : CT ref09_Units_L6_I.sh) => ref09_Units_L6_S N X c.1.1 c.1.2.1 c.2.1) N)
noncomputable def ref09_Units (s0 : List UInt8) : Option (List Int) :=
 Option.bind (ref09_May N s0) fun v2 =>
 bif (!(decide (v2 = (0 : Int)))) then
  some (([] : List Int))
 else
  Option.bind (ref09_Signs N s0) fun v3 =>
  Option.bind (ref09_Units_L6_R N ((v3.1, ((0 : Int), ())), (([] : List Int), ()))) fun v4 =>
  some (v4.2.1)
theorem ref09_Units_S (s0 : List UInt8) : (runK Tryz.prog (Ev112 N) 400 100 [.str] [(.sl (.int .u16))] (s0, ())).run = ref09_Units N s0 := by kernel_rfl
noncomputable def Ev113 : (R : Type) → Env R := Env.addFn (Ev112 N) 100 (fun R => fnK [.str] [(.sl (.int .u16))] (fun c => ref09_Units N c.1))
theorem Ev113_ok (R : Type) : EnvOK Tryz.prog (Ev113 N R) := EnvOK.addFn hmx (Ev112_ok N R) (Ev112_ok N _) (by kernel_rfl) (fun c => ref09_Units_S N c.1)
noncomputable def Ev114 : (R : Type) → Env R := Env.addMv (Ev113 N) [(66, 9)]
theorem Ev114_ok (R : Type) : EnvOK Tryz.prog (Ev114 N R) := EnvOK.addMv (Ev113_ok N R) [(66, 9)]
noncomputable def ref09_Lay_L7_I : LI := ⟨37, 0, [(5, 5)], ⟨[(5, .lit (.own 0)), (6, .ty (.sl (.int .u16))), (7, .ty (.int .i64))], [.own (.int .u8) 5]⟩, [(.exit 0, ⟨[(5, .lit (.own 0))], [.own (.int .u8) 5]⟩)]⟩
noncomputable def ref09_Lay_L7 (N : Nat) (X : (((List Int) × (Int × Unit)) × ((List Int) × Unit)) → Option ((Unit × ((List Int) × Unit)))) (u6 : List (Int)) (i7 : Int) (h0 : List (Int)) : Option ((Unit × ((List Int) × Unit))) :=
 bif (decide (i7 < (((List.length u6) : Nat) : Int))) then
  Option.bind (getI u6 i7) fun (v5 : Int) =>
  Option.bind (getI u6 i7) fun (v6 : Int) =>
  bif (roomB ((List.length h0) + (List.length ([(IntKind.wrap .u8 (@Int.tmod v5 (256 : Int))), (IntKind.wrap .u8 (IntKind.wrap .u16 (@Int.tdiv v6 (256 : Int))))] : List (Int)))) 1) then
   (X ((u6, ((IntKind.wrap .i64 (i7 + 1)), ())), ((h0 ++ ([(IntKind.wrap .u8 (@Int.tmod v5 (256 : Int))), (IntKind.wrap .u8 (IntKind.wrap .u16 (@Int.tdiv v6 (256 : Int))))] : List (Int))), ())))
  else
   none
 else
  some (((), (h0, ())))
noncomputable def ref09_Lay_L7_R (c : (((List Int) × (Int × Unit)) × ((List Int) × Unit))) : Option ((Unit × ((List Int) × Unit))) := gl (fun X c => ref09_Lay_L7 N X c.1.1 c.1.2.1 c.2.1) N c
theorem ref09_Lay_L7_S (X : (((List Int) × (Int × Unit)) × ((List Int) × Unit)) → Option ((Unit × ((List Int) × Unit)))) (u6 : List (Int)) (i7 : Int) (h0 : List (Int)) : (roundK Tryz.prog (Ev114 N) 400 [66] ref09_Lay_L7_I (loopAt Tryz.prog [66] 7) X ((u6, i7, ()), (h0, ()))).run = ref09_Lay_L7 N X u6 i7 h0 := by kernel_rfl
noncomputable def Ev115 : (R : Type) → Env R := Env.addLp (Ev114 N) [66] 0 7 (fun R => lpK Tryz.prog ref09_Lay_L7_I (fun X c => ref09_Lay_L7 N X c.1.1 c.1.2.1 c.2.1) N)
theorem Ev115_ok (R : Type) : EnvOK Tryz.prog (Ev115 N R) := EnvOK.addLp (Ev114_ok N R) (by kernel_rfl) (lpK_ok (li := ref09_Lay_L7_I) (G := fun X c => ref09_Lay_L7 N X c.1.1 c.1.2.1 c.2.1) hmx (Ev114_ok N _) (by kernel_rfl) loopAt_sub (fun (X : CT ref09_Lay_L7_I.sh → Option (OT ref09_Lay_L7_I.outs)) (c : CT ref09_Lay_L7_I.sh) => ref09_Lay_L7_S N X c.1.1 c.1.2.1 c.2.1) N)
noncomputable def ref09_Lay (s0 : List UInt8) : Option ((List Int) × Int) :=
 Option.bind (ref09_May N s0) fun v2 =>
 bif (!(decide (v2 = (0 : Int)))) then
  some ((([] : List Int), v2))
 else
  Option.bind (ref09_Units N s0) fun v3 =>
  Option.bind (ref09_Lay_L7_R N ((v3, ((0 : Int), ())), (([] : List Int), ()))) fun v4 =>
  some ((v4.2.1, (0 : Int)))
theorem ref09_Lay_S (s0 : List UInt8) : (runK Tryz.prog (Ev115 N) 400 66 [.str] [(.sl (.int .u8)), (.int .i64)] (s0, ())).run = ref09_Lay N s0 := by kernel_rfl
noncomputable def Ev116 : (R : Type) → Env R := Env.addFn (Ev115 N) 66 (fun R => fnK [.str] [(.sl (.int .u8)), (.int .i64)] (fun c => ref09_Lay N c.1))
theorem Ev116_ok (R : Type) : EnvOK Tryz.prog (Ev116 N R) := EnvOK.addFn hmx (Ev115_ok N R) (Ev115_ok N _) (by kernel_rfl) (fun c => ref09_Lay_S N c.1)
noncomputable def nthash_Of (password0 : List UInt8) : Option ((Arr Int 16) × Int) :=
 Option.bind (utf16_Lay N password0) fun v2 =>
 bif (!(decide (v2.2 = (0 : Int)))) then
  some (((@Arr.cons Int 15 0 (@Arr.cons Int 14 0 (@Arr.cons Int 13 0 (@Arr.cons Int 12 0 (@Arr.cons Int 11 0 (@Arr.cons Int 10 0 (@Arr.cons Int 9 0 (@Arr.cons Int 8 0 (@Arr.cons Int 7 0 (@Arr.cons Int 6 0 (@Arr.cons Int 5 0 (@Arr.cons Int 4 0 (@Arr.cons Int 3 0 (@Arr.cons Int 2 0 (@Arr.cons Int 1 0 (@Arr.cons Int 0 0 (@Arr.nil Int))))))))))))))))), v2.2))
 else
  Option.bind (md4_Of N ([v2.1] : List ((List Int)))) fun v3 =>
  some ((v3, (0 : Int)))
theorem nthash_Of_S (password0 : List UInt8) : (runK Tryz.prog (Ev116 N) 400 30 [.str] [(.arr 16 (.int .u8)), (.int .i64)] (password0, ())).run = nthash_Of N password0 := by kernel_rfl
noncomputable def Ev117 : (R : Type) → Env R := Env.addFn (Ev116 N) 30 (fun R => fnK [.str] [(.arr 16 (.int .u8)), (.int .i64)] (fun c => nthash_Of N c.1))
theorem Ev117_ok (R : Type) : EnvOK Tryz.prog (Ev117 N R) := EnvOK.addFn hmx (Ev116_ok N R) (Ev116_ok N _) (by kernel_rfl) (fun c => nthash_Of_S N c.1)
noncomputable def Ev118 : (R : Type) → Env R := Env.addBx (Ev117 N) [(36, 0)]
theorem Ev118_ok (R : Type) : EnvOK Tryz.prog (Ev118 N R) := EnvOK.addBx (Ev117_ok N R) [(36, 0)]
noncomputable def nthash_Twice (h0 : Arr Int 16) : Option (Arr Int 16) :=
 Option.bind (md4_Of N ([h0.l] : List ((List Int)))) fun v2 =>
 some (v2)
theorem nthash_Twice_S (h0 : Arr Int 16) : (runK Tryz.prog (Ev118 N) 400 36 [(.arr 16 (.int .u8))] [(.arr 16 (.int .u8))] (h0, ())).run = nthash_Twice N h0 := by kernel_rfl
noncomputable def Ev119 : (R : Type) → Env R := Env.addFn (Ev118 N) 36 (fun R => fnK [(.arr 16 (.int .u8))] [(.arr 16 (.int .u8))] (fun c => nthash_Twice N c.1))
theorem Ev119_ok (R : Type) : EnvOK Tryz.prog (Ev119 N R) := EnvOK.addFn hmx (Ev118_ok N R) (Ev118_ok N _) (by kernel_rfl) (fun c => nthash_Twice_S N c.1)
noncomputable def Ev120 : (R : Type) → Env R := Env.addMv (Ev119 N) [(59, 2)]
theorem Ev120_ok (R : Type) : EnvOK Tryz.prog (Ev120 N R) := EnvOK.addMv (Ev119_ok N R) [(59, 2)]
noncomputable def Ev121 : (R : Type) → Env R := Env.addBx (Ev120 N) [(59, 0)]
theorem Ev121_ok (R : Type) : EnvOK Tryz.prog (Ev121 N R) := EnvOK.addBx (Ev120_ok N R) [(59, 0)]
noncomputable def nthash_Long (N : Nat) (h0 : Arr Int 16) : Option (Arr Int 21) :=
 some ((@Arr.over Int (21 : Nat) (@Arr.cons Int 20 0 (@Arr.cons Int 19 0 (@Arr.cons Int 18 0 (@Arr.cons Int 17 0 (@Arr.cons Int 16 0 (@Arr.cons Int 15 0 (@Arr.cons Int 14 0 (@Arr.cons Int 13 0 (@Arr.cons Int 12 0 (@Arr.cons Int 11 0 (@Arr.cons Int 10 0 (@Arr.cons Int 9 0 (@Arr.cons Int 8 0 (@Arr.cons Int 7 0 (@Arr.cons Int 6 0 (@Arr.cons Int 5 0 (@Arr.cons Int 4 0 (@Arr.cons Int 3 0 (@Arr.cons Int 2 0 (@Arr.cons Int 1 0 (@Arr.cons Int 0 0 (@Arr.nil Int)))))))))))))))))))))) h0.l))
theorem nthash_Long_S (h0 : Arr Int 16) : (runK Tryz.prog (Ev121 N) 400 59 [(.arr 16 (.int .u8))] [(.arr 21 (.int .u8))] (h0, ())).run = nthash_Long N h0 := by kernel_rfl
noncomputable def Ev122 : (R : Type) → Env R := Env.addFn (Ev121 N) 59 (fun R => fnK [(.arr 16 (.int .u8))] [(.arr 21 (.int .u8))] (fun c => nthash_Long N c.1))
theorem Ev122_ok (R : Type) : EnvOK Tryz.prog (Ev122 N R) := EnvOK.addFn hmx (Ev121_ok N R) (Ev121_ok N _) (by kernel_rfl) (fun c => nthash_Long_S N c.1)
noncomputable def Ev123 : (R : Type) → Env R := Env.addBx (Ev122 N) [(28, 0)]
theorem Ev123_ok (R : Type) : EnvOK Tryz.prog (Ev123 N R) := EnvOK.addBx (Ev122_ok N R) [(28, 0)]
noncomputable def nthash_Thirds (N : Nat) (h0 : Arr Int 16) : Option (Arr (Arr Int 7) 3) :=
 Option.bind (takeI (@Arr.over Int (21 : Nat) (@Arr.cons Int 20 0 (@Arr.cons Int 19 0 (@Arr.cons Int 18 0 (@Arr.cons Int 17 0 (@Arr.cons Int 16 0 (@Arr.cons Int 15 0 (@Arr.cons Int 14 0 (@Arr.cons Int 13 0 (@Arr.cons Int 12 0 (@Arr.cons Int 11 0 (@Arr.cons Int 10 0 (@Arr.cons Int 9 0 (@Arr.cons Int 8 0 (@Arr.cons Int 7 0 (@Arr.cons Int 6 0 (@Arr.cons Int 5 0 (@Arr.cons Int 4 0 (@Arr.cons Int 3 0 (@Arr.cons Int 2 0 (@Arr.cons Int 1 0 (@Arr.cons Int 0 0 (@Arr.nil Int)))))))))))))))))))))) h0.l).l (7 : Int)) fun (v2 : (List Int)) =>
 Option.bind (@toArr Int (7 : Nat) v2) fun (v3 : (Arr Int 7)) =>
 Option.bind (subI (@Arr.over Int (21 : Nat) (@Arr.cons Int 20 0 (@Arr.cons Int 19 0 (@Arr.cons Int 18 0 (@Arr.cons Int 17 0 (@Arr.cons Int 16 0 (@Arr.cons Int 15 0 (@Arr.cons Int 14 0 (@Arr.cons Int 13 0 (@Arr.cons Int 12 0 (@Arr.cons Int 11 0 (@Arr.cons Int 10 0 (@Arr.cons Int 9 0 (@Arr.cons Int 8 0 (@Arr.cons Int 7 0 (@Arr.cons Int 6 0 (@Arr.cons Int 5 0 (@Arr.cons Int 4 0 (@Arr.cons Int 3 0 (@Arr.cons Int 2 0 (@Arr.cons Int 1 0 (@Arr.cons Int 0 0 (@Arr.nil Int)))))))))))))))))))))) h0.l).l (7 : Int) (14 : Int)) fun (v4 : (List Int)) =>
 Option.bind (@toArr Int (7 : Nat) v4) fun (v5 : (Arr Int 7)) =>
 Option.bind (dropI (@Arr.over Int (21 : Nat) (@Arr.cons Int 20 0 (@Arr.cons Int 19 0 (@Arr.cons Int 18 0 (@Arr.cons Int 17 0 (@Arr.cons Int 16 0 (@Arr.cons Int 15 0 (@Arr.cons Int 14 0 (@Arr.cons Int 13 0 (@Arr.cons Int 12 0 (@Arr.cons Int 11 0 (@Arr.cons Int 10 0 (@Arr.cons Int 9 0 (@Arr.cons Int 8 0 (@Arr.cons Int 7 0 (@Arr.cons Int 6 0 (@Arr.cons Int 5 0 (@Arr.cons Int 4 0 (@Arr.cons Int 3 0 (@Arr.cons Int 2 0 (@Arr.cons Int 1 0 (@Arr.cons Int 0 0 (@Arr.nil Int)))))))))))))))))))))) h0.l).l (14 : Int)) fun (v6 : (List Int)) =>
 Option.bind (@toArr Int (7 : Nat) v6) fun (v7 : (Arr Int 7)) =>
 some ((@Arr.cons (Arr Int 7) (2 : Nat) v3 (@Arr.cons (Arr Int 7) (1 : Nat) v5 (@Arr.cons (Arr Int 7) (0 : Nat) v7 (@Arr.nil (Arr Int 7))))))
theorem nthash_Thirds_S (h0 : Arr Int 16) : (runK Tryz.prog (Ev123 N) 400 28 [(.arr 16 (.int .u8))] [(.arr 3 (.arr 7 (.int .u8)))] (h0, ())).run = nthash_Thirds N h0 := by kernel_rfl
noncomputable def Ev124 : (R : Type) → Env R := Env.addFn (Ev123 N) 28 (fun R => fnK [(.arr 16 (.int .u8))] [(.arr 3 (.arr 7 (.int .u8)))] (fun c => nthash_Thirds N c.1))
theorem Ev124_ok (R : Type) : EnvOK Tryz.prog (Ev124 N R) := EnvOK.addFn hmx (Ev123_ok N R) (Ev123_ok N _) (by kernel_rfl) (fun c => nthash_Thirds_S N c.1)
noncomputable def ref10_Of (password0 : List UInt8) : Option ((Arr Int 16) × Int) :=
 Option.bind (ref09_Lay N password0) fun v2 =>
 bif (!(decide (v2.2 = (0 : Int)))) then
  some (((@Arr.cons Int 15 0 (@Arr.cons Int 14 0 (@Arr.cons Int 13 0 (@Arr.cons Int 12 0 (@Arr.cons Int 11 0 (@Arr.cons Int 10 0 (@Arr.cons Int 9 0 (@Arr.cons Int 8 0 (@Arr.cons Int 7 0 (@Arr.cons Int 6 0 (@Arr.cons Int 5 0 (@Arr.cons Int 4 0 (@Arr.cons Int 3 0 (@Arr.cons Int 2 0 (@Arr.cons Int 1 0 (@Arr.cons Int 0 0 (@Arr.nil Int))))))))))))))))), v2.2))
 else
  Option.bind (ref04_Of N v2.1) fun v3 =>
  some ((v3, (0 : Int)))
theorem ref10_Of_S (password0 : List UInt8) : (runK Tryz.prog (Ev124 N) 400 31 [.str] [(.arr 16 (.int .u8)), (.int .i64)] (password0, ())).run = ref10_Of N password0 := by kernel_rfl
noncomputable def Ev125 : (R : Type) → Env R := Env.addFn (Ev124 N) 31 (fun R => fnK [.str] [(.arr 16 (.int .u8)), (.int .i64)] (fun c => ref10_Of N c.1))
theorem Ev125_ok (R : Type) : EnvOK Tryz.prog (Ev125 N R) := EnvOK.addFn hmx (Ev124_ok N R) (Ev124_ok N _) (by kernel_rfl) (fun c => ref10_Of_S N c.1)
noncomputable def Ev126 : (R : Type) → Env R := Env.addBx (Ev125 N) [(38, 0)]
theorem Ev126_ok (R : Type) : EnvOK Tryz.prog (Ev126 N R) := EnvOK.addBx (Ev125_ok N R) [(38, 0)]
noncomputable def ref10_Twice (h0 : Arr Int 16) : Option (Arr Int 16) :=
 Option.bind (ref04_Of N h0.l) fun v2 =>
 some (v2)
theorem ref10_Twice_S (h0 : Arr Int 16) : (runK Tryz.prog (Ev126 N) 400 38 [(.arr 16 (.int .u8))] [(.arr 16 (.int .u8))] (h0, ())).run = ref10_Twice N h0 := by kernel_rfl
noncomputable def Ev127 : (R : Type) → Env R := Env.addFn (Ev126 N) 38 (fun R => fnK [(.arr 16 (.int .u8))] [(.arr 16 (.int .u8))] (fun c => ref10_Twice N c.1))
theorem Ev127_ok (R : Type) : EnvOK Tryz.prog (Ev127 N R) := EnvOK.addFn hmx (Ev126_ok N R) (Ev126_ok N _) (by kernel_rfl) (fun c => ref10_Twice_S N c.1)
noncomputable def Ev128 : (R : Type) → Env R := Env.addBx (Ev127 N) [(35, 0)]
theorem Ev128_ok (R : Type) : EnvOK Tryz.prog (Ev128 N R) := EnvOK.addBx (Ev127_ok N R) [(35, 0)]
noncomputable def ref10_Third (N : Nat) (h0 : Arr Int 16) (n1 : Int) : Option (List Int) :=
 bif (roomB (List.length h0.l) 1) then
  bif (roomB ((List.length h0.l) + (List.length ([0, 0, 0, 0, 0] : List Int))) 1) then
   Option.bind (subI (h0.l ++ ([0, 0, 0, 0, 0] : List Int)) (IntKind.wrap .i64 ((7 : Int) * n1)) (IntKind.wrap .i64 ((IntKind.wrap .i64 ((7 : Int) * n1)) + 7))) fun (v3 : (List Int)) =>
   some (v3)
  else
   none
 else
  none
theorem ref10_Third_S (h0 : Arr Int 16) (n1 : Int) : (runK Tryz.prog (Ev128 N) 400 35 [(.arr 16 (.int .u8)), (.int .i64)] [(.sl (.int .u8))] (h0, n1, ())).run = ref10_Third N h0 n1 := by kernel_rfl
noncomputable def Ev129 : (R : Type) → Env R := Env.addFn (Ev128 N) 35 (fun R => fnK [(.arr 16 (.int .u8)), (.int .i64)] [(.sl (.int .u8))] (fun c => ref10_Third N c.1 c.2.1))
theorem Ev129_ok (R : Type) : EnvOK Tryz.prog (Ev129 N R) := EnvOK.addFn hmx (Ev128_ok N R) (Ev128_ok N _) (by kernel_rfl) (fun c => ref10_Third_S N c.1 c.2.1)
noncomputable def Ev130 : (R : Type) → Env R := Env.addFn (Ev129 N) 181 (fun R => ixK)
theorem Ev130_ok (R : Type) : EnvOK Tryz.prog (Ev130 N R) := EnvOK.addExt (Ev129_ok N R) (ix_ok (fn := Go.Proofs.Tryz.f181) (by kernel_rfl) (by kernel_rfl) (by decide +kernel) (by kernel_rfl) (by kernel_rfl))
noncomputable def stringslite_IndexByte (N : Nat) (s0 : List UInt8) (c1 : Int) : Option Int :=
 some ((@idxB s0 c1))
theorem stringslite_IndexByte_S (s0 : List UInt8) (c1 : Int) : (runK Tryz.prog (Ev130 N) 400 154 [.str, (.int .u8)] [(.int .i64)] (s0, c1, ())).run = stringslite_IndexByte N s0 c1 := by kernel_rfl
noncomputable def Ev131 : (R : Type) → Env R := Env.addFn (Ev130 N) 154 (fun R => fnK [.str, (.int .u8)] [(.int .i64)] (fun c => stringslite_IndexByte N c.1 c.2.1))
theorem Ev131_ok (R : Type) : EnvOK Tryz.prog (Ev131 N R) := EnvOK.addFn hmx (Ev130_ok N R) (Ev130_ok N _) (by kernel_rfl) (fun c => stringslite_IndexByte_S N c.1 c.2.1)
noncomputable def strings_IndexByte (N : Nat) (s0 : List UInt8) (c1 : Int) : Option Int :=
 some ((@idxB s0 c1))
theorem strings_IndexByte_S (s0 : List UInt8) (c1 : Int) : (runK Tryz.prog (Ev131 N) 400 189 [.str, (.int .u8)] [(.int .i64)] (s0, c1, ())).run = strings_IndexByte N s0 c1 := by kernel_rfl
noncomputable def Ev132 : (R : Type) → Env R := Env.addFn (Ev131 N) 189 (fun R => fnK [.str, (.int .u8)] [(.int .i64)] (fun c => strings_IndexByte N c.1 c.2.1))
theorem Ev132_ok (R : Type) : EnvOK Tryz.prog (Ev132 N R) := EnvOK.addFn hmx (Ev131_ok N R) (Ev131_ok N _) (by kernel_rfl) (fun c => strings_IndexByte_S N c.1 c.2.1)
noncomputable def des_Box (N : Nat) (n0 : Int) (six1 : Int) : Option Int :=
 Option.bind (bif (decide (n0 < (1 : Int))) then
   some (true)
  else
   some ((cond false true (decide ((8 : Int) < n0))))) fun (v3 : Bool) =>
 bif v3 then
  some ((0 : Int))
 else
  Option.bind (getI (Array.toList (List.toArray (@List.append UInt8 (@List.append UInt8 (@List.append UInt8 ([69, 52, 68, 49, 50, 70, 66, 56, 51, 65, 54, 67, 53, 57, 48, 55, 48, 70, 55, 52, 69, 50, 68, 49, 65, 54, 67, 66, 57, 53, 51, 56, 52, 49, 69, 56, 68, 54, 50, 66, 70, 67, 57, 55, 51, 65, 53, 48, 70, 67, 56, 50, 52, 57, 49, 55, 53, 66, 51, 69, 65, 48, 54, 68] : List UInt8) ([70, 49, 56, 69, 54, 66, 51, 52, 57, 55, 50, 68, 67, 48, 53, 65, 51, 68, 52, 55, 70, 50, 56, 69, 67, 48, 49, 65, 54, 57, 66, 53, 48, 69, 55, 66, 65, 52, 68, 49, 53, 56, 67, 54, 57, 51, 50, 70, 68, 56, 65, 49, 51, 70, 52, 50, 66, 54, 55, 67, 48, 53, 69, 57] : List UInt8)) (@List.append UInt8 ([65, 48, 57, 69, 54, 51, 70, 53, 49, 68, 67, 55, 66, 52, 50, 56, 68, 55, 48, 57, 51, 52, 54, 65, 50, 56, 53, 69, 67, 66, 70, 49, 68, 54, 52, 57, 56, 70, 51, 48, 66, 49, 50, 67, 53, 65, 69, 55, 49, 65, 68, 48, 54, 57, 56, 55, 52, 70, 69, 51, 66, 53, 50, 67] : List UInt8) ([55, 68, 69, 51, 48, 54, 57, 65, 49, 50, 56, 53, 66, 67, 52, 70, 68, 56, 66, 53, 54, 70, 48, 51, 52, 55, 50, 67, 49, 65, 69, 57, 65, 54, 57, 48, 67, 66, 55, 68, 70, 49, 51, 69, 53, 50, 56, 52, 51, 70, 48, 54, 65, 49, 68, 56, 57, 52, 53, 66, 67, 55, 50, 69] : List UInt8))) (@List.append UInt8 (@List.append UInt8 ([50, 67, 52, 49, 55, 65, 66, 54, 56, 53, 51, 70, 68, 48, 69, 57, 69, 66, 50, 67, 52, 55, 68, 49, 53, 48, 70, 65, 51, 57, 56, 54, 52, 50, 49, 66, 65, 68, 55, 56, 70, 57, 67, 53, 54, 51, 48, 69, 66, 56, 67, 55, 49, 69, 50, 68, 54, 70, 48, 57, 65, 52, 53, 51] : List UInt8) ([67, 49, 65, 70, 57, 50, 54, 56, 48, 68, 51, 52, 69, 55, 53, 66, 65, 70, 52, 50, 55, 67, 57, 53, 54, 49, 68, 69, 48, 66, 51, 56, 57, 69, 70, 53, 50, 56, 67, 51, 55, 48, 52, 65, 49, 68, 66, 54, 52, 51, 50, 67, 57, 53, 70, 65, 66, 69, 49, 55, 54, 48, 56, 68] : List UInt8)) (@List.append UInt8 ([52, 66, 50, 69, 70, 48, 56, 68, 51, 67, 57, 55, 53, 65, 54, 49, 68, 48, 66, 55, 52, 57, 49, 65, 69, 51, 53, 67, 50, 70, 56, 54, 49, 52, 66, 68, 67, 51, 55, 69, 65, 70, 54, 56, 48, 53, 57, 50, 54, 66, 68, 56, 49, 52, 65, 55, 57, 53, 48, 70, 69, 50, 51, 67] : List UInt8) ([68, 50, 56, 52, 54, 70, 66, 49, 65, 57, 51, 69, 53, 48, 67, 55, 49, 70, 68, 56, 65, 51, 55, 52, 67, 53, 54, 66, 48, 69, 57, 50, 55, 66, 52, 49, 57, 67, 69, 50, 48, 54, 65, 68, 70, 51, 53, 56, 50, 49, 69, 55, 52, 65, 56, 68, 70, 67, 57, 48, 51, 53, 54, 66] : List UInt8)))))) (IntKind.wrap .u64 ((IntKind.wrap .u64 ((IntKind.wrap .u64 ((64 : Int) * (IntKind.wrap .u64 (IntKind.wrap .i64 (n0 - 1))))) + (IntKind.wrap .u64 ((16 : Int) * (bits .or .u64 (bits .and .u64 (@Int.fdiv six1 ((2 : Int) ^ (min (Int.toNat (4 : Int)) (IntKind.bits .u64)))) (2 : Int)) (bits .and .u64 six1 (1 : Int))))))) + (bits .and .u64 (@Int.fdiv six1 ((2 : Int) ^ (min (Int.toNat (1 : Int)) (IntKind.bits .u64)))) (15 : Int))))) fun (v4 : UInt8) =>
  some ((IntKind.wrap .u64 (@idxB (Array.toList (List.toArray ([48, 49, 50, 51, 52, 53, 54, 55, 56, 57, 65, 66, 67, 68, 69, 70] : List UInt8))) (((@UInt8.toNat v4) : Nat) : Int))))
theorem des_Box_S (n0 : Int) (six1 : Int) : (runK Tryz.prog (Ev132 N) 400 165 [(.int .i64), (.int .u64)] [(.int .u64)] (n0, six1, ())).run = des_Box N n0 six1 := by kernel_rfl
noncomputable def Ev133 : (R : Type) → Env R := Env.addFn (Ev132 N) 165 (fun R => fnK [(.int .i64), (.int .u64)] [(.int .u64)] (fun c => des_Box N c.1 c.2.1))
theorem Ev133_ok (R : Type) : EnvOK Tryz.prog (Ev133 N R) := EnvOK.addFn hmx (Ev132_ok N R) (Ev132_ok N _) (by kernel_rfl) (fun c => des_Box_S N c.1 c.2.1)
noncomputable def Ev134 : (R : Type) → Env R := Env.addMv (Ev133 N) [(130, 8), (130, 10)]
theorem Ev134_ok (R : Type) : EnvOK Tryz.prog (Ev134 N R) := EnvOK.addMv (Ev133_ok N R) [(130, 8), (130, 10)]
noncomputable def des_ofKeys_8_des_falling_L2_I : LI := ⟨21, 1, [(0, 3)], ⟨[(0, .lit (.own 1)), (1, .ty (.int .i64)), (8, .ty (.int .i64)), (9, .ty (.int .i64))], [.dead, .own (.int .i64) 3]⟩, [(.exit 0, ⟨[(0, .lit (.own 1))], [.dead, .own (.int .i64) 3]⟩)]⟩
noncomputable def des_ofKeys_8_des_falling_L2 (N : Nat) (X : ((Int × (Int × (Int × Unit))) × ((List Int) × Unit)) → Option ((Unit × ((List Int) × Unit)))) (x1 : Int) (x8 : Int) (x9 : Int) (h0 : List (Int)) : Option ((Unit × ((List Int) × Unit))) :=
 bif (decide (x9 < x8)) then
  bif (roomB ((List.length h0) + (List.length ([(IntKind.wrap .i64 (x1 - (IntKind.wrap .i64 ((8 : Int) * x9))))] : List (Int)))) 8) then
   (X ((x1, (x8, ((IntKind.wrap .i64 (x9 + 1)), ()))), ((h0 ++ ([(IntKind.wrap .i64 (x1 - (IntKind.wrap .i64 ((8 : Int) * x9))))] : List (Int))), ())))
  else
   none
 else
  some (((), (h0, ())))
noncomputable def des_ofKeys_8_des_falling_L2_R (c : ((Int × (Int × (Int × Unit))) × ((List Int) × Unit))) : Option ((Unit × ((List Int) × Unit))) := gl (fun X c => des_ofKeys_8_des_falling_L2 N X c.1.1 c.1.2.1 c.1.2.2.1 c.2.1) N c
theorem des_ofKeys_8_des_falling_L2_S (X : ((Int × (Int × (Int × Unit))) × ((List Int) × Unit)) → Option ((Unit × ((List Int) × Unit)))) (x1 : Int) (x8 : Int) (x9 : Int) (h0 : List (Int)) : (roundK Tryz.prog (Ev134 N) 400 [164, 8, 130] des_ofKeys_8_des_falling_L2_I (loopAt Tryz.prog [164, 8, 130] 2) X ((x1, x8, x9, ()), (h0, ()))).run = des_ofKeys_8_des_falling_L2 N X x1 x8 x9 h0 := by kernel_rfl
noncomputable def Ev135 : (R : Type) → Env R := Env.addLp (Ev134 N) [164, 8, 130] 1 2 (fun R => lpK Tryz.prog des_ofKeys_8_des_falling_L2_I (fun X c => des_ofKeys_8_des_falling_L2 N X c.1.1 c.1.2.1 c.1.2.2.1 c.2.1) N)
theorem Ev135_ok (R : Type) : EnvOK Tryz.prog (Ev135 N R) := EnvOK.addLp (Ev134_ok N R) (by kernel_rfl) (lpK_ok (li := des_ofKeys_8_des_falling_L2_I) (G := fun X c => des_ofKeys_8_des_falling_L2 N X c.1.1 c.1.2.1 c.1.2.2.1 c.2.1) hmx (Ev134_ok N _) (by kernel_rfl) loopAt_sub (fun (X : CT des_ofKeys_8_des_falling_L2_I.sh → Option (OT des_ofKeys_8_des_falling_L2_I.outs)) (c : CT des_ofKeys_8_des_falling_L2_I.sh) => des_ofKeys_8_des_falling_L2_S N X c.1.1 c.1.2.1 c.1.2.2.1 c.2.1) N)
noncomputable def des_ofKeys_L6_I : LI := ⟨28, 0, [], ⟨[(1, .lit (.own 0)), (3, .adr (.arr 4 (.int .i64))), (8, .ty (.arr 2 (.arr 4 (.int .i64)))), (9, .ty (.int .i64)), (12, .ty (.sl (.int .i64))), (13, .ty (.int .i64)), (14, .ty (.int .i64))], [.own (.int .i64) 3]⟩, [(.exit 2, ⟨[(1, .lit (.own 0)), (3, .adr (.arr 4 (.int .i64))), (8, .ty (.arr 2 (.arr 4 (.int .i64)))), (9, .ty (.int .i64))], [.own (.int .i64) 3]⟩)]⟩
noncomputable def des_ofKeys_L6 (X : (((Arr Int 4) × ((Arr (Arr Int 4) 2) × (Int × ((List Int) × (Int × (Int × Unit)))))) × ((List Int) × Unit)) → Option ((((Arr Int 4) × ((Arr (Arr Int 4) 2) × (Int × Unit))) × ((List Int) × Unit)))) (half3 : Arr Int 4) (x8 : Arr (Arr Int 4) 2) (x9 : Int) (x12 : List (Int)) (x13 : Int) (x14 : Int) (h0 : List (Int)) : Option ((((Arr Int 4) × ((Arr (Arr Int 4) 2) × (Int × Unit))) × ((List Int) × Unit))) :=
 bif (decide (x14 < x13)) then
  Option.bind (getI x12 x14) fun (v9 : Int) =>
  Option.bind (des_ofKeys_8_des_falling_L2_R N ((v9, ((8 : Int), ((0 : Int), ()))), (h0, ()))) fun v10 =>
  (X ((half3, (x8, (x9, (x12, (x13, ((IntKind.wrap .i64 (x14 + 1)), ())))))), (v10.2.1, ())))
 else
  some (((half3, (x8, (x9, ()))), (h0, ())))
noncomputable def des_ofKeys_L6_R (c : (((Arr Int 4) × ((Arr (Arr Int 4) 2) × (Int × ((List Int) × (Int × (Int × Unit)))))) × ((List Int) × Unit))) : Option ((((Arr Int 4) × ((Arr (Arr Int 4) 2) × (Int × Unit))) × ((List Int) × Unit))) := gl (fun X c => des_ofKeys_L6 N X c.1.1 c.1.2.1 c.1.2.2.1 c.1.2.2.2.1 c.1.2.2.2.2.1 c.1.2.2.2.2.2.1 c.2.1) N c
theorem des_ofKeys_L6_S (X : (((Arr Int 4) × ((Arr (Arr Int 4) 2) × (Int × ((List Int) × (Int × (Int × Unit)))))) × ((List Int) × Unit)) → Option ((((Arr Int 4) × ((Arr (Arr Int 4) 2) × (Int × Unit))) × ((List Int) × Unit)))) (half3 : Arr Int 4) (x8 : Arr (Arr Int 4) 2) (x9 : Int) (x12 : List (Int)) (x13 : Int) (x14 : Int) (h0 : List (Int)) : (roundK Tryz.prog (Ev135 N) 400 [130] des_ofKeys_L6_I (loopAt Tryz.prog [130] 6) X ((half3, x8, x9, x12, x13, x14, ()), (h0, ()))).run = des_ofKeys_L6 N X half3 x8 x9 x12 x13 x14 h0 := by kernel_rfl
noncomputable def Ev136 : (R : Type) → Env R := Env.addLp (Ev135 N) [130] 0 6 (fun R => lpK Tryz.prog des_ofKeys_L6_I (fun X c => des_ofKeys_L6 N X c.1.1 c.1.2.1 c.1.2.2.1 c.1.2.2.2.1 c.1.2.2.2.2.1 c.1.2.2.2.2.2.1 c.2.1) N)
theorem Ev136_ok (R : Type) : EnvOK Tryz.prog (Ev136 N R) := EnvOK.addLp (Ev135_ok N R) (by kernel_rfl) (lpK_ok (li := des_ofKeys_L6_I) (G := fun X c => des_ofKeys_L6 N X c.1.1 c.1.2.1 c.1.2.2.1 c.1.2.2.2.1 c.1.2.2.2.2.1 c.1.2.2.2.2.2.1 c.2.1) hmx (Ev135_ok N _) (by kernel_rfl) loopAt_sub (fun (X : CT des_ofKeys_L6_I.sh → Option (OT des_ofKeys_L6_I.outs)) (c : CT des_ofKeys_L6_I.sh) => des_ofKeys_L6_S N X c.1.1 c.1.2.1 c.1.2.2.1 c.1.2.2.2.1 c.1.2.2.2.2.1 c.1.2.2.2.2.2.1 c.2.1) N)
noncomputable def des_ofKeys_10_des_falling_L2_I : LI := ⟨21, 1, [(0, 3)], ⟨[(0, .lit (.own 1)), (1, .ty (.int .i64)), (8, .ty (.int .i64)), (9, .ty (.int .i64))], [.dead, .own (.int .i64) 3]⟩, [(.exit 0, ⟨[(0, .lit (.own 1))], [.dead, .own (.int .i64) 3]⟩)]⟩
noncomputable def des_ofKeys_10_des_falling_L2 (N : Nat) (X : ((Int × (Int × (Int × Unit))) × ((List Int) × Unit)) → Option ((Unit × ((List Int) × Unit)))) (x1 : Int) (x8 : Int) (x9 : Int) (h0 : List (Int)) : Option ((Unit × ((List Int) × Unit))) :=
 bif (decide (x9 < x8)) then
  bif (roomB ((List.length h0) + (List.length ([(IntKind.wrap .i64 (x1 - (IntKind.wrap .i64 ((8 : Int) * x9))))] : List (Int)))) 8) then
   (X ((x1, (x8, ((IntKind.wrap .i64 (x9 + 1)), ()))), ((h0 ++ ([(IntKind.wrap .i64 (x1 - (IntKind.wrap .i64 ((8 : Int) * x9))))] : List (Int))), ())))
  else
   none
 else
  some (((), (h0, ())))
noncomputable def des_ofKeys_10_des_falling_L2_R (c : ((Int × (Int × (Int × Unit))) × ((List Int) × Unit))) : Option ((Unit × ((List Int) × Unit))) := gl (fun X c => des_ofKeys_10_des_falling_L2 N X c.1.1 c.1.2.1 c.1.2.2.1 c.2.1) N c
theorem des_ofKeys_10_des_falling_L2_S (X : ((Int × (Int × (Int × Unit))) × ((List Int) × Unit)) → Option ((Unit × ((List Int) × Unit)))) (x1 : Int) (x8 : Int) (x9 : Int) (h0 : List (Int)) : (roundK Tryz.prog (Ev136 N) 400 [164, 10, 130] des_ofKeys_10_des_falling_L2_I (loopAt Tryz.prog [164, 10, 130] 2) X ((x1, x8, x9, ()), (h0, ()))).run = des_ofKeys_10_des_falling_L2 N X x1 x8 x9 h0 := by kernel_rfl
noncomputable def Ev137 : (R : Type) → Env R := Env.addLp (Ev136 N) [164, 10, 130] 1 2 (fun R => lpK Tryz.prog des_ofKeys_10_des_falling_L2_I (fun X c => des_ofKeys_10_des_falling_L2 N X c.1.1 c.1.2.1 c.1.2.2.1 c.2.1) N)
theorem Ev137_ok (R : Type) : EnvOK Tryz.prog (Ev137 N R) := EnvOK.addLp (Ev136_ok N R) (by kernel_rfl) (lpK_ok (li := des_ofKeys_10_des_falling_L2_I) (G := fun X c => des_ofKeys_10_des_falling_L2 N X c.1.1 c.1.2.1 c.1.2.2.1 c.2.1) hmx (Ev136_ok N _) (by kernel_rfl) loopAt_sub (fun (X : CT des_ofKeys_10_des_falling_L2_I.sh → Option (OT des_ofKeys_10_des_falling_L2_I.outs)) (c : CT des_ofKeys_10_des_falling_L2_I.sh) => des_ofKeys_10_des_falling_L2_S N X c.1.1 c.1.2.1 c.1.2.2.1 c.2.1) N)
noncomputable def des_ofKeys_L3_I : LI := ⟨28, 0, [(1, 3)], ⟨[(1, .lit (.own 0)), (8, .ty (.arr 2 (.arr 4 (.int .i64)))), (9, .ty (.int .i64))], [.own (.int .i64) 3]⟩, [(.exit 0, ⟨[(1, .lit (.own 0))], [.own (.int .i64) 3]⟩)]⟩
noncomputable def des_ofKeys_L3 (X : (((Arr (Arr Int 4) 2) × (Int × Unit)) × ((List Int) × Unit)) → Option ((Unit × ((List Int) × Unit)))) (x8 : Arr (Arr Int 4) 2) (x9 : Int) (h0 : List (Int)) : Option ((Unit × ((List Int) × Unit))) :=
 bif (decide (x9 < (2 : Int))) then
  Option.bind (getI x8.l x9) fun (v5 : (Arr Int 4)) =>
  Option.bind (takeI v5.l (3 : Int)) fun (v6 : (List Int)) =>
  Option.bind (des_ofKeys_L6_R N ((v5, (x8, (x9, (v6, ((((List.length v6) : Nat) : Int), ((0 : Int), ())))))), (h0, ()))) fun v7 =>
  Option.bind (getI v7.1.1.l (3 : Int)) fun (v8 : Int) =>
  Option.bind (des_ofKeys_10_des_falling_L2_R N ((v8, ((4 : Int), ((0 : Int), ()))), (v7.2.1, ()))) fun v9 =>
  (X ((v7.1.2.1, ((IntKind.wrap .i64 (v7.1.2.2.1 + 1)), ())), (v9.2.1, ())))
 else
  some (((), (h0, ())))
noncomputable def des_ofKeys_L3_R (c : (((Arr (Arr Int 4) 2) × (Int × Unit)) × ((List Int) × Unit))) : Option ((Unit × ((List Int) × Unit))) := gl (fun X c => des_ofKeys_L3 N X c.1.1 c.1.2.1 c.2.1) N c
theorem des_ofKeys_L3_S (X : (((Arr (Arr Int 4) 2) × (Int × Unit)) × ((List Int) × Unit)) → Option ((Unit × ((List Int) × Unit)))) (x8 : Arr (Arr Int 4) 2) (x9 : Int) (h0 : List (Int)) : (roundK Tryz.prog (Ev137 N) 400 [130] des_ofKeys_L3_I (loopAt Tryz.prog [130] 3) X ((x8, x9, ()), (h0, ()))).run = des_ofKeys_L3 N X x8 x9 h0 := by kernel_rfl
noncomputable def Ev138 : (R : Type) → Env R := Env.addLp (Ev137 N) [130] 0 3 (fun R => lpK Tryz.prog des_ofKeys_L3_I (fun X c => des_ofKeys_L3 N X c.1.1 c.1.2.1 c.2.1) N)
theorem Ev138_ok (R : Type) : EnvOK Tryz.prog (Ev138 N R) := EnvOK.addLp (Ev137_ok N R) (by kernel_rfl) (lpK_ok (li := des_ofKeys_L3_I) (G := fun X c => des_ofKeys_L3 N X c.1.1 c.1.2.1 c.2.1) hmx (Ev137_ok N _) (by kernel_rfl) loopAt_sub (fun (X : CT des_ofKeys_L3_I.sh → Option (OT des_ofKeys_L3_I.outs)) (c : CT des_ofKeys_L3_I.sh) => des_ofKeys_L3_S N X c.1.1 c.1.2.1 c.2.1) N)
noncomputable def des_ofKeys : Option (List Int) :=
 Option.bind (des_ofKeys_L3_R N (((@Arr.cons (Arr Int 4) (1 : Nat) (@Arr.cons Int 3 57 (@Arr.cons Int 2 58 (@Arr.cons Int 1 59 (@Arr.cons Int 0 60 (@Arr.nil Int))))) (@Arr.cons (Arr Int 4) (0 : Nat) (@Arr.cons Int 3 63 (@Arr.cons Int 2 62 (@Arr.cons Int 1 61 (@Arr.cons Int 0 28 (@Arr.nil Int))))) (@Arr.nil (Arr Int 4)))), ((0 : Int), ())), (([] : List Int), ()))) fun v1 =>
 some (v1.2.1)
theorem des_ofKeys_S : (runK Tryz.prog (Ev138 N) 400 130 [] [(.sl (.int .i64))] ()).run = des_ofKeys N  := by kernel_rfl
noncomputable def Ev139 : (R : Type) → Env R := Env.addFn (Ev138 N) 130 (fun R => fnK [] [(.sl (.int .i64))] (fun c => des_ofKeys N ))
theorem Ev139_ok (R : Type) : EnvOK Tryz.prog (Ev139 N R) := EnvOK.addFn hmx (Ev138_ok N R) (Ev138_ok N _) (by kernel_rfl) (fun c => des_ofKeys_S N )
noncomputable def bitp_may (N : Nat) (width0 : Int) : Option Bool :=
 Option.bind (bif (decide ((1 : Int) ≤ width0)) then
   some ((cond true (decide (width0 ≤ (64 : Int))) false))
  else
   some (false)) fun (v2 : Bool) =>
 some (v2)
theorem bitp_may_S (width0 : Int) : (runK Tryz.prog (Ev139 N) 400 166 [(.int .i64)] [.bool] (width0, ())).run = bitp_may N width0 := by kernel_rfl
noncomputable def Ev140 : (R : Type) → Env R := Env.addFn (Ev139 N) 166 (fun R => fnK [(.int .i64)] [.bool] (fun c => bitp_may N c.1))
theorem Ev140_ok (R : Type) : EnvOK Tryz.prog (Ev140 N R) := EnvOK.addFn hmx (Ev139_ok N R) (Ev139_ok N _) (by kernel_rfl) (fun c => bitp_may_S N c.1)
noncomputable def bitp_Permute_L4_I : LI := ⟨39, 0, [], ⟨[(0, .ty (.int .u64)), (1, .ty (.int .i64)), (2, .ty (.sl (.int .i64))), (19, .ty (.sl (.int .i64))), (20, .ty (.int .i64)), (21, .ty (.int .i64))], []⟩, [(.ret, ⟨[(6, .ty (.int .u64)), (7, .ty (.int .i64))], []⟩), (.exit 0, ⟨[(0, .ty (.int .u64)), (1, .ty (.int .i64)), (2, .ty (.sl (.int .i64)))], []⟩)]⟩
noncomputable def bitp_Permute_L4 (N : Nat) (X : ((Int × (Int × ((List Int) × ((List Int) × (Int × (Int × Unit)))))) × Unit) → Option ((((Int × (Int × Unit)) × Unit) ⊕ ((Int × (Int × ((List Int) × Unit))) × Unit)))) (x0 : Int) (width1 : Int) (table2 : List (Int)) (x19 : List (Int)) (x20 : Int) (x21 : Int) : Option ((((Int × (Int × Unit)) × Unit) ⊕ ((Int × (Int × ((List Int) × Unit))) × Unit))) :=
 bif (decide (x21 < x20)) then
  Option.bind (getI x19 x21) fun (v8 : Int) =>
  Option.bind (bif (decide (v8 < (1 : Int))) then
    some (true)
   else
    some ((cond false true (decide (width1 < v8))))) fun (v9 : Bool) =>
  bif v9 then
   some ((.inl (((0 : Int), ((1 : Int), ())), ())))
  else
   (X ((x0, (width1, (table2, (x19, (x20, ((IntKind.wrap .i64 (x21 + 1)), ())))))), ()))
 else
  some ((.inr ((x0, (width1, (table2, ()))), ())))
noncomputable def bitp_Permute_L4_R (c : ((Int × (Int × ((List Int) × ((List Int) × (Int × (Int × Unit)))))) × Unit)) : Option ((((Int × (Int × Unit)) × Unit) ⊕ ((Int × (Int × ((List Int) × Unit))) × Unit))) := gl (fun X c => bitp_Permute_L4 N X c.1.1 c.1.2.1 c.1.2.2.1 c.1.2.2.2.1 c.1.2.2.2.2.1 c.1.2.2.2.2.2.1) N c
theorem bitp_Permute_L4_S (X : ((Int × (Int × ((List Int) × ((List Int) × (Int × (Int × Unit)))))) × Unit) → Option ((((Int × (Int × Unit)) × Unit) ⊕ ((Int × (Int × ((List Int) × Unit))) × Unit)))) (x0 : Int) (width1 : Int) (table2 : List (Int)) (x19 : List (Int)) (x20 : Int) (x21 : Int) : (roundK Tryz.prog (Ev140 N) 400 [163] bitp_Permute_L4_I (loopAt Tryz.prog [163] 4) X ((x0, width1, table2, x19, x20, x21, ()), ())).run = bitp_Permute_L4 N X x0 width1 table2 x19 x20 x21 := by kernel_rfl
noncomputable def Ev141 : (R : Type) → Env R := Env.addLp (Ev140 N) [163] 0 4 (fun R => lpK Tryz.prog bitp_Permute_L4_I (fun X c => bitp_Permute_L4 N X c.1.1 c.1.2.1 c.1.2.2.1 c.1.2.2.2.1 c.1.2.2.2.2.1 c.1.2.2.2.2.2.1) N)
theorem Ev141_ok (R : Type) : EnvOK Tryz.prog (Ev141 N R) := EnvOK.addLp (Ev140_ok N R) (by kernel_rfl) (lpK_ok (li := bitp_Permute_L4_I) (G := fun X c => bitp_Permute_L4 N X c.1.1 c.1.2.1 c.1.2.2.1 c.1.2.2.2.1 c.1.2.2.2.2.1 c.1.2.2.2.2.2.1) hmx (Ev140_ok N _) (by kernel_rfl) loopAt_sub (fun (X : CT bitp_Permute_L4_I.sh → Option (OT bitp_Permute_L4_I.outs)) (c : CT bitp_Permute_L4_I.sh) => bitp_Permute_L4_S N X c.1.1 c.1.2.1 c.1.2.2.1 c.1.2.2.2.1 c.1.2.2.2.2.1 c.1.2.2.2.2.2.1) N)
noncomputable def bitp_Bit (x0 : Int) (width1 : Int) (i2 : Int) : Option Int :=
 Option.bind (bitp_may N width1) fun v4 =>
 Option.bind (bif (!v4) then
   some (true)
  else
   some ((cond false true (decide (i2 < (1 : Int)))))) fun (v5 : Bool) =>
 Option.bind (bif v5 then
   some (true)
  else
   some ((cond false true (decide (width1 < i2))))) fun (v6 : Bool) =>
 bif v6 then
  some ((0 : Int))
 else
  bif (decide ((0 : Int) ≤ (IntKind.wrap .i64 (width1 - i2)))) then
   some ((bits .and .u64 (@Int.fdiv x0 ((2 : Int) ^ (min (Int.toNat (IntKind.wrap .i64 (width1 - i2))) (IntKind.bits .u64)))) (1 : Int)))
  else
   none
theorem bitp_Bit_S (x0 : Int) (width1 : Int) (i2 : Int) : (runK Tryz.prog (Ev141 N) 400 195 [(.int .u64), (.int .i64), (.int .i64)] [(.int .u64)] (x0, width1, i2, ())).run = bitp_Bit N x0 width1 i2 := by kernel_rfl
noncomputable def Ev142 : (R : Type) → Env R := Env.addFn (Ev141 N) 195 (fun R => fnK [(.int .u64), (.int .i64), (.int .i64)] [(.int .u64)] (fun c => bitp_Bit N c.1 c.2.1 c.2.2.1))
theorem Ev142_ok (R : Type) : EnvOK Tryz.prog (Ev142 N R) := EnvOK.addFn hmx (Ev141_ok N R) (Ev141_ok N _) (by kernel_rfl) (fun c => bitp_Bit_S N c.1 c.2.1 c.2.2.1)
noncomputable def bitp_Permute_10_bitp_named_L1_I : LI := ⟨23, 1, [], ⟨[(0, .ty (.int .u64)), (1, .ty (.int .i64)), (3, .lit (.clo 188 [.box 0 0])), (10, .ty (.sl (.int .i64))), (11, .ty (.int .i64)), (12, .ty (.int .i64))], [.box 95 (.int .u64)]⟩, [(.exit 0, ⟨[], [.box 95 (.int .u64)]⟩)]⟩
noncomputable def bitp_Permute_10_bitp_named_L1 (X : ((Int × (Int × ((List Int) × (Int × (Int × Unit))))) × (Int × Unit)) → Option ((Unit × (Int × Unit)))) (x0 : Int) (width1 : Int) (x10 : List (Int)) (x11 : Int) (x12 : Int) (h0 : Int) : Option ((Unit × (Int × Unit))) :=
 bif (decide (x12 < x11)) then
  Option.bind (getI x10 x12) fun (v8 : Int) =>
  Option.bind (bitp_Bit N x0 width1 v8) fun v9 =>
  (X ((x0, (width1, (x10, (x11, ((IntKind.wrap .i64 (x12 + 1)), ()))))), ((bits .or .u64 (IntKind.wrap .u64 (h0 * ((2 : Int) ^ (min (Int.toNat (1 : Int)) (IntKind.bits .u64))))) v9), ())))
 else
  some (((), (h0, ())))
noncomputable def bitp_Permute_10_bitp_named_L1_R (c : ((Int × (Int × ((List Int) × (Int × (Int × Unit))))) × (Int × Unit))) : Option ((Unit × (Int × Unit))) := gl (fun X c => bitp_Permute_10_bitp_named_L1 N X c.1.1 c.1.2.1 c.1.2.2.1 c.1.2.2.2.1 c.1.2.2.2.2.1 c.2.1) N c
theorem bitp_Permute_10_bitp_named_L1_S (X : ((Int × (Int × ((List Int) × (Int × (Int × Unit))))) × (Int × Unit)) → Option ((Unit × (Int × Unit)))) (x0 : Int) (width1 : Int) (x10 : List (Int)) (x11 : Int) (x12 : Int) (h0 : Int) : (roundK Tryz.prog (Ev142 N) 400 [187, 10, 163] bitp_Permute_10_bitp_named_L1_I (loopAt Tryz.prog [187, 10, 163] 1) X ((x0, width1, x10, x11, x12, ()), (h0, ()))).run = bitp_Permute_10_bitp_named_L1 N X x0 width1 x10 x11 x12 h0 := by kernel_rfl
noncomputable def Ev143 : (R : Type) → Env R := Env.addLp (Ev142 N) [187, 10, 163] 1 1 (fun R => lpK Tryz.prog bitp_Permute_10_bitp_named_L1_I (fun X c => bitp_Permute_10_bitp_named_L1 N X c.1.1 c.1.2.1 c.1.2.2.1 c.1.2.2.2.1 c.1.2.2.2.2.1 c.2.1) N)
theorem Ev143_ok (R : Type) : EnvOK Tryz.prog (Ev143 N R) := EnvOK.addLp (Ev142_ok N R) (by kernel_rfl) (lpK_ok (li := bitp_Permute_10_bitp_named_L1_I) (G := fun X c => bitp_Permute_10_bitp_named_L1 N X c.1.1 c.1.2.1 c.1.2.2.1 c.1.2.2.2.1 c.1.2.2.2.2.1 c.2.1) hmx (Ev142_ok N _) (by kernel_rfl) loopAt_sub (fun (X : CT bitp_Permute_10_bitp_named_L1_I.sh → Option (OT bitp_Permute_10_bitp_named_L1_I.outs)) (c : CT bitp_Permute_10_bitp_named_L1_I.sh) => bitp_Permute_10_bitp_named_L1_S N X c.1.1 c.1.2.1 c.1.2.2.1 c.1.2.2.2.1 c.1.2.2.2.2.1 c.2.1) N)
noncomputable def bitp_Permute (x0 : Int) (width1 : Int) (table2 : List (Int)) : Option (Int × Int) :=
 Option.bind (bitp_may N width1) fun v4 =>
 bif (!v4) then
  Option.bind (some (true)) fun (v5 : Bool) =>
  bif v5 then
   some (((0 : Int), (1 : Int)))
  else
   Option.bind (bitp_Permute_L4_R N ((x0, (width1, (table2, (table2, ((((List.length table2) : Nat) : Int), ((0 : Int), ())))))), ())) fun v6 =>
   Sum.elim
    (fun (v7 : ((Int × (Int × Unit)) × Unit)) =>
    some ((v7.1.1, v7.1.2.1)))
    (fun (v7 : ((Int × (Int × ((List Int) × Unit))) × Unit)) =>
    Option.bind (bitp_Permute_10_bitp_named_L1_R N ((v7.1.1, (v7.1.2.1, (v7.1.2.2.1, ((((List.length v7.1.2.2.1) : Nat) : Int), ((0 : Int), ()))))), ((0 : Int), ()))) fun v8 =>
    some ((v8.2.1, (0 : Int)))) v6
 else
  Option.bind (some ((cond false true (decide ((64 : Int) < (((List.length table2) : Nat) : Int)))))) fun (v5 : Bool) =>
  bif v5 then
   some (((0 : Int), (1 : Int)))
  else
   Option.bind (bitp_Permute_L4_R N ((x0, (width1, (table2, (table2, ((((List.length table2) : Nat) : Int), ((0 : Int), ())))))), ())) fun v6 =>
   Sum.elim
    (fun (v7 : ((Int × (Int × Unit)) × Unit)) =>
    some ((v7.1.1, v7.1.2.1)))
    (fun (v7 : ((Int × (Int × ((List Int) × Unit))) × Unit)) =>
    Option.bind (bitp_Permute_10_bitp_named_L1_R N ((v7.1.1, (v7.1.2.1, (v7.1.2.2.1, ((((List.length v7.1.2.2.1) : Nat) : Int), ((0 : Int), ()))))), ((0 : Int), ()))) fun v8 =>
    some ((v8.2.1, (0 : Int)))) v6
theorem bitp_Permute_S (x0 : Int) (width1 : Int) (table2 : List (Int)) : (runK Tryz.prog (Ev143 N) 400 163 [(.int .u64), (.int .i64), (.sl (.int .i64))] [(.int .u64), (.int .i64)] (x0, width1, table2, ())).run = bitp_Permute N x0 width1 table2 := by kernel_rfl
noncomputable def Ev144 : (R : Type) → Env R := Env.addFn (Ev143 N) 163 (fun R => fnK [(.int .u64), (.int .i64), (.sl (.int .i64))] [(.int .u64), (.int .i64)] (fun c => bitp_Permute N c.1 c.2.1 c.2.2.1))
theorem Ev144_ok (R : Type) : EnvOK Tryz.prog (Ev144 N R) := EnvOK.addFn hmx (Ev143_ok N R) (Ev143_ok N _) (by kernel_rfl) (fun c => bitp_Permute_S N c.1 c.2.1 c.2.2.1)
noncomputable def des_permuted (x0 : Int) (width1 : Int) (table2 : List (Int)) : Option Int :=
 Option.bind (bitp_Permute N x0 width1 table2) fun v4 =>
 some (v4.1)
theorem des_permuted_S (x0 : Int) (width1 : Int) (table2 : List (Int)) : (runK Tryz.prog (Ev144 N) 400 125 [(.int .u64), (.int .i64), (.sl (.int .i64))] [(.int .u64)] (x0, width1, table2, ())).run = des_permuted N x0 width1 table2 := by kernel_rfl
noncomputable def Ev145 : (R : Type) → Env R := Env.addFn (Ev144 N) 125 (fun R => fnK [(.int .u64), (.int .i64), (.sl (.int .i64))] [(.int .u64)] (fun c => des_permuted N c.1 c.2.1 c.2.2.1))
theorem Ev145_ok (R : Type) : EnvOK Tryz.prog (Ev145 N R) := EnvOK.addFn hmx (Ev144_ok N R) (Ev144_ok N _) (by kernel_rfl) (fun c => des_permuted_S N c.1 c.2.1 c.2.2.1)
noncomputable def bitp_low (N : Nat) (x0 : Int) (many1 : Int) : Option Int :=
 bif (decide ((0 : Int) ≤ many1)) then
  some ((bits .and .u64 x0 (IntKind.wrap .u64 ((IntKind.wrap .u64 ((1 : Int) * ((2 : Int) ^ (min (Int.toNat many1) (IntKind.bits .u64))))) - 1))))
 else
  none
theorem bitp_low_S (x0 : Int) (many1 : Int) : (runK Tryz.prog (Ev145 N) 400 167 [(.int .u64), (.int .i64)] [(.int .u64)] (x0, many1, ())).run = bitp_low N x0 many1 := by kernel_rfl
noncomputable def Ev146 : (R : Type) → Env R := Env.addFn (Ev145 N) 167 (fun R => fnK [(.int .u64), (.int .i64)] [(.int .u64)] (fun c => bitp_low N c.1 c.2.1))
theorem Ev146_ok (R : Type) : EnvOK Tryz.prog (Ev146 N R) := EnvOK.addFn hmx (Ev145_ok N R) (Ev145_ok N _) (by kernel_rfl) (fun c => bitp_low_S N c.1 c.2.1)
noncomputable def bitp_Split (x0 : Int) (width1 : Int) (x2 : Int) : Option (Int × Int × Int) :=
 Option.bind (bitp_may N width1) fun v4 =>
 Option.bind (bif (!v4) then
   some (true)
  else
   some ((cond false true (decide (x2 < (0 : Int)))))) fun (v5 : Bool) =>
 Option.bind (bif v5 then
   some (true)
  else
   some ((cond false true (decide (width1 < x2))))) fun (v6 : Bool) =>
 bif v6 then
  some (((0 : Int), ((0 : Int), (1 : Int))))
 else
  Option.bind (bitp_low N x0 width1) fun v7 =>
  bif (decide ((0 : Int) ≤ (IntKind.wrap .i64 (width1 - x2)))) then
   Option.bind (bitp_low N v7 (IntKind.wrap .i64 (width1 - x2))) fun v8 =>
   some (((@Int.fdiv v7 ((2 : Int) ^ (min (Int.toNat (IntKind.wrap .i64 (width1 - x2))) (IntKind.bits .u64)))), (v8, (0 : Int))))
  else
   none
theorem bitp_Split_S (x0 : Int) (width1 : Int) (x2 : Int) : (runK Tryz.prog (Ev146 N) 400 129 [(.int .u64), (.int .i64), (.int .i64)] [(.int .u64), (.int .u64), (.int .i64)] (x0, width1, x2, ())).run = bitp_Split N x0 width1 x2 := by kernel_rfl
noncomputable def Ev147 : (R : Type) → Env R := Env.addFn (Ev146 N) 129 (fun R => fnK [(.int .u64), (.int .i64), (.int .i64)] [(.int .u64), (.int .u64), (.int .i64)] (fun c => bitp_Split N c.1 c.2.1 c.2.2.1))
theorem Ev147_ok (R : Type) : EnvOK Tryz.prog (Ev147 N R) := EnvOK.addFn hmx (Ev146_ok N R) (Ev146_ok N _) (by kernel_rfl) (fun c => bitp_Split_S N c.1 c.2.1 c.2.2.1)
noncomputable def des_ofRounds (N : Nat) : Option (List Int) :=
 some ((((([14, 17, 11, 24, 1, 5, 3, 28, 15, 6, 21, 10] : List Int) ++ ([23, 19, 12, 4, 26, 8, 16, 7, 27, 20, 13, 2] : List Int)) ++ ([41, 52, 31, 37, 47, 55, 30, 40, 51, 45, 33, 48] : List Int)) ++ ([44, 49, 39, 56, 34, 53, 46, 42, 50, 36, 29, 32] : List Int)))
theorem des_ofRounds_S : (runK Tryz.prog (Ev147 N) 400 131 [] [(.sl (.int .i64))] ()).run = des_ofRounds N  := by kernel_rfl
noncomputable def Ev148 : (R : Type) → Env R := Env.addFn (Ev147 N) 131 (fun R => fnK [] [(.sl (.int .i64))] (fun c => des_ofRounds N ))
theorem Ev148_ok (R : Type) : EnvOK Tryz.prog (Ev148 N R) := EnvOK.addFn hmx (Ev147_ok N R) (Ev147_ok N _) (by kernel_rfl) (fun c => des_ofRounds_S N )
noncomputable def des_turned_L3_I : LI := ⟨23, 0, [], ⟨[(0, .ty (.int .u64)), (1, .ty (.int .i64)), (5, .ty (.int .i64)), (8, .ty (.arr 4 (.int .i64))), (9, .ty (.int .i64))], []⟩, [(.exit 0, ⟨[(0, .ty (.int .u64)), (5, .ty (.int .i64))], []⟩)]⟩
noncomputable def des_turned_L3 (N : Nat) (X : ((Int × (Int × (Int × ((Arr Int 4) × (Int × Unit))))) × Unit) → Option (((Int × (Int × Unit)) × Unit))) (half0 : Int) (round1 : Int) (x5 : Int) (x8 : Arr Int 4) (x9 : Int) : Option (((Int × (Int × Unit)) × Unit)) :=
 bif (decide (x9 < (4 : Int))) then
  Option.bind (getI x8.l x9) fun (v7 : Int) =>
  bif (decide (v7 = round1)) then
   (X ((half0, (round1, ((1 : Int), (x8, ((IntKind.wrap .i64 (x9 + 1)), ()))))), ()))
  else
   (X ((half0, (round1, (x5, (x8, ((IntKind.wrap .i64 (x9 + 1)), ()))))), ()))
 else
  some (((half0, (x5, ())), ()))
noncomputable def des_turned_L3_R (c : ((Int × (Int × (Int × ((Arr Int 4) × (Int × Unit))))) × Unit)) : Option (((Int × (Int × Unit)) × Unit)) := gl (fun X c => des_turned_L3 N X c.1.1 c.1.2.1 c.1.2.2.1 c.1.2.2.2.1 c.1.2.2.2.2.1) N c
theorem des_turned_L3_S (X : ((Int × (Int × (Int × ((Arr Int 4) × (Int × Unit))))) × Unit) → Option (((Int × (Int × Unit)) × Unit))) (half0 : Int) (round1 : Int) (x5 : Int) (x8 : Arr Int 4) (x9 : Int) : (roundK Tryz.prog (Ev148 N) 400 [132] des_turned_L3_I (loopAt Tryz.prog [132] 3) X ((half0, round1, x5, x8, x9, ()), ())).run = des_turned_L3 N X half0 round1 x5 x8 x9 := by kernel_rfl
noncomputable def Ev149 : (R : Type) → Env R := Env.addLp (Ev148 N) [132] 0 3 (fun R => lpK Tryz.prog des_turned_L3_I (fun X c => des_turned_L3 N X c.1.1 c.1.2.1 c.1.2.2.1 c.1.2.2.2.1 c.1.2.2.2.2.1) N)
theorem Ev149_ok (R : Type) : EnvOK Tryz.prog (Ev149 N R) := EnvOK.addLp (Ev148_ok N R) (by kernel_rfl) (lpK_ok (li := des_turned_L3_I) (G := fun X c => des_turned_L3 N X c.1.1 c.1.2.1 c.1.2.2.1 c.1.2.2.2.1 c.1.2.2.2.2.1) hmx (Ev148_ok N _) (by kernel_rfl) loopAt_sub (fun (X : CT des_turned_L3_I.sh → Option (OT des_turned_L3_I.outs)) (c : CT des_turned_L3_I.sh) => des_turned_L3_S N X c.1.1 c.1.2.1 c.1.2.2.1 c.1.2.2.2.1 c.1.2.2.2.2.1) N)
noncomputable def bitp_Turn (x0 : Int) (width1 : Int) (n2 : Int) : Option (Int × Int) :=
 Option.bind (bitp_may N width1) fun v4 =>
 bif (!v4) then
  some (((0 : Int), (1 : Int)))
 else
  bif (decide (width1 = (0 : Int))) then
   none
  else
   bif (decide ((@Int.tmod n2 width1) < (0 : Int))) then
    Option.bind (bitp_Split N x0 width1 (IntKind.wrap .i64 ((@Int.tmod n2 width1) + width1))) fun v5 =>
    bif (decide ((0 : Int) ≤ (IntKind.wrap .i64 ((@Int.tmod n2 width1) + width1)))) then
     some (((bits .or .u64 (IntKind.wrap .u64 (v5.2.1 * ((2 : Int) ^ (min (Int.toNat (IntKind.wrap .i64 ((@Int.tmod n2 width1) + width1))) (IntKind.bits .u64))))) v5.1), (0 : Int)))
    else
     none
   else
    Option.bind (bitp_Split N x0 width1 (@Int.tmod n2 width1)) fun v5 =>
    bif (decide ((0 : Int) ≤ (@Int.tmod n2 width1))) then
     some (((bits .or .u64 (IntKind.wrap .u64 (v5.2.1 * ((2 : Int) ^ (min (Int.toNat (@Int.tmod n2 width1)) (IntKind.bits .u64))))) v5.1), (0 : Int)))
    else
     none
theorem bitp_Turn_S (x0 : Int) (width1 : Int) (n2 : Int) : (runK Tryz.prog (Ev149 N) 400 168 [(.int .u64), (.int .i64), (.int .i64)] [(.int .u64), (.int .i64)] (x0, width1, n2, ())).run = bitp_Turn N x0 width1 n2 := by kernel_rfl
noncomputable def Ev150 : (R : Type) → Env R := Env.addFn (Ev149 N) 168 (fun R => fnK [(.int .u64), (.int .i64), (.int .i64)] [(.int .u64), (.int .i64)] (fun c => bitp_Turn N c.1 c.2.1 c.2.2.1))
theorem Ev150_ok (R : Type) : EnvOK Tryz.prog (Ev150 N R) := EnvOK.addFn hmx (Ev149_ok N R) (Ev149_ok N _) (by kernel_rfl) (fun c => bitp_Turn_S N c.1 c.2.1 c.2.2.1)
noncomputable def des_turned (half0 : Int) (round1 : Int) : Option Int :=
 Option.bind (des_turned_L3_R N ((half0, (round1, ((2 : Int), ((@Arr.mk Int (4 : Nat) ([1, 2, 9, 16] : List Int) @globVs._proof_7), ((0 : Int), ()))))), ())) fun v3 =>
 Option.bind (bitp_Turn N v3.1.1 (28 : Int) v3.1.2.1) fun v4 =>
 some (v4.1)
theorem des_turned_S (half0 : Int) (round1 : Int) : (runK Tryz.prog (Ev150 N) 400 132 [(.int .u64), (.int .i64)] [(.int .u64)] (half0, round1, ())).run = des_turned N half0 round1 := by kernel_rfl
noncomputable def Ev151 : (R : Type) → Env R := Env.addFn (Ev150 N) 132 (fun R => fnK [(.int .u64), (.int .i64)] [(.int .u64)] (fun c => des_turned N c.1 c.2.1))
theorem Ev151_ok (R : Type) : EnvOK Tryz.prog (Ev151 N R) := EnvOK.addFn hmx (Ev150_ok N R) (Ev150_ok N _) (by kernel_rfl) (fun c => des_turned_S N c.1 c.2.1)
noncomputable def des_Keys_L5_I : LI := ⟨39, 0, [], ⟨[(2, .lit (.box 0 0)), (3, .ty (.int .u64)), (4, .ty (.int .u64)), (6, .ty (.sl (.int .i64))), (7, .lit (.box 1 0)), (18, .ty (.int .i64))], [.box 131 (.arr 16 (.int .u64)), .box 131 (.arr 16 (.int .u64))]⟩, [(.exit 0, ⟨[(2, .lit (.box 0 0)), (7, .lit (.box 1 0))], [.box 131 (.arr 16 (.int .u64)), .box 131 (.arr 16 (.int .u64))]⟩)]⟩
noncomputable def des_Keys_L5 (X : ((Int × (Int × ((List Int) × (Int × Unit)))) × ((Arr Int 16) × ((Arr Int 16) × Unit))) → Option ((Unit × ((Arr Int 16) × ((Arr Int 16) × Unit))))) (left3 : Int) (right4 : Int) (table6 : List (Int)) (x18 : Int) (h0 : Arr Int 16) (h1 : Arr Int 16) : Option ((Unit × ((Arr Int 16) × ((Arr Int 16) × Unit)))) :=
 bif (decide (x18 < (16 : Int))) then
  Option.bind (des_turned N left3 (IntKind.wrap .i64 (x18 + 1))) fun v8 =>
  Option.bind (des_turned N right4 (IntKind.wrap .i64 (x18 + 1))) fun v9 =>
  Option.bind (des_permuted N (bits .or .u64 (IntKind.wrap .u64 (v8 * ((2 : Int) ^ (min (Int.toNat (28 : Int)) (IntKind.bits .u64))))) v9) (56 : Int) table6) fun v10 =>
  bif (decide ((0 : Int) ≤ x18 ∧ x18 < ((16 : Nat) : Int))) then
   Option.bind (h1.l[Int.toNat x18]?) fun (v11 : Int) =>
   (X ((v8, (v9, (table6, ((IntKind.wrap .i64 (x18 + 1)), ())))), (h0, ((h1.set (Int.toNat x18) v10), ()))))
  else
   none
 else
  some (((), (h0, (h1, ()))))
noncomputable def des_Keys_L5_R (c : ((Int × (Int × ((List Int) × (Int × Unit)))) × ((Arr Int 16) × ((Arr Int 16) × Unit)))) : Option ((Unit × ((Arr Int 16) × ((Arr Int 16) × Unit)))) := gl (fun X c => des_Keys_L5 N X c.1.1 c.1.2.1 c.1.2.2.1 c.1.2.2.2.1 c.2.1 c.2.2.1) N c
theorem des_Keys_L5_S (X : ((Int × (Int × ((List Int) × (Int × Unit)))) × ((Arr Int 16) × ((Arr Int 16) × Unit))) → Option ((Unit × ((Arr Int 16) × ((Arr Int 16) × Unit))))) (left3 : Int) (right4 : Int) (table6 : List (Int)) (x18 : Int) (h0 : Arr Int 16) (h1 : Arr Int 16) : (roundK Tryz.prog (Ev151 N) 400 [91] des_Keys_L5_I (loopAt Tryz.prog [91] 5) X ((left3, right4, table6, x18, ()), (h0, h1, ()))).run = des_Keys_L5 N X left3 right4 table6 x18 h0 h1 := by kernel_rfl
noncomputable def Ev152 : (R : Type) → Env R := Env.addLp (Ev151 N) [91] 0 5 (fun R => lpK Tryz.prog des_Keys_L5_I (fun X c => des_Keys_L5 N X c.1.1 c.1.2.1 c.1.2.2.1 c.1.2.2.2.1 c.2.1 c.2.2.1) N)
theorem Ev152_ok (R : Type) : EnvOK Tryz.prog (Ev152 N R) := EnvOK.addLp (Ev151_ok N R) (by kernel_rfl) (lpK_ok (li := des_Keys_L5_I) (G := fun X c => des_Keys_L5 N X c.1.1 c.1.2.1 c.1.2.2.1 c.1.2.2.2.1 c.2.1 c.2.2.1) hmx (Ev151_ok N _) (by kernel_rfl) loopAt_sub (fun (X : CT des_Keys_L5_I.sh → Option (OT des_Keys_L5_I.outs)) (c : CT des_Keys_L5_I.sh) => des_Keys_L5_S N X c.1.1 c.1.2.1 c.1.2.2.1 c.1.2.2.2.1 c.2.1 c.2.2.1) N)
noncomputable def des_Keys (key0 : Int) : Option (Arr Int 16) :=
 Option.bind (@des_ofKeys N) fun (v2 : (List Int)) =>
 Option.bind (des_permuted N key0 (64 : Int) v2) fun v3 =>
 Option.bind (des_Keys_L5_R N (((@Int.fdiv (bits .and .u64 v3 (IntKind.wrap .u64 ((IntKind.wrap .u64 ((1 : Int) * ((2 : Int) ^ (min (Int.toNat (56 : Int)) (IntKind.bits .u64))))) - 1))) ((2 : Int) ^ (min (Int.toNat (IntKind.wrap .i64 ((56 : Int) - 28))) (IntKind.bits .u64)))), ((bits .and .u64 (bits .and .u64 v3 (IntKind.wrap .u64 ((IntKind.wrap .u64 ((1 : Int) * ((2 : Int) ^ (min (Int.toNat (56 : Int)) (IntKind.bits .u64))))) - 1))) (IntKind.wrap .u64 ((IntKind.wrap .u64 ((1 : Int) * ((2 : Int) ^ (min (Int.toNat (IntKind.wrap .i64 ((56 : Int) - 28))) (IntKind.bits .u64))))) - 1))), ((((([14, 17, 11, 24, 1, 5, 3, 28, 15, 6, 21, 10] : List Int) ++ ([23, 19, 12, 4, 26, 8, 16, 7, 27, 20, 13, 2] : List Int)) ++ ([41, 52, 31, 37, 47, 55, 30, 40, 51, 45, 33, 48] : List Int)) ++ ([44, 49, 39, 56, 34, 53, 46, 42, 50, 36, 29, 32] : List Int)), ((0 : Int), ())))), ((@Arr.cons Int 15 0 (@Arr.cons Int 14 0 (@Arr.cons Int 13 0 (@Arr.cons Int 12 0 (@Arr.cons Int 11 0 (@Arr.cons Int 10 0 (@Arr.cons Int 9 0 (@Arr.cons Int 8 0 (@Arr.cons Int 7 0 (@Arr.cons Int 6 0 (@Arr.cons Int 5 0 (@Arr.cons Int 4 0 (@Arr.cons Int 3 0 (@Arr.cons Int 2 0 (@Arr.cons Int 1 0 (@Arr.cons Int 0 0 (@Arr.nil Int))))))))))))))))), ((@Arr.cons Int 15 0 (@Arr.cons Int 14 0 (@Arr.cons Int 13 0 (@Arr.cons Int 12 0 (@Arr.cons Int 11 0 (@Arr.cons Int 10 0 (@Arr.cons Int 9 0 (@Arr.cons Int 8 0 (@Arr.cons Int 7 0 (@Arr.cons Int 6 0 (@Arr.cons Int 5 0 (@Arr.cons Int 4 0 (@Arr.cons Int 3 0 (@Arr.cons Int 2 0 (@Arr.cons Int 1 0 (@Arr.cons Int 0 0 (@Arr.nil Int))))))))))))))))), ())))) fun v4 =>
 some (v4.2.2.1)
theorem des_Keys_S (key0 : Int) : (runK Tryz.prog (Ev152 N) 400 91 [(.int .u64)] [(.arr 16 (.int .u64))] (key0, ())).run = des_Keys N key0 := by kernel_rfl
noncomputable def Ev153 : (R : Type) → Env R := Env.addFn (Ev152 N) 91 (fun R => fnK [(.int .u64)] [(.arr 16 (.int .u64))] (fun c => des_Keys N c.1))
theorem Ev153_ok (R : Type) : EnvOK Tryz.prog (Ev153 N R) := EnvOK.addFn hmx (Ev152_ok N R) (Ev152_ok N _) (by kernel_rfl) (fun c => des_Keys_S N c.1)
noncomputable def Ev154 : (R : Type) → Env R := Env.addBx (Ev153 N) [(90, 0)]
theorem Ev154_ok (R : Type) : EnvOK Tryz.prog (Ev154 N R) := EnvOK.addBx (Ev153_ok N R) [(90, 0)]
noncomputable def Ev155 : (R : Type) → Env R := Env.addMv (Ev154 N) [(123, 8)]
theorem Ev155_ok (R : Type) : EnvOK Tryz.prog (Ev155 N R) := EnvOK.addMv (Ev154_ok N R) [(123, 8)]
noncomputable def des_wide_L6_I : LI := ⟨24, 0, [], ⟨[(1, .lit (.own 0)), (2, .ty (.int .i64)), (4, .ty (.int .i64)), (7, .ty (.int .i64))], [.own (.int .i64) 3]⟩, [(.exit 2, ⟨[(1, .lit (.own 0)), (4, .ty (.int .i64))], [.own (.int .i64) 3]⟩)]⟩
noncomputable def des_wide_L6 (N : Nat) (X : ((Int × (Int × (Int × Unit))) × ((List Int) × Unit)) → Option (((Int × Unit) × ((List Int) × Unit)))) (row2 : Int) (x4 : Int) (x7 : Int) (h0 : List (Int)) : Option (((Int × Unit) × ((List Int) × Unit))) :=
 bif (decide (x7 < (6 : Int))) then
  bif (roomB ((List.length h0) + (List.length ([(IntKind.wrap .i64 ((@Int.tmod (IntKind.wrap .i64 ((IntKind.wrap .i64 ((IntKind.wrap .i64 ((IntKind.wrap .i64 ((4 : Int) * row2)) + x7)) + 32)) - 1)) (32 : Int)) + 1))] : List (Int)))) 8) then
   (X ((row2, (x4, ((IntKind.wrap .i64 (x7 + 1)), ()))), ((h0 ++ ([(IntKind.wrap .i64 ((@Int.tmod (IntKind.wrap .i64 ((IntKind.wrap .i64 ((IntKind.wrap .i64 ((IntKind.wrap .i64 ((4 : Int) * row2)) + x7)) + 32)) - 1)) (32 : Int)) + 1))] : List (Int))), ())))
  else
   none
 else
  some (((x4, ()), (h0, ())))
noncomputable def des_wide_L6_R (c : ((Int × (Int × (Int × Unit))) × ((List Int) × Unit))) : Option (((Int × Unit) × ((List Int) × Unit))) := gl (fun X c => des_wide_L6 N X c.1.1 c.1.2.1 c.1.2.2.1 c.2.1) N c
theorem des_wide_L6_S (X : ((Int × (Int × (Int × Unit))) × ((List Int) × Unit)) → Option (((Int × Unit) × ((List Int) × Unit)))) (row2 : Int) (x4 : Int) (x7 : Int) (h0 : List (Int)) : (roundK Tryz.prog (Ev155 N) 400 [123] des_wide_L6_I (loopAt Tryz.prog [123] 6) X ((row2, x4, x7, ()), (h0, ()))).run = des_wide_L6 N X row2 x4 x7 h0 := by kernel_rfl
noncomputable def Ev156 : (R : Type) → Env R := Env.addLp (Ev155 N) [123] 0 6 (fun R => lpK Tryz.prog des_wide_L6_I (fun X c => des_wide_L6 N X c.1.1 c.1.2.1 c.1.2.2.1 c.2.1) N)
theorem Ev156_ok (R : Type) : EnvOK Tryz.prog (Ev156 N R) := EnvOK.addLp (Ev155_ok N R) (by kernel_rfl) (lpK_ok (li := des_wide_L6_I) (G := fun X c => des_wide_L6 N X c.1.1 c.1.2.1 c.1.2.2.1 c.2.1) hmx (Ev155_ok N _) (by kernel_rfl) loopAt_sub (fun (X : CT des_wide_L6_I.sh → Option (OT des_wide_L6_I.outs)) (c : CT des_wide_L6_I.sh) => des_wide_L6_S N X c.1.1 c.1.2.1 c.1.2.2.1 c.2.1) N)
noncomputable def des_wide_L3_I : LI := ⟨24, 0, [(1, 3)], ⟨[(1, .lit (.own 0)), (4, .ty (.int .i64))], [.own (.int .i64) 3]⟩, [(.exit 0, ⟨[(1, .lit (.own 0))], [.own (.int .i64) 3]⟩)]⟩
noncomputable def des_wide_L3 (X : ((Int × Unit) × ((List Int) × Unit)) → Option ((Unit × ((List Int) × Unit)))) (x4 : Int) (h0 : List (Int)) : Option ((Unit × ((List Int) × Unit))) :=
 bif (decide (x4 < (8 : Int))) then
  Option.bind (des_wide_L6_R N ((x4, (x4, ((0 : Int), ()))), (h0, ()))) fun v4 =>
  (X (((IntKind.wrap .i64 (v4.1.1 + 1)), ()), (v4.2.1, ())))
 else
  some (((), (h0, ())))
noncomputable def des_wide_L3_R (c : ((Int × Unit) × ((List Int) × Unit))) : Option ((Unit × ((List Int) × Unit))) := gl (fun X c => des_wide_L3 N X c.1.1 c.2.1) N c
theorem des_wide_L3_S (X : ((Int × Unit) × ((List Int) × Unit)) → Option ((Unit × ((List Int) × Unit)))) (x4 : Int) (h0 : List (Int)) : (roundK Tryz.prog (Ev156 N) 400 [123] des_wide_L3_I (loopAt Tryz.prog [123] 3) X ((x4, ()), (h0, ()))).run = des_wide_L3 N X x4 h0 := by kernel_rfl
noncomputable def Ev157 : (R : Type) → Env R := Env.addLp (Ev156 N) [123] 0 3 (fun R => lpK Tryz.prog des_wide_L3_I (fun X c => des_wide_L3 N X c.1.1 c.2.1) N)
theorem Ev157_ok (R : Type) : EnvOK Tryz.prog (Ev157 N R) := EnvOK.addLp (Ev156_ok N R) (by kernel_rfl) (lpK_ok (li := des_wide_L3_I) (G := fun X c => des_wide_L3 N X c.1.1 c.2.1) hmx (Ev156_ok N _) (by kernel_rfl) loopAt_sub (fun (X : CT des_wide_L3_I.sh → Option (OT des_wide_L3_I.outs)) (c : CT des_wide_L3_I.sh) => des_wide_L3_S N X c.1.1 c.2.1) N)
noncomputable def des_wide : Option (List Int) :=
 Option.bind (des_wide_L3_R N (((0 : Int), ()), (([] : List Int), ()))) fun v1 =>
 some (v1.2.1)
theorem des_wide_S : (runK Tryz.prog (Ev157 N) 400 123 [] [(.sl (.int .i64))] ()).run = des_wide N  := by kernel_rfl
noncomputable def Ev158 : (R : Type) → Env R := Env.addFn (Ev157 N) 123 (fun R => fnK [] [(.sl (.int .i64))] (fun c => des_wide N ))
theorem Ev158_ok (R : Type) : EnvOK Tryz.prog (Ev158 N R) := EnvOK.addFn hmx (Ev157_ok N R) (Ev157_ok N _) (by kernel_rfl) (fun c => des_wide_S N )
noncomputable def des_mixing (N : Nat) : Option (List Int) :=
 some ((((([16, 7, 20, 21, 29, 12, 28, 17] : List Int) ++ ([1, 15, 23, 26, 5, 18, 31, 10] : List Int)) ++ ([2, 8, 24, 14, 32, 27, 3, 9] : List Int)) ++ ([19, 13, 30, 6, 22, 11, 4, 25] : List Int)))
theorem des_mixing_S : (runK Tryz.prog (Ev158 N) 400 124 [] [(.sl (.int .i64))] ()).run = des_mixing N  := by kernel_rfl
noncomputable def Ev159 : (R : Type) → Env R := Env.addFn (Ev158 N) 124 (fun R => fnK [] [(.sl (.int .i64))] (fun c => des_mixing N ))
theorem Ev159_ok (R : Type) : EnvOK Tryz.prog (Ev159 N R) := EnvOK.addFn hmx (Ev158_ok N R) (Ev158_ok N _) (by kernel_rfl) (fun c => des_mixing_S N )
noncomputable def Ev160 : (R : Type) → Env R := Env.addMv (Ev159 N) [(126, 5)]
theorem Ev160_ok (R : Type) : EnvOK Tryz.prog (Ev160 N R) := EnvOK.addMv (Ev159_ok N R) [(126, 5)]
noncomputable def des_first_5_des_falling_L2_I : LI := ⟨21, 1, [(0, 3)], ⟨[(0, .lit (.own 1)), (1, .ty (.int .i64)), (8, .ty (.int .i64)), (9, .ty (.int .i64))], [.dead, .own (.int .i64) 3]⟩, [(.exit 0, ⟨[(0, .lit (.own 1))], [.dead, .own (.int .i64) 3]⟩)]⟩
noncomputable def des_first_5_des_falling_L2 (N : Nat) (X : ((Int × (Int × (Int × Unit))) × ((List Int) × Unit)) → Option ((Unit × ((List Int) × Unit)))) (x1 : Int) (x8 : Int) (x9 : Int) (h0 : List (Int)) : Option ((Unit × ((List Int) × Unit))) :=
 bif (decide (x9 < x8)) then
  bif (roomB ((List.length h0) + (List.length ([(IntKind.wrap .i64 (x1 - (IntKind.wrap .i64 ((8 : Int) * x9))))] : List (Int)))) 8) then
   (X ((x1, (x8, ((IntKind.wrap .i64 (x9 + 1)), ()))), ((h0 ++ ([(IntKind.wrap .i64 (x1 - (IntKind.wrap .i64 ((8 : Int) * x9))))] : List (Int))), ())))
  else
   none
 else
  some (((), (h0, ())))
noncomputable def des_first_5_des_falling_L2_R (c : ((Int × (Int × (Int × Unit))) × ((List Int) × Unit))) : Option ((Unit × ((List Int) × Unit))) := gl (fun X c => des_first_5_des_falling_L2 N X c.1.1 c.1.2.1 c.1.2.2.1 c.2.1) N c
theorem des_first_5_des_falling_L2_S (X : ((Int × (Int × (Int × Unit))) × ((List Int) × Unit)) → Option ((Unit × ((List Int) × Unit)))) (x1 : Int) (x8 : Int) (x9 : Int) (h0 : List (Int)) : (roundK Tryz.prog (Ev160 N) 400 [164, 5, 126] des_first_5_des_falling_L2_I (loopAt Tryz.prog [164, 5, 126] 2) X ((x1, x8, x9, ()), (h0, ()))).run = des_first_5_des_falling_L2 N X x1 x8 x9 h0 := by kernel_rfl
noncomputable def Ev161 : (R : Type) → Env R := Env.addLp (Ev160 N) [164, 5, 126] 1 2 (fun R => lpK Tryz.prog des_first_5_des_falling_L2_I (fun X c => des_first_5_des_falling_L2 N X c.1.1 c.1.2.1 c.1.2.2.1 c.2.1) N)
theorem Ev161_ok (R : Type) : EnvOK Tryz.prog (Ev161 N R) := EnvOK.addLp (Ev160_ok N R) (by kernel_rfl) (lpK_ok (li := des_first_5_des_falling_L2_I) (G := fun X c => des_first_5_des_falling_L2 N X c.1.1 c.1.2.1 c.1.2.2.1 c.2.1) hmx (Ev160_ok N _) (by kernel_rfl) loopAt_sub (fun (X : CT des_first_5_des_falling_L2_I.sh → Option (OT des_first_5_des_falling_L2_I.outs)) (c : CT des_first_5_des_falling_L2_I.sh) => des_first_5_des_falling_L2_S N X c.1.1 c.1.2.1 c.1.2.2.1 c.2.1) N)
noncomputable def des_first_L3_I : LI := ⟨13, 0, [(1, 3)], ⟨[(1, .lit (.own 0)), (4, .ty (.arr 8 (.int .i64))), (5, .ty (.int .i64))], [.own (.int .i64) 3]⟩, [(.exit 0, ⟨[(1, .lit (.own 0))], [.own (.int .i64) 3]⟩)]⟩
noncomputable def des_first_L3 (X : (((Arr Int 8) × (Int × Unit)) × ((List Int) × Unit)) → Option ((Unit × ((List Int) × Unit)))) (x4 : Arr Int 8) (x5 : Int) (h0 : List (Int)) : Option ((Unit × ((List Int) × Unit))) :=
 bif (decide (x5 < (8 : Int))) then
  Option.bind (getI x4.l x5) fun (v5 : Int) =>
  Option.bind (des_first_5_des_falling_L2_R N ((v5, ((8 : Int), ((0 : Int), ()))), (h0, ()))) fun v6 =>
  (X ((x4, ((IntKind.wrap .i64 (x5 + 1)), ())), (v6.2.1, ())))
 else
  some (((), (h0, ())))
noncomputable def des_first_L3_R (c : (((Arr Int 8) × (Int × Unit)) × ((List Int) × Unit))) : Option ((Unit × ((List Int) × Unit))) := gl (fun X c => des_first_L3 N X c.1.1 c.1.2.1 c.2.1) N c
theorem des_first_L3_S (X : (((Arr Int 8) × (Int × Unit)) × ((List Int) × Unit)) → Option ((Unit × ((List Int) × Unit)))) (x4 : Arr Int 8) (x5 : Int) (h0 : List (Int)) : (roundK Tryz.prog (Ev161 N) 400 [126] des_first_L3_I (loopAt Tryz.prog [126] 3) X ((x4, x5, ()), (h0, ()))).run = des_first_L3 N X x4 x5 h0 := by kernel_rfl
noncomputable def Ev162 : (R : Type) → Env R := Env.addLp (Ev161 N) [126] 0 3 (fun R => lpK Tryz.prog des_first_L3_I (fun X c => des_first_L3 N X c.1.1 c.1.2.1 c.2.1) N)
theorem Ev162_ok (R : Type) : EnvOK Tryz.prog (Ev162 N R) := EnvOK.addLp (Ev161_ok N R) (by kernel_rfl) (lpK_ok (li := des_first_L3_I) (G := fun X c => des_first_L3 N X c.1.1 c.1.2.1 c.2.1) hmx (Ev161_ok N _) (by kernel_rfl) loopAt_sub (fun (X : CT des_first_L3_I.sh → Option (OT des_first_L3_I.outs)) (c : CT des_first_L3_I.sh) => des_first_L3_S N X c.1.1 c.1.2.1 c.2.1) N)
noncomputable def des_first : Option (List Int) :=
 Option.bind (des_first_L3_R N (((@Arr.cons Int 7 58 (@Arr.cons Int 6 60 (@Arr.cons Int 5 62 (@Arr.cons Int 4 64 (@Arr.cons Int 3 57 (@Arr.cons Int 2 59 (@Arr.cons Int 1 61 (@Arr.cons Int 0 63 (@Arr.nil Int))))))))), ((0 : Int), ())), (([] : List Int), ()))) fun v1 =>
 some (v1.2.1)
theorem des_first_S : (runK Tryz.prog (Ev162 N) 400 126 [] [(.sl (.int .i64))] ()).run = des_first N  := by kernel_rfl
noncomputable def Ev163 : (R : Type) → Env R := Env.addFn (Ev162 N) 126 (fun R => fnK [] [(.sl (.int .i64))] (fun c => des_first N ))
theorem Ev163_ok (R : Type) : EnvOK Tryz.prog (Ev163 N R) := EnvOK.addFn hmx (Ev162_ok N R) (Ev162_ok N _) (by kernel_rfl) (fun c => des_first_S N )
noncomputable def des_word_L4_I : LI := ⟨36, 0, [], ⟨[(3, .ty (.sl (.int .i64))), (9, .ty (.int .u64)), (10, .ty (.int .u64)), (11, .ty (.int .i64))], []⟩, [(.exit 0, ⟨[(3, .ty (.sl (.int .i64))), (10, .ty (.int .u64))], []⟩)]⟩
noncomputable def des_word_L4 (X : (((List Int) × (Int × (Int × (Int × Unit)))) × Unit) → Option ((((List Int) × (Int × Unit)) × Unit))) (mix3 : List (Int)) (six9 : Int) (digits10 : Int) (n11 : Int) : Option ((((List Int) × (Int × Unit)) × Unit)) :=
 bif (decide (n11 ≤ (8 : Int))) then
  bif (decide ((0 : Int) ≤ (IntKind.wrap .i64 ((48 : Int) - (IntKind.wrap .i64 ((6 : Int) * n11)))))) then
   Option.bind (des_Box N n11 (@Int.fdiv six9 ((2 : Int) ^ (min (Int.toNat (IntKind.wrap .i64 ((48 : Int) - (IntKind.wrap .i64 ((6 : Int) * n11))))) (IntKind.bits .u64))))) fun v6 =>
   (X ((mix3, (six9, ((bits .or .u64 (IntKind.wrap .u64 (digits10 * ((2 : Int) ^ (min (Int.toNat (4 : Int)) (IntKind.bits .u64))))) v6), ((IntKind.wrap .i64 (n11 + 1)), ())))), ()))
  else
   none
 else
  some (((mix3, (digits10, ())), ()))
noncomputable def des_word_L4_R (c : (((List Int) × (Int × (Int × (Int × Unit)))) × Unit)) : Option ((((List Int) × (Int × Unit)) × Unit)) := gl (fun X c => des_word_L4 N X c.1.1 c.1.2.1 c.1.2.2.1 c.1.2.2.2.1) N c
theorem des_word_L4_S (X : (((List Int) × (Int × (Int × (Int × Unit)))) × Unit) → Option ((((List Int) × (Int × Unit)) × Unit))) (mix3 : List (Int)) (six9 : Int) (digits10 : Int) (n11 : Int) : (roundK Tryz.prog (Ev163 N) 400 [127] des_word_L4_I (loopAt Tryz.prog [127] 4) X ((mix3, six9, digits10, n11, ()), ())).run = des_word_L4 N X mix3 six9 digits10 n11 := by kernel_rfl
noncomputable def Ev164 : (R : Type) → Env R := Env.addLp (Ev163 N) [127] 0 4 (fun R => lpK Tryz.prog des_word_L4_I (fun X c => des_word_L4 N X c.1.1 c.1.2.1 c.1.2.2.1 c.1.2.2.2.1) N)
theorem Ev164_ok (R : Type) : EnvOK Tryz.prog (Ev164 N R) := EnvOK.addLp (Ev163_ok N R) (by kernel_rfl) (lpK_ok (li := des_word_L4_I) (G := fun X c => des_word_L4 N X c.1.1 c.1.2.1 c.1.2.2.1 c.1.2.2.2.1) hmx (Ev163_ok N _) (by kernel_rfl) loopAt_sub (fun (X : CT des_word_L4_I.sh → Option (OT des_word_L4_I.outs)) (c : CT des_word_L4_I.sh) => des_word_L4_S N X c.1.1 c.1.2.1 c.1.2.2.1 c.1.2.2.2.1) N)
noncomputable def des_word (half0 : Int) (key1 : Int) (widen2 : List (Int)) (mix3 : List (Int)) : Option Int :=
 Option.bind (des_permuted N (IntKind.wrap .u64 half0) (32 : Int) widen2) fun v5 =>
 Option.bind (des_word_L4_R N ((mix3, ((bits .xor .u64 v5 key1), ((0 : Int), ((1 : Int), ())))), ())) fun v6 =>
 Option.bind (des_permuted N v6.1.2.1 (32 : Int) v6.1.1) fun v7 =>
 some ((IntKind.wrap .u32 v7))
theorem des_word_S (half0 : Int) (key1 : Int) (widen2 : List (Int)) (mix3 : List (Int)) : (runK Tryz.prog (Ev164 N) 400 127 [(.int .u32), (.int .u64), (.sl (.int .i64)), (.sl (.int .i64))] [(.int .u32)] (half0, key1, widen2, mix3, ())).run = des_word N half0 key1 widen2 mix3 := by kernel_rfl
noncomputable def Ev165 : (R : Type) → Env R := Env.addFn (Ev164 N) 127 (fun R => fnK [(.int .u32), (.int .u64), (.sl (.int .i64)), (.sl (.int .i64))] [(.int .u32)] (fun c => des_word N c.1 c.2.1 c.2.2.1 c.2.2.2.1))
theorem Ev165_ok (R : Type) : EnvOK Tryz.prog (Ev165 N R) := EnvOK.addFn hmx (Ev164_ok N R) (Ev164_ok N _) (by kernel_rfl) (fun c => des_word_S N c.1 c.2.1 c.2.2.1 c.2.2.2.1)
noncomputable def des_through_L5_I : LI := ⟨43, 0, [], ⟨[(5, .ty (.sl (.int .i64))), (6, .ty (.sl (.int .i64))), (8, .ty (.int .u32)), (9, .ty (.int .u32)), (22, .ty (.arr 16 (.int .u64))), (23, .ty (.int .i64))], []⟩, [(.exit 0, ⟨[(8, .ty (.int .u32)), (9, .ty (.int .u32))], []⟩)]⟩
noncomputable def des_through_L5 (X : (((List Int) × ((List Int) × (Int × (Int × ((Arr Int 16) × (Int × Unit)))))) × Unit) → Option (((Int × (Int × Unit)) × Unit))) (widen5 : List (Int)) (mix6 : List (Int)) (left8 : Int) (right9 : Int) (x22 : Arr Int 16) (x23 : Int) : Option (((Int × (Int × Unit)) × Unit)) :=
 bif (decide (x23 < (16 : Int))) then
  Option.bind (getI x22.l x23) fun (v8 : Int) =>
  Option.bind (des_word N right9 v8 widen5 mix6) fun v9 =>
  (X ((widen5, (mix6, (right9, ((bits .xor .u32 left8 v9), (x22, ((IntKind.wrap .i64 (x23 + 1)), ())))))), ()))
 else
  some (((left8, (right9, ())), ()))
noncomputable def des_through_L5_R (c : (((List Int) × ((List Int) × (Int × (Int × ((Arr Int 16) × (Int × Unit)))))) × Unit)) : Option (((Int × (Int × Unit)) × Unit)) := gl (fun X c => des_through_L5 N X c.1.1 c.1.2.1 c.1.2.2.1 c.1.2.2.2.1 c.1.2.2.2.2.1 c.1.2.2.2.2.2.1) N c
theorem des_through_L5_S (X : (((List Int) × ((List Int) × (Int × (Int × ((Arr Int 16) × (Int × Unit)))))) × Unit) → Option (((Int × (Int × Unit)) × Unit))) (widen5 : List (Int)) (mix6 : List (Int)) (left8 : Int) (right9 : Int) (x22 : Arr Int 16) (x23 : Int) : (roundK Tryz.prog (Ev165 N) 400 [90] des_through_L5_I (loopAt Tryz.prog [90] 5) X ((widen5, mix6, left8, right9, x22, x23, ()), ())).run = des_through_L5 N X widen5 mix6 left8 right9 x22 x23 := by kernel_rfl
noncomputable def Ev166 : (R : Type) → Env R := Env.addLp (Ev165 N) [90] 0 5 (fun R => lpK Tryz.prog des_through_L5_I (fun X c => des_through_L5 N X c.1.1 c.1.2.1 c.1.2.2.1 c.1.2.2.2.1 c.1.2.2.2.2.1 c.1.2.2.2.2.2.1) N)
theorem Ev166_ok (R : Type) : EnvOK Tryz.prog (Ev166 N R) := EnvOK.addLp (Ev165_ok N R) (by kernel_rfl) (lpK_ok (li := des_through_L5_I) (G := fun X c => des_through_L5 N X c.1.1 c.1.2.1 c.1.2.2.1 c.1.2.2.2.1 c.1.2.2.2.2.1 c.1.2.2.2.2.2.1) hmx (Ev165_ok N _) (by kernel_rfl) loopAt_sub (fun (X : CT des_through_L5_I.sh → Option (OT des_through_L5_I.outs)) (c : CT des_through_L5_I.sh) => des_through_L5_S N X c.1.1 c.1.2.1 c.1.2.2.1 c.1.2.2.2.1 c.1.2.2.2.2.1 c.1.2.2.2.2.2.1) N)
noncomputable def des_last_L3_I : LI := ⟨20, 0, [], ⟨[(1, .lit (.own 0)), (5, .ty (.sl (.int .i64))), (6, .ty (.int .i64)), (7, .ty (.int .i64))], [.own (.int .i64) 3]⟩, [(.exit 0, ⟨[(1, .lit (.own 0))], [.own (.int .i64) 3]⟩)]⟩
noncomputable def des_last_L3 (N : Nat) (X : (((List Int) × (Int × (Int × Unit))) × ((List Int) × Unit)) → Option ((Unit × ((List Int) × Unit)))) (x5 : List (Int)) (x6 : Int) (x7 : Int) (h0 : List (Int)) : Option ((Unit × ((List Int) × Unit))) :=
 bif (decide (x7 < x6)) then
  Option.bind (getI x5 x7) fun (v6 : Int) =>
  bif (decide ((0 : Int) ≤ (IntKind.wrap .i64 (v6 - 1)) ∧ (IntKind.wrap .i64 (v6 - 1)) < (((List.length h0) : Nat) : Int))) then
   Option.bind (h0[Int.toNat (IntKind.wrap .i64 (v6 - 1))]?) fun (v7 : Int) =>
   (X ((x5, (x6, ((IntKind.wrap .i64 (x7 + 1)), ()))), ((@List.set Int h0 (Int.toNat (IntKind.wrap .i64 (v6 - 1))) (IntKind.wrap .i64 (x7 + 1))), ())))
  else
   none
 else
  some (((), (h0, ())))
noncomputable def des_last_L3_R (c : (((List Int) × (Int × (Int × Unit))) × ((List Int) × Unit))) : Option ((Unit × ((List Int) × Unit))) := gl (fun X c => des_last_L3 N X c.1.1 c.1.2.1 c.1.2.2.1 c.2.1) N c
theorem des_last_L3_S (X : (((List Int) × (Int × (Int × Unit))) × ((List Int) × Unit)) → Option ((Unit × ((List Int) × Unit)))) (x5 : List (Int)) (x6 : Int) (x7 : Int) (h0 : List (Int)) : (roundK Tryz.prog (Ev166 N) 400 [128] des_last_L3_I (loopAt Tryz.prog [128] 3) X ((x5, x6, x7, ()), (h0, ()))).run = des_last_L3 N X x5 x6 x7 h0 := by kernel_rfl
noncomputable def Ev167 : (R : Type) → Env R := Env.addLp (Ev166 N) [128] 0 3 (fun R => lpK Tryz.prog des_last_L3_I (fun X c => des_last_L3 N X c.1.1 c.1.2.1 c.1.2.2.1 c.2.1) N)
theorem Ev167_ok (R : Type) : EnvOK Tryz.prog (Ev167 N R) := EnvOK.addLp (Ev166_ok N R) (by kernel_rfl) (lpK_ok (li := des_last_L3_I) (G := fun X c => des_last_L3 N X c.1.1 c.1.2.1 c.1.2.2.1 c.2.1) hmx (Ev166_ok N _) (by kernel_rfl) loopAt_sub (fun (X : CT des_last_L3_I.sh → Option (OT des_last_L3_I.outs)) (c : CT des_last_L3_I.sh) => des_last_L3_S N X c.1.1 c.1.2.1 c.1.2.2.1 c.2.1) N)
noncomputable def des_last : Option (List Int) :=
 Option.bind (@des_first N) fun (v1 : (List Int)) =>
 Option.bind (des_last_L3_R N ((v1, ((((List.length v1) : Nat) : Int), ((0 : Int), ()))), ((@List.replicate Int (Int.toNat (64 : Int)) (0 : Int)), ()))) fun v2 =>
 some (v2.2.1)
theorem des_last_S : (runK Tryz.prog (Ev167 N) 400 128 [] [(.sl (.int .i64))] ()).run = des_last N  := by kernel_rfl
noncomputable def Ev168 : (R : Type) → Env R := Env.addFn (Ev167 N) 128 (fun R => fnK [] [(.sl (.int .i64))] (fun c => des_last N ))
theorem Ev168_ok (R : Type) : EnvOK Tryz.prog (Ev168 N R) := EnvOK.addFn hmx (Ev167_ok N R) (Ev167_ok N _) (by kernel_rfl) (fun c => des_last_S N )
noncomputable def des_through (keys0 : Arr Int 16) (block1 : Int) : Option Int :=
 Option.bind (@des_wide N) fun (v3 : (List Int)) =>
 Option.bind (@des_first N) fun (v4 : (List Int)) =>
 Option.bind (des_permuted N block1 (64 : Int) v4) fun v5 =>
 Option.bind (des_through_L5_R N ((v3, ((((([16, 7, 20, 21, 29, 12, 28, 17] : List Int) ++ ([1, 15, 23, 26, 5, 18, 31, 10] : List Int)) ++ ([2, 8, 24, 14, 32, 27, 3, 9] : List Int)) ++ ([19, 13, 30, 6, 22, 11, 4, 25] : List Int)), ((IntKind.wrap .u32 (@Int.fdiv v5 ((2 : Int) ^ (min (Int.toNat (32 : Int)) (IntKind.bits .u64))))), ((IntKind.wrap .u32 v5), (keys0, ((0 : Int), ())))))), ())) fun v6 =>
 Option.bind (@des_last N) fun (v7 : (List Int)) =>
 Option.bind (des_permuted N (bits .or .u64 (IntKind.wrap .u64 ((IntKind.wrap .u64 v6.1.2.1) * ((2 : Int) ^ (min (Int.toNat (32 : Int)) (IntKind.bits .u64))))) (IntKind.wrap .u64 v6.1.1)) (64 : Int) v7) fun v8 =>
 some (v8)
theorem des_through_S (keys0 : Arr Int 16) (block1 : Int) : (runK Tryz.prog (Ev168 N) 400 90 [(.arr 16 (.int .u64)), (.int .u64)] [(.int .u64)] (keys0, block1, ())).run = des_through N keys0 block1 := by kernel_rfl
noncomputable def Ev169 : (R : Type) → Env R := Env.addFn (Ev168 N) 90 (fun R => fnK [(.arr 16 (.int .u64)), (.int .u64)] [(.int .u64)] (fun c => des_through N c.1 c.2.1))
theorem Ev169_ok (R : Type) : EnvOK Tryz.prog (Ev169 N R) := EnvOK.addFn hmx (Ev168_ok N R) (Ev168_ok N _) (by kernel_rfl) (fun c => des_through_S N c.1 c.2.1)
noncomputable def des_Turn (key0 : Int) (block1 : Int) : Option Int :=
 Option.bind (des_Keys N key0) fun v3 =>
 Option.bind (des_through N v3 block1) fun v4 =>
 some (v4)
theorem des_Turn_S (key0 : Int) (block1 : Int) : (runK Tryz.prog (Ev169 N) 400 63 [(.int .u64), (.int .u64)] [(.int .u64)] (key0, block1, ())).run = des_Turn N key0 block1 := by kernel_rfl
noncomputable def Ev170 : (R : Type) → Env R := Env.addFn (Ev169 N) 63 (fun R => fnK [(.int .u64), (.int .u64)] [(.int .u64)] (fun c => des_Turn N c.1 c.2.1))
theorem Ev170_ok (R : Type) : EnvOK Tryz.prog (Ev170 N R) := EnvOK.addFn hmx (Ev169_ok N R) (Ev169_ok N _) (by kernel_rfl) (fun c => des_Turn_S N c.1 c.2.1)
noncomputable def bitp_Spread_3_bitp_gathered_5_bitp_each_L4_I : LI := ⟨28, 4, [], ⟨[(1, .ty (.int .i64)), (2, .lit (.clo 120 [.box 2 0, .box 3 0, .box 0 0, .box 1 0])), (7, .ty (.int .u8)), (9, .ty (.sl (.int .u8))), (10, .ty (.int .i64)), (11, .ty (.int .i64)), (15, .ty (.int .i64)), (16, .ty (.int .i64))], [.box 3 (.int .i64), .boxp 40 [.own 4], .box 5 (.int .u8), .box 3 (.int .i64), .own (.int .u8) 5]⟩, [(.exit 2, ⟨[(1, .ty (.int .i64)), (2, .lit (.clo 120 [.box 2 0, .box 3 0, .box 0 0, .box 1 0])), (9, .ty (.sl (.int .u8))), (10, .ty (.int .i64)), (11, .ty (.int .i64))], [.box 3 (.int .i64), .boxp 40 [.own 4], .box 5 (.int .u8), .box 3 (.int .i64), .own (.int .u8) 5]⟩)]⟩
end
end Go.Proofs.YtfeggmghkhejcaaGreatDoor
