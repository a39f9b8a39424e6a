/-
  Parts of my own, one behind the other: GCk, QK0, QK1, QK2, QKv.
-/
import Derived.Test.YtobcpglaeonklaaGreatDoorMrg8
import Derived.Test.YtobcpglaeonklaaGreatDoorMrg4
namespace Go.Proofs.YtobcpglaeonklaaGreatDoor
open Go.RowKit
set_option linter.unusedVariables false
set_option maxRecDepth 100000
section
variable (N : Nat)
noncomputable def des_wide_L6_I : LI := ⟨24, 0, [], ⟨[(1, .lit (.own 0)), (2, .ty (.int .i64)), (4, .ty (.int .i64)), (7, .ty (.int .i64))], [.own (.int .i64) 3]⟩, [(.exit 2, ⟨[(1, .lit (.own 0)), (4, .ty (.int .i64))], [.own (.int .i64) 3]⟩)]⟩
noncomputable def des_wide_L6 (N : Nat) (X : ((Int × (Int × (Int × Unit))) × ((List Int) × Unit)) → Option (((Int × Unit) × ((List Int) × Unit)))) (row2 : Int) (x4 : Int) (x7 : Int) (h0 : List (Int)) : Option (((Int × Unit) × ((List Int) × Unit))) :=
 bif (decide (x7 < (6 : Int))) then
  bif (roomB ((List.length h0) + (List.length ([(IntKind.wrap .i64 ((@Int.tmod (IntKind.wrap .i64 ((IntKind.wrap .i64 ((IntKind.wrap .i64 ((IntKind.wrap .i64 ((4 : Int) * row2)) + x7)) + 32)) - 1)) (32 : Int)) + 1))] : List (Int)))) 8) then
   (X ((row2, (x4, ((IntKind.wrap .i64 (x7 + 1)), ()))), ((h0 ++ ([(IntKind.wrap .i64 ((@Int.tmod (IntKind.wrap .i64 ((IntKind.wrap .i64 ((IntKind.wrap .i64 ((IntKind.wrap .i64 ((4 : Int) * row2)) + x7)) + 32)) - 1)) (32 : Int)) + 1))] : List (Int))), ())))
  else
   none
 else
  some (((x4, ()), (h0, ())))
noncomputable def des_wide_L6_R (c : ((Int × (Int × (Int × Unit))) × ((List Int) × Unit))) : Option (((Int × Unit) × ((List Int) × Unit))) := gl (fun X c => des_wide_L6 N X c.1.1 c.1.2.1 c.1.2.2.1 c.2.1) N c
theorem des_wide_L6_S (X : ((Int × (Int × (Int × Unit))) × ((List Int) × Unit)) → Option (((Int × Unit) × ((List Int) × Unit)))) (row2 : Int) (x4 : Int) (x7 : Int) (h0 : List (Int)) : (roundK Tryz.prog (Ev107 N) 400 [100] des_wide_L6_I (loopAt Tryz.prog [100] 6) X ((row2, x4, x7, ()), (h0, ()))).run = des_wide_L6 N X row2 x4 x7 h0 := by kernel_rfl
noncomputable def Ev108 : (R : Type) → Env R := Env.addLp (Ev107 N) [100] 0 6 (fun R => lpK Tryz.prog des_wide_L6_I (fun X c => des_wide_L6 N X c.1.1 c.1.2.1 c.1.2.2.1 c.2.1) N)
theorem Ev108_ok (R : Type) : EnvOK Tryz.prog (Ev108 N R) := EnvOK.addLp (Ev107_ok N R) (by kernel_rfl) (lpK_ok (li := des_wide_L6_I) (G := fun X c => des_wide_L6 N X c.1.1 c.1.2.1 c.1.2.2.1 c.2.1) hmx (Ev107_ok N _) (by kernel_rfl) loopAt_sub (fun (X : CT des_wide_L6_I.sh → Option (OT des_wide_L6_I.outs)) (c : CT des_wide_L6_I.sh) => des_wide_L6_S N X c.1.1 c.1.2.1 c.1.2.2.1 c.2.1) N)
noncomputable def des_wide_L3_I : LI := ⟨24, 0, [(1, 3)], ⟨[(1, .lit (.own 0)), (4, .ty (.int .i64))], [.own (.int .i64) 3]⟩, [(.exit 0, ⟨[(1, .lit (.own 0))], [.own (.int .i64) 3]⟩)]⟩
noncomputable def des_wide_L3 (X : ((Int × Unit) × ((List Int) × Unit)) → Option ((Unit × ((List Int) × Unit)))) (x4 : Int) (h0 : List (Int)) : Option ((Unit × ((List Int) × Unit))) :=
 bif (decide (x4 < (8 : Int))) then
  Option.bind (des_wide_L6_R N ((x4, (x4, ((0 : Int), ()))), (h0, ()))) fun v4 =>
  (X (((IntKind.wrap .i64 (v4.1.1 + 1)), ()), (v4.2.1, ())))
 else
  some (((), (h0, ())))
noncomputable def des_wide_L3_R (c : ((Int × Unit) × ((List Int) × Unit))) : Option ((Unit × ((List Int) × Unit))) := gl (fun X c => des_wide_L3 N X c.1.1 c.2.1) N c
theorem des_wide_L3_S (X : ((Int × Unit) × ((List Int) × Unit)) → Option ((Unit × ((List Int) × Unit)))) (x4 : Int) (h0 : List (Int)) : (roundK Tryz.prog (Ev108 N) 400 [100] des_wide_L3_I (loopAt Tryz.prog [100] 3) X ((x4, ()), (h0, ()))).run = des_wide_L3 N X x4 h0 := by kernel_rfl
noncomputable def Ev109 : (R : Type) → Env R := Env.addLp (Ev108 N) [100] 0 3 (fun R => lpK Tryz.prog des_wide_L3_I (fun X c => des_wide_L3 N X c.1.1 c.2.1) N)
theorem Ev109_ok (R : Type) : EnvOK Tryz.prog (Ev109 N R) := EnvOK.addLp (Ev108_ok N R) (by kernel_rfl) (lpK_ok (li := des_wide_L3_I) (G := fun X c => des_wide_L3 N X c.1.1 c.2.1) hmx (Ev108_ok N _) (by kernel_rfl) loopAt_sub (fun (X : CT des_wide_L3_I.sh → Option (OT des_wide_L3_I.outs)) (c : CT des_wide_L3_I.sh) => des_wide_L3_S N X c.1.1 c.2.1) N)
noncomputable def des_wide : Option (List Int) :=
 Option.bind (des_wide_L3_R N (((0 : Int), ()), (([] : List Int), ()))) fun v1 =>
 some (v1.2.1)
theorem des_wide_S : (runK Tryz.prog (Ev109 N) 400 100 [] [(.sl (.int .i64))] ()).run = des_wide N  := by kernel_rfl
noncomputable def Ev110 : (R : Type) → Env R := Env.addFn (Ev109 N) 100 (fun R => fnK [] [(.sl (.int .i64))] (fun c => des_wide N ))
theorem Ev110_ok (R : Type) : EnvOK Tryz.prog (Ev110 N R) := EnvOK.addFn hmx (Ev109_ok N R) (Ev109_ok N _) (by kernel_rfl) (fun c => des_wide_S N )
noncomputable def des_mixing (N : Nat) : Option (List Int) :=
 some ((((([16, 7, 20, 21, 29, 12, 28, 17] : List Int) ++ ([1, 15, 23, 26, 5, 18, 31, 10] : List Int)) ++ ([2, 8, 24, 14, 32, 27, 3, 9] : List Int)) ++ ([19, 13, 30, 6, 22, 11, 4, 25] : List Int)))
theorem des_mixing_S : (runK Tryz.prog (Ev110 N) 400 101 [] [(.sl (.int .i64))] ()).run = des_mixing N  := by kernel_rfl
noncomputable def Ev111 : (R : Type) → Env R := Env.addFn (Ev110 N) 101 (fun R => fnK [] [(.sl (.int .i64))] (fun c => des_mixing N ))
theorem Ev111_ok (R : Type) : EnvOK Tryz.prog (Ev111 N R) := EnvOK.addFn hmx (Ev110_ok N R) (Ev110_ok N _) (by kernel_rfl) (fun c => des_mixing_S N )
noncomputable def Ev112 : (R : Type) → Env R := Env.addMv (Ev111 N) [(103, 5)]
theorem Ev112_ok (R : Type) : EnvOK Tryz.prog (Ev112 N R) := EnvOK.addMv (Ev111_ok N R) [(103, 5)]
noncomputable def des_first_5_des_falling_L2_I : LI := ⟨21, 1, [(0, 3)], ⟨[(0, .lit (.own 1)), (1, .ty (.int .i64)), (8, .ty (.int .i64)), (9, .ty (.int .i64))], [.dead, .own (.int .i64) 3]⟩, [(.exit 0, ⟨[(0, .lit (.own 1))], [.dead, .own (.int .i64) 3]⟩)]⟩
noncomputable def des_first_5_des_falling_L2 (N : Nat) (X : ((Int × (Int × (Int × Unit))) × ((List Int) × Unit)) → Option ((Unit × ((List Int) × Unit)))) (x1 : Int) (x8 : Int) (x9 : Int) (h0 : List (Int)) : Option ((Unit × ((List Int) × Unit))) :=
 bif (decide (x9 < x8)) then
  bif (roomB ((List.length h0) + (List.length ([(IntKind.wrap .i64 (x1 - (IntKind.wrap .i64 ((8 : Int) * x9))))] : List (Int)))) 8) then
   (X ((x1, (x8, ((IntKind.wrap .i64 (x9 + 1)), ()))), ((h0 ++ ([(IntKind.wrap .i64 (x1 - (IntKind.wrap .i64 ((8 : Int) * x9))))] : List (Int))), ())))
  else
   none
 else
  some (((), (h0, ())))
noncomputable def des_first_5_des_falling_L2_R (c : ((Int × (Int × (Int × Unit))) × ((List Int) × Unit))) : Option ((Unit × ((List Int) × Unit))) := gl (fun X c => des_first_5_des_falling_L2 N X c.1.1 c.1.2.1 c.1.2.2.1 c.2.1) N c
theorem des_first_5_des_falling_L2_S (X : ((Int × (Int × (Int × Unit))) × ((List Int) × Unit)) → Option ((Unit × ((List Int) × Unit)))) (x1 : Int) (x8 : Int) (x9 : Int) (h0 : List (Int)) : (roundK Tryz.prog (Ev112 N) 400 [115, 5, 103] des_first_5_des_falling_L2_I (loopAt Tryz.prog [115, 5, 103] 2) X ((x1, x8, x9, ()), (h0, ()))).run = des_first_5_des_falling_L2 N X x1 x8 x9 h0 := by kernel_rfl
noncomputable def Ev113 : (R : Type) → Env R := Env.addLp (Ev112 N) [115, 5, 103] 1 2 (fun R => lpK Tryz.prog des_first_5_des_falling_L2_I (fun X c => des_first_5_des_falling_L2 N X c.1.1 c.1.2.1 c.1.2.2.1 c.2.1) N)
theorem Ev113_ok (R : Type) : EnvOK Tryz.prog (Ev113 N R) := EnvOK.addLp (Ev112_ok N R) (by kernel_rfl) (lpK_ok (li := des_first_5_des_falling_L2_I) (G := fun X c => des_first_5_des_falling_L2 N X c.1.1 c.1.2.1 c.1.2.2.1 c.2.1) hmx (Ev112_ok N _) (by kernel_rfl) loopAt_sub (fun (X : CT des_first_5_des_falling_L2_I.sh → Option (OT des_first_5_des_falling_L2_I.outs)) (c : CT des_first_5_des_falling_L2_I.sh) => des_first_5_des_falling_L2_S N X c.1.1 c.1.2.1 c.1.2.2.1 c.2.1) N)
noncomputable def des_first_L3_I : LI := ⟨13, 0, [(1, 3)], ⟨[(1, .lit (.own 0)), (4, .ty (.arr 8 (.int .i64))), (5, .ty (.int .i64))], [.own (.int .i64) 3]⟩, [(.exit 0, ⟨[(1, .lit (.own 0))], [.own (.int .i64) 3]⟩)]⟩
noncomputable def des_first_L3 (X : (((Arr Int 8) × (Int × Unit)) × ((List Int) × Unit)) → Option ((Unit × ((List Int) × Unit)))) (x4 : Arr Int 8) (x5 : Int) (h0 : List (Int)) : Option ((Unit × ((List Int) × Unit))) :=
 bif (decide (x5 < (8 : Int))) then
  Option.bind (getI x4.l x5) fun (v5 : Int) =>
  Option.bind (des_first_5_des_falling_L2_R N ((v5, ((8 : Int), ((0 : Int), ()))), (h0, ()))) fun v6 =>
  (X ((x4, ((IntKind.wrap .i64 (x5 + 1)), ())), (v6.2.1, ())))
 else
  some (((), (h0, ())))
noncomputable def des_first_L3_R (c : (((Arr Int 8) × (Int × Unit)) × ((List Int) × Unit))) : Option ((Unit × ((List Int) × Unit))) := gl (fun X c => des_first_L3 N X c.1.1 c.1.2.1 c.2.1) N c
theorem des_first_L3_S (X : (((Arr Int 8) × (Int × Unit)) × ((List Int) × Unit)) → Option ((Unit × ((List Int) × Unit)))) (x4 : Arr Int 8) (x5 : Int) (h0 : List (Int)) : (roundK Tryz.prog (Ev113 N) 400 [103] des_first_L3_I (loopAt Tryz.prog [103] 3) X ((x4, x5, ()), (h0, ()))).run = des_first_L3 N X x4 x5 h0 := by kernel_rfl
noncomputable def Ev114 : (R : Type) → Env R := Env.addLp (Ev113 N) [103] 0 3 (fun R => lpK Tryz.prog des_first_L3_I (fun X c => des_first_L3 N X c.1.1 c.1.2.1 c.2.1) N)
theorem Ev114_ok (R : Type) : EnvOK Tryz.prog (Ev114 N R) := EnvOK.addLp (Ev113_ok N R) (by kernel_rfl) (lpK_ok (li := des_first_L3_I) (G := fun X c => des_first_L3 N X c.1.1 c.1.2.1 c.2.1) hmx (Ev113_ok N _) (by kernel_rfl) loopAt_sub (fun (X : CT des_first_L3_I.sh → Option (OT des_first_L3_I.outs)) (c : CT des_first_L3_I.sh) => des_first_L3_S N X c.1.1 c.1.2.1 c.2.1) N)
noncomputable def des_first : Option (List Int) :=
 Option.bind (des_first_L3_R N (((@Arr.cons Int 7 58 (@Arr.cons Int 6 60 (@Arr.cons Int 5 62 (@Arr.cons Int 4 64 (@Arr.cons Int 3 57 (@Arr.cons Int 2 59 (@Arr.cons Int 1 61 (@Arr.cons Int 0 63 (@Arr.nil Int))))))))), ((0 : Int), ())), (([] : List Int), ()))) fun v1 =>
 some (v1.2.1)
theorem des_first_S : (runK Tryz.prog (Ev114 N) 400 103 [] [(.sl (.int .i64))] ()).run = des_first N  := by kernel_rfl
noncomputable def Ev115 : (R : Type) → Env R := Env.addFn (Ev114 N) 103 (fun R => fnK [] [(.sl (.int .i64))] (fun c => des_first N ))
theorem Ev115_ok (R : Type) : EnvOK Tryz.prog (Ev115 N R) := EnvOK.addFn hmx (Ev114_ok N R) (Ev114_ok N _) (by kernel_rfl) (fun c => des_first_S N )
noncomputable def des_word_L4_I : LI := ⟨36, 0, [], ⟨[(3, .ty (.sl (.int .i64))), (9, .ty (.int .u64)), (10, .ty (.int .u64)), (11, .ty (.int .i64))], []⟩, [(.exit 0, ⟨[(3, .ty (.sl (.int .i64))), (10, .ty (.int .u64))], []⟩)]⟩
noncomputable def des_word_L4 (X : (((List Int) × (Int × (Int × (Int × Unit)))) × Unit) → Option ((((List Int) × (Int × Unit)) × Unit))) (mix3 : List (Int)) (six9 : Int) (digits10 : Int) (n11 : Int) : Option ((((List Int) × (Int × Unit)) × Unit)) :=
 bif (decide (n11 ≤ (8 : Int))) then
  bif (decide ((0 : Int) ≤ (IntKind.wrap .i64 ((48 : Int) - (IntKind.wrap .i64 ((6 : Int) * n11)))))) then
   Option.bind (des_Box N n11 (@Int.fdiv six9 ((2 : Int) ^ (min (Int.toNat (IntKind.wrap .i64 ((48 : Int) - (IntKind.wrap .i64 ((6 : Int) * n11))))) (IntKind.bits .u64))))) fun v6 =>
   (X ((mix3, (six9, ((bits .or .u64 (IntKind.wrap .u64 (digits10 * ((2 : Int) ^ (min (Int.toNat (4 : Int)) (IntKind.bits .u64))))) v6), ((IntKind.wrap .i64 (n11 + 1)), ())))), ()))
  else
   none
 else
  some (((mix3, (digits10, ())), ()))
noncomputable def des_word_L4_R (c : (((List Int) × (Int × (Int × (Int × Unit)))) × Unit)) : Option ((((List Int) × (Int × Unit)) × Unit)) := gl (fun X c => des_word_L4 N X c.1.1 c.1.2.1 c.1.2.2.1 c.1.2.2.2.1) N c
theorem des_word_L4_S (X : (((List Int) × (Int × (Int × (Int × Unit)))) × Unit) → Option ((((List Int) × (Int × Unit)) × Unit))) (mix3 : List (Int)) (six9 : Int) (digits10 : Int) (n11 : Int) : (roundK Tryz.prog (Ev115 N) 400 [104] des_word_L4_I (loopAt Tryz.prog [104] 4) X ((mix3, six9, digits10, n11, ()), ())).run = des_word_L4 N X mix3 six9 digits10 n11 := by kernel_rfl
noncomputable def Ev116 : (R : Type) → Env R := Env.addLp (Ev115 N) [104] 0 4 (fun R => lpK Tryz.prog des_word_L4_I (fun X c => des_word_L4 N X c.1.1 c.1.2.1 c.1.2.2.1 c.1.2.2.2.1) N)
theorem Ev116_ok (R : Type) : EnvOK Tryz.prog (Ev116 N R) := EnvOK.addLp (Ev115_ok N R) (by kernel_rfl) (lpK_ok (li := des_word_L4_I) (G := fun X c => des_word_L4 N X c.1.1 c.1.2.1 c.1.2.2.1 c.1.2.2.2.1) hmx (Ev115_ok N _) (by kernel_rfl) loopAt_sub (fun (X : CT des_word_L4_I.sh → Option (OT des_word_L4_I.outs)) (c : CT des_word_L4_I.sh) => des_word_L4_S N X c.1.1 c.1.2.1 c.1.2.2.1 c.1.2.2.2.1) N)
noncomputable def des_word (half0 : Int) (key1 : Int) (widen2 : List (Int)) (mix3 : List (Int)) : Option Int :=
 Option.bind (des_permuted N (IntKind.wrap .u64 half0) (32 : Int) widen2) fun v5 =>
 Option.bind (des_word_L4_R N ((mix3, ((bits .xor .u64 v5 key1), ((0 : Int), ((1 : Int), ())))), ())) fun v6 =>
 Option.bind (des_permuted N v6.1.2.1 (32 : Int) v6.1.1) fun v7 =>
 some ((IntKind.wrap .u32 v7))
theorem des_word_S (half0 : Int) (key1 : Int) (widen2 : List (Int)) (mix3 : List (Int)) : (runK Tryz.prog (Ev116 N) 400 104 [(.int .u32), (.int .u64), (.sl (.int .i64)), (.sl (.int .i64))] [(.int .u32)] (half0, key1, widen2, mix3, ())).run = des_word N half0 key1 widen2 mix3 := by kernel_rfl
noncomputable def Ev117 : (R : Type) → Env R := Env.addFn (Ev116 N) 104 (fun R => fnK [(.int .u32), (.int .u64), (.sl (.int .i64)), (.sl (.int .i64))] [(.int .u32)] (fun c => des_word N c.1 c.2.1 c.2.2.1 c.2.2.2.1))
theorem Ev117_ok (R : Type) : EnvOK Tryz.prog (Ev117 N R) := EnvOK.addFn hmx (Ev116_ok N R) (Ev116_ok N _) (by kernel_rfl) (fun c => des_word_S N c.1 c.2.1 c.2.2.1 c.2.2.2.1)
noncomputable def des_through_L5_I : LI := ⟨43, 0, [], ⟨[(5, .ty (.sl (.int .i64))), (6, .ty (.sl (.int .i64))), (8, .ty (.int .u32)), (9, .ty (.int .u32)), (22, .ty (.arr 16 (.int .u64))), (23, .ty (.int .i64))], []⟩, [(.exit 0, ⟨[(8, .ty (.int .u32)), (9, .ty (.int .u32))], []⟩)]⟩
noncomputable def des_through_L5 (X : (((List Int) × ((List Int) × (Int × (Int × ((Arr Int 16) × (Int × Unit)))))) × Unit) → Option (((Int × (Int × Unit)) × Unit))) (widen5 : List (Int)) (mix6 : List (Int)) (left8 : Int) (right9 : Int) (x22 : Arr Int 16) (x23 : Int) : Option (((Int × (Int × Unit)) × Unit)) :=
 bif (decide (x23 < (16 : Int))) then
  Option.bind (getI x22.l x23) fun (v8 : Int) =>
  Option.bind (des_word N right9 v8 widen5 mix6) fun v9 =>
  (X ((widen5, (mix6, (right9, ((bits .xor .u32 left8 v9), (x22, ((IntKind.wrap .i64 (x23 + 1)), ())))))), ()))
 else
  some (((left8, (right9, ())), ()))
noncomputable def des_through_L5_R (c : (((List Int) × ((List Int) × (Int × (Int × ((Arr Int 16) × (Int × Unit)))))) × Unit)) : Option (((Int × (Int × Unit)) × Unit)) := gl (fun X c => des_through_L5 N X c.1.1 c.1.2.1 c.1.2.2.1 c.1.2.2.2.1 c.1.2.2.2.2.1 c.1.2.2.2.2.2.1) N c
theorem des_through_L5_S (X : (((List Int) × ((List Int) × (Int × (Int × ((Arr Int 16) × (Int × Unit)))))) × Unit) → Option (((Int × (Int × Unit)) × Unit))) (widen5 : List (Int)) (mix6 : List (Int)) (left8 : Int) (right9 : Int) (x22 : Arr Int 16) (x23 : Int) : (roundK Tryz.prog (Ev117 N) 400 [87] des_through_L5_I (loopAt Tryz.prog [87] 5) X ((widen5, mix6, left8, right9, x22, x23, ()), ())).run = des_through_L5 N X widen5 mix6 left8 right9 x22 x23 := by kernel_rfl
noncomputable def Ev118 : (R : Type) → Env R := Env.addLp (Ev117 N) [87] 0 5 (fun R => lpK Tryz.prog des_through_L5_I (fun X c => des_through_L5 N X c.1.1 c.1.2.1 c.1.2.2.1 c.1.2.2.2.1 c.1.2.2.2.2.1 c.1.2.2.2.2.2.1) N)
theorem Ev118_ok (R : Type) : EnvOK Tryz.prog (Ev118 N R) := EnvOK.addLp (Ev117_ok N R) (by kernel_rfl) (lpK_ok (li := des_through_L5_I) (G := fun X c => des_through_L5 N X c.1.1 c.1.2.1 c.1.2.2.1 c.1.2.2.2.1 c.1.2.2.2.2.1 c.1.2.2.2.2.2.1) hmx (Ev117_ok N _) (by kernel_rfl) loopAt_sub (fun (X : CT des_through_L5_I.sh → Option (OT des_through_L5_I.outs)) (c : CT des_through_L5_I.sh) => des_through_L5_S N X c.1.1 c.1.2.1 c.1.2.2.1 c.1.2.2.2.1 c.1.2.2.2.2.1 c.1.2.2.2.2.2.1) N)
noncomputable def des_last_L3_I : LI := ⟨20, 0, [], ⟨[(1, .lit (.own 0)), (5, .ty (.sl (.int .i64))), (6, .ty (.int .i64)), (7, .ty (.int .i64))], [.own (.int .i64) 3]⟩, [(.exit 0, ⟨[(1, .lit (.own 0))], [.own (.int .i64) 3]⟩)]⟩
noncomputable def des_last_L3 (N : Nat) (X : (((List Int) × (Int × (Int × Unit))) × ((List Int) × Unit)) → Option ((Unit × ((List Int) × Unit)))) (x5 : List (Int)) (x6 : Int) (x7 : Int) (h0 : List (Int)) : Option ((Unit × ((List Int) × Unit))) :=
 bif (decide (x7 < x6)) then
  Option.bind (getI x5 x7) fun (v6 : Int) =>
  bif (decide ((0 : Int) ≤ (IntKind.wrap .i64 (v6 - 1)) ∧ (IntKind.wrap .i64 (v6 - 1)) < (((List.length h0) : Nat) : Int))) then
   Option.bind (h0[Int.toNat (IntKind.wrap .i64 (v6 - 1))]?) fun (v7 : Int) =>
   (X ((x5, (x6, ((IntKind.wrap .i64 (x7 + 1)), ()))), ((@List.set Int h0 (Int.toNat (IntKind.wrap .i64 (v6 - 1))) (IntKind.wrap .i64 (x7 + 1))), ())))
  else
   none
 else
  some (((), (h0, ())))
noncomputable def des_last_L3_R (c : (((List Int) × (Int × (Int × Unit))) × ((List Int) × Unit))) : Option ((Unit × ((List Int) × Unit))) := gl (fun X c => des_last_L3 N X c.1.1 c.1.2.1 c.1.2.2.1 c.2.1) N c
theorem des_last_L3_S (X : (((List Int) × (Int × (Int × Unit))) × ((List Int) × Unit)) → Option ((Unit × ((List Int) × Unit)))) (x5 : List (Int)) (x6 : Int) (x7 : Int) (h0 : List (Int)) : (roundK Tryz.prog (Ev118 N) 400 [105] des_last_L3_I (loopAt Tryz.prog [105] 3) X ((x5, x6, x7, ()), (h0, ()))).run = des_last_L3 N X x5 x6 x7 h0 := by kernel_rfl
noncomputable def Ev119 : (R : Type) → Env R := Env.addLp (Ev118 N) [105] 0 3 (fun R => lpK Tryz.prog des_last_L3_I (fun X c => des_last_L3 N X c.1.1 c.1.2.1 c.1.2.2.1 c.2.1) N)
theorem Ev119_ok (R : Type) : EnvOK Tryz.prog (Ev119 N R) := EnvOK.addLp (Ev118_ok N R) (by kernel_rfl) (lpK_ok (li := des_last_L3_I) (G := fun X c => des_last_L3 N X c.1.1 c.1.2.1 c.1.2.2.1 c.2.1) hmx (Ev118_ok N _) (by kernel_rfl) loopAt_sub (fun (X : CT des_last_L3_I.sh → Option (OT des_last_L3_I.outs)) (c : CT des_last_L3_I.sh) => des_last_L3_S N X c.1.1 c.1.2.1 c.1.2.2.1 c.2.1) N)
noncomputable def des_last : Option (List Int) :=
 Option.bind (@des_first N) fun (v1 : (List Int)) =>
 Option.bind (des_last_L3_R N ((v1, ((((List.length v1) : Nat) : Int), ((0 : Int), ()))), ((@List.replicate Int (Int.toNat (64 : Int)) (0 : Int)), ()))) fun v2 =>
 some (v2.2.1)
theorem des_last_S : (runK Tryz.prog (Ev119 N) 400 105 [] [(.sl (.int .i64))] ()).run = des_last N  := by kernel_rfl
noncomputable def Ev120 : (R : Type) → Env R := Env.addFn (Ev119 N) 105 (fun R => fnK [] [(.sl (.int .i64))] (fun c => des_last N ))
theorem Ev120_ok (R : Type) : EnvOK Tryz.prog (Ev120 N R) := EnvOK.addFn hmx (Ev119_ok N R) (Ev119_ok N _) (by kernel_rfl) (fun c => des_last_S N )
noncomputable def des_through (keys0 : Arr Int 16) (block1 : Int) : Option Int :=
 Option.bind (@des_wide N) fun (v3 : (List Int)) =>
 Option.bind (@des_first N) fun (v4 : (List Int)) =>
 Option.bind (des_permuted N block1 (64 : Int) v4) fun v5 =>
 Option.bind (des_through_L5_R N ((v3, ((((([16, 7, 20, 21, 29, 12, 28, 17] : List Int) ++ ([1, 15, 23, 26, 5, 18, 31, 10] : List Int)) ++ ([2, 8, 24, 14, 32, 27, 3, 9] : List Int)) ++ ([19, 13, 30, 6, 22, 11, 4, 25] : List Int)), ((IntKind.wrap .u32 (@Int.fdiv v5 ((2 : Int) ^ (min (Int.toNat (32 : Int)) (IntKind.bits .u64))))), ((IntKind.wrap .u32 v5), (keys0, ((0 : Int), ())))))), ())) fun v6 =>
 Option.bind (@des_last N) fun (v7 : (List Int)) =>
 Option.bind (des_permuted N (bits .or .u64 (IntKind.wrap .u64 ((IntKind.wrap .u64 v6.1.2.1) * ((2 : Int) ^ (min (Int.toNat (32 : Int)) (IntKind.bits .u64))))) (IntKind.wrap .u64 v6.1.1)) (64 : Int) v7) fun v8 =>
 some (v8)
theorem des_through_S (keys0 : Arr Int 16) (block1 : Int) : (runK Tryz.prog (Ev120 N) 400 87 [(.arr 16 (.int .u64)), (.int .u64)] [(.int .u64)] (keys0, block1, ())).run = des_through N keys0 block1 := by kernel_rfl
noncomputable def Ev121 : (R : Type) → Env R := Env.addFn (Ev120 N) 87 (fun R => fnK [(.arr 16 (.int .u64)), (.int .u64)] [(.int .u64)] (fun c => des_through N c.1 c.2.1))
theorem Ev121_ok (R : Type) : EnvOK Tryz.prog (Ev121 N R) := EnvOK.addFn hmx (Ev120_ok N R) (Ev120_ok N _) (by kernel_rfl) (fun c => des_through_S N c.1 c.2.1)
noncomputable def des_Turn (key0 : Int) (block1 : Int) : Option Int :=
 Option.bind (des_Keys N key0) fun v3 =>
 Option.bind (des_through N v3 block1) fun v4 =>
 some (v4)
theorem des_Turn_S (key0 : Int) (block1 : Int) : (runK Tryz.prog (Ev121 N) 400 63 [(.int .u64), (.int .u64)] [(.int .u64)] (key0, block1, ())).run = des_Turn N key0 block1 := by kernel_rfl
noncomputable def Ev122 : (R : Type) → Env R := Env.addFn (Ev121 N) 63 (fun R => fnK [(.int .u64), (.int .u64)] [(.int .u64)] (fun c => des_Turn N c.1 c.2.1))
theorem Ev122_ok (R : Type) : EnvOK Tryz.prog (Ev122 N R) := EnvOK.addFn hmx (Ev121_ok N R) (Ev121_ok N _) (by kernel_rfl) (fun c => des_Turn_S N c.1 c.2.1)
noncomputable def bitp_Spread_3_bitp_gathered_5_bitp_each_L4_I : LI := ⟨28, 4, [], ⟨[(1, .ty (.int .i64)), (2, .lit (.clo 97 [.box 2 0, .box 3 0, .box 0 0, .box 1 0])), (7, .ty (.int .u8)), (9, .ty (.sl (.int .u8))), (10, .ty (.int .i64)), (11, .ty (.int .i64)), (15, .ty (.int .i64)), (16, .ty (.int .i64))], [.box 3 (.int .i64), .boxp 23 [.own 4], .box 5 (.int .u8), .box 3 (.int .i64), .own (.int .u8) 5]⟩, [(.exit 2, ⟨[(1, .ty (.int .i64)), (2, .lit (.clo 97 [.box 2 0, .box 3 0, .box 0 0, .box 1 0])), (9, .ty (.sl (.int .u8))), (10, .ty (.int .i64)), (11, .ty (.int .i64))], [.box 3 (.int .i64), .boxp 23 [.own 4], .box 5 (.int .u8), .box 3 (.int .i64), .own (.int .u8) 5]⟩)]⟩
noncomputable def bitp_Spread_3_bitp_gathered_5_bitp_each_L4 (N : Nat) (X : ((Int × (Int × ((List Int) × (Int × (Int × (Int × (Int × Unit))))))) × (Int × (Int × (Int × ((List Int) × Unit))))) → Option (((Int × ((List Int) × (Int × (Int × Unit)))) × (Int × (Int × (Int × ((List Int) × Unit))))))) (many1 : Int) (b7 : Int) (x9 : List (Int)) (x10 : Int) (x11 : Int) (x15 : Int) (x16 : Int) (h0 : Int) (h1 : Int) (h2 : Int) (h3 : List (Int)) : Option (((Int × ((List Int) × (Int × (Int × Unit)))) × (Int × (Int × (Int × ((List Int) × Unit)))))) :=
 bif (decide (x16 < x15)) then
  bif (decide ((0 : Int) ≤ (IntKind.wrap .i64 ((7 : Int) - x16)))) then
   bif (decide ((IntKind.wrap .i64 (h2 + 1)) = h0)) then
    bif (roomB ((List.length h3) + (List.length ([(bits .or .u8 (IntKind.wrap .u8 (h1 * ((2 : Int) ^ (min (Int.toNat (1 : Int)) (IntKind.bits .u8))))) (bits .and .u8 (@Int.fdiv b7 ((2 : Int) ^ (min (Int.toNat (IntKind.wrap .i64 ((7 : Int) - x16))) (IntKind.bits .u8)))) (1 : Int)))] : List (Int)))) 1) then
     (X ((many1, (b7, (x9, (x10, (x11, (x15, ((IntKind.wrap .i64 (x16 + 1)), ()))))))), (h0, ((0 : Int), ((0 : Int), ((h3 ++ ([(bits .or .u8 (IntKind.wrap .u8 (h1 * ((2 : Int) ^ (min (Int.toNat (1 : Int)) (IntKind.bits .u8))))) (bits .and .u8 (@Int.fdiv b7 ((2 : Int) ^ (min (Int.toNat (IntKind.wrap .i64 ((7 : Int) - x16))) (IntKind.bits .u8)))) (1 : Int)))] : List (Int))), ()))))))
    else
     none
   else
    (X ((many1, (b7, (x9, (x10, (x11, (x15, ((IntKind.wrap .i64 (x16 + 1)), ()))))))), (h0, ((bits .or .u8 (IntKind.wrap .u8 (h1 * ((2 : Int) ^ (min (Int.toNat (1 : Int)) (IntKind.bits .u8))))) (bits .and .u8 (@Int.fdiv b7 ((2 : Int) ^ (min (Int.toNat (IntKind.wrap .i64 ((7 : Int) - x16))) (IntKind.bits .u8)))) (1 : Int))), ((IntKind.wrap .i64 (h2 + 1)), (h3, ()))))))
  else
   none
 else
  some (((many1, (x9, (x10, (x11, ())))), (h0, (h1, (h2, (h3, ()))))))
noncomputable def bitp_Spread_3_bitp_gathered_5_bitp_each_L4_R (c : ((Int × (Int × ((List Int) × (Int × (Int × (Int × (Int × Unit))))))) × (Int × (Int × (Int × ((List Int) × Unit)))))) : Option (((Int × ((List Int) × (Int × (Int × Unit)))) × (Int × (Int × (Int × ((List Int) × Unit)))))) := gl (fun X c => bitp_Spread_3_bitp_gathered_5_bitp_each_L4 N X c.1.1 c.1.2.1 c.1.2.2.1 c.1.2.2.2.1 c.1.2.2.2.2.1 c.1.2.2.2.2.2.1 c.1.2.2.2.2.2.2.1 c.2.1 c.2.2.1 c.2.2.2.1 c.2.2.2.2.1) N c
theorem bitp_Spread_3_bitp_gathered_5_bitp_each_L4_S (X : ((Int × (Int × ((List Int) × (Int × (Int × (Int × (Int × Unit))))))) × (Int × (Int × (Int × ((List Int) × Unit))))) → Option (((Int × ((List Int) × (Int × (Int × Unit)))) × (Int × (Int × (Int × ((List Int) × Unit))))))) (many1 : Int) (b7 : Int) (x9 : List (Int)) (x10 : Int) (x11 : Int) (x15 : Int) (x16 : Int) (h0 : Int) (h1 : Int) (h2 : Int) (h3 : List (Int)) : (roundK Tryz.prog (Ev122 N) 400 [98, 5, 85, 3, 61] bitp_Spread_3_bitp_gathered_5_bitp_each_L4_I (loopAt Tryz.prog [98, 5, 85, 3, 61] 4) X ((many1, b7, x9, x10, x11, x15, x16, ()), (h0, h1, h2, h3, ()))).run = bitp_Spread_3_bitp_gathered_5_bitp_each_L4 N X many1 b7 x9 x10 x11 x15 x16 h0 h1 h2 h3 := by kernel_rfl
noncomputable def Ev123 : (R : Type) → Env R := Env.addLp (Ev122 N) [98, 5, 85, 3, 61] 4 4 (fun R => lpK Tryz.prog bitp_Spread_3_bitp_gathered_5_bitp_each_L4_I (fun X c => bitp_Spread_3_bitp_gathered_5_bitp_each_L4 N X c.1.1 c.1.2.1 c.1.2.2.1 c.1.2.2.2.1 c.1.2.2.2.2.1 c.1.2.2.2.2.2.1 c.1.2.2.2.2.2.2.1 c.2.1 c.2.2.1 c.2.2.2.1 c.2.2.2.2.1) N)
theorem Ev123_ok (R : Type) : EnvOK Tryz.prog (Ev123 N R) := EnvOK.addLp (Ev122_ok N R) (by kernel_rfl) (lpK_ok (li := bitp_Spread_3_bitp_gathered_5_bitp_each_L4_I) (G := fun X c => bitp_Spread_3_bitp_gathered_5_bitp_each_L4 N X c.1.1 c.1.2.1 c.1.2.2.1 c.1.2.2.2.1 c.1.2.2.2.2.1 c.1.2.2.2.2.2.1 c.1.2.2.2.2.2.2.1 c.2.1 c.2.2.1 c.2.2.2.1 c.2.2.2.2.1) hmx (Ev122_ok N _) (by kernel_rfl) loopAt_sub (fun (X : CT bitp_Spread_3_bitp_gathered_5_bitp_each_L4_I.sh → Option (OT bitp_Spread_3_bitp_gathered_5_bitp_each_L4_I.outs)) (c : CT bitp_Spread_3_bitp_gathered_5_bitp_each_L4_I.sh) => bitp_Spread_3_bitp_gathered_5_bitp_each_L4_S N X c.1.1 c.1.2.1 c.1.2.2.1 c.1.2.2.2.1 c.1.2.2.2.2.1 c.1.2.2.2.2.2.1 c.1.2.2.2.2.2.2.1 c.2.1 c.2.2.1 c.2.2.2.1 c.2.2.2.2.1) N)
noncomputable def bitp_Spread_3_bitp_gathered_5_bitp_each_L1_I : LI := ⟨28, 4, [], ⟨[(1, .ty (.int .i64)), (2, .lit (.clo 97 [.box 2 0, .box 3 0, .box 0 0, .box 1 0])), (9, .ty (.sl (.int .u8))), (10, .ty (.int .i64)), (11, .ty (.int .i64))], [.box 3 (.int .i64), .boxp 23 [.own 4], .box 5 (.int .u8), .box 3 (.int .i64), .own (.int .u8) 5]⟩, [(.exit 0, ⟨[], [.box 3 (.int .i64), .boxp 23 [.own 4], .box 5 (.int .u8), .box 3 (.int .i64), .own (.int .u8) 5]⟩)]⟩
noncomputable def bitp_Spread_3_bitp_gathered_5_bitp_each_L1 (X : ((Int × ((List Int) × (Int × (Int × Unit)))) × (Int × (Int × (Int × ((List Int) × Unit))))) → Option ((Unit × (Int × (Int × (Int × ((List Int) × Unit))))))) (many1 : Int) (x9 : List (Int)) (x10 : Int) (x11 : Int) (h0 : Int) (h1 : Int) (h2 : Int) (h3 : List (Int)) : Option ((Unit × (Int × (Int × (Int × ((List Int) × Unit)))))) :=
 bif (decide (x11 < x10)) then
  Option.bind (getI x9 x11) fun (v10 : Int) =>
  Option.bind (bitp_Spread_3_bitp_gathered_5_bitp_each_L4_R N ((many1, (v10, (x9, (x10, (x11, (many1, ((0 : Int), ()))))))), (h0, (h1, (h2, (h3, ())))))) fun v11 =>
  (X ((v11.1.1, (v11.1.2.1, (v11.1.2.2.1, ((IntKind.wrap .i64 (v11.1.2.2.2.1 + 1)), ())))), (v11.2.1, ((v11.2).snd.1, ((v11.2).snd.2.1, ((v11.2).snd.2.2.1, ()))))))
 else
  some (((), (h0, (h1, (h2, (h3, ()))))))
noncomputable def bitp_Spread_3_bitp_gathered_5_bitp_each_L1_R (c : ((Int × ((List Int) × (Int × (Int × Unit)))) × (Int × (Int × (Int × ((List Int) × Unit)))))) : Option ((Unit × (Int × (Int × (Int × ((List Int) × Unit)))))) := gl (fun X c => bitp_Spread_3_bitp_gathered_5_bitp_each_L1 N X c.1.1 c.1.2.1 c.1.2.2.1 c.1.2.2.2.1 c.2.1 c.2.2.1 c.2.2.2.1 c.2.2.2.2.1) N c
theorem bitp_Spread_3_bitp_gathered_5_bitp_each_L1_S (X : ((Int × ((List Int) × (Int × (Int × Unit)))) × (Int × (Int × (Int × ((List Int) × Unit))))) → Option ((Unit × (Int × (Int × (Int × ((List Int) × Unit))))))) (many1 : Int) (x9 : List (Int)) (x10 : Int) (x11 : Int) (h0 : Int) (h1 : Int) (h2 : Int) (h3 : List (Int)) : (roundK Tryz.prog (Ev123 N) 400 [98, 5, 85, 3, 61] bitp_Spread_3_bitp_gathered_5_bitp_each_L1_I (loopAt Tryz.prog [98, 5, 85, 3, 61] 1) X ((many1, x9, x10, x11, ()), (h0, h1, h2, h3, ()))).run = bitp_Spread_3_bitp_gathered_5_bitp_each_L1 N X many1 x9 x10 x11 h0 h1 h2 h3 := by kernel_rfl
noncomputable def Ev124 : (R : Type) → Env R := Env.addLp (Ev123 N) [98, 5, 85, 3, 61] 4 1 (fun R => lpK Tryz.prog bitp_Spread_3_bitp_gathered_5_bitp_each_L1_I (fun X c => bitp_Spread_3_bitp_gathered_5_bitp_each_L1 N X c.1.1 c.1.2.1 c.1.2.2.1 c.1.2.2.2.1 c.2.1 c.2.2.1 c.2.2.2.1 c.2.2.2.2.1) N)
theorem Ev124_ok (R : Type) : EnvOK Tryz.prog (Ev124 N R) := EnvOK.addLp (Ev123_ok N R) (by kernel_rfl) (lpK_ok (li := bitp_Spread_3_bitp_gathered_5_bitp_each_L1_I) (G := fun X c => bitp_Spread_3_bitp_gathered_5_bitp_each_L1 N X c.1.1 c.1.2.1 c.1.2.2.1 c.1.2.2.2.1 c.2.1 c.2.2.1 c.2.2.2.1 c.2.2.2.2.1) hmx (Ev123_ok N _) (by kernel_rfl) loopAt_sub (fun (X : CT bitp_Spread_3_bitp_gathered_5_bitp_each_L1_I.sh → Option (OT bitp_Spread_3_bitp_gathered_5_bitp_each_L1_I.outs)) (c : CT bitp_Spread_3_bitp_gathered_5_bitp_each_L1_I.sh) => bitp_Spread_3_bitp_gathered_5_bitp_each_L1_S N X c.1.1 c.1.2.1 c.1.2.2.1 c.1.2.2.2.1 c.2.1 c.2.2.1 c.2.2.2.1 c.2.2.2.2.1) N)
noncomputable def math_bits_OnesCount8 (N : Nat) (x0 : Int) : Option Int :=
 Option.bind (getI (Array.toList (List.toArray (@List.append UInt8 (@List.append UInt8 ([0, 1, 1, 2, 1, 2, 2, 3, 1, 2, 2, 3, 2, 3, 3, 4, 1, 2, 2, 3, 2, 3, 3, 4, 2, 3, 3, 4, 3, 4, 4, 5, 1, 2, 2, 3, 2, 3, 3, 4, 2, 3, 3, 4, 3, 4, 4, 5, 2, 3, 3, 4, 3, 4, 4, 5, 3, 4, 4, 5, 4, 5, 5, 6] : List UInt8) ([1, 2, 2, 3, 2, 3, 3, 4, 2, 3, 3, 4, 3, 4, 4, 5, 2, 3, 3, 4, 3, 4, 4, 5, 3, 4, 4, 5, 4, 5, 5, 6, 2, 3, 3, 4, 3, 4, 4, 5, 3, 4, 4, 5, 4, 5, 5, 6, 3, 4, 4, 5, 4, 5, 5, 6, 4, 5, 5, 6, 5, 6, 6, 7] : List UInt8)) (@List.append UInt8 ([1, 2, 2, 3, 2, 3, 3, 4, 2, 3, 3, 4, 3, 4, 4, 5, 2, 3, 3, 4, 3, 4, 4, 5, 3, 4, 4, 5, 4, 5, 5, 6, 2, 3, 3, 4, 3, 4, 4, 5, 3, 4, 4, 5, 4, 5, 5, 6, 3, 4, 4, 5, 4, 5, 5, 6, 4, 5, 5, 6, 5, 6, 6, 7] : List UInt8) ([2, 3, 3, 4, 3, 4, 4, 5, 3, 4, 4, 5, 4, 5, 5, 6, 3, 4, 4, 5, 4, 5, 5, 6, 4, 5, 5, 6, 5, 6, 6, 7, 3, 4, 4, 5, 4, 5, 5, 6, 4, 5, 5, 6, 5, 6, 6, 7, 4, 5, 5, 6, 5, 6, 6, 7, 5, 6, 6, 7, 6, 7, 7, 8] : List UInt8))))) x0) fun (v2 : UInt8) =>
 some ((IntKind.wrap .i64 (((@UInt8.toNat v2) : Nat) : Int)))
theorem math_bits_OnesCount8_S (x0 : Int) : (runK Tryz.prog (Ev124 N) 400 99 [(.int .u8)] [(.int .i64)] (x0, ())).run = math_bits_OnesCount8 N x0 := by kernel_rfl
noncomputable def Ev125 : (R : Type) → Env R := Env.addFn (Ev124 N) 99 (fun R => fnK [(.int .u8)] [(.int .i64)] (fun c => math_bits_OnesCount8 N c.1))
theorem Ev125_ok (R : Type) : EnvOK Tryz.prog (Ev125 N R) := EnvOK.addFn hmx (Ev124_ok N R) (Ev124_ok N _) (by kernel_rfl) (fun c => math_bits_OnesCount8_S N c.1)
noncomputable def bitp_Odd (b0 : Int) : Option Int :=
 Option.bind (math_bits_OnesCount8 N (bits .andNot .u8 b0 (1 : Int))) fun v2 =>
 bif (decide ((@Int.tmod v2 (2 : Int)) = (0 : Int))) then
  some ((bits .or .u8 (bits .andNot .u8 b0 (1 : Int)) (1 : Int)))
 else
  some ((bits .andNot .u8 b0 (1 : Int)))
theorem bitp_Odd_S (b0 : Int) : (runK Tryz.prog (Ev125 N) 400 86 [(.int .u8)] [(.int .u8)] (b0, ())).run = bitp_Odd N b0 := by kernel_rfl
noncomputable def Ev126 : (R : Type) → Env R := Env.addFn (Ev125 N) 86 (fun R => fnK [(.int .u8)] [(.int .u8)] (fun c => bitp_Odd N c.1))
theorem Ev126_ok (R : Type) : EnvOK Tryz.prog (Ev126 N R) := EnvOK.addFn hmx (Ev125_ok N R) (Ev125_ok N _) (by kernel_rfl) (fun c => bitp_Odd_S N c.1)
noncomputable def bitp_Spread_L5_I : LI := ⟨27, 0, [], ⟨[(4, .lit (.own 0)), (12, .lit (.own 0)), (13, .ty (.int .i64)), (14, .ty (.int .i64))], [.own (.int .u8) 5]⟩, [(.exit 0, ⟨[(4, .lit (.own 0))], [.own (.int .u8) 5]⟩)]⟩
noncomputable def bitp_Spread_L5 (X : ((Int × (Int × Unit)) × ((List Int) × Unit)) → Option ((Unit × ((List Int) × Unit)))) (x13 : Int) (x14 : Int) (h0 : List (Int)) : Option ((Unit × ((List Int) × Unit))) :=
 bif (decide (x14 < x13)) then
  bif (decide ((0 : Int) ≤ x14 ∧ x14 < (((List.length h0) : Nat) : Int))) then
   Option.bind (h0[Int.toNat x14]?) fun (v5 : Int) =>
   Option.bind (bitp_Odd N (IntKind.wrap .u8 (v5 * ((2 : Int) ^ (min (Int.toNat (1 : Int)) (IntKind.bits .u8)))))) fun v6 =>
   bif (decide ((0 : Int) ≤ x14 ∧ x14 < (((List.length h0) : Nat) : Int))) then
    Option.bind (h0[Int.toNat x14]?) fun (v7 : Int) =>
    (X ((x13, ((IntKind.wrap .i64 (x14 + 1)), ())), ((@List.set Int h0 (Int.toNat x14) v6), ())))
   else
    none
  else
   none
 else
  some (((), (h0, ())))
noncomputable def bitp_Spread_L5_R (c : ((Int × (Int × Unit)) × ((List Int) × Unit))) : Option ((Unit × ((List Int) × Unit))) := gl (fun X c => bitp_Spread_L5 N X c.1.1 c.1.2.1 c.2.1) N c
theorem bitp_Spread_L5_S (X : ((Int × (Int × Unit)) × ((List Int) × Unit)) → Option ((Unit × ((List Int) × Unit)))) (x13 : Int) (x14 : Int) (h0 : List (Int)) : (roundK Tryz.prog (Ev126 N) 400 [61] bitp_Spread_L5_I (loopAt Tryz.prog [61] 5) X ((x13, x14, ()), (h0, ()))).run = bitp_Spread_L5 N X x13 x14 h0 := by kernel_rfl
noncomputable def Ev127 : (R : Type) → Env R := Env.addLp (Ev126 N) [61] 0 5 (fun R => lpK Tryz.prog bitp_Spread_L5_I (fun X c => bitp_Spread_L5 N X c.1.1 c.1.2.1 c.2.1) N)
theorem Ev127_ok (R : Type) : EnvOK Tryz.prog (Ev127 N R) := EnvOK.addLp (Ev126_ok N R) (by kernel_rfl) (lpK_ok (li := bitp_Spread_L5_I) (G := fun X c => bitp_Spread_L5 N X c.1.1 c.1.2.1 c.2.1) hmx (Ev126_ok N _) (by kernel_rfl) loopAt_sub (fun (X : CT bitp_Spread_L5_I.sh → Option (OT bitp_Spread_L5_I.outs)) (c : CT bitp_Spread_L5_I.sh) => bitp_Spread_L5_S N X c.1.1 c.1.2.1 c.2.1) N)
noncomputable def bitp_Spread (key0 : List (Int)) : Option ((List Int) × Int) :=
 bif (!(decide ((((List.length key0) : Nat) : Int) = (7 : Int)))) then
  some ((([] : List Int), (1 : Int)))
 else
  Option.bind (bitp_Spread_3_bitp_gathered_5_bitp_each_L1_R N (((8 : Int), (key0, ((((List.length key0) : Nat) : Int), ((0 : Int), ())))), ((7 : Int), ((0 : Int), ((0 : Int), (([] : List Int), ())))))) fun v2 =>
  Option.bind (bitp_Spread_L5_R N (((((List.length (v2.2).snd.2.2.1) : Nat) : Int), ((0 : Int), ())), ((v2.2).snd.2.2.1, ()))) fun v3 =>
  some ((v3.2.1, (0 : Int)))
theorem bitp_Spread_S (key0 : List (Int)) : (runK Tryz.prog (Ev127 N) 400 61 [(.sl (.int .u8))] [(.sl (.int .u8)), (.int .i64)] (key0, ())).run = bitp_Spread N key0 := by kernel_rfl
noncomputable def Ev128 : (R : Type) → Env R := Env.addFn (Ev127 N) 61 (fun R => fnK [(.sl (.int .u8))] [(.sl (.int .u8)), (.int .i64)] (fun c => bitp_Spread N c.1))
theorem Ev128_ok (R : Type) : EnvOK Tryz.prog (Ev128 N R) := EnvOK.addFn hmx (Ev127_ok N R) (Ev127_ok N _) (by kernel_rfl) (fun c => bitp_Spread_S N c.1)
noncomputable def des_Seven (key0 : List (Int)) (block1 : List (Int)) : Option ((List Int) × Int) :=
 Option.bind (bitp_Spread N key0) fun v3 =>
 bif (!(decide (v3.2 = (0 : Int)))) then
  some ((([] : List Int), (1 : Int)))
 else
  Option.bind (some ((cond false true (!(decide ((((List.length block1) : Nat) : Int) = (8 : Int))))))) fun (v4 : Bool) =>
  bif v4 then
   some ((([] : List Int), (1 : Int)))
  else
   Option.bind (octs_Get N v3.1 false) fun v5 =>
   Option.bind (octs_Get N block1 false) fun v6 =>
   Option.bind (des_Turn N v5.1 v6.1) fun v7 =>
   Option.bind (octs_Put N v7 (8 : Int) false) fun v8 =>
   some ((v8.1, v8.2))
theorem des_Seven_S (key0 : List (Int)) (block1 : List (Int)) : (runK Tryz.prog (Ev128 N) 400 42 [(.sl (.int .u8)), (.sl (.int .u8))] [(.sl (.int .u8)), (.int .i64)] (key0, block1, ())).run = des_Seven N key0 block1 := by kernel_rfl
noncomputable def Ev129 : (R : Type) → Env R := Env.addFn (Ev128 N) 42 (fun R => fnK [(.sl (.int .u8)), (.sl (.int .u8))] [(.sl (.int .u8)), (.int .i64)] (fun c => des_Seven N c.1 c.2.1))
theorem Ev129_ok (R : Type) : EnvOK Tryz.prog (Ev129 N R) := EnvOK.addFn hmx (Ev128_ok N R) (Ev128_ok N _) (by kernel_rfl) (fun c => des_Seven_S N c.1 c.2.1)
noncomputable def ref01_Same_L4_I : LI := ⟨26, 0, [], ⟨[(0, .ty (.sl (.int .u8))), (1, .ty (.sl (.int .u8))), (5, .ty (.int .i64))], []⟩, [(.ret, ⟨[(4, .ty .bool)], []⟩), (.exit 0, ⟨[], []⟩)]⟩
noncomputable def ref01_Same_L4 (N : Nat) (X : (((List Int) × ((List Int) × (Int × Unit))) × Unit) → Option ((((Bool × Unit) × Unit) ⊕ (Unit × Unit)))) (a0 : List (Int)) (b1 : List (Int)) (i5 : Int) : Option ((((Bool × Unit) × Unit) ⊕ (Unit × Unit))) :=
 bif (decide (i5 < (((List.length a0) : Nat) : Int))) then
  Option.bind (getI a0 i5) fun (v5 : Int) =>
  Option.bind (getI b1 i5) fun (v6 : Int) =>
  bif (!(decide (v5 = v6))) then
   some ((.inl ((false, ()), ())))
  else
   (X ((a0, (b1, ((IntKind.wrap .i64 (i5 + 1)), ()))), ()))
 else
  some ((.inr ((), ())))
noncomputable def ref01_Same_L4_R (c : (((List Int) × ((List Int) × (Int × Unit))) × Unit)) : Option ((((Bool × Unit) × Unit) ⊕ (Unit × Unit))) := gl (fun X c => ref01_Same_L4 N X c.1.1 c.1.2.1 c.1.2.2.1) N c
theorem ref01_Same_L4_S (X : (((List Int) × ((List Int) × (Int × Unit))) × Unit) → Option ((((Bool × Unit) × Unit) ⊕ (Unit × Unit)))) (a0 : List (Int)) (b1 : List (Int)) (i5 : Int) : (roundK Tryz.prog (Ev129 N) 400 [15] ref01_Same_L4_I (loopAt Tryz.prog [15] 4) X ((a0, b1, i5, ()), ())).run = ref01_Same_L4 N X a0 b1 i5 := by kernel_rfl
noncomputable def Ev130 : (R : Type) → Env R := Env.addLp (Ev129 N) [15] 0 4 (fun R => lpK Tryz.prog ref01_Same_L4_I (fun X c => ref01_Same_L4 N X c.1.1 c.1.2.1 c.1.2.2.1) N)
theorem Ev130_ok (R : Type) : EnvOK Tryz.prog (Ev130 N R) := EnvOK.addLp (Ev129_ok N R) (by kernel_rfl) (lpK_ok (li := ref01_Same_L4_I) (G := fun X c => ref01_Same_L4 N X c.1.1 c.1.2.1 c.1.2.2.1) hmx (Ev129_ok N _) (by kernel_rfl) loopAt_sub (fun (X : CT ref01_Same_L4_I.sh → Option (OT ref01_Same_L4_I.outs)) (c : CT ref01_Same_L4_I.sh) => ref01_Same_L4_S N X c.1.1 c.1.2.1 c.1.2.2.1) N)
noncomputable def ref01_Same (a0 : List (Int)) (b1 : List (Int)) : Option Bool :=
 bif (!(decide ((((List.length a0) : Nat) : Int) = (((List.length b1) : Nat) : Int)))) then
  some (false)
 else
  Option.bind (ref01_Same_L4_R N ((a0, (b1, ((0 : Int), ()))), ())) fun v3 =>
  Sum.elim
   (fun (v4 : ((Bool × Unit) × Unit)) =>
   some (v4.1.1))
   (fun (v4 : (Unit × Unit)) =>
   some (true)) v3
theorem ref01_Same_S (a0 : List (Int)) (b1 : List (Int)) : (runK Tryz.prog (Ev130 N) 400 15 [(.sl (.int .u8)), (.sl (.int .u8))] [.bool] (a0, b1, ())).run = ref01_Same N a0 b1 := by kernel_rfl
noncomputable def Ev131 : (R : Type) → Env R := Env.addFn (Ev130 N) 15 (fun R => fnK [(.sl (.int .u8)), (.sl (.int .u8))] [.bool] (fun c => ref01_Same N c.1 c.2.1))
theorem Ev131_ok (R : Type) : EnvOK Tryz.prog (Ev131 N R) := EnvOK.addFn hmx (Ev130_ok N R) (Ev130_ok N _) (by kernel_rfl) (fun c => ref01_Same_S N c.1 c.2.1)
noncomputable def octs_Same_L3_I : LI := ⟨35, 0, [], ⟨[(0, .ty (.sl (.int .u8))), (1, .ty (.sl (.int .u8))), (5, .ty (.int .i64)), (16, .ty (.int .i64)), (17, .ty (.int .i64))], []⟩, [(.exit 0, ⟨[(5, .ty (.int .i64))], []⟩)]⟩
noncomputable def octs_Same_L3 (N : Nat) (X : (((List Int) × ((List Int) × (Int × (Int × (Int × Unit))))) × Unit) → Option (((Int × Unit) × Unit))) (a0 : List (Int)) (b1 : List (Int)) (differ5 : Int) (x16 : Int) (x17 : Int) : Option (((Int × Unit) × Unit)) :=
 bif (decide (x17 < x16)) then
  Option.bind (getI a0 x17) fun (v7 : Int) =>
  Option.bind (getI b1 x17) fun (v8 : Int) =>
  (X ((a0, (b1, ((bits .or .i64 differ5 (IntKind.wrap .i64 (bits .xor .u8 v7 v8))), (x16, ((IntKind.wrap .i64 (x17 + 1)), ()))))), ()))
 else
  some (((differ5, ()), ()))
noncomputable def octs_Same_L3_R (c : (((List Int) × ((List Int) × (Int × (Int × (Int × Unit))))) × Unit)) : Option (((Int × Unit) × Unit)) := gl (fun X c => octs_Same_L3 N X c.1.1 c.1.2.1 c.1.2.2.1 c.1.2.2.2.1 c.1.2.2.2.2.1) N c
theorem octs_Same_L3_S (X : (((List Int) × ((List Int) × (Int × (Int × (Int × Unit))))) × Unit) → Option (((Int × Unit) × Unit))) (a0 : List (Int)) (b1 : List (Int)) (differ5 : Int) (x16 : Int) (x17 : Int) : (roundK Tryz.prog (Ev131 N) 400 [69] octs_Same_L3_I (loopAt Tryz.prog [69] 3) X ((a0, b1, differ5, x16, x17, ()), ())).run = octs_Same_L3 N X a0 b1 differ5 x16 x17 := by kernel_rfl
noncomputable def Ev132 : (R : Type) → Env R := Env.addLp (Ev131 N) [69] 0 3 (fun R => lpK Tryz.prog octs_Same_L3_I (fun X c => octs_Same_L3 N X c.1.1 c.1.2.1 c.1.2.2.1 c.1.2.2.2.1 c.1.2.2.2.2.1) N)
theorem Ev132_ok (R : Type) : EnvOK Tryz.prog (Ev132 N R) := EnvOK.addLp (Ev131_ok N R) (by kernel_rfl) (lpK_ok (li := octs_Same_L3_I) (G := fun X c => octs_Same_L3 N X c.1.1 c.1.2.1 c.1.2.2.1 c.1.2.2.2.1 c.1.2.2.2.2.1) hmx (Ev131_ok N _) (by kernel_rfl) loopAt_sub (fun (X : CT octs_Same_L3_I.sh → Option (OT octs_Same_L3_I.outs)) (c : CT octs_Same_L3_I.sh) => octs_Same_L3_S N X c.1.1 c.1.2.1 c.1.2.2.1 c.1.2.2.2.1 c.1.2.2.2.2.1) N)
noncomputable def octs_Same (a0 : List (Int)) (b1 : List (Int)) : Option Bool :=
 Option.bind (octs_Same_L3_R N ((a0, (b1, ((bits .xor .i64 (((List.length a0) : Nat) : Int) (((List.length b1) : Nat) : Int)), ((@minI (((List.length a0) : Nat) : Int) (((List.length b1) : Nat) : Int)), ((0 : Int), ()))))), ())) fun v3 =>
 some ((decide (v3.1.1 = (0 : Int))))
theorem octs_Same_S (a0 : List (Int)) (b1 : List (Int)) : (runK Tryz.prog (Ev132 N) 400 69 [(.sl (.int .u8)), (.sl (.int .u8))] [.bool] (a0, b1, ())).run = octs_Same N a0 b1 := by kernel_rfl
noncomputable def Ev133 : (R : Type) → Env R := Env.addFn (Ev132 N) 69 (fun R => fnK [(.sl (.int .u8)), (.sl (.int .u8))] [.bool] (fun c => octs_Same N c.1 c.2.1))
theorem Ev133_ok (R : Type) : EnvOK Tryz.prog (Ev133 N R) := EnvOK.addFn hmx (Ev132_ok N R) (Ev132_ok N _) (by kernel_rfl) (fun c => octs_Same_S N c.1 c.2.1)
noncomputable def Ev134 : (R : Type) → Env R := Env.addMv (Ev133 N) [(72, 5)]
theorem Ev134_ok (R : Type) : EnvOK Tryz.prog (Ev134 N R) := EnvOK.addMv (Ev133_ok N R) [(72, 5)]
noncomputable def octs_Hex_L3_I : LI := ⟨28, 0, [], ⟨[(3, .lit (.own 0)), (10, .ty (.sl (.int .u8))), (11, .ty (.int .i64)), (12, .ty (.int .i64))], [.own (.int .u8) 5]⟩, [(.exit 0, ⟨[(3, .lit (.own 0))], [.own (.int .u8) 5]⟩)]⟩
noncomputable def octs_Hex_L3 (N : Nat) (X : (((List Int) × (Int × (Int × Unit))) × ((List Int) × Unit)) → Option ((Unit × ((List Int) × Unit)))) (x10 : List (Int)) (x11 : Int) (x12 : Int) (h0 : List (Int)) : Option ((Unit × ((List Int) × Unit))) :=
 bif (decide (x12 < x11)) then
  Option.bind (getI x10 x12) fun (v6 : Int) =>
  Option.bind (getI (Array.toList (List.toArray ([48, 49, 50, 51, 52, 53, 54, 55, 56, 57, 65, 66, 67, 68, 69, 70] : List UInt8))) (@Int.fdiv v6 ((2 : Int) ^ (min (Int.toNat (4 : Int)) (IntKind.bits .u8))))) fun (v7 : UInt8) =>
  Option.bind (getI (Array.toList (List.toArray ([48, 49, 50, 51, 52, 53, 54, 55, 56, 57, 65, 66, 67, 68, 69, 70] : List UInt8))) (bits .and .u8 v6 (15 : Int))) fun (v8 : UInt8) =>
  bif (roomB ((List.length h0) + (List.length ([(((@UInt8.toNat v7) : Nat) : Int), (((@UInt8.toNat v8) : Nat) : Int)] : List (Int)))) 1) then
   (X ((x10, (x11, ((IntKind.wrap .i64 (x12 + 1)), ()))), ((h0 ++ ([(((@UInt8.toNat v7) : Nat) : Int), (((@UInt8.toNat v8) : Nat) : Int)] : List (Int))), ())))
  else
   none
 else
  some (((), (h0, ())))
noncomputable def octs_Hex_L3_R (c : (((List Int) × (Int × (Int × Unit))) × ((List Int) × Unit))) : Option ((Unit × ((List Int) × Unit))) := gl (fun X c => octs_Hex_L3 N X c.1.1 c.1.2.1 c.1.2.2.1 c.2.1) N c
theorem octs_Hex_L3_S (X : (((List Int) × (Int × (Int × Unit))) × ((List Int) × Unit)) → Option ((Unit × ((List Int) × Unit)))) (x10 : List (Int)) (x11 : Int) (x12 : Int) (h0 : List (Int)) : (roundK Tryz.prog (Ev134 N) 400 [72] octs_Hex_L3_I (loopAt Tryz.prog [72] 3) X ((x10, x11, x12, ()), (h0, ()))).run = octs_Hex_L3 N X x10 x11 x12 h0 := by kernel_rfl
noncomputable def Ev135 : (R : Type) → Env R := Env.addLp (Ev134 N) [72] 0 3 (fun R => lpK Tryz.prog octs_Hex_L3_I (fun X c => octs_Hex_L3 N X c.1.1 c.1.2.1 c.1.2.2.1 c.2.1) N)
theorem Ev135_ok (R : Type) : EnvOK Tryz.prog (Ev135 N R) := EnvOK.addLp (Ev134_ok N R) (by kernel_rfl) (lpK_ok (li := octs_Hex_L3_I) (G := fun X c => octs_Hex_L3 N X c.1.1 c.1.2.1 c.1.2.2.1 c.2.1) hmx (Ev134_ok N _) (by kernel_rfl) loopAt_sub (fun (X : CT octs_Hex_L3_I.sh → Option (OT octs_Hex_L3_I.outs)) (c : CT octs_Hex_L3_I.sh) => octs_Hex_L3_S N X c.1.1 c.1.2.1 c.1.2.2.1 c.2.1) N)
noncomputable def octs_Hex (b0 : List (Int)) : Option (List UInt8) :=
 bif ((decide ((0 : Int) ≤ (0 : Int) ∧ (0 : Int) ≤ (IntKind.wrap .i64 ((2 : Int) * (((List.length b0) : Nat) : Int))))) && (roomB (Int.toNat (IntKind.wrap .i64 ((2 : Int) * (((List.length b0) : Nat) : Int)))) 1)) then
  Option.bind (octs_Hex_L3_R N ((b0, ((((List.length b0) : Nat) : Int), ((0 : Int), ()))), ((@List.replicate Int (Int.toNat (0 : Int)) (0 : Int)), ()))) fun v2 =>
  Option.bind (@toBy v2.2.1) fun (v3 : (List UInt8)) =>
  some (v3)
 else
  none
theorem octs_Hex_S (b0 : List (Int)) : (runK Tryz.prog (Ev135 N) 400 72 [(.sl (.int .u8))] [.str] (b0, ())).run = octs_Hex N b0 := by kernel_rfl
noncomputable def Ev136 : (R : Type) → Env R := Env.addFn (Ev135 N) 72 (fun R => fnK [(.sl (.int .u8))] [.str] (fun c => octs_Hex N c.1))
theorem Ev136_ok (R : Type) : EnvOK Tryz.prog (Ev136 N R) := EnvOK.addFn hmx (Ev135_ok N R) (Ev135_ok N _) (by kernel_rfl) (fun c => octs_Hex_S N c.1)
noncomputable def utf16_Ascii_L2_I : LI := ⟨19, 0, [], ⟨[(6, .ty (.sl (.int .u8))), (7, .ty (.int .i64)), (8, .ty (.int .i64))], []⟩, [(.ret, ⟨[(2, .ty .bool)], []⟩), (.exit 0, ⟨[], []⟩)]⟩
noncomputable def utf16_Ascii_L2 (N : Nat) (X : (((List Int) × (Int × (Int × Unit))) × Unit) → Option ((((Bool × Unit) × Unit) ⊕ (Unit × Unit)))) (x6 : List (Int)) (x7 : Int) (x8 : Int) : Option ((((Bool × Unit) × Unit) ⊕ (Unit × Unit))) :=
 bif (decide (x8 < x7)) then
  Option.bind (getI x6 x8) fun (v5 : Int) =>
  Option.bind (bif (decide (v5 < (32 : Int))) then
    some (true)
   else
    some ((cond false true (decide ((126 : Int) < v5))))) fun (v6 : Bool) =>
  bif v6 then
   some ((.inl ((false, ()), ())))
  else
   (X ((x6, (x7, ((IntKind.wrap .i64 (x8 + 1)), ()))), ()))
 else
  some ((.inr ((), ())))
noncomputable def utf16_Ascii_L2_R (c : (((List Int) × (Int × (Int × Unit))) × Unit)) : Option ((((Bool × Unit) × Unit) ⊕ (Unit × Unit))) := gl (fun X c => utf16_Ascii_L2 N X c.1.1 c.1.2.1 c.1.2.2.1) N c
theorem utf16_Ascii_L2_S (X : (((List Int) × (Int × (Int × Unit))) × Unit) → Option ((((Bool × Unit) × Unit) ⊕ (Unit × Unit)))) (x6 : List (Int)) (x7 : Int) (x8 : Int) : (roundK Tryz.prog (Ev136 N) 400 [70] utf16_Ascii_L2_I (loopAt Tryz.prog [70] 2) X ((x6, x7, x8, ()), ())).run = utf16_Ascii_L2 N X x6 x7 x8 := by kernel_rfl
noncomputable def Ev137 : (R : Type) → Env R := Env.addLp (Ev136 N) [70] 0 2 (fun R => lpK Tryz.prog utf16_Ascii_L2_I (fun X c => utf16_Ascii_L2 N X c.1.1 c.1.2.1 c.1.2.2.1) N)
theorem Ev137_ok (R : Type) : EnvOK Tryz.prog (Ev137 N R) := EnvOK.addLp (Ev136_ok N R) (by kernel_rfl) (lpK_ok (li := utf16_Ascii_L2_I) (G := fun X c => utf16_Ascii_L2 N X c.1.1 c.1.2.1 c.1.2.2.1) hmx (Ev136_ok N _) (by kernel_rfl) loopAt_sub (fun (X : CT utf16_Ascii_L2_I.sh → Option (OT utf16_Ascii_L2_I.outs)) (c : CT utf16_Ascii_L2_I.sh) => utf16_Ascii_L2_S N X c.1.1 c.1.2.1 c.1.2.2.1) N)
noncomputable def utf16_Ascii (s0 : List UInt8) : Option Bool :=
 bif (roomB (List.length s0) 1) then
  Option.bind (utf16_Ascii_L2_R N (((@ofB s0), ((((List.length (@ofB s0)) : Nat) : Int), ((0 : Int), ()))), ())) fun v2 =>
  Sum.elim
   (fun (v3 : ((Bool × Unit) × Unit)) =>
   some (v3.1.1))
   (fun (v3 : (Unit × Unit)) =>
   some (true)) v2
 else
  none
theorem utf16_Ascii_S (s0 : List UInt8) : (runK Tryz.prog (Ev137 N) 400 70 [.str] [.bool] (s0, ())).run = utf16_Ascii N s0 := by kernel_rfl
noncomputable def Ev138 : (R : Type) → Env R := Env.addFn (Ev137 N) 70 (fun R => fnK [.str] [.bool] (fun c => utf16_Ascii N c.1))
theorem Ev138_ok (R : Type) : EnvOK Tryz.prog (Ev138 N R) := EnvOK.addFn hmx (Ev137_ok N R) (Ev137_ok N _) (by kernel_rfl) (fun c => utf16_Ascii_S N c.1)
noncomputable def Ev139 : (R : Type) → Env R := Env.addBx (Ev138 N) [(75, 0)]
theorem Ev139_ok (R : Type) : EnvOK Tryz.prog (Ev139 N R) := EnvOK.addBx (Ev138_ok N R) [(75, 0)]
noncomputable def mppe_Master (h0 : Arr Int 16) (response1 : Arr Int 24) : Option (Arr Int 16) :=
 Option.bind (nthash_Twice N h0) fun v3 =>
 Option.bind (sha1_Of N ([v3.l, response1.l, ([84, 104, 105, 115, 32, 105, 115, 32, 116, 104, 101, 32, 77, 80, 80, 69, 32, 77, 97, 115, 116, 101, 114, 32, 75, 101, 121] : List Int)] : List ((List Int)))) fun v4 =>
 Option.bind (takeI v4.l (16 : Int)) fun (v5 : (List Int)) =>
 Option.bind (@toArr Int (16 : Nat) v5) fun (v6 : (Arr Int 16)) =>
 some (v6)
theorem mppe_Master_S (h0 : Arr Int 16) (response1 : Arr Int 24) : (runK Tryz.prog (Ev139 N) 400 75 [(.arr 16 (.int .u8)), (.arr 24 (.int .u8))] [(.arr 16 (.int .u8))] (h0, response1, ())).run = mppe_Master N h0 response1 := by kernel_rfl
noncomputable def Ev140 : (R : Type) → Env R := Env.addFn (Ev139 N) 75 (fun R => fnK [(.arr 16 (.int .u8)), (.arr 24 (.int .u8))] [(.arr 16 (.int .u8))] (fun c => mppe_Master N c.1 c.2.1))
theorem Ev140_ok (R : Type) : EnvOK Tryz.prog (Ev140 N R) := EnvOK.addFn hmx (Ev139_ok N R) (Ev139_ok N _) (by kernel_rfl) (fun c => mppe_Master_S N c.1 c.2.1)
noncomputable def Ev141 : (R : Type) → Env R := Env.addInl (Ev140 N) [26, 27, 31]
theorem Ev141_ok (R : Type) : EnvOK Tryz.prog (Ev141 N R) := EnvOK.addInl (Ev140_ok N R) (by kernel_rfl)
noncomputable def octs_Join_L3_I : LI := ⟨33, 0, [], ⟨[(0, .ty (.sl (.sl (.int .u8)))), (3, .ty (.int .i64)), (9, .ty (.sl (.sl (.int .u8)))), (10, .ty (.int .i64)), (11, .ty (.int .i64))], []⟩, [(.exit 0, ⟨[(0, .ty (.sl (.sl (.int .u8)))), (3, .ty (.int .i64))], []⟩)]⟩
noncomputable def octs_Join_L3 (N : Nat) (X : (((List (List Int)) × (Int × ((List (List Int)) × (Int × (Int × Unit))))) × Unit) → Option ((((List (List Int)) × (Int × Unit)) × Unit))) (parts0 : List (List Int)) (size3 : Int) (x9 : List (List Int)) (x10 : Int) (x11 : Int) : Option ((((List (List Int)) × (Int × Unit)) × Unit)) :=
 bif (decide (x11 < x10)) then
  Option.bind (getI x9 x11) fun (v7 : (List Int)) =>
  (X ((parts0, ((IntKind.wrap .i64 (size3 + (((List.length v7) : Nat) : Int))), (x9, (x10, ((IntKind.wrap .i64 (x11 + 1)), ()))))), ()))
 else
  some (((parts0, (size3, ())), ()))
noncomputable def octs_Join_L3_R (c : (((List (List Int)) × (Int × ((List (List Int)) × (Int × (Int × Unit))))) × Unit)) : Option ((((List (List Int)) × (Int × Unit)) × Unit)) := gl (fun X c => octs_Join_L3 N X c.1.1 c.1.2.1 c.1.2.2.1 c.1.2.2.2.1 c.1.2.2.2.2.1) N c
theorem octs_Join_L3_S (X : (((List (List Int)) × (Int × ((List (List Int)) × (Int × (Int × Unit))))) × Unit) → Option ((((List (List Int)) × (Int × Unit)) × Unit))) (parts0 : List (List Int)) (size3 : Int) (x9 : List (List Int)) (x10 : Int) (x11 : Int) : (roundK Tryz.prog (Ev141 N) 400 [30] octs_Join_L3_I (loopAt Tryz.prog [30] 3) X ((parts0, size3, x9, x10, x11, ()), ())).run = octs_Join_L3 N X parts0 size3 x9 x10 x11 := by kernel_rfl
noncomputable def Ev142 : (R : Type) → Env R := Env.addLp (Ev141 N) [30] 0 3 (fun R => lpK Tryz.prog octs_Join_L3_I (fun X c => octs_Join_L3 N X c.1.1 c.1.2.1 c.1.2.2.1 c.1.2.2.2.1 c.1.2.2.2.2.1) N)
theorem Ev142_ok (R : Type) : EnvOK Tryz.prog (Ev142 N R) := EnvOK.addLp (Ev141_ok N R) (by kernel_rfl) (lpK_ok (li := octs_Join_L3_I) (G := fun X c => octs_Join_L3 N X c.1.1 c.1.2.1 c.1.2.2.1 c.1.2.2.2.1 c.1.2.2.2.2.1) hmx (Ev141_ok N _) (by kernel_rfl) loopAt_sub (fun (X : CT octs_Join_L3_I.sh → Option (OT octs_Join_L3_I.outs)) (c : CT octs_Join_L3_I.sh) => octs_Join_L3_S N X c.1.1 c.1.2.1 c.1.2.2.1 c.1.2.2.2.1 c.1.2.2.2.2.1) N)
noncomputable def octs_Join_L9_I : LI := ⟨33, 0, [], ⟨[(6, .lit (.own 0)), (22, .ty (.sl (.sl (.int .u8)))), (23, .ty (.int .i64)), (24, .ty (.int .i64))], [.own (.int .u8) 5]⟩, [(.exit 2, ⟨[(6, .lit (.own 0))], [.own (.int .u8) 5]⟩)]⟩
noncomputable def octs_Join_L9 (N : Nat) (X : (((List (List Int)) × (Int × (Int × Unit))) × ((List Int) × Unit)) → Option ((Unit × ((List Int) × Unit)))) (x22 : List (List Int)) (x23 : Int) (x24 : Int) (h0 : List (Int)) : Option ((Unit × ((List Int) × Unit))) :=
 bif (decide (x24 < x23)) then
  Option.bind (getI x22 x24) fun (v6 : (List Int)) =>
  bif (roomB ((List.length h0) + (List.length v6)) 1) then
   (X ((x22, (x23, ((IntKind.wrap .i64 (x24 + 1)), ()))), ((h0 ++ v6), ())))
  else
   none
 else
  some (((), (h0, ())))
noncomputable def octs_Join_L9_R (c : (((List (List Int)) × (Int × (Int × Unit))) × ((List Int) × Unit))) : Option ((Unit × ((List Int) × Unit))) := gl (fun X c => octs_Join_L9 N X c.1.1 c.1.2.1 c.1.2.2.1 c.2.1) N c
theorem octs_Join_L9_S (X : (((List (List Int)) × (Int × (Int × Unit))) × ((List Int) × Unit)) → Option ((Unit × ((List Int) × Unit)))) (x22 : List (List Int)) (x23 : Int) (x24 : Int) (h0 : List (Int)) : (roundK Tryz.prog (Ev142 N) 400 [30] octs_Join_L9_I (loopAt Tryz.prog [30] 9) X ((x22, x23, x24, ()), (h0, ()))).run = octs_Join_L9 N X x22 x23 x24 h0 := by kernel_rfl
noncomputable def Ev143 : (R : Type) → Env R := Env.addLp (Ev142 N) [30] 0 9 (fun R => lpK Tryz.prog octs_Join_L9_I (fun X c => octs_Join_L9 N X c.1.1 c.1.2.1 c.1.2.2.1 c.2.1) N)
theorem Ev143_ok (R : Type) : EnvOK Tryz.prog (Ev143 N R) := EnvOK.addLp (Ev142_ok N R) (by kernel_rfl) (lpK_ok (li := octs_Join_L9_I) (G := fun X c => octs_Join_L9 N X c.1.1 c.1.2.1 c.1.2.2.1 c.2.1) hmx (Ev142_ok N _) (by kernel_rfl) loopAt_sub (fun (X : CT octs_Join_L9_I.sh → Option (OT octs_Join_L9_I.outs)) (c : CT octs_Join_L9_I.sh) => octs_Join_L9_S N X c.1.1 c.1.2.1 c.1.2.2.1 c.2.1) N)
noncomputable def octs_Join (parts0 : List (List Int)) : Option (List Int) :=
 Option.bind (octs_Join_L3_R N ((parts0, ((0 : Int), (parts0, ((((List.length parts0) : Nat) : Int), ((0 : Int), ()))))), ())) fun v2 =>
 bif ((decide ((0 : Int) ≤ (0 : Int) ∧ (0 : Int) ≤ v2.1.2.1)) && (roomB (Int.toNat v2.1.2.1) 1)) then
  Option.bind (octs_Join_L9_R N ((v2.1.1, ((((List.length v2.1.1) : Nat) : Int), ((0 : Int), ()))), ((@List.replicate Int (Int.toNat (0 : Int)) (0 : Int)), ()))) fun v3 =>
  some (v3.2.1)
 else
  none
theorem octs_Join_S (parts0 : List (List Int)) : (runK Tryz.prog (Ev143 N) 400 30 [(.sl (.sl (.int .u8)))] [(.sl (.int .u8))] (parts0, ())).run = octs_Join N parts0 := by kernel_rfl
noncomputable def Ev144 : (R : Type) → Env R := Env.addFn (Ev143 N) 30 (fun R => fnK [(.sl (.sl (.int .u8)))] [(.sl (.int .u8))] (fun c => octs_Join N c.1))
theorem Ev144_ok (R : Type) : EnvOK Tryz.prog (Ev144 N R) := EnvOK.addFn hmx (Ev143_ok N R) (Ev143_ok N _) (by kernel_rfl) (fun c => octs_Join_S N c.1)
noncomputable def bytealg_LastIndexByteString_L2_I : LI := ⟨19, 0, [], ⟨[(0, .ty .str), (1, .ty (.int .u8)), (5, .ty (.int .i64))], []⟩, [(.ret, ⟨[(4, .ty (.int .i64))], []⟩), (.exit 0, ⟨[], []⟩)]⟩
noncomputable def bytealg_LastIndexByteString_L2 (N : Nat) (X : ((List UInt8 × (Int × (Int × Unit))) × Unit) → Option ((((Int × Unit) × Unit) ⊕ (Unit × Unit)))) (s0 : List UInt8) (c1 : Int) (i5 : Int) : Option ((((Int × Unit) × Unit) ⊕ (Unit × Unit))) :=
 bif (decide ((0 : Int) ≤ i5)) then
  Option.bind (getI s0 i5) fun (v5 : UInt8) =>
  bif (decide ((((@UInt8.toNat v5) : Nat) : Int) = c1)) then
   some ((.inl ((i5, ()), ())))
  else
   (X ((s0, (c1, ((IntKind.wrap .i64 (i5 - 1)), ()))), ()))
 else
  some ((.inr ((), ())))
noncomputable def bytealg_LastIndexByteString_L2_R (c : ((List UInt8 × (Int × (Int × Unit))) × Unit)) : Option ((((Int × Unit) × Unit) ⊕ (Unit × Unit))) := gl (fun X c => bytealg_LastIndexByteString_L2 N X c.1.1 c.1.2.1 c.1.2.2.1) N c
theorem bytealg_LastIndexByteString_L2_S (X : ((List UInt8 × (Int × (Int × Unit))) × Unit) → Option ((((Int × Unit) × Unit) ⊕ (Unit × Unit)))) (s0 : List UInt8) (c1 : Int) (i5 : Int) : (roundK Tryz.prog (Ev144 N) 400 [51] bytealg_LastIndexByteString_L2_I (loopAt Tryz.prog [51] 2) X ((s0, c1, i5, ()), ())).run = bytealg_LastIndexByteString_L2 N X s0 c1 i5 := by kernel_rfl
noncomputable def Ev145 : (R : Type) → Env R := Env.addLp (Ev144 N) [51] 0 2 (fun R => lpK Tryz.prog bytealg_LastIndexByteString_L2_I (fun X c => bytealg_LastIndexByteString_L2 N X c.1.1 c.1.2.1 c.1.2.2.1) N)
theorem Ev145_ok (R : Type) : EnvOK Tryz.prog (Ev145 N R) := EnvOK.addLp (Ev144_ok N R) (by kernel_rfl) (lpK_ok (li := bytealg_LastIndexByteString_L2_I) (G := fun X c => bytealg_LastIndexByteString_L2 N X c.1.1 c.1.2.1 c.1.2.2.1) hmx (Ev144_ok N _) (by kernel_rfl) loopAt_sub (fun (X : CT bytealg_LastIndexByteString_L2_I.sh → Option (OT bytealg_LastIndexByteString_L2_I.outs)) (c : CT bytealg_LastIndexByteString_L2_I.sh) => bytealg_LastIndexByteString_L2_S N X c.1.1 c.1.2.1 c.1.2.2.1) N)
noncomputable def bytealg_LastIndexByteString (s0 : List UInt8) (c1 : Int) : Option Int :=
 Option.bind (bytealg_LastIndexByteString_L2_R N ((s0, (c1, ((IntKind.wrap .i64 ((((List.length s0) : Nat) : Int) - 1)), ()))), ())) fun v3 =>
 Sum.elim
  (fun (v4 : ((Int × Unit) × Unit)) =>
  some (v4.1.1))
  (fun (v4 : (Unit × Unit)) =>
  some ((-1 : Int))) v3
theorem bytealg_LastIndexByteString_S (s0 : List UInt8) (c1 : Int) : (runK Tryz.prog (Ev145 N) 400 51 [.str, (.int .u8)] [(.int .i64)] (s0, c1, ())).run = bytealg_LastIndexByteString N s0 c1 := by kernel_rfl
noncomputable def Ev146 : (R : Type) → Env R := Env.addFn (Ev145 N) 51 (fun R => fnK [.str, (.int .u8)] [(.int .i64)] (fun c => bytealg_LastIndexByteString N c.1 c.2.1))
theorem Ev146_ok (R : Type) : EnvOK Tryz.prog (Ev146 N R) := EnvOK.addFn hmx (Ev145_ok N R) (Ev145_ok N _) (by kernel_rfl) (fun c => bytealg_LastIndexByteString_S N c.1 c.2.1)
noncomputable def strings_LastIndexByte (s0 : List UInt8) (c1 : Int) : Option Int :=
 Option.bind (bytealg_LastIndexByteString N s0 c1) fun v3 =>
 some (v3)
theorem strings_LastIndexByte_S (s0 : List UInt8) (c1 : Int) : (runK Tryz.prog (Ev146 N) 400 38 [.str, (.int .u8)] [(.int .i64)] (s0, c1, ())).run = strings_LastIndexByte N s0 c1 := by kernel_rfl
noncomputable def Ev147 : (R : Type) → Env R := Env.addFn (Ev146 N) 38 (fun R => fnK [.str, (.int .u8)] [(.int .i64)] (fun c => strings_LastIndexByte N c.1 c.2.1))
theorem Ev147_ok (R : Type) : EnvOK Tryz.prog (Ev147 N R) := EnvOK.addFn hmx (Ev146_ok N R) (Ev146_ok N _) (by kernel_rfl) (fun c => strings_LastIndexByte_S N c.1 c.2.1)
noncomputable def utf16_Bare (name0 : List UInt8) : Option (List UInt8) :=
 Option.bind (strings_LastIndexByte N name0 (92 : Int)) fun v2 =>
 Option.bind (dropI name0 (IntKind.wrap .i64 (v2 + 1))) fun (v3 : (List UInt8)) =>
 some (v3)
theorem utf16_Bare_S (name0 : List UInt8) : (runK Tryz.prog (Ev147 N) 400 25 [.str] [.str] (name0, ())).run = utf16_Bare N name0 := by kernel_rfl
noncomputable def Ev148 : (R : Type) → Env R := Env.addFn (Ev147 N) 25 (fun R => fnK [.str] [.str] (fun c => utf16_Bare N c.1))
theorem Ev148_ok (R : Type) : EnvOK Tryz.prog (Ev148 N R) := EnvOK.addFn hmx (Ev147_ok N R) (Ev147_ok N _) (by kernel_rfl) (fun c => utf16_Bare_S N c.1)
noncomputable def ref09_Bare_L3_I : LI := ⟨20, 0, [], ⟨[(0, .ty .str), (3, .ty (.int .i64)), (4, .ty (.int .i64))], []⟩, [(.exit 0, ⟨[(0, .ty .str), (3, .ty (.int .i64))], []⟩)]⟩
noncomputable def ref09_Bare_L3 (N : Nat) (X : ((List UInt8 × (Int × (Int × Unit))) × Unit) → Option (((List UInt8 × (Int × Unit)) × Unit))) (name0 : List UInt8) (x3 : Int) (i4 : Int) : Option (((List UInt8 × (Int × Unit)) × Unit)) :=
 bif (decide (i4 < (((List.length name0) : Nat) : Int))) then
  Option.bind (getI name0 i4) fun (v5 : UInt8) =>
  bif (decide ((((@UInt8.toNat v5) : Nat) : Int) = (92 : Int))) then
   (X ((name0, ((IntKind.wrap .i64 (i4 + 1)), ((IntKind.wrap .i64 (i4 + 1)), ()))), ()))
  else
   (X ((name0, (x3, ((IntKind.wrap .i64 (i4 + 1)), ()))), ()))
 else
  some (((name0, (x3, ())), ()))
noncomputable def ref09_Bare_L3_R (c : ((List UInt8 × (Int × (Int × Unit))) × Unit)) : Option (((List UInt8 × (Int × Unit)) × Unit)) := gl (fun X c => ref09_Bare_L3 N X c.1.1 c.1.2.1 c.1.2.2.1) N c
theorem ref09_Bare_L3_S (X : ((List UInt8 × (Int × (Int × Unit))) × Unit) → Option (((List UInt8 × (Int × Unit)) × Unit))) (name0 : List UInt8) (x3 : Int) (i4 : Int) : (roundK Tryz.prog (Ev148 N) 400 [28] ref09_Bare_L3_I (loopAt Tryz.prog [28] 3) X ((name0, x3, i4, ()), ())).run = ref09_Bare_L3 N X name0 x3 i4 := by kernel_rfl
noncomputable def Ev149 : (R : Type) → Env R := Env.addLp (Ev148 N) [28] 0 3 (fun R => lpK Tryz.prog ref09_Bare_L3_I (fun X c => ref09_Bare_L3 N X c.1.1 c.1.2.1 c.1.2.2.1) N)
theorem Ev149_ok (R : Type) : EnvOK Tryz.prog (Ev149 N R) := EnvOK.addLp (Ev148_ok N R) (by kernel_rfl) (lpK_ok (li := ref09_Bare_L3_I) (G := fun X c => ref09_Bare_L3 N X c.1.1 c.1.2.1 c.1.2.2.1) hmx (Ev148_ok N _) (by kernel_rfl) loopAt_sub (fun (X : CT ref09_Bare_L3_I.sh → Option (OT ref09_Bare_L3_I.outs)) (c : CT ref09_Bare_L3_I.sh) => ref09_Bare_L3_S N X c.1.1 c.1.2.1 c.1.2.2.1) N)
noncomputable def ref09_Bare (name0 : List UInt8) : Option (List UInt8) :=
 Option.bind (ref09_Bare_L3_R N ((name0, ((0 : Int), ((0 : Int), ()))), ())) fun v2 =>
 Option.bind (dropI v2.1.1 v2.1.2.1) fun (v3 : (List UInt8)) =>
 some (v3)
theorem ref09_Bare_S (name0 : List UInt8) : (runK Tryz.prog (Ev149 N) 400 28 [.str] [.str] (name0, ())).run = ref09_Bare N name0 := by kernel_rfl
noncomputable def Ev150 : (R : Type) → Env R := Env.addFn (Ev149 N) 28 (fun R => fnK [.str] [.str] (fun c => ref09_Bare N c.1))
theorem Ev150_ok (R : Type) : EnvOK Tryz.prog (Ev150 N R) := EnvOK.addFn hmx (Ev149_ok N R) (Ev149_ok N _) (by kernel_rfl) (fun c => ref09_Bare_S N c.1)
noncomputable def Ev151 : (R : Type) → Env R := Env.addBx (Ev150 N) [(20, 0)]
theorem Ev151_ok (R : Type) : EnvOK Tryz.prog (Ev151 N R) := EnvOK.addBx (Ev150_ok N R) [(20, 0)]
noncomputable def chap2_Value (peer0 : Arr Int 16) (response1 : Arr Int 24) : Option (List Int) :=
 Option.bind (octs_Join N ([peer0.l, (@List.replicate Int (Int.toNat (8 : Int)) (0 : Int)), response1.l, ([0] : List Int)] : List ((List Int)))) fun v3 =>
 some (v3)
theorem chap2_Value_S (peer0 : Arr Int 16) (response1 : Arr Int 24) : (runK Tryz.prog (Ev151 N) 400 20 [(.arr 16 (.int .u8)), (.arr 24 (.int .u8))] [(.sl (.int .u8))] (peer0, response1, ())).run = chap2_Value N peer0 response1 := by kernel_rfl
noncomputable def Ev152 : (R : Type) → Env R := Env.addFn (Ev151 N) 20 (fun R => fnK [(.arr 16 (.int .u8)), (.arr 24 (.int .u8))] [(.sl (.int .u8))] (fun c => chap2_Value N c.1 c.2.1))
theorem Ev152_ok (R : Type) : EnvOK Tryz.prog (Ev152 N R) := EnvOK.addFn hmx (Ev151_ok N R) (Ev151_ok N _) (by kernel_rfl) (fun c => chap2_Value_S N c.1 c.2.1)
noncomputable def chap2_Parse (value0 : List (Int)) : Option ((Arr Int 16) × (Arr Int 24) × Int) :=
 bif (!(decide ((((List.length value0) : Nat) : Int) = (49 : Int)))) then
  some (((@Arr.cons Int 15 0 (@Arr.cons Int 14 0 (@Arr.cons Int 13 0 (@Arr.cons Int 12 0 (@Arr.cons Int 11 0 (@Arr.cons Int 10 0 (@Arr.cons Int 9 0 (@Arr.cons Int 8 0 (@Arr.cons Int 7 0 (@Arr.cons Int 6 0 (@Arr.cons Int 5 0 (@Arr.cons Int 4 0 (@Arr.cons Int 3 0 (@Arr.cons Int 2 0 (@Arr.cons Int 1 0 (@Arr.cons Int 0 0 (@Arr.nil Int))))))))))))))))), ((@Arr.cons Int 23 0 (@Arr.cons Int 22 0 (@Arr.cons Int 21 0 (@Arr.cons Int 20 0 (@Arr.cons Int 19 0 (@Arr.cons Int 18 0 (@Arr.cons Int 17 0 (@Arr.cons Int 16 0 (@Arr.cons Int 15 0 (@Arr.cons Int 14 0 (@Arr.cons Int 13 0 (@Arr.cons Int 12 0 (@Arr.cons Int 11 0 (@Arr.cons Int 10 0 (@Arr.cons Int 9 0 (@Arr.cons Int 8 0 (@Arr.cons Int 7 0 (@Arr.cons Int 6 0 (@Arr.cons Int 5 0 (@Arr.cons Int 4 0 (@Arr.cons Int 3 0 (@Arr.cons Int 2 0 (@Arr.cons Int 1 0 (@Arr.cons Int 0 0 (@Arr.nil Int))))))))))))))))))))))))), (1 : Int))))
 else
  Option.bind (takeI value0 (16 : Int)) fun (v2 : (List Int)) =>
  Option.bind (@toArr Int (16 : Nat) v2) fun (v3 : (Arr Int 16)) =>
  Option.bind (subI value0 (24 : Int) (48 : Int)) fun (v4 : (List Int)) =>
  Option.bind (@toArr Int (24 : Nat) v4) fun (v5 : (Arr Int 24)) =>
  Option.bind (chap2_Value N v3 v5) fun v6 =>
  Option.bind (octs_Same N v6 value0) fun v7 =>
  bif (!v7) then
   some (((@Arr.cons Int 15 0 (@Arr.cons Int 14 0 (@Arr.cons Int 13 0 (@Arr.cons Int 12 0 (@Arr.cons Int 11 0 (@Arr.cons Int 10 0 (@Arr.cons Int 9 0 (@Arr.cons Int 8 0 (@Arr.cons Int 7 0 (@Arr.cons Int 6 0 (@Arr.cons Int 5 0 (@Arr.cons Int 4 0 (@Arr.cons Int 3 0 (@Arr.cons Int 2 0 (@Arr.cons Int 1 0 (@Arr.cons Int 0 0 (@Arr.nil Int))))))))))))))))), ((@Arr.cons Int 23 0 (@Arr.cons Int 22 0 (@Arr.cons Int 21 0 (@Arr.cons Int 20 0 (@Arr.cons Int 19 0 (@Arr.cons Int 18 0 (@Arr.cons Int 17 0 (@Arr.cons Int 16 0 (@Arr.cons Int 15 0 (@Arr.cons Int 14 0 (@Arr.cons Int 13 0 (@Arr.cons Int 12 0 (@Arr.cons Int 11 0 (@Arr.cons Int 10 0 (@Arr.cons Int 9 0 (@Arr.cons Int 8 0 (@Arr.cons Int 7 0 (@Arr.cons Int 6 0 (@Arr.cons Int 5 0 (@Arr.cons Int 4 0 (@Arr.cons Int 3 0 (@Arr.cons Int 2 0 (@Arr.cons Int 1 0 (@Arr.cons Int 0 0 (@Arr.nil Int))))))))))))))))))))))))), (3 : Int))))
  else
   some ((v3, (v5, (0 : Int))))
theorem chap2_Parse_S (value0 : List (Int)) : (runK Tryz.prog (Ev152 N) 400 44 [(.sl (.int .u8))] [(.arr 16 (.int .u8)), (.arr 24 (.int .u8)), (.int .i64)] (value0, ())).run = chap2_Parse N value0 := by kernel_rfl
noncomputable def Ev153 : (R : Type) → Env R := Env.addFn (Ev152 N) 44 (fun R => fnK [(.sl (.int .u8))] [(.arr 16 (.int .u8)), (.arr 24 (.int .u8)), (.int .i64)] (fun c => chap2_Parse N c.1))
theorem Ev153_ok (R : Type) : EnvOK Tryz.prog (Ev153 N R) := EnvOK.addFn hmx (Ev152_ok N R) (Ev152_ok N _) (by kernel_rfl) (fun c => chap2_Parse_S N c.1)
noncomputable def Ev154 : (R : Type) → Env R := Env.addBx (Ev153 N) [(35, 0)]
theorem Ev154_ok (R : Type) : EnvOK Tryz.prog (Ev154 N R) := EnvOK.addBx (Ev153_ok N R) [(35, 0)]
noncomputable def chap2_Challenge (peer0 : Arr Int 16) (auth1 : Arr Int 16) (name2 : List UInt8) : Option (Arr Int 8) :=
 Option.bind (utf16_Bare N name2) fun v4 =>
 bif (roomB (List.length v4) 1) then
  Option.bind (sha1_Of N ([peer0.l, auth1.l, (@ofB v4)] : List ((List Int)))) fun v5 =>
  Option.bind (takeI v5.l (8 : Int)) fun (v6 : (List Int)) =>
  Option.bind (@toArr Int (8 : Nat) v6) fun (v7 : (Arr Int 8)) =>
  some (v7)
 else
  none
theorem chap2_Challenge_S (peer0 : Arr Int 16) (auth1 : Arr Int 16) (name2 : List UInt8) : (runK Tryz.prog (Ev154 N) 400 35 [(.arr 16 (.int .u8)), (.arr 16 (.int .u8)), .str] [(.arr 8 (.int .u8))] (peer0, auth1, name2, ())).run = chap2_Challenge N peer0 auth1 name2 := by kernel_rfl
noncomputable def Ev155 : (R : Type) → Env R := Env.addFn (Ev154 N) 35 (fun R => fnK [(.arr 16 (.int .u8)), (.arr 16 (.int .u8)), .str] [(.arr 8 (.int .u8))] (fun c => chap2_Challenge N c.1 c.2.1 c.2.2.1))
theorem Ev155_ok (R : Type) : EnvOK Tryz.prog (Ev155 N R) := EnvOK.addFn hmx (Ev154_ok N R) (Ev154_ok N _) (by kernel_rfl) (fun c => chap2_Challenge_S N c.1 c.2.1 c.2.2.1)
noncomputable def Ev156 : (R : Type) → Env R := Env.addBx (Ev155 N) [(34, 0)]
theorem Ev156_ok (R : Type) : EnvOK Tryz.prog (Ev156 N R) := EnvOK.addBx (Ev155_ok N R) [(34, 0)]
noncomputable def chap2_Response_L3_I : LI := ⟨28, 0, [(5, 5)], ⟨[(2, .adr (.arr 8 (.int .u8))), (4, .lit (.box 0 0)), (5, .lit (.own 1)), (11, .ty (.arr 3 (.arr 7 (.int .u8)))), (12, .ty (.int .i64))], [.box 60 (.arr 24 (.int .u8)), .own (.int .u8) 5]⟩, [(.exit 0, ⟨[(4, .lit (.box 0 0)), (5, .lit (.own 1))], [.box 60 (.arr 24 (.int .u8)), .own (.int .u8) 5]⟩)]⟩
noncomputable def chap2_Response_L3 (X : (((Arr Int 8) × ((Arr (Arr Int 7) 3) × (Int × Unit))) × ((Arr Int 24) × ((List Int) × Unit))) → Option ((Unit × ((Arr Int 24) × ((List Int) × Unit))))) (c2 : Arr Int 8) (x11 : Arr (Arr Int 7) 3) (x12 : Int) (h0 : Arr Int 24) (h1 : List (Int)) : Option ((Unit × ((Arr Int 24) × ((List Int) × Unit)))) :=
 bif (decide (x12 < (3 : Int))) then
  Option.bind (getI x11.l x12) fun (v7 : (Arr Int 7)) =>
  Option.bind (des_Seven N v7.l c2.l) fun v8 =>
  bif (roomB ((List.length h1) + (List.length v8.1)) 1) then
   (X ((c2, (x11, ((IntKind.wrap .i64 (x12 + 1)), ()))), (h0, ((h1 ++ v8.1), ()))))
  else
   none
 else
  some (((), (h0, (h1, ()))))
noncomputable def chap2_Response_L3_R (c : (((Arr Int 8) × ((Arr (Arr Int 7) 3) × (Int × Unit))) × ((Arr Int 24) × ((List Int) × Unit)))) : Option ((Unit × ((Arr Int 24) × ((List Int) × Unit)))) := gl (fun X c => chap2_Response_L3 N X c.1.1 c.1.2.1 c.1.2.2.1 c.2.1 c.2.2.1) N c
theorem chap2_Response_L3_S (X : (((Arr Int 8) × ((Arr (Arr Int 7) 3) × (Int × Unit))) × ((Arr Int 24) × ((List Int) × Unit))) → Option ((Unit × ((Arr Int 24) × ((List Int) × Unit))))) (c2 : Arr Int 8) (x11 : Arr (Arr Int 7) 3) (x12 : Int) (h0 : Arr Int 24) (h1 : List (Int)) : (roundK Tryz.prog (Ev156 N) 400 [34] chap2_Response_L3_I (loopAt Tryz.prog [34] 3) X ((c2, x11, x12, ()), (h0, h1, ()))).run = chap2_Response_L3 N X c2 x11 x12 h0 h1 := by kernel_rfl
noncomputable def Ev157 : (R : Type) → Env R := Env.addLp (Ev156 N) [34] 0 3 (fun R => lpK Tryz.prog chap2_Response_L3_I (fun X c => chap2_Response_L3 N X c.1.1 c.1.2.1 c.1.2.2.1 c.2.1 c.2.2.1) N)
theorem Ev157_ok (R : Type) : EnvOK Tryz.prog (Ev157 N R) := EnvOK.addLp (Ev156_ok N R) (by kernel_rfl) (lpK_ok (li := chap2_Response_L3_I) (G := fun X c => chap2_Response_L3 N X c.1.1 c.1.2.1 c.1.2.2.1 c.2.1 c.2.2.1) hmx (Ev156_ok N _) (by kernel_rfl) loopAt_sub (fun (X : CT chap2_Response_L3_I.sh → Option (OT chap2_Response_L3_I.outs)) (c : CT chap2_Response_L3_I.sh) => chap2_Response_L3_S N X c.1.1 c.1.2.1 c.1.2.2.1 c.2.1 c.2.2.1) N)
noncomputable def chap2_Response (c0 : Arr Int 8) (h1 : Arr Int 16) : Option (Arr Int 24) :=
 Option.bind (nthash_Thirds N h1) fun v3 =>
 Option.bind (chap2_Response_L3_R N ((c0, (v3, ((0 : Int), ()))), ((@Arr.cons Int 23 0 (@Arr.cons Int 22 0 (@Arr.cons Int 21 0 (@Arr.cons Int 20 0 (@Arr.cons Int 19 0 (@Arr.cons Int 18 0 (@Arr.cons Int 17 0 (@Arr.cons Int 16 0 (@Arr.cons Int 15 0 (@Arr.cons Int 14 0 (@Arr.cons Int 13 0 (@Arr.cons Int 12 0 (@Arr.cons Int 11 0 (@Arr.cons Int 10 0 (@Arr.cons Int 9 0 (@Arr.cons Int 8 0 (@Arr.cons Int 7 0 (@Arr.cons Int 6 0 (@Arr.cons Int 5 0 (@Arr.cons Int 4 0 (@Arr.cons Int 3 0 (@Arr.cons Int 2 0 (@Arr.cons Int 1 0 (@Arr.cons Int 0 0 (@Arr.nil Int))))))))))))))))))))))))), (([] : List Int), ())))) fun v4 =>
 Option.bind (@toArr Int (24 : Nat) v4.2.2.1) fun (v5 : (Arr Int 24)) =>
 some (v5)
theorem chap2_Response_S (c0 : Arr Int 8) (h1 : Arr Int 16) : (runK Tryz.prog (Ev157 N) 400 34 [(.arr 8 (.int .u8)), (.arr 16 (.int .u8))] [(.arr 24 (.int .u8))] (c0, h1, ())).run = chap2_Response N c0 h1 := by kernel_rfl
noncomputable def Ev158 : (R : Type) → Env R := Env.addFn (Ev157 N) 34 (fun R => fnK [(.arr 8 (.int .u8)), (.arr 16 (.int .u8))] [(.arr 24 (.int .u8))] (fun c => chap2_Response N c.1 c.2.1))
theorem Ev158_ok (R : Type) : EnvOK Tryz.prog (Ev158 N R) := EnvOK.addFn hmx (Ev157_ok N R) (Ev157_ok N _) (by kernel_rfl) (fun c => chap2_Response_S N c.1 c.2.1)
noncomputable def Ev159 : (R : Type) → Env R := Env.addBx (Ev158 N) [(18, 0)]
theorem Ev159_ok (R : Type) : EnvOK Tryz.prog (Ev159 N R) := EnvOK.addBx (Ev158_ok N R) [(18, 0)]
noncomputable def chap2_Prove (peer0 : Arr Int 16) (auth1 : Arr Int 16) (name2 : List UInt8) (password3 : List UInt8) : Option ((Arr Int 24) × Int) :=
 Option.bind (nthash_Of N password3) fun v5 =>
 bif (!(decide (v5.2 = (0 : Int)))) then
  some (((@Arr.cons Int 23 0 (@Arr.cons Int 22 0 (@Arr.cons Int 21 0 (@Arr.cons Int 20 0 (@Arr.cons Int 19 0 (@Arr.cons Int 18 0 (@Arr.cons Int 17 0 (@Arr.cons Int 16 0 (@Arr.cons Int 15 0 (@Arr.cons Int 14 0 (@Arr.cons Int 13 0 (@Arr.cons Int 12 0 (@Arr.cons Int 11 0 (@Arr.cons Int 10 0 (@Arr.cons Int 9 0 (@Arr.cons Int 8 0 (@Arr.cons Int 7 0 (@Arr.cons Int 6 0 (@Arr.cons Int 5 0 (@Arr.cons Int 4 0 (@Arr.cons Int 3 0 (@Arr.cons Int 2 0 (@Arr.cons Int 1 0 (@Arr.cons Int 0 0 (@Arr.nil Int))))))))))))))))))))))))), v5.2))
 else
  Option.bind (chap2_Challenge N peer0 auth1 name2) fun v6 =>
  Option.bind (chap2_Response N v6 v5.1) fun v7 =>
  some ((v7, (0 : Int)))
theorem chap2_Prove_S (peer0 : Arr Int 16) (auth1 : Arr Int 16) (name2 : List UInt8) (password3 : List UInt8) : (runK Tryz.prog (Ev159 N) 400 18 [(.arr 16 (.int .u8)), (.arr 16 (.int .u8)), .str, .str] [(.arr 24 (.int .u8)), (.int .i64)] (peer0, auth1, name2, password3, ())).run = chap2_Prove N peer0 auth1 name2 password3 := by kernel_rfl
noncomputable def Ev160 : (R : Type) → Env R := Env.addFn (Ev159 N) 18 (fun R => fnK [(.arr 16 (.int .u8)), (.arr 16 (.int .u8)), .str, .str] [(.arr 24 (.int .u8)), (.int .i64)] (fun c => chap2_Prove N c.1 c.2.1 c.2.2.1 c.2.2.2.1))
theorem Ev160_ok (R : Type) : EnvOK Tryz.prog (Ev160 N R) := EnvOK.addFn hmx (Ev159_ok N R) (Ev159_ok N _) (by kernel_rfl) (fun c => chap2_Prove_S N c.1 c.2.1 c.2.2.1 c.2.2.2.1)
noncomputable def Ev161 : (R : Type) → Env R := Env.addBx (Ev160 N) [(49, 0)]
theorem Ev161_ok (R : Type) : EnvOK Tryz.prog (Ev161 N R) := EnvOK.addBx (Ev160_ok N R) [(49, 0)]
noncomputable def chap2_Answer (h0 : Arr Int 16) (response1 : Arr Int 24) (c2 : Arr Int 8) : Option (List UInt8) :=
 Option.bind (nthash_Twice N h0) fun v4 =>
 Option.bind (sha1_Of N ([v4.l, response1.l, ([77, 97, 103, 105, 99, 32, 115, 101, 114, 118, 101, 114, 32, 116, 111, 32, 99, 108, 105, 101, 110, 116, 32, 115, 105, 103, 110, 105, 110, 103, 32, 99, 111, 110, 115, 116, 97, 110, 116] : List Int)] : List ((List Int)))) fun v5 =>
 Option.bind (sha1_Of N ([v5.l, c2.l, ([80, 97, 100, 32, 116, 111, 32, 109, 97, 107, 101, 32, 105, 116, 32, 100, 111, 32, 109, 111, 114, 101, 32, 116, 104, 97, 110, 32, 111, 110, 101, 32, 105, 116, 101, 114, 97, 116, 105, 111, 110] : List Int)] : List ((List Int)))) fun v6 =>
 Option.bind (octs_Hex N v6.l) fun v7 =>
 bif (decide (((List.length (Array.toList (List.toArray ([83, 61] : List UInt8)))) + (List.length v7)) ≤ maxLen)) then
  some (((Array.toList (List.toArray ([83, 61] : List UInt8))) ++ v7))
 else
  none
theorem chap2_Answer_S (h0 : Arr Int 16) (response1 : Arr Int 24) (c2 : Arr Int 8) : (runK Tryz.prog (Ev161 N) 400 49 [(.arr 16 (.int .u8)), (.arr 24 (.int .u8)), (.arr 8 (.int .u8))] [.str] (h0, response1, c2, ())).run = chap2_Answer N h0 response1 c2 := by kernel_rfl
noncomputable def Ev162 : (R : Type) → Env R := Env.addFn (Ev161 N) 49 (fun R => fnK [(.arr 16 (.int .u8)), (.arr 24 (.int .u8)), (.arr 8 (.int .u8))] [.str] (fun c => chap2_Answer N c.1 c.2.1 c.2.2.1))
theorem Ev162_ok (R : Type) : EnvOK Tryz.prog (Ev162 N R) := EnvOK.addFn hmx (Ev161_ok N R) (Ev161_ok N _) (by kernel_rfl) (fun c => chap2_Answer_S N c.1 c.2.1 c.2.2.1)
noncomputable def chap2_Success (N : Nat) (answer0 : List UInt8) (text1 : List UInt8) : Option (List Int) :=
 bif (decide (((List.length answer0) + (List.length (Array.toList (List.toArray ([32, 77, 61] : List UInt8))))) ≤ maxLen)) then
  bif (decide (((List.length (answer0 ++ (Array.toList (List.toArray ([32, 77, 61] : List UInt8))))) + (List.length text1)) ≤ maxLen)) then
   bif (roomB (List.length ((answer0 ++ (Array.toList (List.toArray ([32, 77, 61] : List UInt8)))) ++ text1)) 1) then
    some ((@ofB ((answer0 ++ (Array.toList (List.toArray ([32, 77, 61] : List UInt8)))) ++ text1)))
   else
    none
  else
   none
 else
  none
theorem chap2_Success_S (answer0 : List UInt8) (text1 : List UInt8) : (runK Tryz.prog (Ev162 N) 400 48 [.str, .str] [(.sl (.int .u8))] (answer0, text1, ())).run = chap2_Success N answer0 text1 := by kernel_rfl
noncomputable def Ev163 : (R : Type) → Env R := Env.addFn (Ev162 N) 48 (fun R => fnK [.str, .str] [(.sl (.int .u8))] (fun c => chap2_Success N c.1 c.2.1))
theorem Ev163_ok (R : Type) : EnvOK Tryz.prog (Ev163 N R) := EnvOK.addFn hmx (Ev162_ok N R) (Ev162_ok N _) (by kernel_rfl) (fun c => chap2_Success_S N c.1 c.2.1)
noncomputable def Ev164 : (R : Type) → Env R := Env.addBx (Ev163 N) [(46, 0)]
theorem Ev164_ok (R : Type) : EnvOK Tryz.prog (Ev164 N R) := EnvOK.addBx (Ev163_ok N R) [(46, 0)]
noncomputable def Ev165 : (R : Type) → Env R := Env.addFn (Ev164 N) 71 (fun R => itK)
theorem Ev165_ok (R : Type) : EnvOK Tryz.prog (Ev165 N R) := EnvOK.addExt (Ev164_ok N R) it_ok
noncomputable def chap2_Fail (f0 : Int × (Bool × ((Arr Int 16) × (List UInt8)))) : Option ((List Int) × Int) :=
 Option.bind (bif (decide (f0.1 < (0 : Int))) then
   some (true)
  else
   some ((cond false true (decide ((9999 : Int) < f0.1))))) fun (v2 : Bool) =>
 bif v2 then
  some ((([] : List Int), (1 : Int)))
 else
  Option.bind (utf16_Ascii N f0.2.2.2) fun v3 =>
  bif (!v3) then
   some ((([] : List Int), (3 : Int)))
  else
   bif f0.2.1 then
    bif (decide ((-9223372036854775808 : Int) ≤ f0.1 ∧ f0.1 ≤ (9223372036854775807 : Int))) then
     bif (decide (((List.length (Array.toList (List.toArray ([69, 61] : List UInt8)))) + (List.length (@Go.Lib.itoa f0.1))) ≤ maxLen)) then
      bif (decide (((List.length ((Array.toList (List.toArray ([69, 61] : List UInt8))) ++ (@Go.Lib.itoa f0.1))) + (List.length (Array.toList (List.toArray ([32, 82, 61] : List UInt8))))) ≤ maxLen)) then
       bif (decide (((List.length (((Array.toList (List.toArray ([69, 61] : List UInt8))) ++ (@Go.Lib.itoa f0.1)) ++ (Array.toList (List.toArray ([32, 82, 61] : List UInt8))))) + (List.length (Array.toList (List.toArray ([49] : List UInt8))))) ≤ maxLen)) then
        bif (decide (((List.length ((((Array.toList (List.toArray ([69, 61] : List UInt8))) ++ (@Go.Lib.itoa f0.1)) ++ (Array.toList (List.toArray ([32, 82, 61] : List UInt8)))) ++ (Array.toList (List.toArray ([49] : List UInt8))))) + (List.length (Array.toList (List.toArray ([32, 67, 61] : List UInt8))))) ≤ maxLen)) then
         Option.bind (octs_Hex N f0.2.2.1.l) fun v4 =>
         bif (decide (((List.length (((((Array.toList (List.toArray ([69, 61] : List UInt8))) ++ (@Go.Lib.itoa f0.1)) ++ (Array.toList (List.toArray ([32, 82, 61] : List UInt8)))) ++ (Array.toList (List.toArray ([49] : List UInt8)))) ++ (Array.toList (List.toArray ([32, 67, 61] : List UInt8))))) + (List.length v4)) ≤ maxLen)) then
          bif (decide (((List.length ((((((Array.toList (List.toArray ([69, 61] : List UInt8))) ++ (@Go.Lib.itoa f0.1)) ++ (Array.toList (List.toArray ([32, 82, 61] : List UInt8)))) ++ (Array.toList (List.toArray ([49] : List UInt8)))) ++ (Array.toList (List.toArray ([32, 67, 61] : List UInt8)))) ++ v4)) + (List.length (Array.toList (List.toArray ([32, 86, 61, 51, 32, 77, 61] : List UInt8))))) ≤ maxLen)) then
           bif (decide (((List.length (((((((Array.toList (List.toArray ([69, 61] : List UInt8))) ++ (@Go.Lib.itoa f0.1)) ++ (Array.toList (List.toArray ([32, 82, 61] : List UInt8)))) ++ (Array.toList (List.toArray ([49] : List UInt8)))) ++ (Array.toList (List.toArray ([32, 67, 61] : List UInt8)))) ++ v4) ++ (Array.toList (List.toArray ([32, 86, 61, 51, 32, 77, 61] : List UInt8))))) + (List.length f0.2.2.2)) ≤ maxLen)) then
            bif (roomB (List.length ((((((((Array.toList (List.toArray ([69, 61] : List UInt8))) ++ (@Go.Lib.itoa f0.1)) ++ (Array.toList (List.toArray ([32, 82, 61] : List UInt8)))) ++ (Array.toList (List.toArray ([49] : List UInt8)))) ++ (Array.toList (List.toArray ([32, 67, 61] : List UInt8)))) ++ v4) ++ (Array.toList (List.toArray ([32, 86, 61, 51, 32, 77, 61] : List UInt8)))) ++ f0.2.2.2)) 1) then
             some (((@ofB ((((((((Array.toList (List.toArray ([69, 61] : List UInt8))) ++ (@Go.Lib.itoa f0.1)) ++ (Array.toList (List.toArray ([32, 82, 61] : List UInt8)))) ++ (Array.toList (List.toArray ([49] : List UInt8)))) ++ (Array.toList (List.toArray ([32, 67, 61] : List UInt8)))) ++ v4) ++ (Array.toList (List.toArray ([32, 86, 61, 51, 32, 77, 61] : List UInt8)))) ++ f0.2.2.2)), (0 : Int)))
            else
             none
           else
            none
          else
           none
         else
          none
        else
         none
       else
        none
      else
       none
     else
      none
    else
     none
   else
    bif (decide ((-9223372036854775808 : Int) ≤ f0.1 ∧ f0.1 ≤ (9223372036854775807 : Int))) then
     bif (decide (((List.length (Array.toList (List.toArray ([69, 61] : List UInt8)))) + (List.length (@Go.Lib.itoa f0.1))) ≤ maxLen)) then
      bif (decide (((List.length ((Array.toList (List.toArray ([69, 61] : List UInt8))) ++ (@Go.Lib.itoa f0.1))) + (List.length (Array.toList (List.toArray ([32, 82, 61] : List UInt8))))) ≤ maxLen)) then
       bif (decide (((List.length (((Array.toList (List.toArray ([69, 61] : List UInt8))) ++ (@Go.Lib.itoa f0.1)) ++ (Array.toList (List.toArray ([32, 82, 61] : List UInt8))))) + (List.length (Array.toList (List.toArray ([48] : List UInt8))))) ≤ maxLen)) then
        bif (decide (((List.length ((((Array.toList (List.toArray ([69, 61] : List UInt8))) ++ (@Go.Lib.itoa f0.1)) ++ (Array.toList (List.toArray ([32, 82, 61] : List UInt8)))) ++ (Array.toList (List.toArray ([48] : List UInt8))))) + (List.length (Array.toList (List.toArray ([32, 67, 61] : List UInt8))))) ≤ maxLen)) then
         Option.bind (octs_Hex N f0.2.2.1.l) fun v4 =>
         bif (decide (((List.length (((((Array.toList (List.toArray ([69, 61] : List UInt8))) ++ (@Go.Lib.itoa f0.1)) ++ (Array.toList (List.toArray ([32, 82, 61] : List UInt8)))) ++ (Array.toList (List.toArray ([48] : List UInt8)))) ++ (Array.toList (List.toArray ([32, 67, 61] : List UInt8))))) + (List.length v4)) ≤ maxLen)) then
          bif (decide (((List.length ((((((Array.toList (List.toArray ([69, 61] : List UInt8))) ++ (@Go.Lib.itoa f0.1)) ++ (Array.toList (List.toArray ([32, 82, 61] : List UInt8)))) ++ (Array.toList (List.toArray ([48] : List UInt8)))) ++ (Array.toList (List.toArray ([32, 67, 61] : List UInt8)))) ++ v4)) + (List.length (Array.toList (List.toArray ([32, 86, 61, 51, 32, 77, 61] : List UInt8))))) ≤ maxLen)) then
           bif (decide (((List.length (((((((Array.toList (List.toArray ([69, 61] : List UInt8))) ++ (@Go.Lib.itoa f0.1)) ++ (Array.toList (List.toArray ([32, 82, 61] : List UInt8)))) ++ (Array.toList (List.toArray ([48] : List UInt8)))) ++ (Array.toList (List.toArray ([32, 67, 61] : List UInt8)))) ++ v4) ++ (Array.toList (List.toArray ([32, 86, 61, 51, 32, 77, 61] : List UInt8))))) + (List.length f0.2.2.2)) ≤ maxLen)) then
            bif (roomB (List.length ((((((((Array.toList (List.toArray ([69, 61] : List UInt8))) ++ (@Go.Lib.itoa f0.1)) ++ (Array.toList (List.toArray ([32, 82, 61] : List UInt8)))) ++ (Array.toList (List.toArray ([48] : List UInt8)))) ++ (Array.toList (List.toArray ([32, 67, 61] : List UInt8)))) ++ v4) ++ (Array.toList (List.toArray ([32, 86, 61, 51, 32, 77, 61] : List UInt8)))) ++ f0.2.2.2)) 1) then
             some (((@ofB ((((((((Array.toList (List.toArray ([69, 61] : List UInt8))) ++ (@Go.Lib.itoa f0.1)) ++ (Array.toList (List.toArray ([32, 82, 61] : List UInt8)))) ++ (Array.toList (List.toArray ([48] : List UInt8)))) ++ (Array.toList (List.toArray ([32, 67, 61] : List UInt8)))) ++ v4) ++ (Array.toList (List.toArray ([32, 86, 61, 51, 32, 77, 61] : List UInt8)))) ++ f0.2.2.2)), (0 : Int)))
            else
             none
           else
            none
          else
           none
         else
          none
        else
         none
       else
        none
      else
       none
     else
      none
    else
     none
theorem chap2_Fail_S (f0 : Int × (Bool × ((Arr Int 16) × (List UInt8)))) : (runK Tryz.prog (Ev165 N) 400 46 [(.pair (.int .i64) (.pair .bool (.pair (.arr 16 (.int .u8)) .str)))] [(.sl (.int .u8)), (.int .i64)] (f0, ())).run = chap2_Fail N f0 := by kernel_rfl
noncomputable def Ev166 : (R : Type) → Env R := Env.addFn (Ev165 N) 46 (fun R => fnK [(.pair (.int .i64) (.pair .bool (.pair (.arr 16 (.int .u8)) .str)))] [(.sl (.int .u8)), (.int .i64)] (fun c => chap2_Fail N c.1))
theorem Ev166_ok (R : Type) : EnvOK Tryz.prog (Ev166 N R) := EnvOK.addFn hmx (Ev165_ok N R) (Ev165_ok N _) (by kernel_rfl) (fun c => chap2_Fail_S N c.1)
noncomputable def Ev167 : (R : Type) → Env R := Env.addBx (Ev166 N) [(93, 0)]
theorem Ev167_ok (R : Type) : EnvOK Tryz.prog (Ev167 N R) := EnvOK.addBx (Ev166_ok N R) [(93, 0)]
noncomputable def Ev168 : (R : Type) → Env R := Env.addFn (Ev167 N) 111 (fun R => repK)
theorem Ev168_ok (R : Type) : EnvOK Tryz.prog (Ev168 N R) := EnvOK.addExt (Ev167_ok N R) rep_ok
noncomputable def mppe_key (master0 : Arr Int 16) (sentence1 : List UInt8) : Option (Arr Int 16) :=
 bif (roomB (List.length sentence1) 1) then
  Option.bind (sha1_Of N ([master0.l, (@List.replicate Int (Int.toNat (40 : Int)) (0 : Int)), (@ofB sentence1), (@List.replicate Int (40 : Nat) (242 : Int))] : List ((List Int)))) fun v3 =>
  Option.bind (takeI v3.l (16 : Int)) fun (v4 : (List Int)) =>
  Option.bind (@toArr Int (16 : Nat) v4) fun (v5 : (Arr Int 16)) =>
  some (v5)
 else
  none
theorem mppe_key_S (master0 : Arr Int 16) (sentence1 : List UInt8) : (runK Tryz.prog (Ev168 N) 400 93 [(.arr 16 (.int .u8)), .str] [(.arr 16 (.int .u8))] (master0, sentence1, ())).run = mppe_key N master0 sentence1 := by kernel_rfl
noncomputable def Ev169 : (R : Type) → Env R := Env.addFn (Ev168 N) 93 (fun R => fnK [(.arr 16 (.int .u8)), .str] [(.arr 16 (.int .u8))] (fun c => mppe_key N c.1 c.2.1))
theorem Ev169_ok (R : Type) : EnvOK Tryz.prog (Ev169 N R) := EnvOK.addFn hmx (Ev168_ok N R) (Ev168_ok N _) (by kernel_rfl) (fun c => mppe_key_S N c.1 c.2.1)
noncomputable def Ev170 : (R : Type) → Env R := Env.addBx (Ev169 N) [(74, 0)]
theorem Ev170_ok (R : Type) : EnvOK Tryz.prog (Ev170 N R) := EnvOK.addBx (Ev169_ok N R) [(74, 0)]
noncomputable def mppe_Of (master0 : Arr Int 16) (server1 : Bool) : Option ((Arr Int 16) × (Arr Int 16)) :=
 Option.bind (mppe_key N master0 (Array.toList (List.toArray (@List.append UInt8 ([79, 110, 32, 116, 104, 101, 32, 99, 108, 105, 101, 110, 116, 32, 115, 105, 100, 101, 44, 32, 116, 104, 105, 115, 32, 105, 115, 32, 116, 104, 101, 32, 115, 101, 110, 100, 32, 107, 101, 121, 59, 32] : List UInt8) ([111, 110, 32, 116, 104, 101, 32, 115, 101, 114, 118, 101, 114, 32, 115, 105, 100, 101, 44, 32, 105, 116, 32, 105, 115, 32, 116, 104, 101, 32, 114, 101, 99, 101, 105, 118, 101, 32, 107, 101, 121, 46] : List UInt8))))) fun v3 =>
 Option.bind (mppe_key N master0 (Array.toList (List.toArray (@List.append UInt8 ([79, 110, 32, 116, 104, 101, 32, 99, 108, 105, 101, 110, 116, 32, 115, 105, 100, 101, 44, 32, 116, 104, 105, 115, 32, 105, 115, 32, 116, 104, 101, 32, 114, 101, 99, 101, 105, 118, 101, 32, 107, 101] : List UInt8) ([121, 59, 32, 111, 110, 32, 116, 104, 101, 32, 115, 101, 114, 118, 101, 114, 32, 115, 105, 100, 101, 44, 32, 105, 116, 32, 105, 115, 32, 116, 104, 101, 32, 115, 101, 110, 100, 32, 107, 101, 121, 46] : List UInt8))))) fun v4 =>
 bif server1 then
  some ((v4, v3))
 else
  some ((v3, v4))
theorem mppe_Of_S (master0 : Arr Int 16) (server1 : Bool) : (runK Tryz.prog (Ev170 N) 400 74 [(.arr 16 (.int .u8)), .bool] [(.pair (.arr 16 (.int .u8)) (.arr 16 (.int .u8)))] (master0, server1, ())).run = mppe_Of N master0 server1 := by kernel_rfl
noncomputable def Ev171 : (R : Type) → Env R := Env.addFn (Ev170 N) 74 (fun R => fnK [(.arr 16 (.int .u8)), .bool] [(.pair (.arr 16 (.int .u8)) (.arr 16 (.int .u8)))] (fun c => mppe_Of N c.1 c.2.1))
theorem Ev171_ok (R : Type) : EnvOK Tryz.prog (Ev171 N R) := EnvOK.addFn hmx (Ev170_ok N R) (Ev170_ok N _) (by kernel_rfl) (fun c => mppe_Of_S N c.1 c.2.1)
noncomputable def Ev172 : (R : Type) → Env R := Env.addBx (Ev171 N) [(73, 0)]
theorem Ev172_ok (R : Type) : EnvOK Tryz.prog (Ev172 N R) := EnvOK.addBx (Ev171_ok N R) [(73, 0)]
noncomputable def mppe_Upper (k0 : (Arr Int 16) × (Arr Int 16)) (server1 : Bool) : Option (Arr Int 32) :=
 bif server1 then
  Option.bind (octs_Join N ([k0.2.l, k0.1.l] : List ((List Int)))) fun v3 =>
  Option.bind (@toArr Int (32 : Nat) v3) fun (v4 : (Arr Int 32)) =>
  some (v4)
 else
  Option.bind (octs_Join N ([k0.1.l, k0.2.l] : List ((List Int)))) fun v3 =>
  Option.bind (@toArr Int (32 : Nat) v3) fun (v4 : (Arr Int 32)) =>
  some (v4)
theorem mppe_Upper_S (k0 : (Arr Int 16) × (Arr Int 16)) (server1 : Bool) : (runK Tryz.prog (Ev172 N) 400 73 [(.pair (.arr 16 (.int .u8)) (.arr 16 (.int .u8))), .bool] [(.arr 32 (.int .u8))] (k0, server1, ())).run = mppe_Upper N k0 server1 := by kernel_rfl
noncomputable def Ev173 : (R : Type) → Env R := Env.addFn (Ev172 N) 73 (fun R => fnK [(.pair (.arr 16 (.int .u8)) (.arr 16 (.int .u8))), .bool] [(.arr 32 (.int .u8))] (fun c => mppe_Upper N c.1 c.2.1))
theorem Ev173_ok (R : Type) : EnvOK Tryz.prog (Ev173 N R) := EnvOK.addFn hmx (Ev172_ok N R) (Ev172_ok N _) (by kernel_rfl) (fun c => mppe_Upper_S N c.1 c.2.1)
noncomputable def Ev174 : (R : Type) → Env R := Env.addBx (Ev173 N) [(47, 0)]
theorem Ev174_ok (R : Type) : EnvOK Tryz.prog (Ev174 N R) := EnvOK.addBx (Ev173_ok N R) [(47, 0)]
noncomputable def mppe_From (h0 : Arr Int 16) (response1 : Arr Int 24) (server2 : Bool) : Option (Arr Int 32) :=
 Option.bind (mppe_Master N h0 response1) fun v4 =>
 Option.bind (mppe_Of N v4 server2) fun v5 =>
 Option.bind (mppe_Upper N (v5.1, v5.2) server2) fun v6 =>
 some (v6)
theorem mppe_From_S (h0 : Arr Int 16) (response1 : Arr Int 24) (server2 : Bool) : (runK Tryz.prog (Ev174 N) 400 47 [(.arr 16 (.int .u8)), (.arr 24 (.int .u8)), .bool] [(.arr 32 (.int .u8))] (h0, response1, server2, ())).run = mppe_From N h0 response1 server2 := by kernel_rfl
noncomputable def Ev175 : (R : Type) → Env R := Env.addFn (Ev174 N) 47 (fun R => fnK [(.arr 16 (.int .u8)), (.arr 24 (.int .u8)), .bool] [(.arr 32 (.int .u8))] (fun c => mppe_From N c.1 c.2.1 c.2.2.1))
theorem Ev175_ok (R : Type) : EnvOK Tryz.prog (Ev175 N R) := EnvOK.addFn hmx (Ev174_ok N R) (Ev174_ok N _) (by kernel_rfl) (fun c => mppe_From_S N c.1 c.2.1 c.2.2.1)
noncomputable def Ev176 : (R : Type) → Env R := Env.addBx (Ev175 N) [(12, 0)]
theorem Ev176_ok (R : Type) : EnvOK Tryz.prog (Ev176 N R) := EnvOK.addBx (Ev175_ok N R) [(12, 0)]
noncomputable def bytes_Equal (N : Nat) (a0 : List (Int)) (b1 : List (Int)) : Option Bool :=
 Option.bind (@toBy a0) fun (v3 : (List UInt8)) =>
 Option.bind (@toBy b1) fun (v4 : (List UInt8)) =>
 some ((decide (v3 = v4)))
theorem bytes_Equal_S (a0 : List (Int)) (b1 : List (Int)) : (runK Tryz.prog (Ev176 N) 400 29 [(.sl (.int .u8)), (.sl (.int .u8))] [.bool] (a0, b1, ())).run = bytes_Equal N a0 b1 := by kernel_rfl
noncomputable def Ev177 : (R : Type) → Env R := Env.addFn (Ev176 N) 29 (fun R => fnK [(.sl (.int .u8)), (.sl (.int .u8))] [.bool] (fun c => bytes_Equal N c.1 c.2.1))
theorem Ev177_ok (R : Type) : EnvOK Tryz.prog (Ev177 N R) := EnvOK.addFn hmx (Ev176_ok N R) (Ev176_ok N _) (by kernel_rfl) (fun c => bytes_Equal_S N c.1 c.2.1)
noncomputable def ctl_Same (a0 : Int × (Int × (List Int))) (b1 : Int × (Int × (List Int))) : Option Bool :=
 Option.bind (bif (decide (a0.1 = b1.1)) then
   some ((cond true (decide (a0.2.1 = b1.2.1)) false))
  else
   some (false)) fun (v3 : Bool) =>
 bif v3 then
  Option.bind (bytes_Equal N a0.2.2 b1.2.2) fun v4 =>
  some ((cond true v4 false))
 else
  some (false)
theorem ctl_Same_S (a0 : Int × (Int × (List Int))) (b1 : Int × (Int × (List Int))) : (runK Tryz.prog (Ev177 N) 400 12 [(.pair (.int .u8) (.pair (.int .u8) (.sl (.int .u8)))), (.pair (.int .u8) (.pair (.int .u8) (.sl (.int .u8))))] [.bool] (a0, b1, ())).run = ctl_Same N a0 b1 := by kernel_rfl
noncomputable def Ev178 : (R : Type) → Env R := Env.addFn (Ev177 N) 12 (fun R => fnK [(.pair (.int .u8) (.pair (.int .u8) (.sl (.int .u8)))), (.pair (.int .u8) (.pair (.int .u8) (.sl (.int .u8))))] [.bool] (fun c => ctl_Same N c.1 c.2.1))
theorem Ev178_ok (R : Type) : EnvOK Tryz.prog (Ev178 N R) := EnvOK.addFn hmx (Ev177_ok N R) (Ev177_ok N _) (by kernel_rfl) (fun c => ctl_Same_S N c.1 c.2.1)
noncomputable def chaps_Lay (code0 : Int) (id1 : Int) (value2 : List (Int)) (name3 : List UInt8) : Option (Int × (Int × (List Int))) :=
 Option.bind (takeI value2 (@minI (((List.length value2) : Nat) : Int) (255 : Int))) fun (v5 : (List Int)) =>
 bif (roomB (List.length name3) 1) then
  Option.bind (octs_Join N ([([(IntKind.wrap .u8 (((List.length v5) : Nat) : Int))] : List (Int)), v5, (@ofB name3)] : List ((List Int)))) fun v6 =>
  some ((code0, (id1, v6)))
 else
  none
theorem chaps_Lay_S (code0 : Int) (id1 : Int) (value2 : List (Int)) (name3 : List UInt8) : (runK Tryz.prog (Ev178 N) 400 13 [(.int .u8), (.int .u8), (.sl (.int .u8)), .str] [(.pair (.int .u8) (.pair (.int .u8) (.sl (.int .u8))))] (code0, id1, value2, name3, ())).run = chaps_Lay N code0 id1 value2 name3 := by kernel_rfl
noncomputable def Ev179 : (R : Type) → Env R := Env.addFn (Ev178 N) 13 (fun R => fnK [(.int .u8), (.int .u8), (.sl (.int .u8)), .str] [(.pair (.int .u8) (.pair (.int .u8) (.sl (.int .u8))))] (fun c => chaps_Lay N c.1 c.2.1 c.2.2.1 c.2.2.2.1))
theorem Ev179_ok (R : Type) : EnvOK Tryz.prog (Ev179 N R) := EnvOK.addFn hmx (Ev178_ok N R) (Ev178_ok N _) (by kernel_rfl) (fun c => chaps_Lay_S N c.1 c.2.1 c.2.2.1 c.2.2.2.1)
noncomputable def Ev180 : (R : Type) → Env R := Env.addBx (Ev179 N) [(6, 0)]
theorem Ev180_ok (R : Type) : EnvOK Tryz.prog (Ev180 N R) := EnvOK.addBx (Ev179_ok N R) [(6, 0)]
noncomputable def slices_Clone_byte_byte_ne (N : Nat) (s0 : List (Int)) : Option (List Int) :=
 bif (@List.isEmpty Int s0) then
  none
 else
  bif (roomB (List.length s0) 1) then
   some (s0)
  else
   none
theorem slices_Clone_byte_byte_ne_S (s0 : List (Int)) : (runK Tryz.prog (Ev180 N) 400 24 [(.sl (.int .u8))] [(.sl (.int .u8))] (s0, ())).run = slices_Clone_byte_byte_ne N s0 := by kernel_rfl
theorem slices_Clone_byte_byte_n1 (c : Nat) : (runV Tryz.prog (Ev180 N) 400 24 [.c (.slice none 0 c)] [(.sl (.int .u8))]).run = some [] := by kernel_rfl
theorem slices_Clone_byte_byte_n2 (A : Addr) (c : Nat) : (runV Tryz.prog (Ev180 N) 400 24 [.c (.slice (some A) 0 c)] [(.sl (.int .u8))]).run = some [] := by kernel_rfl
noncomputable def slices_Clone_byte_byte (s0 : List (Int)) : Option (List Int) := bif s0.isEmpty then some [] else slices_Clone_byte_byte_ne N s0
noncomputable def Ev181 : (R : Type) → Env R := Env.addFn (Ev180 N) 24 (fun R => fnK [(.sl (.int .u8))] [(.sl (.int .u8))] (fun c => slices_Clone_byte_byte N c.1))
theorem Ev181_ok (R : Type) : EnvOK Tryz.prog (Ev181 N R) := EnvOK.addNil hmx (Ev180_ok N R) (Ev180_ok N _) (by kernel_rfl) (fun c => slices_Clone_byte_byte_ne_S N c.1) (slices_Clone_byte_byte_n1 N) (slices_Clone_byte_byte_n2 N)
noncomputable def chaps_Parse (c0 : Int × (Int × (List Int))) : Option ((List Int) × List UInt8 × Int) :=
 bif (decide ((((List.length c0.2.2) : Nat) : Int) = (0 : Int))) then
  some ((([] : List Int), ((Array.toList (List.toArray ([] : List UInt8))), (4 : Int))))
 else
  Option.bind (getI c0.2.2 (0 : Int)) fun (v2 : Int) =>
  bif (cond false true (decide ((IntKind.wrap .i64 ((((List.length c0.2.2) : Nat) : Int) - 1)) < (IntKind.wrap .i64 v2)))) then
   some ((([] : List Int), ((Array.toList (List.toArray ([] : List UInt8))), (4 : Int))))
  else
   Option.bind (getI c0.2.2 (0 : Int)) fun (v3 : Int) =>
   Option.bind (subI c0.2.2 (1 : Int) (IntKind.wrap .i64 ((1 : Int) + (IntKind.wrap .i64 v3)))) fun (v4 : (List Int)) =>
   Option.bind (slices_Clone_byte_byte N v4) fun v5 =>
   Option.bind (dropI c0.2.2 (IntKind.wrap .i64 ((1 : Int) + (IntKind.wrap .i64 v3)))) fun (v6 : (List Int)) =>
   Option.bind (@toBy v6) fun (v7 : (List UInt8)) =>
   some ((v5, (v7, (0 : Int))))
theorem chaps_Parse_S (c0 : Int × (Int × (List Int))) : (runK Tryz.prog (Ev181 N) 400 6 [(.pair (.int .u8) (.pair (.int .u8) (.sl (.int .u8))))] [(.sl (.int .u8)), .str, (.int .i64)] (c0, ())).run = chaps_Parse N c0 := by kernel_rfl
noncomputable def Ev182 : (R : Type) → Env R := Env.addFn (Ev181 N) 6 (fun R => fnK [(.pair (.int .u8) (.pair (.int .u8) (.sl (.int .u8))))] [(.sl (.int .u8)), .str, (.int .i64)] (fun c => chaps_Parse N c.1))
theorem Ev182_ok (R : Type) : EnvOK Tryz.prog (Ev182 N R) := EnvOK.addFn hmx (Ev181_ok N R) (Ev181_ok N _) (by kernel_rfl) (fun c => chaps_Parse_S N c.1)
noncomputable def chaps_Find_2_chaps_first_chaps_User_L2_I : LI := ⟨21, 2, [], ⟨[(1, .lit (.clo 27 [.box 1 0])), (4, .lit (.box 2 0)), (9, .ty (.sl (.pair .str .str))), (10, .ty (.int .i64)), (11, .ty (.int .i64))], [.box 39 (.pair .str .str), .box 9 .str, .box 39 (.pair .str .str)]⟩, [(.ret, ⟨[(4, .lit (.box 2 0)), (5, .ty .bool)], [.box 39 (.pair .str .str), .box 9 .str, .box 39 (.pair .str .str)]⟩), (.exit 0, ⟨[(4, .lit (.box 2 0))], [.box 39 (.pair .str .str), .box 9 .str, .box 39 (.pair .str .str)]⟩)]⟩
noncomputable def chaps_Find_2_chaps_first_chaps_User_L2 (X : (((List (List UInt8 × (List UInt8))) × (Int × (Int × Unit))) × ((List UInt8 × (List UInt8)) × (List UInt8 × ((List UInt8 × (List UInt8)) × Unit)))) → Option ((((Bool × Unit) × ((List UInt8 × (List UInt8)) × (List UInt8 × ((List UInt8 × (List UInt8)) × Unit)))) ⊕ (Unit × ((List UInt8 × (List UInt8)) × (List UInt8 × ((List UInt8 × (List UInt8)) × Unit))))))) (x9 : List (List UInt8 × (List UInt8))) (x10 : Int) (x11 : Int) (h0 : List UInt8 × (List UInt8)) (h1 : List UInt8) (h2 : List UInt8 × (List UInt8)) : Option ((((Bool × Unit) × ((List UInt8 × (List UInt8)) × (List UInt8 × ((List UInt8 × (List UInt8)) × Unit)))) ⊕ (Unit × ((List UInt8 × (List UInt8)) × (List UInt8 × ((List UInt8 × (List UInt8)) × Unit)))))) :=
 bif (decide (x11 < x10)) then
  Option.bind (getI x9 x11) fun (v8 : (List UInt8 × (List UInt8))) =>
  Option.bind (utf16_Bare N v8.1) fun v9 =>
  bif (decide (v9 = h1)) then
   some ((.inl ((true, ()), ((h0.1, h0.2), (h1, ((v8.1, v8.2), ()))))))
  else
   (X ((x9, (x10, ((IntKind.wrap .i64 (x11 + 1)), ()))), ((h0.1, h0.2), (h1, ((h2.1, h2.2), ())))))
 else
  some ((.inr ((), ((h0.1, h0.2), (h1, ((h2.1, h2.2), ()))))))
noncomputable def chaps_Find_2_chaps_first_chaps_User_L2_R (c : (((List (List UInt8 × (List UInt8))) × (Int × (Int × Unit))) × ((List UInt8 × (List UInt8)) × (List UInt8 × ((List UInt8 × (List UInt8)) × Unit))))) : Option ((((Bool × Unit) × ((List UInt8 × (List UInt8)) × (List UInt8 × ((List UInt8 × (List UInt8)) × Unit)))) ⊕ (Unit × ((List UInt8 × (List UInt8)) × (List UInt8 × ((List UInt8 × (List UInt8)) × Unit)))))) := gl (fun X c => chaps_Find_2_chaps_first_chaps_User_L2 N X c.1.1 c.1.2.1 c.1.2.2.1 c.2.1 c.2.2.1 c.2.2.2.1) N c
theorem chaps_Find_2_chaps_first_chaps_User_L2_S (X : (((List (List UInt8 × (List UInt8))) × (Int × (Int × Unit))) × ((List UInt8 × (List UInt8)) × (List UInt8 × ((List UInt8 × (List UInt8)) × Unit)))) → Option ((((Bool × Unit) × ((List UInt8 × (List UInt8)) × (List UInt8 × ((List UInt8 × (List UInt8)) × Unit)))) ⊕ (Unit × ((List UInt8 × (List UInt8)) × (List UInt8 × ((List UInt8 × (List UInt8)) × Unit))))))) (x9 : List (List UInt8 × (List UInt8))) (x10 : Int) (x11 : Int) (h0 : List UInt8 × (List UInt8)) (h1 : List UInt8) (h2 : List UInt8 × (List UInt8)) : (roundK Tryz.prog (Ev182 N) 400 [26, 2, 9] chaps_Find_2_chaps_first_chaps_User_L2_I (loopAt Tryz.prog [26, 2, 9] 2) X ((x9, x10, x11, ()), (h0, h1, h2, ()))).run = chaps_Find_2_chaps_first_chaps_User_L2 N X x9 x10 x11 h0 h1 h2 := by kernel_rfl
noncomputable def Ev183 : (R : Type) → Env R := Env.addLp (Ev182 N) [26, 2, 9] 2 2 (fun R => lpK Tryz.prog chaps_Find_2_chaps_first_chaps_User_L2_I (fun X c => chaps_Find_2_chaps_first_chaps_User_L2 N X c.1.1 c.1.2.1 c.1.2.2.1 c.2.1 c.2.2.1 c.2.2.2.1) N)
theorem Ev183_ok (R : Type) : EnvOK Tryz.prog (Ev183 N R) := EnvOK.addLp (Ev182_ok N R) (by kernel_rfl) (lpK_ok (li := chaps_Find_2_chaps_first_chaps_User_L2_I) (G := fun X c => chaps_Find_2_chaps_first_chaps_User_L2 N X c.1.1 c.1.2.1 c.1.2.2.1 c.2.1 c.2.2.1 c.2.2.2.1) hmx (Ev182_ok N _) (by kernel_rfl) loopAt_sub (fun (X : CT chaps_Find_2_chaps_first_chaps_User_L2_I.sh → Option (OT chaps_Find_2_chaps_first_chaps_User_L2_I.outs)) (c : CT chaps_Find_2_chaps_first_chaps_User_L2_I.sh) => chaps_Find_2_chaps_first_chaps_User_L2_S N X c.1.1 c.1.2.1 c.1.2.2.1 c.2.1 c.2.2.1 c.2.2.2.1) N)
noncomputable def chaps_Find (users0 : List (List UInt8 × (List UInt8))) (name1 : List UInt8) : Option ((List UInt8 × (List UInt8)) × Bool) :=
 Option.bind (utf16_Bare N name1) fun v3 =>
 Option.bind (chaps_Find_2_chaps_first_chaps_User_L2_R N ((users0, ((((List.length users0) : Nat) : Int), ((0 : Int), ()))), (((Array.toList (List.toArray ([] : List UInt8))), (Array.toList (List.toArray ([] : List UInt8)))), (v3, (((Array.toList (List.toArray ([] : List UInt8))), (Array.toList (List.toArray ([] : List UInt8)))), ()))))) fun v4 =>
 Sum.elim
  (fun (v5 : ((Bool × Unit) × ((List UInt8 × (List UInt8)) × (List UInt8 × ((List UInt8 × (List UInt8)) × Unit))))) =>
  some (((v5.2.2.2.1.1, v5.2.2.2.1.2), v5.1.1)))
  (fun (v5 : (Unit × ((List UInt8 × (List UInt8)) × (List UInt8 × ((List UInt8 × (List UInt8)) × Unit))))) =>
  some ((((Array.toList (List.toArray ([] : List UInt8))), (Array.toList (List.toArray ([] : List UInt8)))), false))) v4
theorem chaps_Find_S (users0 : List (List UInt8 × (List UInt8))) (name1 : List UInt8) : (runK Tryz.prog (Ev183 N) 400 9 [(.sl (.pair .str .str)), .str] [(.pair .str .str), .bool] (users0, name1, ())).run = chaps_Find N users0 name1 := by kernel_rfl
noncomputable def Ev184 : (R : Type) → Env R := Env.addFn (Ev183 N) 9 (fun R => fnK [(.sl (.pair .str .str)), .str] [(.pair .str .str), .bool] (fun c => chaps_Find N c.1 c.2.1))
theorem Ev184_ok (R : Type) : EnvOK Tryz.prog (Ev184 N R) := EnvOK.addFn hmx (Ev183_ok N R) (Ev183_ok N _) (by kernel_rfl) (fun c => chaps_Find_S N c.1 c.2.1)
noncomputable def Ev185 : (R : Type) → Env R := Env.addMv (Ev184 N) [(14, 2)]
theorem Ev185_ok (R : Type) : EnvOK Tryz.prog (Ev185 N R) := EnvOK.addMv (Ev184_ok N R) [(14, 2)]
noncomputable def ref29_Lay (N : Nat) (code0 : Int) (id1 : Int) (value2 : List (Int)) (name3 : List UInt8) : Option (Int × (Int × (List Int))) :=
 Option.bind (takeI value2 (@minI (((List.length value2) : Nat) : Int) (255 : Int))) fun (v5 : (List Int)) =>
 bif (roomB ((List.length ([(IntKind.wrap .u8 (((List.length v5) : Nat) : Int))] : List (Int))) + (List.length v5)) 1) then
  bif (roomB ((List.length (([(IntKind.wrap .u8 (((List.length v5) : Nat) : Int))] : List (Int)) ++ v5)) + (List.length name3)) 1) then
   some ((code0, (id1, ((([(IntKind.wrap .u8 (((List.length v5) : Nat) : Int))] : List (Int)) ++ v5) ++ (@ofB name3)))))
  else
   none
 else
  none
theorem ref29_Lay_S (code0 : Int) (id1 : Int) (value2 : List (Int)) (name3 : List UInt8) : (runK Tryz.prog (Ev185 N) 400 14 [(.int .u8), (.int .u8), (.sl (.int .u8)), .str] [(.pair (.int .u8) (.pair (.int .u8) (.sl (.int .u8))))] (code0, id1, value2, name3, ())).run = ref29_Lay N code0 id1 value2 name3 := by kernel_rfl
noncomputable def Ev186 : (R : Type) → Env R := Env.addFn (Ev185 N) 14 (fun R => fnK [(.int .u8), (.int .u8), (.sl (.int .u8)), .str] [(.pair (.int .u8) (.pair (.int .u8) (.sl (.int .u8))))] (fun c => ref29_Lay N c.1 c.2.1 c.2.2.1 c.2.2.2.1))
theorem Ev186_ok (R : Type) : EnvOK Tryz.prog (Ev186 N R) := EnvOK.addFn hmx (Ev185_ok N R) (Ev185_ok N _) (by kernel_rfl) (fun c => ref29_Lay_S N c.1 c.2.1 c.2.2.1 c.2.2.2.1)
noncomputable def Ev187 : (R : Type) → Env R := Env.addBx (Ev186 N) [(8, 0)]
theorem Ev187_ok (R : Type) : EnvOK Tryz.prog (Ev187 N R) := EnvOK.addBx (Ev186_ok N R) [(8, 0)]
noncomputable def ref29_Parse (N : Nat) (c0 : Int × (Int × (List Int))) : Option ((List Int) × List UInt8 × Int) :=
 bif (decide ((((List.length c0.2.2) : Nat) : Int) = (0 : Int))) then
  some ((([] : List Int), ((Array.toList (List.toArray ([] : List UInt8))), (4 : Int))))
 else
  Option.bind (getI c0.2.2 (0 : Int)) fun (v2 : Int) =>
  bif (cond false true (decide ((IntKind.wrap .i64 ((((List.length c0.2.2) : Nat) : Int) - 1)) < (IntKind.wrap .i64 v2)))) then
   some ((([] : List Int), ((Array.toList (List.toArray ([] : List UInt8))), (4 : Int))))
  else
   Option.bind (getI c0.2.2 (0 : Int)) fun (v3 : Int) =>
   Option.bind (subI c0.2.2 (1 : Int) (IntKind.wrap .i64 ((1 : Int) + (IntKind.wrap .i64 v3)))) fun (v4 : (List Int)) =>
   Option.bind (dropI c0.2.2 (IntKind.wrap .i64 ((1 : Int) + (IntKind.wrap .i64 v3)))) fun (v5 : (List Int)) =>
   Option.bind (@toBy v5) fun (v6 : (List UInt8)) =>
   some ((v4, (v6, (0 : Int))))
theorem ref29_Parse_S (c0 : Int × (Int × (List Int))) : (runK Tryz.prog (Ev187 N) 400 8 [(.pair (.int .u8) (.pair (.int .u8) (.sl (.int .u8))))] [(.sl (.int .u8)), .str, (.int .i64)] (c0, ())).run = ref29_Parse N c0 := by kernel_rfl
noncomputable def Ev188 : (R : Type) → Env R := Env.addFn (Ev187 N) 8 (fun R => fnK [(.pair (.int .u8) (.pair (.int .u8) (.sl (.int .u8))))] [(.sl (.int .u8)), .str, (.int .i64)] (fun c => ref29_Parse N c.1))
theorem Ev188_ok (R : Type) : EnvOK Tryz.prog (Ev188 N R) := EnvOK.addFn hmx (Ev187_ok N R) (Ev187_ok N _) (by kernel_rfl) (fun c => ref29_Parse_S N c.1)
noncomputable def ref29_Find_L2_I : LI := ⟨27, 0, [], ⟨[(0, .ty (.sl (.pair .str .str))), (1, .ty .str), (4, .lit (.box 0 0)), (6, .ty (.int .i64))], [.box 44 (.pair .str .str)]⟩, [(.ret, ⟨[(4, .lit (.box 0 0)), (5, .ty .bool)], [.box 44 (.pair .str .str)]⟩), (.exit 0, ⟨[(4, .lit (.box 0 0))], [.box 44 (.pair .str .str)]⟩)]⟩
noncomputable def ref29_Find_L2 (X : (((List (List UInt8 × (List UInt8))) × (List UInt8 × (Int × Unit))) × ((List UInt8 × (List UInt8)) × Unit)) → Option ((((Bool × Unit) × ((List UInt8 × (List UInt8)) × Unit)) ⊕ (Unit × ((List UInt8 × (List UInt8)) × Unit))))) (users0 : List (List UInt8 × (List UInt8))) (name1 : List UInt8) (i6 : Int) (h0 : List UInt8 × (List UInt8)) : Option ((((Bool × Unit) × ((List UInt8 × (List UInt8)) × Unit)) ⊕ (Unit × ((List UInt8 × (List UInt8)) × Unit)))) :=
 bif (decide (i6 < (((List.length users0) : Nat) : Int))) then
  Option.bind (getI users0 i6) fun (v6 : (List UInt8 × (List UInt8))) =>
  Option.bind (ref09_Bare N v6.1) fun v7 =>
  Option.bind (ref09_Bare N name1) fun v8 =>
  bif (decide (v7 = v8)) then
   Option.bind (getI users0 i6) fun (v9 : (List UInt8 × (List UInt8))) =>
   some ((.inl ((true, ()), ((v9.1, v9.2), ()))))
  else
   (X ((users0, (name1, ((IntKind.wrap .i64 (i6 + 1)), ()))), ((h0.1, h0.2), ())))
 else
  some ((.inr ((), ((h0.1, h0.2), ()))))
noncomputable def ref29_Find_L2_R (c : (((List (List UInt8 × (List UInt8))) × (List UInt8 × (Int × Unit))) × ((List UInt8 × (List UInt8)) × Unit))) : Option ((((Bool × Unit) × ((List UInt8 × (List UInt8)) × Unit)) ⊕ (Unit × ((List UInt8 × (List UInt8)) × Unit)))) := gl (fun X c => ref29_Find_L2 N X c.1.1 c.1.2.1 c.1.2.2.1 c.2.1) N c
theorem ref29_Find_L2_S (X : (((List (List UInt8 × (List UInt8))) × (List UInt8 × (Int × Unit))) × ((List UInt8 × (List UInt8)) × Unit)) → Option ((((Bool × Unit) × ((List UInt8 × (List UInt8)) × Unit)) ⊕ (Unit × ((List UInt8 × (List UInt8)) × Unit))))) (users0 : List (List UInt8 × (List UInt8))) (name1 : List UInt8) (i6 : Int) (h0 : List UInt8 × (List UInt8)) : (roundK Tryz.prog (Ev188 N) 400 [11] ref29_Find_L2_I (loopAt Tryz.prog [11] 2) X ((users0, name1, i6, ()), (h0, ()))).run = ref29_Find_L2 N X users0 name1 i6 h0 := by kernel_rfl
noncomputable def Ev189 : (R : Type) → Env R := Env.addLp (Ev188 N) [11] 0 2 (fun R => lpK Tryz.prog ref29_Find_L2_I (fun X c => ref29_Find_L2 N X c.1.1 c.1.2.1 c.1.2.2.1 c.2.1) N)
theorem Ev189_ok (R : Type) : EnvOK Tryz.prog (Ev189 N R) := EnvOK.addLp (Ev188_ok N R) (by kernel_rfl) (lpK_ok (li := ref29_Find_L2_I) (G := fun X c => ref29_Find_L2 N X c.1.1 c.1.2.1 c.1.2.2.1 c.2.1) hmx (Ev188_ok N _) (by kernel_rfl) loopAt_sub (fun (X : CT ref29_Find_L2_I.sh → Option (OT ref29_Find_L2_I.outs)) (c : CT ref29_Find_L2_I.sh) => ref29_Find_L2_S N X c.1.1 c.1.2.1 c.1.2.2.1 c.2.1) N)
noncomputable def ref29_Find (users0 : List (List UInt8 × (List UInt8))) (name1 : List UInt8) : Option ((List UInt8 × (List UInt8)) × Bool) :=
 Option.bind (ref29_Find_L2_R N ((users0, (name1, ((0 : Int), ()))), (((Array.toList (List.toArray ([] : List UInt8))), (Array.toList (List.toArray ([] : List UInt8)))), ()))) fun v3 =>
 Sum.elim
  (fun (v4 : ((Bool × Unit) × ((List UInt8 × (List UInt8)) × Unit))) =>
  some (((v4.2.1.1, v4.2.1.2), v4.1.1)))
  (fun (v4 : (Unit × ((List UInt8 × (List UInt8)) × Unit))) =>
  some ((((Array.toList (List.toArray ([] : List UInt8))), (Array.toList (List.toArray ([] : List UInt8)))), false))) v3
theorem ref29_Find_S (users0 : List (List UInt8 × (List UInt8))) (name1 : List UInt8) : (runK Tryz.prog (Ev189 N) 400 11 [(.sl (.pair .str .str)), .str] [(.pair .str .str), .bool] (users0, name1, ())).run = ref29_Find N users0 name1 := by kernel_rfl
noncomputable def Ev190 : (R : Type) → Env R := Env.addFn (Ev189 N) 11 (fun R => fnK [(.sl (.pair .str .str)), .str] [(.pair .str .str), .bool] (fun c => ref29_Find N c.1 c.2.1))
theorem Ev190_ok (R : Type) : EnvOK Tryz.prog (Ev190 N R) := EnvOK.addFn hmx (Ev189_ok N R) (Ev189_ok N _) (by kernel_rfl) (fun c => ref29_Find_S N c.1 c.2.1)
noncomputable def chaps_New (N : Nat) (name0 : List UInt8) (users1 : List (List UInt8 × (List UInt8))) : Option (List UInt8 × ((List (List UInt8 × (List UInt8))) × (Int × (Int × ((Arr Int 16) × (Int × (Int × ((List Int) × (Int × (List UInt8 × (Arr Int 32))))))))))) :=
 bif (@List.isEmpty (List UInt8 × (List UInt8)) users1) then
  none
 else
  bif (roomB ((List.length ([] : List ((List UInt8 × (List UInt8))))) + (List.length users1)) 32) then
   some ((name0, ((([] : List ((List UInt8 × (List UInt8)))) ++ users1), ((0 : Int), ((0 : Int), ((@Arr.cons Int 15 0 (@Arr.cons Int 14 0 (@Arr.cons Int 13 0 (@Arr.cons Int 12 0 (@Arr.cons Int 11 0 (@Arr.cons Int 10 0 (@Arr.cons Int 9 0 (@Arr.cons Int 8 0 (@Arr.cons Int 7 0 (@Arr.cons Int 6 0 (@Arr.cons Int 5 0 (@Arr.cons Int 4 0 (@Arr.cons Int 3 0 (@Arr.cons Int 2 0 (@Arr.cons Int 1 0 (@Arr.cons Int 0 0 (@Arr.nil Int))))))))))))))))), ((0 : Int), ((0 : Int), (([] : List Int), ((0 : Int), ((Array.toList (List.toArray ([] : List UInt8))), (@Arr.cons Int 31 0 (@Arr.cons Int 30 0 (@Arr.cons Int 29 0 (@Arr.cons Int 28 0 (@Arr.cons Int 27 0 (@Arr.cons Int 26 0 (@Arr.cons Int 25 0 (@Arr.cons Int 24 0 (@Arr.cons Int 23 0 (@Arr.cons Int 22 0 (@Arr.cons Int 21 0 (@Arr.cons Int 20 0 (@Arr.cons Int 19 0 (@Arr.cons Int 18 0 (@Arr.cons Int 17 0 (@Arr.cons Int 16 0 (@Arr.cons Int 15 0 (@Arr.cons Int 14 0 (@Arr.cons Int 13 0 (@Arr.cons Int 12 0 (@Arr.cons Int 11 0 (@Arr.cons Int 10 0 (@Arr.cons Int 9 0 (@Arr.cons Int 8 0 (@Arr.cons Int 7 0 (@Arr.cons Int 6 0 (@Arr.cons Int 5 0 (@Arr.cons Int 4 0 (@Arr.cons Int 3 0 (@Arr.cons Int 2 0 (@Arr.cons Int 1 0 (@Arr.cons Int 0 0 (@Arr.nil Int))))))))))))))))))))))))))))))))))))))))))))
  else
   none
theorem chaps_New_S (name0 : List UInt8) (users1 : List (List UInt8 × (List UInt8))) : (runK Tryz.prog (Ev190 N) 400 16 [.str, (.sl (.pair .str .str))] [(.pair .str (.pair (.sl (.pair .str .str)) (.pair (.int .i64) (.pair (.int .u8) (.pair (.arr 16 (.int .u8)) (.pair (.int .i64) (.pair (.int .i64) (.pair (.sl (.int .u8)) (.pair (.int .u8) (.pair .str (.arr 32 (.int .u8))))))))))))] (name0, users1, ())).run = chaps_New N name0 users1 := by kernel_rfl
noncomputable def Ev191 : (R : Type) → Env R := Env.addFn (Ev190 N) 16 (fun R => fnK [.str, (.sl (.pair .str .str))] [(.pair .str (.pair (.sl (.pair .str .str)) (.pair (.int .i64) (.pair (.int .u8) (.pair (.arr 16 (.int .u8)) (.pair (.int .i64) (.pair (.int .i64) (.pair (.sl (.int .u8)) (.pair (.int .u8) (.pair .str (.arr 32 (.int .u8))))))))))))] (fun c => chaps_New N c.1 c.2.1))
theorem Ev191_ok (R : Type) : EnvOK Tryz.prog (Ev191 N R) := EnvOK.addFn hmx (Ev190_ok N R) (Ev190_ok N _) (by kernel_rfl) (fun c => chaps_New_S N c.1 c.2.1)
noncomputable def chaps_Asker_ask (x0 : List UInt8 × ((List (List UInt8 × (List UInt8))) × (Int × (Int × ((Arr Int 16) × (Int × (Int × ((List Int) × (Int × (List UInt8 × (Arr Int 32))))))))))) : Option ((List UInt8 × ((List (List UInt8 × (List UInt8))) × (Int × (Int × ((Arr Int 16) × (Int × (Int × ((List Int) × (Int × (List UInt8 × (Arr Int 32))))))))))) × List (Int × (Int × (List Int)))) :=
 Option.bind (chaps_Lay N (1 : Int) x0.2.2.2.1 x0.2.2.2.2.1.l x0.1) fun v2 =>
 some (((x0.1, (x0.2.1, (x0.2.2.1, (x0.2.2.2.1, (x0.2.2.2.2.1, ((IntKind.wrap .i64 (x0.2.2.2.2.2.1 + 1)), ((3 : Int), (x0.2.2.2.2.2.2.2.1, (x0.2.2.2.2.2.2.2.2.1, (x0.2.2.2.2.2.2.2.2.2.1, x0.2.2.2.2.2.2.2.2.2.2)))))))))), ([(v2.1, (v2.2.1, v2.2.2))] : List ((Int × (Int × (List Int)))))))
theorem chaps_Asker_ask_S (x0 : List UInt8 × ((List (List UInt8 × (List UInt8))) × (Int × (Int × ((Arr Int 16) × (Int × (Int × ((List Int) × (Int × (List UInt8 × (Arr Int 32))))))))))) : (runK Tryz.prog (Ev191 N) 400 32 [(.pair .str (.pair (.sl (.pair .str .str)) (.pair (.int .i64) (.pair (.int .u8) (.pair (.arr 16 (.int .u8)) (.pair (.int .i64) (.pair (.int .i64) (.pair (.sl (.int .u8)) (.pair (.int .u8) (.pair .str (.arr 32 (.int .u8))))))))))))] [(.pair .str (.pair (.sl (.pair .str .str)) (.pair (.int .i64) (.pair (.int .u8) (.pair (.arr 16 (.int .u8)) (.pair (.int .i64) (.pair (.int .i64) (.pair (.sl (.int .u8)) (.pair (.int .u8) (.pair .str (.arr 32 (.int .u8)))))))))))), (.sl (.pair (.int .u8) (.pair (.int .u8) (.sl (.int .u8)))))] (x0, ())).run = chaps_Asker_ask N x0 := by kernel_rfl
noncomputable def Ev192 : (R : Type) → Env R := Env.addFn (Ev191 N) 32 (fun R => fnK [(.pair .str (.pair (.sl (.pair .str .str)) (.pair (.int .i64) (.pair (.int .u8) (.pair (.arr 16 (.int .u8)) (.pair (.int .i64) (.pair (.int .i64) (.pair (.sl (.int .u8)) (.pair (.int .u8) (.pair .str (.arr 32 (.int .u8))))))))))))] [(.pair .str (.pair (.sl (.pair .str .str)) (.pair (.int .i64) (.pair (.int .u8) (.pair (.arr 16 (.int .u8)) (.pair (.int .i64) (.pair (.int .i64) (.pair (.sl (.int .u8)) (.pair (.int .u8) (.pair .str (.arr 32 (.int .u8)))))))))))), (.sl (.pair (.int .u8) (.pair (.int .u8) (.sl (.int .u8)))))] (fun c => chaps_Asker_ask N c.1))
theorem Ev192_ok (R : Type) : EnvOK Tryz.prog (Ev192 N R) := EnvOK.addFn hmx (Ev191_ok N R) (Ev191_ok N _) (by kernel_rfl) (fun c => chaps_Asker_ask_S N c.1)
noncomputable def Ev193 : (R : Type) → Env R := Env.addBx (Ev192 N) [(37, 0)]
theorem Ev193_ok (R : Type) : EnvOK Tryz.prog (Ev193 N R) := EnvOK.addBx (Ev192_ok N R) [(37, 0)]
noncomputable def bytes_Clone_ne (N : Nat) (b0 : List (Int)) : Option (List Int) :=
 bif (@List.isEmpty Int b0) then
  none
 else
  bif (roomB (List.length b0) 1) then
   some (b0)
  else
   none
theorem bytes_Clone_ne_S (b0 : List (Int)) : (runK Tryz.prog (Ev193 N) 400 50 [(.sl (.int .u8))] [(.sl (.int .u8))] (b0, ())).run = bytes_Clone_ne N b0 := by kernel_rfl
theorem bytes_Clone_n1 (c : Nat) : (runV Tryz.prog (Ev193 N) 400 50 [.c (.slice none 0 c)] [(.sl (.int .u8))]).run = some [] := by kernel_rfl
theorem bytes_Clone_n2 (A : Addr) (c : Nat) : (runV Tryz.prog (Ev193 N) 400 50 [.c (.slice (some A) 0 c)] [(.sl (.int .u8))]).run = some [] := by kernel_rfl
noncomputable def bytes_Clone (b0 : List (Int)) : Option (List Int) := bif b0.isEmpty then some [] else bytes_Clone_ne N b0
noncomputable def Ev194 : (R : Type) → Env R := Env.addFn (Ev193 N) 50 (fun R => fnK [(.sl (.int .u8))] [(.sl (.int .u8))] (fun c => bytes_Clone N c.1))
theorem Ev194_ok (R : Type) : EnvOK Tryz.prog (Ev194 N R) := EnvOK.addNil hmx (Ev193_ok N R) (Ev193_ok N _) (by kernel_rfl) (fun c => bytes_Clone_ne_S N c.1) (bytes_Clone_n1 N) (bytes_Clone_n2 N)
noncomputable def chaps_Asker_told (x0 : List UInt8 × ((List (List UInt8 × (List UInt8))) × (Int × (Int × ((Arr Int 16) × (Int × (Int × ((List Int) × (Int × (List UInt8 × (Arr Int 32))))))))))) : Option (List (Int × (Int × (List Int)))) :=
 bif (decide (x0.2.2.2.2.2.2.2.2.1 = (0 : Int))) then
  some (([] : List ((Int × (Int × (List Int))))))
 else
  Option.bind (bytes_Clone N x0.2.2.2.2.2.2.2.1) fun v2 =>
  some (([(x0.2.2.2.2.2.2.2.2.1, (x0.2.2.2.1, v2))] : List ((Int × (Int × (List Int))))))
theorem chaps_Asker_told_S (x0 : List UInt8 × ((List (List UInt8 × (List UInt8))) × (Int × (Int × ((Arr Int 16) × (Int × (Int × ((List Int) × (Int × (List UInt8 × (Arr Int 32))))))))))) : (runK Tryz.prog (Ev194 N) 400 37 [(.pair .str (.pair (.sl (.pair .str .str)) (.pair (.int .i64) (.pair (.int .u8) (.pair (.arr 16 (.int .u8)) (.pair (.int .i64) (.pair (.int .i64) (.pair (.sl (.int .u8)) (.pair (.int .u8) (.pair .str (.arr 32 (.int .u8))))))))))))] [(.sl (.pair (.int .u8) (.pair (.int .u8) (.sl (.int .u8)))))] (x0, ())).run = chaps_Asker_told N x0 := by kernel_rfl
noncomputable def Ev195 : (R : Type) → Env R := Env.addFn (Ev194 N) 37 (fun R => fnK [(.pair .str (.pair (.sl (.pair .str .str)) (.pair (.int .i64) (.pair (.int .u8) (.pair (.arr 16 (.int .u8)) (.pair (.int .i64) (.pair (.int .i64) (.pair (.sl (.int .u8)) (.pair (.int .u8) (.pair .str (.arr 32 (.int .u8))))))))))))] [(.sl (.pair (.int .u8) (.pair (.int .u8) (.sl (.int .u8)))))] (fun c => chaps_Asker_told N c.1))
theorem Ev195_ok (R : Type) : EnvOK Tryz.prog (Ev195 N R) := EnvOK.addFn hmx (Ev194_ok N R) (Ev194_ok N _) (by kernel_rfl) (fun c => chaps_Asker_told_S N c.1)
noncomputable def Ev196 : (R : Type) → Env R := Env.addBx (Ev195 N) [(45, 0)]
theorem Ev196_ok (R : Type) : EnvOK Tryz.prog (Ev196 N R) := EnvOK.addBx (Ev195_ok N R) [(45, 0)]
noncomputable def chaps_Asker_proof (x0 : List UInt8 × ((List (List UInt8 × (List UInt8))) × (Int × (Int × ((Arr Int 16) × (Int × (Int × ((List Int) × (Int × (List UInt8 × (Arr Int 32))))))))))) (peer1 : Arr Int 16) (response2 : Arr Int 24) (name3 : List UInt8) : Option ((Arr Int 16) × Bool) :=
 Option.bind (chaps_Find N x0.2.1 name3) fun v5 =>
 bif (!v5.2) then
  some (((@Arr.cons Int 15 0 (@Arr.cons Int 14 0 (@Arr.cons Int 13 0 (@Arr.cons Int 12 0 (@Arr.cons Int 11 0 (@Arr.cons Int 10 0 (@Arr.cons Int 9 0 (@Arr.cons Int 8 0 (@Arr.cons Int 7 0 (@Arr.cons Int 6 0 (@Arr.cons Int 5 0 (@Arr.cons Int 4 0 (@Arr.cons Int 3 0 (@Arr.cons Int 2 0 (@Arr.cons Int 1 0 (@Arr.cons Int 0 0 (@Arr.nil Int))))))))))))))))), false))
 else
  Option.bind (nthash_Of N v5.1.2) fun v6 =>
  bif (!(decide (v6.2 = (0 : Int)))) then
   some (((@Arr.cons Int 15 0 (@Arr.cons Int 14 0 (@Arr.cons Int 13 0 (@Arr.cons Int 12 0 (@Arr.cons Int 11 0 (@Arr.cons Int 10 0 (@Arr.cons Int 9 0 (@Arr.cons Int 8 0 (@Arr.cons Int 7 0 (@Arr.cons Int 6 0 (@Arr.cons Int 5 0 (@Arr.cons Int 4 0 (@Arr.cons Int 3 0 (@Arr.cons Int 2 0 (@Arr.cons Int 1 0 (@Arr.cons Int 0 0 (@Arr.nil Int))))))))))))))))), false))
  else
   Option.bind (chap2_Challenge N peer1 x0.2.2.2.2.1 name3) fun v7 =>
   Option.bind (chap2_Response N v7 v6.1) fun v8 =>
   Option.bind (octs_Same N v8.l response2.l) fun v9 =>
   bif (!v9) then
    some (((@Arr.cons Int 15 0 (@Arr.cons Int 14 0 (@Arr.cons Int 13 0 (@Arr.cons Int 12 0 (@Arr.cons Int 11 0 (@Arr.cons Int 10 0 (@Arr.cons Int 9 0 (@Arr.cons Int 8 0 (@Arr.cons Int 7 0 (@Arr.cons Int 6 0 (@Arr.cons Int 5 0 (@Arr.cons Int 4 0 (@Arr.cons Int 3 0 (@Arr.cons Int 2 0 (@Arr.cons Int 1 0 (@Arr.cons Int 0 0 (@Arr.nil Int))))))))))))))))), false))
   else
    some ((v6.1, true))
theorem chaps_Asker_proof_S (x0 : List UInt8 × ((List (List UInt8 × (List UInt8))) × (Int × (Int × ((Arr Int 16) × (Int × (Int × ((List Int) × (Int × (List UInt8 × (Arr Int 32))))))))))) (peer1 : Arr Int 16) (response2 : Arr Int 24) (name3 : List UInt8) : (runK Tryz.prog (Ev196 N) 400 45 [(.pair .str (.pair (.sl (.pair .str .str)) (.pair (.int .i64) (.pair (.int .u8) (.pair (.arr 16 (.int .u8)) (.pair (.int .i64) (.pair (.int .i64) (.pair (.sl (.int .u8)) (.pair (.int .u8) (.pair .str (.arr 32 (.int .u8)))))))))))), (.arr 16 (.int .u8)), (.arr 24 (.int .u8)), .str] [(.arr 16 (.int .u8)), .bool] (x0, peer1, response2, name3, ())).run = chaps_Asker_proof N x0 peer1 response2 name3 := by kernel_rfl
noncomputable def Ev197 : (R : Type) → Env R := Env.addFn (Ev196 N) 45 (fun R => fnK [(.pair .str (.pair (.sl (.pair .str .str)) (.pair (.int .i64) (.pair (.int .u8) (.pair (.arr 16 (.int .u8)) (.pair (.int .i64) (.pair (.int .i64) (.pair (.sl (.int .u8)) (.pair (.int .u8) (.pair .str (.arr 32 (.int .u8)))))))))))), (.arr 16 (.int .u8)), (.arr 24 (.int .u8)), .str] [(.arr 16 (.int .u8)), .bool] (fun c => chaps_Asker_proof N c.1 c.2.1 c.2.2.1 c.2.2.2.1))
theorem Ev197_ok (R : Type) : EnvOK Tryz.prog (Ev197 N R) := EnvOK.addFn hmx (Ev196_ok N R) (Ev196_ok N _) (by kernel_rfl) (fun c => chaps_Asker_proof_S N c.1 c.2.1 c.2.2.1 c.2.2.2.1)
noncomputable def chaps_Asker_judge (x0 : List UInt8 × ((List (List UInt8 × (List UInt8))) × (Int × (Int × ((Arr Int 16) × (Int × (Int × ((List Int) × (Int × (List UInt8 × (Arr Int 32))))))))))) (c1 : Int × (Int × (List Int))) : Option ((List UInt8 × ((List (List UInt8 × (List UInt8))) × (Int × (Int × ((Arr Int 16) × (Int × (Int × ((List Int) × (Int × (List UInt8 × (Arr Int 32))))))))))) × List (Int × (Int × (List Int)))) :=
 Option.bind (chaps_Parse N (c1.1, (c1.2.1, c1.2.2))) fun v3 =>
 bif (!(decide (v3.2.2 = (0 : Int)))) then
  some (((x0.1, (x0.2.1, (x0.2.2.1, (x0.2.2.2.1, (x0.2.2.2.2.1, (x0.2.2.2.2.2.1, (x0.2.2.2.2.2.2.1, (x0.2.2.2.2.2.2.2.1, (x0.2.2.2.2.2.2.2.2.1, (x0.2.2.2.2.2.2.2.2.2.1, x0.2.2.2.2.2.2.2.2.2.2)))))))))), ([] : List ((Int × (Int × (List Int)))))))
 else
  Option.bind (chap2_Parse N v3.1) fun v4 =>
  bif (!(decide (v4.2.2 = (0 : Int)))) then
   some (((x0.1, (x0.2.1, (x0.2.2.1, (x0.2.2.2.1, (x0.2.2.2.2.1, (x0.2.2.2.2.2.1, (x0.2.2.2.2.2.2.1, (x0.2.2.2.2.2.2.2.1, (x0.2.2.2.2.2.2.2.2.1, (x0.2.2.2.2.2.2.2.2.2.1, x0.2.2.2.2.2.2.2.2.2.2)))))))))), ([] : List ((Int × (Int × (List Int)))))))
  else
   Option.bind (chaps_Asker_proof N (x0.1, (x0.2.1, (x0.2.2.1, (x0.2.2.2.1, (x0.2.2.2.2.1, (x0.2.2.2.2.2.1, (x0.2.2.2.2.2.2.1, (x0.2.2.2.2.2.2.2.1, (x0.2.2.2.2.2.2.2.2.1, (x0.2.2.2.2.2.2.2.2.2.1, x0.2.2.2.2.2.2.2.2.2.2)))))))))) v4.1 v4.2.1 v3.2.1) fun v5 =>
   bif (!v5.2) then
    Option.bind (chap2_Fail N ((691 : Int), (false, (x0.2.2.2.2.1, (Array.toList (List.toArray ([78, 111] : List UInt8))))))) fun v6 =>
    Option.bind (chaps_Asker_told N (x0.1, (x0.2.1, ((3 : Int), (x0.2.2.2.1, (x0.2.2.2.2.1, (x0.2.2.2.2.2.1, (x0.2.2.2.2.2.2.1, (v6.1, ((4 : Int), (x0.2.2.2.2.2.2.2.2.2.1, x0.2.2.2.2.2.2.2.2.2.2))))))))))) fun v7 =>
    some (((x0.1, (x0.2.1, ((3 : Int), (x0.2.2.2.1, (x0.2.2.2.2.1, (x0.2.2.2.2.2.1, (x0.2.2.2.2.2.2.1, (v6.1, ((4 : Int), (x0.2.2.2.2.2.2.2.2.2.1, x0.2.2.2.2.2.2.2.2.2.2)))))))))), v7))
   else
    Option.bind (mppe_From N v5.1 v4.2.1 true) fun v6 =>
    Option.bind (chap2_Challenge N v4.1 x0.2.2.2.2.1 v3.2.1) fun v7 =>
    Option.bind (chap2_Answer N v5.1 v4.2.1 v7) fun v8 =>
    Option.bind (chap2_Success N v8 (Array.toList (List.toArray ([87, 101, 108, 99, 111, 109, 101] : List UInt8)))) fun v9 =>
    Option.bind (chaps_Asker_told N (x0.1, (x0.2.1, ((2 : Int), (x0.2.2.2.1, (x0.2.2.2.2.1, (x0.2.2.2.2.2.1, (x0.2.2.2.2.2.2.1, (v9, ((3 : Int), (v3.2.1, v6))))))))))) fun v10 =>
    some (((x0.1, (x0.2.1, ((2 : Int), (x0.2.2.2.1, (x0.2.2.2.2.1, (x0.2.2.2.2.2.1, (x0.2.2.2.2.2.2.1, (v9, ((3 : Int), (v3.2.1, v6)))))))))), v10))
theorem chaps_Asker_judge_S (x0 : List UInt8 × ((List (List UInt8 × (List UInt8))) × (Int × (Int × ((Arr Int 16) × (Int × (Int × ((List Int) × (Int × (List UInt8 × (Arr Int 32))))))))))) (c1 : Int × (Int × (List Int))) : (runK Tryz.prog (Ev197 N) 400 36 [(.pair .str (.pair (.sl (.pair .str .str)) (.pair (.int .i64) (.pair (.int .u8) (.pair (.arr 16 (.int .u8)) (.pair (.int .i64) (.pair (.int .i64) (.pair (.sl (.int .u8)) (.pair (.int .u8) (.pair .str (.arr 32 (.int .u8)))))))))))), (.pair (.int .u8) (.pair (.int .u8) (.sl (.int .u8))))] [(.pair .str (.pair (.sl (.pair .str .str)) (.pair (.int .i64) (.pair (.int .u8) (.pair (.arr 16 (.int .u8)) (.pair (.int .i64) (.pair (.int .i64) (.pair (.sl (.int .u8)) (.pair (.int .u8) (.pair .str (.arr 32 (.int .u8)))))))))))), (.sl (.pair (.int .u8) (.pair (.int .u8) (.sl (.int .u8)))))] (x0, c1, ())).run = chaps_Asker_judge N x0 c1 := by kernel_rfl
noncomputable def Ev198 : (R : Type) → Env R := Env.addFn (Ev197 N) 36 (fun R => fnK [(.pair .str (.pair (.sl (.pair .str .str)) (.pair (.int .i64) (.pair (.int .u8) (.pair (.arr 16 (.int .u8)) (.pair (.int .i64) (.pair (.int .i64) (.pair (.sl (.int .u8)) (.pair (.int .u8) (.pair .str (.arr 32 (.int .u8)))))))))))), (.pair (.int .u8) (.pair (.int .u8) (.sl (.int .u8))))] [(.pair .str (.pair (.sl (.pair .str .str)) (.pair (.int .i64) (.pair (.int .u8) (.pair (.arr 16 (.int .u8)) (.pair (.int .i64) (.pair (.int .i64) (.pair (.sl (.int .u8)) (.pair (.int .u8) (.pair .str (.arr 32 (.int .u8)))))))))))), (.sl (.pair (.int .u8) (.pair (.int .u8) (.sl (.int .u8)))))] (fun c => chaps_Asker_judge N c.1 c.2.1))
theorem Ev198_ok (R : Type) : EnvOK Tryz.prog (Ev198 N R) := EnvOK.addFn hmx (Ev197_ok N R) (Ev197_ok N _) (by kernel_rfl) (fun c => chaps_Asker_judge_S N c.1 c.2.1)
noncomputable def chaps_Asker_Start (x0 : List UInt8 × ((List (List UInt8 × (List UInt8))) × (Int × (Int × ((Arr Int 16) × (Int × (Int × ((List Int) × (Int × (List UInt8 × (Arr Int 32))))))))))) (challenge1 : Arr Int 16) : Option ((List UInt8 × ((List (List UInt8 × (List UInt8))) × (Int × (Int × ((Arr Int 16) × (Int × (Int × ((List Int) × (Int × (List UInt8 × (Arr Int 32))))))))))) × List (Int × (Int × (List Int)))) :=
 bif (!(decide (x0.2.2.1 = (0 : Int)))) then
  some (((x0.1, (x0.2.1, (x0.2.2.1, (x0.2.2.2.1, (x0.2.2.2.2.1, (x0.2.2.2.2.2.1, (x0.2.2.2.2.2.2.1, (x0.2.2.2.2.2.2.2.1, (x0.2.2.2.2.2.2.2.2.1, (x0.2.2.2.2.2.2.2.2.2.1, x0.2.2.2.2.2.2.2.2.2.2)))))))))), ([] : List ((Int × (Int × (List Int)))))))
 else
  Option.bind (chaps_Asker_ask N (x0.1, (x0.2.1, ((1 : Int), ((IntKind.wrap .u8 (x0.2.2.2.1 + 1)), (challenge1, (x0.2.2.2.2.2.1, (x0.2.2.2.2.2.2.1, (x0.2.2.2.2.2.2.2.1, (x0.2.2.2.2.2.2.2.2.1, (x0.2.2.2.2.2.2.2.2.2.1, x0.2.2.2.2.2.2.2.2.2.2))))))))))) fun v3 =>
  some (((v3.1.1, (v3.1.2.1, (v3.1.2.2.1, (v3.1.2.2.2.1, (v3.1.2.2.2.2.1, (v3.1.2.2.2.2.2.1, (v3.1.2.2.2.2.2.2.1, (v3.1.2.2.2.2.2.2.2.1, (v3.1.2.2.2.2.2.2.2.2.1, (v3.1.2.2.2.2.2.2.2.2.2.1, v3.1.2.2.2.2.2.2.2.2.2.2)))))))))), v3.2))
theorem chaps_Asker_Start_S (x0 : List UInt8 × ((List (List UInt8 × (List UInt8))) × (Int × (Int × ((Arr Int 16) × (Int × (Int × ((List Int) × (Int × (List UInt8 × (Arr Int 32))))))))))) (challenge1 : Arr Int 16) : (runK Tryz.prog (Ev198 N) 400 17 [(.pair .str (.pair (.sl (.pair .str .str)) (.pair (.int .i64) (.pair (.int .u8) (.pair (.arr 16 (.int .u8)) (.pair (.int .i64) (.pair (.int .i64) (.pair (.sl (.int .u8)) (.pair (.int .u8) (.pair .str (.arr 32 (.int .u8)))))))))))), (.arr 16 (.int .u8))] [(.pair .str (.pair (.sl (.pair .str .str)) (.pair (.int .i64) (.pair (.int .u8) (.pair (.arr 16 (.int .u8)) (.pair (.int .i64) (.pair (.int .i64) (.pair (.sl (.int .u8)) (.pair (.int .u8) (.pair .str (.arr 32 (.int .u8)))))))))))), (.sl (.pair (.int .u8) (.pair (.int .u8) (.sl (.int .u8)))))] (x0, challenge1, ())).run = chaps_Asker_Start N x0 challenge1 := by kernel_rfl
noncomputable def Ev199 : (R : Type) → Env R := Env.addFn (Ev198 N) 17 (fun R => fnK [(.pair .str (.pair (.sl (.pair .str .str)) (.pair (.int .i64) (.pair (.int .u8) (.pair (.arr 16 (.int .u8)) (.pair (.int .i64) (.pair (.int .i64) (.pair (.sl (.int .u8)) (.pair (.int .u8) (.pair .str (.arr 32 (.int .u8)))))))))))), (.arr 16 (.int .u8))] [(.pair .str (.pair (.sl (.pair .str .str)) (.pair (.int .i64) (.pair (.int .u8) (.pair (.arr 16 (.int .u8)) (.pair (.int .i64) (.pair (.int .i64) (.pair (.sl (.int .u8)) (.pair (.int .u8) (.pair .str (.arr 32 (.int .u8)))))))))))), (.sl (.pair (.int .u8) (.pair (.int .u8) (.sl (.int .u8)))))] (fun c => chaps_Asker_Start N c.1 c.2.1))
theorem Ev199_ok (R : Type) : EnvOK Tryz.prog (Ev199 N R) := EnvOK.addFn hmx (Ev198_ok N R) (Ev198_ok N _) (by kernel_rfl) (fun c => chaps_Asker_Start_S N c.1 c.2.1)
noncomputable def Ev200 : (R : Type) → Env R := Env.addBx (Ev199 N) [(19, 0)]
theorem Ev200_ok (R : Type) : EnvOK Tryz.prog (Ev200 N R) := EnvOK.addBx (Ev199_ok N R) [(19, 0)]
noncomputable def chaps_Asker_Take (x0 : List UInt8 × ((List (List UInt8 × (List UInt8))) × (Int × (Int × ((Arr Int 16) × (Int × (Int × ((List Int) × (Int × (List UInt8 × (Arr Int 32))))))))))) (c1 : Int × (Int × (List Int))) : Option ((List UInt8 × ((List (List UInt8 × (List UInt8))) × (Int × (Int × ((Arr Int 16) × (Int × (Int × ((List Int) × (Int × (List UInt8 × (Arr Int 32))))))))))) × List (Int × (Int × (List Int)))) :=
 Option.bind (bif (!(decide (c1.1 = (2 : Int)))) then
   some (true)
  else
   some ((cond false true (!(decide (c1.2.1 = x0.2.2.2.1)))))) fun (v3 : Bool) =>
 bif v3 then
  some (((x0.1, (x0.2.1, (x0.2.2.1, (x0.2.2.2.1, (x0.2.2.2.2.1, (x0.2.2.2.2.2.1, (x0.2.2.2.2.2.2.1, (x0.2.2.2.2.2.2.2.1, (x0.2.2.2.2.2.2.2.2.1, (x0.2.2.2.2.2.2.2.2.2.1, x0.2.2.2.2.2.2.2.2.2.2)))))))))), ([] : List ((Int × (Int × (List Int)))))))
 else
  bif (decide (x0.2.2.1 = (1 : Int))) then
   Option.bind (chaps_Asker_judge N (x0.1, (x0.2.1, (x0.2.2.1, (x0.2.2.2.1, (x0.2.2.2.2.1, (x0.2.2.2.2.2.1, (x0.2.2.2.2.2.2.1, (x0.2.2.2.2.2.2.2.1, (x0.2.2.2.2.2.2.2.2.1, (x0.2.2.2.2.2.2.2.2.2.1, x0.2.2.2.2.2.2.2.2.2.2)))))))))) (c1.1, (c1.2.1, c1.2.2))) fun v4 =>
   some (((v4.1.1, (v4.1.2.1, (v4.1.2.2.1, (v4.1.2.2.2.1, (v4.1.2.2.2.2.1, (v4.1.2.2.2.2.2.1, (v4.1.2.2.2.2.2.2.1, (v4.1.2.2.2.2.2.2.2.1, (v4.1.2.2.2.2.2.2.2.2.1, (v4.1.2.2.2.2.2.2.2.2.2.1, v4.1.2.2.2.2.2.2.2.2.2.2)))))))))), v4.2))
  else
   bif (decide (x0.2.2.1 = (2 : Int))) then
    bif (decide (x0.2.2.1 = (2 : Int))) then
     Option.bind (chaps_Asker_told N (x0.1, (x0.2.1, (x0.2.2.1, (x0.2.2.2.1, (x0.2.2.2.2.1, (x0.2.2.2.2.2.1, (x0.2.2.2.2.2.2.1, (x0.2.2.2.2.2.2.2.1, (x0.2.2.2.2.2.2.2.2.1, (x0.2.2.2.2.2.2.2.2.2.1, x0.2.2.2.2.2.2.2.2.2.2))))))))))) fun v4 =>
     some (((x0.1, (x0.2.1, (x0.2.2.1, (x0.2.2.2.1, (x0.2.2.2.2.1, (x0.2.2.2.2.2.1, (x0.2.2.2.2.2.2.1, (x0.2.2.2.2.2.2.2.1, (x0.2.2.2.2.2.2.2.2.1, (x0.2.2.2.2.2.2.2.2.2.1, x0.2.2.2.2.2.2.2.2.2.2)))))))))), v4))
    else
     some (((x0.1, (x0.2.1, (x0.2.2.1, (x0.2.2.2.1, (x0.2.2.2.2.1, (x0.2.2.2.2.2.1, (x0.2.2.2.2.2.2.1, (x0.2.2.2.2.2.2.2.1, (x0.2.2.2.2.2.2.2.2.1, (x0.2.2.2.2.2.2.2.2.2.1, x0.2.2.2.2.2.2.2.2.2.2)))))))))), ([] : List ((Int × (Int × (List Int)))))))
   else
    bif (decide (x0.2.2.1 = (3 : Int))) then
     Option.bind (chaps_Asker_told N (x0.1, (x0.2.1, (x0.2.2.1, (x0.2.2.2.1, (x0.2.2.2.2.1, (x0.2.2.2.2.2.1, (x0.2.2.2.2.2.2.1, (x0.2.2.2.2.2.2.2.1, (x0.2.2.2.2.2.2.2.2.1, (x0.2.2.2.2.2.2.2.2.2.1, x0.2.2.2.2.2.2.2.2.2.2))))))))))) fun v4 =>
     some (((x0.1, (x0.2.1, (x0.2.2.1, (x0.2.2.2.1, (x0.2.2.2.2.1, (x0.2.2.2.2.2.1, (x0.2.2.2.2.2.2.1, (x0.2.2.2.2.2.2.2.1, (x0.2.2.2.2.2.2.2.2.1, (x0.2.2.2.2.2.2.2.2.2.1, x0.2.2.2.2.2.2.2.2.2.2)))))))))), v4))
    else
     some (((x0.1, (x0.2.1, (x0.2.2.1, (x0.2.2.2.1, (x0.2.2.2.2.1, (x0.2.2.2.2.2.1, (x0.2.2.2.2.2.2.1, (x0.2.2.2.2.2.2.2.1, (x0.2.2.2.2.2.2.2.2.1, (x0.2.2.2.2.2.2.2.2.2.1, x0.2.2.2.2.2.2.2.2.2.2)))))))))), ([] : List ((Int × (Int × (List Int)))))))
theorem chaps_Asker_Take_S (x0 : List UInt8 × ((List (List UInt8 × (List UInt8))) × (Int × (Int × ((Arr Int 16) × (Int × (Int × ((List Int) × (Int × (List UInt8 × (Arr Int 32))))))))))) (c1 : Int × (Int × (List Int))) : (runK Tryz.prog (Ev200 N) 400 19 [(.pair .str (.pair (.sl (.pair .str .str)) (.pair (.int .i64) (.pair (.int .u8) (.pair (.arr 16 (.int .u8)) (.pair (.int .i64) (.pair (.int .i64) (.pair (.sl (.int .u8)) (.pair (.int .u8) (.pair .str (.arr 32 (.int .u8)))))))))))), (.pair (.int .u8) (.pair (.int .u8) (.sl (.int .u8))))] [(.pair .str (.pair (.sl (.pair .str .str)) (.pair (.int .i64) (.pair (.int .u8) (.pair (.arr 16 (.int .u8)) (.pair (.int .i64) (.pair (.int .i64) (.pair (.sl (.int .u8)) (.pair (.int .u8) (.pair .str (.arr 32 (.int .u8)))))))))))), (.sl (.pair (.int .u8) (.pair (.int .u8) (.sl (.int .u8)))))] (x0, c1, ())).run = chaps_Asker_Take N x0 c1 := by kernel_rfl
noncomputable def Ev201 : (R : Type) → Env R := Env.addFn (Ev200 N) 19 (fun R => fnK [(.pair .str (.pair (.sl (.pair .str .str)) (.pair (.int .i64) (.pair (.int .u8) (.pair (.arr 16 (.int .u8)) (.pair (.int .i64) (.pair (.int .i64) (.pair (.sl (.int .u8)) (.pair (.int .u8) (.pair .str (.arr 32 (.int .u8)))))))))))), (.pair (.int .u8) (.pair (.int .u8) (.sl (.int .u8))))] [(.pair .str (.pair (.sl (.pair .str .str)) (.pair (.int .i64) (.pair (.int .u8) (.pair (.arr 16 (.int .u8)) (.pair (.int .i64) (.pair (.int .i64) (.pair (.sl (.int .u8)) (.pair (.int .u8) (.pair .str (.arr 32 (.int .u8)))))))))))), (.sl (.pair (.int .u8) (.pair (.int .u8) (.sl (.int .u8)))))] (fun c => chaps_Asker_Take N c.1 c.2.1))
theorem Ev201_ok (R : Type) : EnvOK Tryz.prog (Ev201 N R) := EnvOK.addFn hmx (Ev200_ok N R) (Ev200_ok N _) (by kernel_rfl) (fun c => chaps_Asker_Take_S N c.1 c.2.1)
noncomputable def Ev202 : (R : Type) → Env R := Env.addBx (Ev201 N) [(7, 0)]
theorem Ev202_ok (R : Type) : EnvOK Tryz.prog (Ev202 N R) := EnvOK.addBx (Ev201_ok N R) [(7, 0)]
noncomputable def law29_packet (N : Nat) (c0 : Int × (Int × (List Int))) : Option (Int × (Int × (List Int))) :=
 some ((c0.1, (c0.2.1, c0.2.2)))
theorem law29_packet_S (c0 : Int × (Int × (List Int))) : (runK Tryz.prog (Ev202 N) 400 7 [(.pair (.int .u8) (.pair (.int .u8) (.sl (.int .u8))))] [(.pair (.int .u8) (.pair (.int .u8) (.sl (.int .u8))))] (c0, ())).run = law29_packet N c0 := by kernel_rfl
noncomputable def Ev203 : (R : Type) → Env R := Env.addFn (Ev202 N) 7 (fun R => fnK [(.pair (.int .u8) (.pair (.int .u8) (.sl (.int .u8))))] [(.pair (.int .u8) (.pair (.int .u8) (.sl (.int .u8))))] (fun c => law29_packet N c.1))
theorem Ev203_ok (R : Type) : EnvOK Tryz.prog (Ev203 N R) := EnvOK.addFn hmx (Ev202_ok N R) (Ev202_ok N _) (by kernel_rfl) (fun c => law29_packet_S N c.1)
noncomputable def Ev204 : (R : Type) → Env R := Env.addMv (Ev203 N) [(10, 5)]
theorem Ev204_ok (R : Type) : EnvOK Tryz.prog (Ev204 N R) := EnvOK.addMv (Ev203_ok N R) [(10, 5)]
noncomputable def law29_users_L3_I : LI := ⟨18, 0, [(3, 39)], ⟨[(3, .lit (.own 0)), (6, .ty (.sl (.pair .str .str))), (7, .ty (.int .i64)), (8, .ty (.int .i64))], [.own (.pair .str .str) 39]⟩, [(.exit 0, ⟨[(3, .lit (.own 0))], [.own (.pair .str .str) 39]⟩)]⟩
noncomputable def law29_users_L3 (N : Nat) (X : (((List (List UInt8 × (List UInt8))) × (Int × (Int × Unit))) × ((List (List UInt8 × (List UInt8))) × Unit)) → Option ((Unit × ((List (List UInt8 × (List UInt8))) × Unit)))) (x6 : List (List UInt8 × (List UInt8))) (x7 : Int) (x8 : Int) (h0 : List (List UInt8 × (List UInt8))) : Option ((Unit × ((List (List UInt8 × (List UInt8))) × Unit))) :=
 bif (decide (x8 < x7)) then
  Option.bind (getI x6 x8) fun (v6 : (List UInt8 × (List UInt8))) =>
  bif (roomB ((List.length h0) + (List.length ([(v6.1, v6.2)] : List ((List UInt8 × (List UInt8)))))) 32) then
   (X ((x6, (x7, ((IntKind.wrap .i64 (x8 + 1)), ()))), ((h0 ++ ([(v6.1, v6.2)] : List ((List UInt8 × (List UInt8))))), ())))
  else
   none
 else
  some (((), (h0, ())))
noncomputable def law29_users_L3_R (c : (((List (List UInt8 × (List UInt8))) × (Int × (Int × Unit))) × ((List (List UInt8 × (List UInt8))) × Unit))) : Option ((Unit × ((List (List UInt8 × (List UInt8))) × Unit))) := gl (fun X c => law29_users_L3 N X c.1.1 c.1.2.1 c.1.2.2.1 c.2.1) N c
theorem law29_users_L3_S (X : (((List (List UInt8 × (List UInt8))) × (Int × (Int × Unit))) × ((List (List UInt8 × (List UInt8))) × Unit)) → Option ((Unit × ((List (List UInt8 × (List UInt8))) × Unit)))) (x6 : List (List UInt8 × (List UInt8))) (x7 : Int) (x8 : Int) (h0 : List (List UInt8 × (List UInt8))) : (roundK Tryz.prog (Ev204 N) 400 [10] law29_users_L3_I (loopAt Tryz.prog [10] 3) X ((x6, x7, x8, ()), (h0, ()))).run = law29_users_L3 N X x6 x7 x8 h0 := by kernel_rfl
noncomputable def Ev205 : (R : Type) → Env R := Env.addLp (Ev204 N) [10] 0 3 (fun R => lpK Tryz.prog law29_users_L3_I (fun X c => law29_users_L3 N X c.1.1 c.1.2.1 c.1.2.2.1 c.2.1) N)
theorem Ev205_ok (R : Type) : EnvOK Tryz.prog (Ev205 N R) := EnvOK.addLp (Ev204_ok N R) (by kernel_rfl) (lpK_ok (li := law29_users_L3_I) (G := fun X c => law29_users_L3 N X c.1.1 c.1.2.1 c.1.2.2.1 c.2.1) hmx (Ev204_ok N _) (by kernel_rfl) loopAt_sub (fun (X : CT law29_users_L3_I.sh → Option (OT law29_users_L3_I.outs)) (c : CT law29_users_L3_I.sh) => law29_users_L3_S N X c.1.1 c.1.2.1 c.1.2.2.1 c.2.1) N)
noncomputable def law29_users (l0 : List (List UInt8 × (List UInt8))) : Option (List (List UInt8 × (List UInt8))) :=
 Option.bind (law29_users_L3_R N ((l0, ((((List.length l0) : Nat) : Int), ((0 : Int), ()))), (([] : List ((List UInt8 × (List UInt8)))), ()))) fun v2 =>
 some (v2.2.1)
theorem law29_users_S (l0 : List (List UInt8 × (List UInt8))) : (runK Tryz.prog (Ev205 N) 400 10 [(.sl (.pair .str .str))] [(.sl (.pair .str .str))] (l0, ())).run = law29_users N l0 := by kernel_rfl
noncomputable def Ev206 : (R : Type) → Env R := Env.addFn (Ev205 N) 10 (fun R => fnK [(.sl (.pair .str .str))] [(.sl (.pair .str .str))] (fun c => law29_users N c.1))
theorem Ev206_ok (R : Type) : EnvOK Tryz.prog (Ev206 N R) := EnvOK.addFn hmx (Ev205_ok N R) (Ev205_ok N _) (by kernel_rfl) (fun c => law29_users_S N c.1)
noncomputable def law29_far_L2_I : LI := ⟨29, 0, [], ⟨[(0, .ty (.sl (.pair .str .str))), (9, .ty (.sl (.pair .str .str))), (10, .ty (.int .i64)), (11, .ty (.int .i64))], []⟩, [(.ret, ⟨[(2, .ty .bool)], []⟩), (.exit 0, ⟨[(0, .ty (.sl (.pair .str .str)))], []⟩)]⟩
noncomputable def law29_far_L2 (N : Nat) (X : (((List (List UInt8 × (List UInt8))) × ((List (List UInt8 × (List UInt8))) × (Int × (Int × Unit)))) × Unit) → Option ((((Bool × Unit) × Unit) ⊕ (((List (List UInt8 × (List UInt8))) × Unit) × Unit)))) (l0 : List (List UInt8 × (List UInt8))) (x9 : List (List UInt8 × (List UInt8))) (x10 : Int) (x11 : Int) : Option ((((Bool × Unit) × Unit) ⊕ (((List (List UInt8 × (List UInt8))) × Unit) × Unit))) :=
 bif (decide (x11 < x10)) then
  Option.bind (getI x9 x11) fun (v6 : (List UInt8 × (List UInt8))) =>
  bif (decide ((200 : Int) < (((List.length v6.1) : Nat) : Int))) then
   some ((.inl ((true, ()), ())))
  else
   Option.bind (some ((cond false true (decide ((300 : Int) < (((List.length v6.2) : Nat) : Int)))))) fun (v7 : Bool) =>
   bif v7 then
    some ((.inl ((true, ()), ())))
   else
    (X ((l0, (x9, (x10, ((IntKind.wrap .i64 (x11 + 1)), ())))), ()))
 else
  some ((.inr ((l0, ()), ())))
noncomputable def law29_far_L2_R (c : (((List (List UInt8 × (List UInt8))) × ((List (List UInt8 × (List UInt8))) × (Int × (Int × Unit)))) × Unit)) : Option ((((Bool × Unit) × Unit) ⊕ (((List (List UInt8 × (List UInt8))) × Unit) × Unit))) := gl (fun X c => law29_far_L2 N X c.1.1 c.1.2.1 c.1.2.2.1 c.1.2.2.2.1) N c
theorem law29_far_L2_S (X : (((List (List UInt8 × (List UInt8))) × ((List (List UInt8 × (List UInt8))) × (Int × (Int × Unit)))) × Unit) → Option ((((Bool × Unit) × Unit) ⊕ (((List (List UInt8 × (List UInt8))) × Unit) × Unit)))) (l0 : List (List UInt8 × (List UInt8))) (x9 : List (List UInt8 × (List UInt8))) (x10 : Int) (x11 : Int) : (roundK Tryz.prog (Ev206 N) 400 [4] law29_far_L2_I (loopAt Tryz.prog [4] 2) X ((l0, x9, x10, x11, ()), ())).run = law29_far_L2 N X l0 x9 x10 x11 := by kernel_rfl
noncomputable def Ev207 : (R : Type) → Env R := Env.addLp (Ev206 N) [4] 0 2 (fun R => lpK Tryz.prog law29_far_L2_I (fun X c => law29_far_L2 N X c.1.1 c.1.2.1 c.1.2.2.1 c.1.2.2.2.1) N)
theorem Ev207_ok (R : Type) : EnvOK Tryz.prog (Ev207 N R) := EnvOK.addLp (Ev206_ok N R) (by kernel_rfl) (lpK_ok (li := law29_far_L2_I) (G := fun X c => law29_far_L2 N X c.1.1 c.1.2.1 c.1.2.2.1 c.1.2.2.2.1) hmx (Ev206_ok N _) (by kernel_rfl) loopAt_sub (fun (X : CT law29_far_L2_I.sh → Option (OT law29_far_L2_I.outs)) (c : CT law29_far_L2_I.sh) => law29_far_L2_S N X c.1.1 c.1.2.1 c.1.2.2.1 c.1.2.2.2.1) N)
noncomputable def law29_far (l0 : List (List UInt8 × (List UInt8))) : Option Bool :=
 Option.bind (takeI l0 (@minI (((List.length l0) : Nat) : Int) (10 : Int))) fun (v2 : (List (List UInt8 × (List UInt8)))) =>
 Option.bind (law29_far_L2_R N ((l0, (v2, ((((List.length v2) : Nat) : Int), ((0 : Int), ())))), ())) fun v3 =>
 Sum.elim
  (fun (v4 : ((Bool × Unit) × Unit)) =>
  some (v4.1.1))
  (fun (v4 : (((List (List UInt8 × (List UInt8))) × Unit) × Unit)) =>
  some ((decide ((10 : Int) < (((List.length v4.1.1) : Nat) : Int))))) v3
theorem law29_far_S (l0 : List (List UInt8 × (List UInt8))) : (runK Tryz.prog (Ev207 N) 400 4 [(.sl (.pair .str .str))] [.bool] (l0, ())).run = law29_far N l0 := by kernel_rfl
noncomputable def Ev208 : (R : Type) → Env R := Env.addFn (Ev207 N) 4 (fun R => fnK [(.sl (.pair .str .str))] [.bool] (fun c => law29_far N c.1))
theorem Ev208_ok (R : Type) : EnvOK Tryz.prog (Ev208 N R) := EnvOK.addFn hmx (Ev207_ok N R) (Ev207_ok N _) (by kernel_rfl) (fun c => law29_far_S N c.1)
noncomputable def Ev209 : (R : Type) → Env R := Env.addBx (Ev208 N) [(21, 0)]
theorem Ev209_ok (R : Type) : EnvOK Tryz.prog (Ev209 N R) := EnvOK.addBx (Ev208_ok N R) [(21, 0)]
noncomputable def chaps_Asker_State (N : Nat) (x0 : List UInt8 × ((List (List UInt8 × (List UInt8))) × (Int × (Int × ((Arr Int 16) × (Int × (Int × ((List Int) × (Int × (List UInt8 × (Arr Int 32))))))))))) : Option Int :=
 some (x0.2.2.1)
theorem chaps_Asker_State_S (x0 : List UInt8 × ((List (List UInt8 × (List UInt8))) × (Int × (Int × ((Arr Int 16) × (Int × (Int × ((List Int) × (Int × (List UInt8 × (Arr Int 32))))))))))) : (runK Tryz.prog (Ev209 N) 400 21 [(.pair .str (.pair (.sl (.pair .str .str)) (.pair (.int .i64) (.pair (.int .u8) (.pair (.arr 16 (.int .u8)) (.pair (.int .i64) (.pair (.int .i64) (.pair (.sl (.int .u8)) (.pair (.int .u8) (.pair .str (.arr 32 (.int .u8))))))))))))] [(.int .i64)] (x0, ())).run = chaps_Asker_State N x0 := by kernel_rfl
noncomputable def Ev210 : (R : Type) → Env R := Env.addFn (Ev209 N) 21 (fun R => fnK [(.pair .str (.pair (.sl (.pair .str .str)) (.pair (.int .i64) (.pair (.int .u8) (.pair (.arr 16 (.int .u8)) (.pair (.int .i64) (.pair (.int .i64) (.pair (.sl (.int .u8)) (.pair (.int .u8) (.pair .str (.arr 32 (.int .u8))))))))))))] [(.int .i64)] (fun c => chaps_Asker_State N c.1))
theorem Ev210_ok (R : Type) : EnvOK Tryz.prog (Ev210 N R) := EnvOK.addFn hmx (Ev209_ok N R) (Ev209_ok N _) (by kernel_rfl) (fun c => chaps_Asker_State_S N c.1)
noncomputable def Ev211 : (R : Type) → Env R := Env.addBx (Ev210 N) [(22, 0)]
theorem Ev211_ok (R : Type) : EnvOK Tryz.prog (Ev211 N R) := EnvOK.addBx (Ev210_ok N R) [(22, 0)]
noncomputable def chaps_Asker_Name (N : Nat) (x0 : List UInt8 × ((List (List UInt8 × (List UInt8))) × (Int × (Int × ((Arr Int 16) × (Int × (Int × ((List Int) × (Int × (List UInt8 × (Arr Int 32))))))))))) : Option (List UInt8) :=
 some (x0.2.2.2.2.2.2.2.2.2.1)
theorem chaps_Asker_Name_S (x0 : List UInt8 × ((List (List UInt8 × (List UInt8))) × (Int × (Int × ((Arr Int 16) × (Int × (Int × ((List Int) × (Int × (List UInt8 × (Arr Int 32))))))))))) : (runK Tryz.prog (Ev211 N) 400 22 [(.pair .str (.pair (.sl (.pair .str .str)) (.pair (.int .i64) (.pair (.int .u8) (.pair (.arr 16 (.int .u8)) (.pair (.int .i64) (.pair (.int .i64) (.pair (.sl (.int .u8)) (.pair (.int .u8) (.pair .str (.arr 32 (.int .u8))))))))))))] [.str] (x0, ())).run = chaps_Asker_Name N x0 := by kernel_rfl
noncomputable def Ev212 : (R : Type) → Env R := Env.addFn (Ev211 N) 22 (fun R => fnK [(.pair .str (.pair (.sl (.pair .str .str)) (.pair (.int .i64) (.pair (.int .u8) (.pair (.arr 16 (.int .u8)) (.pair (.int .i64) (.pair (.int .i64) (.pair (.sl (.int .u8)) (.pair (.int .u8) (.pair .str (.arr 32 (.int .u8))))))))))))] [.str] (fun c => chaps_Asker_Name N c.1))
theorem Ev212_ok (R : Type) : EnvOK Tryz.prog (Ev212 N R) := EnvOK.addFn hmx (Ev211_ok N R) (Ev211_ok N _) (by kernel_rfl) (fun c => chaps_Asker_Name_S N c.1)
noncomputable def Ev213 : (R : Type) → Env R := Env.addBx (Ev212 N) [(23, 0)]
theorem Ev213_ok (R : Type) : EnvOK Tryz.prog (Ev213 N R) := EnvOK.addBx (Ev212_ok N R) [(23, 0)]
noncomputable def chaps_Asker_Key (N : Nat) (x0 : List UInt8 × ((List (List UInt8 × (List UInt8))) × (Int × (Int × ((Arr Int 16) × (Int × (Int × ((List Int) × (Int × (List UInt8 × (Arr Int 32))))))))))) : Option (Arr Int 32) :=
 some (x0.2.2.2.2.2.2.2.2.2.2)
theorem chaps_Asker_Key_S (x0 : List UInt8 × ((List (List UInt8 × (List UInt8))) × (Int × (Int × ((Arr Int 16) × (Int × (Int × ((List Int) × (Int × (List UInt8 × (Arr Int 32))))))))))) : (runK Tryz.prog (Ev213 N) 400 23 [(.pair .str (.pair (.sl (.pair .str .str)) (.pair (.int .i64) (.pair (.int .u8) (.pair (.arr 16 (.int .u8)) (.pair (.int .i64) (.pair (.int .i64) (.pair (.sl (.int .u8)) (.pair (.int .u8) (.pair .str (.arr 32 (.int .u8))))))))))))] [(.arr 32 (.int .u8))] (x0, ())).run = chaps_Asker_Key N x0 := by kernel_rfl
noncomputable def Ev214 : (R : Type) → Env R := Env.addFn (Ev213 N) 23 (fun R => fnK [(.pair .str (.pair (.sl (.pair .str .str)) (.pair (.int .i64) (.pair (.int .u8) (.pair (.arr 16 (.int .u8)) (.pair (.int .i64) (.pair (.int .i64) (.pair (.sl (.int .u8)) (.pair (.int .u8) (.pair .str (.arr 32 (.int .u8))))))))))))] [(.arr 32 (.int .u8))] (fun c => chaps_Asker_Key N c.1))
theorem Ev214_ok (R : Type) : EnvOK Tryz.prog (Ev214 N R) := EnvOK.addFn hmx (Ev213_ok N R) (Ev213_ok N _) (by kernel_rfl) (fun c => chaps_Asker_Key_S N c.1)
noncomputable def law29_alive : Option Bool :=
 Option.bind (chaps_Asker_Start N ((Array.toList (List.toArray ([115] : List UInt8))), ((([] : List ((List UInt8 × (List UInt8)))) ++ ([((Array.toList (List.toArray ([117] : List UInt8))), (Array.toList (List.toArray ([112] : List UInt8))))] : List ((List UInt8 × (List UInt8))))), ((0 : Int), ((0 : Int), ((@Arr.cons Int 15 0 (@Arr.cons Int 14 0 (@Arr.cons Int 13 0 (@Arr.cons Int 12 0 (@Arr.cons Int 11 0 (@Arr.cons Int 10 0 (@Arr.cons Int 9 0 (@Arr.cons Int 8 0 (@Arr.cons Int 7 0 (@Arr.cons Int 6 0 (@Arr.cons Int 5 0 (@Arr.cons Int 4 0 (@Arr.cons Int 3 0 (@Arr.cons Int 2 0 (@Arr.cons Int 1 0 (@Arr.cons Int 0 0 (@Arr.nil Int))))))))))))))))), ((0 : Int), ((0 : Int), (([] : List Int), ((0 : Int), ((Array.toList (List.toArray ([] : List UInt8))), (@Arr.cons Int 31 0 (@Arr.cons Int 30 0 (@Arr.cons Int 29 0 (@Arr.cons Int 28 0 (@Arr.cons Int 27 0 (@Arr.cons Int 26 0 (@Arr.cons Int 25 0 (@Arr.cons Int 24 0 (@Arr.cons Int 23 0 (@Arr.cons Int 22 0 (@Arr.cons Int 21 0 (@Arr.cons Int 20 0 (@Arr.cons Int 19 0 (@Arr.cons Int 18 0 (@Arr.cons Int 17 0 (@Arr.cons Int 16 0 (@Arr.cons Int 15 0 (@Arr.cons Int 14 0 (@Arr.cons Int 13 0 (@Arr.cons Int 12 0 (@Arr.cons Int 11 0 (@Arr.cons Int 10 0 (@Arr.cons Int 9 0 (@Arr.cons Int 8 0 (@Arr.cons Int 7 0 (@Arr.cons Int 6 0 (@Arr.cons Int 5 0 (@Arr.cons Int 4 0 (@Arr.cons Int 3 0 (@Arr.cons Int 2 0 (@Arr.cons Int 1 0 (@Arr.cons Int 0 0 (@Arr.nil Int))))))))))))))))))))))))))))))))))))))))))) (@Arr.cons Int 15 9 (@Arr.cons Int 14 0 (@Arr.cons Int 13 0 (@Arr.cons Int 12 0 (@Arr.cons Int 11 0 (@Arr.cons Int 10 0 (@Arr.cons Int 9 0 (@Arr.cons Int 8 0 (@Arr.cons Int 7 0 (@Arr.cons Int 6 0 (@Arr.cons Int 5 0 (@Arr.cons Int 4 0 (@Arr.cons Int 3 0 (@Arr.cons Int 2 0 (@Arr.cons Int 1 0 (@Arr.cons Int 0 0 (@Arr.nil Int)))))))))))))))))) fun v1 =>
 Option.bind (bif (!(decide ((((List.length v1.2) : Nat) : Int) = (1 : Int)))) then
   some (true)
  else
   Option.bind (getI v1.2 (0 : Int)) fun (v2 : (Int × (Int × (List Int)))) =>
   some ((cond false true (!(decide (v2.1 = (1 : Int))))))) fun (v2 : Bool) =>
 Option.bind (bif v2 then
   some (true)
  else
   Option.bind (getI v1.2 (0 : Int)) fun (v3 : (Int × (Int × (List Int)))) =>
   some ((cond false true (!(decide (v3.2.1 = (1 : Int))))))) fun (v3 : Bool) =>
 bif v3 then
  some (false)
 else
  Option.bind (chap2_Prove N (@Arr.cons Int 15 7 (@Arr.cons Int 14 0 (@Arr.cons Int 13 0 (@Arr.cons Int 12 0 (@Arr.cons Int 11 0 (@Arr.cons Int 10 0 (@Arr.cons Int 9 0 (@Arr.cons Int 8 0 (@Arr.cons Int 7 0 (@Arr.cons Int 6 0 (@Arr.cons Int 5 0 (@Arr.cons Int 4 0 (@Arr.cons Int 3 0 (@Arr.cons Int 2 0 (@Arr.cons Int 1 0 (@Arr.cons Int 0 0 (@Arr.nil Int))))))))))))))))) (@Arr.cons Int 15 9 (@Arr.cons Int 14 0 (@Arr.cons Int 13 0 (@Arr.cons Int 12 0 (@Arr.cons Int 11 0 (@Arr.cons Int 10 0 (@Arr.cons Int 9 0 (@Arr.cons Int 8 0 (@Arr.cons Int 7 0 (@Arr.cons Int 6 0 (@Arr.cons Int 5 0 (@Arr.cons Int 4 0 (@Arr.cons Int 3 0 (@Arr.cons Int 2 0 (@Arr.cons Int 1 0 (@Arr.cons Int 0 0 (@Arr.nil Int))))))))))))))))) (Array.toList (List.toArray ([117] : List UInt8))) (Array.toList (List.toArray ([112] : List UInt8)))) fun v4 =>
  Option.bind (chap2_Value N (@Arr.cons Int 15 7 (@Arr.cons Int 14 0 (@Arr.cons Int 13 0 (@Arr.cons Int 12 0 (@Arr.cons Int 11 0 (@Arr.cons Int 10 0 (@Arr.cons Int 9 0 (@Arr.cons Int 8 0 (@Arr.cons Int 7 0 (@Arr.cons Int 6 0 (@Arr.cons Int 5 0 (@Arr.cons Int 4 0 (@Arr.cons Int 3 0 (@Arr.cons Int 2 0 (@Arr.cons Int 1 0 (@Arr.cons Int 0 0 (@Arr.nil Int))))))))))))))))) v4.1) fun v5 =>
  Option.bind (chaps_Lay N (2 : Int) (1 : Int) v5 (Array.toList (List.toArray ([117] : List UInt8)))) fun v6 =>
  Option.bind (chaps_Asker_Take N (v1.1.1, (v1.1.2.1, (v1.1.2.2.1, (v1.1.2.2.2.1, (v1.1.2.2.2.2.1, (v1.1.2.2.2.2.2.1, (v1.1.2.2.2.2.2.2.1, (v1.1.2.2.2.2.2.2.2.1, (v1.1.2.2.2.2.2.2.2.2.1, (v1.1.2.2.2.2.2.2.2.2.2.1, v1.1.2.2.2.2.2.2.2.2.2.2)))))))))) (v6.1, (v6.2.1, v6.2.2))) fun v7 =>
  bif (decide (v4.2 = (0 : Int))) then
   Option.bind (some ((cond true (decide ((((List.length v7.2) : Nat) : Int) = (1 : Int))) false))) fun (v8 : Bool) =>
   Option.bind (bif v8 then
     Option.bind (getI v7.2 (0 : Int)) fun (v9 : (Int × (Int × (List Int)))) =>
     some ((cond true (decide (v9.1 = (3 : Int))) false))
    else
     some (false)) fun (v9 : Bool) =>
   bif v9 then
    Option.bind (some ((cond true (decide (v7.1.2.2.1 = (2 : Int))) false))) fun (v10 : Bool) =>
    bif v10 then
     Option.bind (some ((cond true (decide (v7.1.2.2.2.2.2.2.2.2.2.1 = (Array.toList (List.toArray ([117] : List UInt8))))) false))) fun (v11 : Bool) =>
     bif v11 then
      Option.bind (bif ((@wfB (@Td.arr (32 : Nat) (@Td.int @IntKind.u8)) v7.1.2.2.2.2.2.2.2.2.2.2) && (@wfB (@Td.arr (32 : Nat) (@Td.int @IntKind.u8)) (@Arr.cons Int 31 0 (@Arr.cons Int 30 0 (@Arr.cons Int 29 0 (@Arr.cons Int 28 0 (@Arr.cons Int 27 0 (@Arr.cons Int 26 0 (@Arr.cons Int 25 0 (@Arr.cons Int 24 0 (@Arr.cons Int 23 0 (@Arr.cons Int 22 0 (@Arr.cons Int 21 0 (@Arr.cons Int 20 0 (@Arr.cons Int 19 0 (@Arr.cons Int 18 0 (@Arr.cons Int 17 0 (@Arr.cons Int 16 0 (@Arr.cons Int 15 0 (@Arr.cons Int 14 0 (@Arr.cons Int 13 0 (@Arr.cons Int 12 0 (@Arr.cons Int 11 0 (@Arr.cons Int 10 0 (@Arr.cons Int 9 0 (@Arr.cons Int 8 0 (@Arr.cons Int 7 0 (@Arr.cons Int 6 0 (@Arr.cons Int 5 0 (@Arr.cons Int 4 0 (@Arr.cons Int 3 0 (@Arr.cons Int 2 0 (@Arr.cons Int 1 0 (@Arr.cons Int 0 0 (@Arr.nil Int))))))))))))))))))))))))))))))))))) then
        some ((cond true (!(@Decidable.decide (@Eq (Arr Int 32) v7.1.2.2.2.2.2.2.2.2.2.2 (@Arr.cons Int 31 0 (@Arr.cons Int 30 0 (@Arr.cons Int 29 0 (@Arr.cons Int 28 0 (@Arr.cons Int 27 0 (@Arr.cons Int 26 0 (@Arr.cons Int 25 0 (@Arr.cons Int 24 0 (@Arr.cons Int 23 0 (@Arr.cons Int 22 0 (@Arr.cons Int 21 0 (@Arr.cons Int 20 0 (@Arr.cons Int 19 0 (@Arr.cons Int 18 0 (@Arr.cons Int 17 0 (@Arr.cons Int 16 0 (@Arr.cons Int 15 0 (@Arr.cons Int 14 0 (@Arr.cons Int 13 0 (@Arr.cons Int 12 0 (@Arr.cons Int 11 0 (@Arr.cons Int 10 0 (@Arr.cons Int 9 0 (@Arr.cons Int 8 0 (@Arr.cons Int 7 0 (@Arr.cons Int 6 0 (@Arr.cons Int 5 0 (@Arr.cons Int 4 0 (@Arr.cons Int 3 0 (@Arr.cons Int 2 0 (@Arr.cons Int 1 0 (@Arr.cons Int 0 0 (@Arr.nil Int)))))))))))))))))))))))))))))))))) (@decT (@Td.arr (32 : Nat) (@Td.int @IntKind.u8)) v7.1.2.2.2.2.2.2.2.2.2.2 (@Arr.cons Int 31 0 (@Arr.cons Int 30 0 (@Arr.cons Int 29 0 (@Arr.cons Int 28 0 (@Arr.cons Int 27 0 (@Arr.cons Int 26 0 (@Arr.cons Int 25 0 (@Arr.cons Int 24 0 (@Arr.cons Int 23 0 (@Arr.cons Int 22 0 (@Arr.cons Int 21 0 (@Arr.cons Int 20 0 (@Arr.cons Int 19 0 (@Arr.cons Int 18 0 (@Arr.cons Int 17 0 (@Arr.cons Int 16 0 (@Arr.cons Int 15 0 (@Arr.cons Int 14 0 (@Arr.cons Int 13 0 (@Arr.cons Int 12 0 (@Arr.cons Int 11 0 (@Arr.cons Int 10 0 (@Arr.cons Int 9 0 (@Arr.cons Int 8 0 (@Arr.cons Int 7 0 (@Arr.cons Int 6 0 (@Arr.cons Int 5 0 (@Arr.cons Int 4 0 (@Arr.cons Int 3 0 (@Arr.cons Int 2 0 (@Arr.cons Int 1 0 (@Arr.cons Int 0 0 (@Arr.nil Int)))))))))))))))))))))))))))))))))))) false))
       else
        none) fun (v12 : Bool) =>
      some (v12)
     else
      some (false)
    else
     some (false)
   else
    some (false)
  else
   some (false)
theorem law29_alive_S : (runK Tryz.prog (Ev214 N) 400 5 [] [.bool] ()).run = law29_alive N  := by kernel_rfl
noncomputable def Ev215 : (R : Type) → Env R := Env.addFn (Ev214 N) 5 (fun R => fnK [] [.bool] (fun c => law29_alive N ))
theorem Ev215_ok (R : Type) : EnvOK Tryz.prog (Ev215 N R) := EnvOK.addFn hmx (Ev214_ok N R) (Ev214_ok N _) (by kernel_rfl) (fun c => law29_alive_S N )
noncomputable def Ev216 : (R : Type) → Env R := Env.addBx (Ev215 N) [(3, 0)]
theorem Ev216_ok (R : Type) : EnvOK Tryz.prog (Ev216 N R) := EnvOK.addBx (Ev215_ok N R) [(3, 0)]
noncomputable def law29_ChapsPackets (head0 : Arr Int 2) (value1 : List (Int)) (s2 : List UInt8 × ((List (List UInt8 × (List UInt8))) × (Int × (Int × (List Int))))) : Option Bool :=
 bif (decide ((400 : Int) < (((List.length value1) : Nat) : Int))) then
  Option.bind (@law29_alive N) fun (v4 : Bool) =>
  some (v4)
 else
  Option.bind (some ((cond false true (decide ((300 : Int) < (((List.length s2.1) : Nat) : Int)))))) fun (v4 : Bool) =>
  bif v4 then
   Option.bind (@law29_alive N) fun (v5 : Bool) =>
   some (v5)
  else
   Option.bind (some ((cond false true (decide ((500 : Int) < (((List.length s2.2.2.2.2) : Nat) : Int)))))) fun (v5 : Bool) =>
   bif v5 then
    Option.bind (@law29_alive N) fun (v6 : Bool) =>
    some (v6)
   else
    Option.bind (law29_far N s2.2.1) fun v6 =>
    bif (cond false true v6) then
     Option.bind (@law29_alive N) fun (v7 : Bool) =>
     some (v7)
    else
     Option.bind (chaps_Parse N (s2.2.2.1, (s2.2.2.2.1, s2.2.2.2.2))) fun v7 =>
     Option.bind (ref29_Parse N (s2.2.2.1, (s2.2.2.2.1, s2.2.2.2.2))) fun v8 =>
     Option.bind (law29_users N s2.2.1) fun v9 =>
     Option.bind (chaps_Find N v9 s2.1) fun v10 =>
     Option.bind (ref29_Find N s2.2.1 s2.1) fun v11 =>
     Option.bind (getI head0.l (0 : Int)) fun (v12 : Int) =>
     Option.bind (getI head0.l (1 : Int)) fun (v13 : Int) =>
     Option.bind (chaps_Lay N v12 v13 value1 s2.1) fun v14 =>
     Option.bind (getI head0.l (0 : Int)) fun (v15 : Int) =>
     Option.bind (getI head0.l (1 : Int)) fun (v16 : Int) =>
     Option.bind (ref29_Lay N v15 v16 value1 s2.1) fun v17 =>
     Option.bind (ctl_Same N (v14.1, (v14.2.1, v14.2.2)) (v17.1, (v17.2.1, v17.2.2))) fun v18 =>
     bif v18 then
      Option.bind (ref01_Same N v7.1 v8.1) fun v19 =>
      bif (cond true v19 false) then
       bif (cond true (decide (v7.2.1 = v8.2.1)) false) then
        bif (cond true (decide (v7.2.2 = v8.2.2)) false) then
         bif ((@wfB (@Td.pair @Td.str @Td.str) (v10.1.1, v10.1.2)) && (@wfB (@Td.pair @Td.str @Td.str) (v11.1.1, v11.1.2))) then
          bif (cond true (@Decidable.decide (@Eq (List UInt8 × (List UInt8)) (v10.1.1, v10.1.2) (v11.1.1, v11.1.2)) (@decT (@Td.pair @Td.str @Td.str) (v10.1.1, v10.1.2) (v11.1.1, v11.1.2))) false) then
           bif (cond true (@BEq.beq Bool (@instBEqOfDecidableEq Bool @instDecidableEqBool) v10.2 v11.2) false) then
            Option.bind (@law29_alive N) fun (v20 : Bool) =>
            some ((cond true v20 false))
           else
            some (false)
          else
           some (false)
         else
          none
        else
         some (false)
       else
        some (false)
      else
       some (false)
     else
      some (false)
theorem law29_ChapsPackets_S (head0 : Arr Int 2) (value1 : List (Int)) (s2 : List UInt8 × ((List (List UInt8 × (List UInt8))) × (Int × (Int × (List Int))))) : (runK Tryz.prog (Ev216 N) 400 3 [(.arr 2 (.int .u8)), (.sl (.int .u8)), (.pair .str (.pair (.sl (.pair .str .str)) (.pair (.int .u8) (.pair (.int .u8) (.sl (.int .u8))))))] [.bool] (head0, value1, s2, ())).run = law29_ChapsPackets N head0 value1 s2 := by kernel_rfl
theorem law29_ChapsPackets_C (head0 : Arr Int 2) (value1 : List (Int)) (s2 : List UInt8 × ((List (List UInt8 × (List UInt8))) × (Int × (Int × (List Int))))) (y : Bool) (h : law29_ChapsPackets N head0 value1 s2 = some y) : CallsK Tryz.prog 3 (valA [(.arr 2 (.int .u8)), (.sl (.int .u8)), (.pair .str (.pair (.sl (.pair .str .str)) (.pair (.int .u8) (.pair (.int .u8) (.sl (.int .u8))))))] (head0, value1, s2, ())) (tupV (valR [.bool] y)) := runK_ok hmx (Ev216_ok N _) (okFn_ok (by kernel_rfl)) (by rw [law29_ChapsPackets_S]; exact h)
end
end Go.Proofs.YtobcpglaeonklaaGreatDoor
namespace Go.Proofs.YtobcpglaeonklaaGreatDoor
set_option maxRecDepth 100000
open Go.RowKit
set_option linter.unusedVariables false
set_option linter.unusedSimpArgs false
set_option maxRecDepth 100000
section
variable {N : Nat}
def bAt (s : List UInt8) : Nat → Nat
 | 0 => 0
 | n + 1 => if (((s.getD n 0).toNat : Nat) : Int) = 92 then n + 1 else bAt s n
theorem bAt_le (s : List UInt8) : ∀ n, bAt s n ≤ n
 | 0 => Nat.le_refl _
 | n + 1 => by
  have := bAt_le s n
  unfold bAt
  split <;> omega
theorem sgetD (s : List UInt8) (n : Nat) (h : n < s.length) : s.getD n 0 = s[n] := by rw [List.getD_eq_getElem?_getD, List.getElem?_eq_getElem h]; rfl
theorem last_ok (s : List UInt8) (hs : s.length ≤ 1000) : ∀ (n k : Nat), n ≤ s.length → n < k → gl (fun X c => bytealg_LastIndexByteString_L2 N X c.1.1 c.1.2.1 c.1.2.2.1) k ((s, ((92 : Int), (((n : Int) - 1), ()))), ()) = some (if bAt s n = 0 then .inr ((), ()) else .inl ((((bAt s n : Int) - 1), ()), ()))
 | 0, k + 1, _, _ => by
  have c1 : ¬ ((0 : Int) ≤ ((0 : Nat) : Int) - 1) := by omega
  rw [gl_succ]
  simp only [bytealg_LastIndexByteString_L2, c1, decide_false, cond_false, bAt, if_true]
 | n + 1, k + 1, hn, hk => by
  have e : ((n + 1 : Nat) : Int) - 1 = (n : Int) := by omega
  have c1 : (0 : Int) ≤ (n : Int) := by omega
  have hlt : n < s.length := by omega
  have g := getI_lt s n hlt
  have gd := sgetD s n hlt
  have w : IntKind.wrap .i64 ((n : Int) - 1) = (n : Int) - 1 := wrap64 (by omega) (by omega)
  rw [gl_succ, e]
  by_cases h : ((s[n].toNat : Nat) : Int) = 92
  ·have hb : bAt s (n + 1) = n + 1 := by unfold bAt; rw [gd, if_pos h]
   rw [hb, if_neg (by omega), e]
   simp only [bytealg_LastIndexByteString_L2, c1, decide_true, cond_true, g, Option.bind_some, h]
  ·have hb : bAt s (n + 1) = bAt s n := by rw [bAt, gd, if_neg h]
   rw [hb]
   simp only [bytealg_LastIndexByteString_L2, c1, decide_true, cond_true, g, Option.bind_some, h, decide_false, cond_false, w]
   exact last_ok s hs n k (by omega) (by omega)
theorem bare_p (s : List UInt8) (hs : s.length ≤ 1000) (hN : 10000 ≤ N) : utf16_Bare N s = some (s.drop (bAt s s.length)) := by
 have w1 : IntKind.wrap .i64 ((s.length : Int) - 1) = (s.length : Int) - 1 := wrap64 (by omega) (by omega)
 have h := last_ok (N := N) s hs s.length N (Nat.le_refl _) (by omega)
 have hb := bAt_le s s.length
 unfold utf16_Bare strings_LastIndexByte bytealg_LastIndexByteString
 rw [w1]
 have h' : bytealg_LastIndexByteString_L2_R N ((s, ((92 : Int), (((s.length : Int) - 1), ()))), ()) = _ := h
 rw [h']
 by_cases hz : bAt s s.length = 0
 ·have w2 : IntKind.wrap .i64 ((-1 : Int) + 1) = 0 := by decide
  have d : dropI s (0 : Int) = some (s.drop 0) := dropI_nat s (i := 0) rfl (by omega)
  rw [if_pos hz, hz]
  simp only [Option.bind_some, Sum.elim_inr, w2, d]
 ·have w2 : IntKind.wrap .i64 (((bAt s s.length : Int) - 1) + 1) = (bAt s s.length : Int) := by rw [wrap64 (by omega) (by omega)]; omega
  have d : dropI s (bAt s s.length : Int) = some (s.drop (bAt s s.length)) := dropI_nat s (i := bAt s s.length) rfl hb
  rw [if_neg hz]
  simp only [Option.bind_some, Sum.elim_inl, w2, d]
theorem bare_r (s : List UInt8) (hs : s.length ≤ 1000) (hN : 10000 ≤ N) : ref09_Bare N s = some (s.drop (bAt s s.length)) := by
 have h : ref09_Bare_L3_R N ((s, ((0 : Int), ((0 : Int), ()))), ()) = some ((s, ((bAt s s.length : Int), ())), ()) := by
  have := gl_run (G := fun X c => ref09_Bare_L3 N X c.1.1 c.1.2.1 c.1.2.2.1) (fun i => ((s, ((bAt s i : Int), ((i : Int), ()))), ())) s.length ((s, ((bAt s s.length : Int), ())), ()) (fun X i hi => ?_) (fun X => ?_) N 0 (Nat.zero_le _) (by omega)
  ·exact this
  ·have c1 : ((i : Int) < (s.length : Int)) := by omega
   have g := getI_lt s i hi
   have w : IntKind.wrap .i64 ((i : Int) + 1) = ((i + 1 : Nat) : Int) := by rw [wrap64 (by omega) (by omega)]; omega
   have gd := sgetD s i hi
   by_cases h : ((s[i].toNat : Nat) : Int) = 92
   ·have hb : bAt s (i + 1) = i + 1 := by unfold bAt; rw [gd, if_pos h]
    simp only [ref09_Bare_L3, c1, decide_true, cond_true, g, Option.bind_some, h, w, hb]
   ·have hb : bAt s (i + 1) = bAt s i := by rw [bAt, gd, if_neg h]
    simp only [ref09_Bare_L3, c1, decide_true, cond_true, g, Option.bind_some, h, decide_false, cond_false, w, hb]
  ·have c1 : ¬ ((s.length : Int) < (s.length : Int)) := by omega
   simp only [ref09_Bare_L3, c1, decide_false, cond_false]
 have hb := bAt_le s s.length
 have d : dropI s (bAt s s.length : Int) = some (s.drop (bAt s s.length)) := dropI_nat s (i := bAt s s.length) rfl hb
 unfold ref09_Bare
 rw [h]
 simp only [Option.bind_some, d]
end
theorem bpos {α : Type} {p : Prop} {i : Decidable p} {x y : α} (h : p) : (bif @decide p i then x else y) = x := by rw [decide_eq_true h]; rfl
theorem bneg {α : Type} {p : Prop} {i : Decidable p} {x y : α} (h : ¬ p) : (bif @decide p i then x else y) = y := by rw [decide_eq_false h]; rfl
theorem room_small {n b : Nat} (h : n ≤ 100000) (hb : b ≤ 100) : roomB n b = true := roomB_of (by have := big_len; omega) (by
 have : n * b ≤ 100000 * 100 := Nat.mul_le_mul h hb
 omega)
theorem rpos {α : Type} {n b : Nat} {x y : α} (h : n ≤ 100000) (hb : b ≤ 100) : (bif roomB n b then x else y) = x := by rw [room_small h hb]; rfl
theorem bnd {α β : Type} {o : Option α} {v : α} {k : α → Option β} (h : o = some v) : Option.bind o k = k v := by rw [h]; rfl
theorem bcp {α : Type} {p : Prop} {i : Decidable p} {x y : α} (h : p) : (bif (cond true (@decide p i) false) then x else y) = x := by rw [decide_eq_true h]; rfl
theorem bvp {α : Type} {v : Bool} {x y : α} (h : v = true) : (bif v then x else y) = x := by rw [h]; rfl
theorem bvn {α : Type} {v : Bool} {x y : α} (h : v = false) : (bif v then x else y) = y := by rw [h]; rfl
abbrev Us : Type := List UInt8 × List UInt8
abbrev Ct : Type := Int × (Int × List Int)
section
variable {N : Nat}
def layK (a b : Int) (v : List Int) (s : List UInt8) : Ct := (a, (b, ([IntKind.wrap .u8 (((v.take (min v.length 255)).length : Nat) : Int)] ++ v.take (min v.length 255)) ++ ofB s))
theorem takeM (v : List Int) : takeI v (minI (((v.length : Nat)) : Int) (255 : Int)) = some (v.take (min v.length 255)) := by
 have hmi : minI (v.length : Int) 255 = ((min v.length 255 : Nat) : Int) := by unfold minI; split <;> omega
 rw [hmi]
 exact takeI_nat v rfl (by omega)
theorem lay_p (a b : Int) (v : List Int) (s : List UInt8) (hs : s.length ≤ 1000) : chaps_Lay 200000 a b v s = some (layK a b v s) := by
 have hl : (v.take (min v.length 255)).length ≤ 255 := by rw [List.length_take]; omega
 unfold chaps_Lay
 refine (bnd (takeM v)).trans ?_
 refine (rpos (by omega) (by omega)).trans ?_
 have hj : octs_Join 200000 ([([(IntKind.wrap .u8 (((v.take (min v.length 255)).length : Nat) : Int))] : List Int), v.take (min v.length 255), ofB s] : List (List Int)) = some ([([(IntKind.wrap .u8 (((v.take (min v.length 255)).length : Nat) : Int))] : List Int), v.take (min v.length 255), ofB s] : List (List Int)).flatten := join_ok (N := 200000) _ (by simp) (fun q hq => by
  simp only [List.mem_cons, List.not_mem_nil, or_false] at hq
  rcases hq with rfl | rfl | rfl
  ·simp
  ·omega
  ·rw [ofB_length]; omega) (by omega)
 refine (bnd hj).trans ?_
 unfold layK
 simp only [List.flatten_cons, List.flatten_nil, List.append_nil, List.append_assoc]
theorem lay_r (a b : Int) (v : List Int) (s : List UInt8) (hs : s.length ≤ 1000) : ref29_Lay 200000 a b v s = some (layK a b v s) := by
 have hl : (v.take (min v.length 255)).length ≤ 255 := by rw [List.length_take]; omega
 unfold ref29_Lay
 refine (bnd (takeM v)).trans ?_
 refine (rpos (by simp only [List.length_cons, List.length_nil]; omega) (by omega)).trans ?_
 refine (rpos (by simp only [List.length_append, List.length_cons, List.length_nil]; omega) (by omega)).trans ?_
 rfl
def parK (c : Ct) : List Int × List UInt8 × Int := if c.2.2.length = 0 ∨ (c.2.2.length : Int) - 1 < c.2.2.getD 0 0 then ([], ([], 4)) else (((c.2.2.drop 1).take (c.2.2.getD 0 0).toNat), ((c.2.2.drop (1 + (c.2.2.getD 0 0).toNat)).map byteOf, 0))
theorem clone_ok (l : List Int) (h : l.length ≤ 10000) : slices_Clone_byte_byte 200000 l = some l := by
 unfold slices_Clone_byte_byte slices_Clone_byte_byte_ne
 cases l with
 | nil => rfl
 | cons x l =>
  refine (bvn rfl).trans ((bvn rfl).trans ((rpos (by omega) (by omega)).trans rfl))
theorem par_p (c : Ct) (hb : AllB c.2.2) (hl : c.2.2.length ≤ 1000) : chaps_Parse 200000 c = some (parK c) ∧ ref29_Parse 200000 c = some (parK c) := by
 obtain ⟨c0, c1, d⟩ := c
 simp only at hb hl
 unfold chaps_Parse ref29_Parse parK
 simp only
 by_cases h0 : d.length = 0
 ·rw [if_pos (.inl h0)]
  exact ⟨bpos (by omega), bpos (by omega)⟩
 ·have g : getI d (0 : Int) = some (d[0]'(by omega)) := getI_lt d 0 (by omega)
  have gd : d.getD 0 0 = d[0]'(by omega) := by rw [List.getD_eq_getElem?_getD, List.getElem?_eq_getElem (by omega)]; rfl
  have hx := hb.get 0 (by omega)
  rw [gd]
  generalize d[0]'(by omega) = x at g hx
  have w1 : IntKind.wrap .i64 ((d.length : Int) - 1) = (d.length : Int) - 1 := wrap64 (by omega) (by omega)
  have w2 : IntKind.wrap .i64 x = x := wrap64 (by omega) (by omega)
  have w3 : IntKind.wrap .i64 ((1 : Int) + x) = ((1 + x.toNat : Nat) : Int) := by rw [wrap64 (by omega) (by omega)]; omega
  simp only [g, w1, w2, w3, Option.bind_some]
  by_cases h1 : (d.length : Int) - 1 < x
  ·rw [if_pos (.inr h1)]
   rw [decide_eq_true h1]
   exact ⟨(bneg (by omega)).trans rfl, (bneg (by omega)).trans rfl⟩
  ·rw [if_neg (by omega), decide_eq_false h1]
   have s1 : subI d (1 : Int) ((1 + x.toNat : Nat) : Int) = some ((d.drop 1).take x.toNat) := by
    rw [subI_nat d (a := 1) (i := 1) (j := 1 + x.toNat) rfl rfl (by omega) (by omega)]
    congr 2
    omega
   have s2 : dropI d ((1 + x.toNat : Nat) : Int) = some (d.drop (1 + x.toNat)) := dropI_nat d rfl (by omega)
   have s3 := toBy_map (hb.drop (1 + x.toNat))
   have s4 := clone_ok ((d.drop 1).take x.toNat) (by rw [List.length_take, List.length_drop]; omega)
   constructor
   ·refine (bneg (by omega)).trans ((bvn rfl).trans ?_)
    exact (bnd s1).trans ((bnd s4).trans ((bnd s2).trans (bnd s3)))
   ·refine (bneg (by omega)).trans ((bvn rfl).trans ?_)
    exact (bnd s1).trans ((bnd s2).trans (bnd s3))
def bareS (s : List UInt8) : List UInt8 := s.drop (bAt s s.length)
def findS (b : List UInt8) : List Us → Option Us
 | [] => none
 | u :: l => if bareS u.1 = b then some u else findS b l
def oksU (l : List Us) : Prop := ∀ u ∈ l, u.1.length ≤ 1000 ∧ u.2.length ≤ 1000
theorem findP (l : List Us) (b : List UInt8) (hl : oksU l) (hlen : l.length ≤ 1000) (h0 h2 : Us) : ∀ (n k i : Nat), i + n = l.length → n < k →
  gl (fun X c => chaps_Find_2_chaps_first_chaps_User_L2 200000 X c.1.1 c.1.2.1 c.1.2.2.1 c.2.1 c.2.2.1 c.2.2.2.1) k ((l, ((l.length : Int), ((i : Int), ()))), (h0, (b, (h2, ())))) = some (match findS b (l.drop i) with
   | some u => .inl ((true, ()), (h0, (b, (u, ()))))
   | none => .inr ((), (h0, (b, (h2, ())))))
 | 0, k + 1, i, hi, _ => by
  have c1 : ¬ ((i : Int) < (l.length : Int)) := by omega
  rw [gl_succ, List.drop_eq_nil_of_le (by omega)]
  simp only [chaps_Find_2_chaps_first_chaps_User_L2, c1, decide_false, cond_false]
  rfl
 | n + 1, k + 1, i, hi, hk => by
  have c1 : ((i : Int) < (l.length : Int)) := by omega
  have hlt : i < l.length := by omega
  have g := getI_lt l i hlt
  have w : IntKind.wrap .i64 ((i : Int) + 1) = ((i + 1 : Nat) : Int) := by rw [wrap64 (by omega) (by omega)]; omega
  have ih := findP l b hl hlen h0 h2 n k (i + 1) (by omega) (by omega)
  have hb := bare_p (N := 200000) (l[i]).1 (hl _ (List.getElem_mem hlt)).1 (by omega)
  rw [gl_succ, List.drop_eq_getElem_cons hlt]
  unfold findS
  by_cases h : bareS (l[i]).1 = b
  ·have h' : (l[i]).1.drop (bAt (l[i]).1 (l[i]).1.length) = b := h
   rw [if_pos h]
   simp only [chaps_Find_2_chaps_first_chaps_User_L2, c1, decide_true, cond_true, g, Option.bind_some, hb, h']
  ·have h' : ¬ (l[i]).1.drop (bAt (l[i]).1 (l[i]).1.length) = b := h
   rw [if_neg h]
   simp only [chaps_Find_2_chaps_first_chaps_User_L2, c1, decide_true, cond_true, g, Option.bind_some, hb, h', decide_false, cond_false, w]
   exact ih
theorem findR (l : List Us) (m : List UInt8) (hm : m.length ≤ 1000) (hl : oksU l) (hlen : l.length ≤ 1000) (h0 : Us) : ∀ (n k i : Nat), i + n = l.length → n < k →
  gl (fun X c => ref29_Find_L2 200000 X c.1.1 c.1.2.1 c.1.2.2.1 c.2.1) k ((l, (m, ((i : Int), ()))), (h0, ())) = some (match findS (bareS m) (l.drop i) with
   | some u => .inl ((true, ()), (u, ()))
   | none => .inr ((), (h0, ())))
 | 0, k + 1, i, hi, _ => by
  have c1 : ¬ ((i : Int) < (l.length : Int)) := by omega
  rw [gl_succ, List.drop_eq_nil_of_le (by omega)]
  simp only [ref29_Find_L2, c1, decide_false, cond_false]
  rfl
 | n + 1, k + 1, i, hi, hk => by
  have c1 : ((i : Int) < (l.length : Int)) := by omega
  have hlt : i < l.length := by omega
  have g := getI_lt l i hlt
  have w : IntKind.wrap .i64 ((i : Int) + 1) = ((i + 1 : Nat) : Int) := by rw [wrap64 (by omega) (by omega)]; omega
  have ih := findR l m hm hl hlen h0 n k (i + 1) (by omega) (by omega)
  have hb := bare_r (N := 200000) (l[i]).1 (hl _ (List.getElem_mem hlt)).1 (by omega)
  have hb2 := bare_r (N := 200000) m hm (by omega)
  rw [gl_succ, List.drop_eq_getElem_cons hlt]
  unfold findS
  by_cases h : bareS (l[i]).1 = bareS m
  ·have h' : (l[i]).1.drop (bAt (l[i]).1 (l[i]).1.length) = m.drop (bAt m m.length) := h
   rw [if_pos h]
   simp only [ref29_Find_L2, c1, decide_true, cond_true, g, Option.bind_some, hb, hb2, h']
  ·have h' : ¬ (l[i]).1.drop (bAt (l[i]).1 (l[i]).1.length) = m.drop (bAt m m.length) := h
   rw [if_neg h]
   simp only [ref29_Find_L2, c1, decide_true, cond_true, g, Option.bind_some, hb, hb2, h', decide_false, cond_false, w]
   exact ih
def resU (o : Option Us) : Us × Bool := match o with
 | some u => (u, true)
 | none => (([], []), false)
theorem find_p (l : List Us) (m : List UInt8) (hm : m.length ≤ 1000) (hl : oksU l) (hlen : l.length ≤ 1000) : chaps_Find 200000 l m = some (resU (findS (bareS m) l)) := by
 unfold chaps_Find
 refine (bnd (bare_p (N := 200000) m hm (by omega))).trans ?_
 have h : chaps_Find_2_chaps_first_chaps_User_L2_R 200000 ((l, ((l.length : Int), (((0 : Nat) : Int), ()))), ((([], []) : Us), (bareS m, ((([], []) : Us), ())))) = _ := findP l (bareS m) hl hlen ([], []) ([], []) l.length 200000 0 (by omega) (by omega)
 refine (bnd h).trans ?_
 rw [List.drop_zero]
 cases findS (bareS m) l <;> rfl
theorem find_r (l : List Us) (m : List UInt8) (hm : m.length ≤ 1000) (hl : oksU l) (hlen : l.length ≤ 1000) : ref29_Find 200000 l m = some (resU (findS (bareS m) l)) := by
 unfold ref29_Find
 have h : ref29_Find_L2_R 200000 ((l, (m, (((0 : Nat) : Int), ()))), ((([], []) : Us), ())) = _ := findR l m hm hl hlen ([], []) l.length 200000 0 (by omega) (by omega)
 refine (bnd h).trans ?_
 rw [List.drop_zero]
 cases findS (bareS m) l <;> rfl
theorem users_ok (l : List Us) (hlen : l.length ≤ 1000) : law29_users 200000 l = some l := by
 have h : law29_users_L3_R 200000 ((l, ((l.length : Int), ((0 : Int), ()))), (([] : List Us), ())) = some ((), (l, ())) := by
  have := gl_run (G := fun X c => law29_users_L3 200000 X c.1.1 c.1.2.1 c.1.2.2.1 c.2.1) (fun i => ((l, ((l.length : Int), ((i : Int), ()))), (l.take i, ()))) l.length ((), (l, ())) (fun X i hi => ?_) (fun X => ?_) 200000 0 (Nat.zero_le _) (by omega)
  ·exact this
  ·have c1 : ((i : Int) < (l.length : Int)) := by omega
   have g := getI_lt l i hi
   have w : IntKind.wrap .i64 ((i : Int) + 1) = ((i + 1 : Nat) : Int) := by rw [wrap64 (by omega) (by omega)]; omega
   have ts : l.take (i + 1) = l.take i ++ [((l[i]).1, (l[i]).2)] := by rw [List.take_add_one, List.getElem?_eq_getElem hi]; rfl
   have rm : roomB ((l.take i).length + ([((l[i]).1, (l[i]).2)] : List Us).length) 32 = true := room_small (by rw [List.length_take]; simp only [List.length_cons, List.length_nil]; omega) (by omega)
   simp only [law29_users_L3, c1, decide_true, cond_true, g, Option.bind_some, rm, w, ts]
  ·have c1 : ¬ ((l.length : Int) < (l.length : Int)) := by omega
   simp only [law29_users_L3, c1, decide_false, cond_false, List.take_length]
 unfold law29_users
 exact (bnd h).trans rfl
theorem farL (l m : List Us) (hm : m.length ≤ 1000) : ∀ (n k i : Nat), i + n = m.length → n < k →
  ∃ r, gl (fun X c => law29_far_L2 200000 X c.1.1 c.1.2.1 c.1.2.2.1 c.1.2.2.2.1) k ((l, (m, ((m.length : Int), ((i : Int), ())))), ()) = some r ∧ (r = .inl ((true, ()), ()) ∨ (r = .inr ((l, ()), ()) ∧ ∀ u ∈ m.drop i, u.1.length ≤ 1000 ∧ u.2.length ≤ 1000))
 | 0, k + 1, i, hi, _ => by
  have c1 : ¬ ((i : Int) < (m.length : Int)) := by omega
  refine ⟨.inr ((l, ()), ()), ?_, .inr ⟨rfl, fun u hu => ?_⟩⟩
  ·rw [gl_succ]
   simp only [law29_far_L2, c1, decide_false, cond_false]
  ·rw [List.drop_eq_nil_of_le (by omega)] at hu; cases hu
 | n + 1, k + 1, i, hi, hk => by
  have c1 : ((i : Int) < (m.length : Int)) := by omega
  have hlt : i < m.length := by omega
  have g := getI_lt m i hlt
  have w : IntKind.wrap .i64 ((i : Int) + 1) = ((i + 1 : Nat) : Int) := by rw [wrap64 (by omega) (by omega)]; omega
  obtain ⟨r, r1, r2⟩ := farL l m hm n k (i + 1) (by omega) (by omega)
  by_cases h1 : (200 : Int) < (((m[i]).1.length : Nat) : Int)
  ·refine ⟨.inl ((true, ()), ()), ?_, .inl rfl⟩
   rw [gl_succ]
   simp only [law29_far_L2, c1, decide_true, cond_true, g, Option.bind_some, h1]
  ·by_cases h2 : (300 : Int) < (((m[i]).2.length : Nat) : Int)
   ·refine ⟨.inl ((true, ()), ()), ?_, .inl rfl⟩
    rw [gl_succ]
    simp only [law29_far_L2, c1, decide_true, cond_true, g, Option.bind_some, h1, h2, decide_false, cond_false]
   ·refine ⟨r, ?_, ?_⟩
    ·rw [gl_succ]
     simp only [law29_far_L2, c1, decide_true, cond_true, g, Option.bind_some, h1, h2, decide_false, cond_false, w]
     exact r1
    ·rcases r2 with r2 | ⟨r2, r3⟩
     ·exact .inl r2
     ·refine .inr ⟨r2, fun u hu => ?_⟩
      rw [List.drop_eq_getElem_cons hlt] at hu
      rcases List.mem_cons.1 hu with rfl | hu
      ·omega
      ·exact r3 u hu
theorem far_ok (l : List Us) : law29_far 200000 l = some true ∨ (law29_far 200000 l = some false ∧ l.length ≤ 10 ∧ oksU l) := by
 have hmi : minI (l.length : Int) 10 = ((min l.length 10 : Nat) : Int) := by unfold minI; split <;> omega
 have ht : takeI l (minI (((l.length : Nat)) : Int) (10 : Int)) = some (l.take (min l.length 10)) := by rw [hmi]; exact takeI_nat l rfl (by omega)
 have hl : (l.take (min l.length 10)).length ≤ 1000 := by rw [List.length_take]; omega
 obtain ⟨r, r1, r2⟩ := farL l (l.take (min l.length 10)) hl (l.take (min l.length 10)).length 200000 0 (by omega) (by omega)
 have h : law29_far_L2_R 200000 ((l, (l.take (min l.length 10), (((l.take (min l.length 10)).length : Int), ((0 : Int), ())))), ()) = some r := r1
 have e : law29_far 200000 l = _ := (show law29_far 200000 l = _ from by unfold law29_far; exact (bnd ht).trans (bnd h))
 rw [e]
 rcases r2 with rfl | ⟨rfl, r3⟩
 ·left; rfl
 ·by_cases h10 : (10 : Int) < (l.length : Int)
  ·left
   show some (decide ((10 : Int) < (l.length : Int))) = some true
   rw [decide_eq_true h10]
  ·right
   refine ⟨?_, by omega, fun u hu => r3 u ?_⟩
   ·show some (decide ((10 : Int) < (l.length : Int))) = some false
    rw [decide_eq_false h10]
   ·rw [List.drop_zero, List.take_of_length_le (by omega)]; exact hu
end
theorem rsm (a b : List Int) (h : a.length ≤ 10000) : ref01_Same 200000 a b = some (decide (a = b)) := sameF_ok (by omega) (by omega)
theorem cs_refl (c : Ct) (hb : AllB c.2.2) : ctl_Same 200000 c c = some true := by
 have t := toBy_map hb
 have hq : bytes_Equal 200000 c.2.2 c.2.2 = some true := by
  unfold bytes_Equal
  refine (bnd t).trans ((bnd t).trans ?_)
  rw [decide_eq_true rfl]
 unfold ctl_Same
 have e : (bif (decide (c.1 = c.1)) then some (cond true (decide (c.2.1 = c.2.1)) false) else some false) = some true := (bpos rfl).trans (by rw [decide_eq_true rfl]; rfl)
 refine (bnd e).trans ((bvp rfl).trans ?_)
 exact (bnd hq).trans rfl
theorem ofB_all (s : List UInt8) : AllB (ofB s) := fun x hx => by
 unfold ofB at hx
 obtain ⟨c, _, rfl⟩ := List.mem_map.1 hx
 have := c.toNat_lt
 omega
theorem layK_B (a b : Int) (v : List Int) (s : List UInt8) (hv : AllB v) : AllB (layK a b v s).2.2 := by
 unfold layK
 refine ((AllB.cons ?_ AllB.nil).append (hv.take _)).append (ofB_all s)
 rw [IntKind.wrap_u8]
 omega
theorem find_len (b : List UInt8) : ∀ (l : List Us), oksU l → (resU (findS b l)).1.1.length ≤ 1000 ∧ (resU (findS b l)).1.2.length ≤ 1000
 | [], _ => ⟨Nat.zero_le _, Nat.zero_le _⟩
 | u :: l, h => by
  unfold findS
  by_cases hb : bareS u.1 = b
  ·rw [if_pos hb]; exact h u List.mem_cons_self
  ·rw [if_neg hb]; exact find_len b l (fun v hv => h v (List.mem_cons_of_mem _ hv))
theorem arr2 {α : Type} (l : Arr α 2) : ∃ a b, l.l = [a, b] := by
 obtain ⟨l, h⟩ := l
 match l, h with
 | [a, b], _ => exact ⟨a, b, rfl⟩
abbrev TN : Td := .pair .str (.pair (.sl (.pair .str .str)) (.pair (.int .u8) (.pair (.int .u8) (.sl (.int .u8)))))
theorem law_of_alive (hal : law29_alive 200000 = some true) (h : Arr Int 2) (v : List Int) (s : List UInt8 × (List Us × (Int × (Int × List Int)))) (w1 : wfT (.arr 2 (.int .u8)) h) (w2 : wfT (.sl (.int .u8)) v) (w3 : wfT TN s) : law29_ChapsPackets 200000 h v s = some true := by
 obtain ⟨n, l, c⟩ := s
 have hv : AllB v := wf_bytes w2
 have hc : AllB c.2.2 := wf_bytes w3.2.2.2.2
 obtain ⟨a, b, hab⟩ := arr2 h
 have g0 : getI h.l (0 : Int) = some a := by rw [hab]; rfl
 have g1 : getI h.l (1 : Int) = some b := by rw [hab]; rfl
 unfold law29_ChapsPackets
 generalize law29_alive 200000 = al at hal ⊢
 subst hal
 dsimp only
 by_cases l1 : (400 : Int) < (v.length : Int)
 ·exact (bpos l1).trans (bnd rfl)
 ·refine (bneg l1).trans ?_
  by_cases l2 : (300 : Int) < (n.length : Int)
  ·rw [decide_eq_true l2]
   exact (bnd (v := true) rfl).trans (bnd rfl)
  ·rw [decide_eq_false l2]
   refine (bnd (v := false) rfl).trans ((bvn rfl).trans ?_)
   by_cases l3 : (500 : Int) < (c.2.2.length : Int)
   ·rw [decide_eq_true l3]
    exact (bnd (v := true) rfl).trans (bnd rfl)
   ·rw [decide_eq_false l3]
    refine (bnd (v := false) rfl).trans ((bvn rfl).trans ?_)
    rcases far_ok l with hf | ⟨hf, hl, ho⟩
    ·refine (bnd hf).trans ?_
     exact bnd rfl
    ·refine (bnd hf).trans ((bvn rfl).trans ?_)
     obtain ⟨p1, p2⟩ := par_p c hc (by omega)
     have fl := find_len (bareS n) l ho
     have hpl : (parK c).1.length ≤ 1000 := by
      unfold parK
      split
      ·simp
      ·rw [List.length_take, List.length_drop]; omega
     refine (bnd p1).trans ?_
     refine (bnd p2).trans ?_
     refine (bnd (users_ok l (by omega))).trans ?_
     refine (bnd (find_p l n (by omega) ho (by omega))).trans ?_
     refine (bnd (find_r l n (by omega) ho (by omega))).trans ?_
     refine (bnd g0).trans ?_
     refine (bnd g1).trans ?_
     refine (bnd (lay_p a b v n (by omega))).trans ?_
     refine (bnd g0).trans ?_
     refine (bnd g1).trans ?_
     refine (bnd (lay_r a b v n (by omega))).trans ?_
     refine (bnd (cs_refl (layK a b v n) (layK_B a b v n hv))).trans ?_
     refine (bvp rfl).trans ?_
     refine (bnd (rsm _ _ (by omega))).trans ?_
     refine (bcp rfl).trans ?_
     refine (bcp rfl).trans ?_
     refine (bcp rfl).trans ?_
     have hw : wfB (.pair .str .str) ((resU (findS (bareS n) l)).1) = true := by
      show (decide ((resU (findS (bareS n) l)).1.1.length ≤ maxLen) && decide ((resU (findS (bareS n) l)).1.2.length ≤ maxLen)) = true
      have := big_len
      rw [decide_eq_true (by omega), decide_eq_true (by omega)]
      rfl
     refine (bvp (by rw [Bool.and_eq_true]; exact ⟨hw, hw⟩)).trans ?_
     refine (bcp rfl).trans ?_
     refine (bvp (by cases (resU (findS (bareS n) l)).2 <;> rfl)).trans ?_
     exact bnd rfl
theorem q8_of (a : Nat) (ha : a < 256) : (BitVec.ofInt 8 (a : Int)).toNat = a := by
 rw [BitVec.ofInt_natCast, BitVec.toNat_ofNat]; exact Nat.mod_eq_of_lt (by omega)
theorem xor8 (a b : Nat) (ha : a < 256) (hb : b < 256) : bits .xor .u8 (a : Int) (b : Int) = ((a ^^^ b : Nat) : Int) := by
 have hx : a ^^^ b < 2 ^ 8 := Nat.xor_lt_two_pow (by omega) (by omega)
 show IntKind.u8.wrap ((BitVec.ofInt 8 (a : Int) ^^^ BitVec.ofInt 8 (b : Int)).toNat : Int) = _
 rw [BitVec.toNat_xor, q8_of a ha, q8_of b hb, IntKind.wrap_u8]
 omega
theorem xor64 (a b : Nat) (ha : a < 2 ^ 62) (hb : b < 2 ^ 62) : bits .xor .i64 (a : Int) (b : Int) = ((a ^^^ b : Nat) : Int) := by
 have hx : a ^^^ b < 2 ^ 62 := Nat.xor_lt_two_pow ha hb
 show IntKind.i64.wrap ((BitVec.ofInt 64 (a : Int) ^^^ BitVec.ofInt 64 (b : Int)).toNat : Int) = _
 rw [BitVec.toNat_xor, q64_of a (by omega), q64_of b (by omega), wrap64 (by omega) (by omega)]
theorem or64 (a b : Nat) (ha : a < 2 ^ 62) (hb : b < 2 ^ 62) : bits .or .i64 (a : Int) (b : Int) = ((a ||| b : Nat) : Int) := by
 have hx : a ||| b < 2 ^ 62 := Nat.or_lt_two_pow ha hb
 show IntKind.i64.wrap ((BitVec.ofInt 64 (a : Int) ||| BitVec.ofInt 64 (b : Int)).toNat : Int) = _
 rw [BitVec.toNat_or, q64_of a (by omega), q64_of b (by omega), wrap64 (by omega) (by omega)]
theorem xor_zero (a b : Nat) : a ^^^ b = 0 ↔ a = b := by
 constructor
 ·intro h
  have h2 : a ^^^ b ^^^ b = b := by rw [h, Nat.zero_xor]
  rw [Nat.xor_assoc, Nat.xor_self, Nat.xor_zero] at h2
  exact h2
 ·rintro rfl; exact Nat.xor_self a
theorem or_zero' (a b : Nat) : a ||| b = 0 ↔ a = 0 ∧ b = 0 := by
 constructor
 ·intro h
  constructor
  ·apply Nat.eq_of_testBit_eq; intro i
   have := congrArg (Nat.testBit · i) h
   simp at this ⊢; exact this.1
  ·apply Nat.eq_of_testBit_eq; intro i
   have := congrArg (Nat.testBit · i) h
   simp at this ⊢; exact this.2
 ·rintro ⟨rfl, rfl⟩; rfl
def dif (a b : List Int) : Nat → Nat
 | 0 => a.length ^^^ b.length
 | i + 1 => dif a b i ||| ((a.getD i 0).toNat ^^^ (b.getD i 0).toNat)
theorem b8 {a : List Int} (h : AllB a) (i : Nat) : 0 ≤ a.getD i 0 ∧ a.getD i 0 < 256 := by
 rw [List.getD_eq_getElem?_getD]
 rcases Nat.lt_or_ge i a.length with hi | hi
 ·rw [List.getElem?_eq_getElem hi]; exact h.get i hi
 ·rw [List.getElem?_eq_none hi]; exact ⟨Int.le_refl _, by decide⟩
theorem dif_lt {a b : List Int} (ha : AllB a) (hb : AllB b) (la : a.length < 100000) (lb : b.length < 100000) : ∀ i, dif a b i < 2 ^ 62
 | 0 => Nat.xor_lt_two_pow (by omega) (by omega)
 | i + 1 => by
  have h1 := b8 ha i
  have h2 := b8 hb i
  exact Nat.or_lt_two_pow (dif_lt ha hb la lb i) (Nat.xor_lt_two_pow (by omega) (by omega))
theorem dif_zero (a b : List Int) : ∀ i, dif a b i = 0 ↔ a.length = b.length ∧ ∀ j, j < i → (a.getD j 0).toNat = (b.getD j 0).toNat
 | 0 => by
  unfold dif
  rw [xor_zero]
  exact ⟨fun h => ⟨h, fun j hj => by omega⟩, fun h => h.1⟩
 | i + 1 => by
  unfold dif
  rw [or_zero', dif_zero a b i, xor_zero]
  constructor
  ·rintro ⟨⟨h1, h2⟩, h3⟩
   refine ⟨h1, fun j hj => ?_⟩
   rcases Nat.lt_or_ge j i with h | h
   ·exact h2 j h
   ·have : j = i := by omega
    subst this; exact h3
  ·rintro ⟨h1, h2⟩
   exact ⟨⟨h1, fun j hj => h2 j (by omega)⟩, h2 i (by omega)⟩
theorem osame (a b : List Int) (ha : AllB a) (hb : AllB b) (la : a.length < 100000) (lb : b.length < 100000) {N : Nat} (hN : 200000 ≤ N) : octs_Same N a b = some (decide (a = b)) := by
 obtain ⟨m, hm⟩ : ∃ m, m = min a.length b.length := ⟨_, rfl⟩
 have hmi : minI (a.length : Int) (b.length : Int) = (m : Int) := by unfold minI; split <;> omega
 have hloop : octs_Same_L3_R N ((a, (b, (((dif a b 0 : Nat) : Int), ((m : Int), ((0 : Int), ()))))), ()) = some ((((dif a b m : Nat) : Int), ()), ()) := by
  refine gl_run (G := fun X c => octs_Same_L3 N X c.1.1 c.1.2.1 c.1.2.2.1 c.1.2.2.2.1 c.1.2.2.2.2.1) (fun i => ((a, (b, (((dif a b i : Nat) : Int), ((m : Int), (((i : Nat) : Int), ()))))), ())) m _ (fun X i hi => ?_) (fun X => ?_) N 0 (Nat.zero_le _) (by omega)
  ·have c1 : ((i : Int) < (m : Int)) := by omega
   have hia : i < a.length := by omega
   have hib : i < b.length := by omega
   have h1 := b8 ha i
   have h2 := b8 hb i
   have e1 : a[i] = ((a.getD i 0).toNat : Int) := by
    rw [Int.toNat_of_nonneg h1.1, List.getD_eq_getElem?_getD, List.getElem?_eq_getElem hia]; rfl
   have e2 : b[i] = ((b.getD i 0).toNat : Int) := by
    rw [Int.toNat_of_nonneg h2.1, List.getD_eq_getElem?_getD, List.getElem?_eq_getElem hib]; rfl
   have hx : (a.getD i 0).toNat ^^^ (b.getD i 0).toNat < 2 ^ 8 := Nat.xor_lt_two_pow (by omega) (by omega)
   have e3 : IntKind.wrap .i64 ((i : Int) + 1) = ((i + 1 : Nat) : Int) := by rw [wrap64 (by omega) (by omega)]; omega
   simp only [octs_Same_L3, c1, decide_true, cond_true, getI_lt a i hia, getI_lt b i hib, Option.bind_some, e3]
   rw [e1, e2, xor8 _ _ (by omega) (by omega), wrap64 (by omega) (by omega), or64 _ _ (dif_lt ha hb la lb i) (by omega)]
   rfl
  ·have c1 : ¬ ((m : Int) < (m : Int)) := by omega
   simp only [octs_Same_L3, c1, decide_false, cond_false]
 have hx : bits .xor .i64 (a.length : Int) (b.length : Int) = ((dif a b 0 : Nat) : Int) := xor64 _ _ (by omega) (by omega)
 unfold octs_Same
 rw [hx, hmi]
 refine (congrArg (fun o => Option.bind o _) hloop).trans ?_
 simp only [Option.bind_some, Option.some.injEq]
 have key : ((dif a b m : Nat) : Int) = 0 ↔ a = b := by
  rw [show (((dif a b m : Nat) : Int) = 0 ↔ dif a b m = 0) from by omega, dif_zero]
  constructor
  ·rintro ⟨h1, h2⟩
   apply List.ext_getElem h1
   intro j hj1 hj2
   have h3 := h2 j (by omega)
   have q1 := b8 ha j
   have q2 := b8 hb j
   rw [List.getD_eq_getElem?_getD, List.getElem?_eq_getElem hj1, Option.getD_some] at h3 q1
   rw [List.getD_eq_getElem?_getD, List.getElem?_eq_getElem hj2, Option.getD_some] at h3 q2
   omega
  ·rintro rfl; exact ⟨rfl, fun _ _ => rfl⟩
 exact decide_eq_decide.2 key
theorem Arr.eq {α : Type} {n : Nat} {a b : Arr α n} (h : a.l = b.l) : a = b := by
 cases a; cases b; simp only at h; subst h; rfl
theorem toArrN (n : Nat) (l : List Int) (h : l.length = n) : toArr n l = some ⟨l, h⟩ := by
 subst h
 unfold toArr
 rw [dif_pos (Nat.le_refl _)]
 congr 1
 exact Arr.ext' (List.take_of_length_le (Nat.le_refl _))
theorem rep_B (n : Nat) (x : Int) (h : 0 ≤ x ∧ x < 256) : AllB (List.replicate n x) := fun y hy => by rw [(List.mem_replicate.1 hy).2]; exact h
def valB (p r : List Int) : List Int := p ++ List.replicate 8 0 ++ r ++ [0]
theorem value_ok (p : Arr Int 16) (r : Arr Int 24) : chap2_Value 200000 p r = some (valB p.l r.l) := by
 have hp := p.h
 have hr := r.h
 have : octs_Join 200000 [p.l, List.replicate (Int.toNat 8) 0, r.l, [0]] = some ([p.l, List.replicate (Int.toNat 8) 0, r.l, [0]] : List (List Int)).flatten := join_ok (N := 200000) _ (by simp) (fun q hq => by
  simp only [List.mem_cons, List.not_mem_nil, or_false] at hq
  rcases hq with rfl | rfl | rfl | rfl
  ·omega
  ·simp
  ·omega
  ·simp) (by omega)
 unfold chap2_Value
 rw [this]
 simp [valB]
def z16 : Arr Int 16 := ⟨List.replicate 16 0, rfl⟩
def z24 : Arr Int 24 := ⟨List.replicate 24 0, rfl⟩
def peerOf (v : List Int) (h : v.length = 49) : Arr Int 16 := ⟨v.take 16, by rw [List.length_take]; omega⟩
def respOf (v : List Int) (h : v.length = 49) : Arr Int 24 := ⟨(v.drop 24).take 24, by rw [List.length_take, List.length_drop]; omega⟩
def fineV (v : List Int) : Prop := (v.drop 16).take 8 = List.replicate 8 0 ∧ v.drop 48 = [0]
instance (v : List Int) : Decidable (fineV v) := by unfold fineV; infer_instance
theorem split49 (v : List Int) (h : v.length = 49) : v = v.take 16 ++ (v.drop 16).take 8 ++ (v.drop 24).take 24 ++ v.drop 48 := by
 have e1 : (v.drop 16).take 8 ++ v.drop 24 = v.drop 16 := by
  have := List.take_append_drop 8 (v.drop 16)
  rw [List.drop_drop] at this; exact this
 have e2 : (v.drop 24).take 24 ++ v.drop 48 = v.drop 24 := by
  have := List.take_append_drop 24 (v.drop 24)
  rw [List.drop_drop] at this; exact this
 rw [List.append_assoc, List.append_assoc, e2, e1, List.take_append_drop]
theorem value_iff (v : List Int) (h : v.length = 49) : valB (peerOf v h).l (respOf v h).l = v ↔ fineV v := by
 show v.take 16 ++ List.replicate 8 0 ++ (v.drop 24).take 24 ++ [0] = v ↔ _
 constructor
 ·intro e
  have h1 := split49 v h
  have l1 : ((v.drop 16).take 8).length = 8 := by rw [List.length_take, List.length_drop]; omega
  have l2 : (v.drop 48).length = 1 := by rw [List.length_drop]; omega
  have e2 : v.take 16 ++ List.replicate 8 0 ++ (v.drop 24).take 24 ++ [0] = v.take 16 ++ (v.drop 16).take 8 ++ (v.drop 24).take 24 ++ v.drop 48 := by rw [e]; exact h1
  have k1 := List.append_inj' e2 (by rw [l2]; rfl)
  have k2 := List.append_inj' k1.1 rfl
  have k3 := List.append_inj' k2.1 (by rw [l1]; simp)
  exact ⟨k3.2.symm, k1.2.symm⟩
 ·rintro ⟨h1, h2⟩
  have := split49 v h
  rw [h1, h2] at this
  exact this.symm
theorem parse_ok (v : List Int) (hb : AllB v) (hl : v.length ≤ 200) : chap2_Parse 200000 v = some (if h : v.length = 49 then (if fineV v then (peerOf v h, respOf v h, 0) else (z16, z24, 3)) else (z16, z24, 1)) := by
 unfold chap2_Parse
 by_cases h : v.length = 49
 ·have c1 : ((v.length : Int) = 49) := by omega
  have t1 : takeI v (16 : Int) = some (v.take 16) := takeI_nat v (i := 16) rfl (by omega)
  have t2 : toArr 16 (v.take 16) = some (peerOf v h) := toArrN 16 _ (peerOf v h).h
  have t3 : subI v (24 : Int) 48 = some ((v.drop 24).take 24) := subI_nat v (i := 24) (j := 48) rfl rfl (by omega) (by omega)
  have t4 : toArr 24 ((v.drop 24).take 24) = some (respOf v h) := toArrN 24 _ (respOf v h).h
  have hvl : (valB (peerOf v h).l (respOf v h).l).length = 49 := by
   have a1 := (peerOf v h).h
   have a2 := (respOf v h).h
   simp only [valB, List.length_append, List.length_replicate, List.length_cons, List.length_nil]; omega
  have hvB : AllB (valB (peerOf v h).l (respOf v h).l) := (((hb.take 16).append (rep_B 8 0 (by omega))).append ((hb.drop 24).take 24)).append (AllB.cons (by omega) AllB.nil)
  have hs : octs_Same 200000 (valB (peerOf v h).l (respOf v h).l) v = some (decide (valB (peerOf v h).l (respOf v h).l = v)) := osame _ _ hvB hb (by omega) (by omega) (by omega)
  rw [dif_pos h, decide_eq_true c1, t1, Option.bind_some, t2, Option.bind_some, t3, Option.bind_some, t4, Option.bind_some, value_ok, Option.bind_some, hs, Option.bind_some]
  by_cases hf : fineV v
  ·rw [if_pos hf, decide_eq_true ((value_iff v h).2 hf)]; rfl
  ·rw [if_neg hf, decide_eq_false (fun e => hf ((value_iff v h).1 e))]; rfl
 ·have c1 : ¬ ((v.length : Int) = 49) := by omega
  rw [dif_neg h, decide_eq_false c1]; rfl
end Go.Proofs.YtobcpglaeonklaaGreatDoor
