/-
  Parts of my own, one behind the other: GCpA.
-/
import Derived.Test.YtfeggmghkhejcaaGreatDoorMrg3
namespace Go.Proofs.YtfeggmghkhejcaaGreatDoor
open Go.RowKit
set_option linter.unusedVariables false
set_option maxRecDepth 100000
section
variable (N : Nat)
theorem hmx : Tryz.prog.follows .mixedOrders = true := by kernel_rfl
noncomputable def Ev0 (N : Nat) : (R : Type) → Env R := Env.addInl env0 [52, 188, 187, 120, 121, 87, 164]
theorem Ev0_ok (R : Type) : EnvOK Tryz.prog (Ev0 N R) := EnvOK.addInl (env0_ok R) (by kernel_rfl)
noncomputable def Ev1 : (R : Type) → Env R := Env.addMv (Ev0 N) [(120, 3)]
theorem Ev1_ok (R : Type) : EnvOK Tryz.prog (Ev1 N R) := EnvOK.addMv (Ev0_ok N R) [(120, 3)]
noncomputable def Ev2 : (R : Type) → Env R := Env.addMv (Ev1 N) [(164, 4)]
theorem Ev2_ok (R : Type) : EnvOK Tryz.prog (Ev2 N R) := EnvOK.addMv (Ev1_ok N R) [(164, 4)]
noncomputable def roots_may (N : Nat) (n0 : Int) (degree1 : Int) (bits2 : Int) : Option Bool :=
 Option.bind (bif (decide ((0 : Int) ≤ n0)) then
   some ((cond true (decide (n0 ≤ (1000 : Int))) false))
  else
   some (false)) fun (v4 : Bool) =>
 Option.bind (bif v4 then
   bif (decide (degree1 = (2 : Int))) then
    some ((cond true true false))
   else
    some ((cond true (cond false true (decide (degree1 = (3 : Int)))) false))
  else
   some (false)) fun (v5 : Bool) =>
 Option.bind (bif v5 then
   some ((cond true (decide ((0 : Int) ≤ bits2)) false))
  else
   some (false)) fun (v6 : Bool) =>
 Option.bind (bif v6 then
   some ((cond true (decide (bits2 ≤ (32 : Int))) false))
  else
   some (false)) fun (v7 : Bool) =>
 some (v7)
theorem roots_may_S (n0 : Int) (degree1 : Int) (bits2 : Int) : (runK Tryz.prog (Ev2 N) 400 161 [(.int .i64), (.int .i64), (.int .i64)] [.bool] (n0, degree1, bits2, ())).run = roots_may N n0 degree1 bits2 := by kernel_rfl
noncomputable def Ev3 : (R : Type) → Env R := Env.addFn (Ev2 N) 161 (fun R => fnK [(.int .i64), (.int .i64), (.int .i64)] [.bool] (fun c => roots_may N c.1 c.2.1 c.2.2.1))
theorem Ev3_ok (R : Type) : EnvOK Tryz.prog (Ev3 N R) := EnvOK.addFn hmx (Ev2_ok N R) (Ev2_ok N _) (by kernel_rfl) (fun c => roots_may_S N c.1 c.2.1 c.2.2.1)
noncomputable def math_bits_Mul64 (N : Nat) (x0 : Int) (y1 : Int) : Option (Int × Int) :=
 some (((IntKind.wrap .u64 ((IntKind.wrap .u64 ((IntKind.wrap .u64 ((@Int.fdiv x0 ((2 : Int) ^ (min (Int.toNat (32 : Int)) (IntKind.bits .u64)))) * (@Int.fdiv y1 ((2 : Int) ^ (min (Int.toNat (32 : Int)) (IntKind.bits .u64)))))) + (@Int.fdiv (IntKind.wrap .u64 ((IntKind.wrap .u64 ((@Int.fdiv x0 ((2 : Int) ^ (min (Int.toNat (32 : Int)) (IntKind.bits .u64)))) * (bits .and .u64 y1 (4294967295 : Int)))) + (@Int.fdiv (IntKind.wrap .u64 ((bits .and .u64 x0 (4294967295 : Int)) * (bits .and .u64 y1 (4294967295 : Int)))) ((2 : Int) ^ (min (Int.toNat (32 : Int)) (IntKind.bits .u64)))))) ((2 : Int) ^ (min (Int.toNat (32 : Int)) (IntKind.bits .u64)))))) + (@Int.fdiv (IntKind.wrap .u64 ((bits .and .u64 (IntKind.wrap .u64 ((IntKind.wrap .u64 ((@Int.fdiv x0 ((2 : Int) ^ (min (Int.toNat (32 : Int)) (IntKind.bits .u64)))) * (bits .and .u64 y1 (4294967295 : Int)))) + (@Int.fdiv (IntKind.wrap .u64 ((bits .and .u64 x0 (4294967295 : Int)) * (bits .and .u64 y1 (4294967295 : Int)))) ((2 : Int) ^ (min (Int.toNat (32 : Int)) (IntKind.bits .u64)))))) (4294967295 : Int)) + (IntKind.wrap .u64 ((bits .and .u64 x0 (4294967295 : Int)) * (@Int.fdiv y1 ((2 : Int) ^ (min (Int.toNat (32 : Int)) (IntKind.bits .u64)))))))) ((2 : Int) ^ (min (Int.toNat (32 : Int)) (IntKind.bits .u64)))))), (IntKind.wrap .u64 (x0 * y1))))
theorem math_bits_Mul64_S (x0 : Int) (y1 : Int) : (runK Tryz.prog (Ev3 N) 400 194 [(.int .u64), (.int .u64)] [(.int .u64), (.int .u64)] (x0, y1, ())).run = math_bits_Mul64 N x0 y1 := by kernel_rfl
noncomputable def Ev4 : (R : Type) → Env R := Env.addFn (Ev3 N) 194 (fun R => fnK [(.int .u64), (.int .u64)] [(.int .u64), (.int .u64)] (fun c => math_bits_Mul64 N c.1 c.2.1))
theorem Ev4_ok (R : Type) : EnvOK Tryz.prog (Ev4 N R) := EnvOK.addFn hmx (Ev3_ok N R) (Ev3_ok N _) (by kernel_rfl) (fun c => math_bits_Mul64_S N c.1 c.2.1)
noncomputable def roots_power (N : Nat) (x0 : Int) (degree1 : Int) : Option (Int × Int) :=
 bif (decide (degree1 = (2 : Int))) then
  some (((IntKind.wrap .u64 ((IntKind.wrap .u64 ((IntKind.wrap .u64 ((@Int.fdiv x0 ((2 : Int) ^ (min (Int.toNat (32 : Int)) (IntKind.bits .u64)))) * (@Int.fdiv x0 ((2 : Int) ^ (min (Int.toNat (32 : Int)) (IntKind.bits .u64)))))) + (@Int.fdiv (IntKind.wrap .u64 ((IntKind.wrap .u64 ((@Int.fdiv x0 ((2 : Int) ^ (min (Int.toNat (32 : Int)) (IntKind.bits .u64)))) * (bits .and .u64 x0 (4294967295 : Int)))) + (@Int.fdiv (IntKind.wrap .u64 ((bits .and .u64 x0 (4294967295 : Int)) * (bits .and .u64 x0 (4294967295 : Int)))) ((2 : Int) ^ (min (Int.toNat (32 : Int)) (IntKind.bits .u64)))))) ((2 : Int) ^ (min (Int.toNat (32 : Int)) (IntKind.bits .u64)))))) + (@Int.fdiv (IntKind.wrap .u64 ((bits .and .u64 (IntKind.wrap .u64 ((IntKind.wrap .u64 ((@Int.fdiv x0 ((2 : Int) ^ (min (Int.toNat (32 : Int)) (IntKind.bits .u64)))) * (bits .and .u64 x0 (4294967295 : Int)))) + (@Int.fdiv (IntKind.wrap .u64 ((bits .and .u64 x0 (4294967295 : Int)) * (bits .and .u64 x0 (4294967295 : Int)))) ((2 : Int) ^ (min (Int.toNat (32 : Int)) (IntKind.bits .u64)))))) (4294967295 : Int)) + (IntKind.wrap .u64 ((bits .and .u64 x0 (4294967295 : Int)) * (@Int.fdiv x0 ((2 : Int) ^ (min (Int.toNat (32 : Int)) (IntKind.bits .u64)))))))) ((2 : Int) ^ (min (Int.toNat (32 : Int)) (IntKind.bits .u64)))))), (IntKind.wrap .u64 (x0 * x0))))
 else
  some (((IntKind.wrap .u64 ((IntKind.wrap .u64 ((IntKind.wrap .u64 ((IntKind.wrap .u64 ((IntKind.wrap .u64 ((@Int.fdiv x0 ((2 : Int) ^ (min (Int.toNat (32 : Int)) (IntKind.bits .u64)))) * (@Int.fdiv x0 ((2 : Int) ^ (min (Int.toNat (32 : Int)) (IntKind.bits .u64)))))) + (@Int.fdiv (IntKind.wrap .u64 ((IntKind.wrap .u64 ((@Int.fdiv x0 ((2 : Int) ^ (min (Int.toNat (32 : Int)) (IntKind.bits .u64)))) * (bits .and .u64 x0 (4294967295 : Int)))) + (@Int.fdiv (IntKind.wrap .u64 ((bits .and .u64 x0 (4294967295 : Int)) * (bits .and .u64 x0 (4294967295 : Int)))) ((2 : Int) ^ (min (Int.toNat (32 : Int)) (IntKind.bits .u64)))))) ((2 : Int) ^ (min (Int.toNat (32 : Int)) (IntKind.bits .u64)))))) + (@Int.fdiv (IntKind.wrap .u64 ((bits .and .u64 (IntKind.wrap .u64 ((IntKind.wrap .u64 ((@Int.fdiv x0 ((2 : Int) ^ (min (Int.toNat (32 : Int)) (IntKind.bits .u64)))) * (bits .and .u64 x0 (4294967295 : Int)))) + (@Int.fdiv (IntKind.wrap .u64 ((bits .and .u64 x0 (4294967295 : Int)) * (bits .and .u64 x0 (4294967295 : Int)))) ((2 : Int) ^ (min (Int.toNat (32 : Int)) (IntKind.bits .u64)))))) (4294967295 : Int)) + (IntKind.wrap .u64 ((bits .and .u64 x0 (4294967295 : Int)) * (@Int.fdiv x0 ((2 : Int) ^ (min (Int.toNat (32 : Int)) (IntKind.bits .u64)))))))) ((2 : Int) ^ (min (Int.toNat (32 : Int)) (IntKind.bits .u64)))))) * x0)) + (IntKind.wrap .u64 ((IntKind.wrap .u64 ((IntKind.wrap .u64 ((@Int.fdiv (IntKind.wrap .u64 (x0 * x0)) ((2 : Int) ^ (min (Int.toNat (32 : Int)) (IntKind.bits .u64)))) * (@Int.fdiv x0 ((2 : Int) ^ (min (Int.toNat (32 : Int)) (IntKind.bits .u64)))))) + (@Int.fdiv (IntKind.wrap .u64 ((IntKind.wrap .u64 ((@Int.fdiv (IntKind.wrap .u64 (x0 * x0)) ((2 : Int) ^ (min (Int.toNat (32 : Int)) (IntKind.bits .u64)))) * (bits .and .u64 x0 (4294967295 : Int)))) + (@Int.fdiv (IntKind.wrap .u64 ((bits .and .u64 (IntKind.wrap .u64 (x0 * x0)) (4294967295 : Int)) * (bits .and .u64 x0 (4294967295 : Int)))) ((2 : Int) ^ (min (Int.toNat (32 : Int)) (IntKind.bits .u64)))))) ((2 : Int) ^ (min (Int.toNat (32 : Int)) (IntKind.bits .u64)))))) + (@Int.fdiv (IntKind.wrap .u64 ((bits .and .u64 (IntKind.wrap .u64 ((IntKind.wrap .u64 ((@Int.fdiv (IntKind.wrap .u64 (x0 * x0)) ((2 : Int) ^ (min (Int.toNat (32 : Int)) (IntKind.bits .u64)))) * (bits .and .u64 x0 (4294967295 : Int)))) + (@Int.fdiv (IntKind.wrap .u64 ((bits .and .u64 (IntKind.wrap .u64 (x0 * x0)) (4294967295 : Int)) * (bits .and .u64 x0 (4294967295 : Int)))) ((2 : Int) ^ (min (Int.toNat (32 : Int)) (IntKind.bits .u64)))))) (4294967295 : Int)) + (IntKind.wrap .u64 ((bits .and .u64 (IntKind.wrap .u64 (x0 * x0)) (4294967295 : Int)) * (@Int.fdiv x0 ((2 : Int) ^ (min (Int.toNat (32 : Int)) (IntKind.bits .u64)))))))) ((2 : Int) ^ (min (Int.toNat (32 : Int)) (IntKind.bits .u64)))))))), (IntKind.wrap .u64 ((IntKind.wrap .u64 (x0 * x0)) * x0))))
theorem roots_power_S (x0 : Int) (degree1 : Int) : (runK Tryz.prog (Ev4 N) 400 185 [(.int .u64), (.int .i64)] [(.int .u64), (.int .u64)] (x0, degree1, ())).run = roots_power N x0 degree1 := by kernel_rfl
noncomputable def Ev5 : (R : Type) → Env R := Env.addFn (Ev4 N) 185 (fun R => fnK [(.int .u64), (.int .i64)] [(.int .u64), (.int .u64)] (fun c => roots_power N c.1 c.2.1))
theorem Ev5_ok (R : Type) : EnvOK Tryz.prog (Ev5 N R) := EnvOK.addFn hmx (Ev4_ok N R) (Ev4_ok N _) (by kernel_rfl) (fun c => roots_power_S N c.1 c.2.1)
noncomputable def roots_shifted (N : Nat) (n0 : Int) (shift1 : Int) : Option (Int × Int) :=
 bif (decide ((64 : Int) ≤ shift1)) then
  bif (decide ((0 : Int) ≤ (IntKind.wrap .i64 (shift1 - 64)))) then
   some (((IntKind.wrap .u64 (n0 * ((2 : Int) ^ (min (Int.toNat (IntKind.wrap .i64 (shift1 - 64))) (IntKind.bits .u64))))), (0 : Int)))
  else
   none
 else
  bif (decide ((0 : Int) ≤ (IntKind.wrap .i64 ((64 : Int) - shift1)))) then
   bif (decide ((0 : Int) ≤ shift1)) then
    some (((@Int.fdiv n0 ((2 : Int) ^ (min (Int.toNat (IntKind.wrap .i64 ((64 : Int) - shift1))) (IntKind.bits .u64)))), (IntKind.wrap .u64 (n0 * ((2 : Int) ^ (min (Int.toNat shift1) (IntKind.bits .u64)))))))
   else
    none
  else
   none
theorem roots_shifted_S (n0 : Int) (shift1 : Int) : (runK Tryz.prog (Ev5 N) 400 186 [(.int .u64), (.int .i64)] [(.int .u64), (.int .u64)] (n0, shift1, ())).run = roots_shifted N n0 shift1 := by kernel_rfl
noncomputable def Ev6 : (R : Type) → Env R := Env.addFn (Ev5 N) 186 (fun R => fnK [(.int .u64), (.int .i64)] [(.int .u64), (.int .u64)] (fun c => roots_shifted N c.1 c.2.1))
theorem Ev6_ok (R : Type) : EnvOK Tryz.prog (Ev6 N R) := EnvOK.addFn hmx (Ev5_ok N R) (Ev5_ok N _) (by kernel_rfl) (fun c => roots_shifted_S N c.1 c.2.1)
noncomputable def roots_above (x0 : Int) (n1 : Int) (degree2 : Int) (shift3 : Int) : Option Bool :=
 Option.bind (roots_power N x0 degree2) fun v5 =>
 Option.bind (roots_shifted N (IntKind.wrap .u64 n1) shift3) fun v6 =>
 bif (!(decide (v5.1 = v6.1))) then
  some ((decide (v6.1 < v5.1)))
 else
  some ((decide (v6.2 < v5.2)))
theorem roots_above_S (x0 : Int) (n1 : Int) (degree2 : Int) (shift3 : Int) : (runK Tryz.prog (Ev6 N) 400 162 [(.int .u64), (.int .i64), (.int .i64), (.int .i64)] [.bool] (x0, n1, degree2, shift3, ())).run = roots_above N x0 n1 degree2 shift3 := by kernel_rfl
noncomputable def Ev7 : (R : Type) → Env R := Env.addFn (Ev6 N) 162 (fun R => fnK [(.int .u64), (.int .i64), (.int .i64), (.int .i64)] [.bool] (fun c => roots_above N c.1 c.2.1 c.2.2.1 c.2.2.2.1))
theorem Ev7_ok (R : Type) : EnvOK Tryz.prog (Ev7 N R) := EnvOK.addFn hmx (Ev6_ok N R) (Ev6_ok N _) (by kernel_rfl) (fun c => roots_above_S N c.1 c.2.1 c.2.2.1 c.2.2.2.1)
noncomputable def roots_Root_L5_I : LI := ⟨34, 0, [], ⟨[(0, .ty (.int .i64)), (1, .ty (.int .i64)), (2, .ty (.int .i64)), (8, .ty (.int .u64)), (9, .ty (.int .i64))], []⟩, [(.exit 0, ⟨[(8, .ty (.int .u64))], []⟩)]⟩
noncomputable def roots_Root_L5 (X : ((Int × (Int × (Int × (Int × (Int × Unit))))) × Unit) → Option (((Int × Unit) × Unit))) (n0 : Int) (degree1 : Int) (bits2 : Int) (root8 : Int) (i9 : Int) : Option (((Int × Unit) × Unit)) :=
 bif (decide ((0 : Int) ≤ i9)) then
  bif (decide ((0 : Int) ≤ i9)) then
   Option.bind (roots_above N (bits .or .u64 root8 (IntKind.wrap .u64 ((1 : Int) * ((2 : Int) ^ (min (Int.toNat i9) (IntKind.bits .u64)))))) n0 degree1 (IntKind.wrap .i64 (degree1 * bits2))) fun v7 =>
   bif (!v7) then
    (X ((n0, (degree1, (bits2, ((bits .or .u64 root8 (IntKind.wrap .u64 ((1 : Int) * ((2 : Int) ^ (min (Int.toNat i9) (IntKind.bits .u64)))))), ((IntKind.wrap .i64 (i9 - 1)), ()))))), ()))
   else
    (X ((n0, (degree1, (bits2, (root8, ((IntKind.wrap .i64 (i9 - 1)), ()))))), ()))
  else
   none
 else
  some (((root8, ()), ()))
noncomputable def roots_Root_L5_R (c : ((Int × (Int × (Int × (Int × (Int × Unit))))) × Unit)) : Option (((Int × Unit) × Unit)) := gl (fun X c => roots_Root_L5 N X c.1.1 c.1.2.1 c.1.2.2.1 c.1.2.2.2.1 c.1.2.2.2.2.1) N c
theorem roots_Root_L5_S (X : ((Int × (Int × (Int × (Int × (Int × Unit))))) × Unit) → Option (((Int × Unit) × Unit))) (n0 : Int) (degree1 : Int) (bits2 : Int) (root8 : Int) (i9 : Int) : (roundK Tryz.prog (Ev7 N) 400 [119] roots_Root_L5_I (loopAt Tryz.prog [119] 5) X ((n0, degree1, bits2, root8, i9, ()), ())).run = roots_Root_L5 N X n0 degree1 bits2 root8 i9 := by kernel_rfl
noncomputable def Ev8 : (R : Type) → Env R := Env.addLp (Ev7 N) [119] 0 5 (fun R => lpK Tryz.prog roots_Root_L5_I (fun X c => roots_Root_L5 N X c.1.1 c.1.2.1 c.1.2.2.1 c.1.2.2.2.1 c.1.2.2.2.2.1) N)
theorem Ev8_ok (R : Type) : EnvOK Tryz.prog (Ev8 N R) := EnvOK.addLp (Ev7_ok N R) (by kernel_rfl) (lpK_ok (li := roots_Root_L5_I) (G := fun X c => roots_Root_L5 N X c.1.1 c.1.2.1 c.1.2.2.1 c.1.2.2.2.1 c.1.2.2.2.2.1) hmx (Ev7_ok N _) (by kernel_rfl) loopAt_sub (fun (X : CT roots_Root_L5_I.sh → Option (OT roots_Root_L5_I.outs)) (c : CT roots_Root_L5_I.sh) => roots_Root_L5_S N X c.1.1 c.1.2.1 c.1.2.2.1 c.1.2.2.2.1 c.1.2.2.2.2.1) N)
noncomputable def roots_Root (n0 : Int) (degree1 : Int) (bits2 : Int) : Option (Int × Int) :=
 Option.bind (roots_may N n0 degree1 bits2) fun v4 =>
 bif (!v4) then
  some (((0 : Int), (1 : Int)))
 else
  Option.bind (roots_Root_L5_R N ((n0, (degree1, (bits2, ((0 : Int), ((36 : Int), ()))))), ())) fun v5 =>
  some ((v5.1.1, (0 : Int)))
theorem roots_Root_S (n0 : Int) (degree1 : Int) (bits2 : Int) : (runK Tryz.prog (Ev8 N) 400 119 [(.int .i64), (.int .i64), (.int .i64)] [(.int .u64), (.int .i64)] (n0, degree1, bits2, ())).run = roots_Root N n0 degree1 bits2 := by kernel_rfl
noncomputable def Ev9 : (R : Type) → Env R := Env.addFn (Ev8 N) 119 (fun R => fnK [(.int .i64), (.int .i64), (.int .i64)] [(.int .u64), (.int .i64)] (fun c => roots_Root N c.1 c.2.1 c.2.2.1))
theorem Ev9_ok (R : Type) : EnvOK Tryz.prog (Ev9 N R) := EnvOK.addFn hmx (Ev8_ok N R) (Ev8_ok N _) (by kernel_rfl) (fun c => roots_Root_S N c.1 c.2.1 c.2.2.1)
noncomputable def octs_place (N : Nat) (i0 : Int) (width1 : Int) (little2 : Bool) : Option Int :=
 bif little2 then
  some (i0)
 else
  some ((IntKind.wrap .i64 ((IntKind.wrap .i64 (width1 - 1)) - i0)))
theorem octs_place_S (i0 : Int) (width1 : Int) (little2 : Bool) : (runK Tryz.prog (Ev9 N) 400 89 [(.int .i64), (.int .i64), .bool] [(.int .i64)] (i0, width1, little2, ())).run = octs_place N i0 width1 little2 := by kernel_rfl
noncomputable def Ev10 : (R : Type) → Env R := Env.addFn (Ev9 N) 89 (fun R => fnK [(.int .i64), (.int .i64), .bool] [(.int .i64)] (fun c => octs_place N c.1 c.2.1 c.2.2.1))
theorem Ev10_ok (R : Type) : EnvOK Tryz.prog (Ev10 N R) := EnvOK.addFn hmx (Ev9_ok N R) (Ev9_ok N _) (by kernel_rfl) (fun c => octs_place_S N c.1 c.2.1 c.2.2.1)
noncomputable def octs_Put_L5_I : LI := ⟨35, 0, [], ⟨[(0, .ty (.int .u64)), (1, .ty (.int .i64)), (2, .ty .bool), (8, .lit (.own 0)), (19, .ty (.int .i64)), (20, .ty (.int .i64))], [.own (.int .u8) 5]⟩, [(.exit 0, ⟨[(8, .lit (.own 0))], [.own (.int .u8) 5]⟩)]⟩
noncomputable def octs_Put_L5 (X : ((Int × (Int × (Bool × (Int × (Int × Unit))))) × ((List Int) × Unit)) → Option ((Unit × ((List Int) × Unit)))) (n0 : Int) (width1 : Int) (little2 : Bool) (x19 : Int) (x20 : Int) (h0 : List (Int)) : Option ((Unit × ((List Int) × Unit))) :=
 bif (decide (x20 < x19)) then
  Option.bind (octs_place N x20 width1 little2) fun v8 =>
  bif (decide ((0 : Int) ≤ v8 ∧ v8 < (((List.length h0) : Nat) : Int))) then
   Option.bind (h0[Int.toNat v8]?) fun (v9 : Int) =>
   (X (((@Int.fdiv n0 ((2 : Int) ^ (min (Int.toNat (8 : Int)) (IntKind.bits .u64)))), (width1, (little2, (x19, ((IntKind.wrap .i64 (x20 + 1)), ()))))), ((@List.set Int h0 (Int.toNat v8) (IntKind.wrap .u8 n0)), ())))
  else
   none
 else
  some (((), (h0, ())))
noncomputable def octs_Put_L5_R (c : ((Int × (Int × (Bool × (Int × (Int × Unit))))) × ((List Int) × Unit))) : Option ((Unit × ((List Int) × Unit))) := gl (fun X c => octs_Put_L5 N X c.1.1 c.1.2.1 c.1.2.2.1 c.1.2.2.2.1 c.1.2.2.2.2.1 c.2.1) N c
theorem octs_Put_L5_S (X : ((Int × (Int × (Bool × (Int × (Int × Unit))))) × ((List Int) × Unit)) → Option ((Unit × ((List Int) × Unit)))) (n0 : Int) (width1 : Int) (little2 : Bool) (x19 : Int) (x20 : Int) (h0 : List (Int)) : (roundK Tryz.prog (Ev10 N) 400 [62] octs_Put_L5_I (loopAt Tryz.prog [62] 5) X ((n0, width1, little2, x19, x20, ()), (h0, ()))).run = octs_Put_L5 N X n0 width1 little2 x19 x20 h0 := by kernel_rfl
noncomputable def Ev11 : (R : Type) → Env R := Env.addLp (Ev10 N) [62] 0 5 (fun R => lpK Tryz.prog octs_Put_L5_I (fun X c => octs_Put_L5 N X c.1.1 c.1.2.1 c.1.2.2.1 c.1.2.2.2.1 c.1.2.2.2.2.1 c.2.1) N)
theorem Ev11_ok (R : Type) : EnvOK Tryz.prog (Ev11 N R) := EnvOK.addLp (Ev10_ok N R) (by kernel_rfl) (lpK_ok (li := octs_Put_L5_I) (G := fun X c => octs_Put_L5 N X c.1.1 c.1.2.1 c.1.2.2.1 c.1.2.2.2.1 c.1.2.2.2.2.1 c.2.1) hmx (Ev10_ok N _) (by kernel_rfl) loopAt_sub (fun (X : CT octs_Put_L5_I.sh → Option (OT octs_Put_L5_I.outs)) (c : CT octs_Put_L5_I.sh) => octs_Put_L5_S N X c.1.1 c.1.2.1 c.1.2.2.1 c.1.2.2.2.1 c.1.2.2.2.2.1 c.2.1) N)
noncomputable def octs_Put (n0 : Int) (width1 : Int) (little2 : Bool) : Option ((List Int) × Int) :=
 Option.bind (bif (decide (width1 < (1 : Int))) then
   some (true)
  else
   some ((cond false true (decide ((8 : Int) < width1))))) fun (v4 : Bool) =>
 bif v4 then
  some ((([] : List Int), (1 : Int)))
 else
  bif ((decide ((0 : Int) ≤ width1 ∧ width1 ≤ width1)) && (roomB (Int.toNat width1) 1)) then
   Option.bind (octs_Put_L5_R N ((n0, (width1, (little2, ((((List.length (@List.replicate Int (Int.toNat width1) (0 : Int))) : Nat) : Int), ((0 : Int), ()))))), ((@List.replicate Int (Int.toNat width1) (0 : Int)), ()))) fun v5 =>
   some ((v5.2.1, (0 : Int)))
  else
   none
theorem octs_Put_S (n0 : Int) (width1 : Int) (little2 : Bool) : (runK Tryz.prog (Ev11 N) 400 62 [(.int .u64), (.int .i64), .bool] [(.sl (.int .u8)), (.int .i64)] (n0, width1, little2, ())).run = octs_Put N n0 width1 little2 := by kernel_rfl
noncomputable def Ev12 : (R : Type) → Env R := Env.addFn (Ev11 N) 62 (fun R => fnK [(.int .u64), (.int .i64), .bool] [(.sl (.int .u8)), (.int .i64)] (fun c => octs_Put N c.1 c.2.1 c.2.2.1))
theorem Ev12_ok (R : Type) : EnvOK Tryz.prog (Ev12 N R) := EnvOK.addFn hmx (Ev11_ok N R) (Ev11_ok N _) (by kernel_rfl) (fun c => octs_Put_S N c.1 c.2.1 c.2.2.1)
noncomputable def md4_Tail_3_octs_Join_L3_I : LI := ⟨33, 1, [], ⟨[(0, .ty (.sl (.sl (.int .u8)))), (3, .ty (.int .i64)), (9, .ty (.sl (.sl (.int .u8)))), (10, .ty (.int .i64)), (11, .ty (.int .i64))], [.dead]⟩, [(.exit 0, ⟨[(0, .ty (.sl (.sl (.int .u8)))), (3, .ty (.int .i64))], [.dead]⟩)]⟩
noncomputable def md4_Tail_3_octs_Join_L3 (N : Nat) (X : (((List (List Int)) × (Int × ((List (List Int)) × (Int × (Int × Unit))))) × Unit) → Option ((((List (List Int)) × (Int × Unit)) × Unit))) (parts0 : List (List Int)) (size3 : Int) (x9 : List (List Int)) (x10 : Int) (x11 : Int) : Option ((((List (List Int)) × (Int × Unit)) × Unit)) :=
 bif (decide (x11 < x10)) then
  Option.bind (getI x9 x11) fun (v7 : (List Int)) =>
  (X ((parts0, ((IntKind.wrap .i64 (size3 + (((List.length v7) : Nat) : Int))), (x9, (x10, ((IntKind.wrap .i64 (x11 + 1)), ()))))), ()))
 else
  some (((parts0, (size3, ())), ()))
noncomputable def md4_Tail_3_octs_Join_L3_R (c : (((List (List Int)) × (Int × ((List (List Int)) × (Int × (Int × Unit))))) × Unit)) : Option ((((List (List Int)) × (Int × Unit)) × Unit)) := gl (fun X c => md4_Tail_3_octs_Join_L3 N X c.1.1 c.1.2.1 c.1.2.2.1 c.1.2.2.2.1 c.1.2.2.2.2.1) N c
theorem md4_Tail_3_octs_Join_L3_S (X : (((List (List Int)) × (Int × ((List (List Int)) × (Int × (Int × Unit))))) × Unit) → Option ((((List (List Int)) × (Int × Unit)) × Unit))) (parts0 : List (List Int)) (size3 : Int) (x9 : List (List Int)) (x10 : Int) (x11 : Int) : (roundK Tryz.prog (Ev12 N) 400 [52, 3, 94] md4_Tail_3_octs_Join_L3_I (loopAt Tryz.prog [52, 3, 94] 3) X ((parts0, size3, x9, x10, x11, ()), ())).run = md4_Tail_3_octs_Join_L3 N X parts0 size3 x9 x10 x11 := by kernel_rfl
noncomputable def Ev13 : (R : Type) → Env R := Env.addLp (Ev12 N) [52, 3, 94] 1 3 (fun R => lpK Tryz.prog md4_Tail_3_octs_Join_L3_I (fun X c => md4_Tail_3_octs_Join_L3 N X c.1.1 c.1.2.1 c.1.2.2.1 c.1.2.2.2.1 c.1.2.2.2.2.1) N)
theorem Ev13_ok (R : Type) : EnvOK Tryz.prog (Ev13 N R) := EnvOK.addLp (Ev12_ok N R) (by kernel_rfl) (lpK_ok (li := md4_Tail_3_octs_Join_L3_I) (G := fun X c => md4_Tail_3_octs_Join_L3 N X c.1.1 c.1.2.1 c.1.2.2.1 c.1.2.2.2.1 c.1.2.2.2.2.1) hmx (Ev12_ok N _) (by kernel_rfl) loopAt_sub (fun (X : CT md4_Tail_3_octs_Join_L3_I.sh → Option (OT md4_Tail_3_octs_Join_L3_I.outs)) (c : CT md4_Tail_3_octs_Join_L3_I.sh) => md4_Tail_3_octs_Join_L3_S N X c.1.1 c.1.2.1 c.1.2.2.1 c.1.2.2.2.1 c.1.2.2.2.2.1) N)
noncomputable def md4_Tail_3_octs_Join_L9_I : LI := ⟨33, 1, [], ⟨[(6, .lit (.own 1)), (22, .ty (.sl (.sl (.int .u8)))), (23, .ty (.int .i64)), (24, .ty (.int .i64))], [.dead, .own (.int .u8) 5]⟩, [(.exit 2, ⟨[(6, .lit (.own 1))], [.dead, .own (.int .u8) 5]⟩)]⟩
noncomputable def md4_Tail_3_octs_Join_L9 (N : Nat) (X : (((List (List Int)) × (Int × (Int × Unit))) × ((List Int) × Unit)) → Option ((Unit × ((List Int) × Unit)))) (x22 : List (List Int)) (x23 : Int) (x24 : Int) (h0 : List (Int)) : Option ((Unit × ((List Int) × Unit))) :=
 bif (decide (x24 < x23)) then
  Option.bind (getI x22 x24) fun (v6 : (List Int)) =>
  bif (roomB ((List.length h0) + (List.length v6)) 1) then
   (X ((x22, (x23, ((IntKind.wrap .i64 (x24 + 1)), ()))), ((h0 ++ v6), ())))
  else
   none
 else
  some (((), (h0, ())))
noncomputable def md4_Tail_3_octs_Join_L9_R (c : (((List (List Int)) × (Int × (Int × Unit))) × ((List Int) × Unit))) : Option ((Unit × ((List Int) × Unit))) := gl (fun X c => md4_Tail_3_octs_Join_L9 N X c.1.1 c.1.2.1 c.1.2.2.1 c.2.1) N c
theorem md4_Tail_3_octs_Join_L9_S (X : (((List (List Int)) × (Int × (Int × Unit))) × ((List Int) × Unit)) → Option ((Unit × ((List Int) × Unit)))) (x22 : List (List Int)) (x23 : Int) (x24 : Int) (h0 : List (Int)) : (roundK Tryz.prog (Ev13 N) 400 [52, 3, 94] md4_Tail_3_octs_Join_L9_I (loopAt Tryz.prog [52, 3, 94] 9) X ((x22, x23, x24, ()), (h0, ()))).run = md4_Tail_3_octs_Join_L9 N X x22 x23 x24 h0 := by kernel_rfl
noncomputable def Ev14 : (R : Type) → Env R := Env.addLp (Ev13 N) [52, 3, 94] 1 9 (fun R => lpK Tryz.prog md4_Tail_3_octs_Join_L9_I (fun X c => md4_Tail_3_octs_Join_L9 N X c.1.1 c.1.2.1 c.1.2.2.1 c.2.1) N)
theorem Ev14_ok (R : Type) : EnvOK Tryz.prog (Ev14 N R) := EnvOK.addLp (Ev13_ok N R) (by kernel_rfl) (lpK_ok (li := md4_Tail_3_octs_Join_L9_I) (G := fun X c => md4_Tail_3_octs_Join_L9 N X c.1.1 c.1.2.1 c.1.2.2.1 c.2.1) hmx (Ev13_ok N _) (by kernel_rfl) loopAt_sub (fun (X : CT md4_Tail_3_octs_Join_L9_I.sh → Option (OT md4_Tail_3_octs_Join_L9_I.outs)) (c : CT md4_Tail_3_octs_Join_L9_I.sh) => md4_Tail_3_octs_Join_L9_S N X c.1.1 c.1.2.1 c.1.2.2.1 c.2.1) N)
noncomputable def md4_Tail (n0 : Int) : Option (List Int) :=
 Option.bind (octs_Put N (IntKind.wrap .u64 ((8 : Int) * n0)) (8 : Int) true) fun v2 =>
 bif ((decide ((0 : Int) ≤ (@Int.tmod (IntKind.wrap .u64 ((119 : Int) - (@Int.tmod n0 (64 : Int)))) (64 : Int)) ∧ (@Int.tmod (IntKind.wrap .u64 ((119 : Int) - (@Int.tmod n0 (64 : Int)))) (64 : Int)) ≤ (@Int.tmod (IntKind.wrap .u64 ((119 : Int) - (@Int.tmod n0 (64 : Int)))) (64 : Int)))) && (roomB (Int.toNat (@Int.tmod (IntKind.wrap .u64 ((119 : Int) - (@Int.tmod n0 (64 : Int)))) (64 : Int))) 1)) then
  Option.bind (md4_Tail_3_octs_Join_L3_R N ((([([128] : List Int), (@List.replicate Int (Int.toNat (@Int.tmod (IntKind.wrap .u64 ((119 : Int) - (@Int.tmod n0 (64 : Int)))) (64 : Int))) (0 : Int)), v2.1] : List ((List Int))), ((0 : Int), (([([128] : List Int), (@List.replicate Int (Int.toNat (@Int.tmod (IntKind.wrap .u64 ((119 : Int) - (@Int.tmod n0 (64 : Int)))) (64 : Int))) (0 : Int)), v2.1] : List ((List Int))), ((((List.length ([([128] : List Int), (@List.replicate Int (Int.toNat (@Int.tmod (IntKind.wrap .u64 ((119 : Int) - (@Int.tmod n0 (64 : Int)))) (64 : Int))) (0 : Int)), v2.1] : List ((List Int)))) : Nat) : Int), ((0 : Int), ()))))), ())) fun v3 =>
  bif ((decide ((0 : Int) ≤ (0 : Int) ∧ (0 : Int) ≤ v3.1.2.1)) && (roomB (Int.toNat v3.1.2.1) 1)) then
   Option.bind (md4_Tail_3_octs_Join_L9_R N ((v3.1.1, ((((List.length v3.1.1) : Nat) : Int), ((0 : Int), ()))), ((@List.replicate Int (Int.toNat (0 : Int)) (0 : Int)), ()))) fun v4 =>
   some (v4.2.1)
  else
   none
 else
  none
theorem md4_Tail_S (n0 : Int) : (runK Tryz.prog (Ev14 N) 400 94 [(.int .u64)] [(.sl (.int .u8))] (n0, ())).run = md4_Tail N n0 := by kernel_rfl
noncomputable def Ev15 : (R : Type) → Env R := Env.addFn (Ev14 N) 94 (fun R => fnK [(.int .u64)] [(.sl (.int .u8))] (fun c => md4_Tail N c.1))
theorem Ev15_ok (R : Type) : EnvOK Tryz.prog (Ev15 N R) := EnvOK.addFn hmx (Ev14_ok N R) (Ev14_ok N _) (by kernel_rfl) (fun c => md4_Tail_S N c.1)
noncomputable def md4_First (N : Nat) : Option (Arr Int 4) :=
 some ((@Arr.cons Int 3 1732584193 (@Arr.cons Int 2 4023233417 (@Arr.cons Int 1 2562383102 (@Arr.cons Int 0 271733878 (@Arr.nil Int))))))
theorem md4_First_S : (runK Tryz.prog (Ev15 N) 400 95 [] [(.arr 4 (.int .u32))] ()).run = md4_First N  := by kernel_rfl
noncomputable def Ev16 : (R : Type) → Env R := Env.addFn (Ev15 N) 95 (fun R => fnK [] [(.arr 4 (.int .u32))] (fun c => md4_First N ))
theorem Ev16_ok (R : Type) : EnvOK Tryz.prog (Ev16 N R) := EnvOK.addFn hmx (Ev15_ok N R) (Ev15_ok N _) (by kernel_rfl) (fun c => md4_First_S N )
noncomputable def md4_Of_1_octs_Join_L3_I : LI := ⟨33, 1, [], ⟨[(0, .ty (.sl (.sl (.int .u8)))), (3, .ty (.int .i64)), (9, .ty (.sl (.sl (.int .u8)))), (10, .ty (.int .i64)), (11, .ty (.int .i64))], [.box 22 (.arr 16 (.int .u8))]⟩, [(.exit 0, ⟨[(0, .ty (.sl (.sl (.int .u8)))), (3, .ty (.int .i64))], [.box 22 (.arr 16 (.int .u8))]⟩)]⟩
noncomputable def md4_Of_1_octs_Join_L3 (N : Nat) (X : (((List (List Int)) × (Int × ((List (List Int)) × (Int × (Int × Unit))))) × ((Arr Int 16) × Unit)) → Option ((((List (List Int)) × (Int × Unit)) × ((Arr Int 16) × Unit)))) (parts0 : List (List Int)) (size3 : Int) (x9 : List (List Int)) (x10 : Int) (x11 : Int) (h0 : Arr Int 16) : Option ((((List (List Int)) × (Int × Unit)) × ((Arr Int 16) × Unit))) :=
 bif (decide (x11 < x10)) then
  Option.bind (getI x9 x11) fun (v8 : (List Int)) =>
  (X ((parts0, ((IntKind.wrap .i64 (size3 + (((List.length v8) : Nat) : Int))), (x9, (x10, ((IntKind.wrap .i64 (x11 + 1)), ()))))), (h0, ())))
 else
  some (((parts0, (size3, ())), (h0, ())))
noncomputable def md4_Of_1_octs_Join_L3_R (c : (((List (List Int)) × (Int × ((List (List Int)) × (Int × (Int × Unit))))) × ((Arr Int 16) × Unit))) : Option ((((List (List Int)) × (Int × Unit)) × ((Arr Int 16) × Unit))) := gl (fun X c => md4_Of_1_octs_Join_L3 N X c.1.1 c.1.2.1 c.1.2.2.1 c.1.2.2.2.1 c.1.2.2.2.2.1 c.2.1) N c
theorem md4_Of_1_octs_Join_L3_S (X : (((List (List Int)) × (Int × ((List (List Int)) × (Int × (Int × Unit))))) × ((Arr Int 16) × Unit)) → Option ((((List (List Int)) × (Int × Unit)) × ((Arr Int 16) × Unit)))) (parts0 : List (List Int)) (size3 : Int) (x9 : List (List Int)) (x10 : Int) (x11 : Int) (h0 : Arr Int 16) : (roundK Tryz.prog (Ev16 N) 400 [52, 1, 65] md4_Of_1_octs_Join_L3_I (loopAt Tryz.prog [52, 1, 65] 3) X ((parts0, size3, x9, x10, x11, ()), (h0, ()))).run = md4_Of_1_octs_Join_L3 N X parts0 size3 x9 x10 x11 h0 := by kernel_rfl
noncomputable def Ev17 : (R : Type) → Env R := Env.addLp (Ev16 N) [52, 1, 65] 1 3 (fun R => lpK Tryz.prog md4_Of_1_octs_Join_L3_I (fun X c => md4_Of_1_octs_Join_L3 N X c.1.1 c.1.2.1 c.1.2.2.1 c.1.2.2.2.1 c.1.2.2.2.2.1 c.2.1) N)
theorem Ev17_ok (R : Type) : EnvOK Tryz.prog (Ev17 N R) := EnvOK.addLp (Ev16_ok N R) (by kernel_rfl) (lpK_ok (li := md4_Of_1_octs_Join_L3_I) (G := fun X c => md4_Of_1_octs_Join_L3 N X c.1.1 c.1.2.1 c.1.2.2.1 c.1.2.2.2.1 c.1.2.2.2.2.1 c.2.1) hmx (Ev16_ok N _) (by kernel_rfl) loopAt_sub (fun (X : CT md4_Of_1_octs_Join_L3_I.sh → Option (OT md4_Of_1_octs_Join_L3_I.outs)) (c : CT md4_Of_1_octs_Join_L3_I.sh) => md4_Of_1_octs_Join_L3_S N X c.1.1 c.1.2.1 c.1.2.2.1 c.1.2.2.2.1 c.1.2.2.2.2.1 c.2.1) N)
noncomputable def md4_Of_1_octs_Join_L9_I : LI := ⟨33, 1, [], ⟨[(6, .lit (.own 1)), (22, .ty (.sl (.sl (.int .u8)))), (23, .ty (.int .i64)), (24, .ty (.int .i64))], [.box 22 (.arr 16 (.int .u8)), .own (.int .u8) 5]⟩, [(.exit 2, ⟨[(6, .lit (.own 1))], [.box 22 (.arr 16 (.int .u8)), .own (.int .u8) 5]⟩)]⟩
noncomputable def md4_Of_1_octs_Join_L9 (N : Nat) (X : (((List (List Int)) × (Int × (Int × Unit))) × ((Arr Int 16) × ((List Int) × Unit))) → Option ((Unit × ((Arr Int 16) × ((List Int) × Unit))))) (x22 : List (List Int)) (x23 : Int) (x24 : Int) (h0 : Arr Int 16) (h1 : List (Int)) : Option ((Unit × ((Arr Int 16) × ((List Int) × Unit)))) :=
 bif (decide (x24 < x23)) then
  Option.bind (getI x22 x24) fun (v7 : (List Int)) =>
  bif (roomB ((List.length h1) + (List.length v7)) 1) then
   (X ((x22, (x23, ((IntKind.wrap .i64 (x24 + 1)), ()))), (h0, ((h1 ++ v7), ()))))
  else
   none
 else
  some (((), (h0, (h1, ()))))
noncomputable def md4_Of_1_octs_Join_L9_R (c : (((List (List Int)) × (Int × (Int × Unit))) × ((Arr Int 16) × ((List Int) × Unit)))) : Option ((Unit × ((Arr Int 16) × ((List Int) × Unit)))) := gl (fun X c => md4_Of_1_octs_Join_L9 N X c.1.1 c.1.2.1 c.1.2.2.1 c.2.1 c.2.2.1) N c
theorem md4_Of_1_octs_Join_L9_S (X : (((List (List Int)) × (Int × (Int × Unit))) × ((Arr Int 16) × ((List Int) × Unit))) → Option ((Unit × ((Arr Int 16) × ((List Int) × Unit))))) (x22 : List (List Int)) (x23 : Int) (x24 : Int) (h0 : Arr Int 16) (h1 : List (Int)) : (roundK Tryz.prog (Ev17 N) 400 [52, 1, 65] md4_Of_1_octs_Join_L9_I (loopAt Tryz.prog [52, 1, 65] 9) X ((x22, x23, x24, ()), (h0, h1, ()))).run = md4_Of_1_octs_Join_L9 N X x22 x23 x24 h0 h1 := by kernel_rfl
noncomputable def Ev18 : (R : Type) → Env R := Env.addLp (Ev17 N) [52, 1, 65] 1 9 (fun R => lpK Tryz.prog md4_Of_1_octs_Join_L9_I (fun X c => md4_Of_1_octs_Join_L9 N X c.1.1 c.1.2.1 c.1.2.2.1 c.2.1 c.2.2.1) N)
theorem Ev18_ok (R : Type) : EnvOK Tryz.prog (Ev18 N R) := EnvOK.addLp (Ev17_ok N R) (by kernel_rfl) (lpK_ok (li := md4_Of_1_octs_Join_L9_I) (G := fun X c => md4_Of_1_octs_Join_L9 N X c.1.1 c.1.2.1 c.1.2.2.1 c.2.1 c.2.2.1) hmx (Ev17_ok N _) (by kernel_rfl) loopAt_sub (fun (X : CT md4_Of_1_octs_Join_L9_I.sh → Option (OT md4_Of_1_octs_Join_L9_I.outs)) (c : CT md4_Of_1_octs_Join_L9_I.sh) => md4_Of_1_octs_Join_L9_S N X c.1.1 c.1.2.1 c.1.2.2.1 c.2.1 c.2.2.1) N)
noncomputable def md4_root (n0 : Int) : Option Int :=
 Option.bind (roots_Root N n0 (2 : Int) (30 : Int)) fun v2 =>
 some ((IntKind.wrap .u32 v2.1))
theorem md4_root_S (n0 : Int) : (runK Tryz.prog (Ev18 N) 400 135 [(.int .i64)] [(.int .u32)] (n0, ())).run = md4_root N n0 := by kernel_rfl
noncomputable def Ev19 : (R : Type) → Env R := Env.addFn (Ev18 N) 135 (fun R => fnK [(.int .i64)] [(.int .u32)] (fun c => md4_root N c.1))
theorem Ev19_ok (R : Type) : EnvOK Tryz.prog (Ev19 N R) := EnvOK.addFn hmx (Ev18_ok N R) (Ev18_ok N _) (by kernel_rfl) (fun c => md4_root_S N c.1)
noncomputable def md4_constants : Option (Arr Int 3) :=
 Option.bind (md4_root N (2 : Int)) fun v1 =>
 Option.bind (md4_root N (3 : Int)) fun v2 =>
 some ((@Arr.cons Int 2 0 (@Arr.cons Int (1 : Nat) v1 (@Arr.cons Int (0 : Nat) v2 (@Arr.nil Int)))))
theorem md4_constants_S : (runK Tryz.prog (Ev19 N) 400 96 [] [(.arr 3 (.int .u32))] ()).run = md4_constants N  := by kernel_rfl
noncomputable def Ev20 : (R : Type) → Env R := Env.addFn (Ev19 N) 96 (fun R => fnK [] [(.arr 3 (.int .u32))] (fun c => md4_constants N ))
theorem Ev20_ok (R : Type) : EnvOK Tryz.prog (Ev20 N R) := EnvOK.addFn hmx (Ev19_ok N R) (Ev19_ok N _) (by kernel_rfl) (fun c => md4_constants_S N )
noncomputable def Ev21 : (R : Type) → Env R := Env.addBx (Ev20 N) [(97, 0)]
theorem Ev21_ok (R : Type) : EnvOK Tryz.prog (Ev21 N R) := EnvOK.addBx (Ev20_ok N R) [(97, 0)]
noncomputable def Ev22 : (R : Type) → Env R := Env.addBx (Ev21 N) [(136, 0)]
theorem Ev22_ok (R : Type) : EnvOK Tryz.prog (Ev22 N R) := EnvOK.addBx (Ev21_ok N R) [(136, 0)]
noncomputable def octs_Get_L5_I : LI := ⟨37, 0, [], ⟨[(0, .ty (.sl (.int .u8))), (1, .ty .bool), (6, .ty (.int .u64)), (17, .ty (.int .i64)), (18, .ty (.int .i64))], []⟩, [(.exit 0, ⟨[(6, .ty (.int .u64))], []⟩)]⟩
noncomputable def octs_Get_L5 (X : (((List Int) × (Bool × (Int × (Int × (Int × Unit))))) × Unit) → Option (((Int × Unit) × Unit))) (b0 : List (Int)) (little1 : Bool) (n6 : Int) (x17 : Int) (x18 : Int) : Option (((Int × Unit) × Unit)) :=
 bif (decide (x18 < x17)) then
  Option.bind (octs_place N x18 (((List.length b0) : Nat) : Int) little1) fun v7 =>
  Option.bind (getI b0 v7) fun (v8 : Int) =>
  bif (decide ((0 : Int) ≤ (IntKind.wrap .i64 ((8 : Int) * x18)))) then
   (X ((b0, (little1, ((bits .or .u64 n6 (IntKind.wrap .u64 ((IntKind.wrap .u64 v8) * ((2 : Int) ^ (min (Int.toNat (IntKind.wrap .i64 ((8 : Int) * x18))) (IntKind.bits .u64)))))), (x17, ((IntKind.wrap .i64 (x18 + 1)), ()))))), ()))
  else
   none
 else
  some (((n6, ()), ()))
noncomputable def octs_Get_L5_R (c : (((List Int) × (Bool × (Int × (Int × (Int × Unit))))) × Unit)) : Option (((Int × Unit) × Unit)) := gl (fun X c => octs_Get_L5 N X c.1.1 c.1.2.1 c.1.2.2.1 c.1.2.2.2.1 c.1.2.2.2.2.1) N c
theorem octs_Get_L5_S (X : (((List Int) × (Bool × (Int × (Int × (Int × Unit))))) × Unit) → Option (((Int × Unit) × Unit))) (b0 : List (Int)) (little1 : Bool) (n6 : Int) (x17 : Int) (x18 : Int) : (roundK Tryz.prog (Ev22 N) 400 [61] octs_Get_L5_I (loopAt Tryz.prog [61] 5) X ((b0, little1, n6, x17, x18, ()), ())).run = octs_Get_L5 N X b0 little1 n6 x17 x18 := by kernel_rfl
noncomputable def Ev23 : (R : Type) → Env R := Env.addLp (Ev22 N) [61] 0 5 (fun R => lpK Tryz.prog octs_Get_L5_I (fun X c => octs_Get_L5 N X c.1.1 c.1.2.1 c.1.2.2.1 c.1.2.2.2.1 c.1.2.2.2.2.1) N)
theorem Ev23_ok (R : Type) : EnvOK Tryz.prog (Ev23 N R) := EnvOK.addLp (Ev22_ok N R) (by kernel_rfl) (lpK_ok (li := octs_Get_L5_I) (G := fun X c => octs_Get_L5 N X c.1.1 c.1.2.1 c.1.2.2.1 c.1.2.2.2.1 c.1.2.2.2.2.1) hmx (Ev22_ok N _) (by kernel_rfl) loopAt_sub (fun (X : CT octs_Get_L5_I.sh → Option (OT octs_Get_L5_I.outs)) (c : CT octs_Get_L5_I.sh) => octs_Get_L5_S N X c.1.1 c.1.2.1 c.1.2.2.1 c.1.2.2.2.1 c.1.2.2.2.2.1) N)
noncomputable def octs_Get (b0 : List (Int)) (little1 : Bool) : Option (Int × Int) :=
 bif (decide ((((List.length b0) : Nat) : Int) < (1 : Int))) then
  Option.bind (some (true)) fun (v3 : Bool) =>
  bif v3 then
   some (((0 : Int), (1 : Int)))
  else
   Option.bind (octs_Get_L5_R N ((b0, (little1, ((0 : Int), ((((List.length b0) : Nat) : Int), ((0 : Int), ()))))), ())) fun v4 =>
   some ((v4.1.1, (0 : Int)))
 else
  Option.bind (some ((cond false true (decide ((8 : Int) < (((List.length b0) : Nat) : Int)))))) fun (v3 : Bool) =>
  bif v3 then
   some (((0 : Int), (1 : Int)))
  else
   Option.bind (octs_Get_L5_R N ((b0, (little1, ((0 : Int), ((((List.length b0) : Nat) : Int), ((0 : Int), ()))))), ())) fun v4 =>
   some ((v4.1.1, (0 : Int)))
theorem octs_Get_S (b0 : List (Int)) (little1 : Bool) : (runK Tryz.prog (Ev23 N) 400 61 [(.sl (.int .u8)), .bool] [(.int .u64), (.int .i64)] (b0, little1, ())).run = octs_Get N b0 little1 := by kernel_rfl
noncomputable def Ev24 : (R : Type) → Env R := Env.addFn (Ev23 N) 61 (fun R => fnK [(.sl (.int .u8)), .bool] [(.int .u64), (.int .i64)] (fun c => octs_Get N c.1 c.2.1))
theorem Ev24_ok (R : Type) : EnvOK Tryz.prog (Ev24 N R) := EnvOK.addFn hmx (Ev23_ok N R) (Ev23_ok N _) (by kernel_rfl) (fun c => octs_Get_S N c.1 c.2.1)
noncomputable def md4_words_L3_I : LI := ⟨26, 0, [], ⟨[(1, .adr (.arr 64 (.int .u8))), (2, .lit (.box 0 0)), (3, .lit (.box 1 0)), (7, .ty (.int .i64))], [.box 167 (.arr 16 (.int .u32)), .box 167 (.arr 16 (.int .u32))]⟩, [(.exit 0, ⟨[(2, .lit (.box 0 0)), (3, .lit (.box 1 0))], [.box 167 (.arr 16 (.int .u32)), .box 167 (.arr 16 (.int .u32))]⟩)]⟩
noncomputable def md4_words_L3 (X : (((Arr Int 64) × (Int × Unit)) × ((Arr Int 16) × ((Arr Int 16) × Unit))) → Option ((Unit × ((Arr Int 16) × ((Arr Int 16) × Unit))))) (b1 : Arr Int 64) (x7 : Int) (h0 : Arr Int 16) (h1 : Arr Int 16) : Option ((Unit × ((Arr Int 16) × ((Arr Int 16) × Unit)))) :=
 bif (decide (x7 < (16 : Int))) then
  Option.bind (subI b1.l (IntKind.wrap .i64 ((4 : Int) * x7)) (IntKind.wrap .i64 ((IntKind.wrap .i64 ((4 : Int) * x7)) + 4))) fun (v6 : (List Int)) =>
  Option.bind (octs_Get N v6 true) fun v7 =>
  bif (decide ((0 : Int) ≤ x7 ∧ x7 < ((16 : Nat) : Int))) then
   Option.bind (h1.l[Int.toNat x7]?) fun (v8 : Int) =>
   (X ((b1, ((IntKind.wrap .i64 (x7 + 1)), ())), (h0, ((h1.set (Int.toNat x7) (IntKind.wrap .u32 v7.1)), ()))))
  else
   none
 else
  some (((), (h0, (h1, ()))))
noncomputable def md4_words_L3_R (c : (((Arr Int 64) × (Int × Unit)) × ((Arr Int 16) × ((Arr Int 16) × Unit)))) : Option ((Unit × ((Arr Int 16) × ((Arr Int 16) × Unit)))) := gl (fun X c => md4_words_L3 N X c.1.1 c.1.2.1 c.2.1 c.2.2.1) N c
theorem md4_words_L3_S (X : (((Arr Int 64) × (Int × Unit)) × ((Arr Int 16) × ((Arr Int 16) × Unit))) → Option ((Unit × ((Arr Int 16) × ((Arr Int 16) × Unit))))) (b1 : Arr Int 64) (x7 : Int) (h0 : Arr Int 16) (h1 : Arr Int 16) : (roundK Tryz.prog (Ev24 N) 400 [136] md4_words_L3_I (loopAt Tryz.prog [136] 3) X ((b1, x7, ()), (h0, h1, ()))).run = md4_words_L3 N X b1 x7 h0 h1 := by kernel_rfl
noncomputable def Ev25 : (R : Type) → Env R := Env.addLp (Ev24 N) [136] 0 3 (fun R => lpK Tryz.prog md4_words_L3_I (fun X c => md4_words_L3 N X c.1.1 c.1.2.1 c.2.1 c.2.2.1) N)
theorem Ev25_ok (R : Type) : EnvOK Tryz.prog (Ev25 N R) := EnvOK.addLp (Ev24_ok N R) (by kernel_rfl) (lpK_ok (li := md4_words_L3_I) (G := fun X c => md4_words_L3 N X c.1.1 c.1.2.1 c.2.1 c.2.2.1) hmx (Ev24_ok N _) (by kernel_rfl) loopAt_sub (fun (X : CT md4_words_L3_I.sh → Option (OT md4_words_L3_I.outs)) (c : CT md4_words_L3_I.sh) => md4_words_L3_S N X c.1.1 c.1.2.1 c.2.1 c.2.2.1) N)
noncomputable def md4_words (b0 : Arr Int 64) : Option (Arr Int 16) :=
 Option.bind (md4_words_L3_R N ((b0, ((0 : Int), ())), ((@Arr.cons Int 15 0 (@Arr.cons Int 14 0 (@Arr.cons Int 13 0 (@Arr.cons Int 12 0 (@Arr.cons Int 11 0 (@Arr.cons Int 10 0 (@Arr.cons Int 9 0 (@Arr.cons Int 8 0 (@Arr.cons Int 7 0 (@Arr.cons Int 6 0 (@Arr.cons Int 5 0 (@Arr.cons Int 4 0 (@Arr.cons Int 3 0 (@Arr.cons Int 2 0 (@Arr.cons Int 1 0 (@Arr.cons Int 0 0 (@Arr.nil Int))))))))))))))))), ((@Arr.cons Int 15 0 (@Arr.cons Int 14 0 (@Arr.cons Int 13 0 (@Arr.cons Int 12 0 (@Arr.cons Int 11 0 (@Arr.cons Int 10 0 (@Arr.cons Int 9 0 (@Arr.cons Int 8 0 (@Arr.cons Int 7 0 (@Arr.cons Int 6 0 (@Arr.cons Int 5 0 (@Arr.cons Int 4 0 (@Arr.cons Int 3 0 (@Arr.cons Int 2 0 (@Arr.cons Int 1 0 (@Arr.cons Int 0 0 (@Arr.nil Int))))))))))))))))), ())))) fun v2 =>
 some (v2.2.2.1)
theorem md4_words_S (b0 : Arr Int 64) : (runK Tryz.prog (Ev25 N) 400 136 [(.arr 64 (.int .u8))] [(.arr 16 (.int .u32))] (b0, ())).run = md4_words N b0 := by kernel_rfl
noncomputable def Ev26 : (R : Type) → Env R := Env.addFn (Ev25 N) 136 (fun R => fnK [(.arr 64 (.int .u8))] [(.arr 16 (.int .u32))] (fun c => md4_words N c.1))
theorem Ev26_ok (R : Type) : EnvOK Tryz.prog (Ev26 N R) := EnvOK.addFn hmx (Ev25_ok N R) (Ev25_ok N _) (by kernel_rfl) (fun c => md4_words_S N c.1)
noncomputable def md4_mixed (N : Nat) (r0 : Int) (b1 : Int) (c2 : Int) (d3 : Int) : Option Int :=
 bif (decide (r0 = (0 : Int))) then
  some ((bits .or .u32 (bits .and .u32 b1 c2) (bits .and .u32 (bits .xor .u32 (@ite Int (@Eq Bool (@IntKind.signed @IntKind.u32) true) (@instDecidableEqBool (@IntKind.signed @IntKind.u32) true) (-1 : Int) (@IntKind.max @IntKind.u32)) b1) d3)))
 else
  bif (decide (r0 = (1 : Int))) then
   some ((bits .or .u32 (bits .or .u32 (bits .and .u32 b1 c2) (bits .and .u32 b1 d3)) (bits .and .u32 c2 d3)))
  else
   some ((bits .xor .u32 (bits .xor .u32 b1 c2) d3))
theorem md4_mixed_S (r0 : Int) (b1 : Int) (c2 : Int) (d3 : Int) : (runK Tryz.prog (Ev26 N) 400 137 [(.int .i64), (.int .u32), (.int .u32), (.int .u32)] [(.int .u32)] (r0, b1, c2, d3, ())).run = md4_mixed N r0 b1 c2 d3 := by kernel_rfl
noncomputable def Ev27 : (R : Type) → Env R := Env.addFn (Ev26 N) 137 (fun R => fnK [(.int .i64), (.int .u32), (.int .u32), (.int .u32)] [(.int .u32)] (fun c => md4_mixed N c.1 c.2.1 c.2.2.1 c.2.2.2.1))
theorem Ev27_ok (R : Type) : EnvOK Tryz.prog (Ev27 N R) := EnvOK.addFn hmx (Ev26_ok N R) (Ev26_ok N _) (by kernel_rfl) (fun c => md4_mixed_S N c.1 c.2.1 c.2.2.1 c.2.2.2.1)
noncomputable def md4_place (N : Nat) (i0 : Int) : Option Int :=
 bif (decide ((IntKind.wrap .i64 (@Int.tdiv i0 (16 : Int))) = (0 : Int))) then
  some ((@Int.tmod i0 (16 : Int)))
 else
  bif (decide ((IntKind.wrap .i64 (@Int.tdiv i0 (16 : Int))) = (1 : Int))) then
   some ((IntKind.wrap .i64 ((IntKind.wrap .i64 ((4 : Int) * (@Int.tmod (@Int.tmod i0 (16 : Int)) (4 : Int)))) + (IntKind.wrap .i64 (@Int.tdiv (@Int.tmod i0 (16 : Int)) (4 : Int))))))
  else
   Option.bind (getI ([0, 8, 4, 12, 2, 10, 6, 14, 1, 9, 5, 13, 3, 11, 7, 15] : List Int) (@Int.tmod i0 (16 : Int))) fun (v2 : Int) =>
   some (v2)
theorem md4_place_S (i0 : Int) : (runK Tryz.prog (Ev27 N) 400 138 [(.int .i64)] [(.int .i64)] (i0, ())).run = md4_place N i0 := by kernel_rfl
noncomputable def Ev28 : (R : Type) → Env R := Env.addFn (Ev27 N) 138 (fun R => fnK [(.int .i64)] [(.int .i64)] (fun c => md4_place N c.1))
theorem Ev28_ok (R : Type) : EnvOK Tryz.prog (Ev28 N R) := EnvOK.addFn hmx (Ev27_ok N R) (Ev27_ok N _) (by kernel_rfl) (fun c => md4_place_S N c.1)
noncomputable def math_bits_RotateLeft32 (N : Nat) (x0 : Int) (k1 : Int) : Option Int :=
 bif (decide ((0 : Int) ≤ (IntKind.wrap .u64 ((32 : Int) - (bits .and .u64 (IntKind.wrap .u64 k1) (31 : Int)))))) then
  some ((bits .or .u32 (IntKind.wrap .u32 (x0 * ((2 : Int) ^ (min (Int.toNat (bits .and .u64 (IntKind.wrap .u64 k1) (31 : Int))) (IntKind.bits .u32))))) (@Int.fdiv x0 ((2 : Int) ^ (min (Int.toNat (IntKind.wrap .u64 ((32 : Int) - (bits .and .u64 (IntKind.wrap .u64 k1) (31 : Int))))) (IntKind.bits .u32))))))
 else
  none
theorem math_bits_RotateLeft32_S (x0 : Int) (k1 : Int) : (runK Tryz.prog (Ev28 N) 400 84 [(.int .u32), (.int .i64)] [(.int .u32)] (x0, k1, ())).run = math_bits_RotateLeft32 N x0 k1 := by kernel_rfl
noncomputable def Ev29 : (R : Type) → Env R := Env.addFn (Ev28 N) 84 (fun R => fnK [(.int .u32), (.int .i64)] [(.int .u32)] (fun c => math_bits_RotateLeft32 N c.1 c.2.1))
theorem Ev29_ok (R : Type) : EnvOK Tryz.prog (Ev29 N R) := EnvOK.addFn hmx (Ev28_ok N R) (Ev28_ok N _) (by kernel_rfl) (fun c => math_bits_RotateLeft32_S N c.1 c.2.1)
noncomputable def md4_behind_L4_I : LI := ⟨70, 0, [], ⟨[(3, .adr (.arr 4 (.int .u32))), (5, .adr (.arr 3 (.int .u32))), (6, .lit (.box 0 0)), (7, .lit (.box 1 0)), (8, .lit (.box 2 0)), (16, .ty (.int .i64))], [.box 137 (.arr 4 (.int .u32)), .box 167 (.arr 16 (.int .u32)), .box 137 (.arr 4 (.int .u32))]⟩, [(.exit 0, ⟨[(3, .adr (.arr 4 (.int .u32))), (6, .lit (.box 0 0)), (8, .lit (.box 1 0))], [.box 137 (.arr 4 (.int .u32)), .box 137 (.arr 4 (.int .u32))]⟩)]⟩
noncomputable def md4_behind_L4 (X : (((Arr Int 4) × ((Arr Int 3) × (Int × Unit))) × ((Arr Int 4) × ((Arr Int 16) × ((Arr Int 4) × Unit)))) → Option ((((Arr Int 4) × Unit) × ((Arr Int 4) × ((Arr Int 4) × Unit))))) (s3 : Arr Int 4) (k5 : Arr Int 3) (x16 : Int) (h0 : Arr Int 4) (h1 : Arr Int 16) (h2 : Arr Int 4) : Option ((((Arr Int 4) × Unit) × ((Arr Int 4) × ((Arr Int 4) × Unit)))) :=
 bif (decide (x16 < (48 : Int))) then
  Option.bind (h2.l[Int.toNat (0 : Int)]?) fun (v8 : Int) =>
  Option.bind (h2.l[Int.toNat (1 : Int)]?) fun (v9 : Int) =>
  Option.bind (h2.l[Int.toNat (2 : Int)]?) fun (v10 : Int) =>
  Option.bind (h2.l[Int.toNat (3 : Int)]?) fun (v11 : Int) =>
  Option.bind (md4_mixed N (IntKind.wrap .i64 (@Int.tdiv x16 (16 : Int))) v9 v10 v11) fun v12 =>
  Option.bind (md4_place N x16) fun v13 =>
  bif (decide ((0 : Int) ≤ v13 ∧ v13 < ((16 : Nat) : Int))) then
   Option.bind (h1.l[Int.toNat v13]?) fun (v14 : Int) =>
   Option.bind (getI k5.l (IntKind.wrap .i64 (@Int.tdiv x16 (16 : Int)))) fun (v15 : Int) =>
   Option.bind (h2.l[Int.toNat (3 : Int)]?) fun (v16 : Int) =>
   Option.bind (getI ([(@Arr.mk Int (4 : Nat) ([3, 7, 11, 19] : List Int) @globVs._proof_2), (@Arr.mk Int (4 : Nat) ([3, 5, 9, 13] : List Int) @globVs._proof_3), (@Arr.mk Int (4 : Nat) ([3, 9, 11, 15] : List Int) @globVs._proof_4)] : List ((Arr Int 4))) (IntKind.wrap .i64 (@Int.tdiv x16 (16 : Int)))) fun (v17 : (Arr Int 4)) =>
   Option.bind (getI v17.l (@Int.tmod x16 (4 : Int))) fun (v18 : Int) =>
   Option.bind (math_bits_RotateLeft32 N (IntKind.wrap .u32 ((IntKind.wrap .u32 ((IntKind.wrap .u32 (v8 + v12)) + v14)) + v15)) v18) fun v19 =>
   Option.bind (h2.l[Int.toNat (1 : Int)]?) fun (v20 : Int) =>
   Option.bind (h2.l[Int.toNat (2 : Int)]?) fun (v21 : Int) =>
   (X ((s3, (k5, ((IntKind.wrap .i64 (x16 + 1)), ()))), (h0, (h1, ((@Arr.cons Int (3 : Nat) v16 (@Arr.cons Int (2 : Nat) v19 (@Arr.cons Int (1 : Nat) v20 (@Arr.cons Int (0 : Nat) v21 (@Arr.nil Int))))), ())))))
  else
   none
 else
  some (((s3, ()), (h0, (h2, ()))))
noncomputable def md4_behind_L4_R (c : (((Arr Int 4) × ((Arr Int 3) × (Int × Unit))) × ((Arr Int 4) × ((Arr Int 16) × ((Arr Int 4) × Unit))))) : Option ((((Arr Int 4) × Unit) × ((Arr Int 4) × ((Arr Int 4) × Unit)))) := gl (fun X c => md4_behind_L4 N X c.1.1 c.1.2.1 c.1.2.2.1 c.2.1 c.2.2.1 c.2.2.2.1) N c
theorem md4_behind_L4_S (X : (((Arr Int 4) × ((Arr Int 3) × (Int × Unit))) × ((Arr Int 4) × ((Arr Int 16) × ((Arr Int 4) × Unit)))) → Option ((((Arr Int 4) × Unit) × ((Arr Int 4) × ((Arr Int 4) × Unit))))) (s3 : Arr Int 4) (k5 : Arr Int 3) (x16 : Int) (h0 : Arr Int 4) (h1 : Arr Int 16) (h2 : Arr Int 4) : (roundK Tryz.prog (Ev29 N) 400 [97] md4_behind_L4_I (loopAt Tryz.prog [97] 4) X ((s3, k5, x16, ()), (h0, h1, h2, ()))).run = md4_behind_L4 N X s3 k5 x16 h0 h1 h2 := by kernel_rfl
noncomputable def Ev30 : (R : Type) → Env R := Env.addLp (Ev29 N) [97] 0 4 (fun R => lpK Tryz.prog md4_behind_L4_I (fun X c => md4_behind_L4 N X c.1.1 c.1.2.1 c.1.2.2.1 c.2.1 c.2.2.1 c.2.2.2.1) N)
theorem Ev30_ok (R : Type) : EnvOK Tryz.prog (Ev30 N R) := EnvOK.addLp (Ev29_ok N R) (by kernel_rfl) (lpK_ok (li := md4_behind_L4_I) (G := fun X c => md4_behind_L4 N X c.1.1 c.1.2.1 c.1.2.2.1 c.2.1 c.2.2.1 c.2.2.2.1) hmx (Ev29_ok N _) (by kernel_rfl) loopAt_sub (fun (X : CT md4_behind_L4_I.sh → Option (OT md4_behind_L4_I.outs)) (c : CT md4_behind_L4_I.sh) => md4_behind_L4_S N X c.1.1 c.1.2.1 c.1.2.2.1 c.2.1 c.2.2.1 c.2.2.2.1) N)
noncomputable def md4_behind_L11_I : LI := ⟨70, 0, [], ⟨[(3, .adr (.arr 4 (.int .u32))), (6, .lit (.box 0 0)), (8, .lit (.box 1 0)), (57, .ty (.int .i64))], [.box 137 (.arr 4 (.int .u32)), .box 137 (.arr 4 (.int .u32))]⟩, [(.exit 2, ⟨[(6, .lit (.box 0 0)), (8, .lit (.box 1 0))], [.box 137 (.arr 4 (.int .u32)), .box 137 (.arr 4 (.int .u32))]⟩)]⟩
noncomputable def md4_behind_L11 (N : Nat) (X : (((Arr Int 4) × (Int × Unit)) × ((Arr Int 4) × ((Arr Int 4) × Unit))) → Option ((Unit × ((Arr Int 4) × ((Arr Int 4) × Unit))))) (s3 : Arr Int 4) (x57 : Int) (h0 : Arr Int 4) (h1 : Arr Int 4) : Option ((Unit × ((Arr Int 4) × ((Arr Int 4) × Unit)))) :=
 bif (decide (x57 < (4 : Int))) then
  bif (decide ((0 : Int) ≤ x57 ∧ x57 < ((4 : Nat) : Int))) then
   Option.bind (h1.l[Int.toNat x57]?) fun (v6 : Int) =>
   Option.bind (getI s3.l x57) fun (v7 : Int) =>
   bif (decide ((0 : Int) ≤ x57 ∧ x57 < ((4 : Nat) : Int))) then
    Option.bind (h1.l[Int.toNat x57]?) fun (v8 : Int) =>
    (X ((s3, ((IntKind.wrap .i64 (x57 + 1)), ())), (h0, ((h1.set (Int.toNat x57) (IntKind.wrap .u32 (v6 + v7))), ()))))
   else
    none
  else
   none
 else
  some (((), (h0, (h1, ()))))
noncomputable def md4_behind_L11_R (c : (((Arr Int 4) × (Int × Unit)) × ((Arr Int 4) × ((Arr Int 4) × Unit)))) : Option ((Unit × ((Arr Int 4) × ((Arr Int 4) × Unit)))) := gl (fun X c => md4_behind_L11 N X c.1.1 c.1.2.1 c.2.1 c.2.2.1) N c
theorem md4_behind_L11_S (X : (((Arr Int 4) × (Int × Unit)) × ((Arr Int 4) × ((Arr Int 4) × Unit))) → Option ((Unit × ((Arr Int 4) × ((Arr Int 4) × Unit))))) (s3 : Arr Int 4) (x57 : Int) (h0 : Arr Int 4) (h1 : Arr Int 4) : (roundK Tryz.prog (Ev30 N) 400 [97] md4_behind_L11_I (loopAt Tryz.prog [97] 11) X ((s3, x57, ()), (h0, h1, ()))).run = md4_behind_L11 N X s3 x57 h0 h1 := by kernel_rfl
noncomputable def Ev31 : (R : Type) → Env R := Env.addLp (Ev30 N) [97] 0 11 (fun R => lpK Tryz.prog md4_behind_L11_I (fun X c => md4_behind_L11 N X c.1.1 c.1.2.1 c.2.1 c.2.2.1) N)
theorem Ev31_ok (R : Type) : EnvOK Tryz.prog (Ev31 N R) := EnvOK.addLp (Ev30_ok N R) (by kernel_rfl) (lpK_ok (li := md4_behind_L11_I) (G := fun X c => md4_behind_L11 N X c.1.1 c.1.2.1 c.2.1 c.2.2.1) hmx (Ev30_ok N _) (by kernel_rfl) loopAt_sub (fun (X : CT md4_behind_L11_I.sh → Option (OT md4_behind_L11_I.outs)) (c : CT md4_behind_L11_I.sh) => md4_behind_L11_S N X c.1.1 c.1.2.1 c.2.1 c.2.2.1) N)
noncomputable def md4_behind (s0 : Arr Int 4) (b1 : Arr Int 64) (k2 : Arr Int 3) : Option (Arr Int 4) :=
 Option.bind (md4_words N b1) fun v4 =>
 Option.bind (md4_behind_L4_R N ((s0, (k2, ((0 : Int), ()))), ((@Arr.cons Int 3 0 (@Arr.cons Int 2 0 (@Arr.cons Int 1 0 (@Arr.cons Int 0 0 (@Arr.nil Int))))), (v4, (s0, ()))))) fun v5 =>
 Option.bind (md4_behind_L11_R N ((v5.1.1, ((0 : Int), ())), (v5.2.1, (v5.2.2.1, ())))) fun v6 =>
 some (v6.2.2.1)
theorem md4_behind_S (s0 : Arr Int 4) (b1 : Arr Int 64) (k2 : Arr Int 3) : (runK Tryz.prog (Ev31 N) 400 97 [(.arr 4 (.int .u32)), (.arr 64 (.int .u8)), (.arr 3 (.int .u32))] [(.arr 4 (.int .u32))] (s0, b1, k2, ())).run = md4_behind N s0 b1 k2 := by kernel_rfl
noncomputable def Ev32 : (R : Type) → Env R := Env.addFn (Ev31 N) 97 (fun R => fnK [(.arr 4 (.int .u32)), (.arr 64 (.int .u8)), (.arr 3 (.int .u32))] [(.arr 4 (.int .u32))] (fun c => md4_behind N c.1 c.2.1 c.2.2.1))
theorem Ev32_ok (R : Type) : EnvOK Tryz.prog (Ev32 N R) := EnvOK.addFn hmx (Ev31_ok N R) (Ev31_ok N _) (by kernel_rfl) (fun c => md4_behind_S N c.1 c.2.1 c.2.2.1)
noncomputable def md4_Of_L5_I : LI := ⟨35, 0, [], ⟨[(2, .lit (.box 0 0)), (3, .ty (.sl (.int .u8))), (4, .lit (.box 1 0)), (5, .lit (.box 2 0)), (6, .ty (.int .i64))], [.box 22 (.arr 16 (.int .u8)), .box 137 (.arr 4 (.int .u32)), .box 139 (.arr 3 (.int .u32))]⟩, [(.exit 0, ⟨[(2, .lit (.box 0 0)), (4, .lit (.box 1 0))], [.box 22 (.arr 16 (.int .u8)), .box 137 (.arr 4 (.int .u32))]⟩)]⟩
noncomputable def md4_Of_L5 (X : (((List Int) × (Int × Unit)) × ((Arr Int 16) × ((Arr Int 4) × ((Arr Int 3) × Unit)))) → Option ((Unit × ((Arr Int 16) × ((Arr Int 4) × Unit))))) (all3 : List (Int)) (i6 : Int) (h0 : Arr Int 16) (h1 : Arr Int 4) (h2 : Arr Int 3) : Option ((Unit × ((Arr Int 16) × ((Arr Int 4) × Unit)))) :=
 bif (decide (i6 < (((List.length all3) : Nat) : Int))) then
  Option.bind (subI all3 i6 (IntKind.wrap .i64 (i6 + 64))) fun (v7 : (List Int)) =>
  Option.bind (@toArr Int (64 : Nat) v7) fun (v8 : (Arr Int 64)) =>
  Option.bind (md4_behind N h1 v8 h2) fun v9 =>
  (X ((all3, ((IntKind.wrap .i64 (i6 + 64)), ())), (h0, (v9, (h2, ())))))
 else
  some (((), (h0, (h1, ()))))
noncomputable def md4_Of_L5_R (c : (((List Int) × (Int × Unit)) × ((Arr Int 16) × ((Arr Int 4) × ((Arr Int 3) × Unit))))) : Option ((Unit × ((Arr Int 16) × ((Arr Int 4) × Unit)))) := gl (fun X c => md4_Of_L5 N X c.1.1 c.1.2.1 c.2.1 c.2.2.1 c.2.2.2.1) N c
theorem md4_Of_L5_S (X : (((List Int) × (Int × Unit)) × ((Arr Int 16) × ((Arr Int 4) × ((Arr Int 3) × Unit)))) → Option ((Unit × ((Arr Int 16) × ((Arr Int 4) × Unit))))) (all3 : List (Int)) (i6 : Int) (h0 : Arr Int 16) (h1 : Arr Int 4) (h2 : Arr Int 3) : (roundK Tryz.prog (Ev32 N) 400 [65] md4_Of_L5_I (loopAt Tryz.prog [65] 5) X ((all3, i6, ()), (h0, h1, h2, ()))).run = md4_Of_L5 N X all3 i6 h0 h1 h2 := by kernel_rfl
noncomputable def Ev33 : (R : Type) → Env R := Env.addLp (Ev32 N) [65] 0 5 (fun R => lpK Tryz.prog md4_Of_L5_I (fun X c => md4_Of_L5 N X c.1.1 c.1.2.1 c.2.1 c.2.2.1 c.2.2.2.1) N)
theorem Ev33_ok (R : Type) : EnvOK Tryz.prog (Ev33 N R) := EnvOK.addLp (Ev32_ok N R) (by kernel_rfl) (lpK_ok (li := md4_Of_L5_I) (G := fun X c => md4_Of_L5 N X c.1.1 c.1.2.1 c.2.1 c.2.2.1 c.2.2.2.1) hmx (Ev32_ok N _) (by kernel_rfl) loopAt_sub (fun (X : CT md4_Of_L5_I.sh → Option (OT md4_Of_L5_I.outs)) (c : CT md4_Of_L5_I.sh) => md4_Of_L5_S N X c.1.1 c.1.2.1 c.2.1 c.2.2.1 c.2.2.2.1) N)
noncomputable def Ev34 : (R : Type) → Env R := Env.addBx (Ev33 N) [(98, 0)]
theorem Ev34_ok (R : Type) : EnvOK Tryz.prog (Ev34 N R) := EnvOK.addBx (Ev33_ok N R) [(98, 0)]
noncomputable def md4_digest_L3_I : LI := ⟨25, 0, [(3, 5)], ⟨[(2, .lit (.box 0 0)), (3, .lit (.own 1)), (8, .ty (.arr 4 (.int .u32))), (9, .ty (.int .i64))], [.box 22 (.arr 16 (.int .u8)), .own (.int .u8) 5]⟩, [(.exit 0, ⟨[(2, .lit (.box 0 0)), (3, .lit (.own 1))], [.box 22 (.arr 16 (.int .u8)), .own (.int .u8) 5]⟩)]⟩
noncomputable def md4_digest_L3 (X : (((Arr Int 4) × (Int × Unit)) × ((Arr Int 16) × ((List Int) × Unit))) → Option ((Unit × ((Arr Int 16) × ((List Int) × Unit))))) (x8 : Arr Int 4) (x9 : Int) (h0 : Arr Int 16) (h1 : List (Int)) : Option ((Unit × ((Arr Int 16) × ((List Int) × Unit)))) :=
 bif (decide (x9 < (4 : Int))) then
  Option.bind (getI x8.l x9) fun (v6 : Int) =>
  Option.bind (octs_Put N (IntKind.wrap .u64 v6) (4 : Int) true) fun v7 =>
  bif (roomB ((List.length h1) + (List.length v7.1)) 1) then
   (X ((x8, ((IntKind.wrap .i64 (x9 + 1)), ())), (h0, ((h1 ++ v7.1), ()))))
  else
   none
 else
  some (((), (h0, (h1, ()))))
noncomputable def md4_digest_L3_R (c : (((Arr Int 4) × (Int × Unit)) × ((Arr Int 16) × ((List Int) × Unit)))) : Option ((Unit × ((Arr Int 16) × ((List Int) × Unit)))) := gl (fun X c => md4_digest_L3 N X c.1.1 c.1.2.1 c.2.1 c.2.2.1) N c
theorem md4_digest_L3_S (X : (((Arr Int 4) × (Int × Unit)) × ((Arr Int 16) × ((List Int) × Unit))) → Option ((Unit × ((Arr Int 16) × ((List Int) × Unit))))) (x8 : Arr Int 4) (x9 : Int) (h0 : Arr Int 16) (h1 : List (Int)) : (roundK Tryz.prog (Ev34 N) 400 [98] md4_digest_L3_I (loopAt Tryz.prog [98] 3) X ((x8, x9, ()), (h0, h1, ()))).run = md4_digest_L3 N X x8 x9 h0 h1 := by kernel_rfl
noncomputable def Ev35 : (R : Type) → Env R := Env.addLp (Ev34 N) [98] 0 3 (fun R => lpK Tryz.prog md4_digest_L3_I (fun X c => md4_digest_L3 N X c.1.1 c.1.2.1 c.2.1 c.2.2.1) N)
theorem Ev35_ok (R : Type) : EnvOK Tryz.prog (Ev35 N R) := EnvOK.addLp (Ev34_ok N R) (by kernel_rfl) (lpK_ok (li := md4_digest_L3_I) (G := fun X c => md4_digest_L3 N X c.1.1 c.1.2.1 c.2.1 c.2.2.1) hmx (Ev34_ok N _) (by kernel_rfl) loopAt_sub (fun (X : CT md4_digest_L3_I.sh → Option (OT md4_digest_L3_I.outs)) (c : CT md4_digest_L3_I.sh) => md4_digest_L3_S N X c.1.1 c.1.2.1 c.2.1 c.2.2.1) N)
noncomputable def md4_digest (s0 : Arr Int 4) : Option (Arr Int 16) :=
 Option.bind (md4_digest_L3_R N ((s0, ((0 : Int), ())), ((@Arr.cons Int 15 0 (@Arr.cons Int 14 0 (@Arr.cons Int 13 0 (@Arr.cons Int 12 0 (@Arr.cons Int 11 0 (@Arr.cons Int 10 0 (@Arr.cons Int 9 0 (@Arr.cons Int 8 0 (@Arr.cons Int 7 0 (@Arr.cons Int 6 0 (@Arr.cons Int 5 0 (@Arr.cons Int 4 0 (@Arr.cons Int 3 0 (@Arr.cons Int 2 0 (@Arr.cons Int 1 0 (@Arr.cons Int 0 0 (@Arr.nil Int))))))))))))))))), (([] : List Int), ())))) fun v2 =>
 Option.bind (@toArr Int (16 : Nat) v2.2.2.1) fun (v3 : (Arr Int 16)) =>
 some (v3)
theorem md4_digest_S (s0 : Arr Int 4) : (runK Tryz.prog (Ev35 N) 400 98 [(.arr 4 (.int .u32))] [(.arr 16 (.int .u8))] (s0, ())).run = md4_digest N s0 := by kernel_rfl
noncomputable def Ev36 : (R : Type) → Env R := Env.addFn (Ev35 N) 98 (fun R => fnK [(.arr 4 (.int .u32))] [(.arr 16 (.int .u8))] (fun c => md4_digest N c.1))
theorem Ev36_ok (R : Type) : EnvOK Tryz.prog (Ev36 N R) := EnvOK.addFn hmx (Ev35_ok N R) (Ev35_ok N _) (by kernel_rfl) (fun c => md4_digest_S N c.1)
noncomputable def md4_Of (parts0 : List (List Int)) : Option (Arr Int 16) :=
 Option.bind (md4_Of_1_octs_Join_L3_R N ((parts0, ((0 : Int), (parts0, ((((List.length parts0) : Nat) : Int), ((0 : Int), ()))))), ((@Arr.cons Int 15 0 (@Arr.cons Int 14 0 (@Arr.cons Int 13 0 (@Arr.cons Int 12 0 (@Arr.cons Int 11 0 (@Arr.cons Int 10 0 (@Arr.cons Int 9 0 (@Arr.cons Int 8 0 (@Arr.cons Int 7 0 (@Arr.cons Int 6 0 (@Arr.cons Int 5 0 (@Arr.cons Int 4 0 (@Arr.cons Int 3 0 (@Arr.cons Int 2 0 (@Arr.cons Int 1 0 (@Arr.cons Int 0 0 (@Arr.nil Int))))))))))))))))), ()))) fun v2 =>
 bif ((decide ((0 : Int) ≤ (0 : Int) ∧ (0 : Int) ≤ v2.1.2.1)) && (roomB (Int.toNat v2.1.2.1) 1)) then
  Option.bind (md4_Of_1_octs_Join_L9_R N ((v2.1.1, ((((List.length v2.1.1) : Nat) : Int), ((0 : Int), ()))), (v2.2.1, ((@List.replicate Int (Int.toNat (0 : Int)) (0 : Int)), ())))) fun v3 =>
  Option.bind (md4_Tail N (IntKind.wrap .u64 (((List.length v3.2.2.1) : Nat) : Int))) fun v4 =>
  bif (roomB ((List.length v3.2.2.1) + (List.length v4)) 1) then
   Option.bind (@md4_constants N) fun (v5 : (Arr Int 3)) =>
   Option.bind (md4_Of_L5_R N (((v3.2.2.1 ++ v4), ((0 : Int), ())), (v3.2.1, ((@Arr.cons Int 3 1732584193 (@Arr.cons Int 2 4023233417 (@Arr.cons Int 1 2562383102 (@Arr.cons Int 0 271733878 (@Arr.nil Int))))), (v5, ()))))) fun v6 =>
   Option.bind (md4_digest N v6.2.2.1) fun v7 =>
   some (v7)
  else
   none
 else
  none
theorem md4_Of_S (parts0 : List (List Int)) : (runK Tryz.prog (Ev36 N) 400 65 [(.sl (.sl (.int .u8)))] [(.arr 16 (.int .u8))] (parts0, ())).run = md4_Of N parts0 := by kernel_rfl
noncomputable def Ev37 : (R : Type) → Env R := Env.addFn (Ev36 N) 65 (fun R => fnK [(.sl (.sl (.int .u8)))] [(.arr 16 (.int .u8))] (fun c => md4_Of N c.1))
theorem Ev37_ok (R : Type) : EnvOK Tryz.prog (Ev37 N R) := EnvOK.addFn hmx (Ev36_ok N R) (Ev36_ok N _) (by kernel_rfl) (fun c => md4_Of_S N c.1)
noncomputable def Ev38 : (R : Type) → Env R := Env.addBx (Ev37 N) [(103, 0)]
theorem Ev38_ok (R : Type) : EnvOK Tryz.prog (Ev38 N R) := EnvOK.addBx (Ev37_ok N R) [(103, 0)]
noncomputable def ref04_place (N : Nat) (i0 : Int) : Option Int :=
 bif (decide ((IntKind.wrap .i64 (@Int.tdiv i0 (16 : Int))) = (0 : Int))) then
  some (i0)
 else
  bif (decide ((IntKind.wrap .i64 (@Int.tdiv i0 (16 : Int))) = (1 : Int))) then
   some ((IntKind.wrap .i64 ((IntKind.wrap .i64 ((@Int.tmod i0 (4 : Int)) * (4 : Int))) + (@Int.tmod (IntKind.wrap .i64 (@Int.tdiv i0 (4 : Int))) (4 : Int)))))
  else
   Option.bind (getI ([0, 8, 4, 12, 2, 10, 6, 14, 1, 9, 5, 13, 3, 11, 7, 15] : List Int) (IntKind.wrap .i64 (i0 - 32))) fun (v2 : Int) =>
   some (v2)
theorem ref04_place_S (i0 : Int) : (runK Tryz.prog (Ev38 N) 400 140 [(.int .i64)] [(.int .i64)] (i0, ())).run = ref04_place N i0 := by kernel_rfl
noncomputable def Ev39 : (R : Type) → Env R := Env.addFn (Ev38 N) 140 (fun R => fnK [(.int .i64)] [(.int .i64)] (fun c => ref04_place N c.1))
theorem Ev39_ok (R : Type) : EnvOK Tryz.prog (Ev39 N R) := EnvOK.addFn hmx (Ev38_ok N R) (Ev38_ok N _) (by kernel_rfl) (fun c => ref04_place_S N c.1)
noncomputable def ref04_two (N : Nat) (b0 : Int) (c1 : Int) (d2 : Int) : Option Int :=
 some ((bits .or .u32 (bits .or .u32 (bits .and .u32 b0 c1) (bits .and .u32 b0 d2)) (bits .and .u32 c1 d2)))
theorem ref04_two_S (b0 : Int) (c1 : Int) (d2 : Int) : (runK Tryz.prog (Ev39 N) 400 172 [(.int .u32), (.int .u32), (.int .u32)] [(.int .u32)] (b0, c1, d2, ())).run = ref04_two N b0 c1 d2 := by kernel_rfl
noncomputable def Ev40 : (R : Type) → Env R := Env.addFn (Ev39 N) 172 (fun R => fnK [(.int .u32), (.int .u32), (.int .u32)] [(.int .u32)] (fun c => ref04_two N c.1 c.2.1 c.2.2.1))
theorem Ev40_ok (R : Type) : EnvOK Tryz.prog (Ev40 N R) := EnvOK.addFn hmx (Ev39_ok N R) (Ev39_ok N _) (by kernel_rfl) (fun c => ref04_two_S N c.1 c.2.1 c.2.2.1)
noncomputable def ref04_step (N : Nat) (round0 : Int) (b1 : Int) (c2 : Int) (d3 : Int) : Option Int :=
 bif (decide (round0 = (0 : Int))) then
  some ((bits .or .u32 (bits .and .u32 b1 c2) (bits .and .u32 (IntKind.wrap .u32 ((4294967295 : Int) - b1)) d3)))
 else
  bif (decide (round0 = (1 : Int))) then
   some ((IntKind.wrap .u32 ((bits .or .u32 (bits .or .u32 (bits .and .u32 b1 c2) (bits .and .u32 b1 d3)) (bits .and .u32 c2 d3)) + 1518500249)))
  else
   some ((IntKind.wrap .u32 ((bits .xor .u32 (bits .xor .u32 b1 c2) d3) + 1859775393)))
theorem ref04_step_S (round0 : Int) (b1 : Int) (c2 : Int) (d3 : Int) : (runK Tryz.prog (Ev40 N) 400 142 [(.int .i64), (.int .u32), (.int .u32), (.int .u32)] [(.int .u32)] (round0, b1, c2, d3, ())).run = ref04_step N round0 b1 c2 d3 := by kernel_rfl
noncomputable def Ev41 : (R : Type) → Env R := Env.addFn (Ev40 N) 142 (fun R => fnK [(.int .i64), (.int .u32), (.int .u32), (.int .u32)] [(.int .u32)] (fun c => ref04_step N c.1 c.2.1 c.2.2.1 c.2.2.2.1))
theorem Ev41_ok (R : Type) : EnvOK Tryz.prog (Ev41 N R) := EnvOK.addFn hmx (Ev40_ok N R) (Ev40_ok N _) (by kernel_rfl) (fun c => ref04_step_S N c.1 c.2.1 c.2.2.1 c.2.2.2.1)
noncomputable def ref04_turn (N : Nat) (x0 : Int) (n1 : Int) : Option Int :=
 bif (decide ((0 : Int) ≤ n1)) then
  bif (decide ((0 : Int) ≤ (IntKind.wrap .i64 ((32 : Int) - n1)))) then
   some ((bits .or .u32 (IntKind.wrap .u32 (x0 * ((2 : Int) ^ (min (Int.toNat n1) (IntKind.bits .u32))))) (@Int.fdiv x0 ((2 : Int) ^ (min (Int.toNat (IntKind.wrap .i64 ((32 : Int) - n1))) (IntKind.bits .u32))))))
  else
   none
 else
  none
theorem ref04_turn_S (x0 : Int) (n1 : Int) : (runK Tryz.prog (Ev41 N) 400 141 [(.int .u32), (.int .i64)] [(.int .u32)] (x0, n1, ())).run = ref04_turn N x0 n1 := by kernel_rfl
noncomputable def Ev42 : (R : Type) → Env R := Env.addFn (Ev41 N) 141 (fun R => fnK [(.int .u32), (.int .i64)] [(.int .u32)] (fun c => ref04_turn N c.1 c.2.1))
theorem Ev42_ok (R : Type) : EnvOK Tryz.prog (Ev42 N R) := EnvOK.addFn hmx (Ev41_ok N R) (Ev41_ok N _) (by kernel_rfl) (fun c => ref04_turn_S N c.1 c.2.1)
noncomputable def ref04_Block_L4_I : LI := ⟨94, 0, [], ⟨[(2, .adr (.arr 4 (.int .u32))), (3, .adr (.arr 64 (.int .u8))), (4, .lit (.box 0 0)), (5, .ty (.sl (.sl (.int .i64)))), (6, .lit (.box 1 0)), (7, .ty (.int .i64))], [.box 100 (.arr 4 (.int .u32)), .box 100 (.arr 4 (.int .u32))]⟩, [(.exit 0, ⟨[(2, .adr (.arr 4 (.int .u32))), (4, .lit (.box 0 0)), (6, .lit (.box 1 0))], [.box 100 (.arr 4 (.int .u32)), .box 100 (.arr 4 (.int .u32))]⟩)]⟩
noncomputable def ref04_Block_L4 (X : (((Arr Int 4) × ((Arr Int 64) × ((List (List Int)) × (Int × Unit)))) × ((Arr Int 4) × ((Arr Int 4) × Unit))) → Option ((((Arr Int 4) × Unit) × ((Arr Int 4) × ((Arr Int 4) × Unit))))) (s2 : Arr Int 4) (block3 : Arr Int 64) (turns5 : List (List Int)) (i7 : Int) (h0 : Arr Int 4) (h1 : Arr Int 4) : Option ((((Arr Int 4) × Unit) × ((Arr Int 4) × ((Arr Int 4) × Unit)))) :=
 bif (decide (i7 < (48 : Int))) then
  Option.bind (ref04_place N i7) fun v8 =>
  Option.bind (getI block3.l (IntKind.wrap .i64 ((4 : Int) * v8))) fun (v9 : Int) =>
  Option.bind (getI block3.l (IntKind.wrap .i64 ((IntKind.wrap .i64 ((4 : Int) * v8)) + 1))) fun (v10 : Int) =>
  Option.bind (getI block3.l (IntKind.wrap .i64 ((IntKind.wrap .i64 ((4 : Int) * v8)) + 2))) fun (v11 : Int) =>
  Option.bind (getI block3.l (IntKind.wrap .i64 ((IntKind.wrap .i64 ((4 : Int) * v8)) + 3))) fun (v12 : Int) =>
  Option.bind (h1.l[Int.toNat (0 : Int)]?) fun (v13 : Int) =>
  Option.bind (h1.l[Int.toNat (1 : Int)]?) fun (v14 : Int) =>
  Option.bind (h1.l[Int.toNat (2 : Int)]?) fun (v15 : Int) =>
  Option.bind (h1.l[Int.toNat (3 : Int)]?) fun (v16 : Int) =>
  Option.bind (ref04_step N (IntKind.wrap .i64 (@Int.tdiv i7 (16 : Int))) v14 v15 v16) fun v17 =>
  Option.bind (getI turns5 (IntKind.wrap .i64 (@Int.tdiv i7 (16 : Int)))) fun (v18 : (List Int)) =>
  Option.bind (getI v18 (@Int.tmod i7 (4 : Int))) fun (v19 : Int) =>
  Option.bind (ref04_turn N (IntKind.wrap .u32 ((IntKind.wrap .u32 (v13 + v17)) + (IntKind.wrap .u32 ((IntKind.wrap .u32 ((IntKind.wrap .u32 ((IntKind.wrap .u32 v9) + (IntKind.wrap .u32 ((IntKind.wrap .u32 v10) * (256 : Int))))) + (IntKind.wrap .u32 ((IntKind.wrap .u32 v11) * (65536 : Int))))) + (IntKind.wrap .u32 ((IntKind.wrap .u32 v12) * (16777216 : Int))))))) v19) fun v20 =>
  Option.bind (h1.l[Int.toNat (3 : Int)]?) fun (v21 : Int) =>
  Option.bind (h1.l[Int.toNat (1 : Int)]?) fun (v22 : Int) =>
  Option.bind (h1.l[Int.toNat (2 : Int)]?) fun (v23 : Int) =>
  (X ((s2, (block3, (turns5, ((IntKind.wrap .i64 (i7 + 1)), ())))), (h0, ((@Arr.cons Int (3 : Nat) v21 (@Arr.cons Int (2 : Nat) v20 (@Arr.cons Int (1 : Nat) v22 (@Arr.cons Int (0 : Nat) v23 (@Arr.nil Int))))), ()))))
 else
  some (((s2, ()), (h0, (h1, ()))))
noncomputable def ref04_Block_L4_R (c : (((Arr Int 4) × ((Arr Int 64) × ((List (List Int)) × (Int × Unit)))) × ((Arr Int 4) × ((Arr Int 4) × Unit)))) : Option ((((Arr Int 4) × Unit) × ((Arr Int 4) × ((Arr Int 4) × Unit)))) := gl (fun X c => ref04_Block_L4 N X c.1.1 c.1.2.1 c.1.2.2.1 c.1.2.2.2.1 c.2.1 c.2.2.1) N c
theorem ref04_Block_L4_S (X : (((Arr Int 4) × ((Arr Int 64) × ((List (List Int)) × (Int × Unit)))) × ((Arr Int 4) × ((Arr Int 4) × Unit))) → Option ((((Arr Int 4) × Unit) × ((Arr Int 4) × ((Arr Int 4) × Unit))))) (s2 : Arr Int 4) (block3 : Arr Int 64) (turns5 : List (List Int)) (i7 : Int) (h0 : Arr Int 4) (h1 : Arr Int 4) : (roundK Tryz.prog (Ev42 N) 400 [103] ref04_Block_L4_I (loopAt Tryz.prog [103] 4) X ((s2, block3, turns5, i7, ()), (h0, h1, ()))).run = ref04_Block_L4 N X s2 block3 turns5 i7 h0 h1 := by kernel_rfl
noncomputable def Ev43 : (R : Type) → Env R := Env.addLp (Ev42 N) [103] 0 4 (fun R => lpK Tryz.prog ref04_Block_L4_I (fun X c => ref04_Block_L4 N X c.1.1 c.1.2.1 c.1.2.2.1 c.1.2.2.2.1 c.2.1 c.2.2.1) N)
theorem Ev43_ok (R : Type) : EnvOK Tryz.prog (Ev43 N R) := EnvOK.addLp (Ev42_ok N R) (by kernel_rfl) (lpK_ok (li := ref04_Block_L4_I) (G := fun X c => ref04_Block_L4 N X c.1.1 c.1.2.1 c.1.2.2.1 c.1.2.2.2.1 c.2.1 c.2.2.1) hmx (Ev42_ok N _) (by kernel_rfl) loopAt_sub (fun (X : CT ref04_Block_L4_I.sh → Option (OT ref04_Block_L4_I.outs)) (c : CT ref04_Block_L4_I.sh) => ref04_Block_L4_S N X c.1.1 c.1.2.1 c.1.2.2.1 c.1.2.2.2.1 c.2.1 c.2.2.1) N)
noncomputable def ref04_Block_L11_I : LI := ⟨94, 0, [], ⟨[(2, .adr (.arr 4 (.int .u32))), (4, .lit (.box 0 0)), (6, .lit (.box 1 0)), (11, .ty (.int .i64))], [.box 100 (.arr 4 (.int .u32)), .box 100 (.arr 4 (.int .u32))]⟩, [(.exit 2, ⟨[(4, .lit (.box 0 0)), (6, .lit (.box 1 0))], [.box 100 (.arr 4 (.int .u32)), .box 100 (.arr 4 (.int .u32))]⟩)]⟩
noncomputable def ref04_Block_L11 (N : Nat) (X : (((Arr Int 4) × (Int × Unit)) × ((Arr Int 4) × ((Arr Int 4) × Unit))) → Option ((Unit × ((Arr Int 4) × ((Arr Int 4) × Unit))))) (s2 : Arr Int 4) (i11 : Int) (h0 : Arr Int 4) (h1 : Arr Int 4) : Option ((Unit × ((Arr Int 4) × ((Arr Int 4) × Unit)))) :=
 bif (decide (i11 < (4 : Int))) then
  bif (decide ((0 : Int) ≤ i11 ∧ i11 < ((4 : Nat) : Int))) then
   Option.bind (h1.l[Int.toNat i11]?) fun (v6 : Int) =>
   Option.bind (getI s2.l i11) fun (v7 : Int) =>
   bif (decide ((0 : Int) ≤ i11 ∧ i11 < ((4 : Nat) : Int))) then
    Option.bind (h1.l[Int.toNat i11]?) fun (v8 : Int) =>
    (X ((s2, ((IntKind.wrap .i64 (i11 + 1)), ())), (h0, ((h1.set (Int.toNat i11) (IntKind.wrap .u32 (v6 + v7))), ()))))
   else
    none
  else
   none
 else
  some (((), (h0, (h1, ()))))
noncomputable def ref04_Block_L11_R (c : (((Arr Int 4) × (Int × Unit)) × ((Arr Int 4) × ((Arr Int 4) × Unit)))) : Option ((Unit × ((Arr Int 4) × ((Arr Int 4) × Unit)))) := gl (fun X c => ref04_Block_L11 N X c.1.1 c.1.2.1 c.2.1 c.2.2.1) N c
theorem ref04_Block_L11_S (X : (((Arr Int 4) × (Int × Unit)) × ((Arr Int 4) × ((Arr Int 4) × Unit))) → Option ((Unit × ((Arr Int 4) × ((Arr Int 4) × Unit))))) (s2 : Arr Int 4) (i11 : Int) (h0 : Arr Int 4) (h1 : Arr Int 4) : (roundK Tryz.prog (Ev43 N) 400 [103] ref04_Block_L11_I (loopAt Tryz.prog [103] 11) X ((s2, i11, ()), (h0, h1, ()))).run = ref04_Block_L11 N X s2 i11 h0 h1 := by kernel_rfl
noncomputable def Ev44 : (R : Type) → Env R := Env.addLp (Ev43 N) [103] 0 11 (fun R => lpK Tryz.prog ref04_Block_L11_I (fun X c => ref04_Block_L11 N X c.1.1 c.1.2.1 c.2.1 c.2.2.1) N)
theorem Ev44_ok (R : Type) : EnvOK Tryz.prog (Ev44 N R) := EnvOK.addLp (Ev43_ok N R) (by kernel_rfl) (lpK_ok (li := ref04_Block_L11_I) (G := fun X c => ref04_Block_L11 N X c.1.1 c.1.2.1 c.2.1 c.2.2.1) hmx (Ev43_ok N _) (by kernel_rfl) loopAt_sub (fun (X : CT ref04_Block_L11_I.sh → Option (OT ref04_Block_L11_I.outs)) (c : CT ref04_Block_L11_I.sh) => ref04_Block_L11_S N X c.1.1 c.1.2.1 c.2.1 c.2.2.1) N)
noncomputable def ref04_Block (s0 : Arr Int 4) (block1 : Arr Int 64) : Option (Arr Int 4) :=
 Option.bind (ref04_Block_L4_R N ((s0, (block1, (([([3, 7, 11, 19] : List Int), ([3, 5, 9, 13] : List Int), ([3, 9, 11, 15] : List Int)] : List ((List Int))), ((0 : Int), ())))), ((@Arr.cons Int 3 0 (@Arr.cons Int 2 0 (@Arr.cons Int 1 0 (@Arr.cons Int 0 0 (@Arr.nil Int))))), (s0, ())))) fun v3 =>
 Option.bind (ref04_Block_L11_R N ((v3.1.1, ((0 : Int), ())), (v3.2.1, (v3.2.2.1, ())))) fun v4 =>
 some (v4.2.2.1)
theorem ref04_Block_S (s0 : Arr Int 4) (block1 : Arr Int 64) : (runK Tryz.prog (Ev44 N) 400 103 [(.arr 4 (.int .u32)), (.arr 64 (.int .u8))] [(.arr 4 (.int .u32))] (s0, block1, ())).run = ref04_Block N s0 block1 := by kernel_rfl
noncomputable def Ev45 : (R : Type) → Env R := Env.addFn (Ev44 N) 103 (fun R => fnK [(.arr 4 (.int .u32)), (.arr 64 (.int .u8))] [(.arr 4 (.int .u32))] (fun c => ref04_Block N c.1 c.2.1))
theorem Ev45_ok (R : Type) : EnvOK Tryz.prog (Ev45 N R) := EnvOK.addFn hmx (Ev44_ok N R) (Ev44_ok N _) (by kernel_rfl) (fun c => ref04_Block_S N c.1 c.2.1)
noncomputable def Ev46 : (R : Type) → Env R := Env.addMv (Ev45 N) [(101, 1), (101, 8)]
theorem Ev46_ok (R : Type) : EnvOK Tryz.prog (Ev46 N R) := EnvOK.addMv (Ev45_ok N R) [(101, 1), (101, 8)]
noncomputable def ref04_Tail_L2_I : LI := ⟨32, 0, [], ⟨[(0, .ty (.int .u64)), (3, .lit (.own 0))], [.own (.int .u8) 5]⟩, [(.exit 0, ⟨[(0, .ty (.int .u64)), (3, .lit (.own 0))], [.own (.int .u8) 5]⟩)]⟩
noncomputable def ref04_Tail_L2 (N : Nat) (X : ((Int × Unit) × ((List Int) × Unit)) → Option (((Int × Unit) × ((List Int) × Unit)))) (n0 : Int) (h0 : List (Int)) : Option (((Int × Unit) × ((List Int) × Unit))) :=
 bif (!(decide ((@Int.tmod (IntKind.wrap .u64 (n0 + (IntKind.wrap .u64 (((List.length h0) : Nat) : Int)))) (64 : Int)) = (56 : Int)))) then
  bif (roomB ((List.length h0) + (List.length ([0] : List Int))) 1) then
   (X ((n0, ()), ((h0 ++ ([0] : List Int)), ())))
  else
   none
 else
  some (((n0, ()), (h0, ())))
noncomputable def ref04_Tail_L2_R (c : ((Int × Unit) × ((List Int) × Unit))) : Option (((Int × Unit) × ((List Int) × Unit))) := gl (fun X c => ref04_Tail_L2 N X c.1.1 c.2.1) N c
theorem ref04_Tail_L2_S (X : ((Int × Unit) × ((List Int) × Unit)) → Option (((Int × Unit) × ((List Int) × Unit)))) (n0 : Int) (h0 : List (Int)) : (roundK Tryz.prog (Ev46 N) 400 [101] ref04_Tail_L2_I (loopAt Tryz.prog [101] 2) X ((n0, ()), (h0, ()))).run = ref04_Tail_L2 N X n0 h0 := by kernel_rfl
noncomputable def Ev47 : (R : Type) → Env R := Env.addLp (Ev46 N) [101] 0 2 (fun R => lpK Tryz.prog ref04_Tail_L2_I (fun X c => ref04_Tail_L2 N X c.1.1 c.2.1) N)
theorem Ev47_ok (R : Type) : EnvOK Tryz.prog (Ev47 N R) := EnvOK.addLp (Ev46_ok N R) (by kernel_rfl) (lpK_ok (li := ref04_Tail_L2_I) (G := fun X c => ref04_Tail_L2 N X c.1.1 c.2.1) hmx (Ev46_ok N _) (by kernel_rfl) loopAt_sub (fun (X : CT ref04_Tail_L2_I.sh → Option (OT ref04_Tail_L2_I.outs)) (c : CT ref04_Tail_L2_I.sh) => ref04_Tail_L2_S N X c.1.1 c.2.1) N)
noncomputable def ref04_Tail_L6_I : LI := ⟨32, 0, [], ⟨[(3, .lit (.own 0)), (4, .ty (.int .u64)), (5, .ty (.int .i64))], [.own (.int .u8) 5]⟩, [(.exit 2, ⟨[(3, .lit (.own 0))], [.own (.int .u8) 5]⟩)]⟩
noncomputable def ref04_Tail_L6 (N : Nat) (X : ((Int × (Int × Unit)) × ((List Int) × Unit)) → Option ((Unit × ((List Int) × Unit)))) (bits4 : Int) (i5 : Int) (h0 : List (Int)) : Option ((Unit × ((List Int) × Unit))) :=
 bif (decide (i5 < (8 : Int))) then
  bif (roomB ((List.length h0) + (List.length ([(IntKind.wrap .u8 (@Int.tmod bits4 (256 : Int)))] : List (Int)))) 1) then
   (X (((IntKind.wrap .u64 (@Int.tdiv bits4 (256 : Int))), ((IntKind.wrap .i64 (i5 + 1)), ())), ((h0 ++ ([(IntKind.wrap .u8 (@Int.tmod bits4 (256 : Int)))] : List (Int))), ())))
  else
   none
 else
  some (((), (h0, ())))
noncomputable def ref04_Tail_L6_R (c : ((Int × (Int × Unit)) × ((List Int) × Unit))) : Option ((Unit × ((List Int) × Unit))) := gl (fun X c => ref04_Tail_L6 N X c.1.1 c.1.2.1 c.2.1) N c
theorem ref04_Tail_L6_S (X : ((Int × (Int × Unit)) × ((List Int) × Unit)) → Option ((Unit × ((List Int) × Unit)))) (bits4 : Int) (i5 : Int) (h0 : List (Int)) : (roundK Tryz.prog (Ev47 N) 400 [101] ref04_Tail_L6_I (loopAt Tryz.prog [101] 6) X ((bits4, i5, ()), (h0, ()))).run = ref04_Tail_L6 N X bits4 i5 h0 := by kernel_rfl
noncomputable def Ev48 : (R : Type) → Env R := Env.addLp (Ev47 N) [101] 0 6 (fun R => lpK Tryz.prog ref04_Tail_L6_I (fun X c => ref04_Tail_L6 N X c.1.1 c.1.2.1 c.2.1) N)
theorem Ev48_ok (R : Type) : EnvOK Tryz.prog (Ev48 N R) := EnvOK.addLp (Ev47_ok N R) (by kernel_rfl) (lpK_ok (li := ref04_Tail_L6_I) (G := fun X c => ref04_Tail_L6 N X c.1.1 c.1.2.1 c.2.1) hmx (Ev47_ok N _) (by kernel_rfl) loopAt_sub (fun (X : CT ref04_Tail_L6_I.sh → Option (OT ref04_Tail_L6_I.outs)) (c : CT ref04_Tail_L6_I.sh) => ref04_Tail_L6_S N X c.1.1 c.1.2.1 c.2.1) N)
noncomputable def ref04_Tail (n0 : Int) : Option (List Int) :=
 Option.bind (ref04_Tail_L2_R N ((n0, ()), (([128] : List Int), ()))) fun v2 =>
 Option.bind (ref04_Tail_L6_R N (((IntKind.wrap .u64 ((8 : Int) * v2.1.1)), ((0 : Int), ())), (v2.2.1, ()))) fun v3 =>
 some (v3.2.1)
theorem ref04_Tail_S (n0 : Int) : (runK Tryz.prog (Ev48 N) 400 101 [(.int .u64)] [(.sl (.int .u8))] (n0, ())).run = ref04_Tail N n0 := by kernel_rfl
noncomputable def Ev49 : (R : Type) → Env R := Env.addFn (Ev48 N) 101 (fun R => fnK [(.int .u64)] [(.sl (.int .u8))] (fun c => ref04_Tail N c.1))
theorem Ev49_ok (R : Type) : EnvOK Tryz.prog (Ev49 N R) := EnvOK.addFn hmx (Ev48_ok N R) (Ev48_ok N _) (by kernel_rfl) (fun c => ref04_Tail_S N c.1)
noncomputable def ref04_First (N : Nat) : Option (Arr Int 4) :=
 some ((@Arr.cons Int 3 1732584193 (@Arr.cons Int 2 4023233417 (@Arr.cons Int 1 2562383102 (@Arr.cons Int 0 271733878 (@Arr.nil Int))))))
theorem ref04_First_S : (runK Tryz.prog (Ev49 N) 400 102 [] [(.arr 4 (.int .u32))] ()).run = ref04_First N  := by kernel_rfl
noncomputable def Ev50 : (R : Type) → Env R := Env.addFn (Ev49 N) 102 (fun R => fnK [] [(.arr 4 (.int .u32))] (fun c => ref04_First N ))
theorem Ev50_ok (R : Type) : EnvOK Tryz.prog (Ev50 N R) := EnvOK.addFn hmx (Ev49_ok N R) (Ev49_ok N _) (by kernel_rfl) (fun c => ref04_First_S N )
noncomputable def ref04_Of_L8_I : LI := ⟨55, 0, [], ⟨[(2, .lit (.box 0 0)), (3, .lit (.own 1)), (4, .lit (.box 2 0)), (5, .ty (.int .i64)), (6, .lit (.box 3 0)), (7, .ty (.int .i64))], [.box 22 (.arr 16 (.int .u8)), .own (.int .u8) 5, .box 100 (.arr 4 (.int .u32)), .box 103 (.arr 64 (.int .u8))]⟩, [(.exit 2, ⟨[(2, .lit (.box 0 0)), (3, .lit (.own 1)), (4, .lit (.box 2 0)), (5, .ty (.int .i64)), (6, .lit (.box 3 0))], [.box 22 (.arr 16 (.int .u8)), .own (.int .u8) 5, .box 100 (.arr 4 (.int .u32)), .box 103 (.arr 64 (.int .u8))]⟩)]⟩
noncomputable def ref04_Of_L8 (N : Nat) (X : ((Int × (Int × Unit)) × ((Arr Int 16) × ((List Int) × ((Arr Int 4) × ((Arr Int 64) × Unit))))) → Option (((Int × Unit) × ((Arr Int 16) × ((List Int) × ((Arr Int 4) × ((Arr Int 64) × Unit))))))) (x5 : Int) (i7 : Int) (h0 : Arr Int 16) (h1 : List (Int)) (h2 : Arr Int 4) (h3 : Arr Int 64) : Option (((Int × Unit) × ((Arr Int 16) × ((List Int) × ((Arr Int 4) × ((Arr Int 64) × Unit)))))) :=
 bif (decide (i7 < (64 : Int))) then
  bif (decide ((0 : Int) ≤ (IntKind.wrap .i64 (x5 + i7)) ∧ (IntKind.wrap .i64 (x5 + i7)) < (((List.length h1) : Nat) : Int))) then
   Option.bind (h1[Int.toNat (IntKind.wrap .i64 (x5 + i7))]?) fun (v8 : Int) =>
   bif (decide ((0 : Int) ≤ i7 ∧ i7 < ((64 : Nat) : Int))) then
    Option.bind (h3.l[Int.toNat i7]?) fun (v9 : Int) =>
    (X ((x5, ((IntKind.wrap .i64 (i7 + 1)), ())), (h0, (h1, (h2, ((h3.set (Int.toNat i7) v8), ()))))))
   else
    none
  else
   none
 else
  some (((x5, ()), (h0, (h1, (h2, (h3, ()))))))
noncomputable def ref04_Of_L8_R (c : ((Int × (Int × Unit)) × ((Arr Int 16) × ((List Int) × ((Arr Int 4) × ((Arr Int 64) × Unit)))))) : Option (((Int × Unit) × ((Arr Int 16) × ((List Int) × ((Arr Int 4) × ((Arr Int 64) × Unit)))))) := gl (fun X c => ref04_Of_L8 N X c.1.1 c.1.2.1 c.2.1 c.2.2.1 c.2.2.2.1 c.2.2.2.2.1) N c
theorem ref04_Of_L8_S (X : ((Int × (Int × Unit)) × ((Arr Int 16) × ((List Int) × ((Arr Int 4) × ((Arr Int 64) × Unit))))) → Option (((Int × Unit) × ((Arr Int 16) × ((List Int) × ((Arr Int 4) × ((Arr Int 64) × Unit))))))) (x5 : Int) (i7 : Int) (h0 : Arr Int 16) (h1 : List (Int)) (h2 : Arr Int 4) (h3 : Arr Int 64) : (roundK Tryz.prog (Ev50 N) 400 [67] ref04_Of_L8_I (loopAt Tryz.prog [67] 8) X ((x5, i7, ()), (h0, h1, h2, h3, ()))).run = ref04_Of_L8 N X x5 i7 h0 h1 h2 h3 := by kernel_rfl
noncomputable def Ev51 : (R : Type) → Env R := Env.addLp (Ev50 N) [67] 0 8 (fun R => lpK Tryz.prog ref04_Of_L8_I (fun X c => ref04_Of_L8 N X c.1.1 c.1.2.1 c.2.1 c.2.2.1 c.2.2.2.1 c.2.2.2.2.1) N)
theorem Ev51_ok (R : Type) : EnvOK Tryz.prog (Ev51 N R) := EnvOK.addLp (Ev50_ok N R) (by kernel_rfl) (lpK_ok (li := ref04_Of_L8_I) (G := fun X c => ref04_Of_L8 N X c.1.1 c.1.2.1 c.2.1 c.2.2.1 c.2.2.2.1 c.2.2.2.2.1) hmx (Ev50_ok N _) (by kernel_rfl) loopAt_sub (fun (X : CT ref04_Of_L8_I.sh → Option (OT ref04_Of_L8_I.outs)) (c : CT ref04_Of_L8_I.sh) => ref04_Of_L8_S N X c.1.1 c.1.2.1 c.2.1 c.2.2.1 c.2.2.2.1 c.2.2.2.2.1) N)
noncomputable def ref04_Of_L4_I : LI := ⟨55, 0, [], ⟨[(2, .lit (.box 0 0)), (3, .lit (.own 1)), (4, .lit (.box 2 0)), (5, .ty (.int .i64))], [.box 22 (.arr 16 (.int .u8)), .own (.int .u8) 5, .box 100 (.arr 4 (.int .u32))]⟩, [(.exit 0, ⟨[(2, .lit (.box 0 0)), (4, .lit (.box 1 0))], [.box 22 (.arr 16 (.int .u8)), .box 100 (.arr 4 (.int .u32))]⟩)]⟩
noncomputable def ref04_Of_L4 (X : ((Int × Unit) × ((Arr Int 16) × ((List Int) × ((Arr Int 4) × Unit)))) → Option ((Unit × ((Arr Int 16) × ((Arr Int 4) × Unit))))) (x5 : Int) (h0 : Arr Int 16) (h1 : List (Int)) (h2 : Arr Int 4) : Option ((Unit × ((Arr Int 16) × ((Arr Int 4) × Unit)))) :=
 bif (decide (x5 < (((List.length h1) : Nat) : Int))) then
  Option.bind (ref04_Of_L8_R N ((x5, ((0 : Int), ())), (h0, (h1, (h2, ((@Arr.cons Int 63 0 (@Arr.cons Int 62 0 (@Arr.cons Int 61 0 (@Arr.cons Int 60 0 (@Arr.cons Int 59 0 (@Arr.cons Int 58 0 (@Arr.cons Int 57 0 (@Arr.cons Int 56 0 (@Arr.cons Int 55 0 (@Arr.cons Int 54 0 (@Arr.cons Int 53 0 (@Arr.cons Int 52 0 (@Arr.cons Int 51 0 (@Arr.cons Int 50 0 (@Arr.cons Int 49 0 (@Arr.cons Int 48 0 (@Arr.cons Int 47 0 (@Arr.cons Int 46 0 (@Arr.cons Int 45 0 (@Arr.cons Int 44 0 (@Arr.cons Int 43 0 (@Arr.cons Int 42 0 (@Arr.cons Int 41 0 (@Arr.cons Int 40 0 (@Arr.cons Int 39 0 (@Arr.cons Int 38 0 (@Arr.cons Int 37 0 (@Arr.cons Int 36 0 (@Arr.cons Int 35 0 (@Arr.cons Int 34 0 (@Arr.cons Int 33 0 (@Arr.cons Int 32 0 (@Arr.cons Int 31 0 (@Arr.cons Int 30 0 (@Arr.cons Int 29 0 (@Arr.cons Int 28 0 (@Arr.cons Int 27 0 (@Arr.cons Int 26 0 (@Arr.cons Int 25 0 (@Arr.cons Int 24 0 (@Arr.cons Int 23 0 (@Arr.cons Int 22 0 (@Arr.cons Int 21 0 (@Arr.cons Int 20 0 (@Arr.cons Int 19 0 (@Arr.cons Int 18 0 (@Arr.cons Int 17 0 (@Arr.cons Int 16 0 (@Arr.cons Int 15 0 (@Arr.cons Int 14 0 (@Arr.cons Int 13 0 (@Arr.cons Int 12 0 (@Arr.cons Int 11 0 (@Arr.cons Int 10 0 (@Arr.cons Int 9 0 (@Arr.cons Int 8 0 (@Arr.cons Int 7 0 (@Arr.cons Int 6 0 (@Arr.cons Int 5 0 (@Arr.cons Int 4 0 (@Arr.cons Int 3 0 (@Arr.cons Int 2 0 (@Arr.cons Int 1 0 (@Arr.cons Int 0 0 (@Arr.nil Int))))))))))))))))))))))))))))))))))))))))))))))))))))))))))))))))), ())))))) fun v6 =>
  Option.bind (ref04_Block N v6.2.2.2.1 v6.2.2.2.2.1) fun v7 =>
  (X (((IntKind.wrap .i64 (v6.1.1 + 64)), ()), (v6.2.1, (v6.2.2.1, (v7, ())))))
 else
  some (((), (h0, (h2, ()))))
noncomputable def ref04_Of_L4_R (c : ((Int × Unit) × ((Arr Int 16) × ((List Int) × ((Arr Int 4) × Unit))))) : Option ((Unit × ((Arr Int 16) × ((Arr Int 4) × Unit)))) := gl (fun X c => ref04_Of_L4 N X c.1.1 c.2.1 c.2.2.1 c.2.2.2.1) N c
theorem ref04_Of_L4_S (X : ((Int × Unit) × ((Arr Int 16) × ((List Int) × ((Arr Int 4) × Unit)))) → Option ((Unit × ((Arr Int 16) × ((Arr Int 4) × Unit))))) (x5 : Int) (h0 : Arr Int 16) (h1 : List (Int)) (h2 : Arr Int 4) : (roundK Tryz.prog (Ev51 N) 400 [67] ref04_Of_L4_I (loopAt Tryz.prog [67] 4) X ((x5, ()), (h0, h1, h2, ()))).run = ref04_Of_L4 N X x5 h0 h1 h2 := by kernel_rfl
noncomputable def Ev52 : (R : Type) → Env R := Env.addLp (Ev51 N) [67] 0 4 (fun R => lpK Tryz.prog ref04_Of_L4_I (fun X c => ref04_Of_L4 N X c.1.1 c.2.1 c.2.2.1 c.2.2.2.1) N)
theorem Ev52_ok (R : Type) : EnvOK Tryz.prog (Ev52 N R) := EnvOK.addLp (Ev51_ok N R) (by kernel_rfl) (lpK_ok (li := ref04_Of_L4_I) (G := fun X c => ref04_Of_L4 N X c.1.1 c.2.1 c.2.2.1 c.2.2.2.1) hmx (Ev51_ok N _) (by kernel_rfl) loopAt_sub (fun (X : CT ref04_Of_L4_I.sh → Option (OT ref04_Of_L4_I.outs)) (c : CT ref04_Of_L4_I.sh) => ref04_Of_L4_S N X c.1.1 c.2.1 c.2.2.1 c.2.2.2.1) N)
noncomputable def ref04_Of_L14_I : LI := ⟨55, 0, [], ⟨[(2, .lit (.box 0 0)), (4, .lit (.box 1 0)), (8, .lit (.box 2 0)), (9, .ty (.int .i64))], [.box 22 (.arr 16 (.int .u8)), .box 100 (.arr 4 (.int .u32)), .box 22 (.arr 16 (.int .u8))]⟩, [(.exit 4, ⟨[(2, .lit (.box 0 0)), (8, .lit (.box 1 0))], [.box 22 (.arr 16 (.int .u8)), .box 22 (.arr 16 (.int .u8))]⟩)]⟩
noncomputable def ref04_Of_L14 (N : Nat) (X : ((Int × Unit) × ((Arr Int 16) × ((Arr Int 4) × ((Arr Int 16) × Unit)))) → Option ((Unit × ((Arr Int 16) × ((Arr Int 16) × Unit))))) (i9 : Int) (h0 : Arr Int 16) (h1 : Arr Int 4) (h2 : Arr Int 16) : Option ((Unit × ((Arr Int 16) × ((Arr Int 16) × Unit)))) :=
 bif (decide (i9 < (16 : Int))) then
  bif (decide ((0 : Int) ≤ (IntKind.wrap .i64 (@Int.tdiv i9 (4 : Int))) ∧ (IntKind.wrap .i64 (@Int.tdiv i9 (4 : Int))) < ((4 : Nat) : Int))) then
   Option.bind (h1.l[Int.toNat (IntKind.wrap .i64 (@Int.tdiv i9 (4 : Int)))]?) fun (v6 : Int) =>
   bif (decide ((0 : Int) ≤ (IntKind.wrap .i64 ((8 : Int) * (@Int.tmod i9 (4 : Int)))))) then
    bif (decide ((0 : Int) ≤ i9 ∧ i9 < ((16 : Nat) : Int))) then
     Option.bind (h2.l[Int.toNat i9]?) fun (v7 : Int) =>
     (X (((IntKind.wrap .i64 (i9 + 1)), ()), (h0, (h1, ((h2.set (Int.toNat i9) (IntKind.wrap .u8 (@Int.fdiv v6 ((2 : Int) ^ (min (Int.toNat (IntKind.wrap .i64 ((8 : Int) * (@Int.tmod i9 (4 : Int))))) (IntKind.bits .u32)))))), ())))))
    else
     none
   else
    none
  else
   none
 else
  some (((), (h0, (h2, ()))))
noncomputable def ref04_Of_L14_R (c : ((Int × Unit) × ((Arr Int 16) × ((Arr Int 4) × ((Arr Int 16) × Unit))))) : Option ((Unit × ((Arr Int 16) × ((Arr Int 16) × Unit)))) := gl (fun X c => ref04_Of_L14 N X c.1.1 c.2.1 c.2.2.1 c.2.2.2.1) N c
theorem ref04_Of_L14_S (X : ((Int × Unit) × ((Arr Int 16) × ((Arr Int 4) × ((Arr Int 16) × Unit)))) → Option ((Unit × ((Arr Int 16) × ((Arr Int 16) × Unit))))) (i9 : Int) (h0 : Arr Int 16) (h1 : Arr Int 4) (h2 : Arr Int 16) : (roundK Tryz.prog (Ev52 N) 400 [67] ref04_Of_L14_I (loopAt Tryz.prog [67] 14) X ((i9, ()), (h0, h1, h2, ()))).run = ref04_Of_L14 N X i9 h0 h1 h2 := by kernel_rfl
noncomputable def Ev53 : (R : Type) → Env R := Env.addLp (Ev52 N) [67] 0 14 (fun R => lpK Tryz.prog ref04_Of_L14_I (fun X c => ref04_Of_L14 N X c.1.1 c.2.1 c.2.2.1 c.2.2.2.1) N)
theorem Ev53_ok (R : Type) : EnvOK Tryz.prog (Ev53 N R) := EnvOK.addLp (Ev52_ok N R) (by kernel_rfl) (lpK_ok (li := ref04_Of_L14_I) (G := fun X c => ref04_Of_L14 N X c.1.1 c.2.1 c.2.2.1 c.2.2.2.1) hmx (Ev52_ok N _) (by kernel_rfl) loopAt_sub (fun (X : CT ref04_Of_L14_I.sh → Option (OT ref04_Of_L14_I.outs)) (c : CT ref04_Of_L14_I.sh) => ref04_Of_L14_S N X c.1.1 c.2.1 c.2.2.1 c.2.2.2.1) N)
noncomputable def ref04_Of (b0 : List (Int)) : Option (Arr Int 16) :=
 bif (roomB (List.length b0) 1) then
  Option.bind (ref04_Tail N (IntKind.wrap .u64 (((List.length b0) : Nat) : Int))) fun v2 =>
  bif (roomB ((List.length b0) + (List.length v2)) 1) then
   Option.bind (ref04_Of_L4_R N (((0 : Int), ()), ((@Arr.cons Int 15 0 (@Arr.cons Int 14 0 (@Arr.cons Int 13 0 (@Arr.cons Int 12 0 (@Arr.cons Int 11 0 (@Arr.cons Int 10 0 (@Arr.cons Int 9 0 (@Arr.cons Int 8 0 (@Arr.cons Int 7 0 (@Arr.cons Int 6 0 (@Arr.cons Int 5 0 (@Arr.cons Int 4 0 (@Arr.cons Int 3 0 (@Arr.cons Int 2 0 (@Arr.cons Int 1 0 (@Arr.cons Int 0 0 (@Arr.nil Int))))))))))))))))), ((b0 ++ v2), ((@Arr.cons Int 3 1732584193 (@Arr.cons Int 2 4023233417 (@Arr.cons Int 1 2562383102 (@Arr.cons Int 0 271733878 (@Arr.nil Int))))), ()))))) fun v3 =>
   Option.bind (ref04_Of_L14_R N (((0 : Int), ()), (v3.2.1, (v3.2.2.1, ((@Arr.cons Int 15 0 (@Arr.cons Int 14 0 (@Arr.cons Int 13 0 (@Arr.cons Int 12 0 (@Arr.cons Int 11 0 (@Arr.cons Int 10 0 (@Arr.cons Int 9 0 (@Arr.cons Int 8 0 (@Arr.cons Int 7 0 (@Arr.cons Int 6 0 (@Arr.cons Int 5 0 (@Arr.cons Int 4 0 (@Arr.cons Int 3 0 (@Arr.cons Int 2 0 (@Arr.cons Int 1 0 (@Arr.cons Int 0 0 (@Arr.nil Int))))))))))))))))), ()))))) fun v4 =>
   some (v4.2.2.1)
  else
   none
 else
  none
theorem ref04_Of_S (b0 : List (Int)) : (runK Tryz.prog (Ev53 N) 400 67 [(.sl (.int .u8))] [(.arr 16 (.int .u8))] (b0, ())).run = ref04_Of N b0 := by kernel_rfl
noncomputable def Ev54 : (R : Type) → Env R := Env.addFn (Ev53 N) 67 (fun R => fnK [(.sl (.int .u8))] [(.arr 16 (.int .u8))] (fun c => ref04_Of N c.1))
theorem Ev54_ok (R : Type) : EnvOK Tryz.prog (Ev54 N R) := EnvOK.addFn hmx (Ev53_ok N R) (Ev53_ok N _) (by kernel_rfl) (fun c => ref04_Of_S N c.1)
noncomputable def sha1_Tail_3_octs_Join_L3_I : LI := ⟨33, 1, [], ⟨[(0, .ty (.sl (.sl (.int .u8)))), (3, .ty (.int .i64)), (9, .ty (.sl (.sl (.int .u8)))), (10, .ty (.int .i64)), (11, .ty (.int .i64))], [.dead]⟩, [(.exit 0, ⟨[(0, .ty (.sl (.sl (.int .u8)))), (3, .ty (.int .i64))], [.dead]⟩)]⟩
noncomputable def sha1_Tail_3_octs_Join_L3 (N : Nat) (X : (((List (List Int)) × (Int × ((List (List Int)) × (Int × (Int × Unit))))) × Unit) → Option ((((List (List Int)) × (Int × Unit)) × Unit))) (parts0 : List (List Int)) (size3 : Int) (x9 : List (List Int)) (x10 : Int) (x11 : Int) : Option ((((List (List Int)) × (Int × Unit)) × Unit)) :=
 bif (decide (x11 < x10)) then
  Option.bind (getI x9 x11) fun (v7 : (List Int)) =>
  (X ((parts0, ((IntKind.wrap .i64 (size3 + (((List.length v7) : Nat) : Int))), (x9, (x10, ((IntKind.wrap .i64 (x11 + 1)), ()))))), ()))
 else
  some (((parts0, (size3, ())), ()))
noncomputable def sha1_Tail_3_octs_Join_L3_R (c : (((List (List Int)) × (Int × ((List (List Int)) × (Int × (Int × Unit))))) × Unit)) : Option ((((List (List Int)) × (Int × Unit)) × Unit)) := gl (fun X c => sha1_Tail_3_octs_Join_L3 N X c.1.1 c.1.2.1 c.1.2.2.1 c.1.2.2.2.1 c.1.2.2.2.2.1) N c
theorem sha1_Tail_3_octs_Join_L3_S (X : (((List (List Int)) × (Int × ((List (List Int)) × (Int × (Int × Unit))))) × Unit) → Option ((((List (List Int)) × (Int × Unit)) × Unit))) (parts0 : List (List Int)) (size3 : Int) (x9 : List (List Int)) (x10 : Int) (x11 : Int) : (roundK Tryz.prog (Ev54 N) 400 [52, 3, 53] sha1_Tail_3_octs_Join_L3_I (loopAt Tryz.prog [52, 3, 53] 3) X ((parts0, size3, x9, x10, x11, ()), ())).run = sha1_Tail_3_octs_Join_L3 N X parts0 size3 x9 x10 x11 := by kernel_rfl
noncomputable def Ev55 : (R : Type) → Env R := Env.addLp (Ev54 N) [52, 3, 53] 1 3 (fun R => lpK Tryz.prog sha1_Tail_3_octs_Join_L3_I (fun X c => sha1_Tail_3_octs_Join_L3 N X c.1.1 c.1.2.1 c.1.2.2.1 c.1.2.2.2.1 c.1.2.2.2.2.1) N)
theorem Ev55_ok (R : Type) : EnvOK Tryz.prog (Ev55 N R) := EnvOK.addLp (Ev54_ok N R) (by kernel_rfl) (lpK_ok (li := sha1_Tail_3_octs_Join_L3_I) (G := fun X c => sha1_Tail_3_octs_Join_L3 N X c.1.1 c.1.2.1 c.1.2.2.1 c.1.2.2.2.1 c.1.2.2.2.2.1) hmx (Ev54_ok N _) (by kernel_rfl) loopAt_sub (fun (X : CT sha1_Tail_3_octs_Join_L3_I.sh → Option (OT sha1_Tail_3_octs_Join_L3_I.outs)) (c : CT sha1_Tail_3_octs_Join_L3_I.sh) => sha1_Tail_3_octs_Join_L3_S N X c.1.1 c.1.2.1 c.1.2.2.1 c.1.2.2.2.1 c.1.2.2.2.2.1) N)
noncomputable def sha1_Tail_3_octs_Join_L9_I : LI := ⟨33, 1, [], ⟨[(6, .lit (.own 1)), (22, .ty (.sl (.sl (.int .u8)))), (23, .ty (.int .i64)), (24, .ty (.int .i64))], [.dead, .own (.int .u8) 5]⟩, [(.exit 2, ⟨[(6, .lit (.own 1))], [.dead, .own (.int .u8) 5]⟩)]⟩
noncomputable def sha1_Tail_3_octs_Join_L9 (N : Nat) (X : (((List (List Int)) × (Int × (Int × Unit))) × ((List Int) × Unit)) → Option ((Unit × ((List Int) × Unit)))) (x22 : List (List Int)) (x23 : Int) (x24 : Int) (h0 : List (Int)) : Option ((Unit × ((List Int) × Unit))) :=
 bif (decide (x24 < x23)) then
  Option.bind (getI x22 x24) fun (v6 : (List Int)) =>
  bif (roomB ((List.length h0) + (List.length v6)) 1) then
   (X ((x22, (x23, ((IntKind.wrap .i64 (x24 + 1)), ()))), ((h0 ++ v6), ())))
  else
   none
 else
  some (((), (h0, ())))
noncomputable def sha1_Tail_3_octs_Join_L9_R (c : (((List (List Int)) × (Int × (Int × Unit))) × ((List Int) × Unit))) : Option ((Unit × ((List Int) × Unit))) := gl (fun X c => sha1_Tail_3_octs_Join_L9 N X c.1.1 c.1.2.1 c.1.2.2.1 c.2.1) N c
theorem sha1_Tail_3_octs_Join_L9_S (X : (((List (List Int)) × (Int × (Int × Unit))) × ((List Int) × Unit)) → Option ((Unit × ((List Int) × Unit)))) (x22 : List (List Int)) (x23 : Int) (x24 : Int) (h0 : List (Int)) : (roundK Tryz.prog (Ev55 N) 400 [52, 3, 53] sha1_Tail_3_octs_Join_L9_I (loopAt Tryz.prog [52, 3, 53] 9) X ((x22, x23, x24, ()), (h0, ()))).run = sha1_Tail_3_octs_Join_L9 N X x22 x23 x24 h0 := by kernel_rfl
noncomputable def Ev56 : (R : Type) → Env R := Env.addLp (Ev55 N) [52, 3, 53] 1 9 (fun R => lpK Tryz.prog sha1_Tail_3_octs_Join_L9_I (fun X c => sha1_Tail_3_octs_Join_L9 N X c.1.1 c.1.2.1 c.1.2.2.1 c.2.1) N)
theorem Ev56_ok (R : Type) : EnvOK Tryz.prog (Ev56 N R) := EnvOK.addLp (Ev55_ok N R) (by kernel_rfl) (lpK_ok (li := sha1_Tail_3_octs_Join_L9_I) (G := fun X c => sha1_Tail_3_octs_Join_L9 N X c.1.1 c.1.2.1 c.1.2.2.1 c.2.1) hmx (Ev55_ok N _) (by kernel_rfl) loopAt_sub (fun (X : CT sha1_Tail_3_octs_Join_L9_I.sh → Option (OT sha1_Tail_3_octs_Join_L9_I.outs)) (c : CT sha1_Tail_3_octs_Join_L9_I.sh) => sha1_Tail_3_octs_Join_L9_S N X c.1.1 c.1.2.1 c.1.2.2.1 c.2.1) N)
noncomputable def sha1_Tail (n0 : Int) : Option (List Int) :=
 Option.bind (octs_Put N (IntKind.wrap .u64 ((8 : Int) * n0)) (8 : Int) false) fun v2 =>
 bif ((decide ((0 : Int) ≤ (@Int.tmod (IntKind.wrap .u64 ((119 : Int) - (@Int.tmod n0 (64 : Int)))) (64 : Int)) ∧ (@Int.tmod (IntKind.wrap .u64 ((119 : Int) - (@Int.tmod n0 (64 : Int)))) (64 : Int)) ≤ (@Int.tmod (IntKind.wrap .u64 ((119 : Int) - (@Int.tmod n0 (64 : Int)))) (64 : Int)))) && (roomB (Int.toNat (@Int.tmod (IntKind.wrap .u64 ((119 : Int) - (@Int.tmod n0 (64 : Int)))) (64 : Int))) 1)) then
  Option.bind (sha1_Tail_3_octs_Join_L3_R N ((([([128] : List Int), (@List.replicate Int (Int.toNat (@Int.tmod (IntKind.wrap .u64 ((119 : Int) - (@Int.tmod n0 (64 : Int)))) (64 : Int))) (0 : Int)), v2.1] : List ((List Int))), ((0 : Int), (([([128] : List Int), (@List.replicate Int (Int.toNat (@Int.tmod (IntKind.wrap .u64 ((119 : Int) - (@Int.tmod n0 (64 : Int)))) (64 : Int))) (0 : Int)), v2.1] : List ((List Int))), ((((List.length ([([128] : List Int), (@List.replicate Int (Int.toNat (@Int.tmod (IntKind.wrap .u64 ((119 : Int) - (@Int.tmod n0 (64 : Int)))) (64 : Int))) (0 : Int)), v2.1] : List ((List Int)))) : Nat) : Int), ((0 : Int), ()))))), ())) fun v3 =>
  bif ((decide ((0 : Int) ≤ (0 : Int) ∧ (0 : Int) ≤ v3.1.2.1)) && (roomB (Int.toNat v3.1.2.1) 1)) then
   Option.bind (sha1_Tail_3_octs_Join_L9_R N ((v3.1.1, ((((List.length v3.1.1) : Nat) : Int), ((0 : Int), ()))), ((@List.replicate Int (Int.toNat (0 : Int)) (0 : Int)), ()))) fun v4 =>
   some (v4.2.1)
  else
   none
 else
  none
theorem sha1_Tail_S (n0 : Int) : (runK Tryz.prog (Ev56 N) 400 53 [(.int .u64)] [(.sl (.int .u8))] (n0, ())).run = sha1_Tail N n0 := by kernel_rfl
noncomputable def Ev57 : (R : Type) → Env R := Env.addFn (Ev56 N) 53 (fun R => fnK [(.int .u64)] [(.sl (.int .u8))] (fun c => sha1_Tail N c.1))
theorem Ev57_ok (R : Type) : EnvOK Tryz.prog (Ev57 N R) := EnvOK.addFn hmx (Ev56_ok N R) (Ev56_ok N _) (by kernel_rfl) (fun c => sha1_Tail_S N c.1)
noncomputable def sha1_First (N : Nat) : Option (Arr Int 5) :=
 some ((@Arr.cons Int 4 1732584193 (@Arr.cons Int 3 4023233417 (@Arr.cons Int 2 2562383102 (@Arr.cons Int 1 271733878 (@Arr.cons Int 0 3285377520 (@Arr.nil Int)))))))
theorem sha1_First_S : (runK Tryz.prog (Ev57 N) 400 54 [] [(.arr 5 (.int .u32))] ()).run = sha1_First N  := by kernel_rfl
noncomputable def Ev58 : (R : Type) → Env R := Env.addFn (Ev57 N) 54 (fun R => fnK [] [(.arr 5 (.int .u32))] (fun c => sha1_First N ))
theorem Ev58_ok (R : Type) : EnvOK Tryz.prog (Ev58 N R) := EnvOK.addFn hmx (Ev57_ok N R) (Ev57_ok N _) (by kernel_rfl) (fun c => sha1_First_S N )
noncomputable def sha1_Of_1_octs_Join_L3_I : LI := ⟨33, 1, [], ⟨[(0, .ty (.sl (.sl (.int .u8)))), (3, .ty (.int .i64)), (9, .ty (.sl (.sl (.int .u8)))), (10, .ty (.int .i64)), (11, .ty (.int .i64))], [.box 62 (.arr 20 (.int .u8))]⟩, [(.exit 0, ⟨[(0, .ty (.sl (.sl (.int .u8)))), (3, .ty (.int .i64))], [.box 62 (.arr 20 (.int .u8))]⟩)]⟩
noncomputable def sha1_Of_1_octs_Join_L3 (N : Nat) (X : (((List (List Int)) × (Int × ((List (List Int)) × (Int × (Int × Unit))))) × ((Arr Int 20) × Unit)) → Option ((((List (List Int)) × (Int × Unit)) × ((Arr Int 20) × Unit)))) (parts0 : List (List Int)) (size3 : Int) (x9 : List (List Int)) (x10 : Int) (x11 : Int) (h0 : Arr Int 20) : Option ((((List (List Int)) × (Int × Unit)) × ((Arr Int 20) × Unit))) :=
 bif (decide (x11 < x10)) then
  Option.bind (getI x9 x11) fun (v8 : (List Int)) =>
  (X ((parts0, ((IntKind.wrap .i64 (size3 + (((List.length v8) : Nat) : Int))), (x9, (x10, ((IntKind.wrap .i64 (x11 + 1)), ()))))), (h0, ())))
 else
  some (((parts0, (size3, ())), (h0, ())))
noncomputable def sha1_Of_1_octs_Join_L3_R (c : (((List (List Int)) × (Int × ((List (List Int)) × (Int × (Int × Unit))))) × ((Arr Int 20) × Unit))) : Option ((((List (List Int)) × (Int × Unit)) × ((Arr Int 20) × Unit))) := gl (fun X c => sha1_Of_1_octs_Join_L3 N X c.1.1 c.1.2.1 c.1.2.2.1 c.1.2.2.2.1 c.1.2.2.2.2.1 c.2.1) N c
theorem sha1_Of_1_octs_Join_L3_S (X : (((List (List Int)) × (Int × ((List (List Int)) × (Int × (Int × Unit))))) × ((Arr Int 20) × Unit)) → Option ((((List (List Int)) × (Int × Unit)) × ((Arr Int 20) × Unit)))) (parts0 : List (List Int)) (size3 : Int) (x9 : List (List Int)) (x10 : Int) (x11 : Int) (h0 : Arr Int 20) : (roundK Tryz.prog (Ev58 N) 400 [52, 1, 26] sha1_Of_1_octs_Join_L3_I (loopAt Tryz.prog [52, 1, 26] 3) X ((parts0, size3, x9, x10, x11, ()), (h0, ()))).run = sha1_Of_1_octs_Join_L3 N X parts0 size3 x9 x10 x11 h0 := by kernel_rfl
noncomputable def Ev59 : (R : Type) → Env R := Env.addLp (Ev58 N) [52, 1, 26] 1 3 (fun R => lpK Tryz.prog sha1_Of_1_octs_Join_L3_I (fun X c => sha1_Of_1_octs_Join_L3 N X c.1.1 c.1.2.1 c.1.2.2.1 c.1.2.2.2.1 c.1.2.2.2.2.1 c.2.1) N)
theorem Ev59_ok (R : Type) : EnvOK Tryz.prog (Ev59 N R) := EnvOK.addLp (Ev58_ok N R) (by kernel_rfl) (lpK_ok (li := sha1_Of_1_octs_Join_L3_I) (G := fun X c => sha1_Of_1_octs_Join_L3 N X c.1.1 c.1.2.1 c.1.2.2.1 c.1.2.2.2.1 c.1.2.2.2.2.1 c.2.1) hmx (Ev58_ok N _) (by kernel_rfl) loopAt_sub (fun (X : CT sha1_Of_1_octs_Join_L3_I.sh → Option (OT sha1_Of_1_octs_Join_L3_I.outs)) (c : CT sha1_Of_1_octs_Join_L3_I.sh) => sha1_Of_1_octs_Join_L3_S N X c.1.1 c.1.2.1 c.1.2.2.1 c.1.2.2.2.1 c.1.2.2.2.2.1 c.2.1) N)
noncomputable def sha1_Of_1_octs_Join_L9_I : LI := ⟨33, 1, [], ⟨[(6, .lit (.own 1)), (22, .ty (.sl (.sl (.int .u8)))), (23, .ty (.int .i64)), (24, .ty (.int .i64))], [.box 62 (.arr 20 (.int .u8)), .own (.int .u8) 5]⟩, [(.exit 2, ⟨[(6, .lit (.own 1))], [.box 62 (.arr 20 (.int .u8)), .own (.int .u8) 5]⟩)]⟩
noncomputable def sha1_Of_1_octs_Join_L9 (N : Nat) (X : (((List (List Int)) × (Int × (Int × Unit))) × ((Arr Int 20) × ((List Int) × Unit))) → Option ((Unit × ((Arr Int 20) × ((List Int) × Unit))))) (x22 : List (List Int)) (x23 : Int) (x24 : Int) (h0 : Arr Int 20) (h1 : List (Int)) : Option ((Unit × ((Arr Int 20) × ((List Int) × Unit)))) :=
 bif (decide (x24 < x23)) then
  Option.bind (getI x22 x24) fun (v7 : (List Int)) =>
  bif (roomB ((List.length h1) + (List.length v7)) 1) then
   (X ((x22, (x23, ((IntKind.wrap .i64 (x24 + 1)), ()))), (h0, ((h1 ++ v7), ()))))
  else
   none
 else
  some (((), (h0, (h1, ()))))
noncomputable def sha1_Of_1_octs_Join_L9_R (c : (((List (List Int)) × (Int × (Int × Unit))) × ((Arr Int 20) × ((List Int) × Unit)))) : Option ((Unit × ((Arr Int 20) × ((List Int) × Unit)))) := gl (fun X c => sha1_Of_1_octs_Join_L9 N X c.1.1 c.1.2.1 c.1.2.2.1 c.2.1 c.2.2.1) N c
theorem sha1_Of_1_octs_Join_L9_S (X : (((List (List Int)) × (Int × (Int × Unit))) × ((Arr Int 20) × ((List Int) × Unit))) → Option ((Unit × ((Arr Int 20) × ((List Int) × Unit))))) (x22 : List (List Int)) (x23 : Int) (x24 : Int) (h0 : Arr Int 20) (h1 : List (Int)) : (roundK Tryz.prog (Ev59 N) 400 [52, 1, 26] sha1_Of_1_octs_Join_L9_I (loopAt Tryz.prog [52, 1, 26] 9) X ((x22, x23, x24, ()), (h0, h1, ()))).run = sha1_Of_1_octs_Join_L9 N X x22 x23 x24 h0 h1 := by kernel_rfl
noncomputable def Ev60 : (R : Type) → Env R := Env.addLp (Ev59 N) [52, 1, 26] 1 9 (fun R => lpK Tryz.prog sha1_Of_1_octs_Join_L9_I (fun X c => sha1_Of_1_octs_Join_L9 N X c.1.1 c.1.2.1 c.1.2.2.1 c.2.1 c.2.2.1) N)
theorem Ev60_ok (R : Type) : EnvOK Tryz.prog (Ev60 N R) := EnvOK.addLp (Ev59_ok N R) (by kernel_rfl) (lpK_ok (li := sha1_Of_1_octs_Join_L9_I) (G := fun X c => sha1_Of_1_octs_Join_L9 N X c.1.1 c.1.2.1 c.1.2.2.1 c.2.1 c.2.2.1) hmx (Ev59_ok N _) (by kernel_rfl) loopAt_sub (fun (X : CT sha1_Of_1_octs_Join_L9_I.sh → Option (OT sha1_Of_1_octs_Join_L9_I.outs)) (c : CT sha1_Of_1_octs_Join_L9_I.sh) => sha1_Of_1_octs_Join_L9_S N X c.1.1 c.1.2.1 c.1.2.2.1 c.2.1 c.2.2.1) N)
noncomputable def sha1_root (n0 : Int) : Option Int :=
 Option.bind (roots_Root N n0 (2 : Int) (30 : Int)) fun v2 =>
 some ((IntKind.wrap .u32 v2.1))
theorem sha1_root_S (n0 : Int) : (runK Tryz.prog (Ev60 N) 400 82 [(.int .i64)] [(.int .u32)] (n0, ())).run = sha1_root N n0 := by kernel_rfl
noncomputable def Ev61 : (R : Type) → Env R := Env.addFn (Ev60 N) 82 (fun R => fnK [(.int .i64)] [(.int .u32)] (fun c => sha1_root N c.1))
theorem Ev61_ok (R : Type) : EnvOK Tryz.prog (Ev61 N R) := EnvOK.addFn hmx (Ev60_ok N R) (Ev60_ok N _) (by kernel_rfl) (fun c => sha1_root_S N c.1)
noncomputable def sha1_constants : Option (Arr Int 4) :=
 Option.bind (sha1_root N (2 : Int)) fun v1 =>
 Option.bind (sha1_root N (3 : Int)) fun v2 =>
 Option.bind (sha1_root N (5 : Int)) fun v3 =>
 Option.bind (sha1_root N (10 : Int)) fun v4 =>
 some ((@Arr.cons Int (3 : Nat) v1 (@Arr.cons Int (2 : Nat) v2 (@Arr.cons Int (1 : Nat) v3 (@Arr.cons Int (0 : Nat) v4 (@Arr.nil Int))))))
theorem sha1_constants_S : (runK Tryz.prog (Ev61 N) 400 55 [] [(.arr 4 (.int .u32))] ()).run = sha1_constants N  := by kernel_rfl
noncomputable def Ev62 : (R : Type) → Env R := Env.addFn (Ev61 N) 55 (fun R => fnK [] [(.arr 4 (.int .u32))] (fun c => sha1_constants N ))
theorem Ev62_ok (R : Type) : EnvOK Tryz.prog (Ev62 N R) := EnvOK.addFn hmx (Ev61_ok N R) (Ev61_ok N _) (by kernel_rfl) (fun c => sha1_constants_S N )
noncomputable def Ev63 : (R : Type) → Env R := Env.addBx (Ev62 N) [(56, 0)]
theorem Ev63_ok (R : Type) : EnvOK Tryz.prog (Ev63 N R) := EnvOK.addBx (Ev62_ok N R) [(56, 0)]
noncomputable def Ev64 : (R : Type) → Env R := Env.addBx (Ev63 N) [(83, 0)]
theorem Ev64_ok (R : Type) : EnvOK Tryz.prog (Ev64 N R) := EnvOK.addBx (Ev63_ok N R) [(83, 0)]
noncomputable def sha1_words_L3_I : LI := ⟨50, 0, [], ⟨[(1, .adr (.arr 64 (.int .u8))), (2, .lit (.box 0 0)), (3, .lit (.box 1 0)), (7, .ty (.int .i64))], [.box 124 (.arr 80 (.int .u32)), .box 124 (.arr 80 (.int .u32))]⟩, [(.exit 0, ⟨[(2, .lit (.box 0 0)), (3, .lit (.box 1 0))], [.box 124 (.arr 80 (.int .u32)), .box 124 (.arr 80 (.int .u32))]⟩)]⟩
noncomputable def sha1_words_L3 (X : (((Arr Int 64) × (Int × Unit)) × ((Arr Int 80) × ((Arr Int 80) × Unit))) → Option ((Unit × ((Arr Int 80) × ((Arr Int 80) × Unit))))) (b1 : Arr Int 64) (x7 : Int) (h0 : Arr Int 80) (h1 : Arr Int 80) : Option ((Unit × ((Arr Int 80) × ((Arr Int 80) × Unit)))) :=
 bif (decide (x7 < (80 : Int))) then
  bif (decide (x7 < (16 : Int))) then
   Option.bind (subI b1.l (IntKind.wrap .i64 ((4 : Int) * x7)) (IntKind.wrap .i64 ((IntKind.wrap .i64 ((4 : Int) * x7)) + 4))) fun (v6 : (List Int)) =>
   Option.bind (octs_Get N v6 false) fun v7 =>
   bif (decide ((0 : Int) ≤ x7 ∧ x7 < ((80 : Nat) : Int))) then
    Option.bind (h1.l[Int.toNat x7]?) fun (v8 : Int) =>
    (X ((b1, ((IntKind.wrap .i64 (x7 + 1)), ())), (h0, ((h1.set (Int.toNat x7) (IntKind.wrap .u32 v7.1)), ()))))
   else
    none
  else
   bif (decide ((0 : Int) ≤ (IntKind.wrap .i64 (x7 - 3)) ∧ (IntKind.wrap .i64 (x7 - 3)) < ((80 : Nat) : Int))) then
    Option.bind (h1.l[Int.toNat (IntKind.wrap .i64 (x7 - 3))]?) fun (v6 : Int) =>
    bif (decide ((0 : Int) ≤ (IntKind.wrap .i64 (x7 - 8)) ∧ (IntKind.wrap .i64 (x7 - 8)) < ((80 : Nat) : Int))) then
     Option.bind (h1.l[Int.toNat (IntKind.wrap .i64 (x7 - 8))]?) fun (v7 : Int) =>
     bif (decide ((0 : Int) ≤ (IntKind.wrap .i64 (x7 - 14)) ∧ (IntKind.wrap .i64 (x7 - 14)) < ((80 : Nat) : Int))) then
      Option.bind (h1.l[Int.toNat (IntKind.wrap .i64 (x7 - 14))]?) fun (v8 : Int) =>
      bif (decide ((0 : Int) ≤ (IntKind.wrap .i64 (x7 - 16)) ∧ (IntKind.wrap .i64 (x7 - 16)) < ((80 : Nat) : Int))) then
       Option.bind (h1.l[Int.toNat (IntKind.wrap .i64 (x7 - 16))]?) fun (v9 : Int) =>
       bif (decide ((0 : Int) ≤ x7 ∧ x7 < ((80 : Nat) : Int))) then
        Option.bind (h1.l[Int.toNat x7]?) fun (v10 : Int) =>
        (X ((b1, ((IntKind.wrap .i64 (x7 + 1)), ())), (h0, ((h1.set (Int.toNat x7) (bits .or .u32 (IntKind.wrap .u32 ((bits .xor .u32 (bits .xor .u32 (bits .xor .u32 v6 v7) v8) v9) * ((2 : Int) ^ (min (Int.toNat (bits .and .u64 (IntKind.wrap .u64 (1 : Int)) (31 : Int))) (IntKind.bits .u32))))) (@Int.fdiv (bits .xor .u32 (bits .xor .u32 (bits .xor .u32 v6 v7) v8) v9) ((2 : Int) ^ (min (Int.toNat (IntKind.wrap .u64 ((32 : Int) - (bits .and .u64 (IntKind.wrap .u64 (1 : Int)) (31 : Int))))) (IntKind.bits .u32)))))), ()))))
       else
        none
      else
       none
     else
      none
    else
     none
   else
    none
 else
  some (((), (h0, (h1, ()))))
noncomputable def sha1_words_L3_R (c : (((Arr Int 64) × (Int × Unit)) × ((Arr Int 80) × ((Arr Int 80) × Unit)))) : Option ((Unit × ((Arr Int 80) × ((Arr Int 80) × Unit)))) := gl (fun X c => sha1_words_L3 N X c.1.1 c.1.2.1 c.2.1 c.2.2.1) N c
theorem sha1_words_L3_S (X : (((Arr Int 64) × (Int × Unit)) × ((Arr Int 80) × ((Arr Int 80) × Unit))) → Option ((Unit × ((Arr Int 80) × ((Arr Int 80) × Unit))))) (b1 : Arr Int 64) (x7 : Int) (h0 : Arr Int 80) (h1 : Arr Int 80) : (roundK Tryz.prog (Ev64 N) 400 [83] sha1_words_L3_I (loopAt Tryz.prog [83] 3) X ((b1, x7, ()), (h0, h1, ()))).run = sha1_words_L3 N X b1 x7 h0 h1 := by kernel_rfl
noncomputable def Ev65 : (R : Type) → Env R := Env.addLp (Ev64 N) [83] 0 3 (fun R => lpK Tryz.prog sha1_words_L3_I (fun X c => sha1_words_L3 N X c.1.1 c.1.2.1 c.2.1 c.2.2.1) N)
theorem Ev65_ok (R : Type) : EnvOK Tryz.prog (Ev65 N R) := EnvOK.addLp (Ev64_ok N R) (by kernel_rfl) (lpK_ok (li := sha1_words_L3_I) (G := fun X c => sha1_words_L3 N X c.1.1 c.1.2.1 c.2.1 c.2.2.1) hmx (Ev64_ok N _) (by kernel_rfl) loopAt_sub (fun (X : CT sha1_words_L3_I.sh → Option (OT sha1_words_L3_I.outs)) (c : CT sha1_words_L3_I.sh) => sha1_words_L3_S N X c.1.1 c.1.2.1 c.2.1 c.2.2.1) N)
noncomputable def sha1_words (b0 : Arr Int 64) : Option (Arr Int 80) :=
 Option.bind (sha1_words_L3_R N ((b0, ((0 : Int), ())), ((@Arr.cons Int 79 0 (@Arr.cons Int 78 0 (@Arr.cons Int 77 0 (@Arr.cons Int 76 0 (@Arr.cons Int 75 0 (@Arr.cons Int 74 0 (@Arr.cons Int 73 0 (@Arr.cons Int 72 0 (@Arr.cons Int 71 0 (@Arr.cons Int 70 0 (@Arr.cons Int 69 0 (@Arr.cons Int 68 0 (@Arr.cons Int 67 0 (@Arr.cons Int 66 0 (@Arr.cons Int 65 0 (@Arr.cons Int 64 0 (@Arr.cons Int 63 0 (@Arr.cons Int 62 0 (@Arr.cons Int 61 0 (@Arr.cons Int 60 0 (@Arr.cons Int 59 0 (@Arr.cons Int 58 0 (@Arr.cons Int 57 0 (@Arr.cons Int 56 0 (@Arr.cons Int 55 0 (@Arr.cons Int 54 0 (@Arr.cons Int 53 0 (@Arr.cons Int 52 0 (@Arr.cons Int 51 0 (@Arr.cons Int 50 0 (@Arr.cons Int 49 0 (@Arr.cons Int 48 0 (@Arr.cons Int 47 0 (@Arr.cons Int 46 0 (@Arr.cons Int 45 0 (@Arr.cons Int 44 0 (@Arr.cons Int 43 0 (@Arr.cons Int 42 0 (@Arr.cons Int 41 0 (@Arr.cons Int 40 0 (@Arr.cons Int 39 0 (@Arr.cons Int 38 0 (@Arr.cons Int 37 0 (@Arr.cons Int 36 0 (@Arr.cons Int 35 0 (@Arr.cons Int 34 0 (@Arr.cons Int 33 0 (@Arr.cons Int 32 0 (@Arr.cons Int 31 0 (@Arr.cons Int 30 0 (@Arr.cons Int 29 0 (@Arr.cons Int 28 0 (@Arr.cons Int 27 0 (@Arr.cons Int 26 0 (@Arr.cons Int 25 0 (@Arr.cons Int 24 0 (@Arr.cons Int 23 0 (@Arr.cons Int 22 0 (@Arr.cons Int 21 0 (@Arr.cons Int 20 0 (@Arr.cons Int 19 0 (@Arr.cons Int 18 0 (@Arr.cons Int 17 0 (@Arr.cons Int 16 0 (@Arr.cons Int 15 0 (@Arr.cons Int 14 0 (@Arr.cons Int 13 0 (@Arr.cons Int 12 0 (@Arr.cons Int 11 0 (@Arr.cons Int 10 0 (@Arr.cons Int 9 0 (@Arr.cons Int 8 0 (@Arr.cons Int 7 0 (@Arr.cons Int 6 0 (@Arr.cons Int 5 0 (@Arr.cons Int 4 0 (@Arr.cons Int 3 0 (@Arr.cons Int 2 0 (@Arr.cons Int 1 0 (@Arr.cons Int 0 0 (@Arr.nil Int))))))))))))))))))))))))))))))))))))))))))))))))))))))))))))))))))))))))))))))))), ((@Arr.cons Int 79 0 (@Arr.cons Int 78 0 (@Arr.cons Int 77 0 (@Arr.cons Int 76 0 (@Arr.cons Int 75 0 (@Arr.cons Int 74 0 (@Arr.cons Int 73 0 (@Arr.cons Int 72 0 (@Arr.cons Int 71 0 (@Arr.cons Int 70 0 (@Arr.cons Int 69 0 (@Arr.cons Int 68 0 (@Arr.cons Int 67 0 (@Arr.cons Int 66 0 (@Arr.cons Int 65 0 (@Arr.cons Int 64 0 (@Arr.cons Int 63 0 (@Arr.cons Int 62 0 (@Arr.cons Int 61 0 (@Arr.cons Int 60 0 (@Arr.cons Int 59 0 (@Arr.cons Int 58 0 (@Arr.cons Int 57 0 (@Arr.cons Int 56 0 (@Arr.cons Int 55 0 (@Arr.cons Int 54 0 (@Arr.cons Int 53 0 (@Arr.cons Int 52 0 (@Arr.cons Int 51 0 (@Arr.cons Int 50 0 (@Arr.cons Int 49 0 (@Arr.cons Int 48 0 (@Arr.cons Int 47 0 (@Arr.cons Int 46 0 (@Arr.cons Int 45 0 (@Arr.cons Int 44 0 (@Arr.cons Int 43 0 (@Arr.cons Int 42 0 (@Arr.cons Int 41 0 (@Arr.cons Int 40 0 (@Arr.cons Int 39 0 (@Arr.cons Int 38 0 (@Arr.cons Int 37 0 (@Arr.cons Int 36 0 (@Arr.cons Int 35 0 (@Arr.cons Int 34 0 (@Arr.cons Int 33 0 (@Arr.cons Int 32 0 (@Arr.cons Int 31 0 (@Arr.cons Int 30 0 (@Arr.cons Int 29 0 (@Arr.cons Int 28 0 (@Arr.cons Int 27 0 (@Arr.cons Int 26 0 (@Arr.cons Int 25 0 (@Arr.cons Int 24 0 (@Arr.cons Int 23 0 (@Arr.cons Int 22 0 (@Arr.cons Int 21 0 (@Arr.cons Int 20 0 (@Arr.cons Int 19 0 (@Arr.cons Int 18 0 (@Arr.cons Int 17 0 (@Arr.cons Int 16 0 (@Arr.cons Int 15 0 (@Arr.cons Int 14 0 (@Arr.cons Int 13 0 (@Arr.cons Int 12 0 (@Arr.cons Int 11 0 (@Arr.cons Int 10 0 (@Arr.cons Int 9 0 (@Arr.cons Int 8 0 (@Arr.cons Int 7 0 (@Arr.cons Int 6 0 (@Arr.cons Int 5 0 (@Arr.cons Int 4 0 (@Arr.cons Int 3 0 (@Arr.cons Int 2 0 (@Arr.cons Int 1 0 (@Arr.cons Int 0 0 (@Arr.nil Int))))))))))))))))))))))))))))))))))))))))))))))))))))))))))))))))))))))))))))))))), ())))) fun v2 =>
 some (v2.2.2.1)
theorem sha1_words_S (b0 : Arr Int 64) : (runK Tryz.prog (Ev65 N) 400 83 [(.arr 64 (.int .u8))] [(.arr 80 (.int .u32))] (b0, ())).run = sha1_words N b0 := by kernel_rfl
noncomputable def Ev66 : (R : Type) → Env R := Env.addFn (Ev65 N) 83 (fun R => fnK [(.arr 64 (.int .u8))] [(.arr 80 (.int .u32))] (fun c => sha1_words N c.1))
theorem Ev66_ok (R : Type) : EnvOK Tryz.prog (Ev66 N R) := EnvOK.addFn hmx (Ev65_ok N R) (Ev65_ok N _) (by kernel_rfl) (fun c => sha1_words_S N c.1)
noncomputable def sha1_mixed (N : Nat) (r0 : Int) (b1 : Int) (c2 : Int) (d3 : Int) : Option Int :=
 bif (decide (r0 = (0 : Int))) then
  some ((bits .or .u32 (bits .and .u32 b1 c2) (bits .and .u32 (bits .xor .u32 (@ite Int (@Eq Bool (@IntKind.signed @IntKind.u32) true) (@instDecidableEqBool (@IntKind.signed @IntKind.u32) true) (-1 : Int) (@IntKind.max @IntKind.u32)) b1) d3)))
 else
  bif (decide (r0 = (2 : Int))) then
   some ((bits .or .u32 (bits .or .u32 (bits .and .u32 b1 c2) (bits .and .u32 b1 d3)) (bits .and .u32 c2 d3)))
  else
   some ((bits .xor .u32 (bits .xor .u32 b1 c2) d3))
theorem sha1_mixed_S (r0 : Int) (b1 : Int) (c2 : Int) (d3 : Int) : (runK Tryz.prog (Ev66 N) 400 85 [(.int .i64), (.int .u32), (.int .u32), (.int .u32)] [(.int .u32)] (r0, b1, c2, d3, ())).run = sha1_mixed N r0 b1 c2 d3 := by kernel_rfl
noncomputable def Ev67 : (R : Type) → Env R := Env.addFn (Ev66 N) 85 (fun R => fnK [(.int .i64), (.int .u32), (.int .u32), (.int .u32)] [(.int .u32)] (fun c => sha1_mixed N c.1 c.2.1 c.2.2.1 c.2.2.2.1))
theorem Ev67_ok (R : Type) : EnvOK Tryz.prog (Ev67 N R) := EnvOK.addFn hmx (Ev66_ok N R) (Ev66_ok N _) (by kernel_rfl) (fun c => sha1_mixed_S N c.1 c.2.1 c.2.2.1 c.2.2.2.1)
noncomputable def sha1_behind_L4_I : LI := ⟨69, 0, [], ⟨[(3, .adr (.arr 5 (.int .u32))), (5, .adr (.arr 4 (.int .u32))), (6, .lit (.box 0 0)), (7, .lit (.box 1 0)), (8, .lit (.box 2 0)), (16, .ty (.int .i64))], [.box 98 (.arr 5 (.int .u32)), .box 124 (.arr 80 (.int .u32)), .box 98 (.arr 5 (.int .u32))]⟩, [(.exit 0, ⟨[(3, .adr (.arr 5 (.int .u32))), (6, .lit (.box 0 0)), (8, .lit (.box 1 0))], [.box 98 (.arr 5 (.int .u32)), .box 98 (.arr 5 (.int .u32))]⟩)]⟩
noncomputable def sha1_behind_L4 (X : (((Arr Int 5) × ((Arr Int 4) × (Int × Unit))) × ((Arr Int 5) × ((Arr Int 80) × ((Arr Int 5) × Unit)))) → Option ((((Arr Int 5) × Unit) × ((Arr Int 5) × ((Arr Int 5) × Unit))))) (s3 : Arr Int 5) (k5 : Arr Int 4) (x16 : Int) (h0 : Arr Int 5) (h1 : Arr Int 80) (h2 : Arr Int 5) : Option ((((Arr Int 5) × Unit) × ((Arr Int 5) × ((Arr Int 5) × Unit)))) :=
 bif (decide (x16 < (80 : Int))) then
  Option.bind (h2.l[Int.toNat (0 : Int)]?) fun (v8 : Int) =>
  Option.bind (h2.l[Int.toNat (1 : Int)]?) fun (v9 : Int) =>
  Option.bind (h2.l[Int.toNat (2 : Int)]?) fun (v10 : Int) =>
  Option.bind (h2.l[Int.toNat (3 : Int)]?) fun (v11 : Int) =>
  Option.bind (sha1_mixed N (IntKind.wrap .i64 (@Int.tdiv x16 (20 : Int))) v9 v10 v11) fun v12 =>
  Option.bind (h2.l[Int.toNat (4 : Int)]?) fun (v13 : Int) =>
  Option.bind (getI k5.l (IntKind.wrap .i64 (@Int.tdiv x16 (20 : Int)))) fun (v14 : Int) =>
  bif (decide ((0 : Int) ≤ x16 ∧ x16 < ((80 : Nat) : Int))) then
   Option.bind (h1.l[Int.toNat x16]?) fun (v15 : Int) =>
   Option.bind (h2.l[Int.toNat (0 : Int)]?) fun (v16 : Int) =>
   Option.bind (h2.l[Int.toNat (1 : Int)]?) fun (v17 : Int) =>
   Option.bind (h2.l[Int.toNat (2 : Int)]?) fun (v18 : Int) =>
   Option.bind (h2.l[Int.toNat (3 : Int)]?) fun (v19 : Int) =>
   (X ((s3, (k5, ((IntKind.wrap .i64 (x16 + 1)), ()))), (h0, (h1, ((@Arr.cons Int (4 : Nat) (IntKind.wrap .u32 ((IntKind.wrap .u32 ((IntKind.wrap .u32 ((IntKind.wrap .u32 ((bits .or .u32 (IntKind.wrap .u32 (v8 * ((2 : Int) ^ (min (Int.toNat (bits .and .u64 (IntKind.wrap .u64 (5 : Int)) (31 : Int))) (IntKind.bits .u32))))) (@Int.fdiv v8 ((2 : Int) ^ (min (Int.toNat (IntKind.wrap .u64 ((32 : Int) - (bits .and .u64 (IntKind.wrap .u64 (5 : Int)) (31 : Int))))) (IntKind.bits .u32))))) + v12)) + v13)) + v14)) + v15)) (@Arr.cons Int (3 : Nat) v16 (@Arr.cons Int (2 : Nat) (bits .or .u32 (IntKind.wrap .u32 (v17 * ((2 : Int) ^ (min (Int.toNat (bits .and .u64 (IntKind.wrap .u64 (30 : Int)) (31 : Int))) (IntKind.bits .u32))))) (@Int.fdiv v17 ((2 : Int) ^ (min (Int.toNat (IntKind.wrap .u64 ((32 : Int) - (bits .and .u64 (IntKind.wrap .u64 (30 : Int)) (31 : Int))))) (IntKind.bits .u32))))) (@Arr.cons Int (1 : Nat) v18 (@Arr.cons Int (0 : Nat) v19 (@Arr.nil Int)))))), ())))))
  else
   none
 else
  some (((s3, ()), (h0, (h2, ()))))
noncomputable def sha1_behind_L4_R (c : (((Arr Int 5) × ((Arr Int 4) × (Int × Unit))) × ((Arr Int 5) × ((Arr Int 80) × ((Arr Int 5) × Unit))))) : Option ((((Arr Int 5) × Unit) × ((Arr Int 5) × ((Arr Int 5) × Unit)))) := gl (fun X c => sha1_behind_L4 N X c.1.1 c.1.2.1 c.1.2.2.1 c.2.1 c.2.2.1 c.2.2.2.1) N c
theorem sha1_behind_L4_S (X : (((Arr Int 5) × ((Arr Int 4) × (Int × Unit))) × ((Arr Int 5) × ((Arr Int 80) × ((Arr Int 5) × Unit)))) → Option ((((Arr Int 5) × Unit) × ((Arr Int 5) × ((Arr Int 5) × Unit))))) (s3 : Arr Int 5) (k5 : Arr Int 4) (x16 : Int) (h0 : Arr Int 5) (h1 : Arr Int 80) (h2 : Arr Int 5) : (roundK Tryz.prog (Ev67 N) 400 [56] sha1_behind_L4_I (loopAt Tryz.prog [56] 4) X ((s3, k5, x16, ()), (h0, h1, h2, ()))).run = sha1_behind_L4 N X s3 k5 x16 h0 h1 h2 := by kernel_rfl
noncomputable def Ev68 : (R : Type) → Env R := Env.addLp (Ev67 N) [56] 0 4 (fun R => lpK Tryz.prog sha1_behind_L4_I (fun X c => sha1_behind_L4 N X c.1.1 c.1.2.1 c.1.2.2.1 c.2.1 c.2.2.1 c.2.2.2.1) N)
theorem Ev68_ok (R : Type) : EnvOK Tryz.prog (Ev68 N R) := EnvOK.addLp (Ev67_ok N R) (by kernel_rfl) (lpK_ok (li := sha1_behind_L4_I) (G := fun X c => sha1_behind_L4 N X c.1.1 c.1.2.1 c.1.2.2.1 c.2.1 c.2.2.1 c.2.2.2.1) hmx (Ev67_ok N _) (by kernel_rfl) loopAt_sub (fun (X : CT sha1_behind_L4_I.sh → Option (OT sha1_behind_L4_I.outs)) (c : CT sha1_behind_L4_I.sh) => sha1_behind_L4_S N X c.1.1 c.1.2.1 c.1.2.2.1 c.2.1 c.2.2.1 c.2.2.2.1) N)
noncomputable def sha1_behind_L11_I : LI := ⟨69, 0, [], ⟨[(3, .adr (.arr 5 (.int .u32))), (6, .lit (.box 0 0)), (8, .lit (.box 1 0)), (56, .ty (.int .i64))], [.box 98 (.arr 5 (.int .u32)), .box 98 (.arr 5 (.int .u32))]⟩, [(.exit 2, ⟨[(6, .lit (.box 0 0)), (8, .lit (.box 1 0))], [.box 98 (.arr 5 (.int .u32)), .box 98 (.arr 5 (.int .u32))]⟩)]⟩
noncomputable def sha1_behind_L11 (N : Nat) (X : (((Arr Int 5) × (Int × Unit)) × ((Arr Int 5) × ((Arr Int 5) × Unit))) → Option ((Unit × ((Arr Int 5) × ((Arr Int 5) × Unit))))) (s3 : Arr Int 5) (x56 : Int) (h0 : Arr Int 5) (h1 : Arr Int 5) : Option ((Unit × ((Arr Int 5) × ((Arr Int 5) × Unit)))) :=
 bif (decide (x56 < (5 : Int))) then
  bif (decide ((0 : Int) ≤ x56 ∧ x56 < ((5 : Nat) : Int))) then
   Option.bind (h1.l[Int.toNat x56]?) fun (v6 : Int) =>
   Option.bind (getI s3.l x56) fun (v7 : Int) =>
   bif (decide ((0 : Int) ≤ x56 ∧ x56 < ((5 : Nat) : Int))) then
    Option.bind (h1.l[Int.toNat x56]?) fun (v8 : Int) =>
    (X ((s3, ((IntKind.wrap .i64 (x56 + 1)), ())), (h0, ((h1.set (Int.toNat x56) (IntKind.wrap .u32 (v6 + v7))), ()))))
   else
    none
  else
   none
 else
  some (((), (h0, (h1, ()))))
noncomputable def sha1_behind_L11_R (c : (((Arr Int 5) × (Int × Unit)) × ((Arr Int 5) × ((Arr Int 5) × Unit)))) : Option ((Unit × ((Arr Int 5) × ((Arr Int 5) × Unit)))) := gl (fun X c => sha1_behind_L11 N X c.1.1 c.1.2.1 c.2.1 c.2.2.1) N c
theorem sha1_behind_L11_S (X : (((Arr Int 5) × (Int × Unit)) × ((Arr Int 5) × ((Arr Int 5) × Unit))) → Option ((Unit × ((Arr Int 5) × ((Arr Int 5) × Unit))))) (s3 : Arr Int 5) (x56 : Int) (h0 : Arr Int 5) (h1 : Arr Int 5) : (roundK Tryz.prog (Ev68 N) 400 [56] sha1_behind_L11_I (loopAt Tryz.prog [56] 11) X ((s3, x56, ()), (h0, h1, ()))).run = sha1_behind_L11 N X s3 x56 h0 h1 := by kernel_rfl
noncomputable def Ev69 : (R : Type) → Env R := Env.addLp (Ev68 N) [56] 0 11 (fun R => lpK Tryz.prog sha1_behind_L11_I (fun X c => sha1_behind_L11 N X c.1.1 c.1.2.1 c.2.1 c.2.2.1) N)
theorem Ev69_ok (R : Type) : EnvOK Tryz.prog (Ev69 N R) := EnvOK.addLp (Ev68_ok N R) (by kernel_rfl) (lpK_ok (li := sha1_behind_L11_I) (G := fun X c => sha1_behind_L11 N X c.1.1 c.1.2.1 c.2.1 c.2.2.1) hmx (Ev68_ok N _) (by kernel_rfl) loopAt_sub (fun (X : CT sha1_behind_L11_I.sh → Option (OT sha1_behind_L11_I.outs)) (c : CT sha1_behind_L11_I.sh) => sha1_behind_L11_S N X c.1.1 c.1.2.1 c.2.1 c.2.2.1) N)
noncomputable def sha1_behind (s0 : Arr Int 5) (b1 : Arr Int 64) (k2 : Arr Int 4) : Option (Arr Int 5) :=
 Option.bind (sha1_words N b1) fun v4 =>
 Option.bind (sha1_behind_L4_R N ((s0, (k2, ((0 : Int), ()))), ((@Arr.cons Int 4 0 (@Arr.cons Int 3 0 (@Arr.cons Int 2 0 (@Arr.cons Int 1 0 (@Arr.cons Int 0 0 (@Arr.nil Int)))))), (v4, (s0, ()))))) fun v5 =>
 Option.bind (sha1_behind_L11_R N ((v5.1.1, ((0 : Int), ())), (v5.2.1, (v5.2.2.1, ())))) fun v6 =>
 some (v6.2.2.1)
theorem sha1_behind_S (s0 : Arr Int 5) (b1 : Arr Int 64) (k2 : Arr Int 4) : (runK Tryz.prog (Ev69 N) 400 56 [(.arr 5 (.int .u32)), (.arr 64 (.int .u8)), (.arr 4 (.int .u32))] [(.arr 5 (.int .u32))] (s0, b1, k2, ())).run = sha1_behind N s0 b1 k2 := by kernel_rfl
noncomputable def Ev70 : (R : Type) → Env R := Env.addFn (Ev69 N) 56 (fun R => fnK [(.arr 5 (.int .u32)), (.arr 64 (.int .u8)), (.arr 4 (.int .u32))] [(.arr 5 (.int .u32))] (fun c => sha1_behind N c.1 c.2.1 c.2.2.1))
theorem Ev70_ok (R : Type) : EnvOK Tryz.prog (Ev70 N R) := EnvOK.addFn hmx (Ev69_ok N R) (Ev69_ok N _) (by kernel_rfl) (fun c => sha1_behind_S N c.1 c.2.1 c.2.2.1)
noncomputable def sha1_Of_L5_I : LI := ⟨35, 0, [], ⟨[(2, .lit (.box 0 0)), (3, .ty (.sl (.int .u8))), (4, .lit (.box 1 0)), (5, .lit (.box 2 0)), (6, .ty (.int .i64))], [.box 62 (.arr 20 (.int .u8)), .box 98 (.arr 5 (.int .u32)), .box 100 (.arr 4 (.int .u32))]⟩, [(.exit 0, ⟨[(2, .lit (.box 0 0)), (4, .lit (.box 1 0))], [.box 62 (.arr 20 (.int .u8)), .box 98 (.arr 5 (.int .u32))]⟩)]⟩
noncomputable def sha1_Of_L5 (X : (((List Int) × (Int × Unit)) × ((Arr Int 20) × ((Arr Int 5) × ((Arr Int 4) × Unit)))) → Option ((Unit × ((Arr Int 20) × ((Arr Int 5) × Unit))))) (all3 : List (Int)) (i6 : Int) (h0 : Arr Int 20) (h1 : Arr Int 5) (h2 : Arr Int 4) : Option ((Unit × ((Arr Int 20) × ((Arr Int 5) × Unit)))) :=
 bif (decide (i6 < (((List.length all3) : Nat) : Int))) then
  Option.bind (subI all3 i6 (IntKind.wrap .i64 (i6 + 64))) fun (v7 : (List Int)) =>
  Option.bind (@toArr Int (64 : Nat) v7) fun (v8 : (Arr Int 64)) =>
  Option.bind (sha1_behind N h1 v8 h2) fun v9 =>
  (X ((all3, ((IntKind.wrap .i64 (i6 + 64)), ())), (h0, (v9, (h2, ())))))
 else
  some (((), (h0, (h1, ()))))
noncomputable def sha1_Of_L5_R (c : (((List Int) × (Int × Unit)) × ((Arr Int 20) × ((Arr Int 5) × ((Arr Int 4) × Unit))))) : Option ((Unit × ((Arr Int 20) × ((Arr Int 5) × Unit)))) := gl (fun X c => sha1_Of_L5 N X c.1.1 c.1.2.1 c.2.1 c.2.2.1 c.2.2.2.1) N c
theorem sha1_Of_L5_S (X : (((List Int) × (Int × Unit)) × ((Arr Int 20) × ((Arr Int 5) × ((Arr Int 4) × Unit)))) → Option ((Unit × ((Arr Int 20) × ((Arr Int 5) × Unit))))) (all3 : List (Int)) (i6 : Int) (h0 : Arr Int 20) (h1 : Arr Int 5) (h2 : Arr Int 4) : (roundK Tryz.prog (Ev70 N) 400 [26] sha1_Of_L5_I (loopAt Tryz.prog [26] 5) X ((all3, i6, ()), (h0, h1, h2, ()))).run = sha1_Of_L5 N X all3 i6 h0 h1 h2 := by kernel_rfl
noncomputable def Ev71 : (R : Type) → Env R := Env.addLp (Ev70 N) [26] 0 5 (fun R => lpK Tryz.prog sha1_Of_L5_I (fun X c => sha1_Of_L5 N X c.1.1 c.1.2.1 c.2.1 c.2.2.1 c.2.2.2.1) N)
theorem Ev71_ok (R : Type) : EnvOK Tryz.prog (Ev71 N R) := EnvOK.addLp (Ev70_ok N R) (by kernel_rfl) (lpK_ok (li := sha1_Of_L5_I) (G := fun X c => sha1_Of_L5 N X c.1.1 c.1.2.1 c.2.1 c.2.2.1 c.2.2.2.1) hmx (Ev70_ok N _) (by kernel_rfl) loopAt_sub (fun (X : CT sha1_Of_L5_I.sh → Option (OT sha1_Of_L5_I.outs)) (c : CT sha1_Of_L5_I.sh) => sha1_Of_L5_S N X c.1.1 c.1.2.1 c.2.1 c.2.2.1 c.2.2.2.1) N)
noncomputable def Ev72 : (R : Type) → Env R := Env.addBx (Ev71 N) [(57, 0)]
theorem Ev72_ok (R : Type) : EnvOK Tryz.prog (Ev72 N R) := EnvOK.addBx (Ev71_ok N R) [(57, 0)]
noncomputable def sha1_digest_L3_I : LI := ⟨25, 0, [(3, 5)], ⟨[(2, .lit (.box 0 0)), (3, .lit (.own 1)), (8, .ty (.arr 5 (.int .u32))), (9, .ty (.int .i64))], [.box 62 (.arr 20 (.int .u8)), .own (.int .u8) 5]⟩, [(.exit 0, ⟨[(2, .lit (.box 0 0)), (3, .lit (.own 1))], [.box 62 (.arr 20 (.int .u8)), .own (.int .u8) 5]⟩)]⟩
noncomputable def sha1_digest_L3 (X : (((Arr Int 5) × (Int × Unit)) × ((Arr Int 20) × ((List Int) × Unit))) → Option ((Unit × ((Arr Int 20) × ((List Int) × Unit))))) (x8 : Arr Int 5) (x9 : Int) (h0 : Arr Int 20) (h1 : List (Int)) : Option ((Unit × ((Arr Int 20) × ((List Int) × Unit)))) :=
 bif (decide (x9 < (5 : Int))) then
  Option.bind (getI x8.l x9) fun (v6 : Int) =>
  Option.bind (octs_Put N (IntKind.wrap .u64 v6) (4 : Int) false) fun v7 =>
  bif (roomB ((List.length h1) + (List.length v7.1)) 1) then
   (X ((x8, ((IntKind.wrap .i64 (x9 + 1)), ())), (h0, ((h1 ++ v7.1), ()))))
  else
   none
 else
  some (((), (h0, (h1, ()))))
noncomputable def sha1_digest_L3_R (c : (((Arr Int 5) × (Int × Unit)) × ((Arr Int 20) × ((List Int) × Unit)))) : Option ((Unit × ((Arr Int 20) × ((List Int) × Unit)))) := gl (fun X c => sha1_digest_L3 N X c.1.1 c.1.2.1 c.2.1 c.2.2.1) N c
theorem sha1_digest_L3_S (X : (((Arr Int 5) × (Int × Unit)) × ((Arr Int 20) × ((List Int) × Unit))) → Option ((Unit × ((Arr Int 20) × ((List Int) × Unit))))) (x8 : Arr Int 5) (x9 : Int) (h0 : Arr Int 20) (h1 : List (Int)) : (roundK Tryz.prog (Ev72 N) 400 [57] sha1_digest_L3_I (loopAt Tryz.prog [57] 3) X ((x8, x9, ()), (h0, h1, ()))).run = sha1_digest_L3 N X x8 x9 h0 h1 := by kernel_rfl
noncomputable def Ev73 : (R : Type) → Env R := Env.addLp (Ev72 N) [57] 0 3 (fun R => lpK Tryz.prog sha1_digest_L3_I (fun X c => sha1_digest_L3 N X c.1.1 c.1.2.1 c.2.1 c.2.2.1) N)
theorem Ev73_ok (R : Type) : EnvOK Tryz.prog (Ev73 N R) := EnvOK.addLp (Ev72_ok N R) (by kernel_rfl) (lpK_ok (li := sha1_digest_L3_I) (G := fun X c => sha1_digest_L3 N X c.1.1 c.1.2.1 c.2.1 c.2.2.1) hmx (Ev72_ok N _) (by kernel_rfl) loopAt_sub (fun (X : CT sha1_digest_L3_I.sh → Option (OT sha1_digest_L3_I.outs)) (c : CT sha1_digest_L3_I.sh) => sha1_digest_L3_S N X c.1.1 c.1.2.1 c.2.1 c.2.2.1) N)
noncomputable def sha1_digest (s0 : Arr Int 5) : Option (Arr Int 20) :=
 Option.bind (sha1_digest_L3_R N ((s0, ((0 : Int), ())), ((@Arr.cons Int 19 0 (@Arr.cons Int 18 0 (@Arr.cons Int 17 0 (@Arr.cons Int 16 0 (@Arr.cons Int 15 0 (@Arr.cons Int 14 0 (@Arr.cons Int 13 0 (@Arr.cons Int 12 0 (@Arr.cons Int 11 0 (@Arr.cons Int 10 0 (@Arr.cons Int 9 0 (@Arr.cons Int 8 0 (@Arr.cons Int 7 0 (@Arr.cons Int 6 0 (@Arr.cons Int 5 0 (@Arr.cons Int 4 0 (@Arr.cons Int 3 0 (@Arr.cons Int 2 0 (@Arr.cons Int 1 0 (@Arr.cons Int 0 0 (@Arr.nil Int))))))))))))))))))))), (([] : List Int), ())))) fun v2 =>
 Option.bind (@toArr Int (20 : Nat) v2.2.2.1) fun (v3 : (Arr Int 20)) =>
 some (v3)
theorem sha1_digest_S (s0 : Arr Int 5) : (runK Tryz.prog (Ev73 N) 400 57 [(.arr 5 (.int .u32))] [(.arr 20 (.int .u8))] (s0, ())).run = sha1_digest N s0 := by kernel_rfl
noncomputable def Ev74 : (R : Type) → Env R := Env.addFn (Ev73 N) 57 (fun R => fnK [(.arr 5 (.int .u32))] [(.arr 20 (.int .u8))] (fun c => sha1_digest N c.1))
theorem Ev74_ok (R : Type) : EnvOK Tryz.prog (Ev74 N R) := EnvOK.addFn hmx (Ev73_ok N R) (Ev73_ok N _) (by kernel_rfl) (fun c => sha1_digest_S N c.1)
noncomputable def sha1_Of (parts0 : List (List Int)) : Option (Arr Int 20) :=
 Option.bind (sha1_Of_1_octs_Join_L3_R N ((parts0, ((0 : Int), (parts0, ((((List.length parts0) : Nat) : Int), ((0 : Int), ()))))), ((@Arr.cons Int 19 0 (@Arr.cons Int 18 0 (@Arr.cons Int 17 0 (@Arr.cons Int 16 0 (@Arr.cons Int 15 0 (@Arr.cons Int 14 0 (@Arr.cons Int 13 0 (@Arr.cons Int 12 0 (@Arr.cons Int 11 0 (@Arr.cons Int 10 0 (@Arr.cons Int 9 0 (@Arr.cons Int 8 0 (@Arr.cons Int 7 0 (@Arr.cons Int 6 0 (@Arr.cons Int 5 0 (@Arr.cons Int 4 0 (@Arr.cons Int 3 0 (@Arr.cons Int 2 0 (@Arr.cons Int 1 0 (@Arr.cons Int 0 0 (@Arr.nil Int))))))))))))))))))))), ()))) fun v2 =>
 bif ((decide ((0 : Int) ≤ (0 : Int) ∧ (0 : Int) ≤ v2.1.2.1)) && (roomB (Int.toNat v2.1.2.1) 1)) then
  Option.bind (sha1_Of_1_octs_Join_L9_R N ((v2.1.1, ((((List.length v2.1.1) : Nat) : Int), ((0 : Int), ()))), (v2.2.1, ((@List.replicate Int (Int.toNat (0 : Int)) (0 : Int)), ())))) fun v3 =>
  Option.bind (sha1_Tail N (IntKind.wrap .u64 (((List.length v3.2.2.1) : Nat) : Int))) fun v4 =>
  bif (roomB ((List.length v3.2.2.1) + (List.length v4)) 1) then
   Option.bind (@sha1_constants N) fun (v5 : (Arr Int 4)) =>
   Option.bind (sha1_Of_L5_R N (((v3.2.2.1 ++ v4), ((0 : Int), ())), (v3.2.1, ((@Arr.cons Int 4 1732584193 (@Arr.cons Int 3 4023233417 (@Arr.cons Int 2 2562383102 (@Arr.cons Int 1 271733878 (@Arr.cons Int 0 3285377520 (@Arr.nil Int)))))), (v5, ()))))) fun v6 =>
   Option.bind (sha1_digest N v6.2.2.1) fun v7 =>
   some (v7)
  else
   none
 else
  none
theorem sha1_Of_S (parts0 : List (List Int)) : (runK Tryz.prog (Ev74 N) 400 26 [(.sl (.sl (.int .u8)))] [(.arr 20 (.int .u8))] (parts0, ())).run = sha1_Of N parts0 := by kernel_rfl
noncomputable def Ev75 : (R : Type) → Env R := Env.addFn (Ev74 N) 26 (fun R => fnK [(.sl (.sl (.int .u8)))] [(.arr 20 (.int .u8))] (fun c => sha1_Of N c.1))
theorem Ev75_ok (R : Type) : EnvOK Tryz.prog (Ev75 N R) := EnvOK.addFn hmx (Ev74_ok N R) (Ev74_ok N _) (by kernel_rfl) (fun c => sha1_Of_S N c.1)
noncomputable def Ev76 : (R : Type) → Env R := Env.addBx (Ev75 N) [(70, 0)]
theorem Ev76_ok (R : Type) : EnvOK Tryz.prog (Ev76 N R) := EnvOK.addBx (Ev75_ok N R) [(70, 0)]
noncomputable def ref05_turn (N : Nat) (x0 : Int) (n1 : Int) : Option Int :=
 bif (decide ((0 : Int) ≤ n1)) then
  bif (decide ((0 : Int) ≤ (IntKind.wrap .i64 ((32 : Int) - n1)))) then
   some ((bits .or .u32 (IntKind.wrap .u32 (x0 * ((2 : Int) ^ (min (Int.toNat n1) (IntKind.bits .u32))))) (@Int.fdiv x0 ((2 : Int) ^ (min (Int.toNat (IntKind.wrap .i64 ((32 : Int) - n1))) (IntKind.bits .u32))))))
  else
   none
 else
  none
theorem ref05_turn_S (x0 : Int) (n1 : Int) : (runK Tryz.prog (Ev76 N) 400 104 [(.int .u32), (.int .i64)] [(.int .u32)] (x0, n1, ())).run = ref05_turn N x0 n1 := by kernel_rfl
noncomputable def Ev77 : (R : Type) → Env R := Env.addFn (Ev76 N) 104 (fun R => fnK [(.int .u32), (.int .i64)] [(.int .u32)] (fun c => ref05_turn N c.1 c.2.1))
theorem Ev77_ok (R : Type) : EnvOK Tryz.prog (Ev77 N R) := EnvOK.addFn hmx (Ev76_ok N R) (Ev76_ok N _) (by kernel_rfl) (fun c => ref05_turn_S N c.1 c.2.1)
noncomputable def ref05_Block_L3_I : LI := ⟨118, 0, [], ⟨[(2, .adr (.arr 5 (.int .u32))), (3, .adr (.arr 64 (.int .u8))), (4, .lit (.box 0 0)), (5, .lit (.box 1 0)), (6, .ty (.int .i64))], [.box 97 (.arr 5 (.int .u32)), .box 124 (.arr 80 (.int .u32))]⟩, [(.exit 0, ⟨[(2, .adr (.arr 5 (.int .u32))), (4, .lit (.box 0 0)), (5, .lit (.box 1 0))], [.box 97 (.arr 5 (.int .u32)), .box 124 (.arr 80 (.int .u32))]⟩)]⟩
noncomputable def ref05_Block_L3 (N : Nat) (X : (((Arr Int 5) × ((Arr Int 64) × (Int × Unit))) × ((Arr Int 5) × ((Arr Int 80) × Unit))) → Option ((((Arr Int 5) × Unit) × ((Arr Int 5) × ((Arr Int 80) × Unit))))) (s2 : Arr Int 5) (block3 : Arr Int 64) (i6 : Int) (h0 : Arr Int 5) (h1 : Arr Int 80) : Option ((((Arr Int 5) × Unit) × ((Arr Int 5) × ((Arr Int 80) × Unit)))) :=
 bif (decide (i6 < (80 : Int))) then
  bif (decide (i6 < (16 : Int))) then
   Option.bind (getI block3.l (IntKind.wrap .i64 ((4 : Int) * i6))) fun (v7 : Int) =>
   Option.bind (getI block3.l (IntKind.wrap .i64 ((IntKind.wrap .i64 ((4 : Int) * i6)) + 1))) fun (v8 : Int) =>
   Option.bind (getI block3.l (IntKind.wrap .i64 ((IntKind.wrap .i64 ((4 : Int) * i6)) + 2))) fun (v9 : Int) =>
   Option.bind (getI block3.l (IntKind.wrap .i64 ((IntKind.wrap .i64 ((4 : Int) * i6)) + 3))) fun (v10 : Int) =>
   bif (decide ((0 : Int) ≤ i6 ∧ i6 < ((80 : Nat) : Int))) then
    Option.bind (h1.l[Int.toNat i6]?) fun (v11 : Int) =>
    (X ((s2, (block3, ((IntKind.wrap .i64 (i6 + 1)), ()))), (h0, ((h1.set (Int.toNat i6) (IntKind.wrap .u32 ((IntKind.wrap .u32 ((IntKind.wrap .u32 ((IntKind.wrap .u32 ((IntKind.wrap .u32 v7) * (16777216 : Int))) + (IntKind.wrap .u32 ((IntKind.wrap .u32 v8) * (65536 : Int))))) + (IntKind.wrap .u32 ((IntKind.wrap .u32 v9) * (256 : Int))))) + (IntKind.wrap .u32 v10)))), ()))))
   else
    none
  else
   bif (decide ((0 : Int) ≤ (IntKind.wrap .i64 (i6 - 3)) ∧ (IntKind.wrap .i64 (i6 - 3)) < ((80 : Nat) : Int))) then
    Option.bind (h1.l[Int.toNat (IntKind.wrap .i64 (i6 - 3))]?) fun (v7 : Int) =>
    bif (decide ((0 : Int) ≤ (IntKind.wrap .i64 (i6 - 8)) ∧ (IntKind.wrap .i64 (i6 - 8)) < ((80 : Nat) : Int))) then
     Option.bind (h1.l[Int.toNat (IntKind.wrap .i64 (i6 - 8))]?) fun (v8 : Int) =>
     bif (decide ((0 : Int) ≤ (IntKind.wrap .i64 (i6 - 14)) ∧ (IntKind.wrap .i64 (i6 - 14)) < ((80 : Nat) : Int))) then
      Option.bind (h1.l[Int.toNat (IntKind.wrap .i64 (i6 - 14))]?) fun (v9 : Int) =>
      bif (decide ((0 : Int) ≤ (IntKind.wrap .i64 (i6 - 16)) ∧ (IntKind.wrap .i64 (i6 - 16)) < ((80 : Nat) : Int))) then
       Option.bind (h1.l[Int.toNat (IntKind.wrap .i64 (i6 - 16))]?) fun (v10 : Int) =>
       bif (decide ((0 : Int) ≤ i6 ∧ i6 < ((80 : Nat) : Int))) then
        Option.bind (h1.l[Int.toNat i6]?) fun (v11 : Int) =>
        (X ((s2, (block3, ((IntKind.wrap .i64 (i6 + 1)), ()))), (h0, ((h1.set (Int.toNat i6) (bits .or .u32 (IntKind.wrap .u32 ((bits .xor .u32 (bits .xor .u32 (bits .xor .u32 v7 v8) v9) v10) * ((2 : Int) ^ (min (Int.toNat (1 : Int)) (IntKind.bits .u32))))) (@Int.fdiv (bits .xor .u32 (bits .xor .u32 (bits .xor .u32 v7 v8) v9) v10) ((2 : Int) ^ (min (Int.toNat (IntKind.wrap .i64 ((32 : Int) - 1))) (IntKind.bits .u32)))))), ()))))
       else
        none
      else
       none
     else
      none
    else
     none
   else
    none
 else
  some (((s2, ()), (h0, (h1, ()))))
noncomputable def ref05_Block_L3_R (c : (((Arr Int 5) × ((Arr Int 64) × (Int × Unit))) × ((Arr Int 5) × ((Arr Int 80) × Unit)))) : Option ((((Arr Int 5) × Unit) × ((Arr Int 5) × ((Arr Int 80) × Unit)))) := gl (fun X c => ref05_Block_L3 N X c.1.1 c.1.2.1 c.1.2.2.1 c.2.1 c.2.2.1) N c
theorem ref05_Block_L3_S (X : (((Arr Int 5) × ((Arr Int 64) × (Int × Unit))) × ((Arr Int 5) × ((Arr Int 80) × Unit))) → Option ((((Arr Int 5) × Unit) × ((Arr Int 5) × ((Arr Int 80) × Unit))))) (s2 : Arr Int 5) (block3 : Arr Int 64) (i6 : Int) (h0 : Arr Int 5) (h1 : Arr Int 80) : (roundK Tryz.prog (Ev77 N) 400 [70] ref05_Block_L3_I (loopAt Tryz.prog [70] 3) X ((s2, block3, i6, ()), (h0, h1, ()))).run = ref05_Block_L3 N X s2 block3 i6 h0 h1 := by kernel_rfl
noncomputable def Ev78 : (R : Type) → Env R := Env.addLp (Ev77 N) [70] 0 3 (fun R => lpK Tryz.prog ref05_Block_L3_I (fun X c => ref05_Block_L3 N X c.1.1 c.1.2.1 c.1.2.2.1 c.2.1 c.2.2.1) N)
theorem Ev78_ok (R : Type) : EnvOK Tryz.prog (Ev78 N R) := EnvOK.addLp (Ev77_ok N R) (by kernel_rfl) (lpK_ok (li := ref05_Block_L3_I) (G := fun X c => ref05_Block_L3 N X c.1.1 c.1.2.1 c.1.2.2.1 c.2.1 c.2.2.1) hmx (Ev77_ok N _) (by kernel_rfl) loopAt_sub (fun (X : CT ref05_Block_L3_I.sh → Option (OT ref05_Block_L3_I.outs)) (c : CT ref05_Block_L3_I.sh) => ref05_Block_L3_S N X c.1.1 c.1.2.1 c.1.2.2.1 c.2.1 c.2.2.1) N)
noncomputable def ref05_mix (N : Nat) (i0 : Int) (b1 : Int) (c2 : Int) (d3 : Int) : Option Int :=
 bif (decide ((IntKind.wrap .i64 (@Int.tdiv i0 (20 : Int))) = (0 : Int))) then
  some ((IntKind.wrap .u32 ((bits .or .u32 (bits .and .u32 b1 c2) (bits .and .u32 (IntKind.wrap .u32 ((4294967295 : Int) - b1)) d3)) + 1518500249)))
 else
  bif (decide ((IntKind.wrap .i64 (@Int.tdiv i0 (20 : Int))) = (1 : Int))) then
   some ((IntKind.wrap .u32 ((bits .xor .u32 (bits .xor .u32 b1 c2) d3) + 1859775393)))
  else
   bif (decide ((IntKind.wrap .i64 (@Int.tdiv i0 (20 : Int))) = (2 : Int))) then
    some ((IntKind.wrap .u32 ((bits .or .u32 (bits .or .u32 (bits .and .u32 b1 c2) (bits .and .u32 b1 d3)) (bits .and .u32 c2 d3)) + 2400959708)))
   else
    some ((IntKind.wrap .u32 ((bits .xor .u32 (bits .xor .u32 b1 c2) d3) + 3395469782)))
theorem ref05_mix_S (i0 : Int) (b1 : Int) (c2 : Int) (d3 : Int) : (runK Tryz.prog (Ev78 N) 400 105 [(.int .i64), (.int .u32), (.int .u32), (.int .u32)] [(.int .u32)] (i0, b1, c2, d3, ())).run = ref05_mix N i0 b1 c2 d3 := by kernel_rfl
noncomputable def Ev79 : (R : Type) → Env R := Env.addFn (Ev78 N) 105 (fun R => fnK [(.int .i64), (.int .u32), (.int .u32), (.int .u32)] [(.int .u32)] (fun c => ref05_mix N c.1 c.2.1 c.2.2.1 c.2.2.2.1))
theorem Ev79_ok (R : Type) : EnvOK Tryz.prog (Ev79 N R) := EnvOK.addFn hmx (Ev78_ok N R) (Ev78_ok N _) (by kernel_rfl) (fun c => ref05_mix_S N c.1 c.2.1 c.2.2.1 c.2.2.2.1)
noncomputable def ref05_Block_L10_I : LI := ⟨118, 0, [], ⟨[(2, .adr (.arr 5 (.int .u32))), (4, .lit (.box 0 0)), (5, .lit (.box 1 0)), (7, .lit (.box 2 0)), (8, .ty (.int .i64))], [.box 97 (.arr 5 (.int .u32)), .box 124 (.arr 80 (.int .u32)), .box 97 (.arr 5 (.int .u32))]⟩, [(.exit 2, ⟨[(2, .adr (.arr 5 (.int .u32))), (4, .lit (.box 0 0)), (7, .lit (.box 1 0))], [.box 97 (.arr 5 (.int .u32)), .box 97 (.arr 5 (.int .u32))]⟩)]⟩
noncomputable def ref05_Block_L10 (X : (((Arr Int 5) × (Int × Unit)) × ((Arr Int 5) × ((Arr Int 80) × ((Arr Int 5) × Unit)))) → Option ((((Arr Int 5) × Unit) × ((Arr Int 5) × ((Arr Int 5) × Unit))))) (s2 : Arr Int 5) (i8 : Int) (h0 : Arr Int 5) (h1 : Arr Int 80) (h2 : Arr Int 5) : Option ((((Arr Int 5) × Unit) × ((Arr Int 5) × ((Arr Int 5) × Unit)))) :=
 bif (decide (i8 < (80 : Int))) then
  Option.bind (h2.l[Int.toNat (0 : Int)]?) fun (v7 : Int) =>
  Option.bind (h2.l[Int.toNat (1 : Int)]?) fun (v8 : Int) =>
  Option.bind (h2.l[Int.toNat (2 : Int)]?) fun (v9 : Int) =>
  Option.bind (h2.l[Int.toNat (3 : Int)]?) fun (v10 : Int) =>
  Option.bind (ref05_mix N i8 v8 v9 v10) fun v11 =>
  Option.bind (h2.l[Int.toNat (4 : Int)]?) fun (v12 : Int) =>
  bif (decide ((0 : Int) ≤ i8 ∧ i8 < ((80 : Nat) : Int))) then
   Option.bind (h1.l[Int.toNat i8]?) fun (v13 : Int) =>
   Option.bind (h2.l[Int.toNat (0 : Int)]?) fun (v14 : Int) =>
   Option.bind (h2.l[Int.toNat (1 : Int)]?) fun (v15 : Int) =>
   Option.bind (h2.l[Int.toNat (2 : Int)]?) fun (v16 : Int) =>
   Option.bind (h2.l[Int.toNat (3 : Int)]?) fun (v17 : Int) =>
   (X ((s2, ((IntKind.wrap .i64 (i8 + 1)), ())), (h0, (h1, ((@Arr.cons Int (4 : Nat) (IntKind.wrap .u32 ((IntKind.wrap .u32 ((IntKind.wrap .u32 ((bits .or .u32 (IntKind.wrap .u32 (v7 * ((2 : Int) ^ (min (Int.toNat (5 : Int)) (IntKind.bits .u32))))) (@Int.fdiv v7 ((2 : Int) ^ (min (Int.toNat (IntKind.wrap .i64 ((32 : Int) - 5))) (IntKind.bits .u32))))) + v11)) + v12)) + v13)) (@Arr.cons Int (3 : Nat) v14 (@Arr.cons Int (2 : Nat) (bits .or .u32 (IntKind.wrap .u32 (v15 * ((2 : Int) ^ (min (Int.toNat (30 : Int)) (IntKind.bits .u32))))) (@Int.fdiv v15 ((2 : Int) ^ (min (Int.toNat (IntKind.wrap .i64 ((32 : Int) - 30))) (IntKind.bits .u32))))) (@Arr.cons Int (1 : Nat) v16 (@Arr.cons Int (0 : Nat) v17 (@Arr.nil Int)))))), ())))))
  else
   none
 else
  some (((s2, ()), (h0, (h2, ()))))
noncomputable def ref05_Block_L10_R (c : (((Arr Int 5) × (Int × Unit)) × ((Arr Int 5) × ((Arr Int 80) × ((Arr Int 5) × Unit))))) : Option ((((Arr Int 5) × Unit) × ((Arr Int 5) × ((Arr Int 5) × Unit)))) := gl (fun X c => ref05_Block_L10 N X c.1.1 c.1.2.1 c.2.1 c.2.2.1 c.2.2.2.1) N c
theorem ref05_Block_L10_S (X : (((Arr Int 5) × (Int × Unit)) × ((Arr Int 5) × ((Arr Int 80) × ((Arr Int 5) × Unit)))) → Option ((((Arr Int 5) × Unit) × ((Arr Int 5) × ((Arr Int 5) × Unit))))) (s2 : Arr Int 5) (i8 : Int) (h0 : Arr Int 5) (h1 : Arr Int 80) (h2 : Arr Int 5) : (roundK Tryz.prog (Ev79 N) 400 [70] ref05_Block_L10_I (loopAt Tryz.prog [70] 10) X ((s2, i8, ()), (h0, h1, h2, ()))).run = ref05_Block_L10 N X s2 i8 h0 h1 h2 := by kernel_rfl
noncomputable def Ev80 : (R : Type) → Env R := Env.addLp (Ev79 N) [70] 0 10 (fun R => lpK Tryz.prog ref05_Block_L10_I (fun X c => ref05_Block_L10 N X c.1.1 c.1.2.1 c.2.1 c.2.2.1 c.2.2.2.1) N)
theorem Ev80_ok (R : Type) : EnvOK Tryz.prog (Ev80 N R) := EnvOK.addLp (Ev79_ok N R) (by kernel_rfl) (lpK_ok (li := ref05_Block_L10_I) (G := fun X c => ref05_Block_L10 N X c.1.1 c.1.2.1 c.2.1 c.2.2.1 c.2.2.2.1) hmx (Ev79_ok N _) (by kernel_rfl) loopAt_sub (fun (X : CT ref05_Block_L10_I.sh → Option (OT ref05_Block_L10_I.outs)) (c : CT ref05_Block_L10_I.sh) => ref05_Block_L10_S N X c.1.1 c.1.2.1 c.2.1 c.2.2.1 c.2.2.2.1) N)
noncomputable def ref05_Block_L15_I : LI := ⟨118, 0, [], ⟨[(2, .adr (.arr 5 (.int .u32))), (4, .lit (.box 0 0)), (7, .lit (.box 1 0)), (10, .ty (.int .i64))], [.box 97 (.arr 5 (.int .u32)), .box 97 (.arr 5 (.int .u32))]⟩, [(.exit 4, ⟨[(4, .lit (.box 0 0)), (7, .lit (.box 1 0))], [.box 97 (.arr 5 (.int .u32)), .box 97 (.arr 5 (.int .u32))]⟩)]⟩
noncomputable def ref05_Block_L15 (N : Nat) (X : (((Arr Int 5) × (Int × Unit)) × ((Arr Int 5) × ((Arr Int 5) × Unit))) → Option ((Unit × ((Arr Int 5) × ((Arr Int 5) × Unit))))) (s2 : Arr Int 5) (i10 : Int) (h0 : Arr Int 5) (h1 : Arr Int 5) : Option ((Unit × ((Arr Int 5) × ((Arr Int 5) × Unit)))) :=
 bif (decide (i10 < (5 : Int))) then
  bif (decide ((0 : Int) ≤ i10 ∧ i10 < ((5 : Nat) : Int))) then
   Option.bind (h1.l[Int.toNat i10]?) fun (v6 : Int) =>
   Option.bind (getI s2.l i10) fun (v7 : Int) =>
   bif (decide ((0 : Int) ≤ i10 ∧ i10 < ((5 : Nat) : Int))) then
    Option.bind (h1.l[Int.toNat i10]?) fun (v8 : Int) =>
    (X ((s2, ((IntKind.wrap .i64 (i10 + 1)), ())), (h0, ((h1.set (Int.toNat i10) (IntKind.wrap .u32 (v6 + v7))), ()))))
   else
    none
  else
   none
 else
  some (((), (h0, (h1, ()))))
noncomputable def ref05_Block_L15_R (c : (((Arr Int 5) × (Int × Unit)) × ((Arr Int 5) × ((Arr Int 5) × Unit)))) : Option ((Unit × ((Arr Int 5) × ((Arr Int 5) × Unit)))) := gl (fun X c => ref05_Block_L15 N X c.1.1 c.1.2.1 c.2.1 c.2.2.1) N c
theorem ref05_Block_L15_S (X : (((Arr Int 5) × (Int × Unit)) × ((Arr Int 5) × ((Arr Int 5) × Unit))) → Option ((Unit × ((Arr Int 5) × ((Arr Int 5) × Unit))))) (s2 : Arr Int 5) (i10 : Int) (h0 : Arr Int 5) (h1 : Arr Int 5) : (roundK Tryz.prog (Ev80 N) 400 [70] ref05_Block_L15_I (loopAt Tryz.prog [70] 15) X ((s2, i10, ()), (h0, h1, ()))).run = ref05_Block_L15 N X s2 i10 h0 h1 := by kernel_rfl
noncomputable def Ev81 : (R : Type) → Env R := Env.addLp (Ev80 N) [70] 0 15 (fun R => lpK Tryz.prog ref05_Block_L15_I (fun X c => ref05_Block_L15 N X c.1.1 c.1.2.1 c.2.1 c.2.2.1) N)
theorem Ev81_ok (R : Type) : EnvOK Tryz.prog (Ev81 N R) := EnvOK.addLp (Ev80_ok N R) (by kernel_rfl) (lpK_ok (li := ref05_Block_L15_I) (G := fun X c => ref05_Block_L15 N X c.1.1 c.1.2.1 c.2.1 c.2.2.1) hmx (Ev80_ok N _) (by kernel_rfl) loopAt_sub (fun (X : CT ref05_Block_L15_I.sh → Option (OT ref05_Block_L15_I.outs)) (c : CT ref05_Block_L15_I.sh) => ref05_Block_L15_S N X c.1.1 c.1.2.1 c.2.1 c.2.2.1) N)
end
end Go.Proofs.YtfeggmghkhejcaaGreatDoor
