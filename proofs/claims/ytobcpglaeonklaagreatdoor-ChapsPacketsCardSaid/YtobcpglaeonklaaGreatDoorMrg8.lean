/-
  Parts of my own, one behind the other: Pe, GCkA.
-/
import Derived.Test.YtobcpglaeonklaaGreatDoorMrg6
import Derived.Test.YtobcpglaeonklaaGreatDoorMrg7
namespace Go.Proofs.YtobcpglaeonklaaGreatDoor
open Go.RowKit
set_option linter.unusedVariables false
set_option maxRecDepth 100000
section
variable (N : Nat)
theorem hmx : Tryz.prog.follows .mixedOrders = true := by kernel_rfl
noncomputable def Ev0 (N : Nat) : (R : Type) → Env R := Env.addInl env0 [30, 129, 128, 97, 98, 85, 115]
theorem Ev0_ok (R : Type) : EnvOK Tryz.prog (Ev0 N R) := EnvOK.addInl (env0_ok R) (by kernel_rfl)
noncomputable def Ev1 : (R : Type) → Env R := Env.addMv (Ev0 N) [(97, 3)]
theorem Ev1_ok (R : Type) : EnvOK Tryz.prog (Ev1 N R) := EnvOK.addMv (Ev0_ok N R) [(97, 3)]
noncomputable def Ev2 : (R : Type) → Env R := Env.addMv (Ev1 N) [(115, 4)]
theorem Ev2_ok (R : Type) : EnvOK Tryz.prog (Ev2 N R) := EnvOK.addMv (Ev1_ok N R) [(115, 4)]
noncomputable def Ev3 : (R : Type) → Env R := Env.addBx (Ev2 N) [(27, 0)]
theorem Ev3_ok (R : Type) : EnvOK Tryz.prog (Ev3 N R) := EnvOK.addBx (Ev2_ok N R) [(27, 0)]
noncomputable def Ev4 : (R : Type) → Env R := Env.addMv (Ev3 N) [(31, 3)]
theorem Ev4_ok (R : Type) : EnvOK Tryz.prog (Ev4 N R) := EnvOK.addMv (Ev3_ok N R) [(31, 3)]
noncomputable def roots_may (N : Nat) (n0 : Int) (degree1 : Int) (bits2 : Int) : Option Bool :=
 Option.bind (bif (decide ((0 : Int) ≤ n0)) then
   some ((cond true (decide (n0 ≤ (1000 : Int))) false))
  else
   some (false)) fun (v4 : Bool) =>
 Option.bind (bif v4 then
   bif (decide (degree1 = (2 : Int))) then
    some ((cond true true false))
   else
    some ((cond true (cond false true (decide (degree1 = (3 : Int)))) false))
  else
   some (false)) fun (v5 : Bool) =>
 Option.bind (bif v5 then
   some ((cond true (decide ((0 : Int) ≤ bits2)) false))
  else
   some (false)) fun (v6 : Bool) =>
 Option.bind (bif v6 then
   some ((cond true (decide (bits2 ≤ (32 : Int))) false))
  else
   some (false)) fun (v7 : Bool) =>
 some (v7)
theorem roots_may_S (n0 : Int) (degree1 : Int) (bits2 : Int) : (runK Tryz.prog (Ev4 N) 400 112 [(.int .i64), (.int .i64), (.int .i64)] [.bool] (n0, degree1, bits2, ())).run = roots_may N n0 degree1 bits2 := by kernel_rfl
noncomputable def Ev5 : (R : Type) → Env R := Env.addFn (Ev4 N) 112 (fun R => fnK [(.int .i64), (.int .i64), (.int .i64)] [.bool] (fun c => roots_may N c.1 c.2.1 c.2.2.1))
theorem Ev5_ok (R : Type) : EnvOK Tryz.prog (Ev5 N R) := EnvOK.addFn hmx (Ev4_ok N R) (Ev4_ok N _) (by kernel_rfl) (fun c => roots_may_S N c.1 c.2.1 c.2.2.1)
noncomputable def math_bits_Mul64 (N : Nat) (x0 : Int) (y1 : Int) : Option (Int × Int) :=
 some (((IntKind.wrap .u64 ((IntKind.wrap .u64 ((IntKind.wrap .u64 ((@Int.fdiv x0 ((2 : Int) ^ (min (Int.toNat (32 : Int)) (IntKind.bits .u64)))) * (@Int.fdiv y1 ((2 : Int) ^ (min (Int.toNat (32 : Int)) (IntKind.bits .u64)))))) + (@Int.fdiv (IntKind.wrap .u64 ((IntKind.wrap .u64 ((@Int.fdiv x0 ((2 : Int) ^ (min (Int.toNat (32 : Int)) (IntKind.bits .u64)))) * (bits .and .u64 y1 (4294967295 : Int)))) + (@Int.fdiv (IntKind.wrap .u64 ((bits .and .u64 x0 (4294967295 : Int)) * (bits .and .u64 y1 (4294967295 : Int)))) ((2 : Int) ^ (min (Int.toNat (32 : Int)) (IntKind.bits .u64)))))) ((2 : Int) ^ (min (Int.toNat (32 : Int)) (IntKind.bits .u64)))))) + (@Int.fdiv (IntKind.wrap .u64 ((bits .and .u64 (IntKind.wrap .u64 ((IntKind.wrap .u64 ((@Int.fdiv x0 ((2 : Int) ^ (min (Int.toNat (32 : Int)) (IntKind.bits .u64)))) * (bits .and .u64 y1 (4294967295 : Int)))) + (@Int.fdiv (IntKind.wrap .u64 ((bits .and .u64 x0 (4294967295 : Int)) * (bits .and .u64 y1 (4294967295 : Int)))) ((2 : Int) ^ (min (Int.toNat (32 : Int)) (IntKind.bits .u64)))))) (4294967295 : Int)) + (IntKind.wrap .u64 ((bits .and .u64 x0 (4294967295 : Int)) * (@Int.fdiv y1 ((2 : Int) ^ (min (Int.toNat (32 : Int)) (IntKind.bits .u64)))))))) ((2 : Int) ^ (min (Int.toNat (32 : Int)) (IntKind.bits .u64)))))), (IntKind.wrap .u64 (x0 * y1))))
theorem math_bits_Mul64_S (x0 : Int) (y1 : Int) : (runK Tryz.prog (Ev5 N) 400 137 [(.int .u64), (.int .u64)] [(.int .u64), (.int .u64)] (x0, y1, ())).run = math_bits_Mul64 N x0 y1 := by kernel_rfl
noncomputable def Ev6 : (R : Type) → Env R := Env.addFn (Ev5 N) 137 (fun R => fnK [(.int .u64), (.int .u64)] [(.int .u64), (.int .u64)] (fun c => math_bits_Mul64 N c.1 c.2.1))
theorem Ev6_ok (R : Type) : EnvOK Tryz.prog (Ev6 N R) := EnvOK.addFn hmx (Ev5_ok N R) (Ev5_ok N _) (by kernel_rfl) (fun c => math_bits_Mul64_S N c.1 c.2.1)
noncomputable def roots_power (N : Nat) (x0 : Int) (degree1 : Int) : Option (Int × Int) :=
 bif (decide (degree1 = (2 : Int))) then
  some (((IntKind.wrap .u64 ((IntKind.wrap .u64 ((IntKind.wrap .u64 ((@Int.fdiv x0 ((2 : Int) ^ (min (Int.toNat (32 : Int)) (IntKind.bits .u64)))) * (@Int.fdiv x0 ((2 : Int) ^ (min (Int.toNat (32 : Int)) (IntKind.bits .u64)))))) + (@Int.fdiv (IntKind.wrap .u64 ((IntKind.wrap .u64 ((@Int.fdiv x0 ((2 : Int) ^ (min (Int.toNat (32 : Int)) (IntKind.bits .u64)))) * (bits .and .u64 x0 (4294967295 : Int)))) + (@Int.fdiv (IntKind.wrap .u64 ((bits .and .u64 x0 (4294967295 : Int)) * (bits .and .u64 x0 (4294967295 : Int)))) ((2 : Int) ^ (min (Int.toNat (32 : Int)) (IntKind.bits .u64)))))) ((2 : Int) ^ (min (Int.toNat (32 : Int)) (IntKind.bits .u64)))))) + (@Int.fdiv (IntKind.wrap .u64 ((bits .and .u64 (IntKind.wrap .u64 ((IntKind.wrap .u64 ((@Int.fdiv x0 ((2 : Int) ^ (min (Int.toNat (32 : Int)) (IntKind.bits .u64)))) * (bits .and .u64 x0 (4294967295 : Int)))) + (@Int.fdiv (IntKind.wrap .u64 ((bits .and .u64 x0 (4294967295 : Int)) * (bits .and .u64 x0 (4294967295 : Int)))) ((2 : Int) ^ (min (Int.toNat (32 : Int)) (IntKind.bits .u64)))))) (4294967295 : Int)) + (IntKind.wrap .u64 ((bits .and .u64 x0 (4294967295 : Int)) * (@Int.fdiv x0 ((2 : Int) ^ (min (Int.toNat (32 : Int)) (IntKind.bits .u64)))))))) ((2 : Int) ^ (min (Int.toNat (32 : Int)) (IntKind.bits .u64)))))), (IntKind.wrap .u64 (x0 * x0))))
 else
  some (((IntKind.wrap .u64 ((IntKind.wrap .u64 ((IntKind.wrap .u64 ((IntKind.wrap .u64 ((IntKind.wrap .u64 ((@Int.fdiv x0 ((2 : Int) ^ (min (Int.toNat (32 : Int)) (IntKind.bits .u64)))) * (@Int.fdiv x0 ((2 : Int) ^ (min (Int.toNat (32 : Int)) (IntKind.bits .u64)))))) + (@Int.fdiv (IntKind.wrap .u64 ((IntKind.wrap .u64 ((@Int.fdiv x0 ((2 : Int) ^ (min (Int.toNat (32 : Int)) (IntKind.bits .u64)))) * (bits .and .u64 x0 (4294967295 : Int)))) + (@Int.fdiv (IntKind.wrap .u64 ((bits .and .u64 x0 (4294967295 : Int)) * (bits .and .u64 x0 (4294967295 : Int)))) ((2 : Int) ^ (min (Int.toNat (32 : Int)) (IntKind.bits .u64)))))) ((2 : Int) ^ (min (Int.toNat (32 : Int)) (IntKind.bits .u64)))))) + (@Int.fdiv (IntKind.wrap .u64 ((bits .and .u64 (IntKind.wrap .u64 ((IntKind.wrap .u64 ((@Int.fdiv x0 ((2 : Int) ^ (min (Int.toNat (32 : Int)) (IntKind.bits .u64)))) * (bits .and .u64 x0 (4294967295 : Int)))) + (@Int.fdiv (IntKind.wrap .u64 ((bits .and .u64 x0 (4294967295 : Int)) * (bits .and .u64 x0 (4294967295 : Int)))) ((2 : Int) ^ (min (Int.toNat (32 : Int)) (IntKind.bits .u64)))))) (4294967295 : Int)) + (IntKind.wrap .u64 ((bits .and .u64 x0 (4294967295 : Int)) * (@Int.fdiv x0 ((2 : Int) ^ (min (Int.toNat (32 : Int)) (IntKind.bits .u64)))))))) ((2 : Int) ^ (min (Int.toNat (32 : Int)) (IntKind.bits .u64)))))) * x0)) + (IntKind.wrap .u64 ((IntKind.wrap .u64 ((IntKind.wrap .u64 ((@Int.fdiv (IntKind.wrap .u64 (x0 * x0)) ((2 : Int) ^ (min (Int.toNat (32 : Int)) (IntKind.bits .u64)))) * (@Int.fdiv x0 ((2 : Int) ^ (min (Int.toNat (32 : Int)) (IntKind.bits .u64)))))) + (@Int.fdiv (IntKind.wrap .u64 ((IntKind.wrap .u64 ((@Int.fdiv (IntKind.wrap .u64 (x0 * x0)) ((2 : Int) ^ (min (Int.toNat (32 : Int)) (IntKind.bits .u64)))) * (bits .and .u64 x0 (4294967295 : Int)))) + (@Int.fdiv (IntKind.wrap .u64 ((bits .and .u64 (IntKind.wrap .u64 (x0 * x0)) (4294967295 : Int)) * (bits .and .u64 x0 (4294967295 : Int)))) ((2 : Int) ^ (min (Int.toNat (32 : Int)) (IntKind.bits .u64)))))) ((2 : Int) ^ (min (Int.toNat (32 : Int)) (IntKind.bits .u64)))))) + (@Int.fdiv (IntKind.wrap .u64 ((bits .and .u64 (IntKind.wrap .u64 ((IntKind.wrap .u64 ((@Int.fdiv (IntKind.wrap .u64 (x0 * x0)) ((2 : Int) ^ (min (Int.toNat (32 : Int)) (IntKind.bits .u64)))) * (bits .and .u64 x0 (4294967295 : Int)))) + (@Int.fdiv (IntKind.wrap .u64 ((bits .and .u64 (IntKind.wrap .u64 (x0 * x0)) (4294967295 : Int)) * (bits .and .u64 x0 (4294967295 : Int)))) ((2 : Int) ^ (min (Int.toNat (32 : Int)) (IntKind.bits .u64)))))) (4294967295 : Int)) + (IntKind.wrap .u64 ((bits .and .u64 (IntKind.wrap .u64 (x0 * x0)) (4294967295 : Int)) * (@Int.fdiv x0 ((2 : Int) ^ (min (Int.toNat (32 : Int)) (IntKind.bits .u64)))))))) ((2 : Int) ^ (min (Int.toNat (32 : Int)) (IntKind.bits .u64)))))))), (IntKind.wrap .u64 ((IntKind.wrap .u64 (x0 * x0)) * x0))))
theorem roots_power_S (x0 : Int) (degree1 : Int) : (runK Tryz.prog (Ev6 N) 400 126 [(.int .u64), (.int .i64)] [(.int .u64), (.int .u64)] (x0, degree1, ())).run = roots_power N x0 degree1 := by kernel_rfl
noncomputable def Ev7 : (R : Type) → Env R := Env.addFn (Ev6 N) 126 (fun R => fnK [(.int .u64), (.int .i64)] [(.int .u64), (.int .u64)] (fun c => roots_power N c.1 c.2.1))
theorem Ev7_ok (R : Type) : EnvOK Tryz.prog (Ev7 N R) := EnvOK.addFn hmx (Ev6_ok N R) (Ev6_ok N _) (by kernel_rfl) (fun c => roots_power_S N c.1 c.2.1)
noncomputable def roots_shifted (N : Nat) (n0 : Int) (shift1 : Int) : Option (Int × Int) :=
 bif (decide ((64 : Int) ≤ shift1)) then
  bif (decide ((0 : Int) ≤ (IntKind.wrap .i64 (shift1 - 64)))) then
   some (((IntKind.wrap .u64 (n0 * ((2 : Int) ^ (min (Int.toNat (IntKind.wrap .i64 (shift1 - 64))) (IntKind.bits .u64))))), (0 : Int)))
  else
   none
 else
  bif (decide ((0 : Int) ≤ (IntKind.wrap .i64 ((64 : Int) - shift1)))) then
   bif (decide ((0 : Int) ≤ shift1)) then
    some (((@Int.fdiv n0 ((2 : Int) ^ (min (Int.toNat (IntKind.wrap .i64 ((64 : Int) - shift1))) (IntKind.bits .u64)))), (IntKind.wrap .u64 (n0 * ((2 : Int) ^ (min (Int.toNat shift1) (IntKind.bits .u64)))))))
   else
    none
  else
   none
theorem roots_shifted_S (n0 : Int) (shift1 : Int) : (runK Tryz.prog (Ev7 N) 400 127 [(.int .u64), (.int .i64)] [(.int .u64), (.int .u64)] (n0, shift1, ())).run = roots_shifted N n0 shift1 := by kernel_rfl
noncomputable def Ev8 : (R : Type) → Env R := Env.addFn (Ev7 N) 127 (fun R => fnK [(.int .u64), (.int .i64)] [(.int .u64), (.int .u64)] (fun c => roots_shifted N c.1 c.2.1))
theorem Ev8_ok (R : Type) : EnvOK Tryz.prog (Ev8 N R) := EnvOK.addFn hmx (Ev7_ok N R) (Ev7_ok N _) (by kernel_rfl) (fun c => roots_shifted_S N c.1 c.2.1)
noncomputable def roots_above (x0 : Int) (n1 : Int) (degree2 : Int) (shift3 : Int) : Option Bool :=
 Option.bind (roots_power N x0 degree2) fun v5 =>
 Option.bind (roots_shifted N (IntKind.wrap .u64 n1) shift3) fun v6 =>
 bif (!(decide (v5.1 = v6.1))) then
  some ((decide (v6.1 < v5.1)))
 else
  some ((decide (v6.2 < v5.2)))
theorem roots_above_S (x0 : Int) (n1 : Int) (degree2 : Int) (shift3 : Int) : (runK Tryz.prog (Ev8 N) 400 113 [(.int .u64), (.int .i64), (.int .i64), (.int .i64)] [.bool] (x0, n1, degree2, shift3, ())).run = roots_above N x0 n1 degree2 shift3 := by kernel_rfl
noncomputable def Ev9 : (R : Type) → Env R := Env.addFn (Ev8 N) 113 (fun R => fnK [(.int .u64), (.int .i64), (.int .i64), (.int .i64)] [.bool] (fun c => roots_above N c.1 c.2.1 c.2.2.1 c.2.2.2.1))
theorem Ev9_ok (R : Type) : EnvOK Tryz.prog (Ev9 N R) := EnvOK.addFn hmx (Ev8_ok N R) (Ev8_ok N _) (by kernel_rfl) (fun c => roots_above_S N c.1 c.2.1 c.2.2.1 c.2.2.2.1)
noncomputable def roots_Root_L5_I : LI := ⟨34, 0, [], ⟨[(0, .ty (.int .i64)), (1, .ty (.int .i64)), (2, .ty (.int .i64)), (8, .ty (.int .u64)), (9, .ty (.int .i64))], []⟩, [(.exit 0, ⟨[(8, .ty (.int .u64))], []⟩)]⟩
noncomputable def roots_Root_L5 (X : ((Int × (Int × (Int × (Int × (Int × Unit))))) × Unit) → Option (((Int × Unit) × Unit))) (n0 : Int) (degree1 : Int) (bits2 : Int) (root8 : Int) (i9 : Int) : Option (((Int × Unit) × Unit)) :=
 bif (decide ((0 : Int) ≤ i9)) then
  bif (decide ((0 : Int) ≤ i9)) then
   Option.bind (roots_above N (bits .or .u64 root8 (IntKind.wrap .u64 ((1 : Int) * ((2 : Int) ^ (min (Int.toNat i9) (IntKind.bits .u64)))))) n0 degree1 (IntKind.wrap .i64 (degree1 * bits2))) fun v7 =>
   bif (!v7) then
    (X ((n0, (degree1, (bits2, ((bits .or .u64 root8 (IntKind.wrap .u64 ((1 : Int) * ((2 : Int) ^ (min (Int.toNat i9) (IntKind.bits .u64)))))), ((IntKind.wrap .i64 (i9 - 1)), ()))))), ()))
   else
    (X ((n0, (degree1, (bits2, (root8, ((IntKind.wrap .i64 (i9 - 1)), ()))))), ()))
  else
   none
 else
  some (((root8, ()), ()))
noncomputable def roots_Root_L5_R (c : ((Int × (Int × (Int × (Int × (Int × Unit))))) × Unit)) : Option (((Int × Unit) × Unit)) := gl (fun X c => roots_Root_L5 N X c.1.1 c.1.2.1 c.1.2.2.1 c.1.2.2.2.1 c.1.2.2.2.2.1) N c
theorem roots_Root_L5_S (X : ((Int × (Int × (Int × (Int × (Int × Unit))))) × Unit) → Option (((Int × Unit) × Unit))) (n0 : Int) (degree1 : Int) (bits2 : Int) (root8 : Int) (i9 : Int) : (roundK Tryz.prog (Ev9 N) 400 [96] roots_Root_L5_I (loopAt Tryz.prog [96] 5) X ((n0, degree1, bits2, root8, i9, ()), ())).run = roots_Root_L5 N X n0 degree1 bits2 root8 i9 := by kernel_rfl
noncomputable def Ev10 : (R : Type) → Env R := Env.addLp (Ev9 N) [96] 0 5 (fun R => lpK Tryz.prog roots_Root_L5_I (fun X c => roots_Root_L5 N X c.1.1 c.1.2.1 c.1.2.2.1 c.1.2.2.2.1 c.1.2.2.2.2.1) N)
theorem Ev10_ok (R : Type) : EnvOK Tryz.prog (Ev10 N R) := EnvOK.addLp (Ev9_ok N R) (by kernel_rfl) (lpK_ok (li := roots_Root_L5_I) (G := fun X c => roots_Root_L5 N X c.1.1 c.1.2.1 c.1.2.2.1 c.1.2.2.2.1 c.1.2.2.2.2.1) hmx (Ev9_ok N _) (by kernel_rfl) loopAt_sub (fun (X : CT roots_Root_L5_I.sh → Option (OT roots_Root_L5_I.outs)) (c : CT roots_Root_L5_I.sh) => roots_Root_L5_S N X c.1.1 c.1.2.1 c.1.2.2.1 c.1.2.2.2.1 c.1.2.2.2.2.1) N)
noncomputable def roots_Root (n0 : Int) (degree1 : Int) (bits2 : Int) : Option (Int × Int) :=
 Option.bind (roots_may N n0 degree1 bits2) fun v4 =>
 bif (!v4) then
  some (((0 : Int), (1 : Int)))
 else
  Option.bind (roots_Root_L5_R N ((n0, (degree1, (bits2, ((0 : Int), ((36 : Int), ()))))), ())) fun v5 =>
  some ((v5.1.1, (0 : Int)))
theorem roots_Root_S (n0 : Int) (degree1 : Int) (bits2 : Int) : (runK Tryz.prog (Ev10 N) 400 96 [(.int .i64), (.int .i64), (.int .i64)] [(.int .u64), (.int .i64)] (n0, degree1, bits2, ())).run = roots_Root N n0 degree1 bits2 := by kernel_rfl
noncomputable def Ev11 : (R : Type) → Env R := Env.addFn (Ev10 N) 96 (fun R => fnK [(.int .i64), (.int .i64), (.int .i64)] [(.int .u64), (.int .i64)] (fun c => roots_Root N c.1 c.2.1 c.2.2.1))
theorem Ev11_ok (R : Type) : EnvOK Tryz.prog (Ev11 N R) := EnvOK.addFn hmx (Ev10_ok N R) (Ev10_ok N _) (by kernel_rfl) (fun c => roots_Root_S N c.1 c.2.1 c.2.2.1)
noncomputable def octs_place (N : Nat) (i0 : Int) (width1 : Int) (little2 : Bool) : Option Int :=
 bif little2 then
  some (i0)
 else
  some ((IntKind.wrap .i64 ((IntKind.wrap .i64 (width1 - 1)) - i0)))
theorem octs_place_S (i0 : Int) (width1 : Int) (little2 : Bool) : (runK Tryz.prog (Ev11 N) 400 79 [(.int .i64), (.int .i64), .bool] [(.int .i64)] (i0, width1, little2, ())).run = octs_place N i0 width1 little2 := by kernel_rfl
noncomputable def Ev12 : (R : Type) → Env R := Env.addFn (Ev11 N) 79 (fun R => fnK [(.int .i64), (.int .i64), .bool] [(.int .i64)] (fun c => octs_place N c.1 c.2.1 c.2.2.1))
theorem Ev12_ok (R : Type) : EnvOK Tryz.prog (Ev12 N R) := EnvOK.addFn hmx (Ev11_ok N R) (Ev11_ok N _) (by kernel_rfl) (fun c => octs_place_S N c.1 c.2.1 c.2.2.1)
noncomputable def octs_Put_L5_I : LI := ⟨35, 0, [], ⟨[(0, .ty (.int .u64)), (1, .ty (.int .i64)), (2, .ty .bool), (8, .lit (.own 0)), (19, .ty (.int .i64)), (20, .ty (.int .i64))], [.own (.int .u8) 5]⟩, [(.exit 0, ⟨[(8, .lit (.own 0))], [.own (.int .u8) 5]⟩)]⟩
noncomputable def octs_Put_L5 (X : ((Int × (Int × (Bool × (Int × (Int × Unit))))) × ((List Int) × Unit)) → Option ((Unit × ((List Int) × Unit)))) (n0 : Int) (width1 : Int) (little2 : Bool) (x19 : Int) (x20 : Int) (h0 : List (Int)) : Option ((Unit × ((List Int) × Unit))) :=
 bif (decide (x20 < x19)) then
  Option.bind (octs_place N x20 width1 little2) fun v8 =>
  bif (decide ((0 : Int) ≤ v8 ∧ v8 < (((List.length h0) : Nat) : Int))) then
   Option.bind (h0[Int.toNat v8]?) fun (v9 : Int) =>
   (X (((@Int.fdiv n0 ((2 : Int) ^ (min (Int.toNat (8 : Int)) (IntKind.bits .u64)))), (width1, (little2, (x19, ((IntKind.wrap .i64 (x20 + 1)), ()))))), ((@List.set Int h0 (Int.toNat v8) (IntKind.wrap .u8 n0)), ())))
  else
   none
 else
  some (((), (h0, ())))
noncomputable def octs_Put_L5_R (c : ((Int × (Int × (Bool × (Int × (Int × Unit))))) × ((List Int) × Unit))) : Option ((Unit × ((List Int) × Unit))) := gl (fun X c => octs_Put_L5 N X c.1.1 c.1.2.1 c.1.2.2.1 c.1.2.2.2.1 c.1.2.2.2.2.1 c.2.1) N c
theorem octs_Put_L5_S (X : ((Int × (Int × (Bool × (Int × (Int × Unit))))) × ((List Int) × Unit)) → Option ((Unit × ((List Int) × Unit)))) (n0 : Int) (width1 : Int) (little2 : Bool) (x19 : Int) (x20 : Int) (h0 : List (Int)) : (roundK Tryz.prog (Ev12 N) 400 [54] octs_Put_L5_I (loopAt Tryz.prog [54] 5) X ((n0, width1, little2, x19, x20, ()), (h0, ()))).run = octs_Put_L5 N X n0 width1 little2 x19 x20 h0 := by kernel_rfl
noncomputable def Ev13 : (R : Type) → Env R := Env.addLp (Ev12 N) [54] 0 5 (fun R => lpK Tryz.prog octs_Put_L5_I (fun X c => octs_Put_L5 N X c.1.1 c.1.2.1 c.1.2.2.1 c.1.2.2.2.1 c.1.2.2.2.2.1 c.2.1) N)
theorem Ev13_ok (R : Type) : EnvOK Tryz.prog (Ev13 N R) := EnvOK.addLp (Ev12_ok N R) (by kernel_rfl) (lpK_ok (li := octs_Put_L5_I) (G := fun X c => octs_Put_L5 N X c.1.1 c.1.2.1 c.1.2.2.1 c.1.2.2.2.1 c.1.2.2.2.2.1 c.2.1) hmx (Ev12_ok N _) (by kernel_rfl) loopAt_sub (fun (X : CT octs_Put_L5_I.sh → Option (OT octs_Put_L5_I.outs)) (c : CT octs_Put_L5_I.sh) => octs_Put_L5_S N X c.1.1 c.1.2.1 c.1.2.2.1 c.1.2.2.2.1 c.1.2.2.2.2.1 c.2.1) N)
noncomputable def octs_Put (n0 : Int) (width1 : Int) (little2 : Bool) : Option ((List Int) × Int) :=
 Option.bind (bif (decide (width1 < (1 : Int))) then
   some (true)
  else
   some ((cond false true (decide ((8 : Int) < width1))))) fun (v4 : Bool) =>
 bif v4 then
  some ((([] : List Int), (1 : Int)))
 else
  bif ((decide ((0 : Int) ≤ width1 ∧ width1 ≤ width1)) && (roomB (Int.toNat width1) 1)) then
   Option.bind (octs_Put_L5_R N ((n0, (width1, (little2, ((((List.length (@List.replicate Int (Int.toNat width1) (0 : Int))) : Nat) : Int), ((0 : Int), ()))))), ((@List.replicate Int (Int.toNat width1) (0 : Int)), ()))) fun v5 =>
   some ((v5.2.1, (0 : Int)))
  else
   none
theorem octs_Put_S (n0 : Int) (width1 : Int) (little2 : Bool) : (runK Tryz.prog (Ev13 N) 400 54 [(.int .u64), (.int .i64), .bool] [(.sl (.int .u8)), (.int .i64)] (n0, width1, little2, ())).run = octs_Put N n0 width1 little2 := by kernel_rfl
noncomputable def Ev14 : (R : Type) → Env R := Env.addFn (Ev13 N) 54 (fun R => fnK [(.int .u64), (.int .i64), .bool] [(.sl (.int .u8)), (.int .i64)] (fun c => octs_Put N c.1 c.2.1 c.2.2.1))
theorem Ev14_ok (R : Type) : EnvOK Tryz.prog (Ev14 N R) := EnvOK.addFn hmx (Ev13_ok N R) (Ev13_ok N _) (by kernel_rfl) (fun c => octs_Put_S N c.1 c.2.1 c.2.2.1)
noncomputable def md4_Tail_3_octs_Join_L3_I : LI := ⟨33, 1, [], ⟨[(0, .ty (.sl (.sl (.int .u8)))), (3, .ty (.int .i64)), (9, .ty (.sl (.sl (.int .u8)))), (10, .ty (.int .i64)), (11, .ty (.int .i64))], [.dead]⟩, [(.exit 0, ⟨[(0, .ty (.sl (.sl (.int .u8)))), (3, .ty (.int .i64))], [.dead]⟩)]⟩
noncomputable def md4_Tail_3_octs_Join_L3 (N : Nat) (X : (((List (List Int)) × (Int × ((List (List Int)) × (Int × (Int × Unit))))) × Unit) → Option ((((List (List Int)) × (Int × Unit)) × Unit))) (parts0 : List (List Int)) (size3 : Int) (x9 : List (List Int)) (x10 : Int) (x11 : Int) : Option ((((List (List Int)) × (Int × Unit)) × Unit)) :=
 bif (decide (x11 < x10)) then
  Option.bind (getI x9 x11) fun (v7 : (List Int)) =>
  (X ((parts0, ((IntKind.wrap .i64 (size3 + (((List.length v7) : Nat) : Int))), (x9, (x10, ((IntKind.wrap .i64 (x11 + 1)), ()))))), ()))
 else
  some (((parts0, (size3, ())), ()))
noncomputable def md4_Tail_3_octs_Join_L3_R (c : (((List (List Int)) × (Int × ((List (List Int)) × (Int × (Int × Unit))))) × Unit)) : Option ((((List (List Int)) × (Int × Unit)) × Unit)) := gl (fun X c => md4_Tail_3_octs_Join_L3 N X c.1.1 c.1.2.1 c.1.2.2.1 c.1.2.2.2.1 c.1.2.2.2.2.1) N c
theorem md4_Tail_3_octs_Join_L3_S (X : (((List (List Int)) × (Int × ((List (List Int)) × (Int × (Int × Unit))))) × Unit) → Option ((((List (List Int)) × (Int × Unit)) × Unit))) (parts0 : List (List Int)) (size3 : Int) (x9 : List (List Int)) (x10 : Int) (x11 : Int) : (roundK Tryz.prog (Ev14 N) 400 [30, 3, 55] md4_Tail_3_octs_Join_L3_I (loopAt Tryz.prog [30, 3, 55] 3) X ((parts0, size3, x9, x10, x11, ()), ())).run = md4_Tail_3_octs_Join_L3 N X parts0 size3 x9 x10 x11 := by kernel_rfl
noncomputable def Ev15 : (R : Type) → Env R := Env.addLp (Ev14 N) [30, 3, 55] 1 3 (fun R => lpK Tryz.prog md4_Tail_3_octs_Join_L3_I (fun X c => md4_Tail_3_octs_Join_L3 N X c.1.1 c.1.2.1 c.1.2.2.1 c.1.2.2.2.1 c.1.2.2.2.2.1) N)
theorem Ev15_ok (R : Type) : EnvOK Tryz.prog (Ev15 N R) := EnvOK.addLp (Ev14_ok N R) (by kernel_rfl) (lpK_ok (li := md4_Tail_3_octs_Join_L3_I) (G := fun X c => md4_Tail_3_octs_Join_L3 N X c.1.1 c.1.2.1 c.1.2.2.1 c.1.2.2.2.1 c.1.2.2.2.2.1) hmx (Ev14_ok N _) (by kernel_rfl) loopAt_sub (fun (X : CT md4_Tail_3_octs_Join_L3_I.sh → Option (OT md4_Tail_3_octs_Join_L3_I.outs)) (c : CT md4_Tail_3_octs_Join_L3_I.sh) => md4_Tail_3_octs_Join_L3_S N X c.1.1 c.1.2.1 c.1.2.2.1 c.1.2.2.2.1 c.1.2.2.2.2.1) N)
noncomputable def md4_Tail_3_octs_Join_L9_I : LI := ⟨33, 1, [], ⟨[(6, .lit (.own 1)), (22, .ty (.sl (.sl (.int .u8)))), (23, .ty (.int .i64)), (24, .ty (.int .i64))], [.dead, .own (.int .u8) 5]⟩, [(.exit 2, ⟨[(6, .lit (.own 1))], [.dead, .own (.int .u8) 5]⟩)]⟩
noncomputable def md4_Tail_3_octs_Join_L9 (N : Nat) (X : (((List (List Int)) × (Int × (Int × Unit))) × ((List Int) × Unit)) → Option ((Unit × ((List Int) × Unit)))) (x22 : List (List Int)) (x23 : Int) (x24 : Int) (h0 : List (Int)) : Option ((Unit × ((List Int) × Unit))) :=
 bif (decide (x24 < x23)) then
  Option.bind (getI x22 x24) fun (v6 : (List Int)) =>
  bif (roomB ((List.length h0) + (List.length v6)) 1) then
   (X ((x22, (x23, ((IntKind.wrap .i64 (x24 + 1)), ()))), ((h0 ++ v6), ())))
  else
   none
 else
  some (((), (h0, ())))
noncomputable def md4_Tail_3_octs_Join_L9_R (c : (((List (List Int)) × (Int × (Int × Unit))) × ((List Int) × Unit))) : Option ((Unit × ((List Int) × Unit))) := gl (fun X c => md4_Tail_3_octs_Join_L9 N X c.1.1 c.1.2.1 c.1.2.2.1 c.2.1) N c
theorem md4_Tail_3_octs_Join_L9_S (X : (((List (List Int)) × (Int × (Int × Unit))) × ((List Int) × Unit)) → Option ((Unit × ((List Int) × Unit)))) (x22 : List (List Int)) (x23 : Int) (x24 : Int) (h0 : List (Int)) : (roundK Tryz.prog (Ev15 N) 400 [30, 3, 55] md4_Tail_3_octs_Join_L9_I (loopAt Tryz.prog [30, 3, 55] 9) X ((x22, x23, x24, ()), (h0, ()))).run = md4_Tail_3_octs_Join_L9 N X x22 x23 x24 h0 := by kernel_rfl
noncomputable def Ev16 : (R : Type) → Env R := Env.addLp (Ev15 N) [30, 3, 55] 1 9 (fun R => lpK Tryz.prog md4_Tail_3_octs_Join_L9_I (fun X c => md4_Tail_3_octs_Join_L9 N X c.1.1 c.1.2.1 c.1.2.2.1 c.2.1) N)
theorem Ev16_ok (R : Type) : EnvOK Tryz.prog (Ev16 N R) := EnvOK.addLp (Ev15_ok N R) (by kernel_rfl) (lpK_ok (li := md4_Tail_3_octs_Join_L9_I) (G := fun X c => md4_Tail_3_octs_Join_L9 N X c.1.1 c.1.2.1 c.1.2.2.1 c.2.1) hmx (Ev15_ok N _) (by kernel_rfl) loopAt_sub (fun (X : CT md4_Tail_3_octs_Join_L9_I.sh → Option (OT md4_Tail_3_octs_Join_L9_I.outs)) (c : CT md4_Tail_3_octs_Join_L9_I.sh) => md4_Tail_3_octs_Join_L9_S N X c.1.1 c.1.2.1 c.1.2.2.1 c.2.1) N)
noncomputable def md4_Tail (n0 : Int) : Option (List Int) :=
 Option.bind (octs_Put N (IntKind.wrap .u64 ((8 : Int) * n0)) (8 : Int) true) fun v2 =>
 bif ((decide ((0 : Int) ≤ (@Int.tmod (IntKind.wrap .u64 ((119 : Int) - (@Int.tmod n0 (64 : Int)))) (64 : Int)) ∧ (@Int.tmod (IntKind.wrap .u64 ((119 : Int) - (@Int.tmod n0 (64 : Int)))) (64 : Int)) ≤ (@Int.tmod (IntKind.wrap .u64 ((119 : Int) - (@Int.tmod n0 (64 : Int)))) (64 : Int)))) && (roomB (Int.toNat (@Int.tmod (IntKind.wrap .u64 ((119 : Int) - (@Int.tmod n0 (64 : Int)))) (64 : Int))) 1)) then
  Option.bind (md4_Tail_3_octs_Join_L3_R N ((([([128] : List Int), (@List.replicate Int (Int.toNat (@Int.tmod (IntKind.wrap .u64 ((119 : Int) - (@Int.tmod n0 (64 : Int)))) (64 : Int))) (0 : Int)), v2.1] : List ((List Int))), ((0 : Int), (([([128] : List Int), (@List.replicate Int (Int.toNat (@Int.tmod (IntKind.wrap .u64 ((119 : Int) - (@Int.tmod n0 (64 : Int)))) (64 : Int))) (0 : Int)), v2.1] : List ((List Int))), ((((List.length ([([128] : List Int), (@List.replicate Int (Int.toNat (@Int.tmod (IntKind.wrap .u64 ((119 : Int) - (@Int.tmod n0 (64 : Int)))) (64 : Int))) (0 : Int)), v2.1] : List ((List Int)))) : Nat) : Int), ((0 : Int), ()))))), ())) fun v3 =>
  bif ((decide ((0 : Int) ≤ (0 : Int) ∧ (0 : Int) ≤ v3.1.2.1)) && (roomB (Int.toNat v3.1.2.1) 1)) then
   Option.bind (md4_Tail_3_octs_Join_L9_R N ((v3.1.1, ((((List.length v3.1.1) : Nat) : Int), ((0 : Int), ()))), ((@List.replicate Int (Int.toNat (0 : Int)) (0 : Int)), ()))) fun v4 =>
   some (v4.2.1)
  else
   none
 else
  none
theorem md4_Tail_S (n0 : Int) : (runK Tryz.prog (Ev16 N) 400 55 [(.int .u64)] [(.sl (.int .u8))] (n0, ())).run = md4_Tail N n0 := by kernel_rfl
noncomputable def Ev17 : (R : Type) → Env R := Env.addFn (Ev16 N) 55 (fun R => fnK [(.int .u64)] [(.sl (.int .u8))] (fun c => md4_Tail N c.1))
theorem Ev17_ok (R : Type) : EnvOK Tryz.prog (Ev17 N R) := EnvOK.addFn hmx (Ev16_ok N R) (Ev16_ok N _) (by kernel_rfl) (fun c => md4_Tail_S N c.1)
noncomputable def md4_First (N : Nat) : Option (Arr Int 4) :=
 some ((@Arr.cons Int 3 1732584193 (@Arr.cons Int 2 4023233417 (@Arr.cons Int 1 2562383102 (@Arr.cons Int 0 271733878 (@Arr.nil Int))))))
theorem md4_First_S : (runK Tryz.prog (Ev17 N) 400 56 [] [(.arr 4 (.int .u32))] ()).run = md4_First N  := by kernel_rfl
noncomputable def Ev18 : (R : Type) → Env R := Env.addFn (Ev17 N) 56 (fun R => fnK [] [(.arr 4 (.int .u32))] (fun c => md4_First N ))
theorem Ev18_ok (R : Type) : EnvOK Tryz.prog (Ev18 N R) := EnvOK.addFn hmx (Ev17_ok N R) (Ev17_ok N _) (by kernel_rfl) (fun c => md4_First_S N )
noncomputable def md4_Of_1_octs_Join_L3_I : LI := ⟨33, 1, [], ⟨[(0, .ty (.sl (.sl (.int .u8)))), (3, .ty (.int .i64)), (9, .ty (.sl (.sl (.int .u8)))), (10, .ty (.int .i64)), (11, .ty (.int .i64))], [.box 52 (.arr 16 (.int .u8))]⟩, [(.exit 0, ⟨[(0, .ty (.sl (.sl (.int .u8)))), (3, .ty (.int .i64))], [.box 52 (.arr 16 (.int .u8))]⟩)]⟩
noncomputable def md4_Of_1_octs_Join_L3 (N : Nat) (X : (((List (List Int)) × (Int × ((List (List Int)) × (Int × (Int × Unit))))) × ((Arr Int 16) × Unit)) → Option ((((List (List Int)) × (Int × Unit)) × ((Arr Int 16) × Unit)))) (parts0 : List (List Int)) (size3 : Int) (x9 : List (List Int)) (x10 : Int) (x11 : Int) (h0 : Arr Int 16) : Option ((((List (List Int)) × (Int × Unit)) × ((Arr Int 16) × Unit))) :=
 bif (decide (x11 < x10)) then
  Option.bind (getI x9 x11) fun (v8 : (List Int)) =>
  (X ((parts0, ((IntKind.wrap .i64 (size3 + (((List.length v8) : Nat) : Int))), (x9, (x10, ((IntKind.wrap .i64 (x11 + 1)), ()))))), (h0, ())))
 else
  some (((parts0, (size3, ())), (h0, ())))
noncomputable def md4_Of_1_octs_Join_L3_R (c : (((List (List Int)) × (Int × ((List (List Int)) × (Int × (Int × Unit))))) × ((Arr Int 16) × Unit))) : Option ((((List (List Int)) × (Int × Unit)) × ((Arr Int 16) × Unit))) := gl (fun X c => md4_Of_1_octs_Join_L3 N X c.1.1 c.1.2.1 c.1.2.2.1 c.1.2.2.2.1 c.1.2.2.2.2.1 c.2.1) N c
theorem md4_Of_1_octs_Join_L3_S (X : (((List (List Int)) × (Int × ((List (List Int)) × (Int × (Int × Unit))))) × ((Arr Int 16) × Unit)) → Option ((((List (List Int)) × (Int × Unit)) × ((Arr Int 16) × Unit)))) (parts0 : List (List Int)) (size3 : Int) (x9 : List (List Int)) (x10 : Int) (x11 : Int) (h0 : Arr Int 16) : (roundK Tryz.prog (Ev18 N) 400 [30, 1, 40] md4_Of_1_octs_Join_L3_I (loopAt Tryz.prog [30, 1, 40] 3) X ((parts0, size3, x9, x10, x11, ()), (h0, ()))).run = md4_Of_1_octs_Join_L3 N X parts0 size3 x9 x10 x11 h0 := by kernel_rfl
noncomputable def Ev19 : (R : Type) → Env R := Env.addLp (Ev18 N) [30, 1, 40] 1 3 (fun R => lpK Tryz.prog md4_Of_1_octs_Join_L3_I (fun X c => md4_Of_1_octs_Join_L3 N X c.1.1 c.1.2.1 c.1.2.2.1 c.1.2.2.2.1 c.1.2.2.2.2.1 c.2.1) N)
theorem Ev19_ok (R : Type) : EnvOK Tryz.prog (Ev19 N R) := EnvOK.addLp (Ev18_ok N R) (by kernel_rfl) (lpK_ok (li := md4_Of_1_octs_Join_L3_I) (G := fun X c => md4_Of_1_octs_Join_L3 N X c.1.1 c.1.2.1 c.1.2.2.1 c.1.2.2.2.1 c.1.2.2.2.2.1 c.2.1) hmx (Ev18_ok N _) (by kernel_rfl) loopAt_sub (fun (X : CT md4_Of_1_octs_Join_L3_I.sh → Option (OT md4_Of_1_octs_Join_L3_I.outs)) (c : CT md4_Of_1_octs_Join_L3_I.sh) => md4_Of_1_octs_Join_L3_S N X c.1.1 c.1.2.1 c.1.2.2.1 c.1.2.2.2.1 c.1.2.2.2.2.1 c.2.1) N)
noncomputable def md4_Of_1_octs_Join_L9_I : LI := ⟨33, 1, [], ⟨[(6, .lit (.own 1)), (22, .ty (.sl (.sl (.int .u8)))), (23, .ty (.int .i64)), (24, .ty (.int .i64))], [.box 52 (.arr 16 (.int .u8)), .own (.int .u8) 5]⟩, [(.exit 2, ⟨[(6, .lit (.own 1))], [.box 52 (.arr 16 (.int .u8)), .own (.int .u8) 5]⟩)]⟩
noncomputable def md4_Of_1_octs_Join_L9 (N : Nat) (X : (((List (List Int)) × (Int × (Int × Unit))) × ((Arr Int 16) × ((List Int) × Unit))) → Option ((Unit × ((Arr Int 16) × ((List Int) × Unit))))) (x22 : List (List Int)) (x23 : Int) (x24 : Int) (h0 : Arr Int 16) (h1 : List (Int)) : Option ((Unit × ((Arr Int 16) × ((List Int) × Unit)))) :=
 bif (decide (x24 < x23)) then
  Option.bind (getI x22 x24) fun (v7 : (List Int)) =>
  bif (roomB ((List.length h1) + (List.length v7)) 1) then
   (X ((x22, (x23, ((IntKind.wrap .i64 (x24 + 1)), ()))), (h0, ((h1 ++ v7), ()))))
  else
   none
 else
  some (((), (h0, (h1, ()))))
noncomputable def md4_Of_1_octs_Join_L9_R (c : (((List (List Int)) × (Int × (Int × Unit))) × ((Arr Int 16) × ((List Int) × Unit)))) : Option ((Unit × ((Arr Int 16) × ((List Int) × Unit)))) := gl (fun X c => md4_Of_1_octs_Join_L9 N X c.1.1 c.1.2.1 c.1.2.2.1 c.2.1 c.2.2.1) N c
theorem md4_Of_1_octs_Join_L9_S (X : (((List (List Int)) × (Int × (Int × Unit))) × ((Arr Int 16) × ((List Int) × Unit))) → Option ((Unit × ((Arr Int 16) × ((List Int) × Unit))))) (x22 : List (List Int)) (x23 : Int) (x24 : Int) (h0 : Arr Int 16) (h1 : List (Int)) : (roundK Tryz.prog (Ev19 N) 400 [30, 1, 40] md4_Of_1_octs_Join_L9_I (loopAt Tryz.prog [30, 1, 40] 9) X ((x22, x23, x24, ()), (h0, h1, ()))).run = md4_Of_1_octs_Join_L9 N X x22 x23 x24 h0 h1 := by kernel_rfl
noncomputable def Ev20 : (R : Type) → Env R := Env.addLp (Ev19 N) [30, 1, 40] 1 9 (fun R => lpK Tryz.prog md4_Of_1_octs_Join_L9_I (fun X c => md4_Of_1_octs_Join_L9 N X c.1.1 c.1.2.1 c.1.2.2.1 c.2.1 c.2.2.1) N)
theorem Ev20_ok (R : Type) : EnvOK Tryz.prog (Ev20 N R) := EnvOK.addLp (Ev19_ok N R) (by kernel_rfl) (lpK_ok (li := md4_Of_1_octs_Join_L9_I) (G := fun X c => md4_Of_1_octs_Join_L9 N X c.1.1 c.1.2.1 c.1.2.2.1 c.2.1 c.2.2.1) hmx (Ev19_ok N _) (by kernel_rfl) loopAt_sub (fun (X : CT md4_Of_1_octs_Join_L9_I.sh → Option (OT md4_Of_1_octs_Join_L9_I.outs)) (c : CT md4_Of_1_octs_Join_L9_I.sh) => md4_Of_1_octs_Join_L9_S N X c.1.1 c.1.2.1 c.1.2.2.1 c.2.1 c.2.2.1) N)
noncomputable def md4_root (n0 : Int) : Option Int :=
 Option.bind (roots_Root N n0 (2 : Int) (30 : Int)) fun v2 =>
 some ((IntKind.wrap .u32 v2.1))
theorem md4_root_S (n0 : Int) : (runK Tryz.prog (Ev20 N) 400 80 [(.int .i64)] [(.int .u32)] (n0, ())).run = md4_root N n0 := by kernel_rfl
noncomputable def Ev21 : (R : Type) → Env R := Env.addFn (Ev20 N) 80 (fun R => fnK [(.int .i64)] [(.int .u32)] (fun c => md4_root N c.1))
theorem Ev21_ok (R : Type) : EnvOK Tryz.prog (Ev21 N R) := EnvOK.addFn hmx (Ev20_ok N R) (Ev20_ok N _) (by kernel_rfl) (fun c => md4_root_S N c.1)
noncomputable def md4_constants : Option (Arr Int 3) :=
 Option.bind (md4_root N (2 : Int)) fun v1 =>
 Option.bind (md4_root N (3 : Int)) fun v2 =>
 some ((@Arr.cons Int 2 0 (@Arr.cons Int (1 : Nat) v1 (@Arr.cons Int (0 : Nat) v2 (@Arr.nil Int)))))
theorem md4_constants_S : (runK Tryz.prog (Ev21 N) 400 57 [] [(.arr 3 (.int .u32))] ()).run = md4_constants N  := by kernel_rfl
noncomputable def Ev22 : (R : Type) → Env R := Env.addFn (Ev21 N) 57 (fun R => fnK [] [(.arr 3 (.int .u32))] (fun c => md4_constants N ))
theorem Ev22_ok (R : Type) : EnvOK Tryz.prog (Ev22 N R) := EnvOK.addFn hmx (Ev21_ok N R) (Ev21_ok N _) (by kernel_rfl) (fun c => md4_constants_S N )
noncomputable def Ev23 : (R : Type) → Env R := Env.addBx (Ev22 N) [(58, 0)]
theorem Ev23_ok (R : Type) : EnvOK Tryz.prog (Ev23 N R) := EnvOK.addBx (Ev22_ok N R) [(58, 0)]
noncomputable def Ev24 : (R : Type) → Env R := Env.addBx (Ev23 N) [(81, 0)]
theorem Ev24_ok (R : Type) : EnvOK Tryz.prog (Ev24 N R) := EnvOK.addBx (Ev23_ok N R) [(81, 0)]
noncomputable def octs_Get_L5_I : LI := ⟨37, 0, [], ⟨[(0, .ty (.sl (.int .u8))), (1, .ty .bool), (6, .ty (.int .u64)), (17, .ty (.int .i64)), (18, .ty (.int .i64))], []⟩, [(.exit 0, ⟨[(6, .ty (.int .u64))], []⟩)]⟩
noncomputable def octs_Get_L5 (X : (((List Int) × (Bool × (Int × (Int × (Int × Unit))))) × Unit) → Option (((Int × Unit) × Unit))) (b0 : List (Int)) (little1 : Bool) (n6 : Int) (x17 : Int) (x18 : Int) : Option (((Int × Unit) × Unit)) :=
 bif (decide (x18 < x17)) then
  Option.bind (octs_place N x18 (((List.length b0) : Nat) : Int) little1) fun v7 =>
  Option.bind (getI b0 v7) fun (v8 : Int) =>
  bif (decide ((0 : Int) ≤ (IntKind.wrap .i64 ((8 : Int) * x18)))) then
   (X ((b0, (little1, ((bits .or .u64 n6 (IntKind.wrap .u64 ((IntKind.wrap .u64 v8) * ((2 : Int) ^ (min (Int.toNat (IntKind.wrap .i64 ((8 : Int) * x18))) (IntKind.bits .u64)))))), (x17, ((IntKind.wrap .i64 (x18 + 1)), ()))))), ()))
  else
   none
 else
  some (((n6, ()), ()))
noncomputable def octs_Get_L5_R (c : (((List Int) × (Bool × (Int × (Int × (Int × Unit))))) × Unit)) : Option (((Int × Unit) × Unit)) := gl (fun X c => octs_Get_L5 N X c.1.1 c.1.2.1 c.1.2.2.1 c.1.2.2.2.1 c.1.2.2.2.2.1) N c
theorem octs_Get_L5_S (X : (((List Int) × (Bool × (Int × (Int × (Int × Unit))))) × Unit) → Option (((Int × Unit) × Unit))) (b0 : List (Int)) (little1 : Bool) (n6 : Int) (x17 : Int) (x18 : Int) : (roundK Tryz.prog (Ev24 N) 400 [62] octs_Get_L5_I (loopAt Tryz.prog [62] 5) X ((b0, little1, n6, x17, x18, ()), ())).run = octs_Get_L5 N X b0 little1 n6 x17 x18 := by kernel_rfl
noncomputable def Ev25 : (R : Type) → Env R := Env.addLp (Ev24 N) [62] 0 5 (fun R => lpK Tryz.prog octs_Get_L5_I (fun X c => octs_Get_L5 N X c.1.1 c.1.2.1 c.1.2.2.1 c.1.2.2.2.1 c.1.2.2.2.2.1) N)
theorem Ev25_ok (R : Type) : EnvOK Tryz.prog (Ev25 N R) := EnvOK.addLp (Ev24_ok N R) (by kernel_rfl) (lpK_ok (li := octs_Get_L5_I) (G := fun X c => octs_Get_L5 N X c.1.1 c.1.2.1 c.1.2.2.1 c.1.2.2.2.1 c.1.2.2.2.2.1) hmx (Ev24_ok N _) (by kernel_rfl) loopAt_sub (fun (X : CT octs_Get_L5_I.sh → Option (OT octs_Get_L5_I.outs)) (c : CT octs_Get_L5_I.sh) => octs_Get_L5_S N X c.1.1 c.1.2.1 c.1.2.2.1 c.1.2.2.2.1 c.1.2.2.2.2.1) N)
noncomputable def octs_Get (b0 : List (Int)) (little1 : Bool) : Option (Int × Int) :=
 bif (decide ((((List.length b0) : Nat) : Int) < (1 : Int))) then
  some (((0 : Int), (1 : Int)))
 else
  Option.bind (some ((cond false true (decide ((8 : Int) < (((List.length b0) : Nat) : Int)))))) fun (v3 : Bool) =>
  bif v3 then
   some (((0 : Int), (1 : Int)))
  else
   Option.bind (octs_Get_L5_R N ((b0, (little1, ((0 : Int), ((((List.length b0) : Nat) : Int), ((0 : Int), ()))))), ())) fun v4 =>
   some ((v4.1.1, (0 : Int)))
theorem octs_Get_S (b0 : List (Int)) (little1 : Bool) : (runK Tryz.prog (Ev25 N) 400 62 [(.sl (.int .u8)), .bool] [(.int .u64), (.int .i64)] (b0, little1, ())).run = octs_Get N b0 little1 := by kernel_rfl
noncomputable def Ev26 : (R : Type) → Env R := Env.addFn (Ev25 N) 62 (fun R => fnK [(.sl (.int .u8)), .bool] [(.int .u64), (.int .i64)] (fun c => octs_Get N c.1 c.2.1))
theorem Ev26_ok (R : Type) : EnvOK Tryz.prog (Ev26 N R) := EnvOK.addFn hmx (Ev25_ok N R) (Ev25_ok N _) (by kernel_rfl) (fun c => octs_Get_S N c.1 c.2.1)
noncomputable def md4_words_L3_I : LI := ⟨26, 0, [], ⟨[(1, .adr (.arr 64 (.int .u8))), (2, .lit (.box 0 0)), (3, .lit (.box 1 0)), (7, .ty (.int .i64))], [.box 144 (.arr 16 (.int .u32)), .box 144 (.arr 16 (.int .u32))]⟩, [(.exit 0, ⟨[(2, .lit (.box 0 0)), (3, .lit (.box 1 0))], [.box 144 (.arr 16 (.int .u32)), .box 144 (.arr 16 (.int .u32))]⟩)]⟩
noncomputable def md4_words_L3 (X : (((Arr Int 64) × (Int × Unit)) × ((Arr Int 16) × ((Arr Int 16) × Unit))) → Option ((Unit × ((Arr Int 16) × ((Arr Int 16) × Unit))))) (b1 : Arr Int 64) (x7 : Int) (h0 : Arr Int 16) (h1 : Arr Int 16) : Option ((Unit × ((Arr Int 16) × ((Arr Int 16) × Unit)))) :=
 bif (decide (x7 < (16 : Int))) then
  Option.bind (subI b1.l (IntKind.wrap .i64 ((4 : Int) * x7)) (IntKind.wrap .i64 ((IntKind.wrap .i64 ((4 : Int) * x7)) + 4))) fun (v6 : (List Int)) =>
  Option.bind (octs_Get N v6 true) fun v7 =>
  bif (decide ((0 : Int) ≤ x7 ∧ x7 < ((16 : Nat) : Int))) then
   Option.bind (h1.l[Int.toNat x7]?) fun (v8 : Int) =>
   (X ((b1, ((IntKind.wrap .i64 (x7 + 1)), ())), (h0, ((h1.set (Int.toNat x7) (IntKind.wrap .u32 v7.1)), ()))))
  else
   none
 else
  some (((), (h0, (h1, ()))))
noncomputable def md4_words_L3_R (c : (((Arr Int 64) × (Int × Unit)) × ((Arr Int 16) × ((Arr Int 16) × Unit)))) : Option ((Unit × ((Arr Int 16) × ((Arr Int 16) × Unit)))) := gl (fun X c => md4_words_L3 N X c.1.1 c.1.2.1 c.2.1 c.2.2.1) N c
theorem md4_words_L3_S (X : (((Arr Int 64) × (Int × Unit)) × ((Arr Int 16) × ((Arr Int 16) × Unit))) → Option ((Unit × ((Arr Int 16) × ((Arr Int 16) × Unit))))) (b1 : Arr Int 64) (x7 : Int) (h0 : Arr Int 16) (h1 : Arr Int 16) : (roundK Tryz.prog (Ev26 N) 400 [81] md4_words_L3_I (loopAt Tryz.prog [81] 3) X ((b1, x7, ()), (h0, h1, ()))).run = md4_words_L3 N X b1 x7 h0 h1 := by kernel_rfl
noncomputable def Ev27 : (R : Type) → Env R := Env.addLp (Ev26 N) [81] 0 3 (fun R => lpK Tryz.prog md4_words_L3_I (fun X c => md4_words_L3 N X c.1.1 c.1.2.1 c.2.1 c.2.2.1) N)
theorem Ev27_ok (R : Type) : EnvOK Tryz.prog (Ev27 N R) := EnvOK.addLp (Ev26_ok N R) (by kernel_rfl) (lpK_ok (li := md4_words_L3_I) (G := fun X c => md4_words_L3 N X c.1.1 c.1.2.1 c.2.1 c.2.2.1) hmx (Ev26_ok N _) (by kernel_rfl) loopAt_sub (fun (X : CT md4_words_L3_I.sh → Option (OT md4_words_L3_I.outs)) (c : CT md4_words_L3_I.sh) => md4_words_L3_S N X c.1.1 c.1.2.1 c.2.1 c.2.2.1) N)
noncomputable def md4_words (b0 : Arr Int 64) : Option (Arr Int 16) :=
 Option.bind (md4_words_L3_R N ((b0, ((0 : Int), ())), ((@Arr.cons Int 15 0 (@Arr.cons Int 14 0 (@Arr.cons Int 13 0 (@Arr.cons Int 12 0 (@Arr.cons Int 11 0 (@Arr.cons Int 10 0 (@Arr.cons Int 9 0 (@Arr.cons Int 8 0 (@Arr.cons Int 7 0 (@Arr.cons Int 6 0 (@Arr.cons Int 5 0 (@Arr.cons Int 4 0 (@Arr.cons Int 3 0 (@Arr.cons Int 2 0 (@Arr.cons Int 1 0 (@Arr.cons Int 0 0 (@Arr.nil Int))))))))))))))))), ((@Arr.cons Int 15 0 (@Arr.cons Int 14 0 (@Arr.cons Int 13 0 (@Arr.cons Int 12 0 (@Arr.cons Int 11 0 (@Arr.cons Int 10 0 (@Arr.cons Int 9 0 (@Arr.cons Int 8 0 (@Arr.cons Int 7 0 (@Arr.cons Int 6 0 (@Arr.cons Int 5 0 (@Arr.cons Int 4 0 (@Arr.cons Int 3 0 (@Arr.cons Int 2 0 (@Arr.cons Int 1 0 (@Arr.cons Int 0 0 (@Arr.nil Int))))))))))))))))), ())))) fun v2 =>
 some (v2.2.2.1)
theorem md4_words_S (b0 : Arr Int 64) : (runK Tryz.prog (Ev27 N) 400 81 [(.arr 64 (.int .u8))] [(.arr 16 (.int .u32))] (b0, ())).run = md4_words N b0 := by kernel_rfl
noncomputable def Ev28 : (R : Type) → Env R := Env.addFn (Ev27 N) 81 (fun R => fnK [(.arr 64 (.int .u8))] [(.arr 16 (.int .u32))] (fun c => md4_words N c.1))
theorem Ev28_ok (R : Type) : EnvOK Tryz.prog (Ev28 N R) := EnvOK.addFn hmx (Ev27_ok N R) (Ev27_ok N _) (by kernel_rfl) (fun c => md4_words_S N c.1)
noncomputable def md4_mixed (N : Nat) (r0 : Int) (b1 : Int) (c2 : Int) (d3 : Int) : Option Int :=
 bif (decide (r0 = (0 : Int))) then
  some ((bits .or .u32 (bits .and .u32 b1 c2) (bits .and .u32 (bits .xor .u32 (@ite Int (@Eq Bool (@IntKind.signed @IntKind.u32) true) (@instDecidableEqBool (@IntKind.signed @IntKind.u32) true) (-1 : Int) (@IntKind.max @IntKind.u32)) b1) d3)))
 else
  bif (decide (r0 = (1 : Int))) then
   some ((bits .or .u32 (bits .or .u32 (bits .and .u32 b1 c2) (bits .and .u32 b1 d3)) (bits .and .u32 c2 d3)))
  else
   some ((bits .xor .u32 (bits .xor .u32 b1 c2) d3))
theorem md4_mixed_S (r0 : Int) (b1 : Int) (c2 : Int) (d3 : Int) : (runK Tryz.prog (Ev28 N) 400 82 [(.int .i64), (.int .u32), (.int .u32), (.int .u32)] [(.int .u32)] (r0, b1, c2, d3, ())).run = md4_mixed N r0 b1 c2 d3 := by kernel_rfl
noncomputable def Ev29 : (R : Type) → Env R := Env.addFn (Ev28 N) 82 (fun R => fnK [(.int .i64), (.int .u32), (.int .u32), (.int .u32)] [(.int .u32)] (fun c => md4_mixed N c.1 c.2.1 c.2.2.1 c.2.2.2.1))
theorem Ev29_ok (R : Type) : EnvOK Tryz.prog (Ev29 N R) := EnvOK.addFn hmx (Ev28_ok N R) (Ev28_ok N _) (by kernel_rfl) (fun c => md4_mixed_S N c.1 c.2.1 c.2.2.1 c.2.2.2.1)
noncomputable def md4_place (N : Nat) (i0 : Int) : Option Int :=
 bif (decide ((IntKind.wrap .i64 (@Int.tdiv i0 (16 : Int))) = (0 : Int))) then
  some ((@Int.tmod i0 (16 : Int)))
 else
  bif (decide ((IntKind.wrap .i64 (@Int.tdiv i0 (16 : Int))) = (1 : Int))) then
   some ((IntKind.wrap .i64 ((IntKind.wrap .i64 ((4 : Int) * (@Int.tmod (@Int.tmod i0 (16 : Int)) (4 : Int)))) + (IntKind.wrap .i64 (@Int.tdiv (@Int.tmod i0 (16 : Int)) (4 : Int))))))
  else
   Option.bind (getI ([0, 8, 4, 12, 2, 10, 6, 14, 1, 9, 5, 13, 3, 11, 7, 15] : List Int) (@Int.tmod i0 (16 : Int))) fun (v2 : Int) =>
   some (v2)
theorem md4_place_S (i0 : Int) : (runK Tryz.prog (Ev29 N) 400 83 [(.int .i64)] [(.int .i64)] (i0, ())).run = md4_place N i0 := by kernel_rfl
noncomputable def Ev30 : (R : Type) → Env R := Env.addFn (Ev29 N) 83 (fun R => fnK [(.int .i64)] [(.int .i64)] (fun c => md4_place N c.1))
theorem Ev30_ok (R : Type) : EnvOK Tryz.prog (Ev30 N R) := EnvOK.addFn hmx (Ev29_ok N R) (Ev29_ok N _) (by kernel_rfl) (fun c => md4_place_S N c.1)
noncomputable def math_bits_RotateLeft32 (N : Nat) (x0 : Int) (k1 : Int) : Option Int :=
 bif (decide ((0 : Int) ≤ (IntKind.wrap .u64 ((32 : Int) - (bits .and .u64 (IntKind.wrap .u64 k1) (31 : Int)))))) then
  some ((bits .or .u32 (IntKind.wrap .u32 (x0 * ((2 : Int) ^ (min (Int.toNat (bits .and .u64 (IntKind.wrap .u64 k1) (31 : Int))) (IntKind.bits .u32))))) (@Int.fdiv x0 ((2 : Int) ^ (min (Int.toNat (IntKind.wrap .u64 ((32 : Int) - (bits .and .u64 (IntKind.wrap .u64 k1) (31 : Int))))) (IntKind.bits .u32))))))
 else
  none
theorem math_bits_RotateLeft32_S (x0 : Int) (k1 : Int) : (runK Tryz.prog (Ev30 N) 400 84 [(.int .u32), (.int .i64)] [(.int .u32)] (x0, k1, ())).run = math_bits_RotateLeft32 N x0 k1 := by kernel_rfl
noncomputable def Ev31 : (R : Type) → Env R := Env.addFn (Ev30 N) 84 (fun R => fnK [(.int .u32), (.int .i64)] [(.int .u32)] (fun c => math_bits_RotateLeft32 N c.1 c.2.1))
theorem Ev31_ok (R : Type) : EnvOK Tryz.prog (Ev31 N R) := EnvOK.addFn hmx (Ev30_ok N R) (Ev30_ok N _) (by kernel_rfl) (fun c => math_bits_RotateLeft32_S N c.1 c.2.1)
noncomputable def md4_behind_L4_I : LI := ⟨70, 0, [], ⟨[(3, .adr (.arr 4 (.int .u32))), (5, .adr (.arr 3 (.int .u32))), (6, .lit (.box 0 0)), (7, .lit (.box 1 0)), (8, .lit (.box 2 0)), (16, .ty (.int .i64))], [.box 112 (.arr 4 (.int .u32)), .box 144 (.arr 16 (.int .u32)), .box 112 (.arr 4 (.int .u32))]⟩, [(.exit 0, ⟨[(3, .adr (.arr 4 (.int .u32))), (6, .lit (.box 0 0)), (8, .lit (.box 1 0))], [.box 112 (.arr 4 (.int .u32)), .box 112 (.arr 4 (.int .u32))]⟩)]⟩
noncomputable def md4_behind_L4 (X : (((Arr Int 4) × ((Arr Int 3) × (Int × Unit))) × ((Arr Int 4) × ((Arr Int 16) × ((Arr Int 4) × Unit)))) → Option ((((Arr Int 4) × Unit) × ((Arr Int 4) × ((Arr Int 4) × Unit))))) (s3 : Arr Int 4) (k5 : Arr Int 3) (x16 : Int) (h0 : Arr Int 4) (h1 : Arr Int 16) (h2 : Arr Int 4) : Option ((((Arr Int 4) × Unit) × ((Arr Int 4) × ((Arr Int 4) × Unit)))) :=
 bif (decide (x16 < (48 : Int))) then
  Option.bind (h2.l[Int.toNat (0 : Int)]?) fun (v8 : Int) =>
  Option.bind (h2.l[Int.toNat (1 : Int)]?) fun (v9 : Int) =>
  Option.bind (h2.l[Int.toNat (2 : Int)]?) fun (v10 : Int) =>
  Option.bind (h2.l[Int.toNat (3 : Int)]?) fun (v11 : Int) =>
  Option.bind (md4_mixed N (IntKind.wrap .i64 (@Int.tdiv x16 (16 : Int))) v9 v10 v11) fun v12 =>
  Option.bind (md4_place N x16) fun v13 =>
  bif (decide ((0 : Int) ≤ v13 ∧ v13 < ((16 : Nat) : Int))) then
   Option.bind (h1.l[Int.toNat v13]?) fun (v14 : Int) =>
   Option.bind (getI k5.l (IntKind.wrap .i64 (@Int.tdiv x16 (16 : Int)))) fun (v15 : Int) =>
   Option.bind (h2.l[Int.toNat (3 : Int)]?) fun (v16 : Int) =>
   Option.bind (getI ([(@Arr.mk Int (4 : Nat) ([3, 7, 11, 19] : List Int) @globVs._proof_3), (@Arr.mk Int (4 : Nat) ([3, 5, 9, 13] : List Int) @globVs._proof_4), (@Arr.mk Int (4 : Nat) ([3, 9, 11, 15] : List Int) @globVs._proof_5)] : List ((Arr Int 4))) (IntKind.wrap .i64 (@Int.tdiv x16 (16 : Int)))) fun (v17 : (Arr Int 4)) =>
   Option.bind (getI v17.l (@Int.tmod x16 (4 : Int))) fun (v18 : Int) =>
   Option.bind (math_bits_RotateLeft32 N (IntKind.wrap .u32 ((IntKind.wrap .u32 ((IntKind.wrap .u32 (v8 + v12)) + v14)) + v15)) v18) fun v19 =>
   Option.bind (h2.l[Int.toNat (1 : Int)]?) fun (v20 : Int) =>
   Option.bind (h2.l[Int.toNat (2 : Int)]?) fun (v21 : Int) =>
   (X ((s3, (k5, ((IntKind.wrap .i64 (x16 + 1)), ()))), (h0, (h1, ((@Arr.cons Int (3 : Nat) v16 (@Arr.cons Int (2 : Nat) v19 (@Arr.cons Int (1 : Nat) v20 (@Arr.cons Int (0 : Nat) v21 (@Arr.nil Int))))), ())))))
  else
   none
 else
  some (((s3, ()), (h0, (h2, ()))))
noncomputable def md4_behind_L4_R (c : (((Arr Int 4) × ((Arr Int 3) × (Int × Unit))) × ((Arr Int 4) × ((Arr Int 16) × ((Arr Int 4) × Unit))))) : Option ((((Arr Int 4) × Unit) × ((Arr Int 4) × ((Arr Int 4) × Unit)))) := gl (fun X c => md4_behind_L4 N X c.1.1 c.1.2.1 c.1.2.2.1 c.2.1 c.2.2.1 c.2.2.2.1) N c
theorem md4_behind_L4_S (X : (((Arr Int 4) × ((Arr Int 3) × (Int × Unit))) × ((Arr Int 4) × ((Arr Int 16) × ((Arr Int 4) × Unit)))) → Option ((((Arr Int 4) × Unit) × ((Arr Int 4) × ((Arr Int 4) × Unit))))) (s3 : Arr Int 4) (k5 : Arr Int 3) (x16 : Int) (h0 : Arr Int 4) (h1 : Arr Int 16) (h2 : Arr Int 4) : (roundK Tryz.prog (Ev31 N) 400 [58] md4_behind_L4_I (loopAt Tryz.prog [58] 4) X ((s3, k5, x16, ()), (h0, h1, h2, ()))).run = md4_behind_L4 N X s3 k5 x16 h0 h1 h2 := by kernel_rfl
noncomputable def Ev32 : (R : Type) → Env R := Env.addLp (Ev31 N) [58] 0 4 (fun R => lpK Tryz.prog md4_behind_L4_I (fun X c => md4_behind_L4 N X c.1.1 c.1.2.1 c.1.2.2.1 c.2.1 c.2.2.1 c.2.2.2.1) N)
theorem Ev32_ok (R : Type) : EnvOK Tryz.prog (Ev32 N R) := EnvOK.addLp (Ev31_ok N R) (by kernel_rfl) (lpK_ok (li := md4_behind_L4_I) (G := fun X c => md4_behind_L4 N X c.1.1 c.1.2.1 c.1.2.2.1 c.2.1 c.2.2.1 c.2.2.2.1) hmx (Ev31_ok N _) (by kernel_rfl) loopAt_sub (fun (X : CT md4_behind_L4_I.sh → Option (OT md4_behind_L4_I.outs)) (c : CT md4_behind_L4_I.sh) => md4_behind_L4_S N X c.1.1 c.1.2.1 c.1.2.2.1 c.2.1 c.2.2.1 c.2.2.2.1) N)
noncomputable def md4_behind_L11_I : LI := ⟨70, 0, [], ⟨[(3, .adr (.arr 4 (.int .u32))), (6, .lit (.box 0 0)), (8, .lit (.box 1 0)), (57, .ty (.int .i64))], [.box 112 (.arr 4 (.int .u32)), .box 112 (.arr 4 (.int .u32))]⟩, [(.exit 2, ⟨[(6, .lit (.box 0 0)), (8, .lit (.box 1 0))], [.box 112 (.arr 4 (.int .u32)), .box 112 (.arr 4 (.int .u32))]⟩)]⟩
noncomputable def md4_behind_L11 (N : Nat) (X : (((Arr Int 4) × (Int × Unit)) × ((Arr Int 4) × ((Arr Int 4) × Unit))) → Option ((Unit × ((Arr Int 4) × ((Arr Int 4) × Unit))))) (s3 : Arr Int 4) (x57 : Int) (h0 : Arr Int 4) (h1 : Arr Int 4) : Option ((Unit × ((Arr Int 4) × ((Arr Int 4) × Unit)))) :=
 bif (decide (x57 < (4 : Int))) then
  bif (decide ((0 : Int) ≤ x57 ∧ x57 < ((4 : Nat) : Int))) then
   Option.bind (h1.l[Int.toNat x57]?) fun (v6 : Int) =>
   Option.bind (getI s3.l x57) fun (v7 : Int) =>
   bif (decide ((0 : Int) ≤ x57 ∧ x57 < ((4 : Nat) : Int))) then
    Option.bind (h1.l[Int.toNat x57]?) fun (v8 : Int) =>
    (X ((s3, ((IntKind.wrap .i64 (x57 + 1)), ())), (h0, ((h1.set (Int.toNat x57) (IntKind.wrap .u32 (v6 + v7))), ()))))
   else
    none
  else
   none
 else
  some (((), (h0, (h1, ()))))
noncomputable def md4_behind_L11_R (c : (((Arr Int 4) × (Int × Unit)) × ((Arr Int 4) × ((Arr Int 4) × Unit)))) : Option ((Unit × ((Arr Int 4) × ((Arr Int 4) × Unit)))) := gl (fun X c => md4_behind_L11 N X c.1.1 c.1.2.1 c.2.1 c.2.2.1) N c
theorem md4_behind_L11_S (X : (((Arr Int 4) × (Int × Unit)) × ((Arr Int 4) × ((Arr Int 4) × Unit))) → Option ((Unit × ((Arr Int 4) × ((Arr Int 4) × Unit))))) (s3 : Arr Int 4) (x57 : Int) (h0 : Arr Int 4) (h1 : Arr Int 4) : (roundK Tryz.prog (Ev32 N) 400 [58] md4_behind_L11_I (loopAt Tryz.prog [58] 11) X ((s3, x57, ()), (h0, h1, ()))).run = md4_behind_L11 N X s3 x57 h0 h1 := by kernel_rfl
noncomputable def Ev33 : (R : Type) → Env R := Env.addLp (Ev32 N) [58] 0 11 (fun R => lpK Tryz.prog md4_behind_L11_I (fun X c => md4_behind_L11 N X c.1.1 c.1.2.1 c.2.1 c.2.2.1) N)
theorem Ev33_ok (R : Type) : EnvOK Tryz.prog (Ev33 N R) := EnvOK.addLp (Ev32_ok N R) (by kernel_rfl) (lpK_ok (li := md4_behind_L11_I) (G := fun X c => md4_behind_L11 N X c.1.1 c.1.2.1 c.2.1 c.2.2.1) hmx (Ev32_ok N _) (by kernel_rfl) loopAt_sub (fun (X : CT md4_behind_L11_I.sh → Option (OT md4_behind_L11_I.outs)) (c : CT md4_behind_L11_I.sh) => md4_behind_L11_S N X c.1.1 c.1.2.1 c.2.1 c.2.2.1) N)
noncomputable def md4_behind (s0 : Arr Int 4) (b1 : Arr Int 64) (k2 : Arr Int 3) : Option (Arr Int 4) :=
 Option.bind (md4_words N b1) fun v4 =>
 Option.bind (md4_behind_L4_R N ((s0, (k2, ((0 : Int), ()))), ((@Arr.cons Int 3 0 (@Arr.cons Int 2 0 (@Arr.cons Int 1 0 (@Arr.cons Int 0 0 (@Arr.nil Int))))), (v4, (s0, ()))))) fun v5 =>
 Option.bind (md4_behind_L11_R N ((v5.1.1, ((0 : Int), ())), (v5.2.1, (v5.2.2.1, ())))) fun v6 =>
 some (v6.2.2.1)
theorem md4_behind_S (s0 : Arr Int 4) (b1 : Arr Int 64) (k2 : Arr Int 3) : (runK Tryz.prog (Ev33 N) 400 58 [(.arr 4 (.int .u32)), (.arr 64 (.int .u8)), (.arr 3 (.int .u32))] [(.arr 4 (.int .u32))] (s0, b1, k2, ())).run = md4_behind N s0 b1 k2 := by kernel_rfl
noncomputable def Ev34 : (R : Type) → Env R := Env.addFn (Ev33 N) 58 (fun R => fnK [(.arr 4 (.int .u32)), (.arr 64 (.int .u8)), (.arr 3 (.int .u32))] [(.arr 4 (.int .u32))] (fun c => md4_behind N c.1 c.2.1 c.2.2.1))
theorem Ev34_ok (R : Type) : EnvOK Tryz.prog (Ev34 N R) := EnvOK.addFn hmx (Ev33_ok N R) (Ev33_ok N _) (by kernel_rfl) (fun c => md4_behind_S N c.1 c.2.1 c.2.2.1)
noncomputable def md4_Of_L5_I : LI := ⟨35, 0, [], ⟨[(2, .lit (.box 0 0)), (3, .ty (.sl (.int .u8))), (4, .lit (.box 1 0)), (5, .lit (.box 2 0)), (6, .ty (.int .i64))], [.box 52 (.arr 16 (.int .u8)), .box 112 (.arr 4 (.int .u32)), .box 114 (.arr 3 (.int .u32))]⟩, [(.exit 0, ⟨[(2, .lit (.box 0 0)), (4, .lit (.box 1 0))], [.box 52 (.arr 16 (.int .u8)), .box 112 (.arr 4 (.int .u32))]⟩)]⟩
noncomputable def md4_Of_L5 (X : (((List Int) × (Int × Unit)) × ((Arr Int 16) × ((Arr Int 4) × ((Arr Int 3) × Unit)))) → Option ((Unit × ((Arr Int 16) × ((Arr Int 4) × Unit))))) (all3 : List (Int)) (i6 : Int) (h0 : Arr Int 16) (h1 : Arr Int 4) (h2 : Arr Int 3) : Option ((Unit × ((Arr Int 16) × ((Arr Int 4) × Unit)))) :=
 bif (decide (i6 < (((List.length all3) : Nat) : Int))) then
  Option.bind (subI all3 i6 (IntKind.wrap .i64 (i6 + 64))) fun (v7 : (List Int)) =>
  Option.bind (@toArr Int (64 : Nat) v7) fun (v8 : (Arr Int 64)) =>
  Option.bind (md4_behind N h1 v8 h2) fun v9 =>
  (X ((all3, ((IntKind.wrap .i64 (i6 + 64)), ())), (h0, (v9, (h2, ())))))
 else
  some (((), (h0, (h1, ()))))
noncomputable def md4_Of_L5_R (c : (((List Int) × (Int × Unit)) × ((Arr Int 16) × ((Arr Int 4) × ((Arr Int 3) × Unit))))) : Option ((Unit × ((Arr Int 16) × ((Arr Int 4) × Unit)))) := gl (fun X c => md4_Of_L5 N X c.1.1 c.1.2.1 c.2.1 c.2.2.1 c.2.2.2.1) N c
theorem md4_Of_L5_S (X : (((List Int) × (Int × Unit)) × ((Arr Int 16) × ((Arr Int 4) × ((Arr Int 3) × Unit)))) → Option ((Unit × ((Arr Int 16) × ((Arr Int 4) × Unit))))) (all3 : List (Int)) (i6 : Int) (h0 : Arr Int 16) (h1 : Arr Int 4) (h2 : Arr Int 3) : (roundK Tryz.prog (Ev34 N) 400 [40] md4_Of_L5_I (loopAt Tryz.prog [40] 5) X ((all3, i6, ()), (h0, h1, h2, ()))).run = md4_Of_L5 N X all3 i6 h0 h1 h2 := by kernel_rfl
noncomputable def Ev35 : (R : Type) → Env R := Env.addLp (Ev34 N) [40] 0 5 (fun R => lpK Tryz.prog md4_Of_L5_I (fun X c => md4_Of_L5 N X c.1.1 c.1.2.1 c.2.1 c.2.2.1 c.2.2.2.1) N)
theorem Ev35_ok (R : Type) : EnvOK Tryz.prog (Ev35 N R) := EnvOK.addLp (Ev34_ok N R) (by kernel_rfl) (lpK_ok (li := md4_Of_L5_I) (G := fun X c => md4_Of_L5 N X c.1.1 c.1.2.1 c.2.1 c.2.2.1 c.2.2.2.1) hmx (Ev34_ok N _) (by kernel_rfl) loopAt_sub (fun (X : CT md4_Of_L5_I.sh → Option (OT md4_Of_L5_I.outs)) (c : CT md4_Of_L5_I.sh) => md4_Of_L5_S N X c.1.1 c.1.2.1 c.2.1 c.2.2.1 c.2.2.2.1) N)
noncomputable def Ev36 : (R : Type) → Env R := Env.addBx (Ev35 N) [(59, 0)]
theorem Ev36_ok (R : Type) : EnvOK Tryz.prog (Ev36 N R) := EnvOK.addBx (Ev35_ok N R) [(59, 0)]
noncomputable def md4_digest_L3_I : LI := ⟨25, 0, [(3, 5)], ⟨[(2, .lit (.box 0 0)), (3, .lit (.own 1)), (8, .ty (.arr 4 (.int .u32))), (9, .ty (.int .i64))], [.box 52 (.arr 16 (.int .u8)), .own (.int .u8) 5]⟩, [(.exit 0, ⟨[(2, .lit (.box 0 0)), (3, .lit (.own 1))], [.box 52 (.arr 16 (.int .u8)), .own (.int .u8) 5]⟩)]⟩
noncomputable def md4_digest_L3 (X : (((Arr Int 4) × (Int × Unit)) × ((Arr Int 16) × ((List Int) × Unit))) → Option ((Unit × ((Arr Int 16) × ((List Int) × Unit))))) (x8 : Arr Int 4) (x9 : Int) (h0 : Arr Int 16) (h1 : List (Int)) : Option ((Unit × ((Arr Int 16) × ((List Int) × Unit)))) :=
 bif (decide (x9 < (4 : Int))) then
  Option.bind (getI x8.l x9) fun (v6 : Int) =>
  Option.bind (octs_Put N (IntKind.wrap .u64 v6) (4 : Int) true) fun v7 =>
  bif (roomB ((List.length h1) + (List.length v7.1)) 1) then
   (X ((x8, ((IntKind.wrap .i64 (x9 + 1)), ())), (h0, ((h1 ++ v7.1), ()))))
  else
   none
 else
  some (((), (h0, (h1, ()))))
noncomputable def md4_digest_L3_R (c : (((Arr Int 4) × (Int × Unit)) × ((Arr Int 16) × ((List Int) × Unit)))) : Option ((Unit × ((Arr Int 16) × ((List Int) × Unit)))) := gl (fun X c => md4_digest_L3 N X c.1.1 c.1.2.1 c.2.1 c.2.2.1) N c
theorem md4_digest_L3_S (X : (((Arr Int 4) × (Int × Unit)) × ((Arr Int 16) × ((List Int) × Unit))) → Option ((Unit × ((Arr Int 16) × ((List Int) × Unit))))) (x8 : Arr Int 4) (x9 : Int) (h0 : Arr Int 16) (h1 : List (Int)) : (roundK Tryz.prog (Ev36 N) 400 [59] md4_digest_L3_I (loopAt Tryz.prog [59] 3) X ((x8, x9, ()), (h0, h1, ()))).run = md4_digest_L3 N X x8 x9 h0 h1 := by kernel_rfl
noncomputable def Ev37 : (R : Type) → Env R := Env.addLp (Ev36 N) [59] 0 3 (fun R => lpK Tryz.prog md4_digest_L3_I (fun X c => md4_digest_L3 N X c.1.1 c.1.2.1 c.2.1 c.2.2.1) N)
theorem Ev37_ok (R : Type) : EnvOK Tryz.prog (Ev37 N R) := EnvOK.addLp (Ev36_ok N R) (by kernel_rfl) (lpK_ok (li := md4_digest_L3_I) (G := fun X c => md4_digest_L3 N X c.1.1 c.1.2.1 c.2.1 c.2.2.1) hmx (Ev36_ok N _) (by kernel_rfl) loopAt_sub (fun (X : CT md4_digest_L3_I.sh → Option (OT md4_digest_L3_I.outs)) (c : CT md4_digest_L3_I.sh) => md4_digest_L3_S N X c.1.1 c.1.2.1 c.2.1 c.2.2.1) N)
noncomputable def md4_digest (s0 : Arr Int 4) : Option (Arr Int 16) :=
 Option.bind (md4_digest_L3_R N ((s0, ((0 : Int), ())), ((@Arr.cons Int 15 0 (@Arr.cons Int 14 0 (@Arr.cons Int 13 0 (@Arr.cons Int 12 0 (@Arr.cons Int 11 0 (@Arr.cons Int 10 0 (@Arr.cons Int 9 0 (@Arr.cons Int 8 0 (@Arr.cons Int 7 0 (@Arr.cons Int 6 0 (@Arr.cons Int 5 0 (@Arr.cons Int 4 0 (@Arr.cons Int 3 0 (@Arr.cons Int 2 0 (@Arr.cons Int 1 0 (@Arr.cons Int 0 0 (@Arr.nil Int))))))))))))))))), (([] : List Int), ())))) fun v2 =>
 Option.bind (@toArr Int (16 : Nat) v2.2.2.1) fun (v3 : (Arr Int 16)) =>
 some (v3)
theorem md4_digest_S (s0 : Arr Int 4) : (runK Tryz.prog (Ev37 N) 400 59 [(.arr 4 (.int .u32))] [(.arr 16 (.int .u8))] (s0, ())).run = md4_digest N s0 := by kernel_rfl
noncomputable def Ev38 : (R : Type) → Env R := Env.addFn (Ev37 N) 59 (fun R => fnK [(.arr 4 (.int .u32))] [(.arr 16 (.int .u8))] (fun c => md4_digest N c.1))
theorem Ev38_ok (R : Type) : EnvOK Tryz.prog (Ev38 N R) := EnvOK.addFn hmx (Ev37_ok N R) (Ev37_ok N _) (by kernel_rfl) (fun c => md4_digest_S N c.1)
noncomputable def md4_Of (parts0 : List (List Int)) : Option (Arr Int 16) :=
 Option.bind (md4_Of_1_octs_Join_L3_R N ((parts0, ((0 : Int), (parts0, ((((List.length parts0) : Nat) : Int), ((0 : Int), ()))))), ((@Arr.cons Int 15 0 (@Arr.cons Int 14 0 (@Arr.cons Int 13 0 (@Arr.cons Int 12 0 (@Arr.cons Int 11 0 (@Arr.cons Int 10 0 (@Arr.cons Int 9 0 (@Arr.cons Int 8 0 (@Arr.cons Int 7 0 (@Arr.cons Int 6 0 (@Arr.cons Int 5 0 (@Arr.cons Int 4 0 (@Arr.cons Int 3 0 (@Arr.cons Int 2 0 (@Arr.cons Int 1 0 (@Arr.cons Int 0 0 (@Arr.nil Int))))))))))))))))), ()))) fun v2 =>
 bif ((decide ((0 : Int) ≤ (0 : Int) ∧ (0 : Int) ≤ v2.1.2.1)) && (roomB (Int.toNat v2.1.2.1) 1)) then
  Option.bind (md4_Of_1_octs_Join_L9_R N ((v2.1.1, ((((List.length v2.1.1) : Nat) : Int), ((0 : Int), ()))), (v2.2.1, ((@List.replicate Int (Int.toNat (0 : Int)) (0 : Int)), ())))) fun v3 =>
  Option.bind (md4_Tail N (IntKind.wrap .u64 (((List.length v3.2.2.1) : Nat) : Int))) fun v4 =>
  bif (roomB ((List.length v3.2.2.1) + (List.length v4)) 1) then
   Option.bind (@md4_constants N) fun (v5 : (Arr Int 3)) =>
   Option.bind (md4_Of_L5_R N (((v3.2.2.1 ++ v4), ((0 : Int), ())), (v3.2.1, ((@Arr.cons Int 3 1732584193 (@Arr.cons Int 2 4023233417 (@Arr.cons Int 1 2562383102 (@Arr.cons Int 0 271733878 (@Arr.nil Int))))), (v5, ()))))) fun v6 =>
   Option.bind (md4_digest N v6.2.2.1) fun v7 =>
   some (v7)
  else
   none
 else
  none
theorem md4_Of_S (parts0 : List (List Int)) : (runK Tryz.prog (Ev38 N) 400 40 [(.sl (.sl (.int .u8)))] [(.arr 16 (.int .u8))] (parts0, ())).run = md4_Of N parts0 := by kernel_rfl
noncomputable def Ev39 : (R : Type) → Env R := Env.addFn (Ev38 N) 40 (fun R => fnK [(.sl (.sl (.int .u8)))] [(.arr 16 (.int .u8))] (fun c => md4_Of N c.1))
theorem Ev39_ok (R : Type) : EnvOK Tryz.prog (Ev39 N R) := EnvOK.addFn hmx (Ev38_ok N R) (Ev38_ok N _) (by kernel_rfl) (fun c => md4_Of_S N c.1)
noncomputable def sha1_Tail_3_octs_Join_L3_I : LI := ⟨33, 1, [], ⟨[(0, .ty (.sl (.sl (.int .u8)))), (3, .ty (.int .i64)), (9, .ty (.sl (.sl (.int .u8)))), (10, .ty (.int .i64)), (11, .ty (.int .i64))], [.dead]⟩, [(.exit 0, ⟨[(0, .ty (.sl (.sl (.int .u8)))), (3, .ty (.int .i64))], [.dead]⟩)]⟩
noncomputable def sha1_Tail_3_octs_Join_L3 (N : Nat) (X : (((List (List Int)) × (Int × ((List (List Int)) × (Int × (Int × Unit))))) × Unit) → Option ((((List (List Int)) × (Int × Unit)) × Unit))) (parts0 : List (List Int)) (size3 : Int) (x9 : List (List Int)) (x10 : Int) (x11 : Int) : Option ((((List (List Int)) × (Int × Unit)) × Unit)) :=
 bif (decide (x11 < x10)) then
  Option.bind (getI x9 x11) fun (v7 : (List Int)) =>
  (X ((parts0, ((IntKind.wrap .i64 (size3 + (((List.length v7) : Nat) : Int))), (x9, (x10, ((IntKind.wrap .i64 (x11 + 1)), ()))))), ()))
 else
  some (((parts0, (size3, ())), ()))
noncomputable def sha1_Tail_3_octs_Join_L3_R (c : (((List (List Int)) × (Int × ((List (List Int)) × (Int × (Int × Unit))))) × Unit)) : Option ((((List (List Int)) × (Int × Unit)) × Unit)) := gl (fun X c => sha1_Tail_3_octs_Join_L3 N X c.1.1 c.1.2.1 c.1.2.2.1 c.1.2.2.2.1 c.1.2.2.2.2.1) N c
theorem sha1_Tail_3_octs_Join_L3_S (X : (((List (List Int)) × (Int × ((List (List Int)) × (Int × (Int × Unit))))) × Unit) → Option ((((List (List Int)) × (Int × Unit)) × Unit))) (parts0 : List (List Int)) (size3 : Int) (x9 : List (List Int)) (x10 : Int) (x11 : Int) : (roundK Tryz.prog (Ev39 N) 400 [30, 3, 64] sha1_Tail_3_octs_Join_L3_I (loopAt Tryz.prog [30, 3, 64] 3) X ((parts0, size3, x9, x10, x11, ()), ())).run = sha1_Tail_3_octs_Join_L3 N X parts0 size3 x9 x10 x11 := by kernel_rfl
noncomputable def Ev40 : (R : Type) → Env R := Env.addLp (Ev39 N) [30, 3, 64] 1 3 (fun R => lpK Tryz.prog sha1_Tail_3_octs_Join_L3_I (fun X c => sha1_Tail_3_octs_Join_L3 N X c.1.1 c.1.2.1 c.1.2.2.1 c.1.2.2.2.1 c.1.2.2.2.2.1) N)
theorem Ev40_ok (R : Type) : EnvOK Tryz.prog (Ev40 N R) := EnvOK.addLp (Ev39_ok N R) (by kernel_rfl) (lpK_ok (li := sha1_Tail_3_octs_Join_L3_I) (G := fun X c => sha1_Tail_3_octs_Join_L3 N X c.1.1 c.1.2.1 c.1.2.2.1 c.1.2.2.2.1 c.1.2.2.2.2.1) hmx (Ev39_ok N _) (by kernel_rfl) loopAt_sub (fun (X : CT sha1_Tail_3_octs_Join_L3_I.sh → Option (OT sha1_Tail_3_octs_Join_L3_I.outs)) (c : CT sha1_Tail_3_octs_Join_L3_I.sh) => sha1_Tail_3_octs_Join_L3_S N X c.1.1 c.1.2.1 c.1.2.2.1 c.1.2.2.2.1 c.1.2.2.2.2.1) N)
noncomputable def sha1_Tail_3_octs_Join_L9_I : LI := ⟨33, 1, [], ⟨[(6, .lit (.own 1)), (22, .ty (.sl (.sl (.int .u8)))), (23, .ty (.int .i64)), (24, .ty (.int .i64))], [.dead, .own (.int .u8) 5]⟩, [(.exit 2, ⟨[(6, .lit (.own 1))], [.dead, .own (.int .u8) 5]⟩)]⟩
noncomputable def sha1_Tail_3_octs_Join_L9 (N : Nat) (X : (((List (List Int)) × (Int × (Int × Unit))) × ((List Int) × Unit)) → Option ((Unit × ((List Int) × Unit)))) (x22 : List (List Int)) (x23 : Int) (x24 : Int) (h0 : List (Int)) : Option ((Unit × ((List Int) × Unit))) :=
 bif (decide (x24 < x23)) then
  Option.bind (getI x22 x24) fun (v6 : (List Int)) =>
  bif (roomB ((List.length h0) + (List.length v6)) 1) then
   (X ((x22, (x23, ((IntKind.wrap .i64 (x24 + 1)), ()))), ((h0 ++ v6), ())))
  else
   none
 else
  some (((), (h0, ())))
noncomputable def sha1_Tail_3_octs_Join_L9_R (c : (((List (List Int)) × (Int × (Int × Unit))) × ((List Int) × Unit))) : Option ((Unit × ((List Int) × Unit))) := gl (fun X c => sha1_Tail_3_octs_Join_L9 N X c.1.1 c.1.2.1 c.1.2.2.1 c.2.1) N c
theorem sha1_Tail_3_octs_Join_L9_S (X : (((List (List Int)) × (Int × (Int × Unit))) × ((List Int) × Unit)) → Option ((Unit × ((List Int) × Unit)))) (x22 : List (List Int)) (x23 : Int) (x24 : Int) (h0 : List (Int)) : (roundK Tryz.prog (Ev40 N) 400 [30, 3, 64] sha1_Tail_3_octs_Join_L9_I (loopAt Tryz.prog [30, 3, 64] 9) X ((x22, x23, x24, ()), (h0, ()))).run = sha1_Tail_3_octs_Join_L9 N X x22 x23 x24 h0 := by kernel_rfl
noncomputable def Ev41 : (R : Type) → Env R := Env.addLp (Ev40 N) [30, 3, 64] 1 9 (fun R => lpK Tryz.prog sha1_Tail_3_octs_Join_L9_I (fun X c => sha1_Tail_3_octs_Join_L9 N X c.1.1 c.1.2.1 c.1.2.2.1 c.2.1) N)
theorem Ev41_ok (R : Type) : EnvOK Tryz.prog (Ev41 N R) := EnvOK.addLp (Ev40_ok N R) (by kernel_rfl) (lpK_ok (li := sha1_Tail_3_octs_Join_L9_I) (G := fun X c => sha1_Tail_3_octs_Join_L9 N X c.1.1 c.1.2.1 c.1.2.2.1 c.2.1) hmx (Ev40_ok N _) (by kernel_rfl) loopAt_sub (fun (X : CT sha1_Tail_3_octs_Join_L9_I.sh → Option (OT sha1_Tail_3_octs_Join_L9_I.outs)) (c : CT sha1_Tail_3_octs_Join_L9_I.sh) => sha1_Tail_3_octs_Join_L9_S N X c.1.1 c.1.2.1 c.1.2.2.1 c.2.1) N)
noncomputable def sha1_Tail (n0 : Int) : Option (List Int) :=
 Option.bind (octs_Put N (IntKind.wrap .u64 ((8 : Int) * n0)) (8 : Int) false) fun v2 =>
 bif ((decide ((0 : Int) ≤ (@Int.tmod (IntKind.wrap .u64 ((119 : Int) - (@Int.tmod n0 (64 : Int)))) (64 : Int)) ∧ (@Int.tmod (IntKind.wrap .u64 ((119 : Int) - (@Int.tmod n0 (64 : Int)))) (64 : Int)) ≤ (@Int.tmod (IntKind.wrap .u64 ((119 : Int) - (@Int.tmod n0 (64 : Int)))) (64 : Int)))) && (roomB (Int.toNat (@Int.tmod (IntKind.wrap .u64 ((119 : Int) - (@Int.tmod n0 (64 : Int)))) (64 : Int))) 1)) then
  Option.bind (sha1_Tail_3_octs_Join_L3_R N ((([([128] : List Int), (@List.replicate Int (Int.toNat (@Int.tmod (IntKind.wrap .u64 ((119 : Int) - (@Int.tmod n0 (64 : Int)))) (64 : Int))) (0 : Int)), v2.1] : List ((List Int))), ((0 : Int), (([([128] : List Int), (@List.replicate Int (Int.toNat (@Int.tmod (IntKind.wrap .u64 ((119 : Int) - (@Int.tmod n0 (64 : Int)))) (64 : Int))) (0 : Int)), v2.1] : List ((List Int))), ((((List.length ([([128] : List Int), (@List.replicate Int (Int.toNat (@Int.tmod (IntKind.wrap .u64 ((119 : Int) - (@Int.tmod n0 (64 : Int)))) (64 : Int))) (0 : Int)), v2.1] : List ((List Int)))) : Nat) : Int), ((0 : Int), ()))))), ())) fun v3 =>
  bif ((decide ((0 : Int) ≤ (0 : Int) ∧ (0 : Int) ≤ v3.1.2.1)) && (roomB (Int.toNat v3.1.2.1) 1)) then
   Option.bind (sha1_Tail_3_octs_Join_L9_R N ((v3.1.1, ((((List.length v3.1.1) : Nat) : Int), ((0 : Int), ()))), ((@List.replicate Int (Int.toNat (0 : Int)) (0 : Int)), ()))) fun v4 =>
   some (v4.2.1)
  else
   none
 else
  none
theorem sha1_Tail_S (n0 : Int) : (runK Tryz.prog (Ev41 N) 400 64 [(.int .u64)] [(.sl (.int .u8))] (n0, ())).run = sha1_Tail N n0 := by kernel_rfl
noncomputable def Ev42 : (R : Type) → Env R := Env.addFn (Ev41 N) 64 (fun R => fnK [(.int .u64)] [(.sl (.int .u8))] (fun c => sha1_Tail N c.1))
theorem Ev42_ok (R : Type) : EnvOK Tryz.prog (Ev42 N R) := EnvOK.addFn hmx (Ev41_ok N R) (Ev41_ok N _) (by kernel_rfl) (fun c => sha1_Tail_S N c.1)
noncomputable def sha1_First (N : Nat) : Option (Arr Int 5) :=
 some ((@Arr.cons Int 4 1732584193 (@Arr.cons Int 3 4023233417 (@Arr.cons Int 2 2562383102 (@Arr.cons Int 1 271733878 (@Arr.cons Int 0 3285377520 (@Arr.nil Int)))))))
theorem sha1_First_S : (runK Tryz.prog (Ev42 N) 400 65 [] [(.arr 5 (.int .u32))] ()).run = sha1_First N  := by kernel_rfl
noncomputable def Ev43 : (R : Type) → Env R := Env.addFn (Ev42 N) 65 (fun R => fnK [] [(.arr 5 (.int .u32))] (fun c => sha1_First N ))
theorem Ev43_ok (R : Type) : EnvOK Tryz.prog (Ev43 N R) := EnvOK.addFn hmx (Ev42_ok N R) (Ev42_ok N _) (by kernel_rfl) (fun c => sha1_First_S N )
noncomputable def sha1_Of_1_octs_Join_L3_I : LI := ⟨33, 1, [], ⟨[(0, .ty (.sl (.sl (.int .u8)))), (3, .ty (.int .i64)), (9, .ty (.sl (.sl (.int .u8)))), (10, .ty (.int .i64)), (11, .ty (.int .i64))], [.box 91 (.arr 20 (.int .u8))]⟩, [(.exit 0, ⟨[(0, .ty (.sl (.sl (.int .u8)))), (3, .ty (.int .i64))], [.box 91 (.arr 20 (.int .u8))]⟩)]⟩
noncomputable def sha1_Of_1_octs_Join_L3 (N : Nat) (X : (((List (List Int)) × (Int × ((List (List Int)) × (Int × (Int × Unit))))) × ((Arr Int 20) × Unit)) → Option ((((List (List Int)) × (Int × Unit)) × ((Arr Int 20) × Unit)))) (parts0 : List (List Int)) (size3 : Int) (x9 : List (List Int)) (x10 : Int) (x11 : Int) (h0 : Arr Int 20) : Option ((((List (List Int)) × (Int × Unit)) × ((Arr Int 20) × Unit))) :=
 bif (decide (x11 < x10)) then
  Option.bind (getI x9 x11) fun (v8 : (List Int)) =>
  (X ((parts0, ((IntKind.wrap .i64 (size3 + (((List.length v8) : Nat) : Int))), (x9, (x10, ((IntKind.wrap .i64 (x11 + 1)), ()))))), (h0, ())))
 else
  some (((parts0, (size3, ())), (h0, ())))
noncomputable def sha1_Of_1_octs_Join_L3_R (c : (((List (List Int)) × (Int × ((List (List Int)) × (Int × (Int × Unit))))) × ((Arr Int 20) × Unit))) : Option ((((List (List Int)) × (Int × Unit)) × ((Arr Int 20) × Unit))) := gl (fun X c => sha1_Of_1_octs_Join_L3 N X c.1.1 c.1.2.1 c.1.2.2.1 c.1.2.2.2.1 c.1.2.2.2.2.1 c.2.1) N c
theorem sha1_Of_1_octs_Join_L3_S (X : (((List (List Int)) × (Int × ((List (List Int)) × (Int × (Int × Unit))))) × ((Arr Int 20) × Unit)) → Option ((((List (List Int)) × (Int × Unit)) × ((Arr Int 20) × Unit)))) (parts0 : List (List Int)) (size3 : Int) (x9 : List (List Int)) (x10 : Int) (x11 : Int) (h0 : Arr Int 20) : (roundK Tryz.prog (Ev43 N) 400 [30, 1, 43] sha1_Of_1_octs_Join_L3_I (loopAt Tryz.prog [30, 1, 43] 3) X ((parts0, size3, x9, x10, x11, ()), (h0, ()))).run = sha1_Of_1_octs_Join_L3 N X parts0 size3 x9 x10 x11 h0 := by kernel_rfl
noncomputable def Ev44 : (R : Type) → Env R := Env.addLp (Ev43 N) [30, 1, 43] 1 3 (fun R => lpK Tryz.prog sha1_Of_1_octs_Join_L3_I (fun X c => sha1_Of_1_octs_Join_L3 N X c.1.1 c.1.2.1 c.1.2.2.1 c.1.2.2.2.1 c.1.2.2.2.2.1 c.2.1) N)
theorem Ev44_ok (R : Type) : EnvOK Tryz.prog (Ev44 N R) := EnvOK.addLp (Ev43_ok N R) (by kernel_rfl) (lpK_ok (li := sha1_Of_1_octs_Join_L3_I) (G := fun X c => sha1_Of_1_octs_Join_L3 N X c.1.1 c.1.2.1 c.1.2.2.1 c.1.2.2.2.1 c.1.2.2.2.2.1 c.2.1) hmx (Ev43_ok N _) (by kernel_rfl) loopAt_sub (fun (X : CT sha1_Of_1_octs_Join_L3_I.sh → Option (OT sha1_Of_1_octs_Join_L3_I.outs)) (c : CT sha1_Of_1_octs_Join_L3_I.sh) => sha1_Of_1_octs_Join_L3_S N X c.1.1 c.1.2.1 c.1.2.2.1 c.1.2.2.2.1 c.1.2.2.2.2.1 c.2.1) N)
noncomputable def sha1_Of_1_octs_Join_L9_I : LI := ⟨33, 1, [], ⟨[(6, .lit (.own 1)), (22, .ty (.sl (.sl (.int .u8)))), (23, .ty (.int .i64)), (24, .ty (.int .i64))], [.box 91 (.arr 20 (.int .u8)), .own (.int .u8) 5]⟩, [(.exit 2, ⟨[(6, .lit (.own 1))], [.box 91 (.arr 20 (.int .u8)), .own (.int .u8) 5]⟩)]⟩
noncomputable def sha1_Of_1_octs_Join_L9 (N : Nat) (X : (((List (List Int)) × (Int × (Int × Unit))) × ((Arr Int 20) × ((List Int) × Unit))) → Option ((Unit × ((Arr Int 20) × ((List Int) × Unit))))) (x22 : List (List Int)) (x23 : Int) (x24 : Int) (h0 : Arr Int 20) (h1 : List (Int)) : Option ((Unit × ((Arr Int 20) × ((List Int) × Unit)))) :=
 bif (decide (x24 < x23)) then
  Option.bind (getI x22 x24) fun (v7 : (List Int)) =>
  bif (roomB ((List.length h1) + (List.length v7)) 1) then
   (X ((x22, (x23, ((IntKind.wrap .i64 (x24 + 1)), ()))), (h0, ((h1 ++ v7), ()))))
  else
   none
 else
  some (((), (h0, (h1, ()))))
noncomputable def sha1_Of_1_octs_Join_L9_R (c : (((List (List Int)) × (Int × (Int × Unit))) × ((Arr Int 20) × ((List Int) × Unit)))) : Option ((Unit × ((Arr Int 20) × ((List Int) × Unit)))) := gl (fun X c => sha1_Of_1_octs_Join_L9 N X c.1.1 c.1.2.1 c.1.2.2.1 c.2.1 c.2.2.1) N c
theorem sha1_Of_1_octs_Join_L9_S (X : (((List (List Int)) × (Int × (Int × Unit))) × ((Arr Int 20) × ((List Int) × Unit))) → Option ((Unit × ((Arr Int 20) × ((List Int) × Unit))))) (x22 : List (List Int)) (x23 : Int) (x24 : Int) (h0 : Arr Int 20) (h1 : List (Int)) : (roundK Tryz.prog (Ev44 N) 400 [30, 1, 43] sha1_Of_1_octs_Join_L9_I (loopAt Tryz.prog [30, 1, 43] 9) X ((x22, x23, x24, ()), (h0, h1, ()))).run = sha1_Of_1_octs_Join_L9 N X x22 x23 x24 h0 h1 := by kernel_rfl
noncomputable def Ev45 : (R : Type) → Env R := Env.addLp (Ev44 N) [30, 1, 43] 1 9 (fun R => lpK Tryz.prog sha1_Of_1_octs_Join_L9_I (fun X c => sha1_Of_1_octs_Join_L9 N X c.1.1 c.1.2.1 c.1.2.2.1 c.2.1 c.2.2.1) N)
theorem Ev45_ok (R : Type) : EnvOK Tryz.prog (Ev45 N R) := EnvOK.addLp (Ev44_ok N R) (by kernel_rfl) (lpK_ok (li := sha1_Of_1_octs_Join_L9_I) (G := fun X c => sha1_Of_1_octs_Join_L9 N X c.1.1 c.1.2.1 c.1.2.2.1 c.2.1 c.2.2.1) hmx (Ev44_ok N _) (by kernel_rfl) loopAt_sub (fun (X : CT sha1_Of_1_octs_Join_L9_I.sh → Option (OT sha1_Of_1_octs_Join_L9_I.outs)) (c : CT sha1_Of_1_octs_Join_L9_I.sh) => sha1_Of_1_octs_Join_L9_S N X c.1.1 c.1.2.1 c.1.2.2.1 c.2.1 c.2.2.1) N)
noncomputable def sha1_root (n0 : Int) : Option Int :=
 Option.bind (roots_Root N n0 (2 : Int) (30 : Int)) fun v2 =>
 some ((IntKind.wrap .u32 v2.1))
theorem sha1_root_S (n0 : Int) : (runK Tryz.prog (Ev45 N) 400 89 [(.int .i64)] [(.int .u32)] (n0, ())).run = sha1_root N n0 := by kernel_rfl
noncomputable def Ev46 : (R : Type) → Env R := Env.addFn (Ev45 N) 89 (fun R => fnK [(.int .i64)] [(.int .u32)] (fun c => sha1_root N c.1))
theorem Ev46_ok (R : Type) : EnvOK Tryz.prog (Ev46 N R) := EnvOK.addFn hmx (Ev45_ok N R) (Ev45_ok N _) (by kernel_rfl) (fun c => sha1_root_S N c.1)
noncomputable def sha1_constants : Option (Arr Int 4) :=
 Option.bind (sha1_root N (2 : Int)) fun v1 =>
 Option.bind (sha1_root N (3 : Int)) fun v2 =>
 Option.bind (sha1_root N (5 : Int)) fun v3 =>
 Option.bind (sha1_root N (10 : Int)) fun v4 =>
 some ((@Arr.cons Int (3 : Nat) v1 (@Arr.cons Int (2 : Nat) v2 (@Arr.cons Int (1 : Nat) v3 (@Arr.cons Int (0 : Nat) v4 (@Arr.nil Int))))))
theorem sha1_constants_S : (runK Tryz.prog (Ev46 N) 400 66 [] [(.arr 4 (.int .u32))] ()).run = sha1_constants N  := by kernel_rfl
noncomputable def Ev47 : (R : Type) → Env R := Env.addFn (Ev46 N) 66 (fun R => fnK [] [(.arr 4 (.int .u32))] (fun c => sha1_constants N ))
theorem Ev47_ok (R : Type) : EnvOK Tryz.prog (Ev47 N R) := EnvOK.addFn hmx (Ev46_ok N R) (Ev46_ok N _) (by kernel_rfl) (fun c => sha1_constants_S N )
noncomputable def Ev48 : (R : Type) → Env R := Env.addBx (Ev47 N) [(67, 0)]
theorem Ev48_ok (R : Type) : EnvOK Tryz.prog (Ev48 N R) := EnvOK.addBx (Ev47_ok N R) [(67, 0)]
noncomputable def Ev49 : (R : Type) → Env R := Env.addBx (Ev48 N) [(90, 0)]
theorem Ev49_ok (R : Type) : EnvOK Tryz.prog (Ev49 N R) := EnvOK.addBx (Ev48_ok N R) [(90, 0)]
noncomputable def sha1_words_L3_I : LI := ⟨50, 0, [], ⟨[(1, .adr (.arr 64 (.int .u8))), (2, .lit (.box 0 0)), (3, .lit (.box 1 0)), (7, .ty (.int .i64))], [.box 156 (.arr 80 (.int .u32)), .box 156 (.arr 80 (.int .u32))]⟩, [(.exit 0, ⟨[(2, .lit (.box 0 0)), (3, .lit (.box 1 0))], [.box 156 (.arr 80 (.int .u32)), .box 156 (.arr 80 (.int .u32))]⟩)]⟩
noncomputable def sha1_words_L3 (X : (((Arr Int 64) × (Int × Unit)) × ((Arr Int 80) × ((Arr Int 80) × Unit))) → Option ((Unit × ((Arr Int 80) × ((Arr Int 80) × Unit))))) (b1 : Arr Int 64) (x7 : Int) (h0 : Arr Int 80) (h1 : Arr Int 80) : Option ((Unit × ((Arr Int 80) × ((Arr Int 80) × Unit)))) :=
 bif (decide (x7 < (80 : Int))) then
  bif (decide (x7 < (16 : Int))) then
   Option.bind (subI b1.l (IntKind.wrap .i64 ((4 : Int) * x7)) (IntKind.wrap .i64 ((IntKind.wrap .i64 ((4 : Int) * x7)) + 4))) fun (v6 : (List Int)) =>
   Option.bind (octs_Get N v6 false) fun v7 =>
   bif (decide ((0 : Int) ≤ x7 ∧ x7 < ((80 : Nat) : Int))) then
    Option.bind (h1.l[Int.toNat x7]?) fun (v8 : Int) =>
    (X ((b1, ((IntKind.wrap .i64 (x7 + 1)), ())), (h0, ((h1.set (Int.toNat x7) (IntKind.wrap .u32 v7.1)), ()))))
   else
    none
  else
   bif (decide ((0 : Int) ≤ (IntKind.wrap .i64 (x7 - 3)) ∧ (IntKind.wrap .i64 (x7 - 3)) < ((80 : Nat) : Int))) then
    Option.bind (h1.l[Int.toNat (IntKind.wrap .i64 (x7 - 3))]?) fun (v6 : Int) =>
    bif (decide ((0 : Int) ≤ (IntKind.wrap .i64 (x7 - 8)) ∧ (IntKind.wrap .i64 (x7 - 8)) < ((80 : Nat) : Int))) then
     Option.bind (h1.l[Int.toNat (IntKind.wrap .i64 (x7 - 8))]?) fun (v7 : Int) =>
     bif (decide ((0 : Int) ≤ (IntKind.wrap .i64 (x7 - 14)) ∧ (IntKind.wrap .i64 (x7 - 14)) < ((80 : Nat) : Int))) then
      Option.bind (h1.l[Int.toNat (IntKind.wrap .i64 (x7 - 14))]?) fun (v8 : Int) =>
      bif (decide ((0 : Int) ≤ (IntKind.wrap .i64 (x7 - 16)) ∧ (IntKind.wrap .i64 (x7 - 16)) < ((80 : Nat) : Int))) then
       Option.bind (h1.l[Int.toNat (IntKind.wrap .i64 (x7 - 16))]?) fun (v9 : Int) =>
       bif (decide ((0 : Int) ≤ x7 ∧ x7 < ((80 : Nat) : Int))) then
        Option.bind (h1.l[Int.toNat x7]?) fun (v10 : Int) =>
        (X ((b1, ((IntKind.wrap .i64 (x7 + 1)), ())), (h0, ((h1.set (Int.toNat x7) (bits .or .u32 (IntKind.wrap .u32 ((bits .xor .u32 (bits .xor .u32 (bits .xor .u32 v6 v7) v8) v9) * ((2 : Int) ^ (min (Int.toNat (bits .and .u64 (IntKind.wrap .u64 (1 : Int)) (31 : Int))) (IntKind.bits .u32))))) (@Int.fdiv (bits .xor .u32 (bits .xor .u32 (bits .xor .u32 v6 v7) v8) v9) ((2 : Int) ^ (min (Int.toNat (IntKind.wrap .u64 ((32 : Int) - (bits .and .u64 (IntKind.wrap .u64 (1 : Int)) (31 : Int))))) (IntKind.bits .u32)))))), ()))))
       else
        none
      else
       none
     else
      none
    else
     none
   else
    none
 else
  some (((), (h0, (h1, ()))))
noncomputable def sha1_words_L3_R (c : (((Arr Int 64) × (Int × Unit)) × ((Arr Int 80) × ((Arr Int 80) × Unit)))) : Option ((Unit × ((Arr Int 80) × ((Arr Int 80) × Unit)))) := gl (fun X c => sha1_words_L3 N X c.1.1 c.1.2.1 c.2.1 c.2.2.1) N c
theorem sha1_words_L3_S (X : (((Arr Int 64) × (Int × Unit)) × ((Arr Int 80) × ((Arr Int 80) × Unit))) → Option ((Unit × ((Arr Int 80) × ((Arr Int 80) × Unit))))) (b1 : Arr Int 64) (x7 : Int) (h0 : Arr Int 80) (h1 : Arr Int 80) : (roundK Tryz.prog (Ev49 N) 400 [90] sha1_words_L3_I (loopAt Tryz.prog [90] 3) X ((b1, x7, ()), (h0, h1, ()))).run = sha1_words_L3 N X b1 x7 h0 h1 := by kernel_rfl
noncomputable def Ev50 : (R : Type) → Env R := Env.addLp (Ev49 N) [90] 0 3 (fun R => lpK Tryz.prog sha1_words_L3_I (fun X c => sha1_words_L3 N X c.1.1 c.1.2.1 c.2.1 c.2.2.1) N)
theorem Ev50_ok (R : Type) : EnvOK Tryz.prog (Ev50 N R) := EnvOK.addLp (Ev49_ok N R) (by kernel_rfl) (lpK_ok (li := sha1_words_L3_I) (G := fun X c => sha1_words_L3 N X c.1.1 c.1.2.1 c.2.1 c.2.2.1) hmx (Ev49_ok N _) (by kernel_rfl) loopAt_sub (fun (X : CT sha1_words_L3_I.sh → Option (OT sha1_words_L3_I.outs)) (c : CT sha1_words_L3_I.sh) => sha1_words_L3_S N X c.1.1 c.1.2.1 c.2.1 c.2.2.1) N)
noncomputable def sha1_words (b0 : Arr Int 64) : Option (Arr Int 80) :=
 Option.bind (sha1_words_L3_R N ((b0, ((0 : Int), ())), ((@Arr.cons Int 79 0 (@Arr.cons Int 78 0 (@Arr.cons Int 77 0 (@Arr.cons Int 76 0 (@Arr.cons Int 75 0 (@Arr.cons Int 74 0 (@Arr.cons Int 73 0 (@Arr.cons Int 72 0 (@Arr.cons Int 71 0 (@Arr.cons Int 70 0 (@Arr.cons Int 69 0 (@Arr.cons Int 68 0 (@Arr.cons Int 67 0 (@Arr.cons Int 66 0 (@Arr.cons Int 65 0 (@Arr.cons Int 64 0 (@Arr.cons Int 63 0 (@Arr.cons Int 62 0 (@Arr.cons Int 61 0 (@Arr.cons Int 60 0 (@Arr.cons Int 59 0 (@Arr.cons Int 58 0 (@Arr.cons Int 57 0 (@Arr.cons Int 56 0 (@Arr.cons Int 55 0 (@Arr.cons Int 54 0 (@Arr.cons Int 53 0 (@Arr.cons Int 52 0 (@Arr.cons Int 51 0 (@Arr.cons Int 50 0 (@Arr.cons Int 49 0 (@Arr.cons Int 48 0 (@Arr.cons Int 47 0 (@Arr.cons Int 46 0 (@Arr.cons Int 45 0 (@Arr.cons Int 44 0 (@Arr.cons Int 43 0 (@Arr.cons Int 42 0 (@Arr.cons Int 41 0 (@Arr.cons Int 40 0 (@Arr.cons Int 39 0 (@Arr.cons Int 38 0 (@Arr.cons Int 37 0 (@Arr.cons Int 36 0 (@Arr.cons Int 35 0 (@Arr.cons Int 34 0 (@Arr.cons Int 33 0 (@Arr.cons Int 32 0 (@Arr.cons Int 31 0 (@Arr.cons Int 30 0 (@Arr.cons Int 29 0 (@Arr.cons Int 28 0 (@Arr.cons Int 27 0 (@Arr.cons Int 26 0 (@Arr.cons Int 25 0 (@Arr.cons Int 24 0 (@Arr.cons Int 23 0 (@Arr.cons Int 22 0 (@Arr.cons Int 21 0 (@Arr.cons Int 20 0 (@Arr.cons Int 19 0 (@Arr.cons Int 18 0 (@Arr.cons Int 17 0 (@Arr.cons Int 16 0 (@Arr.cons Int 15 0 (@Arr.cons Int 14 0 (@Arr.cons Int 13 0 (@Arr.cons Int 12 0 (@Arr.cons Int 11 0 (@Arr.cons Int 10 0 (@Arr.cons Int 9 0 (@Arr.cons Int 8 0 (@Arr.cons Int 7 0 (@Arr.cons Int 6 0 (@Arr.cons Int 5 0 (@Arr.cons Int 4 0 (@Arr.cons Int 3 0 (@Arr.cons Int 2 0 (@Arr.cons Int 1 0 (@Arr.cons Int 0 0 (@Arr.nil Int))))))))))))))))))))))))))))))))))))))))))))))))))))))))))))))))))))))))))))))))), ((@Arr.cons Int 79 0 (@Arr.cons Int 78 0 (@Arr.cons Int 77 0 (@Arr.cons Int 76 0 (@Arr.cons Int 75 0 (@Arr.cons Int 74 0 (@Arr.cons Int 73 0 (@Arr.cons Int 72 0 (@Arr.cons Int 71 0 (@Arr.cons Int 70 0 (@Arr.cons Int 69 0 (@Arr.cons Int 68 0 (@Arr.cons Int 67 0 (@Arr.cons Int 66 0 (@Arr.cons Int 65 0 (@Arr.cons Int 64 0 (@Arr.cons Int 63 0 (@Arr.cons Int 62 0 (@Arr.cons Int 61 0 (@Arr.cons Int 60 0 (@Arr.cons Int 59 0 (@Arr.cons Int 58 0 (@Arr.cons Int 57 0 (@Arr.cons Int 56 0 (@Arr.cons Int 55 0 (@Arr.cons Int 54 0 (@Arr.cons Int 53 0 (@Arr.cons Int 52 0 (@Arr.cons Int 51 0 (@Arr.cons Int 50 0 (@Arr.cons Int 49 0 (@Arr.cons Int 48 0 (@Arr.cons Int 47 0 (@Arr.cons Int 46 0 (@Arr.cons Int 45 0 (@Arr.cons Int 44 0 (@Arr.cons Int 43 0 (@Arr.cons Int 42 0 (@Arr.cons Int 41 0 (@Arr.cons Int 40 0 (@Arr.cons Int 39 0 (@Arr.cons Int 38 0 (@Arr.cons Int 37 0 (@Arr.cons Int 36 0 (@Arr.cons Int 35 0 (@Arr.cons Int 34 0 (@Arr.cons Int 33 0 (@Arr.cons Int 32 0 (@Arr.cons Int 31 0 (@Arr.cons Int 30 0 (@Arr.cons Int 29 0 (@Arr.cons Int 28 0 (@Arr.cons Int 27 0 (@Arr.cons Int 26 0 (@Arr.cons Int 25 0 (@Arr.cons Int 24 0 (@Arr.cons Int 23 0 (@Arr.cons Int 22 0 (@Arr.cons Int 21 0 (@Arr.cons Int 20 0 (@Arr.cons Int 19 0 (@Arr.cons Int 18 0 (@Arr.cons Int 17 0 (@Arr.cons Int 16 0 (@Arr.cons Int 15 0 (@Arr.cons Int 14 0 (@Arr.cons Int 13 0 (@Arr.cons Int 12 0 (@Arr.cons Int 11 0 (@Arr.cons Int 10 0 (@Arr.cons Int 9 0 (@Arr.cons Int 8 0 (@Arr.cons Int 7 0 (@Arr.cons Int 6 0 (@Arr.cons Int 5 0 (@Arr.cons Int 4 0 (@Arr.cons Int 3 0 (@Arr.cons Int 2 0 (@Arr.cons Int 1 0 (@Arr.cons Int 0 0 (@Arr.nil Int))))))))))))))))))))))))))))))))))))))))))))))))))))))))))))))))))))))))))))))))), ())))) fun v2 =>
 some (v2.2.2.1)
theorem sha1_words_S (b0 : Arr Int 64) : (runK Tryz.prog (Ev50 N) 400 90 [(.arr 64 (.int .u8))] [(.arr 80 (.int .u32))] (b0, ())).run = sha1_words N b0 := by kernel_rfl
noncomputable def Ev51 : (R : Type) → Env R := Env.addFn (Ev50 N) 90 (fun R => fnK [(.arr 64 (.int .u8))] [(.arr 80 (.int .u32))] (fun c => sha1_words N c.1))
theorem Ev51_ok (R : Type) : EnvOK Tryz.prog (Ev51 N R) := EnvOK.addFn hmx (Ev50_ok N R) (Ev50_ok N _) (by kernel_rfl) (fun c => sha1_words_S N c.1)
noncomputable def sha1_mixed (N : Nat) (r0 : Int) (b1 : Int) (c2 : Int) (d3 : Int) : Option Int :=
 bif (decide (r0 = (0 : Int))) then
  some ((bits .or .u32 (bits .and .u32 b1 c2) (bits .and .u32 (bits .xor .u32 (@ite Int (@Eq Bool (@IntKind.signed @IntKind.u32) true) (@instDecidableEqBool (@IntKind.signed @IntKind.u32) true) (-1 : Int) (@IntKind.max @IntKind.u32)) b1) d3)))
 else
  bif (decide (r0 = (2 : Int))) then
   some ((bits .or .u32 (bits .or .u32 (bits .and .u32 b1 c2) (bits .and .u32 b1 d3)) (bits .and .u32 c2 d3)))
  else
   some ((bits .xor .u32 (bits .xor .u32 b1 c2) d3))
theorem sha1_mixed_S (r0 : Int) (b1 : Int) (c2 : Int) (d3 : Int) : (runK Tryz.prog (Ev51 N) 400 91 [(.int .i64), (.int .u32), (.int .u32), (.int .u32)] [(.int .u32)] (r0, b1, c2, d3, ())).run = sha1_mixed N r0 b1 c2 d3 := by kernel_rfl
noncomputable def Ev52 : (R : Type) → Env R := Env.addFn (Ev51 N) 91 (fun R => fnK [(.int .i64), (.int .u32), (.int .u32), (.int .u32)] [(.int .u32)] (fun c => sha1_mixed N c.1 c.2.1 c.2.2.1 c.2.2.2.1))
theorem Ev52_ok (R : Type) : EnvOK Tryz.prog (Ev52 N R) := EnvOK.addFn hmx (Ev51_ok N R) (Ev51_ok N _) (by kernel_rfl) (fun c => sha1_mixed_S N c.1 c.2.1 c.2.2.1 c.2.2.2.1)
noncomputable def sha1_behind_L4_I : LI := ⟨69, 0, [], ⟨[(3, .adr (.arr 5 (.int .u32))), (5, .adr (.arr 4 (.int .u32))), (6, .lit (.box 0 0)), (7, .lit (.box 1 0)), (8, .lit (.box 2 0)), (16, .ty (.int .i64))], [.box 126 (.arr 5 (.int .u32)), .box 156 (.arr 80 (.int .u32)), .box 126 (.arr 5 (.int .u32))]⟩, [(.exit 0, ⟨[(3, .adr (.arr 5 (.int .u32))), (6, .lit (.box 0 0)), (8, .lit (.box 1 0))], [.box 126 (.arr 5 (.int .u32)), .box 126 (.arr 5 (.int .u32))]⟩)]⟩
noncomputable def sha1_behind_L4 (X : (((Arr Int 5) × ((Arr Int 4) × (Int × Unit))) × ((Arr Int 5) × ((Arr Int 80) × ((Arr Int 5) × Unit)))) → Option ((((Arr Int 5) × Unit) × ((Arr Int 5) × ((Arr Int 5) × Unit))))) (s3 : Arr Int 5) (k5 : Arr Int 4) (x16 : Int) (h0 : Arr Int 5) (h1 : Arr Int 80) (h2 : Arr Int 5) : Option ((((Arr Int 5) × Unit) × ((Arr Int 5) × ((Arr Int 5) × Unit)))) :=
 bif (decide (x16 < (80 : Int))) then
  Option.bind (h2.l[Int.toNat (0 : Int)]?) fun (v8 : Int) =>
  Option.bind (h2.l[Int.toNat (1 : Int)]?) fun (v9 : Int) =>
  Option.bind (h2.l[Int.toNat (2 : Int)]?) fun (v10 : Int) =>
  Option.bind (h2.l[Int.toNat (3 : Int)]?) fun (v11 : Int) =>
  Option.bind (sha1_mixed N (IntKind.wrap .i64 (@Int.tdiv x16 (20 : Int))) v9 v10 v11) fun v12 =>
  Option.bind (h2.l[Int.toNat (4 : Int)]?) fun (v13 : Int) =>
  Option.bind (getI k5.l (IntKind.wrap .i64 (@Int.tdiv x16 (20 : Int)))) fun (v14 : Int) =>
  bif (decide ((0 : Int) ≤ x16 ∧ x16 < ((80 : Nat) : Int))) then
   Option.bind (h1.l[Int.toNat x16]?) fun (v15 : Int) =>
   Option.bind (h2.l[Int.toNat (0 : Int)]?) fun (v16 : Int) =>
   Option.bind (h2.l[Int.toNat (1 : Int)]?) fun (v17 : Int) =>
   Option.bind (h2.l[Int.toNat (2 : Int)]?) fun (v18 : Int) =>
   Option.bind (h2.l[Int.toNat (3 : Int)]?) fun (v19 : Int) =>
   (X ((s3, (k5, ((IntKind.wrap .i64 (x16 + 1)), ()))), (h0, (h1, ((@Arr.cons Int (4 : Nat) (IntKind.wrap .u32 ((IntKind.wrap .u32 ((IntKind.wrap .u32 ((IntKind.wrap .u32 ((bits .or .u32 (IntKind.wrap .u32 (v8 * ((2 : Int) ^ (min (Int.toNat (bits .and .u64 (IntKind.wrap .u64 (5 : Int)) (31 : Int))) (IntKind.bits .u32))))) (@Int.fdiv v8 ((2 : Int) ^ (min (Int.toNat (IntKind.wrap .u64 ((32 : Int) - (bits .and .u64 (IntKind.wrap .u64 (5 : Int)) (31 : Int))))) (IntKind.bits .u32))))) + v12)) + v13)) + v14)) + v15)) (@Arr.cons Int (3 : Nat) v16 (@Arr.cons Int (2 : Nat) (bits .or .u32 (IntKind.wrap .u32 (v17 * ((2 : Int) ^ (min (Int.toNat (bits .and .u64 (IntKind.wrap .u64 (30 : Int)) (31 : Int))) (IntKind.bits .u32))))) (@Int.fdiv v17 ((2 : Int) ^ (min (Int.toNat (IntKind.wrap .u64 ((32 : Int) - (bits .and .u64 (IntKind.wrap .u64 (30 : Int)) (31 : Int))))) (IntKind.bits .u32))))) (@Arr.cons Int (1 : Nat) v18 (@Arr.cons Int (0 : Nat) v19 (@Arr.nil Int)))))), ())))))
  else
   none
 else
  some (((s3, ()), (h0, (h2, ()))))
noncomputable def sha1_behind_L4_R (c : (((Arr Int 5) × ((Arr Int 4) × (Int × Unit))) × ((Arr Int 5) × ((Arr Int 80) × ((Arr Int 5) × Unit))))) : Option ((((Arr Int 5) × Unit) × ((Arr Int 5) × ((Arr Int 5) × Unit)))) := gl (fun X c => sha1_behind_L4 N X c.1.1 c.1.2.1 c.1.2.2.1 c.2.1 c.2.2.1 c.2.2.2.1) N c
theorem sha1_behind_L4_S (X : (((Arr Int 5) × ((Arr Int 4) × (Int × Unit))) × ((Arr Int 5) × ((Arr Int 80) × ((Arr Int 5) × Unit)))) → Option ((((Arr Int 5) × Unit) × ((Arr Int 5) × ((Arr Int 5) × Unit))))) (s3 : Arr Int 5) (k5 : Arr Int 4) (x16 : Int) (h0 : Arr Int 5) (h1 : Arr Int 80) (h2 : Arr Int 5) : (roundK Tryz.prog (Ev52 N) 400 [67] sha1_behind_L4_I (loopAt Tryz.prog [67] 4) X ((s3, k5, x16, ()), (h0, h1, h2, ()))).run = sha1_behind_L4 N X s3 k5 x16 h0 h1 h2 := by kernel_rfl
noncomputable def Ev53 : (R : Type) → Env R := Env.addLp (Ev52 N) [67] 0 4 (fun R => lpK Tryz.prog sha1_behind_L4_I (fun X c => sha1_behind_L4 N X c.1.1 c.1.2.1 c.1.2.2.1 c.2.1 c.2.2.1 c.2.2.2.1) N)
theorem Ev53_ok (R : Type) : EnvOK Tryz.prog (Ev53 N R) := EnvOK.addLp (Ev52_ok N R) (by kernel_rfl) (lpK_ok (li := sha1_behind_L4_I) (G := fun X c => sha1_behind_L4 N X c.1.1 c.1.2.1 c.1.2.2.1 c.2.1 c.2.2.1 c.2.2.2.1) hmx (Ev52_ok N _) (by kernel_rfl) loopAt_sub (fun (X : CT sha1_behind_L4_I.sh → Option (OT sha1_behind_L4_I.outs)) (c : CT sha1_behind_L4_I.sh) => sha1_behind_L4_S N X c.1.1 c.1.2.1 c.1.2.2.1 c.2.1 c.2.2.1 c.2.2.2.1) N)
noncomputable def sha1_behind_L11_I : LI := ⟨69, 0, [], ⟨[(3, .adr (.arr 5 (.int .u32))), (6, .lit (.box 0 0)), (8, .lit (.box 1 0)), (56, .ty (.int .i64))], [.box 126 (.arr 5 (.int .u32)), .box 126 (.arr 5 (.int .u32))]⟩, [(.exit 2, ⟨[(6, .lit (.box 0 0)), (8, .lit (.box 1 0))], [.box 126 (.arr 5 (.int .u32)), .box 126 (.arr 5 (.int .u32))]⟩)]⟩
noncomputable def sha1_behind_L11 (N : Nat) (X : (((Arr Int 5) × (Int × Unit)) × ((Arr Int 5) × ((Arr Int 5) × Unit))) → Option ((Unit × ((Arr Int 5) × ((Arr Int 5) × Unit))))) (s3 : Arr Int 5) (x56 : Int) (h0 : Arr Int 5) (h1 : Arr Int 5) : Option ((Unit × ((Arr Int 5) × ((Arr Int 5) × Unit)))) :=
 bif (decide (x56 < (5 : Int))) then
  bif (decide ((0 : Int) ≤ x56 ∧ x56 < ((5 : Nat) : Int))) then
   Option.bind (h1.l[Int.toNat x56]?) fun (v6 : Int) =>
   Option.bind (getI s3.l x56) fun (v7 : Int) =>
   bif (decide ((0 : Int) ≤ x56 ∧ x56 < ((5 : Nat) : Int))) then
    Option.bind (h1.l[Int.toNat x56]?) fun (v8 : Int) =>
    (X ((s3, ((IntKind.wrap .i64 (x56 + 1)), ())), (h0, ((h1.set (Int.toNat x56) (IntKind.wrap .u32 (v6 + v7))), ()))))
   else
    none
  else
   none
 else
  some (((), (h0, (h1, ()))))
noncomputable def sha1_behind_L11_R (c : (((Arr Int 5) × (Int × Unit)) × ((Arr Int 5) × ((Arr Int 5) × Unit)))) : Option ((Unit × ((Arr Int 5) × ((Arr Int 5) × Unit)))) := gl (fun X c => sha1_behind_L11 N X c.1.1 c.1.2.1 c.2.1 c.2.2.1) N c
theorem sha1_behind_L11_S (X : (((Arr Int 5) × (Int × Unit)) × ((Arr Int 5) × ((Arr Int 5) × Unit))) → Option ((Unit × ((Arr Int 5) × ((Arr Int 5) × Unit))))) (s3 : Arr Int 5) (x56 : Int) (h0 : Arr Int 5) (h1 : Arr Int 5) : (roundK Tryz.prog (Ev53 N) 400 [67] sha1_behind_L11_I (loopAt Tryz.prog [67] 11) X ((s3, x56, ()), (h0, h1, ()))).run = sha1_behind_L11 N X s3 x56 h0 h1 := by kernel_rfl
noncomputable def Ev54 : (R : Type) → Env R := Env.addLp (Ev53 N) [67] 0 11 (fun R => lpK Tryz.prog sha1_behind_L11_I (fun X c => sha1_behind_L11 N X c.1.1 c.1.2.1 c.2.1 c.2.2.1) N)
theorem Ev54_ok (R : Type) : EnvOK Tryz.prog (Ev54 N R) := EnvOK.addLp (Ev53_ok N R) (by kernel_rfl) (lpK_ok (li := sha1_behind_L11_I) (G := fun X c => sha1_behind_L11 N X c.1.1 c.1.2.1 c.2.1 c.2.2.1) hmx (Ev53_ok N _) (by kernel_rfl) loopAt_sub (fun (X : CT sha1_behind_L11_I.sh → Option (OT sha1_behind_L11_I.outs)) (c : CT sha1_behind_L11_I.sh) => sha1_behind_L11_S N X c.1.1 c.1.2.1 c.2.1 c.2.2.1) N)
noncomputable def sha1_behind (s0 : Arr Int 5) (b1 : Arr Int 64) (k2 : Arr Int 4) : Option (Arr Int 5) :=
 Option.bind (sha1_words N b1) fun v4 =>
 Option.bind (sha1_behind_L4_R N ((s0, (k2, ((0 : Int), ()))), ((@Arr.cons Int 4 0 (@Arr.cons Int 3 0 (@Arr.cons Int 2 0 (@Arr.cons Int 1 0 (@Arr.cons Int 0 0 (@Arr.nil Int)))))), (v4, (s0, ()))))) fun v5 =>
 Option.bind (sha1_behind_L11_R N ((v5.1.1, ((0 : Int), ())), (v5.2.1, (v5.2.2.1, ())))) fun v6 =>
 some (v6.2.2.1)
theorem sha1_behind_S (s0 : Arr Int 5) (b1 : Arr Int 64) (k2 : Arr Int 4) : (runK Tryz.prog (Ev54 N) 400 67 [(.arr 5 (.int .u32)), (.arr 64 (.int .u8)), (.arr 4 (.int .u32))] [(.arr 5 (.int .u32))] (s0, b1, k2, ())).run = sha1_behind N s0 b1 k2 := by kernel_rfl
noncomputable def Ev55 : (R : Type) → Env R := Env.addFn (Ev54 N) 67 (fun R => fnK [(.arr 5 (.int .u32)), (.arr 64 (.int .u8)), (.arr 4 (.int .u32))] [(.arr 5 (.int .u32))] (fun c => sha1_behind N c.1 c.2.1 c.2.2.1))
theorem Ev55_ok (R : Type) : EnvOK Tryz.prog (Ev55 N R) := EnvOK.addFn hmx (Ev54_ok N R) (Ev54_ok N _) (by kernel_rfl) (fun c => sha1_behind_S N c.1 c.2.1 c.2.2.1)
noncomputable def sha1_Of_L5_I : LI := ⟨35, 0, [], ⟨[(2, .lit (.box 0 0)), (3, .ty (.sl (.int .u8))), (4, .lit (.box 1 0)), (5, .lit (.box 2 0)), (6, .ty (.int .i64))], [.box 91 (.arr 20 (.int .u8)), .box 126 (.arr 5 (.int .u32)), .box 111 (.arr 4 (.int .u32))]⟩, [(.exit 0, ⟨[(2, .lit (.box 0 0)), (4, .lit (.box 1 0))], [.box 91 (.arr 20 (.int .u8)), .box 126 (.arr 5 (.int .u32))]⟩)]⟩
noncomputable def sha1_Of_L5 (X : (((List Int) × (Int × Unit)) × ((Arr Int 20) × ((Arr Int 5) × ((Arr Int 4) × Unit)))) → Option ((Unit × ((Arr Int 20) × ((Arr Int 5) × Unit))))) (all3 : List (Int)) (i6 : Int) (h0 : Arr Int 20) (h1 : Arr Int 5) (h2 : Arr Int 4) : Option ((Unit × ((Arr Int 20) × ((Arr Int 5) × Unit)))) :=
 bif (decide (i6 < (((List.length all3) : Nat) : Int))) then
  Option.bind (subI all3 i6 (IntKind.wrap .i64 (i6 + 64))) fun (v7 : (List Int)) =>
  Option.bind (@toArr Int (64 : Nat) v7) fun (v8 : (Arr Int 64)) =>
  Option.bind (sha1_behind N h1 v8 h2) fun v9 =>
  (X ((all3, ((IntKind.wrap .i64 (i6 + 64)), ())), (h0, (v9, (h2, ())))))
 else
  some (((), (h0, (h1, ()))))
noncomputable def sha1_Of_L5_R (c : (((List Int) × (Int × Unit)) × ((Arr Int 20) × ((Arr Int 5) × ((Arr Int 4) × Unit))))) : Option ((Unit × ((Arr Int 20) × ((Arr Int 5) × Unit)))) := gl (fun X c => sha1_Of_L5 N X c.1.1 c.1.2.1 c.2.1 c.2.2.1 c.2.2.2.1) N c
theorem sha1_Of_L5_S (X : (((List Int) × (Int × Unit)) × ((Arr Int 20) × ((Arr Int 5) × ((Arr Int 4) × Unit)))) → Option ((Unit × ((Arr Int 20) × ((Arr Int 5) × Unit))))) (all3 : List (Int)) (i6 : Int) (h0 : Arr Int 20) (h1 : Arr Int 5) (h2 : Arr Int 4) : (roundK Tryz.prog (Ev55 N) 400 [43] sha1_Of_L5_I (loopAt Tryz.prog [43] 5) X ((all3, i6, ()), (h0, h1, h2, ()))).run = sha1_Of_L5 N X all3 i6 h0 h1 h2 := by kernel_rfl
noncomputable def Ev56 : (R : Type) → Env R := Env.addLp (Ev55 N) [43] 0 5 (fun R => lpK Tryz.prog sha1_Of_L5_I (fun X c => sha1_Of_L5 N X c.1.1 c.1.2.1 c.2.1 c.2.2.1 c.2.2.2.1) N)
theorem Ev56_ok (R : Type) : EnvOK Tryz.prog (Ev56 N R) := EnvOK.addLp (Ev55_ok N R) (by kernel_rfl) (lpK_ok (li := sha1_Of_L5_I) (G := fun X c => sha1_Of_L5 N X c.1.1 c.1.2.1 c.2.1 c.2.2.1 c.2.2.2.1) hmx (Ev55_ok N _) (by kernel_rfl) loopAt_sub (fun (X : CT sha1_Of_L5_I.sh → Option (OT sha1_Of_L5_I.outs)) (c : CT sha1_Of_L5_I.sh) => sha1_Of_L5_S N X c.1.1 c.1.2.1 c.2.1 c.2.2.1 c.2.2.2.1) N)
noncomputable def Ev57 : (R : Type) → Env R := Env.addBx (Ev56 N) [(68, 0)]
theorem Ev57_ok (R : Type) : EnvOK Tryz.prog (Ev57 N R) := EnvOK.addBx (Ev56_ok N R) [(68, 0)]
noncomputable def sha1_digest_L3_I : LI := ⟨25, 0, [(3, 5)], ⟨[(2, .lit (.box 0 0)), (3, .lit (.own 1)), (8, .ty (.arr 5 (.int .u32))), (9, .ty (.int .i64))], [.box 91 (.arr 20 (.int .u8)), .own (.int .u8) 5]⟩, [(.exit 0, ⟨[(2, .lit (.box 0 0)), (3, .lit (.own 1))], [.box 91 (.arr 20 (.int .u8)), .own (.int .u8) 5]⟩)]⟩
noncomputable def sha1_digest_L3 (X : (((Arr Int 5) × (Int × Unit)) × ((Arr Int 20) × ((List Int) × Unit))) → Option ((Unit × ((Arr Int 20) × ((List Int) × Unit))))) (x8 : Arr Int 5) (x9 : Int) (h0 : Arr Int 20) (h1 : List (Int)) : Option ((Unit × ((Arr Int 20) × ((List Int) × Unit)))) :=
 bif (decide (x9 < (5 : Int))) then
  Option.bind (getI x8.l x9) fun (v6 : Int) =>
  Option.bind (octs_Put N (IntKind.wrap .u64 v6) (4 : Int) false) fun v7 =>
  bif (roomB ((List.length h1) + (List.length v7.1)) 1) then
   (X ((x8, ((IntKind.wrap .i64 (x9 + 1)), ())), (h0, ((h1 ++ v7.1), ()))))
  else
   none
 else
  some (((), (h0, (h1, ()))))
noncomputable def sha1_digest_L3_R (c : (((Arr Int 5) × (Int × Unit)) × ((Arr Int 20) × ((List Int) × Unit)))) : Option ((Unit × ((Arr Int 20) × ((List Int) × Unit)))) := gl (fun X c => sha1_digest_L3 N X c.1.1 c.1.2.1 c.2.1 c.2.2.1) N c
theorem sha1_digest_L3_S (X : (((Arr Int 5) × (Int × Unit)) × ((Arr Int 20) × ((List Int) × Unit))) → Option ((Unit × ((Arr Int 20) × ((List Int) × Unit))))) (x8 : Arr Int 5) (x9 : Int) (h0 : Arr Int 20) (h1 : List (Int)) : (roundK Tryz.prog (Ev57 N) 400 [68] sha1_digest_L3_I (loopAt Tryz.prog [68] 3) X ((x8, x9, ()), (h0, h1, ()))).run = sha1_digest_L3 N X x8 x9 h0 h1 := by kernel_rfl
noncomputable def Ev58 : (R : Type) → Env R := Env.addLp (Ev57 N) [68] 0 3 (fun R => lpK Tryz.prog sha1_digest_L3_I (fun X c => sha1_digest_L3 N X c.1.1 c.1.2.1 c.2.1 c.2.2.1) N)
theorem Ev58_ok (R : Type) : EnvOK Tryz.prog (Ev58 N R) := EnvOK.addLp (Ev57_ok N R) (by kernel_rfl) (lpK_ok (li := sha1_digest_L3_I) (G := fun X c => sha1_digest_L3 N X c.1.1 c.1.2.1 c.2.1 c.2.2.1) hmx (Ev57_ok N _) (by kernel_rfl) loopAt_sub (fun (X : CT sha1_digest_L3_I.sh → Option (OT sha1_digest_L3_I.outs)) (c : CT sha1_digest_L3_I.sh) => sha1_digest_L3_S N X c.1.1 c.1.2.1 c.2.1 c.2.2.1) N)
noncomputable def sha1_digest (s0 : Arr Int 5) : Option (Arr Int 20) :=
 Option.bind (sha1_digest_L3_R N ((s0, ((0 : Int), ())), ((@Arr.cons Int 19 0 (@Arr.cons Int 18 0 (@Arr.cons Int 17 0 (@Arr.cons Int 16 0 (@Arr.cons Int 15 0 (@Arr.cons Int 14 0 (@Arr.cons Int 13 0 (@Arr.cons Int 12 0 (@Arr.cons Int 11 0 (@Arr.cons Int 10 0 (@Arr.cons Int 9 0 (@Arr.cons Int 8 0 (@Arr.cons Int 7 0 (@Arr.cons Int 6 0 (@Arr.cons Int 5 0 (@Arr.cons Int 4 0 (@Arr.cons Int 3 0 (@Arr.cons Int 2 0 (@Arr.cons Int 1 0 (@Arr.cons Int 0 0 (@Arr.nil Int))))))))))))))))))))), (([] : List Int), ())))) fun v2 =>
 Option.bind (@toArr Int (20 : Nat) v2.2.2.1) fun (v3 : (Arr Int 20)) =>
 some (v3)
theorem sha1_digest_S (s0 : Arr Int 5) : (runK Tryz.prog (Ev58 N) 400 68 [(.arr 5 (.int .u32))] [(.arr 20 (.int .u8))] (s0, ())).run = sha1_digest N s0 := by kernel_rfl
noncomputable def Ev59 : (R : Type) → Env R := Env.addFn (Ev58 N) 68 (fun R => fnK [(.arr 5 (.int .u32))] [(.arr 20 (.int .u8))] (fun c => sha1_digest N c.1))
theorem Ev59_ok (R : Type) : EnvOK Tryz.prog (Ev59 N R) := EnvOK.addFn hmx (Ev58_ok N R) (Ev58_ok N _) (by kernel_rfl) (fun c => sha1_digest_S N c.1)
noncomputable def sha1_Of (parts0 : List (List Int)) : Option (Arr Int 20) :=
 Option.bind (sha1_Of_1_octs_Join_L3_R N ((parts0, ((0 : Int), (parts0, ((((List.length parts0) : Nat) : Int), ((0 : Int), ()))))), ((@Arr.cons Int 19 0 (@Arr.cons Int 18 0 (@Arr.cons Int 17 0 (@Arr.cons Int 16 0 (@Arr.cons Int 15 0 (@Arr.cons Int 14 0 (@Arr.cons Int 13 0 (@Arr.cons Int 12 0 (@Arr.cons Int 11 0 (@Arr.cons Int 10 0 (@Arr.cons Int 9 0 (@Arr.cons Int 8 0 (@Arr.cons Int 7 0 (@Arr.cons Int 6 0 (@Arr.cons Int 5 0 (@Arr.cons Int 4 0 (@Arr.cons Int 3 0 (@Arr.cons Int 2 0 (@Arr.cons Int 1 0 (@Arr.cons Int 0 0 (@Arr.nil Int))))))))))))))))))))), ()))) fun v2 =>
 bif ((decide ((0 : Int) ≤ (0 : Int) ∧ (0 : Int) ≤ v2.1.2.1)) && (roomB (Int.toNat v2.1.2.1) 1)) then
  Option.bind (sha1_Of_1_octs_Join_L9_R N ((v2.1.1, ((((List.length v2.1.1) : Nat) : Int), ((0 : Int), ()))), (v2.2.1, ((@List.replicate Int (Int.toNat (0 : Int)) (0 : Int)), ())))) fun v3 =>
  Option.bind (sha1_Tail N (IntKind.wrap .u64 (((List.length v3.2.2.1) : Nat) : Int))) fun v4 =>
  bif (roomB ((List.length v3.2.2.1) + (List.length v4)) 1) then
   Option.bind (@sha1_constants N) fun (v5 : (Arr Int 4)) =>
   Option.bind (sha1_Of_L5_R N (((v3.2.2.1 ++ v4), ((0 : Int), ())), (v3.2.1, ((@Arr.cons Int 4 1732584193 (@Arr.cons Int 3 4023233417 (@Arr.cons Int 2 2562383102 (@Arr.cons Int 1 271733878 (@Arr.cons Int 0 3285377520 (@Arr.nil Int)))))), (v5, ()))))) fun v6 =>
   Option.bind (sha1_digest N v6.2.2.1) fun v7 =>
   some (v7)
  else
   none
 else
  none
theorem sha1_Of_S (parts0 : List (List Int)) : (runK Tryz.prog (Ev59 N) 400 43 [(.sl (.sl (.int .u8)))] [(.arr 20 (.int .u8))] (parts0, ())).run = sha1_Of N parts0 := by kernel_rfl
noncomputable def Ev60 : (R : Type) → Env R := Env.addFn (Ev59 N) 43 (fun R => fnK [(.sl (.sl (.int .u8)))] [(.arr 20 (.int .u8))] (fun c => sha1_Of N c.1))
theorem Ev60_ok (R : Type) : EnvOK Tryz.prog (Ev60 N R) := EnvOK.addFn hmx (Ev59_ok N R) (Ev59_ok N _) (by kernel_rfl) (fun c => sha1_Of_S N c.1)
noncomputable def unicode_utf8_word_string (N : Nat) (s0 : List UInt8) : Option Int :=
 Option.bind (getI s0 (0 : Int)) fun (v2 : UInt8) =>
 Option.bind (getI s0 (1 : Int)) fun (v3 : UInt8) =>
 Option.bind (getI s0 (2 : Int)) fun (v4 : UInt8) =>
 Option.bind (getI s0 (3 : Int)) fun (v5 : UInt8) =>
 Option.bind (getI s0 (4 : Int)) fun (v6 : UInt8) =>
 Option.bind (getI s0 (5 : Int)) fun (v7 : UInt8) =>
 Option.bind (getI s0 (6 : Int)) fun (v8 : UInt8) =>
 Option.bind (getI s0 (7 : Int)) fun (v9 : UInt8) =>
 some ((bits .or .u64 (bits .or .u64 (bits .or .u64 (bits .or .u64 (bits .or .u64 (bits .or .u64 (bits .or .u64 (IntKind.wrap .u64 (((@UInt8.toNat v2) : Nat) : Int)) (IntKind.wrap .u64 ((IntKind.wrap .u64 (((@UInt8.toNat v3) : Nat) : Int)) * ((2 : Int) ^ (min (Int.toNat (8 : Int)) (IntKind.bits .u64)))))) (IntKind.wrap .u64 ((IntKind.wrap .u64 (((@UInt8.toNat v4) : Nat) : Int)) * ((2 : Int) ^ (min (Int.toNat (16 : Int)) (IntKind.bits .u64)))))) (IntKind.wrap .u64 ((IntKind.wrap .u64 (((@UInt8.toNat v5) : Nat) : Int)) * ((2 : Int) ^ (min (Int.toNat (24 : Int)) (IntKind.bits .u64)))))) (IntKind.wrap .u64 ((IntKind.wrap .u64 (((@UInt8.toNat v6) : Nat) : Int)) * ((2 : Int) ^ (min (Int.toNat (32 : Int)) (IntKind.bits .u64)))))) (IntKind.wrap .u64 ((IntKind.wrap .u64 (((@UInt8.toNat v7) : Nat) : Int)) * ((2 : Int) ^ (min (Int.toNat (40 : Int)) (IntKind.bits .u64)))))) (IntKind.wrap .u64 ((IntKind.wrap .u64 (((@UInt8.toNat v8) : Nat) : Int)) * ((2 : Int) ^ (min (Int.toNat (48 : Int)) (IntKind.bits .u64)))))) (IntKind.wrap .u64 ((IntKind.wrap .u64 (((@UInt8.toNat v9) : Nat) : Int)) * ((2 : Int) ^ (min (Int.toNat (56 : Int)) (IntKind.bits .u64)))))))
theorem unicode_utf8_word_string_S (s0 : List UInt8) : (runK Tryz.prog (Ev60 N) 400 94 [.str] [(.int .u64)] (s0, ())).run = unicode_utf8_word_string N s0 := by kernel_rfl
noncomputable def Ev61 : (R : Type) → Env R := Env.addFn (Ev60 N) 94 (fun R => fnK [.str] [(.int .u64)] (fun c => unicode_utf8_word_string N c.1))
theorem Ev61_ok (R : Type) : EnvOK Tryz.prog (Ev61 N R) := EnvOK.addFn hmx (Ev60_ok N R) (Ev60_ok N _) (by kernel_rfl) (fun c => unicode_utf8_word_string_S N c.1)
noncomputable def unicode_utf8_ValidString_L9_I : LI := ⟨169, 0, [], ⟨[(0, .ty .str)], []⟩, [(.exit 2, ⟨[(0, .ty .str)], []⟩)]⟩
noncomputable def unicode_utf8_ValidString_L9 (X : ((List UInt8 × Unit) × Unit) → Option (((List UInt8 × Unit) × Unit))) (s0 : List UInt8) : Option (((List UInt8 × Unit) × Unit)) :=
 bif (decide ((32 : Int) < (((List.length s0) : Nat) : Int))) then
  Option.bind (unicode_utf8_word_string N s0) fun v3 =>
  Option.bind (dropI s0 (8 : Int)) fun (v4 : (List UInt8)) =>
  Option.bind (unicode_utf8_word_string N v4) fun v5 =>
  Option.bind (dropI s0 (16 : Int)) fun (v6 : (List UInt8)) =>
  Option.bind (unicode_utf8_word_string N v6) fun v7 =>
  Option.bind (dropI s0 (24 : Int)) fun (v8 : (List UInt8)) =>
  Option.bind (unicode_utf8_word_string N v8) fun v9 =>
  bif (cond true (decide ((bits .and .u64 (bits .or .u64 (bits .or .u64 v3 v5) (bits .or .u64 v7 v9)) (9259542123273814144 : Int)) = (0 : Int))) false) then
   Option.bind (dropI s0 (32 : Int)) fun (v10 : (List UInt8)) =>
   (X ((v10, ()), ()))
  else
   some (((s0, ()), ()))
 else
  some (((s0, ()), ()))
noncomputable def unicode_utf8_ValidString_L9_R (c : ((List UInt8 × Unit) × Unit)) : Option (((List UInt8 × Unit) × Unit)) := gl (fun X c => unicode_utf8_ValidString_L9 N X c.1.1) N c
theorem unicode_utf8_ValidString_L9_S (X : ((List UInt8 × Unit) × Unit) → Option (((List UInt8 × Unit) × Unit))) (s0 : List UInt8) : (roundK Tryz.prog (Ev61 N) 400 [77] unicode_utf8_ValidString_L9_I (loopAt Tryz.prog [77] 9) X ((s0, ()), ())).run = unicode_utf8_ValidString_L9 N X s0 := by kernel_rfl
noncomputable def Ev62 : (R : Type) → Env R := Env.addLp (Ev61 N) [77] 0 9 (fun R => lpK Tryz.prog unicode_utf8_ValidString_L9_I (fun X c => unicode_utf8_ValidString_L9 N X c.1.1) N)
theorem Ev62_ok (R : Type) : EnvOK Tryz.prog (Ev62 N R) := EnvOK.addLp (Ev61_ok N R) (by kernel_rfl) (lpK_ok (li := unicode_utf8_ValidString_L9_I) (G := fun X c => unicode_utf8_ValidString_L9 N X c.1.1) hmx (Ev61_ok N _) (by kernel_rfl) loopAt_sub (fun (X : CT unicode_utf8_ValidString_L9_I.sh → Option (OT unicode_utf8_ValidString_L9_I.outs)) (c : CT unicode_utf8_ValidString_L9_I.sh) => unicode_utf8_ValidString_L9_S N X c.1.1) N)
noncomputable def unicode_utf8_ValidString_L1_I : LI := ⟨169, 0, [], ⟨[(0, .ty .str)], []⟩, [(.ret, ⟨[(2, .ty .bool)], []⟩), (.exit 0, ⟨[], []⟩)]⟩
noncomputable def unicode_utf8_ValidString_L1 (X : ((List UInt8 × Unit) × Unit) → Option ((((Bool × Unit) × Unit) ⊕ (Unit × Unit)))) (s0 : List UInt8) : Option ((((Bool × Unit) × Unit) ⊕ (Unit × Unit))) :=
 bif (decide ((0 : Int) < (((List.length s0) : Nat) : Int))) then
  Option.bind (getI s0 (0 : Int)) fun (v3 : UInt8) =>
  bif (decide ((((@UInt8.toNat v3) : Nat) : Int) < (128 : Int))) then
   Option.bind (dropI s0 (1 : Int)) fun (v4 : (List UInt8)) =>
   bif (decide ((8 : Int) < (((List.length v4) : Nat) : Int))) then
    Option.bind (unicode_utf8_word_string N v4) fun v5 =>
    Option.bind (some ((cond true (decide ((bits .and .u64 v5 (9259542123273814144 : Int)) = (0 : Int))) false))) fun (v6 : Bool) =>
    bif v6 then
     Option.bind (dropI v4 (8 : Int)) fun (v7 : (List UInt8)) =>
     bif (decide ((16 : Int) < (((List.length v7) : Nat) : Int))) then
      Option.bind (unicode_utf8_word_string N v7) fun v8 =>
      Option.bind (dropI v7 (8 : Int)) fun (v9 : (List UInt8)) =>
      Option.bind (unicode_utf8_word_string N v9) fun v10 =>
      bif (cond true (decide ((bits .and .u64 (bits .or .u64 v8 v10) (9259542123273814144 : Int)) = (0 : Int))) false) then
       Option.bind (dropI v7 (16 : Int)) fun (v11 : (List UInt8)) =>
       Option.bind (unicode_utf8_ValidString_L9_R N ((v11, ()), ())) fun v12 =>
       (X ((v12.1.1, ()), ()))
      else
       (X ((v7, ()), ()))
     else
      (X ((v7, ()), ()))
    else
     (X ((v4, ()), ()))
   else
    (X ((v4, ()), ()))
  else
   Option.bind (getI (@List.cons Int (240 : Int) (@List.cons Int (240 : Int) (@List.cons Int (240 : Int) (@List.cons Int (240 : Int) (@List.cons Int (240 : Int) (@List.cons Int (240 : Int) (@List.cons Int (240 : Int) (@List.cons Int (240 : Int) (@List.cons Int (240 : Int) (@List.cons Int (240 : Int) (@List.cons Int (240 : Int) (@List.cons Int (240 : Int) (@List.cons Int (240 : Int) (@List.cons Int (240 : Int) (@List.cons Int (240 : Int) (@List.cons Int (240 : Int) (@List.cons Int (240 : Int) (@List.cons Int (240 : Int) (@List.cons Int (240 : Int) (@List.cons Int (240 : Int) (@List.cons Int (240 : Int) (@List.cons Int (240 : Int) (@List.cons Int (240 : Int) (@List.cons Int (240 : Int) (@List.cons Int (240 : Int) (@List.cons Int (240 : Int) (@List.cons Int (240 : Int) (@List.cons Int (240 : Int) (@List.cons Int (240 : Int) (@List.cons Int (240 : Int) (@List.cons Int (240 : Int) (@List.cons Int (240 : Int) (@List.cons Int (240 : Int) (@List.cons Int (240 : Int) (@List.cons Int (240 : Int) (@List.cons Int (240 : Int) (@List.cons Int (240 : Int) (@List.cons Int (240 : Int) (@List.cons Int (240 : Int) (@List.cons Int (240 : Int) (@List.cons Int (240 : Int) (@List.cons Int (240 : Int) (@List.cons Int (240 : Int) (@List.cons Int (240 : Int) (@List.cons Int (240 : Int) (@List.cons Int (240 : Int) (@List.cons Int (240 : Int) (@List.cons Int (240 : Int) (@List.cons Int (240 : Int) (@List.cons Int (240 : Int) (@List.cons Int (240 : Int) (@List.cons Int (240 : Int) (@List.cons Int (240 : Int) (@List.cons Int (240 : Int) (@List.cons Int (240 : Int) (@List.cons Int (240 : Int) (@List.cons Int (240 : Int) (@List.cons Int (240 : Int) (@List.cons Int (240 : Int) (@List.cons Int (240 : Int) (@List.cons Int (240 : Int) (@List.cons Int (240 : Int) (@List.cons Int (240 : Int) (@List.cons Int (240 : Int) (@List.cons Int (240 : Int) (@List.cons Int (240 : Int) (@List.cons Int (240 : Int) (@List.cons Int (240 : Int) (@List.cons Int (240 : Int) (@List.cons Int (240 : Int) (@List.cons Int (240 : Int) (@List.cons Int (240 : Int) (@List.cons Int (240 : Int) (@List.cons Int (240 : Int) (@List.cons Int (240 : Int) (@List.cons Int (240 : Int) (@List.cons Int (240 : Int) (@List.cons Int (240 : Int) (@List.cons Int (240 : Int) (@List.cons Int (240 : Int) (@List.cons Int (240 : Int) (@List.cons Int (240 : Int) (@List.cons Int (240 : Int) (@List.cons Int (240 : Int) (@List.cons Int (240 : Int) (@List.cons Int (240 : Int) (@List.cons Int (240 : Int) (@List.cons Int (240 : Int) (@List.cons Int (240 : Int) (@List.cons Int (240 : Int) (@List.cons Int (240 : Int) (@List.cons Int (240 : Int) (@List.cons Int (240 : Int) (@List.cons Int (240 : Int) (@List.cons Int (240 : Int) (@List.cons Int (240 : Int) (@List.cons Int (240 : Int) (@List.cons Int (240 : Int) (@List.cons Int (240 : Int) (@List.cons Int (240 : Int) (@List.cons Int (240 : Int) (@List.cons Int (240 : Int) (@List.cons Int (240 : Int) (@List.cons Int (240 : Int) (@List.cons Int (240 : Int) (@List.cons Int (240 : Int) (@List.cons Int (240 : Int) (@List.cons Int (240 : Int) (@List.cons Int (240 : Int) (@List.cons Int (240 : Int) (@List.cons Int (240 : Int) (@List.cons Int (240 : Int) (@List.cons Int (240 : Int) (@List.cons Int (240 : Int) (@List.cons Int (240 : Int) (@List.cons Int (240 : Int) (@List.cons Int (240 : Int) (@List.cons Int (240 : Int) (@List.cons Int (240 : Int) (@List.cons Int (240 : Int) (@List.cons Int (240 : Int) (@List.cons Int (240 : Int) (@List.cons Int (240 : Int) (@List.cons Int (240 : Int) (@List.cons Int (240 : Int) (@List.cons Int (240 : Int) (@List.cons Int (240 : Int) (@List.cons Int (240 : Int) (@List.cons Int (241 : Int) (@List.cons Int (241 : Int) (@List.cons Int (241 : Int) (@List.cons Int (241 : Int) (@List.cons Int (241 : Int) (@List.cons Int (241 : Int) (@List.cons Int (241 : Int) (@List.cons Int (241 : Int) (@List.cons Int (241 : Int) (@List.cons Int (241 : Int) (@List.cons Int (241 : Int) (@List.cons Int (241 : Int) (@List.cons Int (241 : Int) (@List.cons Int (241 : Int) (@List.cons Int (241 : Int) (@List.cons Int (241 : Int) (@List.cons Int (241 : Int) (@List.cons Int (241 : Int) (@List.cons Int (241 : Int) (@List.cons Int (241 : Int) (@List.cons Int (241 : Int) (@List.cons Int (241 : Int) (@List.cons Int (241 : Int) (@List.cons Int (241 : Int) (@List.cons Int (241 : Int) (@List.cons Int (241 : Int) (@List.cons Int (241 : Int) (@List.cons Int (241 : Int) (@List.cons Int (241 : Int) (@List.cons Int (241 : Int) (@List.cons Int (241 : Int) (@List.cons Int (241 : Int) (@List.cons Int (241 : Int) (@List.cons Int (241 : Int) (@List.cons Int (241 : Int) (@List.cons Int (241 : Int) (@List.cons Int (241 : Int) (@List.cons Int (241 : Int) (@List.cons Int (241 : Int) (@List.cons Int (241 : Int) (@List.cons Int (241 : Int) (@List.cons Int (241 : Int) (@List.cons Int (241 : Int) (@List.cons Int (241 : Int) (@List.cons Int (241 : Int) (@List.cons Int (241 : Int) (@List.cons Int (241 : Int) (@List.cons Int (241 : Int) (@List.cons Int (241 : Int) (@List.cons Int (241 : Int) (@List.cons Int (241 : Int) (@List.cons Int (241 : Int) (@List.cons Int (241 : Int) (@List.cons Int (241 : Int) (@List.cons Int (241 : Int) (@List.cons Int (241 : Int) (@List.cons Int (241 : Int) (@List.cons Int (241 : Int) (@List.cons Int (241 : Int) (@List.cons Int (241 : Int) (@List.cons Int (241 : Int) (@List.cons Int (241 : Int) (@List.cons Int (241 : Int) (@List.cons Int (241 : Int) (@List.cons Int (241 : Int) (@List.cons Int (241 : Int) (@List.cons Int (2 : Int) (@List.cons Int (2 : Int) (@List.cons Int (2 : Int) (@List.cons Int (2 : Int) (@List.cons Int (2 : Int) (@List.cons Int (2 : Int) (@List.cons Int (2 : Int) (@List.cons Int (2 : Int) (@List.cons Int (2 : Int) (@List.cons Int (2 : Int) (@List.cons Int (2 : Int) (@List.cons Int (2 : Int) (@List.cons Int (2 : Int) (@List.cons Int (2 : Int) (@List.cons Int (2 : Int) (@List.cons Int (2 : Int) (@List.cons Int (2 : Int) (@List.cons Int (2 : Int) (@List.cons Int (2 : Int) (@List.cons Int (2 : Int) (@List.cons Int (2 : Int) (@List.cons Int (2 : Int) (@List.cons Int (2 : Int) (@List.cons Int (2 : Int) (@List.cons Int (2 : Int) (@List.cons Int (2 : Int) (@List.cons Int (2 : Int) (@List.cons Int (2 : Int) (@List.cons Int (2 : Int) (@List.cons Int (2 : Int) (@List.cons Int (19 : Int) (@List.cons Int (3 : Int) (@List.cons Int (3 : Int) (@List.cons Int (3 : Int) (@List.cons Int (3 : Int) (@List.cons Int (3 : Int) (@List.cons Int (3 : Int) (@List.cons Int (3 : Int) (@List.cons Int (3 : Int) (@List.cons Int (3 : Int) (@List.cons Int (3 : Int) (@List.cons Int (3 : Int) (@List.cons Int (3 : Int) (@List.cons Int (35 : Int) (@List.cons Int (3 : Int) (@List.cons Int (3 : Int) (@List.cons Int (52 : Int) (@List.cons Int (4 : Int) (@List.cons Int (4 : Int) (@List.cons Int (4 : Int) (@List.cons Int (68 : Int) (@List.cons Int (241 : Int) (@List.cons Int (241 : Int) (@List.cons Int (241 : Int) ([241, 241, 241, 241, 241, 241, 241, 241] : List Int))))))))))))))))))))))))))))))))))))))))))))))))))))))))))))))))))))))))))))))))))))))))))))))))))))))))))))))))))))))))))))))))))))))))))))))))))))))))))))))))))))))))))))))))))))))))))))))))))))))))))))))))))))))))))))))))))))))))))))))))))))))))) (((@UInt8.toNat v3) : Nat) : Int)) fun (v4 : Int) =>
   Option.bind (getI ([((128 : Int), (191 : Int)), ((160 : Int), (191 : Int)), ((128 : Int), (159 : Int)), ((144 : Int), (191 : Int)), ((128 : Int), (143 : Int)), ((0 : Int), (0 : Int)), ((0 : Int), (0 : Int)), ((0 : Int), (0 : Int)), ((0 : Int), (0 : Int)), ((0 : Int), (0 : Int)), ((0 : Int), (0 : Int)), ((0 : Int), (0 : Int)), ((0 : Int), (0 : Int)), ((0 : Int), (0 : Int)), ((0 : Int), (0 : Int)), ((0 : Int), (0 : Int))] : List ((Int × Int))) (@Int.fdiv v4 ((2 : Int) ^ (min (Int.toNat (4 : Int)) (IntKind.bits .u8))))) fun (v5 : (Int × Int)) =>
   bif (decide ((IntKind.wrap .i64 (bits .and .u8 v4 (7 : Int))) = (2 : Int))) then
    bif (decide ((((List.length s0) : Nat) : Int) < (2 : Int))) then
     some ((.inl ((false, ()), ())))
    else
     Option.bind (getI s0 (1 : Int)) fun (v6 : UInt8) =>
     bif (cond false true (decide ((((@UInt8.toNat v6) : Nat) : Int) < v5.1))) then
      some ((.inl ((false, ()), ())))
     else
      Option.bind (getI s0 (1 : Int)) fun (v7 : UInt8) =>
      bif (cond false true (decide (v5.2 < (((@UInt8.toNat v7) : Nat) : Int)))) then
       some ((.inl ((false, ()), ())))
      else
       Option.bind (dropI s0 (2 : Int)) fun (v8 : (List UInt8)) =>
       (X ((v8, ()), ()))
   else
    bif (decide ((IntKind.wrap .i64 (bits .and .u8 v4 (7 : Int))) = (3 : Int))) then
     bif (decide ((((List.length s0) : Nat) : Int) < (3 : Int))) then
      some ((.inl ((false, ()), ())))
     else
      Option.bind (getI s0 (1 : Int)) fun (v6 : UInt8) =>
      bif (cond false true (decide ((((@UInt8.toNat v6) : Nat) : Int) < v5.1))) then
       some ((.inl ((false, ()), ())))
      else
       Option.bind (getI s0 (1 : Int)) fun (v7 : UInt8) =>
       bif (cond false true (decide (v5.2 < (((@UInt8.toNat v7) : Nat) : Int)))) then
        some ((.inl ((false, ()), ())))
       else
        Option.bind (getI s0 (2 : Int)) fun (v8 : UInt8) =>
        bif (cond false true (decide ((((@UInt8.toNat v8) : Nat) : Int) < (128 : Int)))) then
         some ((.inl ((false, ()), ())))
        else
         Option.bind (getI s0 (2 : Int)) fun (v9 : UInt8) =>
         bif (cond false true (decide ((191 : Int) < (((@UInt8.toNat v9) : Nat) : Int)))) then
          some ((.inl ((false, ()), ())))
         else
          Option.bind (dropI s0 (3 : Int)) fun (v10 : (List UInt8)) =>
          (X ((v10, ()), ()))
    else
     bif (decide ((IntKind.wrap .i64 (bits .and .u8 v4 (7 : Int))) = (4 : Int))) then
      bif (decide ((((List.length s0) : Nat) : Int) < (4 : Int))) then
       some ((.inl ((false, ()), ())))
      else
       Option.bind (getI s0 (1 : Int)) fun (v6 : UInt8) =>
       bif (cond false true (decide ((((@UInt8.toNat v6) : Nat) : Int) < v5.1))) then
        some ((.inl ((false, ()), ())))
       else
        Option.bind (getI s0 (1 : Int)) fun (v7 : UInt8) =>
        bif (cond false true (decide (v5.2 < (((@UInt8.toNat v7) : Nat) : Int)))) then
         some ((.inl ((false, ()), ())))
        else
         Option.bind (getI s0 (2 : Int)) fun (v8 : UInt8) =>
         bif (cond false true (decide ((((@UInt8.toNat v8) : Nat) : Int) < (128 : Int)))) then
          some ((.inl ((false, ()), ())))
         else
          Option.bind (getI s0 (2 : Int)) fun (v9 : UInt8) =>
          bif (cond false true (decide ((191 : Int) < (((@UInt8.toNat v9) : Nat) : Int)))) then
           some ((.inl ((false, ()), ())))
          else
           Option.bind (getI s0 (3 : Int)) fun (v10 : UInt8) =>
           bif (cond false true (decide ((((@UInt8.toNat v10) : Nat) : Int) < (128 : Int)))) then
            some ((.inl ((false, ()), ())))
           else
            Option.bind (getI s0 (3 : Int)) fun (v11 : UInt8) =>
            bif (cond false true (decide ((191 : Int) < (((@UInt8.toNat v11) : Nat) : Int)))) then
             some ((.inl ((false, ()), ())))
            else
             Option.bind (dropI s0 (4 : Int)) fun (v12 : (List UInt8)) =>
             (X ((v12, ()), ()))
     else
      some ((.inl ((false, ()), ())))
 else
  some ((.inr ((), ())))
noncomputable def unicode_utf8_ValidString_L1_R (c : ((List UInt8 × Unit) × Unit)) : Option ((((Bool × Unit) × Unit) ⊕ (Unit × Unit))) := gl (fun X c => unicode_utf8_ValidString_L1 N X c.1.1) N c
theorem unicode_utf8_ValidString_L1_S (X : ((List UInt8 × Unit) × Unit) → Option ((((Bool × Unit) × Unit) ⊕ (Unit × Unit)))) (s0 : List UInt8) : (roundK Tryz.prog (Ev62 N) 400 [77] unicode_utf8_ValidString_L1_I (loopAt Tryz.prog [77] 1) X ((s0, ()), ())).run = unicode_utf8_ValidString_L1 N X s0 := by kernel_rfl
noncomputable def Ev63 : (R : Type) → Env R := Env.addLp (Ev62 N) [77] 0 1 (fun R => lpK Tryz.prog unicode_utf8_ValidString_L1_I (fun X c => unicode_utf8_ValidString_L1 N X c.1.1) N)
theorem Ev63_ok (R : Type) : EnvOK Tryz.prog (Ev63 N R) := EnvOK.addLp (Ev62_ok N R) (by kernel_rfl) (lpK_ok (li := unicode_utf8_ValidString_L1_I) (G := fun X c => unicode_utf8_ValidString_L1 N X c.1.1) hmx (Ev62_ok N _) (by kernel_rfl) loopAt_sub (fun (X : CT unicode_utf8_ValidString_L1_I.sh → Option (OT unicode_utf8_ValidString_L1_I.outs)) (c : CT unicode_utf8_ValidString_L1_I.sh) => unicode_utf8_ValidString_L1_S N X c.1.1) N)
noncomputable def unicode_utf8_ValidString (s0 : List UInt8) : Option Bool :=
 Option.bind (unicode_utf8_ValidString_L1_R N ((s0, ()), ())) fun v2 =>
 Sum.elim
  (fun (v3 : ((Bool × Unit) × Unit)) =>
  some (v3.1.1))
  (fun (v3 : (Unit × Unit)) =>
  some (true)) v2
theorem unicode_utf8_ValidString_S (s0 : List UInt8) : (runK Tryz.prog (Ev63 N) 400 77 [.str] [.bool] (s0, ())).run = unicode_utf8_ValidString N s0 := by kernel_rfl
noncomputable def Ev64 : (R : Type) → Env R := Env.addFn (Ev63 N) 77 (fun R => fnK [.str] [.bool] (fun c => unicode_utf8_ValidString N c.1))
theorem Ev64_ok (R : Type) : EnvOK Tryz.prog (Ev64 N R) := EnvOK.addFn hmx (Ev63_ok N R) (Ev63_ok N _) (by kernel_rfl) (fun c => unicode_utf8_ValidString_S N c.1)
noncomputable def unicode_utf8_RuneCountInString_L2_I : LI := ⟨10, 0, [], ⟨[(2, .ty (.int .i64)), (4, .lit (.box 0 0))], [.itr]⟩, [(.exit 0, ⟨[(2, .ty (.int .i64))], []⟩)]⟩
noncomputable def unicode_utf8_RuneCountInString_L2 (N : Nat) (X : ((Int × Unit) × (List UInt8 × (Int × Unit))) → Option (((Int × Unit) × Unit))) (n2 : Int) (h0 : List UInt8) (h1 : Int) : Option (((Int × Unit) × Unit)) :=
 bif (decide ((Int.toNat h1) < (List.length h0))) then
  (X (((IntKind.wrap .i64 (n2 + 1)), ()), (h0, (((((Int.toNat h1) : Nat) : Int) + (@rdec h0 h1).2), ()))))
 else
  some (((n2, ()), ()))
noncomputable def unicode_utf8_RuneCountInString_L2_R (c : ((Int × Unit) × (List UInt8 × (Int × Unit)))) : Option (((Int × Unit) × Unit)) := gl (fun X c => unicode_utf8_RuneCountInString_L2 N X c.1.1 c.2.1 c.2.2.1) N c
theorem unicode_utf8_RuneCountInString_L2_S (X : ((Int × Unit) × (List UInt8 × (Int × Unit))) → Option (((Int × Unit) × Unit))) (n2 : Int) (h0 : List UInt8) (h1 : Int) : (roundK Tryz.prog (Ev64 N) 400 [95] unicode_utf8_RuneCountInString_L2_I (loopAt Tryz.prog [95] 2) X ((n2, ()), (h0, h1, ()))).run = unicode_utf8_RuneCountInString_L2 N X n2 h0 h1 := by kernel_rfl
noncomputable def Ev65 : (R : Type) → Env R := Env.addLp (Ev64 N) [95] 0 2 (fun R => lpK Tryz.prog unicode_utf8_RuneCountInString_L2_I (fun X c => unicode_utf8_RuneCountInString_L2 N X c.1.1 c.2.1 c.2.2.1) N)
theorem Ev65_ok (R : Type) : EnvOK Tryz.prog (Ev65 N R) := EnvOK.addLp (Ev64_ok N R) (by kernel_rfl) (lpK_ok (li := unicode_utf8_RuneCountInString_L2_I) (G := fun X c => unicode_utf8_RuneCountInString_L2 N X c.1.1 c.2.1 c.2.2.1) hmx (Ev64_ok N _) (by kernel_rfl) loopAt_sub (fun (X : CT unicode_utf8_RuneCountInString_L2_I.sh → Option (OT unicode_utf8_RuneCountInString_L2_I.outs)) (c : CT unicode_utf8_RuneCountInString_L2_I.sh) => unicode_utf8_RuneCountInString_L2_S N X c.1.1 c.2.1 c.2.2.1) N)
noncomputable def unicode_utf8_RuneCountInString (s0 : List UInt8) : Option Int :=
 Option.bind (unicode_utf8_RuneCountInString_L2_R N (((0 : Int), ()), (s0, ((0 : Int), ())))) fun v2 =>
 some (v2.1.1)
theorem unicode_utf8_RuneCountInString_S (s0 : List UInt8) : (runK Tryz.prog (Ev65 N) 400 95 [.str] [(.int .i64)] (s0, ())).run = unicode_utf8_RuneCountInString N s0 := by kernel_rfl
noncomputable def Ev66 : (R : Type) → Env R := Env.addFn (Ev65 N) 95 (fun R => fnK [.str] [(.int .i64)] (fun c => unicode_utf8_RuneCountInString N c.1))
theorem Ev66_ok (R : Type) : EnvOK Tryz.prog (Ev66 N R) := EnvOK.addFn hmx (Ev65_ok N R) (Ev65_ok N _) (by kernel_rfl) (fun c => unicode_utf8_RuneCountInString_S N c.1)
noncomputable def utf16_Count (s0 : List UInt8) : Option Int :=
 Option.bind (unicode_utf8_ValidString N s0) fun v2 =>
 bif (!v2) then
  some ((0 : Int))
 else
  Option.bind (unicode_utf8_RuneCountInString N s0) fun v3 =>
  some (v3)
theorem utf16_Count_S (s0 : List UInt8) : (runK Tryz.prog (Ev66 N) 400 78 [.str] [(.int .i64)] (s0, ())).run = utf16_Count N s0 := by kernel_rfl
noncomputable def Ev67 : (R : Type) → Env R := Env.addFn (Ev66 N) 78 (fun R => fnK [.str] [(.int .i64)] (fun c => utf16_Count N c.1))
theorem Ev67_ok (R : Type) : EnvOK Tryz.prog (Ev67 N R) := EnvOK.addFn hmx (Ev66_ok N R) (Ev66_ok N _) (by kernel_rfl) (fun c => utf16_Count_S N c.1)
noncomputable def utf16_May (s0 : List UInt8) : Option Int :=
 Option.bind (unicode_utf8_ValidString N s0) fun v2 =>
 bif (!v2) then
  some ((3 : Int))
 else
  Option.bind (utf16_Count N s0) fun v3 =>
  bif (decide ((64 : Int) < v3)) then
   some ((8 : Int))
  else
   some ((0 : Int))
theorem utf16_May_S (s0 : List UInt8) : (runK Tryz.prog (Ev67 N) 400 52 [.str] [(.int .i64)] (s0, ())).run = utf16_May N s0 := by kernel_rfl
noncomputable def Ev68 : (R : Type) → Env R := Env.addFn (Ev67 N) 52 (fun R => fnK [.str] [(.int .i64)] (fun c => utf16_May N c.1))
theorem Ev68_ok (R : Type) : EnvOK Tryz.prog (Ev68 N R) := EnvOK.addFn hmx (Ev67_ok N R) (Ev67_ok N _) (by kernel_rfl) (fun c => utf16_May_S N c.1)
noncomputable def Ev69 : (R : Type) → Env R := Env.addMv (Ev68 N) [(53, 8), (53, 10)]
theorem Ev69_ok (R : Type) : EnvOK Tryz.prog (Ev69 N R) := EnvOK.addMv (Ev68_ok N R) [(53, 8), (53, 10)]
noncomputable def utf16_Units_L5_I : LI := ⟨36, 0, [(3, 106)], ⟨[(3, .lit (.own 0)), (11, .lit (.box 1 0))], [.own (.int .u16) 106, .itr]⟩, [(.exit 0, ⟨[(3, .lit (.own 0))], [.own (.int .u16) 106]⟩)]⟩
noncomputable def utf16_Units_L5 (N : Nat) (X : (Unit × ((List Int) × (List UInt8 × (Int × Unit)))) → Option ((Unit × ((List Int) × Unit)))) (h0 : List (Int)) (h1 : List UInt8) (h2 : Int) : Option ((Unit × ((List Int) × Unit))) :=
 bif (decide ((Int.toNat h2) < (List.length h1))) then
  bif (decide ((@rdec h1 h2).1 < (65536 : Int))) then
   bif (roomB ((List.length h0) + (List.length ([(IntKind.wrap .u16 (@rdec h1 h2).1)] : List (Int)))) 2) then
    (X ((), ((h0 ++ ([(IntKind.wrap .u16 (@rdec h1 h2).1)] : List (Int))), (h1, (((((Int.toNat h2) : Nat) : Int) + (@rdec h1 h2).2), ())))))
   else
    none
  else
   bif (roomB ((List.length h0) + (List.length ([(IntKind.wrap .u16 (IntKind.wrap .i32 ((55296 : Int) + (@Int.fdiv (IntKind.wrap .i32 ((@rdec h1 h2).1 - 65536)) ((2 : Int) ^ (min (Int.toNat (10 : Int)) (IntKind.bits .i32))))))), (IntKind.wrap .u16 (IntKind.wrap .i32 ((56320 : Int) + (bits .and .i32 (IntKind.wrap .i32 ((@rdec h1 h2).1 - 65536)) (1023 : Int)))))] : List (Int)))) 2) then
    (X ((), ((h0 ++ ([(IntKind.wrap .u16 (IntKind.wrap .i32 ((55296 : Int) + (@Int.fdiv (IntKind.wrap .i32 ((@rdec h1 h2).1 - 65536)) ((2 : Int) ^ (min (Int.toNat (10 : Int)) (IntKind.bits .i32))))))), (IntKind.wrap .u16 (IntKind.wrap .i32 ((56320 : Int) + (bits .and .i32 (IntKind.wrap .i32 ((@rdec h1 h2).1 - 65536)) (1023 : Int)))))] : List (Int))), (h1, (((((Int.toNat h2) : Nat) : Int) + (@rdec h1 h2).2), ())))))
   else
    none
 else
  some (((), (h0, ())))
noncomputable def utf16_Units_L5_R (c : (Unit × ((List Int) × (List UInt8 × (Int × Unit))))) : Option ((Unit × ((List Int) × Unit))) := gl (fun X c => utf16_Units_L5 N X c.2.1 c.2.2.1 c.2.2.2.1) N c
theorem utf16_Units_L5_S (X : (Unit × ((List Int) × (List UInt8 × (Int × Unit)))) → Option ((Unit × ((List Int) × Unit)))) (h0 : List (Int)) (h1 : List UInt8) (h2 : Int) : (roundK Tryz.prog (Ev69 N) 400 [53] utf16_Units_L5_I (loopAt Tryz.prog [53] 5) X ((), (h0, h1, h2, ()))).run = utf16_Units_L5 N X h0 h1 h2 := by kernel_rfl
noncomputable def Ev70 : (R : Type) → Env R := Env.addLp (Ev69 N) [53] 0 5 (fun R => lpK Tryz.prog utf16_Units_L5_I (fun X c => utf16_Units_L5 N X c.2.1 c.2.2.1 c.2.2.2.1) N)
theorem Ev70_ok (R : Type) : EnvOK Tryz.prog (Ev70 N R) := EnvOK.addLp (Ev69_ok N R) (by kernel_rfl) (lpK_ok (li := utf16_Units_L5_I) (G := fun X c => utf16_Units_L5 N X c.2.1 c.2.2.1 c.2.2.2.1) hmx (Ev69_ok N _) (by kernel_rfl) loopAt_sub (fun (X : CT utf16_Units_L5_I.sh → Option (OT utf16_Units_L5_I.outs)) (c : CT utf16_Units_L5_I.sh) => utf16_Units_L5_S N X c.2.1 c.2.2.1 c.2.2.2.1) N)
noncomputable def utf16_Units (s0 : List UInt8) : Option (List Int) :=
 Option.bind (utf16_May N s0) fun v2 =>
 bif (!(decide (v2 = (0 : Int)))) then
  some (([] : List Int))
 else
  Option.bind (utf16_Units_L5_R N ((), (([] : List Int), (s0, ((0 : Int), ()))))) fun v3 =>
  some (v3.2.1)
theorem utf16_Units_S (s0 : List UInt8) : (runK Tryz.prog (Ev70 N) 400 53 [.str] [(.sl (.int .u16))] (s0, ())).run = utf16_Units N s0 := by kernel_rfl
noncomputable def Ev71 : (R : Type) → Env R := Env.addFn (Ev70 N) 53 (fun R => fnK [.str] [(.sl (.int .u16))] (fun c => utf16_Units N c.1))
theorem Ev71_ok (R : Type) : EnvOK Tryz.prog (Ev71 N R) := EnvOK.addFn hmx (Ev70_ok N R) (Ev70_ok N _) (by kernel_rfl) (fun c => utf16_Units_S N c.1)
noncomputable def utf16_Lay_L6_I : LI := ⟨33, 0, [(5, 5)], ⟨[(5, .lit (.own 0)), (16, .ty (.sl (.int .u16))), (17, .ty (.int .i64)), (18, .ty (.int .i64))], [.own (.int .u8) 5]⟩, [(.exit 0, ⟨[(5, .lit (.own 0))], [.own (.int .u8) 5]⟩)]⟩
noncomputable def utf16_Lay_L6 (X : (((List Int) × (Int × (Int × Unit))) × ((List Int) × Unit)) → Option ((Unit × ((List Int) × Unit)))) (x16 : List (Int)) (x17 : Int) (x18 : Int) (h0 : List (Int)) : Option ((Unit × ((List Int) × Unit))) :=
 bif (decide (x18 < x17)) then
  Option.bind (getI x16 x18) fun (v6 : Int) =>
  Option.bind (octs_Put N (IntKind.wrap .u64 v6) (2 : Int) true) fun v7 =>
  bif (roomB ((List.length h0) + (List.length v7.1)) 1) then
   (X ((x16, (x17, ((IntKind.wrap .i64 (x18 + 1)), ()))), ((h0 ++ v7.1), ())))
  else
   none
 else
  some (((), (h0, ())))
noncomputable def utf16_Lay_L6_R (c : (((List Int) × (Int × (Int × Unit))) × ((List Int) × Unit))) : Option ((Unit × ((List Int) × Unit))) := gl (fun X c => utf16_Lay_L6 N X c.1.1 c.1.2.1 c.1.2.2.1 c.2.1) N c
theorem utf16_Lay_L6_S (X : (((List Int) × (Int × (Int × Unit))) × ((List Int) × Unit)) → Option ((Unit × ((List Int) × Unit)))) (x16 : List (Int)) (x17 : Int) (x18 : Int) (h0 : List (Int)) : (roundK Tryz.prog (Ev71 N) 400 [39] utf16_Lay_L6_I (loopAt Tryz.prog [39] 6) X ((x16, x17, x18, ()), (h0, ()))).run = utf16_Lay_L6 N X x16 x17 x18 h0 := by kernel_rfl
noncomputable def Ev72 : (R : Type) → Env R := Env.addLp (Ev71 N) [39] 0 6 (fun R => lpK Tryz.prog utf16_Lay_L6_I (fun X c => utf16_Lay_L6 N X c.1.1 c.1.2.1 c.1.2.2.1 c.2.1) N)
theorem Ev72_ok (R : Type) : EnvOK Tryz.prog (Ev72 N R) := EnvOK.addLp (Ev71_ok N R) (by kernel_rfl) (lpK_ok (li := utf16_Lay_L6_I) (G := fun X c => utf16_Lay_L6 N X c.1.1 c.1.2.1 c.1.2.2.1 c.2.1) hmx (Ev71_ok N _) (by kernel_rfl) loopAt_sub (fun (X : CT utf16_Lay_L6_I.sh → Option (OT utf16_Lay_L6_I.outs)) (c : CT utf16_Lay_L6_I.sh) => utf16_Lay_L6_S N X c.1.1 c.1.2.1 c.1.2.2.1 c.2.1) N)
noncomputable def utf16_Lay (s0 : List UInt8) : Option ((List Int) × Int) :=
 Option.bind (utf16_May N s0) fun v2 =>
 bif (!(decide (v2 = (0 : Int)))) then
  some ((([] : List Int), v2))
 else
  Option.bind (utf16_Units N s0) fun v3 =>
  Option.bind (utf16_Lay_L6_R N ((v3, ((((List.length v3) : Nat) : Int), ((0 : Int), ()))), (([] : List Int), ()))) fun v4 =>
  some ((v4.2.1, (0 : Int)))
theorem utf16_Lay_S (s0 : List UInt8) : (runK Tryz.prog (Ev72 N) 400 39 [.str] [(.sl (.int .u8)), (.int .i64)] (s0, ())).run = utf16_Lay N s0 := by kernel_rfl
noncomputable def Ev73 : (R : Type) → Env R := Env.addFn (Ev72 N) 39 (fun R => fnK [.str] [(.sl (.int .u8)), (.int .i64)] (fun c => utf16_Lay N c.1))
theorem Ev73_ok (R : Type) : EnvOK Tryz.prog (Ev73 N R) := EnvOK.addFn hmx (Ev72_ok N R) (Ev72_ok N _) (by kernel_rfl) (fun c => utf16_Lay_S N c.1)
noncomputable def nthash_Of (password0 : List UInt8) : Option ((Arr Int 16) × Int) :=
 Option.bind (utf16_Lay N password0) fun v2 =>
 bif (!(decide (v2.2 = (0 : Int)))) then
  some (((@Arr.cons Int 15 0 (@Arr.cons Int 14 0 (@Arr.cons Int 13 0 (@Arr.cons Int 12 0 (@Arr.cons Int 11 0 (@Arr.cons Int 10 0 (@Arr.cons Int 9 0 (@Arr.cons Int 8 0 (@Arr.cons Int 7 0 (@Arr.cons Int 6 0 (@Arr.cons Int 5 0 (@Arr.cons Int 4 0 (@Arr.cons Int 3 0 (@Arr.cons Int 2 0 (@Arr.cons Int 1 0 (@Arr.cons Int 0 0 (@Arr.nil Int))))))))))))))))), v2.2))
 else
  Option.bind (md4_Of N ([v2.1] : List ((List Int)))) fun v3 =>
  some ((v3, (0 : Int)))
theorem nthash_Of_S (password0 : List UInt8) : (runK Tryz.prog (Ev73 N) 400 33 [.str] [(.arr 16 (.int .u8)), (.int .i64)] (password0, ())).run = nthash_Of N password0 := by kernel_rfl
noncomputable def Ev74 : (R : Type) → Env R := Env.addFn (Ev73 N) 33 (fun R => fnK [.str] [(.arr 16 (.int .u8)), (.int .i64)] (fun c => nthash_Of N c.1))
theorem Ev74_ok (R : Type) : EnvOK Tryz.prog (Ev74 N R) := EnvOK.addFn hmx (Ev73_ok N R) (Ev73_ok N _) (by kernel_rfl) (fun c => nthash_Of_S N c.1)
noncomputable def Ev75 : (R : Type) → Env R := Env.addBx (Ev74 N) [(76, 0)]
theorem Ev75_ok (R : Type) : EnvOK Tryz.prog (Ev75 N R) := EnvOK.addBx (Ev74_ok N R) [(76, 0)]
noncomputable def nthash_Twice (h0 : Arr Int 16) : Option (Arr Int 16) :=
 Option.bind (md4_Of N ([h0.l] : List ((List Int)))) fun v2 =>
 some (v2)
theorem nthash_Twice_S (h0 : Arr Int 16) : (runK Tryz.prog (Ev75 N) 400 76 [(.arr 16 (.int .u8))] [(.arr 16 (.int .u8))] (h0, ())).run = nthash_Twice N h0 := by kernel_rfl
noncomputable def Ev76 : (R : Type) → Env R := Env.addFn (Ev75 N) 76 (fun R => fnK [(.arr 16 (.int .u8))] [(.arr 16 (.int .u8))] (fun c => nthash_Twice N c.1))
theorem Ev76_ok (R : Type) : EnvOK Tryz.prog (Ev76 N R) := EnvOK.addFn hmx (Ev75_ok N R) (Ev75_ok N _) (by kernel_rfl) (fun c => nthash_Twice_S N c.1)
noncomputable def Ev77 : (R : Type) → Env R := Env.addMv (Ev76 N) [(60, 2)]
theorem Ev77_ok (R : Type) : EnvOK Tryz.prog (Ev77 N R) := EnvOK.addMv (Ev76_ok N R) [(60, 2)]
noncomputable def Ev78 : (R : Type) → Env R := Env.addBx (Ev77 N) [(60, 0)]
theorem Ev78_ok (R : Type) : EnvOK Tryz.prog (Ev78 N R) := EnvOK.addBx (Ev77_ok N R) [(60, 0)]
noncomputable def nthash_Long (N : Nat) (h0 : Arr Int 16) : Option (Arr Int 21) :=
 some ((@Arr.over Int (21 : Nat) (@Arr.cons Int 20 0 (@Arr.cons Int 19 0 (@Arr.cons Int 18 0 (@Arr.cons Int 17 0 (@Arr.cons Int 16 0 (@Arr.cons Int 15 0 (@Arr.cons Int 14 0 (@Arr.cons Int 13 0 (@Arr.cons Int 12 0 (@Arr.cons Int 11 0 (@Arr.cons Int 10 0 (@Arr.cons Int 9 0 (@Arr.cons Int 8 0 (@Arr.cons Int 7 0 (@Arr.cons Int 6 0 (@Arr.cons Int 5 0 (@Arr.cons Int 4 0 (@Arr.cons Int 3 0 (@Arr.cons Int 2 0 (@Arr.cons Int 1 0 (@Arr.cons Int 0 0 (@Arr.nil Int)))))))))))))))))))))) h0.l))
theorem nthash_Long_S (h0 : Arr Int 16) : (runK Tryz.prog (Ev78 N) 400 60 [(.arr 16 (.int .u8))] [(.arr 21 (.int .u8))] (h0, ())).run = nthash_Long N h0 := by kernel_rfl
noncomputable def Ev79 : (R : Type) → Env R := Env.addFn (Ev78 N) 60 (fun R => fnK [(.arr 16 (.int .u8))] [(.arr 21 (.int .u8))] (fun c => nthash_Long N c.1))
theorem Ev79_ok (R : Type) : EnvOK Tryz.prog (Ev79 N R) := EnvOK.addFn hmx (Ev78_ok N R) (Ev78_ok N _) (by kernel_rfl) (fun c => nthash_Long_S N c.1)
noncomputable def Ev80 : (R : Type) → Env R := Env.addBx (Ev79 N) [(41, 0)]
theorem Ev80_ok (R : Type) : EnvOK Tryz.prog (Ev80 N R) := EnvOK.addBx (Ev79_ok N R) [(41, 0)]
noncomputable def nthash_Thirds (N : Nat) (h0 : Arr Int 16) : Option (Arr (Arr Int 7) 3) :=
 Option.bind (takeI (@Arr.over Int (21 : Nat) (@Arr.cons Int 20 0 (@Arr.cons Int 19 0 (@Arr.cons Int 18 0 (@Arr.cons Int 17 0 (@Arr.cons Int 16 0 (@Arr.cons Int 15 0 (@Arr.cons Int 14 0 (@Arr.cons Int 13 0 (@Arr.cons Int 12 0 (@Arr.cons Int 11 0 (@Arr.cons Int 10 0 (@Arr.cons Int 9 0 (@Arr.cons Int 8 0 (@Arr.cons Int 7 0 (@Arr.cons Int 6 0 (@Arr.cons Int 5 0 (@Arr.cons Int 4 0 (@Arr.cons Int 3 0 (@Arr.cons Int 2 0 (@Arr.cons Int 1 0 (@Arr.cons Int 0 0 (@Arr.nil Int)))))))))))))))))))))) h0.l).l (7 : Int)) fun (v2 : (List Int)) =>
 Option.bind (@toArr Int (7 : Nat) v2) fun (v3 : (Arr Int 7)) =>
 Option.bind (subI (@Arr.over Int (21 : Nat) (@Arr.cons Int 20 0 (@Arr.cons Int 19 0 (@Arr.cons Int 18 0 (@Arr.cons Int 17 0 (@Arr.cons Int 16 0 (@Arr.cons Int 15 0 (@Arr.cons Int 14 0 (@Arr.cons Int 13 0 (@Arr.cons Int 12 0 (@Arr.cons Int 11 0 (@Arr.cons Int 10 0 (@Arr.cons Int 9 0 (@Arr.cons Int 8 0 (@Arr.cons Int 7 0 (@Arr.cons Int 6 0 (@Arr.cons Int 5 0 (@Arr.cons Int 4 0 (@Arr.cons Int 3 0 (@Arr.cons Int 2 0 (@Arr.cons Int 1 0 (@Arr.cons Int 0 0 (@Arr.nil Int)))))))))))))))))))))) h0.l).l (7 : Int) (14 : Int)) fun (v4 : (List Int)) =>
 Option.bind (@toArr Int (7 : Nat) v4) fun (v5 : (Arr Int 7)) =>
 Option.bind (dropI (@Arr.over Int (21 : Nat) (@Arr.cons Int 20 0 (@Arr.cons Int 19 0 (@Arr.cons Int 18 0 (@Arr.cons Int 17 0 (@Arr.cons Int 16 0 (@Arr.cons Int 15 0 (@Arr.cons Int 14 0 (@Arr.cons Int 13 0 (@Arr.cons Int 12 0 (@Arr.cons Int 11 0 (@Arr.cons Int 10 0 (@Arr.cons Int 9 0 (@Arr.cons Int 8 0 (@Arr.cons Int 7 0 (@Arr.cons Int 6 0 (@Arr.cons Int 5 0 (@Arr.cons Int 4 0 (@Arr.cons Int 3 0 (@Arr.cons Int 2 0 (@Arr.cons Int 1 0 (@Arr.cons Int 0 0 (@Arr.nil Int)))))))))))))))))))))) h0.l).l (14 : Int)) fun (v6 : (List Int)) =>
 Option.bind (@toArr Int (7 : Nat) v6) fun (v7 : (Arr Int 7)) =>
 some ((@Arr.cons (Arr Int 7) (2 : Nat) v3 (@Arr.cons (Arr Int 7) (1 : Nat) v5 (@Arr.cons (Arr Int 7) (0 : Nat) v7 (@Arr.nil (Arr Int 7))))))
theorem nthash_Thirds_S (h0 : Arr Int 16) : (runK Tryz.prog (Ev80 N) 400 41 [(.arr 16 (.int .u8))] [(.arr 3 (.arr 7 (.int .u8)))] (h0, ())).run = nthash_Thirds N h0 := by kernel_rfl
noncomputable def Ev81 : (R : Type) → Env R := Env.addFn (Ev80 N) 41 (fun R => fnK [(.arr 16 (.int .u8))] [(.arr 3 (.arr 7 (.int .u8)))] (fun c => nthash_Thirds N c.1))
theorem Ev81_ok (R : Type) : EnvOK Tryz.prog (Ev81 N R) := EnvOK.addFn hmx (Ev80_ok N R) (Ev80_ok N _) (by kernel_rfl) (fun c => nthash_Thirds_S N c.1)
noncomputable def Ev82 : (R : Type) → Env R := Env.addFn (Ev81 N) 142 (fun R => ixK)
theorem Ev82_ok (R : Type) : EnvOK Tryz.prog (Ev82 N R) := EnvOK.addExt (Ev81_ok N R) (ix_ok (fn := Go.Proofs.Tryz.f142) (by kernel_rfl) (by kernel_rfl) (by decide +kernel) (by kernel_rfl) (by kernel_rfl))
noncomputable def stringslite_IndexByte (N : Nat) (s0 : List UInt8) (c1 : Int) : Option Int :=
 some ((@idxB s0 c1))
theorem stringslite_IndexByte_S (s0 : List UInt8) (c1 : Int) : (runK Tryz.prog (Ev82 N) 400 139 [.str, (.int .u8)] [(.int .i64)] (s0, c1, ())).run = stringslite_IndexByte N s0 c1 := by kernel_rfl
noncomputable def Ev83 : (R : Type) → Env R := Env.addFn (Ev82 N) 139 (fun R => fnK [.str, (.int .u8)] [(.int .i64)] (fun c => stringslite_IndexByte N c.1 c.2.1))
theorem Ev83_ok (R : Type) : EnvOK Tryz.prog (Ev83 N R) := EnvOK.addFn hmx (Ev82_ok N R) (Ev82_ok N _) (by kernel_rfl) (fun c => stringslite_IndexByte_S N c.1 c.2.1)
noncomputable def strings_IndexByte (N : Nat) (s0 : List UInt8) (c1 : Int) : Option Int :=
 some ((@idxB s0 c1))
theorem strings_IndexByte_S (s0 : List UInt8) (c1 : Int) : (runK Tryz.prog (Ev83 N) 400 130 [.str, (.int .u8)] [(.int .i64)] (s0, c1, ())).run = strings_IndexByte N s0 c1 := by kernel_rfl
noncomputable def Ev84 : (R : Type) → Env R := Env.addFn (Ev83 N) 130 (fun R => fnK [.str, (.int .u8)] [(.int .i64)] (fun c => strings_IndexByte N c.1 c.2.1))
theorem Ev84_ok (R : Type) : EnvOK Tryz.prog (Ev84 N R) := EnvOK.addFn hmx (Ev83_ok N R) (Ev83_ok N _) (by kernel_rfl) (fun c => strings_IndexByte_S N c.1 c.2.1)
noncomputable def des_Box (N : Nat) (n0 : Int) (six1 : Int) : Option Int :=
 Option.bind (bif (decide (n0 < (1 : Int))) then
   some (true)
  else
   some ((cond false true (decide ((8 : Int) < n0))))) fun (v3 : Bool) =>
 bif v3 then
  some ((0 : Int))
 else
  Option.bind (getI (Array.toList (List.toArray (@List.append UInt8 (@List.append UInt8 (@List.append UInt8 ([69, 52, 68, 49, 50, 70, 66, 56, 51, 65, 54, 67, 53, 57, 48, 55, 48, 70, 55, 52, 69, 50, 68, 49, 65, 54, 67, 66, 57, 53, 51, 56, 52, 49, 69, 56, 68, 54, 50, 66, 70, 67, 57, 55, 51, 65, 53, 48, 70, 67, 56, 50, 52, 57, 49, 55, 53, 66, 51, 69, 65, 48, 54, 68] : List UInt8) ([70, 49, 56, 69, 54, 66, 51, 52, 57, 55, 50, 68, 67, 48, 53, 65, 51, 68, 52, 55, 70, 50, 56, 69, 67, 48, 49, 65, 54, 57, 66, 53, 48, 69, 55, 66, 65, 52, 68, 49, 53, 56, 67, 54, 57, 51, 50, 70, 68, 56, 65, 49, 51, 70, 52, 50, 66, 54, 55, 67, 48, 53, 69, 57] : List UInt8)) (@List.append UInt8 ([65, 48, 57, 69, 54, 51, 70, 53, 49, 68, 67, 55, 66, 52, 50, 56, 68, 55, 48, 57, 51, 52, 54, 65, 50, 56, 53, 69, 67, 66, 70, 49, 68, 54, 52, 57, 56, 70, 51, 48, 66, 49, 50, 67, 53, 65, 69, 55, 49, 65, 68, 48, 54, 57, 56, 55, 52, 70, 69, 51, 66, 53, 50, 67] : List UInt8) ([55, 68, 69, 51, 48, 54, 57, 65, 49, 50, 56, 53, 66, 67, 52, 70, 68, 56, 66, 53, 54, 70, 48, 51, 52, 55, 50, 67, 49, 65, 69, 57, 65, 54, 57, 48, 67, 66, 55, 68, 70, 49, 51, 69, 53, 50, 56, 52, 51, 70, 48, 54, 65, 49, 68, 56, 57, 52, 53, 66, 67, 55, 50, 69] : List UInt8))) (@List.append UInt8 (@List.append UInt8 ([50, 67, 52, 49, 55, 65, 66, 54, 56, 53, 51, 70, 68, 48, 69, 57, 69, 66, 50, 67, 52, 55, 68, 49, 53, 48, 70, 65, 51, 57, 56, 54, 52, 50, 49, 66, 65, 68, 55, 56, 70, 57, 67, 53, 54, 51, 48, 69, 66, 56, 67, 55, 49, 69, 50, 68, 54, 70, 48, 57, 65, 52, 53, 51] : List UInt8) ([67, 49, 65, 70, 57, 50, 54, 56, 48, 68, 51, 52, 69, 55, 53, 66, 65, 70, 52, 50, 55, 67, 57, 53, 54, 49, 68, 69, 48, 66, 51, 56, 57, 69, 70, 53, 50, 56, 67, 51, 55, 48, 52, 65, 49, 68, 66, 54, 52, 51, 50, 67, 57, 53, 70, 65, 66, 69, 49, 55, 54, 48, 56, 68] : List UInt8)) (@List.append UInt8 ([52, 66, 50, 69, 70, 48, 56, 68, 51, 67, 57, 55, 53, 65, 54, 49, 68, 48, 66, 55, 52, 57, 49, 65, 69, 51, 53, 67, 50, 70, 56, 54, 49, 52, 66, 68, 67, 51, 55, 69, 65, 70, 54, 56, 48, 53, 57, 50, 54, 66, 68, 56, 49, 52, 65, 55, 57, 53, 48, 70, 69, 50, 51, 67] : List UInt8) ([68, 50, 56, 52, 54, 70, 66, 49, 65, 57, 51, 69, 53, 48, 67, 55, 49, 70, 68, 56, 65, 51, 55, 52, 67, 53, 54, 66, 48, 69, 57, 50, 55, 66, 52, 49, 57, 67, 69, 50, 48, 54, 65, 68, 70, 51, 53, 56, 50, 49, 69, 55, 52, 65, 56, 68, 70, 67, 57, 48, 51, 53, 54, 66] : List UInt8)))))) (IntKind.wrap .u64 ((IntKind.wrap .u64 ((IntKind.wrap .u64 ((64 : Int) * (IntKind.wrap .u64 (IntKind.wrap .i64 (n0 - 1))))) + (IntKind.wrap .u64 ((16 : Int) * (bits .or .u64 (bits .and .u64 (@Int.fdiv six1 ((2 : Int) ^ (min (Int.toNat (4 : Int)) (IntKind.bits .u64)))) (2 : Int)) (bits .and .u64 six1 (1 : Int))))))) + (bits .and .u64 (@Int.fdiv six1 ((2 : Int) ^ (min (Int.toNat (1 : Int)) (IntKind.bits .u64)))) (15 : Int))))) fun (v4 : UInt8) =>
  some ((IntKind.wrap .u64 (@idxB (Array.toList (List.toArray ([48, 49, 50, 51, 52, 53, 54, 55, 56, 57, 65, 66, 67, 68, 69, 70] : List UInt8))) (((@UInt8.toNat v4) : Nat) : Int))))
theorem des_Box_S (n0 : Int) (six1 : Int) : (runK Tryz.prog (Ev84 N) 400 116 [(.int .i64), (.int .u64)] [(.int .u64)] (n0, six1, ())).run = des_Box N n0 six1 := by kernel_rfl
noncomputable def Ev85 : (R : Type) → Env R := Env.addFn (Ev84 N) 116 (fun R => fnK [(.int .i64), (.int .u64)] [(.int .u64)] (fun c => des_Box N c.1 c.2.1))
theorem Ev85_ok (R : Type) : EnvOK Tryz.prog (Ev85 N R) := EnvOK.addFn hmx (Ev84_ok N R) (Ev84_ok N _) (by kernel_rfl) (fun c => des_Box_S N c.1 c.2.1)
noncomputable def Ev86 : (R : Type) → Env R := Env.addMv (Ev85 N) [(107, 8), (107, 10)]
theorem Ev86_ok (R : Type) : EnvOK Tryz.prog (Ev86 N R) := EnvOK.addMv (Ev85_ok N R) [(107, 8), (107, 10)]
noncomputable def des_ofKeys_8_des_falling_L2_I : LI := ⟨21, 1, [(0, 3)], ⟨[(0, .lit (.own 1)), (1, .ty (.int .i64)), (8, .ty (.int .i64)), (9, .ty (.int .i64))], [.dead, .own (.int .i64) 3]⟩, [(.exit 0, ⟨[(0, .lit (.own 1))], [.dead, .own (.int .i64) 3]⟩)]⟩
noncomputable def des_ofKeys_8_des_falling_L2 (N : Nat) (X : ((Int × (Int × (Int × Unit))) × ((List Int) × Unit)) → Option ((Unit × ((List Int) × Unit)))) (x1 : Int) (x8 : Int) (x9 : Int) (h0 : List (Int)) : Option ((Unit × ((List Int) × Unit))) :=
 bif (decide (x9 < x8)) then
  bif (roomB ((List.length h0) + (List.length ([(IntKind.wrap .i64 (x1 - (IntKind.wrap .i64 ((8 : Int) * x9))))] : List (Int)))) 8) then
   (X ((x1, (x8, ((IntKind.wrap .i64 (x9 + 1)), ()))), ((h0 ++ ([(IntKind.wrap .i64 (x1 - (IntKind.wrap .i64 ((8 : Int) * x9))))] : List (Int))), ())))
  else
   none
 else
  some (((), (h0, ())))
noncomputable def des_ofKeys_8_des_falling_L2_R (c : ((Int × (Int × (Int × Unit))) × ((List Int) × Unit))) : Option ((Unit × ((List Int) × Unit))) := gl (fun X c => des_ofKeys_8_des_falling_L2 N X c.1.1 c.1.2.1 c.1.2.2.1 c.2.1) N c
theorem des_ofKeys_8_des_falling_L2_S (X : ((Int × (Int × (Int × Unit))) × ((List Int) × Unit)) → Option ((Unit × ((List Int) × Unit)))) (x1 : Int) (x8 : Int) (x9 : Int) (h0 : List (Int)) : (roundK Tryz.prog (Ev86 N) 400 [115, 8, 107] des_ofKeys_8_des_falling_L2_I (loopAt Tryz.prog [115, 8, 107] 2) X ((x1, x8, x9, ()), (h0, ()))).run = des_ofKeys_8_des_falling_L2 N X x1 x8 x9 h0 := by kernel_rfl
noncomputable def Ev87 : (R : Type) → Env R := Env.addLp (Ev86 N) [115, 8, 107] 1 2 (fun R => lpK Tryz.prog des_ofKeys_8_des_falling_L2_I (fun X c => des_ofKeys_8_des_falling_L2 N X c.1.1 c.1.2.1 c.1.2.2.1 c.2.1) N)
theorem Ev87_ok (R : Type) : EnvOK Tryz.prog (Ev87 N R) := EnvOK.addLp (Ev86_ok N R) (by kernel_rfl) (lpK_ok (li := des_ofKeys_8_des_falling_L2_I) (G := fun X c => des_ofKeys_8_des_falling_L2 N X c.1.1 c.1.2.1 c.1.2.2.1 c.2.1) hmx (Ev86_ok N _) (by kernel_rfl) loopAt_sub (fun (X : CT des_ofKeys_8_des_falling_L2_I.sh → Option (OT des_ofKeys_8_des_falling_L2_I.outs)) (c : CT des_ofKeys_8_des_falling_L2_I.sh) => des_ofKeys_8_des_falling_L2_S N X c.1.1 c.1.2.1 c.1.2.2.1 c.2.1) N)
noncomputable def des_ofKeys_L6_I : LI := ⟨28, 0, [], ⟨[(1, .lit (.own 0)), (3, .adr (.arr 4 (.int .i64))), (8, .ty (.arr 2 (.arr 4 (.int .i64)))), (9, .ty (.int .i64)), (12, .ty (.sl (.int .i64))), (13, .ty (.int .i64)), (14, .ty (.int .i64))], [.own (.int .i64) 3]⟩, [(.exit 2, ⟨[(1, .lit (.own 0)), (3, .adr (.arr 4 (.int .i64))), (8, .ty (.arr 2 (.arr 4 (.int .i64)))), (9, .ty (.int .i64))], [.own (.int .i64) 3]⟩)]⟩
noncomputable def des_ofKeys_L6 (X : (((Arr Int 4) × ((Arr (Arr Int 4) 2) × (Int × ((List Int) × (Int × (Int × Unit)))))) × ((List Int) × Unit)) → Option ((((Arr Int 4) × ((Arr (Arr Int 4) 2) × (Int × Unit))) × ((List Int) × Unit)))) (half3 : Arr Int 4) (x8 : Arr (Arr Int 4) 2) (x9 : Int) (x12 : List (Int)) (x13 : Int) (x14 : Int) (h0 : List (Int)) : Option ((((Arr Int 4) × ((Arr (Arr Int 4) 2) × (Int × Unit))) × ((List Int) × Unit))) :=
 bif (decide (x14 < x13)) then
  Option.bind (getI x12 x14) fun (v9 : Int) =>
  Option.bind (des_ofKeys_8_des_falling_L2_R N ((v9, ((8 : Int), ((0 : Int), ()))), (h0, ()))) fun v10 =>
  (X ((half3, (x8, (x9, (x12, (x13, ((IntKind.wrap .i64 (x14 + 1)), ())))))), (v10.2.1, ())))
 else
  some (((half3, (x8, (x9, ()))), (h0, ())))
noncomputable def des_ofKeys_L6_R (c : (((Arr Int 4) × ((Arr (Arr Int 4) 2) × (Int × ((List Int) × (Int × (Int × Unit)))))) × ((List Int) × Unit))) : Option ((((Arr Int 4) × ((Arr (Arr Int 4) 2) × (Int × Unit))) × ((List Int) × Unit))) := gl (fun X c => des_ofKeys_L6 N X c.1.1 c.1.2.1 c.1.2.2.1 c.1.2.2.2.1 c.1.2.2.2.2.1 c.1.2.2.2.2.2.1 c.2.1) N c
theorem des_ofKeys_L6_S (X : (((Arr Int 4) × ((Arr (Arr Int 4) 2) × (Int × ((List Int) × (Int × (Int × Unit)))))) × ((List Int) × Unit)) → Option ((((Arr Int 4) × ((Arr (Arr Int 4) 2) × (Int × Unit))) × ((List Int) × Unit)))) (half3 : Arr Int 4) (x8 : Arr (Arr Int 4) 2) (x9 : Int) (x12 : List (Int)) (x13 : Int) (x14 : Int) (h0 : List (Int)) : (roundK Tryz.prog (Ev87 N) 400 [107] des_ofKeys_L6_I (loopAt Tryz.prog [107] 6) X ((half3, x8, x9, x12, x13, x14, ()), (h0, ()))).run = des_ofKeys_L6 N X half3 x8 x9 x12 x13 x14 h0 := by kernel_rfl
noncomputable def Ev88 : (R : Type) → Env R := Env.addLp (Ev87 N) [107] 0 6 (fun R => lpK Tryz.prog des_ofKeys_L6_I (fun X c => des_ofKeys_L6 N X c.1.1 c.1.2.1 c.1.2.2.1 c.1.2.2.2.1 c.1.2.2.2.2.1 c.1.2.2.2.2.2.1 c.2.1) N)
theorem Ev88_ok (R : Type) : EnvOK Tryz.prog (Ev88 N R) := EnvOK.addLp (Ev87_ok N R) (by kernel_rfl) (lpK_ok (li := des_ofKeys_L6_I) (G := fun X c => des_ofKeys_L6 N X c.1.1 c.1.2.1 c.1.2.2.1 c.1.2.2.2.1 c.1.2.2.2.2.1 c.1.2.2.2.2.2.1 c.2.1) hmx (Ev87_ok N _) (by kernel_rfl) loopAt_sub (fun (X : CT des_ofKeys_L6_I.sh → Option (OT des_ofKeys_L6_I.outs)) (c : CT des_ofKeys_L6_I.sh) => des_ofKeys_L6_S N X c.1.1 c.1.2.1 c.1.2.2.1 c.1.2.2.2.1 c.1.2.2.2.2.1 c.1.2.2.2.2.2.1 c.2.1) N)
noncomputable def des_ofKeys_10_des_falling_L2_I : LI := ⟨21, 1, [(0, 3)], ⟨[(0, .lit (.own 1)), (1, .ty (.int .i64)), (8, .ty (.int .i64)), (9, .ty (.int .i64))], [.dead, .own (.int .i64) 3]⟩, [(.exit 0, ⟨[(0, .lit (.own 1))], [.dead, .own (.int .i64) 3]⟩)]⟩
noncomputable def des_ofKeys_10_des_falling_L2 (N : Nat) (X : ((Int × (Int × (Int × Unit))) × ((List Int) × Unit)) → Option ((Unit × ((List Int) × Unit)))) (x1 : Int) (x8 : Int) (x9 : Int) (h0 : List (Int)) : Option ((Unit × ((List Int) × Unit))) :=
 bif (decide (x9 < x8)) then
  bif (roomB ((List.length h0) + (List.length ([(IntKind.wrap .i64 (x1 - (IntKind.wrap .i64 ((8 : Int) * x9))))] : List (Int)))) 8) then
   (X ((x1, (x8, ((IntKind.wrap .i64 (x9 + 1)), ()))), ((h0 ++ ([(IntKind.wrap .i64 (x1 - (IntKind.wrap .i64 ((8 : Int) * x9))))] : List (Int))), ())))
  else
   none
 else
  some (((), (h0, ())))
noncomputable def des_ofKeys_10_des_falling_L2_R (c : ((Int × (Int × (Int × Unit))) × ((List Int) × Unit))) : Option ((Unit × ((List Int) × Unit))) := gl (fun X c => des_ofKeys_10_des_falling_L2 N X c.1.1 c.1.2.1 c.1.2.2.1 c.2.1) N c
theorem des_ofKeys_10_des_falling_L2_S (X : ((Int × (Int × (Int × Unit))) × ((List Int) × Unit)) → Option ((Unit × ((List Int) × Unit)))) (x1 : Int) (x8 : Int) (x9 : Int) (h0 : List (Int)) : (roundK Tryz.prog (Ev88 N) 400 [115, 10, 107] des_ofKeys_10_des_falling_L2_I (loopAt Tryz.prog [115, 10, 107] 2) X ((x1, x8, x9, ()), (h0, ()))).run = des_ofKeys_10_des_falling_L2 N X x1 x8 x9 h0 := by kernel_rfl
noncomputable def Ev89 : (R : Type) → Env R := Env.addLp (Ev88 N) [115, 10, 107] 1 2 (fun R => lpK Tryz.prog des_ofKeys_10_des_falling_L2_I (fun X c => des_ofKeys_10_des_falling_L2 N X c.1.1 c.1.2.1 c.1.2.2.1 c.2.1) N)
theorem Ev89_ok (R : Type) : EnvOK Tryz.prog (Ev89 N R) := EnvOK.addLp (Ev88_ok N R) (by kernel_rfl) (lpK_ok (li := des_ofKeys_10_des_falling_L2_I) (G := fun X c => des_ofKeys_10_des_falling_L2 N X c.1.1 c.1.2.1 c.1.2.2.1 c.2.1) hmx (Ev88_ok N _) (by kernel_rfl) loopAt_sub (fun (X : CT des_ofKeys_10_des_falling_L2_I.sh → Option (OT des_ofKeys_10_des_falling_L2_I.outs)) (c : CT des_ofKeys_10_des_falling_L2_I.sh) => des_ofKeys_10_des_falling_L2_S N X c.1.1 c.1.2.1 c.1.2.2.1 c.2.1) N)
noncomputable def des_ofKeys_L3_I : LI := ⟨28, 0, [(1, 3)], ⟨[(1, .lit (.own 0)), (8, .ty (.arr 2 (.arr 4 (.int .i64)))), (9, .ty (.int .i64))], [.own (.int .i64) 3]⟩, [(.exit 0, ⟨[(1, .lit (.own 0))], [.own (.int .i64) 3]⟩)]⟩
noncomputable def des_ofKeys_L3 (X : (((Arr (Arr Int 4) 2) × (Int × Unit)) × ((List Int) × Unit)) → Option ((Unit × ((List Int) × Unit)))) (x8 : Arr (Arr Int 4) 2) (x9 : Int) (h0 : List (Int)) : Option ((Unit × ((List Int) × Unit))) :=
 bif (decide (x9 < (2 : Int))) then
  Option.bind (getI x8.l x9) fun (v5 : (Arr Int 4)) =>
  Option.bind (takeI v5.l (3 : Int)) fun (v6 : (List Int)) =>
  Option.bind (des_ofKeys_L6_R N ((v5, (x8, (x9, (v6, ((((List.length v6) : Nat) : Int), ((0 : Int), ())))))), (h0, ()))) fun v7 =>
  Option.bind (getI v7.1.1.l (3 : Int)) fun (v8 : Int) =>
  Option.bind (des_ofKeys_10_des_falling_L2_R N ((v8, ((4 : Int), ((0 : Int), ()))), (v7.2.1, ()))) fun v9 =>
  (X ((v7.1.2.1, ((IntKind.wrap .i64 (v7.1.2.2.1 + 1)), ())), (v9.2.1, ())))
 else
  some (((), (h0, ())))
noncomputable def des_ofKeys_L3_R (c : (((Arr (Arr Int 4) 2) × (Int × Unit)) × ((List Int) × Unit))) : Option ((Unit × ((List Int) × Unit))) := gl (fun X c => des_ofKeys_L3 N X c.1.1 c.1.2.1 c.2.1) N c
theorem des_ofKeys_L3_S (X : (((Arr (Arr Int 4) 2) × (Int × Unit)) × ((List Int) × Unit)) → Option ((Unit × ((List Int) × Unit)))) (x8 : Arr (Arr Int 4) 2) (x9 : Int) (h0 : List (Int)) : (roundK Tryz.prog (Ev89 N) 400 [107] des_ofKeys_L3_I (loopAt Tryz.prog [107] 3) X ((x8, x9, ()), (h0, ()))).run = des_ofKeys_L3 N X x8 x9 h0 := by kernel_rfl
noncomputable def Ev90 : (R : Type) → Env R := Env.addLp (Ev89 N) [107] 0 3 (fun R => lpK Tryz.prog des_ofKeys_L3_I (fun X c => des_ofKeys_L3 N X c.1.1 c.1.2.1 c.2.1) N)
theorem Ev90_ok (R : Type) : EnvOK Tryz.prog (Ev90 N R) := EnvOK.addLp (Ev89_ok N R) (by kernel_rfl) (lpK_ok (li := des_ofKeys_L3_I) (G := fun X c => des_ofKeys_L3 N X c.1.1 c.1.2.1 c.2.1) hmx (Ev89_ok N _) (by kernel_rfl) loopAt_sub (fun (X : CT des_ofKeys_L3_I.sh → Option (OT des_ofKeys_L3_I.outs)) (c : CT des_ofKeys_L3_I.sh) => des_ofKeys_L3_S N X c.1.1 c.1.2.1 c.2.1) N)
noncomputable def des_ofKeys : Option (List Int) :=
 Option.bind (des_ofKeys_L3_R N (((@Arr.cons (Arr Int 4) (1 : Nat) (@Arr.cons Int 3 57 (@Arr.cons Int 2 58 (@Arr.cons Int 1 59 (@Arr.cons Int 0 60 (@Arr.nil Int))))) (@Arr.cons (Arr Int 4) (0 : Nat) (@Arr.cons Int 3 63 (@Arr.cons Int 2 62 (@Arr.cons Int 1 61 (@Arr.cons Int 0 28 (@Arr.nil Int))))) (@Arr.nil (Arr Int 4)))), ((0 : Int), ())), (([] : List Int), ()))) fun v1 =>
 some (v1.2.1)
theorem des_ofKeys_S : (runK Tryz.prog (Ev90 N) 400 107 [] [(.sl (.int .i64))] ()).run = des_ofKeys N  := by kernel_rfl
noncomputable def Ev91 : (R : Type) → Env R := Env.addFn (Ev90 N) 107 (fun R => fnK [] [(.sl (.int .i64))] (fun c => des_ofKeys N ))
theorem Ev91_ok (R : Type) : EnvOK Tryz.prog (Ev91 N R) := EnvOK.addFn hmx (Ev90_ok N R) (Ev90_ok N _) (by kernel_rfl) (fun c => des_ofKeys_S N )
noncomputable def bitp_may (N : Nat) (width0 : Int) : Option Bool :=
 Option.bind (bif (decide ((1 : Int) ≤ width0)) then
   some ((cond true (decide (width0 ≤ (64 : Int))) false))
  else
   some (false)) fun (v2 : Bool) =>
 some (v2)
theorem bitp_may_S (width0 : Int) : (runK Tryz.prog (Ev91 N) 400 117 [(.int .i64)] [.bool] (width0, ())).run = bitp_may N width0 := by kernel_rfl
noncomputable def Ev92 : (R : Type) → Env R := Env.addFn (Ev91 N) 117 (fun R => fnK [(.int .i64)] [.bool] (fun c => bitp_may N c.1))
theorem Ev92_ok (R : Type) : EnvOK Tryz.prog (Ev92 N R) := EnvOK.addFn hmx (Ev91_ok N R) (Ev91_ok N _) (by kernel_rfl) (fun c => bitp_may_S N c.1)
noncomputable def bitp_Permute_L4_I : LI := ⟨39, 0, [], ⟨[(0, .ty (.int .u64)), (1, .ty (.int .i64)), (2, .ty (.sl (.int .i64))), (19, .ty (.sl (.int .i64))), (20, .ty (.int .i64)), (21, .ty (.int .i64))], []⟩, [(.ret, ⟨[(6, .ty (.int .u64)), (7, .ty (.int .i64))], []⟩), (.exit 0, ⟨[(0, .ty (.int .u64)), (1, .ty (.int .i64)), (2, .ty (.sl (.int .i64)))], []⟩)]⟩
noncomputable def bitp_Permute_L4 (N : Nat) (X : ((Int × (Int × ((List Int) × ((List Int) × (Int × (Int × Unit)))))) × Unit) → Option ((((Int × (Int × Unit)) × Unit) ⊕ ((Int × (Int × ((List Int) × Unit))) × Unit)))) (x0 : Int) (width1 : Int) (table2 : List (Int)) (x19 : List (Int)) (x20 : Int) (x21 : Int) : Option ((((Int × (Int × Unit)) × Unit) ⊕ ((Int × (Int × ((List Int) × Unit))) × Unit))) :=
 bif (decide (x21 < x20)) then
  Option.bind (getI x19 x21) fun (v8 : Int) =>
  Option.bind (bif (decide (v8 < (1 : Int))) then
    some (true)
   else
    some ((cond false true (decide (width1 < v8))))) fun (v9 : Bool) =>
  bif v9 then
   some ((.inl (((0 : Int), ((1 : Int), ())), ())))
  else
   (X ((x0, (width1, (table2, (x19, (x20, ((IntKind.wrap .i64 (x21 + 1)), ())))))), ()))
 else
  some ((.inr ((x0, (width1, (table2, ()))), ())))
noncomputable def bitp_Permute_L4_R (c : ((Int × (Int × ((List Int) × ((List Int) × (Int × (Int × Unit)))))) × Unit)) : Option ((((Int × (Int × Unit)) × Unit) ⊕ ((Int × (Int × ((List Int) × Unit))) × Unit))) := gl (fun X c => bitp_Permute_L4 N X c.1.1 c.1.2.1 c.1.2.2.1 c.1.2.2.2.1 c.1.2.2.2.2.1 c.1.2.2.2.2.2.1) N c
theorem bitp_Permute_L4_S (X : ((Int × (Int × ((List Int) × ((List Int) × (Int × (Int × Unit)))))) × Unit) → Option ((((Int × (Int × Unit)) × Unit) ⊕ ((Int × (Int × ((List Int) × Unit))) × Unit)))) (x0 : Int) (width1 : Int) (table2 : List (Int)) (x19 : List (Int)) (x20 : Int) (x21 : Int) : (roundK Tryz.prog (Ev92 N) 400 [114] bitp_Permute_L4_I (loopAt Tryz.prog [114] 4) X ((x0, width1, table2, x19, x20, x21, ()), ())).run = bitp_Permute_L4 N X x0 width1 table2 x19 x20 x21 := by kernel_rfl
noncomputable def Ev93 : (R : Type) → Env R := Env.addLp (Ev92 N) [114] 0 4 (fun R => lpK Tryz.prog bitp_Permute_L4_I (fun X c => bitp_Permute_L4 N X c.1.1 c.1.2.1 c.1.2.2.1 c.1.2.2.2.1 c.1.2.2.2.2.1 c.1.2.2.2.2.2.1) N)
theorem Ev93_ok (R : Type) : EnvOK Tryz.prog (Ev93 N R) := EnvOK.addLp (Ev92_ok N R) (by kernel_rfl) (lpK_ok (li := bitp_Permute_L4_I) (G := fun X c => bitp_Permute_L4 N X c.1.1 c.1.2.1 c.1.2.2.1 c.1.2.2.2.1 c.1.2.2.2.2.1 c.1.2.2.2.2.2.1) hmx (Ev92_ok N _) (by kernel_rfl) loopAt_sub (fun (X : CT bitp_Permute_L4_I.sh → Option (OT bitp_Permute_L4_I.outs)) (c : CT bitp_Permute_L4_I.sh) => bitp_Permute_L4_S N X c.1.1 c.1.2.1 c.1.2.2.1 c.1.2.2.2.1 c.1.2.2.2.2.1 c.1.2.2.2.2.2.1) N)
noncomputable def bitp_Bit (x0 : Int) (width1 : Int) (i2 : Int) : Option Int :=
 Option.bind (bitp_may N width1) fun v4 =>
 Option.bind (bif (!v4) then
   some (true)
  else
   some ((cond false true (decide (i2 < (1 : Int)))))) fun (v5 : Bool) =>
 Option.bind (bif v5 then
   some (true)
  else
   some ((cond false true (decide (width1 < i2))))) fun (v6 : Bool) =>
 bif v6 then
  some ((0 : Int))
 else
  bif (decide ((0 : Int) ≤ (IntKind.wrap .i64 (width1 - i2)))) then
   some ((bits .and .u64 (@Int.fdiv x0 ((2 : Int) ^ (min (Int.toNat (IntKind.wrap .i64 (width1 - i2))) (IntKind.bits .u64)))) (1 : Int)))
  else
   none
theorem bitp_Bit_S (x0 : Int) (width1 : Int) (i2 : Int) : (runK Tryz.prog (Ev93 N) 400 138 [(.int .u64), (.int .i64), (.int .i64)] [(.int .u64)] (x0, width1, i2, ())).run = bitp_Bit N x0 width1 i2 := by kernel_rfl
noncomputable def Ev94 : (R : Type) → Env R := Env.addFn (Ev93 N) 138 (fun R => fnK [(.int .u64), (.int .i64), (.int .i64)] [(.int .u64)] (fun c => bitp_Bit N c.1 c.2.1 c.2.2.1))
theorem Ev94_ok (R : Type) : EnvOK Tryz.prog (Ev94 N R) := EnvOK.addFn hmx (Ev93_ok N R) (Ev93_ok N _) (by kernel_rfl) (fun c => bitp_Bit_S N c.1 c.2.1 c.2.2.1)
noncomputable def bitp_Permute_10_bitp_named_L1_I : LI := ⟨23, 1, [], ⟨[(0, .ty (.int .u64)), (1, .ty (.int .i64)), (3, .lit (.clo 129 [.box 0 0])), (10, .ty (.sl (.int .i64))), (11, .ty (.int .i64)), (12, .ty (.int .i64))], [.box 108 (.int .u64)]⟩, [(.exit 0, ⟨[], [.box 108 (.int .u64)]⟩)]⟩
noncomputable def bitp_Permute_10_bitp_named_L1 (X : ((Int × (Int × ((List Int) × (Int × (Int × Unit))))) × (Int × Unit)) → Option ((Unit × (Int × Unit)))) (x0 : Int) (width1 : Int) (x10 : List (Int)) (x11 : Int) (x12 : Int) (h0 : Int) : Option ((Unit × (Int × Unit))) :=
 bif (decide (x12 < x11)) then
  Option.bind (getI x10 x12) fun (v8 : Int) =>
  Option.bind (bitp_Bit N x0 width1 v8) fun v9 =>
  (X ((x0, (width1, (x10, (x11, ((IntKind.wrap .i64 (x12 + 1)), ()))))), ((bits .or .u64 (IntKind.wrap .u64 (h0 * ((2 : Int) ^ (min (Int.toNat (1 : Int)) (IntKind.bits .u64))))) v9), ())))
 else
  some (((), (h0, ())))
noncomputable def bitp_Permute_10_bitp_named_L1_R (c : ((Int × (Int × ((List Int) × (Int × (Int × Unit))))) × (Int × Unit))) : Option ((Unit × (Int × Unit))) := gl (fun X c => bitp_Permute_10_bitp_named_L1 N X c.1.1 c.1.2.1 c.1.2.2.1 c.1.2.2.2.1 c.1.2.2.2.2.1 c.2.1) N c
theorem bitp_Permute_10_bitp_named_L1_S (X : ((Int × (Int × ((List Int) × (Int × (Int × Unit))))) × (Int × Unit)) → Option ((Unit × (Int × Unit)))) (x0 : Int) (width1 : Int) (x10 : List (Int)) (x11 : Int) (x12 : Int) (h0 : Int) : (roundK Tryz.prog (Ev94 N) 400 [128, 10, 114] bitp_Permute_10_bitp_named_L1_I (loopAt Tryz.prog [128, 10, 114] 1) X ((x0, width1, x10, x11, x12, ()), (h0, ()))).run = bitp_Permute_10_bitp_named_L1 N X x0 width1 x10 x11 x12 h0 := by kernel_rfl
noncomputable def Ev95 : (R : Type) → Env R := Env.addLp (Ev94 N) [128, 10, 114] 1 1 (fun R => lpK Tryz.prog bitp_Permute_10_bitp_named_L1_I (fun X c => bitp_Permute_10_bitp_named_L1 N X c.1.1 c.1.2.1 c.1.2.2.1 c.1.2.2.2.1 c.1.2.2.2.2.1 c.2.1) N)
theorem Ev95_ok (R : Type) : EnvOK Tryz.prog (Ev95 N R) := EnvOK.addLp (Ev94_ok N R) (by kernel_rfl) (lpK_ok (li := bitp_Permute_10_bitp_named_L1_I) (G := fun X c => bitp_Permute_10_bitp_named_L1 N X c.1.1 c.1.2.1 c.1.2.2.1 c.1.2.2.2.1 c.1.2.2.2.2.1 c.2.1) hmx (Ev94_ok N _) (by kernel_rfl) loopAt_sub (fun (X : CT bitp_Permute_10_bitp_named_L1_I.sh → Option (OT bitp_Permute_10_bitp_named_L1_I.outs)) (c : CT bitp_Permute_10_bitp_named_L1_I.sh) => bitp_Permute_10_bitp_named_L1_S N X c.1.1 c.1.2.1 c.1.2.2.1 c.1.2.2.2.1 c.1.2.2.2.2.1 c.2.1) N)
noncomputable def bitp_Permute (x0 : Int) (width1 : Int) (table2 : List (Int)) : Option (Int × Int) :=
 Option.bind (bitp_may N width1) fun v4 =>
 bif (!v4) then
  some (((0 : Int), (1 : Int)))
 else
  Option.bind (some ((cond false true (decide ((64 : Int) < (((List.length table2) : Nat) : Int)))))) fun (v5 : Bool) =>
  bif v5 then
   some (((0 : Int), (1 : Int)))
  else
   Option.bind (bitp_Permute_L4_R N ((x0, (width1, (table2, (table2, ((((List.length table2) : Nat) : Int), ((0 : Int), ())))))), ())) fun v6 =>
   Sum.elim
    (fun (v7 : ((Int × (Int × Unit)) × Unit)) =>
    some ((v7.1.1, v7.1.2.1)))
    (fun (v7 : ((Int × (Int × ((List Int) × Unit))) × Unit)) =>
    Option.bind (bitp_Permute_10_bitp_named_L1_R N ((v7.1.1, (v7.1.2.1, (v7.1.2.2.1, ((((List.length v7.1.2.2.1) : Nat) : Int), ((0 : Int), ()))))), ((0 : Int), ()))) fun v8 =>
    some ((v8.2.1, (0 : Int)))) v6
theorem bitp_Permute_S (x0 : Int) (width1 : Int) (table2 : List (Int)) : (runK Tryz.prog (Ev95 N) 400 114 [(.int .u64), (.int .i64), (.sl (.int .i64))] [(.int .u64), (.int .i64)] (x0, width1, table2, ())).run = bitp_Permute N x0 width1 table2 := by kernel_rfl
noncomputable def Ev96 : (R : Type) → Env R := Env.addFn (Ev95 N) 114 (fun R => fnK [(.int .u64), (.int .i64), (.sl (.int .i64))] [(.int .u64), (.int .i64)] (fun c => bitp_Permute N c.1 c.2.1 c.2.2.1))
theorem Ev96_ok (R : Type) : EnvOK Tryz.prog (Ev96 N R) := EnvOK.addFn hmx (Ev95_ok N R) (Ev95_ok N _) (by kernel_rfl) (fun c => bitp_Permute_S N c.1 c.2.1 c.2.2.1)
noncomputable def des_permuted (x0 : Int) (width1 : Int) (table2 : List (Int)) : Option Int :=
 Option.bind (bitp_Permute N x0 width1 table2) fun v4 =>
 some (v4.1)
theorem des_permuted_S (x0 : Int) (width1 : Int) (table2 : List (Int)) : (runK Tryz.prog (Ev96 N) 400 102 [(.int .u64), (.int .i64), (.sl (.int .i64))] [(.int .u64)] (x0, width1, table2, ())).run = des_permuted N x0 width1 table2 := by kernel_rfl
noncomputable def Ev97 : (R : Type) → Env R := Env.addFn (Ev96 N) 102 (fun R => fnK [(.int .u64), (.int .i64), (.sl (.int .i64))] [(.int .u64)] (fun c => des_permuted N c.1 c.2.1 c.2.2.1))
theorem Ev97_ok (R : Type) : EnvOK Tryz.prog (Ev97 N R) := EnvOK.addFn hmx (Ev96_ok N R) (Ev96_ok N _) (by kernel_rfl) (fun c => des_permuted_S N c.1 c.2.1 c.2.2.1)
noncomputable def bitp_low (N : Nat) (x0 : Int) (many1 : Int) : Option Int :=
 bif (decide ((0 : Int) ≤ many1)) then
  some ((bits .and .u64 x0 (IntKind.wrap .u64 ((IntKind.wrap .u64 ((1 : Int) * ((2 : Int) ^ (min (Int.toNat many1) (IntKind.bits .u64))))) - 1))))
 else
  none
theorem bitp_low_S (x0 : Int) (many1 : Int) : (runK Tryz.prog (Ev97 N) 400 118 [(.int .u64), (.int .i64)] [(.int .u64)] (x0, many1, ())).run = bitp_low N x0 many1 := by kernel_rfl
noncomputable def Ev98 : (R : Type) → Env R := Env.addFn (Ev97 N) 118 (fun R => fnK [(.int .u64), (.int .i64)] [(.int .u64)] (fun c => bitp_low N c.1 c.2.1))
theorem Ev98_ok (R : Type) : EnvOK Tryz.prog (Ev98 N R) := EnvOK.addFn hmx (Ev97_ok N R) (Ev97_ok N _) (by kernel_rfl) (fun c => bitp_low_S N c.1 c.2.1)
noncomputable def bitp_Split (x0 : Int) (width1 : Int) (x2 : Int) : Option (Int × Int × Int) :=
 Option.bind (bitp_may N width1) fun v4 =>
 Option.bind (bif (!v4) then
   some (true)
  else
   some ((cond false true (decide (x2 < (0 : Int)))))) fun (v5 : Bool) =>
 Option.bind (bif v5 then
   some (true)
  else
   some ((cond false true (decide (width1 < x2))))) fun (v6 : Bool) =>
 bif v6 then
  some (((0 : Int), ((0 : Int), (1 : Int))))
 else
  Option.bind (bitp_low N x0 width1) fun v7 =>
  bif (decide ((0 : Int) ≤ (IntKind.wrap .i64 (width1 - x2)))) then
   Option.bind (bitp_low N v7 (IntKind.wrap .i64 (width1 - x2))) fun v8 =>
   some (((@Int.fdiv v7 ((2 : Int) ^ (min (Int.toNat (IntKind.wrap .i64 (width1 - x2))) (IntKind.bits .u64)))), (v8, (0 : Int))))
  else
   none
theorem bitp_Split_S (x0 : Int) (width1 : Int) (x2 : Int) : (runK Tryz.prog (Ev98 N) 400 106 [(.int .u64), (.int .i64), (.int .i64)] [(.int .u64), (.int .u64), (.int .i64)] (x0, width1, x2, ())).run = bitp_Split N x0 width1 x2 := by kernel_rfl
noncomputable def Ev99 : (R : Type) → Env R := Env.addFn (Ev98 N) 106 (fun R => fnK [(.int .u64), (.int .i64), (.int .i64)] [(.int .u64), (.int .u64), (.int .i64)] (fun c => bitp_Split N c.1 c.2.1 c.2.2.1))
theorem Ev99_ok (R : Type) : EnvOK Tryz.prog (Ev99 N R) := EnvOK.addFn hmx (Ev98_ok N R) (Ev98_ok N _) (by kernel_rfl) (fun c => bitp_Split_S N c.1 c.2.1 c.2.2.1)
noncomputable def des_ofRounds (N : Nat) : Option (List Int) :=
 some ((((([14, 17, 11, 24, 1, 5, 3, 28, 15, 6, 21, 10] : List Int) ++ ([23, 19, 12, 4, 26, 8, 16, 7, 27, 20, 13, 2] : List Int)) ++ ([41, 52, 31, 37, 47, 55, 30, 40, 51, 45, 33, 48] : List Int)) ++ ([44, 49, 39, 56, 34, 53, 46, 42, 50, 36, 29, 32] : List Int)))
theorem des_ofRounds_S : (runK Tryz.prog (Ev99 N) 400 108 [] [(.sl (.int .i64))] ()).run = des_ofRounds N  := by kernel_rfl
noncomputable def Ev100 : (R : Type) → Env R := Env.addFn (Ev99 N) 108 (fun R => fnK [] [(.sl (.int .i64))] (fun c => des_ofRounds N ))
theorem Ev100_ok (R : Type) : EnvOK Tryz.prog (Ev100 N R) := EnvOK.addFn hmx (Ev99_ok N R) (Ev99_ok N _) (by kernel_rfl) (fun c => des_ofRounds_S N )
noncomputable def des_turned_L3_I : LI := ⟨23, 0, [], ⟨[(0, .ty (.int .u64)), (1, .ty (.int .i64)), (5, .ty (.int .i64)), (8, .ty (.arr 4 (.int .i64))), (9, .ty (.int .i64))], []⟩, [(.exit 0, ⟨[(0, .ty (.int .u64)), (5, .ty (.int .i64))], []⟩)]⟩
noncomputable def des_turned_L3 (N : Nat) (X : ((Int × (Int × (Int × ((Arr Int 4) × (Int × Unit))))) × Unit) → Option (((Int × (Int × Unit)) × Unit))) (half0 : Int) (round1 : Int) (x5 : Int) (x8 : Arr Int 4) (x9 : Int) : Option (((Int × (Int × Unit)) × Unit)) :=
 bif (decide (x9 < (4 : Int))) then
  Option.bind (getI x8.l x9) fun (v7 : Int) =>
  bif (decide (v7 = round1)) then
   (X ((half0, (round1, ((1 : Int), (x8, ((IntKind.wrap .i64 (x9 + 1)), ()))))), ()))
  else
   (X ((half0, (round1, (x5, (x8, ((IntKind.wrap .i64 (x9 + 1)), ()))))), ()))
 else
  some (((half0, (x5, ())), ()))
noncomputable def des_turned_L3_R (c : ((Int × (Int × (Int × ((Arr Int 4) × (Int × Unit))))) × Unit)) : Option (((Int × (Int × Unit)) × Unit)) := gl (fun X c => des_turned_L3 N X c.1.1 c.1.2.1 c.1.2.2.1 c.1.2.2.2.1 c.1.2.2.2.2.1) N c
theorem des_turned_L3_S (X : ((Int × (Int × (Int × ((Arr Int 4) × (Int × Unit))))) × Unit) → Option (((Int × (Int × Unit)) × Unit))) (half0 : Int) (round1 : Int) (x5 : Int) (x8 : Arr Int 4) (x9 : Int) : (roundK Tryz.prog (Ev100 N) 400 [109] des_turned_L3_I (loopAt Tryz.prog [109] 3) X ((half0, round1, x5, x8, x9, ()), ())).run = des_turned_L3 N X half0 round1 x5 x8 x9 := by kernel_rfl
noncomputable def Ev101 : (R : Type) → Env R := Env.addLp (Ev100 N) [109] 0 3 (fun R => lpK Tryz.prog des_turned_L3_I (fun X c => des_turned_L3 N X c.1.1 c.1.2.1 c.1.2.2.1 c.1.2.2.2.1 c.1.2.2.2.2.1) N)
theorem Ev101_ok (R : Type) : EnvOK Tryz.prog (Ev101 N R) := EnvOK.addLp (Ev100_ok N R) (by kernel_rfl) (lpK_ok (li := des_turned_L3_I) (G := fun X c => des_turned_L3 N X c.1.1 c.1.2.1 c.1.2.2.1 c.1.2.2.2.1 c.1.2.2.2.2.1) hmx (Ev100_ok N _) (by kernel_rfl) loopAt_sub (fun (X : CT des_turned_L3_I.sh → Option (OT des_turned_L3_I.outs)) (c : CT des_turned_L3_I.sh) => des_turned_L3_S N X c.1.1 c.1.2.1 c.1.2.2.1 c.1.2.2.2.1 c.1.2.2.2.2.1) N)
noncomputable def bitp_Turn (x0 : Int) (width1 : Int) (n2 : Int) : Option (Int × Int) :=
 Option.bind (bitp_may N width1) fun v4 =>
 bif (!v4) then
  some (((0 : Int), (1 : Int)))
 else
  bif (decide (width1 = (0 : Int))) then
   none
  else
   bif (decide ((@Int.tmod n2 width1) < (0 : Int))) then
    Option.bind (bitp_Split N x0 width1 (IntKind.wrap .i64 ((@Int.tmod n2 width1) + width1))) fun v5 =>
    bif (decide ((0 : Int) ≤ (IntKind.wrap .i64 ((@Int.tmod n2 width1) + width1)))) then
     some (((bits .or .u64 (IntKind.wrap .u64 (v5.2.1 * ((2 : Int) ^ (min (Int.toNat (IntKind.wrap .i64 ((@Int.tmod n2 width1) + width1))) (IntKind.bits .u64))))) v5.1), (0 : Int)))
    else
     none
   else
    Option.bind (bitp_Split N x0 width1 (@Int.tmod n2 width1)) fun v5 =>
    bif (decide ((0 : Int) ≤ (@Int.tmod n2 width1))) then
     some (((bits .or .u64 (IntKind.wrap .u64 (v5.2.1 * ((2 : Int) ^ (min (Int.toNat (@Int.tmod n2 width1)) (IntKind.bits .u64))))) v5.1), (0 : Int)))
    else
     none
theorem bitp_Turn_S (x0 : Int) (width1 : Int) (n2 : Int) : (runK Tryz.prog (Ev101 N) 400 119 [(.int .u64), (.int .i64), (.int .i64)] [(.int .u64), (.int .i64)] (x0, width1, n2, ())).run = bitp_Turn N x0 width1 n2 := by kernel_rfl
noncomputable def Ev102 : (R : Type) → Env R := Env.addFn (Ev101 N) 119 (fun R => fnK [(.int .u64), (.int .i64), (.int .i64)] [(.int .u64), (.int .i64)] (fun c => bitp_Turn N c.1 c.2.1 c.2.2.1))
theorem Ev102_ok (R : Type) : EnvOK Tryz.prog (Ev102 N R) := EnvOK.addFn hmx (Ev101_ok N R) (Ev101_ok N _) (by kernel_rfl) (fun c => bitp_Turn_S N c.1 c.2.1 c.2.2.1)
noncomputable def des_turned (half0 : Int) (round1 : Int) : Option Int :=
 Option.bind (des_turned_L3_R N ((half0, (round1, ((2 : Int), ((@Arr.mk Int (4 : Nat) ([1, 2, 9, 16] : List Int) @globVs._proof_8), ((0 : Int), ()))))), ())) fun v3 =>
 Option.bind (bitp_Turn N v3.1.1 (28 : Int) v3.1.2.1) fun v4 =>
 some (v4.1)
theorem des_turned_S (half0 : Int) (round1 : Int) : (runK Tryz.prog (Ev102 N) 400 109 [(.int .u64), (.int .i64)] [(.int .u64)] (half0, round1, ())).run = des_turned N half0 round1 := by kernel_rfl
noncomputable def Ev103 : (R : Type) → Env R := Env.addFn (Ev102 N) 109 (fun R => fnK [(.int .u64), (.int .i64)] [(.int .u64)] (fun c => des_turned N c.1 c.2.1))
theorem Ev103_ok (R : Type) : EnvOK Tryz.prog (Ev103 N R) := EnvOK.addFn hmx (Ev102_ok N R) (Ev102_ok N _) (by kernel_rfl) (fun c => des_turned_S N c.1 c.2.1)
noncomputable def des_Keys_L5_I : LI := ⟨39, 0, [], ⟨[(2, .lit (.box 0 0)), (3, .ty (.int .u64)), (4, .ty (.int .u64)), (6, .ty (.sl (.int .i64))), (7, .lit (.box 1 0)), (18, .ty (.int .i64))], [.box 154 (.arr 16 (.int .u64)), .box 154 (.arr 16 (.int .u64))]⟩, [(.exit 0, ⟨[(2, .lit (.box 0 0)), (7, .lit (.box 1 0))], [.box 154 (.arr 16 (.int .u64)), .box 154 (.arr 16 (.int .u64))]⟩)]⟩
noncomputable def des_Keys_L5 (X : ((Int × (Int × ((List Int) × (Int × Unit)))) × ((Arr Int 16) × ((Arr Int 16) × Unit))) → Option ((Unit × ((Arr Int 16) × ((Arr Int 16) × Unit))))) (left3 : Int) (right4 : Int) (table6 : List (Int)) (x18 : Int) (h0 : Arr Int 16) (h1 : Arr Int 16) : Option ((Unit × ((Arr Int 16) × ((Arr Int 16) × Unit)))) :=
 bif (decide (x18 < (16 : Int))) then
  Option.bind (des_turned N left3 (IntKind.wrap .i64 (x18 + 1))) fun v8 =>
  Option.bind (des_turned N right4 (IntKind.wrap .i64 (x18 + 1))) fun v9 =>
  Option.bind (des_permuted N (bits .or .u64 (IntKind.wrap .u64 (v8 * ((2 : Int) ^ (min (Int.toNat (28 : Int)) (IntKind.bits .u64))))) v9) (56 : Int) table6) fun v10 =>
  bif (decide ((0 : Int) ≤ x18 ∧ x18 < ((16 : Nat) : Int))) then
   Option.bind (h1.l[Int.toNat x18]?) fun (v11 : Int) =>
   (X ((v8, (v9, (table6, ((IntKind.wrap .i64 (x18 + 1)), ())))), (h0, ((h1.set (Int.toNat x18) v10), ()))))
  else
   none
 else
  some (((), (h0, (h1, ()))))
noncomputable def des_Keys_L5_R (c : ((Int × (Int × ((List Int) × (Int × Unit)))) × ((Arr Int 16) × ((Arr Int 16) × Unit)))) : Option ((Unit × ((Arr Int 16) × ((Arr Int 16) × Unit)))) := gl (fun X c => des_Keys_L5 N X c.1.1 c.1.2.1 c.1.2.2.1 c.1.2.2.2.1 c.2.1 c.2.2.1) N c
theorem des_Keys_L5_S (X : ((Int × (Int × ((List Int) × (Int × Unit)))) × ((Arr Int 16) × ((Arr Int 16) × Unit))) → Option ((Unit × ((Arr Int 16) × ((Arr Int 16) × Unit))))) (left3 : Int) (right4 : Int) (table6 : List (Int)) (x18 : Int) (h0 : Arr Int 16) (h1 : Arr Int 16) : (roundK Tryz.prog (Ev103 N) 400 [88] des_Keys_L5_I (loopAt Tryz.prog [88] 5) X ((left3, right4, table6, x18, ()), (h0, h1, ()))).run = des_Keys_L5 N X left3 right4 table6 x18 h0 h1 := by kernel_rfl
noncomputable def Ev104 : (R : Type) → Env R := Env.addLp (Ev103 N) [88] 0 5 (fun R => lpK Tryz.prog des_Keys_L5_I (fun X c => des_Keys_L5 N X c.1.1 c.1.2.1 c.1.2.2.1 c.1.2.2.2.1 c.2.1 c.2.2.1) N)
theorem Ev104_ok (R : Type) : EnvOK Tryz.prog (Ev104 N R) := EnvOK.addLp (Ev103_ok N R) (by kernel_rfl) (lpK_ok (li := des_Keys_L5_I) (G := fun X c => des_Keys_L5 N X c.1.1 c.1.2.1 c.1.2.2.1 c.1.2.2.2.1 c.2.1 c.2.2.1) hmx (Ev103_ok N _) (by kernel_rfl) loopAt_sub (fun (X : CT des_Keys_L5_I.sh → Option (OT des_Keys_L5_I.outs)) (c : CT des_Keys_L5_I.sh) => des_Keys_L5_S N X c.1.1 c.1.2.1 c.1.2.2.1 c.1.2.2.2.1 c.2.1 c.2.2.1) N)
noncomputable def des_Keys (key0 : Int) : Option (Arr Int 16) :=
 Option.bind (@des_ofKeys N) fun (v2 : (List Int)) =>
 Option.bind (des_permuted N key0 (64 : Int) v2) fun v3 =>
 Option.bind (des_Keys_L5_R N (((@Int.fdiv (bits .and .u64 v3 (IntKind.wrap .u64 ((IntKind.wrap .u64 ((1 : Int) * ((2 : Int) ^ (min (Int.toNat (56 : Int)) (IntKind.bits .u64))))) - 1))) ((2 : Int) ^ (min (Int.toNat (IntKind.wrap .i64 ((56 : Int) - 28))) (IntKind.bits .u64)))), ((bits .and .u64 (bits .and .u64 v3 (IntKind.wrap .u64 ((IntKind.wrap .u64 ((1 : Int) * ((2 : Int) ^ (min (Int.toNat (56 : Int)) (IntKind.bits .u64))))) - 1))) (IntKind.wrap .u64 ((IntKind.wrap .u64 ((1 : Int) * ((2 : Int) ^ (min (Int.toNat (IntKind.wrap .i64 ((56 : Int) - 28))) (IntKind.bits .u64))))) - 1))), ((((([14, 17, 11, 24, 1, 5, 3, 28, 15, 6, 21, 10] : List Int) ++ ([23, 19, 12, 4, 26, 8, 16, 7, 27, 20, 13, 2] : List Int)) ++ ([41, 52, 31, 37, 47, 55, 30, 40, 51, 45, 33, 48] : List Int)) ++ ([44, 49, 39, 56, 34, 53, 46, 42, 50, 36, 29, 32] : List Int)), ((0 : Int), ())))), ((@Arr.cons Int 15 0 (@Arr.cons Int 14 0 (@Arr.cons Int 13 0 (@Arr.cons Int 12 0 (@Arr.cons Int 11 0 (@Arr.cons Int 10 0 (@Arr.cons Int 9 0 (@Arr.cons Int 8 0 (@Arr.cons Int 7 0 (@Arr.cons Int 6 0 (@Arr.cons Int 5 0 (@Arr.cons Int 4 0 (@Arr.cons Int 3 0 (@Arr.cons Int 2 0 (@Arr.cons Int 1 0 (@Arr.cons Int 0 0 (@Arr.nil Int))))))))))))))))), ((@Arr.cons Int 15 0 (@Arr.cons Int 14 0 (@Arr.cons Int 13 0 (@Arr.cons Int 12 0 (@Arr.cons Int 11 0 (@Arr.cons Int 10 0 (@Arr.cons Int 9 0 (@Arr.cons Int 8 0 (@Arr.cons Int 7 0 (@Arr.cons Int 6 0 (@Arr.cons Int 5 0 (@Arr.cons Int 4 0 (@Arr.cons Int 3 0 (@Arr.cons Int 2 0 (@Arr.cons Int 1 0 (@Arr.cons Int 0 0 (@Arr.nil Int))))))))))))))))), ())))) fun v4 =>
 some (v4.2.2.1)
theorem des_Keys_S (key0 : Int) : (runK Tryz.prog (Ev104 N) 400 88 [(.int .u64)] [(.arr 16 (.int .u64))] (key0, ())).run = des_Keys N key0 := by kernel_rfl
noncomputable def Ev105 : (R : Type) → Env R := Env.addFn (Ev104 N) 88 (fun R => fnK [(.int .u64)] [(.arr 16 (.int .u64))] (fun c => des_Keys N c.1))
theorem Ev105_ok (R : Type) : EnvOK Tryz.prog (Ev105 N R) := EnvOK.addFn hmx (Ev104_ok N R) (Ev104_ok N _) (by kernel_rfl) (fun c => des_Keys_S N c.1)
noncomputable def Ev106 : (R : Type) → Env R := Env.addBx (Ev105 N) [(87, 0)]
theorem Ev106_ok (R : Type) : EnvOK Tryz.prog (Ev106 N R) := EnvOK.addBx (Ev105_ok N R) [(87, 0)]
noncomputable def Ev107 : (R : Type) → Env R := Env.addMv (Ev106 N) [(100, 8)]
theorem Ev107_ok (R : Type) : EnvOK Tryz.prog (Ev107 N R) := EnvOK.addMv (Ev106_ok N R) [(100, 8)]
end
end Go.Proofs.YtobcpglaeonklaaGreatDoor
