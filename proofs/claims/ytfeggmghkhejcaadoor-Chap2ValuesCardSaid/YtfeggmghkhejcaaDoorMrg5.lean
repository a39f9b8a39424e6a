/-
  Parts of my own, one behind the other: GChA.
-/
import Derived.Test.YtfeggmghkhejcaaDoorMrg4
/-
  Functions of the program as plain functions on typed data, and that they are so. Printed by a program of mine.
-/
namespace Go.Proofs.YtfeggmghkhejcaaDoor
open Go.RowKit
set_option linter.unusedVariables false
set_option maxRecDepth 100000
theorem hmx : Go.Proofs.Tryd.prog.follows .mixedOrders = true := by kernel_rfl
noncomputable def Ev0 (N : Nat) : (R : Type) → Env R := Env.addInl env0 [13, 86, 85, 62, 63, 54, 78]
theorem Ev0_ok (N : Nat) (R : Type) : EnvOK Go.Proofs.Tryd.prog (Ev0 N R) := EnvOK.addInl (env0_ok R) (by kernel_rfl)
noncomputable def Ev1 (N : Nat) : (R : Type) → Env R := Env.addMv (Ev0 N) [(62, 3)]
theorem Ev1_ok (N : Nat) (R : Type) : EnvOK Go.Proofs.Tryd.prog (Ev1 N R) := EnvOK.addMv (Ev0_ok N R) [(62, 3)]
noncomputable def Ev2 (N : Nat) : (R : Type) → Env R := Env.addMv (Ev1 N) [(78, 4)]
theorem Ev2_ok (N : Nat) (R : Type) : EnvOK Go.Proofs.Tryd.prog (Ev2 N R) := EnvOK.addMv (Ev1_ok N R) [(78, 4)]
noncomputable def roots_may (N : Nat) (n0 : Int) (degree1 : Int) (bits2 : Int) : Option (Bool) :=
 bif (decide ((0 : Int) ≤ n0)) then
  bif (@cond Bool @Bool.true (decide (n0 ≤ (1000 : Int))) @Bool.false) then
   bif (decide (degree1 = (2 : Int))) then
    bif (@cond Bool @Bool.true (decide ((0 : Int) ≤ bits2)) @Bool.false) then
     some ((@cond Bool @Bool.true (decide (bits2 ≤ (32 : Int))) @Bool.false))
    else
     some (@Bool.false)
   else
    bif (@cond Bool @Bool.true (@cond Bool @Bool.false @Bool.true (decide (degree1 = (3 : Int)))) @Bool.false) then
     bif (@cond Bool @Bool.true (decide ((0 : Int) ≤ bits2)) @Bool.false) then
      some ((@cond Bool @Bool.true (decide (bits2 ≤ (32 : Int))) @Bool.false))
     else
      some (@Bool.false)
    else
     some (@Bool.false)
  else
   some (@Bool.false)
 else
  some (@Bool.false)
theorem roots_may_S (N : Nat) (n0 : Int) (degree1 : Int) (bits2 : Int) : (runK Go.Proofs.Tryd.prog (Ev2 N) 400 75 [(.int .i64), (.int .i64), (.int .i64)] [.bool] (n0, degree1, bits2, ())).run = roots_may N n0 degree1 bits2 := by kernel_rfl
noncomputable def Ev3 (N : Nat) : (R : Type) → Env R := Env.addFn (Ev2 N) 75 (fun R => fnK [(.int .i64), (.int .i64), (.int .i64)] [.bool] (fun c => roots_may N c.1 c.2.1 c.2.2.1))
theorem Ev3_ok (N : Nat) (R : Type) : EnvOK Go.Proofs.Tryd.prog (Ev3 N R) := EnvOK.addFn hmx (Ev2_ok N R) (Ev2_ok N _) (by kernel_rfl) (fun c => roots_may_S N c.1 c.2.1 c.2.2.1)
noncomputable def math_bits_Mul64 (N : Nat) (x0 : Int) (y1 : Int) : Option ((Int) × Int) :=
 some (((Go.IntKind.wrap .u64 ((Go.IntKind.wrap .u64 ((Go.IntKind.wrap .u64 ((@Int.fdiv x0 (@HPow.hPow Int Nat Int (@instHPow Int Nat (@instPowNat Int @Int.instNatPow)) (2 : Int) (@Min.min Nat @instMinNat (Int.toNat (32 : Int)) (@Go.IntKind.bits @Go.IntKind.u64)))) * (@Int.fdiv y1 (@HPow.hPow Int Nat Int (@instHPow Int Nat (@instPowNat Int @Int.instNatPow)) (2 : Int) (@Min.min Nat @instMinNat (Int.toNat (32 : Int)) (@Go.IntKind.bits @Go.IntKind.u64)))))) + (@Int.fdiv (Go.IntKind.wrap .u64 ((Go.IntKind.wrap .u64 ((@Int.fdiv x0 (@HPow.hPow Int Nat Int (@instHPow Int Nat (@instPowNat Int @Int.instNatPow)) (2 : Int) (@Min.min Nat @instMinNat (Int.toNat (32 : Int)) (@Go.IntKind.bits @Go.IntKind.u64)))) * (@Go.bits @Go.BinOp.and @Go.IntKind.u64 y1 (4294967295 : Int)))) + (@Int.fdiv (Go.IntKind.wrap .u64 ((@Go.bits @Go.BinOp.and @Go.IntKind.u64 x0 (4294967295 : Int)) * (@Go.bits @Go.BinOp.and @Go.IntKind.u64 y1 (4294967295 : Int)))) (@HPow.hPow Int Nat Int (@instHPow Int Nat (@instPowNat Int @Int.instNatPow)) (2 : Int) (@Min.min Nat @instMinNat (Int.toNat (32 : Int)) (@Go.IntKind.bits @Go.IntKind.u64)))))) (@HPow.hPow Int Nat Int (@instHPow Int Nat (@instPowNat Int @Int.instNatPow)) (2 : Int) (@Min.min Nat @instMinNat (Int.toNat (32 : Int)) (@Go.IntKind.bits @Go.IntKind.u64)))))) + (@Int.fdiv (Go.IntKind.wrap .u64 ((@Go.bits @Go.BinOp.and @Go.IntKind.u64 (Go.IntKind.wrap .u64 ((Go.IntKind.wrap .u64 ((@Int.fdiv x0 (@HPow.hPow Int Nat Int (@instHPow Int Nat (@instPowNat Int @Int.instNatPow)) (2 : Int) (@Min.min Nat @instMinNat (Int.toNat (32 : Int)) (@Go.IntKind.bits @Go.IntKind.u64)))) * (@Go.bits @Go.BinOp.and @Go.IntKind.u64 y1 (4294967295 : Int)))) + (@Int.fdiv (Go.IntKind.wrap .u64 ((@Go.bits @Go.BinOp.and @Go.IntKind.u64 x0 (4294967295 : Int)) * (@Go.bits @Go.BinOp.and @Go.IntKind.u64 y1 (4294967295 : Int)))) (@HPow.hPow Int Nat Int (@instHPow Int Nat (@instPowNat Int @Int.instNatPow)) (2 : Int) (@Min.min Nat @instMinNat (Int.toNat (32 : Int)) (@Go.IntKind.bits @Go.IntKind.u64)))))) (4294967295 : Int)) + (Go.IntKind.wrap .u64 ((@Go.bits @Go.BinOp.and @Go.IntKind.u64 x0 (4294967295 : Int)) * (@Int.fdiv y1 (@HPow.hPow Int Nat Int (@instHPow Int Nat (@instPowNat Int @Int.instNatPow)) (2 : Int) (@Min.min Nat @instMinNat (Int.toNat (32 : Int)) (@Go.IntKind.bits @Go.IntKind.u64)))))))) (@HPow.hPow Int Nat Int (@instHPow Int Nat (@instPowNat Int @Int.instNatPow)) (2 : Int) (@Min.min Nat @instMinNat (Int.toNat (32 : Int)) (@Go.IntKind.bits @Go.IntKind.u64)))))), (Go.IntKind.wrap .u64 (x0 * y1))))
theorem math_bits_Mul64_S (N : Nat) (x0 : Int) (y1 : Int) : (runK Go.Proofs.Tryd.prog (Ev3 N) 400 88 [(.int .u64), (.int .u64)] [(.int .u64), (.int .u64)] (x0, y1, ())).run = math_bits_Mul64 N x0 y1 := by kernel_rfl
noncomputable def Ev4 (N : Nat) : (R : Type) → Env R := Env.addFn (Ev3 N) 88 (fun R => fnK [(.int .u64), (.int .u64)] [(.int .u64), (.int .u64)] (fun c => math_bits_Mul64 N c.1 c.2.1))
theorem Ev4_ok (N : Nat) (R : Type) : EnvOK Go.Proofs.Tryd.prog (Ev4 N R) := EnvOK.addFn hmx (Ev3_ok N R) (Ev3_ok N _) (by kernel_rfl) (fun c => math_bits_Mul64_S N c.1 c.2.1)
noncomputable def roots_power (N : Nat) (x0 : Int) (degree1 : Int) : Option ((Int) × Int) :=
 bif (decide (degree1 = (2 : Int))) then
  some (((Go.IntKind.wrap .u64 ((Go.IntKind.wrap .u64 ((Go.IntKind.wrap .u64 ((@Int.fdiv x0 (@HPow.hPow Int Nat Int (@instHPow Int Nat (@instPowNat Int @Int.instNatPow)) (2 : Int) (@Min.min Nat @instMinNat (Int.toNat (32 : Int)) (@Go.IntKind.bits @Go.IntKind.u64)))) * (@Int.fdiv x0 (@HPow.hPow Int Nat Int (@instHPow Int Nat (@instPowNat Int @Int.instNatPow)) (2 : Int) (@Min.min Nat @instMinNat (Int.toNat (32 : Int)) (@Go.IntKind.bits @Go.IntKind.u64)))))) + (@Int.fdiv (Go.IntKind.wrap .u64 ((Go.IntKind.wrap .u64 ((@Int.fdiv x0 (@HPow.hPow Int Nat Int (@instHPow Int Nat (@instPowNat Int @Int.instNatPow)) (2 : Int) (@Min.min Nat @instMinNat (Int.toNat (32 : Int)) (@Go.IntKind.bits @Go.IntKind.u64)))) * (@Go.bits @Go.BinOp.and @Go.IntKind.u64 x0 (4294967295 : Int)))) + (@Int.fdiv (Go.IntKind.wrap .u64 ((@Go.bits @Go.BinOp.and @Go.IntKind.u64 x0 (4294967295 : Int)) * (@Go.bits @Go.BinOp.and @Go.IntKind.u64 x0 (4294967295 : Int)))) (@HPow.hPow Int Nat Int (@instHPow Int Nat (@instPowNat Int @Int.instNatPow)) (2 : Int) (@Min.min Nat @instMinNat (Int.toNat (32 : Int)) (@Go.IntKind.bits @Go.IntKind.u64)))))) (@HPow.hPow Int Nat Int (@instHPow Int Nat (@instPowNat Int @Int.instNatPow)) (2 : Int) (@Min.min Nat @instMinNat (Int.toNat (32 : Int)) (@Go.IntKind.bits @Go.IntKind.u64)))))) + (@Int.fdiv (Go.IntKind.wrap .u64 ((@Go.bits @Go.BinOp.and @Go.IntKind.u64 (Go.IntKind.wrap .u64 ((Go.IntKind.wrap .u64 ((@Int.fdiv x0 (@HPow.hPow Int Nat Int (@instHPow Int Nat (@instPowNat Int @Int.instNatPow)) (2 : Int) (@Min.min Nat @instMinNat (Int.toNat (32 : Int)) (@Go.IntKind.bits @Go.IntKind.u64)))) * (@Go.bits @Go.BinOp.and @Go.IntKind.u64 x0 (4294967295 : Int)))) + (@Int.fdiv (Go.IntKind.wrap .u64 ((@Go.bits @Go.BinOp.and @Go.IntKind.u64 x0 (4294967295 : Int)) * (@Go.bits @Go.BinOp.and @Go.IntKind.u64 x0 (4294967295 : Int)))) (@HPow.hPow Int Nat Int (@instHPow Int Nat (@instPowNat Int @Int.instNatPow)) (2 : Int) (@Min.min Nat @instMinNat (Int.toNat (32 : Int)) (@Go.IntKind.bits @Go.IntKind.u64)))))) (4294967295 : Int)) + (Go.IntKind.wrap .u64 ((@Go.bits @Go.BinOp.and @Go.IntKind.u64 x0 (4294967295 : Int)) * (@Int.fdiv x0 (@HPow.hPow Int Nat Int (@instHPow Int Nat (@instPowNat Int @Int.instNatPow)) (2 : Int) (@Min.min Nat @instMinNat (Int.toNat (32 : Int)) (@Go.IntKind.bits @Go.IntKind.u64)))))))) (@HPow.hPow Int Nat Int (@instHPow Int Nat (@instPowNat Int @Int.instNatPow)) (2 : Int) (@Min.min Nat @instMinNat (Int.toNat (32 : Int)) (@Go.IntKind.bits @Go.IntKind.u64)))))), (Go.IntKind.wrap .u64 (x0 * x0))))
 else
  some (((Go.IntKind.wrap .u64 ((Go.IntKind.wrap .u64 ((Go.IntKind.wrap .u64 ((Go.IntKind.wrap .u64 ((Go.IntKind.wrap .u64 ((@Int.fdiv x0 (@HPow.hPow Int Nat Int (@instHPow Int Nat (@instPowNat Int @Int.instNatPow)) (2 : Int) (@Min.min Nat @instMinNat (Int.toNat (32 : Int)) (@Go.IntKind.bits @Go.IntKind.u64)))) * (@Int.fdiv x0 (@HPow.hPow Int Nat Int (@instHPow Int Nat (@instPowNat Int @Int.instNatPow)) (2 : Int) (@Min.min Nat @instMinNat (Int.toNat (32 : Int)) (@Go.IntKind.bits @Go.IntKind.u64)))))) + (@Int.fdiv (Go.IntKind.wrap .u64 ((Go.IntKind.wrap .u64 ((@Int.fdiv x0 (@HPow.hPow Int Nat Int (@instHPow Int Nat (@instPowNat Int @Int.instNatPow)) (2 : Int) (@Min.min Nat @instMinNat (Int.toNat (32 : Int)) (@Go.IntKind.bits @Go.IntKind.u64)))) * (@Go.bits @Go.BinOp.and @Go.IntKind.u64 x0 (4294967295 : Int)))) + (@Int.fdiv (Go.IntKind.wrap .u64 ((@Go.bits @Go.BinOp.and @Go.IntKind.u64 x0 (4294967295 : Int)) * (@Go.bits @Go.BinOp.and @Go.IntKind.u64 x0 (4294967295 : Int)))) (@HPow.hPow Int Nat Int (@instHPow Int Nat (@instPowNat Int @Int.instNatPow)) (2 : Int) (@Min.min Nat @instMinNat (Int.toNat (32 : Int)) (@Go.IntKind.bits @Go.IntKind.u64)))))) (@HPow.hPow Int Nat Int (@instHPow Int Nat (@instPowNat Int @Int.instNatPow)) (2 : Int) (@Min.min Nat @instMinNat (Int.toNat (32 : Int)) (@Go.IntKind.bits @Go.IntKind.u64)))))) + (@Int.fdiv (Go.IntKind.wrap .u64 ((@Go.bits @Go.BinOp.and @Go.IntKind.u64 (Go.IntKind.wrap .u64 ((Go.IntKind.wrap .u64 ((@Int.fdiv x0 (@HPow.hPow Int Nat Int (@instHPow Int Nat (@instPowNat Int @Int.instNatPow)) (2 : Int) (@Min.min Nat @instMinNat (Int.toNat (32 : Int)) (@Go.IntKind.bits @Go.IntKind.u64)))) * (@Go.bits @Go.BinOp.and @Go.IntKind.u64 x0 (4294967295 : Int)))) + (@Int.fdiv (Go.IntKind.wrap .u64 ((@Go.bits @Go.BinOp.and @Go.IntKind.u64 x0 (4294967295 : Int)) * (@Go.bits @Go.BinOp.and @Go.IntKind.u64 x0 (4294967295 : Int)))) (@HPow.hPow Int Nat Int (@instHPow Int Nat (@instPowNat Int @Int.instNatPow)) (2 : Int) (@Min.min Nat @instMinNat (Int.toNat (32 : Int)) (@Go.IntKind.bits @Go.IntKind.u64)))))) (4294967295 : Int)) + (Go.IntKind.wrap .u64 ((@Go.bits @Go.BinOp.and @Go.IntKind.u64 x0 (4294967295 : Int)) * (@Int.fdiv x0 (@HPow.hPow Int Nat Int (@instHPow Int Nat (@instPowNat Int @Int.instNatPow)) (2 : Int) (@Min.min Nat @instMinNat (Int.toNat (32 : Int)) (@Go.IntKind.bits @Go.IntKind.u64)))))))) (@HPow.hPow Int Nat Int (@instHPow Int Nat (@instPowNat Int @Int.instNatPow)) (2 : Int) (@Min.min Nat @instMinNat (Int.toNat (32 : Int)) (@Go.IntKind.bits @Go.IntKind.u64)))))) * x0)) + (Go.IntKind.wrap .u64 ((Go.IntKind.wrap .u64 ((Go.IntKind.wrap .u64 ((@Int.fdiv (Go.IntKind.wrap .u64 (x0 * x0)) (@HPow.hPow Int Nat Int (@instHPow Int Nat (@instPowNat Int @Int.instNatPow)) (2 : Int) (@Min.min Nat @instMinNat (Int.toNat (32 : Int)) (@Go.IntKind.bits @Go.IntKind.u64)))) * (@Int.fdiv x0 (@HPow.hPow Int Nat Int (@instHPow Int Nat (@instPowNat Int @Int.instNatPow)) (2 : Int) (@Min.min Nat @instMinNat (Int.toNat (32 : Int)) (@Go.IntKind.bits @Go.IntKind.u64)))))) + (@Int.fdiv (Go.IntKind.wrap .u64 ((Go.IntKind.wrap .u64 ((@Int.fdiv (Go.IntKind.wrap .u64 (x0 * x0)) (@HPow.hPow Int Nat Int (@instHPow Int Nat (@instPowNat Int @Int.instNatPow)) (2 : Int) (@Min.min Nat @instMinNat (Int.toNat (32 : Int)) (@Go.IntKind.bits @Go.IntKind.u64)))) * (@Go.bits @Go.BinOp.and @Go.IntKind.u64 x0 (4294967295 : Int)))) + (@Int.fdiv (Go.IntKind.wrap .u64 ((@Go.bits @Go.BinOp.and @Go.IntKind.u64 (Go.IntKind.wrap .u64 (x0 * x0)) (4294967295 : Int)) * (@Go.bits @Go.BinOp.and @Go.IntKind.u64 x0 (4294967295 : Int)))) (@HPow.hPow Int Nat Int (@instHPow Int Nat (@instPowNat Int @Int.instNatPow)) (2 : Int) (@Min.min Nat @instMinNat (Int.toNat (32 : Int)) (@Go.IntKind.bits @Go.IntKind.u64)))))) (@HPow.hPow Int Nat Int (@instHPow Int Nat (@instPowNat Int @Int.instNatPow)) (2 : Int) (@Min.min Nat @instMinNat (Int.toNat (32 : Int)) (@Go.IntKind.bits @Go.IntKind.u64)))))) + (@Int.fdiv (Go.IntKind.wrap .u64 ((@Go.bits @Go.BinOp.and @Go.IntKind.u64 (Go.IntKind.wrap .u64 ((Go.IntKind.wrap .u64 ((@Int.fdiv (Go.IntKind.wrap .u64 (x0 * x0)) (@HPow.hPow Int Nat Int (@instHPow Int Nat (@instPowNat Int @Int.instNatPow)) (2 : Int) (@Min.min Nat @instMinNat (Int.toNat (32 : Int)) (@Go.IntKind.bits @Go.IntKind.u64)))) * (@Go.bits @Go.BinOp.and @Go.IntKind.u64 x0 (4294967295 : Int)))) + (@Int.fdiv (Go.IntKind.wrap .u64 ((@Go.bits @Go.BinOp.and @Go.IntKind.u64 (Go.IntKind.wrap .u64 (x0 * x0)) (4294967295 : Int)) * (@Go.bits @Go.BinOp.and @Go.IntKind.u64 x0 (4294967295 : Int)))) (@HPow.hPow Int Nat Int (@instHPow Int Nat (@instPowNat Int @Int.instNatPow)) (2 : Int) (@Min.min Nat @instMinNat (Int.toNat (32 : Int)) (@Go.IntKind.bits @Go.IntKind.u64)))))) (4294967295 : Int)) + (Go.IntKind.wrap .u64 ((@Go.bits @Go.BinOp.and @Go.IntKind.u64 (Go.IntKind.wrap .u64 (x0 * x0)) (4294967295 : Int)) * (@Int.fdiv x0 (@HPow.hPow Int Nat Int (@instHPow Int Nat (@instPowNat Int @Int.instNatPow)) (2 : Int) (@Min.min Nat @instMinNat (Int.toNat (32 : Int)) (@Go.IntKind.bits @Go.IntKind.u64)))))))) (@HPow.hPow Int Nat Int (@instHPow Int Nat (@instPowNat Int @Int.instNatPow)) (2 : Int) (@Min.min Nat @instMinNat (Int.toNat (32 : Int)) (@Go.IntKind.bits @Go.IntKind.u64)))))))), (Go.IntKind.wrap .u64 ((Go.IntKind.wrap .u64 (x0 * x0)) * x0))))
theorem roots_power_S (N : Nat) (x0 : Int) (degree1 : Int) : (runK Go.Proofs.Tryd.prog (Ev4 N) 400 83 [(.int .u64), (.int .i64)] [(.int .u64), (.int .u64)] (x0, degree1, ())).run = roots_power N x0 degree1 := by kernel_rfl
noncomputable def Ev5 (N : Nat) : (R : Type) → Env R := Env.addFn (Ev4 N) 83 (fun R => fnK [(.int .u64), (.int .i64)] [(.int .u64), (.int .u64)] (fun c => roots_power N c.1 c.2.1))
theorem Ev5_ok (N : Nat) (R : Type) : EnvOK Go.Proofs.Tryd.prog (Ev5 N R) := EnvOK.addFn hmx (Ev4_ok N R) (Ev4_ok N _) (by kernel_rfl) (fun c => roots_power_S N c.1 c.2.1)
noncomputable def roots_shifted (N : Nat) (n0 : Int) (shift1 : Int) : Option ((Int) × Int) :=
 bif (decide ((64 : Int) ≤ shift1)) then
  bif (decide ((0 : Int) ≤ (Go.IntKind.wrap .i64 (shift1 - (64 : Int))))) then
   some (((Go.IntKind.wrap .u64 (n0 * (@HPow.hPow Int Nat Int (@instHPow Int Nat (@instPowNat Int @Int.instNatPow)) (2 : Int) (@Min.min Nat @instMinNat (Int.toNat (Go.IntKind.wrap .i64 (shift1 - (64 : Int)))) (@Go.IntKind.bits @Go.IntKind.u64))))), (0 : Int)))
  else
   none
 else
  bif (decide ((0 : Int) ≤ (Go.IntKind.wrap .i64 ((64 : Int) - shift1)))) then
   bif (decide ((0 : Int) ≤ shift1)) then
    some (((@Int.fdiv n0 (@HPow.hPow Int Nat Int (@instHPow Int Nat (@instPowNat Int @Int.instNatPow)) (2 : Int) (@Min.min Nat @instMinNat (Int.toNat (Go.IntKind.wrap .i64 ((64 : Int) - shift1))) (@Go.IntKind.bits @Go.IntKind.u64)))), (Go.IntKind.wrap .u64 (n0 * (@HPow.hPow Int Nat Int (@instHPow Int Nat (@instPowNat Int @Int.instNatPow)) (2 : Int) (@Min.min Nat @instMinNat (Int.toNat shift1) (@Go.IntKind.bits @Go.IntKind.u64)))))))
   else
    none
  else
   none
theorem roots_shifted_S (N : Nat) (n0 : Int) (shift1 : Int) : (runK Go.Proofs.Tryd.prog (Ev5 N) 400 84 [(.int .u64), (.int .i64)] [(.int .u64), (.int .u64)] (n0, shift1, ())).run = roots_shifted N n0 shift1 := by kernel_rfl
noncomputable def Ev6 (N : Nat) : (R : Type) → Env R := Env.addFn (Ev5 N) 84 (fun R => fnK [(.int .u64), (.int .i64)] [(.int .u64), (.int .u64)] (fun c => roots_shifted N c.1 c.2.1))
theorem Ev6_ok (N : Nat) (R : Type) : EnvOK Go.Proofs.Tryd.prog (Ev6 N R) := EnvOK.addFn hmx (Ev5_ok N R) (Ev5_ok N _) (by kernel_rfl) (fun c => roots_shifted_S N c.1 c.2.1)
noncomputable def roots_above (N : Nat) (x0 : Int) (n1 : Int) (degree2 : Int) (shift3 : Int) : Option (Bool) :=
 Option.bind (@roots_power N x0 degree2) fun (v5 : (Int × Int)) =>
 Option.bind (@roots_shifted N (Go.IntKind.wrap .u64 n1) shift3) fun (v6 : (Int × Int)) =>
 bif (!(decide (v5.1 = v6.1))) then
  some ((decide (v6.1 < v5.1)))
 else
  some ((decide (v6.2 < v5.2)))
theorem roots_above_S (N : Nat) (x0 : Int) (n1 : Int) (degree2 : Int) (shift3 : Int) : (runK Go.Proofs.Tryd.prog (Ev6 N) 400 76 [(.int .u64), (.int .i64), (.int .i64), (.int .i64)] [.bool] (x0, n1, degree2, shift3, ())).run = roots_above N x0 n1 degree2 shift3 := by kernel_rfl
noncomputable def Ev7 (N : Nat) : (R : Type) → Env R := Env.addFn (Ev6 N) 76 (fun R => fnK [(.int .u64), (.int .i64), (.int .i64), (.int .i64)] [.bool] (fun c => roots_above N c.1 c.2.1 c.2.2.1 c.2.2.2.1))
theorem Ev7_ok (N : Nat) (R : Type) : EnvOK Go.Proofs.Tryd.prog (Ev7 N R) := EnvOK.addFn hmx (Ev6_ok N R) (Ev6_ok N _) (by kernel_rfl) (fun c => roots_above_S N c.1 c.2.1 c.2.2.1 c.2.2.2.1)
noncomputable def roots_Root_L5_I : LI := ⟨34, 0, [], ⟨[(0, .ty (.int .i64)), (1, .ty (.int .i64)), (2, .ty (.int .i64)), (8, .ty (.int .u64)), (9, .ty (.int .i64))], []⟩, [(.exit 0, ⟨[(8, .ty (.int .u64))], []⟩)]⟩
noncomputable def roots_Root_L5 (N : Nat) (X : (((Int) × ((Int) × ((Int) × ((Int) × ((Int) × Unit))))) × Unit) → Option ((((Int) × Unit) × Unit))) (n0 : Int) (degree1 : Int) (bits2 : Int) (root8 : Int) (i9 : Int) : Option ((((Int) × Unit) × Unit)) :=
 bif (decide ((0 : Int) ≤ i9)) then
  bif (decide ((0 : Int) ≤ i9)) then
   Option.bind (@roots_above N (@Go.bits @Go.BinOp.or @Go.IntKind.u64 root8 (Go.IntKind.wrap .u64 ((1 : Int) * (@HPow.hPow Int Nat Int (@instHPow Int Nat (@instPowNat Int @Int.instNatPow)) (2 : Int) (@Min.min Nat @instMinNat (Int.toNat i9) (@Go.IntKind.bits @Go.IntKind.u64)))))) n0 degree1 (Go.IntKind.wrap .i64 (degree1 * bits2))) fun (v7 : Bool) =>
   bif (!v7) then
    (X ((n0, (degree1, (bits2, ((@Go.bits @Go.BinOp.or @Go.IntKind.u64 root8 (Go.IntKind.wrap .u64 ((1 : Int) * (@HPow.hPow Int Nat Int (@instHPow Int Nat (@instPowNat Int @Int.instNatPow)) (2 : Int) (@Min.min Nat @instMinNat (Int.toNat i9) (@Go.IntKind.bits @Go.IntKind.u64)))))), ((Go.IntKind.wrap .i64 (i9 - (1 : Int))), @Unit.unit))))), @Unit.unit))
   else
    (X ((n0, (degree1, (bits2, (root8, ((Go.IntKind.wrap .i64 (i9 - (1 : Int))), @Unit.unit))))), @Unit.unit))
  else
   none
 else
  some (((root8, @Unit.unit), @Unit.unit))
noncomputable def roots_Root_L5_R (N : Nat) (c : (((Int) × ((Int) × ((Int) × ((Int) × ((Int) × Unit))))) × Unit)) : Option ((((Int) × Unit) × Unit)) := gl (fun X c => roots_Root_L5 N X c.1.1 c.1.2.1 c.1.2.2.1 c.1.2.2.2.1 c.1.2.2.2.2.1) N c
theorem roots_Root_L5_S (N : Nat) (X : (((Int) × ((Int) × ((Int) × ((Int) × ((Int) × Unit))))) × Unit) → Option ((((Int) × Unit) × Unit))) (n0 : Int) (degree1 : Int) (bits2 : Int) (root8 : Int) (i9 : Int) : (roundK Go.Proofs.Tryd.prog (Ev7 N) 400 [59] roots_Root_L5_I (loopAt Go.Proofs.Tryd.prog [59] 5) X ((n0, degree1, bits2, root8, i9, ()), ())).run = roots_Root_L5 N X n0 degree1 bits2 root8 i9 := by kernel_rfl
noncomputable def Ev8 (N : Nat) : (R : Type) → Env R := Env.addLp (Ev7 N) [59] 0 5 (fun R => lpK Go.Proofs.Tryd.prog roots_Root_L5_I (fun X c => roots_Root_L5 N X c.1.1 c.1.2.1 c.1.2.2.1 c.1.2.2.2.1 c.1.2.2.2.2.1) N)
theorem Ev8_ok (N : Nat) (R : Type) : EnvOK Go.Proofs.Tryd.prog (Ev8 N R) := EnvOK.addLp (Ev7_ok N R) (by kernel_rfl) (lpK_ok (li := roots_Root_L5_I) (G := fun X c => roots_Root_L5 N X c.1.1 c.1.2.1 c.1.2.2.1 c.1.2.2.2.1 c.1.2.2.2.2.1) hmx (Ev7_ok N _) (by kernel_rfl) loopAt_sub (fun (X : CT roots_Root_L5_I.sh → Option (OT roots_Root_L5_I.outs)) (c : CT roots_Root_L5_I.sh) => roots_Root_L5_S N X c.1.1 c.1.2.1 c.1.2.2.1 c.1.2.2.2.1 c.1.2.2.2.2.1) N)
noncomputable def roots_Root (N : Nat) (n0 : Int) (degree1 : Int) (bits2 : Int) : Option ((Int) × Int) :=
 Option.bind (@roots_may N n0 degree1 bits2) fun (v4 : Bool) =>
 bif (!v4) then
  some (((0 : Int), (1 : Int)))
 else
  Option.bind (roots_Root_L5_R N ((n0, (degree1, (bits2, ((0 : Int), ((36 : Int), @Unit.unit))))), @Unit.unit)) fun (v5 : ((Int × Unit) × Unit)) =>
  some ((v5.1.1, (0 : Int)))
theorem roots_Root_S (N : Nat) (n0 : Int) (degree1 : Int) (bits2 : Int) : (runK Go.Proofs.Tryd.prog (Ev8 N) 400 59 [(.int .i64), (.int .i64), (.int .i64)] [(.int .u64), (.int .i64)] (n0, degree1, bits2, ())).run = roots_Root N n0 degree1 bits2 := by kernel_rfl
theorem roots_Root_C (N : Nat) (n0 : Int) (degree1 : Int) (bits2 : Int) (y : (Int) × Int) (h : roots_Root N n0 degree1 bits2 = some y) : CallsK Go.Proofs.Tryd.prog 59 (valA [(.int .i64), (.int .i64), (.int .i64)] (n0, degree1, bits2, ())) (tupV (valR [(.int .u64), (.int .i64)] y)) := runK_ok hmx (Ev8_ok N _) (okFn_ok (by kernel_rfl)) (by rw [roots_Root_S]; exact h)
noncomputable def Ev9 (N : Nat) : (R : Type) → Env R := Env.addFn (Ev8 N) 59 (fun R => fnK [(.int .i64), (.int .i64), (.int .i64)] [(.int .u64), (.int .i64)] (fun c => roots_Root N c.1 c.2.1 c.2.2.1))
theorem Ev9_ok (N : Nat) (R : Type) : EnvOK Go.Proofs.Tryd.prog (Ev9 N R) := EnvOK.addFn hmx (Ev8_ok N R) (Ev8_ok N _) (by kernel_rfl) (fun c => roots_Root_S N c.1 c.2.1 c.2.2.1)
noncomputable def octs_place (N : Nat) (i0 : Int) (width1 : Int) (little2 : Bool) : Option (Int) :=
 bif little2 then
  some (i0)
 else
  some ((Go.IntKind.wrap .i64 ((Go.IntKind.wrap .i64 (width1 - (1 : Int))) - i0)))
theorem octs_place_S (N : Nat) (i0 : Int) (width1 : Int) (little2 : Bool) : (runK Go.Proofs.Tryd.prog (Ev9 N) 400 49 [(.int .i64), (.int .i64), .bool] [(.int .i64)] (i0, width1, little2, ())).run = octs_place N i0 width1 little2 := by kernel_rfl
noncomputable def Ev10 (N : Nat) : (R : Type) → Env R := Env.addFn (Ev9 N) 49 (fun R => fnK [(.int .i64), (.int .i64), .bool] [(.int .i64)] (fun c => octs_place N c.1 c.2.1 c.2.2.1))
theorem Ev10_ok (N : Nat) (R : Type) : EnvOK Go.Proofs.Tryd.prog (Ev10 N R) := EnvOK.addFn hmx (Ev9_ok N R) (Ev9_ok N _) (by kernel_rfl) (fun c => octs_place_S N c.1 c.2.1 c.2.2.1)
noncomputable def octs_Put_L5_I : LI := ⟨35, 0, [], ⟨[(0, .ty (.int .u64)), (1, .ty (.int .i64)), (2, .ty .bool), (8, .lit (.own 0)), (19, .ty (.int .i64)), (20, .ty (.int .i64))], [.own (.int .u8) 5]⟩, [(.exit 0, ⟨[(8, .lit (.own 0))], [.own (.int .u8) 5]⟩)]⟩
noncomputable def octs_Put_L5 (N : Nat) (X : (((Int) × ((Int) × ((Bool) × ((Int) × ((Int) × Unit))))) × ((List (Int)) × Unit)) → Option ((Unit × ((List (Int)) × Unit)))) (n0 : Int) (width1 : Int) (little2 : Bool) (x19 : Int) (x20 : Int) (h0 : List (Int)) : Option ((Unit × ((List (Int)) × Unit))) :=
 bif (decide (x20 < x19)) then
  Option.bind (@octs_place N x20 width1 little2) fun (v8 : Int) =>
  bif (decide ((0 : Int) ≤ v8 ∧ v8 < (((List.length h0) : Nat) : Int))) then
   Option.bind (@GetElem?.getElem? (List Int) Nat Int (fun (as9 : (List Int)) => (fun (i10 : Nat) => (@LT.lt Nat @instLTNat i10 (List.length as9)))) (@List.instGetElem?NatLtLength Int) h0 (Int.toNat v8)) fun (v9 : Int) =>
   (X (((@Int.fdiv n0 (@HPow.hPow Int Nat Int (@instHPow Int Nat (@instPowNat Int @Int.instNatPow)) (2 : Int) (@Min.min Nat @instMinNat (Int.toNat (8 : Int)) (@Go.IntKind.bits @Go.IntKind.u64)))), (width1, (little2, (x19, ((Go.IntKind.wrap .i64 (x20 + (1 : Int))), @Unit.unit))))), ((@List.set Int h0 (Int.toNat v8) (Go.IntKind.wrap .u8 n0)), @Unit.unit)))
  else
   none
 else
  some ((@Unit.unit, (h0, @Unit.unit)))
noncomputable def octs_Put_L5_R (N : Nat) (c : (((Int) × ((Int) × ((Bool) × ((Int) × ((Int) × Unit))))) × ((List (Int)) × Unit))) : Option ((Unit × ((List (Int)) × Unit))) := gl (fun X c => octs_Put_L5 N X c.1.1 c.1.2.1 c.1.2.2.1 c.1.2.2.2.1 c.1.2.2.2.2.1 c.2.1) N c
theorem octs_Put_L5_S (N : Nat) (X : (((Int) × ((Int) × ((Bool) × ((Int) × ((Int) × Unit))))) × ((List (Int)) × Unit)) → Option ((Unit × ((List (Int)) × Unit)))) (n0 : Int) (width1 : Int) (little2 : Bool) (x19 : Int) (x20 : Int) (h0 : List (Int)) : (roundK Go.Proofs.Tryd.prog (Ev10 N) 400 [32] octs_Put_L5_I (loopAt Go.Proofs.Tryd.prog [32] 5) X ((n0, width1, little2, x19, x20, ()), (h0, ()))).run = octs_Put_L5 N X n0 width1 little2 x19 x20 h0 := by kernel_rfl
noncomputable def Ev11 (N : Nat) : (R : Type) → Env R := Env.addLp (Ev10 N) [32] 0 5 (fun R => lpK Go.Proofs.Tryd.prog octs_Put_L5_I (fun X c => octs_Put_L5 N X c.1.1 c.1.2.1 c.1.2.2.1 c.1.2.2.2.1 c.1.2.2.2.2.1 c.2.1) N)
theorem Ev11_ok (N : Nat) (R : Type) : EnvOK Go.Proofs.Tryd.prog (Ev11 N R) := EnvOK.addLp (Ev10_ok N R) (by kernel_rfl) (lpK_ok (li := octs_Put_L5_I) (G := fun X c => octs_Put_L5 N X c.1.1 c.1.2.1 c.1.2.2.1 c.1.2.2.2.1 c.1.2.2.2.2.1 c.2.1) hmx (Ev10_ok N _) (by kernel_rfl) loopAt_sub (fun (X : CT octs_Put_L5_I.sh → Option (OT octs_Put_L5_I.outs)) (c : CT octs_Put_L5_I.sh) => octs_Put_L5_S N X c.1.1 c.1.2.1 c.1.2.2.1 c.1.2.2.2.1 c.1.2.2.2.2.1 c.2.1) N)
noncomputable def octs_Put (N : Nat) (n0 : Int) (width1 : Int) (little2 : Bool) : Option ((List (Int)) × Int) :=
 bif (decide (width1 < (1 : Int))) then
  some ((([] : List (Int)), (1 : Int)))
 else
  bif (@cond Bool @Bool.false @Bool.true (decide ((8 : Int) < width1))) then
   some ((([] : List (Int)), (1 : Int)))
  else
   bif ((decide ((0 : Int) ≤ width1 ∧ width1 ≤ width1)) && (roomB (Int.toNat width1) 1)) then
    Option.bind (octs_Put_L5_R N ((n0, (width1, (little2, ((((List.length (@List.replicate Int (Int.toNat width1) (0 : Int))) : Nat) : Int), ((0 : Int), @Unit.unit))))), ((@List.replicate Int (Int.toNat width1) (0 : Int)), @Unit.unit))) fun (v4 : (Unit × ((List Int) × Unit))) =>
    some ((v4.2.1, (0 : Int)))
   else
    none
theorem octs_Put_S (N : Nat) (n0 : Int) (width1 : Int) (little2 : Bool) : (runK Go.Proofs.Tryd.prog (Ev11 N) 400 32 [(.int .u64), (.int .i64), .bool] [(.sl (.int .u8)), (.int .i64)] (n0, width1, little2, ())).run = octs_Put N n0 width1 little2 := by kernel_rfl
noncomputable def Ev12 (N : Nat) : (R : Type) → Env R := Env.addFn (Ev11 N) 32 (fun R => fnK [(.int .u64), (.int .i64), .bool] [(.sl (.int .u8)), (.int .i64)] (fun c => octs_Put N c.1 c.2.1 c.2.2.1))
theorem Ev12_ok (N : Nat) (R : Type) : EnvOK Go.Proofs.Tryd.prog (Ev12 N R) := EnvOK.addFn hmx (Ev11_ok N R) (Ev11_ok N _) (by kernel_rfl) (fun c => octs_Put_S N c.1 c.2.1 c.2.2.1)
noncomputable def md4_Tail_3_octs_Join_L3_I : LI := ⟨33, 1, [], ⟨[(0, .ty (.sl (.sl (.int .u8)))), (3, .ty (.int .i64)), (9, .ty (.sl (.sl (.int .u8)))), (10, .ty (.int .i64)), (11, .ty (.int .i64))], [.dead]⟩, [(.exit 0, ⟨[(0, .ty (.sl (.sl (.int .u8)))), (3, .ty (.int .i64))], [.dead]⟩)]⟩
noncomputable def md4_Tail_3_octs_Join_L3 (N : Nat) (X : (((List (List (Int))) × ((Int) × ((List (List (Int))) × ((Int) × ((Int) × Unit))))) × Unit) → Option ((((List (List (Int))) × ((Int) × Unit)) × Unit))) (parts0 : List (List (Int))) (size3 : Int) (x9 : List (List (Int))) (x10 : Int) (x11 : Int) : Option ((((List (List (Int))) × ((Int) × Unit)) × Unit)) :=
 bif (decide (x11 < x10)) then
  Option.bind (getI x9 x11) fun (v7 : (List Int)) =>
  (X ((parts0, ((Go.IntKind.wrap .i64 (size3 + (((List.length v7) : Nat) : Int))), (x9, (x10, ((Go.IntKind.wrap .i64 (x11 + (1 : Int))), @Unit.unit))))), @Unit.unit))
 else
  some (((parts0, (size3, @Unit.unit)), @Unit.unit))
noncomputable def md4_Tail_3_octs_Join_L3_R (N : Nat) (c : (((List (List (Int))) × ((Int) × ((List (List (Int))) × ((Int) × ((Int) × Unit))))) × Unit)) : Option ((((List (List (Int))) × ((Int) × Unit)) × Unit)) := gl (fun X c => md4_Tail_3_octs_Join_L3 N X c.1.1 c.1.2.1 c.1.2.2.1 c.1.2.2.2.1 c.1.2.2.2.2.1) N c
theorem md4_Tail_3_octs_Join_L3_S (N : Nat) (X : (((List (List (Int))) × ((Int) × ((List (List (Int))) × ((Int) × ((Int) × Unit))))) × Unit) → Option ((((List (List (Int))) × ((Int) × Unit)) × Unit))) (parts0 : List (List (Int))) (size3 : Int) (x9 : List (List (Int))) (x10 : Int) (x11 : Int) : (roundK Go.Proofs.Tryd.prog (Ev12 N) 400 [13, 3, 33] md4_Tail_3_octs_Join_L3_I (loopAt Go.Proofs.Tryd.prog [13, 3, 33] 3) X ((parts0, size3, x9, x10, x11, ()), ())).run = md4_Tail_3_octs_Join_L3 N X parts0 size3 x9 x10 x11 := by kernel_rfl
noncomputable def Ev13 (N : Nat) : (R : Type) → Env R := Env.addLp (Ev12 N) [13, 3, 33] 1 3 (fun R => lpK Go.Proofs.Tryd.prog md4_Tail_3_octs_Join_L3_I (fun X c => md4_Tail_3_octs_Join_L3 N X c.1.1 c.1.2.1 c.1.2.2.1 c.1.2.2.2.1 c.1.2.2.2.2.1) N)
theorem Ev13_ok (N : Nat) (R : Type) : EnvOK Go.Proofs.Tryd.prog (Ev13 N R) := EnvOK.addLp (Ev12_ok N R) (by kernel_rfl) (lpK_ok (li := md4_Tail_3_octs_Join_L3_I) (G := fun X c => md4_Tail_3_octs_Join_L3 N X c.1.1 c.1.2.1 c.1.2.2.1 c.1.2.2.2.1 c.1.2.2.2.2.1) hmx (Ev12_ok N _) (by kernel_rfl) loopAt_sub (fun (X : CT md4_Tail_3_octs_Join_L3_I.sh → Option (OT md4_Tail_3_octs_Join_L3_I.outs)) (c : CT md4_Tail_3_octs_Join_L3_I.sh) => md4_Tail_3_octs_Join_L3_S N X c.1.1 c.1.2.1 c.1.2.2.1 c.1.2.2.2.1 c.1.2.2.2.2.1) N)
noncomputable def md4_Tail_3_octs_Join_L9_I : LI := ⟨33, 1, [], ⟨[(6, .lit (.own 1)), (22, .ty (.sl (.sl (.int .u8)))), (23, .ty (.int .i64)), (24, .ty (.int .i64))], [.dead, .own (.int .u8) 5]⟩, [(.exit 2, ⟨[(6, .lit (.own 1))], [.dead, .own (.int .u8) 5]⟩)]⟩
noncomputable def md4_Tail_3_octs_Join_L9 (N : Nat) (X : (((List (List (Int))) × ((Int) × ((Int) × Unit))) × ((List (Int)) × Unit)) → Option ((Unit × ((List (Int)) × Unit)))) (x22 : List (List (Int))) (x23 : Int) (x24 : Int) (h0 : List (Int)) : Option ((Unit × ((List (Int)) × Unit))) :=
 bif (decide (x24 < x23)) then
  Option.bind (getI x22 x24) fun (v6 : (List Int)) =>
  bif (roomB ((List.length h0) + (List.length v6)) 1) then
   (X ((x22, (x23, ((Go.IntKind.wrap .i64 (x24 + (1 : Int))), @Unit.unit))), ((h0 ++ v6), @Unit.unit)))
  else
   none
 else
  some ((@Unit.unit, (h0, @Unit.unit)))
noncomputable def md4_Tail_3_octs_Join_L9_R (N : Nat) (c : (((List (List (Int))) × ((Int) × ((Int) × Unit))) × ((List (Int)) × Unit))) : Option ((Unit × ((List (Int)) × Unit))) := gl (fun X c => md4_Tail_3_octs_Join_L9 N X c.1.1 c.1.2.1 c.1.2.2.1 c.2.1) N c
theorem md4_Tail_3_octs_Join_L9_S (N : Nat) (X : (((List (List (Int))) × ((Int) × ((Int) × Unit))) × ((List (Int)) × Unit)) → Option ((Unit × ((List (Int)) × Unit)))) (x22 : List (List (Int))) (x23 : Int) (x24 : Int) (h0 : List (Int)) : (roundK Go.Proofs.Tryd.prog (Ev13 N) 400 [13, 3, 33] md4_Tail_3_octs_Join_L9_I (loopAt Go.Proofs.Tryd.prog [13, 3, 33] 9) X ((x22, x23, x24, ()), (h0, ()))).run = md4_Tail_3_octs_Join_L9 N X x22 x23 x24 h0 := by kernel_rfl
noncomputable def Ev14 (N : Nat) : (R : Type) → Env R := Env.addLp (Ev13 N) [13, 3, 33] 1 9 (fun R => lpK Go.Proofs.Tryd.prog md4_Tail_3_octs_Join_L9_I (fun X c => md4_Tail_3_octs_Join_L9 N X c.1.1 c.1.2.1 c.1.2.2.1 c.2.1) N)
theorem Ev14_ok (N : Nat) (R : Type) : EnvOK Go.Proofs.Tryd.prog (Ev14 N R) := EnvOK.addLp (Ev13_ok N R) (by kernel_rfl) (lpK_ok (li := md4_Tail_3_octs_Join_L9_I) (G := fun X c => md4_Tail_3_octs_Join_L9 N X c.1.1 c.1.2.1 c.1.2.2.1 c.2.1) hmx (Ev13_ok N _) (by kernel_rfl) loopAt_sub (fun (X : CT md4_Tail_3_octs_Join_L9_I.sh → Option (OT md4_Tail_3_octs_Join_L9_I.outs)) (c : CT md4_Tail_3_octs_Join_L9_I.sh) => md4_Tail_3_octs_Join_L9_S N X c.1.1 c.1.2.1 c.1.2.2.1 c.2.1) N)
noncomputable def md4_Tail (N : Nat) (n0 : Int) : Option (List (Int)) :=
 Option.bind (@octs_Put N (Go.IntKind.wrap .u64 ((8 : Int) * n0)) (8 : Int) @Bool.true) fun (v2 : ((List Int) × Int)) =>
 bif ((decide ((0 : Int) ≤ (@Int.tmod (Go.IntKind.wrap .u64 ((119 : Int) - (@Int.tmod n0 (64 : Int)))) (64 : Int)) ∧ (@Int.tmod (Go.IntKind.wrap .u64 ((119 : Int) - (@Int.tmod n0 (64 : Int)))) (64 : Int)) ≤ (@Int.tmod (Go.IntKind.wrap .u64 ((119 : Int) - (@Int.tmod n0 (64 : Int)))) (64 : Int)))) && (roomB (Int.toNat (@Int.tmod (Go.IntKind.wrap .u64 ((119 : Int) - (@Int.tmod n0 (64 : Int)))) (64 : Int))) 1)) then
  Option.bind (md4_Tail_3_octs_Join_L3_R N ((([([(128 : Int)] : List (Int)), (@List.replicate Int (Int.toNat (@Int.tmod (Go.IntKind.wrap .u64 ((119 : Int) - (@Int.tmod n0 (64 : Int)))) (64 : Int))) (0 : Int)), v2.1] : List ((List Int))), ((0 : Int), (([([(128 : Int)] : List (Int)), (@List.replicate Int (Int.toNat (@Int.tmod (Go.IntKind.wrap .u64 ((119 : Int) - (@Int.tmod n0 (64 : Int)))) (64 : Int))) (0 : Int)), v2.1] : List ((List Int))), ((((List.length ([([(128 : Int)] : List (Int)), (@List.replicate Int (Int.toNat (@Int.tmod (Go.IntKind.wrap .u64 ((119 : Int) - (@Int.tmod n0 (64 : Int)))) (64 : Int))) (0 : Int)), v2.1] : List ((List Int)))) : Nat) : Int), ((0 : Int), @Unit.unit))))), @Unit.unit)) fun (v3 : (((List (List Int)) × (Int × Unit)) × Unit)) =>
  bif ((decide ((0 : Int) ≤ (0 : Int) ∧ (0 : Int) ≤ v3.1.2.1)) && (roomB (Int.toNat v3.1.2.1) 1)) then
   Option.bind (md4_Tail_3_octs_Join_L9_R N ((v3.1.1, ((((List.length v3.1.1) : Nat) : Int), ((0 : Int), @Unit.unit))), ((@List.replicate Int (Int.toNat (0 : Int)) (0 : Int)), @Unit.unit))) fun (v4 : (Unit × ((List Int) × Unit))) =>
   some (v4.2.1)
  else
   none
 else
  none
theorem md4_Tail_S (N : Nat) (n0 : Int) : (runK Go.Proofs.Tryd.prog (Ev14 N) 400 33 [(.int .u64)] [(.sl (.int .u8))] (n0, ())).run = md4_Tail N n0 := by kernel_rfl
theorem md4_Tail_C (N : Nat) (n0 : Int) (y : List (Int)) (h : md4_Tail N n0 = some y) : CallsK Go.Proofs.Tryd.prog 33 (valA [(.int .u64)] (n0, ())) (tupV (valR [(.sl (.int .u8))] y)) := runK_ok hmx (Ev14_ok N _) (okFn_ok (by kernel_rfl)) (by rw [md4_Tail_S]; exact h)
noncomputable def Ev15 (N : Nat) : (R : Type) → Env R := Env.addFn (Ev14 N) 33 (fun R => fnK [(.int .u64)] [(.sl (.int .u8))] (fun c => md4_Tail N c.1))
theorem Ev15_ok (N : Nat) (R : Type) : EnvOK Go.Proofs.Tryd.prog (Ev15 N R) := EnvOK.addFn hmx (Ev14_ok N R) (Ev14_ok N _) (by kernel_rfl) (fun c => md4_Tail_S N c.1)
noncomputable def md4_First (N : Nat) : Option (Arr (Int) 4) :=
 some ((@Arr.cons Int (3 : Nat) (1732584193 : Int) (@Arr.cons Int (2 : Nat) (4023233417 : Int) (@Arr.cons Int (1 : Nat) (2562383102 : Int) (@Arr.cons Int (0 : Nat) (271733878 : Int) (@Arr.nil Int))))))
theorem md4_First_S (N : Nat) : (runK Go.Proofs.Tryd.prog (Ev15 N) 400 34 [] [(.arr 4 (.int .u32))] ()).run = md4_First N  := by kernel_rfl
theorem md4_First_C (N : Nat) (y : Arr (Int) 4) (h : md4_First N  = some y) : CallsK Go.Proofs.Tryd.prog 34 (valA [] ()) (tupV (valR [(.arr 4 (.int .u32))] y)) := runK_ok hmx (Ev15_ok N _) (okFn_ok (by kernel_rfl)) (by rw [md4_First_S]; exact h)
noncomputable def Ev16 (N : Nat) : (R : Type) → Env R := Env.addFn (Ev15 N) 34 (fun R => fnK [] [(.arr 4 (.int .u32))] (fun c => md4_First N ))
theorem Ev16_ok (N : Nat) (R : Type) : EnvOK Go.Proofs.Tryd.prog (Ev16 N R) := EnvOK.addFn hmx (Ev15_ok N R) (Ev15_ok N _) (by kernel_rfl) (fun c => md4_First_S N )
noncomputable def md4_Of_1_octs_Join_L3_I : LI := ⟨33, 1, [], ⟨[(0, .ty (.sl (.sl (.int .u8)))), (3, .ty (.int .i64)), (9, .ty (.sl (.sl (.int .u8)))), (10, .ty (.int .i64)), (11, .ty (.int .i64))], [.box 22 (.arr 16 (.int .u8))]⟩, [(.exit 0, ⟨[(0, .ty (.sl (.sl (.int .u8)))), (3, .ty (.int .i64))], [.box 22 (.arr 16 (.int .u8))]⟩)]⟩
noncomputable def md4_Of_1_octs_Join_L3 (N : Nat) (X : (((List (List (Int))) × ((Int) × ((List (List (Int))) × ((Int) × ((Int) × Unit))))) × ((Arr (Int) 16) × Unit)) → Option ((((List (List (Int))) × ((Int) × Unit)) × ((Arr (Int) 16) × Unit)))) (parts0 : List (List (Int))) (size3 : Int) (x9 : List (List (Int))) (x10 : Int) (x11 : Int) (h0 : Arr (Int) 16) : Option ((((List (List (Int))) × ((Int) × Unit)) × ((Arr (Int) 16) × Unit))) :=
 bif (decide (x11 < x10)) then
  Option.bind (getI x9 x11) fun (v8 : (List Int)) =>
  (X ((parts0, ((Go.IntKind.wrap .i64 (size3 + (((List.length v8) : Nat) : Int))), (x9, (x10, ((Go.IntKind.wrap .i64 (x11 + (1 : Int))), @Unit.unit))))), (h0, @Unit.unit)))
 else
  some (((parts0, (size3, @Unit.unit)), (h0, @Unit.unit)))
noncomputable def md4_Of_1_octs_Join_L3_R (N : Nat) (c : (((List (List (Int))) × ((Int) × ((List (List (Int))) × ((Int) × ((Int) × Unit))))) × ((Arr (Int) 16) × Unit))) : Option ((((List (List (Int))) × ((Int) × Unit)) × ((Arr (Int) 16) × Unit))) := gl (fun X c => md4_Of_1_octs_Join_L3 N X c.1.1 c.1.2.1 c.1.2.2.1 c.1.2.2.2.1 c.1.2.2.2.2.1 c.2.1) N c
theorem md4_Of_1_octs_Join_L3_S (N : Nat) (X : (((List (List (Int))) × ((Int) × ((List (List (Int))) × ((Int) × ((Int) × Unit))))) × ((Arr (Int) 16) × Unit)) → Option ((((List (List (Int))) × ((Int) × Unit)) × ((Arr (Int) 16) × Unit)))) (parts0 : List (List (Int))) (size3 : Int) (x9 : List (List (Int))) (x10 : Int) (x11 : Int) (h0 : Arr (Int) 16) : (roundK Go.Proofs.Tryd.prog (Ev16 N) 400 [13, 1, 21] md4_Of_1_octs_Join_L3_I (loopAt Go.Proofs.Tryd.prog [13, 1, 21] 3) X ((parts0, size3, x9, x10, x11, ()), (h0, ()))).run = md4_Of_1_octs_Join_L3 N X parts0 size3 x9 x10 x11 h0 := by kernel_rfl
noncomputable def Ev17 (N : Nat) : (R : Type) → Env R := Env.addLp (Ev16 N) [13, 1, 21] 1 3 (fun R => lpK Go.Proofs.Tryd.prog md4_Of_1_octs_Join_L3_I (fun X c => md4_Of_1_octs_Join_L3 N X c.1.1 c.1.2.1 c.1.2.2.1 c.1.2.2.2.1 c.1.2.2.2.2.1 c.2.1) N)
theorem Ev17_ok (N : Nat) (R : Type) : EnvOK Go.Proofs.Tryd.prog (Ev17 N R) := EnvOK.addLp (Ev16_ok N R) (by kernel_rfl) (lpK_ok (li := md4_Of_1_octs_Join_L3_I) (G := fun X c => md4_Of_1_octs_Join_L3 N X c.1.1 c.1.2.1 c.1.2.2.1 c.1.2.2.2.1 c.1.2.2.2.2.1 c.2.1) hmx (Ev16_ok N _) (by kernel_rfl) loopAt_sub (fun (X : CT md4_Of_1_octs_Join_L3_I.sh → Option (OT md4_Of_1_octs_Join_L3_I.outs)) (c : CT md4_Of_1_octs_Join_L3_I.sh) => md4_Of_1_octs_Join_L3_S N X c.1.1 c.1.2.1 c.1.2.2.1 c.1.2.2.2.1 c.1.2.2.2.2.1 c.2.1) N)
noncomputable def md4_Of_1_octs_Join_L9_I : LI := ⟨33, 1, [], ⟨[(6, .lit (.own 1)), (22, .ty (.sl (.sl (.int .u8)))), (23, .ty (.int .i64)), (24, .ty (.int .i64))], [.box 22 (.arr 16 (.int .u8)), .own (.int .u8) 5]⟩, [(.exit 2, ⟨[(6, .lit (.own 1))], [.box 22 (.arr 16 (.int .u8)), .own (.int .u8) 5]⟩)]⟩
noncomputable def md4_Of_1_octs_Join_L9 (N : Nat) (X : (((List (List (Int))) × ((Int) × ((Int) × Unit))) × ((Arr (Int) 16) × ((List (Int)) × Unit))) → Option ((Unit × ((Arr (Int) 16) × ((List (Int)) × Unit))))) (x22 : List (List (Int))) (x23 : Int) (x24 : Int) (h0 : Arr (Int) 16) (h1 : List (Int)) : Option ((Unit × ((Arr (Int) 16) × ((List (Int)) × Unit)))) :=
 bif (decide (x24 < x23)) then
  Option.bind (getI x22 x24) fun (v7 : (List Int)) =>
  bif (roomB ((List.length h1) + (List.length v7)) 1) then
   (X ((x22, (x23, ((Go.IntKind.wrap .i64 (x24 + (1 : Int))), @Unit.unit))), (h0, ((h1 ++ v7), @Unit.unit))))
  else
   none
 else
  some ((@Unit.unit, (h0, (h1, @Unit.unit))))
noncomputable def md4_Of_1_octs_Join_L9_R (N : Nat) (c : (((List (List (Int))) × ((Int) × ((Int) × Unit))) × ((Arr (Int) 16) × ((List (Int)) × Unit)))) : Option ((Unit × ((Arr (Int) 16) × ((List (Int)) × Unit)))) := gl (fun X c => md4_Of_1_octs_Join_L9 N X c.1.1 c.1.2.1 c.1.2.2.1 c.2.1 c.2.2.1) N c
theorem md4_Of_1_octs_Join_L9_S (N : Nat) (X : (((List (List (Int))) × ((Int) × ((Int) × Unit))) × ((Arr (Int) 16) × ((List (Int)) × Unit))) → Option ((Unit × ((Arr (Int) 16) × ((List (Int)) × Unit))))) (x22 : List (List (Int))) (x23 : Int) (x24 : Int) (h0 : Arr (Int) 16) (h1 : List (Int)) : (roundK Go.Proofs.Tryd.prog (Ev17 N) 400 [13, 1, 21] md4_Of_1_octs_Join_L9_I (loopAt Go.Proofs.Tryd.prog [13, 1, 21] 9) X ((x22, x23, x24, ()), (h0, h1, ()))).run = md4_Of_1_octs_Join_L9 N X x22 x23 x24 h0 h1 := by kernel_rfl
noncomputable def Ev18 (N : Nat) : (R : Type) → Env R := Env.addLp (Ev17 N) [13, 1, 21] 1 9 (fun R => lpK Go.Proofs.Tryd.prog md4_Of_1_octs_Join_L9_I (fun X c => md4_Of_1_octs_Join_L9 N X c.1.1 c.1.2.1 c.1.2.2.1 c.2.1 c.2.2.1) N)
theorem Ev18_ok (N : Nat) (R : Type) : EnvOK Go.Proofs.Tryd.prog (Ev18 N R) := EnvOK.addLp (Ev17_ok N R) (by kernel_rfl) (lpK_ok (li := md4_Of_1_octs_Join_L9_I) (G := fun X c => md4_Of_1_octs_Join_L9 N X c.1.1 c.1.2.1 c.1.2.2.1 c.2.1 c.2.2.1) hmx (Ev17_ok N _) (by kernel_rfl) loopAt_sub (fun (X : CT md4_Of_1_octs_Join_L9_I.sh → Option (OT md4_Of_1_octs_Join_L9_I.outs)) (c : CT md4_Of_1_octs_Join_L9_I.sh) => md4_Of_1_octs_Join_L9_S N X c.1.1 c.1.2.1 c.1.2.2.1 c.2.1 c.2.2.1) N)
noncomputable def md4_root (N : Nat) (n0 : Int) : Option (Int) :=
 Option.bind (@roots_Root N n0 (2 : Int) (30 : Int)) fun (v2 : (Int × Int)) =>
 some ((Go.IntKind.wrap .u32 v2.1))
theorem md4_root_S (N : Nat) (n0 : Int) : (runK Go.Proofs.Tryd.prog (Ev18 N) 400 50 [(.int .i64)] [(.int .u32)] (n0, ())).run = md4_root N n0 := by kernel_rfl
noncomputable def Ev19 (N : Nat) : (R : Type) → Env R := Env.addFn (Ev18 N) 50 (fun R => fnK [(.int .i64)] [(.int .u32)] (fun c => md4_root N c.1))
theorem Ev19_ok (N : Nat) (R : Type) : EnvOK Go.Proofs.Tryd.prog (Ev19 N R) := EnvOK.addFn hmx (Ev18_ok N R) (Ev18_ok N _) (by kernel_rfl) (fun c => md4_root_S N c.1)
noncomputable def md4_constants (N : Nat) : Option (Arr (Int) 3) :=
 Option.bind (@md4_root N (2 : Int)) fun (v1 : Int) =>
 Option.bind (@md4_root N (3 : Int)) fun (v2 : Int) =>
 some ((@Arr.cons Int (2 : Nat) (0 : Int) (@Arr.cons Int (1 : Nat) v1 (@Arr.cons Int (0 : Nat) v2 (@Arr.nil Int)))))
theorem md4_constants_S (N : Nat) : (runK Go.Proofs.Tryd.prog (Ev19 N) 400 35 [] [(.arr 3 (.int .u32))] ()).run = md4_constants N  := by kernel_rfl
noncomputable def Ev20 (N : Nat) : (R : Type) → Env R := Env.addFn (Ev19 N) 35 (fun R => fnK [] [(.arr 3 (.int .u32))] (fun c => md4_constants N ))
theorem Ev20_ok (N : Nat) (R : Type) : EnvOK Go.Proofs.Tryd.prog (Ev20 N R) := EnvOK.addFn hmx (Ev19_ok N R) (Ev19_ok N _) (by kernel_rfl) (fun c => md4_constants_S N )
noncomputable def Ev21 (N : Nat) : (R : Type) → Env R := Env.addBx (Ev20 N) [(36, 0)]
theorem Ev21_ok (N : Nat) (R : Type) : EnvOK Go.Proofs.Tryd.prog (Ev21 N R) := EnvOK.addBx (Ev20_ok N R) [(36, 0)]
noncomputable def Ev22 (N : Nat) : (R : Type) → Env R := Env.addBx (Ev21 N) [(51, 0)]
theorem Ev22_ok (N : Nat) (R : Type) : EnvOK Go.Proofs.Tryd.prog (Ev22 N R) := EnvOK.addBx (Ev21_ok N R) [(51, 0)]
noncomputable def octs_Get_L5_I : LI := ⟨37, 0, [], ⟨[(0, .ty (.sl (.int .u8))), (1, .ty .bool), (6, .ty (.int .u64)), (17, .ty (.int .i64)), (18, .ty (.int .i64))], []⟩, [(.exit 0, ⟨[(6, .ty (.int .u64))], []⟩)]⟩
noncomputable def octs_Get_L5 (N : Nat) (X : (((List (Int)) × ((Bool) × ((Int) × ((Int) × ((Int) × Unit))))) × Unit) → Option ((((Int) × Unit) × Unit))) (b0 : List (Int)) (little1 : Bool) (n6 : Int) (x17 : Int) (x18 : Int) : Option ((((Int) × Unit) × Unit)) :=
 bif (decide (x18 < x17)) then
  Option.bind (@octs_place N x18 (((List.length b0) : Nat) : Int) little1) fun (v7 : Int) =>
  Option.bind (getI b0 v7) fun (v8 : Int) =>
  bif (decide ((0 : Int) ≤ (Go.IntKind.wrap .i64 ((8 : Int) * x18)))) then
   (X ((b0, (little1, ((@Go.bits @Go.BinOp.or @Go.IntKind.u64 n6 (Go.IntKind.wrap .u64 ((Go.IntKind.wrap .u64 v8) * (@HPow.hPow Int Nat Int (@instHPow Int Nat (@instPowNat Int @Int.instNatPow)) (2 : Int) (@Min.min Nat @instMinNat (Int.toNat (Go.IntKind.wrap .i64 ((8 : Int) * x18))) (@Go.IntKind.bits @Go.IntKind.u64)))))), (x17, ((Go.IntKind.wrap .i64 (x18 + (1 : Int))), @Unit.unit))))), @Unit.unit))
  else
   none
 else
  some (((n6, @Unit.unit), @Unit.unit))
noncomputable def octs_Get_L5_R (N : Nat) (c : (((List (Int)) × ((Bool) × ((Int) × ((Int) × ((Int) × Unit))))) × Unit)) : Option ((((Int) × Unit) × Unit)) := gl (fun X c => octs_Get_L5 N X c.1.1 c.1.2.1 c.1.2.2.1 c.1.2.2.2.1 c.1.2.2.2.2.1) N c
theorem octs_Get_L5_S (N : Nat) (X : (((List (Int)) × ((Bool) × ((Int) × ((Int) × ((Int) × Unit))))) × Unit) → Option ((((Int) × Unit) × Unit))) (b0 : List (Int)) (little1 : Bool) (n6 : Int) (x17 : Int) (x18 : Int) : (roundK Go.Proofs.Tryd.prog (Ev22 N) 400 [40] octs_Get_L5_I (loopAt Go.Proofs.Tryd.prog [40] 5) X ((b0, little1, n6, x17, x18, ()), ())).run = octs_Get_L5 N X b0 little1 n6 x17 x18 := by kernel_rfl
noncomputable def Ev23 (N : Nat) : (R : Type) → Env R := Env.addLp (Ev22 N) [40] 0 5 (fun R => lpK Go.Proofs.Tryd.prog octs_Get_L5_I (fun X c => octs_Get_L5 N X c.1.1 c.1.2.1 c.1.2.2.1 c.1.2.2.2.1 c.1.2.2.2.2.1) N)
theorem Ev23_ok (N : Nat) (R : Type) : EnvOK Go.Proofs.Tryd.prog (Ev23 N R) := EnvOK.addLp (Ev22_ok N R) (by kernel_rfl) (lpK_ok (li := octs_Get_L5_I) (G := fun X c => octs_Get_L5 N X c.1.1 c.1.2.1 c.1.2.2.1 c.1.2.2.2.1 c.1.2.2.2.2.1) hmx (Ev22_ok N _) (by kernel_rfl) loopAt_sub (fun (X : CT octs_Get_L5_I.sh → Option (OT octs_Get_L5_I.outs)) (c : CT octs_Get_L5_I.sh) => octs_Get_L5_S N X c.1.1 c.1.2.1 c.1.2.2.1 c.1.2.2.2.1 c.1.2.2.2.2.1) N)
noncomputable def octs_Get (N : Nat) (b0 : List (Int)) (little1 : Bool) : Option ((Int) × Int) :=
 bif (decide ((((List.length b0) : Nat) : Int) < (1 : Int))) then
  some (((0 : Int), (1 : Int)))
 else
  bif (@cond Bool @Bool.false @Bool.true (decide ((8 : Int) < (((List.length b0) : Nat) : Int)))) then
   some (((0 : Int), (1 : Int)))
  else
   Option.bind (octs_Get_L5_R N ((b0, (little1, ((0 : Int), ((((List.length b0) : Nat) : Int), ((0 : Int), @Unit.unit))))), @Unit.unit)) fun (v3 : ((Int × Unit) × Unit)) =>
   some ((v3.1.1, (0 : Int)))
theorem octs_Get_S (N : Nat) (b0 : List (Int)) (little1 : Bool) : (runK Go.Proofs.Tryd.prog (Ev23 N) 400 40 [(.sl (.int .u8)), .bool] [(.int .u64), (.int .i64)] (b0, little1, ())).run = octs_Get N b0 little1 := by kernel_rfl
noncomputable def Ev24 (N : Nat) : (R : Type) → Env R := Env.addFn (Ev23 N) 40 (fun R => fnK [(.sl (.int .u8)), .bool] [(.int .u64), (.int .i64)] (fun c => octs_Get N c.1 c.2.1))
theorem Ev24_ok (N : Nat) (R : Type) : EnvOK Go.Proofs.Tryd.prog (Ev24 N R) := EnvOK.addFn hmx (Ev23_ok N R) (Ev23_ok N _) (by kernel_rfl) (fun c => octs_Get_S N c.1 c.2.1)
noncomputable def md4_words_L3_I : LI := ⟨26, 0, [], ⟨[(1, .adr (.arr 64 (.int .u8))), (2, .lit (.box 0 0)), (3, .lit (.box 1 0)), (7, .ty (.int .i64))], [.box 95 (.arr 16 (.int .u32)), .box 95 (.arr 16 (.int .u32))]⟩, [(.exit 0, ⟨[(2, .lit (.box 0 0)), (3, .lit (.box 1 0))], [.box 95 (.arr 16 (.int .u32)), .box 95 (.arr 16 (.int .u32))]⟩)]⟩
noncomputable def md4_words_L3 (N : Nat) (X : (((Arr (Int) 64) × ((Int) × Unit)) × ((Arr (Int) 16) × ((Arr (Int) 16) × Unit))) → Option ((Unit × ((Arr (Int) 16) × ((Arr (Int) 16) × Unit))))) (b1 : Arr (Int) 64) (x7 : Int) (h0 : Arr (Int) 16) (h1 : Arr (Int) 16) : Option ((Unit × ((Arr (Int) 16) × ((Arr (Int) 16) × Unit)))) :=
 bif (decide (x7 < (16 : Int))) then
  Option.bind (subI b1.l (Go.IntKind.wrap .i64 ((4 : Int) * x7)) (Go.IntKind.wrap .i64 ((Go.IntKind.wrap .i64 ((4 : Int) * x7)) + (4 : Int)))) fun (v6 : (List Int)) =>
  Option.bind (@octs_Get N v6 @Bool.true) fun (v7 : (Int × Int)) =>
  bif (decide ((0 : Int) ≤ x7 ∧ x7 < (((16 : Nat) : Nat) : Int))) then
   Option.bind (@GetElem?.getElem? (List Int) Nat Int (fun (as8 : (List Int)) => (fun (i9 : Nat) => (@LT.lt Nat @instLTNat i9 (List.length as8)))) (@List.instGetElem?NatLtLength Int) h1.l (Int.toNat x7)) fun (v8 : Int) =>
   (X ((b1, ((Go.IntKind.wrap .i64 (x7 + (1 : Int))), @Unit.unit)), (h0, ((h1.set (Int.toNat x7) (Go.IntKind.wrap .u32 v7.1)), @Unit.unit))))
  else
   none
 else
  some ((@Unit.unit, (h0, (h1, @Unit.unit))))
noncomputable def md4_words_L3_R (N : Nat) (c : (((Arr (Int) 64) × ((Int) × Unit)) × ((Arr (Int) 16) × ((Arr (Int) 16) × Unit)))) : Option ((Unit × ((Arr (Int) 16) × ((Arr (Int) 16) × Unit)))) := gl (fun X c => md4_words_L3 N X c.1.1 c.1.2.1 c.2.1 c.2.2.1) N c
theorem md4_words_L3_S (N : Nat) (X : (((Arr (Int) 64) × ((Int) × Unit)) × ((Arr (Int) 16) × ((Arr (Int) 16) × Unit))) → Option ((Unit × ((Arr (Int) 16) × ((Arr (Int) 16) × Unit))))) (b1 : Arr (Int) 64) (x7 : Int) (h0 : Arr (Int) 16) (h1 : Arr (Int) 16) : (roundK Go.Proofs.Tryd.prog (Ev24 N) 400 [51] md4_words_L3_I (loopAt Go.Proofs.Tryd.prog [51] 3) X ((b1, x7, ()), (h0, h1, ()))).run = md4_words_L3 N X b1 x7 h0 h1 := by kernel_rfl
noncomputable def Ev25 (N : Nat) : (R : Type) → Env R := Env.addLp (Ev24 N) [51] 0 3 (fun R => lpK Go.Proofs.Tryd.prog md4_words_L3_I (fun X c => md4_words_L3 N X c.1.1 c.1.2.1 c.2.1 c.2.2.1) N)
theorem Ev25_ok (N : Nat) (R : Type) : EnvOK Go.Proofs.Tryd.prog (Ev25 N R) := EnvOK.addLp (Ev24_ok N R) (by kernel_rfl) (lpK_ok (li := md4_words_L3_I) (G := fun X c => md4_words_L3 N X c.1.1 c.1.2.1 c.2.1 c.2.2.1) hmx (Ev24_ok N _) (by kernel_rfl) loopAt_sub (fun (X : CT md4_words_L3_I.sh → Option (OT md4_words_L3_I.outs)) (c : CT md4_words_L3_I.sh) => md4_words_L3_S N X c.1.1 c.1.2.1 c.2.1 c.2.2.1) N)
noncomputable def md4_words (N : Nat) (b0 : Arr (Int) 64) : Option (Arr (Int) 16) :=
 Option.bind (md4_words_L3_R N ((b0, ((0 : Int), @Unit.unit)), ((@Arr.cons Int (15 : Nat) (0 : Int) (@Arr.cons Int (14 : Nat) (0 : Int) (@Arr.cons Int (13 : Nat) (0 : Int) (@Arr.cons Int (12 : Nat) (0 : Int) (@Arr.cons Int (11 : Nat) (0 : Int) (@Arr.cons Int (10 : Nat) (0 : Int) (@Arr.cons Int (9 : Nat) (0 : Int) (@Arr.cons Int (8 : Nat) (0 : Int) (@Arr.cons Int (7 : Nat) (0 : Int) (@Arr.cons Int (6 : Nat) (0 : Int) (@Arr.cons Int (5 : Nat) (0 : Int) (@Arr.cons Int (4 : Nat) (0 : Int) (@Arr.cons Int (3 : Nat) (0 : Int) (@Arr.cons Int (2 : Nat) (0 : Int) (@Arr.cons Int (1 : Nat) (0 : Int) (@Arr.cons Int (0 : Nat) (0 : Int) (@Arr.nil Int))))))))))))))))), ((@Arr.cons Int (15 : Nat) (0 : Int) (@Arr.cons Int (14 : Nat) (0 : Int) (@Arr.cons Int (13 : Nat) (0 : Int) (@Arr.cons Int (12 : Nat) (0 : Int) (@Arr.cons Int (11 : Nat) (0 : Int) (@Arr.cons Int (10 : Nat) (0 : Int) (@Arr.cons Int (9 : Nat) (0 : Int) (@Arr.cons Int (8 : Nat) (0 : Int) (@Arr.cons Int (7 : Nat) (0 : Int) (@Arr.cons Int (6 : Nat) (0 : Int) (@Arr.cons Int (5 : Nat) (0 : Int) (@Arr.cons Int (4 : Nat) (0 : Int) (@Arr.cons Int (3 : Nat) (0 : Int) (@Arr.cons Int (2 : Nat) (0 : Int) (@Arr.cons Int (1 : Nat) (0 : Int) (@Arr.cons Int (0 : Nat) (0 : Int) (@Arr.nil Int))))))))))))))))), @Unit.unit)))) fun (v2 : (Unit × ((Arr Int 16) × ((Arr Int 16) × Unit)))) =>
 some (v2.2.2.1)
theorem md4_words_S (N : Nat) (b0 : Arr (Int) 64) : (runK Go.Proofs.Tryd.prog (Ev25 N) 400 51 [(.arr 64 (.int .u8))] [(.arr 16 (.int .u32))] (b0, ())).run = md4_words N b0 := by kernel_rfl
noncomputable def Ev26 (N : Nat) : (R : Type) → Env R := Env.addFn (Ev25 N) 51 (fun R => fnK [(.arr 64 (.int .u8))] [(.arr 16 (.int .u32))] (fun c => md4_words N c.1))
theorem Ev26_ok (N : Nat) (R : Type) : EnvOK Go.Proofs.Tryd.prog (Ev26 N R) := EnvOK.addFn hmx (Ev25_ok N R) (Ev25_ok N _) (by kernel_rfl) (fun c => md4_words_S N c.1)
noncomputable def md4_mixed (N : Nat) (r0 : Int) (b1 : Int) (c2 : Int) (d3 : Int) : Option (Int) :=
 bif (decide (r0 = (0 : Int))) then
  some ((@Go.bits @Go.BinOp.or @Go.IntKind.u32 (@Go.bits @Go.BinOp.and @Go.IntKind.u32 b1 c2) (@Go.bits @Go.BinOp.and @Go.IntKind.u32 (@Go.bits @Go.BinOp.xor @Go.IntKind.u32 (@ite Int (@Eq Bool (@Go.IntKind.signed @Go.IntKind.u32) @Bool.true) (@instDecidableEqBool (@Go.IntKind.signed @Go.IntKind.u32) @Bool.true) (-1 : Int) (@Go.IntKind.max @Go.IntKind.u32)) b1) d3)))
 else
  bif (decide (r0 = (1 : Int))) then
   some ((@Go.bits @Go.BinOp.or @Go.IntKind.u32 (@Go.bits @Go.BinOp.or @Go.IntKind.u32 (@Go.bits @Go.BinOp.and @Go.IntKind.u32 b1 c2) (@Go.bits @Go.BinOp.and @Go.IntKind.u32 b1 d3)) (@Go.bits @Go.BinOp.and @Go.IntKind.u32 c2 d3)))
  else
   some ((@Go.bits @Go.BinOp.xor @Go.IntKind.u32 (@Go.bits @Go.BinOp.xor @Go.IntKind.u32 b1 c2) d3))
theorem md4_mixed_S (N : Nat) (r0 : Int) (b1 : Int) (c2 : Int) (d3 : Int) : (runK Go.Proofs.Tryd.prog (Ev26 N) 400 52 [(.int .i64), (.int .u32), (.int .u32), (.int .u32)] [(.int .u32)] (r0, b1, c2, d3, ())).run = md4_mixed N r0 b1 c2 d3 := by kernel_rfl
noncomputable def Ev27 (N : Nat) : (R : Type) → Env R := Env.addFn (Ev26 N) 52 (fun R => fnK [(.int .i64), (.int .u32), (.int .u32), (.int .u32)] [(.int .u32)] (fun c => md4_mixed N c.1 c.2.1 c.2.2.1 c.2.2.2.1))
theorem Ev27_ok (N : Nat) (R : Type) : EnvOK Go.Proofs.Tryd.prog (Ev27 N R) := EnvOK.addFn hmx (Ev26_ok N R) (Ev26_ok N _) (by kernel_rfl) (fun c => md4_mixed_S N c.1 c.2.1 c.2.2.1 c.2.2.2.1)
noncomputable def md4_place (N : Nat) (i0 : Int) : Option (Int) :=
 bif (decide ((Go.IntKind.wrap .i64 (@Int.tdiv i0 (16 : Int))) = (0 : Int))) then
  some ((@Int.tmod i0 (16 : Int)))
 else
  bif (decide ((Go.IntKind.wrap .i64 (@Int.tdiv i0 (16 : Int))) = (1 : Int))) then
   some ((Go.IntKind.wrap .i64 ((Go.IntKind.wrap .i64 ((4 : Int) * (@Int.tmod (@Int.tmod i0 (16 : Int)) (4 : Int)))) + (Go.IntKind.wrap .i64 (@Int.tdiv (@Int.tmod i0 (16 : Int)) (4 : Int))))))
  else
   Option.bind (getI ([(@OfNat.ofNat Int (0 : Nat) (@instOfNat (0 : Nat))), (@OfNat.ofNat Int (8 : Nat) (@instOfNat (8 : Nat))), (@OfNat.ofNat Int (4 : Nat) (@instOfNat (4 : Nat))), (@OfNat.ofNat Int (12 : Nat) (@instOfNat (12 : Nat))), (@OfNat.ofNat Int (2 : Nat) (@instOfNat (2 : Nat))), (@OfNat.ofNat Int (10 : Nat) (@instOfNat (10 : Nat))), (@OfNat.ofNat Int (6 : Nat) (@instOfNat (6 : Nat))), (@OfNat.ofNat Int (14 : Nat) (@instOfNat (14 : Nat))), (@OfNat.ofNat Int (1 : Nat) (@instOfNat (1 : Nat))), (@OfNat.ofNat Int (9 : Nat) (@instOfNat (9 : Nat))), (@OfNat.ofNat Int (5 : Nat) (@instOfNat (5 : Nat))), (@OfNat.ofNat Int (13 : Nat) (@instOfNat (13 : Nat))), (@OfNat.ofNat Int (3 : Nat) (@instOfNat (3 : Nat))), (@OfNat.ofNat Int (11 : Nat) (@instOfNat (11 : Nat))), (@OfNat.ofNat Int (7 : Nat) (@instOfNat (7 : Nat))), (@OfNat.ofNat Int (15 : Nat) (@instOfNat (15 : Nat)))] : List (Int)) (@Int.tmod i0 (16 : Int))) fun (v2 : Int) =>
   some (v2)
theorem md4_place_S (N : Nat) (i0 : Int) : (runK Go.Proofs.Tryd.prog (Ev27 N) 400 53 [(.int .i64)] [(.int .i64)] (i0, ())).run = md4_place N i0 := by kernel_rfl
noncomputable def Ev28 (N : Nat) : (R : Type) → Env R := Env.addFn (Ev27 N) 53 (fun R => fnK [(.int .i64)] [(.int .i64)] (fun c => md4_place N c.1))
theorem Ev28_ok (N : Nat) (R : Type) : EnvOK Go.Proofs.Tryd.prog (Ev28 N R) := EnvOK.addFn hmx (Ev27_ok N R) (Ev27_ok N _) (by kernel_rfl) (fun c => md4_place_S N c.1)
noncomputable def math_bits_RotateLeft32 (N : Nat) (x0 : Int) (k1 : Int) : Option (Int) :=
 bif (decide ((0 : Int) ≤ (Go.IntKind.wrap .u64 ((32 : Int) - (@Go.bits @Go.BinOp.and @Go.IntKind.u64 (Go.IntKind.wrap .u64 k1) (31 : Int)))))) then
  some ((@Go.bits @Go.BinOp.or @Go.IntKind.u32 (Go.IntKind.wrap .u32 (x0 * (@HPow.hPow Int Nat Int (@instHPow Int Nat (@instPowNat Int @Int.instNatPow)) (2 : Int) (@Min.min Nat @instMinNat (Int.toNat (@Go.bits @Go.BinOp.and @Go.IntKind.u64 (Go.IntKind.wrap .u64 k1) (31 : Int))) (@Go.IntKind.bits @Go.IntKind.u32))))) (@Int.fdiv x0 (@HPow.hPow Int Nat Int (@instHPow Int Nat (@instPowNat Int @Int.instNatPow)) (2 : Int) (@Min.min Nat @instMinNat (Int.toNat (Go.IntKind.wrap .u64 ((32 : Int) - (@Go.bits @Go.BinOp.and @Go.IntKind.u64 (Go.IntKind.wrap .u64 k1) (31 : Int))))) (@Go.IntKind.bits @Go.IntKind.u32))))))
 else
  none
theorem math_bits_RotateLeft32_S (N : Nat) (x0 : Int) (k1 : Int) : (runK Go.Proofs.Tryd.prog (Ev28 N) 400 45 [(.int .u32), (.int .i64)] [(.int .u32)] (x0, k1, ())).run = math_bits_RotateLeft32 N x0 k1 := by kernel_rfl
noncomputable def Ev29 (N : Nat) : (R : Type) → Env R := Env.addFn (Ev28 N) 45 (fun R => fnK [(.int .u32), (.int .i64)] [(.int .u32)] (fun c => math_bits_RotateLeft32 N c.1 c.2.1))
theorem Ev29_ok (N : Nat) (R : Type) : EnvOK Go.Proofs.Tryd.prog (Ev29 N R) := EnvOK.addFn hmx (Ev28_ok N R) (Ev28_ok N _) (by kernel_rfl) (fun c => math_bits_RotateLeft32_S N c.1 c.2.1)
noncomputable def md4_behind_L4_I : LI := ⟨70, 0, [], ⟨[(3, .adr (.arr 4 (.int .u32))), (5, .adr (.arr 3 (.int .u32))), (6, .lit (.box 0 0)), (7, .lit (.box 1 0)), (8, .lit (.box 2 0)), (16, .ty (.int .i64))], [.box 74 (.arr 4 (.int .u32)), .box 95 (.arr 16 (.int .u32)), .box 74 (.arr 4 (.int .u32))]⟩, [(.exit 0, ⟨[(3, .adr (.arr 4 (.int .u32))), (6, .lit (.box 0 0)), (8, .lit (.box 1 0))], [.box 74 (.arr 4 (.int .u32)), .box 74 (.arr 4 (.int .u32))]⟩)]⟩
noncomputable def md4_behind_L4 (N : Nat) (X : (((Arr (Int) 4) × ((Arr (Int) 3) × ((Int) × Unit))) × ((Arr (Int) 4) × ((Arr (Int) 16) × ((Arr (Int) 4) × Unit)))) → Option ((((Arr (Int) 4) × Unit) × ((Arr (Int) 4) × ((Arr (Int) 4) × Unit))))) (s3 : Arr (Int) 4) (k5 : Arr (Int) 3) (x16 : Int) (h0 : Arr (Int) 4) (h1 : Arr (Int) 16) (h2 : Arr (Int) 4) : Option ((((Arr (Int) 4) × Unit) × ((Arr (Int) 4) × ((Arr (Int) 4) × Unit)))) :=
 bif (decide (x16 < (48 : Int))) then
  Option.bind (@GetElem?.getElem? (List Int) Nat Int (fun (as8 : (List Int)) => (fun (i9 : Nat) => (@LT.lt Nat @instLTNat i9 (List.length as8)))) (@List.instGetElem?NatLtLength Int) h2.l (Int.toNat (0 : Int))) fun (v8 : Int) =>
  Option.bind (@GetElem?.getElem? (List Int) Nat Int (fun (as9 : (List Int)) => (fun (i10 : Nat) => (@LT.lt Nat @instLTNat i10 (List.length as9)))) (@List.instGetElem?NatLtLength Int) h2.l (Int.toNat (1 : Int))) fun (v9 : Int) =>
  Option.bind (@GetElem?.getElem? (List Int) Nat Int (fun (as10 : (List Int)) => (fun (i11 : Nat) => (@LT.lt Nat @instLTNat i11 (List.length as10)))) (@List.instGetElem?NatLtLength Int) h2.l (Int.toNat (2 : Int))) fun (v10 : Int) =>
  Option.bind (@GetElem?.getElem? (List Int) Nat Int (fun (as11 : (List Int)) => (fun (i12 : Nat) => (@LT.lt Nat @instLTNat i12 (List.length as11)))) (@List.instGetElem?NatLtLength Int) h2.l (Int.toNat (3 : Int))) fun (v11 : Int) =>
  Option.bind (@md4_mixed N (Go.IntKind.wrap .i64 (@Int.tdiv x16 (16 : Int))) v9 v10 v11) fun (v12 : Int) =>
  Option.bind (@md4_place N x16) fun (v13 : Int) =>
  bif (decide ((0 : Int) ≤ v13 ∧ v13 < (((16 : Nat) : Nat) : Int))) then
   Option.bind (@GetElem?.getElem? (List Int) Nat Int (fun (as14 : (List Int)) => (fun (i15 : Nat) => (@LT.lt Nat @instLTNat i15 (List.length as14)))) (@List.instGetElem?NatLtLength Int) h1.l (Int.toNat v13)) fun (v14 : Int) =>
   Option.bind (getI k5.l (Go.IntKind.wrap .i64 (@Int.tdiv x16 (16 : Int)))) fun (v15 : Int) =>
   Option.bind (@GetElem?.getElem? (List Int) Nat Int (fun (as16 : (List Int)) => (fun (i17 : Nat) => (@LT.lt Nat @instLTNat i17 (List.length as16)))) (@List.instGetElem?NatLtLength Int) h2.l (Int.toNat (3 : Int))) fun (v16 : Int) =>
   Option.bind (getI ([(@Arr.mk Int (4 : Nat) ([(@OfNat.ofNat Int (3 : Nat) (@instOfNat (3 : Nat))), (@OfNat.ofNat Int (7 : Nat) (@instOfNat (7 : Nat))), (@OfNat.ofNat Int (11 : Nat) (@instOfNat (11 : Nat))), (@OfNat.ofNat Int (19 : Nat) (@instOfNat (19 : Nat)))] : List (Int)) @globVs._proof_2), (@Arr.mk Int (4 : Nat) ([(@OfNat.ofNat Int (3 : Nat) (@instOfNat (3 : Nat))), (@OfNat.ofNat Int (5 : Nat) (@instOfNat (5 : Nat))), (@OfNat.ofNat Int (9 : Nat) (@instOfNat (9 : Nat))), (@OfNat.ofNat Int (13 : Nat) (@instOfNat (13 : Nat)))] : List (Int)) @globVs._proof_3), (@Arr.mk Int (4 : Nat) ([(@OfNat.ofNat Int (3 : Nat) (@instOfNat (3 : Nat))), (@OfNat.ofNat Int (9 : Nat) (@instOfNat (9 : Nat))), (@OfNat.ofNat Int (11 : Nat) (@instOfNat (11 : Nat))), (@OfNat.ofNat Int (15 : Nat) (@instOfNat (15 : Nat)))] : List (Int)) @globVs._proof_4)] : List ((Arr Int 4))) (Go.IntKind.wrap .i64 (@Int.tdiv x16 (16 : Int)))) fun (v17 : (Arr Int 4)) =>
   Option.bind (getI v17.l (@Int.tmod x16 (4 : Int))) fun (v18 : Int) =>
   Option.bind (@math_bits_RotateLeft32 N (Go.IntKind.wrap .u32 ((Go.IntKind.wrap .u32 ((Go.IntKind.wrap .u32 (v8 + v12)) + v14)) + v15)) v18) fun (v19 : Int) =>
   Option.bind (@GetElem?.getElem? (List Int) Nat Int (fun (as20 : (List Int)) => (fun (i21 : Nat) => (@LT.lt Nat @instLTNat i21 (List.length as20)))) (@List.instGetElem?NatLtLength Int) h2.l (Int.toNat (1 : Int))) fun (v20 : Int) =>
   Option.bind (@GetElem?.getElem? (List Int) Nat Int (fun (as21 : (List Int)) => (fun (i22 : Nat) => (@LT.lt Nat @instLTNat i22 (List.length as21)))) (@List.instGetElem?NatLtLength Int) h2.l (Int.toNat (2 : Int))) fun (v21 : Int) =>
   (X ((s3, (k5, ((Go.IntKind.wrap .i64 (x16 + (1 : Int))), @Unit.unit))), (h0, (h1, ((@Arr.cons Int (3 : Nat) v16 (@Arr.cons Int (2 : Nat) v19 (@Arr.cons Int (1 : Nat) v20 (@Arr.cons Int (0 : Nat) v21 (@Arr.nil Int))))), @Unit.unit)))))
  else
   none
 else
  some (((s3, @Unit.unit), (h0, (h2, @Unit.unit))))
noncomputable def md4_behind_L4_R (N : Nat) (c : (((Arr (Int) 4) × ((Arr (Int) 3) × ((Int) × Unit))) × ((Arr (Int) 4) × ((Arr (Int) 16) × ((Arr (Int) 4) × Unit))))) : Option ((((Arr (Int) 4) × Unit) × ((Arr (Int) 4) × ((Arr (Int) 4) × Unit)))) := gl (fun X c => md4_behind_L4 N X c.1.1 c.1.2.1 c.1.2.2.1 c.2.1 c.2.2.1 c.2.2.2.1) N c
theorem md4_behind_L4_S (N : Nat) (X : (((Arr (Int) 4) × ((Arr (Int) 3) × ((Int) × Unit))) × ((Arr (Int) 4) × ((Arr (Int) 16) × ((Arr (Int) 4) × Unit)))) → Option ((((Arr (Int) 4) × Unit) × ((Arr (Int) 4) × ((Arr (Int) 4) × Unit))))) (s3 : Arr (Int) 4) (k5 : Arr (Int) 3) (x16 : Int) (h0 : Arr (Int) 4) (h1 : Arr (Int) 16) (h2 : Arr (Int) 4) : (roundK Go.Proofs.Tryd.prog (Ev29 N) 400 [36] md4_behind_L4_I (loopAt Go.Proofs.Tryd.prog [36] 4) X ((s3, k5, x16, ()), (h0, h1, h2, ()))).run = md4_behind_L4 N X s3 k5 x16 h0 h1 h2 := by kernel_rfl
noncomputable def Ev30 (N : Nat) : (R : Type) → Env R := Env.addLp (Ev29 N) [36] 0 4 (fun R => lpK Go.Proofs.Tryd.prog md4_behind_L4_I (fun X c => md4_behind_L4 N X c.1.1 c.1.2.1 c.1.2.2.1 c.2.1 c.2.2.1 c.2.2.2.1) N)
theorem Ev30_ok (N : Nat) (R : Type) : EnvOK Go.Proofs.Tryd.prog (Ev30 N R) := EnvOK.addLp (Ev29_ok N R) (by kernel_rfl) (lpK_ok (li := md4_behind_L4_I) (G := fun X c => md4_behind_L4 N X c.1.1 c.1.2.1 c.1.2.2.1 c.2.1 c.2.2.1 c.2.2.2.1) hmx (Ev29_ok N _) (by kernel_rfl) loopAt_sub (fun (X : CT md4_behind_L4_I.sh → Option (OT md4_behind_L4_I.outs)) (c : CT md4_behind_L4_I.sh) => md4_behind_L4_S N X c.1.1 c.1.2.1 c.1.2.2.1 c.2.1 c.2.2.1 c.2.2.2.1) N)
noncomputable def md4_behind_L11_I : LI := ⟨70, 0, [], ⟨[(3, .adr (.arr 4 (.int .u32))), (6, .lit (.box 0 0)), (8, .lit (.box 1 0)), (57, .ty (.int .i64))], [.box 74 (.arr 4 (.int .u32)), .box 74 (.arr 4 (.int .u32))]⟩, [(.exit 2, ⟨[(6, .lit (.box 0 0)), (8, .lit (.box 1 0))], [.box 74 (.arr 4 (.int .u32)), .box 74 (.arr 4 (.int .u32))]⟩)]⟩
noncomputable def md4_behind_L11 (N : Nat) (X : (((Arr (Int) 4) × ((Int) × Unit)) × ((Arr (Int) 4) × ((Arr (Int) 4) × Unit))) → Option ((Unit × ((Arr (Int) 4) × ((Arr (Int) 4) × Unit))))) (s3 : Arr (Int) 4) (x57 : Int) (h0 : Arr (Int) 4) (h1 : Arr (Int) 4) : Option ((Unit × ((Arr (Int) 4) × ((Arr (Int) 4) × Unit)))) :=
 bif (decide (x57 < (4 : Int))) then
  bif (decide ((0 : Int) ≤ x57 ∧ x57 < (((4 : Nat) : Nat) : Int))) then
   Option.bind (@GetElem?.getElem? (List Int) Nat Int (fun (as6 : (List Int)) => (fun (i7 : Nat) => (@LT.lt Nat @instLTNat i7 (List.length as6)))) (@List.instGetElem?NatLtLength Int) h1.l (Int.toNat x57)) fun (v6 : Int) =>
   Option.bind (getI s3.l x57) fun (v7 : Int) =>
   bif (decide ((0 : Int) ≤ x57 ∧ x57 < (((4 : Nat) : Nat) : Int))) then
    Option.bind (@GetElem?.getElem? (List Int) Nat Int (fun (as8 : (List Int)) => (fun (i9 : Nat) => (@LT.lt Nat @instLTNat i9 (List.length as8)))) (@List.instGetElem?NatLtLength Int) h1.l (Int.toNat x57)) fun (v8 : Int) =>
    (X ((s3, ((Go.IntKind.wrap .i64 (x57 + (1 : Int))), @Unit.unit)), (h0, ((h1.set (Int.toNat x57) (Go.IntKind.wrap .u32 (v6 + v7))), @Unit.unit))))
   else
    none
  else
   none
 else
  some ((@Unit.unit, (h0, (h1, @Unit.unit))))
noncomputable def md4_behind_L11_R (N : Nat) (c : (((Arr (Int) 4) × ((Int) × Unit)) × ((Arr (Int) 4) × ((Arr (Int) 4) × Unit)))) : Option ((Unit × ((Arr (Int) 4) × ((Arr (Int) 4) × Unit)))) := gl (fun X c => md4_behind_L11 N X c.1.1 c.1.2.1 c.2.1 c.2.2.1) N c
theorem md4_behind_L11_S (N : Nat) (X : (((Arr (Int) 4) × ((Int) × Unit)) × ((Arr (Int) 4) × ((Arr (Int) 4) × Unit))) → Option ((Unit × ((Arr (Int) 4) × ((Arr (Int) 4) × Unit))))) (s3 : Arr (Int) 4) (x57 : Int) (h0 : Arr (Int) 4) (h1 : Arr (Int) 4) : (roundK Go.Proofs.Tryd.prog (Ev30 N) 400 [36] md4_behind_L11_I (loopAt Go.Proofs.Tryd.prog [36] 11) X ((s3, x57, ()), (h0, h1, ()))).run = md4_behind_L11 N X s3 x57 h0 h1 := by kernel_rfl
noncomputable def Ev31 (N : Nat) : (R : Type) → Env R := Env.addLp (Ev30 N) [36] 0 11 (fun R => lpK Go.Proofs.Tryd.prog md4_behind_L11_I (fun X c => md4_behind_L11 N X c.1.1 c.1.2.1 c.2.1 c.2.2.1) N)
theorem Ev31_ok (N : Nat) (R : Type) : EnvOK Go.Proofs.Tryd.prog (Ev31 N R) := EnvOK.addLp (Ev30_ok N R) (by kernel_rfl) (lpK_ok (li := md4_behind_L11_I) (G := fun X c => md4_behind_L11 N X c.1.1 c.1.2.1 c.2.1 c.2.2.1) hmx (Ev30_ok N _) (by kernel_rfl) loopAt_sub (fun (X : CT md4_behind_L11_I.sh → Option (OT md4_behind_L11_I.outs)) (c : CT md4_behind_L11_I.sh) => md4_behind_L11_S N X c.1.1 c.1.2.1 c.2.1 c.2.2.1) N)
noncomputable def md4_behind (N : Nat) (s0 : Arr (Int) 4) (b1 : Arr (Int) 64) (k2 : Arr (Int) 3) : Option (Arr (Int) 4) :=
 Option.bind (@md4_words N b1) fun (v4 : (Arr Int 16)) =>
 Option.bind (md4_behind_L4_R N ((s0, (k2, ((0 : Int), @Unit.unit))), ((@Arr.cons Int (3 : Nat) (0 : Int) (@Arr.cons Int (2 : Nat) (0 : Int) (@Arr.cons Int (1 : Nat) (0 : Int) (@Arr.cons Int (0 : Nat) (0 : Int) (@Arr.nil Int))))), (v4, (s0, @Unit.unit))))) fun (v5 : (((Arr Int 4) × Unit) × ((Arr Int 4) × ((Arr Int 4) × Unit)))) =>
 Option.bind (md4_behind_L11_R N ((v5.1.1, ((0 : Int), @Unit.unit)), (v5.2.1, (v5.2.2.1, @Unit.unit)))) fun (v6 : (Unit × ((Arr Int 4) × ((Arr Int 4) × Unit)))) =>
 some (v6.2.2.1)
theorem md4_behind_S (N : Nat) (s0 : Arr (Int) 4) (b1 : Arr (Int) 64) (k2 : Arr (Int) 3) : (runK Go.Proofs.Tryd.prog (Ev31 N) 400 36 [(.arr 4 (.int .u32)), (.arr 64 (.int .u8)), (.arr 3 (.int .u32))] [(.arr 4 (.int .u32))] (s0, b1, k2, ())).run = md4_behind N s0 b1 k2 := by kernel_rfl
noncomputable def Ev32 (N : Nat) : (R : Type) → Env R := Env.addFn (Ev31 N) 36 (fun R => fnK [(.arr 4 (.int .u32)), (.arr 64 (.int .u8)), (.arr 3 (.int .u32))] [(.arr 4 (.int .u32))] (fun c => md4_behind N c.1 c.2.1 c.2.2.1))
theorem Ev32_ok (N : Nat) (R : Type) : EnvOK Go.Proofs.Tryd.prog (Ev32 N R) := EnvOK.addFn hmx (Ev31_ok N R) (Ev31_ok N _) (by kernel_rfl) (fun c => md4_behind_S N c.1 c.2.1 c.2.2.1)
noncomputable def md4_Of_L5_I : LI := ⟨35, 0, [], ⟨[(2, .lit (.box 0 0)), (3, .ty (.sl (.int .u8))), (4, .lit (.box 1 0)), (5, .lit (.box 2 0)), (6, .ty (.int .i64))], [.box 22 (.arr 16 (.int .u8)), .box 74 (.arr 4 (.int .u32)), .box 76 (.arr 3 (.int .u32))]⟩, [(.exit 0, ⟨[(2, .lit (.box 0 0)), (4, .lit (.box 1 0))], [.box 22 (.arr 16 (.int .u8)), .box 74 (.arr 4 (.int .u32))]⟩)]⟩
noncomputable def md4_Of_L5 (N : Nat) (X : (((List (Int)) × ((Int) × Unit)) × ((Arr (Int) 16) × ((Arr (Int) 4) × ((Arr (Int) 3) × Unit)))) → Option ((Unit × ((Arr (Int) 16) × ((Arr (Int) 4) × Unit))))) (all3 : List (Int)) (i6 : Int) (h0 : Arr (Int) 16) (h1 : Arr (Int) 4) (h2 : Arr (Int) 3) : Option ((Unit × ((Arr (Int) 16) × ((Arr (Int) 4) × Unit)))) :=
 bif (decide (i6 < (((List.length all3) : Nat) : Int))) then
  Option.bind (subI all3 i6 (Go.IntKind.wrap .i64 (i6 + (64 : Int)))) fun (v7 : (List Int)) =>
  Option.bind (@toArr Int (64 : Nat) v7) fun (v8 : (Arr Int 64)) =>
  Option.bind (@md4_behind N h1 v8 h2) fun (v9 : (Arr Int 4)) =>
  (X ((all3, ((Go.IntKind.wrap .i64 (i6 + (64 : Int))), @Unit.unit)), (h0, (v9, (h2, @Unit.unit)))))
 else
  some ((@Unit.unit, (h0, (h1, @Unit.unit))))
noncomputable def md4_Of_L5_R (N : Nat) (c : (((List (Int)) × ((Int) × Unit)) × ((Arr (Int) 16) × ((Arr (Int) 4) × ((Arr (Int) 3) × Unit))))) : Option ((Unit × ((Arr (Int) 16) × ((Arr (Int) 4) × Unit)))) := gl (fun X c => md4_Of_L5 N X c.1.1 c.1.2.1 c.2.1 c.2.2.1 c.2.2.2.1) N c
theorem md4_Of_L5_S (N : Nat) (X : (((List (Int)) × ((Int) × Unit)) × ((Arr (Int) 16) × ((Arr (Int) 4) × ((Arr (Int) 3) × Unit)))) → Option ((Unit × ((Arr (Int) 16) × ((Arr (Int) 4) × Unit))))) (all3 : List (Int)) (i6 : Int) (h0 : Arr (Int) 16) (h1 : Arr (Int) 4) (h2 : Arr (Int) 3) : (roundK Go.Proofs.Tryd.prog (Ev32 N) 400 [21] md4_Of_L5_I (loopAt Go.Proofs.Tryd.prog [21] 5) X ((all3, i6, ()), (h0, h1, h2, ()))).run = md4_Of_L5 N X all3 i6 h0 h1 h2 := by kernel_rfl
noncomputable def Ev33 (N : Nat) : (R : Type) → Env R := Env.addLp (Ev32 N) [21] 0 5 (fun R => lpK Go.Proofs.Tryd.prog md4_Of_L5_I (fun X c => md4_Of_L5 N X c.1.1 c.1.2.1 c.2.1 c.2.2.1 c.2.2.2.1) N)
theorem Ev33_ok (N : Nat) (R : Type) : EnvOK Go.Proofs.Tryd.prog (Ev33 N R) := EnvOK.addLp (Ev32_ok N R) (by kernel_rfl) (lpK_ok (li := md4_Of_L5_I) (G := fun X c => md4_Of_L5 N X c.1.1 c.1.2.1 c.2.1 c.2.2.1 c.2.2.2.1) hmx (Ev32_ok N _) (by kernel_rfl) loopAt_sub (fun (X : CT md4_Of_L5_I.sh → Option (OT md4_Of_L5_I.outs)) (c : CT md4_Of_L5_I.sh) => md4_Of_L5_S N X c.1.1 c.1.2.1 c.2.1 c.2.2.1 c.2.2.2.1) N)
noncomputable def Ev34 (N : Nat) : (R : Type) → Env R := Env.addBx (Ev33 N) [(37, 0)]
theorem Ev34_ok (N : Nat) (R : Type) : EnvOK Go.Proofs.Tryd.prog (Ev34 N R) := EnvOK.addBx (Ev33_ok N R) [(37, 0)]
noncomputable def md4_digest_L3_I : LI := ⟨25, 0, [(3, 5)], ⟨[(2, .lit (.box 0 0)), (3, .lit (.own 1)), (8, .ty (.arr 4 (.int .u32))), (9, .ty (.int .i64))], [.box 22 (.arr 16 (.int .u8)), .own (.int .u8) 5]⟩, [(.exit 0, ⟨[(2, .lit (.box 0 0)), (3, .lit (.own 1))], [.box 22 (.arr 16 (.int .u8)), .own (.int .u8) 5]⟩)]⟩
noncomputable def md4_digest_L3 (N : Nat) (X : (((Arr (Int) 4) × ((Int) × Unit)) × ((Arr (Int) 16) × ((List (Int)) × Unit))) → Option ((Unit × ((Arr (Int) 16) × ((List (Int)) × Unit))))) (x8 : Arr (Int) 4) (x9 : Int) (h0 : Arr (Int) 16) (h1 : List (Int)) : Option ((Unit × ((Arr (Int) 16) × ((List (Int)) × Unit)))) :=
 bif (decide (x9 < (4 : Int))) then
  Option.bind (getI x8.l x9) fun (v6 : Int) =>
  Option.bind (@octs_Put N (Go.IntKind.wrap .u64 v6) (4 : Int) @Bool.true) fun (v7 : ((List Int) × Int)) =>
  bif (roomB ((List.length h1) + (List.length v7.1)) 1) then
   (X ((x8, ((Go.IntKind.wrap .i64 (x9 + (1 : Int))), @Unit.unit)), (h0, ((h1 ++ v7.1), @Unit.unit))))
  else
   none
 else
  some ((@Unit.unit, (h0, (h1, @Unit.unit))))
noncomputable def md4_digest_L3_R (N : Nat) (c : (((Arr (Int) 4) × ((Int) × Unit)) × ((Arr (Int) 16) × ((List (Int)) × Unit)))) : Option ((Unit × ((Arr (Int) 16) × ((List (Int)) × Unit)))) := gl (fun X c => md4_digest_L3 N X c.1.1 c.1.2.1 c.2.1 c.2.2.1) N c
theorem md4_digest_L3_S (N : Nat) (X : (((Arr (Int) 4) × ((Int) × Unit)) × ((Arr (Int) 16) × ((List (Int)) × Unit))) → Option ((Unit × ((Arr (Int) 16) × ((List (Int)) × Unit))))) (x8 : Arr (Int) 4) (x9 : Int) (h0 : Arr (Int) 16) (h1 : List (Int)) : (roundK Go.Proofs.Tryd.prog (Ev34 N) 400 [37] md4_digest_L3_I (loopAt Go.Proofs.Tryd.prog [37] 3) X ((x8, x9, ()), (h0, h1, ()))).run = md4_digest_L3 N X x8 x9 h0 h1 := by kernel_rfl
noncomputable def Ev35 (N : Nat) : (R : Type) → Env R := Env.addLp (Ev34 N) [37] 0 3 (fun R => lpK Go.Proofs.Tryd.prog md4_digest_L3_I (fun X c => md4_digest_L3 N X c.1.1 c.1.2.1 c.2.1 c.2.2.1) N)
theorem Ev35_ok (N : Nat) (R : Type) : EnvOK Go.Proofs.Tryd.prog (Ev35 N R) := EnvOK.addLp (Ev34_ok N R) (by kernel_rfl) (lpK_ok (li := md4_digest_L3_I) (G := fun X c => md4_digest_L3 N X c.1.1 c.1.2.1 c.2.1 c.2.2.1) hmx (Ev34_ok N _) (by kernel_rfl) loopAt_sub (fun (X : CT md4_digest_L3_I.sh → Option (OT md4_digest_L3_I.outs)) (c : CT md4_digest_L3_I.sh) => md4_digest_L3_S N X c.1.1 c.1.2.1 c.2.1 c.2.2.1) N)
noncomputable def md4_digest (N : Nat) (s0 : Arr (Int) 4) : Option (Arr (Int) 16) :=
 Option.bind (md4_digest_L3_R N ((s0, ((0 : Int), @Unit.unit)), ((@Arr.cons Int (15 : Nat) (0 : Int) (@Arr.cons Int (14 : Nat) (0 : Int) (@Arr.cons Int (13 : Nat) (0 : Int) (@Arr.cons Int (12 : Nat) (0 : Int) (@Arr.cons Int (11 : Nat) (0 : Int) (@Arr.cons Int (10 : Nat) (0 : Int) (@Arr.cons Int (9 : Nat) (0 : Int) (@Arr.cons Int (8 : Nat) (0 : Int) (@Arr.cons Int (7 : Nat) (0 : Int) (@Arr.cons Int (6 : Nat) (0 : Int) (@Arr.cons Int (5 : Nat) (0 : Int) (@Arr.cons Int (4 : Nat) (0 : Int) (@Arr.cons Int (3 : Nat) (0 : Int) (@Arr.cons Int (2 : Nat) (0 : Int) (@Arr.cons Int (1 : Nat) (0 : Int) (@Arr.cons Int (0 : Nat) (0 : Int) (@Arr.nil Int))))))))))))))))), (([] : List (Int)), @Unit.unit)))) fun (v2 : (Unit × ((Arr Int 16) × ((List Int) × Unit)))) =>
 Option.bind (@toArr Int (16 : Nat) v2.2.2.1) fun (v3 : (Arr Int 16)) =>
 some (v3)
theorem md4_digest_S (N : Nat) (s0 : Arr (Int) 4) : (runK Go.Proofs.Tryd.prog (Ev35 N) 400 37 [(.arr 4 (.int .u32))] [(.arr 16 (.int .u8))] (s0, ())).run = md4_digest N s0 := by kernel_rfl
noncomputable def Ev36 (N : Nat) : (R : Type) → Env R := Env.addFn (Ev35 N) 37 (fun R => fnK [(.arr 4 (.int .u32))] [(.arr 16 (.int .u8))] (fun c => md4_digest N c.1))
theorem Ev36_ok (N : Nat) (R : Type) : EnvOK Go.Proofs.Tryd.prog (Ev36 N R) := EnvOK.addFn hmx (Ev35_ok N R) (Ev35_ok N _) (by kernel_rfl) (fun c => md4_digest_S N c.1)
noncomputable def md4_Of (N : Nat) (parts0 : List (List (Int))) : Option (Arr (Int) 16) :=
 Option.bind (md4_Of_1_octs_Join_L3_R N ((parts0, ((0 : Int), (parts0, ((((List.length parts0) : Nat) : Int), ((0 : Int), @Unit.unit))))), ((@Arr.cons Int (15 : Nat) (0 : Int) (@Arr.cons Int (14 : Nat) (0 : Int) (@Arr.cons Int (13 : Nat) (0 : Int) (@Arr.cons Int (12 : Nat) (0 : Int) (@Arr.cons Int (11 : Nat) (0 : Int) (@Arr.cons Int (10 : Nat) (0 : Int) (@Arr.cons Int (9 : Nat) (0 : Int) (@Arr.cons Int (8 : Nat) (0 : Int) (@Arr.cons Int (7 : Nat) (0 : Int) (@Arr.cons Int (6 : Nat) (0 : Int) (@Arr.cons Int (5 : Nat) (0 : Int) (@Arr.cons Int (4 : Nat) (0 : Int) (@Arr.cons Int (3 : Nat) (0 : Int) (@Arr.cons Int (2 : Nat) (0 : Int) (@Arr.cons Int (1 : Nat) (0 : Int) (@Arr.cons Int (0 : Nat) (0 : Int) (@Arr.nil Int))))))))))))))))), @Unit.unit))) fun (v2 : (((List (List Int)) × (Int × Unit)) × ((Arr Int 16) × Unit))) =>
 bif ((decide ((0 : Int) ≤ (0 : Int) ∧ (0 : Int) ≤ v2.1.2.1)) && (roomB (Int.toNat v2.1.2.1) 1)) then
  Option.bind (md4_Of_1_octs_Join_L9_R N ((v2.1.1, ((((List.length v2.1.1) : Nat) : Int), ((0 : Int), @Unit.unit))), (v2.2.1, ((@List.replicate Int (Int.toNat (0 : Int)) (0 : Int)), @Unit.unit)))) fun (v3 : (Unit × ((Arr Int 16) × ((List Int) × Unit)))) =>
  Option.bind (@md4_Tail N (Go.IntKind.wrap .u64 (((List.length v3.2.2.1) : Nat) : Int))) fun (v4 : (List Int)) =>
  bif (roomB ((List.length v3.2.2.1) + (List.length v4)) 1) then
   Option.bind (@md4_constants N) fun (v5 : (Arr Int 3)) =>
   Option.bind (md4_Of_L5_R N (((v3.2.2.1 ++ v4), ((0 : Int), @Unit.unit)), (v3.2.1, ((@Arr.cons Int (3 : Nat) (1732584193 : Int) (@Arr.cons Int (2 : Nat) (4023233417 : Int) (@Arr.cons Int (1 : Nat) (2562383102 : Int) (@Arr.cons Int (0 : Nat) (271733878 : Int) (@Arr.nil Int))))), (v5, @Unit.unit))))) fun (v6 : (Unit × ((Arr Int 16) × ((Arr Int 4) × Unit)))) =>
   Option.bind (@md4_digest N v6.2.2.1) fun (v7 : (Arr Int 16)) =>
   some (v7)
  else
   none
 else
  none
theorem md4_Of_S (N : Nat) (parts0 : List (List (Int))) : (runK Go.Proofs.Tryd.prog (Ev36 N) 400 21 [(.sl (.sl (.int .u8)))] [(.arr 16 (.int .u8))] (parts0, ())).run = md4_Of N parts0 := by kernel_rfl
theorem md4_Of_C (N : Nat) (parts0 : List (List (Int))) (y : Arr (Int) 16) (h : md4_Of N parts0 = some y) : CallsK Go.Proofs.Tryd.prog 21 (valA [(.sl (.sl (.int .u8)))] (parts0, ())) (tupV (valR [(.arr 16 (.int .u8))] y)) := runK_ok hmx (Ev36_ok N _) (okFn_ok (by kernel_rfl)) (by rw [md4_Of_S]; exact h)
noncomputable def Ev37 (N : Nat) : (R : Type) → Env R := Env.addFn (Ev36 N) 21 (fun R => fnK [(.sl (.sl (.int .u8)))] [(.arr 16 (.int .u8))] (fun c => md4_Of N c.1))
theorem Ev37_ok (N : Nat) (R : Type) : EnvOK Go.Proofs.Tryd.prog (Ev37 N R) := EnvOK.addFn hmx (Ev36_ok N R) (Ev36_ok N _) (by kernel_rfl) (fun c => md4_Of_S N c.1)
noncomputable def sha1_Tail_3_octs_Join_L3_I : LI := ⟨33, 1, [], ⟨[(0, .ty (.sl (.sl (.int .u8)))), (3, .ty (.int .i64)), (9, .ty (.sl (.sl (.int .u8)))), (10, .ty (.int .i64)), (11, .ty (.int .i64))], [.dead]⟩, [(.exit 0, ⟨[(0, .ty (.sl (.sl (.int .u8)))), (3, .ty (.int .i64))], [.dead]⟩)]⟩
noncomputable def sha1_Tail_3_octs_Join_L3 (N : Nat) (X : (((List (List (Int))) × ((Int) × ((List (List (Int))) × ((Int) × ((Int) × Unit))))) × Unit) → Option ((((List (List (Int))) × ((Int) × Unit)) × Unit))) (parts0 : List (List (Int))) (size3 : Int) (x9 : List (List (Int))) (x10 : Int) (x11 : Int) : Option ((((List (List (Int))) × ((Int) × Unit)) × Unit)) :=
 bif (decide (x11 < x10)) then
  Option.bind (getI x9 x11) fun (v7 : (List Int)) =>
  (X ((parts0, ((Go.IntKind.wrap .i64 (size3 + (((List.length v7) : Nat) : Int))), (x9, (x10, ((Go.IntKind.wrap .i64 (x11 + (1 : Int))), @Unit.unit))))), @Unit.unit))
 else
  some (((parts0, (size3, @Unit.unit)), @Unit.unit))
noncomputable def sha1_Tail_3_octs_Join_L3_R (N : Nat) (c : (((List (List (Int))) × ((Int) × ((List (List (Int))) × ((Int) × ((Int) × Unit))))) × Unit)) : Option ((((List (List (Int))) × ((Int) × Unit)) × Unit)) := gl (fun X c => sha1_Tail_3_octs_Join_L3 N X c.1.1 c.1.2.1 c.1.2.2.1 c.1.2.2.2.1 c.1.2.2.2.2.1) N c
theorem sha1_Tail_3_octs_Join_L3_S (N : Nat) (X : (((List (List (Int))) × ((Int) × ((List (List (Int))) × ((Int) × ((Int) × Unit))))) × Unit) → Option ((((List (List (Int))) × ((Int) × Unit)) × Unit))) (parts0 : List (List (Int))) (size3 : Int) (x9 : List (List (Int))) (x10 : Int) (x11 : Int) : (roundK Go.Proofs.Tryd.prog (Ev37 N) 400 [13, 3, 25] sha1_Tail_3_octs_Join_L3_I (loopAt Go.Proofs.Tryd.prog [13, 3, 25] 3) X ((parts0, size3, x9, x10, x11, ()), ())).run = sha1_Tail_3_octs_Join_L3 N X parts0 size3 x9 x10 x11 := by kernel_rfl
noncomputable def Ev38 (N : Nat) : (R : Type) → Env R := Env.addLp (Ev37 N) [13, 3, 25] 1 3 (fun R => lpK Go.Proofs.Tryd.prog sha1_Tail_3_octs_Join_L3_I (fun X c => sha1_Tail_3_octs_Join_L3 N X c.1.1 c.1.2.1 c.1.2.2.1 c.1.2.2.2.1 c.1.2.2.2.2.1) N)
theorem Ev38_ok (N : Nat) (R : Type) : EnvOK Go.Proofs.Tryd.prog (Ev38 N R) := EnvOK.addLp (Ev37_ok N R) (by kernel_rfl) (lpK_ok (li := sha1_Tail_3_octs_Join_L3_I) (G := fun X c => sha1_Tail_3_octs_Join_L3 N X c.1.1 c.1.2.1 c.1.2.2.1 c.1.2.2.2.1 c.1.2.2.2.2.1) hmx (Ev37_ok N _) (by kernel_rfl) loopAt_sub (fun (X : CT sha1_Tail_3_octs_Join_L3_I.sh → Option (OT sha1_Tail_3_octs_Join_L3_I.outs)) (c : CT sha1_Tail_3_octs_Join_L3_I.sh) => sha1_Tail_3_octs_Join_L3_S N X c.1.1 c.1.2.1 c.1.2.2.1 c.1.2.2.2.1 c.1.2.2.2.2.1) N)
noncomputable def sha1_Tail_3_octs_Join_L9_I : LI := ⟨33, 1, [], ⟨[(6, .lit (.own 1)), (22, .ty (.sl (.sl (.int .u8)))), (23, .ty (.int .i64)), (24, .ty (.int .i64))], [.dead, .own (.int .u8) 5]⟩, [(.exit 2, ⟨[(6, .lit (.own 1))], [.dead, .own (.int .u8) 5]⟩)]⟩
noncomputable def sha1_Tail_3_octs_Join_L9 (N : Nat) (X : (((List (List (Int))) × ((Int) × ((Int) × Unit))) × ((List (Int)) × Unit)) → Option ((Unit × ((List (Int)) × Unit)))) (x22 : List (List (Int))) (x23 : Int) (x24 : Int) (h0 : List (Int)) : Option ((Unit × ((List (Int)) × Unit))) :=
 bif (decide (x24 < x23)) then
  Option.bind (getI x22 x24) fun (v6 : (List Int)) =>
  bif (roomB ((List.length h0) + (List.length v6)) 1) then
   (X ((x22, (x23, ((Go.IntKind.wrap .i64 (x24 + (1 : Int))), @Unit.unit))), ((h0 ++ v6), @Unit.unit)))
  else
   none
 else
  some ((@Unit.unit, (h0, @Unit.unit)))
noncomputable def sha1_Tail_3_octs_Join_L9_R (N : Nat) (c : (((List (List (Int))) × ((Int) × ((Int) × Unit))) × ((List (Int)) × Unit))) : Option ((Unit × ((List (Int)) × Unit))) := gl (fun X c => sha1_Tail_3_octs_Join_L9 N X c.1.1 c.1.2.1 c.1.2.2.1 c.2.1) N c
theorem sha1_Tail_3_octs_Join_L9_S (N : Nat) (X : (((List (List (Int))) × ((Int) × ((Int) × Unit))) × ((List (Int)) × Unit)) → Option ((Unit × ((List (Int)) × Unit)))) (x22 : List (List (Int))) (x23 : Int) (x24 : Int) (h0 : List (Int)) : (roundK Go.Proofs.Tryd.prog (Ev38 N) 400 [13, 3, 25] sha1_Tail_3_octs_Join_L9_I (loopAt Go.Proofs.Tryd.prog [13, 3, 25] 9) X ((x22, x23, x24, ()), (h0, ()))).run = sha1_Tail_3_octs_Join_L9 N X x22 x23 x24 h0 := by kernel_rfl
noncomputable def Ev39 (N : Nat) : (R : Type) → Env R := Env.addLp (Ev38 N) [13, 3, 25] 1 9 (fun R => lpK Go.Proofs.Tryd.prog sha1_Tail_3_octs_Join_L9_I (fun X c => sha1_Tail_3_octs_Join_L9 N X c.1.1 c.1.2.1 c.1.2.2.1 c.2.1) N)
theorem Ev39_ok (N : Nat) (R : Type) : EnvOK Go.Proofs.Tryd.prog (Ev39 N R) := EnvOK.addLp (Ev38_ok N R) (by kernel_rfl) (lpK_ok (li := sha1_Tail_3_octs_Join_L9_I) (G := fun X c => sha1_Tail_3_octs_Join_L9 N X c.1.1 c.1.2.1 c.1.2.2.1 c.2.1) hmx (Ev38_ok N _) (by kernel_rfl) loopAt_sub (fun (X : CT sha1_Tail_3_octs_Join_L9_I.sh → Option (OT sha1_Tail_3_octs_Join_L9_I.outs)) (c : CT sha1_Tail_3_octs_Join_L9_I.sh) => sha1_Tail_3_octs_Join_L9_S N X c.1.1 c.1.2.1 c.1.2.2.1 c.2.1) N)
noncomputable def sha1_Tail (N : Nat) (n0 : Int) : Option (List (Int)) :=
 Option.bind (@octs_Put N (Go.IntKind.wrap .u64 ((8 : Int) * n0)) (8 : Int) @Bool.false) fun (v2 : ((List Int) × Int)) =>
 bif ((decide ((0 : Int) ≤ (@Int.tmod (Go.IntKind.wrap .u64 ((119 : Int) - (@Int.tmod n0 (64 : Int)))) (64 : Int)) ∧ (@Int.tmod (Go.IntKind.wrap .u64 ((119 : Int) - (@Int.tmod n0 (64 : Int)))) (64 : Int)) ≤ (@Int.tmod (Go.IntKind.wrap .u64 ((119 : Int) - (@Int.tmod n0 (64 : Int)))) (64 : Int)))) && (roomB (Int.toNat (@Int.tmod (Go.IntKind.wrap .u64 ((119 : Int) - (@Int.tmod n0 (64 : Int)))) (64 : Int))) 1)) then
  Option.bind (sha1_Tail_3_octs_Join_L3_R N ((([([(128 : Int)] : List (Int)), (@List.replicate Int (Int.toNat (@Int.tmod (Go.IntKind.wrap .u64 ((119 : Int) - (@Int.tmod n0 (64 : Int)))) (64 : Int))) (0 : Int)), v2.1] : List ((List Int))), ((0 : Int), (([([(128 : Int)] : List (Int)), (@List.replicate Int (Int.toNat (@Int.tmod (Go.IntKind.wrap .u64 ((119 : Int) - (@Int.tmod n0 (64 : Int)))) (64 : Int))) (0 : Int)), v2.1] : List ((List Int))), ((((List.length ([([(128 : Int)] : List (Int)), (@List.replicate Int (Int.toNat (@Int.tmod (Go.IntKind.wrap .u64 ((119 : Int) - (@Int.tmod n0 (64 : Int)))) (64 : Int))) (0 : Int)), v2.1] : List ((List Int)))) : Nat) : Int), ((0 : Int), @Unit.unit))))), @Unit.unit)) fun (v3 : (((List (List Int)) × (Int × Unit)) × Unit)) =>
  bif ((decide ((0 : Int) ≤ (0 : Int) ∧ (0 : Int) ≤ v3.1.2.1)) && (roomB (Int.toNat v3.1.2.1) 1)) then
   Option.bind (sha1_Tail_3_octs_Join_L9_R N ((v3.1.1, ((((List.length v3.1.1) : Nat) : Int), ((0 : Int), @Unit.unit))), ((@List.replicate Int (Int.toNat (0 : Int)) (0 : Int)), @Unit.unit))) fun (v4 : (Unit × ((List Int) × Unit))) =>
   some (v4.2.1)
  else
   none
 else
  none
theorem sha1_Tail_S (N : Nat) (n0 : Int) : (runK Go.Proofs.Tryd.prog (Ev39 N) 400 25 [(.int .u64)] [(.sl (.int .u8))] (n0, ())).run = sha1_Tail N n0 := by kernel_rfl
theorem sha1_Tail_C (N : Nat) (n0 : Int) (y : List (Int)) (h : sha1_Tail N n0 = some y) : CallsK Go.Proofs.Tryd.prog 25 (valA [(.int .u64)] (n0, ())) (tupV (valR [(.sl (.int .u8))] y)) := runK_ok hmx (Ev39_ok N _) (okFn_ok (by kernel_rfl)) (by rw [sha1_Tail_S]; exact h)
noncomputable def Ev40 (N : Nat) : (R : Type) → Env R := Env.addFn (Ev39 N) 25 (fun R => fnK [(.int .u64)] [(.sl (.int .u8))] (fun c => sha1_Tail N c.1))
theorem Ev40_ok (N : Nat) (R : Type) : EnvOK Go.Proofs.Tryd.prog (Ev40 N R) := EnvOK.addFn hmx (Ev39_ok N R) (Ev39_ok N _) (by kernel_rfl) (fun c => sha1_Tail_S N c.1)
noncomputable def sha1_First (N : Nat) : Option (Arr (Int) 5) :=
 some ((@Arr.cons Int (4 : Nat) (1732584193 : Int) (@Arr.cons Int (3 : Nat) (4023233417 : Int) (@Arr.cons Int (2 : Nat) (2562383102 : Int) (@Arr.cons Int (1 : Nat) (271733878 : Int) (@Arr.cons Int (0 : Nat) (3285377520 : Int) (@Arr.nil Int)))))))
theorem sha1_First_S (N : Nat) : (runK Go.Proofs.Tryd.prog (Ev40 N) 400 26 [] [(.arr 5 (.int .u32))] ()).run = sha1_First N  := by kernel_rfl
theorem sha1_First_C (N : Nat) (y : Arr (Int) 5) (h : sha1_First N  = some y) : CallsK Go.Proofs.Tryd.prog 26 (valA [] ()) (tupV (valR [(.arr 5 (.int .u32))] y)) := runK_ok hmx (Ev40_ok N _) (okFn_ok (by kernel_rfl)) (by rw [sha1_First_S]; exact h)
noncomputable def Ev41 (N : Nat) : (R : Type) → Env R := Env.addFn (Ev40 N) 26 (fun R => fnK [] [(.arr 5 (.int .u32))] (fun c => sha1_First N ))
theorem Ev41_ok (N : Nat) (R : Type) : EnvOK Go.Proofs.Tryd.prog (Ev41 N R) := EnvOK.addFn hmx (Ev40_ok N R) (Ev40_ok N _) (by kernel_rfl) (fun c => sha1_First_S N )
noncomputable def sha1_Of_1_octs_Join_L3_I : LI := ⟨33, 1, [], ⟨[(0, .ty (.sl (.sl (.int .u8)))), (3, .ty (.int .i64)), (9, .ty (.sl (.sl (.int .u8)))), (10, .ty (.int .i64)), (11, .ty (.int .i64))], [.box 45 (.arr 20 (.int .u8))]⟩, [(.exit 0, ⟨[(0, .ty (.sl (.sl (.int .u8)))), (3, .ty (.int .i64))], [.box 45 (.arr 20 (.int .u8))]⟩)]⟩
noncomputable def sha1_Of_1_octs_Join_L3 (N : Nat) (X : (((List (List (Int))) × ((Int) × ((List (List (Int))) × ((Int) × ((Int) × Unit))))) × ((Arr (Int) 20) × Unit)) → Option ((((List (List (Int))) × ((Int) × Unit)) × ((Arr (Int) 20) × Unit)))) (parts0 : List (List (Int))) (size3 : Int) (x9 : List (List (Int))) (x10 : Int) (x11 : Int) (h0 : Arr (Int) 20) : Option ((((List (List (Int))) × ((Int) × Unit)) × ((Arr (Int) 20) × Unit))) :=
 bif (decide (x11 < x10)) then
  Option.bind (getI x9 x11) fun (v8 : (List Int)) =>
  (X ((parts0, ((Go.IntKind.wrap .i64 (size3 + (((List.length v8) : Nat) : Int))), (x9, (x10, ((Go.IntKind.wrap .i64 (x11 + (1 : Int))), @Unit.unit))))), (h0, @Unit.unit)))
 else
  some (((parts0, (size3, @Unit.unit)), (h0, @Unit.unit)))
noncomputable def sha1_Of_1_octs_Join_L3_R (N : Nat) (c : (((List (List (Int))) × ((Int) × ((List (List (Int))) × ((Int) × ((Int) × Unit))))) × ((Arr (Int) 20) × Unit))) : Option ((((List (List (Int))) × ((Int) × Unit)) × ((Arr (Int) 20) × Unit))) := gl (fun X c => sha1_Of_1_octs_Join_L3 N X c.1.1 c.1.2.1 c.1.2.2.1 c.1.2.2.2.1 c.1.2.2.2.2.1 c.2.1) N c
theorem sha1_Of_1_octs_Join_L3_S (N : Nat) (X : (((List (List (Int))) × ((Int) × ((List (List (Int))) × ((Int) × ((Int) × Unit))))) × ((Arr (Int) 20) × Unit)) → Option ((((List (List (Int))) × ((Int) × Unit)) × ((Arr (Int) 20) × Unit)))) (parts0 : List (List (Int))) (size3 : Int) (x9 : List (List (Int))) (x10 : Int) (x11 : Int) (h0 : Arr (Int) 20) : (roundK Go.Proofs.Tryd.prog (Ev41 N) 400 [13, 1, 18] sha1_Of_1_octs_Join_L3_I (loopAt Go.Proofs.Tryd.prog [13, 1, 18] 3) X ((parts0, size3, x9, x10, x11, ()), (h0, ()))).run = sha1_Of_1_octs_Join_L3 N X parts0 size3 x9 x10 x11 h0 := by kernel_rfl
noncomputable def Ev42 (N : Nat) : (R : Type) → Env R := Env.addLp (Ev41 N) [13, 1, 18] 1 3 (fun R => lpK Go.Proofs.Tryd.prog sha1_Of_1_octs_Join_L3_I (fun X c => sha1_Of_1_octs_Join_L3 N X c.1.1 c.1.2.1 c.1.2.2.1 c.1.2.2.2.1 c.1.2.2.2.2.1 c.2.1) N)
theorem Ev42_ok (N : Nat) (R : Type) : EnvOK Go.Proofs.Tryd.prog (Ev42 N R) := EnvOK.addLp (Ev41_ok N R) (by kernel_rfl) (lpK_ok (li := sha1_Of_1_octs_Join_L3_I) (G := fun X c => sha1_Of_1_octs_Join_L3 N X c.1.1 c.1.2.1 c.1.2.2.1 c.1.2.2.2.1 c.1.2.2.2.2.1 c.2.1) hmx (Ev41_ok N _) (by kernel_rfl) loopAt_sub (fun (X : CT sha1_Of_1_octs_Join_L3_I.sh → Option (OT sha1_Of_1_octs_Join_L3_I.outs)) (c : CT sha1_Of_1_octs_Join_L3_I.sh) => sha1_Of_1_octs_Join_L3_S N X c.1.1 c.1.2.1 c.1.2.2.1 c.1.2.2.2.1 c.1.2.2.2.2.1 c.2.1) N)
noncomputable def sha1_Of_1_octs_Join_L9_I : LI := ⟨33, 1, [], ⟨[(6, .lit (.own 1)), (22, .ty (.sl (.sl (.int .u8)))), (23, .ty (.int .i64)), (24, .ty (.int .i64))], [.box 45 (.arr 20 (.int .u8)), .own (.int .u8) 5]⟩, [(.exit 2, ⟨[(6, .lit (.own 1))], [.box 45 (.arr 20 (.int .u8)), .own (.int .u8) 5]⟩)]⟩
noncomputable def sha1_Of_1_octs_Join_L9 (N : Nat) (X : (((List (List (Int))) × ((Int) × ((Int) × Unit))) × ((Arr (Int) 20) × ((List (Int)) × Unit))) → Option ((Unit × ((Arr (Int) 20) × ((List (Int)) × Unit))))) (x22 : List (List (Int))) (x23 : Int) (x24 : Int) (h0 : Arr (Int) 20) (h1 : List (Int)) : Option ((Unit × ((Arr (Int) 20) × ((List (Int)) × Unit)))) :=
 bif (decide (x24 < x23)) then
  Option.bind (getI x22 x24) fun (v7 : (List Int)) =>
  bif (roomB ((List.length h1) + (List.length v7)) 1) then
   (X ((x22, (x23, ((Go.IntKind.wrap .i64 (x24 + (1 : Int))), @Unit.unit))), (h0, ((h1 ++ v7), @Unit.unit))))
  else
   none
 else
  some ((@Unit.unit, (h0, (h1, @Unit.unit))))
noncomputable def sha1_Of_1_octs_Join_L9_R (N : Nat) (c : (((List (List (Int))) × ((Int) × ((Int) × Unit))) × ((Arr (Int) 20) × ((List (Int)) × Unit)))) : Option ((Unit × ((Arr (Int) 20) × ((List (Int)) × Unit)))) := gl (fun X c => sha1_Of_1_octs_Join_L9 N X c.1.1 c.1.2.1 c.1.2.2.1 c.2.1 c.2.2.1) N c
theorem sha1_Of_1_octs_Join_L9_S (N : Nat) (X : (((List (List (Int))) × ((Int) × ((Int) × Unit))) × ((Arr (Int) 20) × ((List (Int)) × Unit))) → Option ((Unit × ((Arr (Int) 20) × ((List (Int)) × Unit))))) (x22 : List (List (Int))) (x23 : Int) (x24 : Int) (h0 : Arr (Int) 20) (h1 : List (Int)) : (roundK Go.Proofs.Tryd.prog (Ev42 N) 400 [13, 1, 18] sha1_Of_1_octs_Join_L9_I (loopAt Go.Proofs.Tryd.prog [13, 1, 18] 9) X ((x22, x23, x24, ()), (h0, h1, ()))).run = sha1_Of_1_octs_Join_L9 N X x22 x23 x24 h0 h1 := by kernel_rfl
noncomputable def Ev43 (N : Nat) : (R : Type) → Env R := Env.addLp (Ev42 N) [13, 1, 18] 1 9 (fun R => lpK Go.Proofs.Tryd.prog sha1_Of_1_octs_Join_L9_I (fun X c => sha1_Of_1_octs_Join_L9 N X c.1.1 c.1.2.1 c.1.2.2.1 c.2.1 c.2.2.1) N)
theorem Ev43_ok (N : Nat) (R : Type) : EnvOK Go.Proofs.Tryd.prog (Ev43 N R) := EnvOK.addLp (Ev42_ok N R) (by kernel_rfl) (lpK_ok (li := sha1_Of_1_octs_Join_L9_I) (G := fun X c => sha1_Of_1_octs_Join_L9 N X c.1.1 c.1.2.1 c.1.2.2.1 c.2.1 c.2.2.1) hmx (Ev42_ok N _) (by kernel_rfl) loopAt_sub (fun (X : CT sha1_Of_1_octs_Join_L9_I.sh → Option (OT sha1_Of_1_octs_Join_L9_I.outs)) (c : CT sha1_Of_1_octs_Join_L9_I.sh) => sha1_Of_1_octs_Join_L9_S N X c.1.1 c.1.2.1 c.1.2.2.1 c.2.1 c.2.2.1) N)
noncomputable def sha1_root (N : Nat) (n0 : Int) : Option (Int) :=
 Option.bind (@roots_Root N n0 (2 : Int) (30 : Int)) fun (v2 : (Int × Int)) =>
 some ((Go.IntKind.wrap .u32 v2.1))
theorem sha1_root_S (N : Nat) (n0 : Int) : (runK Go.Proofs.Tryd.prog (Ev43 N) 400 43 [(.int .i64)] [(.int .u32)] (n0, ())).run = sha1_root N n0 := by kernel_rfl
noncomputable def Ev44 (N : Nat) : (R : Type) → Env R := Env.addFn (Ev43 N) 43 (fun R => fnK [(.int .i64)] [(.int .u32)] (fun c => sha1_root N c.1))
theorem Ev44_ok (N : Nat) (R : Type) : EnvOK Go.Proofs.Tryd.prog (Ev44 N R) := EnvOK.addFn hmx (Ev43_ok N R) (Ev43_ok N _) (by kernel_rfl) (fun c => sha1_root_S N c.1)
noncomputable def sha1_constants (N : Nat) : Option (Arr (Int) 4) :=
 Option.bind (@sha1_root N (2 : Int)) fun (v1 : Int) =>
 Option.bind (@sha1_root N (3 : Int)) fun (v2 : Int) =>
 Option.bind (@sha1_root N (5 : Int)) fun (v3 : Int) =>
 Option.bind (@sha1_root N (10 : Int)) fun (v4 : Int) =>
 some ((@Arr.cons Int (3 : Nat) v1 (@Arr.cons Int (2 : Nat) v2 (@Arr.cons Int (1 : Nat) v3 (@Arr.cons Int (0 : Nat) v4 (@Arr.nil Int))))))
theorem sha1_constants_S (N : Nat) : (runK Go.Proofs.Tryd.prog (Ev44 N) 400 27 [] [(.arr 4 (.int .u32))] ()).run = sha1_constants N  := by kernel_rfl
noncomputable def Ev45 (N : Nat) : (R : Type) → Env R := Env.addFn (Ev44 N) 27 (fun R => fnK [] [(.arr 4 (.int .u32))] (fun c => sha1_constants N ))
theorem Ev45_ok (N : Nat) (R : Type) : EnvOK Go.Proofs.Tryd.prog (Ev45 N R) := EnvOK.addFn hmx (Ev44_ok N R) (Ev44_ok N _) (by kernel_rfl) (fun c => sha1_constants_S N )
noncomputable def Ev46 (N : Nat) : (R : Type) → Env R := Env.addBx (Ev45 N) [(28, 0)]
theorem Ev46_ok (N : Nat) (R : Type) : EnvOK Go.Proofs.Tryd.prog (Ev46 N R) := EnvOK.addBx (Ev45_ok N R) [(28, 0)]
noncomputable def Ev47 (N : Nat) : (R : Type) → Env R := Env.addBx (Ev46 N) [(44, 0)]
theorem Ev47_ok (N : Nat) (R : Type) : EnvOK Go.Proofs.Tryd.prog (Ev47 N R) := EnvOK.addBx (Ev46_ok N R) [(44, 0)]
noncomputable def sha1_words_L3_I : LI := ⟨50, 0, [], ⟨[(1, .adr (.arr 64 (.int .u8))), (2, .lit (.box 0 0)), (3, .lit (.box 1 0)), (7, .ty (.int .i64))], [.box 88 (.arr 80 (.int .u32)), .box 88 (.arr 80 (.int .u32))]⟩, [(.exit 0, ⟨[(2, .lit (.box 0 0)), (3, .lit (.box 1 0))], [.box 88 (.arr 80 (.int .u32)), .box 88 (.arr 80 (.int .u32))]⟩)]⟩
noncomputable def sha1_words_L3 (N : Nat) (X : (((Arr (Int) 64) × ((Int) × Unit)) × ((Arr (Int) 80) × ((Arr (Int) 80) × Unit))) → Option ((Unit × ((Arr (Int) 80) × ((Arr (Int) 80) × Unit))))) (b1 : Arr (Int) 64) (x7 : Int) (h0 : Arr (Int) 80) (h1 : Arr (Int) 80) : Option ((Unit × ((Arr (Int) 80) × ((Arr (Int) 80) × Unit)))) :=
 bif (decide (x7 < (80 : Int))) then
  bif (decide (x7 < (16 : Int))) then
   Option.bind (subI b1.l (Go.IntKind.wrap .i64 ((4 : Int) * x7)) (Go.IntKind.wrap .i64 ((Go.IntKind.wrap .i64 ((4 : Int) * x7)) + (4 : Int)))) fun (v6 : (List Int)) =>
   Option.bind (@octs_Get N v6 @Bool.false) fun (v7 : (Int × Int)) =>
   bif (decide ((0 : Int) ≤ x7 ∧ x7 < (((80 : Nat) : Nat) : Int))) then
    Option.bind (@GetElem?.getElem? (List Int) Nat Int (fun (as8 : (List Int)) => (fun (i9 : Nat) => (@LT.lt Nat @instLTNat i9 (List.length as8)))) (@List.instGetElem?NatLtLength Int) h1.l (Int.toNat x7)) fun (v8 : Int) =>
    (X ((b1, ((Go.IntKind.wrap .i64 (x7 + (1 : Int))), @Unit.unit)), (h0, ((h1.set (Int.toNat x7) (Go.IntKind.wrap .u32 v7.1)), @Unit.unit))))
   else
    none
  else
   bif (decide ((0 : Int) ≤ (Go.IntKind.wrap .i64 (x7 - (3 : Int))) ∧ (Go.IntKind.wrap .i64 (x7 - (3 : Int))) < (((80 : Nat) : Nat) : Int))) then
    Option.bind (@GetElem?.getElem? (List Int) Nat Int (fun (as6 : (List Int)) => (fun (i7 : Nat) => (@LT.lt Nat @instLTNat i7 (List.length as6)))) (@List.instGetElem?NatLtLength Int) h1.l (Int.toNat (Go.IntKind.wrap .i64 (x7 - (3 : Int))))) fun (v6 : Int) =>
    bif (decide ((0 : Int) ≤ (Go.IntKind.wrap .i64 (x7 - (8 : Int))) ∧ (Go.IntKind.wrap .i64 (x7 - (8 : Int))) < (((80 : Nat) : Nat) : Int))) then
     Option.bind (@GetElem?.getElem? (List Int) Nat Int (fun (as7 : (List Int)) => (fun (i8 : Nat) => (@LT.lt Nat @instLTNat i8 (List.length as7)))) (@List.instGetElem?NatLtLength Int) h1.l (Int.toNat (Go.IntKind.wrap .i64 (x7 - (8 : Int))))) fun (v7 : Int) =>
     bif (decide ((0 : Int) ≤ (Go.IntKind.wrap .i64 (x7 - (14 : Int))) ∧ (Go.IntKind.wrap .i64 (x7 - (14 : Int))) < (((80 : Nat) : Nat) : Int))) then
      Option.bind (@GetElem?.getElem? (List Int) Nat Int (fun (as8 : (List Int)) => (fun (i9 : Nat) => (@LT.lt Nat @instLTNat i9 (List.length as8)))) (@List.instGetElem?NatLtLength Int) h1.l (Int.toNat (Go.IntKind.wrap .i64 (x7 - (14 : Int))))) fun (v8 : Int) =>
      bif (decide ((0 : Int) ≤ (Go.IntKind.wrap .i64 (x7 - (16 : Int))) ∧ (Go.IntKind.wrap .i64 (x7 - (16 : Int))) < (((80 : Nat) : Nat) : Int))) then
       Option.bind (@GetElem?.getElem? (List Int) Nat Int (fun (as9 : (List Int)) => (fun (i10 : Nat) => (@LT.lt Nat @instLTNat i10 (List.length as9)))) (@List.instGetElem?NatLtLength Int) h1.l (Int.toNat (Go.IntKind.wrap .i64 (x7 - (16 : Int))))) fun (v9 : Int) =>
       bif (decide ((0 : Int) ≤ x7 ∧ x7 < (((80 : Nat) : Nat) : Int))) then
        Option.bind (@GetElem?.getElem? (List Int) Nat Int (fun (as10 : (List Int)) => (fun (i11 : Nat) => (@LT.lt Nat @instLTNat i11 (List.length as10)))) (@List.instGetElem?NatLtLength Int) h1.l (Int.toNat x7)) fun (v10 : Int) =>
        (X ((b1, ((Go.IntKind.wrap .i64 (x7 + (1 : Int))), @Unit.unit)), (h0, ((h1.set (Int.toNat x7) (@Go.bits @Go.BinOp.or @Go.IntKind.u32 (Go.IntKind.wrap .u32 ((@Go.bits @Go.BinOp.xor @Go.IntKind.u32 (@Go.bits @Go.BinOp.xor @Go.IntKind.u32 (@Go.bits @Go.BinOp.xor @Go.IntKind.u32 v6 v7) v8) v9) * (@HPow.hPow Int Nat Int (@instHPow Int Nat (@instPowNat Int @Int.instNatPow)) (2 : Int) (@Min.min Nat @instMinNat (Int.toNat (@Go.bits @Go.BinOp.and @Go.IntKind.u64 (Go.IntKind.wrap .u64 (1 : Int)) (31 : Int))) (@Go.IntKind.bits @Go.IntKind.u32))))) (@Int.fdiv (@Go.bits @Go.BinOp.xor @Go.IntKind.u32 (@Go.bits @Go.BinOp.xor @Go.IntKind.u32 (@Go.bits @Go.BinOp.xor @Go.IntKind.u32 v6 v7) v8) v9) (@HPow.hPow Int Nat Int (@instHPow Int Nat (@instPowNat Int @Int.instNatPow)) (2 : Int) (@Min.min Nat @instMinNat (Int.toNat (Go.IntKind.wrap .u64 ((32 : Int) - (@Go.bits @Go.BinOp.and @Go.IntKind.u64 (Go.IntKind.wrap .u64 (1 : Int)) (31 : Int))))) (@Go.IntKind.bits @Go.IntKind.u32)))))), @Unit.unit))))
       else
        none
      else
       none
     else
      none
    else
     none
   else
    none
 else
  some ((@Unit.unit, (h0, (h1, @Unit.unit))))
noncomputable def sha1_words_L3_R (N : Nat) (c : (((Arr (Int) 64) × ((Int) × Unit)) × ((Arr (Int) 80) × ((Arr (Int) 80) × Unit)))) : Option ((Unit × ((Arr (Int) 80) × ((Arr (Int) 80) × Unit)))) := gl (fun X c => sha1_words_L3 N X c.1.1 c.1.2.1 c.2.1 c.2.2.1) N c
theorem sha1_words_L3_S (N : Nat) (X : (((Arr (Int) 64) × ((Int) × Unit)) × ((Arr (Int) 80) × ((Arr (Int) 80) × Unit))) → Option ((Unit × ((Arr (Int) 80) × ((Arr (Int) 80) × Unit))))) (b1 : Arr (Int) 64) (x7 : Int) (h0 : Arr (Int) 80) (h1 : Arr (Int) 80) : (roundK Go.Proofs.Tryd.prog (Ev47 N) 400 [44] sha1_words_L3_I (loopAt Go.Proofs.Tryd.prog [44] 3) X ((b1, x7, ()), (h0, h1, ()))).run = sha1_words_L3 N X b1 x7 h0 h1 := by kernel_rfl
noncomputable def Ev48 (N : Nat) : (R : Type) → Env R := Env.addLp (Ev47 N) [44] 0 3 (fun R => lpK Go.Proofs.Tryd.prog sha1_words_L3_I (fun X c => sha1_words_L3 N X c.1.1 c.1.2.1 c.2.1 c.2.2.1) N)
theorem Ev48_ok (N : Nat) (R : Type) : EnvOK Go.Proofs.Tryd.prog (Ev48 N R) := EnvOK.addLp (Ev47_ok N R) (by kernel_rfl) (lpK_ok (li := sha1_words_L3_I) (G := fun X c => sha1_words_L3 N X c.1.1 c.1.2.1 c.2.1 c.2.2.1) hmx (Ev47_ok N _) (by kernel_rfl) loopAt_sub (fun (X : CT sha1_words_L3_I.sh → Option (OT sha1_words_L3_I.outs)) (c : CT sha1_words_L3_I.sh) => sha1_words_L3_S N X c.1.1 c.1.2.1 c.2.1 c.2.2.1) N)
noncomputable def sha1_words (N : Nat) (b0 : Arr (Int) 64) : Option (Arr (Int) 80) :=
 Option.bind (sha1_words_L3_R N ((b0, ((0 : Int), @Unit.unit)), ((@Arr.cons Int (79 : Nat) (0 : Int) (@Arr.cons Int (78 : Nat) (0 : Int) (@Arr.cons Int (77 : Nat) (0 : Int) (@Arr.cons Int (76 : Nat) (0 : Int) (@Arr.cons Int (75 : Nat) (0 : Int) (@Arr.cons Int (74 : Nat) (0 : Int) (@Arr.cons Int (73 : Nat) (0 : Int) (@Arr.cons Int (72 : Nat) (0 : Int) (@Arr.cons Int (71 : Nat) (0 : Int) (@Arr.cons Int (70 : Nat) (0 : Int) (@Arr.cons Int (69 : Nat) (0 : Int) (@Arr.cons Int (68 : Nat) (0 : Int) (@Arr.cons Int (67 : Nat) (0 : Int) (@Arr.cons Int (66 : Nat) (0 : Int) (@Arr.cons Int (65 : Nat) (0 : Int) (@Arr.cons Int (64 : Nat) (0 : Int) (@Arr.cons Int (63 : Nat) (0 : Int) (@Arr.cons Int (62 : Nat) (0 : Int) (@Arr.cons Int (61 : Nat) (0 : Int) (@Arr.cons Int (60 : Nat) (0 : Int) (@Arr.cons Int (59 : Nat) (0 : Int) (@Arr.cons Int (58 : Nat) (0 : Int) (@Arr.cons Int (57 : Nat) (0 : Int) (@Arr.cons Int (56 : Nat) (0 : Int) (@Arr.cons Int (55 : Nat) (0 : Int) (@Arr.cons Int (54 : Nat) (0 : Int) (@Arr.cons Int (53 : Nat) (0 : Int) (@Arr.cons Int (52 : Nat) (0 : Int) (@Arr.cons Int (51 : Nat) (0 : Int) (@Arr.cons Int (50 : Nat) (0 : Int) (@Arr.cons Int (49 : Nat) (0 : Int) (@Arr.cons Int (48 : Nat) (0 : Int) (@Arr.cons Int (47 : Nat) (0 : Int) (@Arr.cons Int (46 : Nat) (0 : Int) (@Arr.cons Int (45 : Nat) (0 : Int) (@Arr.cons Int (44 : Nat) (0 : Int) (@Arr.cons Int (43 : Nat) (0 : Int) (@Arr.cons Int (42 : Nat) (0 : Int) (@Arr.cons Int (41 : Nat) (0 : Int) (@Arr.cons Int (40 : Nat) (0 : Int) (@Arr.cons Int (39 : Nat) (0 : Int) (@Arr.cons Int (38 : Nat) (0 : Int) (@Arr.cons Int (37 : Nat) (0 : Int) (@Arr.cons Int (36 : Nat) (0 : Int) (@Arr.cons Int (35 : Nat) (0 : Int) (@Arr.cons Int (34 : Nat) (0 : Int) (@Arr.cons Int (33 : Nat) (0 : Int) (@Arr.cons Int (32 : Nat) (0 : Int) (@Arr.cons Int (31 : Nat) (0 : Int) (@Arr.cons Int (30 : Nat) (0 : Int) (@Arr.cons Int (29 : Nat) (0 : Int) (@Arr.cons Int (28 : Nat) (0 : Int) (@Arr.cons Int (27 : Nat) (0 : Int) (@Arr.cons Int (26 : Nat) (0 : Int) (@Arr.cons Int (25 : Nat) (0 : Int) (@Arr.cons Int (24 : Nat) (0 : Int) (@Arr.cons Int (23 : Nat) (0 : Int) (@Arr.cons Int (22 : Nat) (0 : Int) (@Arr.cons Int (21 : Nat) (0 : Int) (@Arr.cons Int (20 : Nat) (0 : Int) (@Arr.cons Int (19 : Nat) (0 : Int) (@Arr.cons Int (18 : Nat) (0 : Int) (@Arr.cons Int (17 : Nat) (0 : Int) (@Arr.cons Int (16 : Nat) (0 : Int) (@Arr.cons Int (15 : Nat) (0 : Int) (@Arr.cons Int (14 : Nat) (0 : Int) (@Arr.cons Int (13 : Nat) (0 : Int) (@Arr.cons Int (12 : Nat) (0 : Int) (@Arr.cons Int (11 : Nat) (0 : Int) (@Arr.cons Int (10 : Nat) (0 : Int) (@Arr.cons Int (9 : Nat) (0 : Int) (@Arr.cons Int (8 : Nat) (0 : Int) (@Arr.cons Int (7 : Nat) (0 : Int) (@Arr.cons Int (6 : Nat) (0 : Int) (@Arr.cons Int (5 : Nat) (0 : Int) (@Arr.cons Int (4 : Nat) (0 : Int) (@Arr.cons Int (3 : Nat) (0 : Int) (@Arr.cons Int (2 : Nat) (0 : Int) (@Arr.cons Int (1 : Nat) (0 : Int) (@Arr.cons Int (0 : Nat) (0 : Int) (@Arr.nil Int))))))))))))))))))))))))))))))))))))))))))))))))))))))))))))))))))))))))))))))))), ((@Arr.cons Int (79 : Nat) (0 : Int) (@Arr.cons Int (78 : Nat) (0 : Int) (@Arr.cons Int (77 : Nat) (0 : Int) (@Arr.cons Int (76 : Nat) (0 : Int) (@Arr.cons Int (75 : Nat) (0 : Int) (@Arr.cons Int (74 : Nat) (0 : Int) (@Arr.cons Int (73 : Nat) (0 : Int) (@Arr.cons Int (72 : Nat) (0 : Int) (@Arr.cons Int (71 : Nat) (0 : Int) (@Arr.cons Int (70 : Nat) (0 : Int) (@Arr.cons Int (69 : Nat) (0 : Int) (@Arr.cons Int (68 : Nat) (0 : Int) (@Arr.cons Int (67 : Nat) (0 : Int) (@Arr.cons Int (66 : Nat) (0 : Int) (@Arr.cons Int (65 : Nat) (0 : Int) (@Arr.cons Int (64 : Nat) (0 : Int) (@Arr.cons Int (63 : Nat) (0 : Int) (@Arr.cons Int (62 : Nat) (0 : Int) (@Arr.cons Int (61 : Nat) (0 : Int) (@Arr.cons Int (60 : Nat) (0 : Int) (@Arr.cons Int (59 : Nat) (0 : Int) (@Arr.cons Int (58 : Nat) (0 : Int) (@Arr.cons Int (57 : Nat) (0 : Int) (@Arr.cons Int (56 : Nat) (0 : Int) (@Arr.cons Int (55 : Nat) (0 : Int) (@Arr.cons Int (54 : Nat) (0 : Int) (@Arr.cons Int (53 : Nat) (0 : Int) (@Arr.cons Int (52 : Nat) (0 : Int) (@Arr.cons Int (51 : Nat) (0 : Int) (@Arr.cons Int (50 : Nat) (0 : Int) (@Arr.cons Int (49 : Nat) (0 : Int) (@Arr.cons Int (48 : Nat) (0 : Int) (@Arr.cons Int (47 : Nat) (0 : Int) (@Arr.cons Int (46 : Nat) (0 : Int) (@Arr.cons Int (45 : Nat) (0 : Int) (@Arr.cons Int (44 : Nat) (0 : Int) (@Arr.cons Int (43 : Nat) (0 : Int) (@Arr.cons Int (42 : Nat) (0 : Int) (@Arr.cons Int (41 : Nat) (0 : Int) (@Arr.cons Int (40 : Nat) (0 : Int) (@Arr.cons Int (39 : Nat) (0 : Int) (@Arr.cons Int (38 : Nat) (0 : Int) (@Arr.cons Int (37 : Nat) (0 : Int) (@Arr.cons Int (36 : Nat) (0 : Int) (@Arr.cons Int (35 : Nat) (0 : Int) (@Arr.cons Int (34 : Nat) (0 : Int) (@Arr.cons Int (33 : Nat) (0 : Int) (@Arr.cons Int (32 : Nat) (0 : Int) (@Arr.cons Int (31 : Nat) (0 : Int) (@Arr.cons Int (30 : Nat) (0 : Int) (@Arr.cons Int (29 : Nat) (0 : Int) (@Arr.cons Int (28 : Nat) (0 : Int) (@Arr.cons Int (27 : Nat) (0 : Int) (@Arr.cons Int (26 : Nat) (0 : Int) (@Arr.cons Int (25 : Nat) (0 : Int) (@Arr.cons Int (24 : Nat) (0 : Int) (@Arr.cons Int (23 : Nat) (0 : Int) (@Arr.cons Int (22 : Nat) (0 : Int) (@Arr.cons Int (21 : Nat) (0 : Int) (@Arr.cons Int (20 : Nat) (0 : Int) (@Arr.cons Int (19 : Nat) (0 : Int) (@Arr.cons Int (18 : Nat) (0 : Int) (@Arr.cons Int (17 : Nat) (0 : Int) (@Arr.cons Int (16 : Nat) (0 : Int) (@Arr.cons Int (15 : Nat) (0 : Int) (@Arr.cons Int (14 : Nat) (0 : Int) (@Arr.cons Int (13 : Nat) (0 : Int) (@Arr.cons Int (12 : Nat) (0 : Int) (@Arr.cons Int (11 : Nat) (0 : Int) (@Arr.cons Int (10 : Nat) (0 : Int) (@Arr.cons Int (9 : Nat) (0 : Int) (@Arr.cons Int (8 : Nat) (0 : Int) (@Arr.cons Int (7 : Nat) (0 : Int) (@Arr.cons Int (6 : Nat) (0 : Int) (@Arr.cons Int (5 : Nat) (0 : Int) (@Arr.cons Int (4 : Nat) (0 : Int) (@Arr.cons Int (3 : Nat) (0 : Int) (@Arr.cons Int (2 : Nat) (0 : Int) (@Arr.cons Int (1 : Nat) (0 : Int) (@Arr.cons Int (0 : Nat) (0 : Int) (@Arr.nil Int))))))))))))))))))))))))))))))))))))))))))))))))))))))))))))))))))))))))))))))))), @Unit.unit)))) fun (v2 : (Unit × ((Arr Int 80) × ((Arr Int 80) × Unit)))) =>
 some (v2.2.2.1)
theorem sha1_words_S (N : Nat) (b0 : Arr (Int) 64) : (runK Go.Proofs.Tryd.prog (Ev48 N) 400 44 [(.arr 64 (.int .u8))] [(.arr 80 (.int .u32))] (b0, ())).run = sha1_words N b0 := by kernel_rfl
noncomputable def Ev49 (N : Nat) : (R : Type) → Env R := Env.addFn (Ev48 N) 44 (fun R => fnK [(.arr 64 (.int .u8))] [(.arr 80 (.int .u32))] (fun c => sha1_words N c.1))
theorem Ev49_ok (N : Nat) (R : Type) : EnvOK Go.Proofs.Tryd.prog (Ev49 N R) := EnvOK.addFn hmx (Ev48_ok N R) (Ev48_ok N _) (by kernel_rfl) (fun c => sha1_words_S N c.1)
noncomputable def sha1_mixed (N : Nat) (r0 : Int) (b1 : Int) (c2 : Int) (d3 : Int) : Option (Int) :=
 bif (decide (r0 = (0 : Int))) then
  some ((@Go.bits @Go.BinOp.or @Go.IntKind.u32 (@Go.bits @Go.BinOp.and @Go.IntKind.u32 b1 c2) (@Go.bits @Go.BinOp.and @Go.IntKind.u32 (@Go.bits @Go.BinOp.xor @Go.IntKind.u32 (@ite Int (@Eq Bool (@Go.IntKind.signed @Go.IntKind.u32) @Bool.true) (@instDecidableEqBool (@Go.IntKind.signed @Go.IntKind.u32) @Bool.true) (-1 : Int) (@Go.IntKind.max @Go.IntKind.u32)) b1) d3)))
 else
  bif (decide (r0 = (2 : Int))) then
   some ((@Go.bits @Go.BinOp.or @Go.IntKind.u32 (@Go.bits @Go.BinOp.or @Go.IntKind.u32 (@Go.bits @Go.BinOp.and @Go.IntKind.u32 b1 c2) (@Go.bits @Go.BinOp.and @Go.IntKind.u32 b1 d3)) (@Go.bits @Go.BinOp.and @Go.IntKind.u32 c2 d3)))
  else
   some ((@Go.bits @Go.BinOp.xor @Go.IntKind.u32 (@Go.bits @Go.BinOp.xor @Go.IntKind.u32 b1 c2) d3))
theorem sha1_mixed_S (N : Nat) (r0 : Int) (b1 : Int) (c2 : Int) (d3 : Int) : (runK Go.Proofs.Tryd.prog (Ev49 N) 400 46 [(.int .i64), (.int .u32), (.int .u32), (.int .u32)] [(.int .u32)] (r0, b1, c2, d3, ())).run = sha1_mixed N r0 b1 c2 d3 := by kernel_rfl
noncomputable def Ev50 (N : Nat) : (R : Type) → Env R := Env.addFn (Ev49 N) 46 (fun R => fnK [(.int .i64), (.int .u32), (.int .u32), (.int .u32)] [(.int .u32)] (fun c => sha1_mixed N c.1 c.2.1 c.2.2.1 c.2.2.2.1))
theorem Ev50_ok (N : Nat) (R : Type) : EnvOK Go.Proofs.Tryd.prog (Ev50 N R) := EnvOK.addFn hmx (Ev49_ok N R) (Ev49_ok N _) (by kernel_rfl) (fun c => sha1_mixed_S N c.1 c.2.1 c.2.2.1 c.2.2.2.1)
noncomputable def sha1_behind_L4_I : LI := ⟨69, 0, [], ⟨[(3, .adr (.arr 5 (.int .u32))), (5, .adr (.arr 4 (.int .u32))), (6, .lit (.box 0 0)), (7, .lit (.box 1 0)), (8, .lit (.box 2 0)), (16, .ty (.int .i64))], [.box 61 (.arr 5 (.int .u32)), .box 88 (.arr 80 (.int .u32)), .box 61 (.arr 5 (.int .u32))]⟩, [(.exit 0, ⟨[(3, .adr (.arr 5 (.int .u32))), (6, .lit (.box 0 0)), (8, .lit (.box 1 0))], [.box 61 (.arr 5 (.int .u32)), .box 61 (.arr 5 (.int .u32))]⟩)]⟩
noncomputable def sha1_behind_L4 (N : Nat) (X : (((Arr (Int) 5) × ((Arr (Int) 4) × ((Int) × Unit))) × ((Arr (Int) 5) × ((Arr (Int) 80) × ((Arr (Int) 5) × Unit)))) → Option ((((Arr (Int) 5) × Unit) × ((Arr (Int) 5) × ((Arr (Int) 5) × Unit))))) (s3 : Arr (Int) 5) (k5 : Arr (Int) 4) (x16 : Int) (h0 : Arr (Int) 5) (h1 : Arr (Int) 80) (h2 : Arr (Int) 5) : Option ((((Arr (Int) 5) × Unit) × ((Arr (Int) 5) × ((Arr (Int) 5) × Unit)))) :=
 bif (decide (x16 < (80 : Int))) then
  Option.bind (@GetElem?.getElem? (List Int) Nat Int (fun (as8 : (List Int)) => (fun (i9 : Nat) => (@LT.lt Nat @instLTNat i9 (List.length as8)))) (@List.instGetElem?NatLtLength Int) h2.l (Int.toNat (0 : Int))) fun (v8 : Int) =>
  Option.bind (@GetElem?.getElem? (List Int) Nat Int (fun (as9 : (List Int)) => (fun (i10 : Nat) => (@LT.lt Nat @instLTNat i10 (List.length as9)))) (@List.instGetElem?NatLtLength Int) h2.l (Int.toNat (1 : Int))) fun (v9 : Int) =>
  Option.bind (@GetElem?.getElem? (List Int) Nat Int (fun (as10 : (List Int)) => (fun (i11 : Nat) => (@LT.lt Nat @instLTNat i11 (List.length as10)))) (@List.instGetElem?NatLtLength Int) h2.l (Int.toNat (2 : Int))) fun (v10 : Int) =>
  Option.bind (@GetElem?.getElem? (List Int) Nat Int (fun (as11 : (List Int)) => (fun (i12 : Nat) => (@LT.lt Nat @instLTNat i12 (List.length as11)))) (@List.instGetElem?NatLtLength Int) h2.l (Int.toNat (3 : Int))) fun (v11 : Int) =>
  Option.bind (@sha1_mixed N (Go.IntKind.wrap .i64 (@Int.tdiv x16 (20 : Int))) v9 v10 v11) fun (v12 : Int) =>
  Option.bind (@GetElem?.getElem? (List Int) Nat Int (fun (as13 : (List Int)) => (fun (i14 : Nat) => (@LT.lt Nat @instLTNat i14 (List.length as13)))) (@List.instGetElem?NatLtLength Int) h2.l (Int.toNat (4 : Int))) fun (v13 : Int) =>
  Option.bind (getI k5.l (Go.IntKind.wrap .i64 (@Int.tdiv x16 (20 : Int)))) fun (v14 : Int) =>
  bif (decide ((0 : Int) ≤ x16 ∧ x16 < (((80 : Nat) : Nat) : Int))) then
   Option.bind (@GetElem?.getElem? (List Int) Nat Int (fun (as15 : (List Int)) => (fun (i16 : Nat) => (@LT.lt Nat @instLTNat i16 (List.length as15)))) (@List.instGetElem?NatLtLength Int) h1.l (Int.toNat x16)) fun (v15 : Int) =>
   Option.bind (@GetElem?.getElem? (List Int) Nat Int (fun (as16 : (List Int)) => (fun (i17 : Nat) => (@LT.lt Nat @instLTNat i17 (List.length as16)))) (@List.instGetElem?NatLtLength Int) h2.l (Int.toNat (0 : Int))) fun (v16 : Int) =>
   Option.bind (@GetElem?.getElem? (List Int) Nat Int (fun (as17 : (List Int)) => (fun (i18 : Nat) => (@LT.lt Nat @instLTNat i18 (List.length as17)))) (@List.instGetElem?NatLtLength Int) h2.l (Int.toNat (1 : Int))) fun (v17 : Int) =>
   Option.bind (@GetElem?.getElem? (List Int) Nat Int (fun (as18 : (List Int)) => (fun (i19 : Nat) => (@LT.lt Nat @instLTNat i19 (List.length as18)))) (@List.instGetElem?NatLtLength Int) h2.l (Int.toNat (2 : Int))) fun (v18 : Int) =>
   Option.bind (@GetElem?.getElem? (List Int) Nat Int (fun (as19 : (List Int)) => (fun (i20 : Nat) => (@LT.lt Nat @instLTNat i20 (List.length as19)))) (@List.instGetElem?NatLtLength Int) h2.l (Int.toNat (3 : Int))) fun (v19 : Int) =>
   (X ((s3, (k5, ((Go.IntKind.wrap .i64 (x16 + (1 : Int))), @Unit.unit))), (h0, (h1, ((@Arr.cons Int (4 : Nat) (Go.IntKind.wrap .u32 ((Go.IntKind.wrap .u32 ((Go.IntKind.wrap .u32 ((Go.IntKind.wrap .u32 ((@Go.bits @Go.BinOp.or @Go.IntKind.u32 (Go.IntKind.wrap .u32 (v8 * (@HPow.hPow Int Nat Int (@instHPow Int Nat (@instPowNat Int @Int.instNatPow)) (2 : Int) (@Min.min Nat @instMinNat (Int.toNat (@Go.bits @Go.BinOp.and @Go.IntKind.u64 (Go.IntKind.wrap .u64 (5 : Int)) (31 : Int))) (@Go.IntKind.bits @Go.IntKind.u32))))) (@Int.fdiv v8 (@HPow.hPow Int Nat Int (@instHPow Int Nat (@instPowNat Int @Int.instNatPow)) (2 : Int) (@Min.min Nat @instMinNat (Int.toNat (Go.IntKind.wrap .u64 ((32 : Int) - (@Go.bits @Go.BinOp.and @Go.IntKind.u64 (Go.IntKind.wrap .u64 (5 : Int)) (31 : Int))))) (@Go.IntKind.bits @Go.IntKind.u32))))) + v12)) + v13)) + v14)) + v15)) (@Arr.cons Int (3 : Nat) v16 (@Arr.cons Int (2 : Nat) (@Go.bits @Go.BinOp.or @Go.IntKind.u32 (Go.IntKind.wrap .u32 (v17 * (@HPow.hPow Int Nat Int (@instHPow Int Nat (@instPowNat Int @Int.instNatPow)) (2 : Int) (@Min.min Nat @instMinNat (Int.toNat (@Go.bits @Go.BinOp.and @Go.IntKind.u64 (Go.IntKind.wrap .u64 (30 : Int)) (31 : Int))) (@Go.IntKind.bits @Go.IntKind.u32))))) (@Int.fdiv v17 (@HPow.hPow Int Nat Int (@instHPow Int Nat (@instPowNat Int @Int.instNatPow)) (2 : Int) (@Min.min Nat @instMinNat (Int.toNat (Go.IntKind.wrap .u64 ((32 : Int) - (@Go.bits @Go.BinOp.and @Go.IntKind.u64 (Go.IntKind.wrap .u64 (30 : Int)) (31 : Int))))) (@Go.IntKind.bits @Go.IntKind.u32))))) (@Arr.cons Int (1 : Nat) v18 (@Arr.cons Int (0 : Nat) v19 (@Arr.nil Int)))))), @Unit.unit)))))
  else
   none
 else
  some (((s3, @Unit.unit), (h0, (h2, @Unit.unit))))
noncomputable def sha1_behind_L4_R (N : Nat) (c : (((Arr (Int) 5) × ((Arr (Int) 4) × ((Int) × Unit))) × ((Arr (Int) 5) × ((Arr (Int) 80) × ((Arr (Int) 5) × Unit))))) : Option ((((Arr (Int) 5) × Unit) × ((Arr (Int) 5) × ((Arr (Int) 5) × Unit)))) := gl (fun X c => sha1_behind_L4 N X c.1.1 c.1.2.1 c.1.2.2.1 c.2.1 c.2.2.1 c.2.2.2.1) N c
theorem sha1_behind_L4_S (N : Nat) (X : (((Arr (Int) 5) × ((Arr (Int) 4) × ((Int) × Unit))) × ((Arr (Int) 5) × ((Arr (Int) 80) × ((Arr (Int) 5) × Unit)))) → Option ((((Arr (Int) 5) × Unit) × ((Arr (Int) 5) × ((Arr (Int) 5) × Unit))))) (s3 : Arr (Int) 5) (k5 : Arr (Int) 4) (x16 : Int) (h0 : Arr (Int) 5) (h1 : Arr (Int) 80) (h2 : Arr (Int) 5) : (roundK Go.Proofs.Tryd.prog (Ev50 N) 400 [28] sha1_behind_L4_I (loopAt Go.Proofs.Tryd.prog [28] 4) X ((s3, k5, x16, ()), (h0, h1, h2, ()))).run = sha1_behind_L4 N X s3 k5 x16 h0 h1 h2 := by kernel_rfl
noncomputable def Ev51 (N : Nat) : (R : Type) → Env R := Env.addLp (Ev50 N) [28] 0 4 (fun R => lpK Go.Proofs.Tryd.prog sha1_behind_L4_I (fun X c => sha1_behind_L4 N X c.1.1 c.1.2.1 c.1.2.2.1 c.2.1 c.2.2.1 c.2.2.2.1) N)
theorem Ev51_ok (N : Nat) (R : Type) : EnvOK Go.Proofs.Tryd.prog (Ev51 N R) := EnvOK.addLp (Ev50_ok N R) (by kernel_rfl) (lpK_ok (li := sha1_behind_L4_I) (G := fun X c => sha1_behind_L4 N X c.1.1 c.1.2.1 c.1.2.2.1 c.2.1 c.2.2.1 c.2.2.2.1) hmx (Ev50_ok N _) (by kernel_rfl) loopAt_sub (fun (X : CT sha1_behind_L4_I.sh → Option (OT sha1_behind_L4_I.outs)) (c : CT sha1_behind_L4_I.sh) => sha1_behind_L4_S N X c.1.1 c.1.2.1 c.1.2.2.1 c.2.1 c.2.2.1 c.2.2.2.1) N)
noncomputable def sha1_behind_L11_I : LI := ⟨69, 0, [], ⟨[(3, .adr (.arr 5 (.int .u32))), (6, .lit (.box 0 0)), (8, .lit (.box 1 0)), (56, .ty (.int .i64))], [.box 61 (.arr 5 (.int .u32)), .box 61 (.arr 5 (.int .u32))]⟩, [(.exit 2, ⟨[(6, .lit (.box 0 0)), (8, .lit (.box 1 0))], [.box 61 (.arr 5 (.int .u32)), .box 61 (.arr 5 (.int .u32))]⟩)]⟩
noncomputable def sha1_behind_L11 (N : Nat) (X : (((Arr (Int) 5) × ((Int) × Unit)) × ((Arr (Int) 5) × ((Arr (Int) 5) × Unit))) → Option ((Unit × ((Arr (Int) 5) × ((Arr (Int) 5) × Unit))))) (s3 : Arr (Int) 5) (x56 : Int) (h0 : Arr (Int) 5) (h1 : Arr (Int) 5) : Option ((Unit × ((Arr (Int) 5) × ((Arr (Int) 5) × Unit)))) :=
 bif (decide (x56 < (5 : Int))) then
  bif (decide ((0 : Int) ≤ x56 ∧ x56 < (((5 : Nat) : Nat) : Int))) then
   Option.bind (@GetElem?.getElem? (List Int) Nat Int (fun (as6 : (List Int)) => (fun (i7 : Nat) => (@LT.lt Nat @instLTNat i7 (List.length as6)))) (@List.instGetElem?NatLtLength Int) h1.l (Int.toNat x56)) fun (v6 : Int) =>
   Option.bind (getI s3.l x56) fun (v7 : Int) =>
   bif (decide ((0 : Int) ≤ x56 ∧ x56 < (((5 : Nat) : Nat) : Int))) then
    Option.bind (@GetElem?.getElem? (List Int) Nat Int (fun (as8 : (List Int)) => (fun (i9 : Nat) => (@LT.lt Nat @instLTNat i9 (List.length as8)))) (@List.instGetElem?NatLtLength Int) h1.l (Int.toNat x56)) fun (v8 : Int) =>
    (X ((s3, ((Go.IntKind.wrap .i64 (x56 + (1 : Int))), @Unit.unit)), (h0, ((h1.set (Int.toNat x56) (Go.IntKind.wrap .u32 (v6 + v7))), @Unit.unit))))
   else
    none
  else
   none
 else
  some ((@Unit.unit, (h0, (h1, @Unit.unit))))
noncomputable def sha1_behind_L11_R (N : Nat) (c : (((Arr (Int) 5) × ((Int) × Unit)) × ((Arr (Int) 5) × ((Arr (Int) 5) × Unit)))) : Option ((Unit × ((Arr (Int) 5) × ((Arr (Int) 5) × Unit)))) := gl (fun X c => sha1_behind_L11 N X c.1.1 c.1.2.1 c.2.1 c.2.2.1) N c
theorem sha1_behind_L11_S (N : Nat) (X : (((Arr (Int) 5) × ((Int) × Unit)) × ((Arr (Int) 5) × ((Arr (Int) 5) × Unit))) → Option ((Unit × ((Arr (Int) 5) × ((Arr (Int) 5) × Unit))))) (s3 : Arr (Int) 5) (x56 : Int) (h0 : Arr (Int) 5) (h1 : Arr (Int) 5) : (roundK Go.Proofs.Tryd.prog (Ev51 N) 400 [28] sha1_behind_L11_I (loopAt Go.Proofs.Tryd.prog [28] 11) X ((s3, x56, ()), (h0, h1, ()))).run = sha1_behind_L11 N X s3 x56 h0 h1 := by kernel_rfl
noncomputable def Ev52 (N : Nat) : (R : Type) → Env R := Env.addLp (Ev51 N) [28] 0 11 (fun R => lpK Go.Proofs.Tryd.prog sha1_behind_L11_I (fun X c => sha1_behind_L11 N X c.1.1 c.1.2.1 c.2.1 c.2.2.1) N)
theorem Ev52_ok (N : Nat) (R : Type) : EnvOK Go.Proofs.Tryd.prog (Ev52 N R) := EnvOK.addLp (Ev51_ok N R) (by kernel_rfl) (lpK_ok (li := sha1_behind_L11_I) (G := fun X c => sha1_behind_L11 N X c.1.1 c.1.2.1 c.2.1 c.2.2.1) hmx (Ev51_ok N _) (by kernel_rfl) loopAt_sub (fun (X : CT sha1_behind_L11_I.sh → Option (OT sha1_behind_L11_I.outs)) (c : CT sha1_behind_L11_I.sh) => sha1_behind_L11_S N X c.1.1 c.1.2.1 c.2.1 c.2.2.1) N)
noncomputable def sha1_behind (N : Nat) (s0 : Arr (Int) 5) (b1 : Arr (Int) 64) (k2 : Arr (Int) 4) : Option (Arr (Int) 5) :=
 Option.bind (@sha1_words N b1) fun (v4 : (Arr Int 80)) =>
 Option.bind (sha1_behind_L4_R N ((s0, (k2, ((0 : Int), @Unit.unit))), ((@Arr.cons Int (4 : Nat) (0 : Int) (@Arr.cons Int (3 : Nat) (0 : Int) (@Arr.cons Int (2 : Nat) (0 : Int) (@Arr.cons Int (1 : Nat) (0 : Int) (@Arr.cons Int (0 : Nat) (0 : Int) (@Arr.nil Int)))))), (v4, (s0, @Unit.unit))))) fun (v5 : (((Arr Int 5) × Unit) × ((Arr Int 5) × ((Arr Int 5) × Unit)))) =>
 Option.bind (sha1_behind_L11_R N ((v5.1.1, ((0 : Int), @Unit.unit)), (v5.2.1, (v5.2.2.1, @Unit.unit)))) fun (v6 : (Unit × ((Arr Int 5) × ((Arr Int 5) × Unit)))) =>
 some (v6.2.2.1)
theorem sha1_behind_S (N : Nat) (s0 : Arr (Int) 5) (b1 : Arr (Int) 64) (k2 : Arr (Int) 4) : (runK Go.Proofs.Tryd.prog (Ev52 N) 400 28 [(.arr 5 (.int .u32)), (.arr 64 (.int .u8)), (.arr 4 (.int .u32))] [(.arr 5 (.int .u32))] (s0, b1, k2, ())).run = sha1_behind N s0 b1 k2 := by kernel_rfl
noncomputable def Ev53 (N : Nat) : (R : Type) → Env R := Env.addFn (Ev52 N) 28 (fun R => fnK [(.arr 5 (.int .u32)), (.arr 64 (.int .u8)), (.arr 4 (.int .u32))] [(.arr 5 (.int .u32))] (fun c => sha1_behind N c.1 c.2.1 c.2.2.1))
theorem Ev53_ok (N : Nat) (R : Type) : EnvOK Go.Proofs.Tryd.prog (Ev53 N R) := EnvOK.addFn hmx (Ev52_ok N R) (Ev52_ok N _) (by kernel_rfl) (fun c => sha1_behind_S N c.1 c.2.1 c.2.2.1)
noncomputable def sha1_Of_L5_I : LI := ⟨35, 0, [], ⟨[(2, .lit (.box 0 0)), (3, .ty (.sl (.int .u8))), (4, .lit (.box 1 0)), (5, .lit (.box 2 0)), (6, .ty (.int .i64))], [.box 45 (.arr 20 (.int .u8)), .box 61 (.arr 5 (.int .u32)), .box 63 (.arr 4 (.int .u32))]⟩, [(.exit 0, ⟨[(2, .lit (.box 0 0)), (4, .lit (.box 1 0))], [.box 45 (.arr 20 (.int .u8)), .box 61 (.arr 5 (.int .u32))]⟩)]⟩
noncomputable def sha1_Of_L5 (N : Nat) (X : (((List (Int)) × ((Int) × Unit)) × ((Arr (Int) 20) × ((Arr (Int) 5) × ((Arr (Int) 4) × Unit)))) → Option ((Unit × ((Arr (Int) 20) × ((Arr (Int) 5) × Unit))))) (all3 : List (Int)) (i6 : Int) (h0 : Arr (Int) 20) (h1 : Arr (Int) 5) (h2 : Arr (Int) 4) : Option ((Unit × ((Arr (Int) 20) × ((Arr (Int) 5) × Unit)))) :=
 bif (decide (i6 < (((List.length all3) : Nat) : Int))) then
  Option.bind (subI all3 i6 (Go.IntKind.wrap .i64 (i6 + (64 : Int)))) fun (v7 : (List Int)) =>
  Option.bind (@toArr Int (64 : Nat) v7) fun (v8 : (Arr Int 64)) =>
  Option.bind (@sha1_behind N h1 v8 h2) fun (v9 : (Arr Int 5)) =>
  (X ((all3, ((Go.IntKind.wrap .i64 (i6 + (64 : Int))), @Unit.unit)), (h0, (v9, (h2, @Unit.unit)))))
 else
  some ((@Unit.unit, (h0, (h1, @Unit.unit))))
noncomputable def sha1_Of_L5_R (N : Nat) (c : (((List (Int)) × ((Int) × Unit)) × ((Arr (Int) 20) × ((Arr (Int) 5) × ((Arr (Int) 4) × Unit))))) : Option ((Unit × ((Arr (Int) 20) × ((Arr (Int) 5) × Unit)))) := gl (fun X c => sha1_Of_L5 N X c.1.1 c.1.2.1 c.2.1 c.2.2.1 c.2.2.2.1) N c
theorem sha1_Of_L5_S (N : Nat) (X : (((List (Int)) × ((Int) × Unit)) × ((Arr (Int) 20) × ((Arr (Int) 5) × ((Arr (Int) 4) × Unit)))) → Option ((Unit × ((Arr (Int) 20) × ((Arr (Int) 5) × Unit))))) (all3 : List (Int)) (i6 : Int) (h0 : Arr (Int) 20) (h1 : Arr (Int) 5) (h2 : Arr (Int) 4) : (roundK Go.Proofs.Tryd.prog (Ev53 N) 400 [18] sha1_Of_L5_I (loopAt Go.Proofs.Tryd.prog [18] 5) X ((all3, i6, ()), (h0, h1, h2, ()))).run = sha1_Of_L5 N X all3 i6 h0 h1 h2 := by kernel_rfl
noncomputable def Ev54 (N : Nat) : (R : Type) → Env R := Env.addLp (Ev53 N) [18] 0 5 (fun R => lpK Go.Proofs.Tryd.prog sha1_Of_L5_I (fun X c => sha1_Of_L5 N X c.1.1 c.1.2.1 c.2.1 c.2.2.1 c.2.2.2.1) N)
theorem Ev54_ok (N : Nat) (R : Type) : EnvOK Go.Proofs.Tryd.prog (Ev54 N R) := EnvOK.addLp (Ev53_ok N R) (by kernel_rfl) (lpK_ok (li := sha1_Of_L5_I) (G := fun X c => sha1_Of_L5 N X c.1.1 c.1.2.1 c.2.1 c.2.2.1 c.2.2.2.1) hmx (Ev53_ok N _) (by kernel_rfl) loopAt_sub (fun (X : CT sha1_Of_L5_I.sh → Option (OT sha1_Of_L5_I.outs)) (c : CT sha1_Of_L5_I.sh) => sha1_Of_L5_S N X c.1.1 c.1.2.1 c.2.1 c.2.2.1 c.2.2.2.1) N)
noncomputable def Ev55 (N : Nat) : (R : Type) → Env R := Env.addBx (Ev54 N) [(29, 0)]
theorem Ev55_ok (N : Nat) (R : Type) : EnvOK Go.Proofs.Tryd.prog (Ev55 N R) := EnvOK.addBx (Ev54_ok N R) [(29, 0)]
noncomputable def sha1_digest_L3_I : LI := ⟨25, 0, [(3, 5)], ⟨[(2, .lit (.box 0 0)), (3, .lit (.own 1)), (8, .ty (.arr 5 (.int .u32))), (9, .ty (.int .i64))], [.box 45 (.arr 20 (.int .u8)), .own (.int .u8) 5]⟩, [(.exit 0, ⟨[(2, .lit (.box 0 0)), (3, .lit (.own 1))], [.box 45 (.arr 20 (.int .u8)), .own (.int .u8) 5]⟩)]⟩
noncomputable def sha1_digest_L3 (N : Nat) (X : (((Arr (Int) 5) × ((Int) × Unit)) × ((Arr (Int) 20) × ((List (Int)) × Unit))) → Option ((Unit × ((Arr (Int) 20) × ((List (Int)) × Unit))))) (x8 : Arr (Int) 5) (x9 : Int) (h0 : Arr (Int) 20) (h1 : List (Int)) : Option ((Unit × ((Arr (Int) 20) × ((List (Int)) × Unit)))) :=
 bif (decide (x9 < (5 : Int))) then
  Option.bind (getI x8.l x9) fun (v6 : Int) =>
  Option.bind (@octs_Put N (Go.IntKind.wrap .u64 v6) (4 : Int) @Bool.false) fun (v7 : ((List Int) × Int)) =>
  bif (roomB ((List.length h1) + (List.length v7.1)) 1) then
   (X ((x8, ((Go.IntKind.wrap .i64 (x9 + (1 : Int))), @Unit.unit)), (h0, ((h1 ++ v7.1), @Unit.unit))))
  else
   none
 else
  some ((@Unit.unit, (h0, (h1, @Unit.unit))))
noncomputable def sha1_digest_L3_R (N : Nat) (c : (((Arr (Int) 5) × ((Int) × Unit)) × ((Arr (Int) 20) × ((List (Int)) × Unit)))) : Option ((Unit × ((Arr (Int) 20) × ((List (Int)) × Unit)))) := gl (fun X c => sha1_digest_L3 N X c.1.1 c.1.2.1 c.2.1 c.2.2.1) N c
theorem sha1_digest_L3_S (N : Nat) (X : (((Arr (Int) 5) × ((Int) × Unit)) × ((Arr (Int) 20) × ((List (Int)) × Unit))) → Option ((Unit × ((Arr (Int) 20) × ((List (Int)) × Unit))))) (x8 : Arr (Int) 5) (x9 : Int) (h0 : Arr (Int) 20) (h1 : List (Int)) : (roundK Go.Proofs.Tryd.prog (Ev55 N) 400 [29] sha1_digest_L3_I (loopAt Go.Proofs.Tryd.prog [29] 3) X ((x8, x9, ()), (h0, h1, ()))).run = sha1_digest_L3 N X x8 x9 h0 h1 := by kernel_rfl
noncomputable def Ev56 (N : Nat) : (R : Type) → Env R := Env.addLp (Ev55 N) [29] 0 3 (fun R => lpK Go.Proofs.Tryd.prog sha1_digest_L3_I (fun X c => sha1_digest_L3 N X c.1.1 c.1.2.1 c.2.1 c.2.2.1) N)
theorem Ev56_ok (N : Nat) (R : Type) : EnvOK Go.Proofs.Tryd.prog (Ev56 N R) := EnvOK.addLp (Ev55_ok N R) (by kernel_rfl) (lpK_ok (li := sha1_digest_L3_I) (G := fun X c => sha1_digest_L3 N X c.1.1 c.1.2.1 c.2.1 c.2.2.1) hmx (Ev55_ok N _) (by kernel_rfl) loopAt_sub (fun (X : CT sha1_digest_L3_I.sh → Option (OT sha1_digest_L3_I.outs)) (c : CT sha1_digest_L3_I.sh) => sha1_digest_L3_S N X c.1.1 c.1.2.1 c.2.1 c.2.2.1) N)
noncomputable def sha1_digest (N : Nat) (s0 : Arr (Int) 5) : Option (Arr (Int) 20) :=
 Option.bind (sha1_digest_L3_R N ((s0, ((0 : Int), @Unit.unit)), ((@Arr.cons Int (19 : Nat) (0 : Int) (@Arr.cons Int (18 : Nat) (0 : Int) (@Arr.cons Int (17 : Nat) (0 : Int) (@Arr.cons Int (16 : Nat) (0 : Int) (@Arr.cons Int (15 : Nat) (0 : Int) (@Arr.cons Int (14 : Nat) (0 : Int) (@Arr.cons Int (13 : Nat) (0 : Int) (@Arr.cons Int (12 : Nat) (0 : Int) (@Arr.cons Int (11 : Nat) (0 : Int) (@Arr.cons Int (10 : Nat) (0 : Int) (@Arr.cons Int (9 : Nat) (0 : Int) (@Arr.cons Int (8 : Nat) (0 : Int) (@Arr.cons Int (7 : Nat) (0 : Int) (@Arr.cons Int (6 : Nat) (0 : Int) (@Arr.cons Int (5 : Nat) (0 : Int) (@Arr.cons Int (4 : Nat) (0 : Int) (@Arr.cons Int (3 : Nat) (0 : Int) (@Arr.cons Int (2 : Nat) (0 : Int) (@Arr.cons Int (1 : Nat) (0 : Int) (@Arr.cons Int (0 : Nat) (0 : Int) (@Arr.nil Int))))))))))))))))))))), (([] : List (Int)), @Unit.unit)))) fun (v2 : (Unit × ((Arr Int 20) × ((List Int) × Unit)))) =>
 Option.bind (@toArr Int (20 : Nat) v2.2.2.1) fun (v3 : (Arr Int 20)) =>
 some (v3)
theorem sha1_digest_S (N : Nat) (s0 : Arr (Int) 5) : (runK Go.Proofs.Tryd.prog (Ev56 N) 400 29 [(.arr 5 (.int .u32))] [(.arr 20 (.int .u8))] (s0, ())).run = sha1_digest N s0 := by kernel_rfl
noncomputable def Ev57 (N : Nat) : (R : Type) → Env R := Env.addFn (Ev56 N) 29 (fun R => fnK [(.arr 5 (.int .u32))] [(.arr 20 (.int .u8))] (fun c => sha1_digest N c.1))
theorem Ev57_ok (N : Nat) (R : Type) : EnvOK Go.Proofs.Tryd.prog (Ev57 N R) := EnvOK.addFn hmx (Ev56_ok N R) (Ev56_ok N _) (by kernel_rfl) (fun c => sha1_digest_S N c.1)
noncomputable def sha1_Of (N : Nat) (parts0 : List (List (Int))) : Option (Arr (Int) 20) :=
 Option.bind (sha1_Of_1_octs_Join_L3_R N ((parts0, ((0 : Int), (parts0, ((((List.length parts0) : Nat) : Int), ((0 : Int), @Unit.unit))))), ((@Arr.cons Int (19 : Nat) (0 : Int) (@Arr.cons Int (18 : Nat) (0 : Int) (@Arr.cons Int (17 : Nat) (0 : Int) (@Arr.cons Int (16 : Nat) (0 : Int) (@Arr.cons Int (15 : Nat) (0 : Int) (@Arr.cons Int (14 : Nat) (0 : Int) (@Arr.cons Int (13 : Nat) (0 : Int) (@Arr.cons Int (12 : Nat) (0 : Int) (@Arr.cons Int (11 : Nat) (0 : Int) (@Arr.cons Int (10 : Nat) (0 : Int) (@Arr.cons Int (9 : Nat) (0 : Int) (@Arr.cons Int (8 : Nat) (0 : Int) (@Arr.cons Int (7 : Nat) (0 : Int) (@Arr.cons Int (6 : Nat) (0 : Int) (@Arr.cons Int (5 : Nat) (0 : Int) (@Arr.cons Int (4 : Nat) (0 : Int) (@Arr.cons Int (3 : Nat) (0 : Int) (@Arr.cons Int (2 : Nat) (0 : Int) (@Arr.cons Int (1 : Nat) (0 : Int) (@Arr.cons Int (0 : Nat) (0 : Int) (@Arr.nil Int))))))))))))))))))))), @Unit.unit))) fun (v2 : (((List (List Int)) × (Int × Unit)) × ((Arr Int 20) × Unit))) =>
 bif ((decide ((0 : Int) ≤ (0 : Int) ∧ (0 : Int) ≤ v2.1.2.1)) && (roomB (Int.toNat v2.1.2.1) 1)) then
  Option.bind (sha1_Of_1_octs_Join_L9_R N ((v2.1.1, ((((List.length v2.1.1) : Nat) : Int), ((0 : Int), @Unit.unit))), (v2.2.1, ((@List.replicate Int (Int.toNat (0 : Int)) (0 : Int)), @Unit.unit)))) fun (v3 : (Unit × ((Arr Int 20) × ((List Int) × Unit)))) =>
  Option.bind (@sha1_Tail N (Go.IntKind.wrap .u64 (((List.length v3.2.2.1) : Nat) : Int))) fun (v4 : (List Int)) =>
  bif (roomB ((List.length v3.2.2.1) + (List.length v4)) 1) then
   Option.bind (@sha1_constants N) fun (v5 : (Arr Int 4)) =>
   Option.bind (sha1_Of_L5_R N (((v3.2.2.1 ++ v4), ((0 : Int), @Unit.unit)), (v3.2.1, ((@Arr.cons Int (4 : Nat) (1732584193 : Int) (@Arr.cons Int (3 : Nat) (4023233417 : Int) (@Arr.cons Int (2 : Nat) (2562383102 : Int) (@Arr.cons Int (1 : Nat) (271733878 : Int) (@Arr.cons Int (0 : Nat) (3285377520 : Int) (@Arr.nil Int)))))), (v5, @Unit.unit))))) fun (v6 : (Unit × ((Arr Int 20) × ((Arr Int 5) × Unit)))) =>
   Option.bind (@sha1_digest N v6.2.2.1) fun (v7 : (Arr Int 20)) =>
   some (v7)
  else
   none
 else
  none
theorem sha1_Of_S (N : Nat) (parts0 : List (List (Int))) : (runK Go.Proofs.Tryd.prog (Ev57 N) 400 18 [(.sl (.sl (.int .u8)))] [(.arr 20 (.int .u8))] (parts0, ())).run = sha1_Of N parts0 := by kernel_rfl
theorem sha1_Of_C (N : Nat) (parts0 : List (List (Int))) (y : Arr (Int) 20) (h : sha1_Of N parts0 = some y) : CallsK Go.Proofs.Tryd.prog 18 (valA [(.sl (.sl (.int .u8)))] (parts0, ())) (tupV (valR [(.arr 20 (.int .u8))] y)) := runK_ok hmx (Ev57_ok N _) (okFn_ok (by kernel_rfl)) (by rw [sha1_Of_S]; exact h)
noncomputable def Ev58 (N : Nat) : (R : Type) → Env R := Env.addFn (Ev57 N) 18 (fun R => fnK [(.sl (.sl (.int .u8)))] [(.arr 20 (.int .u8))] (fun c => sha1_Of N c.1))
theorem Ev58_ok (N : Nat) (R : Type) : EnvOK Go.Proofs.Tryd.prog (Ev58 N R) := EnvOK.addFn hmx (Ev57_ok N R) (Ev57_ok N _) (by kernel_rfl) (fun c => sha1_Of_S N c.1)
noncomputable def unicode_utf8_word_string (N : Nat) (s0 : List UInt8) : Option (Int) :=
 Option.bind (getI s0 (0 : Int)) fun (v2 : UInt8) =>
 Option.bind (getI s0 (1 : Int)) fun (v3 : UInt8) =>
 Option.bind (getI s0 (2 : Int)) fun (v4 : UInt8) =>
 Option.bind (getI s0 (3 : Int)) fun (v5 : UInt8) =>
 Option.bind (getI s0 (4 : Int)) fun (v6 : UInt8) =>
 Option.bind (getI s0 (5 : Int)) fun (v7 : UInt8) =>
 Option.bind (getI s0 (6 : Int)) fun (v8 : UInt8) =>
 Option.bind (getI s0 (7 : Int)) fun (v9 : UInt8) =>
 some ((@Go.bits @Go.BinOp.or @Go.IntKind.u64 (@Go.bits @Go.BinOp.or @Go.IntKind.u64 (@Go.bits @Go.BinOp.or @Go.IntKind.u64 (@Go.bits @Go.BinOp.or @Go.IntKind.u64 (@Go.bits @Go.BinOp.or @Go.IntKind.u64 (@Go.bits @Go.BinOp.or @Go.IntKind.u64 (@Go.bits @Go.BinOp.or @Go.IntKind.u64 (Go.IntKind.wrap .u64 (((@UInt8.toNat v2) : Nat) : Int)) (Go.IntKind.wrap .u64 ((Go.IntKind.wrap .u64 (((@UInt8.toNat v3) : Nat) : Int)) * (@HPow.hPow Int Nat Int (@instHPow Int Nat (@instPowNat Int @Int.instNatPow)) (2 : Int) (@Min.min Nat @instMinNat (Int.toNat (8 : Int)) (@Go.IntKind.bits @Go.IntKind.u64)))))) (Go.IntKind.wrap .u64 ((Go.IntKind.wrap .u64 (((@UInt8.toNat v4) : Nat) : Int)) * (@HPow.hPow Int Nat Int (@instHPow Int Nat (@instPowNat Int @Int.instNatPow)) (2 : Int) (@Min.min Nat @instMinNat (Int.toNat (16 : Int)) (@Go.IntKind.bits @Go.IntKind.u64)))))) (Go.IntKind.wrap .u64 ((Go.IntKind.wrap .u64 (((@UInt8.toNat v5) : Nat) : Int)) * (@HPow.hPow Int Nat Int (@instHPow Int Nat (@instPowNat Int @Int.instNatPow)) (2 : Int) (@Min.min Nat @instMinNat (Int.toNat (24 : Int)) (@Go.IntKind.bits @Go.IntKind.u64)))))) (Go.IntKind.wrap .u64 ((Go.IntKind.wrap .u64 (((@UInt8.toNat v6) : Nat) : Int)) * (@HPow.hPow Int Nat Int (@instHPow Int Nat (@instPowNat Int @Int.instNatPow)) (2 : Int) (@Min.min Nat @instMinNat (Int.toNat (32 : Int)) (@Go.IntKind.bits @Go.IntKind.u64)))))) (Go.IntKind.wrap .u64 ((Go.IntKind.wrap .u64 (((@UInt8.toNat v7) : Nat) : Int)) * (@HPow.hPow Int Nat Int (@instHPow Int Nat (@instPowNat Int @Int.instNatPow)) (2 : Int) (@Min.min Nat @instMinNat (Int.toNat (40 : Int)) (@Go.IntKind.bits @Go.IntKind.u64)))))) (Go.IntKind.wrap .u64 ((Go.IntKind.wrap .u64 (((@UInt8.toNat v8) : Nat) : Int)) * (@HPow.hPow Int Nat Int (@instHPow Int Nat (@instPowNat Int @Int.instNatPow)) (2 : Int) (@Min.min Nat @instMinNat (Int.toNat (48 : Int)) (@Go.IntKind.bits @Go.IntKind.u64)))))) (Go.IntKind.wrap .u64 ((Go.IntKind.wrap .u64 (((@UInt8.toNat v9) : Nat) : Int)) * (@HPow.hPow Int Nat Int (@instHPow Int Nat (@instPowNat Int @Int.instNatPow)) (2 : Int) (@Min.min Nat @instMinNat (Int.toNat (56 : Int)) (@Go.IntKind.bits @Go.IntKind.u64)))))))
theorem unicode_utf8_word_string_S (N : Nat) (s0 : List UInt8) : (runK Go.Proofs.Tryd.prog (Ev58 N) 400 60 [.str] [(.int .u64)] (s0, ())).run = unicode_utf8_word_string N s0 := by kernel_rfl
theorem unicode_utf8_word_string_C (N : Nat) (s0 : List UInt8) (y : Int) (h : unicode_utf8_word_string N s0 = some y) : CallsK Go.Proofs.Tryd.prog 60 (valA [.str] (s0, ())) (tupV (valR [(.int .u64)] y)) := runK_ok hmx (Ev58_ok N _) (okFn_ok (by kernel_rfl)) (by rw [unicode_utf8_word_string_S]; exact h)
noncomputable def Ev59 (N : Nat) : (R : Type) → Env R := Env.addFn (Ev58 N) 60 (fun R => fnK [.str] [(.int .u64)] (fun c => unicode_utf8_word_string N c.1))
theorem Ev59_ok (N : Nat) (R : Type) : EnvOK Go.Proofs.Tryd.prog (Ev59 N R) := EnvOK.addFn hmx (Ev58_ok N R) (Ev58_ok N _) (by kernel_rfl) (fun c => unicode_utf8_word_string_S N c.1)
noncomputable def unicode_utf8_ValidString_L9_I : LI := ⟨169, 0, [], ⟨[(0, .ty .str)], []⟩, [(.exit 2, ⟨[(0, .ty .str)], []⟩)]⟩
noncomputable def unicode_utf8_ValidString_L9 (N : Nat) (X : (((List UInt8) × Unit) × Unit) → Option ((((List UInt8) × Unit) × Unit))) (s0 : List UInt8) : Option ((((List UInt8) × Unit) × Unit)) :=
 bif (decide ((32 : Int) < (((List.length s0) : Nat) : Int))) then
  Option.bind (@unicode_utf8_word_string N s0) fun (v3 : Int) =>
  Option.bind (dropI s0 (8 : Int)) fun (v4 : (List UInt8)) =>
  Option.bind (@unicode_utf8_word_string N v4) fun (v5 : Int) =>
  Option.bind (dropI s0 (16 : Int)) fun (v6 : (List UInt8)) =>
  Option.bind (@unicode_utf8_word_string N v6) fun (v7 : Int) =>
  Option.bind (dropI s0 (24 : Int)) fun (v8 : (List UInt8)) =>
  Option.bind (@unicode_utf8_word_string N v8) fun (v9 : Int) =>
  bif (@cond Bool @Bool.true (decide ((@Go.bits @Go.BinOp.and @Go.IntKind.u64 (@Go.bits @Go.BinOp.or @Go.IntKind.u64 (@Go.bits @Go.BinOp.or @Go.IntKind.u64 v3 v5) (@Go.bits @Go.BinOp.or @Go.IntKind.u64 v7 v9)) (9259542123273814144 : Int)) = (0 : Int))) @Bool.false) then
   Option.bind (dropI s0 (32 : Int)) fun (v10 : (List UInt8)) =>
   (X ((v10, @Unit.unit), @Unit.unit))
  else
   some (((s0, @Unit.unit), @Unit.unit))
 else
  some (((s0, @Unit.unit), @Unit.unit))
noncomputable def unicode_utf8_ValidString_L9_R (N : Nat) (c : (((List UInt8) × Unit) × Unit)) : Option ((((List UInt8) × Unit) × Unit)) := gl (fun X c => unicode_utf8_ValidString_L9 N X c.1.1) N c
theorem unicode_utf8_ValidString_L9_S (N : Nat) (X : (((List UInt8) × Unit) × Unit) → Option ((((List UInt8) × Unit) × Unit))) (s0 : List UInt8) : (roundK Go.Proofs.Tryd.prog (Ev59 N) 400 [47] unicode_utf8_ValidString_L9_I (loopAt Go.Proofs.Tryd.prog [47] 9) X ((s0, ()), ())).run = unicode_utf8_ValidString_L9 N X s0 := by kernel_rfl
noncomputable def Ev60 (N : Nat) : (R : Type) → Env R := Env.addLp (Ev59 N) [47] 0 9 (fun R => lpK Go.Proofs.Tryd.prog unicode_utf8_ValidString_L9_I (fun X c => unicode_utf8_ValidString_L9 N X c.1.1) N)
theorem Ev60_ok (N : Nat) (R : Type) : EnvOK Go.Proofs.Tryd.prog (Ev60 N R) := EnvOK.addLp (Ev59_ok N R) (by kernel_rfl) (lpK_ok (li := unicode_utf8_ValidString_L9_I) (G := fun X c => unicode_utf8_ValidString_L9 N X c.1.1) hmx (Ev59_ok N _) (by kernel_rfl) loopAt_sub (fun (X : CT unicode_utf8_ValidString_L9_I.sh → Option (OT unicode_utf8_ValidString_L9_I.outs)) (c : CT unicode_utf8_ValidString_L9_I.sh) => unicode_utf8_ValidString_L9_S N X c.1.1) N)
noncomputable def unicode_utf8_ValidString_L1_I : LI := ⟨169, 0, [], ⟨[(0, .ty .str)], []⟩, [(.ret, ⟨[(2, .ty .bool)], []⟩), (.exit 0, ⟨[], []⟩)]⟩
noncomputable def unicode_utf8_ValidString_L1 (N : Nat) (X : (((List UInt8) × Unit) × Unit) → Option (((((Bool) × Unit) × Unit) ⊕ (Unit × Unit)))) (s0 : List UInt8) : Option (((((Bool) × Unit) × Unit) ⊕ (Unit × Unit))) :=
 bif (decide ((0 : Int) < (((List.length s0) : Nat) : Int))) then
  Option.bind (getI s0 (0 : Int)) fun (v3 : UInt8) =>
  bif (decide ((((@UInt8.toNat v3) : Nat) : Int) < (128 : Int))) then
   Option.bind (dropI s0 (1 : Int)) fun (v4 : (List UInt8)) =>
   bif (decide ((8 : Int) < (((List.length v4) : Nat) : Int))) then
    Option.bind (@unicode_utf8_word_string N v4) fun (v5 : Int) =>
    bif (@cond Bool @Bool.true (decide ((@Go.bits @Go.BinOp.and @Go.IntKind.u64 v5 (9259542123273814144 : Int)) = (0 : Int))) @Bool.false) then
     Option.bind (dropI v4 (8 : Int)) fun (v6 : (List UInt8)) =>
     bif (decide ((16 : Int) < (((List.length v6) : Nat) : Int))) then
      Option.bind (@unicode_utf8_word_string N v6) fun (v7 : Int) =>
      Option.bind (dropI v6 (8 : Int)) fun (v8 : (List UInt8)) =>
      Option.bind (@unicode_utf8_word_string N v8) fun (v9 : Int) =>
      bif (@cond Bool @Bool.true (decide ((@Go.bits @Go.BinOp.and @Go.IntKind.u64 (@Go.bits @Go.BinOp.or @Go.IntKind.u64 v7 v9) (9259542123273814144 : Int)) = (0 : Int))) @Bool.false) then
       Option.bind (dropI v6 (16 : Int)) fun (v10 : (List UInt8)) =>
       Option.bind (unicode_utf8_ValidString_L9_R N ((v10, @Unit.unit), @Unit.unit)) fun (v11 : (((List UInt8) × Unit) × Unit)) =>
       (X ((v11.1.1, @Unit.unit), @Unit.unit))
      else
       (X ((v6, @Unit.unit), @Unit.unit))
     else
      (X ((v6, @Unit.unit), @Unit.unit))
    else
     (X ((v4, @Unit.unit), @Unit.unit))
   else
    (X ((v4, @Unit.unit), @Unit.unit))
  else
   Option.bind (getI (@List.cons Int (@OfNat.ofNat Int (240 : Nat) (@instOfNat (240 : Nat))) (@List.cons Int (@OfNat.ofNat Int (240 : Nat) (@instOfNat (240 : Nat))) (@List.cons Int (@OfNat.ofNat Int (240 : Nat) (@instOfNat (240 : Nat))) (@List.cons Int (@OfNat.ofNat Int (240 : Nat) (@instOfNat (240 : Nat))) (@List.cons Int (@OfNat.ofNat Int (240 : Nat) (@instOfNat (240 : Nat))) (@List.cons Int (@OfNat.ofNat Int (240 : Nat) (@instOfNat (240 : Nat))) (@List.cons Int (@OfNat.ofNat Int (240 : Nat) (@instOfNat (240 : Nat))) (@List.cons Int (@OfNat.ofNat Int (240 : Nat) (@instOfNat (240 : Nat))) (@List.cons Int (@OfNat.ofNat Int (240 : Nat) (@instOfNat (240 : Nat))) (@List.cons Int (@OfNat.ofNat Int (240 : Nat) (@instOfNat (240 : Nat))) (@List.cons Int (@OfNat.ofNat Int (240 : Nat) (@instOfNat (240 : Nat))) (@List.cons Int (@OfNat.ofNat Int (240 : Nat) (@instOfNat (240 : Nat))) (@List.cons Int (@OfNat.ofNat Int (240 : Nat) (@instOfNat (240 : Nat))) (@List.cons Int (@OfNat.ofNat Int (240 : Nat) (@instOfNat (240 : Nat))) (@List.cons Int (@OfNat.ofNat Int (240 : Nat) (@instOfNat (240 : Nat))) (@List.cons Int (@OfNat.ofNat Int (240 : Nat) (@instOfNat (240 : Nat))) (@List.cons Int (@OfNat.ofNat Int (240 : Nat) (@instOfNat (240 : Nat))) (@List.cons Int (@OfNat.ofNat Int (240 : Nat) (@instOfNat (240 : Nat))) (@List.cons Int (@OfNat.ofNat Int (240 : Nat) (@instOfNat (240 : Nat))) (@List.cons Int (@OfNat.ofNat Int (240 : Nat) (@instOfNat (240 : Nat))) (@List.cons Int (@OfNat.ofNat Int (240 : Nat) (@instOfNat (240 : Nat))) (@List.cons Int (@OfNat.ofNat Int (240 : Nat) (@instOfNat (240 : Nat))) (@List.cons Int (@OfNat.ofNat Int (240 : Nat) (@instOfNat (240 : Nat))) (@List.cons Int (@OfNat.ofNat Int (240 : Nat) (@instOfNat (240 : Nat))) (@List.cons Int (@OfNat.ofNat Int (240 : Nat) (@instOfNat (240 : Nat))) (@List.cons Int (@OfNat.ofNat Int (240 : Nat) (@instOfNat (240 : Nat))) (@List.cons Int (@OfNat.ofNat Int (240 : Nat) (@instOfNat (240 : Nat))) (@List.cons Int (@OfNat.ofNat Int (240 : Nat) (@instOfNat (240 : Nat))) (@List.cons Int (@OfNat.ofNat Int (240 : Nat) (@instOfNat (240 : Nat))) (@List.cons Int (@OfNat.ofNat Int (240 : Nat) (@instOfNat (240 : Nat))) (@List.cons Int (@OfNat.ofNat Int (240 : Nat) (@instOfNat (240 : Nat))) (@List.cons Int (@OfNat.ofNat Int (240 : Nat) (@instOfNat (240 : Nat))) (@List.cons Int (@OfNat.ofNat Int (240 : Nat) (@instOfNat (240 : Nat))) (@List.cons Int (@OfNat.ofNat Int (240 : Nat) (@instOfNat (240 : Nat))) (@List.cons Int (@OfNat.ofNat Int (240 : Nat) (@instOfNat (240 : Nat))) (@List.cons Int (@OfNat.ofNat Int (240 : Nat) (@instOfNat (240 : Nat))) (@List.cons Int (@OfNat.ofNat Int (240 : Nat) (@instOfNat (240 : Nat))) (@List.cons Int (@OfNat.ofNat Int (240 : Nat) (@instOfNat (240 : Nat))) (@List.cons Int (@OfNat.ofNat Int (240 : Nat) (@instOfNat (240 : Nat))) (@List.cons Int (@OfNat.ofNat Int (240 : Nat) (@instOfNat (240 : Nat))) (@List.cons Int (@OfNat.ofNat Int (240 : Nat) (@instOfNat (240 : Nat))) (@List.cons Int (@OfNat.ofNat Int (240 : Nat) (@instOfNat (240 : Nat))) (@List.cons Int (@OfNat.ofNat Int (240 : Nat) (@instOfNat (240 : Nat))) (@List.cons Int (@OfNat.ofNat Int (240 : Nat) (@instOfNat (240 : Nat))) (@List.cons Int (@OfNat.ofNat Int (240 : Nat) (@instOfNat (240 : Nat))) (@List.cons Int (@OfNat.ofNat Int (240 : Nat) (@instOfNat (240 : Nat))) (@List.cons Int (@OfNat.ofNat Int (240 : Nat) (@instOfNat (240 : Nat))) (@List.cons Int (@OfNat.ofNat Int (240 : Nat) (@instOfNat (240 : Nat))) (@List.cons Int (@OfNat.ofNat Int (240 : Nat) (@instOfNat (240 : Nat))) (@List.cons Int (@OfNat.ofNat Int (240 : Nat) (@instOfNat (240 : Nat))) (@List.cons Int (@OfNat.ofNat Int (240 : Nat) (@instOfNat (240 : Nat))) (@List.cons Int (@OfNat.ofNat Int (240 : Nat) (@instOfNat (240 : Nat))) (@List.cons Int (@OfNat.ofNat Int (240 : Nat) (@instOfNat (240 : Nat))) (@List.cons Int (@OfNat.ofNat Int (240 : Nat) (@instOfNat (240 : Nat))) (@List.cons Int (@OfNat.ofNat Int (240 : Nat) (@instOfNat (240 : Nat))) (@List.cons Int (@OfNat.ofNat Int (240 : Nat) (@instOfNat (240 : Nat))) (@List.cons Int (@OfNat.ofNat Int (240 : Nat) (@instOfNat (240 : Nat))) (@List.cons Int (@OfNat.ofNat Int (240 : Nat) (@instOfNat (240 : Nat))) (@List.cons Int (@OfNat.ofNat Int (240 : Nat) (@instOfNat (240 : Nat))) (@List.cons Int (@OfNat.ofNat Int (240 : Nat) (@instOfNat (240 : Nat))) (@List.cons Int (@OfNat.ofNat Int (240 : Nat) (@instOfNat (240 : Nat))) (@List.cons Int (@OfNat.ofNat Int (240 : Nat) (@instOfNat (240 : Nat))) (@List.cons Int (@OfNat.ofNat Int (240 : Nat) (@instOfNat (240 : Nat))) (@List.cons Int (@OfNat.ofNat Int (240 : Nat) (@instOfNat (240 : Nat))) (@List.cons Int (@OfNat.ofNat Int (240 : Nat) (@instOfNat (240 : Nat))) (@List.cons Int (@OfNat.ofNat Int (240 : Nat) (@instOfNat (240 : Nat))) (@List.cons Int (@OfNat.ofNat Int (240 : Nat) (@instOfNat (240 : Nat))) (@List.cons Int (@OfNat.ofNat Int (240 : Nat) (@instOfNat (240 : Nat))) (@List.cons Int (@OfNat.ofNat Int (240 : Nat) (@instOfNat (240 : Nat))) (@List.cons Int (@OfNat.ofNat Int (240 : Nat) (@instOfNat (240 : Nat))) (@List.cons Int (@OfNat.ofNat Int (240 : Nat) (@instOfNat (240 : Nat))) (@List.cons Int (@OfNat.ofNat Int (240 : Nat) (@instOfNat (240 : Nat))) (@List.cons Int (@OfNat.ofNat Int (240 : Nat) (@instOfNat (240 : Nat))) (@List.cons Int (@OfNat.ofNat Int (240 : Nat) (@instOfNat (240 : Nat))) (@List.cons Int (@OfNat.ofNat Int (240 : Nat) (@instOfNat (240 : Nat))) (@List.cons Int (@OfNat.ofNat Int (240 : Nat) (@instOfNat (240 : Nat))) (@List.cons Int (@OfNat.ofNat Int (240 : Nat) (@instOfNat (240 : Nat))) (@List.cons Int (@OfNat.ofNat Int (240 : Nat) (@instOfNat (240 : Nat))) (@List.cons Int (@OfNat.ofNat Int (240 : Nat) (@instOfNat (240 : Nat))) (@List.cons Int (@OfNat.ofNat Int (240 : Nat) (@instOfNat (240 : Nat))) (@List.cons Int (@OfNat.ofNat Int (240 : Nat) (@instOfNat (240 : Nat))) (@List.cons Int (@OfNat.ofNat Int (240 : Nat) (@instOfNat (240 : Nat))) (@List.cons Int (@OfNat.ofNat Int (240 : Nat) (@instOfNat (240 : Nat))) (@List.cons Int (@OfNat.ofNat Int (240 : Nat) (@instOfNat (240 : Nat))) (@List.cons Int (@OfNat.ofNat Int (240 : Nat) (@instOfNat (240 : Nat))) (@List.cons Int (@OfNat.ofNat Int (240 : Nat) (@instOfNat (240 : Nat))) (@List.cons Int (@OfNat.ofNat Int (240 : Nat) (@instOfNat (240 : Nat))) (@List.cons Int (@OfNat.ofNat Int (240 : Nat) (@instOfNat (240 : Nat))) (@List.cons Int (@OfNat.ofNat Int (240 : Nat) (@instOfNat (240 : Nat))) (@List.cons Int (@OfNat.ofNat Int (240 : Nat) (@instOfNat (240 : Nat))) (@List.cons Int (@OfNat.ofNat Int (240 : Nat) (@instOfNat (240 : Nat))) (@List.cons Int (@OfNat.ofNat Int (240 : Nat) (@instOfNat (240 : Nat))) (@List.cons Int (@OfNat.ofNat Int (240 : Nat) (@instOfNat (240 : Nat))) (@List.cons Int (@OfNat.ofNat Int (240 : Nat) (@instOfNat (240 : Nat))) (@List.cons Int (@OfNat.ofNat Int (240 : Nat) (@instOfNat (240 : Nat))) (@List.cons Int (@OfNat.ofNat Int (240 : Nat) (@instOfNat (240 : Nat))) (@List.cons Int (@OfNat.ofNat Int (240 : Nat) (@instOfNat (240 : Nat))) (@List.cons Int (@OfNat.ofNat Int (240 : Nat) (@instOfNat (240 : Nat))) (@List.cons Int (@OfNat.ofNat Int (240 : Nat) (@instOfNat (240 : Nat))) (@List.cons Int (@OfNat.ofNat Int (240 : Nat) (@instOfNat (240 : Nat))) (@List.cons Int (@OfNat.ofNat Int (240 : Nat) (@instOfNat (240 : Nat))) (@List.cons Int (@OfNat.ofNat Int (240 : Nat) (@instOfNat (240 : Nat))) (@List.cons Int (@OfNat.ofNat Int (240 : Nat) (@instOfNat (240 : Nat))) (@List.cons Int (@OfNat.ofNat Int (240 : Nat) (@instOfNat (240 : Nat))) (@List.cons Int (@OfNat.ofNat Int (240 : Nat) (@instOfNat (240 : Nat))) (@List.cons Int (@OfNat.ofNat Int (240 : Nat) (@instOfNat (240 : Nat))) (@List.cons Int (@OfNat.ofNat Int (240 : Nat) (@instOfNat (240 : Nat))) (@List.cons Int (@OfNat.ofNat Int (240 : Nat) (@instOfNat (240 : Nat))) (@List.cons Int (@OfNat.ofNat Int (240 : Nat) (@instOfNat (240 : Nat))) (@List.cons Int (@OfNat.ofNat Int (240 : Nat) (@instOfNat (240 : Nat))) (@List.cons Int (@OfNat.ofNat Int (240 : Nat) (@instOfNat (240 : Nat))) (@List.cons Int (@OfNat.ofNat Int (240 : Nat) (@instOfNat (240 : Nat))) (@List.cons Int (@OfNat.ofNat Int (240 : Nat) (@instOfNat (240 : Nat))) (@List.cons Int (@OfNat.ofNat Int (240 : Nat) (@instOfNat (240 : Nat))) (@List.cons Int (@OfNat.ofNat Int (240 : Nat) (@instOfNat (240 : Nat))) (@List.cons Int (@OfNat.ofNat Int (240 : Nat) (@instOfNat (240 : Nat))) (@List.cons Int (@OfNat.ofNat Int (240 : Nat) (@instOfNat (240 : Nat))) (@List.cons Int (@OfNat.ofNat Int (240 : Nat) (@instOfNat (240 : Nat))) (@List.cons Int (@OfNat.ofNat Int (240 : Nat) (@instOfNat (240 : Nat))) (@List.cons Int (@OfNat.ofNat Int (240 : Nat) (@instOfNat (240 : Nat))) (@List.cons Int (@OfNat.ofNat Int (240 : Nat) (@instOfNat (240 : Nat))) (@List.cons Int (@OfNat.ofNat Int (240 : Nat) (@instOfNat (240 : Nat))) (@List.cons Int (@OfNat.ofNat Int (240 : Nat) (@instOfNat (240 : Nat))) (@List.cons Int (@OfNat.ofNat Int (240 : Nat) (@instOfNat (240 : Nat))) (@List.cons Int (@OfNat.ofNat Int (240 : Nat) (@instOfNat (240 : Nat))) (@List.cons Int (@OfNat.ofNat Int (240 : Nat) (@instOfNat (240 : Nat))) (@List.cons Int (@OfNat.ofNat Int (240 : Nat) (@instOfNat (240 : Nat))) (@List.cons Int (@OfNat.ofNat Int (240 : Nat) (@instOfNat (240 : Nat))) (@List.cons Int (@OfNat.ofNat Int (241 : Nat) (@instOfNat (241 : Nat))) (@List.cons Int (@OfNat.ofNat Int (241 : Nat) (@instOfNat (241 : Nat))) (@List.cons Int (@OfNat.ofNat Int (241 : Nat) (@instOfNat (241 : Nat))) (@List.cons Int (@OfNat.ofNat Int (241 : Nat) (@instOfNat (241 : Nat))) (@List.cons Int (@OfNat.ofNat Int (241 : Nat) (@instOfNat (241 : Nat))) (@List.cons Int (@OfNat.ofNat Int (241 : Nat) (@instOfNat (241 : Nat))) (@List.cons Int (@OfNat.ofNat Int (241 : Nat) (@instOfNat (241 : Nat))) (@List.cons Int (@OfNat.ofNat Int (241 : Nat) (@instOfNat (241 : Nat))) (@List.cons Int (@OfNat.ofNat Int (241 : Nat) (@instOfNat (241 : Nat))) (@List.cons Int (@OfNat.ofNat Int (241 : Nat) (@instOfNat (241 : Nat))) (@List.cons Int (@OfNat.ofNat Int (241 : Nat) (@instOfNat (241 : Nat))) (@List.cons Int (@OfNat.ofNat Int (241 : Nat) (@instOfNat (241 : Nat))) (@List.cons Int (@OfNat.ofNat Int (241 : Nat) (@instOfNat (241 : Nat))) (@List.cons Int (@OfNat.ofNat Int (241 : Nat) (@instOfNat (241 : Nat))) (@List.cons Int (@OfNat.ofNat Int (241 : Nat) (@instOfNat (241 : Nat))) (@List.cons Int (@OfNat.ofNat Int (241 : Nat) (@instOfNat (241 : Nat))) (@List.cons Int (@OfNat.ofNat Int (241 : Nat) (@instOfNat (241 : Nat))) (@List.cons Int (@OfNat.ofNat Int (241 : Nat) (@instOfNat (241 : Nat))) (@List.cons Int (@OfNat.ofNat Int (241 : Nat) (@instOfNat (241 : Nat))) (@List.cons Int (@OfNat.ofNat Int (241 : Nat) (@instOfNat (241 : Nat))) (@List.cons Int (@OfNat.ofNat Int (241 : Nat) (@instOfNat (241 : Nat))) (@List.cons Int (@OfNat.ofNat Int (241 : Nat) (@instOfNat (241 : Nat))) (@List.cons Int (@OfNat.ofNat Int (241 : Nat) (@instOfNat (241 : Nat))) (@List.cons Int (@OfNat.ofNat Int (241 : Nat) (@instOfNat (241 : Nat))) (@List.cons Int (@OfNat.ofNat Int (241 : Nat) (@instOfNat (241 : Nat))) (@List.cons Int (@OfNat.ofNat Int (241 : Nat) (@instOfNat (241 : Nat))) (@List.cons Int (@OfNat.ofNat Int (241 : Nat) (@instOfNat (241 : Nat))) (@List.cons Int (@OfNat.ofNat Int (241 : Nat) (@instOfNat (241 : Nat))) (@List.cons Int (@OfNat.ofNat Int (241 : Nat) (@instOfNat (241 : Nat))) (@List.cons Int (@OfNat.ofNat Int (241 : Nat) (@instOfNat (241 : Nat))) (@List.cons Int (@OfNat.ofNat Int (241 : Nat) (@instOfNat (241 : Nat))) (@List.cons Int (@OfNat.ofNat Int (241 : Nat) (@instOfNat (241 : Nat))) (@List.cons Int (@OfNat.ofNat Int (241 : Nat) (@instOfNat (241 : Nat))) (@List.cons Int (@OfNat.ofNat Int (241 : Nat) (@instOfNat (241 : Nat))) (@List.cons Int (@OfNat.ofNat Int (241 : Nat) (@instOfNat (241 : Nat))) (@List.cons Int (@OfNat.ofNat Int (241 : Nat) (@instOfNat (241 : Nat))) (@List.cons Int (@OfNat.ofNat Int (241 : Nat) (@instOfNat (241 : Nat))) (@List.cons Int (@OfNat.ofNat Int (241 : Nat) (@instOfNat (241 : Nat))) (@List.cons Int (@OfNat.ofNat Int (241 : Nat) (@instOfNat (241 : Nat))) (@List.cons Int (@OfNat.ofNat Int (241 : Nat) (@instOfNat (241 : Nat))) (@List.cons Int (@OfNat.ofNat Int (241 : Nat) (@instOfNat (241 : Nat))) (@List.cons Int (@OfNat.ofNat Int (241 : Nat) (@instOfNat (241 : Nat))) (@List.cons Int (@OfNat.ofNat Int (241 : Nat) (@instOfNat (241 : Nat))) (@List.cons Int (@OfNat.ofNat Int (241 : Nat) (@instOfNat (241 : Nat))) (@List.cons Int (@OfNat.ofNat Int (241 : Nat) (@instOfNat (241 : Nat))) (@List.cons Int (@OfNat.ofNat Int (241 : Nat) (@instOfNat (241 : Nat))) (@List.cons Int (@OfNat.ofNat Int (241 : Nat) (@instOfNat (241 : Nat))) (@List.cons Int (@OfNat.ofNat Int (241 : Nat) (@instOfNat (241 : Nat))) (@List.cons Int (@OfNat.ofNat Int (241 : Nat) (@instOfNat (241 : Nat))) (@List.cons Int (@OfNat.ofNat Int (241 : Nat) (@instOfNat (241 : Nat))) (@List.cons Int (@OfNat.ofNat Int (241 : Nat) (@instOfNat (241 : Nat))) (@List.cons Int (@OfNat.ofNat Int (241 : Nat) (@instOfNat (241 : Nat))) (@List.cons Int (@OfNat.ofNat Int (241 : Nat) (@instOfNat (241 : Nat))) (@List.cons Int (@OfNat.ofNat Int (241 : Nat) (@instOfNat (241 : Nat))) (@List.cons Int (@OfNat.ofNat Int (241 : Nat) (@instOfNat (241 : Nat))) (@List.cons Int (@OfNat.ofNat Int (241 : Nat) (@instOfNat (241 : Nat))) (@List.cons Int (@OfNat.ofNat Int (241 : Nat) (@instOfNat (241 : Nat))) (@List.cons Int (@OfNat.ofNat Int (241 : Nat) (@instOfNat (241 : Nat))) (@List.cons Int (@OfNat.ofNat Int (241 : Nat) (@instOfNat (241 : Nat))) (@List.cons Int (@OfNat.ofNat Int (241 : Nat) (@instOfNat (241 : Nat))) (@List.cons Int (@OfNat.ofNat Int (241 : Nat) (@instOfNat (241 : Nat))) (@List.cons Int (@OfNat.ofNat Int (241 : Nat) (@instOfNat (241 : Nat))) (@List.cons Int (@OfNat.ofNat Int (241 : Nat) (@instOfNat (241 : Nat))) (@List.cons Int (@OfNat.ofNat Int (241 : Nat) (@instOfNat (241 : Nat))) (@List.cons Int (@OfNat.ofNat Int (241 : Nat) (@instOfNat (241 : Nat))) (@List.cons Int (@OfNat.ofNat Int (241 : Nat) (@instOfNat (241 : Nat))) (@List.cons Int (@OfNat.ofNat Int (2 : Nat) (@instOfNat (2 : Nat))) (@List.cons Int (@OfNat.ofNat Int (2 : Nat) (@instOfNat (2 : Nat))) (@List.cons Int (@OfNat.ofNat Int (2 : Nat) (@instOfNat (2 : Nat))) (@List.cons Int (@OfNat.ofNat Int (2 : Nat) (@instOfNat (2 : Nat))) (@List.cons Int (@OfNat.ofNat Int (2 : Nat) (@instOfNat (2 : Nat))) (@List.cons Int (@OfNat.ofNat Int (2 : Nat) (@instOfNat (2 : Nat))) (@List.cons Int (@OfNat.ofNat Int (2 : Nat) (@instOfNat (2 : Nat))) (@List.cons Int (@OfNat.ofNat Int (2 : Nat) (@instOfNat (2 : Nat))) (@List.cons Int (@OfNat.ofNat Int (2 : Nat) (@instOfNat (2 : Nat))) (@List.cons Int (@OfNat.ofNat Int (2 : Nat) (@instOfNat (2 : Nat))) (@List.cons Int (@OfNat.ofNat Int (2 : Nat) (@instOfNat (2 : Nat))) (@List.cons Int (@OfNat.ofNat Int (2 : Nat) (@instOfNat (2 : Nat))) (@List.cons Int (@OfNat.ofNat Int (2 : Nat) (@instOfNat (2 : Nat))) (@List.cons Int (@OfNat.ofNat Int (2 : Nat) (@instOfNat (2 : Nat))) (@List.cons Int (@OfNat.ofNat Int (2 : Nat) (@instOfNat (2 : Nat))) (@List.cons Int (@OfNat.ofNat Int (2 : Nat) (@instOfNat (2 : Nat))) (@List.cons Int (@OfNat.ofNat Int (2 : Nat) (@instOfNat (2 : Nat))) (@List.cons Int (@OfNat.ofNat Int (2 : Nat) (@instOfNat (2 : Nat))) (@List.cons Int (@OfNat.ofNat Int (2 : Nat) (@instOfNat (2 : Nat))) (@List.cons Int (@OfNat.ofNat Int (2 : Nat) (@instOfNat (2 : Nat))) (@List.cons Int (@OfNat.ofNat Int (2 : Nat) (@instOfNat (2 : Nat))) (@List.cons Int (@OfNat.ofNat Int (2 : Nat) (@instOfNat (2 : Nat))) (@List.cons Int (@OfNat.ofNat Int (2 : Nat) (@instOfNat (2 : Nat))) (@List.cons Int (@OfNat.ofNat Int (2 : Nat) (@instOfNat (2 : Nat))) (@List.cons Int (@OfNat.ofNat Int (2 : Nat) (@instOfNat (2 : Nat))) (@List.cons Int (@OfNat.ofNat Int (2 : Nat) (@instOfNat (2 : Nat))) (@List.cons Int (@OfNat.ofNat Int (2 : Nat) (@instOfNat (2 : Nat))) (@List.cons Int (@OfNat.ofNat Int (2 : Nat) (@instOfNat (2 : Nat))) (@List.cons Int (@OfNat.ofNat Int (2 : Nat) (@instOfNat (2 : Nat))) (@List.cons Int (@OfNat.ofNat Int (2 : Nat) (@instOfNat (2 : Nat))) (@List.cons Int (@OfNat.ofNat Int (19 : Nat) (@instOfNat (19 : Nat))) (@List.cons Int (@OfNat.ofNat Int (3 : Nat) (@instOfNat (3 : Nat))) (@List.cons Int (@OfNat.ofNat Int (3 : Nat) (@instOfNat (3 : Nat))) (@List.cons Int (@OfNat.ofNat Int (3 : Nat) (@instOfNat (3 : Nat))) (@List.cons Int (@OfNat.ofNat Int (3 : Nat) (@instOfNat (3 : Nat))) (@List.cons Int (@OfNat.ofNat Int (3 : Nat) (@instOfNat (3 : Nat))) (@List.cons Int (@OfNat.ofNat Int (3 : Nat) (@instOfNat (3 : Nat))) (@List.cons Int (@OfNat.ofNat Int (3 : Nat) (@instOfNat (3 : Nat))) (@List.cons Int (@OfNat.ofNat Int (3 : Nat) (@instOfNat (3 : Nat))) (@List.cons Int (@OfNat.ofNat Int (3 : Nat) (@instOfNat (3 : Nat))) (@List.cons Int (@OfNat.ofNat Int (3 : Nat) (@instOfNat (3 : Nat))) (@List.cons Int (@OfNat.ofNat Int (3 : Nat) (@instOfNat (3 : Nat))) (@List.cons Int (@OfNat.ofNat Int (3 : Nat) (@instOfNat (3 : Nat))) (@List.cons Int (@OfNat.ofNat Int (35 : Nat) (@instOfNat (35 : Nat))) (@List.cons Int (@OfNat.ofNat Int (3 : Nat) (@instOfNat (3 : Nat))) (@List.cons Int (@OfNat.ofNat Int (3 : Nat) (@instOfNat (3 : Nat))) (@List.cons Int (@OfNat.ofNat Int (52 : Nat) (@instOfNat (52 : Nat))) (@List.cons Int (@OfNat.ofNat Int (4 : Nat) (@instOfNat (4 : Nat))) (@List.cons Int (@OfNat.ofNat Int (4 : Nat) (@instOfNat (4 : Nat))) (@List.cons Int (@OfNat.ofNat Int (4 : Nat) (@instOfNat (4 : Nat))) (@List.cons Int (@OfNat.ofNat Int (68 : Nat) (@instOfNat (68 : Nat))) (@List.cons Int (@OfNat.ofNat Int (241 : Nat) (@instOfNat (241 : Nat))) (@List.cons Int (@OfNat.ofNat Int (241 : Nat) (@instOfNat (241 : Nat))) (@List.cons Int (@OfNat.ofNat Int (241 : Nat) (@instOfNat (241 : Nat))) ([(@OfNat.ofNat Int (241 : Nat) (@instOfNat (241 : Nat))), (@OfNat.ofNat Int (241 : Nat) (@instOfNat (241 : Nat))), (@OfNat.ofNat Int (241 : Nat) (@instOfNat (241 : Nat))), (@OfNat.ofNat Int (241 : Nat) (@instOfNat (241 : Nat))), (@OfNat.ofNat Int (241 : Nat) (@instOfNat (241 : Nat))), (@OfNat.ofNat Int (241 : Nat) (@instOfNat (241 : Nat))), (@OfNat.ofNat Int (241 : Nat) (@instOfNat (241 : Nat))), (@OfNat.ofNat Int (241 : Nat) (@instOfNat (241 : Nat)))] : List (Int)))))))))))))))))))))))))))))))))))))))))))))))))))))))))))))))))))))))))))))))))))))))))))))))))))))))))))))))))))))))))))))))))))))))))))))))))))))))))))))))))))))))))))))))))))))))))))))))))))))))))))))))))))))))))))))))))))))))))))))))))))))))))) (((@UInt8.toNat v3) : Nat) : Int)) fun (v4 : Int) =>
   Option.bind (getI ([((@OfNat.ofNat Int (128 : Nat) (@instOfNat (128 : Nat))), (@OfNat.ofNat Int (191 : Nat) (@instOfNat (191 : Nat)))), ((@OfNat.ofNat Int (160 : Nat) (@instOfNat (160 : Nat))), (@OfNat.ofNat Int (191 : Nat) (@instOfNat (191 : Nat)))), ((@OfNat.ofNat Int (128 : Nat) (@instOfNat (128 : Nat))), (@OfNat.ofNat Int (159 : Nat) (@instOfNat (159 : Nat)))), ((@OfNat.ofNat Int (144 : Nat) (@instOfNat (144 : Nat))), (@OfNat.ofNat Int (191 : Nat) (@instOfNat (191 : Nat)))), ((@OfNat.ofNat Int (128 : Nat) (@instOfNat (128 : Nat))), (@OfNat.ofNat Int (143 : Nat) (@instOfNat (143 : Nat)))), ((@OfNat.ofNat Int (0 : Nat) (@instOfNat (0 : Nat))), (@OfNat.ofNat Int (0 : Nat) (@instOfNat (0 : Nat)))), ((@OfNat.ofNat Int (0 : Nat) (@instOfNat (0 : Nat))), (@OfNat.ofNat Int (0 : Nat) (@instOfNat (0 : Nat)))), ((@OfNat.ofNat Int (0 : Nat) (@instOfNat (0 : Nat))), (@OfNat.ofNat Int (0 : Nat) (@instOfNat (0 : Nat)))), ((@OfNat.ofNat Int (0 : Nat) (@instOfNat (0 : Nat))), (@OfNat.ofNat Int (0 : Nat) (@instOfNat (0 : Nat)))), ((@OfNat.ofNat Int (0 : Nat) (@instOfNat (0 : Nat))), (@OfNat.ofNat Int (0 : Nat) (@instOfNat (0 : Nat)))), ((@OfNat.ofNat Int (0 : Nat) (@instOfNat (0 : Nat))), (@OfNat.ofNat Int (0 : Nat) (@instOfNat (0 : Nat)))), ((@OfNat.ofNat Int (0 : Nat) (@instOfNat (0 : Nat))), (@OfNat.ofNat Int (0 : Nat) (@instOfNat (0 : Nat)))), ((@OfNat.ofNat Int (0 : Nat) (@instOfNat (0 : Nat))), (@OfNat.ofNat Int (0 : Nat) (@instOfNat (0 : Nat)))), ((@OfNat.ofNat Int (0 : Nat) (@instOfNat (0 : Nat))), (@OfNat.ofNat Int (0 : Nat) (@instOfNat (0 : Nat)))), ((@OfNat.ofNat Int (0 : Nat) (@instOfNat (0 : Nat))), (@OfNat.ofNat Int (0 : Nat) (@instOfNat (0 : Nat)))), ((@OfNat.ofNat Int (0 : Nat) (@instOfNat (0 : Nat))), (@OfNat.ofNat Int (0 : Nat) (@instOfNat (0 : Nat))))] : List ((Int × Int))) (@Int.fdiv v4 (@HPow.hPow Int Nat Int (@instHPow Int Nat (@instPowNat Int @Int.instNatPow)) (2 : Int) (@Min.min Nat @instMinNat (Int.toNat (4 : Int)) (@Go.IntKind.bits @Go.IntKind.u8))))) fun (v5 : (Int × Int)) =>
   bif (decide ((Go.IntKind.wrap .i64 (@Go.bits @Go.BinOp.and @Go.IntKind.u8 v4 (7 : Int))) = (2 : Int))) then
    bif (decide ((((List.length s0) : Nat) : Int) < (2 : Int))) then
     some ((.inl ((@Bool.false, @Unit.unit), @Unit.unit)))
    else
     Option.bind (getI s0 (1 : Int)) fun (v6 : UInt8) =>
     bif (@cond Bool @Bool.false @Bool.true (decide ((((@UInt8.toNat v6) : Nat) : Int) < v5.1))) then
      some ((.inl ((@Bool.false, @Unit.unit), @Unit.unit)))
     else
      Option.bind (getI s0 (1 : Int)) fun (v7 : UInt8) =>
      bif (@cond Bool @Bool.false @Bool.true (decide (v5.2 < (((@UInt8.toNat v7) : Nat) : Int)))) then
       some ((.inl ((@Bool.false, @Unit.unit), @Unit.unit)))
      else
       Option.bind (dropI s0 (2 : Int)) fun (v8 : (List UInt8)) =>
       (X ((v8, @Unit.unit), @Unit.unit))
   else
    bif (decide ((Go.IntKind.wrap .i64 (@Go.bits @Go.BinOp.and @Go.IntKind.u8 v4 (7 : Int))) = (3 : Int))) then
     bif (decide ((((List.length s0) : Nat) : Int) < (3 : Int))) then
      some ((.inl ((@Bool.false, @Unit.unit), @Unit.unit)))
     else
      Option.bind (getI s0 (1 : Int)) fun (v6 : UInt8) =>
      bif (@cond Bool @Bool.false @Bool.true (decide ((((@UInt8.toNat v6) : Nat) : Int) < v5.1))) then
       some ((.inl ((@Bool.false, @Unit.unit), @Unit.unit)))
      else
       Option.bind (getI s0 (1 : Int)) fun (v7 : UInt8) =>
       bif (@cond Bool @Bool.false @Bool.true (decide (v5.2 < (((@UInt8.toNat v7) : Nat) : Int)))) then
        some ((.inl ((@Bool.false, @Unit.unit), @Unit.unit)))
       else
        Option.bind (getI s0 (2 : Int)) fun (v8 : UInt8) =>
        bif (@cond Bool @Bool.false @Bool.true (decide ((((@UInt8.toNat v8) : Nat) : Int) < (128 : Int)))) then
         some ((.inl ((@Bool.false, @Unit.unit), @Unit.unit)))
        else
         Option.bind (getI s0 (2 : Int)) fun (v9 : UInt8) =>
         bif (@cond Bool @Bool.false @Bool.true (decide ((191 : Int) < (((@UInt8.toNat v9) : Nat) : Int)))) then
          some ((.inl ((@Bool.false, @Unit.unit), @Unit.unit)))
         else
          Option.bind (dropI s0 (3 : Int)) fun (v10 : (List UInt8)) =>
          (X ((v10, @Unit.unit), @Unit.unit))
    else
     bif (decide ((Go.IntKind.wrap .i64 (@Go.bits @Go.BinOp.and @Go.IntKind.u8 v4 (7 : Int))) = (4 : Int))) then
      bif (decide ((((List.length s0) : Nat) : Int) < (4 : Int))) then
       some ((.inl ((@Bool.false, @Unit.unit), @Unit.unit)))
      else
       Option.bind (getI s0 (1 : Int)) fun (v6 : UInt8) =>
       bif (@cond Bool @Bool.false @Bool.true (decide ((((@UInt8.toNat v6) : Nat) : Int) < v5.1))) then
        some ((.inl ((@Bool.false, @Unit.unit), @Unit.unit)))
       else
        Option.bind (getI s0 (1 : Int)) fun (v7 : UInt8) =>
        bif (@cond Bool @Bool.false @Bool.true (decide (v5.2 < (((@UInt8.toNat v7) : Nat) : Int)))) then
         some ((.inl ((@Bool.false, @Unit.unit), @Unit.unit)))
        else
         Option.bind (getI s0 (2 : Int)) fun (v8 : UInt8) =>
         bif (@cond Bool @Bool.false @Bool.true (decide ((((@UInt8.toNat v8) : Nat) : Int) < (128 : Int)))) then
          some ((.inl ((@Bool.false, @Unit.unit), @Unit.unit)))
         else
          Option.bind (getI s0 (2 : Int)) fun (v9 : UInt8) =>
          bif (@cond Bool @Bool.false @Bool.true (decide ((191 : Int) < (((@UInt8.toNat v9) : Nat) : Int)))) then
           some ((.inl ((@Bool.false, @Unit.unit), @Unit.unit)))
          else
           Option.bind (getI s0 (3 : Int)) fun (v10 : UInt8) =>
           bif (@cond Bool @Bool.false @Bool.true (decide ((((@UInt8.toNat v10) : Nat) : Int) < (128 : Int)))) then
            some ((.inl ((@Bool.false, @Unit.unit), @Unit.unit)))
           else
            Option.bind (getI s0 (3 : Int)) fun (v11 : UInt8) =>
            bif (@cond Bool @Bool.false @Bool.true (decide ((191 : Int) < (((@UInt8.toNat v11) : Nat) : Int)))) then
             some ((.inl ((@Bool.false, @Unit.unit), @Unit.unit)))
            else
             Option.bind (dropI s0 (4 : Int)) fun (v12 : (List UInt8)) =>
             (X ((v12, @Unit.unit), @Unit.unit))
     else
      some ((.inl ((@Bool.false, @Unit.unit), @Unit.unit)))
 else
  some ((.inr (@Unit.unit, @Unit.unit)))
noncomputable def unicode_utf8_ValidString_L1_R (N : Nat) (c : (((List UInt8) × Unit) × Unit)) : Option (((((Bool) × Unit) × Unit) ⊕ (Unit × Unit))) := gl (fun X c => unicode_utf8_ValidString_L1 N X c.1.1) N c
theorem unicode_utf8_ValidString_L1_S (N : Nat) (X : (((List UInt8) × Unit) × Unit) → Option (((((Bool) × Unit) × Unit) ⊕ (Unit × Unit)))) (s0 : List UInt8) : (roundK Go.Proofs.Tryd.prog (Ev60 N) 400 [47] unicode_utf8_ValidString_L1_I (loopAt Go.Proofs.Tryd.prog [47] 1) X ((s0, ()), ())).run = unicode_utf8_ValidString_L1 N X s0 := by kernel_rfl
noncomputable def Ev61 (N : Nat) : (R : Type) → Env R := Env.addLp (Ev60 N) [47] 0 1 (fun R => lpK Go.Proofs.Tryd.prog unicode_utf8_ValidString_L1_I (fun X c => unicode_utf8_ValidString_L1 N X c.1.1) N)
theorem Ev61_ok (N : Nat) (R : Type) : EnvOK Go.Proofs.Tryd.prog (Ev61 N R) := EnvOK.addLp (Ev60_ok N R) (by kernel_rfl) (lpK_ok (li := unicode_utf8_ValidString_L1_I) (G := fun X c => unicode_utf8_ValidString_L1 N X c.1.1) hmx (Ev60_ok N _) (by kernel_rfl) loopAt_sub (fun (X : CT unicode_utf8_ValidString_L1_I.sh → Option (OT unicode_utf8_ValidString_L1_I.outs)) (c : CT unicode_utf8_ValidString_L1_I.sh) => unicode_utf8_ValidString_L1_S N X c.1.1) N)
noncomputable def unicode_utf8_ValidString (N : Nat) (s0 : List UInt8) : Option (Bool) :=
 Option.bind (unicode_utf8_ValidString_L1_R N ((s0, @Unit.unit), @Unit.unit)) fun (v2 : (((Bool × Unit) × Unit) ⊕ (Unit × Unit))) =>
 Sum.elim
  (fun (v3 : ((Bool × Unit) × Unit)) =>
  some (v3.1.1))
  (fun (v3 : (Unit × Unit)) =>
  some (@Bool.true)) v2
theorem unicode_utf8_ValidString_S (N : Nat) (s0 : List UInt8) : (runK Go.Proofs.Tryd.prog (Ev61 N) 400 47 [.str] [.bool] (s0, ())).run = unicode_utf8_ValidString N s0 := by kernel_rfl
theorem unicode_utf8_ValidString_C (N : Nat) (s0 : List UInt8) (y : Bool) (h : unicode_utf8_ValidString N s0 = some y) : CallsK Go.Proofs.Tryd.prog 47 (valA [.str] (s0, ())) (tupV (valR [.bool] y)) := runK_ok hmx (Ev61_ok N _) (okFn_ok (by kernel_rfl)) (by rw [unicode_utf8_ValidString_S]; exact h)
noncomputable def Ev62 (N : Nat) : (R : Type) → Env R := Env.addFn (Ev61 N) 47 (fun R => fnK [.str] [.bool] (fun c => unicode_utf8_ValidString N c.1))
theorem Ev62_ok (N : Nat) (R : Type) : EnvOK Go.Proofs.Tryd.prog (Ev62 N R) := EnvOK.addFn hmx (Ev61_ok N R) (Ev61_ok N _) (by kernel_rfl) (fun c => unicode_utf8_ValidString_S N c.1)
noncomputable def unicode_utf8_RuneCountInString_L2_I : LI := ⟨10, 0, [], ⟨[(2, .ty (.int .i64)), (4, .lit (.box 0 0))], [.itr]⟩, [(.exit 0, ⟨[(2, .ty (.int .i64))], []⟩)]⟩
noncomputable def unicode_utf8_RuneCountInString_L2 (N : Nat) (X : (((Int) × Unit) × ((List UInt8) × ((Int) × Unit))) → Option ((((Int) × Unit) × Unit))) (n2 : Int) (h0 : List UInt8) (h1 : Int) : Option ((((Int) × Unit) × Unit)) :=
 bif (decide ((Int.toNat h1) < (List.length h0))) then
  (X (((Go.IntKind.wrap .i64 (n2 + (1 : Int))), @Unit.unit), (h0, (((((Int.toNat h1) : Nat) : Int) + (@rdec h0 h1).2), @Unit.unit))))
 else
  some (((n2, @Unit.unit), @Unit.unit))
noncomputable def unicode_utf8_RuneCountInString_L2_R (N : Nat) (c : (((Int) × Unit) × ((List UInt8) × ((Int) × Unit)))) : Option ((((Int) × Unit) × Unit)) := gl (fun X c => unicode_utf8_RuneCountInString_L2 N X c.1.1 c.2.1 c.2.2.1) N c
theorem unicode_utf8_RuneCountInString_L2_S (N : Nat) (X : (((Int) × Unit) × ((List UInt8) × ((Int) × Unit))) → Option ((((Int) × Unit) × Unit))) (n2 : Int) (h0 : List UInt8) (h1 : Int) : (roundK Go.Proofs.Tryd.prog (Ev62 N) 400 [61] unicode_utf8_RuneCountInString_L2_I (loopAt Go.Proofs.Tryd.prog [61] 2) X ((n2, ()), (h0, h1, ()))).run = unicode_utf8_RuneCountInString_L2 N X n2 h0 h1 := by kernel_rfl
noncomputable def Ev63 (N : Nat) : (R : Type) → Env R := Env.addLp (Ev62 N) [61] 0 2 (fun R => lpK Go.Proofs.Tryd.prog unicode_utf8_RuneCountInString_L2_I (fun X c => unicode_utf8_RuneCountInString_L2 N X c.1.1 c.2.1 c.2.2.1) N)
theorem Ev63_ok (N : Nat) (R : Type) : EnvOK Go.Proofs.Tryd.prog (Ev63 N R) := EnvOK.addLp (Ev62_ok N R) (by kernel_rfl) (lpK_ok (li := unicode_utf8_RuneCountInString_L2_I) (G := fun X c => unicode_utf8_RuneCountInString_L2 N X c.1.1 c.2.1 c.2.2.1) hmx (Ev62_ok N _) (by kernel_rfl) loopAt_sub (fun (X : CT unicode_utf8_RuneCountInString_L2_I.sh → Option (OT unicode_utf8_RuneCountInString_L2_I.outs)) (c : CT unicode_utf8_RuneCountInString_L2_I.sh) => unicode_utf8_RuneCountInString_L2_S N X c.1.1 c.2.1 c.2.2.1) N)
noncomputable def unicode_utf8_RuneCountInString (N : Nat) (s0 : List UInt8) : Option (Int) :=
 Option.bind (unicode_utf8_RuneCountInString_L2_R N (((0 : Int), @Unit.unit), (s0, ((0 : Int), @Unit.unit)))) fun (v2 : ((Int × Unit) × Unit)) =>
 some (v2.1.1)
theorem unicode_utf8_RuneCountInString_S (N : Nat) (s0 : List UInt8) : (runK Go.Proofs.Tryd.prog (Ev63 N) 400 61 [.str] [(.int .i64)] (s0, ())).run = unicode_utf8_RuneCountInString N s0 := by kernel_rfl
theorem unicode_utf8_RuneCountInString_C (N : Nat) (s0 : List UInt8) (y : Int) (h : unicode_utf8_RuneCountInString N s0 = some y) : CallsK Go.Proofs.Tryd.prog 61 (valA [.str] (s0, ())) (tupV (valR [(.int .i64)] y)) := runK_ok hmx (Ev63_ok N _) (okFn_ok (by kernel_rfl)) (by rw [unicode_utf8_RuneCountInString_S]; exact h)
noncomputable def Ev64 (N : Nat) : (R : Type) → Env R := Env.addFn (Ev63 N) 61 (fun R => fnK [.str] [(.int .i64)] (fun c => unicode_utf8_RuneCountInString N c.1))
theorem Ev64_ok (N : Nat) (R : Type) : EnvOK Go.Proofs.Tryd.prog (Ev64 N R) := EnvOK.addFn hmx (Ev63_ok N R) (Ev63_ok N _) (by kernel_rfl) (fun c => unicode_utf8_RuneCountInString_S N c.1)
noncomputable def utf16_Count (N : Nat) (s0 : List UInt8) : Option (Int) :=
 Option.bind (@unicode_utf8_ValidString N s0) fun (v2 : Bool) =>
 bif (!v2) then
  some ((0 : Int))
 else
  Option.bind (@unicode_utf8_RuneCountInString N s0) fun (v3 : Int) =>
  some (v3)
theorem utf16_Count_S (N : Nat) (s0 : List UInt8) : (runK Go.Proofs.Tryd.prog (Ev64 N) 400 48 [.str] [(.int .i64)] (s0, ())).run = utf16_Count N s0 := by kernel_rfl
theorem utf16_Count_C (N : Nat) (s0 : List UInt8) (y : Int) (h : utf16_Count N s0 = some y) : CallsK Go.Proofs.Tryd.prog 48 (valA [.str] (s0, ())) (tupV (valR [(.int .i64)] y)) := runK_ok hmx (Ev64_ok N _) (okFn_ok (by kernel_rfl)) (by rw [utf16_Count_S]; exact h)
noncomputable def Ev65 (N : Nat) : (R : Type) → Env R := Env.addFn (Ev64 N) 48 (fun R => fnK [.str] [(.int .i64)] (fun c => utf16_Count N c.1))
theorem Ev65_ok (N : Nat) (R : Type) : EnvOK Go.Proofs.Tryd.prog (Ev65 N R) := EnvOK.addFn hmx (Ev64_ok N R) (Ev64_ok N _) (by kernel_rfl) (fun c => utf16_Count_S N c.1)
noncomputable def utf16_May (N : Nat) (s0 : List UInt8) : Option (Int) :=
 Option.bind (@unicode_utf8_ValidString N s0) fun (v2 : Bool) =>
 bif (!v2) then
  some ((3 : Int))
 else
  Option.bind (@utf16_Count N s0) fun (v3 : Int) =>
  bif (decide ((64 : Int) < v3)) then
   some ((8 : Int))
  else
   some ((0 : Int))
theorem utf16_May_S (N : Nat) (s0 : List UInt8) : (runK Go.Proofs.Tryd.prog (Ev65 N) 400 30 [.str] [(.int .i64)] (s0, ())).run = utf16_May N s0 := by kernel_rfl
theorem utf16_May_C (N : Nat) (s0 : List UInt8) (y : Int) (h : utf16_May N s0 = some y) : CallsK Go.Proofs.Tryd.prog 30 (valA [.str] (s0, ())) (tupV (valR [(.int .i64)] y)) := runK_ok hmx (Ev65_ok N _) (okFn_ok (by kernel_rfl)) (by rw [utf16_May_S]; exact h)
noncomputable def Ev66 (N : Nat) : (R : Type) → Env R := Env.addFn (Ev65 N) 30 (fun R => fnK [.str] [(.int .i64)] (fun c => utf16_May N c.1))
theorem Ev66_ok (N : Nat) (R : Type) : EnvOK Go.Proofs.Tryd.prog (Ev66 N R) := EnvOK.addFn hmx (Ev65_ok N R) (Ev65_ok N _) (by kernel_rfl) (fun c => utf16_May_S N c.1)
noncomputable def Ev67 (N : Nat) : (R : Type) → Env R := Env.addMv (Ev66 N) [(31, 8), (31, 10)]
theorem Ev67_ok (N : Nat) (R : Type) : EnvOK Go.Proofs.Tryd.prog (Ev67 N R) := EnvOK.addMv (Ev66_ok N R) [(31, 8), (31, 10)]
noncomputable def utf16_Units_L5_I : LI := ⟨36, 0, [(3, 72)], ⟨[(3, .lit (.own 0)), (11, .lit (.box 1 0))], [.own (.int .u16) 72, .itr]⟩, [(.exit 0, ⟨[(3, .lit (.own 0))], [.own (.int .u16) 72]⟩)]⟩
noncomputable def utf16_Units_L5 (N : Nat) (X : (Unit × ((List (Int)) × ((List UInt8) × ((Int) × Unit)))) → Option ((Unit × ((List (Int)) × Unit)))) (h0 : List (Int)) (h1 : List UInt8) (h2 : Int) : Option ((Unit × ((List (Int)) × Unit))) :=
 bif (decide ((Int.toNat h2) < (List.length h1))) then
  bif (decide ((@rdec h1 h2).1 < (65536 : Int))) then
   bif (roomB ((List.length h0) + (List.length ([(Go.IntKind.wrap .u16 (@rdec h1 h2).1)] : List (Int)))) 2) then
    (X (@Unit.unit, ((h0 ++ ([(Go.IntKind.wrap .u16 (@rdec h1 h2).1)] : List (Int))), (h1, (((((Int.toNat h2) : Nat) : Int) + (@rdec h1 h2).2), @Unit.unit)))))
   else
    none
  else
   bif (roomB ((List.length h0) + (List.length ([(Go.IntKind.wrap .u16 (Go.IntKind.wrap .i32 ((55296 : Int) + (@Int.fdiv (Go.IntKind.wrap .i32 ((@rdec h1 h2).1 - (65536 : Int))) (@HPow.hPow Int Nat Int (@instHPow Int Nat (@instPowNat Int @Int.instNatPow)) (2 : Int) (@Min.min Nat @instMinNat (Int.toNat (10 : Int)) (@Go.IntKind.bits @Go.IntKind.i32))))))), (Go.IntKind.wrap .u16 (Go.IntKind.wrap .i32 ((56320 : Int) + (@Go.bits @Go.BinOp.and @Go.IntKind.i32 (Go.IntKind.wrap .i32 ((@rdec h1 h2).1 - (65536 : Int))) (1023 : Int)))))] : List (Int)))) 2) then
    (X (@Unit.unit, ((h0 ++ ([(Go.IntKind.wrap .u16 (Go.IntKind.wrap .i32 ((55296 : Int) + (@Int.fdiv (Go.IntKind.wrap .i32 ((@rdec h1 h2).1 - (65536 : Int))) (@HPow.hPow Int Nat Int (@instHPow Int Nat (@instPowNat Int @Int.instNatPow)) (2 : Int) (@Min.min Nat @instMinNat (Int.toNat (10 : Int)) (@Go.IntKind.bits @Go.IntKind.i32))))))), (Go.IntKind.wrap .u16 (Go.IntKind.wrap .i32 ((56320 : Int) + (@Go.bits @Go.BinOp.and @Go.IntKind.i32 (Go.IntKind.wrap .i32 ((@rdec h1 h2).1 - (65536 : Int))) (1023 : Int)))))] : List (Int))), (h1, (((((Int.toNat h2) : Nat) : Int) + (@rdec h1 h2).2), @Unit.unit)))))
   else
    none
 else
  some ((@Unit.unit, (h0, @Unit.unit)))
noncomputable def utf16_Units_L5_R (N : Nat) (c : (Unit × ((List (Int)) × ((List UInt8) × ((Int) × Unit))))) : Option ((Unit × ((List (Int)) × Unit))) := gl (fun X c => utf16_Units_L5 N X c.2.1 c.2.2.1 c.2.2.2.1) N c
theorem utf16_Units_L5_S (N : Nat) (X : (Unit × ((List (Int)) × ((List UInt8) × ((Int) × Unit)))) → Option ((Unit × ((List (Int)) × Unit)))) (h0 : List (Int)) (h1 : List UInt8) (h2 : Int) : (roundK Go.Proofs.Tryd.prog (Ev67 N) 400 [31] utf16_Units_L5_I (loopAt Go.Proofs.Tryd.prog [31] 5) X ((), (h0, h1, h2, ()))).run = utf16_Units_L5 N X h0 h1 h2 := by kernel_rfl
noncomputable def Ev68 (N : Nat) : (R : Type) → Env R := Env.addLp (Ev67 N) [31] 0 5 (fun R => lpK Go.Proofs.Tryd.prog utf16_Units_L5_I (fun X c => utf16_Units_L5 N X c.2.1 c.2.2.1 c.2.2.2.1) N)
theorem Ev68_ok (N : Nat) (R : Type) : EnvOK Go.Proofs.Tryd.prog (Ev68 N R) := EnvOK.addLp (Ev67_ok N R) (by kernel_rfl) (lpK_ok (li := utf16_Units_L5_I) (G := fun X c => utf16_Units_L5 N X c.2.1 c.2.2.1 c.2.2.2.1) hmx (Ev67_ok N _) (by kernel_rfl) loopAt_sub (fun (X : CT utf16_Units_L5_I.sh → Option (OT utf16_Units_L5_I.outs)) (c : CT utf16_Units_L5_I.sh) => utf16_Units_L5_S N X c.2.1 c.2.2.1 c.2.2.2.1) N)
noncomputable def utf16_Units (N : Nat) (s0 : List UInt8) : Option (List (Int)) :=
 Option.bind (@utf16_May N s0) fun (v2 : Int) =>
 bif (!(decide (v2 = (0 : Int)))) then
  some (([] : List (Int)))
 else
  Option.bind (utf16_Units_L5_R N (@Unit.unit, (([] : List (Int)), (s0, ((0 : Int), @Unit.unit))))) fun (v3 : (Unit × ((List Int) × Unit))) =>
  some (v3.2.1)
theorem utf16_Units_S (N : Nat) (s0 : List UInt8) : (runK Go.Proofs.Tryd.prog (Ev68 N) 400 31 [.str] [(.sl (.int .u16))] (s0, ())).run = utf16_Units N s0 := by kernel_rfl
theorem utf16_Units_C (N : Nat) (s0 : List UInt8) (y : List (Int)) (h : utf16_Units N s0 = some y) : CallsK Go.Proofs.Tryd.prog 31 (valA [.str] (s0, ())) (tupV (valR [(.sl (.int .u16))] y)) := runK_ok hmx (Ev68_ok N _) (okFn_ok (by kernel_rfl)) (by rw [utf16_Units_S]; exact h)
noncomputable def Ev69 (N : Nat) : (R : Type) → Env R := Env.addFn (Ev68 N) 31 (fun R => fnK [.str] [(.sl (.int .u16))] (fun c => utf16_Units N c.1))
theorem Ev69_ok (N : Nat) (R : Type) : EnvOK Go.Proofs.Tryd.prog (Ev69 N R) := EnvOK.addFn hmx (Ev68_ok N R) (Ev68_ok N _) (by kernel_rfl) (fun c => utf16_Units_S N c.1)
noncomputable def utf16_Lay_L6_I : LI := ⟨33, 0, [(5, 5)], ⟨[(5, .lit (.own 0)), (16, .ty (.sl (.int .u16))), (17, .ty (.int .i64)), (18, .ty (.int .i64))], [.own (.int .u8) 5]⟩, [(.exit 0, ⟨[(5, .lit (.own 0))], [.own (.int .u8) 5]⟩)]⟩
noncomputable def utf16_Lay_L6 (N : Nat) (X : (((List (Int)) × ((Int) × ((Int) × Unit))) × ((List (Int)) × Unit)) → Option ((Unit × ((List (Int)) × Unit)))) (x16 : List (Int)) (x17 : Int) (x18 : Int) (h0 : List (Int)) : Option ((Unit × ((List (Int)) × Unit))) :=
 bif (decide (x18 < x17)) then
  Option.bind (getI x16 x18) fun (v6 : Int) =>
  Option.bind (@octs_Put N (Go.IntKind.wrap .u64 v6) (2 : Int) @Bool.true) fun (v7 : ((List Int) × Int)) =>
  bif (roomB ((List.length h0) + (List.length v7.1)) 1) then
   (X ((x16, (x17, ((Go.IntKind.wrap .i64 (x18 + (1 : Int))), @Unit.unit))), ((h0 ++ v7.1), @Unit.unit)))
  else
   none
 else
  some ((@Unit.unit, (h0, @Unit.unit)))
noncomputable def utf16_Lay_L6_R (N : Nat) (c : (((List (Int)) × ((Int) × ((Int) × Unit))) × ((List (Int)) × Unit))) : Option ((Unit × ((List (Int)) × Unit))) := gl (fun X c => utf16_Lay_L6 N X c.1.1 c.1.2.1 c.1.2.2.1 c.2.1) N c
theorem utf16_Lay_L6_S (N : Nat) (X : (((List (Int)) × ((Int) × ((Int) × Unit))) × ((List (Int)) × Unit)) → Option ((Unit × ((List (Int)) × Unit)))) (x16 : List (Int)) (x17 : Int) (x18 : Int) (h0 : List (Int)) : (roundK Go.Proofs.Tryd.prog (Ev69 N) 400 [20] utf16_Lay_L6_I (loopAt Go.Proofs.Tryd.prog [20] 6) X ((x16, x17, x18, ()), (h0, ()))).run = utf16_Lay_L6 N X x16 x17 x18 h0 := by kernel_rfl
noncomputable def Ev70 (N : Nat) : (R : Type) → Env R := Env.addLp (Ev69 N) [20] 0 6 (fun R => lpK Go.Proofs.Tryd.prog utf16_Lay_L6_I (fun X c => utf16_Lay_L6 N X c.1.1 c.1.2.1 c.1.2.2.1 c.2.1) N)
theorem Ev70_ok (N : Nat) (R : Type) : EnvOK Go.Proofs.Tryd.prog (Ev70 N R) := EnvOK.addLp (Ev69_ok N R) (by kernel_rfl) (lpK_ok (li := utf16_Lay_L6_I) (G := fun X c => utf16_Lay_L6 N X c.1.1 c.1.2.1 c.1.2.2.1 c.2.1) hmx (Ev69_ok N _) (by kernel_rfl) loopAt_sub (fun (X : CT utf16_Lay_L6_I.sh → Option (OT utf16_Lay_L6_I.outs)) (c : CT utf16_Lay_L6_I.sh) => utf16_Lay_L6_S N X c.1.1 c.1.2.1 c.1.2.2.1 c.2.1) N)
noncomputable def utf16_Lay (N : Nat) (s0 : List UInt8) : Option ((List (Int)) × Int) :=
 Option.bind (@utf16_May N s0) fun (v2 : Int) =>
 bif (!(decide (v2 = (0 : Int)))) then
  some ((([] : List (Int)), v2))
 else
  Option.bind (@utf16_Units N s0) fun (v3 : (List Int)) =>
  Option.bind (utf16_Lay_L6_R N ((v3, ((((List.length v3) : Nat) : Int), ((0 : Int), @Unit.unit))), (([] : List (Int)), @Unit.unit))) fun (v4 : (Unit × ((List Int) × Unit))) =>
  some ((v4.2.1, (0 : Int)))
theorem utf16_Lay_S (N : Nat) (s0 : List UInt8) : (runK Go.Proofs.Tryd.prog (Ev70 N) 400 20 [.str] [(.sl (.int .u8)), (.int .i64)] (s0, ())).run = utf16_Lay N s0 := by kernel_rfl
theorem utf16_Lay_C (N : Nat) (s0 : List UInt8) (y : (List (Int)) × Int) (h : utf16_Lay N s0 = some y) : CallsK Go.Proofs.Tryd.prog 20 (valA [.str] (s0, ())) (tupV (valR [(.sl (.int .u8)), (.int .i64)] y)) := runK_ok hmx (Ev70_ok N _) (okFn_ok (by kernel_rfl)) (by rw [utf16_Lay_S]; exact h)
noncomputable def Ev71 (N : Nat) : (R : Type) → Env R := Env.addFn (Ev70 N) 20 (fun R => fnK [.str] [(.sl (.int .u8)), (.int .i64)] (fun c => utf16_Lay N c.1))
theorem Ev71_ok (N : Nat) (R : Type) : EnvOK Go.Proofs.Tryd.prog (Ev71 N R) := EnvOK.addFn hmx (Ev70_ok N R) (Ev70_ok N _) (by kernel_rfl) (fun c => utf16_Lay_S N c.1)
noncomputable def nthash_Of (N : Nat) (password0 : List UInt8) : Option ((Arr (Int) 16) × Int) :=
 Option.bind (@utf16_Lay N password0) fun (v2 : ((List Int) × Int)) =>
 bif (!(decide (v2.2 = (0 : Int)))) then
  some (((@Arr.cons Int (15 : Nat) (0 : Int) (@Arr.cons Int (14 : Nat) (0 : Int) (@Arr.cons Int (13 : Nat) (0 : Int) (@Arr.cons Int (12 : Nat) (0 : Int) (@Arr.cons Int (11 : Nat) (0 : Int) (@Arr.cons Int (10 : Nat) (0 : Int) (@Arr.cons Int (9 : Nat) (0 : Int) (@Arr.cons Int (8 : Nat) (0 : Int) (@Arr.cons Int (7 : Nat) (0 : Int) (@Arr.cons Int (6 : Nat) (0 : Int) (@Arr.cons Int (5 : Nat) (0 : Int) (@Arr.cons Int (4 : Nat) (0 : Int) (@Arr.cons Int (3 : Nat) (0 : Int) (@Arr.cons Int (2 : Nat) (0 : Int) (@Arr.cons Int (1 : Nat) (0 : Int) (@Arr.cons Int (0 : Nat) (0 : Int) (@Arr.nil Int))))))))))))))))), v2.2))
 else
  Option.bind (@md4_Of N ([v2.1] : List ((List Int)))) fun (v3 : (Arr Int 16)) =>
  some ((v3, (0 : Int)))
theorem nthash_Of_S (N : Nat) (password0 : List UInt8) : (runK Go.Proofs.Tryd.prog (Ev71 N) 400 14 [.str] [(.arr 16 (.int .u8)), (.int .i64)] (password0, ())).run = nthash_Of N password0 := by kernel_rfl
theorem nthash_Of_C (N : Nat) (password0 : List UInt8) (y : (Arr (Int) 16) × Int) (h : nthash_Of N password0 = some y) : CallsK Go.Proofs.Tryd.prog 14 (valA [.str] (password0, ())) (tupV (valR [(.arr 16 (.int .u8)), (.int .i64)] y)) := runK_ok hmx (Ev71_ok N _) (okFn_ok (by kernel_rfl)) (by rw [nthash_Of_S]; exact h)
noncomputable def Ev72 (N : Nat) : (R : Type) → Env R := Env.addFn (Ev71 N) 14 (fun R => fnK [.str] [(.arr 16 (.int .u8)), (.int .i64)] (fun c => nthash_Of N c.1))
theorem Ev72_ok (N : Nat) (R : Type) : EnvOK Go.Proofs.Tryd.prog (Ev72 N R) := EnvOK.addFn hmx (Ev71_ok N R) (Ev71_ok N _) (by kernel_rfl) (fun c => nthash_Of_S N c.1)
noncomputable def Ev73 (N : Nat) : (R : Type) → Env R := Env.addBx (Ev72 N) [(17, 0)]
theorem Ev73_ok (N : Nat) (R : Type) : EnvOK Go.Proofs.Tryd.prog (Ev73 N R) := EnvOK.addBx (Ev72_ok N R) [(17, 0)]
noncomputable def nthash_Twice (N : Nat) (h0 : Arr (Int) 16) : Option (Arr (Int) 16) :=
 Option.bind (@md4_Of N ([h0.l] : List ((List Int)))) fun (v2 : (Arr Int 16)) =>
 some (v2)
theorem nthash_Twice_S (N : Nat) (h0 : Arr (Int) 16) : (runK Go.Proofs.Tryd.prog (Ev73 N) 400 17 [(.arr 16 (.int .u8))] [(.arr 16 (.int .u8))] (h0, ())).run = nthash_Twice N h0 := by kernel_rfl
theorem nthash_Twice_C (N : Nat) (h0 : Arr (Int) 16) (y : Arr (Int) 16) (h : nthash_Twice N h0 = some y) : CallsK Go.Proofs.Tryd.prog 17 (valA [(.arr 16 (.int .u8))] (h0, ())) (tupV (valR [(.arr 16 (.int .u8))] y)) := runK_ok hmx (Ev73_ok N _) (okFn_ok (by kernel_rfl)) (by rw [nthash_Twice_S]; exact h)
noncomputable def Ev74 (N : Nat) : (R : Type) → Env R := Env.addFn (Ev73 N) 17 (fun R => fnK [(.arr 16 (.int .u8))] [(.arr 16 (.int .u8))] (fun c => nthash_Twice N c.1))
theorem Ev74_ok (N : Nat) (R : Type) : EnvOK Go.Proofs.Tryd.prog (Ev74 N R) := EnvOK.addFn hmx (Ev73_ok N R) (Ev73_ok N _) (by kernel_rfl) (fun c => nthash_Twice_S N c.1)
noncomputable def Ev75 (N : Nat) : (R : Type) → Env R := Env.addMv (Ev74 N) [(38, 2)]
theorem Ev75_ok (N : Nat) (R : Type) : EnvOK Go.Proofs.Tryd.prog (Ev75 N R) := EnvOK.addMv (Ev74_ok N R) [(38, 2)]
noncomputable def Ev76 (N : Nat) : (R : Type) → Env R := Env.addBx (Ev75 N) [(38, 0)]
theorem Ev76_ok (N : Nat) (R : Type) : EnvOK Go.Proofs.Tryd.prog (Ev76 N R) := EnvOK.addBx (Ev75_ok N R) [(38, 0)]
noncomputable def nthash_Long (N : Nat) (h0 : Arr (Int) 16) : Option (Arr (Int) 21) :=
 some ((@Arr.over Int (21 : Nat) (@Arr.cons Int (20 : Nat) (0 : Int) (@Arr.cons Int (19 : Nat) (0 : Int) (@Arr.cons Int (18 : Nat) (0 : Int) (@Arr.cons Int (17 : Nat) (0 : Int) (@Arr.cons Int (16 : Nat) (0 : Int) (@Arr.cons Int (15 : Nat) (0 : Int) (@Arr.cons Int (14 : Nat) (0 : Int) (@Arr.cons Int (13 : Nat) (0 : Int) (@Arr.cons Int (12 : Nat) (0 : Int) (@Arr.cons Int (11 : Nat) (0 : Int) (@Arr.cons Int (10 : Nat) (0 : Int) (@Arr.cons Int (9 : Nat) (0 : Int) (@Arr.cons Int (8 : Nat) (0 : Int) (@Arr.cons Int (7 : Nat) (0 : Int) (@Arr.cons Int (6 : Nat) (0 : Int) (@Arr.cons Int (5 : Nat) (0 : Int) (@Arr.cons Int (4 : Nat) (0 : Int) (@Arr.cons Int (3 : Nat) (0 : Int) (@Arr.cons Int (2 : Nat) (0 : Int) (@Arr.cons Int (1 : Nat) (0 : Int) (@Arr.cons Int (0 : Nat) (0 : Int) (@Arr.nil Int)))))))))))))))))))))) h0.l))
theorem nthash_Long_S (N : Nat) (h0 : Arr (Int) 16) : (runK Go.Proofs.Tryd.prog (Ev76 N) 400 38 [(.arr 16 (.int .u8))] [(.arr 21 (.int .u8))] (h0, ())).run = nthash_Long N h0 := by kernel_rfl
theorem nthash_Long_C (N : Nat) (h0 : Arr (Int) 16) (y : Arr (Int) 21) (h : nthash_Long N h0 = some y) : CallsK Go.Proofs.Tryd.prog 38 (valA [(.arr 16 (.int .u8))] (h0, ())) (tupV (valR [(.arr 21 (.int .u8))] y)) := runK_ok hmx (Ev76_ok N _) (okFn_ok (by kernel_rfl)) (by rw [nthash_Long_S]; exact h)
noncomputable def Ev77 (N : Nat) : (R : Type) → Env R := Env.addFn (Ev76 N) 38 (fun R => fnK [(.arr 16 (.int .u8))] [(.arr 21 (.int .u8))] (fun c => nthash_Long N c.1))
theorem Ev77_ok (N : Nat) (R : Type) : EnvOK Go.Proofs.Tryd.prog (Ev77 N R) := EnvOK.addFn hmx (Ev76_ok N R) (Ev76_ok N _) (by kernel_rfl) (fun c => nthash_Long_S N c.1)
noncomputable def Ev78 (N : Nat) : (R : Type) → Env R := Env.addBx (Ev77 N) [(22, 0)]
theorem Ev78_ok (N : Nat) (R : Type) : EnvOK Go.Proofs.Tryd.prog (Ev78 N R) := EnvOK.addBx (Ev77_ok N R) [(22, 0)]
noncomputable def nthash_Thirds (N : Nat) (h0 : Arr (Int) 16) : Option (Arr (Arr (Int) 7) 3) :=
 Option.bind (takeI (@Arr.over Int (21 : Nat) (@Arr.cons Int (20 : Nat) (0 : Int) (@Arr.cons Int (19 : Nat) (0 : Int) (@Arr.cons Int (18 : Nat) (0 : Int) (@Arr.cons Int (17 : Nat) (0 : Int) (@Arr.cons Int (16 : Nat) (0 : Int) (@Arr.cons Int (15 : Nat) (0 : Int) (@Arr.cons Int (14 : Nat) (0 : Int) (@Arr.cons Int (13 : Nat) (0 : Int) (@Arr.cons Int (12 : Nat) (0 : Int) (@Arr.cons Int (11 : Nat) (0 : Int) (@Arr.cons Int (10 : Nat) (0 : Int) (@Arr.cons Int (9 : Nat) (0 : Int) (@Arr.cons Int (8 : Nat) (0 : Int) (@Arr.cons Int (7 : Nat) (0 : Int) (@Arr.cons Int (6 : Nat) (0 : Int) (@Arr.cons Int (5 : Nat) (0 : Int) (@Arr.cons Int (4 : Nat) (0 : Int) (@Arr.cons Int (3 : Nat) (0 : Int) (@Arr.cons Int (2 : Nat) (0 : Int) (@Arr.cons Int (1 : Nat) (0 : Int) (@Arr.cons Int (0 : Nat) (0 : Int) (@Arr.nil Int)))))))))))))))))))))) h0.l).l (7 : Int)) fun (v2 : (List Int)) =>
 Option.bind (@toArr Int (7 : Nat) v2) fun (v3 : (Arr Int 7)) =>
 Option.bind (subI (@Arr.over Int (21 : Nat) (@Arr.cons Int (20 : Nat) (0 : Int) (@Arr.cons Int (19 : Nat) (0 : Int) (@Arr.cons Int (18 : Nat) (0 : Int) (@Arr.cons Int (17 : Nat) (0 : Int) (@Arr.cons Int (16 : Nat) (0 : Int) (@Arr.cons Int (15 : Nat) (0 : Int) (@Arr.cons Int (14 : Nat) (0 : Int) (@Arr.cons Int (13 : Nat) (0 : Int) (@Arr.cons Int (12 : Nat) (0 : Int) (@Arr.cons Int (11 : Nat) (0 : Int) (@Arr.cons Int (10 : Nat) (0 : Int) (@Arr.cons Int (9 : Nat) (0 : Int) (@Arr.cons Int (8 : Nat) (0 : Int) (@Arr.cons Int (7 : Nat) (0 : Int) (@Arr.cons Int (6 : Nat) (0 : Int) (@Arr.cons Int (5 : Nat) (0 : Int) (@Arr.cons Int (4 : Nat) (0 : Int) (@Arr.cons Int (3 : Nat) (0 : Int) (@Arr.cons Int (2 : Nat) (0 : Int) (@Arr.cons Int (1 : Nat) (0 : Int) (@Arr.cons Int (0 : Nat) (0 : Int) (@Arr.nil Int)))))))))))))))))))))) h0.l).l (7 : Int) (14 : Int)) fun (v4 : (List Int)) =>
 Option.bind (@toArr Int (7 : Nat) v4) fun (v5 : (Arr Int 7)) =>
 Option.bind (dropI (@Arr.over Int (21 : Nat) (@Arr.cons Int (20 : Nat) (0 : Int) (@Arr.cons Int (19 : Nat) (0 : Int) (@Arr.cons Int (18 : Nat) (0 : Int) (@Arr.cons Int (17 : Nat) (0 : Int) (@Arr.cons Int (16 : Nat) (0 : Int) (@Arr.cons Int (15 : Nat) (0 : Int) (@Arr.cons Int (14 : Nat) (0 : Int) (@Arr.cons Int (13 : Nat) (0 : Int) (@Arr.cons Int (12 : Nat) (0 : Int) (@Arr.cons Int (11 : Nat) (0 : Int) (@Arr.cons Int (10 : Nat) (0 : Int) (@Arr.cons Int (9 : Nat) (0 : Int) (@Arr.cons Int (8 : Nat) (0 : Int) (@Arr.cons Int (7 : Nat) (0 : Int) (@Arr.cons Int (6 : Nat) (0 : Int) (@Arr.cons Int (5 : Nat) (0 : Int) (@Arr.cons Int (4 : Nat) (0 : Int) (@Arr.cons Int (3 : Nat) (0 : Int) (@Arr.cons Int (2 : Nat) (0 : Int) (@Arr.cons Int (1 : Nat) (0 : Int) (@Arr.cons Int (0 : Nat) (0 : Int) (@Arr.nil Int)))))))))))))))))))))) h0.l).l (14 : Int)) fun (v6 : (List Int)) =>
 Option.bind (@toArr Int (7 : Nat) v6) fun (v7 : (Arr Int 7)) =>
 some ((@Arr.cons (Arr Int 7) (2 : Nat) v3 (@Arr.cons (Arr Int 7) (1 : Nat) v5 (@Arr.cons (Arr Int 7) (0 : Nat) v7 (@Arr.nil (Arr Int 7))))))
theorem nthash_Thirds_S (N : Nat) (h0 : Arr (Int) 16) : (runK Go.Proofs.Tryd.prog (Ev78 N) 400 22 [(.arr 16 (.int .u8))] [(.arr 3 (.arr 7 (.int .u8)))] (h0, ())).run = nthash_Thirds N h0 := by kernel_rfl
theorem nthash_Thirds_C (N : Nat) (h0 : Arr (Int) 16) (y : Arr (Arr (Int) 7) 3) (h : nthash_Thirds N h0 = some y) : CallsK Go.Proofs.Tryd.prog 22 (valA [(.arr 16 (.int .u8))] (h0, ())) (tupV (valR [(.arr 3 (.arr 7 (.int .u8)))] y)) := runK_ok hmx (Ev78_ok N _) (okFn_ok (by kernel_rfl)) (by rw [nthash_Thirds_S]; exact h)
noncomputable def Ev79 (N : Nat) : (R : Type) → Env R := Env.addFn (Ev78 N) 22 (fun R => fnK [(.arr 16 (.int .u8))] [(.arr 3 (.arr 7 (.int .u8)))] (fun c => nthash_Thirds N c.1))
theorem Ev79_ok (N : Nat) (R : Type) : EnvOK Go.Proofs.Tryd.prog (Ev79 N R) := EnvOK.addFn hmx (Ev78_ok N R) (Ev78_ok N _) (by kernel_rfl) (fun c => nthash_Thirds_S N c.1)
noncomputable def Ev80 (N : Nat) : (R : Type) → Env R := Env.addFn (Ev79 N) 91 (fun R => ixK)
theorem Ev80_ok (N : Nat) (R : Type) : EnvOK Go.Proofs.Tryd.prog (Ev80 N R) := EnvOK.addExt (Ev79_ok N R) (ix_ok (fn := Go.Proofs.Tryd.f91) (by kernel_rfl) (by kernel_rfl) (by decide +kernel) (by kernel_rfl) (by kernel_rfl))
noncomputable def stringslite_IndexByte (N : Nat) (s0 : List UInt8) (c1 : Int) : Option (Int) :=
 some ((@idxB s0 c1))
theorem stringslite_IndexByte_S (N : Nat) (s0 : List UInt8) (c1 : Int) : (runK Go.Proofs.Tryd.prog (Ev80 N) 400 90 [.str, (.int .u8)] [(.int .i64)] (s0, c1, ())).run = stringslite_IndexByte N s0 c1 := by kernel_rfl
noncomputable def Ev81 (N : Nat) : (R : Type) → Env R := Env.addFn (Ev80 N) 90 (fun R => fnK [.str, (.int .u8)] [(.int .i64)] (fun c => stringslite_IndexByte N c.1 c.2.1))
theorem Ev81_ok (N : Nat) (R : Type) : EnvOK Go.Proofs.Tryd.prog (Ev81 N R) := EnvOK.addFn hmx (Ev80_ok N R) (Ev80_ok N _) (by kernel_rfl) (fun c => stringslite_IndexByte_S N c.1 c.2.1)
noncomputable def strings_IndexByte (N : Nat) (s0 : List UInt8) (c1 : Int) : Option (Int) :=
 some ((@idxB s0 c1))
theorem strings_IndexByte_S (N : Nat) (s0 : List UInt8) (c1 : Int) : (runK Go.Proofs.Tryd.prog (Ev81 N) 400 87 [.str, (.int .u8)] [(.int .i64)] (s0, c1, ())).run = strings_IndexByte N s0 c1 := by kernel_rfl
noncomputable def Ev82 (N : Nat) : (R : Type) → Env R := Env.addFn (Ev81 N) 87 (fun R => fnK [.str, (.int .u8)] [(.int .i64)] (fun c => strings_IndexByte N c.1 c.2.1))
theorem Ev82_ok (N : Nat) (R : Type) : EnvOK Go.Proofs.Tryd.prog (Ev82 N R) := EnvOK.addFn hmx (Ev81_ok N R) (Ev81_ok N _) (by kernel_rfl) (fun c => strings_IndexByte_S N c.1 c.2.1)
end Go.Proofs.YtfeggmghkhejcaaDoor
