/-
  Parts of my own, one behind the other: GNth, QN0, QN1, QN2, QN3, QN4.
-/
import Derived.Test.YtdkklfegpjlklaaDoorMrg4
/-
  Functions of the program as plain functions on typed data, and that they are so. Printed by a program of mine.
-/
namespace Go.Proofs.YtdkklfegpjlklaaDoor
open Go.RowKit
set_option linter.unusedVariables false
set_option maxRecDepth 100000
theorem hmx : Go.Proofs.Tryd.prog.follows .mixedOrders = true := by kernel_rfl
noncomputable def Ev0 (N : Nat) : (R : Type) → Env R := Env.addInl env0 [34, 17]
theorem Ev0_ok (N : Nat) (R : Type) : EnvOK Go.Proofs.Tryd.prog (Ev0 N R) := EnvOK.addInl (env0_ok R) (by kernel_rfl)
noncomputable def roots_may (N : Nat) (n0 : Int) (degree1 : Int) (bits2 : Int) : Option (Bool) :=
 bif (decide ((0 : Int) ≤ n0)) then
  bif (@cond Bool @Bool.true (decide (n0 ≤ (1000 : Int))) @Bool.false) then
   bif (decide (degree1 = (2 : Int))) then
    bif (@cond Bool @Bool.true (decide ((0 : Int) ≤ bits2)) @Bool.false) then
     some ((@cond Bool @Bool.true (decide (bits2 ≤ (32 : Int))) @Bool.false))
    else
     some (@Bool.false)
   else
    bif (@cond Bool @Bool.true (@cond Bool @Bool.false @Bool.true (decide (degree1 = (3 : Int)))) @Bool.false) then
     bif (@cond Bool @Bool.true (decide ((0 : Int) ≤ bits2)) @Bool.false) then
      some ((@cond Bool @Bool.true (decide (bits2 ≤ (32 : Int))) @Bool.false))
     else
      some (@Bool.false)
    else
     some (@Bool.false)
  else
   some (@Bool.false)
 else
  some (@Bool.false)
theorem roots_may_S (N : Nat) (n0 : Int) (degree1 : Int) (bits2 : Int) : (runK Go.Proofs.Tryd.prog (Ev0 N) 400 85 [(.int .i64), (.int .i64), (.int .i64)] [.bool] (n0, degree1, bits2, ())).run = roots_may N n0 degree1 bits2 := by kernel_rfl
noncomputable def Ev1 (N : Nat) : (R : Type) → Env R := Env.addFn (Ev0 N) 85 (fun R => fnK [(.int .i64), (.int .i64), (.int .i64)] [.bool] (fun c => roots_may N c.1 c.2.1 c.2.2.1))
theorem Ev1_ok (N : Nat) (R : Type) : EnvOK Go.Proofs.Tryd.prog (Ev1 N R) := EnvOK.addFn hmx (Ev0_ok N R) (Ev0_ok N _) (by kernel_rfl) (fun c => roots_may_S N c.1 c.2.1 c.2.2.1)
noncomputable def math_bits_Mul64 (N : Nat) (x0 : Int) (y1 : Int) : Option ((Int) × Int) :=
 some (((Go.IntKind.wrap .u64 ((Go.IntKind.wrap .u64 ((Go.IntKind.wrap .u64 ((@Int.fdiv x0 (@HPow.hPow Int Nat Int (@instHPow Int Nat (@instPowNat Int @Int.instNatPow)) (2 : Int) (@Min.min Nat @instMinNat (Int.toNat (32 : Int)) (@Go.IntKind.bits @Go.IntKind.u64)))) * (@Int.fdiv y1 (@HPow.hPow Int Nat Int (@instHPow Int Nat (@instPowNat Int @Int.instNatPow)) (2 : Int) (@Min.min Nat @instMinNat (Int.toNat (32 : Int)) (@Go.IntKind.bits @Go.IntKind.u64)))))) + (@Int.fdiv (Go.IntKind.wrap .u64 ((Go.IntKind.wrap .u64 ((@Int.fdiv x0 (@HPow.hPow Int Nat Int (@instHPow Int Nat (@instPowNat Int @Int.instNatPow)) (2 : Int) (@Min.min Nat @instMinNat (Int.toNat (32 : Int)) (@Go.IntKind.bits @Go.IntKind.u64)))) * (@Go.bits @Go.BinOp.and @Go.IntKind.u64 y1 (4294967295 : Int)))) + (@Int.fdiv (Go.IntKind.wrap .u64 ((@Go.bits @Go.BinOp.and @Go.IntKind.u64 x0 (4294967295 : Int)) * (@Go.bits @Go.BinOp.and @Go.IntKind.u64 y1 (4294967295 : Int)))) (@HPow.hPow Int Nat Int (@instHPow Int Nat (@instPowNat Int @Int.instNatPow)) (2 : Int) (@Min.min Nat @instMinNat (Int.toNat (32 : Int)) (@Go.IntKind.bits @Go.IntKind.u64)))))) (@HPow.hPow Int Nat Int (@instHPow Int Nat (@instPowNat Int @Int.instNatPow)) (2 : Int) (@Min.min Nat @instMinNat (Int.toNat (32 : Int)) (@Go.IntKind.bits @Go.IntKind.u64)))))) + (@Int.fdiv (Go.IntKind.wrap .u64 ((@Go.bits @Go.BinOp.and @Go.IntKind.u64 (Go.IntKind.wrap .u64 ((Go.IntKind.wrap .u64 ((@Int.fdiv x0 (@HPow.hPow Int Nat Int (@instHPow Int Nat (@instPowNat Int @Int.instNatPow)) (2 : Int) (@Min.min Nat @instMinNat (Int.toNat (32 : Int)) (@Go.IntKind.bits @Go.IntKind.u64)))) * (@Go.bits @Go.BinOp.and @Go.IntKind.u64 y1 (4294967295 : Int)))) + (@Int.fdiv (Go.IntKind.wrap .u64 ((@Go.bits @Go.BinOp.and @Go.IntKind.u64 x0 (4294967295 : Int)) * (@Go.bits @Go.BinOp.and @Go.IntKind.u64 y1 (4294967295 : Int)))) (@HPow.hPow Int Nat Int (@instHPow Int Nat (@instPowNat Int @Int.instNatPow)) (2 : Int) (@Min.min Nat @instMinNat (Int.toNat (32 : Int)) (@Go.IntKind.bits @Go.IntKind.u64)))))) (4294967295 : Int)) + (Go.IntKind.wrap .u64 ((@Go.bits @Go.BinOp.and @Go.IntKind.u64 x0 (4294967295 : Int)) * (@Int.fdiv y1 (@HPow.hPow Int Nat Int (@instHPow Int Nat (@instPowNat Int @Int.instNatPow)) (2 : Int) (@Min.min Nat @instMinNat (Int.toNat (32 : Int)) (@Go.IntKind.bits @Go.IntKind.u64)))))))) (@HPow.hPow Int Nat Int (@instHPow Int Nat (@instPowNat Int @Int.instNatPow)) (2 : Int) (@Min.min Nat @instMinNat (Int.toNat (32 : Int)) (@Go.IntKind.bits @Go.IntKind.u64)))))), (Go.IntKind.wrap .u64 (x0 * y1))))
theorem math_bits_Mul64_S (N : Nat) (x0 : Int) (y1 : Int) : (runK Go.Proofs.Tryd.prog (Ev1 N) 400 82 [(.int .u64), (.int .u64)] [(.int .u64), (.int .u64)] (x0, y1, ())).run = math_bits_Mul64 N x0 y1 := by kernel_rfl
noncomputable def Ev2 (N : Nat) : (R : Type) → Env R := Env.addFn (Ev1 N) 82 (fun R => fnK [(.int .u64), (.int .u64)] [(.int .u64), (.int .u64)] (fun c => math_bits_Mul64 N c.1 c.2.1))
theorem Ev2_ok (N : Nat) (R : Type) : EnvOK Go.Proofs.Tryd.prog (Ev2 N R) := EnvOK.addFn hmx (Ev1_ok N R) (Ev1_ok N _) (by kernel_rfl) (fun c => math_bits_Mul64_S N c.1 c.2.1)
noncomputable def roots_power (N : Nat) (x0 : Int) (degree1 : Int) : Option ((Int) × Int) :=
 bif (decide (degree1 = (2 : Int))) then
  some (((Go.IntKind.wrap .u64 ((Go.IntKind.wrap .u64 ((Go.IntKind.wrap .u64 ((@Int.fdiv x0 (@HPow.hPow Int Nat Int (@instHPow Int Nat (@instPowNat Int @Int.instNatPow)) (2 : Int) (@Min.min Nat @instMinNat (Int.toNat (32 : Int)) (@Go.IntKind.bits @Go.IntKind.u64)))) * (@Int.fdiv x0 (@HPow.hPow Int Nat Int (@instHPow Int Nat (@instPowNat Int @Int.instNatPow)) (2 : Int) (@Min.min Nat @instMinNat (Int.toNat (32 : Int)) (@Go.IntKind.bits @Go.IntKind.u64)))))) + (@Int.fdiv (Go.IntKind.wrap .u64 ((Go.IntKind.wrap .u64 ((@Int.fdiv x0 (@HPow.hPow Int Nat Int (@instHPow Int Nat (@instPowNat Int @Int.instNatPow)) (2 : Int) (@Min.min Nat @instMinNat (Int.toNat (32 : Int)) (@Go.IntKind.bits @Go.IntKind.u64)))) * (@Go.bits @Go.BinOp.and @Go.IntKind.u64 x0 (4294967295 : Int)))) + (@Int.fdiv (Go.IntKind.wrap .u64 ((@Go.bits @Go.BinOp.and @Go.IntKind.u64 x0 (4294967295 : Int)) * (@Go.bits @Go.BinOp.and @Go.IntKind.u64 x0 (4294967295 : Int)))) (@HPow.hPow Int Nat Int (@instHPow Int Nat (@instPowNat Int @Int.instNatPow)) (2 : Int) (@Min.min Nat @instMinNat (Int.toNat (32 : Int)) (@Go.IntKind.bits @Go.IntKind.u64)))))) (@HPow.hPow Int Nat Int (@instHPow Int Nat (@instPowNat Int @Int.instNatPow)) (2 : Int) (@Min.min Nat @instMinNat (Int.toNat (32 : Int)) (@Go.IntKind.bits @Go.IntKind.u64)))))) + (@Int.fdiv (Go.IntKind.wrap .u64 ((@Go.bits @Go.BinOp.and @Go.IntKind.u64 (Go.IntKind.wrap .u64 ((Go.IntKind.wrap .u64 ((@Int.fdiv x0 (@HPow.hPow Int Nat Int (@instHPow Int Nat (@instPowNat Int @Int.instNatPow)) (2 : Int) (@Min.min Nat @instMinNat (Int.toNat (32 : Int)) (@Go.IntKind.bits @Go.IntKind.u64)))) * (@Go.bits @Go.BinOp.and @Go.IntKind.u64 x0 (4294967295 : Int)))) + (@Int.fdiv (Go.IntKind.wrap .u64 ((@Go.bits @Go.BinOp.and @Go.IntKind.u64 x0 (4294967295 : Int)) * (@Go.bits @Go.BinOp.and @Go.IntKind.u64 x0 (4294967295 : Int)))) (@HPow.hPow Int Nat Int (@instHPow Int Nat (@instPowNat Int @Int.instNatPow)) (2 : Int) (@Min.min Nat @instMinNat (Int.toNat (32 : Int)) (@Go.IntKind.bits @Go.IntKind.u64)))))) (4294967295 : Int)) + (Go.IntKind.wrap .u64 ((@Go.bits @Go.BinOp.and @Go.IntKind.u64 x0 (4294967295 : Int)) * (@Int.fdiv x0 (@HPow.hPow Int Nat Int (@instHPow Int Nat (@instPowNat Int @Int.instNatPow)) (2 : Int) (@Min.min Nat @instMinNat (Int.toNat (32 : Int)) (@Go.IntKind.bits @Go.IntKind.u64)))))))) (@HPow.hPow Int Nat Int (@instHPow Int Nat (@instPowNat Int @Int.instNatPow)) (2 : Int) (@Min.min Nat @instMinNat (Int.toNat (32 : Int)) (@Go.IntKind.bits @Go.IntKind.u64)))))), (Go.IntKind.wrap .u64 (x0 * x0))))
 else
  some (((Go.IntKind.wrap .u64 ((Go.IntKind.wrap .u64 ((Go.IntKind.wrap .u64 ((Go.IntKind.wrap .u64 ((Go.IntKind.wrap .u64 ((@Int.fdiv x0 (@HPow.hPow Int Nat Int (@instHPow Int Nat (@instPowNat Int @Int.instNatPow)) (2 : Int) (@Min.min Nat @instMinNat (Int.toNat (32 : Int)) (@Go.IntKind.bits @Go.IntKind.u64)))) * (@Int.fdiv x0 (@HPow.hPow Int Nat Int (@instHPow Int Nat (@instPowNat Int @Int.instNatPow)) (2 : Int) (@Min.min Nat @instMinNat (Int.toNat (32 : Int)) (@Go.IntKind.bits @Go.IntKind.u64)))))) + (@Int.fdiv (Go.IntKind.wrap .u64 ((Go.IntKind.wrap .u64 ((@Int.fdiv x0 (@HPow.hPow Int Nat Int (@instHPow Int Nat (@instPowNat Int @Int.instNatPow)) (2 : Int) (@Min.min Nat @instMinNat (Int.toNat (32 : Int)) (@Go.IntKind.bits @Go.IntKind.u64)))) * (@Go.bits @Go.BinOp.and @Go.IntKind.u64 x0 (4294967295 : Int)))) + (@Int.fdiv (Go.IntKind.wrap .u64 ((@Go.bits @Go.BinOp.and @Go.IntKind.u64 x0 (4294967295 : Int)) * (@Go.bits @Go.BinOp.and @Go.IntKind.u64 x0 (4294967295 : Int)))) (@HPow.hPow Int Nat Int (@instHPow Int Nat (@instPowNat Int @Int.instNatPow)) (2 : Int) (@Min.min Nat @instMinNat (Int.toNat (32 : Int)) (@Go.IntKind.bits @Go.IntKind.u64)))))) (@HPow.hPow Int Nat Int (@instHPow Int Nat (@instPowNat Int @Int.instNatPow)) (2 : Int) (@Min.min Nat @instMinNat (Int.toNat (32 : Int)) (@Go.IntKind.bits @Go.IntKind.u64)))))) + (@Int.fdiv (Go.IntKind.wrap .u64 ((@Go.bits @Go.BinOp.and @Go.IntKind.u64 (Go.IntKind.wrap .u64 ((Go.IntKind.wrap .u64 ((@Int.fdiv x0 (@HPow.hPow Int Nat Int (@instHPow Int Nat (@instPowNat Int @Int.instNatPow)) (2 : Int) (@Min.min Nat @instMinNat (Int.toNat (32 : Int)) (@Go.IntKind.bits @Go.IntKind.u64)))) * (@Go.bits @Go.BinOp.and @Go.IntKind.u64 x0 (4294967295 : Int)))) + (@Int.fdiv (Go.IntKind.wrap .u64 ((@Go.bits @Go.BinOp.and @Go.IntKind.u64 x0 (4294967295 : Int)) * (@Go.bits @Go.BinOp.and @Go.IntKind.u64 x0 (4294967295 : Int)))) (@HPow.hPow Int Nat Int (@instHPow Int Nat (@instPowNat Int @Int.instNatPow)) (2 : Int) (@Min.min Nat @instMinNat (Int.toNat (32 : Int)) (@Go.IntKind.bits @Go.IntKind.u64)))))) (4294967295 : Int)) + (Go.IntKind.wrap .u64 ((@Go.bits @Go.BinOp.and @Go.IntKind.u64 x0 (4294967295 : Int)) * (@Int.fdiv x0 (@HPow.hPow Int Nat Int (@instHPow Int Nat (@instPowNat Int @Int.instNatPow)) (2 : Int) (@Min.min Nat @instMinNat (Int.toNat (32 : Int)) (@Go.IntKind.bits @Go.IntKind.u64)))))))) (@HPow.hPow Int Nat Int (@instHPow Int Nat (@instPowNat Int @Int.instNatPow)) (2 : Int) (@Min.min Nat @instMinNat (Int.toNat (32 : Int)) (@Go.IntKind.bits @Go.IntKind.u64)))))) * x0)) + (Go.IntKind.wrap .u64 ((Go.IntKind.wrap .u64 ((Go.IntKind.wrap .u64 ((@Int.fdiv (Go.IntKind.wrap .u64 (x0 * x0)) (@HPow.hPow Int Nat Int (@instHPow Int Nat (@instPowNat Int @Int.instNatPow)) (2 : Int) (@Min.min Nat @instMinNat (Int.toNat (32 : Int)) (@Go.IntKind.bits @Go.IntKind.u64)))) * (@Int.fdiv x0 (@HPow.hPow Int Nat Int (@instHPow Int Nat (@instPowNat Int @Int.instNatPow)) (2 : Int) (@Min.min Nat @instMinNat (Int.toNat (32 : Int)) (@Go.IntKind.bits @Go.IntKind.u64)))))) + (@Int.fdiv (Go.IntKind.wrap .u64 ((Go.IntKind.wrap .u64 ((@Int.fdiv (Go.IntKind.wrap .u64 (x0 * x0)) (@HPow.hPow Int Nat Int (@instHPow Int Nat (@instPowNat Int @Int.instNatPow)) (2 : Int) (@Min.min Nat @instMinNat (Int.toNat (32 : Int)) (@Go.IntKind.bits @Go.IntKind.u64)))) * (@Go.bits @Go.BinOp.and @Go.IntKind.u64 x0 (4294967295 : Int)))) + (@Int.fdiv (Go.IntKind.wrap .u64 ((@Go.bits @Go.BinOp.and @Go.IntKind.u64 (Go.IntKind.wrap .u64 (x0 * x0)) (4294967295 : Int)) * (@Go.bits @Go.BinOp.and @Go.IntKind.u64 x0 (4294967295 : Int)))) (@HPow.hPow Int Nat Int (@instHPow Int Nat (@instPowNat Int @Int.instNatPow)) (2 : Int) (@Min.min Nat @instMinNat (Int.toNat (32 : Int)) (@Go.IntKind.bits @Go.IntKind.u64)))))) (@HPow.hPow Int Nat Int (@instHPow Int Nat (@instPowNat Int @Int.instNatPow)) (2 : Int) (@Min.min Nat @instMinNat (Int.toNat (32 : Int)) (@Go.IntKind.bits @Go.IntKind.u64)))))) + (@Int.fdiv (Go.IntKind.wrap .u64 ((@Go.bits @Go.BinOp.and @Go.IntKind.u64 (Go.IntKind.wrap .u64 ((Go.IntKind.wrap .u64 ((@Int.fdiv (Go.IntKind.wrap .u64 (x0 * x0)) (@HPow.hPow Int Nat Int (@instHPow Int Nat (@instPowNat Int @Int.instNatPow)) (2 : Int) (@Min.min Nat @instMinNat (Int.toNat (32 : Int)) (@Go.IntKind.bits @Go.IntKind.u64)))) * (@Go.bits @Go.BinOp.and @Go.IntKind.u64 x0 (4294967295 : Int)))) + (@Int.fdiv (Go.IntKind.wrap .u64 ((@Go.bits @Go.BinOp.and @Go.IntKind.u64 (Go.IntKind.wrap .u64 (x0 * x0)) (4294967295 : Int)) * (@Go.bits @Go.BinOp.and @Go.IntKind.u64 x0 (4294967295 : Int)))) (@HPow.hPow Int Nat Int (@instHPow Int Nat (@instPowNat Int @Int.instNatPow)) (2 : Int) (@Min.min Nat @instMinNat (Int.toNat (32 : Int)) (@Go.IntKind.bits @Go.IntKind.u64)))))) (4294967295 : Int)) + (Go.IntKind.wrap .u64 ((@Go.bits @Go.BinOp.and @Go.IntKind.u64 (Go.IntKind.wrap .u64 (x0 * x0)) (4294967295 : Int)) * (@Int.fdiv x0 (@HPow.hPow Int Nat Int (@instHPow Int Nat (@instPowNat Int @Int.instNatPow)) (2 : Int) (@Min.min Nat @instMinNat (Int.toNat (32 : Int)) (@Go.IntKind.bits @Go.IntKind.u64)))))))) (@HPow.hPow Int Nat Int (@instHPow Int Nat (@instPowNat Int @Int.instNatPow)) (2 : Int) (@Min.min Nat @instMinNat (Int.toNat (32 : Int)) (@Go.IntKind.bits @Go.IntKind.u64)))))))), (Go.IntKind.wrap .u64 ((Go.IntKind.wrap .u64 (x0 * x0)) * x0))))
theorem roots_power_S (N : Nat) (x0 : Int) (degree1 : Int) : (runK Go.Proofs.Tryd.prog (Ev2 N) 400 88 [(.int .u64), (.int .i64)] [(.int .u64), (.int .u64)] (x0, degree1, ())).run = roots_power N x0 degree1 := by kernel_rfl
noncomputable def Ev3 (N : Nat) : (R : Type) → Env R := Env.addFn (Ev2 N) 88 (fun R => fnK [(.int .u64), (.int .i64)] [(.int .u64), (.int .u64)] (fun c => roots_power N c.1 c.2.1))
theorem Ev3_ok (N : Nat) (R : Type) : EnvOK Go.Proofs.Tryd.prog (Ev3 N R) := EnvOK.addFn hmx (Ev2_ok N R) (Ev2_ok N _) (by kernel_rfl) (fun c => roots_power_S N c.1 c.2.1)
noncomputable def roots_shifted (N : Nat) (n0 : Int) (shift1 : Int) : Option ((Int) × Int) :=
 bif (decide ((64 : Int) ≤ shift1)) then
  bif (decide ((0 : Int) ≤ (Go.IntKind.wrap .i64 (shift1 - (64 : Int))))) then
   some (((Go.IntKind.wrap .u64 (n0 * (@HPow.hPow Int Nat Int (@instHPow Int Nat (@instPowNat Int @Int.instNatPow)) (2 : Int) (@Min.min Nat @instMinNat (Int.toNat (Go.IntKind.wrap .i64 (shift1 - (64 : Int)))) (@Go.IntKind.bits @Go.IntKind.u64))))), (0 : Int)))
  else
   none
 else
  bif (decide ((0 : Int) ≤ (Go.IntKind.wrap .i64 ((64 : Int) - shift1)))) then
   bif (decide ((0 : Int) ≤ shift1)) then
    some (((@Int.fdiv n0 (@HPow.hPow Int Nat Int (@instHPow Int Nat (@instPowNat Int @Int.instNatPow)) (2 : Int) (@Min.min Nat @instMinNat (Int.toNat (Go.IntKind.wrap .i64 ((64 : Int) - shift1))) (@Go.IntKind.bits @Go.IntKind.u64)))), (Go.IntKind.wrap .u64 (n0 * (@HPow.hPow Int Nat Int (@instHPow Int Nat (@instPowNat Int @Int.instNatPow)) (2 : Int) (@Min.min Nat @instMinNat (Int.toNat shift1) (@Go.IntKind.bits @Go.IntKind.u64)))))))
   else
    none
  else
   none
theorem roots_shifted_S (N : Nat) (n0 : Int) (shift1 : Int) : (runK Go.Proofs.Tryd.prog (Ev3 N) 400 89 [(.int .u64), (.int .i64)] [(.int .u64), (.int .u64)] (n0, shift1, ())).run = roots_shifted N n0 shift1 := by kernel_rfl
noncomputable def Ev4 (N : Nat) : (R : Type) → Env R := Env.addFn (Ev3 N) 89 (fun R => fnK [(.int .u64), (.int .i64)] [(.int .u64), (.int .u64)] (fun c => roots_shifted N c.1 c.2.1))
theorem Ev4_ok (N : Nat) (R : Type) : EnvOK Go.Proofs.Tryd.prog (Ev4 N R) := EnvOK.addFn hmx (Ev3_ok N R) (Ev3_ok N _) (by kernel_rfl) (fun c => roots_shifted_S N c.1 c.2.1)
noncomputable def roots_above (N : Nat) (x0 : Int) (n1 : Int) (degree2 : Int) (shift3 : Int) : Option (Bool) :=
 Option.bind (@roots_power N x0 degree2) fun (v5 : (Int × Int)) =>
 Option.bind (@roots_shifted N (Go.IntKind.wrap .u64 n1) shift3) fun (v6 : (Int × Int)) =>
 bif (!(decide (v5.1 = v6.1))) then
  some ((decide (v6.1 < v5.1)))
 else
  some ((decide (v6.2 < v5.2)))
theorem roots_above_S (N : Nat) (x0 : Int) (n1 : Int) (degree2 : Int) (shift3 : Int) : (runK Go.Proofs.Tryd.prog (Ev4 N) 400 86 [(.int .u64), (.int .i64), (.int .i64), (.int .i64)] [.bool] (x0, n1, degree2, shift3, ())).run = roots_above N x0 n1 degree2 shift3 := by kernel_rfl
noncomputable def Ev5 (N : Nat) : (R : Type) → Env R := Env.addFn (Ev4 N) 86 (fun R => fnK [(.int .u64), (.int .i64), (.int .i64), (.int .i64)] [.bool] (fun c => roots_above N c.1 c.2.1 c.2.2.1 c.2.2.2.1))
theorem Ev5_ok (N : Nat) (R : Type) : EnvOK Go.Proofs.Tryd.prog (Ev5 N R) := EnvOK.addFn hmx (Ev4_ok N R) (Ev4_ok N _) (by kernel_rfl) (fun c => roots_above_S N c.1 c.2.1 c.2.2.1 c.2.2.2.1)
noncomputable def roots_Root_L5_I : LI := ⟨34, 0, [], ⟨[(0, .ty (.int .i64)), (1, .ty (.int .i64)), (2, .ty (.int .i64)), (8, .ty (.int .u64)), (9, .ty (.int .i64))], []⟩, [(.exit 0, ⟨[(8, .ty (.int .u64))], []⟩)]⟩
noncomputable def roots_Root_L5 (N : Nat) (X : (((Int) × ((Int) × ((Int) × ((Int) × ((Int) × Unit))))) × Unit) → Option ((((Int) × Unit) × Unit))) (n0 : Int) (degree1 : Int) (bits2 : Int) (root8 : Int) (i9 : Int) : Option ((((Int) × Unit) × Unit)) :=
 bif (decide ((0 : Int) ≤ i9)) then
  bif (decide ((0 : Int) ≤ i9)) then
   Option.bind (@roots_above N (@Go.bits @Go.BinOp.or @Go.IntKind.u64 root8 (Go.IntKind.wrap .u64 ((1 : Int) * (@HPow.hPow Int Nat Int (@instHPow Int Nat (@instPowNat Int @Int.instNatPow)) (2 : Int) (@Min.min Nat @instMinNat (Int.toNat i9) (@Go.IntKind.bits @Go.IntKind.u64)))))) n0 degree1 (Go.IntKind.wrap .i64 (degree1 * bits2))) fun (v7 : Bool) =>
   bif (!v7) then
    (X ((n0, (degree1, (bits2, ((@Go.bits @Go.BinOp.or @Go.IntKind.u64 root8 (Go.IntKind.wrap .u64 ((1 : Int) * (@HPow.hPow Int Nat Int (@instHPow Int Nat (@instPowNat Int @Int.instNatPow)) (2 : Int) (@Min.min Nat @instMinNat (Int.toNat i9) (@Go.IntKind.bits @Go.IntKind.u64)))))), ((Go.IntKind.wrap .i64 (i9 - (1 : Int))), @Unit.unit))))), @Unit.unit))
   else
    (X ((n0, (degree1, (bits2, (root8, ((Go.IntKind.wrap .i64 (i9 - (1 : Int))), @Unit.unit))))), @Unit.unit))
  else
   none
 else
  some (((root8, @Unit.unit), @Unit.unit))
noncomputable def roots_Root_L5_R (N : Nat) (c : (((Int) × ((Int) × ((Int) × ((Int) × ((Int) × Unit))))) × Unit)) : Option ((((Int) × Unit) × Unit)) := gl (fun X c => roots_Root_L5 N X c.1.1 c.1.2.1 c.1.2.2.1 c.1.2.2.2.1 c.1.2.2.2.2.1) N c
theorem roots_Root_L5_S (N : Nat) (X : (((Int) × ((Int) × ((Int) × ((Int) × ((Int) × Unit))))) × Unit) → Option ((((Int) × Unit) × Unit))) (n0 : Int) (degree1 : Int) (bits2 : Int) (root8 : Int) (i9 : Int) : (roundK Go.Proofs.Tryd.prog (Ev5 N) 400 [77] roots_Root_L5_I (loopAt Go.Proofs.Tryd.prog [77] 5) X ((n0, degree1, bits2, root8, i9, ()), ())).run = roots_Root_L5 N X n0 degree1 bits2 root8 i9 := by kernel_rfl
noncomputable def Ev6 (N : Nat) : (R : Type) → Env R := Env.addLp (Ev5 N) [77] 0 5 (fun R => lpK Go.Proofs.Tryd.prog roots_Root_L5_I (fun X c => roots_Root_L5 N X c.1.1 c.1.2.1 c.1.2.2.1 c.1.2.2.2.1 c.1.2.2.2.2.1) N)
theorem Ev6_ok (N : Nat) (R : Type) : EnvOK Go.Proofs.Tryd.prog (Ev6 N R) := EnvOK.addLp (Ev5_ok N R) (by kernel_rfl) (lpK_ok (li := roots_Root_L5_I) (G := fun X c => roots_Root_L5 N X c.1.1 c.1.2.1 c.1.2.2.1 c.1.2.2.2.1 c.1.2.2.2.2.1) hmx (Ev5_ok N _) (by kernel_rfl) loopAt_sub (fun (X : CT roots_Root_L5_I.sh → Option (OT roots_Root_L5_I.outs)) (c : CT roots_Root_L5_I.sh) => roots_Root_L5_S N X c.1.1 c.1.2.1 c.1.2.2.1 c.1.2.2.2.1 c.1.2.2.2.2.1) N)
noncomputable def roots_Root (N : Nat) (n0 : Int) (degree1 : Int) (bits2 : Int) : Option ((Int) × Int) :=
 Option.bind (@roots_may N n0 degree1 bits2) fun (v4 : Bool) =>
 bif (!v4) then
  some (((0 : Int), (1 : Int)))
 else
  Option.bind (roots_Root_L5_R N ((n0, (degree1, (bits2, ((0 : Int), ((36 : Int), @Unit.unit))))), @Unit.unit)) fun (v5 : ((Int × Unit) × Unit)) =>
  some ((v5.1.1, (0 : Int)))
theorem roots_Root_S (N : Nat) (n0 : Int) (degree1 : Int) (bits2 : Int) : (runK Go.Proofs.Tryd.prog (Ev6 N) 400 77 [(.int .i64), (.int .i64), (.int .i64)] [(.int .u64), (.int .i64)] (n0, degree1, bits2, ())).run = roots_Root N n0 degree1 bits2 := by kernel_rfl
theorem roots_Root_C (N : Nat) (n0 : Int) (degree1 : Int) (bits2 : Int) (y : (Int) × Int) (h : roots_Root N n0 degree1 bits2 = some y) : CallsK Go.Proofs.Tryd.prog 77 (valA [(.int .i64), (.int .i64), (.int .i64)] (n0, degree1, bits2, ())) (tupV (valR [(.int .u64), (.int .i64)] y)) := runK_ok hmx (Ev6_ok N _) (okFn_ok (by kernel_rfl)) (by rw [roots_Root_S]; exact h)
noncomputable def Ev7 (N : Nat) : (R : Type) → Env R := Env.addFn (Ev6 N) 77 (fun R => fnK [(.int .i64), (.int .i64), (.int .i64)] [(.int .u64), (.int .i64)] (fun c => roots_Root N c.1 c.2.1 c.2.2.1))
theorem Ev7_ok (N : Nat) (R : Type) : EnvOK Go.Proofs.Tryd.prog (Ev7 N R) := EnvOK.addFn hmx (Ev6_ok N R) (Ev6_ok N _) (by kernel_rfl) (fun c => roots_Root_S N c.1 c.2.1 c.2.2.1)
noncomputable def octs_place (N : Nat) (i0 : Int) (width1 : Int) (little2 : Bool) : Option (Int) :=
 bif little2 then
  some (i0)
 else
  some ((Go.IntKind.wrap .i64 ((Go.IntKind.wrap .i64 (width1 - (1 : Int))) - i0)))
theorem octs_place_S (N : Nat) (i0 : Int) (width1 : Int) (little2 : Bool) : (runK Go.Proofs.Tryd.prog (Ev7 N) 400 57 [(.int .i64), (.int .i64), .bool] [(.int .i64)] (i0, width1, little2, ())).run = octs_place N i0 width1 little2 := by kernel_rfl
noncomputable def Ev8 (N : Nat) : (R : Type) → Env R := Env.addFn (Ev7 N) 57 (fun R => fnK [(.int .i64), (.int .i64), .bool] [(.int .i64)] (fun c => octs_place N c.1 c.2.1 c.2.2.1))
theorem Ev8_ok (N : Nat) (R : Type) : EnvOK Go.Proofs.Tryd.prog (Ev8 N R) := EnvOK.addFn hmx (Ev7_ok N R) (Ev7_ok N _) (by kernel_rfl) (fun c => octs_place_S N c.1 c.2.1 c.2.2.1)
noncomputable def octs_Put_L5_I : LI := ⟨35, 0, [], ⟨[(0, .ty (.int .u64)), (1, .ty (.int .i64)), (2, .ty .bool), (8, .lit (.own 0)), (19, .ty (.int .i64)), (20, .ty (.int .i64))], [.own (.int .u8) 5]⟩, [(.exit 0, ⟨[(8, .lit (.own 0))], [.own (.int .u8) 5]⟩)]⟩
noncomputable def octs_Put_L5 (N : Nat) (X : (((Int) × ((Int) × ((Bool) × ((Int) × ((Int) × Unit))))) × ((List (Int)) × Unit)) → Option ((Unit × ((List (Int)) × Unit)))) (n0 : Int) (width1 : Int) (little2 : Bool) (x19 : Int) (x20 : Int) (h0 : List (Int)) : Option ((Unit × ((List (Int)) × Unit))) :=
 bif (decide (x20 < x19)) then
  Option.bind (@octs_place N x20 width1 little2) fun (v8 : Int) =>
  bif (decide ((0 : Int) ≤ v8 ∧ v8 < (((List.length h0) : Nat) : Int))) then
   Option.bind (@GetElem?.getElem? (List Int) Nat Int (fun (as9 : (List Int)) => (fun (i10 : Nat) => (@LT.lt Nat @instLTNat i10 (List.length as9)))) (@List.instGetElem?NatLtLength Int) h0 (Int.toNat v8)) fun (v9 : Int) =>
   (X (((@Int.fdiv n0 (@HPow.hPow Int Nat Int (@instHPow Int Nat (@instPowNat Int @Int.instNatPow)) (2 : Int) (@Min.min Nat @instMinNat (Int.toNat (8 : Int)) (@Go.IntKind.bits @Go.IntKind.u64)))), (width1, (little2, (x19, ((Go.IntKind.wrap .i64 (x20 + (1 : Int))), @Unit.unit))))), ((@List.set Int h0 (Int.toNat v8) (Go.IntKind.wrap .u8 n0)), @Unit.unit)))
  else
   none
 else
  some ((@Unit.unit, (h0, @Unit.unit)))
noncomputable def octs_Put_L5_R (N : Nat) (c : (((Int) × ((Int) × ((Bool) × ((Int) × ((Int) × Unit))))) × ((List (Int)) × Unit))) : Option ((Unit × ((List (Int)) × Unit))) := gl (fun X c => octs_Put_L5 N X c.1.1 c.1.2.1 c.1.2.2.1 c.1.2.2.2.1 c.1.2.2.2.2.1 c.2.1) N c
theorem octs_Put_L5_S (N : Nat) (X : (((Int) × ((Int) × ((Bool) × ((Int) × ((Int) × Unit))))) × ((List (Int)) × Unit)) → Option ((Unit × ((List (Int)) × Unit)))) (n0 : Int) (width1 : Int) (little2 : Bool) (x19 : Int) (x20 : Int) (h0 : List (Int)) : (roundK Go.Proofs.Tryd.prog (Ev8 N) 400 [37] octs_Put_L5_I (loopAt Go.Proofs.Tryd.prog [37] 5) X ((n0, width1, little2, x19, x20, ()), (h0, ()))).run = octs_Put_L5 N X n0 width1 little2 x19 x20 h0 := by kernel_rfl
noncomputable def Ev9 (N : Nat) : (R : Type) → Env R := Env.addLp (Ev8 N) [37] 0 5 (fun R => lpK Go.Proofs.Tryd.prog octs_Put_L5_I (fun X c => octs_Put_L5 N X c.1.1 c.1.2.1 c.1.2.2.1 c.1.2.2.2.1 c.1.2.2.2.2.1 c.2.1) N)
theorem Ev9_ok (N : Nat) (R : Type) : EnvOK Go.Proofs.Tryd.prog (Ev9 N R) := EnvOK.addLp (Ev8_ok N R) (by kernel_rfl) (lpK_ok (li := octs_Put_L5_I) (G := fun X c => octs_Put_L5 N X c.1.1 c.1.2.1 c.1.2.2.1 c.1.2.2.2.1 c.1.2.2.2.2.1 c.2.1) hmx (Ev8_ok N _) (by kernel_rfl) loopAt_sub (fun (X : CT octs_Put_L5_I.sh → Option (OT octs_Put_L5_I.outs)) (c : CT octs_Put_L5_I.sh) => octs_Put_L5_S N X c.1.1 c.1.2.1 c.1.2.2.1 c.1.2.2.2.1 c.1.2.2.2.2.1 c.2.1) N)
noncomputable def octs_Put (N : Nat) (n0 : Int) (width1 : Int) (little2 : Bool) : Option ((List (Int)) × Int) :=
 bif (decide (width1 < (1 : Int))) then
  some ((([] : List (Int)), (1 : Int)))
 else
  bif (@cond Bool @Bool.false @Bool.true (decide ((8 : Int) < width1))) then
   some ((([] : List (Int)), (1 : Int)))
  else
   bif ((decide ((0 : Int) ≤ width1 ∧ width1 ≤ width1)) && (roomB (Int.toNat width1) 1)) then
    Option.bind (octs_Put_L5_R N ((n0, (width1, (little2, ((((List.length (@List.replicate Int (Int.toNat width1) (0 : Int))) : Nat) : Int), ((0 : Int), @Unit.unit))))), ((@List.replicate Int (Int.toNat width1) (0 : Int)), @Unit.unit))) fun (v4 : (Unit × ((List Int) × Unit))) =>
    some ((v4.2.1, (0 : Int)))
   else
    none
theorem octs_Put_S (N : Nat) (n0 : Int) (width1 : Int) (little2 : Bool) : (runK Go.Proofs.Tryd.prog (Ev9 N) 400 37 [(.int .u64), (.int .i64), .bool] [(.sl (.int .u8)), (.int .i64)] (n0, width1, little2, ())).run = octs_Put N n0 width1 little2 := by kernel_rfl
noncomputable def Ev10 (N : Nat) : (R : Type) → Env R := Env.addFn (Ev9 N) 37 (fun R => fnK [(.int .u64), (.int .i64), .bool] [(.sl (.int .u8)), (.int .i64)] (fun c => octs_Put N c.1 c.2.1 c.2.2.1))
theorem Ev10_ok (N : Nat) (R : Type) : EnvOK Go.Proofs.Tryd.prog (Ev10 N R) := EnvOK.addFn hmx (Ev9_ok N R) (Ev9_ok N _) (by kernel_rfl) (fun c => octs_Put_S N c.1 c.2.1 c.2.2.1)
noncomputable def md4_Tail_3_octs_Join_L3_I : LI := ⟨33, 1, [], ⟨[(0, .ty (.sl (.sl (.int .u8)))), (3, .ty (.int .i64)), (9, .ty (.sl (.sl (.int .u8)))), (10, .ty (.int .i64)), (11, .ty (.int .i64))], [.dead]⟩, [(.exit 0, ⟨[(0, .ty (.sl (.sl (.int .u8)))), (3, .ty (.int .i64))], [.dead]⟩)]⟩
noncomputable def md4_Tail_3_octs_Join_L3 (N : Nat) (X : (((List (List (Int))) × ((Int) × ((List (List (Int))) × ((Int) × ((Int) × Unit))))) × Unit) → Option ((((List (List (Int))) × ((Int) × Unit)) × Unit))) (parts0 : List (List (Int))) (size3 : Int) (x9 : List (List (Int))) (x10 : Int) (x11 : Int) : Option ((((List (List (Int))) × ((Int) × Unit)) × Unit)) :=
 bif (decide (x11 < x10)) then
  Option.bind (getI x9 x11) fun (v7 : (List Int)) =>
  (X ((parts0, ((Go.IntKind.wrap .i64 (size3 + (((List.length v7) : Nat) : Int))), (x9, (x10, ((Go.IntKind.wrap .i64 (x11 + (1 : Int))), @Unit.unit))))), @Unit.unit))
 else
  some (((parts0, (size3, @Unit.unit)), @Unit.unit))
noncomputable def md4_Tail_3_octs_Join_L3_R (N : Nat) (c : (((List (List (Int))) × ((Int) × ((List (List (Int))) × ((Int) × ((Int) × Unit))))) × Unit)) : Option ((((List (List (Int))) × ((Int) × Unit)) × Unit)) := gl (fun X c => md4_Tail_3_octs_Join_L3 N X c.1.1 c.1.2.1 c.1.2.2.1 c.1.2.2.2.1 c.1.2.2.2.2.1) N c
theorem md4_Tail_3_octs_Join_L3_S (N : Nat) (X : (((List (List (Int))) × ((Int) × ((List (List (Int))) × ((Int) × ((Int) × Unit))))) × Unit) → Option ((((List (List (Int))) × ((Int) × Unit)) × Unit))) (parts0 : List (List (Int))) (size3 : Int) (x9 : List (List (Int))) (x10 : Int) (x11 : Int) : (roundK Go.Proofs.Tryd.prog (Ev10 N) 400 [34, 3, 38] md4_Tail_3_octs_Join_L3_I (loopAt Go.Proofs.Tryd.prog [34, 3, 38] 3) X ((parts0, size3, x9, x10, x11, ()), ())).run = md4_Tail_3_octs_Join_L3 N X parts0 size3 x9 x10 x11 := by kernel_rfl
noncomputable def Ev11 (N : Nat) : (R : Type) → Env R := Env.addLp (Ev10 N) [34, 3, 38] 1 3 (fun R => lpK Go.Proofs.Tryd.prog md4_Tail_3_octs_Join_L3_I (fun X c => md4_Tail_3_octs_Join_L3 N X c.1.1 c.1.2.1 c.1.2.2.1 c.1.2.2.2.1 c.1.2.2.2.2.1) N)
theorem Ev11_ok (N : Nat) (R : Type) : EnvOK Go.Proofs.Tryd.prog (Ev11 N R) := EnvOK.addLp (Ev10_ok N R) (by kernel_rfl) (lpK_ok (li := md4_Tail_3_octs_Join_L3_I) (G := fun X c => md4_Tail_3_octs_Join_L3 N X c.1.1 c.1.2.1 c.1.2.2.1 c.1.2.2.2.1 c.1.2.2.2.2.1) hmx (Ev10_ok N _) (by kernel_rfl) loopAt_sub (fun (X : CT md4_Tail_3_octs_Join_L3_I.sh → Option (OT md4_Tail_3_octs_Join_L3_I.outs)) (c : CT md4_Tail_3_octs_Join_L3_I.sh) => md4_Tail_3_octs_Join_L3_S N X c.1.1 c.1.2.1 c.1.2.2.1 c.1.2.2.2.1 c.1.2.2.2.2.1) N)
noncomputable def md4_Tail_3_octs_Join_L9_I : LI := ⟨33, 1, [], ⟨[(6, .lit (.own 1)), (22, .ty (.sl (.sl (.int .u8)))), (23, .ty (.int .i64)), (24, .ty (.int .i64))], [.dead, .own (.int .u8) 5]⟩, [(.exit 2, ⟨[(6, .lit (.own 1))], [.dead, .own (.int .u8) 5]⟩)]⟩
noncomputable def md4_Tail_3_octs_Join_L9 (N : Nat) (X : (((List (List (Int))) × ((Int) × ((Int) × Unit))) × ((List (Int)) × Unit)) → Option ((Unit × ((List (Int)) × Unit)))) (x22 : List (List (Int))) (x23 : Int) (x24 : Int) (h0 : List (Int)) : Option ((Unit × ((List (Int)) × Unit))) :=
 bif (decide (x24 < x23)) then
  Option.bind (getI x22 x24) fun (v6 : (List Int)) =>
  bif (roomB ((List.length h0) + (List.length v6)) 1) then
   (X ((x22, (x23, ((Go.IntKind.wrap .i64 (x24 + (1 : Int))), @Unit.unit))), ((h0 ++ v6), @Unit.unit)))
  else
   none
 else
  some ((@Unit.unit, (h0, @Unit.unit)))
noncomputable def md4_Tail_3_octs_Join_L9_R (N : Nat) (c : (((List (List (Int))) × ((Int) × ((Int) × Unit))) × ((List (Int)) × Unit))) : Option ((Unit × ((List (Int)) × Unit))) := gl (fun X c => md4_Tail_3_octs_Join_L9 N X c.1.1 c.1.2.1 c.1.2.2.1 c.2.1) N c
theorem md4_Tail_3_octs_Join_L9_S (N : Nat) (X : (((List (List (Int))) × ((Int) × ((Int) × Unit))) × ((List (Int)) × Unit)) → Option ((Unit × ((List (Int)) × Unit)))) (x22 : List (List (Int))) (x23 : Int) (x24 : Int) (h0 : List (Int)) : (roundK Go.Proofs.Tryd.prog (Ev11 N) 400 [34, 3, 38] md4_Tail_3_octs_Join_L9_I (loopAt Go.Proofs.Tryd.prog [34, 3, 38] 9) X ((x22, x23, x24, ()), (h0, ()))).run = md4_Tail_3_octs_Join_L9 N X x22 x23 x24 h0 := by kernel_rfl
noncomputable def Ev12 (N : Nat) : (R : Type) → Env R := Env.addLp (Ev11 N) [34, 3, 38] 1 9 (fun R => lpK Go.Proofs.Tryd.prog md4_Tail_3_octs_Join_L9_I (fun X c => md4_Tail_3_octs_Join_L9 N X c.1.1 c.1.2.1 c.1.2.2.1 c.2.1) N)
theorem Ev12_ok (N : Nat) (R : Type) : EnvOK Go.Proofs.Tryd.prog (Ev12 N R) := EnvOK.addLp (Ev11_ok N R) (by kernel_rfl) (lpK_ok (li := md4_Tail_3_octs_Join_L9_I) (G := fun X c => md4_Tail_3_octs_Join_L9 N X c.1.1 c.1.2.1 c.1.2.2.1 c.2.1) hmx (Ev11_ok N _) (by kernel_rfl) loopAt_sub (fun (X : CT md4_Tail_3_octs_Join_L9_I.sh → Option (OT md4_Tail_3_octs_Join_L9_I.outs)) (c : CT md4_Tail_3_octs_Join_L9_I.sh) => md4_Tail_3_octs_Join_L9_S N X c.1.1 c.1.2.1 c.1.2.2.1 c.2.1) N)
noncomputable def md4_Tail (N : Nat) (n0 : Int) : Option (List (Int)) :=
 Option.bind (@octs_Put N (Go.IntKind.wrap .u64 ((8 : Int) * n0)) (8 : Int) @Bool.true) fun (v2 : ((List Int) × Int)) =>
 bif ((decide ((0 : Int) ≤ (@Int.tmod (Go.IntKind.wrap .u64 ((119 : Int) - (@Int.tmod n0 (64 : Int)))) (64 : Int)) ∧ (@Int.tmod (Go.IntKind.wrap .u64 ((119 : Int) - (@Int.tmod n0 (64 : Int)))) (64 : Int)) ≤ (@Int.tmod (Go.IntKind.wrap .u64 ((119 : Int) - (@Int.tmod n0 (64 : Int)))) (64 : Int)))) && (roomB (Int.toNat (@Int.tmod (Go.IntKind.wrap .u64 ((119 : Int) - (@Int.tmod n0 (64 : Int)))) (64 : Int))) 1)) then
  Option.bind (md4_Tail_3_octs_Join_L3_R N ((([([(128 : Int)] : List (Int)), (@List.replicate Int (Int.toNat (@Int.tmod (Go.IntKind.wrap .u64 ((119 : Int) - (@Int.tmod n0 (64 : Int)))) (64 : Int))) (0 : Int)), v2.1] : List ((List Int))), ((0 : Int), (([([(128 : Int)] : List (Int)), (@List.replicate Int (Int.toNat (@Int.tmod (Go.IntKind.wrap .u64 ((119 : Int) - (@Int.tmod n0 (64 : Int)))) (64 : Int))) (0 : Int)), v2.1] : List ((List Int))), ((((List.length ([([(128 : Int)] : List (Int)), (@List.replicate Int (Int.toNat (@Int.tmod (Go.IntKind.wrap .u64 ((119 : Int) - (@Int.tmod n0 (64 : Int)))) (64 : Int))) (0 : Int)), v2.1] : List ((List Int)))) : Nat) : Int), ((0 : Int), @Unit.unit))))), @Unit.unit)) fun (v3 : (((List (List Int)) × (Int × Unit)) × Unit)) =>
  bif ((decide ((0 : Int) ≤ (0 : Int) ∧ (0 : Int) ≤ v3.1.2.1)) && (roomB (Int.toNat v3.1.2.1) 1)) then
   Option.bind (md4_Tail_3_octs_Join_L9_R N ((v3.1.1, ((((List.length v3.1.1) : Nat) : Int), ((0 : Int), @Unit.unit))), ((@List.replicate Int (Int.toNat (0 : Int)) (0 : Int)), @Unit.unit))) fun (v4 : (Unit × ((List Int) × Unit))) =>
   some (v4.2.1)
  else
   none
 else
  none
theorem md4_Tail_S (N : Nat) (n0 : Int) : (runK Go.Proofs.Tryd.prog (Ev12 N) 400 38 [(.int .u64)] [(.sl (.int .u8))] (n0, ())).run = md4_Tail N n0 := by kernel_rfl
theorem md4_Tail_C (N : Nat) (n0 : Int) (y : List (Int)) (h : md4_Tail N n0 = some y) : CallsK Go.Proofs.Tryd.prog 38 (valA [(.int .u64)] (n0, ())) (tupV (valR [(.sl (.int .u8))] y)) := runK_ok hmx (Ev12_ok N _) (okFn_ok (by kernel_rfl)) (by rw [md4_Tail_S]; exact h)
noncomputable def Ev13 (N : Nat) : (R : Type) → Env R := Env.addFn (Ev12 N) 38 (fun R => fnK [(.int .u64)] [(.sl (.int .u8))] (fun c => md4_Tail N c.1))
theorem Ev13_ok (N : Nat) (R : Type) : EnvOK Go.Proofs.Tryd.prog (Ev13 N R) := EnvOK.addFn hmx (Ev12_ok N R) (Ev12_ok N _) (by kernel_rfl) (fun c => md4_Tail_S N c.1)
noncomputable def md4_First (N : Nat) : Option (Arr (Int) 4) :=
 some ((@Arr.cons Int (3 : Nat) (1732584193 : Int) (@Arr.cons Int (2 : Nat) (4023233417 : Int) (@Arr.cons Int (1 : Nat) (2562383102 : Int) (@Arr.cons Int (0 : Nat) (271733878 : Int) (@Arr.nil Int))))))
theorem md4_First_S (N : Nat) : (runK Go.Proofs.Tryd.prog (Ev13 N) 400 39 [] [(.arr 4 (.int .u32))] ()).run = md4_First N  := by kernel_rfl
theorem md4_First_C (N : Nat) (y : Arr (Int) 4) (h : md4_First N  = some y) : CallsK Go.Proofs.Tryd.prog 39 (valA [] ()) (tupV (valR [(.arr 4 (.int .u32))] y)) := runK_ok hmx (Ev13_ok N _) (okFn_ok (by kernel_rfl)) (by rw [md4_First_S]; exact h)
noncomputable def Ev14 (N : Nat) : (R : Type) → Env R := Env.addFn (Ev13 N) 39 (fun R => fnK [] [(.arr 4 (.int .u32))] (fun c => md4_First N ))
theorem Ev14_ok (N : Nat) (R : Type) : EnvOK Go.Proofs.Tryd.prog (Ev14 N R) := EnvOK.addFn hmx (Ev13_ok N R) (Ev13_ok N _) (by kernel_rfl) (fun c => md4_First_S N )
noncomputable def md4_Of_1_octs_Join_L3_I : LI := ⟨33, 1, [], ⟨[(0, .ty (.sl (.sl (.int .u8)))), (3, .ty (.int .i64)), (9, .ty (.sl (.sl (.int .u8)))), (10, .ty (.int .i64)), (11, .ty (.int .i64))], [.box 22 (.arr 16 (.int .u8))]⟩, [(.exit 0, ⟨[(0, .ty (.sl (.sl (.int .u8)))), (3, .ty (.int .i64))], [.box 22 (.arr 16 (.int .u8))]⟩)]⟩
noncomputable def md4_Of_1_octs_Join_L3 (N : Nat) (X : (((List (List (Int))) × ((Int) × ((List (List (Int))) × ((Int) × ((Int) × Unit))))) × ((Arr (Int) 16) × Unit)) → Option ((((List (List (Int))) × ((Int) × Unit)) × ((Arr (Int) 16) × Unit)))) (parts0 : List (List (Int))) (size3 : Int) (x9 : List (List (Int))) (x10 : Int) (x11 : Int) (h0 : Arr (Int) 16) : Option ((((List (List (Int))) × ((Int) × Unit)) × ((Arr (Int) 16) × Unit))) :=
 bif (decide (x11 < x10)) then
  Option.bind (getI x9 x11) fun (v8 : (List Int)) =>
  (X ((parts0, ((Go.IntKind.wrap .i64 (size3 + (((List.length v8) : Nat) : Int))), (x9, (x10, ((Go.IntKind.wrap .i64 (x11 + (1 : Int))), @Unit.unit))))), (h0, @Unit.unit)))
 else
  some (((parts0, (size3, @Unit.unit)), (h0, @Unit.unit)))
noncomputable def md4_Of_1_octs_Join_L3_R (N : Nat) (c : (((List (List (Int))) × ((Int) × ((List (List (Int))) × ((Int) × ((Int) × Unit))))) × ((Arr (Int) 16) × Unit))) : Option ((((List (List (Int))) × ((Int) × Unit)) × ((Arr (Int) 16) × Unit))) := gl (fun X c => md4_Of_1_octs_Join_L3 N X c.1.1 c.1.2.1 c.1.2.2.1 c.1.2.2.2.1 c.1.2.2.2.2.1 c.2.1) N c
theorem md4_Of_1_octs_Join_L3_S (N : Nat) (X : (((List (List (Int))) × ((Int) × ((List (List (Int))) × ((Int) × ((Int) × Unit))))) × ((Arr (Int) 16) × Unit)) → Option ((((List (List (Int))) × ((Int) × Unit)) × ((Arr (Int) 16) × Unit)))) (parts0 : List (List (Int))) (size3 : Int) (x9 : List (List (Int))) (x10 : Int) (x11 : Int) (h0 : Arr (Int) 16) : (roundK Go.Proofs.Tryd.prog (Ev14 N) 400 [34, 1, 28] md4_Of_1_octs_Join_L3_I (loopAt Go.Proofs.Tryd.prog [34, 1, 28] 3) X ((parts0, size3, x9, x10, x11, ()), (h0, ()))).run = md4_Of_1_octs_Join_L3 N X parts0 size3 x9 x10 x11 h0 := by kernel_rfl
noncomputable def Ev15 (N : Nat) : (R : Type) → Env R := Env.addLp (Ev14 N) [34, 1, 28] 1 3 (fun R => lpK Go.Proofs.Tryd.prog md4_Of_1_octs_Join_L3_I (fun X c => md4_Of_1_octs_Join_L3 N X c.1.1 c.1.2.1 c.1.2.2.1 c.1.2.2.2.1 c.1.2.2.2.2.1 c.2.1) N)
theorem Ev15_ok (N : Nat) (R : Type) : EnvOK Go.Proofs.Tryd.prog (Ev15 N R) := EnvOK.addLp (Ev14_ok N R) (by kernel_rfl) (lpK_ok (li := md4_Of_1_octs_Join_L3_I) (G := fun X c => md4_Of_1_octs_Join_L3 N X c.1.1 c.1.2.1 c.1.2.2.1 c.1.2.2.2.1 c.1.2.2.2.2.1 c.2.1) hmx (Ev14_ok N _) (by kernel_rfl) loopAt_sub (fun (X : CT md4_Of_1_octs_Join_L3_I.sh → Option (OT md4_Of_1_octs_Join_L3_I.outs)) (c : CT md4_Of_1_octs_Join_L3_I.sh) => md4_Of_1_octs_Join_L3_S N X c.1.1 c.1.2.1 c.1.2.2.1 c.1.2.2.2.1 c.1.2.2.2.2.1 c.2.1) N)
noncomputable def md4_Of_1_octs_Join_L9_I : LI := ⟨33, 1, [], ⟨[(6, .lit (.own 1)), (22, .ty (.sl (.sl (.int .u8)))), (23, .ty (.int .i64)), (24, .ty (.int .i64))], [.box 22 (.arr 16 (.int .u8)), .own (.int .u8) 5]⟩, [(.exit 2, ⟨[(6, .lit (.own 1))], [.box 22 (.arr 16 (.int .u8)), .own (.int .u8) 5]⟩)]⟩
noncomputable def md4_Of_1_octs_Join_L9 (N : Nat) (X : (((List (List (Int))) × ((Int) × ((Int) × Unit))) × ((Arr (Int) 16) × ((List (Int)) × Unit))) → Option ((Unit × ((Arr (Int) 16) × ((List (Int)) × Unit))))) (x22 : List (List (Int))) (x23 : Int) (x24 : Int) (h0 : Arr (Int) 16) (h1 : List (Int)) : Option ((Unit × ((Arr (Int) 16) × ((List (Int)) × Unit)))) :=
 bif (decide (x24 < x23)) then
  Option.bind (getI x22 x24) fun (v7 : (List Int)) =>
  bif (roomB ((List.length h1) + (List.length v7)) 1) then
   (X ((x22, (x23, ((Go.IntKind.wrap .i64 (x24 + (1 : Int))), @Unit.unit))), (h0, ((h1 ++ v7), @Unit.unit))))
  else
   none
 else
  some ((@Unit.unit, (h0, (h1, @Unit.unit))))
noncomputable def md4_Of_1_octs_Join_L9_R (N : Nat) (c : (((List (List (Int))) × ((Int) × ((Int) × Unit))) × ((Arr (Int) 16) × ((List (Int)) × Unit)))) : Option ((Unit × ((Arr (Int) 16) × ((List (Int)) × Unit)))) := gl (fun X c => md4_Of_1_octs_Join_L9 N X c.1.1 c.1.2.1 c.1.2.2.1 c.2.1 c.2.2.1) N c
theorem md4_Of_1_octs_Join_L9_S (N : Nat) (X : (((List (List (Int))) × ((Int) × ((Int) × Unit))) × ((Arr (Int) 16) × ((List (Int)) × Unit))) → Option ((Unit × ((Arr (Int) 16) × ((List (Int)) × Unit))))) (x22 : List (List (Int))) (x23 : Int) (x24 : Int) (h0 : Arr (Int) 16) (h1 : List (Int)) : (roundK Go.Proofs.Tryd.prog (Ev15 N) 400 [34, 1, 28] md4_Of_1_octs_Join_L9_I (loopAt Go.Proofs.Tryd.prog [34, 1, 28] 9) X ((x22, x23, x24, ()), (h0, h1, ()))).run = md4_Of_1_octs_Join_L9 N X x22 x23 x24 h0 h1 := by kernel_rfl
noncomputable def Ev16 (N : Nat) : (R : Type) → Env R := Env.addLp (Ev15 N) [34, 1, 28] 1 9 (fun R => lpK Go.Proofs.Tryd.prog md4_Of_1_octs_Join_L9_I (fun X c => md4_Of_1_octs_Join_L9 N X c.1.1 c.1.2.1 c.1.2.2.1 c.2.1 c.2.2.1) N)
theorem Ev16_ok (N : Nat) (R : Type) : EnvOK Go.Proofs.Tryd.prog (Ev16 N R) := EnvOK.addLp (Ev15_ok N R) (by kernel_rfl) (lpK_ok (li := md4_Of_1_octs_Join_L9_I) (G := fun X c => md4_Of_1_octs_Join_L9 N X c.1.1 c.1.2.1 c.1.2.2.1 c.2.1 c.2.2.1) hmx (Ev15_ok N _) (by kernel_rfl) loopAt_sub (fun (X : CT md4_Of_1_octs_Join_L9_I.sh → Option (OT md4_Of_1_octs_Join_L9_I.outs)) (c : CT md4_Of_1_octs_Join_L9_I.sh) => md4_Of_1_octs_Join_L9_S N X c.1.1 c.1.2.1 c.1.2.2.1 c.2.1 c.2.2.1) N)
noncomputable def md4_root (N : Nat) (n0 : Int) : Option (Int) :=
 Option.bind (@roots_Root N n0 (2 : Int) (30 : Int)) fun (v2 : (Int × Int)) =>
 some ((Go.IntKind.wrap .u32 v2.1))
theorem md4_root_S (N : Nat) (n0 : Int) : (runK Go.Proofs.Tryd.prog (Ev16 N) 400 58 [(.int .i64)] [(.int .u32)] (n0, ())).run = md4_root N n0 := by kernel_rfl
noncomputable def Ev17 (N : Nat) : (R : Type) → Env R := Env.addFn (Ev16 N) 58 (fun R => fnK [(.int .i64)] [(.int .u32)] (fun c => md4_root N c.1))
theorem Ev17_ok (N : Nat) (R : Type) : EnvOK Go.Proofs.Tryd.prog (Ev17 N R) := EnvOK.addFn hmx (Ev16_ok N R) (Ev16_ok N _) (by kernel_rfl) (fun c => md4_root_S N c.1)
noncomputable def md4_constants (N : Nat) : Option (Arr (Int) 3) :=
 Option.bind (@md4_root N (2 : Int)) fun (v1 : Int) =>
 Option.bind (@md4_root N (3 : Int)) fun (v2 : Int) =>
 some ((@Arr.cons Int (2 : Nat) (0 : Int) (@Arr.cons Int (1 : Nat) v1 (@Arr.cons Int (0 : Nat) v2 (@Arr.nil Int)))))
theorem md4_constants_S (N : Nat) : (runK Go.Proofs.Tryd.prog (Ev17 N) 400 40 [] [(.arr 3 (.int .u32))] ()).run = md4_constants N  := by kernel_rfl
noncomputable def Ev18 (N : Nat) : (R : Type) → Env R := Env.addFn (Ev17 N) 40 (fun R => fnK [] [(.arr 3 (.int .u32))] (fun c => md4_constants N ))
theorem Ev18_ok (N : Nat) (R : Type) : EnvOK Go.Proofs.Tryd.prog (Ev18 N R) := EnvOK.addFn hmx (Ev17_ok N R) (Ev17_ok N _) (by kernel_rfl) (fun c => md4_constants_S N )
noncomputable def Ev19 (N : Nat) : (R : Type) → Env R := Env.addBx (Ev18 N) [(41, 0)]
theorem Ev19_ok (N : Nat) (R : Type) : EnvOK Go.Proofs.Tryd.prog (Ev19 N R) := EnvOK.addBx (Ev18_ok N R) [(41, 0)]
noncomputable def Ev20 (N : Nat) : (R : Type) → Env R := Env.addBx (Ev19 N) [(59, 0)]
theorem Ev20_ok (N : Nat) (R : Type) : EnvOK Go.Proofs.Tryd.prog (Ev20 N R) := EnvOK.addBx (Ev19_ok N R) [(59, 0)]
noncomputable def octs_Get_L5_I : LI := ⟨37, 0, [], ⟨[(0, .ty (.sl (.int .u8))), (1, .ty .bool), (6, .ty (.int .u64)), (17, .ty (.int .i64)), (18, .ty (.int .i64))], []⟩, [(.exit 0, ⟨[(6, .ty (.int .u64))], []⟩)]⟩
noncomputable def octs_Get_L5 (N : Nat) (X : (((List (Int)) × ((Bool) × ((Int) × ((Int) × ((Int) × Unit))))) × Unit) → Option ((((Int) × Unit) × Unit))) (b0 : List (Int)) (little1 : Bool) (n6 : Int) (x17 : Int) (x18 : Int) : Option ((((Int) × Unit) × Unit)) :=
 bif (decide (x18 < x17)) then
  Option.bind (@octs_place N x18 (((List.length b0) : Nat) : Int) little1) fun (v7 : Int) =>
  Option.bind (getI b0 v7) fun (v8 : Int) =>
  bif (decide ((0 : Int) ≤ (Go.IntKind.wrap .i64 ((8 : Int) * x18)))) then
   (X ((b0, (little1, ((@Go.bits @Go.BinOp.or @Go.IntKind.u64 n6 (Go.IntKind.wrap .u64 ((Go.IntKind.wrap .u64 v8) * (@HPow.hPow Int Nat Int (@instHPow Int Nat (@instPowNat Int @Int.instNatPow)) (2 : Int) (@Min.min Nat @instMinNat (Int.toNat (Go.IntKind.wrap .i64 ((8 : Int) * x18))) (@Go.IntKind.bits @Go.IntKind.u64)))))), (x17, ((Go.IntKind.wrap .i64 (x18 + (1 : Int))), @Unit.unit))))), @Unit.unit))
  else
   none
 else
  some (((n6, @Unit.unit), @Unit.unit))
noncomputable def octs_Get_L5_R (N : Nat) (c : (((List (Int)) × ((Bool) × ((Int) × ((Int) × ((Int) × Unit))))) × Unit)) : Option ((((Int) × Unit) × Unit)) := gl (fun X c => octs_Get_L5 N X c.1.1 c.1.2.1 c.1.2.2.1 c.1.2.2.2.1 c.1.2.2.2.2.1) N c
theorem octs_Get_L5_S (N : Nat) (X : (((List (Int)) × ((Bool) × ((Int) × ((Int) × ((Int) × Unit))))) × Unit) → Option ((((Int) × Unit) × Unit))) (b0 : List (Int)) (little1 : Bool) (n6 : Int) (x17 : Int) (x18 : Int) : (roundK Go.Proofs.Tryd.prog (Ev20 N) 400 [78] octs_Get_L5_I (loopAt Go.Proofs.Tryd.prog [78] 5) X ((b0, little1, n6, x17, x18, ()), ())).run = octs_Get_L5 N X b0 little1 n6 x17 x18 := by kernel_rfl
noncomputable def Ev21 (N : Nat) : (R : Type) → Env R := Env.addLp (Ev20 N) [78] 0 5 (fun R => lpK Go.Proofs.Tryd.prog octs_Get_L5_I (fun X c => octs_Get_L5 N X c.1.1 c.1.2.1 c.1.2.2.1 c.1.2.2.2.1 c.1.2.2.2.2.1) N)
theorem Ev21_ok (N : Nat) (R : Type) : EnvOK Go.Proofs.Tryd.prog (Ev21 N R) := EnvOK.addLp (Ev20_ok N R) (by kernel_rfl) (lpK_ok (li := octs_Get_L5_I) (G := fun X c => octs_Get_L5 N X c.1.1 c.1.2.1 c.1.2.2.1 c.1.2.2.2.1 c.1.2.2.2.2.1) hmx (Ev20_ok N _) (by kernel_rfl) loopAt_sub (fun (X : CT octs_Get_L5_I.sh → Option (OT octs_Get_L5_I.outs)) (c : CT octs_Get_L5_I.sh) => octs_Get_L5_S N X c.1.1 c.1.2.1 c.1.2.2.1 c.1.2.2.2.1 c.1.2.2.2.2.1) N)
noncomputable def octs_Get (N : Nat) (b0 : List (Int)) (little1 : Bool) : Option ((Int) × Int) :=
 bif (decide ((((List.length b0) : Nat) : Int) < (1 : Int))) then
  some (((0 : Int), (1 : Int)))
 else
  bif (@cond Bool @Bool.false @Bool.true (decide ((8 : Int) < (((List.length b0) : Nat) : Int)))) then
   some (((0 : Int), (1 : Int)))
  else
   Option.bind (octs_Get_L5_R N ((b0, (little1, ((0 : Int), ((((List.length b0) : Nat) : Int), ((0 : Int), @Unit.unit))))), @Unit.unit)) fun (v3 : ((Int × Unit) × Unit)) =>
   some ((v3.1.1, (0 : Int)))
theorem octs_Get_S (N : Nat) (b0 : List (Int)) (little1 : Bool) : (runK Go.Proofs.Tryd.prog (Ev21 N) 400 78 [(.sl (.int .u8)), .bool] [(.int .u64), (.int .i64)] (b0, little1, ())).run = octs_Get N b0 little1 := by kernel_rfl
noncomputable def Ev22 (N : Nat) : (R : Type) → Env R := Env.addFn (Ev21 N) 78 (fun R => fnK [(.sl (.int .u8)), .bool] [(.int .u64), (.int .i64)] (fun c => octs_Get N c.1 c.2.1))
theorem Ev22_ok (N : Nat) (R : Type) : EnvOK Go.Proofs.Tryd.prog (Ev22 N R) := EnvOK.addFn hmx (Ev21_ok N R) (Ev21_ok N _) (by kernel_rfl) (fun c => octs_Get_S N c.1 c.2.1)
noncomputable def md4_words_L3_I : LI := ⟨26, 0, [], ⟨[(1, .adr (.arr 64 (.int .u8))), (2, .lit (.box 0 0)), (3, .lit (.box 1 0)), (7, .ty (.int .i64))], [.box 101 (.arr 16 (.int .u32)), .box 101 (.arr 16 (.int .u32))]⟩, [(.exit 0, ⟨[(2, .lit (.box 0 0)), (3, .lit (.box 1 0))], [.box 101 (.arr 16 (.int .u32)), .box 101 (.arr 16 (.int .u32))]⟩)]⟩
noncomputable def md4_words_L3 (N : Nat) (X : (((Arr (Int) 64) × ((Int) × Unit)) × ((Arr (Int) 16) × ((Arr (Int) 16) × Unit))) → Option ((Unit × ((Arr (Int) 16) × ((Arr (Int) 16) × Unit))))) (b1 : Arr (Int) 64) (x7 : Int) (h0 : Arr (Int) 16) (h1 : Arr (Int) 16) : Option ((Unit × ((Arr (Int) 16) × ((Arr (Int) 16) × Unit)))) :=
 bif (decide (x7 < (16 : Int))) then
  Option.bind (subI b1.l (Go.IntKind.wrap .i64 ((4 : Int) * x7)) (Go.IntKind.wrap .i64 ((Go.IntKind.wrap .i64 ((4 : Int) * x7)) + (4 : Int)))) fun (v6 : (List Int)) =>
  Option.bind (@octs_Get N v6 @Bool.true) fun (v7 : (Int × Int)) =>
  bif (decide ((0 : Int) ≤ x7 ∧ x7 < (((16 : Nat) : Nat) : Int))) then
   Option.bind (@GetElem?.getElem? (List Int) Nat Int (fun (as8 : (List Int)) => (fun (i9 : Nat) => (@LT.lt Nat @instLTNat i9 (List.length as8)))) (@List.instGetElem?NatLtLength Int) h1.l (Int.toNat x7)) fun (v8 : Int) =>
   (X ((b1, ((Go.IntKind.wrap .i64 (x7 + (1 : Int))), @Unit.unit)), (h0, ((h1.set (Int.toNat x7) (Go.IntKind.wrap .u32 v7.1)), @Unit.unit))))
  else
   none
 else
  some ((@Unit.unit, (h0, (h1, @Unit.unit))))
noncomputable def md4_words_L3_R (N : Nat) (c : (((Arr (Int) 64) × ((Int) × Unit)) × ((Arr (Int) 16) × ((Arr (Int) 16) × Unit)))) : Option ((Unit × ((Arr (Int) 16) × ((Arr (Int) 16) × Unit)))) := gl (fun X c => md4_words_L3 N X c.1.1 c.1.2.1 c.2.1 c.2.2.1) N c
theorem md4_words_L3_S (N : Nat) (X : (((Arr (Int) 64) × ((Int) × Unit)) × ((Arr (Int) 16) × ((Arr (Int) 16) × Unit))) → Option ((Unit × ((Arr (Int) 16) × ((Arr (Int) 16) × Unit))))) (b1 : Arr (Int) 64) (x7 : Int) (h0 : Arr (Int) 16) (h1 : Arr (Int) 16) : (roundK Go.Proofs.Tryd.prog (Ev22 N) 400 [59] md4_words_L3_I (loopAt Go.Proofs.Tryd.prog [59] 3) X ((b1, x7, ()), (h0, h1, ()))).run = md4_words_L3 N X b1 x7 h0 h1 := by kernel_rfl
noncomputable def Ev23 (N : Nat) : (R : Type) → Env R := Env.addLp (Ev22 N) [59] 0 3 (fun R => lpK Go.Proofs.Tryd.prog md4_words_L3_I (fun X c => md4_words_L3 N X c.1.1 c.1.2.1 c.2.1 c.2.2.1) N)
theorem Ev23_ok (N : Nat) (R : Type) : EnvOK Go.Proofs.Tryd.prog (Ev23 N R) := EnvOK.addLp (Ev22_ok N R) (by kernel_rfl) (lpK_ok (li := md4_words_L3_I) (G := fun X c => md4_words_L3 N X c.1.1 c.1.2.1 c.2.1 c.2.2.1) hmx (Ev22_ok N _) (by kernel_rfl) loopAt_sub (fun (X : CT md4_words_L3_I.sh → Option (OT md4_words_L3_I.outs)) (c : CT md4_words_L3_I.sh) => md4_words_L3_S N X c.1.1 c.1.2.1 c.2.1 c.2.2.1) N)
noncomputable def md4_words (N : Nat) (b0 : Arr (Int) 64) : Option (Arr (Int) 16) :=
 Option.bind (md4_words_L3_R N ((b0, ((0 : Int), @Unit.unit)), ((@Arr.cons Int (15 : Nat) (0 : Int) (@Arr.cons Int (14 : Nat) (0 : Int) (@Arr.cons Int (13 : Nat) (0 : Int) (@Arr.cons Int (12 : Nat) (0 : Int) (@Arr.cons Int (11 : Nat) (0 : Int) (@Arr.cons Int (10 : Nat) (0 : Int) (@Arr.cons Int (9 : Nat) (0 : Int) (@Arr.cons Int (8 : Nat) (0 : Int) (@Arr.cons Int (7 : Nat) (0 : Int) (@Arr.cons Int (6 : Nat) (0 : Int) (@Arr.cons Int (5 : Nat) (0 : Int) (@Arr.cons Int (4 : Nat) (0 : Int) (@Arr.cons Int (3 : Nat) (0 : Int) (@Arr.cons Int (2 : Nat) (0 : Int) (@Arr.cons Int (1 : Nat) (0 : Int) (@Arr.cons Int (0 : Nat) (0 : Int) (@Arr.nil Int))))))))))))))))), ((@Arr.cons Int (15 : Nat) (0 : Int) (@Arr.cons Int (14 : Nat) (0 : Int) (@Arr.cons Int (13 : Nat) (0 : Int) (@Arr.cons Int (12 : Nat) (0 : Int) (@Arr.cons Int (11 : Nat) (0 : Int) (@Arr.cons Int (10 : Nat) (0 : Int) (@Arr.cons Int (9 : Nat) (0 : Int) (@Arr.cons Int (8 : Nat) (0 : Int) (@Arr.cons Int (7 : Nat) (0 : Int) (@Arr.cons Int (6 : Nat) (0 : Int) (@Arr.cons Int (5 : Nat) (0 : Int) (@Arr.cons Int (4 : Nat) (0 : Int) (@Arr.cons Int (3 : Nat) (0 : Int) (@Arr.cons Int (2 : Nat) (0 : Int) (@Arr.cons Int (1 : Nat) (0 : Int) (@Arr.cons Int (0 : Nat) (0 : Int) (@Arr.nil Int))))))))))))))))), @Unit.unit)))) fun (v2 : (Unit × ((Arr Int 16) × ((Arr Int 16) × Unit)))) =>
 some (v2.2.2.1)
theorem md4_words_S (N : Nat) (b0 : Arr (Int) 64) : (runK Go.Proofs.Tryd.prog (Ev23 N) 400 59 [(.arr 64 (.int .u8))] [(.arr 16 (.int .u32))] (b0, ())).run = md4_words N b0 := by kernel_rfl
noncomputable def Ev24 (N : Nat) : (R : Type) → Env R := Env.addFn (Ev23 N) 59 (fun R => fnK [(.arr 64 (.int .u8))] [(.arr 16 (.int .u32))] (fun c => md4_words N c.1))
theorem Ev24_ok (N : Nat) (R : Type) : EnvOK Go.Proofs.Tryd.prog (Ev24 N R) := EnvOK.addFn hmx (Ev23_ok N R) (Ev23_ok N _) (by kernel_rfl) (fun c => md4_words_S N c.1)
noncomputable def md4_mixed (N : Nat) (r0 : Int) (b1 : Int) (c2 : Int) (d3 : Int) : Option (Int) :=
 bif (decide (r0 = (0 : Int))) then
  some ((@Go.bits @Go.BinOp.or @Go.IntKind.u32 (@Go.bits @Go.BinOp.and @Go.IntKind.u32 b1 c2) (@Go.bits @Go.BinOp.and @Go.IntKind.u32 (@Go.bits @Go.BinOp.xor @Go.IntKind.u32 (@ite Int (@Eq Bool (@Go.IntKind.signed @Go.IntKind.u32) @Bool.true) (@instDecidableEqBool (@Go.IntKind.signed @Go.IntKind.u32) @Bool.true) (-1 : Int) (@Go.IntKind.max @Go.IntKind.u32)) b1) d3)))
 else
  bif (decide (r0 = (1 : Int))) then
   some ((@Go.bits @Go.BinOp.or @Go.IntKind.u32 (@Go.bits @Go.BinOp.or @Go.IntKind.u32 (@Go.bits @Go.BinOp.and @Go.IntKind.u32 b1 c2) (@Go.bits @Go.BinOp.and @Go.IntKind.u32 b1 d3)) (@Go.bits @Go.BinOp.and @Go.IntKind.u32 c2 d3)))
  else
   some ((@Go.bits @Go.BinOp.xor @Go.IntKind.u32 (@Go.bits @Go.BinOp.xor @Go.IntKind.u32 b1 c2) d3))
theorem md4_mixed_S (N : Nat) (r0 : Int) (b1 : Int) (c2 : Int) (d3 : Int) : (runK Go.Proofs.Tryd.prog (Ev24 N) 400 60 [(.int .i64), (.int .u32), (.int .u32), (.int .u32)] [(.int .u32)] (r0, b1, c2, d3, ())).run = md4_mixed N r0 b1 c2 d3 := by kernel_rfl
noncomputable def Ev25 (N : Nat) : (R : Type) → Env R := Env.addFn (Ev24 N) 60 (fun R => fnK [(.int .i64), (.int .u32), (.int .u32), (.int .u32)] [(.int .u32)] (fun c => md4_mixed N c.1 c.2.1 c.2.2.1 c.2.2.2.1))
theorem Ev25_ok (N : Nat) (R : Type) : EnvOK Go.Proofs.Tryd.prog (Ev25 N R) := EnvOK.addFn hmx (Ev24_ok N R) (Ev24_ok N _) (by kernel_rfl) (fun c => md4_mixed_S N c.1 c.2.1 c.2.2.1 c.2.2.2.1)
noncomputable def md4_place (N : Nat) (i0 : Int) : Option (Int) :=
 bif (decide ((Go.IntKind.wrap .i64 (@Int.tdiv i0 (16 : Int))) = (0 : Int))) then
  some ((@Int.tmod i0 (16 : Int)))
 else
  bif (decide ((Go.IntKind.wrap .i64 (@Int.tdiv i0 (16 : Int))) = (1 : Int))) then
   some ((Go.IntKind.wrap .i64 ((Go.IntKind.wrap .i64 ((4 : Int) * (@Int.tmod (@Int.tmod i0 (16 : Int)) (4 : Int)))) + (Go.IntKind.wrap .i64 (@Int.tdiv (@Int.tmod i0 (16 : Int)) (4 : Int))))))
  else
   Option.bind (getI ([(@OfNat.ofNat Int (0 : Nat) (@instOfNat (0 : Nat))), (@OfNat.ofNat Int (8 : Nat) (@instOfNat (8 : Nat))), (@OfNat.ofNat Int (4 : Nat) (@instOfNat (4 : Nat))), (@OfNat.ofNat Int (12 : Nat) (@instOfNat (12 : Nat))), (@OfNat.ofNat Int (2 : Nat) (@instOfNat (2 : Nat))), (@OfNat.ofNat Int (10 : Nat) (@instOfNat (10 : Nat))), (@OfNat.ofNat Int (6 : Nat) (@instOfNat (6 : Nat))), (@OfNat.ofNat Int (14 : Nat) (@instOfNat (14 : Nat))), (@OfNat.ofNat Int (1 : Nat) (@instOfNat (1 : Nat))), (@OfNat.ofNat Int (9 : Nat) (@instOfNat (9 : Nat))), (@OfNat.ofNat Int (5 : Nat) (@instOfNat (5 : Nat))), (@OfNat.ofNat Int (13 : Nat) (@instOfNat (13 : Nat))), (@OfNat.ofNat Int (3 : Nat) (@instOfNat (3 : Nat))), (@OfNat.ofNat Int (11 : Nat) (@instOfNat (11 : Nat))), (@OfNat.ofNat Int (7 : Nat) (@instOfNat (7 : Nat))), (@OfNat.ofNat Int (15 : Nat) (@instOfNat (15 : Nat)))] : List (Int)) (@Int.tmod i0 (16 : Int))) fun (v2 : Int) =>
   some (v2)
theorem md4_place_S (N : Nat) (i0 : Int) : (runK Go.Proofs.Tryd.prog (Ev25 N) 400 61 [(.int .i64)] [(.int .i64)] (i0, ())).run = md4_place N i0 := by kernel_rfl
noncomputable def Ev26 (N : Nat) : (R : Type) → Env R := Env.addFn (Ev25 N) 61 (fun R => fnK [(.int .i64)] [(.int .i64)] (fun c => md4_place N c.1))
theorem Ev26_ok (N : Nat) (R : Type) : EnvOK Go.Proofs.Tryd.prog (Ev26 N R) := EnvOK.addFn hmx (Ev25_ok N R) (Ev25_ok N _) (by kernel_rfl) (fun c => md4_place_S N c.1)
noncomputable def math_bits_RotateLeft32 (N : Nat) (x0 : Int) (k1 : Int) : Option (Int) :=
 bif (decide ((0 : Int) ≤ (Go.IntKind.wrap .u64 ((32 : Int) - (@Go.bits @Go.BinOp.and @Go.IntKind.u64 (Go.IntKind.wrap .u64 k1) (31 : Int)))))) then
  some ((@Go.bits @Go.BinOp.or @Go.IntKind.u32 (Go.IntKind.wrap .u32 (x0 * (@HPow.hPow Int Nat Int (@instHPow Int Nat (@instPowNat Int @Int.instNatPow)) (2 : Int) (@Min.min Nat @instMinNat (Int.toNat (@Go.bits @Go.BinOp.and @Go.IntKind.u64 (Go.IntKind.wrap .u64 k1) (31 : Int))) (@Go.IntKind.bits @Go.IntKind.u32))))) (@Int.fdiv x0 (@HPow.hPow Int Nat Int (@instHPow Int Nat (@instPowNat Int @Int.instNatPow)) (2 : Int) (@Min.min Nat @instMinNat (Int.toNat (Go.IntKind.wrap .u64 ((32 : Int) - (@Go.bits @Go.BinOp.and @Go.IntKind.u64 (Go.IntKind.wrap .u64 k1) (31 : Int))))) (@Go.IntKind.bits @Go.IntKind.u32))))))
 else
  none
theorem math_bits_RotateLeft32_S (N : Nat) (x0 : Int) (k1 : Int) : (runK Go.Proofs.Tryd.prog (Ev26 N) 400 62 [(.int .u32), (.int .i64)] [(.int .u32)] (x0, k1, ())).run = math_bits_RotateLeft32 N x0 k1 := by kernel_rfl
noncomputable def Ev27 (N : Nat) : (R : Type) → Env R := Env.addFn (Ev26 N) 62 (fun R => fnK [(.int .u32), (.int .i64)] [(.int .u32)] (fun c => math_bits_RotateLeft32 N c.1 c.2.1))
theorem Ev27_ok (N : Nat) (R : Type) : EnvOK Go.Proofs.Tryd.prog (Ev27 N R) := EnvOK.addFn hmx (Ev26_ok N R) (Ev26_ok N _) (by kernel_rfl) (fun c => math_bits_RotateLeft32_S N c.1 c.2.1)
noncomputable def md4_behind_L4_I : LI := ⟨70, 0, [], ⟨[(3, .adr (.arr 4 (.int .u32))), (5, .adr (.arr 3 (.int .u32))), (6, .lit (.box 0 0)), (7, .lit (.box 1 0)), (8, .lit (.box 2 0)), (16, .ty (.int .i64))], [.box 80 (.arr 4 (.int .u32)), .box 101 (.arr 16 (.int .u32)), .box 80 (.arr 4 (.int .u32))]⟩, [(.exit 0, ⟨[(3, .adr (.arr 4 (.int .u32))), (6, .lit (.box 0 0)), (8, .lit (.box 1 0))], [.box 80 (.arr 4 (.int .u32)), .box 80 (.arr 4 (.int .u32))]⟩)]⟩
noncomputable def md4_behind_L4 (N : Nat) (X : (((Arr (Int) 4) × ((Arr (Int) 3) × ((Int) × Unit))) × ((Arr (Int) 4) × ((Arr (Int) 16) × ((Arr (Int) 4) × Unit)))) → Option ((((Arr (Int) 4) × Unit) × ((Arr (Int) 4) × ((Arr (Int) 4) × Unit))))) (s3 : Arr (Int) 4) (k5 : Arr (Int) 3) (x16 : Int) (h0 : Arr (Int) 4) (h1 : Arr (Int) 16) (h2 : Arr (Int) 4) : Option ((((Arr (Int) 4) × Unit) × ((Arr (Int) 4) × ((Arr (Int) 4) × Unit)))) :=
 bif (decide (x16 < (48 : Int))) then
  Option.bind (@GetElem?.getElem? (List Int) Nat Int (fun (as8 : (List Int)) => (fun (i9 : Nat) => (@LT.lt Nat @instLTNat i9 (List.length as8)))) (@List.instGetElem?NatLtLength Int) h2.l (Int.toNat (0 : Int))) fun (v8 : Int) =>
  Option.bind (@GetElem?.getElem? (List Int) Nat Int (fun (as9 : (List Int)) => (fun (i10 : Nat) => (@LT.lt Nat @instLTNat i10 (List.length as9)))) (@List.instGetElem?NatLtLength Int) h2.l (Int.toNat (1 : Int))) fun (v9 : Int) =>
  Option.bind (@GetElem?.getElem? (List Int) Nat Int (fun (as10 : (List Int)) => (fun (i11 : Nat) => (@LT.lt Nat @instLTNat i11 (List.length as10)))) (@List.instGetElem?NatLtLength Int) h2.l (Int.toNat (2 : Int))) fun (v10 : Int) =>
  Option.bind (@GetElem?.getElem? (List Int) Nat Int (fun (as11 : (List Int)) => (fun (i12 : Nat) => (@LT.lt Nat @instLTNat i12 (List.length as11)))) (@List.instGetElem?NatLtLength Int) h2.l (Int.toNat (3 : Int))) fun (v11 : Int) =>
  Option.bind (@md4_mixed N (Go.IntKind.wrap .i64 (@Int.tdiv x16 (16 : Int))) v9 v10 v11) fun (v12 : Int) =>
  Option.bind (@md4_place N x16) fun (v13 : Int) =>
  bif (decide ((0 : Int) ≤ v13 ∧ v13 < (((16 : Nat) : Nat) : Int))) then
   Option.bind (@GetElem?.getElem? (List Int) Nat Int (fun (as14 : (List Int)) => (fun (i15 : Nat) => (@LT.lt Nat @instLTNat i15 (List.length as14)))) (@List.instGetElem?NatLtLength Int) h1.l (Int.toNat v13)) fun (v14 : Int) =>
   Option.bind (getI k5.l (Go.IntKind.wrap .i64 (@Int.tdiv x16 (16 : Int)))) fun (v15 : Int) =>
   Option.bind (@GetElem?.getElem? (List Int) Nat Int (fun (as16 : (List Int)) => (fun (i17 : Nat) => (@LT.lt Nat @instLTNat i17 (List.length as16)))) (@List.instGetElem?NatLtLength Int) h2.l (Int.toNat (3 : Int))) fun (v16 : Int) =>
   Option.bind (getI ([(@Arr.mk Int (4 : Nat) ([(@OfNat.ofNat Int (3 : Nat) (@instOfNat (3 : Nat))), (@OfNat.ofNat Int (7 : Nat) (@instOfNat (7 : Nat))), (@OfNat.ofNat Int (11 : Nat) (@instOfNat (11 : Nat))), (@OfNat.ofNat Int (19 : Nat) (@instOfNat (19 : Nat)))] : List (Int)) @globVs._proof_2), (@Arr.mk Int (4 : Nat) ([(@OfNat.ofNat Int (3 : Nat) (@instOfNat (3 : Nat))), (@OfNat.ofNat Int (5 : Nat) (@instOfNat (5 : Nat))), (@OfNat.ofNat Int (9 : Nat) (@instOfNat (9 : Nat))), (@OfNat.ofNat Int (13 : Nat) (@instOfNat (13 : Nat)))] : List (Int)) @globVs._proof_3), (@Arr.mk Int (4 : Nat) ([(@OfNat.ofNat Int (3 : Nat) (@instOfNat (3 : Nat))), (@OfNat.ofNat Int (9 : Nat) (@instOfNat (9 : Nat))), (@OfNat.ofNat Int (11 : Nat) (@instOfNat (11 : Nat))), (@OfNat.ofNat Int (15 : Nat) (@instOfNat (15 : Nat)))] : List (Int)) @globVs._proof_4)] : List ((Arr Int 4))) (Go.IntKind.wrap .i64 (@Int.tdiv x16 (16 : Int)))) fun (v17 : (Arr Int 4)) =>
   Option.bind (getI v17.l (@Int.tmod x16 (4 : Int))) fun (v18 : Int) =>
   Option.bind (@math_bits_RotateLeft32 N (Go.IntKind.wrap .u32 ((Go.IntKind.wrap .u32 ((Go.IntKind.wrap .u32 (v8 + v12)) + v14)) + v15)) v18) fun (v19 : Int) =>
   Option.bind (@GetElem?.getElem? (List Int) Nat Int (fun (as20 : (List Int)) => (fun (i21 : Nat) => (@LT.lt Nat @instLTNat i21 (List.length as20)))) (@List.instGetElem?NatLtLength Int) h2.l (Int.toNat (1 : Int))) fun (v20 : Int) =>
   Option.bind (@GetElem?.getElem? (List Int) Nat Int (fun (as21 : (List Int)) => (fun (i22 : Nat) => (@LT.lt Nat @instLTNat i22 (List.length as21)))) (@List.instGetElem?NatLtLength Int) h2.l (Int.toNat (2 : Int))) fun (v21 : Int) =>
   (X ((s3, (k5, ((Go.IntKind.wrap .i64 (x16 + (1 : Int))), @Unit.unit))), (h0, (h1, ((@Arr.cons Int (3 : Nat) v16 (@Arr.cons Int (2 : Nat) v19 (@Arr.cons Int (1 : Nat) v20 (@Arr.cons Int (0 : Nat) v21 (@Arr.nil Int))))), @Unit.unit)))))
  else
   none
 else
  some (((s3, @Unit.unit), (h0, (h2, @Unit.unit))))
noncomputable def md4_behind_L4_R (N : Nat) (c : (((Arr (Int) 4) × ((Arr (Int) 3) × ((Int) × Unit))) × ((Arr (Int) 4) × ((Arr (Int) 16) × ((Arr (Int) 4) × Unit))))) : Option ((((Arr (Int) 4) × Unit) × ((Arr (Int) 4) × ((Arr (Int) 4) × Unit)))) := gl (fun X c => md4_behind_L4 N X c.1.1 c.1.2.1 c.1.2.2.1 c.2.1 c.2.2.1 c.2.2.2.1) N c
theorem md4_behind_L4_S (N : Nat) (X : (((Arr (Int) 4) × ((Arr (Int) 3) × ((Int) × Unit))) × ((Arr (Int) 4) × ((Arr (Int) 16) × ((Arr (Int) 4) × Unit)))) → Option ((((Arr (Int) 4) × Unit) × ((Arr (Int) 4) × ((Arr (Int) 4) × Unit))))) (s3 : Arr (Int) 4) (k5 : Arr (Int) 3) (x16 : Int) (h0 : Arr (Int) 4) (h1 : Arr (Int) 16) (h2 : Arr (Int) 4) : (roundK Go.Proofs.Tryd.prog (Ev27 N) 400 [41] md4_behind_L4_I (loopAt Go.Proofs.Tryd.prog [41] 4) X ((s3, k5, x16, ()), (h0, h1, h2, ()))).run = md4_behind_L4 N X s3 k5 x16 h0 h1 h2 := by kernel_rfl
noncomputable def Ev28 (N : Nat) : (R : Type) → Env R := Env.addLp (Ev27 N) [41] 0 4 (fun R => lpK Go.Proofs.Tryd.prog md4_behind_L4_I (fun X c => md4_behind_L4 N X c.1.1 c.1.2.1 c.1.2.2.1 c.2.1 c.2.2.1 c.2.2.2.1) N)
theorem Ev28_ok (N : Nat) (R : Type) : EnvOK Go.Proofs.Tryd.prog (Ev28 N R) := EnvOK.addLp (Ev27_ok N R) (by kernel_rfl) (lpK_ok (li := md4_behind_L4_I) (G := fun X c => md4_behind_L4 N X c.1.1 c.1.2.1 c.1.2.2.1 c.2.1 c.2.2.1 c.2.2.2.1) hmx (Ev27_ok N _) (by kernel_rfl) loopAt_sub (fun (X : CT md4_behind_L4_I.sh → Option (OT md4_behind_L4_I.outs)) (c : CT md4_behind_L4_I.sh) => md4_behind_L4_S N X c.1.1 c.1.2.1 c.1.2.2.1 c.2.1 c.2.2.1 c.2.2.2.1) N)
noncomputable def md4_behind_L11_I : LI := ⟨70, 0, [], ⟨[(3, .adr (.arr 4 (.int .u32))), (6, .lit (.box 0 0)), (8, .lit (.box 1 0)), (57, .ty (.int .i64))], [.box 80 (.arr 4 (.int .u32)), .box 80 (.arr 4 (.int .u32))]⟩, [(.exit 2, ⟨[(6, .lit (.box 0 0)), (8, .lit (.box 1 0))], [.box 80 (.arr 4 (.int .u32)), .box 80 (.arr 4 (.int .u32))]⟩)]⟩
noncomputable def md4_behind_L11 (N : Nat) (X : (((Arr (Int) 4) × ((Int) × Unit)) × ((Arr (Int) 4) × ((Arr (Int) 4) × Unit))) → Option ((Unit × ((Arr (Int) 4) × ((Arr (Int) 4) × Unit))))) (s3 : Arr (Int) 4) (x57 : Int) (h0 : Arr (Int) 4) (h1 : Arr (Int) 4) : Option ((Unit × ((Arr (Int) 4) × ((Arr (Int) 4) × Unit)))) :=
 bif (decide (x57 < (4 : Int))) then
  bif (decide ((0 : Int) ≤ x57 ∧ x57 < (((4 : Nat) : Nat) : Int))) then
   Option.bind (@GetElem?.getElem? (List Int) Nat Int (fun (as6 : (List Int)) => (fun (i7 : Nat) => (@LT.lt Nat @instLTNat i7 (List.length as6)))) (@List.instGetElem?NatLtLength Int) h1.l (Int.toNat x57)) fun (v6 : Int) =>
   Option.bind (getI s3.l x57) fun (v7 : Int) =>
   bif (decide ((0 : Int) ≤ x57 ∧ x57 < (((4 : Nat) : Nat) : Int))) then
    Option.bind (@GetElem?.getElem? (List Int) Nat Int (fun (as8 : (List Int)) => (fun (i9 : Nat) => (@LT.lt Nat @instLTNat i9 (List.length as8)))) (@List.instGetElem?NatLtLength Int) h1.l (Int.toNat x57)) fun (v8 : Int) =>
    (X ((s3, ((Go.IntKind.wrap .i64 (x57 + (1 : Int))), @Unit.unit)), (h0, ((h1.set (Int.toNat x57) (Go.IntKind.wrap .u32 (v6 + v7))), @Unit.unit))))
   else
    none
  else
   none
 else
  some ((@Unit.unit, (h0, (h1, @Unit.unit))))
noncomputable def md4_behind_L11_R (N : Nat) (c : (((Arr (Int) 4) × ((Int) × Unit)) × ((Arr (Int) 4) × ((Arr (Int) 4) × Unit)))) : Option ((Unit × ((Arr (Int) 4) × ((Arr (Int) 4) × Unit)))) := gl (fun X c => md4_behind_L11 N X c.1.1 c.1.2.1 c.2.1 c.2.2.1) N c
theorem md4_behind_L11_S (N : Nat) (X : (((Arr (Int) 4) × ((Int) × Unit)) × ((Arr (Int) 4) × ((Arr (Int) 4) × Unit))) → Option ((Unit × ((Arr (Int) 4) × ((Arr (Int) 4) × Unit))))) (s3 : Arr (Int) 4) (x57 : Int) (h0 : Arr (Int) 4) (h1 : Arr (Int) 4) : (roundK Go.Proofs.Tryd.prog (Ev28 N) 400 [41] md4_behind_L11_I (loopAt Go.Proofs.Tryd.prog [41] 11) X ((s3, x57, ()), (h0, h1, ()))).run = md4_behind_L11 N X s3 x57 h0 h1 := by kernel_rfl
noncomputable def Ev29 (N : Nat) : (R : Type) → Env R := Env.addLp (Ev28 N) [41] 0 11 (fun R => lpK Go.Proofs.Tryd.prog md4_behind_L11_I (fun X c => md4_behind_L11 N X c.1.1 c.1.2.1 c.2.1 c.2.2.1) N)
theorem Ev29_ok (N : Nat) (R : Type) : EnvOK Go.Proofs.Tryd.prog (Ev29 N R) := EnvOK.addLp (Ev28_ok N R) (by kernel_rfl) (lpK_ok (li := md4_behind_L11_I) (G := fun X c => md4_behind_L11 N X c.1.1 c.1.2.1 c.2.1 c.2.2.1) hmx (Ev28_ok N _) (by kernel_rfl) loopAt_sub (fun (X : CT md4_behind_L11_I.sh → Option (OT md4_behind_L11_I.outs)) (c : CT md4_behind_L11_I.sh) => md4_behind_L11_S N X c.1.1 c.1.2.1 c.2.1 c.2.2.1) N)
noncomputable def md4_behind (N : Nat) (s0 : Arr (Int) 4) (b1 : Arr (Int) 64) (k2 : Arr (Int) 3) : Option (Arr (Int) 4) :=
 Option.bind (@md4_words N b1) fun (v4 : (Arr Int 16)) =>
 Option.bind (md4_behind_L4_R N ((s0, (k2, ((0 : Int), @Unit.unit))), ((@Arr.cons Int (3 : Nat) (0 : Int) (@Arr.cons Int (2 : Nat) (0 : Int) (@Arr.cons Int (1 : Nat) (0 : Int) (@Arr.cons Int (0 : Nat) (0 : Int) (@Arr.nil Int))))), (v4, (s0, @Unit.unit))))) fun (v5 : (((Arr Int 4) × Unit) × ((Arr Int 4) × ((Arr Int 4) × Unit)))) =>
 Option.bind (md4_behind_L11_R N ((v5.1.1, ((0 : Int), @Unit.unit)), (v5.2.1, (v5.2.2.1, @Unit.unit)))) fun (v6 : (Unit × ((Arr Int 4) × ((Arr Int 4) × Unit)))) =>
 some (v6.2.2.1)
theorem md4_behind_S (N : Nat) (s0 : Arr (Int) 4) (b1 : Arr (Int) 64) (k2 : Arr (Int) 3) : (runK Go.Proofs.Tryd.prog (Ev29 N) 400 41 [(.arr 4 (.int .u32)), (.arr 64 (.int .u8)), (.arr 3 (.int .u32))] [(.arr 4 (.int .u32))] (s0, b1, k2, ())).run = md4_behind N s0 b1 k2 := by kernel_rfl
noncomputable def Ev30 (N : Nat) : (R : Type) → Env R := Env.addFn (Ev29 N) 41 (fun R => fnK [(.arr 4 (.int .u32)), (.arr 64 (.int .u8)), (.arr 3 (.int .u32))] [(.arr 4 (.int .u32))] (fun c => md4_behind N c.1 c.2.1 c.2.2.1))
theorem Ev30_ok (N : Nat) (R : Type) : EnvOK Go.Proofs.Tryd.prog (Ev30 N R) := EnvOK.addFn hmx (Ev29_ok N R) (Ev29_ok N _) (by kernel_rfl) (fun c => md4_behind_S N c.1 c.2.1 c.2.2.1)
noncomputable def md4_Of_L5_I : LI := ⟨35, 0, [], ⟨[(2, .lit (.box 0 0)), (3, .ty (.sl (.int .u8))), (4, .lit (.box 1 0)), (5, .lit (.box 2 0)), (6, .ty (.int .i64))], [.box 22 (.arr 16 (.int .u8)), .box 80 (.arr 4 (.int .u32)), .box 82 (.arr 3 (.int .u32))]⟩, [(.exit 0, ⟨[(2, .lit (.box 0 0)), (4, .lit (.box 1 0))], [.box 22 (.arr 16 (.int .u8)), .box 80 (.arr 4 (.int .u32))]⟩)]⟩
noncomputable def md4_Of_L5 (N : Nat) (X : (((List (Int)) × ((Int) × Unit)) × ((Arr (Int) 16) × ((Arr (Int) 4) × ((Arr (Int) 3) × Unit)))) → Option ((Unit × ((Arr (Int) 16) × ((Arr (Int) 4) × Unit))))) (all3 : List (Int)) (i6 : Int) (h0 : Arr (Int) 16) (h1 : Arr (Int) 4) (h2 : Arr (Int) 3) : Option ((Unit × ((Arr (Int) 16) × ((Arr (Int) 4) × Unit)))) :=
 bif (decide (i6 < (((List.length all3) : Nat) : Int))) then
  Option.bind (subI all3 i6 (Go.IntKind.wrap .i64 (i6 + (64 : Int)))) fun (v7 : (List Int)) =>
  Option.bind (@toArr Int (64 : Nat) v7) fun (v8 : (Arr Int 64)) =>
  Option.bind (@md4_behind N h1 v8 h2) fun (v9 : (Arr Int 4)) =>
  (X ((all3, ((Go.IntKind.wrap .i64 (i6 + (64 : Int))), @Unit.unit)), (h0, (v9, (h2, @Unit.unit)))))
 else
  some ((@Unit.unit, (h0, (h1, @Unit.unit))))
noncomputable def md4_Of_L5_R (N : Nat) (c : (((List (Int)) × ((Int) × Unit)) × ((Arr (Int) 16) × ((Arr (Int) 4) × ((Arr (Int) 3) × Unit))))) : Option ((Unit × ((Arr (Int) 16) × ((Arr (Int) 4) × Unit)))) := gl (fun X c => md4_Of_L5 N X c.1.1 c.1.2.1 c.2.1 c.2.2.1 c.2.2.2.1) N c
theorem md4_Of_L5_S (N : Nat) (X : (((List (Int)) × ((Int) × Unit)) × ((Arr (Int) 16) × ((Arr (Int) 4) × ((Arr (Int) 3) × Unit)))) → Option ((Unit × ((Arr (Int) 16) × ((Arr (Int) 4) × Unit))))) (all3 : List (Int)) (i6 : Int) (h0 : Arr (Int) 16) (h1 : Arr (Int) 4) (h2 : Arr (Int) 3) : (roundK Go.Proofs.Tryd.prog (Ev30 N) 400 [28] md4_Of_L5_I (loopAt Go.Proofs.Tryd.prog [28] 5) X ((all3, i6, ()), (h0, h1, h2, ()))).run = md4_Of_L5 N X all3 i6 h0 h1 h2 := by kernel_rfl
noncomputable def Ev31 (N : Nat) : (R : Type) → Env R := Env.addLp (Ev30 N) [28] 0 5 (fun R => lpK Go.Proofs.Tryd.prog md4_Of_L5_I (fun X c => md4_Of_L5 N X c.1.1 c.1.2.1 c.2.1 c.2.2.1 c.2.2.2.1) N)
theorem Ev31_ok (N : Nat) (R : Type) : EnvOK Go.Proofs.Tryd.prog (Ev31 N R) := EnvOK.addLp (Ev30_ok N R) (by kernel_rfl) (lpK_ok (li := md4_Of_L5_I) (G := fun X c => md4_Of_L5 N X c.1.1 c.1.2.1 c.2.1 c.2.2.1 c.2.2.2.1) hmx (Ev30_ok N _) (by kernel_rfl) loopAt_sub (fun (X : CT md4_Of_L5_I.sh → Option (OT md4_Of_L5_I.outs)) (c : CT md4_Of_L5_I.sh) => md4_Of_L5_S N X c.1.1 c.1.2.1 c.2.1 c.2.2.1 c.2.2.2.1) N)
noncomputable def Ev32 (N : Nat) : (R : Type) → Env R := Env.addBx (Ev31 N) [(42, 0)]
theorem Ev32_ok (N : Nat) (R : Type) : EnvOK Go.Proofs.Tryd.prog (Ev32 N R) := EnvOK.addBx (Ev31_ok N R) [(42, 0)]
noncomputable def md4_digest_L3_I : LI := ⟨25, 0, [(3, 5)], ⟨[(2, .lit (.box 0 0)), (3, .lit (.own 1)), (8, .ty (.arr 4 (.int .u32))), (9, .ty (.int .i64))], [.box 22 (.arr 16 (.int .u8)), .own (.int .u8) 5]⟩, [(.exit 0, ⟨[(2, .lit (.box 0 0)), (3, .lit (.own 1))], [.box 22 (.arr 16 (.int .u8)), .own (.int .u8) 5]⟩)]⟩
noncomputable def md4_digest_L3 (N : Nat) (X : (((Arr (Int) 4) × ((Int) × Unit)) × ((Arr (Int) 16) × ((List (Int)) × Unit))) → Option ((Unit × ((Arr (Int) 16) × ((List (Int)) × Unit))))) (x8 : Arr (Int) 4) (x9 : Int) (h0 : Arr (Int) 16) (h1 : List (Int)) : Option ((Unit × ((Arr (Int) 16) × ((List (Int)) × Unit)))) :=
 bif (decide (x9 < (4 : Int))) then
  Option.bind (getI x8.l x9) fun (v6 : Int) =>
  Option.bind (@octs_Put N (Go.IntKind.wrap .u64 v6) (4 : Int) @Bool.true) fun (v7 : ((List Int) × Int)) =>
  bif (roomB ((List.length h1) + (List.length v7.1)) 1) then
   (X ((x8, ((Go.IntKind.wrap .i64 (x9 + (1 : Int))), @Unit.unit)), (h0, ((h1 ++ v7.1), @Unit.unit))))
  else
   none
 else
  some ((@Unit.unit, (h0, (h1, @Unit.unit))))
noncomputable def md4_digest_L3_R (N : Nat) (c : (((Arr (Int) 4) × ((Int) × Unit)) × ((Arr (Int) 16) × ((List (Int)) × Unit)))) : Option ((Unit × ((Arr (Int) 16) × ((List (Int)) × Unit)))) := gl (fun X c => md4_digest_L3 N X c.1.1 c.1.2.1 c.2.1 c.2.2.1) N c
theorem md4_digest_L3_S (N : Nat) (X : (((Arr (Int) 4) × ((Int) × Unit)) × ((Arr (Int) 16) × ((List (Int)) × Unit))) → Option ((Unit × ((Arr (Int) 16) × ((List (Int)) × Unit))))) (x8 : Arr (Int) 4) (x9 : Int) (h0 : Arr (Int) 16) (h1 : List (Int)) : (roundK Go.Proofs.Tryd.prog (Ev32 N) 400 [42] md4_digest_L3_I (loopAt Go.Proofs.Tryd.prog [42] 3) X ((x8, x9, ()), (h0, h1, ()))).run = md4_digest_L3 N X x8 x9 h0 h1 := by kernel_rfl
noncomputable def Ev33 (N : Nat) : (R : Type) → Env R := Env.addLp (Ev32 N) [42] 0 3 (fun R => lpK Go.Proofs.Tryd.prog md4_digest_L3_I (fun X c => md4_digest_L3 N X c.1.1 c.1.2.1 c.2.1 c.2.2.1) N)
theorem Ev33_ok (N : Nat) (R : Type) : EnvOK Go.Proofs.Tryd.prog (Ev33 N R) := EnvOK.addLp (Ev32_ok N R) (by kernel_rfl) (lpK_ok (li := md4_digest_L3_I) (G := fun X c => md4_digest_L3 N X c.1.1 c.1.2.1 c.2.1 c.2.2.1) hmx (Ev32_ok N _) (by kernel_rfl) loopAt_sub (fun (X : CT md4_digest_L3_I.sh → Option (OT md4_digest_L3_I.outs)) (c : CT md4_digest_L3_I.sh) => md4_digest_L3_S N X c.1.1 c.1.2.1 c.2.1 c.2.2.1) N)
noncomputable def md4_digest (N : Nat) (s0 : Arr (Int) 4) : Option (Arr (Int) 16) :=
 Option.bind (md4_digest_L3_R N ((s0, ((0 : Int), @Unit.unit)), ((@Arr.cons Int (15 : Nat) (0 : Int) (@Arr.cons Int (14 : Nat) (0 : Int) (@Arr.cons Int (13 : Nat) (0 : Int) (@Arr.cons Int (12 : Nat) (0 : Int) (@Arr.cons Int (11 : Nat) (0 : Int) (@Arr.cons Int (10 : Nat) (0 : Int) (@Arr.cons Int (9 : Nat) (0 : Int) (@Arr.cons Int (8 : Nat) (0 : Int) (@Arr.cons Int (7 : Nat) (0 : Int) (@Arr.cons Int (6 : Nat) (0 : Int) (@Arr.cons Int (5 : Nat) (0 : Int) (@Arr.cons Int (4 : Nat) (0 : Int) (@Arr.cons Int (3 : Nat) (0 : Int) (@Arr.cons Int (2 : Nat) (0 : Int) (@Arr.cons Int (1 : Nat) (0 : Int) (@Arr.cons Int (0 : Nat) (0 : Int) (@Arr.nil Int))))))))))))))))), (([] : List (Int)), @Unit.unit)))) fun (v2 : (Unit × ((Arr Int 16) × ((List Int) × Unit)))) =>
 Option.bind (@toArr Int (16 : Nat) v2.2.2.1) fun (v3 : (Arr Int 16)) =>
 some (v3)
theorem md4_digest_S (N : Nat) (s0 : Arr (Int) 4) : (runK Go.Proofs.Tryd.prog (Ev33 N) 400 42 [(.arr 4 (.int .u32))] [(.arr 16 (.int .u8))] (s0, ())).run = md4_digest N s0 := by kernel_rfl
noncomputable def Ev34 (N : Nat) : (R : Type) → Env R := Env.addFn (Ev33 N) 42 (fun R => fnK [(.arr 4 (.int .u32))] [(.arr 16 (.int .u8))] (fun c => md4_digest N c.1))
theorem Ev34_ok (N : Nat) (R : Type) : EnvOK Go.Proofs.Tryd.prog (Ev34 N R) := EnvOK.addFn hmx (Ev33_ok N R) (Ev33_ok N _) (by kernel_rfl) (fun c => md4_digest_S N c.1)
noncomputable def md4_Of (N : Nat) (parts0 : List (List (Int))) : Option (Arr (Int) 16) :=
 Option.bind (md4_Of_1_octs_Join_L3_R N ((parts0, ((0 : Int), (parts0, ((((List.length parts0) : Nat) : Int), ((0 : Int), @Unit.unit))))), ((@Arr.cons Int (15 : Nat) (0 : Int) (@Arr.cons Int (14 : Nat) (0 : Int) (@Arr.cons Int (13 : Nat) (0 : Int) (@Arr.cons Int (12 : Nat) (0 : Int) (@Arr.cons Int (11 : Nat) (0 : Int) (@Arr.cons Int (10 : Nat) (0 : Int) (@Arr.cons Int (9 : Nat) (0 : Int) (@Arr.cons Int (8 : Nat) (0 : Int) (@Arr.cons Int (7 : Nat) (0 : Int) (@Arr.cons Int (6 : Nat) (0 : Int) (@Arr.cons Int (5 : Nat) (0 : Int) (@Arr.cons Int (4 : Nat) (0 : Int) (@Arr.cons Int (3 : Nat) (0 : Int) (@Arr.cons Int (2 : Nat) (0 : Int) (@Arr.cons Int (1 : Nat) (0 : Int) (@Arr.cons Int (0 : Nat) (0 : Int) (@Arr.nil Int))))))))))))))))), @Unit.unit))) fun (v2 : (((List (List Int)) × (Int × Unit)) × ((Arr Int 16) × Unit))) =>
 bif ((decide ((0 : Int) ≤ (0 : Int) ∧ (0 : Int) ≤ v2.1.2.1)) && (roomB (Int.toNat v2.1.2.1) 1)) then
  Option.bind (md4_Of_1_octs_Join_L9_R N ((v2.1.1, ((((List.length v2.1.1) : Nat) : Int), ((0 : Int), @Unit.unit))), (v2.2.1, ((@List.replicate Int (Int.toNat (0 : Int)) (0 : Int)), @Unit.unit)))) fun (v3 : (Unit × ((Arr Int 16) × ((List Int) × Unit)))) =>
  Option.bind (@md4_Tail N (Go.IntKind.wrap .u64 (((List.length v3.2.2.1) : Nat) : Int))) fun (v4 : (List Int)) =>
  bif (roomB ((List.length v3.2.2.1) + (List.length v4)) 1) then
   Option.bind (@md4_constants N) fun (v5 : (Arr Int 3)) =>
   Option.bind (md4_Of_L5_R N (((v3.2.2.1 ++ v4), ((0 : Int), @Unit.unit)), (v3.2.1, ((@Arr.cons Int (3 : Nat) (1732584193 : Int) (@Arr.cons Int (2 : Nat) (4023233417 : Int) (@Arr.cons Int (1 : Nat) (2562383102 : Int) (@Arr.cons Int (0 : Nat) (271733878 : Int) (@Arr.nil Int))))), (v5, @Unit.unit))))) fun (v6 : (Unit × ((Arr Int 16) × ((Arr Int 4) × Unit)))) =>
   Option.bind (@md4_digest N v6.2.2.1) fun (v7 : (Arr Int 16)) =>
   some (v7)
  else
   none
 else
  none
theorem md4_Of_S (N : Nat) (parts0 : List (List (Int))) : (runK Go.Proofs.Tryd.prog (Ev34 N) 400 28 [(.sl (.sl (.int .u8)))] [(.arr 16 (.int .u8))] (parts0, ())).run = md4_Of N parts0 := by kernel_rfl
theorem md4_Of_C (N : Nat) (parts0 : List (List (Int))) (y : Arr (Int) 16) (h : md4_Of N parts0 = some y) : CallsK Go.Proofs.Tryd.prog 28 (valA [(.sl (.sl (.int .u8)))] (parts0, ())) (tupV (valR [(.arr 16 (.int .u8))] y)) := runK_ok hmx (Ev34_ok N _) (okFn_ok (by kernel_rfl)) (by rw [md4_Of_S]; exact h)
noncomputable def Ev35 (N : Nat) : (R : Type) → Env R := Env.addFn (Ev34 N) 28 (fun R => fnK [(.sl (.sl (.int .u8)))] [(.arr 16 (.int .u8))] (fun c => md4_Of N c.1))
theorem Ev35_ok (N : Nat) (R : Type) : EnvOK Go.Proofs.Tryd.prog (Ev35 N R) := EnvOK.addFn hmx (Ev34_ok N R) (Ev34_ok N _) (by kernel_rfl) (fun c => md4_Of_S N c.1)
noncomputable def Ev36 (N : Nat) : (R : Type) → Env R := Env.addBx (Ev35 N) [(47, 0)]
theorem Ev36_ok (N : Nat) (R : Type) : EnvOK Go.Proofs.Tryd.prog (Ev36 N R) := EnvOK.addBx (Ev35_ok N R) [(47, 0)]
noncomputable def ref04_place (N : Nat) (i0 : Int) : Option (Int) :=
 bif (decide ((Go.IntKind.wrap .i64 (@Int.tdiv i0 (16 : Int))) = (0 : Int))) then
  some (i0)
 else
  bif (decide ((Go.IntKind.wrap .i64 (@Int.tdiv i0 (16 : Int))) = (1 : Int))) then
   some ((Go.IntKind.wrap .i64 ((Go.IntKind.wrap .i64 ((@Int.tmod i0 (4 : Int)) * (4 : Int))) + (@Int.tmod (Go.IntKind.wrap .i64 (@Int.tdiv i0 (4 : Int))) (4 : Int)))))
  else
   Option.bind (getI ([(0 : Int), (8 : Int), (4 : Int), (12 : Int), (2 : Int), (10 : Int), (6 : Int), (14 : Int), (1 : Int), (9 : Int), (5 : Int), (13 : Int), (3 : Int), (11 : Int), (7 : Int), (15 : Int)] : List (Int)) (Go.IntKind.wrap .i64 (i0 - (32 : Int)))) fun (v2 : Int) =>
   some (v2)
theorem ref04_place_S (N : Nat) (i0 : Int) : (runK Go.Proofs.Tryd.prog (Ev36 N) 400 64 [(.int .i64)] [(.int .i64)] (i0, ())).run = ref04_place N i0 := by kernel_rfl
noncomputable def Ev37 (N : Nat) : (R : Type) → Env R := Env.addFn (Ev36 N) 64 (fun R => fnK [(.int .i64)] [(.int .i64)] (fun c => ref04_place N c.1))
theorem Ev37_ok (N : Nat) (R : Type) : EnvOK Go.Proofs.Tryd.prog (Ev37 N R) := EnvOK.addFn hmx (Ev36_ok N R) (Ev36_ok N _) (by kernel_rfl) (fun c => ref04_place_S N c.1)
noncomputable def ref04_two (N : Nat) (b0 : Int) (c1 : Int) (d2 : Int) : Option (Int) :=
 some ((@Go.bits @Go.BinOp.or @Go.IntKind.u32 (@Go.bits @Go.BinOp.or @Go.IntKind.u32 (@Go.bits @Go.BinOp.and @Go.IntKind.u32 b0 c1) (@Go.bits @Go.BinOp.and @Go.IntKind.u32 b0 d2)) (@Go.bits @Go.BinOp.and @Go.IntKind.u32 c1 d2)))
theorem ref04_two_S (N : Nat) (b0 : Int) (c1 : Int) (d2 : Int) : (runK Go.Proofs.Tryd.prog (Ev37 N) 400 80 [(.int .u32), (.int .u32), (.int .u32)] [(.int .u32)] (b0, c1, d2, ())).run = ref04_two N b0 c1 d2 := by kernel_rfl
noncomputable def Ev38 (N : Nat) : (R : Type) → Env R := Env.addFn (Ev37 N) 80 (fun R => fnK [(.int .u32), (.int .u32), (.int .u32)] [(.int .u32)] (fun c => ref04_two N c.1 c.2.1 c.2.2.1))
theorem Ev38_ok (N : Nat) (R : Type) : EnvOK Go.Proofs.Tryd.prog (Ev38 N R) := EnvOK.addFn hmx (Ev37_ok N R) (Ev37_ok N _) (by kernel_rfl) (fun c => ref04_two_S N c.1 c.2.1 c.2.2.1)
noncomputable def ref04_step (N : Nat) (round0 : Int) (b1 : Int) (c2 : Int) (d3 : Int) : Option (Int) :=
 bif (decide (round0 = (0 : Int))) then
  some ((@Go.bits @Go.BinOp.or @Go.IntKind.u32 (@Go.bits @Go.BinOp.and @Go.IntKind.u32 b1 c2) (@Go.bits @Go.BinOp.and @Go.IntKind.u32 (Go.IntKind.wrap .u32 ((4294967295 : Int) - b1)) d3)))
 else
  bif (decide (round0 = (1 : Int))) then
   some ((Go.IntKind.wrap .u32 ((@Go.bits @Go.BinOp.or @Go.IntKind.u32 (@Go.bits @Go.BinOp.or @Go.IntKind.u32 (@Go.bits @Go.BinOp.and @Go.IntKind.u32 b1 c2) (@Go.bits @Go.BinOp.and @Go.IntKind.u32 b1 d3)) (@Go.bits @Go.BinOp.and @Go.IntKind.u32 c2 d3)) + (1518500249 : Int))))
  else
   some ((Go.IntKind.wrap .u32 ((@Go.bits @Go.BinOp.xor @Go.IntKind.u32 (@Go.bits @Go.BinOp.xor @Go.IntKind.u32 b1 c2) d3) + (1859775393 : Int))))
theorem ref04_step_S (N : Nat) (round0 : Int) (b1 : Int) (c2 : Int) (d3 : Int) : (runK Go.Proofs.Tryd.prog (Ev38 N) 400 66 [(.int .i64), (.int .u32), (.int .u32), (.int .u32)] [(.int .u32)] (round0, b1, c2, d3, ())).run = ref04_step N round0 b1 c2 d3 := by kernel_rfl
noncomputable def Ev39 (N : Nat) : (R : Type) → Env R := Env.addFn (Ev38 N) 66 (fun R => fnK [(.int .i64), (.int .u32), (.int .u32), (.int .u32)] [(.int .u32)] (fun c => ref04_step N c.1 c.2.1 c.2.2.1 c.2.2.2.1))
theorem Ev39_ok (N : Nat) (R : Type) : EnvOK Go.Proofs.Tryd.prog (Ev39 N R) := EnvOK.addFn hmx (Ev38_ok N R) (Ev38_ok N _) (by kernel_rfl) (fun c => ref04_step_S N c.1 c.2.1 c.2.2.1 c.2.2.2.1)
noncomputable def ref04_turn (N : Nat) (x0 : Int) (n1 : Int) : Option (Int) :=
 bif (decide ((0 : Int) ≤ n1)) then
  bif (decide ((0 : Int) ≤ (Go.IntKind.wrap .i64 ((32 : Int) - n1)))) then
   some ((@Go.bits @Go.BinOp.or @Go.IntKind.u32 (Go.IntKind.wrap .u32 (x0 * (@HPow.hPow Int Nat Int (@instHPow Int Nat (@instPowNat Int @Int.instNatPow)) (2 : Int) (@Min.min Nat @instMinNat (Int.toNat n1) (@Go.IntKind.bits @Go.IntKind.u32))))) (@Int.fdiv x0 (@HPow.hPow Int Nat Int (@instHPow Int Nat (@instPowNat Int @Int.instNatPow)) (2 : Int) (@Min.min Nat @instMinNat (Int.toNat (Go.IntKind.wrap .i64 ((32 : Int) - n1))) (@Go.IntKind.bits @Go.IntKind.u32))))))
  else
   none
 else
  none
theorem ref04_turn_S (N : Nat) (x0 : Int) (n1 : Int) : (runK Go.Proofs.Tryd.prog (Ev39 N) 400 65 [(.int .u32), (.int .i64)] [(.int .u32)] (x0, n1, ())).run = ref04_turn N x0 n1 := by kernel_rfl
noncomputable def Ev40 (N : Nat) : (R : Type) → Env R := Env.addFn (Ev39 N) 65 (fun R => fnK [(.int .u32), (.int .i64)] [(.int .u32)] (fun c => ref04_turn N c.1 c.2.1))
theorem Ev40_ok (N : Nat) (R : Type) : EnvOK Go.Proofs.Tryd.prog (Ev40 N R) := EnvOK.addFn hmx (Ev39_ok N R) (Ev39_ok N _) (by kernel_rfl) (fun c => ref04_turn_S N c.1 c.2.1)
noncomputable def ref04_Block_L4_I : LI := ⟨94, 0, [], ⟨[(2, .adr (.arr 4 (.int .u32))), (3, .adr (.arr 64 (.int .u8))), (4, .lit (.box 0 0)), (5, .ty (.sl (.sl (.int .i64)))), (6, .lit (.box 1 0)), (7, .ty (.int .i64))], [.box 79 (.arr 4 (.int .u32)), .box 79 (.arr 4 (.int .u32))]⟩, [(.exit 0, ⟨[(2, .adr (.arr 4 (.int .u32))), (4, .lit (.box 0 0)), (6, .lit (.box 1 0))], [.box 79 (.arr 4 (.int .u32)), .box 79 (.arr 4 (.int .u32))]⟩)]⟩
noncomputable def ref04_Block_L4 (N : Nat) (X : (((Arr (Int) 4) × ((Arr (Int) 64) × ((List (List (Int))) × ((Int) × Unit)))) × ((Arr (Int) 4) × ((Arr (Int) 4) × Unit))) → Option ((((Arr (Int) 4) × Unit) × ((Arr (Int) 4) × ((Arr (Int) 4) × Unit))))) (s2 : Arr (Int) 4) (block3 : Arr (Int) 64) (turns5 : List (List (Int))) (i7 : Int) (h0 : Arr (Int) 4) (h1 : Arr (Int) 4) : Option ((((Arr (Int) 4) × Unit) × ((Arr (Int) 4) × ((Arr (Int) 4) × Unit)))) :=
 bif (decide (i7 < (48 : Int))) then
  Option.bind (@ref04_place N i7) fun (v8 : Int) =>
  Option.bind (getI block3.l (Go.IntKind.wrap .i64 ((4 : Int) * v8))) fun (v9 : Int) =>
  Option.bind (getI block3.l (Go.IntKind.wrap .i64 ((Go.IntKind.wrap .i64 ((4 : Int) * v8)) + (1 : Int)))) fun (v10 : Int) =>
  Option.bind (getI block3.l (Go.IntKind.wrap .i64 ((Go.IntKind.wrap .i64 ((4 : Int) * v8)) + (2 : Int)))) fun (v11 : Int) =>
  Option.bind (getI block3.l (Go.IntKind.wrap .i64 ((Go.IntKind.wrap .i64 ((4 : Int) * v8)) + (3 : Int)))) fun (v12 : Int) =>
  Option.bind (@GetElem?.getElem? (List Int) Nat Int (fun (as13 : (List Int)) => (fun (i14 : Nat) => (@LT.lt Nat @instLTNat i14 (List.length as13)))) (@List.instGetElem?NatLtLength Int) h1.l (Int.toNat (0 : Int))) fun (v13 : Int) =>
  Option.bind (@GetElem?.getElem? (List Int) Nat Int (fun (as14 : (List Int)) => (fun (i15 : Nat) => (@LT.lt Nat @instLTNat i15 (List.length as14)))) (@List.instGetElem?NatLtLength Int) h1.l (Int.toNat (1 : Int))) fun (v14 : Int) =>
  Option.bind (@GetElem?.getElem? (List Int) Nat Int (fun (as15 : (List Int)) => (fun (i16 : Nat) => (@LT.lt Nat @instLTNat i16 (List.length as15)))) (@List.instGetElem?NatLtLength Int) h1.l (Int.toNat (2 : Int))) fun (v15 : Int) =>
  Option.bind (@GetElem?.getElem? (List Int) Nat Int (fun (as16 : (List Int)) => (fun (i17 : Nat) => (@LT.lt Nat @instLTNat i17 (List.length as16)))) (@List.instGetElem?NatLtLength Int) h1.l (Int.toNat (3 : Int))) fun (v16 : Int) =>
  Option.bind (@ref04_step N (Go.IntKind.wrap .i64 (@Int.tdiv i7 (16 : Int))) v14 v15 v16) fun (v17 : Int) =>
  Option.bind (getI turns5 (Go.IntKind.wrap .i64 (@Int.tdiv i7 (16 : Int)))) fun (v18 : (List Int)) =>
  Option.bind (getI v18 (@Int.tmod i7 (4 : Int))) fun (v19 : Int) =>
  Option.bind (@ref04_turn N (Go.IntKind.wrap .u32 ((Go.IntKind.wrap .u32 (v13 + v17)) + (Go.IntKind.wrap .u32 ((Go.IntKind.wrap .u32 ((Go.IntKind.wrap .u32 ((Go.IntKind.wrap .u32 v9) + (Go.IntKind.wrap .u32 ((Go.IntKind.wrap .u32 v10) * (256 : Int))))) + (Go.IntKind.wrap .u32 ((Go.IntKind.wrap .u32 v11) * (65536 : Int))))) + (Go.IntKind.wrap .u32 ((Go.IntKind.wrap .u32 v12) * (16777216 : Int))))))) v19) fun (v20 : Int) =>
  Option.bind (@GetElem?.getElem? (List Int) Nat Int (fun (as21 : (List Int)) => (fun (i22 : Nat) => (@LT.lt Nat @instLTNat i22 (List.length as21)))) (@List.instGetElem?NatLtLength Int) h1.l (Int.toNat (3 : Int))) fun (v21 : Int) =>
  Option.bind (@GetElem?.getElem? (List Int) Nat Int (fun (as22 : (List Int)) => (fun (i23 : Nat) => (@LT.lt Nat @instLTNat i23 (List.length as22)))) (@List.instGetElem?NatLtLength Int) h1.l (Int.toNat (1 : Int))) fun (v22 : Int) =>
  Option.bind (@GetElem?.getElem? (List Int) Nat Int (fun (as23 : (List Int)) => (fun (i24 : Nat) => (@LT.lt Nat @instLTNat i24 (List.length as23)))) (@List.instGetElem?NatLtLength Int) h1.l (Int.toNat (2 : Int))) fun (v23 : Int) =>
  (X ((s2, (block3, (turns5, ((Go.IntKind.wrap .i64 (i7 + (1 : Int))), @Unit.unit)))), (h0, ((@Arr.cons Int (3 : Nat) v21 (@Arr.cons Int (2 : Nat) v20 (@Arr.cons Int (1 : Nat) v22 (@Arr.cons Int (0 : Nat) v23 (@Arr.nil Int))))), @Unit.unit))))
 else
  some (((s2, @Unit.unit), (h0, (h1, @Unit.unit))))
noncomputable def ref04_Block_L4_R (N : Nat) (c : (((Arr (Int) 4) × ((Arr (Int) 64) × ((List (List (Int))) × ((Int) × Unit)))) × ((Arr (Int) 4) × ((Arr (Int) 4) × Unit)))) : Option ((((Arr (Int) 4) × Unit) × ((Arr (Int) 4) × ((Arr (Int) 4) × Unit)))) := gl (fun X c => ref04_Block_L4 N X c.1.1 c.1.2.1 c.1.2.2.1 c.1.2.2.2.1 c.2.1 c.2.2.1) N c
theorem ref04_Block_L4_S (N : Nat) (X : (((Arr (Int) 4) × ((Arr (Int) 64) × ((List (List (Int))) × ((Int) × Unit)))) × ((Arr (Int) 4) × ((Arr (Int) 4) × Unit))) → Option ((((Arr (Int) 4) × Unit) × ((Arr (Int) 4) × ((Arr (Int) 4) × Unit))))) (s2 : Arr (Int) 4) (block3 : Arr (Int) 64) (turns5 : List (List (Int))) (i7 : Int) (h0 : Arr (Int) 4) (h1 : Arr (Int) 4) : (roundK Go.Proofs.Tryd.prog (Ev40 N) 400 [47] ref04_Block_L4_I (loopAt Go.Proofs.Tryd.prog [47] 4) X ((s2, block3, turns5, i7, ()), (h0, h1, ()))).run = ref04_Block_L4 N X s2 block3 turns5 i7 h0 h1 := by kernel_rfl
noncomputable def Ev41 (N : Nat) : (R : Type) → Env R := Env.addLp (Ev40 N) [47] 0 4 (fun R => lpK Go.Proofs.Tryd.prog ref04_Block_L4_I (fun X c => ref04_Block_L4 N X c.1.1 c.1.2.1 c.1.2.2.1 c.1.2.2.2.1 c.2.1 c.2.2.1) N)
theorem Ev41_ok (N : Nat) (R : Type) : EnvOK Go.Proofs.Tryd.prog (Ev41 N R) := EnvOK.addLp (Ev40_ok N R) (by kernel_rfl) (lpK_ok (li := ref04_Block_L4_I) (G := fun X c => ref04_Block_L4 N X c.1.1 c.1.2.1 c.1.2.2.1 c.1.2.2.2.1 c.2.1 c.2.2.1) hmx (Ev40_ok N _) (by kernel_rfl) loopAt_sub (fun (X : CT ref04_Block_L4_I.sh → Option (OT ref04_Block_L4_I.outs)) (c : CT ref04_Block_L4_I.sh) => ref04_Block_L4_S N X c.1.1 c.1.2.1 c.1.2.2.1 c.1.2.2.2.1 c.2.1 c.2.2.1) N)
noncomputable def ref04_Block_L11_I : LI := ⟨94, 0, [], ⟨[(2, .adr (.arr 4 (.int .u32))), (4, .lit (.box 0 0)), (6, .lit (.box 1 0)), (11, .ty (.int .i64))], [.box 79 (.arr 4 (.int .u32)), .box 79 (.arr 4 (.int .u32))]⟩, [(.exit 2, ⟨[(4, .lit (.box 0 0)), (6, .lit (.box 1 0))], [.box 79 (.arr 4 (.int .u32)), .box 79 (.arr 4 (.int .u32))]⟩)]⟩
noncomputable def ref04_Block_L11 (N : Nat) (X : (((Arr (Int) 4) × ((Int) × Unit)) × ((Arr (Int) 4) × ((Arr (Int) 4) × Unit))) → Option ((Unit × ((Arr (Int) 4) × ((Arr (Int) 4) × Unit))))) (s2 : Arr (Int) 4) (i11 : Int) (h0 : Arr (Int) 4) (h1 : Arr (Int) 4) : Option ((Unit × ((Arr (Int) 4) × ((Arr (Int) 4) × Unit)))) :=
 bif (decide (i11 < (4 : Int))) then
  bif (decide ((0 : Int) ≤ i11 ∧ i11 < (((4 : Nat) : Nat) : Int))) then
   Option.bind (@GetElem?.getElem? (List Int) Nat Int (fun (as6 : (List Int)) => (fun (i7 : Nat) => (@LT.lt Nat @instLTNat i7 (List.length as6)))) (@List.instGetElem?NatLtLength Int) h1.l (Int.toNat i11)) fun (v6 : Int) =>
   Option.bind (getI s2.l i11) fun (v7 : Int) =>
   bif (decide ((0 : Int) ≤ i11 ∧ i11 < (((4 : Nat) : Nat) : Int))) then
    Option.bind (@GetElem?.getElem? (List Int) Nat Int (fun (as8 : (List Int)) => (fun (i9 : Nat) => (@LT.lt Nat @instLTNat i9 (List.length as8)))) (@List.instGetElem?NatLtLength Int) h1.l (Int.toNat i11)) fun (v8 : Int) =>
    (X ((s2, ((Go.IntKind.wrap .i64 (i11 + (1 : Int))), @Unit.unit)), (h0, ((h1.set (Int.toNat i11) (Go.IntKind.wrap .u32 (v6 + v7))), @Unit.unit))))
   else
    none
  else
   none
 else
  some ((@Unit.unit, (h0, (h1, @Unit.unit))))
noncomputable def ref04_Block_L11_R (N : Nat) (c : (((Arr (Int) 4) × ((Int) × Unit)) × ((Arr (Int) 4) × ((Arr (Int) 4) × Unit)))) : Option ((Unit × ((Arr (Int) 4) × ((Arr (Int) 4) × Unit)))) := gl (fun X c => ref04_Block_L11 N X c.1.1 c.1.2.1 c.2.1 c.2.2.1) N c
theorem ref04_Block_L11_S (N : Nat) (X : (((Arr (Int) 4) × ((Int) × Unit)) × ((Arr (Int) 4) × ((Arr (Int) 4) × Unit))) → Option ((Unit × ((Arr (Int) 4) × ((Arr (Int) 4) × Unit))))) (s2 : Arr (Int) 4) (i11 : Int) (h0 : Arr (Int) 4) (h1 : Arr (Int) 4) : (roundK Go.Proofs.Tryd.prog (Ev41 N) 400 [47] ref04_Block_L11_I (loopAt Go.Proofs.Tryd.prog [47] 11) X ((s2, i11, ()), (h0, h1, ()))).run = ref04_Block_L11 N X s2 i11 h0 h1 := by kernel_rfl
noncomputable def Ev42 (N : Nat) : (R : Type) → Env R := Env.addLp (Ev41 N) [47] 0 11 (fun R => lpK Go.Proofs.Tryd.prog ref04_Block_L11_I (fun X c => ref04_Block_L11 N X c.1.1 c.1.2.1 c.2.1 c.2.2.1) N)
theorem Ev42_ok (N : Nat) (R : Type) : EnvOK Go.Proofs.Tryd.prog (Ev42 N R) := EnvOK.addLp (Ev41_ok N R) (by kernel_rfl) (lpK_ok (li := ref04_Block_L11_I) (G := fun X c => ref04_Block_L11 N X c.1.1 c.1.2.1 c.2.1 c.2.2.1) hmx (Ev41_ok N _) (by kernel_rfl) loopAt_sub (fun (X : CT ref04_Block_L11_I.sh → Option (OT ref04_Block_L11_I.outs)) (c : CT ref04_Block_L11_I.sh) => ref04_Block_L11_S N X c.1.1 c.1.2.1 c.2.1 c.2.2.1) N)
noncomputable def ref04_Block (N : Nat) (s0 : Arr (Int) 4) (block1 : Arr (Int) 64) : Option (Arr (Int) 4) :=
 Option.bind (ref04_Block_L4_R N ((s0, (block1, (([([(3 : Int), (7 : Int), (11 : Int), (19 : Int)] : List (Int)), ([(3 : Int), (5 : Int), (9 : Int), (13 : Int)] : List (Int)), ([(3 : Int), (9 : Int), (11 : Int), (15 : Int)] : List (Int))] : List ((List Int))), ((0 : Int), @Unit.unit)))), ((@Arr.cons Int (3 : Nat) (0 : Int) (@Arr.cons Int (2 : Nat) (0 : Int) (@Arr.cons Int (1 : Nat) (0 : Int) (@Arr.cons Int (0 : Nat) (0 : Int) (@Arr.nil Int))))), (s0, @Unit.unit)))) fun (v3 : (((Arr Int 4) × Unit) × ((Arr Int 4) × ((Arr Int 4) × Unit)))) =>
 Option.bind (ref04_Block_L11_R N ((v3.1.1, ((0 : Int), @Unit.unit)), (v3.2.1, (v3.2.2.1, @Unit.unit)))) fun (v4 : (Unit × ((Arr Int 4) × ((Arr Int 4) × Unit)))) =>
 some (v4.2.2.1)
theorem ref04_Block_S (N : Nat) (s0 : Arr (Int) 4) (block1 : Arr (Int) 64) : (runK Go.Proofs.Tryd.prog (Ev42 N) 400 47 [(.arr 4 (.int .u32)), (.arr 64 (.int .u8))] [(.arr 4 (.int .u32))] (s0, block1, ())).run = ref04_Block N s0 block1 := by kernel_rfl
theorem ref04_Block_C (N : Nat) (s0 : Arr (Int) 4) (block1 : Arr (Int) 64) (y : Arr (Int) 4) (h : ref04_Block N s0 block1 = some y) : CallsK Go.Proofs.Tryd.prog 47 (valA [(.arr 4 (.int .u32)), (.arr 64 (.int .u8))] (s0, block1, ())) (tupV (valR [(.arr 4 (.int .u32))] y)) := runK_ok hmx (Ev42_ok N _) (okFn_ok (by kernel_rfl)) (by rw [ref04_Block_S]; exact h)
noncomputable def Ev43 (N : Nat) : (R : Type) → Env R := Env.addFn (Ev42 N) 47 (fun R => fnK [(.arr 4 (.int .u32)), (.arr 64 (.int .u8))] [(.arr 4 (.int .u32))] (fun c => ref04_Block N c.1 c.2.1))
theorem Ev43_ok (N : Nat) (R : Type) : EnvOK Go.Proofs.Tryd.prog (Ev43 N R) := EnvOK.addFn hmx (Ev42_ok N R) (Ev42_ok N _) (by kernel_rfl) (fun c => ref04_Block_S N c.1 c.2.1)
noncomputable def Ev44 (N : Nat) : (R : Type) → Env R := Env.addMv (Ev43 N) [(45, 1), (45, 8)]
theorem Ev44_ok (N : Nat) (R : Type) : EnvOK Go.Proofs.Tryd.prog (Ev44 N R) := EnvOK.addMv (Ev43_ok N R) [(45, 1), (45, 8)]
noncomputable def ref04_Tail_L2_I : LI := ⟨32, 0, [], ⟨[(0, .ty (.int .u64)), (3, .lit (.own 0))], [.own (.int .u8) 5]⟩, [(.exit 0, ⟨[(0, .ty (.int .u64)), (3, .lit (.own 0))], [.own (.int .u8) 5]⟩)]⟩
noncomputable def ref04_Tail_L2 (N : Nat) (X : (((Int) × Unit) × ((List (Int)) × Unit)) → Option ((((Int) × Unit) × ((List (Int)) × Unit)))) (n0 : Int) (h0 : List (Int)) : Option ((((Int) × Unit) × ((List (Int)) × Unit))) :=
 bif (!(decide ((@Int.tmod (Go.IntKind.wrap .u64 (n0 + (Go.IntKind.wrap .u64 (((List.length h0) : Nat) : Int)))) (64 : Int)) = (56 : Int)))) then
  bif (roomB ((List.length h0) + (List.length ([(0 : Int)] : List (Int)))) 1) then
   (X ((n0, @Unit.unit), ((h0 ++ ([(0 : Int)] : List (Int))), @Unit.unit)))
  else
   none
 else
  some (((n0, @Unit.unit), (h0, @Unit.unit)))
noncomputable def ref04_Tail_L2_R (N : Nat) (c : (((Int) × Unit) × ((List (Int)) × Unit))) : Option ((((Int) × Unit) × ((List (Int)) × Unit))) := gl (fun X c => ref04_Tail_L2 N X c.1.1 c.2.1) N c
theorem ref04_Tail_L2_S (N : Nat) (X : (((Int) × Unit) × ((List (Int)) × Unit)) → Option ((((Int) × Unit) × ((List (Int)) × Unit)))) (n0 : Int) (h0 : List (Int)) : (roundK Go.Proofs.Tryd.prog (Ev44 N) 400 [45] ref04_Tail_L2_I (loopAt Go.Proofs.Tryd.prog [45] 2) X ((n0, ()), (h0, ()))).run = ref04_Tail_L2 N X n0 h0 := by kernel_rfl
noncomputable def Ev45 (N : Nat) : (R : Type) → Env R := Env.addLp (Ev44 N) [45] 0 2 (fun R => lpK Go.Proofs.Tryd.prog ref04_Tail_L2_I (fun X c => ref04_Tail_L2 N X c.1.1 c.2.1) N)
theorem Ev45_ok (N : Nat) (R : Type) : EnvOK Go.Proofs.Tryd.prog (Ev45 N R) := EnvOK.addLp (Ev44_ok N R) (by kernel_rfl) (lpK_ok (li := ref04_Tail_L2_I) (G := fun X c => ref04_Tail_L2 N X c.1.1 c.2.1) hmx (Ev44_ok N _) (by kernel_rfl) loopAt_sub (fun (X : CT ref04_Tail_L2_I.sh → Option (OT ref04_Tail_L2_I.outs)) (c : CT ref04_Tail_L2_I.sh) => ref04_Tail_L2_S N X c.1.1 c.2.1) N)
noncomputable def ref04_Tail_L6_I : LI := ⟨32, 0, [], ⟨[(3, .lit (.own 0)), (4, .ty (.int .u64)), (5, .ty (.int .i64))], [.own (.int .u8) 5]⟩, [(.exit 2, ⟨[(3, .lit (.own 0))], [.own (.int .u8) 5]⟩)]⟩
noncomputable def ref04_Tail_L6 (N : Nat) (X : (((Int) × ((Int) × Unit)) × ((List (Int)) × Unit)) → Option ((Unit × ((List (Int)) × Unit)))) (bits4 : Int) (i5 : Int) (h0 : List (Int)) : Option ((Unit × ((List (Int)) × Unit))) :=
 bif (decide (i5 < (8 : Int))) then
  bif (roomB ((List.length h0) + (List.length ([(Go.IntKind.wrap .u8 (@Int.tmod bits4 (256 : Int)))] : List (Int)))) 1) then
   (X (((Go.IntKind.wrap .u64 (@Int.tdiv bits4 (256 : Int))), ((Go.IntKind.wrap .i64 (i5 + (1 : Int))), @Unit.unit)), ((h0 ++ ([(Go.IntKind.wrap .u8 (@Int.tmod bits4 (256 : Int)))] : List (Int))), @Unit.unit)))
  else
   none
 else
  some ((@Unit.unit, (h0, @Unit.unit)))
noncomputable def ref04_Tail_L6_R (N : Nat) (c : (((Int) × ((Int) × Unit)) × ((List (Int)) × Unit))) : Option ((Unit × ((List (Int)) × Unit))) := gl (fun X c => ref04_Tail_L6 N X c.1.1 c.1.2.1 c.2.1) N c
theorem ref04_Tail_L6_S (N : Nat) (X : (((Int) × ((Int) × Unit)) × ((List (Int)) × Unit)) → Option ((Unit × ((List (Int)) × Unit)))) (bits4 : Int) (i5 : Int) (h0 : List (Int)) : (roundK Go.Proofs.Tryd.prog (Ev45 N) 400 [45] ref04_Tail_L6_I (loopAt Go.Proofs.Tryd.prog [45] 6) X ((bits4, i5, ()), (h0, ()))).run = ref04_Tail_L6 N X bits4 i5 h0 := by kernel_rfl
noncomputable def Ev46 (N : Nat) : (R : Type) → Env R := Env.addLp (Ev45 N) [45] 0 6 (fun R => lpK Go.Proofs.Tryd.prog ref04_Tail_L6_I (fun X c => ref04_Tail_L6 N X c.1.1 c.1.2.1 c.2.1) N)
theorem Ev46_ok (N : Nat) (R : Type) : EnvOK Go.Proofs.Tryd.prog (Ev46 N R) := EnvOK.addLp (Ev45_ok N R) (by kernel_rfl) (lpK_ok (li := ref04_Tail_L6_I) (G := fun X c => ref04_Tail_L6 N X c.1.1 c.1.2.1 c.2.1) hmx (Ev45_ok N _) (by kernel_rfl) loopAt_sub (fun (X : CT ref04_Tail_L6_I.sh → Option (OT ref04_Tail_L6_I.outs)) (c : CT ref04_Tail_L6_I.sh) => ref04_Tail_L6_S N X c.1.1 c.1.2.1 c.2.1) N)
noncomputable def ref04_Tail (N : Nat) (n0 : Int) : Option (List (Int)) :=
 Option.bind (ref04_Tail_L2_R N ((n0, @Unit.unit), (([(128 : Int)] : List (Int)), @Unit.unit))) fun (v2 : ((Int × Unit) × ((List Int) × Unit))) =>
 Option.bind (ref04_Tail_L6_R N (((Go.IntKind.wrap .u64 ((8 : Int) * v2.1.1)), ((0 : Int), @Unit.unit)), (v2.2.1, @Unit.unit))) fun (v3 : (Unit × ((List Int) × Unit))) =>
 some (v3.2.1)
theorem ref04_Tail_S (N : Nat) (n0 : Int) : (runK Go.Proofs.Tryd.prog (Ev46 N) 400 45 [(.int .u64)] [(.sl (.int .u8))] (n0, ())).run = ref04_Tail N n0 := by kernel_rfl
theorem ref04_Tail_C (N : Nat) (n0 : Int) (y : List (Int)) (h : ref04_Tail N n0 = some y) : CallsK Go.Proofs.Tryd.prog 45 (valA [(.int .u64)] (n0, ())) (tupV (valR [(.sl (.int .u8))] y)) := runK_ok hmx (Ev46_ok N _) (okFn_ok (by kernel_rfl)) (by rw [ref04_Tail_S]; exact h)
noncomputable def Ev47 (N : Nat) : (R : Type) → Env R := Env.addFn (Ev46 N) 45 (fun R => fnK [(.int .u64)] [(.sl (.int .u8))] (fun c => ref04_Tail N c.1))
theorem Ev47_ok (N : Nat) (R : Type) : EnvOK Go.Proofs.Tryd.prog (Ev47 N R) := EnvOK.addFn hmx (Ev46_ok N R) (Ev46_ok N _) (by kernel_rfl) (fun c => ref04_Tail_S N c.1)
noncomputable def ref04_First (N : Nat) : Option (Arr (Int) 4) :=
 some ((@Arr.cons Int (3 : Nat) (1732584193 : Int) (@Arr.cons Int (2 : Nat) (4023233417 : Int) (@Arr.cons Int (1 : Nat) (2562383102 : Int) (@Arr.cons Int (0 : Nat) (271733878 : Int) (@Arr.nil Int))))))
theorem ref04_First_S (N : Nat) : (runK Go.Proofs.Tryd.prog (Ev47 N) 400 46 [] [(.arr 4 (.int .u32))] ()).run = ref04_First N  := by kernel_rfl
theorem ref04_First_C (N : Nat) (y : Arr (Int) 4) (h : ref04_First N  = some y) : CallsK Go.Proofs.Tryd.prog 46 (valA [] ()) (tupV (valR [(.arr 4 (.int .u32))] y)) := runK_ok hmx (Ev47_ok N _) (okFn_ok (by kernel_rfl)) (by rw [ref04_First_S]; exact h)
noncomputable def Ev48 (N : Nat) : (R : Type) → Env R := Env.addFn (Ev47 N) 46 (fun R => fnK [] [(.arr 4 (.int .u32))] (fun c => ref04_First N ))
theorem Ev48_ok (N : Nat) (R : Type) : EnvOK Go.Proofs.Tryd.prog (Ev48 N R) := EnvOK.addFn hmx (Ev47_ok N R) (Ev47_ok N _) (by kernel_rfl) (fun c => ref04_First_S N )
noncomputable def ref04_Of_L8_I : LI := ⟨55, 0, [], ⟨[(2, .lit (.box 0 0)), (3, .lit (.own 1)), (4, .lit (.box 2 0)), (5, .ty (.int .i64)), (6, .lit (.box 3 0)), (7, .ty (.int .i64))], [.box 22 (.arr 16 (.int .u8)), .own (.int .u8) 5, .box 79 (.arr 4 (.int .u32)), .box 85 (.arr 64 (.int .u8))]⟩, [(.exit 2, ⟨[(2, .lit (.box 0 0)), (3, .lit (.own 1)), (4, .lit (.box 2 0)), (5, .ty (.int .i64)), (6, .lit (.box 3 0))], [.box 22 (.arr 16 (.int .u8)), .own (.int .u8) 5, .box 79 (.arr 4 (.int .u32)), .box 85 (.arr 64 (.int .u8))]⟩)]⟩
noncomputable def ref04_Of_L8 (N : Nat) (X : (((Int) × ((Int) × Unit)) × ((Arr (Int) 16) × ((List (Int)) × ((Arr (Int) 4) × ((Arr (Int) 64) × Unit))))) → Option ((((Int) × Unit) × ((Arr (Int) 16) × ((List (Int)) × ((Arr (Int) 4) × ((Arr (Int) 64) × Unit))))))) (x5 : Int) (i7 : Int) (h0 : Arr (Int) 16) (h1 : List (Int)) (h2 : Arr (Int) 4) (h3 : Arr (Int) 64) : Option ((((Int) × Unit) × ((Arr (Int) 16) × ((List (Int)) × ((Arr (Int) 4) × ((Arr (Int) 64) × Unit)))))) :=
 bif (decide (i7 < (64 : Int))) then
  bif (decide ((0 : Int) ≤ (Go.IntKind.wrap .i64 (x5 + i7)) ∧ (Go.IntKind.wrap .i64 (x5 + i7)) < (((List.length h1) : Nat) : Int))) then
   Option.bind (@GetElem?.getElem? (List Int) Nat Int (fun (as8 : (List Int)) => (fun (i9 : Nat) => (@LT.lt Nat @instLTNat i9 (List.length as8)))) (@List.instGetElem?NatLtLength Int) h1 (Int.toNat (Go.IntKind.wrap .i64 (x5 + i7)))) fun (v8 : Int) =>
   bif (decide ((0 : Int) ≤ i7 ∧ i7 < (((64 : Nat) : Nat) : Int))) then
    Option.bind (@GetElem?.getElem? (List Int) Nat Int (fun (as9 : (List Int)) => (fun (i10 : Nat) => (@LT.lt Nat @instLTNat i10 (List.length as9)))) (@List.instGetElem?NatLtLength Int) h3.l (Int.toNat i7)) fun (v9 : Int) =>
    (X ((x5, ((Go.IntKind.wrap .i64 (i7 + (1 : Int))), @Unit.unit)), (h0, (h1, (h2, ((h3.set (Int.toNat i7) v8), @Unit.unit))))))
   else
    none
  else
   none
 else
  some (((x5, @Unit.unit), (h0, (h1, (h2, (h3, @Unit.unit))))))
noncomputable def ref04_Of_L8_R (N : Nat) (c : (((Int) × ((Int) × Unit)) × ((Arr (Int) 16) × ((List (Int)) × ((Arr (Int) 4) × ((Arr (Int) 64) × Unit)))))) : Option ((((Int) × Unit) × ((Arr (Int) 16) × ((List (Int)) × ((Arr (Int) 4) × ((Arr (Int) 64) × Unit)))))) := gl (fun X c => ref04_Of_L8 N X c.1.1 c.1.2.1 c.2.1 c.2.2.1 c.2.2.2.1 c.2.2.2.2.1) N c
theorem ref04_Of_L8_S (N : Nat) (X : (((Int) × ((Int) × Unit)) × ((Arr (Int) 16) × ((List (Int)) × ((Arr (Int) 4) × ((Arr (Int) 64) × Unit))))) → Option ((((Int) × Unit) × ((Arr (Int) 16) × ((List (Int)) × ((Arr (Int) 4) × ((Arr (Int) 64) × Unit))))))) (x5 : Int) (i7 : Int) (h0 : Arr (Int) 16) (h1 : List (Int)) (h2 : Arr (Int) 4) (h3 : Arr (Int) 64) : (roundK Go.Proofs.Tryd.prog (Ev48 N) 400 [30] ref04_Of_L8_I (loopAt Go.Proofs.Tryd.prog [30] 8) X ((x5, i7, ()), (h0, h1, h2, h3, ()))).run = ref04_Of_L8 N X x5 i7 h0 h1 h2 h3 := by kernel_rfl
noncomputable def Ev49 (N : Nat) : (R : Type) → Env R := Env.addLp (Ev48 N) [30] 0 8 (fun R => lpK Go.Proofs.Tryd.prog ref04_Of_L8_I (fun X c => ref04_Of_L8 N X c.1.1 c.1.2.1 c.2.1 c.2.2.1 c.2.2.2.1 c.2.2.2.2.1) N)
theorem Ev49_ok (N : Nat) (R : Type) : EnvOK Go.Proofs.Tryd.prog (Ev49 N R) := EnvOK.addLp (Ev48_ok N R) (by kernel_rfl) (lpK_ok (li := ref04_Of_L8_I) (G := fun X c => ref04_Of_L8 N X c.1.1 c.1.2.1 c.2.1 c.2.2.1 c.2.2.2.1 c.2.2.2.2.1) hmx (Ev48_ok N _) (by kernel_rfl) loopAt_sub (fun (X : CT ref04_Of_L8_I.sh → Option (OT ref04_Of_L8_I.outs)) (c : CT ref04_Of_L8_I.sh) => ref04_Of_L8_S N X c.1.1 c.1.2.1 c.2.1 c.2.2.1 c.2.2.2.1 c.2.2.2.2.1) N)
noncomputable def ref04_Of_L4_I : LI := ⟨55, 0, [], ⟨[(2, .lit (.box 0 0)), (3, .lit (.own 1)), (4, .lit (.box 2 0)), (5, .ty (.int .i64))], [.box 22 (.arr 16 (.int .u8)), .own (.int .u8) 5, .box 79 (.arr 4 (.int .u32))]⟩, [(.exit 0, ⟨[(2, .lit (.box 0 0)), (4, .lit (.box 1 0))], [.box 22 (.arr 16 (.int .u8)), .box 79 (.arr 4 (.int .u32))]⟩)]⟩
noncomputable def ref04_Of_L4 (N : Nat) (X : (((Int) × Unit) × ((Arr (Int) 16) × ((List (Int)) × ((Arr (Int) 4) × Unit)))) → Option ((Unit × ((Arr (Int) 16) × ((Arr (Int) 4) × Unit))))) (x5 : Int) (h0 : Arr (Int) 16) (h1 : List (Int)) (h2 : Arr (Int) 4) : Option ((Unit × ((Arr (Int) 16) × ((Arr (Int) 4) × Unit)))) :=
 bif (decide (x5 < (((List.length h1) : Nat) : Int))) then
  Option.bind (ref04_Of_L8_R N ((x5, ((0 : Int), @Unit.unit)), (h0, (h1, (h2, ((@Arr.cons Int (63 : Nat) (0 : Int) (@Arr.cons Int (62 : Nat) (0 : Int) (@Arr.cons Int (61 : Nat) (0 : Int) (@Arr.cons Int (60 : Nat) (0 : Int) (@Arr.cons Int (59 : Nat) (0 : Int) (@Arr.cons Int (58 : Nat) (0 : Int) (@Arr.cons Int (57 : Nat) (0 : Int) (@Arr.cons Int (56 : Nat) (0 : Int) (@Arr.cons Int (55 : Nat) (0 : Int) (@Arr.cons Int (54 : Nat) (0 : Int) (@Arr.cons Int (53 : Nat) (0 : Int) (@Arr.cons Int (52 : Nat) (0 : Int) (@Arr.cons Int (51 : Nat) (0 : Int) (@Arr.cons Int (50 : Nat) (0 : Int) (@Arr.cons Int (49 : Nat) (0 : Int) (@Arr.cons Int (48 : Nat) (0 : Int) (@Arr.cons Int (47 : Nat) (0 : Int) (@Arr.cons Int (46 : Nat) (0 : Int) (@Arr.cons Int (45 : Nat) (0 : Int) (@Arr.cons Int (44 : Nat) (0 : Int) (@Arr.cons Int (43 : Nat) (0 : Int) (@Arr.cons Int (42 : Nat) (0 : Int) (@Arr.cons Int (41 : Nat) (0 : Int) (@Arr.cons Int (40 : Nat) (0 : Int) (@Arr.cons Int (39 : Nat) (0 : Int) (@Arr.cons Int (38 : Nat) (0 : Int) (@Arr.cons Int (37 : Nat) (0 : Int) (@Arr.cons Int (36 : Nat) (0 : Int) (@Arr.cons Int (35 : Nat) (0 : Int) (@Arr.cons Int (34 : Nat) (0 : Int) (@Arr.cons Int (33 : Nat) (0 : Int) (@Arr.cons Int (32 : Nat) (0 : Int) (@Arr.cons Int (31 : Nat) (0 : Int) (@Arr.cons Int (30 : Nat) (0 : Int) (@Arr.cons Int (29 : Nat) (0 : Int) (@Arr.cons Int (28 : Nat) (0 : Int) (@Arr.cons Int (27 : Nat) (0 : Int) (@Arr.cons Int (26 : Nat) (0 : Int) (@Arr.cons Int (25 : Nat) (0 : Int) (@Arr.cons Int (24 : Nat) (0 : Int) (@Arr.cons Int (23 : Nat) (0 : Int) (@Arr.cons Int (22 : Nat) (0 : Int) (@Arr.cons Int (21 : Nat) (0 : Int) (@Arr.cons Int (20 : Nat) (0 : Int) (@Arr.cons Int (19 : Nat) (0 : Int) (@Arr.cons Int (18 : Nat) (0 : Int) (@Arr.cons Int (17 : Nat) (0 : Int) (@Arr.cons Int (16 : Nat) (0 : Int) (@Arr.cons Int (15 : Nat) (0 : Int) (@Arr.cons Int (14 : Nat) (0 : Int) (@Arr.cons Int (13 : Nat) (0 : Int) (@Arr.cons Int (12 : Nat) (0 : Int) (@Arr.cons Int (11 : Nat) (0 : Int) (@Arr.cons Int (10 : Nat) (0 : Int) (@Arr.cons Int (9 : Nat) (0 : Int) (@Arr.cons Int (8 : Nat) (0 : Int) (@Arr.cons Int (7 : Nat) (0 : Int) (@Arr.cons Int (6 : Nat) (0 : Int) (@Arr.cons Int (5 : Nat) (0 : Int) (@Arr.cons Int (4 : Nat) (0 : Int) (@Arr.cons Int (3 : Nat) (0 : Int) (@Arr.cons Int (2 : Nat) (0 : Int) (@Arr.cons Int (1 : Nat) (0 : Int) (@Arr.cons Int (0 : Nat) (0 : Int) (@Arr.nil Int))))))))))))))))))))))))))))))))))))))))))))))))))))))))))))))))), @Unit.unit)))))) fun (v6 : ((Int × Unit) × ((Arr Int 16) × ((List Int) × ((Arr Int 4) × ((Arr Int 64) × Unit)))))) =>
  Option.bind (@ref04_Block N v6.2.2.2.1 v6.2.2.2.2.1) fun (v7 : (Arr Int 4)) =>
  (X (((Go.IntKind.wrap .i64 (v6.1.1 + (64 : Int))), @Unit.unit), (v6.2.1, (v6.2.2.1, (v7, @Unit.unit)))))
 else
  some ((@Unit.unit, (h0, (h2, @Unit.unit))))
noncomputable def ref04_Of_L4_R (N : Nat) (c : (((Int) × Unit) × ((Arr (Int) 16) × ((List (Int)) × ((Arr (Int) 4) × Unit))))) : Option ((Unit × ((Arr (Int) 16) × ((Arr (Int) 4) × Unit)))) := gl (fun X c => ref04_Of_L4 N X c.1.1 c.2.1 c.2.2.1 c.2.2.2.1) N c
theorem ref04_Of_L4_S (N : Nat) (X : (((Int) × Unit) × ((Arr (Int) 16) × ((List (Int)) × ((Arr (Int) 4) × Unit)))) → Option ((Unit × ((Arr (Int) 16) × ((Arr (Int) 4) × Unit))))) (x5 : Int) (h0 : Arr (Int) 16) (h1 : List (Int)) (h2 : Arr (Int) 4) : (roundK Go.Proofs.Tryd.prog (Ev49 N) 400 [30] ref04_Of_L4_I (loopAt Go.Proofs.Tryd.prog [30] 4) X ((x5, ()), (h0, h1, h2, ()))).run = ref04_Of_L4 N X x5 h0 h1 h2 := by kernel_rfl
noncomputable def Ev50 (N : Nat) : (R : Type) → Env R := Env.addLp (Ev49 N) [30] 0 4 (fun R => lpK Go.Proofs.Tryd.prog ref04_Of_L4_I (fun X c => ref04_Of_L4 N X c.1.1 c.2.1 c.2.2.1 c.2.2.2.1) N)
theorem Ev50_ok (N : Nat) (R : Type) : EnvOK Go.Proofs.Tryd.prog (Ev50 N R) := EnvOK.addLp (Ev49_ok N R) (by kernel_rfl) (lpK_ok (li := ref04_Of_L4_I) (G := fun X c => ref04_Of_L4 N X c.1.1 c.2.1 c.2.2.1 c.2.2.2.1) hmx (Ev49_ok N _) (by kernel_rfl) loopAt_sub (fun (X : CT ref04_Of_L4_I.sh → Option (OT ref04_Of_L4_I.outs)) (c : CT ref04_Of_L4_I.sh) => ref04_Of_L4_S N X c.1.1 c.2.1 c.2.2.1 c.2.2.2.1) N)
noncomputable def ref04_Of_L14_I : LI := ⟨55, 0, [], ⟨[(2, .lit (.box 0 0)), (4, .lit (.box 1 0)), (8, .lit (.box 2 0)), (9, .ty (.int .i64))], [.box 22 (.arr 16 (.int .u8)), .box 79 (.arr 4 (.int .u32)), .box 22 (.arr 16 (.int .u8))]⟩, [(.exit 4, ⟨[(2, .lit (.box 0 0)), (8, .lit (.box 1 0))], [.box 22 (.arr 16 (.int .u8)), .box 22 (.arr 16 (.int .u8))]⟩)]⟩
noncomputable def ref04_Of_L14 (N : Nat) (X : (((Int) × Unit) × ((Arr (Int) 16) × ((Arr (Int) 4) × ((Arr (Int) 16) × Unit)))) → Option ((Unit × ((Arr (Int) 16) × ((Arr (Int) 16) × Unit))))) (i9 : Int) (h0 : Arr (Int) 16) (h1 : Arr (Int) 4) (h2 : Arr (Int) 16) : Option ((Unit × ((Arr (Int) 16) × ((Arr (Int) 16) × Unit)))) :=
 bif (decide (i9 < (16 : Int))) then
  bif (decide ((0 : Int) ≤ (Go.IntKind.wrap .i64 (@Int.tdiv i9 (4 : Int))) ∧ (Go.IntKind.wrap .i64 (@Int.tdiv i9 (4 : Int))) < (((4 : Nat) : Nat) : Int))) then
   Option.bind (@GetElem?.getElem? (List Int) Nat Int (fun (as6 : (List Int)) => (fun (i7 : Nat) => (@LT.lt Nat @instLTNat i7 (List.length as6)))) (@List.instGetElem?NatLtLength Int) h1.l (Int.toNat (Go.IntKind.wrap .i64 (@Int.tdiv i9 (4 : Int))))) fun (v6 : Int) =>
   bif (decide ((0 : Int) ≤ (Go.IntKind.wrap .i64 ((8 : Int) * (@Int.tmod i9 (4 : Int)))))) then
    bif (decide ((0 : Int) ≤ i9 ∧ i9 < (((16 : Nat) : Nat) : Int))) then
     Option.bind (@GetElem?.getElem? (List Int) Nat Int (fun (as7 : (List Int)) => (fun (i8 : Nat) => (@LT.lt Nat @instLTNat i8 (List.length as7)))) (@List.instGetElem?NatLtLength Int) h2.l (Int.toNat i9)) fun (v7 : Int) =>
     (X (((Go.IntKind.wrap .i64 (i9 + (1 : Int))), @Unit.unit), (h0, (h1, ((h2.set (Int.toNat i9) (Go.IntKind.wrap .u8 (@Int.fdiv v6 (@HPow.hPow Int Nat Int (@instHPow Int Nat (@instPowNat Int @Int.instNatPow)) (2 : Int) (@Min.min Nat @instMinNat (Int.toNat (Go.IntKind.wrap .i64 ((8 : Int) * (@Int.tmod i9 (4 : Int))))) (@Go.IntKind.bits @Go.IntKind.u32)))))), @Unit.unit)))))
    else
     none
   else
    none
  else
   none
 else
  some ((@Unit.unit, (h0, (h2, @Unit.unit))))
noncomputable def ref04_Of_L14_R (N : Nat) (c : (((Int) × Unit) × ((Arr (Int) 16) × ((Arr (Int) 4) × ((Arr (Int) 16) × Unit))))) : Option ((Unit × ((Arr (Int) 16) × ((Arr (Int) 16) × Unit)))) := gl (fun X c => ref04_Of_L14 N X c.1.1 c.2.1 c.2.2.1 c.2.2.2.1) N c
theorem ref04_Of_L14_S (N : Nat) (X : (((Int) × Unit) × ((Arr (Int) 16) × ((Arr (Int) 4) × ((Arr (Int) 16) × Unit)))) → Option ((Unit × ((Arr (Int) 16) × ((Arr (Int) 16) × Unit))))) (i9 : Int) (h0 : Arr (Int) 16) (h1 : Arr (Int) 4) (h2 : Arr (Int) 16) : (roundK Go.Proofs.Tryd.prog (Ev50 N) 400 [30] ref04_Of_L14_I (loopAt Go.Proofs.Tryd.prog [30] 14) X ((i9, ()), (h0, h1, h2, ()))).run = ref04_Of_L14 N X i9 h0 h1 h2 := by kernel_rfl
noncomputable def Ev51 (N : Nat) : (R : Type) → Env R := Env.addLp (Ev50 N) [30] 0 14 (fun R => lpK Go.Proofs.Tryd.prog ref04_Of_L14_I (fun X c => ref04_Of_L14 N X c.1.1 c.2.1 c.2.2.1 c.2.2.2.1) N)
theorem Ev51_ok (N : Nat) (R : Type) : EnvOK Go.Proofs.Tryd.prog (Ev51 N R) := EnvOK.addLp (Ev50_ok N R) (by kernel_rfl) (lpK_ok (li := ref04_Of_L14_I) (G := fun X c => ref04_Of_L14 N X c.1.1 c.2.1 c.2.2.1 c.2.2.2.1) hmx (Ev50_ok N _) (by kernel_rfl) loopAt_sub (fun (X : CT ref04_Of_L14_I.sh → Option (OT ref04_Of_L14_I.outs)) (c : CT ref04_Of_L14_I.sh) => ref04_Of_L14_S N X c.1.1 c.2.1 c.2.2.1 c.2.2.2.1) N)
noncomputable def ref04_Of (N : Nat) (b0 : List (Int)) : Option (Arr (Int) 16) :=
 bif (roomB (List.length b0) 1) then
  Option.bind (@ref04_Tail N (Go.IntKind.wrap .u64 (((List.length b0) : Nat) : Int))) fun (v2 : (List Int)) =>
  bif (roomB ((List.length b0) + (List.length v2)) 1) then
   Option.bind (ref04_Of_L4_R N (((0 : Int), @Unit.unit), ((@Arr.cons Int (15 : Nat) (0 : Int) (@Arr.cons Int (14 : Nat) (0 : Int) (@Arr.cons Int (13 : Nat) (0 : Int) (@Arr.cons Int (12 : Nat) (0 : Int) (@Arr.cons Int (11 : Nat) (0 : Int) (@Arr.cons Int (10 : Nat) (0 : Int) (@Arr.cons Int (9 : Nat) (0 : Int) (@Arr.cons Int (8 : Nat) (0 : Int) (@Arr.cons Int (7 : Nat) (0 : Int) (@Arr.cons Int (6 : Nat) (0 : Int) (@Arr.cons Int (5 : Nat) (0 : Int) (@Arr.cons Int (4 : Nat) (0 : Int) (@Arr.cons Int (3 : Nat) (0 : Int) (@Arr.cons Int (2 : Nat) (0 : Int) (@Arr.cons Int (1 : Nat) (0 : Int) (@Arr.cons Int (0 : Nat) (0 : Int) (@Arr.nil Int))))))))))))))))), ((b0 ++ v2), ((@Arr.cons Int (3 : Nat) (1732584193 : Int) (@Arr.cons Int (2 : Nat) (4023233417 : Int) (@Arr.cons Int (1 : Nat) (2562383102 : Int) (@Arr.cons Int (0 : Nat) (271733878 : Int) (@Arr.nil Int))))), @Unit.unit))))) fun (v3 : (Unit × ((Arr Int 16) × ((Arr Int 4) × Unit)))) =>
   Option.bind (ref04_Of_L14_R N (((0 : Int), @Unit.unit), (v3.2.1, (v3.2.2.1, ((@Arr.cons Int (15 : Nat) (0 : Int) (@Arr.cons Int (14 : Nat) (0 : Int) (@Arr.cons Int (13 : Nat) (0 : Int) (@Arr.cons Int (12 : Nat) (0 : Int) (@Arr.cons Int (11 : Nat) (0 : Int) (@Arr.cons Int (10 : Nat) (0 : Int) (@Arr.cons Int (9 : Nat) (0 : Int) (@Arr.cons Int (8 : Nat) (0 : Int) (@Arr.cons Int (7 : Nat) (0 : Int) (@Arr.cons Int (6 : Nat) (0 : Int) (@Arr.cons Int (5 : Nat) (0 : Int) (@Arr.cons Int (4 : Nat) (0 : Int) (@Arr.cons Int (3 : Nat) (0 : Int) (@Arr.cons Int (2 : Nat) (0 : Int) (@Arr.cons Int (1 : Nat) (0 : Int) (@Arr.cons Int (0 : Nat) (0 : Int) (@Arr.nil Int))))))))))))))))), @Unit.unit))))) fun (v4 : (Unit × ((Arr Int 16) × ((Arr Int 16) × Unit)))) =>
   some (v4.2.2.1)
  else
   none
 else
  none
theorem ref04_Of_S (N : Nat) (b0 : List (Int)) : (runK Go.Proofs.Tryd.prog (Ev51 N) 400 30 [(.sl (.int .u8))] [(.arr 16 (.int .u8))] (b0, ())).run = ref04_Of N b0 := by kernel_rfl
theorem ref04_Of_C (N : Nat) (b0 : List (Int)) (y : Arr (Int) 16) (h : ref04_Of N b0 = some y) : CallsK Go.Proofs.Tryd.prog 30 (valA [(.sl (.int .u8))] (b0, ())) (tupV (valR [(.arr 16 (.int .u8))] y)) := runK_ok hmx (Ev51_ok N _) (okFn_ok (by kernel_rfl)) (by rw [ref04_Of_S]; exact h)
noncomputable def Ev52 (N : Nat) : (R : Type) → Env R := Env.addFn (Ev51 N) 30 (fun R => fnK [(.sl (.int .u8))] [(.arr 16 (.int .u8))] (fun c => ref04_Of N c.1))
theorem Ev52_ok (N : Nat) (R : Type) : EnvOK Go.Proofs.Tryd.prog (Ev52 N R) := EnvOK.addFn hmx (Ev51_ok N R) (Ev51_ok N _) (by kernel_rfl) (fun c => ref04_Of_S N c.1)
noncomputable def ref01_Same_L4_I : LI := ⟨26, 0, [], ⟨[(0, .ty (.sl (.int .u8))), (1, .ty (.sl (.int .u8))), (5, .ty (.int .i64))], []⟩, [(.ret, ⟨[(4, .ty .bool)], []⟩), (.exit 0, ⟨[], []⟩)]⟩
noncomputable def ref01_Same_L4 (N : Nat) (X : (((List (Int)) × ((List (Int)) × ((Int) × Unit))) × Unit) → Option (((((Bool) × Unit) × Unit) ⊕ (Unit × Unit)))) (a0 : List (Int)) (b1 : List (Int)) (i5 : Int) : Option (((((Bool) × Unit) × Unit) ⊕ (Unit × Unit))) :=
 bif (decide (i5 < (((List.length a0) : Nat) : Int))) then
  Option.bind (getI a0 i5) fun (v5 : Int) =>
  Option.bind (getI b1 i5) fun (v6 : Int) =>
  bif (!(decide (v5 = v6))) then
   some ((.inl ((@Bool.false, @Unit.unit), @Unit.unit)))
  else
   (X ((a0, (b1, ((Go.IntKind.wrap .i64 (i5 + (1 : Int))), @Unit.unit))), @Unit.unit))
 else
  some ((.inr (@Unit.unit, @Unit.unit)))
noncomputable def ref01_Same_L4_R (N : Nat) (c : (((List (Int)) × ((List (Int)) × ((Int) × Unit))) × Unit)) : Option (((((Bool) × Unit) × Unit) ⊕ (Unit × Unit))) := gl (fun X c => ref01_Same_L4 N X c.1.1 c.1.2.1 c.1.2.2.1) N c
theorem ref01_Same_L4_S (N : Nat) (X : (((List (Int)) × ((List (Int)) × ((Int) × Unit))) × Unit) → Option (((((Bool) × Unit) × Unit) ⊕ (Unit × Unit)))) (a0 : List (Int)) (b1 : List (Int)) (i5 : Int) : (roundK Go.Proofs.Tryd.prog (Ev52 N) 400 [15] ref01_Same_L4_I (loopAt Go.Proofs.Tryd.prog [15] 4) X ((a0, b1, i5, ()), ())).run = ref01_Same_L4 N X a0 b1 i5 := by kernel_rfl
noncomputable def Ev53 (N : Nat) : (R : Type) → Env R := Env.addLp (Ev52 N) [15] 0 4 (fun R => lpK Go.Proofs.Tryd.prog ref01_Same_L4_I (fun X c => ref01_Same_L4 N X c.1.1 c.1.2.1 c.1.2.2.1) N)
theorem Ev53_ok (N : Nat) (R : Type) : EnvOK Go.Proofs.Tryd.prog (Ev53 N R) := EnvOK.addLp (Ev52_ok N R) (by kernel_rfl) (lpK_ok (li := ref01_Same_L4_I) (G := fun X c => ref01_Same_L4 N X c.1.1 c.1.2.1 c.1.2.2.1) hmx (Ev52_ok N _) (by kernel_rfl) loopAt_sub (fun (X : CT ref01_Same_L4_I.sh → Option (OT ref01_Same_L4_I.outs)) (c : CT ref01_Same_L4_I.sh) => ref01_Same_L4_S N X c.1.1 c.1.2.1 c.1.2.2.1) N)
noncomputable def ref01_Same (N : Nat) (a0 : List (Int)) (b1 : List (Int)) : Option (Bool) :=
 bif (!(decide ((((List.length a0) : Nat) : Int) = (((List.length b1) : Nat) : Int)))) then
  some (@Bool.false)
 else
  Option.bind (ref01_Same_L4_R N ((a0, (b1, ((0 : Int), @Unit.unit))), @Unit.unit)) fun (v3 : (((Bool × Unit) × Unit) ⊕ (Unit × Unit))) =>
  Sum.elim
   (fun (v4 : ((Bool × Unit) × Unit)) =>
   some (v4.1.1))
   (fun (v4 : (Unit × Unit)) =>
   some (@Bool.true)) v3
theorem ref01_Same_S (N : Nat) (a0 : List (Int)) (b1 : List (Int)) : (runK Go.Proofs.Tryd.prog (Ev53 N) 400 15 [(.sl (.int .u8)), (.sl (.int .u8))] [.bool] (a0, b1, ())).run = ref01_Same N a0 b1 := by kernel_rfl
theorem ref01_Same_C (N : Nat) (a0 : List (Int)) (b1 : List (Int)) (y : Bool) (h : ref01_Same N a0 b1 = some y) : CallsK Go.Proofs.Tryd.prog 15 (valA [(.sl (.int .u8)), (.sl (.int .u8))] (a0, b1, ())) (tupV (valR [.bool] y)) := runK_ok hmx (Ev53_ok N _) (okFn_ok (by kernel_rfl)) (by rw [ref01_Same_S]; exact h)
noncomputable def Ev54 (N : Nat) : (R : Type) → Env R := Env.addFn (Ev53 N) 15 (fun R => fnK [(.sl (.int .u8)), (.sl (.int .u8))] [.bool] (fun c => ref01_Same N c.1 c.2.1))
theorem Ev54_ok (N : Nat) (R : Type) : EnvOK Go.Proofs.Tryd.prog (Ev54 N R) := EnvOK.addFn hmx (Ev53_ok N R) (Ev53_ok N _) (by kernel_rfl) (fun c => ref01_Same_S N c.1 c.2.1)
noncomputable def unicode_utf8_word_string (N : Nat) (s0 : List UInt8) : Option (Int) :=
 Option.bind (getI s0 (0 : Int)) fun (v2 : UInt8) =>
 Option.bind (getI s0 (1 : Int)) fun (v3 : UInt8) =>
 Option.bind (getI s0 (2 : Int)) fun (v4 : UInt8) =>
 Option.bind (getI s0 (3 : Int)) fun (v5 : UInt8) =>
 Option.bind (getI s0 (4 : Int)) fun (v6 : UInt8) =>
 Option.bind (getI s0 (5 : Int)) fun (v7 : UInt8) =>
 Option.bind (getI s0 (6 : Int)) fun (v8 : UInt8) =>
 Option.bind (getI s0 (7 : Int)) fun (v9 : UInt8) =>
 some ((@Go.bits @Go.BinOp.or @Go.IntKind.u64 (@Go.bits @Go.BinOp.or @Go.IntKind.u64 (@Go.bits @Go.BinOp.or @Go.IntKind.u64 (@Go.bits @Go.BinOp.or @Go.IntKind.u64 (@Go.bits @Go.BinOp.or @Go.IntKind.u64 (@Go.bits @Go.BinOp.or @Go.IntKind.u64 (@Go.bits @Go.BinOp.or @Go.IntKind.u64 (Go.IntKind.wrap .u64 (((@UInt8.toNat v2) : Nat) : Int)) (Go.IntKind.wrap .u64 ((Go.IntKind.wrap .u64 (((@UInt8.toNat v3) : Nat) : Int)) * (@HPow.hPow Int Nat Int (@instHPow Int Nat (@instPowNat Int @Int.instNatPow)) (2 : Int) (@Min.min Nat @instMinNat (Int.toNat (8 : Int)) (@Go.IntKind.bits @Go.IntKind.u64)))))) (Go.IntKind.wrap .u64 ((Go.IntKind.wrap .u64 (((@UInt8.toNat v4) : Nat) : Int)) * (@HPow.hPow Int Nat Int (@instHPow Int Nat (@instPowNat Int @Int.instNatPow)) (2 : Int) (@Min.min Nat @instMinNat (Int.toNat (16 : Int)) (@Go.IntKind.bits @Go.IntKind.u64)))))) (Go.IntKind.wrap .u64 ((Go.IntKind.wrap .u64 (((@UInt8.toNat v5) : Nat) : Int)) * (@HPow.hPow Int Nat Int (@instHPow Int Nat (@instPowNat Int @Int.instNatPow)) (2 : Int) (@Min.min Nat @instMinNat (Int.toNat (24 : Int)) (@Go.IntKind.bits @Go.IntKind.u64)))))) (Go.IntKind.wrap .u64 ((Go.IntKind.wrap .u64 (((@UInt8.toNat v6) : Nat) : Int)) * (@HPow.hPow Int Nat Int (@instHPow Int Nat (@instPowNat Int @Int.instNatPow)) (2 : Int) (@Min.min Nat @instMinNat (Int.toNat (32 : Int)) (@Go.IntKind.bits @Go.IntKind.u64)))))) (Go.IntKind.wrap .u64 ((Go.IntKind.wrap .u64 (((@UInt8.toNat v7) : Nat) : Int)) * (@HPow.hPow Int Nat Int (@instHPow Int Nat (@instPowNat Int @Int.instNatPow)) (2 : Int) (@Min.min Nat @instMinNat (Int.toNat (40 : Int)) (@Go.IntKind.bits @Go.IntKind.u64)))))) (Go.IntKind.wrap .u64 ((Go.IntKind.wrap .u64 (((@UInt8.toNat v8) : Nat) : Int)) * (@HPow.hPow Int Nat Int (@instHPow Int Nat (@instPowNat Int @Int.instNatPow)) (2 : Int) (@Min.min Nat @instMinNat (Int.toNat (48 : Int)) (@Go.IntKind.bits @Go.IntKind.u64)))))) (Go.IntKind.wrap .u64 ((Go.IntKind.wrap .u64 (((@UInt8.toNat v9) : Nat) : Int)) * (@HPow.hPow Int Nat Int (@instHPow Int Nat (@instPowNat Int @Int.instNatPow)) (2 : Int) (@Min.min Nat @instMinNat (Int.toNat (56 : Int)) (@Go.IntKind.bits @Go.IntKind.u64)))))))
theorem unicode_utf8_word_string_S (N : Nat) (s0 : List UInt8) : (runK Go.Proofs.Tryd.prog (Ev54 N) 400 75 [.str] [(.int .u64)] (s0, ())).run = unicode_utf8_word_string N s0 := by kernel_rfl
theorem unicode_utf8_word_string_C (N : Nat) (s0 : List UInt8) (y : Int) (h : unicode_utf8_word_string N s0 = some y) : CallsK Go.Proofs.Tryd.prog 75 (valA [.str] (s0, ())) (tupV (valR [(.int .u64)] y)) := runK_ok hmx (Ev54_ok N _) (okFn_ok (by kernel_rfl)) (by rw [unicode_utf8_word_string_S]; exact h)
noncomputable def Ev55 (N : Nat) : (R : Type) → Env R := Env.addFn (Ev54 N) 75 (fun R => fnK [.str] [(.int .u64)] (fun c => unicode_utf8_word_string N c.1))
theorem Ev55_ok (N : Nat) (R : Type) : EnvOK Go.Proofs.Tryd.prog (Ev55 N R) := EnvOK.addFn hmx (Ev54_ok N R) (Ev54_ok N _) (by kernel_rfl) (fun c => unicode_utf8_word_string_S N c.1)
noncomputable def unicode_utf8_ValidString_L9_I : LI := ⟨169, 0, [], ⟨[(0, .ty .str)], []⟩, [(.exit 2, ⟨[(0, .ty .str)], []⟩)]⟩
noncomputable def unicode_utf8_ValidString_L9 (N : Nat) (X : (((List UInt8) × Unit) × Unit) → Option ((((List UInt8) × Unit) × Unit))) (s0 : List UInt8) : Option ((((List UInt8) × Unit) × Unit)) :=
 bif (decide ((32 : Int) < (((List.length s0) : Nat) : Int))) then
  Option.bind (@unicode_utf8_word_string N s0) fun (v3 : Int) =>
  Option.bind (dropI s0 (8 : Int)) fun (v4 : (List UInt8)) =>
  Option.bind (@unicode_utf8_word_string N v4) fun (v5 : Int) =>
  Option.bind (dropI s0 (16 : Int)) fun (v6 : (List UInt8)) =>
  Option.bind (@unicode_utf8_word_string N v6) fun (v7 : Int) =>
  Option.bind (dropI s0 (24 : Int)) fun (v8 : (List UInt8)) =>
  Option.bind (@unicode_utf8_word_string N v8) fun (v9 : Int) =>
  bif (@cond Bool @Bool.true (decide ((@Go.bits @Go.BinOp.and @Go.IntKind.u64 (@Go.bits @Go.BinOp.or @Go.IntKind.u64 (@Go.bits @Go.BinOp.or @Go.IntKind.u64 v3 v5) (@Go.bits @Go.BinOp.or @Go.IntKind.u64 v7 v9)) (9259542123273814144 : Int)) = (0 : Int))) @Bool.false) then
   Option.bind (dropI s0 (32 : Int)) fun (v10 : (List UInt8)) =>
   (X ((v10, @Unit.unit), @Unit.unit))
  else
   some (((s0, @Unit.unit), @Unit.unit))
 else
  some (((s0, @Unit.unit), @Unit.unit))
noncomputable def unicode_utf8_ValidString_L9_R (N : Nat) (c : (((List UInt8) × Unit) × Unit)) : Option ((((List UInt8) × Unit) × Unit)) := gl (fun X c => unicode_utf8_ValidString_L9 N X c.1.1) N c
theorem unicode_utf8_ValidString_L9_S (N : Nat) (X : (((List UInt8) × Unit) × Unit) → Option ((((List UInt8) × Unit) × Unit))) (s0 : List UInt8) : (roundK Go.Proofs.Tryd.prog (Ev55 N) 400 [55] unicode_utf8_ValidString_L9_I (loopAt Go.Proofs.Tryd.prog [55] 9) X ((s0, ()), ())).run = unicode_utf8_ValidString_L9 N X s0 := by kernel_rfl
noncomputable def Ev56 (N : Nat) : (R : Type) → Env R := Env.addLp (Ev55 N) [55] 0 9 (fun R => lpK Go.Proofs.Tryd.prog unicode_utf8_ValidString_L9_I (fun X c => unicode_utf8_ValidString_L9 N X c.1.1) N)
theorem Ev56_ok (N : Nat) (R : Type) : EnvOK Go.Proofs.Tryd.prog (Ev56 N R) := EnvOK.addLp (Ev55_ok N R) (by kernel_rfl) (lpK_ok (li := unicode_utf8_ValidString_L9_I) (G := fun X c => unicode_utf8_ValidString_L9 N X c.1.1) hmx (Ev55_ok N _) (by kernel_rfl) loopAt_sub (fun (X : CT unicode_utf8_ValidString_L9_I.sh → Option (OT unicode_utf8_ValidString_L9_I.outs)) (c : CT unicode_utf8_ValidString_L9_I.sh) => unicode_utf8_ValidString_L9_S N X c.1.1) N)
noncomputable def unicode_utf8_ValidString_L1_I : LI := ⟨169, 0, [], ⟨[(0, .ty .str)], []⟩, [(.ret, ⟨[(2, .ty .bool)], []⟩), (.exit 0, ⟨[], []⟩)]⟩
noncomputable def unicode_utf8_ValidString_L1 (N : Nat) (X : (((List UInt8) × Unit) × Unit) → Option (((((Bool) × Unit) × Unit) ⊕ (Unit × Unit)))) (s0 : List UInt8) : Option (((((Bool) × Unit) × Unit) ⊕ (Unit × Unit))) :=
 bif (decide ((0 : Int) < (((List.length s0) : Nat) : Int))) then
  Option.bind (getI s0 (0 : Int)) fun (v3 : UInt8) =>
  bif (decide ((((@UInt8.toNat v3) : Nat) : Int) < (128 : Int))) then
   Option.bind (dropI s0 (1 : Int)) fun (v4 : (List UInt8)) =>
   bif (decide ((8 : Int) < (((List.length v4) : Nat) : Int))) then
    Option.bind (@unicode_utf8_word_string N v4) fun (v5 : Int) =>
    bif (@cond Bool @Bool.true (decide ((@Go.bits @Go.BinOp.and @Go.IntKind.u64 v5 (9259542123273814144 : Int)) = (0 : Int))) @Bool.false) then
     Option.bind (dropI v4 (8 : Int)) fun (v6 : (List UInt8)) =>
     bif (decide ((16 : Int) < (((List.length v6) : Nat) : Int))) then
      Option.bind (@unicode_utf8_word_string N v6) fun (v7 : Int) =>
      Option.bind (dropI v6 (8 : Int)) fun (v8 : (List UInt8)) =>
      Option.bind (@unicode_utf8_word_string N v8) fun (v9 : Int) =>
      bif (@cond Bool @Bool.true (decide ((@Go.bits @Go.BinOp.and @Go.IntKind.u64 (@Go.bits @Go.BinOp.or @Go.IntKind.u64 v7 v9) (9259542123273814144 : Int)) = (0 : Int))) @Bool.false) then
       Option.bind (dropI v6 (16 : Int)) fun (v10 : (List UInt8)) =>
       Option.bind (unicode_utf8_ValidString_L9_R N ((v10, @Unit.unit), @Unit.unit)) fun (v11 : (((List UInt8) × Unit) × Unit)) =>
       (X ((v11.1.1, @Unit.unit), @Unit.unit))
      else
       (X ((v6, @Unit.unit), @Unit.unit))
     else
      (X ((v6, @Unit.unit), @Unit.unit))
    else
     (X ((v4, @Unit.unit), @Unit.unit))
   else
    (X ((v4, @Unit.unit), @Unit.unit))
  else
   Option.bind (getI (@List.cons Int (@OfNat.ofNat Int (240 : Nat) (@instOfNat (240 : Nat))) (@List.cons Int (@OfNat.ofNat Int (240 : Nat) (@instOfNat (240 : Nat))) (@List.cons Int (@OfNat.ofNat Int (240 : Nat) (@instOfNat (240 : Nat))) (@List.cons Int (@OfNat.ofNat Int (240 : Nat) (@instOfNat (240 : Nat))) (@List.cons Int (@OfNat.ofNat Int (240 : Nat) (@instOfNat (240 : Nat))) (@List.cons Int (@OfNat.ofNat Int (240 : Nat) (@instOfNat (240 : Nat))) (@List.cons Int (@OfNat.ofNat Int (240 : Nat) (@instOfNat (240 : Nat))) (@List.cons Int (@OfNat.ofNat Int (240 : Nat) (@instOfNat (240 : Nat))) (@List.cons Int (@OfNat.ofNat Int (240 : Nat) (@instOfNat (240 : Nat))) (@List.cons Int (@OfNat.ofNat Int (240 : Nat) (@instOfNat (240 : Nat))) (@List.cons Int (@OfNat.ofNat Int (240 : Nat) (@instOfNat (240 : Nat))) (@List.cons Int (@OfNat.ofNat Int (240 : Nat) (@instOfNat (240 : Nat))) (@List.cons Int (@OfNat.ofNat Int (240 : Nat) (@instOfNat (240 : Nat))) (@List.cons Int (@OfNat.ofNat Int (240 : Nat) (@instOfNat (240 : Nat))) (@List.cons Int (@OfNat.ofNat Int (240 : Nat) (@instOfNat (240 : Nat))) (@List.cons Int (@OfNat.ofNat Int (240 : Nat) (@instOfNat (240 : Nat))) (@List.cons Int (@OfNat.ofNat Int (240 : Nat) (@instOfNat (240 : Nat))) (@List.cons Int (@OfNat.ofNat Int (240 : Nat) (@instOfNat (240 : Nat))) (@List.cons Int (@OfNat.ofNat Int (240 : Nat) (@instOfNat (240 : Nat))) (@List.cons Int (@OfNat.ofNat Int (240 : Nat) (@instOfNat (240 : Nat))) (@List.cons Int (@OfNat.ofNat Int (240 : Nat) (@instOfNat (240 : Nat))) (@List.cons Int (@OfNat.ofNat Int (240 : Nat) (@instOfNat (240 : Nat))) (@List.cons Int (@OfNat.ofNat Int (240 : Nat) (@instOfNat (240 : Nat))) (@List.cons Int (@OfNat.ofNat Int (240 : Nat) (@instOfNat (240 : Nat))) (@List.cons Int (@OfNat.ofNat Int (240 : Nat) (@instOfNat (240 : Nat))) (@List.cons Int (@OfNat.ofNat Int (240 : Nat) (@instOfNat (240 : Nat))) (@List.cons Int (@OfNat.ofNat Int (240 : Nat) (@instOfNat (240 : Nat))) (@List.cons Int (@OfNat.ofNat Int (240 : Nat) (@instOfNat (240 : Nat))) (@List.cons Int (@OfNat.ofNat Int (240 : Nat) (@instOfNat (240 : Nat))) (@List.cons Int (@OfNat.ofNat Int (240 : Nat) (@instOfNat (240 : Nat))) (@List.cons Int (@OfNat.ofNat Int (240 : Nat) (@instOfNat (240 : Nat))) (@List.cons Int (@OfNat.ofNat Int (240 : Nat) (@instOfNat (240 : Nat))) (@List.cons Int (@OfNat.ofNat Int (240 : Nat) (@instOfNat (240 : Nat))) (@List.cons Int (@OfNat.ofNat Int (240 : Nat) (@instOfNat (240 : Nat))) (@List.cons Int (@OfNat.ofNat Int (240 : Nat) (@instOfNat (240 : Nat))) (@List.cons Int (@OfNat.ofNat Int (240 : Nat) (@instOfNat (240 : Nat))) (@List.cons Int (@OfNat.ofNat Int (240 : Nat) (@instOfNat (240 : Nat))) (@List.cons Int (@OfNat.ofNat Int (240 : Nat) (@instOfNat (240 : Nat))) (@List.cons Int (@OfNat.ofNat Int (240 : Nat) (@instOfNat (240 : Nat))) (@List.cons Int (@OfNat.ofNat Int (240 : Nat) (@instOfNat (240 : Nat))) (@List.cons Int (@OfNat.ofNat Int (240 : Nat) (@instOfNat (240 : Nat))) (@List.cons Int (@OfNat.ofNat Int (240 : Nat) (@instOfNat (240 : Nat))) (@List.cons Int (@OfNat.ofNat Int (240 : Nat) (@instOfNat (240 : Nat))) (@List.cons Int (@OfNat.ofNat Int (240 : Nat) (@instOfNat (240 : Nat))) (@List.cons Int (@OfNat.ofNat Int (240 : Nat) (@instOfNat (240 : Nat))) (@List.cons Int (@OfNat.ofNat Int (240 : Nat) (@instOfNat (240 : Nat))) (@List.cons Int (@OfNat.ofNat Int (240 : Nat) (@instOfNat (240 : Nat))) (@List.cons Int (@OfNat.ofNat Int (240 : Nat) (@instOfNat (240 : Nat))) (@List.cons Int (@OfNat.ofNat Int (240 : Nat) (@instOfNat (240 : Nat))) (@List.cons Int (@OfNat.ofNat Int (240 : Nat) (@instOfNat (240 : Nat))) (@List.cons Int (@OfNat.ofNat Int (240 : Nat) (@instOfNat (240 : Nat))) (@List.cons Int (@OfNat.ofNat Int (240 : Nat) (@instOfNat (240 : Nat))) (@List.cons Int (@OfNat.ofNat Int (240 : Nat) (@instOfNat (240 : Nat))) (@List.cons Int (@OfNat.ofNat Int (240 : Nat) (@instOfNat (240 : Nat))) (@List.cons Int (@OfNat.ofNat Int (240 : Nat) (@instOfNat (240 : Nat))) (@List.cons Int (@OfNat.ofNat Int (240 : Nat) (@instOfNat (240 : Nat))) (@List.cons Int (@OfNat.ofNat Int (240 : Nat) (@instOfNat (240 : Nat))) (@List.cons Int (@OfNat.ofNat Int (240 : Nat) (@instOfNat (240 : Nat))) (@List.cons Int (@OfNat.ofNat Int (240 : Nat) (@instOfNat (240 : Nat))) (@List.cons Int (@OfNat.ofNat Int (240 : Nat) (@instOfNat (240 : Nat))) (@List.cons Int (@OfNat.ofNat Int (240 : Nat) (@instOfNat (240 : Nat))) (@List.cons Int (@OfNat.ofNat Int (240 : Nat) (@instOfNat (240 : Nat))) (@List.cons Int (@OfNat.ofNat Int (240 : Nat) (@instOfNat (240 : Nat))) (@List.cons Int (@OfNat.ofNat Int (240 : Nat) (@instOfNat (240 : Nat))) (@List.cons Int (@OfNat.ofNat Int (240 : Nat) (@instOfNat (240 : Nat))) (@List.cons Int (@OfNat.ofNat Int (240 : Nat) (@instOfNat (240 : Nat))) (@List.cons Int (@OfNat.ofNat Int (240 : Nat) (@instOfNat (240 : Nat))) (@List.cons Int (@OfNat.ofNat Int (240 : Nat) (@instOfNat (240 : Nat))) (@List.cons Int (@OfNat.ofNat Int (240 : Nat) (@instOfNat (240 : Nat))) (@List.cons Int (@OfNat.ofNat Int (240 : Nat) (@instOfNat (240 : Nat))) (@List.cons Int (@OfNat.ofNat Int (240 : Nat) (@instOfNat (240 : Nat))) (@List.cons Int (@OfNat.ofNat Int (240 : Nat) (@instOfNat (240 : Nat))) (@List.cons Int (@OfNat.ofNat Int (240 : Nat) (@instOfNat (240 : Nat))) (@List.cons Int (@OfNat.ofNat Int (240 : Nat) (@instOfNat (240 : Nat))) (@List.cons Int (@OfNat.ofNat Int (240 : Nat) (@instOfNat (240 : Nat))) (@List.cons Int (@OfNat.ofNat Int (240 : Nat) (@instOfNat (240 : Nat))) (@List.cons Int (@OfNat.ofNat Int (240 : Nat) (@instOfNat (240 : Nat))) (@List.cons Int (@OfNat.ofNat Int (240 : Nat) (@instOfNat (240 : Nat))) (@List.cons Int (@OfNat.ofNat Int (240 : Nat) (@instOfNat (240 : Nat))) (@List.cons Int (@OfNat.ofNat Int (240 : Nat) (@instOfNat (240 : Nat))) (@List.cons Int (@OfNat.ofNat Int (240 : Nat) (@instOfNat (240 : Nat))) (@List.cons Int (@OfNat.ofNat Int (240 : Nat) (@instOfNat (240 : Nat))) (@List.cons Int (@OfNat.ofNat Int (240 : Nat) (@instOfNat (240 : Nat))) (@List.cons Int (@OfNat.ofNat Int (240 : Nat) (@instOfNat (240 : Nat))) (@List.cons Int (@OfNat.ofNat Int (240 : Nat) (@instOfNat (240 : Nat))) (@List.cons Int (@OfNat.ofNat Int (240 : Nat) (@instOfNat (240 : Nat))) (@List.cons Int (@OfNat.ofNat Int (240 : Nat) (@instOfNat (240 : Nat))) (@List.cons Int (@OfNat.ofNat Int (240 : Nat) (@instOfNat (240 : Nat))) (@List.cons Int (@OfNat.ofNat Int (240 : Nat) (@instOfNat (240 : Nat))) (@List.cons Int (@OfNat.ofNat Int (240 : Nat) (@instOfNat (240 : Nat))) (@List.cons Int (@OfNat.ofNat Int (240 : Nat) (@instOfNat (240 : Nat))) (@List.cons Int (@OfNat.ofNat Int (240 : Nat) (@instOfNat (240 : Nat))) (@List.cons Int (@OfNat.ofNat Int (240 : Nat) (@instOfNat (240 : Nat))) (@List.cons Int (@OfNat.ofNat Int (240 : Nat) (@instOfNat (240 : Nat))) (@List.cons Int (@OfNat.ofNat Int (240 : Nat) (@instOfNat (240 : Nat))) (@List.cons Int (@OfNat.ofNat Int (240 : Nat) (@instOfNat (240 : Nat))) (@List.cons Int (@OfNat.ofNat Int (240 : Nat) (@instOfNat (240 : Nat))) (@List.cons Int (@OfNat.ofNat Int (240 : Nat) (@instOfNat (240 : Nat))) (@List.cons Int (@OfNat.ofNat Int (240 : Nat) (@instOfNat (240 : Nat))) (@List.cons Int (@OfNat.ofNat Int (240 : Nat) (@instOfNat (240 : Nat))) (@List.cons Int (@OfNat.ofNat Int (240 : Nat) (@instOfNat (240 : Nat))) (@List.cons Int (@OfNat.ofNat Int (240 : Nat) (@instOfNat (240 : Nat))) (@List.cons Int (@OfNat.ofNat Int (240 : Nat) (@instOfNat (240 : Nat))) (@List.cons Int (@OfNat.ofNat Int (240 : Nat) (@instOfNat (240 : Nat))) (@List.cons Int (@OfNat.ofNat Int (240 : Nat) (@instOfNat (240 : Nat))) (@List.cons Int (@OfNat.ofNat Int (240 : Nat) (@instOfNat (240 : Nat))) (@List.cons Int (@OfNat.ofNat Int (240 : Nat) (@instOfNat (240 : Nat))) (@List.cons Int (@OfNat.ofNat Int (240 : Nat) (@instOfNat (240 : Nat))) (@List.cons Int (@OfNat.ofNat Int (240 : Nat) (@instOfNat (240 : Nat))) (@List.cons Int (@OfNat.ofNat Int (240 : Nat) (@instOfNat (240 : Nat))) (@List.cons Int (@OfNat.ofNat Int (240 : Nat) (@instOfNat (240 : Nat))) (@List.cons Int (@OfNat.ofNat Int (240 : Nat) (@instOfNat (240 : Nat))) (@List.cons Int (@OfNat.ofNat Int (240 : Nat) (@instOfNat (240 : Nat))) (@List.cons Int (@OfNat.ofNat Int (240 : Nat) (@instOfNat (240 : Nat))) (@List.cons Int (@OfNat.ofNat Int (240 : Nat) (@instOfNat (240 : Nat))) (@List.cons Int (@OfNat.ofNat Int (240 : Nat) (@instOfNat (240 : Nat))) (@List.cons Int (@OfNat.ofNat Int (240 : Nat) (@instOfNat (240 : Nat))) (@List.cons Int (@OfNat.ofNat Int (240 : Nat) (@instOfNat (240 : Nat))) (@List.cons Int (@OfNat.ofNat Int (240 : Nat) (@instOfNat (240 : Nat))) (@List.cons Int (@OfNat.ofNat Int (240 : Nat) (@instOfNat (240 : Nat))) (@List.cons Int (@OfNat.ofNat Int (240 : Nat) (@instOfNat (240 : Nat))) (@List.cons Int (@OfNat.ofNat Int (240 : Nat) (@instOfNat (240 : Nat))) (@List.cons Int (@OfNat.ofNat Int (240 : Nat) (@instOfNat (240 : Nat))) (@List.cons Int (@OfNat.ofNat Int (240 : Nat) (@instOfNat (240 : Nat))) (@List.cons Int (@OfNat.ofNat Int (240 : Nat) (@instOfNat (240 : Nat))) (@List.cons Int (@OfNat.ofNat Int (240 : Nat) (@instOfNat (240 : Nat))) (@List.cons Int (@OfNat.ofNat Int (240 : Nat) (@instOfNat (240 : Nat))) (@List.cons Int (@OfNat.ofNat Int (240 : Nat) (@instOfNat (240 : Nat))) (@List.cons Int (@OfNat.ofNat Int (241 : Nat) (@instOfNat (241 : Nat))) (@List.cons Int (@OfNat.ofNat Int (241 : Nat) (@instOfNat (241 : Nat))) (@List.cons Int (@OfNat.ofNat Int (241 : Nat) (@instOfNat (241 : Nat))) (@List.cons Int (@OfNat.ofNat Int (241 : Nat) (@instOfNat (241 : Nat))) (@List.cons Int (@OfNat.ofNat Int (241 : Nat) (@instOfNat (241 : Nat))) (@List.cons Int (@OfNat.ofNat Int (241 : Nat) (@instOfNat (241 : Nat))) (@List.cons Int (@OfNat.ofNat Int (241 : Nat) (@instOfNat (241 : Nat))) (@List.cons Int (@OfNat.ofNat Int (241 : Nat) (@instOfNat (241 : Nat))) (@List.cons Int (@OfNat.ofNat Int (241 : Nat) (@instOfNat (241 : Nat))) (@List.cons Int (@OfNat.ofNat Int (241 : Nat) (@instOfNat (241 : Nat))) (@List.cons Int (@OfNat.ofNat Int (241 : Nat) (@instOfNat (241 : Nat))) (@List.cons Int (@OfNat.ofNat Int (241 : Nat) (@instOfNat (241 : Nat))) (@List.cons Int (@OfNat.ofNat Int (241 : Nat) (@instOfNat (241 : Nat))) (@List.cons Int (@OfNat.ofNat Int (241 : Nat) (@instOfNat (241 : Nat))) (@List.cons Int (@OfNat.ofNat Int (241 : Nat) (@instOfNat (241 : Nat))) (@List.cons Int (@OfNat.ofNat Int (241 : Nat) (@instOfNat (241 : Nat))) (@List.cons Int (@OfNat.ofNat Int (241 : Nat) (@instOfNat (241 : Nat))) (@List.cons Int (@OfNat.ofNat Int (241 : Nat) (@instOfNat (241 : Nat))) (@List.cons Int (@OfNat.ofNat Int (241 : Nat) (@instOfNat (241 : Nat))) (@List.cons Int (@OfNat.ofNat Int (241 : Nat) (@instOfNat (241 : Nat))) (@List.cons Int (@OfNat.ofNat Int (241 : Nat) (@instOfNat (241 : Nat))) (@List.cons Int (@OfNat.ofNat Int (241 : Nat) (@instOfNat (241 : Nat))) (@List.cons Int (@OfNat.ofNat Int (241 : Nat) (@instOfNat (241 : Nat))) (@List.cons Int (@OfNat.ofNat Int (241 : Nat) (@instOfNat (241 : Nat))) (@List.cons Int (@OfNat.ofNat Int (241 : Nat) (@instOfNat (241 : Nat))) (@List.cons Int (@OfNat.ofNat Int (241 : Nat) (@instOfNat (241 : Nat))) (@List.cons Int (@OfNat.ofNat Int (241 : Nat) (@instOfNat (241 : Nat))) (@List.cons Int (@OfNat.ofNat Int (241 : Nat) (@instOfNat (241 : Nat))) (@List.cons Int (@OfNat.ofNat Int (241 : Nat) (@instOfNat (241 : Nat))) (@List.cons Int (@OfNat.ofNat Int (241 : Nat) (@instOfNat (241 : Nat))) (@List.cons Int (@OfNat.ofNat Int (241 : Nat) (@instOfNat (241 : Nat))) (@List.cons Int (@OfNat.ofNat Int (241 : Nat) (@instOfNat (241 : Nat))) (@List.cons Int (@OfNat.ofNat Int (241 : Nat) (@instOfNat (241 : Nat))) (@List.cons Int (@OfNat.ofNat Int (241 : Nat) (@instOfNat (241 : Nat))) (@List.cons Int (@OfNat.ofNat Int (241 : Nat) (@instOfNat (241 : Nat))) (@List.cons Int (@OfNat.ofNat Int (241 : Nat) (@instOfNat (241 : Nat))) (@List.cons Int (@OfNat.ofNat Int (241 : Nat) (@instOfNat (241 : Nat))) (@List.cons Int (@OfNat.ofNat Int (241 : Nat) (@instOfNat (241 : Nat))) (@List.cons Int (@OfNat.ofNat Int (241 : Nat) (@instOfNat (241 : Nat))) (@List.cons Int (@OfNat.ofNat Int (241 : Nat) (@instOfNat (241 : Nat))) (@List.cons Int (@OfNat.ofNat Int (241 : Nat) (@instOfNat (241 : Nat))) (@List.cons Int (@OfNat.ofNat Int (241 : Nat) (@instOfNat (241 : Nat))) (@List.cons Int (@OfNat.ofNat Int (241 : Nat) (@instOfNat (241 : Nat))) (@List.cons Int (@OfNat.ofNat Int (241 : Nat) (@instOfNat (241 : Nat))) (@List.cons Int (@OfNat.ofNat Int (241 : Nat) (@instOfNat (241 : Nat))) (@List.cons Int (@OfNat.ofNat Int (241 : Nat) (@instOfNat (241 : Nat))) (@List.cons Int (@OfNat.ofNat Int (241 : Nat) (@instOfNat (241 : Nat))) (@List.cons Int (@OfNat.ofNat Int (241 : Nat) (@instOfNat (241 : Nat))) (@List.cons Int (@OfNat.ofNat Int (241 : Nat) (@instOfNat (241 : Nat))) (@List.cons Int (@OfNat.ofNat Int (241 : Nat) (@instOfNat (241 : Nat))) (@List.cons Int (@OfNat.ofNat Int (241 : Nat) (@instOfNat (241 : Nat))) (@List.cons Int (@OfNat.ofNat Int (241 : Nat) (@instOfNat (241 : Nat))) (@List.cons Int (@OfNat.ofNat Int (241 : Nat) (@instOfNat (241 : Nat))) (@List.cons Int (@OfNat.ofNat Int (241 : Nat) (@instOfNat (241 : Nat))) (@List.cons Int (@OfNat.ofNat Int (241 : Nat) (@instOfNat (241 : Nat))) (@List.cons Int (@OfNat.ofNat Int (241 : Nat) (@instOfNat (241 : Nat))) (@List.cons Int (@OfNat.ofNat Int (241 : Nat) (@instOfNat (241 : Nat))) (@List.cons Int (@OfNat.ofNat Int (241 : Nat) (@instOfNat (241 : Nat))) (@List.cons Int (@OfNat.ofNat Int (241 : Nat) (@instOfNat (241 : Nat))) (@List.cons Int (@OfNat.ofNat Int (241 : Nat) (@instOfNat (241 : Nat))) (@List.cons Int (@OfNat.ofNat Int (241 : Nat) (@instOfNat (241 : Nat))) (@List.cons Int (@OfNat.ofNat Int (241 : Nat) (@instOfNat (241 : Nat))) (@List.cons Int (@OfNat.ofNat Int (241 : Nat) (@instOfNat (241 : Nat))) (@List.cons Int (@OfNat.ofNat Int (241 : Nat) (@instOfNat (241 : Nat))) (@List.cons Int (@OfNat.ofNat Int (241 : Nat) (@instOfNat (241 : Nat))) (@List.cons Int (@OfNat.ofNat Int (241 : Nat) (@instOfNat (241 : Nat))) (@List.cons Int (@OfNat.ofNat Int (2 : Nat) (@instOfNat (2 : Nat))) (@List.cons Int (@OfNat.ofNat Int (2 : Nat) (@instOfNat (2 : Nat))) (@List.cons Int (@OfNat.ofNat Int (2 : Nat) (@instOfNat (2 : Nat))) (@List.cons Int (@OfNat.ofNat Int (2 : Nat) (@instOfNat (2 : Nat))) (@List.cons Int (@OfNat.ofNat Int (2 : Nat) (@instOfNat (2 : Nat))) (@List.cons Int (@OfNat.ofNat Int (2 : Nat) (@instOfNat (2 : Nat))) (@List.cons Int (@OfNat.ofNat Int (2 : Nat) (@instOfNat (2 : Nat))) (@List.cons Int (@OfNat.ofNat Int (2 : Nat) (@instOfNat (2 : Nat))) (@List.cons Int (@OfNat.ofNat Int (2 : Nat) (@instOfNat (2 : Nat))) (@List.cons Int (@OfNat.ofNat Int (2 : Nat) (@instOfNat (2 : Nat))) (@List.cons Int (@OfNat.ofNat Int (2 : Nat) (@instOfNat (2 : Nat))) (@List.cons Int (@OfNat.ofNat Int (2 : Nat) (@instOfNat (2 : Nat))) (@List.cons Int (@OfNat.ofNat Int (2 : Nat) (@instOfNat (2 : Nat))) (@List.cons Int (@OfNat.ofNat Int (2 : Nat) (@instOfNat (2 : Nat))) (@List.cons Int (@OfNat.ofNat Int (2 : Nat) (@instOfNat (2 : Nat))) (@List.cons Int (@OfNat.ofNat Int (2 : Nat) (@instOfNat (2 : Nat))) (@List.cons Int (@OfNat.ofNat Int (2 : Nat) (@instOfNat (2 : Nat))) (@List.cons Int (@OfNat.ofNat Int (2 : Nat) (@instOfNat (2 : Nat))) (@List.cons Int (@OfNat.ofNat Int (2 : Nat) (@instOfNat (2 : Nat))) (@List.cons Int (@OfNat.ofNat Int (2 : Nat) (@instOfNat (2 : Nat))) (@List.cons Int (@OfNat.ofNat Int (2 : Nat) (@instOfNat (2 : Nat))) (@List.cons Int (@OfNat.ofNat Int (2 : Nat) (@instOfNat (2 : Nat))) (@List.cons Int (@OfNat.ofNat Int (2 : Nat) (@instOfNat (2 : Nat))) (@List.cons Int (@OfNat.ofNat Int (2 : Nat) (@instOfNat (2 : Nat))) (@List.cons Int (@OfNat.ofNat Int (2 : Nat) (@instOfNat (2 : Nat))) (@List.cons Int (@OfNat.ofNat Int (2 : Nat) (@instOfNat (2 : Nat))) (@List.cons Int (@OfNat.ofNat Int (2 : Nat) (@instOfNat (2 : Nat))) (@List.cons Int (@OfNat.ofNat Int (2 : Nat) (@instOfNat (2 : Nat))) (@List.cons Int (@OfNat.ofNat Int (2 : Nat) (@instOfNat (2 : Nat))) (@List.cons Int (@OfNat.ofNat Int (2 : Nat) (@instOfNat (2 : Nat))) (@List.cons Int (@OfNat.ofNat Int (19 : Nat) (@instOfNat (19 : Nat))) (@List.cons Int (@OfNat.ofNat Int (3 : Nat) (@instOfNat (3 : Nat))) (@List.cons Int (@OfNat.ofNat Int (3 : Nat) (@instOfNat (3 : Nat))) (@List.cons Int (@OfNat.ofNat Int (3 : Nat) (@instOfNat (3 : Nat))) (@List.cons Int (@OfNat.ofNat Int (3 : Nat) (@instOfNat (3 : Nat))) (@List.cons Int (@OfNat.ofNat Int (3 : Nat) (@instOfNat (3 : Nat))) (@List.cons Int (@OfNat.ofNat Int (3 : Nat) (@instOfNat (3 : Nat))) (@List.cons Int (@OfNat.ofNat Int (3 : Nat) (@instOfNat (3 : Nat))) (@List.cons Int (@OfNat.ofNat Int (3 : Nat) (@instOfNat (3 : Nat))) (@List.cons Int (@OfNat.ofNat Int (3 : Nat) (@instOfNat (3 : Nat))) (@List.cons Int (@OfNat.ofNat Int (3 : Nat) (@instOfNat (3 : Nat))) (@List.cons Int (@OfNat.ofNat Int (3 : Nat) (@instOfNat (3 : Nat))) (@List.cons Int (@OfNat.ofNat Int (3 : Nat) (@instOfNat (3 : Nat))) (@List.cons Int (@OfNat.ofNat Int (35 : Nat) (@instOfNat (35 : Nat))) (@List.cons Int (@OfNat.ofNat Int (3 : Nat) (@instOfNat (3 : Nat))) (@List.cons Int (@OfNat.ofNat Int (3 : Nat) (@instOfNat (3 : Nat))) (@List.cons Int (@OfNat.ofNat Int (52 : Nat) (@instOfNat (52 : Nat))) (@List.cons Int (@OfNat.ofNat Int (4 : Nat) (@instOfNat (4 : Nat))) (@List.cons Int (@OfNat.ofNat Int (4 : Nat) (@instOfNat (4 : Nat))) (@List.cons Int (@OfNat.ofNat Int (4 : Nat) (@instOfNat (4 : Nat))) (@List.cons Int (@OfNat.ofNat Int (68 : Nat) (@instOfNat (68 : Nat))) (@List.cons Int (@OfNat.ofNat Int (241 : Nat) (@instOfNat (241 : Nat))) (@List.cons Int (@OfNat.ofNat Int (241 : Nat) (@instOfNat (241 : Nat))) (@List.cons Int (@OfNat.ofNat Int (241 : Nat) (@instOfNat (241 : Nat))) ([(@OfNat.ofNat Int (241 : Nat) (@instOfNat (241 : Nat))), (@OfNat.ofNat Int (241 : Nat) (@instOfNat (241 : Nat))), (@OfNat.ofNat Int (241 : Nat) (@instOfNat (241 : Nat))), (@OfNat.ofNat Int (241 : Nat) (@instOfNat (241 : Nat))), (@OfNat.ofNat Int (241 : Nat) (@instOfNat (241 : Nat))), (@OfNat.ofNat Int (241 : Nat) (@instOfNat (241 : Nat))), (@OfNat.ofNat Int (241 : Nat) (@instOfNat (241 : Nat))), (@OfNat.ofNat Int (241 : Nat) (@instOfNat (241 : Nat)))] : List (Int)))))))))))))))))))))))))))))))))))))))))))))))))))))))))))))))))))))))))))))))))))))))))))))))))))))))))))))))))))))))))))))))))))))))))))))))))))))))))))))))))))))))))))))))))))))))))))))))))))))))))))))))))))))))))))))))))))))))))))))))))))))))))) (((@UInt8.toNat v3) : Nat) : Int)) fun (v4 : Int) =>
   Option.bind (getI ([((@OfNat.ofNat Int (128 : Nat) (@instOfNat (128 : Nat))), (@OfNat.ofNat Int (191 : Nat) (@instOfNat (191 : Nat)))), ((@OfNat.ofNat Int (160 : Nat) (@instOfNat (160 : Nat))), (@OfNat.ofNat Int (191 : Nat) (@instOfNat (191 : Nat)))), ((@OfNat.ofNat Int (128 : Nat) (@instOfNat (128 : Nat))), (@OfNat.ofNat Int (159 : Nat) (@instOfNat (159 : Nat)))), ((@OfNat.ofNat Int (144 : Nat) (@instOfNat (144 : Nat))), (@OfNat.ofNat Int (191 : Nat) (@instOfNat (191 : Nat)))), ((@OfNat.ofNat Int (128 : Nat) (@instOfNat (128 : Nat))), (@OfNat.ofNat Int (143 : Nat) (@instOfNat (143 : Nat)))), ((@OfNat.ofNat Int (0 : Nat) (@instOfNat (0 : Nat))), (@OfNat.ofNat Int (0 : Nat) (@instOfNat (0 : Nat)))), ((@OfNat.ofNat Int (0 : Nat) (@instOfNat (0 : Nat))), (@OfNat.ofNat Int (0 : Nat) (@instOfNat (0 : Nat)))), ((@OfNat.ofNat Int (0 : Nat) (@instOfNat (0 : Nat))), (@OfNat.ofNat Int (0 : Nat) (@instOfNat (0 : Nat)))), ((@OfNat.ofNat Int (0 : Nat) (@instOfNat (0 : Nat))), (@OfNat.ofNat Int (0 : Nat) (@instOfNat (0 : Nat)))), ((@OfNat.ofNat Int (0 : Nat) (@instOfNat (0 : Nat))), (@OfNat.ofNat Int (0 : Nat) (@instOfNat (0 : Nat)))), ((@OfNat.ofNat Int (0 : Nat) (@instOfNat (0 : Nat))), (@OfNat.ofNat Int (0 : Nat) (@instOfNat (0 : Nat)))), ((@OfNat.ofNat Int (0 : Nat) (@instOfNat (0 : Nat))), (@OfNat.ofNat Int (0 : Nat) (@instOfNat (0 : Nat)))), ((@OfNat.ofNat Int (0 : Nat) (@instOfNat (0 : Nat))), (@OfNat.ofNat Int (0 : Nat) (@instOfNat (0 : Nat)))), ((@OfNat.ofNat Int (0 : Nat) (@instOfNat (0 : Nat))), (@OfNat.ofNat Int (0 : Nat) (@instOfNat (0 : Nat)))), ((@OfNat.ofNat Int (0 : Nat) (@instOfNat (0 : Nat))), (@OfNat.ofNat Int (0 : Nat) (@instOfNat (0 : Nat)))), ((@OfNat.ofNat Int (0 : Nat) (@instOfNat (0 : Nat))), (@OfNat.ofNat Int (0 : Nat) (@instOfNat (0 : Nat))))] : List ((Int × Int))) (@Int.fdiv v4 (@HPow.hPow Int Nat Int (@instHPow Int Nat (@instPowNat Int @Int.instNatPow)) (2 : Int) (@Min.min Nat @instMinNat (Int.toNat (4 : Int)) (@Go.IntKind.bits @Go.IntKind.u8))))) fun (v5 : (Int × Int)) =>
   bif (decide ((Go.IntKind.wrap .i64 (@Go.bits @Go.BinOp.and @Go.IntKind.u8 v4 (7 : Int))) = (2 : Int))) then
    bif (decide ((((List.length s0) : Nat) : Int) < (2 : Int))) then
     some ((.inl ((@Bool.false, @Unit.unit), @Unit.unit)))
    else
     Option.bind (getI s0 (1 : Int)) fun (v6 : UInt8) =>
     bif (@cond Bool @Bool.false @Bool.true (decide ((((@UInt8.toNat v6) : Nat) : Int) < v5.1))) then
      some ((.inl ((@Bool.false, @Unit.unit), @Unit.unit)))
     else
      Option.bind (getI s0 (1 : Int)) fun (v7 : UInt8) =>
      bif (@cond Bool @Bool.false @Bool.true (decide (v5.2 < (((@UInt8.toNat v7) : Nat) : Int)))) then
       some ((.inl ((@Bool.false, @Unit.unit), @Unit.unit)))
      else
       Option.bind (dropI s0 (2 : Int)) fun (v8 : (List UInt8)) =>
       (X ((v8, @Unit.unit), @Unit.unit))
   else
    bif (decide ((Go.IntKind.wrap .i64 (@Go.bits @Go.BinOp.and @Go.IntKind.u8 v4 (7 : Int))) = (3 : Int))) then
     bif (decide ((((List.length s0) : Nat) : Int) < (3 : Int))) then
      some ((.inl ((@Bool.false, @Unit.unit), @Unit.unit)))
     else
      Option.bind (getI s0 (1 : Int)) fun (v6 : UInt8) =>
      bif (@cond Bool @Bool.false @Bool.true (decide ((((@UInt8.toNat v6) : Nat) : Int) < v5.1))) then
       some ((.inl ((@Bool.false, @Unit.unit), @Unit.unit)))
      else
       Option.bind (getI s0 (1 : Int)) fun (v7 : UInt8) =>
       bif (@cond Bool @Bool.false @Bool.true (decide (v5.2 < (((@UInt8.toNat v7) : Nat) : Int)))) then
        some ((.inl ((@Bool.false, @Unit.unit), @Unit.unit)))
       else
        Option.bind (getI s0 (2 : Int)) fun (v8 : UInt8) =>
        bif (@cond Bool @Bool.false @Bool.true (decide ((((@UInt8.toNat v8) : Nat) : Int) < (128 : Int)))) then
         some ((.inl ((@Bool.false, @Unit.unit), @Unit.unit)))
        else
         Option.bind (getI s0 (2 : Int)) fun (v9 : UInt8) =>
         bif (@cond Bool @Bool.false @Bool.true (decide ((191 : Int) < (((@UInt8.toNat v9) : Nat) : Int)))) then
          some ((.inl ((@Bool.false, @Unit.unit), @Unit.unit)))
         else
          Option.bind (dropI s0 (3 : Int)) fun (v10 : (List UInt8)) =>
          (X ((v10, @Unit.unit), @Unit.unit))
    else
     bif (decide ((Go.IntKind.wrap .i64 (@Go.bits @Go.BinOp.and @Go.IntKind.u8 v4 (7 : Int))) = (4 : Int))) then
      bif (decide ((((List.length s0) : Nat) : Int) < (4 : Int))) then
       some ((.inl ((@Bool.false, @Unit.unit), @Unit.unit)))
      else
       Option.bind (getI s0 (1 : Int)) fun (v6 : UInt8) =>
       bif (@cond Bool @Bool.false @Bool.true (decide ((((@UInt8.toNat v6) : Nat) : Int) < v5.1))) then
        some ((.inl ((@Bool.false, @Unit.unit), @Unit.unit)))
       else
        Option.bind (getI s0 (1 : Int)) fun (v7 : UInt8) =>
        bif (@cond Bool @Bool.false @Bool.true (decide (v5.2 < (((@UInt8.toNat v7) : Nat) : Int)))) then
         some ((.inl ((@Bool.false, @Unit.unit), @Unit.unit)))
        else
         Option.bind (getI s0 (2 : Int)) fun (v8 : UInt8) =>
         bif (@cond Bool @Bool.false @Bool.true (decide ((((@UInt8.toNat v8) : Nat) : Int) < (128 : Int)))) then
          some ((.inl ((@Bool.false, @Unit.unit), @Unit.unit)))
         else
          Option.bind (getI s0 (2 : Int)) fun (v9 : UInt8) =>
          bif (@cond Bool @Bool.false @Bool.true (decide ((191 : Int) < (((@UInt8.toNat v9) : Nat) : Int)))) then
           some ((.inl ((@Bool.false, @Unit.unit), @Unit.unit)))
          else
           Option.bind (getI s0 (3 : Int)) fun (v10 : UInt8) =>
           bif (@cond Bool @Bool.false @Bool.true (decide ((((@UInt8.toNat v10) : Nat) : Int) < (128 : Int)))) then
            some ((.inl ((@Bool.false, @Unit.unit), @Unit.unit)))
           else
            Option.bind (getI s0 (3 : Int)) fun (v11 : UInt8) =>
            bif (@cond Bool @Bool.false @Bool.true (decide ((191 : Int) < (((@UInt8.toNat v11) : Nat) : Int)))) then
             some ((.inl ((@Bool.false, @Unit.unit), @Unit.unit)))
            else
             Option.bind (dropI s0 (4 : Int)) fun (v12 : (List UInt8)) =>
             (X ((v12, @Unit.unit), @Unit.unit))
     else
      some ((.inl ((@Bool.false, @Unit.unit), @Unit.unit)))
 else
  some ((.inr (@Unit.unit, @Unit.unit)))
noncomputable def unicode_utf8_ValidString_L1_R (N : Nat) (c : (((List UInt8) × Unit) × Unit)) : Option (((((Bool) × Unit) × Unit) ⊕ (Unit × Unit))) := gl (fun X c => unicode_utf8_ValidString_L1 N X c.1.1) N c
theorem unicode_utf8_ValidString_L1_S (N : Nat) (X : (((List UInt8) × Unit) × Unit) → Option (((((Bool) × Unit) × Unit) ⊕ (Unit × Unit)))) (s0 : List UInt8) : (roundK Go.Proofs.Tryd.prog (Ev56 N) 400 [55] unicode_utf8_ValidString_L1_I (loopAt Go.Proofs.Tryd.prog [55] 1) X ((s0, ()), ())).run = unicode_utf8_ValidString_L1 N X s0 := by kernel_rfl
noncomputable def Ev57 (N : Nat) : (R : Type) → Env R := Env.addLp (Ev56 N) [55] 0 1 (fun R => lpK Go.Proofs.Tryd.prog unicode_utf8_ValidString_L1_I (fun X c => unicode_utf8_ValidString_L1 N X c.1.1) N)
theorem Ev57_ok (N : Nat) (R : Type) : EnvOK Go.Proofs.Tryd.prog (Ev57 N R) := EnvOK.addLp (Ev56_ok N R) (by kernel_rfl) (lpK_ok (li := unicode_utf8_ValidString_L1_I) (G := fun X c => unicode_utf8_ValidString_L1 N X c.1.1) hmx (Ev56_ok N _) (by kernel_rfl) loopAt_sub (fun (X : CT unicode_utf8_ValidString_L1_I.sh → Option (OT unicode_utf8_ValidString_L1_I.outs)) (c : CT unicode_utf8_ValidString_L1_I.sh) => unicode_utf8_ValidString_L1_S N X c.1.1) N)
noncomputable def unicode_utf8_ValidString (N : Nat) (s0 : List UInt8) : Option (Bool) :=
 Option.bind (unicode_utf8_ValidString_L1_R N ((s0, @Unit.unit), @Unit.unit)) fun (v2 : (((Bool × Unit) × Unit) ⊕ (Unit × Unit))) =>
 Sum.elim
  (fun (v3 : ((Bool × Unit) × Unit)) =>
  some (v3.1.1))
  (fun (v3 : (Unit × Unit)) =>
  some (@Bool.true)) v2
theorem unicode_utf8_ValidString_S (N : Nat) (s0 : List UInt8) : (runK Go.Proofs.Tryd.prog (Ev57 N) 400 55 [.str] [.bool] (s0, ())).run = unicode_utf8_ValidString N s0 := by kernel_rfl
theorem unicode_utf8_ValidString_C (N : Nat) (s0 : List UInt8) (y : Bool) (h : unicode_utf8_ValidString N s0 = some y) : CallsK Go.Proofs.Tryd.prog 55 (valA [.str] (s0, ())) (tupV (valR [.bool] y)) := runK_ok hmx (Ev57_ok N _) (okFn_ok (by kernel_rfl)) (by rw [unicode_utf8_ValidString_S]; exact h)
noncomputable def Ev58 (N : Nat) : (R : Type) → Env R := Env.addFn (Ev57 N) 55 (fun R => fnK [.str] [.bool] (fun c => unicode_utf8_ValidString N c.1))
theorem Ev58_ok (N : Nat) (R : Type) : EnvOK Go.Proofs.Tryd.prog (Ev58 N R) := EnvOK.addFn hmx (Ev57_ok N R) (Ev57_ok N _) (by kernel_rfl) (fun c => unicode_utf8_ValidString_S N c.1)
noncomputable def unicode_utf8_RuneCountInString_L2_I : LI := ⟨10, 0, [], ⟨[(2, .ty (.int .i64)), (4, .lit (.box 0 0))], [.itr]⟩, [(.exit 0, ⟨[(2, .ty (.int .i64))], []⟩)]⟩
noncomputable def unicode_utf8_RuneCountInString_L2 (N : Nat) (X : (((Int) × Unit) × ((List UInt8) × ((Int) × Unit))) → Option ((((Int) × Unit) × Unit))) (n2 : Int) (h0 : List UInt8) (h1 : Int) : Option ((((Int) × Unit) × Unit)) :=
 bif (decide ((Int.toNat h1) < (List.length h0))) then
  (X (((Go.IntKind.wrap .i64 (n2 + (1 : Int))), @Unit.unit), (h0, (((((Int.toNat h1) : Nat) : Int) + (@rdec h0 h1).2), @Unit.unit))))
 else
  some (((n2, @Unit.unit), @Unit.unit))
noncomputable def unicode_utf8_RuneCountInString_L2_R (N : Nat) (c : (((Int) × Unit) × ((List UInt8) × ((Int) × Unit)))) : Option ((((Int) × Unit) × Unit)) := gl (fun X c => unicode_utf8_RuneCountInString_L2 N X c.1.1 c.2.1 c.2.2.1) N c
theorem unicode_utf8_RuneCountInString_L2_S (N : Nat) (X : (((Int) × Unit) × ((List UInt8) × ((Int) × Unit))) → Option ((((Int) × Unit) × Unit))) (n2 : Int) (h0 : List UInt8) (h1 : Int) : (roundK Go.Proofs.Tryd.prog (Ev58 N) 400 [76] unicode_utf8_RuneCountInString_L2_I (loopAt Go.Proofs.Tryd.prog [76] 2) X ((n2, ()), (h0, h1, ()))).run = unicode_utf8_RuneCountInString_L2 N X n2 h0 h1 := by kernel_rfl
noncomputable def Ev59 (N : Nat) : (R : Type) → Env R := Env.addLp (Ev58 N) [76] 0 2 (fun R => lpK Go.Proofs.Tryd.prog unicode_utf8_RuneCountInString_L2_I (fun X c => unicode_utf8_RuneCountInString_L2 N X c.1.1 c.2.1 c.2.2.1) N)
theorem Ev59_ok (N : Nat) (R : Type) : EnvOK Go.Proofs.Tryd.prog (Ev59 N R) := EnvOK.addLp (Ev58_ok N R) (by kernel_rfl) (lpK_ok (li := unicode_utf8_RuneCountInString_L2_I) (G := fun X c => unicode_utf8_RuneCountInString_L2 N X c.1.1 c.2.1 c.2.2.1) hmx (Ev58_ok N _) (by kernel_rfl) loopAt_sub (fun (X : CT unicode_utf8_RuneCountInString_L2_I.sh → Option (OT unicode_utf8_RuneCountInString_L2_I.outs)) (c : CT unicode_utf8_RuneCountInString_L2_I.sh) => unicode_utf8_RuneCountInString_L2_S N X c.1.1 c.2.1 c.2.2.1) N)
noncomputable def unicode_utf8_RuneCountInString (N : Nat) (s0 : List UInt8) : Option (Int) :=
 Option.bind (unicode_utf8_RuneCountInString_L2_R N (((0 : Int), @Unit.unit), (s0, ((0 : Int), @Unit.unit)))) fun (v2 : ((Int × Unit) × Unit)) =>
 some (v2.1.1)
theorem unicode_utf8_RuneCountInString_S (N : Nat) (s0 : List UInt8) : (runK Go.Proofs.Tryd.prog (Ev59 N) 400 76 [.str] [(.int .i64)] (s0, ())).run = unicode_utf8_RuneCountInString N s0 := by kernel_rfl
theorem unicode_utf8_RuneCountInString_C (N : Nat) (s0 : List UInt8) (y : Int) (h : unicode_utf8_RuneCountInString N s0 = some y) : CallsK Go.Proofs.Tryd.prog 76 (valA [.str] (s0, ())) (tupV (valR [(.int .i64)] y)) := runK_ok hmx (Ev59_ok N _) (okFn_ok (by kernel_rfl)) (by rw [unicode_utf8_RuneCountInString_S]; exact h)
noncomputable def Ev60 (N : Nat) : (R : Type) → Env R := Env.addFn (Ev59 N) 76 (fun R => fnK [.str] [(.int .i64)] (fun c => unicode_utf8_RuneCountInString N c.1))
theorem Ev60_ok (N : Nat) (R : Type) : EnvOK Go.Proofs.Tryd.prog (Ev60 N R) := EnvOK.addFn hmx (Ev59_ok N R) (Ev59_ok N _) (by kernel_rfl) (fun c => unicode_utf8_RuneCountInString_S N c.1)
noncomputable def utf16_Count (N : Nat) (s0 : List UInt8) : Option (Int) :=
 Option.bind (@unicode_utf8_ValidString N s0) fun (v2 : Bool) =>
 bif (!v2) then
  some ((0 : Int))
 else
  Option.bind (@unicode_utf8_RuneCountInString N s0) fun (v3 : Int) =>
  some (v3)
theorem utf16_Count_S (N : Nat) (s0 : List UInt8) : (runK Go.Proofs.Tryd.prog (Ev60 N) 400 56 [.str] [(.int .i64)] (s0, ())).run = utf16_Count N s0 := by kernel_rfl
theorem utf16_Count_C (N : Nat) (s0 : List UInt8) (y : Int) (h : utf16_Count N s0 = some y) : CallsK Go.Proofs.Tryd.prog 56 (valA [.str] (s0, ())) (tupV (valR [(.int .i64)] y)) := runK_ok hmx (Ev60_ok N _) (okFn_ok (by kernel_rfl)) (by rw [utf16_Count_S]; exact h)
noncomputable def Ev61 (N : Nat) : (R : Type) → Env R := Env.addFn (Ev60 N) 56 (fun R => fnK [.str] [(.int .i64)] (fun c => utf16_Count N c.1))
theorem Ev61_ok (N : Nat) (R : Type) : EnvOK Go.Proofs.Tryd.prog (Ev61 N R) := EnvOK.addFn hmx (Ev60_ok N R) (Ev60_ok N _) (by kernel_rfl) (fun c => utf16_Count_S N c.1)
noncomputable def utf16_May (N : Nat) (s0 : List UInt8) : Option (Int) :=
 Option.bind (@unicode_utf8_ValidString N s0) fun (v2 : Bool) =>
 bif (!v2) then
  some ((3 : Int))
 else
  Option.bind (@utf16_Count N s0) fun (v3 : Int) =>
  bif (decide ((64 : Int) < v3)) then
   some ((8 : Int))
  else
   some ((0 : Int))
theorem utf16_May_S (N : Nat) (s0 : List UInt8) : (runK Go.Proofs.Tryd.prog (Ev61 N) 400 35 [.str] [(.int .i64)] (s0, ())).run = utf16_May N s0 := by kernel_rfl
theorem utf16_May_C (N : Nat) (s0 : List UInt8) (y : Int) (h : utf16_May N s0 = some y) : CallsK Go.Proofs.Tryd.prog 35 (valA [.str] (s0, ())) (tupV (valR [(.int .i64)] y)) := runK_ok hmx (Ev61_ok N _) (okFn_ok (by kernel_rfl)) (by rw [utf16_May_S]; exact h)
noncomputable def Ev62 (N : Nat) : (R : Type) → Env R := Env.addFn (Ev61 N) 35 (fun R => fnK [.str] [(.int .i64)] (fun c => utf16_May N c.1))
theorem Ev62_ok (N : Nat) (R : Type) : EnvOK Go.Proofs.Tryd.prog (Ev62 N R) := EnvOK.addFn hmx (Ev61_ok N R) (Ev61_ok N _) (by kernel_rfl) (fun c => utf16_May_S N c.1)
noncomputable def Ev63 (N : Nat) : (R : Type) → Env R := Env.addMv (Ev62 N) [(36, 8), (36, 10)]
theorem Ev63_ok (N : Nat) (R : Type) : EnvOK Go.Proofs.Tryd.prog (Ev63 N R) := EnvOK.addMv (Ev62_ok N R) [(36, 8), (36, 10)]
noncomputable def utf16_Units_L5_I : LI := ⟨36, 0, [(3, 73)], ⟨[(3, .lit (.own 0)), (11, .lit (.box 1 0))], [.own (.int .u16) 73, .itr]⟩, [(.exit 0, ⟨[(3, .lit (.own 0))], [.own (.int .u16) 73]⟩)]⟩
noncomputable def utf16_Units_L5 (N : Nat) (X : (Unit × ((List (Int)) × ((List UInt8) × ((Int) × Unit)))) → Option ((Unit × ((List (Int)) × Unit)))) (h0 : List (Int)) (h1 : List UInt8) (h2 : Int) : Option ((Unit × ((List (Int)) × Unit))) :=
 bif (decide ((Int.toNat h2) < (List.length h1))) then
  bif (decide ((@rdec h1 h2).1 < (65536 : Int))) then
   bif (roomB ((List.length h0) + (List.length ([(Go.IntKind.wrap .u16 (@rdec h1 h2).1)] : List (Int)))) 2) then
    (X (@Unit.unit, ((h0 ++ ([(Go.IntKind.wrap .u16 (@rdec h1 h2).1)] : List (Int))), (h1, (((((Int.toNat h2) : Nat) : Int) + (@rdec h1 h2).2), @Unit.unit)))))
   else
    none
  else
   bif (roomB ((List.length h0) + (List.length ([(Go.IntKind.wrap .u16 (Go.IntKind.wrap .i32 ((55296 : Int) + (@Int.fdiv (Go.IntKind.wrap .i32 ((@rdec h1 h2).1 - (65536 : Int))) (@HPow.hPow Int Nat Int (@instHPow Int Nat (@instPowNat Int @Int.instNatPow)) (2 : Int) (@Min.min Nat @instMinNat (Int.toNat (10 : Int)) (@Go.IntKind.bits @Go.IntKind.i32))))))), (Go.IntKind.wrap .u16 (Go.IntKind.wrap .i32 ((56320 : Int) + (@Go.bits @Go.BinOp.and @Go.IntKind.i32 (Go.IntKind.wrap .i32 ((@rdec h1 h2).1 - (65536 : Int))) (1023 : Int)))))] : List (Int)))) 2) then
    (X (@Unit.unit, ((h0 ++ ([(Go.IntKind.wrap .u16 (Go.IntKind.wrap .i32 ((55296 : Int) + (@Int.fdiv (Go.IntKind.wrap .i32 ((@rdec h1 h2).1 - (65536 : Int))) (@HPow.hPow Int Nat Int (@instHPow Int Nat (@instPowNat Int @Int.instNatPow)) (2 : Int) (@Min.min Nat @instMinNat (Int.toNat (10 : Int)) (@Go.IntKind.bits @Go.IntKind.i32))))))), (Go.IntKind.wrap .u16 (Go.IntKind.wrap .i32 ((56320 : Int) + (@Go.bits @Go.BinOp.and @Go.IntKind.i32 (Go.IntKind.wrap .i32 ((@rdec h1 h2).1 - (65536 : Int))) (1023 : Int)))))] : List (Int))), (h1, (((((Int.toNat h2) : Nat) : Int) + (@rdec h1 h2).2), @Unit.unit)))))
   else
    none
 else
  some ((@Unit.unit, (h0, @Unit.unit)))
noncomputable def utf16_Units_L5_R (N : Nat) (c : (Unit × ((List (Int)) × ((List UInt8) × ((Int) × Unit))))) : Option ((Unit × ((List (Int)) × Unit))) := gl (fun X c => utf16_Units_L5 N X c.2.1 c.2.2.1 c.2.2.2.1) N c
theorem utf16_Units_L5_S (N : Nat) (X : (Unit × ((List (Int)) × ((List UInt8) × ((Int) × Unit)))) → Option ((Unit × ((List (Int)) × Unit)))) (h0 : List (Int)) (h1 : List UInt8) (h2 : Int) : (roundK Go.Proofs.Tryd.prog (Ev63 N) 400 [36] utf16_Units_L5_I (loopAt Go.Proofs.Tryd.prog [36] 5) X ((), (h0, h1, h2, ()))).run = utf16_Units_L5 N X h0 h1 h2 := by kernel_rfl
noncomputable def Ev64 (N : Nat) : (R : Type) → Env R := Env.addLp (Ev63 N) [36] 0 5 (fun R => lpK Go.Proofs.Tryd.prog utf16_Units_L5_I (fun X c => utf16_Units_L5 N X c.2.1 c.2.2.1 c.2.2.2.1) N)
theorem Ev64_ok (N : Nat) (R : Type) : EnvOK Go.Proofs.Tryd.prog (Ev64 N R) := EnvOK.addLp (Ev63_ok N R) (by kernel_rfl) (lpK_ok (li := utf16_Units_L5_I) (G := fun X c => utf16_Units_L5 N X c.2.1 c.2.2.1 c.2.2.2.1) hmx (Ev63_ok N _) (by kernel_rfl) loopAt_sub (fun (X : CT utf16_Units_L5_I.sh → Option (OT utf16_Units_L5_I.outs)) (c : CT utf16_Units_L5_I.sh) => utf16_Units_L5_S N X c.2.1 c.2.2.1 c.2.2.2.1) N)
noncomputable def utf16_Units (N : Nat) (s0 : List UInt8) : Option (List (Int)) :=
 Option.bind (@utf16_May N s0) fun (v2 : Int) =>
 bif (!(decide (v2 = (0 : Int)))) then
  some (([] : List (Int)))
 else
  Option.bind (utf16_Units_L5_R N (@Unit.unit, (([] : List (Int)), (s0, ((0 : Int), @Unit.unit))))) fun (v3 : (Unit × ((List Int) × Unit))) =>
  some (v3.2.1)
theorem utf16_Units_S (N : Nat) (s0 : List UInt8) : (runK Go.Proofs.Tryd.prog (Ev64 N) 400 36 [.str] [(.sl (.int .u16))] (s0, ())).run = utf16_Units N s0 := by kernel_rfl
theorem utf16_Units_C (N : Nat) (s0 : List UInt8) (y : List (Int)) (h : utf16_Units N s0 = some y) : CallsK Go.Proofs.Tryd.prog 36 (valA [.str] (s0, ())) (tupV (valR [(.sl (.int .u16))] y)) := runK_ok hmx (Ev64_ok N _) (okFn_ok (by kernel_rfl)) (by rw [utf16_Units_S]; exact h)
noncomputable def Ev65 (N : Nat) : (R : Type) → Env R := Env.addFn (Ev64 N) 36 (fun R => fnK [.str] [(.sl (.int .u16))] (fun c => utf16_Units N c.1))
theorem Ev65_ok (N : Nat) (R : Type) : EnvOK Go.Proofs.Tryd.prog (Ev65 N R) := EnvOK.addFn hmx (Ev64_ok N R) (Ev64_ok N _) (by kernel_rfl) (fun c => utf16_Units_S N c.1)
noncomputable def utf16_Lay_L6_I : LI := ⟨33, 0, [(5, 5)], ⟨[(5, .lit (.own 0)), (16, .ty (.sl (.int .u16))), (17, .ty (.int .i64)), (18, .ty (.int .i64))], [.own (.int .u8) 5]⟩, [(.exit 0, ⟨[(5, .lit (.own 0))], [.own (.int .u8) 5]⟩)]⟩
noncomputable def utf16_Lay_L6 (N : Nat) (X : (((List (Int)) × ((Int) × ((Int) × Unit))) × ((List (Int)) × Unit)) → Option ((Unit × ((List (Int)) × Unit)))) (x16 : List (Int)) (x17 : Int) (x18 : Int) (h0 : List (Int)) : Option ((Unit × ((List (Int)) × Unit))) :=
 bif (decide (x18 < x17)) then
  Option.bind (getI x16 x18) fun (v6 : Int) =>
  Option.bind (@octs_Put N (Go.IntKind.wrap .u64 v6) (2 : Int) @Bool.true) fun (v7 : ((List Int) × Int)) =>
  bif (roomB ((List.length h0) + (List.length v7.1)) 1) then
   (X ((x16, (x17, ((Go.IntKind.wrap .i64 (x18 + (1 : Int))), @Unit.unit))), ((h0 ++ v7.1), @Unit.unit)))
  else
   none
 else
  some ((@Unit.unit, (h0, @Unit.unit)))
noncomputable def utf16_Lay_L6_R (N : Nat) (c : (((List (Int)) × ((Int) × ((Int) × Unit))) × ((List (Int)) × Unit))) : Option ((Unit × ((List (Int)) × Unit))) := gl (fun X c => utf16_Lay_L6 N X c.1.1 c.1.2.1 c.1.2.2.1 c.2.1) N c
theorem utf16_Lay_L6_S (N : Nat) (X : (((List (Int)) × ((Int) × ((Int) × Unit))) × ((List (Int)) × Unit)) → Option ((Unit × ((List (Int)) × Unit)))) (x16 : List (Int)) (x17 : Int) (x18 : Int) (h0 : List (Int)) : (roundK Go.Proofs.Tryd.prog (Ev65 N) 400 [27] utf16_Lay_L6_I (loopAt Go.Proofs.Tryd.prog [27] 6) X ((x16, x17, x18, ()), (h0, ()))).run = utf16_Lay_L6 N X x16 x17 x18 h0 := by kernel_rfl
noncomputable def Ev66 (N : Nat) : (R : Type) → Env R := Env.addLp (Ev65 N) [27] 0 6 (fun R => lpK Go.Proofs.Tryd.prog utf16_Lay_L6_I (fun X c => utf16_Lay_L6 N X c.1.1 c.1.2.1 c.1.2.2.1 c.2.1) N)
theorem Ev66_ok (N : Nat) (R : Type) : EnvOK Go.Proofs.Tryd.prog (Ev66 N R) := EnvOK.addLp (Ev65_ok N R) (by kernel_rfl) (lpK_ok (li := utf16_Lay_L6_I) (G := fun X c => utf16_Lay_L6 N X c.1.1 c.1.2.1 c.1.2.2.1 c.2.1) hmx (Ev65_ok N _) (by kernel_rfl) loopAt_sub (fun (X : CT utf16_Lay_L6_I.sh → Option (OT utf16_Lay_L6_I.outs)) (c : CT utf16_Lay_L6_I.sh) => utf16_Lay_L6_S N X c.1.1 c.1.2.1 c.1.2.2.1 c.2.1) N)
noncomputable def utf16_Lay (N : Nat) (s0 : List UInt8) : Option ((List (Int)) × Int) :=
 Option.bind (@utf16_May N s0) fun (v2 : Int) =>
 bif (!(decide (v2 = (0 : Int)))) then
  some ((([] : List (Int)), v2))
 else
  Option.bind (@utf16_Units N s0) fun (v3 : (List Int)) =>
  Option.bind (utf16_Lay_L6_R N ((v3, ((((List.length v3) : Nat) : Int), ((0 : Int), @Unit.unit))), (([] : List (Int)), @Unit.unit))) fun (v4 : (Unit × ((List Int) × Unit))) =>
  some ((v4.2.1, (0 : Int)))
theorem utf16_Lay_S (N : Nat) (s0 : List UInt8) : (runK Go.Proofs.Tryd.prog (Ev66 N) 400 27 [.str] [(.sl (.int .u8)), (.int .i64)] (s0, ())).run = utf16_Lay N s0 := by kernel_rfl
theorem utf16_Lay_C (N : Nat) (s0 : List UInt8) (y : (List (Int)) × Int) (h : utf16_Lay N s0 = some y) : CallsK Go.Proofs.Tryd.prog 27 (valA [.str] (s0, ())) (tupV (valR [(.sl (.int .u8)), (.int .i64)] y)) := runK_ok hmx (Ev66_ok N _) (okFn_ok (by kernel_rfl)) (by rw [utf16_Lay_S]; exact h)
noncomputable def Ev67 (N : Nat) : (R : Type) → Env R := Env.addFn (Ev66 N) 27 (fun R => fnK [.str] [(.sl (.int .u8)), (.int .i64)] (fun c => utf16_Lay N c.1))
theorem Ev67_ok (N : Nat) (R : Type) : EnvOK Go.Proofs.Tryd.prog (Ev67 N R) := EnvOK.addFn hmx (Ev66_ok N R) (Ev66_ok N _) (by kernel_rfl) (fun c => utf16_Lay_S N c.1)
noncomputable def Ev68 (N : Nat) : (R : Type) → Env R := Env.addMv (Ev67 N) [(63, 7)]
theorem Ev68_ok (N : Nat) (R : Type) : EnvOK Go.Proofs.Tryd.prog (Ev68 N R) := EnvOK.addMv (Ev67_ok N R) [(63, 7)]
noncomputable def ref09_more (N : Nat) (s0 : List UInt8) (i1 : Int) : Option ((Int) × Bool) :=
 bif (decide ((((List.length s0) : Nat) : Int) ≤ i1)) then
  some (((0 : Int), @Bool.false))
 else
  Option.bind (getI s0 i1) fun (v3 : UInt8) =>
  bif (@cond Bool @Bool.false @Bool.true (decide ((((@UInt8.toNat v3) : Nat) : Int) < (128 : Int)))) then
   some (((0 : Int), @Bool.false))
  else
   Option.bind (getI s0 i1) fun (v4 : UInt8) =>
   bif (@cond Bool @Bool.false @Bool.true (decide ((191 : Int) < (((@UInt8.toNat v4) : Nat) : Int)))) then
    some (((0 : Int), @Bool.false))
   else
    Option.bind (getI s0 i1) fun (v5 : UInt8) =>
    some (((Go.IntKind.wrap .i64 ((Go.IntKind.wrap .i64 (((@UInt8.toNat v5) : Nat) : Int)) - (128 : Int))), @Bool.true))
theorem ref09_more_S (N : Nat) (s0 : List UInt8) (i1 : Int) : (runK Go.Proofs.Tryd.prog (Ev68 N) 400 87 [.str, (.int .i64)] [(.int .i64), .bool] (s0, i1, ())).run = ref09_more N s0 i1 := by kernel_rfl
noncomputable def Ev69 (N : Nat) : (R : Type) → Env R := Env.addFn (Ev68 N) 87 (fun R => fnK [.str, (.int .i64)] [(.int .i64), .bool] (fun c => ref09_more N c.1 c.2.1))
theorem Ev69_ok (N : Nat) (R : Type) : EnvOK Go.Proofs.Tryd.prog (Ev69 N R) := EnvOK.addFn hmx (Ev68_ok N R) (Ev68_ok N _) (by kernel_rfl) (fun c => ref09_more_S N c.1 c.2.1)
noncomputable def ref09_sign_L13_I : LI := ⟨85, 0, [], ⟨[(0, .ty .str), (1, .ty (.int .i64)), (7, .ty (.int .i64)), (8, .ty (.int .i64)), (9, .ty (.int .i64)), (10, .ty (.int .i64))], []⟩, [(.ret, ⟨[(4, .ty (.int .i64)), (5, .ty (.int .i64))], []⟩), (.exit 1, ⟨[(7, .ty (.int .i64)), (8, .ty (.int .i64)), (9, .ty (.int .i64))], []⟩)]⟩
noncomputable def ref09_sign_L13 (N : Nat) (X : (((List UInt8) × ((Int) × ((Int) × ((Int) × ((Int) × ((Int) × Unit)))))) × Unit) → Option (((((Int) × ((Int) × Unit)) × Unit) ⊕ (((Int) × ((Int) × ((Int) × Unit))) × Unit)))) (s0 : List UInt8) (i1 : Int) (need7 : Int) (n8 : Int) (least9 : Int) (k10 : Int) : Option (((((Int) × ((Int) × Unit)) × Unit) ⊕ (((Int) × ((Int) × ((Int) × Unit))) × Unit))) :=
 bif (decide (k10 ≤ need7)) then
  Option.bind (@ref09_more N s0 (Go.IntKind.wrap .i64 (i1 + k10))) fun (v8 : (Int × Bool)) =>
  bif (!v8.2) then
   some ((.inl (((0 : Int), ((0 : Int), @Unit.unit)), @Unit.unit)))
  else
   (X ((s0, (i1, (need7, ((Go.IntKind.wrap .i64 ((Go.IntKind.wrap .i64 ((64 : Int) * n8)) + v8.1)), (least9, ((Go.IntKind.wrap .i64 (k10 + (1 : Int))), @Unit.unit)))))), @Unit.unit))
 else
  some ((.inr ((need7, (n8, (least9, @Unit.unit))), @Unit.unit)))
noncomputable def ref09_sign_L13_R (N : Nat) (c : (((List UInt8) × ((Int) × ((Int) × ((Int) × ((Int) × ((Int) × Unit)))))) × Unit)) : Option (((((Int) × ((Int) × Unit)) × Unit) ⊕ (((Int) × ((Int) × ((Int) × Unit))) × Unit))) := gl (fun X c => ref09_sign_L13 N X c.1.1 c.1.2.1 c.1.2.2.1 c.1.2.2.2.1 c.1.2.2.2.2.1 c.1.2.2.2.2.2.1) N c
theorem ref09_sign_L13_S (N : Nat) (X : (((List UInt8) × ((Int) × ((Int) × ((Int) × ((Int) × ((Int) × Unit)))))) × Unit) → Option (((((Int) × ((Int) × Unit)) × Unit) ⊕ (((Int) × ((Int) × ((Int) × Unit))) × Unit)))) (s0 : List UInt8) (i1 : Int) (need7 : Int) (n8 : Int) (least9 : Int) (k10 : Int) : (roundK Go.Proofs.Tryd.prog (Ev69 N) 400 [79] ref09_sign_L13_I (loopAt Go.Proofs.Tryd.prog [79] 13) X ((s0, i1, need7, n8, least9, k10, ()), ())).run = ref09_sign_L13 N X s0 i1 need7 n8 least9 k10 := by kernel_rfl
noncomputable def Ev70 (N : Nat) : (R : Type) → Env R := Env.addLp (Ev69 N) [79] 0 13 (fun R => lpK Go.Proofs.Tryd.prog ref09_sign_L13_I (fun X c => ref09_sign_L13 N X c.1.1 c.1.2.1 c.1.2.2.1 c.1.2.2.2.1 c.1.2.2.2.2.1 c.1.2.2.2.2.2.1) N)
theorem Ev70_ok (N : Nat) (R : Type) : EnvOK Go.Proofs.Tryd.prog (Ev70 N R) := EnvOK.addLp (Ev69_ok N R) (by kernel_rfl) (lpK_ok (li := ref09_sign_L13_I) (G := fun X c => ref09_sign_L13 N X c.1.1 c.1.2.1 c.1.2.2.1 c.1.2.2.2.1 c.1.2.2.2.2.1 c.1.2.2.2.2.2.1) hmx (Ev69_ok N _) (by kernel_rfl) loopAt_sub (fun (X : CT ref09_sign_L13_I.sh → Option (OT ref09_sign_L13_I.outs)) (c : CT ref09_sign_L13_I.sh) => ref09_sign_L13_S N X c.1.1 c.1.2.1 c.1.2.2.1 c.1.2.2.2.1 c.1.2.2.2.2.1 c.1.2.2.2.2.2.1) N)
noncomputable def ref09_sign (N : Nat) (s0 : List UInt8) (i1 : Int) : Option ((Int) × Int) :=
 Option.bind (getI s0 i1) fun (v3 : UInt8) =>
 bif (decide ((Go.IntKind.wrap .i64 (((@UInt8.toNat v3) : Nat) : Int)) < (128 : Int))) then
  some (((Go.IntKind.wrap .i64 (((@UInt8.toNat v3) : Nat) : Int)), (1 : Int)))
 else
  bif (decide ((192 : Int) ≤ (Go.IntKind.wrap .i64 (((@UInt8.toNat v3) : Nat) : Int)))) then
   bif (@cond Bool @Bool.true (decide ((Go.IntKind.wrap .i64 (((@UInt8.toNat v3) : Nat) : Int)) < (224 : Int))) @Bool.false) then
    Option.bind (ref09_sign_L13_R N ((s0, (i1, ((1 : Int), ((Go.IntKind.wrap .i64 ((Go.IntKind.wrap .i64 (((@UInt8.toNat v3) : Nat) : Int)) - (192 : Int))), ((128 : Int), ((1 : Int), @Unit.unit)))))), @Unit.unit)) fun (v4 : (((Int × (Int × Unit)) × Unit) ⊕ ((Int × (Int × (Int × Unit))) × Unit))) =>
    Sum.elim
     (fun (v5 : ((Int × (Int × Unit)) × Unit)) =>
     some ((v5.1.1, v5.1.2.1)))
     (fun (v5 : ((Int × (Int × (Int × Unit))) × Unit)) =>
     bif (decide (v5.1.2.1 < v5.1.2.2.1)) then
      some (((0 : Int), (0 : Int)))
     else
      bif (@cond Bool @Bool.false @Bool.true (decide ((1114111 : Int) < v5.1.2.1))) then
       some (((0 : Int), (0 : Int)))
      else
       bif (decide ((55296 : Int) ≤ v5.1.2.1)) then
        bif (@cond Bool @Bool.false @Bool.true (@cond Bool @Bool.true (decide (v5.1.2.1 ≤ (57343 : Int))) @Bool.false)) then
         some (((0 : Int), (0 : Int)))
        else
         some ((v5.1.2.1, (Go.IntKind.wrap .i64 (v5.1.1 + (1 : Int)))))
       else
        some ((v5.1.2.1, (Go.IntKind.wrap .i64 (v5.1.1 + (1 : Int)))))) v4
   else
    bif (decide ((224 : Int) ≤ (Go.IntKind.wrap .i64 (((@UInt8.toNat v3) : Nat) : Int)))) then
     bif (@cond Bool @Bool.true (decide ((Go.IntKind.wrap .i64 (((@UInt8.toNat v3) : Nat) : Int)) < (240 : Int))) @Bool.false) then
      Option.bind (ref09_sign_L13_R N ((s0, (i1, ((2 : Int), ((Go.IntKind.wrap .i64 ((Go.IntKind.wrap .i64 (((@UInt8.toNat v3) : Nat) : Int)) - (224 : Int))), ((2048 : Int), ((1 : Int), @Unit.unit)))))), @Unit.unit)) fun (v4 : (((Int × (Int × Unit)) × Unit) ⊕ ((Int × (Int × (Int × Unit))) × Unit))) =>
      Sum.elim
       (fun (v5 : ((Int × (Int × Unit)) × Unit)) =>
       some ((v5.1.1, v5.1.2.1)))
       (fun (v5 : ((Int × (Int × (Int × Unit))) × Unit)) =>
       bif (decide (v5.1.2.1 < v5.1.2.2.1)) then
        some (((0 : Int), (0 : Int)))
       else
        bif (@cond Bool @Bool.false @Bool.true (decide ((1114111 : Int) < v5.1.2.1))) then
         some (((0 : Int), (0 : Int)))
        else
         bif (decide ((55296 : Int) ≤ v5.1.2.1)) then
          bif (@cond Bool @Bool.false @Bool.true (@cond Bool @Bool.true (decide (v5.1.2.1 ≤ (57343 : Int))) @Bool.false)) then
           some (((0 : Int), (0 : Int)))
          else
           some ((v5.1.2.1, (Go.IntKind.wrap .i64 (v5.1.1 + (1 : Int)))))
         else
          some ((v5.1.2.1, (Go.IntKind.wrap .i64 (v5.1.1 + (1 : Int)))))) v4
     else
      bif (decide ((240 : Int) ≤ (Go.IntKind.wrap .i64 (((@UInt8.toNat v3) : Nat) : Int)))) then
       bif (@cond Bool @Bool.true (decide ((Go.IntKind.wrap .i64 (((@UInt8.toNat v3) : Nat) : Int)) < (248 : Int))) @Bool.false) then
        Option.bind (ref09_sign_L13_R N ((s0, (i1, ((3 : Int), ((Go.IntKind.wrap .i64 ((Go.IntKind.wrap .i64 (((@UInt8.toNat v3) : Nat) : Int)) - (240 : Int))), ((65536 : Int), ((1 : Int), @Unit.unit)))))), @Unit.unit)) fun (v4 : (((Int × (Int × Unit)) × Unit) ⊕ ((Int × (Int × (Int × Unit))) × Unit))) =>
        Sum.elim
         (fun (v5 : ((Int × (Int × Unit)) × Unit)) =>
         some ((v5.1.1, v5.1.2.1)))
         (fun (v5 : ((Int × (Int × (Int × Unit))) × Unit)) =>
         bif (decide (v5.1.2.1 < v5.1.2.2.1)) then
          some (((0 : Int), (0 : Int)))
         else
          bif (@cond Bool @Bool.false @Bool.true (decide ((1114111 : Int) < v5.1.2.1))) then
           some (((0 : Int), (0 : Int)))
          else
           bif (decide ((55296 : Int) ≤ v5.1.2.1)) then
            bif (@cond Bool @Bool.false @Bool.true (@cond Bool @Bool.true (decide (v5.1.2.1 ≤ (57343 : Int))) @Bool.false)) then
             some (((0 : Int), (0 : Int)))
            else
             some ((v5.1.2.1, (Go.IntKind.wrap .i64 (v5.1.1 + (1 : Int)))))
           else
            some ((v5.1.2.1, (Go.IntKind.wrap .i64 (v5.1.1 + (1 : Int)))))) v4
       else
        some (((0 : Int), (0 : Int)))
      else
       some (((0 : Int), (0 : Int)))
    else
     bif (decide ((240 : Int) ≤ (Go.IntKind.wrap .i64 (((@UInt8.toNat v3) : Nat) : Int)))) then
      bif (@cond Bool @Bool.true (decide ((Go.IntKind.wrap .i64 (((@UInt8.toNat v3) : Nat) : Int)) < (248 : Int))) @Bool.false) then
       Option.bind (ref09_sign_L13_R N ((s0, (i1, ((3 : Int), ((Go.IntKind.wrap .i64 ((Go.IntKind.wrap .i64 (((@UInt8.toNat v3) : Nat) : Int)) - (240 : Int))), ((65536 : Int), ((1 : Int), @Unit.unit)))))), @Unit.unit)) fun (v4 : (((Int × (Int × Unit)) × Unit) ⊕ ((Int × (Int × (Int × Unit))) × Unit))) =>
       Sum.elim
        (fun (v5 : ((Int × (Int × Unit)) × Unit)) =>
        some ((v5.1.1, v5.1.2.1)))
        (fun (v5 : ((Int × (Int × (Int × Unit))) × Unit)) =>
        bif (decide (v5.1.2.1 < v5.1.2.2.1)) then
         some (((0 : Int), (0 : Int)))
        else
         bif (@cond Bool @Bool.false @Bool.true (decide ((1114111 : Int) < v5.1.2.1))) then
          some (((0 : Int), (0 : Int)))
         else
          bif (decide ((55296 : Int) ≤ v5.1.2.1)) then
           bif (@cond Bool @Bool.false @Bool.true (@cond Bool @Bool.true (decide (v5.1.2.1 ≤ (57343 : Int))) @Bool.false)) then
            some (((0 : Int), (0 : Int)))
           else
            some ((v5.1.2.1, (Go.IntKind.wrap .i64 (v5.1.1 + (1 : Int)))))
          else
           some ((v5.1.2.1, (Go.IntKind.wrap .i64 (v5.1.1 + (1 : Int)))))) v4
      else
       some (((0 : Int), (0 : Int)))
     else
      some (((0 : Int), (0 : Int)))
  else
   bif (decide ((224 : Int) ≤ (Go.IntKind.wrap .i64 (((@UInt8.toNat v3) : Nat) : Int)))) then
    bif (@cond Bool @Bool.true (decide ((Go.IntKind.wrap .i64 (((@UInt8.toNat v3) : Nat) : Int)) < (240 : Int))) @Bool.false) then
     Option.bind (ref09_sign_L13_R N ((s0, (i1, ((2 : Int), ((Go.IntKind.wrap .i64 ((Go.IntKind.wrap .i64 (((@UInt8.toNat v3) : Nat) : Int)) - (224 : Int))), ((2048 : Int), ((1 : Int), @Unit.unit)))))), @Unit.unit)) fun (v4 : (((Int × (Int × Unit)) × Unit) ⊕ ((Int × (Int × (Int × Unit))) × Unit))) =>
     Sum.elim
      (fun (v5 : ((Int × (Int × Unit)) × Unit)) =>
      some ((v5.1.1, v5.1.2.1)))
      (fun (v5 : ((Int × (Int × (Int × Unit))) × Unit)) =>
      bif (decide (v5.1.2.1 < v5.1.2.2.1)) then
       some (((0 : Int), (0 : Int)))
      else
       bif (@cond Bool @Bool.false @Bool.true (decide ((1114111 : Int) < v5.1.2.1))) then
        some (((0 : Int), (0 : Int)))
       else
        bif (decide ((55296 : Int) ≤ v5.1.2.1)) then
         bif (@cond Bool @Bool.false @Bool.true (@cond Bool @Bool.true (decide (v5.1.2.1 ≤ (57343 : Int))) @Bool.false)) then
          some (((0 : Int), (0 : Int)))
         else
          some ((v5.1.2.1, (Go.IntKind.wrap .i64 (v5.1.1 + (1 : Int)))))
        else
         some ((v5.1.2.1, (Go.IntKind.wrap .i64 (v5.1.1 + (1 : Int)))))) v4
    else
     bif (decide ((240 : Int) ≤ (Go.IntKind.wrap .i64 (((@UInt8.toNat v3) : Nat) : Int)))) then
      bif (@cond Bool @Bool.true (decide ((Go.IntKind.wrap .i64 (((@UInt8.toNat v3) : Nat) : Int)) < (248 : Int))) @Bool.false) then
       Option.bind (ref09_sign_L13_R N ((s0, (i1, ((3 : Int), ((Go.IntKind.wrap .i64 ((Go.IntKind.wrap .i64 (((@UInt8.toNat v3) : Nat) : Int)) - (240 : Int))), ((65536 : Int), ((1 : Int), @Unit.unit)))))), @Unit.unit)) fun (v4 : (((Int × (Int × Unit)) × Unit) ⊕ ((Int × (Int × (Int × Unit))) × Unit))) =>
       Sum.elim
        (fun (v5 : ((Int × (Int × Unit)) × Unit)) =>
        some ((v5.1.1, v5.1.2.1)))
        (fun (v5 : ((Int × (Int × (Int × Unit))) × Unit)) =>
        bif (decide (v5.1.2.1 < v5.1.2.2.1)) then
         some (((0 : Int), (0 : Int)))
        else
         bif (@cond Bool @Bool.false @Bool.true (decide ((1114111 : Int) < v5.1.2.1))) then
          some (((0 : Int), (0 : Int)))
         else
          bif (decide ((55296 : Int) ≤ v5.1.2.1)) then
           bif (@cond Bool @Bool.false @Bool.true (@cond Bool @Bool.true (decide (v5.1.2.1 ≤ (57343 : Int))) @Bool.false)) then
            some (((0 : Int), (0 : Int)))
           else
            some ((v5.1.2.1, (Go.IntKind.wrap .i64 (v5.1.1 + (1 : Int)))))
          else
           some ((v5.1.2.1, (Go.IntKind.wrap .i64 (v5.1.1 + (1 : Int)))))) v4
      else
       some (((0 : Int), (0 : Int)))
     else
      some (((0 : Int), (0 : Int)))
   else
    bif (decide ((240 : Int) ≤ (Go.IntKind.wrap .i64 (((@UInt8.toNat v3) : Nat) : Int)))) then
     bif (@cond Bool @Bool.true (decide ((Go.IntKind.wrap .i64 (((@UInt8.toNat v3) : Nat) : Int)) < (248 : Int))) @Bool.false) then
      Option.bind (ref09_sign_L13_R N ((s0, (i1, ((3 : Int), ((Go.IntKind.wrap .i64 ((Go.IntKind.wrap .i64 (((@UInt8.toNat v3) : Nat) : Int)) - (240 : Int))), ((65536 : Int), ((1 : Int), @Unit.unit)))))), @Unit.unit)) fun (v4 : (((Int × (Int × Unit)) × Unit) ⊕ ((Int × (Int × (Int × Unit))) × Unit))) =>
      Sum.elim
       (fun (v5 : ((Int × (Int × Unit)) × Unit)) =>
       some ((v5.1.1, v5.1.2.1)))
       (fun (v5 : ((Int × (Int × (Int × Unit))) × Unit)) =>
       bif (decide (v5.1.2.1 < v5.1.2.2.1)) then
        some (((0 : Int), (0 : Int)))
       else
        bif (@cond Bool @Bool.false @Bool.true (decide ((1114111 : Int) < v5.1.2.1))) then
         some (((0 : Int), (0 : Int)))
        else
         bif (decide ((55296 : Int) ≤ v5.1.2.1)) then
          bif (@cond Bool @Bool.false @Bool.true (@cond Bool @Bool.true (decide (v5.1.2.1 ≤ (57343 : Int))) @Bool.false)) then
           some (((0 : Int), (0 : Int)))
          else
           some ((v5.1.2.1, (Go.IntKind.wrap .i64 (v5.1.1 + (1 : Int)))))
         else
          some ((v5.1.2.1, (Go.IntKind.wrap .i64 (v5.1.1 + (1 : Int)))))) v4
     else
      some (((0 : Int), (0 : Int)))
    else
     some (((0 : Int), (0 : Int)))
theorem ref09_sign_S (N : Nat) (s0 : List UInt8) (i1 : Int) : (runK Go.Proofs.Tryd.prog (Ev70 N) 400 79 [.str, (.int .i64)] [(.int .i64), (.int .i64)] (s0, i1, ())).run = ref09_sign N s0 i1 := by kernel_rfl
noncomputable def Ev71 (N : Nat) : (R : Type) → Env R := Env.addFn (Ev70 N) 79 (fun R => fnK [.str, (.int .i64)] [(.int .i64), (.int .i64)] (fun c => ref09_sign N c.1 c.2.1))
theorem Ev71_ok (N : Nat) (R : Type) : EnvOK Go.Proofs.Tryd.prog (Ev71 N R) := EnvOK.addFn hmx (Ev70_ok N R) (Ev70_ok N _) (by kernel_rfl) (fun c => ref09_sign_S N c.1 c.2.1)
noncomputable def ref09_Signs_L3_I : LI := ⟨28, 0, [(4, 3)], ⟨[(0, .ty .str), (4, .lit (.own 0)), (5, .ty (.int .i64))], [.own (.int .i64) 3]⟩, [(.ret, ⟨[(2, .ty (.sl (.int .i64))), (3, .ty .bool)], []⟩), (.exit 0, ⟨[(4, .lit (.own 0))], [.own (.int .i64) 3]⟩)]⟩
noncomputable def ref09_Signs_L3 (N : Nat) (X : (((List UInt8) × ((Int) × Unit)) × ((List (Int)) × Unit)) → Option (((((List (Int)) × ((Bool) × Unit)) × Unit) ⊕ (Unit × ((List (Int)) × Unit))))) (s0 : List UInt8) (i5 : Int) (h0 : List (Int)) : Option (((((List (Int)) × ((Bool) × Unit)) × Unit) ⊕ (Unit × ((List (Int)) × Unit)))) :=
 bif (decide (i5 < (((List.length s0) : Nat) : Int))) then
  Option.bind (@ref09_sign N s0 i5) fun (v5 : (Int × Int)) =>
  bif (decide (v5.2 = (0 : Int))) then
   some ((.inl ((([] : List (Int)), (@Bool.false, @Unit.unit)), @Unit.unit)))
  else
   bif (roomB ((List.length h0) + (List.length ([v5.1] : List (Int)))) 8) then
    (X ((s0, ((Go.IntKind.wrap .i64 (i5 + v5.2)), @Unit.unit)), ((h0 ++ ([v5.1] : List (Int))), @Unit.unit)))
   else
    none
 else
  some ((.inr (@Unit.unit, (h0, @Unit.unit))))
noncomputable def ref09_Signs_L3_R (N : Nat) (c : (((List UInt8) × ((Int) × Unit)) × ((List (Int)) × Unit))) : Option (((((List (Int)) × ((Bool) × Unit)) × Unit) ⊕ (Unit × ((List (Int)) × Unit)))) := gl (fun X c => ref09_Signs_L3 N X c.1.1 c.1.2.1 c.2.1) N c
theorem ref09_Signs_L3_S (N : Nat) (X : (((List UInt8) × ((Int) × Unit)) × ((List (Int)) × Unit)) → Option (((((List (Int)) × ((Bool) × Unit)) × Unit) ⊕ (Unit × ((List (Int)) × Unit))))) (s0 : List UInt8) (i5 : Int) (h0 : List (Int)) : (roundK Go.Proofs.Tryd.prog (Ev71 N) 400 [63] ref09_Signs_L3_I (loopAt Go.Proofs.Tryd.prog [63] 3) X ((s0, i5, ()), (h0, ()))).run = ref09_Signs_L3 N X s0 i5 h0 := by kernel_rfl
noncomputable def Ev72 (N : Nat) : (R : Type) → Env R := Env.addLp (Ev71 N) [63] 0 3 (fun R => lpK Go.Proofs.Tryd.prog ref09_Signs_L3_I (fun X c => ref09_Signs_L3 N X c.1.1 c.1.2.1 c.2.1) N)
theorem Ev72_ok (N : Nat) (R : Type) : EnvOK Go.Proofs.Tryd.prog (Ev72 N R) := EnvOK.addLp (Ev71_ok N R) (by kernel_rfl) (lpK_ok (li := ref09_Signs_L3_I) (G := fun X c => ref09_Signs_L3 N X c.1.1 c.1.2.1 c.2.1) hmx (Ev71_ok N _) (by kernel_rfl) loopAt_sub (fun (X : CT ref09_Signs_L3_I.sh → Option (OT ref09_Signs_L3_I.outs)) (c : CT ref09_Signs_L3_I.sh) => ref09_Signs_L3_S N X c.1.1 c.1.2.1 c.2.1) N)
noncomputable def ref09_Signs (N : Nat) (s0 : List UInt8) : Option ((List (Int)) × Bool) :=
 Option.bind (ref09_Signs_L3_R N ((s0, ((0 : Int), @Unit.unit)), (([] : List (Int)), @Unit.unit))) fun (v2 : ((((List Int) × (Bool × Unit)) × Unit) ⊕ (Unit × ((List Int) × Unit)))) =>
 Sum.elim
  (fun (v3 : (((List Int) × (Bool × Unit)) × Unit)) =>
  some ((v3.1.1, v3.1.2.1)))
  (fun (v3 : (Unit × ((List Int) × Unit))) =>
  some ((v3.2.1, @Bool.true))) v2
theorem ref09_Signs_S (N : Nat) (s0 : List UInt8) : (runK Go.Proofs.Tryd.prog (Ev72 N) 400 63 [.str] [(.sl (.int .i64)), .bool] (s0, ())).run = ref09_Signs N s0 := by kernel_rfl
theorem ref09_Signs_C (N : Nat) (s0 : List UInt8) (y : (List (Int)) × Bool) (h : ref09_Signs N s0 = some y) : CallsK Go.Proofs.Tryd.prog 63 (valA [.str] (s0, ())) (tupV (valR [(.sl (.int .i64)), .bool] y)) := runK_ok hmx (Ev72_ok N _) (okFn_ok (by kernel_rfl)) (by rw [ref09_Signs_S]; exact h)
noncomputable def Ev73 (N : Nat) : (R : Type) → Env R := Env.addFn (Ev72 N) 63 (fun R => fnK [.str] [(.sl (.int .i64)), .bool] (fun c => ref09_Signs N c.1))
theorem Ev73_ok (N : Nat) (R : Type) : EnvOK Go.Proofs.Tryd.prog (Ev73 N R) := EnvOK.addFn hmx (Ev72_ok N R) (Ev72_ok N _) (by kernel_rfl) (fun c => ref09_Signs_S N c.1)
noncomputable def ref09_May (N : Nat) (s0 : List UInt8) : Option (Int) :=
 Option.bind (@ref09_Signs N s0) fun (v2 : ((List Int) × Bool)) =>
 bif (!v2.2) then
  some ((3 : Int))
 else
  bif (decide ((64 : Int) < (((List.length v2.1) : Nat) : Int))) then
   some ((8 : Int))
  else
   some ((0 : Int))
theorem ref09_May_S (N : Nat) (s0 : List UInt8) : (runK Go.Proofs.Tryd.prog (Ev73 N) 400 43 [.str] [(.int .i64)] (s0, ())).run = ref09_May N s0 := by kernel_rfl
theorem ref09_May_C (N : Nat) (s0 : List UInt8) (y : Int) (h : ref09_May N s0 = some y) : CallsK Go.Proofs.Tryd.prog 43 (valA [.str] (s0, ())) (tupV (valR [(.int .i64)] y)) := runK_ok hmx (Ev73_ok N _) (okFn_ok (by kernel_rfl)) (by rw [ref09_May_S]; exact h)
noncomputable def Ev74 (N : Nat) : (R : Type) → Env R := Env.addFn (Ev73 N) 43 (fun R => fnK [.str] [(.int .i64)] (fun c => ref09_May N c.1))
theorem Ev74_ok (N : Nat) (R : Type) : EnvOK Go.Proofs.Tryd.prog (Ev74 N R) := EnvOK.addFn hmx (Ev73_ok N R) (Ev73_ok N _) (by kernel_rfl) (fun c => ref09_May_S N c.1)
noncomputable def Ev75 (N : Nat) : (R : Type) → Env R := Env.addMv (Ev74 N) [(44, 9), (44, 11)]
theorem Ev75_ok (N : Nat) (R : Type) : EnvOK Go.Proofs.Tryd.prog (Ev75 N R) := EnvOK.addMv (Ev74_ok N R) [(44, 9), (44, 11)]
noncomputable def ref09_Units_L6_I : LI := ⟨52, 0, [(5, 73)], ⟨[(3, .ty (.sl (.int .i64))), (5, .lit (.own 0)), (6, .ty (.int .i64))], [.own (.int .u16) 73]⟩, [(.exit 0, ⟨[(5, .lit (.own 0))], [.own (.int .u16) 73]⟩)]⟩
noncomputable def ref09_Units_L6 (N : Nat) (X : (((List (Int)) × ((Int) × Unit)) × ((List (Int)) × Unit)) → Option ((Unit × ((List (Int)) × Unit)))) (l3 : List (Int)) (i6 : Int) (h0 : List (Int)) : Option ((Unit × ((List (Int)) × Unit))) :=
 bif (decide (i6 < (((List.length l3) : Nat) : Int))) then
  Option.bind (getI l3 i6) fun (v5 : Int) =>
  bif (decide (v5 < (65536 : Int))) then
   Option.bind (getI l3 i6) fun (v6 : Int) =>
   bif (roomB ((List.length h0) + (List.length ([(Go.IntKind.wrap .u16 v6)] : List (Int)))) 2) then
    (X ((l3, ((Go.IntKind.wrap .i64 (i6 + (1 : Int))), @Unit.unit)), ((h0 ++ ([(Go.IntKind.wrap .u16 v6)] : List (Int))), @Unit.unit)))
   else
    none
  else
   Option.bind (getI l3 i6) fun (v6 : Int) =>
   bif (roomB ((List.length h0) + (List.length ([(Go.IntKind.wrap .u16 (Go.IntKind.wrap .i64 ((55296 : Int) + (Go.IntKind.wrap .i64 (@Int.tdiv (Go.IntKind.wrap .i64 (v6 - (65536 : Int))) (1024 : Int)))))), (Go.IntKind.wrap .u16 (Go.IntKind.wrap .i64 ((56320 : Int) + (@Int.tmod (Go.IntKind.wrap .i64 (v6 - (65536 : Int))) (1024 : Int)))))] : List (Int)))) 2) then
    (X ((l3, ((Go.IntKind.wrap .i64 (i6 + (1 : Int))), @Unit.unit)), ((h0 ++ ([(Go.IntKind.wrap .u16 (Go.IntKind.wrap .i64 ((55296 : Int) + (Go.IntKind.wrap .i64 (@Int.tdiv (Go.IntKind.wrap .i64 (v6 - (65536 : Int))) (1024 : Int)))))), (Go.IntKind.wrap .u16 (Go.IntKind.wrap .i64 ((56320 : Int) + (@Int.tmod (Go.IntKind.wrap .i64 (v6 - (65536 : Int))) (1024 : Int)))))] : List (Int))), @Unit.unit)))
   else
    none
 else
  some ((@Unit.unit, (h0, @Unit.unit)))
noncomputable def ref09_Units_L6_R (N : Nat) (c : (((List (Int)) × ((Int) × Unit)) × ((List (Int)) × Unit))) : Option ((Unit × ((List (Int)) × Unit))) := gl (fun X c => ref09_Units_L6 N X c.1.1 c.1.2.1 c.2.1) N c
theorem ref09_Units_L6_S (N : Nat) (X : (((List (Int)) × ((Int) × Unit)) × ((List (Int)) × Unit)) → Option ((Unit × ((List (Int)) × Unit)))) (l3 : List (Int)) (i6 : Int) (h0 : List (Int)) : (roundK Go.Proofs.Tryd.prog (Ev75 N) 400 [44] ref09_Units_L6_I (loopAt Go.Proofs.Tryd.prog [44] 6) X ((l3, i6, ()), (h0, ()))).run = ref09_Units_L6 N X l3 i6 h0 := by kernel_rfl
noncomputable def Ev76 (N : Nat) : (R : Type) → Env R := Env.addLp (Ev75 N) [44] 0 6 (fun R => lpK Go.Proofs.Tryd.prog ref09_Units_L6_I (fun X c => ref09_Units_L6 N X c.1.1 c.1.2.1 c.2.1) N)
theorem Ev76_ok (N : Nat) (R : Type) : EnvOK Go.Proofs.Tryd.prog (Ev76 N R) := EnvOK.addLp (Ev75_ok N R) (by kernel_rfl) (lpK_ok (li := ref09_Units_L6_I) (G := fun X c => ref09_Units_L6 N X c.1.1 c.1.2.1 c.2.1) hmx (Ev75_ok N _) (by kernel_rfl) loopAt_sub (fun (X : CT ref09_Units_L6_I.sh → Option (OT ref09_Units_L6_I.outs)) (c : CT ref09_Units_L6_I.sh) => ref09_Units_L6_S N X c.1.1 c.1.2.1 c.2.1) N)
noncomputable def ref09_Units (N : Nat) (s0 : List UInt8) : Option (List (Int)) :=
 Option.bind (@ref09_May N s0) fun (v2 : Int) =>
 bif (!(decide (v2 = (0 : Int)))) then
  some (([] : List (Int)))
 else
  Option.bind (@ref09_Signs N s0) fun (v3 : ((List Int) × Bool)) =>
  Option.bind (ref09_Units_L6_R N ((v3.1, ((0 : Int), @Unit.unit)), (([] : List (Int)), @Unit.unit))) fun (v4 : (Unit × ((List Int) × Unit))) =>
  some (v4.2.1)
theorem ref09_Units_S (N : Nat) (s0 : List UInt8) : (runK Go.Proofs.Tryd.prog (Ev76 N) 400 44 [.str] [(.sl (.int .u16))] (s0, ())).run = ref09_Units N s0 := by kernel_rfl
theorem ref09_Units_C (N : Nat) (s0 : List UInt8) (y : List (Int)) (h : ref09_Units N s0 = some y) : CallsK Go.Proofs.Tryd.prog 44 (valA [.str] (s0, ())) (tupV (valR [(.sl (.int .u16))] y)) := runK_ok hmx (Ev76_ok N _) (okFn_ok (by kernel_rfl)) (by rw [ref09_Units_S]; exact h)
noncomputable def Ev77 (N : Nat) : (R : Type) → Env R := Env.addFn (Ev76 N) 44 (fun R => fnK [.str] [(.sl (.int .u16))] (fun c => ref09_Units N c.1))
theorem Ev77_ok (N : Nat) (R : Type) : EnvOK Go.Proofs.Tryd.prog (Ev77 N R) := EnvOK.addFn hmx (Ev76_ok N R) (Ev76_ok N _) (by kernel_rfl) (fun c => ref09_Units_S N c.1)
noncomputable def Ev78 (N : Nat) : (R : Type) → Env R := Env.addMv (Ev77 N) [(29, 9)]
theorem Ev78_ok (N : Nat) (R : Type) : EnvOK Go.Proofs.Tryd.prog (Ev78 N R) := EnvOK.addMv (Ev77_ok N R) [(29, 9)]
noncomputable def ref09_Lay_L7_I : LI := ⟨37, 0, [(5, 5)], ⟨[(5, .lit (.own 0)), (6, .ty (.sl (.int .u16))), (7, .ty (.int .i64))], [.own (.int .u8) 5]⟩, [(.exit 0, ⟨[(5, .lit (.own 0))], [.own (.int .u8) 5]⟩)]⟩
noncomputable def ref09_Lay_L7 (N : Nat) (X : (((List (Int)) × ((Int) × Unit)) × ((List (Int)) × Unit)) → Option ((Unit × ((List (Int)) × Unit)))) (u6 : List (Int)) (i7 : Int) (h0 : List (Int)) : Option ((Unit × ((List (Int)) × Unit))) :=
 bif (decide (i7 < (((List.length u6) : Nat) : Int))) then
  Option.bind (getI u6 i7) fun (v5 : Int) =>
  Option.bind (getI u6 i7) fun (v6 : Int) =>
  bif (roomB ((List.length h0) + (List.length ([(Go.IntKind.wrap .u8 (@Int.tmod v5 (256 : Int))), (Go.IntKind.wrap .u8 (Go.IntKind.wrap .u16 (@Int.tdiv v6 (256 : Int))))] : List (Int)))) 1) then
   (X ((u6, ((Go.IntKind.wrap .i64 (i7 + (1 : Int))), @Unit.unit)), ((h0 ++ ([(Go.IntKind.wrap .u8 (@Int.tmod v5 (256 : Int))), (Go.IntKind.wrap .u8 (Go.IntKind.wrap .u16 (@Int.tdiv v6 (256 : Int))))] : List (Int))), @Unit.unit)))
  else
   none
 else
  some ((@Unit.unit, (h0, @Unit.unit)))
noncomputable def ref09_Lay_L7_R (N : Nat) (c : (((List (Int)) × ((Int) × Unit)) × ((List (Int)) × Unit))) : Option ((Unit × ((List (Int)) × Unit))) := gl (fun X c => ref09_Lay_L7 N X c.1.1 c.1.2.1 c.2.1) N c
theorem ref09_Lay_L7_S (N : Nat) (X : (((List (Int)) × ((Int) × Unit)) × ((List (Int)) × Unit)) → Option ((Unit × ((List (Int)) × Unit)))) (u6 : List (Int)) (i7 : Int) (h0 : List (Int)) : (roundK Go.Proofs.Tryd.prog (Ev78 N) 400 [29] ref09_Lay_L7_I (loopAt Go.Proofs.Tryd.prog [29] 7) X ((u6, i7, ()), (h0, ()))).run = ref09_Lay_L7 N X u6 i7 h0 := by kernel_rfl
noncomputable def Ev79 (N : Nat) : (R : Type) → Env R := Env.addLp (Ev78 N) [29] 0 7 (fun R => lpK Go.Proofs.Tryd.prog ref09_Lay_L7_I (fun X c => ref09_Lay_L7 N X c.1.1 c.1.2.1 c.2.1) N)
theorem Ev79_ok (N : Nat) (R : Type) : EnvOK Go.Proofs.Tryd.prog (Ev79 N R) := EnvOK.addLp (Ev78_ok N R) (by kernel_rfl) (lpK_ok (li := ref09_Lay_L7_I) (G := fun X c => ref09_Lay_L7 N X c.1.1 c.1.2.1 c.2.1) hmx (Ev78_ok N _) (by kernel_rfl) loopAt_sub (fun (X : CT ref09_Lay_L7_I.sh → Option (OT ref09_Lay_L7_I.outs)) (c : CT ref09_Lay_L7_I.sh) => ref09_Lay_L7_S N X c.1.1 c.1.2.1 c.2.1) N)
noncomputable def ref09_Lay (N : Nat) (s0 : List UInt8) : Option ((List (Int)) × Int) :=
 Option.bind (@ref09_May N s0) fun (v2 : Int) =>
 bif (!(decide (v2 = (0 : Int)))) then
  some ((([] : List (Int)), v2))
 else
  Option.bind (@ref09_Units N s0) fun (v3 : (List Int)) =>
  Option.bind (ref09_Lay_L7_R N ((v3, ((0 : Int), @Unit.unit)), (([] : List (Int)), @Unit.unit))) fun (v4 : (Unit × ((List Int) × Unit))) =>
  some ((v4.2.1, (0 : Int)))
theorem ref09_Lay_S (N : Nat) (s0 : List UInt8) : (runK Go.Proofs.Tryd.prog (Ev79 N) 400 29 [.str] [(.sl (.int .u8)), (.int .i64)] (s0, ())).run = ref09_Lay N s0 := by kernel_rfl
theorem ref09_Lay_C (N : Nat) (s0 : List UInt8) (y : (List (Int)) × Int) (h : ref09_Lay N s0 = some y) : CallsK Go.Proofs.Tryd.prog 29 (valA [.str] (s0, ())) (tupV (valR [(.sl (.int .u8)), (.int .i64)] y)) := runK_ok hmx (Ev79_ok N _) (okFn_ok (by kernel_rfl)) (by rw [ref09_Lay_S]; exact h)
noncomputable def Ev80 (N : Nat) : (R : Type) → Env R := Env.addFn (Ev79 N) 29 (fun R => fnK [.str] [(.sl (.int .u8)), (.int .i64)] (fun c => ref09_Lay N c.1))
theorem Ev80_ok (N : Nat) (R : Type) : EnvOK Go.Proofs.Tryd.prog (Ev80 N R) := EnvOK.addFn hmx (Ev79_ok N R) (Ev79_ok N _) (by kernel_rfl) (fun c => ref09_Lay_S N c.1)
noncomputable def nthash_Of (N : Nat) (password0 : List UInt8) : Option ((Arr (Int) 16) × Int) :=
 Option.bind (@utf16_Lay N password0) fun (v2 : ((List Int) × Int)) =>
 bif (!(decide (v2.2 = (0 : Int)))) then
  some (((@Arr.cons Int (15 : Nat) (0 : Int) (@Arr.cons Int (14 : Nat) (0 : Int) (@Arr.cons Int (13 : Nat) (0 : Int) (@Arr.cons Int (12 : Nat) (0 : Int) (@Arr.cons Int (11 : Nat) (0 : Int) (@Arr.cons Int (10 : Nat) (0 : Int) (@Arr.cons Int (9 : Nat) (0 : Int) (@Arr.cons Int (8 : Nat) (0 : Int) (@Arr.cons Int (7 : Nat) (0 : Int) (@Arr.cons Int (6 : Nat) (0 : Int) (@Arr.cons Int (5 : Nat) (0 : Int) (@Arr.cons Int (4 : Nat) (0 : Int) (@Arr.cons Int (3 : Nat) (0 : Int) (@Arr.cons Int (2 : Nat) (0 : Int) (@Arr.cons Int (1 : Nat) (0 : Int) (@Arr.cons Int (0 : Nat) (0 : Int) (@Arr.nil Int))))))))))))))))), v2.2))
 else
  Option.bind (@md4_Of N ([v2.1] : List ((List Int)))) fun (v3 : (Arr Int 16)) =>
  some ((v3, (0 : Int)))
theorem nthash_Of_S (N : Nat) (password0 : List UInt8) : (runK Go.Proofs.Tryd.prog (Ev80 N) 400 9 [.str] [(.arr 16 (.int .u8)), (.int .i64)] (password0, ())).run = nthash_Of N password0 := by kernel_rfl
theorem nthash_Of_C (N : Nat) (password0 : List UInt8) (y : (Arr (Int) 16) × Int) (h : nthash_Of N password0 = some y) : CallsK Go.Proofs.Tryd.prog 9 (valA [.str] (password0, ())) (tupV (valR [(.arr 16 (.int .u8)), (.int .i64)] y)) := runK_ok hmx (Ev80_ok N _) (okFn_ok (by kernel_rfl)) (by rw [nthash_Of_S]; exact h)
noncomputable def Ev81 (N : Nat) : (R : Type) → Env R := Env.addFn (Ev80 N) 9 (fun R => fnK [.str] [(.arr 16 (.int .u8)), (.int .i64)] (fun c => nthash_Of N c.1))
theorem Ev81_ok (N : Nat) (R : Type) : EnvOK Go.Proofs.Tryd.prog (Ev81 N R) := EnvOK.addFn hmx (Ev80_ok N R) (Ev80_ok N _) (by kernel_rfl) (fun c => nthash_Of_S N c.1)
noncomputable def Ev82 (N : Nat) : (R : Type) → Env R := Env.addBx (Ev81 N) [(11, 0)]
theorem Ev82_ok (N : Nat) (R : Type) : EnvOK Go.Proofs.Tryd.prog (Ev82 N R) := EnvOK.addBx (Ev81_ok N R) [(11, 0)]
noncomputable def nthash_Twice (N : Nat) (h0 : Arr (Int) 16) : Option (Arr (Int) 16) :=
 Option.bind (@md4_Of N ([h0.l] : List ((List Int)))) fun (v2 : (Arr Int 16)) =>
 some (v2)
theorem nthash_Twice_S (N : Nat) (h0 : Arr (Int) 16) : (runK Go.Proofs.Tryd.prog (Ev82 N) 400 11 [(.arr 16 (.int .u8))] [(.arr 16 (.int .u8))] (h0, ())).run = nthash_Twice N h0 := by kernel_rfl
theorem nthash_Twice_C (N : Nat) (h0 : Arr (Int) 16) (y : Arr (Int) 16) (h : nthash_Twice N h0 = some y) : CallsK Go.Proofs.Tryd.prog 11 (valA [(.arr 16 (.int .u8))] (h0, ())) (tupV (valR [(.arr 16 (.int .u8))] y)) := runK_ok hmx (Ev82_ok N _) (okFn_ok (by kernel_rfl)) (by rw [nthash_Twice_S]; exact h)
noncomputable def Ev83 (N : Nat) : (R : Type) → Env R := Env.addFn (Ev82 N) 11 (fun R => fnK [(.arr 16 (.int .u8))] [(.arr 16 (.int .u8))] (fun c => nthash_Twice N c.1))
theorem Ev83_ok (N : Nat) (R : Type) : EnvOK Go.Proofs.Tryd.prog (Ev83 N R) := EnvOK.addFn hmx (Ev82_ok N R) (Ev82_ok N _) (by kernel_rfl) (fun c => nthash_Twice_S N c.1)
noncomputable def Ev84 (N : Nat) : (R : Type) → Env R := Env.addMv (Ev83 N) [(13, 2)]
theorem Ev84_ok (N : Nat) (R : Type) : EnvOK Go.Proofs.Tryd.prog (Ev84 N R) := EnvOK.addMv (Ev83_ok N R) [(13, 2)]
noncomputable def Ev85 (N : Nat) : (R : Type) → Env R := Env.addBx (Ev84 N) [(13, 0)]
theorem Ev85_ok (N : Nat) (R : Type) : EnvOK Go.Proofs.Tryd.prog (Ev85 N R) := EnvOK.addBx (Ev84_ok N R) [(13, 0)]
noncomputable def nthash_Long (N : Nat) (h0 : Arr (Int) 16) : Option (Arr (Int) 21) :=
 some ((@Arr.over Int (21 : Nat) (@Arr.cons Int (20 : Nat) (0 : Int) (@Arr.cons Int (19 : Nat) (0 : Int) (@Arr.cons Int (18 : Nat) (0 : Int) (@Arr.cons Int (17 : Nat) (0 : Int) (@Arr.cons Int (16 : Nat) (0 : Int) (@Arr.cons Int (15 : Nat) (0 : Int) (@Arr.cons Int (14 : Nat) (0 : Int) (@Arr.cons Int (13 : Nat) (0 : Int) (@Arr.cons Int (12 : Nat) (0 : Int) (@Arr.cons Int (11 : Nat) (0 : Int) (@Arr.cons Int (10 : Nat) (0 : Int) (@Arr.cons Int (9 : Nat) (0 : Int) (@Arr.cons Int (8 : Nat) (0 : Int) (@Arr.cons Int (7 : Nat) (0 : Int) (@Arr.cons Int (6 : Nat) (0 : Int) (@Arr.cons Int (5 : Nat) (0 : Int) (@Arr.cons Int (4 : Nat) (0 : Int) (@Arr.cons Int (3 : Nat) (0 : Int) (@Arr.cons Int (2 : Nat) (0 : Int) (@Arr.cons Int (1 : Nat) (0 : Int) (@Arr.cons Int (0 : Nat) (0 : Int) (@Arr.nil Int)))))))))))))))))))))) h0.l))
theorem nthash_Long_S (N : Nat) (h0 : Arr (Int) 16) : (runK Go.Proofs.Tryd.prog (Ev85 N) 400 13 [(.arr 16 (.int .u8))] [(.arr 21 (.int .u8))] (h0, ())).run = nthash_Long N h0 := by kernel_rfl
theorem nthash_Long_C (N : Nat) (h0 : Arr (Int) 16) (y : Arr (Int) 21) (h : nthash_Long N h0 = some y) : CallsK Go.Proofs.Tryd.prog 13 (valA [(.arr 16 (.int .u8))] (h0, ())) (tupV (valR [(.arr 21 (.int .u8))] y)) := runK_ok hmx (Ev85_ok N _) (okFn_ok (by kernel_rfl)) (by rw [nthash_Long_S]; exact h)
noncomputable def Ev86 (N : Nat) : (R : Type) → Env R := Env.addFn (Ev85 N) 13 (fun R => fnK [(.arr 16 (.int .u8))] [(.arr 21 (.int .u8))] (fun c => nthash_Long N c.1))
theorem Ev86_ok (N : Nat) (R : Type) : EnvOK Go.Proofs.Tryd.prog (Ev86 N R) := EnvOK.addFn hmx (Ev85_ok N R) (Ev85_ok N _) (by kernel_rfl) (fun c => nthash_Long_S N c.1)
noncomputable def Ev87 (N : Nat) : (R : Type) → Env R := Env.addBx (Ev86 N) [(14, 0)]
theorem Ev87_ok (N : Nat) (R : Type) : EnvOK Go.Proofs.Tryd.prog (Ev87 N R) := EnvOK.addBx (Ev86_ok N R) [(14, 0)]
noncomputable def nthash_Thirds (N : Nat) (h0 : Arr (Int) 16) : Option (Arr (Arr (Int) 7) 3) :=
 Option.bind (takeI (@Arr.over Int (21 : Nat) (@Arr.cons Int (20 : Nat) (0 : Int) (@Arr.cons Int (19 : Nat) (0 : Int) (@Arr.cons Int (18 : Nat) (0 : Int) (@Arr.cons Int (17 : Nat) (0 : Int) (@Arr.cons Int (16 : Nat) (0 : Int) (@Arr.cons Int (15 : Nat) (0 : Int) (@Arr.cons Int (14 : Nat) (0 : Int) (@Arr.cons Int (13 : Nat) (0 : Int) (@Arr.cons Int (12 : Nat) (0 : Int) (@Arr.cons Int (11 : Nat) (0 : Int) (@Arr.cons Int (10 : Nat) (0 : Int) (@Arr.cons Int (9 : Nat) (0 : Int) (@Arr.cons Int (8 : Nat) (0 : Int) (@Arr.cons Int (7 : Nat) (0 : Int) (@Arr.cons Int (6 : Nat) (0 : Int) (@Arr.cons Int (5 : Nat) (0 : Int) (@Arr.cons Int (4 : Nat) (0 : Int) (@Arr.cons Int (3 : Nat) (0 : Int) (@Arr.cons Int (2 : Nat) (0 : Int) (@Arr.cons Int (1 : Nat) (0 : Int) (@Arr.cons Int (0 : Nat) (0 : Int) (@Arr.nil Int)))))))))))))))))))))) h0.l).l (7 : Int)) fun (v2 : (List Int)) =>
 Option.bind (@toArr Int (7 : Nat) v2) fun (v3 : (Arr Int 7)) =>
 Option.bind (subI (@Arr.over Int (21 : Nat) (@Arr.cons Int (20 : Nat) (0 : Int) (@Arr.cons Int (19 : Nat) (0 : Int) (@Arr.cons Int (18 : Nat) (0 : Int) (@Arr.cons Int (17 : Nat) (0 : Int) (@Arr.cons Int (16 : Nat) (0 : Int) (@Arr.cons Int (15 : Nat) (0 : Int) (@Arr.cons Int (14 : Nat) (0 : Int) (@Arr.cons Int (13 : Nat) (0 : Int) (@Arr.cons Int (12 : Nat) (0 : Int) (@Arr.cons Int (11 : Nat) (0 : Int) (@Arr.cons Int (10 : Nat) (0 : Int) (@Arr.cons Int (9 : Nat) (0 : Int) (@Arr.cons Int (8 : Nat) (0 : Int) (@Arr.cons Int (7 : Nat) (0 : Int) (@Arr.cons Int (6 : Nat) (0 : Int) (@Arr.cons Int (5 : Nat) (0 : Int) (@Arr.cons Int (4 : Nat) (0 : Int) (@Arr.cons Int (3 : Nat) (0 : Int) (@Arr.cons Int (2 : Nat) (0 : Int) (@Arr.cons Int (1 : Nat) (0 : Int) (@Arr.cons Int (0 : Nat) (0 : Int) (@Arr.nil Int)))))))))))))))))))))) h0.l).l (7 : Int) (14 : Int)) fun (v4 : (List Int)) =>
 Option.bind (@toArr Int (7 : Nat) v4) fun (v5 : (Arr Int 7)) =>
 Option.bind (dropI (@Arr.over Int (21 : Nat) (@Arr.cons Int (20 : Nat) (0 : Int) (@Arr.cons Int (19 : Nat) (0 : Int) (@Arr.cons Int (18 : Nat) (0 : Int) (@Arr.cons Int (17 : Nat) (0 : Int) (@Arr.cons Int (16 : Nat) (0 : Int) (@Arr.cons Int (15 : Nat) (0 : Int) (@Arr.cons Int (14 : Nat) (0 : Int) (@Arr.cons Int (13 : Nat) (0 : Int) (@Arr.cons Int (12 : Nat) (0 : Int) (@Arr.cons Int (11 : Nat) (0 : Int) (@Arr.cons Int (10 : Nat) (0 : Int) (@Arr.cons Int (9 : Nat) (0 : Int) (@Arr.cons Int (8 : Nat) (0 : Int) (@Arr.cons Int (7 : Nat) (0 : Int) (@Arr.cons Int (6 : Nat) (0 : Int) (@Arr.cons Int (5 : Nat) (0 : Int) (@Arr.cons Int (4 : Nat) (0 : Int) (@Arr.cons Int (3 : Nat) (0 : Int) (@Arr.cons Int (2 : Nat) (0 : Int) (@Arr.cons Int (1 : Nat) (0 : Int) (@Arr.cons Int (0 : Nat) (0 : Int) (@Arr.nil Int)))))))))))))))))))))) h0.l).l (14 : Int)) fun (v6 : (List Int)) =>
 Option.bind (@toArr Int (7 : Nat) v6) fun (v7 : (Arr Int 7)) =>
 some ((@Arr.cons (Arr Int 7) (2 : Nat) v3 (@Arr.cons (Arr Int 7) (1 : Nat) v5 (@Arr.cons (Arr Int 7) (0 : Nat) v7 (@Arr.nil (Arr Int 7))))))
theorem nthash_Thirds_S (N : Nat) (h0 : Arr (Int) 16) : (runK Go.Proofs.Tryd.prog (Ev87 N) 400 14 [(.arr 16 (.int .u8))] [(.arr 3 (.arr 7 (.int .u8)))] (h0, ())).run = nthash_Thirds N h0 := by kernel_rfl
theorem nthash_Thirds_C (N : Nat) (h0 : Arr (Int) 16) (y : Arr (Arr (Int) 7) 3) (h : nthash_Thirds N h0 = some y) : CallsK Go.Proofs.Tryd.prog 14 (valA [(.arr 16 (.int .u8))] (h0, ())) (tupV (valR [(.arr 3 (.arr 7 (.int .u8)))] y)) := runK_ok hmx (Ev87_ok N _) (okFn_ok (by kernel_rfl)) (by rw [nthash_Thirds_S]; exact h)
noncomputable def Ev88 (N : Nat) : (R : Type) → Env R := Env.addFn (Ev87 N) 14 (fun R => fnK [(.arr 16 (.int .u8))] [(.arr 3 (.arr 7 (.int .u8)))] (fun c => nthash_Thirds N c.1))
theorem Ev88_ok (N : Nat) (R : Type) : EnvOK Go.Proofs.Tryd.prog (Ev88 N R) := EnvOK.addFn hmx (Ev87_ok N R) (Ev87_ok N _) (by kernel_rfl) (fun c => nthash_Thirds_S N c.1)
noncomputable def ref10_Of (N : Nat) (password0 : List UInt8) : Option ((Arr (Int) 16) × Int) :=
 Option.bind (@ref09_Lay N password0) fun (v2 : ((List Int) × Int)) =>
 bif (!(decide (v2.2 = (0 : Int)))) then
  some (((@Arr.cons Int (15 : Nat) (0 : Int) (@Arr.cons Int (14 : Nat) (0 : Int) (@Arr.cons Int (13 : Nat) (0 : Int) (@Arr.cons Int (12 : Nat) (0 : Int) (@Arr.cons Int (11 : Nat) (0 : Int) (@Arr.cons Int (10 : Nat) (0 : Int) (@Arr.cons Int (9 : Nat) (0 : Int) (@Arr.cons Int (8 : Nat) (0 : Int) (@Arr.cons Int (7 : Nat) (0 : Int) (@Arr.cons Int (6 : Nat) (0 : Int) (@Arr.cons Int (5 : Nat) (0 : Int) (@Arr.cons Int (4 : Nat) (0 : Int) (@Arr.cons Int (3 : Nat) (0 : Int) (@Arr.cons Int (2 : Nat) (0 : Int) (@Arr.cons Int (1 : Nat) (0 : Int) (@Arr.cons Int (0 : Nat) (0 : Int) (@Arr.nil Int))))))))))))))))), v2.2))
 else
  Option.bind (@ref04_Of N v2.1) fun (v3 : (Arr Int 16)) =>
  some ((v3, (0 : Int)))
theorem ref10_Of_S (N : Nat) (password0 : List UInt8) : (runK Go.Proofs.Tryd.prog (Ev88 N) 400 10 [.str] [(.arr 16 (.int .u8)), (.int .i64)] (password0, ())).run = ref10_Of N password0 := by kernel_rfl
theorem ref10_Of_C (N : Nat) (password0 : List UInt8) (y : (Arr (Int) 16) × Int) (h : ref10_Of N password0 = some y) : CallsK Go.Proofs.Tryd.prog 10 (valA [.str] (password0, ())) (tupV (valR [(.arr 16 (.int .u8)), (.int .i64)] y)) := runK_ok hmx (Ev88_ok N _) (okFn_ok (by kernel_rfl)) (by rw [ref10_Of_S]; exact h)
noncomputable def Ev89 (N : Nat) : (R : Type) → Env R := Env.addFn (Ev88 N) 10 (fun R => fnK [.str] [(.arr 16 (.int .u8)), (.int .i64)] (fun c => ref10_Of N c.1))
theorem Ev89_ok (N : Nat) (R : Type) : EnvOK Go.Proofs.Tryd.prog (Ev89 N R) := EnvOK.addFn hmx (Ev88_ok N R) (Ev88_ok N _) (by kernel_rfl) (fun c => ref10_Of_S N c.1)
noncomputable def Ev90 (N : Nat) : (R : Type) → Env R := Env.addBx (Ev89 N) [(12, 0)]
theorem Ev90_ok (N : Nat) (R : Type) : EnvOK Go.Proofs.Tryd.prog (Ev90 N R) := EnvOK.addBx (Ev89_ok N R) [(12, 0)]
noncomputable def ref10_Twice (N : Nat) (h0 : Arr (Int) 16) : Option (Arr (Int) 16) :=
 Option.bind (@ref04_Of N h0.l) fun (v2 : (Arr Int 16)) =>
 some (v2)
theorem ref10_Twice_S (N : Nat) (h0 : Arr (Int) 16) : (runK Go.Proofs.Tryd.prog (Ev90 N) 400 12 [(.arr 16 (.int .u8))] [(.arr 16 (.int .u8))] (h0, ())).run = ref10_Twice N h0 := by kernel_rfl
theorem ref10_Twice_C (N : Nat) (h0 : Arr (Int) 16) (y : Arr (Int) 16) (h : ref10_Twice N h0 = some y) : CallsK Go.Proofs.Tryd.prog 12 (valA [(.arr 16 (.int .u8))] (h0, ())) (tupV (valR [(.arr 16 (.int .u8))] y)) := runK_ok hmx (Ev90_ok N _) (okFn_ok (by kernel_rfl)) (by rw [ref10_Twice_S]; exact h)
noncomputable def Ev91 (N : Nat) : (R : Type) → Env R := Env.addFn (Ev90 N) 12 (fun R => fnK [(.arr 16 (.int .u8))] [(.arr 16 (.int .u8))] (fun c => ref10_Twice N c.1))
theorem Ev91_ok (N : Nat) (R : Type) : EnvOK Go.Proofs.Tryd.prog (Ev91 N R) := EnvOK.addFn hmx (Ev90_ok N R) (Ev90_ok N _) (by kernel_rfl) (fun c => ref10_Twice_S N c.1)
noncomputable def Ev92 (N : Nat) : (R : Type) → Env R := Env.addBx (Ev91 N) [(16, 0)]
theorem Ev92_ok (N : Nat) (R : Type) : EnvOK Go.Proofs.Tryd.prog (Ev92 N R) := EnvOK.addBx (Ev91_ok N R) [(16, 0)]
noncomputable def ref10_Third (N : Nat) (h0 : Arr (Int) 16) (n1 : Int) : Option (List (Int)) :=
 bif (roomB (List.length h0.l) 1) then
  bif (roomB ((List.length h0.l) + (List.length ([(0 : Int), (0 : Int), (0 : Int), (0 : Int), (0 : Int)] : List (Int)))) 1) then
   Option.bind (subI (h0.l ++ ([(0 : Int), (0 : Int), (0 : Int), (0 : Int), (0 : Int)] : List (Int))) (Go.IntKind.wrap .i64 ((7 : Int) * n1)) (Go.IntKind.wrap .i64 ((Go.IntKind.wrap .i64 ((7 : Int) * n1)) + (7 : Int)))) fun (v3 : (List Int)) =>
   some (v3)
  else
   none
 else
  none
theorem ref10_Third_S (N : Nat) (h0 : Arr (Int) 16) (n1 : Int) : (runK Go.Proofs.Tryd.prog (Ev92 N) 400 16 [(.arr 16 (.int .u8)), (.int .i64)] [(.sl (.int .u8))] (h0, n1, ())).run = ref10_Third N h0 n1 := by kernel_rfl
theorem ref10_Third_C (N : Nat) (h0 : Arr (Int) 16) (n1 : Int) (y : List (Int)) (h : ref10_Third N h0 n1 = some y) : CallsK Go.Proofs.Tryd.prog 16 (valA [(.arr 16 (.int .u8)), (.int .i64)] (h0, n1, ())) (tupV (valR [(.sl (.int .u8))] y)) := runK_ok hmx (Ev92_ok N _) (okFn_ok (by kernel_rfl)) (by rw [ref10_Third_S]; exact h)
noncomputable def Ev93 (N : Nat) : (R : Type) → Env R := Env.addFn (Ev92 N) 16 (fun R => fnK [(.arr 16 (.int .u8)), (.int .i64)] [(.sl (.int .u8))] (fun c => ref10_Third N c.1 c.2.1))
theorem Ev93_ok (N : Nat) (R : Type) : EnvOK Go.Proofs.Tryd.prog (Ev93 N R) := EnvOK.addFn hmx (Ev92_ok N R) (Ev92_ok N _) (by kernel_rfl) (fun c => ref10_Third_S N c.1 c.2.1)
noncomputable def law10_alive (N : Nat) : Option (Bool) :=
 Option.bind (@nthash_Of N (@Array.toList UInt8 (@List.toArray UInt8 ([(@OfNat.ofNat UInt8 (99 : Nat) (@UInt8.instOfNat (99 : Nat))), (@OfNat.ofNat UInt8 (108 : Nat) (@UInt8.instOfNat (108 : Nat))), (@OfNat.ofNat UInt8 (105 : Nat) (@UInt8.instOfNat (105 : Nat))), (@OfNat.ofNat UInt8 (101 : Nat) (@UInt8.instOfNat (101 : Nat))), (@OfNat.ofNat UInt8 (110 : Nat) (@UInt8.instOfNat (110 : Nat))), (@OfNat.ofNat UInt8 (116 : Nat) (@UInt8.instOfNat (116 : Nat))), (@OfNat.ofNat UInt8 (80 : Nat) (@UInt8.instOfNat (80 : Nat))), (@OfNat.ofNat UInt8 (97 : Nat) (@UInt8.instOfNat (97 : Nat))), (@OfNat.ofNat UInt8 (115 : Nat) (@UInt8.instOfNat (115 : Nat))), (@OfNat.ofNat UInt8 (115 : Nat) (@UInt8.instOfNat (115 : Nat)))] : List (UInt8))))) fun (v1 : ((Arr Int 16) × Int)) =>
 Option.bind (@GetElem?.getElem? (List Int) Nat Int (fun (as2 : (List Int)) => (fun (i3 : Nat) => (@LT.lt Nat @instLTNat i3 (List.length as2)))) (@List.instGetElem?NatLtLength Int) v1.1.l (Int.toNat (0 : Int))) fun (v2 : Int) =>
 bif (decide (v2 = (68 : Int))) then
  Option.bind (@GetElem?.getElem? (List Int) Nat Int (fun (as3 : (List Int)) => (fun (i4 : Nat) => (@LT.lt Nat @instLTNat i4 (List.length as3)))) (@List.instGetElem?NatLtLength Int) v1.1.l (Int.toNat (1 : Int))) fun (v3 : Int) =>
  bif (@cond Bool @Bool.true (decide (v3 = (235 : Int))) @Bool.false) then
   Option.bind (@GetElem?.getElem? (List Int) Nat Int (fun (as4 : (List Int)) => (fun (i5 : Nat) => (@LT.lt Nat @instLTNat i5 (List.length as4)))) (@List.instGetElem?NatLtLength Int) v1.1.l (Int.toNat (15 : Int))) fun (v4 : Int) =>
   bif (@cond Bool @Bool.true (decide (v4 = (174 : Int))) @Bool.false) then
    bif (@cond Bool @Bool.true (decide (v1.2 = (0 : Int))) @Bool.false) then
     Option.bind (@nthash_Twice N v1.1) fun (v5 : (Arr Int 16)) =>
     Option.bind (getI v5.l (0 : Int)) fun (v6 : Int) =>
     some ((@cond Bool @Bool.true (decide (v6 = (65 : Int))) @Bool.false))
    else
     some (@Bool.false)
   else
    some (@Bool.false)
  else
   some (@Bool.false)
 else
  some (@Bool.false)
theorem law10_alive_S (N : Nat) : (runK Go.Proofs.Tryd.prog (Ev93 N) 400 8 [] [.bool] ()).run = law10_alive N  := by kernel_rfl
theorem law10_alive_C (N : Nat) (y : Bool) (h : law10_alive N  = some y) : CallsK Go.Proofs.Tryd.prog 8 (valA [] ()) (tupV (valR [.bool] y)) := runK_ok hmx (Ev93_ok N _) (okFn_ok (by kernel_rfl)) (by rw [law10_alive_S]; exact h)
noncomputable def Ev94 (N : Nat) : (R : Type) → Env R := Env.addFn (Ev93 N) 8 (fun R => fnK [] [.bool] (fun c => law10_alive N ))
theorem Ev94_ok (N : Nat) (R : Type) : EnvOK Go.Proofs.Tryd.prog (Ev94 N R) := EnvOK.addFn hmx (Ev93_ok N R) (Ev93_ok N _) (by kernel_rfl) (fun c => law10_alive_S N )
noncomputable def Ev95 (N : Nat) : (R : Type) → Env R := Env.addBx (Ev94 N) [(3, 0)]
theorem Ev95_ok (N : Nat) (R : Type) : EnvOK Go.Proofs.Tryd.prog (Ev95 N R) := EnvOK.addBx (Ev94_ok N R) [(3, 0)]
noncomputable def law10_NthashOf (N : Nat) (password0 : List UInt8) (h1 : Arr (Int) 16) : Option (Bool) :=
 bif (decide ((600 : Int) < (((List.length password0) : Nat) : Int))) then
  Option.bind (@law10_alive N) fun (v3 : Bool) =>
  some (v3)
 else
  Option.bind (@nthash_Of N password0) fun (v3 : ((Arr Int 16) × Int)) =>
  Option.bind (@ref10_Of N password0) fun (v4 : ((Arr Int 16) × Int)) =>
  bif ((@wfB (@Td.arr (16 : Nat) (@Td.int @Go.IntKind.u8)) v3.1) && (@wfB (@Td.arr (16 : Nat) (@Td.int @Go.IntKind.u8)) v4.1)) then
   bif (@Decidable.decide (@Eq (Arr Int 16) v3.1 v4.1) (@decT (@Td.arr (16 : Nat) (@Td.int @Go.IntKind.u8)) v3.1 v4.1)) then
    bif (@cond Bool @Bool.true (decide (v3.2 = v4.2)) @Bool.false) then
     Option.bind (@nthash_Twice N h1) fun (v5 : (Arr Int 16)) =>
     Option.bind (@ref10_Twice N h1) fun (v6 : (Arr Int 16)) =>
     bif ((@wfB (@Td.arr (16 : Nat) (@Td.int @Go.IntKind.u8)) v5) && (@wfB (@Td.arr (16 : Nat) (@Td.int @Go.IntKind.u8)) v6)) then
      bif (@cond Bool @Bool.true (@Decidable.decide (@Eq (Arr Int 16) v5 v6) (@decT (@Td.arr (16 : Nat) (@Td.int @Go.IntKind.u8)) v5 v6)) @Bool.false) then
       Option.bind (@law10_alive N) fun (v7 : Bool) =>
       some ((@cond Bool @Bool.true v7 @Bool.false))
      else
       some (@Bool.false)
     else
      none
    else
     some (@Bool.false)
   else
    some (@Bool.false)
  else
   none
theorem law10_NthashOf_S (N : Nat) (password0 : List UInt8) (h1 : Arr (Int) 16) : (runK Go.Proofs.Tryd.prog (Ev95 N) 400 3 [.str, (.arr 16 (.int .u8))] [.bool] (password0, h1, ())).run = law10_NthashOf N password0 h1 := by kernel_rfl
theorem law10_NthashOf_C (N : Nat) (password0 : List UInt8) (h1 : Arr (Int) 16) (y : Bool) (h : law10_NthashOf N password0 h1 = some y) : CallsK Go.Proofs.Tryd.prog 3 (valA [.str, (.arr 16 (.int .u8))] (password0, h1, ())) (tupV (valR [.bool] y)) := runK_ok hmx (Ev95_ok N _) (okFn_ok (by kernel_rfl)) (by rw [law10_NthashOf_S]; exact h)
noncomputable def Ev96 (N : Nat) : (R : Type) → Env R := Env.addFn (Ev95 N) 3 (fun R => fnK [.str, (.arr 16 (.int .u8))] [.bool] (fun c => law10_NthashOf N c.1 c.2.1))
theorem Ev96_ok (N : Nat) (R : Type) : EnvOK Go.Proofs.Tryd.prog (Ev96 N R) := EnvOK.addFn hmx (Ev95_ok N R) (Ev95_ok N _) (by kernel_rfl) (fun c => law10_NthashOf_S N c.1 c.2.1)
noncomputable def Ev97 (N : Nat) : (R : Type) → Env R := Env.addBx (Ev96 N) [(4, 0)]
theorem Ev97_ok (N : Nat) (R : Type) : EnvOK Go.Proofs.Tryd.prog (Ev97 N R) := EnvOK.addBx (Ev96_ok N R) [(4, 0)]
noncomputable def law10_NthashThirds_L4_I : LI := ⟨46, 0, [(4, 5)], ⟨[(1, .adr (.arr 16 (.int .u8))), (3, .lit (.box 0 0)), (4, .lit (.own 1)), (11, .ty (.arr 3 (.arr 7 (.int .u8)))), (12, .ty (.int .i64))], [.box 33 (.arr 21 (.int .u8)), .own (.int .u8) 5]⟩, [(.ret, ⟨[(2, .ty .bool)], []⟩), (.exit 0, ⟨[(1, .adr (.arr 16 (.int .u8))), (3, .lit (.box 0 0)), (4, .lit (.own 1))], [.box 33 (.arr 21 (.int .u8)), .own (.int .u8) 5]⟩)]⟩
noncomputable def law10_NthashThirds_L4 (N : Nat) (X : (((Arr (Int) 16) × ((Arr (Arr (Int) 7) 3) × ((Int) × Unit))) × ((Arr (Int) 21) × ((List (Int)) × Unit))) → Option (((((Bool) × Unit) × Unit) ⊕ (((Arr (Int) 16) × Unit) × ((Arr (Int) 21) × ((List (Int)) × Unit)))))) (h1 : Arr (Int) 16) (x11 : Arr (Arr (Int) 7) 3) (x12 : Int) (h0 : Arr (Int) 21) (hh1 : List (Int)) : Option (((((Bool) × Unit) × Unit) ⊕ (((Arr (Int) 16) × Unit) × ((Arr (Int) 21) × ((List (Int)) × Unit))))) :=
 bif (decide (x12 < (3 : Int))) then
  Option.bind (getI x11.l x12) fun (v7 : (Arr Int 7)) =>
  Option.bind (@ref10_Third N h1 x12) fun (v8 : (List Int)) =>
  Option.bind (@ref01_Same N v7.l v8) fun (v9 : Bool) =>
  bif (!v9) then
   some ((.inl ((@Bool.false, @Unit.unit), @Unit.unit)))
  else
   bif (roomB ((List.length hh1) + (List.length v7.l)) 1) then
    (X ((h1, (x11, ((Go.IntKind.wrap .i64 (x12 + (1 : Int))), @Unit.unit))), (h0, ((hh1 ++ v7.l), @Unit.unit))))
   else
    none
 else
  some ((.inr ((h1, @Unit.unit), (h0, (hh1, @Unit.unit)))))
noncomputable def law10_NthashThirds_L4_R (N : Nat) (c : (((Arr (Int) 16) × ((Arr (Arr (Int) 7) 3) × ((Int) × Unit))) × ((Arr (Int) 21) × ((List (Int)) × Unit)))) : Option (((((Bool) × Unit) × Unit) ⊕ (((Arr (Int) 16) × Unit) × ((Arr (Int) 21) × ((List (Int)) × Unit))))) := gl (fun X c => law10_NthashThirds_L4 N X c.1.1 c.1.2.1 c.1.2.2.1 c.2.1 c.2.2.1) N c
theorem law10_NthashThirds_L4_S (N : Nat) (X : (((Arr (Int) 16) × ((Arr (Arr (Int) 7) 3) × ((Int) × Unit))) × ((Arr (Int) 21) × ((List (Int)) × Unit))) → Option (((((Bool) × Unit) × Unit) ⊕ (((Arr (Int) 16) × Unit) × ((Arr (Int) 21) × ((List (Int)) × Unit)))))) (h1 : Arr (Int) 16) (x11 : Arr (Arr (Int) 7) 3) (x12 : Int) (h0 : Arr (Int) 21) (hh1 : List (Int)) : (roundK Go.Proofs.Tryd.prog (Ev97 N) 400 [4] law10_NthashThirds_L4_I (loopAt Go.Proofs.Tryd.prog [4] 4) X ((h1, x11, x12, ()), (h0, hh1, ()))).run = law10_NthashThirds_L4 N X h1 x11 x12 h0 hh1 := by kernel_rfl
noncomputable def Ev98 (N : Nat) : (R : Type) → Env R := Env.addLp (Ev97 N) [4] 0 4 (fun R => lpK Go.Proofs.Tryd.prog law10_NthashThirds_L4_I (fun X c => law10_NthashThirds_L4 N X c.1.1 c.1.2.1 c.1.2.2.1 c.2.1 c.2.2.1) N)
theorem Ev98_ok (N : Nat) (R : Type) : EnvOK Go.Proofs.Tryd.prog (Ev98 N R) := EnvOK.addLp (Ev97_ok N R) (by kernel_rfl) (lpK_ok (li := law10_NthashThirds_L4_I) (G := fun X c => law10_NthashThirds_L4 N X c.1.1 c.1.2.1 c.1.2.2.1 c.2.1 c.2.2.1) hmx (Ev97_ok N _) (by kernel_rfl) loopAt_sub (fun (X : CT law10_NthashThirds_L4_I.sh → Option (OT law10_NthashThirds_L4_I.outs)) (c : CT law10_NthashThirds_L4_I.sh) => law10_NthashThirds_L4_S N X c.1.1 c.1.2.1 c.1.2.2.1 c.2.1 c.2.2.1) N)
noncomputable def law10_NthashThirds (N : Nat) (h0 : Arr (Int) 16) : Option (Bool) :=
 Option.bind (@nthash_Thirds N h0) fun (v2 : (Arr (Arr Int 7) 3)) =>
 Option.bind (law10_NthashThirds_L4_R N ((h0, (v2, ((0 : Int), @Unit.unit))), ((@Arr.over Int (21 : Nat) (@Arr.cons Int (20 : Nat) (0 : Int) (@Arr.cons Int (19 : Nat) (0 : Int) (@Arr.cons Int (18 : Nat) (0 : Int) (@Arr.cons Int (17 : Nat) (0 : Int) (@Arr.cons Int (16 : Nat) (0 : Int) (@Arr.cons Int (15 : Nat) (0 : Int) (@Arr.cons Int (14 : Nat) (0 : Int) (@Arr.cons Int (13 : Nat) (0 : Int) (@Arr.cons Int (12 : Nat) (0 : Int) (@Arr.cons Int (11 : Nat) (0 : Int) (@Arr.cons Int (10 : Nat) (0 : Int) (@Arr.cons Int (9 : Nat) (0 : Int) (@Arr.cons Int (8 : Nat) (0 : Int) (@Arr.cons Int (7 : Nat) (0 : Int) (@Arr.cons Int (6 : Nat) (0 : Int) (@Arr.cons Int (5 : Nat) (0 : Int) (@Arr.cons Int (4 : Nat) (0 : Int) (@Arr.cons Int (3 : Nat) (0 : Int) (@Arr.cons Int (2 : Nat) (0 : Int) (@Arr.cons Int (1 : Nat) (0 : Int) (@Arr.cons Int (0 : Nat) (0 : Int) (@Arr.nil Int)))))))))))))))))))))) h0.l), (([] : List (Int)), @Unit.unit)))) fun (v3 : (((Bool × Unit) × Unit) ⊕ (((Arr Int 16) × Unit) × ((Arr Int 21) × ((List Int) × Unit))))) =>
 Sum.elim
  (fun (v4 : ((Bool × Unit) × Unit)) =>
  some (v4.1.1))
  (fun (v4 : (((Arr Int 16) × Unit) × ((Arr Int 21) × ((List Int) × Unit)))) =>
  Option.bind (@ref01_Same N v4.2.2.1 v4.2.1.l) fun (v5 : Bool) =>
  bif v5 then
   Option.bind (takeI v4.2.2.1 (16 : Int)) fun (v6 : (List Int)) =>
   Option.bind (@ref01_Same N v6 v4.1.1.l) fun (v7 : Bool) =>
   bif (@cond Bool @Bool.true v7 @Bool.false) then
    Option.bind (@law10_alive N) fun (v8 : Bool) =>
    some ((@cond Bool @Bool.true v8 @Bool.false))
   else
    some (@Bool.false)
  else
   some (@Bool.false)) v3
theorem law10_NthashThirds_S (N : Nat) (h0 : Arr (Int) 16) : (runK Go.Proofs.Tryd.prog (Ev98 N) 400 4 [(.arr 16 (.int .u8))] [.bool] (h0, ())).run = law10_NthashThirds N h0 := by kernel_rfl
theorem law10_NthashThirds_C (N : Nat) (h0 : Arr (Int) 16) (y : Bool) (h : law10_NthashThirds N h0 = some y) : CallsK Go.Proofs.Tryd.prog 4 (valA [(.arr 16 (.int .u8))] (h0, ())) (tupV (valR [.bool] y)) := runK_ok hmx (Ev98_ok N _) (okFn_ok (by kernel_rfl)) (by rw [law10_NthashThirds_S]; exact h)
noncomputable def Ev99 (N : Nat) : (R : Type) → Env R := Env.addFn (Ev98 N) 4 (fun R => fnK [(.arr 16 (.int .u8))] [.bool] (fun c => law10_NthashThirds N c.1))
theorem Ev99_ok (N : Nat) (R : Type) : EnvOK Go.Proofs.Tryd.prog (Ev99 N R) := EnvOK.addFn hmx (Ev98_ok N R) (Ev98_ok N _) (by kernel_rfl) (fun c => law10_NthashThirds_S N c.1)
end Go.Proofs.YtdkklfegpjlklaaDoor
/-
  Layer 4, on plain data: it is alive.
-/
namespace Go.Proofs.YtdkklfegpjlklaaDoor
set_option maxRecDepth 100000
set_option maxRecDepth 100000
theorem consts04 : md4_constants 200000 = some (Arr.cons 0 (Arr.cons 1518500249 (Arr.cons 1859775393 Arr.nil))) := by kernel_rfl
end Go.Proofs.YtdkklfegpjlklaaDoor
/-
  Layer 4, on plain data: words.
-/
namespace Go.Proofs.YtdkklfegpjlklaaDoor
set_option maxRecDepth 100000
open Go.RowKit
set_option linter.unusedVariables false
set_option linter.unusedSimpArgs false
set_option maxRecDepth 100000

def AllW (l : List Int) : Prop := ∀ x ∈ l, 0 ≤ x ∧ x < 4294967296
theorem AllW.get {l : List Int} (h : AllW l) (i : Nat) (hi : i < l.length) : 0 ≤ l[i] ∧ l[i] < 4294967296 := h _ (List.getElem_mem hi)
theorem AllW.set {l : List Int} (h : AllW l) (i : Nat) {x : Int} (hx : 0 ≤ x ∧ x < 4294967296) : AllW (l.set i x) := fun y hy => by
  rcases List.mem_or_eq_of_mem_set hy with h1 | rfl
  · exact h y h1
  · exact hx
theorem wf_u32 {n : Int} (h : (Lit.int .u32 n).wf = true) : 0 ≤ n ∧ n < 4294967296 := by
  simp only [Lit.wf, Bool.and_eq_true, decide_eq_true_eq, IntKind.min, IntKind.max, IntKind.signed, IntKind.bits] at h
  simp at h
  omega
theorem wfu32 {n : Int} (h : 0 ≤ n ∧ n < 4294967296) : (Lit.int .u32 n).wf = true := by
  simp only [Lit.wf, Bool.and_eq_true, decide_eq_true_eq, IntKind.min, IntKind.max, IntKind.signed, IntKind.bits]
  simp
  omega
theorem wfB_w {n : Nat} (a : Arr Int n) (h : AllW a.l) : wfB (.arr n (.int .u32)) a = true := List.all_eq_true.2 fun x hx => wfu32 (h x hx)
theorem w32 (x : Int) : Go.IntKind.wrap .u32 x = x % 4294967296 := IntKind.wrap_u32 x
theorem w32r (x : Int) : 0 ≤ Go.IntKind.wrap .u32 x ∧ Go.IntKind.wrap .u32 x < 4294967296 := by rw [w32]; omega
theorem or32r (a b : Int) : 0 ≤ bits .or .u32 a b ∧ bits .or .u32 a b < 4294967296 := w32r _
theorem not32 (b : Int) (h : 0 ≤ b ∧ b < 4294967296) : bits .xor .u32 (if IntKind.signed .u32 = true then (-1) else IntKind.max .u32) b = Go.IntKind.wrap .u32 (4294967295 - b) := by
  obtain ⟨x, rfl⟩ := Int.eq_ofNat_of_zero_le h.1
  show IntKind.u32.wrap ((BitVec.ofInt 32 4294967295 ^^^ BitVec.ofInt 32 (x : Int)).toNat : Int) = _
  have e1 : (BitVec.ofInt 32 4294967295 : BitVec 32) = BitVec.allOnes 32 := by decide
  rw [e1, BitVec.allOnes_xor, BitVec.toNat_not, BitVec.ofInt_natCast, BitVec.toNat_ofNat, w32, w32]
  have : x % 2 ^ 32 = x := Nat.mod_eq_of_lt (by omega)
  rw [this]
  omega
theorem drop4 (l : List Int) (i : Nat) (h : i + 4 ≤ l.length) : (l.drop i).take (i + 4 - i) = [l[i], l[i + 1], l[i + 2], l[i + 3]] := by
  rw [show i + 4 - i = 4 by omega, List.drop_eq_getElem_cons (by omega), List.drop_eq_getElem_cons (by omega), List.drop_eq_getElem_cons (by omega), List.drop_eq_getElem_cons (by omega)]
  rfl
section
variable {N : Nat}
theorem get4l (u z y x : Int) (hx : 0 ≤ x ∧ x < 256) (hy : 0 ≤ y ∧ y < 256) (hz : 0 ≤ z ∧ z < 256) (hu : 0 ≤ u ∧ u < 256) (hN : 100 ≤ N) : octs_Get N [u, z, y, x] true = some (((x * 256 + y) * 256 + z) * 256 + u, 0) := by
  show qOGet N [u, z, y, x] true = _
  obtain ⟨M, rfl⟩ : ∃ M, N = M + 5 := ⟨N - 5, by omega⟩
  have w3 : Go.IntKind.wrap .i64 ((0 : Int) + 1) = 1 := by decide
  have w4 : Go.IntKind.wrap .i64 ((1 : Int) + 1) = 2 := by decide
  have w5 : Go.IntKind.wrap .i64 ((2 : Int) + 1) = 3 := by decide
  have w6 : Go.IntKind.wrap .i64 ((3 : Int) + 1) = 4 := by decide
  have m0 : Go.IntKind.wrap .i64 ((8 : Int) * 0) = 0 := by decide
  have m1 : Go.IntKind.wrap .i64 ((8 : Int) * 1) = 8 := by decide
  have m2 : Go.IntKind.wrap .i64 ((8 : Int) * 2) = 16 := by decide
  have m3 : Go.IntKind.wrap .i64 ((8 : Int) * 3) = 24 := by decide
  have x1 : Go.IntKind.wrap .u64 x = x := wrapU64 (by omega) (by omega)
  have y1 : Go.IntKind.wrap .u64 y = y := wrapU64 (by omega) (by omega)
  have z1 : Go.IntKind.wrap .u64 z = z := wrapU64 (by omega) (by omega)
  have u1 : Go.IntKind.wrap .u64 u = u := wrapU64 (by omega) (by omega)
  have e0 : (2 : Int) ^ min (Int.toNat 0) (IntKind.bits IntKind.u64) = 1 := by decide
  have e1 : (2 : Int) ^ min (Int.toNat 8) (IntKind.bits IntKind.u64) = 256 := by decide
  have e2 : (2 : Int) ^ min (Int.toNat 16) (IntKind.bits IntKind.u64) = 65536 := by decide
  have e3 : (2 : Int) ^ min (Int.toNat 24) (IntKind.bits IntKind.u64) = 16777216 := by decide
  have u2 : Go.IntKind.wrap .u64 (u * 1) = u := by rw [Int.mul_one]; exact u1
  have z2 : Go.IntKind.wrap .u64 (z * 256) = z * 256 := wrapU64 (by omega) (by omega)
  have y2 : Go.IntKind.wrap .u64 (y * 65536) = y * 65536 := wrapU64 (by omega) (by omega)
  have x2 : Go.IntKind.wrap .u64 (x * 16777216) = x * 16777216 := wrapU64 (by omega) (by omega)
  have o1 : bits .or .u64 0 u = u := by
    have := or_at 0 u 0 (by decide) (by decide) (by decide) (by omega) (by simp; omega)
    simpa using this
  have o2 : bits .or .u64 u (z * 256) = z * 256 + u := or_at u z 8 (by omega) (by show u.toNat < 256; omega) (by omega) (by omega) (by show z.toNat * 256 < _; omega)
  have o3 : bits .or .u64 (z * 256 + u) (y * 65536) = y * 65536 + (z * 256 + u) := or_at (z * 256 + u) y 16 (by omega) (by show (z * 256 + u).toNat < 65536; omega) (by omega) (by omega) (by show y.toNat * 65536 < _; omega)
  have o4 : bits .or .u64 (y * 65536 + (z * 256 + u)) (x * 16777216) = x * 16777216 + (y * 65536 + (z * 256 + u)) := or_at (y * 65536 + (z * 256 + u)) x 24 (by omega) (by show (y * 65536 + (z * 256 + u)).toNat < 16777216; omega) (by omega) (by omega) (by show x.toNat * 16777216 < _; omega)
  have fin : x * 16777216 + (y * 65536 + (z * 256 + u)) = ((x * 256 + y) * 256 + z) * 256 + u := by omega
  have g0 : getI [u, z, y, x] (0 : Int) = some u := rfl
  have g1 : getI [u, z, y, x] (1 : Int) = some z := rfl
  have g2 : getI [u, z, y, x] (2 : Int) = some y := rfl
  have g3 : getI [u, z, y, x] (3 : Int) = some x := rfl
  have l4 : (([u, z, y, x] : List Int).length : Int) = 4 := rfl
  rw [← fin]
  simp only [qOGet, qOGetL5R, gl, qOGetL5, qOplace, l4, cond_false, cond_true, Option.bind_some, w3, w4, w5, w6, m0, m1, m2, m3, x1, y1, z1, u1, e0, e1, e2, e3, u2, z2, y2, x2, o1, o2, o3, o4, g0, g1, g2, g3]
  simp [w3, w4, w5, w6, m1, m2, m3, x1, y1, z1, u1, e1, e2, e3, z2, y2, x2, o2, o3, o4, g0, g1, g2, g3]
/-- A word of a row of bytes. -/
def lew (l : List Int) (j : Nat) : Int := ((l.getD (4 * j + 3) 0 * 256 + l.getD (4 * j + 2) 0) * 256 + l.getD (4 * j + 1) 0) * 256 + l.getD (4 * j) 0
theorem AllB.getD {l : List Int} (h : AllB l) (i : Nat) : 0 ≤ l.getD i 0 ∧ l.getD i 0 < 256 := by
  rw [List.getD_eq_getElem?_getD]
  cases hq : l[i]? with
  | none => simp
  | some x => exact h x (List.mem_of_getElem? hq)
theorem lew_W {l : List Int} (h : AllB l) (j : Nat) : 0 ≤ lew l j ∧ lew l j < 4294967296 := by
  have h0 := h.getD (4 * j); have h1 := h.getD (4 * j + 1); have h2 := h.getD (4 * j + 2); have h3 := h.getD (4 * j + 3)
  unfold lew; omega
theorem getD_at {l : List Int} {i : Nat} (h : i < l.length) : l.getD i 0 = l[i] := by simp [List.getD_eq_getElem?_getD, h]
theorem words_loop (hN : 10000 ≤ N) (b : Arr Int 64) (hb : AllB b.l) (h0 : Arr Int 16) : ∀ (k M i : Nat) (h1 : Arr Int 16), k + i = 16 → k < M → (∀ j, j < i → h1.l[j]? = some (lew b.l j)) →
    ∃ h2 : Arr Int 16, (∀ j, j < 16 → h2.l[j]? = some (lew b.l j)) ∧ gl (fun X c => md4_words_L3 N X c.1.1 c.1.2.1 c.2.1 c.2.2.1) M ((b, ((i : Int), ())), (h0, (h1, ()))) = some ((), (h0, (h2, ())))
  | 0, M + 1, i, h1, hk, hM, hw => by
    have c1 : ¬ ((i : Int) < 16) := by omega
    refine ⟨h1, fun j hj => hw j (by omega), ?_⟩
    simp only [gl, md4_words_L3, c1, decide_false, cond_false]
  | k + 1, M + 1, i, h1, hk, hM, hw => by
    have hl := h1.h
    have hbl := b.h
    have c1 : ((i : Int) < 16) := by omega
    have c2 : (0 : Int) ≤ (i : Int) ∧ (i : Int) < ((16 : Nat) : Int) := by omega
    have e0 : Go.IntKind.wrap .i64 ((i : Int) + 1) = ((i + 1 : Nat) : Int) := by rw [wrap64 (by omega) (by omega)]; omega
    have e1 : Int.toNat (i : Int) = i := Int.toNat_natCast i
    have g1 : h1.l[i]? = some (h1.l[i]'(by omega)) := List.getElem?_eq_getElem _
    have s1 : Go.IntKind.wrap .i64 ((4 : Int) * (i : Int)) = ((4 * i : Nat) : Int) := by rw [wrap64 (by omega) (by omega)]; omega
    have s2 : Go.IntKind.wrap .i64 (((4 * i : Nat) : Int) + 4) = ((4 * i + 4 : Nat) : Int) := by rw [wrap64 (by omega) (by omega)]; omega
    have s6 : subI b.l ((4 * i : Nat) : Int) ((4 * i + 4 : Nat) : Int) = some [b.l[4 * i]'(by omega), b.l[4 * i + 1]'(by omega), b.l[4 * i + 2]'(by omega), b.l[4 * i + 3]'(by omega)] := by
      rw [subI_nat b.l rfl rfl (by omega) (by omega), drop4 b.l (4 * i) (by omega)]
    have ba := hb.get (4 * i) (by omega)
    have bb := hb.get (4 * i + 1) (by omega)
    have bc := hb.get (4 * i + 2) (by omega)
    have bd := hb.get (4 * i + 3) (by omega)
    have s7 := get4l (N := N) _ _ _ _ bd bc bb ba (by omega)
    have hlw : lew b.l i = ((b.l[4 * i + 3]'(by omega) * 256 + b.l[4 * i + 2]'(by omega)) * 256 + b.l[4 * i + 1]'(by omega)) * 256 + b.l[4 * i]'(by omega) := by
      unfold lew
      rw [getD_at (by omega), getD_at (by omega), getD_at (by omega), getD_at (by omega)]
    rw [← hlw] at s7
    have v1 : Go.IntKind.wrap .u32 (lew b.l i) = lew b.l i := by have := lew_W hb i; rw [w32]; omega
    obtain ⟨h2, r1, r2⟩ := words_loop hN b hb h0 k M (i + 1) (h1.set i (lew b.l i)) (by omega) (by omega) (fun j hj => by
      show (h1.l.set i (lew b.l i))[j]? = _
      by_cases hji : j = i
      · subst hji; rw [List.getElem?_set_self (by omega)]
      · rw [List.getElem?_set_ne (by omega)]; exact hw j (by omega))
    refine ⟨h2, r1, ?_⟩
    rw [gl_succ]
    simp only [md4_words_L3, c1, decide_true, cond_true, s1, s2, s6, Option.bind_some, s7, c2, and_self, e1, g1, e0, v1]
    exact r2
theorem words_ok (hN : 10000 ≤ N) (b : Arr Int 64) (hb : AllB b.l) : ∃ W : Arr Int 16, (∀ j, j < 16 → W.l[j]? = some (lew b.l j)) ∧ md4_words N b = some W := by
  obtain ⟨W, h1, h2⟩ := words_loop hN b hb ⟨List.replicate 16 0, rfl⟩ 16 N 0 ⟨List.replicate 16 0, rfl⟩ (by omega) (by omega) (fun j hj => by omega)
  refine ⟨W, h1, ?_⟩
  have h2' : md4_words_L3_R N ((b, ((0 : Int), ())), ((⟨List.replicate 16 0, rfl⟩ : Arr Int 16), ((⟨List.replicate 16 0, rfl⟩ : Arr Int 16), ()))) = some ((), ((⟨List.replicate 16 0, rfl⟩ : Arr Int 16), (W, ()))) := h2
  unfold md4_words
  refine (congrArg (fun o => Option.bind o _) h2').trans ?_
  rfl
end
/-- Turned by as many bits as a step asks for. -/
theorem rot_pair (N : Nat) (x k : Int) (hk : k = 3 ∨ k = 5 ∨ k = 7 ∨ k = 9 ∨ k = 11 ∨ k = 13 ∨ k = 15 ∨ k = 19) : ∃ r, 0 ≤ r ∧ r < 4294967296 ∧ math_bits_RotateLeft32 N x k = some r ∧ ref04_turn N x k = some r := by
  rcases hk with rfl | rfl | rfl | rfl | rfl | rfl | rfl | rfl
  · exact ⟨bits .or .u32 (Go.IntKind.wrap .u32 (x * 8)) (Int.fdiv x 536870912), (or32r _ _).1, (or32r _ _).2, by kernel_rfl, by kernel_rfl⟩
  · exact ⟨bits .or .u32 (Go.IntKind.wrap .u32 (x * 32)) (Int.fdiv x 134217728), (or32r _ _).1, (or32r _ _).2, by kernel_rfl, by kernel_rfl⟩
  · exact ⟨bits .or .u32 (Go.IntKind.wrap .u32 (x * 128)) (Int.fdiv x 33554432), (or32r _ _).1, (or32r _ _).2, by kernel_rfl, by kernel_rfl⟩
  · exact ⟨bits .or .u32 (Go.IntKind.wrap .u32 (x * 512)) (Int.fdiv x 8388608), (or32r _ _).1, (or32r _ _).2, by kernel_rfl, by kernel_rfl⟩
  · exact ⟨bits .or .u32 (Go.IntKind.wrap .u32 (x * 2048)) (Int.fdiv x 2097152), (or32r _ _).1, (or32r _ _).2, by kernel_rfl, by kernel_rfl⟩
  · exact ⟨bits .or .u32 (Go.IntKind.wrap .u32 (x * 8192)) (Int.fdiv x 524288), (or32r _ _).1, (or32r _ _).2, by kernel_rfl, by kernel_rfl⟩
  · exact ⟨bits .or .u32 (Go.IntKind.wrap .u32 (x * 32768)) (Int.fdiv x 131072), (or32r _ _).1, (or32r _ _).2, by kernel_rfl, by kernel_rfl⟩
  · exact ⟨bits .or .u32 (Go.IntKind.wrap .u32 (x * 524288)) (Int.fdiv x 8192), (or32r _ _).1, (or32r _ _).2, by kernel_rfl, by kernel_rfl⟩
end Go.Proofs.YtdkklfegpjlklaaDoor
/-
  Layer 4, on plain data: blocks are the document's.
-/
namespace Go.Proofs.YtdkklfegpjlklaaDoor
set_option maxRecDepth 100000
open Go.RowKit
set_option linter.unusedVariables false
set_option linter.unusedSimpArgs false
set_option maxRecDepth 100000

def ks04 : Arr Int 3 := Arr.cons 0 (Arr.cons 1518500249 (Arr.cons 1859775393 Arr.nil))
def ta04 : List (Arr Int 4) := [⟨[3, 7, 11, 19], rfl⟩, ⟨[3, 5, 9, 13], rfl⟩, ⟨[3, 9, 11, 15], rfl⟩]
def tl04 : List (List Int) := [[3, 7, 11, 19], [3, 5, 9, 13], [3, 9, 11, 15]]
section
variable {N : Nat}
theorem div16 (i : Nat) (hi : i < 48) : Go.IntKind.wrap .i64 (Int.tdiv (i : Int) 16) = ((i / 16 : Nat) : Int) := by
  rw [Int.tdiv_eq_ediv_of_nonneg (by omega), wrap64 (by omega) (by omega)]; omega
theorem mix_pair (q : Nat) (hq : q < 3) (b c d : Int) (hb : 0 ≤ b ∧ b < 4294967296) : ∃ m k, md4_mixed N (q : Int) b c d = some m ∧ getI ks04.l (q : Int) = some k ∧ ref04_step N (q : Int) b c d = some (Go.IntKind.wrap .u32 (m + k)) := by
  have hq : q = 0 ∨ q = 1 ∨ q = 2 := by omega
  unfold md4_mixed ref04_step
  rcases hq with rfl | rfl | rfl
  · refine ⟨_, 0, rfl, rfl, ?_⟩
    rw [not32 b hb]
    have h := or32r (bits .and .u32 b c) (bits .and .u32 (Go.IntKind.wrap .u32 (4294967295 - b)) d)
    show some _ = _
    congr 1
    generalize bits .or .u32 (bits .and .u32 b c) (bits .and .u32 (Go.IntKind.wrap .u32 (4294967295 - b)) d) = z at *
    rw [w32]; omega
  · exact ⟨_, 1518500249, rfl, rfl, rfl⟩
  · exact ⟨_, 1859775393, rfl, rfl, rfl⟩
theorem place_all : ((List.range 48).all fun i => match md4_place 0 (i : Int), ref04_place 0 (i : Int) with | some a, some b => decide (a = b) && decide (0 ≤ a) && decide (a < 16) | _, _ => false) = true := by decide +kernel
theorem place_pair (i : Nat) (hi : i < 48) : ∃ j : Nat, j < 16 ∧ md4_place N (i : Int) = some (j : Int) ∧ ref04_place N (i : Int) = some (j : Int) := by
  have h := List.all_eq_true.1 place_all i (List.mem_range.2 hi)
  show ∃ j : Nat, j < 16 ∧ md4_place 0 (i : Int) = some (j : Int) ∧ ref04_place 0 (i : Int) = some (j : Int)
  revert h
  generalize md4_place 0 (i : Int) = x
  generalize ref04_place 0 (i : Int) = y
  intro h
  split at h
  · rename_i a b
    simp only [Bool.and_eq_true, decide_eq_true_eq] at h
    obtain ⟨⟨rfl, h1⟩, h2⟩ := h
    exact ⟨a.toNat, by omega, by rw [Int.toNat_of_nonneg h1], by rw [Int.toNat_of_nonneg h1]⟩
  · cases h
theorem turns_pair (i : Nat) (hi : i < 48) : ∃ (a : Arr Int 4) (l : List Int) (k : Int), getI ta04 ((i / 16 : Nat) : Int) = some a ∧ getI a.l (Int.tmod (i : Int) 4) = some k ∧ getI tl04 ((i / 16 : Nat) : Int) = some l ∧ getI l (Int.tmod (i : Int) 4) = some k ∧
    (k = 3 ∨ k = 5 ∨ k = 7 ∨ k = 9 ∨ k = 11 ∨ k = 13 ∨ k = 15 ∨ k = 19) := by
  have e : Int.tmod (i : Int) 4 = ((i % 4 : Nat) : Int) := by rw [Int.tmod_eq_emod_of_nonneg (by omega)]; omega
  rw [e]
  have hq : i / 16 = 0 ∨ i / 16 = 1 ∨ i / 16 = 2 := by omega
  have hr : i % 4 = 0 ∨ i % 4 = 1 ∨ i % 4 = 2 ∨ i % 4 = 3 := by omega
  rcases hq with hq | hq | hq <;> rcases hr with hr | hr | hr | hr <;> rw [hq, hr] <;> exact ⟨_, _, _, rfl, rfl, rfl, rfl, by decide⟩
theorem steps_pair (hN : 10000 ≤ N) (blk : Arr Int 64) (hB : AllB blk.l) (W : Arr Int 16) (hW : ∀ j, j < 16 → W.l[j]? = some (lew blk.l j)) (s : Arr Int 4) (h0 h0' : Arr Int 4) : ∀ (k M i : Nat) (t : Arr Int 4), k + i = 48 → k < M → AllW t.l →
    ∃ t2 : Arr Int 4, AllW t2.l ∧ gl (fun X c => md4_behind_L4 N X c.1.1 c.1.2.1 c.1.2.2.1 c.2.1 c.2.2.1 c.2.2.2.1) M ((s, (ks04, ((i : Int), ()))), (h0, (W, (t, ())))) = some ((s, ()), (h0, (t2, ()))) ∧
      gl (fun X c => ref04_Block_L4 N X c.1.1 c.1.2.1 c.1.2.2.1 c.1.2.2.2.1 c.2.1 c.2.2.1) M ((s, (blk, (tl04, ((i : Int), ())))), (h0', (t, ()))) = some ((s, ()), (h0', (t2, ())))
  | 0, M + 1, i, t, hk, hM, hw => by
    have c1 : ¬ ((i : Int) < 48) := by omega
    refine ⟨t, hw, ?_, ?_⟩
    · simp only [gl, md4_behind_L4, c1, decide_false, cond_false]
    · simp only [gl, ref04_Block_L4, c1, decide_false, cond_false]
  | k + 1, M + 1, i, t, hk, hM, hw => by
    have hbl := blk.h
    have c1 : ((i : Int) < 48) := by omega
    have e0 : Go.IntKind.wrap .i64 ((i : Int) + 1) = ((i + 1 : Nat) : Int) := by rw [wrap64 (by omega) (by omega)]; omega
    have dq := div16 i (by omega)
    obtain ⟨j, j1, j2, j3⟩ := place_pair (N := N) i (by omega)
    obtain ⟨ar, lr, kk, k1, k2, k3, k4, k5⟩ := turns_pair i (by omega)
    have c2 : (0 : Int) ≤ (j : Int) ∧ (j : Int) < ((16 : Nat) : Int) := by omega
    have e1 : Int.toNat (j : Int) = j := Int.toNat_natCast j
    have g1 := hW j j1
    have s1 : Go.IntKind.wrap .i64 ((4 : Int) * (j : Int)) = ((4 * j : Nat) : Int) := by rw [wrap64 (by omega) (by omega)]; omega
    have s3 : Go.IntKind.wrap .i64 (((4 * j : Nat) : Int) + 1) = ((4 * j + 1 : Nat) : Int) := by rw [wrap64 (by omega) (by omega)]; omega
    have s4 : Go.IntKind.wrap .i64 (((4 * j : Nat) : Int) + 2) = ((4 * j + 2 : Nat) : Int) := by rw [wrap64 (by omega) (by omega)]; omega
    have s5 : Go.IntKind.wrap .i64 (((4 * j : Nat) : Int) + 3) = ((4 * j + 3 : Nat) : Int) := by rw [wrap64 (by omega) (by omega)]; omega
    have ba := hB.get (4 * j) (by omega)
    have bb := hB.get (4 * j + 1) (by omega)
    have bc := hB.get (4 * j + 2) (by omega)
    have bd := hB.get (4 * j + 3) (by omega)
    have G0 := getI_lt blk.l (4 * j) (by omega)
    have G1 := getI_lt blk.l (4 * j + 1) (by omega)
    have G2 := getI_lt blk.l (4 * j + 2) (by omega)
    have G3 := getI_lt blk.l (4 * j + 3) (by omega)
    have hlw : lew blk.l j = ((blk.l[4 * j + 3]'(by omega) * 256 + blk.l[4 * j + 2]'(by omega)) * 256 + blk.l[4 * j + 1]'(by omega)) * 256 + blk.l[4 * j]'(by omega) := by
      unfold lew
      rw [getD_at (by omega), getD_at (by omega), getD_at (by omega), getD_at (by omega)]
    generalize lew blk.l j = wj at *
    generalize hx : blk.l[4 * j]'(by omega) = x at *
    generalize hy : blk.l[4 * j + 1]'(by omega) = y at *
    generalize hz : blk.l[4 * j + 2]'(by omega) = z at *
    generalize hu : blk.l[4 * j + 3]'(by omega) = u at *
    have v2 : Go.IntKind.wrap .u32 (Go.IntKind.wrap .u32 (Go.IntKind.wrap .u32 (Go.IntKind.wrap .u32 x + Go.IntKind.wrap .u32 (Go.IntKind.wrap .u32 y * 256)) + Go.IntKind.wrap .u32 (Go.IntKind.wrap .u32 z * 65536)) + Go.IntKind.wrap .u32 (Go.IntKind.wrap .u32 u * 16777216)) = wj := by
      simp only [w32]; omega
    match t, hw with
    | ⟨[a, b, c, d], ht⟩, hw =>
      have ra := hw a (by simp)
      have rb := hw b (by simp)
      have rc := hw c (by simp)
      have rd := hw d (by simp)
      obtain ⟨m, kc, m1, m2, m3⟩ := mix_pair (N := N) (i / 16) (by omega) b c d rb
      have z0 : ([a, b, c, d] : List Int)[Int.toNat 0]? = some a := rfl
      have z1 : ([a, b, c, d] : List Int)[Int.toNat 1]? = some b := rfl
      have z2 : ([a, b, c, d] : List Int)[Int.toNat 2]? = some c := rfl
      have z3 : ([a, b, c, d] : List Int)[Int.toNat 3]? = some d := rfl
      have x1 : Go.IntKind.wrap .u32 (Go.IntKind.wrap .u32 (a + Go.IntKind.wrap .u32 (m + kc)) + wj) = Go.IntKind.wrap .u32 (Go.IntKind.wrap .u32 (Go.IntKind.wrap .u32 (a + m) + wj) + kc) := by
        simp only [w32]; omega
      obtain ⟨r, r1, r2, r3, r4⟩ := rot_pair N (Go.IntKind.wrap .u32 (Go.IntKind.wrap .u32 (Go.IntKind.wrap .u32 (a + m) + wj) + kc)) kk k5
      obtain ⟨t2, q1, q2, q3⟩ := steps_pair hN blk hB W hW s h0 h0' k M (i + 1) (Arr.cons d (Arr.cons r (Arr.cons b (Arr.cons c Arr.nil)))) (by omega) (by omega) (fun x hx => by
        simp only [Arr.cons, Arr.nil, List.mem_cons, List.not_mem_nil, or_false] at hx
        rcases hx with rfl | rfl | rfl | rfl
        · exact rd
        · exact ⟨r1, r2⟩
        · exact rb
        · exact rc)
      refine ⟨t2, q1, ?_, ?_⟩
      · rw [gl_succ]
        unfold ta04 at k1
        simp only [md4_behind_L4, c1, decide_true, cond_true, z0, z1, z2, z3, Option.bind_some, dq, m1, j2, c2, and_self, e1, g1, m2, k1, k2, r3, e0]
        exact q2
      · rw [gl_succ]
        simp only [ref04_Block_L4, c1, decide_true, cond_true, z0, z1, z2, z3, Option.bind_some, dq, j3, s1, s3, s4, s5, G0, G1, G2, G3, m3, k3, k4, v2, x1, r4, e0]
        exact q3
theorem add_pair (hN : 10000 ≤ N) (s h0 : Arr Int 4) (hs : AllW s.l) : ∀ (k M i : Nat) (t : Arr Int 4), k + i = 4 → k < M → AllW t.l →
    ∃ t2 : Arr Int 4, AllW t2.l ∧ gl (fun X c => md4_behind_L11 N X c.1.1 c.1.2.1 c.2.1 c.2.2.1) M ((s, ((i : Int), ())), (h0, (t, ()))) = some ((), (h0, (t2, ()))) ∧ (gl (fun X c => ref04_Block_L11 N X c.1.1 c.1.2.1 c.2.1 c.2.2.1) M ((s, ((i : Int), ())), (h0, (t, ()))) = some ((), (h0, (t2, ()))))
  | 0, M + 1, i, t, hk, hM, hw => by
    have c1 : ¬ ((i : Int) < 4) := by omega
    refine ⟨t, hw, ?_, ?_⟩
    · simp only [gl, md4_behind_L11, c1, decide_false, cond_false]
    · simp only [gl, ref04_Block_L11, c1, decide_false, cond_false]
  | k + 1, M + 1, i, t, hk, hM, hw => by
    have hl := t.h
    have hsl := s.h
    have c1 : ((i : Int) < 4) := by omega
    have c2 : (0 : Int) ≤ (i : Int) ∧ (i : Int) < ((4 : Nat) : Int) := by omega
    have e0 : Go.IntKind.wrap .i64 ((i : Int) + 1) = ((i + 1 : Nat) : Int) := by rw [wrap64 (by omega) (by omega)]; omega
    have e1 : Int.toNat (i : Int) = i := Int.toNat_natCast i
    have g1 : t.l[i]? = some (t.l[i]'(by omega)) := List.getElem?_eq_getElem _
    have g2 := getI_lt s.l i (by omega)
    obtain ⟨t2, r1, r2, r3⟩ := add_pair hN s h0 hs k M (i + 1) (t.set i (Go.IntKind.wrap .u32 (t.l[i]'(by omega) + s.l[i]'(by omega)))) (by omega) (by omega) (hw.set i (w32r _))
    refine ⟨t2, r1, ?_, ?_⟩
    · rw [gl_succ]
      simp only [md4_behind_L11, c1, decide_true, cond_true, c2, and_self, e1, g1, g2, e0, Option.bind_some]
      exact r2
    · rw [gl_succ]
      simp only [ref04_Block_L11, c1, decide_true, cond_true, c2, and_self, e1, g1, g2, e0, Option.bind_some]
      exact r3
/-- The state behind a block: the same. -/
theorem behind_pair (hN : 10000 ≤ N) (s : Arr Int 4) (b : Arr Int 64) (hs : AllW s.l) (hb : AllB b.l) : ∃ t : Arr Int 4, AllW t.l ∧ md4_behind N s b ks04 = some t ∧ ref04_Block N s b = some t := by
  unfold md4_behind ref04_Block
  obtain ⟨W, w1, w2⟩ := words_ok (N := N) hN b hb
  obtain ⟨t, t1, t2, t3⟩ := steps_pair (N := N) hN b hb W w1 s ⟨List.replicate 4 0, rfl⟩ ⟨List.replicate 4 0, rfl⟩ 48 N 0 s (by omega) (by omega) hs
  have t2' : md4_behind_L4_R N ((s, (ks04, ((0 : Int), ()))), ((⟨List.replicate 4 0, rfl⟩ : Arr Int 4), (W, (s, ())))) = some ((s, ()), ((⟨List.replicate 4 0, rfl⟩ : Arr Int 4), (t, ()))) := t2
  have t3' : ref04_Block_L4_R N ((s, (b, (tl04, ((0 : Int), ())))), ((⟨List.replicate 4 0, rfl⟩ : Arr Int 4), (s, ()))) = some ((s, ()), ((⟨List.replicate 4 0, rfl⟩ : Arr Int 4), (t, ()))) := t3
  obtain ⟨u, u1, u2, u3⟩ := add_pair (N := N) hN s ⟨List.replicate 4 0, rfl⟩ hs 4 N 0 t (by omega) (by omega) t1
  have u2' : md4_behind_L11_R N ((s, ((0 : Int), ())), ((⟨List.replicate 4 0, rfl⟩ : Arr Int 4), (t, ()))) = some ((), ((⟨List.replicate 4 0, rfl⟩ : Arr Int 4), (u, ()))) := u2
  have u3' : ref04_Block_L11_R N ((s, ((0 : Int), ())), ((⟨List.replicate 4 0, rfl⟩ : Arr Int 4), (t, ()))) = some ((), ((⟨List.replicate 4 0, rfl⟩ : Arr Int 4), (u, ()))) := u3
  refine ⟨u, u1, ?_, ?_⟩
  · rw [w2, Option.bind_some]
    refine (congrArg (fun o => Option.bind o _) t2').trans ?_
    simp only [Option.bind_some]
    refine (congrArg (fun o => Option.bind o _) u2').trans ?_
    rfl
  · refine (congrArg (fun o => Option.bind o _) t3').trans ?_
    simp only [Option.bind_some]
    refine (congrArg (fun o => Option.bind o _) u3').trans ?_
    rfl
end
end Go.Proofs.YtdkklfegpjlklaaDoor
/-
  Layer 4, on plain data: what is put behind.
-/
namespace Go.Proofs.YtdkklfegpjlklaaDoor
set_option maxRecDepth 100000
open Go.RowKit
set_option linter.unusedVariables false
set_option linter.unusedSimpArgs false
set_option maxRecDepth 100000

/-- Eight bytes, the lowest first. -/
def le8 (n : Int) : List Int := [n % 256, n / 256 % 256, n / 65536 % 256, n / 16777216 % 256, n / 4294967296 % 256, n / 1099511627776 % 256, n / 281474976710656 % 256, n / 72057594037927936 % 256]
theorem le8_B (n : Int) : AllB (le8 n) := fun x hx => by
  simp only [le8, List.mem_cons, List.not_mem_nil, or_false] at hx
  rcases hx with rfl | rfl | rfl | rfl | rfl | rfl | rfl | rfl <;> omega
section
variable {N : Nat}
theorem put8 (n : Int) (h : 0 ≤ n ∧ n < 18446744073709551616) (hN : 100 ≤ N) : octs_Put N n 8 true = some (le8 n, 0) := by
  obtain ⟨M, rfl⟩ : ∃ M, N = M + 9 := ⟨N - 9, by omega⟩
  have r1 : roomB (Int.toNat 8) 1 = true := by decide
  have r2 : List.replicate (Int.toNat 8) (0 : Int) = [0, 0, 0, 0, 0, 0, 0, 0] := rfl
  have w1 : Go.IntKind.wrap .i64 ((8 : Int) - 1) = 7 := by decide
  have v0 : Go.IntKind.wrap .i64 ((7 : Int) - 0) = 7 := by decide
  have v1 : Go.IntKind.wrap .i64 ((7 : Int) - 1) = 6 := by decide
  have v2 : Go.IntKind.wrap .i64 ((7 : Int) - 2) = 5 := by decide
  have v3 : Go.IntKind.wrap .i64 ((7 : Int) - 3) = 4 := by decide
  have v4 : Go.IntKind.wrap .i64 ((7 : Int) - 4) = 3 := by decide
  have v5 : Go.IntKind.wrap .i64 ((7 : Int) - 5) = 2 := by decide
  have v6 : Go.IntKind.wrap .i64 ((7 : Int) - 6) = 1 := by decide
  have v7 : Go.IntKind.wrap .i64 ((7 : Int) - 7) = 0 := by decide
  have w3 : Go.IntKind.wrap .i64 ((0 : Int) + 1) = 1 := by decide
  have w4 : Go.IntKind.wrap .i64 ((1 : Int) + 1) = 2 := by decide
  have w5 : Go.IntKind.wrap .i64 ((2 : Int) + 1) = 3 := by decide
  have w6 : Go.IntKind.wrap .i64 ((3 : Int) + 1) = 4 := by decide
  have w7 : Go.IntKind.wrap .i64 ((4 : Int) + 1) = 5 := by decide
  have w8 : Go.IntKind.wrap .i64 ((5 : Int) + 1) = 6 := by decide
  have w9 : Go.IntKind.wrap .i64 ((6 : Int) + 1) = 7 := by decide
  have w10 : Go.IntKind.wrap .i64 ((7 : Int) + 1) = 8 := by decide
  have e1 : (2 : Int) ^ min (Int.toNat 8) (IntKind.bits IntKind.u64) = 256 := by decide
  have fd : ∀ x : Int, Int.fdiv x 256 = x / 256 := fun x => Int.fdiv_eq_ediv_of_nonneg _ (by decide)
  have d2 : n / 256 / 256 = n / 65536 := by omega
  have d3 : n / 65536 / 256 = n / 16777216 := by omega
  have d4 : n / 16777216 / 256 = n / 4294967296 := by omega
  have d5 : n / 4294967296 / 256 = n / 1099511627776 := by omega
  have d6 : n / 1099511627776 / 256 = n / 281474976710656 := by omega
  have d7 : n / 281474976710656 / 256 = n / 72057594037927936 := by omega
  have u8 : ∀ x : Int, Go.IntKind.wrap .u8 x = x % 256 := fun x => by rw [IntKind.wrap_u8]
  simp only [octs_Put, octs_Put_L5_R, gl, octs_Put_L5, octs_place, r1, r2, e1, cond_false, cond_true, Option.bind_some, w1, v0, v1, v2, v3, v4, v5, v6, v7, w3, w4, w5, w6, w7, w8, w9, w10]
  simp [w1, v0, v1, v2, v3, v4, v5, v6, v7, w3, w4, w5, w6, w7, w8, w9, w10, fd, d2, d3, d4, d5, d6, d7, u8, le8]
/-- So many noughts. -/
def nz (n : Int) : Nat := ((119 - n % 64) % 64).toNat
/-- What is put behind. -/
def tail4 (n : Int) : List Int := [128] ++ List.replicate (nz n) 0 ++ le8 (8 * n % 18446744073709551616)
theorem nz_lt (n : Int) : nz n < 64 := by unfold nz; omega
theorem tail4_len (n : Int) : (tail4 n).length = nz n + 9 := by simp [tail4, le8]
theorem tail4_B (n : Int) : AllB (tail4 n) := by
  refine AllB.append (AllB.append (AllB.cons (by omega) AllB.nil) fun x hx => ?_) (le8_B _)
  rw [(List.mem_replicate.1 hx).2]; omega
theorem md4_tail_ok (n : Int) (h : 0 ≤ n ∧ n < 18446744073709551616) (hN : 10000 ≤ N) : md4_Tail N n = some (tail4 n) := by
  unfold md4_Tail
  have hw : Go.IntKind.wrap .u64 ((8 : Int) * n) = 8 * n % 18446744073709551616 := by rw [IntKind.wrap_u64]
  have hz : Int.tmod (Go.IntKind.wrap .u64 ((119 : Int) - Int.tmod n 64)) 64 = ((nz n : Nat) : Int) := by
    have hm : Int.tmod n 64 = n % 64 := Int.tmod_eq_emod_of_nonneg h.1
    rw [hm, wrapU64 (by omega) (by omega), Int.tmod_eq_emod_of_nonneg (by omega)]
    unfold nz
    omega
  have hl := nz_lt n
  have c1 : ((decide ((0 : Int) ≤ ((nz n : Nat) : Int) ∧ ((nz n : Nat) : Int) ≤ ((nz n : Nat) : Int))) && roomB (nz n) 1) = true := by
    have : roomB (nz n) 1 = true := roomB_of (by have := big_len; omega) (by omega)
    simp [this]
  rw [hw, put8 _ (by omega) (by omega), hz]
  simp only [Option.bind_some, c1, cond_true, Int.toNat_natCast]
  refine (join_ok (N := N) [[128], List.replicate (nz n) 0, le8 (8 * n % 18446744073709551616)] (by simp) ?_ ?_).trans ?_
  all_goals first | omega | skip
  · simp [le8]; omega
  · simp [tail4]
theorem zeros_ok (n : Int) (h : 0 ≤ n ∧ n < 18446744073709551616) : ∀ (k M : Nat) (l : List Int), k < M → l.length + k < 1000 → (n + l.length + k) % 64 = 56 → k < 64 →
    gl (fun X c => ref04_Tail_L2 N X c.1.1 c.2.1) M ((n, ()), (l, ())) = some ((n, ()), (l ++ List.replicate k 0, ()))
  | 0, M + 1, l, hM, hl, hk, _ => by
    have e : Int.tmod (Go.IntKind.wrap .u64 (n + Go.IntKind.wrap .u64 (l.length : Int))) 64 = 56 := by
      rw [wrapU64 (x := (l.length : Int)) (by omega) (by omega), IntKind.wrap_u64, Int.tmod_eq_emod_of_nonneg (by omega)]; omega
    rw [gl_succ]
    simp only [ref04_Tail_L2, e, decide_true, Bool.not_true, cond_false, List.replicate_zero, List.append_nil]
  | k + 1, M + 1, l, hM, hl, hk, h64 => by
    have e : ¬ Int.tmod (Go.IntKind.wrap .u64 (n + Go.IntKind.wrap .u64 (l.length : Int))) 64 = 56 := by
      rw [wrapU64 (x := (l.length : Int)) (by omega) (by omega), IntKind.wrap_u64, Int.tmod_eq_emod_of_nonneg (by omega)]; omega
    have r : roomB (l.length + ([(0 : Int)] : List Int).length) 1 = true := roomB_of (by have := big_len; simp; omega) (by simp; omega)
    rw [gl_succ]
    simp only [ref04_Tail_L2, e, decide_false, Bool.not_false, cond_true, r]
    refine (zeros_ok n h k M (l ++ [0]) (by omega) (by simp; omega) (by simp; omega) (by omega)).trans ?_
    rw [List.replicate_succ, List.append_assoc]; rfl
theorem ref04_tail_ok (n : Int) (h : 0 ≤ n ∧ n < 18446744073709551616) (hN : 10000 ≤ N) : ref04_Tail N n = some ([128] ++ List.replicate (nz n) 0 ++ le8 (8 * n % 18446744073709551616)) := by
  unfold ref04_Tail
  have hl := nz_lt n
  have hz := zeros_ok (N := N) n h (nz n) N [128] (by omega) (by simp; omega) (by unfold nz; simp; omega) hl
  refine (congrArg (fun o => Option.bind o _) hz).trans ?_
  simp only [Option.bind_some]
  have hw : Go.IntKind.wrap .u64 ((8 : Int) * n) = 8 * n % 18446744073709551616 := by rw [IntKind.wrap_u64]
  rw [hw]
  have hb : 0 ≤ 8 * n % 18446744073709551616 ∧ 8 * n % 18446744073709551616 < 18446744073709551616 := by omega
  generalize 8 * n % 18446744073709551616 = m at *
  have hpl : ([128] ++ List.replicate (nz n) (0 : Int)).length = nz n + 1 := by simp
  generalize [128] ++ List.replicate (nz n) (0 : Int) = p at *
  obtain ⟨M, rfl⟩ : ∃ M, N = M + 9 := ⟨N - 9, by omega⟩
  have dv : ∀ x : Int, 0 ≤ x → x < 18446744073709551616 → Go.IntKind.wrap .u64 (Int.tdiv x 256) = x / 256 := fun x h1 h2 => by
    rw [Int.tdiv_eq_ediv_of_nonneg h1, wrapU64 (by omega) (by omega)]
  have md : ∀ x : Int, 0 ≤ x → Go.IntKind.wrap .u8 (Int.tmod x 256) = x % 256 := fun x h1 => by
    rw [Int.tmod_eq_emod_of_nonneg h1, wrapU8 (by omega) (by omega)]
  have st : ∀ (K : Nat) (x : Int) (i : Nat) (q : List Int), i < 8 → 0 ≤ x → x < 18446744073709551616 → q.length < 1000 → gl (fun X c => ref04_Tail_L6 (M + 9) X c.1.1 c.1.2.1 c.2.1) (K + 1) ((x, ((i : Int), ())), (q, ())) = gl (fun X c => ref04_Tail_L6 (M + 9) X c.1.1 c.1.2.1 c.2.1) K ((x / 256, (((i + 1 : Nat) : Int), ())), (q ++ [x % 256], ())) := fun K x i q hi h1 h2 hq => by
    have c1 : ((i : Int) < 8) := by omega
    have e0 : Go.IntKind.wrap .i64 ((i : Int) + 1) = ((i + 1 : Nat) : Int) := by rw [wrap64 (by omega) (by omega)]; omega
    have r : ∀ y : Int, roomB (q.length + ([y] : List Int).length) 1 = true := fun y => roomB_of (by have := big_len; simp; omega) (by simp; omega)
    rw [gl_succ]
    simp only [ref04_Tail_L6, c1, decide_true, cond_true, md x h1, r, dv x h1 h2, e0]
  have fin : ∀ (K : Nat) (x : Int) (q : List Int), gl (fun X c => ref04_Tail_L6 (M + 9) X c.1.1 c.1.2.1 c.2.1) (K + 1) ((x, (((8 : Nat) : Int), ())), (q, ())) = some ((), (q, ())) := fun K x q => by
    rw [gl_succ]
    rfl
  have all : ref04_Tail_L6_R (M + 9) ((m, ((0 : Int), ())), (p, ())) = some ((), (p ++ le8 m, ())) := by
    refine (st (M + 8) m 0 p (by omega) hb.1 hb.2 (by omega)).trans ?_
    refine (st (M + 7) _ 1 _ (by omega) (by omega) (by omega) (by simp; omega)).trans ?_
    refine (st (M + 6) _ 2 _ (by omega) (by omega) (by omega) (by simp; omega)).trans ?_
    refine (st (M + 5) _ 3 _ (by omega) (by omega) (by omega) (by simp; omega)).trans ?_
    refine (st (M + 4) _ 4 _ (by omega) (by omega) (by omega) (by simp; omega)).trans ?_
    refine (st (M + 3) _ 5 _ (by omega) (by omega) (by omega) (by simp; omega)).trans ?_
    refine (st (M + 2) _ 6 _ (by omega) (by omega) (by omega) (by simp; omega)).trans ?_
    refine (st (M + 1) _ 7 _ (by omega) (by omega) (by omega) (by simp; omega)).trans ?_
    refine (fin M _ _).trans ?_
    have d2 : m / 256 / 256 = m / 65536 := by omega
    have d3 : m / 65536 / 256 = m / 16777216 := by omega
    have d4 : m / 16777216 / 256 = m / 4294967296 := by omega
    have d5 : m / 4294967296 / 256 = m / 1099511627776 := by omega
    have d6 : m / 1099511627776 / 256 = m / 281474976710656 := by omega
    have d7 : m / 281474976710656 / 256 = m / 72057594037927936 := by omega
    simp only [d2, d3, d4, d5, d6, d7, List.append_assoc, List.cons_append, List.nil_append, le8]
  refine (congrArg (fun o => Option.bind o _) all).trans ?_
  rfl
theorem ref04_tail_ok' (n : Int) (h : 0 ≤ n ∧ n < 18446744073709551616) (hN : 10000 ≤ N) : ref04_Tail N n = some (tail4 n) := ref04_tail_ok n h hN
theorem same04 (a b : List Int) (h : a.length ≤ 50000) (hN : 100000 < N) : ref01_Same N a b = some (decide (a = b)) := sameF_ok (by omega) (by omega)
end
end Go.Proofs.YtdkklfegpjlklaaDoor
/-
  Layer 4, on plain data: digests.
-/
namespace Go.Proofs.YtdkklfegpjlklaaDoor
set_option maxRecDepth 100000
open Go.RowKit
set_option linter.unusedVariables false
set_option linter.unusedSimpArgs false
set_option maxRecDepth 100000

/-- The state behind so many blocks of bytes. -/
noncomputable def runS (t : Arr Int 4) (l : List Int) : Nat → Arr Int 4
  | 0 => t
  | m + 1 => runS ((do let a ← toArr 64 (l.take 64); md4_behind 200000 t a ks04).getD t) (l.drop 64) m
theorem flat_len (m : List (List Int)) (k : Nat) (h : ∀ p ∈ m, p.length ≤ k) : m.flatten.length ≤ k * m.length := by
  induction m with
  | nil => simp
  | cons p m ih =>
    have h1 := h p List.mem_cons_self
    have h2 := ih fun q hq => h q (List.mem_cons_of_mem _ hq)
    rw [List.flatten_cons, List.length_append, List.length_cons, Nat.mul_add]
    omega
section
variable {N : Nat}
theorem joinS (l : List (List Int)) (h0 : Arr Int 16) (hl : l.length ≤ 1000) (hs : ∀ p ∈ l, p.length ≤ 100000) (hN : 2000 ≤ N) :
    md4_Of_1_octs_Join_L3_R N ((l, ((0 : Int), (l, ((l.length : Int), ((0 : Int), ()))))), (h0, ())) = some ((l, ((l.flatten.length : Int), ())), (h0, ())) ∧
    md4_Of_1_octs_Join_L9_R N ((l, ((l.length : Int), ((0 : Int), ()))), (h0, (([] : List Int), ()))) = some ((), (h0, (l.flatten, ()))) := by
  have tk : ∀ i, (l.take i).flatten.length ≤ 100000000 := fun i => by
    have := flat_len (l.take i) 100000 fun p hp => hs p (List.mem_of_mem_take hp)
    rw [List.length_take] at this
    omega
  have hsn : ∀ i (hi : i < l.length), (l.take (i + 1)).flatten = (l.take i).flatten ++ l[i] := fun i hi => by
    have : l.take (i + 1) = l.take i ++ [l[i]] := by rw [List.take_add_one, List.getElem?_eq_getElem hi]; rfl
    rw [this, List.flatten_append]
    simp
  have h1 := gl_run (G := fun (X : ((List (List Int) × Int × List (List Int) × Int × Int × Unit) × Arr Int 16 × Unit) → Option ((List (List Int) × Int × Unit) × Arr Int 16 × Unit)) c => md4_Of_1_octs_Join_L3 N X c.1.1 c.1.2.1 c.1.2.2.1 c.1.2.2.2.1 c.1.2.2.2.2.1 c.2.1)
    (fun i => ((l, (((l.take i).flatten.length : Int), (l, ((l.length : Int), ((i : Int), ()))))), (h0, ()))) l.length ((l, ((l.flatten.length : Int), ())), (h0, ())) (fun X i hi => by
    have c1 : ((i : Int) < (l.length : Int)) := by omega
    have c2 : Go.IntKind.wrap .i64 ((i : Int) + 1) = ((i + 1 : Nat) : Int) := by rw [wrap64 (by omega) (by omega)]; omega
    have hp := hs _ (List.getElem_mem hi)
    have ht := tk i
    have c3 : Go.IntKind.wrap .i64 (((l.take i).flatten.length : Int) + (l[i].length : Int)) = (((l.take (i + 1)).flatten.length : Nat) : Int) := by rw [wrap64 (by omega) (by omega), hsn i hi, List.length_append]; omega
    simp only [md4_Of_1_octs_Join_L3, c1, decide_true, cond_true, getI_lt l i hi, Option.bind_some, c3, c2]) (fun X => by
    simp [md4_Of_1_octs_Join_L3]) N 0 (by omega) (by omega)
  have h2 := gl_run (G := fun (X : ((List (List Int) × Int × Int × Unit) × Arr Int 16 × List Int × Unit) → Option (Unit × Arr Int 16 × List Int × Unit)) c => md4_Of_1_octs_Join_L9 N X c.1.1 c.1.2.1 c.1.2.2.1 c.2.1 c.2.2.1)
    (fun i => ((l, ((l.length : Int), ((i : Int), ()))), (h0, ((l.take i).flatten, ())))) l.length ((), (h0, (l.flatten, ()))) (fun X i hi => by
    have c1 : ((i : Int) < (l.length : Int)) := by omega
    have c2 : Go.IntKind.wrap .i64 ((i : Int) + 1) = ((i + 1 : Nat) : Int) := by rw [wrap64 (by omega) (by omega)]; omega
    have hp := hs _ (List.getElem_mem hi)
    have ht := tk i
    have c3 : roomB ((l.take i).flatten.length + l[i].length) 1 = true := roomB_of (by have := big_len; omega) (by omega)
    simp only [md4_Of_1_octs_Join_L9, c1, decide_true, cond_true, getI_lt l i hi, Option.bind_some, c3, c2, hsn i hi]) (fun X => by
    simp [md4_Of_1_octs_Join_L9]) N 0 (by omega) (by omega)
  simp only [Int.natCast_zero, List.take_zero, List.flatten_nil, List.length_nil] at h1 h2
  exact ⟨h1, h2⟩
/-- The digest of a state. -/
theorem put4l (n : Int) (h : 0 ≤ n ∧ n < 4294967296) (hN : 100 ≤ N) : octs_Put N (Go.IntKind.wrap .u64 n) 4 true = some ([n % 256, n / 256 % 256, n / 65536 % 256, n / 16777216 % 256], 0) := by
  rw [wrapU64 (by omega) (by omega)]
  show qOPut N n 4 true = _
  obtain ⟨M, rfl⟩ : ∃ M, N = M + 5 := ⟨N - 5, by omega⟩
  have r1 : roomB (Int.toNat 4) 1 = true := by decide
  have r2 : List.replicate (Int.toNat 4) (0 : Int) = [0, 0, 0, 0] := rfl
  have w3 : Go.IntKind.wrap .i64 ((0 : Int) + 1) = 1 := by decide
  have w4 : Go.IntKind.wrap .i64 ((1 : Int) + 1) = 2 := by decide
  have w5 : Go.IntKind.wrap .i64 ((2 : Int) + 1) = 3 := by decide
  have w6 : Go.IntKind.wrap .i64 ((3 : Int) + 1) = 4 := by decide
  have e1 : (2 : Int) ^ min (Int.toNat 8) (IntKind.bits IntKind.u64) = 256 := by decide
  have d1 : Int.fdiv n 256 = n / 256 := Int.fdiv_eq_ediv_of_nonneg n (by decide)
  have d2 : Int.fdiv (n / 256) 256 = n / 65536 := by rw [Int.fdiv_eq_ediv_of_nonneg _ (by decide)]; omega
  have d3 : Int.fdiv (n / 65536) 256 = n / 16777216 := by rw [Int.fdiv_eq_ediv_of_nonneg _ (by decide)]; omega
  have w7 : Go.IntKind.wrap .u8 n = n % 256 := by rw [IntKind.wrap_u8]
  have w8 : Go.IntKind.wrap .u8 (n / 256) = n / 256 % 256 := by rw [IntKind.wrap_u8]
  have w9 : Go.IntKind.wrap .u8 (n / 65536) = n / 65536 % 256 := by rw [IntKind.wrap_u8]
  have w10 : Go.IntKind.wrap .u8 (n / 16777216) = n / 16777216 % 256 := by rw [IntKind.wrap_u8]
  simp only [qOPut, qOPutL5R, gl, qOPutL5, qOplace, r1, r2, e1, cond_false, cond_true, Option.bind_some, w3, w4, w5, w6]
  simp [w3, w4, w5, w6, d1, d2, d3, w7, w8, w9, w10]
def by4 (n : Int) : List Int := [n % 256, n / 256 % 256, n / 65536 % 256, n / 16777216 % 256]
theorem by4_B (n : Int) : AllB (by4 n) := fun x hx => by
  simp only [by4, List.mem_cons, List.not_mem_nil, or_false] at hx
  rcases hx with rfl | rfl | rfl | rfl <;> omega
theorem digest_ok (a b c d : Int) (ht : ([a, b, c, d] : List Int).length = 4) (ha : AllW [a, b, c, d]) (hN : 10000 ≤ N) : ∃ D : Arr Int 16, D.l = by4 a ++ by4 b ++ by4 c ++ by4 d ∧ md4_digest N ⟨[a, b, c, d], ht⟩ = some D := by
  obtain ⟨M, rfl⟩ : ∃ M, N = M + 6 := ⟨N - 6, by omega⟩
  have pa := put4l (N := M + 6) a (ha a (by simp)) (by omega)
  have pb := put4l (N := M + 6) b (ha b (by simp)) (by omega)
  have pc := put4l (N := M + 6) c (ha c (by simp)) (by omega)
  have pd := put4l (N := M + 6) d (ha d (by simp)) (by omega)
  have w3 : Go.IntKind.wrap .i64 ((0 : Int) + 1) = 1 := by decide
  have w4 : Go.IntKind.wrap .i64 ((1 : Int) + 1) = 2 := by decide
  have w5 : Go.IntKind.wrap .i64 ((2 : Int) + 1) = 3 := by decide
  have w6 : Go.IntKind.wrap .i64 ((3 : Int) + 1) = 4 := by decide
  have z0 : getI ([a, b, c, d] : List Int) 0 = some a := rfl
  have z1 : getI ([a, b, c, d] : List Int) 1 = some b := rfl
  have z2 : getI ([a, b, c, d] : List Int) 2 = some c := rfl
  have z3 : getI ([a, b, c, d] : List Int) 3 = some d := rfl
  have l0 : (decide ((0 : Int) < 4)) = true := rfl
  have l1 : (decide ((1 : Int) < 4)) = true := rfl
  have l2 : (decide ((2 : Int) < 4)) = true := rfl
  have l3 : (decide ((3 : Int) < 4)) = true := rfl
  have rm : ∀ (p : List Int) (u v x y : Int), p.length < 100 → roomB (p.length + ([u, v, x, y] : List Int).length) 1 = true := fun p u v x y hp => roomB_of (by have := big_len; simp; omega) (by simp; omega)
  have step : ∀ (K : Nat) (i j : Int) (n : Int) (p : List Int) (h0 : Arr Int 16), decide (i < 4) = true → getI ([a, b, c, d] : List Int) i = some n → octs_Put (M + 6) (Go.IntKind.wrap .u64 n) 4 true = some (by4 n, 0) → Go.IntKind.wrap .i64 (i + 1) = j → p.length < 100 →
      gl (fun X c => md4_digest_L3 (M + 6) X c.1.1 c.1.2.1 c.2.1 c.2.2.1) (K + 1) (((⟨[a, b, c, d], ht⟩ : Arr Int 4), (i, ())), (h0, (p, ()))) = gl (fun X c => md4_digest_L3 (M + 6) X c.1.1 c.1.2.1 c.2.1 c.2.2.1) K (((⟨[a, b, c, d], ht⟩ : Arr Int 4), (j, ())), (h0, (p ++ by4 n, ()))) := fun K i j n p h0 q1 q2 q3 q4 q5 => by
    rw [gl_succ]
    have r := rm p (n % 256) (n / 256 % 256) (n / 65536 % 256) (n / 16777216 % 256) q5
    have r : roomB (p.length + (by4 n).length) 1 = true := r
    simp only [md4_digest_L3, q1, cond_true, q2, Option.bind_some, q3, r, q4]
  have fin : ∀ (K : Nat) (p : List Int) (h0 : Arr Int 16), gl (fun X c => md4_digest_L3 (M + 6) X c.1.1 c.1.2.1 c.2.1 c.2.2.1) (K + 1) (((⟨[a, b, c, d], ht⟩ : Arr Int 4), ((4 : Int), ())), (h0, (p, ()))) = some ((), (h0, (p, ()))) := fun K p h0 => by
    rw [gl_succ]; rfl
  have all : ∀ h0 : Arr Int 16, md4_digest_L3_R (M + 6) (((⟨[a, b, c, d], ht⟩ : Arr Int 4), ((0 : Int), ())), (h0, (([] : List Int), ()))) = some ((), (h0, (by4 a ++ by4 b ++ by4 c ++ by4 d, ()))) := fun h0 => by
    refine (step (M + 5) 0 1 a [] h0 l0 z0 pa w3 (by simp)).trans ?_
    refine (step (M + 4) 1 2 b _ h0 l1 z1 pb w4 (by simp [by4])).trans ?_
    refine (step (M + 3) 2 3 c _ h0 l2 z2 pc w5 (by simp [by4])).trans ?_
    refine (step (M + 2) 3 4 d _ h0 l3 z3 pd w6 (by simp [by4])).trans ?_
    exact fin (M + 1) _ h0
  have hl : (by4 a ++ by4 b ++ by4 c ++ by4 d).length = 16 := by simp [by4]
  unfold md4_digest
  rw [all, Option.bind_some]
  refine ⟨⟨(by4 a ++ by4 b ++ by4 c ++ by4 d).take 16, by rw [List.length_take, hl]; rfl⟩, ?_, ?_⟩
  · exact List.take_of_length_le (by omega)
  · have : toArr 16 (by4 a ++ by4 b ++ by4 c ++ by4 d) = some ⟨(by4 a ++ by4 b ++ by4 c ++ by4 d).take 16, by rw [List.length_take, hl]; rfl⟩ := dif_pos (by omega)
    simp only [this, Option.bind_some]
end
end Go.Proofs.YtdkklfegpjlklaaDoor
