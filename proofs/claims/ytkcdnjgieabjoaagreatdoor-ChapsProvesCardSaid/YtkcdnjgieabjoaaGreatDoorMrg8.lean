/-
  Parts of my own, one behind the other: Pe, GCpA.
-/
import Derived.Test.YtkcdnjgieabjoaaGreatDoorMrg6
import Derived.Test.YtkcdnjgieabjoaaGreatDoorMrg7
namespace Go.Proofs.YtkcdnjgieabjoaaGreatDoor
open Go.RowKit
set_option linter.unusedVariables false
set_option maxRecDepth 100000
section
variable (N:Nat)
abbrev zc64:Arr Int 64:=(@Arr.cons Int 63 0 (@Arr.cons Int 62 0 (@Arr.cons Int 61 0 (@Arr.cons Int 60 0 (@Arr.cons Int 59 0 (@Arr.cons Int 58 0 (@Arr.cons Int 57 0 (@Arr.cons Int 56 0 (@Arr.cons Int 55 0 (@Arr.cons Int 54 0 (@Arr.cons Int 53 0 (@Arr.cons Int 52 0 (@Arr.cons Int 51 0 (@Arr.cons Int 50 0 (@Arr.cons Int 49 0 (@Arr.cons Int 48 0 (@Arr.cons Int 47 0 (@Arr.cons Int 46 0 (@Arr.cons Int 45 0 (@Arr.cons Int 44 0 (@Arr.cons Int 43 0 (@Arr.cons Int 42 0 (@Arr.cons Int 41 0 (@Arr.cons Int 40 0 (@Arr.cons Int 39 0 (@Arr.cons Int 38 0 (@Arr.cons Int 37 0 (@Arr.cons Int 36 0 (@Arr.cons Int 35 0 (@Arr.cons Int 34 0 (@Arr.cons Int 33 0 (@Arr.cons Int 32 0 (@Arr.cons Int 31 0 (@Arr.cons Int 30 0 (@Arr.cons Int 29 0 (@Arr.cons Int 28 0 (@Arr.cons Int 27 0 (@Arr.cons Int 26 0 (@Arr.cons Int 25 0 (@Arr.cons Int 24 0 (@Arr.cons Int 23 0 (@Arr.cons Int 22 0 (@Arr.cons Int 21 0 (@Arr.cons Int 20 0 (@Arr.cons Int 19 0 (@Arr.cons Int 18 0 (@Arr.cons Int 17 0 (@Arr.cons Int 16 0 (@Arr.cons Int 15 0 (@Arr.cons Int 14 0 (@Arr.cons Int 13 0 (@Arr.cons Int 12 0 (@Arr.cons Int 11 0 (@Arr.cons Int 10 0 (@Arr.cons Int 9 0 (@Arr.cons Int 8 0 (@Arr.cons Int 7 0 (@Arr.cons Int 6 0 (@Arr.cons Int 5 0 (@Arr.cons Int 4 0 (@Arr.cons Int 3 0 (@Arr.cons Int 2 0 (@Arr.cons Int 1 0 (@Arr.cons Int 0 0 (@Arr.nil Int)))))))))))))))))))))))))))))))))))))))))))))))))))))))))))))))))
abbrev zc32:Arr Int 32:=(@Arr.cons Int 31 0 (@Arr.cons Int 30 0 (@Arr.cons Int 29 0 (@Arr.cons Int 28 0 (@Arr.cons Int 27 0 (@Arr.cons Int 26 0 (@Arr.cons Int 25 0 (@Arr.cons Int 24 0 (@Arr.cons Int 23 0 (@Arr.cons Int 22 0 (@Arr.cons Int 21 0 (@Arr.cons Int 20 0 (@Arr.cons Int 19 0 (@Arr.cons Int 18 0 (@Arr.cons Int 17 0 (@Arr.cons Int 16 0 (@Arr.cons Int 15 0 (@Arr.cons Int 14 0 (@Arr.cons Int 13 0 (@Arr.cons Int 12 0 (@Arr.cons Int 11 0 (@Arr.cons Int 10 0 (@Arr.cons Int 9 0 (@Arr.cons Int 8 0 (@Arr.cons Int 7 0 (@Arr.cons Int 6 0 (@Arr.cons Int 5 0 (@Arr.cons Int 4 0 (@Arr.cons Int 3 0 (@Arr.cons Int 2 0 (@Arr.cons Int 1 0 (@Arr.cons Int 0 0 (@Arr.nil Int)))))))))))))))))))))))))))))))))
abbrev zc24:Arr Int 24:=(@Arr.cons Int 23 0 (@Arr.cons Int 22 0 (@Arr.cons Int 21 0 (@Arr.cons Int 20 0 (@Arr.cons Int 19 0 (@Arr.cons Int 18 0 (@Arr.cons Int 17 0 (@Arr.cons Int 16 0 (@Arr.cons Int 15 0 (@Arr.cons Int 14 0 (@Arr.cons Int 13 0 (@Arr.cons Int 12 0 (@Arr.cons Int 11 0 (@Arr.cons Int 10 0 (@Arr.cons Int 9 0 (@Arr.cons Int 8 0 (@Arr.cons Int 7 0 (@Arr.cons Int 6 0 (@Arr.cons Int 5 0 (@Arr.cons Int 4 0 (@Arr.cons Int 3 0 (@Arr.cons Int 2 0 (@Arr.cons Int 1 0 (@Arr.cons Int 0 0 (@Arr.nil Int)))))))))))))))))))))))))
abbrev zc21:Arr Int 21:=(@Arr.cons Int 20 0 (@Arr.cons Int 19 0 (@Arr.cons Int 18 0 (@Arr.cons Int 17 0 (@Arr.cons Int 16 0 (@Arr.cons Int 15 0 (@Arr.cons Int 14 0 (@Arr.cons Int 13 0 (@Arr.cons Int 12 0 (@Arr.cons Int 11 0 (@Arr.cons Int 10 0 (@Arr.cons Int 9 0 (@Arr.cons Int 8 0 (@Arr.cons Int 7 0 (@Arr.cons Int 6 0 (@Arr.cons Int 5 0 (@Arr.cons Int 4 0 (@Arr.cons Int 3 0 (@Arr.cons Int 2 0 (@Arr.cons Int 1 0 (@Arr.cons Int 0 0 (@Arr.nil Int))))))))))))))))))))))
abbrev zc20:Arr Int 20:=(@Arr.cons Int 19 0 (@Arr.cons Int 18 0 (@Arr.cons Int 17 0 (@Arr.cons Int 16 0 (@Arr.cons Int 15 0 (@Arr.cons Int 14 0 (@Arr.cons Int 13 0 (@Arr.cons Int 12 0 (@Arr.cons Int 11 0 (@Arr.cons Int 10 0 (@Arr.cons Int 9 0 (@Arr.cons Int 8 0 (@Arr.cons Int 7 0 (@Arr.cons Int 6 0 (@Arr.cons Int 5 0 (@Arr.cons Int 4 0 (@Arr.cons Int 3 0 (@Arr.cons Int 2 0 (@Arr.cons Int 1 0 (@Arr.cons Int 0 0 (@Arr.nil Int)))))))))))))))))))))
abbrev zc16:Arr Int 16:=(@Arr.cons Int 15 0 (@Arr.cons Int 14 0 (@Arr.cons Int 13 0 (@Arr.cons Int 12 0 (@Arr.cons Int 11 0 (@Arr.cons Int 10 0 (@Arr.cons Int 9 0 (@Arr.cons Int 8 0 (@Arr.cons Int 7 0 (@Arr.cons Int 6 0 (@Arr.cons Int 5 0 (@Arr.cons Int 4 0 (@Arr.cons Int 3 0 (@Arr.cons Int 2 0 (@Arr.cons Int 1 0 (@Arr.cons Int 0 0 (@Arr.nil Int)))))))))))))))))
abbrev zc15:Arr Int 15:=(@Arr.cons Int 14 0 (@Arr.cons Int 13 0 (@Arr.cons Int 12 0 (@Arr.cons Int 11 0 (@Arr.cons Int 10 0 (@Arr.cons Int 9 0 (@Arr.cons Int 8 0 (@Arr.cons Int 7 0 (@Arr.cons Int 6 0 (@Arr.cons Int 5 0 (@Arr.cons Int 4 0 (@Arr.cons Int 3 0 (@Arr.cons Int 2 0 (@Arr.cons Int 1 0 (@Arr.cons Int 0 0 (@Arr.nil Int))))))))))))))))
abbrev qz0:Td:=(.pair .str (.pair (.sl (.pair .str .str)) (.pair (.int .i64) (.pair (.int .u8) (.pair (.arr 16 (.int .u8)) (.pair (.int .i64) (.pair (.int .i64) (.pair (.sl (.int .u8)) (.pair (.int .u8) (.pair .str (.arr 32 (.int .u8))))))))))))
abbrev qz1:Td:=(.pair (.int .u8) (.pair (.int .u8) (.sl (.int .u8))))
abbrev qz2:Td:=(.pair (.arr 16 (.int .u8)) (.arr 16 (.int .u8)))
abbrev pz0:Type:=((List (List UInt8×(List UInt8)))×(Int×(Int×((Arr Int 16)×(Int×(Int×((List Int)×(Int×(List UInt8×(Arr Int 32))))))))))
abbrev pz1:Type:=((Unit×((List Int)×Unit)))
abbrev pz2:Type:=(List UInt8×(List UInt8))
abbrev pz3:Type:=((List Int)×(Int×(Int×Unit)))
abbrev pz4:Type:=((List (List Int))×(Int×(Int×Unit)))
abbrev pz5:Type:=((List Int)×(Int×Unit))
abbrev pz6:Type:=(Int×(Int×(Int×Unit)))
abbrev pz7:Type:=((Arr Int 4)×((Arr Int 4)×Unit))
abbrev pz8:Type:=((Arr Int 5)×((Arr Int 5)×Unit))
abbrev pz9:Type:=((List (List Int))×(Int×Unit))
abbrev pz10:Type:=(Int×(Int×(List Int)))
abbrev pz11:Type:=((Int×(Int×Unit))×Unit)
abbrev pz12:Type:=((Arr Int 16)×((Arr Int 16)×Unit))
abbrev pz13:Type:=(Int×(Int×((List Int)×Unit)))
abbrev pz14:Type:=(((Arr Int 8)×((Arr Int 16)×(Int×Unit)))×((Arr Int 24)×((Arr Int 24)×Unit)))
abbrev pz15:Type:=((Int×(Int×Unit))×((List Int)×Unit))
abbrev pz16:Type:=((Arr Int 16)×((List Int)×Unit))
abbrev pz17:Type:=((Int×Unit)×((List Int)×Unit))
abbrev pz18:Type:=((Arr Int 20)×((List Int)×Unit))
abbrev pz19:Type:=((List (List Int))×(Int×pz4))
abbrev pz20:Type:=((Arr Int 16)×((List Int)×((Arr Int 4)×((Arr Int 64)×Unit))))
abbrev pz21:Type:=((Arr Int 20)×((List Int)×((Arr Int 5)×((Arr Int 64)×Unit))))
abbrev pz22:Type:=(List UInt8×(Int×Unit))
abbrev pz23:Type:=((Arr Int 4)×(Int×Unit))
abbrev pz24:Type:=((Arr Int 16)×((Arr Int 4)×Unit))
abbrev pz25:Type:=((List UInt8×Unit)×Unit)
abbrev pz26:Type:=((Unit×((Arr Int 20)×((Arr Int 5)×Unit))))
abbrev pz27:Type:=(List UInt8×(pz2×Unit))
abbrev pz28:Type:=((Arr Int 5)×(Int×Unit))
abbrev pz29:Type:=((List pz2)×(Int×(Int×Unit)))
abbrev pz30:Type:=((Arr Int 5)×((Arr Int 80)×((Arr Int 5)×Unit)))
theorem hmx:Tryz.prog.follows .mixedOrders=true:=by kernel_rfl
noncomputable def Ev0 (N:Nat):(R:Type)→Env R:=Env.addInl env0 [48,238,237,182,183,155,215]
theorem aKR (R:Type):EnvOK Tryz.prog (Ev0 N R):=EnvOK.addInl (aFK R) (by kernel_rfl)
noncomputable def Ev1:(R:Type)→Env R:=Env.addMv (Ev0 N) [(182,3)]
theorem aKz (R:Type):EnvOK Tryz.prog (Ev1 N R):=EnvOK.addMv (aKR N R) [(182,3)]
noncomputable def Ev2:(R:Type)→Env R:=Env.addMv (Ev1 N) [(215,4)]
theorem aJ6 (R:Type):EnvOK Tryz.prog (Ev2 N R):=EnvOK.addMv (aKz N R) [(215,4)]
noncomputable def Ev3:(R:Type)→Env R:=Env.addBx (Ev2 N) [(139,0)]
theorem aJ2 (R:Type):EnvOK Tryz.prog (Ev3 N R):=EnvOK.addBx (aJ6 N R) [(139,0)]
noncomputable def Ev4:(R:Type)→Env R:=Env.addMv (Ev3 N) [(32,3)]
theorem aEB (R:Type):EnvOK Tryz.prog (Ev4 N R):=EnvOK.addMv (aJ2 N R) [(32,3)]
noncomputable def amM (N:Nat)(n0:Int)(degree1:Int)(bits2:Int):Option Bool:=
 Option.bind (bif (decide ((0:Int)≤n0)) then
   some ((cond true (decide (n0≤(1000:Int))) false))
  else
   some (false)) fun (v4:Bool)=>
 Option.bind (bif v4 then
   bif (decide (degree1=(2:Int))) then
    some ((cond true true false))
   else
    some ((cond true (cond false true (decide (degree1=(3:Int)))) false))
  else
   some (false)) fun (v5:Bool)=>
 Option.bind (bif v5 then
   some ((cond true (decide ((0:Int)≤bits2)) false))
  else
   some (false)) fun (v6:Bool)=>
 Option.bind (bif v6 then
   some ((cond true (decide (bits2≤(32:Int))) false))
  else
   some (false)) fun (v7:Bool)=>
 some (v7)
theorem asB (n0:Int)(degree1:Int)(bits2:Int):(runK Tryz.prog (Ev4 N) 400 212 [(.int .i64),(.int .i64),(.int .i64)] [.bool] (n0,degree1,bits2,())).run=amM N n0 degree1 bits2:=by kernel_rfl
noncomputable def Ev5:(R:Type)→Env R:=Env.addFn (Ev4 N) 212 (fun R=>fnK [(.int .i64),(.int .i64),(.int .i64)] [.bool] (fun c=>amM N c.1 c.2.1 c.2.2.1))
theorem aEA (R:Type):EnvOK Tryz.prog (Ev5 N R):=EnvOK.addFn hmx (aEB N R) (aEB N _) (by kernel_rfl) (fun c=>asB N c.1 c.2.1 c.2.2.1)
noncomputable def aiY (N:Nat)(x0:Int)(y1:Int):Option (Int×Int):=
 some (((IntKind.wrap .u64 ((IntKind.wrap .u64 ((IntKind.wrap .u64 ((@Int.fdiv x0 ((2:Int) ^ (min (Int.toNat (32:Int)) (IntKind.bits .u64))))*(@Int.fdiv y1 ((2:Int) ^ (min (Int.toNat (32:Int)) (IntKind.bits .u64))))))+(@Int.fdiv (IntKind.wrap .u64 ((IntKind.wrap .u64 ((@Int.fdiv x0 ((2:Int) ^ (min (Int.toNat (32:Int)) (IntKind.bits .u64))))*(bits .and .u64 y1 (4294967295:Int))))+(@Int.fdiv (IntKind.wrap .u64 ((bits .and .u64 x0 (4294967295:Int))*(bits .and .u64 y1 (4294967295:Int)))) ((2:Int) ^ (min (Int.toNat (32:Int)) (IntKind.bits .u64)))))) ((2:Int) ^ (min (Int.toNat (32:Int)) (IntKind.bits .u64))))))+(@Int.fdiv (IntKind.wrap .u64 ((bits .and .u64 (IntKind.wrap .u64 ((IntKind.wrap .u64 ((@Int.fdiv x0 ((2:Int) ^ (min (Int.toNat (32:Int)) (IntKind.bits .u64))))*(bits .and .u64 y1 (4294967295:Int))))+(@Int.fdiv (IntKind.wrap .u64 ((bits .and .u64 x0 (4294967295:Int))*(bits .and .u64 y1 (4294967295:Int)))) ((2:Int) ^ (min (Int.toNat (32:Int)) (IntKind.bits .u64)))))) (4294967295:Int))+(IntKind.wrap .u64 ((bits .and .u64 x0 (4294967295:Int))*(@Int.fdiv y1 ((2:Int) ^ (min (Int.toNat (32:Int)) (IntKind.bits .u64)))))))) ((2:Int) ^ (min (Int.toNat (32:Int)) (IntKind.bits .u64)))))),(IntKind.wrap .u64 (x0*y1))))
theorem als (x0:Int)(y1:Int):(runK Tryz.prog (Ev5 N) 400 227 [(.int .u64),(.int .u64)] [(.int .u64),(.int .u64)] (x0,y1,())).run=aiY N x0 y1:=by kernel_rfl
noncomputable def Ev6:(R:Type)→Env R:=Env.addFn (Ev5 N) 227 (fun R=>fnK [(.int .u64),(.int .u64)] [(.int .u64),(.int .u64)] (fun c=>aiY N c.1 c.2.1))
theorem aEz (R:Type):EnvOK Tryz.prog (Ev6 N R):=EnvOK.addFn hmx (aEA N R) (aEA N _) (by kernel_rfl) (fun c=>als N c.1 c.2.1)
noncomputable def aj1 (N:Nat)(x0:Int)(degree1:Int):Option (Int×Int):=
 bif (decide (degree1=(2:Int))) then
  some (((IntKind.wrap .u64 ((IntKind.wrap .u64 ((IntKind.wrap .u64 ((@Int.fdiv x0 ((2:Int) ^ (min (Int.toNat (32:Int)) (IntKind.bits .u64))))*(@Int.fdiv x0 ((2:Int) ^ (min (Int.toNat (32:Int)) (IntKind.bits .u64))))))+(@Int.fdiv (IntKind.wrap .u64 ((IntKind.wrap .u64 ((@Int.fdiv x0 ((2:Int) ^ (min (Int.toNat (32:Int)) (IntKind.bits .u64))))*(bits .and .u64 x0 (4294967295:Int))))+(@Int.fdiv (IntKind.wrap .u64 ((bits .and .u64 x0 (4294967295:Int))*(bits .and .u64 x0 (4294967295:Int)))) ((2:Int) ^ (min (Int.toNat (32:Int)) (IntKind.bits .u64)))))) ((2:Int) ^ (min (Int.toNat (32:Int)) (IntKind.bits .u64))))))+(@Int.fdiv (IntKind.wrap .u64 ((bits .and .u64 (IntKind.wrap .u64 ((IntKind.wrap .u64 ((@Int.fdiv x0 ((2:Int) ^ (min (Int.toNat (32:Int)) (IntKind.bits .u64))))*(bits .and .u64 x0 (4294967295:Int))))+(@Int.fdiv (IntKind.wrap .u64 ((bits .and .u64 x0 (4294967295:Int))*(bits .and .u64 x0 (4294967295:Int)))) ((2:Int) ^ (min (Int.toNat (32:Int)) (IntKind.bits .u64)))))) (4294967295:Int))+(IntKind.wrap .u64 ((bits .and .u64 x0 (4294967295:Int))*(@Int.fdiv x0 ((2:Int) ^ (min (Int.toNat (32:Int)) (IntKind.bits .u64)))))))) ((2:Int) ^ (min (Int.toNat (32:Int)) (IntKind.bits .u64)))))),(IntKind.wrap .u64 (x0*x0))))
 else
  some (((IntKind.wrap .u64 ((IntKind.wrap .u64 ((IntKind.wrap .u64 ((IntKind.wrap .u64 ((IntKind.wrap .u64 ((@Int.fdiv x0 ((2:Int) ^ (min (Int.toNat (32:Int)) (IntKind.bits .u64))))*(@Int.fdiv x0 ((2:Int) ^ (min (Int.toNat (32:Int)) (IntKind.bits .u64))))))+(@Int.fdiv (IntKind.wrap .u64 ((IntKind.wrap .u64 ((@Int.fdiv x0 ((2:Int) ^ (min (Int.toNat (32:Int)) (IntKind.bits .u64))))*(bits .and .u64 x0 (4294967295:Int))))+(@Int.fdiv (IntKind.wrap .u64 ((bits .and .u64 x0 (4294967295:Int))*(bits .and .u64 x0 (4294967295:Int)))) ((2:Int) ^ (min (Int.toNat (32:Int)) (IntKind.bits .u64)))))) ((2:Int) ^ (min (Int.toNat (32:Int)) (IntKind.bits .u64))))))+(@Int.fdiv (IntKind.wrap .u64 ((bits .and .u64 (IntKind.wrap .u64 ((IntKind.wrap .u64 ((@Int.fdiv x0 ((2:Int) ^ (min (Int.toNat (32:Int)) (IntKind.bits .u64))))*(bits .and .u64 x0 (4294967295:Int))))+(@Int.fdiv (IntKind.wrap .u64 ((bits .and .u64 x0 (4294967295:Int))*(bits .and .u64 x0 (4294967295:Int)))) ((2:Int) ^ (min (Int.toNat (32:Int)) (IntKind.bits .u64)))))) (4294967295:Int))+(IntKind.wrap .u64 ((bits .and .u64 x0 (4294967295:Int))*(@Int.fdiv x0 ((2:Int) ^ (min (Int.toNat (32:Int)) (IntKind.bits .u64)))))))) ((2:Int) ^ (min (Int.toNat (32:Int)) (IntKind.bits .u64))))))*x0))+(IntKind.wrap .u64 ((IntKind.wrap .u64 ((IntKind.wrap .u64 ((@Int.fdiv (IntKind.wrap .u64 (x0*x0)) ((2:Int) ^ (min (Int.toNat (32:Int)) (IntKind.bits .u64))))*(@Int.fdiv x0 ((2:Int) ^ (min (Int.toNat (32:Int)) (IntKind.bits .u64))))))+(@Int.fdiv (IntKind.wrap .u64 ((IntKind.wrap .u64 ((@Int.fdiv (IntKind.wrap .u64 (x0*x0)) ((2:Int) ^ (min (Int.toNat (32:Int)) (IntKind.bits .u64))))*(bits .and .u64 x0 (4294967295:Int))))+(@Int.fdiv (IntKind.wrap .u64 ((bits .and .u64 (IntKind.wrap .u64 (x0*x0)) (4294967295:Int))*(bits .and .u64 x0 (4294967295:Int)))) ((2:Int) ^ (min (Int.toNat (32:Int)) (IntKind.bits .u64)))))) ((2:Int) ^ (min (Int.toNat (32:Int)) (IntKind.bits .u64))))))+(@Int.fdiv (IntKind.wrap .u64 ((bits .and .u64 (IntKind.wrap .u64 ((IntKind.wrap .u64 ((@Int.fdiv (IntKind.wrap .u64 (x0*x0)) ((2:Int) ^ (min (Int.toNat (32:Int)) (IntKind.bits .u64))))*(bits .and .u64 x0 (4294967295:Int))))+(@Int.fdiv (IntKind.wrap .u64 ((bits .and .u64 (IntKind.wrap .u64 (x0*x0)) (4294967295:Int))*(bits .and .u64 x0 (4294967295:Int)))) ((2:Int) ^ (min (Int.toNat (32:Int)) (IntKind.bits .u64)))))) (4294967295:Int))+(IntKind.wrap .u64 ((bits .and .u64 (IntKind.wrap .u64 (x0*x0)) (4294967295:Int))*(@Int.fdiv x0 ((2:Int) ^ (min (Int.toNat (32:Int)) (IntKind.bits .u64)))))))) ((2:Int) ^ (min (Int.toNat (32:Int)) (IntKind.bits .u64)))))))),(IntKind.wrap .u64 ((IntKind.wrap .u64 (x0*x0))*x0))))
theorem aps (x0:Int)(degree1:Int):(runK Tryz.prog (Ev6 N) 400 235 [(.int .u64),(.int .i64)] [(.int .u64),(.int .u64)] (x0,degree1,())).run=aj1 N x0 degree1:=by kernel_rfl
noncomputable def Ev7:(R:Type)→Env R:=Env.addFn (Ev6 N) 235 (fun R=>fnK [(.int .u64),(.int .i64)] [(.int .u64),(.int .u64)] (fun c=>aj1 N c.1 c.2.1))
theorem aEy (R:Type):EnvOK Tryz.prog (Ev7 N R):=EnvOK.addFn hmx (aEz N R) (aEz N _) (by kernel_rfl) (fun c=>aps N c.1 c.2.1)
noncomputable def ahJ (N:Nat)(n0:Int)(shift1:Int):Option (Int×Int):=
 bif (decide ((64:Int)≤shift1)) then
  bif (decide ((0:Int)≤(IntKind.wrap .i64 (shift1-64)))) then
   some (((IntKind.wrap .u64 (n0*((2:Int) ^ (min (Int.toNat (IntKind.wrap .i64 (shift1-64))) (IntKind.bits .u64))))),(0:Int)))
  else
   none
 else
  bif (decide ((0:Int)≤(IntKind.wrap .i64 ((64:Int)-shift1)))) then
   bif (decide ((0:Int)≤shift1)) then
    some (((@Int.fdiv n0 ((2:Int) ^ (min (Int.toNat (IntKind.wrap .i64 ((64:Int)-shift1))) (IntKind.bits .u64)))),(IntKind.wrap .u64 (n0*((2:Int) ^ (min (Int.toNat shift1) (IntKind.bits .u64)))))))
   else
    none
  else
   none
theorem amL (n0:Int)(shift1:Int):(runK Tryz.prog (Ev7 N) 400 236 [(.int .u64),(.int .i64)] [(.int .u64),(.int .u64)] (n0,shift1,())).run=ahJ N n0 shift1:=by kernel_rfl
noncomputable def Ev8:(R:Type)→Env R:=Env.addFn (Ev7 N) 236 (fun R=>fnK [(.int .u64),(.int .i64)] [(.int .u64),(.int .u64)] (fun c=>ahJ N c.1 c.2.1))
theorem aEx (R:Type):EnvOK Tryz.prog (Ev8 N R):=EnvOK.addFn hmx (aEy N R) (aEy N _) (by kernel_rfl) (fun c=>amL N c.1 c.2.1)
noncomputable def aj2 (x0:Int)(n1:Int)(degree2:Int)(shift3:Int):Option Bool:=
 Option.bind (aj1 N x0 degree2) fun v5=>
 Option.bind (ahJ N (IntKind.wrap .u64 n1) shift3) fun v6=>
 bif (!(decide (v5.1=v6.1))) then
  some ((decide (v6.1<v5.1)))
 else
  some ((decide (v6.2<v5.2)))
theorem apt (x0:Int)(n1:Int)(degree2:Int)(shift3:Int):(runK Tryz.prog (Ev8 N) 400 213 [(.int .u64),(.int .i64),(.int .i64),(.int .i64)] [.bool] (x0,n1,degree2,shift3,())).run=aj2 N x0 n1 degree2 shift3:=by kernel_rfl
noncomputable def Ev9:(R:Type)→Env R:=Env.addFn (Ev8 N) 213 (fun R=>fnK [(.int .u64),(.int .i64),(.int .i64),(.int .i64)] [.bool] (fun c=>aj2 N c.1 c.2.1 c.2.2.1 c.2.2.2.1))
theorem aEw (R:Type):EnvOK Tryz.prog (Ev9 N R):=EnvOK.addFn hmx (aEx N R) (aEx N _) (by kernel_rfl) (fun c=>apt N c.1 c.2.1 c.2.2.1 c.2.2.2.1)
noncomputable def afC:LI:=⟨34,0,[],⟨[(0,.ty (.int .i64)),(1,.ty (.int .i64)),(2,.ty (.int .i64)),(8,.ty (.int .u64)),(9,.ty (.int .i64))],[]⟩,[(.exit 0,⟨[(8,.ty (.int .u64))],[]⟩)]⟩
noncomputable def ahK (X:((Int×(Int×pz6))×Unit)→Option (((Int×Unit)×Unit)))(n0:Int)(degree1:Int)(bits2:Int)(root8:Int)(i9:Int):Option (((Int×Unit)×Unit)):=
 bif (decide ((0:Int)≤i9)) then
  bif (decide ((0:Int)≤i9)) then
   Option.bind (aj2 N (bits .or .u64 root8 (IntKind.wrap .u64 ((1:Int)*((2:Int) ^ (min (Int.toNat i9) (IntKind.bits .u64)))))) n0 degree1 (IntKind.wrap .i64 (degree1*bits2))) fun v7=>
   bif (!v7) then
    (X ((n0,(degree1,(bits2,((bits .or .u64 root8 (IntKind.wrap .u64 ((1:Int)*((2:Int) ^ (min (Int.toNat i9) (IntKind.bits .u64)))))),((IntKind.wrap .i64 (i9-1)),()))))),()))
   else
    (X ((n0,(degree1,(bits2,(root8,((IntKind.wrap .i64 (i9-1)),()))))),()))
  else
   none
 else
  some (((root8,()),()))
noncomputable def amO (c:((Int×(Int×pz6))×Unit)):Option (((Int×Unit)×Unit)):=gl (fun X c=>ahK N X c.1.1 c.1.2.1 c.1.2.2.1 c.1.2.2.2.1 c.1.2.2.2.2.1) N c
theorem amN (X:((Int×(Int×pz6))×Unit)→Option (((Int×Unit)×Unit)))(n0:Int)(degree1:Int)(bits2:Int)(root8:Int)(i9:Int):(aal Tryz.prog (Ev9 N) 400 [181] afC (aah Tryz.prog [181] 5) X ((n0,degree1,bits2,root8,i9,()),())).run=ahK N X n0 degree1 bits2 root8 i9:=by kernel_rfl
noncomputable def Ev10:(R:Type)→Env R:=Env.addLp (Ev9 N) [181] 0 5 (fun R=>lpK Tryz.prog afC (fun X c=>ahK N X c.1.1 c.1.2.1 c.1.2.2.1 c.1.2.2.2.1 c.1.2.2.2.2.1) N)
theorem aB2 (R:Type):EnvOK Tryz.prog (Ev10 N R):=EnvOK.addLp (aEw N R) (by kernel_rfl) (aao (li:=afC) hmx (aEw N _) (by kernel_rfl) aaa (fun X c=>amN N X c.1.1 c.1.2.1 c.1.2.2.1 c.1.2.2.2.1 c.1.2.2.2.2.1) N)
noncomputable def ajs (n0:Int)(degree1:Int)(bits2:Int):Option (Int×Int):=
 Option.bind (amM N n0 degree1 bits2) fun v4=>
 bif (!v4) then
  some (((0:Int),(1:Int)))
 else
  Option.bind (amO N ((n0,(degree1,(bits2,((0:Int),((36:Int),()))))),())) fun v5=>
  some ((v5.1.1,(0:Int)))
theorem aq6 (n0:Int)(degree1:Int)(bits2:Int):(runK Tryz.prog (Ev10 N) 400 181 [(.int .i64),(.int .i64),(.int .i64)] [(.int .u64),(.int .i64)] (n0,degree1,bits2,())).run=ajs N n0 degree1 bits2:=by kernel_rfl
noncomputable def Ev11:(R:Type)→Env R:=Env.addFn (Ev10 N) 181 (fun R=>fnK [(.int .i64),(.int .i64),(.int .i64)] [(.int .u64),(.int .i64)] (fun c=>ajs N c.1 c.2.1 c.2.2.1))
theorem aB1 (R:Type):EnvOK Tryz.prog (Ev11 N R):=EnvOK.addFn hmx (aB2 N R) (aB2 N _) (by kernel_rfl) (fun c=>aq6 N c.1 c.2.1 c.2.2.1)
noncomputable def acK (N:Nat)(i0:Int)(width1:Int)(little2:Bool):Option Int:=
 bif little2 then
  some (i0)
 else
  some ((IntKind.wrap .i64 ((IntKind.wrap .i64 (width1-1))-i0)))
theorem arC (i0:Int)(width1:Int)(little2:Bool):(runK Tryz.prog (Ev11 N) 400 149 [(.int .i64),(.int .i64),.bool] [(.int .i64)] (i0,width1,little2,())).run=acK N i0 width1 little2:=by kernel_rfl
noncomputable def Ev12:(R:Type)→Env R:=Env.addFn (Ev11 N) 149 (fun R=>fnK [(.int .i64),(.int .i64),.bool] [(.int .i64)] (fun c=>acK N c.1 c.2.1 c.2.2.1))
theorem aB0 (R:Type):EnvOK Tryz.prog (Ev12 N R):=EnvOK.addFn hmx (aB1 N R) (aB1 N _) (by kernel_rfl) (fun c=>arC N c.1 c.2.1 c.2.2.1)
noncomputable def ahV:LI:=⟨35,0,[],⟨[(0,.ty (.int .u64)),(1,.ty (.int .i64)),(2,.ty .bool),(8,.lit (.own 0)),(19,.ty (.int .i64)),(20,.ty (.int .i64))],[.own (.int .u8) 5]⟩,[(.exit 0,⟨[(8,.lit (.own 0))],[.own (.int .u8) 5]⟩)]⟩
noncomputable def adx (X:((Int×(Int×(Bool×(Int×(Int×Unit)))))×((List Int)×Unit))→Option pz1)(n0:Int)(width1:Int)(little2:Bool)(x19:Int)(x20:Int)(h0:List (Int)):Option pz1:=
 bif (decide (x20<x19)) then
  Option.bind (acK N x20 width1 little2) fun v8=>
  bif (decide ((0:Int)≤v8∧v8<(((List.length h0):Nat):Int))) then
   Option.bind (h0[Int.toNat v8]?) fun (v9:Int)=>
   (X (((@Int.fdiv n0 ((2:Int) ^ (min (Int.toNat (8:Int)) (IntKind.bits .u64)))),(width1,(little2,(x19,((IntKind.wrap .i64 (x20+1)),()))))),((@List.set Int h0 (Int.toNat v8) (IntKind.wrap .u8 n0)),())))
  else
   none
 else
  some (((),(h0,())))
noncomputable def ad3 (c:((Int×(Int×(Bool×(Int×(Int×Unit)))))×((List Int)×Unit))):Option pz1:=gl (fun X c=>adx N X c.1.1 c.1.2.1 c.1.2.2.1 c.1.2.2.2.1 c.1.2.2.2.2.1 c.2.1) N c
theorem ap0 (X:((Int×(Int×(Bool×(Int×(Int×Unit)))))×((List Int)×Unit))→Option pz1)(n0:Int)(width1:Int)(little2:Bool)(x19:Int)(x20:Int)(h0:List (Int)):(aal Tryz.prog (Ev12 N) 400 [111] ahV (aah Tryz.prog [111] 5) X ((n0,width1,little2,x19,x20,()),(h0,()))).run=adx N X n0 width1 little2 x19 x20 h0:=by kernel_rfl
noncomputable def Ev13:(R:Type)→Env R:=Env.addLp (Ev12 N) [111] 0 5 (fun R=>lpK Tryz.prog ahV (fun X c=>adx N X c.1.1 c.1.2.1 c.1.2.2.1 c.1.2.2.2.1 c.1.2.2.2.2.1 c.2.1) N)
theorem aBZ (R:Type):EnvOK Tryz.prog (Ev13 N R):=EnvOK.addLp (aB0 N R) (by kernel_rfl) (aao (li:=ahV) hmx (aB0 N _) (by kernel_rfl) aaa (fun X c=>ap0 N X c.1.1 c.1.2.1 c.1.2.2.1 c.1.2.2.2.1 c.1.2.2.2.2.1 c.2.1) N)
noncomputable def abw (n0:Int)(width1:Int)(little2:Bool):Option ((List Int)×Int):=
 Option.bind (bif (decide (width1<(1:Int))) then
   some (true)
  else
   some ((cond false true (decide ((8:Int)<width1))))) fun (v4:Bool)=>
 bif v4 then
  some ((([]:List Int),(1:Int)))
 else
  bif ((decide ((0:Int)≤width1∧width1≤width1))&&(aac (Int.toNat width1) 1)) then
   Option.bind (ad3 N ((n0,(width1,(little2,((((List.length (@List.replicate Int (Int.toNat width1) (0:Int))):Nat):Int),((0:Int),()))))),((@List.replicate Int (Int.toNat width1) (0:Int)),()))) fun v5=>
   some ((v5.2.1,(0:Int)))
  else
   none
theorem axE (n0:Int)(width1:Int)(little2:Bool):(runK Tryz.prog (Ev13 N) 400 111 [(.int .u64),(.int .i64),.bool] [(.sl (.int .u8)),(.int .i64)] (n0,width1,little2,())).run=abw N n0 width1 little2:=by kernel_rfl
noncomputable def Ev14:(R:Type)→Env R:=Env.addFn (Ev13 N) 111 (fun R=>fnK [(.int .u64),(.int .i64),.bool] [(.sl (.int .u8)),(.int .i64)] (fun c=>abw N c.1 c.2.1 c.2.2.1))
theorem aBY (R:Type):EnvOK Tryz.prog (Ev14 N R):=EnvOK.addFn hmx (aBZ N R) (aBZ N _) (by kernel_rfl) (fun c=>axE N c.1 c.2.1 c.2.2.1)
noncomputable def ab0:LI:=⟨33,1,[],⟨[(0,.ty (.sl (.sl (.int .u8)))),(3,.ty (.int .i64)),(9,.ty (.sl (.sl (.int .u8)))),(10,.ty (.int .i64)),(11,.ty (.int .i64))],[.dead]⟩,[(.exit 0,⟨[(0,.ty (.sl (.sl (.int .u8)))),(3,.ty (.int .i64))],[.dead]⟩)]⟩
noncomputable def acx (N:Nat)(X:(pz19×Unit)→Option ((pz9×Unit)))(parts0:List (List Int))(size3:Int)(x9:List (List Int))(x10:Int)(x11:Int):Option ((pz9×Unit)):=
 bif (decide (x11<x10)) then
  Option.bind (getI x9 x11) fun (v7:(List Int))=>
  (X ((parts0,((IntKind.wrap .i64 (size3+(((List.length v7):Nat):Int))),(x9,(x10,((IntKind.wrap .i64 (x11+1)),()))))),()))
 else
  some (((parts0,(size3,())),()))
noncomputable def agT (c:(pz19×Unit)):Option ((pz9×Unit)):=gl (fun X c=>acx N X c.1.1 c.1.2.1 c.1.2.2.1 c.1.2.2.2.1 c.1.2.2.2.2.1) N c
theorem agR (X:(pz19×Unit)→Option ((pz9×Unit)))(parts0:List (List Int))(size3:Int)(x9:List (List Int))(x10:Int)(x11:Int):(aal Tryz.prog (Ev14 N) 400 [48,3,112] ab0 (aah Tryz.prog [48,3,112] 3) X ((parts0,size3,x9,x10,x11,()),())).run=acx N X parts0 size3 x9 x10 x11:=by kernel_rfl
noncomputable def Ev15:(R:Type)→Env R:=Env.addLp (Ev14 N) [48,3,112] 1 3 (fun R=>lpK Tryz.prog ab0 (fun X c=>acx N X c.1.1 c.1.2.1 c.1.2.2.1 c.1.2.2.2.1 c.1.2.2.2.2.1) N)
theorem aBX (R:Type):EnvOK Tryz.prog (Ev15 N R):=EnvOK.addLp (aBY N R) (by kernel_rfl) (aao (li:=ab0) hmx (aBY N _) (by kernel_rfl) aaa (fun X c=>agR N X c.1.1 c.1.2.1 c.1.2.2.1 c.1.2.2.2.1 c.1.2.2.2.2.1) N)
noncomputable def abZ:LI:=⟨33,1,[],⟨[(6,.lit (.own 1)),(22,.ty (.sl (.sl (.int .u8)))),(23,.ty (.int .i64)),(24,.ty (.int .i64))],[.dead,.own (.int .u8) 5]⟩,[(.exit 2,⟨[(6,.lit (.own 1))],[.dead,.own (.int .u8) 5]⟩)]⟩
noncomputable def acw (N:Nat)(X:(pz4×((List Int)×Unit))→Option pz1)(x22:List (List Int))(x23:Int)(x24:Int)(h0:List (Int)):Option pz1:=
 bif (decide (x24<x23)) then
  Option.bind (getI x22 x24) fun (v6:(List Int))=>
  bif (aac ((List.length h0)+(List.length v6)) 1) then
   (X ((x22,(x23,((IntKind.wrap .i64 (x24+1)),()))),((h0++v6),())))
  else
   none
 else
  some (((),(h0,())))
noncomputable def agQ (c:(pz4×((List Int)×Unit))):Option pz1:=gl (fun X c=>acw N X c.1.1 c.1.2.1 c.1.2.2.1 c.2.1) N c
theorem agP (X:(pz4×((List Int)×Unit))→Option pz1)(x22:List (List Int))(x23:Int)(x24:Int)(h0:List (Int)):(aal Tryz.prog (Ev15 N) 400 [48,3,112] abZ (aah Tryz.prog [48,3,112] 9) X ((x22,x23,x24,()),(h0,()))).run=acw N X x22 x23 x24 h0:=by kernel_rfl
noncomputable def Ev16:(R:Type)→Env R:=Env.addLp (Ev15 N) [48,3,112] 1 9 (fun R=>lpK Tryz.prog abZ (fun X c=>acw N X c.1.1 c.1.2.1 c.1.2.2.1 c.2.1) N)
theorem aBW (R:Type):EnvOK Tryz.prog (Ev16 N R):=EnvOK.addLp (aBX N R) (by kernel_rfl) (aao (li:=abZ) hmx (aBX N _) (by kernel_rfl) aaa (fun X c=>agP N X c.1.1 c.1.2.1 c.1.2.2.1 c.2.1) N)
noncomputable def akE (n0:Int):Option (List Int):=
 Option.bind (abw N (IntKind.wrap .u64 ((8:Int)*n0)) (8:Int) true) fun v2=>
 bif ((decide ((0:Int)≤(@Int.tmod (IntKind.wrap .u64 ((119:Int)-(@Int.tmod n0 (64:Int)))) (64:Int))∧(@Int.tmod (IntKind.wrap .u64 ((119:Int)-(@Int.tmod n0 (64:Int)))) (64:Int))≤(@Int.tmod (IntKind.wrap .u64 ((119:Int)-(@Int.tmod n0 (64:Int)))) (64:Int))))&&(aac (Int.toNat (@Int.tmod (IntKind.wrap .u64 ((119:Int)-(@Int.tmod n0 (64:Int)))) (64:Int))) 1)) then
  Option.bind (agT N ((([([128]:List Int),(@List.replicate Int (Int.toNat (@Int.tmod (IntKind.wrap .u64 ((119:Int)-(@Int.tmod n0 (64:Int)))) (64:Int))) (0:Int)),v2.1]:List ((List Int))),((0:Int),(([([128]:List Int),(@List.replicate Int (Int.toNat (@Int.tmod (IntKind.wrap .u64 ((119:Int)-(@Int.tmod n0 (64:Int)))) (64:Int))) (0:Int)),v2.1]:List ((List Int))),((((List.length ([([128]:List Int),(@List.replicate Int (Int.toNat (@Int.tmod (IntKind.wrap .u64 ((119:Int)-(@Int.tmod n0 (64:Int)))) (64:Int))) (0:Int)),v2.1]:List ((List Int)))):Nat):Int),((0:Int),()))))),())) fun v3=>
  bif ((decide ((0:Int)≤(0:Int)∧(0:Int)≤v3.1.2.1))&&(aac (Int.toNat v3.1.2.1) 1)) then
   Option.bind (agQ N ((v3.1.1,((((List.length v3.1.1):Nat):Int),((0:Int),()))),((@List.replicate Int (Int.toNat (0:Int)) (0:Int)),()))) fun v4=>
   some (v4.2.1)
  else
   none
 else
  none
theorem axK (n0:Int):(runK Tryz.prog (Ev16 N) 400 112 [(.int .u64)] [(.sl (.int .u8))] (n0,())).run=akE N n0:=by kernel_rfl
noncomputable def Ev17:(R:Type)→Env R:=Env.addFn (Ev16 N) 112 (fun R=>fnK [(.int .u64)] [(.sl (.int .u8))] (fun c=>akE N c.1))
theorem aBV (R:Type):EnvOK Tryz.prog (Ev17 N R):=EnvOK.addFn hmx (aBW N R) (aBW N _) (by kernel_rfl) (fun c=>axK N c.1)
noncomputable def arK (N:Nat):Option (Arr Int 4):=
 some ((@Arr.cons Int 3 1732584193 (@Arr.cons Int 2 4023233417 (@Arr.cons Int 1 2562383102 (@Arr.cons Int 0 271733878 (@Arr.nil Int))))))
theorem ata:(runK Tryz.prog (Ev17 N) 400 113 [] [(.arr 4 (.int .u32))] ()).run=arK N:=by kernel_rfl
noncomputable def Ev18:(R:Type)→Env R:=Env.addFn (Ev17 N) 113 (fun R=>fnK [] [(.arr 4 (.int .u32))] (fun c=>arK N ))
theorem aBU (R:Type):EnvOK Tryz.prog (Ev18 N R):=EnvOK.addFn hmx (aBV N R) (aBV N _) (by kernel_rfl) (fun c=>ata N )
noncomputable def acz:LI:=⟨33,1,[],⟨[(0,.ty (.sl (.sl (.int .u8)))),(3,.ty (.int .i64)),(9,.ty (.sl (.sl (.int .u8)))),(10,.ty (.int .i64)),(11,.ty (.int .i64))],[.box 27 (.arr 16 (.int .u8))]⟩,[(.exit 0,⟨[(0,.ty (.sl (.sl (.int .u8)))),(3,.ty (.int .i64))],[.box 27 (.arr 16 (.int .u8))]⟩)]⟩
noncomputable def aa0 (N:Nat)(X:(pz19×((Arr Int 16)×Unit))→Option ((pz9×((Arr Int 16)×Unit))))(parts0:List (List Int))(size3:Int)(x9:List (List Int))(x10:Int)(x11:Int)(h0:Arr Int 16):Option ((pz9×((Arr Int 16)×Unit))):=
 bif (decide (x11<x10)) then
  Option.bind (getI x9 x11) fun (v8:(List Int))=>
  (X ((parts0,((IntKind.wrap .i64 (size3+(((List.length v8):Nat):Int))),(x9,(x10,((IntKind.wrap .i64 (x11+1)),()))))),(h0,())))
 else
  some (((parts0,(size3,())),(h0,())))
noncomputable def ad5 (c:(pz19×((Arr Int 16)×Unit))):Option ((pz9×((Arr Int 16)×Unit))):=gl (fun X c=>aa0 N X c.1.1 c.1.2.1 c.1.2.2.1 c.1.2.2.2.1 c.1.2.2.2.2.1 c.2.1) N c
theorem ah0 (X:(pz19×((Arr Int 16)×Unit))→Option ((pz9×((Arr Int 16)×Unit))))(parts0:List (List Int))(size3:Int)(x9:List (List Int))(x10:Int)(x11:Int)(h0:Arr Int 16):(aal Tryz.prog (Ev18 N) 400 [48,1,79] acz (aah Tryz.prog [48,1,79] 3) X ((parts0,size3,x9,x10,x11,()),(h0,()))).run=aa0 N X parts0 size3 x9 x10 x11 h0:=by kernel_rfl
noncomputable def Ev19:(R:Type)→Env R:=Env.addLp (Ev18 N) [48,1,79] 1 3 (fun R=>lpK Tryz.prog acz (fun X c=>aa0 N X c.1.1 c.1.2.1 c.1.2.2.1 c.1.2.2.2.1 c.1.2.2.2.2.1 c.2.1) N)
theorem aBT (R:Type):EnvOK Tryz.prog (Ev19 N R):=EnvOK.addLp (aBU N R) (by kernel_rfl) (aao (li:=acz) hmx (aBU N _) (by kernel_rfl) aaa (fun X c=>ah0 N X c.1.1 c.1.2.1 c.1.2.2.1 c.1.2.2.2.1 c.1.2.2.2.2.1 c.2.1) N)
noncomputable def acy:LI:=⟨33,1,[],⟨[(6,.lit (.own 1)),(22,.ty (.sl (.sl (.int .u8)))),(23,.ty (.int .i64)),(24,.ty (.int .i64))],[.box 27 (.arr 16 (.int .u8)),.own (.int .u8) 5]⟩,[(.exit 2,⟨[(6,.lit (.own 1))],[.box 27 (.arr 16 (.int .u8)),.own (.int .u8) 5]⟩)]⟩
noncomputable def aaZ (N:Nat)(X:(pz4×pz16)→Option ((Unit×pz16)))(x22:List (List Int))(x23:Int)(x24:Int)(h0:Arr Int 16)(h1:List (Int)):Option ((Unit×pz16)):=
 bif (decide (x24<x23)) then
  Option.bind (getI x22 x24) fun (v7:(List Int))=>
  bif (aac ((List.length h1)+(List.length v7)) 1) then
   (X ((x22,(x23,((IntKind.wrap .i64 (x24+1)),()))),(h0,((h1++v7),()))))
  else
   none
 else
  some (((),(h0,(h1,()))))
noncomputable def ad4 (c:(pz4×pz16)):Option ((Unit×pz16)):=gl (fun X c=>aaZ N X c.1.1 c.1.2.1 c.1.2.2.1 c.2.1 c.2.2.1) N c
theorem ahZ (X:(pz4×pz16)→Option ((Unit×pz16)))(x22:List (List Int))(x23:Int)(x24:Int)(h0:Arr Int 16)(h1:List (Int)):(aal Tryz.prog (Ev19 N) 400 [48,1,79] acy (aah Tryz.prog [48,1,79] 9) X ((x22,x23,x24,()),(h0,h1,()))).run=aaZ N X x22 x23 x24 h0 h1:=by kernel_rfl
noncomputable def Ev20:(R:Type)→Env R:=Env.addLp (Ev19 N) [48,1,79] 1 9 (fun R=>lpK Tryz.prog acy (fun X c=>aaZ N X c.1.1 c.1.2.1 c.1.2.2.1 c.2.1 c.2.2.1) N)
theorem aBS (R:Type):EnvOK Tryz.prog (Ev20 N R):=EnvOK.addLp (aBT N R) (by kernel_rfl) (aao (li:=acy) hmx (aBT N _) (by kernel_rfl) aaa (fun X c=>ahZ N X c.1.1 c.1.2.1 c.1.2.2.1 c.2.1 c.2.2.1) N)
noncomputable def amn (n0:Int):Option Int:=
 Option.bind (ajs N n0 (2:Int) (30:Int)) fun v2=>
 some ((IntKind.wrap .u32 v2.1))
theorem axJ (n0:Int):(runK Tryz.prog (Ev20 N) 400 150 [(.int .i64)] [(.int .u32)] (n0,())).run=amn N n0:=by kernel_rfl
noncomputable def Ev21:(R:Type)→Env R:=Env.addFn (Ev20 N) 150 (fun R=>fnK [(.int .i64)] [(.int .u32)] (fun c=>amn N c.1))
theorem aBR (R:Type):EnvOK Tryz.prog (Ev21 N R):=EnvOK.addFn hmx (aBS N R) (aBS N _) (by kernel_rfl) (fun c=>axJ N c.1)
noncomputable def afk:Option (Arr Int 3):=
 Option.bind (amn N (2:Int)) fun v1=>
 Option.bind (amn N (3:Int)) fun v2=>
 some ((@Arr.cons Int 2 0 (@Arr.cons Int (1:Nat) v1 (@Arr.cons Int (0:Nat) v2 (@Arr.nil Int)))))
theorem anh:(runK Tryz.prog (Ev21 N) 400 114 [] [(.arr 3 (.int .u32))] ()).run=afk N:=by kernel_rfl
noncomputable def Ev22:(R:Type)→Env R:=Env.addFn (Ev21 N) 114 (fun R=>fnK [] [(.arr 3 (.int .u32))] (fun c=>afk N ))
theorem aG2 (R:Type):EnvOK Tryz.prog (Ev22 N R):=EnvOK.addFn hmx (aBR N R) (aBR N _) (by kernel_rfl) (fun c=>anh N )
noncomputable def Ev23:(R:Type)→Env R:=Env.addBx (Ev22 N) [(115,0)]
theorem aGT (R:Type):EnvOK Tryz.prog (Ev23 N R):=EnvOK.addBx (aG2 N R) [(115,0)]
noncomputable def Ev24:(R:Type)→Env R:=Env.addBx (Ev23 N) [(151,0)]
theorem aBQ (R:Type):EnvOK Tryz.prog (Ev24 N R):=EnvOK.addBx (aGT N R) [(151,0)]
noncomputable def ahY:LI:=⟨37,0,[],⟨[(0,.ty (.sl (.int .u8))),(1,.ty .bool),(6,.ty (.int .u64)),(17,.ty (.int .i64)),(18,.ty (.int .i64))],[]⟩,[(.exit 0,⟨[(6,.ty (.int .u64))],[]⟩)]⟩
noncomputable def afW (X:(((List Int)×(Bool×pz6))×Unit)→Option (((Int×Unit)×Unit)))(b0:List (Int))(little1:Bool)(n6:Int)(x17:Int)(x18:Int):Option (((Int×Unit)×Unit)):=
 bif (decide (x18<x17)) then
  Option.bind (acK N x18 (((List.length b0):Nat):Int) little1) fun v7=>
  Option.bind (getI b0 v7) fun (v8:Int)=>
  bif (decide ((0:Int)≤(IntKind.wrap .i64 ((8:Int)*x18)))) then
   (X ((b0,(little1,((bits .or .u64 n6 (IntKind.wrap .u64 ((IntKind.wrap .u64 v8)*((2:Int) ^ (min (Int.toNat (IntKind.wrap .i64 ((8:Int)*x18))) (IntKind.bits .u64)))))),(x17,((IntKind.wrap .i64 (x18+1)),()))))),()))
  else
   none
 else
  some (((n6,()),()))
noncomputable def ahX (c:(((List Int)×(Bool×pz6))×Unit)):Option (((Int×Unit)×Unit)):=gl (fun X c=>afW N X c.1.1 c.1.2.1 c.1.2.2.1 c.1.2.2.2.1 c.1.2.2.2.2.1) N c
theorem ap2 (X:(((List Int)×(Bool×pz6))×Unit)→Option (((Int×Unit)×Unit)))(b0:List (Int))(little1:Bool)(n6:Int)(x17:Int)(x18:Int):(aal Tryz.prog (Ev24 N) 400 [119] ahY (aah Tryz.prog [119] 5) X ((b0,little1,n6,x17,x18,()),())).run=afW N X b0 little1 n6 x17 x18:=by kernel_rfl
noncomputable def Ev25:(R:Type)→Env R:=Env.addLp (Ev24 N) [119] 0 5 (fun R=>lpK Tryz.prog ahY (fun X c=>afW N X c.1.1 c.1.2.1 c.1.2.2.1 c.1.2.2.2.1 c.1.2.2.2.2.1) N)
theorem aBP (R:Type):EnvOK Tryz.prog (Ev25 N R):=EnvOK.addLp (aBQ N R) (by kernel_rfl) (aao (li:=ahY) hmx (aBQ N _) (by kernel_rfl) aaa (fun X c=>ap2 N X c.1.1 c.1.2.1 c.1.2.2.1 c.1.2.2.2.1 c.1.2.2.2.2.1) N)
noncomputable def aeI (b0:List (Int))(little1:Bool):Option (Int×Int):=
 bif (decide ((((List.length b0):Nat):Int)<(1:Int))) then
  some (((0:Int),(1:Int)))
 else
  Option.bind (some ((cond false true (decide ((8:Int)<(((List.length b0):Nat):Int)))))) fun (v3:Bool)=>
  bif v3 then
   some (((0:Int),(1:Int)))
  else
   Option.bind (ahX N ((b0,(little1,((0:Int),((((List.length b0):Nat):Int),((0:Int),()))))),())) fun v4=>
   some ((v4.1.1,(0:Int)))
theorem axG (b0:List (Int))(little1:Bool):(runK Tryz.prog (Ev25 N) 400 119 [(.sl (.int .u8)),.bool] [(.int .u64),(.int .i64)] (b0,little1,())).run=aeI N b0 little1:=by kernel_rfl
noncomputable def Ev26:(R:Type)→Env R:=Env.addFn (Ev25 N) 119 (fun R=>fnK [(.sl (.int .u8)),.bool] [(.int .u64),(.int .i64)] (fun c=>aeI N c.1 c.2.1))
theorem aBO (R:Type):EnvOK Tryz.prog (Ev26 N R):=EnvOK.addFn hmx (aBP N R) (aBP N _) (by kernel_rfl) (fun c=>axG N c.1 c.2.1)
noncomputable def agO:LI:=⟨26,0,[],⟨[(1,.adr (.arr 64 (.int .u8))),(2,.lit (.box 0 0)),(3,.lit (.box 1 0)),(7,.ty (.int .i64))],[.box 216 (.arr 16 (.int .u32)),.box 216 (.arr 16 (.int .u32))]⟩,[(.exit 0,⟨[(2,.lit (.box 0 0)),(3,.lit (.box 1 0))],[.box 216 (.arr 16 (.int .u32)),.box 216 (.arr 16 (.int .u32))]⟩)]⟩
noncomputable def adQ (X:(((Arr Int 64)×(Int×Unit))×pz12)→Option ((Unit×pz12)))(b1:Arr Int 64)(x7:Int)(h0:Arr Int 16)(h1:Arr Int 16):Option ((Unit×pz12)):=
 bif (decide (x7<(16:Int))) then
  Option.bind (subI b1.l (IntKind.wrap .i64 ((4:Int)*x7)) (IntKind.wrap .i64 ((IntKind.wrap .i64 ((4:Int)*x7))+4))) fun (v6:(List Int))=>
  Option.bind (aeI N v6 true) fun v7=>
  bif (decide ((0:Int)≤x7∧x7<((16:Nat):Int))) then
   Option.bind (h1.l[Int.toNat x7]?) fun (v8:Int)=>
   (X ((b1,((IntKind.wrap .i64 (x7+1)),())),(h0,((h1.set (Int.toNat x7) (IntKind.wrap .u32 v7.1)),()))))
  else
   none
 else
  some (((),(h0,(h1,()))))
noncomputable def ajR (c:(((Arr Int 64)×(Int×Unit))×pz12)):Option ((Unit×pz12)):=gl (fun X c=>adQ N X c.1.1 c.1.2.1 c.2.1 c.2.2.1) N c
theorem aoi (X:(((Arr Int 64)×(Int×Unit))×pz12)→Option ((Unit×pz12)))(b1:Arr Int 64)(x7:Int)(h0:Arr Int 16)(h1:Arr Int 16):(aal Tryz.prog (Ev26 N) 400 [151] agO (aah Tryz.prog [151] 3) X ((b1,x7,()),(h0,h1,()))).run=adQ N X b1 x7 h0 h1:=by kernel_rfl
noncomputable def Ev27:(R:Type)→Env R:=Env.addLp (Ev26 N) [151] 0 3 (fun R=>lpK Tryz.prog agO (fun X c=>adQ N X c.1.1 c.1.2.1 c.2.1 c.2.2.1) N)
theorem aBM (R:Type):EnvOK Tryz.prog (Ev27 N R):=EnvOK.addLp (aBO N R) (by kernel_rfl) (aao (li:=agO) hmx (aBO N _) (by kernel_rfl) aaa (fun X c=>aoi N X c.1.1 c.1.2.1 c.2.1 c.2.2.1) N)
noncomputable def aiU (b0:Arr Int 64):Option (Arr Int 16):=
 Option.bind (ajR N ((b0,((0:Int),())),(zc16,(zc16,())))) fun v2=>
 some (v2.2.2.1)
theorem as4 (b0:Arr Int 64):(runK Tryz.prog (Ev27 N) 400 151 [(.arr 64 (.int .u8))] [(.arr 16 (.int .u32))] (b0,())).run=aiU N b0:=by kernel_rfl
noncomputable def Ev28:(R:Type)→Env R:=Env.addFn (Ev27 N) 151 (fun R=>fnK [(.arr 64 (.int .u8))] [(.arr 16 (.int .u32))] (fun c=>aiU N c.1))
theorem aBK (R:Type):EnvOK Tryz.prog (Ev28 N R):=EnvOK.addFn hmx (aBM N R) (aBM N _) (by kernel_rfl) (fun c=>as4 N c.1)
noncomputable def aiV (N:Nat)(r0:Int)(b1:Int)(c2:Int)(d3:Int):Option Int:=
 bif (decide (r0=(0:Int))) then
  some ((bits .or .u32 (bits .and .u32 b1 c2) (bits .and .u32 (bits .xor .u32 (@ite Int (@Eq Bool (@IntKind.signed @IntKind.u32) true) (@instDecidableEqBool (@IntKind.signed @IntKind.u32) true) (-1:Int) (@IntKind.max @IntKind.u32)) b1) d3)))
 else
  bif (decide (r0=(1:Int))) then
   some ((bits .or .u32 (bits .or .u32 (bits .and .u32 b1 c2) (bits .and .u32 b1 d3)) (bits .and .u32 c2 d3)))
  else
   some ((bits .xor .u32 (bits .xor .u32 b1 c2) d3))
theorem as7 (r0:Int)(b1:Int)(c2:Int)(d3:Int):(runK Tryz.prog (Ev28 N) 400 152 [(.int .i64),(.int .u32),(.int .u32),(.int .u32)] [(.int .u32)] (r0,b1,c2,d3,())).run=aiV N r0 b1 c2 d3:=by kernel_rfl
noncomputable def Ev29:(R:Type)→Env R:=Env.addFn (Ev28 N) 152 (fun R=>fnK [(.int .i64),(.int .u32),(.int .u32),(.int .u32)] [(.int .u32)] (fun c=>aiV N c.1 c.2.1 c.2.2.1 c.2.2.2.1))
theorem aBJ (R:Type):EnvOK Tryz.prog (Ev29 N R):=EnvOK.addFn hmx (aBK N R) (aBK N _) (by kernel_rfl) (fun c=>as7 N c.1 c.2.1 c.2.2.1 c.2.2.2.1)
noncomputable def afX (N:Nat)(i0:Int):Option Int:=
 bif (decide ((IntKind.wrap .i64 (@Int.tdiv i0 (16:Int)))=(0:Int))) then
  some ((@Int.tmod i0 (16:Int)))
 else
  bif (decide ((IntKind.wrap .i64 (@Int.tdiv i0 (16:Int)))=(1:Int))) then
   some ((IntKind.wrap .i64 ((IntKind.wrap .i64 ((4:Int)*(@Int.tmod (@Int.tmod i0 (16:Int)) (4:Int))))+(IntKind.wrap .i64 (@Int.tdiv (@Int.tmod i0 (16:Int)) (4:Int))))))
  else
   Option.bind (getI ([0,8,4,12,2,10,6,14,1,9,5,13,3,11,7,15]:List Int) (@Int.tmod i0 (16:Int))) fun (v2:Int)=>
   some (v2)
theorem as6 (i0:Int):(runK Tryz.prog (Ev29 N) 400 153 [(.int .i64)] [(.int .i64)] (i0,())).run=afX N i0:=by kernel_rfl
noncomputable def Ev30:(R:Type)→Env R:=Env.addFn (Ev29 N) 153 (fun R=>fnK [(.int .i64)] [(.int .i64)] (fun c=>afX N c.1))
theorem aBI (R:Type):EnvOK Tryz.prog (Ev30 N R):=EnvOK.addFn hmx (aBJ N R) (aBJ N _) (by kernel_rfl) (fun c=>as6 N c.1)
noncomputable def abM (N:Nat)(x0:Int)(k1:Int):Option Int:=
 bif (decide ((0:Int)≤(IntKind.wrap .u64 ((32:Int)-(bits .and .u64 (IntKind.wrap .u64 k1) (31:Int)))))) then
  some ((bits .or .u32 (IntKind.wrap .u32 (x0*((2:Int) ^ (min (Int.toNat (bits .and .u64 (IntKind.wrap .u64 k1) (31:Int))) (IntKind.bits .u32))))) (@Int.fdiv x0 ((2:Int) ^ (min (Int.toNat (IntKind.wrap .u64 ((32:Int)-(bits .and .u64 (IntKind.wrap .u64 k1) (31:Int))))) (IntKind.bits .u32))))))
 else
  none
theorem ahu (x0:Int)(k1:Int):(runK Tryz.prog (Ev30 N) 400 154 [(.int .u32),(.int .i64)] [(.int .u32)] (x0,k1,())).run=abM N x0 k1:=by kernel_rfl
noncomputable def Ev31:(R:Type)→Env R:=Env.addFn (Ev30 N) 154 (fun R=>fnK [(.int .u32),(.int .i64)] [(.int .u32)] (fun c=>abM N c.1 c.2.1))
theorem aBH (R:Type):EnvOK Tryz.prog (Ev31 N R):=EnvOK.addFn hmx (aBI N R) (aBI N _) (by kernel_rfl) (fun c=>ahu N c.1 c.2.1)
noncomputable def afZ:LI:=⟨70,0,[],⟨[(3,.adr (.arr 4 (.int .u32))),(5,.adr (.arr 3 (.int .u32))),(6,.lit (.box 0 0)),(7,.lit (.box 1 0)),(8,.lit (.box 2 0)),(16,.ty (.int .i64))],[.box 175 (.arr 4 (.int .u32)),.box 216 (.arr 16 (.int .u32)),.box 175 (.arr 4 (.int .u32))]⟩,[(.exit 0,⟨[(3,.adr (.arr 4 (.int .u32))),(6,.lit (.box 0 0)),(8,.lit (.box 1 0))],[.box 175 (.arr 4 (.int .u32)),.box 175 (.arr 4 (.int .u32))]⟩)]⟩
noncomputable def ac8 (X:(((Arr Int 4)×((Arr Int 3)×(Int×Unit)))×((Arr Int 4)×pz24))→Option ((((Arr Int 4)×Unit)×pz7)))(s3:Arr Int 4)(k5:Arr Int 3)(x16:Int)(h0:Arr Int 4)(h1:Arr Int 16)(h2:Arr Int 4):Option ((((Arr Int 4)×Unit)×pz7)):=
 bif (decide (x16<(48:Int))) then
  Option.bind (h2.l[Int.toNat (0:Int)]?) fun (v8:Int)=>
  Option.bind (h2.l[Int.toNat (1:Int)]?) fun (v9:Int)=>
  Option.bind (h2.l[Int.toNat (2:Int)]?) fun (v10:Int)=>
  Option.bind (h2.l[Int.toNat (3:Int)]?) fun (v11:Int)=>
  Option.bind (aiV N (IntKind.wrap .i64 (@Int.tdiv x16 (16:Int))) v9 v10 v11) fun v12=>
  Option.bind (afX N x16) fun v13=>
  bif (decide ((0:Int)≤v13∧v13<((16:Nat):Int))) then
   Option.bind (h1.l[Int.toNat v13]?) fun (v14:Int)=>
   Option.bind (getI k5.l (IntKind.wrap .i64 (@Int.tdiv x16 (16:Int)))) fun (v15:Int)=>
   Option.bind (h2.l[Int.toNat (3:Int)]?) fun (v16:Int)=>
   Option.bind (getI ([(@Arr.mk Int (4:Nat) ([3,7,11,19]:List Int) @aoT._proof_3),(@Arr.mk Int (4:Nat) ([3,5,9,13]:List Int) @aoT._proof_4),(@Arr.mk Int (4:Nat) ([3,9,11,15]:List Int) @aoT._proof_5)]:List ((Arr Int 4))) (IntKind.wrap .i64 (@Int.tdiv x16 (16:Int)))) fun (v17:(Arr Int 4))=>
   Option.bind (getI v17.l (@Int.tmod x16 (4:Int))) fun (v18:Int)=>
   Option.bind (abM N (IntKind.wrap .u32 ((IntKind.wrap .u32 ((IntKind.wrap .u32 (v8+v12))+v14))+v15)) v18) fun v19=>
   Option.bind (h2.l[Int.toNat (1:Int)]?) fun (v20:Int)=>
   Option.bind (h2.l[Int.toNat (2:Int)]?) fun (v21:Int)=>
   (X ((s3,(k5,((IntKind.wrap .i64 (x16+1)),()))),(h0,(h1,((@Arr.cons Int (3:Nat) v16 (@Arr.cons Int (2:Nat) v19 (@Arr.cons Int (1:Nat) v20 (@Arr.cons Int (0:Nat) v21 (@Arr.nil Int))))),())))))
  else
   none
 else
  some (((s3,()),(h0,(h2,()))))
noncomputable def aiX (c:(((Arr Int 4)×((Arr Int 3)×(Int×Unit)))×((Arr Int 4)×pz24))):Option ((((Arr Int 4)×Unit)×pz7)):=gl (fun X c=>ac8 N X c.1.1 c.1.2.1 c.1.2.2.1 c.2.1 c.2.2.1 c.2.2.2.1) N c
theorem ani (X:(((Arr Int 4)×((Arr Int 3)×(Int×Unit)))×((Arr Int 4)×pz24))→Option ((((Arr Int 4)×Unit)×pz7)))(s3:Arr Int 4)(k5:Arr Int 3)(x16:Int)(h0:Arr Int 4)(h1:Arr Int 16)(h2:Arr Int 4):(aal Tryz.prog (Ev31 N) 400 [115] afZ (aah Tryz.prog [115] 4) X ((s3,k5,x16,()),(h0,h1,h2,()))).run=ac8 N X s3 k5 x16 h0 h1 h2:=by kernel_rfl
noncomputable def Ev32:(R:Type)→Env R:=Env.addLp (Ev31 N) [115] 0 4 (fun R=>lpK Tryz.prog afZ (fun X c=>ac8 N X c.1.1 c.1.2.1 c.1.2.2.1 c.2.1 c.2.2.1 c.2.2.2.1) N)
theorem aBG (R:Type):EnvOK Tryz.prog (Ev32 N R):=EnvOK.addLp (aBH N R) (by kernel_rfl) (aao (li:=afZ) hmx (aBH N _) (by kernel_rfl) aaa (fun X c=>ani N X c.1.1 c.1.2.1 c.1.2.2.1 c.2.1 c.2.2.1 c.2.2.2.1) N)
noncomputable def ae9:LI:=⟨70,0,[],⟨[(3,.adr (.arr 4 (.int .u32))),(6,.lit (.box 0 0)),(8,.lit (.box 1 0)),(57,.ty (.int .i64))],[.box 175 (.arr 4 (.int .u32)),.box 175 (.arr 4 (.int .u32))]⟩,[(.exit 2,⟨[(6,.lit (.box 0 0)),(8,.lit (.box 1 0))],[.box 175 (.arr 4 (.int .u32)),.box 175 (.arr 4 (.int .u32))]⟩)]⟩
noncomputable def acL (N:Nat)(X:(pz23×pz7)→Option ((Unit×pz7)))(s3:Arr Int 4)(x57:Int)(h0:Arr Int 4)(h1:Arr Int 4):Option ((Unit×pz7)):=
 bif (decide (x57<(4:Int))) then
  bif (decide ((0:Int)≤x57∧x57<((4:Nat):Int))) then
   Option.bind (h1.l[Int.toNat x57]?) fun (v6:Int)=>
   Option.bind (getI s3.l x57) fun (v7:Int)=>
   bif (decide ((0:Int)≤x57∧x57<((4:Nat):Int))) then
    Option.bind (h1.l[Int.toNat x57]?) fun (v8:Int)=>
    (X ((s3,((IntKind.wrap .i64 (x57+1)),())),(h0,((h1.set (Int.toNat x57) (IntKind.wrap .u32 (v6+v7))),()))))
   else
    none
  else
   none
 else
  some (((),(h0,(h1,()))))
noncomputable def ais (c:(pz23×pz7)):Option ((Unit×pz7)):=gl (fun X c=>acL N X c.1.1 c.1.2.1 c.2.1 c.2.2.1) N c
theorem al9 (X:(pz23×pz7)→Option ((Unit×pz7)))(s3:Arr Int 4)(x57:Int)(h0:Arr Int 4)(h1:Arr Int 4):(aal Tryz.prog (Ev32 N) 400 [115] ae9 (aah Tryz.prog [115] 11) X ((s3,x57,()),(h0,h1,()))).run=acL N X s3 x57 h0 h1:=by kernel_rfl
noncomputable def Ev33:(R:Type)→Env R:=Env.addLp (Ev32 N) [115] 0 11 (fun R=>lpK Tryz.prog ae9 (fun X c=>acL N X c.1.1 c.1.2.1 c.2.1 c.2.2.1) N)
theorem aBF (R:Type):EnvOK Tryz.prog (Ev33 N R):=EnvOK.addLp (aBG N R) (by kernel_rfl) (aao (li:=ae9) hmx (aBG N _) (by kernel_rfl) aaa (fun X c=>al9 N X c.1.1 c.1.2.1 c.2.1 c.2.2.1) N)
noncomputable def aeA (s0:Arr Int 4)(b1:Arr Int 64)(k2:Arr Int 3):Option (Arr Int 4):=
 Option.bind (aiU N b1) fun v4=>
 Option.bind (aiX N ((s0,(k2,((0:Int),()))),((@Arr.cons Int 3 0 (@Arr.cons Int 2 0 (@Arr.cons Int 1 0 (@Arr.cons Int 0 0 (@Arr.nil Int))))),(v4,(s0,()))))) fun v5=>
 Option.bind (ais N ((v5.1.1,((0:Int),())),(v5.2.1,(v5.2.2.1,())))) fun v6=>
 some (v6.2.2.1)
theorem arJ (s0:Arr Int 4)(b1:Arr Int 64)(k2:Arr Int 3):(runK Tryz.prog (Ev33 N) 400 115 [(.arr 4 (.int .u32)),(.arr 64 (.int .u8)),(.arr 3 (.int .u32))] [(.arr 4 (.int .u32))] (s0,b1,k2,())).run=aeA N s0 b1 k2:=by kernel_rfl
noncomputable def Ev34:(R:Type)→Env R:=Env.addFn (Ev33 N) 115 (fun R=>fnK [(.arr 4 (.int .u32)),(.arr 64 (.int .u8)),(.arr 3 (.int .u32))] [(.arr 4 (.int .u32))] (fun c=>aeA N c.1 c.2.1 c.2.2.1))
theorem aBE (R:Type):EnvOK Tryz.prog (Ev34 N R):=EnvOK.addFn hmx (aBF N R) (aBF N _) (by kernel_rfl) (fun c=>arJ N c.1 c.2.1 c.2.2.1)
noncomputable def aj7:LI:=⟨35,0,[],⟨[(2,.lit (.box 0 0)),(3,.ty (.sl (.int .u8))),(4,.lit (.box 1 0)),(5,.lit (.box 2 0)),(6,.ty (.int .i64))],[.box 27 (.arr 16 (.int .u8)),.box 175 (.arr 4 (.int .u32)),.box 177 (.arr 3 (.int .u32))]⟩,[(.exit 0,⟨[(2,.lit (.box 0 0)),(4,.lit (.box 1 0))],[.box 27 (.arr 16 (.int .u8)),.box 175 (.arr 4 (.int .u32))]⟩)]⟩
noncomputable def aht (X:(pz5×((Arr Int 16)×((Arr Int 4)×((Arr Int 3)×Unit))))→Option ((Unit×pz24)))(all3:List (Int))(i6:Int)(h0:Arr Int 16)(h1:Arr Int 4)(h2:Arr Int 3):Option ((Unit×pz24)):=
 bif (decide (i6<(((List.length all3):Nat):Int))) then
  Option.bind (subI all3 i6 (IntKind.wrap .i64 (i6+64))) fun (v7:(List Int))=>
  Option.bind (@ac1 Int (64:Nat) v7) fun (v8:(Arr Int 64))=>
  Option.bind (aeA N h1 v8 h2) fun v9=>
  (X ((all3,((IntKind.wrap .i64 (i6+64)),())),(h0,(v9,(h2,())))))
 else
  some (((),(h0,(h1,()))))
noncomputable def anj (c:(pz5×((Arr Int 16)×((Arr Int 4)×((Arr Int 3)×Unit))))):Option ((Unit×pz24)):=gl (fun X c=>aht N X c.1.1 c.1.2.1 c.2.1 c.2.2.1 c.2.2.2.1) N c
theorem as8 (X:(pz5×((Arr Int 16)×((Arr Int 4)×((Arr Int 3)×Unit))))→Option ((Unit×pz24)))(all3:List (Int))(i6:Int)(h0:Arr Int 16)(h1:Arr Int 4)(h2:Arr Int 3):(aal Tryz.prog (Ev34 N) 400 [79] aj7 (aah Tryz.prog [79] 5) X ((all3,i6,()),(h0,h1,h2,()))).run=aht N X all3 i6 h0 h1 h2:=by kernel_rfl
noncomputable def Ev35:(R:Type)→Env R:=Env.addLp (Ev34 N) [79] 0 5 (fun R=>lpK Tryz.prog aj7 (fun X c=>aht N X c.1.1 c.1.2.1 c.2.1 c.2.2.1 c.2.2.2.1) N)
theorem aGg (R:Type):EnvOK Tryz.prog (Ev35 N R):=EnvOK.addLp (aBE N R) (by kernel_rfl) (aao (li:=aj7) hmx (aBE N _) (by kernel_rfl) aaa (fun X c=>as8 N X c.1.1 c.1.2.1 c.2.1 c.2.2.1 c.2.2.2.1) N)
noncomputable def Ev36:(R:Type)→Env R:=Env.addBx (Ev35 N) [(116,0)]
theorem aBD (R:Type):EnvOK Tryz.prog (Ev36 N R):=EnvOK.addBx (aGg N R) [(116,0)]
noncomputable def afY:LI:=⟨25,0,[(3,5)],⟨[(2,.lit (.box 0 0)),(3,.lit (.own 1)),(8,.ty (.arr 4 (.int .u32))),(9,.ty (.int .i64))],[.box 27 (.arr 16 (.int .u8)),.own (.int .u8) 5]⟩,[(.exit 0,⟨[(2,.lit (.box 0 0)),(3,.lit (.own 1))],[.box 27 (.arr 16 (.int .u8)),.own (.int .u8) 5]⟩)]⟩
noncomputable def acv (X:(pz23×pz16)→Option ((Unit×pz16)))(x8:Arr Int 4)(x9:Int)(h0:Arr Int 16)(h1:List (Int)):Option ((Unit×pz16)):=
 bif (decide (x9<(4:Int))) then
  Option.bind (getI x8.l x9) fun (v6:Int)=>
  Option.bind (abw N (IntKind.wrap .u64 v6) (4:Int) true) fun v7=>
  bif (aac ((List.length h1)+(List.length v7.1)) 1) then
   (X ((x8,((IntKind.wrap .i64 (x9+1)),())),(h0,((h1++v7.1),()))))
  else
   none
 else
  some (((),(h0,(h1,()))))
noncomputable def aiW (c:(pz23×pz16)):Option ((Unit×pz16)):=gl (fun X c=>acv N X c.1.1 c.1.2.1 c.2.1 c.2.2.1) N c
theorem ang (X:(pz23×pz16)→Option ((Unit×pz16)))(x8:Arr Int 4)(x9:Int)(h0:Arr Int 16)(h1:List (Int)):(aal Tryz.prog (Ev36 N) 400 [116] afY (aah Tryz.prog [116] 3) X ((x8,x9,()),(h0,h1,()))).run=acv N X x8 x9 h0 h1:=by kernel_rfl
noncomputable def Ev37:(R:Type)→Env R:=Env.addLp (Ev36 N) [116] 0 3 (fun R=>lpK Tryz.prog afY (fun X c=>acv N X c.1.1 c.1.2.1 c.2.1 c.2.2.1) N)
theorem aBC (R:Type):EnvOK Tryz.prog (Ev37 N R):=EnvOK.addLp (aBD N R) (by kernel_rfl) (aao (li:=afY) hmx (aBD N _) (by kernel_rfl) aaa (fun X c=>ang N X c.1.1 c.1.2.1 c.2.1 c.2.2.1) N)
noncomputable def ahs (s0:Arr Int 4):Option (Arr Int 16):=
 Option.bind (aiW N ((s0,((0:Int),())),(zc16,(([]:List Int),())))) fun v2=>
 Option.bind (@ac1 Int (16:Nat) v2.2.2.1) fun (v3:(Arr Int 16))=>
 some (v3)
theorem arI (s0:Arr Int 4):(runK Tryz.prog (Ev37 N) 400 116 [(.arr 4 (.int .u32))] [(.arr 16 (.int .u8))] (s0,())).run=ahs N s0:=by kernel_rfl
noncomputable def Ev38:(R:Type)→Env R:=Env.addFn (Ev37 N) 116 (fun R=>fnK [(.arr 4 (.int .u32))] [(.arr 16 (.int .u8))] (fun c=>ahs N c.1))
theorem aBB (R:Type):EnvOK Tryz.prog (Ev38 N R):=EnvOK.addFn hmx (aBC N R) (aBC N _) (by kernel_rfl) (fun c=>arI N c.1)
noncomputable def alN (parts0:List (List Int)):Option (Arr Int 16):=
 Option.bind (ad5 N ((parts0,((0:Int),(parts0,((((List.length parts0):Nat):Int),((0:Int),()))))),(zc16,()))) fun v2=>
 bif ((decide ((0:Int)≤(0:Int)∧(0:Int)≤v2.1.2.1))&&(aac (Int.toNat v2.1.2.1) 1)) then
  Option.bind (ad4 N ((v2.1.1,((((List.length v2.1.1):Nat):Int),((0:Int),()))),(v2.2.1,((@List.replicate Int (Int.toNat (0:Int)) (0:Int)),())))) fun v3=>
  Option.bind (akE N (IntKind.wrap .u64 (((List.length v3.2.2.1):Nat):Int))) fun v4=>
  bif (aac ((List.length v3.2.2.1)+(List.length v4)) 1) then
   Option.bind (@afk N) fun (v5:(Arr Int 3))=>
   Option.bind (anj N (((v3.2.2.1++v4),((0:Int),())),(v3.2.1,((@Arr.cons Int 3 1732584193 (@Arr.cons Int 2 4023233417 (@Arr.cons Int 1 2562383102 (@Arr.cons Int 0 271733878 (@Arr.nil Int))))),(v5,()))))) fun v6=>
   Option.bind (ahs N v6.2.2.1) fun v7=>
   some (v7)
  else
   none
 else
  none
theorem aCE (parts0:List (List Int)):(runK Tryz.prog (Ev38 N) 400 79 [(.sl (.sl (.int .u8)))] [(.arr 16 (.int .u8))] (parts0,())).run=alN N parts0:=by kernel_rfl
noncomputable def Ev39:(R:Type)→Env R:=Env.addFn (Ev38 N) 79 (fun R=>fnK [(.sl (.sl (.int .u8)))] [(.arr 16 (.int .u8))] (fun c=>alN N c.1))
theorem aGf (R:Type):EnvOK Tryz.prog (Ev39 N R):=EnvOK.addFn hmx (aBB N R) (aBB N _) (by kernel_rfl) (fun c=>aCE N c.1)
noncomputable def Ev40:(R:Type)→Env R:=Env.addBx (Ev39 N) [(88,0)]
theorem aBA (R:Type):EnvOK Tryz.prog (Ev40 N R):=EnvOK.addBx (aGf N R) [(88,0)]
noncomputable def adw (N:Nat)(i0:Int):Option Int:=
 bif (decide ((IntKind.wrap .i64 (@Int.tdiv i0 (16:Int)))=(0:Int))) then
  some (i0)
 else
  bif (decide ((IntKind.wrap .i64 (@Int.tdiv i0 (16:Int)))=(1:Int))) then
   some ((IntKind.wrap .i64 ((IntKind.wrap .i64 ((@Int.tmod i0 (4:Int))*(4:Int)))+(@Int.tmod (IntKind.wrap .i64 (@Int.tdiv i0 (4:Int))) (4:Int)))))
  else
   Option.bind (getI ([0,8,4,12,2,10,6,14,1,9,5,13,3,11,7,15]:List Int) (IntKind.wrap .i64 (i0-32))) fun (v2:Int)=>
   some (v2)
theorem apO (i0:Int):(runK Tryz.prog (Ev40 N) 400 128 [(.int .i64)] [(.int .i64)] (i0,())).run=adw N i0:=by kernel_rfl
noncomputable def Ev41:(R:Type)→Env R:=Env.addFn (Ev40 N) 128 (fun R=>fnK [(.int .i64)] [(.int .i64)] (fun c=>adw N c.1))
theorem aBz (R:Type):EnvOK Tryz.prog (Ev41 N R):=EnvOK.addFn hmx (aBA N R) (aBA N _) (by kernel_rfl) (fun c=>apO N c.1)
noncomputable def arm (N:Nat)(b0:Int)(c1:Int)(d2:Int):Option Int:=
 some ((bits .or .u32 (bits .or .u32 (bits .and .u32 b0 c1) (bits .and .u32 b0 d2)) (bits .and .u32 c1 d2)))
theorem asH (b0:Int)(c1:Int)(d2:Int):(runK Tryz.prog (Ev41 N) 400 164 [(.int .u32),(.int .u32),(.int .u32)] [(.int .u32)] (b0,c1,d2,())).run=arm N b0 c1 d2:=by kernel_rfl
noncomputable def Ev42:(R:Type)→Env R:=Env.addFn (Ev41 N) 164 (fun R=>fnK [(.int .u32),(.int .u32),(.int .u32)] [(.int .u32)] (fun c=>arm N c.1 c.2.1 c.2.2.1))
theorem aBy (R:Type):EnvOK Tryz.prog (Ev42 N R):=EnvOK.addFn hmx (aBz N R) (aBz N _) (by kernel_rfl) (fun c=>asH N c.1 c.2.1 c.2.2.1)
noncomputable def ahm (N:Nat)(round0:Int)(b1:Int)(c2:Int)(d3:Int):Option Int:=
 bif (decide (round0=(0:Int))) then
  some ((bits .or .u32 (bits .and .u32 b1 c2) (bits .and .u32 (IntKind.wrap .u32 ((4294967295:Int)-b1)) d3)))
 else
  bif (decide (round0=(1:Int))) then
   some ((IntKind.wrap .u32 ((bits .or .u32 (bits .or .u32 (bits .and .u32 b1 c2) (bits .and .u32 b1 d3)) (bits .and .u32 c2 d3))+1518500249)))
  else
   some ((IntKind.wrap .u32 ((bits .xor .u32 (bits .xor .u32 b1 c2) d3)+1859775393)))
theorem aro (round0:Int)(b1:Int)(c2:Int)(d3:Int):(runK Tryz.prog (Ev42 N) 400 130 [(.int .i64),(.int .u32),(.int .u32),(.int .u32)] [(.int .u32)] (round0,b1,c2,d3,())).run=ahm N round0 b1 c2 d3:=by kernel_rfl
noncomputable def Ev43:(R:Type)→Env R:=Env.addFn (Ev42 N) 130 (fun R=>fnK [(.int .i64),(.int .u32),(.int .u32),(.int .u32)] [(.int .u32)] (fun c=>ahm N c.1 c.2.1 c.2.2.1 c.2.2.2.1))
theorem aBx (R:Type):EnvOK Tryz.prog (Ev43 N R):=EnvOK.addFn hmx (aBy N R) (aBy N _) (by kernel_rfl) (fun c=>aro N c.1 c.2.1 c.2.2.1 c.2.2.2.1)
noncomputable def aju (N:Nat)(x0:Int)(n1:Int):Option Int:=
 bif (decide ((0:Int)≤n1)) then
  bif (decide ((0:Int)≤(IntKind.wrap .i64 ((32:Int)-n1)))) then
   some ((bits .or .u32 (IntKind.wrap .u32 (x0*((2:Int) ^ (min (Int.toNat n1) (IntKind.bits .u32))))) (@Int.fdiv x0 ((2:Int) ^ (min (Int.toNat (IntKind.wrap .i64 ((32:Int)-n1))) (IntKind.bits .u32))))))
  else
   none
 else
  none
theorem arn (x0:Int)(n1:Int):(runK Tryz.prog (Ev43 N) 400 129 [(.int .u32),(.int .i64)] [(.int .u32)] (x0,n1,())).run=aju N x0 n1:=by kernel_rfl
noncomputable def Ev44:(R:Type)→Env R:=Env.addFn (Ev43 N) 129 (fun R=>fnK [(.int .u32),(.int .i64)] [(.int .u32)] (fun c=>aju N c.1 c.2.1))
theorem aBw (R:Type):EnvOK Tryz.prog (Ev44 N R):=EnvOK.addFn hmx (aBx N R) (aBx N _) (by kernel_rfl) (fun c=>arn N c.1 c.2.1)
noncomputable def ae8:LI:=⟨94,0,[],⟨[(2,.adr (.arr 4 (.int .u32))),(3,.adr (.arr 64 (.int .u8))),(4,.lit (.box 0 0)),(5,.ty (.sl (.sl (.int .i64)))),(6,.lit (.box 1 0)),(7,.ty (.int .i64))],[.box 150 (.arr 4 (.int .u32)),.box 150 (.arr 4 (.int .u32))]⟩,[(.exit 0,⟨[(2,.adr (.arr 4 (.int .u32))),(4,.lit (.box 0 0)),(6,.lit (.box 1 0))],[.box 150 (.arr 4 (.int .u32)),.box 150 (.arr 4 (.int .u32))]⟩)]⟩
noncomputable def acJ (X:(((Arr Int 4)×((Arr Int 64)×pz9))×pz7)→Option ((((Arr Int 4)×Unit)×pz7)))(s2:Arr Int 4)(block3:Arr Int 64)(turns5:List (List Int))(i7:Int)(h0:Arr Int 4)(h1:Arr Int 4):Option ((((Arr Int 4)×Unit)×pz7)):=
 bif (decide (i7<(48:Int))) then
  Option.bind (adw N i7) fun v8=>
  Option.bind (getI block3.l (IntKind.wrap .i64 ((4:Int)*v8))) fun (v9:Int)=>
  Option.bind (getI block3.l (IntKind.wrap .i64 ((IntKind.wrap .i64 ((4:Int)*v8))+1))) fun (v10:Int)=>
  Option.bind (getI block3.l (IntKind.wrap .i64 ((IntKind.wrap .i64 ((4:Int)*v8))+2))) fun (v11:Int)=>
  Option.bind (getI block3.l (IntKind.wrap .i64 ((IntKind.wrap .i64 ((4:Int)*v8))+3))) fun (v12:Int)=>
  Option.bind (h1.l[Int.toNat (0:Int)]?) fun (v13:Int)=>
  Option.bind (h1.l[Int.toNat (1:Int)]?) fun (v14:Int)=>
  Option.bind (h1.l[Int.toNat (2:Int)]?) fun (v15:Int)=>
  Option.bind (h1.l[Int.toNat (3:Int)]?) fun (v16:Int)=>
  Option.bind (ahm N (IntKind.wrap .i64 (@Int.tdiv i7 (16:Int))) v14 v15 v16) fun v17=>
  Option.bind (getI turns5 (IntKind.wrap .i64 (@Int.tdiv i7 (16:Int)))) fun (v18:(List Int))=>
  Option.bind (getI v18 (@Int.tmod i7 (4:Int))) fun (v19:Int)=>
  Option.bind (aju N (IntKind.wrap .u32 ((IntKind.wrap .u32 (v13+v17))+(IntKind.wrap .u32 ((IntKind.wrap .u32 ((IntKind.wrap .u32 ((IntKind.wrap .u32 v9)+(IntKind.wrap .u32 ((IntKind.wrap .u32 v10)*(256:Int)))))+(IntKind.wrap .u32 ((IntKind.wrap .u32 v11)*(65536:Int)))))+(IntKind.wrap .u32 ((IntKind.wrap .u32 v12)*(16777216:Int))))))) v19) fun v20=>
  Option.bind (h1.l[Int.toNat (3:Int)]?) fun (v21:Int)=>
  Option.bind (h1.l[Int.toNat (1:Int)]?) fun (v22:Int)=>
  Option.bind (h1.l[Int.toNat (2:Int)]?) fun (v23:Int)=>
  (X ((s2,(block3,(turns5,((IntKind.wrap .i64 (i7+1)),())))),(h0,((@Arr.cons Int (3:Nat) v21 (@Arr.cons Int (2:Nat) v20 (@Arr.cons Int (1:Nat) v22 (@Arr.cons Int (0:Nat) v23 (@Arr.nil Int))))),()))))
 else
  some (((s2,()),(h0,(h1,()))))
noncomputable def aiq (c:(((Arr Int 4)×((Arr Int 64)×pz9))×pz7)):Option ((((Arr Int 4)×Unit)×pz7)):=gl (fun X c=>acJ N X c.1.1 c.1.2.1 c.1.2.2.1 c.1.2.2.2.1 c.2.1 c.2.2.1) N c
theorem al8 (X:(((Arr Int 4)×((Arr Int 64)×pz9))×pz7)→Option ((((Arr Int 4)×Unit)×pz7)))(s2:Arr Int 4)(block3:Arr Int 64)(turns5:List (List Int))(i7:Int)(h0:Arr Int 4)(h1:Arr Int 4):(aal Tryz.prog (Ev44 N) 400 [88] ae8 (aah Tryz.prog [88] 4) X ((s2,block3,turns5,i7,()),(h0,h1,()))).run=acJ N X s2 block3 turns5 i7 h0 h1:=by kernel_rfl
noncomputable def Ev45:(R:Type)→Env R:=Env.addLp (Ev44 N) [88] 0 4 (fun R=>lpK Tryz.prog ae8 (fun X c=>acJ N X c.1.1 c.1.2.1 c.1.2.2.1 c.1.2.2.2.1 c.2.1 c.2.2.1) N)
theorem aBv (R:Type):EnvOK Tryz.prog (Ev45 N R):=EnvOK.addLp (aBw N R) (by kernel_rfl) (aao (li:=ae8) hmx (aBw N _) (by kernel_rfl) aaa (fun X c=>al8 N X c.1.1 c.1.2.1 c.1.2.2.1 c.1.2.2.2.1 c.2.1 c.2.2.1) N)
noncomputable def aes:LI:=⟨94,0,[],⟨[(2,.adr (.arr 4 (.int .u32))),(4,.lit (.box 0 0)),(6,.lit (.box 1 0)),(11,.ty (.int .i64))],[.box 150 (.arr 4 (.int .u32)),.box 150 (.arr 4 (.int .u32))]⟩,[(.exit 2,⟨[(4,.lit (.box 0 0)),(6,.lit (.box 1 0))],[.box 150 (.arr 4 (.int .u32)),.box 150 (.arr 4 (.int .u32))]⟩)]⟩
noncomputable def acg (N:Nat)(X:(pz23×pz7)→Option ((Unit×pz7)))(s2:Arr Int 4)(i11:Int)(h0:Arr Int 4)(h1:Arr Int 4):Option ((Unit×pz7)):=
 bif (decide (i11<(4:Int))) then
  bif (decide ((0:Int)≤i11∧i11<((4:Nat):Int))) then
   Option.bind (h1.l[Int.toNat i11]?) fun (v6:Int)=>
   Option.bind (getI s2.l i11) fun (v7:Int)=>
   bif (decide ((0:Int)≤i11∧i11<((4:Nat):Int))) then
    Option.bind (h1.l[Int.toNat i11]?) fun (v8:Int)=>
    (X ((s2,((IntKind.wrap .i64 (i11+1)),())),(h0,((h1.set (Int.toNat i11) (IntKind.wrap .u32 (v6+v7))),()))))
   else
    none
  else
   none
 else
  some (((),(h0,(h1,()))))
noncomputable def ahn (c:(pz23×pz7)):Option ((Unit×pz7)):=gl (fun X c=>acg N X c.1.1 c.1.2.1 c.2.1 c.2.2.1) N c
theorem alj (X:(pz23×pz7)→Option ((Unit×pz7)))(s2:Arr Int 4)(i11:Int)(h0:Arr Int 4)(h1:Arr Int 4):(aal Tryz.prog (Ev45 N) 400 [88] aes (aah Tryz.prog [88] 11) X ((s2,i11,()),(h0,h1,()))).run=acg N X s2 i11 h0 h1:=by kernel_rfl
noncomputable def Ev46:(R:Type)→Env R:=Env.addLp (Ev45 N) [88] 0 11 (fun R=>lpK Tryz.prog aes (fun X c=>acg N X c.1.1 c.1.2.1 c.2.1 c.2.2.1) N)
theorem aBu (R:Type):EnvOK Tryz.prog (Ev46 N R):=EnvOK.addLp (aBv N R) (by kernel_rfl) (aao (li:=aes) hmx (aBv N _) (by kernel_rfl) aaa (fun X c=>alj N X c.1.1 c.1.2.1 c.2.1 c.2.2.1) N)
noncomputable def afS (s0:Arr Int 4)(block1:Arr Int 64):Option (Arr Int 4):=
 Option.bind (aiq N ((s0,(block1,(([([3,7,11,19]:List Int),([3,5,9,13]:List Int),([3,9,11,15]:List Int)]:List ((List Int))),((0:Int),())))),((@Arr.cons Int 3 0 (@Arr.cons Int 2 0 (@Arr.cons Int 1 0 (@Arr.cons Int 0 0 (@Arr.nil Int))))),(s0,())))) fun v3=>
 Option.bind (ahn N ((v3.1.1,((0:Int),())),(v3.2.1,(v3.2.2.1,())))) fun v4=>
 some (v4.2.2.1)
theorem apS (s0:Arr Int 4)(block1:Arr Int 64):(runK Tryz.prog (Ev46 N) 400 88 [(.arr 4 (.int .u32)),(.arr 64 (.int .u8))] [(.arr 4 (.int .u32))] (s0,block1,())).run=afS N s0 block1:=by kernel_rfl
noncomputable def Ev47:(R:Type)→Env R:=Env.addFn (Ev46 N) 88 (fun R=>fnK [(.arr 4 (.int .u32)),(.arr 64 (.int .u8))] [(.arr 4 (.int .u32))] (fun c=>afS N c.1 c.2.1))
theorem aGe (R:Type):EnvOK Tryz.prog (Ev47 N R):=EnvOK.addFn hmx (aBu N R) (aBu N _) (by kernel_rfl) (fun c=>apS N c.1 c.2.1)
noncomputable def Ev48:(R:Type)→Env R:=Env.addMv (Ev47 N) [(86,1),(86,8)]
theorem aBt (R:Type):EnvOK Tryz.prog (Ev48 N R):=EnvOK.addMv (aGe N R) [(86,1),(86,8)]
noncomputable def afR:LI:=⟨32,0,[],⟨[(0,.ty (.int .u64)),(3,.lit (.own 0))],[.own (.int .u8) 5]⟩,[(.exit 0,⟨[(0,.ty (.int .u64)),(3,.lit (.own 0))],[.own (.int .u8) 5]⟩)]⟩
noncomputable def abv (N:Nat)(X:pz17→Option (pz17))(n0:Int)(h0:List (Int)):Option (pz17):=
 bif (!(decide ((@Int.tmod (IntKind.wrap .u64 (n0+(IntKind.wrap .u64 (((List.length h0):Nat):Int)))) (64:Int))=(56:Int)))) then
  bif (aac ((List.length h0)+(List.length ([0]:List Int))) 1) then
   (X ((n0,()),((h0++([0]:List Int)),())))
  else
   none
 else
  some (((n0,()),(h0,())))
noncomputable def amZ (c:pz17):Option (pz17):=gl (fun X c=>abv N X c.1.1 c.2.1) N c
theorem amY (X:pz17→Option (pz17))(n0:Int)(h0:List (Int)):(aal Tryz.prog (Ev48 N) 400 [86] afR (aah Tryz.prog [86] 2) X ((n0,()),(h0,()))).run=abv N X n0 h0:=by kernel_rfl
noncomputable def Ev49:(R:Type)→Env R:=Env.addLp (Ev48 N) [86] 0 2 (fun R=>lpK Tryz.prog afR (fun X c=>abv N X c.1.1 c.2.1) N)
theorem aBs (R:Type):EnvOK Tryz.prog (Ev49 N R):=EnvOK.addLp (aBt N R) (by kernel_rfl) (aao (li:=afR) hmx (aBt N _) (by kernel_rfl) aaa (fun X c=>amY N X c.1.1 c.2.1) N)
noncomputable def afQ:LI:=⟨32,0,[],⟨[(3,.lit (.own 0)),(4,.ty (.int .u64)),(5,.ty (.int .i64))],[.own (.int .u8) 5]⟩,[(.exit 2,⟨[(3,.lit (.own 0))],[.own (.int .u8) 5]⟩)]⟩
noncomputable def aa5 (N:Nat)(X:pz15→Option pz1)(bits4:Int)(i5:Int)(h0:List (Int)):Option pz1:=
 bif (decide (i5<(8:Int))) then
  bif (aac ((List.length h0)+(List.length ([(IntKind.wrap .u8 (@Int.tmod bits4 (256:Int)))]:List (Int)))) 1) then
   (X (((IntKind.wrap .u64 (@Int.tdiv bits4 (256:Int))),((IntKind.wrap .i64 (i5+1)),())),((h0++([(IntKind.wrap .u8 (@Int.tmod bits4 (256:Int)))]:List (Int))),())))
  else
   none
 else
  some (((),(h0,())))
noncomputable def afP (c:pz15):Option pz1:=gl (fun X c=>aa5 N X c.1.1 c.1.2.1 c.2.1) N c
theorem amX (X:pz15→Option pz1)(bits4:Int)(i5:Int)(h0:List (Int)):(aal Tryz.prog (Ev49 N) 400 [86] afQ (aah Tryz.prog [86] 6) X ((bits4,i5,()),(h0,()))).run=aa5 N X bits4 i5 h0:=by kernel_rfl
noncomputable def Ev50:(R:Type)→Env R:=Env.addLp (Ev49 N) [86] 0 6 (fun R=>lpK Tryz.prog afQ (fun X c=>aa5 N X c.1.1 c.1.2.1 c.2.1) N)
theorem aBr (R:Type):EnvOK Tryz.prog (Ev50 N R):=EnvOK.addLp (aBs N R) (by kernel_rfl) (aao (li:=afQ) hmx (aBs N _) (by kernel_rfl) aaa (fun X c=>amX N X c.1.1 c.1.2.1 c.2.1) N)
noncomputable def ac4 (n0:Int):Option (List Int):=
 Option.bind (amZ N ((n0,()),(([128]:List Int),()))) fun v2=>
 Option.bind (afP N (((IntKind.wrap .u64 ((8:Int)*v2.1.1)),((0:Int),())),(v2.2.1,()))) fun v3=>
 some (v3.2.1)
theorem arp (n0:Int):(runK Tryz.prog (Ev50 N) 400 86 [(.int .u64)] [(.sl (.int .u8))] (n0,())).run=ac4 N n0:=by kernel_rfl
noncomputable def Ev51:(R:Type)→Env R:=Env.addFn (Ev50 N) 86 (fun R=>fnK [(.int .u64)] [(.sl (.int .u8))] (fun c=>ac4 N c.1))
theorem aBq (R:Type):EnvOK Tryz.prog (Ev51 N R):=EnvOK.addFn hmx (aBr N R) (aBr N _) (by kernel_rfl) (fun c=>arp N c.1)
noncomputable def am0 (N:Nat):Option (Arr Int 4):=
 some ((@Arr.cons Int 3 1732584193 (@Arr.cons Int 2 4023233417 (@Arr.cons Int 1 2562383102 (@Arr.cons Int 0 271733878 (@Arr.nil Int))))))
theorem apR:(runK Tryz.prog (Ev51 N) 400 87 [] [(.arr 4 (.int .u32))] ()).run=am0 N:=by kernel_rfl
noncomputable def Ev52:(R:Type)→Env R:=Env.addFn (Ev51 N) 87 (fun R=>fnK [] [(.arr 4 (.int .u32))] (fun c=>am0 N ))
theorem aBp (R:Type):EnvOK Tryz.prog (Ev52 N R):=EnvOK.addFn hmx (aBq N R) (aBq N _) (by kernel_rfl) (fun c=>apR N )
noncomputable def ahQ:LI:=⟨55,0,[],⟨[(2,.lit (.box 0 0)),(3,.lit (.own 1)),(4,.lit (.box 2 0)),(5,.ty (.int .i64)),(6,.lit (.box 3 0)),(7,.ty (.int .i64))],[.box 27 (.arr 16 (.int .u8)),.own (.int .u8) 5,.box 150 (.arr 4 (.int .u32)),.box 152 (.arr 64 (.int .u8))]⟩,[(.exit 2,⟨[(2,.lit (.box 0 0)),(3,.lit (.own 1)),(4,.lit (.box 2 0)),(5,.ty (.int .i64)),(6,.lit (.box 3 0))],[.box 27 (.arr 16 (.int .u8)),.own (.int .u8) 5,.box 150 (.arr 4 (.int .u32)),.box 152 (.arr 64 (.int .u8))]⟩)]⟩
noncomputable def aeq (N:Nat)(X:((Int×(Int×Unit))×pz20)→Option (((Int×Unit)×pz20)))(x5:Int)(i7:Int)(h0:Arr Int 16)(h1:List (Int))(h2:Arr Int 4)(h3:Arr Int 64):Option (((Int×Unit)×pz20)):=
 bif (decide (i7<(64:Int))) then
  bif (decide ((0:Int)≤(IntKind.wrap .i64 (x5+i7))∧(IntKind.wrap .i64 (x5+i7))<(((List.length h1):Nat):Int))) then
   Option.bind (h1[Int.toNat (IntKind.wrap .i64 (x5+i7))]?) fun (v8:Int)=>
   bif (decide ((0:Int)≤i7∧i7<((64:Nat):Int))) then
    Option.bind (h3.l[Int.toNat i7]?) fun (v9:Int)=>
    (X ((x5,((IntKind.wrap .i64 (i7+1)),())),(h0,(h1,(h2,((h3.set (Int.toNat i7) v8),()))))))
   else
    none
  else
   none
 else
  some (((x5,()),(h0,(h1,(h2,(h3,()))))))
noncomputable def akw (c:((Int×(Int×Unit))×pz20)):Option (((Int×Unit)×pz20)):=gl (fun X c=>aeq N X c.1.1 c.1.2.1 c.2.1 c.2.2.1 c.2.2.2.1 c.2.2.2.2.1) N c
theorem apP (X:((Int×(Int×Unit))×pz20)→Option (((Int×Unit)×pz20)))(x5:Int)(i7:Int)(h0:Arr Int 16)(h1:List (Int))(h2:Arr Int 4)(h3:Arr Int 64):(aal Tryz.prog (Ev52 N) 400 [56] ahQ (aah Tryz.prog [56] 8) X ((x5,i7,()),(h0,h1,h2,h3,()))).run=aeq N X x5 i7 h0 h1 h2 h3:=by kernel_rfl
noncomputable def Ev53:(R:Type)→Env R:=Env.addLp (Ev52 N) [56] 0 8 (fun R=>lpK Tryz.prog ahQ (fun X c=>aeq N X c.1.1 c.1.2.1 c.2.1 c.2.2.1 c.2.2.2.1 c.2.2.2.2.1) N)
theorem aBo (R:Type):EnvOK Tryz.prog (Ev53 N R):=EnvOK.addLp (aBp N R) (by kernel_rfl) (aao (li:=ahQ) hmx (aBp N _) (by kernel_rfl) aaa (fun X c=>apP N X c.1.1 c.1.2.1 c.2.1 c.2.2.1 c.2.2.2.1 c.2.2.2.2.1) N)
noncomputable def ahR:LI:=⟨55,0,[],⟨[(2,.lit (.box 0 0)),(3,.lit (.own 1)),(4,.lit (.box 2 0)),(5,.ty (.int .i64))],[.box 27 (.arr 16 (.int .u8)),.own (.int .u8) 5,.box 150 (.arr 4 (.int .u32))]⟩,[(.exit 0,⟨[(2,.lit (.box 0 0)),(4,.lit (.box 1 0))],[.box 27 (.arr 16 (.int .u8)),.box 150 (.arr 4 (.int .u32))]⟩)]⟩
noncomputable def aer (X:((Int×Unit)×((Arr Int 16)×((List Int)×((Arr Int 4)×Unit))))→Option ((Unit×pz24)))(x5:Int)(h0:Arr Int 16)(h1:List (Int))(h2:Arr Int 4):Option ((Unit×pz24)):=
 bif (decide (x5<(((List.length h1):Nat):Int))) then
  Option.bind (akw N ((x5,((0:Int),())),(h0,(h1,(h2,(zc64,())))))) fun v6=>
  Option.bind (afS N v6.2.2.2.1 v6.2.2.2.2.1) fun v7=>
  (X (((IntKind.wrap .i64 (v6.1.1+64)),()),(v6.2.1,(v6.2.2.1,(v7,())))))
 else
  some (((),(h0,(h2,()))))
noncomputable def akx (c:((Int×Unit)×((Arr Int 16)×((List Int)×((Arr Int 4)×Unit))))):Option ((Unit×pz24)):=gl (fun X c=>aer N X c.1.1 c.2.1 c.2.2.1 c.2.2.2.1) N c
theorem apQ (X:((Int×Unit)×((Arr Int 16)×((List Int)×((Arr Int 4)×Unit))))→Option ((Unit×pz24)))(x5:Int)(h0:Arr Int 16)(h1:List (Int))(h2:Arr Int 4):(aal Tryz.prog (Ev53 N) 400 [56] ahR (aah Tryz.prog [56] 4) X ((x5,()),(h0,h1,h2,()))).run=aer N X x5 h0 h1 h2:=by kernel_rfl
noncomputable def Ev54:(R:Type)→Env R:=Env.addLp (Ev53 N) [56] 0 4 (fun R=>lpK Tryz.prog ahR (fun X c=>aer N X c.1.1 c.2.1 c.2.2.1 c.2.2.2.1) N)
theorem aBn (R:Type):EnvOK Tryz.prog (Ev54 N R):=EnvOK.addLp (aBo N R) (by kernel_rfl) (aao (li:=ahR) hmx (aBo N _) (by kernel_rfl) aaa (fun X c=>apQ N X c.1.1 c.2.1 c.2.2.1 c.2.2.2.1) N)
noncomputable def agC:LI:=⟨55,0,[],⟨[(2,.lit (.box 0 0)),(4,.lit (.box 1 0)),(8,.lit (.box 2 0)),(9,.ty (.int .i64))],[.box 27 (.arr 16 (.int .u8)),.box 150 (.arr 4 (.int .u32)),.box 27 (.arr 16 (.int .u8))]⟩,[(.exit 4,⟨[(2,.lit (.box 0 0)),(8,.lit (.box 1 0))],[.box 27 (.arr 16 (.int .u8)),.box 27 (.arr 16 (.int .u8))]⟩)]⟩
noncomputable def adJ (N:Nat)(X:((Int×Unit)×((Arr Int 16)×((Arr Int 4)×((Arr Int 16)×Unit))))→Option ((Unit×pz12)))(i9:Int)(h0:Arr Int 16)(h1:Arr Int 4)(h2:Arr Int 16):Option ((Unit×pz12)):=
 bif (decide (i9<(16:Int))) then
  bif (decide ((0:Int)≤(IntKind.wrap .i64 (@Int.tdiv i9 (4:Int)))∧(IntKind.wrap .i64 (@Int.tdiv i9 (4:Int)))<((4:Nat):Int))) then
   Option.bind (h1.l[Int.toNat (IntKind.wrap .i64 (@Int.tdiv i9 (4:Int)))]?) fun (v6:Int)=>
   bif (decide ((0:Int)≤(IntKind.wrap .i64 ((8:Int)*(@Int.tmod i9 (4:Int)))))) then
    bif (decide ((0:Int)≤i9∧i9<((16:Nat):Int))) then
     Option.bind (h2.l[Int.toNat i9]?) fun (v7:Int)=>
     (X (((IntKind.wrap .i64 (i9+1)),()),(h0,(h1,((h2.set (Int.toNat i9) (IntKind.wrap .u8 (@Int.fdiv v6 ((2:Int) ^ (min (Int.toNat (IntKind.wrap .i64 ((8:Int)*(@Int.tmod i9 (4:Int))))) (IntKind.bits .u32)))))),())))))
    else
     none
   else
    none
  else
   none
 else
  some (((),(h0,(h2,()))))
noncomputable def ajO (c:((Int×Unit)×((Arr Int 16)×((Arr Int 4)×((Arr Int 16)×Unit))))):Option ((Unit×pz12)):=gl (fun X c=>adJ N X c.1.1 c.2.1 c.2.2.1 c.2.2.2.1) N c
theorem an4 (X:((Int×Unit)×((Arr Int 16)×((Arr Int 4)×((Arr Int 16)×Unit))))→Option ((Unit×pz12)))(i9:Int)(h0:Arr Int 16)(h1:Arr Int 4)(h2:Arr Int 16):(aal Tryz.prog (Ev54 N) 400 [56] agC (aah Tryz.prog [56] 14) X ((i9,()),(h0,h1,h2,()))).run=adJ N X i9 h0 h1 h2:=by kernel_rfl
noncomputable def Ev55:(R:Type)→Env R:=Env.addLp (Ev54 N) [56] 0 14 (fun R=>lpK Tryz.prog agC (fun X c=>adJ N X c.1.1 c.2.1 c.2.2.1 c.2.2.2.1) N)
theorem aBm (R:Type):EnvOK Tryz.prog (Ev55 N R):=EnvOK.addLp (aBn N R) (by kernel_rfl) (aao (li:=agC) hmx (aBn N _) (by kernel_rfl) aaa (fun X c=>an4 N X c.1.1 c.2.1 c.2.2.1 c.2.2.2.1) N)
noncomputable def agr (b0:List (Int)):Option (Arr Int 16):=
 bif (aac (List.length b0) 1) then
  Option.bind (ac4 N (IntKind.wrap .u64 (((List.length b0):Nat):Int))) fun v2=>
  bif (aac ((List.length b0)+(List.length v2)) 1) then
   Option.bind (akx N (((0:Int),()),(zc16,((b0++v2),((@Arr.cons Int 3 1732584193 (@Arr.cons Int 2 4023233417 (@Arr.cons Int 1 2562383102 (@Arr.cons Int 0 271733878 (@Arr.nil Int))))),()))))) fun v3=>
   Option.bind (ajO N (((0:Int),()),(v3.2.1,(v3.2.2.1,(zc16,()))))) fun v4=>
   some (v4.2.2.1)
  else
   none
 else
  none
theorem axs (b0:List (Int)):(runK Tryz.prog (Ev55 N) 400 56 [(.sl (.int .u8))] [(.arr 16 (.int .u8))] (b0,())).run=agr N b0:=by kernel_rfl
noncomputable def Ev56:(R:Type)→Env R:=Env.addFn (Ev55 N) 56 (fun R=>fnK [(.sl (.int .u8))] [(.arr 16 (.int .u8))] (fun c=>agr N c.1))
theorem aBl (R:Type):EnvOK Tryz.prog (Ev56 N R):=EnvOK.addFn hmx (aBm N R) (aBm N _) (by kernel_rfl) (fun c=>axs N c.1)
noncomputable def abO:LI:=⟨33,1,[],⟨[(0,.ty (.sl (.sl (.int .u8)))),(3,.ty (.int .i64)),(9,.ty (.sl (.sl (.int .u8)))),(10,.ty (.int .i64)),(11,.ty (.int .i64))],[.dead]⟩,[(.exit 0,⟨[(0,.ty (.sl (.sl (.int .u8)))),(3,.ty (.int .i64))],[.dead]⟩)]⟩
noncomputable def ab8 (N:Nat)(X:(pz19×Unit)→Option ((pz9×Unit)))(parts0:List (List Int))(size3:Int)(x9:List (List Int))(x10:Int)(x11:Int):Option ((pz9×Unit)):=
 bif (decide (x11<x10)) then
  Option.bind (getI x9 x11) fun (v7:(List Int))=>
  (X ((parts0,((IntKind.wrap .i64 (size3+(((List.length v7):Nat):Int))),(x9,(x10,((IntKind.wrap .i64 (x11+1)),()))))),()))
 else
  some (((parts0,(size3,())),()))
noncomputable def ago (c:(pz19×Unit)):Option ((pz9×Unit)):=gl (fun X c=>ab8 N X c.1.1 c.1.2.1 c.1.2.2.1 c.1.2.2.2.1 c.1.2.2.2.2.1) N c
theorem agn (X:(pz19×Unit)→Option ((pz9×Unit)))(parts0:List (List Int))(size3:Int)(x9:List (List Int))(x10:Int)(x11:Int):(aal Tryz.prog (Ev56 N) 400 [48,3,121] abO (aah Tryz.prog [48,3,121] 3) X ((parts0,size3,x9,x10,x11,()),())).run=ab8 N X parts0 size3 x9 x10 x11:=by kernel_rfl
noncomputable def Ev57:(R:Type)→Env R:=Env.addLp (Ev56 N) [48,3,121] 1 3 (fun R=>lpK Tryz.prog abO (fun X c=>ab8 N X c.1.1 c.1.2.1 c.1.2.2.1 c.1.2.2.2.1 c.1.2.2.2.2.1) N)
theorem aBk (R:Type):EnvOK Tryz.prog (Ev57 N R):=EnvOK.addLp (aBl N R) (by kernel_rfl) (aao (li:=abO) hmx (aBl N _) (by kernel_rfl) aaa (fun X c=>agn N X c.1.1 c.1.2.1 c.1.2.2.1 c.1.2.2.2.1 c.1.2.2.2.2.1) N)
noncomputable def abN:LI:=⟨33,1,[],⟨[(6,.lit (.own 1)),(22,.ty (.sl (.sl (.int .u8)))),(23,.ty (.int .i64)),(24,.ty (.int .i64))],[.dead,.own (.int .u8) 5]⟩,[(.exit 2,⟨[(6,.lit (.own 1))],[.dead,.own (.int .u8) 5]⟩)]⟩
noncomputable def ab7 (N:Nat)(X:(pz4×((List Int)×Unit))→Option pz1)(x22:List (List Int))(x23:Int)(x24:Int)(h0:List (Int)):Option pz1:=
 bif (decide (x24<x23)) then
  Option.bind (getI x22 x24) fun (v6:(List Int))=>
  bif (aac ((List.length h0)+(List.length v6)) 1) then
   (X ((x22,(x23,((IntKind.wrap .i64 (x24+1)),()))),((h0++v6),())))
  else
   none
 else
  some (((),(h0,())))
noncomputable def agm (c:(pz4×((List Int)×Unit))):Option pz1:=gl (fun X c=>ab7 N X c.1.1 c.1.2.1 c.1.2.2.1 c.2.1) N c
theorem agl (X:(pz4×((List Int)×Unit))→Option pz1)(x22:List (List Int))(x23:Int)(x24:Int)(h0:List (Int)):(aal Tryz.prog (Ev57 N) 400 [48,3,121] abN (aah Tryz.prog [48,3,121] 9) X ((x22,x23,x24,()),(h0,()))).run=ab7 N X x22 x23 x24 h0:=by kernel_rfl
noncomputable def Ev58:(R:Type)→Env R:=Env.addLp (Ev57 N) [48,3,121] 1 9 (fun R=>lpK Tryz.prog abN (fun X c=>ab7 N X c.1.1 c.1.2.1 c.1.2.2.1 c.2.1) N)
theorem aBj (R:Type):EnvOK Tryz.prog (Ev58 N R):=EnvOK.addLp (aBk N R) (by kernel_rfl) (aao (li:=abN) hmx (aBk N _) (by kernel_rfl) aaa (fun X c=>agl N X c.1.1 c.1.2.1 c.1.2.2.1 c.2.1) N)
noncomputable def aiC (n0:Int):Option (List Int):=
 Option.bind (abw N (IntKind.wrap .u64 ((8:Int)*n0)) (8:Int) false) fun v2=>
 bif ((decide ((0:Int)≤(@Int.tmod (IntKind.wrap .u64 ((119:Int)-(@Int.tmod n0 (64:Int)))) (64:Int))∧(@Int.tmod (IntKind.wrap .u64 ((119:Int)-(@Int.tmod n0 (64:Int)))) (64:Int))≤(@Int.tmod (IntKind.wrap .u64 ((119:Int)-(@Int.tmod n0 (64:Int)))) (64:Int))))&&(aac (Int.toNat (@Int.tmod (IntKind.wrap .u64 ((119:Int)-(@Int.tmod n0 (64:Int)))) (64:Int))) 1)) then
  Option.bind (ago N ((([([128]:List Int),(@List.replicate Int (Int.toNat (@Int.tmod (IntKind.wrap .u64 ((119:Int)-(@Int.tmod n0 (64:Int)))) (64:Int))) (0:Int)),v2.1]:List ((List Int))),((0:Int),(([([128]:List Int),(@List.replicate Int (Int.toNat (@Int.tmod (IntKind.wrap .u64 ((119:Int)-(@Int.tmod n0 (64:Int)))) (64:Int))) (0:Int)),v2.1]:List ((List Int))),((((List.length ([([128]:List Int),(@List.replicate Int (Int.toNat (@Int.tmod (IntKind.wrap .u64 ((119:Int)-(@Int.tmod n0 (64:Int)))) (64:Int))) (0:Int)),v2.1]:List ((List Int)))):Nat):Int),((0:Int),()))))),())) fun v3=>
  bif ((decide ((0:Int)≤(0:Int)∧(0:Int)≤v3.1.2.1))&&(aac (Int.toNat v3.1.2.1) 1)) then
   Option.bind (agm N ((v3.1.1,((((List.length v3.1.1):Nat):Int),((0:Int),()))),((@List.replicate Int (Int.toNat (0:Int)) (0:Int)),()))) fun v4=>
   some (v4.2.1)
  else
   none
 else
  none
theorem asz (n0:Int):(runK Tryz.prog (Ev58 N) 400 121 [(.int .u64)] [(.sl (.int .u8))] (n0,())).run=aiC N n0:=by kernel_rfl
noncomputable def Ev59:(R:Type)→Env R:=Env.addFn (Ev58 N) 121 (fun R=>fnK [(.int .u64)] [(.sl (.int .u8))] (fun c=>aiC N c.1))
theorem aBi (R:Type):EnvOK Tryz.prog (Ev59 N R):=EnvOK.addFn hmx (aBj N R) (aBj N _) (by kernel_rfl) (fun c=>asz N c.1)
noncomputable def aoB (N:Nat):Option (Arr Int 5):=
 some ((@Arr.cons Int 4 1732584193 (@Arr.cons Int 3 4023233417 (@Arr.cons Int 2 2562383102 (@Arr.cons Int 1 271733878 (@Arr.cons Int 0 3285377520 (@Arr.nil Int)))))))
theorem aq3:(runK Tryz.prog (Ev59 N) 400 122 [] [(.arr 5 (.int .u32))] ()).run=aoB N:=by kernel_rfl
noncomputable def Ev60:(R:Type)→Env R:=Env.addFn (Ev59 N) 122 (fun R=>fnK [] [(.arr 5 (.int .u32))] (fun c=>aoB N ))
theorem aBh (R:Type):EnvOK Tryz.prog (Ev60 N R):=EnvOK.addFn hmx (aBi N R) (aBi N _) (by kernel_rfl) (fun c=>aq3 N )
noncomputable def aca:LI:=⟨33,1,[],⟨[(0,.ty (.sl (.sl (.int .u8)))),(3,.ty (.int .i64)),(9,.ty (.sl (.sl (.int .u8)))),(10,.ty (.int .i64)),(11,.ty (.int .i64))],[.box 111 (.arr 20 (.int .u8))]⟩,[(.exit 0,⟨[(0,.ty (.sl (.sl (.int .u8)))),(3,.ty (.int .i64))],[.box 111 (.arr 20 (.int .u8))]⟩)]⟩
noncomputable def aaU (N:Nat)(X:(pz19×((Arr Int 20)×Unit))→Option ((pz9×((Arr Int 20)×Unit))))(parts0:List (List Int))(size3:Int)(x9:List (List Int))(x10:Int)(x11:Int)(h0:Arr Int 20):Option ((pz9×((Arr Int 20)×Unit))):=
 bif (decide (x11<x10)) then
  Option.bind (getI x9 x11) fun (v8:(List Int))=>
  (X ((parts0,((IntKind.wrap .i64 (size3+(((List.length v8):Nat):Int))),(x9,(x10,((IntKind.wrap .i64 (x11+1)),()))))),(h0,())))
 else
  some (((parts0,(size3,())),(h0,())))
noncomputable def adE (c:(pz19×((Arr Int 20)×Unit))):Option ((pz9×((Arr Int 20)×Unit))):=gl (fun X c=>aaU N X c.1.1 c.1.2.1 c.1.2.2.1 c.1.2.2.2.1 c.1.2.2.2.2.1 c.2.1) N c
theorem ag9 (X:(pz19×((Arr Int 20)×Unit))→Option ((pz9×((Arr Int 20)×Unit))))(parts0:List (List Int))(size3:Int)(x9:List (List Int))(x10:Int)(x11:Int)(h0:Arr Int 20):(aal Tryz.prog (Ev60 N) 400 [48,1,82] aca (aah Tryz.prog [48,1,82] 3) X ((parts0,size3,x9,x10,x11,()),(h0,()))).run=aaU N X parts0 size3 x9 x10 x11 h0:=by kernel_rfl
noncomputable def Ev61:(R:Type)→Env R:=Env.addLp (Ev60 N) [48,1,82] 1 3 (fun R=>lpK Tryz.prog aca (fun X c=>aaU N X c.1.1 c.1.2.1 c.1.2.2.1 c.1.2.2.2.1 c.1.2.2.2.2.1 c.2.1) N)
theorem aBg (R:Type):EnvOK Tryz.prog (Ev61 N R):=EnvOK.addLp (aBh N R) (by kernel_rfl) (aao (li:=aca) hmx (aBh N _) (by kernel_rfl) aaa (fun X c=>ag9 N X c.1.1 c.1.2.1 c.1.2.2.1 c.1.2.2.2.1 c.1.2.2.2.2.1 c.2.1) N)
noncomputable def ab9:LI:=⟨33,1,[],⟨[(6,.lit (.own 1)),(22,.ty (.sl (.sl (.int .u8)))),(23,.ty (.int .i64)),(24,.ty (.int .i64))],[.box 111 (.arr 20 (.int .u8)),.own (.int .u8) 5]⟩,[(.exit 2,⟨[(6,.lit (.own 1))],[.box 111 (.arr 20 (.int .u8)),.own (.int .u8) 5]⟩)]⟩
noncomputable def aaT (N:Nat)(X:(pz4×pz18)→Option ((Unit×pz18)))(x22:List (List Int))(x23:Int)(x24:Int)(h0:Arr Int 20)(h1:List (Int)):Option ((Unit×pz18)):=
 bif (decide (x24<x23)) then
  Option.bind (getI x22 x24) fun (v7:(List Int))=>
  bif (aac ((List.length h1)+(List.length v7)) 1) then
   (X ((x22,(x23,((IntKind.wrap .i64 (x24+1)),()))),(h0,((h1++v7),()))))
  else
   none
 else
  some (((),(h0,(h1,()))))
noncomputable def adD (c:(pz4×pz18)):Option ((Unit×pz18)):=gl (fun X c=>aaT N X c.1.1 c.1.2.1 c.1.2.2.1 c.2.1 c.2.2.1) N c
theorem ag8 (X:(pz4×pz18)→Option ((Unit×pz18)))(x22:List (List Int))(x23:Int)(x24:Int)(h0:Arr Int 20)(h1:List (Int)):(aal Tryz.prog (Ev61 N) 400 [48,1,82] ab9 (aah Tryz.prog [48,1,82] 9) X ((x22,x23,x24,()),(h0,h1,()))).run=aaT N X x22 x23 x24 h0 h1:=by kernel_rfl
noncomputable def Ev62:(R:Type)→Env R:=Env.addLp (Ev61 N) [48,1,82] 1 9 (fun R=>lpK Tryz.prog ab9 (fun X c=>aaT N X c.1.1 c.1.2.1 c.1.2.2.1 c.2.1 c.2.2.1) N)
theorem aBf (R:Type):EnvOK Tryz.prog (Ev62 N R):=EnvOK.addLp (aBg N R) (by kernel_rfl) (aao (li:=ab9) hmx (aBg N _) (by kernel_rfl) aaa (fun X c=>ag8 N X c.1.1 c.1.2.1 c.1.2.2.1 c.2.1 c.2.2.1) N)
noncomputable def ag5 (n0:Int):Option Int:=
 Option.bind (ajs N n0 (2:Int) (30:Int)) fun v2=>
 some ((IntKind.wrap .u32 v2.1))
theorem asy (n0:Int):(runK Tryz.prog (Ev62 N) 400 159 [(.int .i64)] [(.int .u32)] (n0,())).run=ag5 N n0:=by kernel_rfl
noncomputable def Ev63:(R:Type)→Env R:=Env.addFn (Ev62 N) 159 (fun R=>fnK [(.int .i64)] [(.int .u32)] (fun c=>ag5 N c.1))
theorem aBe (R:Type):EnvOK Tryz.prog (Ev63 N R):=EnvOK.addFn hmx (aBf N R) (aBf N _) (by kernel_rfl) (fun c=>asy N c.1)
noncomputable def aeH:Option (Arr Int 4):=
 Option.bind (ag5 N (2:Int)) fun v1=>
 Option.bind (ag5 N (3:Int)) fun v2=>
 Option.bind (ag5 N (5:Int)) fun v3=>
 Option.bind (ag5 N (10:Int)) fun v4=>
 some ((@Arr.cons Int (3:Nat) v1 (@Arr.cons Int (2:Nat) v2 (@Arr.cons Int (1:Nat) v3 (@Arr.cons Int (0:Nat) v4 (@Arr.nil Int))))))
theorem alY:(runK Tryz.prog (Ev63 N) 400 123 [] [(.arr 4 (.int .u32))] ()).run=aeH N:=by kernel_rfl
noncomputable def Ev64:(R:Type)→Env R:=Env.addFn (Ev63 N) 123 (fun R=>fnK [] [(.arr 4 (.int .u32))] (fun c=>aeH N ))
theorem aGd (R:Type):EnvOK Tryz.prog (Ev64 N R):=EnvOK.addFn hmx (aBe N R) (aBe N _) (by kernel_rfl) (fun c=>alY N )
noncomputable def Ev65:(R:Type)→Env R:=Env.addBx (Ev64 N) [(124,0)]
theorem aGc (R:Type):EnvOK Tryz.prog (Ev65 N R):=EnvOK.addBx (aGd N R) [(124,0)]
noncomputable def Ev66:(R:Type)→Env R:=Env.addBx (Ev65 N) [(160,0)]
theorem aBd (R:Type):EnvOK Tryz.prog (Ev66 N R):=EnvOK.addBx (aGc N R) [(160,0)]
noncomputable def afy:LI:=⟨50,0,[],⟨[(1,.adr (.arr 64 (.int .u8))),(2,.lit (.box 0 0)),(3,.lit (.box 1 0)),(7,.ty (.int .i64))],[.box 201 (.arr 80 (.int .u32)),.box 201 (.arr 80 (.int .u32))]⟩,[(.exit 0,⟨[(2,.lit (.box 0 0)),(3,.lit (.box 1 0))],[.box 201 (.arr 80 (.int .u32)),.box 201 (.arr 80 (.int .u32))]⟩)]⟩
noncomputable def acr (X:(((Arr Int 64)×(Int×Unit))×((Arr Int 80)×((Arr Int 80)×Unit)))→Option ((Unit×((Arr Int 80)×((Arr Int 80)×Unit)))))(b1:Arr Int 64)(x7:Int)(h0:Arr Int 80)(h1:Arr Int 80):Option ((Unit×((Arr Int 80)×((Arr Int 80)×Unit)))):=
 bif (decide (x7<(80:Int))) then
  bif (decide (x7<(16:Int))) then
   Option.bind (subI b1.l (IntKind.wrap .i64 ((4:Int)*x7)) (IntKind.wrap .i64 ((IntKind.wrap .i64 ((4:Int)*x7))+4))) fun (v6:(List Int))=>
   Option.bind (aeI N v6 false) fun v7=>
   bif (decide ((0:Int)≤x7∧x7<((80:Nat):Int))) then
    Option.bind (h1.l[Int.toNat x7]?) fun (v8:Int)=>
    (X ((b1,((IntKind.wrap .i64 (x7+1)),())),(h0,((h1.set (Int.toNat x7) (IntKind.wrap .u32 v7.1)),()))))
   else
    none
  else
   bif (decide ((0:Int)≤(IntKind.wrap .i64 (x7-3))∧(IntKind.wrap .i64 (x7-3))<((80:Nat):Int))) then
    Option.bind (h1.l[Int.toNat (IntKind.wrap .i64 (x7-3))]?) fun (v6:Int)=>
    bif (decide ((0:Int)≤(IntKind.wrap .i64 (x7-8))∧(IntKind.wrap .i64 (x7-8))<((80:Nat):Int))) then
     Option.bind (h1.l[Int.toNat (IntKind.wrap .i64 (x7-8))]?) fun (v7:Int)=>
     bif (decide ((0:Int)≤(IntKind.wrap .i64 (x7-14))∧(IntKind.wrap .i64 (x7-14))<((80:Nat):Int))) then
      Option.bind (h1.l[Int.toNat (IntKind.wrap .i64 (x7-14))]?) fun (v8:Int)=>
      bif (decide ((0:Int)≤(IntKind.wrap .i64 (x7-16))∧(IntKind.wrap .i64 (x7-16))<((80:Nat):Int))) then
       Option.bind (h1.l[Int.toNat (IntKind.wrap .i64 (x7-16))]?) fun (v9:Int)=>
       bif (decide ((0:Int)≤x7∧x7<((80:Nat):Int))) then
        Option.bind (h1.l[Int.toNat x7]?) fun (v10:Int)=>
        (X ((b1,((IntKind.wrap .i64 (x7+1)),())),(h0,((h1.set (Int.toNat x7) (bits .or .u32 (IntKind.wrap .u32 ((bits .xor .u32 (bits .xor .u32 (bits .xor .u32 v6 v7) v8) v9)*((2:Int) ^ (min (Int.toNat (bits .and .u64 (IntKind.wrap .u64 (1:Int)) (31:Int))) (IntKind.bits .u32))))) (@Int.fdiv (bits .xor .u32 (bits .xor .u32 (bits .xor .u32 v6 v7) v8) v9) ((2:Int) ^ (min (Int.toNat (IntKind.wrap .u64 ((32:Int)-(bits .and .u64 (IntKind.wrap .u64 (1:Int)) (31:Int))))) (IntKind.bits .u32)))))),()))))
       else
        none
      else
       none
     else
      none
    else
     none
   else
    none
 else
  some (((),(h0,(h1,()))))
noncomputable def aiA (c:(((Arr Int 64)×(Int×Unit))×((Arr Int 80)×((Arr Int 80)×Unit)))):Option ((Unit×((Arr Int 80)×((Arr Int 80)×Unit)))):=gl (fun X c=>acr N X c.1.1 c.1.2.1 c.2.1 c.2.2.1) N c
theorem amD (X:(((Arr Int 64)×(Int×Unit))×((Arr Int 80)×((Arr Int 80)×Unit)))→Option ((Unit×((Arr Int 80)×((Arr Int 80)×Unit)))))(b1:Arr Int 64)(x7:Int)(h0:Arr Int 80)(h1:Arr Int 80):(aal Tryz.prog (Ev66 N) 400 [160] afy (aah Tryz.prog [160] 3) X ((b1,x7,()),(h0,h1,()))).run=acr N X b1 x7 h0 h1:=by kernel_rfl
noncomputable def Ev67:(R:Type)→Env R:=Env.addLp (Ev66 N) [160] 0 3 (fun R=>lpK Tryz.prog afy (fun X c=>acr N X c.1.1 c.1.2.1 c.2.1 c.2.2.1) N)
theorem aBc (R:Type):EnvOK Tryz.prog (Ev67 N R):=EnvOK.addLp (aBd N R) (by kernel_rfl) (aao (li:=afy) hmx (aBd N _) (by kernel_rfl) aaa (fun X c=>amD N X c.1.1 c.1.2.1 c.2.1 c.2.2.1) N)
noncomputable def ajp (b0:Arr Int 64):Option (Arr Int 80):=
 Option.bind (aiA N ((b0,((0:Int),())),((@Arr.cons Int 79 0 (@Arr.cons Int 78 0 (@Arr.cons Int 77 0 (@Arr.cons Int 76 0 (@Arr.cons Int 75 0 (@Arr.cons Int 74 0 (@Arr.cons Int 73 0 (@Arr.cons Int 72 0 (@Arr.cons Int 71 0 (@Arr.cons Int 70 0 (@Arr.cons Int 69 0 (@Arr.cons Int 68 0 (@Arr.cons Int 67 0 (@Arr.cons Int 66 0 (@Arr.cons Int 65 0 (@Arr.cons Int 64 0 zc64)))))))))))))))),((@Arr.cons Int 79 0 (@Arr.cons Int 78 0 (@Arr.cons Int 77 0 (@Arr.cons Int 76 0 (@Arr.cons Int 75 0 (@Arr.cons Int 74 0 (@Arr.cons Int 73 0 (@Arr.cons Int 72 0 (@Arr.cons Int 71 0 (@Arr.cons Int 70 0 (@Arr.cons Int 69 0 (@Arr.cons Int 68 0 (@Arr.cons Int 67 0 (@Arr.cons Int 66 0 (@Arr.cons Int 65 0 (@Arr.cons Int 64 0 zc64)))))))))))))))),())))) fun v2=>
 some (v2.2.2.1)
theorem aqZ (b0:Arr Int 64):(runK Tryz.prog (Ev67 N) 400 160 [(.arr 64 (.int .u8))] [(.arr 80 (.int .u32))] (b0,())).run=ajp N b0:=by kernel_rfl
noncomputable def Ev68:(R:Type)→Env R:=Env.addFn (Ev67 N) 160 (fun R=>fnK [(.arr 64 (.int .u8))] [(.arr 80 (.int .u32))] (fun c=>ajp N c.1))
theorem aBb (R:Type):EnvOK Tryz.prog (Ev68 N R):=EnvOK.addFn hmx (aBc N R) (aBc N _) (by kernel_rfl) (fun c=>aqZ N c.1)
noncomputable def ag6 (N:Nat)(r0:Int)(b1:Int)(c2:Int)(d3:Int):Option Int:=
 bif (decide (r0=(0:Int))) then
  some ((bits .or .u32 (bits .and .u32 b1 c2) (bits .and .u32 (bits .xor .u32 (@ite Int (@Eq Bool (@IntKind.signed @IntKind.u32) true) (@instDecidableEqBool (@IntKind.signed @IntKind.u32) true) (-1:Int) (@IntKind.max @IntKind.u32)) b1) d3)))
 else
  bif (decide (r0=(2:Int))) then
   some ((bits .or .u32 (bits .or .u32 (bits .and .u32 b1 c2) (bits .and .u32 b1 d3)) (bits .and .u32 c2 d3)))
  else
   some ((bits .xor .u32 (bits .xor .u32 b1 c2) d3))
theorem aq1 (r0:Int)(b1:Int)(c2:Int)(d3:Int):(runK Tryz.prog (Ev68 N) 400 161 [(.int .i64),(.int .u32),(.int .u32),(.int .u32)] [(.int .u32)] (r0,b1,c2,d3,())).run=ag6 N r0 b1 c2 d3:=by kernel_rfl
noncomputable def Ev69:(R:Type)→Env R:=Env.addFn (Ev68 N) 161 (fun R=>fnK [(.int .i64),(.int .u32),(.int .u32),(.int .u32)] [(.int .u32)] (fun c=>ag6 N c.1 c.2.1 c.2.2.1 c.2.2.2.1))
theorem aBa (R:Type):EnvOK Tryz.prog (Ev69 N R):=EnvOK.addFn hmx (aBb N R) (aBb N _) (by kernel_rfl) (fun c=>aq1 N c.1 c.2.1 c.2.2.1 c.2.2.2.1)
noncomputable def ae3:LI:=⟨69,0,[],⟨[(3,.adr (.arr 5 (.int .u32))),(5,.adr (.arr 4 (.int .u32))),(6,.lit (.box 0 0)),(7,.lit (.box 1 0)),(8,.lit (.box 2 0)),(16,.ty (.int .i64))],[.box 186 (.arr 5 (.int .u32)),.box 201 (.arr 80 (.int .u32)),.box 186 (.arr 5 (.int .u32))]⟩,[(.exit 0,⟨[(3,.adr (.arr 5 (.int .u32))),(6,.lit (.box 0 0)),(8,.lit (.box 1 0))],[.box 186 (.arr 5 (.int .u32)),.box 186 (.arr 5 (.int .u32))]⟩)]⟩
noncomputable def acF (X:(((Arr Int 5)×pz23)×pz30)→Option ((((Arr Int 5)×Unit)×pz8)))(s3:Arr Int 5)(k5:Arr Int 4)(x16:Int)(h0:Arr Int 5)(h1:Arr Int 80)(h2:Arr Int 5):Option ((((Arr Int 5)×Unit)×pz8)):=
 bif (decide (x16<(80:Int))) then
  Option.bind (h2.l[Int.toNat (0:Int)]?) fun (v8:Int)=>
  Option.bind (h2.l[Int.toNat (1:Int)]?) fun (v9:Int)=>
  Option.bind (h2.l[Int.toNat (2:Int)]?) fun (v10:Int)=>
  Option.bind (h2.l[Int.toNat (3:Int)]?) fun (v11:Int)=>
  Option.bind (ag6 N (IntKind.wrap .i64 (@Int.tdiv x16 (20:Int))) v9 v10 v11) fun v12=>
  Option.bind (h2.l[Int.toNat (4:Int)]?) fun (v13:Int)=>
  Option.bind (getI k5.l (IntKind.wrap .i64 (@Int.tdiv x16 (20:Int)))) fun (v14:Int)=>
  bif (decide ((0:Int)≤x16∧x16<((80:Nat):Int))) then
   Option.bind (h1.l[Int.toNat x16]?) fun (v15:Int)=>
   Option.bind (h2.l[Int.toNat (0:Int)]?) fun (v16:Int)=>
   Option.bind (h2.l[Int.toNat (1:Int)]?) fun (v17:Int)=>
   Option.bind (h2.l[Int.toNat (2:Int)]?) fun (v18:Int)=>
   Option.bind (h2.l[Int.toNat (3:Int)]?) fun (v19:Int)=>
   (X ((s3,(k5,((IntKind.wrap .i64 (x16+1)),()))),(h0,(h1,((@Arr.cons Int (4:Nat) (IntKind.wrap .u32 ((IntKind.wrap .u32 ((IntKind.wrap .u32 ((IntKind.wrap .u32 ((bits .or .u32 (IntKind.wrap .u32 (v8*((2:Int) ^ (min (Int.toNat (bits .and .u64 (IntKind.wrap .u64 (5:Int)) (31:Int))) (IntKind.bits .u32))))) (@Int.fdiv v8 ((2:Int) ^ (min (Int.toNat (IntKind.wrap .u64 ((32:Int)-(bits .and .u64 (IntKind.wrap .u64 (5:Int)) (31:Int))))) (IntKind.bits .u32)))))+v12))+v13))+v14))+v15)) (@Arr.cons Int (3:Nat) v16 (@Arr.cons Int (2:Nat) (bits .or .u32 (IntKind.wrap .u32 (v17*((2:Int) ^ (min (Int.toNat (bits .and .u64 (IntKind.wrap .u64 (30:Int)) (31:Int))) (IntKind.bits .u32))))) (@Int.fdiv v17 ((2:Int) ^ (min (Int.toNat (IntKind.wrap .u64 ((32:Int)-(bits .and .u64 (IntKind.wrap .u64 (30:Int)) (31:Int))))) (IntKind.bits .u32))))) (@Arr.cons Int (1:Nat) v18 (@Arr.cons Int (0:Nat) v19 (@Arr.nil Int)))))),())))))
  else
   none
 else
  some (((s3,()),(h0,(h2,()))))
noncomputable def aim (c:(((Arr Int 5)×pz23)×pz30)):Option ((((Arr Int 5)×Unit)×pz8)):=gl (fun X c=>acF N X c.1.1 c.1.2.1 c.1.2.2.1 c.2.1 c.2.2.1 c.2.2.2.1) N c
theorem alZ (X:(((Arr Int 5)×pz23)×pz30)→Option ((((Arr Int 5)×Unit)×pz8)))(s3:Arr Int 5)(k5:Arr Int 4)(x16:Int)(h0:Arr Int 5)(h1:Arr Int 80)(h2:Arr Int 5):(aal Tryz.prog (Ev69 N) 400 [124] ae3 (aah Tryz.prog [124] 4) X ((s3,k5,x16,()),(h0,h1,h2,()))).run=acF N X s3 k5 x16 h0 h1 h2:=by kernel_rfl
noncomputable def Ev70:(R:Type)→Env R:=Env.addLp (Ev69 N) [124] 0 4 (fun R=>lpK Tryz.prog ae3 (fun X c=>acF N X c.1.1 c.1.2.1 c.1.2.2.1 c.2.1 c.2.2.1 c.2.2.2.1) N)
theorem aA9 (R:Type):EnvOK Tryz.prog (Ev70 N R):=EnvOK.addLp (aBa N R) (by kernel_rfl) (aao (li:=ae3) hmx (aBa N _) (by kernel_rfl) aaa (fun X c=>alZ N X c.1.1 c.1.2.1 c.1.2.2.1 c.2.1 c.2.2.1 c.2.2.2.1) N)
noncomputable def aeg:LI:=⟨69,0,[],⟨[(3,.adr (.arr 5 (.int .u32))),(6,.lit (.box 0 0)),(8,.lit (.box 1 0)),(56,.ty (.int .i64))],[.box 186 (.arr 5 (.int .u32)),.box 186 (.arr 5 (.int .u32))]⟩,[(.exit 2,⟨[(6,.lit (.box 0 0)),(8,.lit (.box 1 0))],[.box 186 (.arr 5 (.int .u32)),.box 186 (.arr 5 (.int .u32))]⟩)]⟩
noncomputable def ab6 (N:Nat)(X:(pz28×pz8)→Option ((Unit×pz8)))(s3:Arr Int 5)(x56:Int)(h0:Arr Int 5)(h1:Arr Int 5):Option ((Unit×pz8)):=
 bif (decide (x56<(5:Int))) then
  bif (decide ((0:Int)≤x56∧x56<((5:Nat):Int))) then
   Option.bind (h1.l[Int.toNat x56]?) fun (v6:Int)=>
   Option.bind (getI s3.l x56) fun (v7:Int)=>
   bif (decide ((0:Int)≤x56∧x56<((5:Nat):Int))) then
    Option.bind (h1.l[Int.toNat x56]?) fun (v8:Int)=>
    (X ((s3,((IntKind.wrap .i64 (x56+1)),())),(h0,((h1.set (Int.toNat x56) (IntKind.wrap .u32 (v6+v7))),()))))
   else
    none
  else
   none
 else
  some (((),(h0,(h1,()))))
noncomputable def ag7 (c:(pz28×pz8)):Option ((Unit×pz8)):=gl (fun X c=>ab6 N X c.1.1 c.1.2.1 c.2.1 c.2.2.1) N c
theorem alc (X:(pz28×pz8)→Option ((Unit×pz8)))(s3:Arr Int 5)(x56:Int)(h0:Arr Int 5)(h1:Arr Int 5):(aal Tryz.prog (Ev70 N) 400 [124] aeg (aah Tryz.prog [124] 11) X ((s3,x56,()),(h0,h1,()))).run=ab6 N X s3 x56 h0 h1:=by kernel_rfl
noncomputable def Ev71:(R:Type)→Env R:=Env.addLp (Ev70 N) [124] 0 11 (fun R=>lpK Tryz.prog aeg (fun X c=>ab6 N X c.1.1 c.1.2.1 c.2.1 c.2.2.1) N)
theorem aA8 (R:Type):EnvOK Tryz.prog (Ev71 N R):=EnvOK.addLp (aA9 N R) (by kernel_rfl) (aao (li:=aeg) hmx (aA9 N _) (by kernel_rfl) aaa (fun X c=>alc N X c.1.1 c.1.2.1 c.2.1 c.2.2.1) N)
noncomputable def adt (s0:Arr Int 5)(b1:Arr Int 64)(k2:Arr Int 4):Option (Arr Int 5):=
 Option.bind (ajp N b1) fun v4=>
 Option.bind (aim N ((s0,(k2,((0:Int),()))),((@Arr.cons Int 4 0 (@Arr.cons Int 3 0 (@Arr.cons Int 2 0 (@Arr.cons Int 1 0 (@Arr.cons Int 0 0 (@Arr.nil Int)))))),(v4,(s0,()))))) fun v5=>
 Option.bind (ag7 N ((v5.1.1,((0:Int),())),(v5.2.1,(v5.2.2.1,())))) fun v6=>
 some (v6.2.2.1)
theorem apq (s0:Arr Int 5)(b1:Arr Int 64)(k2:Arr Int 4):(runK Tryz.prog (Ev71 N) 400 124 [(.arr 5 (.int .u32)),(.arr 64 (.int .u8)),(.arr 4 (.int .u32))] [(.arr 5 (.int .u32))] (s0,b1,k2,())).run=adt N s0 b1 k2:=by kernel_rfl
noncomputable def Ev72:(R:Type)→Env R:=Env.addFn (Ev71 N) 124 (fun R=>fnK [(.arr 5 (.int .u32)),(.arr 64 (.int .u8)),(.arr 4 (.int .u32))] [(.arr 5 (.int .u32))] (fun c=>adt N c.1 c.2.1 c.2.2.1))
theorem aA7 (R:Type):EnvOK Tryz.prog (Ev72 N R):=EnvOK.addFn hmx (aA8 N R) (aA8 N _) (by kernel_rfl) (fun c=>apq N c.1 c.2.1 c.2.2.1)
noncomputable def aiD:LI:=⟨35,0,[],⟨[(2,.lit (.box 0 0)),(3,.ty (.sl (.int .u8))),(4,.lit (.box 1 0)),(5,.lit (.box 2 0)),(6,.ty (.int .i64))],[.box 111 (.arr 20 (.int .u8)),.box 186 (.arr 5 (.int .u32)),.box 150 (.arr 4 (.int .u32))]⟩,[(.exit 0,⟨[(2,.lit (.box 0 0)),(4,.lit (.box 1 0))],[.box 111 (.arr 20 (.int .u8)),.box 186 (.arr 5 (.int .u32))]⟩)]⟩
noncomputable def afp (X:(pz5×((Arr Int 20)×((Arr Int 5)×((Arr Int 4)×Unit))))→Option pz26)(all3:List (Int))(i6:Int)(h0:Arr Int 20)(h1:Arr Int 5)(h2:Arr Int 4):Option pz26:=
 bif (decide (i6<(((List.length all3):Nat):Int))) then
  Option.bind (subI all3 i6 (IntKind.wrap .i64 (i6+64))) fun (v7:(List Int))=>
  Option.bind (@ac1 Int (64:Nat) v7) fun (v8:(Arr Int 64))=>
  Option.bind (adt N h1 v8 h2) fun v9=>
  (X ((all3,((IntKind.wrap .i64 (i6+64)),())),(h0,(v9,(h2,())))))
 else
  some (((),(h0,(h1,()))))
noncomputable def alJ (c:(pz5×((Arr Int 20)×((Arr Int 5)×((Arr Int 4)×Unit))))):Option pz26:=gl (fun X c=>afp N X c.1.1 c.1.2.1 c.2.1 c.2.2.1 c.2.2.2.1) N c
theorem aq2 (X:(pz5×((Arr Int 20)×((Arr Int 5)×((Arr Int 4)×Unit))))→Option pz26)(all3:List (Int))(i6:Int)(h0:Arr Int 20)(h1:Arr Int 5)(h2:Arr Int 4):(aal Tryz.prog (Ev72 N) 400 [82] aiD (aah Tryz.prog [82] 5) X ((all3,i6,()),(h0,h1,h2,()))).run=afp N X all3 i6 h0 h1 h2:=by kernel_rfl
noncomputable def Ev73:(R:Type)→Env R:=Env.addLp (Ev72 N) [82] 0 5 (fun R=>lpK Tryz.prog aiD (fun X c=>afp N X c.1.1 c.1.2.1 c.2.1 c.2.2.1 c.2.2.2.1) N)
theorem aGb (R:Type):EnvOK Tryz.prog (Ev73 N R):=EnvOK.addLp (aA7 N R) (by kernel_rfl) (aao (li:=aiD) hmx (aA7 N _) (by kernel_rfl) aaa (fun X c=>aq2 N X c.1.1 c.1.2.1 c.2.1 c.2.2.1 c.2.2.2.1) N)
noncomputable def Ev74:(R:Type)→Env R:=Env.addBx (Ev73 N) [(125,0)]
theorem aA6 (R:Type):EnvOK Tryz.prog (Ev74 N R):=EnvOK.addBx (aGb N R) [(125,0)]
noncomputable def ae2:LI:=⟨25,0,[(3,5)],⟨[(2,.lit (.box 0 0)),(3,.lit (.own 1)),(8,.ty (.arr 5 (.int .u32))),(9,.ty (.int .i64))],[.box 111 (.arr 20 (.int .u8)),.own (.int .u8) 5]⟩,[(.exit 0,⟨[(2,.lit (.box 0 0)),(3,.lit (.own 1))],[.box 111 (.arr 20 (.int .u8)),.own (.int .u8) 5]⟩)]⟩
noncomputable def abX (X:(pz28×pz18)→Option ((Unit×pz18)))(x8:Arr Int 5)(x9:Int)(h0:Arr Int 20)(h1:List (Int)):Option ((Unit×pz18)):=
 bif (decide (x9<(5:Int))) then
  Option.bind (getI x8.l x9) fun (v6:Int)=>
  Option.bind (abw N (IntKind.wrap .u64 v6) (4:Int) false) fun v7=>
  bif (aac ((List.length h1)+(List.length v7.1)) 1) then
   (X ((x8,((IntKind.wrap .i64 (x9+1)),())),(h0,((h1++v7.1),()))))
  else
   none
 else
  some (((),(h0,(h1,()))))
noncomputable def ail (c:(pz28×pz18)):Option ((Unit×pz18)):=gl (fun X c=>abX N X c.1.1 c.1.2.1 c.2.1 c.2.2.1) N c
theorem alX (X:(pz28×pz18)→Option ((Unit×pz18)))(x8:Arr Int 5)(x9:Int)(h0:Arr Int 20)(h1:List (Int)):(aal Tryz.prog (Ev74 N) 400 [125] ae2 (aah Tryz.prog [125] 3) X ((x8,x9,()),(h0,h1,()))).run=abX N X x8 x9 h0 h1:=by kernel_rfl
noncomputable def Ev75:(R:Type)→Env R:=Env.addLp (Ev74 N) [125] 0 3 (fun R=>lpK Tryz.prog ae2 (fun X c=>abX N X c.1.1 c.1.2.1 c.2.1 c.2.2.1) N)
theorem aA5 (R:Type):EnvOK Tryz.prog (Ev75 N R):=EnvOK.addLp (aA6 N R) (by kernel_rfl) (aao (li:=ae2) hmx (aA6 N _) (by kernel_rfl) aaa (fun X c=>alX N X c.1.1 c.1.2.1 c.2.1 c.2.2.1) N)
noncomputable def afz (s0:Arr Int 5):Option (Arr Int 20):=
 Option.bind (ail N ((s0,((0:Int),())),(zc20,(([]:List Int),())))) fun v2=>
 Option.bind (@ac1 Int (20:Nat) v2.2.2.1) fun (v3:(Arr Int 20))=>
 some (v3)
theorem apo (s0:Arr Int 5):(runK Tryz.prog (Ev75 N) 400 125 [(.arr 5 (.int .u32))] [(.arr 20 (.int .u8))] (s0,())).run=afz N s0:=by kernel_rfl
noncomputable def Ev76:(R:Type)→Env R:=Env.addFn (Ev75 N) 125 (fun R=>fnK [(.arr 5 (.int .u32))] [(.arr 20 (.int .u8))] (fun c=>afz N c.1))
theorem aA4 (R:Type):EnvOK Tryz.prog (Ev76 N R):=EnvOK.addFn hmx (aA5 N R) (aA5 N _) (by kernel_rfl) (fun c=>apo N c.1)
noncomputable def adY (parts0:List (List Int)):Option (Arr Int 20):=
 Option.bind (adE N ((parts0,((0:Int),(parts0,((((List.length parts0):Nat):Int),((0:Int),()))))),(zc20,()))) fun v2=>
 bif ((decide ((0:Int)≤(0:Int)∧(0:Int)≤v2.1.2.1))&&(aac (Int.toNat v2.1.2.1) 1)) then
  Option.bind (adD N ((v2.1.1,((((List.length v2.1.1):Nat):Int),((0:Int),()))),(v2.2.1,((@List.replicate Int (Int.toNat (0:Int)) (0:Int)),())))) fun v3=>
  Option.bind (aiC N (IntKind.wrap .u64 (((List.length v3.2.2.1):Nat):Int))) fun v4=>
  bif (aac ((List.length v3.2.2.1)+(List.length v4)) 1) then
   Option.bind (@aeH N) fun (v5:(Arr Int 4))=>
   Option.bind (alJ N (((v3.2.2.1++v4),((0:Int),())),(v3.2.1,((@Arr.cons Int 4 1732584193 (@Arr.cons Int 3 4023233417 (@Arr.cons Int 2 2562383102 (@Arr.cons Int 1 271733878 (@Arr.cons Int 0 3285377520 (@Arr.nil Int)))))),(v5,()))))) fun v6=>
   Option.bind (afz N v6.2.2.1) fun v7=>
   some (v7)
  else
   none
 else
  none
theorem ayJ (parts0:List (List Int)):(runK Tryz.prog (Ev76 N) 400 82 [(.sl (.sl (.int .u8)))] [(.arr 20 (.int .u8))] (parts0,())).run=adY N parts0:=by kernel_rfl
noncomputable def Ev77:(R:Type)→Env R:=Env.addFn (Ev76 N) 82 (fun R=>fnK [(.sl (.sl (.int .u8)))] [(.arr 20 (.int .u8))] (fun c=>adY N c.1))
theorem aGa (R:Type):EnvOK Tryz.prog (Ev77 N R):=EnvOK.addFn hmx (aA4 N R) (aA4 N _) (by kernel_rfl) (fun c=>ayJ N c.1)
noncomputable def Ev78:(R:Type)→Env R:=Env.addBx (Ev77 N) [(95,0)]
theorem aA3 (R:Type):EnvOK Tryz.prog (Ev78 N R):=EnvOK.addBx (aGa N R) [(95,0)]
noncomputable def aoK (N:Nat)(x0:Int)(n1:Int):Option Int:=
 bif (decide ((0:Int)≤n1)) then
  bif (decide ((0:Int)≤(IntKind.wrap .i64 ((32:Int)-n1)))) then
   some ((bits .or .u32 (IntKind.wrap .u32 (x0*((2:Int) ^ (min (Int.toNat n1) (IntKind.bits .u32))))) (@Int.fdiv x0 ((2:Int) ^ (min (Int.toNat (IntKind.wrap .i64 ((32:Int)-n1))) (IntKind.bits .u32))))))
  else
   none
 else
  none
theorem ark (x0:Int)(n1:Int):(runK Tryz.prog (Ev78 N) 400 136 [(.int .u32),(.int .i64)] [(.int .u32)] (x0,n1,())).run=aoK N x0 n1:=by kernel_rfl
noncomputable def Ev79:(R:Type)→Env R:=Env.addFn (Ev78 N) 136 (fun R=>fnK [(.int .u32),(.int .i64)] [(.int .u32)] (fun c=>aoK N c.1 c.2.1))
theorem aA2 (R:Type):EnvOK Tryz.prog (Ev79 N R):=EnvOK.addFn hmx (aA3 N R) (aA3 N _) (by kernel_rfl) (fun c=>ark N c.1 c.2.1)
noncomputable def ae7:LI:=⟨118,0,[],⟨[(2,.adr (.arr 5 (.int .u32))),(3,.adr (.arr 64 (.int .u8))),(4,.lit (.box 0 0)),(5,.lit (.box 1 0)),(6,.ty (.int .i64))],[.box 158 (.arr 5 (.int .u32)),.box 201 (.arr 80 (.int .u32))]⟩,[(.exit 0,⟨[(2,.adr (.arr 5 (.int .u32))),(4,.lit (.box 0 0)),(5,.lit (.box 1 0))],[.box 158 (.arr 5 (.int .u32)),.box 201 (.arr 80 (.int .u32))]⟩)]⟩
noncomputable def abY (N:Nat)(X:(((Arr Int 5)×((Arr Int 64)×(Int×Unit)))×((Arr Int 5)×((Arr Int 80)×Unit)))→Option ((((Arr Int 5)×Unit)×((Arr Int 5)×((Arr Int 80)×Unit)))))(s2:Arr Int 5)(block3:Arr Int 64)(i6:Int)(h0:Arr Int 5)(h1:Arr Int 80):Option ((((Arr Int 5)×Unit)×((Arr Int 5)×((Arr Int 80)×Unit)))):=
 bif (decide (i6<(80:Int))) then
  bif (decide (i6<(16:Int))) then
   Option.bind (getI block3.l (IntKind.wrap .i64 ((4:Int)*i6))) fun (v7:Int)=>
   Option.bind (getI block3.l (IntKind.wrap .i64 ((IntKind.wrap .i64 ((4:Int)*i6))+1))) fun (v8:Int)=>
   Option.bind (getI block3.l (IntKind.wrap .i64 ((IntKind.wrap .i64 ((4:Int)*i6))+2))) fun (v9:Int)=>
   Option.bind (getI block3.l (IntKind.wrap .i64 ((IntKind.wrap .i64 ((4:Int)*i6))+3))) fun (v10:Int)=>
   bif (decide ((0:Int)≤i6∧i6<((80:Nat):Int))) then
    Option.bind (h1.l[Int.toNat i6]?) fun (v11:Int)=>
    (X ((s2,(block3,((IntKind.wrap .i64 (i6+1)),()))),(h0,((h1.set (Int.toNat i6) (IntKind.wrap .u32 ((IntKind.wrap .u32 ((IntKind.wrap .u32 ((IntKind.wrap .u32 ((IntKind.wrap .u32 v7)*(16777216:Int)))+(IntKind.wrap .u32 ((IntKind.wrap .u32 v8)*(65536:Int)))))+(IntKind.wrap .u32 ((IntKind.wrap .u32 v9)*(256:Int)))))+(IntKind.wrap .u32 v10)))),()))))
   else
    none
  else
   bif (decide ((0:Int)≤(IntKind.wrap .i64 (i6-3))∧(IntKind.wrap .i64 (i6-3))<((80:Nat):Int))) then
    Option.bind (h1.l[Int.toNat (IntKind.wrap .i64 (i6-3))]?) fun (v7:Int)=>
    bif (decide ((0:Int)≤(IntKind.wrap .i64 (i6-8))∧(IntKind.wrap .i64 (i6-8))<((80:Nat):Int))) then
     Option.bind (h1.l[Int.toNat (IntKind.wrap .i64 (i6-8))]?) fun (v8:Int)=>
     bif (decide ((0:Int)≤(IntKind.wrap .i64 (i6-14))∧(IntKind.wrap .i64 (i6-14))<((80:Nat):Int))) then
      Option.bind (h1.l[Int.toNat (IntKind.wrap .i64 (i6-14))]?) fun (v9:Int)=>
      bif (decide ((0:Int)≤(IntKind.wrap .i64 (i6-16))∧(IntKind.wrap .i64 (i6-16))<((80:Nat):Int))) then
       Option.bind (h1.l[Int.toNat (IntKind.wrap .i64 (i6-16))]?) fun (v10:Int)=>
       bif (decide ((0:Int)≤i6∧i6<((80:Nat):Int))) then
        Option.bind (h1.l[Int.toNat i6]?) fun (v11:Int)=>
        (X ((s2,(block3,((IntKind.wrap .i64 (i6+1)),()))),(h0,((h1.set (Int.toNat i6) (bits .or .u32 (IntKind.wrap .u32 ((bits .xor .u32 (bits .xor .u32 (bits .xor .u32 v7 v8) v9) v10)*((2:Int) ^ (min (Int.toNat (1:Int)) (IntKind.bits .u32))))) (@Int.fdiv (bits .xor .u32 (bits .xor .u32 (bits .xor .u32 v7 v8) v9) v10) ((2:Int) ^ (min (Int.toNat (IntKind.wrap .i64 ((32:Int)-1))) (IntKind.bits .u32)))))),()))))
       else
        none
      else
       none
     else
      none
    else
     none
   else
    none
 else
  some (((s2,()),(h0,(h1,()))))
noncomputable def aip (c:(((Arr Int 5)×((Arr Int 64)×(Int×Unit)))×((Arr Int 5)×((Arr Int 80)×Unit)))):Option ((((Arr Int 5)×Unit)×((Arr Int 5)×((Arr Int 80)×Unit)))):=gl (fun X c=>abY N X c.1.1 c.1.2.1 c.1.2.2.1 c.2.1 c.2.2.1) N c
theorem al7 (X:(((Arr Int 5)×((Arr Int 64)×(Int×Unit)))×((Arr Int 5)×((Arr Int 80)×Unit)))→Option ((((Arr Int 5)×Unit)×((Arr Int 5)×((Arr Int 80)×Unit)))))(s2:Arr Int 5)(block3:Arr Int 64)(i6:Int)(h0:Arr Int 5)(h1:Arr Int 80):(aal Tryz.prog (Ev79 N) 400 [95] ae7 (aah Tryz.prog [95] 3) X ((s2,block3,i6,()),(h0,h1,()))).run=abY N X s2 block3 i6 h0 h1:=by kernel_rfl
noncomputable def Ev80:(R:Type)→Env R:=Env.addLp (Ev79 N) [95] 0 3 (fun R=>lpK Tryz.prog ae7 (fun X c=>abY N X c.1.1 c.1.2.1 c.1.2.2.1 c.2.1 c.2.2.1) N)
theorem aA1 (R:Type):EnvOK Tryz.prog (Ev80 N R):=EnvOK.addLp (aA2 N R) (by kernel_rfl) (aao (li:=ae7) hmx (aA2 N _) (by kernel_rfl) aaa (fun X c=>al7 N X c.1.1 c.1.2.1 c.1.2.2.1 c.2.1 c.2.2.1) N)
noncomputable def aiK (N:Nat)(i0:Int)(b1:Int)(c2:Int)(d3:Int):Option Int:=
 bif (decide ((IntKind.wrap .i64 (@Int.tdiv i0 (20:Int)))=(0:Int))) then
  some ((IntKind.wrap .u32 ((bits .or .u32 (bits .and .u32 b1 c2) (bits .and .u32 (IntKind.wrap .u32 ((4294967295:Int)-b1)) d3))+1518500249)))
 else
  bif (decide ((IntKind.wrap .i64 (@Int.tdiv i0 (20:Int)))=(1:Int))) then
   some ((IntKind.wrap .u32 ((bits .xor .u32 (bits .xor .u32 b1 c2) d3)+1859775393)))
  else
   bif (decide ((IntKind.wrap .i64 (@Int.tdiv i0 (20:Int)))=(2:Int))) then
    some ((IntKind.wrap .u32 ((bits .or .u32 (bits .or .u32 (bits .and .u32 b1 c2) (bits .and .u32 b1 d3)) (bits .and .u32 c2 d3))+2400959708)))
   else
    some ((IntKind.wrap .u32 ((bits .xor .u32 (bits .xor .u32 b1 c2) d3)+3395469782)))
theorem asG (i0:Int)(b1:Int)(c2:Int)(d3:Int):(runK Tryz.prog (Ev80 N) 400 137 [(.int .i64),(.int .u32),(.int .u32),(.int .u32)] [(.int .u32)] (i0,b1,c2,d3,())).run=aiK N i0 b1 c2 d3:=by kernel_rfl
noncomputable def Ev81:(R:Type)→Env R:=Env.addFn (Ev80 N) 137 (fun R=>fnK [(.int .i64),(.int .u32),(.int .u32),(.int .u32)] [(.int .u32)] (fun c=>aiK N c.1 c.2.1 c.2.2.1 c.2.2.2.1))
theorem aA0 (R:Type):EnvOK Tryz.prog (Ev81 N R):=EnvOK.addFn hmx (aA1 N R) (aA1 N _) (by kernel_rfl) (fun c=>asG N c.1 c.2.1 c.2.2.1 c.2.2.2.1)
noncomputable def aep:LI:=⟨118,0,[],⟨[(2,.adr (.arr 5 (.int .u32))),(4,.lit (.box 0 0)),(5,.lit (.box 1 0)),(7,.lit (.box 2 0)),(8,.ty (.int .i64))],[.box 158 (.arr 5 (.int .u32)),.box 201 (.arr 80 (.int .u32)),.box 158 (.arr 5 (.int .u32))]⟩,[(.exit 2,⟨[(2,.adr (.arr 5 (.int .u32))),(4,.lit (.box 0 0)),(7,.lit (.box 1 0))],[.box 158 (.arr 5 (.int .u32)),.box 158 (.arr 5 (.int .u32))]⟩)]⟩
noncomputable def acf (X:(pz28×pz30)→Option ((((Arr Int 5)×Unit)×pz8)))(s2:Arr Int 5)(i8:Int)(h0:Arr Int 5)(h1:Arr Int 80)(h2:Arr Int 5):Option ((((Arr Int 5)×Unit)×pz8)):=
 bif (decide (i8<(80:Int))) then
  Option.bind (h2.l[Int.toNat (0:Int)]?) fun (v7:Int)=>
  Option.bind (h2.l[Int.toNat (1:Int)]?) fun (v8:Int)=>
  Option.bind (h2.l[Int.toNat (2:Int)]?) fun (v9:Int)=>
  Option.bind (h2.l[Int.toNat (3:Int)]?) fun (v10:Int)=>
  Option.bind (aiK N i8 v8 v9 v10) fun v11=>
  Option.bind (h2.l[Int.toNat (4:Int)]?) fun (v12:Int)=>
  bif (decide ((0:Int)≤i8∧i8<((80:Nat):Int))) then
   Option.bind (h1.l[Int.toNat i8]?) fun (v13:Int)=>
   Option.bind (h2.l[Int.toNat (0:Int)]?) fun (v14:Int)=>
   Option.bind (h2.l[Int.toNat (1:Int)]?) fun (v15:Int)=>
   Option.bind (h2.l[Int.toNat (2:Int)]?) fun (v16:Int)=>
   Option.bind (h2.l[Int.toNat (3:Int)]?) fun (v17:Int)=>
   (X ((s2,((IntKind.wrap .i64 (i8+1)),())),(h0,(h1,((@Arr.cons Int (4:Nat) (IntKind.wrap .u32 ((IntKind.wrap .u32 ((IntKind.wrap .u32 ((bits .or .u32 (IntKind.wrap .u32 (v7*((2:Int) ^ (min (Int.toNat (5:Int)) (IntKind.bits .u32))))) (@Int.fdiv v7 ((2:Int) ^ (min (Int.toNat (IntKind.wrap .i64 ((32:Int)-5))) (IntKind.bits .u32)))))+v11))+v12))+v13)) (@Arr.cons Int (3:Nat) v14 (@Arr.cons Int (2:Nat) (bits .or .u32 (IntKind.wrap .u32 (v15*((2:Int) ^ (min (Int.toNat (30:Int)) (IntKind.bits .u32))))) (@Int.fdiv v15 ((2:Int) ^ (min (Int.toNat (IntKind.wrap .i64 ((32:Int)-30))) (IntKind.bits .u32))))) (@Arr.cons Int (1:Nat) v16 (@Arr.cons Int (0:Nat) v17 (@Arr.nil Int)))))),())))))
  else
   none
 else
  some (((s2,()),(h0,(h2,()))))
noncomputable def ahl (c:(pz28×pz30)):Option ((((Arr Int 5)×Unit)×pz8)):=gl (fun X c=>acf N X c.1.1 c.1.2.1 c.2.1 c.2.2.1 c.2.2.2.1) N c
theorem ali (X:(pz28×pz30)→Option ((((Arr Int 5)×Unit)×pz8)))(s2:Arr Int 5)(i8:Int)(h0:Arr Int 5)(h1:Arr Int 80)(h2:Arr Int 5):(aal Tryz.prog (Ev81 N) 400 [95] aep (aah Tryz.prog [95] 10) X ((s2,i8,()),(h0,h1,h2,()))).run=acf N X s2 i8 h0 h1 h2:=by kernel_rfl
noncomputable def Ev82:(R:Type)→Env R:=Env.addLp (Ev81 N) [95] 0 10 (fun R=>lpK Tryz.prog aep (fun X c=>acf N X c.1.1 c.1.2.1 c.2.1 c.2.2.1 c.2.2.2.1) N)
theorem aAZ (R:Type):EnvOK Tryz.prog (Ev82 N R):=EnvOK.addLp (aA0 N R) (by kernel_rfl) (aao (li:=aep) hmx (aA0 N _) (by kernel_rfl) aaa (fun X c=>ali N X c.1.1 c.1.2.1 c.2.1 c.2.2.1 c.2.2.2.1) N)
noncomputable def aeo:LI:=⟨118,0,[],⟨[(2,.adr (.arr 5 (.int .u32))),(4,.lit (.box 0 0)),(7,.lit (.box 1 0)),(10,.ty (.int .i64))],[.box 158 (.arr 5 (.int .u32)),.box 158 (.arr 5 (.int .u32))]⟩,[(.exit 4,⟨[(4,.lit (.box 0 0)),(7,.lit (.box 1 0))],[.box 158 (.arr 5 (.int .u32)),.box 158 (.arr 5 (.int .u32))]⟩)]⟩
noncomputable def ace (N:Nat)(X:(pz28×pz8)→Option ((Unit×pz8)))(s2:Arr Int 5)(i10:Int)(h0:Arr Int 5)(h1:Arr Int 5):Option ((Unit×pz8)):=
 bif (decide (i10<(5:Int))) then
  bif (decide ((0:Int)≤i10∧i10<((5:Nat):Int))) then
   Option.bind (h1.l[Int.toNat i10]?) fun (v6:Int)=>
   Option.bind (getI s2.l i10) fun (v7:Int)=>
   bif (decide ((0:Int)≤i10∧i10<((5:Nat):Int))) then
    Option.bind (h1.l[Int.toNat i10]?) fun (v8:Int)=>
    (X ((s2,((IntKind.wrap .i64 (i10+1)),())),(h0,((h1.set (Int.toNat i10) (IntKind.wrap .u32 (v6+v7))),()))))
   else
    none
  else
   none
 else
  some (((),(h0,(h1,()))))
noncomputable def ahk (c:(pz28×pz8)):Option ((Unit×pz8)):=gl (fun X c=>ace N X c.1.1 c.1.2.1 c.2.1 c.2.2.1) N c
theorem alh (X:(pz28×pz8)→Option ((Unit×pz8)))(s2:Arr Int 5)(i10:Int)(h0:Arr Int 5)(h1:Arr Int 5):(aal Tryz.prog (Ev82 N) 400 [95] aeo (aah Tryz.prog [95] 15) X ((s2,i10,()),(h0,h1,()))).run=ace N X s2 i10 h0 h1:=by kernel_rfl
noncomputable def Ev83:(R:Type)→Env R:=Env.addLp (Ev82 N) [95] 0 15 (fun R=>lpK Tryz.prog aeo (fun X c=>ace N X c.1.1 c.1.2.1 c.2.1 c.2.2.1) N)
theorem aAY (R:Type):EnvOK Tryz.prog (Ev83 N R):=EnvOK.addLp (aAZ N R) (by kernel_rfl) (aao (li:=aeo) hmx (aAZ N _) (by kernel_rfl) aaa (fun X c=>alh N X c.1.1 c.1.2.1 c.2.1 c.2.2.1) N)
noncomputable def afO (s0:Arr Int 5)(block1:Arr Int 64):Option (Arr Int 5):=
 Option.bind (aip N ((s0,(block1,((0:Int),()))),((@Arr.cons Int 4 0 (@Arr.cons Int 3 0 (@Arr.cons Int 2 0 (@Arr.cons Int 1 0 (@Arr.cons Int 0 0 (@Arr.nil Int)))))),((@Arr.cons Int 79 0 (@Arr.cons Int 78 0 (@Arr.cons Int 77 0 (@Arr.cons Int 76 0 (@Arr.cons Int 75 0 (@Arr.cons Int 74 0 (@Arr.cons Int 73 0 (@Arr.cons Int 72 0 (@Arr.cons Int 71 0 (@Arr.cons Int 70 0 (@Arr.cons Int 69 0 (@Arr.cons Int 68 0 (@Arr.cons Int 67 0 (@Arr.cons Int 66 0 (@Arr.cons Int 65 0 (@Arr.cons Int 64 0 zc64)))))))))))))))),())))) fun v3=>
 Option.bind (ahl N ((v3.1.1,((0:Int),())),(v3.2.1,(v3.2.2.1,(v3.1.1,()))))) fun v4=>
 Option.bind (ahk N ((v4.1.1,((0:Int),())),(v4.2.1,(v4.2.2.1,())))) fun v5=>
 some (v5.2.2.1)
theorem apN (s0:Arr Int 5)(block1:Arr Int 64):(runK Tryz.prog (Ev83 N) 400 95 [(.arr 5 (.int .u32)),(.arr 64 (.int .u8))] [(.arr 5 (.int .u32))] (s0,block1,())).run=afO N s0 block1:=by kernel_rfl
noncomputable def Ev84:(R:Type)→Env R:=Env.addFn (Ev83 N) 95 (fun R=>fnK [(.arr 5 (.int .u32)),(.arr 64 (.int .u8))] [(.arr 5 (.int .u32))] (fun c=>afO N c.1 c.2.1))
theorem aF9 (R:Type):EnvOK Tryz.prog (Ev84 N R):=EnvOK.addFn hmx (aAY N R) (aAY N _) (by kernel_rfl) (fun c=>apN N c.1 c.2.1)
noncomputable def Ev85:(R:Type)→Env R:=Env.addMv (Ev84 N) [(93,7)]
theorem aAX (R:Type):EnvOK Tryz.prog (Ev85 N R):=EnvOK.addMv (aF9 N R) [(93,7)]
noncomputable def afN:LI:=⟨30,0,[],⟨[(3,.ty (.sl (.int .u8))),(4,.ty (.int .i64)),(5,.lit (.own 0)),(6,.ty (.int .i64))],[.own (.int .u8) 5]⟩,[(.exit 0,⟨[(5,.lit (.own 0))],[.own (.int .u8) 5]⟩)]⟩
noncomputable def acu (N:Nat)(X:(pz3×((List Int)×Unit))→Option pz1)(b3:List (Int))(k4:Int)(i6:Int)(h0:List (Int)):Option pz1:=
 bif (decide ((0:Int)≤i6)) then
  Option.bind (getI b3 (IntKind.wrap .i64 (k4+i6))) fun (v6:Int)=>
  bif (aac ((List.length h0)+(List.length ([v6]:List (Int)))) 1) then
   (X ((b3,(k4,((IntKind.wrap .i64 (i6-1)),()))),((h0++([v6]:List (Int))),())))
  else
   none
 else
  some (((),(h0,())))
noncomputable def aiL (c:(pz3×((List Int)×Unit))):Option pz1:=gl (fun X c=>acu N X c.1.1 c.1.2.1 c.1.2.2.1 c.2.1) N c
theorem amV (X:(pz3×((List Int)×Unit))→Option pz1)(b3:List (Int))(k4:Int)(i6:Int)(h0:List (Int)):(aal Tryz.prog (Ev85 N) 400 [93] afN (aah Tryz.prog [93] 5) X ((b3,k4,i6,()),(h0,()))).run=acu N X b3 k4 i6 h0:=by kernel_rfl
noncomputable def Ev86:(R:Type)→Env R:=Env.addLp (Ev85 N) [93] 0 5 (fun R=>lpK Tryz.prog afN (fun X c=>acu N X c.1.1 c.1.2.1 c.1.2.2.1 c.2.1) N)
theorem aAW (R:Type):EnvOK Tryz.prog (Ev86 N R):=EnvOK.addLp (aAX N R) (by kernel_rfl) (aao (li:=afN) hmx (aAX N _) (by kernel_rfl) aaa (fun X c=>amV N X c.1.1 c.1.2.1 c.1.2.2.1 c.2.1) N)
noncomputable def ahj (n0:Int):Option (List Int):=
 Option.bind (ac4 N n0) fun v2=>
 Option.bind (abV v2 (IntKind.wrap .i64 ((((List.length v2):Nat):Int)-8))) fun (v3:(List Int))=>
 bif (aac (List.length v3) 1) then
  Option.bind (aiL N ((v2,((IntKind.wrap .i64 ((((List.length v2):Nat):Int)-8)),((7:Int),()))),(v3,()))) fun v4=>
  some (v4.2.1)
 else
  none
theorem arl (n0:Int):(runK Tryz.prog (Ev86 N) 400 93 [(.int .u64)] [(.sl (.int .u8))] (n0,())).run=ahj N n0:=by kernel_rfl
noncomputable def Ev87:(R:Type)→Env R:=Env.addFn (Ev86 N) 93 (fun R=>fnK [(.int .u64)] [(.sl (.int .u8))] (fun c=>ahj N c.1))
theorem aAV (R:Type):EnvOK Tryz.prog (Ev87 N R):=EnvOK.addFn hmx (aAW N R) (aAW N _) (by kernel_rfl) (fun c=>arl N c.1)
noncomputable def amW (N:Nat):Option (Arr Int 5):=
 some ((@Arr.cons Int 4 1732584193 (@Arr.cons Int 3 4023233417 (@Arr.cons Int 2 2562383102 (@Arr.cons Int 1 271733878 (@Arr.cons Int 0 3285377520 (@Arr.nil Int)))))))
theorem apM:(runK Tryz.prog (Ev87 N) 400 94 [] [(.arr 5 (.int .u32))] ()).run=amW N:=by kernel_rfl
noncomputable def Ev88:(R:Type)→Env R:=Env.addFn (Ev87 N) 94 (fun R=>fnK [] [(.arr 5 (.int .u32))] (fun c=>amW N ))
theorem aAU (R:Type):EnvOK Tryz.prog (Ev88 N R):=EnvOK.addFn hmx (aAV N R) (aAV N _) (by kernel_rfl) (fun c=>apM N )
noncomputable def ahO:LI:=⟨56,0,[],⟨[(2,.lit (.box 0 0)),(3,.lit (.own 1)),(4,.lit (.box 2 0)),(5,.ty (.int .i64)),(6,.lit (.box 3 0)),(7,.ty (.int .i64))],[.box 111 (.arr 20 (.int .u8)),.own (.int .u8) 5,.box 158 (.arr 5 (.int .u32)),.box 152 (.arr 64 (.int .u8))]⟩,[(.exit 2,⟨[(2,.lit (.box 0 0)),(3,.lit (.own 1)),(4,.lit (.box 2 0)),(5,.ty (.int .i64)),(6,.lit (.box 3 0))],[.box 111 (.arr 20 (.int .u8)),.own (.int .u8) 5,.box 158 (.arr 5 (.int .u32)),.box 152 (.arr 64 (.int .u8))]⟩)]⟩
noncomputable def aem (N:Nat)(X:((Int×(Int×Unit))×pz21)→Option (((Int×Unit)×pz21)))(x5:Int)(i7:Int)(h0:Arr Int 20)(h1:List (Int))(h2:Arr Int 5)(h3:Arr Int 64):Option (((Int×Unit)×pz21)):=
 bif (decide (i7<(64:Int))) then
  bif (decide ((0:Int)≤(IntKind.wrap .i64 (x5+i7))∧(IntKind.wrap .i64 (x5+i7))<(((List.length h1):Nat):Int))) then
   Option.bind (h1[Int.toNat (IntKind.wrap .i64 (x5+i7))]?) fun (v8:Int)=>
   bif (decide ((0:Int)≤i7∧i7<((64:Nat):Int))) then
    Option.bind (h3.l[Int.toNat i7]?) fun (v9:Int)=>
    (X ((x5,((IntKind.wrap .i64 (i7+1)),())),(h0,(h1,(h2,((h3.set (Int.toNat i7) v8),()))))))
   else
    none
  else
   none
 else
  some (((x5,()),(h0,(h1,(h2,(h3,()))))))
noncomputable def aku (c:((Int×(Int×Unit))×pz21)):Option (((Int×Unit)×pz21)):=gl (fun X c=>aem N X c.1.1 c.1.2.1 c.2.1 c.2.2.1 c.2.2.2.1 c.2.2.2.2.1) N c
theorem apK (X:((Int×(Int×Unit))×pz21)→Option (((Int×Unit)×pz21)))(x5:Int)(i7:Int)(h0:Arr Int 20)(h1:List (Int))(h2:Arr Int 5)(h3:Arr Int 64):(aal Tryz.prog (Ev88 N) 400 [59] ahO (aah Tryz.prog [59] 8) X ((x5,i7,()),(h0,h1,h2,h3,()))).run=aem N X x5 i7 h0 h1 h2 h3:=by kernel_rfl
noncomputable def Ev89:(R:Type)→Env R:=Env.addLp (Ev88 N) [59] 0 8 (fun R=>lpK Tryz.prog ahO (fun X c=>aem N X c.1.1 c.1.2.1 c.2.1 c.2.2.1 c.2.2.2.1 c.2.2.2.2.1) N)
theorem aAT (R:Type):EnvOK Tryz.prog (Ev89 N R):=EnvOK.addLp (aAU N R) (by kernel_rfl) (aao (li:=ahO) hmx (aAU N _) (by kernel_rfl) aaa (fun X c=>apK N X c.1.1 c.1.2.1 c.2.1 c.2.2.1 c.2.2.2.1 c.2.2.2.2.1) N)
noncomputable def ahP:LI:=⟨56,0,[],⟨[(2,.lit (.box 0 0)),(3,.lit (.own 1)),(4,.lit (.box 2 0)),(5,.ty (.int .i64))],[.box 111 (.arr 20 (.int .u8)),.own (.int .u8) 5,.box 158 (.arr 5 (.int .u32))]⟩,[(.exit 0,⟨[(2,.lit (.box 0 0)),(4,.lit (.box 1 0))],[.box 111 (.arr 20 (.int .u8)),.box 158 (.arr 5 (.int .u32))]⟩)]⟩
noncomputable def aen (X:((Int×Unit)×((Arr Int 20)×((List Int)×((Arr Int 5)×Unit))))→Option pz26)(x5:Int)(h0:Arr Int 20)(h1:List (Int))(h2:Arr Int 5):Option pz26:=
 bif (decide (x5<(((List.length h1):Nat):Int))) then
  Option.bind (aku N ((x5,((0:Int),())),(h0,(h1,(h2,(zc64,())))))) fun v6=>
  Option.bind (afO N v6.2.2.2.1 v6.2.2.2.2.1) fun v7=>
  (X (((IntKind.wrap .i64 (v6.1.1+64)),()),(v6.2.1,(v6.2.2.1,(v7,())))))
 else
  some (((),(h0,(h2,()))))
noncomputable def akv (c:((Int×Unit)×((Arr Int 20)×((List Int)×((Arr Int 5)×Unit))))):Option pz26:=gl (fun X c=>aen N X c.1.1 c.2.1 c.2.2.1 c.2.2.2.1) N c
theorem apL (X:((Int×Unit)×((Arr Int 20)×((List Int)×((Arr Int 5)×Unit))))→Option pz26)(x5:Int)(h0:Arr Int 20)(h1:List (Int))(h2:Arr Int 5):(aal Tryz.prog (Ev89 N) 400 [59] ahP (aah Tryz.prog [59] 4) X ((x5,()),(h0,h1,h2,()))).run=aen N X x5 h0 h1 h2:=by kernel_rfl
noncomputable def Ev90:(R:Type)→Env R:=Env.addLp (Ev89 N) [59] 0 4 (fun R=>lpK Tryz.prog ahP (fun X c=>aen N X c.1.1 c.2.1 c.2.2.1 c.2.2.2.1) N)
theorem aAS (R:Type):EnvOK Tryz.prog (Ev90 N R):=EnvOK.addLp (aAT N R) (by kernel_rfl) (aao (li:=ahP) hmx (aAT N _) (by kernel_rfl) aaa (fun X c=>apL N X c.1.1 c.2.1 c.2.2.1 c.2.2.2.1) N)
noncomputable def agB:LI:=⟨56,0,[],⟨[(2,.lit (.box 0 0)),(4,.lit (.box 1 0)),(8,.lit (.box 2 0)),(9,.ty (.int .i64))],[.box 111 (.arr 20 (.int .u8)),.box 158 (.arr 5 (.int .u32)),.box 111 (.arr 20 (.int .u8))]⟩,[(.exit 4,⟨[(2,.lit (.box 0 0)),(8,.lit (.box 1 0))],[.box 111 (.arr 20 (.int .u8)),.box 111 (.arr 20 (.int .u8))]⟩)]⟩
noncomputable def adI (N:Nat)(X:((Int×Unit)×((Arr Int 20)×((Arr Int 5)×((Arr Int 20)×Unit))))→Option ((Unit×((Arr Int 20)×((Arr Int 20)×Unit)))))(i9:Int)(h0:Arr Int 20)(h1:Arr Int 5)(h2:Arr Int 20):Option ((Unit×((Arr Int 20)×((Arr Int 20)×Unit)))):=
 bif (decide (i9<(20:Int))) then
  bif (decide ((0:Int)≤(IntKind.wrap .i64 (@Int.tdiv i9 (4:Int)))∧(IntKind.wrap .i64 (@Int.tdiv i9 (4:Int)))<((5:Nat):Int))) then
   Option.bind (h1.l[Int.toNat (IntKind.wrap .i64 (@Int.tdiv i9 (4:Int)))]?) fun (v6:Int)=>
   bif (decide ((0:Int)≤(IntKind.wrap .i64 ((24:Int)-(IntKind.wrap .i64 ((8:Int)*(@Int.tmod i9 (4:Int)))))))) then
    bif (decide ((0:Int)≤i9∧i9<((20:Nat):Int))) then
     Option.bind (h2.l[Int.toNat i9]?) fun (v7:Int)=>
     (X (((IntKind.wrap .i64 (i9+1)),()),(h0,(h1,((h2.set (Int.toNat i9) (IntKind.wrap .u8 (@Int.fdiv v6 ((2:Int) ^ (min (Int.toNat (IntKind.wrap .i64 ((24:Int)-(IntKind.wrap .i64 ((8:Int)*(@Int.tmod i9 (4:Int))))))) (IntKind.bits .u32)))))),())))))
    else
     none
   else
    none
  else
   none
 else
  some (((),(h0,(h2,()))))
noncomputable def ajN (c:((Int×Unit)×((Arr Int 20)×((Arr Int 5)×((Arr Int 20)×Unit))))):Option ((Unit×((Arr Int 20)×((Arr Int 20)×Unit)))):=gl (fun X c=>adI N X c.1.1 c.2.1 c.2.2.1 c.2.2.2.1) N c
theorem an2 (X:((Int×Unit)×((Arr Int 20)×((Arr Int 5)×((Arr Int 20)×Unit))))→Option ((Unit×((Arr Int 20)×((Arr Int 20)×Unit)))))(i9:Int)(h0:Arr Int 20)(h1:Arr Int 5)(h2:Arr Int 20):(aal Tryz.prog (Ev90 N) 400 [59] agB (aah Tryz.prog [59] 14) X ((i9,()),(h0,h1,h2,()))).run=adI N X i9 h0 h1 h2:=by kernel_rfl
noncomputable def Ev91:(R:Type)→Env R:=Env.addLp (Ev90 N) [59] 0 14 (fun R=>lpK Tryz.prog agB (fun X c=>adI N X c.1.1 c.2.1 c.2.2.1 c.2.2.2.1) N)
theorem aAR (R:Type):EnvOK Tryz.prog (Ev91 N R):=EnvOK.addLp (aAS N R) (by kernel_rfl) (aao (li:=agB) hmx (aAS N _) (by kernel_rfl) aaa (fun X c=>an2 N X c.1.1 c.2.1 c.2.2.1 c.2.2.2.1) N)
noncomputable def ajt (b0:List (Int)):Option (Arr Int 20):=
 bif (aac (List.length b0) 1) then
  Option.bind (ahj N (IntKind.wrap .u64 (((List.length b0):Nat):Int))) fun v2=>
  bif (aac ((List.length b0)+(List.length v2)) 1) then
   Option.bind (akv N (((0:Int),()),(zc20,((b0++v2),((@Arr.cons Int 4 1732584193 (@Arr.cons Int 3 4023233417 (@Arr.cons Int 2 2562383102 (@Arr.cons Int 1 271733878 (@Arr.cons Int 0 3285377520 (@Arr.nil Int)))))),()))))) fun v3=>
   Option.bind (ajN N (((0:Int),()),(v3.2.1,(v3.2.2.1,(zc20,()))))) fun v4=>
   some (v4.2.2.1)
  else
   none
 else
  none
theorem axr (b0:List (Int)):(runK Tryz.prog (Ev91 N) 400 59 [(.sl (.int .u8))] [(.arr 20 (.int .u8))] (b0,())).run=ajt N b0:=by kernel_rfl
noncomputable def Ev92:(R:Type)→Env R:=Env.addFn (Ev91 N) 59 (fun R=>fnK [(.sl (.int .u8))] [(.arr 20 (.int .u8))] (fun c=>ajt N c.1))
theorem aAQ (R:Type):EnvOK Tryz.prog (Ev92 N R):=EnvOK.addFn hmx (aAR N R) (aAR N _) (by kernel_rfl) (fun c=>axr N c.1)
noncomputable def aaq (N:Nat)(s0:List UInt8):Option Int:=
 Option.bind (getI s0 (0:Int)) fun (v2:UInt8)=>
 Option.bind (getI s0 (1:Int)) fun (v3:UInt8)=>
 Option.bind (getI s0 (2:Int)) fun (v4:UInt8)=>
 Option.bind (getI s0 (3:Int)) fun (v5:UInt8)=>
 Option.bind (getI s0 (4:Int)) fun (v6:UInt8)=>
 Option.bind (getI s0 (5:Int)) fun (v7:UInt8)=>
 Option.bind (getI s0 (6:Int)) fun (v8:UInt8)=>
 Option.bind (getI s0 (7:Int)) fun (v9:UInt8)=>
 some ((bits .or .u64 (bits .or .u64 (bits .or .u64 (bits .or .u64 (bits .or .u64 (bits .or .u64 (bits .or .u64 (IntKind.wrap .u64 (((@UInt8.toNat v2):Nat):Int)) (IntKind.wrap .u64 ((IntKind.wrap .u64 (((@UInt8.toNat v3):Nat):Int))*((2:Int) ^ (min (Int.toNat (8:Int)) (IntKind.bits .u64)))))) (IntKind.wrap .u64 ((IntKind.wrap .u64 (((@UInt8.toNat v4):Nat):Int))*((2:Int) ^ (min (Int.toNat (16:Int)) (IntKind.bits .u64)))))) (IntKind.wrap .u64 ((IntKind.wrap .u64 (((@UInt8.toNat v5):Nat):Int))*((2:Int) ^ (min (Int.toNat (24:Int)) (IntKind.bits .u64)))))) (IntKind.wrap .u64 ((IntKind.wrap .u64 (((@UInt8.toNat v6):Nat):Int))*((2:Int) ^ (min (Int.toNat (32:Int)) (IntKind.bits .u64)))))) (IntKind.wrap .u64 ((IntKind.wrap .u64 (((@UInt8.toNat v7):Nat):Int))*((2:Int) ^ (min (Int.toNat (40:Int)) (IntKind.bits .u64)))))) (IntKind.wrap .u64 ((IntKind.wrap .u64 (((@UInt8.toNat v8):Nat):Int))*((2:Int) ^ (min (Int.toNat (48:Int)) (IntKind.bits .u64)))))) (IntKind.wrap .u64 ((IntKind.wrap .u64 (((@UInt8.toNat v9):Nat):Int))*((2:Int) ^ (min (Int.toNat (56:Int)) (IntKind.bits .u64)))))))
theorem agj (s0:List UInt8):(runK Tryz.prog (Ev92 N) 400 179 [.str] [(.int .u64)] (s0,())).run=aaq N s0:=by kernel_rfl
noncomputable def Ev93:(R:Type)→Env R:=Env.addFn (Ev92 N) 179 (fun R=>fnK [.str] [(.int .u64)] (fun c=>aaq N c.1))
theorem aAP (R:Type):EnvOK Tryz.prog (Ev93 N R):=EnvOK.addFn hmx (aAQ N R) (aAQ N _) (by kernel_rfl) (fun c=>agj N c.1)
end
end Go.Proofs.YtkcdnjgieabjoaaGreatDoor
