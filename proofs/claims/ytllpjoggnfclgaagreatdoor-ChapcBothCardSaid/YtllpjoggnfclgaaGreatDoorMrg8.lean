/-
  Parts of my own, one behind the other: Pe, Pf, GCpA.
-/
import Derived.Test.YtllpjoggnfclgaaGreatDoorMrg6
import Derived.Test.YtllpjoggnfclgaaGreatDoorMrg7
open Go.IntKind renaming wrap→gt, bits→Dr
open Go.Proofs.YtllpjoggnfclgaaGreatDoor.Arr renaming cons→ne, nil→DB
open Option renaming bind→Do
open Go.Proofs.Tryz renaming prog→Dp
open Int renaming toNat→Dq, fdiv→Dw, tmod→Dx, tdiv→DA
open List renaming length→Ds, replicate→Dz
open Go.Proofs.YtllpjoggnfclgaaGreatDoor.EnvOK renaming addFn→Dt, addLp→Du, addBx→DC
open Go.Proofs.YtllpjoggnfclgaaGreatDoor.Env renaming addFn→Dv, addLp→Dy, addBx→DE
open UInt8 renaming toNat→DD
namespace Go.Proofs.YtllpjoggnfclgaaGreatDoor
open Go.RowKit
set_option linter.unusedVariables false
set_option maxRecDepth 100000
section
variable (N:Nat)
abbrev zc64:Arr Int 64:=(@ne Int 63 0 (@ne Int 62 0 (@ne Int 61 0 (@ne Int 60 0 (@ne Int 59 0 (@ne Int 58 0 (@ne Int 57 0 (@ne Int 56 0 (@ne Int 55 0 (@ne Int 54 0 (@ne Int 53 0 (@ne Int 52 0 (@ne Int 51 0 (@ne Int 50 0 (@ne Int 49 0 (@ne Int 48 0 (@ne Int 47 0 (@ne Int 46 0 (@ne Int 45 0 (@ne Int 44 0 (@ne Int 43 0 (@ne Int 42 0 (@ne Int 41 0 (@ne Int 40 0 (@ne Int 39 0 (@ne Int 38 0 (@ne Int 37 0 (@ne Int 36 0 (@ne Int 35 0 (@ne Int 34 0 (@ne Int 33 0 (@ne Int 32 0 (@ne Int 31 0 (@ne Int 30 0 (@ne Int 29 0 (@ne Int 28 0 (@ne Int 27 0 (@ne Int 26 0 (@ne Int 25 0 (@ne Int 24 0 (@ne Int 23 0 (@ne Int 22 0 (@ne Int 21 0 (@ne Int 20 0 (@ne Int 19 0 (@ne Int 18 0 (@ne Int 17 0 (@ne Int 16 0 (@ne Int 15 0 (@ne Int 14 0 (@ne Int 13 0 (@ne Int 12 0 (@ne Int 11 0 (@ne Int 10 0 (@ne Int 9 0 (@ne Int 8 0 (@ne Int 7 0 (@ne Int 6 0 (@ne Int 5 0 (@ne Int 4 0 (@ne Int 3 0 (@ne Int 2 0 (@ne Int 1 0 (@ne Int 0 0 (@DB Int)))))))))))))))))))))))))))))))))))))))))))))))))))))))))))))))))
abbrev zc32:Arr Int 32:=(@ne Int 31 0 (@ne Int 30 0 (@ne Int 29 0 (@ne Int 28 0 (@ne Int 27 0 (@ne Int 26 0 (@ne Int 25 0 (@ne Int 24 0 (@ne Int 23 0 (@ne Int 22 0 (@ne Int 21 0 (@ne Int 20 0 (@ne Int 19 0 (@ne Int 18 0 (@ne Int 17 0 (@ne Int 16 0 (@ne Int 15 0 (@ne Int 14 0 (@ne Int 13 0 (@ne Int 12 0 (@ne Int 11 0 (@ne Int 10 0 (@ne Int 9 0 (@ne Int 8 0 (@ne Int 7 0 (@ne Int 6 0 (@ne Int 5 0 (@ne Int 4 0 (@ne Int 3 0 (@ne Int 2 0 (@ne Int 1 0 (@ne Int 0 0 (@DB Int)))))))))))))))))))))))))))))))))
abbrev zc24:Arr Int 24:=(@ne Int 23 0 (@ne Int 22 0 (@ne Int 21 0 (@ne Int 20 0 (@ne Int 19 0 (@ne Int 18 0 (@ne Int 17 0 (@ne Int 16 0 (@ne Int 15 0 (@ne Int 14 0 (@ne Int 13 0 (@ne Int 12 0 (@ne Int 11 0 (@ne Int 10 0 (@ne Int 9 0 (@ne Int 8 0 (@ne Int 7 0 (@ne Int 6 0 (@ne Int 5 0 (@ne Int 4 0 (@ne Int 3 0 (@ne Int 2 0 (@ne Int 1 0 (@ne Int 0 0 (@DB Int)))))))))))))))))))))))))
abbrev zc21:Arr Int 21:=(@ne Int 20 0 (@ne Int 19 0 (@ne Int 18 0 (@ne Int 17 0 (@ne Int 16 0 (@ne Int 15 0 (@ne Int 14 0 (@ne Int 13 0 (@ne Int 12 0 (@ne Int 11 0 (@ne Int 10 0 (@ne Int 9 0 (@ne Int 8 0 (@ne Int 7 0 (@ne Int 6 0 (@ne Int 5 0 (@ne Int 4 0 (@ne Int 3 0 (@ne Int 2 0 (@ne Int 1 0 (@ne Int 0 0 (@DB Int))))))))))))))))))))))
abbrev zc20:Arr Int 20:=(@ne Int 19 0 (@ne Int 18 0 (@ne Int 17 0 (@ne Int 16 0 (@ne Int 15 0 (@ne Int 14 0 (@ne Int 13 0 (@ne Int 12 0 (@ne Int 11 0 (@ne Int 10 0 (@ne Int 9 0 (@ne Int 8 0 (@ne Int 7 0 (@ne Int 6 0 (@ne Int 5 0 (@ne Int 4 0 (@ne Int 3 0 (@ne Int 2 0 (@ne Int 1 0 (@ne Int 0 0 (@DB Int)))))))))))))))))))))
abbrev zc16:Arr Int 16:=(@ne Int 15 0 (@ne Int 14 0 (@ne Int 13 0 (@ne Int 12 0 (@ne Int 11 0 (@ne Int 10 0 (@ne Int 9 0 (@ne Int 8 0 (@ne Int 7 0 (@ne Int 6 0 (@ne Int 5 0 (@ne Int 4 0 (@ne Int 3 0 (@ne Int 2 0 (@ne Int 1 0 (@ne Int 0 0 (@DB Int)))))))))))))))))
abbrev zc15:Arr Int 15:=(@ne Int 14 0 (@ne Int 13 0 (@ne Int 12 0 (@ne Int 11 0 (@ne Int 10 0 (@ne Int 9 0 (@ne Int 8 0 (@ne Int 7 0 (@ne Int 6 0 (@ne Int 5 0 (@ne Int 4 0 (@ne Int 3 0 (@ne Int 2 0 (@ne Int 1 0 (@ne Int 0 0 (@DB Int))))))))))))))))
abbrev qz0:Td:=(.pair .str (.pair (.sl (.pair .str .str)) (.pair (.int .i64) (.pair (.int .u8) (.pair (.arr 16 (.int .u8)) (.pair (.int .i64) (.pair (.int .i64) (.pair (.sl (.int .u8)) (.pair (.int .u8) (.pair .str (.arr 32 (.int .u8))))))))))))
abbrev qz1:Td:=(.pair .str (.pair .str (.pair (.arr 16 (.int .u8)) (.pair (.int .i64) (.pair (.int .u8) (.pair .str (.pair (.arr 32 (.int .u8)) (.int .i64))))))))
abbrev qz2:Td:=(.pair (.int .u8) (.pair (.int .u8) (.sl (.int .u8))))
abbrev qz3:Td:=(.pair (.int .i64) (.pair .bool (.pair (.arr 16 (.int .u8)) .str)))
abbrev qz4:Td:=(.pair (.arr 16 (.int .u8)) (.arr 16 (.int .u8)))
abbrev pz0:Type:=((List (List UInt8×(List UInt8)))×(Int×(Int×((Arr Int 16)×(Int×(Int×((List Int)×(Int×(List UInt8×(Arr Int 32))))))))))
abbrev pz1:Type:=(List UInt8×((Arr Int 16)×(Int×(Int×(List UInt8×((Arr Int 32)×Int))))))
abbrev pz3:Type:=((Unit×((List Int)×Unit)))
abbrev pz4:Type:=(Int×(Int×(List Int)))
abbrev pz5:Type:=((List Int)×(Int×(Int×Unit)))
abbrev pz6:Type:=(List UInt8×(List UInt8))
abbrev pz7:Type:=((List (List Int))×(Int×(Int×Unit)))
abbrev pz8:Type:=((List Int)×(Int×Unit))
abbrev pz9:Type:=(Int×(Int×(Int×Unit)))
abbrev pz10:Type:=((Arr Int 4)×((Arr Int 4)×Unit))
abbrev pz11:Type:=((Arr Int 5)×((Arr Int 5)×Unit))
abbrev pz12:Type:=((List (List Int))×(Int×Unit))
abbrev pz13:Type:=(Int×((List pz4)×(Int×(Int×Unit))))
abbrev pz14:Type:=((Int×(Int×Unit))×Unit)
abbrev pz15:Type:=((Arr Int 16)×((Arr Int 16)×Unit))
abbrev pz16:Type:=(Int×(Int×((List Int)×Unit)))
abbrev pz17:Type:=((List UInt8×pz0)×((List UInt8×pz1)×((List UInt8×pz0)×((List UInt8×pz1)×Unit))))
abbrev pz18:Type:=(((Arr Int 8)×((Arr Int 16)×(Int×Unit)))×((Arr Int 24)×((Arr Int 24)×Unit)))
abbrev pz19:Type:=((Int×(Int×Unit))×((List Int)×Unit))
abbrev pz20:Type:=((Arr Int 16)×((List Int)×Unit))
abbrev pz21:Type:=((Int×Unit)×((List Int)×Unit))
abbrev pz22:Type:=((Arr Int 20)×((List Int)×Unit))
abbrev pz23:Type:=((List (List Int))×(Int×pz7))
abbrev pz24:Type:=((Arr Int 16)×((List Int)×((Arr Int 4)×((Arr Int 64)×Unit))))
abbrev pz25:Type:=((Arr Int 20)×((List Int)×((Arr Int 5)×((Arr Int 64)×Unit))))
abbrev pz26:Type:=(List UInt8×(Int×Unit))
abbrev pz27:Type:=((Arr Int 4)×(Int×Unit))
abbrev pz28:Type:=((Arr Int 16)×((Arr Int 4)×Unit))
abbrev pz29:Type:=((List UInt8×Unit)×Unit)
abbrev pz30:Type:=((Unit×((Arr Int 20)×((Arr Int 5)×Unit))))
abbrev pz31:Type:=(List UInt8×(pz6×Unit))
abbrev pz32:Type:=(Int×((List pz4)×(Int×pz13)))
abbrev pz33:Type:=((Arr Int 5)×(Int×Unit))
abbrev pz34:Type:=((Arr Int 5)×((Arr Int 80)×((Arr Int 5)×Unit)))
theorem hmx:Dp.follows .mixedOrders=true:=by kernel_rfl
noncomputable def Ev0 (N:Nat):(R:Type)→Env R:=Env.addInl env0 [53,237,236,181,182,154,214]
theorem arR (R:Type):EnvOK Dp (Ev0 N R):=EnvOK.addInl (ame R) (by kernel_rfl)
noncomputable def Ev1:(R:Type)→Env R:=Env.addMv (Ev0 N) [(181,3)]
theorem arz (R:Type):EnvOK Dp (Ev1 N R):=EnvOK.addMv (arR N R) [(181,3)]
noncomputable def Ev2:(R:Type)→Env R:=Env.addMv (Ev1 N) [(214,4)]
theorem aq3 (R:Type):EnvOK Dp (Ev2 N R):=EnvOK.addMv (arz N R) [(214,4)]
noncomputable def Ev3:(R:Type)→Env R:=DE (Ev2 N) [(138,0)]
theorem aqT (R:Type):EnvOK Dp (Ev3 N R):=DC (aq3 N R) [(138,0)]
noncomputable def Ev4:(R:Type)→Env R:=Env.addMv (Ev3 N) [(31,3)]
theorem akX (R:Type):EnvOK Dp (Ev4 N R):=EnvOK.addMv (aqT N R) [(31,3)]
noncomputable def tA (N:Nat)(n0:Int)(degree1:Int)(bits2:Int):Option Bool:=
 Do (bif (decide ((0:Int)≤n0)) then
   some ((cond true (decide (n0≤(1000:Int))) false))
  else
   some (false)) fun (v4:Bool)=>
 Do (bif v4 then
   bif (decide (degree1=(2:Int))) then
    some ((cond true true false))
   else
    some ((cond true (cond false true (decide (degree1=(3:Int)))) false))
  else
   some (false)) fun (v5:Bool)=>
 Do (bif v5 then
   some ((cond true (decide ((0:Int)≤bits2)) false))
  else
   some (false)) fun (v6:Bool)=>
 Do (bif v6 then
   some ((cond true (decide (bits2≤(32:Int))) false))
  else
   some (false)) fun (v7:Bool)=>
 some (v7)
theorem Be (n0:Int)(degree1:Int)(bits2:Int):(runK Dp (Ev4 N) 400 211 [(.int .i64),(.int .i64),(.int .i64)] [.bool] (n0,degree1,bits2,())).run=tA N n0 degree1 bits2:=by kernel_rfl
noncomputable def Ev5:(R:Type)→Env R:=Dv (Ev4 N) 211 (fun R=>fnK [(.int .i64),(.int .i64),(.int .i64)] [.bool] (fun c=>tA N c.1 c.2.1 c.2.2.1))
theorem akW (R:Type):EnvOK Dp (Ev5 N R):=Dt hmx (akX N R) (akX N _) (by kernel_rfl) (fun c=>Be N c.1 c.2.1 c.2.2.1)
noncomputable def nO (N:Nat)(x0:Int)(y1:Int):Option (Int×Int):=
 some (((gt .u64 ((gt .u64 ((gt .u64 ((@Dw x0 ((2:Int) ^ (min (Dq (32:Int)) (Dr .u64))))*(@Dw y1 ((2:Int) ^ (min (Dq (32:Int)) (Dr .u64))))))+(@Dw (gt .u64 ((gt .u64 ((@Dw x0 ((2:Int) ^ (min (Dq (32:Int)) (Dr .u64))))*(bits .and .u64 y1 (4294967295:Int))))+(@Dw (gt .u64 ((bits .and .u64 x0 (4294967295:Int))*(bits .and .u64 y1 (4294967295:Int)))) ((2:Int) ^ (min (Dq (32:Int)) (Dr .u64)))))) ((2:Int) ^ (min (Dq (32:Int)) (Dr .u64))))))+(@Dw (gt .u64 ((bits .and .u64 (gt .u64 ((gt .u64 ((@Dw x0 ((2:Int) ^ (min (Dq (32:Int)) (Dr .u64))))*(bits .and .u64 y1 (4294967295:Int))))+(@Dw (gt .u64 ((bits .and .u64 x0 (4294967295:Int))*(bits .and .u64 y1 (4294967295:Int)))) ((2:Int) ^ (min (Dq (32:Int)) (Dr .u64)))))) (4294967295:Int))+(gt .u64 ((bits .and .u64 x0 (4294967295:Int))*(@Dw y1 ((2:Int) ^ (min (Dq (32:Int)) (Dr .u64)))))))) ((2:Int) ^ (min (Dq (32:Int)) (Dr .u64)))))),(gt .u64 (x0*y1))))
theorem rk (x0:Int)(y1:Int):(runK Dp (Ev5 N) 400 226 [(.int .u64),(.int .u64)] [(.int .u64),(.int .u64)] (x0,y1,())).run=nO N x0 y1:=by kernel_rfl
noncomputable def Ev6:(R:Type)→Env R:=Dv (Ev5 N) 226 (fun R=>fnK [(.int .u64),(.int .u64)] [(.int .u64),(.int .u64)] (fun c=>nO N c.1 c.2.1))
theorem akV (R:Type):EnvOK Dp (Ev6 N R):=Dt hmx (akW N R) (akW N _) (by kernel_rfl) (fun c=>rk N c.1 c.2.1)
noncomputable def pp (N:Nat)(x0:Int)(degree1:Int):Option (Int×Int):=
 bif (decide (degree1=(2:Int))) then
  some (((gt .u64 ((gt .u64 ((gt .u64 ((@Dw x0 ((2:Int) ^ (min (Dq (32:Int)) (Dr .u64))))*(@Dw x0 ((2:Int) ^ (min (Dq (32:Int)) (Dr .u64))))))+(@Dw (gt .u64 ((gt .u64 ((@Dw x0 ((2:Int) ^ (min (Dq (32:Int)) (Dr .u64))))*(bits .and .u64 x0 (4294967295:Int))))+(@Dw (gt .u64 ((bits .and .u64 x0 (4294967295:Int))*(bits .and .u64 x0 (4294967295:Int)))) ((2:Int) ^ (min (Dq (32:Int)) (Dr .u64)))))) ((2:Int) ^ (min (Dq (32:Int)) (Dr .u64))))))+(@Dw (gt .u64 ((bits .and .u64 (gt .u64 ((gt .u64 ((@Dw x0 ((2:Int) ^ (min (Dq (32:Int)) (Dr .u64))))*(bits .and .u64 x0 (4294967295:Int))))+(@Dw (gt .u64 ((bits .and .u64 x0 (4294967295:Int))*(bits .and .u64 x0 (4294967295:Int)))) ((2:Int) ^ (min (Dq (32:Int)) (Dr .u64)))))) (4294967295:Int))+(gt .u64 ((bits .and .u64 x0 (4294967295:Int))*(@Dw x0 ((2:Int) ^ (min (Dq (32:Int)) (Dr .u64)))))))) ((2:Int) ^ (min (Dq (32:Int)) (Dr .u64)))))),(gt .u64 (x0*x0))))
 else
  some (((gt .u64 ((gt .u64 ((gt .u64 ((gt .u64 ((gt .u64 ((@Dw x0 ((2:Int) ^ (min (Dq (32:Int)) (Dr .u64))))*(@Dw x0 ((2:Int) ^ (min (Dq (32:Int)) (Dr .u64))))))+(@Dw (gt .u64 ((gt .u64 ((@Dw x0 ((2:Int) ^ (min (Dq (32:Int)) (Dr .u64))))*(bits .and .u64 x0 (4294967295:Int))))+(@Dw (gt .u64 ((bits .and .u64 x0 (4294967295:Int))*(bits .and .u64 x0 (4294967295:Int)))) ((2:Int) ^ (min (Dq (32:Int)) (Dr .u64)))))) ((2:Int) ^ (min (Dq (32:Int)) (Dr .u64))))))+(@Dw (gt .u64 ((bits .and .u64 (gt .u64 ((gt .u64 ((@Dw x0 ((2:Int) ^ (min (Dq (32:Int)) (Dr .u64))))*(bits .and .u64 x0 (4294967295:Int))))+(@Dw (gt .u64 ((bits .and .u64 x0 (4294967295:Int))*(bits .and .u64 x0 (4294967295:Int)))) ((2:Int) ^ (min (Dq (32:Int)) (Dr .u64)))))) (4294967295:Int))+(gt .u64 ((bits .and .u64 x0 (4294967295:Int))*(@Dw x0 ((2:Int) ^ (min (Dq (32:Int)) (Dr .u64)))))))) ((2:Int) ^ (min (Dq (32:Int)) (Dr .u64))))))*x0))+(gt .u64 ((gt .u64 ((gt .u64 ((@Dw (gt .u64 (x0*x0)) ((2:Int) ^ (min (Dq (32:Int)) (Dr .u64))))*(@Dw x0 ((2:Int) ^ (min (Dq (32:Int)) (Dr .u64))))))+(@Dw (gt .u64 ((gt .u64 ((@Dw (gt .u64 (x0*x0)) ((2:Int) ^ (min (Dq (32:Int)) (Dr .u64))))*(bits .and .u64 x0 (4294967295:Int))))+(@Dw (gt .u64 ((bits .and .u64 (gt .u64 (x0*x0)) (4294967295:Int))*(bits .and .u64 x0 (4294967295:Int)))) ((2:Int) ^ (min (Dq (32:Int)) (Dr .u64)))))) ((2:Int) ^ (min (Dq (32:Int)) (Dr .u64))))))+(@Dw (gt .u64 ((bits .and .u64 (gt .u64 ((gt .u64 ((@Dw (gt .u64 (x0*x0)) ((2:Int) ^ (min (Dq (32:Int)) (Dr .u64))))*(bits .and .u64 x0 (4294967295:Int))))+(@Dw (gt .u64 ((bits .and .u64 (gt .u64 (x0*x0)) (4294967295:Int))*(bits .and .u64 x0 (4294967295:Int)))) ((2:Int) ^ (min (Dq (32:Int)) (Dr .u64)))))) (4294967295:Int))+(gt .u64 ((bits .and .u64 (gt .u64 (x0*x0)) (4294967295:Int))*(@Dw x0 ((2:Int) ^ (min (Dq (32:Int)) (Dr .u64)))))))) ((2:Int) ^ (min (Dq (32:Int)) (Dr .u64)))))))),(gt .u64 ((gt .u64 (x0*x0))*x0))))
theorem xg (x0:Int)(degree1:Int):(runK Dp (Ev6 N) 400 234 [(.int .u64),(.int .i64)] [(.int .u64),(.int .u64)] (x0,degree1,())).run=pp N x0 degree1:=by kernel_rfl
noncomputable def Ev7:(R:Type)→Env R:=Dv (Ev6 N) 234 (fun R=>fnK [(.int .u64),(.int .i64)] [(.int .u64),(.int .u64)] (fun c=>pp N c.1 c.2.1))
theorem akU (R:Type):EnvOK Dp (Ev7 N R):=Dt hmx (akV N R) (akV N _) (by kernel_rfl) (fun c=>xg N c.1 c.2.1)
noncomputable def lX (N:Nat)(n0:Int)(shift1:Int):Option (Int×Int):=
 bif (decide ((64:Int)≤shift1)) then
  bif (decide ((0:Int)≤(gt .i64 (shift1-64)))) then
   some (((gt .u64 (n0*((2:Int) ^ (min (Dq (gt .i64 (shift1-64))) (Dr .u64))))),(0:Int)))
  else
   none
 else
  bif (decide ((0:Int)≤(gt .i64 ((64:Int)-shift1)))) then
   bif (decide ((0:Int)≤shift1)) then
    some (((@Dw n0 ((2:Int) ^ (min (Dq (gt .i64 ((64:Int)-shift1))) (Dr .u64)))),(gt .u64 (n0*((2:Int) ^ (min (Dq shift1) (Dr .u64)))))))
   else
    none
  else
   none
theorem tz (n0:Int)(shift1:Int):(runK Dp (Ev7 N) 400 235 [(.int .u64),(.int .i64)] [(.int .u64),(.int .u64)] (n0,shift1,())).run=lX N n0 shift1:=by kernel_rfl
noncomputable def Ev8:(R:Type)→Env R:=Dv (Ev7 N) 235 (fun R=>fnK [(.int .u64),(.int .i64)] [(.int .u64),(.int .u64)] (fun c=>lX N c.1 c.2.1))
theorem akT (R:Type):EnvOK Dp (Ev8 N R):=Dt hmx (akU N R) (akU N _) (by kernel_rfl) (fun c=>tz N c.1 c.2.1)
noncomputable def pq (x0:Int)(n1:Int)(degree2:Int)(shift3:Int):Option Bool:=
 Do (pp N x0 degree2) fun v5=>
 Do (lX N (gt .u64 n1) shift3) fun v6=>
 bif (!(decide (v5.1=v6.1))) then
  some ((decide (v6.1<v5.1)))
 else
  some ((decide (v6.2<v5.2)))
theorem xh (x0:Int)(n1:Int)(degree2:Int)(shift3:Int):(runK Dp (Ev8 N) 400 212 [(.int .u64),(.int .i64),(.int .i64),(.int .i64)] [.bool] (x0,n1,degree2,shift3,())).run=pq N x0 n1 degree2 shift3:=by kernel_rfl
noncomputable def Ev9:(R:Type)→Env R:=Dv (Ev8 N) 212 (fun R=>fnK [(.int .u64),(.int .i64),(.int .i64),(.int .i64)] [.bool] (fun c=>pq N c.1 c.2.1 c.2.2.1 c.2.2.2.1))
theorem akS (R:Type):EnvOK Dp (Ev9 N R):=Dt hmx (akT N R) (akT N _) (by kernel_rfl) (fun c=>xh N c.1 c.2.1 c.2.2.1 c.2.2.2.1)
noncomputable def jc:LI:=⟨34,0,[],⟨[(0,.ty (.int .i64)),(1,.ty (.int .i64)),(2,.ty (.int .i64)),(8,.ty (.int .u64)),(9,.ty (.int .i64))],[]⟩,[(.exit 0,⟨[(8,.ty (.int .u64))],[]⟩)]⟩
noncomputable def lY (X:((Int×(Int×pz9))×Unit)→Option (((Int×Unit)×Unit)))(n0:Int)(degree1:Int)(bits2:Int)(root8:Int)(i9:Int):Option (((Int×Unit)×Unit)):=
 bif (decide ((0:Int)≤i9)) then
  bif (decide ((0:Int)≤i9)) then
   Do (pq N (bits .or .u64 root8 (gt .u64 ((1:Int)*((2:Int) ^ (min (Dq i9) (Dr .u64)))))) n0 degree1 (gt .i64 (degree1*bits2))) fun v7=>
   bif (!v7) then
    (X ((n0,(degree1,(bits2,((bits .or .u64 root8 (gt .u64 ((1:Int)*((2:Int) ^ (min (Dq i9) (Dr .u64)))))),((gt .i64 (i9-1)),()))))),()))
   else
    (X ((n0,(degree1,(bits2,(root8,((gt .i64 (i9-1)),()))))),()))
  else
   none
 else
  some (((root8,()),()))
noncomputable def tC (c:((Int×(Int×pz9))×Unit)):Option (((Int×Unit)×Unit)):=gl (fun X c=>lY N X c.1.1 c.1.2.1 c.1.2.2.1 c.1.2.2.2.1 c.1.2.2.2.2.1) N c
theorem tB (X:((Int×(Int×pz9))×Unit)→Option (((Int×Unit)×Unit)))(n0:Int)(degree1:Int)(bits2:Int)(root8:Int)(i9:Int):(am Dp (Ev9 N) 400 [180] jc (ak Dp [180] 5) X ((n0,degree1,bits2,root8,i9,()),())).run=lY N X n0 degree1 bits2 root8 i9:=by kernel_rfl
noncomputable def Ev10:(R:Type)→Env R:=Dy (Ev9 N) [180] 0 5 (fun R=>lpK Dp jc (fun X c=>lY N X c.1.1 c.1.2.1 c.1.2.2.1 c.1.2.2.2.1 c.1.2.2.2.2.1) N)
theorem ah5 (R:Type):EnvOK Dp (Ev10 N R):=Du (akS N R) (by kernel_rfl) (aq (li:=jc) hmx (akS N _) (by kernel_rfl) ab (fun X c=>tB N X c.1.1 c.1.2.1 c.1.2.2.1 c.1.2.2.2.1 c.1.2.2.2.2.1) N)
noncomputable def oE (n0:Int)(degree1:Int)(bits2:Int):Option (Int×Int):=
 Do (tA N n0 degree1 bits2) fun v4=>
 bif (!v4) then
  some (((0:Int),(1:Int)))
 else
  Do (tC N ((n0,(degree1,(bits2,((0:Int),((36:Int),()))))),())) fun v5=>
  some ((v5.1.1,(0:Int)))
theorem zh (n0:Int)(degree1:Int)(bits2:Int):(runK Dp (Ev10 N) 400 180 [(.int .i64),(.int .i64),(.int .i64)] [(.int .u64),(.int .i64)] (n0,degree1,bits2,())).run=oE N n0 degree1 bits2:=by kernel_rfl
noncomputable def Ev11:(R:Type)→Env R:=Dv (Ev10 N) 180 (fun R=>fnK [(.int .i64),(.int .i64),(.int .i64)] [(.int .u64),(.int .i64)] (fun c=>oE N c.1 c.2.1 c.2.2.1))
theorem ah4 (R:Type):EnvOK Dp (Ev11 N R):=Dt hmx (ah5 N R) (ah5 N _) (by kernel_rfl) (fun c=>zh N c.1 c.2.1 c.2.2.1)
noncomputable def dX (N:Nat)(i0:Int)(width1:Int)(little2:Bool):Option Int:=
 bif little2 then
  some (i0)
 else
  some ((gt .i64 ((gt .i64 (width1-1))-i0)))
theorem zU (i0:Int)(width1:Int)(little2:Bool):(runK Dp (Ev11 N) 400 148 [(.int .i64),(.int .i64),.bool] [(.int .i64)] (i0,width1,little2,())).run=dX N i0 width1 little2:=by kernel_rfl
noncomputable def Ev12:(R:Type)→Env R:=Dv (Ev11 N) 148 (fun R=>fnK [(.int .i64),(.int .i64),.bool] [(.int .i64)] (fun c=>dX N c.1 c.2.1 c.2.2.1))
theorem ah3 (R:Type):EnvOK Dp (Ev12 N R):=Dt hmx (ah4 N R) (ah4 N _) (by kernel_rfl) (fun c=>zU N c.1 c.2.1 c.2.2.1)
noncomputable def mo:LI:=⟨35,0,[],⟨[(0,.ty (.int .u64)),(1,.ty (.int .i64)),(2,.ty .bool),(8,.lit (.own 0)),(19,.ty (.int .i64)),(20,.ty (.int .i64))],[.own (.int .u8) 5]⟩,[(.exit 0,⟨[(8,.lit (.own 0))],[.own (.int .u8) 5]⟩)]⟩
noncomputable def eY (X:((Int×(Int×(Bool×(Int×(Int×Unit)))))×((List Int)×Unit))→Option pz3)(n0:Int)(width1:Int)(little2:Bool)(x19:Int)(x20:Int)(h0:List (Int)):Option pz3:=
 bif (decide (x20<x19)) then
  Do (dX N x20 width1 little2) fun v8=>
  bif (decide ((0:Int)≤v8∧v8<(((Ds h0):Nat):Int))) then
   Do (h0[Dq v8]?) fun (v9:Int)=>
   (X (((@Dw n0 ((2:Int) ^ (min (Dq (8:Int)) (Dr .u64)))),(width1,(little2,(x19,((gt .i64 (x20+1)),()))))),((@List.set Int h0 (Dq v8) (gt .u8 n0)),())))
  else
   none
 else
  some (((),(h0,())))
noncomputable def fN (c:((Int×(Int×(Bool×(Int×(Int×Unit)))))×((List Int)×Unit))):Option pz3:=gl (fun X c=>eY N X c.1.1 c.1.2.1 c.1.2.2.1 c.1.2.2.2.1 c.1.2.2.2.2.1 c.2.1) N c
theorem xS (X:((Int×(Int×(Bool×(Int×(Int×Unit)))))×((List Int)×Unit))→Option pz3)(n0:Int)(width1:Int)(little2:Bool)(x19:Int)(x20:Int)(h0:List (Int)):(am Dp (Ev12 N) 400 [110] mo (ak Dp [110] 5) X ((n0,width1,little2,x19,x20,()),(h0,()))).run=eY N X n0 width1 little2 x19 x20 h0:=by kernel_rfl
noncomputable def Ev13:(R:Type)→Env R:=Dy (Ev12 N) [110] 0 5 (fun R=>lpK Dp mo (fun X c=>eY N X c.1.1 c.1.2.1 c.1.2.2.1 c.1.2.2.2.1 c.1.2.2.2.2.1 c.2.1) N)
theorem ah2 (R:Type):EnvOK Dp (Ev13 N R):=Du (ah3 N R) (by kernel_rfl) (aq (li:=mo) hmx (ah3 N _) (by kernel_rfl) ab (fun X c=>xS N X c.1.1 c.1.2.1 c.1.2.2.1 c.1.2.2.2.1 c.1.2.2.2.2.1 c.2.1) N)
noncomputable def cm (n0:Int)(width1:Int)(little2:Bool):Option ((List Int)×Int):=
 Do (bif (decide (width1<(1:Int))) then
   some (true)
  else
   some ((cond false true (decide ((8:Int)<width1))))) fun (v4:Bool)=>
 bif v4 then
  some ((([]:List Int),(1:Int)))
 else
  bif ((decide ((0:Int)≤width1∧width1≤width1))&&(ae (Dq width1) 1)) then
   Do (fN N ((n0,(width1,(little2,((((Ds (@Dz Int (Dq width1) (0:Int))):Nat):Int),((0:Int),()))))),((@Dz Int (Dq width1) (0:Int)),()))) fun v5=>
   some ((v5.2.1,(0:Int)))
  else
   none
theorem adv (n0:Int)(width1:Int)(little2:Bool):(runK Dp (Ev13 N) 400 110 [(.int .u64),(.int .i64),.bool] [(.sl (.int .u8)),(.int .i64)] (n0,width1,little2,())).run=cm N n0 width1 little2:=by kernel_rfl
noncomputable def Ev14:(R:Type)→Env R:=Dv (Ev13 N) 110 (fun R=>fnK [(.int .u64),(.int .i64),.bool] [(.sl (.int .u8)),(.int .i64)] (fun c=>cm N c.1 c.2.1 c.2.2.1))
theorem ah1 (R:Type):EnvOK Dp (Ev14 N R):=Dt hmx (ah2 N R) (ah2 N _) (by kernel_rfl) (fun c=>adv N c.1 c.2.1 c.2.2.1)
noncomputable def cT:LI:=⟨33,1,[],⟨[(0,.ty (.sl (.sl (.int .u8)))),(3,.ty (.int .i64)),(9,.ty (.sl (.sl (.int .u8)))),(10,.ty (.int .i64)),(11,.ty (.int .i64))],[.dead]⟩,[(.exit 0,⟨[(0,.ty (.sl (.sl (.int .u8)))),(3,.ty (.int .i64))],[.dead]⟩)]⟩
noncomputable def dI (N:Nat)(X:(pz23×Unit)→Option ((pz12×Unit)))(parts0:List (List Int))(size3:Int)(x9:List (List Int))(x10:Int)(x11:Int):Option ((pz12×Unit)):=
 bif (decide (x11<x10)) then
  Do (getI x9 x11) fun (v7:(List Int))=>
  (X ((parts0,((gt .i64 (size3+(((Ds v7):Nat):Int))),(x9,(x10,((gt .i64 (x11+1)),()))))),()))
 else
  some (((parts0,(size3,())),()))
noncomputable def kK (c:(pz23×Unit)):Option ((pz12×Unit)):=gl (fun X c=>dI N X c.1.1 c.1.2.1 c.1.2.2.1 c.1.2.2.2.1 c.1.2.2.2.2.1) N c
theorem kJ (X:(pz23×Unit)→Option ((pz12×Unit)))(parts0:List (List Int))(size3:Int)(x9:List (List Int))(x10:Int)(x11:Int):(am Dp (Ev14 N) 400 [53,3,111] cT (ak Dp [53,3,111] 3) X ((parts0,size3,x9,x10,x11,()),())).run=dI N X parts0 size3 x9 x10 x11:=by kernel_rfl
noncomputable def Ev15:(R:Type)→Env R:=Dy (Ev14 N) [53,3,111] 1 3 (fun R=>lpK Dp cT (fun X c=>dI N X c.1.1 c.1.2.1 c.1.2.2.1 c.1.2.2.2.1 c.1.2.2.2.2.1) N)
theorem ah0 (R:Type):EnvOK Dp (Ev15 N R):=Du (ah1 N R) (by kernel_rfl) (aq (li:=cT) hmx (ah1 N _) (by kernel_rfl) ab (fun X c=>kJ N X c.1.1 c.1.2.1 c.1.2.2.1 c.1.2.2.2.1 c.1.2.2.2.2.1) N)
noncomputable def cS:LI:=⟨33,1,[],⟨[(6,.lit (.own 1)),(22,.ty (.sl (.sl (.int .u8)))),(23,.ty (.int .i64)),(24,.ty (.int .i64))],[.dead,.own (.int .u8) 5]⟩,[(.exit 2,⟨[(6,.lit (.own 1))],[.dead,.own (.int .u8) 5]⟩)]⟩
noncomputable def dH (N:Nat)(X:(pz7×((List Int)×Unit))→Option pz3)(x22:List (List Int))(x23:Int)(x24:Int)(h0:List (Int)):Option pz3:=
 bif (decide (x24<x23)) then
  Do (getI x22 x24) fun (v6:(List Int))=>
  bif (ae ((Ds h0)+(Ds v6)) 1) then
   (X ((x22,(x23,((gt .i64 (x24+1)),()))),((h0++v6),())))
  else
   none
 else
  some (((),(h0,())))
noncomputable def kI (c:(pz7×((List Int)×Unit))):Option pz3:=gl (fun X c=>dH N X c.1.1 c.1.2.1 c.1.2.2.1 c.2.1) N c
theorem kH (X:(pz7×((List Int)×Unit))→Option pz3)(x22:List (List Int))(x23:Int)(x24:Int)(h0:List (Int)):(am Dp (Ev15 N) 400 [53,3,111] cS (ak Dp [53,3,111] 9) X ((x22,x23,x24,()),(h0,()))).run=dH N X x22 x23 x24 h0:=by kernel_rfl
noncomputable def Ev16:(R:Type)→Env R:=Dy (Ev15 N) [53,3,111] 1 9 (fun R=>lpK Dp cS (fun X c=>dH N X c.1.1 c.1.2.1 c.1.2.2.1 c.2.1) N)
theorem ahZ (R:Type):EnvOK Dp (Ev16 N R):=Du (ah0 N R) (by kernel_rfl) (aq (li:=cS) hmx (ah0 N _) (by kernel_rfl) ab (fun X c=>kH N X c.1.1 c.1.2.1 c.1.2.2.1 c.2.1) N)
noncomputable def qj (n0:Int):Option (List Int):=
 Do (cm N (gt .u64 ((8:Int)*n0)) (8:Int) true) fun v2=>
 bif ((decide ((0:Int)≤(@Dx (gt .u64 ((119:Int)-(@Dx n0 (64:Int)))) (64:Int))∧(@Dx (gt .u64 ((119:Int)-(@Dx n0 (64:Int)))) (64:Int))≤(@Dx (gt .u64 ((119:Int)-(@Dx n0 (64:Int)))) (64:Int))))&&(ae (Dq (@Dx (gt .u64 ((119:Int)-(@Dx n0 (64:Int)))) (64:Int))) 1)) then
  Do (kK N ((([([128]:List Int),(@Dz Int (Dq (@Dx (gt .u64 ((119:Int)-(@Dx n0 (64:Int)))) (64:Int))) (0:Int)),v2.1]:List ((List Int))),((0:Int),(([([128]:List Int),(@Dz Int (Dq (@Dx (gt .u64 ((119:Int)-(@Dx n0 (64:Int)))) (64:Int))) (0:Int)),v2.1]:List ((List Int))),((((Ds ([([128]:List Int),(@Dz Int (Dq (@Dx (gt .u64 ((119:Int)-(@Dx n0 (64:Int)))) (64:Int))) (0:Int)),v2.1]:List ((List Int)))):Nat):Int),((0:Int),()))))),())) fun v3=>
  bif ((decide ((0:Int)≤(0:Int)∧(0:Int)≤v3.1.2.1))&&(ae (Dq v3.1.2.1) 1)) then
   Do (kI N ((v3.1.1,((((Ds v3.1.1):Nat):Int),((0:Int),()))),((@Dz Int (Dq (0:Int)) (0:Int)),()))) fun v4=>
   some (v4.2.1)
  else
   none
 else
  none
theorem adB (n0:Int):(runK Dp (Ev16 N) 400 111 [(.int .u64)] [(.sl (.int .u8))] (n0,())).run=qj N n0:=by kernel_rfl
noncomputable def Ev17:(R:Type)→Env R:=Dv (Ev16 N) 111 (fun R=>fnK [(.int .u64)] [(.sl (.int .u8))] (fun c=>qj N c.1))
theorem ahY (R:Type):EnvOK Dp (Ev17 N R):=Dt hmx (ahZ N R) (ahZ N _) (by kernel_rfl) (fun c=>adB N c.1)
noncomputable def Ad (N:Nat):Option (Arr Int 4):=
 some ((@ne Int 3 1732584193 (@ne Int 2 4023233417 (@ne Int 1 2562383102 (@ne Int 0 271733878 (@DB Int))))))
theorem BO:(runK Dp (Ev17 N) 400 112 [] [(.arr 4 (.int .u32))] ()).run=Ad N:=by kernel_rfl
noncomputable def Ev18:(R:Type)→Env R:=Dv (Ev17 N) 112 (fun R=>fnK [] [(.arr 4 (.int .u32))] (fun c=>Ad N ))
theorem ahX (R:Type):EnvOK Dp (Ev18 N R):=Dt hmx (ahY N R) (ahY N _) (by kernel_rfl) (fun c=>BO N )
noncomputable def dK:LI:=⟨33,1,[],⟨[(0,.ty (.sl (.sl (.int .u8)))),(3,.ty (.int .i64)),(9,.ty (.sl (.sl (.int .u8)))),(10,.ty (.int .i64)),(11,.ty (.int .i64))],[.box 27 (.arr 16 (.int .u8))]⟩,[(.exit 0,⟨[(0,.ty (.sl (.sl (.int .u8)))),(3,.ty (.int .i64))],[.box 27 (.arr 16 (.int .u8))]⟩)]⟩
noncomputable def bu (N:Nat)(X:(pz23×((Arr Int 16)×Unit))→Option ((pz12×((Arr Int 16)×Unit))))(parts0:List (List Int))(size3:Int)(x9:List (List Int))(x10:Int)(x11:Int)(h0:Arr Int 16):Option ((pz12×((Arr Int 16)×Unit))):=
 bif (decide (x11<x10)) then
  Do (getI x9 x11) fun (v8:(List Int))=>
  (X ((parts0,((gt .i64 (size3+(((Ds v8):Nat):Int))),(x9,(x10,((gt .i64 (x11+1)),()))))),(h0,())))
 else
  some (((parts0,(size3,())),(h0,())))
noncomputable def fP (c:(pz23×((Arr Int 16)×Unit))):Option ((pz12×((Arr Int 16)×Unit))):=gl (fun X c=>bu N X c.1.1 c.1.2.1 c.1.2.2.1 c.1.2.2.2.1 c.1.2.2.2.2.1 c.2.1) N c
theorem mu (X:(pz23×((Arr Int 16)×Unit))→Option ((pz12×((Arr Int 16)×Unit))))(parts0:List (List Int))(size3:Int)(x9:List (List Int))(x10:Int)(x11:Int)(h0:Arr Int 16):(am Dp (Ev18 N) 400 [53,1,78] dK (ak Dp [53,1,78] 3) X ((parts0,size3,x9,x10,x11,()),(h0,()))).run=bu N X parts0 size3 x9 x10 x11 h0:=by kernel_rfl
noncomputable def Ev19:(R:Type)→Env R:=Dy (Ev18 N) [53,1,78] 1 3 (fun R=>lpK Dp dK (fun X c=>bu N X c.1.1 c.1.2.1 c.1.2.2.1 c.1.2.2.2.1 c.1.2.2.2.2.1 c.2.1) N)
theorem ahW (R:Type):EnvOK Dp (Ev19 N R):=Du (ahX N R) (by kernel_rfl) (aq (li:=dK) hmx (ahX N _) (by kernel_rfl) ab (fun X c=>mu N X c.1.1 c.1.2.1 c.1.2.2.1 c.1.2.2.2.1 c.1.2.2.2.2.1 c.2.1) N)
noncomputable def dJ:LI:=⟨33,1,[],⟨[(6,.lit (.own 1)),(22,.ty (.sl (.sl (.int .u8)))),(23,.ty (.int .i64)),(24,.ty (.int .i64))],[.box 27 (.arr 16 (.int .u8)),.own (.int .u8) 5]⟩,[(.exit 2,⟨[(6,.lit (.own 1))],[.box 27 (.arr 16 (.int .u8)),.own (.int .u8) 5]⟩)]⟩
noncomputable def br (N:Nat)(X:(pz7×pz20)→Option ((Unit×pz20)))(x22:List (List Int))(x23:Int)(x24:Int)(h0:Arr Int 16)(h1:List (Int)):Option ((Unit×pz20)):=
 bif (decide (x24<x23)) then
  Do (getI x22 x24) fun (v7:(List Int))=>
  bif (ae ((Ds h1)+(Ds v7)) 1) then
   (X ((x22,(x23,((gt .i64 (x24+1)),()))),(h0,((h1++v7),()))))
  else
   none
 else
  some (((),(h0,(h1,()))))
noncomputable def fO (c:(pz7×pz20)):Option ((Unit×pz20)):=gl (fun X c=>br N X c.1.1 c.1.2.1 c.1.2.2.1 c.2.1 c.2.2.1) N c
theorem mt (X:(pz7×pz20)→Option ((Unit×pz20)))(x22:List (List Int))(x23:Int)(x24:Int)(h0:Arr Int 16)(h1:List (Int)):(am Dp (Ev19 N) 400 [53,1,78] dJ (ak Dp [53,1,78] 9) X ((x22,x23,x24,()),(h0,h1,()))).run=br N X x22 x23 x24 h0 h1:=by kernel_rfl
noncomputable def Ev20:(R:Type)→Env R:=Dy (Ev19 N) [53,1,78] 1 9 (fun R=>lpK Dp dJ (fun X c=>br N X c.1.1 c.1.2.1 c.1.2.2.1 c.2.1 c.2.2.1) N)
theorem ahV (R:Type):EnvOK Dp (Ev20 N R):=Du (ahW N R) (by kernel_rfl) (aq (li:=dJ) hmx (ahW N _) (by kernel_rfl) ab (fun X c=>mt N X c.1.1 c.1.2.1 c.1.2.2.1 c.2.1 c.2.2.1) N)
noncomputable def sL (n0:Int):Option Int:=
 Do (oE N n0 (2:Int) (30:Int)) fun v2=>
 some ((gt .u32 v2.1))
theorem adA (n0:Int):(runK Dp (Ev20 N) 400 149 [(.int .i64)] [(.int .u32)] (n0,())).run=sL N n0:=by kernel_rfl
noncomputable def Ev21:(R:Type)→Env R:=Dv (Ev20 N) 149 (fun R=>fnK [(.int .i64)] [(.int .u32)] (fun c=>sL N c.1))
theorem ahU (R:Type):EnvOK Dp (Ev21 N R):=Dt hmx (ahV N R) (ahV N _) (by kernel_rfl) (fun c=>adA N c.1)
noncomputable def iH:Option (Arr Int 3):=
 Do (sL N (2:Int)) fun v1=>
 Do (sL N (3:Int)) fun v2=>
 some ((@ne Int 2 0 (@ne Int (1:Nat) v1 (@ne Int (0:Nat) v2 (@DB Int)))))
theorem uf:(runK Dp (Ev21 N) 400 113 [] [(.arr 3 (.int .u32))] ()).run=iH N:=by kernel_rfl
noncomputable def Ev22:(R:Type)→Env R:=Dv (Ev21 N) 113 (fun R=>fnK [] [(.arr 3 (.int .u32))] (fun c=>iH N ))
theorem anJ (R:Type):EnvOK Dp (Ev22 N R):=Dt hmx (ahU N R) (ahU N _) (by kernel_rfl) (fun c=>uf N )
noncomputable def Ev23:(R:Type)→Env R:=DE (Ev22 N) [(114,0)]
theorem anA (R:Type):EnvOK Dp (Ev23 N R):=DC (anJ N R) [(114,0)]
noncomputable def Ev24:(R:Type)→Env R:=DE (Ev23 N) [(150,0)]
theorem ahT (R:Type):EnvOK Dp (Ev24 N R):=DC (anA N R) [(150,0)]
noncomputable def ms:LI:=⟨37,0,[],⟨[(0,.ty (.sl (.int .u8))),(1,.ty .bool),(6,.ty (.int .u64)),(17,.ty (.int .i64)),(18,.ty (.int .i64))],[]⟩,[(.exit 0,⟨[(6,.ty (.int .u64))],[]⟩)]⟩
noncomputable def jv (X:(((List Int)×(Bool×pz9))×Unit)→Option (((Int×Unit)×Unit)))(b0:List (Int))(little1:Bool)(n6:Int)(x17:Int)(x18:Int):Option (((Int×Unit)×Unit)):=
 bif (decide (x18<x17)) then
  Do (dX N x18 (((Ds b0):Nat):Int) little1) fun v7=>
  Do (getI b0 v7) fun (v8:Int)=>
  bif (decide ((0:Int)≤(gt .i64 ((8:Int)*x18)))) then
   (X ((b0,(little1,((bits .or .u64 n6 (gt .u64 ((gt .u64 v8)*((2:Int) ^ (min (Dq (gt .i64 ((8:Int)*x18))) (Dr .u64)))))),(x17,((gt .i64 (x18+1)),()))))),()))
  else
   none
 else
  some (((n6,()),()))
noncomputable def mr (c:(((List Int)×(Bool×pz9))×Unit)):Option (((Int×Unit)×Unit)):=gl (fun X c=>jv N X c.1.1 c.1.2.1 c.1.2.2.1 c.1.2.2.2.1 c.1.2.2.2.2.1) N c
theorem xU (X:(((List Int)×(Bool×pz9))×Unit)→Option (((Int×Unit)×Unit)))(b0:List (Int))(little1:Bool)(n6:Int)(x17:Int)(x18:Int):(am Dp (Ev24 N) 400 [118] ms (ak Dp [118] 5) X ((b0,little1,n6,x17,x18,()),())).run=jv N X b0 little1 n6 x17 x18:=by kernel_rfl
noncomputable def Ev25:(R:Type)→Env R:=Dy (Ev24 N) [118] 0 5 (fun R=>lpK Dp ms (fun X c=>jv N X c.1.1 c.1.2.1 c.1.2.2.1 c.1.2.2.2.1 c.1.2.2.2.2.1) N)
theorem ahS (R:Type):EnvOK Dp (Ev25 N R):=Du (ahT N R) (by kernel_rfl) (aq (li:=ms) hmx (ahT N _) (by kernel_rfl) ab (fun X c=>xU N X c.1.1 c.1.2.1 c.1.2.2.1 c.1.2.2.2.1 c.1.2.2.2.2.1) N)
noncomputable def gU (b0:List (Int))(little1:Bool):Option (Int×Int):=
 bif (decide ((((Ds b0):Nat):Int)<(1:Int))) then
  some (((0:Int),(1:Int)))
 else
  Do (some ((cond false true (decide ((8:Int)<(((Ds b0):Nat):Int)))))) fun (v3:Bool)=>
  bif v3 then
   some (((0:Int),(1:Int)))
  else
   Do (mr N ((b0,(little1,((0:Int),((((Ds b0):Nat):Int),((0:Int),()))))),())) fun v4=>
   some ((v4.1.1,(0:Int)))
theorem adx (b0:List (Int))(little1:Bool):(runK Dp (Ev25 N) 400 118 [(.sl (.int .u8)),.bool] [(.int .u64),(.int .i64)] (b0,little1,())).run=gU N b0 little1:=by kernel_rfl
noncomputable def Ev26:(R:Type)→Env R:=Dv (Ev25 N) 118 (fun R=>fnK [(.sl (.int .u8)),.bool] [(.int .u64),(.int .i64)] (fun c=>gU N c.1 c.2.1))
theorem ahR (R:Type):EnvOK Dp (Ev26 N R):=Dt hmx (ahS N R) (ahS N _) (by kernel_rfl) (fun c=>adx N c.1 c.2.1)
noncomputable def kG:LI:=⟨26,0,[],⟨[(1,.adr (.arr 64 (.int .u8))),(2,.lit (.box 0 0)),(3,.lit (.box 1 0)),(7,.ty (.int .i64))],[.box 215 (.arr 16 (.int .u32)),.box 215 (.arr 16 (.int .u32))]⟩,[(.exit 0,⟨[(2,.lit (.box 0 0)),(3,.lit (.box 1 0))],[.box 215 (.arr 16 (.int .u32)),.box 215 (.arr 16 (.int .u32))]⟩)]⟩
noncomputable def fy (X:(((Arr Int 64)×(Int×Unit))×pz15)→Option ((Unit×pz15)))(b1:Arr Int 64)(x7:Int)(h0:Arr Int 16)(h1:Arr Int 16):Option ((Unit×pz15)):=
 bif (decide (x7<(16:Int))) then
  Do (subI b1.l (gt .i64 ((4:Int)*x7)) (gt .i64 ((gt .i64 ((4:Int)*x7))+4))) fun (v6:(List Int))=>
  Do (gU N v6 true) fun v7=>
  bif (decide ((0:Int)≤x7∧x7<((16:Nat):Int))) then
   Do (h1.l[Dq x7]?) fun (v8:Int)=>
   (X ((b1,((gt .i64 (x7+1)),())),(h0,((h1.set (Dq x7) (gt .u32 v7.1)),()))))
  else
   none
 else
  some (((),(h0,(h1,()))))
noncomputable def pg (c:(((Arr Int 64)×(Int×Unit))×pz15)):Option ((Unit×pz15)):=gl (fun X c=>fy N X c.1.1 c.1.2.1 c.2.1 c.2.2.1) N c
theorem vy (X:(((Arr Int 64)×(Int×Unit))×pz15)→Option ((Unit×pz15)))(b1:Arr Int 64)(x7:Int)(h0:Arr Int 16)(h1:Arr Int 16):(am Dp (Ev26 N) 400 [150] kG (ak Dp [150] 3) X ((b1,x7,()),(h0,h1,()))).run=fy N X b1 x7 h0 h1:=by kernel_rfl
noncomputable def Ev27:(R:Type)→Env R:=Dy (Ev26 N) [150] 0 3 (fun R=>lpK Dp kG (fun X c=>fy N X c.1.1 c.1.2.1 c.2.1 c.2.2.1) N)
theorem ahP (R:Type):EnvOK Dp (Ev27 N R):=Du (ahR N R) (by kernel_rfl) (aq (li:=kG) hmx (ahR N _) (by kernel_rfl) ab (fun X c=>vy N X c.1.1 c.1.2.1 c.2.1 c.2.2.1) N)
noncomputable def nK (b0:Arr Int 64):Option (Arr Int 16):=
 Do (pg N ((b0,((0:Int),())),(zc16,(zc16,())))) fun v2=>
 some (v2.2.2.1)
theorem BJ (b0:Arr Int 64):(runK Dp (Ev27 N) 400 150 [(.arr 64 (.int .u8))] [(.arr 16 (.int .u32))] (b0,())).run=nK N b0:=by kernel_rfl
noncomputable def Ev28:(R:Type)→Env R:=Dv (Ev27 N) 150 (fun R=>fnK [(.arr 64 (.int .u8))] [(.arr 16 (.int .u32))] (fun c=>nK N c.1))
theorem ahN (R:Type):EnvOK Dp (Ev28 N R):=Dt hmx (ahP N R) (ahP N _) (by kernel_rfl) (fun c=>BJ N c.1)
noncomputable def nL (N:Nat)(r0:Int)(b1:Int)(c2:Int)(d3:Int):Option Int:=
 bif (decide (r0=(0:Int))) then
  some ((bits .or .u32 (bits .and .u32 b1 c2) (bits .and .u32 (bits .xor .u32 (@ite Int (@Eq Bool (@IntKind.signed @IntKind.u32) true) (@instDecidableEqBool (@IntKind.signed @IntKind.u32) true) (-1:Int) (@IntKind.max @IntKind.u32)) b1) d3)))
 else
  bif (decide (r0=(1:Int))) then
   some ((bits .or .u32 (bits .or .u32 (bits .and .u32 b1 c2) (bits .and .u32 b1 d3)) (bits .and .u32 c2 d3)))
  else
   some ((bits .xor .u32 (bits .xor .u32 b1 c2) d3))
theorem BM (r0:Int)(b1:Int)(c2:Int)(d3:Int):(runK Dp (Ev28 N) 400 151 [(.int .i64),(.int .u32),(.int .u32),(.int .u32)] [(.int .u32)] (r0,b1,c2,d3,())).run=nL N r0 b1 c2 d3:=by kernel_rfl
noncomputable def Ev29:(R:Type)→Env R:=Dv (Ev28 N) 151 (fun R=>fnK [(.int .i64),(.int .u32),(.int .u32),(.int .u32)] [(.int .u32)] (fun c=>nL N c.1 c.2.1 c.2.2.1 c.2.2.2.1))
theorem ahM (R:Type):EnvOK Dp (Ev29 N R):=Dt hmx (ahN N R) (ahN N _) (by kernel_rfl) (fun c=>BM N c.1 c.2.1 c.2.2.1 c.2.2.2.1)
noncomputable def jw (N:Nat)(i0:Int):Option Int:=
 bif (decide ((gt .i64 (@DA i0 (16:Int)))=(0:Int))) then
  some ((@Dx i0 (16:Int)))
 else
  bif (decide ((gt .i64 (@DA i0 (16:Int)))=(1:Int))) then
   some ((gt .i64 ((gt .i64 ((4:Int)*(@Dx (@Dx i0 (16:Int)) (4:Int))))+(gt .i64 (@DA (@Dx i0 (16:Int)) (4:Int))))))
  else
   Do (getI ([0,8,4,12,2,10,6,14,1,9,5,13,3,11,7,15]:List Int) (@Dx i0 (16:Int))) fun (v2:Int)=>
   some (v2)
theorem BL (i0:Int):(runK Dp (Ev29 N) 400 152 [(.int .i64)] [(.int .i64)] (i0,())).run=jw N i0:=by kernel_rfl
noncomputable def Ev30:(R:Type)→Env R:=Dv (Ev29 N) 152 (fun R=>fnK [(.int .i64)] [(.int .i64)] (fun c=>jw N c.1))
theorem ahL (R:Type):EnvOK Dp (Ev30 N R):=Dt hmx (ahM N R) (ahM N _) (by kernel_rfl) (fun c=>BL N c.1)
noncomputable def cE (N:Nat)(x0:Int)(k1:Int):Option Int:=
 bif (decide ((0:Int)≤(gt .u64 ((32:Int)-(bits .and .u64 (gt .u64 k1) (31:Int)))))) then
  some ((bits .or .u32 (gt .u32 (x0*((2:Int) ^ (min (Dq (bits .and .u64 (gt .u64 k1) (31:Int))) (Dr .u32))))) (@Dw x0 ((2:Int) ^ (min (Dq (gt .u64 ((32:Int)-(bits .and .u64 (gt .u64 k1) (31:Int))))) (Dr .u32))))))
 else
  none
theorem lG (x0:Int)(k1:Int):(runK Dp (Ev30 N) 400 153 [(.int .u32),(.int .i64)] [(.int .u32)] (x0,k1,())).run=cE N x0 k1:=by kernel_rfl
noncomputable def Ev31:(R:Type)→Env R:=Dv (Ev30 N) 153 (fun R=>fnK [(.int .u32),(.int .i64)] [(.int .u32)] (fun c=>cE N c.1 c.2.1))
theorem ahK (R:Type):EnvOK Dp (Ev31 N R):=Dt hmx (ahL N R) (ahL N _) (by kernel_rfl) (fun c=>lG N c.1 c.2.1)
noncomputable def jy:LI:=⟨70,0,[],⟨[(3,.adr (.arr 4 (.int .u32))),(5,.adr (.arr 3 (.int .u32))),(6,.lit (.box 0 0)),(7,.lit (.box 1 0)),(8,.lit (.box 2 0)),(16,.ty (.int .i64))],[.box 174 (.arr 4 (.int .u32)),.box 215 (.arr 16 (.int .u32)),.box 174 (.arr 4 (.int .u32))]⟩,[(.exit 0,⟨[(3,.adr (.arr 4 (.int .u32))),(6,.lit (.box 0 0)),(8,.lit (.box 1 0))],[.box 174 (.arr 4 (.int .u32)),.box 174 (.arr 4 (.int .u32))]⟩)]⟩
noncomputable def eA (X:(((Arr Int 4)×((Arr Int 3)×(Int×Unit)))×((Arr Int 4)×pz28))→Option ((((Arr Int 4)×Unit)×pz10)))(s3:Arr Int 4)(k5:Arr Int 3)(x16:Int)(h0:Arr Int 4)(h1:Arr Int 16)(h2:Arr Int 4):Option ((((Arr Int 4)×Unit)×pz10)):=
 bif (decide (x16<(48:Int))) then
  Do (h2.l[Dq (0:Int)]?) fun (v8:Int)=>
  Do (h2.l[Dq (1:Int)]?) fun (v9:Int)=>
  Do (h2.l[Dq (2:Int)]?) fun (v10:Int)=>
  Do (h2.l[Dq (3:Int)]?) fun (v11:Int)=>
  Do (nL N (gt .i64 (@DA x16 (16:Int))) v9 v10 v11) fun v12=>
  Do (jw N x16) fun v13=>
  bif (decide ((0:Int)≤v13∧v13<((16:Nat):Int))) then
   Do (h1.l[Dq v13]?) fun (v14:Int)=>
   Do (getI k5.l (gt .i64 (@DA x16 (16:Int)))) fun (v15:Int)=>
   Do (h2.l[Dq (3:Int)]?) fun (v16:Int)=>
   Do (getI ([(@Arr.mk Int (4:Nat) ([3,7,11,19]:List Int) @wu._proof_3),(@Arr.mk Int (4:Nat) ([3,5,9,13]:List Int) @wu._proof_4),(@Arr.mk Int (4:Nat) ([3,9,11,15]:List Int) @wu._proof_5)]:List ((Arr Int 4))) (gt .i64 (@DA x16 (16:Int)))) fun (v17:(Arr Int 4))=>
   Do (getI v17.l (@Dx x16 (4:Int))) fun (v18:Int)=>
   Do (cE N (gt .u32 ((gt .u32 ((gt .u32 (v8+v12))+v14))+v15)) v18) fun v19=>
   Do (h2.l[Dq (1:Int)]?) fun (v20:Int)=>
   Do (h2.l[Dq (2:Int)]?) fun (v21:Int)=>
   (X ((s3,(k5,((gt .i64 (x16+1)),()))),(h0,(h1,((@ne Int (3:Nat) v16 (@ne Int (2:Nat) v19 (@ne Int (1:Nat) v20 (@ne Int (0:Nat) v21 (@DB Int))))),())))))
  else
   none
 else
  some (((s3,()),(h0,(h2,()))))
noncomputable def nN (c:(((Arr Int 4)×((Arr Int 3)×(Int×Unit)))×((Arr Int 4)×pz28))):Option ((((Arr Int 4)×Unit)×pz10)):=gl (fun X c=>eA N X c.1.1 c.1.2.1 c.1.2.2.1 c.2.1 c.2.2.1 c.2.2.2.1) N c
theorem ug (X:(((Arr Int 4)×((Arr Int 3)×(Int×Unit)))×((Arr Int 4)×pz28))→Option ((((Arr Int 4)×Unit)×pz10)))(s3:Arr Int 4)(k5:Arr Int 3)(x16:Int)(h0:Arr Int 4)(h1:Arr Int 16)(h2:Arr Int 4):(am Dp (Ev31 N) 400 [114] jy (ak Dp [114] 4) X ((s3,k5,x16,()),(h0,h1,h2,()))).run=eA N X s3 k5 x16 h0 h1 h2:=by kernel_rfl
noncomputable def Ev32:(R:Type)→Env R:=Dy (Ev31 N) [114] 0 4 (fun R=>lpK Dp jy (fun X c=>eA N X c.1.1 c.1.2.1 c.1.2.2.1 c.2.1 c.2.2.1 c.2.2.2.1) N)
theorem ahJ (R:Type):EnvOK Dp (Ev32 N R):=Du (ahK N R) (by kernel_rfl) (aq (li:=jy) hmx (ahK N _) (by kernel_rfl) ab (fun X c=>ug N X c.1.1 c.1.2.1 c.1.2.2.1 c.2.1 c.2.2.1 c.2.2.2.1) N)
noncomputable def iu:LI:=⟨70,0,[],⟨[(3,.adr (.arr 4 (.int .u32))),(6,.lit (.box 0 0)),(8,.lit (.box 1 0)),(57,.ty (.int .i64))],[.box 174 (.arr 4 (.int .u32)),.box 174 (.arr 4 (.int .u32))]⟩,[(.exit 2,⟨[(6,.lit (.box 0 0)),(8,.lit (.box 1 0))],[.box 174 (.arr 4 (.int .u32)),.box 174 (.arr 4 (.int .u32))]⟩)]⟩
noncomputable def dY (N:Nat)(X:(pz27×pz10)→Option ((Unit×pz10)))(s3:Arr Int 4)(x57:Int)(h0:Arr Int 4)(h1:Arr Int 4):Option ((Unit×pz10)):=
 bif (decide (x57<(4:Int))) then
  bif (decide ((0:Int)≤x57∧x57<((4:Nat):Int))) then
   Do (h1.l[Dq x57]?) fun (v6:Int)=>
   Do (getI s3.l x57) fun (v7:Int)=>
   bif (decide ((0:Int)≤x57∧x57<((4:Nat):Int))) then
    Do (h1.l[Dq x57]?) fun (v8:Int)=>
    (X ((s3,((gt .i64 (x57+1)),())),(h0,((h1.set (Dq x57) (gt .u32 (v6+v7))),()))))
   else
    none
  else
   none
 else
  some (((),(h0,(h1,()))))
noncomputable def m9 (c:(pz27×pz10)):Option ((Unit×pz10)):=gl (fun X c=>dY N X c.1.1 c.1.2.1 c.2.1 c.2.2.1) N c
theorem sr (X:(pz27×pz10)→Option ((Unit×pz10)))(s3:Arr Int 4)(x57:Int)(h0:Arr Int 4)(h1:Arr Int 4):(am Dp (Ev32 N) 400 [114] iu (ak Dp [114] 11) X ((s3,x57,()),(h0,h1,()))).run=dY N X s3 x57 h0 h1:=by kernel_rfl
noncomputable def Ev33:(R:Type)→Env R:=Dy (Ev32 N) [114] 0 11 (fun R=>lpK Dp iu (fun X c=>dY N X c.1.1 c.1.2.1 c.2.1 c.2.2.1) N)
theorem ahI (R:Type):EnvOK Dp (Ev33 N R):=Du (ahJ N R) (by kernel_rfl) (aq (li:=iu) hmx (ahJ N _) (by kernel_rfl) ab (fun X c=>sr N X c.1.1 c.1.2.1 c.2.1 c.2.2.1) N)
noncomputable def gL (s0:Arr Int 4)(b1:Arr Int 64)(k2:Arr Int 3):Option (Arr Int 4):=
 Do (nK N b1) fun v4=>
 Do (nN N ((s0,(k2,((0:Int),()))),((@ne Int 3 0 (@ne Int 2 0 (@ne Int 1 0 (@ne Int 0 0 (@DB Int))))),(v4,(s0,()))))) fun v5=>
 Do (m9 N ((v5.1.1,((0:Int),())),(v5.2.1,(v5.2.2.1,())))) fun v6=>
 some (v6.2.2.1)
theorem Ac (s0:Arr Int 4)(b1:Arr Int 64)(k2:Arr Int 3):(runK Dp (Ev33 N) 400 114 [(.arr 4 (.int .u32)),(.arr 64 (.int .u8)),(.arr 3 (.int .u32))] [(.arr 4 (.int .u32))] (s0,b1,k2,())).run=gL N s0 b1 k2:=by kernel_rfl
noncomputable def Ev34:(R:Type)→Env R:=Dv (Ev33 N) 114 (fun R=>fnK [(.arr 4 (.int .u32)),(.arr 64 (.int .u8)),(.arr 3 (.int .u32))] [(.arr 4 (.int .u32))] (fun c=>gL N c.1 c.2.1 c.2.2.1))
theorem ahH (R:Type):EnvOK Dp (Ev34 N R):=Dt hmx (ahI N R) (ahI N _) (by kernel_rfl) (fun c=>Ac N c.1 c.2.1 c.2.2.1)
noncomputable def pz:LI:=⟨35,0,[],⟨[(2,.lit (.box 0 0)),(3,.ty (.sl (.int .u8))),(4,.lit (.box 1 0)),(5,.lit (.box 2 0)),(6,.ty (.int .i64))],[.box 27 (.arr 16 (.int .u8)),.box 174 (.arr 4 (.int .u32)),.box 176 (.arr 3 (.int .u32))]⟩,[(.exit 0,⟨[(2,.lit (.box 0 0)),(4,.lit (.box 1 0))],[.box 27 (.arr 16 (.int .u8)),.box 174 (.arr 4 (.int .u32))]⟩)]⟩
noncomputable def lF (X:(pz8×((Arr Int 16)×((Arr Int 4)×((Arr Int 3)×Unit))))→Option ((Unit×pz28)))(all3:List (Int))(i6:Int)(h0:Arr Int 16)(h1:Arr Int 4)(h2:Arr Int 3):Option ((Unit×pz28)):=
 bif (decide (i6<(((Ds all3):Nat):Int))) then
  Do (subI all3 i6 (gt .i64 (i6+64))) fun (v7:(List Int))=>
  Do (@dA Int (64:Nat) v7) fun (v8:(Arr Int 64))=>
  Do (gL N h1 v8 h2) fun v9=>
  (X ((all3,((gt .i64 (i6+64)),())),(h0,(v9,(h2,())))))
 else
  some (((),(h0,(h1,()))))
noncomputable def uh (c:(pz8×((Arr Int 16)×((Arr Int 4)×((Arr Int 3)×Unit))))):Option ((Unit×pz28)):=gl (fun X c=>lF N X c.1.1 c.1.2.1 c.2.1 c.2.2.1 c.2.2.2.1) N c
theorem BN (X:(pz8×((Arr Int 16)×((Arr Int 4)×((Arr Int 3)×Unit))))→Option ((Unit×pz28)))(all3:List (Int))(i6:Int)(h0:Arr Int 16)(h1:Arr Int 4)(h2:Arr Int 3):(am Dp (Ev34 N) 400 [78] pz (ak Dp [78] 5) X ((all3,i6,()),(h0,h1,h2,()))).run=lF N X all3 i6 h0 h1 h2:=by kernel_rfl
noncomputable def Ev35:(R:Type)→Env R:=Dy (Ev34 N) [78] 0 5 (fun R=>lpK Dp pz (fun X c=>lF N X c.1.1 c.1.2.1 c.2.1 c.2.2.1 c.2.2.2.1) N)
theorem amN (R:Type):EnvOK Dp (Ev35 N R):=Du (ahH N R) (by kernel_rfl) (aq (li:=pz) hmx (ahH N _) (by kernel_rfl) ab (fun X c=>BN N X c.1.1 c.1.2.1 c.2.1 c.2.2.1 c.2.2.2.1) N)
noncomputable def Ev36:(R:Type)→Env R:=DE (Ev35 N) [(115,0)]
theorem ahG (R:Type):EnvOK Dp (Ev36 N R):=DC (amN N R) [(115,0)]
noncomputable def jx:LI:=⟨25,0,[(3,5)],⟨[(2,.lit (.box 0 0)),(3,.lit (.own 1)),(8,.ty (.arr 4 (.int .u32))),(9,.ty (.int .i64))],[.box 27 (.arr 16 (.int .u8)),.own (.int .u8) 5]⟩,[(.exit 0,⟨[(2,.lit (.box 0 0)),(3,.lit (.own 1))],[.box 27 (.arr 16 (.int .u8)),.own (.int .u8) 5]⟩)]⟩
noncomputable def dG (X:(pz27×pz20)→Option ((Unit×pz20)))(x8:Arr Int 4)(x9:Int)(h0:Arr Int 16)(h1:List (Int)):Option ((Unit×pz20)):=
 bif (decide (x9<(4:Int))) then
  Do (getI x8.l x9) fun (v6:Int)=>
  Do (cm N (gt .u64 v6) (4:Int) true) fun v7=>
  bif (ae ((Ds h1)+(Ds v7.1)) 1) then
   (X ((x8,((gt .i64 (x9+1)),())),(h0,((h1++v7.1),()))))
  else
   none
 else
  some (((),(h0,(h1,()))))
noncomputable def nM (c:(pz27×pz20)):Option ((Unit×pz20)):=gl (fun X c=>dG N X c.1.1 c.1.2.1 c.2.1 c.2.2.1) N c
theorem ue (X:(pz27×pz20)→Option ((Unit×pz20)))(x8:Arr Int 4)(x9:Int)(h0:Arr Int 16)(h1:List (Int)):(am Dp (Ev36 N) 400 [115] jx (ak Dp [115] 3) X ((x8,x9,()),(h0,h1,()))).run=dG N X x8 x9 h0 h1:=by kernel_rfl
noncomputable def Ev37:(R:Type)→Env R:=Dy (Ev36 N) [115] 0 3 (fun R=>lpK Dp jx (fun X c=>dG N X c.1.1 c.1.2.1 c.2.1 c.2.2.1) N)
theorem ahF (R:Type):EnvOK Dp (Ev37 N R):=Du (ahG N R) (by kernel_rfl) (aq (li:=jx) hmx (ahG N _) (by kernel_rfl) ab (fun X c=>ue N X c.1.1 c.1.2.1 c.2.1 c.2.2.1) N)
noncomputable def lE (s0:Arr Int 4):Option (Arr Int 16):=
 Do (nM N ((s0,((0:Int),())),(zc16,(([]:List Int),())))) fun v2=>
 Do (@dA Int (16:Nat) v2.2.2.1) fun (v3:(Arr Int 16))=>
 some (v3)
theorem Ab (s0:Arr Int 4):(runK Dp (Ev37 N) 400 115 [(.arr 4 (.int .u32))] [(.arr 16 (.int .u8))] (s0,())).run=lE N s0:=by kernel_rfl
noncomputable def Ev38:(R:Type)→Env R:=Dv (Ev37 N) 115 (fun R=>fnK [(.arr 4 (.int .u32))] [(.arr 16 (.int .u8))] (fun c=>lE N c.1))
theorem ahE (R:Type):EnvOK Dp (Ev38 N R):=Dt hmx (ahF N R) (ahF N _) (by kernel_rfl) (fun c=>Ab N c.1)
noncomputable def rQ (parts0:List (List Int)):Option (Arr Int 16):=
 Do (fP N ((parts0,((0:Int),(parts0,((((Ds parts0):Nat):Int),((0:Int),()))))),(zc16,()))) fun v2=>
 bif ((decide ((0:Int)≤(0:Int)∧(0:Int)≤v2.1.2.1))&&(ae (Dq v2.1.2.1) 1)) then
  Do (fO N ((v2.1.1,((((Ds v2.1.1):Nat):Int),((0:Int),()))),(v2.2.1,((@Dz Int (Dq (0:Int)) (0:Int)),())))) fun v3=>
  Do (qj N (gt .u64 (((Ds v3.2.2.1):Nat):Int))) fun v4=>
  bif (ae ((Ds v3.2.2.1)+(Ds v4)) 1) then
   Do (@iH N) fun (v5:(Arr Int 3))=>
   Do (uh N (((v3.2.2.1++v4),((0:Int),())),(v3.2.1,((@ne Int 3 1732584193 (@ne Int 2 4023233417 (@ne Int 1 2562383102 (@ne Int 0 271733878 (@DB Int))))),(v5,()))))) fun v6=>
   Do (lE N v6.2.2.1) fun v7=>
   some (v7)
  else
   none
 else
  none
theorem aiL (parts0:List (List Int)):(runK Dp (Ev38 N) 400 78 [(.sl (.sl (.int .u8)))] [(.arr 16 (.int .u8))] (parts0,())).run=rQ N parts0:=by kernel_rfl
noncomputable def Ev39:(R:Type)→Env R:=Dv (Ev38 N) 78 (fun R=>fnK [(.sl (.sl (.int .u8)))] [(.arr 16 (.int .u8))] (fun c=>rQ N c.1))
theorem amM (R:Type):EnvOK Dp (Ev39 N R):=Dt hmx (ahE N R) (ahE N _) (by kernel_rfl) (fun c=>aiL N c.1)
noncomputable def Ev40:(R:Type)→Env R:=DE (Ev39 N) [(87,0)]
theorem ahD (R:Type):EnvOK Dp (Ev40 N R):=DC (amM N R) [(87,0)]
noncomputable def eX (N:Nat)(i0:Int):Option Int:=
 bif (decide ((gt .i64 (@DA i0 (16:Int)))=(0:Int))) then
  some (i0)
 else
  bif (decide ((gt .i64 (@DA i0 (16:Int)))=(1:Int))) then
   some ((gt .i64 ((gt .i64 ((@Dx i0 (4:Int))*(4:Int)))+(@Dx (gt .i64 (@DA i0 (4:Int))) (4:Int)))))
  else
   Do (getI ([0,8,4,12,2,10,6,14,1,9,5,13,3,11,7,15]:List Int) (gt .i64 (i0-32))) fun (v2:Int)=>
   some (v2)
theorem xF (i0:Int):(runK Dp (Ev40 N) 400 127 [(.int .i64)] [(.int .i64)] (i0,())).run=eX N i0:=by kernel_rfl
noncomputable def Ev41:(R:Type)→Env R:=Dv (Ev40 N) 127 (fun R=>fnK [(.int .i64)] [(.int .i64)] (fun c=>eX N c.1))
theorem ahC (R:Type):EnvOK Dp (Ev41 N R):=Dt hmx (ahD N R) (ahD N _) (by kernel_rfl) (fun c=>xF N c.1)
noncomputable def zB (N:Nat)(b0:Int)(c1:Int)(d2:Int):Option Int:=
 some ((bits .or .u32 (bits .or .u32 (bits .and .u32 b0 c1) (bits .and .u32 b0 d2)) (bits .and .u32 c1 d2)))
theorem Bl (b0:Int)(c1:Int)(d2:Int):(runK Dp (Ev41 N) 400 163 [(.int .u32),(.int .u32),(.int .u32)] [(.int .u32)] (b0,c1,d2,())).run=zB N b0 c1 d2:=by kernel_rfl
noncomputable def Ev42:(R:Type)→Env R:=Dv (Ev41 N) 163 (fun R=>fnK [(.int .u32),(.int .u32),(.int .u32)] [(.int .u32)] (fun c=>zB N c.1 c.2.1 c.2.2.1))
theorem ahB (R:Type):EnvOK Dp (Ev42 N R):=Dt hmx (ahC N R) (ahC N _) (by kernel_rfl) (fun c=>Bl N c.1 c.2.1 c.2.2.1)
noncomputable def lw (N:Nat)(round0:Int)(b1:Int)(c2:Int)(d3:Int):Option Int:=
 bif (decide (round0=(0:Int))) then
  some ((bits .or .u32 (bits .and .u32 b1 c2) (bits .and .u32 (gt .u32 ((4294967295:Int)-b1)) d3)))
 else
  bif (decide (round0=(1:Int))) then
   some ((gt .u32 ((bits .or .u32 (bits .or .u32 (bits .and .u32 b1 c2) (bits .and .u32 b1 d3)) (bits .and .u32 c2 d3))+1518500249)))
  else
   some ((gt .u32 ((bits .xor .u32 (bits .xor .u32 b1 c2) d3)+1859775393)))
theorem zD (round0:Int)(b1:Int)(c2:Int)(d3:Int):(runK Dp (Ev42 N) 400 129 [(.int .i64),(.int .u32),(.int .u32),(.int .u32)] [(.int .u32)] (round0,b1,c2,d3,())).run=lw N round0 b1 c2 d3:=by kernel_rfl
noncomputable def Ev43:(R:Type)→Env R:=Dv (Ev42 N) 129 (fun R=>fnK [(.int .i64),(.int .u32),(.int .u32),(.int .u32)] [(.int .u32)] (fun c=>lw N c.1 c.2.1 c.2.2.1 c.2.2.2.1))
theorem ahA (R:Type):EnvOK Dp (Ev43 N R):=Dt hmx (ahB N R) (ahB N _) (by kernel_rfl) (fun c=>zD N c.1 c.2.1 c.2.2.1 c.2.2.2.1)
noncomputable def oG (N:Nat)(x0:Int)(n1:Int):Option Int:=
 bif (decide ((0:Int)≤n1)) then
  bif (decide ((0:Int)≤(gt .i64 ((32:Int)-n1)))) then
   some ((bits .or .u32 (gt .u32 (x0*((2:Int) ^ (min (Dq n1) (Dr .u32))))) (@Dw x0 ((2:Int) ^ (min (Dq (gt .i64 ((32:Int)-n1))) (Dr .u32))))))
  else
   none
 else
  none
theorem zC (x0:Int)(n1:Int):(runK Dp (Ev43 N) 400 128 [(.int .u32),(.int .i64)] [(.int .u32)] (x0,n1,())).run=oG N x0 n1:=by kernel_rfl
noncomputable def Ev44:(R:Type)→Env R:=Dv (Ev43 N) 128 (fun R=>fnK [(.int .u32),(.int .i64)] [(.int .u32)] (fun c=>oG N c.1 c.2.1))
theorem ahz (R:Type):EnvOK Dp (Ev44 N R):=Dt hmx (ahA N R) (ahA N _) (by kernel_rfl) (fun c=>zC N c.1 c.2.1)
noncomputable def ir:LI:=⟨94,0,[],⟨[(2,.adr (.arr 4 (.int .u32))),(3,.adr (.arr 64 (.int .u8))),(4,.lit (.box 0 0)),(5,.ty (.sl (.sl (.int .i64)))),(6,.lit (.box 1 0)),(7,.ty (.int .i64))],[.box 149 (.arr 4 (.int .u32)),.box 149 (.arr 4 (.int .u32))]⟩,[(.exit 0,⟨[(2,.adr (.arr 4 (.int .u32))),(4,.lit (.box 0 0)),(6,.lit (.box 1 0))],[.box 149 (.arr 4 (.int .u32)),.box 149 (.arr 4 (.int .u32))]⟩)]⟩
noncomputable def dW (X:(((Arr Int 4)×((Arr Int 64)×pz12))×pz10)→Option ((((Arr Int 4)×Unit)×pz10)))(s2:Arr Int 4)(block3:Arr Int 64)(turns5:List (List Int))(i7:Int)(h0:Arr Int 4)(h1:Arr Int 4):Option ((((Arr Int 4)×Unit)×pz10)):=
 bif (decide (i7<(48:Int))) then
  Do (eX N i7) fun v8=>
  Do (getI block3.l (gt .i64 ((4:Int)*v8))) fun (v9:Int)=>
  Do (getI block3.l (gt .i64 ((gt .i64 ((4:Int)*v8))+1))) fun (v10:Int)=>
  Do (getI block3.l (gt .i64 ((gt .i64 ((4:Int)*v8))+2))) fun (v11:Int)=>
  Do (getI block3.l (gt .i64 ((gt .i64 ((4:Int)*v8))+3))) fun (v12:Int)=>
  Do (h1.l[Dq (0:Int)]?) fun (v13:Int)=>
  Do (h1.l[Dq (1:Int)]?) fun (v14:Int)=>
  Do (h1.l[Dq (2:Int)]?) fun (v15:Int)=>
  Do (h1.l[Dq (3:Int)]?) fun (v16:Int)=>
  Do (lw N (gt .i64 (@DA i7 (16:Int))) v14 v15 v16) fun v17=>
  Do (getI turns5 (gt .i64 (@DA i7 (16:Int)))) fun (v18:(List Int))=>
  Do (getI v18 (@Dx i7 (4:Int))) fun (v19:Int)=>
  Do (oG N (gt .u32 ((gt .u32 (v13+v17))+(gt .u32 ((gt .u32 ((gt .u32 ((gt .u32 v9)+(gt .u32 ((gt .u32 v10)*(256:Int)))))+(gt .u32 ((gt .u32 v11)*(65536:Int)))))+(gt .u32 ((gt .u32 v12)*(16777216:Int))))))) v19) fun v20=>
  Do (h1.l[Dq (3:Int)]?) fun (v21:Int)=>
  Do (h1.l[Dq (1:Int)]?) fun (v22:Int)=>
  Do (h1.l[Dq (2:Int)]?) fun (v23:Int)=>
  (X ((s2,(block3,(turns5,((gt .i64 (i7+1)),())))),(h0,((@ne Int (3:Nat) v21 (@ne Int (2:Nat) v20 (@ne Int (1:Nat) v22 (@ne Int (0:Nat) v23 (@DB Int))))),()))))
 else
  some (((s2,()),(h0,(h1,()))))
noncomputable def m6 (c:(((Arr Int 4)×((Arr Int 64)×pz12))×pz10)):Option ((((Arr Int 4)×Unit)×pz10)):=gl (fun X c=>dW N X c.1.1 c.1.2.1 c.1.2.2.1 c.1.2.2.2.1 c.2.1 c.2.2.1) N c
theorem sq (X:(((Arr Int 4)×((Arr Int 64)×pz12))×pz10)→Option ((((Arr Int 4)×Unit)×pz10)))(s2:Arr Int 4)(block3:Arr Int 64)(turns5:List (List Int))(i7:Int)(h0:Arr Int 4)(h1:Arr Int 4):(am Dp (Ev44 N) 400 [87] ir (ak Dp [87] 4) X ((s2,block3,turns5,i7,()),(h0,h1,()))).run=dW N X s2 block3 turns5 i7 h0 h1:=by kernel_rfl
noncomputable def Ev45:(R:Type)→Env R:=Dy (Ev44 N) [87] 0 4 (fun R=>lpK Dp ir (fun X c=>dW N X c.1.1 c.1.2.1 c.1.2.2.1 c.1.2.2.2.1 c.2.1 c.2.2.1) N)
theorem ahy (R:Type):EnvOK Dp (Ev45 N R):=Du (ahz N R) (by kernel_rfl) (aq (li:=ir) hmx (ahz N _) (by kernel_rfl) ab (fun X c=>sq N X c.1.1 c.1.2.1 c.1.2.2.1 c.1.2.2.2.1 c.2.1 c.2.2.1) N)
noncomputable def gD:LI:=⟨94,0,[],⟨[(2,.adr (.arr 4 (.int .u32))),(4,.lit (.box 0 0)),(6,.lit (.box 1 0)),(11,.ty (.int .i64))],[.box 149 (.arr 4 (.int .u32)),.box 149 (.arr 4 (.int .u32))]⟩,[(.exit 2,⟨[(4,.lit (.box 0 0)),(6,.lit (.box 1 0))],[.box 149 (.arr 4 (.int .u32)),.box 149 (.arr 4 (.int .u32))]⟩)]⟩
noncomputable def di (N:Nat)(X:(pz27×pz10)→Option ((Unit×pz10)))(s2:Arr Int 4)(i11:Int)(h0:Arr Int 4)(h1:Arr Int 4):Option ((Unit×pz10)):=
 bif (decide (i11<(4:Int))) then
  bif (decide ((0:Int)≤i11∧i11<((4:Nat):Int))) then
   Do (h1.l[Dq i11]?) fun (v6:Int)=>
   Do (getI s2.l i11) fun (v7:Int)=>
   bif (decide ((0:Int)≤i11∧i11<((4:Nat):Int))) then
    Do (h1.l[Dq i11]?) fun (v8:Int)=>
    (X ((s2,((gt .i64 (i11+1)),())),(h0,((h1.set (Dq i11) (gt .u32 (v6+v7))),()))))
   else
    none
  else
   none
 else
  some (((),(h0,(h1,()))))
noncomputable def lz (c:(pz27×pz10)):Option ((Unit×pz10)):=gl (fun X c=>di N X c.1.1 c.1.2.1 c.2.1 c.2.2.1) N c
theorem qX (X:(pz27×pz10)→Option ((Unit×pz10)))(s2:Arr Int 4)(i11:Int)(h0:Arr Int 4)(h1:Arr Int 4):(am Dp (Ev45 N) 400 [87] gD (ak Dp [87] 11) X ((s2,i11,()),(h0,h1,()))).run=di N X s2 i11 h0 h1:=by kernel_rfl
noncomputable def Ev46:(R:Type)→Env R:=Dy (Ev45 N) [87] 0 11 (fun R=>lpK Dp gD (fun X c=>di N X c.1.1 c.1.2.1 c.2.1 c.2.2.1) N)
theorem ahx (R:Type):EnvOK Dp (Ev46 N R):=Du (ahy N R) (by kernel_rfl) (aq (li:=gD) hmx (ahy N _) (by kernel_rfl) ab (fun X c=>qX N X c.1.1 c.1.2.1 c.2.1 c.2.2.1) N)
noncomputable def js (s0:Arr Int 4)(block1:Arr Int 64):Option (Arr Int 4):=
 Do (m6 N ((s0,(block1,(([([3,7,11,19]:List Int),([3,5,9,13]:List Int),([3,9,11,15]:List Int)]:List ((List Int))),((0:Int),())))),((@ne Int 3 0 (@ne Int 2 0 (@ne Int 1 0 (@ne Int 0 0 (@DB Int))))),(s0,())))) fun v3=>
 Do (lz N ((v3.1.1,((0:Int),())),(v3.2.1,(v3.2.2.1,())))) fun v4=>
 some (v4.2.2.1)
theorem xJ (s0:Arr Int 4)(block1:Arr Int 64):(runK Dp (Ev46 N) 400 87 [(.arr 4 (.int .u32)),(.arr 64 (.int .u8))] [(.arr 4 (.int .u32))] (s0,block1,())).run=js N s0 block1:=by kernel_rfl
noncomputable def Ev47:(R:Type)→Env R:=Dv (Ev46 N) 87 (fun R=>fnK [(.arr 4 (.int .u32)),(.arr 64 (.int .u8))] [(.arr 4 (.int .u32))] (fun c=>js N c.1 c.2.1))
theorem amL (R:Type):EnvOK Dp (Ev47 N R):=Dt hmx (ahx N R) (ahx N _) (by kernel_rfl) (fun c=>xJ N c.1 c.2.1)
noncomputable def Ev48:(R:Type)→Env R:=Env.addMv (Ev47 N) [(85,1),(85,8)]
theorem ahw (R:Type):EnvOK Dp (Ev48 N R):=EnvOK.addMv (amL N R) [(85,1),(85,8)]
noncomputable def jr:LI:=⟨32,0,[],⟨[(0,.ty (.int .u64)),(3,.lit (.own 0))],[.own (.int .u8) 5]⟩,[(.exit 0,⟨[(0,.ty (.int .u64)),(3,.lit (.own 0))],[.own (.int .u8) 5]⟩)]⟩
noncomputable def ck (N:Nat)(X:pz21→Option (pz21))(n0:Int)(h0:List (Int)):Option (pz21):=
 bif (!(decide ((@Dx (gt .u64 (n0+(gt .u64 (((Ds h0):Nat):Int)))) (64:Int))=(56:Int)))) then
  bif (ae ((Ds h0)+(Ds ([0]:List Int))) 1) then
   (X ((n0,()),((h0++([0]:List Int)),())))
  else
   none
 else
  some (((n0,()),(h0,())))
noncomputable def tN (c:pz21):Option (pz21):=gl (fun X c=>ck N X c.1.1 c.2.1) N c
theorem tM (X:pz21→Option (pz21))(n0:Int)(h0:List (Int)):(am Dp (Ev48 N) 400 [85] jr (ak Dp [85] 2) X ((n0,()),(h0,()))).run=ck N X n0 h0:=by kernel_rfl
noncomputable def Ev49:(R:Type)→Env R:=Dy (Ev48 N) [85] 0 2 (fun R=>lpK Dp jr (fun X c=>ck N X c.1.1 c.2.1) N)
theorem ahv (R:Type):EnvOK Dp (Ev49 N R):=Du (ahw N R) (by kernel_rfl) (aq (li:=jr) hmx (ahw N _) (by kernel_rfl) ab (fun X c=>tM N X c.1.1 c.2.1) N)
noncomputable def jq:LI:=⟨32,0,[],⟨[(3,.lit (.own 0)),(4,.ty (.int .u64)),(5,.ty (.int .i64))],[.own (.int .u8) 5]⟩,[(.exit 2,⟨[(3,.lit (.own 0))],[.own (.int .u8) 5]⟩)]⟩
noncomputable def bD (N:Nat)(X:pz19→Option pz3)(bits4:Int)(i5:Int)(h0:List (Int)):Option pz3:=
 bif (decide (i5<(8:Int))) then
  bif (ae ((Ds h0)+(Ds ([(gt .u8 (@Dx bits4 (256:Int)))]:List (Int)))) 1) then
   (X (((gt .u64 (@DA bits4 (256:Int))),((gt .i64 (i5+1)),())),((h0++([(gt .u8 (@Dx bits4 (256:Int)))]:List (Int))),())))
  else
   none
 else
  some (((),(h0,())))
noncomputable def jp (c:pz19):Option pz3:=gl (fun X c=>bD N X c.1.1 c.1.2.1 c.2.1) N c
theorem tL (X:pz19→Option pz3)(bits4:Int)(i5:Int)(h0:List (Int)):(am Dp (Ev49 N) 400 [85] jq (ak Dp [85] 6) X ((bits4,i5,()),(h0,()))).run=bD N X bits4 i5 h0:=by kernel_rfl
noncomputable def Ev50:(R:Type)→Env R:=Dy (Ev49 N) [85] 0 6 (fun R=>lpK Dp jq (fun X c=>bD N X c.1.1 c.1.2.1 c.2.1) N)
theorem ahu (R:Type):EnvOK Dp (Ev50 N R):=Du (ahv N R) (by kernel_rfl) (aq (li:=jq) hmx (ahv N _) (by kernel_rfl) ab (fun X c=>tL N X c.1.1 c.1.2.1 c.2.1) N)
noncomputable def et (n0:Int):Option (List Int):=
 Do (tN N ((n0,()),(([128]:List Int),()))) fun v2=>
 Do (jp N (((gt .u64 ((8:Int)*v2.1.1)),((0:Int),())),(v2.2.1,()))) fun v3=>
 some (v3.2.1)
theorem zE (n0:Int):(runK Dp (Ev50 N) 400 85 [(.int .u64)] [(.sl (.int .u8))] (n0,())).run=et N n0:=by kernel_rfl
noncomputable def Ev51:(R:Type)→Env R:=Dv (Ev50 N) 85 (fun R=>fnK [(.int .u64)] [(.sl (.int .u8))] (fun c=>et N c.1))
theorem aht (R:Type):EnvOK Dp (Ev51 N R):=Dt hmx (ahu N R) (ahu N _) (by kernel_rfl) (fun c=>zE N c.1)
noncomputable def tO (N:Nat):Option (Arr Int 4):=
 some ((@ne Int 3 1732584193 (@ne Int 2 4023233417 (@ne Int 1 2562383102 (@ne Int 0 271733878 (@DB Int))))))
theorem xI:(runK Dp (Ev51 N) 400 86 [] [(.arr 4 (.int .u32))] ()).run=tO N:=by kernel_rfl
noncomputable def Ev52:(R:Type)→Env R:=Dv (Ev51 N) 86 (fun R=>fnK [] [(.arr 4 (.int .u32))] (fun c=>tO N ))
theorem ahs (R:Type):EnvOK Dp (Ev52 N R):=Dt hmx (aht N R) (aht N _) (by kernel_rfl) (fun c=>xI N )
noncomputable def mf:LI:=⟨55,0,[],⟨[(2,.lit (.box 0 0)),(3,.lit (.own 1)),(4,.lit (.box 2 0)),(5,.ty (.int .i64)),(6,.lit (.box 3 0)),(7,.ty (.int .i64))],[.box 27 (.arr 16 (.int .u8)),.own (.int .u8) 5,.box 149 (.arr 4 (.int .u32)),.box 151 (.arr 64 (.int .u8))]⟩,[(.exit 2,⟨[(2,.lit (.box 0 0)),(3,.lit (.own 1)),(4,.lit (.box 2 0)),(5,.ty (.int .i64)),(6,.lit (.box 3 0))],[.box 27 (.arr 16 (.int .u8)),.own (.int .u8) 5,.box 149 (.arr 4 (.int .u32)),.box 151 (.arr 64 (.int .u8))]⟩)]⟩
noncomputable def gB (N:Nat)(X:((Int×(Int×Unit))×pz24)→Option (((Int×Unit)×pz24)))(x5:Int)(i7:Int)(h0:Arr Int 16)(h1:List (Int))(h2:Arr Int 4)(h3:Arr Int 64):Option (((Int×Unit)×pz24)):=
 bif (decide (i7<(64:Int))) then
  bif (decide ((0:Int)≤(gt .i64 (x5+i7))∧(gt .i64 (x5+i7))<(((Ds h1):Nat):Int))) then
   Do (h1[Dq (gt .i64 (x5+i7))]?) fun (v8:Int)=>
   bif (decide ((0:Int)≤i7∧i7<((64:Nat):Int))) then
    Do (h3.l[Dq i7]?) fun (v9:Int)=>
    (X ((x5,((gt .i64 (i7+1)),())),(h0,(h1,(h2,((h3.set (Dq i7) v8),()))))))
   else
    none
  else
   none
 else
  some (((x5,()),(h0,(h1,(h2,(h3,()))))))
noncomputable def pZ (c:((Int×(Int×Unit))×pz24)):Option (((Int×Unit)×pz24)):=gl (fun X c=>gB N X c.1.1 c.1.2.1 c.2.1 c.2.2.1 c.2.2.2.1 c.2.2.2.2.1) N c
theorem xG (X:((Int×(Int×Unit))×pz24)→Option (((Int×Unit)×pz24)))(x5:Int)(i7:Int)(h0:Arr Int 16)(h1:List (Int))(h2:Arr Int 4)(h3:Arr Int 64):(am Dp (Ev52 N) 400 [55] mf (ak Dp [55] 8) X ((x5,i7,()),(h0,h1,h2,h3,()))).run=gB N X x5 i7 h0 h1 h2 h3:=by kernel_rfl
noncomputable def Ev53:(R:Type)→Env R:=Dy (Ev52 N) [55] 0 8 (fun R=>lpK Dp mf (fun X c=>gB N X c.1.1 c.1.2.1 c.2.1 c.2.2.1 c.2.2.2.1 c.2.2.2.2.1) N)
theorem ahr (R:Type):EnvOK Dp (Ev53 N R):=Du (ahs N R) (by kernel_rfl) (aq (li:=mf) hmx (ahs N _) (by kernel_rfl) ab (fun X c=>xG N X c.1.1 c.1.2.1 c.2.1 c.2.2.1 c.2.2.2.1 c.2.2.2.2.1) N)
noncomputable def mg:LI:=⟨55,0,[],⟨[(2,.lit (.box 0 0)),(3,.lit (.own 1)),(4,.lit (.box 2 0)),(5,.ty (.int .i64))],[.box 27 (.arr 16 (.int .u8)),.own (.int .u8) 5,.box 149 (.arr 4 (.int .u32))]⟩,[(.exit 0,⟨[(2,.lit (.box 0 0)),(4,.lit (.box 1 0))],[.box 27 (.arr 16 (.int .u8)),.box 149 (.arr 4 (.int .u32))]⟩)]⟩
noncomputable def gC (X:((Int×Unit)×((Arr Int 16)×((List Int)×((Arr Int 4)×Unit))))→Option ((Unit×pz28)))(x5:Int)(h0:Arr Int 16)(h1:List (Int))(h2:Arr Int 4):Option ((Unit×pz28)):=
 bif (decide (x5<(((Ds h1):Nat):Int))) then
  Do (pZ N ((x5,((0:Int),())),(h0,(h1,(h2,(zc64,())))))) fun v6=>
  Do (js N v6.2.2.2.1 v6.2.2.2.2.1) fun v7=>
  (X (((gt .i64 (v6.1.1+64)),()),(v6.2.1,(v6.2.2.1,(v7,())))))
 else
  some (((),(h0,(h2,()))))
noncomputable def qa (c:((Int×Unit)×((Arr Int 16)×((List Int)×((Arr Int 4)×Unit))))):Option ((Unit×pz28)):=gl (fun X c=>gC N X c.1.1 c.2.1 c.2.2.1 c.2.2.2.1) N c
theorem xH (X:((Int×Unit)×((Arr Int 16)×((List Int)×((Arr Int 4)×Unit))))→Option ((Unit×pz28)))(x5:Int)(h0:Arr Int 16)(h1:List (Int))(h2:Arr Int 4):(am Dp (Ev53 N) 400 [55] mg (ak Dp [55] 4) X ((x5,()),(h0,h1,h2,()))).run=gC N X x5 h0 h1 h2:=by kernel_rfl
noncomputable def Ev54:(R:Type)→Env R:=Dy (Ev53 N) [55] 0 4 (fun R=>lpK Dp mg (fun X c=>gC N X c.1.1 c.2.1 c.2.2.1 c.2.2.2.1) N)
theorem ahq (R:Type):EnvOK Dp (Ev54 N R):=Du (ahr N R) (by kernel_rfl) (aq (li:=mg) hmx (ahr N _) (by kernel_rfl) ab (fun X c=>xH N X c.1.1 c.2.1 c.2.2.1 c.2.2.2.1) N)
noncomputable def kq:LI:=⟨55,0,[],⟨[(2,.lit (.box 0 0)),(4,.lit (.box 1 0)),(8,.lit (.box 2 0)),(9,.ty (.int .i64))],[.box 27 (.arr 16 (.int .u8)),.box 149 (.arr 4 (.int .u32)),.box 27 (.arr 16 (.int .u8))]⟩,[(.exit 4,⟨[(2,.lit (.box 0 0)),(8,.lit (.box 1 0))],[.box 27 (.arr 16 (.int .u8)),.box 27 (.arr 16 (.int .u8))]⟩)]⟩
noncomputable def fp (N:Nat)(X:((Int×Unit)×((Arr Int 16)×((Arr Int 4)×((Arr Int 16)×Unit))))→Option ((Unit×pz15)))(i9:Int)(h0:Arr Int 16)(h1:Arr Int 4)(h2:Arr Int 16):Option ((Unit×pz15)):=
 bif (decide (i9<(16:Int))) then
  bif (decide ((0:Int)≤(gt .i64 (@DA i9 (4:Int)))∧(gt .i64 (@DA i9 (4:Int)))<((4:Nat):Int))) then
   Do (h1.l[Dq (gt .i64 (@DA i9 (4:Int)))]?) fun (v6:Int)=>
   bif (decide ((0:Int)≤(gt .i64 ((8:Int)*(@Dx i9 (4:Int)))))) then
    bif (decide ((0:Int)≤i9∧i9<((16:Nat):Int))) then
     Do (h2.l[Dq i9]?) fun (v7:Int)=>
     (X (((gt .i64 (i9+1)),()),(h0,(h1,((h2.set (Dq i9) (gt .u8 (@Dw v6 ((2:Int) ^ (min (Dq (gt .i64 ((8:Int)*(@Dx i9 (4:Int))))) (Dr .u32)))))),())))))
    else
     none
   else
    none
  else
   none
 else
  some (((),(h0,(h2,()))))
noncomputable def o8 (c:((Int×Unit)×((Arr Int 16)×((Arr Int 4)×((Arr Int 16)×Unit))))):Option ((Unit×pz15)):=gl (fun X c=>fp N X c.1.1 c.2.1 c.2.2.1 c.2.2.2.1) N c
theorem vh (X:((Int×Unit)×((Arr Int 16)×((Arr Int 4)×((Arr Int 16)×Unit))))→Option ((Unit×pz15)))(i9:Int)(h0:Arr Int 16)(h1:Arr Int 4)(h2:Arr Int 16):(am Dp (Ev54 N) 400 [55] kq (ak Dp [55] 14) X ((i9,()),(h0,h1,h2,()))).run=fp N X i9 h0 h1 h2:=by kernel_rfl
noncomputable def Ev55:(R:Type)→Env R:=Dy (Ev54 N) [55] 0 14 (fun R=>lpK Dp kq (fun X c=>fp N X c.1.1 c.2.1 c.2.2.1 c.2.2.2.1) N)
theorem ahp (R:Type):EnvOK Dp (Ev55 N R):=Du (ahq N R) (by kernel_rfl) (aq (li:=kq) hmx (ahq N _) (by kernel_rfl) ab (fun X c=>vh N X c.1.1 c.2.1 c.2.2.1 c.2.2.2.1) N)
noncomputable def jZ (b0:List (Int)):Option (Arr Int 16):=
 bif (ae (Ds b0) 1) then
  Do (et N (gt .u64 (((Ds b0):Nat):Int))) fun v2=>
  bif (ae ((Ds b0)+(Ds v2)) 1) then
   Do (qa N (((0:Int),()),(zc16,((b0++v2),((@ne Int 3 1732584193 (@ne Int 2 4023233417 (@ne Int 1 2562383102 (@ne Int 0 271733878 (@DB Int))))),()))))) fun v3=>
   Do (o8 N (((0:Int),()),(v3.2.1,(v3.2.2.1,(zc16,()))))) fun v4=>
   some (v4.2.2.1)
  else
   none
 else
  none
theorem adh (b0:List (Int)):(runK Dp (Ev55 N) 400 55 [(.sl (.int .u8))] [(.arr 16 (.int .u8))] (b0,())).run=jZ N b0:=by kernel_rfl
noncomputable def Ev56:(R:Type)→Env R:=Dv (Ev55 N) 55 (fun R=>fnK [(.sl (.int .u8))] [(.arr 16 (.int .u8))] (fun c=>jZ N c.1))
theorem aho (R:Type):EnvOK Dp (Ev56 N R):=Dt hmx (ahp N R) (ahp N _) (by kernel_rfl) (fun c=>adh N c.1)
noncomputable def cG:LI:=⟨33,1,[],⟨[(0,.ty (.sl (.sl (.int .u8)))),(3,.ty (.int .i64)),(9,.ty (.sl (.sl (.int .u8)))),(10,.ty (.int .i64)),(11,.ty (.int .i64))],[.dead]⟩,[(.exit 0,⟨[(0,.ty (.sl (.sl (.int .u8)))),(3,.ty (.int .i64))],[.dead]⟩)]⟩
noncomputable def c8 (N:Nat)(X:(pz23×Unit)→Option ((pz12×Unit)))(parts0:List (List Int))(size3:Int)(x9:List (List Int))(x10:Int)(x11:Int):Option ((pz12×Unit)):=
 bif (decide (x11<x10)) then
  Do (getI x9 x11) fun (v7:(List Int))=>
  (X ((parts0,((gt .i64 (size3+(((Ds v7):Nat):Int))),(x9,(x10,((gt .i64 (x11+1)),()))))),()))
 else
  some (((parts0,(size3,())),()))
noncomputable def jW (c:(pz23×Unit)):Option ((pz12×Unit)):=gl (fun X c=>c8 N X c.1.1 c.1.2.1 c.1.2.2.1 c.1.2.2.2.1 c.1.2.2.2.2.1) N c
theorem jV (X:(pz23×Unit)→Option ((pz12×Unit)))(parts0:List (List Int))(size3:Int)(x9:List (List Int))(x10:Int)(x11:Int):(am Dp (Ev56 N) 400 [53,3,120] cG (ak Dp [53,3,120] 3) X ((parts0,size3,x9,x10,x11,()),())).run=c8 N X parts0 size3 x9 x10 x11:=by kernel_rfl
noncomputable def Ev57:(R:Type)→Env R:=Dy (Ev56 N) [53,3,120] 1 3 (fun R=>lpK Dp cG (fun X c=>c8 N X c.1.1 c.1.2.1 c.1.2.2.1 c.1.2.2.2.1 c.1.2.2.2.2.1) N)
theorem ahn (R:Type):EnvOK Dp (Ev57 N R):=Du (aho N R) (by kernel_rfl) (aq (li:=cG) hmx (aho N _) (by kernel_rfl) ab (fun X c=>jV N X c.1.1 c.1.2.1 c.1.2.2.1 c.1.2.2.2.1 c.1.2.2.2.2.1) N)
noncomputable def cF:LI:=⟨33,1,[],⟨[(6,.lit (.own 1)),(22,.ty (.sl (.sl (.int .u8)))),(23,.ty (.int .i64)),(24,.ty (.int .i64))],[.dead,.own (.int .u8) 5]⟩,[(.exit 2,⟨[(6,.lit (.own 1))],[.dead,.own (.int .u8) 5]⟩)]⟩
noncomputable def c7 (N:Nat)(X:(pz7×((List Int)×Unit))→Option pz3)(x22:List (List Int))(x23:Int)(x24:Int)(h0:List (Int)):Option pz3:=
 bif (decide (x24<x23)) then
  Do (getI x22 x24) fun (v6:(List Int))=>
  bif (ae ((Ds h0)+(Ds v6)) 1) then
   (X ((x22,(x23,((gt .i64 (x24+1)),()))),((h0++v6),())))
  else
   none
 else
  some (((),(h0,())))
noncomputable def jU (c:(pz7×((List Int)×Unit))):Option pz3:=gl (fun X c=>c7 N X c.1.1 c.1.2.1 c.1.2.2.1 c.2.1) N c
theorem jT (X:(pz7×((List Int)×Unit))→Option pz3)(x22:List (List Int))(x23:Int)(x24:Int)(h0:List (Int)):(am Dp (Ev57 N) 400 [53,3,120] cF (ak Dp [53,3,120] 9) X ((x22,x23,x24,()),(h0,()))).run=c7 N X x22 x23 x24 h0:=by kernel_rfl
noncomputable def Ev58:(R:Type)→Env R:=Dy (Ev57 N) [53,3,120] 1 9 (fun R=>lpK Dp cF (fun X c=>c7 N X c.1.1 c.1.2.1 c.1.2.2.1 c.2.1) N)
theorem ahm (R:Type):EnvOK Dp (Ev58 N R):=Du (ahn N R) (by kernel_rfl) (aq (li:=cF) hmx (ahn N _) (by kernel_rfl) ab (fun X c=>jT N X c.1.1 c.1.2.1 c.1.2.2.1 c.2.1) N)
noncomputable def nr (n0:Int):Option (List Int):=
 Do (cm N (gt .u64 ((8:Int)*n0)) (8:Int) false) fun v2=>
 bif ((decide ((0:Int)≤(@Dx (gt .u64 ((119:Int)-(@Dx n0 (64:Int)))) (64:Int))∧(@Dx (gt .u64 ((119:Int)-(@Dx n0 (64:Int)))) (64:Int))≤(@Dx (gt .u64 ((119:Int)-(@Dx n0 (64:Int)))) (64:Int))))&&(ae (Dq (@Dx (gt .u64 ((119:Int)-(@Dx n0 (64:Int)))) (64:Int))) 1)) then
  Do (jW N ((([([128]:List Int),(@Dz Int (Dq (@Dx (gt .u64 ((119:Int)-(@Dx n0 (64:Int)))) (64:Int))) (0:Int)),v2.1]:List ((List Int))),((0:Int),(([([128]:List Int),(@Dz Int (Dq (@Dx (gt .u64 ((119:Int)-(@Dx n0 (64:Int)))) (64:Int))) (0:Int)),v2.1]:List ((List Int))),((((Ds ([([128]:List Int),(@Dz Int (Dq (@Dx (gt .u64 ((119:Int)-(@Dx n0 (64:Int)))) (64:Int))) (0:Int)),v2.1]:List ((List Int)))):Nat):Int),((0:Int),()))))),())) fun v3=>
  bif ((decide ((0:Int)≤(0:Int)∧(0:Int)≤v3.1.2.1))&&(ae (Dq v3.1.2.1) 1)) then
   Do (jU N ((v3.1.1,((((Ds v3.1.1):Nat):Int),((0:Int),()))),((@Dz Int (Dq (0:Int)) (0:Int)),()))) fun v4=>
   some (v4.2.1)
  else
   none
 else
  none
theorem Bc (n0:Int):(runK Dp (Ev58 N) 400 120 [(.int .u64)] [(.sl (.int .u8))] (n0,())).run=nr N n0:=by kernel_rfl
noncomputable def Ev59:(R:Type)→Env R:=Dv (Ev58 N) 120 (fun R=>fnK [(.int .u64)] [(.sl (.int .u8))] (fun c=>nr N c.1))
theorem ahl (R:Type):EnvOK Dp (Ev59 N R):=Dt hmx (ahm N R) (ahm N _) (by kernel_rfl) (fun c=>Bc N c.1)
noncomputable def vS (N:Nat):Option (Arr Int 5):=
 some ((@ne Int 4 1732584193 (@ne Int 3 4023233417 (@ne Int 2 2562383102 (@ne Int 1 271733878 (@ne Int 0 3285377520 (@DB Int)))))))
theorem ze:(runK Dp (Ev59 N) 400 121 [] [(.arr 5 (.int .u32))] ()).run=vS N:=by kernel_rfl
noncomputable def Ev60:(R:Type)→Env R:=Dv (Ev59 N) 121 (fun R=>fnK [] [(.arr 5 (.int .u32))] (fun c=>vS N ))
theorem ahk (R:Type):EnvOK Dp (Ev60 N R):=Dt hmx (ahl N R) (ahl N _) (by kernel_rfl) (fun c=>ze N )
noncomputable def db:LI:=⟨33,1,[],⟨[(0,.ty (.sl (.sl (.int .u8)))),(3,.ty (.int .i64)),(9,.ty (.sl (.sl (.int .u8)))),(10,.ty (.int .i64)),(11,.ty (.int .i64))],[.box 110 (.arr 20 (.int .u8))]⟩,[(.exit 0,⟨[(0,.ty (.sl (.sl (.int .u8)))),(3,.ty (.int .i64))],[.box 110 (.arr 20 (.int .u8))]⟩)]⟩
noncomputable def bh (N:Nat)(X:(pz23×((Arr Int 20)×Unit))→Option ((pz12×((Arr Int 20)×Unit))))(parts0:List (List Int))(size3:Int)(x9:List (List Int))(x10:Int)(x11:Int)(h0:Arr Int 20):Option ((pz12×((Arr Int 20)×Unit))):=
 bif (decide (x11<x10)) then
  Do (getI x9 x11) fun (v8:(List Int))=>
  (X ((parts0,((gt .i64 (size3+(((Ds v8):Nat):Int))),(x9,(x10,((gt .i64 (x11+1)),()))))),(h0,())))
 else
  some (((parts0,(size3,())),(h0,())))
noncomputable def fh (c:(pz23×((Arr Int 20)×Unit))):Option ((pz12×((Arr Int 20)×Unit))):=gl (fun X c=>bh N X c.1.1 c.1.2.1 c.1.2.2.1 c.1.2.2.2.1 c.1.2.2.2.2.1 c.2.1) N c
theorem kZ (X:(pz23×((Arr Int 20)×Unit))→Option ((pz12×((Arr Int 20)×Unit))))(parts0:List (List Int))(size3:Int)(x9:List (List Int))(x10:Int)(x11:Int)(h0:Arr Int 20):(am Dp (Ev60 N) 400 [53,1,81] db (ak Dp [53,1,81] 3) X ((parts0,size3,x9,x10,x11,()),(h0,()))).run=bh N X parts0 size3 x9 x10 x11 h0:=by kernel_rfl
noncomputable def Ev61:(R:Type)→Env R:=Dy (Ev60 N) [53,1,81] 1 3 (fun R=>lpK Dp db (fun X c=>bh N X c.1.1 c.1.2.1 c.1.2.2.1 c.1.2.2.2.1 c.1.2.2.2.2.1 c.2.1) N)
theorem ahj (R:Type):EnvOK Dp (Ev61 N R):=Du (ahk N R) (by kernel_rfl) (aq (li:=db) hmx (ahk N _) (by kernel_rfl) ab (fun X c=>kZ N X c.1.1 c.1.2.1 c.1.2.2.1 c.1.2.2.2.1 c.1.2.2.2.2.1 c.2.1) N)
noncomputable def da:LI:=⟨33,1,[],⟨[(6,.lit (.own 1)),(22,.ty (.sl (.sl (.int .u8)))),(23,.ty (.int .i64)),(24,.ty (.int .i64))],[.box 110 (.arr 20 (.int .u8)),.own (.int .u8) 5]⟩,[(.exit 2,⟨[(6,.lit (.own 1))],[.box 110 (.arr 20 (.int .u8)),.own (.int .u8) 5]⟩)]⟩
noncomputable def bg (N:Nat)(X:(pz7×pz22)→Option ((Unit×pz22)))(x22:List (List Int))(x23:Int)(x24:Int)(h0:Arr Int 20)(h1:List (Int)):Option ((Unit×pz22)):=
 bif (decide (x24<x23)) then
  Do (getI x22 x24) fun (v7:(List Int))=>
  bif (ae ((Ds h1)+(Ds v7)) 1) then
   (X ((x22,(x23,((gt .i64 (x24+1)),()))),(h0,((h1++v7),()))))
  else
   none
 else
  some (((),(h0,(h1,()))))
noncomputable def fg (c:(pz7×pz22)):Option ((Unit×pz22)):=gl (fun X c=>bg N X c.1.1 c.1.2.1 c.1.2.2.1 c.2.1 c.2.2.1) N c
theorem kY (X:(pz7×pz22)→Option ((Unit×pz22)))(x22:List (List Int))(x23:Int)(x24:Int)(h0:Arr Int 20)(h1:List (Int)):(am Dp (Ev61 N) 400 [53,1,81] da (ak Dp [53,1,81] 9) X ((x22,x23,x24,()),(h0,h1,()))).run=bg N X x22 x23 x24 h0 h1:=by kernel_rfl
noncomputable def Ev62:(R:Type)→Env R:=Dy (Ev61 N) [53,1,81] 1 9 (fun R=>lpK Dp da (fun X c=>bg N X c.1.1 c.1.2.1 c.1.2.2.1 c.2.1 c.2.2.1) N)
theorem ahi (R:Type):EnvOK Dp (Ev62 N R):=Du (ahj N R) (by kernel_rfl) (aq (li:=da) hmx (ahj N _) (by kernel_rfl) ab (fun X c=>kY N X c.1.1 c.1.2.1 c.1.2.2.1 c.2.1 c.2.2.1) N)
noncomputable def kV (n0:Int):Option Int:=
 Do (oE N n0 (2:Int) (30:Int)) fun v2=>
 some ((gt .u32 v2.1))
theorem Bb (n0:Int):(runK Dp (Ev62 N) 400 158 [(.int .i64)] [(.int .u32)] (n0,())).run=kV N n0:=by kernel_rfl
noncomputable def Ev63:(R:Type)→Env R:=Dv (Ev62 N) 158 (fun R=>fnK [(.int .i64)] [(.int .u32)] (fun c=>kV N c.1))
theorem ahh (R:Type):EnvOK Dp (Ev63 N R):=Dt hmx (ahi N R) (ahi N _) (by kernel_rfl) (fun c=>Bb N c.1)
noncomputable def gT:Option (Arr Int 4):=
 Do (kV N (2:Int)) fun v1=>
 Do (kV N (3:Int)) fun v2=>
 Do (kV N (5:Int)) fun v3=>
 Do (kV N (10:Int)) fun v4=>
 some ((@ne Int (3:Nat) v1 (@ne Int (2:Nat) v2 (@ne Int (1:Nat) v3 (@ne Int (0:Nat) v4 (@DB Int))))))
theorem sc:(runK Dp (Ev63 N) 400 122 [] [(.arr 4 (.int .u32))] ()).run=gT N:=by kernel_rfl
noncomputable def Ev64:(R:Type)→Env R:=Dv (Ev63 N) 122 (fun R=>fnK [] [(.arr 4 (.int .u32))] (fun c=>gT N ))
theorem amK (R:Type):EnvOK Dp (Ev64 N R):=Dt hmx (ahh N R) (ahh N _) (by kernel_rfl) (fun c=>sc N )
noncomputable def Ev65:(R:Type)→Env R:=DE (Ev64 N) [(123,0)]
theorem amJ (R:Type):EnvOK Dp (Ev65 N R):=DC (amK N R) [(123,0)]
noncomputable def Ev66:(R:Type)→Env R:=DE (Ev65 N) [(159,0)]
theorem ahg (R:Type):EnvOK Dp (Ev66 N R):=DC (amJ N R) [(159,0)]
noncomputable def iY:LI:=⟨50,0,[],⟨[(1,.adr (.arr 64 (.int .u8))),(2,.lit (.box 0 0)),(3,.lit (.box 1 0)),(7,.ty (.int .i64))],[.box 200 (.arr 80 (.int .u32)),.box 200 (.arr 80 (.int .u32))]⟩,[(.exit 0,⟨[(2,.lit (.box 0 0)),(3,.lit (.box 1 0))],[.box 200 (.arr 80 (.int .u32)),.box 200 (.arr 80 (.int .u32))]⟩)]⟩
noncomputable def dB (X:(((Arr Int 64)×(Int×Unit))×((Arr Int 80)×((Arr Int 80)×Unit)))→Option ((Unit×((Arr Int 80)×((Arr Int 80)×Unit)))))(b1:Arr Int 64)(x7:Int)(h0:Arr Int 80)(h1:Arr Int 80):Option ((Unit×((Arr Int 80)×((Arr Int 80)×Unit)))):=
 bif (decide (x7<(80:Int))) then
  bif (decide (x7<(16:Int))) then
   Do (subI b1.l (gt .i64 ((4:Int)*x7)) (gt .i64 ((gt .i64 ((4:Int)*x7))+4))) fun (v6:(List Int))=>
   Do (gU N v6 false) fun v7=>
   bif (decide ((0:Int)≤x7∧x7<((80:Nat):Int))) then
    Do (h1.l[Dq x7]?) fun (v8:Int)=>
    (X ((b1,((gt .i64 (x7+1)),())),(h0,((h1.set (Dq x7) (gt .u32 v7.1)),()))))
   else
    none
  else
   bif (decide ((0:Int)≤(gt .i64 (x7-3))∧(gt .i64 (x7-3))<((80:Nat):Int))) then
    Do (h1.l[Dq (gt .i64 (x7-3))]?) fun (v6:Int)=>
    bif (decide ((0:Int)≤(gt .i64 (x7-8))∧(gt .i64 (x7-8))<((80:Nat):Int))) then
     Do (h1.l[Dq (gt .i64 (x7-8))]?) fun (v7:Int)=>
     bif (decide ((0:Int)≤(gt .i64 (x7-14))∧(gt .i64 (x7-14))<((80:Nat):Int))) then
      Do (h1.l[Dq (gt .i64 (x7-14))]?) fun (v8:Int)=>
      bif (decide ((0:Int)≤(gt .i64 (x7-16))∧(gt .i64 (x7-16))<((80:Nat):Int))) then
       Do (h1.l[Dq (gt .i64 (x7-16))]?) fun (v9:Int)=>
       bif (decide ((0:Int)≤x7∧x7<((80:Nat):Int))) then
        Do (h1.l[Dq x7]?) fun (v10:Int)=>
        (X ((b1,((gt .i64 (x7+1)),())),(h0,((h1.set (Dq x7) (bits .or .u32 (gt .u32 ((bits .xor .u32 (bits .xor .u32 (bits .xor .u32 v6 v7) v8) v9)*((2:Int) ^ (min (Dq (bits .and .u64 (gt .u64 (1:Int)) (31:Int))) (Dr .u32))))) (@Dw (bits .xor .u32 (bits .xor .u32 (bits .xor .u32 v6 v7) v8) v9) ((2:Int) ^ (min (Dq (gt .u64 ((32:Int)-(bits .and .u64 (gt .u64 (1:Int)) (31:Int))))) (Dr .u32)))))),()))))
       else
        none
      else
       none
     else
      none
    else
     none
   else
    none
 else
  some (((),(h0,(h1,()))))
noncomputable def np (c:(((Arr Int 64)×(Int×Unit))×((Arr Int 80)×((Arr Int 80)×Unit)))):Option ((Unit×((Arr Int 80)×((Arr Int 80)×Unit)))):=gl (fun X c=>dB N X c.1.1 c.1.2.1 c.2.1 c.2.2.1) N c
theorem tg (X:(((Arr Int 64)×(Int×Unit))×((Arr Int 80)×((Arr Int 80)×Unit)))→Option ((Unit×((Arr Int 80)×((Arr Int 80)×Unit)))))(b1:Arr Int 64)(x7:Int)(h0:Arr Int 80)(h1:Arr Int 80):(am Dp (Ev66 N) 400 [159] iY (ak Dp [159] 3) X ((b1,x7,()),(h0,h1,()))).run=dB N X b1 x7 h0 h1:=by kernel_rfl
noncomputable def Ev67:(R:Type)→Env R:=Dy (Ev66 N) [159] 0 3 (fun R=>lpK Dp iY (fun X c=>dB N X c.1.1 c.1.2.1 c.2.1 c.2.2.1) N)
theorem ahf (R:Type):EnvOK Dp (Ev67 N R):=Du (ahg N R) (by kernel_rfl) (aq (li:=iY) hmx (ahg N _) (by kernel_rfl) ab (fun X c=>tg N X c.1.1 c.1.2.1 c.2.1 c.2.2.1) N)
noncomputable def oB (b0:Arr Int 64):Option (Arr Int 80):=
 Do (np N ((b0,((0:Int),())),((@ne Int 79 0 (@ne Int 78 0 (@ne Int 77 0 (@ne Int 76 0 (@ne Int 75 0 (@ne Int 74 0 (@ne Int 73 0 (@ne Int 72 0 (@ne Int 71 0 (@ne Int 70 0 (@ne Int 69 0 (@ne Int 68 0 (@ne Int 67 0 (@ne Int 66 0 (@ne Int 65 0 (@ne Int 64 0 zc64)))))))))))))))),((@ne Int 79 0 (@ne Int 78 0 (@ne Int 77 0 (@ne Int 76 0 (@ne Int 75 0 (@ne Int 74 0 (@ne Int 73 0 (@ne Int 72 0 (@ne Int 71 0 (@ne Int 70 0 (@ne Int 69 0 (@ne Int 68 0 (@ne Int 67 0 (@ne Int 66 0 (@ne Int 65 0 (@ne Int 64 0 zc64)))))))))))))))),())))) fun v2=>
 some (v2.2.2.1)
theorem y9 (b0:Arr Int 64):(runK Dp (Ev67 N) 400 159 [(.arr 64 (.int .u8))] [(.arr 80 (.int .u32))] (b0,())).run=oB N b0:=by kernel_rfl
noncomputable def Ev68:(R:Type)→Env R:=Dv (Ev67 N) 159 (fun R=>fnK [(.arr 64 (.int .u8))] [(.arr 80 (.int .u32))] (fun c=>oB N c.1))
theorem ahe (R:Type):EnvOK Dp (Ev68 N R):=Dt hmx (ahf N R) (ahf N _) (by kernel_rfl) (fun c=>y9 N c.1)
noncomputable def kW (N:Nat)(r0:Int)(b1:Int)(c2:Int)(d3:Int):Option Int:=
 bif (decide (r0=(0:Int))) then
  some ((bits .or .u32 (bits .and .u32 b1 c2) (bits .and .u32 (bits .xor .u32 (@ite Int (@Eq Bool (@IntKind.signed @IntKind.u32) true) (@instDecidableEqBool (@IntKind.signed @IntKind.u32) true) (-1:Int) (@IntKind.max @IntKind.u32)) b1) d3)))
 else
  bif (decide (r0=(2:Int))) then
   some ((bits .or .u32 (bits .or .u32 (bits .and .u32 b1 c2) (bits .and .u32 b1 d3)) (bits .and .u32 c2 d3)))
  else
   some ((bits .xor .u32 (bits .xor .u32 b1 c2) d3))
theorem zb (r0:Int)(b1:Int)(c2:Int)(d3:Int):(runK Dp (Ev68 N) 400 160 [(.int .i64),(.int .u32),(.int .u32),(.int .u32)] [(.int .u32)] (r0,b1,c2,d3,())).run=kW N r0 b1 c2 d3:=by kernel_rfl
noncomputable def Ev69:(R:Type)→Env R:=Dv (Ev68 N) 160 (fun R=>fnK [(.int .i64),(.int .u32),(.int .u32),(.int .u32)] [(.int .u32)] (fun c=>kW N c.1 c.2.1 c.2.2.1 c.2.2.2.1))
theorem ahd (R:Type):EnvOK Dp (Ev69 N R):=Dt hmx (ahe N R) (ahe N _) (by kernel_rfl) (fun c=>zb N c.1 c.2.1 c.2.2.1 c.2.2.2.1)
noncomputable def il:LI:=⟨69,0,[],⟨[(3,.adr (.arr 5 (.int .u32))),(5,.adr (.arr 4 (.int .u32))),(6,.lit (.box 0 0)),(7,.lit (.box 1 0)),(8,.lit (.box 2 0)),(16,.ty (.int .i64))],[.box 185 (.arr 5 (.int .u32)),.box 200 (.arr 80 (.int .u32)),.box 185 (.arr 5 (.int .u32))]⟩,[(.exit 0,⟨[(3,.adr (.arr 5 (.int .u32))),(6,.lit (.box 0 0)),(8,.lit (.box 1 0))],[.box 185 (.arr 5 (.int .u32)),.box 185 (.arr 5 (.int .u32))]⟩)]⟩
noncomputable def dR (X:(((Arr Int 5)×pz27)×pz34)→Option ((((Arr Int 5)×Unit)×pz11)))(s3:Arr Int 5)(k5:Arr Int 4)(x16:Int)(h0:Arr Int 5)(h1:Arr Int 80)(h2:Arr Int 5):Option ((((Arr Int 5)×Unit)×pz11)):=
 bif (decide (x16<(80:Int))) then
  Do (h2.l[Dq (0:Int)]?) fun (v8:Int)=>
  Do (h2.l[Dq (1:Int)]?) fun (v9:Int)=>
  Do (h2.l[Dq (2:Int)]?) fun (v10:Int)=>
  Do (h2.l[Dq (3:Int)]?) fun (v11:Int)=>
  Do (kW N (gt .i64 (@DA x16 (20:Int))) v9 v10 v11) fun v12=>
  Do (h2.l[Dq (4:Int)]?) fun (v13:Int)=>
  Do (getI k5.l (gt .i64 (@DA x16 (20:Int)))) fun (v14:Int)=>
  bif (decide ((0:Int)≤x16∧x16<((80:Nat):Int))) then
   Do (h1.l[Dq x16]?) fun (v15:Int)=>
   Do (h2.l[Dq (0:Int)]?) fun (v16:Int)=>
   Do (h2.l[Dq (1:Int)]?) fun (v17:Int)=>
   Do (h2.l[Dq (2:Int)]?) fun (v18:Int)=>
   Do (h2.l[Dq (3:Int)]?) fun (v19:Int)=>
   (X ((s3,(k5,((gt .i64 (x16+1)),()))),(h0,(h1,((@ne Int (4:Nat) (gt .u32 ((gt .u32 ((gt .u32 ((gt .u32 ((bits .or .u32 (gt .u32 (v8*((2:Int) ^ (min (Dq (bits .and .u64 (gt .u64 (5:Int)) (31:Int))) (Dr .u32))))) (@Dw v8 ((2:Int) ^ (min (Dq (gt .u64 ((32:Int)-(bits .and .u64 (gt .u64 (5:Int)) (31:Int))))) (Dr .u32)))))+v12))+v13))+v14))+v15)) (@ne Int (3:Nat) v16 (@ne Int (2:Nat) (bits .or .u32 (gt .u32 (v17*((2:Int) ^ (min (Dq (bits .and .u64 (gt .u64 (30:Int)) (31:Int))) (Dr .u32))))) (@Dw v17 ((2:Int) ^ (min (Dq (gt .u64 ((32:Int)-(bits .and .u64 (gt .u64 (30:Int)) (31:Int))))) (Dr .u32))))) (@ne Int (1:Nat) v18 (@ne Int (0:Nat) v19 (@DB Int)))))),())))))
  else
   none
 else
  some (((s3,()),(h0,(h2,()))))
noncomputable def mW (c:(((Arr Int 5)×pz27)×pz34)):Option ((((Arr Int 5)×Unit)×pz11)):=gl (fun X c=>dR N X c.1.1 c.1.2.1 c.1.2.2.1 c.2.1 c.2.2.1 c.2.2.2.1) N c
theorem sd (X:(((Arr Int 5)×pz27)×pz34)→Option ((((Arr Int 5)×Unit)×pz11)))(s3:Arr Int 5)(k5:Arr Int 4)(x16:Int)(h0:Arr Int 5)(h1:Arr Int 80)(h2:Arr Int 5):(am Dp (Ev69 N) 400 [123] il (ak Dp [123] 4) X ((s3,k5,x16,()),(h0,h1,h2,()))).run=dR N X s3 k5 x16 h0 h1 h2:=by kernel_rfl
noncomputable def Ev70:(R:Type)→Env R:=Dy (Ev69 N) [123] 0 4 (fun R=>lpK Dp il (fun X c=>dR N X c.1.1 c.1.2.1 c.1.2.2.1 c.2.1 c.2.2.1 c.2.2.2.1) N)
theorem ahc (R:Type):EnvOK Dp (Ev70 N R):=Du (ahd N R) (by kernel_rfl) (aq (li:=il) hmx (ahd N _) (by kernel_rfl) ab (fun X c=>sd N X c.1.1 c.1.2.1 c.1.2.2.1 c.2.1 c.2.2.1 c.2.2.2.1) N)
noncomputable def gn:LI:=⟨69,0,[],⟨[(3,.adr (.arr 5 (.int .u32))),(6,.lit (.box 0 0)),(8,.lit (.box 1 0)),(56,.ty (.int .i64))],[.box 185 (.arr 5 (.int .u32)),.box 185 (.arr 5 (.int .u32))]⟩,[(.exit 2,⟨[(6,.lit (.box 0 0)),(8,.lit (.box 1 0))],[.box 185 (.arr 5 (.int .u32)),.box 185 (.arr 5 (.int .u32))]⟩)]⟩
noncomputable def c6 (N:Nat)(X:(pz33×pz11)→Option ((Unit×pz11)))(s3:Arr Int 5)(x56:Int)(h0:Arr Int 5)(h1:Arr Int 5):Option ((Unit×pz11)):=
 bif (decide (x56<(5:Int))) then
  bif (decide ((0:Int)≤x56∧x56<((5:Nat):Int))) then
   Do (h1.l[Dq x56]?) fun (v6:Int)=>
   Do (getI s3.l x56) fun (v7:Int)=>
   bif (decide ((0:Int)≤x56∧x56<((5:Nat):Int))) then
    Do (h1.l[Dq x56]?) fun (v8:Int)=>
    (X ((s3,((gt .i64 (x56+1)),())),(h0,((h1.set (Dq x56) (gt .u32 (v6+v7))),()))))
   else
    none
  else
   none
 else
  some (((),(h0,(h1,()))))
noncomputable def kX (c:(pz33×pz11)):Option ((Unit×pz11)):=gl (fun X c=>c6 N X c.1.1 c.1.2.1 c.2.1 c.2.2.1) N c
theorem qR (X:(pz33×pz11)→Option ((Unit×pz11)))(s3:Arr Int 5)(x56:Int)(h0:Arr Int 5)(h1:Arr Int 5):(am Dp (Ev70 N) 400 [123] gn (ak Dp [123] 11) X ((s3,x56,()),(h0,h1,()))).run=c6 N X s3 x56 h0 h1:=by kernel_rfl
noncomputable def Ev71:(R:Type)→Env R:=Dy (Ev70 N) [123] 0 11 (fun R=>lpK Dp gn (fun X c=>c6 N X c.1.1 c.1.2.1 c.2.1 c.2.2.1) N)
theorem ahb (R:Type):EnvOK Dp (Ev71 N R):=Du (ahc N R) (by kernel_rfl) (aq (li:=gn) hmx (ahc N _) (by kernel_rfl) ab (fun X c=>qR N X c.1.1 c.1.2.1 c.2.1 c.2.2.1) N)
noncomputable def eU (s0:Arr Int 5)(b1:Arr Int 64)(k2:Arr Int 4):Option (Arr Int 5):=
 Do (oB N b1) fun v4=>
 Do (mW N ((s0,(k2,((0:Int),()))),((@ne Int 4 0 (@ne Int 3 0 (@ne Int 2 0 (@ne Int 1 0 (@ne Int 0 0 (@DB Int)))))),(v4,(s0,()))))) fun v5=>
 Do (kX N ((v5.1.1,((0:Int),())),(v5.2.1,(v5.2.2.1,())))) fun v6=>
 some (v6.2.2.1)
theorem xe (s0:Arr Int 5)(b1:Arr Int 64)(k2:Arr Int 4):(runK Dp (Ev71 N) 400 123 [(.arr 5 (.int .u32)),(.arr 64 (.int .u8)),(.arr 4 (.int .u32))] [(.arr 5 (.int .u32))] (s0,b1,k2,())).run=eU N s0 b1 k2:=by kernel_rfl
noncomputable def Ev72:(R:Type)→Env R:=Dv (Ev71 N) 123 (fun R=>fnK [(.arr 5 (.int .u32)),(.arr 64 (.int .u8)),(.arr 4 (.int .u32))] [(.arr 5 (.int .u32))] (fun c=>eU N c.1 c.2.1 c.2.2.1))
theorem aha (R:Type):EnvOK Dp (Ev72 N R):=Dt hmx (ahb N R) (ahb N _) (by kernel_rfl) (fun c=>xe N c.1 c.2.1 c.2.2.1)
noncomputable def ns:LI:=⟨35,0,[],⟨[(2,.lit (.box 0 0)),(3,.ty (.sl (.int .u8))),(4,.lit (.box 1 0)),(5,.lit (.box 2 0)),(6,.ty (.int .i64))],[.box 110 (.arr 20 (.int .u8)),.box 185 (.arr 5 (.int .u32)),.box 149 (.arr 4 (.int .u32))]⟩,[(.exit 0,⟨[(2,.lit (.box 0 0)),(4,.lit (.box 1 0))],[.box 110 (.arr 20 (.int .u8)),.box 185 (.arr 5 (.int .u32))]⟩)]⟩
noncomputable def iN (X:(pz8×((Arr Int 20)×((Arr Int 5)×((Arr Int 4)×Unit))))→Option pz30)(all3:List (Int))(i6:Int)(h0:Arr Int 20)(h1:Arr Int 5)(h2:Arr Int 4):Option pz30:=
 bif (decide (i6<(((Ds all3):Nat):Int))) then
  Do (subI all3 i6 (gt .i64 (i6+64))) fun (v7:(List Int))=>
  Do (@dA Int (64:Nat) v7) fun (v8:(Arr Int 64))=>
  Do (eU N h1 v8 h2) fun v9=>
  (X ((all3,((gt .i64 (i6+64)),())),(h0,(v9,(h2,())))))
 else
  some (((),(h0,(h1,()))))
noncomputable def rM (c:(pz8×((Arr Int 20)×((Arr Int 5)×((Arr Int 4)×Unit))))):Option pz30:=gl (fun X c=>iN N X c.1.1 c.1.2.1 c.2.1 c.2.2.1 c.2.2.2.1) N c
theorem zc (X:(pz8×((Arr Int 20)×((Arr Int 5)×((Arr Int 4)×Unit))))→Option pz30)(all3:List (Int))(i6:Int)(h0:Arr Int 20)(h1:Arr Int 5)(h2:Arr Int 4):(am Dp (Ev72 N) 400 [81] ns (ak Dp [81] 5) X ((all3,i6,()),(h0,h1,h2,()))).run=iN N X all3 i6 h0 h1 h2:=by kernel_rfl
noncomputable def Ev73:(R:Type)→Env R:=Dy (Ev72 N) [81] 0 5 (fun R=>lpK Dp ns (fun X c=>iN N X c.1.1 c.1.2.1 c.2.1 c.2.2.1 c.2.2.2.1) N)
theorem amI (R:Type):EnvOK Dp (Ev73 N R):=Du (aha N R) (by kernel_rfl) (aq (li:=ns) hmx (aha N _) (by kernel_rfl) ab (fun X c=>zc N X c.1.1 c.1.2.1 c.2.1 c.2.2.1 c.2.2.2.1) N)
noncomputable def Ev74:(R:Type)→Env R:=DE (Ev73 N) [(124,0)]
theorem ag9 (R:Type):EnvOK Dp (Ev74 N R):=DC (amI N R) [(124,0)]
noncomputable def ij:LI:=⟨25,0,[(3,5)],⟨[(2,.lit (.box 0 0)),(3,.lit (.own 1)),(8,.ty (.arr 5 (.int .u32))),(9,.ty (.int .i64))],[.box 110 (.arr 20 (.int .u8)),.own (.int .u8) 5]⟩,[(.exit 0,⟨[(2,.lit (.box 0 0)),(3,.lit (.own 1))],[.box 110 (.arr 20 (.int .u8)),.own (.int .u8) 5]⟩)]⟩
noncomputable def cQ (X:(pz33×pz22)→Option ((Unit×pz22)))(x8:Arr Int 5)(x9:Int)(h0:Arr Int 20)(h1:List (Int)):Option ((Unit×pz22)):=
 bif (decide (x9<(5:Int))) then
  Do (getI x8.l x9) fun (v6:Int)=>
  Do (cm N (gt .u64 v6) (4:Int) false) fun v7=>
  bif (ae ((Ds h1)+(Ds v7.1)) 1) then
   (X ((x8,((gt .i64 (x9+1)),())),(h0,((h1++v7.1),()))))
  else
   none
 else
  some (((),(h0,(h1,()))))
noncomputable def mU (c:(pz33×pz22)):Option ((Unit×pz22)):=gl (fun X c=>cQ N X c.1.1 c.1.2.1 c.2.1 c.2.2.1) N c
theorem sb (X:(pz33×pz22)→Option ((Unit×pz22)))(x8:Arr Int 5)(x9:Int)(h0:Arr Int 20)(h1:List (Int)):(am Dp (Ev74 N) 400 [124] ij (ak Dp [124] 3) X ((x8,x9,()),(h0,h1,()))).run=cQ N X x8 x9 h0 h1:=by kernel_rfl
noncomputable def Ev75:(R:Type)→Env R:=Dy (Ev74 N) [124] 0 3 (fun R=>lpK Dp ij (fun X c=>cQ N X c.1.1 c.1.2.1 c.2.1 c.2.2.1) N)
theorem ag8 (R:Type):EnvOK Dp (Ev75 N R):=Du (ag9 N R) (by kernel_rfl) (aq (li:=ij) hmx (ag9 N _) (by kernel_rfl) ab (fun X c=>sb N X c.1.1 c.1.2.1 c.2.1 c.2.2.1) N)
noncomputable def iZ (s0:Arr Int 5):Option (Arr Int 20):=
 Do (mU N ((s0,((0:Int),())),(zc20,(([]:List Int),())))) fun v2=>
 Do (@dA Int (20:Nat) v2.2.2.1) fun (v3:(Arr Int 20))=>
 some (v3)
theorem xd (s0:Arr Int 5):(runK Dp (Ev75 N) 400 124 [(.arr 5 (.int .u32))] [(.arr 20 (.int .u8))] (s0,())).run=iZ N s0:=by kernel_rfl
noncomputable def Ev76:(R:Type)→Env R:=Dv (Ev75 N) 124 (fun R=>fnK [(.arr 5 (.int .u32))] [(.arr 20 (.int .u8))] (fun c=>iZ N c.1))
theorem ag7 (R:Type):EnvOK Dp (Ev76 N R):=Dt hmx (ag8 N R) (ag8 N _) (by kernel_rfl) (fun c=>xd N c.1)
noncomputable def fH (parts0:List (List Int)):Option (Arr Int 20):=
 Do (fh N ((parts0,((0:Int),(parts0,((((Ds parts0):Nat):Int),((0:Int),()))))),(zc20,()))) fun v2=>
 bif ((decide ((0:Int)≤(0:Int)∧(0:Int)≤v2.1.2.1))&&(ae (Dq v2.1.2.1) 1)) then
  Do (fg N ((v2.1.1,((((Ds v2.1.1):Nat):Int),((0:Int),()))),(v2.2.1,((@Dz Int (Dq (0:Int)) (0:Int)),())))) fun v3=>
  Do (nr N (gt .u64 (((Ds v3.2.2.1):Nat):Int))) fun v4=>
  bif (ae ((Ds v3.2.2.1)+(Ds v4)) 1) then
   Do (@gT N) fun (v5:(Arr Int 4))=>
   Do (rM N (((v3.2.2.1++v4),((0:Int),())),(v3.2.1,((@ne Int 4 1732584193 (@ne Int 3 4023233417 (@ne Int 2 2562383102 (@ne Int 1 271733878 (@ne Int 0 3285377520 (@DB Int)))))),(v5,()))))) fun v6=>
   Do (iZ N v6.2.2.1) fun v7=>
   some (v7)
  else
   none
 else
  none
theorem aeF (parts0:List (List Int)):(runK Dp (Ev76 N) 400 81 [(.sl (.sl (.int .u8)))] [(.arr 20 (.int .u8))] (parts0,())).run=fH N parts0:=by kernel_rfl
noncomputable def Ev77:(R:Type)→Env R:=Dv (Ev76 N) 81 (fun R=>fnK [(.sl (.sl (.int .u8)))] [(.arr 20 (.int .u8))] (fun c=>fH N c.1))
theorem amH (R:Type):EnvOK Dp (Ev77 N R):=Dt hmx (ag7 N R) (ag7 N _) (by kernel_rfl) (fun c=>aeF N c.1)
noncomputable def Ev78:(R:Type)→Env R:=DE (Ev77 N) [(94,0)]
theorem ag6 (R:Type):EnvOK Dp (Ev78 N R):=DC (amH N R) [(94,0)]
noncomputable def we (N:Nat)(x0:Int)(n1:Int):Option Int:=
 bif (decide ((0:Int)≤n1)) then
  bif (decide ((0:Int)≤(gt .i64 ((32:Int)-n1)))) then
   some ((bits .or .u32 (gt .u32 (x0*((2:Int) ^ (min (Dq n1) (Dr .u32))))) (@Dw x0 ((2:Int) ^ (min (Dq (gt .i64 ((32:Int)-n1))) (Dr .u32))))))
  else
   none
 else
  none
theorem zx (x0:Int)(n1:Int):(runK Dp (Ev78 N) 400 135 [(.int .u32),(.int .i64)] [(.int .u32)] (x0,n1,())).run=we N x0 n1:=by kernel_rfl
noncomputable def Ev79:(R:Type)→Env R:=Dv (Ev78 N) 135 (fun R=>fnK [(.int .u32),(.int .i64)] [(.int .u32)] (fun c=>we N c.1 c.2.1))
theorem ag5 (R:Type):EnvOK Dp (Ev79 N R):=Dt hmx (ag6 N R) (ag6 N _) (by kernel_rfl) (fun c=>zx N c.1 c.2.1)
noncomputable def iq:LI:=⟨118,0,[],⟨[(2,.adr (.arr 5 (.int .u32))),(3,.adr (.arr 64 (.int .u8))),(4,.lit (.box 0 0)),(5,.lit (.box 1 0)),(6,.ty (.int .i64))],[.box 157 (.arr 5 (.int .u32)),.box 200 (.arr 80 (.int .u32))]⟩,[(.exit 0,⟨[(2,.adr (.arr 5 (.int .u32))),(4,.lit (.box 0 0)),(5,.lit (.box 1 0))],[.box 157 (.arr 5 (.int .u32)),.box 200 (.arr 80 (.int .u32))]⟩)]⟩
noncomputable def cR (N:Nat)(X:(((Arr Int 5)×((Arr Int 64)×(Int×Unit)))×((Arr Int 5)×((Arr Int 80)×Unit)))→Option ((((Arr Int 5)×Unit)×((Arr Int 5)×((Arr Int 80)×Unit)))))(s2:Arr Int 5)(block3:Arr Int 64)(i6:Int)(h0:Arr Int 5)(h1:Arr Int 80):Option ((((Arr Int 5)×Unit)×((Arr Int 5)×((Arr Int 80)×Unit)))):=
 bif (decide (i6<(80:Int))) then
  bif (decide (i6<(16:Int))) then
   Do (getI block3.l (gt .i64 ((4:Int)*i6))) fun (v7:Int)=>
   Do (getI block3.l (gt .i64 ((gt .i64 ((4:Int)*i6))+1))) fun (v8:Int)=>
   Do (getI block3.l (gt .i64 ((gt .i64 ((4:Int)*i6))+2))) fun (v9:Int)=>
   Do (getI block3.l (gt .i64 ((gt .i64 ((4:Int)*i6))+3))) fun (v10:Int)=>
   bif (decide ((0:Int)≤i6∧i6<((80:Nat):Int))) then
    Do (h1.l[Dq i6]?) fun (v11:Int)=>
    (X ((s2,(block3,((gt .i64 (i6+1)),()))),(h0,((h1.set (Dq i6) (gt .u32 ((gt .u32 ((gt .u32 ((gt .u32 ((gt .u32 v7)*(16777216:Int)))+(gt .u32 ((gt .u32 v8)*(65536:Int)))))+(gt .u32 ((gt .u32 v9)*(256:Int)))))+(gt .u32 v10)))),()))))
   else
    none
  else
   bif (decide ((0:Int)≤(gt .i64 (i6-3))∧(gt .i64 (i6-3))<((80:Nat):Int))) then
    Do (h1.l[Dq (gt .i64 (i6-3))]?) fun (v7:Int)=>
    bif (decide ((0:Int)≤(gt .i64 (i6-8))∧(gt .i64 (i6-8))<((80:Nat):Int))) then
     Do (h1.l[Dq (gt .i64 (i6-8))]?) fun (v8:Int)=>
     bif (decide ((0:Int)≤(gt .i64 (i6-14))∧(gt .i64 (i6-14))<((80:Nat):Int))) then
      Do (h1.l[Dq (gt .i64 (i6-14))]?) fun (v9:Int)=>
      bif (decide ((0:Int)≤(gt .i64 (i6-16))∧(gt .i64 (i6-16))<((80:Nat):Int))) then
       Do (h1.l[Dq (gt .i64 (i6-16))]?) fun (v10:Int)=>
       bif (decide ((0:Int)≤i6∧i6<((80:Nat):Int))) then
        Do (h1.l[Dq i6]?) fun (v11:Int)=>
        (X ((s2,(block3,((gt .i64 (i6+1)),()))),(h0,((h1.set (Dq i6) (bits .or .u32 (gt .u32 ((bits .xor .u32 (bits .xor .u32 (bits .xor .u32 v7 v8) v9) v10)*((2:Int) ^ (min (Dq (1:Int)) (Dr .u32))))) (@Dw (bits .xor .u32 (bits .xor .u32 (bits .xor .u32 v7 v8) v9) v10) ((2:Int) ^ (min (Dq (gt .i64 ((32:Int)-1))) (Dr .u32)))))),()))))
       else
        none
      else
       none
     else
      none
    else
     none
   else
    none
 else
  some (((s2,()),(h0,(h1,()))))
noncomputable def mZ (c:(((Arr Int 5)×((Arr Int 64)×(Int×Unit)))×((Arr Int 5)×((Arr Int 80)×Unit)))):Option ((((Arr Int 5)×Unit)×((Arr Int 5)×((Arr Int 80)×Unit)))):=gl (fun X c=>cR N X c.1.1 c.1.2.1 c.1.2.2.1 c.2.1 c.2.2.1) N c
theorem so (X:(((Arr Int 5)×((Arr Int 64)×(Int×Unit)))×((Arr Int 5)×((Arr Int 80)×Unit)))→Option ((((Arr Int 5)×Unit)×((Arr Int 5)×((Arr Int 80)×Unit)))))(s2:Arr Int 5)(block3:Arr Int 64)(i6:Int)(h0:Arr Int 5)(h1:Arr Int 80):(am Dp (Ev79 N) 400 [94] iq (ak Dp [94] 3) X ((s2,block3,i6,()),(h0,h1,()))).run=cR N X s2 block3 i6 h0 h1:=by kernel_rfl
noncomputable def Ev80:(R:Type)→Env R:=Dy (Ev79 N) [94] 0 3 (fun R=>lpK Dp iq (fun X c=>cR N X c.1.1 c.1.2.1 c.1.2.2.1 c.2.1 c.2.2.1) N)
theorem ag4 (R:Type):EnvOK Dp (Ev80 N R):=Du (ag5 N R) (by kernel_rfl) (aq (li:=iq) hmx (ag5 N _) (by kernel_rfl) ab (fun X c=>so N X c.1.1 c.1.2.1 c.1.2.2.1 c.2.1 c.2.2.1) N)
noncomputable def nA (N:Nat)(i0:Int)(b1:Int)(c2:Int)(d3:Int):Option Int:=
 bif (decide ((gt .i64 (@DA i0 (20:Int)))=(0:Int))) then
  some ((gt .u32 ((bits .or .u32 (bits .and .u32 b1 c2) (bits .and .u32 (gt .u32 ((4294967295:Int)-b1)) d3))+1518500249)))
 else
  bif (decide ((gt .i64 (@DA i0 (20:Int)))=(1:Int))) then
   some ((gt .u32 ((bits .xor .u32 (bits .xor .u32 b1 c2) d3)+1859775393)))
  else
   bif (decide ((gt .i64 (@DA i0 (20:Int)))=(2:Int))) then
    some ((gt .u32 ((bits .or .u32 (bits .or .u32 (bits .and .u32 b1 c2) (bits .and .u32 b1 d3)) (bits .and .u32 c2 d3))+2400959708)))
   else
    some ((gt .u32 ((bits .xor .u32 (bits .xor .u32 b1 c2) d3)+3395469782)))
theorem Bk (i0:Int)(b1:Int)(c2:Int)(d3:Int):(runK Dp (Ev80 N) 400 136 [(.int .i64),(.int .u32),(.int .u32),(.int .u32)] [(.int .u32)] (i0,b1,c2,d3,())).run=nA N i0 b1 c2 d3:=by kernel_rfl
noncomputable def Ev81:(R:Type)→Env R:=Dv (Ev80 N) 136 (fun R=>fnK [(.int .i64),(.int .u32),(.int .u32),(.int .u32)] [(.int .u32)] (fun c=>nA N c.1 c.2.1 c.2.2.1 c.2.2.2.1))
theorem ag3 (R:Type):EnvOK Dp (Ev81 N R):=Dt hmx (ag4 N R) (ag4 N _) (by kernel_rfl) (fun c=>Bk N c.1 c.2.1 c.2.2.1 c.2.2.2.1)
noncomputable def gA:LI:=⟨118,0,[],⟨[(2,.adr (.arr 5 (.int .u32))),(4,.lit (.box 0 0)),(5,.lit (.box 1 0)),(7,.lit (.box 2 0)),(8,.ty (.int .i64))],[.box 157 (.arr 5 (.int .u32)),.box 200 (.arr 80 (.int .u32)),.box 157 (.arr 5 (.int .u32))]⟩,[(.exit 2,⟨[(2,.adr (.arr 5 (.int .u32))),(4,.lit (.box 0 0)),(7,.lit (.box 1 0))],[.box 157 (.arr 5 (.int .u32)),.box 157 (.arr 5 (.int .u32))]⟩)]⟩
noncomputable def dh (X:(pz33×pz34)→Option ((((Arr Int 5)×Unit)×pz11)))(s2:Arr Int 5)(i8:Int)(h0:Arr Int 5)(h1:Arr Int 80)(h2:Arr Int 5):Option ((((Arr Int 5)×Unit)×pz11)):=
 bif (decide (i8<(80:Int))) then
  Do (h2.l[Dq (0:Int)]?) fun (v7:Int)=>
  Do (h2.l[Dq (1:Int)]?) fun (v8:Int)=>
  Do (h2.l[Dq (2:Int)]?) fun (v9:Int)=>
  Do (h2.l[Dq (3:Int)]?) fun (v10:Int)=>
  Do (nA N i8 v8 v9 v10) fun v11=>
  Do (h2.l[Dq (4:Int)]?) fun (v12:Int)=>
  bif (decide ((0:Int)≤i8∧i8<((80:Nat):Int))) then
   Do (h1.l[Dq i8]?) fun (v13:Int)=>
   Do (h2.l[Dq (0:Int)]?) fun (v14:Int)=>
   Do (h2.l[Dq (1:Int)]?) fun (v15:Int)=>
   Do (h2.l[Dq (2:Int)]?) fun (v16:Int)=>
   Do (h2.l[Dq (3:Int)]?) fun (v17:Int)=>
   (X ((s2,((gt .i64 (i8+1)),())),(h0,(h1,((@ne Int (4:Nat) (gt .u32 ((gt .u32 ((gt .u32 ((bits .or .u32 (gt .u32 (v7*((2:Int) ^ (min (Dq (5:Int)) (Dr .u32))))) (@Dw v7 ((2:Int) ^ (min (Dq (gt .i64 ((32:Int)-5))) (Dr .u32)))))+v11))+v12))+v13)) (@ne Int (3:Nat) v14 (@ne Int (2:Nat) (bits .or .u32 (gt .u32 (v15*((2:Int) ^ (min (Dq (30:Int)) (Dr .u32))))) (@Dw v15 ((2:Int) ^ (min (Dq (gt .i64 ((32:Int)-30))) (Dr .u32))))) (@ne Int (1:Nat) v16 (@ne Int (0:Nat) v17 (@DB Int)))))),())))))
  else
   none
 else
  some (((s2,()),(h0,(h2,()))))
noncomputable def lu (c:(pz33×pz34)):Option ((((Arr Int 5)×Unit)×pz11)):=gl (fun X c=>dh N X c.1.1 c.1.2.1 c.2.1 c.2.2.1 c.2.2.2.1) N c
theorem qW (X:(pz33×pz34)→Option ((((Arr Int 5)×Unit)×pz11)))(s2:Arr Int 5)(i8:Int)(h0:Arr Int 5)(h1:Arr Int 80)(h2:Arr Int 5):(am Dp (Ev81 N) 400 [94] gA (ak Dp [94] 10) X ((s2,i8,()),(h0,h1,h2,()))).run=dh N X s2 i8 h0 h1 h2:=by kernel_rfl
noncomputable def Ev82:(R:Type)→Env R:=Dy (Ev81 N) [94] 0 10 (fun R=>lpK Dp gA (fun X c=>dh N X c.1.1 c.1.2.1 c.2.1 c.2.2.1 c.2.2.2.1) N)
theorem ag2 (R:Type):EnvOK Dp (Ev82 N R):=Du (ag3 N R) (by kernel_rfl) (aq (li:=gA) hmx (ag3 N _) (by kernel_rfl) ab (fun X c=>qW N X c.1.1 c.1.2.1 c.2.1 c.2.2.1 c.2.2.2.1) N)
noncomputable def gz:LI:=⟨118,0,[],⟨[(2,.adr (.arr 5 (.int .u32))),(4,.lit (.box 0 0)),(7,.lit (.box 1 0)),(10,.ty (.int .i64))],[.box 157 (.arr 5 (.int .u32)),.box 157 (.arr 5 (.int .u32))]⟩,[(.exit 4,⟨[(4,.lit (.box 0 0)),(7,.lit (.box 1 0))],[.box 157 (.arr 5 (.int .u32)),.box 157 (.arr 5 (.int .u32))]⟩)]⟩
noncomputable def df (N:Nat)(X:(pz33×pz11)→Option ((Unit×pz11)))(s2:Arr Int 5)(i10:Int)(h0:Arr Int 5)(h1:Arr Int 5):Option ((Unit×pz11)):=
 bif (decide (i10<(5:Int))) then
  bif (decide ((0:Int)≤i10∧i10<((5:Nat):Int))) then
   Do (h1.l[Dq i10]?) fun (v6:Int)=>
   Do (getI s2.l i10) fun (v7:Int)=>
   bif (decide ((0:Int)≤i10∧i10<((5:Nat):Int))) then
    Do (h1.l[Dq i10]?) fun (v8:Int)=>
    (X ((s2,((gt .i64 (i10+1)),())),(h0,((h1.set (Dq i10) (gt .u32 (v6+v7))),()))))
   else
    none
  else
   none
 else
  some (((),(h0,(h1,()))))
noncomputable def lq (c:(pz33×pz11)):Option ((Unit×pz11)):=gl (fun X c=>df N X c.1.1 c.1.2.1 c.2.1 c.2.2.1) N c
theorem qV (X:(pz33×pz11)→Option ((Unit×pz11)))(s2:Arr Int 5)(i10:Int)(h0:Arr Int 5)(h1:Arr Int 5):(am Dp (Ev82 N) 400 [94] gz (ak Dp [94] 15) X ((s2,i10,()),(h0,h1,()))).run=df N X s2 i10 h0 h1:=by kernel_rfl
noncomputable def Ev83:(R:Type)→Env R:=Dy (Ev82 N) [94] 0 15 (fun R=>lpK Dp gz (fun X c=>df N X c.1.1 c.1.2.1 c.2.1 c.2.2.1) N)
theorem ag1 (R:Type):EnvOK Dp (Ev83 N R):=Du (ag2 N R) (by kernel_rfl) (aq (li:=gz) hmx (ag2 N _) (by kernel_rfl) ab (fun X c=>qV N X c.1.1 c.1.2.1 c.2.1 c.2.2.1) N)
noncomputable def jo (s0:Arr Int 5)(block1:Arr Int 64):Option (Arr Int 5):=
 Do (mZ N ((s0,(block1,((0:Int),()))),((@ne Int 4 0 (@ne Int 3 0 (@ne Int 2 0 (@ne Int 1 0 (@ne Int 0 0 (@DB Int)))))),((@ne Int 79 0 (@ne Int 78 0 (@ne Int 77 0 (@ne Int 76 0 (@ne Int 75 0 (@ne Int 74 0 (@ne Int 73 0 (@ne Int 72 0 (@ne Int 71 0 (@ne Int 70 0 (@ne Int 69 0 (@ne Int 68 0 (@ne Int 67 0 (@ne Int 66 0 (@ne Int 65 0 (@ne Int 64 0 zc64)))))))))))))))),())))) fun v3=>
 Do (lu N ((v3.1.1,((0:Int),())),(v3.2.1,(v3.2.2.1,(v3.1.1,()))))) fun v4=>
 Do (lq N ((v4.1.1,((0:Int),())),(v4.2.1,(v4.2.2.1,())))) fun v5=>
 some (v5.2.2.1)
theorem xE (s0:Arr Int 5)(block1:Arr Int 64):(runK Dp (Ev83 N) 400 94 [(.arr 5 (.int .u32)),(.arr 64 (.int .u8))] [(.arr 5 (.int .u32))] (s0,block1,())).run=jo N s0 block1:=by kernel_rfl
noncomputable def Ev84:(R:Type)→Env R:=Dv (Ev83 N) 94 (fun R=>fnK [(.arr 5 (.int .u32)),(.arr 64 (.int .u8))] [(.arr 5 (.int .u32))] (fun c=>jo N c.1 c.2.1))
theorem amG (R:Type):EnvOK Dp (Ev84 N R):=Dt hmx (ag1 N R) (ag1 N _) (by kernel_rfl) (fun c=>xE N c.1 c.2.1)
noncomputable def Ev85:(R:Type)→Env R:=Env.addMv (Ev84 N) [(92,7)]
theorem ag0 (R:Type):EnvOK Dp (Ev85 N R):=EnvOK.addMv (amG N R) [(92,7)]
noncomputable def jn:LI:=⟨30,0,[],⟨[(3,.ty (.sl (.int .u8))),(4,.ty (.int .i64)),(5,.lit (.own 0)),(6,.ty (.int .i64))],[.own (.int .u8) 5]⟩,[(.exit 0,⟨[(5,.lit (.own 0))],[.own (.int .u8) 5]⟩)]⟩
noncomputable def dE (N:Nat)(X:(pz5×((List Int)×Unit))→Option pz3)(b3:List (Int))(k4:Int)(i6:Int)(h0:List (Int)):Option pz3:=
 bif (decide ((0:Int)≤i6)) then
  Do (getI b3 (gt .i64 (k4+i6))) fun (v6:Int)=>
  bif (ae ((Ds h0)+(Ds ([v6]:List (Int)))) 1) then
   (X ((b3,(k4,((gt .i64 (i6-1)),()))),((h0++([v6]:List (Int))),())))
  else
   none
 else
  some (((),(h0,())))
noncomputable def nB (c:(pz5×((List Int)×Unit))):Option pz3:=gl (fun X c=>dE N X c.1.1 c.1.2.1 c.1.2.2.1 c.2.1) N c
theorem tJ (X:(pz5×((List Int)×Unit))→Option pz3)(b3:List (Int))(k4:Int)(i6:Int)(h0:List (Int)):(am Dp (Ev85 N) 400 [92] jn (ak Dp [92] 5) X ((b3,k4,i6,()),(h0,()))).run=dE N X b3 k4 i6 h0:=by kernel_rfl
noncomputable def Ev86:(R:Type)→Env R:=Dy (Ev85 N) [92] 0 5 (fun R=>lpK Dp jn (fun X c=>dE N X c.1.1 c.1.2.1 c.1.2.2.1 c.2.1) N)
theorem agZ (R:Type):EnvOK Dp (Ev86 N R):=Du (ag0 N R) (by kernel_rfl) (aq (li:=jn) hmx (ag0 N _) (by kernel_rfl) ab (fun X c=>tJ N X c.1.1 c.1.2.1 c.1.2.2.1 c.2.1) N)
noncomputable def ln (n0:Int):Option (List Int):=
 Do (et N n0) fun v2=>
 Do (cL v2 (gt .i64 ((((Ds v2):Nat):Int)-8))) fun (v3:(List Int))=>
 bif (ae (Ds v3) 1) then
  Do (nB N ((v2,((gt .i64 ((((Ds v2):Nat):Int)-8)),((7:Int),()))),(v3,()))) fun v4=>
  some (v4.2.1)
 else
  none
theorem zy (n0:Int):(runK Dp (Ev86 N) 400 92 [(.int .u64)] [(.sl (.int .u8))] (n0,())).run=ln N n0:=by kernel_rfl
noncomputable def Ev87:(R:Type)→Env R:=Dv (Ev86 N) 92 (fun R=>fnK [(.int .u64)] [(.sl (.int .u8))] (fun c=>ln N c.1))
theorem agY (R:Type):EnvOK Dp (Ev87 N R):=Dt hmx (agZ N R) (agZ N _) (by kernel_rfl) (fun c=>zy N c.1)
noncomputable def tK (N:Nat):Option (Arr Int 5):=
 some ((@ne Int 4 1732584193 (@ne Int 3 4023233417 (@ne Int 2 2562383102 (@ne Int 1 271733878 (@ne Int 0 3285377520 (@DB Int)))))))
theorem xD:(runK Dp (Ev87 N) 400 93 [] [(.arr 5 (.int .u32))] ()).run=tK N:=by kernel_rfl
noncomputable def Ev88:(R:Type)→Env R:=Dv (Ev87 N) 93 (fun R=>fnK [] [(.arr 5 (.int .u32))] (fun c=>tK N ))
theorem agX (R:Type):EnvOK Dp (Ev88 N R):=Dt hmx (agY N R) (agY N _) (by kernel_rfl) (fun c=>xD N )
noncomputable def mc:LI:=⟨56,0,[],⟨[(2,.lit (.box 0 0)),(3,.lit (.own 1)),(4,.lit (.box 2 0)),(5,.ty (.int .i64)),(6,.lit (.box 3 0)),(7,.ty (.int .i64))],[.box 110 (.arr 20 (.int .u8)),.own (.int .u8) 5,.box 157 (.arr 5 (.int .u32)),.box 151 (.arr 64 (.int .u8))]⟩,[(.exit 2,⟨[(2,.lit (.box 0 0)),(3,.lit (.own 1)),(4,.lit (.box 2 0)),(5,.ty (.int .i64)),(6,.lit (.box 3 0))],[.box 110 (.arr 20 (.int .u8)),.own (.int .u8) 5,.box 157 (.arr 5 (.int .u32)),.box 151 (.arr 64 (.int .u8))]⟩)]⟩
noncomputable def gx (N:Nat)(X:((Int×(Int×Unit))×pz25)→Option (((Int×Unit)×pz25)))(x5:Int)(i7:Int)(h0:Arr Int 20)(h1:List (Int))(h2:Arr Int 5)(h3:Arr Int 64):Option (((Int×Unit)×pz25)):=
 bif (decide (i7<(64:Int))) then
  bif (decide ((0:Int)≤(gt .i64 (x5+i7))∧(gt .i64 (x5+i7))<(((Ds h1):Nat):Int))) then
   Do (h1[Dq (gt .i64 (x5+i7))]?) fun (v8:Int)=>
   bif (decide ((0:Int)≤i7∧i7<((64:Nat):Int))) then
    Do (h3.l[Dq i7]?) fun (v9:Int)=>
    (X ((x5,((gt .i64 (i7+1)),())),(h0,(h1,(h2,((h3.set (Dq i7) v8),()))))))
   else
    none
  else
   none
 else
  some (((x5,()),(h0,(h1,(h2,(h3,()))))))
noncomputable def pX (c:((Int×(Int×Unit))×pz25)):Option (((Int×Unit)×pz25)):=gl (fun X c=>gx N X c.1.1 c.1.2.1 c.2.1 c.2.2.1 c.2.2.2.1 c.2.2.2.2.1) N c
theorem xB (X:((Int×(Int×Unit))×pz25)→Option (((Int×Unit)×pz25)))(x5:Int)(i7:Int)(h0:Arr Int 20)(h1:List (Int))(h2:Arr Int 5)(h3:Arr Int 64):(am Dp (Ev88 N) 400 [58] mc (ak Dp [58] 8) X ((x5,i7,()),(h0,h1,h2,h3,()))).run=gx N X x5 i7 h0 h1 h2 h3:=by kernel_rfl
noncomputable def Ev89:(R:Type)→Env R:=Dy (Ev88 N) [58] 0 8 (fun R=>lpK Dp mc (fun X c=>gx N X c.1.1 c.1.2.1 c.2.1 c.2.2.1 c.2.2.2.1 c.2.2.2.2.1) N)
theorem agW (R:Type):EnvOK Dp (Ev89 N R):=Du (agX N R) (by kernel_rfl) (aq (li:=mc) hmx (agX N _) (by kernel_rfl) ab (fun X c=>xB N X c.1.1 c.1.2.1 c.2.1 c.2.2.1 c.2.2.2.1 c.2.2.2.2.1) N)
noncomputable def me:LI:=⟨56,0,[],⟨[(2,.lit (.box 0 0)),(3,.lit (.own 1)),(4,.lit (.box 2 0)),(5,.ty (.int .i64))],[.box 110 (.arr 20 (.int .u8)),.own (.int .u8) 5,.box 157 (.arr 5 (.int .u32))]⟩,[(.exit 0,⟨[(2,.lit (.box 0 0)),(4,.lit (.box 1 0))],[.box 110 (.arr 20 (.int .u8)),.box 157 (.arr 5 (.int .u32))]⟩)]⟩
noncomputable def gy (X:((Int×Unit)×((Arr Int 20)×((List Int)×((Arr Int 5)×Unit))))→Option pz30)(x5:Int)(h0:Arr Int 20)(h1:List (Int))(h2:Arr Int 5):Option pz30:=
 bif (decide (x5<(((Ds h1):Nat):Int))) then
  Do (pX N ((x5,((0:Int),())),(h0,(h1,(h2,(zc64,())))))) fun v6=>
  Do (jo N v6.2.2.2.1 v6.2.2.2.2.1) fun v7=>
  (X (((gt .i64 (v6.1.1+64)),()),(v6.2.1,(v6.2.2.1,(v7,())))))
 else
  some (((),(h0,(h2,()))))
noncomputable def pY (c:((Int×Unit)×((Arr Int 20)×((List Int)×((Arr Int 5)×Unit))))):Option pz30:=gl (fun X c=>gy N X c.1.1 c.2.1 c.2.2.1 c.2.2.2.1) N c
theorem xC (X:((Int×Unit)×((Arr Int 20)×((List Int)×((Arr Int 5)×Unit))))→Option pz30)(x5:Int)(h0:Arr Int 20)(h1:List (Int))(h2:Arr Int 5):(am Dp (Ev89 N) 400 [58] me (ak Dp [58] 4) X ((x5,()),(h0,h1,h2,()))).run=gy N X x5 h0 h1 h2:=by kernel_rfl
noncomputable def Ev90:(R:Type)→Env R:=Dy (Ev89 N) [58] 0 4 (fun R=>lpK Dp me (fun X c=>gy N X c.1.1 c.2.1 c.2.2.1 c.2.2.2.1) N)
theorem agV (R:Type):EnvOK Dp (Ev90 N R):=Du (agW N R) (by kernel_rfl) (aq (li:=me) hmx (agW N _) (by kernel_rfl) ab (fun X c=>xC N X c.1.1 c.2.1 c.2.2.1 c.2.2.2.1) N)
noncomputable def kp:LI:=⟨56,0,[],⟨[(2,.lit (.box 0 0)),(4,.lit (.box 1 0)),(8,.lit (.box 2 0)),(9,.ty (.int .i64))],[.box 110 (.arr 20 (.int .u8)),.box 157 (.arr 5 (.int .u32)),.box 110 (.arr 20 (.int .u8))]⟩,[(.exit 4,⟨[(2,.lit (.box 0 0)),(8,.lit (.box 1 0))],[.box 110 (.arr 20 (.int .u8)),.box 110 (.arr 20 (.int .u8))]⟩)]⟩
noncomputable def fo (N:Nat)(X:((Int×Unit)×((Arr Int 20)×((Arr Int 5)×((Arr Int 20)×Unit))))→Option ((Unit×((Arr Int 20)×((Arr Int 20)×Unit)))))(i9:Int)(h0:Arr Int 20)(h1:Arr Int 5)(h2:Arr Int 20):Option ((Unit×((Arr Int 20)×((Arr Int 20)×Unit)))):=
 bif (decide (i9<(20:Int))) then
  bif (decide ((0:Int)≤(gt .i64 (@DA i9 (4:Int)))∧(gt .i64 (@DA i9 (4:Int)))<((5:Nat):Int))) then
   Do (h1.l[Dq (gt .i64 (@DA i9 (4:Int)))]?) fun (v6:Int)=>
   bif (decide ((0:Int)≤(gt .i64 ((24:Int)-(gt .i64 ((8:Int)*(@Dx i9 (4:Int)))))))) then
    bif (decide ((0:Int)≤i9∧i9<((20:Nat):Int))) then
     Do (h2.l[Dq i9]?) fun (v7:Int)=>
     (X (((gt .i64 (i9+1)),()),(h0,(h1,((h2.set (Dq i9) (gt .u8 (@Dw v6 ((2:Int) ^ (min (Dq (gt .i64 ((24:Int)-(gt .i64 ((8:Int)*(@Dx i9 (4:Int))))))) (Dr .u32)))))),())))))
    else
     none
   else
    none
  else
   none
 else
  some (((),(h0,(h2,()))))
noncomputable def o7 (c:((Int×Unit)×((Arr Int 20)×((Arr Int 5)×((Arr Int 20)×Unit))))):Option ((Unit×((Arr Int 20)×((Arr Int 20)×Unit)))):=gl (fun X c=>fo N X c.1.1 c.2.1 c.2.2.1 c.2.2.2.1) N c
theorem vf (X:((Int×Unit)×((Arr Int 20)×((Arr Int 5)×((Arr Int 20)×Unit))))→Option ((Unit×((Arr Int 20)×((Arr Int 20)×Unit)))))(i9:Int)(h0:Arr Int 20)(h1:Arr Int 5)(h2:Arr Int 20):(am Dp (Ev90 N) 400 [58] kp (ak Dp [58] 14) X ((i9,()),(h0,h1,h2,()))).run=fo N X i9 h0 h1 h2:=by kernel_rfl
noncomputable def Ev91:(R:Type)→Env R:=Dy (Ev90 N) [58] 0 14 (fun R=>lpK Dp kp (fun X c=>fo N X c.1.1 c.2.1 c.2.2.1 c.2.2.2.1) N)
theorem agU (R:Type):EnvOK Dp (Ev91 N R):=Du (agV N R) (by kernel_rfl) (aq (li:=kp) hmx (agV N _) (by kernel_rfl) ab (fun X c=>vf N X c.1.1 c.2.1 c.2.2.1 c.2.2.2.1) N)
noncomputable def oF (b0:List (Int)):Option (Arr Int 20):=
 bif (ae (Ds b0) 1) then
  Do (ln N (gt .u64 (((Ds b0):Nat):Int))) fun v2=>
  bif (ae ((Ds b0)+(Ds v2)) 1) then
   Do (pY N (((0:Int),()),(zc20,((b0++v2),((@ne Int 4 1732584193 (@ne Int 3 4023233417 (@ne Int 2 2562383102 (@ne Int 1 271733878 (@ne Int 0 3285377520 (@DB Int)))))),()))))) fun v3=>
   Do (o7 N (((0:Int),()),(v3.2.1,(v3.2.2.1,(zc20,()))))) fun v4=>
   some (v4.2.2.1)
  else
   none
 else
  none
theorem adg (b0:List (Int)):(runK Dp (Ev91 N) 400 58 [(.sl (.int .u8))] [(.arr 20 (.int .u8))] (b0,())).run=oF N b0:=by kernel_rfl
noncomputable def Ev92:(R:Type)→Env R:=Dv (Ev91 N) 58 (fun R=>fnK [(.sl (.int .u8))] [(.arr 20 (.int .u8))] (fun c=>oF N c.1))
theorem agT (R:Type):EnvOK Dp (Ev92 N R):=Dt hmx (agU N R) (agU N _) (by kernel_rfl) (fun c=>adg N c.1)
noncomputable def aA (N:Nat)(s0:List UInt8):Option Int:=
 Do (getI s0 (0:Int)) fun (v2:UInt8)=>
 Do (getI s0 (1:Int)) fun (v3:UInt8)=>
 Do (getI s0 (2:Int)) fun (v4:UInt8)=>
 Do (getI s0 (3:Int)) fun (v5:UInt8)=>
 Do (getI s0 (4:Int)) fun (v6:UInt8)=>
 Do (getI s0 (5:Int)) fun (v7:UInt8)=>
 Do (getI s0 (6:Int)) fun (v8:UInt8)=>
 Do (getI s0 (7:Int)) fun (v9:UInt8)=>
 some ((bits .or .u64 (bits .or .u64 (bits .or .u64 (bits .or .u64 (bits .or .u64 (bits .or .u64 (bits .or .u64 (gt .u64 (((@DD v2):Nat):Int)) (gt .u64 ((gt .u64 (((@DD v3):Nat):Int))*((2:Int) ^ (min (Dq (8:Int)) (Dr .u64)))))) (gt .u64 ((gt .u64 (((@DD v4):Nat):Int))*((2:Int) ^ (min (Dq (16:Int)) (Dr .u64)))))) (gt .u64 ((gt .u64 (((@DD v5):Nat):Int))*((2:Int) ^ (min (Dq (24:Int)) (Dr .u64)))))) (gt .u64 ((gt .u64 (((@DD v6):Nat):Int))*((2:Int) ^ (min (Dq (32:Int)) (Dr .u64)))))) (gt .u64 ((gt .u64 (((@DD v7):Nat):Int))*((2:Int) ^ (min (Dq (40:Int)) (Dr .u64)))))) (gt .u64 ((gt .u64 (((@DD v8):Nat):Int))*((2:Int) ^ (min (Dq (48:Int)) (Dr .u64)))))) (gt .u64 ((gt .u64 (((@DD v9):Nat):Int))*((2:Int) ^ (min (Dq (56:Int)) (Dr .u64)))))))
theorem jR (s0:List UInt8):(runK Dp (Ev92 N) 400 178 [.str] [(.int .u64)] (s0,())).run=aA N s0:=by kernel_rfl
noncomputable def Ev93:(R:Type)→Env R:=Dv (Ev92 N) 178 (fun R=>fnK [.str] [(.int .u64)] (fun c=>aA N c.1))
theorem agR (R:Type):EnvOK Dp (Ev93 N R):=Dt hmx (agT N R) (agT N _) (by kernel_rfl) (fun c=>jR N c.1)
noncomputable def bY:LI:=⟨169,0,[],⟨[(0,.ty .str)],[]⟩,[(.exit 2,⟨[(0,.ty .str)],[]⟩)]⟩
noncomputable def aP (X:pz29→Option (pz29))(s0:List UInt8):Option (pz29):=
 bif (decide ((32:Int)<(((Ds s0):Nat):Int))) then
  Do (aA N s0) fun v3=>
  Do (bJ s0 (8:Int)) fun (v4:(List UInt8))=>
  Do (aA N v4) fun v5=>
  Do (bJ s0 (16:Int)) fun (v6:(List UInt8))=>
  Do (aA N v6) fun v7=>
  Do (bJ s0 (24:Int)) fun (v8:(List UInt8))=>
  Do (aA N v8) fun v9=>
  bif (cond true (decide ((bits .and .u64 (bits .or .u64 (bits .or .u64 v3 v5) (bits .or .u64 v7 v9)) (9259542123273814144:Int))=(0:Int))) false) then
   Do (bJ s0 (32:Int)) fun (v10:(List UInt8))=>
   (X ((v10,()),()))
  else
   some (((s0,()),()))
 else
  some (((s0,()),()))
noncomputable def dN (c:pz29):Option (pz29):=gl (fun X c=>aP N X c.1.1) N c
theorem ia (X:pz29→Option (pz29))(s0:List UInt8):(am Dp (Ev93 N) 400 [146] bY (ak Dp [146] 9) X ((s0,()),())).run=aP N X s0:=by kernel_rfl
noncomputable def Ev94:(R:Type)→Env R:=Dy (Ev93 N) [146] 0 9 (fun R=>lpK Dp bY (fun X c=>aP N X c.1.1) N)
theorem agQ (R:Type):EnvOK Dp (Ev94 N R):=Du (agR N R) (by kernel_rfl) (aq (li:=bY) hmx (agR N _) (by kernel_rfl) ab (fun X c=>ia N X c.1.1) N)
noncomputable def bZ:LI:=⟨169,0,[],⟨[(0,.ty .str)],[]⟩,[(.ret,⟨[(2,.ty .bool)],[]⟩),(.exit 0,⟨[],[]⟩)]⟩
end
end Go.Proofs.YtllpjoggnfclgaaGreatDoor
