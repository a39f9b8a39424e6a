/-
  Parts of my own, one behind the other: Pe, GCpA.
-/
import Derived.Test.YtolkfnemdejonaaGreatDoorMrg6
import Derived.Test.YtolkfnemdejonaaGreatDoorMrg7
open Go.IntKind renaming wrap→gt, bits→C9
open Option renaming bind→ne
open Go.Proofs.YtolkfnemdejonaaGreatDoor.Arr renaming cons→C5, nil→Dj
open List renaming cons→C6, length→Dc, replicate→Dh
open Go.Proofs.Tryz renaming prog→C7
open Int renaming toNat→C8, fdiv→Db, tmod→Dd, tdiv→Di
open Go.Proofs.YtolkfnemdejonaaGreatDoor.EnvOK renaming addLp→Da, addBx→Dk
open Go.Proofs.YtolkfnemdejonaaGreatDoor.Env renaming addLp→Df, addBx→Dm
open UInt8 renaming toNat→Dg
namespace Go.Proofs.YtolkfnemdejonaaGreatDoor
open Go.RowKit
set_option linter.unusedVariables false
set_option maxRecDepth 100000
section
variable (N:Nat)
abbrev zc64:Arr Int 64:=(@C5 Int 63 0 (@C5 Int 62 0 (@C5 Int 61 0 (@C5 Int 60 0 (@C5 Int 59 0 (@C5 Int 58 0 (@C5 Int 57 0 (@C5 Int 56 0 (@C5 Int 55 0 (@C5 Int 54 0 (@C5 Int 53 0 (@C5 Int 52 0 (@C5 Int 51 0 (@C5 Int 50 0 (@C5 Int 49 0 (@C5 Int 48 0 (@C5 Int 47 0 (@C5 Int 46 0 (@C5 Int 45 0 (@C5 Int 44 0 (@C5 Int 43 0 (@C5 Int 42 0 (@C5 Int 41 0 (@C5 Int 40 0 (@C5 Int 39 0 (@C5 Int 38 0 (@C5 Int 37 0 (@C5 Int 36 0 (@C5 Int 35 0 (@C5 Int 34 0 (@C5 Int 33 0 (@C5 Int 32 0 (@C5 Int 31 0 (@C5 Int 30 0 (@C5 Int 29 0 (@C5 Int 28 0 (@C5 Int 27 0 (@C5 Int 26 0 (@C5 Int 25 0 (@C5 Int 24 0 (@C5 Int 23 0 (@C5 Int 22 0 (@C5 Int 21 0 (@C5 Int 20 0 (@C5 Int 19 0 (@C5 Int 18 0 (@C5 Int 17 0 (@C5 Int 16 0 (@C5 Int 15 0 (@C5 Int 14 0 (@C5 Int 13 0 (@C5 Int 12 0 (@C5 Int 11 0 (@C5 Int 10 0 (@C5 Int 9 0 (@C5 Int 8 0 (@C5 Int 7 0 (@C5 Int 6 0 (@C5 Int 5 0 (@C5 Int 4 0 (@C5 Int 3 0 (@C5 Int 2 0 (@C5 Int 1 0 (@C5 Int 0 0 (@Dj Int)))))))))))))))))))))))))))))))))))))))))))))))))))))))))))))))))
abbrev zc32:Arr Int 32:=(@C5 Int 31 0 (@C5 Int 30 0 (@C5 Int 29 0 (@C5 Int 28 0 (@C5 Int 27 0 (@C5 Int 26 0 (@C5 Int 25 0 (@C5 Int 24 0 (@C5 Int 23 0 (@C5 Int 22 0 (@C5 Int 21 0 (@C5 Int 20 0 (@C5 Int 19 0 (@C5 Int 18 0 (@C5 Int 17 0 (@C5 Int 16 0 (@C5 Int 15 0 (@C5 Int 14 0 (@C5 Int 13 0 (@C5 Int 12 0 (@C5 Int 11 0 (@C5 Int 10 0 (@C5 Int 9 0 (@C5 Int 8 0 (@C5 Int 7 0 (@C5 Int 6 0 (@C5 Int 5 0 (@C5 Int 4 0 (@C5 Int 3 0 (@C5 Int 2 0 (@C5 Int 1 0 (@C5 Int 0 0 (@Dj Int)))))))))))))))))))))))))))))))))
abbrev zc24:Arr Int 24:=(@C5 Int 23 0 (@C5 Int 22 0 (@C5 Int 21 0 (@C5 Int 20 0 (@C5 Int 19 0 (@C5 Int 18 0 (@C5 Int 17 0 (@C5 Int 16 0 (@C5 Int 15 0 (@C5 Int 14 0 (@C5 Int 13 0 (@C5 Int 12 0 (@C5 Int 11 0 (@C5 Int 10 0 (@C5 Int 9 0 (@C5 Int 8 0 (@C5 Int 7 0 (@C5 Int 6 0 (@C5 Int 5 0 (@C5 Int 4 0 (@C5 Int 3 0 (@C5 Int 2 0 (@C5 Int 1 0 (@C5 Int 0 0 (@Dj Int)))))))))))))))))))))))))
abbrev zc21:Arr Int 21:=(@C5 Int 20 0 (@C5 Int 19 0 (@C5 Int 18 0 (@C5 Int 17 0 (@C5 Int 16 0 (@C5 Int 15 0 (@C5 Int 14 0 (@C5 Int 13 0 (@C5 Int 12 0 (@C5 Int 11 0 (@C5 Int 10 0 (@C5 Int 9 0 (@C5 Int 8 0 (@C5 Int 7 0 (@C5 Int 6 0 (@C5 Int 5 0 (@C5 Int 4 0 (@C5 Int 3 0 (@C5 Int 2 0 (@C5 Int 1 0 (@C5 Int 0 0 (@Dj Int))))))))))))))))))))))
abbrev zc20:Arr Int 20:=(@C5 Int 19 0 (@C5 Int 18 0 (@C5 Int 17 0 (@C5 Int 16 0 (@C5 Int 15 0 (@C5 Int 14 0 (@C5 Int 13 0 (@C5 Int 12 0 (@C5 Int 11 0 (@C5 Int 10 0 (@C5 Int 9 0 (@C5 Int 8 0 (@C5 Int 7 0 (@C5 Int 6 0 (@C5 Int 5 0 (@C5 Int 4 0 (@C5 Int 3 0 (@C5 Int 2 0 (@C5 Int 1 0 (@C5 Int 0 0 (@Dj Int)))))))))))))))))))))
abbrev zc16:Arr Int 16:=(@C5 Int 15 0 (@C5 Int 14 0 (@C5 Int 13 0 (@C5 Int 12 0 (@C5 Int 11 0 (@C5 Int 10 0 (@C5 Int 9 0 (@C5 Int 8 0 (@C5 Int 7 0 (@C5 Int 6 0 (@C5 Int 5 0 (@C5 Int 4 0 (@C5 Int 3 0 (@C5 Int 2 0 (@C5 Int 1 0 (@C5 Int 0 0 (@Dj Int)))))))))))))))))
abbrev zc15:Arr Int 15:=(@C5 Int 14 0 (@C5 Int 13 0 (@C5 Int 12 0 (@C5 Int 11 0 (@C5 Int 10 0 (@C5 Int 9 0 (@C5 Int 8 0 (@C5 Int 7 0 (@C5 Int 6 0 (@C5 Int 5 0 (@C5 Int 4 0 (@C5 Int 3 0 (@C5 Int 2 0 (@C5 Int 1 0 (@C5 Int 0 0 (@Dj Int))))))))))))))))
abbrev qz0:Td:=(.pair .str (.pair (.sl (.pair .str .str)) (.pair (.int .i64) (.pair (.int .u8) (.pair (.arr 16 (.int .u8)) (.pair (.int .i64) (.pair (.int .i64) (.pair (.sl (.int .u8)) (.pair (.int .u8) (.pair .str (.arr 32 (.int .u8))))))))))))
abbrev qz1:Td:=(.pair .str (.pair (.sl (.pair .str .str)) (.pair (.int .i64) (.pair (.int .u8) (.pair (.arr 16 (.int .u8)) (.pair (.int .i64) (.pair (.int .i64) (.pair .str (.pair (.arr 32 (.int .u8)) (.sl (.pair (.int .u8) (.pair (.int .u8) (.sl (.int .u8))))))))))))))
abbrev qz2:Td:=(.pair (.int .u8) (.pair (.int .u8) (.sl (.int .u8))))
abbrev qz3:Td:=(.sl (.pair (.int .u8) (.pair (.arr 16 (.int .u8)) (.pair .bool (.pair qz2 (.pair .str .str))))))
abbrev qz4:Td:=(.pair (.int .i64) (.pair .bool (.pair (.arr 16 (.int .u8)) .str)))
abbrev qz5:Td:=(.pair (.arr 16 (.int .u8)) (.arr 16 (.int .u8)))
abbrev pz0:Type:=((List (List UInt8×(List UInt8)))×(Int×(Int×((Arr Int 16)×(Int×(Int×((List Int)×(Int×(List UInt8×(Arr Int 32))))))))))
abbrev pz1:Type:=((List (List UInt8×(List UInt8)))×(Int×(Int×((Arr Int 16)×(Int×(Int×(List UInt8×((Arr Int 32)×(List (Int×(Int×(List Int))))))))))))
abbrev pz2:Type:=(List UInt8×(List UInt8))
abbrev pz3:Type:=((Unit×((List Int)×Unit)))
abbrev pz4:Type:=(((List (Int×((Arr Int 16)×(Bool×((Int×(Int×(List Int)))×pz2)))))×(Int×(Int×Unit)))×((List UInt8×pz0)×((List UInt8×pz1)×Unit)))
abbrev pz5:Type:=(Int×(Int×(List Int)))
abbrev pz6:Type:=((Arr Int 16)×((Arr Int 24)×((Arr Int 16)×((Arr Int 24)×Unit))))
abbrev pz7:Type:=((List Int)×(Int×Unit))
abbrev pz8:Type:=((List Int)×(Int×(Int×Unit)))
abbrev pz9:Type:=((List (List Int))×(Int×(Int×Unit)))
abbrev pz10:Type:=(Int×(Int×(Int×Unit)))
abbrev pz11:Type:=((Arr Int 4)×((Arr Int 4)×Unit))
abbrev pz12:Type:=((Arr Int 16)×((Arr Int 16)×Unit))
abbrev pz13:Type:=((Arr Int 5)×((Arr Int 5)×Unit))
abbrev pz14:Type:=((List (List Int))×(Int×Unit))
abbrev pz15:Type:=((Arr Int 16)×((List Int)×Unit))
abbrev pz16:Type:=((Int×(Int×Unit))×Unit)
abbrev pz17:Type:=(Int×(Int×((List Int)×Unit)))
abbrev pz18:Type:=(List UInt8×(Int×Unit))
abbrev pz19:Type:=(((Arr Int 8)×((Arr Int 16)×(Int×Unit)))×((Arr Int 24)×((Arr Int 24)×Unit)))
abbrev pz20:Type:=(Int×((Arr Int 16)×(Bool×(pz5×pz2))))
abbrev pz21:Type:=((Int×(Int×Unit))×((List Int)×Unit))
abbrev pz22:Type:=((Int×Unit)×((List Int)×Unit))
abbrev pz23:Type:=((Arr Int 20)×((List Int)×Unit))
abbrev pz24:Type:=((List (List Int))×(Int×pz9))
abbrev pz25:Type:=((Arr Int 16)×((List Int)×((Arr Int 4)×((Arr Int 64)×Unit))))
abbrev pz26:Type:=((Arr Int 20)×((List Int)×((Arr Int 5)×((Arr Int 64)×Unit))))
abbrev pz27:Type:=((Arr Int 4)×(Int×Unit))
abbrev pz28:Type:=((Arr Int 16)×((Arr Int 4)×Unit))
abbrev pz29:Type:=((List UInt8×Unit)×Unit)
abbrev pz30:Type:=((Unit×((Arr Int 20)×((Arr Int 5)×Unit))))
abbrev pz31:Type:=(List UInt8×(pz2×Unit))
abbrev pz32:Type:=((Arr Int 5)×(Int×Unit))
abbrev pz33:Type:=((List pz2)×(Int×(Int×Unit)))
abbrev pz34:Type:=((Arr Int 5)×((Arr Int 80)×((Arr Int 5)×Unit)))
theorem hmx:C7.follows .mixedOrders=true:=by kernel_rfl
abbrev ET:Type 1:=(R:Type)→Env R
abbrev OkE (Γ:ET):Prop:=∀ R,EnvOK C7 (Γ R)
noncomputable abbrev eFn (Γ:ET)(f:FuncId)(ds rs:List Td)(g:HL ds→Option (RT rs)):ET:=Env.addFn Γ f (fun R=>fnK ds rs g)
theorem aFn {Γ:ET}(h:OkE Γ){f:FuncId}{ds rs:List Td}{g:HL ds→Option (RT rs)}{k:Nat}(hok:okFn C7 (Γ (RT rs)).inl f rs=true)(hs:∀ c,(runK C7 Γ k f ds rs c).run=g c):OkE (eFn Γ f ds rs g):=fun R=>EnvOK.addFn hmx (h R) (h _) hok hs
noncomputable def Ev0 (N:Nat):(R:Type)→Env R:=Env.addInl env0 [44,200,199,158,159,136,184]
theorem atF (R:Type):EnvOK C7 (Ev0 N R):=EnvOK.addInl (amS R) (by kernel_rfl)
noncomputable def Ev1:ET:=Env.addMv (Ev0 N) [(158,3)]
theorem atm:OkE (Ev1 N):=fun R=>EnvOK.addMv (atF N R) [(158,3)]
noncomputable def Ev2:ET:=Env.addMv (Ev1 N) [(184,4)]
theorem asU:OkE (Ev2 N):=fun R=>EnvOK.addMv (atm N R) [(184,4)]
noncomputable def Ev3:ET:=Dm (Ev2 N) [(125,0)]
theorem asG:OkE (Ev3 N):=fun R=>Dk (asU N R) [(125,0)]
noncomputable def uR (N:Nat)(n0:Int)(degree1:Int)(bits2:Int):Option Bool:=
 ne (bif (decide (0≤n0)) then
   some ((cond true (decide (n0≤1000)) false))
  else
   some (false)) fun (v4:Bool)=>
 ne (bif v4 then
   bif (decide (degree1=2)) then
    some ((cond true true false))
   else
    some ((cond true (cond false true (decide (degree1=3))) false))
  else
   some (false)) fun (v5:Bool)=>
 ne (bif v5 then
   some ((cond true (decide (0≤bits2)) false))
  else
   some (false)) fun (v6:Bool)=>
 ne (bif v6 then
   some ((cond true (decide (bits2≤32)) false))
  else
   some (false)) fun (v7:Bool)=>
 some (v7)
theorem Cq (n0:Int)(degree1:Int)(bits2:Int):(runK C7 (Ev3 N) 400 181 [(.int .i64),(.int .i64),(.int .i64)] [.bool] (n0,degree1,bits2,())).run=uR N n0 degree1 bits2:=by kernel_rfl
noncomputable def Ev4:ET:=eFn (Ev3 N) 181 [(.int .i64),(.int .i64),(.int .i64)] [.bool] fun c=>uR N c.1 c.2.1 c.2.2.1
theorem asF:OkE (Ev4 N):=aFn (asG N) (by kernel_rfl) fun c=>Cq N c.1 c.2.1 c.2.2.1
noncomputable def pr (N:Nat)(x0:Int)(y1:Int):Option (Int×Int):=
 some (((gt .u64 ((gt .u64 ((gt .u64 ((@Db x0 ((2:Int) ^ (min (C8 (32:Int)) (C9 .u64))))*(@Db y1 ((2:Int) ^ (min (C8 (32:Int)) (C9 .u64))))))+(@Db (gt .u64 ((gt .u64 ((@Db x0 ((2:Int) ^ (min (C8 (32:Int)) (C9 .u64))))*(bits .and .u64 y1 (4294967295:Int))))+(@Db (gt .u64 ((bits .and .u64 x0 (4294967295:Int))*(bits .and .u64 y1 (4294967295:Int)))) ((2:Int) ^ (min (C8 (32:Int)) (C9 .u64)))))) ((2:Int) ^ (min (C8 (32:Int)) (C9 .u64))))))+(@Db (gt .u64 ((bits .and .u64 (gt .u64 ((gt .u64 ((@Db x0 ((2:Int) ^ (min (C8 (32:Int)) (C9 .u64))))*(bits .and .u64 y1 (4294967295:Int))))+(@Db (gt .u64 ((bits .and .u64 x0 (4294967295:Int))*(bits .and .u64 y1 (4294967295:Int)))) ((2:Int) ^ (min (C8 (32:Int)) (C9 .u64)))))) (4294967295:Int))+(gt .u64 ((bits .and .u64 x0 (4294967295:Int))*(@Db y1 ((2:Int) ^ (min (C8 (32:Int)) (C9 .u64)))))))) ((2:Int) ^ (min (C8 (32:Int)) (C9 .u64)))))),(gt .u64 (x0*y1))))
theorem sR (x0:Int)(y1:Int):(runK C7 (Ev4 N) 400 196 [(.int .u64),(.int .u64)] [(.int .u64),(.int .u64)] (x0,y1,())).run=pr N x0 y1:=by kernel_rfl
noncomputable def Ev5:ET:=eFn (Ev4 N) 196 [(.int .u64),(.int .u64)] [(.int .u64),(.int .u64)] fun c=>pr N c.1 c.2.1
theorem asE:OkE (Ev5 N):=aFn (asF N) (by kernel_rfl) fun c=>sR N c.1 c.2.1
noncomputable def qO (N:Nat)(x0:Int)(degree1:Int):Option (Int×Int):=
 bif (decide (degree1=2)) then
  some (((gt .u64 ((gt .u64 ((gt .u64 ((@Db x0 ((2:Int) ^ (min (C8 (32:Int)) (C9 .u64))))*(@Db x0 ((2:Int) ^ (min (C8 (32:Int)) (C9 .u64))))))+(@Db (gt .u64 ((gt .u64 ((@Db x0 ((2:Int) ^ (min (C8 (32:Int)) (C9 .u64))))*(bits .and .u64 x0 (4294967295:Int))))+(@Db (gt .u64 ((bits .and .u64 x0 (4294967295:Int))*(bits .and .u64 x0 (4294967295:Int)))) ((2:Int) ^ (min (C8 (32:Int)) (C9 .u64)))))) ((2:Int) ^ (min (C8 (32:Int)) (C9 .u64))))))+(@Db (gt .u64 ((bits .and .u64 (gt .u64 ((gt .u64 ((@Db x0 ((2:Int) ^ (min (C8 (32:Int)) (C9 .u64))))*(bits .and .u64 x0 (4294967295:Int))))+(@Db (gt .u64 ((bits .and .u64 x0 (4294967295:Int))*(bits .and .u64 x0 (4294967295:Int)))) ((2:Int) ^ (min (C8 (32:Int)) (C9 .u64)))))) (4294967295:Int))+(gt .u64 ((bits .and .u64 x0 (4294967295:Int))*(@Db x0 ((2:Int) ^ (min (C8 (32:Int)) (C9 .u64)))))))) ((2:Int) ^ (min (C8 (32:Int)) (C9 .u64)))))),(gt .u64 (x0*x0))))
 else
  some (((gt .u64 ((gt .u64 ((gt .u64 ((gt .u64 ((gt .u64 ((@Db x0 ((2:Int) ^ (min (C8 (32:Int)) (C9 .u64))))*(@Db x0 ((2:Int) ^ (min (C8 (32:Int)) (C9 .u64))))))+(@Db (gt .u64 ((gt .u64 ((@Db x0 ((2:Int) ^ (min (C8 (32:Int)) (C9 .u64))))*(bits .and .u64 x0 (4294967295:Int))))+(@Db (gt .u64 ((bits .and .u64 x0 (4294967295:Int))*(bits .and .u64 x0 (4294967295:Int)))) ((2:Int) ^ (min (C8 (32:Int)) (C9 .u64)))))) ((2:Int) ^ (min (C8 (32:Int)) (C9 .u64))))))+(@Db (gt .u64 ((bits .and .u64 (gt .u64 ((gt .u64 ((@Db x0 ((2:Int) ^ (min (C8 (32:Int)) (C9 .u64))))*(bits .and .u64 x0 (4294967295:Int))))+(@Db (gt .u64 ((bits .and .u64 x0 (4294967295:Int))*(bits .and .u64 x0 (4294967295:Int)))) ((2:Int) ^ (min (C8 (32:Int)) (C9 .u64)))))) (4294967295:Int))+(gt .u64 ((bits .and .u64 x0 (4294967295:Int))*(@Db x0 ((2:Int) ^ (min (C8 (32:Int)) (C9 .u64)))))))) ((2:Int) ^ (min (C8 (32:Int)) (C9 .u64))))))*x0))+(gt .u64 ((gt .u64 ((gt .u64 ((@Db (gt .u64 (x0*x0)) ((2:Int) ^ (min (C8 (32:Int)) (C9 .u64))))*(@Db x0 ((2:Int) ^ (min (C8 (32:Int)) (C9 .u64))))))+(@Db (gt .u64 ((gt .u64 ((@Db (gt .u64 (x0*x0)) ((2:Int) ^ (min (C8 (32:Int)) (C9 .u64))))*(bits .and .u64 x0 (4294967295:Int))))+(@Db (gt .u64 ((bits .and .u64 (gt .u64 (x0*x0)) (4294967295:Int))*(bits .and .u64 x0 (4294967295:Int)))) ((2:Int) ^ (min (C8 (32:Int)) (C9 .u64)))))) ((2:Int) ^ (min (C8 (32:Int)) (C9 .u64))))))+(@Db (gt .u64 ((bits .and .u64 (gt .u64 ((gt .u64 ((@Db (gt .u64 (x0*x0)) ((2:Int) ^ (min (C8 (32:Int)) (C9 .u64))))*(bits .and .u64 x0 (4294967295:Int))))+(@Db (gt .u64 ((bits .and .u64 (gt .u64 (x0*x0)) (4294967295:Int))*(bits .and .u64 x0 (4294967295:Int)))) ((2:Int) ^ (min (C8 (32:Int)) (C9 .u64)))))) (4294967295:Int))+(gt .u64 ((bits .and .u64 (gt .u64 (x0*x0)) (4294967295:Int))*(@Db x0 ((2:Int) ^ (min (C8 (32:Int)) (C9 .u64)))))))) ((2:Int) ^ (min (C8 (32:Int)) (C9 .u64)))))))),(gt .u64 ((gt .u64 (x0*x0))*x0))))
theorem yA (x0:Int)(degree1:Int):(runK C7 (Ev5 N) 400 197 [(.int .u64),(.int .i64)] [(.int .u64),(.int .u64)] (x0,degree1,())).run=qO N x0 degree1:=by kernel_rfl
noncomputable def Ev6:ET:=eFn (Ev5 N) 197 [(.int .u64),(.int .i64)] [(.int .u64),(.int .u64)] fun c=>qO N c.1 c.2.1
theorem asD:OkE (Ev6 N):=aFn (asE N) (by kernel_rfl) fun c=>yA N c.1 c.2.1
noncomputable def ny (N:Nat)(n0:Int)(shift1:Int):Option (Int×Int):=
 bif (decide (64≤shift1)) then
  bif (decide ((0:Int)≤(gt .i64 (shift1-64)))) then
   some (((gt .u64 (n0*((2:Int) ^ (min (C8 (gt .i64 (shift1-64))) (C9 .u64))))),(0:Int)))
  else
   none
 else
  bif (decide ((0:Int)≤(gt .i64 ((64:Int)-shift1)))) then
   bif (decide (0≤shift1)) then
    some (((@Db n0 ((2:Int) ^ (min (C8 (gt .i64 ((64:Int)-shift1))) (C9 .u64)))),(gt .u64 (n0*((2:Int) ^ (min (C8 shift1) (C9 .u64)))))))
   else
    none
  else
   none
theorem uQ (n0:Int)(shift1:Int):(runK C7 (Ev6 N) 400 198 [(.int .u64),(.int .i64)] [(.int .u64),(.int .u64)] (n0,shift1,())).run=ny N n0 shift1:=by kernel_rfl
noncomputable def Ev7:ET:=eFn (Ev6 N) 198 [(.int .u64),(.int .i64)] [(.int .u64),(.int .u64)] fun c=>ny N c.1 c.2.1
theorem asC:OkE (Ev7 N):=aFn (asD N) (by kernel_rfl) fun c=>uQ N c.1 c.2.1
noncomputable def qP (x0:Int)(n1:Int)(degree2:Int)(shift3:Int):Option Bool:=
 ne (qO N x0 degree2) fun v5=>
 ne (ny N (gt .u64 n1) shift3) fun v6=>
 bif (!(decide (v5.1=v6.1))) then
  some ((decide (v6.1<v5.1)))
 else
  some ((decide (v6.2<v5.2)))
theorem yB (x0:Int)(n1:Int)(degree2:Int)(shift3:Int):(runK C7 (Ev7 N) 400 182 [(.int .u64),(.int .i64),(.int .i64),(.int .i64)] [.bool] (x0,n1,degree2,shift3,())).run=qP N x0 n1 degree2 shift3:=by kernel_rfl
noncomputable def Ev8:ET:=eFn (Ev7 N) 182 [(.int .u64),(.int .i64),(.int .i64),(.int .i64)] [.bool] fun c=>qP N c.1 c.2.1 c.2.2.1 c.2.2.2.1
theorem alH:OkE (Ev8 N):=aFn (asC N) (by kernel_rfl) fun c=>yB N c.1 c.2.1 c.2.2.1 c.2.2.2.1
noncomputable def jS:LI:=⟨34,0,[],⟨[(0,.ty (.int .i64)),(1,.ty (.int .i64)),(2,.ty (.int .i64)),(8,.ty (.int .u64)),(9,.ty (.int .i64))],[]⟩,[(.exit 0,⟨[(8,.ty (.int .u64))],[]⟩)]⟩
noncomputable def nA (X:((Int×(Int×pz10))×Unit)→Option (((Int×Unit)×Unit)))(n0:Int)(degree1:Int)(bits2:Int)(root8:Int)(i9:Int):Option (((Int×Unit)×Unit)):=
 bif (decide (0≤i9)) then
  bif (decide (0≤i9)) then
   ne (qP N (bits .or .u64 root8 (gt .u64 ((1:Int)*((2:Int) ^ (min (C8 i9) (C9 .u64)))))) n0 degree1 (gt .i64 (degree1*bits2))) fun v7=>
   bif (!v7) then
    (X ((n0,(degree1,(bits2,((bits .or .u64 root8 (gt .u64 ((1:Int)*((2:Int) ^ (min (C8 i9) (C9 .u64)))))),((gt .i64 (i9-1)),()))))),()))
   else
    (X ((n0,(degree1,(bits2,(root8,((gt .i64 (i9-1)),()))))),()))
  else
   none
 else
  some (((root8,()),()))
noncomputable def uT (c:((Int×(Int×pz10))×Unit)):Option (((Int×Unit)×Unit)):=gl (fun X c=>nA N X c.1.1 c.1.2.1 c.1.2.2.1 c.1.2.2.2.1 c.1.2.2.2.2.1) N c
theorem uS (X:((Int×(Int×pz10))×Unit)→Option (((Int×Unit)×Unit)))(n0:Int)(degree1:Int)(bits2:Int)(root8:Int)(i9:Int):(aq C7 (Ev8 N) 400 [157] jS (ao C7 [157] 5) X ((n0,degree1,bits2,root8,i9,()),())).run=nA N X n0 degree1 bits2 root8 i9:=by kernel_rfl
noncomputable def Ev9:(R:Type)→Env R:=Df (Ev8 N) [157] 0 5 (fun R=>lpK C7 jS (fun X c=>nA N X c.1.1 c.1.2.1 c.1.2.2.1 c.1.2.2.2.1 c.1.2.2.2.2.1) N)
theorem asB (R:Type):EnvOK C7 (Ev9 N R):=Da (alH N R) (by kernel_rfl) (aw (li:=jS) hmx (alH N _) (by kernel_rfl) ab (fun X c=>uS N X c.1.1 c.1.2.1 c.1.2.2.1 c.1.2.2.2.1 c.1.2.2.2.2.1) N)
noncomputable def qe (n0:Int)(degree1:Int)(bits2:Int):Option (Int×Int):=
 ne (uR N n0 degree1 bits2) fun v4=>
 bif (!v4) then
  some ((0,(1:Int)))
 else
  ne (uT N ((n0,(degree1,(bits2,(0,(36,()))))),())) fun v5=>
  some ((v5.1.1,(0:Int)))
theorem AH (n0:Int)(degree1:Int)(bits2:Int):(runK C7 (Ev9 N) 400 157 [(.int .i64),(.int .i64),(.int .i64)] [(.int .u64),(.int .i64)] (n0,degree1,bits2,())).run=qe N n0 degree1 bits2:=by kernel_rfl
noncomputable def Ev10:ET:=eFn (Ev9 N) 157 [(.int .i64),(.int .i64),(.int .i64)] [(.int .u64),(.int .i64)] fun c=>qe N c.1 c.2.1 c.2.2.1
theorem aq2:OkE (Ev10 N):=aFn (asB N) (by kernel_rfl) fun c=>AH N c.1 c.2.1 c.2.2.1
noncomputable def ey (N:Nat)(i0:Int)(width1:Int)(little2:Bool):Option Int:=
 bif little2 then
  some (i0)
 else
  some ((gt .i64 ((gt .i64 (width1-1))-i0)))
theorem Bn (i0:Int)(width1:Int)(little2:Bool):(runK C7 (Ev10 N) 400 130 [(.int .i64),(.int .i64),.bool] [(.int .i64)] (i0,width1,little2,())).run=ey N i0 width1 little2:=by kernel_rfl
noncomputable def Ev11:ET:=eFn (Ev10 N) 130 [(.int .i64),(.int .i64),.bool] [(.int .i64)] fun c=>ey N c.1 c.2.1 c.2.2.1
theorem agX:OkE (Ev11 N):=aFn (aq2 N) (by kernel_rfl) fun c=>Bn N c.1 c.2.1 c.2.2.1
noncomputable def nN:LI:=⟨35,0,[],⟨[(0,.ty (.int .u64)),(1,.ty (.int .i64)),(2,.ty .bool),(8,.lit (.own 0)),(19,.ty (.int .i64)),(20,.ty (.int .i64))],[.own (.int .u8) 5]⟩,[(.exit 0,⟨[(8,.lit (.own 0))],[.own (.int .u8) 5]⟩)]⟩
noncomputable def fM (X:((Int×(Int×(Bool×(Int×(Int×Unit)))))×((List Int)×Unit))→Option pz3)(n0:Int)(width1:Int)(little2:Bool)(x19:Int)(x20:Int)(h0:List (Int)):Option pz3:=
 bif (decide (x20<x19)) then
  ne (ey N x20 width1 little2) fun v8=>
  bif (decide ((0:Int)≤v8∧v8<(h0.length:Int))) then
   ne (h0[C8 v8]?) fun (v9:Int)=>
   (X (((@Db n0 ((2:Int) ^ (min (C8 (8:Int)) (C9 .u64)))),(width1,(little2,(x19,((gt .i64 (x20+1)),()))))),((@List.set Int h0 (C8 v8) (gt .u8 n0)),())))
  else
   none
 else
  some (((),(h0,())))
noncomputable def gG (c:((Int×(Int×(Bool×(Int×(Int×Unit)))))×((List Int)×Unit))):Option pz3:=gl (fun X c=>fM N X c.1.1 c.1.2.1 c.1.2.2.1 c.1.2.2.2.1 c.1.2.2.2.2.1 c.2.1) N c
theorem zh (X:((Int×(Int×(Bool×(Int×(Int×Unit)))))×((List Int)×Unit))→Option pz3)(n0:Int)(width1:Int)(little2:Bool)(x19:Int)(x20:Int)(h0:List (Int)):(aq C7 (Ev11 N) 400 [97] nN (ao C7 [97] 5) X ((n0,width1,little2,x19,x20,()),(h0,()))).run=fM N X n0 width1 little2 x19 x20 h0:=by kernel_rfl
noncomputable def Ev12:(R:Type)→Env R:=Df (Ev11 N) [97] 0 5 (fun R=>lpK C7 nN (fun X c=>fM N X c.1.1 c.1.2.1 c.1.2.2.1 c.1.2.2.2.1 c.1.2.2.2.2.1 c.2.1) N)
theorem aqP (R:Type):EnvOK C7 (Ev12 N R):=Da (agX N R) (by kernel_rfl) (aw (li:=nN) hmx (agX N _) (by kernel_rfl) ab (fun X c=>zh N X c.1.1 c.1.2.1 c.1.2.2.1 c.1.2.2.2.1 c.1.2.2.2.2.1 c.2.1) N)
noncomputable def cD (n0:Int)(width1:Int)(little2:Bool):Option ((List Int)×Int):=
 ne (bif (decide (width1<1)) then
   some (true)
  else
   some ((cond false true (decide (8<width1))))) fun (v4:Bool)=>
 bif v4 then
  some ((([]:List Int),(1:Int)))
 else
  bif ((decide ((0:Int)≤width1∧width1≤width1))&&(ae (C8 width1) 1)) then
   ne (gG N ((n0,(width1,(little2,((((Dc (@Dh Int (C8 width1) (0:Int))):Nat):Int),(0,()))))),((@Dh Int (C8 width1) (0:Int)),()))) fun v5=>
   some ((v5.2.1,(0:Int)))
  else
   none
theorem adc (n0:Int)(width1:Int)(little2:Bool):(runK C7 (Ev12 N) 400 97 [(.int .u64),(.int .i64),.bool] [(.sl (.int .u8)),(.int .i64)] (n0,width1,little2,())).run=cD N n0 width1 little2:=by kernel_rfl
noncomputable def Ev13:ET:=eFn (Ev12 N) 97 [(.int .u64),(.int .i64),.bool] [(.sl (.int .u8)),(.int .i64)] fun c=>cD N c.1 c.2.1 c.2.2.1
theorem agW:OkE (Ev13 N):=aFn (aqP N) (by kernel_rfl) fun c=>adc N c.1 c.2.1 c.2.2.1
noncomputable def da:LI:=⟨33,1,[],⟨[(0,.ty (.sl (.sl (.int .u8)))),(3,.ty (.int .i64)),(9,.ty (.sl (.sl (.int .u8)))),(10,.ty (.int .i64)),(11,.ty (.int .i64))],[.dead]⟩,[(.exit 0,⟨[(0,.ty (.sl (.sl (.int .u8)))),(3,.ty (.int .i64))],[.dead]⟩)]⟩
noncomputable def dY (N:Nat)(X:(pz24×Unit)→Option ((pz14×Unit)))(parts0:List (List Int))(size3:Int)(x9:List (List Int))(x10:Int)(x11:Int):Option ((pz14×Unit)):=
 bif (decide (x11<x10)) then
  ne (getI x9 x11) fun v7=>
  (X ((parts0,((gt .i64 (size3+(v7.length:Int))),(x9,(x10,((gt .i64 (x11+1)),()))))),()))
 else
  some (((parts0,(size3,())),()))
noncomputable def lP (c:(pz24×Unit)):Option ((pz14×Unit)):=gl (fun X c=>dY N X c.1.1 c.1.2.1 c.1.2.2.1 c.1.2.2.2.1 c.1.2.2.2.2.1) N c
theorem lO (X:(pz24×Unit)→Option ((pz14×Unit)))(parts0:List (List Int))(size3:Int)(x9:List (List Int))(x10:Int)(x11:Int):(aq C7 (Ev13 N) 400 [44,3,98] da (ao C7 [44,3,98] 3) X ((parts0,size3,x9,x10,x11,()),())).run=dY N X parts0 size3 x9 x10 x11:=by kernel_rfl
noncomputable def Ev14:(R:Type)→Env R:=Df (Ev13 N) [44,3,98] 1 3 (fun R=>lpK C7 da (fun X c=>dY N X c.1.1 c.1.2.1 c.1.2.2.1 c.1.2.2.2.1 c.1.2.2.2.2.1) N)
theorem agV (R:Type):EnvOK C7 (Ev14 N R):=Da (agW N R) (by kernel_rfl) (aw (li:=da) hmx (agW N _) (by kernel_rfl) ab (fun X c=>lO N X c.1.1 c.1.2.1 c.1.2.2.1 c.1.2.2.2.1 c.1.2.2.2.2.1) N)
noncomputable def c9:LI:=⟨33,1,[],⟨[(6,.lit (.own 1)),(22,.ty (.sl (.sl (.int .u8)))),(23,.ty (.int .i64)),(24,.ty (.int .i64))],[.dead,.own (.int .u8) 5]⟩,[(.exit 2,⟨[(6,.lit (.own 1))],[.dead,.own (.int .u8) 5]⟩)]⟩
noncomputable def dX (N:Nat)(X:(pz9×((List Int)×Unit))→Option pz3)(x22:List (List Int))(x23:Int)(x24:Int)(h0:List (Int)):Option pz3:=
 bif (decide (x24<x23)) then
  ne (getI x22 x24) fun v6=>
  bif (ae ((Dc h0)+(Dc v6)) 1) then
   (X ((x22,(x23,((gt .i64 (x24+1)),()))),((h0++v6),())))
  else
   none
 else
  some (((),(h0,())))
noncomputable def lN (c:(pz9×((List Int)×Unit))):Option pz3:=gl (fun X c=>dX N X c.1.1 c.1.2.1 c.1.2.2.1 c.2.1) N c
theorem lM (X:(pz9×((List Int)×Unit))→Option pz3)(x22:List (List Int))(x23:Int)(x24:Int)(h0:List (Int)):(aq C7 (Ev14 N) 400 [44,3,98] c9 (ao C7 [44,3,98] 9) X ((x22,x23,x24,()),(h0,()))).run=dX N X x22 x23 x24 h0:=by kernel_rfl
noncomputable def Ev15:(R:Type)→Env R:=Df (Ev14 N) [44,3,98] 1 9 (fun R=>lpK C7 c9 (fun X c=>dX N X c.1.1 c.1.2.1 c.1.2.2.1 c.2.1) N)
theorem aqo (R:Type):EnvOK C7 (Ev15 N R):=Da (agV N R) (by kernel_rfl) (aw (li:=c9) hmx (agV N _) (by kernel_rfl) ab (fun X c=>lM N X c.1.1 c.1.2.1 c.1.2.2.1 c.2.1) N)
noncomputable def rH (n0:Int):Option (List Int):=
 ne (cD N (gt .u64 ((8:Int)*n0)) (8:Int) true) fun v2=>
 bif ((decide ((0:Int)≤(@Dd (gt .u64 ((119:Int)-(@Dd n0 (64:Int)))) (64:Int))∧(@Dd (gt .u64 ((119:Int)-(@Dd n0 (64:Int)))) (64:Int))≤(@Dd (gt .u64 ((119:Int)-(@Dd n0 (64:Int)))) (64:Int))))&&(ae (C8 (@Dd (gt .u64 ((119:Int)-(@Dd n0 (64:Int)))) (64:Int))) 1)) then
  ne (lP N ((([([128]:List Int),(@Dh Int (C8 (@Dd (gt .u64 ((119:Int)-(@Dd n0 (64:Int)))) (64:Int))) (0:Int)),v2.1]:List ((List Int))),(0,(([([128]:List Int),(@Dh Int (C8 (@Dd (gt .u64 ((119:Int)-(@Dd n0 (64:Int)))) (64:Int))) (0:Int)),v2.1]:List ((List Int))),((((Dc ([([128]:List Int),(@Dh Int (C8 (@Dd (gt .u64 ((119:Int)-(@Dd n0 (64:Int)))) (64:Int))) (0:Int)),v2.1]:List ((List Int)))):Nat):Int),(0,()))))),())) fun v3=>
  bif ((decide ((0:Int)≤(0:Int)∧(0:Int)≤v3.1.2.1))&&(ae (C8 v3.1.2.1) 1)) then
   ne (lN N ((v3.1.1,((v3.1.1.length:Int),(0,()))),((@Dh Int (C8 (0:Int)) (0:Int)),()))) fun v4=>
   some (v4.2.1)
  else
   none
 else
  none
theorem adj (n0:Int):(runK C7 (Ev15 N) 400 98 [(.int .u64)] [(.sl (.int .u8))] (n0,())).run=rH N n0:=by kernel_rfl
noncomputable def Ev16:ET:=eFn (Ev15 N) 98 [(.int .u64)] [(.sl (.int .u8))] fun c=>rH N c.1
theorem aqe:OkE (Ev16 N):=aFn (aqo N) (by kernel_rfl) fun c=>adj N c.1
noncomputable def Bv (N:Nat):Option (Arr Int 4):=
 some ((@C5 Int 3 1732584193 (@C5 Int 2 4023233417 (@C5 Int 1 2562383102 (@C5 Int 0 271733878 (@Dj Int))))))
theorem aaa:(runK C7 (Ev16 N) 400 99 [] [(.arr 4 (.int .u32))] ()).run=Bv N:=by kernel_rfl
noncomputable def Ev17:ET:=eFn (Ev16 N) 99 [] [(.arr 4 (.int .u32))] fun c=>Bv N
theorem agU:OkE (Ev17 N):=aFn (aqe N) (by kernel_rfl) fun c=>aaa N
noncomputable def d8:LI:=⟨33,1,[],⟨[(0,.ty (.sl (.sl (.int .u8)))),(3,.ty (.int .i64)),(9,.ty (.sl (.sl (.int .u8)))),(10,.ty (.int .i64)),(11,.ty (.int .i64))],[.box 27 (.arr 16 (.int .u8))]⟩,[(.exit 0,⟨[(0,.ty (.sl (.sl (.int .u8)))),(3,.ty (.int .i64))],[.box 27 (.arr 16 (.int .u8))]⟩)]⟩
noncomputable def bM (N:Nat)(X:(pz24×((Arr Int 16)×Unit))→Option ((pz14×((Arr Int 16)×Unit))))(parts0:List (List Int))(size3:Int)(x9:List (List Int))(x10:Int)(x11:Int)(h0:Arr Int 16):Option ((pz14×((Arr Int 16)×Unit))):=
 bif (decide (x11<x10)) then
  ne (getI x9 x11) fun v8=>
  (X ((parts0,((gt .i64 (size3+(v8.length:Int))),(x9,(x10,((gt .i64 (x11+1)),()))))),(h0,())))
 else
  some (((parts0,(size3,())),(h0,())))
noncomputable def gJ (c:(pz24×((Arr Int 16)×Unit))):Option ((pz14×((Arr Int 16)×Unit))):=gl (fun X c=>bM N X c.1.1 c.1.2.1 c.1.2.2.1 c.1.2.2.2.1 c.1.2.2.2.2.1 c.2.1) N c
theorem nS (X:(pz24×((Arr Int 16)×Unit))→Option ((pz14×((Arr Int 16)×Unit))))(parts0:List (List Int))(size3:Int)(x9:List (List Int))(x10:Int)(x11:Int)(h0:Arr Int 16):(aq C7 (Ev17 N) 400 [44,1,67] d8 (ao C7 [44,1,67] 3) X ((parts0,size3,x9,x10,x11,()),(h0,()))).run=bM N X parts0 size3 x9 x10 x11 h0:=by kernel_rfl
noncomputable def Ev18:(R:Type)→Env R:=Df (Ev17 N) [44,1,67] 1 3 (fun R=>lpK C7 d8 (fun X c=>bM N X c.1.1 c.1.2.1 c.1.2.2.1 c.1.2.2.2.1 c.1.2.2.2.2.1 c.2.1) N)
theorem agT (R:Type):EnvOK C7 (Ev18 N R):=Da (agU N R) (by kernel_rfl) (aw (li:=d8) hmx (agU N _) (by kernel_rfl) ab (fun X c=>nS N X c.1.1 c.1.2.1 c.1.2.2.1 c.1.2.2.2.1 c.1.2.2.2.2.1 c.2.1) N)
noncomputable def dZ:LI:=⟨33,1,[],⟨[(6,.lit (.own 1)),(22,.ty (.sl (.sl (.int .u8)))),(23,.ty (.int .i64)),(24,.ty (.int .i64))],[.box 27 (.arr 16 (.int .u8)),.own (.int .u8) 5]⟩,[(.exit 2,⟨[(6,.lit (.own 1))],[.box 27 (.arr 16 (.int .u8)),.own (.int .u8) 5]⟩)]⟩
noncomputable def bL (N:Nat)(X:(pz9×pz15)→Option ((Unit×pz15)))(x22:List (List Int))(x23:Int)(x24:Int)(h0:Arr Int 16)(h1:List (Int)):Option ((Unit×pz15)):=
 bif (decide (x24<x23)) then
  ne (getI x22 x24) fun v7=>
  bif (ae ((Dc h1)+(Dc v7)) 1) then
   (X ((x22,(x23,((gt .i64 (x24+1)),()))),(h0,((h1++v7),()))))
  else
   none
 else
  some (((),(h0,(h1,()))))
noncomputable def gI (c:(pz9×pz15)):Option ((Unit×pz15)):=gl (fun X c=>bL N X c.1.1 c.1.2.1 c.1.2.2.1 c.2.1 c.2.2.1) N c
theorem nR (X:(pz9×pz15)→Option ((Unit×pz15)))(x22:List (List Int))(x23:Int)(x24:Int)(h0:Arr Int 16)(h1:List (Int)):(aq C7 (Ev18 N) 400 [44,1,67] dZ (ao C7 [44,1,67] 9) X ((x22,x23,x24,()),(h0,h1,()))).run=bL N X x22 x23 x24 h0 h1:=by kernel_rfl
noncomputable def Ev19:(R:Type)→Env R:=Df (Ev18 N) [44,1,67] 1 9 (fun R=>lpK C7 dZ (fun X c=>bL N X c.1.1 c.1.2.1 c.1.2.2.1 c.2.1 c.2.2.1) N)
theorem apL (R:Type):EnvOK C7 (Ev19 N R):=Da (agT N R) (by kernel_rfl) (aw (li:=dZ) hmx (agT N _) (by kernel_rfl) ab (fun X c=>nR N X c.1.1 c.1.2.1 c.1.2.2.1 c.2.1 c.2.2.1) N)
noncomputable def ur (n0:Int):Option Int:=
 ne (qe N n0 (2:Int) (30:Int)) fun v2=>
 some ((gt .u32 v2.1))
theorem adi (n0:Int):(runK C7 (Ev19 N) 400 131 [(.int .i64)] [(.int .u32)] (n0,())).run=ur N n0:=by kernel_rfl
noncomputable def Ev20:ET:=eFn (Ev19 N) 131 [(.int .i64)] [(.int .u32)] fun c=>ur N c.1
theorem apz:OkE (Ev20 N):=aFn (apL N) (by kernel_rfl) fun c=>adi N c.1
noncomputable def jy:Option (Arr Int 3):=
 ne (ur N (2:Int)) fun v1=>
 ne (ur N (3:Int)) fun v2=>
 some ((@C5 Int 2 0 (@C5 Int (1:Nat) v1 (@C5 Int (0:Nat) v2 (@Dj Int)))))
theorem vw:(runK C7 (Ev20 N) 400 100 [] [(.arr 3 (.int .u32))] ()).run=jy N:=by kernel_rfl
noncomputable def Ev21:ET:=eFn (Ev20 N) 100 [] [(.arr 3 (.int .u32))] fun c=>jy N
theorem apo:OkE (Ev21 N):=aFn (apz N) (by kernel_rfl) fun c=>vw N
noncomputable def Ev22:ET:=Dm (Ev21 N) [(101,0)]
theorem apf:OkE (Ev22 N):=fun R=>Dk (apo N R) [(101,0)]
noncomputable def Ev23:ET:=Dm (Ev22 N) [(132,0)]
theorem agR:OkE (Ev23 N):=fun R=>Dk (apf N R) [(132,0)]
noncomputable def nQ:LI:=⟨37,0,[],⟨[(0,.ty (.sl (.int .u8))),(1,.ty .bool),(6,.ty (.int .u64)),(17,.ty (.int .i64)),(18,.ty (.int .i64))],[]⟩,[(.exit 0,⟨[(6,.ty (.int .u64))],[]⟩)]⟩
noncomputable def kt (X:(((List Int)×(Bool×pz10))×Unit)→Option (((Int×Unit)×Unit)))(b0:List (Int))(little1:Bool)(n6:Int)(x17:Int)(x18:Int):Option (((Int×Unit)×Unit)):=
 bif (decide (x18<x17)) then
  ne (ey N x18 (b0.length:Int) little1) fun v7=>
  ne (getI b0 v7) fun v8=>
  bif (decide ((0:Int)≤(gt .i64 ((8:Int)*x18)))) then
   (X ((b0,(little1,((bits .or .u64 n6 (gt .u64 ((gt .u64 v8)*((2:Int) ^ (min (C8 (gt .i64 ((8:Int)*x18))) (C9 .u64)))))),(x17,((gt .i64 (x18+1)),()))))),()))
  else
   none
 else
  some (((n6,()),()))
noncomputable def nP (c:(((List Int)×(Bool×pz10))×Unit)):Option (((Int×Unit)×Unit)):=gl (fun X c=>kt N X c.1.1 c.1.2.1 c.1.2.2.1 c.1.2.2.2.1 c.1.2.2.2.2.1) N c
theorem zj (X:(((List Int)×(Bool×pz10))×Unit)→Option (((Int×Unit)×Unit)))(b0:List (Int))(little1:Bool)(n6:Int)(x17:Int)(x18:Int):(aq C7 (Ev23 N) 400 [105] nQ (ao C7 [105] 5) X ((b0,little1,n6,x17,x18,()),())).run=kt N X b0 little1 n6 x17 x18:=by kernel_rfl
noncomputable def Ev24:(R:Type)→Env R:=Df (Ev23 N) [105] 0 5 (fun R=>lpK C7 nQ (fun X c=>kt N X c.1.1 c.1.2.1 c.1.2.2.1 c.1.2.2.2.1 c.1.2.2.2.2.1) N)
theorem aoZ (R:Type):EnvOK C7 (Ev24 N R):=Da (agR N R) (by kernel_rfl) (aw (li:=nQ) hmx (agR N _) (by kernel_rfl) ab (fun X c=>zj N X c.1.1 c.1.2.1 c.1.2.2.1 c.1.2.2.2.1 c.1.2.2.2.2.1) N)
noncomputable def iG (b0:List (Int))(little1:Bool):Option (Int×Int):=
 bif (decide ((b0.length:Int)<(1:Int))) then
  some ((0,(1:Int)))
 else
  ne (some ((cond false true (decide ((8:Int)<(b0.length:Int)))))) fun (v3:Bool)=>
  bif v3 then
   some ((0,(1:Int)))
  else
   ne (nP N ((b0,(little1,(0,((b0.length:Int),(0,()))))),())) fun v4=>
   some ((v4.1.1,(0:Int)))
theorem adf (b0:List (Int))(little1:Bool):(runK C7 (Ev24 N) 400 105 [(.sl (.int .u8)),.bool] [(.int .u64),(.int .i64)] (b0,little1,())).run=iG N b0 little1:=by kernel_rfl
noncomputable def Ev25:ET:=eFn (Ev24 N) 105 [(.sl (.int .u8)),.bool] [(.int .u64),(.int .i64)] fun c=>iG N c.1 c.2.1
theorem agQ:OkE (Ev25 N):=aFn (aoZ N) (by kernel_rfl) fun c=>adf N c.1 c.2.1
noncomputable def lL:LI:=⟨26,0,[],⟨[(1,.adr (.arr 64 (.int .u8))),(2,.lit (.box 0 0)),(3,.lit (.box 1 0)),(7,.ty (.int .i64))],[.box 192 (.arr 16 (.int .u32)),.box 192 (.arr 16 (.int .u32))]⟩,[(.exit 0,⟨[(2,.lit (.box 0 0)),(3,.lit (.box 1 0))],[.box 192 (.arr 16 (.int .u32)),.box 192 (.arr 16 (.int .u32))]⟩)]⟩
noncomputable def gn (X:(((Arr Int 64)×(Int×Unit))×pz12)→Option ((Unit×pz12)))(b1:Arr Int 64)(x7:Int)(h0:Arr Int 16)(h1:Arr Int 16):Option ((Unit×pz12)):=
 bif (decide (x7<16)) then
  ne (subI b1.l (gt .i64 ((4:Int)*x7)) (gt .i64 ((gt .i64 ((4:Int)*x7))+4))) fun v6=>
  ne (iG N v6 true) fun v7=>
  bif (decide ((0:Int)≤x7∧x7<((16:Nat):Int))) then
   ne (h1.l[C8 x7]?) fun (v8:Int)=>
   (X ((b1,((gt .i64 (x7+1)),())),(h0,((h1.set (C8 x7) (gt .u32 v7.1)),()))))
  else
   none
 else
  some (((),(h0,(h1,()))))
noncomputable def qF (c:(((Arr Int 64)×(Int×Unit))×pz12)):Option ((Unit×pz12)):=gl (fun X c=>gn N X c.1.1 c.1.2.1 c.2.1 c.2.2.1) N c
theorem wZ (X:(((Arr Int 64)×(Int×Unit))×pz12)→Option ((Unit×pz12)))(b1:Arr Int 64)(x7:Int)(h0:Arr Int 16)(h1:Arr Int 16):(aq C7 (Ev25 N) 400 [132] lL (ao C7 [132] 3) X ((b1,x7,()),(h0,h1,()))).run=gn N X b1 x7 h0 h1:=by kernel_rfl
noncomputable def Ev26:(R:Type)→Env R:=Df (Ev25 N) [132] 0 3 (fun R=>lpK C7 lL (fun X c=>gn N X c.1.1 c.1.2.1 c.2.1 c.2.2.1) N)
theorem aoL (R:Type):EnvOK C7 (Ev26 N R):=Da (agQ N R) (by kernel_rfl) (aw (li:=lL) hmx (agQ N _) (by kernel_rfl) ab (fun X c=>wZ N X c.1.1 c.1.2.1 c.2.1 c.2.2.1) N)
noncomputable def pn (b0:Arr Int 64):Option (Arr Int 16):=
 ne (qF N ((b0,(0,())),(zc16,(zc16,())))) fun v2=>
 some (v2.2.2.1)
theorem C0 (b0:Arr Int 64):(runK C7 (Ev26 N) 400 132 [(.arr 64 (.int .u8))] [(.arr 16 (.int .u32))] (b0,())).run=pn N b0:=by kernel_rfl
noncomputable def Ev27:ET:=eFn (Ev26 N) 132 [(.arr 64 (.int .u8))] [(.arr 16 (.int .u32))] fun c=>pn N c.1
theorem aoF:OkE (Ev27 N):=aFn (aoL N) (by kernel_rfl) fun c=>C0 N c.1
noncomputable def po (N:Nat)(r0:Int)(b1:Int)(c2:Int)(d3:Int):Option Int:=
 bif (decide (r0=0)) then
  some ((bits .or .u32 (bits .and .u32 b1 c2) (bits .and .u32 (bits .xor .u32 (@ite Int (@Eq Bool (@IntKind.signed @IntKind.u32) true) (@instDecidableEqBool (@IntKind.signed @IntKind.u32) true) (-1:Int) (@IntKind.max @IntKind.u32)) b1) d3)))
 else
  bif (decide (r0=1)) then
   some ((bits .or .u32 (bits .or .u32 (bits .and .u32 b1 c2) (bits .and .u32 b1 d3)) (bits .and .u32 c2 d3)))
  else
   some ((bits .xor .u32 (bits .xor .u32 b1 c2) d3))
theorem C3 (r0:Int)(b1:Int)(c2:Int)(d3:Int):(runK C7 (Ev27 N) 400 133 [(.int .i64),(.int .u32),(.int .u32),(.int .u32)] [(.int .u32)] (r0,b1,c2,d3,())).run=po N r0 b1 c2 d3:=by kernel_rfl
noncomputable def Ev28:ET:=eFn (Ev27 N) 133 [(.int .i64),(.int .u32),(.int .u32),(.int .u32)] [(.int .u32)] fun c=>po N c.1 c.2.1 c.2.2.1 c.2.2.2.1
theorem aoy:OkE (Ev28 N):=aFn (aoF N) (by kernel_rfl) fun c=>C3 N c.1 c.2.1 c.2.2.1 c.2.2.2.1
noncomputable def ku (N:Nat)(i0:Int):Option Int:=
 bif (decide ((gt .i64 (@Di i0 (16:Int)))=(0:Int))) then
  some ((@Dd i0 (16:Int)))
 else
  bif (decide ((gt .i64 (@Di i0 (16:Int)))=(1:Int))) then
   some ((gt .i64 ((gt .i64 ((4:Int)*(@Dd (@Dd i0 (16:Int)) (4:Int))))+(gt .i64 (@Di (@Dd i0 (16:Int)) (4:Int))))))
  else
   ne (getI ([0,8,4,12,2,10,6,14,1,9,5,13,3,11,7,15]:List Int) (@Dd i0 (16:Int))) fun v2=>
   some (v2)
theorem C2 (i0:Int):(runK C7 (Ev28 N) 400 134 [(.int .i64)] [(.int .i64)] (i0,())).run=ku N i0:=by kernel_rfl
noncomputable def Ev29:ET:=eFn (Ev28 N) 134 [(.int .i64)] [(.int .i64)] fun c=>ku N c.1
theorem aor:OkE (Ev29 N):=aFn (aoy N) (by kernel_rfl) fun c=>C2 N c.1
noncomputable def cQ (N:Nat)(x0:Int)(k1:Int):Option Int:=
 bif (decide ((0:Int)≤(gt .u64 ((32:Int)-(bits .and .u64 (gt .u64 k1) (31:Int)))))) then
  some ((bits .or .u32 (gt .u32 (x0*((2:Int) ^ (min (C8 (bits .and .u64 (gt .u64 k1) (31:Int))) (C9 .u32))))) (@Db x0 ((2:Int) ^ (min (C8 (gt .u64 ((32:Int)-(bits .and .u64 (gt .u64 k1) (31:Int))))) (C9 .u32))))))
 else
  none
theorem mS (x0:Int)(k1:Int):(runK C7 (Ev29 N) 400 135 [(.int .u32),(.int .i64)] [(.int .u32)] (x0,k1,())).run=cQ N x0 k1:=by kernel_rfl
noncomputable def Ev30:ET:=eFn (Ev29 N) 135 [(.int .u32),(.int .i64)] [(.int .u32)] fun c=>cQ N c.1 c.2.1
theorem agL:OkE (Ev30 N):=aFn (aor N) (by kernel_rfl) fun c=>mS N c.1 c.2.1
noncomputable def ky:LI:=⟨70,0,[],⟨[(3,.adr (.arr 4 (.int .u32))),(5,.adr (.arr 3 (.int .u32))),(6,.lit (.box 0 0)),(7,.lit (.box 1 0)),(8,.lit (.box 2 0)),(16,.ty (.int .i64))],[.box 159 (.arr 4 (.int .u32)),.box 192 (.arr 16 (.int .u32)),.box 159 (.arr 4 (.int .u32))]⟩,[(.exit 0,⟨[(3,.adr (.arr 4 (.int .u32))),(6,.lit (.box 0 0)),(8,.lit (.box 1 0))],[.box 159 (.arr 4 (.int .u32)),.box 159 (.arr 4 (.int .u32))]⟩)]⟩
noncomputable def ff (X:(((Arr Int 4)×((Arr Int 3)×(Int×Unit)))×((Arr Int 4)×pz28))→Option ((((Arr Int 4)×Unit)×pz11)))(s3:Arr Int 4)(k5:Arr Int 3)(x16:Int)(h0:Arr Int 4)(h1:Arr Int 16)(h2:Arr Int 4):Option ((((Arr Int 4)×Unit)×pz11)):=
 bif (decide (x16<48)) then
  ne (h2.l[C8 (0:Int)]?) fun (v8:Int)=>
  ne (h2.l[C8 (1:Int)]?) fun (v9:Int)=>
  ne (h2.l[C8 (2:Int)]?) fun (v10:Int)=>
  ne (h2.l[C8 (3:Int)]?) fun (v11:Int)=>
  ne (po N (gt .i64 (@Di x16 (16:Int))) v9 v10 v11) fun v12=>
  ne (ku N x16) fun v13=>
  bif (decide ((0:Int)≤v13∧v13<((16:Nat):Int))) then
   ne (h1.l[C8 v13]?) fun (v14:Int)=>
   ne (getI k5.l (gt .i64 (@Di x16 (16:Int)))) fun v15=>
   ne (h2.l[C8 (3:Int)]?) fun (v16:Int)=>
   ne (getI ([(@Arr.mk Int (4:Nat) ([3,7,11,19]:List Int) @xO._proof_3),(@Arr.mk Int (4:Nat) ([3,5,9,13]:List Int) @xO._proof_4),(@Arr.mk Int (4:Nat) ([3,9,11,15]:List Int) @xO._proof_5)]:List ((Arr Int 4))) (gt .i64 (@Di x16 (16:Int)))) fun v17=>
   ne (getI v17.l (@Dd x16 (4:Int))) fun v18=>
   ne (cQ N (gt .u32 ((gt .u32 ((gt .u32 (v8+v12))+v14))+v15)) v18) fun v19=>
   ne (h2.l[C8 (1:Int)]?) fun (v20:Int)=>
   ne (h2.l[C8 (2:Int)]?) fun (v21:Int)=>
   (X ((s3,(k5,((gt .i64 (x16+1)),()))),(h0,(h1,((@C5 Int (3:Nat) v16 (@C5 Int (2:Nat) v19 (@C5 Int (1:Nat) v20 (@C5 Int (0:Nat) v21 (@Dj Int))))),())))))
  else
   none
 else
  some (((s3,()),(h0,(h2,()))))
noncomputable def pq (c:(((Arr Int 4)×((Arr Int 3)×(Int×Unit)))×((Arr Int 4)×pz28))):Option ((((Arr Int 4)×Unit)×pz11)):=gl (fun X c=>ff N X c.1.1 c.1.2.1 c.1.2.2.1 c.2.1 c.2.2.1 c.2.2.2.1) N c
theorem vy (X:(((Arr Int 4)×((Arr Int 3)×(Int×Unit)))×((Arr Int 4)×pz28))→Option ((((Arr Int 4)×Unit)×pz11)))(s3:Arr Int 4)(k5:Arr Int 3)(x16:Int)(h0:Arr Int 4)(h1:Arr Int 16)(h2:Arr Int 4):(aq C7 (Ev30 N) 400 [101] ky (ao C7 [101] 4) X ((s3,k5,x16,()),(h0,h1,h2,()))).run=ff N X s3 k5 x16 h0 h1 h2:=by kernel_rfl
noncomputable def Ev31:(R:Type)→Env R:=Df (Ev30 N) [101] 0 4 (fun R=>lpK C7 ky (fun X c=>ff N X c.1.1 c.1.2.1 c.1.2.2.1 c.2.1 c.2.2.1 c.2.2.2.1) N)
theorem agK (R:Type):EnvOK C7 (Ev31 N R):=Da (agL N R) (by kernel_rfl) (aw (li:=ky) hmx (agL N _) (by kernel_rfl) ab (fun X c=>vy N X c.1.1 c.1.2.1 c.1.2.2.1 c.2.1 c.2.2.1 c.2.2.2.1) N)
noncomputable def jn:LI:=⟨70,0,[],⟨[(3,.adr (.arr 4 (.int .u32))),(6,.lit (.box 0 0)),(8,.lit (.box 1 0)),(57,.ty (.int .i64))],[.box 159 (.arr 4 (.int .u32)),.box 159 (.arr 4 (.int .u32))]⟩,[(.exit 2,⟨[(6,.lit (.box 0 0)),(8,.lit (.box 1 0))],[.box 159 (.arr 4 (.int .u32)),.box 159 (.arr 4 (.int .u32))]⟩)]⟩
noncomputable def ez (N:Nat)(X:(pz27×pz11)→Option ((Unit×pz11)))(s3:Arr Int 4)(x57:Int)(h0:Arr Int 4)(h1:Arr Int 4):Option ((Unit×pz11)):=
 bif (decide (x57<4)) then
  bif (decide ((0:Int)≤x57∧x57<((4:Nat):Int))) then
   ne (h1.l[C8 x57]?) fun (v6:Int)=>
   ne (getI s3.l x57) fun v7=>
   bif (decide ((0:Int)≤x57∧x57<((4:Nat):Int))) then
    ne (h1.l[C8 x57]?) fun (v8:Int)=>
    (X ((s3,((gt .i64 (x57+1)),())),(h0,((h1.set (C8 x57) (gt .u32 (v6+v7))),()))))
   else
    none
  else
   none
 else
  some (((),(h0,(h1,()))))
noncomputable def oH (c:(pz27×pz11)):Option ((Unit×pz11)):=gl (fun X c=>ez N X c.1.1 c.1.2.1 c.2.1 c.2.2.1) N c
theorem ua (X:(pz27×pz11)→Option ((Unit×pz11)))(s3:Arr Int 4)(x57:Int)(h0:Arr Int 4)(h1:Arr Int 4):(aq C7 (Ev31 N) 400 [101] jn (ao C7 [101] 11) X ((s3,x57,()),(h0,h1,()))).run=ez N X s3 x57 h0 h1:=by kernel_rfl
noncomputable def Ev32:(R:Type)→Env R:=Df (Ev31 N) [101] 0 11 (fun R=>lpK C7 jn (fun X c=>ez N X c.1.1 c.1.2.1 c.2.1 c.2.2.1) N)
theorem an6 (R:Type):EnvOK C7 (Ev32 N R):=Da (agK N R) (by kernel_rfl) (aw (li:=jn) hmx (agK N _) (by kernel_rfl) ab (fun X c=>ua N X c.1.1 c.1.2.1 c.2.1 c.2.2.1) N)
noncomputable def iw (s0:Arr Int 4)(b1:Arr Int 64)(k2:Arr Int 3):Option (Arr Int 4):=
 ne (pn N b1) fun v4=>
 ne (pq N ((s0,(k2,(0,()))),((@C5 Int 3 0 (@C5 Int 2 0 (@C5 Int 1 0 (@C5 Int 0 0 (@Dj Int))))),(v4,(s0,()))))) fun v5=>
 ne (oH N ((v5.1.1,(0,())),(v5.2.1,(v5.2.2.1,())))) fun v6=>
 some (v6.2.2.1)
theorem Bu (s0:Arr Int 4)(b1:Arr Int 64)(k2:Arr Int 3):(runK C7 (Ev32 N) 400 101 [(.arr 4 (.int .u32)),(.arr 64 (.int .u8)),(.arr 3 (.int .u32))] [(.arr 4 (.int .u32))] (s0,b1,k2,())).run=iw N s0 b1 k2:=by kernel_rfl
noncomputable def Ev33:ET:=eFn (Ev32 N) 101 [(.arr 4 (.int .u32)),(.arr 64 (.int .u8)),(.arr 3 (.int .u32))] [(.arr 4 (.int .u32))] fun c=>iw N c.1 c.2.1 c.2.2.1
theorem agJ:OkE (Ev33 N):=aFn (an6 N) (by kernel_rfl) fun c=>Bu N c.1 c.2.1 c.2.2.1
noncomputable def qU:LI:=⟨35,0,[],⟨[(2,.lit (.box 0 0)),(3,.ty (.sl (.int .u8))),(4,.lit (.box 1 0)),(5,.lit (.box 2 0)),(6,.ty (.int .i64))],[.box 27 (.arr 16 (.int .u8)),.box 159 (.arr 4 (.int .u32)),.box 161 (.arr 3 (.int .u32))]⟩,[(.exit 0,⟨[(2,.lit (.box 0 0)),(4,.lit (.box 1 0))],[.box 27 (.arr 16 (.int .u8)),.box 159 (.arr 4 (.int .u32))]⟩)]⟩
noncomputable def mQ (X:(pz7×((Arr Int 16)×((Arr Int 4)×((Arr Int 3)×Unit))))→Option ((Unit×pz28)))(all3:List (Int))(i6:Int)(h0:Arr Int 16)(h1:Arr Int 4)(h2:Arr Int 3):Option ((Unit×pz28)):=
 bif (decide (i6<(all3.length:Int))) then
  ne (subI all3 i6 (gt .i64 (i6+64))) fun v7=>
  ne (@eW Int (64:Nat) v7) fun v8=>
  ne (iw N h1 v8 h2) fun v9=>
  (X ((all3,((gt .i64 (i6+64)),())),(h0,(v9,(h2,())))))
 else
  some (((),(h0,(h1,()))))
noncomputable def vA (c:(pz7×((Arr Int 16)×((Arr Int 4)×((Arr Int 3)×Unit))))):Option ((Unit×pz28)):=gl (fun X c=>mQ N X c.1.1 c.1.2.1 c.2.1 c.2.2.1 c.2.2.2.1) N c
theorem C4 (X:(pz7×((Arr Int 16)×((Arr Int 4)×((Arr Int 3)×Unit))))→Option ((Unit×pz28)))(all3:List (Int))(i6:Int)(h0:Arr Int 16)(h1:Arr Int 4)(h2:Arr Int 3):(aq C7 (Ev33 N) 400 [67] qU (ao C7 [67] 5) X ((all3,i6,()),(h0,h1,h2,()))).run=mQ N X all3 i6 h0 h1 h2:=by kernel_rfl
noncomputable def Ev34:(R:Type)→Env R:=Df (Ev33 N) [67] 0 5 (fun R=>lpK C7 qU (fun X c=>mQ N X c.1.1 c.1.2.1 c.2.1 c.2.2.1 c.2.2.2.1) N)
theorem anW (R:Type):EnvOK C7 (Ev34 N R):=Da (agJ N R) (by kernel_rfl) (aw (li:=qU) hmx (agJ N _) (by kernel_rfl) ab (fun X c=>C4 N X c.1.1 c.1.2.1 c.2.1 c.2.2.1 c.2.2.2.1) N)
noncomputable def Ev35:ET:=Dm (Ev34 N) [(102,0)]
theorem agI:OkE (Ev35 N):=fun R=>Dk (anW N R) [(102,0)]
noncomputable def kv:LI:=⟨25,0,[(3,5)],⟨[(2,.lit (.box 0 0)),(3,.lit (.own 1)),(8,.ty (.arr 4 (.int .u32))),(9,.ty (.int .i64))],[.box 27 (.arr 16 (.int .u8)),.own (.int .u8) 5]⟩,[(.exit 0,⟨[(2,.lit (.box 0 0)),(3,.lit (.own 1))],[.box 27 (.arr 16 (.int .u8)),.own (.int .u8) 5]⟩)]⟩
noncomputable def dW (X:(pz27×pz15)→Option ((Unit×pz15)))(x8:Arr Int 4)(x9:Int)(h0:Arr Int 16)(h1:List (Int)):Option ((Unit×pz15)):=
 bif (decide (x9<4)) then
  ne (getI x8.l x9) fun v6=>
  ne (cD N (gt .u64 v6) (4:Int) true) fun v7=>
  bif (ae ((Dc h1)+(Dc v7.1)) 1) then
   (X ((x8,((gt .i64 (x9+1)),())),(h0,((h1++v7.1),()))))
  else
   none
 else
  some (((),(h0,(h1,()))))
noncomputable def pp (c:(pz27×pz15)):Option ((Unit×pz15)):=gl (fun X c=>dW N X c.1.1 c.1.2.1 c.2.1 c.2.2.1) N c
theorem vv (X:(pz27×pz15)→Option ((Unit×pz15)))(x8:Arr Int 4)(x9:Int)(h0:Arr Int 16)(h1:List (Int)):(aq C7 (Ev35 N) 400 [102] kv (ao C7 [102] 3) X ((x8,x9,()),(h0,h1,()))).run=dW N X x8 x9 h0 h1:=by kernel_rfl
noncomputable def Ev36:(R:Type)→Env R:=Df (Ev35 N) [102] 0 3 (fun R=>lpK C7 kv (fun X c=>dW N X c.1.1 c.1.2.1 c.2.1 c.2.2.1) N)
theorem anV (R:Type):EnvOK C7 (Ev36 N R):=Da (agI N R) (by kernel_rfl) (aw (li:=kv) hmx (agI N _) (by kernel_rfl) ab (fun X c=>vv N X c.1.1 c.1.2.1 c.2.1 c.2.2.1) N)
noncomputable def mP (s0:Arr Int 4):Option (Arr Int 16):=
 ne (pp N ((s0,(0,())),(zc16,(([]:List Int),())))) fun v2=>
 ne (@eW Int (16:Nat) v2.2.2.1) fun v3=>
 some (v3)
theorem Bt (s0:Arr Int 4):(runK C7 (Ev36 N) 400 102 [(.arr 4 (.int .u32))] [(.arr 16 (.int .u8))] (s0,())).run=mP N s0:=by kernel_rfl
noncomputable def Ev37:ET:=eFn (Ev36 N) 102 [(.arr 4 (.int .u32))] [(.arr 16 (.int .u8))] fun c=>mP N c.1
theorem anU:OkE (Ev37 N):=aFn (anV N) (by kernel_rfl) fun c=>Bt N c.1
noncomputable def tv (parts0:List (List Int)):Option (Arr Int 16):=
 ne (gJ N ((parts0,(0,(parts0,((parts0.length:Int),(0,()))))),(zc16,()))) fun v2=>
 bif ((decide ((0:Int)≤(0:Int)∧(0:Int)≤v2.1.2.1))&&(ae (C8 v2.1.2.1) 1)) then
  ne (gI N ((v2.1.1,((v2.1.1.length:Int),(0,()))),(v2.2.1,((@Dh Int (C8 (0:Int)) (0:Int)),())))) fun v3=>
  ne (rH N (gt .u64 (v3.2.2.1.length:Int))) fun v4=>
  bif (ae ((Dc v3.2.2.1)+(Dc v4)) 1) then
   ne (@jy N) fun (v5:(Arr Int 3))=>
   ne (vA N (((v3.2.2.1++v4),(0,())),(v3.2.1,((@C5 Int 3 1732584193 (@C5 Int 2 4023233417 (@C5 Int 1 2562383102 (@C5 Int 0 271733878 (@Dj Int))))),(v5,()))))) fun v6=>
   ne (mP N v6.2.2.1) fun v7=>
   some (v7)
  else
   none
 else
  none
theorem ahB (parts0:List (List Int)):(runK C7 (Ev37 N) 400 67 [(.sl (.sl (.int .u8)))] [(.arr 16 (.int .u8))] (parts0,())).run=tv N parts0:=by kernel_rfl
noncomputable def Ev38:ET:=eFn (Ev37 N) 67 [(.sl (.sl (.int .u8)))] [(.arr 16 (.int .u8))] fun c=>tv N c.1
theorem anT:OkE (Ev38 N):=aFn (anU N) (by kernel_rfl) fun c=>ahB N c.1
noncomputable def Ev39:ET:=Dm (Ev38 N) [(76,0)]
theorem anS:OkE (Ev39 N):=fun R=>Dk (anT N R) [(76,0)]
noncomputable def fL (N:Nat)(i0:Int):Option Int:=
 bif (decide ((gt .i64 (@Di i0 (16:Int)))=(0:Int))) then
  some (i0)
 else
  bif (decide ((gt .i64 (@Di i0 (16:Int)))=(1:Int))) then
   some ((gt .i64 ((gt .i64 ((@Dd i0 (4:Int))*(4:Int)))+(@Dd (gt .i64 (@Di i0 (4:Int))) (4:Int)))))
  else
   ne (getI ([0,8,4,12,2,10,6,14,1,9,5,13,3,11,7,15]:List Int) (gt .i64 (i0-32))) fun v2=>
   some (v2)
theorem y4 (i0:Int):(runK C7 (Ev39 N) 400 114 [(.int .i64)] [(.int .i64)] (i0,())).run=fL N i0:=by kernel_rfl
noncomputable def Ev40:ET:=eFn (Ev39 N) 114 [(.int .i64)] [(.int .i64)] fun c=>fL N c.1
theorem anR:OkE (Ev40 N):=aFn (anS N) (by kernel_rfl) fun c=>y4 N c.1
noncomputable def A8 (N:Nat)(b0:Int)(c1:Int)(d2:Int):Option Int:=
 some ((bits .or .u32 (bits .or .u32 (bits .and .u32 b0 c1) (bits .and .u32 b0 d2)) (bits .and .u32 c1 d2)))
theorem CB (b0:Int)(c1:Int)(d2:Int):(runK C7 (Ev40 N) 400 145 [(.int .u32),(.int .u32),(.int .u32)] [(.int .u32)] (b0,c1,d2,())).run=A8 N b0 c1 d2:=by kernel_rfl
noncomputable def Ev41:ET:=eFn (Ev40 N) 145 [(.int .u32),(.int .u32),(.int .u32)] [(.int .u32)] fun c=>A8 N c.1 c.2.1 c.2.2.1
theorem anQ:OkE (Ev41 N):=aFn (anR N) (by kernel_rfl) fun c=>CB N c.1 c.2.1 c.2.2.1
noncomputable def mJ (N:Nat)(round0:Int)(b1:Int)(c2:Int)(d3:Int):Option Int:=
 bif (decide (round0=0)) then
  some ((bits .or .u32 (bits .and .u32 b1 c2) (bits .and .u32 (gt .u32 ((4294967295:Int)-b1)) d3)))
 else
  bif (decide (round0=1)) then
   some ((gt .u32 ((bits .or .u32 (bits .or .u32 (bits .and .u32 b1 c2) (bits .and .u32 b1 d3)) (bits .and .u32 c2 d3))+1518500249)))
  else
   some ((gt .u32 ((bits .xor .u32 (bits .xor .u32 b1 c2) d3)+1859775393)))
theorem Ba (round0:Int)(b1:Int)(c2:Int)(d3:Int):(runK C7 (Ev41 N) 400 116 [(.int .i64),(.int .u32),(.int .u32),(.int .u32)] [(.int .u32)] (round0,b1,c2,d3,())).run=mJ N round0 b1 c2 d3:=by kernel_rfl
noncomputable def Ev42:ET:=eFn (Ev41 N) 116 [(.int .i64),(.int .u32),(.int .u32),(.int .u32)] [(.int .u32)] fun c=>mJ N c.1 c.2.1 c.2.2.1 c.2.2.2.1
theorem anP:OkE (Ev42 N):=aFn (anQ N) (by kernel_rfl) fun c=>Ba N c.1 c.2.1 c.2.2.1 c.2.2.2.1
noncomputable def qi (N:Nat)(x0:Int)(n1:Int):Option Int:=
 bif (decide (0≤n1)) then
  bif (decide ((0:Int)≤(gt .i64 ((32:Int)-n1)))) then
   some ((bits .or .u32 (gt .u32 (x0*((2:Int) ^ (min (C8 n1) (C9 .u32))))) (@Db x0 ((2:Int) ^ (min (C8 (gt .i64 ((32:Int)-n1))) (C9 .u32))))))
  else
   none
 else
  none
theorem A9 (x0:Int)(n1:Int):(runK C7 (Ev42 N) 400 115 [(.int .u32),(.int .i64)] [(.int .u32)] (x0,n1,())).run=qi N x0 n1:=by kernel_rfl
noncomputable def Ev43:ET:=eFn (Ev42 N) 115 [(.int .u32),(.int .i64)] [(.int .u32)] fun c=>qi N c.1 c.2.1
theorem agH:OkE (Ev43 N):=aFn (anP N) (by kernel_rfl) fun c=>A9 N c.1 c.2.1
noncomputable def jm:LI:=⟨94,0,[],⟨[(2,.adr (.arr 4 (.int .u32))),(3,.adr (.arr 64 (.int .u8))),(4,.lit (.box 0 0)),(5,.ty (.sl (.sl (.int .i64)))),(6,.lit (.box 1 0)),(7,.ty (.int .i64))],[.box 138 (.arr 4 (.int .u32)),.box 138 (.arr 4 (.int .u32))]⟩,[(.exit 0,⟨[(2,.adr (.arr 4 (.int .u32))),(4,.lit (.box 0 0)),(6,.lit (.box 1 0))],[.box 138 (.arr 4 (.int .u32)),.box 138 (.arr 4 (.int .u32))]⟩)]⟩
noncomputable def ew (X:(((Arr Int 4)×((Arr Int 64)×pz14))×pz11)→Option ((((Arr Int 4)×Unit)×pz11)))(s2:Arr Int 4)(block3:Arr Int 64)(turns5:List (List Int))(i7:Int)(h0:Arr Int 4)(h1:Arr Int 4):Option ((((Arr Int 4)×Unit)×pz11)):=
 bif (decide (i7<48)) then
  ne (fL N i7) fun v8=>
  ne (getI block3.l (gt .i64 ((4:Int)*v8))) fun v9=>
  ne (getI block3.l (gt .i64 ((gt .i64 ((4:Int)*v8))+1))) fun v10=>
  ne (getI block3.l (gt .i64 ((gt .i64 ((4:Int)*v8))+2))) fun v11=>
  ne (getI block3.l (gt .i64 ((gt .i64 ((4:Int)*v8))+3))) fun v12=>
  ne (h1.l[C8 (0:Int)]?) fun (v13:Int)=>
  ne (h1.l[C8 (1:Int)]?) fun (v14:Int)=>
  ne (h1.l[C8 (2:Int)]?) fun (v15:Int)=>
  ne (h1.l[C8 (3:Int)]?) fun (v16:Int)=>
  ne (mJ N (gt .i64 (@Di i7 (16:Int))) v14 v15 v16) fun v17=>
  ne (getI turns5 (gt .i64 (@Di i7 (16:Int)))) fun v18=>
  ne (getI v18 (@Dd i7 (4:Int))) fun v19=>
  ne (qi N (gt .u32 ((gt .u32 (v13+v17))+(gt .u32 ((gt .u32 ((gt .u32 ((gt .u32 v9)+(gt .u32 ((gt .u32 v10)*(256:Int)))))+(gt .u32 ((gt .u32 v11)*(65536:Int)))))+(gt .u32 ((gt .u32 v12)*(16777216:Int))))))) v19) fun v20=>
  ne (h1.l[C8 (3:Int)]?) fun (v21:Int)=>
  ne (h1.l[C8 (1:Int)]?) fun (v22:Int)=>
  ne (h1.l[C8 (2:Int)]?) fun (v23:Int)=>
  (X ((s2,(block3,(turns5,((gt .i64 (i7+1)),())))),(h0,((@C5 Int (3:Nat) v21 (@C5 Int (2:Nat) v20 (@C5 Int (1:Nat) v22 (@C5 Int (0:Nat) v23 (@Dj Int))))),()))))
 else
  some (((s2,()),(h0,(h1,()))))
noncomputable def oF (c:(((Arr Int 4)×((Arr Int 64)×pz14))×pz11)):Option ((((Arr Int 4)×Unit)×pz11)):=gl (fun X c=>ew N X c.1.1 c.1.2.1 c.1.2.2.1 c.1.2.2.2.1 c.2.1 c.2.2.1) N c
theorem t8 (X:(((Arr Int 4)×((Arr Int 64)×pz14))×pz11)→Option ((((Arr Int 4)×Unit)×pz11)))(s2:Arr Int 4)(block3:Arr Int 64)(turns5:List (List Int))(i7:Int)(h0:Arr Int 4)(h1:Arr Int 4):(aq C7 (Ev43 N) 400 [76] jm (ao C7 [76] 4) X ((s2,block3,turns5,i7,()),(h0,h1,()))).run=ew N X s2 block3 turns5 i7 h0 h1:=by kernel_rfl
noncomputable def Ev44:(R:Type)→Env R:=Df (Ev43 N) [76] 0 4 (fun R=>lpK C7 jm (fun X c=>ew N X c.1.1 c.1.2.1 c.1.2.2.1 c.1.2.2.2.1 c.2.1 c.2.2.1) N)
theorem agG (R:Type):EnvOK C7 (Ev44 N R):=Da (agH N R) (by kernel_rfl) (aw (li:=jm) hmx (agH N _) (by kernel_rfl) ab (fun X c=>t8 N X c.1.1 c.1.2.1 c.1.2.2.1 c.1.2.2.2.1 c.2.1 c.2.2.1) N)
noncomputable def il:LI:=⟨94,0,[],⟨[(2,.adr (.arr 4 (.int .u32))),(4,.lit (.box 0 0)),(6,.lit (.box 1 0)),(11,.ty (.int .i64))],[.box 138 (.arr 4 (.int .u32)),.box 138 (.arr 4 (.int .u32))]⟩,[(.exit 2,⟨[(4,.lit (.box 0 0)),(6,.lit (.box 1 0))],[.box 138 (.arr 4 (.int .u32)),.box 138 (.arr 4 (.int .u32))]⟩)]⟩
noncomputable def dA (N:Nat)(X:(pz27×pz11)→Option ((Unit×pz11)))(s2:Arr Int 4)(i11:Int)(h0:Arr Int 4)(h1:Arr Int 4):Option ((Unit×pz11)):=
 bif (decide (i11<4)) then
  bif (decide ((0:Int)≤i11∧i11<((4:Nat):Int))) then
   ne (h1.l[C8 i11]?) fun (v6:Int)=>
   ne (getI s2.l i11) fun v7=>
   bif (decide ((0:Int)≤i11∧i11<((4:Nat):Int))) then
    ne (h1.l[C8 i11]?) fun (v8:Int)=>
    (X ((s2,((gt .i64 (i11+1)),())),(h0,((h1.set (C8 i11) (gt .u32 (v6+v7))),()))))
   else
    none
  else
   none
 else
  some (((),(h0,(h1,()))))
noncomputable def mK (c:(pz27×pz11)):Option ((Unit×pz11)):=gl (fun X c=>dA N X c.1.1 c.1.2.1 c.2.1 c.2.2.1) N c
theorem sK (X:(pz27×pz11)→Option ((Unit×pz11)))(s2:Arr Int 4)(i11:Int)(h0:Arr Int 4)(h1:Arr Int 4):(aq C7 (Ev44 N) 400 [76] il (ao C7 [76] 11) X ((s2,i11,()),(h0,h1,()))).run=dA N X s2 i11 h0 h1:=by kernel_rfl
noncomputable def Ev45:(R:Type)→Env R:=Df (Ev44 N) [76] 0 11 (fun R=>lpK C7 il (fun X c=>dA N X c.1.1 c.1.2.1 c.2.1 c.2.2.1) N)
theorem anO (R:Type):EnvOK C7 (Ev45 N R):=Da (agG N R) (by kernel_rfl) (aw (li:=il) hmx (agG N _) (by kernel_rfl) ab (fun X c=>sK N X c.1.1 c.1.2.1 c.2.1 c.2.2.1) N)
noncomputable def ko (s0:Arr Int 4)(block1:Arr Int 64):Option (Arr Int 4):=
 ne (oF N ((s0,(block1,(([([3,7,11,19]:List Int),([3,5,9,13]:List Int),([3,9,11,15]:List Int)]:List ((List Int))),(0,())))),((@C5 Int 3 0 (@C5 Int 2 0 (@C5 Int 1 0 (@C5 Int 0 0 (@Dj Int))))),(s0,())))) fun v3=>
 ne (mK N ((v3.1.1,(0,())),(v3.2.1,(v3.2.2.1,())))) fun v4=>
 some (v4.2.2.1)
theorem y8 (s0:Arr Int 4)(block1:Arr Int 64):(runK C7 (Ev45 N) 400 76 [(.arr 4 (.int .u32)),(.arr 64 (.int .u8))] [(.arr 4 (.int .u32))] (s0,block1,())).run=ko N s0 block1:=by kernel_rfl
noncomputable def Ev46:ET:=eFn (Ev45 N) 76 [(.arr 4 (.int .u32)),(.arr 64 (.int .u8))] [(.arr 4 (.int .u32))] fun c=>ko N c.1 c.2.1
theorem anN:OkE (Ev46 N):=aFn (anO N) (by kernel_rfl) fun c=>y8 N c.1 c.2.1
noncomputable def Ev47:ET:=Env.addMv (Ev46 N) [(74,1),(74,8)]
theorem agF:OkE (Ev47 N):=fun R=>EnvOK.addMv (anN N R) [(74,1),(74,8)]
noncomputable def kj:LI:=⟨32,0,[],⟨[(0,.ty (.int .u64)),(3,.lit (.own 0))],[.own (.int .u8) 5]⟩,[(.exit 0,⟨[(0,.ty (.int .u64)),(3,.lit (.own 0))],[.own (.int .u8) 5]⟩)]⟩
noncomputable def cC (N:Nat)(X:pz22→Option (pz22))(n0:Int)(h0:List (Int)):Option (pz22):=
 bif (!(decide ((@Dd (gt .u64 (n0+(gt .u64 (h0.length:Int)))) (64:Int))=(56:Int)))) then
  bif (ae ((Dc h0)+(Dc ([0]:List Int))) 1) then
   (X ((n0,()),((h0++([0]:List Int)),())))
  else
   none
 else
  some (((n0,()),(h0,())))
noncomputable def ve (c:pz22):Option (pz22):=gl (fun X c=>cC N X c.1.1 c.2.1) N c
theorem vd (X:pz22→Option (pz22))(n0:Int)(h0:List (Int)):(aq C7 (Ev47 N) 400 [74] kj (ao C7 [74] 2) X ((n0,()),(h0,()))).run=cC N X n0 h0:=by kernel_rfl
noncomputable def Ev48:(R:Type)→Env R:=Df (Ev47 N) [74] 0 2 (fun R=>lpK C7 kj (fun X c=>cC N X c.1.1 c.2.1) N)
theorem agE (R:Type):EnvOK C7 (Ev48 N R):=Da (agF N R) (by kernel_rfl) (aw (li:=kj) hmx (agF N _) (by kernel_rfl) ab (fun X c=>vd N X c.1.1 c.2.1) N)
noncomputable def ki:LI:=⟨32,0,[],⟨[(3,.lit (.own 0)),(4,.ty (.int .u64)),(5,.ty (.int .i64))],[.own (.int .u8) 5]⟩,[(.exit 2,⟨[(3,.lit (.own 0))],[.own (.int .u8) 5]⟩)]⟩
noncomputable def bS (N:Nat)(X:pz21→Option pz3)(bits4:Int)(i5:Int)(h0:List (Int)):Option pz3:=
 bif (decide (i5<8)) then
  bif (ae ((Dc h0)+(Dc ([(gt .u8 (@Dd bits4 (256:Int)))]:List (Int)))) 1) then
   (X (((gt .u64 (@Di bits4 (256:Int))),((gt .i64 (i5+1)),())),((h0++([(gt .u8 (@Dd bits4 (256:Int)))]:List (Int))),())))
  else
   none
 else
  some (((),(h0,())))
noncomputable def kg (c:pz21):Option pz3:=gl (fun X c=>bS N X c.1.1 c.1.2.1 c.2.1) N c
theorem vc (X:pz21→Option pz3)(bits4:Int)(i5:Int)(h0:List (Int)):(aq C7 (Ev48 N) 400 [74] ki (ao C7 [74] 6) X ((bits4,i5,()),(h0,()))).run=bS N X bits4 i5 h0:=by kernel_rfl
noncomputable def Ev49:(R:Type)→Env R:=Df (Ev48 N) [74] 0 6 (fun R=>lpK C7 ki (fun X c=>bS N X c.1.1 c.1.2.1 c.2.1) N)
theorem anM (R:Type):EnvOK C7 (Ev49 N R):=Da (agE N R) (by kernel_rfl) (aw (li:=ki) hmx (agE N _) (by kernel_rfl) ab (fun X c=>vc N X c.1.1 c.1.2.1 c.2.1) N)
noncomputable def fa (n0:Int):Option (List Int):=
 ne (ve N ((n0,()),(([128]:List Int),()))) fun v2=>
 ne (kg N (((gt .u64 ((8:Int)*v2.1.1)),(0,())),(v2.2.1,()))) fun v3=>
 some (v3.2.1)
theorem Bb (n0:Int):(runK C7 (Ev49 N) 400 74 [(.int .u64)] [(.sl (.int .u8))] (n0,())).run=fa N n0:=by kernel_rfl
noncomputable def Ev50:ET:=eFn (Ev49 N) 74 [(.int .u64)] [(.sl (.int .u8))] fun c=>fa N c.1
theorem anL:OkE (Ev50 N):=aFn (anM N) (by kernel_rfl) fun c=>Bb N c.1
noncomputable def vf (N:Nat):Option (Arr Int 4):=
 some ((@C5 Int 3 1732584193 (@C5 Int 2 4023233417 (@C5 Int 1 2562383102 (@C5 Int 0 271733878 (@Dj Int))))))
theorem y7:(runK C7 (Ev50 N) 400 75 [] [(.arr 4 (.int .u32))] ()).run=vf N:=by kernel_rfl
noncomputable def Ev51:ET:=eFn (Ev50 N) 75 [] [(.arr 4 (.int .u32))] fun c=>vf N
theorem agD:OkE (Ev51 N):=aFn (anL N) (by kernel_rfl) fun c=>y7 N
noncomputable def nH:LI:=⟨55,0,[],⟨[(2,.lit (.box 0 0)),(3,.lit (.own 1)),(4,.lit (.box 2 0)),(5,.ty (.int .i64)),(6,.lit (.box 3 0)),(7,.ty (.int .i64))],[.box 27 (.arr 16 (.int .u8)),.own (.int .u8) 5,.box 138 (.arr 4 (.int .u32)),.box 140 (.arr 64 (.int .u8))]⟩,[(.exit 2,⟨[(2,.lit (.box 0 0)),(3,.lit (.own 1)),(4,.lit (.box 2 0)),(5,.ty (.int .i64)),(6,.lit (.box 3 0))],[.box 27 (.arr 16 (.int .u8)),.own (.int .u8) 5,.box 138 (.arr 4 (.int .u32)),.box 140 (.arr 64 (.int .u8))]⟩)]⟩
noncomputable def ig (N:Nat)(X:((Int×(Int×Unit))×pz25)→Option (((Int×Unit)×pz25)))(x5:Int)(i7:Int)(h0:Arr Int 16)(h1:List (Int))(h2:Arr Int 4)(h3:Arr Int 64):Option (((Int×Unit)×pz25)):=
 bif (decide (i7<64)) then
  bif (decide ((0:Int)≤(gt .i64 (x5+i7))∧(gt .i64 (x5+i7))<(h1.length:Int))) then
   ne (h1[C8 (gt .i64 (x5+i7))]?) fun (v8:Int)=>
   bif (decide ((0:Int)≤i7∧i7<((64:Nat):Int))) then
    ne (h3.l[C8 i7]?) fun (v9:Int)=>
    (X ((x5,((gt .i64 (i7+1)),())),(h0,(h1,(h2,((h3.set (C8 i7) v8),()))))))
   else
    none
  else
   none
 else
  some (((x5,()),(h0,(h1,(h2,(h3,()))))))
noncomputable def rA (c:((Int×(Int×Unit))×pz25)):Option (((Int×Unit)×pz25)):=gl (fun X c=>ig N X c.1.1 c.1.2.1 c.2.1 c.2.2.1 c.2.2.2.1 c.2.2.2.2.1) N c
theorem y5 (X:((Int×(Int×Unit))×pz25)→Option (((Int×Unit)×pz25)))(x5:Int)(i7:Int)(h0:Arr Int 16)(h1:List (Int))(h2:Arr Int 4)(h3:Arr Int 64):(aq C7 (Ev51 N) 400 [46] nH (ao C7 [46] 8) X ((x5,i7,()),(h0,h1,h2,h3,()))).run=ig N X x5 i7 h0 h1 h2 h3:=by kernel_rfl
noncomputable def Ev52:(R:Type)→Env R:=Df (Ev51 N) [46] 0 8 (fun R=>lpK C7 nH (fun X c=>ig N X c.1.1 c.1.2.1 c.2.1 c.2.2.1 c.2.2.2.1 c.2.2.2.2.1) N)
theorem agC (R:Type):EnvOK C7 (Ev52 N R):=Da (agD N R) (by kernel_rfl) (aw (li:=nH) hmx (agD N _) (by kernel_rfl) ab (fun X c=>y5 N X c.1.1 c.1.2.1 c.2.1 c.2.2.1 c.2.2.2.1 c.2.2.2.2.1) N)
noncomputable def nJ:LI:=⟨55,0,[],⟨[(2,.lit (.box 0 0)),(3,.lit (.own 1)),(4,.lit (.box 2 0)),(5,.ty (.int .i64))],[.box 27 (.arr 16 (.int .u8)),.own (.int .u8) 5,.box 138 (.arr 4 (.int .u32))]⟩,[(.exit 0,⟨[(2,.lit (.box 0 0)),(4,.lit (.box 1 0))],[.box 27 (.arr 16 (.int .u8)),.box 138 (.arr 4 (.int .u32))]⟩)]⟩
noncomputable def ij (X:((Int×Unit)×((Arr Int 16)×((List Int)×((Arr Int 4)×Unit))))→Option ((Unit×pz28)))(x5:Int)(h0:Arr Int 16)(h1:List (Int))(h2:Arr Int 4):Option ((Unit×pz28)):=
 bif (decide (x5<(h1.length:Int))) then
  ne (rA N ((x5,(0,())),(h0,(h1,(h2,(zc64,())))))) fun v6=>
  ne (ko N v6.2.2.2.1 v6.2.2.2.2.1) fun v7=>
  (X (((gt .i64 (v6.1.1+64)),()),(v6.2.1,(v6.2.2.1,(v7,())))))
 else
  some (((),(h0,(h2,()))))
noncomputable def rB (c:((Int×Unit)×((Arr Int 16)×((List Int)×((Arr Int 4)×Unit))))):Option ((Unit×pz28)):=gl (fun X c=>ij N X c.1.1 c.2.1 c.2.2.1 c.2.2.2.1) N c
theorem y6 (X:((Int×Unit)×((Arr Int 16)×((List Int)×((Arr Int 4)×Unit))))→Option ((Unit×pz28)))(x5:Int)(h0:Arr Int 16)(h1:List (Int))(h2:Arr Int 4):(aq C7 (Ev52 N) 400 [46] nJ (ao C7 [46] 4) X ((x5,()),(h0,h1,h2,()))).run=ij N X x5 h0 h1 h2:=by kernel_rfl
noncomputable def Ev53:(R:Type)→Env R:=Df (Ev52 N) [46] 0 4 (fun R=>lpK C7 nJ (fun X c=>ij N X c.1.1 c.2.1 c.2.2.1 c.2.2.2.1) N)
theorem agB (R:Type):EnvOK C7 (Ev53 N R):=Da (agC N R) (by kernel_rfl) (aw (li:=nJ) hmx (agC N _) (by kernel_rfl) ab (fun X c=>y6 N X c.1.1 c.2.1 c.2.2.1 c.2.2.2.1) N)
noncomputable def lz:LI:=⟨55,0,[],⟨[(2,.lit (.box 0 0)),(4,.lit (.box 1 0)),(8,.lit (.box 2 0)),(9,.ty (.int .i64))],[.box 27 (.arr 16 (.int .u8)),.box 138 (.arr 4 (.int .u32)),.box 27 (.arr 16 (.int .u8))]⟩,[(.exit 4,⟨[(2,.lit (.box 0 0)),(8,.lit (.box 1 0))],[.box 27 (.arr 16 (.int .u8)),.box 27 (.arr 16 (.int .u8))]⟩)]⟩
noncomputable def fZ (N:Nat)(X:((Int×Unit)×((Arr Int 16)×((Arr Int 4)×((Arr Int 16)×Unit))))→Option ((Unit×pz12)))(i9:Int)(h0:Arr Int 16)(h1:Arr Int 4)(h2:Arr Int 16):Option ((Unit×pz12)):=
 bif (decide (i9<16)) then
  bif (decide ((0:Int)≤(gt .i64 (@Di i9 (4:Int)))∧(gt .i64 (@Di i9 (4:Int)))<((4:Nat):Int))) then
   ne (h1.l[C8 (gt .i64 (@Di i9 (4:Int)))]?) fun (v6:Int)=>
   bif (decide ((0:Int)≤(gt .i64 ((8:Int)*(@Dd i9 (4:Int)))))) then
    bif (decide ((0:Int)≤i9∧i9<((16:Nat):Int))) then
     ne (h2.l[C8 i9]?) fun (v7:Int)=>
     (X (((gt .i64 (i9+1)),()),(h0,(h1,((h2.set (C8 i9) (gt .u8 (@Db v6 ((2:Int) ^ (min (C8 (gt .i64 ((8:Int)*(@Dd i9 (4:Int))))) (C9 .u32)))))),())))))
    else
     none
   else
    none
  else
   none
 else
  some (((),(h0,(h2,()))))
noncomputable def qC (c:((Int×Unit)×((Arr Int 16)×((Arr Int 4)×((Arr Int 16)×Unit))))):Option ((Unit×pz12)):=gl (fun X c=>fZ N X c.1.1 c.2.1 c.2.2.1 c.2.2.2.1) N c
theorem wI (X:((Int×Unit)×((Arr Int 16)×((Arr Int 4)×((Arr Int 16)×Unit))))→Option ((Unit×pz12)))(i9:Int)(h0:Arr Int 16)(h1:Arr Int 4)(h2:Arr Int 16):(aq C7 (Ev53 N) 400 [46] lz (ao C7 [46] 14) X ((i9,()),(h0,h1,h2,()))).run=fZ N X i9 h0 h1 h2:=by kernel_rfl
noncomputable def Ev54:(R:Type)→Env R:=Df (Ev53 N) [46] 0 14 (fun R=>lpK C7 lz (fun X c=>fZ N X c.1.1 c.2.1 c.2.2.1 c.2.2.2.1) N)
theorem anK (R:Type):EnvOK C7 (Ev54 N R):=Da (agB N R) (by kernel_rfl) (aw (li:=lz) hmx (agB N _) (by kernel_rfl) ab (fun X c=>wI N X c.1.1 c.2.1 c.2.2.1 c.2.2.2.1) N)
noncomputable def k9 (b0:List (Int)):Option (Arr Int 16):=
 bif (ae (Dc b0) 1) then
  ne (fa N (gt .u64 (b0.length:Int))) fun v2=>
  bif (ae ((Dc b0)+(Dc v2)) 1) then
   ne (rB N ((0,()),(zc16,((b0++v2),((@C5 Int 3 1732584193 (@C5 Int 2 4023233417 (@C5 Int 1 2562383102 (@C5 Int 0 271733878 (@Dj Int))))),()))))) fun v3=>
   ne (qC N ((0,()),(v3.2.1,(v3.2.2.1,(zc16,()))))) fun v4=>
   some (v4.2.2.1)
  else
   none
 else
  none
theorem ac0 (b0:List (Int)):(runK C7 (Ev54 N) 400 46 [(.sl (.int .u8))] [(.arr 16 (.int .u8))] (b0,())).run=k9 N b0:=by kernel_rfl
noncomputable def Ev55:ET:=eFn (Ev54 N) 46 [(.sl (.int .u8))] [(.arr 16 (.int .u8))] fun c=>k9 N c.1
theorem agA:OkE (Ev55 N):=aFn (anK N) (by kernel_rfl) fun c=>ac0 N c.1
noncomputable def cT:LI:=⟨33,1,[],⟨[(0,.ty (.sl (.sl (.int .u8)))),(3,.ty (.int .i64)),(9,.ty (.sl (.sl (.int .u8)))),(10,.ty (.int .i64)),(11,.ty (.int .i64))],[.dead]⟩,[(.exit 0,⟨[(0,.ty (.sl (.sl (.int .u8)))),(3,.ty (.int .i64))],[.dead]⟩)]⟩
noncomputable def dl (N:Nat)(X:(pz24×Unit)→Option ((pz14×Unit)))(parts0:List (List Int))(size3:Int)(x9:List (List Int))(x10:Int)(x11:Int):Option ((pz14×Unit)):=
 bif (decide (x11<x10)) then
  ne (getI x9 x11) fun v7=>
  (X ((parts0,((gt .i64 (size3+(v7.length:Int))),(x9,(x10,((gt .i64 (x11+1)),()))))),()))
 else
  some (((parts0,(size3,())),()))
noncomputable def kX (c:(pz24×Unit)):Option ((pz14×Unit)):=gl (fun X c=>dl N X c.1.1 c.1.2.1 c.1.2.2.1 c.1.2.2.2.1 c.1.2.2.2.2.1) N c
theorem kW (X:(pz24×Unit)→Option ((pz14×Unit)))(parts0:List (List Int))(size3:Int)(x9:List (List Int))(x10:Int)(x11:Int):(aq C7 (Ev55 N) 400 [44,3,107] cT (ao C7 [44,3,107] 3) X ((parts0,size3,x9,x10,x11,()),())).run=dl N X parts0 size3 x9 x10 x11:=by kernel_rfl
noncomputable def Ev56:(R:Type)→Env R:=Df (Ev55 N) [44,3,107] 1 3 (fun R=>lpK C7 cT (fun X c=>dl N X c.1.1 c.1.2.1 c.1.2.2.1 c.1.2.2.2.1 c.1.2.2.2.2.1) N)
theorem agz (R:Type):EnvOK C7 (Ev56 N R):=Da (agA N R) (by kernel_rfl) (aw (li:=cT) hmx (agA N _) (by kernel_rfl) ab (fun X c=>kW N X c.1.1 c.1.2.1 c.1.2.2.1 c.1.2.2.2.1 c.1.2.2.2.2.1) N)
noncomputable def cS:LI:=⟨33,1,[],⟨[(6,.lit (.own 1)),(22,.ty (.sl (.sl (.int .u8)))),(23,.ty (.int .i64)),(24,.ty (.int .i64))],[.dead,.own (.int .u8) 5]⟩,[(.exit 2,⟨[(6,.lit (.own 1))],[.dead,.own (.int .u8) 5]⟩)]⟩
noncomputable def dk (N:Nat)(X:(pz9×((List Int)×Unit))→Option pz3)(x22:List (List Int))(x23:Int)(x24:Int)(h0:List (Int)):Option pz3:=
 bif (decide (x24<x23)) then
  ne (getI x22 x24) fun v6=>
  bif (ae ((Dc h0)+(Dc v6)) 1) then
   (X ((x22,(x23,((gt .i64 (x24+1)),()))),((h0++v6),())))
  else
   none
 else
  some (((),(h0,())))
noncomputable def kV (c:(pz9×((List Int)×Unit))):Option pz3:=gl (fun X c=>dk N X c.1.1 c.1.2.1 c.1.2.2.1 c.2.1) N c
theorem kU (X:(pz9×((List Int)×Unit))→Option pz3)(x22:List (List Int))(x23:Int)(x24:Int)(h0:List (Int)):(aq C7 (Ev56 N) 400 [44,3,107] cS (ao C7 [44,3,107] 9) X ((x22,x23,x24,()),(h0,()))).run=dk N X x22 x23 x24 h0:=by kernel_rfl
noncomputable def Ev57:(R:Type)→Env R:=Df (Ev56 N) [44,3,107] 1 9 (fun R=>lpK C7 cS (fun X c=>dk N X c.1.1 c.1.2.1 c.1.2.2.1 c.2.1) N)
theorem anJ (R:Type):EnvOK C7 (Ev57 N R):=Da (agz N R) (by kernel_rfl) (aw (li:=cS) hmx (agz N _) (by kernel_rfl) ab (fun X c=>kU N X c.1.1 c.1.2.1 c.1.2.2.1 c.2.1) N)
noncomputable def oS (n0:Int):Option (List Int):=
 ne (cD N (gt .u64 ((8:Int)*n0)) (8:Int) false) fun v2=>
 bif ((decide ((0:Int)≤(@Dd (gt .u64 ((119:Int)-(@Dd n0 (64:Int)))) (64:Int))∧(@Dd (gt .u64 ((119:Int)-(@Dd n0 (64:Int)))) (64:Int))≤(@Dd (gt .u64 ((119:Int)-(@Dd n0 (64:Int)))) (64:Int))))&&(ae (C8 (@Dd (gt .u64 ((119:Int)-(@Dd n0 (64:Int)))) (64:Int))) 1)) then
  ne (kX N ((([([128]:List Int),(@Dh Int (C8 (@Dd (gt .u64 ((119:Int)-(@Dd n0 (64:Int)))) (64:Int))) (0:Int)),v2.1]:List ((List Int))),(0,(([([128]:List Int),(@Dh Int (C8 (@Dd (gt .u64 ((119:Int)-(@Dd n0 (64:Int)))) (64:Int))) (0:Int)),v2.1]:List ((List Int))),((((Dc ([([128]:List Int),(@Dh Int (C8 (@Dd (gt .u64 ((119:Int)-(@Dd n0 (64:Int)))) (64:Int))) (0:Int)),v2.1]:List ((List Int)))):Nat):Int),(0,()))))),())) fun v3=>
  bif ((decide ((0:Int)≤(0:Int)∧(0:Int)≤v3.1.2.1))&&(ae (C8 v3.1.2.1) 1)) then
   ne (kV N ((v3.1.1,((v3.1.1.length:Int),(0,()))),((@Dh Int (C8 (0:Int)) (0:Int)),()))) fun v4=>
   some (v4.2.1)
  else
   none
 else
  none
theorem Cp (n0:Int):(runK C7 (Ev57 N) 400 107 [(.int .u64)] [(.sl (.int .u8))] (n0,())).run=oS N n0:=by kernel_rfl
noncomputable def Ev58:ET:=eFn (Ev57 N) 107 [(.int .u64)] [(.sl (.int .u8))] fun c=>oS N c.1
theorem anI:OkE (Ev58 N):=aFn (anJ N) (by kernel_rfl) fun c=>Cp N c.1
noncomputable def xw (N:Nat):Option (Arr Int 5):=
 some ((@C5 Int 4 1732584193 (@C5 Int 3 4023233417 (@C5 Int 2 2562383102 (@C5 Int 1 271733878 (@C5 Int 0 3285377520 (@Dj Int)))))))
theorem AD:(runK C7 (Ev58 N) 400 108 [] [(.arr 5 (.int .u32))] ()).run=xw N:=by kernel_rfl
noncomputable def Ev59:ET:=eFn (Ev58 N) 108 [] [(.arr 5 (.int .u32))] fun c=>xw N
theorem agy:OkE (Ev59 N):=aFn (anI N) (by kernel_rfl) fun c=>AD N
noncomputable def dp:LI:=⟨33,1,[],⟨[(0,.ty (.sl (.sl (.int .u8)))),(3,.ty (.int .i64)),(9,.ty (.sl (.sl (.int .u8)))),(10,.ty (.int .i64)),(11,.ty (.int .i64))],[.box 100 (.arr 20 (.int .u8))]⟩,[(.exit 0,⟨[(0,.ty (.sl (.sl (.int .u8)))),(3,.ty (.int .i64))],[.box 100 (.arr 20 (.int .u8))]⟩)]⟩
noncomputable def bE (N:Nat)(X:(pz24×((Arr Int 20)×Unit))→Option ((pz14×((Arr Int 20)×Unit))))(parts0:List (List Int))(size3:Int)(x9:List (List Int))(x10:Int)(x11:Int)(h0:Arr Int 20):Option ((pz14×((Arr Int 20)×Unit))):=
 bif (decide (x11<x10)) then
  ne (getI x9 x11) fun v8=>
  (X ((parts0,((gt .i64 (size3+(v8.length:Int))),(x9,(x10,((gt .i64 (x11+1)),()))))),(h0,())))
 else
  some (((parts0,(size3,())),(h0,())))
noncomputable def fR (c:(pz24×((Arr Int 20)×Unit))):Option ((pz14×((Arr Int 20)×Unit))):=gl (fun X c=>bE N X c.1.1 c.1.2.1 c.1.2.2.1 c.1.2.2.2.1 c.1.2.2.2.2.1 c.2.1) N c
theorem mj (X:(pz24×((Arr Int 20)×Unit))→Option ((pz14×((Arr Int 20)×Unit))))(parts0:List (List Int))(size3:Int)(x9:List (List Int))(x10:Int)(x11:Int)(h0:Arr Int 20):(aq C7 (Ev59 N) 400 [44,1,70] dp (ao C7 [44,1,70] 3) X ((parts0,size3,x9,x10,x11,()),(h0,()))).run=bE N X parts0 size3 x9 x10 x11 h0:=by kernel_rfl
noncomputable def Ev60:(R:Type)→Env R:=Df (Ev59 N) [44,1,70] 1 3 (fun R=>lpK C7 dp (fun X c=>bE N X c.1.1 c.1.2.1 c.1.2.2.1 c.1.2.2.2.1 c.1.2.2.2.2.1 c.2.1) N)
theorem agx (R:Type):EnvOK C7 (Ev60 N R):=Da (agy N R) (by kernel_rfl) (aw (li:=dp) hmx (agy N _) (by kernel_rfl) ab (fun X c=>mj N X c.1.1 c.1.2.1 c.1.2.2.1 c.1.2.2.2.1 c.1.2.2.2.2.1 c.2.1) N)
noncomputable def dn:LI:=⟨33,1,[],⟨[(6,.lit (.own 1)),(22,.ty (.sl (.sl (.int .u8)))),(23,.ty (.int .i64)),(24,.ty (.int .i64))],[.box 100 (.arr 20 (.int .u8)),.own (.int .u8) 5]⟩,[(.exit 2,⟨[(6,.lit (.own 1))],[.box 100 (.arr 20 (.int .u8)),.own (.int .u8) 5]⟩)]⟩
noncomputable def bD (N:Nat)(X:(pz9×pz23)→Option ((Unit×pz23)))(x22:List (List Int))(x23:Int)(x24:Int)(h0:Arr Int 20)(h1:List (Int)):Option ((Unit×pz23)):=
 bif (decide (x24<x23)) then
  ne (getI x22 x24) fun v7=>
  bif (ae ((Dc h1)+(Dc v7)) 1) then
   (X ((x22,(x23,((gt .i64 (x24+1)),()))),(h0,((h1++v7),()))))
  else
   none
 else
  some (((),(h0,(h1,()))))
noncomputable def fQ (c:(pz9×pz23)):Option ((Unit×pz23)):=gl (fun X c=>bD N X c.1.1 c.1.2.1 c.1.2.2.1 c.2.1 c.2.2.1) N c
theorem mi (X:(pz9×pz23)→Option ((Unit×pz23)))(x22:List (List Int))(x23:Int)(x24:Int)(h0:Arr Int 20)(h1:List (Int)):(aq C7 (Ev60 N) 400 [44,1,70] dn (ao C7 [44,1,70] 9) X ((x22,x23,x24,()),(h0,h1,()))).run=bD N X x22 x23 x24 h0 h1:=by kernel_rfl
noncomputable def Ev61:(R:Type)→Env R:=Df (Ev60 N) [44,1,70] 1 9 (fun R=>lpK C7 dn (fun X c=>bD N X c.1.1 c.1.2.1 c.1.2.2.1 c.2.1 c.2.2.1) N)
theorem anH (R:Type):EnvOK C7 (Ev61 N R):=Da (agx N R) (by kernel_rfl) (aw (li:=dn) hmx (agx N _) (by kernel_rfl) ab (fun X c=>mi N X c.1.1 c.1.2.1 c.1.2.2.1 c.2.1 c.2.2.1) N)
noncomputable def me (n0:Int):Option Int:=
 ne (qe N n0 (2:Int) (30:Int)) fun v2=>
 some ((gt .u32 v2.1))
theorem Co (n0:Int):(runK C7 (Ev61 N) 400 140 [(.int .i64)] [(.int .u32)] (n0,())).run=me N n0:=by kernel_rfl
noncomputable def Ev62:ET:=eFn (Ev61 N) 140 [(.int .i64)] [(.int .u32)] fun c=>me N c.1
theorem anG:OkE (Ev62 N):=aFn (anH N) (by kernel_rfl) fun c=>Co N c.1
noncomputable def iF:Option (Arr Int 4):=
 ne (me N (2:Int)) fun v1=>
 ne (me N (3:Int)) fun v2=>
 ne (me N (5:Int)) fun v3=>
 ne (me N (10:Int)) fun v4=>
 some ((@C5 Int (3:Nat) v1 (@C5 Int (2:Nat) v2 (@C5 Int (1:Nat) v3 (@C5 Int (0:Nat) v4 (@Dj Int))))))
theorem tL:(runK C7 (Ev62 N) 400 109 [] [(.arr 4 (.int .u32))] ()).run=iF N:=by kernel_rfl
noncomputable def Ev63:ET:=eFn (Ev62 N) 109 [] [(.arr 4 (.int .u32))] fun c=>iF N
theorem anF:OkE (Ev63 N):=aFn (anG N) (by kernel_rfl) fun c=>tL N
noncomputable def Ev64:ET:=Dm (Ev63 N) [(110,0)]
theorem anE:OkE (Ev64 N):=fun R=>Dk (anF N R) [(110,0)]
noncomputable def Ev65:ET:=Dm (Ev64 N) [(141,0)]
theorem agw:OkE (Ev65 N):=fun R=>Dk (anE N R) [(141,0)]
noncomputable def jO:LI:=⟨50,0,[],⟨[(1,.adr (.arr 64 (.int .u8))),(2,.lit (.box 0 0)),(3,.lit (.box 1 0)),(7,.ty (.int .i64))],[.box 185 (.arr 80 (.int .u32)),.box 185 (.arr 80 (.int .u32))]⟩,[(.exit 0,⟨[(2,.lit (.box 0 0)),(3,.lit (.box 1 0))],[.box 185 (.arr 80 (.int .u32)),.box 185 (.arr 80 (.int .u32))]⟩)]⟩
noncomputable def dO (X:(((Arr Int 64)×(Int×Unit))×((Arr Int 80)×((Arr Int 80)×Unit)))→Option ((Unit×((Arr Int 80)×((Arr Int 80)×Unit)))))(b1:Arr Int 64)(x7:Int)(h0:Arr Int 80)(h1:Arr Int 80):Option ((Unit×((Arr Int 80)×((Arr Int 80)×Unit)))):=
 bif (decide (x7<80)) then
  bif (decide (x7<16)) then
   ne (subI b1.l (gt .i64 ((4:Int)*x7)) (gt .i64 ((gt .i64 ((4:Int)*x7))+4))) fun v6=>
   ne (iG N v6 false) fun v7=>
   bif (decide ((0:Int)≤x7∧x7<((80:Nat):Int))) then
    ne (h1.l[C8 x7]?) fun (v8:Int)=>
    (X ((b1,((gt .i64 (x7+1)),())),(h0,((h1.set (C8 x7) (gt .u32 v7.1)),()))))
   else
    none
  else
   bif (decide ((0:Int)≤(gt .i64 (x7-3))∧(gt .i64 (x7-3))<((80:Nat):Int))) then
    ne (h1.l[C8 (gt .i64 (x7-3))]?) fun (v6:Int)=>
    bif (decide ((0:Int)≤(gt .i64 (x7-8))∧(gt .i64 (x7-8))<((80:Nat):Int))) then
     ne (h1.l[C8 (gt .i64 (x7-8))]?) fun (v7:Int)=>
     bif (decide ((0:Int)≤(gt .i64 (x7-14))∧(gt .i64 (x7-14))<((80:Nat):Int))) then
      ne (h1.l[C8 (gt .i64 (x7-14))]?) fun (v8:Int)=>
      bif (decide ((0:Int)≤(gt .i64 (x7-16))∧(gt .i64 (x7-16))<((80:Nat):Int))) then
       ne (h1.l[C8 (gt .i64 (x7-16))]?) fun (v9:Int)=>
       bif (decide ((0:Int)≤x7∧x7<((80:Nat):Int))) then
        ne (h1.l[C8 x7]?) fun (v10:Int)=>
        (X ((b1,((gt .i64 (x7+1)),())),(h0,((h1.set (C8 x7) (bits .or .u32 (gt .u32 ((bits .xor .u32 (bits .xor .u32 (bits .xor .u32 v6 v7) v8) v9)*((2:Int) ^ (min (C8 (bits .and .u64 (gt .u64 (1:Int)) (31:Int))) (C9 .u32))))) (@Db (bits .xor .u32 (bits .xor .u32 (bits .xor .u32 v6 v7) v8) v9) ((2:Int) ^ (min (C8 (gt .u64 ((32:Int)-(bits .and .u64 (gt .u64 (1:Int)) (31:Int))))) (C9 .u32)))))),()))))
       else
        none
      else
       none
     else
      none
    else
     none
   else
    none
 else
  some (((),(h0,(h1,()))))
noncomputable def oR (c:(((Arr Int 64)×(Int×Unit))×((Arr Int 80)×((Arr Int 80)×Unit)))):Option ((Unit×((Arr Int 80)×((Arr Int 80)×Unit)))):=gl (fun X c=>dO N X c.1.1 c.1.2.1 c.2.1 c.2.2.1) N c
theorem uI (X:(((Arr Int 64)×(Int×Unit))×((Arr Int 80)×((Arr Int 80)×Unit)))→Option ((Unit×((Arr Int 80)×((Arr Int 80)×Unit)))))(b1:Arr Int 64)(x7:Int)(h0:Arr Int 80)(h1:Arr Int 80):(aq C7 (Ev65 N) 400 [141] jO (ao C7 [141] 3) X ((b1,x7,()),(h0,h1,()))).run=dO N X b1 x7 h0 h1:=by kernel_rfl
noncomputable def Ev66:(R:Type)→Env R:=Df (Ev65 N) [141] 0 3 (fun R=>lpK C7 jO (fun X c=>dO N X c.1.1 c.1.2.1 c.2.1 c.2.2.1) N)
theorem anD (R:Type):EnvOK C7 (Ev66 N R):=Da (agw N R) (by kernel_rfl) (aw (li:=jO) hmx (agw N _) (by kernel_rfl) ab (fun X c=>uI N X c.1.1 c.1.2.1 c.2.1 c.2.2.1) N)
noncomputable def qa (b0:Arr Int 64):Option (Arr Int 80):=
 ne (oR N ((b0,(0,())),((@C5 Int 79 0 (@C5 Int 78 0 (@C5 Int 77 0 (@C5 Int 76 0 (@C5 Int 75 0 (@C5 Int 74 0 (@C5 Int 73 0 (@C5 Int 72 0 (@C5 Int 71 0 (@C5 Int 70 0 (@C5 Int 69 0 (@C5 Int 68 0 (@C5 Int 67 0 (@C5 Int 66 0 (@C5 Int 65 0 (@C5 Int 64 0 zc64)))))))))))))))),((@C5 Int 79 0 (@C5 Int 78 0 (@C5 Int 77 0 (@C5 Int 76 0 (@C5 Int 75 0 (@C5 Int 74 0 (@C5 Int 73 0 (@C5 Int 72 0 (@C5 Int 71 0 (@C5 Int 70 0 (@C5 Int 69 0 (@C5 Int 68 0 (@C5 Int 67 0 (@C5 Int 66 0 (@C5 Int 65 0 (@C5 Int 64 0 zc64)))))))))))))))),())))) fun v2=>
 some (v2.2.2.1)
theorem Az (b0:Arr Int 64):(runK C7 (Ev66 N) 400 141 [(.arr 64 (.int .u8))] [(.arr 80 (.int .u32))] (b0,())).run=qa N b0:=by kernel_rfl
noncomputable def Ev67:ET:=eFn (Ev66 N) 141 [(.arr 64 (.int .u8))] [(.arr 80 (.int .u32))] fun c=>qa N c.1
theorem anC:OkE (Ev67 N):=aFn (anD N) (by kernel_rfl) fun c=>Az N c.1
noncomputable def mg (N:Nat)(r0:Int)(b1:Int)(c2:Int)(d3:Int):Option Int:=
 bif (decide (r0=0)) then
  some ((bits .or .u32 (bits .and .u32 b1 c2) (bits .and .u32 (bits .xor .u32 (@ite Int (@Eq Bool (@IntKind.signed @IntKind.u32) true) (@instDecidableEqBool (@IntKind.signed @IntKind.u32) true) (-1:Int) (@IntKind.max @IntKind.u32)) b1) d3)))
 else
  bif (decide (r0=2)) then
   some ((bits .or .u32 (bits .or .u32 (bits .and .u32 b1 c2) (bits .and .u32 b1 d3)) (bits .and .u32 c2 d3)))
  else
   some ((bits .xor .u32 (bits .xor .u32 b1 c2) d3))
theorem AB (r0:Int)(b1:Int)(c2:Int)(d3:Int):(runK C7 (Ev67 N) 400 142 [(.int .i64),(.int .u32),(.int .u32),(.int .u32)] [(.int .u32)] (r0,b1,c2,d3,())).run=mg N r0 b1 c2 d3:=by kernel_rfl
noncomputable def Ev68:ET:=eFn (Ev67 N) 142 [(.int .i64),(.int .u32),(.int .u32),(.int .u32)] [(.int .u32)] fun c=>mg N c.1 c.2.1 c.2.2.1 c.2.2.2.1
theorem agv:OkE (Ev68 N):=aFn (anC N) (by kernel_rfl) fun c=>AB N c.1 c.2.1 c.2.2.1 c.2.2.2.1
noncomputable def jd:LI:=⟨69,0,[],⟨[(3,.adr (.arr 5 (.int .u32))),(5,.adr (.arr 4 (.int .u32))),(6,.lit (.box 0 0)),(7,.lit (.box 1 0)),(8,.lit (.box 2 0)),(16,.ty (.int .i64))],[.box 170 (.arr 5 (.int .u32)),.box 185 (.arr 80 (.int .u32)),.box 170 (.arr 5 (.int .u32))]⟩,[(.exit 0,⟨[(3,.adr (.arr 5 (.int .u32))),(6,.lit (.box 0 0)),(8,.lit (.box 1 0))],[.box 170 (.arr 5 (.int .u32)),.box 170 (.arr 5 (.int .u32))]⟩)]⟩
noncomputable def ek (X:(((Arr Int 5)×pz27)×pz34)→Option ((((Arr Int 5)×Unit)×pz13)))(s3:Arr Int 5)(k5:Arr Int 4)(x16:Int)(h0:Arr Int 5)(h1:Arr Int 80)(h2:Arr Int 5):Option ((((Arr Int 5)×Unit)×pz13)):=
 bif (decide (x16<80)) then
  ne (h2.l[C8 (0:Int)]?) fun (v8:Int)=>
  ne (h2.l[C8 (1:Int)]?) fun (v9:Int)=>
  ne (h2.l[C8 (2:Int)]?) fun (v10:Int)=>
  ne (h2.l[C8 (3:Int)]?) fun (v11:Int)=>
  ne (mg N (gt .i64 (@Di x16 (20:Int))) v9 v10 v11) fun v12=>
  ne (h2.l[C8 (4:Int)]?) fun (v13:Int)=>
  ne (getI k5.l (gt .i64 (@Di x16 (20:Int)))) fun v14=>
  bif (decide ((0:Int)≤x16∧x16<((80:Nat):Int))) then
   ne (h1.l[C8 x16]?) fun (v15:Int)=>
   ne (h2.l[C8 (0:Int)]?) fun (v16:Int)=>
   ne (h2.l[C8 (1:Int)]?) fun (v17:Int)=>
   ne (h2.l[C8 (2:Int)]?) fun (v18:Int)=>
   ne (h2.l[C8 (3:Int)]?) fun (v19:Int)=>
   (X ((s3,(k5,((gt .i64 (x16+1)),()))),(h0,(h1,((@C5 Int (4:Nat) (gt .u32 ((gt .u32 ((gt .u32 ((gt .u32 ((bits .or .u32 (gt .u32 (v8*((2:Int) ^ (min (C8 (bits .and .u64 (gt .u64 (5:Int)) (31:Int))) (C9 .u32))))) (@Db v8 ((2:Int) ^ (min (C8 (gt .u64 ((32:Int)-(bits .and .u64 (gt .u64 (5:Int)) (31:Int))))) (C9 .u32)))))+v12))+v13))+v14))+v15)) (@C5 Int (3:Nat) v16 (@C5 Int (2:Nat) (bits .or .u32 (gt .u32 (v17*((2:Int) ^ (min (C8 (bits .and .u64 (gt .u64 (30:Int)) (31:Int))) (C9 .u32))))) (@Db v17 ((2:Int) ^ (min (C8 (gt .u64 ((32:Int)-(bits .and .u64 (gt .u64 (30:Int)) (31:Int))))) (C9 .u32))))) (@C5 Int (1:Nat) v18 (@C5 Int (0:Nat) v19 (@Dj Int)))))),())))))
  else
   none
 else
  some (((s3,()),(h0,(h2,()))))
noncomputable def oy (c:(((Arr Int 5)×pz27)×pz34)):Option ((((Arr Int 5)×Unit)×pz13)):=gl (fun X c=>ek N X c.1.1 c.1.2.1 c.1.2.2.1 c.2.1 c.2.2.1 c.2.2.2.1) N c
theorem tM (X:(((Arr Int 5)×pz27)×pz34)→Option ((((Arr Int 5)×Unit)×pz13)))(s3:Arr Int 5)(k5:Arr Int 4)(x16:Int)(h0:Arr Int 5)(h1:Arr Int 80)(h2:Arr Int 5):(aq C7 (Ev68 N) 400 [110] jd (ao C7 [110] 4) X ((s3,k5,x16,()),(h0,h1,h2,()))).run=ek N X s3 k5 x16 h0 h1 h2:=by kernel_rfl
noncomputable def Ev69:(R:Type)→Env R:=Df (Ev68 N) [110] 0 4 (fun R=>lpK C7 jd (fun X c=>ek N X c.1.1 c.1.2.1 c.1.2.2.1 c.2.1 c.2.2.1 c.2.2.2.1) N)
theorem agu (R:Type):EnvOK C7 (Ev69 N R):=Da (agv N R) (by kernel_rfl) (aw (li:=jd) hmx (agv N _) (by kernel_rfl) ab (fun X c=>tM N X c.1.1 c.1.2.1 c.1.2.2.1 c.2.1 c.2.2.1 c.2.2.2.1) N)
noncomputable def gY:LI:=⟨69,0,[],⟨[(3,.adr (.arr 5 (.int .u32))),(6,.lit (.box 0 0)),(8,.lit (.box 1 0)),(56,.ty (.int .i64))],[.box 170 (.arr 5 (.int .u32)),.box 170 (.arr 5 (.int .u32))]⟩,[(.exit 2,⟨[(6,.lit (.box 0 0)),(8,.lit (.box 1 0))],[.box 170 (.arr 5 (.int .u32)),.box 170 (.arr 5 (.int .u32))]⟩)]⟩
noncomputable def dj (N:Nat)(X:(pz32×pz13)→Option ((Unit×pz13)))(s3:Arr Int 5)(x56:Int)(h0:Arr Int 5)(h1:Arr Int 5):Option ((Unit×pz13)):=
 bif (decide (x56<5)) then
  bif (decide ((0:Int)≤x56∧x56<((5:Nat):Int))) then
   ne (h1.l[C8 x56]?) fun (v6:Int)=>
   ne (getI s3.l x56) fun v7=>
   bif (decide ((0:Int)≤x56∧x56<((5:Nat):Int))) then
    ne (h1.l[C8 x56]?) fun (v8:Int)=>
    (X ((s3,((gt .i64 (x56+1)),())),(h0,((h1.set (C8 x56) (gt .u32 (v6+v7))),()))))
   else
    none
  else
   none
 else
  some (((),(h0,(h1,()))))
noncomputable def mh (c:(pz32×pz13)):Option ((Unit×pz13)):=gl (fun X c=>dj N X c.1.1 c.1.2.1 c.2.1 c.2.2.1) N c
theorem sB (X:(pz32×pz13)→Option ((Unit×pz13)))(s3:Arr Int 5)(x56:Int)(h0:Arr Int 5)(h1:Arr Int 5):(aq C7 (Ev69 N) 400 [110] gY (ao C7 [110] 11) X ((s3,x56,()),(h0,h1,()))).run=dj N X s3 x56 h0 h1:=by kernel_rfl
noncomputable def Ev70:(R:Type)→Env R:=Df (Ev69 N) [110] 0 11 (fun R=>lpK C7 gY (fun X c=>dj N X c.1.1 c.1.2.1 c.2.1 c.2.2.1) N)
theorem anB (R:Type):EnvOK C7 (Ev70 N R):=Da (agu N R) (by kernel_rfl) (aw (li:=gY) hmx (agu N _) (by kernel_rfl) ab (fun X c=>sB N X c.1.1 c.1.2.1 c.2.1 c.2.2.1) N)
noncomputable def fH (s0:Arr Int 5)(b1:Arr Int 64)(k2:Arr Int 4):Option (Arr Int 5):=
 ne (qa N b1) fun v4=>
 ne (oy N ((s0,(k2,(0,()))),((@C5 Int 4 0 (@C5 Int 3 0 (@C5 Int 2 0 (@C5 Int 1 0 (@C5 Int 0 0 (@Dj Int)))))),(v4,(s0,()))))) fun v5=>
 ne (mh N ((v5.1.1,(0,())),(v5.2.1,(v5.2.2.1,())))) fun v6=>
 some (v6.2.2.1)
theorem yx (s0:Arr Int 5)(b1:Arr Int 64)(k2:Arr Int 4):(runK C7 (Ev70 N) 400 110 [(.arr 5 (.int .u32)),(.arr 64 (.int .u8)),(.arr 4 (.int .u32))] [(.arr 5 (.int .u32))] (s0,b1,k2,())).run=fH N s0 b1 k2:=by kernel_rfl
noncomputable def Ev71:ET:=eFn (Ev70 N) 110 [(.arr 5 (.int .u32)),(.arr 64 (.int .u8)),(.arr 4 (.int .u32))] [(.arr 5 (.int .u32))] fun c=>fH N c.1 c.2.1 c.2.2.1
theorem agt:OkE (Ev71 N):=aFn (anB N) (by kernel_rfl) fun c=>yx N c.1 c.2.1 c.2.2.1
noncomputable def oT:LI:=⟨35,0,[],⟨[(2,.lit (.box 0 0)),(3,.ty (.sl (.int .u8))),(4,.lit (.box 1 0)),(5,.lit (.box 2 0)),(6,.ty (.int .i64))],[.box 100 (.arr 20 (.int .u8)),.box 170 (.arr 5 (.int .u32)),.box 138 (.arr 4 (.int .u32))]⟩,[(.exit 0,⟨[(2,.lit (.box 0 0)),(4,.lit (.box 1 0))],[.box 100 (.arr 20 (.int .u8)),.box 170 (.arr 5 (.int .u32))]⟩)]⟩
noncomputable def jD (X:(pz7×((Arr Int 20)×((Arr Int 5)×((Arr Int 4)×Unit))))→Option pz30)(all3:List (Int))(i6:Int)(h0:Arr Int 20)(h1:Arr Int 5)(h2:Arr Int 4):Option pz30:=
 bif (decide (i6<(all3.length:Int))) then
  ne (subI all3 i6 (gt .i64 (i6+64))) fun v7=>
  ne (@eW Int (64:Nat) v7) fun v8=>
  ne (fH N h1 v8 h2) fun v9=>
  (X ((all3,((gt .i64 (i6+64)),())),(h0,(v9,(h2,())))))
 else
  some (((),(h0,(h1,()))))
noncomputable def tp (c:(pz7×((Arr Int 20)×((Arr Int 5)×((Arr Int 4)×Unit))))):Option pz30:=gl (fun X c=>jD N X c.1.1 c.1.2.1 c.2.1 c.2.2.1 c.2.2.2.1) N c
theorem AC (X:(pz7×((Arr Int 20)×((Arr Int 5)×((Arr Int 4)×Unit))))→Option pz30)(all3:List (Int))(i6:Int)(h0:Arr Int 20)(h1:Arr Int 5)(h2:Arr Int 4):(aq C7 (Ev71 N) 400 [70] oT (ao C7 [70] 5) X ((all3,i6,()),(h0,h1,h2,()))).run=jD N X all3 i6 h0 h1 h2:=by kernel_rfl
noncomputable def Ev72:(R:Type)→Env R:=Df (Ev71 N) [70] 0 5 (fun R=>lpK C7 oT (fun X c=>jD N X c.1.1 c.1.2.1 c.2.1 c.2.2.1 c.2.2.2.1) N)
theorem anA (R:Type):EnvOK C7 (Ev72 N R):=Da (agt N R) (by kernel_rfl) (aw (li:=oT) hmx (agt N _) (by kernel_rfl) ab (fun X c=>AC N X c.1.1 c.1.2.1 c.2.1 c.2.2.1 c.2.2.2.1) N)
noncomputable def Ev73:ET:=Dm (Ev72 N) [(111,0)]
theorem ags:OkE (Ev73 N):=fun R=>Dk (anA N R) [(111,0)]
noncomputable def jc:LI:=⟨25,0,[(3,5)],⟨[(2,.lit (.box 0 0)),(3,.lit (.own 1)),(8,.ty (.arr 5 (.int .u32))),(9,.ty (.int .i64))],[.box 100 (.arr 20 (.int .u8)),.own (.int .u8) 5]⟩,[(.exit 0,⟨[(2,.lit (.box 0 0)),(3,.lit (.own 1))],[.box 100 (.arr 20 (.int .u8)),.own (.int .u8) 5]⟩)]⟩
noncomputable def c7 (X:(pz32×pz23)→Option ((Unit×pz23)))(x8:Arr Int 5)(x9:Int)(h0:Arr Int 20)(h1:List (Int)):Option ((Unit×pz23)):=
 bif (decide (x9<5)) then
  ne (getI x8.l x9) fun v6=>
  ne (cD N (gt .u64 v6) (4:Int) false) fun v7=>
  bif (ae ((Dc h1)+(Dc v7.1)) 1) then
   (X ((x8,((gt .i64 (x9+1)),())),(h0,((h1++v7.1),()))))
  else
   none
 else
  some (((),(h0,(h1,()))))
noncomputable def ox (c:(pz32×pz23)):Option ((Unit×pz23)):=gl (fun X c=>c7 N X c.1.1 c.1.2.1 c.2.1 c.2.2.1) N c
theorem tK (X:(pz32×pz23)→Option ((Unit×pz23)))(x8:Arr Int 5)(x9:Int)(h0:Arr Int 20)(h1:List (Int)):(aq C7 (Ev73 N) 400 [111] jc (ao C7 [111] 3) X ((x8,x9,()),(h0,h1,()))).run=c7 N X x8 x9 h0 h1:=by kernel_rfl
noncomputable def Ev74:(R:Type)→Env R:=Df (Ev73 N) [111] 0 3 (fun R=>lpK C7 jc (fun X c=>c7 N X c.1.1 c.1.2.1 c.2.1 c.2.2.1) N)
theorem anz (R:Type):EnvOK C7 (Ev74 N R):=Da (ags N R) (by kernel_rfl) (aw (li:=jc) hmx (ags N _) (by kernel_rfl) ab (fun X c=>tK N X c.1.1 c.1.2.1 c.2.1 c.2.2.1) N)
noncomputable def jP (s0:Arr Int 5):Option (Arr Int 20):=
 ne (ox N ((s0,(0,())),(zc20,(([]:List Int),())))) fun v2=>
 ne (@eW Int (20:Nat) v2.2.2.1) fun v3=>
 some (v3)
theorem yw (s0:Arr Int 5):(runK C7 (Ev74 N) 400 111 [(.arr 5 (.int .u32))] [(.arr 20 (.int .u8))] (s0,())).run=jP N s0:=by kernel_rfl
noncomputable def Ev75:ET:=eFn (Ev74 N) 111 [(.arr 5 (.int .u32))] [(.arr 20 (.int .u8))] fun c=>jP N c.1
theorem anx:OkE (Ev75 N):=aFn (anz N) (by kernel_rfl) fun c=>yw N c.1
noncomputable def gz (parts0:List (List Int)):Option (Arr Int 20):=
 ne (fR N ((parts0,(0,(parts0,((parts0.length:Int),(0,()))))),(zc20,()))) fun v2=>
 bif ((decide ((0:Int)≤(0:Int)∧(0:Int)≤v2.1.2.1))&&(ae (C8 v2.1.2.1) 1)) then
  ne (fQ N ((v2.1.1,((v2.1.1.length:Int),(0,()))),(v2.2.1,((@Dh Int (C8 (0:Int)) (0:Int)),())))) fun v3=>
  ne (oS N (gt .u64 (v3.2.2.1.length:Int))) fun v4=>
  bif (ae ((Dc v3.2.2.1)+(Dc v4)) 1) then
   ne (@iF N) fun (v5:(Arr Int 4))=>
   ne (tp N (((v3.2.2.1++v4),(0,())),(v3.2.1,((@C5 Int 4 1732584193 (@C5 Int 3 4023233417 (@C5 Int 2 2562383102 (@C5 Int 1 271733878 (@C5 Int 0 3285377520 (@Dj Int)))))),(v5,()))))) fun v6=>
   ne (jP N v6.2.2.1) fun v7=>
   some (v7)
  else
   none
 else
  none
theorem aeh (parts0:List (List Int)):(runK C7 (Ev75 N) 400 70 [(.sl (.sl (.int .u8)))] [(.arr 20 (.int .u8))] (parts0,())).run=gz N parts0:=by kernel_rfl
noncomputable def Ev76:ET:=eFn (Ev75 N) 70 [(.sl (.sl (.int .u8)))] [(.arr 20 (.int .u8))] fun c=>gz N c.1
theorem anw:OkE (Ev76 N):=aFn (anx N) (by kernel_rfl) fun c=>aeh N c.1
noncomputable def Ev77:ET:=Dm (Ev76 N) [(83,0)]
theorem anv:OkE (Ev77 N):=fun R=>Dk (anw N R) [(83,0)]
noncomputable def xF (N:Nat)(x0:Int)(n1:Int):Option Int:=
 bif (decide (0≤n1)) then
  bif (decide ((0:Int)≤(gt .i64 ((32:Int)-n1)))) then
   some ((bits .or .u32 (gt .u32 (x0*((2:Int) ^ (min (C8 n1) (C9 .u32))))) (@Db x0 ((2:Int) ^ (min (C8 (gt .i64 ((32:Int)-n1))) (C9 .u32))))))
  else
   none
 else
  none
theorem A6 (x0:Int)(n1:Int):(runK C7 (Ev77 N) 400 122 [(.int .u32),(.int .i64)] [(.int .u32)] (x0,n1,())).run=xF N x0 n1:=by kernel_rfl
noncomputable def Ev78:ET:=eFn (Ev77 N) 122 [(.int .u32),(.int .i64)] [(.int .u32)] fun c=>xF N c.1 c.2.1
theorem agr:OkE (Ev78 N):=aFn (anv N) (by kernel_rfl) fun c=>A6 N c.1 c.2.1
noncomputable def jl:LI:=⟨118,0,[],⟨[(2,.adr (.arr 5 (.int .u32))),(3,.adr (.arr 64 (.int .u8))),(4,.lit (.box 0 0)),(5,.lit (.box 1 0)),(6,.ty (.int .i64))],[.box 146 (.arr 5 (.int .u32)),.box 185 (.arr 80 (.int .u32))]⟩,[(.exit 0,⟨[(2,.adr (.arr 5 (.int .u32))),(4,.lit (.box 0 0)),(5,.lit (.box 1 0))],[.box 146 (.arr 5 (.int .u32)),.box 185 (.arr 80 (.int .u32))]⟩)]⟩
noncomputable def c8 (N:Nat)(X:(((Arr Int 5)×((Arr Int 64)×(Int×Unit)))×((Arr Int 5)×((Arr Int 80)×Unit)))→Option ((((Arr Int 5)×Unit)×((Arr Int 5)×((Arr Int 80)×Unit)))))(s2:Arr Int 5)(block3:Arr Int 64)(i6:Int)(h0:Arr Int 5)(h1:Arr Int 80):Option ((((Arr Int 5)×Unit)×((Arr Int 5)×((Arr Int 80)×Unit)))):=
 bif (decide (i6<80)) then
  bif (decide (i6<16)) then
   ne (getI block3.l (gt .i64 ((4:Int)*i6))) fun v7=>
   ne (getI block3.l (gt .i64 ((gt .i64 ((4:Int)*i6))+1))) fun v8=>
   ne (getI block3.l (gt .i64 ((gt .i64 ((4:Int)*i6))+2))) fun v9=>
   ne (getI block3.l (gt .i64 ((gt .i64 ((4:Int)*i6))+3))) fun v10=>
   bif (decide ((0:Int)≤i6∧i6<((80:Nat):Int))) then
    ne (h1.l[C8 i6]?) fun (v11:Int)=>
    (X ((s2,(block3,((gt .i64 (i6+1)),()))),(h0,((h1.set (C8 i6) (gt .u32 ((gt .u32 ((gt .u32 ((gt .u32 ((gt .u32 v7)*(16777216:Int)))+(gt .u32 ((gt .u32 v8)*(65536:Int)))))+(gt .u32 ((gt .u32 v9)*(256:Int)))))+(gt .u32 v10)))),()))))
   else
    none
  else
   bif (decide ((0:Int)≤(gt .i64 (i6-3))∧(gt .i64 (i6-3))<((80:Nat):Int))) then
    ne (h1.l[C8 (gt .i64 (i6-3))]?) fun (v7:Int)=>
    bif (decide ((0:Int)≤(gt .i64 (i6-8))∧(gt .i64 (i6-8))<((80:Nat):Int))) then
     ne (h1.l[C8 (gt .i64 (i6-8))]?) fun (v8:Int)=>
     bif (decide ((0:Int)≤(gt .i64 (i6-14))∧(gt .i64 (i6-14))<((80:Nat):Int))) then
      ne (h1.l[C8 (gt .i64 (i6-14))]?) fun (v9:Int)=>
      bif (decide ((0:Int)≤(gt .i64 (i6-16))∧(gt .i64 (i6-16))<((80:Nat):Int))) then
       ne (h1.l[C8 (gt .i64 (i6-16))]?) fun (v10:Int)=>
       bif (decide ((0:Int)≤i6∧i6<((80:Nat):Int))) then
        ne (h1.l[C8 i6]?) fun (v11:Int)=>
        (X ((s2,(block3,((gt .i64 (i6+1)),()))),(h0,((h1.set (C8 i6) (bits .or .u32 (gt .u32 ((bits .xor .u32 (bits .xor .u32 (bits .xor .u32 v7 v8) v9) v10)*((2:Int) ^ (min (C8 (1:Int)) (C9 .u32))))) (@Db (bits .xor .u32 (bits .xor .u32 (bits .xor .u32 v7 v8) v9) v10) ((2:Int) ^ (min (C8 (gt .i64 ((32:Int)-1))) (C9 .u32)))))),()))))
       else
        none
      else
       none
     else
      none
    else
     none
   else
    none
 else
  some (((s2,()),(h0,(h1,()))))
noncomputable def oE (c:(((Arr Int 5)×((Arr Int 64)×(Int×Unit)))×((Arr Int 5)×((Arr Int 80)×Unit)))):Option ((((Arr Int 5)×Unit)×((Arr Int 5)×((Arr Int 80)×Unit)))):=gl (fun X c=>c8 N X c.1.1 c.1.2.1 c.1.2.2.1 c.2.1 c.2.2.1) N c
theorem tZ (X:(((Arr Int 5)×((Arr Int 64)×(Int×Unit)))×((Arr Int 5)×((Arr Int 80)×Unit)))→Option ((((Arr Int 5)×Unit)×((Arr Int 5)×((Arr Int 80)×Unit)))))(s2:Arr Int 5)(block3:Arr Int 64)(i6:Int)(h0:Arr Int 5)(h1:Arr Int 80):(aq C7 (Ev78 N) 400 [83] jl (ao C7 [83] 3) X ((s2,block3,i6,()),(h0,h1,()))).run=c8 N X s2 block3 i6 h0 h1:=by kernel_rfl
noncomputable def Ev79:(R:Type)→Env R:=Df (Ev78 N) [83] 0 3 (fun R=>lpK C7 jl (fun X c=>c8 N X c.1.1 c.1.2.1 c.1.2.2.1 c.2.1 c.2.2.1) N)
theorem anu (R:Type):EnvOK C7 (Ev79 N R):=Da (agr N R) (by kernel_rfl) (aw (li:=jl) hmx (agr N _) (by kernel_rfl) ab (fun X c=>tZ N X c.1.1 c.1.2.1 c.1.2.2.1 c.2.1 c.2.2.1) N)
noncomputable def o5 (N:Nat)(i0:Int)(b1:Int)(c2:Int)(d3:Int):Option Int:=
 bif (decide ((gt .i64 (@Di i0 (20:Int)))=(0:Int))) then
  some ((gt .u32 ((bits .or .u32 (bits .and .u32 b1 c2) (bits .and .u32 (gt .u32 ((4294967295:Int)-b1)) d3))+1518500249)))
 else
  bif (decide ((gt .i64 (@Di i0 (20:Int)))=(1:Int))) then
   some ((gt .u32 ((bits .xor .u32 (bits .xor .u32 b1 c2) d3)+1859775393)))
  else
   bif (decide ((gt .i64 (@Di i0 (20:Int)))=(2:Int))) then
    some ((gt .u32 ((bits .or .u32 (bits .or .u32 (bits .and .u32 b1 c2) (bits .and .u32 b1 d3)) (bits .and .u32 c2 d3))+2400959708)))
   else
    some ((gt .u32 ((bits .xor .u32 (bits .xor .u32 b1 c2) d3)+3395469782)))
theorem CA (i0:Int)(b1:Int)(c2:Int)(d3:Int):(runK C7 (Ev79 N) 400 123 [(.int .i64),(.int .u32),(.int .u32),(.int .u32)] [(.int .u32)] (i0,b1,c2,d3,())).run=o5 N i0 b1 c2 d3:=by kernel_rfl
noncomputable def Ev80:ET:=eFn (Ev79 N) 123 [(.int .i64),(.int .u32),(.int .u32),(.int .u32)] [(.int .u32)] fun c=>o5 N c.1 c.2.1 c.2.2.1 c.2.2.2.1
theorem agq:OkE (Ev80 N):=aFn (anu N) (by kernel_rfl) fun c=>CA N c.1 c.2.1 c.2.2.1 c.2.2.2.1
noncomputable def ic:LI:=⟨118,0,[],⟨[(2,.adr (.arr 5 (.int .u32))),(4,.lit (.box 0 0)),(5,.lit (.box 1 0)),(7,.lit (.box 2 0)),(8,.ty (.int .i64))],[.box 146 (.arr 5 (.int .u32)),.box 185 (.arr 80 (.int .u32)),.box 146 (.arr 5 (.int .u32))]⟩,[(.exit 2,⟨[(2,.adr (.arr 5 (.int .u32))),(4,.lit (.box 0 0)),(7,.lit (.box 1 0))],[.box 146 (.arr 5 (.int .u32)),.box 146 (.arr 5 (.int .u32))]⟩)]⟩
noncomputable def dz (X:(pz32×pz34)→Option ((((Arr Int 5)×Unit)×pz13)))(s2:Arr Int 5)(i8:Int)(h0:Arr Int 5)(h1:Arr Int 80)(h2:Arr Int 5):Option ((((Arr Int 5)×Unit)×pz13)):=
 bif (decide (i8<80)) then
  ne (h2.l[C8 (0:Int)]?) fun (v7:Int)=>
  ne (h2.l[C8 (1:Int)]?) fun (v8:Int)=>
  ne (h2.l[C8 (2:Int)]?) fun (v9:Int)=>
  ne (h2.l[C8 (3:Int)]?) fun (v10:Int)=>
  ne (o5 N i8 v8 v9 v10) fun v11=>
  ne (h2.l[C8 (4:Int)]?) fun (v12:Int)=>
  bif (decide ((0:Int)≤i8∧i8<((80:Nat):Int))) then
   ne (h1.l[C8 i8]?) fun (v13:Int)=>
   ne (h2.l[C8 (0:Int)]?) fun (v14:Int)=>
   ne (h2.l[C8 (1:Int)]?) fun (v15:Int)=>
   ne (h2.l[C8 (2:Int)]?) fun (v16:Int)=>
   ne (h2.l[C8 (3:Int)]?) fun (v17:Int)=>
   (X ((s2,((gt .i64 (i8+1)),())),(h0,(h1,((@C5 Int (4:Nat) (gt .u32 ((gt .u32 ((gt .u32 ((bits .or .u32 (gt .u32 (v7*((2:Int) ^ (min (C8 (5:Int)) (C9 .u32))))) (@Db v7 ((2:Int) ^ (min (C8 (gt .i64 ((32:Int)-5))) (C9 .u32)))))+v11))+v12))+v13)) (@C5 Int (3:Nat) v14 (@C5 Int (2:Nat) (bits .or .u32 (gt .u32 (v15*((2:Int) ^ (min (C8 (30:Int)) (C9 .u32))))) (@Db v15 ((2:Int) ^ (min (C8 (gt .i64 ((32:Int)-30))) (C9 .u32))))) (@C5 Int (1:Nat) v16 (@C5 Int (0:Nat) v17 (@Dj Int)))))),())))))
  else
   none
 else
  some (((s2,()),(h0,(h2,()))))
noncomputable def mI (c:(pz32×pz34)):Option ((((Arr Int 5)×Unit)×pz13)):=gl (fun X c=>dz N X c.1.1 c.1.2.1 c.2.1 c.2.2.1 c.2.2.2.1) N c
theorem sJ (X:(pz32×pz34)→Option ((((Arr Int 5)×Unit)×pz13)))(s2:Arr Int 5)(i8:Int)(h0:Arr Int 5)(h1:Arr Int 80)(h2:Arr Int 5):(aq C7 (Ev80 N) 400 [83] ic (ao C7 [83] 10) X ((s2,i8,()),(h0,h1,h2,()))).run=dz N X s2 i8 h0 h1 h2:=by kernel_rfl
noncomputable def Ev81:(R:Type)→Env R:=Df (Ev80 N) [83] 0 10 (fun R=>lpK C7 ic (fun X c=>dz N X c.1.1 c.1.2.1 c.2.1 c.2.2.1 c.2.2.2.1) N)
theorem agp (R:Type):EnvOK C7 (Ev81 N R):=Da (agq N R) (by kernel_rfl) (aw (li:=ic) hmx (agq N _) (by kernel_rfl) ab (fun X c=>sJ N X c.1.1 c.1.2.1 c.2.1 c.2.2.1 c.2.2.2.1) N)
noncomputable def ib:LI:=⟨118,0,[],⟨[(2,.adr (.arr 5 (.int .u32))),(4,.lit (.box 0 0)),(7,.lit (.box 1 0)),(10,.ty (.int .i64))],[.box 146 (.arr 5 (.int .u32)),.box 146 (.arr 5 (.int .u32))]⟩,[(.exit 4,⟨[(4,.lit (.box 0 0)),(7,.lit (.box 1 0))],[.box 146 (.arr 5 (.int .u32)),.box 146 (.arr 5 (.int .u32))]⟩)]⟩
noncomputable def dy (N:Nat)(X:(pz32×pz13)→Option ((Unit×pz13)))(s2:Arr Int 5)(i10:Int)(h0:Arr Int 5)(h1:Arr Int 5):Option ((Unit×pz13)):=
 bif (decide (i10<5)) then
  bif (decide ((0:Int)≤i10∧i10<((5:Nat):Int))) then
   ne (h1.l[C8 i10]?) fun (v6:Int)=>
   ne (getI s2.l i10) fun v7=>
   bif (decide ((0:Int)≤i10∧i10<((5:Nat):Int))) then
    ne (h1.l[C8 i10]?) fun (v8:Int)=>
    (X ((s2,((gt .i64 (i10+1)),())),(h0,((h1.set (C8 i10) (gt .u32 (v6+v7))),()))))
   else
    none
  else
   none
 else
  some (((),(h0,(h1,()))))
noncomputable def mH (c:(pz32×pz13)):Option ((Unit×pz13)):=gl (fun X c=>dy N X c.1.1 c.1.2.1 c.2.1 c.2.2.1) N c
theorem sI (X:(pz32×pz13)→Option ((Unit×pz13)))(s2:Arr Int 5)(i10:Int)(h0:Arr Int 5)(h1:Arr Int 5):(aq C7 (Ev81 N) 400 [83] ib (ao C7 [83] 15) X ((s2,i10,()),(h0,h1,()))).run=dy N X s2 i10 h0 h1:=by kernel_rfl
noncomputable def Ev82:(R:Type)→Env R:=Df (Ev81 N) [83] 0 15 (fun R=>lpK C7 ib (fun X c=>dy N X c.1.1 c.1.2.1 c.2.1 c.2.2.1) N)
theorem ant (R:Type):EnvOK C7 (Ev82 N R):=Da (agp N R) (by kernel_rfl) (aw (li:=ib) hmx (agp N _) (by kernel_rfl) ab (fun X c=>sI N X c.1.1 c.1.2.1 c.2.1 c.2.2.1) N)
noncomputable def kf (s0:Arr Int 5)(block1:Arr Int 64):Option (Arr Int 5):=
 ne (oE N ((s0,(block1,(0,()))),((@C5 Int 4 0 (@C5 Int 3 0 (@C5 Int 2 0 (@C5 Int 1 0 (@C5 Int 0 0 (@Dj Int)))))),((@C5 Int 79 0 (@C5 Int 78 0 (@C5 Int 77 0 (@C5 Int 76 0 (@C5 Int 75 0 (@C5 Int 74 0 (@C5 Int 73 0 (@C5 Int 72 0 (@C5 Int 71 0 (@C5 Int 70 0 (@C5 Int 69 0 (@C5 Int 68 0 (@C5 Int 67 0 (@C5 Int 66 0 (@C5 Int 65 0 (@C5 Int 64 0 zc64)))))))))))))))),())))) fun v3=>
 ne (mI N ((v3.1.1,(0,())),(v3.2.1,(v3.2.2.1,(v3.1.1,()))))) fun v4=>
 ne (mH N ((v4.1.1,(0,())),(v4.2.1,(v4.2.2.1,())))) fun v5=>
 some (v5.2.2.1)
theorem y3 (s0:Arr Int 5)(block1:Arr Int 64):(runK C7 (Ev82 N) 400 83 [(.arr 5 (.int .u32)),(.arr 64 (.int .u8))] [(.arr 5 (.int .u32))] (s0,block1,())).run=kf N s0 block1:=by kernel_rfl
noncomputable def Ev83:ET:=eFn (Ev82 N) 83 [(.arr 5 (.int .u32)),(.arr 64 (.int .u8))] [(.arr 5 (.int .u32))] fun c=>kf N c.1 c.2.1
theorem anr:OkE (Ev83 N):=aFn (ant N) (by kernel_rfl) fun c=>y3 N c.1 c.2.1
noncomputable def Ev84:ET:=Env.addMv (Ev83 N) [(81,7)]
theorem ago:OkE (Ev84 N):=fun R=>EnvOK.addMv (anr N R) [(81,7)]
noncomputable def ke:LI:=⟨30,0,[],⟨[(3,.ty (.sl (.int .u8))),(4,.ty (.int .i64)),(5,.lit (.own 0)),(6,.ty (.int .i64))],[.own (.int .u8) 5]⟩,[(.exit 0,⟨[(5,.lit (.own 0))],[.own (.int .u8) 5]⟩)]⟩
noncomputable def dV (N:Nat)(X:(pz8×((List Int)×Unit))→Option pz3)(b3:List (Int))(k4:Int)(i6:Int)(h0:List (Int)):Option pz3:=
 bif (decide (0≤i6)) then
  ne (getI b3 (gt .i64 (k4+i6))) fun v6=>
  bif (ae ((Dc h0)+(Dc ([v6]:List (Int)))) 1) then
   (X ((b3,(k4,((gt .i64 (i6-1)),()))),((h0++([v6]:List (Int))),())))
  else
   none
 else
  some (((),(h0,())))
noncomputable def o6 (c:(pz8×((List Int)×Unit))):Option pz3:=gl (fun X c=>dV N X c.1.1 c.1.2.1 c.1.2.2.1 c.2.1) N c
theorem u9 (X:(pz8×((List Int)×Unit))→Option pz3)(b3:List (Int))(k4:Int)(i6:Int)(h0:List (Int)):(aq C7 (Ev84 N) 400 [81] ke (ao C7 [81] 5) X ((b3,k4,i6,()),(h0,()))).run=dV N X b3 k4 i6 h0:=by kernel_rfl
noncomputable def Ev85:(R:Type)→Env R:=Df (Ev84 N) [81] 0 5 (fun R=>lpK C7 ke (fun X c=>dV N X c.1.1 c.1.2.1 c.1.2.2.1 c.2.1) N)
theorem anq (R:Type):EnvOK C7 (Ev85 N R):=Da (ago N R) (by kernel_rfl) (aw (li:=ke) hmx (ago N _) (by kernel_rfl) ab (fun X c=>u9 N X c.1.1 c.1.2.1 c.1.2.2.1 c.2.1) N)
noncomputable def mG (n0:Int):Option (List Int):=
 ne (fa N n0) fun v2=>
 ne (cR v2 (gt .i64 ((v2.length:Int)-8))) fun v3=>
 bif (ae (Dc v3) 1) then
  ne (o6 N ((v2,((gt .i64 ((v2.length:Int)-8)),(7,()))),(v3,()))) fun v4=>
  some (v4.2.1)
 else
  none
theorem A7 (n0:Int):(runK C7 (Ev85 N) 400 81 [(.int .u64)] [(.sl (.int .u8))] (n0,())).run=mG N n0:=by kernel_rfl
noncomputable def Ev86:ET:=eFn (Ev85 N) 81 [(.int .u64)] [(.sl (.int .u8))] fun c=>mG N c.1
theorem anp:OkE (Ev86 N):=aFn (anq N) (by kernel_rfl) fun c=>A7 N c.1
noncomputable def vb (N:Nat):Option (Arr Int 5):=
 some ((@C5 Int 4 1732584193 (@C5 Int 3 4023233417 (@C5 Int 2 2562383102 (@C5 Int 1 271733878 (@C5 Int 0 3285377520 (@Dj Int)))))))
theorem y0:(runK C7 (Ev86 N) 400 82 [] [(.arr 5 (.int .u32))] ()).run=vb N:=by kernel_rfl
noncomputable def Ev87:ET:=eFn (Ev86 N) 82 [] [(.arr 5 (.int .u32))] fun c=>vb N
theorem agn:OkE (Ev87 N):=aFn (anp N) (by kernel_rfl) fun c=>y0 N
noncomputable def nF:LI:=⟨56,0,[],⟨[(2,.lit (.box 0 0)),(3,.lit (.own 1)),(4,.lit (.box 2 0)),(5,.ty (.int .i64)),(6,.lit (.box 3 0)),(7,.ty (.int .i64))],[.box 100 (.arr 20 (.int .u8)),.own (.int .u8) 5,.box 146 (.arr 5 (.int .u32)),.box 140 (.arr 64 (.int .u8))]⟩,[(.exit 2,⟨[(2,.lit (.box 0 0)),(3,.lit (.own 1)),(4,.lit (.box 2 0)),(5,.ty (.int .i64)),(6,.lit (.box 3 0))],[.box 100 (.arr 20 (.int .u8)),.own (.int .u8) 5,.box 146 (.arr 5 (.int .u32)),.box 140 (.arr 64 (.int .u8))]⟩)]⟩
noncomputable def hY (N:Nat)(X:((Int×(Int×Unit))×pz26)→Option (((Int×Unit)×pz26)))(x5:Int)(i7:Int)(h0:Arr Int 20)(h1:List (Int))(h2:Arr Int 5)(h3:Arr Int 64):Option (((Int×Unit)×pz26)):=
 bif (decide (i7<64)) then
  bif (decide ((0:Int)≤(gt .i64 (x5+i7))∧(gt .i64 (x5+i7))<(h1.length:Int))) then
   ne (h1[C8 (gt .i64 (x5+i7))]?) fun (v8:Int)=>
   bif (decide ((0:Int)≤i7∧i7<((64:Nat):Int))) then
    ne (h3.l[C8 i7]?) fun (v9:Int)=>
    (X ((x5,((gt .i64 (i7+1)),())),(h0,(h1,(h2,((h3.set (C8 i7) v8),()))))))
   else
    none
  else
   none
 else
  some (((x5,()),(h0,(h1,(h2,(h3,()))))))
noncomputable def ry (c:((Int×(Int×Unit))×pz26)):Option (((Int×Unit)×pz26)):=gl (fun X c=>hY N X c.1.1 c.1.2.1 c.2.1 c.2.2.1 c.2.2.2.1 c.2.2.2.2.1) N c
theorem yY (X:((Int×(Int×Unit))×pz26)→Option (((Int×Unit)×pz26)))(x5:Int)(i7:Int)(h0:Arr Int 20)(h1:List (Int))(h2:Arr Int 5)(h3:Arr Int 64):(aq C7 (Ev87 N) 400 [49] nF (ao C7 [49] 8) X ((x5,i7,()),(h0,h1,h2,h3,()))).run=hY N X x5 i7 h0 h1 h2 h3:=by kernel_rfl
noncomputable def Ev88:(R:Type)→Env R:=Df (Ev87 N) [49] 0 8 (fun R=>lpK C7 nF (fun X c=>hY N X c.1.1 c.1.2.1 c.2.1 c.2.2.1 c.2.2.2.1 c.2.2.2.2.1) N)
theorem agm (R:Type):EnvOK C7 (Ev88 N R):=Da (agn N R) (by kernel_rfl) (aw (li:=nF) hmx (agn N _) (by kernel_rfl) ab (fun X c=>yY N X c.1.1 c.1.2.1 c.2.1 c.2.2.1 c.2.2.2.1 c.2.2.2.2.1) N)
noncomputable def nG:LI:=⟨56,0,[],⟨[(2,.lit (.box 0 0)),(3,.lit (.own 1)),(4,.lit (.box 2 0)),(5,.ty (.int .i64))],[.box 100 (.arr 20 (.int .u8)),.own (.int .u8) 5,.box 146 (.arr 5 (.int .u32))]⟩,[(.exit 0,⟨[(2,.lit (.box 0 0)),(4,.lit (.box 1 0))],[.box 100 (.arr 20 (.int .u8)),.box 146 (.arr 5 (.int .u32))]⟩)]⟩
noncomputable def ia (X:((Int×Unit)×((Arr Int 20)×((List Int)×((Arr Int 5)×Unit))))→Option pz30)(x5:Int)(h0:Arr Int 20)(h1:List (Int))(h2:Arr Int 5):Option pz30:=
 bif (decide (x5<(h1.length:Int))) then
  ne (ry N ((x5,(0,())),(h0,(h1,(h2,(zc64,())))))) fun v6=>
  ne (kf N v6.2.2.2.1 v6.2.2.2.2.1) fun v7=>
  (X (((gt .i64 (v6.1.1+64)),()),(v6.2.1,(v6.2.2.1,(v7,())))))
 else
  some (((),(h0,(h2,()))))
noncomputable def rz (c:((Int×Unit)×((Arr Int 20)×((List Int)×((Arr Int 5)×Unit))))):Option pz30:=gl (fun X c=>ia N X c.1.1 c.2.1 c.2.2.1 c.2.2.2.1) N c
theorem yZ (X:((Int×Unit)×((Arr Int 20)×((List Int)×((Arr Int 5)×Unit))))→Option pz30)(x5:Int)(h0:Arr Int 20)(h1:List (Int))(h2:Arr Int 5):(aq C7 (Ev88 N) 400 [49] nG (ao C7 [49] 4) X ((x5,()),(h0,h1,h2,()))).run=ia N X x5 h0 h1 h2:=by kernel_rfl
noncomputable def Ev89:(R:Type)→Env R:=Df (Ev88 N) [49] 0 4 (fun R=>lpK C7 nG (fun X c=>ia N X c.1.1 c.2.1 c.2.2.1 c.2.2.2.1) N)
theorem agl (R:Type):EnvOK C7 (Ev89 N R):=Da (agm N R) (by kernel_rfl) (aw (li:=nG) hmx (agm N _) (by kernel_rfl) ab (fun X c=>yZ N X c.1.1 c.2.1 c.2.2.1 c.2.2.2.1) N)
noncomputable def lw:LI:=⟨56,0,[],⟨[(2,.lit (.box 0 0)),(4,.lit (.box 1 0)),(8,.lit (.box 2 0)),(9,.ty (.int .i64))],[.box 100 (.arr 20 (.int .u8)),.box 146 (.arr 5 (.int .u32)),.box 100 (.arr 20 (.int .u8))]⟩,[(.exit 4,⟨[(2,.lit (.box 0 0)),(8,.lit (.box 1 0))],[.box 100 (.arr 20 (.int .u8)),.box 100 (.arr 20 (.int .u8))]⟩)]⟩
noncomputable def fY (N:Nat)(X:((Int×Unit)×((Arr Int 20)×((Arr Int 5)×((Arr Int 20)×Unit))))→Option ((Unit×((Arr Int 20)×((Arr Int 20)×Unit)))))(i9:Int)(h0:Arr Int 20)(h1:Arr Int 5)(h2:Arr Int 20):Option ((Unit×((Arr Int 20)×((Arr Int 20)×Unit)))):=
 bif (decide (i9<20)) then
  bif (decide ((0:Int)≤(gt .i64 (@Di i9 (4:Int)))∧(gt .i64 (@Di i9 (4:Int)))<((5:Nat):Int))) then
   ne (h1.l[C8 (gt .i64 (@Di i9 (4:Int)))]?) fun (v6:Int)=>
   bif (decide ((0:Int)≤(gt .i64 ((24:Int)-(gt .i64 ((8:Int)*(@Dd i9 (4:Int)))))))) then
    bif (decide ((0:Int)≤i9∧i9<((20:Nat):Int))) then
     ne (h2.l[C8 i9]?) fun (v7:Int)=>
     (X (((gt .i64 (i9+1)),()),(h0,(h1,((h2.set (C8 i9) (gt .u8 (@Db v6 ((2:Int) ^ (min (C8 (gt .i64 ((24:Int)-(gt .i64 ((8:Int)*(@Dd i9 (4:Int))))))) (C9 .u32)))))),())))))
    else
     none
   else
    none
  else
   none
 else
  some (((),(h0,(h2,()))))
noncomputable def qB (c:((Int×Unit)×((Arr Int 20)×((Arr Int 5)×((Arr Int 20)×Unit))))):Option ((Unit×((Arr Int 20)×((Arr Int 20)×Unit)))):=gl (fun X c=>fY N X c.1.1 c.2.1 c.2.2.1 c.2.2.2.1) N c
theorem wG (X:((Int×Unit)×((Arr Int 20)×((Arr Int 5)×((Arr Int 20)×Unit))))→Option ((Unit×((Arr Int 20)×((Arr Int 20)×Unit)))))(i9:Int)(h0:Arr Int 20)(h1:Arr Int 5)(h2:Arr Int 20):(aq C7 (Ev89 N) 400 [49] lw (ao C7 [49] 14) X ((i9,()),(h0,h1,h2,()))).run=fY N X i9 h0 h1 h2:=by kernel_rfl
noncomputable def Ev90:(R:Type)→Env R:=Df (Ev89 N) [49] 0 14 (fun R=>lpK C7 lw (fun X c=>fY N X c.1.1 c.2.1 c.2.2.1 c.2.2.2.1) N)
theorem ano (R:Type):EnvOK C7 (Ev90 N R):=Da (agl N R) (by kernel_rfl) (aw (li:=lw) hmx (agl N _) (by kernel_rfl) ab (fun X c=>wG N X c.1.1 c.2.1 c.2.2.1 c.2.2.2.1) N)
noncomputable def fA (b0:List (Int)):Option (Arr Int 20):=
 bif (ae (Dc b0) 1) then
  ne (mG N (gt .u64 (b0.length:Int))) fun v2=>
  bif (ae ((Dc b0)+(Dc v2)) 1) then
   ne (rz N ((0,()),(zc20,((b0++v2),((@C5 Int 4 1732584193 (@C5 Int 3 4023233417 (@C5 Int 2 2562383102 (@C5 Int 1 271733878 (@C5 Int 0 3285377520 (@Dj Int)))))),()))))) fun v3=>
   ne (qB N ((0,()),(v3.2.1,(v3.2.2.1,(zc20,()))))) fun v4=>
   some (v4.2.2.1)
  else
   none
 else
  none
theorem acZ (b0:List (Int)):(runK C7 (Ev90 N) 400 49 [(.sl (.int .u8))] [(.arr 20 (.int .u8))] (b0,())).run=fA N b0:=by kernel_rfl
noncomputable def Ev91:ET:=eFn (Ev90 N) 49 [(.sl (.int .u8))] [(.arr 20 (.int .u8))] fun c=>fA N c.1
theorem ann:OkE (Ev91 N):=aFn (ano N) (by kernel_rfl) fun c=>acZ N c.1
noncomputable def aG (N:Nat)(s0:List UInt8):Option Int:=
 ne (getI s0 0) fun v2=>
 ne (getI s0 1) fun v3=>
 ne (getI s0 2) fun v4=>
 ne (getI s0 3) fun v5=>
 ne (getI s0 4) fun v6=>
 ne (getI s0 5) fun v7=>
 ne (getI s0 6) fun v8=>
 ne (getI s0 7) fun v9=>
 some ((bits .or .u64 (bits .or .u64 (bits .or .u64 (bits .or .u64 (bits .or .u64 (bits .or .u64 (bits .or .u64 (gt .u64 (((@Dg v2):Nat):Int)) (gt .u64 ((gt .u64 (((@Dg v3):Nat):Int))*((2:Int) ^ (min (C8 (8:Int)) (C9 .u64)))))) (gt .u64 ((gt .u64 (((@Dg v4):Nat):Int))*((2:Int) ^ (min (C8 (16:Int)) (C9 .u64)))))) (gt .u64 ((gt .u64 (((@Dg v5):Nat):Int))*((2:Int) ^ (min (C8 (24:Int)) (C9 .u64)))))) (gt .u64 ((gt .u64 (((@Dg v6):Nat):Int))*((2:Int) ^ (min (C8 (32:Int)) (C9 .u64)))))) (gt .u64 ((gt .u64 (((@Dg v7):Nat):Int))*((2:Int) ^ (min (C8 (40:Int)) (C9 .u64)))))) (gt .u64 ((gt .u64 (((@Dg v8):Nat):Int))*((2:Int) ^ (min (C8 (48:Int)) (C9 .u64)))))) (gt .u64 ((gt .u64 (((@Dg v9):Nat):Int))*((2:Int) ^ (min (C8 (56:Int)) (C9 .u64)))))))
theorem kS (s0:List UInt8):(runK C7 (Ev91 N) 400 155 [.str] [(.int .u64)] (s0,())).run=aG N s0:=by kernel_rfl
noncomputable def Ev92:ET:=eFn (Ev91 N) 155 [.str] [(.int .u64)] fun c=>aG N c.1
theorem agk:OkE (Ev92 N):=aFn (ann N) (by kernel_rfl) fun c=>kS N c.1
noncomputable def cv:LI:=⟨169,0,[],⟨[(0,.ty .str)],[]⟩,[(.exit 2,⟨[(0,.ty .str)],[]⟩)]⟩
noncomputable def a7 (X:pz29→Option (pz29))(s0:List UInt8):Option (pz29):=
 bif (decide ((32:Int)<(s0.length:Int))) then
  ne (aG N s0) fun v3=>
  ne (b9 s0 (8:Int)) fun v4=>
  ne (aG N v4) fun v5=>
  ne (b9 s0 (16:Int)) fun v6=>
  ne (aG N v6) fun v7=>
  ne (b9 s0 (24:Int)) fun v8=>
  ne (aG N v8) fun v9=>
  bif (cond true (decide ((bits .and .u64 (bits .or .u64 (bits .or .u64 v3 v5) (bits .or .u64 v7 v9)) (9259542123273814144:Int))=(0:Int))) false) then
   ne (b9 s0 (32:Int)) fun v10=>
   (X ((v10,()),()))
  else
   some (((s0,()),()))
 else
  some (((s0,()),()))
noncomputable def ee (c:pz29):Option (pz29):=gl (fun X c=>a7 N X c.1.1) N c
theorem iY (X:pz29→Option (pz29))(s0:List UInt8):(aq C7 (Ev92 N) 400 [128] cv (ao C7 [128] 9) X ((s0,()),())).run=a7 N X s0:=by kernel_rfl
noncomputable def Ev93:(R:Type)→Env R:=Df (Ev92 N) [128] 0 9 (fun R=>lpK C7 cv (fun X c=>a7 N X c.1.1) N)
theorem agj (R:Type):EnvOK C7 (Ev93 N R):=Da (agk N R) (by kernel_rfl) (aw (li:=cv) hmx (agk N _) (by kernel_rfl) ab (fun X c=>iY N X c.1.1) N)
noncomputable def cw:LI:=⟨169,0,[],⟨[(0,.ty .str)],[]⟩,[(.ret,⟨[(2,.ty .bool)],[]⟩),(.exit 0,⟨[],[]⟩)]⟩
noncomputable def am (X:pz29→Option ((((Bool×Unit)×Unit) ⊕ (Unit×Unit))))(s0:List UInt8):Option ((((Bool×Unit)×Unit) ⊕ (Unit×Unit))):=
 bif (decide ((0:Int)<(s0.length:Int))) then
  ne (getI s0 0) fun v3=>
  bif (decide ((((@Dg v3):Nat):Int)<(128:Int))) then
   ne (b9 s0 (1:Int)) fun v4=>
   bif (decide ((8:Int)<(v4.length:Int))) then
    ne (aG N v4) fun v5=>
    ne (some ((cond true (decide ((bits .and .u64 v5 (9259542123273814144:Int))=(0:Int))) false))) fun (v6:Bool)=>
    bif v6 then
     ne (b9 v4 (8:Int)) fun v7=>
     bif (decide ((16:Int)<(v7.length:Int))) then
      ne (aG N v7) fun v8=>
      ne (b9 v7 (8:Int)) fun v9=>
      ne (aG N v9) fun v10=>
      bif (cond true (decide ((bits .and .u64 (bits .or .u64 v8 v10) (9259542123273814144:Int))=(0:Int))) false) then
       ne (b9 v7 (16:Int)) fun v11=>
       ne (ee N ((v11,()),())) fun v12=>
       (X ((v12.1.1,()),()))
      else
       (X ((v7,()),()))
     else
      (X ((v7,()),()))
    else
     (X ((v4,()),()))
   else
    (X ((v4,()),()))
  else
   ne (getI (@C6 Int (240:Int) (@C6 Int (240:Int) (@C6 Int (240:Int) (@C6 Int (240:Int) (@C6 Int (240:Int) (@C6 Int (240:Int) (@C6 Int (240:Int) (@C6 Int (240:Int) (@C6 Int (240:Int) (@C6 Int (240:Int) (@C6 Int (240:Int) (@C6 Int (240:Int) (@C6 Int (240:Int) (@C6 Int (240:Int) (@C6 Int (240:Int) (@C6 Int (240:Int) (@C6 Int (240:Int) (@C6 Int (240:Int) (@C6 Int (240:Int) (@C6 Int (240:Int) (@C6 Int (240:Int) (@C6 Int (240:Int) (@C6 Int (240:Int) (@C6 Int (240:Int) (@C6 Int (240:Int) (@C6 Int (240:Int) (@C6 Int (240:Int) (@C6 Int (240:Int) (@C6 Int (240:Int) (@C6 Int (240:Int) (@C6 Int (240:Int) (@C6 Int (240:Int) (@C6 Int (240:Int) (@C6 Int (240:Int) (@C6 Int (240:Int) (@C6 Int (240:Int) (@C6 Int (240:Int) (@C6 Int (240:Int) (@C6 Int (240:Int) (@C6 Int (240:Int) (@C6 Int (240:Int) (@C6 Int (240:Int) (@C6 Int (240:Int) (@C6 Int (240:Int) (@C6 Int (240:Int) (@C6 Int (240:Int) (@C6 Int (240:Int) (@C6 Int (240:Int) (@C6 Int (240:Int) (@C6 Int (240:Int) (@C6 Int (240:Int) (@C6 Int (240:Int) (@C6 Int (240:Int) (@C6 Int (240:Int) (@C6 Int (240:Int) (@C6 Int (240:Int) (@C6 Int (240:Int) (@C6 Int (240:Int) (@C6 Int (240:Int) (@C6 Int (240:Int) (@C6 Int (240:Int) (@C6 Int (240:Int) (@C6 Int (240:Int) (@C6 Int (240:Int) (@C6 Int (240:Int) (@C6 Int (240:Int) (@C6 Int (240:Int) (@C6 Int (240:Int) (@C6 Int (240:Int) (@C6 Int (240:Int) (@C6 Int (240:Int) (@C6 Int (240:Int) (@C6 Int (240:Int) (@C6 Int (240:Int) (@C6 Int (240:Int) (@C6 Int (240:Int) (@C6 Int (240:Int) (@C6 Int (240:Int) (@C6 Int (240:Int) (@C6 Int (240:Int) (@C6 Int (240:Int) (@C6 Int (240:Int) (@C6 Int (240:Int) (@C6 Int (240:Int) (@C6 Int (240:Int) (@C6 Int (240:Int) (@C6 Int (240:Int) (@C6 Int (240:Int) (@C6 Int (240:Int) (@C6 Int (240:Int) (@C6 Int (240:Int) (@C6 Int (240:Int) (@C6 Int (240:Int) (@C6 Int (240:Int) (@C6 Int (240:Int) (@C6 Int (240:Int) (@C6 Int (240:Int) (@C6 Int (240:Int) (@C6 Int (240:Int) (@C6 Int (240:Int) (@C6 Int (240:Int) (@C6 Int (240:Int) (@C6 Int (240:Int) (@C6 Int (240:Int) (@C6 Int (240:Int) (@C6 Int (240:Int) (@C6 Int (240:Int) (@C6 Int (240:Int) (@C6 Int (240:Int) (@C6 Int (240:Int) (@C6 Int (240:Int) (@C6 Int (240:Int) (@C6 Int (240:Int) (@C6 Int (240:Int) (@C6 Int (240:Int) (@C6 Int (240:Int) (@C6 Int (240:Int) (@C6 Int (240:Int) (@C6 Int (240:Int) (@C6 Int (240:Int) (@C6 Int (240:Int) (@C6 Int (240:Int) (@C6 Int (240:Int) (@C6 Int (240:Int) (@C6 Int (240:Int) (@C6 Int (240:Int) (@C6 Int (240:Int) (@C6 Int (240:Int) (@C6 Int (241:Int) (@C6 Int (241:Int) (@C6 Int (241:Int) (@C6 Int (241:Int) (@C6 Int (241:Int) (@C6 Int (241:Int) (@C6 Int (241:Int) (@C6 Int (241:Int) (@C6 Int (241:Int) (@C6 Int (241:Int) (@C6 Int (241:Int) (@C6 Int (241:Int) (@C6 Int (241:Int) (@C6 Int (241:Int) (@C6 Int (241:Int) (@C6 Int (241:Int) (@C6 Int (241:Int) (@C6 Int (241:Int) (@C6 Int (241:Int) (@C6 Int (241:Int) (@C6 Int (241:Int) (@C6 Int (241:Int) (@C6 Int (241:Int) (@C6 Int (241:Int) (@C6 Int (241:Int) (@C6 Int (241:Int) (@C6 Int (241:Int) (@C6 Int (241:Int) (@C6 Int (241:Int) (@C6 Int (241:Int) (@C6 Int (241:Int) (@C6 Int (241:Int) (@C6 Int (241:Int) (@C6 Int (241:Int) (@C6 Int (241:Int) (@C6 Int (241:Int) (@C6 Int (241:Int) (@C6 Int (241:Int) (@C6 Int (241:Int) (@C6 Int (241:Int) (@C6 Int (241:Int) (@C6 Int (241:Int) (@C6 Int (241:Int) (@C6 Int (241:Int) (@C6 Int (241:Int) (@C6 Int (241:Int) (@C6 Int (241:Int) (@C6 Int (241:Int) (@C6 Int (241:Int) (@C6 Int (241:Int) (@C6 Int (241:Int) (@C6 Int (241:Int) (@C6 Int (241:Int) (@C6 Int (241:Int) (@C6 Int (241:Int) (@C6 Int (241:Int) (@C6 Int (241:Int) (@C6 Int (241:Int) (@C6 Int (241:Int) (@C6 Int (241:Int) (@C6 Int (241:Int) (@C6 Int (241:Int) (@C6 Int (241:Int) (@C6 Int (241:Int) (@C6 Int (241:Int) (@C6 Int (241:Int) (@C6 Int (2:Int) (@C6 Int (2:Int) (@C6 Int (2:Int) (@C6 Int (2:Int) (@C6 Int (2:Int) (@C6 Int (2:Int) (@C6 Int (2:Int) (@C6 Int (2:Int) (@C6 Int (2:Int) (@C6 Int (2:Int) (@C6 Int (2:Int) (@C6 Int (2:Int) (@C6 Int (2:Int) (@C6 Int (2:Int) (@C6 Int (2:Int) (@C6 Int (2:Int) (@C6 Int (2:Int) (@C6 Int (2:Int) (@C6 Int (2:Int) (@C6 Int (2:Int) (@C6 Int (2:Int) (@C6 Int (2:Int) (@C6 Int (2:Int) (@C6 Int (2:Int) (@C6 Int (2:Int) (@C6 Int (2:Int) (@C6 Int (2:Int) (@C6 Int (2:Int) (@C6 Int (2:Int) (@C6 Int (2:Int) (@C6 Int (19:Int) (@C6 Int (3:Int) (@C6 Int (3:Int) (@C6 Int (3:Int) (@C6 Int (3:Int) (@C6 Int (3:Int) (@C6 Int (3:Int) (@C6 Int (3:Int) (@C6 Int (3:Int) (@C6 Int (3:Int) (@C6 Int (3:Int) (@C6 Int (3:Int) (@C6 Int (3:Int) (@C6 Int (35:Int) (@C6 Int (3:Int) (@C6 Int (3:Int) (@C6 Int (52:Int) (@C6 Int (4:Int) (@C6 Int (4:Int) (@C6 Int (4:Int) (@C6 Int (68:Int) (@C6 Int (241:Int) (@C6 Int (241:Int) (@C6 Int (241:Int) ([241,241,241,241,241,241,241,241]:List Int))))))))))))))))))))))))))))))))))))))))))))))))))))))))))))))))))))))))))))))))))))))))))))))))))))))))))))))))))))))))))))))))))))))))))))))))))))))))))))))))))))))))))))))))))))))))))))))))))))))))))))))))))))))))))))))))))))))))))))))))))))))))) (((@Dg v3):Nat):Int)) fun v4=>
   ne (getI ([(128,(191:Int)),(160,(191:Int)),(128,(159:Int)),(144,(191:Int)),(128,(143:Int)),(0,(0:Int)),(0,(0:Int)),(0,(0:Int)),(0,(0:Int)),(0,(0:Int)),(0,(0:Int)),(0,(0:Int)),(0,(0:Int)),(0,(0:Int)),(0,(0:Int)),(0,(0:Int))]:List ((Int×Int))) (@Db v4 ((2:Int) ^ (min (C8 (4:Int)) (C9 .u8))))) fun v5=>
   bif (decide ((gt .i64 (bits .and .u8 v4 (7:Int)))=(2:Int))) then
    bif (decide ((s0.length:Int)<(2:Int))) then
     some ((.inl ((false,()),())))
    else
     ne (getI s0 1) fun v6=>
     bif (cond false true (decide ((((@Dg v6):Nat):Int)<v5.1))) then
      some ((.inl ((false,()),())))
     else
      ne (getI s0 1) fun v7=>
      bif (cond false true (decide (v5.2<(((@Dg v7):Nat):Int)))) then
       some ((.inl ((false,()),())))
      else
       ne (b9 s0 (2:Int)) fun v8=>
       (X ((v8,()),()))
   else
    bif (decide ((gt .i64 (bits .and .u8 v4 (7:Int)))=(3:Int))) then
     bif (decide ((s0.length:Int)<(3:Int))) then
      some ((.inl ((false,()),())))
     else
      ne (getI s0 1) fun v6=>
      bif (cond false true (decide ((((@Dg v6):Nat):Int)<v5.1))) then
       some ((.inl ((false,()),())))
      else
       ne (getI s0 1) fun v7=>
       bif (cond false true (decide (v5.2<(((@Dg v7):Nat):Int)))) then
        some ((.inl ((false,()),())))
       else
        ne (getI s0 2) fun v8=>
        bif (cond false true (decide ((((@Dg v8):Nat):Int)<(128:Int)))) then
         some ((.inl ((false,()),())))
        else
         ne (getI s0 2) fun v9=>
         bif (cond false true (decide ((191:Int)<(((@Dg v9):Nat):Int)))) then
          some ((.inl ((false,()),())))
         else
          ne (b9 s0 (3:Int)) fun v10=>
          (X ((v10,()),()))
    else
     bif (decide ((gt .i64 (bits .and .u8 v4 (7:Int)))=(4:Int))) then
      bif (decide ((s0.length:Int)<(4:Int))) then
       some ((.inl ((false,()),())))
      else
       ne (getI s0 1) fun v6=>
       bif (cond false true (decide ((((@Dg v6):Nat):Int)<v5.1))) then
        some ((.inl ((false,()),())))
       else
        ne (getI s0 1) fun v7=>
        bif (cond false true (decide (v5.2<(((@Dg v7):Nat):Int)))) then
         some ((.inl ((false,()),())))
        else
         ne (getI s0 2) fun v8=>
         bif (cond false true (decide ((((@Dg v8):Nat):Int)<(128:Int)))) then
          some ((.inl ((false,()),())))
         else
          ne (getI s0 2) fun v9=>
          bif (cond false true (decide ((191:Int)<(((@Dg v9):Nat):Int)))) then
           some ((.inl ((false,()),())))
          else
           ne (getI s0 3) fun v10=>
           bif (cond false true (decide ((((@Dg v10):Nat):Int)<(128:Int)))) then
            some ((.inl ((false,()),())))
           else
            ne (getI s0 3) fun v11=>
            bif (cond false true (decide ((191:Int)<(((@Dg v11):Nat):Int)))) then
             some ((.inl ((false,()),())))
            else
             ne (b9 s0 (4:Int)) fun v12=>
             (X ((v12,()),()))
     else
      some ((.inl ((false,()),())))
 else
  some ((.inr ((),())))
end
end Go.Proofs.YtolkfnemdejonaaGreatDoor
