/-
  Parts of my own, one behind the other: GCpB, GCp, QCD1.
-/
import Derived.Test.YtllpjoggnfclgaaGreatDoorMrg8
import Derived.Test.YtllpjoggnfclgaaGreatDoorMrg4
open List renaming cons→gt, length→Dq, toArray→Ds, replicate→DI, append→DL
open Option renaming bind→ne, bind_some→DN
open Go.Proofs.Tryz renaming prog→Do
open Go.IntKind renaming wrap→Dp, bits→Dz
open Array renaming toList→Dr
open Go.Proofs.YtllpjoggnfclgaaGreatDoor.EnvOK renaming addFn→Dt, addLp→Dw, addBx→DA, addMv→DK, addExt→DO
open Go.Proofs.YtllpjoggnfclgaaGreatDoor.Env renaming addFn→Du, addLp→Dx, addBx→DE, addMv→DM
open Int renaming toNat→Dv, tmod→DH, fdiv→DJ
open UInt8 renaming toNat→Dy
open Go.Proofs.YtllpjoggnfclgaaGreatDoor.Arr renaming cons→DB
open Go.Lib renaming cut→DC, trimPrefix→DD, itoa→DF
open Sum renaming elim→DP
namespace Go.Proofs.YtllpjoggnfclgaaGreatDoor
open Go.RowKit
set_option linter.unusedVariables false
set_option maxRecDepth 100000
section
variable (N:Nat)
noncomputable def af (X:pz29→Option ((((Bool×Unit)×Unit) ⊕ (Unit×Unit))))(s0:List UInt8):Option ((((Bool×Unit)×Unit) ⊕ (Unit×Unit))):=
 bif (decide ((0:Int)<(((Dq s0):Nat):Int))) then
  ne (getI s0 (0:Int)) fun (v3:UInt8)=>
  bif (decide ((((@Dy v3):Nat):Int)<(128:Int))) then
   ne (bJ s0 (1:Int)) fun (v4:(List UInt8))=>
   bif (decide ((8:Int)<(((Dq v4):Nat):Int))) then
    ne (aA N v4) fun v5=>
    ne (some ((cond true (decide ((bits .and .u64 v5 (9259542123273814144:Int))=(0:Int))) false))) fun (v6:Bool)=>
    bif v6 then
     ne (bJ v4 (8:Int)) fun (v7:(List UInt8))=>
     bif (decide ((16:Int)<(((Dq v7):Nat):Int))) then
      ne (aA N v7) fun v8=>
      ne (bJ v7 (8:Int)) fun (v9:(List UInt8))=>
      ne (aA N v9) fun v10=>
      bif (cond true (decide ((bits .and .u64 (bits .or .u64 v8 v10) (9259542123273814144:Int))=(0:Int))) false) then
       ne (bJ v7 (16:Int)) fun (v11:(List UInt8))=>
       ne (dN N ((v11,()),())) fun v12=>
       (X ((v12.1.1,()),()))
      else
       (X ((v7,()),()))
     else
      (X ((v7,()),()))
    else
     (X ((v4,()),()))
   else
    (X ((v4,()),()))
  else
   ne (getI (@gt Int (240:Int) (@gt Int (240:Int) (@gt Int (240:Int) (@gt Int (240:Int) (@gt Int (240:Int) (@gt Int (240:Int) (@gt Int (240:Int) (@gt Int (240:Int) (@gt Int (240:Int) (@gt Int (240:Int) (@gt Int (240:Int) (@gt Int (240:Int) (@gt Int (240:Int) (@gt Int (240:Int) (@gt Int (240:Int) (@gt Int (240:Int) (@gt Int (240:Int) (@gt Int (240:Int) (@gt Int (240:Int) (@gt Int (240:Int) (@gt Int (240:Int) (@gt Int (240:Int) (@gt Int (240:Int) (@gt Int (240:Int) (@gt Int (240:Int) (@gt Int (240:Int) (@gt Int (240:Int) (@gt Int (240:Int) (@gt Int (240:Int) (@gt Int (240:Int) (@gt Int (240:Int) (@gt Int (240:Int) (@gt Int (240:Int) (@gt Int (240:Int) (@gt Int (240:Int) (@gt Int (240:Int) (@gt Int (240:Int) (@gt Int (240:Int) (@gt Int (240:Int) (@gt Int (240:Int) (@gt Int (240:Int) (@gt Int (240:Int) (@gt Int (240:Int) (@gt Int (240:Int) (@gt Int (240:Int) (@gt Int (240:Int) (@gt Int (240:Int) (@gt Int (240:Int) (@gt Int (240:Int) (@gt Int (240:Int) (@gt Int (240:Int) (@gt Int (240:Int) (@gt Int (240:Int) (@gt Int (240:Int) (@gt Int (240:Int) (@gt Int (240:Int) (@gt Int (240:Int) (@gt Int (240:Int) (@gt Int (240:Int) (@gt Int (240:Int) (@gt Int (240:Int) (@gt Int (240:Int) (@gt Int (240:Int) (@gt Int (240:Int) (@gt Int (240:Int) (@gt Int (240:Int) (@gt Int (240:Int) (@gt Int (240:Int) (@gt Int (240:Int) (@gt Int (240:Int) (@gt Int (240:Int) (@gt Int (240:Int) (@gt Int (240:Int) (@gt Int (240:Int) (@gt Int (240:Int) (@gt Int (240:Int) (@gt Int (240:Int) (@gt Int (240:Int) (@gt Int (240:Int) (@gt Int (240:Int) (@gt Int (240:Int) (@gt Int (240:Int) (@gt Int (240:Int) (@gt Int (240:Int) (@gt Int (240:Int) (@gt Int (240:Int) (@gt Int (240:Int) (@gt Int (240:Int) (@gt Int (240:Int) (@gt Int (240:Int) (@gt Int (240:Int) (@gt Int (240:Int) (@gt Int (240:Int) (@gt Int (240:Int) (@gt Int (240:Int) (@gt Int (240:Int) (@gt Int (240:Int) (@gt Int (240:Int) (@gt Int (240:Int) (@gt Int (240:Int) (@gt Int (240:Int) (@gt Int (240:Int) (@gt Int (240:Int) (@gt Int (240:Int) (@gt Int (240:Int) (@gt Int (240:Int) (@gt Int (240:Int) (@gt Int (240:Int) (@gt Int (240:Int) (@gt Int (240:Int) (@gt Int (240:Int) (@gt Int (240:Int) (@gt Int (240:Int) (@gt Int (240:Int) (@gt Int (240:Int) (@gt Int (240:Int) (@gt Int (240:Int) (@gt Int (240:Int) (@gt Int (240:Int) (@gt Int (240:Int) (@gt Int (240:Int) (@gt Int (240:Int) (@gt Int (240:Int) (@gt Int (240:Int) (@gt Int (240:Int) (@gt Int (240:Int) (@gt Int (240:Int) (@gt Int (240:Int) (@gt Int (241:Int) (@gt Int (241:Int) (@gt Int (241:Int) (@gt Int (241:Int) (@gt Int (241:Int) (@gt Int (241:Int) (@gt Int (241:Int) (@gt Int (241:Int) (@gt Int (241:Int) (@gt Int (241:Int) (@gt Int (241:Int) (@gt Int (241:Int) (@gt Int (241:Int) (@gt Int (241:Int) (@gt Int (241:Int) (@gt Int (241:Int) (@gt Int (241:Int) (@gt Int (241:Int) (@gt Int (241:Int) (@gt Int (241:Int) (@gt Int (241:Int) (@gt Int (241:Int) (@gt Int (241:Int) (@gt Int (241:Int) (@gt Int (241:Int) (@gt Int (241:Int) (@gt Int (241:Int) (@gt Int (241:Int) (@gt Int (241:Int) (@gt Int (241:Int) (@gt Int (241:Int) (@gt Int (241:Int) (@gt Int (241:Int) (@gt Int (241:Int) (@gt Int (241:Int) (@gt Int (241:Int) (@gt Int (241:Int) (@gt Int (241:Int) (@gt Int (241:Int) (@gt Int (241:Int) (@gt Int (241:Int) (@gt Int (241:Int) (@gt Int (241:Int) (@gt Int (241:Int) (@gt Int (241:Int) (@gt Int (241:Int) (@gt Int (241:Int) (@gt Int (241:Int) (@gt Int (241:Int) (@gt Int (241:Int) (@gt Int (241:Int) (@gt Int (241:Int) (@gt Int (241:Int) (@gt Int (241:Int) (@gt Int (241:Int) (@gt Int (241:Int) (@gt Int (241:Int) (@gt Int (241:Int) (@gt Int (241:Int) (@gt Int (241:Int) (@gt Int (241:Int) (@gt Int (241:Int) (@gt Int (241:Int) (@gt Int (241:Int) (@gt Int (241:Int) (@gt Int (241:Int) (@gt Int (2:Int) (@gt Int (2:Int) (@gt Int (2:Int) (@gt Int (2:Int) (@gt Int (2:Int) (@gt Int (2:Int) (@gt Int (2:Int) (@gt Int (2:Int) (@gt Int (2:Int) (@gt Int (2:Int) (@gt Int (2:Int) (@gt Int (2:Int) (@gt Int (2:Int) (@gt Int (2:Int) (@gt Int (2:Int) (@gt Int (2:Int) (@gt Int (2:Int) (@gt Int (2:Int) (@gt Int (2:Int) (@gt Int (2:Int) (@gt Int (2:Int) (@gt Int (2:Int) (@gt Int (2:Int) (@gt Int (2:Int) (@gt Int (2:Int) (@gt Int (2:Int) (@gt Int (2:Int) (@gt Int (2:Int) (@gt Int (2:Int) (@gt Int (2:Int) (@gt Int (19:Int) (@gt Int (3:Int) (@gt Int (3:Int) (@gt Int (3:Int) (@gt Int (3:Int) (@gt Int (3:Int) (@gt Int (3:Int) (@gt Int (3:Int) (@gt Int (3:Int) (@gt Int (3:Int) (@gt Int (3:Int) (@gt Int (3:Int) (@gt Int (3:Int) (@gt Int (35:Int) (@gt Int (3:Int) (@gt Int (3:Int) (@gt Int (52:Int) (@gt Int (4:Int) (@gt Int (4:Int) (@gt Int (4:Int) (@gt Int (68:Int) (@gt Int (241:Int) (@gt Int (241:Int) (@gt Int (241:Int) ([241,241,241,241,241,241,241,241]:List Int))))))))))))))))))))))))))))))))))))))))))))))))))))))))))))))))))))))))))))))))))))))))))))))))))))))))))))))))))))))))))))))))))))))))))))))))))))))))))))))))))))))))))))))))))))))))))))))))))))))))))))))))))))))))))))))))))))))))))))))))))))))))) (((@Dy v3):Nat):Int)) fun (v4:Int)=>
   ne (getI ([((128:Int),(191:Int)),((160:Int),(191:Int)),((128:Int),(159:Int)),((144:Int),(191:Int)),((128:Int),(143:Int)),((0:Int),(0:Int)),((0:Int),(0:Int)),((0:Int),(0:Int)),((0:Int),(0:Int)),((0:Int),(0:Int)),((0:Int),(0:Int)),((0:Int),(0:Int)),((0:Int),(0:Int)),((0:Int),(0:Int)),((0:Int),(0:Int)),((0:Int),(0:Int))]:List ((Int×Int))) (@DJ v4 ((2:Int) ^ (min (Dv (4:Int)) (Dz .u8))))) fun (v5:(Int×Int))=>
   bif (decide ((Dp .i64 (bits .and .u8 v4 (7:Int)))=(2:Int))) then
    bif (decide ((((Dq s0):Nat):Int)<(2:Int))) then
     some ((.inl ((false,()),())))
    else
     ne (getI s0 (1:Int)) fun (v6:UInt8)=>
     bif (cond false true (decide ((((@Dy v6):Nat):Int)<v5.1))) then
      some ((.inl ((false,()),())))
     else
      ne (getI s0 (1:Int)) fun (v7:UInt8)=>
      bif (cond false true (decide (v5.2<(((@Dy v7):Nat):Int)))) then
       some ((.inl ((false,()),())))
      else
       ne (bJ s0 (2:Int)) fun (v8:(List UInt8))=>
       (X ((v8,()),()))
   else
    bif (decide ((Dp .i64 (bits .and .u8 v4 (7:Int)))=(3:Int))) then
     bif (decide ((((Dq s0):Nat):Int)<(3:Int))) then
      some ((.inl ((false,()),())))
     else
      ne (getI s0 (1:Int)) fun (v6:UInt8)=>
      bif (cond false true (decide ((((@Dy v6):Nat):Int)<v5.1))) then
       some ((.inl ((false,()),())))
      else
       ne (getI s0 (1:Int)) fun (v7:UInt8)=>
       bif (cond false true (decide (v5.2<(((@Dy v7):Nat):Int)))) then
        some ((.inl ((false,()),())))
       else
        ne (getI s0 (2:Int)) fun (v8:UInt8)=>
        bif (cond false true (decide ((((@Dy v8):Nat):Int)<(128:Int)))) then
         some ((.inl ((false,()),())))
        else
         ne (getI s0 (2:Int)) fun (v9:UInt8)=>
         bif (cond false true (decide ((191:Int)<(((@Dy v9):Nat):Int)))) then
          some ((.inl ((false,()),())))
         else
          ne (bJ s0 (3:Int)) fun (v10:(List UInt8))=>
          (X ((v10,()),()))
    else
     bif (decide ((Dp .i64 (bits .and .u8 v4 (7:Int)))=(4:Int))) then
      bif (decide ((((Dq s0):Nat):Int)<(4:Int))) then
       some ((.inl ((false,()),())))
      else
       ne (getI s0 (1:Int)) fun (v6:UInt8)=>
       bif (cond false true (decide ((((@Dy v6):Nat):Int)<v5.1))) then
        some ((.inl ((false,()),())))
       else
        ne (getI s0 (1:Int)) fun (v7:UInt8)=>
        bif (cond false true (decide (v5.2<(((@Dy v7):Nat):Int)))) then
         some ((.inl ((false,()),())))
        else
         ne (getI s0 (2:Int)) fun (v8:UInt8)=>
         bif (cond false true (decide ((((@Dy v8):Nat):Int)<(128:Int)))) then
          some ((.inl ((false,()),())))
         else
          ne (getI s0 (2:Int)) fun (v9:UInt8)=>
          bif (cond false true (decide ((191:Int)<(((@Dy v9):Nat):Int)))) then
           some ((.inl ((false,()),())))
          else
           ne (getI s0 (3:Int)) fun (v10:UInt8)=>
           bif (cond false true (decide ((((@Dy v10):Nat):Int)<(128:Int)))) then
            some ((.inl ((false,()),())))
           else
            ne (getI s0 (3:Int)) fun (v11:UInt8)=>
            bif (cond false true (decide ((191:Int)<(((@Dy v11):Nat):Int)))) then
             some ((.inl ((false,()),())))
            else
             ne (bJ s0 (4:Int)) fun (v12:(List UInt8))=>
             (X ((v12,()),()))
     else
      some ((.inl ((false,()),())))
 else
  some ((.inr ((),())))
noncomputable def dO (c:pz29):Option ((((Bool×Unit)×Unit) ⊕ (Unit×Unit))):=gl (fun X c=>af N X c.1.1) N c
theorem ib (X:pz29→Option ((((Bool×Unit)×Unit) ⊕ (Unit×Unit))))(s0:List UInt8):(am Do (Ev94 N) 400 [146] bZ (ak Do [146] 1) X ((s0,()),())).run=af N X s0:=by kernel_rfl
noncomputable def Ev95:(R:Type)→Env R:=Dx (Ev94 N) [146] 0 1 (fun R=>lpK Do bZ (fun X c=>af N X c.1.1) N)
theorem agP (R:Type):EnvOK Do (Ev95 N R):=Dw (agQ N R) (by kernel_rfl) (aq (li:=bZ) hmx (agQ N _) (by kernel_rfl) ab (fun X c=>ib N X c.1.1) N)
noncomputable def be (s0:List UInt8):Option Bool:=
 ne (dO N ((s0,()),())) fun v2=>
 DP
  (fun (v3:((Bool×Unit)×Unit))=>
  some (v3.1.1))
  (fun (v3:(Unit×Unit))=>
  some (true)) v2
theorem jS (s0:List UInt8):(runK Do (Ev95 N) 400 146 [.str] [.bool] (s0,())).run=be N s0:=by kernel_rfl
noncomputable def Ev96:(R:Type)→Env R:=Du (Ev95 N) 146 (fun R=>fnK [.str] [.bool] (fun c=>be N c.1))
theorem agO (R:Type):EnvOK Do (Ev96 N R):=Dt hmx (agP N R) (agP N _) (by kernel_rfl) (fun c=>jS N c.1)
noncomputable def bo:LI:=⟨10,0,[],⟨[(2,.ty (.int .i64)),(4,.lit (.box 0 0))],[.itr]⟩,[(.exit 0,⟨[(2,.ty (.int .i64))],[]⟩)]⟩
noncomputable def aH (N:Nat)(X:((Int×Unit)×pz26)→Option (((Int×Unit)×Unit)))(n2:Int)(h0:List UInt8)(h1:Int):Option (((Int×Unit)×Unit)):=
 bif (decide ((Dv h1)<(Dq h0))) then
  (X (((Dp .i64 (n2+1)),()),(h0,(((((Dv h1):Nat):Int)+(@rdec h0 h1).2),()))))
 else
  some (((n2,()),()))
noncomputable def cv (c:((Int×Unit)×pz26)):Option (((Int×Unit)×Unit)):=gl (fun X c=>aH N X c.1.1 c.2.1 c.2.2.1) N c
theorem eT (X:((Int×Unit)×pz26)→Option (((Int×Unit)×Unit)))(n2:Int)(h0:List UInt8)(h1:Int):(am Do (Ev96 N) 400 [179] bo (ak Do [179] 2) X ((n2,()),(h0,h1,()))).run=aH N X n2 h0 h1:=by kernel_rfl
noncomputable def Ev97:(R:Type)→Env R:=Dx (Ev96 N) [179] 0 2 (fun R=>lpK Do bo (fun X c=>aH N X c.1.1 c.2.1 c.2.2.1) N)
theorem agN (R:Type):EnvOK Do (Ev97 N R):=Dw (agO N R) (by kernel_rfl) (aq (li:=bo) hmx (agO N _) (by kernel_rfl) ab (fun X c=>eT N X c.1.1 c.2.1 c.2.2.1) N)
noncomputable def aV (s0:List UInt8):Option Int:=
 ne (cv N (((0:Int),()),(s0,((0:Int),())))) fun v2=>
 some (v2.1.1)
theorem fZ (s0:List UInt8):(runK Do (Ev97 N) 400 179 [.str] [(.int .i64)] (s0,())).run=aV N s0:=by kernel_rfl
noncomputable def Ev98:(R:Type)→Env R:=Du (Ev97 N) 179 (fun R=>fnK [.str] [(.int .i64)] (fun c=>aV N c.1))
theorem agM (R:Type):EnvOK Do (Ev98 N R):=Dt hmx (agN N R) (agN N _) (by kernel_rfl) (fun c=>fZ N c.1)
noncomputable def lU (s0:List UInt8):Option Int:=
 ne (be N s0) fun v2=>
 bif (!v2) then
  some ((0:Int))
 else
  ne (aV N s0) fun v3=>
  some (v3)
theorem wT (s0:List UInt8):(runK Do (Ev98 N) 400 147 [.str] [(.int .i64)] (s0,())).run=lU N s0:=by kernel_rfl
noncomputable def Ev99:(R:Type)→Env R:=Du (Ev98 N) 147 (fun R=>fnK [.str] [(.int .i64)] (fun c=>lU N c.1))
theorem agL (R:Type):EnvOK Do (Ev99 N R):=Dt hmx (agM N R) (agM N _) (by kernel_rfl) (fun c=>wT N c.1)
noncomputable def kR (s0:List UInt8):Option Int:=
 ne (be N s0) fun v2=>
 bif (!v2) then
  some ((3:Int))
 else
  ne (lU N s0) fun v3=>
  bif (decide ((64:Int)<v3)) then
   some ((8:Int))
  else
   some ((0:Int))
theorem A1 (s0:List UInt8):(runK Do (Ev99 N) 400 108 [.str] [(.int .i64)] (s0,())).run=kR N s0:=by kernel_rfl
noncomputable def arQ:(R:Type)→Env R:=Du (Ev99 N) 108 (fun R=>fnK [.str] [(.int .i64)] (fun c=>kR N c.1))
theorem akr (R:Type):EnvOK Do (arQ N R):=Dt hmx (agL N R) (agL N _) (by kernel_rfl) (fun c=>A1 N c.1)
noncomputable def apw:(R:Type)→Env R:=DM (arQ N) [(109,8),(109,10)]
theorem ac0 (R:Type):EnvOK Do (apw N R):=DK (akr N R) [(109,8),(109,10)]
noncomputable def hU:LI:=⟨36,0,[(3,145)],⟨[(3,.lit (.own 0)),(11,.lit (.box 1 0))],[.own (.int .u16) 145,.itr]⟩,[(.exit 0,⟨[(3,.lit (.own 0))],[.own (.int .u16) 145]⟩)]⟩
noncomputable def dQ (N:Nat)(X:(Unit×((List Int)×pz26))→Option pz3)(h0:List (Int))(h1:List UInt8)(h2:Int):Option pz3:=
 bif (decide ((Dv h2)<(Dq h1))) then
  bif (decide ((@rdec h1 h2).1<(65536:Int))) then
   bif (ae ((Dq h0)+(Dq ([(Dp .u16 (@rdec h1 h2).1)]:List (Int)))) 2) then
    (X ((),((h0++([(Dp .u16 (@rdec h1 h2).1)]:List (Int))),(h1,(((((Dv h2):Nat):Int)+(@rdec h1 h2).2),())))))
   else
    none
  else
   bif (ae ((Dq h0)+(Dq ([(Dp .u16 (Dp .i32 ((55296:Int)+(@DJ (Dp .i32 ((@rdec h1 h2).1-65536)) ((2:Int) ^ (min (Dv (10:Int)) (Dz .i32))))))),(Dp .u16 (Dp .i32 ((56320:Int)+(bits .and .i32 (Dp .i32 ((@rdec h1 h2).1-65536)) (1023:Int)))))]:List (Int)))) 2) then
    (X ((),((h0++([(Dp .u16 (Dp .i32 ((55296:Int)+(@DJ (Dp .i32 ((@rdec h1 h2).1-65536)) ((2:Int) ^ (min (Dv (10:Int)) (Dz .i32))))))),(Dp .u16 (Dp .i32 ((56320:Int)+(bits .and .i32 (Dp .i32 ((@rdec h1 h2).1-65536)) (1023:Int)))))]:List (Int))),(h1,(((((Dv h2):Nat):Int)+(@rdec h1 h2).2),())))))
   else
    none
 else
  some (((),(h0,())))
noncomputable def mS (c:(Unit×((List Int)×pz26))):Option pz3:=gl (fun X c=>dQ N X c.2.1 c.2.2.1 c.2.2.2.1) N c
theorem rZ (X:(Unit×((List Int)×pz26))→Option pz3)(h0:List (Int))(h1:List UInt8)(h2:Int):(am Do (apw N) 400 [109] hU (ak Do [109] 5) X ((),(h0,h1,h2,()))).run=dQ N X h0 h1 h2:=by kernel_rfl
noncomputable def apv:(R:Type)→Env R:=Dx (apw N) [109] 0 5 (fun R=>lpK Do hU (fun X c=>dQ N X c.2.1 c.2.2.1 c.2.2.2.1) N)
theorem acZ (R:Type):EnvOK Do (apv N R):=Dw (ac0 N R) (by kernel_rfl) (aq (li:=hU) hmx (ac0 N _) (by kernel_rfl) ab (fun X c=>rZ N X c.2.1 c.2.2.1 c.2.2.2.1) N)
noncomputable def iS (s0:List UInt8):Option (List Int):=
 ne (kR N s0) fun v2=>
 bif (!(decide (v2=(0:Int)))) then
  some (([]:List Int))
 else
  ne (mS N ((),(([]:List Int),(s0,((0:Int),()))))) fun v3=>
  some (v3.2.1)
theorem wS (s0:List UInt8):(runK Do (apv N) 400 109 [.str] [(.sl (.int .u16))] (s0,())).run=iS N s0:=by kernel_rfl
noncomputable def apu:(R:Type)→Env R:=Du (apv N) 109 (fun R=>fnK [.str] [(.sl (.int .u16))] (fun c=>iS N c.1))
theorem acY (R:Type):EnvOK Do (apu N R):=Dt hmx (acZ N R) (acZ N _) (by kernel_rfl) (fun c=>wS N c.1)
noncomputable def kg:LI:=⟨33,0,[(5,5)],⟨[(5,.lit (.own 0)),(16,.ty (.sl (.int .u16))),(17,.ty (.int .i64)),(18,.ty (.int .i64))],[.own (.int .u8) 5]⟩,[(.exit 0,⟨[(5,.lit (.own 0))],[.own (.int .u8) 5]⟩)]⟩
noncomputable def ff (X:(pz5×((List Int)×Unit))→Option pz3)(x16:List (Int))(x17:Int)(x18:Int)(h0:List (Int)):Option pz3:=
 bif (decide (x18<x17)) then
  ne (getI x16 x18) fun (v6:Int)=>
  ne (cm N (Dp .u64 v6) (2:Int) true) fun v7=>
  bif (ae ((Dq h0)+(Dq v7.1)) 1) then
   (X ((x16,(x17,((Dp .i64 (x18+1)),()))),((h0++v7.1),())))
  else
   none
 else
  some (((),(h0,())))
noncomputable def oX (c:(pz5×((List Int)×Unit))):Option pz3:=gl (fun X c=>ff N X c.1.1 c.1.2.1 c.1.2.2.1 c.2.1) N c
theorem uY (X:(pz5×((List Int)×Unit))→Option pz3)(x16:List (Int))(x17:Int)(x18:Int)(h0:List (Int)):(am Do (apu N) 400 [77] kg (ak Do [77] 6) X ((x16,x17,x18,()),(h0,()))).run=ff N X x16 x17 x18 h0:=by kernel_rfl
noncomputable def apt:(R:Type)→Env R:=Dx (apu N) [77] 0 6 (fun R=>lpK Do kg (fun X c=>ff N X c.1.1 c.1.2.1 c.1.2.2.1 c.2.1) N)
theorem acX (R:Type):EnvOK Do (apt N R):=Dw (acY N R) (by kernel_rfl) (aq (li:=kg) hmx (acY N _) (by kernel_rfl) ab (fun X c=>uY N X c.1.1 c.1.2.1 c.1.2.2.1 c.2.1) N)
noncomputable def nk (s0:List UInt8):Option ((List Int)×Int):=
 ne (kR N s0) fun v2=>
 bif (!(decide (v2=(0:Int)))) then
  some ((([]:List Int),v2))
 else
  ne (iS N s0) fun v3=>
  ne (oX N ((v3,((((Dq v3):Nat):Int),((0:Int),()))),(([]:List Int),()))) fun v4=>
  some ((v4.2.1,(0:Int)))
theorem A2 (s0:List UInt8):(runK Do (apt N) 400 77 [.str] [(.sl (.int .u8)),(.int .i64)] (s0,())).run=nk N s0:=by kernel_rfl
noncomputable def arP:(R:Type)→Env R:=Du (apt N) 77 (fun R=>fnK [.str] [(.sl (.int .u8)),(.int .i64)] (fun c=>nk N c.1))
theorem akq (R:Type):EnvOK Do (arP N R):=Dt hmx (acX N R) (acX N _) (by kernel_rfl) (fun c=>A2 N c.1)
noncomputable def aps:(R:Type)→Env R:=DM (arP N) [(126,7)]
theorem acW (R:Type):EnvOK Do (aps N R):=DK (akq N R) [(126,7)]
noncomputable def fj (N:Nat)(s0:List UInt8)(i1:Int):Option (Int×Bool):=
 ne (bif (decide ((((Dq s0):Nat):Int)≤i1)) then
   some (true)
  else
   ne (getI s0 i1) fun (v3:UInt8)=>
   some ((cond false true (decide ((((@Dy v3):Nat):Int)<(128:Int)))))) fun (v3:Bool)=>
 ne (bif v3 then
   some (true)
  else
   ne (getI s0 i1) fun (v4:UInt8)=>
   some ((cond false true (decide ((191:Int)<(((@Dy v4):Nat):Int)))))) fun (v4:Bool)=>
 bif v4 then
  some (((0:Int),false))
 else
  ne (getI s0 i1) fun (v5:UInt8)=>
  some (((Dp .i64 ((Dp .i64 (((@Dy v5):Nat):Int))-128)),true))
theorem zn (s0:List UInt8)(i1:Int):(runK Do (aps N) 400 194 [.str,(.int .i64)] [(.int .i64),.bool] (s0,i1,())).run=fj N s0 i1:=by kernel_rfl
noncomputable def apr:(R:Type)→Env R:=Du (aps N) 194 (fun R=>fnK [.str,(.int .i64)] [(.int .i64),.bool] (fun c=>fj N c.1 c.2.1))
theorem acV (R:Type):EnvOK Do (apr N R):=Dt hmx (acW N R) (acW N _) (by kernel_rfl) (fun c=>zn N c.1 c.2.1)
noncomputable def im:LI:=⟨85,0,[],⟨[(0,.ty .str),(1,.ty (.int .i64)),(7,.ty (.int .i64)),(8,.ty (.int .i64)),(9,.ty (.int .i64)),(10,.ty (.int .i64))],[]⟩,[(.ret,⟨[(4,.ty (.int .i64)),(5,.ty (.int .i64))],[]⟩),(.exit 1,⟨[(7,.ty (.int .i64)),(8,.ty (.int .i64)),(9,.ty (.int .i64))],[]⟩)]⟩
noncomputable def dS (X:((List UInt8×(Int×(Int×pz9)))×Unit)→Option ((pz14 ⊕ (pz9×Unit))))(s0:List UInt8)(i1:Int)(need7:Int)(n8:Int)(least9:Int)(k10:Int):Option ((pz14 ⊕ (pz9×Unit))):=
 bif (decide (k10≤need7)) then
  ne (fj N s0 (Dp .i64 (i1+k10))) fun v8=>
  bif (!v8.2) then
   some ((.inl (((0:Int),((0:Int),())),())))
  else
   (X ((s0,(i1,(need7,((Dp .i64 ((Dp .i64 ((64:Int)*n8))+v8.1)),(least9,((Dp .i64 (k10+1)),())))))),()))
 else
  some ((.inr ((need7,(n8,(least9,()))),())))
noncomputable def b9 (c:((List UInt8×(Int×(Int×pz9)))×Unit)):Option ((pz14 ⊕ (pz9×Unit))):=gl (fun X c=>dS N X c.1.1 c.1.2.1 c.1.2.2.1 c.1.2.2.2.1 c.1.2.2.2.2.1 c.1.2.2.2.2.2.1) N c
theorem sj (X:((List UInt8×(Int×(Int×pz9)))×Unit)→Option ((pz14 ⊕ (pz9×Unit))))(s0:List UInt8)(i1:Int)(need7:Int)(n8:Int)(least9:Int)(k10:Int):(am Do (apr N) 400 [162] im (ak Do [162] 13) X ((s0,i1,need7,n8,least9,k10,()),())).run=dS N X s0 i1 need7 n8 least9 k10:=by kernel_rfl
noncomputable def apq:(R:Type)→Env R:=Dx (apr N) [162] 0 13 (fun R=>lpK Do im (fun X c=>dS N X c.1.1 c.1.2.1 c.1.2.2.1 c.1.2.2.2.1 c.1.2.2.2.2.1 c.1.2.2.2.2.2.1) N)
theorem acU (R:Type):EnvOK Do (apq N R):=Dw (acV N R) (by kernel_rfl) (aq (li:=im) hmx (acV N _) (by kernel_rfl) ab (fun X c=>sj N X c.1.1 c.1.2.1 c.1.2.2.1 c.1.2.2.2.1 c.1.2.2.2.2.1 c.1.2.2.2.2.2.1) N)
noncomputable def ld (s0:List UInt8)(i1:Int):Option (Int×Int):=
 ne (getI s0 i1) fun (v3:UInt8)=>
 bif (decide ((Dp .i64 (((@Dy v3):Nat):Int))<(128:Int))) then
  some (((Dp .i64 (((@Dy v3):Nat):Int)),(1:Int)))
 else
  ne (bif (decide ((192:Int)≤(Dp .i64 (((@Dy v3):Nat):Int)))) then
    some ((cond true (decide ((Dp .i64 (((@Dy v3):Nat):Int))<(224:Int))) false))
   else
    some (false)) fun (v4:Bool)=>
  bif v4 then
   ne (b9 N ((s0,(i1,((1:Int),((Dp .i64 ((Dp .i64 (((@Dy v3):Nat):Int))-192)),((128:Int),((1:Int),())))))),())) fun v5=>
   DP
    (fun (v6:pz14)=>
    some ((v6.1.1,v6.1.2.1)))
    (fun (v6:(pz9×Unit))=>
    ne (bif (decide (v6.1.2.1<v6.1.2.2.1)) then
      some (true)
     else
      some ((cond false true (decide ((1114111:Int)<v6.1.2.1))))) fun (v7:Bool)=>
    ne (bif v7 then
      some (true)
     else
      bif (decide ((55296:Int)≤v6.1.2.1)) then
       some ((cond false true (cond true (decide (v6.1.2.1≤(57343:Int))) false)))
      else
       some ((cond false true false))) fun (v8:Bool)=>
    bif v8 then
     some (((0:Int),(0:Int)))
    else
     some ((v6.1.2.1,(Dp .i64 (v6.1.1+1))))) v5
  else
   ne (bif (decide ((224:Int)≤(Dp .i64 (((@Dy v3):Nat):Int)))) then
     some ((cond true (decide ((Dp .i64 (((@Dy v3):Nat):Int))<(240:Int))) false))
    else
     some (false)) fun (v5:Bool)=>
   bif v5 then
    ne (b9 N ((s0,(i1,((2:Int),((Dp .i64 ((Dp .i64 (((@Dy v3):Nat):Int))-224)),((2048:Int),((1:Int),())))))),())) fun v6=>
    DP
     (fun (v7:pz14)=>
     some ((v7.1.1,v7.1.2.1)))
     (fun (v7:(pz9×Unit))=>
     ne (bif (decide (v7.1.2.1<v7.1.2.2.1)) then
       some (true)
      else
       some ((cond false true (decide ((1114111:Int)<v7.1.2.1))))) fun (v8:Bool)=>
     ne (bif v8 then
       some (true)
      else
       bif (decide ((55296:Int)≤v7.1.2.1)) then
        some ((cond false true (cond true (decide (v7.1.2.1≤(57343:Int))) false)))
       else
        some ((cond false true false))) fun (v9:Bool)=>
     bif v9 then
      some (((0:Int),(0:Int)))
     else
      some ((v7.1.2.1,(Dp .i64 (v7.1.1+1))))) v6
   else
    ne (bif (decide ((240:Int)≤(Dp .i64 (((@Dy v3):Nat):Int)))) then
      some ((cond true (decide ((Dp .i64 (((@Dy v3):Nat):Int))<(248:Int))) false))
     else
      some (false)) fun (v6:Bool)=>
    bif v6 then
     ne (b9 N ((s0,(i1,((3:Int),((Dp .i64 ((Dp .i64 (((@Dy v3):Nat):Int))-240)),((65536:Int),((1:Int),())))))),())) fun v7=>
     DP
      (fun (v8:pz14)=>
      some ((v8.1.1,v8.1.2.1)))
      (fun (v8:(pz9×Unit))=>
      ne (bif (decide (v8.1.2.1<v8.1.2.2.1)) then
        some (true)
       else
        some ((cond false true (decide ((1114111:Int)<v8.1.2.1))))) fun (v9:Bool)=>
      ne (bif v9 then
        some (true)
       else
        bif (decide ((55296:Int)≤v8.1.2.1)) then
         some ((cond false true (cond true (decide (v8.1.2.1≤(57343:Int))) false)))
        else
         some ((cond false true false))) fun (v10:Bool)=>
      bif v10 then
       some (((0:Int),(0:Int)))
      else
       some ((v8.1.2.1,(Dp .i64 (v8.1.1+1))))) v7
    else
     some (((0:Int),(0:Int)))
theorem zm (s0:List UInt8)(i1:Int):(runK Do (apq N) 400 162 [.str,(.int .i64)] [(.int .i64),(.int .i64)] (s0,i1,())).run=ld N s0 i1:=by kernel_rfl
noncomputable def apo:(R:Type)→Env R:=Du (apq N) 162 (fun R=>fnK [.str,(.int .i64)] [(.int .i64),(.int .i64)] (fun c=>ld N c.1 c.2.1))
theorem acT (R:Type):EnvOK Do (apo N R):=Dt hmx (acU N R) (acU N _) (by kernel_rfl) (fun c=>zm N c.1 c.2.1)
noncomputable def ip:LI:=⟨28,0,[(4,3)],⟨[(0,.ty .str),(4,.lit (.own 0)),(5,.ty (.int .i64))],[.own (.int .i64) 3]⟩,[(.ret,⟨[(2,.ty (.sl (.int .i64))),(3,.ty .bool)],[]⟩),(.exit 0,⟨[(4,.lit (.own 0))],[.own (.int .i64) 3]⟩)]⟩
noncomputable def dV (X:(pz26×((List Int)×Unit))→Option (((((List Int)×(Bool×Unit))×Unit) ⊕ (Unit×((List Int)×Unit)))))(s0:List UInt8)(i5:Int)(h0:List (Int)):Option (((((List Int)×(Bool×Unit))×Unit) ⊕ (Unit×((List Int)×Unit)))):=
 bif (decide (i5<(((Dq s0):Nat):Int))) then
  ne (ld N s0 i5) fun v5=>
  bif (decide (v5.2=(0:Int))) then
   some ((.inl ((([]:List Int),(false,())),())))
  else
   bif (ae ((Dq h0)+(Dq ([v5.1]:List (Int)))) 8) then
    (X ((s0,((Dp .i64 (i5+v5.2)),())),((h0++([v5.1]:List (Int))),())))
   else
    none
 else
  some ((.inr ((),(h0,()))))
noncomputable def mY (c:(pz26×((List Int)×Unit))):Option (((((List Int)×(Bool×Unit))×Unit) ⊕ (Unit×((List Int)×Unit)))):=gl (fun X c=>dV N X c.1.1 c.1.2.1 c.2.1) N c
theorem sm (X:(pz26×((List Int)×Unit))→Option (((((List Int)×(Bool×Unit))×Unit) ⊕ (Unit×((List Int)×Unit)))))(s0:List UInt8)(i5:Int)(h0:List (Int)):(am Do (apo N) 400 [126] ip (ak Do [126] 3) X ((s0,i5,()),(h0,()))).run=dV N X s0 i5 h0:=by kernel_rfl
noncomputable def apn:(R:Type)→Env R:=Dx (apo N) [126] 0 3 (fun R=>lpK Do ip (fun X c=>dV N X c.1.1 c.1.2.1 c.2.1) N)
theorem acS (R:Type):EnvOK Do (apn N R):=Dw (acT N R) (by kernel_rfl) (aq (li:=ip) hmx (acT N _) (by kernel_rfl) ab (fun X c=>sm N X c.1.1 c.1.2.1 c.2.1) N)
noncomputable def gp (s0:List UInt8):Option ((List Int)×Bool):=
 ne (mY N ((s0,((0:Int),())),(([]:List Int),()))) fun v2=>
 DP
  (fun (v3:(((List Int)×(Bool×Unit))×Unit))=>
  some ((v3.1.1,v3.1.2.1)))
  (fun (v3:(Unit×((List Int)×Unit)))=>
  some ((v3.2.1,true))) v2
theorem xu (s0:List UInt8):(runK Do (apn N) 400 126 [.str] [(.sl (.int .i64)),.bool] (s0,())).run=gp N s0:=by kernel_rfl
noncomputable def apm:(R:Type)→Env R:=Du (apn N) 126 (fun R=>fnK [.str] [(.sl (.int .i64)),.bool] (fun c=>gp N c.1))
theorem acR (R:Type):EnvOK Do (apm N R):=Dt hmx (acS N R) (acS N _) (by kernel_rfl) (fun c=>xu N c.1)
noncomputable def lf (s0:List UInt8):Option Int:=
 ne (gp N s0) fun v2=>
 bif (!v2.2) then
  some ((3:Int))
 else
  bif (decide ((64:Int)<(((Dq v2.1):Nat):Int))) then
   some ((8:Int))
  else
   some ((0:Int))
theorem Bh (s0:List UInt8):(runK Do (apm N) 400 83 [.str] [(.int .i64)] (s0,())).run=lf N s0:=by kernel_rfl
noncomputable def arO:(R:Type)→Env R:=Du (apm N) 83 (fun R=>fnK [.str] [(.int .i64)] (fun c=>lf N c.1))
theorem akp (R:Type):EnvOK Do (arO N R):=Dt hmx (acR N R) (acR N _) (by kernel_rfl) (fun c=>Bh N c.1)
noncomputable def apl:(R:Type)→Env R:=DM (arO N) [(84,9),(84,11)]
theorem acQ (R:Type):EnvOK Do (apl N R):=DK (akp N R) [(84,9),(84,11)]
noncomputable def io:LI:=⟨52,0,[(5,145)],⟨[(3,.ty (.sl (.int .i64))),(5,.lit (.own 0)),(6,.ty (.int .i64))],[.own (.int .u16) 145]⟩,[(.exit 0,⟨[(5,.lit (.own 0))],[.own (.int .u16) 145]⟩)]⟩
noncomputable def dU (N:Nat)(X:(pz8×((List Int)×Unit))→Option pz3)(l3:List (Int))(i6:Int)(h0:List (Int)):Option pz3:=
 bif (decide (i6<(((Dq l3):Nat):Int))) then
  ne (getI l3 i6) fun (v5:Int)=>
  bif (decide (v5<(65536:Int))) then
   ne (getI l3 i6) fun (v6:Int)=>
   bif (ae ((Dq h0)+(Dq ([(Dp .u16 v6)]:List (Int)))) 2) then
    (X ((l3,((Dp .i64 (i6+1)),())),((h0++([(Dp .u16 v6)]:List (Int))),())))
   else
    none
  else
   ne (getI l3 i6) fun (v6:Int)=>
   bif (ae ((Dq h0)+(Dq ([(Dp .u16 (Dp .i64 ((55296:Int)+(Dp .i64 (@Int.tdiv (Dp .i64 (v6-65536)) (1024:Int)))))),(Dp .u16 (Dp .i64 ((56320:Int)+(@DH (Dp .i64 (v6-65536)) (1024:Int)))))]:List (Int)))) 2) then
    (X ((l3,((Dp .i64 (i6+1)),())),((h0++([(Dp .u16 (Dp .i64 ((55296:Int)+(Dp .i64 (@Int.tdiv (Dp .i64 (v6-65536)) (1024:Int)))))),(Dp .u16 (Dp .i64 ((56320:Int)+(@DH (Dp .i64 (v6-65536)) (1024:Int)))))]:List (Int))),())))
   else
    none
 else
  some (((),(h0,())))
noncomputable def mX (c:(pz8×((List Int)×Unit))):Option pz3:=gl (fun X c=>dU N X c.1.1 c.1.2.1 c.2.1) N c
theorem sk (X:(pz8×((List Int)×Unit))→Option pz3)(l3:List (Int))(i6:Int)(h0:List (Int)):(am Do (apl N) 400 [84] io (ak Do [84] 6) X ((l3,i6,()),(h0,()))).run=dU N X l3 i6 h0:=by kernel_rfl
noncomputable def apk:(R:Type)→Env R:=Dx (apl N) [84] 0 6 (fun R=>lpK Do io (fun X c=>dU N X c.1.1 c.1.2.1 c.2.1) N)
theorem acP (R:Type):EnvOK Do (apk N R):=Dw (acQ N R) (by kernel_rfl) (aq (li:=io) hmx (acQ N _) (by kernel_rfl) ab (fun X c=>sk N X c.1.1 c.1.2.1 c.2.1) N)
noncomputable def jf (s0:List UInt8):Option (List Int):=
 ne (lf N s0) fun v2=>
 bif (!(decide (v2=(0:Int)))) then
  some (([]:List Int))
 else
  ne (gp N s0) fun v3=>
  ne (mX N ((v3.1,((0:Int),())),(([]:List Int),()))) fun v4=>
  some (v4.2.1)
theorem xt (s0:List UInt8):(runK Do (apk N) 400 84 [.str] [(.sl (.int .u16))] (s0,())).run=jf N s0:=by kernel_rfl
noncomputable def arN:(R:Type)→Env R:=Du (apk N) 84 (fun R=>fnK [.str] [(.sl (.int .u16))] (fun c=>jf N c.1))
theorem ako (R:Type):EnvOK Do (arN N R):=Dt hmx (acP N R) (acP N _) (by kernel_rfl) (fun c=>xt N c.1)
noncomputable def apj:(R:Type)→Env R:=DM (arN N) [(54,9)]
theorem acO (R:Type):EnvOK Do (apj N R):=DK (ako N R) [(54,9)]
noncomputable def ko:LI:=⟨37,0,[(5,5)],⟨[(5,.lit (.own 0)),(6,.ty (.sl (.int .u16))),(7,.ty (.int .i64))],[.own (.int .u8) 5]⟩,[(.exit 0,⟨[(5,.lit (.own 0))],[.own (.int .u8) 5]⟩)]⟩
noncomputable def fk (N:Nat)(X:(pz8×((List Int)×Unit))→Option pz3)(u6:List (Int))(i7:Int)(h0:List (Int)):Option pz3:=
 bif (decide (i7<(((Dq u6):Nat):Int))) then
  ne (getI u6 i7) fun (v5:Int)=>
  ne (getI u6 i7) fun (v6:Int)=>
  bif (ae ((Dq h0)+(Dq ([(Dp .u8 (@DH v5 (256:Int))),(Dp .u8 (Dp .u16 (@Int.tdiv v6 (256:Int))))]:List (Int)))) 1) then
   (X ((u6,((Dp .i64 (i7+1)),())),((h0++([(Dp .u8 (@DH v5 (256:Int))),(Dp .u8 (Dp .u16 (@Int.tdiv v6 (256:Int))))]:List (Int))),())))
  else
   none
 else
  some (((),(h0,())))
noncomputable def o5 (c:(pz8×((List Int)×Unit))):Option pz3:=gl (fun X c=>fk N X c.1.1 c.1.2.1 c.2.1) N c
theorem vb (X:(pz8×((List Int)×Unit))→Option pz3)(u6:List (Int))(i7:Int)(h0:List (Int)):(am Do (apj N) 400 [54] ko (ak Do [54] 7) X ((u6,i7,()),(h0,()))).run=fk N X u6 i7 h0:=by kernel_rfl
noncomputable def api:(R:Type)→Env R:=Dx (apj N) [54] 0 7 (fun R=>lpK Do ko (fun X c=>fk N X c.1.1 c.1.2.1 c.2.1) N)
theorem acN (R:Type):EnvOK Do (api N R):=Dw (acO N R) (by kernel_rfl) (aq (li:=ko) hmx (acO N _) (by kernel_rfl) ab (fun X c=>vb N X c.1.1 c.1.2.1 c.2.1) N)
noncomputable def nw (s0:List UInt8):Option ((List Int)×Int):=
 ne (lf N s0) fun v2=>
 bif (!(decide (v2=(0:Int)))) then
  some ((([]:List Int),v2))
 else
  ne (jf N s0) fun v3=>
  ne (o5 N ((v3,((0:Int),())),(([]:List Int),()))) fun v4=>
  some ((v4.2.1,(0:Int)))
theorem Bi (s0:List UInt8):(runK Do (api N) 400 54 [.str] [(.sl (.int .u8)),(.int .i64)] (s0,())).run=nw N s0:=by kernel_rfl
noncomputable def aph:(R:Type)→Env R:=Du (api N) 54 (fun R=>fnK [.str] [(.sl (.int .u8)),(.int .i64)] (fun c=>nw N c.1))
theorem acM (R:Type):EnvOK Do (aph N R):=Dt hmx (acN N R) (acN N _) (by kernel_rfl) (fun c=>Bi N c.1)
noncomputable def cN (password0:List UInt8):Option ((Arr Int 16)×Int):=
 ne (nk N password0) fun v2=>
 bif (!(decide (v2.2=(0:Int)))) then
  some ((zc16,v2.2))
 else
  ne (rQ N ([v2.1]:List ((List Int)))) fun v3=>
  some ((v3,(0:Int)))
theorem BF (password0:List UInt8):(runK Do (aph N) 400 50 [.str] [(.arr 16 (.int .u8)),(.int .i64)] (password0,())).run=cN N password0:=by kernel_rfl
noncomputable def arM:(R:Type)→Env R:=Du (aph N) 50 (fun R=>fnK [.str] [(.arr 16 (.int .u8)),(.int .i64)] (fun c=>cN N c.1))
theorem akn (R:Type):EnvOK Do (arM N R):=Dt hmx (acM N R) (acM N _) (by kernel_rfl) (fun c=>BF N c.1)
noncomputable def apg:(R:Type)→Env R:=DE (arM N) [(104,0)]
theorem acL (R:Type):EnvOK Do (apg N R):=DA (akn N R) [(104,0)]
noncomputable def dz (h0:Arr Int 16):Option (Arr Int 16):=
 ne (rQ N ([h0.l]:List ((List Int)))) fun v2=>
 some (v2)
theorem vw (h0:Arr Int 16):(runK Do (apg N) 400 104 [(.arr 16 (.int .u8))] [(.arr 16 (.int .u8))] (h0,())).run=dz N h0:=by kernel_rfl
noncomputable def arL:(R:Type)→Env R:=Du (apg N) 104 (fun R=>fnK [(.arr 16 (.int .u8))] [(.arr 16 (.int .u8))] (fun c=>dz N c.1))
theorem akm (R:Type):EnvOK Do (arL N R):=Dt hmx (acL N R) (acL N _) (by kernel_rfl) (fun c=>vw N c.1)
noncomputable def arK:(R:Type)→Env R:=DM (arL N) [(116,2)]
theorem akl (R:Type):EnvOK Do (arK N R):=DK (akm N R) [(116,2)]
noncomputable def apf:(R:Type)→Env R:=DE (arK N) [(116,0)]
theorem acK (R:Type):EnvOK Do (apf N R):=DA (akl N R) [(116,0)]
noncomputable def ub (N:Nat)(h0:Arr Int 16):Option (Arr Int 21):=
 some ((@Arr.over Int (21:Nat) zc21 h0.l))
theorem xV (h0:Arr Int 16):(runK Do (apf N) 400 116 [(.arr 16 (.int .u8))] [(.arr 21 (.int .u8))] (h0,())).run=ub N h0:=by kernel_rfl
noncomputable def arJ:(R:Type)→Env R:=Du (apf N) 116 (fun R=>fnK [(.arr 16 (.int .u8))] [(.arr 21 (.int .u8))] (fun c=>ub N c.1))
theorem akk (R:Type):EnvOK Do (arJ N R):=Dt hmx (acK N R) (acK N _) (by kernel_rfl) (fun c=>xV N c.1)
noncomputable def ape:(R:Type)→Env R:=DE (arJ N) [(79,0)]
theorem acJ (R:Type):EnvOK Do (ape N R):=DA (akk N R) [(79,0)]
noncomputable def ez (N:Nat)(h0:Arr Int 16):Option (Arr (Arr Int 7) 3):=
 ne (cL (@Arr.over Int (21:Nat) zc21 h0.l).l (7:Int)) fun (v2:(List Int))=>
 ne (@dA Int (7:Nat) v2) fun (v3:(Arr Int 7))=>
 ne (subI (@Arr.over Int (21:Nat) zc21 h0.l).l (7:Int) (14:Int)) fun (v4:(List Int))=>
 ne (@dA Int (7:Nat) v4) fun (v5:(Arr Int 7))=>
 ne (bJ (@Arr.over Int (21:Nat) zc21 h0.l).l (14:Int)) fun (v6:(List Int))=>
 ne (@dA Int (7:Nat) v6) fun (v7:(Arr Int 7))=>
 some ((@DB (Arr Int 7) (2:Nat) v3 (@DB (Arr Int 7) (1:Nat) v5 (@DB (Arr Int 7) (0:Nat) v7 (@Arr.nil (Arr Int 7))))))
theorem ua (h0:Arr Int 16):(runK Do (ape N) 400 79 [(.arr 16 (.int .u8))] [(.arr 3 (.arr 7 (.int .u8)))] (h0,())).run=ez N h0:=by kernel_rfl
noncomputable def apd:(R:Type)→Env R:=Du (ape N) 79 (fun R=>fnK [(.arr 16 (.int .u8))] [(.arr 3 (.arr 7 (.int .u8)))] (fun c=>ez N c.1))
theorem acI (R:Type):EnvOK Do (apd N R):=Dt hmx (acJ N R) (acJ N _) (by kernel_rfl) (fun c=>ua N c.1)
noncomputable def pW (password0:List UInt8):Option ((Arr Int 16)×Int):=
 ne (nw N password0) fun v2=>
 bif (!(decide (v2.2=(0:Int)))) then
  some ((zc16,v2.2))
 else
  ne (jZ N v2.1) fun v3=>
  some ((v3,(0:Int)))
theorem ade (password0:List UInt8):(runK Do (apd N) 400 32 [.str] [(.arr 16 (.int .u8)),(.int .i64)] (password0,())).run=pW N password0:=by kernel_rfl
noncomputable def arI:(R:Type)→Env R:=Du (apd N) 32 (fun R=>fnK [.str] [(.arr 16 (.int .u8)),(.int .i64)] (fun c=>pW N c.1))
theorem akj (R:Type):EnvOK Do (arI N R):=Dt hmx (acI N R) (acI N _) (by kernel_rfl) (fun c=>ade N c.1)
noncomputable def apc:(R:Type)→Env R:=DE (arI N) [(72,0)]
theorem acH (R:Type):EnvOK Do (apc N R):=DA (akj N R) [(72,0)]
noncomputable def lZ (h0:Arr Int 16):Option (Arr Int 16):=
 ne (jZ N h0.l) fun v2=>
 some (v2)
theorem xq (h0:Arr Int 16):(runK Do (apc N) 400 72 [(.arr 16 (.int .u8))] [(.arr 16 (.int .u8))] (h0,())).run=lZ N h0:=by kernel_rfl
noncomputable def arH:(R:Type)→Env R:=Du (apc N) 72 (fun R=>fnK [(.arr 16 (.int .u8))] [(.arr 16 (.int .u8))] (fun c=>lZ N c.1))
theorem aki (R:Type):EnvOK Do (arH N R):=Dt hmx (acH N R) (acH N _) (by kernel_rfl) (fun c=>xq N c.1)
noncomputable def apb:(R:Type)→Env R:=DE (arH N) [(57,0)]
theorem acG (R:Type):EnvOK Do (apb N R):=DA (aki N R) [(57,0)]
noncomputable def cy (N:Nat)(h0:Arr Int 16)(n1:Int):Option (List Int):=
 bif (ae (Dq h0.l) 1) then
  bif (ae ((Dq h0.l)+(Dq ([0,0,0,0,0]:List Int))) 1) then
   ne (subI (h0.l++([0,0,0,0,0]:List Int)) (Dp .i64 ((7:Int)*n1)) (Dp .i64 ((Dp .i64 ((7:Int)*n1))+7))) fun (v3:(List Int))=>
   some (v3)
  else
   none
 else
  none
theorem xr (h0:Arr Int 16)(n1:Int):(runK Do (apb N) 400 57 [(.arr 16 (.int .u8)),(.int .i64)] [(.sl (.int .u8))] (h0,n1,())).run=cy N h0 n1:=by kernel_rfl
noncomputable def arG:(R:Type)→Env R:=Du (apb N) 57 (fun R=>fnK [(.arr 16 (.int .u8)),(.int .i64)] [(.sl (.int .u8))] (fun c=>cy N c.1 c.2.1))
theorem akh (R:Type):EnvOK Do (arG N R):=Dt hmx (acG N R) (acG N _) (by kernel_rfl) (fun c=>xr N c.1 c.2.1)
noncomputable def apa:(R:Type)→Env R:=Du (arG N) 241 (fun R=>ixK)
theorem acF (R:Type):EnvOK Do (apa N R):=DO (akh N R) (asd (fn:=Go.Proofs.Tryz.f241) (by kernel_rfl) (by kernel_rfl) (by decide +kernel) (by kernel_rfl) (by kernel_rfl))
noncomputable def gV (N:Nat)(s0:List UInt8)(c1:Int):Option Int:=
 some ((@idxB s0 c1))
theorem lV (s0:List UInt8)(c1:Int):(runK Do (apa N) 400 227 [.str,(.int .u8)] [(.int .i64)] (s0,c1,())).run=gV N s0 c1:=by kernel_rfl
noncomputable def ao9:(R:Type)→Env R:=Du (apa N) 227 (fun R=>fnK [.str,(.int .u8)] [(.int .i64)] (fun c=>gV N c.1 c.2.1))
theorem acE (R:Type):EnvOK Do (ao9 N R):=Dt hmx (acF N R) (acF N _) (by kernel_rfl) (fun c=>lV N c.1 c.2.1)
noncomputable def kT (N:Nat)(s0:List UInt8)(c1:Int):Option Int:=
 some ((@idxB s0 c1))
theorem po (s0:List UInt8)(c1:Int):(runK Do (ao9 N) 400 238 [.str,(.int .u8)] [(.int .i64)] (s0,c1,())).run=kT N s0 c1:=by kernel_rfl
noncomputable def ao8:(R:Type)→Env R:=Du (ao9 N) 238 (fun R=>fnK [.str,(.int .u8)] [(.int .i64)] (fun c=>kT N c.1 c.2.1))
theorem acD (R:Type):EnvOK Do (ao8 N R):=Dt hmx (acE N R) (acE N _) (by kernel_rfl) (fun c=>po N c.1 c.2.1)
noncomputable def nZ (N:Nat)(n0:Int)(six1:Int):Option Int:=
 ne (bif (decide (n0<(1:Int))) then
   some (true)
  else
   some ((cond false true (decide ((8:Int)<n0))))) fun (v3:Bool)=>
 bif v3 then
  some ((0:Int))
 else
  ne (getI (Dr (Ds (@DL UInt8 (@DL UInt8 (@DL UInt8 ([69,52,68,49,50,70,66,56,51,65,54,67,53,57,48,55,48,70,55,52,69,50,68,49,65,54,67,66,57,53,51,56,52,49,69,56,68,54,50,66,70,67,57,55,51,65,53,48,70,67,56,50,52,57,49,55,53,66,51,69,65,48,54,68]:List UInt8) ([70,49,56,69,54,66,51,52,57,55,50,68,67,48,53,65,51,68,52,55,70,50,56,69,67,48,49,65,54,57,66,53,48,69,55,66,65,52,68,49,53,56,67,54,57,51,50,70,68,56,65,49,51,70,52,50,66,54,55,67,48,53,69,57]:List UInt8)) (@DL UInt8 ([65,48,57,69,54,51,70,53,49,68,67,55,66,52,50,56,68,55,48,57,51,52,54,65,50,56,53,69,67,66,70,49,68,54,52,57,56,70,51,48,66,49,50,67,53,65,69,55,49,65,68,48,54,57,56,55,52,70,69,51,66,53,50,67]:List UInt8) ([55,68,69,51,48,54,57,65,49,50,56,53,66,67,52,70,68,56,66,53,54,70,48,51,52,55,50,67,49,65,69,57,65,54,57,48,67,66,55,68,70,49,51,69,53,50,56,52,51,70,48,54,65,49,68,56,57,52,53,66,67,55,50,69]:List UInt8))) (@DL UInt8 (@DL UInt8 ([50,67,52,49,55,65,66,54,56,53,51,70,68,48,69,57,69,66,50,67,52,55,68,49,53,48,70,65,51,57,56,54,52,50,49,66,65,68,55,56,70,57,67,53,54,51,48,69,66,56,67,55,49,69,50,68,54,70,48,57,65,52,53,51]:List UInt8) ([67,49,65,70,57,50,54,56,48,68,51,52,69,55,53,66,65,70,52,50,55,67,57,53,54,49,68,69,48,66,51,56,57,69,70,53,50,56,67,51,55,48,52,65,49,68,66,54,52,51,50,67,57,53,70,65,66,69,49,55,54,48,56,68]:List UInt8)) (@DL UInt8 ([52,66,50,69,70,48,56,68,51,67,57,55,53,65,54,49,68,48,66,55,52,57,49,65,69,51,53,67,50,70,56,54,49,52,66,68,67,51,55,69,65,70,54,56,48,53,57,50,54,66,68,56,49,52,65,55,57,53,48,70,69,50,51,67]:List UInt8) ([68,50,56,52,54,70,66,49,65,57,51,69,53,48,67,55,49,70,68,56,65,51,55,52,67,53,54,66,48,69,57,50,55,66,52,49,57,67,69,50,48,54,65,68,70,51,53,56,50,49,69,55,52,65,56,68,70,67,57,48,51,53,54,66]:List UInt8)))))) (Dp .u64 ((Dp .u64 ((Dp .u64 ((64:Int)*(Dp .u64 (Dp .i64 (n0-1)))))+(Dp .u64 ((16:Int)*(bits .or .u64 (bits .and .u64 (@DJ six1 ((2:Int) ^ (min (Dv (4:Int)) (Dz .u64)))) (2:Int)) (bits .and .u64 six1 (1:Int)))))))+(bits .and .u64 (@DJ six1 ((2:Int) ^ (min (Dv (1:Int)) (Dz .u64)))) (15:Int))))) fun (v4:UInt8)=>
  some ((Dp .u64 (@idxB (Dr (Ds ([48,49,50,51,52,53,54,55,56,57,65,66,67,68,69,70]:List UInt8))) (((@Dy v4):Nat):Int))))
theorem aga (n0:Int)(six1:Int):(runK Do (ao8 N) 400 215 [(.int .i64),(.int .u64)] [(.int .u64)] (n0,six1,())).run=nZ N n0 six1:=by kernel_rfl
noncomputable def arF:(R:Type)→Env R:=Du (ao8 N) 215 (fun R=>fnK [(.int .i64),(.int .u64)] [(.int .u64)] (fun c=>nZ N c.1 c.2.1))
theorem akg (R:Type):EnvOK Do (arF N R):=Dt hmx (acD N R) (acD N _) (by kernel_rfl) (fun c=>aga N c.1 c.2.1)
noncomputable def ao7:(R:Type)→Env R:=DM (arF N) [(191,8),(191,10)]
theorem acC (R:Type):EnvOK Do (ao7 N R):=DK (akg N R) [(191,8),(191,10)]
noncomputable def cf:LI:=⟨21,1,[(0,3)],⟨[(0,.lit (.own 1)),(1,.ty (.int .i64)),(8,.ty (.int .i64)),(9,.ty (.int .i64))],[.dead,.own (.int .i64) 3]⟩,[(.exit 0,⟨[(0,.lit (.own 1))],[.dead,.own (.int .i64) 3]⟩)]⟩
noncomputable def cA (N:Nat)(X:(pz9×((List Int)×Unit))→Option pz3)(x1:Int)(x8:Int)(x9:Int)(h0:List (Int)):Option pz3:=
 bif (decide (x9<x8)) then
  bif (ae ((Dq h0)+(Dq ([(Dp .i64 (x1-(Dp .i64 ((8:Int)*x9))))]:List (Int)))) 8) then
   (X ((x1,(x8,((Dp .i64 (x9+1)),()))),((h0++([(Dp .i64 (x1-(Dp .i64 ((8:Int)*x9))))]:List (Int))),())))
  else
   none
 else
  some (((),(h0,())))
noncomputable def iA (c:(pz9×((List Int)×Unit))):Option pz3:=gl (fun X c=>cA N X c.1.1 c.1.2.1 c.1.2.2.1 c.2.1) N c
theorem iz (X:(pz9×((List Int)×Unit))→Option pz3)(x1:Int)(x8:Int)(x9:Int)(h0:List (Int)):(am Do (ao7 N) 400 [214,8,191] cf (ak Do [214,8,191] 2) X ((x1,x8,x9,()),(h0,()))).run=cA N X x1 x8 x9 h0:=by kernel_rfl
noncomputable def ao6:(R:Type)→Env R:=Dx (ao7 N) [214,8,191] 1 2 (fun R=>lpK Do cf (fun X c=>cA N X c.1.1 c.1.2.1 c.1.2.2.1 c.2.1) N)
theorem acB (R:Type):EnvOK Do (ao6 N R):=Dw (acC N R) (by kernel_rfl) (aq (li:=cf) hmx (acC N _) (by kernel_rfl) ab (fun X c=>iz N X c.1.1 c.1.2.1 c.1.2.2.1 c.2.1) N)
noncomputable def jL:LI:=⟨28,0,[],⟨[(1,.lit (.own 0)),(3,.adr (.arr 4 (.int .i64))),(8,.ty (.arr 2 (.arr 4 (.int .i64)))),(9,.ty (.int .i64)),(12,.ty (.sl (.int .i64))),(13,.ty (.int .i64)),(14,.ty (.int .i64))],[.own (.int .i64) 3]⟩,[(.exit 2,⟨[(1,.lit (.own 0)),(3,.adr (.arr 4 (.int .i64))),(8,.ty (.arr 2 (.arr 4 (.int .i64)))),(9,.ty (.int .i64))],[.own (.int .i64) 3]⟩)]⟩
noncomputable def mI (X:(((Arr Int 4)×((Arr (Arr Int 4) 2)×(Int×pz5)))×((List Int)×Unit))→Option ((((Arr Int 4)×((Arr (Arr Int 4) 2)×(Int×Unit)))×((List Int)×Unit))))(half3:Arr Int 4)(x8:Arr (Arr Int 4) 2)(x9:Int)(x12:List (Int))(x13:Int)(x14:Int)(h0:List (Int)):Option ((((Arr Int 4)×((Arr (Arr Int 4) 2)×(Int×Unit)))×((List Int)×Unit))):=
 bif (decide (x14<x13)) then
  ne (getI x12 x14) fun (v9:Int)=>
  ne (iA N ((v9,((8:Int),((0:Int),()))),(h0,()))) fun v10=>
  (X ((half3,(x8,(x9,(x12,(x13,((Dp .i64 (x14+1)),())))))),(v10.2.1,())))
 else
  some (((half3,(x8,(x9,()))),(h0,())))
noncomputable def uB (c:(((Arr Int 4)×((Arr (Arr Int 4) 2)×(Int×pz5)))×((List Int)×Unit))):Option ((((Arr Int 4)×((Arr (Arr Int 4) 2)×(Int×Unit)))×((List Int)×Unit))):=gl (fun X c=>mI N X c.1.1 c.1.2.1 c.1.2.2.1 c.1.2.2.2.1 c.1.2.2.2.2.1 c.1.2.2.2.2.2.1 c.2.1) N c
theorem uA (X:(((Arr Int 4)×((Arr (Arr Int 4) 2)×(Int×pz5)))×((List Int)×Unit))→Option ((((Arr Int 4)×((Arr (Arr Int 4) 2)×(Int×Unit)))×((List Int)×Unit))))(half3:Arr Int 4)(x8:Arr (Arr Int 4) 2)(x9:Int)(x12:List (Int))(x13:Int)(x14:Int)(h0:List (Int)):(am Do (ao6 N) 400 [191] jL (ak Do [191] 6) X ((half3,x8,x9,x12,x13,x14,()),(h0,()))).run=mI N X half3 x8 x9 x12 x13 x14 h0:=by kernel_rfl
noncomputable def ao5:(R:Type)→Env R:=Dx (ao6 N) [191] 0 6 (fun R=>lpK Do jL (fun X c=>mI N X c.1.1 c.1.2.1 c.1.2.2.1 c.1.2.2.2.1 c.1.2.2.2.2.1 c.1.2.2.2.2.2.1 c.2.1) N)
theorem acA (R:Type):EnvOK Do (ao5 N R):=Dw (acB N R) (by kernel_rfl) (aq (li:=jL) hmx (acB N _) (by kernel_rfl) ab (fun X c=>uA N X c.1.1 c.1.2.1 c.1.2.2.1 c.1.2.2.2.1 c.1.2.2.2.2.1 c.1.2.2.2.2.2.1 c.2.1) N)
noncomputable def bW:LI:=⟨21,1,[(0,3)],⟨[(0,.lit (.own 1)),(1,.ty (.int .i64)),(8,.ty (.int .i64)),(9,.ty (.int .i64))],[.dead,.own (.int .i64) 3]⟩,[(.exit 0,⟨[(0,.lit (.own 1))],[.dead,.own (.int .i64) 3]⟩)]⟩
noncomputable def cn (N:Nat)(X:(pz9×((List Int)×Unit))→Option pz3)(x1:Int)(x8:Int)(x9:Int)(h0:List (Int)):Option pz3:=
 bif (decide (x9<x8)) then
  bif (ae ((Dq h0)+(Dq ([(Dp .i64 (x1-(Dp .i64 ((8:Int)*x9))))]:List (Int)))) 8) then
   (X ((x1,(x8,((Dp .i64 (x9+1)),()))),((h0++([(Dp .i64 (x1-(Dp .i64 ((8:Int)*x9))))]:List (Int))),())))
  else
   none
 else
  some (((),(h0,())))
noncomputable def hO (c:(pz9×((List Int)×Unit))):Option pz3:=gl (fun X c=>cn N X c.1.1 c.1.2.1 c.1.2.2.1 c.2.1) N c
theorem hJ (X:(pz9×((List Int)×Unit))→Option pz3)(x1:Int)(x8:Int)(x9:Int)(h0:List (Int)):(am Do (ao5 N) 400 [214,10,191] bW (ak Do [214,10,191] 2) X ((x1,x8,x9,()),(h0,()))).run=cn N X x1 x8 x9 h0:=by kernel_rfl
noncomputable def ao4:(R:Type)→Env R:=Dx (ao5 N) [214,10,191] 1 2 (fun R=>lpK Do bW (fun X c=>cn N X c.1.1 c.1.2.1 c.1.2.2.1 c.2.1) N)
theorem acz (R:Type):EnvOK Do (ao4 N R):=Dw (acA N R) (by kernel_rfl) (aq (li:=bW) hmx (acA N _) (by kernel_rfl) ab (fun X c=>hJ N X c.1.1 c.1.2.1 c.1.2.2.1 c.2.1) N)
noncomputable def jM:LI:=⟨28,0,[(1,3)],⟨[(1,.lit (.own 0)),(8,.ty (.arr 2 (.arr 4 (.int .i64)))),(9,.ty (.int .i64))],[.own (.int .i64) 3]⟩,[(.exit 0,⟨[(1,.lit (.own 0))],[.own (.int .i64) 3]⟩)]⟩
noncomputable def mJ (X:(((Arr (Arr Int 4) 2)×(Int×Unit))×((List Int)×Unit))→Option pz3)(x8:Arr (Arr Int 4) 2)(x9:Int)(h0:List (Int)):Option pz3:=
 bif (decide (x9<(2:Int))) then
  ne (getI x8.l x9) fun (v5:(Arr Int 4))=>
  ne (cL v5.l (3:Int)) fun (v6:(List Int))=>
  ne (uB N ((v5,(x8,(x9,(v6,((((Dq v6):Nat):Int),((0:Int),())))))),(h0,()))) fun v7=>
  ne (getI v7.1.1.l (3:Int)) fun (v8:Int)=>
  ne (hO N ((v8,((4:Int),((0:Int),()))),(v7.2.1,()))) fun v9=>
  (X ((v7.1.2.1,((Dp .i64 (v7.1.2.2.1+1)),())),(v9.2.1,())))
 else
  some (((),(h0,())))
noncomputable def uD (c:(((Arr (Arr Int 4) 2)×(Int×Unit))×((List Int)×Unit))):Option pz3:=gl (fun X c=>mJ N X c.1.1 c.1.2.1 c.2.1) N c
theorem uC (X:(((Arr (Arr Int 4) 2)×(Int×Unit))×((List Int)×Unit))→Option pz3)(x8:Arr (Arr Int 4) 2)(x9:Int)(h0:List (Int)):(am Do (ao4 N) 400 [191] jM (ak Do [191] 3) X ((x8,x9,()),(h0,()))).run=mJ N X x8 x9 h0:=by kernel_rfl
noncomputable def ao3:(R:Type)→Env R:=Dx (ao4 N) [191] 0 3 (fun R=>lpK Do jM (fun X c=>mJ N X c.1.1 c.1.2.1 c.2.1) N)
theorem acy (R:Type):EnvOK Do (ao3 N R):=Dw (acz N R) (by kernel_rfl) (aq (li:=jM) hmx (acz N _) (by kernel_rfl) ab (fun X c=>uC N X c.1.1 c.1.2.1 c.2.1) N)
noncomputable def lL:Option (List Int):=
 ne (uD N (((@DB (Arr Int 4) (1:Nat) (@DB Int 3 57 (@DB Int 2 58 (@DB Int 1 59 (@DB Int 0 60 (@Arr.nil Int))))) (@DB (Arr Int 4) (0:Nat) (@DB Int 3 63 (@DB Int 2 62 (@DB Int 1 61 (@DB Int 0 28 (@Arr.nil Int))))) (@Arr.nil (Arr Int 4)))),((0:Int),())),(([]:List Int),()))) fun v1=>
 some (v1.2.1)
theorem AA:(runK Do (ao3 N) 400 191 [] [(.sl (.int .i64))] ()).run=lL N:=by kernel_rfl
noncomputable def ao2:(R:Type)→Env R:=Du (ao3 N) 191 (fun R=>fnK [] [(.sl (.int .i64))] (fun c=>lL N ))
theorem acx (R:Type):EnvOK Do (ao2 N R):=Dt hmx (acy N R) (acy N _) (by kernel_rfl) (fun c=>AA N )
noncomputable def kb (N:Nat)(width0:Int):Option Bool:=
 ne (bif (decide ((1:Int)≤width0)) then
   some ((cond true (decide (width0≤(64:Int))) false))
  else
   some (false)) fun (v2:Bool)=>
 some (v2)
theorem adY (width0:Int):(runK Do (ao2 N) 400 216 [(.int .i64)] [.bool] (width0,())).run=kb N width0:=by kernel_rfl
noncomputable def ao1:(R:Type)→Env R:=Du (ao2 N) 216 (fun R=>fnK [(.int .i64)] [.bool] (fun c=>kb N c.1))
theorem acw (R:Type):EnvOK Do (ao1 N R):=Dt hmx (acx N R) (acx N _) (by kernel_rfl) (fun c=>adY N c.1)
noncomputable def gQ:LI:=⟨39,0,[],⟨[(0,.ty (.int .u64)),(1,.ty (.int .i64)),(2,.ty (.sl (.int .i64))),(19,.ty (.sl (.int .i64))),(20,.ty (.int .i64)),(21,.ty (.int .i64))],[]⟩,[(.ret,⟨[(6,.ty (.int .u64)),(7,.ty (.int .i64))],[]⟩),(.exit 0,⟨[(0,.ty (.int .u64)),(1,.ty (.int .i64)),(2,.ty (.sl (.int .i64)))],[]⟩)]⟩
noncomputable def eo (N:Nat)(X:((Int×(Int×((List Int)×pz5)))×Unit)→Option ((pz14 ⊕ (pz16×Unit))))(x0:Int)(width1:Int)(table2:List (Int))(x19:List (Int))(x20:Int)(x21:Int):Option ((pz14 ⊕ (pz16×Unit))):=
 bif (decide (x21<x20)) then
  ne (getI x19 x21) fun (v8:Int)=>
  ne (bif (decide (v8<(1:Int))) then
    some (true)
   else
    some ((cond false true (decide (width1<v8))))) fun (v9:Bool)=>
  bif v9 then
   some ((.inl (((0:Int),((1:Int),())),())))
  else
   (X ((x0,(width1,(table2,(x19,(x20,((Dp .i64 (x21+1)),())))))),()))
 else
  some ((.inr ((x0,(width1,(table2,()))),())))
noncomputable def gP (c:((Int×(Int×((List Int)×pz5)))×Unit)):Option ((pz14 ⊕ (pz16×Unit))):=gl (fun X c=>eo N X c.1.1 c.1.2.1 c.1.2.2.1 c.1.2.2.2.1 c.1.2.2.2.2.1 c.1.2.2.2.2.2.1) N c
theorem rJ (X:((Int×(Int×((List Int)×pz5)))×Unit)→Option ((pz14 ⊕ (pz16×Unit))))(x0:Int)(width1:Int)(table2:List (Int))(x19:List (Int))(x20:Int)(x21:Int):(am Do (ao1 N) 400 [213] gQ (ak Do [213] 4) X ((x0,width1,table2,x19,x20,x21,()),())).run=eo N X x0 width1 table2 x19 x20 x21:=by kernel_rfl
noncomputable def ao0:(R:Type)→Env R:=Dx (ao1 N) [213] 0 4 (fun R=>lpK Do gQ (fun X c=>eo N X c.1.1 c.1.2.1 c.1.2.2.1 c.1.2.2.2.1 c.1.2.2.2.2.1 c.1.2.2.2.2.2.1) N)
theorem acv (R:Type):EnvOK Do (ao0 N R):=Dw (acw N R) (by kernel_rfl) (aq (li:=gQ) hmx (acw N _) (by kernel_rfl) ab (fun X c=>rJ N X c.1.1 c.1.2.1 c.1.2.2.1 c.1.2.2.2.1 c.1.2.2.2.2.1 c.1.2.2.2.2.2.1) N)
noncomputable def qL (x0:Int)(width1:Int)(i2:Int):Option Int:=
 ne (kb N width1) fun v4=>
 ne (bif (!v4) then
   some (true)
  else
   some ((cond false true (decide (i2<(1:Int)))))) fun (v5:Bool)=>
 ne (bif v5 then
   some (true)
  else
   some ((cond false true (decide (width1<i2))))) fun (v6:Bool)=>
 bif v6 then
  some ((0:Int))
 else
  bif (decide ((0:Int)≤(Dp .i64 (width1-i2)))) then
   some ((bits .and .u64 (@DJ x0 ((2:Int) ^ (min (Dv (Dp .i64 (width1-i2))) (Dz .u64)))) (1:Int)))
  else
   none
theorem ad1 (x0:Int)(width1:Int)(i2:Int):(runK Do (ao0 N) 400 245 [(.int .u64),(.int .i64),(.int .i64)] [(.int .u64)] (x0,width1,i2,())).run=qL N x0 width1 i2:=by kernel_rfl
noncomputable def aoZ:(R:Type)→Env R:=Du (ao0 N) 245 (fun R=>fnK [(.int .u64),(.int .i64),(.int .i64)] [(.int .u64)] (fun c=>qL N c.1 c.2.1 c.2.2.1))
theorem acu (R:Type):EnvOK Do (aoZ N R):=Dt hmx (acv N R) (acv N _) (by kernel_rfl) (fun c=>ad1 N c.1 c.2.1 c.2.2.1)
noncomputable def bP:LI:=⟨23,1,[],⟨[(0,.ty (.int .u64)),(1,.ty (.int .i64)),(3,.lit (.clo 237 [.box 0 0])),(10,.ty (.sl (.int .i64))),(11,.ty (.int .i64)),(12,.ty (.int .i64))],[.box 147 (.int .u64)]⟩,[(.exit 0,⟨[],[.box 147 (.int .u64)]⟩)]⟩
noncomputable def aL (X:((Int×(Int×pz5))×(Int×Unit))→Option ((Unit×(Int×Unit))))(x0:Int)(width1:Int)(x10:List (Int))(x11:Int)(x12:Int)(h0:Int):Option ((Unit×(Int×Unit))):=
 bif (decide (x12<x11)) then
  ne (getI x10 x12) fun (v8:Int)=>
  ne (qL N x0 width1 v8) fun v9=>
  (X ((x0,(width1,(x10,(x11,((Dp .i64 (x12+1)),()))))),((bits .or .u64 (Dp .u64 (h0*((2:Int) ^ (min (Dv (1:Int)) (Dz .u64))))) v9),())))
 else
  some (((),(h0,())))
noncomputable def bO (c:((Int×(Int×pz5))×(Int×Unit))):Option ((Unit×(Int×Unit))):=gl (fun X c=>aL N X c.1.1 c.1.2.1 c.1.2.2.1 c.1.2.2.2.1 c.1.2.2.2.2.1 c.2.1) N c
theorem gR (X:((Int×(Int×pz5))×(Int×Unit))→Option ((Unit×(Int×Unit))))(x0:Int)(width1:Int)(x10:List (Int))(x11:Int)(x12:Int)(h0:Int):(am Do (aoZ N) 400 [236,10,213] bP (ak Do [236,10,213] 1) X ((x0,width1,x10,x11,x12,()),(h0,()))).run=aL N X x0 width1 x10 x11 x12 h0:=by kernel_rfl
noncomputable def aoY:(R:Type)→Env R:=Dx (aoZ N) [236,10,213] 1 1 (fun R=>lpK Do bP (fun X c=>aL N X c.1.1 c.1.2.1 c.1.2.2.1 c.1.2.2.2.1 c.1.2.2.2.2.1 c.2.1) N)
theorem act (R:Type):EnvOK Do (aoY N R):=Dw (acu N R) (by kernel_rfl) (aq (li:=bP) hmx (acu N _) (by kernel_rfl) ab (fun X c=>gR N X c.1.1 c.1.2.1 c.1.2.2.1 c.1.2.2.2.1 c.1.2.2.2.2.1 c.2.1) N)
noncomputable def ke (x0:Int)(width1:Int)(table2:List (Int)):Option (Int×Int):=
 ne (kb N width1) fun v4=>
 bif (!v4) then
  some (((0:Int),(1:Int)))
 else
  ne (some ((cond false true (decide ((64:Int)<(((Dq table2):Nat):Int)))))) fun (v5:Bool)=>
  bif v5 then
   some (((0:Int),(1:Int)))
  else
   ne (gP N ((x0,(width1,(table2,(table2,((((Dq table2):Nat):Int),((0:Int),())))))),())) fun v6=>
   DP
    (fun (v7:pz14)=>
    some ((v7.1.1,v7.1.2.1)))
    (fun (v7:(pz16×Unit))=>
    ne (bO N ((v7.1.1,(v7.1.2.1,(v7.1.2.2.1,((((Dq v7.1.2.2.1):Nat):Int),((0:Int),()))))),((0:Int),()))) fun v8=>
    some ((v8.2.1,(0:Int)))) v6
theorem vK (x0:Int)(width1:Int)(table2:List (Int)):(runK Do (aoY N) 400 213 [(.int .u64),(.int .i64),(.sl (.int .i64))] [(.int .u64),(.int .i64)] (x0,width1,table2,())).run=ke N x0 width1 table2:=by kernel_rfl
noncomputable def aoX:(R:Type)→Env R:=Du (aoY N) 213 (fun R=>fnK [(.int .u64),(.int .i64),(.sl (.int .i64))] [(.int .u64),(.int .i64)] (fun c=>ke N c.1 c.2.1 c.2.2.1))
theorem acs (R:Type):EnvOK Do (aoX N R):=Dt hmx (act N R) (act N _) (by kernel_rfl) (fun c=>vK N c.1 c.2.1 c.2.2.1)
noncomputable def aM (x0:Int)(width1:Int)(table2:List (Int)):Option Int:=
 ne (ke N x0 width1 table2) fun v4=>
 some (v4.1)
theorem vC (x0:Int)(width1:Int)(table2:List (Int)):(runK Do (aoX N) 400 186 [(.int .u64),(.int .i64),(.sl (.int .i64))] [(.int .u64)] (x0,width1,table2,())).run=aM N x0 width1 table2:=by kernel_rfl
noncomputable def aoW:(R:Type)→Env R:=Du (aoX N) 186 (fun R=>fnK [(.int .u64),(.int .i64),(.sl (.int .i64))] [(.int .u64)] (fun c=>aM N c.1 c.2.1 c.2.2.1))
theorem acr (R:Type):EnvOK Do (aoW N R):=Dt hmx (acs N R) (acs N _) (by kernel_rfl) (fun c=>vC N c.1 c.2.1 c.2.2.1)
noncomputable def sQ (N:Nat)(x0:Int)(many1:Int):Option Int:=
 bif (decide ((0:Int)≤many1)) then
  some ((bits .and .u64 x0 (Dp .u64 ((Dp .u64 ((1:Int)*((2:Int) ^ (min (Dv many1) (Dz .u64)))))-1))))
 else
  none
theorem adZ (x0:Int)(many1:Int):(runK Do (aoW N) 400 217 [(.int .u64),(.int .i64)] [(.int .u64)] (x0,many1,())).run=sQ N x0 many1:=by kernel_rfl
noncomputable def aoV:(R:Type)→Env R:=Du (aoW N) 217 (fun R=>fnK [(.int .u64),(.int .i64)] [(.int .u64)] (fun c=>sQ N c.1 c.2.1))
theorem acq (R:Type):EnvOK Do (aoV N R):=Dt hmx (acr N R) (acr N _) (by kernel_rfl) (fun c=>adZ N c.1 c.2.1)
noncomputable def oP (x0:Int)(width1:Int)(x2:Int):Option (Int×Int×Int):=
 ne (kb N width1) fun v4=>
 ne (bif (!v4) then
   some (true)
  else
   some ((cond false true (decide (x2<(0:Int)))))) fun (v5:Bool)=>
 ne (bif v5 then
   some (true)
  else
   some ((cond false true (decide (width1<x2))))) fun (v6:Bool)=>
 bif v6 then
  some (((0:Int),((0:Int),(1:Int))))
 else
  ne (sQ N x0 width1) fun v7=>
  bif (decide ((0:Int)≤(Dp .i64 (width1-x2)))) then
   ne (sQ N v7 (Dp .i64 (width1-x2))) fun v8=>
   some (((@DJ v7 ((2:Int) ^ (min (Dv (Dp .i64 (width1-x2))) (Dz .u64)))),(v8,(0:Int))))
  else
   none
theorem AQ (x0:Int)(width1:Int)(x2:Int):(runK Do (aoV N) 400 190 [(.int .u64),(.int .i64),(.int .i64)] [(.int .u64),(.int .u64),(.int .i64)] (x0,width1,x2,())).run=oP N x0 width1 x2:=by kernel_rfl
noncomputable def aoU:(R:Type)→Env R:=Du (aoV N) 190 (fun R=>fnK [(.int .u64),(.int .i64),(.int .i64)] [(.int .u64),(.int .u64),(.int .i64)] (fun c=>oP N c.1 c.2.1 c.2.2.1))
theorem acp (R:Type):EnvOK Do (aoU N R):=Dt hmx (acq N R) (acq N _) (by kernel_rfl) (fun c=>AQ N c.1 c.2.1 c.2.2.1)
noncomputable def rV (N:Nat):Option (List Int):=
 some ((((([14,17,11,24,1,5,3,28,15,6,21,10]:List Int)++([23,19,12,4,26,8,16,7,27,20,13,2]:List Int))++([41,52,31,37,47,55,30,40,51,45,33,48]:List Int))++([44,49,39,56,34,53,46,42,50,36,29,32]:List Int)))
theorem vD:(runK Do (aoU N) 400 192 [] [(.sl (.int .i64))] ()).run=rV N:=by kernel_rfl
noncomputable def aoT:(R:Type)→Env R:=Du (aoU N) 192 (fun R=>fnK [] [(.sl (.int .i64))] (fun c=>rV N ))
theorem aco (R:Type):EnvOK Do (aoT N R):=Dt hmx (acp N R) (acp N _) (by kernel_rfl) (fun c=>vD N )
noncomputable def jJ:LI:=⟨23,0,[],⟨[(0,.ty (.int .u64)),(1,.ty (.int .i64)),(5,.ty (.int .i64)),(8,.ty (.arr 4 (.int .i64))),(9,.ty (.int .i64))],[]⟩,[(.exit 0,⟨[(0,.ty (.int .u64)),(5,.ty (.int .i64))],[]⟩)]⟩
noncomputable def mH (N:Nat)(X:((Int×(Int×(Int×pz27)))×Unit)→Option (pz14))(half0:Int)(round1:Int)(x5:Int)(x8:Arr Int 4)(x9:Int):Option (pz14):=
 bif (decide (x9<(4:Int))) then
  ne (getI x8.l x9) fun (v7:Int)=>
  bif (decide (v7=round1)) then
   (X ((half0,(round1,((1:Int),(x8,((Dp .i64 (x9+1)),()))))),()))
  else
   (X ((half0,(round1,(x5,(x8,((Dp .i64 (x9+1)),()))))),()))
 else
  some (((half0,(x5,())),()))
noncomputable def jI (c:((Int×(Int×(Int×pz27)))×Unit)):Option (pz14):=gl (fun X c=>mH N X c.1.1 c.1.2.1 c.1.2.2.1 c.1.2.2.2.1 c.1.2.2.2.2.1) N c
theorem uz (X:((Int×(Int×(Int×pz27)))×Unit)→Option (pz14))(half0:Int)(round1:Int)(x5:Int)(x8:Arr Int 4)(x9:Int):(am Do (aoT N) 400 [193] jJ (ak Do [193] 3) X ((half0,round1,x5,x8,x9,()),())).run=mH N X half0 round1 x5 x8 x9:=by kernel_rfl
noncomputable def aoS:(R:Type)→Env R:=Dx (aoT N) [193] 0 3 (fun R=>lpK Do jJ (fun X c=>mH N X c.1.1 c.1.2.1 c.1.2.2.1 c.1.2.2.2.1 c.1.2.2.2.2.1) N)
theorem acn (R:Type):EnvOK Do (aoS N R):=Dw (aco N R) (by kernel_rfl) (aq (li:=jJ) hmx (aco N _) (by kernel_rfl) ab (fun X c=>uz N X c.1.1 c.1.2.1 c.1.2.2.1 c.1.2.2.2.1 c.1.2.2.2.2.1) N)
noncomputable def lS (x0:Int)(width1:Int)(n2:Int):Option (Int×Int):=
 ne (kb N width1) fun v4=>
 bif (!v4) then
  some (((0:Int),(1:Int)))
 else
  bif (decide (width1=(0:Int))) then
   none
  else
   bif (decide ((@DH n2 width1)<(0:Int))) then
    ne (oP N x0 width1 (Dp .i64 ((@DH n2 width1)+width1))) fun v5=>
    bif (decide ((0:Int)≤(Dp .i64 ((@DH n2 width1)+width1)))) then
     some (((bits .or .u64 (Dp .u64 (v5.2.1*((2:Int) ^ (min (Dv (Dp .i64 ((@DH n2 width1)+width1))) (Dz .u64))))) v5.1),(0:Int)))
    else
     none
   else
    ne (oP N x0 width1 (@DH n2 width1)) fun v5=>
    bif (decide ((0:Int)≤(@DH n2 width1))) then
     some (((bits .or .u64 (Dp .u64 (v5.2.1*((2:Int) ^ (min (Dv (@DH n2 width1)) (Dz .u64))))) v5.1),(0:Int)))
    else
     none
theorem Cr (x0:Int)(width1:Int)(n2:Int):(runK Do (aoS N) 400 218 [(.int .u64),(.int .i64),(.int .i64)] [(.int .u64),(.int .i64)] (x0,width1,n2,())).run=lS N x0 width1 n2:=by kernel_rfl
noncomputable def aoR:(R:Type)→Env R:=Du (aoS N) 218 (fun R=>fnK [(.int .u64),(.int .i64),(.int .i64)] [(.int .u64),(.int .i64)] (fun c=>lS N c.1 c.2.1 c.2.2.1))
theorem acm (R:Type):EnvOK Do (aoR N R):=Dt hmx (acn N R) (acn N _) (by kernel_rfl) (fun c=>Cr N c.1 c.2.1 c.2.2.1)
noncomputable def fB (half0:Int)(round1:Int):Option Int:=
 ne (jI N ((half0,(round1,((2:Int),((@Arr.mk Int (4:Nat) ([1,2,9,16]:List Int) @wu._proof_8),((0:Int),()))))),())) fun v3=>
 ne (lS N v3.1.1 (28:Int) v3.1.2.1) fun v4=>
 some (v4.1)
theorem Az (half0:Int)(round1:Int):(runK Do (aoR N) 400 193 [(.int .u64),(.int .i64)] [(.int .u64)] (half0,round1,())).run=fB N half0 round1:=by kernel_rfl
noncomputable def aoQ:(R:Type)→Env R:=Du (aoR N) 193 (fun R=>fnK [(.int .u64),(.int .i64)] [(.int .u64)] (fun c=>fB N c.1 c.2.1))
theorem acl (R:Type):EnvOK Do (aoQ N R):=Dt hmx (acm N R) (acm N _) (by kernel_rfl) (fun c=>Az N c.1 c.2.1)
noncomputable def mL:LI:=⟨39,0,[],⟨[(2,.lit (.box 0 0)),(3,.ty (.int .u64)),(4,.ty (.int .u64)),(6,.ty (.sl (.int .i64))),(7,.lit (.box 1 0)),(18,.ty (.int .i64))],[.box 221 (.arr 16 (.int .u64)),.box 221 (.arr 16 (.int .u64))]⟩,[(.exit 0,⟨[(2,.lit (.box 0 0)),(7,.lit (.box 1 0))],[.box 221 (.arr 16 (.int .u64)),.box 221 (.arr 16 (.int .u64))]⟩)]⟩
noncomputable def jN (X:((Int×(Int×pz8))×pz15)→Option ((Unit×pz15)))(left3:Int)(right4:Int)(table6:List (Int))(x18:Int)(h0:Arr Int 16)(h1:Arr Int 16):Option ((Unit×pz15)):=
 bif (decide (x18<(16:Int))) then
  ne (fB N left3 (Dp .i64 (x18+1))) fun v8=>
  ne (fB N right4 (Dp .i64 (x18+1))) fun v9=>
  ne (aM N (bits .or .u64 (Dp .u64 (v8*((2:Int) ^ (min (Dv (28:Int)) (Dz .u64))))) v9) (56:Int) table6) fun v10=>
  bif (decide ((0:Int)≤x18∧x18<((16:Nat):Int))) then
   ne (h1.l[Dv x18]?) fun (v11:Int)=>
   (X ((v8,(v9,(table6,((Dp .i64 (x18+1)),())))),(h0,((h1.set (Dv x18) v10),()))))
  else
   none
 else
  some (((),(h0,(h1,()))))
noncomputable def iM (c:((Int×(Int×pz8))×pz15)):Option ((Unit×pz15)):=gl (fun X c=>jN N X c.1.1 c.1.2.1 c.1.2.2.1 c.1.2.2.2.1 c.2.1 c.2.2.1) N c
theorem yy (X:((Int×(Int×pz8))×pz15)→Option ((Unit×pz15)))(left3:Int)(right4:Int)(table6:List (Int))(x18:Int)(h0:Arr Int 16)(h1:Arr Int 16):(am Do (aoQ N) 400 [157] mL (ak Do [157] 5) X ((left3,right4,table6,x18,()),(h0,h1,()))).run=jN N X left3 right4 table6 x18 h0 h1:=by kernel_rfl
noncomputable def aoP:(R:Type)→Env R:=Dx (aoQ N) [157] 0 5 (fun R=>lpK Do mL (fun X c=>jN N X c.1.1 c.1.2.1 c.1.2.2.1 c.1.2.2.2.1 c.2.1 c.2.2.1) N)
theorem ack (R:Type):EnvOK Do (aoP N R):=Dw (acl N R) (by kernel_rfl) (aq (li:=mL) hmx (acl N _) (by kernel_rfl) ab (fun X c=>yy N X c.1.1 c.1.2.1 c.1.2.2.1 c.1.2.2.2.1 c.2.1 c.2.2.1) N)
noncomputable def qB (key0:Int):Option (Arr Int 16):=
 ne (@lL N) fun (v2:(List Int))=>
 ne (aM N key0 (64:Int) v2) fun v3=>
 ne (iM N (((@DJ (bits .and .u64 v3 (Dp .u64 ((Dp .u64 ((1:Int)*((2:Int) ^ (min (Dv (56:Int)) (Dz .u64)))))-1))) ((2:Int) ^ (min (Dv (Dp .i64 ((56:Int)-28))) (Dz .u64)))),((bits .and .u64 (bits .and .u64 v3 (Dp .u64 ((Dp .u64 ((1:Int)*((2:Int) ^ (min (Dv (56:Int)) (Dz .u64)))))-1))) (Dp .u64 ((Dp .u64 ((1:Int)*((2:Int) ^ (min (Dv (Dp .i64 ((56:Int)-28))) (Dz .u64)))))-1))),((((([14,17,11,24,1,5,3,28,15,6,21,10]:List Int)++([23,19,12,4,26,8,16,7,27,20,13,2]:List Int))++([41,52,31,37,47,55,30,40,51,45,33,48]:List Int))++([44,49,39,56,34,53,46,42,50,36,29,32]:List Int)),((0:Int),())))),(zc16,(zc16,())))) fun v4=>
 some (v4.2.2.1)
theorem adQ (key0:Int):(runK Do (aoP N) 400 157 [(.int .u64)] [(.arr 16 (.int .u64))] (key0,())).run=qB N key0:=by kernel_rfl
noncomputable def arE:(R:Type)→Env R:=Du (aoP N) 157 (fun R=>fnK [(.int .u64)] [(.arr 16 (.int .u64))] (fun c=>qB N c.1))
theorem akf (R:Type):EnvOK Do (arE N R):=Dt hmx (ack N R) (ack N _) (by kernel_rfl) (fun c=>adQ N c.1)
noncomputable def arD:(R:Type)→Env R:=DE (arE N) [(156,0)]
theorem ake (R:Type):EnvOK Do (arD N R):=DA (akf N R) [(156,0)]
noncomputable def aoO:(R:Type)→Env R:=DM (arD N) [(184,8)]
theorem acj (R:Type):EnvOK Do (aoO N R):=DK (ake N R) [(184,8)]
noncomputable def mF:LI:=⟨24,0,[],⟨[(1,.lit (.own 0)),(2,.ty (.int .i64)),(4,.ty (.int .i64)),(7,.ty (.int .i64))],[.own (.int .i64) 3]⟩,[(.exit 2,⟨[(1,.lit (.own 0)),(4,.ty (.int .i64))],[.own (.int .i64) 3]⟩)]⟩
noncomputable def pD (N:Nat)(X:(pz9×((List Int)×Unit))→Option (pz21))(row2:Int)(x4:Int)(x7:Int)(h0:List (Int)):Option (pz21):=
 bif (decide (x7<(6:Int))) then
  bif (ae ((Dq h0)+(Dq ([(Dp .i64 ((@DH (Dp .i64 ((Dp .i64 ((Dp .i64 ((Dp .i64 ((4:Int)*row2))+x7))+32))-1)) (32:Int))+1))]:List (Int)))) 8) then
   (X ((row2,(x4,((Dp .i64 (x7+1)),()))),((h0++([(Dp .i64 ((@DH (Dp .i64 ((Dp .i64 ((Dp .i64 ((Dp .i64 ((4:Int)*row2))+x7))+32))-1)) (32:Int))+1))]:List (Int))),())))
  else
   none
 else
  some (((x4,()),(h0,())))
noncomputable def yr (c:(pz9×((List Int)×Unit))):Option (pz21):=gl (fun X c=>pD N X c.1.1 c.1.2.1 c.1.2.2.1 c.2.1) N c
theorem yq (X:(pz9×((List Int)×Unit))→Option (pz21))(row2:Int)(x4:Int)(x7:Int)(h0:List (Int)):(am Do (aoO N) 400 [184] mF (ak Do [184] 6) X ((row2,x4,x7,()),(h0,()))).run=pD N X row2 x4 x7 h0:=by kernel_rfl
noncomputable def aoN:(R:Type)→Env R:=Dx (aoO N) [184] 0 6 (fun R=>lpK Do mF (fun X c=>pD N X c.1.1 c.1.2.1 c.1.2.2.1 c.2.1) N)
theorem aci (R:Type):EnvOK Do (aoN N R):=Dw (acj N R) (by kernel_rfl) (aq (li:=mF) hmx (acj N _) (by kernel_rfl) ab (fun X c=>yq N X c.1.1 c.1.2.1 c.1.2.2.1 c.2.1) N)
noncomputable def mG:LI:=⟨24,0,[(1,3)],⟨[(1,.lit (.own 0)),(4,.ty (.int .i64))],[.own (.int .i64) 3]⟩,[(.exit 0,⟨[(1,.lit (.own 0))],[.own (.int .i64) 3]⟩)]⟩
noncomputable def pE (X:pz21→Option pz3)(x4:Int)(h0:List (Int)):Option pz3:=
 bif (decide (x4<(8:Int))) then
  ne (yr N ((x4,(x4,((0:Int),()))),(h0,()))) fun v4=>
  (X (((Dp .i64 (v4.1.1+1)),()),(v4.2.1,())))
 else
  some (((),(h0,())))
noncomputable def yu (c:pz21):Option pz3:=gl (fun X c=>pE N X c.1.1 c.2.1) N c
theorem yt (X:pz21→Option pz3)(x4:Int)(h0:List (Int)):(am Do (aoN N) 400 [184] mG (ak Do [184] 3) X ((x4,()),(h0,()))).run=pE N X x4 h0:=by kernel_rfl
noncomputable def aoM:(R:Type)→Env R:=Dx (aoN N) [184] 0 3 (fun R=>lpK Do mG (fun X c=>pE N X c.1.1 c.2.1) N)
theorem ach (R:Type):EnvOK Do (aoM N R):=Dw (aci N R) (by kernel_rfl) (aq (li:=mG) hmx (aci N _) (by kernel_rfl) ab (fun X c=>yt N X c.1.1 c.2.1) N)
noncomputable def qy:Option (List Int):=
 ne (yu N (((0:Int),()),(([]:List Int),()))) fun v1=>
 some (v1.2.1)
theorem adN:(runK Do (aoM N) 400 184 [] [(.sl (.int .i64))] ()).run=qy N:=by kernel_rfl
noncomputable def aoL:(R:Type)→Env R:=Du (aoM N) 184 (fun R=>fnK [] [(.sl (.int .i64))] (fun c=>qy N ))
theorem acg (R:Type):EnvOK Do (aoL N R):=Dt hmx (ach N R) (ach N _) (by kernel_rfl) (fun c=>adN N )
noncomputable def wE (N:Nat):Option (List Int):=
 some ((((([16,7,20,21,29,12,28,17]:List Int)++([1,15,23,26,5,18,31,10]:List Int))++([2,8,24,14,32,27,3,9]:List Int))++([19,13,30,6,22,11,4,25]:List Int)))
theorem AB:(runK Do (aoL N) 400 185 [] [(.sl (.int .i64))] ()).run=wE N:=by kernel_rfl
noncomputable def arC:(R:Type)→Env R:=Du (aoL N) 185 (fun R=>fnK [] [(.sl (.int .i64))] (fun c=>wE N ))
theorem akd (R:Type):EnvOK Do (arC N R):=Dt hmx (acg N R) (acg N _) (by kernel_rfl) (fun c=>AB N )
noncomputable def aoK:(R:Type)→Env R:=DM (arC N) [(187,5)]
theorem acf (R:Type):EnvOK Do (aoK N R):=DK (akd N R) [(187,5)]
noncomputable def cp:LI:=⟨21,1,[(0,3)],⟨[(0,.lit (.own 1)),(1,.ty (.int .i64)),(8,.ty (.int .i64)),(9,.ty (.int .i64))],[.dead,.own (.int .i64) 3]⟩,[(.exit 0,⟨[(0,.lit (.own 1))],[.dead,.own (.int .i64) 3]⟩)]⟩
noncomputable def cH (N:Nat)(X:(pz9×((List Int)×Unit))→Option pz3)(x1:Int)(x8:Int)(x9:Int)(h0:List (Int)):Option pz3:=
 bif (decide (x9<x8)) then
  bif (ae ((Dq h0)+(Dq ([(Dp .i64 (x1-(Dp .i64 ((8:Int)*x9))))]:List (Int)))) 8) then
   (X ((x1,(x8,((Dp .i64 (x9+1)),()))),((h0++([(Dp .i64 (x1-(Dp .i64 ((8:Int)*x9))))]:List (Int))),())))
  else
   none
 else
  some (((),(h0,())))
noncomputable def iL (c:(pz9×((List Int)×Unit))):Option pz3:=gl (fun X c=>cH N X c.1.1 c.1.2.1 c.1.2.2.1 c.2.1) N c
theorem iK (X:(pz9×((List Int)×Unit))→Option pz3)(x1:Int)(x8:Int)(x9:Int)(h0:List (Int)):(am Do (aoK N) 400 [214,5,187] cp (ak Do [214,5,187] 2) X ((x1,x8,x9,()),(h0,()))).run=cH N X x1 x8 x9 h0:=by kernel_rfl
noncomputable def aoJ:(R:Type)→Env R:=Dx (aoK N) [214,5,187] 1 2 (fun R=>lpK Do cp (fun X c=>cH N X c.1.1 c.1.2.1 c.1.2.2.1 c.2.1) N)
theorem ace (R:Type):EnvOK Do (aoJ N R):=Dw (acf N R) (by kernel_rfl) (aq (li:=cp) hmx (acf N _) (by kernel_rfl) ab (fun X c=>iK N X c.1.1 c.1.2.1 c.1.2.2.1 c.2.1) N)
noncomputable def kN:LI:=⟨13,0,[(1,3)],⟨[(1,.lit (.own 0)),(4,.ty (.arr 8 (.int .i64))),(5,.ty (.int .i64))],[.own (.int .i64) 3]⟩,[(.exit 0,⟨[(1,.lit (.own 0))],[.own (.int .i64) 3]⟩)]⟩
noncomputable def nY (X:(((Arr Int 8)×(Int×Unit))×((List Int)×Unit))→Option pz3)(x4:Arr Int 8)(x5:Int)(h0:List (Int)):Option pz3:=
 bif (decide (x5<(8:Int))) then
  ne (getI x4.l x5) fun (v5:Int)=>
  ne (iL N ((v5,((8:Int),((0:Int),()))),(h0,()))) fun v6=>
  (X ((x4,((Dp .i64 (x5+1)),())),(v6.2.1,())))
 else
  some (((),(h0,())))
noncomputable def vF (c:(((Arr Int 8)×(Int×Unit))×((List Int)×Unit))):Option pz3:=gl (fun X c=>nY N X c.1.1 c.1.2.1 c.2.1) N c
theorem vE (X:(((Arr Int 8)×(Int×Unit))×((List Int)×Unit))→Option pz3)(x4:Arr Int 8)(x5:Int)(h0:List (Int)):(am Do (aoJ N) 400 [187] kN (ak Do [187] 3) X ((x4,x5,()),(h0,()))).run=nY N X x4 x5 h0:=by kernel_rfl
noncomputable def aoI:(R:Type)→Env R:=Dx (aoJ N) [187] 0 3 (fun R=>lpK Do kN (fun X c=>nY N X c.1.1 c.1.2.1 c.2.1) N)
theorem acd (R:Type):EnvOK Do (aoI N R):=Dw (ace N R) (by kernel_rfl) (aq (li:=kN) hmx (ace N _) (by kernel_rfl) ab (fun X c=>vE N X c.1.1 c.1.2.1 c.2.1) N)
noncomputable def lM:Option (List Int):=
 ne (vF N (((@DB Int 7 58 (@DB Int 6 60 (@DB Int 5 62 (@DB Int 4 64 (@DB Int 3 57 (@DB Int 2 59 (@DB Int 1 61 (@DB Int 0 63 (@Arr.nil Int))))))))),((0:Int),())),(([]:List Int),()))) fun v1=>
 some (v1.2.1)
theorem Cc:(runK Do (aoI N) 400 187 [] [(.sl (.int .i64))] ()).run=lM N:=by kernel_rfl
noncomputable def aoH:(R:Type)→Env R:=Du (aoI N) 187 (fun R=>fnK [] [(.sl (.int .i64))] (fun c=>lM N ))
theorem acb (R:Type):EnvOK Do (aoH N R):=Dt hmx (acd N R) (acd N _) (by kernel_rfl) (fun c=>Cc N )
noncomputable def mD:LI:=⟨36,0,[],⟨[(3,.ty (.sl (.int .i64))),(9,.ty (.int .u64)),(10,.ty (.int .u64)),(11,.ty (.int .i64))],[]⟩,[(.exit 0,⟨[(3,.ty (.sl (.int .i64))),(10,.ty (.int .u64))],[]⟩)]⟩
noncomputable def jH (X:(((List Int)×pz9)×Unit)→Option ((pz8×Unit)))(mix3:List (Int))(six9:Int)(digits10:Int)(n11:Int):Option ((pz8×Unit)):=
 bif (decide (n11≤(8:Int))) then
  bif (decide ((0:Int)≤(Dp .i64 ((48:Int)-(Dp .i64 ((6:Int)*n11)))))) then
   ne (nZ N n11 (@DJ six9 ((2:Int) ^ (min (Dv (Dp .i64 ((48:Int)-(Dp .i64 ((6:Int)*n11))))) (Dz .u64))))) fun v6=>
   (X ((mix3,(six9,((bits .or .u64 (Dp .u64 (digits10*((2:Int) ^ (min (Dv (4:Int)) (Dz .u64))))) v6),((Dp .i64 (n11+1)),())))),()))
  else
   none
 else
  some (((mix3,(digits10,())),()))
noncomputable def mB (c:(((List Int)×pz9)×Unit)):Option ((pz8×Unit)):=gl (fun X c=>jH N X c.1.1 c.1.2.1 c.1.2.2.1 c.1.2.2.2.1) N c
theorem yp (X:(((List Int)×pz9)×Unit)→Option ((pz8×Unit)))(mix3:List (Int))(six9:Int)(digits10:Int)(n11:Int):(am Do (aoH N) 400 [188] mD (ak Do [188] 4) X ((mix3,six9,digits10,n11,()),())).run=jH N X mix3 six9 digits10 n11:=by kernel_rfl
noncomputable def aoG:(R:Type)→Env R:=Dx (aoH N) [188] 0 4 (fun R=>lpK Do mD (fun X c=>jH N X c.1.1 c.1.2.1 c.1.2.2.1 c.1.2.2.2.1) N)
theorem aca (R:Type):EnvOK Do (aoG N R):=Dw (acb N R) (by kernel_rfl) (aq (li:=mD) hmx (acb N _) (by kernel_rfl) ab (fun X c=>yp N X c.1.1 c.1.2.1 c.1.2.2.1 c.1.2.2.2.1) N)
noncomputable def qx (half0:Int)(key1:Int)(widen2:List (Int))(mix3:List (Int)):Option Int:=
 ne (aM N (Dp .u64 half0) (32:Int) widen2) fun v5=>
 ne (mB N ((mix3,((bits .xor .u64 v5 key1),((0:Int),((1:Int),())))),())) fun v6=>
 ne (aM N v6.1.2.1 (32:Int) v6.1.1) fun v7=>
 some ((Dp .u32 v7))
theorem adM (half0:Int)(key1:Int)(widen2:List (Int))(mix3:List (Int)):(runK Do (aoG N) 400 188 [(.int .u32),(.int .u64),(.sl (.int .i64)),(.sl (.int .i64))] [(.int .u32)] (half0,key1,widen2,mix3,())).run=qx N half0 key1 widen2 mix3:=by kernel_rfl
noncomputable def aoF:(R:Type)→Env R:=Du (aoG N) 188 (fun R=>fnK [(.int .u32),(.int .u64),(.sl (.int .i64)),(.sl (.int .i64))] [(.int .u32)] (fun c=>qx N c.1 c.2.1 c.2.2.1 c.2.2.2.1))
theorem ab9 (R:Type):EnvOK Do (aoF N R):=Dt hmx (aca N R) (aca N _) (by kernel_rfl) (fun c=>adM N c.1 c.2.1 c.2.2.1 c.2.2.2.1)
noncomputable def iy:LI:=⟨43,0,[],⟨[(5,.ty (.sl (.int .i64))),(6,.ty (.sl (.int .i64))),(8,.ty (.int .u32)),(9,.ty (.int .u32)),(22,.ty (.arr 16 (.int .u64))),(23,.ty (.int .i64))],[]⟩,[(.exit 0,⟨[(8,.ty (.int .u32)),(9,.ty (.int .u32))],[]⟩)]⟩
noncomputable def eN (X:(((List Int)×((List Int)×(Int×(Int×((Arr Int 16)×(Int×Unit))))))×Unit)→Option (pz14))(widen5:List (Int))(mix6:List (Int))(left8:Int)(right9:Int)(x22:Arr Int 16)(x23:Int):Option (pz14):=
 bif (decide (x23<(16:Int))) then
  ne (getI x22.l x23) fun (v8:Int)=>
  ne (qx N right9 v8 widen5 mix6) fun v9=>
  (X ((widen5,(mix6,(right9,((bits .xor .u32 left8 v9),(x22,((Dp .i64 (x23+1)),())))))),()))
 else
  some (((left8,(right9,())),()))
noncomputable def eR (c:(((List Int)×((List Int)×(Int×(Int×((Arr Int 16)×(Int×Unit))))))×Unit)):Option (pz14):=gl (fun X c=>eN N X c.1.1 c.1.2.1 c.1.2.2.1 c.1.2.2.2.1 c.1.2.2.2.2.1 c.1.2.2.2.2.2.1) N c
theorem sw (X:(((List Int)×((List Int)×(Int×(Int×((Arr Int 16)×(Int×Unit))))))×Unit)→Option (pz14))(widen5:List (Int))(mix6:List (Int))(left8:Int)(right9:Int)(x22:Arr Int 16)(x23:Int):(am Do (aoF N) 400 [156] iy (ak Do [156] 5) X ((widen5,mix6,left8,right9,x22,x23,()),())).run=eN N X widen5 mix6 left8 right9 x22 x23:=by kernel_rfl
noncomputable def aoE:(R:Type)→Env R:=Dx (aoF N) [156] 0 5 (fun R=>lpK Do iy (fun X c=>eN N X c.1.1 c.1.2.1 c.1.2.2.1 c.1.2.2.2.1 c.1.2.2.2.2.1 c.1.2.2.2.2.2.1) N)
theorem ab8 (R:Type):EnvOK Do (aoE N R):=Dw (ab9 N R) (by kernel_rfl) (aq (li:=iy) hmx (ab9 N _) (by kernel_rfl) ab (fun X c=>sw N X c.1.1 c.1.2.1 c.1.2.2.1 c.1.2.2.2.1 c.1.2.2.2.2.1 c.1.2.2.2.2.2.1) N)
noncomputable def mK:LI:=⟨20,0,[],⟨[(1,.lit (.own 0)),(5,.ty (.sl (.int .i64))),(6,.ty (.int .i64)),(7,.ty (.int .i64))],[.own (.int .i64) 3]⟩,[(.exit 0,⟨[(1,.lit (.own 0))],[.own (.int .i64) 3]⟩)]⟩
noncomputable def pF (N:Nat)(X:(pz5×((List Int)×Unit))→Option pz3)(x5:List (Int))(x6:Int)(x7:Int)(h0:List (Int)):Option pz3:=
 bif (decide (x7<x6)) then
  ne (getI x5 x7) fun (v6:Int)=>
  bif (decide ((0:Int)≤(Dp .i64 (v6-1))∧(Dp .i64 (v6-1))<(((Dq h0):Nat):Int))) then
   ne (h0[Dv (Dp .i64 (v6-1))]?) fun (v7:Int)=>
   (X ((x5,(x6,((Dp .i64 (x7+1)),()))),((@List.set Int h0 (Dv (Dp .i64 (v6-1))) (Dp .i64 (x7+1))),())))
  else
   none
 else
  some (((),(h0,())))
noncomputable def yx (c:(pz5×((List Int)×Unit))):Option pz3:=gl (fun X c=>pF N X c.1.1 c.1.2.1 c.1.2.2.1 c.2.1) N c
theorem yw (X:(pz5×((List Int)×Unit))→Option pz3)(x5:List (Int))(x6:Int)(x7:Int)(h0:List (Int)):(am Do (aoE N) 400 [189] mK (ak Do [189] 3) X ((x5,x6,x7,()),(h0,()))).run=pF N X x5 x6 x7 h0:=by kernel_rfl
noncomputable def aoD:(R:Type)→Env R:=Dx (aoE N) [189] 0 3 (fun R=>lpK Do mK (fun X c=>pF N X c.1.1 c.1.2.1 c.1.2.2.1 c.2.1) N)
theorem ab7 (R:Type):EnvOK Do (aoD N R):=Dw (ab8 N R) (by kernel_rfl) (aq (li:=mK) hmx (ab8 N _) (by kernel_rfl) ab (fun X c=>yw N X c.1.1 c.1.2.1 c.1.2.2.1 c.2.1) N)
noncomputable def qz:Option (List Int):=
 ne (@lM N) fun (v1:(List Int))=>
 ne (yx N ((v1,((((Dq v1):Nat):Int),((0:Int),()))),((@DI Int (Dv (64:Int)) (0:Int)),()))) fun v2=>
 some (v2.2.1)
theorem adO:(runK Do (aoD N) 400 189 [] [(.sl (.int .i64))] ()).run=qz N:=by kernel_rfl
noncomputable def aoC:(R:Type)→Env R:=Du (aoD N) 189 (fun R=>fnK [] [(.sl (.int .i64))] (fun c=>qz N ))
theorem ab6 (R:Type):EnvOK Do (aoC N R):=Dt hmx (ab7 N R) (ab7 N _) (by kernel_rfl) (fun c=>adO N )
noncomputable def jK (keys0:Arr Int 16)(block1:Int):Option Int:=
 ne (@qy N) fun (v3:(List Int))=>
 ne (@lM N) fun (v4:(List Int))=>
 ne (aM N block1 (64:Int) v4) fun v5=>
 ne (eR N ((v3,((((([16,7,20,21,29,12,28,17]:List Int)++([1,15,23,26,5,18,31,10]:List Int))++([2,8,24,14,32,27,3,9]:List Int))++([19,13,30,6,22,11,4,25]:List Int)),((Dp .u32 (@DJ v5 ((2:Int) ^ (min (Dv (32:Int)) (Dz .u64))))),((Dp .u32 v5),(keys0,((0:Int),())))))),())) fun v6=>
 ne (@qz N) fun (v7:(List Int))=>
 ne (aM N (bits .or .u64 (Dp .u64 ((Dp .u64 v6.1.2.1)*((2:Int) ^ (min (Dv (32:Int)) (Dz .u64))))) (Dp .u64 v6.1.1)) (64:Int) v7) fun v8=>
 some (v8)
theorem yv (keys0:Arr Int 16)(block1:Int):(runK Do (aoC N) 400 156 [(.arr 16 (.int .u64)),(.int .u64)] [(.int .u64)] (keys0,block1,())).run=jK N keys0 block1:=by kernel_rfl
noncomputable def aoB:(R:Type)→Env R:=Du (aoC N) 156 (fun R=>fnK [(.arr 16 (.int .u64)),(.int .u64)] [(.int .u64)] (fun c=>jK N c.1 c.2.1))
theorem ab5 (R:Type):EnvOK Do (aoB N R):=Dt hmx (ab6 N R) (ab6 N _) (by kernel_rfl) (fun c=>yv N c.1 c.2.1)
noncomputable def qA (key0:Int)(block1:Int):Option Int:=
 ne (qB N key0) fun v3=>
 ne (jK N v3 block1) fun v4=>
 some (v4)
theorem adP (key0:Int)(block1:Int):(runK Do (aoB N) 400 119 [(.int .u64),(.int .u64)] [(.int .u64)] (key0,block1,())).run=qA N key0 block1:=by kernel_rfl
noncomputable def aoA:(R:Type)→Env R:=Du (aoB N) 119 (fun R=>fnK [(.int .u64),(.int .u64)] [(.int .u64)] (fun c=>qA N c.1 c.2.1))
theorem ab4 (R:Type):EnvOK Do (aoA N R):=Dt hmx (ab5 N R) (ab5 N _) (by kernel_rfl) (fun c=>adP N c.1 c.2.1)
noncomputable def aS:LI:=⟨28,4,[],⟨[(1,.ty (.int .i64)),(2,.lit (.clo 181 [.box 2 0,.box 3 0,.box 0 0,.box 1 0])),(7,.ty (.int .u8)),(9,.ty (.sl (.int .u8))),(10,.ty (.int .i64)),(11,.ty (.int .i64)),(15,.ty (.int .i64)),(16,.ty (.int .i64))],[.box 3 (.int .i64),.boxp 28 [.own 4],.box 5 (.int .u8),.box 3 (.int .i64),.own (.int .u8) 5]⟩,[(.exit 2,⟨[(1,.ty (.int .i64)),(2,.lit (.clo 181 [.box 2 0,.box 3 0,.box 0 0,.box 1 0])),(9,.ty (.sl (.int .u8))),(10,.ty (.int .i64)),(11,.ty (.int .i64))],[.box 3 (.int .i64),.boxp 28 [.own 4],.box 5 (.int .u8),.box 3 (.int .i64),.own (.int .u8) 5]⟩)]⟩
noncomputable def ai (N:Nat)(X:((Int×(Int×((List Int)×(Int×pz9))))×(Int×pz16))→Option (((Int×pz5)×(Int×pz16))))(many1:Int)(b7:Int)(x9:List (Int))(x10:Int)(x11:Int)(x15:Int)(x16:Int)(h0:Int)(h1:Int)(h2:Int)(h3:List (Int)):Option (((Int×pz5)×(Int×pz16))):=
 bif (decide (x16<x15)) then
  bif (decide ((0:Int)≤(Dp .i64 ((7:Int)-x16)))) then
   bif (decide ((Dp .i64 (h2+1))=h0)) then
    bif (ae ((Dq h3)+(Dq ([(bits .or .u8 (Dp .u8 (h1*((2:Int) ^ (min (Dv (1:Int)) (Dz .u8))))) (bits .and .u8 (@DJ b7 ((2:Int) ^ (min (Dv (Dp .i64 ((7:Int)-x16))) (Dz .u8)))) (1:Int)))]:List (Int)))) 1) then
     (X ((many1,(b7,(x9,(x10,(x11,(x15,((Dp .i64 (x16+1)),()))))))),(h0,((0:Int),((0:Int),((h3++([(bits .or .u8 (Dp .u8 (h1*((2:Int) ^ (min (Dv (1:Int)) (Dz .u8))))) (bits .and .u8 (@DJ b7 ((2:Int) ^ (min (Dv (Dp .i64 ((7:Int)-x16))) (Dz .u8)))) (1:Int)))]:List (Int))),()))))))
    else
     none
   else
    (X ((many1,(b7,(x9,(x10,(x11,(x15,((Dp .i64 (x16+1)),()))))))),(h0,((bits .or .u8 (Dp .u8 (h1*((2:Int) ^ (min (Dv (1:Int)) (Dz .u8))))) (bits .and .u8 (@DJ b7 ((2:Int) ^ (min (Dv (Dp .i64 ((7:Int)-x16))) (Dz .u8)))) (1:Int))),((Dp .i64 (h2+1)),(h3,()))))))
  else
   none
 else
  some (((many1,(x9,(x10,(x11,())))),(h0,(h1,(h2,(h3,()))))))
noncomputable def aR (c:((Int×(Int×((List Int)×(Int×pz9))))×(Int×pz16))):Option (((Int×pz5)×(Int×pz16))):=gl (fun X c=>ai N X c.1.1 c.1.2.1 c.1.2.2.1 c.1.2.2.2.1 c.1.2.2.2.2.1 c.1.2.2.2.2.2.1 c.1.2.2.2.2.2.2.1 c.2.1 c.2.2.1 c.2.2.2.1 c.2.2.2.2.1) N c
theorem du (X:((Int×(Int×((List Int)×(Int×pz9))))×(Int×pz16))→Option (((Int×pz5)×(Int×pz16))))(many1:Int)(b7:Int)(x9:List (Int))(x10:Int)(x11:Int)(x15:Int)(x16:Int)(h0:Int)(h1:Int)(h2:Int)(h3:List (Int)):(am Do (aoA N) 400 [182,5,154,3,117] aS (ak Do [182,5,154,3,117] 4) X ((many1,b7,x9,x10,x11,x15,x16,()),(h0,h1,h2,h3,()))).run=ai N X many1 b7 x9 x10 x11 x15 x16 h0 h1 h2 h3:=by kernel_rfl
noncomputable def aoz:(R:Type)→Env R:=Dx (aoA N) [182,5,154,3,117] 4 4 (fun R=>lpK Do aS (fun X c=>ai N X c.1.1 c.1.2.1 c.1.2.2.1 c.1.2.2.2.1 c.1.2.2.2.2.1 c.1.2.2.2.2.2.1 c.1.2.2.2.2.2.2.1 c.2.1 c.2.2.1 c.2.2.2.1 c.2.2.2.2.1) N)
theorem ab3 (R:Type):EnvOK Do (aoz N R):=Dw (ab4 N R) (by kernel_rfl) (aq (li:=aS) hmx (ab4 N _) (by kernel_rfl) ab (fun X c=>du N X c.1.1 c.1.2.1 c.1.2.2.1 c.1.2.2.2.1 c.1.2.2.2.2.1 c.1.2.2.2.2.2.1 c.1.2.2.2.2.2.2.1 c.2.1 c.2.2.1 c.2.2.2.1 c.2.2.2.2.1) N)
noncomputable def aU:LI:=⟨28,4,[],⟨[(1,.ty (.int .i64)),(2,.lit (.clo 181 [.box 2 0,.box 3 0,.box 0 0,.box 1 0])),(9,.ty (.sl (.int .u8))),(10,.ty (.int .i64)),(11,.ty (.int .i64))],[.box 3 (.int .i64),.boxp 28 [.own 4],.box 5 (.int .u8),.box 3 (.int .i64),.own (.int .u8) 5]⟩,[(.exit 0,⟨[],[.box 3 (.int .i64),.boxp 28 [.own 4],.box 5 (.int .u8),.box 3 (.int .i64),.own (.int .u8) 5]⟩)]⟩
noncomputable def aw (X:((Int×pz5)×(Int×pz16))→Option ((Unit×(Int×pz16))))(many1:Int)(x9:List (Int))(x10:Int)(x11:Int)(h0:Int)(h1:Int)(h2:Int)(h3:List (Int)):Option ((Unit×(Int×pz16))):=
 bif (decide (x11<x10)) then
  ne (getI x9 x11) fun (v10:Int)=>
  ne (aR N ((many1,(v10,(x9,(x10,(x11,(many1,((0:Int),()))))))),(h0,(h1,(h2,(h3,())))))) fun v11=>
  (X ((v11.1.1,(v11.1.2.1,(v11.1.2.2.1,((Dp .i64 (v11.1.2.2.2.1+1)),())))),(v11.2.1,((v11.2).snd.1,((v11.2).snd.2.1,((v11.2).snd.2.2.1,()))))))
 else
  some (((),(h0,(h1,(h2,(h3,()))))))
noncomputable def aT (c:((Int×pz5)×(Int×pz16))):Option ((Unit×(Int×pz16))):=gl (fun X c=>aw N X c.1.1 c.1.2.1 c.1.2.2.1 c.1.2.2.2.1 c.2.1 c.2.2.1 c.2.2.2.1 c.2.2.2.2.1) N c
theorem dw (X:((Int×pz5)×(Int×pz16))→Option ((Unit×(Int×pz16))))(many1:Int)(x9:List (Int))(x10:Int)(x11:Int)(h0:Int)(h1:Int)(h2:Int)(h3:List (Int)):(am Do (aoz N) 400 [182,5,154,3,117] aU (ak Do [182,5,154,3,117] 1) X ((many1,x9,x10,x11,()),(h0,h1,h2,h3,()))).run=aw N X many1 x9 x10 x11 h0 h1 h2 h3:=by kernel_rfl
noncomputable def aoy:(R:Type)→Env R:=Dx (aoz N) [182,5,154,3,117] 4 1 (fun R=>lpK Do aU (fun X c=>aw N X c.1.1 c.1.2.1 c.1.2.2.1 c.1.2.2.2.1 c.2.1 c.2.2.1 c.2.2.2.1 c.2.2.2.2.1) N)
theorem ab2 (R:Type):EnvOK Do (aoy N R):=Dw (ab3 N R) (by kernel_rfl) (aq (li:=aU) hmx (ab3 N _) (by kernel_rfl) ab (fun X c=>dw N X c.1.1 c.1.2.1 c.1.2.2.1 c.1.2.2.2.1 c.2.1 c.2.2.1 c.2.2.2.1 c.2.2.2.2.1) N)
noncomputable def eE (N:Nat)(x0:Int):Option Int:=
 ne (getI (Dr (Ds (@DL UInt8 (@DL UInt8 ([0,1,1,2,1,2,2,3,1,2,2,3,2,3,3,4,1,2,2,3,2,3,3,4,2,3,3,4,3,4,4,5,1,2,2,3,2,3,3,4,2,3,3,4,3,4,4,5,2,3,3,4,3,4,4,5,3,4,4,5,4,5,5,6]:List UInt8) ([1,2,2,3,2,3,3,4,2,3,3,4,3,4,4,5,2,3,3,4,3,4,4,5,3,4,4,5,4,5,5,6,2,3,3,4,3,4,4,5,3,4,4,5,4,5,5,6,3,4,4,5,4,5,5,6,4,5,5,6,5,6,6,7]:List UInt8)) (@DL UInt8 ([1,2,2,3,2,3,3,4,2,3,3,4,3,4,4,5,2,3,3,4,3,4,4,5,3,4,4,5,4,5,5,6,2,3,3,4,3,4,4,5,3,4,4,5,4,5,5,6,3,4,4,5,4,5,5,6,4,5,5,6,5,6,6,7]:List UInt8) ([2,3,3,4,3,4,4,5,3,4,4,5,4,5,5,6,3,4,4,5,4,5,5,6,4,5,5,6,5,6,6,7,3,4,4,5,4,5,5,6,4,5,5,6,5,6,6,7,4,5,5,6,5,6,6,7,5,6,6,7,6,7,7,8]:List UInt8))))) x0) fun (v2:UInt8)=>
 some ((Dp .i64 (((@Dy v2):Nat):Int)))
theorem ng (x0:Int):(runK Do (aoy N) 400 183 [(.int .u8)] [(.int .i64)] (x0,())).run=eE N x0:=by kernel_rfl
noncomputable def aox:(R:Type)→Env R:=Du (aoy N) 183 (fun R=>fnK [(.int .u8)] [(.int .i64)] (fun c=>eE N c.1))
theorem ab1 (R:Type):EnvOK Do (aox N R):=Dt hmx (ab2 N R) (ab2 N _) (by kernel_rfl) (fun c=>ng N c.1)
noncomputable def qK (b0:Int):Option Int:=
 ne (eE N (bits .andNot .u8 b0 (1:Int))) fun v2=>
 bif (decide ((@DH v2 (2:Int))=(0:Int))) then
  some ((bits .or .u8 (bits .andNot .u8 b0 (1:Int)) (1:Int)))
 else
  some ((bits .andNot .u8 b0 (1:Int)))
theorem ad0 (b0:Int):(runK Do (aox N) 400 155 [(.int .u8)] [(.int .u8)] (b0,())).run=qK N b0:=by kernel_rfl
noncomputable def aow:(R:Type)→Env R:=Du (aox N) 155 (fun R=>fnK [(.int .u8)] [(.int .u8)] (fun c=>qK N c.1))
theorem ab0 (R:Type):EnvOK Do (aow N R):=Dt hmx (ab1 N R) (ab1 N _) (by kernel_rfl) (fun c=>ad0 N c.1)
noncomputable def iD:LI:=⟨27,0,[],⟨[(4,.lit (.own 0)),(12,.lit (.own 0)),(13,.ty (.int .i64)),(14,.ty (.int .i64))],[.own (.int .u8) 5]⟩,[(.exit 0,⟨[(4,.lit (.own 0))],[.own (.int .u8) 5]⟩)]⟩
noncomputable def dZ (X:pz19→Option pz3)(x13:Int)(x14:Int)(h0:List (Int)):Option pz3:=
 bif (decide (x14<x13)) then
  bif (decide ((0:Int)≤x14∧x14<(((Dq h0):Nat):Int))) then
   ne (h0[Dv x14]?) fun (v5:Int)=>
   ne (qK N (Dp .u8 (v5*((2:Int) ^ (min (Dv (1:Int)) (Dz .u8)))))) fun v6=>
   bif (decide ((0:Int)≤x14∧x14<(((Dq h0):Nat):Int))) then
    ne (h0[Dv x14]?) fun (v7:Int)=>
    (X ((x13,((Dp .i64 (x14+1)),())),((@List.set Int h0 (Dv x14) v6),())))
   else
    none
  else
   none
 else
  some (((),(h0,())))
noncomputable def iC (c:pz19):Option pz3:=gl (fun X c=>dZ N X c.1.1 c.1.2.1 c.2.1) N c
theorem sD (X:pz19→Option pz3)(x13:Int)(x14:Int)(h0:List (Int)):(am Do (aow N) 400 [117] iD (ak Do [117] 5) X ((x13,x14,()),(h0,()))).run=dZ N X x13 x14 h0:=by kernel_rfl
noncomputable def aov:(R:Type)→Env R:=Dx (aow N) [117] 0 5 (fun R=>lpK Do iD (fun X c=>dZ N X c.1.1 c.1.2.1 c.2.1) N)
theorem abZ (R:Type):EnvOK Do (aov N R):=Dw (ab0 N R) (by kernel_rfl) (aq (li:=iD) hmx (ab0 N _) (by kernel_rfl) ab (fun X c=>sD N X c.1.1 c.1.2.1 c.2.1) N)
noncomputable def jQ (key0:List (Int)):Option ((List Int)×Int):=
 bif (!(decide ((((Dq key0):Nat):Int)=(7:Int)))) then
  some ((([]:List Int),(1:Int)))
 else
  ne (aT N (((8:Int),(key0,((((Dq key0):Nat):Int),((0:Int),())))),((7:Int),((0:Int),((0:Int),(([]:List Int),())))))) fun v2=>
  ne (iC N (((((Dq (v2.2).snd.2.2.1):Nat):Int),((0:Int),())),((v2.2).snd.2.2.1,()))) fun v3=>
  some ((v3.2.1,(0:Int)))
theorem yI (key0:List (Int)):(runK Do (aov N) 400 117 [(.sl (.int .u8))] [(.sl (.int .u8)),(.int .i64)] (key0,())).run=jQ N key0:=by kernel_rfl
noncomputable def aou:(R:Type)→Env R:=Du (aov N) 117 (fun R=>fnK [(.sl (.int .u8))] [(.sl (.int .u8)),(.int .i64)] (fun c=>jQ N c.1))
theorem abY (R:Type):EnvOK Do (aou N R):=Dt hmx (abZ N R) (abZ N _) (by kernel_rfl) (fun c=>yI N c.1)
noncomputable def hP (key0:List (Int))(block1:List (Int)):Option ((List Int)×Int):=
 ne (jQ N key0) fun v3=>
 bif (!(decide (v3.2=(0:Int)))) then
  some ((([]:List Int),(1:Int)))
 else
  ne (some ((cond false true (!(decide ((((Dq block1):Nat):Int)=(8:Int))))))) fun (v4:Bool)=>
  bif v4 then
   some ((([]:List Int),(1:Int)))
  else
   ne (gU N v3.1 false) fun v5=>
   ne (gU N block1 false) fun v6=>
   ne (qA N v5.1 v6.1) fun v7=>
   ne (cm N v7 (8:Int) false) fun v8=>
   some (v8)
theorem Cd (key0:List (Int))(block1:List (Int)):(runK Do (aou N) 400 80 [(.sl (.int .u8)),(.sl (.int .u8))] [(.sl (.int .u8)),(.int .i64)] (key0,block1,())).run=hP N key0 block1:=by kernel_rfl
noncomputable def arB:(R:Type)→Env R:=Du (aou N) 80 (fun R=>fnK [(.sl (.int .u8)),(.sl (.int .u8))] [(.sl (.int .u8)),(.int .i64)] (fun c=>hP N c.1 c.2.1))
theorem akc (R:Type):EnvOK Do (arB N R):=Dt hmx (abY N R) (abY N _) (by kernel_rfl) (fun c=>Cd N c.1 c.2.1)
noncomputable def aot:(R:Type)→Env R:=DM (arB N) [(134,2),(134,12)]
theorem abX (R:Type):EnvOK Do (aot N R):=DK (akc N R) [(134,2),(134,12)]
noncomputable def kt:LI:=⟨24,0,[],⟨[(0,.ty (.int .u64)),(5,.lit (.own 0)),(6,.ty (.int .i64))],[.own (.int .u8) 5]⟩,[(.exit 0,⟨[(5,.lit (.own 0))],[.own (.int .u8) 5]⟩)]⟩
noncomputable def ft (N:Nat)(X:pz19→Option pz3)(x0:Int)(i6:Int)(h0:List (Int)):Option pz3:=
 bif (decide ((0:Int)≤i6)) then
  bif (decide ((0:Int)≤i6∧i6<(((Dq h0):Nat):Int))) then
   ne (h0[Dv i6]?) fun (v5:Int)=>
   (X (((Dp .u64 (@Int.tdiv x0 (2:Int))),((Dp .i64 (i6-1)),())),((@List.set Int h0 (Dv i6) (Dp .u8 (@DH x0 (2:Int)))),())))
  else
   none
 else
  some (((),(h0,())))
noncomputable def kr (c:pz19):Option pz3:=gl (fun X c=>ft N X c.1.1 c.1.2.1 c.2.1) N c
theorem vj (X:pz19→Option pz3)(x0:Int)(i6:Int)(h0:List (Int)):(am Do (aot N) 400 [130] kt (ak Do [130] 3) X ((x0,i6,()),(h0,()))).run=ft N X x0 i6 h0:=by kernel_rfl
noncomputable def aos:(R:Type)→Env R:=Dx (aot N) [130] 0 3 (fun R=>lpK Do kt (fun X c=>ft N X c.1.1 c.1.2.1 c.2.1) N)
theorem abW (R:Type):EnvOK Do (aos N R):=Dw (abX N R) (by kernel_rfl) (aq (li:=kt) hmx (abX N _) (by kernel_rfl) ab (fun X c=>vj N X c.1.1 c.1.2.1 c.2.1) N)
noncomputable def dl (x0:Int)(width1:Int):Option (List Int):=
 bif ((decide ((0:Int)≤width1∧width1≤width1))&&(ae (Dv width1) 1)) then
  ne (kr N ((x0,((Dp .i64 (width1-1)),())),((@DI Int (Dv width1) (0:Int)),()))) fun v3=>
  some (v3.2.1)
 else
  none
theorem Bm (x0:Int)(width1:Int):(runK Do (aos N) 400 130 [(.int .u64),(.int .i64)] [(.sl (.int .u8))] (x0,width1,())).run=dl N x0 width1:=by kernel_rfl
noncomputable def aor:(R:Type)→Env R:=Du (aos N) 130 (fun R=>fnK [(.int .u64),(.int .i64)] [(.sl (.int .u8))] (fun c=>dl N c.1 c.2.1))
theorem abV (R:Type):EnvOK Do (aor N R):=Dt hmx (abW N R) (abW N _) (by kernel_rfl) (fun c=>Bm N c.1 c.2.1)
noncomputable def rO (N:Nat):Option (List Int):=
 some (([57,49,41,33,25,17,9,1,58,50,42,34,26,18,10,2,59,51,43,35,27,19,11,3,60,52,44,36,63,55,47,39,31,23,15,7,62,54,46,38,30,22,14,6,61,53,45,37,29,21,13,5,28,20,12,4]:List Int))
theorem vd:(runK Do (aor N) 400 169 [] [(.sl (.int .i64))] ()).run=rO N:=by kernel_rfl
noncomputable def arA:(R:Type)→Env R:=Du (aor N) 169 (fun R=>fnK [] [(.sl (.int .i64))] (fun c=>rO N ))
theorem akb (R:Type):EnvOK Do (arA N R):=Dt hmx (abV N R) (abV N _) (by kernel_rfl) (fun c=>vd N )
noncomputable def aoq:(R:Type)→Env R:=DM (arA N) [(164,5)]
theorem abU (R:Type):EnvOK Do (aoq N R):=DK (akb N R) [(164,5)]
noncomputable def mb:LI:=⟨25,0,[(5,5)],⟨[(0,.ty (.sl (.int .u8))),(1,.ty (.sl (.int .i64))),(5,.lit (.own 0)),(6,.ty (.int .i64))],[.own (.int .u8) 5]⟩,[(.exit 0,⟨[(5,.lit (.own 0))],[.own (.int .u8) 5]⟩)]⟩
noncomputable def gw (N:Nat)(X:(((List Int)×pz8)×((List Int)×Unit))→Option pz3)(row0:List (Int))(table1:List (Int))(i6:Int)(h0:List (Int)):Option pz3:=
 bif (decide (i6<(((Dq table1):Nat):Int))) then
  ne (getI table1 i6) fun (v6:Int)=>
  ne (getI row0 (Dp .i64 (v6-1))) fun (v7:Int)=>
  bif (ae ((Dq h0)+(Dq ([v7]:List (Int)))) 1) then
   (X ((row0,(table1,((Dp .i64 (i6+1)),()))),((h0++([v7]:List (Int))),())))
  else
   none
 else
  some (((),(h0,())))
noncomputable def ma (c:(((List Int)×pz8)×((List Int)×Unit))):Option pz3:=gl (fun X c=>gw N X c.1.1 c.1.2.1 c.1.2.2.1 c.2.1) N c
theorem xy (X:(((List Int)×pz8)×((List Int)×Unit))→Option pz3)(row0:List (Int))(table1:List (Int))(i6:Int)(h0:List (Int)):(am Do (aoq N) 400 [164] mb (ak Do [164] 3) X ((row0,table1,i6,()),(h0,()))).run=gw N X row0 table1 i6 h0:=by kernel_rfl
noncomputable def aop:(R:Type)→Env R:=Dx (aoq N) [164] 0 3 (fun R=>lpK Do mb (fun X c=>gw N X c.1.1 c.1.2.1 c.1.2.2.1 c.2.1) N)
theorem abT (R:Type):EnvOK Do (aop N R):=Dw (abU N R) (by kernel_rfl) (aq (li:=mb) hmx (abU N _) (by kernel_rfl) ab (fun X c=>xy N X c.1.1 c.1.2.1 c.1.2.2.1 c.2.1) N)
noncomputable def cD (row0:List (Int))(table1:List (Int)):Option (List Int):=
 ne (ma N ((row0,(table1,((0:Int),()))),(([]:List Int),()))) fun v3=>
 some (v3.2.1)
theorem adf (row0:List (Int))(table1:List (Int)):(runK Do (aop N) 400 164 [(.sl (.int .u8)),(.sl (.int .i64))] [(.sl (.int .u8))] (row0,table1,())).run=cD N row0 table1:=by kernel_rfl
noncomputable def aoo:(R:Type)→Env R:=Du (aop N) 164 (fun R=>fnK [(.sl (.int .u8)),(.sl (.int .i64))] [(.sl (.int .u8))] (fun c=>cD N c.1 c.2.1))
theorem abS (R:Type):EnvOK Do (aoo N R):=Dt hmx (abT N R) (abT N _) (by kernel_rfl) (fun c=>adf N c.1 c.2.1)
noncomputable def o6 (N:Nat):Option (List Int):=
 some (([14,17,11,24,1,5,3,28,15,6,21,10,23,19,12,4,26,8,16,7,27,20,13,2,41,52,31,37,47,55,30,40,51,45,33,48,44,49,39,56,34,53,46,42,50,36,29,32]:List Int))
theorem sn:(runK Do (aoo N) 400 170 [] [(.sl (.int .i64))] ()).run=o6 N:=by kernel_rfl
noncomputable def aon:(R:Type)→Env R:=Du (aoo N) 170 (fun R=>fnK [] [(.sl (.int .i64))] (fun c=>o6 N ))
theorem abR (R:Type):EnvOK Do (aon N R):=Dt hmx (abS N R) (abS N _) (by kernel_rfl) (fun c=>sn N )
noncomputable def jl:LI:=⟨61,0,[(6,28)],⟨[(4,.ty (.sl (.int .u8))),(5,.ty (.sl (.int .u8))),(6,.lit (.own 0)),(7,.ty (.int .i64))],[.own (.sl (.int .u8)) 28]⟩,[(.exit 0,⟨[(6,.lit (.own 0))],[.own (.sl (.int .u8)) 28]⟩)]⟩
noncomputable def er (X:(((List Int)×pz8)×((List (List Int))×Unit))→Option ((Unit×((List (List Int))×Unit))))(c4:List (Int))(d5:List (Int))(i7:Int)(h0:List (List Int)):Option ((Unit×((List (List Int))×Unit))):=
 bif (decide (i7≤(16:Int))) then
  ne (bif (decide (i7=(1:Int))) then
    some (true)
   else
    some ((cond false true (decide (i7=(2:Int)))))) fun (v6:Bool)=>
  ne (bif v6 then
    some (true)
   else
    some ((cond false true (decide (i7=(9:Int)))))) fun (v7:Bool)=>
  ne (bif v7 then
    some (true)
   else
    some ((cond false true (decide (i7=(16:Int)))))) fun (v8:Bool)=>
  bif v8 then
   ne (bJ c4 (1:Int)) fun (v9:(List Int))=>
   ne (cL c4 (1:Int)) fun (v10:(List Int))=>
   bif (ae (Dq v9) 1) then
    bif (ae ((Dq v9)+(Dq v10)) 1) then
     ne (bJ d5 (1:Int)) fun (v11:(List Int))=>
     ne (cL d5 (1:Int)) fun (v12:(List Int))=>
     bif (ae (Dq v11) 1) then
      bif (ae ((Dq v11)+(Dq v12)) 1) then
       bif (ae (Dq (v9++v10)) 1) then
        bif (ae ((Dq (v9++v10))+(Dq (v11++v12))) 1) then
         ne (cD N ((v9++v10)++(v11++v12)) (@gt Int (14:Int) (@gt Int (17:Int) (@gt Int (11:Int) (@gt Int (24:Int) (@gt Int (1:Int) (@gt Int (5:Int) (@gt Int (3:Int) (@gt Int (28:Int) (@gt Int (15:Int) (@gt Int (6:Int) (@gt Int (21:Int) (@gt Int (10:Int) (@gt Int (23:Int) (@gt Int (19:Int) (@gt Int (12:Int) (@gt Int (4:Int) (@gt Int (26:Int) (@gt Int (8:Int) (@gt Int (16:Int) (@gt Int (7:Int) (@gt Int (27:Int) (@gt Int (20:Int) (@gt Int (13:Int) (@gt Int (2:Int) (@gt Int (41:Int) (@gt Int (52:Int) (@gt Int (31:Int) (@gt Int (37:Int) (@gt Int (47:Int) (@gt Int (55:Int) (@gt Int (30:Int) (@gt Int (40:Int) (@gt Int (51:Int) (@gt Int (45:Int) (@gt Int (33:Int) (@gt Int (48:Int) ([44,49,39,56,34,53,46,42,50,36,29,32]:List Int)))))))))))))))))))))))))))))))))))))) fun v13=>
         bif (ae ((Dq h0)+(Dq ([v13]:List ((List Int))))) 24) then
          (X (((v9++v10),((v11++v12),((Dp .i64 (i7+1)),()))),((h0++([v13]:List ((List Int)))),())))
         else
          none
        else
         none
       else
        none
      else
       none
     else
      none
    else
     none
   else
    none
  else
   ne (bJ c4 (2:Int)) fun (v9:(List Int))=>
   ne (cL c4 (2:Int)) fun (v10:(List Int))=>
   bif (ae (Dq v9) 1) then
    bif (ae ((Dq v9)+(Dq v10)) 1) then
     ne (bJ d5 (2:Int)) fun (v11:(List Int))=>
     ne (cL d5 (2:Int)) fun (v12:(List Int))=>
     bif (ae (Dq v11) 1) then
      bif (ae ((Dq v11)+(Dq v12)) 1) then
       bif (ae (Dq (v9++v10)) 1) then
        bif (ae ((Dq (v9++v10))+(Dq (v11++v12))) 1) then
         ne (cD N ((v9++v10)++(v11++v12)) (@gt Int (14:Int) (@gt Int (17:Int) (@gt Int (11:Int) (@gt Int (24:Int) (@gt Int (1:Int) (@gt Int (5:Int) (@gt Int (3:Int) (@gt Int (28:Int) (@gt Int (15:Int) (@gt Int (6:Int) (@gt Int (21:Int) (@gt Int (10:Int) (@gt Int (23:Int) (@gt Int (19:Int) (@gt Int (12:Int) (@gt Int (4:Int) (@gt Int (26:Int) (@gt Int (8:Int) (@gt Int (16:Int) (@gt Int (7:Int) (@gt Int (27:Int) (@gt Int (20:Int) (@gt Int (13:Int) (@gt Int (2:Int) (@gt Int (41:Int) (@gt Int (52:Int) (@gt Int (31:Int) (@gt Int (37:Int) (@gt Int (47:Int) (@gt Int (55:Int) (@gt Int (30:Int) (@gt Int (40:Int) (@gt Int (51:Int) (@gt Int (45:Int) (@gt Int (33:Int) (@gt Int (48:Int) ([44,49,39,56,34,53,46,42,50,36,29,32]:List Int)))))))))))))))))))))))))))))))))))))) fun v13=>
         bif (ae ((Dq h0)+(Dq ([v13]:List ((List Int))))) 24) then
          (X (((v9++v10),((v11++v12),((Dp .i64 (i7+1)),()))),((h0++([v13]:List ((List Int)))),())))
         else
          none
        else
         none
       else
        none
      else
       none
     else
      none
    else
     none
   else
    none
 else
  some (((),(h0,())))
noncomputable def fL (c:(((List Int)×pz8)×((List (List Int))×Unit))):Option ((Unit×((List (List Int))×Unit))):=gl (fun X c=>er N X c.1.1 c.1.2.1 c.1.2.2.1 c.2.1) N c
theorem tG (X:(((List Int)×pz8)×((List (List Int))×Unit))→Option ((Unit×((List (List Int))×Unit))))(c4:List (Int))(d5:List (Int))(i7:Int)(h0:List (List Int)):(am Do (aon N) 400 [134] jl (ak Do [134] 5) X ((c4,d5,i7,()),(h0,()))).run=er N X c4 d5 i7 h0:=by kernel_rfl
noncomputable def aom:(R:Type)→Env R:=Dx (aon N) [134] 0 5 (fun R=>lpK Do jl (fun X c=>er N X c.1.1 c.1.2.1 c.1.2.2.1 c.2.1) N)
theorem abQ (R:Type):EnvOK Do (aom N R):=Dw (abR N R) (by kernel_rfl) (aq (li:=jl) hmx (abR N _) (by kernel_rfl) ab (fun X c=>tG N X c.1.1 c.1.2.1 c.1.2.2.1 c.2.1) N)
noncomputable def ll (key0:Int):Option (List (List Int)):=
 ne (dl N key0 (64:Int)) fun v2=>
 ne (cD N v2 (@gt Int (57:Int) (@gt Int (49:Int) (@gt Int (41:Int) (@gt Int (33:Int) (@gt Int (25:Int) (@gt Int (17:Int) (@gt Int (9:Int) (@gt Int (1:Int) (@gt Int (58:Int) (@gt Int (50:Int) (@gt Int (42:Int) (@gt Int (34:Int) (@gt Int (26:Int) (@gt Int (18:Int) (@gt Int (10:Int) (@gt Int (2:Int) (@gt Int (59:Int) (@gt Int (51:Int) (@gt Int (43:Int) (@gt Int (35:Int) (@gt Int (27:Int) (@gt Int (19:Int) (@gt Int (11:Int) (@gt Int (3:Int) (@gt Int (60:Int) (@gt Int (52:Int) (@gt Int (44:Int) (@gt Int (36:Int) (@gt Int (63:Int) (@gt Int (55:Int) (@gt Int (47:Int) (@gt Int (39:Int) (@gt Int (31:Int) (@gt Int (23:Int) (@gt Int (15:Int) (@gt Int (7:Int) (@gt Int (62:Int) (@gt Int (54:Int) (@gt Int (46:Int) (@gt Int (38:Int) (@gt Int (30:Int) (@gt Int (22:Int) ([14,6,61,53,45,37,29,21,13,5,28,20,12,4]:List Int)))))))))))))))))))))))))))))))))))))))))))) fun v3=>
 ne (cL v3 (28:Int)) fun (v4:(List Int))=>
 ne (bJ v3 (28:Int)) fun (v5:(List Int))=>
 ne (fL N ((v4,(v5,((1:Int),()))),(([]:List ((List Int))),()))) fun v6=>
 some (v6.2.1)
theorem zu (key0:Int):(runK Do (aom N) 400 134 [(.int .u64)] [(.sl (.sl (.int .u8)))] (key0,())).run=ll N key0:=by kernel_rfl
noncomputable def aol:(R:Type)→Env R:=Du (aom N) 134 (fun R=>fnK [(.int .u64)] [(.sl (.sl (.int .u8)))] (fun c=>ll N c.1))
theorem abP (R:Type):EnvOK Do (aol N R):=Dt hmx (abQ N R) (abQ N _) (by kernel_rfl) (fun c=>zu N c.1)
noncomputable def tH (N:Nat):Option (List Int):=
 some (([58,50,42,34,26,18,10,2,60,52,44,36,28,20,12,4,62,54,46,38,30,22,14,6,64,56,48,40,32,24,16,8,57,49,41,33,25,17,9,1,59,51,43,35,27,19,11,3,61,53,45,37,29,21,13,5,63,55,47,39,31,23,15,7]:List Int))
theorem xw:(runK Do (aol N) 400 165 [] [(.sl (.int .i64))] ()).run=tH N:=by kernel_rfl
noncomputable def aok:(R:Type)→Env R:=Du (aol N) 165 (fun R=>fnK [] [(.sl (.int .i64))] (fun c=>tH N ))
theorem abO (R:Type):EnvOK Do (aok N R):=Dt hmx (abP N R) (abP N _) (by kernel_rfl) (fun c=>xw N )
noncomputable def vZ (N:Nat):Option (List Int):=
 some (([32,1,2,3,4,5,4,5,6,7,8,9,8,9,10,11,12,13,12,13,14,15,16,17,16,17,18,19,20,21,20,21,22,23,24,25,24,25,26,27,28,29,28,29,30,31,32,1]:List Int))
theorem zq:(runK Do (aok N) 400 195 [] [(.sl (.int .i64))] ()).run=vZ N:=by kernel_rfl
noncomputable def aoj:(R:Type)→Env R:=Du (aok N) 195 (fun R=>fnK [] [(.sl (.int .i64))] (fun c=>vZ N ))
theorem abN (R:Type):EnvOK Do (aoj N R):=Dt hmx (abO N R) (abO N _) (by kernel_rfl) (fun c=>zq N )
noncomputable def gu:LI:=⟨29,0,[],⟨[(0,.ty (.sl (.int .u8))),(1,.ty (.sl (.int .u8))),(5,.lit (.own 0)),(6,.ty (.int .i64))],[.own (.int .u8) 5]⟩,[(.exit 0,⟨[(5,.lit (.own 0))],[.own (.int .u8) 5]⟩)]⟩
noncomputable def de (N:Nat)(X:(((List Int)×pz8)×((List Int)×Unit))→Option pz3)(a0:List (Int))(b1:List (Int))(i6:Int)(h0:List (Int)):Option pz3:=
 bif (decide (i6<(((Dq a0):Nat):Int))) then
  ne (getI a0 i6) fun (v6:Int)=>
  ne (getI b1 i6) fun (v7:Int)=>
  bif (decide ((0:Int)≤i6∧i6<(((Dq h0):Nat):Int))) then
   ne (h0[Dv i6]?) fun (v8:Int)=>
   (X ((a0,(b1,((Dp .i64 (i6+1)),()))),((@List.set Int h0 (Dv i6) (bits .xor .u8 v6 v7)),())))
  else
   none
 else
  some (((),(h0,())))
noncomputable def gq (c:(((List Int)×pz8)×((List Int)×Unit))):Option pz3:=gl (fun X c=>de N X c.1.1 c.1.2.1 c.1.2.2.1 c.2.1) N c
theorem qU (X:(((List Int)×pz8)×((List Int)×Unit))→Option pz3)(a0:List (Int))(b1:List (Int))(i6:Int)(h0:List (Int)):(am Do (aoj N) 400 [166] gu (ak Do [166] 3) X ((a0,b1,i6,()),(h0,()))).run=de N X a0 b1 i6 h0:=by kernel_rfl
noncomputable def aoi:(R:Type)→Env R:=Dx (aoj N) [166] 0 3 (fun R=>lpK Do gu (fun X c=>de N X c.1.1 c.1.2.1 c.1.2.2.1 c.2.1) N)
theorem abM (R:Type):EnvOK Do (aoi N R):=Dw (abN N R) (by kernel_rfl) (aq (li:=gu) hmx (abN N _) (by kernel_rfl) ab (fun X c=>qU N X c.1.1 c.1.2.1 c.1.2.2.1 c.2.1) N)
noncomputable def fm (a0:List (Int))(b1:List (Int)):Option (List Int):=
 bif ((decide ((0:Int)≤(((Dq a0):Nat):Int)∧(((Dq a0):Nat):Int)≤(((Dq a0):Nat):Int)))&&(ae (Dv (((Dq a0):Nat):Int)) 1)) then
  ne (gq N ((a0,(b1,((0:Int),()))),((@DI Int (Dv (((Dq a0):Nat):Int)) (0:Int)),()))) fun v3=>
  some (v3.2.1)
 else
  none
theorem vc (a0:List (Int))(b1:List (Int)):(runK Do (aoi N) 400 166 [(.sl (.int .u8)),(.sl (.int .u8))] [(.sl (.int .u8))] (a0,b1,())).run=fm N a0 b1:=by kernel_rfl
noncomputable def aoh:(R:Type)→Env R:=Du (aoi N) 166 (fun R=>fnK [(.sl (.int .u8)),(.sl (.int .u8))] [(.sl (.int .u8))] (fun c=>fm N c.1 c.2.1))
theorem abL (R:Type):EnvOK Do (aoh N R):=Dt hmx (abM N R) (abM N _) (by kernel_rfl) (fun c=>vc N c.1 c.2.1)
noncomputable def ju:LI:=⟨20,0,[],⟨[(0,.ty (.sl (.int .u8))),(3,.ty (.int .u64)),(4,.ty (.int .i64))],[]⟩,[(.exit 0,⟨[(3,.ty (.int .u64))],[]⟩)]⟩
noncomputable def ew (N:Nat)(X:(pz5×Unit)→Option (((Int×Unit)×Unit)))(row0:List (Int))(x3:Int)(i4:Int):Option (((Int×Unit)×Unit)):=
 bif (decide (i4<(((Dq row0):Nat):Int))) then
  ne (getI row0 i4) fun (v5:Int)=>
  (X ((row0,((Dp .u64 ((Dp .u64 ((2:Int)*x3))+(Dp .u64 v5))),((Dp .i64 (i4+1)),()))),()))
 else
  some (((x3,()),()))
noncomputable def jt (c:(pz5×Unit)):Option (((Int×Unit)×Unit)):=gl (fun X c=>ew N X c.1.1 c.1.2.1 c.1.2.2.1) N c
theorem tP (X:(pz5×Unit)→Option (((Int×Unit)×Unit)))(row0:List (Int))(x3:Int)(i4:Int):(am Do (aoh N) 400 [132] ju (ak Do [132] 3) X ((row0,x3,i4,()),())).run=ew N X row0 x3 i4:=by kernel_rfl
noncomputable def aog:(R:Type)→Env R:=Dx (aoh N) [132] 0 3 (fun R=>lpK Do ju (fun X c=>ew N X c.1.1 c.1.2.1 c.1.2.2.1) N)
theorem abK (R:Type):EnvOK Do (aog N R):=Dw (abL N R) (by kernel_rfl) (aq (li:=ju) hmx (abL N _) (by kernel_rfl) ab (fun X c=>tP N X c.1.1 c.1.2.1 c.1.2.2.1) N)
noncomputable def fq (row0:List (Int)):Option Int:=
 ne (jt N ((row0,((0:Int),((0:Int),()))),())) fun v2=>
 some (v2.1.1)
theorem zG (row0:List (Int)):(runK Do (aog N) 400 132 [(.sl (.int .u8))] [(.int .u64)] (row0,())).run=fq N row0:=by kernel_rfl
noncomputable def aof:(R:Type)→Env R:=Du (aog N) 132 (fun R=>fnK [(.sl (.int .u8))] [(.int .u64)] (fun c=>fq N c.1))
theorem abJ (R:Type):EnvOK Do (aof N R):=Dt hmx (abK N R) (abK N _) (by kernel_rfl) (fun c=>zG N c.1)
noncomputable def tI (N:Nat)(n0:Int):Option (List Int):=
 bif (decide (n0=(1:Int))) then
  some (([14,4,13,1,2,15,11,8,3,10,6,12,5,9,0,7,0,15,7,4,14,2,13,1,10,6,12,11,9,5,3,8,4,1,14,8,13,6,2,11,15,12,9,7,3,10,5,0,15,12,8,2,4,9,1,7,5,11,3,14,10,0,6,13]:List Int))
 else
  bif (decide (n0=(2:Int))) then
   some (([15,1,8,14,6,11,3,4,9,7,2,13,12,0,5,10,3,13,4,7,15,2,8,14,12,0,1,10,6,9,11,5,0,14,7,11,10,4,13,1,5,8,12,6,9,3,2,15,13,8,10,1,3,15,4,2,11,6,7,12,0,5,14,9]:List Int))
  else
   bif (decide (n0=(3:Int))) then
    some (([10,0,9,14,6,3,15,5,1,13,12,7,11,4,2,8,13,7,0,9,3,4,6,10,2,8,5,14,12,11,15,1,13,6,4,9,8,15,3,0,11,1,2,12,5,10,14,7,1,10,13,0,6,9,8,7,4,15,14,3,11,5,2,12]:List Int))
   else
    bif (decide (n0=(4:Int))) then
     some (([7,13,14,3,0,6,9,10,1,2,8,5,11,12,4,15,13,8,11,5,6,15,0,3,4,7,2,12,1,10,14,9,10,6,9,0,12,11,7,13,15,1,3,14,5,2,8,4,3,15,0,6,10,1,13,8,9,4,5,11,12,7,2,14]:List Int))
    else
     bif (decide (n0=(5:Int))) then
      some (([2,12,4,1,7,10,11,6,8,5,3,15,13,0,14,9,14,11,2,12,4,7,13,1,5,0,15,10,3,9,8,6,4,2,1,11,10,13,7,8,15,9,12,5,6,3,0,14,11,8,12,7,1,14,2,13,6,15,0,9,10,4,5,3]:List Int))
     else
      bif (decide (n0=(6:Int))) then
       some (([12,1,10,15,9,2,6,8,0,13,3,4,14,7,5,11,10,15,4,2,7,12,9,5,6,1,13,14,0,11,3,8,9,14,15,5,2,8,12,3,7,0,4,10,1,13,11,6,4,3,2,12,9,5,15,10,11,14,1,7,6,0,8,13]:List Int))
      else
       bif (decide (n0=(7:Int))) then
        some (([4,11,2,14,15,0,8,13,3,12,9,7,5,10,6,1,13,0,11,7,4,9,1,10,14,3,5,12,2,15,8,6,1,4,11,13,12,3,7,14,10,15,6,8,0,5,9,2,6,11,13,8,1,4,10,7,9,5,0,15,14,2,3,12]:List Int))
       else
        bif (decide (n0=(8:Int))) then
         some (([13,2,8,4,6,15,11,1,10,9,3,14,5,0,12,7,1,15,13,8,10,3,7,4,12,5,6,11,0,14,9,2,7,11,4,1,9,12,14,2,0,6,10,13,15,3,5,8,2,1,14,7,4,10,8,13,15,12,9,0,3,5,6,11]:List Int))
        else
         some ((@DI Int (Dv (64:Int)) (0:Int)))
theorem Bj (n0:Int):(runK Do (aof N) 400 219 [(.int .i64)] [(.sl (.int .i64))] (n0,())).run=tI N n0:=by kernel_rfl
noncomputable def aoe:(R:Type)→Env R:=Du (aof N) 219 (fun R=>fnK [(.int .i64)] [(.sl (.int .i64))] (fun c=>tI N c.1))
theorem abI (R:Type):EnvOK Do (aoe N R):=Dt hmx (abJ N R) (abJ N _) (by kernel_rfl) (fun c=>Bj N c.1)
noncomputable def gv (n0:Int)(six1:List (Int)):Option Int:=
 ne (getI six1 (0:Int)) fun (v3:Int)=>
 ne (getI six1 (5:Int)) fun (v4:Int)=>
 ne (subI six1 (1:Int) (5:Int)) fun (v5:(List Int))=>
 ne (fq N v5) fun v6=>
 ne (tI N n0) fun v7=>
 ne (getI v7 (Dp .i64 ((Dp .i64 ((16:Int)*(Dp .i64 ((Dp .i64 ((2:Int)*(Dp .i64 v3)))+(Dp .i64 v4)))))+(Dp .i64 v6)))) fun (v8:Int)=>
 some (v8)
theorem xx (n0:Int)(six1:List (Int)):(runK Do (aoe N) 400 196 [(.int .i64),(.sl (.int .u8))] [(.int .i64)] (n0,six1,())).run=gv N n0 six1:=by kernel_rfl
noncomputable def aod:(R:Type)→Env R:=Du (aoe N) 196 (fun R=>fnK [(.int .i64),(.sl (.int .u8))] [(.int .i64)] (fun c=>gv N c.1 c.2.1))
theorem abH (R:Type):EnvOK Do (aod N R):=Dt hmx (abI N R) (abI N _) (by kernel_rfl) (fun c=>xx N c.1 c.2.1)
noncomputable def ji:LI:=⟨34,0,[(6,5)],⟨[(5,.ty (.sl (.int .u8))),(6,.lit (.own 0)),(7,.ty (.int .i64))],[.own (.int .u8) 5]⟩,[(.exit 0,⟨[(6,.lit (.own 0))],[.own (.int .u8) 5]⟩)]⟩
noncomputable def fJ (X:(pz8×((List Int)×Unit))→Option pz3)(x5:List (Int))(i7:Int)(h0:List (Int)):Option pz3:=
 bif (decide (i7<(8:Int))) then
  ne (subI x5 (Dp .i64 ((6:Int)*i7)) (Dp .i64 ((Dp .i64 ((6:Int)*i7))+6))) fun (v5:(List Int))=>
  ne (gv N (Dp .i64 (i7+1)) v5) fun v6=>
  ne (dl N (Dp .u64 v6) (4:Int)) fun v7=>
  bif (ae ((Dq h0)+(Dq v7)) 1) then
   (X ((x5,((Dp .i64 (i7+1)),())),((h0++v7),())))
  else
   none
 else
  some (((),(h0,())))
noncomputable def jh (c:(pz8×((List Int)×Unit))):Option pz3:=gl (fun X c=>fJ N X c.1.1 c.1.2.1 c.2.1) N c
theorem tE (X:(pz8×((List Int)×Unit))→Option pz3)(x5:List (Int))(i7:Int)(h0:List (Int)):(am Do (aod N) 400 [167] ji (ak Do [167] 4) X ((x5,i7,()),(h0,()))).run=fJ N X x5 i7 h0:=by kernel_rfl
noncomputable def aoc:(R:Type)→Env R:=Dx (aod N) [167] 0 4 (fun R=>lpK Do ji (fun X c=>fJ N X c.1.1 c.1.2.1 c.2.1) N)
theorem abG (R:Type):EnvOK Do (aoc N R):=Dw (abH N R) (by kernel_rfl) (aq (li:=ji) hmx (abH N _) (by kernel_rfl) ab (fun X c=>tE N X c.1.1 c.1.2.1 c.2.1) N)
noncomputable def rP (N:Nat):Option (List Int):=
 some (([16,7,20,21,29,12,28,17,1,15,23,26,5,18,31,10,2,8,24,14,32,27,3,9,19,13,30,6,22,11,4,25]:List Int))
theorem ve:(runK Do (aoc N) 400 197 [] [(.sl (.int .i64))] ()).run=rP N:=by kernel_rfl
noncomputable def aob:(R:Type)→Env R:=Du (aoc N) 197 (fun R=>fnK [] [(.sl (.int .i64))] (fun c=>rP N ))
theorem abF (R:Type):EnvOK Do (aob N R):=Dt hmx (abG N R) (abG N _) (by kernel_rfl) (fun c=>ve N )
noncomputable def lh (half0:List (Int))(key1:List (Int)):Option (List Int):=
 ne (cD N half0 (@gt Int (32:Int) (@gt Int (1:Int) (@gt Int (2:Int) (@gt Int (3:Int) (@gt Int (4:Int) (@gt Int (5:Int) (@gt Int (4:Int) (@gt Int (5:Int) (@gt Int (6:Int) (@gt Int (7:Int) (@gt Int (8:Int) (@gt Int (9:Int) (@gt Int (8:Int) (@gt Int (9:Int) (@gt Int (10:Int) (@gt Int (11:Int) (@gt Int (12:Int) (@gt Int (13:Int) (@gt Int (12:Int) (@gt Int (13:Int) (@gt Int (14:Int) (@gt Int (15:Int) (@gt Int (16:Int) (@gt Int (17:Int) (@gt Int (16:Int) (@gt Int (17:Int) (@gt Int (18:Int) (@gt Int (19:Int) (@gt Int (20:Int) (@gt Int (21:Int) (@gt Int (20:Int) (@gt Int (21:Int) (@gt Int (22:Int) (@gt Int (23:Int) (@gt Int (24:Int) (@gt Int (25:Int) ([24,25,26,27,28,29,28,29,30,31,32,1]:List Int)))))))))))))))))))))))))))))))))))))) fun v3=>
 ne (fm N v3 key1) fun v4=>
 ne (jh N ((v4,((0:Int),())),(([]:List Int),()))) fun v5=>
 ne (cD N v5.2.1 ([16,7,20,21,29,12,28,17,1,15,23,26,5,18,31,10,2,8,24,14,32,27,3,9,19,13,30,6,22,11,4,25]:List Int)) fun v6=>
 some (v6)
theorem zp (half0:List (Int))(key1:List (Int)):(runK Do (aob N) 400 167 [(.sl (.int .u8)),(.sl (.int .u8))] [(.sl (.int .u8))] (half0,key1,())).run=lh N half0 key1:=by kernel_rfl
noncomputable def aoa:(R:Type)→Env R:=Du (aob N) 167 (fun R=>fnK [(.sl (.int .u8)),(.sl (.int .u8))] [(.sl (.int .u8))] (fun c=>lh N c.1 c.2.1))
theorem abE (R:Type):EnvOK Do (aoa N R):=Dt hmx (abF N R) (abF N _) (by kernel_rfl) (fun c=>zp N c.1 c.2.1)
noncomputable def jk:LI:=⟨39,0,[],⟨[(1,.ty (.sl (.sl (.int .u8)))),(6,.ty (.sl (.int .u8))),(7,.ty (.sl (.int .u8))),(8,.ty (.int .i64))],[]⟩,[(.exit 0,⟨[(6,.ty (.sl (.int .u8))),(7,.ty (.sl (.int .u8)))],[]⟩)]⟩
noncomputable def ep (X:(((List (List Int))×((List Int)×pz8))×Unit)→Option ((((List Int)×((List Int)×Unit))×Unit)))(l1:List (List Int))(left6:List (Int))(right7:List (Int))(i8:Int):Option ((((List Int)×((List Int)×Unit))×Unit)):=
 bif (decide (i8<(((Dq l1):Nat):Int))) then
  ne (getI l1 i8) fun (v6:(List Int))=>
  ne (lh N right7 v6) fun v7=>
  ne (fm N left6 v7) fun v8=>
  (X ((l1,(right7,(v8,((Dp .i64 (i8+1)),())))),()))
 else
  some (((left6,(right7,())),()))
noncomputable def fK (c:(((List (List Int))×((List Int)×pz8))×Unit)):Option ((((List Int)×((List Int)×Unit))×Unit)):=gl (fun X c=>ep N X c.1.1 c.1.2.1 c.1.2.2.1 c.1.2.2.2.1) N c
theorem tF (X:(((List (List Int))×((List Int)×pz8))×Unit)→Option ((((List Int)×((List Int)×Unit))×Unit)))(l1:List (List Int))(left6:List (Int))(right7:List (Int))(i8:Int):(am Do (aoa N) 400 [133] jk (ak Do [133] 4) X ((l1,left6,right7,i8,()),())).run=ep N X l1 left6 right7 i8:=by kernel_rfl
noncomputable def an9:(R:Type)→Env R:=Dx (aoa N) [133] 0 4 (fun R=>lpK Do jk (fun X c=>ep N X c.1.1 c.1.2.1 c.1.2.2.1 c.1.2.2.2.1) N)
theorem abD (R:Type):EnvOK Do (an9 N R):=Dw (abE N R) (by kernel_rfl) (aq (li:=jk) hmx (abE N _) (by kernel_rfl) ab (fun X c=>tF N X c.1.1 c.1.2.1 c.1.2.2.1 c.1.2.2.2.1) N)
noncomputable def wc (N:Nat):Option (List Int):=
 some (([40,8,48,16,56,24,64,32,39,7,47,15,55,23,63,31,38,6,46,14,54,22,62,30,37,5,45,13,53,21,61,29,36,4,44,12,52,20,60,28,35,3,43,11,51,19,59,27,34,2,42,10,50,18,58,26,33,1,41,9,49,17,57,25]:List Int))
theorem zt:(runK Do (an9 N) 400 168 [] [(.sl (.int .i64))] ()).run=wc N:=by kernel_rfl
noncomputable def an8:(R:Type)→Env R:=Du (an9 N) 168 (fun R=>fnK [] [(.sl (.int .i64))] (fun c=>wc N ))
theorem abC (R:Type):EnvOK Do (an8 N R):=Dt hmx (abD N R) (abD N _) (by kernel_rfl) (fun c=>zt N )
noncomputable def lk (block0:Int)(l1:List (List Int)):Option Int:=
 ne (dl N block0 (64:Int)) fun v3=>
 ne (cD N v3 (@gt Int (58:Int) (@gt Int (50:Int) (@gt Int (42:Int) (@gt Int (34:Int) (@gt Int (26:Int) (@gt Int (18:Int) (@gt Int (10:Int) (@gt Int (2:Int) (@gt Int (60:Int) (@gt Int (52:Int) (@gt Int (44:Int) (@gt Int (36:Int) (@gt Int (28:Int) (@gt Int (20:Int) (@gt Int (12:Int) (@gt Int (4:Int) (@gt Int (62:Int) (@gt Int (54:Int) (@gt Int (46:Int) (@gt Int (38:Int) (@gt Int (30:Int) (@gt Int (22:Int) (@gt Int (14:Int) (@gt Int (6:Int) (@gt Int (64:Int) (@gt Int (56:Int) (@gt Int (48:Int) (@gt Int (40:Int) (@gt Int (32:Int) (@gt Int (24:Int) (@gt Int (16:Int) (@gt Int (8:Int) (@gt Int (57:Int) (@gt Int (49:Int) (@gt Int (41:Int) (@gt Int (33:Int) (@gt Int (25:Int) (@gt Int (17:Int) (@gt Int (9:Int) (@gt Int (1:Int) (@gt Int (59:Int) (@gt Int (51:Int) (@gt Int (43:Int) (@gt Int (35:Int) (@gt Int (27:Int) (@gt Int (19:Int) (@gt Int (11:Int) (@gt Int (3:Int) (@gt Int (61:Int) (@gt Int (53:Int) (@gt Int (45:Int) (@gt Int (37:Int) (@gt Int (29:Int) (@gt Int (21:Int) (@gt Int (13:Int) (@gt Int (5:Int) ([63,55,47,39,31,23,15,7]:List Int)))))))))))))))))))))))))))))))))))))))))))))))))))))))))) fun v4=>
 ne (cL v4 (32:Int)) fun (v5:(List Int))=>
 ne (bJ v4 (32:Int)) fun (v6:(List Int))=>
 ne (fK N ((l1,(v5,(v6,((0:Int),())))),())) fun v7=>
 bif (ae (Dq v7.1.2.1) 1) then
  bif (ae ((Dq v7.1.2.1)+(Dq v7.1.1)) 1) then
   ne (cD N (v7.1.2.1++v7.1.1) (@gt Int (40:Int) (@gt Int (8:Int) (@gt Int (48:Int) (@gt Int (16:Int) (@gt Int (56:Int) (@gt Int (24:Int) (@gt Int (64:Int) (@gt Int (32:Int) (@gt Int (39:Int) (@gt Int (7:Int) (@gt Int (47:Int) (@gt Int (15:Int) (@gt Int (55:Int) (@gt Int (23:Int) (@gt Int (63:Int) (@gt Int (31:Int) (@gt Int (38:Int) (@gt Int (6:Int) (@gt Int (46:Int) (@gt Int (14:Int) (@gt Int (54:Int) (@gt Int (22:Int) (@gt Int (62:Int) (@gt Int (30:Int) (@gt Int (37:Int) (@gt Int (5:Int) (@gt Int (45:Int) (@gt Int (13:Int) (@gt Int (53:Int) (@gt Int (21:Int) (@gt Int (61:Int) (@gt Int (29:Int) (@gt Int (36:Int) (@gt Int (4:Int) (@gt Int (44:Int) (@gt Int (12:Int) (@gt Int (52:Int) (@gt Int (20:Int) (@gt Int (60:Int) (@gt Int (28:Int) (@gt Int (35:Int) (@gt Int (3:Int) (@gt Int (43:Int) (@gt Int (11:Int) (@gt Int (51:Int) (@gt Int (19:Int) (@gt Int (59:Int) (@gt Int (27:Int) (@gt Int (34:Int) (@gt Int (2:Int) (@gt Int (42:Int) (@gt Int (10:Int) (@gt Int (50:Int) (@gt Int (18:Int) (@gt Int (58:Int) (@gt Int (26:Int) ([33,1,41,9,49,17,57,25]:List Int)))))))))))))))))))))))))))))))))))))))))))))))))))))))))) fun v8=>
   ne (fq N v8) fun v9=>
   some (v9)
  else
   none
 else
  none
theorem zr (block0:Int)(l1:List (List Int)):(runK Do (an8 N) 400 133 [(.int .u64),(.sl (.sl (.int .u8)))] [(.int .u64)] (block0,l1,())).run=lk N block0 l1:=by kernel_rfl
noncomputable def an7:(R:Type)→Env R:=Du (an8 N) 133 (fun R=>fnK [(.int .u64),(.sl (.sl (.int .u8)))] [(.int .u64)] (fun c=>lk N c.1 c.2.1))
theorem abB (R:Type):EnvOK Do (an7 N R):=Dt hmx (abC N R) (abC N _) (by kernel_rfl) (fun c=>zr N c.1 c.2.1)
end
section
variable (N:Nat)
noncomputable def lm (key0:Int)(block1:Int):Option Int:=
 ne (ll N key0) fun v3=>
 ne (lk N block1 v3) fun v4=>
 some (v4)
theorem zw (key0:Int)(block1:Int):(runK Do (an7 N) 400 90 [(.int .u64),(.int .u64)] [(.int .u64)] (key0,block1,())).run=lm N key0 block1:=by kernel_rfl
noncomputable def an6:(R:Type)→Env R:=Du (an7 N) 90 (fun R=>fnK [(.int .u64),(.int .u64)] [(.int .u64)] (fun c=>lm N c.1 c.2.1))
theorem abA (R:Type):EnvOK Do (an6 N R):=Dt hmx (abB N R) (abB N _) (by kernel_rfl) (fun c=>zw N c.1 c.2.1)
noncomputable def gH:LI:=⟨42,0,[(4,5)],⟨[(0,.ty (.sl (.int .u8))),(4,.lit (.own 0)),(5,.lit (.c (.slice none 0 0))),(6,.ty (.int .i64))],[.own (.int .u8) 5]⟩,[(.exit 0,⟨[(4,.lit (.own 0)),(5,.lit (.c (.slice none 0 0)))],[.own (.int .u8) 5]⟩)]⟩
noncomputable def dk (X:(pz8×((List Int)×Unit))→Option pz3)(key0:List (Int))(i6:Int)(h0:List (Int)):Option pz3:=
 bif (decide (i6<(7:Int))) then
  ne (getI key0 i6) fun (v5:Int)=>
  ne (dl N (Dp .u64 v5) (8:Int)) fun v6=>
  bif (ae ((Dq h0)+(Dq v6)) 1) then
   (X ((key0,((Dp .i64 (i6+1)),())),((h0++v6),())))
  else
   none
 else
  some (((),(h0,())))
noncomputable def gG (c:(pz8×((List Int)×Unit))):Option pz3:=gl (fun X c=>dk N X c.1.1 c.1.2.1 c.2.1) N c
theorem qZ (X:(pz8×((List Int)×Unit))→Option pz3)(key0:List (Int))(i6:Int)(h0:List (Int)):(am Do (an6 N) 400 [88] gH (ak Do [88] 5) X ((key0,i6,()),(h0,()))).run=dk N X key0 i6 h0:=by kernel_rfl
noncomputable def an5:(R:Type)→Env R:=Dx (an6 N) [88] 0 5 (fun R=>lpK Do gH (fun X c=>dk N X c.1.1 c.1.2.1 c.2.1) N)
theorem abz (R:Type):EnvOK Do (an5 N R):=Dw (abA N R) (by kernel_rfl) (aq (li:=gH) hmx (abA N _) (by kernel_rfl) ab (fun X c=>qZ N X c.1.1 c.1.2.1 c.2.1) N)
noncomputable def ku:LI:=⟨23,0,[],⟨[(0,.ty (.int .u8)),(3,.ty (.int .u8)),(4,.ty (.int .i64))],[]⟩,[(.exit 0,⟨[(0,.ty (.int .u8)),(3,.ty (.int .u8))],[]⟩)]⟩
noncomputable def nC (N:Nat)(X:(pz9×Unit)→Option (pz14))(b0:Int)(n3:Int)(i4:Int):Option (pz14):=
 bif (decide (i4<(8:Int))) then
  bif (decide ((0:Int)≤i4)) then
   (X ((b0,((Dp .u8 (n3+(@DH (@DJ b0 ((2:Int) ^ (min (Dv i4) (Dz .u8)))) (2:Int)))),((Dp .i64 (i4+1)),()))),()))
  else
   none
 else
  some (((b0,(n3,())),()))
noncomputable def vl (c:(pz9×Unit)):Option (pz14):=gl (fun X c=>nC N X c.1.1 c.1.2.1 c.1.2.2.1) N c
theorem vk (X:(pz9×Unit)→Option (pz14))(b0:Int)(n3:Int)(i4:Int):(am Do (an5 N) 400 [131] ku (ak Do [131] 3) X ((b0,n3,i4,()),())).run=nC N X b0 n3 i4:=by kernel_rfl
noncomputable def an4:(R:Type)→Env R:=Dx (an5 N) [131] 0 3 (fun R=>lpK Do ku (fun X c=>nC N X c.1.1 c.1.2.1 c.1.2.2.1) N)
theorem aby (R:Type):EnvOK Do (an4 N R):=Dw (abz N R) (by kernel_rfl) (aq (li:=ku) hmx (abz N _) (by kernel_rfl) ab (fun X c=>vk N X c.1.1 c.1.2.1 c.1.2.2.1) N)
noncomputable def qc (b0:Int):Option Int:=
 ne (vl N ((b0,((0:Int),((1:Int),()))),())) fun v2=>
 some ((Dp .u8 ((Dp .u8 (v2.1.1-(@DH v2.1.1 (2:Int))))+(@DH (Dp .u8 (v2.1.2.1+1)) (2:Int)))))
theorem Bn (b0:Int):(runK Do (an4 N) 400 131 [(.int .u8)] [(.int .u8)] (b0,())).run=qc N b0:=by kernel_rfl
noncomputable def an3:(R:Type)→Env R:=Du (an4 N) 131 (fun R=>fnK [(.int .u8)] [(.int .u8)] (fun c=>qc N c.1))
theorem abx (R:Type):EnvOK Do (an3 N R):=Dt hmx (aby N R) (aby N _) (by kernel_rfl) (fun c=>Bn N c.1)
noncomputable def gF:LI:=⟨42,0,[(5,5)],⟨[(4,.ty (.sl (.int .u8))),(5,.lit (.own 0)),(7,.ty (.int .i64))],[.own (.int .u8) 5]⟩,[(.exit 2,⟨[(5,.lit (.own 0))],[.own (.int .u8) 5]⟩)]⟩
noncomputable def dj (X:(pz8×((List Int)×Unit))→Option pz3)(row4:List (Int))(i7:Int)(h0:List (Int)):Option pz3:=
 bif (decide (i7<(8:Int))) then
  ne (subI row4 (Dp .i64 ((7:Int)*i7)) (Dp .i64 ((Dp .i64 ((7:Int)*i7))+7))) fun (v5:(List Int))=>
  ne (fq N v5) fun v6=>
  ne (qc N (Dp .u8 (Dp .u64 ((2:Int)*v6)))) fun v7=>
  bif (ae ((Dq h0)+(Dq ([v7]:List (Int)))) 1) then
   (X ((row4,((Dp .i64 (i7+1)),())),((h0++([v7]:List (Int))),())))
  else
   none
 else
  some (((),(h0,())))
noncomputable def gE (c:(pz8×((List Int)×Unit))):Option pz3:=gl (fun X c=>dj N X c.1.1 c.1.2.1 c.2.1) N c
theorem qY (X:(pz8×((List Int)×Unit))→Option pz3)(row4:List (Int))(i7:Int)(h0:List (Int)):(am Do (an3 N) 400 [88] gF (ak Do [88] 9) X ((row4,i7,()),(h0,()))).run=dj N X row4 i7 h0:=by kernel_rfl
noncomputable def an2:(R:Type)→Env R:=Dx (an3 N) [88] 0 9 (fun R=>lpK Do gF (fun X c=>dj N X c.1.1 c.1.2.1 c.2.1) N)
theorem abw (R:Type):EnvOK Do (an2 N R):=Dw (abx N R) (by kernel_rfl) (aq (li:=gF) hmx (abx N _) (by kernel_rfl) ab (fun X c=>qY N X c.1.1 c.1.2.1 c.2.1) N)
noncomputable def gW (key0:List (Int)):Option ((List Int)×Int):=
 bif (!(decide ((((Dq key0):Nat):Int)=(7:Int)))) then
  some ((([]:List Int),(1:Int)))
 else
  ne (gG N ((key0,((0:Int),())),(([]:List Int),()))) fun v2=>
  ne (gE N ((v2.2.1,((0:Int),())),(([]:List Int),()))) fun v3=>
  some ((v3.2.1,(0:Int)))
theorem vi (key0:List (Int)):(runK Do (an2 N) 400 88 [(.sl (.int .u8))] [(.sl (.int .u8)),(.int .i64)] (key0,())).run=gW N key0:=by kernel_rfl
noncomputable def an1:(R:Type)→Env R:=Du (an2 N) 88 (fun R=>fnK [(.sl (.int .u8))] [(.sl (.int .u8)),(.int .i64)] (fun c=>gW N c.1))
theorem abv (R:Type):EnvOK Do (an1 N R):=Dt hmx (abw N R) (abw N _) (by kernel_rfl) (fun c=>vi N c.1)
noncomputable def ky:LI:=⟨20,0,[],⟨[(0,.ty (.sl (.int .u8))),(3,.ty (.int .u64)),(4,.ty (.int .i64))],[]⟩,[(.exit 0,⟨[(3,.ty (.int .u64))],[]⟩)]⟩
noncomputable def fu (N:Nat)(X:(pz5×Unit)→Option (((Int×Unit)×Unit)))(b0:List (Int))(n3:Int)(i4:Int):Option (((Int×Unit)×Unit)):=
 bif (decide (i4<(((Dq b0):Nat):Int))) then
  ne (getI b0 i4) fun (v5:Int)=>
  (X ((b0,((Dp .u64 ((Dp .u64 (n3*(256:Int)))+(Dp .u64 v5))),((Dp .i64 (i4+1)),()))),()))
 else
  some (((n3,()),()))
noncomputable def kv (c:(pz5×Unit)):Option (((Int×Unit)×Unit)):=gl (fun X c=>fu N X c.1.1 c.1.2.1 c.1.2.2.1) N c
theorem vm (X:(pz5×Unit)→Option (((Int×Unit)×Unit)))(b0:List (Int))(n3:Int)(i4:Int):(am Do (an1 N) 400 [91] ky (ak Do [91] 3) X ((b0,n3,i4,()),())).run=fu N X b0 n3 i4:=by kernel_rfl
noncomputable def an0:(R:Type)→Env R:=Dx (an1 N) [91] 0 3 (fun R=>lpK Do ky (fun X c=>fu N X c.1.1 c.1.2.1 c.1.2.2.1) N)
theorem abu (R:Type):EnvOK Do (an0 N R):=Dw (abv N R) (by kernel_rfl) (aq (li:=ky) hmx (abv N _) (by kernel_rfl) ab (fun X c=>vm N X c.1.1 c.1.2.1 c.1.2.2.1) N)
noncomputable def lA (b0:List (Int)):Option Int:=
 ne (kv N ((b0,((0:Int),((0:Int),()))),())) fun v2=>
 some (v2.1.1)
theorem Bo (b0:List (Int)):(runK Do (an0 N) 400 91 [(.sl (.int .u8))] [(.int .u64)] (b0,())).run=lA N b0:=by kernel_rfl
noncomputable def anZ:(R:Type)→Env R:=Du (an0 N) 91 (fun R=>fnK [(.sl (.int .u8))] [(.int .u64)] (fun c=>lA N c.1))
theorem abt (R:Type):EnvOK Do (anZ N R):=Dt hmx (abu N R) (abu N _) (by kernel_rfl) (fun c=>Bo N c.1)
noncomputable def kC:LI:=⟨24,0,[],⟨[(0,.ty (.int .u64)),(5,.lit (.own 0)),(6,.ty (.int .i64))],[.own (.int .u8) 5]⟩,[(.exit 0,⟨[(5,.lit (.own 0))],[.own (.int .u8) 5]⟩)]⟩
noncomputable def gX (N:Nat)(X:pz19→Option pz3)(n0:Int)(i6:Int)(h0:List (Int)):Option pz3:=
 bif (decide ((0:Int)≤i6)) then
  bif (decide ((0:Int)≤i6∧i6<(((Dq h0):Nat):Int))) then
   ne (h0[Dv i6]?) fun (v5:Int)=>
   (X (((Dp .u64 (@Int.tdiv n0 (256:Int))),((Dp .i64 (i6-1)),())),((@List.set Int h0 (Dv i6) (Dp .u8 (@DH n0 (256:Int)))),())))
  else
   none
 else
  some (((),(h0,())))
noncomputable def kA (c:pz19):Option pz3:=gl (fun X c=>gX N X c.1.1 c.1.2.1 c.2.1) N c
theorem vp (X:pz19→Option pz3)(n0:Int)(i6:Int)(h0:List (Int)):(am Do (anZ N) 400 [89] kC (ak Do [89] 3) X ((n0,i6,()),(h0,()))).run=gX N X n0 i6 h0:=by kernel_rfl
noncomputable def anY:(R:Type)→Env R:=Dx (anZ N) [89] 0 3 (fun R=>lpK Do kC (fun X c=>gX N X c.1.1 c.1.2.1 c.2.1) N)
theorem abs (R:Type):EnvOK Do (anY N R):=Dw (abt N R) (by kernel_rfl) (aq (li:=kC) hmx (abt N _) (by kernel_rfl) ab (fun X c=>vp N X c.1.1 c.1.2.1 c.2.1) N)
noncomputable def nE (n0:Int)(width1:Int):Option (List Int):=
 bif ((decide ((0:Int)≤width1∧width1≤width1))&&(ae (Dv width1) 1)) then
  ne (kA N ((n0,((Dp .i64 (width1-1)),())),((@DI Int (Dv width1) (0:Int)),()))) fun v3=>
  some (v3.2.1)
 else
  none
theorem Bq (n0:Int)(width1:Int):(runK Do (anY N) 400 89 [(.int .u64),(.int .i64)] [(.sl (.int .u8))] (n0,width1,())).run=nE N n0 width1:=by kernel_rfl
noncomputable def anX:(R:Type)→Env R:=Du (anY N) 89 (fun R=>fnK [(.int .u64),(.int .i64)] [(.sl (.int .u8))] (fun c=>nE N c.1 c.2.1))
theorem abr (R:Type):EnvOK Do (anX N R):=Dt hmx (abs N R) (abs N _) (by kernel_rfl) (fun c=>Bq N c.1 c.2.1)
noncomputable def jm (key0:List (Int))(block1:List (Int)):Option ((List Int)×Int):=
 bif (!(decide ((((Dq key0):Nat):Int)=(7:Int)))) then
  some ((([]:List Int),(1:Int)))
 else
  ne (some ((cond false true (!(decide ((((Dq block1):Nat):Int)=(8:Int))))))) fun (v3:Bool)=>
  bif v3 then
   some ((([]:List Int),(1:Int)))
  else
   ne (gW N key0) fun v4=>
   ne (lA N v4.1) fun v5=>
   ne (lA N block1) fun v6=>
   ne (lm N v5 v6) fun v7=>
   ne (nE N v7 (8:Int)) fun v8=>
   some ((v8,(0:Int)))
theorem xz (key0:List (Int))(block1:List (Int)):(runK Do (anX N) 400 56 [(.sl (.int .u8)),(.sl (.int .u8))] [(.sl (.int .u8)),(.int .i64)] (key0,block1,())).run=jm N key0 block1:=by kernel_rfl
noncomputable def anW:(R:Type)→Env R:=Du (anX N) 56 (fun R=>fnK [(.sl (.int .u8)),(.sl (.int .u8))] [(.sl (.int .u8)),(.int .i64)] (fun c=>jm N c.1 c.2.1))
theorem abq (R:Type):EnvOK Do (anW N R):=Dt hmx (abr N R) (abr N _) (by kernel_rfl) (fun c=>xz N c.1 c.2.1)
noncomputable def kD:LI:=⟨35,0,[],⟨[(0,.ty (.sl (.int .u8))),(1,.ty (.sl (.int .u8))),(5,.ty (.int .i64)),(16,.ty (.int .i64)),(17,.ty (.int .i64))],[]⟩,[(.exit 0,⟨[(5,.ty (.int .i64))],[]⟩)]⟩
noncomputable def fx (N:Nat)(X:(((List Int)×((List Int)×pz9))×Unit)→Option (((Int×Unit)×Unit)))(a0:List (Int))(b1:List (Int))(differ5:Int)(x16:Int)(x17:Int):Option (((Int×Unit)×Unit)):=
 bif (decide (x17<x16)) then
  ne (getI a0 x17) fun (v7:Int)=>
  ne (getI b1 x17) fun (v8:Int)=>
  (X ((a0,(b1,((bits .or .i64 differ5 (Dp .i64 (bits .xor .u8 v7 v8))),(x16,((Dp .i64 (x17+1)),()))))),()))
 else
  some (((differ5,()),()))
noncomputable def pf (c:(((List Int)×((List Int)×pz9))×Unit)):Option (((Int×Unit)×Unit)):=gl (fun X c=>fx N X c.1.1 c.1.2.1 c.1.2.2.1 c.1.2.2.2.1 c.1.2.2.2.2.1) N c
theorem vq (X:(((List Int)×((List Int)×pz9))×Unit)→Option (((Int×Unit)×Unit)))(a0:List (Int))(b1:List (Int))(differ5:Int)(x16:Int)(x17:Int):(am Do (anW N) 400 [96] kD (ak Do [96] 3) X ((a0,b1,differ5,x16,x17,()),())).run=fx N X a0 b1 differ5 x16 x17:=by kernel_rfl
noncomputable def anV:(R:Type)→Env R:=Dx (anW N) [96] 0 3 (fun R=>lpK Do kD (fun X c=>fx N X c.1.1 c.1.2.1 c.1.2.2.1 c.1.2.2.2.1 c.1.2.2.2.2.1) N)
theorem abp (R:Type):EnvOK Do (anV N R):=Dw (abq N R) (by kernel_rfl) (aq (li:=kD) hmx (abq N _) (by kernel_rfl) ab (fun X c=>vq N X c.1.1 c.1.2.1 c.1.2.2.1 c.1.2.2.2.1 c.1.2.2.2.2.1) N)
noncomputable def fM (a0:List (Int))(b1:List (Int)):Option Bool:=
 ne (pf N ((a0,(b1,((bits .xor .i64 (((Dq a0):Nat):Int) (((Dq b1):Nat):Int)),((@minI (((Dq a0):Nat):Int) (((Dq b1):Nat):Int)),((0:Int),()))))),())) fun v3=>
 some ((decide (v3.1.1=(0:Int))))
theorem BD (a0:List (Int))(b1:List (Int)):(runK Do (anV N) 400 96 [(.sl (.int .u8)),(.sl (.int .u8))] [.bool] (a0,b1,())).run=fM N a0 b1:=by kernel_rfl
noncomputable def ary:(R:Type)→Env R:=Du (anV N) 96 (fun R=>fnK [(.sl (.int .u8)),(.sl (.int .u8))] [.bool] (fun c=>fM N c.1 c.2.1))
theorem aka (R:Type):EnvOK Do (ary N R):=Dt hmx (abp N R) (abp N _) (by kernel_rfl) (fun c=>BD N c.1 c.2.1)
noncomputable def anU:(R:Type)→Env R:=DM (ary N) [(100,5)]
theorem abo (R:Type):EnvOK Do (anU N R):=DK (aka N R) [(100,5)]
noncomputable def mq:LI:=⟨28,0,[],⟨[(3,.lit (.own 0)),(10,.ty (.sl (.int .u8))),(11,.ty (.int .i64)),(12,.ty (.int .i64))],[.own (.int .u8) 5]⟩,[(.exit 0,⟨[(3,.lit (.own 0))],[.own (.int .u8) 5]⟩)]⟩
noncomputable def gJ (N:Nat)(X:(pz5×((List Int)×Unit))→Option pz3)(x10:List (Int))(x11:Int)(x12:Int)(h0:List (Int)):Option pz3:=
 bif (decide (x12<x11)) then
  ne (getI x10 x12) fun (v6:Int)=>
  ne (getI (Dr (Ds ([48,49,50,51,52,53,54,55,56,57,65,66,67,68,69,70]:List UInt8))) (@DJ v6 ((2:Int) ^ (min (Dv (4:Int)) (Dz .u8))))) fun (v7:UInt8)=>
  ne (getI (Dr (Ds ([48,49,50,51,52,53,54,55,56,57,65,66,67,68,69,70]:List UInt8))) (bits .and .u8 v6 (15:Int))) fun (v8:UInt8)=>
  bif (ae ((Dq h0)+(Dq ([(((@Dy v7):Nat):Int),(((@Dy v8):Nat):Int)]:List (Int)))) 1) then
   (X ((x10,(x11,((Dp .i64 (x12+1)),()))),((h0++([(((@Dy v7):Nat):Int),(((@Dy v8):Nat):Int)]:List (Int))),())))
  else
   none
 else
  some (((),(h0,())))
noncomputable def qe (c:(pz5×((List Int)×Unit))):Option pz3:=gl (fun X c=>gJ N X c.1.1 c.1.2.1 c.1.2.2.1 c.2.1) N c
theorem xT (X:(pz5×((List Int)×Unit))→Option pz3)(x10:List (Int))(x11:Int)(x12:Int)(h0:List (Int)):(am Do (anU N) 400 [100] mq (ak Do [100] 3) X ((x10,x11,x12,()),(h0,()))).run=gJ N X x10 x11 x12 h0:=by kernel_rfl
noncomputable def anT:(R:Type)→Env R:=Dx (anU N) [100] 0 3 (fun R=>lpK Do mq (fun X c=>gJ N X c.1.1 c.1.2.1 c.1.2.2.1 c.2.1) N)
theorem abn (R:Type):EnvOK Do (anT N R):=Dw (abo N R) (by kernel_rfl) (aq (li:=mq) hmx (abo N _) (by kernel_rfl) ab (fun X c=>xT N X c.1.1 c.1.2.1 c.1.2.2.1 c.2.1) N)
noncomputable def j6 (b0:List (Int)):Option (List UInt8):=
 bif ((decide ((0:Int)≤(0:Int)∧(0:Int)≤(Dp .i64 ((2:Int)*(((Dq b0):Nat):Int)))))&&(ae (Dv (Dp .i64 ((2:Int)*(((Dq b0):Nat):Int)))) 1)) then
  ne (qe N ((b0,((((Dq b0):Nat):Int),((0:Int),()))),((@DI Int (Dv (0:Int)) (0:Int)),()))) fun v2=>
  ne (@toBy v2.2.1) fun (v3:(List UInt8))=>
  some (v3)
 else
  none
theorem adw (b0:List (Int)):(runK Do (anT N) 400 100 [(.sl (.int .u8))] [.str] (b0,())).run=j6 N b0:=by kernel_rfl
noncomputable def anS:(R:Type)→Env R:=Du (anT N) 100 (fun R=>fnK [(.sl (.int .u8))] [.str] (fun c=>j6 N c.1))
theorem abm (R:Type):EnvOK Do (anS N R):=Dt hmx (abn N R) (abn N _) (by kernel_rfl) (fun c=>adw N c.1)
noncomputable def kz:LI:=⟨40,0,[],⟨[(0,.ty (.sl (.int .u8))),(3,.ty .str),(4,.ty .str),(5,.ty (.int .i64))],[]⟩,[(.exit 0,⟨[(4,.ty .str)],[]⟩)]⟩
noncomputable def nD (N:Nat)(X:(((List Int)×(List UInt8×pz26))×Unit)→Option (pz29))(b0:List (Int))(all3:List UInt8)(s4:List UInt8)(i5:Int):Option (pz29):=
 bif (decide (i5<(((Dq b0):Nat):Int))) then
  ne (getI b0 i5) fun (v6:Int)=>
  ne (getI b0 i5) fun (v7:Int)=>
  ne (subI all3 (Dp .i64 (Dp .u8 (@Int.tdiv v6 (16:Int)))) (Dp .i64 ((Dp .i64 (Dp .u8 (@Int.tdiv v6 (16:Int))))+1))) fun (v8:(List UInt8))=>
  ne (subI all3 (Dp .i64 (@DH v7 (16:Int))) (Dp .i64 ((Dp .i64 (@DH v7 (16:Int)))+1))) fun (v9:(List UInt8))=>
  bif (decide (((Dq v8)+(Dq v9))≤maxLen)) then
   bif (decide (((Dq s4)+(Dq (v8++v9)))≤maxLen)) then
    (X ((b0,(all3,((s4++(v8++v9)),((Dp .i64 (i5+1)),())))),()))
   else
    none
  else
   none
 else
  some (((s4,()),()))
noncomputable def vo (c:(((List Int)×(List UInt8×pz26))×Unit)):Option (pz29):=gl (fun X c=>nD N X c.1.1 c.1.2.1 c.1.2.2.1 c.1.2.2.2.1) N c
theorem vn (X:(((List Int)×(List UInt8×pz26))×Unit)→Option (pz29))(b0:List (Int))(all3:List UInt8)(s4:List UInt8)(i5:Int):(am Do (anS N) 400 [71] kz (ak Do [71] 4) X ((b0,all3,s4,i5,()),())).run=nD N X b0 all3 s4 i5:=by kernel_rfl
noncomputable def anR:(R:Type)→Env R:=Dx (anS N) [71] 0 4 (fun R=>lpK Do kz (fun X c=>nD N X c.1.1 c.1.2.1 c.1.2.2.1 c.1.2.2.2.1) N)
theorem abl (R:Type):EnvOK Do (anR N R):=Dw (abm N R) (by kernel_rfl) (aq (li:=kz) hmx (abm N _) (by kernel_rfl) ab (fun X c=>vn N X c.1.1 c.1.2.1 c.1.2.2.1 c.1.2.2.2.1) N)
noncomputable def zH (b0:List (Int)):Option (List UInt8):=
 ne (vo N ((b0,((Dr (Ds ([48,49,50,51,52,53,54,55,56,57,65,66,67,68,69,70]:List UInt8))),((Dr (Ds ([]:List UInt8))),((0:Int),())))),())) fun v2=>
 some (v2.1.1)
theorem Bp (b0:List (Int)):(runK Do (anR N) 400 71 [(.sl (.int .u8))] [.str] (b0,())).run=zH N b0:=by kernel_rfl
noncomputable def anQ:(R:Type)→Env R:=Du (anR N) 71 (fun R=>fnK [(.sl (.int .u8))] [.str] (fun c=>zH N c.1))
theorem abk (R:Type):EnvOK Do (anQ N R):=Dt hmx (abl N R) (abl N _) (by kernel_rfl) (fun c=>Bp N c.1)
noncomputable def hY:LI:=⟨19,0,[],⟨[(6,.ty (.sl (.int .u8))),(7,.ty (.int .i64)),(8,.ty (.int .i64))],[]⟩,[(.ret,⟨[(2,.ty .bool)],[]⟩),(.exit 0,⟨[],[]⟩)]⟩
noncomputable def cq (N:Nat)(X:(pz5×Unit)→Option ((((Bool×Unit)×Unit) ⊕ (Unit×Unit))))(x6:List (Int))(x7:Int)(x8:Int):Option ((((Bool×Unit)×Unit) ⊕ (Unit×Unit))):=
 bif (decide (x8<x7)) then
  ne (getI x6 x8) fun (v5:Int)=>
  ne (bif (decide (v5<(32:Int))) then
    some (true)
   else
    some ((cond false true (decide ((126:Int)<v5))))) fun (v6:Bool)=>
  bif v6 then
   some ((.inl ((false,()),())))
  else
   (X ((x6,(x7,((Dp .i64 (x8+1)),()))),()))
 else
  some ((.inr ((),())))
noncomputable def mT (c:(pz5×Unit)):Option ((((Bool×Unit)×Unit) ⊕ (Unit×Unit))):=gl (fun X c=>cq N X c.1.1 c.1.2.1 c.1.2.2.1) N c
theorem sa (X:(pz5×Unit)→Option ((((Bool×Unit)×Unit) ⊕ (Unit×Unit))))(x6:List (Int))(x7:Int)(x8:Int):(am Do (anQ N) 400 [98] hY (ak Do [98] 2) X ((x6,x7,x8,()),())).run=cq N X x6 x7 x8:=by kernel_rfl
noncomputable def anP:(R:Type)→Env R:=Dx (anQ N) [98] 0 2 (fun R=>lpK Do hY (fun X c=>cq N X c.1.1 c.1.2.1 c.1.2.2.1) N)
theorem abj (R:Type):EnvOK Do (anP N R):=Dw (abk N R) (by kernel_rfl) (aq (li:=hY) hmx (abk N _) (by kernel_rfl) ab (fun X c=>sa N X c.1.1 c.1.2.1 c.1.2.2.1) N)
noncomputable def iT (s0:List UInt8):Option Bool:=
 bif (ae (Dq s0) 1) then
  ne (mT N (((@ofB s0),((((Dq (@ofB s0)):Nat):Int),((0:Int),()))),())) fun v2=>
  DP
   (fun (v3:((Bool×Unit)×Unit))=>
   some (v3.1.1))
   (fun (v3:(Unit×Unit))=>
   some (true)) v2
 else
  none
theorem wU (s0:List UInt8):(runK Do (anP N) 400 98 [.str] [.bool] (s0,())).run=iT N s0:=by kernel_rfl
noncomputable def arx:(R:Type)→Env R:=Du (anP N) 98 (fun R=>fnK [.str] [.bool] (fun c=>iT N c.1))
theorem aj9 (R:Type):EnvOK Do (arx N R):=Dt hmx (abj N R) (abj N _) (by kernel_rfl) (fun c=>wU N c.1)
noncomputable def anO:(R:Type)→Env R:=DE (arx N) [(103,0)]
theorem abi (R:Type):EnvOK Do (anO N R):=DA (aj9 N R) [(103,0)]
noncomputable def gK (h0:Arr Int 16)(response1:Arr Int 24):Option (Arr Int 16):=
 ne (dz N h0) fun v3=>
 ne (fH N ([v3.l,response1.l,([84,104,105,115,32,105,115,32,116,104,101,32,77,80,80,69,32,77,97,115,116,101,114,32,75,101,121]:List Int)]:List ((List Int)))) fun v4=>
 ne (cL v4.l (16:Int)) fun (v5:(List Int))=>
 ne (@dA Int (16:Nat) v5) fun (v6:(Arr Int 16))=>
 some (v6)
theorem xW (h0:Arr Int 16)(response1:Arr Int 24):(runK Do (anO N) 400 103 [(.arr 16 (.int .u8)),(.arr 24 (.int .u8))] [(.arr 16 (.int .u8))] (h0,response1,())).run=gK N h0 response1:=by kernel_rfl
noncomputable def arw:(R:Type)→Env R:=Du (anO N) 103 (fun R=>fnK [(.arr 16 (.int .u8)),(.arr 24 (.int .u8))] [(.arr 16 (.int .u8))] (fun c=>gK N c.1 c.2.1))
theorem aj8 (R:Type):EnvOK Do (arw N R):=Dt hmx (abi N R) (abi N _) (by kernel_rfl) (fun c=>xW N c.1 c.2.1)
noncomputable def anN:(R:Type)→Env R:=Env.addInl (arw N) [137,138,31]
theorem abh (R:Type):EnvOK Do (anN N R):=EnvOK.addInl (aj8 N R) (by kernel_rfl)
noncomputable def kF:LI:=⟨33,0,[],⟨[(0,.ty (.sl (.sl (.int .u8)))),(3,.ty (.int .i64)),(9,.ty (.sl (.sl (.int .u8)))),(10,.ty (.int .i64)),(11,.ty (.int .i64))],[]⟩,[(.exit 0,⟨[(0,.ty (.sl (.sl (.int .u8)))),(3,.ty (.int .i64))],[]⟩)]⟩
noncomputable def nJ (N:Nat)(X:(pz23×Unit)→Option ((pz12×Unit)))(parts0:List (List Int))(size3:Int)(x9:List (List Int))(x10:Int)(x11:Int):Option ((pz12×Unit)):=
 bif (decide (x11<x10)) then
  ne (getI x9 x11) fun (v7:(List Int))=>
  (X ((parts0,((Dp .i64 (size3+(((Dq v7):Nat):Int))),(x9,(x10,((Dp .i64 (x11+1)),()))))),()))
 else
  some (((parts0,(size3,())),()))
noncomputable def vv (c:(pz23×Unit)):Option ((pz12×Unit)):=gl (fun X c=>nJ N X c.1.1 c.1.2.1 c.1.2.2.1 c.1.2.2.2.1 c.1.2.2.2.2.1) N c
theorem vu (X:(pz23×Unit)→Option ((pz12×Unit)))(parts0:List (List Int))(size3:Int)(x9:List (List Int))(x10:Int)(x11:Int):(am Do (anN N) 400 [53] kF (ak Do [53] 3) X ((parts0,size3,x9,x10,x11,()),())).run=nJ N X parts0 size3 x9 x10 x11:=by kernel_rfl
noncomputable def anM:(R:Type)→Env R:=Dx (anN N) [53] 0 3 (fun R=>lpK Do kF (fun X c=>nJ N X c.1.1 c.1.2.1 c.1.2.2.1 c.1.2.2.2.1 c.1.2.2.2.2.1) N)
theorem abg (R:Type):EnvOK Do (anM N R):=Dw (abh N R) (by kernel_rfl) (aq (li:=kF) hmx (abh N _) (by kernel_rfl) ab (fun X c=>vu N X c.1.1 c.1.2.1 c.1.2.2.1 c.1.2.2.2.1 c.1.2.2.2.2.1) N)
noncomputable def kE:LI:=⟨33,0,[],⟨[(6,.lit (.own 0)),(22,.ty (.sl (.sl (.int .u8)))),(23,.ty (.int .i64)),(24,.ty (.int .i64))],[.own (.int .u8) 5]⟩,[(.exit 2,⟨[(6,.lit (.own 0))],[.own (.int .u8) 5]⟩)]⟩
noncomputable def nI (N:Nat)(X:(pz7×((List Int)×Unit))→Option pz3)(x22:List (List Int))(x23:Int)(x24:Int)(h0:List (Int)):Option pz3:=
 bif (decide (x24<x23)) then
  ne (getI x22 x24) fun (v6:(List Int))=>
  bif (ae ((Dq h0)+(Dq v6)) 1) then
   (X ((x22,(x23,((Dp .i64 (x24+1)),()))),((h0++v6),())))
  else
   none
 else
  some (((),(h0,())))
noncomputable def vt (c:(pz7×((List Int)×Unit))):Option pz3:=gl (fun X c=>nI N X c.1.1 c.1.2.1 c.1.2.2.1 c.2.1) N c
theorem vr (X:(pz7×((List Int)×Unit))→Option pz3)(x22:List (List Int))(x23:Int)(x24:Int)(h0:List (Int)):(am Do (anM N) 400 [53] kE (ak Do [53] 9) X ((x22,x23,x24,()),(h0,()))).run=nI N X x22 x23 x24 h0:=by kernel_rfl
noncomputable def anL:(R:Type)→Env R:=Dx (anM N) [53] 0 9 (fun R=>lpK Do kE (fun X c=>nI N X c.1.1 c.1.2.1 c.1.2.2.1 c.2.1) N)
theorem abf (R:Type):EnvOK Do (anL N R):=Dw (abg N R) (by kernel_rfl) (aq (li:=kE) hmx (abg N _) (by kernel_rfl) ab (fun X c=>vr N X c.1.1 c.1.2.1 c.1.2.2.1 c.2.1) N)
noncomputable def eK (parts0:List (List Int)):Option (List Int):=
 ne (vv N ((parts0,((0:Int),(parts0,((((Dq parts0):Nat):Int),((0:Int),()))))),())) fun v2=>
 bif ((decide ((0:Int)≤(0:Int)∧(0:Int)≤v2.1.2.1))&&(ae (Dv v2.1.2.1) 1)) then
  ne (vt N ((v2.1.1,((((Dq v2.1.1):Nat):Int),((0:Int),()))),((@DI Int (Dv (0:Int)) (0:Int)),()))) fun v3=>
  some (v3.2.1)
 else
  none
theorem BE (parts0:List (List Int)):(runK Do (anL N) 400 53 [(.sl (.sl (.int .u8)))] [(.sl (.int .u8))] (parts0,())).run=eK N parts0:=by kernel_rfl
noncomputable def anK:(R:Type)→Env R:=Du (anL N) 53 (fun R=>fnK [(.sl (.sl (.int .u8)))] [(.sl (.int .u8))] (fun c=>eK N c.1))
theorem abe (R:Type):EnvOK Do (anK N R):=Dt hmx (abf N R) (abf N _) (by kernel_rfl) (fun c=>BE N c.1)
noncomputable def bK:LI:=⟨19,0,[],⟨[(0,.ty .str),(1,.ty (.int .u8)),(5,.ty (.int .i64))],[]⟩,[(.ret,⟨[(4,.ty (.int .i64))],[]⟩),(.exit 0,⟨[],[]⟩)]⟩
noncomputable def aF (N:Nat)(X:((List UInt8×(Int×(Int×Unit)))×Unit)→Option ((((Int×Unit)×Unit) ⊕ (Unit×Unit))))(s0:List UInt8)(c1:Int)(i5:Int):Option ((((Int×Unit)×Unit) ⊕ (Unit×Unit))):=
 bif (decide ((0:Int)≤i5)) then
  ne (getI s0 i5) fun (v5:UInt8)=>
  bif (decide ((((@Dy v5):Nat):Int)=c1)) then
   some ((.inl ((i5,()),())))
  else
   (X ((s0,(c1,((Dp .i64 (i5-1)),()))),()))
 else
  some ((.inr ((),())))
noncomputable def cY (c:((List UInt8×(Int×(Int×Unit)))×Unit)):Option ((((Int×Unit)×Unit) ⊕ (Unit×Unit))):=gl (fun X c=>aF N X c.1.1 c.1.2.1 c.1.2.2.1) N c
theorem gh (X:((List UInt8×(Int×(Int×Unit)))×Unit)→Option ((((Int×Unit)×Unit) ⊕ (Unit×Unit))))(s0:List UInt8)(c1:Int)(i5:Int):(am Do (anK N) 400 [161] bK (ak Do [161] 2) X ((s0,c1,i5,()),())).run=aF N X s0 c1 i5:=by kernel_rfl
noncomputable def anI:(R:Type)→Env R:=Dx (anK N) [161] 0 2 (fun R=>lpK Do bK (fun X c=>aF N X c.1.1 c.1.2.1 c.1.2.2.1) N)
theorem abd (R:Type):EnvOK Do (anI N R):=Dw (abe N R) (by kernel_rfl) (aq (li:=bK) hmx (abe N _) (by kernel_rfl) ab (fun X c=>gh N X c.1.1 c.1.2.1 c.1.2.2.1) N)
noncomputable def bH (s0:List UInt8)(c1:Int):Option Int:=
 ne (cY N ((s0,(c1,((Dp .i64 ((((Dq s0):Nat):Int)-1)),()))),())) fun v3=>
 DP
  (fun (v4:((Int×Unit)×Unit))=>
  some (v4.1.1))
  (fun (v4:(Unit×Unit))=>
  some ((-1:Int))) v3
theorem iB (s0:List UInt8)(c1:Int):(runK Do (anI N) 400 161 [.str,(.int .u8)] [(.int .i64)] (s0,c1,())).run=bH N s0 c1:=by kernel_rfl
noncomputable def anH:(R:Type)→Env R:=Du (anI N) 161 (fun R=>fnK [.str,(.int .u8)] [(.int .i64)] (fun c=>bH N c.1 c.2.1))
theorem abc (R:Type):EnvOK Do (anH N R):=Dt hmx (abd N R) (abd N _) (by kernel_rfl) (fun c=>iB N c.1 c.2.1)
noncomputable def cM (s0:List UInt8)(c1:Int):Option Int:=
 ne (bH N s0 c1) fun v3=>
 some (v3)
theorem lW (s0:List UInt8)(c1:Int):(runK Do (anH N) 400 125 [.str,(.int .u8)] [(.int .i64)] (s0,c1,())).run=cM N s0 c1:=by kernel_rfl
noncomputable def anG:(R:Type)→Env R:=Du (anH N) 125 (fun R=>fnK [.str,(.int .u8)] [(.int .i64)] (fun c=>cM N c.1 c.2.1))
theorem abb (R:Type):EnvOK Do (anG N R):=Dt hmx (abc N R) (abc N _) (by kernel_rfl) (fun c=>lW N c.1 c.2.1)
noncomputable def gj (name0:List UInt8):Option (List UInt8):=
 ne (cM N name0 (92:Int)) fun v2=>
 ne (bJ name0 (Dp .i64 (v2+1))) fun (v3:(List UInt8))=>
 some (v3)
theorem yT (name0:List UInt8):(runK Do (anG N) 400 82 [.str] [.str] (name0,())).run=gj N name0:=by kernel_rfl
noncomputable def anF:(R:Type)→Env R:=Du (anG N) 82 (fun R=>fnK [.str] [.str] (fun c=>gj N c.1))
theorem aba (R:Type):EnvOK Do (anF N R):=Dt hmx (abb N R) (abb N _) (by kernel_rfl) (fun c=>yT N c.1)
noncomputable def jg:LI:=⟨20,0,[],⟨[(0,.ty .str),(3,.ty (.int .i64)),(4,.ty (.int .i64))],[]⟩,[(.exit 0,⟨[(0,.ty .str),(3,.ty (.int .i64))],[]⟩)]⟩
noncomputable def dD (N:Nat)(X:((List UInt8×(Int×(Int×Unit)))×Unit)→Option ((pz26×Unit)))(name0:List UInt8)(x3:Int)(i4:Int):Option ((pz26×Unit)):=
 bif (decide (i4<(((Dq name0):Nat):Int))) then
  ne (getI name0 i4) fun (v5:UInt8)=>
  bif (decide ((((@Dy v5):Nat):Int)=(92:Int))) then
   (X ((name0,((Dp .i64 (i4+1)),((Dp .i64 (i4+1)),()))),()))
  else
   (X ((name0,(x3,((Dp .i64 (i4+1)),()))),()))
 else
  some (((name0,(x3,())),()))
noncomputable def ny (c:((List UInt8×(Int×(Int×Unit)))×Unit)):Option ((pz26×Unit)):=gl (fun X c=>dD N X c.1.1 c.1.2.1 c.1.2.2.1) N c
theorem tD (X:((List UInt8×(Int×(Int×Unit)))×Unit)→Option ((pz26×Unit)))(name0:List UInt8)(x3:Int)(i4:Int):(am Do (anF N) 400 [59] jg (ak Do [59] 3) X ((name0,x3,i4,()),())).run=dD N X name0 x3 i4:=by kernel_rfl
noncomputable def anE:(R:Type)→Env R:=Dx (anF N) [59] 0 3 (fun R=>lpK Do jg (fun X c=>dD N X c.1.1 c.1.2.1 c.1.2.2.1) N)
theorem aa9 (R:Type):EnvOK Do (anE N R):=Dw (aba N R) (by kernel_rfl) (aq (li:=jg) hmx (aba N _) (by kernel_rfl) ab (fun X c=>tD N X c.1.1 c.1.2.1 c.1.2.2.1) N)
noncomputable def lg (name0:List UInt8):Option (List UInt8):=
 ne (ny N ((name0,((0:Int),((0:Int),()))),())) fun v2=>
 ne (bJ v2.1.1 v2.1.2.1) fun (v3:(List UInt8))=>
 some (v3)
theorem zo (name0:List UInt8):(runK Do (anE N) 400 59 [.str] [.str] (name0,())).run=lg N name0:=by kernel_rfl
noncomputable def arv:(R:Type)→Env R:=Du (anE N) 59 (fun R=>fnK [.str] [.str] (fun c=>lg N c.1))
theorem aj7 (R:Type):EnvOK Do (arv N R):=Dt hmx (aa9 N R) (aa9 N _) (by kernel_rfl) (fun c=>zo N c.1)
noncomputable def anD:(R:Type)→Env R:=DE (arv N) [(30,0)]
theorem aa8 (R:Type):EnvOK Do (anD N R):=DA (aj7 N R) [(30,0)]
noncomputable def gM (peer0:Arr Int 16)(response1:Arr Int 24):Option (List Int):=
 ne (eK N ([peer0.l,(@DI Int (Dv (8:Int)) (0:Int)),response1.l,([0]:List Int)]:List ((List Int)))) fun v3=>
 some (v3)
theorem yC (peer0:Arr Int 16)(response1:Arr Int 24):(runK Do (anD N) 400 30 [(.arr 16 (.int .u8)),(.arr 24 (.int .u8))] [(.sl (.int .u8))] (peer0,response1,())).run=gM N peer0 response1:=by kernel_rfl
noncomputable def anC:(R:Type)→Env R:=Du (anD N) 30 (fun R=>fnK [(.arr 16 (.int .u8)),(.arr 24 (.int .u8))] [(.sl (.int .u8))] (fun c=>gM N c.1 c.2.1))
theorem aa7 (R:Type):EnvOK Do (anC N R):=Dt hmx (aa8 N R) (aa8 N _) (by kernel_rfl) (fun c=>yC N c.1 c.2.1)
noncomputable def gN (value0:List (Int)):Option ((Arr Int 16)×(Arr Int 24)×Int):=
 bif (!(decide ((((Dq value0):Nat):Int)=(49:Int)))) then
  some ((zc16,(zc24,(1:Int))))
 else
  ne (cL value0 (16:Int)) fun (v2:(List Int))=>
  ne (@dA Int (16:Nat) v2) fun (v3:(Arr Int 16))=>
  ne (subI value0 (24:Int) (48:Int)) fun (v4:(List Int))=>
  ne (@dA Int (24:Nat) v4) fun (v5:(Arr Int 24))=>
  ne (gM N v3 v5) fun v6=>
  ne (fM N v6 value0) fun v7=>
  bif (!v7) then
   some ((zc16,(zc24,(3:Int))))
  else
   some ((v3,(v5,(0:Int))))
theorem yD (value0:List (Int)):(runK Do (anC N) 400 61 [(.sl (.int .u8))] [(.arr 16 (.int .u8)),(.arr 24 (.int .u8)),(.int .i64)] (value0,())).run=gN N value0:=by kernel_rfl
noncomputable def aru:(R:Type)→Env R:=Du (anC N) 61 (fun R=>fnK [(.sl (.int .u8))] [(.arr 16 (.int .u8)),(.arr 24 (.int .u8)),(.int .i64)] (fun c=>gN N c.1))
theorem aj6 (R:Type):EnvOK Do (aru N R):=Dt hmx (aa7 N R) (aa7 N _) (by kernel_rfl) (fun c=>yD N c.1)
noncomputable def anB:(R:Type)→Env R:=DE (aru N) [(52,0)]
theorem aa6 (R:Type):EnvOK Do (anB N R):=DA (aj6 N R) [(52,0)]
noncomputable def aQ (peer0:Arr Int 16)(auth1:Arr Int 16)(name2:List UInt8):Option (Arr Int 8):=
 ne (gj N name2) fun v4=>
 bif (ae (Dq v4) 1) then
  ne (fH N ([peer0.l,auth1.l,(@ofB v4)]:List ((List Int)))) fun v5=>
  ne (cL v5.l (8:Int)) fun (v6:(List Int))=>
  ne (@dA Int (8:Nat) v6) fun (v7:(Arr Int 8))=>
  some (v7)
 else
  none
theorem rG (peer0:Arr Int 16)(auth1:Arr Int 16)(name2:List UInt8):(runK Do (anB N) 400 52 [(.arr 16 (.int .u8)),(.arr 16 (.int .u8)),.str] [(.arr 8 (.int .u8))] (peer0,auth1,name2,())).run=aQ N peer0 auth1 name2:=by kernel_rfl
noncomputable def art:(R:Type)→Env R:=Du (anB N) 52 (fun R=>fnK [(.arr 16 (.int .u8)),(.arr 16 (.int .u8)),.str] [(.arr 8 (.int .u8))] (fun c=>aQ N c.1 c.2.1 c.2.2.1))
theorem aj5 (R:Type):EnvOK Do (art N R):=Dt hmx (aa6 N R) (aa6 N _) (by kernel_rfl) (fun c=>rG N c.1 c.2.1 c.2.2.1)
noncomputable def anz:(R:Type)→Env R:=DE (art N) [(51,0)]
theorem aa5 (R:Type):EnvOK Do (anz N R):=DA (aj5 N R) [(51,0)]
noncomputable def fc:LI:=⟨28,0,[(5,5)],⟨[(2,.adr (.arr 8 (.int .u8))),(4,.lit (.box 0 0)),(5,.lit (.own 1)),(11,.ty (.arr 3 (.arr 7 (.int .u8)))),(12,.ty (.int .i64))],[.box 41 (.arr 24 (.int .u8)),.own (.int .u8) 5]⟩,[(.exit 0,⟨[(4,.lit (.box 0 0)),(5,.lit (.own 1))],[.box 41 (.arr 24 (.int .u8)),.own (.int .u8) 5]⟩)]⟩
noncomputable def dt (X:(((Arr Int 8)×((Arr (Arr Int 7) 3)×(Int×Unit)))×((Arr Int 24)×((List Int)×Unit)))→Option ((Unit×((Arr Int 24)×((List Int)×Unit)))))(c2:Arr Int 8)(x11:Arr (Arr Int 7) 3)(x12:Int)(h0:Arr Int 24)(h1:List (Int)):Option ((Unit×((Arr Int 24)×((List Int)×Unit)))):=
 bif (decide (x12<(3:Int))) then
  ne (getI x11.l x12) fun (v7:(Arr Int 7))=>
  ne (hP N v7.l c2.l) fun v8=>
  bif (ae ((Dq h1)+(Dq v8.1)) 1) then
   (X ((c2,(x11,((Dp .i64 (x12+1)),()))),(h0,((h1++v8.1),()))))
  else
   none
 else
  some (((),(h0,(h1,()))))
noncomputable def jP (c:(((Arr Int 8)×((Arr (Arr Int 7) 3)×(Int×Unit)))×((Arr Int 24)×((List Int)×Unit)))):Option ((Unit×((Arr Int 24)×((List Int)×Unit)))):=gl (fun X c=>dt N X c.1.1 c.1.2.1 c.1.2.2.1 c.2.1 c.2.2.1) N c
theorem pO (X:(((Arr Int 8)×((Arr (Arr Int 7) 3)×(Int×Unit)))×((Arr Int 24)×((List Int)×Unit)))→Option ((Unit×((Arr Int 24)×((List Int)×Unit)))))(c2:Arr Int 8)(x11:Arr (Arr Int 7) 3)(x12:Int)(h0:Arr Int 24)(h1:List (Int)):(am Do (anz N) 400 [51] fc (ak Do [51] 3) X ((c2,x11,x12,()),(h0,h1,()))).run=dt N X c2 x11 x12 h0 h1:=by kernel_rfl
noncomputable def anx:(R:Type)→Env R:=Dx (anz N) [51] 0 3 (fun R=>lpK Do fc (fun X c=>dt N X c.1.1 c.1.2.1 c.1.2.2.1 c.2.1 c.2.2.1) N)
theorem aa4 (R:Type):EnvOK Do (anx N R):=Dw (aa5 N R) (by kernel_rfl) (aq (li:=fc) hmx (aa5 N _) (by kernel_rfl) ab (fun X c=>pO N X c.1.1 c.1.2.1 c.1.2.2.1 c.2.1 c.2.2.1) N)
noncomputable def bB (c0:Arr Int 8)(h1:Arr Int 16):Option (Arr Int 24):=
 ne (ez N h1) fun v3=>
 ne (jP N ((c0,(v3,((0:Int),()))),(zc24,(([]:List Int),())))) fun v4=>
 ne (@dA Int (24:Nat) v4.2.2.1) fun (v5:(Arr Int 24))=>
 some (v5)
theorem sB (c0:Arr Int 8)(h1:Arr Int 16):(runK Do (anx N) 400 51 [(.arr 8 (.int .u8)),(.arr 16 (.int .u8))] [(.arr 24 (.int .u8))] (c0,h1,())).run=bB N c0 h1:=by kernel_rfl
noncomputable def ars:(R:Type)→Env R:=Du (anx N) 51 (fun R=>fnK [(.arr 8 (.int .u8)),(.arr 16 (.int .u8))] [(.arr 24 (.int .u8))] (fun c=>bB N c.1 c.2.1))
theorem aj4 (R:Type):EnvOK Do (ars N R):=Dt hmx (aa4 N R) (aa4 N _) (by kernel_rfl) (fun c=>sB N c.1 c.2.1)
noncomputable def anw:(R:Type)→Env R:=DE (ars N) [(66,0)]
theorem aa3 (R:Type):EnvOK Do (anw N R):=DA (aj4 N R) [(66,0)]
noncomputable def cr (h0:Arr Int 16)(response1:Arr Int 24)(c2:Arr Int 8):Option (List UInt8):=
 ne (dz N h0) fun v4=>
 ne (fH N ([v4.l,response1.l,([77,97,103,105,99,32,115,101,114,118,101,114,32,116,111,32,99,108,105,101,110,116,32,115,105,103,110,105,110,103,32,99,111,110,115,116,97,110,116]:List Int)]:List ((List Int)))) fun v5=>
 ne (fH N ([v5.l,c2.l,([80,97,100,32,116,111,32,109,97,107,101,32,105,116,32,100,111,32,109,111,114,101,32,116,104,97,110,32,111,110,101,32,105,116,101,114,97,116,105,111,110]:List Int)]:List ((List Int)))) fun v6=>
 ne (j6 N v6.l) fun v7=>
 bif (decide (((Dq (Dr (Ds ([83,61]:List UInt8))))+(Dq v7))≤maxLen)) then
  some (((Dr (Ds ([83,61]:List UInt8)))++v7))
 else
  none
theorem vH (h0:Arr Int 16)(response1:Arr Int 24)(c2:Arr Int 8):(runK Do (anw N) 400 66 [(.arr 16 (.int .u8)),(.arr 24 (.int .u8)),(.arr 8 (.int .u8))] [.str] (h0,response1,c2,())).run=cr N h0 response1 c2:=by kernel_rfl
noncomputable def anv:(R:Type)→Env R:=Du (anw N) 66 (fun R=>fnK [(.arr 16 (.int .u8)),(.arr 24 (.int .u8)),(.arr 8 (.int .u8))] [.str] (fun c=>cr N c.1 c.2.1 c.2.2.1))
theorem aa2 (R:Type):EnvOK Do (anv N R):=Dt hmx (aa3 N R) (aa3 N _) (by kernel_rfl) (fun c=>vH N c.1 c.2.1 c.2.2.1)
noncomputable def fW (N:Nat)(answer0:List UInt8)(text1:List UInt8):Option (List Int):=
 bif (decide (((Dq answer0)+(Dq (Dr (Ds ([32,77,61]:List UInt8)))))≤maxLen)) then
  bif (decide (((Dq (answer0++(Dr (Ds ([32,77,61]:List UInt8)))))+(Dq text1))≤maxLen)) then
   bif (ae (Dq ((answer0++(Dr (Ds ([32,77,61]:List UInt8))))++text1)) 1) then
    some ((@ofB ((answer0++(Dr (Ds ([32,77,61]:List UInt8))))++text1)))
   else
    none
  else
   none
 else
  none
theorem uI (answer0:List UInt8)(text1:List UInt8):(runK Do (anv N) 400 65 [.str,.str] [(.sl (.int .u8))] (answer0,text1,())).run=fW N answer0 text1:=by kernel_rfl
noncomputable def anu:(R:Type)→Env R:=Du (anv N) 65 (fun R=>fnK [.str,.str] [(.sl (.int .u8))] (fun c=>fW N c.1 c.2.1))
theorem aa1 (R:Type):EnvOK Do (anu N R):=Dt hmx (aa2 N R) (aa2 N _) (by kernel_rfl) (fun c=>uI N c.1 c.2.1)
noncomputable def fb:LI:=⟨38,0,[],⟨[(16,.ty (.sl (.int .u8))),(17,.ty (.int .i64)),(18,.ty (.int .i64))],[]⟩,[(.ret,⟨[(2,.ty .bool)],[]⟩),(.exit 0,⟨[],[]⟩)]⟩
noncomputable def aY (N:Nat)(X:(pz5×Unit)→Option ((((Bool×Unit)×Unit) ⊕ (Unit×Unit))))(x16:List (Int))(x17:Int)(x18:Int):Option ((((Bool×Unit)×Unit) ⊕ (Unit×Unit))):=
 bif (decide (x18<x17)) then
  ne (getI x16 x18) fun (v5:Int)=>
  ne (bif (decide ((48:Int)≤v5)) then
    some ((cond true (decide (v5≤(57:Int))) false))
   else
    some (false)) fun (v6:Bool)=>
  ne (bif v6 then
    some (true)
   else
    bif (decide ((65:Int)≤v5)) then
     some ((cond false true (cond true (decide (v5≤(70:Int))) false)))
    else
     some ((cond false true false))) fun (v7:Bool)=>
  bif (!v7) then
   some ((.inl ((false,()),())))
  else
   (X ((x16,(x17,((Dp .i64 (x18+1)),()))),()))
 else
  some ((.inr ((),())))
noncomputable def jO (c:(pz5×Unit)):Option ((((Bool×Unit)×Unit) ⊕ (Unit×Unit))):=gl (fun X c=>aY N X c.1.1 c.1.2.1 c.1.2.2.1) N c
theorem pN (X:(pz5×Unit)→Option ((((Bool×Unit)×Unit) ⊕ (Unit×Unit))))(x16:List (Int))(x17:Int)(x18:Int):(am Do (anu N) 400 [141] fb (ak Do [141] 4) X ((x16,x17,x18,()),())).run=aY N X x16 x17 x18:=by kernel_rfl
noncomputable def ant:(R:Type)→Env R:=Dx (anu N) [141] 0 4 (fun R=>lpK Do fb (fun X c=>aY N X c.1.1 c.1.2.1 c.1.2.2.1) N)
theorem aa0 (R:Type):EnvOK Do (ant N R):=Dw (aa1 N R) (by kernel_rfl) (aq (li:=fb) hmx (aa1 N _) (by kernel_rfl) ab (fun X c=>pN N X c.1.1 c.1.2.1 c.1.2.2.1) N)
noncomputable def eO (b0:List (Int)):Option Bool:=
 ne (getI b0 (0:Int)) fun (v2:Int)=>
 ne (bif (!(decide (v2=(83:Int)))) then
   some (true)
  else
   ne (getI b0 (1:Int)) fun (v3:Int)=>
   some ((cond false true (!(decide (v3=(61:Int))))))) fun (v3:Bool)=>
 bif v3 then
  some (false)
 else
  ne (bJ b0 (2:Int)) fun (v4:(List Int))=>
  ne (jO N ((v4,((((Dq v4):Nat):Int),((0:Int),()))),())) fun v5=>
  DP
   (fun (v6:((Bool×Unit)×Unit))=>
   some (v6.1.1))
   (fun (v6:(Unit×Unit))=>
   some (true)) v5
theorem sz (b0:List (Int)):(runK Do (ant N) 400 141 [(.sl (.int .u8))] [.bool] (b0,())).run=eO N b0:=by kernel_rfl
noncomputable def ans:(R:Type)→Env R:=Du (ant N) 141 (fun R=>fnK [(.sl (.int .u8))] [.bool] (fun c=>eO N c.1))
theorem aaZ (R:Type):EnvOK Do (ans N R):=Dt hmx (aa0 N R) (aa0 N _) (by kernel_rfl) (fun c=>sz N c.1)
noncomputable def iR (b0:List (Int)):Option (List UInt8×Int):=
 bif (decide ((((Dq b0):Nat):Int)<(42:Int))) then
  some (((Dr (Ds ([]:List UInt8))),(4:Int)))
 else
  ne (cL b0 (42:Int)) fun (v2:(List Int))=>
  ne (eO N v2) fun v3=>
  bif (!v3) then
   some (((Dr (Ds ([]:List UInt8))),(3:Int)))
  else
   ne (bif (decide ((42:Int)<(((Dq b0):Nat):Int))) then
     ne (getI b0 (42:Int)) fun (v4:Int)=>
     some ((cond false true (cond true (!(decide (v4=(32:Int)))) false)))
    else
     some ((cond false true false))) fun (v4:Bool)=>
   bif v4 then
    some (((Dr (Ds ([]:List UInt8))),(3:Int)))
   else
    ne (cL b0 (42:Int)) fun (v5:(List Int))=>
    ne (@toBy v5) fun (v6:(List UInt8))=>
    some ((v6,(0:Int)))
theorem AH (b0:List (Int)):(runK Do (ans N) 400 106 [(.sl (.int .u8))] [.str,(.int .i64)] (b0,())).run=iR N b0:=by kernel_rfl
noncomputable def arq:(R:Type)→Env R:=Du (ans N) 106 (fun R=>fnK [(.sl (.int .u8))] [.str,(.int .i64)] (fun c=>iR N c.1))
theorem aj3 (R:Type):EnvOK Do (arq N R):=Dt hmx (aaZ N R) (aaZ N _) (by kernel_rfl) (fun c=>AH N c.1)
noncomputable def arp:(R:Type)→Env R:=DE (arq N) [(63,0)]
theorem aj2 (R:Type):EnvOK Do (arp N R):=DA (aj3 N R) [(63,0)]
noncomputable def anr:(R:Type)→Env R:=Du (arp N) 99 (fun R=>itK)
theorem aaY (R:Type):EnvOK Do (anr N R):=DO (aj2 N R) ase
noncomputable def fC (f0:Int×(Bool×((Arr Int 16)×(List UInt8)))):Option ((List Int)×Int):=
 ne (bif (decide (f0.1<(0:Int))) then
   some (true)
  else
   some ((cond false true (decide ((9999:Int)<f0.1))))) fun (v2:Bool)=>
 bif v2 then
  some ((([]:List Int),(1:Int)))
 else
  ne (iT N f0.2.2.2) fun v3=>
  bif (!v3) then
   some ((([]:List Int),(3:Int)))
  else
   bif f0.2.1 then
    bif (decide ((-9223372036854775808:Int)≤f0.1∧f0.1≤(9223372036854775807:Int))) then
     bif (decide (((Dq (Dr (Ds ([69,61]:List UInt8))))+(Dq (@DF f0.1)))≤maxLen)) then
      bif (decide (((Dq ((Dr (Ds ([69,61]:List UInt8)))++(@DF f0.1)))+(Dq (Dr (Ds ([32,82,61]:List UInt8)))))≤maxLen)) then
       bif (decide (((Dq (((Dr (Ds ([69,61]:List UInt8)))++(@DF f0.1))++(Dr (Ds ([32,82,61]:List UInt8)))))+(Dq (Dr (Ds ([49]:List UInt8)))))≤maxLen)) then
        bif (decide (((Dq ((((Dr (Ds ([69,61]:List UInt8)))++(@DF f0.1))++(Dr (Ds ([32,82,61]:List UInt8))))++(Dr (Ds ([49]:List UInt8)))))+(Dq (Dr (Ds ([32,67,61]:List UInt8)))))≤maxLen)) then
         ne (j6 N f0.2.2.1.l) fun v4=>
         bif (decide (((Dq (((((Dr (Ds ([69,61]:List UInt8)))++(@DF f0.1))++(Dr (Ds ([32,82,61]:List UInt8))))++(Dr (Ds ([49]:List UInt8))))++(Dr (Ds ([32,67,61]:List UInt8)))))+(Dq v4))≤maxLen)) then
          bif (decide (((Dq ((((((Dr (Ds ([69,61]:List UInt8)))++(@DF f0.1))++(Dr (Ds ([32,82,61]:List UInt8))))++(Dr (Ds ([49]:List UInt8))))++(Dr (Ds ([32,67,61]:List UInt8))))++v4))+(Dq (Dr (Ds ([32,86,61,51,32,77,61]:List UInt8)))))≤maxLen)) then
           bif (decide (((Dq (((((((Dr (Ds ([69,61]:List UInt8)))++(@DF f0.1))++(Dr (Ds ([32,82,61]:List UInt8))))++(Dr (Ds ([49]:List UInt8))))++(Dr (Ds ([32,67,61]:List UInt8))))++v4)++(Dr (Ds ([32,86,61,51,32,77,61]:List UInt8)))))+(Dq f0.2.2.2))≤maxLen)) then
            bif (ae (Dq ((((((((Dr (Ds ([69,61]:List UInt8)))++(@DF f0.1))++(Dr (Ds ([32,82,61]:List UInt8))))++(Dr (Ds ([49]:List UInt8))))++(Dr (Ds ([32,67,61]:List UInt8))))++v4)++(Dr (Ds ([32,86,61,51,32,77,61]:List UInt8))))++f0.2.2.2)) 1) then
             some (((@ofB ((((((((Dr (Ds ([69,61]:List UInt8)))++(@DF f0.1))++(Dr (Ds ([32,82,61]:List UInt8))))++(Dr (Ds ([49]:List UInt8))))++(Dr (Ds ([32,67,61]:List UInt8))))++v4)++(Dr (Ds ([32,86,61,51,32,77,61]:List UInt8))))++f0.2.2.2)),(0:Int)))
            else
             none
           else
            none
          else
           none
         else
          none
        else
         none
       else
        none
      else
       none
     else
      none
    else
     none
   else
    bif (decide ((-9223372036854775808:Int)≤f0.1∧f0.1≤(9223372036854775807:Int))) then
     bif (decide (((Dq (Dr (Ds ([69,61]:List UInt8))))+(Dq (@DF f0.1)))≤maxLen)) then
      bif (decide (((Dq ((Dr (Ds ([69,61]:List UInt8)))++(@DF f0.1)))+(Dq (Dr (Ds ([32,82,61]:List UInt8)))))≤maxLen)) then
       bif (decide (((Dq (((Dr (Ds ([69,61]:List UInt8)))++(@DF f0.1))++(Dr (Ds ([32,82,61]:List UInt8)))))+(Dq (Dr (Ds ([48]:List UInt8)))))≤maxLen)) then
        bif (decide (((Dq ((((Dr (Ds ([69,61]:List UInt8)))++(@DF f0.1))++(Dr (Ds ([32,82,61]:List UInt8))))++(Dr (Ds ([48]:List UInt8)))))+(Dq (Dr (Ds ([32,67,61]:List UInt8)))))≤maxLen)) then
         ne (j6 N f0.2.2.1.l) fun v4=>
         bif (decide (((Dq (((((Dr (Ds ([69,61]:List UInt8)))++(@DF f0.1))++(Dr (Ds ([32,82,61]:List UInt8))))++(Dr (Ds ([48]:List UInt8))))++(Dr (Ds ([32,67,61]:List UInt8)))))+(Dq v4))≤maxLen)) then
          bif (decide (((Dq ((((((Dr (Ds ([69,61]:List UInt8)))++(@DF f0.1))++(Dr (Ds ([32,82,61]:List UInt8))))++(Dr (Ds ([48]:List UInt8))))++(Dr (Ds ([32,67,61]:List UInt8))))++v4))+(Dq (Dr (Ds ([32,86,61,51,32,77,61]:List UInt8)))))≤maxLen)) then
           bif (decide (((Dq (((((((Dr (Ds ([69,61]:List UInt8)))++(@DF f0.1))++(Dr (Ds ([32,82,61]:List UInt8))))++(Dr (Ds ([48]:List UInt8))))++(Dr (Ds ([32,67,61]:List UInt8))))++v4)++(Dr (Ds ([32,86,61,51,32,77,61]:List UInt8)))))+(Dq f0.2.2.2))≤maxLen)) then
            bif (ae (Dq ((((((((Dr (Ds ([69,61]:List UInt8)))++(@DF f0.1))++(Dr (Ds ([32,82,61]:List UInt8))))++(Dr (Ds ([48]:List UInt8))))++(Dr (Ds ([32,67,61]:List UInt8))))++v4)++(Dr (Ds ([32,86,61,51,32,77,61]:List UInt8))))++f0.2.2.2)) 1) then
             some (((@ofB ((((((((Dr (Ds ([69,61]:List UInt8)))++(@DF f0.1))++(Dr (Ds ([32,82,61]:List UInt8))))++(Dr (Ds ([48]:List UInt8))))++(Dr (Ds ([32,67,61]:List UInt8))))++v4)++(Dr (Ds ([32,86,61,51,32,77,61]:List UInt8))))++f0.2.2.2)),(0:Int)))
            else
             none
           else
            none
          else
           none
         else
          none
        else
         none
       else
        none
      else
       none
     else
      none
    else
     none
theorem AJ (f0:Int×(Bool×((Arr Int 16)×(List UInt8)))):(runK Do (anr N) 400 63 [qz3] [(.sl (.int .u8)),(.int .i64)] (f0,())).run=fC N f0:=by kernel_rfl
noncomputable def aro:(R:Type)→Env R:=Du (anr N) 63 (fun R=>fnK [qz3] [(.sl (.int .u8)),(.int .i64)] (fun c=>fC N c.1))
theorem aj1 (R:Type):EnvOK Do (aro N R):=Dt hmx (aaY N R) (aaY N _) (by kernel_rfl) (fun c=>AJ N c.1)
noncomputable def arn:(R:Type)→Env R:=Du (aro N) 143 (fun R=>tpK)
theorem aj0 (R:Type):EnvOK Do (arn N R):=DO (aj1 N R) arX
noncomputable def arm:(R:Type)→Env R:=Du (arn N) 142 (fun R=>ctK)
theorem ajZ (R:Type):EnvOK Do (arm N R):=DO (aj0 N R) asq
noncomputable def arl:(R:Type)→Env R:=Du (arm N) 144 (fun R=>uhK)
theorem ajY (R:Type):EnvOK Do (arl N R):=DO (ajZ N R) arV
noncomputable def anq:(R:Type)→Env R:=Du (arl N) 145 (fun R=>atK)
theorem aaX (R:Type):EnvOK Do (anq N R):=DO (ajY N R) asu
noncomputable def en (b0:List (Int)):Option ((Int×(Bool×((Arr Int 16)×(List UInt8))))×Int):=
 ne (@toBy b0) fun (v2:(List UInt8))=>
 bif (decide ((Dq (@DD v2 (Dr (Ds ([69,61]:List UInt8)))))≤(1000000:Nat))) then
  bif (decide ((Dq (@DC (@DD v2 (Dr (Ds ([69,61]:List UInt8)))) (Dr (Ds ([32,82,61]:List UInt8)))).2.1)≤(1000000:Nat))) then
   bif (decide ((Dq (@DC (@DC (@DD v2 (Dr (Ds ([69,61]:List UInt8)))) (Dr (Ds ([32,82,61]:List UInt8)))).2.1 (Dr (Ds ([32,67,61]:List UInt8)))).2.1)≤(1000000:Nat))) then
    bif (decide ((Dq (@DC (@DC (@DC (@DD v2 (Dr (Ds ([69,61]:List UInt8)))) (Dr (Ds ([32,82,61]:List UInt8)))).2.1 (Dr (Ds ([32,67,61]:List UInt8)))).2.1 (Dr (Ds ([32,86,61,51,32,77,61]:List UInt8)))).1)≤(1000000:Nat))) then
     bif (decide ((Dq (@DC (@DD v2 (Dr (Ds ([69,61]:List UInt8)))) (Dr (Ds ([32,82,61]:List UInt8)))).1)≤(281474976710656:Nat))) then
      DP
       (fun (v3:Int)=>
       ne (some ((cond false true (!(decide ((@oY (@DC (@DC (@DC (@DD v2 (Dr (Ds ([69,61]:List UInt8)))) (Dr (Ds ([32,82,61]:List UInt8)))).2.1 (Dr (Ds ([32,67,61]:List UInt8)))).2.1 (Dr (Ds ([32,86,61,51,32,77,61]:List UInt8)))).1)=(0:Int))))))) fun (v4:Bool)=>
       bif v4 then
        some ((((0:Int),(false,(zc16,(Dr (Ds ([]:List UInt8)))))),(3:Int)))
       else
        ne (some ((cond false true (!(decide ((((Dq (@eB (@DC (@DC (@DC (@DD v2 (Dr (Ds ([69,61]:List UInt8)))) (Dr (Ds ([32,82,61]:List UInt8)))).2.1 (Dr (Ds ([32,67,61]:List UInt8)))).2.1 (Dr (Ds ([32,86,61,51,32,77,61]:List UInt8)))).1)):Nat):Int)=(16:Int))))))) fun (v5:Bool)=>
        bif v5 then
         some ((((0:Int),(false,(zc16,(Dr (Ds ([]:List UInt8)))))),(3:Int)))
        else
         ne (@dA Int (16:Nat) (@eB (@DC (@DC (@DC (@DD v2 (Dr (Ds ([69,61]:List UInt8)))) (Dr (Ds ([32,82,61]:List UInt8)))).2.1 (Dr (Ds ([32,67,61]:List UInt8)))).2.1 (Dr (Ds ([32,86,61,51,32,77,61]:List UInt8)))).1)) fun (v6:(Arr Int 16))=>
         ne (fC N (v3,((decide ((@DC (@DC (@DD v2 (Dr (Ds ([69,61]:List UInt8)))) (Dr (Ds ([32,82,61]:List UInt8)))).2.1 (Dr (Ds ([32,67,61]:List UInt8)))).1=(Dr (Ds ([49]:List UInt8))))),(v6,(@DC (@DC (@DC (@DD v2 (Dr (Ds ([69,61]:List UInt8)))) (Dr (Ds ([32,82,61]:List UInt8)))).2.1 (Dr (Ds ([32,67,61]:List UInt8)))).2.1 (Dr (Ds ([32,86,61,51,32,77,61]:List UInt8)))).2.1)))) fun v7=>
         bif (!(decide (v7.2=(0:Int)))) then
          some ((((0:Int),(false,(zc16,(Dr (Ds ([]:List UInt8)))))),(3:Int)))
         else
          ne (fM N v7.1 b0) fun v8=>
          ne (some ((cond false true (!v8)))) fun (v9:Bool)=>
          bif v9 then
           some ((((0:Int),(false,(zc16,(Dr (Ds ([]:List UInt8)))))),(3:Int)))
          else
           some (((v3,((decide ((@DC (@DC (@DD v2 (Dr (Ds ([69,61]:List UInt8)))) (Dr (Ds ([32,82,61]:List UInt8)))).2.1 (Dr (Ds ([32,67,61]:List UInt8)))).1=(Dr (Ds ([49]:List UInt8))))),(v6,(@DC (@DC (@DC (@DD v2 (Dr (Ds ([69,61]:List UInt8)))) (Dr (Ds ([32,82,61]:List UInt8)))).2.1 (Dr (Ds ([32,67,61]:List UInt8)))).2.1 (Dr (Ds ([32,86,61,51,32,77,61]:List UInt8)))).2.1))),(0:Int))))
       (fun (v3:Int)=>
       some ((((0:Int),(false,(zc16,(Dr (Ds ([]:List UInt8)))))),(3:Int)))) (@atS (@DC (@DD v2 (Dr (Ds ([69,61]:List UInt8)))) (Dr (Ds ([32,82,61]:List UInt8)))).1)
     else
      none
    else
     none
   else
    none
  else
   none
 else
  none
theorem vG (b0:List (Int)):(runK Do (anq N) 400 107 [(.sl (.int .u8))] [qz3,(.int .i64)] (b0,())).run=en N b0:=by kernel_rfl
noncomputable def ark:(R:Type)→Env R:=Du (anq N) 107 (fun R=>fnK [(.sl (.int .u8))] [qz3,(.int .i64)] (fun c=>en N c.1))
theorem ajX (R:Type):EnvOK Do (ark N R):=Dt hmx (aaX N R) (aaX N _) (by kernel_rfl) (fun c=>vG N c.1)
noncomputable def anp:(R:Type)→Env R:=DE (ark N) [(34,0)]
theorem aaW (R:Type):EnvOK Do (anp N R):=DA (ajX N R) [(34,0)]
noncomputable def eD:LI:=⟨30,0,[],⟨[(6,.lit (.box 0 0)),(8,.lit (.box 1 0)),(9,.lit (.box 2 0)),(10,.ty (.int .i64))],[.box 80 (.arr 8 (.int .u8)),.box 110 (.arr 20 (.int .u8)),.box 80 (.arr 8 (.int .u8))]⟩,[(.exit 0,⟨[(6,.lit (.box 0 0)),(9,.lit (.box 1 0))],[.box 80 (.arr 8 (.int .u8)),.box 80 (.arr 8 (.int .u8))]⟩)]⟩
noncomputable def bX (N:Nat)(X:((Int×Unit)×((Arr Int 8)×((Arr Int 20)×((Arr Int 8)×Unit))))→Option ((Unit×((Arr Int 8)×((Arr Int 8)×Unit)))))(i10:Int)(h0:Arr Int 8)(h1:Arr Int 20)(h2:Arr Int 8):Option ((Unit×((Arr Int 8)×((Arr Int 8)×Unit)))):=
 bif (decide (i10<(8:Int))) then
  bif (decide ((0:Int)≤i10∧i10<((20:Nat):Int))) then
   ne (h1.l[Dv i10]?) fun (v6:Int)=>
   bif (decide ((0:Int)≤i10∧i10<((8:Nat):Int))) then
    ne (h2.l[Dv i10]?) fun (v7:Int)=>
    (X (((Dp .i64 (i10+1)),()),(h0,(h1,((h2.set (Dv i10) v6),())))))
   else
    none
  else
   none
 else
  some (((),(h0,(h2,()))))
noncomputable def iE (c:((Int×Unit)×((Arr Int 8)×((Arr Int 20)×((Arr Int 8)×Unit))))):Option ((Unit×((Arr Int 8)×((Arr Int 8)×Unit)))):=gl (fun X c=>bX N X c.1.1 c.2.1 c.2.2.1 c.2.2.2.1) N c
theorem oR (X:((Int×Unit)×((Arr Int 8)×((Arr Int 20)×((Arr Int 8)×Unit))))→Option ((Unit×((Arr Int 8)×((Arr Int 8)×Unit)))))(i10:Int)(h0:Arr Int 8)(h1:Arr Int 20)(h2:Arr Int 8):(am Do (anp N) 400 [34] eD (ak Do [34] 5) X ((i10,()),(h0,h1,h2,()))).run=bX N X i10 h0 h1 h2:=by kernel_rfl
noncomputable def ano:(R:Type)→Env R:=Dx (anp N) [34] 0 5 (fun R=>lpK Do eD (fun X c=>bX N X c.1.1 c.2.1 c.2.2.1 c.2.2.2.1) N)
theorem aaV (R:Type):EnvOK Do (ano N R):=Dw (aaW N R) (by kernel_rfl) (aq (li:=eD) hmx (aaW N _) (by kernel_rfl) ab (fun X c=>oR N X c.1.1 c.2.1 c.2.2.1 c.2.2.2.1) N)
noncomputable def ef (peer0:Arr Int 16)(auth1:Arr Int 16)(name2:List UInt8):Option (Arr Int 8):=
 bif (ae (Dq peer0.l) 1) then
  bif (ae ((Dq peer0.l)+(Dq auth1.l)) 1) then
   ne (lg N name2) fun v4=>
   bif (ae ((Dq (peer0.l++auth1.l))+(Dq v4)) 1) then
    ne (oF N ((peer0.l++auth1.l)++(@ofB v4))) fun v5=>
    ne (iE N (((0:Int),()),((@DB Int 7 0 (@DB Int 6 0 (@DB Int 5 0 (@DB Int 4 0 (@DB Int 3 0 (@DB Int 2 0 (@DB Int 1 0 (@DB Int 0 0 (@Arr.nil Int))))))))),(v5,((@DB Int 7 0 (@DB Int 6 0 (@DB Int 5 0 (@DB Int 4 0 (@DB Int 3 0 (@DB Int 2 0 (@DB Int 1 0 (@DB Int 0 0 (@Arr.nil Int))))))))),()))))) fun v6=>
    some (v6.2.2.1)
   else
    none
  else
   none
 else
  none
theorem qT (peer0:Arr Int 16)(auth1:Arr Int 16)(name2:List UInt8):(runK Do (ano N) 400 34 [(.arr 16 (.int .u8)),(.arr 16 (.int .u8)),.str] [(.arr 8 (.int .u8))] (peer0,auth1,name2,())).run=ef N peer0 auth1 name2:=by kernel_rfl
noncomputable def arj:(R:Type)→Env R:=Du (ano N) 34 (fun R=>fnK [(.arr 16 (.int .u8)),(.arr 16 (.int .u8)),.str] [(.arr 8 (.int .u8))] (fun c=>ef N c.1 c.2.1 c.2.2.1))
theorem ajW (R:Type):EnvOK Do (arj N R):=Dt hmx (aaV N R) (aaV N _) (by kernel_rfl) (fun c=>qT N c.1 c.2.1 c.2.2.1)
noncomputable def ann:(R:Type)→Env R:=DE (arj N) [(33,0)]
theorem aaU (R:Type):EnvOK Do (ann N R):=DA (ajW N R) [(33,0)]
noncomputable def eV:LI:=⟨42,0,[],⟨[(2,.adr (.arr 8 (.int .u8))),(3,.adr (.arr 16 (.int .u8))),(4,.lit (.box 0 0)),(5,.lit (.box 1 0)),(6,.ty (.int .i64)),(7,.ty (.sl (.int .u8))),(9,.ty (.int .i64))],[.box 41 (.arr 24 (.int .u8)),.box 41 (.arr 24 (.int .u8))]⟩,[(.exit 2,⟨[(2,.adr (.arr 8 (.int .u8))),(3,.adr (.arr 16 (.int .u8))),(4,.lit (.box 0 0)),(5,.lit (.box 1 0)),(6,.ty (.int .i64))],[.box 41 (.arr 24 (.int .u8)),.box 41 (.arr 24 (.int .u8))]⟩)]⟩
noncomputable def ct (N:Nat)(X:(((Arr Int 8)×((Arr Int 16)×(Int×pz8)))×((Arr Int 24)×((Arr Int 24)×Unit)))→Option (pz18))(c2:Arr Int 8)(h3:Arr Int 16)(n6:Int)(b7:List (Int))(i9:Int)(h0:Arr Int 24)(h1:Arr Int 24):Option (pz18):=
 bif (decide (i9<(8:Int))) then
  ne (some ((cond true (decide (i9<(((Dq b7):Nat):Int))) false))) fun (v9:Bool)=>
  bif v9 then
   ne (getI b7 i9) fun (v10:Int)=>
   bif (decide ((0:Int)≤(Dp .i64 ((Dp .i64 ((8:Int)*n6))+i9))∧(Dp .i64 ((Dp .i64 ((8:Int)*n6))+i9))<((24:Nat):Int))) then
    ne (h1.l[Dv (Dp .i64 ((Dp .i64 ((8:Int)*n6))+i9))]?) fun (v11:Int)=>
    (X ((c2,(h3,(n6,(b7,((Dp .i64 (i9+1)),()))))),(h0,((h1.set (Dv (Dp .i64 ((Dp .i64 ((8:Int)*n6))+i9))) v10),()))))
   else
    none
  else
   some (((c2,(h3,(n6,()))),(h0,(h1,()))))
 else
  some (((c2,(h3,(n6,()))),(h0,(h1,()))))
noncomputable def jd (c:(((Arr Int 8)×((Arr Int 16)×(Int×pz8)))×((Arr Int 24)×((Arr Int 24)×Unit)))):Option (pz18):=gl (fun X c=>ct N X c.1.1 c.1.2.1 c.1.2.2.1 c.1.2.2.2.1 c.1.2.2.2.2.1 c.2.1 c.2.2.1) N c
theorem pr (X:(((Arr Int 8)×((Arr Int 16)×(Int×pz8)))×((Arr Int 24)×((Arr Int 24)×Unit)))→Option (pz18))(c2:Arr Int 8)(h3:Arr Int 16)(n6:Int)(b7:List (Int))(i9:Int)(h0:Arr Int 24)(h1:Arr Int 24):(am Do (ann N) 400 [33] eV (ak Do [33] 7) X ((c2,h3,n6,b7,i9,()),(h0,h1,()))).run=ct N X c2 h3 n6 b7 i9 h0 h1:=by kernel_rfl
noncomputable def anm:(R:Type)→Env R:=Dx (ann N) [33] 0 7 (fun R=>lpK Do eV (fun X c=>ct N X c.1.1 c.1.2.1 c.1.2.2.1 c.1.2.2.2.1 c.1.2.2.2.2.1 c.2.1 c.2.2.1) N)
theorem aaT (R:Type):EnvOK Do (anm N R):=Dw (aaU N R) (by kernel_rfl) (aq (li:=eV) hmx (aaU N _) (by kernel_rfl) ab (fun X c=>pr N X c.1.1 c.1.2.1 c.1.2.2.1 c.1.2.2.2.1 c.1.2.2.2.2.1 c.2.1 c.2.2.1) N)
noncomputable def eW:LI:=⟨42,0,[],⟨[(2,.adr (.arr 8 (.int .u8))),(3,.adr (.arr 16 (.int .u8))),(4,.lit (.box 0 0)),(5,.lit (.box 1 0)),(6,.ty (.int .i64))],[.box 41 (.arr 24 (.int .u8)),.box 41 (.arr 24 (.int .u8))]⟩,[(.exit 0,⟨[(4,.lit (.box 0 0)),(5,.lit (.box 1 0))],[.box 41 (.arr 24 (.int .u8)),.box 41 (.arr 24 (.int .u8))]⟩)]⟩
noncomputable def bq (X:pz18→Option ((Unit×((Arr Int 24)×((Arr Int 24)×Unit)))))(c2:Arr Int 8)(h3:Arr Int 16)(n6:Int)(h0:Arr Int 24)(h1:Arr Int 24):Option ((Unit×((Arr Int 24)×((Arr Int 24)×Unit)))):=
 bif (decide (n6<(3:Int))) then
  ne (cy N h3 n6) fun v7=>
  ne (jm N v7 c2.l) fun v8=>
  ne (jd N ((c2,(h3,(n6,(v8.1,((0:Int),()))))),(h0,(h1,())))) fun v9=>
  (X ((v9.1.1,(v9.1.2.1,((Dp .i64 (v9.1.2.2.1+1)),()))),(v9.2.1,(v9.2.2.1,()))))
 else
  some (((),(h0,(h1,()))))
noncomputable def je (c:pz18):Option ((Unit×((Arr Int 24)×((Arr Int 24)×Unit)))):=gl (fun X c=>bq N X c.1.1 c.1.2.1 c.1.2.2.1 c.2.1 c.2.2.1) N c
theorem pt (X:pz18→Option ((Unit×((Arr Int 24)×((Arr Int 24)×Unit)))))(c2:Arr Int 8)(h3:Arr Int 16)(n6:Int)(h0:Arr Int 24)(h1:Arr Int 24):(am Do (anm N) 400 [33] eW (ak Do [33] 3) X ((c2,h3,n6,()),(h0,h1,()))).run=bq N X c2 h3 n6 h0 h1:=by kernel_rfl
noncomputable def anl:(R:Type)→Env R:=Dx (anm N) [33] 0 3 (fun R=>lpK Do eW (fun X c=>bq N X c.1.1 c.1.2.1 c.1.2.2.1 c.2.1 c.2.2.1) N)
theorem aaS (R:Type):EnvOK Do (anl N R):=Dw (aaT N R) (by kernel_rfl) (aq (li:=eW) hmx (aaT N _) (by kernel_rfl) ab (fun X c=>pt N X c.1.1 c.1.2.1 c.1.2.2.1 c.2.1 c.2.2.1) N)
noncomputable def eJ (c0:Arr Int 8)(h1:Arr Int 16):Option (Arr Int 24):=
 ne (je N ((c0,(h1,((0:Int),()))),(zc24,(zc24,())))) fun v3=>
 some (v3.2.2.1)
theorem si (c0:Arr Int 8)(h1:Arr Int 16):(runK Do (anl N) 400 33 [(.arr 8 (.int .u8)),(.arr 16 (.int .u8))] [(.arr 24 (.int .u8))] (c0,h1,())).run=eJ N c0 h1:=by kernel_rfl
noncomputable def ari:(R:Type)→Env R:=Du (anl N) 33 (fun R=>fnK [(.arr 8 (.int .u8)),(.arr 16 (.int .u8))] [(.arr 24 (.int .u8))] (fun c=>eJ N c.1 c.2.1))
theorem ajV (R:Type):EnvOK Do (ari N R):=Dt hmx (aaS N R) (aaS N _) (by kernel_rfl) (fun c=>si N c.1 c.2.1)
noncomputable def ank:(R:Type)→Env R:=DE (ari N) [(9,0)]
theorem aaR (R:Type):EnvOK Do (ank N R):=DA (ajV N R) [(9,0)]
noncomputable def cx (peer0:Arr Int 16)(auth1:Arr Int 16)(name2:List UInt8)(password3:List UInt8):Option ((Arr Int 24)×Int):=
 ne (pW N password3) fun v5=>
 bif (!(decide (v5.2=(0:Int)))) then
  some ((zc24,v5.2))
 else
  ne (ef N peer0 auth1 name2) fun v6=>
  ne (eJ N v6 v5.1) fun v7=>
  some ((v7,(0:Int)))
theorem xp (peer0:Arr Int 16)(auth1:Arr Int 16)(name2:List UInt8)(password3:List UInt8):(runK Do (ank N) 400 9 [(.arr 16 (.int .u8)),(.arr 16 (.int .u8)),.str,.str] [(.arr 24 (.int .u8)),(.int .i64)] (peer0,auth1,name2,password3,())).run=cx N peer0 auth1 name2 password3:=by kernel_rfl
noncomputable def arh:(R:Type)→Env R:=Du (ank N) 9 (fun R=>fnK [(.arr 16 (.int .u8)),(.arr 16 (.int .u8)),.str,.str] [(.arr 24 (.int .u8)),(.int .i64)] (fun c=>cx N c.1 c.2.1 c.2.2.1 c.2.2.2.1))
theorem ajU (R:Type):EnvOK Do (arh N R):=Dt hmx (aaR N R) (aaR N _) (by kernel_rfl) (fun c=>xp N c.1 c.2.1 c.2.2.1 c.2.2.2.1)
noncomputable def arg:(R:Type)→Env R:=DE (arh N) [(140,0)]
theorem ajT (R:Type):EnvOK Do (arg N R):=DA (ajU N R) [(140,0)]
noncomputable def anj:(R:Type)→Env R:=Du (arg N) 172 (fun R=>repK)
theorem aaQ (R:Type):EnvOK Do (anj N R):=DO (ajT N R) apW
noncomputable def j7 (master0:Arr Int 16)(sentence1:List UInt8):Option (Arr Int 16):=
 bif (ae (Dq sentence1) 1) then
  ne (fH N ([master0.l,(@DI Int (Dv (40:Int)) (0:Int)),(@ofB sentence1),(@DI Int (40:Nat) (242:Int))]:List ((List Int)))) fun v3=>
  ne (cL v3.l (16:Int)) fun (v4:(List Int))=>
  ne (@dA Int (16:Nat) v4) fun (v5:(Arr Int 16))=>
  some (v5)
 else
  none
theorem ady (master0:Arr Int 16)(sentence1:List UInt8):(runK Do (anj N) 400 140 [(.arr 16 (.int .u8)),.str] [(.arr 16 (.int .u8))] (master0,sentence1,())).run=j7 N master0 sentence1:=by kernel_rfl
noncomputable def arf:(R:Type)→Env R:=Du (anj N) 140 (fun R=>fnK [(.arr 16 (.int .u8)),.str] [(.arr 16 (.int .u8))] (fun c=>j7 N c.1 c.2.1))
theorem ajS (R:Type):EnvOK Do (arf N R):=Dt hmx (aaQ N R) (aaQ N _) (by kernel_rfl) (fun c=>ady N c.1 c.2.1)
noncomputable def ani:(R:Type)→Env R:=DE (arf N) [(102,0)]
theorem aaP (R:Type):EnvOK Do (ani N R):=DA (ajS N R) [(102,0)]
noncomputable def rj (master0:Arr Int 16)(server1:Bool):Option ((Arr Int 16)×(Arr Int 16)):=
 ne (j7 N master0 (Dr (Ds (@DL UInt8 ([79,110,32,116,104,101,32,99,108,105,101,110,116,32,115,105,100,101,44,32,116,104,105,115,32,105,115,32,116,104,101,32,115,101,110,100,32,107,101,121,59,32]:List UInt8) ([111,110,32,116,104,101,32,115,101,114,118,101,114,32,115,105,100,101,44,32,105,116,32,105,115,32,116,104,101,32,114,101,99,101,105,118,101,32,107,101,121,46]:List UInt8))))) fun v3=>
 ne (j7 N master0 (Dr (Ds (@DL UInt8 ([79,110,32,116,104,101,32,99,108,105,101,110,116,32,115,105,100,101,44,32,116,104,105,115,32,105,115,32,116,104,101,32,114,101,99,101,105,118,101,32,107,101]:List UInt8) ([121,59,32,111,110,32,116,104,101,32,115,101,114,118,101,114,32,115,105,100,101,44,32,105,116,32,105,115,32,116,104,101,32,115,101,110,100,32,107,101,121,46]:List UInt8))))) fun v4=>
 bif server1 then
  some ((v4,v3))
 else
  some ((v3,v4))
theorem afk (master0:Arr Int 16)(server1:Bool):(runK Do (ani N) 400 102 [(.arr 16 (.int .u8)),.bool] [qz4] (master0,server1,())).run=rj N master0 server1:=by kernel_rfl
noncomputable def ard:(R:Type)→Env R:=Du (ani N) 102 (fun R=>fnK [(.arr 16 (.int .u8)),.bool] [qz4] (fun c=>rj N c.1 c.2.1))
theorem ajR (R:Type):EnvOK Do (ard N R):=Dt hmx (aaP N R) (aaP N _) (by kernel_rfl) (fun c=>afk N c.1 c.2.1)
noncomputable def anh:(R:Type)→Env R:=DE (ard N) [(101,0)]
theorem aaO (R:Type):EnvOK Do (anh N R):=DA (ajR N R) [(101,0)]
noncomputable def lD (k0:(Arr Int 16)×(Arr Int 16))(server1:Bool):Option (Arr Int 32):=
 bif server1 then
  ne (eK N ([k0.2.l,k0.1.l]:List ((List Int)))) fun v3=>
  ne (@dA Int (32:Nat) v3) fun (v4:(Arr Int 32))=>
  some (v4)
 else
  ne (eK N ([k0.1.l,k0.2.l]:List ((List Int)))) fun v3=>
  ne (@dA Int (32:Nat) v3) fun (v4:(Arr Int 32))=>
  some (v4)
theorem Aa (k0:(Arr Int 16)×(Arr Int 16))(server1:Bool):(runK Do (anh N) 400 101 [qz4,.bool] [(.arr 32 (.int .u8))] (k0,server1,())).run=lD N k0 server1:=by kernel_rfl
noncomputable def arc:(R:Type)→Env R:=Du (anh N) 101 (fun R=>fnK [qz4,.bool] [(.arr 32 (.int .u8))] (fun c=>lD N c.1 c.2.1))
theorem ajQ (R:Type):EnvOK Do (arc N R):=Dt hmx (aaO N R) (aaO N _) (by kernel_rfl) (fun c=>Aa N c.1 c.2.1)
noncomputable def ang:(R:Type)→Env R:=DE (arc N) [(64,0)]
theorem aaN (R:Type):EnvOK Do (ang N R):=DA (ajQ N R) [(64,0)]
noncomputable def dP (h0:Arr Int 16)(response1:Arr Int 24)(server2:Bool):Option (Arr Int 32):=
 ne (gK N h0 response1) fun v4=>
 ne (rj N v4 server2) fun v5=>
 ne (lD N v5 server2) fun v6=>
 some (v6)
theorem BH (h0:Arr Int 16)(response1:Arr Int 24)(server2:Bool):(runK Do (ang N) 400 64 [(.arr 16 (.int .u8)),(.arr 24 (.int .u8)),.bool] [(.arr 32 (.int .u8))] (h0,response1,server2,())).run=dP N h0 response1 server2:=by kernel_rfl
noncomputable def anf:(R:Type)→Env R:=Du (ang N) 64 (fun R=>fnK [(.arr 16 (.int .u8)),(.arr 24 (.int .u8)),.bool] [(.arr 32 (.int .u8))] (fun c=>dP N c.1 c.2.1 c.2.2.1))
theorem aaM (R:Type):EnvOK Do (anf N R):=Dt hmx (aaN N R) (aaN N _) (by kernel_rfl) (fun c=>BH N c.1 c.2.1 c.2.2.1)
noncomputable def lO (code0:Int)(id1:Int)(value2:List (Int))(name3:List UInt8):Option pz4:=
 ne (cL value2 (@minI (((Dq value2):Nat):Int) (255:Int))) fun (v5:(List Int))=>
 bif (ae (Dq name3) 1) then
  ne (eK N ([([(Dp .u8 (((Dq v5):Nat):Int))]:List (Int)),v5,(@ofB name3)]:List ((List Int)))) fun v6=>
  some ((code0,(id1,v6)))
 else
  none
theorem Ci (code0:Int)(id1:Int)(value2:List (Int))(name3:List UInt8):(runK Do (anf N) 400 29 [(.int .u8),(.int .u8),(.sl (.int .u8)),.str] [qz2] (code0,id1,value2,name3,())).run=lO N code0 id1 value2 name3:=by kernel_rfl
noncomputable def arb:(R:Type)→Env R:=Du (anf N) 29 (fun R=>fnK [(.int .u8),(.int .u8),(.sl (.int .u8)),.str] [qz2] (fun c=>lO N c.1 c.2.1 c.2.2.1 c.2.2.2.1))
theorem ajP (R:Type):EnvOK Do (arb N R):=Dt hmx (aaM N R) (aaM N _) (by kernel_rfl) (fun c=>Ci N c.1 c.2.1 c.2.2.1 c.2.2.2.1)
noncomputable def ahQ:(R:Type)→Env R:=DE (arb N) [(60,0)]
theorem aaL (R:Type):EnvOK Do (ahQ N R):=DA (ajP N R) [(60,0)]
noncomputable def cP (N:Nat)(s0:List (Int)):Option (List Int):=
 bif (@List.isEmpty Int s0) then
  none
 else
  bif (ae (Dq s0) 1) then
   some (s0)
  else
   none
theorem iX (s0:List (Int)):(runK Do (ahQ N) 400 95 [(.sl (.int .u8))] [(.sl (.int .u8))] (s0,())).run=cP N s0:=by kernel_rfl
theorem kj (c:Nat):(runV Do (ahQ N) 400 95 [.c (.slice none 0 c)] [(.sl (.int .u8))]).run=some []:=by kernel_rfl
theorem ki (A:Addr)(c:Nat):(runV Do (ahQ N) 400 95 [.c (.slice (some A) 0 c)] [(.sl (.int .u8))]).run=some []:=by kernel_rfl
noncomputable def cC (s0:List (Int)):Option (List Int):=bif s0.isEmpty then some [] else cP N s0
noncomputable def ane:(R:Type)→Env R:=Du (ahQ N) 95 (fun R=>fnK [(.sl (.int .u8))] [(.sl (.int .u8))] (fun c=>cC N c.1))
theorem aaK (R:Type):EnvOK Do (ane N R):=EnvOK.addNil hmx (aaL N R) (aaL N _) (by kernel_rfl) (fun c=>iX N c.1) (kj N) (ki N)
noncomputable def fa (c0:Int×(Int×(List Int))):Option ((List Int)×List UInt8×Int):=
 bif (decide ((((Dq c0.2.2):Nat):Int)=(0:Int))) then
  some ((([]:List Int),((Dr (Ds ([]:List UInt8))),(4:Int))))
 else
  ne (getI c0.2.2 (0:Int)) fun (v2:Int)=>
  bif (cond false true (decide ((Dp .i64 ((((Dq c0.2.2):Nat):Int)-1))<(Dp .i64 v2)))) then
   some ((([]:List Int),((Dr (Ds ([]:List UInt8))),(4:Int))))
  else
   ne (getI c0.2.2 (0:Int)) fun (v3:Int)=>
   ne (subI c0.2.2 (1:Int) (Dp .i64 ((1:Int)+(Dp .i64 v3)))) fun (v4:(List Int))=>
   ne (cC N v4) fun v5=>
   ne (bJ c0.2.2 (Dp .i64 ((1:Int)+(Dp .i64 v3)))) fun (v6:(List Int))=>
   ne (@toBy v6) fun (v7:(List UInt8))=>
   some ((v5,(v7,(0:Int))))
theorem yB (c0:Int×(Int×(List Int))):(runK Do (ane N) 400 60 [qz2] [(.sl (.int .u8)),.str,(.int .i64)] (c0,())).run=fa N c0:=by kernel_rfl
noncomputable def anc:(R:Type)→Env R:=Du (ane N) 60 (fun R=>fnK [qz2] [(.sl (.int .u8)),.str,(.int .i64)] (fun c=>fa N c.1))
theorem aaJ (R:Type):EnvOK Do (anc N R):=Dt hmx (aaK N R) (aaK N _) (by kernel_rfl) (fun c=>yB N c.1)
noncomputable def a8:LI:=⟨21,2,[],⟨[(1,.lit (.clo 138 [.box 1 0])),(4,.lit (.box 2 0)),(9,.ty (.sl (.pair .str .str))),(10,.ty (.int .i64)),(11,.ty (.int .i64))],[.box 71 (.pair .str .str),.box 9 .str,.box 71 (.pair .str .str)]⟩,[(.ret,⟨[(4,.lit (.box 2 0)),(5,.ty .bool)],[.box 71 (.pair .str .str),.box 9 .str,.box 71 (.pair .str .str)]⟩),(.exit 0,⟨[(4,.lit (.box 2 0))],[.box 71 (.pair .str .str),.box 9 .str,.box 71 (.pair .str .str)]⟩)]⟩
noncomputable def ap (X:(((List pz6)×(Int×(Int×Unit)))×(pz6×pz31))→Option ((((Bool×Unit)×(pz6×pz31)) ⊕ (Unit×(pz6×pz31)))))(x9:List pz6)(x10:Int)(x11:Int)(h0:List UInt8×(List UInt8))(h1:List UInt8)(h2:List UInt8×(List UInt8)):Option ((((Bool×Unit)×(pz6×pz31)) ⊕ (Unit×(pz6×pz31)))):=
 bif (decide (x11<x10)) then
  ne (getI x9 x11) fun (v8:pz6)=>
  ne (gj N v8.1) fun v9=>
  bif (decide (v9=h1)) then
   some ((.inl ((true,()),(h0,(h1,(v8,()))))))
  else
   (X ((x9,(x10,((Dp .i64 (x11+1)),()))),(h0,(h1,(h2,())))))
 else
  some ((.inr ((),(h0,(h1,(h2,()))))))
noncomputable def bR (c:(((List pz6)×(Int×(Int×Unit)))×(pz6×pz31))):Option ((((Bool×Unit)×(pz6×pz31)) ⊕ (Unit×(pz6×pz31)))):=gl (fun X c=>ap N X c.1.1 c.1.2.1 c.1.2.2.1 c.2.1 c.2.2.1 c.2.2.2.1) N c
theorem ec (X:(((List pz6)×(Int×(Int×Unit)))×(pz6×pz31))→Option ((((Bool×Unit)×(pz6×pz31)) ⊕ (Unit×(pz6×pz31)))))(x9:List pz6)(x10:Int)(x11:Int)(h0:List UInt8×(List UInt8))(h1:List UInt8)(h2:List UInt8×(List UInt8)):(am Do (anc N) 400 [137,2,97] a8 (ak Do [137,2,97] 2) X ((x9,x10,x11,()),(h0,h1,h2,()))).run=ap N X x9 x10 x11 h0 h1 h2:=by kernel_rfl
noncomputable def anb:(R:Type)→Env R:=Dx (anc N) [137,2,97] 2 2 (fun R=>lpK Do a8 (fun X c=>ap N X c.1.1 c.1.2.1 c.1.2.2.1 c.2.1 c.2.2.1 c.2.2.2.1) N)
theorem aaI (R:Type):EnvOK Do (anb N R):=Dw (aaJ N R) (by kernel_rfl) (aq (li:=a8) hmx (aaJ N _) (by kernel_rfl) ab (fun X c=>ec N X c.1.1 c.1.2.1 c.1.2.2.1 c.2.1 c.2.2.1 c.2.2.2.1) N)
noncomputable def iQ (users0:List pz6)(name1:List UInt8):Option (pz6×Bool):=
 ne (gj N name1) fun v3=>
 ne (bR N ((users0,((((Dq users0):Nat):Int),((0:Int),()))),(((Dr (Ds ([]:List UInt8))),(Dr (Ds ([]:List UInt8)))),(v3,(((Dr (Ds ([]:List UInt8))),(Dr (Ds ([]:List UInt8)))),()))))) fun v4=>
 DP
  (fun (v5:((Bool×Unit)×(pz6×pz31)))=>
  some ((v5.2.2.2.1,v5.1.1)))
  (fun (v5:(Unit×(pz6×pz31)))=>
  some ((((Dr (Ds ([]:List UInt8))),(Dr (Ds ([]:List UInt8)))),false))) v4
theorem AF (users0:List pz6)(name1:List UInt8):(runK Do (anb N) 400 97 [(.sl (.pair .str .str)),.str] [(.pair .str .str),.bool] (users0,name1,())).run=iQ N users0 name1:=by kernel_rfl
noncomputable def ara:(R:Type)→Env R:=Du (anb N) 97 (fun R=>fnK [(.sl (.pair .str .str)),.str] [(.pair .str .str),.bool] (fun c=>iQ N c.1 c.2.1))
theorem ajO (R:Type):EnvOK Do (ara N R):=Dt hmx (aaI N R) (aaI N _) (by kernel_rfl) (fun c=>AF N c.1 c.2.1)
noncomputable def ana:(R:Type)→Env R:=DM (ara N) [(7,1)]
theorem aaH (R:Type):EnvOK Do (ana N R):=DK (ajO N R) [(7,1)]
noncomputable def AE (N:Nat)(name0:List UInt8)(users1:List pz6):Option (List UInt8×pz0):=
 bif (@List.isEmpty pz6 users1) then
  none
 else
  bif (ae ((Dq ([]:List (pz6)))+(Dq users1)) 32) then
   some ((name0,((([]:List (pz6))++users1),((0:Int),((0:Int),(zc16,((0:Int),((0:Int),(([]:List Int),((0:Int),((Dr (Ds ([]:List UInt8))),zc32)))))))))))
  else
   none
theorem Ch (name0:List UInt8)(users1:List pz6):(runK Do (ana N) 400 7 [.str,(.sl (.pair .str .str))] [qz0] (name0,users1,())).run=AE N name0 users1:=by kernel_rfl
noncomputable def am9:(R:Type)→Env R:=Du (ana N) 7 (fun R=>fnK [.str,(.sl (.pair .str .str))] [qz0] (fun c=>AE N c.1 c.2.1))
theorem aaG (R:Type):EnvOK Do (am9 N R):=Dt hmx (aaH N R) (aaH N _) (by kernel_rfl) (fun c=>Ch N c.1 c.2.1)
noncomputable def em (x0:List UInt8×pz0):Option ((List UInt8×pz0)×List pz4):=
 ne (lO N (1:Int) x0.2.2.2.1 x0.2.2.2.2.1.l x0.1) fun v2=>
 some (((x0.1,(x0.2.1,(x0.2.2.1,(x0.2.2.2.1,(x0.2.2.2.2.1,((Dp .i64 (x0.2.2.2.2.2.1+1)),((3:Int),x0.2.2.2.2.2.2.2))))))),([v2]:List (pz4))))
theorem rE (x0:List UInt8×pz0):(runK Do (am9 N) 400 35 [qz0] [qz0,(.sl qz2)] (x0,())).run=em N x0:=by kernel_rfl
noncomputable def aq9:(R:Type)→Env R:=Du (am9 N) 35 (fun R=>fnK [qz0] [qz0,(.sl qz2)] (fun c=>em N c.1))
theorem ajN (R:Type):EnvOK Do (aq9 N R):=Dt hmx (aaG N R) (aaG N _) (by kernel_rfl) (fun c=>rE N c.1)
noncomputable def ahO:(R:Type)→Env R:=DE (aq9 N) [(38,0)]
theorem aaF (R:Type):EnvOK Do (ahO N R):=DA (ajN N R) [(38,0)]
noncomputable def kP (N:Nat)(b0:List (Int)):Option (List Int):=
 bif (@List.isEmpty Int b0) then
  none
 else
  bif (ae (Dq b0) 1) then
   some (b0)
  else
   none
theorem sC (b0:List (Int)):(runK Do (ahO N) 400 67 [(.sl (.int .u8))] [(.sl (.int .u8))] (b0,())).run=kP N b0:=by kernel_rfl
theorem vJ (c:Nat):(runV Do (ahO N) 400 67 [.c (.slice none 0 c)] [(.sl (.int .u8))]).run=some []:=by kernel_rfl
theorem vI (A:Addr)(c:Nat):(runV Do (ahO N) 400 67 [.c (.slice (some A) 0 c)] [(.sl (.int .u8))]).run=some []:=by kernel_rfl
noncomputable def mP (b0:List (Int)):Option (List Int):=bif b0.isEmpty then some [] else kP N b0
noncomputable def am8:(R:Type)→Env R:=Du (ahO N) 67 (fun R=>fnK [(.sl (.int .u8))] [(.sl (.int .u8))] (fun c=>mP N c.1))
theorem aaE (R:Type):EnvOK Do (am8 N R):=EnvOK.addNil hmx (aaF N R) (aaF N _) (by kernel_rfl) (fun c=>sC N c.1) (vJ N) (vI N)
noncomputable def bI (x0:List UInt8×pz0):Option (List pz4):=
 bif (decide (x0.2.2.2.2.2.2.2.2.1=(0:Int))) then
  some (([]:List (pz4)))
 else
  ne (mP N x0.2.2.2.2.2.2.2.1) fun v2=>
  some (([(x0.2.2.2.2.2.2.2.2.1,(x0.2.2.2.1,v2))]:List (pz4)))
theorem qE (x0:List UInt8×pz0):(runK Do (am8 N) 400 38 [qz0] [(.sl qz2)] (x0,())).run=bI N x0:=by kernel_rfl
noncomputable def aq8:(R:Type)→Env R:=Du (am8 N) 38 (fun R=>fnK [qz0] [(.sl qz2)] (fun c=>bI N c.1))
theorem ajM (R:Type):EnvOK Do (aq8 N R):=Dt hmx (aaE N R) (aaE N _) (by kernel_rfl) (fun c=>qE N c.1)
noncomputable def am7:(R:Type)→Env R:=DE (aq8 N) [(62,0)]
theorem aaD (R:Type):EnvOK Do (am7 N R):=DA (ajM N R) [(62,0)]
noncomputable def cu (x0:List UInt8×pz0)(peer1:Arr Int 16)(response2:Arr Int 24)(name3:List UInt8):Option ((Arr Int 16)×Bool):=
 ne (iQ N x0.2.1 name3) fun v5=>
 bif (!v5.2) then
  some ((zc16,false))
 else
  ne (cN N v5.1.2) fun v6=>
  bif (!(decide (v6.2=(0:Int)))) then
   some ((zc16,false))
  else
   ne (aQ N peer1 x0.2.2.2.2.1 name3) fun v7=>
   ne (bB N v7 v6.1) fun v8=>
   ne (fM N v8.l response2.l) fun v9=>
   bif (!v9) then
    some ((zc16,false))
   else
    some ((v6.1,true))
theorem pG (x0:List UInt8×pz0)(peer1:Arr Int 16)(response2:Arr Int 24)(name3:List UInt8):(runK Do (am7 N) 400 62 [qz0,(.arr 16 (.int .u8)),(.arr 24 (.int .u8)),.str] [(.arr 16 (.int .u8)),.bool] (x0,peer1,response2,name3,())).run=cu N x0 peer1 response2 name3:=by kernel_rfl
noncomputable def am6:(R:Type)→Env R:=Du (am7 N) 62 (fun R=>fnK [qz0,(.arr 16 (.int .u8)),(.arr 24 (.int .u8)),.str] [(.arr 16 (.int .u8)),.bool] (fun c=>cu N c.1 c.2.1 c.2.2.1 c.2.2.2.1))
theorem aaC (R:Type):EnvOK Do (am6 N R):=Dt hmx (aaD N R) (aaD N _) (by kernel_rfl) (fun c=>pG N c.1 c.2.1 c.2.2.1 c.2.2.2.1)
noncomputable def bw (x0:List UInt8×pz0)(c1:Int×(Int×(List Int))):Option ((List UInt8×pz0)×List pz4):=
 ne (fa N c1) fun v3=>
 bif (!(decide (v3.2.2=(0:Int)))) then
  some ((x0,([]:List (pz4))))
 else
  ne (gN N v3.1) fun v4=>
  bif (!(decide (v4.2.2=(0:Int)))) then
   some ((x0,([]:List (pz4))))
  else
   ne (cu N x0 v4.1 v4.2.1 v3.2.1) fun v5=>
   bif (!v5.2) then
    ne (fC N ((691:Int),(false,(x0.2.2.2.2.1,(Dr (Ds ([78,111]:List UInt8))))))) fun v6=>
    ne (bI N (x0.1,(x0.2.1,((3:Int),(x0.2.2.2.1,(x0.2.2.2.2.1,(x0.2.2.2.2.2.1,(x0.2.2.2.2.2.2.1,(v6.1,((4:Int),x0.2.2.2.2.2.2.2.2.2)))))))))) fun v7=>
    some (((x0.1,(x0.2.1,((3:Int),(x0.2.2.2.1,(x0.2.2.2.2.1,(x0.2.2.2.2.2.1,(x0.2.2.2.2.2.2.1,(v6.1,((4:Int),x0.2.2.2.2.2.2.2.2.2))))))))),v7))
   else
    ne (dP N v5.1 v4.2.1 true) fun v6=>
    ne (aQ N v4.1 x0.2.2.2.2.1 v3.2.1) fun v7=>
    ne (cr N v5.1 v4.2.1 v7) fun v8=>
    ne (fW N v8 (Dr (Ds ([87,101,108,99,111,109,101]:List UInt8)))) fun v9=>
    ne (bI N (x0.1,(x0.2.1,((2:Int),(x0.2.2.2.1,(x0.2.2.2.2.1,(x0.2.2.2.2.2.1,(x0.2.2.2.2.2.2.1,(v9,((3:Int),(v3.2.1,v6))))))))))) fun v10=>
    some (((x0.1,(x0.2.1,((2:Int),(x0.2.2.2.1,(x0.2.2.2.2.1,(x0.2.2.2.2.2.1,(x0.2.2.2.2.2.2.1,(v9,((3:Int),(v3.2.1,v6)))))))))),v10))
theorem pH (x0:List UInt8×pz0)(c1:Int×(Int×(List Int))):(runK Do (am6 N) 400 37 [qz0,qz2] [qz0,(.sl qz2)] (x0,c1,())).run=bw N x0 c1:=by kernel_rfl
noncomputable def am5:(R:Type)→Env R:=Du (am6 N) 37 (fun R=>fnK [qz0,qz2] [qz0,(.sl qz2)] (fun c=>bw N c.1 c.2.1))
theorem aaB (R:Type):EnvOK Do (am5 N R):=Dt hmx (aaC N R) (aaC N _) (by kernel_rfl) (fun c=>pH N c.1 c.2.1)
noncomputable def dp (x0:List UInt8×pz0)(challenge1:Arr Int 16):Option ((List UInt8×pz0)×List pz4):=
 bif (!(decide (x0.2.2.1=(0:Int)))) then
  some ((x0,([]:List (pz4))))
 else
  ne (em N (x0.1,(x0.2.1,((1:Int),((Dp .u8 (x0.2.2.2.1+1)),(challenge1,x0.2.2.2.2.2)))))) fun v3=>
  some (v3)
theorem pJ (x0:List UInt8×pz0)(challenge1:Arr Int 16):(runK Do (am5 N) 400 12 [qz0,(.arr 16 (.int .u8))] [qz0,(.sl qz2)] (x0,challenge1,())).run=dp N x0 challenge1:=by kernel_rfl
noncomputable def aq7:(R:Type)→Env R:=Du (am5 N) 12 (fun R=>fnK [qz0,(.arr 16 (.int .u8))] [qz0,(.sl qz2)] (fun c=>dp N c.1 c.2.1))
theorem ajL (R:Type):EnvOK Do (aq7 N R):=Dt hmx (aaB N R) (aaB N _) (by kernel_rfl) (fun c=>pJ N c.1 c.2.1)
noncomputable def am4:(R:Type)→Env R:=DE (aq7 N) [(16,0)]
theorem aaA (R:Type):EnvOK Do (am4 N R):=DA (ajL N R) [(16,0)]
noncomputable def cg (x0:List UInt8×pz0)(c1:Int×(Int×(List Int))):Option ((List UInt8×pz0)×List pz4):=
 ne (bif (!(decide (c1.1=(2:Int)))) then
   some (true)
  else
   some ((cond false true (!(decide (c1.2.1=x0.2.2.2.1)))))) fun (v3:Bool)=>
 bif v3 then
  some ((x0,([]:List (pz4))))
 else
  bif (decide (x0.2.2.1=(1:Int))) then
   ne (bw N x0 c1) fun v4=>
   some (v4)
  else
   bif (decide (x0.2.2.1=(2:Int))) then
    bif (decide (x0.2.2.1=(2:Int))) then
     ne (bI N x0) fun v4=>
     some ((x0,v4))
    else
     some ((x0,([]:List (pz4))))
   else
    bif (decide (x0.2.2.1=(3:Int))) then
     ne (bI N x0) fun v4=>
     some ((x0,v4))
    else
     some ((x0,([]:List (pz4))))
theorem qF (x0:List UInt8×pz0)(c1:Int×(Int×(List Int))):(runK Do (am4 N) 400 16 [qz0,qz2] [qz0,(.sl qz2)] (x0,c1,())).run=cg N x0 c1:=by kernel_rfl
noncomputable def am3:(R:Type)→Env R:=Du (am4 N) 16 (fun R=>fnK [qz0,qz2] [qz0,(.sl qz2)] (fun c=>cg N c.1 c.2.1))
theorem aaz (R:Type):EnvOK Do (am3 N R):=Dt hmx (aaA N R) (aaA N _) (by kernel_rfl) (fun c=>qF N c.1 c.2.1)
noncomputable def aZ (x0:List UInt8×pz1)(c1:Int×(Int×(List Int))):Option ((List UInt8×pz1)×List pz4):=
 ne (fa N c1) fun v3=>
 bif (!(decide (v3.2.2=(0:Int)))) then
  some ((x0,([]:List (pz4))))
 else
  ne (some ((cond false true (!(decide ((((Dq v3.1):Nat):Int)=(16:Int))))))) fun (v4:Bool)=>
  bif v4 then
   some ((x0,([]:List (pz4))))
  else
   ne (cN N x0.2.1) fun v5=>
   bif (!(decide (v5.2=(0:Int)))) then
    some ((x0,([]:List (pz4))))
   else
    ne (@dA Int (16:Nat) v3.1) fun (v6:(Arr Int 16))=>
    ne (aQ N x0.2.2.1 v6 x0.1) fun v7=>
    ne (bB N v7 v5.1) fun v8=>
    ne (cr N v5.1 v8 v7) fun v9=>
    ne (dP N v5.1 v8 false) fun v10=>
    ne (gM N x0.2.2.1 v8) fun v11=>
    ne (lO N (2:Int) c1.2.1 v11 x0.1) fun v12=>
    some (((x0.1,(x0.2.1,(x0.2.2.1,((1:Int),(c1.2.1,(v9,(v10,x0.2.2.2.2.2.2.2))))))),([v12]:List (pz4))))
theorem nh (x0:List UInt8×pz1)(c1:Int×(Int×(List Int))):(runK Do (am3 N) 400 75 [qz1,qz2] [qz1,(.sl qz2)] (x0,c1,())).run=aZ N x0 c1:=by kernel_rfl
noncomputable def am2:(R:Type)→Env R:=Du (am3 N) 75 (fun R=>fnK [qz1,qz2] [qz1,(.sl qz2)] (fun c=>aZ N c.1 c.2.1))
theorem aay (R:Type):EnvOK Do (am2 N R):=Dt hmx (aaz N R) (aaz N _) (by kernel_rfl) (fun c=>nh N c.1 c.2.1)
noncomputable def bN (x0:List UInt8×pz1)(c1:Int×(Int×(List Int))):Option (List UInt8×pz1):=
 bif (decide (c1.1=(3:Int))) then
  ne (iR N c1.2.2) fun v3=>
  ne (bif (decide (v3.2=(0:Int))) then
    some ((cond true (decide (v3.1=x0.2.2.2.2.2.1)) false))
   else
    some (false)) fun (v4:Bool)=>
  bif v4 then
   some ((x0.1,(x0.2.1,(x0.2.2.1,((2:Int),x0.2.2.2.2)))))
  else
   some ((x0.1,(x0.2.1,(x0.2.2.1,((3:Int),x0.2.2.2.2)))))
 else
  bif (decide (c1.1=(4:Int))) then
   ne (en N c1.2.2) fun v3=>
   some ((x0.1,(x0.2.1,(x0.2.2.1,((3:Int),(x0.2.2.2.2.1,(x0.2.2.2.2.2.1,(x0.2.2.2.2.2.2.1,v3.1.1))))))))
  else
   some (x0)
theorem pK (x0:List UInt8×pz1)(c1:Int×(Int×(List Int))):(runK Do (am2 N) 400 76 [qz1,qz2] [qz1] (x0,c1,())).run=bN N x0 c1:=by kernel_rfl
noncomputable def aq6:(R:Type)→Env R:=Du (am2 N) 76 (fun R=>fnK [qz1,qz2] [qz1] (fun c=>bN N c.1 c.2.1))
theorem ajK (R:Type):EnvOK Do (aq6 N R):=Dt hmx (aay N R) (aay N _) (by kernel_rfl) (fun c=>pK N c.1 c.2.1)
noncomputable def am1:(R:Type)→Env R:=DE (aq6 N) [(49,0)]
theorem aax (R:Type):EnvOK Do (am1 N R):=DA (ajK N R) [(49,0)]
noncomputable def aB (x0:List UInt8×pz1)(c1:Int×(Int×(List Int))):Option ((List UInt8×pz1)×List pz4):=
 ne (bif (decide (x0.2.2.2.1=(2:Int))) then
   some (true)
  else
   some ((cond false true (decide (x0.2.2.2.1=(3:Int)))))) fun (v3:Bool)=>
 bif v3 then
  some ((x0,([]:List (pz4))))
 else
  bif (decide (c1.1=(1:Int))) then
   ne (aZ N x0 c1) fun v4=>
   some (v4)
  else
   ne (bif (decide (x0.2.2.2.1=(1:Int))) then
     some ((cond true (decide (c1.2.1=x0.2.2.2.2.1)) false))
    else
     some (false)) fun (v4:Bool)=>
   bif v4 then
    ne (bN N x0 c1) fun v5=>
    some ((v5,([]:List (pz4))))
   else
    some ((x0,([]:List (pz4))))
theorem pL (x0:List UInt8×pz1)(c1:Int×(Int×(List Int))):(runK Do (am1 N) 400 49 [qz1,qz2] [qz1,(.sl qz2)] (x0,c1,())).run=aB N x0 c1:=by kernel_rfl
noncomputable def aq5:(R:Type)→Env R:=Du (am1 N) 49 (fun R=>fnK [qz1,qz2] [qz1,(.sl qz2)] (fun c=>aB N c.1 c.2.1))
theorem ajJ (R:Type):EnvOK Do (aq5 N R):=Dt hmx (aax N R) (aax N _) (by kernel_rfl) (fun c=>pL N c.1 c.2.1)
noncomputable def aq4:(R:Type)→Env R:=DE (aq5 N) [(24,0)]
theorem ajI (R:Type):EnvOK Do (aq4 N R):=DA (ajJ N R) [(24,0)]
noncomputable def am0:(R:Type)→Env R:=DE (aq4 N) [(48,0)]
theorem aaw (R:Type):EnvOK Do (am0 N R):=DA (ajI N R) [(48,0)]
noncomputable def AG (N:Nat)(name0:List UInt8)(password1:List UInt8)(peer2:Arr Int 16):Option (List UInt8×pz1):=
 some ((name0,(password1,(peer2,((0:Int),((0:Int),((Dr (Ds ([]:List UInt8))),(zc32,(0:Int)))))))))
theorem Cj (name0:List UInt8)(password1:List UInt8)(peer2:Arr Int 16):(runK Do (am0 N) 400 48 [.str,.str,(.arr 16 (.int .u8))] [qz1] (name0,password1,peer2,())).run=AG N name0 password1 peer2:=by kernel_rfl
noncomputable def amZ:(R:Type)→Env R:=Du (am0 N) 48 (fun R=>fnK [.str,.str,(.arr 16 (.int .u8))] [qz1] (fun c=>AG N c.1 c.2.1 c.2.2.1))
theorem aav (R:Type):EnvOK Do (amZ N R):=Dt hmx (aaw N R) (aaw N _) (by kernel_rfl) (fun c=>Cj N c.1 c.2.1 c.2.2.1)
end
end Go.Proofs.YtllpjoggnfclgaaGreatDoor
namespace Go.Proofs.YtllpjoggnfclgaaGreatDoor.De
set_option maxRecDepth 100000
open Go.RowKit
set_option linter.unusedVariables false
set_option linter.unusedSimpArgs false
set_option maxRecDepth 100000
variable {N:Nat}
theorem yl (a:Nat)(k:Nat):DJ (a:Int) ((2:Int) ^ k)=((a / 2 ^ k:Nat):Int):=by
 rw [Int.fdiv_eq_ediv_of_nonneg _ (Int.pow_nonneg (by decide))]
 have:((2:Int) ^ k)=((2 ^ k:Nat):Int):=by simp
 rw [this];rfl
theorem aqL (l:List Bool)(i:Int)(h1:1≤i)(h2:i≤(l.length:Int))(hl:l.length≤64):qL N (toW l:Int) (l.length:Int) i=some (((l.getD (i.toNat-1) false).toNat:Nat):Int):=by
 obtain ⟨k,rfl⟩:∃ k:Nat,i=k:=⟨i.toNat,by omega⟩
 have c1:decide ((1:Int)≤(l.length:Int))=true:=decide_eq_true (by omega)
 have c2:decide ((l.length:Int)≤64)=true:=decide_eq_true (by omega)
 have c3:decide ((k:Int)<1)=false:=decide_eq_false (by omega)
 have c4:decide ((l.length:Int)<(k:Int))=false:=decide_eq_false (by omega)
 have hw:Dp .i64 ((l.length:Int)-(k:Int))=((l.length-k:Nat):Int):=by rw [ac (by omega) (by omega)];omega
 have c5:decide ((0:Int)≤((l.length-k:Nat):Int))=true:=decide_eq_true (by omega)
 have hm:min ((l.length-k:Nat):Int).toNat (Dz .u64)=l.length-k:=by
  show min _ 64=_
  rw [Int.toNat_natCast];omega
 have hb:=dx l
 have hp:2 ^ l.length≤2 ^ 64:=Nat.pow_le_pow_right (by decide) hl
 have hd:toW l / 2 ^ (l.length-k)<18446744073709551616:=Nat.lt_of_le_of_lt (Nat.div_le_self _ _) (by omega)
 have e:bits .and .u64 (((toW l / 2 ^ (l.length-k):Nat)):Int) 1=(((l.getD (k-1) false).toNat:Nat):Int):=by
  rw [show (1:Int)=((1:Nat):Int) from rfl,q64_and _ _ hd (by decide),Nat.and_one_is_mod,ak7 l k (by omega) (by omega)]
 simp only [qL,kb,c1,c2,c3,c4,hw,c5,hm,yl,cond_true,cond_false,DN,Bool.not_true]
 rw [e,Int.toNat_natCast]
theorem aad (t:List Int)(l:List Bool)(i:Nat)(h:i<t.length):byM (t.take (i+1)) l=byM (t.take i) l++[l.getD (t[i].toNat-1) false]:=by
 unfold byM
 rw [←List.take_append_getElem h,List.map_append]
 rfl
theorem gI (l:List Bool)(t:List Int)(hl:l.length≤64)(h1:1≤l.length)(ht:xc l.length t)(hn:t.length≤64)(hN:100≤N):aM N (toW l:Int) (l.length:Int) t=some ((toW (byM t l):Nat):Int):=by
 have c1:decide ((1:Int)≤(l.length:Int))=true:=decide_eq_true (by omega)
 have c2:decide ((l.length:Int)≤64)=true:=decide_eq_true (by omega)
 have c3:decide ((64:Int)<(t.length:Int))=false:=decide_eq_false (by omega)
 have e1:gP N (((toW l:Int),((l.length:Int),(t,(t,((t.length:Int),((0:Int),())))))),())=some (.inr (((toW l:Int),((l.length:Int),(t,()))),())):=by
  unfold gP
  refine cz (fun i=>(((toW l:Int),((l.length:Int),(t,(t,((t.length:Int),((i:Int),())))))),())) t.length _ (fun X i hi=> ?_) (fun X=> ?_) N 0 (Nat.zero_le _) (by omega)
  ·have d1:decide ((i:Int)<(t.length:Int))=true:=decide_eq_true (by omega)
   have hi2:=ht t[i] (List.getElem_mem hi)
   have d2:decide (t[i]<(1:Int))=false:=decide_eq_false (by omega)
   have d3:decide ((l.length:Int)<t[i])=false:=decide_eq_false (by omega)
   simp only [eo,d1,d2,d3,cond_true,cond_false,a7 t i hi,DN,ac (show -9223372036854775808≤(i:Int)+1 by omega) (show (i:Int)+1<9223372036854775808 by omega),Int.natCast_add,Int.natCast_one]
  ·have d1:decide ((t.length:Int)<(t.length:Int))=false:=decide_eq_false (by omega)
   simp only [eo,d1,cond_false]
 have e2:bO N (((toW l:Int),((l.length:Int),(t,((t.length:Int),((0:Int),()))))),((0:Int),()))=some ((),((toW (byM t l):Int),())):=by
  unfold bO
  have:=cz (G:=fun X c=>aL N X c.1.1 c.1.2.1 c.1.2.2.1 c.1.2.2.2.1 c.1.2.2.2.2.1 c.2.1) (fun i=>(((toW l:Int),((l.length:Int),(t,((t.length:Int),((i:Int),()))))),((toW (byM (t.take i) l):Int),()))) t.length ((),((toW (byM t l):Int),())) (fun X i hi=> ?_) (fun X=> ?_) N 0 (Nat.zero_le _) (by omega)
  ·exact this
  ·have d1:decide ((i:Int)<(t.length:Int))=true:=decide_eq_true (by omega)
   have hi2:=ht t[i] (List.getElem_mem hi)
   have hb:=aqL (N:=N) l t[i] hi2.1 hi2.2 hl
   have hor:=oI (byM (t.take i) l) [l.getD (t[i].toNat-1) false] (by rw [gO,List.length_take];simp;omega)
   rw [aep] at hor
   have hpw:(2:Int) ^ (min (Dv (1:Int)) (Dz .u64))=((2 ^ [l.getD (t[i].toNat-1) false].length:Nat):Int):=rfl
   simp only [aL,d1,cond_true,a7 t i hi,DN,hb,ac (show -9223372036854775808≤(i:Int)+1 by omega) (show (i:Int)+1<9223372036854775808 by omega),Int.natCast_add,Int.natCast_one]
   rw [hpw,hor,aad t l i hi]
  ·have d1:decide ((t.length:Int)<(t.length:Int))=false:=decide_eq_false (by omega)
   simp only [aL,d1,cond_false,List.take_length]
 simp only [aM,ke,kb,c1,c2,c3,cond_true,cond_false,DN,Bool.not_true]
 rw [e1]
 simp only [DN,Sum.elim_inr]
 rw [e2]
 rfl
theorem C0 (l:List Bool)(k:Nat)(hk:k≤l.length)(hl:l.length≤64):bits .and .u64 (toW l:Int) (((2 ^ k-1:Nat)):Int)=((toW (l.drop (l.length-k)):Nat):Int):=by
 have hb:=dx l
 have hp:2 ^ l.length≤2 ^ 64:=Nat.pow_le_pow_right (by decide) hl
 have hp2:2 ^ k≤2 ^ 64:=Nat.pow_le_pow_right (by decide) (by omega)
 have hp3:0<2 ^ k:=Nat.two_pow_pos k
 rw [q64_and _ _ (by omega) (by omega),Nat.and_two_pow_sub_one_eq_mod]
 have:=wY l (l.length-k) (by omega)
 rw [show l.length-(l.length-k)=k by omega] at this
 rw [this]
def rot (n:Nat)(c:List Bool):List Bool:=c.drop n++c.take n
theorem alj (n:Nat)(c:List Bool):(rot n c).length=c.length:=by simp [rot];omega
def amt (i:Nat):Nat:=if i=1∨i=2∨i=9∨i=16 then 1 else 2
theorem A3 (x:Int)(i:Nat)(h1:1≤i)(h2:i≤16)(hN:100≤N):jI N ((x,((i:Int),((2:Int),((⟨[1,2,9,16],rfl⟩:Arr Int 4),((0:Int),()))))),())=some ((x,((amt i:Int),())),()):=by
 obtain ⟨M,rfl⟩:∃ M,N=M+5:=⟨N-5,by omega⟩
 have:i=1∨i=2∨i=3∨i=4∨i=5∨i=6∨i=7∨i=8∨i=9∨i=10∨i=11∨i=12∨i=13∨i=14∨i=15∨i=16:=by omega
 rcases this with rfl | rfl | rfl | rfl | rfl | rfl | rfl | rfl | rfl | rfl | rfl | rfl | rfl | rfl | rfl | rfl <;> rfl
theorem apH (c:List Bool)(n:Nat)(hn:n=1∨n=2)(hc:c.length=28):lS N (toW c:Int) (28:Int) (n:Int)=some ((toW (rot n c):Int),0):=by
 have l1:=C0 c 28 (by omega) (by omega)
 have hdr:c.drop (c.length-28)=c:=by rw [hc];rfl
 rw [hdr] at l1
 have l2:=C0 c (28-n) (by omega) (by omega)
 rw [hc,show 28-(28-n)=n by omega] at l2
 have l3:=sY c n (by omega)
 rw [hc] at l3
 have l4:=oI (c.drop n) (c.take n) (by simp;omega)
 have l5:(c.take n).length=n:=by simp;omega
 rw [l5] at l4
 have f:=yl (toW c) (28-n)
 rw [l3] at f
 rcases hn with rfl | rfl
 ·have e:lS N (toW c:Int) (28:Int) ((1:Nat):Int)=some (bits .or .u64 (Dp .u64 (bits .and .u64 (bits .and .u64 (toW c:Int) (((2 ^ 28-1:Nat)):Int)) (((2 ^ (28-1)-1:Nat)):Int)*((2 ^ 1:Nat):Int))) (DJ (bits .and .u64 (toW c:Int) (((2 ^ 28-1:Nat)):Int)) ((2:Int) ^ (28-1))),0):=rfl
  rw [e,l1,l2,f,l4];rfl
 ·have e:lS N (toW c:Int) (28:Int) ((2:Nat):Int)=some (bits .or .u64 (Dp .u64 (bits .and .u64 (bits .and .u64 (toW c:Int) (((2 ^ 28-1:Nat)):Int)) (((2 ^ (28-2)-1:Nat)):Int)*((2 ^ 2:Nat):Int))) (DJ (bits .and .u64 (toW c:Int) (((2 ^ 28-1:Nat)):Int)) ((2:Int) ^ (28-2))),0):=rfl
  rw [e,l1,l2,f,l4];rfl
theorem yV (c:List Bool)(i:Nat)(h1:1≤i)(h2:i≤16)(hc:c.length=28)(hN:100≤N):fB N (toW c:Int) (i:Int)=some (toW (rot (amt i) c):Int):=by
 have e:=A3 (N:=N) (toW c:Int) i h1 h2 hN
 have hn:amt i=1∨amt i=2:=by unfold amt;split <;> simp
 unfold fB
 rw [show (jI N _)=_ from e]
 simp only [DN]
 rw [apH c (amt i) hn hc]
 rfl
end Go.Proofs.YtllpjoggnfclgaaGreatDoor.De
