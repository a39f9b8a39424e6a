/-
  Parts of my own, one behind the other: GCpB.
-/
import Derived.Test.YtolkfnemdejonaaGreatDoorMrg8
open Go.IntKind renaming wrap→gt, bits→Db
open Option renaming bind→ne
open List renaming cons→C5, length→C7, append→Dh
open Go.Proofs.Tryz renaming prog→C6
open Int renaming toNat→C8, tmod→Df, fdiv→Di
open Go.Proofs.YtolkfnemdejonaaGreatDoor.EnvOK renaming addLp→C9, addMv→Dg
open Go.Proofs.YtolkfnemdejonaaGreatDoor.Env renaming addLp→Da, addMv→Dj
open UInt8 renaming toNat→Dc
open Go.Proofs.YtolkfnemdejonaaGreatDoor.Arr renaming cons→Dd
namespace Go.Proofs.YtolkfnemdejonaaGreatDoor
open Go.RowKit
set_option linter.unusedVariables false
set_option maxRecDepth 100000
section
variable (N:Nat)
noncomputable def ef (c:pz29):Option ((((Bool×Unit)×Unit) ⊕ (Unit×Unit))):=gl (fun X c=>am N X c.1.1) N c
theorem iZ (X:pz29→Option ((((Bool×Unit)×Unit) ⊕ (Unit×Unit))))(s0:List UInt8):(aq C6 (Ev93 N) 400 [128] cw (ao C6 [128] 1) X ((s0,()),())).run=am N X s0:=by kernel_rfl
noncomputable def Ev94:(R:Type)→Env R:=Da (Ev93 N) [128] 0 1 (fun R=>lpK C6 cw (fun X c=>am N X c.1.1) N)
theorem anm (R:Type):EnvOK C6 (Ev94 N R):=C9 (agj N R) (by kernel_rfl) (aw (li:=cw) hmx (agj N _) (by kernel_rfl) ab (fun X c=>iZ N X c.1.1) N)
noncomputable def bw (s0:List UInt8):Option Bool:=
 ne (ef N ((s0,()),())) fun v2=>
 Sum.elim
  (fun (v3:((Bool×Unit)×Unit))=>
  some (v3.1.1))
  (fun (v3:(Unit×Unit))=>
  some (true)) v2
theorem kT (s0:List UInt8):(runK C6 (Ev94 N) 400 128 [.str] [.bool] (s0,())).run=bw N s0:=by kernel_rfl
noncomputable def Ev95:ET:=eFn (Ev94 N) 128 [.str] [.bool] fun c=>bw N c.1
theorem agi:OkE (Ev95 N):=aFn (anm N) (by kernel_rfl) fun c=>kT N c.1
noncomputable def bI:LI:=⟨10,0,[],⟨[(2,.ty (.int .i64)),(4,.lit (.box 0 0))],[.itr]⟩,[(.exit 0,⟨[(2,.ty (.int .i64))],[]⟩)]⟩
noncomputable def aN (N:Nat)(X:((Int×Unit)×pz18)→Option (((Int×Unit)×Unit)))(n2:Int)(h0:List UInt8)(h1:Int):Option (((Int×Unit)×Unit)):=
 bif (decide ((C8 h1)<(C7 h0))) then
  (X (((gt .i64 (n2+1)),()),(h0,(((((C8 h1):Nat):Int)+(@rdec h0 h1).2),()))))
 else
  some (((n2,()),()))
noncomputable def cJ (c:((Int×Unit)×pz18)):Option (((Int×Unit)×Unit)):=gl (fun X c=>aN N X c.1.1 c.2.1 c.2.2.1) N c
theorem fG (X:((Int×Unit)×pz18)→Option (((Int×Unit)×Unit)))(n2:Int)(h0:List UInt8)(h1:Int):(aq C6 (Ev95 N) 400 [156] bI (ao C6 [156] 2) X ((n2,()),(h0,h1,()))).run=aN N X n2 h0 h1:=by kernel_rfl
noncomputable def Ev96:(R:Type)→Env R:=Da (Ev95 N) [156] 0 2 (fun R=>lpK C6 bI (fun X c=>aN N X c.1.1 c.2.1 c.2.2.1) N)
theorem anl (R:Type):EnvOK C6 (Ev96 N R):=C9 (agi N R) (by kernel_rfl) (aw (li:=bI) hmx (agi N _) (by kernel_rfl) ab (fun X c=>fG N X c.1.1 c.2.1 c.2.2.1) N)
noncomputable def bh (s0:List UInt8):Option Int:=
 ne (cJ N ((0,()),(s0,(0,())))) fun v2=>
 some (v2.1.1)
theorem gP (s0:List UInt8):(runK C6 (Ev96 N) 400 156 [.str] [(.int .i64)] (s0,())).run=bh N s0:=by kernel_rfl
noncomputable def Ev97:ET:=eFn (Ev96 N) 156 [.str] [(.int .i64)] fun c=>bh N c.1
theorem ank:OkE (Ev97 N):=aFn (anl N) (by kernel_rfl) fun c=>gP N c.1
noncomputable def nu (s0:List UInt8):Option Int:=
 ne (bw N s0) fun v2=>
 bif (!v2) then
  some ((0:Int))
 else
  ne (bh N s0) fun v3=>
  some (v3)
theorem ym (s0:List UInt8):(runK C6 (Ev97 N) 400 129 [.str] [(.int .i64)] (s0,())).run=nu N s0:=by kernel_rfl
noncomputable def Ev98:ET:=eFn (Ev97 N) 129 [.str] [(.int .i64)] fun c=>nu N c.1
theorem anj:OkE (Ev98 N):=aFn (ank N) (by kernel_rfl) fun c=>ym N c.1
noncomputable def l9 (s0:List UInt8):Option Int:=
 ne (bw N s0) fun v2=>
 bif (!v2) then
  some ((3:Int))
 else
  ne (nu N s0) fun v3=>
  bif (decide (64<v3)) then
   some ((8:Int))
  else
   some ((0:Int))
theorem Ce (s0:List UInt8):(runK C6 (Ev98 N) 400 95 [.str] [(.int .i64)] (s0,())).run=l9 N s0:=by kernel_rfl
noncomputable def Ev99:ET:=eFn (Ev98 N) 95 [.str] [(.int .i64)] fun c=>l9 N c.1
theorem ani:OkE (Ev99 N):=aFn (anj N) (by kernel_rfl) fun c=>Ce N c.1
noncomputable def arb:ET:=Dj (Ev99 N) [(96,8),(96,10)]
theorem acL:OkE (arb N):=fun R=>Dg (ani N R) [(96,8),(96,10)]
noncomputable def iW:LI:=⟨36,0,[(3,134)],⟨[(3,.lit (.own 0)),(11,.lit (.box 1 0))],[.own (.int .u16) 134,.itr]⟩,[(.exit 0,⟨[(3,.lit (.own 0))],[.own (.int .u16) 134]⟩)]⟩
noncomputable def eh (N:Nat)(X:(Unit×((List Int)×pz18))→Option pz3)(h0:List (Int))(h1:List UInt8)(h2:Int):Option pz3:=
 bif (decide ((C8 h2)<(C7 h1))) then
  bif (decide ((@rdec h1 h2).1<(65536:Int))) then
   bif (ae ((C7 h0)+(C7 ([(gt .u16 (@rdec h1 h2).1)]:List (Int)))) 2) then
    (X ((),((h0++([(gt .u16 (@rdec h1 h2).1)]:List (Int))),(h1,(((((C8 h2):Nat):Int)+(@rdec h1 h2).2),())))))
   else
    none
  else
   bif (ae ((C7 h0)+(C7 ([(gt .u16 (gt .i32 ((55296:Int)+(@Di (gt .i32 ((@rdec h1 h2).1-65536)) ((2:Int) ^ (min (C8 (10:Int)) (Db .i32))))))),(gt .u16 (gt .i32 ((56320:Int)+(bits .and .i32 (gt .i32 ((@rdec h1 h2).1-65536)) (1023:Int)))))]:List (Int)))) 2) then
    (X ((),((h0++([(gt .u16 (gt .i32 ((55296:Int)+(@Di (gt .i32 ((@rdec h1 h2).1-65536)) ((2:Int) ^ (min (C8 (10:Int)) (Db .i32))))))),(gt .u16 (gt .i32 ((56320:Int)+(bits .and .i32 (gt .i32 ((@rdec h1 h2).1-65536)) (1023:Int)))))]:List (Int))),(h1,(((((C8 h2):Nat):Int)+(@rdec h1 h2).2),())))))
   else
    none
 else
  some (((),(h0,())))
noncomputable def ou (c:(Unit×((List Int)×pz18))):Option pz3:=gl (fun X c=>eh N X c.2.1 c.2.2.1 c.2.2.2.1) N c
theorem tI (X:(Unit×((List Int)×pz18))→Option pz3)(h0:List (Int))(h1:List UInt8)(h2:Int):(aq C6 (arb N) 400 [96] iW (ao C6 [96] 5) X ((),(h0,h1,h2,()))).run=eh N X h0 h1 h2:=by kernel_rfl
noncomputable def ara:(R:Type)→Env R:=Da (arb N) [96] 0 5 (fun R=>lpK C6 iW (fun X c=>eh N X c.2.1 c.2.2.1 c.2.2.2.1) N)
theorem alf (R:Type):EnvOK C6 (ara N R):=C9 (acL N R) (by kernel_rfl) (aw (li:=iW) hmx (acL N _) (by kernel_rfl) ab (fun X c=>tI N X c.2.1 c.2.2.1 c.2.2.2.1) N)
noncomputable def jI (s0:List UInt8):Option (List Int):=
 ne (l9 N s0) fun v2=>
 bif (!(decide (v2=0))) then
  some (([]:List Int))
 else
  ne (ou N ((),(([]:List Int),(s0,(0,()))))) fun v3=>
  some (v3.2.1)
theorem yl (s0:List UInt8):(runK C6 (ara N) 400 96 [.str] [(.sl (.int .u16))] (s0,())).run=jI N s0:=by kernel_rfl
noncomputable def aq9:ET:=eFn (ara N) 96 [.str] [(.sl (.int .u16))] fun c=>jI N c.1
theorem acK:OkE (aq9 N):=aFn (alf N) (by kernel_rfl) fun c=>yl N c.1
noncomputable def ll:LI:=⟨33,0,[(5,5)],⟨[(5,.lit (.own 0)),(16,.ty (.sl (.int .u16))),(17,.ty (.int .i64)),(18,.ty (.int .i64))],[.own (.int .u8) 5]⟩,[(.exit 0,⟨[(5,.lit (.own 0))],[.own (.int .u8) 5]⟩)]⟩
noncomputable def fP (X:(pz8×((List Int)×Unit))→Option pz3)(x16:List (Int))(x17:Int)(x18:Int)(h0:List (Int)):Option pz3:=
 bif (decide (x18<x17)) then
  ne (getI x16 x18) fun v6=>
  ne (cD N (gt .u64 v6) (2:Int) true) fun v7=>
  bif (ae ((C7 h0)+(C7 v7.1)) 1) then
   (X ((x16,(x17,((gt .i64 (x18+1)),()))),((h0++v7.1),())))
  else
   none
 else
  some (((),(h0,())))
noncomputable def qx (c:(pz8×((List Int)×Unit))):Option pz3:=gl (fun X c=>fP N X c.1.1 c.1.2.1 c.1.2.2.1 c.2.1) N c
theorem wt (X:(pz8×((List Int)×Unit))→Option pz3)(x16:List (Int))(x17:Int)(x18:Int)(h0:List (Int)):(aq C6 (aq9 N) 400 [66] ll (ao C6 [66] 6) X ((x16,x17,x18,()),(h0,()))).run=fP N X x16 x17 x18 h0:=by kernel_rfl
noncomputable def aq8:(R:Type)→Env R:=Da (aq9 N) [66] 0 6 (fun R=>lpK C6 ll (fun X c=>fP N X c.1.1 c.1.2.1 c.1.2.2.1 c.2.1) N)
theorem ale (R:Type):EnvOK C6 (aq8 N R):=C9 (acK N R) (by kernel_rfl) (aw (li:=ll) hmx (acK N _) (by kernel_rfl) ab (fun X c=>wt N X c.1.1 c.1.2.1 c.1.2.2.1 c.2.1) N)
noncomputable def oO (s0:List UInt8):Option ((List Int)×Int):=
 ne (l9 N s0) fun v2=>
 bif (!(decide (v2=0))) then
  some ((([]:List Int),v2))
 else
  ne (jI N s0) fun v3=>
  ne (qx N ((v3,((v3.length:Int),(0,()))),(([]:List Int),()))) fun v4=>
  some ((v4.2.1,(0:Int)))
theorem Cf (s0:List UInt8):(runK C6 (aq8 N) 400 66 [.str] [(.sl (.int .u8)),(.int .i64)] (s0,())).run=oO N s0:=by kernel_rfl
noncomputable def atE:ET:=eFn (aq8 N) 66 [.str] [(.sl (.int .u8)),(.int .i64)] fun c=>oO N c.1
theorem ald:OkE (atE N):=aFn (ale N) (by kernel_rfl) fun c=>Cf N c.1
noncomputable def aq7:ET:=Dj (atE N) [(113,7)]
theorem alc:OkE (aq7 N):=fun R=>Dg (ald N R) [(113,7)]
noncomputable def fV (N:Nat)(s0:List UInt8)(i1:Int):Option (Int×Bool):=
 ne (bif (decide ((s0.length:Int)≤i1)) then
   some (true)
  else
   ne (getI s0 i1) fun v3=>
   some ((cond false true (decide ((((@Dc v3):Nat):Int)<(128:Int)))))) fun (v3:Bool)=>
 ne (bif v3 then
   some (true)
  else
   ne (getI s0 i1) fun v4=>
   some ((cond false true (decide ((191:Int)<(((@Dc v4):Nat):Int)))))) fun (v4:Bool)=>
 bif v4 then
  some ((0,false))
 else
  ne (getI s0 i1) fun v5=>
  some (((gt .i64 ((gt .i64 (((@Dc v5):Nat):Int))-128)),true))
theorem AX (s0:List UInt8)(i1:Int):(runK C6 (aq7 N) 400 171 [.str,(.int .i64)] [(.int .i64),.bool] (s0,i1,())).run=fV N s0 i1:=by kernel_rfl
noncomputable def aq6:ET:=eFn (aq7 N) 171 [.str,(.int .i64)] [(.int .i64),.bool] fun c=>fV N c.1 c.2.1
theorem acJ:OkE (aq6 N):=aFn (alc N) (by kernel_rfl) fun c=>AX N c.1 c.2.1
noncomputable def jh:LI:=⟨85,0,[],⟨[(0,.ty .str),(1,.ty (.int .i64)),(7,.ty (.int .i64)),(8,.ty (.int .i64)),(9,.ty (.int .i64)),(10,.ty (.int .i64))],[]⟩,[(.ret,⟨[(4,.ty (.int .i64)),(5,.ty (.int .i64))],[]⟩),(.exit 1,⟨[(7,.ty (.int .i64)),(8,.ty (.int .i64)),(9,.ty (.int .i64))],[]⟩)]⟩
noncomputable def ep (X:((List UInt8×(Int×(Int×pz10)))×Unit)→Option ((pz16 ⊕ (pz10×Unit))))(s0:List UInt8)(i1:Int)(need7:Int)(n8:Int)(least9:Int)(k10:Int):Option ((pz16 ⊕ (pz10×Unit))):=
 bif (decide (k10≤need7)) then
  ne (fV N s0 (gt .i64 (i1+k10))) fun v8=>
  bif (!v8.2) then
   some ((.inl ((0,(0,())),())))
  else
   (X ((s0,(i1,(need7,((gt .i64 ((gt .i64 ((64:Int)*n8))+v8.1)),(least9,((gt .i64 (k10+1)),())))))),()))
 else
  some ((.inr ((need7,(n8,(least9,()))),())))
noncomputable def cx (c:((List UInt8×(Int×(Int×pz10)))×Unit)):Option ((pz16 ⊕ (pz10×Unit))):=gl (fun X c=>ep N X c.1.1 c.1.2.1 c.1.2.2.1 c.1.2.2.2.1 c.1.2.2.2.2.1 c.1.2.2.2.2.2.1) N c
theorem tU (X:((List UInt8×(Int×(Int×pz10)))×Unit)→Option ((pz16 ⊕ (pz10×Unit))))(s0:List UInt8)(i1:Int)(need7:Int)(n8:Int)(least9:Int)(k10:Int):(aq C6 (aq6 N) 400 [144] jh (ao C6 [144] 13) X ((s0,i1,need7,n8,least9,k10,()),())).run=ep N X s0 i1 need7 n8 least9 k10:=by kernel_rfl
noncomputable def aq5:(R:Type)→Env R:=Da (aq6 N) [144] 0 13 (fun R=>lpK C6 jh (fun X c=>ep N X c.1.1 c.1.2.1 c.1.2.2.1 c.1.2.2.2.1 c.1.2.2.2.2.1 c.1.2.2.2.2.2.1) N)
theorem alb (R:Type):EnvOK C6 (aq5 N R):=C9 (acJ N R) (by kernel_rfl) (aw (li:=jh) hmx (acJ N _) (by kernel_rfl) ab (fun X c=>tU N X c.1.1 c.1.2.1 c.1.2.2.1 c.1.2.2.2.1 c.1.2.2.2.2.1 c.1.2.2.2.2.2.1) N)
noncomputable def mw (s0:List UInt8)(i1:Int):Option (Int×Int):=
 ne (getI s0 i1) fun v3=>
 bif (decide ((gt .i64 (((@Dc v3):Nat):Int))<(128:Int))) then
  some (((gt .i64 (((@Dc v3):Nat):Int)),(1:Int)))
 else
  ne (bif (decide ((192:Int)≤(gt .i64 (((@Dc v3):Nat):Int)))) then
    some ((cond true (decide ((gt .i64 (((@Dc v3):Nat):Int))<(224:Int))) false))
   else
    some (false)) fun (v4:Bool)=>
  bif v4 then
   ne (cx N ((s0,(i1,(1,((gt .i64 ((gt .i64 (((@Dc v3):Nat):Int))-192)),(128,(1,())))))),())) fun v5=>
   Sum.elim
    (fun (v6:pz16)=>
    some ((v6.1.1,v6.1.2.1)))
    (fun (v6:(pz10×Unit))=>
    ne (bif (decide (v6.1.2.1<v6.1.2.2.1)) then
      some (true)
     else
      some ((cond false true (decide (1114111<v6.1.2.1))))) fun (v7:Bool)=>
    ne (bif v7 then
      some (true)
     else
      bif (decide (55296≤v6.1.2.1)) then
       some ((cond false true (cond true (decide (v6.1.2.1≤57343)) false)))
      else
       some ((cond false true false))) fun (v8:Bool)=>
    bif v8 then
     some ((0,(0:Int)))
    else
     some ((v6.1.2.1,(gt .i64 (v6.1.1+1))))) v5
  else
   ne (bif (decide ((224:Int)≤(gt .i64 (((@Dc v3):Nat):Int)))) then
     some ((cond true (decide ((gt .i64 (((@Dc v3):Nat):Int))<(240:Int))) false))
    else
     some (false)) fun (v5:Bool)=>
   bif v5 then
    ne (cx N ((s0,(i1,(2,((gt .i64 ((gt .i64 (((@Dc v3):Nat):Int))-224)),(2048,(1,())))))),())) fun v6=>
    Sum.elim
     (fun (v7:pz16)=>
     some ((v7.1.1,v7.1.2.1)))
     (fun (v7:(pz10×Unit))=>
     ne (bif (decide (v7.1.2.1<v7.1.2.2.1)) then
       some (true)
      else
       some ((cond false true (decide (1114111<v7.1.2.1))))) fun (v8:Bool)=>
     ne (bif v8 then
       some (true)
      else
       bif (decide (55296≤v7.1.2.1)) then
        some ((cond false true (cond true (decide (v7.1.2.1≤57343)) false)))
       else
        some ((cond false true false))) fun (v9:Bool)=>
     bif v9 then
      some ((0,(0:Int)))
     else
      some ((v7.1.2.1,(gt .i64 (v7.1.1+1))))) v6
   else
    ne (bif (decide ((240:Int)≤(gt .i64 (((@Dc v3):Nat):Int)))) then
      some ((cond true (decide ((gt .i64 (((@Dc v3):Nat):Int))<(248:Int))) false))
     else
      some (false)) fun (v6:Bool)=>
    bif v6 then
     ne (cx N ((s0,(i1,(3,((gt .i64 ((gt .i64 (((@Dc v3):Nat):Int))-240)),(65536,(1,())))))),())) fun v7=>
     Sum.elim
      (fun (v8:pz16)=>
      some ((v8.1.1,v8.1.2.1)))
      (fun (v8:(pz10×Unit))=>
      ne (bif (decide (v8.1.2.1<v8.1.2.2.1)) then
        some (true)
       else
        some ((cond false true (decide (1114111<v8.1.2.1))))) fun (v9:Bool)=>
      ne (bif v9 then
        some (true)
       else
        bif (decide (55296≤v8.1.2.1)) then
         some ((cond false true (cond true (decide (v8.1.2.1≤57343)) false)))
        else
         some ((cond false true false))) fun (v10:Bool)=>
      bif v10 then
       some ((0,(0:Int)))
      else
       some ((v8.1.2.1,(gt .i64 (v8.1.1+1))))) v7
    else
     some ((0,(0:Int)))
theorem AW (s0:List UInt8)(i1:Int):(runK C6 (aq5 N) 400 144 [.str,(.int .i64)] [(.int .i64),(.int .i64)] (s0,i1,())).run=mw N s0 i1:=by kernel_rfl
noncomputable def aq4:ET:=eFn (aq5 N) 144 [.str,(.int .i64)] [(.int .i64),(.int .i64)] fun c=>mw N c.1 c.2.1
theorem acI:OkE (aq4 N):=aFn (alb N) (by kernel_rfl) fun c=>AW N c.1 c.2.1
noncomputable def jj:LI:=⟨28,0,[(4,3)],⟨[(0,.ty .str),(4,.lit (.own 0)),(5,.ty (.int .i64))],[.own (.int .i64) 3]⟩,[(.ret,⟨[(2,.ty (.sl (.int .i64))),(3,.ty .bool)],[]⟩),(.exit 0,⟨[(4,.lit (.own 0))],[.own (.int .i64) 3]⟩)]⟩
noncomputable def et (X:(pz18×((List Int)×Unit))→Option (((((List Int)×(Bool×Unit))×Unit) ⊕ (Unit×((List Int)×Unit)))))(s0:List UInt8)(i5:Int)(h0:List (Int)):Option (((((List Int)×(Bool×Unit))×Unit) ⊕ (Unit×((List Int)×Unit)))):=
 bif (decide (i5<(s0.length:Int))) then
  ne (mw N s0 i5) fun v5=>
  bif (decide (v5.2=0)) then
   some ((.inl ((([]:List Int),(false,())),())))
  else
   bif (ae ((C7 h0)+(C7 ([v5.1]:List (Int)))) 8) then
    (X ((s0,((gt .i64 (i5+v5.2)),())),((h0++([v5.1]:List (Int))),())))
   else
    none
 else
  some ((.inr ((),(h0,()))))
noncomputable def oC (c:(pz18×((List Int)×Unit))):Option (((((List Int)×(Bool×Unit))×Unit) ⊕ (Unit×((List Int)×Unit)))):=gl (fun X c=>et N X c.1.1 c.1.2.1 c.2.1) N c
theorem tW (X:(pz18×((List Int)×Unit))→Option (((((List Int)×(Bool×Unit))×Unit) ⊕ (Unit×((List Int)×Unit)))))(s0:List UInt8)(i5:Int)(h0:List (Int)):(aq C6 (aq4 N) 400 [113] jj (ao C6 [113] 3) X ((s0,i5,()),(h0,()))).run=et N X s0 i5 h0:=by kernel_rfl
noncomputable def aq3:(R:Type)→Env R:=Da (aq4 N) [113] 0 3 (fun R=>lpK C6 jj (fun X c=>et N X c.1.1 c.1.2.1 c.2.1) N)
theorem ala (R:Type):EnvOK C6 (aq3 N R):=C9 (acI N R) (by kernel_rfl) (aw (li:=jj) hmx (acI N _) (by kernel_rfl) ab (fun X c=>tW N X c.1.1 c.1.2.1 c.2.1) N)
noncomputable def g9 (s0:List UInt8):Option ((List Int)×Bool):=
 ne (oC N ((s0,(0,())),(([]:List Int),()))) fun v2=>
 Sum.elim
  (fun (v3:(((List Int)×(Bool×Unit))×Unit))=>
  some ((v3.1.1,v3.1.2.1)))
  (fun (v3:(Unit×((List Int)×Unit)))=>
  some ((v3.2.1,true))) v2
theorem yR (s0:List UInt8):(runK C6 (aq3 N) 400 113 [.str] [(.sl (.int .i64)),.bool] (s0,())).run=g9 N s0:=by kernel_rfl
noncomputable def aq1:ET:=eFn (aq3 N) 113 [.str] [(.sl (.int .i64)),.bool] fun c=>g9 N c.1
theorem ak9:OkE (aq1 N):=aFn (ala N) (by kernel_rfl) fun c=>yR N c.1
noncomputable def mz (s0:List UInt8):Option Int:=
 ne (g9 N s0) fun v2=>
 bif (!v2.2) then
  some ((3:Int))
 else
  bif (decide ((64:Int)<(v2.1.length:Int))) then
   some ((8:Int))
  else
   some ((0:Int))
theorem Cw (s0:List UInt8):(runK C6 (aq1 N) 400 72 [.str] [(.int .i64)] (s0,())).run=mz N s0:=by kernel_rfl
noncomputable def atD:ET:=eFn (aq1 N) 72 [.str] [(.int .i64)] fun c=>mz N c.1
theorem ak8:OkE (atD N):=aFn (ak9 N) (by kernel_rfl) fun c=>Cw N c.1
noncomputable def aq0:ET:=Dj (atD N) [(73,9),(73,11)]
theorem acH:OkE (aq0 N):=fun R=>Dg (ak8 N R) [(73,9),(73,11)]
noncomputable def ji:LI:=⟨52,0,[(5,134)],⟨[(3,.ty (.sl (.int .i64))),(5,.lit (.own 0)),(6,.ty (.int .i64))],[.own (.int .u16) 134]⟩,[(.exit 0,⟨[(5,.lit (.own 0))],[.own (.int .u16) 134]⟩)]⟩
noncomputable def er (N:Nat)(X:(pz7×((List Int)×Unit))→Option pz3)(l3:List (Int))(i6:Int)(h0:List (Int)):Option pz3:=
 bif (decide (i6<(l3.length:Int))) then
  ne (getI l3 i6) fun v5=>
  bif (decide (v5<65536)) then
   ne (getI l3 i6) fun v6=>
   bif (ae ((C7 h0)+(C7 ([(gt .u16 v6)]:List (Int)))) 2) then
    (X ((l3,((gt .i64 (i6+1)),())),((h0++([(gt .u16 v6)]:List (Int))),())))
   else
    none
  else
   ne (getI l3 i6) fun v6=>
   bif (ae ((C7 h0)+(C7 ([(gt .u16 (gt .i64 ((55296:Int)+(gt .i64 (@Int.tdiv (gt .i64 (v6-65536)) (1024:Int)))))),(gt .u16 (gt .i64 ((56320:Int)+(@Df (gt .i64 (v6-65536)) (1024:Int)))))]:List (Int)))) 2) then
    (X ((l3,((gt .i64 (i6+1)),())),((h0++([(gt .u16 (gt .i64 ((55296:Int)+(gt .i64 (@Int.tdiv (gt .i64 (v6-65536)) (1024:Int)))))),(gt .u16 (gt .i64 ((56320:Int)+(@Df (gt .i64 (v6-65536)) (1024:Int)))))]:List (Int))),())))
   else
    none
 else
  some (((),(h0,())))
noncomputable def oB (c:(pz7×((List Int)×Unit))):Option pz3:=gl (fun X c=>er N X c.1.1 c.1.2.1 c.2.1) N c
theorem tV (X:(pz7×((List Int)×Unit))→Option pz3)(l3:List (Int))(i6:Int)(h0:List (Int)):(aq C6 (aq0 N) 400 [73] ji (ao C6 [73] 6) X ((l3,i6,()),(h0,()))).run=er N X l3 i6 h0:=by kernel_rfl
noncomputable def aqZ:(R:Type)→Env R:=Da (aq0 N) [73] 0 6 (fun R=>lpK C6 ji (fun X c=>er N X c.1.1 c.1.2.1 c.2.1) N)
theorem ak7 (R:Type):EnvOK C6 (aqZ N R):=C9 (acH N R) (by kernel_rfl) (aw (li:=ji) hmx (acH N _) (by kernel_rfl) ab (fun X c=>tV N X c.1.1 c.1.2.1 c.2.1) N)
noncomputable def j4 (s0:List UInt8):Option (List Int):=
 ne (mz N s0) fun v2=>
 bif (!(decide (v2=0))) then
  some (([]:List Int))
 else
  ne (g9 N s0) fun v3=>
  ne (oB N ((v3.1,(0,())),(([]:List Int),()))) fun v4=>
  some (v4.2.1)
theorem yQ (s0:List UInt8):(runK C6 (aqZ N) 400 73 [.str] [(.sl (.int .u16))] (s0,())).run=j4 N s0:=by kernel_rfl
noncomputable def atC:ET:=eFn (aqZ N) 73 [.str] [(.sl (.int .u16))] fun c=>j4 N c.1
theorem ak6:OkE (atC N):=aFn (ak7 N) (by kernel_rfl) fun c=>yQ N c.1
noncomputable def aqY:ET:=Dj (atC N) [(45,9)]
theorem acG:OkE (aqY N):=fun R=>Dg (ak6 N R) [(45,9)]
noncomputable def lu:LI:=⟨37,0,[(5,5)],⟨[(5,.lit (.own 0)),(6,.ty (.sl (.int .u16))),(7,.ty (.int .i64))],[.own (.int .u8) 5]⟩,[(.exit 0,⟨[(5,.lit (.own 0))],[.own (.int .u8) 5]⟩)]⟩
noncomputable def fW (N:Nat)(X:(pz7×((List Int)×Unit))→Option pz3)(u6:List (Int))(i7:Int)(h0:List (Int)):Option pz3:=
 bif (decide (i7<(u6.length:Int))) then
  ne (getI u6 i7) fun v5=>
  ne (getI u6 i7) fun v6=>
  bif (ae ((C7 h0)+(C7 ([(gt .u8 (@Df v5 (256:Int))),(gt .u8 (gt .u16 (@Int.tdiv v6 (256:Int))))]:List (Int)))) 1) then
   (X ((u6,((gt .i64 (i7+1)),())),((h0++([(gt .u8 (@Df v5 (256:Int))),(gt .u8 (gt .u16 (@Int.tdiv v6 (256:Int))))]:List (Int))),())))
  else
   none
 else
  some (((),(h0,())))
noncomputable def qz (c:(pz7×((List Int)×Unit))):Option pz3:=gl (fun X c=>fW N X c.1.1 c.1.2.1 c.2.1) N c
theorem wC (X:(pz7×((List Int)×Unit))→Option pz3)(u6:List (Int))(i7:Int)(h0:List (Int)):(aq C6 (aqY N) 400 [45] lu (ao C6 [45] 7) X ((u6,i7,()),(h0,()))).run=fW N X u6 i7 h0:=by kernel_rfl
noncomputable def aqX:(R:Type)→Env R:=Da (aqY N) [45] 0 7 (fun R=>lpK C6 lu (fun X c=>fW N X c.1.1 c.1.2.1 c.2.1) N)
theorem ak5 (R:Type):EnvOK C6 (aqX N R):=C9 (acG N R) (by kernel_rfl) (aw (li:=lu) hmx (acG N _) (by kernel_rfl) ab (fun X c=>wC N X c.1.1 c.1.2.1 c.2.1) N)
noncomputable def oZ (s0:List UInt8):Option ((List Int)×Int):=
 ne (mz N s0) fun v2=>
 bif (!(decide (v2=0))) then
  some ((([]:List Int),v2))
 else
  ne (j4 N s0) fun v3=>
  ne (qz N ((v3,(0,())),(([]:List Int),()))) fun v4=>
  some ((v4.2.1,(0:Int)))
theorem Cy (s0:List UInt8):(runK C6 (aqX N) 400 45 [.str] [(.sl (.int .u8)),(.int .i64)] (s0,())).run=oZ N s0:=by kernel_rfl
noncomputable def aqW:ET:=eFn (aqX N) 45 [.str] [(.sl (.int .u8)),(.int .i64)] fun c=>oZ N c.1
theorem ak4:OkE (aqW N):=aFn (ak5 N) (by kernel_rfl) fun c=>Cy N c.1
noncomputable def gH (password0:List UInt8):Option ((Arr Int 16)×Int):=
 ne (oO N password0) fun v2=>
 bif (!(decide (v2.2=0))) then
  some ((zc16,v2.2))
 else
  ne (tv N ([v2.1]:List ((List Int)))) fun v3=>
  some ((v3,(0:Int)))
theorem CW (password0:List UInt8):(runK C6 (aqW N) 400 41 [.str] [(.arr 16 (.int .u8)),(.int .i64)] (password0,())).run=gH N password0:=by kernel_rfl
noncomputable def atB:ET:=eFn (aqW N) 41 [.str] [(.arr 16 (.int .u8)),(.int .i64)] fun c=>gH N c.1
theorem ak3:OkE (atB N):=aFn (ak4 N) (by kernel_rfl) fun c=>CW N c.1
noncomputable def aqV:ET:=Env.addBx (atB N) [(93,0)]
theorem ak2:OkE (aqV N):=fun R=>EnvOK.addBx (ak3 N R) [(93,0)]
noncomputable def dM (h0:Arr Int 16):Option (Arr Int 16):=
 ne (tv N ([h0.l]:List ((List Int)))) fun v2=>
 some (v2)
theorem wY (h0:Arr Int 16):(runK C6 (aqV N) 400 93 [(.arr 16 (.int .u8))] [(.arr 16 (.int .u8))] (h0,())).run=dM N h0:=by kernel_rfl
noncomputable def atA:ET:=eFn (aqV N) 93 [(.arr 16 (.int .u8))] [(.arr 16 (.int .u8))] fun c=>dM N c.1
theorem ak1:OkE (atA N):=aFn (ak2 N) (by kernel_rfl) fun c=>wY N c.1
noncomputable def atz:ET:=Dj (atA N) [(103,2)]
theorem ak0:OkE (atz N):=fun R=>Dg (ak1 N R) [(103,2)]
noncomputable def aqU:ET:=Env.addBx (atz N) [(103,0)]
theorem akZ:OkE (aqU N):=fun R=>EnvOK.addBx (ak0 N R) [(103,0)]
noncomputable def vr (N:Nat)(h0:Arr Int 16):Option (Arr Int 21):=
 some ((@Arr.over Int (21:Nat) zc21 h0.l))
theorem zk (h0:Arr Int 16):(runK C6 (aqU N) 400 103 [(.arr 16 (.int .u8))] [(.arr 21 (.int .u8))] (h0,())).run=vr N h0:=by kernel_rfl
noncomputable def aty:ET:=eFn (aqU N) 103 [(.arr 16 (.int .u8))] [(.arr 21 (.int .u8))] fun c=>vr N c.1
theorem akY:OkE (aty N):=aFn (akZ N) (by kernel_rfl) fun c=>zk N c.1
noncomputable def aqT:ET:=Env.addBx (aty N) [(68,0)]
theorem akX:OkE (aqT N):=fun R=>EnvOK.addBx (akY N R) [(68,0)]
noncomputable def fe (N:Nat)(h0:Arr Int 16):Option (Arr (Arr Int 7) 3):=
 ne (cR (@Arr.over Int (21:Nat) zc21 h0.l).l (7:Int)) fun v2=>
 ne (@eW Int (7:Nat) v2) fun v3=>
 ne (subI (@Arr.over Int (21:Nat) zc21 h0.l).l (7:Int) (14:Int)) fun v4=>
 ne (@eW Int (7:Nat) v4) fun v5=>
 ne (b9 (@Arr.over Int (21:Nat) zc21 h0.l).l (14:Int)) fun v6=>
 ne (@eW Int (7:Nat) v6) fun v7=>
 some ((@Dd (Arr Int 7) (2:Nat) v3 (@Dd (Arr Int 7) (1:Nat) v5 (@Dd (Arr Int 7) (0:Nat) v7 (@Arr.nil (Arr Int 7))))))
theorem vq (h0:Arr Int 16):(runK C6 (aqT N) 400 68 [(.arr 16 (.int .u8))] [(.arr 3 (.arr 7 (.int .u8)))] (h0,())).run=fe N h0:=by kernel_rfl
noncomputable def aqS:ET:=eFn (aqT N) 68 [(.arr 16 (.int .u8))] [(.arr 3 (.arr 7 (.int .u8)))] fun c=>fe N c.1
theorem akW:OkE (aqS N):=aFn (akX N) (by kernel_rfl) fun c=>vq N c.1
noncomputable def qg (password0:List UInt8):Option ((Arr Int 16)×Int):=
 ne (oZ N password0) fun v2=>
 bif (!(decide (v2.2=0))) then
  some ((zc16,v2.2))
 else
  ne (k9 N v2.1) fun v3=>
  some ((v3,(0:Int)))
theorem acX (password0:List UInt8):(runK C6 (aqS N) 400 26 [.str] [(.arr 16 (.int .u8)),(.int .i64)] (password0,())).run=qg N password0:=by kernel_rfl
noncomputable def atx:ET:=eFn (aqS N) 26 [.str] [(.arr 16 (.int .u8)),(.int .i64)] fun c=>qg N c.1
theorem akV:OkE (atx N):=aFn (akW N) (by kernel_rfl) fun c=>acX N c.1
noncomputable def aqR:ET:=Env.addBx (atx N) [(63,0)]
theorem akU:OkE (aqR N):=fun R=>EnvOK.addBx (akV N R) [(63,0)]
noncomputable def eR (h0:Arr Int 16):Option (Arr Int 16):=
 ne (k9 N h0.l) fun v2=>
 some (v2)
theorem yO (h0:Arr Int 16):(runK C6 (aqR N) 400 63 [(.arr 16 (.int .u8))] [(.arr 16 (.int .u8))] (h0,())).run=eR N h0:=by kernel_rfl
noncomputable def atw:ET:=eFn (aqR N) 63 [(.arr 16 (.int .u8))] [(.arr 16 (.int .u8))] fun c=>eR N c.1
theorem akT:OkE (atw N):=aFn (akU N) (by kernel_rfl) fun c=>yO N c.1
noncomputable def aqQ:ET:=Env.addBx (atw N) [(48,0)]
theorem akS:OkE (aqQ N):=fun R=>EnvOK.addBx (akT N R) [(48,0)]
noncomputable def cL (N:Nat)(h0:Arr Int 16)(n1:Int):Option (List Int):=
 bif (ae (C7 h0.l) 1) then
  bif (ae ((C7 h0.l)+(C7 ([0,0,0,0,0]:List Int))) 1) then
   ne (subI (h0.l++([0,0,0,0,0]:List Int)) (gt .i64 ((7:Int)*n1)) (gt .i64 ((gt .i64 ((7:Int)*n1))+7))) fun v3=>
   some (v3)
  else
   none
 else
  none
theorem yP (h0:Arr Int 16)(n1:Int):(runK C6 (aqQ N) 400 48 [(.arr 16 (.int .u8)),(.int .i64)] [(.sl (.int .u8))] (h0,n1,())).run=cL N h0 n1:=by kernel_rfl
noncomputable def atv:ET:=eFn (aqQ N) 48 [(.arr 16 (.int .u8)),(.int .i64)] [(.sl (.int .u8))] fun c=>cL N c.1 c.2.1
theorem akR:OkE (atv N):=aFn (akS N) (by kernel_rfl) fun c=>yP N c.1 c.2.1
noncomputable def aqO:(R:Type)→Env R:=Env.addFn (atv N) 206 (fun R=>ixK)
theorem akQ (R:Type):EnvOK C6 (aqO N R):=EnvOK.addExt (akR N R) (atU (fn:=Go.Proofs.Tryz.f206) (by kernel_rfl) (by kernel_rfl) (by decide +kernel) (by kernel_rfl) (by kernel_rfl))
noncomputable def iH (N:Nat)(s0:List UInt8)(c1:Int):Option Int:=
 some ((@idxB s0 c1))
theorem nv (s0:List UInt8)(c1:Int):(runK C6 (aqO N) 400 205 [.str,(.int .u8)] [(.int .i64)] (s0,c1,())).run=iH N s0 c1:=by kernel_rfl
noncomputable def aqN:ET:=eFn (aqO N) 205 [.str,(.int .u8)] [(.int .i64)] fun c=>iH N c.1 c.2.1
theorem akP:OkE (aqN N):=aFn (akQ N) (by kernel_rfl) fun c=>nv N c.1 c.2.1
noncomputable def mb (N:Nat)(s0:List UInt8)(c1:Int):Option Int:=
 some ((@idxB s0 c1))
theorem qN (s0:List UInt8)(c1:Int):(runK C6 (aqN N) 400 201 [.str,(.int .u8)] [(.int .i64)] (s0,c1,())).run=mb N s0 c1:=by kernel_rfl
noncomputable def aqM:ET:=eFn (aqN N) 201 [.str,(.int .u8)] [(.int .i64)] fun c=>mb N c.1 c.2.1
theorem akO:OkE (aqM N):=aFn (akP N) (by kernel_rfl) fun c=>qN N c.1 c.2.1
noncomputable def pK (N:Nat)(n0:Int)(six1:Int):Option Int:=
 ne (bif (decide (n0<1)) then
   some (true)
  else
   some ((cond false true (decide (8<n0))))) fun (v3:Bool)=>
 bif v3 then
  some ((0:Int))
 else
  ne (getI (Array.toList (List.toArray (@Dh UInt8 (@Dh UInt8 (@Dh UInt8 ([69,52,68,49,50,70,66,56,51,65,54,67,53,57,48,55,48,70,55,52,69,50,68,49,65,54,67,66,57,53,51,56,52,49,69,56,68,54,50,66,70,67,57,55,51,65,53,48,70,67,56,50,52,57,49,55,53,66,51,69,65,48,54,68]:List UInt8) ([70,49,56,69,54,66,51,52,57,55,50,68,67,48,53,65,51,68,52,55,70,50,56,69,67,48,49,65,54,57,66,53,48,69,55,66,65,52,68,49,53,56,67,54,57,51,50,70,68,56,65,49,51,70,52,50,66,54,55,67,48,53,69,57]:List UInt8)) (@Dh UInt8 ([65,48,57,69,54,51,70,53,49,68,67,55,66,52,50,56,68,55,48,57,51,52,54,65,50,56,53,69,67,66,70,49,68,54,52,57,56,70,51,48,66,49,50,67,53,65,69,55,49,65,68,48,54,57,56,55,52,70,69,51,66,53,50,67]:List UInt8) ([55,68,69,51,48,54,57,65,49,50,56,53,66,67,52,70,68,56,66,53,54,70,48,51,52,55,50,67,49,65,69,57,65,54,57,48,67,66,55,68,70,49,51,69,53,50,56,52,51,70,48,54,65,49,68,56,57,52,53,66,67,55,50,69]:List UInt8))) (@Dh UInt8 (@Dh UInt8 ([50,67,52,49,55,65,66,54,56,53,51,70,68,48,69,57,69,66,50,67,52,55,68,49,53,48,70,65,51,57,56,54,52,50,49,66,65,68,55,56,70,57,67,53,54,51,48,69,66,56,67,55,49,69,50,68,54,70,48,57,65,52,53,51]:List UInt8) ([67,49,65,70,57,50,54,56,48,68,51,52,69,55,53,66,65,70,52,50,55,67,57,53,54,49,68,69,48,66,51,56,57,69,70,53,50,56,67,51,55,48,52,65,49,68,66,54,52,51,50,67,57,53,70,65,66,69,49,55,54,48,56,68]:List UInt8)) (@Dh UInt8 ([52,66,50,69,70,48,56,68,51,67,57,55,53,65,54,49,68,48,66,55,52,57,49,65,69,51,53,67,50,70,56,54,49,52,66,68,67,51,55,69,65,70,54,56,48,53,57,50,54,66,68,56,49,52,65,55,57,53,48,70,69,50,51,67]:List UInt8) ([68,50,56,52,54,70,66,49,65,57,51,69,53,48,67,55,49,70,68,56,65,51,55,52,67,53,54,66,48,69,57,50,55,66,52,49,57,67,69,50,48,54,65,68,70,51,53,56,50,49,69,55,52,65,56,68,70,67,57,48,51,53,54,66]:List UInt8)))))) (gt .u64 ((gt .u64 ((gt .u64 ((64:Int)*(gt .u64 (gt .i64 (n0-1)))))+(gt .u64 ((16:Int)*(bits .or .u64 (bits .and .u64 (@Di six1 ((2:Int) ^ (min (C8 (4:Int)) (Db .u64)))) (2:Int)) (bits .and .u64 six1 (1:Int)))))))+(bits .and .u64 (@Di six1 ((2:Int) ^ (min (C8 (1:Int)) (Db .u64)))) (15:Int))))) fun v4=>
  some ((gt .u64 (@idxB (Array.toList (List.toArray ([48,49,50,51,52,53,54,55,56,57,65,66,67,68,69,70]:List UInt8))) (((@Dc v4):Nat):Int))))
theorem afL (n0:Int)(six1:Int):(runK C6 (aqM N) 400 185 [(.int .i64),(.int .u64)] [(.int .u64)] (n0,six1,())).run=pK N n0 six1:=by kernel_rfl
noncomputable def atu:ET:=eFn (aqM N) 185 [(.int .i64),(.int .u64)] [(.int .u64)] fun c=>pK N c.1 c.2.1
theorem akN:OkE (atu N):=aFn (akO N) (by kernel_rfl) fun c=>afL N c.1 c.2.1
noncomputable def aqL:ET:=Dj (atu N) [(168,8),(168,10)]
theorem acF:OkE (aqL N):=fun R=>Dg (akN N R) [(168,8),(168,10)]
noncomputable def cA:LI:=⟨21,1,[(0,3)],⟨[(0,.lit (.own 1)),(1,.ty (.int .i64)),(8,.ty (.int .i64)),(9,.ty (.int .i64))],[.dead,.own (.int .i64) 3]⟩,[(.exit 0,⟨[(0,.lit (.own 1))],[.dead,.own (.int .i64) 3]⟩)]⟩
noncomputable def cM (N:Nat)(X:(pz10×((List Int)×Unit))→Option pz3)(x1:Int)(x8:Int)(x9:Int)(h0:List (Int)):Option pz3:=
 bif (decide (x9<x8)) then
  bif (ae ((C7 h0)+(C7 ([(gt .i64 (x1-(gt .i64 ((8:Int)*x9))))]:List (Int)))) 8) then
   (X ((x1,(x8,((gt .i64 (x9+1)),()))),((h0++([(gt .i64 (x1-(gt .i64 ((8:Int)*x9))))]:List (Int))),())))
  else
   none
 else
  some (((),(h0,())))
noncomputable def jr (c:(pz10×((List Int)×Unit))):Option pz3:=gl (fun X c=>cM N X c.1.1 c.1.2.1 c.1.2.2.1 c.2.1) N c
theorem jq (X:(pz10×((List Int)×Unit))→Option pz3)(x1:Int)(x8:Int)(x9:Int)(h0:List (Int)):(aq C6 (aqL N) 400 [184,8,168] cA (ao C6 [184,8,168] 2) X ((x1,x8,x9,()),(h0,()))).run=cM N X x1 x8 x9 h0:=by kernel_rfl
noncomputable def aqK:(R:Type)→Env R:=Da (aqL N) [184,8,168] 1 2 (fun R=>lpK C6 cA (fun X c=>cM N X c.1.1 c.1.2.1 c.1.2.2.1 c.2.1) N)
theorem acE (R:Type):EnvOK C6 (aqK N R):=C9 (acF N R) (by kernel_rfl) (aw (li:=cA) hmx (acF N _) (by kernel_rfl) ab (fun X c=>jq N X c.1.1 c.1.2.1 c.1.2.2.1 c.2.1) N)
noncomputable def kL:LI:=⟨28,0,[],⟨[(1,.lit (.own 0)),(3,.adr (.arr 4 (.int .i64))),(8,.ty (.arr 2 (.arr 4 (.int .i64)))),(9,.ty (.int .i64)),(12,.ty (.sl (.int .i64))),(13,.ty (.int .i64)),(14,.ty (.int .i64))],[.own (.int .i64) 3]⟩,[(.exit 2,⟨[(1,.lit (.own 0)),(3,.adr (.arr 4 (.int .i64))),(8,.ty (.arr 2 (.arr 4 (.int .i64)))),(9,.ty (.int .i64))],[.own (.int .i64) 3]⟩)]⟩
noncomputable def n9 (X:(((Arr Int 4)×((Arr (Arr Int 4) 2)×(Int×pz8)))×((List Int)×Unit))→Option ((((Arr Int 4)×((Arr (Arr Int 4) 2)×(Int×Unit)))×((List Int)×Unit))))(half3:Arr Int 4)(x8:Arr (Arr Int 4) 2)(x9:Int)(x12:List (Int))(x13:Int)(x14:Int)(h0:List (Int)):Option ((((Arr Int 4)×((Arr (Arr Int 4) 2)×(Int×Unit)))×((List Int)×Unit))):=
 bif (decide (x14<x13)) then
  ne (getI x12 x14) fun v9=>
  ne (jr N ((v9,(8,(0,()))),(h0,()))) fun v10=>
  (X ((half3,(x8,(x9,(x12,(x13,((gt .i64 (x14+1)),())))))),(v10.2.1,())))
 else
  some (((half3,(x8,(x9,()))),(h0,())))
noncomputable def vQ (c:(((Arr Int 4)×((Arr (Arr Int 4) 2)×(Int×pz8)))×((List Int)×Unit))):Option ((((Arr Int 4)×((Arr (Arr Int 4) 2)×(Int×Unit)))×((List Int)×Unit))):=gl (fun X c=>n9 N X c.1.1 c.1.2.1 c.1.2.2.1 c.1.2.2.2.1 c.1.2.2.2.2.1 c.1.2.2.2.2.2.1 c.2.1) N c
theorem vP (X:(((Arr Int 4)×((Arr (Arr Int 4) 2)×(Int×pz8)))×((List Int)×Unit))→Option ((((Arr Int 4)×((Arr (Arr Int 4) 2)×(Int×Unit)))×((List Int)×Unit))))(half3:Arr Int 4)(x8:Arr (Arr Int 4) 2)(x9:Int)(x12:List (Int))(x13:Int)(x14:Int)(h0:List (Int)):(aq C6 (aqK N) 400 [168] kL (ao C6 [168] 6) X ((half3,x8,x9,x12,x13,x14,()),(h0,()))).run=n9 N X half3 x8 x9 x12 x13 x14 h0:=by kernel_rfl
noncomputable def aqJ:(R:Type)→Env R:=Da (aqK N) [168] 0 6 (fun R=>lpK C6 kL (fun X c=>n9 N X c.1.1 c.1.2.1 c.1.2.2.1 c.1.2.2.2.1 c.1.2.2.2.2.1 c.1.2.2.2.2.2.1 c.2.1) N)
theorem acD (R:Type):EnvOK C6 (aqJ N R):=C9 (acE N R) (by kernel_rfl) (aw (li:=kL) hmx (acE N _) (by kernel_rfl) ab (fun X c=>vP N X c.1.1 c.1.2.1 c.1.2.2.1 c.1.2.2.2.1 c.1.2.2.2.2.1 c.1.2.2.2.2.2.1 c.2.1) N)
noncomputable def cq:LI:=⟨21,1,[(0,3)],⟨[(0,.lit (.own 1)),(1,.ty (.int .i64)),(8,.ty (.int .i64)),(9,.ty (.int .i64))],[.dead,.own (.int .i64) 3]⟩,[(.exit 0,⟨[(0,.lit (.own 1))],[.dead,.own (.int .i64) 3]⟩)]⟩
noncomputable def cE (N:Nat)(X:(pz10×((List Int)×Unit))→Option pz3)(x1:Int)(x8:Int)(x9:Int)(h0:List (Int)):Option pz3:=
 bif (decide (x9<x8)) then
  bif (ae ((C7 h0)+(C7 ([(gt .i64 (x1-(gt .i64 ((8:Int)*x9))))]:List (Int)))) 8) then
   (X ((x1,(x8,((gt .i64 (x9+1)),()))),((h0++([(gt .i64 (x1-(gt .i64 ((8:Int)*x9))))]:List (Int))),())))
  else
   none
 else
  some (((),(h0,())))
noncomputable def iU (c:(pz10×((List Int)×Unit))):Option pz3:=gl (fun X c=>cE N X c.1.1 c.1.2.1 c.1.2.2.1 c.2.1) N c
theorem iT (X:(pz10×((List Int)×Unit))→Option pz3)(x1:Int)(x8:Int)(x9:Int)(h0:List (Int)):(aq C6 (aqJ N) 400 [184,10,168] cq (ao C6 [184,10,168] 2) X ((x1,x8,x9,()),(h0,()))).run=cE N X x1 x8 x9 h0:=by kernel_rfl
noncomputable def aqI:(R:Type)→Env R:=Da (aqJ N) [184,10,168] 1 2 (fun R=>lpK C6 cq (fun X c=>cE N X c.1.1 c.1.2.1 c.1.2.2.1 c.2.1) N)
theorem acC (R:Type):EnvOK C6 (aqI N R):=C9 (acD N R) (by kernel_rfl) (aw (li:=cq) hmx (acD N _) (by kernel_rfl) ab (fun X c=>iT N X c.1.1 c.1.2.1 c.1.2.2.1 c.2.1) N)
noncomputable def kM:LI:=⟨28,0,[(1,3)],⟨[(1,.lit (.own 0)),(8,.ty (.arr 2 (.arr 4 (.int .i64)))),(9,.ty (.int .i64))],[.own (.int .i64) 3]⟩,[(.exit 0,⟨[(1,.lit (.own 0))],[.own (.int .i64) 3]⟩)]⟩
noncomputable def oa (X:(((Arr (Arr Int 4) 2)×(Int×Unit))×((List Int)×Unit))→Option pz3)(x8:Arr (Arr Int 4) 2)(x9:Int)(h0:List (Int)):Option pz3:=
 bif (decide (x9<2)) then
  ne (getI x8.l x9) fun v5=>
  ne (cR v5.l (3:Int)) fun v6=>
  ne (vQ N ((v5,(x8,(x9,(v6,((v6.length:Int),(0,())))))),(h0,()))) fun v7=>
  ne (getI v7.1.1.l 3) fun v8=>
  ne (iU N ((v8,(4,(0,()))),(v7.2.1,()))) fun v9=>
  (X ((v7.1.2.1,((gt .i64 (v7.1.2.2.1+1)),())),(v9.2.1,())))
 else
  some (((),(h0,())))
noncomputable def vS (c:(((Arr (Arr Int 4) 2)×(Int×Unit))×((List Int)×Unit))):Option pz3:=gl (fun X c=>oa N X c.1.1 c.1.2.1 c.2.1) N c
theorem vR (X:(((Arr (Arr Int 4) 2)×(Int×Unit))×((List Int)×Unit))→Option pz3)(x8:Arr (Arr Int 4) 2)(x9:Int)(h0:List (Int)):(aq C6 (aqI N) 400 [168] kM (ao C6 [168] 3) X ((x8,x9,()),(h0,()))).run=oa N X x8 x9 h0:=by kernel_rfl
noncomputable def aqH:(R:Type)→Env R:=Da (aqI N) [168] 0 3 (fun R=>lpK C6 kM (fun X c=>oa N X c.1.1 c.1.2.1 c.2.1) N)
theorem akM (R:Type):EnvOK C6 (aqH N R):=C9 (acC N R) (by kernel_rfl) (aw (li:=kM) hmx (acC N _) (by kernel_rfl) ab (fun X c=>vR N X c.1.1 c.1.2.1 c.2.1) N)
noncomputable def ni:Option (List Int):=
 ne (vS N (((@Dd (Arr Int 4) (1:Nat) (@Dd Int 3 57 (@Dd Int 2 58 (@Dd Int 1 59 (@Dd Int 0 60 (@Arr.nil Int))))) (@Dd (Arr Int 4) (0:Nat) (@Dd Int 3 63 (@Dd Int 2 62 (@Dd Int 1 61 (@Dd Int 0 28 (@Arr.nil Int))))) (@Arr.nil (Arr Int 4)))),(0,())),(([]:List Int),()))) fun v1=>
 some (v1.2.1)
theorem BQ:(runK C6 (aqH N) 400 168 [] [(.sl (.int .i64))] ()).run=ni N:=by kernel_rfl
noncomputable def aqG:ET:=eFn (aqH N) 168 [] [(.sl (.int .i64))] fun c=>ni N
theorem akL:OkE (aqG N):=aFn (akM N) (by kernel_rfl) fun c=>BQ N
noncomputable def lh (N:Nat)(width0:Int):Option Bool:=
 ne (bif (decide (1≤width0)) then
   some ((cond true (decide (width0≤64)) false))
  else
   some (false)) fun (v2:Bool)=>
 some (v2)
theorem adH (width0:Int):(runK C6 (aqG N) 400 186 [(.int .i64)] [.bool] (width0,())).run=lh N width0:=by kernel_rfl
noncomputable def aqF:ET:=eFn (aqG N) 186 [(.int .i64)] [.bool] fun c=>lh N c.1
theorem acB:OkE (aqF N):=aFn (akL N) (by kernel_rfl) fun c=>adH N c.1
noncomputable def iC:LI:=⟨39,0,[],⟨[(0,.ty (.int .u64)),(1,.ty (.int .i64)),(2,.ty (.sl (.int .i64))),(19,.ty (.sl (.int .i64))),(20,.ty (.int .i64)),(21,.ty (.int .i64))],[]⟩,[(.ret,⟨[(6,.ty (.int .u64)),(7,.ty (.int .i64))],[]⟩),(.exit 0,⟨[(0,.ty (.int .u64)),(1,.ty (.int .i64)),(2,.ty (.sl (.int .i64)))],[]⟩)]⟩
noncomputable def eV (N:Nat)(X:((Int×(Int×((List Int)×pz8)))×Unit)→Option ((pz16 ⊕ (pz17×Unit))))(x0:Int)(width1:Int)(table2:List (Int))(x19:List (Int))(x20:Int)(x21:Int):Option ((pz16 ⊕ (pz17×Unit))):=
 bif (decide (x21<x20)) then
  ne (getI x19 x21) fun v8=>
  ne (bif (decide (v8<1)) then
    some (true)
   else
    some ((cond false true (decide (width1<v8))))) fun (v9:Bool)=>
  bif v9 then
   some ((.inl ((0,(1,())),())))
  else
   (X ((x0,(width1,(table2,(x19,(x20,((gt .i64 (x21+1)),())))))),()))
 else
  some ((.inr ((x0,(width1,(table2,()))),())))
noncomputable def iB (c:((Int×(Int×((List Int)×pz8)))×Unit)):Option ((pz16 ⊕ (pz17×Unit))):=gl (fun X c=>eV N X c.1.1 c.1.2.1 c.1.2.2.1 c.1.2.2.2.1 c.1.2.2.2.2.1 c.1.2.2.2.2.2.1) N c
theorem tj (X:((Int×(Int×((List Int)×pz8)))×Unit)→Option ((pz16 ⊕ (pz17×Unit))))(x0:Int)(width1:Int)(table2:List (Int))(x19:List (Int))(x20:Int)(x21:Int):(aq C6 (aqF N) 400 [183] iC (ao C6 [183] 4) X ((x0,width1,table2,x19,x20,x21,()),())).run=eV N X x0 width1 table2 x19 x20 x21:=by kernel_rfl
noncomputable def aqE:(R:Type)→Env R:=Da (aqF N) [183] 0 4 (fun R=>lpK C6 iC (fun X c=>eV N X c.1.1 c.1.2.1 c.1.2.2.1 c.1.2.2.2.1 c.1.2.2.2.2.1 c.1.2.2.2.2.2.1) N)
theorem akK (R:Type):EnvOK C6 (aqE N R):=C9 (acB N R) (by kernel_rfl) (aw (li:=iC) hmx (acB N _) (by kernel_rfl) ab (fun X c=>tj N X c.1.1 c.1.2.1 c.1.2.2.1 c.1.2.2.2.1 c.1.2.2.2.2.1 c.1.2.2.2.2.2.1) N)
noncomputable def sq (x0:Int)(width1:Int)(i2:Int):Option Int:=
 ne (lh N width1) fun v4=>
 ne (bif (!v4) then
   some (true)
  else
   some ((cond false true (decide (i2<1))))) fun (v5:Bool)=>
 ne (bif v5 then
   some (true)
  else
   some ((cond false true (decide (width1<i2))))) fun (v6:Bool)=>
 bif v6 then
  some ((0:Int))
 else
  bif (decide ((0:Int)≤(gt .i64 (width1-i2)))) then
   some ((bits .and .u64 (@Di x0 ((2:Int) ^ (min (C8 (gt .i64 (width1-i2))) (Db .u64)))) (1:Int)))
  else
   none
theorem adK (x0:Int)(width1:Int)(i2:Int):(runK C6 (aqE N) 400 204 [(.int .u64),(.int .i64),(.int .i64)] [(.int .u64)] (x0,width1,i2,())).run=sq N x0 width1 i2:=by kernel_rfl
noncomputable def aqD:ET:=eFn (aqE N) 204 [(.int .u64),(.int .i64),(.int .i64)] [(.int .u64)] fun c=>sq N c.1 c.2.1 c.2.2.1
theorem acA:OkE (aqD N):=aFn (akK N) (by kernel_rfl) fun c=>adK N c.1 c.2.1 c.2.2.1
noncomputable def cg:LI:=⟨23,1,[],⟨[(0,.ty (.int .u64)),(1,.ty (.int .i64)),(3,.lit (.clo 200 [.box 0 0])),(10,.ty (.sl (.int .i64))),(11,.ty (.int .i64)),(12,.ty (.int .i64))],[.box 136 (.int .u64)]⟩,[(.exit 0,⟨[],[.box 136 (.int .u64)]⟩)]⟩
noncomputable def aU (X:((Int×(Int×pz8))×(Int×Unit))→Option ((Unit×(Int×Unit))))(x0:Int)(width1:Int)(x10:List (Int))(x11:Int)(x12:Int)(h0:Int):Option ((Unit×(Int×Unit))):=
 bif (decide (x12<x11)) then
  ne (getI x10 x12) fun v8=>
  ne (sq N x0 width1 v8) fun v9=>
  (X ((x0,(width1,(x10,(x11,((gt .i64 (x12+1)),()))))),((bits .or .u64 (gt .u64 (h0*((2:Int) ^ (min (C8 (1:Int)) (Db .u64))))) v9),())))
 else
  some (((),(h0,())))
noncomputable def cf (c:((Int×(Int×pz8))×(Int×Unit))):Option ((Unit×(Int×Unit))):=gl (fun X c=>aU N X c.1.1 c.1.2.1 c.1.2.2.1 c.1.2.2.2.1 c.1.2.2.2.2.1 c.2.1) N c
theorem iD (X:((Int×(Int×pz8))×(Int×Unit))→Option ((Unit×(Int×Unit))))(x0:Int)(width1:Int)(x10:List (Int))(x11:Int)(x12:Int)(h0:Int):(aq C6 (aqD N) 400 [199,10,183] cg (ao C6 [199,10,183] 1) X ((x0,width1,x10,x11,x12,()),(h0,()))).run=aU N X x0 width1 x10 x11 x12 h0:=by kernel_rfl
noncomputable def aqC:(R:Type)→Env R:=Da (aqD N) [199,10,183] 1 1 (fun R=>lpK C6 cg (fun X c=>aU N X c.1.1 c.1.2.1 c.1.2.2.1 c.1.2.2.2.1 c.1.2.2.2.2.1 c.2.1) N)
theorem akJ (R:Type):EnvOK C6 (aqC N R):=C9 (acA N R) (by kernel_rfl) (aw (li:=cg) hmx (acA N _) (by kernel_rfl) ab (fun X c=>iD N X c.1.1 c.1.2.1 c.1.2.2.1 c.1.2.2.2.1 c.1.2.2.2.2.1 c.2.1) N)
noncomputable def lk (x0:Int)(width1:Int)(table2:List (Int)):Option (Int×Int):=
 ne (lh N width1) fun v4=>
 bif (!v4) then
  some ((0,(1:Int)))
 else
  ne (some ((cond false true (decide ((64:Int)<(table2.length:Int)))))) fun (v5:Bool)=>
  bif v5 then
   some ((0,(1:Int)))
  else
   ne (iB N ((x0,(width1,(table2,(table2,((table2.length:Int),(0,())))))),())) fun v6=>
   Sum.elim
    (fun (v7:pz16)=>
    some ((v7.1.1,v7.1.2.1)))
    (fun (v7:(pz17×Unit))=>
    ne (cf N ((v7.1.1,(v7.1.2.1,(v7.1.2.2.1,((v7.1.2.2.1.length:Int),(0,()))))),(0,()))) fun v8=>
    some ((v8.2.1,(0:Int)))) v6
theorem xm (x0:Int)(width1:Int)(table2:List (Int)):(runK C6 (aqC N) 400 183 [(.int .u64),(.int .i64),(.sl (.int .i64))] [(.int .u64),(.int .i64)] (x0,width1,table2,())).run=lk N x0 width1 table2:=by kernel_rfl
noncomputable def aqB:ET:=eFn (aqC N) 183 [(.int .u64),(.int .i64),(.sl (.int .i64))] [(.int .u64),(.int .i64)] fun c=>lk N c.1 c.2.1 c.2.2.1
theorem akI:OkE (aqB N):=aFn (akJ N) (by kernel_rfl) fun c=>xm N c.1 c.2.1 c.2.2.1
noncomputable def aV (x0:Int)(width1:Int)(table2:List (Int)):Option Int:=
 ne (lk N x0 width1 table2) fun v4=>
 some (v4.1)
theorem xf (x0:Int)(width1:Int)(table2:List (Int)):(runK C6 (aqB N) 400 163 [(.int .u64),(.int .i64),(.sl (.int .i64))] [(.int .u64)] (x0,width1,table2,())).run=aV N x0 width1 table2:=by kernel_rfl
noncomputable def aqA:ET:=eFn (aqB N) 163 [(.int .u64),(.int .i64),(.sl (.int .i64))] [(.int .u64)] fun c=>aV N c.1 c.2.1 c.2.2.1
theorem akH:OkE (aqA N):=aFn (akI N) (by kernel_rfl) fun c=>xf N c.1 c.2.1 c.2.2.1
noncomputable def ux (N:Nat)(x0:Int)(many1:Int):Option Int:=
 bif (decide (0≤many1)) then
  some ((bits .and .u64 x0 (gt .u64 ((gt .u64 ((1:Int)*((2:Int) ^ (min (C8 many1) (Db .u64)))))-1))))
 else
  none
theorem adI (x0:Int)(many1:Int):(runK C6 (aqA N) 400 187 [(.int .u64),(.int .i64)] [(.int .u64)] (x0,many1,())).run=ux N x0 many1:=by kernel_rfl
noncomputable def aqz:ET:=eFn (aqA N) 187 [(.int .u64),(.int .i64)] [(.int .u64)] fun c=>ux N c.1 c.2.1
theorem akG:OkE (aqz N):=aFn (akH N) (by kernel_rfl) fun c=>adI N c.1 c.2.1
noncomputable def qr (x0:Int)(width1:Int)(x2:Int):Option (Int×Int×Int):=
 ne (lh N width1) fun v4=>
 ne (bif (!v4) then
   some (true)
  else
   some ((cond false true (decide (x2<0))))) fun (v5:Bool)=>
 ne (bif v5 then
   some (true)
  else
   some ((cond false true (decide (width1<x2))))) fun (v6:Bool)=>
 bif v6 then
  some ((0,(0,(1:Int))))
 else
  ne (ux N x0 width1) fun v7=>
  bif (decide ((0:Int)≤(gt .i64 (width1-x2)))) then
   ne (ux N v7 (gt .i64 (width1-x2))) fun v8=>
   some (((@Di v7 ((2:Int) ^ (min (C8 (gt .i64 (width1-x2))) (Db .u64)))),(v8,(0:Int))))
  else
   none
theorem B7 (x0:Int)(width1:Int)(x2:Int):(runK C6 (aqz N) 400 167 [(.int .u64),(.int .i64),(.int .i64)] [(.int .u64),(.int .u64),(.int .i64)] (x0,width1,x2,())).run=qr N x0 width1 x2:=by kernel_rfl
noncomputable def aqy:ET:=eFn (aqz N) 167 [(.int .u64),(.int .i64),(.int .i64)] [(.int .u64),(.int .u64),(.int .i64)] fun c=>qr N c.1 c.2.1 c.2.2.1
theorem akF:OkE (aqy N):=aFn (akG N) (by kernel_rfl) fun c=>B7 N c.1 c.2.1 c.2.2.1
noncomputable def tF (N:Nat):Option (List Int):=
 some ((((([14,17,11,24,1,5,3,28,15,6,21,10]:List Int)++([23,19,12,4,26,8,16,7,27,20,13,2]:List Int))++([41,52,31,37,47,55,30,40,51,45,33,48]:List Int))++([44,49,39,56,34,53,46,42,50,36,29,32]:List Int)))
theorem xg:(runK C6 (aqy N) 400 169 [] [(.sl (.int .i64))] ()).run=tF N:=by kernel_rfl
noncomputable def aqx:ET:=eFn (aqy N) 169 [] [(.sl (.int .i64))] fun c=>tF N
theorem acz:OkE (aqx N):=aFn (akF N) (by kernel_rfl) fun c=>xg N
noncomputable def kJ:LI:=⟨23,0,[],⟨[(0,.ty (.int .u64)),(1,.ty (.int .i64)),(5,.ty (.int .i64)),(8,.ty (.arr 4 (.int .i64))),(9,.ty (.int .i64))],[]⟩,[(.exit 0,⟨[(0,.ty (.int .u64)),(5,.ty (.int .i64))],[]⟩)]⟩
noncomputable def n7 (N:Nat)(X:((Int×(Int×(Int×pz27)))×Unit)→Option (pz16))(half0:Int)(round1:Int)(x5:Int)(x8:Arr Int 4)(x9:Int):Option (pz16):=
 bif (decide (x9<4)) then
  ne (getI x8.l x9) fun v7=>
  bif (decide (v7=round1)) then
   (X ((half0,(round1,(1,(x8,((gt .i64 (x9+1)),()))))),()))
  else
   (X ((half0,(round1,(x5,(x8,((gt .i64 (x9+1)),()))))),()))
 else
  some (((half0,(x5,())),()))
noncomputable def kI (c:((Int×(Int×(Int×pz27)))×Unit)):Option (pz16):=gl (fun X c=>n7 N X c.1.1 c.1.2.1 c.1.2.2.1 c.1.2.2.2.1 c.1.2.2.2.2.1) N c
theorem vO (X:((Int×(Int×(Int×pz27)))×Unit)→Option (pz16))(half0:Int)(round1:Int)(x5:Int)(x8:Arr Int 4)(x9:Int):(aq C6 (aqx N) 400 [170] kJ (ao C6 [170] 3) X ((half0,round1,x5,x8,x9,()),())).run=n7 N X half0 round1 x5 x8 x9:=by kernel_rfl
noncomputable def aqw:(R:Type)→Env R:=Da (aqx N) [170] 0 3 (fun R=>lpK C6 kJ (fun X c=>n7 N X c.1.1 c.1.2.1 c.1.2.2.1 c.1.2.2.2.1 c.1.2.2.2.2.1) N)
theorem akE (R:Type):EnvOK C6 (aqw N R):=C9 (acz N R) (by kernel_rfl) (aw (li:=kJ) hmx (acz N _) (by kernel_rfl) ab (fun X c=>vO N X c.1.1 c.1.2.1 c.1.2.2.1 c.1.2.2.2.1 c.1.2.2.2.2.1) N)
noncomputable def ns (x0:Int)(width1:Int)(n2:Int):Option (Int×Int):=
 ne (lh N width1) fun v4=>
 bif (!v4) then
  some ((0,(1:Int)))
 else
  bif (decide (width1=0)) then
   none
  else
   bif (decide ((@Df n2 width1)<(0:Int))) then
    ne (qr N x0 width1 (gt .i64 ((@Df n2 width1)+width1))) fun v5=>
    bif (decide ((0:Int)≤(gt .i64 ((@Df n2 width1)+width1)))) then
     some (((bits .or .u64 (gt .u64 (v5.2.1*((2:Int) ^ (min (C8 (gt .i64 ((@Df n2 width1)+width1))) (Db .u64))))) v5.1),(0:Int)))
    else
     none
   else
    ne (qr N x0 width1 (@Df n2 width1)) fun v5=>
    bif (decide ((0:Int)≤(@Df n2 width1))) then
     some (((bits .or .u64 (gt .u64 (v5.2.1*((2:Int) ^ (min (C8 (@Df n2 width1)) (Db .u64))))) v5.1),(0:Int)))
    else
     none
theorem aaC (x0:Int)(width1:Int)(n2:Int):(runK C6 (aqw N) 400 188 [(.int .u64),(.int .i64),(.int .i64)] [(.int .u64),(.int .i64)] (x0,width1,n2,())).run=ns N x0 width1 n2:=by kernel_rfl
noncomputable def aqv:ET:=eFn (aqw N) 188 [(.int .u64),(.int .i64),(.int .i64)] [(.int .u64),(.int .i64)] fun c=>ns N c.1 c.2.1 c.2.2.1
theorem akD:OkE (aqv N):=aFn (akE N) (by kernel_rfl) fun c=>aaC N c.1 c.2.1 c.2.2.1
noncomputable def gu (half0:Int)(round1:Int):Option Int:=
 ne (kI N ((half0,(round1,(2,((@Arr.mk Int (4:Nat) ([1,2,9,16]:List Int) @xO._proof_8),(0,()))))),())) fun v3=>
 ne (ns N v3.1.1 (28:Int) v3.1.2.1) fun v4=>
 some (v4.1)
theorem BP (half0:Int)(round1:Int):(runK C6 (aqv N) 400 170 [(.int .u64),(.int .i64)] [(.int .u64)] (half0,round1,())).run=gu N half0 round1:=by kernel_rfl
noncomputable def aqu:ET:=eFn (aqv N) 170 [(.int .u64),(.int .i64)] [(.int .u64)] fun c=>gu N c.1 c.2.1
theorem acy:OkE (aqu N):=aFn (akD N) (by kernel_rfl) fun c=>BP N c.1 c.2.1
noncomputable def oe:LI:=⟨39,0,[],⟨[(2,.lit (.box 0 0)),(3,.ty (.int .u64)),(4,.ty (.int .u64)),(6,.ty (.sl (.int .i64))),(7,.lit (.box 1 0)),(18,.ty (.int .i64))],[.box 198 (.arr 16 (.int .u64)),.box 198 (.arr 16 (.int .u64))]⟩,[(.exit 0,⟨[(2,.lit (.box 0 0)),(7,.lit (.box 1 0))],[.box 198 (.arr 16 (.int .u64)),.box 198 (.arr 16 (.int .u64))]⟩)]⟩
noncomputable def kN (X:((Int×(Int×pz7))×pz12)→Option ((Unit×pz12)))(left3:Int)(right4:Int)(table6:List (Int))(x18:Int)(h0:Arr Int 16)(h1:Arr Int 16):Option ((Unit×pz12)):=
 bif (decide (x18<16)) then
  ne (gu N left3 (gt .i64 (x18+1))) fun v8=>
  ne (gu N right4 (gt .i64 (x18+1))) fun v9=>
  ne (aV N (bits .or .u64 (gt .u64 (v8*((2:Int) ^ (min (C8 (28:Int)) (Db .u64))))) v9) (56:Int) table6) fun v10=>
  bif (decide ((0:Int)≤x18∧x18<((16:Nat):Int))) then
   ne (h1.l[C8 x18]?) fun (v11:Int)=>
   (X ((v8,(v9,(table6,((gt .i64 (x18+1)),())))),(h0,((h1.set (C8 x18) v10),()))))
  else
   none
 else
  some (((),(h0,(h1,()))))
noncomputable def jC (c:((Int×(Int×pz7))×pz12)):Option ((Unit×pz12)):=gl (fun X c=>kN N X c.1.1 c.1.2.1 c.1.2.2.1 c.1.2.2.2.1 c.2.1 c.2.2.1) N c
theorem zO (X:((Int×(Int×pz7))×pz12)→Option ((Unit×pz12)))(left3:Int)(right4:Int)(table6:List (Int))(x18:Int)(h0:Arr Int 16)(h1:Arr Int 16):(aq C6 (aqu N) 400 [139] oe (ao C6 [139] 5) X ((left3,right4,table6,x18,()),(h0,h1,()))).run=kN N X left3 right4 table6 x18 h0 h1:=by kernel_rfl
noncomputable def aqt:(R:Type)→Env R:=Da (aqu N) [139] 0 5 (fun R=>lpK C6 oe (fun X c=>kN N X c.1.1 c.1.2.1 c.1.2.2.1 c.1.2.2.2.1 c.2.1 c.2.2.1) N)
theorem akC (R:Type):EnvOK C6 (aqt N R):=C9 (acy N R) (by kernel_rfl) (aw (li:=oe) hmx (acy N _) (by kernel_rfl) ab (fun X c=>zO N X c.1.1 c.1.2.1 c.1.2.2.1 c.1.2.2.2.1 c.2.1 c.2.2.1) N)
noncomputable def sb (key0:Int):Option (Arr Int 16):=
 ne (@ni N) fun (v2:(List Int))=>
 ne (aV N key0 (64:Int) v2) fun v3=>
 ne (jC N (((@Di (bits .and .u64 v3 (gt .u64 ((gt .u64 ((1:Int)*((2:Int) ^ (min (C8 (56:Int)) (Db .u64)))))-1))) ((2:Int) ^ (min (C8 (gt .i64 ((56:Int)-28))) (Db .u64)))),((bits .and .u64 (bits .and .u64 v3 (gt .u64 ((gt .u64 ((1:Int)*((2:Int) ^ (min (C8 (56:Int)) (Db .u64)))))-1))) (gt .u64 ((gt .u64 ((1:Int)*((2:Int) ^ (min (C8 (gt .i64 ((56:Int)-28))) (Db .u64)))))-1))),((((([14,17,11,24,1,5,3,28,15,6,21,10]:List Int)++([23,19,12,4,26,8,16,7,27,20,13,2]:List Int))++([41,52,31,37,47,55,30,40,51,45,33,48]:List Int))++([44,49,39,56,34,53,46,42,50,36,29,32]:List Int)),(0,())))),(zc16,(zc16,())))) fun v4=>
 some (v4.2.2.1)
theorem ady (key0:Int):(runK C6 (aqt N) 400 139 [(.int .u64)] [(.arr 16 (.int .u64))] (key0,())).run=sb N key0:=by kernel_rfl
noncomputable def att:ET:=eFn (aqt N) 139 [(.int .u64)] [(.arr 16 (.int .u64))] fun c=>sb N c.1
theorem akB:OkE (att N):=aFn (akC N) (by kernel_rfl) fun c=>ady N c.1
noncomputable def atr:ET:=Env.addBx (att N) [(138,0)]
theorem akA:OkE (atr N):=fun R=>EnvOK.addBx (akB N R) [(138,0)]
noncomputable def aqs:ET:=Dj (atr N) [(161,8)]
theorem acx:OkE (aqs N):=fun R=>Dg (akA N R) [(161,8)]
noncomputable def nY:LI:=⟨24,0,[],⟨[(1,.lit (.own 0)),(2,.ty (.int .i64)),(4,.ty (.int .i64)),(7,.ty (.int .i64))],[.own (.int .i64) 3]⟩,[(.exit 2,⟨[(1,.lit (.own 0)),(4,.ty (.int .i64))],[.own (.int .i64) 3]⟩)]⟩
noncomputable def qY (N:Nat)(X:(pz10×((List Int)×Unit))→Option (pz22))(row2:Int)(x4:Int)(x7:Int)(h0:List (Int)):Option (pz22):=
 bif (decide (x7<6)) then
  bif (ae ((C7 h0)+(C7 ([(gt .i64 ((@Df (gt .i64 ((gt .i64 ((gt .i64 ((gt .i64 ((4:Int)*row2))+x7))+32))-1)) (32:Int))+1))]:List (Int)))) 8) then
   (X ((row2,(x4,((gt .i64 (x7+1)),()))),((h0++([(gt .i64 ((@Df (gt .i64 ((gt .i64 ((gt .i64 ((gt .i64 ((4:Int)*row2))+x7))+32))-1)) (32:Int))+1))]:List (Int))),())))
  else
   none
 else
  some (((x4,()),(h0,())))
noncomputable def zI (c:(pz10×((List Int)×Unit))):Option (pz22):=gl (fun X c=>qY N X c.1.1 c.1.2.1 c.1.2.2.1 c.2.1) N c
theorem zH (X:(pz10×((List Int)×Unit))→Option (pz22))(row2:Int)(x4:Int)(x7:Int)(h0:List (Int)):(aq C6 (aqs N) 400 [161] nY (ao C6 [161] 6) X ((row2,x4,x7,()),(h0,()))).run=qY N X row2 x4 x7 h0:=by kernel_rfl
noncomputable def aqr:(R:Type)→Env R:=Da (aqs N) [161] 0 6 (fun R=>lpK C6 nY (fun X c=>qY N X c.1.1 c.1.2.1 c.1.2.2.1 c.2.1) N)
theorem acw (R:Type):EnvOK C6 (aqr N R):=C9 (acx N R) (by kernel_rfl) (aw (li:=nY) hmx (acx N _) (by kernel_rfl) ab (fun X c=>zH N X c.1.1 c.1.2.1 c.1.2.2.1 c.2.1) N)
noncomputable def nZ:LI:=⟨24,0,[(1,3)],⟨[(1,.lit (.own 0)),(4,.ty (.int .i64))],[.own (.int .i64) 3]⟩,[(.exit 0,⟨[(1,.lit (.own 0))],[.own (.int .i64) 3]⟩)]⟩
noncomputable def qZ (X:pz22→Option pz3)(x4:Int)(h0:List (Int)):Option pz3:=
 bif (decide (x4<8)) then
  ne (zI N ((x4,(x4,(0,()))),(h0,()))) fun v4=>
  (X (((gt .i64 (v4.1.1+1)),()),(v4.2.1,())))
 else
  some (((),(h0,())))
noncomputable def zK (c:pz22):Option pz3:=gl (fun X c=>qZ N X c.1.1 c.2.1) N c
theorem zJ (X:pz22→Option pz3)(x4:Int)(h0:List (Int)):(aq C6 (aqr N) 400 [161] nZ (ao C6 [161] 3) X ((x4,()),(h0,()))).run=qZ N X x4 h0:=by kernel_rfl
noncomputable def aqq:(R:Type)→Env R:=Da (aqr N) [161] 0 3 (fun R=>lpK C6 nZ (fun X c=>qZ N X c.1.1 c.2.1) N)
theorem akz (R:Type):EnvOK C6 (aqq N R):=C9 (acw N R) (by kernel_rfl) (aw (li:=nZ) hmx (acw N _) (by kernel_rfl) ab (fun X c=>zJ N X c.1.1 c.2.1) N)
noncomputable def r8:Option (List Int):=
 ne (zK N ((0,()),(([]:List Int),()))) fun v1=>
 some (v1.2.1)
theorem adv:(runK C6 (aqq N) 400 161 [] [(.sl (.int .i64))] ()).run=r8 N:=by kernel_rfl
noncomputable def aqp:ET:=eFn (aqq N) 161 [] [(.sl (.int .i64))] fun c=>r8 N
theorem aky:OkE (aqp N):=aFn (akz N) (by kernel_rfl) fun c=>adv N
noncomputable def xX (N:Nat):Option (List Int):=
 some ((((([16,7,20,21,29,12,28,17]:List Int)++([1,15,23,26,5,18,31,10]:List Int))++([2,8,24,14,32,27,3,9]:List Int))++([19,13,30,6,22,11,4,25]:List Int)))
theorem BR:(runK C6 (aqp N) 400 162 [] [(.sl (.int .i64))] ()).run=xX N:=by kernel_rfl
noncomputable def atq:ET:=eFn (aqp N) 162 [] [(.sl (.int .i64))] fun c=>xX N
theorem akx:OkE (atq N):=aFn (aky N) (by kernel_rfl) fun c=>BR N
noncomputable def aqn:ET:=Dj (atq N) [(164,5)]
theorem acv:OkE (aqn N):=fun R=>Dg (akx N R) [(164,5)]
noncomputable def cF:LI:=⟨21,1,[(0,3)],⟨[(0,.lit (.own 1)),(1,.ty (.int .i64)),(8,.ty (.int .i64)),(9,.ty (.int .i64))],[.dead,.own (.int .i64) 3]⟩,[(.exit 0,⟨[(0,.lit (.own 1))],[.dead,.own (.int .i64) 3]⟩)]⟩
noncomputable def cU (N:Nat)(X:(pz10×((List Int)×Unit))→Option pz3)(x1:Int)(x8:Int)(x9:Int)(h0:List (Int)):Option pz3:=
 bif (decide (x9<x8)) then
  bif (ae ((C7 h0)+(C7 ([(gt .i64 (x1-(gt .i64 ((8:Int)*x9))))]:List (Int)))) 8) then
   (X ((x1,(x8,((gt .i64 (x9+1)),()))),((h0++([(gt .i64 (x1-(gt .i64 ((8:Int)*x9))))]:List (Int))),())))
  else
   none
 else
  some (((),(h0,())))
noncomputable def jB (c:(pz10×((List Int)×Unit))):Option pz3:=gl (fun X c=>cU N X c.1.1 c.1.2.1 c.1.2.2.1 c.2.1) N c
theorem jA (X:(pz10×((List Int)×Unit))→Option pz3)(x1:Int)(x8:Int)(x9:Int)(h0:List (Int)):(aq C6 (aqn N) 400 [184,5,164] cF (ao C6 [184,5,164] 2) X ((x1,x8,x9,()),(h0,()))).run=cU N X x1 x8 x9 h0:=by kernel_rfl
noncomputable def aqm:(R:Type)→Env R:=Da (aqn N) [184,5,164] 1 2 (fun R=>lpK C6 cF (fun X c=>cU N X c.1.1 c.1.2.1 c.1.2.2.1 c.2.1) N)
theorem acu (R:Type):EnvOK C6 (aqm N R):=C9 (acv N R) (by kernel_rfl) (aw (li:=cF) hmx (acv N _) (by kernel_rfl) ab (fun X c=>jA N X c.1.1 c.1.2.1 c.1.2.2.1 c.2.1) N)
noncomputable def lW:LI:=⟨13,0,[(1,3)],⟨[(1,.lit (.own 0)),(4,.ty (.arr 8 (.int .i64))),(5,.ty (.int .i64))],[.own (.int .i64) 3]⟩,[(.exit 0,⟨[(1,.lit (.own 0))],[.own (.int .i64) 3]⟩)]⟩
noncomputable def pJ (X:(((Arr Int 8)×(Int×Unit))×((List Int)×Unit))→Option pz3)(x4:Arr Int 8)(x5:Int)(h0:List (Int)):Option pz3:=
 bif (decide (x5<8)) then
  ne (getI x4.l x5) fun v5=>
  ne (jB N ((v5,(8,(0,()))),(h0,()))) fun v6=>
  (X ((x4,((gt .i64 (x5+1)),())),(v6.2.1,())))
 else
  some (((),(h0,())))
noncomputable def xi (c:(((Arr Int 8)×(Int×Unit))×((List Int)×Unit))):Option pz3:=gl (fun X c=>pJ N X c.1.1 c.1.2.1 c.2.1) N c
theorem xh (X:(((Arr Int 8)×(Int×Unit))×((List Int)×Unit))→Option pz3)(x4:Arr Int 8)(x5:Int)(h0:List (Int)):(aq C6 (aqm N) 400 [164] lW (ao C6 [164] 3) X ((x4,x5,()),(h0,()))).run=pJ N X x4 x5 h0:=by kernel_rfl
noncomputable def aql:(R:Type)→Env R:=Da (aqm N) [164] 0 3 (fun R=>lpK C6 lW (fun X c=>pJ N X c.1.1 c.1.2.1 c.2.1) N)
theorem akw (R:Type):EnvOK C6 (aql N R):=C9 (acu N R) (by kernel_rfl) (aw (li:=lW) hmx (acu N _) (by kernel_rfl) ab (fun X c=>xh N X c.1.1 c.1.2.1 c.2.1) N)
noncomputable def nj:Option (List Int):=
 ne (xi N (((@Dd Int 7 58 (@Dd Int 6 60 (@Dd Int 5 62 (@Dd Int 4 64 (@Dd Int 3 57 (@Dd Int 2 59 (@Dd Int 1 61 (@Dd Int 0 63 (@Arr.nil Int))))))))),(0,())),(([]:List Int),()))) fun v1=>
 some (v1.2.1)
theorem aaq:(runK C6 (aql N) 400 164 [] [(.sl (.int .i64))] ()).run=nj N:=by kernel_rfl
noncomputable def aqk:ET:=eFn (aql N) 164 [] [(.sl (.int .i64))] fun c=>nj N
theorem act:OkE (aqk N):=aFn (akw N) (by kernel_rfl) fun c=>aaq N
noncomputable def nX:LI:=⟨36,0,[],⟨[(3,.ty (.sl (.int .i64))),(9,.ty (.int .u64)),(10,.ty (.int .u64)),(11,.ty (.int .i64))],[]⟩,[(.exit 0,⟨[(3,.ty (.sl (.int .i64))),(10,.ty (.int .u64))],[]⟩)]⟩
noncomputable def kH (X:(((List Int)×pz10)×Unit)→Option ((pz7×Unit)))(mix3:List (Int))(six9:Int)(digits10:Int)(n11:Int):Option ((pz7×Unit)):=
 bif (decide (n11≤8)) then
  bif (decide ((0:Int)≤(gt .i64 ((48:Int)-(gt .i64 ((6:Int)*n11)))))) then
   ne (pK N n11 (@Di six9 ((2:Int) ^ (min (C8 (gt .i64 ((48:Int)-(gt .i64 ((6:Int)*n11))))) (Db .u64))))) fun v6=>
   (X ((mix3,(six9,((bits .or .u64 (gt .u64 (digits10*((2:Int) ^ (min (C8 (4:Int)) (Db .u64))))) v6),((gt .i64 (n11+1)),())))),()))
  else
   none
 else
  some (((mix3,(digits10,())),()))
noncomputable def nW (c:(((List Int)×pz10)×Unit)):Option ((pz7×Unit)):=gl (fun X c=>kH N X c.1.1 c.1.2.1 c.1.2.2.1 c.1.2.2.2.1) N c
theorem zG (X:(((List Int)×pz10)×Unit)→Option ((pz7×Unit)))(mix3:List (Int))(six9:Int)(digits10:Int)(n11:Int):(aq C6 (aqk N) 400 [165] nX (ao C6 [165] 4) X ((mix3,six9,digits10,n11,()),())).run=kH N X mix3 six9 digits10 n11:=by kernel_rfl
noncomputable def aqj:(R:Type)→Env R:=Da (aqk N) [165] 0 4 (fun R=>lpK C6 nX (fun X c=>kH N X c.1.1 c.1.2.1 c.1.2.2.1 c.1.2.2.2.1) N)
theorem akv (R:Type):EnvOK C6 (aqj N R):=C9 (act N R) (by kernel_rfl) (aw (li:=nX) hmx (act N _) (by kernel_rfl) ab (fun X c=>zG N X c.1.1 c.1.2.1 c.1.2.2.1 c.1.2.2.2.1) N)
noncomputable def rZ (half0:Int)(key1:Int)(widen2:List (Int))(mix3:List (Int)):Option Int:=
 ne (aV N (gt .u64 half0) (32:Int) widen2) fun v5=>
 ne (nW N ((mix3,((bits .xor .u64 v5 key1),(0,(1,())))),())) fun v6=>
 ne (aV N v6.1.2.1 (32:Int) v6.1.1) fun v7=>
 some ((gt .u32 v7))
theorem adu (half0:Int)(key1:Int)(widen2:List (Int))(mix3:List (Int)):(runK C6 (aqj N) 400 165 [(.int .u32),(.int .u64),(.sl (.int .i64)),(.sl (.int .i64))] [(.int .u32)] (half0,key1,widen2,mix3,())).run=rZ N half0 key1 widen2 mix3:=by kernel_rfl
noncomputable def aqi:ET:=eFn (aqj N) 165 [(.int .u32),(.int .u64),(.sl (.int .i64)),(.sl (.int .i64))] [(.int .u32)] fun c=>rZ N c.1 c.2.1 c.2.2.1 c.2.2.2.1
theorem acs:OkE (aqi N):=aFn (akv N) (by kernel_rfl) fun c=>adu N c.1 c.2.1 c.2.2.1 c.2.2.2.1
noncomputable def jp:LI:=⟨43,0,[],⟨[(5,.ty (.sl (.int .i64))),(6,.ty (.sl (.int .i64))),(8,.ty (.int .u32)),(9,.ty (.int .u32)),(22,.ty (.arr 16 (.int .u64))),(23,.ty (.int .i64))],[]⟩,[(.exit 0,⟨[(8,.ty (.int .u32)),(9,.ty (.int .u32))],[]⟩)]⟩
noncomputable def fz (X:(((List Int)×((List Int)×(Int×(Int×((Arr Int 16)×(Int×Unit))))))×Unit)→Option (pz16))(widen5:List (Int))(mix6:List (Int))(left8:Int)(right9:Int)(x22:Arr Int 16)(x23:Int):Option (pz16):=
 bif (decide (x23<16)) then
  ne (getI x22.l x23) fun v8=>
  ne (rZ N right9 v8 widen5 mix6) fun v9=>
  (X ((widen5,(mix6,(right9,((bits .xor .u32 left8 v9),(x22,((gt .i64 (x23+1)),())))))),()))
 else
  some (((left8,(right9,())),()))
noncomputable def fE (c:(((List Int)×((List Int)×(Int×(Int×((Arr Int 16)×(Int×Unit))))))×Unit)):Option (pz16):=gl (fun X c=>fz N X c.1.1 c.1.2.1 c.1.2.2.1 c.1.2.2.2.1 c.1.2.2.2.2.1 c.1.2.2.2.2.2.1) N c
theorem ue (X:(((List Int)×((List Int)×(Int×(Int×((Arr Int 16)×(Int×Unit))))))×Unit)→Option (pz16))(widen5:List (Int))(mix6:List (Int))(left8:Int)(right9:Int)(x22:Arr Int 16)(x23:Int):(aq C6 (aqi N) 400 [138] jp (ao C6 [138] 5) X ((widen5,mix6,left8,right9,x22,x23,()),())).run=fz N X widen5 mix6 left8 right9 x22 x23:=by kernel_rfl
noncomputable def aqh:(R:Type)→Env R:=Da (aqi N) [138] 0 5 (fun R=>lpK C6 jp (fun X c=>fz N X c.1.1 c.1.2.1 c.1.2.2.1 c.1.2.2.2.1 c.1.2.2.2.2.1 c.1.2.2.2.2.2.1) N)
theorem acr (R:Type):EnvOK C6 (aqh N R):=C9 (acs N R) (by kernel_rfl) (aw (li:=jp) hmx (acs N _) (by kernel_rfl) ab (fun X c=>ue N X c.1.1 c.1.2.1 c.1.2.2.1 c.1.2.2.2.1 c.1.2.2.2.2.1 c.1.2.2.2.2.2.1) N)
noncomputable def oc:LI:=⟨20,0,[],⟨[(1,.lit (.own 0)),(5,.ty (.sl (.int .i64))),(6,.ty (.int .i64)),(7,.ty (.int .i64))],[.own (.int .i64) 3]⟩,[(.exit 0,⟨[(1,.lit (.own 0))],[.own (.int .i64) 3]⟩)]⟩
noncomputable def rf (N:Nat)(X:(pz8×((List Int)×Unit))→Option pz3)(x5:List (Int))(x6:Int)(x7:Int)(h0:List (Int)):Option pz3:=
 bif (decide (x7<x6)) then
  ne (getI x5 x7) fun v6=>
  bif (decide ((0:Int)≤(gt .i64 (v6-1))∧(gt .i64 (v6-1))<(h0.length:Int))) then
   ne (h0[C8 (gt .i64 (v6-1))]?) fun (v7:Int)=>
   (X ((x5,(x6,((gt .i64 (x7+1)),()))),((@List.set Int h0 (C8 (gt .i64 (v6-1))) (gt .i64 (x7+1))),())))
  else
   none
 else
  some (((),(h0,())))
noncomputable def zN (c:(pz8×((List Int)×Unit))):Option pz3:=gl (fun X c=>rf N X c.1.1 c.1.2.1 c.1.2.2.1 c.2.1) N c
theorem zM (X:(pz8×((List Int)×Unit))→Option pz3)(x5:List (Int))(x6:Int)(x7:Int)(h0:List (Int)):(aq C6 (aqh N) 400 [166] oc (ao C6 [166] 3) X ((x5,x6,x7,()),(h0,()))).run=rf N X x5 x6 x7 h0:=by kernel_rfl
noncomputable def aqg:(R:Type)→Env R:=Da (aqh N) [166] 0 3 (fun R=>lpK C6 oc (fun X c=>rf N X c.1.1 c.1.2.1 c.1.2.2.1 c.2.1) N)
theorem aku (R:Type):EnvOK C6 (aqg N R):=C9 (acr N R) (by kernel_rfl) (aw (li:=oc) hmx (acr N _) (by kernel_rfl) ab (fun X c=>zM N X c.1.1 c.1.2.1 c.1.2.2.1 c.2.1) N)
noncomputable def r9:Option (List Int):=
 ne (@nj N) fun (v1:(List Int))=>
 ne (zN N ((v1,((v1.length:Int),(0,()))),((@List.replicate Int (C8 (64:Int)) (0:Int)),()))) fun v2=>
 some (v2.2.1)
theorem adw:(runK C6 (aqg N) 400 166 [] [(.sl (.int .i64))] ()).run=r9 N:=by kernel_rfl
noncomputable def aqf:ET:=eFn (aqg N) 166 [] [(.sl (.int .i64))] fun c=>r9 N
theorem akt:OkE (aqf N):=aFn (aku N) (by kernel_rfl) fun c=>adw N
noncomputable def kK (keys0:Arr Int 16)(block1:Int):Option Int:=
 ne (@r8 N) fun (v3:(List Int))=>
 ne (@nj N) fun (v4:(List Int))=>
 ne (aV N block1 (64:Int) v4) fun v5=>
 ne (fE N ((v3,((((([16,7,20,21,29,12,28,17]:List Int)++([1,15,23,26,5,18,31,10]:List Int))++([2,8,24,14,32,27,3,9]:List Int))++([19,13,30,6,22,11,4,25]:List Int)),((gt .u32 (@Di v5 ((2:Int) ^ (min (C8 (32:Int)) (Db .u64))))),((gt .u32 v5),(keys0,(0,())))))),())) fun v6=>
 ne (@r9 N) fun (v7:(List Int))=>
 ne (aV N (bits .or .u64 (gt .u64 ((gt .u64 v6.1.2.1)*((2:Int) ^ (min (C8 (32:Int)) (Db .u64))))) (gt .u64 v6.1.1)) (64:Int) v7) fun v8=>
 some (v8)
theorem zL (keys0:Arr Int 16)(block1:Int):(runK C6 (aqf N) 400 138 [(.arr 16 (.int .u64)),(.int .u64)] [(.int .u64)] (keys0,block1,())).run=kK N keys0 block1:=by kernel_rfl
noncomputable def aqd:ET:=eFn (aqf N) 138 [(.arr 16 (.int .u64)),(.int .u64)] [(.int .u64)] fun c=>kK N c.1 c.2.1
theorem aks:OkE (aqd N):=aFn (akt N) (by kernel_rfl) fun c=>zL N c.1 c.2.1
noncomputable def sa (key0:Int)(block1:Int):Option Int:=
 ne (sb N key0) fun v3=>
 ne (kK N v3 block1) fun v4=>
 some (v4)
theorem adx (key0:Int)(block1:Int):(runK C6 (aqd N) 400 106 [(.int .u64),(.int .u64)] [(.int .u64)] (key0,block1,())).run=sa N key0 block1:=by kernel_rfl
noncomputable def aqc:ET:=eFn (aqd N) 106 [(.int .u64),(.int .u64)] [(.int .u64)] fun c=>sa N c.1 c.2.1
theorem acq:OkE (aqc N):=aFn (aks N) (by kernel_rfl) fun c=>adx N c.1 c.2.1
noncomputable def be:LI:=⟨28,4,[],⟨[(1,.ty (.int .i64)),(2,.lit (.clo 158 [.box 2 0,.box 3 0,.box 0 0,.box 1 0])),(7,.ty (.int .u8)),(9,.ty (.sl (.int .u8))),(10,.ty (.int .i64)),(11,.ty (.int .i64)),(15,.ty (.int .i64)),(16,.ty (.int .i64))],[.box 3 (.int .i64),.boxp 28 [.own 4],.box 5 (.int .u8),.box 3 (.int .i64),.own (.int .u8) 5]⟩,[(.exit 2,⟨[(1,.ty (.int .i64)),(2,.lit (.clo 158 [.box 2 0,.box 3 0,.box 0 0,.box 1 0])),(9,.ty (.sl (.int .u8))),(10,.ty (.int .i64)),(11,.ty (.int .i64))],[.box 3 (.int .i64),.boxp 28 [.own 4],.box 5 (.int .u8),.box 3 (.int .i64),.own (.int .u8) 5]⟩)]⟩
noncomputable def ap (N:Nat)(X:((Int×(Int×((List Int)×(Int×pz10))))×(Int×pz17))→Option (((Int×pz8)×(Int×pz17))))(many1:Int)(b7:Int)(x9:List (Int))(x10:Int)(x11:Int)(x15:Int)(x16:Int)(h0:Int)(h1:Int)(h2:Int)(h3:List (Int)):Option (((Int×pz8)×(Int×pz17))):=
 bif (decide (x16<x15)) then
  bif (decide ((0:Int)≤(gt .i64 ((7:Int)-x16)))) then
   bif (decide ((gt .i64 (h2+1))=h0)) then
    bif (ae ((C7 h3)+(C7 ([(bits .or .u8 (gt .u8 (h1*((2:Int) ^ (min (C8 (1:Int)) (Db .u8))))) (bits .and .u8 (@Di b7 ((2:Int) ^ (min (C8 (gt .i64 ((7:Int)-x16))) (Db .u8)))) (1:Int)))]:List (Int)))) 1) then
     (X ((many1,(b7,(x9,(x10,(x11,(x15,((gt .i64 (x16+1)),()))))))),(h0,(0,(0,((h3++([(bits .or .u8 (gt .u8 (h1*((2:Int) ^ (min (C8 (1:Int)) (Db .u8))))) (bits .and .u8 (@Di b7 ((2:Int) ^ (min (C8 (gt .i64 ((7:Int)-x16))) (Db .u8)))) (1:Int)))]:List (Int))),()))))))
    else
     none
   else
    (X ((many1,(b7,(x9,(x10,(x11,(x15,((gt .i64 (x16+1)),()))))))),(h0,((bits .or .u8 (gt .u8 (h1*((2:Int) ^ (min (C8 (1:Int)) (Db .u8))))) (bits .and .u8 (@Di b7 ((2:Int) ^ (min (C8 (gt .i64 ((7:Int)-x16))) (Db .u8)))) (1:Int))),((gt .i64 (h2+1)),(h3,()))))))
  else
   none
 else
  some (((many1,(x9,(x10,(x11,())))),(h0,(h1,(h2,(h3,()))))))
noncomputable def a8 (c:((Int×(Int×((List Int)×(Int×pz10))))×(Int×pz17))):Option (((Int×pz8)×(Int×pz17))):=gl (fun X c=>ap N X c.1.1 c.1.2.1 c.1.2.2.1 c.1.2.2.2.1 c.1.2.2.2.2.1 c.1.2.2.2.2.2.1 c.1.2.2.2.2.2.2.1 c.2.1 c.2.2.1 c.2.2.2.1 c.2.2.2.2.1) N c
theorem dI (X:((Int×(Int×((List Int)×(Int×pz10))))×(Int×pz17))→Option (((Int×pz8)×(Int×pz17))))(many1:Int)(b7:Int)(x9:List (Int))(x10:Int)(x11:Int)(x15:Int)(x16:Int)(h0:Int)(h1:Int)(h2:Int)(h3:List (Int)):(aq C6 (aqc N) 400 [159,5,136,3,104] be (ao C6 [159,5,136,3,104] 4) X ((many1,b7,x9,x10,x11,x15,x16,()),(h0,h1,h2,h3,()))).run=ap N X many1 b7 x9 x10 x11 x15 x16 h0 h1 h2 h3:=by kernel_rfl
noncomputable def aqb:(R:Type)→Env R:=Da (aqc N) [159,5,136,3,104] 4 4 (fun R=>lpK C6 be (fun X c=>ap N X c.1.1 c.1.2.1 c.1.2.2.1 c.1.2.2.2.1 c.1.2.2.2.2.1 c.1.2.2.2.2.2.1 c.1.2.2.2.2.2.2.1 c.2.1 c.2.2.1 c.2.2.2.1 c.2.2.2.2.1) N)
theorem acp (R:Type):EnvOK C6 (aqb N R):=C9 (acq N R) (by kernel_rfl) (aw (li:=be) hmx (acq N _) (by kernel_rfl) ab (fun X c=>dI N X c.1.1 c.1.2.1 c.1.2.2.1 c.1.2.2.2.1 c.1.2.2.2.2.1 c.1.2.2.2.2.2.1 c.1.2.2.2.2.2.2.1 c.2.1 c.2.2.1 c.2.2.2.1 c.2.2.2.2.1) N)
noncomputable def bg:LI:=⟨28,4,[],⟨[(1,.ty (.int .i64)),(2,.lit (.clo 158 [.box 2 0,.box 3 0,.box 0 0,.box 1 0])),(9,.ty (.sl (.int .u8))),(10,.ty (.int .i64)),(11,.ty (.int .i64))],[.box 3 (.int .i64),.boxp 28 [.own 4],.box 5 (.int .u8),.box 3 (.int .i64),.own (.int .u8) 5]⟩,[(.exit 0,⟨[],[.box 3 (.int .i64),.boxp 28 [.own 4],.box 5 (.int .u8),.box 3 (.int .i64),.own (.int .u8) 5]⟩)]⟩
noncomputable def aE (X:((Int×pz8)×(Int×pz17))→Option ((Unit×(Int×pz17))))(many1:Int)(x9:List (Int))(x10:Int)(x11:Int)(h0:Int)(h1:Int)(h2:Int)(h3:List (Int)):Option ((Unit×(Int×pz17))):=
 bif (decide (x11<x10)) then
  ne (getI x9 x11) fun v10=>
  ne (a8 N ((many1,(v10,(x9,(x10,(x11,(many1,(0,()))))))),(h0,(h1,(h2,(h3,())))))) fun v11=>
  (X ((v11.1.1,(v11.1.2.1,(v11.1.2.2.1,((gt .i64 (v11.1.2.2.2.1+1)),())))),(v11.2.1,((v11.2).snd.1,((v11.2).snd.2.1,((v11.2).snd.2.2.1,()))))))
 else
  some (((),(h0,(h1,(h2,(h3,()))))))
noncomputable def bf (c:((Int×pz8)×(Int×pz17))):Option ((Unit×(Int×pz17))):=gl (fun X c=>aE N X c.1.1 c.1.2.1 c.1.2.2.1 c.1.2.2.2.1 c.2.1 c.2.2.1 c.2.2.2.1 c.2.2.2.2.1) N c
theorem dJ (X:((Int×pz8)×(Int×pz17))→Option ((Unit×(Int×pz17))))(many1:Int)(x9:List (Int))(x10:Int)(x11:Int)(h0:Int)(h1:Int)(h2:Int)(h3:List (Int)):(aq C6 (aqb N) 400 [159,5,136,3,104] bg (ao C6 [159,5,136,3,104] 1) X ((many1,x9,x10,x11,()),(h0,h1,h2,h3,()))).run=aE N X many1 x9 x10 x11 h0 h1 h2 h3:=by kernel_rfl
noncomputable def aqa:(R:Type)→Env R:=Da (aqb N) [159,5,136,3,104] 4 1 (fun R=>lpK C6 bg (fun X c=>aE N X c.1.1 c.1.2.1 c.1.2.2.1 c.1.2.2.2.1 c.2.1 c.2.2.1 c.2.2.2.1 c.2.2.2.2.1) N)
theorem akr (R:Type):EnvOK C6 (aqa N R):=C9 (acp N R) (by kernel_rfl) (aw (li:=bg) hmx (acp N _) (by kernel_rfl) ab (fun X c=>dJ N X c.1.1 c.1.2.1 c.1.2.2.1 c.1.2.2.2.1 c.2.1 c.2.2.1 c.2.2.2.1 c.2.2.2.2.1) N)
noncomputable def fm (N:Nat)(x0:Int):Option Int:=
 ne (getI (Array.toList (List.toArray (@Dh UInt8 (@Dh UInt8 ([0,1,1,2,1,2,2,3,1,2,2,3,2,3,3,4,1,2,2,3,2,3,3,4,2,3,3,4,3,4,4,5,1,2,2,3,2,3,3,4,2,3,3,4,3,4,4,5,2,3,3,4,3,4,4,5,3,4,4,5,4,5,5,6]:List UInt8) ([1,2,2,3,2,3,3,4,2,3,3,4,3,4,4,5,2,3,3,4,3,4,4,5,3,4,4,5,4,5,5,6,2,3,3,4,3,4,4,5,3,4,4,5,4,5,5,6,3,4,4,5,4,5,5,6,4,5,5,6,5,6,6,7]:List UInt8)) (@Dh UInt8 ([1,2,2,3,2,3,3,4,2,3,3,4,3,4,4,5,2,3,3,4,3,4,4,5,3,4,4,5,4,5,5,6,2,3,3,4,3,4,4,5,3,4,4,5,4,5,5,6,3,4,4,5,4,5,5,6,4,5,5,6,5,6,6,7]:List UInt8) ([2,3,3,4,3,4,4,5,3,4,4,5,4,5,5,6,3,4,4,5,4,5,5,6,4,5,5,6,5,6,6,7,3,4,4,5,4,5,5,6,4,5,5,6,5,6,6,7,4,5,5,6,5,6,6,7,5,6,6,7,6,7,7,8]:List UInt8))))) x0) fun v2=>
 some ((gt .i64 (((@Dc v2):Nat):Int)))
theorem oK (x0:Int):(runK C6 (aqa N) 400 160 [(.int .u8)] [(.int .i64)] (x0,())).run=fm N x0:=by kernel_rfl
noncomputable def ap9:ET:=eFn (aqa N) 160 [(.int .u8)] [(.int .i64)] fun c=>fm N c.1
theorem akq:OkE (ap9 N):=aFn (akr N) (by kernel_rfl) fun c=>oK N c.1
noncomputable def so (b0:Int):Option Int:=
 ne (fm N (bits .andNot .u8 b0 (1:Int))) fun v2=>
 bif (decide ((@Df v2 (2:Int))=(0:Int))) then
  some ((bits .or .u8 (bits .andNot .u8 b0 (1:Int)) (1:Int)))
 else
  some ((bits .andNot .u8 b0 (1:Int)))
theorem adJ (b0:Int):(runK C6 (ap9 N) 400 137 [(.int .u8)] [(.int .u8)] (b0,())).run=so N b0:=by kernel_rfl
noncomputable def ap8:ET:=eFn (ap9 N) 137 [(.int .u8)] [(.int .u8)] fun c=>so N c.1
theorem aco:OkE (ap8 N):=aFn (akq N) (by kernel_rfl) fun c=>adJ N c.1
noncomputable def ju:LI:=⟨27,0,[],⟨[(4,.lit (.own 0)),(12,.lit (.own 0)),(13,.ty (.int .i64)),(14,.ty (.int .i64))],[.own (.int .u8) 5]⟩,[(.exit 0,⟨[(4,.lit (.own 0))],[.own (.int .u8) 5]⟩)]⟩
noncomputable def eB (X:pz21→Option pz3)(x13:Int)(x14:Int)(h0:List (Int)):Option pz3:=
 bif (decide (x14<x13)) then
  bif (decide ((0:Int)≤x14∧x14<(h0.length:Int))) then
   ne (h0[C8 x14]?) fun (v5:Int)=>
   ne (so N (gt .u8 (v5*((2:Int) ^ (min (C8 (1:Int)) (Db .u8)))))) fun v6=>
   bif (decide ((0:Int)≤x14∧x14<(h0.length:Int))) then
    ne (h0[C8 x14]?) fun (v7:Int)=>
    (X ((x13,((gt .i64 (x14+1)),())),((@List.set Int h0 (C8 x14) v6),())))
   else
    none
  else
   none
 else
  some (((),(h0,())))
noncomputable def jt (c:pz21):Option pz3:=gl (fun X c=>eB N X c.1.1 c.1.2.1 c.2.1) N c
theorem uh (X:pz21→Option pz3)(x13:Int)(x14:Int)(h0:List (Int)):(aq C6 (ap8 N) 400 [104] ju (ao C6 [104] 5) X ((x13,x14,()),(h0,()))).run=eB N X x13 x14 h0:=by kernel_rfl
noncomputable def ap7:(R:Type)→Env R:=Da (ap8 N) [104] 0 5 (fun R=>lpK C6 ju (fun X c=>eB N X c.1.1 c.1.2.1 c.2.1) N)
theorem akp (R:Type):EnvOK C6 (ap7 N R):=C9 (aco N R) (by kernel_rfl) (aw (li:=ju) hmx (aco N _) (by kernel_rfl) ab (fun X c=>uh N X c.1.1 c.1.2.1 c.2.1) N)
noncomputable def kQ (key0:List (Int)):Option ((List Int)×Int):=
 bif (!(decide ((key0.length:Int)=(7:Int)))) then
  some ((([]:List Int),(1:Int)))
 else
  ne (bf N ((8,(key0,((key0.length:Int),(0,())))),(7,(0,(0,(([]:List Int),())))))) fun v2=>
  ne (jt N (((((C7 (v2.2).snd.2.2.1):Nat):Int),(0,())),((v2.2).snd.2.2.1,()))) fun v3=>
  some ((v3.2.1,(0:Int)))
theorem Aa (key0:List (Int)):(runK C6 (ap7 N) 400 104 [(.sl (.int .u8))] [(.sl (.int .u8)),(.int .i64)] (key0,())).run=kQ N key0:=by kernel_rfl
noncomputable def ap6:ET:=eFn (ap7 N) 104 [(.sl (.int .u8))] [(.sl (.int .u8)),(.int .i64)] fun c=>kQ N c.1
theorem ako:OkE (ap6 N):=aFn (akp N) (by kernel_rfl) fun c=>Aa N c.1
noncomputable def iV (key0:List (Int))(block1:List (Int)):Option ((List Int)×Int):=
 ne (kQ N key0) fun v3=>
 bif (!(decide (v3.2=0))) then
  some ((([]:List Int),(1:Int)))
 else
  ne (some ((cond false true (!(decide ((block1.length:Int)=(8:Int))))))) fun (v4:Bool)=>
  bif v4 then
   some ((([]:List Int),(1:Int)))
  else
   ne (iG N v3.1 false) fun v5=>
   ne (iG N block1 false) fun v6=>
   ne (sa N v5.1 v6.1) fun v7=>
   ne (cD N v7 (8:Int) false) fun v8=>
   some (v8)
theorem aar (key0:List (Int))(block1:List (Int)):(runK C6 (ap6 N) 400 69 [(.sl (.int .u8)),(.sl (.int .u8))] [(.sl (.int .u8)),(.int .i64)] (key0,block1,())).run=iV N key0 block1:=by kernel_rfl
noncomputable def atp:ET:=eFn (ap6 N) 69 [(.sl (.int .u8)),(.sl (.int .u8))] [(.sl (.int .u8)),(.int .i64)] fun c=>iV N c.1 c.2.1
theorem akn:OkE (atp N):=aFn (ako N) (by kernel_rfl) fun c=>aar N c.1 c.2.1
noncomputable def ap5:ET:=Dj (atp N) [(121,2),(121,12)]
theorem acn:OkE (ap5 N):=fun R=>Dg (akn N R) [(121,2),(121,12)]
noncomputable def lB:LI:=⟨24,0,[],⟨[(0,.ty (.int .u64)),(5,.lit (.own 0)),(6,.ty (.int .i64))],[.own (.int .u8) 5]⟩,[(.exit 0,⟨[(5,.lit (.own 0))],[.own (.int .u8) 5]⟩)]⟩
noncomputable def f9 (N:Nat)(X:pz21→Option pz3)(x0:Int)(i6:Int)(h0:List (Int)):Option pz3:=
 bif (decide (0≤i6)) then
  bif (decide ((0:Int)≤i6∧i6<(h0.length:Int))) then
   ne (h0[C8 i6]?) fun (v5:Int)=>
   (X (((gt .u64 (@Int.tdiv x0 (2:Int))),((gt .i64 (i6-1)),())),((@List.set Int h0 (C8 i6) (gt .u8 (@Df x0 (2:Int)))),())))
  else
   none
 else
  some (((),(h0,())))
noncomputable def lA (c:pz21):Option pz3:=gl (fun X c=>f9 N X c.1.1 c.1.2.1 c.2.1) N c
theorem wK (X:pz21→Option pz3)(x0:Int)(i6:Int)(h0:List (Int)):(aq C6 (ap5 N) 400 [117] lB (ao C6 [117] 3) X ((x0,i6,()),(h0,()))).run=f9 N X x0 i6 h0:=by kernel_rfl
noncomputable def ap4:(R:Type)→Env R:=Da (ap5 N) [117] 0 3 (fun R=>lpK C6 lB (fun X c=>f9 N X c.1.1 c.1.2.1 c.2.1) N)
theorem akm (R:Type):EnvOK C6 (ap4 N R):=C9 (acn N R) (by kernel_rfl) (aw (li:=lB) hmx (acn N _) (by kernel_rfl) ab (fun X c=>wK N X c.1.1 c.1.2.1 c.2.1) N)
noncomputable def dE (x0:Int)(width1:Int):Option (List Int):=
 bif ((decide ((0:Int)≤width1∧width1≤width1))&&(ae (C8 width1) 1)) then
  ne (lA N ((x0,((gt .i64 (width1-1)),())),((@List.replicate Int (C8 width1) (0:Int)),()))) fun v3=>
  some (v3.2.1)
 else
  none
theorem CC (x0:Int)(width1:Int):(runK C6 (ap4 N) 400 117 [(.int .u64),(.int .i64)] [(.sl (.int .u8))] (x0,width1,())).run=dE N x0 width1:=by kernel_rfl
noncomputable def ap3:ET:=eFn (ap4 N) 117 [(.int .u64),(.int .i64)] [(.sl (.int .u8))] fun c=>dE N c.1 c.2.1
theorem akl:OkE (ap3 N):=aFn (akm N) (by kernel_rfl) fun c=>CC N c.1 c.2.1
noncomputable def tr (N:Nat):Option (List Int):=
 some (([57,49,41,33,25,17,9,1,58,50,42,34,26,18,10,2,59,51,43,35,27,19,11,3,60,52,44,36,63,55,47,39,31,23,15,7,62,54,46,38,30,22,14,6,61,53,45,37,29,21,13,5,28,20,12,4]:List Int))
theorem wE:(runK C6 (ap3 N) 400 151 [] [(.sl (.int .i64))] ()).run=tr N:=by kernel_rfl
noncomputable def ato:ET:=eFn (ap3 N) 151 [] [(.sl (.int .i64))] fun c=>tr N
theorem akk:OkE (ato N):=aFn (akl N) (by kernel_rfl) fun c=>wE N
noncomputable def ap2:ET:=Dj (ato N) [(146,5)]
theorem acm:OkE (ap2 N):=fun R=>Dg (akk N R) [(146,5)]
noncomputable def nD:LI:=⟨25,0,[(5,5)],⟨[(0,.ty (.sl (.int .u8))),(1,.ty (.sl (.int .i64))),(5,.lit (.own 0)),(6,.ty (.int .i64))],[.own (.int .u8) 5]⟩,[(.exit 0,⟨[(5,.lit (.own 0))],[.own (.int .u8) 5]⟩)]⟩
noncomputable def hU (N:Nat)(X:(((List Int)×pz7)×((List Int)×Unit))→Option pz3)(row0:List (Int))(table1:List (Int))(i6:Int)(h0:List (Int)):Option pz3:=
 bif (decide (i6<(table1.length:Int))) then
  ne (getI table1 i6) fun v6=>
  ne (getI row0 (gt .i64 (v6-1))) fun v7=>
  bif (ae ((C7 h0)+(C7 ([v7]:List (Int)))) 1) then
   (X ((row0,(table1,((gt .i64 (i6+1)),()))),((h0++([v7]:List (Int))),())))
  else
   none
 else
  some (((),(h0,())))
noncomputable def nC (c:(((List Int)×pz7)×((List Int)×Unit))):Option pz3:=gl (fun X c=>hU N X c.1.1 c.1.2.1 c.1.2.2.1 c.2.1) N c
theorem yV (X:(((List Int)×pz7)×((List Int)×Unit))→Option pz3)(row0:List (Int))(table1:List (Int))(i6:Int)(h0:List (Int)):(aq C6 (ap2 N) 400 [146] nD (ao C6 [146] 3) X ((row0,table1,i6,()),(h0,()))).run=hU N X row0 table1 i6 h0:=by kernel_rfl
noncomputable def ap1:(R:Type)→Env R:=Da (ap2 N) [146] 0 3 (fun R=>lpK C6 nD (fun X c=>hU N X c.1.1 c.1.2.1 c.1.2.2.1 c.2.1) N)
theorem akj (R:Type):EnvOK C6 (ap1 N R):=C9 (acm N R) (by kernel_rfl) (aw (li:=nD) hmx (acm N _) (by kernel_rfl) ab (fun X c=>yV N X c.1.1 c.1.2.1 c.1.2.2.1 c.2.1) N)
noncomputable def cP (row0:List (Int))(table1:List (Int)):Option (List Int):=
 ne (nC N ((row0,(table1,(0,()))),(([]:List Int),()))) fun v3=>
 some (v3.2.1)
theorem acY (row0:List (Int))(table1:List (Int)):(runK C6 (ap1 N) 400 146 [(.sl (.int .u8)),(.sl (.int .i64))] [(.sl (.int .u8))] (row0,table1,())).run=cP N row0 table1:=by kernel_rfl
noncomputable def ap0:ET:=eFn (ap1 N) 146 [(.sl (.int .u8)),(.sl (.int .i64))] [(.sl (.int .u8))] fun c=>cP N c.1 c.2.1
theorem aki:OkE (ap0 N):=aFn (akj N) (by kernel_rfl) fun c=>acY N c.1 c.2.1
noncomputable def qA (N:Nat):Option (List Int):=
 some (([14,17,11,24,1,5,3,28,15,6,21,10,23,19,12,4,26,8,16,7,27,20,13,2,41,52,31,37,47,55,30,40,51,45,33,48,44,49,39,56,34,53,46,42,50,36,29,32]:List Int))
theorem tY:(runK C6 (ap0 N) 400 152 [] [(.sl (.int .i64))] ()).run=qA N:=by kernel_rfl
noncomputable def apZ:ET:=eFn (ap0 N) 152 [] [(.sl (.int .i64))] fun c=>qA N
theorem acl:OkE (apZ N):=aFn (aki N) (by kernel_rfl) fun c=>tY N
noncomputable def ka:LI:=⟨61,0,[(6,28)],⟨[(4,.ty (.sl (.int .u8))),(5,.ty (.sl (.int .u8))),(6,.lit (.own 0)),(7,.ty (.int .i64))],[.own (.sl (.int .u8)) 28]⟩,[(.exit 0,⟨[(6,.lit (.own 0))],[.own (.sl (.int .u8)) 28]⟩)]⟩
noncomputable def eZ (X:(((List Int)×pz7)×((List (List Int))×Unit))→Option ((Unit×((List (List Int))×Unit))))(c4:List (Int))(d5:List (Int))(i7:Int)(h0:List (List Int)):Option ((Unit×((List (List Int))×Unit))):=
 bif (decide (i7≤16)) then
  ne (bif (decide (i7=1)) then
    some (true)
   else
    some ((cond false true (decide (i7=2))))) fun (v6:Bool)=>
  ne (bif v6 then
    some (true)
   else
    some ((cond false true (decide (i7=9))))) fun (v7:Bool)=>
  ne (bif v7 then
    some (true)
   else
    some ((cond false true (decide (i7=16))))) fun (v8:Bool)=>
  bif v8 then
   ne (b9 c4 (1:Int)) fun v9=>
   ne (cR c4 (1:Int)) fun v10=>
   bif (ae (C7 v9) 1) then
    bif (ae ((C7 v9)+(C7 v10)) 1) then
     ne (b9 d5 (1:Int)) fun v11=>
     ne (cR d5 (1:Int)) fun v12=>
     bif (ae (C7 v11) 1) then
      bif (ae ((C7 v11)+(C7 v12)) 1) then
       bif (ae (C7 (v9++v10)) 1) then
        bif (ae ((C7 (v9++v10))+(C7 (v11++v12))) 1) then
         ne (cP N ((v9++v10)++(v11++v12)) (@C5 Int (14:Int) (@C5 Int (17:Int) (@C5 Int (11:Int) (@C5 Int (24:Int) (@C5 Int (1:Int) (@C5 Int (5:Int) (@C5 Int (3:Int) (@C5 Int (28:Int) (@C5 Int (15:Int) (@C5 Int (6:Int) (@C5 Int (21:Int) (@C5 Int (10:Int) (@C5 Int (23:Int) (@C5 Int (19:Int) (@C5 Int (12:Int) (@C5 Int (4:Int) (@C5 Int (26:Int) (@C5 Int (8:Int) (@C5 Int (16:Int) (@C5 Int (7:Int) (@C5 Int (27:Int) (@C5 Int (20:Int) (@C5 Int (13:Int) (@C5 Int (2:Int) (@C5 Int (41:Int) (@C5 Int (52:Int) (@C5 Int (31:Int) (@C5 Int (37:Int) (@C5 Int (47:Int) (@C5 Int (55:Int) (@C5 Int (30:Int) (@C5 Int (40:Int) (@C5 Int (51:Int) (@C5 Int (45:Int) (@C5 Int (33:Int) (@C5 Int (48:Int) ([44,49,39,56,34,53,46,42,50,36,29,32]:List Int)))))))))))))))))))))))))))))))))))))) fun v13=>
         bif (ae ((C7 h0)+(C7 ([v13]:List ((List Int))))) 24) then
          (X (((v9++v10),((v11++v12),((gt .i64 (i7+1)),()))),((h0++([v13]:List ((List Int)))),())))
         else
          none
        else
         none
       else
        none
      else
       none
     else
      none
    else
     none
   else
    none
  else
   ne (b9 c4 (2:Int)) fun v9=>
   ne (cR c4 (2:Int)) fun v10=>
   bif (ae (C7 v9) 1) then
    bif (ae ((C7 v9)+(C7 v10)) 1) then
     ne (b9 d5 (2:Int)) fun v11=>
     ne (cR d5 (2:Int)) fun v12=>
     bif (ae (C7 v11) 1) then
      bif (ae ((C7 v11)+(C7 v12)) 1) then
       bif (ae (C7 (v9++v10)) 1) then
        bif (ae ((C7 (v9++v10))+(C7 (v11++v12))) 1) then
         ne (cP N ((v9++v10)++(v11++v12)) (@C5 Int (14:Int) (@C5 Int (17:Int) (@C5 Int (11:Int) (@C5 Int (24:Int) (@C5 Int (1:Int) (@C5 Int (5:Int) (@C5 Int (3:Int) (@C5 Int (28:Int) (@C5 Int (15:Int) (@C5 Int (6:Int) (@C5 Int (21:Int) (@C5 Int (10:Int) (@C5 Int (23:Int) (@C5 Int (19:Int) (@C5 Int (12:Int) (@C5 Int (4:Int) (@C5 Int (26:Int) (@C5 Int (8:Int) (@C5 Int (16:Int) (@C5 Int (7:Int) (@C5 Int (27:Int) (@C5 Int (20:Int) (@C5 Int (13:Int) (@C5 Int (2:Int) (@C5 Int (41:Int) (@C5 Int (52:Int) (@C5 Int (31:Int) (@C5 Int (37:Int) (@C5 Int (47:Int) (@C5 Int (55:Int) (@C5 Int (30:Int) (@C5 Int (40:Int) (@C5 Int (51:Int) (@C5 Int (45:Int) (@C5 Int (33:Int) (@C5 Int (48:Int) ([44,49,39,56,34,53,46,42,50,36,29,32]:List Int)))))))))))))))))))))))))))))))))))))) fun v13=>
         bif (ae ((C7 h0)+(C7 ([v13]:List ((List Int))))) 24) then
          (X (((v9++v10),((v11++v12),((gt .i64 (i7+1)),()))),((h0++([v13]:List ((List Int)))),())))
         else
          none
        else
         none
       else
        none
      else
       none
     else
      none
    else
     none
   else
    none
 else
  some (((),(h0,())))
noncomputable def gE (c:(((List Int)×pz7)×((List (List Int))×Unit))):Option ((Unit×((List (List Int))×Unit))):=gl (fun X c=>eZ N X c.1.1 c.1.2.1 c.1.2.2.1 c.2.1) N c
theorem u4 (X:(((List Int)×pz7)×((List (List Int))×Unit))→Option ((Unit×((List (List Int))×Unit))))(c4:List (Int))(d5:List (Int))(i7:Int)(h0:List (List Int)):(aq C6 (apZ N) 400 [121] ka (ao C6 [121] 5) X ((c4,d5,i7,()),(h0,()))).run=eZ N X c4 d5 i7 h0:=by kernel_rfl
noncomputable def apY:(R:Type)→Env R:=Da (apZ N) [121] 0 5 (fun R=>lpK C6 ka (fun X c=>eZ N X c.1.1 c.1.2.1 c.1.2.2.1 c.2.1) N)
theorem akh (R:Type):EnvOK C6 (apY N R):=C9 (acl N R) (by kernel_rfl) (aw (li:=ka) hmx (acl N _) (by kernel_rfl) ab (fun X c=>u4 N X c.1.1 c.1.2.1 c.1.2.2.1 c.2.1) N)
noncomputable def mD (key0:Int):Option (List (List Int)):=
 ne (dE N key0 (64:Int)) fun v2=>
 ne (cP N v2 (@C5 Int (57:Int) (@C5 Int (49:Int) (@C5 Int (41:Int) (@C5 Int (33:Int) (@C5 Int (25:Int) (@C5 Int (17:Int) (@C5 Int (9:Int) (@C5 Int (1:Int) (@C5 Int (58:Int) (@C5 Int (50:Int) (@C5 Int (42:Int) (@C5 Int (34:Int) (@C5 Int (26:Int) (@C5 Int (18:Int) (@C5 Int (10:Int) (@C5 Int (2:Int) (@C5 Int (59:Int) (@C5 Int (51:Int) (@C5 Int (43:Int) (@C5 Int (35:Int) (@C5 Int (27:Int) (@C5 Int (19:Int) (@C5 Int (11:Int) (@C5 Int (3:Int) (@C5 Int (60:Int) (@C5 Int (52:Int) (@C5 Int (44:Int) (@C5 Int (36:Int) (@C5 Int (63:Int) (@C5 Int (55:Int) (@C5 Int (47:Int) (@C5 Int (39:Int) (@C5 Int (31:Int) (@C5 Int (23:Int) (@C5 Int (15:Int) (@C5 Int (7:Int) (@C5 Int (62:Int) (@C5 Int (54:Int) (@C5 Int (46:Int) (@C5 Int (38:Int) (@C5 Int (30:Int) (@C5 Int (22:Int) ([14,6,61,53,45,37,29,21,13,5,28,20,12,4]:List Int)))))))))))))))))))))))))))))))))))))))))))) fun v3=>
 ne (cR v3 (28:Int)) fun v4=>
 ne (b9 v3 (28:Int)) fun v5=>
 ne (gE N ((v4,(v5,(1,()))),(([]:List ((List Int))),()))) fun v6=>
 some (v6.2.1)
theorem A4 (key0:Int):(runK C6 (apY N) 400 121 [(.int .u64)] [(.sl (.sl (.int .u8)))] (key0,())).run=mD N key0:=by kernel_rfl
noncomputable def apX:ET:=eFn (apY N) 121 [(.int .u64)] [(.sl (.sl (.int .u8)))] fun c=>mD N c.1
theorem akg:OkE (apX N):=aFn (akh N) (by kernel_rfl) fun c=>A4 N c.1
noncomputable def u5 (N:Nat):Option (List Int):=
 some (([58,50,42,34,26,18,10,2,60,52,44,36,28,20,12,4,62,54,46,38,30,22,14,6,64,56,48,40,32,24,16,8,57,49,41,33,25,17,9,1,59,51,43,35,27,19,11,3,61,53,45,37,29,21,13,5,63,55,47,39,31,23,15,7]:List Int))
theorem yT:(runK C6 (apX N) 400 147 [] [(.sl (.int .i64))] ()).run=u5 N:=by kernel_rfl
noncomputable def apW:ET:=eFn (apX N) 147 [] [(.sl (.int .i64))] fun c=>u5 N
theorem akf:OkE (apW N):=aFn (akg N) (by kernel_rfl) fun c=>yT N
noncomputable def xD (N:Nat):Option (List Int):=
 some (([32,1,2,3,4,5,4,5,6,7,8,9,8,9,10,11,12,13,12,13,14,15,16,17,16,17,18,19,20,21,20,21,22,23,24,25,24,25,26,27,28,29,28,29,30,31,32,1]:List Int))
theorem A1:(runK C6 (apW N) 400 172 [] [(.sl (.int .i64))] ()).run=xD N:=by kernel_rfl
noncomputable def apV:ET:=eFn (apW N) 172 [] [(.sl (.int .i64))] fun c=>xD N
theorem ack:OkE (apV N):=aFn (akf N) (by kernel_rfl) fun c=>A1 N
noncomputable def hO:LI:=⟨29,0,[],⟨[(0,.ty (.sl (.int .u8))),(1,.ty (.sl (.int .u8))),(5,.lit (.own 0)),(6,.ty (.int .i64))],[.own (.int .u8) 5]⟩,[(.exit 0,⟨[(5,.lit (.own 0))],[.own (.int .u8) 5]⟩)]⟩
noncomputable def dx (N:Nat)(X:(((List Int)×pz7)×((List Int)×Unit))→Option pz3)(a0:List (Int))(b1:List (Int))(i6:Int)(h0:List (Int)):Option pz3:=
 bif (decide (i6<(a0.length:Int))) then
  ne (getI a0 i6) fun v6=>
  ne (getI b1 i6) fun v7=>
  bif (decide ((0:Int)≤i6∧i6<(h0.length:Int))) then
   ne (h0[C8 i6]?) fun (v8:Int)=>
   (X ((a0,(b1,((gt .i64 (i6+1)),()))),((@List.set Int h0 (C8 i6) (bits .xor .u8 v6 v7)),())))
  else
   none
 else
  some (((),(h0,())))
noncomputable def hI (c:(((List Int)×pz7)×((List Int)×Unit))):Option pz3:=gl (fun X c=>dx N X c.1.1 c.1.2.1 c.1.2.2.1 c.2.1) N c
theorem sH (X:(((List Int)×pz7)×((List Int)×Unit))→Option pz3)(a0:List (Int))(b1:List (Int))(i6:Int)(h0:List (Int)):(aq C6 (apV N) 400 [148] hO (ao C6 [148] 3) X ((a0,b1,i6,()),(h0,()))).run=dx N X a0 b1 i6 h0:=by kernel_rfl
noncomputable def apU:(R:Type)→Env R:=Da (apV N) [148] 0 3 (fun R=>lpK C6 hO (fun X c=>dx N X c.1.1 c.1.2.1 c.1.2.2.1 c.2.1) N)
theorem ake (R:Type):EnvOK C6 (apU N R):=C9 (ack N R) (by kernel_rfl) (aw (li:=hO) hmx (ack N _) (by kernel_rfl) ab (fun X c=>sH N X c.1.1 c.1.2.1 c.1.2.2.1 c.2.1) N)
noncomputable def fX (a0:List (Int))(b1:List (Int)):Option (List Int):=
 bif ((decide ((0:Int)≤(a0.length:Int)∧(a0.length:Int)≤(a0.length:Int)))&&(ae (C8 (a0.length:Int)) 1)) then
  ne (hI N ((a0,(b1,(0,()))),((@List.replicate Int (C8 (a0.length:Int)) (0:Int)),()))) fun v3=>
  some (v3.2.1)
 else
  none
theorem wD (a0:List (Int))(b1:List (Int)):(runK C6 (apU N) 400 148 [(.sl (.int .u8)),(.sl (.int .u8))] [(.sl (.int .u8))] (a0,b1,())).run=fX N a0 b1:=by kernel_rfl
noncomputable def apT:ET:=eFn (apU N) 148 [(.sl (.int .u8)),(.sl (.int .u8))] [(.sl (.int .u8))] fun c=>fX N c.1 c.2.1
theorem acj:OkE (apT N):=aFn (ake N) (by kernel_rfl) fun c=>wD N c.1 c.2.1
noncomputable def kq:LI:=⟨20,0,[],⟨[(0,.ty (.sl (.int .u8))),(3,.ty (.int .u64)),(4,.ty (.int .i64))],[]⟩,[(.exit 0,⟨[(3,.ty (.int .u64))],[]⟩)]⟩
noncomputable def fb (N:Nat)(X:(pz8×Unit)→Option (((Int×Unit)×Unit)))(row0:List (Int))(x3:Int)(i4:Int):Option (((Int×Unit)×Unit)):=
 bif (decide (i4<(row0.length:Int))) then
  ne (getI row0 i4) fun v5=>
  (X ((row0,((gt .u64 ((gt .u64 ((2:Int)*x3))+(gt .u64 v5))),((gt .i64 (i4+1)),()))),()))
 else
  some (((x3,()),()))
noncomputable def kp (c:(pz8×Unit)):Option (((Int×Unit)×Unit)):=gl (fun X c=>fb N X c.1.1 c.1.2.1 c.1.2.2.1) N c
theorem vg (X:(pz8×Unit)→Option (((Int×Unit)×Unit)))(row0:List (Int))(x3:Int)(i4:Int):(aq C6 (apT N) 400 [119] kq (ao C6 [119] 3) X ((row0,x3,i4,()),())).run=fb N X row0 x3 i4:=by kernel_rfl
noncomputable def apS:(R:Type)→Env R:=Da (apT N) [119] 0 3 (fun R=>lpK C6 kq (fun X c=>fb N X c.1.1 c.1.2.1 c.1.2.2.1) N)
theorem akd (R:Type):EnvOK C6 (apS N R):=C9 (acj N R) (by kernel_rfl) (aw (li:=kq) hmx (acj N _) (by kernel_rfl) ab (fun X c=>vg N X c.1.1 c.1.2.1 c.1.2.2.1) N)
noncomputable def f8 (row0:List (Int)):Option Int:=
 ne (kp N ((row0,(0,(0,()))),())) fun v2=>
 some (v2.1.1)
theorem Bc (row0:List (Int)):(runK C6 (apS N) 400 119 [(.sl (.int .u8))] [(.int .u64)] (row0,())).run=f8 N row0:=by kernel_rfl
noncomputable def apR:ET:=eFn (apS N) 119 [(.sl (.int .u8))] [(.int .u64)] fun c=>f8 N c.1
theorem akc:OkE (apR N):=aFn (akd N) (by kernel_rfl) fun c=>Bc N c.1
noncomputable def u7 (N:Nat)(n0:Int):Option (List Int):=
 bif (decide (n0=1)) then
  some (([14,4,13,1,2,15,11,8,3,10,6,12,5,9,0,7,0,15,7,4,14,2,13,1,10,6,12,11,9,5,3,8,4,1,14,8,13,6,2,11,15,12,9,7,3,10,5,0,15,12,8,2,4,9,1,7,5,11,3,14,10,0,6,13]:List Int))
 else
  bif (decide (n0=2)) then
   some (([15,1,8,14,6,11,3,4,9,7,2,13,12,0,5,10,3,13,4,7,15,2,8,14,12,0,1,10,6,9,11,5,0,14,7,11,10,4,13,1,5,8,12,6,9,3,2,15,13,8,10,1,3,15,4,2,11,6,7,12,0,5,14,9]:List Int))
  else
   bif (decide (n0=3)) then
    some (([10,0,9,14,6,3,15,5,1,13,12,7,11,4,2,8,13,7,0,9,3,4,6,10,2,8,5,14,12,11,15,1,13,6,4,9,8,15,3,0,11,1,2,12,5,10,14,7,1,10,13,0,6,9,8,7,4,15,14,3,11,5,2,12]:List Int))
   else
    bif (decide (n0=4)) then
     some (([7,13,14,3,0,6,9,10,1,2,8,5,11,12,4,15,13,8,11,5,6,15,0,3,4,7,2,12,1,10,14,9,10,6,9,0,12,11,7,13,15,1,3,14,5,2,8,4,3,15,0,6,10,1,13,8,9,4,5,11,12,7,2,14]:List Int))
    else
     bif (decide (n0=5)) then
      some (([2,12,4,1,7,10,11,6,8,5,3,15,13,0,14,9,14,11,2,12,4,7,13,1,5,0,15,10,3,9,8,6,4,2,1,11,10,13,7,8,15,9,12,5,6,3,0,14,11,8,12,7,1,14,2,13,6,15,0,9,10,4,5,3]:List Int))
     else
      bif (decide (n0=6)) then
       some (([12,1,10,15,9,2,6,8,0,13,3,4,14,7,5,11,10,15,4,2,7,12,9,5,6,1,13,14,0,11,3,8,9,14,15,5,2,8,12,3,7,0,4,10,1,13,11,6,4,3,2,12,9,5,15,10,11,14,1,7,6,0,8,13]:List Int))
      else
       bif (decide (n0=7)) then
        some (([4,11,2,14,15,0,8,13,3,12,9,7,5,10,6,1,13,0,11,7,4,9,1,10,14,3,5,12,2,15,8,6,1,4,11,13,12,3,7,14,10,15,6,8,0,5,9,2,6,11,13,8,1,4,10,7,9,5,0,15,14,2,3,12]:List Int))
       else
        bif (decide (n0=8)) then
         some (([13,2,8,4,6,15,11,1,10,9,3,14,5,0,12,7,1,15,13,8,10,3,7,4,12,5,6,11,0,14,9,2,7,11,4,1,9,12,14,2,0,6,10,13,15,3,5,8,2,1,14,7,4,10,8,13,15,12,9,0,3,5,6,11]:List Int))
        else
         some ((@List.replicate Int (C8 (64:Int)) (0:Int)))
theorem Cz (n0:Int):(runK C6 (apR N) 400 189 [(.int .i64)] [(.sl (.int .i64))] (n0,())).run=u7 N n0:=by kernel_rfl
noncomputable def apQ:ET:=eFn (apR N) 189 [(.int .i64)] [(.sl (.int .i64))] fun c=>u7 N c.1
theorem akb:OkE (apQ N):=aFn (akc N) (by kernel_rfl) fun c=>Cz N c.1
noncomputable def hP (n0:Int)(six1:List (Int)):Option Int:=
 ne (getI six1 0) fun v3=>
 ne (getI six1 5) fun v4=>
 ne (subI six1 (1:Int) (5:Int)) fun v5=>
 ne (f8 N v5) fun v6=>
 ne (u7 N n0) fun v7=>
 ne (getI v7 (gt .i64 ((gt .i64 ((16:Int)*(gt .i64 ((gt .i64 ((2:Int)*(gt .i64 v3)))+(gt .i64 v4)))))+(gt .i64 v6)))) fun v8=>
 some (v8)
theorem yU (n0:Int)(six1:List (Int)):(runK C6 (apQ N) 400 173 [(.int .i64),(.sl (.int .u8))] [(.int .i64)] (n0,six1,())).run=hP N n0 six1:=by kernel_rfl
noncomputable def apP:ET:=eFn (apQ N) 173 [(.int .i64),(.sl (.int .u8))] [(.int .i64)] fun c=>hP N c.1 c.2.1
theorem aci:OkE (apP N):=aFn (akb N) (by kernel_rfl) fun c=>yU N c.1 c.2.1
noncomputable def j8:LI:=⟨34,0,[(6,5)],⟨[(5,.ty (.sl (.int .u8))),(6,.lit (.own 0)),(7,.ty (.int .i64))],[.own (.int .u8) 5]⟩,[(.exit 0,⟨[(6,.lit (.own 0))],[.own (.int .u8) 5]⟩)]⟩
noncomputable def gC (X:(pz7×((List Int)×Unit))→Option pz3)(x5:List (Int))(i7:Int)(h0:List (Int)):Option pz3:=
 bif (decide (i7<8)) then
  ne (subI x5 (gt .i64 ((6:Int)*i7)) (gt .i64 ((gt .i64 ((6:Int)*i7))+6))) fun v5=>
  ne (hP N (gt .i64 (i7+1)) v5) fun v6=>
  ne (dE N (gt .u64 v6) (4:Int)) fun v7=>
  bif (ae ((C7 h0)+(C7 v7)) 1) then
   (X ((x5,((gt .i64 (i7+1)),())),((h0++v7),())))
  else
   none
 else
  some (((),(h0,())))
noncomputable def j7 (c:(pz7×((List Int)×Unit))):Option pz3:=gl (fun X c=>gC N X c.1.1 c.1.2.1 c.2.1) N c
theorem uY (X:(pz7×((List Int)×Unit))→Option pz3)(x5:List (Int))(i7:Int)(h0:List (Int)):(aq C6 (apP N) 400 [149] j8 (ao C6 [149] 4) X ((x5,i7,()),(h0,()))).run=gC N X x5 i7 h0:=by kernel_rfl
noncomputable def apO:(R:Type)→Env R:=Da (apP N) [149] 0 4 (fun R=>lpK C6 j8 (fun X c=>gC N X c.1.1 c.1.2.1 c.2.1) N)
theorem aka (R:Type):EnvOK C6 (apO N R):=C9 (aci N R) (by kernel_rfl) (aw (li:=j8) hmx (aci N _) (by kernel_rfl) ab (fun X c=>uY N X c.1.1 c.1.2.1 c.2.1) N)
noncomputable def tu (N:Nat):Option (List Int):=
 some (([16,7,20,21,29,12,28,17,1,15,23,26,5,18,31,10,2,8,24,14,32,27,3,9,19,13,30,6,22,11,4,25]:List Int))
theorem wF:(runK C6 (apO N) 400 174 [] [(.sl (.int .i64))] ()).run=tu N:=by kernel_rfl
noncomputable def apN:ET:=eFn (apO N) 174 [] [(.sl (.int .i64))] fun c=>tu N
theorem aj9:OkE (apN N):=aFn (aka N) (by kernel_rfl) fun c=>wF N
noncomputable def mA (half0:List (Int))(key1:List (Int)):Option (List Int):=
 ne (cP N half0 (@C5 Int (32:Int) (@C5 Int (1:Int) (@C5 Int (2:Int) (@C5 Int (3:Int) (@C5 Int (4:Int) (@C5 Int (5:Int) (@C5 Int (4:Int) (@C5 Int (5:Int) (@C5 Int (6:Int) (@C5 Int (7:Int) (@C5 Int (8:Int) (@C5 Int (9:Int) (@C5 Int (8:Int) (@C5 Int (9:Int) (@C5 Int (10:Int) (@C5 Int (11:Int) (@C5 Int (12:Int) (@C5 Int (13:Int) (@C5 Int (12:Int) (@C5 Int (13:Int) (@C5 Int (14:Int) (@C5 Int (15:Int) (@C5 Int (16:Int) (@C5 Int (17:Int) (@C5 Int (16:Int) (@C5 Int (17:Int) (@C5 Int (18:Int) (@C5 Int (19:Int) (@C5 Int (20:Int) (@C5 Int (21:Int) (@C5 Int (20:Int) (@C5 Int (21:Int) (@C5 Int (22:Int) (@C5 Int (23:Int) (@C5 Int (24:Int) (@C5 Int (25:Int) ([24,25,26,27,28,29,28,29,30,31,32,1]:List Int)))))))))))))))))))))))))))))))))))))) fun v3=>
 ne (fX N v3 key1) fun v4=>
 ne (j7 N ((v4,(0,())),(([]:List Int),()))) fun v5=>
 ne (cP N v5.2.1 ([16,7,20,21,29,12,28,17,1,15,23,26,5,18,31,10,2,8,24,14,32,27,3,9,19,13,30,6,22,11,4,25]:List Int)) fun v6=>
 some (v6)
theorem AZ (half0:List (Int))(key1:List (Int)):(runK C6 (apN N) 400 149 [(.sl (.int .u8)),(.sl (.int .u8))] [(.sl (.int .u8))] (half0,key1,())).run=mA N half0 key1:=by kernel_rfl
noncomputable def apM:ET:=eFn (apN N) 149 [(.sl (.int .u8)),(.sl (.int .u8))] [(.sl (.int .u8))] fun c=>mA N c.1 c.2.1
theorem ach:OkE (apM N):=aFn (aj9 N) (by kernel_rfl) fun c=>AZ N c.1 c.2.1
noncomputable def j9:LI:=⟨39,0,[],⟨[(1,.ty (.sl (.sl (.int .u8)))),(6,.ty (.sl (.int .u8))),(7,.ty (.sl (.int .u8))),(8,.ty (.int .i64))],[]⟩,[(.exit 0,⟨[(6,.ty (.sl (.int .u8))),(7,.ty (.sl (.int .u8)))],[]⟩)]⟩
noncomputable def eY (X:(((List (List Int))×((List Int)×pz7))×Unit)→Option ((((List Int)×((List Int)×Unit))×Unit)))(l1:List (List Int))(left6:List (Int))(right7:List (Int))(i8:Int):Option ((((List Int)×((List Int)×Unit))×Unit)):=
 bif (decide (i8<(l1.length:Int))) then
  ne (getI l1 i8) fun v6=>
  ne (mA N right7 v6) fun v7=>
  ne (fX N left6 v7) fun v8=>
  (X ((l1,(right7,(v8,((gt .i64 (i8+1)),())))),()))
 else
  some (((left6,(right7,())),()))
noncomputable def gD (c:(((List (List Int))×((List Int)×pz7))×Unit)):Option ((((List Int)×((List Int)×Unit))×Unit)):=gl (fun X c=>eY N X c.1.1 c.1.2.1 c.1.2.2.1 c.1.2.2.2.1) N c
theorem uZ (X:(((List (List Int))×((List Int)×pz7))×Unit)→Option ((((List Int)×((List Int)×Unit))×Unit)))(l1:List (List Int))(left6:List (Int))(right7:List (Int))(i8:Int):(aq C6 (apM N) 400 [120] j9 (ao C6 [120] 4) X ((l1,left6,right7,i8,()),())).run=eY N X l1 left6 right7 i8:=by kernel_rfl
noncomputable def apK:(R:Type)→Env R:=Da (apM N) [120] 0 4 (fun R=>lpK C6 j9 (fun X c=>eY N X c.1.1 c.1.2.1 c.1.2.2.1 c.1.2.2.2.1) N)
theorem aj8 (R:Type):EnvOK C6 (apK N R):=C9 (ach N R) (by kernel_rfl) (aw (li:=j9) hmx (ach N _) (by kernel_rfl) ab (fun X c=>uZ N X c.1.1 c.1.2.1 c.1.2.2.1 c.1.2.2.2.1) N)
noncomputable def xE (N:Nat):Option (List Int):=
 some (([40,8,48,16,56,24,64,32,39,7,47,15,55,23,63,31,38,6,46,14,54,22,62,30,37,5,45,13,53,21,61,29,36,4,44,12,52,20,60,28,35,3,43,11,51,19,59,27,34,2,42,10,50,18,58,26,33,1,41,9,49,17,57,25]:List Int))
theorem A3:(runK C6 (apK N) 400 150 [] [(.sl (.int .i64))] ()).run=xE N:=by kernel_rfl
noncomputable def apJ:ET:=eFn (apK N) 150 [] [(.sl (.int .i64))] fun c=>xE N
theorem aj7:OkE (apJ N):=aFn (aj8 N) (by kernel_rfl) fun c=>A3 N
noncomputable def mB (block0:Int)(l1:List (List Int)):Option Int:=
 ne (dE N block0 (64:Int)) fun v3=>
 ne (cP N v3 (@C5 Int (58:Int) (@C5 Int (50:Int) (@C5 Int (42:Int) (@C5 Int (34:Int) (@C5 Int (26:Int) (@C5 Int (18:Int) (@C5 Int (10:Int) (@C5 Int (2:Int) (@C5 Int (60:Int) (@C5 Int (52:Int) (@C5 Int (44:Int) (@C5 Int (36:Int) (@C5 Int (28:Int) (@C5 Int (20:Int) (@C5 Int (12:Int) (@C5 Int (4:Int) (@C5 Int (62:Int) (@C5 Int (54:Int) (@C5 Int (46:Int) (@C5 Int (38:Int) (@C5 Int (30:Int) (@C5 Int (22:Int) (@C5 Int (14:Int) (@C5 Int (6:Int) (@C5 Int (64:Int) (@C5 Int (56:Int) (@C5 Int (48:Int) (@C5 Int (40:Int) (@C5 Int (32:Int) (@C5 Int (24:Int) (@C5 Int (16:Int) (@C5 Int (8:Int) (@C5 Int (57:Int) (@C5 Int (49:Int) (@C5 Int (41:Int) (@C5 Int (33:Int) (@C5 Int (25:Int) (@C5 Int (17:Int) (@C5 Int (9:Int) (@C5 Int (1:Int) (@C5 Int (59:Int) (@C5 Int (51:Int) (@C5 Int (43:Int) (@C5 Int (35:Int) (@C5 Int (27:Int) (@C5 Int (19:Int) (@C5 Int (11:Int) (@C5 Int (3:Int) (@C5 Int (61:Int) (@C5 Int (53:Int) (@C5 Int (45:Int) (@C5 Int (37:Int) (@C5 Int (29:Int) (@C5 Int (21:Int) (@C5 Int (13:Int) (@C5 Int (5:Int) ([63,55,47,39,31,23,15,7]:List Int)))))))))))))))))))))))))))))))))))))))))))))))))))))))))) fun v4=>
 ne (cR v4 (32:Int)) fun v5=>
 ne (b9 v4 (32:Int)) fun v6=>
 ne (gD N ((l1,(v5,(v6,(0,())))),())) fun v7=>
 bif (ae (C7 v7.1.2.1) 1) then
  bif (ae ((C7 v7.1.2.1)+(C7 v7.1.1)) 1) then
   ne (cP N (v7.1.2.1++v7.1.1) (@C5 Int (40:Int) (@C5 Int (8:Int) (@C5 Int (48:Int) (@C5 Int (16:Int) (@C5 Int (56:Int) (@C5 Int (24:Int) (@C5 Int (64:Int) (@C5 Int (32:Int) (@C5 Int (39:Int) (@C5 Int (7:Int) (@C5 Int (47:Int) (@C5 Int (15:Int) (@C5 Int (55:Int) (@C5 Int (23:Int) (@C5 Int (63:Int) (@C5 Int (31:Int) (@C5 Int (38:Int) (@C5 Int (6:Int) (@C5 Int (46:Int) (@C5 Int (14:Int) (@C5 Int (54:Int) (@C5 Int (22:Int) (@C5 Int (62:Int) (@C5 Int (30:Int) (@C5 Int (37:Int) (@C5 Int (5:Int) (@C5 Int (45:Int) (@C5 Int (13:Int) (@C5 Int (53:Int) (@C5 Int (21:Int) (@C5 Int (61:Int) (@C5 Int (29:Int) (@C5 Int (36:Int) (@C5 Int (4:Int) (@C5 Int (44:Int) (@C5 Int (12:Int) (@C5 Int (52:Int) (@C5 Int (20:Int) (@C5 Int (60:Int) (@C5 Int (28:Int) (@C5 Int (35:Int) (@C5 Int (3:Int) (@C5 Int (43:Int) (@C5 Int (11:Int) (@C5 Int (51:Int) (@C5 Int (19:Int) (@C5 Int (59:Int) (@C5 Int (27:Int) (@C5 Int (34:Int) (@C5 Int (2:Int) (@C5 Int (42:Int) (@C5 Int (10:Int) (@C5 Int (50:Int) (@C5 Int (18:Int) (@C5 Int (58:Int) (@C5 Int (26:Int) ([33,1,41,9,49,17,57,25]:List Int)))))))))))))))))))))))))))))))))))))))))))))))))))))))))) fun v8=>
   ne (f8 N v8) fun v9=>
   some (v9)
  else
   none
 else
  none
theorem A2 (block0:Int)(l1:List (List Int)):(runK C6 (apJ N) 400 120 [(.int .u64),(.sl (.sl (.int .u8)))] [(.int .u64)] (block0,l1,())).run=mB N block0 l1:=by kernel_rfl
noncomputable def apI:ET:=eFn (apJ N) 120 [(.int .u64),(.sl (.sl (.int .u8)))] [(.int .u64)] fun c=>mB N c.1 c.2.1
theorem aj6:OkE (apI N):=aFn (aj7 N) (by kernel_rfl) fun c=>A2 N c.1 c.2.1
noncomputable def mF (key0:Int)(block1:Int):Option Int:=
 ne (mD N key0) fun v3=>
 ne (mB N block1 v3) fun v4=>
 some (v4)
theorem A5 (key0:Int)(block1:Int):(runK C6 (apI N) 400 79 [(.int .u64),(.int .u64)] [(.int .u64)] (key0,block1,())).run=mF N key0 block1:=by kernel_rfl
noncomputable def apH:ET:=eFn (apI N) 79 [(.int .u64),(.int .u64)] [(.int .u64)] fun c=>mF N c.1 c.2.1
theorem acg:OkE (apH N):=aFn (aj6 N) (by kernel_rfl) fun c=>A5 N c.1 c.2.1
noncomputable def iq:LI:=⟨42,0,[(4,5)],⟨[(0,.ty (.sl (.int .u8))),(4,.lit (.own 0)),(5,.lit (.c (.slice none 0 0))),(6,.ty (.int .i64))],[.own (.int .u8) 5]⟩,[(.exit 0,⟨[(4,.lit (.own 0)),(5,.lit (.c (.slice none 0 0)))],[.own (.int .u8) 5]⟩)]⟩
noncomputable def dD (X:(pz7×((List Int)×Unit))→Option pz3)(key0:List (Int))(i6:Int)(h0:List (Int)):Option pz3:=
 bif (decide (i6<7)) then
  ne (getI key0 i6) fun v5=>
  ne (dE N (gt .u64 v5) (8:Int)) fun v6=>
  bif (ae ((C7 h0)+(C7 v6)) 1) then
   (X ((key0,((gt .i64 (i6+1)),())),((h0++v6),())))
  else
   none
 else
  some (((),(h0,())))
noncomputable def ip (c:(pz7×((List Int)×Unit))):Option pz3:=gl (fun X c=>dD N X c.1.1 c.1.2.1 c.2.1) N c
theorem sM (X:(pz7×((List Int)×Unit))→Option pz3)(key0:List (Int))(i6:Int)(h0:List (Int)):(aq C6 (apH N) 400 [77] iq (ao C6 [77] 5) X ((key0,i6,()),(h0,()))).run=dD N X key0 i6 h0:=by kernel_rfl
noncomputable def apG:(R:Type)→Env R:=Da (apH N) [77] 0 5 (fun R=>lpK C6 iq (fun X c=>dD N X c.1.1 c.1.2.1 c.2.1) N)
theorem acf (R:Type):EnvOK C6 (apG N R):=C9 (acg N R) (by kernel_rfl) (aw (li:=iq) hmx (acg N _) (by kernel_rfl) ab (fun X c=>sM N X c.1.1 c.1.2.1 c.2.1) N)
noncomputable def lC:LI:=⟨23,0,[],⟨[(0,.ty (.int .u8)),(3,.ty (.int .u8)),(4,.ty (.int .i64))],[]⟩,[(.exit 0,⟨[(0,.ty (.int .u8)),(3,.ty (.int .u8))],[]⟩)]⟩
noncomputable def o7 (N:Nat)(X:(pz10×Unit)→Option (pz16))(b0:Int)(n3:Int)(i4:Int):Option (pz16):=
 bif (decide (i4<8)) then
  bif (decide (0≤i4)) then
   (X ((b0,((gt .u8 (n3+(@Df (@Di b0 ((2:Int) ^ (min (C8 i4) (Db .u8)))) (2:Int)))),((gt .i64 (i4+1)),()))),()))
  else
   none
 else
  some (((b0,(n3,())),()))
noncomputable def wN (c:(pz10×Unit)):Option (pz16):=gl (fun X c=>o7 N X c.1.1 c.1.2.1 c.1.2.2.1) N c
theorem wM (X:(pz10×Unit)→Option (pz16))(b0:Int)(n3:Int)(i4:Int):(aq C6 (apG N) 400 [118] lC (ao C6 [118] 3) X ((b0,n3,i4,()),())).run=o7 N X b0 n3 i4:=by kernel_rfl
noncomputable def apF:(R:Type)→Env R:=Da (apG N) [118] 0 3 (fun R=>lpK C6 lC (fun X c=>o7 N X c.1.1 c.1.2.1 c.1.2.2.1) N)
theorem aj5 (R:Type):EnvOK C6 (apF N R):=C9 (acf N R) (by kernel_rfl) (aw (li:=lC) hmx (acf N _) (by kernel_rfl) ab (fun X c=>wM N X c.1.1 c.1.2.1 c.1.2.2.1) N)
noncomputable def rC (b0:Int):Option Int:=
 ne (wN N ((b0,(0,(1,()))),())) fun v2=>
 some ((gt .u8 ((gt .u8 (v2.1.1-(@Df v2.1.1 (2:Int))))+(@Df (gt .u8 (v2.1.2.1+1)) (2:Int)))))
theorem CD (b0:Int):(runK C6 (apF N) 400 118 [(.int .u8)] [(.int .u8)] (b0,())).run=rC N b0:=by kernel_rfl
noncomputable def apE:ET:=eFn (apF N) 118 [(.int .u8)] [(.int .u8)] fun c=>rC N c.1
theorem ace:OkE (apE N):=aFn (aj5 N) (by kernel_rfl) fun c=>CD N c.1
noncomputable def io:LI:=⟨42,0,[(5,5)],⟨[(4,.ty (.sl (.int .u8))),(5,.lit (.own 0)),(7,.ty (.int .i64))],[.own (.int .u8) 5]⟩,[(.exit 2,⟨[(5,.lit (.own 0))],[.own (.int .u8) 5]⟩)]⟩
noncomputable def dC (X:(pz7×((List Int)×Unit))→Option pz3)(row4:List (Int))(i7:Int)(h0:List (Int)):Option pz3:=
 bif (decide (i7<8)) then
  ne (subI row4 (gt .i64 ((7:Int)*i7)) (gt .i64 ((gt .i64 ((7:Int)*i7))+7))) fun v5=>
  ne (f8 N v5) fun v6=>
  ne (rC N (gt .u8 (gt .u64 ((2:Int)*v6)))) fun v7=>
  bif (ae ((C7 h0)+(C7 ([v7]:List (Int)))) 1) then
   (X ((row4,((gt .i64 (i7+1)),())),((h0++([v7]:List (Int))),())))
  else
   none
 else
  some (((),(h0,())))
noncomputable def im (c:(pz7×((List Int)×Unit))):Option pz3:=gl (fun X c=>dC N X c.1.1 c.1.2.1 c.2.1) N c
theorem sL (X:(pz7×((List Int)×Unit))→Option pz3)(row4:List (Int))(i7:Int)(h0:List (Int)):(aq C6 (apE N) 400 [77] io (ao C6 [77] 9) X ((row4,i7,()),(h0,()))).run=dC N X row4 i7 h0:=by kernel_rfl
noncomputable def apD:(R:Type)→Env R:=Da (apE N) [77] 0 9 (fun R=>lpK C6 io (fun X c=>dC N X c.1.1 c.1.2.1 c.2.1) N)
theorem aj4 (R:Type):EnvOK C6 (apD N R):=C9 (ace N R) (by kernel_rfl) (aw (li:=io) hmx (ace N _) (by kernel_rfl) ab (fun X c=>sL N X c.1.1 c.1.2.1 c.2.1) N)
noncomputable def iJ (key0:List (Int)):Option ((List Int)×Int):=
 bif (!(decide ((key0.length:Int)=(7:Int)))) then
  some ((([]:List Int),(1:Int)))
 else
  ne (ip N ((key0,(0,())),(([]:List Int),()))) fun v2=>
  ne (im N ((v2.2.1,(0,())),(([]:List Int),()))) fun v3=>
  some ((v3.2.1,(0:Int)))
theorem wJ (key0:List (Int)):(runK C6 (apD N) 400 77 [(.sl (.int .u8))] [(.sl (.int .u8)),(.int .i64)] (key0,())).run=iJ N key0:=by kernel_rfl
noncomputable def apC:ET:=eFn (apD N) 77 [(.sl (.int .u8))] [(.sl (.int .u8)),(.int .i64)] fun c=>iJ N c.1
theorem acd:OkE (apC N):=aFn (aj4 N) (by kernel_rfl) fun c=>wJ N c.1
noncomputable def lE:LI:=⟨20,0,[],⟨[(0,.ty (.sl (.int .u8))),(3,.ty (.int .u64)),(4,.ty (.int .i64))],[]⟩,[(.exit 0,⟨[(3,.ty (.int .u64))],[]⟩)]⟩
noncomputable def gh (N:Nat)(X:(pz8×Unit)→Option (((Int×Unit)×Unit)))(b0:List (Int))(n3:Int)(i4:Int):Option (((Int×Unit)×Unit)):=
 bif (decide (i4<(b0.length:Int))) then
  ne (getI b0 i4) fun v5=>
  (X ((b0,((gt .u64 ((gt .u64 (n3*(256:Int)))+(gt .u64 v5))),((gt .i64 (i4+1)),()))),()))
 else
  some (((n3,()),()))
noncomputable def lD (c:(pz8×Unit)):Option (((Int×Unit)×Unit)):=gl (fun X c=>gh N X c.1.1 c.1.2.1 c.1.2.2.1) N c
theorem wO (X:(pz8×Unit)→Option (((Int×Unit)×Unit)))(b0:List (Int))(n3:Int)(i4:Int):(aq C6 (apC N) 400 [80] lE (ao C6 [80] 3) X ((b0,n3,i4,()),())).run=gh N X b0 n3 i4:=by kernel_rfl
noncomputable def apA:(R:Type)→Env R:=Da (apC N) [80] 0 3 (fun R=>lpK C6 lE (fun X c=>gh N X c.1.1 c.1.2.1 c.1.2.2.1) N)
theorem aj3 (R:Type):EnvOK C6 (apA N R):=C9 (acd N R) (by kernel_rfl) (aw (li:=lE) hmx (acd N _) (by kernel_rfl) ab (fun X c=>wO N X c.1.1 c.1.2.1 c.1.2.2.1) N)
noncomputable def mL (b0:List (Int)):Option Int:=
 ne (lD N ((b0,(0,(0,()))),())) fun v2=>
 some (v2.1.1)
theorem CE (b0:List (Int)):(runK C6 (apA N) 400 80 [(.sl (.int .u8))] [(.int .u64)] (b0,())).run=mL N b0:=by kernel_rfl
noncomputable def apy:ET:=eFn (apA N) 80 [(.sl (.int .u8))] [(.int .u64)] fun c=>mL N c.1
theorem acb:OkE (apy N):=aFn (aj3 N) (by kernel_rfl) fun c=>CE N c.1
noncomputable def lH:LI:=⟨24,0,[],⟨[(0,.ty (.int .u64)),(5,.lit (.own 0)),(6,.ty (.int .i64))],[.own (.int .u8) 5]⟩,[(.exit 0,⟨[(5,.lit (.own 0))],[.own (.int .u8) 5]⟩)]⟩
noncomputable def iL (N:Nat)(X:pz21→Option pz3)(n0:Int)(i6:Int)(h0:List (Int)):Option pz3:=
 bif (decide (0≤i6)) then
  bif (decide ((0:Int)≤i6∧i6<(h0.length:Int))) then
   ne (h0[C8 i6]?) fun (v5:Int)=>
   (X (((gt .u64 (@Int.tdiv n0 (256:Int))),((gt .i64 (i6-1)),())),((@List.set Int h0 (C8 i6) (gt .u8 (@Df n0 (256:Int)))),())))
  else
   none
 else
  some (((),(h0,())))
noncomputable def lG (c:pz21):Option pz3:=gl (fun X c=>iL N X c.1.1 c.1.2.1 c.2.1) N c
theorem wQ (X:pz21→Option pz3)(n0:Int)(i6:Int)(h0:List (Int)):(aq C6 (apy N) 400 [78] lH (ao C6 [78] 3) X ((n0,i6,()),(h0,()))).run=iL N X n0 i6 h0:=by kernel_rfl
noncomputable def apx:(R:Type)→Env R:=Da (apy N) [78] 0 3 (fun R=>lpK C6 lH (fun X c=>iL N X c.1.1 c.1.2.1 c.2.1) N)
theorem aj2 (R:Type):EnvOK C6 (apx N R):=C9 (acb N R) (by kernel_rfl) (aw (li:=lH) hmx (acb N _) (by kernel_rfl) ab (fun X c=>wQ N X c.1.1 c.1.2.1 c.2.1) N)
noncomputable def o8 (n0:Int)(width1:Int):Option (List Int):=
 bif ((decide ((0:Int)≤width1∧width1≤width1))&&(ae (C8 width1) 1)) then
  ne (lG N ((n0,((gt .i64 (width1-1)),())),((@List.replicate Int (C8 width1) (0:Int)),()))) fun v3=>
  some (v3.2.1)
 else
  none
theorem CG (n0:Int)(width1:Int):(runK C6 (apx N) 400 78 [(.int .u64),(.int .i64)] [(.sl (.int .u8))] (n0,width1,())).run=o8 N n0 width1:=by kernel_rfl
noncomputable def apw:ET:=eFn (apx N) 78 [(.int .u64),(.int .i64)] [(.sl (.int .u8))] fun c=>o8 N c.1 c.2.1
theorem aj1:OkE (apw N):=aFn (aj2 N) (by kernel_rfl) fun c=>CG N c.1 c.2.1
noncomputable def kb (key0:List (Int))(block1:List (Int)):Option ((List Int)×Int):=
 bif (!(decide ((key0.length:Int)=(7:Int)))) then
  some ((([]:List Int),(1:Int)))
 else
  ne (some ((cond false true (!(decide ((block1.length:Int)=(8:Int))))))) fun (v3:Bool)=>
  bif v3 then
   some ((([]:List Int),(1:Int)))
  else
   ne (iJ N key0) fun v4=>
   ne (mL N v4.1) fun v5=>
   ne (mL N block1) fun v6=>
   ne (mF N v5 v6) fun v7=>
   ne (o8 N v7 (8:Int)) fun v8=>
   some ((v8,(0:Int)))
theorem yW (key0:List (Int))(block1:List (Int)):(runK C6 (apw N) 400 47 [(.sl (.int .u8)),(.sl (.int .u8))] [(.sl (.int .u8)),(.int .i64)] (key0,block1,())).run=kb N key0 block1:=by kernel_rfl
noncomputable def apv:ET:=eFn (apw N) 47 [(.sl (.int .u8)),(.sl (.int .u8))] [(.sl (.int .u8)),(.int .i64)] fun c=>kb N c.1 c.2.1
theorem aca:OkE (apv N):=aFn (aj1 N) (by kernel_rfl) fun c=>yW N c.1 c.2.1
noncomputable def lI:LI:=⟨35,0,[],⟨[(0,.ty (.sl (.int .u8))),(1,.ty (.sl (.int .u8))),(5,.ty (.int .i64)),(16,.ty (.int .i64)),(17,.ty (.int .i64))],[]⟩,[(.exit 0,⟨[(5,.ty (.int .i64))],[]⟩)]⟩
noncomputable def gm (N:Nat)(X:(((List Int)×((List Int)×pz10))×Unit)→Option (((Int×Unit)×Unit)))(a0:List (Int))(b1:List (Int))(differ5:Int)(x16:Int)(x17:Int):Option (((Int×Unit)×Unit)):=
 bif (decide (x17<x16)) then
  ne (getI a0 x17) fun v7=>
  ne (getI b1 x17) fun v8=>
  (X ((a0,(b1,((bits .or .i64 differ5 (gt .i64 (bits .xor .u8 v7 v8))),(x16,((gt .i64 (x17+1)),()))))),()))
 else
  some (((differ5,()),()))
noncomputable def qE (c:(((List Int)×((List Int)×pz10))×Unit)):Option (((Int×Unit)×Unit)):=gl (fun X c=>gm N X c.1.1 c.1.2.1 c.1.2.2.1 c.1.2.2.2.1 c.1.2.2.2.2.1) N c
theorem wS (X:(((List Int)×((List Int)×pz10))×Unit)→Option (((Int×Unit)×Unit)))(a0:List (Int))(b1:List (Int))(differ5:Int)(x16:Int)(x17:Int):(aq C6 (apv N) 400 [85] lI (ao C6 [85] 3) X ((a0,b1,differ5,x16,x17,()),())).run=gm N X a0 b1 differ5 x16 x17:=by kernel_rfl
noncomputable def apu:(R:Type)→Env R:=Da (apv N) [85] 0 3 (fun R=>lpK C6 lI (fun X c=>gm N X c.1.1 c.1.2.1 c.1.2.2.1 c.1.2.2.2.1 c.1.2.2.2.2.1) N)
theorem aj0 (R:Type):EnvOK C6 (apu N R):=C9 (aca N R) (by kernel_rfl) (aw (li:=lI) hmx (aca N _) (by kernel_rfl) ab (fun X c=>wS N X c.1.1 c.1.2.1 c.1.2.2.1 c.1.2.2.2.1 c.1.2.2.2.2.1) N)
noncomputable def kr (a0:List (Int))(b1:List (Int)):Option Bool:=
 ne (qE N ((a0,(b1,((bits .xor .i64 (a0.length:Int) (b1.length:Int)),((@minI (a0.length:Int) (b1.length:Int)),(0,()))))),())) fun v3=>
 some ((decide (v3.1.1=0)))
theorem CU (a0:List (Int))(b1:List (Int)):(runK C6 (apu N) 400 85 [(.sl (.int .u8)),(.sl (.int .u8))] [.bool] (a0,b1,())).run=kr N a0 b1:=by kernel_rfl
noncomputable def atl:ET:=eFn (apu N) 85 [(.sl (.int .u8)),(.sl (.int .u8))] [.bool] fun c=>kr N c.1 c.2.1
theorem ajZ:OkE (atl N):=aFn (aj0 N) (by kernel_rfl) fun c=>CU N c.1 c.2.1
noncomputable def apt:ET:=Dj (atl N) [(89,5)]
theorem ab9:OkE (apt N):=fun R=>Dg (ajZ N R) [(89,5)]
end
end Go.Proofs.YtolkfnemdejonaaGreatDoor
