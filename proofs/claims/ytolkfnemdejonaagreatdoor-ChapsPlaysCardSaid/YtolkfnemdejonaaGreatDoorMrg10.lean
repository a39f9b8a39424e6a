/-
  Parts of my own, one behind the other: GCp, QCD1, QCD2, QCD3, QCD4, QCD5, QCD6, QCD7, QCp0, QCa0, QCa1, QCa2, QCa3, QCa4.
-/
import Derived.Test.YtolkfnemdejonaaGreatDoorMrg9
import Derived.Test.YtolkfnemdejonaaGreatDoorMrg4
open Go.IntKind renaming wrap→gt, bits→Dh, wrap_u8→DN
open Option renaming bind→ne, bind_some→C9
open Array renaming toList→C5
open List renaming toArray→C6, length→C7, replicate→Da, take_append_getElem→Df, length_take→Dg, length_append→Dj, take_length→Dq, getElem_mem→Dw, drop_eq_getElem_cons→Dx, length_cons→DA, range→DB, length_drop→DD, append_assoc→DJ, map_append→DK, length_nil→DM
open Go.Proofs.Tryz renaming prog→C8
open Int renaming toNat→Db, toNat_natCast→Dd, tmod_eq_emod_of_nonneg→Dm, fdiv→Dv, fdiv_eq_ediv_of_nonneg→Dy, tdiv_eq_ediv_of_nonneg→DE, natCast_add→DH, tmod→DI, natCast_one→DL, natCast_nonneg→DQ
open Go.Proofs.YtolkfnemdejonaaGreatDoor.EnvOK renaming addBx→Dc, addLp→Dk
open Go.Proofs.YtolkfnemdejonaaGreatDoor.Env renaming addBx→Di, addLp→Du
open Nat renaming zero_le→Dn, pow_le_pow_right→Dt, lt_of_le_of_lt→Dz, div_div_eq_div_mul→DC, div_le_self→DF
open Go.Proofs.YtolkfnemdejonaaGreatDoor.Arr renaming cons→Do
open Go.Lib renaming itoa→Ds
open Bool renaming not_true→DO
open UInt8 renaming toNat→DP
namespace Go.Proofs.YtolkfnemdejonaaGreatDoor
open Go.RowKit
set_option linter.unusedVariables false
set_option maxRecDepth 100000
section
variable (N:Nat)
noncomputable def nO:LI:=⟨28,0,[],⟨[(3,.lit (.own 0)),(10,.ty (.sl (.int .u8))),(11,.ty (.int .i64)),(12,.ty (.int .i64))],[.own (.int .u8) 5]⟩,[(.exit 0,⟨[(3,.lit (.own 0))],[.own (.int .u8) 5]⟩)]⟩
noncomputable def iu (N:Nat)(X:(pz8×((List Int)×Unit))→Option pz3)(x10:List (Int))(x11:Int)(x12:Int)(h0:List (Int)):Option pz3:=
 bif (decide (x12<x11)) then
  ne (getI x10 x12) fun v6=>
  ne (getI (C5 (C6 ([48,49,50,51,52,53,54,55,56,57,65,66,67,68,69,70]:List UInt8))) (@Dv v6 ((2:Int) ^ (min (Db (4:Int)) (Dh .u8))))) fun v7=>
  ne (getI (C5 (C6 ([48,49,50,51,52,53,54,55,56,57,65,66,67,68,69,70]:List UInt8))) (bits .and .u8 v6 (15:Int))) fun v8=>
  bif (ae ((C7 h0)+(C7 ([(((@DP v7):Nat):Int),(((@DP v8):Nat):Int)]:List (Int)))) 1) then
   (X ((x10,(x11,((gt .i64 (x12+1)),()))),((h0++([(((@DP v7):Nat):Int),(((@DP v8):Nat):Int)]:List (Int))),())))
  else
   none
 else
  some (((),(h0,())))
noncomputable def rE (c:(pz8×((List Int)×Unit))):Option pz3:=gl (fun X c=>iu N X c.1.1 c.1.2.1 c.1.2.2.1 c.2.1) N c
theorem zi (X:(pz8×((List Int)×Unit))→Option pz3)(x10:List (Int))(x11:Int)(x12:Int)(h0:List (Int)):(aq C8 (apt N) 400 [89] nO (ao C8 [89] 3) X ((x10,x11,x12,()),(h0,()))).run=iu N X x10 x11 x12 h0:=by kernel_rfl
noncomputable def aps:(R:Type)→Env R:=Du (apt N) [89] 0 3 (fun R=>lpK C8 nO (fun X c=>iu N X c.1.1 c.1.2.1 c.1.2.2.1 c.2.1) N)
theorem ajY (R:Type):EnvOK C8 (aps N R):=Dk (ab9 N R) (by kernel_rfl) (aw (li:=nO) hmx (ab9 N _) (by kernel_rfl) ab (fun X c=>zi N X c.1.1 c.1.2.1 c.1.2.2.1 c.2.1) N)
noncomputable def lc (b0:List (Int)):Option (List UInt8):=
 bif ((decide ((0:Int)≤(0:Int)∧(0:Int)≤(gt .i64 ((2:Int)*(b0.length:Int)))))&&(ae (Db (gt .i64 ((2:Int)*(b0.length:Int)))) 1)) then
  ne (rE N ((b0,((b0.length:Int),(0,()))),((@Da Int (Db (0:Int)) (0:Int)),()))) fun v2=>
  ne (@toBy v2.2.1) fun (v3:(List UInt8))=>
  some (v3)
 else
  none
theorem ade (b0:List (Int)):(runK C8 (aps N) 400 89 [(.sl (.int .u8))] [.str] (b0,())).run=lc N b0:=by kernel_rfl
noncomputable def apr:ET:=eFn (aps N) 89 [(.sl (.int .u8))] [.str] fun c=>lc N c.1
theorem ab8:OkE (apr N):=aFn (ajY N) (by kernel_rfl) fun c=>ade N c.1
noncomputable def lF:LI:=⟨40,0,[],⟨[(0,.ty (.sl (.int .u8))),(3,.ty .str),(4,.ty .str),(5,.ty (.int .i64))],[]⟩,[(.exit 0,⟨[(4,.ty .str)],[]⟩)]⟩
noncomputable def gi (N:Nat)(X:(((List Int)×(List UInt8×pz18))×Unit)→Option (pz29))(b0:List (Int))(all3:List UInt8)(s4:List UInt8)(i5:Int):Option (pz29):=
 bif (decide (i5<(b0.length:Int))) then
  ne (getI b0 i5) fun v6=>
  ne (getI b0 i5) fun v7=>
  ne (subI all3 (gt .i64 (gt .u8 (@Int.tdiv v6 (16:Int)))) (gt .i64 ((gt .i64 (gt .u8 (@Int.tdiv v6 (16:Int))))+1))) fun v8=>
  ne (subI all3 (gt .i64 (@DI v7 (16:Int))) (gt .i64 ((gt .i64 (@DI v7 (16:Int)))+1))) fun v9=>
  bif (decide (((C7 v8)+(C7 v9))≤maxLen)) then
   bif (decide (((C7 s4)+(C7 (v8++v9)))≤maxLen)) then
    (X ((b0,(all3,((s4++(v8++v9)),((gt .i64 (i5+1)),())))),()))
   else
    none
  else
   none
 else
  some (((s4,()),()))
noncomputable def qD (c:(((List Int)×(List UInt8×pz18))×Unit)):Option (pz29):=gl (fun X c=>gi N X c.1.1 c.1.2.1 c.1.2.2.1 c.1.2.2.2.1) N c
theorem wP (X:(((List Int)×(List UInt8×pz18))×Unit)→Option (pz29))(b0:List (Int))(all3:List UInt8)(s4:List UInt8)(i5:Int):(aq C8 (apr N) 400 [62] lF (ao C8 [62] 4) X ((b0,all3,s4,i5,()),())).run=gi N X b0 all3 s4 i5:=by kernel_rfl
noncomputable def apq:(R:Type)→Env R:=Du (apr N) [62] 0 4 (fun R=>lpK C8 lF (fun X c=>gi N X c.1.1 c.1.2.1 c.1.2.2.1 c.1.2.2.2.1) N)
theorem ajX (R:Type):EnvOK C8 (apq N R):=Dk (ab8 N R) (by kernel_rfl) (aw (li:=lF) hmx (ab8 N _) (by kernel_rfl) ab (fun X c=>wP N X c.1.1 c.1.2.1 c.1.2.2.1 c.1.2.2.2.1) N)
noncomputable def iK (b0:List (Int)):Option (List UInt8):=
 ne (qD N ((b0,((C5 (C6 ([48,49,50,51,52,53,54,55,56,57,65,66,67,68,69,70]:List UInt8))),((C5 (C6 ([]:List UInt8))),(0,())))),())) fun v2=>
 some (v2.1.1)
theorem CF (b0:List (Int)):(runK C8 (apq N) 400 62 [(.sl (.int .u8))] [.str] (b0,())).run=iK N b0:=by kernel_rfl
noncomputable def apn:ET:=eFn (apq N) 62 [(.sl (.int .u8))] [.str] fun c=>iK N c.1
theorem ab7:OkE (apn N):=aFn (ajX N) (by kernel_rfl) fun c=>CF N c.1
noncomputable def iX:LI:=⟨19,0,[],⟨[(6,.ty (.sl (.int .u8))),(7,.ty (.int .i64)),(8,.ty (.int .i64))],[]⟩,[(.ret,⟨[(2,.ty .bool)],[]⟩),(.exit 0,⟨[],[]⟩)]⟩
noncomputable def cG (N:Nat)(X:(pz8×Unit)→Option ((((Bool×Unit)×Unit) ⊕ (Unit×Unit))))(x6:List (Int))(x7:Int)(x8:Int):Option ((((Bool×Unit)×Unit) ⊕ (Unit×Unit))):=
 bif (decide (x8<x7)) then
  ne (getI x6 x8) fun v5=>
  ne (bif (decide (v5<32)) then
    some (true)
   else
    some ((cond false true (decide (126<v5))))) fun (v6:Bool)=>
  bif v6 then
   some ((.inl ((false,()),())))
  else
   (X ((x6,(x7,((gt .i64 (x8+1)),()))),()))
 else
  some ((.inr ((),())))
noncomputable def ov (c:(pz8×Unit)):Option ((((Bool×Unit)×Unit) ⊕ (Unit×Unit))):=gl (fun X c=>cG N X c.1.1 c.1.2.1 c.1.2.2.1) N c
theorem tJ (X:(pz8×Unit)→Option ((((Bool×Unit)×Unit) ⊕ (Unit×Unit))))(x6:List (Int))(x7:Int)(x8:Int):(aq C8 (apn N) 400 [87] iX (ao C8 [87] 2) X ((x6,x7,x8,()),())).run=cG N X x6 x7 x8:=by kernel_rfl
noncomputable def apm:(R:Type)→Env R:=Du (apn N) [87] 0 2 (fun R=>lpK C8 iX (fun X c=>cG N X c.1.1 c.1.2.1 c.1.2.2.1) N)
theorem ajW (R:Type):EnvOK C8 (apm N R):=Dk (ab7 N R) (by kernel_rfl) (aw (li:=iX) hmx (ab7 N _) (by kernel_rfl) ab (fun X c=>tJ N X c.1.1 c.1.2.1 c.1.2.2.1) N)
noncomputable def jJ (s0:List UInt8):Option Bool:=
 bif (ae (C7 s0) 1) then
  ne (ov N (((@ofB s0),((((C7 (@ofB s0)):Nat):Int),(0,()))),())) fun v2=>
  Sum.elim
   (fun (v3:((Bool×Unit)×Unit))=>
   some (v3.1.1))
   (fun (v3:(Unit×Unit))=>
   some (true)) v2
 else
  none
theorem yn (s0:List UInt8):(runK C8 (apm N) 400 87 [.str] [.bool] (s0,())).run=jJ N s0:=by kernel_rfl
noncomputable def apl:ET:=eFn (apm N) 87 [.str] [.bool] fun c=>jJ N c.1
theorem ab6:OkE (apl N):=aFn (ajW N) (by kernel_rfl) fun c=>yn N c.1
noncomputable def jk:LI:=⟨20,0,[],⟨[(0,.ty .str),(3,.ty (.int .i64))],[]⟩,[(.ret,⟨[(2,.ty .bool)],[]⟩),(.exit 0,⟨[],[]⟩)]⟩
noncomputable def cH (N:Nat)(X:(pz18×Unit)→Option ((((Bool×Unit)×Unit) ⊕ (Unit×Unit))))(s0:List UInt8)(i3:Int):Option ((((Bool×Unit)×Unit) ⊕ (Unit×Unit))):=
 bif (decide (i3<(s0.length:Int))) then
  ne (getI s0 i3) fun v4=>
  ne (bif (decide ((((@DP v4):Nat):Int)<(32:Int))) then
    some (true)
   else
    ne (getI s0 i3) fun v5=>
    some ((cond false true (decide ((126:Int)<(((@DP v5):Nat):Int)))))) fun (v5:Bool)=>
  bif v5 then
   some ((.inl ((false,()),())))
  else
   (X ((s0,((gt .i64 (i3+1)),())),()))
 else
  some ((.inr ((),())))
noncomputable def oD (c:(pz18×Unit)):Option ((((Bool×Unit)×Unit) ⊕ (Unit×Unit))):=gl (fun X c=>cH N X c.1.1 c.1.2.1) N c
theorem tX (X:(pz18×Unit)→Option ((((Bool×Unit)×Unit) ⊕ (Unit×Unit))))(s0:List UInt8)(i3:Int):(aq C8 (apl N) 400 [60] jk (ao C8 [60] 2) X ((s0,i3,()),())).run=cH N X s0 i3:=by kernel_rfl
noncomputable def apk:(R:Type)→Env R:=Du (apl N) [60] 0 2 (fun R=>lpK C8 jk (fun X c=>cH N X c.1.1 c.1.2.1) N)
theorem ajV (R:Type):EnvOK C8 (apk N R):=Dk (ab6 N R) (by kernel_rfl) (aw (li:=jk) hmx (ab6 N _) (by kernel_rfl) ab (fun X c=>tX N X c.1.1 c.1.2.1) N)
noncomputable def j6 (s0:List UInt8):Option Bool:=
 ne (oD N ((s0,(0,())),())) fun v2=>
 Sum.elim
  (fun (v3:((Bool×Unit)×Unit))=>
  some (v3.1.1))
  (fun (v3:(Unit×Unit))=>
  some (true)) v2
theorem yS (s0:List UInt8):(runK C8 (apk N) 400 60 [.str] [.bool] (s0,())).run=j6 N s0:=by kernel_rfl
noncomputable def atk:ET:=eFn (apk N) 60 [.str] [.bool] fun c=>j6 N c.1
theorem ajU:OkE (atk N):=aFn (ajV N) (by kernel_rfl) fun c=>yS N c.1
noncomputable def apj:ET:=Di (atk N) [(92,0)]
theorem ajT:OkE (apj N):=fun R=>Dc (ajU N R) [(92,0)]
noncomputable def iv (h0:Arr Int 16)(response1:Arr Int 24):Option (Arr Int 16):=
 ne (dM N h0) fun v3=>
 ne (gz N ([v3.l,response1.l,([84,104,105,115,32,105,115,32,116,104,101,32,77,80,80,69,32,77,97,115,116,101,114,32,75,101,121]:List Int)]:List ((List Int)))) fun v4=>
 ne (cR v4.l (16:Int)) fun v5=>
 ne (@eW Int (16:Nat) v5) fun v6=>
 some (v6)
theorem zl (h0:Arr Int 16)(response1:Arr Int 24):(runK C8 (apj N) 400 92 [(.arr 16 (.int .u8)),(.arr 24 (.int .u8))] [(.arr 16 (.int .u8))] (h0,response1,())).run=iv N h0 response1:=by kernel_rfl
noncomputable def api:ET:=eFn (apj N) 92 [(.arr 16 (.int .u8)),(.arr 24 (.int .u8))] [(.arr 16 (.int .u8))] fun c=>iv N c.1 c.2.1
theorem ab5:OkE (api N):=aFn (ajT N) (by kernel_rfl) fun c=>zl N c.1 c.2.1
noncomputable def jf:LI:=⟨18,0,[],⟨[(2,.lit (.box 0 0)),(3,.lit (.box 1 0)),(4,.lit (.box 2 0)),(5,.ty (.int .i64))],[.box 27 (.arr 16 (.int .u8)),.box 100 (.arr 20 (.int .u8)),.box 27 (.arr 16 (.int .u8))]⟩,[(.exit 0,⟨[(2,.lit (.box 0 0)),(4,.lit (.box 1 0))],[.box 27 (.arr 16 (.int .u8)),.box 27 (.arr 16 (.int .u8))]⟩)]⟩
noncomputable def em (N:Nat)(X:((Int×Unit)×((Arr Int 16)×((Arr Int 20)×((Arr Int 16)×Unit))))→Option ((Unit×pz12)))(i5:Int)(h0:Arr Int 16)(h1:Arr Int 20)(h2:Arr Int 16):Option ((Unit×pz12)):=
 bif (decide (i5<16)) then
  bif (decide ((0:Int)≤i5∧i5<((20:Nat):Int))) then
   ne (h1.l[Db i5]?) fun (v6:Int)=>
   bif (decide ((0:Int)≤i5∧i5<((16:Nat):Int))) then
    ne (h2.l[Db i5]?) fun (v7:Int)=>
    (X (((gt .i64 (i5+1)),()),(h0,(h1,((h2.set (Db i5) v6),())))))
   else
    none
  else
   none
 else
  some (((),(h0,(h2,()))))
noncomputable def oz (c:((Int×Unit)×((Arr Int 16)×((Arr Int 20)×((Arr Int 16)×Unit))))):Option ((Unit×pz12)):=gl (fun X c=>em N X c.1.1 c.2.1 c.2.2.1 c.2.2.2.1) N c
theorem tP (X:((Int×Unit)×((Arr Int 16)×((Arr Int 20)×((Arr Int 16)×Unit))))→Option ((Unit×pz12)))(i5:Int)(h0:Arr Int 16)(h1:Arr Int 20)(h2:Arr Int 16):(aq C8 (api N) 400 [94] jf (ao C8 [94] 4) X ((i5,()),(h0,h1,h2,()))).run=em N X i5 h0 h1 h2:=by kernel_rfl
noncomputable def aph:(R:Type)→Env R:=Du (api N) [94] 0 4 (fun R=>lpK C8 jf (fun X c=>em N X c.1.1 c.2.1 c.2.2.1 c.2.2.2.1) N)
theorem ajS (R:Type):EnvOK C8 (aph N R):=Dk (ab5 N R) (by kernel_rfl) (aw (li:=jf) hmx (ab5 N _) (by kernel_rfl) ab (fun X c=>tP N X c.1.1 c.2.1 c.2.2.1 c.2.2.2.1) N)
noncomputable def dS (b0:List (Int)):Option (Arr Int 16):=
 ne (fA N b0) fun v2=>
 ne (oz N ((0,()),(zc16,(v2,(zc16,()))))) fun v3=>
 some (v3.2.2.1)
theorem yK (b0:List (Int)):(runK C8 (aph N) 400 94 [(.sl (.int .u8))] [(.arr 16 (.int .u8))] (b0,())).run=dS N b0:=by kernel_rfl
noncomputable def atj:ET:=eFn (aph N) 94 [(.sl (.int .u8))] [(.arr 16 (.int .u8))] fun c=>dS N c.1
theorem ajR:OkE (atj N):=aFn (ajS N) (by kernel_rfl) fun c=>yK N c.1
noncomputable def apg:ET:=Di (atj N) [(64,0)]
theorem ajQ:OkE (apg N):=fun R=>Dc (ajR N R) [(64,0)]
noncomputable def fS (h0:Arr Int 16)(response1:Arr Int 24):Option (Arr Int 16):=
 ne (eR N h0) fun v3=>
 bif (ae (C7 v3.l) 1) then
  bif (ae ((C7 v3.l)+(C7 response1.l)) 1) then
   bif (ae ((C7 (v3.l++response1.l))+(C7 (C5 (C6 ([84,104,105,115,32,105,115,32,116,104,101,32,77,80,80,69,32,77,97,115,116,101,114,32,75,101,121]:List UInt8))))) 1) then
    ne (dS N ((v3.l++response1.l)++(@ofB (C5 (C6 ([84,104,105,115,32,105,115,32,116,104,101,32,77,80,80,69,32,77,97,115,116,101,114,32,75,101,121]:List UInt8)))))) fun v4=>
    some (v4)
   else
    none
  else
   none
 else
  none
theorem wz (h0:Arr Int 16)(response1:Arr Int 24):(runK C8 (apg N) 400 64 [(.arr 16 (.int .u8)),(.arr 24 (.int .u8))] [(.arr 16 (.int .u8))] (h0,response1,())).run=fS N h0 response1:=by kernel_rfl
noncomputable def ati:ET:=eFn (apg N) 64 [(.arr 16 (.int .u8)),(.arr 24 (.int .u8))] [(.arr 16 (.int .u8))] fun c=>fS N c.1 c.2.1
theorem ajP:OkE (ati N):=aFn (ajQ N) (by kernel_rfl) fun c=>wz N c.1 c.2.1
noncomputable def ape:(R:Type)→Env R:=Env.addInl (ati N) [124,125]
theorem ab4 (R:Type):EnvOK C8 (ape N R):=EnvOK.addInl (ajP N R) (by kernel_rfl)
noncomputable def lK:LI:=⟨33,0,[],⟨[(0,.ty (.sl (.sl (.int .u8)))),(3,.ty (.int .i64)),(9,.ty (.sl (.sl (.int .u8)))),(10,.ty (.int .i64)),(11,.ty (.int .i64))],[]⟩,[(.exit 0,⟨[(0,.ty (.sl (.sl (.int .u8)))),(3,.ty (.int .i64))],[]⟩)]⟩
noncomputable def pm (N:Nat)(X:(pz24×Unit)→Option ((pz14×Unit)))(parts0:List (List Int))(size3:Int)(x9:List (List Int))(x10:Int)(x11:Int):Option ((pz14×Unit)):=
 bif (decide (x11<x10)) then
  ne (getI x9 x11) fun v7=>
  (X ((parts0,((gt .i64 (size3+(v7.length:Int))),(x9,(x10,((gt .i64 (x11+1)),()))))),()))
 else
  some (((parts0,(size3,())),()))
noncomputable def wX (c:(pz24×Unit)):Option ((pz14×Unit)):=gl (fun X c=>pm N X c.1.1 c.1.2.1 c.1.2.2.1 c.1.2.2.2.1 c.1.2.2.2.2.1) N c
theorem wW (X:(pz24×Unit)→Option ((pz14×Unit)))(parts0:List (List Int))(size3:Int)(x9:List (List Int))(x10:Int)(x11:Int):(aq C8 (ape N) 400 [44] lK (ao C8 [44] 3) X ((parts0,size3,x9,x10,x11,()),())).run=pm N X parts0 size3 x9 x10 x11:=by kernel_rfl
noncomputable def apd:(R:Type)→Env R:=Du (ape N) [44] 0 3 (fun R=>lpK C8 lK (fun X c=>pm N X c.1.1 c.1.2.1 c.1.2.2.1 c.1.2.2.2.1 c.1.2.2.2.2.1) N)
theorem ab3 (R:Type):EnvOK C8 (apd N R):=Dk (ab4 N R) (by kernel_rfl) (aw (li:=lK) hmx (ab4 N _) (by kernel_rfl) ab (fun X c=>wW N X c.1.1 c.1.2.1 c.1.2.2.1 c.1.2.2.2.1 c.1.2.2.2.2.1) N)
noncomputable def lJ:LI:=⟨33,0,[],⟨[(6,.lit (.own 0)),(22,.ty (.sl (.sl (.int .u8)))),(23,.ty (.int .i64)),(24,.ty (.int .i64))],[.own (.int .u8) 5]⟩,[(.exit 2,⟨[(6,.lit (.own 0))],[.own (.int .u8) 5]⟩)]⟩
noncomputable def pj (N:Nat)(X:(pz9×((List Int)×Unit))→Option pz3)(x22:List (List Int))(x23:Int)(x24:Int)(h0:List (Int)):Option pz3:=
 bif (decide (x24<x23)) then
  ne (getI x22 x24) fun v6=>
  bif (ae ((C7 h0)+(C7 v6)) 1) then
   (X ((x22,(x23,((gt .i64 (x24+1)),()))),((h0++v6),())))
  else
   none
 else
  some (((),(h0,())))
noncomputable def wU (c:(pz9×((List Int)×Unit))):Option pz3:=gl (fun X c=>pj N X c.1.1 c.1.2.1 c.1.2.2.1 c.2.1) N c
theorem wT (X:(pz9×((List Int)×Unit))→Option pz3)(x22:List (List Int))(x23:Int)(x24:Int)(h0:List (Int)):(aq C8 (apd N) 400 [44] lJ (ao C8 [44] 9) X ((x22,x23,x24,()),(h0,()))).run=pj N X x22 x23 x24 h0:=by kernel_rfl
noncomputable def apc:(R:Type)→Env R:=Du (apd N) [44] 0 9 (fun R=>lpK C8 lJ (fun X c=>pj N X c.1.1 c.1.2.1 c.1.2.2.1 c.2.1) N)
theorem ajO (R:Type):EnvOK C8 (apc N R):=Dk (ab3 N R) (by kernel_rfl) (aw (li:=lJ) hmx (ab3 N _) (by kernel_rfl) ab (fun X c=>wT N X c.1.1 c.1.2.1 c.1.2.2.1 c.2.1) N)
noncomputable def fw (parts0:List (List Int)):Option (List Int):=
 ne (wX N ((parts0,(0,(parts0,((parts0.length:Int),(0,()))))),())) fun v2=>
 bif ((decide ((0:Int)≤(0:Int)∧(0:Int)≤v2.1.2.1))&&(ae (Db v2.1.2.1) 1)) then
  ne (wU N ((v2.1.1,((v2.1.1.length:Int),(0,()))),((@Da Int (Db (0:Int)) (0:Int)),()))) fun v3=>
  some (v3.2.1)
 else
  none
theorem CV (parts0:List (List Int)):(runK C8 (apc N) 400 44 [(.sl (.sl (.int .u8)))] [(.sl (.int .u8))] (parts0,())).run=fw N parts0:=by kernel_rfl
noncomputable def apb:ET:=eFn (apc N) 44 [(.sl (.sl (.int .u8)))] [(.sl (.int .u8))] fun c=>fw N c.1
theorem ab2:OkE (apb N):=aFn (ajO N) (by kernel_rfl) fun c=>CV N c.1
noncomputable def bY:LI:=⟨19,0,[],⟨[(0,.ty .str),(1,.ty (.int .u8)),(5,.ty (.int .i64))],[]⟩,[(.ret,⟨[(4,.ty (.int .i64))],[]⟩),(.exit 0,⟨[],[]⟩)]⟩
noncomputable def aK (N:Nat)(X:((List UInt8×(Int×(Int×Unit)))×Unit)→Option ((((Int×Unit)×Unit) ⊕ (Unit×Unit))))(s0:List UInt8)(c1:Int)(i5:Int):Option ((((Int×Unit)×Unit) ⊕ (Unit×Unit))):=
 bif (decide (0≤i5)) then
  ne (getI s0 i5) fun v5=>
  bif (decide ((((@DP v5):Nat):Int)=c1)) then
   some ((.inl ((i5,()),())))
  else
   (X ((s0,(c1,((gt .i64 (i5-1)),()))),()))
 else
  some ((.inr ((),())))
noncomputable def dh (c:((List UInt8×(Int×(Int×Unit)))×Unit)):Option ((((Int×Unit)×Unit) ⊕ (Unit×Unit))):=gl (fun X c=>aK N X c.1.1 c.1.2.1 c.1.2.2.1) N c
theorem gQ (X:((List UInt8×(Int×(Int×Unit)))×Unit)→Option ((((Int×Unit)×Unit) ⊕ (Unit×Unit))))(s0:List UInt8)(c1:Int)(i5:Int):(aq C8 (apb N) 400 [143] bY (ao C8 [143] 2) X ((s0,c1,i5,()),())).run=aK N X s0 c1 i5:=by kernel_rfl
noncomputable def apa:(R:Type)→Env R:=Du (apb N) [143] 0 2 (fun R=>lpK C8 bY (fun X c=>aK N X c.1.1 c.1.2.1 c.1.2.2.1) N)
theorem ajN (R:Type):EnvOK C8 (apa N R):=Dk (ab2 N R) (by kernel_rfl) (aw (li:=bY) hmx (ab2 N _) (by kernel_rfl) ab (fun X c=>gQ N X c.1.1 c.1.2.1 c.1.2.2.1) N)
noncomputable def bX (s0:List UInt8)(c1:Int):Option Int:=
 ne (dh N ((s0,(c1,((gt .i64 ((s0.length:Int)-1)),()))),())) fun v3=>
 Sum.elim
  (fun (v4:((Int×Unit)×Unit))=>
  some (v4.1.1))
  (fun (v4:(Unit×Unit))=>
  some ((-1:Int))) v3
theorem js (s0:List UInt8)(c1:Int):(runK C8 (apa N) 400 143 [.str,(.int .u8)] [(.int .i64)] (s0,c1,())).run=bX N s0 c1:=by kernel_rfl
noncomputable def ao9:ET:=eFn (apa N) 143 [.str,(.int .u8)] [(.int .i64)] fun c=>bX N c.1 c.2.1
theorem ajM:OkE (ao9 N):=aFn (ajN N) (by kernel_rfl) fun c=>js N c.1 c.2.1
noncomputable def cX (s0:List UInt8)(c1:Int):Option Int:=
 ne (bX N s0 c1) fun v3=>
 some (v3)
theorem nw (s0:List UInt8)(c1:Int):(runK C8 (ao9 N) 400 112 [.str,(.int .u8)] [(.int .i64)] (s0,c1,())).run=cX N s0 c1:=by kernel_rfl
noncomputable def ao8:ET:=eFn (ao9 N) 112 [.str,(.int .u8)] [(.int .i64)] fun c=>cX N c.1 c.2.1
theorem ajL:OkE (ao8 N):=aFn (ajM N) (by kernel_rfl) fun c=>nw N c.1 c.2.1
noncomputable def gW (name0:List UInt8):Option (List UInt8):=
 ne (cX N name0 (92:Int)) fun v2=>
 ne (b9 name0 (gt .i64 (v2+1))) fun v3=>
 some (v3)
theorem Al (name0:List UInt8):(runK C8 (ao8 N) 400 71 [.str] [.str] (name0,())).run=gW N name0:=by kernel_rfl
noncomputable def ao7:ET:=eFn (ao8 N) 71 [.str] [.str] fun c=>gW N c.1
theorem ab1:OkE (ao7 N):=aFn (ajL N) (by kernel_rfl) fun c=>Al N c.1
noncomputable def j5:LI:=⟨20,0,[],⟨[(0,.ty .str),(3,.ty (.int .i64)),(4,.ty (.int .i64))],[]⟩,[(.exit 0,⟨[(0,.ty .str),(3,.ty (.int .i64))],[]⟩)]⟩
noncomputable def dU (N:Nat)(X:((List UInt8×(Int×(Int×Unit)))×Unit)→Option ((pz18×Unit)))(name0:List UInt8)(x3:Int)(i4:Int):Option ((pz18×Unit)):=
 bif (decide (i4<(name0.length:Int))) then
  ne (getI name0 i4) fun v5=>
  bif (decide ((((@DP v5):Nat):Int)=(92:Int))) then
   (X ((name0,((gt .i64 (i4+1)),((gt .i64 (i4+1)),()))),()))
  else
   (X ((name0,(x3,((gt .i64 (i4+1)),()))),()))
 else
  some (((name0,(x3,())),()))
noncomputable def o0 (c:((List UInt8×(Int×(Int×Unit)))×Unit)):Option ((pz18×Unit)):=gl (fun X c=>dU N X c.1.1 c.1.2.1 c.1.2.2.1) N c
theorem uX (X:((List UInt8×(Int×(Int×Unit)))×Unit)→Option ((pz18×Unit)))(name0:List UInt8)(x3:Int)(i4:Int):(aq C8 (ao7 N) 400 [50] j5 (ao C8 [50] 3) X ((name0,x3,i4,()),())).run=dU N X name0 x3 i4:=by kernel_rfl
noncomputable def ao6:(R:Type)→Env R:=Du (ao7 N) [50] 0 3 (fun R=>lpK C8 j5 (fun X c=>dU N X c.1.1 c.1.2.1 c.1.2.2.1) N)
theorem ajK (R:Type):EnvOK C8 (ao6 N R):=Dk (ab1 N R) (by kernel_rfl) (aw (li:=j5) hmx (ab1 N _) (by kernel_rfl) ab (fun X c=>uX N X c.1.1 c.1.2.1 c.1.2.2.1) N)
noncomputable def hG (name0:List UInt8):Option (List UInt8):=
 ne (o0 N ((name0,(0,(0,()))),())) fun v2=>
 ne (b9 v2.1.1 v2.1.2.1) fun v3=>
 some (v3)
theorem AY (name0:List UInt8):(runK C8 (ao6 N) 400 50 [.str] [.str] (name0,())).run=hG N name0:=by kernel_rfl
noncomputable def ath:ET:=eFn (ao6 N) 50 [.str] [.str] fun c=>hG N c.1
theorem ajJ:OkE (ath N):=aFn (ajK N) (by kernel_rfl) fun c=>AY N c.1
noncomputable def ao5:ET:=Di (ath N) [(24,0)]
theorem ajI:OkE (ao5 N):=fun R=>Dc (ajJ N R) [(24,0)]
noncomputable def iy (peer0:Arr Int 16)(response1:Arr Int 24):Option (List Int):=
 ne (fw N ([peer0.l,(@Da Int (Db (8:Int)) (0:Int)),response1.l,([0]:List Int)]:List ((List Int)))) fun v3=>
 some (v3)
theorem zS (peer0:Arr Int 16)(response1:Arr Int 24):(runK C8 (ao5 N) 400 24 [(.arr 16 (.int .u8)),(.arr 24 (.int .u8))] [(.sl (.int .u8))] (peer0,response1,())).run=iy N peer0 response1:=by kernel_rfl
noncomputable def ao4:ET:=eFn (ao5 N) 24 [(.arr 16 (.int .u8)),(.arr 24 (.int .u8))] [(.sl (.int .u8))] fun c=>iy N c.1 c.2.1
theorem ajH:OkE (ao4 N):=aFn (ajI N) (by kernel_rfl) fun c=>zS N c.1 c.2.1
noncomputable def iz (value0:List (Int)):Option ((Arr Int 16)×(Arr Int 24)×Int):=
 bif (!(decide ((value0.length:Int)=(49:Int)))) then
  some ((zc16,(zc24,(1:Int))))
 else
  ne (cR value0 (16:Int)) fun v2=>
  ne (@eW Int (16:Nat) v2) fun v3=>
  ne (subI value0 (24:Int) (48:Int)) fun v4=>
  ne (@eW Int (24:Nat) v4) fun v5=>
  ne (iy N v3 v5) fun v6=>
  ne (kr N v6 value0) fun v7=>
  bif (!v7) then
   some ((zc16,(zc24,(3:Int))))
  else
   some ((v3,(v5,(0:Int))))
theorem zU (value0:List (Int)):(runK C8 (ao4 N) 400 52 [(.sl (.int .u8))] [(.arr 16 (.int .u8)),(.arr 24 (.int .u8)),(.int .i64)] (value0,())).run=iz N value0:=by kernel_rfl
noncomputable def atg:ET:=eFn (ao4 N) 52 [(.sl (.int .u8))] [(.arr 16 (.int .u8)),(.arr 24 (.int .u8)),(.int .i64)] fun c=>iz N c.1
theorem ajG:OkE (atg N):=aFn (ajH N) (by kernel_rfl) fun c=>zU N c.1
noncomputable def ao3:ET:=Di (atg N) [(43,0)]
theorem ajF:OkE (ao3 N):=fun R=>Dc (ajG N R) [(43,0)]
noncomputable def bz (peer0:Arr Int 16)(auth1:Arr Int 16)(name2:List UInt8):Option (Arr Int 8):=
 ne (gW N name2) fun v4=>
 bif (ae (C7 v4) 1) then
  ne (gz N ([peer0.l,auth1.l,(@ofB v4)]:List ((List Int)))) fun v5=>
  ne (cR v5.l (8:Int)) fun v6=>
  ne (@eW Int (8:Nat) v6) fun v7=>
  some (v7)
 else
  none
theorem tg (peer0:Arr Int 16)(auth1:Arr Int 16)(name2:List UInt8):(runK C8 (ao3 N) 400 43 [(.arr 16 (.int .u8)),(.arr 16 (.int .u8)),.str] [(.arr 8 (.int .u8))] (peer0,auth1,name2,())).run=bz N peer0 auth1 name2:=by kernel_rfl
noncomputable def atf:ET:=eFn (ao3 N) 43 [(.arr 16 (.int .u8)),(.arr 16 (.int .u8)),.str] [(.arr 8 (.int .u8))] fun c=>bz N c.1 c.2.1 c.2.2.1
theorem ajE:OkE (atf N):=aFn (ajF N) (by kernel_rfl) fun c=>tg N c.1 c.2.1 c.2.2.1
noncomputable def ao2:ET:=Di (atf N) [(42,0)]
theorem ab0:OkE (ao2 N):=fun R=>Dc (ajE N R) [(42,0)]
noncomputable def fO:LI:=⟨28,0,[(5,5)],⟨[(2,.adr (.arr 8 (.int .u8))),(4,.lit (.box 0 0)),(5,.lit (.own 1)),(11,.ty (.arr 3 (.arr 7 (.int .u8)))),(12,.ty (.int .i64))],[.box 41 (.arr 24 (.int .u8)),.own (.int .u8) 5]⟩,[(.exit 0,⟨[(4,.lit (.box 0 0)),(5,.lit (.own 1))],[.box 41 (.arr 24 (.int .u8)),.own (.int .u8) 5]⟩)]⟩
noncomputable def dH (X:(((Arr Int 8)×((Arr (Arr Int 7) 3)×(Int×Unit)))×((Arr Int 24)×((List Int)×Unit)))→Option ((Unit×((Arr Int 24)×((List Int)×Unit)))))(c2:Arr Int 8)(x11:Arr (Arr Int 7) 3)(x12:Int)(h0:Arr Int 24)(h1:List (Int)):Option ((Unit×((Arr Int 24)×((List Int)×Unit)))):=
 bif (decide (x12<3)) then
  ne (getI x11.l x12) fun v7=>
  ne (iV N v7.l c2.l) fun v8=>
  bif (ae ((C7 h1)+(C7 v8.1)) 1) then
   (X ((c2,(x11,((gt .i64 (x12+1)),()))),(h0,((h1++v8.1),()))))
  else
   none
 else
  some (((),(h0,(h1,()))))
noncomputable def kO (c:(((Arr Int 8)×((Arr (Arr Int 7) 3)×(Int×Unit)))×((Arr Int 24)×((List Int)×Unit)))):Option ((Unit×((Arr Int 24)×((List Int)×Unit)))):=gl (fun X c=>dH N X c.1.1 c.1.2.1 c.1.2.2.1 c.2.1 c.2.2.1) N c
theorem rk (X:(((Arr Int 8)×((Arr (Arr Int 7) 3)×(Int×Unit)))×((Arr Int 24)×((List Int)×Unit)))→Option ((Unit×((Arr Int 24)×((List Int)×Unit)))))(c2:Arr Int 8)(x11:Arr (Arr Int 7) 3)(x12:Int)(h0:Arr Int 24)(h1:List (Int)):(aq C8 (ao2 N) 400 [42] fO (ao C8 [42] 3) X ((c2,x11,x12,()),(h0,h1,()))).run=dH N X c2 x11 x12 h0 h1:=by kernel_rfl
noncomputable def ao1:(R:Type)→Env R:=Du (ao2 N) [42] 0 3 (fun R=>lpK C8 fO (fun X c=>dH N X c.1.1 c.1.2.1 c.1.2.2.1 c.2.1 c.2.2.1) N)
theorem ajD (R:Type):EnvOK C8 (ao1 N R):=Dk (ab0 N R) (by kernel_rfl) (aw (li:=fO) hmx (ab0 N _) (by kernel_rfl) ab (fun X c=>rk N X c.1.1 c.1.2.1 c.1.2.2.1 c.2.1 c.2.2.1) N)
noncomputable def dc (c0:Arr Int 8)(h1:Arr Int 16):Option (Arr Int 24):=
 ne (fe N h1) fun v3=>
 ne (kO N ((c0,(v3,(0,()))),(zc24,(([]:List Int),())))) fun v4=>
 ne (@eW Int (24:Nat) v4.2.2.1) fun v5=>
 some (v5)
theorem uf (c0:Arr Int 8)(h1:Arr Int 16):(runK C8 (ao1 N) 400 42 [(.arr 8 (.int .u8)),(.arr 16 (.int .u8))] [(.arr 24 (.int .u8))] (c0,h1,())).run=dc N c0 h1:=by kernel_rfl
noncomputable def ate:ET:=eFn (ao1 N) 42 [(.arr 8 (.int .u8)),(.arr 16 (.int .u8))] [(.arr 24 (.int .u8))] fun c=>dc N c.1 c.2.1
theorem ajC:OkE (ate N):=aFn (ajD N) (by kernel_rfl) fun c=>uf N c.1 c.2.1
noncomputable def ao0:ET:=Di (ate N) [(22,0)]
theorem ajB:OkE (ao0 N):=fun R=>Dc (ajC N R) [(22,0)]
noncomputable def de (peer0:Arr Int 16)(auth1:Arr Int 16)(name2:List UInt8)(password3:List UInt8):Option ((Arr Int 24)×Int):=
 ne (gH N password3) fun v5=>
 bif (!(decide (v5.2=0))) then
  some ((zc24,v5.2))
 else
  ne (bz N peer0 auth1 name2) fun v6=>
  ne (dc N v6 v5.1) fun v7=>
  some ((v7,(0:Int)))
theorem zT (peer0:Arr Int 16)(auth1:Arr Int 16)(name2:List UInt8)(password3:List UInt8):(runK C8 (ao0 N) 400 22 [(.arr 16 (.int .u8)),(.arr 16 (.int .u8)),.str,.str] [(.arr 24 (.int .u8)),(.int .i64)] (peer0,auth1,name2,password3,())).run=de N peer0 auth1 name2 password3:=by kernel_rfl
noncomputable def atd:ET:=eFn (ao0 N) 22 [(.arr 16 (.int .u8)),(.arr 16 (.int .u8)),.str,.str] [(.arr 24 (.int .u8)),(.int .i64)] fun c=>de N c.1 c.2.1 c.2.2.1 c.2.2.2.1
theorem ajA:OkE (atd N):=aFn (ajB N) (by kernel_rfl) fun c=>zT N c.1 c.2.1 c.2.2.1 c.2.2.2.1
noncomputable def aoY:ET:=Di (atd N) [(57,0)]
theorem ajz:OkE (aoY N):=fun R=>Dc (ajA N R) [(57,0)]
noncomputable def eU (h0:Arr Int 16)(response1:Arr Int 24)(c2:Arr Int 8):Option (List UInt8):=
 ne (dM N h0) fun v4=>
 ne (gz N ([v4.l,response1.l,([77,97,103,105,99,32,115,101,114,118,101,114,32,116,111,32,99,108,105,101,110,116,32,115,105,103,110,105,110,103,32,99,111,110,115,116,97,110,116]:List Int)]:List ((List Int)))) fun v5=>
 ne (gz N ([v5.l,c2.l,([80,97,100,32,116,111,32,109,97,107,101,32,105,116,32,100,111,32,109,111,114,101,32,116,104,97,110,32,111,110,101,32,105,116,101,114,97,116,105,111,110]:List Int)]:List ((List Int)))) fun v6=>
 ne (lc N v6.l) fun v7=>
 bif (decide (((C7 (C5 (C6 ([83,61]:List UInt8))))+(C7 v7))≤maxLen)) then
  some (((C5 (C6 ([83,61]:List UInt8)))++v7))
 else
  none
theorem xj (h0:Arr Int 16)(response1:Arr Int 24)(c2:Arr Int 8):(runK C8 (aoY N) 400 57 [(.arr 16 (.int .u8)),(.arr 24 (.int .u8)),(.arr 8 (.int .u8))] [.str] (h0,response1,c2,())).run=eU N h0 response1 c2:=by kernel_rfl
noncomputable def aoX:ET:=eFn (aoY N) 57 [(.arr 16 (.int .u8)),(.arr 24 (.int .u8)),(.arr 8 (.int .u8))] [.str] fun c=>eU N c.1 c.2.1 c.2.2.1
theorem ajy:OkE (aoX N):=aFn (ajz N) (by kernel_rfl) fun c=>xj N c.1 c.2.1 c.2.2.1
noncomputable def ed (N:Nat)(answer0:List UInt8)(text1:List UInt8):Option (List Int):=
 bif (decide (((C7 answer0)+(C7 (C5 (C6 ([32,77,61]:List UInt8)))))≤maxLen)) then
  bif (decide (((C7 (answer0++(C5 (C6 ([32,77,61]:List UInt8)))))+(C7 text1))≤maxLen)) then
   bif (ae (C7 ((answer0++(C5 (C6 ([32,77,61]:List UInt8))))++text1)) 1) then
    some ((@ofB ((answer0++(C5 (C6 ([32,77,61]:List UInt8))))++text1)))
   else
    none
  else
   none
 else
  none
theorem vX (answer0:List UInt8)(text1:List UInt8):(runK C8 (aoX N) 400 56 [.str,.str] [(.sl (.int .u8))] (answer0,text1,())).run=ed N answer0 text1:=by kernel_rfl
noncomputable def atc:ET:=eFn (aoX N) 56 [.str,.str] [(.sl (.int .u8))] fun c=>ed N c.1 c.2.1
theorem ajx:OkE (atc N):=aFn (ajy N) (by kernel_rfl) fun c=>vX N c.1 c.2.1
noncomputable def atb:ET:=Di (atc N) [(54,0)]
theorem ajw:OkE (atb N):=fun R=>Dc (ajx N R) [(54,0)]
noncomputable def aoW:(R:Type)→Env R:=Env.addFn (atb N) 88 (fun R=>itK)
theorem ajv (R:Type):EnvOK C8 (aoW N R):=EnvOK.addExt (ajw N R) atV
noncomputable def jH (f0:Int×(Bool×((Arr Int 16)×(List UInt8)))):Option ((List Int)×Int):=
 ne (bif (decide (f0.1<0)) then
   some (true)
  else
   some ((cond false true (decide (9999<f0.1))))) fun (v2:Bool)=>
 bif v2 then
  some ((([]:List Int),(1:Int)))
 else
  ne (jJ N f0.2.2.2) fun v3=>
  bif (!v3) then
   some ((([]:List Int),(3:Int)))
  else
   bif f0.2.1 then
    bif (decide ((-9223372036854775808:Int)≤f0.1∧f0.1≤(9223372036854775807:Int))) then
     bif (decide (((C7 (C5 (C6 ([69,61]:List UInt8))))+(C7 (@Ds f0.1)))≤maxLen)) then
      bif (decide (((C7 ((C5 (C6 ([69,61]:List UInt8)))++(@Ds f0.1)))+(C7 (C5 (C6 ([32,82,61]:List UInt8)))))≤maxLen)) then
       bif (decide (((C7 (((C5 (C6 ([69,61]:List UInt8)))++(@Ds f0.1))++(C5 (C6 ([32,82,61]:List UInt8)))))+(C7 (C5 (C6 ([49]:List UInt8)))))≤maxLen)) then
        bif (decide (((C7 ((((C5 (C6 ([69,61]:List UInt8)))++(@Ds f0.1))++(C5 (C6 ([32,82,61]:List UInt8))))++(C5 (C6 ([49]:List UInt8)))))+(C7 (C5 (C6 ([32,67,61]:List UInt8)))))≤maxLen)) then
         ne (lc N f0.2.2.1.l) fun v4=>
         bif (decide (((C7 (((((C5 (C6 ([69,61]:List UInt8)))++(@Ds f0.1))++(C5 (C6 ([32,82,61]:List UInt8))))++(C5 (C6 ([49]:List UInt8))))++(C5 (C6 ([32,67,61]:List UInt8)))))+(C7 v4))≤maxLen)) then
          bif (decide (((C7 ((((((C5 (C6 ([69,61]:List UInt8)))++(@Ds f0.1))++(C5 (C6 ([32,82,61]:List UInt8))))++(C5 (C6 ([49]:List UInt8))))++(C5 (C6 ([32,67,61]:List UInt8))))++v4))+(C7 (C5 (C6 ([32,86,61,51,32,77,61]:List UInt8)))))≤maxLen)) then
           bif (decide (((C7 (((((((C5 (C6 ([69,61]:List UInt8)))++(@Ds f0.1))++(C5 (C6 ([32,82,61]:List UInt8))))++(C5 (C6 ([49]:List UInt8))))++(C5 (C6 ([32,67,61]:List UInt8))))++v4)++(C5 (C6 ([32,86,61,51,32,77,61]:List UInt8)))))+(C7 f0.2.2.2))≤maxLen)) then
            bif (ae (C7 ((((((((C5 (C6 ([69,61]:List UInt8)))++(@Ds f0.1))++(C5 (C6 ([32,82,61]:List UInt8))))++(C5 (C6 ([49]:List UInt8))))++(C5 (C6 ([32,67,61]:List UInt8))))++v4)++(C5 (C6 ([32,86,61,51,32,77,61]:List UInt8))))++f0.2.2.2)) 1) then
             some (((@ofB ((((((((C5 (C6 ([69,61]:List UInt8)))++(@Ds f0.1))++(C5 (C6 ([32,82,61]:List UInt8))))++(C5 (C6 ([49]:List UInt8))))++(C5 (C6 ([32,67,61]:List UInt8))))++v4)++(C5 (C6 ([32,86,61,51,32,77,61]:List UInt8))))++f0.2.2.2)),(0:Int)))
            else
             none
           else
            none
          else
           none
         else
          none
        else
         none
       else
        none
      else
       none
     else
      none
    else
     none
   else
    bif (decide ((-9223372036854775808:Int)≤f0.1∧f0.1≤(9223372036854775807:Int))) then
     bif (decide (((C7 (C5 (C6 ([69,61]:List UInt8))))+(C7 (@Ds f0.1)))≤maxLen)) then
      bif (decide (((C7 ((C5 (C6 ([69,61]:List UInt8)))++(@Ds f0.1)))+(C7 (C5 (C6 ([32,82,61]:List UInt8)))))≤maxLen)) then
       bif (decide (((C7 (((C5 (C6 ([69,61]:List UInt8)))++(@Ds f0.1))++(C5 (C6 ([32,82,61]:List UInt8)))))+(C7 (C5 (C6 ([48]:List UInt8)))))≤maxLen)) then
        bif (decide (((C7 ((((C5 (C6 ([69,61]:List UInt8)))++(@Ds f0.1))++(C5 (C6 ([32,82,61]:List UInt8))))++(C5 (C6 ([48]:List UInt8)))))+(C7 (C5 (C6 ([32,67,61]:List UInt8)))))≤maxLen)) then
         ne (lc N f0.2.2.1.l) fun v4=>
         bif (decide (((C7 (((((C5 (C6 ([69,61]:List UInt8)))++(@Ds f0.1))++(C5 (C6 ([32,82,61]:List UInt8))))++(C5 (C6 ([48]:List UInt8))))++(C5 (C6 ([32,67,61]:List UInt8)))))+(C7 v4))≤maxLen)) then
          bif (decide (((C7 ((((((C5 (C6 ([69,61]:List UInt8)))++(@Ds f0.1))++(C5 (C6 ([32,82,61]:List UInt8))))++(C5 (C6 ([48]:List UInt8))))++(C5 (C6 ([32,67,61]:List UInt8))))++v4))+(C7 (C5 (C6 ([32,86,61,51,32,77,61]:List UInt8)))))≤maxLen)) then
           bif (decide (((C7 (((((((C5 (C6 ([69,61]:List UInt8)))++(@Ds f0.1))++(C5 (C6 ([32,82,61]:List UInt8))))++(C5 (C6 ([48]:List UInt8))))++(C5 (C6 ([32,67,61]:List UInt8))))++v4)++(C5 (C6 ([32,86,61,51,32,77,61]:List UInt8)))))+(C7 f0.2.2.2))≤maxLen)) then
            bif (ae (C7 ((((((((C5 (C6 ([69,61]:List UInt8)))++(@Ds f0.1))++(C5 (C6 ([32,82,61]:List UInt8))))++(C5 (C6 ([48]:List UInt8))))++(C5 (C6 ([32,67,61]:List UInt8))))++v4)++(C5 (C6 ([32,86,61,51,32,77,61]:List UInt8))))++f0.2.2.2)) 1) then
             some (((@ofB ((((((((C5 (C6 ([69,61]:List UInt8)))++(@Ds f0.1))++(C5 (C6 ([32,82,61]:List UInt8))))++(C5 (C6 ([48]:List UInt8))))++(C5 (C6 ([32,67,61]:List UInt8))))++v4)++(C5 (C6 ([32,86,61,51,32,77,61]:List UInt8))))++f0.2.2.2)),(0:Int)))
            else
             none
           else
            none
          else
           none
         else
          none
        else
         none
       else
        none
      else
       none
     else
      none
    else
     none
theorem BV (f0:Int×(Bool×((Arr Int 16)×(List UInt8)))):(runK C8 (aoW N) 400 54 [qz4] [(.sl (.int .u8)),(.int .i64)] (f0,())).run=jH N f0:=by kernel_rfl
noncomputable def ata:ET:=eFn (aoW N) 54 [qz4] [(.sl (.int .u8)),(.int .i64)] fun c=>jH N c.1
theorem aju:OkE (ata N):=aFn (ajv N) (by kernel_rfl) fun c=>BV N c.1
noncomputable def aoV:ET:=Di (ata N) [(28,0)]
theorem abZ:OkE (aoV N):=fun R=>Dc (aju N R) [(28,0)]
noncomputable def fk:LI:=⟨30,0,[],⟨[(6,.lit (.box 0 0)),(8,.lit (.box 1 0)),(9,.lit (.box 2 0)),(10,.ty (.int .i64))],[.box 73 (.arr 8 (.int .u8)),.box 100 (.arr 20 (.int .u8)),.box 73 (.arr 8 (.int .u8))]⟩,[(.exit 0,⟨[(6,.lit (.box 0 0)),(9,.lit (.box 1 0))],[.box 73 (.arr 8 (.int .u8)),.box 73 (.arr 8 (.int .u8))]⟩)]⟩
noncomputable def cr (N:Nat)(X:((Int×Unit)×((Arr Int 8)×((Arr Int 20)×((Arr Int 8)×Unit))))→Option ((Unit×((Arr Int 8)×((Arr Int 8)×Unit)))))(i10:Int)(h0:Arr Int 8)(h1:Arr Int 20)(h2:Arr Int 8):Option ((Unit×((Arr Int 8)×((Arr Int 8)×Unit)))):=
 bif (decide (i10<8)) then
  bif (decide ((0:Int)≤i10∧i10<((20:Nat):Int))) then
   ne (h1.l[Db i10]?) fun (v6:Int)=>
   bif (decide ((0:Int)≤i10∧i10<((8:Nat):Int))) then
    ne (h2.l[Db i10]?) fun (v7:Int)=>
    (X (((gt .i64 (i10+1)),()),(h0,(h1,((h2.set (Db i10) v6),())))))
   else
    none
  else
   none
 else
  some (((),(h0,(h2,()))))
noncomputable def fj (c:((Int×Unit)×((Arr Int 8)×((Arr Int 20)×((Arr Int 8)×Unit))))):Option ((Unit×((Arr Int 8)×((Arr Int 8)×Unit)))):=gl (fun X c=>cr N X c.1.1 c.2.1 c.2.2.1 c.2.2.2.1) N c
theorem qt (X:((Int×Unit)×((Arr Int 8)×((Arr Int 20)×((Arr Int 8)×Unit))))→Option ((Unit×((Arr Int 8)×((Arr Int 8)×Unit)))))(i10:Int)(h0:Arr Int 8)(h1:Arr Int 20)(h2:Arr Int 8):(aq C8 (aoV N) 400 [28] fk (ao C8 [28] 5) X ((i10,()),(h0,h1,h2,()))).run=cr N X i10 h0 h1 h2:=by kernel_rfl
noncomputable def aoU:(R:Type)→Env R:=Du (aoV N) [28] 0 5 (fun R=>lpK C8 fk (fun X c=>cr N X c.1.1 c.2.1 c.2.2.1 c.2.2.2.1) N)
theorem ajt (R:Type):EnvOK C8 (aoU N R):=Dk (abZ N R) (by kernel_rfl) (aw (li:=fk) hmx (abZ N _) (by kernel_rfl) ab (fun X c=>qt N X c.1.1 c.2.1 c.2.2.1 c.2.2.2.1) N)
noncomputable def bR (peer0:Arr Int 16)(auth1:Arr Int 16)(name2:List UInt8):Option (Arr Int 8):=
 bif (ae (C7 peer0.l) 1) then
  bif (ae ((C7 peer0.l)+(C7 auth1.l)) 1) then
   ne (hG N name2) fun v4=>
   bif (ae ((C7 (peer0.l++auth1.l))+(C7 v4)) 1) then
    ne (fA N ((peer0.l++auth1.l)++(@ofB v4))) fun v5=>
    ne (fj N ((0,()),((@Do Int 7 0 (@Do Int 6 0 (@Do Int 5 0 (@Do Int 4 0 (@Do Int 3 0 (@Do Int 2 0 (@Do Int 1 0 (@Do Int 0 0 (@Arr.nil Int))))))))),(v5,((@Do Int 7 0 (@Do Int 6 0 (@Do Int 5 0 (@Do Int 4 0 (@Do Int 3 0 (@Do Int 2 0 (@Do Int 1 0 (@Do Int 0 0 (@Arr.nil Int))))))))),()))))) fun v6=>
    some (v6.2.2.1)
   else
    none
  else
   none
 else
  none
theorem sG (peer0:Arr Int 16)(auth1:Arr Int 16)(name2:List UInt8):(runK C8 (aoU N) 400 28 [(.arr 16 (.int .u8)),(.arr 16 (.int .u8)),.str] [(.arr 8 (.int .u8))] (peer0,auth1,name2,())).run=bR N peer0 auth1 name2:=by kernel_rfl
noncomputable def as8:ET:=eFn (aoU N) 28 [(.arr 16 (.int .u8)),(.arr 16 (.int .u8)),.str] [(.arr 8 (.int .u8))] fun c=>bR N c.1 c.2.1 c.2.2.1
theorem ajs:OkE (as8 N):=aFn (ajt N) (by kernel_rfl) fun c=>sG N c.1 c.2.1 c.2.2.1
noncomputable def aoT:ET:=Di (as8 N) [(27,0)]
theorem abY:OkE (aoT N):=fun R=>Dc (ajs N R) [(27,0)]
noncomputable def fI:LI:=⟨42,0,[],⟨[(2,.adr (.arr 8 (.int .u8))),(3,.adr (.arr 16 (.int .u8))),(4,.lit (.box 0 0)),(5,.lit (.box 1 0)),(6,.ty (.int .i64)),(7,.ty (.sl (.int .u8))),(9,.ty (.int .i64))],[.box 41 (.arr 24 (.int .u8)),.box 41 (.arr 24 (.int .u8))]⟩,[(.exit 2,⟨[(2,.adr (.arr 8 (.int .u8))),(3,.adr (.arr 16 (.int .u8))),(4,.lit (.box 0 0)),(5,.lit (.box 1 0)),(6,.ty (.int .i64))],[.box 41 (.arr 24 (.int .u8)),.box 41 (.arr 24 (.int .u8))]⟩)]⟩
noncomputable def cI (N:Nat)(X:(((Arr Int 8)×((Arr Int 16)×(Int×pz7)))×((Arr Int 24)×((Arr Int 24)×Unit)))→Option (pz19))(c2:Arr Int 8)(h3:Arr Int 16)(n6:Int)(b7:List (Int))(i9:Int)(h0:Arr Int 24)(h1:Arr Int 24):Option (pz19):=
 bif (decide (i9<8)) then
  ne (some ((cond true (decide (i9<(b7.length:Int))) false))) fun (v9:Bool)=>
  bif v9 then
   ne (getI b7 i9) fun v10=>
   bif (decide ((0:Int)≤(gt .i64 ((gt .i64 ((8:Int)*n6))+i9))∧(gt .i64 ((gt .i64 ((8:Int)*n6))+i9))<((24:Nat):Int))) then
    ne (h1.l[Db (gt .i64 ((gt .i64 ((8:Int)*n6))+i9))]?) fun (v11:Int)=>
    (X ((c2,(h3,(n6,(b7,((gt .i64 (i9+1)),()))))),(h0,((h1.set (Db (gt .i64 ((gt .i64 ((8:Int)*n6))+i9))) v10),()))))
   else
    none
  else
   some (((c2,(h3,(n6,()))),(h0,(h1,()))))
 else
  some (((c2,(h3,(n6,()))),(h0,(h1,()))))
noncomputable def jY (c:(((Arr Int 8)×((Arr Int 16)×(Int×pz7)))×((Arr Int 24)×((Arr Int 24)×Unit)))):Option (pz19):=gl (fun X c=>cI N X c.1.1 c.1.2.1 c.1.2.2.1 c.1.2.2.2.1 c.1.2.2.2.2.1 c.2.1 c.2.2.1) N c
theorem qQ (X:(((Arr Int 8)×((Arr Int 16)×(Int×pz7)))×((Arr Int 24)×((Arr Int 24)×Unit)))→Option (pz19))(c2:Arr Int 8)(h3:Arr Int 16)(n6:Int)(b7:List (Int))(i9:Int)(h0:Arr Int 24)(h1:Arr Int 24):(aq C8 (aoT N) 400 [27] fI (ao C8 [27] 7) X ((c2,h3,n6,b7,i9,()),(h0,h1,()))).run=cI N X c2 h3 n6 b7 i9 h0 h1:=by kernel_rfl
noncomputable def aoS:(R:Type)→Env R:=Du (aoT N) [27] 0 7 (fun R=>lpK C8 fI (fun X c=>cI N X c.1.1 c.1.2.1 c.1.2.2.1 c.1.2.2.2.1 c.1.2.2.2.2.1 c.2.1 c.2.2.1) N)
theorem abX (R:Type):EnvOK C8 (aoS N R):=Dk (abY N R) (by kernel_rfl) (aw (li:=fI) hmx (abY N _) (by kernel_rfl) ab (fun X c=>qQ N X c.1.1 c.1.2.1 c.1.2.2.1 c.1.2.2.2.1 c.1.2.2.2.2.1 c.2.1 c.2.2.1) N)
noncomputable def fJ:LI:=⟨42,0,[],⟨[(2,.adr (.arr 8 (.int .u8))),(3,.adr (.arr 16 (.int .u8))),(4,.lit (.box 0 0)),(5,.lit (.box 1 0)),(6,.ty (.int .i64))],[.box 41 (.arr 24 (.int .u8)),.box 41 (.arr 24 (.int .u8))]⟩,[(.exit 0,⟨[(4,.lit (.box 0 0)),(5,.lit (.box 1 0))],[.box 41 (.arr 24 (.int .u8)),.box 41 (.arr 24 (.int .u8))]⟩)]⟩
noncomputable def bK (X:pz19→Option ((Unit×((Arr Int 24)×((Arr Int 24)×Unit)))))(c2:Arr Int 8)(h3:Arr Int 16)(n6:Int)(h0:Arr Int 24)(h1:Arr Int 24):Option ((Unit×((Arr Int 24)×((Arr Int 24)×Unit)))):=
 bif (decide (n6<3)) then
  ne (cL N h3 n6) fun v7=>
  ne (kb N v7 c2.l) fun v8=>
  ne (jY N ((c2,(h3,(n6,(v8.1,(0,()))))),(h0,(h1,())))) fun v9=>
  (X ((v9.1.1,(v9.1.2.1,((gt .i64 (v9.1.2.2.1+1)),()))),(v9.2.1,(v9.2.2.1,()))))
 else
  some (((),(h0,(h1,()))))
noncomputable def jZ (c:pz19):Option ((Unit×((Arr Int 24)×((Arr Int 24)×Unit)))):=gl (fun X c=>bK N X c.1.1 c.1.2.1 c.1.2.2.1 c.2.1 c.2.2.1) N c
theorem qR (X:pz19→Option ((Unit×((Arr Int 24)×((Arr Int 24)×Unit)))))(c2:Arr Int 8)(h3:Arr Int 16)(n6:Int)(h0:Arr Int 24)(h1:Arr Int 24):(aq C8 (aoS N) 400 [27] fJ (ao C8 [27] 3) X ((c2,h3,n6,()),(h0,h1,()))).run=bK N X c2 h3 n6 h0 h1:=by kernel_rfl
noncomputable def aoR:(R:Type)→Env R:=Du (aoS N) [27] 0 3 (fun R=>lpK C8 fJ (fun X c=>bK N X c.1.1 c.1.2.1 c.1.2.2.1 c.2.1 c.2.2.1) N)
theorem ajr (R:Type):EnvOK C8 (aoR N R):=Dk (abX N R) (by kernel_rfl) (aw (li:=fJ) hmx (abX N _) (by kernel_rfl) ab (fun X c=>qR N X c.1.1 c.1.2.1 c.1.2.2.1 c.2.1 c.2.2.1) N)
noncomputable def en (c0:Arr Int 8)(h1:Arr Int 16):Option (Arr Int 24):=
 ne (jZ N ((c0,(h1,(0,()))),(zc24,(zc24,())))) fun v3=>
 some (v3.2.2.1)
theorem tQ (c0:Arr Int 8)(h1:Arr Int 16):(runK C8 (aoR N) 400 27 [(.arr 8 (.int .u8)),(.arr 16 (.int .u8))] [(.arr 24 (.int .u8))] (c0,h1,())).run=en N c0 h1:=by kernel_rfl
noncomputable def as7:ET:=eFn (aoR N) 27 [(.arr 8 (.int .u8)),(.arr 16 (.int .u8))] [(.arr 24 (.int .u8))] fun c=>en N c.1 c.2.1
theorem ajq:OkE (as7 N):=aFn (ajr N) (by kernel_rfl) fun c=>tQ N c.1 c.2.1
noncomputable def aoQ:ET:=Di (as7 N) [(8,0)]
theorem ajp:OkE (aoQ N):=fun R=>Dc (ajq N R) [(8,0)]
noncomputable def fK (peer0:Arr Int 16)(auth1:Arr Int 16)(name2:List UInt8)(password3:List UInt8):Option ((Arr Int 24)×Int):=
 ne (qg N password3) fun v5=>
 bif (!(decide (v5.2=0))) then
  some ((zc24,v5.2))
 else
  ne (bR N peer0 auth1 name2) fun v6=>
  ne (en N v6 v5.1) fun v7=>
  some ((v7,(0:Int)))
theorem yM (peer0:Arr Int 16)(auth1:Arr Int 16)(name2:List UInt8)(password3:List UInt8):(runK C8 (aoQ N) 400 8 [(.arr 16 (.int .u8)),(.arr 16 (.int .u8)),.str,.str] [(.arr 24 (.int .u8)),(.int .i64)] (peer0,auth1,name2,password3,())).run=fK N peer0 auth1 name2 password3:=by kernel_rfl
noncomputable def as6:ET:=eFn (aoQ N) 8 [(.arr 16 (.int .u8)),(.arr 16 (.int .u8)),.str,.str] [(.arr 24 (.int .u8)),(.int .i64)] fun c=>fK N c.1 c.2.1 c.2.2.1 c.2.2.2.1
theorem ajo:OkE (as6 N):=aFn (ajp N) (by kernel_rfl) fun c=>yM N c.1 c.2.1 c.2.2.1 c.2.2.2.1
noncomputable def aoP:ET:=Di (as6 N) [(10,0)]
theorem ajn:OkE (aoP N):=fun R=>Dc (ajo N R) [(10,0)]
noncomputable def jX (N:Nat)(peer0:Arr Int 16)(response1:Arr Int 24):Option (List Int):=
 bif (ae (C7 peer0.l) 1) then
  bif (ae ((C7 peer0.l)+(Db (8:Int))) 1) then
   bif (ae ((C7 (peer0.l++(@Da Int (Db (8:Int)) (0:Int))))+(C7 response1.l)) 1) then
    bif (ae ((C7 ((peer0.l++(@Da Int (Db (8:Int)) (0:Int)))++response1.l))+(C7 ([0]:List Int))) 1) then
     some ((((peer0.l++(@Da Int (Db (8:Int)) (0:Int)))++response1.l)++([0]:List Int)))
    else
     none
   else
    none
  else
   none
 else
  none
theorem yL (peer0:Arr Int 16)(response1:Arr Int 24):(runK C8 (aoP N) 400 10 [(.arr 16 (.int .u8)),(.arr 24 (.int .u8))] [(.sl (.int .u8))] (peer0,response1,())).run=jX N peer0 response1:=by kernel_rfl
noncomputable def aoO:ET:=eFn (aoP N) 10 [(.arr 16 (.int .u8)),(.arr 24 (.int .u8))] [(.sl (.int .u8))] fun c=>jX N c.1 c.2.1
theorem abW:OkE (aoO N):=aFn (ajn N) (by kernel_rfl) fun c=>yL N c.1 c.2.1
noncomputable def jg:LI:=⟨55,0,[],⟨[(0,.ty (.sl (.int .u8))),(2,.lit (.box 0 0)),(3,.lit (.box 1 0)),(5,.lit (.box 2 0)),(6,.lit (.box 3 0)),(7,.ty (.int .i64))],[.box 27 (.arr 16 (.int .u8)),.box 41 (.arr 24 (.int .u8)),.box 27 (.arr 16 (.int .u8)),.box 41 (.arr 24 (.int .u8))]⟩,[(.ret,⟨[(2,.lit (.box 0 0)),(3,.lit (.box 1 0)),(4,.ty (.int .i64))],[.box 27 (.arr 16 (.int .u8)),.box 41 (.arr 24 (.int .u8))]⟩),(.exit 0,⟨[(0,.ty (.sl (.int .u8))),(2,.lit (.box 0 0)),(3,.lit (.box 1 0)),(5,.lit (.box 2 0)),(6,.lit (.box 3 0))],[.box 27 (.arr 16 (.int .u8)),.box 41 (.arr 24 (.int .u8)),.box 27 (.arr 16 (.int .u8)),.box 41 (.arr 24 (.int .u8))]⟩)]⟩
noncomputable def eo (N:Nat)(X:(pz7×pz6)→Option ((((Int×Unit)×((Arr Int 16)×((Arr Int 24)×Unit))) ⊕ (((List Int)×Unit)×pz6))))(value0:List (Int))(i7:Int)(h0:Arr Int 16)(h1:Arr Int 24)(h2:Arr Int 16)(h3:Arr Int 24):Option ((((Int×Unit)×((Arr Int 16)×((Arr Int 24)×Unit))) ⊕ (((List Int)×Unit)×pz6))):=
 bif (decide (i7<24)) then
  ne (getI value0 i7) fun v8=>
  bif (!(decide (v8=0))) then
   some ((.inl ((3,()),(h2,(h3,())))))
  else
   (X ((value0,((gt .i64 (i7+1)),())),(h0,(h1,(h2,(h3,()))))))
 else
  some ((.inr ((value0,()),(h0,(h1,(h2,(h3,())))))))
noncomputable def oA (c:(pz7×pz6)):Option ((((Int×Unit)×((Arr Int 16)×((Arr Int 24)×Unit))) ⊕ (((List Int)×Unit)×pz6))):=gl (fun X c=>eo N X c.1.1 c.1.2.1 c.2.1 c.2.2.1 c.2.2.2.1 c.2.2.2.2.1) N c
theorem tR (X:(pz7×pz6)→Option ((((Int×Unit)×((Arr Int 16)×((Arr Int 24)×Unit))) ⊕ (((List Int)×Unit)×pz6))))(value0:List (Int))(i7:Int)(h0:Arr Int 16)(h1:Arr Int 24)(h2:Arr Int 16)(h3:Arr Int 24):(aq C8 (aoO N) 400 [34] jg (ao C8 [34] 6) X ((value0,i7,()),(h0,h1,h2,h3,()))).run=eo N X value0 i7 h0 h1 h2 h3:=by kernel_rfl
noncomputable def aoN:(R:Type)→Env R:=Du (aoO N) [34] 0 6 (fun R=>lpK C8 jg (fun X c=>eo N X c.1.1 c.1.2.1 c.2.1 c.2.2.1 c.2.2.2.1 c.2.2.2.2.1) N)
theorem abV (R:Type):EnvOK C8 (aoN N R):=Dk (abW N R) (by kernel_rfl) (aw (li:=jg) hmx (abW N _) (by kernel_rfl) ab (fun X c=>tR N X c.1.1 c.1.2.1 c.2.1 c.2.2.1 c.2.2.2.1 c.2.2.2.2.1) N)
noncomputable def g8:LI:=⟨55,0,[],⟨[(0,.ty (.sl (.int .u8))),(2,.lit (.box 0 0)),(3,.lit (.box 1 0)),(5,.lit (.box 2 0)),(6,.lit (.box 3 0)),(8,.ty (.int .i64))],[.box 27 (.arr 16 (.int .u8)),.box 41 (.arr 24 (.int .u8)),.box 27 (.arr 16 (.int .u8)),.box 41 (.arr 24 (.int .u8))]⟩,[(.exit 2,⟨[(0,.ty (.sl (.int .u8))),(2,.lit (.box 0 0)),(3,.lit (.box 1 0)),(5,.lit (.box 2 0)),(6,.lit (.box 3 0))],[.box 27 (.arr 16 (.int .u8)),.box 41 (.arr 24 (.int .u8)),.box 27 (.arr 16 (.int .u8)),.box 41 (.arr 24 (.int .u8))]⟩)]⟩
noncomputable def dw (N:Nat)(X:(pz7×pz6)→Option ((((List Int)×Unit)×pz6)))(value0:List (Int))(i8:Int)(h0:Arr Int 16)(h1:Arr Int 24)(h2:Arr Int 16)(h3:Arr Int 24):Option ((((List Int)×Unit)×pz6)):=
 bif (decide (i8<16)) then
  ne (getI value0 i8) fun v8=>
  bif (decide ((0:Int)≤i8∧i8<((16:Nat):Int))) then
   ne (h2.l[Db i8]?) fun (v9:Int)=>
   (X ((value0,((gt .i64 (i8+1)),())),(h0,(h1,((h2.set (Db i8) v8),(h3,()))))))
  else
   none
 else
  some (((value0,()),(h0,(h1,(h2,(h3,()))))))
noncomputable def mu (c:(pz7×pz6)):Option ((((List Int)×Unit)×pz6)):=gl (fun X c=>dw N X c.1.1 c.1.2.1 c.2.1 c.2.2.1 c.2.2.2.1 c.2.2.2.2.1) N c
theorem sF (X:(pz7×pz6)→Option ((((List Int)×Unit)×pz6)))(value0:List (Int))(i8:Int)(h0:Arr Int 16)(h1:Arr Int 24)(h2:Arr Int 16)(h3:Arr Int 24):(aq C8 (aoN N) 400 [34] g8 (ao C8 [34] 13) X ((value0,i8,()),(h0,h1,h2,h3,()))).run=dw N X value0 i8 h0 h1 h2 h3:=by kernel_rfl
noncomputable def aoM:(R:Type)→Env R:=Du (aoN N) [34] 0 13 (fun R=>lpK C8 g8 (fun X c=>dw N X c.1.1 c.1.2.1 c.2.1 c.2.2.1 c.2.2.2.1 c.2.2.2.2.1) N)
theorem abU (R:Type):EnvOK C8 (aoM N R):=Dk (abV N R) (by kernel_rfl) (aw (li:=g8) hmx (abV N _) (by kernel_rfl) ab (fun X c=>sF N X c.1.1 c.1.2.1 c.2.1 c.2.2.1 c.2.2.2.1 c.2.2.2.2.1) N)
noncomputable def gZ:LI:=⟨55,0,[],⟨[(0,.ty (.sl (.int .u8))),(2,.lit (.box 0 0)),(3,.lit (.box 1 0)),(5,.lit (.box 2 0)),(6,.lit (.box 3 0)),(9,.ty (.int .i64))],[.box 27 (.arr 16 (.int .u8)),.box 41 (.arr 24 (.int .u8)),.box 27 (.arr 16 (.int .u8)),.box 41 (.arr 24 (.int .u8))]⟩,[(.exit 4,⟨[(2,.lit (.box 0 0)),(3,.lit (.box 1 0)),(5,.lit (.box 2 0)),(6,.lit (.box 3 0))],[.box 27 (.arr 16 (.int .u8)),.box 41 (.arr 24 (.int .u8)),.box 27 (.arr 16 (.int .u8)),.box 41 (.arr 24 (.int .u8))]⟩)]⟩
noncomputable def du (N:Nat)(X:(pz7×pz6)→Option ((Unit×pz6)))(value0:List (Int))(i9:Int)(h0:Arr Int 16)(h1:Arr Int 24)(h2:Arr Int 16)(h3:Arr Int 24):Option ((Unit×pz6)):=
 bif (decide (i9<24)) then
  ne (getI value0 (gt .i64 ((24:Int)+i9))) fun v8=>
  bif (decide ((0:Int)≤i9∧i9<((24:Nat):Int))) then
   ne (h3.l[Db i9]?) fun (v9:Int)=>
   (X ((value0,((gt .i64 (i9+1)),())),(h0,(h1,(h2,((h3.set (Db i9) v8),()))))))
  else
   none
 else
  some (((),(h0,(h1,(h2,(h3,()))))))
noncomputable def mt (c:(pz7×pz6)):Option ((Unit×pz6)):=gl (fun X c=>du N X c.1.1 c.1.2.1 c.2.1 c.2.2.1 c.2.2.2.1 c.2.2.2.2.1) N c
theorem sE (X:(pz7×pz6)→Option ((Unit×pz6)))(value0:List (Int))(i9:Int)(h0:Arr Int 16)(h1:Arr Int 24)(h2:Arr Int 16)(h3:Arr Int 24):(aq C8 (aoM N) 400 [34] gZ (ao C8 [34] 17) X ((value0,i9,()),(h0,h1,h2,h3,()))).run=du N X value0 i9 h0 h1 h2 h3:=by kernel_rfl
noncomputable def aoK:(R:Type)→Env R:=Du (aoM N) [34] 0 17 (fun R=>lpK C8 gZ (fun X c=>du N X c.1.1 c.1.2.1 c.2.1 c.2.2.1 c.2.2.2.1 c.2.2.2.2.1) N)
theorem ajm (R:Type):EnvOK C8 (aoK N R):=Dk (abU N R) (by kernel_rfl) (aw (li:=gZ) hmx (abU N _) (by kernel_rfl) ab (fun X c=>sE N X c.1.1 c.1.2.1 c.2.1 c.2.2.1 c.2.2.2.1 c.2.2.2.2.1) N)
noncomputable def j0 (value0:List (Int)):Option ((Arr Int 16)×(Arr Int 24)×Int):=
 bif (!(decide ((value0.length:Int)=(49:Int)))) then
  some ((zc16,(zc24,(1:Int))))
 else
  ne (oA N ((value0,(16,())),(zc16,(zc24,(zc16,(zc24,())))))) fun v2=>
  Sum.elim
   (fun (v3:((Int×Unit)×((Arr Int 16)×((Arr Int 24)×Unit))))=>
   some ((v3.2.1,(v3.2.2.1,v3.1.1))))
   (fun (v3:(((List Int)×Unit)×pz6))=>
   ne (getI v3.1.1 48) fun v4=>
   bif (!(decide (v4=0))) then
    some ((v3.2.2.2.1,(v3.2.2.2.2.1,(3:Int))))
   else
    ne (mu N ((v3.1.1,(0,())),(v3.2.1,(v3.2.2.1,(v3.2.2.2.1,(v3.2.2.2.2.1,())))))) fun v5=>
    ne (mt N ((v5.1.1,(0,())),(v5.2.1,(v5.2.2.1,(v5.2.2.2.1,(v5.2.2.2.2.1,())))))) fun v6=>
    some ((v6.2.2.2.1,(v6.2.2.2.2.1,(0:Int))))) v2
theorem yN (value0:List (Int)):(runK C8 (aoK N) 400 34 [(.sl (.int .u8))] [(.arr 16 (.int .u8)),(.arr 24 (.int .u8)),(.int .i64)] (value0,())).run=j0 N value0:=by kernel_rfl
noncomputable def as5:ET:=eFn (aoK N) 34 [(.sl (.int .u8))] [(.arr 16 (.int .u8)),(.arr 24 (.int .u8)),(.int .i64)] fun c=>j0 N c.1
theorem ajl:OkE (as5 N):=aFn (ajm N) (by kernel_rfl) fun c=>yN N c.1
noncomputable def aoJ:ET:=Di (as5 N) [(37,0)]
theorem ajk:OkE (aoJ N):=fun R=>Dc (ajl N R) [(37,0)]
noncomputable def iI (h0:Arr Int 16)(response1:Arr Int 24)(c2:Arr Int 8):Option (List UInt8):=
 ne (eR N h0) fun v4=>
 bif (ae (C7 v4.l) 1) then
  bif (ae ((C7 v4.l)+(C7 response1.l)) 1) then
   bif (ae ((C7 (v4.l++response1.l))+(C7 (C5 (C6 ([77,97,103,105,99,32,115,101,114,118,101,114,32,116,111,32,99,108,105,101,110,116,32,115,105,103,110,105,110,103,32,99,111,110,115,116,97,110,116]:List UInt8))))) 1) then
    ne (fA N ((v4.l++response1.l)++(@ofB (C5 (C6 ([77,97,103,105,99,32,115,101,114,118,101,114,32,116,111,32,99,108,105,101,110,116,32,115,105,103,110,105,110,103,32,99,111,110,115,116,97,110,116]:List UInt8)))))) fun v5=>
    bif (ae (C7 v5.l) 1) then
     bif (ae ((C7 v5.l)+(C7 c2.l)) 1) then
      bif (ae ((C7 (v5.l++c2.l))+(C7 (C5 (C6 ([80,97,100,32,116,111,32,109,97,107,101,32,105,116,32,100,111,32,109,111,114,101,32,116,104,97,110,32,111,110,101,32,105,116,101,114,97,116,105,111,110]:List UInt8))))) 1) then
       ne (fA N ((v5.l++c2.l)++(@ofB (C5 (C6 ([80,97,100,32,116,111,32,109,97,107,101,32,105,116,32,100,111,32,109,111,114,101,32,116,104,97,110,32,111,110,101,32,105,116,101,114,97,116,105,111,110]:List UInt8)))))) fun v6=>
       ne (iK N v6.l) fun v7=>
       bif (decide (((C7 (C5 (C6 ([83,61]:List UInt8))))+(C7 v7))≤maxLen)) then
        some (((C5 (C6 ([83,61]:List UInt8)))++v7))
       else
        none
      else
       none
     else
      none
    else
     none
   else
    none
  else
   none
 else
  none
theorem wB (h0:Arr Int 16)(response1:Arr Int 24)(c2:Arr Int 8):(runK C8 (aoJ N) 400 37 [(.arr 16 (.int .u8)),(.arr 24 (.int .u8)),(.arr 8 (.int .u8))] [.str] (h0,response1,c2,())).run=iI N h0 response1 c2:=by kernel_rfl
noncomputable def aoI:ET:=eFn (aoJ N) 37 [(.arr 16 (.int .u8)),(.arr 24 (.int .u8)),(.arr 8 (.int .u8))] [.str] fun c=>iI N c.1 c.2.1 c.2.2.1
theorem ajj:OkE (aoI N):=aFn (ajk N) (by kernel_rfl) fun c=>wB N c.1 c.2.1 c.2.2.1
noncomputable def gB (N:Nat)(answer0:List UInt8)(text1:List UInt8):Option (List Int):=
 bif (decide (((C7 answer0)+(C7 (C5 (C6 ([32,77,61]:List UInt8)))))≤maxLen)) then
  bif (decide (((C7 (answer0++(C5 (C6 ([32,77,61]:List UInt8)))))+(C7 text1))≤maxLen)) then
   bif (ae (C7 ((answer0++(C5 (C6 ([32,77,61]:List UInt8))))++text1)) 1) then
    some ((@ofB ((answer0++(C5 (C6 ([32,77,61]:List UInt8))))++text1)))
   else
    none
  else
   none
 else
  none
theorem uW (answer0:List UInt8)(text1:List UInt8):(runK C8 (aoI N) 400 39 [.str,.str] [(.sl (.int .u8))] (answer0,text1,())).run=gB N answer0 text1:=by kernel_rfl
noncomputable def agP:ET:=eFn (aoI N) 39 [.str,.str] [(.sl (.int .u8))] fun c=>gB N c.1 c.2.1
theorem abT:OkE (agP N):=aFn (ajj N) (by kernel_rfl) fun c=>uW N c.1 c.2.1
noncomputable def aoH (X0:(Int×Unit)→Option (List UInt8)):(R:Type)→Env R:=Env.addFn (agP N) 61 (fun R=>fnK [(.int .i64)] [.str] X0)
theorem aji (X0:(Int×Unit)→Option (List UInt8))(hX0:∀ c y,X0 c=some y→kR C8 61 (valA [(.int .i64)] c) (tupV (valR [.str] y)))(R:Type):EnvOK C8 (aoH N X0 R):=EnvOK.addSelf (abT N R) (inl:=(agP N Unit).inl) (by kernel_rfl) hX0
noncomputable def ck (N:Nat)(X0:(Int×Unit)→Option (List UInt8))(n0:Int):Option (List UInt8):=
 bif (decide (n0<10)) then
  ne (@toBy ([(gt .u8 (gt .i64 ((48:Int)+n0)))]:List (Int))) fun (v3:(List UInt8))=>
  some (v3)
 else
  ne (X0 ((gt .i64 (@Int.tdiv n0 (10:Int))),())) fun (v3:(List UInt8))=>
  ne (X0 ((@DI n0 (10:Int)),())) fun (v4:(List UInt8))=>
  bif (decide (((C7 v3)+(C7 v4))≤maxLen)) then
   some ((v3++v4))
  else
   none
theorem tS (X0:(Int×Unit)→Option (List UInt8))(n0:Int):(runK C8 (aoH N X0) 400 61 [(.int .i64)] [.str] (n0,())).run=ck N X0 n0:=by kernel_rfl
noncomputable def k8 (n0:Int):Option (List UInt8):=gl (fun X c=>ck N X c.1) N (n0,())
noncomputable def as4:ET:=eFn (agP N) 61 [(.int .i64)] [.str] fun c=>k8 N c.1
theorem ajh (R:Type):EnvOK C8 (as4 N R):=EnvOK.addSelf (abT N R) (inl:=(agP N Unit).inl) (by kernel_rfl) (fun c y h=>alk (f:=61) (ds:=[(.int .i64)]) (rs:=[.str]) hmx (G:=fun (X:(Int×Unit)→Option (List UInt8)) (c:(Int×Unit))=>ck N X c.1) (Γs:=fun (X:(Int×Unit)→Option (List UInt8))=>aoH N X) (fuel:=400) (fun X hX=>aji N X hX _) (fun X=>by kernel_rfl) (fun X c=>tS N X c.1) N c y h)
noncomputable def aoG:ET:=Di (as4 N) [(36,0)]
theorem ajg:OkE (aoG N):=fun R=>Dc (ajh N R) [(36,0)]
noncomputable def jG (f0:Int×(Bool×((Arr Int 16)×(List UInt8)))):Option ((List Int)×Int):=
 ne (bif (decide (f0.1<0)) then
   some (true)
  else
   some ((cond false true (decide (9999<f0.1))))) fun (v2:Bool)=>
 bif v2 then
  some ((([]:List Int),(1:Int)))
 else
  ne (j6 N f0.2.2.2) fun v3=>
  bif (!v3) then
   some ((([]:List Int),(3:Int)))
  else
   bif f0.2.1 then
    ne (k8 N f0.1) fun v4=>
    bif (decide (((C7 (C5 (C6 ([69,61]:List UInt8))))+(C7 v4))≤maxLen)) then
     bif (decide (((C7 ((C5 (C6 ([69,61]:List UInt8)))++v4))+(C7 (C5 (C6 ([32,82,61]:List UInt8)))))≤maxLen)) then
      bif (decide (((C7 (((C5 (C6 ([69,61]:List UInt8)))++v4)++(C5 (C6 ([32,82,61]:List UInt8)))))+(C7 (C5 (C6 ([49]:List UInt8)))))≤maxLen)) then
       bif (decide (((C7 ((((C5 (C6 ([69,61]:List UInt8)))++v4)++(C5 (C6 ([32,82,61]:List UInt8))))++(C5 (C6 ([49]:List UInt8)))))+(C7 (C5 (C6 ([32,67,61]:List UInt8)))))≤maxLen)) then
        ne (iK N f0.2.2.1.l) fun v5=>
        bif (decide (((C7 (((((C5 (C6 ([69,61]:List UInt8)))++v4)++(C5 (C6 ([32,82,61]:List UInt8))))++(C5 (C6 ([49]:List UInt8))))++(C5 (C6 ([32,67,61]:List UInt8)))))+(C7 v5))≤maxLen)) then
         bif (decide (((C7 ((((((C5 (C6 ([69,61]:List UInt8)))++v4)++(C5 (C6 ([32,82,61]:List UInt8))))++(C5 (C6 ([49]:List UInt8))))++(C5 (C6 ([32,67,61]:List UInt8))))++v5))+(C7 (C5 (C6 ([32,86,61,51,32,77,61]:List UInt8)))))≤maxLen)) then
          bif (decide (((C7 (((((((C5 (C6 ([69,61]:List UInt8)))++v4)++(C5 (C6 ([32,82,61]:List UInt8))))++(C5 (C6 ([49]:List UInt8))))++(C5 (C6 ([32,67,61]:List UInt8))))++v5)++(C5 (C6 ([32,86,61,51,32,77,61]:List UInt8)))))+(C7 f0.2.2.2))≤maxLen)) then
           bif (ae (C7 ((((((((C5 (C6 ([69,61]:List UInt8)))++v4)++(C5 (C6 ([32,82,61]:List UInt8))))++(C5 (C6 ([49]:List UInt8))))++(C5 (C6 ([32,67,61]:List UInt8))))++v5)++(C5 (C6 ([32,86,61,51,32,77,61]:List UInt8))))++f0.2.2.2)) 1) then
            some (((@ofB ((((((((C5 (C6 ([69,61]:List UInt8)))++v4)++(C5 (C6 ([32,82,61]:List UInt8))))++(C5 (C6 ([49]:List UInt8))))++(C5 (C6 ([32,67,61]:List UInt8))))++v5)++(C5 (C6 ([32,86,61,51,32,77,61]:List UInt8))))++f0.2.2.2)),(0:Int)))
           else
            none
          else
           none
         else
          none
        else
         none
       else
        none
      else
       none
     else
      none
    else
     none
   else
    ne (k8 N f0.1) fun v4=>
    bif (decide (((C7 (C5 (C6 ([69,61]:List UInt8))))+(C7 v4))≤maxLen)) then
     bif (decide (((C7 ((C5 (C6 ([69,61]:List UInt8)))++v4))+(C7 (C5 (C6 ([32,82,61]:List UInt8)))))≤maxLen)) then
      bif (decide (((C7 (((C5 (C6 ([69,61]:List UInt8)))++v4)++(C5 (C6 ([32,82,61]:List UInt8)))))+(C7 (C5 (C6 ([48]:List UInt8)))))≤maxLen)) then
       bif (decide (((C7 ((((C5 (C6 ([69,61]:List UInt8)))++v4)++(C5 (C6 ([32,82,61]:List UInt8))))++(C5 (C6 ([48]:List UInt8)))))+(C7 (C5 (C6 ([32,67,61]:List UInt8)))))≤maxLen)) then
        ne (iK N f0.2.2.1.l) fun v5=>
        bif (decide (((C7 (((((C5 (C6 ([69,61]:List UInt8)))++v4)++(C5 (C6 ([32,82,61]:List UInt8))))++(C5 (C6 ([48]:List UInt8))))++(C5 (C6 ([32,67,61]:List UInt8)))))+(C7 v5))≤maxLen)) then
         bif (decide (((C7 ((((((C5 (C6 ([69,61]:List UInt8)))++v4)++(C5 (C6 ([32,82,61]:List UInt8))))++(C5 (C6 ([48]:List UInt8))))++(C5 (C6 ([32,67,61]:List UInt8))))++v5))+(C7 (C5 (C6 ([32,86,61,51,32,77,61]:List UInt8)))))≤maxLen)) then
          bif (decide (((C7 (((((((C5 (C6 ([69,61]:List UInt8)))++v4)++(C5 (C6 ([32,82,61]:List UInt8))))++(C5 (C6 ([48]:List UInt8))))++(C5 (C6 ([32,67,61]:List UInt8))))++v5)++(C5 (C6 ([32,86,61,51,32,77,61]:List UInt8)))))+(C7 f0.2.2.2))≤maxLen)) then
           bif (ae (C7 ((((((((C5 (C6 ([69,61]:List UInt8)))++v4)++(C5 (C6 ([32,82,61]:List UInt8))))++(C5 (C6 ([48]:List UInt8))))++(C5 (C6 ([32,67,61]:List UInt8))))++v5)++(C5 (C6 ([32,86,61,51,32,77,61]:List UInt8))))++f0.2.2.2)) 1) then
            some (((@ofB ((((((((C5 (C6 ([69,61]:List UInt8)))++v4)++(C5 (C6 ([32,82,61]:List UInt8))))++(C5 (C6 ([48]:List UInt8))))++(C5 (C6 ([32,67,61]:List UInt8))))++v5)++(C5 (C6 ([32,86,61,51,32,77,61]:List UInt8))))++f0.2.2.2)),(0:Int)))
           else
            none
          else
           none
         else
          none
        else
         none
       else
        none
      else
       none
     else
      none
    else
     none
theorem AU (f0:Int×(Bool×((Arr Int 16)×(List UInt8)))):(runK C8 (aoG N) 400 36 [qz4] [(.sl (.int .u8)),(.int .i64)] (f0,())).run=jG N f0:=by kernel_rfl
noncomputable def as3:ET:=eFn (aoG N) 36 [qz4] [(.sl (.int .u8)),(.int .i64)] fun c=>jG N c.1
theorem ajf:OkE (as3 N):=aFn (ajg N) (by kernel_rfl) fun c=>AU N c.1
noncomputable def as2:ET:=Di (as3 N) [(127,0)]
theorem aje:OkE (as2 N):=fun R=>Dc (ajf N R) [(127,0)]
noncomputable def aoE:(R:Type)→Env R:=Env.addFn (as2 N) 154 (fun R=>repK)
theorem ajd (R:Type):EnvOK C8 (aoE N R):=EnvOK.addExt (aje N R) ary
noncomputable def ld (master0:Arr Int 16)(sentence1:List UInt8):Option (Arr Int 16):=
 bif (ae (C7 sentence1) 1) then
  ne (gz N ([master0.l,(@Da Int (Db (40:Int)) (0:Int)),(@ofB sentence1),(@Da Int (40:Nat) (242:Int))]:List ((List Int)))) fun v3=>
  ne (cR v3.l (16:Int)) fun v4=>
  ne (@eW Int (16:Nat) v4) fun v5=>
  some (v5)
 else
  none
theorem adg (master0:Arr Int 16)(sentence1:List UInt8):(runK C8 (aoE N) 400 127 [(.arr 16 (.int .u8)),.str] [(.arr 16 (.int .u8))] (master0,sentence1,())).run=ld N master0 sentence1:=by kernel_rfl
noncomputable def as1:ET:=eFn (aoE N) 127 [(.arr 16 (.int .u8)),.str] [(.arr 16 (.int .u8))] fun c=>ld N c.1 c.2.1
theorem ajc:OkE (as1 N):=aFn (ajd N) (by kernel_rfl) fun c=>adg N c.1 c.2.1
noncomputable def aoD:ET:=Di (as1 N) [(91,0)]
theorem ajb:OkE (aoD N):=fun R=>Dc (ajc N R) [(91,0)]
noncomputable def sQ (master0:Arr Int 16)(server1:Bool):Option ((Arr Int 16)×(Arr Int 16)):=
 ne (ld N master0 (C5 (C6 (@List.append UInt8 ([79,110,32,116,104,101,32,99,108,105,101,110,116,32,115,105,100,101,44,32,116,104,105,115,32,105,115,32,116,104,101,32,115,101,110,100,32,107,101,121,59,32]:List UInt8) ([111,110,32,116,104,101,32,115,101,114,118,101,114,32,115,105,100,101,44,32,105,116,32,105,115,32,116,104,101,32,114,101,99,101,105,118,101,32,107,101,121,46]:List UInt8))))) fun v3=>
 ne (ld N master0 (C5 (C6 (@List.append UInt8 ([79,110,32,116,104,101,32,99,108,105,101,110,116,32,115,105,100,101,44,32,116,104,105,115,32,105,115,32,116,104,101,32,114,101,99,101,105,118,101,32,107,101]:List UInt8) ([121,59,32,111,110,32,116,104,101,32,115,101,114,118,101,114,32,115,105,100,101,44,32,105,116,32,105,115,32,116,104,101,32,115,101,110,100,32,107,101,121,46]:List UInt8))))) fun v4=>
 bif server1 then
  some ((v4,v3))
 else
  some ((v3,v4))
theorem aeW (master0:Arr Int 16)(server1:Bool):(runK C8 (aoD N) 400 91 [(.arr 16 (.int .u8)),.bool] [qz5] (master0,server1,())).run=sQ N master0 server1:=by kernel_rfl
noncomputable def as0:ET:=eFn (aoD N) 91 [(.arr 16 (.int .u8)),.bool] [qz5] fun c=>sQ N c.1 c.2.1
theorem aja:OkE (as0 N):=aFn (ajb N) (by kernel_rfl) fun c=>aeW N c.1 c.2.1
noncomputable def aoC:ET:=Di (as0 N) [(90,0)]
theorem ai9:OkE (aoC N):=fun R=>Dc (aja N R) [(90,0)]
noncomputable def mO (k0:(Arr Int 16)×(Arr Int 16))(server1:Bool):Option (Arr Int 32):=
 bif server1 then
  ne (fw N ([k0.2.l,k0.1.l]:List ((List Int)))) fun v3=>
  ne (@eW Int (32:Nat) v3) fun v4=>
  some (v4)
 else
  ne (fw N ([k0.1.l,k0.2.l]:List ((List Int)))) fun v3=>
  ne (@eW Int (32:Nat) v3) fun v4=>
  some (v4)
theorem Bs (k0:(Arr Int 16)×(Arr Int 16))(server1:Bool):(runK C8 (aoC N) 400 90 [qz5,.bool] [(.arr 32 (.int .u8))] (k0,server1,())).run=mO N k0 server1:=by kernel_rfl
noncomputable def asZ:ET:=eFn (aoC N) 90 [qz5,.bool] [(.arr 32 (.int .u8))] fun c=>mO N c.1 c.2.1
theorem ai8:OkE (asZ N):=aFn (ai9 N) (by kernel_rfl) fun c=>Bs N c.1 c.2.1
noncomputable def aoB:ET:=Di (asZ N) [(55,0)]
theorem ai7:OkE (aoB N):=fun R=>Dc (ai8 N R) [(55,0)]
noncomputable def iN (h0:Arr Int 16)(response1:Arr Int 24)(server2:Bool):Option (Arr Int 32):=
 ne (iv N h0 response1) fun v4=>
 ne (sQ N v4 server2) fun v5=>
 ne (mO N v5 server2) fun v6=>
 some (v6)
theorem CY (h0:Arr Int 16)(response1:Arr Int 24)(server2:Bool):(runK C8 (aoB N) 400 55 [(.arr 16 (.int .u8)),(.arr 24 (.int .u8)),.bool] [(.arr 32 (.int .u8))] (h0,response1,server2,())).run=iN N h0 response1 server2:=by kernel_rfl
noncomputable def asY:ET:=eFn (aoB N) 55 [(.arr 16 (.int .u8)),(.arr 24 (.int .u8)),.bool] [(.arr 32 (.int .u8))] fun c=>iN N c.1 c.2.1 c.2.2.1
theorem ai6:OkE (asY N):=aFn (ai7 N) (by kernel_rfl) fun c=>CY N c.1 c.2.1 c.2.2.1
noncomputable def aoA:ET:=Di (asY N) [(65,0)]
theorem abS:OkE (aoA N):=fun R=>Dc (ai6 N R) [(65,0)]
noncomputable def lq:LI:=⟨24,0,[],⟨[(4,.lit (.box 0 0)),(6,.lit (.own 1)),(7,.ty (.int .i64))],[.box 27 (.arr 16 (.int .u8)),.own (.int .u8) 5]⟩,[(.exit 0,⟨[(4,.lit (.box 0 0)),(6,.lit (.own 1))],[.box 27 (.arr 16 (.int .u8)),.own (.int .u8) 5]⟩)]⟩
noncomputable def fT (N:Nat)(X:((Int×Unit)×pz15)→Option ((Unit×pz15)))(i7:Int)(h0:Arr Int 16)(h1:List (Int)):Option ((Unit×pz15)):=
 bif (decide (i7<40)) then
  bif (ae ((C7 h1)+(C7 ([242]:List Int))) 1) then
   (X (((gt .i64 (i7+1)),()),(h0,((h1++([242]:List Int)),()))))
  else
   none
 else
  some (((),(h0,(h1,()))))
noncomputable def fu (c:((Int×Unit)×pz15)):Option ((Unit×pz15)):=gl (fun X c=>fT N X c.1.1 c.2.1 c.2.2.1) N c
theorem wA (X:((Int×Unit)×pz15)→Option ((Unit×pz15)))(i7:Int)(h0:Arr Int 16)(h1:List (Int)):(aq C8 (aoA N) 400 [65] lq (ao C8 [65] 7) X ((i7,()),(h0,h1,()))).run=fT N X i7 h0 h1:=by kernel_rfl
noncomputable def aoz:(R:Type)→Env R:=Du (aoA N) [65] 0 7 (fun R=>lpK C8 lq (fun X c=>fT N X c.1.1 c.2.1 c.2.2.1) N)
theorem ai5 (R:Type):EnvOK C8 (aoz N R):=Dk (abS N R) (by kernel_rfl) (aw (li:=lq) hmx (abS N _) (by kernel_rfl) ab (fun X c=>wA N X c.1.1 c.2.1 c.2.2.1) N)
noncomputable def jV (master0:Arr Int 16)(a1:Bool):Option (Arr Int 16):=
 bif a1 then
  bif (ae (C7 master0.l) 1) then
   bif (ae ((C7 master0.l)+(Db (40:Int))) 1) then
    bif (ae ((C7 (master0.l++(@Da Int (Db (40:Int)) (0:Int))))+(C7 (C5 (C6 (@List.append UInt8 ([79,110,32,116,104,101,32,99,108,105,101,110,116,32,115,105,100,101,44,32,116,104,105,115,32,105,115,32,116,104,101,32,115,101,110,100,32,107,101,121,59,32]:List UInt8) ([111,110,32,116,104,101,32,115,101,114,118,101,114,32,115,105,100,101,44,32,105,116,32,105,115,32,116,104,101,32,114,101,99,101,105,118,101,32,107,101,121,46]:List UInt8)))))) 1) then
     ne (fu N ((0,()),(zc16,(((master0.l++(@Da Int (Db (40:Int)) (0:Int)))++(@ofB (C5 (C6 (@List.append UInt8 ([79,110,32,116,104,101,32,99,108,105,101,110,116,32,115,105,100,101,44,32,116,104,105,115,32,105,115,32,116,104,101,32,115,101,110,100,32,107,101,121,59,32]:List UInt8) ([111,110,32,116,104,101,32,115,101,114,118,101,114,32,115,105,100,101,44,32,105,116,32,105,115,32,116,104,101,32,114,101,99,101,105,118,101,32,107,101,121,46]:List UInt8)))))),())))) fun v3=>
     ne (dS N v3.2.2.1) fun v4=>
     some (v4)
    else
     none
   else
    none
  else
   none
 else
  bif (ae (C7 master0.l) 1) then
   bif (ae ((C7 master0.l)+(Db (40:Int))) 1) then
    bif (ae ((C7 (master0.l++(@Da Int (Db (40:Int)) (0:Int))))+(C7 (C5 (C6 (@List.append UInt8 ([79,110,32,116,104,101,32,99,108,105,101,110,116,32,115,105,100,101,44,32,116,104,105,115,32,105,115,32,116,104,101,32,114,101,99,101,105,118,101,32,107,101]:List UInt8) ([121,59,32,111,110,32,116,104,101,32,115,101,114,118,101,114,32,115,105,100,101,44,32,105,116,32,105,115,32,116,104,101,32,115,101,110,100,32,107,101,121,46]:List UInt8)))))) 1) then
     ne (fu N ((0,()),(zc16,(((master0.l++(@Da Int (Db (40:Int)) (0:Int)))++(@ofB (C5 (C6 (@List.append UInt8 ([79,110,32,116,104,101,32,99,108,105,101,110,116,32,115,105,100,101,44,32,116,104,105,115,32,105,115,32,116,104,101,32,114,101,99,101,105,118,101,32,107,101]:List UInt8) ([121,59,32,111,110,32,116,104,101,32,115,101,114,118,101,114,32,115,105,100,101,44,32,105,116,32,105,115,32,116,104,101,32,115,101,110,100,32,107,101,121,46]:List UInt8)))))),())))) fun v3=>
     ne (dS N v3.2.2.1) fun v4=>
     some (v4)
    else
     none
   else
    none
  else
   none
theorem Cv (master0:Arr Int 16)(a1:Bool):(runK C8 (aoz N) 400 65 [(.arr 16 (.int .u8)),.bool] [(.arr 16 (.int .u8))] (master0,a1,())).run=jV N master0 a1:=by kernel_rfl
noncomputable def asX:ET:=eFn (aoz N) 65 [(.arr 16 (.int .u8)),.bool] [(.arr 16 (.int .u8))] fun c=>jV N c.1 c.2.1
theorem ai4:OkE (asX N):=aFn (ai5 N) (by kernel_rfl) fun c=>Cv N c.1 c.2.1
noncomputable def aox:ET:=Di (asX N) [(38,0)]
theorem abR:OkE (aox N):=fun R=>Dc (ai4 N R) [(38,0)]
noncomputable def jW:LI:=⟨33,0,[],⟨[(4,.lit (.box 0 0)),(6,.lit (.box 1 0)),(7,.lit (.box 2 0)),(8,.lit (.box 3 0)),(9,.ty (.int .i64))],[.box 29 (.arr 32 (.int .u8)),.box 27 (.arr 16 (.int .u8)),.box 27 (.arr 16 (.int .u8)),.box 29 (.arr 32 (.int .u8))]⟩,[(.exit 0,⟨[(4,.lit (.box 0 0)),(8,.lit (.box 1 0))],[.box 29 (.arr 32 (.int .u8)),.box 29 (.arr 32 (.int .u8))]⟩)]⟩
noncomputable def eX (N:Nat)(X:((Int×Unit)×((Arr Int 32)×((Arr Int 16)×((Arr Int 16)×((Arr Int 32)×Unit)))))→Option ((Unit×((Arr Int 32)×((Arr Int 32)×Unit)))))(i9:Int)(h0:Arr Int 32)(h1:Arr Int 16)(h2:Arr Int 16)(h3:Arr Int 32):Option ((Unit×((Arr Int 32)×((Arr Int 32)×Unit)))):=
 bif (decide (i9<16)) then
  bif (decide ((0:Int)≤i9∧i9<((16:Nat):Int))) then
   ne (h1.l[Db i9]?) fun (v7:Int)=>
   bif (decide ((0:Int)≤i9∧i9<((16:Nat):Int))) then
    ne (h2.l[Db i9]?) fun (v8:Int)=>
    bif (decide ((0:Int)≤i9∧i9<((32:Nat):Int))) then
     bif (decide ((0:Int)≤(gt .i64 ((16:Int)+i9))∧(gt .i64 ((16:Int)+i9))<((32:Nat):Int))) then
      ne (h3.l[Db i9]?) fun (v9:Int)=>
      ne ((h3.set (Db i9) v7).l[Db (gt .i64 ((16:Int)+i9))]?) fun (v10:Int)=>
      (X (((gt .i64 (i9+1)),()),(h0,(h1,(h2,(((h3.set (Db i9) v7).set (Db (gt .i64 ((16:Int)+i9))) v8),()))))))
     else
      none
    else
     none
   else
    none
  else
   none
 else
  some (((),(h0,(h3,()))))
noncomputable def oY (c:((Int×Unit)×((Arr Int 32)×((Arr Int 16)×((Arr Int 16)×((Arr Int 32)×Unit)))))):Option ((Unit×((Arr Int 32)×((Arr Int 32)×Unit)))):=gl (fun X c=>eX N X c.1.1 c.2.1 c.2.2.1 c.2.2.2.1 c.2.2.2.2.1) N c
theorem uV (X:((Int×Unit)×((Arr Int 32)×((Arr Int 16)×((Arr Int 16)×((Arr Int 32)×Unit)))))→Option ((Unit×((Arr Int 32)×((Arr Int 32)×Unit)))))(i9:Int)(h0:Arr Int 32)(h1:Arr Int 16)(h2:Arr Int 16)(h3:Arr Int 32):(aq C8 (aox N) 400 [38] jW (ao C8 [38] 5) X ((i9,()),(h0,h1,h2,h3,()))).run=eX N X i9 h0 h1 h2 h3:=by kernel_rfl
noncomputable def aow:(R:Type)→Env R:=Du (aox N) [38] 0 5 (fun R=>lpK C8 jW (fun X c=>eX N X c.1.1 c.2.1 c.2.2.1 c.2.2.2.1 c.2.2.2.2.1) N)
theorem ai3 (R:Type):EnvOK C8 (aow N R):=Dk (abR N R) (by kernel_rfl) (aw (li:=jW) hmx (abR N _) (by kernel_rfl) ab (fun X c=>uV N X c.1.1 c.2.1 c.2.2.1 c.2.2.2.1 c.2.2.2.2.1) N)
noncomputable def jF (h0:Arr Int 16)(response1:Arr Int 24):Option (Arr Int 32):=
 ne (fS N h0 response1) fun v3=>
 ne (jV N v3 true) fun v4=>
 ne (jV N v3 false) fun v5=>
 ne (oY N ((0,()),(zc32,(v4,(v5,(zc32,())))))) fun v6=>
 some (v6.2.2.1)
theorem AR (h0:Arr Int 16)(response1:Arr Int 24):(runK C8 (aow N) 400 38 [(.arr 16 (.int .u8)),(.arr 24 (.int .u8))] [(.arr 32 (.int .u8))] (h0,response1,())).run=jF N h0 response1:=by kernel_rfl
noncomputable def asW:ET:=eFn (aow N) 38 [(.arr 16 (.int .u8)),(.arr 24 (.int .u8))] [(.arr 32 (.int .u8))] fun c=>jF N c.1 c.2.1
theorem ai2:OkE (asW N):=aFn (ai3 N) (by kernel_rfl) fun c=>AR N c.1 c.2.1
noncomputable def aov:ET:=Di (asW N) [(21,0)]
theorem ai1:OkE (aov N):=fun R=>Dc (ai2 N R) [(21,0)]
noncomputable def kP (N:Nat)(a0:List (Int))(b1:List (Int)):Option Bool:=
 ne (@toBy a0) fun (v3:(List UInt8))=>
 ne (@toBy b1) fun (v4:(List UInt8))=>
 some ((decide (v3=v4)))
theorem zV (a0:List (Int))(b1:List (Int)):(runK C8 (aov N) 400 40 [(.sl (.int .u8)),(.sl (.int .u8))] [.bool] (a0,b1,())).run=kP N a0 b1:=by kernel_rfl
noncomputable def aou:ET:=eFn (aov N) 40 [(.sl (.int .u8)),(.sl (.int .u8))] [.bool] fun c=>kP N c.1 c.2.1
theorem ai0:OkE (aou N):=aFn (ai1 N) (by kernel_rfl) fun c=>zV N c.1 c.2.1
noncomputable def sd (a0:Int×(Int×(List Int)))(b1:Int×(Int×(List Int))):Option Bool:=
 ne (bif (decide (a0.1=b1.1)) then
   some ((cond true (decide (a0.2.1=b1.2.1)) false))
  else
   some (false)) fun (v3:Bool)=>
 bif v3 then
  ne (kP N a0.2.2 b1.2.2) fun v4=>
  some ((cond true v4 false))
 else
  some (false)
theorem adB (a0:Int×(Int×(List Int)))(b1:Int×(Int×(List Int))):(runK C8 (aou N) 400 21 [qz2,qz2] [.bool] (a0,b1,())).run=sd N a0 b1:=by kernel_rfl
noncomputable def aot:ET:=eFn (aou N) 21 [qz2,qz2] [.bool] fun c=>sd N c.1 c.2.1
theorem aiZ:OkE (aot N):=aFn (ai0 N) (by kernel_rfl) fun c=>adB N c.1 c.2.1
noncomputable def nm (code0:Int)(id1:Int)(value2:List (Int))(name3:List UInt8):Option pz5:=
 ne (cR value2 (@minI (value2.length:Int) (255:Int))) fun v5=>
 bif (ae (C7 name3) 1) then
  ne (fw N ([([(gt .u8 (v5.length:Int))]:List (Int)),v5,(@ofB name3)]:List ((List Int)))) fun v6=>
  some ((code0,(id1,v6)))
 else
  none
theorem aau (code0:Int)(id1:Int)(value2:List (Int))(name3:List UInt8):(runK C8 (aot N) 400 23 [(.int .u8),(.int .u8),(.sl (.int .u8)),.str] [qz2] (code0,id1,value2,name3,())).run=nm N code0 id1 value2 name3:=by kernel_rfl
noncomputable def asV:ET:=eFn (aot N) 23 [(.int .u8),(.int .u8),(.sl (.int .u8)),.str] [qz2] fun c=>nm N c.1 c.2.1 c.2.2.1 c.2.2.2.1
theorem aiY:OkE (asV N):=aFn (aiZ N) (by kernel_rfl) fun c=>aau N c.1 c.2.1 c.2.2.1 c.2.2.2.1
noncomputable def agO:ET:=Di (asV N) [(51,0)]
theorem abQ:OkE (agO N):=fun R=>Dc (aiY N R) [(51,0)]
noncomputable def c6 (N:Nat)(s0:List (Int)):Option (List Int):=
 bif (@List.isEmpty Int s0) then
  none
 else
  bif (ae (C7 s0) 1) then
   some (s0)
  else
   none
theorem jN (s0:List (Int)):(runK C8 (agO N) 400 84 [(.sl (.int .u8))] [(.sl (.int .u8))] (s0,())).run=c6 N s0:=by kernel_rfl
theorem ln (c:Nat):(runV C8 (agO N) 400 84 [.c (.slice none 0 c)] [(.sl (.int .u8))]).run=some []:=by kernel_rfl
theorem lm (A:Addr)(c:Nat):(runV C8 (agO N) 400 84 [.c (.slice (some A) 0 c)] [(.sl (.int .u8))]).run=some []:=by kernel_rfl
noncomputable def cO (s0:List (Int)):Option (List Int):=bif s0.isEmpty then some [] else c6 N s0
noncomputable def aos:ET:=eFn (agO N) 84 [(.sl (.int .u8))] [(.sl (.int .u8))] fun c=>cO N c.1
theorem aiX (R:Type):EnvOK C8 (aos N R):=EnvOK.addNil hmx (abQ N R) (abQ N _) (by kernel_rfl) (fun c=>jN N c.1) (ln N) (lm N)
noncomputable def ix (c0:Int×(Int×(List Int))):Option ((List Int)×List UInt8×Int):=
 bif (decide ((c0.2.2.length:Int)=(0:Int))) then
  some ((([]:List Int),((C5 (C6 ([]:List UInt8))),(4:Int))))
 else
  ne (getI c0.2.2 0) fun v2=>
  bif (cond false true (decide ((gt .i64 ((c0.2.2.length:Int)-1))<(gt .i64 v2)))) then
   some ((([]:List Int),((C5 (C6 ([]:List UInt8))),(4:Int))))
  else
   ne (getI c0.2.2 0) fun v3=>
   ne (subI c0.2.2 (1:Int) (gt .i64 ((1:Int)+(gt .i64 v3)))) fun v4=>
   ne (cO N v4) fun v5=>
   ne (b9 c0.2.2 (gt .i64 ((1:Int)+(gt .i64 v3)))) fun v6=>
   ne (@toBy v6) fun (v7:(List UInt8))=>
   some ((v5,(v7,(0:Int))))
theorem zR (c0:Int×(Int×(List Int))):(runK C8 (aos N) 400 51 [qz2] [(.sl (.int .u8)),.str,(.int .i64)] (c0,())).run=ix N c0:=by kernel_rfl
noncomputable def aoq:ET:=eFn (aos N) 51 [qz2] [(.sl (.int .u8)),.str,(.int .i64)] fun c=>ix N c.1
theorem abP:OkE (aoq N):=aFn (aiX N) (by kernel_rfl) fun c=>zR N c.1
noncomputable def bu:LI:=⟨21,2,[],⟨[(1,.lit (.clo 125 [.box 1 0])),(4,.lit (.box 2 0)),(9,.ty (.sl (.pair .str .str))),(10,.ty (.int .i64)),(11,.ty (.int .i64))],[.box 64 (.pair .str .str),.box 9 .str,.box 64 (.pair .str .str)]⟩,[(.ret,⟨[(4,.lit (.box 2 0)),(5,.ty .bool)],[.box 64 (.pair .str .str),.box 9 .str,.box 64 (.pair .str .str)]⟩),(.exit 0,⟨[(4,.lit (.box 2 0))],[.box 64 (.pair .str .str),.box 9 .str,.box 64 (.pair .str .str)]⟩)]⟩
noncomputable def aC (X:(pz33×(pz2×pz31))→Option ((((Bool×Unit)×(pz2×pz31)) ⊕ (Unit×(pz2×pz31)))))(x9:List pz2)(x10:Int)(x11:Int)(h0:List UInt8×(List UInt8))(h1:List UInt8)(h2:List UInt8×(List UInt8)):Option ((((Bool×Unit)×(pz2×pz31)) ⊕ (Unit×(pz2×pz31)))):=
 bif (decide (x11<x10)) then
  ne (getI x9 x11) fun v8=>
  ne (gW N v8.1) fun v9=>
  bif (decide (v9=h1)) then
   some ((.inl ((true,()),(h0,(h1,(v8,()))))))
  else
   (X ((x9,(x10,((gt .i64 (x11+1)),()))),(h0,(h1,(h2,())))))
 else
  some ((.inr ((),(h0,(h1,(h2,()))))))
noncomputable def cj (c:(pz33×(pz2×pz31))):Option ((((Bool×Unit)×(pz2×pz31)) ⊕ (Unit×(pz2×pz31)))):=gl (fun X c=>aC N X c.1.1 c.1.2.1 c.1.2.2.1 c.2.1 c.2.2.1 c.2.2.2.1) N c
theorem eN (X:(pz33×(pz2×pz31))→Option ((((Bool×Unit)×(pz2×pz31)) ⊕ (Unit×(pz2×pz31)))))(x9:List pz2)(x10:Int)(x11:Int)(h0:List UInt8×(List UInt8))(h1:List UInt8)(h2:List UInt8×(List UInt8)):(aq C8 (aoq N) 400 [124,2,86] bu (ao C8 [124,2,86] 2) X ((x9,x10,x11,()),(h0,h1,h2,()))).run=aC N X x9 x10 x11 h0 h1 h2:=by kernel_rfl
noncomputable def aop:(R:Type)→Env R:=Du (aoq N) [124,2,86] 2 2 (fun R=>lpK C8 bu (fun X c=>aC N X c.1.1 c.1.2.1 c.1.2.2.1 c.2.1 c.2.2.1 c.2.2.2.1) N)
theorem aiW (R:Type):EnvOK C8 (aop N R):=Dk (abP N R) (by kernel_rfl) (aw (li:=bu) hmx (abP N _) (by kernel_rfl) ab (fun X c=>eN N X c.1.1 c.1.2.1 c.1.2.2.1 c.2.1 c.2.2.1 c.2.2.2.1) N)
noncomputable def np (users0:List pz2)(name1:List UInt8):Option (pz2×Bool):=
 ne (gW N name1) fun v3=>
 ne (cj N ((users0,((users0.length:Int),(0,()))),(((C5 (C6 ([]:List UInt8))),(C5 (C6 ([]:List UInt8)))),(v3,(((C5 (C6 ([]:List UInt8))),(C5 (C6 ([]:List UInt8)))),()))))) fun v4=>
 Sum.elim
  (fun (v5:((Bool×Unit)×(pz2×pz31)))=>
  some ((v5.2.2.2.1,v5.1.1)))
  (fun (v5:(Unit×(pz2×pz31)))=>
  some ((((C5 (C6 ([]:List UInt8))),(C5 (C6 ([]:List UInt8)))),false))) v4
theorem BU (users0:List pz2)(name1:List UInt8):(runK C8 (aop N) 400 86 [(.sl (.pair .str .str)),.str] [(.pair .str .str),.bool] (users0,name1,())).run=np N users0 name1:=by kernel_rfl
noncomputable def agN:ET:=eFn (aop N) 86 [(.sl (.pair .str .str)),.str] [(.pair .str .str),.bool] fun c=>np N c.1 c.2.1
theorem abO:OkE (agN N):=aFn (aiW N) (by kernel_rfl) fun c=>BU N c.1 c.2.1
noncomputable def bC (N:Nat)(s0:List pz2):Option (List pz2):=
 bif (@List.isEmpty pz2 s0) then
  none
 else
  bif (ae (C7 s0) 32) then
   some (s0)
  else
   none
theorem eO (s0:List pz2):(runK C8 (agN N) 400 25 [(.sl (.pair .str .str))] [(.sl (.pair .str .str))] (s0,())).run=bC N s0:=by kernel_rfl
theorem fi (c:Nat):(runV C8 (agN N) 400 25 [.c (.slice none 0 c)] [(.sl (.pair .str .str))]).run=some []:=by kernel_rfl
theorem fh (A:Addr)(c:Nat):(runV C8 (agN N) 400 25 [.c (.slice (some A) 0 c)] [(.sl (.pair .str .str))]).run=some []:=by kernel_rfl
noncomputable def bo (s0:List pz2):Option (List pz2):=bif s0.isEmpty then some [] else bC N s0
noncomputable def aoo:ET:=eFn (agN N) 25 [(.sl (.pair .str .str))] [(.sl (.pair .str .str))] fun c=>bo N c.1
theorem aiV (R:Type):EnvOK C8 (aoo N R):=EnvOK.addNil hmx (abO N R) (abO N _) (by kernel_rfl) (fun c=>eO N c.1) (fi N) (fh N)
noncomputable def pO (name0:List UInt8)(users1:List pz2):Option (List UInt8×pz0):=
 ne (bo N users1) fun v3=>
 some ((name0,(v3,(0,(0,(zc16,(0,(0,(([]:List Int),(0,((C5 (C6 ([]:List UInt8))),zc32)))))))))))
theorem aat (name0:List UInt8)(users1:List pz2):(runK C8 (aoo N) 400 6 [.str,(.sl (.pair .str .str))] [qz0] (name0,users1,())).run=pO N name0 users1:=by kernel_rfl
noncomputable def aon:ET:=eFn (aoo N) 6 [.str,(.sl (.pair .str .str))] [qz0] fun c=>pO N c.1 c.2.1
theorem aiU:OkE (aon N):=aFn (aiV N) (by kernel_rfl) fun c=>aat N c.1 c.2.1
noncomputable def dG (x0:List UInt8×pz0):Option ((List UInt8×pz0)×List pz5):=
 ne (nm N (1:Int) x0.2.2.2.1 x0.2.2.2.2.1.l x0.1) fun v2=>
 some (((x0.1,(x0.2.1,(x0.2.2.1,(x0.2.2.2.1,(x0.2.2.2.2.1,((gt .i64 (x0.2.2.2.2.2.1+1)),(3,x0.2.2.2.2.2.2.2))))))),([v2]:List (pz5))))
theorem te (x0:List UInt8×pz0):(runK C8 (aon N) 400 29 [qz0] [qz0,(.sl qz2)] (x0,())).run=dG N x0:=by kernel_rfl
noncomputable def asT:ET:=eFn (aon N) 29 [qz0] [qz0,(.sl qz2)] fun c=>dG N c.1
theorem aiT:OkE (asT N):=aFn (aiU N) (by kernel_rfl) fun c=>te N c.1
noncomputable def agM:ET:=Di (asT N) [(32,0)]
theorem abN:OkE (agM N):=fun R=>Dc (aiT N R) [(32,0)]
noncomputable def lY (N:Nat)(b0:List (Int)):Option (List Int):=
 bif (@List.isEmpty Int b0) then
  none
 else
  bif (ae (C7 b0) 1) then
   some (b0)
  else
   none
theorem ug (b0:List (Int)):(runK C8 (agM N) 400 58 [(.sl (.int .u8))] [(.sl (.int .u8))] (b0,())).run=lY N b0:=by kernel_rfl
theorem xl (c:Nat):(runV C8 (agM N) 400 58 [.c (.slice none 0 c)] [(.sl (.int .u8))]).run=some []:=by kernel_rfl
theorem xk (A:Addr)(c:Nat):(runV C8 (agM N) 400 58 [.c (.slice (some A) 0 c)] [(.sl (.int .u8))]).run=some []:=by kernel_rfl
noncomputable def oq (b0:List (Int)):Option (List Int):=bif b0.isEmpty then some [] else lY N b0
noncomputable def aom:ET:=eFn (agM N) 58 [(.sl (.int .u8))] [(.sl (.int .u8))] fun c=>oq N c.1
theorem aiS (R:Type):EnvOK C8 (aom N R):=EnvOK.addNil hmx (abN N R) (abN N _) (by kernel_rfl) (fun c=>ug N c.1) (xl N) (xk N)
noncomputable def bA (x0:List UInt8×pz0):Option (List pz5):=
 bif (decide (x0.2.2.2.2.2.2.2.2.1=0)) then
  some (([]:List (pz5)))
 else
  ne (oq N x0.2.2.2.2.2.2.2.1) fun v2=>
  some (([(x0.2.2.2.2.2.2.2.2.1,(x0.2.2.2.1,v2))]:List (pz5)))
theorem sf (x0:List UInt8×pz0):(runK C8 (aom N) 400 32 [qz0] [(.sl qz2)] (x0,())).run=bA N x0:=by kernel_rfl
noncomputable def asS:ET:=eFn (aom N) 32 [qz0] [(.sl qz2)] fun c=>bA N c.1
theorem aiR:OkE (asS N):=aFn (aiS N) (by kernel_rfl) fun c=>sf N c.1
noncomputable def aol:ET:=Di (asS N) [(53,0)]
theorem aiQ:OkE (aol N):=fun R=>Dc (aiR N R) [(53,0)]
noncomputable def bq (x0:List UInt8×pz0)(peer1:Arr Int 16)(response2:Arr Int 24)(name3:List UInt8):Option ((Arr Int 16)×Bool):=
 ne (np N x0.2.1 name3) fun v5=>
 bif (!v5.2) then
  some ((zc16,false))
 else
  ne (gH N v5.1.2) fun v6=>
  bif (!(decide (v6.2=0))) then
   some ((zc16,false))
  else
   ne (bz N peer1 x0.2.2.2.2.1 name3) fun v7=>
   ne (dc N v7 v6.1) fun v8=>
   ne (kr N v8.l response2.l) fun v9=>
   bif (!v9) then
    some ((zc16,false))
   else
    some ((v6.1,true))
theorem rg (x0:List UInt8×pz0)(peer1:Arr Int 16)(response2:Arr Int 24)(name3:List UInt8):(runK C8 (aol N) 400 53 [qz0,(.arr 16 (.int .u8)),(.arr 24 (.int .u8)),.str] [(.arr 16 (.int .u8)),.bool] (x0,peer1,response2,name3,())).run=bq N x0 peer1 response2 name3:=by kernel_rfl
noncomputable def aok:ET:=eFn (aol N) 53 [qz0,(.arr 16 (.int .u8)),(.arr 24 (.int .u8)),.str] [(.arr 16 (.int .u8)),.bool] fun c=>bq N c.1 c.2.1 c.2.2.1 c.2.2.2.1
theorem aiP:OkE (aok N):=aFn (aiQ N) (by kernel_rfl) fun c=>rg N c.1 c.2.1 c.2.2.1 c.2.2.2.1
noncomputable def bB (x0:List UInt8×pz0)(c1:Int×(Int×(List Int))):Option ((List UInt8×pz0)×List pz5):=
 ne (ix N c1) fun v3=>
 bif (!(decide (v3.2.2=0))) then
  some ((x0,([]:List (pz5))))
 else
  ne (iz N v3.1) fun v4=>
  bif (!(decide (v4.2.2=0))) then
   some ((x0,([]:List (pz5))))
  else
   ne (bq N x0 v4.1 v4.2.1 v3.2.1) fun v5=>
   bif (!v5.2) then
    ne (jH N (691,(false,(x0.2.2.2.2.1,(C5 (C6 ([78,111]:List UInt8))))))) fun v6=>
    ne (bA N (x0.1,(x0.2.1,(3,(x0.2.2.2.1,(x0.2.2.2.2.1,(x0.2.2.2.2.2.1,(x0.2.2.2.2.2.2.1,(v6.1,(4,x0.2.2.2.2.2.2.2.2.2)))))))))) fun v7=>
    some (((x0.1,(x0.2.1,(3,(x0.2.2.2.1,(x0.2.2.2.2.1,(x0.2.2.2.2.2.1,(x0.2.2.2.2.2.2.1,(v6.1,(4,x0.2.2.2.2.2.2.2.2.2))))))))),v7))
   else
    ne (iN N v5.1 v4.2.1 true) fun v6=>
    ne (bz N v4.1 x0.2.2.2.2.1 v3.2.1) fun v7=>
    ne (eU N v5.1 v4.2.1 v7) fun v8=>
    ne (ed N v8 (C5 (C6 ([87,101,108,99,111,109,101]:List UInt8)))) fun v9=>
    ne (bA N (x0.1,(x0.2.1,(2,(x0.2.2.2.1,(x0.2.2.2.2.1,(x0.2.2.2.2.2.1,(x0.2.2.2.2.2.2.1,(v9,(3,(v3.2.1,v6))))))))))) fun v10=>
    some (((x0.1,(x0.2.1,(2,(x0.2.2.2.1,(x0.2.2.2.2.1,(x0.2.2.2.2.2.1,(x0.2.2.2.2.2.2.1,(v9,(3,(v3.2.1,v6)))))))))),v10))
theorem rh (x0:List UInt8×pz0)(c1:Int×(Int×(List Int))):(runK C8 (aok N) 400 31 [qz0,qz2] [qz0,(.sl qz2)] (x0,c1,())).run=bB N x0 c1:=by kernel_rfl
noncomputable def aoj:ET:=eFn (aok N) 31 [qz0,qz2] [qz0,(.sl qz2)] fun c=>bB N c.1 c.2.1
theorem aiO:OkE (aoj N):=aFn (aiP N) (by kernel_rfl) fun c=>rh N c.1 c.2.1
noncomputable def br (x0:List UInt8×pz0)(challenge1:Arr Int 16):Option ((List UInt8×pz0)×List pz5):=
 bif (!(decide (x0.2.2.1=0))) then
  some ((x0,([]:List (pz5))))
 else
  ne (dG N (x0.1,(x0.2.1,(1,((gt .u8 (x0.2.2.2.1+1)),(challenge1,x0.2.2.2.2.2)))))) fun v3=>
  some (v3)
theorem rj (x0:List UInt8×pz0)(challenge1:Arr Int 16):(runK C8 (aoj N) 400 11 [qz0,(.arr 16 (.int .u8))] [qz0,(.sl qz2)] (x0,challenge1,())).run=br N x0 challenge1:=by kernel_rfl
noncomputable def aoi:ET:=eFn (aoj N) 11 [qz0,(.arr 16 (.int .u8))] [qz0,(.sl qz2)] fun c=>br N c.1 c.2.1
theorem aiN:OkE (aoi N):=aFn (aiO N) (by kernel_rfl) fun c=>rj N c.1 c.2.1
noncomputable def bn (x0:List UInt8×pz0):Option ((List UInt8×pz0)×List pz5):=
 bif (!(decide (x0.2.2.1=1))) then
  some ((x0,([]:List (pz5))))
 else
  bif (decide ((0:Int)<(gt .i64 (x0.2.2.2.2.2.2.1-1)))) then
   some (((x0.1,(x0.2.1,(x0.2.2.1,(x0.2.2.2.1,(x0.2.2.2.2.1,(x0.2.2.2.2.2.1,((gt .i64 (x0.2.2.2.2.2.2.1-1)),x0.2.2.2.2.2.2.2))))))),([]:List (pz5))))
  else
   bif (decide (x0.2.2.2.2.2.1<5)) then
    ne (dG N (x0.1,(x0.2.1,(x0.2.2.1,(x0.2.2.2.1,(x0.2.2.2.2.1,(x0.2.2.2.2.2.1,((gt .i64 (x0.2.2.2.2.2.2.1-1)),x0.2.2.2.2.2.2.2)))))))) fun v2=>
    some (v2)
   else
    some (((x0.1,(x0.2.1,(3,(x0.2.2.2.1,(x0.2.2.2.2.1,(x0.2.2.2.2.2.1,((gt .i64 (x0.2.2.2.2.2.2.1-1)),x0.2.2.2.2.2.2.2))))))),([]:List (pz5))))
theorem si (x0:List UInt8×pz0):(runK C8 (aoi N) 400 13 [qz0] [qz0,(.sl qz2)] (x0,())).run=bn N x0:=by kernel_rfl
noncomputable def asR:ET:=eFn (aoi N) 13 [qz0] [qz0,(.sl qz2)] fun c=>bn N c.1
theorem aiM:OkE (asR N):=aFn (aiN N) (by kernel_rfl) fun c=>si N c.1
noncomputable def aoh:ET:=Di (asR N) [(15,0)]
theorem aiL:OkE (aoh N):=fun R=>Dc (aiM N R) [(15,0)]
noncomputable def aP (x0:List UInt8×pz0)(c1:Int×(Int×(List Int))):Option ((List UInt8×pz0)×List pz5):=
 ne (bif (!(decide (c1.1=2))) then
   some (true)
  else
   some ((cond false true (!(decide (c1.2.1=x0.2.2.2.1)))))) fun (v3:Bool)=>
 bif v3 then
  some ((x0,([]:List (pz5))))
 else
  bif (decide (x0.2.2.1=1)) then
   ne (bB N x0 c1) fun v4=>
   some (v4)
  else
   bif (decide (x0.2.2.1=2)) then
    bif (decide (x0.2.2.1=2)) then
     ne (bA N x0) fun v4=>
     some ((x0,v4))
    else
     some ((x0,([]:List (pz5))))
   else
    bif (decide (x0.2.2.1=3)) then
     ne (bA N x0) fun v4=>
     some ((x0,v4))
    else
     some ((x0,([]:List (pz5))))
theorem sj (x0:List UInt8×pz0)(c1:Int×(Int×(List Int))):(runK C8 (aoh N) 400 15 [qz0,qz2] [qz0,(.sl qz2)] (x0,c1,())).run=aP N x0 c1:=by kernel_rfl
noncomputable def asQ:ET:=eFn (aoh N) 15 [qz0,qz2] [qz0,(.sl qz2)] fun c=>aP N c.1 c.2.1
theorem aiK:OkE (asQ N):=aFn (aiL N) (by kernel_rfl) fun c=>sj N c.1 c.2.1
noncomputable def aog:ET:=Env.addMv (asQ N) [(9,2)]
theorem aiJ:OkE (aog N):=fun R=>EnvOK.addMv (aiK N R) [(9,2)]
noncomputable def mr (N:Nat)(code0:Int)(id1:Int)(value2:List (Int))(name3:List UInt8):Option pz5:=
 ne (cR value2 (@minI (value2.length:Int) (255:Int))) fun v5=>
 bif (ae ((C7 ([(gt .u8 (v5.length:Int))]:List (Int)))+(C7 v5)) 1) then
  bif (ae ((C7 (([(gt .u8 (v5.length:Int))]:List (Int))++v5))+(C7 name3)) 1) then
   some ((code0,(id1,((([(gt .u8 (v5.length:Int))]:List (Int))++v5)++(@ofB name3)))))
  else
   none
 else
  none
theorem Cu (code0:Int)(id1:Int)(value2:List (Int))(name3:List UInt8):(runK C8 (aog N) 400 9 [(.int .u8),(.int .u8),(.sl (.int .u8)),.str] [qz2] (code0,id1,value2,name3,())).run=mr N code0 id1 value2 name3:=by kernel_rfl
noncomputable def asP:ET:=eFn (aog N) 9 [(.int .u8),(.int .u8),(.sl (.int .u8)),.str] [qz2] fun c=>mr N c.1 c.2.1 c.2.2.1 c.2.2.2.1
theorem aiI:OkE (asP N):=aFn (aiJ N) (by kernel_rfl) fun c=>Cu N c.1 c.2.1 c.2.2.1 c.2.2.2.1
noncomputable def aof:ET:=Di (asP N) [(33,0)]
theorem aiH:OkE (aof N):=fun R=>Dc (aiI N R) [(33,0)]
noncomputable def jT (N:Nat)(c0:Int×(Int×(List Int))):Option ((List Int)×List UInt8×Int):=
 bif (decide ((c0.2.2.length:Int)=(0:Int))) then
  some ((([]:List Int),((C5 (C6 ([]:List UInt8))),(4:Int))))
 else
  ne (getI c0.2.2 0) fun v2=>
  bif (cond false true (decide ((gt .i64 ((c0.2.2.length:Int)-1))<(gt .i64 v2)))) then
   some ((([]:List Int),((C5 (C6 ([]:List UInt8))),(4:Int))))
  else
   ne (getI c0.2.2 0) fun v3=>
   ne (subI c0.2.2 (1:Int) (gt .i64 ((1:Int)+(gt .i64 v3)))) fun v4=>
   ne (b9 c0.2.2 (gt .i64 ((1:Int)+(gt .i64 v3)))) fun v5=>
   ne (@toBy v5) fun (v6:(List UInt8))=>
   some ((v4,(v6,(0:Int))))
theorem yJ (c0:Int×(Int×(List Int))):(runK C8 (aof N) 400 33 [qz2] [(.sl (.int .u8)),.str,(.int .i64)] (c0,())).run=jT N c0:=by kernel_rfl
noncomputable def aoe:ET:=eFn (aof N) 33 [qz2] [(.sl (.int .u8)),.str,(.int .i64)] fun c=>jT N c.1
theorem abM:OkE (aoe N):=aFn (aiH N) (by kernel_rfl) fun c=>yJ N c.1
noncomputable def jU:LI:=⟨27,0,[],⟨[(0,.ty (.sl (.pair .str .str))),(1,.ty .str),(4,.lit (.box 0 0)),(6,.ty (.int .i64))],[.box 63 (.pair .str .str)]⟩,[(.ret,⟨[(4,.lit (.box 0 0)),(5,.ty .bool)],[.box 63 (.pair .str .str)]⟩),(.exit 0,⟨[(4,.lit (.box 0 0))],[.box 63 (.pair .str .str)]⟩)]⟩
noncomputable def dR (X:(((List pz2)×pz18)×(pz2×Unit))→Option ((((Bool×Unit)×(pz2×Unit)) ⊕ (Unit×(pz2×Unit)))))(users0:List pz2)(name1:List UInt8)(i6:Int)(h0:List UInt8×(List UInt8)):Option ((((Bool×Unit)×(pz2×Unit)) ⊕ (Unit×(pz2×Unit)))):=
 bif (decide (i6<(users0.length:Int))) then
  ne (getI users0 i6) fun v6=>
  ne (hG N v6.1) fun v7=>
  ne (hG N name1) fun v8=>
  bif (decide (v7=v8)) then
   ne (getI users0 i6) fun v9=>
   some ((.inl ((true,()),(v9,()))))
  else
   (X ((users0,(name1,((gt .i64 (i6+1)),()))),(h0,())))
 else
  some ((.inr ((),(h0,()))))
noncomputable def oX (c:(((List pz2)×pz18)×(pz2×Unit))):Option ((((Bool×Unit)×(pz2×Unit)) ⊕ (Unit×(pz2×Unit)))):=gl (fun X c=>dR N X c.1.1 c.1.2.1 c.1.2.2.1 c.2.1) N c
theorem uU (X:(((List pz2)×pz18)×(pz2×Unit))→Option ((((Bool×Unit)×(pz2×Unit)) ⊕ (Unit×(pz2×Unit)))))(users0:List pz2)(name1:List UInt8)(i6:Int)(h0:List UInt8×(List UInt8)):(aq C8 (aoe N) 400 [59] jU (ao C8 [59] 2) X ((users0,name1,i6,()),(h0,()))).run=dR N X users0 name1 i6 h0:=by kernel_rfl
noncomputable def aod:(R:Type)→Env R:=Du (aoe N) [59] 0 2 (fun R=>lpK C8 jU (fun X c=>dR N X c.1.1 c.1.2.1 c.1.2.2.1 c.2.1) N)
theorem aiG (R:Type):EnvOK C8 (aod N R):=Dk (abM N R) (by kernel_rfl) (aw (li:=jU) hmx (abM N _) (by kernel_rfl) ab (fun X c=>uU N X c.1.1 c.1.2.1 c.1.2.2.1 c.2.1) N)
noncomputable def ms (users0:List pz2)(name1:List UInt8):Option (pz2×Bool):=
 ne (oX N ((users0,(name1,(0,()))),(((C5 (C6 ([]:List UInt8))),(C5 (C6 ([]:List UInt8)))),()))) fun v3=>
 Sum.elim
  (fun (v4:((Bool×Unit)×(pz2×Unit)))=>
  some ((v4.2.1,v4.1.1)))
  (fun (v4:(Unit×(pz2×Unit)))=>
  some ((((C5 (C6 ([]:List UInt8))),(C5 (C6 ([]:List UInt8)))),false))) v3
theorem AQ (users0:List pz2)(name1:List UInt8):(runK C8 (aod N) 400 59 [(.sl (.pair .str .str)),.str] [(.pair .str .str),.bool] (users0,name1,())).run=ms N users0 name1:=by kernel_rfl
noncomputable def asO:ET:=eFn (aod N) 59 [(.sl (.pair .str .str)),.str] [(.pair .str .str),.bool] fun c=>ms N c.1 c.2.1
theorem aiF:OkE (asO N):=aFn (aiG N) (by kernel_rfl) fun c=>AQ N c.1 c.2.1
noncomputable def aoc:ET:=Di (asO N) [(30,0)]
theorem aiE:OkE (aoc N):=fun R=>Dc (aiF N R) [(30,0)]
noncomputable def jE (x0:List UInt8×pz1):Option (List pz5):=
 ne (mr N (1:Int) x0.2.2.2.1 x0.2.2.2.2.1.l x0.1) fun v2=>
 some (([v2]:List (pz5)))
theorem AN (x0:List UInt8×pz1):(runK C8 (aoc N) 400 30 [qz1] [(.sl qz2)] (x0,())).run=jE N x0:=by kernel_rfl
noncomputable def aob:ET:=eFn (aoc N) 30 [qz1] [(.sl qz2)] fun c=>jE N c.1
theorem aiD:OkE (aob N):=aFn (aiE N) (by kernel_rfl) fun c=>AN N c.1
noncomputable def dQ (x0:List UInt8×pz1)(challenge1:Arr Int 16):Option ((List UInt8×pz1)×List pz5):=
 bif (!(decide (x0.2.2.1=0))) then
  some ((x0,([]:List (pz5))))
 else
  ne (jE N (x0.1,(x0.2.1,(1,((gt .u8 (x0.2.2.2.1+1)),(challenge1,(1,(3,x0.2.2.2.2.2.2.2)))))))) fun v3=>
  some (((x0.1,(x0.2.1,(1,((gt .u8 (x0.2.2.2.1+1)),(challenge1,(1,(3,x0.2.2.2.2.2.2.2))))))),v3))
theorem yI (x0:List UInt8×pz1)(challenge1:Arr Int 16):(runK C8 (aob N) 400 12 [qz1,(.arr 16 (.int .u8))] [qz1,(.sl qz2)] (x0,challenge1,())).run=dQ N x0 challenge1:=by kernel_rfl
noncomputable def aoa:ET:=eFn (aob N) 12 [qz1,(.arr 16 (.int .u8))] [qz1,(.sl qz2)] fun c=>dQ N c.1 c.2.1
theorem aiC:OkE (aoa N):=aFn (aiD N) (by kernel_rfl) fun c=>yI N c.1 c.2.1
noncomputable def dt (x0:List UInt8×pz1):Option ((List UInt8×pz1)×List pz5):=
 bif (!(decide (x0.2.2.1=1))) then
  some ((x0,([]:List (pz5))))
 else
  bif (decide ((0:Int)<(gt .i64 (x0.2.2.2.2.2.2.1-1)))) then
   some (((x0.1,(x0.2.1,(x0.2.2.1,(x0.2.2.2.1,(x0.2.2.2.2.1,(x0.2.2.2.2.2.1,((gt .i64 (x0.2.2.2.2.2.2.1-1)),x0.2.2.2.2.2.2.2))))))),([]:List (pz5))))
  else
   bif (decide (x0.2.2.2.2.2.1=5)) then
    some (((x0.1,(x0.2.1,(3,(x0.2.2.2.1,(x0.2.2.2.2.1,(x0.2.2.2.2.2.1,((gt .i64 (x0.2.2.2.2.2.2.1-1)),x0.2.2.2.2.2.2.2))))))),([]:List (pz5))))
   else
    ne (jE N (x0.1,(x0.2.1,(x0.2.2.1,(x0.2.2.2.1,(x0.2.2.2.2.1,((gt .i64 (x0.2.2.2.2.2.1+1)),(3,x0.2.2.2.2.2.2.2)))))))) fun v2=>
    some (((x0.1,(x0.2.1,(x0.2.2.1,(x0.2.2.2.1,(x0.2.2.2.2.1,((gt .i64 (x0.2.2.2.2.2.1+1)),(3,x0.2.2.2.2.2.2.2))))))),v2))
theorem AO (x0:List UInt8×pz1):(runK C8 (aoa N) 400 14 [qz1] [qz1,(.sl qz2)] (x0,())).run=dt N x0:=by kernel_rfl
noncomputable def asN:ET:=eFn (aoa N) 14 [qz1] [qz1,(.sl qz2)] fun c=>dt N c.1
theorem aiB:OkE (asN N):=aFn (aiC N) (by kernel_rfl) fun c=>AO N c.1
noncomputable def an9:ET:=Di (asN N) [(35,0)]
theorem aiA:OkE (an9 N):=fun R=>Dc (aiB N R) [(35,0)]
noncomputable def eQ (x0:List UInt8×pz1)(peer1:Arr Int 16)(response2:Arr Int 24)(name3:List UInt8):Option ((Arr Int 16)×Bool):=
 ne (ms N x0.2.1 name3) fun v5=>
 ne (qg N v5.1.2) fun v6=>
 ne (bif (!v5.2) then
   some (true)
  else
   some ((cond false true (!(decide (v6.2=0)))))) fun (v7:Bool)=>
 bif v7 then
  some ((zc16,false))
 else
  ne (bR N peer1 x0.2.2.2.2.1 name3) fun v8=>
  ne (en N v8 v6.1) fun v9=>
  bif ((wfB (.arr 24 (.int .u8)) v9)&&(wfB (.arr 24 (.int .u8)) response2)) then
   some ((v6.1,(@Decidable.decide (@Eq (Arr Int 24) v9 response2) (@decT (.arr 24 (.int .u8)) v9 response2))))
  else
   none
theorem yH (x0:List UInt8×pz1)(peer1:Arr Int 16)(response2:Arr Int 24)(name3:List UInt8):(runK C8 (an9 N) 400 35 [qz1,(.arr 16 (.int .u8)),(.arr 24 (.int .u8)),.str] [(.arr 16 (.int .u8)),.bool] (x0,peer1,response2,name3,())).run=eQ N x0 peer1 response2 name3:=by kernel_rfl
noncomputable def an8:ET:=eFn (an9 N) 35 [qz1,(.arr 16 (.int .u8)),(.arr 24 (.int .u8)),.str] [(.arr 16 (.int .u8)),.bool] fun c=>eQ N c.1 c.2.1 c.2.2.1 c.2.2.2.1
theorem aiz:OkE (an8 N):=aFn (aiA N) (by kernel_rfl) fun c=>yH N c.1 c.2.1 c.2.2.1 c.2.2.2.1
noncomputable def ce (x0:List UInt8×pz1)(c1:Int×(Int×(List Int))):Option ((List UInt8×pz1)×List pz5):=
 ne (bif (!(decide (c1.1=2))) then
   some (true)
  else
   some ((cond false true (!(decide (c1.2.1=x0.2.2.2.1)))))) fun (v3:Bool)=>
 ne (bif v3 then
   some (true)
  else
   some ((cond false true (decide (x0.2.2.1=0))))) fun (v4:Bool)=>
 bif v4 then
  some ((x0,([]:List (pz5))))
 else
  bif (!(decide (x0.2.2.1=1))) then
   some ((x0,x0.2.2.2.2.2.2.2.2.2))
  else
   ne (jT N c1) fun v5=>
   ne (j0 N v5.1) fun v6=>
   ne (bif (!(decide (v5.2.2=0))) then
     some (true)
    else
     some ((cond false true (!(decide (v6.2.2=0)))))) fun (v7:Bool)=>
   bif v7 then
    some ((x0,([]:List (pz5))))
   else
    ne (eQ N x0 v6.1 v6.2.1 v5.2.1) fun v8=>
    bif (!v8.2) then
     ne (jG N (691,(false,(x0.2.2.2.2.1,(C5 (C6 ([78,111]:List UInt8))))))) fun v9=>
     some (((x0.1,(x0.2.1,(3,(x0.2.2.2.1,(x0.2.2.2.2.1,(x0.2.2.2.2.2.1,(x0.2.2.2.2.2.2.1,(x0.2.2.2.2.2.2.2.1,(x0.2.2.2.2.2.2.2.2.1,([(4,(c1.2.1,v9.1))]:List (pz5))))))))))),([(4,(c1.2.1,v9.1))]:List (pz5))))
    else
     ne (bR N v6.1 x0.2.2.2.2.1 v5.2.1) fun v9=>
     ne (iI N v8.1 v6.2.1 v9) fun v10=>
     ne (jF N v8.1 v6.2.1) fun v11=>
     ne (gB N v10 (C5 (C6 ([87,101,108,99,111,109,101]:List UInt8)))) fun v12=>
     some (((x0.1,(x0.2.1,(2,(x0.2.2.2.1,(x0.2.2.2.2.1,(x0.2.2.2.2.2.1,(x0.2.2.2.2.2.2.1,(v5.2.1,(v11,([(3,(c1.2.1,v12))]:List (pz5))))))))))),([(3,(c1.2.1,v12))]:List (pz5))))
theorem AP (x0:List UInt8×pz1)(c1:Int×(Int×(List Int))):(runK C8 (an8 N) 400 17 [qz1,qz2] [qz1,(.sl qz2)] (x0,c1,())).run=ce N x0 c1:=by kernel_rfl
noncomputable def asM:ET:=eFn (an8 N) 17 [qz1,qz2] [qz1,(.sl qz2)] fun c=>ce N c.1 c.2.1
theorem aiy:OkE (asM N):=aFn (aiz N) (by kernel_rfl) fun c=>AP N c.1 c.2.1
noncomputable def an7:ET:=Env.addMv (asM N) [(7,5)]
theorem abL:OkE (an7 N):=fun R=>EnvOK.addMv (aiy N R) [(7,5)]
noncomputable def jo:LI:=⟨18,0,[(3,64)],⟨[(3,.lit (.own 0)),(6,.ty (.sl (.pair .str .str))),(7,.ty (.int .i64)),(8,.ty (.int .i64))],[.own (.pair .str .str) 64]⟩,[(.exit 0,⟨[(3,.lit (.own 0))],[.own (.pair .str .str) 64]⟩)]⟩
noncomputable def eA (N:Nat)(X:(pz33×((List pz2)×Unit))→Option ((Unit×((List pz2)×Unit))))(x6:List pz2)(x7:Int)(x8:Int)(h0:List pz2):Option ((Unit×((List pz2)×Unit))):=
 bif (decide (x8<x7)) then
  ne (getI x6 x8) fun v6=>
  bif (ae ((C7 h0)+(C7 ([v6]:List (pz2)))) 32) then
   (X ((x6,(x7,((gt .i64 (x8+1)),()))),((h0++([v6]:List (pz2))),())))
  else
   none
 else
  some (((),(h0,())))
noncomputable def oI (c:(pz33×((List pz2)×Unit))):Option ((Unit×((List pz2)×Unit))):=gl (fun X c=>eA N X c.1.1 c.1.2.1 c.1.2.2.1 c.2.1) N c
theorem ub (X:(pz33×((List pz2)×Unit))→Option ((Unit×((List pz2)×Unit))))(x6:List pz2)(x7:Int)(x8:Int)(h0:List pz2):(aq C8 (an7 N) 400 [7] jo (ao C8 [7] 3) X ((x6,x7,x8,()),(h0,()))).run=eA N X x6 x7 x8 h0:=by kernel_rfl
noncomputable def an5:(R:Type)→Env R:=Du (an7 N) [7] 0 3 (fun R=>lpK C8 jo (fun X c=>eA N X c.1.1 c.1.2.1 c.1.2.2.1 c.2.1) N)
theorem aix (R:Type):EnvOK C8 (an5 N R):=Dk (abL N R) (by kernel_rfl) (aw (li:=jo) hmx (abL N _) (by kernel_rfl) ab (fun X c=>ub N X c.1.1 c.1.2.1 c.1.2.2.1 c.2.1) N)
noncomputable def kC (l0:List pz2):Option (List pz2):=
 ne (oI N ((l0,((l0.length:Int),(0,()))),(([]:List (pz2)),()))) fun v2=>
 some (v2.2.1)
theorem zo (l0:List pz2):(runK C8 (an5 N) 400 7 [(.sl (.pair .str .str))] [(.sl (.pair .str .str))] (l0,())).run=kC N l0:=by kernel_rfl
noncomputable def an4:ET:=eFn (an5 N) 7 [(.sl (.pair .str .str))] [(.sl (.pair .str .str))] fun c=>kC N c.1
theorem abK:OkE (an4 N):=aFn (aix N) (by kernel_rfl) fun c=>zo N c.1
noncomputable def lR:LI:=⟨29,0,[],⟨[(0,.ty (.sl (.pair .str .str))),(9,.ty (.sl (.pair .str .str))),(10,.ty (.int .i64)),(11,.ty (.int .i64))],[]⟩,[(.ret,⟨[(2,.ty .bool)],[]⟩),(.exit 0,⟨[(0,.ty (.sl (.pair .str .str)))],[]⟩)]⟩
noncomputable def dN (N:Nat)(X:(((List pz2)×pz33)×Unit)→Option ((((Bool×Unit)×Unit) ⊕ (((List pz2)×Unit)×Unit))))(l0:List pz2)(x9:List pz2)(x10:Int)(x11:Int):Option ((((Bool×Unit)×Unit) ⊕ (((List pz2)×Unit)×Unit))):=
 bif (decide (x11<x10)) then
  ne (getI x9 x11) fun v6=>
  bif (decide ((200:Int)<(v6.1.length:Int))) then
   some ((.inl ((true,()),())))
  else
   ne (some ((cond false true (decide ((300:Int)<(v6.2.length:Int)))))) fun (v7:Bool)=>
   bif v7 then
    some ((.inl ((true,()),())))
   else
    (X ((l0,(x9,(x10,((gt .i64 (x11+1)),())))),()))
 else
  some ((.inr ((l0,()),())))
noncomputable def qH (c:(((List pz2)×pz33)×Unit)):Option ((((Bool×Unit)×Unit) ⊕ (((List pz2)×Unit)×Unit))):=gl (fun X c=>dN N X c.1.1 c.1.2.1 c.1.2.2.1 c.1.2.2.2.1) N c
theorem xc (X:(((List pz2)×pz33)×Unit)→Option ((((Bool×Unit)×Unit) ⊕ (((List pz2)×Unit)×Unit))))(l0:List pz2)(x9:List pz2)(x10:Int)(x11:Int):(aq C8 (an4 N) 400 [4] lR (ao C8 [4] 2) X ((l0,x9,x10,x11,()),())).run=dN N X l0 x9 x10 x11:=by kernel_rfl
noncomputable def an3:(R:Type)→Env R:=Du (an4 N) [4] 0 2 (fun R=>lpK C8 lR (fun X c=>dN N X c.1.1 c.1.2.1 c.1.2.2.1 c.1.2.2.2.1) N)
theorem aiw (R:Type):EnvOK C8 (an3 N R):=Dk (abK N R) (by kernel_rfl) (aw (li:=lR) hmx (abK N _) (by kernel_rfl) ab (fun X c=>xc N X c.1.1 c.1.2.1 c.1.2.2.1 c.1.2.2.2.1) N)
noncomputable def iP (l0:List pz2):Option Bool:=
 ne (cR l0 (@minI (l0.length:Int) (10:Int))) fun v2=>
 ne (qH N ((l0,(v2,((v2.length:Int),(0,())))),())) fun v3=>
 Sum.elim
  (fun (v4:((Bool×Unit)×Unit))=>
  some (v4.1.1))
  (fun (v4:(((List pz2)×Unit)×Unit))=>
  some ((decide ((10:Int)<(v4.1.1.length:Int))))) v3
theorem aad (l0:List pz2):(runK C8 (an3 N) 400 4 [(.sl (.pair .str .str))] [.bool] (l0,())).run=iP N l0:=by kernel_rfl
noncomputable def asL:ET:=eFn (an3 N) 4 [(.sl (.pair .str .str))] [.bool] fun c=>iP N c.1
theorem aiv:OkE (asL N):=aFn (aiw N) (by kernel_rfl) fun c=>aad N c.1
noncomputable def an2:ET:=Di (asL N) [(18,0)]
theorem aiu:OkE (an2 N):=fun R=>Dc (aiv N R) [(18,0)]
noncomputable def nq (N:Nat)(x0:List UInt8×pz0):Option Int:=
 some (x0.2.2.1)
theorem ri (x0:List UInt8×pz0):(runK C8 (an2 N) 400 18 [qz0] [(.int .i64)] (x0,())).run=nq N x0:=by kernel_rfl
noncomputable def asK:ET:=eFn (an2 N) 18 [qz0] [(.int .i64)] fun c=>nq N c.1
theorem ait:OkE (asK N):=aFn (aiu N) (by kernel_rfl) fun c=>ri N c.1
noncomputable def an1:ET:=Di (asK N) [(19,0)]
theorem ais:OkE (an1 N):=fun R=>Dc (ait N R) [(19,0)]
noncomputable def oJ (N:Nat)(x0:List UInt8×pz0):Option (List UInt8):=
 some (x0.2.2.2.2.2.2.2.2.2.1)
theorem sk (x0:List UInt8×pz0):(runK C8 (an1 N) 400 19 [qz0] [.str] (x0,())).run=oJ N x0:=by kernel_rfl
noncomputable def asJ:ET:=eFn (an1 N) 19 [qz0] [.str] fun c=>oJ N c.1
theorem air:OkE (asJ N):=aFn (ais N) (by kernel_rfl) fun c=>sk N c.1
noncomputable def an0:ET:=Di (asJ N) [(20,0)]
theorem aiq:OkE (an0 N):=fun R=>Dc (air N R) [(20,0)]
noncomputable def pP (N:Nat)(x0:List UInt8×pz0):Option (Arr Int 32):=
 some (x0.2.2.2.2.2.2.2.2.2.2)
theorem tf (x0:List UInt8×pz0):(runK C8 (an0 N) 400 20 [qz0] [(.arr 32 (.int .u8))] (x0,())).run=pP N x0:=by kernel_rfl
noncomputable def anZ:ET:=eFn (an0 N) 20 [qz0] [(.arr 32 (.int .u8))] fun c=>pP N c.1
theorem aip:OkE (anZ N):=aFn (aiq N) (by kernel_rfl) fun c=>tf N c.1
noncomputable def cy:Option Bool:=
 ne (br N ((C5 (C6 ([115]:List UInt8))),(([((C5 (C6 ([117]:List UInt8))),(C5 (C6 ([112]:List UInt8))))]:List (pz2)),(0,(0,(zc16,(0,(0,(([]:List Int),(0,((C5 (C6 ([]:List UInt8))),zc32)))))))))) (@Do Int 15 9 zc15)) fun v1=>
 ne (bif (!(decide ((v1.2.length:Int)=(1:Int)))) then
   some (true)
  else
   ne (getI v1.2 0) fun v2=>
   some ((cond false true (!(decide (v2.1=1)))))) fun (v2:Bool)=>
 ne (bif v2 then
   some (true)
  else
   ne (getI v1.2 0) fun v3=>
   some ((cond false true (!(decide (v3.2.1=1)))))) fun (v3:Bool)=>
 bif v3 then
  some (false)
 else
  ne (de N (@Do Int 15 7 zc15) (@Do Int 15 9 zc15) (C5 (C6 ([117]:List UInt8))) (C5 (C6 ([112]:List UInt8)))) fun v4=>
  ne (iy N (@Do Int 15 7 zc15) v4.1) fun v5=>
  ne (nm N (2:Int) (1:Int) v5 (C5 (C6 ([117]:List UInt8)))) fun v6=>
  ne (aP N v1.1 v6) fun v7=>
  bif (decide (v4.2=0)) then
   ne (some ((cond true (decide ((v7.2.length:Int)=(1:Int))) false))) fun (v8:Bool)=>
   ne (bif v8 then
     ne (getI v7.2 0) fun v9=>
     some ((cond true (decide (v9.1=3)) false))
    else
     some (false)) fun (v9:Bool)=>
   bif v9 then
    ne (some ((cond true (decide (v7.1.2.2.1=2)) false))) fun (v10:Bool)=>
    bif v10 then
     ne (some ((cond true (decide (v7.1.2.2.2.2.2.2.2.2.2.1=(C5 (C6 ([117]:List UInt8))))) false))) fun (v11:Bool)=>
     bif v11 then
      ne (bif ((wfB (.arr 32 (.int .u8)) v7.1.2.2.2.2.2.2.2.2.2.2)&&(wfB (.arr 32 (.int .u8)) zc32)) then
        some ((cond true (!(@Decidable.decide (@Eq (Arr Int 32) v7.1.2.2.2.2.2.2.2.2.2.2 zc32) (@decT (.arr 32 (.int .u8)) v7.1.2.2.2.2.2.2.2.2.2.2 zc32))) false))
       else
        none) fun (v12:Bool)=>
      some (v12)
     else
      some (false)
    else
     some (false)
   else
    some (false)
  else
   some (false)
theorem zp:(runK C8 (anZ N) 400 5 [] [.bool] ()).run=cy N:=by kernel_rfl
noncomputable def asI:ET:=eFn (anZ N) 5 [] [.bool] fun c=>cy N
theorem aio:OkE (asI N):=aFn (aip N) (by kernel_rfl) fun c=>zp N
noncomputable def anY:ET:=Di (asI N) [(16,0)]
theorem ain:OkE (anY N):=fun R=>Dc (aio N R) [(16,0)]
noncomputable def tB (N:Nat)(c0:Int×(Int×(List Int))):Option pz5:=
 some (c0)
theorem xb (c0:Int×(Int×(List Int))):(runK C8 (anY N) 400 16 [qz2] [qz2] (c0,())).run=tB N c0:=by kernel_rfl
noncomputable def anX:ET:=eFn (anY N) 16 [qz2] [qz2] fun c=>tB N c.1
theorem abJ:OkE (anX N):=aFn (ain N) (by kernel_rfl) fun c=>xb N c.1
end
end Go.Proofs.YtolkfnemdejonaaGreatDoor
namespace Go.Proofs.YtolkfnemdejonaaGreatDoor.De
set_option maxRecDepth 100000
open Go.RowKit
set_option linter.unusedVariables false
set_option linter.unusedSimpArgs false
set_option maxRecDepth 100000
variable {N:Nat}
theorem zD (a:Nat)(k:Nat):Dv (a:Int) ((2:Int) ^ k)=((a / 2 ^ k:Nat):Int):=by
 rw [Dy _ (Int.pow_nonneg (by decide))]
 have:((2:Int) ^ k)=((2 ^ k:Nat):Int):=by simp
 rw [this];rfl
theorem asu (l:List Bool)(i:Int)(h1:1≤i)(h2:i≤(l.length:Int))(hl:l.length≤64):sq N (toW l:Int) (l.length:Int) i=some (((l.getD (i.toNat-1) false).toNat:Nat):Int):=by
 obtain ⟨k,rfl⟩:∃ k:Nat,i=k:=⟨i.toNat,by omega⟩
 have c1:decide ((1:Int)≤(l.length:Int))=true:=decide_eq_true (by omega)
 have c2:decide ((l.length:Int)≤64)=true:=decide_eq_true (by omega)
 have c3:decide ((k:Int)<1)=false:=decide_eq_false (by omega)
 have c4:decide ((l.length:Int)<(k:Int))=false:=decide_eq_false (by omega)
 have hw:gt .i64 ((l.length:Int)-(k:Int))=((l.length-k:Nat):Int):=by rw [ac (by omega) (by omega)];omega
 have c5:decide ((0:Int)≤((l.length-k:Nat):Int))=true:=decide_eq_true (by omega)
 have hm:min ((l.length-k:Nat):Int).toNat (Dh .u64)=l.length-k:=by
  show min _ 64=_
  rw [Dd];omega
 have hb:=dK l
 have hp:2 ^ l.length≤2 ^ 64:=Dt (by decide) hl
 have hd:toW l / 2 ^ (l.length-k)<18446744073709551616:=Dz (DF _ _) (by omega)
 have e:bits .and .u64 (((toW l / 2 ^ (l.length-k):Nat)):Int) 1=(((l.getD (k-1) false).toNat:Nat):Int):=by
  rw [show (1:Int)=((1:Nat):Int) from rfl,q64_and _ _ hd (by decide),Nat.and_one_is_mod,alO l k (by omega) (by omega)]
 simp only [sq,lh,c1,c2,c3,c4,hw,c5,hm,zD,cond_true,cond_false,C9,DO]
 rw [e,Dd]
theorem abA (t:List Int)(l:List Bool)(i:Nat)(h:i<t.length):byM (t.take (i+1)) l=byM (t.take i) l++[l.getD (t[i].toNat-1) false]:=by
 unfold byM
 rw [←Df h,DK]
 rfl
theorem ir (l:List Bool)(t:List Int)(hl:l.length≤64)(h1:1≤l.length)(ht:yv l.length t)(hn:t.length≤64)(hN:100≤N):aV N (toW l:Int) (l.length:Int) t=some ((toW (byM t l):Nat):Int):=by
 have c1:decide ((1:Int)≤(l.length:Int))=true:=decide_eq_true (by omega)
 have c2:decide ((l.length:Int)≤64)=true:=decide_eq_true (by omega)
 have c3:decide ((64:Int)<(t.length:Int))=false:=decide_eq_false (by omega)
 have e1:iB N (((toW l:Int),((l.length:Int),(t,(t,((t.length:Int),((0:Int),())))))),())=some (.inr (((toW l:Int),((l.length:Int),(t,()))),())):=by
  unfold iB
  refine cu (fun i=>(((toW l:Int),((l.length:Int),(t,(t,((t.length:Int),((i:Int),())))))),())) t.length _ (fun X i hi=> ?_) (fun X=> ?_) N 0 (Dn _) (by omega)
  ·have d1:decide ((i:Int)<(t.length:Int))=true:=decide_eq_true (by omega)
   have hi2:=ht t[i] (Dw hi)
   have d2:decide (t[i]<(1:Int))=false:=decide_eq_false (by omega)
   have d3:decide ((l.length:Int)<t[i])=false:=decide_eq_false (by omega)
   simp only [eV,d1,d2,d3,cond_true,cond_false,aS t i hi,C9,ac (show -9223372036854775808≤(i:Int)+1 by omega) (show (i:Int)+1<9223372036854775808 by omega),DH,DL]
  ·have d1:decide ((t.length:Int)<(t.length:Int))=false:=decide_eq_false (by omega)
   simp only [eV,d1,cond_false]
 have e2:cf N (((toW l:Int),((l.length:Int),(t,((t.length:Int),((0:Int),()))))),((0:Int),()))=some ((),((toW (byM t l):Int),())):=by
  unfold cf
  have:=cu (G:=fun X c=>aU N X c.1.1 c.1.2.1 c.1.2.2.1 c.1.2.2.2.1 c.1.2.2.2.2.1 c.2.1) (fun i=>(((toW l:Int),((l.length:Int),(t,((t.length:Int),((i:Int),()))))),((toW (byM (t.take i) l):Int),()))) t.length ((),((toW (byM t l):Int),())) (fun X i hi=> ?_) (fun X=> ?_) N 0 (Dn _) (by omega)
  ·exact this
  ·have d1:decide ((i:Int)<(t.length:Int))=true:=decide_eq_true (by omega)
   have hi2:=ht t[i] (Dw hi)
   have hb:=asu (N:=N) l t[i] hi2.1 hi2.2 hl
   have hor:=qk (byM (t.take i) l) [l.getD (t[i].toNat-1) false] (by rw [iA,Dg];simp;omega)
   rw [ad3] at hor
   have hpw:(2:Int) ^ (min (Db (1:Int)) (Dh .u64))=((2 ^ [l.getD (t[i].toNat-1) false].length:Nat):Int):=rfl
   simp only [aU,d1,cond_true,aS t i hi,C9,hb,ac (show -9223372036854775808≤(i:Int)+1 by omega) (show (i:Int)+1<9223372036854775808 by omega),DH,DL]
   rw [hpw,hor,abA t l i hi]
  ·have d1:decide ((t.length:Int)<(t.length:Int))=false:=decide_eq_false (by omega)
   simp only [aU,d1,cond_false,Dq]
 simp only [aV,lk,lh,c1,c2,c3,cond_true,cond_false,C9,DO]
 rw [e1]
 simp only [C9,Sum.elim_inr]
 rw [e2]
 rfl
theorem abb (l:List Bool)(k:Nat)(hk:k≤l.length)(hl:l.length≤64):bits .and .u64 (toW l:Int) (((2 ^ k-1:Nat)):Int)=((toW (l.drop (l.length-k)):Nat):Int):=by
 have hb:=dK l
 have hp:2 ^ l.length≤2 ^ 64:=Dt (by decide) hl
 have hp2:2 ^ k≤2 ^ 64:=Dt (by decide) (by omega)
 have hp3:0<2 ^ k:=Nat.two_pow_pos k
 rw [q64_and _ _ (by omega) (by omega),Nat.and_two_pow_sub_one_eq_mod]
 have:=yp l (l.length-k) (by omega)
 rw [show l.length-(l.length-k)=k by omega] at this
 rw [this]
def rot (n:Nat)(c:List Bool):List Bool:=c.drop n++c.take n
theorem al1 (n:Nat)(c:List Bool):(rot n c).length=c.length:=by simp [rot];omega
def amt (i:Nat):Nat:=if i=1∨i=2∨i=9∨i=16 then 1 else 2
theorem Cg (x:Int)(i:Nat)(h1:1≤i)(h2:i≤16)(hN:100≤N):kI N ((x,((i:Int),((2:Int),((⟨[1,2,9,16],rfl⟩:Arr Int 4),((0:Int),()))))),())=some ((x,((amt i:Int),())),()):=by
 obtain ⟨M,rfl⟩:∃ M,N=M+5:=⟨N-5,by omega⟩
 have:i=1∨i=2∨i=3∨i=4∨i=5∨i=6∨i=7∨i=8∨i=9∨i=10∨i=11∨i=12∨i=13∨i=14∨i=15∨i=16:=by omega
 rcases this with rfl | rfl | rfl | rfl | rfl | rfl | rfl | rfl | rfl | rfl | rfl | rfl | rfl | rfl | rfl | rfl <;> rfl
theorem arn (c:List Bool)(n:Nat)(hn:n=1∨n=2)(hc:c.length=28):ns N (toW c:Int) (28:Int) (n:Int)=some ((toW (rot n c):Int),0):=by
 have l1:=abb c 28 (by omega) (by omega)
 have hdr:c.drop (c.length-28)=c:=by rw [hc];rfl
 rw [hdr] at l1
 have l2:=abb c (28-n) (by omega) (by omega)
 rw [hc,show 28-(28-n)=n by omega] at l2
 have l3:=uA c n (by omega)
 rw [hc] at l3
 have l4:=qk (c.drop n) (c.take n) (by simp;omega)
 have l5:(c.take n).length=n:=by simp;omega
 rw [l5] at l4
 have f:=zD (toW c) (28-n)
 rw [l3] at f
 rcases hn with rfl | rfl
 ·have e:ns N (toW c:Int) (28:Int) ((1:Nat):Int)=some (bits .or .u64 (gt .u64 (bits .and .u64 (bits .and .u64 (toW c:Int) (((2 ^ 28-1:Nat)):Int)) (((2 ^ (28-1)-1:Nat)):Int)*((2 ^ 1:Nat):Int))) (Dv (bits .and .u64 (toW c:Int) (((2 ^ 28-1:Nat)):Int)) ((2:Int) ^ (28-1))),0):=rfl
  rw [e,l1,l2,f,l4];rfl
 ·have e:ns N (toW c:Int) (28:Int) ((2:Nat):Int)=some (bits .or .u64 (gt .u64 (bits .and .u64 (bits .and .u64 (toW c:Int) (((2 ^ 28-1:Nat)):Int)) (((2 ^ (28-2)-1:Nat)):Int)*((2 ^ 2:Nat):Int))) (Dv (bits .and .u64 (toW c:Int) (((2 ^ 28-1:Nat)):Int)) ((2:Int) ^ (28-2))),0):=rfl
  rw [e,l1,l2,f,l4];rfl
theorem Am (c:List Bool)(i:Nat)(h1:1≤i)(h2:i≤16)(hc:c.length=28)(hN:100≤N):gu N (toW c:Int) (i:Int)=some (toW (rot (amt i) c):Int):=by
 have e:=Cg (N:=N) (toW c:Int) i h1 h2 hN
 have hn:amt i=1∨amt i=2:=by unfold amt;split <;> simp
 unfold gu
 rw [show (kI N _)=_ from e]
 simp only [C9]
 rw [arn c (amt i) hn hc]
 rfl
end Go.Proofs.YtolkfnemdejonaaGreatDoor.De
namespace Go.Proofs.YtolkfnemdejonaaGreatDoor.De
set_option maxRecDepth 100000
open Go.RowKit
set_option linter.unusedVariables false
set_option linter.unusedSimpArgs false
set_option maxRecDepth 100000
variable {N:Nat}
theorem ot:∀ (w x:Nat),aQ (w+1) x=decide (x / 2 ^ w % 2=1)::aQ w x
 | 0,x=>by simp [aQ]
 | w+1,x=>by
  rw [aQ,ot w (x / 2),aQ,DC,←Nat.pow_succ']
  rfl
theorem aeo (k:Nat)(L:List Int)(v:Int):(Da (k+1) (0:Int)++L).set k v=Da k 0++v::L:=by
 rw [List.replicate_succ',DJ,List.set_append_right _ _ (by simp)]
 simp
theorem alX (A:List Int)(k:Nat)(v:Int):(A++Da (k+1) (0:Int)).set A.length v=A++v::Da k 0:=by
 rw [List.replicate_succ,List.set_append_right _ _ (Nat.le_refl _)]
 simp
theorem bitI (a:Nat):((a % 2:Nat):Int)=(((decide (a % 2=1)).toNat:Nat):Int):=by
 rcases Nat.mod_two_eq_zero_or_one a with h | h <;> simp [h]
theorem ar9 (y:Nat)(hy:y<18446744073709551616):gt .u64 (Int.tdiv (y:Int) 2)=((y / 2:Nat):Int):=by
 rw [DE (DQ _),aR (by omega) (by omega)];omega
theorem mod8 (y:Nat):gt .u8 (DI (y:Int) 2)=((y % 2:Nat):Int):=by
 rw [Dm (DQ _),Ae (by omega) (by omega)];omega
theorem aaV (x w:Nat)(hx:x<18446744073709551616)(hw:w≤64)(hN:100≤N):dE N (x:Int) (w:Int)=some (rI (aQ w x)):=by
 have c1:decide ((0:Int)≤(w:Int)∧(w:Int)≤(w:Int))=true:=decide_eq_true (by omega)
 have c2:ae w 1=true:=aH (by have:=aL;omega) (by omega)
 have e1:lA N (((x:Int),((gt .i64 ((w:Int)-1)),())),(Da w (0:Int),()))=some ((),(rI (aQ w x),())):=by
  unfold lA
  have:=cu (G:=fun X c=>f9 N X c.1.1 c.1.2.1 c.2.1) (fun i=>((((x / 2 ^ i:Nat):Int),((w:Int)-1-(i:Int),())),(Da (w-i) (0:Int)++rI (aQ i x),()))) w ((),(rI (aQ w x),())) (fun X i hi=> ?_) (fun X=> ?_) N 0 (Dn _) (by omega)
  ·rw [ac (by omega) (by omega)]
   simpa [aQ,rI] using this
  ·have d1:decide ((0:Int)≤(w:Int)-1-(i:Int))=true:=decide_eq_true (by omega)
   have hlen:(Da (w-i) (0:Int)++rI (aQ i x)).length=w:=by simp [bU,cW];omega
   have d2:decide ((0:Int)≤(w:Int)-1-(i:Int)∧(w:Int)-1-(i:Int)<((Da (w-i) (0:Int)++rI (aQ i x)).length:Int))=true:=decide_eq_true (by rw [hlen];omega)
   have ht:((w:Int)-1-(i:Int)).toNat=w-i-1:=by omega
   have hg:(Da (w-i) (0:Int)++rI (aQ i x))[w-i-1]? =some (Da (w-i) (0:Int)++rI (aQ i x))[w-i-1]:=List.getElem?_eq_getElem (by rw [hlen];omega)
   have h1:gt .u64 (Int.tdiv ((x / 2 ^ i:Nat):Int) 2)=((x / 2 ^ (i+1):Nat):Int):=by
    rw [ar9 _ (Dz (DF _ _) hx),Nat.pow_succ,←DC]
   have h2:gt .u8 (DI ((x / 2 ^ i:Nat):Int) 2)=(((decide (x / 2 ^ i % 2=1)).toNat:Nat):Int):=by
    rw [mod8,←bitI]
   have h3:(Da (w-i) (0:Int)++rI (aQ i x)).set (w-i-1) ((((decide (x / 2 ^ i % 2=1)).toNat:Nat):Int))=Da (w-(i+1)) (0:Int)++rI (aQ (i+1) x):=by
    obtain ⟨k,hk⟩:∃ k,w-i=k+1:=⟨w-i-1,by omega⟩
    rw [hk,show k+1-1=k by omega,aeo,show w-(i+1)=k by omega,ot]
    rfl
   simp only [f9,d1,d2,cond_true,ht,hg,C9,h1,h2,h3,ac (show -9223372036854775808≤(w:Int)-1-(i:Int)-1 by omega) (show (w:Int)-1-(i:Int)-1<9223372036854775808 by omega)]
   rw [show (w:Int)-1-(i:Int)-1=(w:Int)-1-((i+1:Nat):Int) by omega]
  ·have d1:decide ((0:Int)≤(w:Int)-1-(w:Int))=false:=decide_eq_false (by omega)
   simp only [f9,d1,cond_false,Nat.sub_self,List.replicate_zero,List.nil_append]
 simp only [dE,c1,Dd,c2,Bool.and_true,cond_true,e1,C9]
theorem zt (l:List Bool)(i:Nat)(h:i<l.length):getI (rI l) (i:Int)=some (((l[i]).toNat:Nat):Int):=by
 rw [aS _ i (by rw [bU];exact h)];simp [rI]
theorem word_ok (l:List Bool)(hl:l.length≤64)(hN:100≤N):f8 N (rI l)=some ((toW l:Nat):Int):=by
 have e1:kp N ((rI l,((0:Int),((0:Int),()))),())=some (((toW l:Int),()),()):=by
  unfold kp
  have:=cu (G:=fun X c=>fb N X c.1.1 c.1.2.1 c.1.2.2.1) (fun i=>((rI l,(((toW (l.take i):Nat):Int),((i:Int),()))),())) l.length (((toW l:Int),()),()) (fun X i hi=> ?_) (fun X=> ?_) N 0 (Dn _) (by omega)
  ·exact this
  ·have d1:decide ((i:Int)<((rI l).length:Int))=true:=decide_eq_true (by rw [bU];omega)
   have hb:=dK (l.take i)
   rw [Dg,Nat.min_eq_left (by omega)] at hb
   have hp:2 ^ i≤2 ^ 63:=Dt (by decide) (by omega)
   have hbt:l[i].toNat≤1:=by cases l[i] <;> simp
   have h1:gt .u64 ((2:Int)*((toW (l.take i):Nat):Int))=(2:Int)*((toW (l.take i):Nat):Int):=aR (by omega) (by omega)
   have h2:gt .u64 (((l[i]).toNat:Nat):Int)=(((l[i]).toNat:Nat):Int):=aR (by omega) (by omega)
   have h3:gt .u64 ((2:Int)*((toW (l.take i):Nat):Int)+(((l[i]).toNat:Nat):Int))=((toW (l.take (i+1)):Nat):Int):=by
    rw [aR (by omega) (by omega),←Df hi,gy];omega
   simp only [fb,d1,cond_true,zt l i hi,C9,h1,h2,h3,ac (show -9223372036854775808≤(i:Int)+1 by omega) (show (i:Int)+1<9223372036854775808 by omega),DH,DL]
  ·have d1:decide ((l.length:Int)<((rI l).length:Int))=false:=decide_eq_false (by rw [bU];omega)
   simp only [fb,d1,cond_false,Dq]
 simp only [f8,e1,C9]
theorem adF (l:List Bool)(t:List Int)(ht:yv l.length t)(hl:l.length≤90)(hn:t.length≤90)(hN:100≤N):cP N (rI l) t=some (rI (byM t l)):=by
 have e1:nC N ((rI l,(t,((0:Int),()))),([],()))=some ((),(rI (byM t l),())):=by
  unfold nC
  have:=cu (G:=fun X c=>hU N X c.1.1 c.1.2.1 c.1.2.2.1 c.2.1) (fun i=>((rI l,(t,((i:Int),()))),(rI (byM (t.take i) l),()))) t.length ((),(rI (byM t l),())) (fun X i hi=> ?_) (fun X=> ?_) N 0 (Dn _) (by omega)
  ·exact this
  ·have d1:decide ((i:Int)<(t.length:Int))=true:=decide_eq_true (by omega)
   have hi2:=ht t[i] (Dw hi)
   obtain ⟨k,hk⟩:∃ k:Nat,t[i]=(k:Int)+1:=⟨t[i].toNat-1,by omega⟩
   have hkl:k<l.length:=by omega
   have hw:gt .i64 (t[i]-1)=(k:Int):=by rw [ac (by omega) (by omega)];omega
   have hr:ae ((rI (byM (t.take i) l)).length+[(((l[k]).toNat:Nat):Int)].length) 1=true:=by
    have hl2:(rI (byM (t.take i) l)).length≤90:=by rw [bU,iA,Dg];omega
    simp only [DA,DM]
    exact aH (by have:=aL;omega) (by omega)
   have hs:rI (byM (t.take i) l)++[(((l[k]).toNat:Nat):Int)]=rI (byM (t.take (i+1)) l):=by
    rw [abA t l i hi,iM]
    have:t[i].toNat-1=k:=by omega
    rw [this,List.getD_eq_getElem?_getD,List.getElem?_eq_getElem hkl]
    rfl
   simp only [hU,d1,cond_true,aS t i hi,C9,hw,zt l k hkl,hr,hs,ac (show -9223372036854775808≤(i:Int)+1 by omega) (show (i:Int)+1<9223372036854775808 by omega),DH,DL]
  ·have d1:decide ((t.length:Int)<(t.length:Int))=false:=decide_eq_false (by omega)
   simp only [hU,d1,cond_false,Dq]
 simp only [cP,e1,C9]
theorem adT (a b:List Bool)(i:Nat)(ha:i<a.length)(hb:i<b.length):xorL (a.take (i+1)) (b.take (i+1))=xorL (a.take i) (b.take i)++[xor a[i] b[i]]:=by
 unfold xorL
 rw [←Df ha,←Df hb,List.zipWith_append (by simp;omega)]
 rfl
theorem at4 (x y:Bool):bits .xor .u8 ((x.toNat:Nat):Int) ((y.toNat:Nat):Int)=(((xor x y).toNat:Nat):Int):=by
 cases x <;> cases y <;> decide +kernel
theorem aaU (a b:List Bool)(hab:a.length=b.length)(ha:a.length≤90)(hN:100≤N):fX N (rI a) (rI b)=some (rI (xorL a b)):=by
 have e1:hI N ((rI a,(rI b,((0:Int),()))),(Da a.length (0:Int),()))=some ((),(rI (xorL a b),())):=by
  unfold hI
  have:=cu (G:=fun X c=>dx N X c.1.1 c.1.2.1 c.1.2.2.1 c.2.1) (fun i=>((rI a,(rI b,((i:Int),()))),(rI (xorL (a.take i) (b.take i))++Da (a.length-i) (0:Int),()))) a.length ((),(rI (xorL a b),())) (fun X i hi=> ?_) (fun X=> ?_) N 0 (Dn _) (by omega)
  ·simpa [xorL,rI] using this
  ·have d1:decide ((i:Int)<((rI a).length:Int))=true:=decide_eq_true (by rw [bU];omega)
   have hx:(rI (xorL (a.take i) (b.take i))).length=i:=by rw [bU,uj _ _ (by simp;omega)];simp;omega
   have hlen:(rI (xorL (a.take i) (b.take i))++Da (a.length-i) (0:Int)).length=a.length:=by rw [Dj,hx];simp;omega
   have d2:decide ((0:Int)≤(i:Int)∧(i:Int)<((rI (xorL (a.take i) (b.take i))++Da (a.length-i) (0:Int)).length:Int))=true:=decide_eq_true (by rw [hlen];omega)
   have hg:(rI (xorL (a.take i) (b.take i))++Da (a.length-i) (0:Int))[i]? =some (rI (xorL (a.take i) (b.take i))++Da (a.length-i) (0:Int))[i]:=List.getElem?_eq_getElem (by rw [hlen];omega)
   have hib:i<b.length:=by omega
   have h3:(rI (xorL (a.take i) (b.take i))++Da (a.length-i) (0:Int)).set i (((xor a[i] b[i]).toNat:Nat):Int)=rI (xorL (a.take (i+1)) (b.take (i+1)))++Da (a.length-(i+1)) (0:Int):=by
    obtain ⟨k,hk⟩:∃ k,a.length-i=k+1:=⟨a.length-i-1,by omega⟩
    have:=alX (rI (xorL (a.take i) (b.take i))) k (((xor a[i] b[i]).toNat:Nat):Int)
    rw [hx] at this
    rw [hk,this,show a.length-(i+1)=k by omega,adT a b i hi hib,iM,DJ]
    rfl
   simp only [dx,d1,d2,cond_true,zt a i hi,zt b i hib,Dd,hg,C9,at4,h3,ac (show -9223372036854775808≤(i:Int)+1 by omega) (show (i:Int)+1<9223372036854775808 by omega),DH,DL]
  ·have d1:decide ((a.length:Int)<((rI a).length:Int))=false:=decide_eq_false (by rw [bU];omega)
   have hb':b.take a.length=b:=by rw [hab];exact Dq
   simp only [dx,d1,cond_false,Dq,hb',Nat.sub_self,List.replicate_zero,List.append_nil]
 have c1:decide ((0:Int)≤((rI a).length:Int)∧((rI a).length:Int)≤((rI a).length:Int))=true:=decide_eq_true (by omega)
 have c2:ae ((rI a).length:Int).toNat 1=true:=by rw [Dd,bU];exact aH (by have:=aL;omega) (by omega)
 simp only [fX,c1,c2,Bool.and_true,cond_true]
 rw [Dd,bU,e1]
 rfl
end Go.Proofs.YtolkfnemdejonaaGreatDoor.De
namespace Go.Proofs.YtolkfnemdejonaaGreatDoor.De
set_option maxRecDepth 100000
open Go.RowKit
set_option linter.unusedVariables false
set_option linter.unusedSimpArgs false
set_option maxRecDepth 100000
variable {N:Nat}
def ci:List Int:=[58,50,42,34,26,18,10,2,60,52,44,36,28,20,12,4,62,54,46,38,30,22,14,6,64,56,48,40,32,24,16,8,57,49,41,33,25,17,9,1,59,51,43,35,27,19,11,3,61,53,45,37,29,21,13,5,63,55,47,39,31,23,15,7]
def Ap:List Int:=[40,8,48,16,56,24,64,32,39,7,47,15,55,23,63,31,38,6,46,14,54,22,62,30,37,5,45,13,53,21,61,29,36,4,44,12,52,20,60,28,35,3,43,11,51,19,59,27,34,2,42,10,50,18,58,26,33,1,41,9,49,17,57,25]
def gX:List Int:=[32,1,2,3,4,5,4,5,6,7,8,9,8,9,10,11,12,13,12,13,14,15,16,17,16,17,18,19,20,21,20,21,22,23,24,25,24,25,26,27,28,29,28,29,30,31,32,1]
def jb:List Int:=[16,7,20,21,29,12,28,17,1,15,23,26,5,18,31,10,2,8,24,14,32,27,3,9,19,13,30,6,22,11,4,25]
def ja:List Int:=[57,49,41,33,25,17,9,1,58,50,42,34,26,18,10,2,59,51,43,35,27,19,11,3,60,52,44,36,63,55,47,39,31,23,15,7,62,54,46,38,30,22,14,6,61,53,45,37,29,21,13,5,28,20,12,4]
def fp:List Int:=[14,17,11,24,1,5,3,28,15,6,21,10,23,19,12,4,26,8,16,7,27,20,13,2,41,52,31,37,47,55,30,40,51,45,33,48,44,49,39,56,34,53,46,42,50,36,29,32]
theorem aht:ni 200000=some ja:=by kernel_rfl
theorem arg:r8 200000=some gX:=by kernel_rfl
theorem amN:nj 200000=some ci:=by kernel_rfl
theorem ar0:r9 200000=some Ap:=by kernel_rfl
theorem Bl:yv 64 ja:=by decide +kernel
theorem vo:yv 56 fp:=by decide +kernel
theorem aeS:yv 32 gX:=by decide +kernel
theorem Bm:yv 32 jb:=by decide +kernel
theorem aa8:yv 64 ci:=by decide +kernel
theorem aeT:yv 64 Ap:=by decide +kernel
noncomputable def dig (n x:Nat):Nat:=((hP 200000 (n:Int) (rI (aQ 6 x))).getD 0).toNat
theorem afV:∀ n:Nat,n<8→∀ x:Nat,x<64→pK 200000 ((n+1:Nat):Int) (x:Int)=some ((dig (n+1) x:Nat):Int)∧hP 200000 ((n+1:Nat):Int) (rI (aQ 6 x))=some ((dig (n+1) x:Nat):Int)∧dig (n+1) x<16:=by decide +kernel
theorem ang (a m k:Nat)(hm:m<2 ^ k):a&&&m=(a % 2 ^ k)&&&m:=by
 apply Nat.eq_of_testBit_eq
 intro i
 rw [Nat.testBit_and,Nat.testBit_and,Nat.testBit_mod_two_pow]
 rcases Nat.lt_or_ge i k with h | h
 ·simp [h]
 ·have:m.testBit i=false:=Nat.testBit_lt_two_pow (Nat.lt_of_lt_of_le hm (Dt (by decide) h))
  simp [this]
theorem adQ (a m k:Nat)(ha:a<18446744073709551616)(hm:m<2 ^ k)(hk:k≤6):bits .and .u64 (a:Int) (m:Int)=bits .and .u64 ((a % 2 ^ k:Nat):Int) (m:Int):=by
 have hp:2 ^ k≤2 ^ 6:=Dt (by decide) hk
 rw [q64_and _ _ ha (by omega),q64_and _ _ (by have:=Nat.mod_lt a (Nat.two_pow_pos k);omega) (by omega),←ang a m k hm]
theorem am8 (n:Int)(z:Nat)(hz:z<18446744073709551616):pK N n (z:Int)=pK N n ((z % 64:Nat):Int):=by
 have f:∀ (a k:Nat),Dv (a:Int) ((2:Int) ^ (min (Db (k:Int)) (Dh .u64)))=((a / 2 ^ (min k 64):Nat):Int):=fun a k=>by
  rw [Dd];exact zD a _
 have f4:=f z 4
 have f4':=f (z % 64) 4
 have f1:=f z 1
 have f1':=f (z % 64) 1
 have h2:=adQ (z / 2 ^ 4) 2 2 (Dz (DF _ _) hz) (by decide) (by decide)
 have h2':=adQ (z % 64 / 2 ^ 4) 2 2 (by omega) (by decide) (by decide)
 have h15:=adQ (z / 2 ^ 1) 15 4 (Dz (DF _ _) hz) (by decide) (by decide)
 have h15':=adQ (z % 64 / 2 ^ 1) 15 4 (by omega) (by decide) (by decide)
 have h1:=adQ z 1 1 hz (by decide) (by decide)
 have h1':=adQ (z % 64) 1 1 (by omega) (by decide) (by decide)
 rw [show z % 64 / 2 ^ 4 % 2 ^ 2=z / 2 ^ 4 % 2 ^ 2 by omega,←h2] at h2'
 rw [show z % 64 / 2 ^ 1 % 2 ^ 4=z / 2 ^ 1 % 2 ^ 4 by omega,←h15] at h15'
 rw [show z % 64 % 2 ^ 1=z % 2 ^ 1 by omega,←h1] at h1'
 unfold pK
 have e4:Dv (z:Int) ((2:Int) ^ (min (Db (4:Int)) (Dh .u64)))=((z / 2 ^ 4:Nat):Int):=f4
 have e4':Dv ((z % 64:Nat):Int) ((2:Int) ^ (min (Db (4:Int)) (Dh .u64)))=((z % 64 / 2 ^ 4:Nat):Int):=f4'
 have e1:Dv (z:Int) ((2:Int) ^ (min (Db (1:Int)) (Dh .u64)))=((z / 2 ^ 1:Nat):Int):=f1
 have e1':Dv ((z % 64:Nat):Int) ((2:Int) ^ (min (Db (1:Int)) (Dh .u64)))=((z % 64 / 2 ^ 1:Nat):Int):=f1'
 have g2:bits .and .u64 ((z % 64 / 2 ^ 4:Nat):Int) (2:Int)=bits .and .u64 ((z / 2 ^ 4:Nat):Int) (2:Int):=h2'
 have g15:bits .and .u64 ((z % 64 / 2 ^ 1:Nat):Int) (15:Int)=bits .and .u64 ((z / 2 ^ 1:Nat):Int) (15:Int):=h15'
 have g1:bits .and .u64 ((z % 64:Nat):Int) (1:Int)=bits .and .u64 (z:Int) (1:Int):=h1'
 rw [e4,e4',e1,e1',g2,g15,g1]
theorem abs (n:Nat)(hn:n<8)(s:List Bool)(hs:s.length=6):hP 200000 ((n+1:Nat):Int) (rI s)=some ((dig (n+1) (toW s):Nat):Int)∧dig (n+1) (toW s)<16:=by
 have hx:=dK s
 rw [hs] at hx
 have:=afV n hn (toW s) hx
 rw [←hs,th] at this
 exact this.2
theorem afK (n:Nat)(hn:n<8)(s:List Bool)(hs:s.length=6)(z:Nat)(hz:z<18446744073709551616)(h:z % 64=toW s):pK 200000 ((n+1:Nat):Int) (z:Int)=some ((dig (n+1) (toW s):Nat):Int):=by
 have hx:=dK s
 rw [hs] at hx
 rw [am8 _ z hz,h]
 exact (afV n hn (toW s) hx).1
def qv (X:List Bool)(i:Nat):List Bool:=(X.drop (6*i)).take 6
noncomputable def digM (X:List Bool)(i:Nat):List Bool:=(DB i).flatMap fun i=>aQ 4 (dig (i+1) (toW (qv X i)))
theorem vN (X:List Bool)(i:Nat):digM X (i+1)=digM X i++aQ 4 (dig (i+1) (toW (qv X i))):=by
 unfold digM
 rw [List.range_succ,List.flatMap_append]
 simp
theorem rY (X:List Bool):∀ i,(digM X i).length=4*i
 | 0=>rfl
 | i+1=>by rw [vN,Dj,rY X i,cW];omega
theorem vW (X:List Bool)(i:Nat)(hX:X.length=48)(hi:i<8):(qv X i).length=6:=by simp [qv,hX];omega
noncomputable def tH (r k:List Bool):List Bool:=byM jb (digM (xorL (byM gX r) k) 8)
theorem rq (r k:List Bool):(tH r k).length=32:=by rw [tH,iA];rfl
theorem aia (X:List Bool)(z i:Nat)(hX:X.length=48)(hz:z % 2 ^ 48=toW X)(hi:i<8):z / 2 ^ (42-6*i) % 64=toW (qv X i):=by
 have e1:z / 2 ^ (42-6*i) % 2 ^ 6=(z % 2 ^ 48) / 2 ^ (42-6*i) % 2 ^ 6:=by
  have h:=Nat.mod_mul_right_div_self z (2 ^ (42-6*i)) (2 ^ (6+6*i))
  rw [←Nat.pow_add,show 42-6*i+(6+6*i)=48 by omega] at h
  rw [h,Nat.mod_mod_of_dvd]
  exact Nat.pow_dvd_pow 2 (by omega)
 have h1:=uA X (6*i+6) (by omega)
 rw [hX,show 48-(6*i+6)=42-6*i by omega] at h1
 have h2:=yp (X.take (6*i+6)) (6*i) (by rw [Dg];omega)
 rw [Dg,hX,Nat.min_eq_left (by omega),show 6*i+6-6*i=6 by omega] at h2
 rw [show (64:Nat)=2 ^ 6 from rfl,e1,hz,h1,h2,qv,List.drop_take,show 6*i+6-6*i=6 by omega]
theorem adV (X:List Bool)(z:Nat)(hX:X.length=48)(hz:z % 2 ^ 48=toW X)(hzl:z<18446744073709551616)(t:List Int):nW 200000 ((t,((z:Int),((0:Int),((1:Int),())))),())=some ((t,((toW (digM X 8):Int),())),()):=by
 unfold nW
 have:=cu (G:=fun X c=>kH 200000 X c.1.1 c.1.2.1 c.1.2.2.1 c.1.2.2.2.1) (fun i=>((t,((z:Int),(((toW (digM X i):Nat):Int),(((i+1:Nat):Int),())))),())) 8 ((t,((toW (digM X 8):Int),())),()) (fun Y i hi=> ?_) (fun Y=> ?_) 200000 0 (Dn _) (by decide)
 ·exact this
 ·have d1:decide (((i+1:Nat):Int)≤(8:Int))=true:=decide_eq_true (by omega)
  have hw1:gt .i64 ((6:Int)*((i+1:Nat):Int))=(6:Int)*((i+1:Nat):Int):=ac (by omega) (by omega)
  have hw2:gt .i64 ((48:Int)-(6:Int)*((i+1:Nat):Int))=((42-6*i:Nat):Int):=by rw [ac (by omega) (by omega)];omega
  have d2:decide ((0:Int)≤((42-6*i:Nat):Int))=true:=decide_eq_true (by omega)
  have hm:min (42-6*i) (Dh .u64)=42-6*i:=by show min _ 64=_;omega
  have hb:=afK i hi (qv X i) (vW X i hX hi) (z / 2 ^ (42-6*i)) (Dz (DF _ _) hzl) (aia X z i hX hz hi)
  have hd:=(abs i hi (qv X i) (vW X i hX hi)).2
  have hor:=qk (digM X i) (aQ 4 (dig (i+1) (toW (qv X i)))) (by rw [rY,cW];omega)
  rw [aaN hd,←vN,cW] at hor
  have hpw:(2:Int) ^ (min (Db (4:Int)) (Dh .u64))=((2 ^ 4:Nat):Int):=rfl
  have hw3:gt .i64 (((i+1:Nat):Int)+1)=((i+1+1:Nat):Int):=by rw [ac (by omega) (by omega)];omega
  simp only [kH,d1,cond_true,hw1,hw2,d2,Dd,hm,zD,hb,C9,hpw,hor,hw3]
 ·rfl
theorem ard (r k:List Bool)(kk:Nat)(hr:r.length=32)(hk:k.length=48)(hkk:kk<18446744073709551616)(h:kk % 2 ^ 48=toW k):rZ 200000 (toW r:Int) (kk:Int) gX jb=some ((toW (tH r k):Nat):Int):=by
 have hrb:=dK r
 rw [hr] at hrb
 have hw:gt .u64 (toW r:Int)=(toW r:Int):=aR (by omega) (by omega)
 have hp:=ir (N:=200000) r gX (by omega) (by omega) (by rw [hr];exact aeS) (by decide) (by decide)
 rw [hr] at hp
 have hbl:(byM gX r).length=48:=by rw [iA];rfl
 have hbb:=dK (byM gX r)
 rw [hbl] at hbb
 have hX:(xorL (byM gX r) k).length=48:=by rw [uj _ _ (by omega),hbl]
 have hx:=al7 (toW (byM gX r)) kk (by omega) hkk
 have hz:(toW (byM gX r) ^^^ kk) % 2 ^ 48=toW (xorL (byM gX r) k):=by
  rw [Nat.xor_mod_two_pow,h,Nat.mod_eq_of_lt hbb,ad2 _ _ (by omega)]
 have hl:=adV (xorL (byM gX r) k) (toW (byM gX r) ^^^ kk) hX hz (by have:=Nat.xor_lt_two_pow (n:=64) (x:=toW (byM gX r)) (y:=kk) (by omega) (by omega);omega) jb
 have hd:=rY (xorL (byM gX r) k) 8
 have hp2:=ir (N:=200000) (digM (xorL (byM gX r) k) 8) jb (by omega) (by omega) (by rw [hd];exact Bm) (by decide) (by decide)
 rw [hd] at hp2
 have hwb:=dK (tH r k)
 rw [rq] at hwb
 unfold rZ
 rw [hw]
 rw [show aV 200000 (toW r:Int) (32:Int) gX=_ from hp]
 simp only [C9]
 rw [hx,hl]
 simp only [C9]
 rw [show aV 200000 ((toW (digM (xorL (byM gX r) k) 8):Nat):Int) (32:Int) jb=_ from hp2]
 simp only [C9]
 rw [show byM jb (digM (xorL (byM gX r) k) 8)=tH r k from rfl]
 have:gt .u32 ((toW (tH r k):Nat):Int)=((toW (tH r k):Nat):Int):=by rw [IntKind.wrap_u32];omega
 rw [this]
theorem arf (r k:List Bool)(hr:r.length=32)(hk:k.length=48):mA 200000 (rI r) (rI k)=some (rI (tH r k)):=by
 have h1:=adF (N:=200000) r gX (by rw [hr];exact aeS) (by omega) (by decide) (by decide)
 have hbl:(byM gX r).length=48:=by rw [iA];rfl
 have h2:=aaU (N:=200000) (byM gX r) k (by omega) (by omega) (by decide)
 have hX:(xorL (byM gX r) k).length=48:=by rw [uj _ _ (by omega),hbl]
 generalize hXe:xorL (byM gX r) k=X at *
 have h3:j7 200000 ((rI X,((0:Int),())),([],()))=some ((),(rI (digM X 8),())):=by
  unfold j7
  have:=cu (G:=fun X c=>gC 200000 X c.1.1 c.1.2.1 c.2.1) (fun i=>((rI X,((i:Int),())),(rI (digM X i),()))) 8 ((),(rI (digM X 8),())) (fun Y i hi=> ?_) (fun Y=>rfl) 200000 0 (Dn _) (by decide)
  ·exact this
  ·have d1:decide ((i:Int)<(8:Int))=true:=decide_eq_true (by omega)
   have hw1:gt .i64 ((6:Int)*(i:Int))=((6*i:Nat):Int):=by rw [ac (by omega) (by omega)];omega
   have hw2:gt .i64 (((6*i:Nat):Int)+6)=((6*i+6:Nat):Int):=by rw [ac (by omega) (by omega)];omega
   have hs:subI (rI X) ((6*i:Nat):Int) ((6*i+6:Nat):Int)=some (rI (qv X i)):=by
    rw [iE (rI X) rfl rfl (by omega) (by rw [bU];omega),sO,sN,show 6*i+6-6*i=6 by omega];rfl
   have hw3:gt .i64 ((i:Int)+1)=((i+1:Nat):Int):=by rw [ac (by omega) (by omega)];omega
   obtain ⟨hd,hd16⟩:=abs i hi (qv X i) (vW X i hX hi)
   have hw4:gt .u64 ((dig (i+1) (toW (qv X i)):Nat):Int)=((dig (i+1) (toW (qv X i)):Nat):Int):=aR (by omega) (by omega)
   have hro:dE 200000 ((dig (i+1) (toW (qv X i)):Nat):Int) (4:Int)=some (rI (aQ 4 (dig (i+1) (toW (qv X i))))):=aaV _ 4 (by omega) (by decide) (by decide)
   have hrm:ae ((rI (digM X i)).length+(rI (aQ 4 (dig (i+1) (toW (qv X i))))).length) 1=true:=by
    rw [bU,bU,rY,cW]
    exact aH (by have:=aL;omega) (by omega)
   simp only [gC,d1,cond_true,hw1,hw2,hs,C9,hw3,hd,hw4,hro,hrm]
   rw [←iM,←vN]
 have hd:=rY X 8
 have h4:=adF (N:=200000) (digM X 8) jb (by rw [hd];exact Bm) (by omega) (by decide) (by decide)
 unfold mA
 show (cP 200000 (rI r) gX).bind _=_
 rw [h1]
 simp only [C9]
 rw [h2]
 simp only [C9]
 rw [h3]
 simp only [C9]
 show (cP 200000 (rI (digM X 8)) jb).bind _=_
 rw [h4]
 simp only [C9,tH,hXe]
end Go.Proofs.YtolkfnemdejonaaGreatDoor.De
namespace Go.Proofs.YtolkfnemdejonaaGreatDoor.De
set_option maxRecDepth 100000
open Go.RowKit
set_option linter.unusedVariables false
set_option linter.unusedSimpArgs false
set_option maxRecDepth 100000
def hv:Nat→List Bool→List Bool
  | 0,c=>c
  | i+1,c=>rot (amt (i+1)) (hv i c)
theorem rO:∀ i c,(hv i c).length=c.length
  | 0,c=>rfl
  | i+1,c=>by rw [hv,al1,rO i c]
def qV (c d:List Bool)(i:Nat):List Bool:=byM fp (hv (i+1) c++hv (i+1) d)
theorem ae9 (c d:List Bool)(i:Nat):(qV c d i).length=48:=by rw [qV,iA];rfl
def uc (key:List Bool):List (List Bool):=(DB 16).map (qV ((byM ja key).take 28) ((byM ja key).drop 28))
theorem ae8 (key:List Bool):(uc key).length=16:=by simp [uc]
theorem BC {key k:List Bool}(h:k∈uc key):k.length=48:=by
  obtain ⟨i,_,rfl⟩:=List.mem_map.1 h
  exact ae9 _ _ _
def stA (z:Arr Int 16)(f:Nat→Int):Nat→Arr Int 16
  | 0=>z
  | i+1=>(stA z f i).set i (f i)
theorem alj (A B:List Int)(i:Nat)(v:Int)(hA:A.length=i)(hi:i<B.length):(A++B.drop i).set i v=(A++[v])++B.drop (i+1):=by
  subst hA
  rw [List.set_append_right _ _ (Nat.le_refl _),Dx hi,Nat.sub_self,List.set_cons_zero,DJ]
  rfl
theorem arv (z:Arr Int 16)(f:Nat→Int):∀ i,i≤16→(stA z f i).l=(DB i).map f++z.l.drop i
  | 0,_=>rfl
  | i+1,h=>by
    show (stA z f i).l.set i (f i)=_
    rw [arv z f i (by omega),alj _ _ i _ (by simp) (by rw [z.h];omega),List.range_succ,DK]
    rfl
theorem alU (z:Arr Int 16)(f:Nat→Int):(stA z f 16).l=(DB 16).map f:=by
  have:=arv z f 16 (Nat.le_refl _)
  rw [this,List.drop_eq_nil_of_le (by rw [z.h];decide),List.append_nil]
theorem anc (a:Arr Int 16)(i:Nat)(h:i<16):∃ v,a.l[i]? =some v:=⟨_,List.getElem?_eq_getElem (by rw [a.h];exact h)⟩
def M56:Int:=72057594037927935
def M28:Int:=268435455
theorem arP:M56=((2 ^ 56-1:Nat):Int):=by decide +kernel
theorem arQ:M28=((2 ^ 28-1:Nat):Int):=by decide +kernel
theorem agh (key:Int):sb 200000 key=ne (ni 200000) fun v2=>ne (aV 200000 key 64 v2) fun v3=>ne (jC 200000 (((Dv (bits .and .u64 v3 M56) ((2:Int) ^ 28)),((bits .and .u64 (bits .and .u64 v3 M56) M28),(fp,((0:Int),())))),(dflt (.arr 16 (.int .u64)),(dflt (.arr 16 (.int .u64)),())))) fun v4=>some v4.2.2.1:=by kernel_rfl
theorem ar1 (key:List Bool)(hk:key.length=64):∃ a,sb 200000 (toW key:Int)=some a∧a.l=(uc key).map fun k=>((toW k:Nat):Int):=by
  have h1:=ir (N:=200000) key ja (by omega) (by omega) (by rw [hk];exact Bl) (by decide) (by decide)
  rw [hk] at h1
  have hpl:(byM ja key).length=56:=by rw [iA];rfl
  generalize hp:byM ja key=p at *
  have h2:=abb p 56 (by omega) (by omega)
  rw [hpl,show 56-56=0 from rfl,List.drop_zero] at h2
  have h3:=abb p 28 (by omega) (by omega)
  rw [hpl,show 56-28=28 from rfl] at h3
  have h4:=uA p 28 (by omega)
  rw [hpl,show 56-28=28 from rfl] at h4
  have h5:=zD (toW p) 28
  rw [h4] at h5
  have hc:(p.take 28).length=28:=by simp [hpl]
  have hd:(p.drop 28).length=28:=by simp [hpl]
  generalize hcE:p.take 28=c at *
  generalize hdE:p.drop 28=d at *
  let f:Nat→Int:=fun i=>((toW (qV c d i):Nat):Int)
  have e1:∀ y z:Arr Int 16,jC 200000 (((toW c:Int),((toW d:Int),(fp,((0:Int),())))),(y,(z,())))=some ((),(y,(stA z f 16,()))):=by
    intro y z
    unfold jC
    have:=cu (G:=fun X c=>kN 200000 X c.1.1 c.1.2.1 c.1.2.2.1 c.1.2.2.2.1 c.2.1 c.2.2.1) (fun i=>(((toW (hv i c):Int),((toW (hv i d):Int),(fp,((i:Int),())))),(y,(stA z f i,())))) 16 ((),(y,(stA z f 16,()))) (fun Y i hi=> ?_) (fun Y=>rfl) 200000 0 (Dn _) (by decide)
    · exact this
    · have d1:decide ((i:Int)<(16:Int))=true:=decide_eq_true (by omega)
      have hw:gt .i64 ((i:Int)+1)=((i+1:Nat):Int):=by rw [ac (by omega) (by omega)];omega
      have t1:=Am (N:=200000) (hv i c) (i+1) (by omega) (by omega) (by rw [rO,hc]) (by decide)
      have t2:=Am (N:=200000) (hv i d) (i+1) (by omega) (by omega) (by rw [rO,hd]) (by decide)
      have hl1:(hv (i+1) c).length=28:=by rw [rO,hc]
      have hl2:(hv (i+1) d).length=28:=by rw [rO,hd]
      have hor:=qk (hv (i+1) c) (hv (i+1) d) (by omega)
      rw [hl2] at hor
      have hpw:(2:Int) ^ (min (Db (28:Int)) (Dh .u64))=((2 ^ 28:Nat):Int):=rfl
      have hcl:(hv (i+1) c++hv (i+1) d).length=56:=by rw [Dj,hl1,hl2]
      have h6:=ir (N:=200000) (hv (i+1) c++hv (i+1) d) fp (by omega) (by omega) (by rw [hcl];exact vo) (by decide) (by decide)
      rw [hcl] at h6
      have h6:aV 200000 ((toW (hv (i+1) c++hv (i+1) d):Nat):Int) (56:Int) fp=some ((toW (qV c d i):Nat):Int):=h6
      have d2:decide ((0:Int)≤(i:Int)∧(i:Int)<(((16:Nat):Nat):Int))=true:=decide_eq_true (by omega)
      obtain ⟨v,hv⟩:=anc (stA z f i) i hi
      have t1:gu 200000 ((toW (Go.Proofs.YtolkfnemdejonaaGreatDoor.De.hv i c):Nat):Int) ((i+1:Nat):Int)=some ((toW (Go.Proofs.YtolkfnemdejonaaGreatDoor.De.hv (i+1) c):Nat):Int):=t1
      have t2:gu 200000 ((toW (Go.Proofs.YtolkfnemdejonaaGreatDoor.De.hv i d):Nat):Int) ((i+1:Nat):Int)=some ((toW (Go.Proofs.YtolkfnemdejonaaGreatDoor.De.hv (i+1) d):Nat):Int):=t2
      simp only [kN,d1,d2,cond_true,hw,t1,t2,C9,hpw,hor,h6,Dd,hv]
      rfl
  refine ⟨stA (dflt (.arr 16 (.int .u64))) f 16, ?_, ?_⟩
  · rw [agh,aht]
    simp only [C9]
    rw [show aV 200000 (toW key:Int) (64:Int) ja=_ from h1]
    simp only [C9]
    rw [arP,arQ,h2,h3,h5,e1]
    rfl
  · rw [alU]
    unfold uc
    rw [List.map_map,hp,hcE,hdE]
    rfl
theorem ae7 (X:(((List (Int))×((List (Int))×((Int)×Unit)))×((List (List (Int)))×Unit))→Option ((Unit×((List (List (Int)))×Unit))))(c d:List Int)(h0:List (List Int))(i:Nat)(hi:i<16):
    eZ 200000 X c d ((i+1:Nat):Int) h0=ne (b9 c (amt (i+1):Int)) fun v6=>ne (cR c (amt (i+1):Int)) fun v7=>
      bif (ae (C7 v6) 1) then (bif (ae ((C7 v6)+(C7 v7)) 1) then (ne (b9 d (amt (i+1):Int)) fun v8=>ne (cR d (amt (i+1):Int)) fun v9=>
      (bif (ae (C7 v8) 1) then (bif (ae ((C7 v8)+(C7 v9)) 1) then (bif (ae (C7 (v6++v7)) 1) then (bif (ae ((C7 (v6++v7))+(C7 (v8++v9))) 1) then
       (ne (cP 200000 ((v6++v7)++(v8++v9)) fp) fun v10=>(bif (ae ((C7 h0)+(C7 ([v10]:List ((List Int))))) 24) then
          (X (((v6++v7),((v8++v9),((gt .i64 (((i+1:Nat):Int)+(1:Int))),()))),((h0++([v10]:List ((List Int)))),()))) else none)) else none) else none) else none) else none)) else none) else none:=by
  have:i=0∨i=1∨i=2∨i=3∨i=4∨i=5∨i=6∨i=7∨i=8∨i=9∨i=10∨i=11∨i=12∨i=13∨i=14∨i=15:=by omega
  rcases this with rfl | rfl | rfl | rfl | rfl | rfl | rfl | rfl | rfl | rfl | rfl | rfl | rfl | rfl | rfl | rfl <;> rfl
theorem ar2 (key:List Bool)(hk:key.length=64):mD 200000 (toW key:Int)=some ((uc key).map rI):=by
  have hkb:=dK key
  rw [hk] at hkb
  have h0:dE 200000 (toW key:Int) (64:Int)=some (rI key):=by
    have:=aaV (N:=200000) (toW key) 64 (by omega) (by decide) (by decide)
    rw [←hk,th,hk] at this
    exact this
  have h1:=adF (N:=200000) key ja (by rw [hk];exact Bl) (by omega) (by decide) (by decide)
  have hpl:(byM ja key).length=56:=by rw [iA];rfl
  generalize hp:byM ja key=p at *
  have h2:cR (rI p) (28:Int)=some (rI (p.take 28)):=(eg (a:=(28:Int)) (rI p) (i:=28) rfl (by rw [bU];omega)).trans (by rw [sN])
  have h3:b9 (rI p) (28:Int)=some (rI (p.drop 28)):=(fy (a:=(28:Int)) (rI p) (i:=28) rfl (by rw [bU];omega)).trans (by rw [sO])
  have hc:(p.take 28).length=28:=by simp [hpl]
  have hd:(p.drop 28).length=28:=by simp [hpl]
  generalize hcE:p.take 28=c at *
  generalize hdE:p.drop 28=d at *
  have e1:gE 200000 ((rI c,(rI d,((1:Int),()))),([],()))=some ((),(((DB 16).map (qV c d)).map rI,())):=by
    unfold gE
    have:=cu (G:=fun X c=>eZ 200000 X c.1.1 c.1.2.1 c.1.2.2.1 c.2.1) (fun i=>((rI (hv i c),(rI (hv i d),(((i+1:Nat):Int),()))),(((DB i).map (qV c d)).map rI,()))) 16 ((),(((DB 16).map (qV c d)).map rI,())) (fun Y i hi=> ?_) (fun Y=>rfl) 200000 0 (Dn _) (by decide)
    · exact this
    · have hn:amt (i+1)≤2:=by unfold amt;split <;> simp
      have hlc:(hv i c).length=28:=by rw [rO,hc]
      have hld:(hv i d).length=28:=by rw [rO,hd]
      have a1:b9 (rI (hv i c)) (amt (i+1):Int)=some (rI ((hv i c).drop (amt (i+1)))):=by rw [fy _ rfl (by rw [bU];omega),sO]
      have a2:cR (rI (hv i c)) (amt (i+1):Int)=some (rI ((hv i c).take (amt (i+1)))):=by rw [eg _ rfl (by rw [bU];omega),sN]
      have a3:b9 (rI (hv i d)) (amt (i+1):Int)=some (rI ((hv i d).drop (amt (i+1)))):=by rw [fy _ rfl (by rw [bU];omega),sO]
      have a4:cR (rI (hv i d)) (amt (i+1):Int)=some (rI ((hv i d).take (amt (i+1)))):=by rw [eg _ rfl (by rw [bU];omega),sN]
      have b1:rI ((hv i c).drop (amt (i+1)))++rI ((hv i c).take (amt (i+1)))=rI (hv (i+1) c):=by rw [←iM];rfl
      have b2:rI ((hv i d).drop (amt (i+1)))++rI ((hv i d).take (amt (i+1)))=rI (hv (i+1) d):=by rw [←iM];rfl
      have room:∀ n,n≤100→ae n 1=true:=fun n hn=>aH (by have:=aL;omega) (by omega)
      have r1:ae (rI ((hv i c).drop (amt (i+1)))).length 1=true:=room _ (by rw [bU,DD];omega)
      have r2:ae ((rI ((hv i c).drop (amt (i+1)))).length+(rI ((hv i c).take (amt (i+1)))).length) 1=true:=room _ (by rw [bU,bU,DD,Dg];omega)
      have r3:ae (rI ((hv i d).drop (amt (i+1)))).length 1=true:=room _ (by rw [bU,DD];omega)
      have r4:ae ((rI ((hv i d).drop (amt (i+1)))).length+(rI ((hv i d).take (amt (i+1)))).length) 1=true:=room _ (by rw [bU,bU,DD,Dg];omega)
      have hl1:(hv (i+1) c).length=28:=by rw [rO,hc]
      have hl2:(hv (i+1) d).length=28:=by rw [rO,hd]
      have r5:ae (rI (hv (i+1) c)).length 1=true:=room _ (by rw [bU];omega)
      have r6:ae ((rI (hv (i+1) c)).length+(rI (hv (i+1) d)).length) 1=true:=room _ (by rw [bU,bU];omega)
      have hcl:(hv (i+1) c++hv (i+1) d).length=56:=by rw [Dj,hl1,hl2]
      have h6:=adF (N:=200000) (hv (i+1) c++hv (i+1) d) fp (by rw [hcl];exact vo) (by omega) (by decide) (by decide)
      rw [iM] at h6
      have r7:ae ((((DB i).map (qV c d)).map rI).length+[rI (qV c d i)].length) 24=true:=by
        simp only [List.length_map,List.length_range,DA,DM]
        exact aH (by have:=aL;omega) (by omega)
      have hw:gt .i64 (((i+1:Nat):Int)+1)=((i+1+1:Nat):Int):=by rw [ac (by omega) (by omega)];omega
      have hap:(((DB i).map (qV c d)).map rI)++[rI (qV c d i)]=((DB (i+1)).map (qV c d)).map rI:=by rw [List.range_succ,DK,DK];rfl
      have h6:cP 200000 (rI (hv (i+1) c)++rI (hv (i+1) d)) fp=some (rI (qV c d i)):=h6
      show eZ 200000 Y (rI (hv i c)) (rI (hv i d)) ((i+1:Nat):Int) (((DB i).map (qV c d)).map rI)=_
      rw [ae7 Y _ _ _ i hi,a1]
      simp only [C9,a2,a3,a4,r1,r2,r3,r4,cond_true,b1,b2,r5,r6,h6,r7,hw,hap]
  unfold mD
  rw [h0]
  simp only [C9]
  show (cP 200000 (rI key) ja).bind _=_
  rw [h1]
  simp only [C9,h2,h3]
  show (gE 200000 ((rI c,(rI d,((1:Int),()))),([],()))).bind _=_
  rw [e1]
  simp only [C9,uc,hp,hcE,hdE]
noncomputable def fq (s:List Bool×List Bool)(k:List Bool):List Bool×List Bool:=(s.2,xorL s.1 (tH s.2 k))
def Two (s:List Bool×List Bool):Prop:=s.1.length=32∧s.2.length=32
theorem aeb {s:List Bool×List Bool}(k:List Bool)(h:Two s):Two (fq s k):=⟨h.2,by rw [fq,uj _ _ (by rw [rq];exact h.1)];exact h.1⟩
theorem rT:∀ (ks:List (List Bool)) {s:List Bool×List Bool},Two s→Two (ks.foldl fq s)
 | [],_,h=>h
 | k::ks,_,h=>rT ks (aeb k h)
noncomputable def yo (ks:List (List Bool))(b:List Bool):List Bool:=let s:=ks.foldl fq ((byM ci b).take 32,(byM ci b).drop 32);byM Ap (s.2++s.1)
theorem ad0 (ks:List (List Bool))(b:List Bool):(yo ks b).length=64:=by unfold yo;rw [iA];rfl
theorem BK (b:List Bool):Two ((byM ci b).take 32,(byM ci b).drop 32):=by
 have:(byM ci b).length=64:=by rw [iA];rfl
 constructor <;> simp [this]
theorem w32 {x:Int}(h1:0≤x)(h2:x<4294967296):gt .u32 x=x:=by rw [IntKind.wrap_u32];omega
theorem An (a:Arr Int 16)(b:Int):kK 200000 a b=ne (r8 200000) fun v3=>ne (nj 200000) fun v4=>ne (aV 200000 b 64 v4) fun v5=>ne (fE 200000 ((v3,(jb,((gt .u32 (Dv v5 ((2:Int) ^ 32))),((gt .u32 v5),(a,((0:Int),())))))),())) fun v6=>ne (r9 200000) fun v7=>ne (aV 200000 (bits .or .u64 (gt .u64 ((gt .u64 v6.1.2.1)*(4294967296:Int))) (gt .u64 v6.1.1)) 64 v7) fun v8=>some v8:=by kernel_rfl
theorem ad5 (a:Arr Int 16)(ks:List (List Bool))(b:List Bool)(ha:a.l=ks.map fun k=>((toW k:Nat):Int))(hks:∀ k∈ks,k.length=48)(hb:b.length=64):kK 200000 a (toW b:Int)=some ((toW (yo ks b):Nat):Int):=by
 have hl:ks.length=16:=by have:=a.h;rw [ha] at this;simpa using this
 have h1:=ir (N:=200000) b ci (by omega) (by omega) (by rw [hb];exact aa8) (by decide) (by decide)
 rw [hb] at h1
 have hpl:(byM ci b).length=64:=by rw [iA];rfl
 have hS:=BK b
 have hpb:=dK (byM ci b)
 rw [hpl] at hpb
 have h2:=uA (byM ci b) 32 (by omega)
 rw [hpl,show 64-32=32 from rfl] at h2
 have h3:=yp (byM ci b) 32 (by omega)
 rw [hpl,show 64-32=32 from rfl] at h3
 have h4:=zD (toW (byM ci b)) 32
 have hlt:=dK ((byM ci b).take 32)
 rw [hS.1] at hlt
 have k1:gt .u32 (Dv (toW (byM ci b):Int) ((2:Int) ^ 32))=((toW ((byM ci b).take 32):Nat):Int):=by rw [h4,h2,w32 (by omega) (by omega)]
 have k2:gt .u32 (toW (byM ci b):Int)=((toW ((byM ci b).drop 32):Nat):Int):=by rw [IntKind.wrap_u32,←h3];omega
 generalize hs:((byM ci b).take 32,(byM ci b).drop 32)=s at *
 have hs1:(byM ci b).take 32=s.1:=by rw [←hs]
 have hs2:(byM ci b).drop 32=s.2:=by rw [←hs]
 have e1:fE 200000 ((gX,(jb,((toW s.1:Int),((toW s.2:Int),(a,((0:Int),())))))),())=some (((toW (ks.foldl fq s).1:Int),((toW (ks.foldl fq s).2:Int),())),()):=by
  unfold fE
  have:=cu (G:=fun X c=>fz 200000 X c.1.1 c.1.2.1 c.1.2.2.1 c.1.2.2.2.1 c.1.2.2.2.2.1 c.1.2.2.2.2.2.1) (fun i=>((gX,(jb,((toW ((ks.take i).foldl fq s).1:Int),((toW ((ks.take i).foldl fq s).2:Int),(a,((i:Int),())))))),())) 16 (((toW (ks.foldl fq s).1:Int),((toW (ks.foldl fq s).2:Int),())),()) (fun Y i hi=> ?_) (fun Y=> ?_) 200000 0 (Dn _) (by decide)
  ·exact this
  ·have d1:decide ((i:Int)<(16:Int))=true:=decide_eq_true (by omega)
   have hil:i<ks.length:=by omega
   have hg:getI a.l (i:Int)=some ((toW ks[i]:Nat):Int):=by rw [ha,aS _ i (by simpa using hil)];simp
   have hF:=rT (ks.take i) hS
   have hk:=hks ks[i] (Dw hil)
   have hkb:=dK ks[i]
   rw [hk] at hkb
   have hw:=ard ((ks.take i).foldl fq s).2 ks[i] (toW ks[i]) hF.2 hk (by omega) (Nat.mod_eq_of_lt hkb)
   have hx:=B9 ((ks.take i).foldl fq s).1 (tH ((ks.take i).foldl fq s).2 ks[i]) (by rw [rq];exact hF.1) (by rw [hF.1];decide)
   have hst:(ks.take (i+1)).foldl fq s=fq ((ks.take i).foldl fq s) ks[i]:=by rw [←Df hil,List.foldl_append];rfl
   have hw2:gt .i64 ((i:Int)+1)=((i+1:Nat):Int):=by rw [ac (by omega) (by omega)];omega
   simp only [fz,d1,cond_true,hg,C9,hw,hx,hw2,hst,fq]
  ·have ht:ks.take 16=ks:=by rw [←hl];exact Dq
   simp only [ht]
   rfl
 have hF:=rT ks hS
 generalize hf:ks.foldl fq s=t at *
 have b1:=dK t.1
 have b2:=dK t.2
 rw [hF.1] at b1
 rw [hF.2] at b2
 have hor:=qk t.2 t.1 (by rw [hF.1,hF.2];decide)
 rw [hF.1] at hor
 have hor:bits .or .u64 (gt .u64 (((toW t.2:Nat):Int)*(4294967296:Int))) ((toW t.1:Nat):Int)=((toW (t.2++t.1):Nat):Int):=hor
 have hcl:(t.2++t.1).length=64:=by rw [Dj,hF.1,hF.2]
 have h5:=ir (N:=200000) (t.2++t.1) Ap (by omega) (by omega) (by rw [hcl];exact aeT) (by decide) (by decide)
 rw [hcl] at h5
 rw [An,arg,amN,ar0]
 simp only [C9]
 rw [show aV 200000 (toW b:Int) (64:Int) ci=_ from h1]
 simp only [C9]
 rw [k1,k2,hs1,hs2,e1]
 simp only [C9]
 rw [aR (x:=((toW t.2:Nat):Int)) (by omega) (by omega),aR (x:=((toW t.1:Nat):Int)) (by omega) (by omega),hor]
 rw [show aV 200000 ((toW (t.2++t.1):Nat):Int) (64:Int) Ap=_ from h5]
 simp only [C9]
 unfold yo
 rw [hs,hf]
theorem adZ (b:Int)(l:List (List Int)):mB 200000 b l=ne (dE 200000 b 64) fun v3=>ne (cP 200000 v3 ci) fun v4=>ne (cR v4 (32:Int)) fun v5=>ne (b9 v4 (32:Int)) fun v6=>ne (gD 200000 ((l,(v5,(v6,((0:Int),())))),())) fun v7=>bif ae (C7 v7.1.2.1) 1 then (bif ae ((C7 v7.1.2.1)+(C7 v7.1.1)) 1 then (ne (cP 200000 (v7.1.2.1++v7.1.1) Ap) fun v8=>ne (f8 200000 v8) fun v9=>some v9) else none) else none:=by kernel_rfl
theorem arm (ks:List (List Bool))(b:List Bool)(hl:ks.length≤16)(hks:∀ k∈ks,k.length=48)(hb:b.length=64):mB 200000 (toW b:Int) (ks.map rI)=some ((toW (yo ks b):Nat):Int):=by
 have hbb:=dK b
 rw [hb] at hbb
 have h0:dE 200000 (toW b:Int) (64:Int)=some (rI b):=by
  have:=aaV (N:=200000) (toW b) 64 (by omega) (by decide) (by decide)
  rw [←hb,th,hb] at this
  exact this
 have h1:=adF (N:=200000) b ci (by rw [hb];exact aa8) (by omega) (by decide) (by decide)
 have hpl:(byM ci b).length=64:=by rw [iA];rfl
 have hS:=BK b
 have h2:cR (rI (byM ci b)) (32:Int)=some (rI ((byM ci b).take 32)):=(eg (a:=(32:Int)) (rI (byM ci b)) (i:=32) rfl (by rw [bU];omega)).trans (by rw [sN])
 have h3:b9 (rI (byM ci b)) (32:Int)=some (rI ((byM ci b).drop 32)):=(fy (a:=(32:Int)) (rI (byM ci b)) (i:=32) rfl (by rw [bU];omega)).trans (by rw [sO])
 generalize hs:((byM ci b).take 32,(byM ci b).drop 32)=s at *
 have hs1:(byM ci b).take 32=s.1:=by rw [←hs]
 have hs2:(byM ci b).drop 32=s.2:=by rw [←hs]
 have e1:gD 200000 ((ks.map rI,(rI s.1,(rI s.2,((0:Int),())))),())=some ((rI (ks.foldl fq s).1,(rI (ks.foldl fq s).2,())),()):=by
  unfold gD
  have:=cu (G:=fun X c=>eY 200000 X c.1.1 c.1.2.1 c.1.2.2.1 c.1.2.2.2.1) (fun i=>((ks.map rI,(rI ((ks.take i).foldl fq s).1,(rI ((ks.take i).foldl fq s).2,((i:Int),())))),())) ks.length ((rI (ks.foldl fq s).1,(rI (ks.foldl fq s).2,())),()) (fun Y i hi=> ?_) (fun Y=> ?_) 200000 0 (Dn _) (by omega)
  ·exact this
  ·have d1:decide ((i:Int)<((ks.map rI).length:Int))=true:=decide_eq_true (by simp;omega)
   have hg:getI (ks.map rI) (i:Int)=some (rI ks[i]):=by rw [aS _ i (by simpa using hi)];simp
   have hF:=rT (ks.take i) hS
   have hk:=hks ks[i] (Dw hi)
   have hw:=arf ((ks.take i).foldl fq s).2 ks[i] hF.2 hk
   have hx:=aaU (N:=200000) ((ks.take i).foldl fq s).1 (tH ((ks.take i).foldl fq s).2 ks[i]) (by rw [rq];exact hF.1) (by rw [hF.1];decide) (by decide)
   have hst:(ks.take (i+1)).foldl fq s=fq ((ks.take i).foldl fq s) ks[i]:=by rw [←Df hi,List.foldl_append];rfl
   have hw2:gt .i64 ((i:Int)+1)=((i+1:Nat):Int):=by rw [ac (by omega) (by omega)];omega
   simp only [eY,d1,cond_true,hg,C9,hw,hx,hw2,hst,fq]
  ·have d1:decide ((ks.length:Int)<((ks.map rI).length:Int))=false:=decide_eq_false (by simp)
   simp only [eY,d1,cond_false,Dq]
 have hF:=rT ks hS
 generalize hf:ks.foldl fq s=t at *
 have hcl:(t.2++t.1).length=64:=by rw [Dj,hF.1,hF.2]
 have h5:=adF (N:=200000) (t.2++t.1) Ap (by rw [hcl];exact aeT) (by omega) (by decide) (by decide)
 have h6:=word_ok (N:=200000) (byM Ap (t.2++t.1)) (by rw [iA];decide) (by decide)
 have r1:ae (rI t.2).length 1=true:=aH (by rw [bU,hF.2];have:=aL;omega) (by rw [bU,hF.2];decide)
 have r2:ae ((rI t.2).length+(rI t.1).length) 1=true:=aH (by rw [bU,bU,hF.2,hF.1];have:=aL;omega) (by rw [bU,bU,hF.2,hF.1];decide)
 rw [adZ,h0]
 simp only [C9,h1,h2,h3,hs1,hs2,e1,r1,r2,cond_true,←iM,h5,h6]
 unfold yo
 rw [hs,hf]
theorem arl (key b:List Bool)(hk:key.length=64)(hb:b.length=64):sa 200000 (toW key:Int) (toW b:Int)=some ((toW (yo (uc key) b):Nat):Int):=by
 obtain ⟨a,h1,h2⟩:=ar1 key hk
 unfold sa
 rw [h1]
 simp only [C9]
 rw [ad5 a (uc key) b h2 (fun k h=>BC h) hb]
 rfl
theorem asx (key b:List Bool)(hk:key.length=64)(hb:b.length=64):mF 200000 (toW key:Int) (toW b:Int)=some ((toW (yo (uc key) b):Nat):Int):=by
 unfold mF
 rw [ar2 key hk]
 simp only [C9]
 rw [arm (uc key) b (by rw [ae8];decide) (fun k h=>BC h) hb]
 rfl
def stB (z a:Arr Int 16):Nat→Arr Int 16
 | 0=>z
 | i+1=>(stB z a i).set (15-i) (a.l.getD i 0)
theorem ya:∀ (w x j:Nat),j<w→(aQ w x).getD j false=x.testBit (w-1-j)
 | w+1,x,0,_=>by rw [ot,Nat.testBit_eq_decide_div_mod_eq];rfl
 | w+1,x,j+1,h=>by
  rw [ot]
  have:=ya w x j (by omega)
  rw [show w+1-1-(j+1)=w-1-j by omega,←this]
  rfl
variable {N:Nat}
def bQ (l:List Int):List Bool:=l.flatMap fun x=>aQ 8 x.toNat
theorem sC (l:List Int)(x:Int):bQ (l++[x])=bQ l++aQ 8 x.toNat:=by simp [bQ]
theorem xy (l:List Int)(x:Int):bQ (x::l)=aQ 8 x.toNat++bQ l:=by simp [bQ]
theorem gA:∀ l:List Int,(bQ l).length=8*l.length
 | []=>rfl
 | x::l=>by rw [xy,Dj,cW,gA l,DA];omega
theorem alg {x:Int}(h:0≤x∧x<256):((toW (aQ 8 x.toNat):Nat):Int)=x:=by rw [aaN (by omega)];omega
theorem aeV (l:List Int)(hl:l.length≤8)(hB:AllB l)(hN:100≤N):mL N l=some ((toW (bQ l):Nat):Int):=by
 have e1:lD N ((l,((0:Int),((0:Int),()))),())=some (((toW (bQ l):Int),()),()):=by
  unfold lD
  have:=cu (G:=fun X c=>gh N X c.1.1 c.1.2.1 c.1.2.2.1) (fun i=>((l,(((toW (bQ (l.take i)):Nat):Int),((i:Int),()))),())) l.length (((toW (bQ l):Int),()),()) (fun X i hi=> ?_) (fun X=> ?_) N 0 (Dn _) (by omega)
  ·exact this
  ·have d1:decide ((i:Int)<(l.length:Int))=true:=decide_eq_true (by omega)
   have hb:=hB.get i hi
   have ha:=dK (bQ (l.take i))
   rw [gA,Dg,Nat.min_eq_left (by omega)] at ha
   have hp:2 ^ (8*i)≤2 ^ 56:=Dt (by decide) (by omega)
   have h1:gt .u64 (((toW (bQ (l.take i)):Nat):Int)*256)=((toW (bQ (l.take i)):Nat):Int)*256:=aR (by omega) (by omega)
   have h2:gt .u64 l[i]=l[i]:=aR (by omega) (by omega)
   have h3:gt .u64 (((toW (bQ (l.take i)):Nat):Int)*256+l[i])=((toW (bQ (l.take (i+1))):Nat):Int):=by
    rw [aR (by omega) (by omega),←Df hi,sC,pX,cW,DH,alg hb]
    omega
   simp only [gh,d1,cond_true,aS l i hi,C9,h1,h2,h3,ac (show -9223372036854775808≤(i:Int)+1 by omega) (show (i:Int)+1<9223372036854775808 by omega),DH,DL]
  ·have d1:decide ((l.length:Int)<(l.length:Int))=false:=decide_eq_false (by omega)
   simp only [gh,d1,cond_false,Dq]
 simp only [mL,e1,C9]
theorem afm (l:List Int)(hl:l.length=8)(hB:AllB l)(hN:100≤N):iG N l false=some (((toW (bQ l):Nat):Int),0):=by
 have e1:nP N ((l,(false,((0:Int),((8:Int),((0:Int),()))))),())=some (((toW (bQ l):Int),()),()):=by
  unfold nP
  have:=cu (G:=fun X c=>kt N X c.1.1 c.1.2.1 c.1.2.2.1 c.1.2.2.2.1 c.1.2.2.2.2.1) (fun i=>((l,(false,(((toW (bQ (l.drop (8-i))):Nat):Int),((8:Int),((i:Int),()))))),())) 8 (((toW (bQ l):Int),()),()) (fun X i hi=> ?_) (fun X=>rfl) N 0 (Dn _) (by omega)
  ·have h0:l.drop (8-0)=[]:=List.drop_eq_nil_of_le (by omega)
   simp only [h0] at this
   exact this
  ·have d1:decide ((i:Int)<(8:Int))=true:=decide_eq_true (by omega)
   have hp:ey N (i:Int) ((l.length:Nat):Int) false=some ((7-i:Nat):Int):=by
    have a1:gt .i64 (((l.length:Nat):Int)-1)=7:=by rw [hl];rfl
    have a2:gt .i64 ((7:Int)-(i:Int))=((7-i:Nat):Int):=by rw [ac (by omega) (by omega)];omega
    simp only [ey,cond_false,a1,a2]
   have hil:7-i<l.length:=by omega
   have hb:=hB.get (7-i) hil
   have hw8:gt .i64 ((8:Int)*(i:Int))=((8*i:Nat):Int):=by rw [ac (by omega) (by omega)];omega
   have d2:decide ((0:Int)≤((8*i:Nat):Int))=true:=decide_eq_true (by omega)
   have hm:min (8*i) (Dh .u64)=8*i:=by show min _ 64=_;omega
   have hwb:gt .u64 l[7-i]=((toW (aQ 8 l[7-i].toNat):Nat):Int):=by rw [alg hb];exact aR (by omega) (by omega)
   have hrl:(bQ (l.drop (8-i))).length=8*i:=by rw [gA,DD];omega
   have hor:=qk (aQ 8 l[7-i].toNat) (bQ (l.drop (8-i))) (by rw [cW,hrl];omega)
   have hdr:l.drop (8-(i+1))=l[7-i]::l.drop (8-i):=by
    have:=Dx hil
    rw [show 8-(i+1)=7-i by omega,this,show 7-i+1=8-i by omega]
   rw [hrl,←xy,←hdr,Bk] at hor
   have hpw:(2:Int) ^ (8*i)=((2 ^ (8*i):Nat):Int):=by simp
   have hw2:gt .i64 ((i:Int)+1)=((i+1:Nat):Int):=by rw [ac (by omega) (by omega)];omega
   simp only [kt,d1,cond_true,hp,C9,aS l (7-i) hil,hw8,d2,Dd,hm,hwb,hpw,hor,hw2]
 have c1:decide (((l.length:Nat):Int)<1)=false:=decide_eq_false (by omega)
 have c2:decide ((8:Int)<((l.length:Nat):Int))=false:=decide_eq_false (by omega)
 have hl8:((l.length:Nat):Int)=8:=by omega
 simp only [iG,c1,c2,cond_false]
 rw [hl8,e1]
 rfl
def byB:Nat→Nat→List Int
 | 0,_=>[]
 | w+1,x=>byB w (x / 256)++[((x % 256:Nat):Int)]
theorem zW:∀ w x,(byB w x).length=w
 | 0,_=>rfl
 | w+1,x=>by simp [byB,zW w]
theorem abB:∀ (w x:Nat),byB (w+1) x=((x / 256 ^ w % 256:Nat):Int)::byB w x
 | 0,x=>by simp [byB]
 | w+1,x=>by
  rw [byB,abB w (x / 256),byB,DC,←Nat.pow_succ']
  rfl
theorem ass:∀ w x,AllB (byB w x)
 | 0,_=>AllB.nil
 | w+1,x=>(ass w _).append (AllB.cons (by omega) AllB.nil)
theorem asn (y:Nat)(hy:y<18446744073709551616):gt .u64 (Int.tdiv (y:Int) 256)=((y / 256:Nat):Int):=by
 rw [DE (DQ _),aR (by omega) (by omega)];omega
theorem arO (y:Nat):gt .u8 (DI (y:Int) 256)=((y % 256:Nat):Int):=by
 rw [Dm (DQ _),Ae (by omega) (by omega)];omega
theorem atI (y:Nat):gt .u8 (y:Int)=((y % 256:Nat):Int):=by rw [DN];omega
theorem set8 (v i:Nat)(hi:i<8):(Da (8-i) (0:Int)++byB i v).set (7-i) ((v / 256 ^ i % 256:Nat):Int)=Da (8-(i+1)) (0:Int)++byB (i+1) v:=by
 obtain ⟨k,hk⟩:∃ k,8-i=k+1:=⟨7-i,by omega⟩
 rw [hk,show 7-i=k by omega,aeo,show 8-(i+1)=k by omega,abB]
theorem asb (v i:Nat)(hi:i<8):∃ x,(Da (8-i) (0:Int)++byB i v)[7-i]? =some x:=⟨_,List.getElem?_eq_getElem (by rw [Dj,List.length_replicate,zW];omega)⟩
theorem arV (v i:Nat)(hi:i≤8):(Da (8-i) (0:Int)++byB i v).length=8:=by rw [Dj,List.length_replicate,zW];omega
theorem ama (v:Nat)(hv:v<18446744073709551616)(hN:100≤N):cD N (v:Int) 8 false=some (byB 8 v,0):=by
 have e1:gG N (((v:Int),((8:Int),(false,((8:Int),((0:Int),()))))),(Da 8 (0:Int),()))=some ((),(byB 8 v,())):=by
  unfold gG
  have:=cu (G:=fun X c=>fM N X c.1.1 c.1.2.1 c.1.2.2.1 c.1.2.2.2.1 c.1.2.2.2.2.1 c.2.1) (fun i=>((((v / 256 ^ i:Nat):Int),((8:Int),(false,((8:Int),((i:Int),()))))),(Da (8-i) (0:Int)++byB i v,()))) 8 ((),(byB 8 v,())) (fun X i hi=> ?_) (fun X=>rfl) N 0 (Dn _) (by omega)
  ·simpa [byB] using this
  ·have d1:decide ((i:Int)<(8:Int))=true:=decide_eq_true (by omega)
   have hp:ey N (i:Int) (8:Int) false=some ((7-i:Nat):Int):=by
    have a1:gt .i64 ((8:Int)-1)=7:=rfl
    have a2:gt .i64 ((7:Int)-(i:Int))=((7-i:Nat):Int):=by rw [ac (by omega) (by omega)];omega
    simp only [ey,cond_false,a1,a2]
   have d2:decide ((0:Int)≤((7-i:Nat):Int)∧((7-i:Nat):Int)<((Da (8-i) (0:Int)++byB i v).length:Int))=true:=decide_eq_true (by rw [arV v i (by omega)];omega)
   obtain ⟨x,hx⟩:=asb v i hi
   have hpw:(2:Int) ^ (min (Db (8:Int)) (Dh .u64))=(2:Int) ^ 8:=rfl
   have hf:Dv ((v / 256 ^ i:Nat):Int) ((2:Int) ^ 8)=((v / 256 ^ (i+1):Nat):Int):=by rw [zD,DC,show (2:Nat) ^ 8=256 from rfl,←Nat.pow_succ]
   have hw2:gt .i64 ((i:Int)+1)=((i+1:Nat):Int):=by rw [ac (by omega) (by omega)];omega
   simp only [fM,d1,cond_true,hp,C9,d2,Dd,hx,hpw,hf,atI,set8 v i hi,hw2]
 have c3:ae (Db 8) 1=true:=by decide
 have hr:Da (Db 8) (0:Int)=Da 8 0:=rfl
 have hl8:((Da 8 (0:Int)).length:Int)=8:=rfl
 unfold cD
 rw [decide_eq_false (show ¬ ((8:Int)<1) by decide),decide_eq_false (show ¬ ((8:Int)<8) by decide),decide_eq_true (show (0:Int)≤8∧(8:Int)≤8 by decide),c3,hr,hl8,e1]
 rfl
theorem anb (v:Nat)(hv:v<18446744073709551616)(hN:100≤N):o8 N (v:Int) 8=some (byB 8 v):=by
 have e1:lG N (((v:Int),((7:Int),())),(Da 8 (0:Int),()))=some ((),(byB 8 v,())):=by
  unfold lG
  have:=cu (G:=fun X c=>iL N X c.1.1 c.1.2.1 c.2.1) (fun i=>((((v / 256 ^ i:Nat):Int),((7:Int)-(i:Int),())),(Da (8-i) (0:Int)++byB i v,()))) 8 ((),(byB 8 v,())) (fun X i hi=> ?_) (fun X=>rfl) N 0 (Dn _) (by omega)
  ·simpa [byB] using this
  ·have d1:decide ((0:Int)≤(7:Int)-(i:Int))=true:=decide_eq_true (by omega)
   have d2:decide ((0:Int)≤(7:Int)-(i:Int)∧(7:Int)-(i:Int)<((Da (8-i) (0:Int)++byB i v).length:Int))=true:=decide_eq_true (by rw [arV v i (by omega)];omega)
   have ht:((7:Int)-(i:Int)).toNat=7-i:=by omega
   obtain ⟨x,hx⟩:=asb v i hi
   have hf:((v / 256 ^ i / 256:Nat):Int)=((v / 256 ^ (i+1):Nat):Int):=by rw [DC,Nat.pow_succ]
   have hw2:gt .i64 ((7:Int)-(i:Int)-1)=(7:Int)-((i+1:Nat):Int):=by rw [ac (by omega) (by omega)];omega
   simp only [iL,d1,cond_true,C9,d2,ht,hx,asn _ (Dz (DF v _) hv),hf,arO,set8 v i hi,hw2]
 have c3:ae (Db 8) 1=true:=by decide
 have hr:Da (Db 8) (0:Int)=Da 8 0:=rfl
 have hw:gt .i64 ((8:Int)-1)=7:=rfl
 unfold o8
 rw [decide_eq_true (show (0:Int)≤8∧(8:Int)≤8 by decide),c3,hr,hw,e1]
 rfl
def di (s:List Bool×List Int)(b:Bool):List Bool×List Int:=if s.1.length+1=7 then ([],s.2++[((toW (s.1++[b]):Nat):Int)]) else (s.1++[b],s.2)
theorem aeN (s:List Bool×List Int)(b:Bool)(h:s.1.length≤6):(di s b).1.length≤6∧(di s b).2.length≤s.2.length+1:=by
 unfold di
 split
 ·simp
 ·simp;omega
theorem zc:∀ (l:List Bool) (s:List Bool×List Int),s.1.length≤6→(l.foldl di s).1.length≤6∧(l.foldl di s).2.length≤s.2.length+l.length
 | [],s,h=>⟨h,by simp⟩
 | b::l,s,h=>by
  have h1:=aeN s b h
  have h2:=zc l (di s b) h1.1
  exact ⟨h2.1,by rw [List.foldl_cons,DA];omega⟩
theorem or8b:∀ a:Nat,a<64→∀ x:Nat,x<2→bits .or .u8 (gt .u8 ((a:Int)*(2:Int) ^ (min (Db (1:Int)) (Dh .u8)))) (x:Int)=((2*a+x:Nat):Int):=by decide +kernel
theorem at8:∀ z:Nat,z<256→bits .and .u8 (z:Int) 1=((z % 2:Nat):Int):=by decide +kernel
theorem afG (key:List Int)(i:Nat)(b:Int)(hb:0≤b∧b<256)(s:List Bool×List Int)(hs:s.1.length≤6)(hs2:s.2.length≤1000)(hN:100≤N):
  a8 N (((8:Int),(b,(key,((7:Int),((i:Int),((8:Int),((0:Int),()))))))),((7:Int),(((toW s.1:Nat):Int),((s.1.length:Int),(s.2,())))))=
   some (((8:Int),(key,((7:Int),((i:Int),())))),((7:Int),(((toW ((aQ 8 b.toNat).foldl di s).1:Nat):Int),((((aQ 8 b.toNat).foldl di s).1.length:Int),(((aQ 8 b.toNat).foldl di s).2,()))))):=by
 obtain ⟨m,rfl⟩:∃ m:Nat,b=m:=⟨b.toNat,by omega⟩
 rw [Dd]
 have hbl:=cW 8 m
 unfold a8
 have:=cu (G:=fun X c=>ap N X c.1.1 c.1.2.1 c.1.2.2.1 c.1.2.2.2.1 c.1.2.2.2.2.1 c.1.2.2.2.2.2.1 c.1.2.2.2.2.2.2.1 c.2.1 c.2.2.1 c.2.2.2.1 c.2.2.2.2.1)
  (fun j=>(((8:Int),((m:Int),(key,((7:Int),((i:Int),((8:Int),((j:Int),()))))))),((7:Int),(((toW (((aQ 8 m).take j).foldl di s).1:Nat):Int),(((((aQ 8 m).take j).foldl di s).1.length:Int),((((aQ 8 m).take j).foldl di s).2,())))))) 8
  (((8:Int),(key,((7:Int),((i:Int),())))),((7:Int),(((toW ((aQ 8 m).foldl di s).1:Nat):Int),((((aQ 8 m).foldl di s).1.length:Int),(((aQ 8 m).foldl di s).2,()))))) (fun X j hj=> ?_) (fun X=> ?_) N 0 (Dn _) (by omega)
 ·exact this
 ·have hjl:j<(aQ 8 m).length:=by omega
  have hst:((aQ 8 m).take (j+1)).foldl di s=di (((aQ 8 m).take j).foldl di s) (aQ 8 m)[j]:=by rw [←Df hjl,List.foldl_append];rfl
  obtain ⟨a1,a2⟩:=zc ((aQ 8 m).take j) s hs
  rw [Dg] at a2
  have hbit:(((aQ 8 m)[j].toNat:Nat):Int)=((m / 2 ^ (7-j) % 2:Nat):Int):=by
   have:=ya 8 m j hj
   rw [List.getD_eq_getElem?_getD,List.getElem?_eq_getElem hjl,Option.getD_some] at this
   rw [this,show 8-1-j=7-j by omega,Nat.testBit_eq_decide_div_mod_eq,←bitI]
  generalize hsj:((aQ 8 m).take j).foldl di s=t at *
  have d1:decide ((j:Int)<(8:Int))=true:=decide_eq_true (by omega)
  have hw:gt .i64 ((7:Int)-(j:Int))=((7-j:Nat):Int):=by rw [ac (by omega) (by omega)];omega
  have d2:decide ((0:Int)≤((7-j:Nat):Int))=true:=decide_eq_true (by omega)
  have hm:min (7-j) (Dh .u8)=7-j:=by show min _ 8=_;omega
  have hand:=at8 (m / 2 ^ (7-j)) (Dz (DF _ _) (by omega))
  rw [←hbit] at hand
  have htl:=dK t.1
  have hp:2 ^ t.1.length≤2 ^ 6:=Dt (by decide) a1
  have hbt:(aQ 8 m)[j].toNat<2:=by cases (aQ 8 m)[j] <;> simp
  have hor:=or8b (toW t.1) (by omega) _ hbt
  rw [←gy] at hor
  have hw2:gt .i64 ((j:Int)+1)=((j+1:Nat):Int):=by rw [ac (by omega) (by omega)];omega
  have hw3:gt .i64 ((t.1.length:Int)+1)=((t.1.length+1:Nat):Int):=by rw [ac (by omega) (by omega)];omega
  have hrm:ae (t.2.length+[((toW (t.1++[(aQ 8 m)[j]]):Nat):Int)].length) 1=true:=by
   simp only [DA,DM]
   exact aH (by have:=aL;omega) (by omega)
  by_cases h7:t.1.length+1=7
  ·have d3:decide (((t.1.length+1:Nat):Int)=(7:Int))=true:=decide_eq_true (by omega)
   have hps:di t (aQ 8 m)[j]=([],t.2++[((toW (t.1++[(aQ 8 m)[j]]):Nat):Int)]):=by unfold di;rw [if_pos h7]
   simp only [ap,d1,cond_true,hw,d2,hw3,d3,Dd,hm,zD,hand,hor,hrm,hw2,hst,hps]
   rfl
  ·have d3:decide (((t.1.length+1:Nat):Int)=(7:Int))=false:=decide_eq_false (by omega)
   have hps:di t (aQ 8 m)[j]=(t.1++[(aQ 8 m)[j]],t.2):=by unfold di;rw [if_neg h7]
   simp only [ap,d1,cond_true,cond_false,hw,d2,hw3,d3,Dd,hm,zD,hand,hor,hw2,hst,hps,Dj,DA,DM,Nat.zero_add]
 ·have ht:(aQ 8 m).take 8=aQ 8 m:=by have:=Dq (l:=aQ 8 m);rwa [hbl] at this
  have d1:decide (((8:Nat):Int)<(8:Int))=false:=rfl
  simp only [ap,d1,cond_false,ht]
theorem ahb:∀ (c:List Bool),c.length=7→∃ a b x d e f g,c=[a,b,x,d,e,f,g]
 | [a,b,x,d,e,f,g],_=>⟨a,b,x,d,e,f,g,rfl⟩
theorem atO (c rest:List Bool)(out:List Int)(h:c.length=7):(c++rest).foldl di ([],out)=rest.foldl di ([],out++[((toW c:Nat):Int)]):=by
 obtain ⟨a,b,c',d,e,f,g,rfl⟩:=ahb c h
 simp [di]
theorem aa6:∀ (n:Nat) (K:List Bool) (out:List Int),K.length=7*n→(K.foldl di ([],out)).2=out++(DB n).map fun i=>((toW ((K.drop (7*i)).take 7):Nat):Int)
 | 0,K,out,h=>by rw [List.eq_nil_of_length_eq_zero h];simp
 | n+1,K,out,h=>by
  have hc:(K.take 7).length=7:=by rw [Dg];omega
  have:=atO (K.take 7) (K.drop 7) out hc
  rw [List.take_append_drop] at this
  rw [this,aa6 n (K.drop 7) _ (by rw [DD];omega),List.range_succ_eq_map,List.map_cons,List.map_map,DJ]
  congr 1
  simp only [List.cons_append,List.nil_append,Nat.mul_zero,List.drop_zero]
  congr 1
  apply List.map_congr_left
  intro i _
  simp only [Function.comp,List.drop_drop]
  rw [show 7*Nat.succ i=7+7*i by omega]
noncomputable def od (s:Int):Int:=(so 200000 (gt .u8 (s*(2:Int) ^ (min (Db (1:Int)) (Dh .u8))))).getD 0
theorem aeU:∀ s:Nat,s<128→so 200000 (gt .u8 ((s:Int)*(2:Int) ^ (min (Db (1:Int)) (Dh .u8))))=some (od (s:Int))∧rC 200000 (gt .u8 (gt .u64 ((2:Int)*(s:Int))))=some (od (s:Int))∧0≤od (s:Int)∧od (s:Int)<256:=by decide +kernel
def sev (key:List Int):List Int:=(DB 8).map fun i=>((toW (((bQ key).drop (7*i)).take 7):Nat):Int)
theorem aen (key:List Int):∀ s∈sev key,∃ m:Nat,s=m∧m<128:=fun s hs=>by
 obtain ⟨i,_,rfl⟩:=List.mem_map.1 hs
 refine ⟨_,rfl, ?_⟩
 have:=dK (((bQ key).drop (7*i)).take 7)
 have hp:2 ^ (((bQ key).drop (7*i)).take 7).length≤2 ^ 7:=Dt (by decide) (by rw [Dg];omega)
 omega
theorem ag8 (key:List Int)(hl:key.length=7)(hB:AllB key):kQ 200000 key=some ((sev key).map od,0):=by
 have e1:bf 200000 (((8:Int),(key,((7:Int),((0:Int),())))),((7:Int),((0:Int),((0:Int),([],())))))=some ((),((7:Int),(((toW ((bQ key).foldl di ([],[])).1:Nat):Int),((((bQ key).foldl di ([],[])).1.length:Int),(((bQ key).foldl di ([],[])).2,()))))):=by
  unfold bf
  have:=cu (G:=fun X c=>aE 200000 X c.1.1 c.1.2.1 c.1.2.2.1 c.1.2.2.2.1 c.2.1 c.2.2.1 c.2.2.2.1 c.2.2.2.2.1)
   (fun i=>(((8:Int),(key,((7:Int),((i:Int),())))),((7:Int),(((toW ((bQ (key.take i)).foldl di ([],[])).1:Nat):Int),((((bQ (key.take i)).foldl di ([],[])).1.length:Int),(((bQ (key.take i)).foldl di ([],[])).2,())))))) 7
   ((),((7:Int),(((toW ((bQ key).foldl di ([],[])).1:Nat):Int),((((bQ key).foldl di ([],[])).1.length:Int),(((bQ key).foldl di ([],[])).2,()))))) (fun X i hi=> ?_) (fun X=> ?_) 200000 0 (Dn _) (by decide)
  ·exact this
  ·have hil:i<key.length:=by omega
   have d1:decide ((i:Int)<(7:Int))=true:=decide_eq_true (by omega)
   obtain ⟨a1,a2⟩:=zc (bQ (key.take i)) ([],[]) (by simp)
   rw [gA,Dg] at a2
   have hst:(bQ (key.take (i+1))).foldl di ([],[])=(aQ 8 key[i].toNat).foldl di ((bQ (key.take i)).foldl di ([],[])):=by rw [←Df hil,sC,List.foldl_append]
   have a2:((bQ (key.take i)).foldl di ([],[])).2.length≤1000:=by simp at a2;omega
   generalize (bQ (key.take i)).foldl di ([],[])=t at *
   have he:=afG (N:=200000) key i key[i] (hB.get i hil) t a1 a2 (by decide)
   have hw2:gt .i64 ((i:Int)+1)=((i+1:Nat):Int):=by rw [ac (by omega) (by omega)];omega
   simp only [aE,d1,cond_true,aS key i hil,C9,he,hst,hw2]
  ·have ht:key.take 7=key:=by rw [←hl];exact Dq
   have d1:decide (((7:Nat):Int)<(7:Int))=false:=rfl
   simp only [aE,d1,cond_false,ht]
 have hp:=aa6 8 (bQ key) [] (by rw [gA,hl])
 rw [List.nil_append] at hp
 have hp:((bQ key).foldl di ([],[])).2=sev key:=hp
 have hsl:(sev key).length=8:=by simp [sev]
 have hslt:=aen key
 have e2:jt 200000 (((8:Int),((0:Int),())),(sev key,()))=some ((),((sev key).map od,())):=by
  unfold jt
  have:=cu (G:=fun X c=>eB 200000 X c.1.1 c.1.2.1 c.2.1) (fun i=>(((8:Int),((i:Int),())),(((sev key).take i).map od++(sev key).drop i,()))) 8 ((),((sev key).map od,())) (fun X i hi=> ?_) (fun X=> ?_) 200000 0 (Dn _) (by decide)
  ·exact this
  ·have hil:i<(sev key).length:=by omega
   have hA:(((sev key).take i).map od).length=i:=by simp;omega
   have hlen:(((sev key).take i).map od++(sev key).drop i).length=8:=by rw [Dj,hA,DD];omega
   have d1:decide ((i:Int)<(8:Int))=true:=decide_eq_true (by omega)
   have d2:decide ((0:Int)≤(i:Int)∧(i:Int)<((((sev key).take i).map od++(sev key).drop i).length:Int))=true:=decide_eq_true (by rw [hlen];omega)
   have hg:(((sev key).take i).map od++(sev key).drop i)[i]? =some (sev key)[i]:=by
    rw [List.getElem?_append_right (by omega),hA,Nat.sub_self,List.getElem?_drop,Nat.add_zero,List.getElem?_eq_getElem hil]
   obtain ⟨m,hm,hm2⟩:=hslt _ (Dw hil)
   have ho:=(aeU m hm2).1
   rw [←hm] at ho
   have hset:=alj (((sev key).take i).map od) (sev key) i (od (sev key)[i]) hA hil
   have hap:((sev key).take i).map od++[od (sev key)[i]]=((sev key).take (i+1)).map od:=by rw [←Df hil,DK];rfl
   rw [hap] at hset
   have hw2:gt .i64 ((i:Int)+1)=((i+1:Nat):Int):=by rw [ac (by omega) (by omega)];omega
   simp only [eB,d1,d2,cond_true,Dd,hg,C9,ho,hset,hw2]
  ·have ht:(sev key).take 8=sev key:=by rw [←hsl];exact Dq
   have hd:(sev key).drop 8=[]:=List.drop_eq_nil_of_le (by omega)
   have d1:decide (((8:Nat):Int)<(8:Int))=false:=rfl
   simp only [eB,d1,cond_false,ht,hd,List.append_nil]
 have c1:decide (((key.length:Nat):Int)=7)=true:=decide_eq_true (by omega)
 have hk7:((key.length:Nat):Int)=7:=by omega
 unfold kQ
 rw [c1,hk7]
 simp only [DO,cond_false]
 rw [e1]
 simp only [C9]
 rw [hp,hsl]
 rw [show (((8:Nat):Int))=(8:Int) from rfl,e2]
 rfl
theorem ag9 (key:List Int)(hl:key.length=7)(hB:AllB key):iJ 200000 key=some ((sev key).map od,0):=by
 have e1:ip 200000 ((key,((0:Int),())),([],()))=some ((),(rI (bQ key),())):=by
  unfold ip
  have:=cu (G:=fun X c=>dD 200000 X c.1.1 c.1.2.1 c.2.1) (fun i=>((key,((i:Int),())),(rI (bQ (key.take i)),()))) 7 ((),(rI (bQ key),())) (fun X i hi=> ?_) (fun X=> ?_) 200000 0 (Dn _) (by decide)
  ·exact this
  ·have hil:i<key.length:=by omega
   have d1:decide ((i:Int)<(7:Int))=true:=decide_eq_true (by omega)
   have hb:=hB.get i hil
   have hwb:gt .u64 key[i]=((key[i].toNat:Nat):Int):=by rw [aR (by omega) (by omega)];omega
   have hr:dE 200000 ((key[i].toNat:Nat):Int) (8:Int)=some (rI (aQ 8 key[i].toNat)):=aaV _ 8 (by omega) (by decide) (by decide)
   have hrm:ae ((rI (bQ (key.take i))).length+(rI (aQ 8 key[i].toNat)).length) 1=true:=by
    rw [bU,bU,gA,cW,Dg]
    exact aH (by have:=aL;omega) (by omega)
   have hap:rI (bQ (key.take i))++rI (aQ 8 key[i].toNat)=rI (bQ (key.take (i+1))):=by rw [←Df hil,sC,iM]
   have hw2:gt .i64 ((i:Int)+1)=((i+1:Nat):Int):=by rw [ac (by omega) (by omega)];omega
   simp only [dD,d1,cond_true,aS key i hil,C9,hwb,hr,hrm,hap,hw2]
  ·have ht:key.take 7=key:=by rw [←hl];exact Dq
   have d1:decide (((7:Nat):Int)<(7:Int))=false:=rfl
   simp only [dD,d1,cond_false,ht]
 have hsl:(sev key).length=8:=by simp [sev]
 have hKl:(bQ key).length=56:=by rw [gA,hl]
 have e2:im 200000 ((rI (bQ key),((0:Int),())),([],()))=some ((),((sev key).map od,())):=by
  unfold im
  have:=cu (G:=fun X c=>dC 200000 X c.1.1 c.1.2.1 c.2.1) (fun i=>((rI (bQ key),((i:Int),())),(((sev key).take i).map od,()))) 8 ((),((sev key).map od,())) (fun X i hi=> ?_) (fun X=> ?_) 200000 0 (Dn _) (by decide)
  ·exact this
  ·have hil:i<(sev key).length:=by omega
   have d1:decide ((i:Int)<(8:Int))=true:=decide_eq_true (by omega)
   have hw1:gt .i64 ((7:Int)*(i:Int))=((7*i:Nat):Int):=by rw [ac (by omega) (by omega)];omega
   have hw3:gt .i64 (((7*i:Nat):Int)+7)=((7*i+7:Nat):Int):=by rw [ac (by omega) (by omega)];omega
   have hs:subI (rI (bQ key)) ((7*i:Nat):Int) ((7*i+7:Nat):Int)=some (rI (((bQ key).drop (7*i)).take 7)):=by
    rw [iE (rI (bQ key)) rfl rfl (by omega) (by rw [bU];omega),sO,sN,show 7*i+7-7*i=7 by omega]
   have hw:=word_ok (N:=200000) (((bQ key).drop (7*i)).take 7) (by rw [Dg];omega) (by decide)
   have hse:((toW (((bQ key).drop (7*i)).take 7):Nat):Int)=(sev key)[i]:=by simp [sev]
   obtain ⟨m,hm,hm2⟩:=aen key _ (Dw hil)
   have ho:=(aeU m hm2).2.1
   rw [←hm] at ho
   have hrm:ae ((((sev key).take i).map od).length+[od (sev key)[i]].length) 1=true:=by
    simp only [List.length_map,Dg,DA,DM]
    exact aH (by have:=aL;omega) (by omega)
   have hap:((sev key).take i).map od++[od (sev key)[i]]=((sev key).take (i+1)).map od:=by rw [←Df hil,DK];rfl
   have hw2:gt .i64 ((i:Int)+1)=((i+1:Nat):Int):=by rw [ac (by omega) (by omega)];omega
   simp only [dC,d1,cond_true,hw1,hw3,hs,C9,hw,hse,ho,hrm,hap,hw2]
  ·have ht:(sev key).take 8=sev key:=by rw [←hsl];exact Dq
   have d1:decide (((8:Nat):Int)<(8:Int))=false:=rfl
   simp only [dC,d1,cond_false,ht]
 have c1:decide (((key.length:Nat):Int)=7)=true:=decide_eq_true (by omega)
 unfold iJ
 rw [c1]
 simp only [DO,cond_false]
 rw [e1]
 simp only [C9]
 rw [e2]
 rfl
end Go.Proofs.YtolkfnemdejonaaGreatDoor.De
namespace Go.Proofs.YtolkfnemdejonaaGreatDoor.De
set_option maxRecDepth 100000
open Go.RowKit
set_option linter.unusedVariables false
set_option linter.unusedSimpArgs false
set_option maxRecDepth 100000
theorem seven8 (key block:List Int)(h1:AllB key)(h2:AllB block)(hk:key.length=7)(hb:block.length=8):∃ l,iV 200000 key block=some (l,0)∧kb 200000 key block=some (l,0)∧l.length=8∧AllB l:=by
 unfold iV kb
 have c1:decide (((key.length:Nat):Int)=7)=true:=decide_eq_true (by omega)
 rw [ag8 key hk h1,ag9 key hk h1,c1]
 simp only [C9,decide_true,DO,cond_false]
 have c2:decide (((block.length:Nat):Int)=8)=true:=decide_eq_true (by omega)
 rw [c2]
 simp only [DO,cond_false]
 have hsl:((sev key).map od).length=8:=by simp [sev]
 have hsB:AllB ((sev key).map od):=fun x hx=>by
  obtain ⟨s,hs,rfl⟩:=List.mem_map.1 hx
  obtain ⟨m,rfl,hm⟩:=aen key s hs
  exact (aeU m hm).2.2
 generalize (sev key).map od=sp at *
 have hrk:(bQ sp).length=64:=by rw [gA,hsl]
 have hrb:(bQ block).length=64:=by rw [gA,hb]
 rw [afm sp hsl hsB (by decide),afm block hb h2 (by decide),aeV sp (by omega) hsB (by decide),aeV block (by omega) h2 (by decide)]
 simp only [C9]
 rw [arl _ _ hrk hrb,asx _ _ hrk hrb]
 simp only [C9]
 have hv:=dK (yo (uc (bQ sp)) (bQ block))
 rw [ad0] at hv
 rw [ama _ (by omega) (by decide),anb _ (by omega) (by decide)]
 exact ⟨_,rfl,rfl,zW _ _,ass _ _⟩
end Go.Proofs.YtolkfnemdejonaaGreatDoor.De
namespace Go.Proofs.YtolkfnemdejonaaGreatDoor
set_option maxRecDepth 100000
set_option maxRecDepth 100000
theorem ah6:jy 200000=some (Do 0 (Do 1518500249 (Do 1859775393 Arr.nil))):=by kernel_rfl
end Go.Proofs.YtolkfnemdejonaaGreatDoor
namespace Go.Proofs.YtolkfnemdejonaaGreatDoor
set_option maxRecDepth 100000
open Go.RowKit
set_option linter.unusedVariables false
set_option linter.unusedSimpArgs false
set_option maxRecDepth 100000
def AllW (l:List Int):Prop:=∀ x∈l,0≤x∧x<4294967296
theorem AllW.get {l:List Int}(h:AllW l)(i:Nat)(hi:i<l.length):0≤l[i]∧l[i]<4294967296:=h _ (Dw hi)
theorem AllW.set {l:List Int}(h:AllW l)(i:Nat){x:Int}(hx:0≤x∧x<4294967296):AllW (l.set i x):=fun y hy=>by
 rcases List.mem_or_eq_of_mem_set hy with h1 | rfl
 ·exact h y h1
 ·exact hx
theorem w32 (x:Int):gt .u32 x=x % 4294967296:=IntKind.wrap_u32 x
theorem w32r (x:Int):0≤gt .u32 x∧gt .u32 x<4294967296:=by rw [w32];omega
theorem or32r (a b:Int):0≤bits .or .u32 a b∧bits .or .u32 a b<4294967296:=w32r _
theorem not32 (b:Int)(h:0≤b∧b<4294967296):bits .xor .u32 (if IntKind.signed .u32=true then (-1) else IntKind.max .u32) b=gt .u32 (4294967295-b):=by
 obtain ⟨x,rfl⟩:=Int.eq_ofNat_of_zero_le h.1
 show IntKind.u32.wrap ((BitVec.ofInt 32 4294967295 ^^^ BitVec.ofInt 32 (x:Int)).toNat:Int)=_
 have e1:(BitVec.ofInt 32 4294967295:BitVec 32)=BitVec.allOnes 32:=by decide
 rw [e1,BitVec.allOnes_xor,BitVec.toNat_not,BitVec.ofInt_natCast,BitVec.toNat_ofNat,w32,w32]
 have:x % 2 ^ 32=x:=Nat.mod_eq_of_lt (by omega)
 rw [this]
 omega
theorem drop4 (l:List Int)(i:Nat)(h:i+4≤l.length):(l.drop i).take (i+4-i)=[l[i],l[i+1],l[i+2],l[i+3]]:=by
 rw [show i+4-i=4 by omega,Dx (by omega),Dx (by omega),Dx (by omega),Dx (by omega)]
 rfl
section
variable {N:Nat}
theorem atX (u z y x:Int)(hx:0≤x∧x<256)(hy:0≤y∧y<256)(hz:0≤z∧z<256)(hu:0≤u∧u<256)(hN:100≤N):iG N [u,z,y,x] true=some (((x*256+y)*256+z)*256+u,0):=by
 show ahk N [u,z,y,x] true=_
 obtain ⟨M,rfl⟩:∃ M,N=M+5:=⟨N-5,by omega⟩
 have w3:gt .i64 ((0:Int)+1)=1:=by decide
 have w4:gt .i64 ((1:Int)+1)=2:=by decide
 have w5:gt .i64 ((2:Int)+1)=3:=by decide
 have w6:gt .i64 ((3:Int)+1)=4:=by decide
 have m0:gt .i64 ((8:Int)*0)=0:=by decide
 have m1:gt .i64 ((8:Int)*1)=8:=by decide
 have m2:gt .i64 ((8:Int)*2)=16:=by decide
 have m3:gt .i64 ((8:Int)*3)=24:=by decide
 have x1:gt .u64 x=x:=aR (by omega) (by omega)
 have y1:gt .u64 y=y:=aR (by omega) (by omega)
 have z1:gt .u64 z=z:=aR (by omega) (by omega)
 have u1:gt .u64 u=u:=aR (by omega) (by omega)
 have e0:(2:Int) ^ min (Db 0) (Dh IntKind.u64)=1:=by decide
 have e1:(2:Int) ^ min (Db 8) (Dh IntKind.u64)=256:=by decide
 have e2:(2:Int) ^ min (Db 16) (Dh IntKind.u64)=65536:=by decide
 have e3:(2:Int) ^ min (Db 24) (Dh IntKind.u64)=16777216:=by decide
 have u2:gt .u64 (u*1)=u:=by rw [Int.mul_one];exact u1
 have z2:gt .u64 (z*256)=z*256:=aR (by omega) (by omega)
 have y2:gt .u64 (y*65536)=y*65536:=aR (by omega) (by omega)
 have x2:gt .u64 (x*16777216)=x*16777216:=aR (by omega) (by omega)
 have o1:bits .or .u64 0 u=u:=by
  have:=Bj 0 u 0 (by decide) (by decide) (by decide) (by omega) (by simp;omega)
  simpa using this
 have o2:bits .or .u64 u (z*256)=z*256+u:=Bj u z 8 (by omega) (by show u.toNat<256;omega) (by omega) (by omega) (by show z.toNat*256<_;omega)
 have o3:bits .or .u64 (z*256+u) (y*65536)=y*65536+(z*256+u):=Bj (z*256+u) y 16 (by omega) (by show (z*256+u).toNat<65536;omega) (by omega) (by omega) (by show y.toNat*65536<_;omega)
 have o4:bits .or .u64 (y*65536+(z*256+u)) (x*16777216)=x*16777216+(y*65536+(z*256+u)):=Bj (y*65536+(z*256+u)) x 24 (by omega) (by show (y*65536+(z*256+u)).toNat<16777216;omega) (by omega) (by omega) (by show x.toNat*16777216<_;omega)
 have fin:x*16777216+(y*65536+(z*256+u))=((x*256+y)*256+z)*256+u:=by omega
 have g0:getI [u,z,y,x] (0:Int)=some u:=rfl
 have g1:getI [u,z,y,x] (1:Int)=some z:=rfl
 have g2:getI [u,z,y,x] (2:Int)=some y:=rfl
 have g3:getI [u,z,y,x] (3:Int)=some x:=rfl
 have l4:(([u,z,y,x]:List Int).length:Int)=4:=rfl
 rw [←fin]
 simp only [ahk,za,gl,CI,qS,l4,cond_false,cond_true,C9,w3,w4,w5,w6,m0,m1,m2,m3,x1,y1,z1,u1,e0,e1,e2,e3,u2,z2,y2,x2,o1,o2,o3,o4,g0,g1,g2,g3]
 simp [w3,w4,w5,w6,m1,m2,m3,x1,y1,z1,u1,e1,e2,e3,z2,y2,x2,o2,o3,o4,g0,g1,g2,g3]
def lew (l:List Int)(j:Nat):Int:=((l.getD (4*j+3) 0*256+l.getD (4*j+2) 0)*256+l.getD (4*j+1) 0)*256+l.getD (4*j) 0
theorem AllB.getD {l:List Int}(h:AllB l)(i:Nat):0≤l.getD i 0∧l.getD i 0<256:=by
 rw [List.getD_eq_getElem?_getD]
 cases hq:l[i]? with
 | none=>simp
 | some x=>exact h x (List.mem_of_getElem? hq)
theorem atR {l:List Int}(h:AllB l)(j:Nat):0≤lew l j∧lew l j<4294967296:=by
 have h0:=h.getD (4*j);have h1:=h.getD (4*j+1);have h2:=h.getD (4*j+2);have h3:=h.getD (4*j+3)
 unfold lew;omega
theorem pE {l:List Int}{i:Nat}(h:i<l.length):l.getD i 0=l[i]:=by simp [List.getD_eq_getElem?_getD,h]
theorem xo (hN:10000≤N)(b:Arr Int 64)(hb:AllB b.l)(h0:Arr Int 16):∀ (k M i:Nat) (h1:Arr Int 16),k+i=16→k<M→(∀ j,j<i→h1.l[j]? =some (lew b.l j))→
  ∃ h2:Arr Int 16,(∀ j,j<16→h2.l[j]? =some (lew b.l j))∧gl (fun X c=>gn N X c.1.1 c.1.2.1 c.2.1 c.2.2.1) M ((b,((i:Int),())),(h0,(h1,())))=some ((),(h0,(h2,())))
 | 0,M+1,i,h1,hk,hM,hw=>by
  have c1:¬ ((i:Int)<16):=by omega
  refine ⟨h1,fun j hj=>hw j (by omega), ?_⟩
  simp only [gl,gn,c1,decide_false,cond_false]
 | k+1,M+1,i,h1,hk,hM,hw=>by
  have hl:=h1.h
  have hbl:=b.h
  have c1:((i:Int)<16):=by omega
  have c2:(0:Int)≤(i:Int)∧(i:Int)<((16:Nat):Int):=by omega
  have e0:gt .i64 ((i:Int)+1)=((i+1:Nat):Int):=by rw [ac (by omega) (by omega)];omega
  have e1:Db (i:Int)=i:=Dd i
  have g1:h1.l[i]? =some (h1.l[i]'(by omega)):=List.getElem?_eq_getElem _
  have s1:gt .i64 ((4:Int)*(i:Int))=((4*i:Nat):Int):=by rw [ac (by omega) (by omega)];omega
  have s2:gt .i64 (((4*i:Nat):Int)+4)=((4*i+4:Nat):Int):=by rw [ac (by omega) (by omega)];omega
  have s6:subI b.l ((4*i:Nat):Int) ((4*i+4:Nat):Int)=some [b.l[4*i]'(by omega),b.l[4*i+1]'(by omega),b.l[4*i+2]'(by omega),b.l[4*i+3]'(by omega)]:=by
   rw [iE b.l rfl rfl (by omega) (by omega),drop4 b.l (4*i) (by omega)]
  have ba:=hb.get (4*i) (by omega)
  have bb:=hb.get (4*i+1) (by omega)
  have bc:=hb.get (4*i+2) (by omega)
  have bd:=hb.get (4*i+3) (by omega)
  have s7:=atX (N:=N) _ _ _ _ bd bc bb ba (by omega)
  have hlw:lew b.l i=((b.l[4*i+3]'(by omega)*256+b.l[4*i+2]'(by omega))*256+b.l[4*i+1]'(by omega))*256+b.l[4*i]'(by omega):=by
   unfold lew
   rw [pE (by omega),pE (by omega),pE (by omega),pE (by omega)]
  rw [←hlw] at s7
  have v1:gt .u32 (lew b.l i)=lew b.l i:=by have:=atR hb i;rw [w32];omega
  obtain ⟨h2,r1,r2⟩:=xo hN b hb h0 k M (i+1) (h1.set i (lew b.l i)) (by omega) (by omega) (fun j hj=>by
   show (h1.l.set i (lew b.l i))[j]? =_
   by_cases hji:j=i
   ·subst hji;rw [List.getElem?_set_self (by omega)]
   ·rw [List.getElem?_set_ne (by omega)];exact hw j (by omega))
  refine ⟨h2,r1, ?_⟩
  rw [ah]
  simp only [gn,c1,decide_true,cond_true,s1,s2,s6,C9,s7,c2,and_self,e1,g1,e0,v1]
  exact r2
theorem agZ (hN:10000≤N)(b:Arr Int 64)(hb:AllB b.l):∃ W:Arr Int 16,(∀ j,j<16→W.l[j]? =some (lew b.l j))∧pn N b=some W:=by
 obtain ⟨W,h1,h2⟩:=xo hN b hb ⟨Da 16 0,rfl⟩ 16 N 0 ⟨Da 16 0,rfl⟩ (by omega) (by omega) (fun j hj=>by omega)
 refine ⟨W,h1, ?_⟩
 have h2':qF N ((b,((0:Int),())),((⟨Da 16 0,rfl⟩:Arr Int 16),((⟨Da 16 0,rfl⟩:Arr Int 16),())))=some ((),((⟨Da 16 0,rfl⟩:Arr Int 16),(W,()))):=h2
 unfold pn
 refine (congrArg (fun o=>ne o _) h2').trans ?_
 rfl
end
theorem ahd (N:Nat)(x k:Int)(hk:k=3∨k=5∨k=7∨k=9∨k=11∨k=13∨k=15∨k=19):∃ r,0≤r∧r<4294967296∧cQ N x k=some r∧qi N x k=some r:=by
 rcases hk with rfl | rfl | rfl | rfl | rfl | rfl | rfl | rfl
 ·exact ⟨bits .or .u32 (gt .u32 (x*8)) (Dv x 536870912),(or32r _ _).1,(or32r _ _).2,by kernel_rfl,by kernel_rfl⟩
 ·exact ⟨bits .or .u32 (gt .u32 (x*32)) (Dv x 134217728),(or32r _ _).1,(or32r _ _).2,by kernel_rfl,by kernel_rfl⟩
 ·exact ⟨bits .or .u32 (gt .u32 (x*128)) (Dv x 33554432),(or32r _ _).1,(or32r _ _).2,by kernel_rfl,by kernel_rfl⟩
 ·exact ⟨bits .or .u32 (gt .u32 (x*512)) (Dv x 8388608),(or32r _ _).1,(or32r _ _).2,by kernel_rfl,by kernel_rfl⟩
 ·exact ⟨bits .or .u32 (gt .u32 (x*2048)) (Dv x 2097152),(or32r _ _).1,(or32r _ _).2,by kernel_rfl,by kernel_rfl⟩
 ·exact ⟨bits .or .u32 (gt .u32 (x*8192)) (Dv x 524288),(or32r _ _).1,(or32r _ _).2,by kernel_rfl,by kernel_rfl⟩
 ·exact ⟨bits .or .u32 (gt .u32 (x*32768)) (Dv x 131072),(or32r _ _).1,(or32r _ _).2,by kernel_rfl,by kernel_rfl⟩
 ·exact ⟨bits .or .u32 (gt .u32 (x*524288)) (Dv x 8192),(or32r _ _).1,(or32r _ _).2,by kernel_rfl,by kernel_rfl⟩
def ks04:Arr Int 3:=Do 0 (Do 1518500249 (Do 1859775393 Arr.nil))
def ta04:List (Arr Int 4):=[⟨[3,7,11,19],rfl⟩,⟨[3,5,9,13],rfl⟩,⟨[3,9,11,15],rfl⟩]
def tl04:List (List Int):=[[3,7,11,19],[3,5,9,13],[3,9,11,15]]
section
variable {N:Nat}
theorem at1 (i:Nat)(hi:i<48):gt .i64 (Int.tdiv (i:Int) 16)=((i / 16:Nat):Int):=by
 rw [DE (by omega),ac (by omega) (by omega)];omega
theorem mix_pair (q:Nat)(hq:q<3)(b c d:Int)(hb:0≤b∧b<4294967296):∃ m k,po N (q:Int) b c d=some m∧getI ks04.l (q:Int)=some k∧mJ N (q:Int) b c d=some (gt .u32 (m+k)):=by
 have hq:q=0∨q=1∨q=2:=by omega
 unfold po mJ
 rcases hq with rfl | rfl | rfl
 ·refine ⟨_,0,rfl,rfl, ?_⟩
  rw [not32 b hb]
  have h:=or32r (bits .and .u32 b c) (bits .and .u32 (gt .u32 (4294967295-b)) d)
  show some _=_
  congr 1
  generalize bits .or .u32 (bits .and .u32 b c) (bits .and .u32 (gt .u32 (4294967295-b)) d)=z at *
  rw [w32];omega
 ·exact ⟨_,1518500249,rfl,rfl,rfl⟩
 ·exact ⟨_,1859775393,rfl,rfl,rfl⟩
theorem aeM:((DB 48).all fun i=>match ku 0 (i:Int),fL 0 (i:Int) with | some a,some b=>decide (a=b)&&decide (0≤a)&&decide (a<16) | _,_=>false)=true:=by decide +kernel
theorem ac2 (i:Nat)(hi:i<48):∃ j:Nat,j<16∧ku N (i:Int)=some (j:Int)∧fL N (i:Int)=some (j:Int):=by
 have h:=List.all_eq_true.1 aeM i (List.mem_range.2 hi)
 show ∃ j:Nat,j<16∧ku 0 (i:Int)=some (j:Int)∧fL 0 (i:Int)=some (j:Int)
 revert h
 generalize ku 0 (i:Int)=x
 generalize fL 0 (i:Int)=y
 intro h
 split at h
 ·rename_i a b
  simp only [Bool.and_eq_true,decide_eq_true_eq] at h
  obtain ⟨⟨rfl,h1⟩,h2⟩:=h
  exact ⟨a.toNat,by omega,by rw [Int.toNat_of_nonneg h1],by rw [Int.toNat_of_nonneg h1]⟩
 ·cases h
theorem acP (i:Nat)(hi:i<48):∃ (a:Arr Int 4) (l:List Int) (k:Int),getI ta04 ((i / 16:Nat):Int)=some a∧getI a.l (DI (i:Int) 4)=some k∧getI tl04 ((i / 16:Nat):Int)=some l∧getI l (DI (i:Int) 4)=some k∧
  (k=3∨k=5∨k=7∨k=9∨k=11∨k=13∨k=15∨k=19):=by
 have e:DI (i:Int) 4=((i % 4:Nat):Int):=by rw [Dm (by omega)];omega
 rw [e]
 have hq:i / 16=0∨i / 16=1∨i / 16=2:=by omega
 have hr:i % 4=0∨i % 4=1∨i % 4=2∨i % 4=3:=by omega
 rcases hq with hq | hq | hq <;> rcases hr with hr | hr | hr | hr <;> rw [hq,hr] <;> exact ⟨_,_,_,rfl,rfl,rfl,rfl,by decide⟩
theorem steps_pair (hN:10000≤N)(blk:Arr Int 64)(hB:AllB blk.l)(W:Arr Int 16)(hW:∀ j,j<16→W.l[j]? =some (lew blk.l j))(s:Arr Int 4)(h0 h0':Arr Int 4):∀ (k M i:Nat) (t:Arr Int 4),k+i=48→k<M→AllW t.l→
  ∃ t2:Arr Int 4,AllW t2.l∧gl (fun X c=>ff N X c.1.1 c.1.2.1 c.1.2.2.1 c.2.1 c.2.2.1 c.2.2.2.1) M ((s,(ks04,((i:Int),()))),(h0,(W,(t,()))))=some ((s,()),(h0,(t2,())))∧
   gl (fun X c=>ew N X c.1.1 c.1.2.1 c.1.2.2.1 c.1.2.2.2.1 c.2.1 c.2.2.1) M ((s,(blk,(tl04,((i:Int),())))),(h0',(t,())))=some ((s,()),(h0',(t2,())))
 | 0,M+1,i,t,hk,hM,hw=>by
  have c1:¬ ((i:Int)<48):=by omega
  refine ⟨t,hw, ?_, ?_⟩
  ·simp only [gl,ff,c1,decide_false,cond_false]
  ·simp only [gl,ew,c1,decide_false,cond_false]
 | k+1,M+1,i,t,hk,hM,hw=>by
  have hbl:=blk.h
  have c1:((i:Int)<48):=by omega
  have e0:gt .i64 ((i:Int)+1)=((i+1:Nat):Int):=by rw [ac (by omega) (by omega)];omega
  have dq:=at1 i (by omega)
  obtain ⟨j,j1,j2,j3⟩:=ac2 (N:=N) i (by omega)
  obtain ⟨ar,lr,kk,k1,k2,k3,k4,k5⟩:=acP i (by omega)
  have c2:(0:Int)≤(j:Int)∧(j:Int)<((16:Nat):Int):=by omega
  have e1:Db (j:Int)=j:=Dd j
  have g1:=hW j j1
  have s1:gt .i64 ((4:Int)*(j:Int))=((4*j:Nat):Int):=by rw [ac (by omega) (by omega)];omega
  have s3:gt .i64 (((4*j:Nat):Int)+1)=((4*j+1:Nat):Int):=by rw [ac (by omega) (by omega)];omega
  have s4:gt .i64 (((4*j:Nat):Int)+2)=((4*j+2:Nat):Int):=by rw [ac (by omega) (by omega)];omega
  have s5:gt .i64 (((4*j:Nat):Int)+3)=((4*j+3:Nat):Int):=by rw [ac (by omega) (by omega)];omega
  have ba:=hB.get (4*j) (by omega)
  have bb:=hB.get (4*j+1) (by omega)
  have bc:=hB.get (4*j+2) (by omega)
  have bd:=hB.get (4*j+3) (by omega)
  have G0:=aS blk.l (4*j) (by omega)
  have G1:=aS blk.l (4*j+1) (by omega)
  have G2:=aS blk.l (4*j+2) (by omega)
  have G3:=aS blk.l (4*j+3) (by omega)
  have hlw:lew blk.l j=((blk.l[4*j+3]'(by omega)*256+blk.l[4*j+2]'(by omega))*256+blk.l[4*j+1]'(by omega))*256+blk.l[4*j]'(by omega):=by
   unfold lew
   rw [pE (by omega),pE (by omega),pE (by omega),pE (by omega)]
  generalize lew blk.l j=wj at *
  generalize hx:blk.l[4*j]'(by omega)=x at *
  generalize hy:blk.l[4*j+1]'(by omega)=y at *
  generalize hz:blk.l[4*j+2]'(by omega)=z at *
  generalize hu:blk.l[4*j+3]'(by omega)=u at *
  have v2:gt .u32 (gt .u32 (gt .u32 (gt .u32 x+gt .u32 (gt .u32 y*256))+gt .u32 (gt .u32 z*65536))+gt .u32 (gt .u32 u*16777216))=wj:=by
   simp only [w32];omega
  match t,hw with
  | ⟨[a,b,c,d],ht⟩,hw=>
   have ra:=hw a (by simp)
   have rb:=hw b (by simp)
   have rc:=hw c (by simp)
   have rd:=hw d (by simp)
   obtain ⟨m,kc,m1,m2,m3⟩:=mix_pair (N:=N) (i / 16) (by omega) b c d rb
   have z0:([a,b,c,d]:List Int)[Db 0]? =some a:=rfl
   have z1:([a,b,c,d]:List Int)[Db 1]? =some b:=rfl
   have z2:([a,b,c,d]:List Int)[Db 2]? =some c:=rfl
   have z3:([a,b,c,d]:List Int)[Db 3]? =some d:=rfl
   have x1:gt .u32 (gt .u32 (a+gt .u32 (m+kc))+wj)=gt .u32 (gt .u32 (gt .u32 (a+m)+wj)+kc):=by
    simp only [w32];omega
   obtain ⟨r,r1,r2,r3,r4⟩:=ahd N (gt .u32 (gt .u32 (gt .u32 (a+m)+wj)+kc)) kk k5
   obtain ⟨t2,q1,q2,q3⟩:=steps_pair hN blk hB W hW s h0 h0' k M (i+1) (Do d (Do r (Do b (Do c Arr.nil)))) (by omega) (by omega) (fun x hx=>by
    simp only [Do,Arr.nil,List.mem_cons,List.not_mem_nil,or_false] at hx
    rcases hx with rfl | rfl | rfl | rfl
    ·exact rd
    ·exact ⟨r1,r2⟩
    ·exact rb
    ·exact rc)
   refine ⟨t2,q1, ?_, ?_⟩
   ·rw [ah]
    unfold ta04 at k1
    simp only [ff,c1,decide_true,cond_true,z0,z1,z2,z3,C9,dq,m1,j2,c2,and_self,e1,g1,m2,k1,k2,r3,e0]
    exact q2
   ·rw [ah]
    simp only [ew,c1,decide_true,cond_true,z0,z1,z2,z3,C9,dq,j3,s1,s3,s4,s5,G0,G1,G2,G3,m3,k3,k4,v2,x1,r4,e0]
    exact q3
theorem add_pair (hN:10000≤N)(s h0:Arr Int 4)(hs:AllW s.l):∀ (k M i:Nat) (t:Arr Int 4),k+i=4→k<M→AllW t.l→
  ∃ t2:Arr Int 4,AllW t2.l∧gl (fun X c=>ez N X c.1.1 c.1.2.1 c.2.1 c.2.2.1) M ((s,((i:Int),())),(h0,(t,())))=some ((),(h0,(t2,())))∧(gl (fun X c=>dA N X c.1.1 c.1.2.1 c.2.1 c.2.2.1) M ((s,((i:Int),())),(h0,(t,())))=some ((),(h0,(t2,()))))
 | 0,M+1,i,t,hk,hM,hw=>by
  have c1:¬ ((i:Int)<4):=by omega
  refine ⟨t,hw, ?_, ?_⟩
  ·simp only [gl,ez,c1,decide_false,cond_false]
  ·simp only [gl,dA,c1,decide_false,cond_false]
 | k+1,M+1,i,t,hk,hM,hw=>by
  have hl:=t.h
  have hsl:=s.h
  have c1:((i:Int)<4):=by omega
  have c2:(0:Int)≤(i:Int)∧(i:Int)<((4:Nat):Int):=by omega
  have e0:gt .i64 ((i:Int)+1)=((i+1:Nat):Int):=by rw [ac (by omega) (by omega)];omega
  have e1:Db (i:Int)=i:=Dd i
  have g1:t.l[i]? =some (t.l[i]'(by omega)):=List.getElem?_eq_getElem _
  have g2:=aS s.l i (by omega)
  obtain ⟨t2,r1,r2,r3⟩:=add_pair hN s h0 hs k M (i+1) (t.set i (gt .u32 (t.l[i]'(by omega)+s.l[i]'(by omega)))) (by omega) (by omega) (hw.set i (w32r _))
  refine ⟨t2,r1, ?_, ?_⟩
  ·rw [ah]
   simp only [ez,c1,decide_true,cond_true,c2,and_self,e1,g1,g2,e0,C9]
   exact r2
  ·rw [ah]
   simp only [dA,c1,decide_true,cond_true,c2,and_self,e1,g1,g2,e0,C9]
   exact r3
theorem behind_pair (hN:10000≤N)(s:Arr Int 4)(b:Arr Int 64)(hs:AllW s.l)(hb:AllB b.l):∃ t:Arr Int 4,AllW t.l∧iw N s b ks04=some t∧ko N s b=some t:=by
 unfold iw ko
 obtain ⟨W,w1,w2⟩:=agZ (N:=N) hN b hb
 obtain ⟨t,t1,t2,t3⟩:=steps_pair (N:=N) hN b hb W w1 s ⟨Da 4 0,rfl⟩ ⟨Da 4 0,rfl⟩ 48 N 0 s (by omega) (by omega) hs
 have t2':pq N ((s,(ks04,((0:Int),()))),((⟨Da 4 0,rfl⟩:Arr Int 4),(W,(s,()))))=some ((s,()),((⟨Da 4 0,rfl⟩:Arr Int 4),(t,()))):=t2
 have t3':oF N ((s,(b,(tl04,((0:Int),())))),((⟨Da 4 0,rfl⟩:Arr Int 4),(s,())))=some ((s,()),((⟨Da 4 0,rfl⟩:Arr Int 4),(t,()))):=t3
 obtain ⟨u,u1,u2,u3⟩:=add_pair (N:=N) hN s ⟨Da 4 0,rfl⟩ hs 4 N 0 t (by omega) (by omega) t1
 have u2':oH N ((s,((0:Int),())),((⟨Da 4 0,rfl⟩:Arr Int 4),(t,())))=some ((),((⟨Da 4 0,rfl⟩:Arr Int 4),(u,()))):=u2
 have u3':mK N ((s,((0:Int),())),((⟨Da 4 0,rfl⟩:Arr Int 4),(t,())))=some ((),((⟨Da 4 0,rfl⟩:Arr Int 4),(u,()))):=u3
 refine ⟨u,u1, ?_, ?_⟩
 ·rw [w2,C9]
  refine (congrArg (fun o=>ne o _) t2').trans ?_
  simp only [C9]
  refine (congrArg (fun o=>ne o _) u2').trans ?_
  rfl
 ·refine (congrArg (fun o=>ne o _) t3').trans ?_
  simp only [C9]
  refine (congrArg (fun o=>ne o _) u3').trans ?_
  rfl
end
def le8 (n:Int):List Int:=[n % 256,n / 256 % 256,n / 65536 % 256,n / 16777216 % 256,n / 4294967296 % 256,n / 1099511627776 % 256,n / 281474976710656 % 256,n / 72057594037927936 % 256]
theorem atS (n:Int):AllB (le8 n):=fun x hx=>by
 simp only [le8,List.mem_cons,List.not_mem_nil,or_false] at hx
 rcases hx with rfl | rfl | rfl | rfl | rfl | rfl | rfl | rfl <;> omega
section
variable {N:Nat}
theorem put8 (n:Int)(h:0≤n∧n<18446744073709551616)(hN:100≤N):cD N n 8 true=some (le8 n,0):=by
 obtain ⟨M,rfl⟩:∃ M,N=M+9:=⟨N-9,by omega⟩
 have r1:ae (Db 8) 1=true:=by decide
 have r2:Da (Db 8) (0:Int)=[0,0,0,0,0,0,0,0]:=rfl
 have w1:gt .i64 ((8:Int)-1)=7:=by decide
 have v0:gt .i64 ((7:Int)-0)=7:=by decide
 have v1:gt .i64 ((7:Int)-1)=6:=by decide
 have v2:gt .i64 ((7:Int)-2)=5:=by decide
 have v3:gt .i64 ((7:Int)-3)=4:=by decide
 have v4:gt .i64 ((7:Int)-4)=3:=by decide
 have v5:gt .i64 ((7:Int)-5)=2:=by decide
 have v6:gt .i64 ((7:Int)-6)=1:=by decide
 have v7:gt .i64 ((7:Int)-7)=0:=by decide
 have w3:gt .i64 ((0:Int)+1)=1:=by decide
 have w4:gt .i64 ((1:Int)+1)=2:=by decide
 have w5:gt .i64 ((2:Int)+1)=3:=by decide
 have w6:gt .i64 ((3:Int)+1)=4:=by decide
 have w7:gt .i64 ((4:Int)+1)=5:=by decide
 have w8:gt .i64 ((5:Int)+1)=6:=by decide
 have w9:gt .i64 ((6:Int)+1)=7:=by decide
 have w10:gt .i64 ((7:Int)+1)=8:=by decide
 have e1:(2:Int) ^ min (Db 8) (Dh IntKind.u64)=256:=by decide
 have fd:∀ x:Int,Dv x 256=x / 256:=fun x=>Dy _ (by decide)
 have d2:n / 256 / 256=n / 65536:=by omega
 have d3:n / 65536 / 256=n / 16777216:=by omega
 have d4:n / 16777216 / 256=n / 4294967296:=by omega
 have d5:n / 4294967296 / 256=n / 1099511627776:=by omega
 have d6:n / 1099511627776 / 256=n / 281474976710656:=by omega
 have d7:n / 281474976710656 / 256=n / 72057594037927936:=by omega
 have u8:∀ x:Int,gt .u8 x=x % 256:=fun x=>by rw [DN]
 simp only [cD,gG,gl,fM,ey,r1,r2,e1,cond_false,cond_true,C9,w1,v0,v1,v2,v3,v4,v5,v6,v7,w3,w4,w5,w6,w7,w8,w9,w10]
 simp [w1,v0,v1,v2,v3,v4,v5,v6,v7,w3,w4,w5,w6,w7,w8,w9,w10,fd,d2,d3,d4,d5,d6,d7,u8,le8]
def nz (n:Int):Nat:=((119-n % 64) % 64).toNat
def qM (n:Int):List Int:=[128]++Da (nz n) 0++le8 (8*n % 18446744073709551616)
theorem nz_lt (n:Int):nz n<64:=by unfold nz;omega
theorem uC (n:Int):(qM n).length=nz n+9:=by simp [qM,le8]
theorem ad9 (n:Int):AllB (qM n):=by
 refine AllB.append (AllB.append (AllB.cons (by omega) AllB.nil) fun x hx=> ?_) (atS _)
 rw [(List.mem_replicate.1 hx).2];omega
theorem C1 (n:Int)(h:0≤n∧n<18446744073709551616)(hN:10000≤N):rH N n=some (qM n):=by
 unfold rH
 have hw:gt .u64 ((8:Int)*n)=8*n % 18446744073709551616:=by rw [IntKind.wrap_u64]
 have hz:DI (gt .u64 ((119:Int)-DI n 64)) 64=((nz n:Nat):Int):=by
  have hm:DI n 64=n % 64:=Dm h.1
  rw [hm,aR (by omega) (by omega),Dm (by omega)]
  unfold nz
  omega
 have hl:=nz_lt n
 have c1:((decide ((0:Int)≤((nz n:Nat):Int)∧((nz n:Nat):Int)≤((nz n:Nat):Int)))&&ae (nz n) 1)=true:=by
  have:ae (nz n) 1=true:=aH (by have:=aL;omega) (by omega)
  simp [this]
 rw [hw,put8 _ (by omega) (by omega),hz]
 simp only [C9,c1,cond_true,Dd]
 refine (vD (N:=N) [[128],Da (nz n) 0,le8 (8*n % 18446744073709551616)] (by simp) ?_ ?_).trans ?_
 all_goals first | omega | skip
 ·simp [le8];omega
 ·simp [qM]
theorem zeros_ok (n:Int)(h:0≤n∧n<18446744073709551616):∀ (k M:Nat) (l:List Int),k<M→l.length+k<1000→(n+l.length+k) % 64=56→k<64→
  gl (fun X c=>cC N X c.1.1 c.2.1) M ((n,()),(l,()))=some ((n,()),(l++Da k 0,()))
 | 0,M+1,l,hM,hl,hk,_=>by
  have e:DI (gt .u64 (n+gt .u64 (l.length:Int))) 64=56:=by
   rw [aR (x:=(l.length:Int)) (by omega) (by omega),IntKind.wrap_u64,Dm (by omega)];omega
  rw [ah]
  simp only [cC,e,decide_true,DO,cond_false,List.replicate_zero,List.append_nil]
 | k+1,M+1,l,hM,hl,hk,h64=>by
  have e:¬ DI (gt .u64 (n+gt .u64 (l.length:Int))) 64=56:=by
   rw [aR (x:=(l.length:Int)) (by omega) (by omega),IntKind.wrap_u64,Dm (by omega)];omega
  have r:ae (l.length+([(0:Int)]:List Int).length) 1=true:=aH (by have:=aL;simp;omega) (by simp;omega)
  rw [ah]
  simp only [cC,e,decide_false,Bool.not_false,cond_true,r]
  refine (zeros_ok n h k M (l++[0]) (by omega) (by simp;omega) (by simp;omega) (by omega)).trans ?_
  rw [List.replicate_succ,DJ];rfl
theorem ref04_tail_ok (n:Int)(h:0≤n∧n<18446744073709551616)(hN:10000≤N):fa N n=some ([128]++Da (nz n) 0++le8 (8*n % 18446744073709551616)):=by
 unfold fa
 have hl:=nz_lt n
 have hz:=zeros_ok (N:=N) n h (nz n) N [128] (by omega) (by simp;omega) (by unfold nz;simp;omega) hl
 refine (congrArg (fun o=>ne o _) hz).trans ?_
 simp only [C9]
 have hw:gt .u64 ((8:Int)*n)=8*n % 18446744073709551616:=by rw [IntKind.wrap_u64]
 rw [hw]
 have hb:0≤8*n % 18446744073709551616∧8*n % 18446744073709551616<18446744073709551616:=by omega
 generalize 8*n % 18446744073709551616=m at *
 have hpl:([128]++Da (nz n) (0:Int)).length=nz n+1:=by simp
 generalize [128]++Da (nz n) (0:Int)=p at *
 obtain ⟨M,rfl⟩:∃ M,N=M+9:=⟨N-9,by omega⟩
 have dv:∀ x:Int,0≤x→x<18446744073709551616→gt .u64 (Int.tdiv x 256)=x / 256:=fun x h1 h2=>by
  rw [DE h1,aR (by omega) (by omega)]
 have md:∀ x:Int,0≤x→gt .u8 (DI x 256)=x % 256:=fun x h1=>by
  rw [Dm h1,Ae (by omega) (by omega)]
 have st:∀ (K:Nat) (x:Int) (i:Nat) (q:List Int),i<8→0≤x→x<18446744073709551616→q.length<1000→gl (fun X c=>bS (M+9) X c.1.1 c.1.2.1 c.2.1) (K+1) ((x,((i:Int),())),(q,()))=gl (fun X c=>bS (M+9) X c.1.1 c.1.2.1 c.2.1) K ((x / 256,(((i+1:Nat):Int),())),(q++[x % 256],())):=fun K x i q hi h1 h2 hq=>by
  have c1:((i:Int)<8):=by omega
  have e0:gt .i64 ((i:Int)+1)=((i+1:Nat):Int):=by rw [ac (by omega) (by omega)];omega
  have r:∀ y:Int,ae (q.length+([y]:List Int).length) 1=true:=fun y=>aH (by have:=aL;simp;omega) (by simp;omega)
  rw [ah]
  simp only [bS,c1,decide_true,cond_true,md x h1,r,dv x h1 h2,e0]
 have fin:∀ (K:Nat) (x:Int) (q:List Int),gl (fun X c=>bS (M+9) X c.1.1 c.1.2.1 c.2.1) (K+1) ((x,(((8:Nat):Int),())),(q,()))=some ((),(q,())):=fun K x q=>by
  rw [ah]
  rfl
 have all:kg (M+9) ((m,((0:Int),())),(p,()))=some ((),(p++le8 m,())):=by
  refine (st (M+8) m 0 p (by omega) hb.1 hb.2 (by omega)).trans ?_
  refine (st (M+7) _ 1 _ (by omega) (by omega) (by omega) (by simp;omega)).trans ?_
  refine (st (M+6) _ 2 _ (by omega) (by omega) (by omega) (by simp;omega)).trans ?_
  refine (st (M+5) _ 3 _ (by omega) (by omega) (by omega) (by simp;omega)).trans ?_
  refine (st (M+4) _ 4 _ (by omega) (by omega) (by omega) (by simp;omega)).trans ?_
  refine (st (M+3) _ 5 _ (by omega) (by omega) (by omega) (by simp;omega)).trans ?_
  refine (st (M+2) _ 6 _ (by omega) (by omega) (by omega) (by simp;omega)).trans ?_
  refine (st (M+1) _ 7 _ (by omega) (by omega) (by omega) (by simp;omega)).trans ?_
  refine (fin M _ _).trans ?_
  have d2:m / 256 / 256=m / 65536:=by omega
  have d3:m / 65536 / 256=m / 16777216:=by omega
  have d4:m / 16777216 / 256=m / 4294967296:=by omega
  have d5:m / 4294967296 / 256=m / 1099511627776:=by omega
  have d6:m / 1099511627776 / 256=m / 281474976710656:=by omega
  have d7:m / 281474976710656 / 256=m / 72057594037927936:=by omega
  simp only [d2,d3,d4,d5,d6,d7,DJ,List.cons_append,List.nil_append,le8]
 refine (congrArg (fun o=>ne o _) all).trans ?_
 rfl
theorem wH (n:Int)(h:0≤n∧n<18446744073709551616)(hN:10000≤N):fa N n=some (qM n):=ref04_tail_ok n h hN
end
theorem flat_len (m:List (List Int))(k:Nat)(h:∀ p∈m,p.length≤k):m.flatten.length≤k*m.length:=by
 induction m with
 | nil=>simp
 | cons p m ih=>
  have h1:=h p List.mem_cons_self
  have h2:=ih fun q hq=>h q (List.mem_cons_of_mem _ hq)
  rw [List.flatten_cons,Dj,DA,Nat.mul_add]
  omega
section
variable {N:Nat}
theorem joinS (l:List (List Int))(h0:Arr Int 16)(hl:l.length≤1000)(hs:∀ p∈l,p.length≤100000)(hN:2000≤N):
  gJ N ((l,((0:Int),(l,((l.length:Int),((0:Int),()))))),(h0,()))=some ((l,((l.flatten.length:Int),())),(h0,()))∧
  gI N ((l,((l.length:Int),((0:Int),()))),(h0,(([]:List Int),())))=some ((),(h0,(l.flatten,()))):=by
 have tk:∀ i,(l.take i).flatten.length≤100000000:=fun i=>by
  have:=flat_len (l.take i) 100000 fun p hp=>hs p (List.mem_of_mem_take hp)
  rw [Dg] at this
  omega
 have hsn:∀ i (hi:i<l.length),(l.take (i+1)).flatten=(l.take i).flatten++l[i]:=fun i hi=>by
  have:l.take (i+1)=l.take i++[l[i]]:=by rw [List.take_add_one,List.getElem?_eq_getElem hi];rfl
  rw [this,List.flatten_append]
  simp
 have h1:=cu (G:=fun (X:((List (List Int)×Int×List (List Int)×Int×Int×Unit)×Arr Int 16×Unit)→Option ((List (List Int)×Int×Unit)×Arr Int 16×Unit)) c=>bM N X c.1.1 c.1.2.1 c.1.2.2.1 c.1.2.2.2.1 c.1.2.2.2.2.1 c.2.1)
  (fun i=>((l,(((l.take i).flatten.length:Int),(l,((l.length:Int),((i:Int),()))))),(h0,()))) l.length ((l,((l.flatten.length:Int),())),(h0,())) (fun X i hi=>by
  have c1:((i:Int)<(l.length:Int)):=by omega
  have c2:gt .i64 ((i:Int)+1)=((i+1:Nat):Int):=by rw [ac (by omega) (by omega)];omega
  have hp:=hs _ (Dw hi)
  have ht:=tk i
  have c3:gt .i64 (((l.take i).flatten.length:Int)+(l[i].length:Int))=(((l.take (i+1)).flatten.length:Nat):Int):=by rw [ac (by omega) (by omega),hsn i hi,Dj];omega
  simp only [bM,c1,decide_true,cond_true,aS l i hi,C9,c3,c2]) (fun X=>by
  simp [bM]) N 0 (by omega) (by omega)
 have h2:=cu (G:=fun (X:((List (List Int)×Int×Int×Unit)×Arr Int 16×List Int×Unit)→Option (Unit×Arr Int 16×List Int×Unit)) c=>bL N X c.1.1 c.1.2.1 c.1.2.2.1 c.2.1 c.2.2.1)
  (fun i=>((l,((l.length:Int),((i:Int),()))),(h0,((l.take i).flatten,())))) l.length ((),(h0,(l.flatten,()))) (fun X i hi=>by
  have c1:((i:Int)<(l.length:Int)):=by omega
  have c2:gt .i64 ((i:Int)+1)=((i+1:Nat):Int):=by rw [ac (by omega) (by omega)];omega
  have hp:=hs _ (Dw hi)
  have ht:=tk i
  have c3:ae ((l.take i).flatten.length+l[i].length) 1=true:=aH (by have:=aL;omega) (by omega)
  simp only [bL,c1,decide_true,cond_true,aS l i hi,C9,c3,c2,hsn i hi]) (fun X=>by
  simp [bL]) N 0 (by omega) (by omega)
 simp only [Int.natCast_zero,List.take_zero,List.flatten_nil,DM] at h1 h2
 exact ⟨h1,h2⟩
theorem ahl (n:Int)(h:0≤n∧n<4294967296)(hN:100≤N):cD N (gt .u64 n) 4 true=some ([n % 256,n / 256 % 256,n / 65536 % 256,n / 16777216 % 256],0):=by
 rw [aR (by omega) (by omega)]
 show ac1 N n 4 true=_
 obtain ⟨M,rfl⟩:∃ M,N=M+5:=⟨N-5,by omega⟩
 have r1:ae (Db 4) 1=true:=by decide
 have r2:Da (Db 4) (0:Int)=[0,0,0,0]:=rfl
 have w3:gt .i64 ((0:Int)+1)=1:=by decide
 have w4:gt .i64 ((1:Int)+1)=2:=by decide
 have w5:gt .i64 ((2:Int)+1)=3:=by decide
 have w6:gt .i64 ((3:Int)+1)=4:=by decide
 have e1:(2:Int) ^ min (Db 8) (Dh IntKind.u64)=256:=by decide
 have d1:Dv n 256=n / 256:=Dy n (by decide)
 have d2:Dv (n / 256) 256=n / 65536:=by rw [Dy _ (by decide)];omega
 have d3:Dv (n / 65536) 256=n / 16777216:=by rw [Dy _ (by decide)];omega
 have w7:gt .u8 n=n % 256:=by rw [DN]
 have w8:gt .u8 (n / 256)=n / 256 % 256:=by rw [DN]
 have w9:gt .u8 (n / 65536)=n / 65536 % 256:=by rw [DN]
 have w10:gt .u8 (n / 16777216)=n / 16777216 % 256:=by rw [DN]
 simp only [ac1,ul,gl,y9,qS,r1,r2,e1,cond_false,cond_true,C9,w3,w4,w5,w6]
 simp [w3,w4,w5,w6,d1,d2,d3,w7,w8,w9,w10]
def by4 (n:Int):List Int:=[n % 256,n / 256 % 256,n / 65536 % 256,n / 16777216 % 256]
theorem by4_B (n:Int):AllB (by4 n):=fun x hx=>by
 simp only [by4,List.mem_cons,List.not_mem_nil,or_false] at hx
 rcases hx with rfl | rfl | rfl | rfl <;> omega
theorem digest_ok (a b c d:Int)(ht:([a,b,c,d]:List Int).length=4)(ha:AllW [a,b,c,d])(hN:10000≤N):∃ D:Arr Int 16,D.l=by4 a++by4 b++by4 c++by4 d∧mP N ⟨[a,b,c,d],ht⟩=some D:=by
 obtain ⟨M,rfl⟩:∃ M,N=M+6:=⟨N-6,by omega⟩
 have pa:=ahl (N:=M+6) a (ha a (by simp)) (by omega)
 have pb:=ahl (N:=M+6) b (ha b (by simp)) (by omega)
 have pc:=ahl (N:=M+6) c (ha c (by simp)) (by omega)
 have pd:=ahl (N:=M+6) d (ha d (by simp)) (by omega)
 have w3:gt .i64 ((0:Int)+1)=1:=by decide
 have w4:gt .i64 ((1:Int)+1)=2:=by decide
 have w5:gt .i64 ((2:Int)+1)=3:=by decide
 have w6:gt .i64 ((3:Int)+1)=4:=by decide
 have z0:getI ([a,b,c,d]:List Int) 0=some a:=rfl
 have z1:getI ([a,b,c,d]:List Int) 1=some b:=rfl
 have z2:getI ([a,b,c,d]:List Int) 2=some c:=rfl
 have z3:getI ([a,b,c,d]:List Int) 3=some d:=rfl
 have l0:(decide ((0:Int)<4))=true:=rfl
 have l1:(decide ((1:Int)<4))=true:=rfl
 have l2:(decide ((2:Int)<4))=true:=rfl
 have l3:(decide ((3:Int)<4))=true:=rfl
 have rm:∀ (p:List Int) (u v x y:Int),p.length<100→ae (p.length+([u,v,x,y]:List Int).length) 1=true:=fun p u v x y hp=>aH (by have:=aL;simp;omega) (by simp;omega)
 have step:∀ (K:Nat) (i j:Int) (n:Int) (p:List Int) (h0:Arr Int 16),decide (i<4)=true→getI ([a,b,c,d]:List Int) i=some n→cD (M+6) (gt .u64 n) 4 true=some (by4 n,0)→gt .i64 (i+1)=j→p.length<100→
   gl (fun X c=>dW (M+6) X c.1.1 c.1.2.1 c.2.1 c.2.2.1) (K+1) (((⟨[a,b,c,d],ht⟩:Arr Int 4),(i,())),(h0,(p,())))=gl (fun X c=>dW (M+6) X c.1.1 c.1.2.1 c.2.1 c.2.2.1) K (((⟨[a,b,c,d],ht⟩:Arr Int 4),(j,())),(h0,(p++by4 n,()))):=fun K i j n p h0 q1 q2 q3 q4 q5=>by
  rw [ah]
  have r:=rm p (n % 256) (n / 256 % 256) (n / 65536 % 256) (n / 16777216 % 256) q5
  have r:ae (p.length+(by4 n).length) 1=true:=r
  simp only [dW,q1,cond_true,q2,C9,q3,r,q4]
 have fin:∀ (K:Nat) (p:List Int) (h0:Arr Int 16),gl (fun X c=>dW (M+6) X c.1.1 c.1.2.1 c.2.1 c.2.2.1) (K+1) (((⟨[a,b,c,d],ht⟩:Arr Int 4),((4:Int),())),(h0,(p,())))=some ((),(h0,(p,()))):=fun K p h0=>by
  rw [ah];rfl
 have all:∀ h0:Arr Int 16,pp (M+6) (((⟨[a,b,c,d],ht⟩:Arr Int 4),((0:Int),())),(h0,(([]:List Int),())))=some ((),(h0,(by4 a++by4 b++by4 c++by4 d,()))):=fun h0=>by
  refine (step (M+5) 0 1 a [] h0 l0 z0 pa w3 (by simp)).trans ?_
  refine (step (M+4) 1 2 b _ h0 l1 z1 pb w4 (by simp [by4])).trans ?_
  refine (step (M+3) 2 3 c _ h0 l2 z2 pc w5 (by simp [by4])).trans ?_
  refine (step (M+2) 3 4 d _ h0 l3 z3 pd w6 (by simp [by4])).trans ?_
  exact fin (M+1) _ h0
 have hl:(by4 a++by4 b++by4 c++by4 d).length=16:=by simp [by4]
 unfold mP
 rw [all,C9]
 refine ⟨⟨(by4 a++by4 b++by4 c++by4 d).take 16,by rw [Dg,hl];rfl⟩, ?_, ?_⟩
 ·exact List.take_of_length_le (by omega)
 ·have:eW 16 (by4 a++by4 b++by4 c++by4 d)=some ⟨(by4 a++by4 b++by4 c++by4 d).take 16,by rw [Dg,hl];rfl⟩:=dif_pos (by omega)
  simp only [this,C9]
end
end Go.Proofs.YtolkfnemdejonaaGreatDoor
