/-
  Parts of my own, one behind the other: GCpB, GCp.
-/
import Derived.Test.YtkcdnjgieabjoaaGreatDoorMrg8
namespace Go.Proofs.YtkcdnjgieabjoaaGreatDoor
open Go.RowKit
set_option linter.unusedVariables false
set_option maxRecDepth 100000
section
variable (N:Nat)
noncomputable def abo:LI:=⟨169,0,[],⟨[(0,.ty .str)],[]⟩,[(.exit 2,⟨[(0,.ty .str)],[]⟩)]⟩
noncomputable def aaF (X:pz25→Option (pz25))(s0:List UInt8):Option (pz25):=
 bif (decide ((32:Int)<(((List.length s0):Nat):Int))) then
  Option.bind (aaq N s0) fun v3=>
  Option.bind (abe s0 (8:Int)) fun (v4:(List UInt8))=>
  Option.bind (aaq N v4) fun v5=>
  Option.bind (abe s0 (16:Int)) fun (v6:(List UInt8))=>
  Option.bind (aaq N v6) fun v7=>
  Option.bind (abe s0 (24:Int)) fun (v8:(List UInt8))=>
  Option.bind (aaq N v8) fun v9=>
  bif (cond true (decide ((bits .and .u64 (bits .or .u64 (bits .or .u64 v3 v5) (bits .or .u64 v7 v9)) (9259542123273814144:Int))=(0:Int))) false) then
   Option.bind (abe s0 (32:Int)) fun (v10:(List UInt8))=>
   (X ((v10,()),()))
  else
   some (((s0,()),()))
 else
  some (((s0,()),()))
noncomputable def acC (c:pz25):Option (pz25):=gl (fun X c=>aaF N X c.1.1) N c
theorem aeY (X:pz25→Option (pz25))(s0:List UInt8):(aal Tryz.prog (Ev93 N) 400 [147] abo (aah Tryz.prog [147] 9) X ((s0,()),())).run=aaF N X s0:=by kernel_rfl
noncomputable def Ev94:(R:Type)→Env R:=Env.addLp (Ev93 N) [147] 0 9 (fun R=>lpK Tryz.prog abo (fun X c=>aaF N X c.1.1) N)
theorem aAO (R:Type):EnvOK Tryz.prog (Ev94 N R):=EnvOK.addLp (aAP N R) (by kernel_rfl) (aao (li:=abo) hmx (aAP N _) (by kernel_rfl) aaa (fun X c=>aeY N X c.1.1) N)
noncomputable def abp:LI:=⟨169,0,[],⟨[(0,.ty .str)],[]⟩,[(.ret,⟨[(2,.ty .bool)],[]⟩),(.exit 0,⟨[],[]⟩)]⟩
noncomputable def aad (X:pz25→Option ((((Bool×Unit)×Unit) ⊕ (Unit×Unit))))(s0:List UInt8):Option ((((Bool×Unit)×Unit) ⊕ (Unit×Unit))):=
 bif (decide ((0:Int)<(((List.length s0):Nat):Int))) then
  Option.bind (getI s0 (0:Int)) fun (v3:UInt8)=>
  bif (decide ((((@UInt8.toNat v3):Nat):Int)<(128:Int))) then
   Option.bind (abe s0 (1:Int)) fun (v4:(List UInt8))=>
   bif (decide ((8:Int)<(((List.length v4):Nat):Int))) then
    Option.bind (aaq N v4) fun v5=>
    Option.bind (some ((cond true (decide ((bits .and .u64 v5 (9259542123273814144:Int))=(0:Int))) false))) fun (v6:Bool)=>
    bif v6 then
     Option.bind (abe v4 (8:Int)) fun (v7:(List UInt8))=>
     bif (decide ((16:Int)<(((List.length v7):Nat):Int))) then
      Option.bind (aaq N v7) fun v8=>
      Option.bind (abe v7 (8:Int)) fun (v9:(List UInt8))=>
      Option.bind (aaq N v9) fun v10=>
      bif (cond true (decide ((bits .and .u64 (bits .or .u64 v8 v10) (9259542123273814144:Int))=(0:Int))) false) then
       Option.bind (abe v7 (16:Int)) fun (v11:(List UInt8))=>
       Option.bind (acC N ((v11,()),())) fun v12=>
       (X ((v12.1.1,()),()))
      else
       (X ((v7,()),()))
     else
      (X ((v7,()),()))
    else
     (X ((v4,()),()))
   else
    (X ((v4,()),()))
  else
   Option.bind (getI (@List.cons Int (240:Int) (@List.cons Int (240:Int) (@List.cons Int (240:Int) (@List.cons Int (240:Int) (@List.cons Int (240:Int) (@List.cons Int (240:Int) (@List.cons Int (240:Int) (@List.cons Int (240:Int) (@List.cons Int (240:Int) (@List.cons Int (240:Int) (@List.cons Int (240:Int) (@List.cons Int (240:Int) (@List.cons Int (240:Int) (@List.cons Int (240:Int) (@List.cons Int (240:Int) (@List.cons Int (240:Int) (@List.cons Int (240:Int) (@List.cons Int (240:Int) (@List.cons Int (240:Int) (@List.cons Int (240:Int) (@List.cons Int (240:Int) (@List.cons Int (240:Int) (@List.cons Int (240:Int) (@List.cons Int (240:Int) (@List.cons Int (240:Int) (@List.cons Int (240:Int) (@List.cons Int (240:Int) (@List.cons Int (240:Int) (@List.cons Int (240:Int) (@List.cons Int (240:Int) (@List.cons Int (240:Int) (@List.cons Int (240:Int) (@List.cons Int (240:Int) (@List.cons Int (240:Int) (@List.cons Int (240:Int) (@List.cons Int (240:Int) (@List.cons Int (240:Int) (@List.cons Int (240:Int) (@List.cons Int (240:Int) (@List.cons Int (240:Int) (@List.cons Int (240:Int) (@List.cons Int (240:Int) (@List.cons Int (240:Int) (@List.cons Int (240:Int) (@List.cons Int (240:Int) (@List.cons Int (240:Int) (@List.cons Int (240:Int) (@List.cons Int (240:Int) (@List.cons Int (240:Int) (@List.cons Int (240:Int) (@List.cons Int (240:Int) (@List.cons Int (240:Int) (@List.cons Int (240:Int) (@List.cons Int (240:Int) (@List.cons Int (240:Int) (@List.cons Int (240:Int) (@List.cons Int (240:Int) (@List.cons Int (240:Int) (@List.cons Int (240:Int) (@List.cons Int (240:Int) (@List.cons Int (240:Int) (@List.cons Int (240:Int) (@List.cons Int (240:Int) (@List.cons Int (240:Int) (@List.cons Int (240:Int) (@List.cons Int (240:Int) (@List.cons Int (240:Int) (@List.cons Int (240:Int) (@List.cons Int (240:Int) (@List.cons Int (240:Int) (@List.cons Int (240:Int) (@List.cons Int (240:Int) (@List.cons Int (240:Int) (@List.cons Int (240:Int) (@List.cons Int (240:Int) (@List.cons Int (240:Int) (@List.cons Int (240:Int) (@List.cons Int (240:Int) (@List.cons Int (240:Int) (@List.cons Int (240:Int) (@List.cons Int (240:Int) (@List.cons Int (240:Int) (@List.cons Int (240:Int) (@List.cons Int (240:Int) (@List.cons Int (240:Int) (@List.cons Int (240:Int) (@List.cons Int (240:Int) (@List.cons Int (240:Int) (@List.cons Int (240:Int) (@List.cons Int (240:Int) (@List.cons Int (240:Int) (@List.cons Int (240:Int) (@List.cons Int (240:Int) (@List.cons Int (240:Int) (@List.cons Int (240:Int) (@List.cons Int (240:Int) (@List.cons Int (240:Int) (@List.cons Int (240:Int) (@List.cons Int (240:Int) (@List.cons Int (240:Int) (@List.cons Int (240:Int) (@List.cons Int (240:Int) (@List.cons Int (240:Int) (@List.cons Int (240:Int) (@List.cons Int (240:Int) (@List.cons Int (240:Int) (@List.cons Int (240:Int) (@List.cons Int (240:Int) (@List.cons Int (240:Int) (@List.cons Int (240:Int) (@List.cons Int (240:Int) (@List.cons Int (240:Int) (@List.cons Int (240:Int) (@List.cons Int (240:Int) (@List.cons Int (240:Int) (@List.cons Int (240:Int) (@List.cons Int (240:Int) (@List.cons Int (240:Int) (@List.cons Int (240:Int) (@List.cons Int (240:Int) (@List.cons Int (240:Int) (@List.cons Int (240:Int) (@List.cons Int (240:Int) (@List.cons Int (240:Int) (@List.cons Int (240:Int) (@List.cons Int (240:Int) (@List.cons Int (240:Int) (@List.cons Int (240:Int) (@List.cons Int (241:Int) (@List.cons Int (241:Int) (@List.cons Int (241:Int) (@List.cons Int (241:Int) (@List.cons Int (241:Int) (@List.cons Int (241:Int) (@List.cons Int (241:Int) (@List.cons Int (241:Int) (@List.cons Int (241:Int) (@List.cons Int (241:Int) (@List.cons Int (241:Int) (@List.cons Int (241:Int) (@List.cons Int (241:Int) (@List.cons Int (241:Int) (@List.cons Int (241:Int) (@List.cons Int (241:Int) (@List.cons Int (241:Int) (@List.cons Int (241:Int) (@List.cons Int (241:Int) (@List.cons Int (241:Int) (@List.cons Int (241:Int) (@List.cons Int (241:Int) (@List.cons Int (241:Int) (@List.cons Int (241:Int) (@List.cons Int (241:Int) (@List.cons Int (241:Int) (@List.cons Int (241:Int) (@List.cons Int (241:Int) (@List.cons Int (241:Int) (@List.cons Int (241:Int) (@List.cons Int (241:Int) (@List.cons Int (241:Int) (@List.cons Int (241:Int) (@List.cons Int (241:Int) (@List.cons Int (241:Int) (@List.cons Int (241:Int) (@List.cons Int (241:Int) (@List.cons Int (241:Int) (@List.cons Int (241:Int) (@List.cons Int (241:Int) (@List.cons Int (241:Int) (@List.cons Int (241:Int) (@List.cons Int (241:Int) (@List.cons Int (241:Int) (@List.cons Int (241:Int) (@List.cons Int (241:Int) (@List.cons Int (241:Int) (@List.cons Int (241:Int) (@List.cons Int (241:Int) (@List.cons Int (241:Int) (@List.cons Int (241:Int) (@List.cons Int (241:Int) (@List.cons Int (241:Int) (@List.cons Int (241:Int) (@List.cons Int (241:Int) (@List.cons Int (241:Int) (@List.cons Int (241:Int) (@List.cons Int (241:Int) (@List.cons Int (241:Int) (@List.cons Int (241:Int) (@List.cons Int (241:Int) (@List.cons Int (241:Int) (@List.cons Int (241:Int) (@List.cons Int (241:Int) (@List.cons Int (241:Int) (@List.cons Int (241:Int) (@List.cons Int (2:Int) (@List.cons Int (2:Int) (@List.cons Int (2:Int) (@List.cons Int (2:Int) (@List.cons Int (2:Int) (@List.cons Int (2:Int) (@List.cons Int (2:Int) (@List.cons Int (2:Int) (@List.cons Int (2:Int) (@List.cons Int (2:Int) (@List.cons Int (2:Int) (@List.cons Int (2:Int) (@List.cons Int (2:Int) (@List.cons Int (2:Int) (@List.cons Int (2:Int) (@List.cons Int (2:Int) (@List.cons Int (2:Int) (@List.cons Int (2:Int) (@List.cons Int (2:Int) (@List.cons Int (2:Int) (@List.cons Int (2:Int) (@List.cons Int (2:Int) (@List.cons Int (2:Int) (@List.cons Int (2:Int) (@List.cons Int (2:Int) (@List.cons Int (2:Int) (@List.cons Int (2:Int) (@List.cons Int (2:Int) (@List.cons Int (2:Int) (@List.cons Int (2:Int) (@List.cons Int (19:Int) (@List.cons Int (3:Int) (@List.cons Int (3:Int) (@List.cons Int (3:Int) (@List.cons Int (3:Int) (@List.cons Int (3:Int) (@List.cons Int (3:Int) (@List.cons Int (3:Int) (@List.cons Int (3:Int) (@List.cons Int (3:Int) (@List.cons Int (3:Int) (@List.cons Int (3:Int) (@List.cons Int (3:Int) (@List.cons Int (35:Int) (@List.cons Int (3:Int) (@List.cons Int (3:Int) (@List.cons Int (52:Int) (@List.cons Int (4:Int) (@List.cons Int (4:Int) (@List.cons Int (4:Int) (@List.cons Int (68:Int) (@List.cons Int (241:Int) (@List.cons Int (241:Int) (@List.cons Int (241:Int) ([241,241,241,241,241,241,241,241]:List Int))))))))))))))))))))))))))))))))))))))))))))))))))))))))))))))))))))))))))))))))))))))))))))))))))))))))))))))))))))))))))))))))))))))))))))))))))))))))))))))))))))))))))))))))))))))))))))))))))))))))))))))))))))))))))))))))))))))))))))))))))))))))) (((@UInt8.toNat v3):Nat):Int)) fun (v4:Int)=>
   Option.bind (getI ([((128:Int),(191:Int)),((160:Int),(191:Int)),((128:Int),(159:Int)),((144:Int),(191:Int)),((128:Int),(143:Int)),((0:Int),(0:Int)),((0:Int),(0:Int)),((0:Int),(0:Int)),((0:Int),(0:Int)),((0:Int),(0:Int)),((0:Int),(0:Int)),((0:Int),(0:Int)),((0:Int),(0:Int)),((0:Int),(0:Int)),((0:Int),(0:Int)),((0:Int),(0:Int))]:List ((Int×Int))) (@Int.fdiv v4 ((2:Int) ^ (min (Int.toNat (4:Int)) (IntKind.bits .u8))))) fun (v5:(Int×Int))=>
   bif (decide ((IntKind.wrap .i64 (bits .and .u8 v4 (7:Int)))=(2:Int))) then
    bif (decide ((((List.length s0):Nat):Int)<(2:Int))) then
     some ((.inl ((false,()),())))
    else
     Option.bind (getI s0 (1:Int)) fun (v6:UInt8)=>
     bif (cond false true (decide ((((@UInt8.toNat v6):Nat):Int)<v5.1))) then
      some ((.inl ((false,()),())))
     else
      Option.bind (getI s0 (1:Int)) fun (v7:UInt8)=>
      bif (cond false true (decide (v5.2<(((@UInt8.toNat v7):Nat):Int)))) then
       some ((.inl ((false,()),())))
      else
       Option.bind (abe s0 (2:Int)) fun (v8:(List UInt8))=>
       (X ((v8,()),()))
   else
    bif (decide ((IntKind.wrap .i64 (bits .and .u8 v4 (7:Int)))=(3:Int))) then
     bif (decide ((((List.length s0):Nat):Int)<(3:Int))) then
      some ((.inl ((false,()),())))
     else
      Option.bind (getI s0 (1:Int)) fun (v6:UInt8)=>
      bif (cond false true (decide ((((@UInt8.toNat v6):Nat):Int)<v5.1))) then
       some ((.inl ((false,()),())))
      else
       Option.bind (getI s0 (1:Int)) fun (v7:UInt8)=>
       bif (cond false true (decide (v5.2<(((@UInt8.toNat v7):Nat):Int)))) then
        some ((.inl ((false,()),())))
       else
        Option.bind (getI s0 (2:Int)) fun (v8:UInt8)=>
        bif (cond false true (decide ((((@UInt8.toNat v8):Nat):Int)<(128:Int)))) then
         some ((.inl ((false,()),())))
        else
         Option.bind (getI s0 (2:Int)) fun (v9:UInt8)=>
         bif (cond false true (decide ((191:Int)<(((@UInt8.toNat v9):Nat):Int)))) then
          some ((.inl ((false,()),())))
         else
          Option.bind (abe s0 (3:Int)) fun (v10:(List UInt8))=>
          (X ((v10,()),()))
    else
     bif (decide ((IntKind.wrap .i64 (bits .and .u8 v4 (7:Int)))=(4:Int))) then
      bif (decide ((((List.length s0):Nat):Int)<(4:Int))) then
       some ((.inl ((false,()),())))
      else
       Option.bind (getI s0 (1:Int)) fun (v6:UInt8)=>
       bif (cond false true (decide ((((@UInt8.toNat v6):Nat):Int)<v5.1))) then
        some ((.inl ((false,()),())))
       else
        Option.bind (getI s0 (1:Int)) fun (v7:UInt8)=>
        bif (cond false true (decide (v5.2<(((@UInt8.toNat v7):Nat):Int)))) then
         some ((.inl ((false,()),())))
        else
         Option.bind (getI s0 (2:Int)) fun (v8:UInt8)=>
         bif (cond false true (decide ((((@UInt8.toNat v8):Nat):Int)<(128:Int)))) then
          some ((.inl ((false,()),())))
         else
          Option.bind (getI s0 (2:Int)) fun (v9:UInt8)=>
          bif (cond false true (decide ((191:Int)<(((@UInt8.toNat v9):Nat):Int)))) then
           some ((.inl ((false,()),())))
          else
           Option.bind (getI s0 (3:Int)) fun (v10:UInt8)=>
           bif (cond false true (decide ((((@UInt8.toNat v10):Nat):Int)<(128:Int)))) then
            some ((.inl ((false,()),())))
           else
            Option.bind (getI s0 (3:Int)) fun (v11:UInt8)=>
            bif (cond false true (decide ((191:Int)<(((@UInt8.toNat v11):Nat):Int)))) then
             some ((.inl ((false,()),())))
            else
             Option.bind (abe s0 (4:Int)) fun (v12:(List UInt8))=>
             (X ((v12,()),()))
     else
      some ((.inl ((false,()),())))
 else
  some ((.inr ((),())))
noncomputable def acD (c:pz25):Option ((((Bool×Unit)×Unit) ⊕ (Unit×Unit))):=gl (fun X c=>aad N X c.1.1) N c
theorem aeZ (X:pz25→Option ((((Bool×Unit)×Unit) ⊕ (Unit×Unit))))(s0:List UInt8):(aal Tryz.prog (Ev94 N) 400 [147] abp (aah Tryz.prog [147] 1) X ((s0,()),())).run=aad N X s0:=by kernel_rfl
noncomputable def Ev95:(R:Type)→Env R:=Env.addLp (Ev94 N) [147] 0 1 (fun R=>lpK Tryz.prog abp (fun X c=>aad N X c.1.1) N)
theorem aAN (R:Type):EnvOK Tryz.prog (Ev95 N R):=EnvOK.addLp (aAO N R) (by kernel_rfl) (aao (li:=abp) hmx (aAO N _) (by kernel_rfl) aaa (fun X c=>aeZ N X c.1.1) N)
noncomputable def aaQ (s0:List UInt8):Option Bool:=
 Option.bind (acD N ((s0,()),())) fun v2=>
 Sum.elim
  (fun (v3:((Bool×Unit)×Unit))=>
  some (v3.1.1))
  (fun (v3:(Unit×Unit))=>
  some (true)) v2
theorem agk (s0:List UInt8):(runK Tryz.prog (Ev95 N) 400 147 [.str] [.bool] (s0,())).run=aaQ N s0:=by kernel_rfl
noncomputable def Ev96:(R:Type)→Env R:=Env.addFn (Ev95 N) 147 (fun R=>fnK [.str] [.bool] (fun c=>aaQ N c.1))
theorem aAM (R:Type):EnvOK Tryz.prog (Ev96 N R):=EnvOK.addFn hmx (aAN N R) (aAN N _) (by kernel_rfl) (fun c=>agk N c.1)
noncomputable def aaX:LI:=⟨10,0,[],⟨[(2,.ty (.int .i64)),(4,.lit (.box 0 0))],[.itr]⟩,[(.exit 0,⟨[(2,.ty (.int .i64))],[]⟩)]⟩
noncomputable def aaw (N:Nat)(X:((Int×Unit)×pz22)→Option (((Int×Unit)×Unit)))(n2:Int)(h0:List UInt8)(h1:Int):Option (((Int×Unit)×Unit)):=
 bif (decide ((Int.toNat h1)<(List.length h0))) then
  (X (((IntKind.wrap .i64 (n2+1)),()),(h0,(((((Int.toNat h1):Nat):Int)+(@rdec h0 h1).2),()))))
 else
  some (((n2,()),()))
noncomputable def abE (c:((Int×Unit)×pz22)):Option (((Int×Unit)×Unit)):=gl (fun X c=>aaw N X c.1.1 c.2.1 c.2.2.1) N c
theorem ads (X:((Int×Unit)×pz22)→Option (((Int×Unit)×Unit)))(n2:Int)(h0:List UInt8)(h1:Int):(aal Tryz.prog (Ev96 N) 400 [180] aaX (aah Tryz.prog [180] 2) X ((n2,()),(h0,h1,()))).run=aaw N X n2 h0 h1:=by kernel_rfl
noncomputable def Ev97:(R:Type)→Env R:=Env.addLp (Ev96 N) [180] 0 2 (fun R=>lpK Tryz.prog aaX (fun X c=>aaw N X c.1.1 c.2.1 c.2.2.1) N)
theorem aAL (R:Type):EnvOK Tryz.prog (Ev97 N R):=EnvOK.addLp (aAM N R) (by kernel_rfl) (aao (li:=aaX) hmx (aAM N _) (by kernel_rfl) aaa (fun X c=>ads N X c.1.1 c.2.1 c.2.2.1) N)
noncomputable def aaL (s0:List UInt8):Option Int:=
 Option.bind (abE N (((0:Int),()),(s0,((0:Int),())))) fun v2=>
 some (v2.1.1)
theorem aeb (s0:List UInt8):(runK Tryz.prog (Ev97 N) 400 180 [.str] [(.int .i64)] (s0,())).run=aaL N s0:=by kernel_rfl
noncomputable def Ev98:(R:Type)→Env R:=Env.addFn (Ev97 N) 180 (fun R=>fnK [.str] [(.int .i64)] (fun c=>aaL N c.1))
theorem aAK (R:Type):EnvOK Tryz.prog (Ev98 N R):=EnvOK.addFn hmx (aAL N R) (aAL N _) (by kernel_rfl) (fun c=>aeb N c.1)
noncomputable def ahG (s0:List UInt8):Option Int:=
 Option.bind (aaQ N s0) fun v2=>
 bif (!v2) then
  some ((0:Int))
 else
  Option.bind (aaL N s0) fun v3=>
  some (v3)
theorem apg (s0:List UInt8):(runK Tryz.prog (Ev98 N) 400 148 [.str] [(.int .i64)] (s0,())).run=ahG N s0:=by kernel_rfl
noncomputable def Ev99:(R:Type)→Env R:=Env.addFn (Ev98 N) 148 (fun R=>fnK [.str] [(.int .i64)] (fun c=>ahG N c.1))
theorem aAJ (R:Type):EnvOK Tryz.prog (Ev99 N R):=EnvOK.addFn hmx (aAK N R) (aAK N _) (by kernel_rfl) (fun c=>apg N c.1)
noncomputable def ag1 (s0:List UInt8):Option Int:=
 Option.bind (aaQ N s0) fun v2=>
 bif (!v2) then
  some ((3:Int))
 else
  Option.bind (ahG N s0) fun v3=>
  bif (decide ((64:Int)<v3)) then
   some ((8:Int))
  else
   some ((0:Int))
theorem aso (s0:List UInt8):(runK Tryz.prog (Ev99 N) 400 109 [.str] [(.int .i64)] (s0,())).run=ag1 N s0:=by kernel_rfl
noncomputable def aKQ:(R:Type)→Env R:=Env.addFn (Ev99 N) 109 (fun R=>fnK [.str] [(.int .i64)] (fun c=>ag1 N c.1))
theorem aD7 (R:Type):EnvOK Tryz.prog (aKQ N R):=EnvOK.addFn hmx (aAJ N R) (aAJ N _) (by kernel_rfl) (fun c=>aso N c.1)
noncomputable def aIO:(R:Type)→Env R:=Env.addMv (aKQ N) [(110,8),(110,10)]
theorem axc (R:Type):EnvOK Tryz.prog (aIO N R):=EnvOK.addMv (aD7 N R) [(110,8),(110,10)]
noncomputable def aeW:LI:=⟨36,0,[(3,146)],⟨[(3,.lit (.own 0)),(11,.lit (.box 1 0))],[.own (.int .u16) 146,.itr]⟩,[(.exit 0,⟨[(3,.lit (.own 0))],[.own (.int .u16) 146]⟩)]⟩
noncomputable def acE (N:Nat)(X:(Unit×((List Int)×pz22))→Option pz1)(h0:List (Int))(h1:List UInt8)(h2:Int):Option pz1:=
 bif (decide ((Int.toNat h2)<(List.length h1))) then
  bif (decide ((@rdec h1 h2).1<(65536:Int))) then
   bif (aac ((List.length h0)+(List.length ([(IntKind.wrap .u16 (@rdec h1 h2).1)]:List (Int)))) 2) then
    (X ((),((h0++([(IntKind.wrap .u16 (@rdec h1 h2).1)]:List (Int))),(h1,(((((Int.toNat h2):Nat):Int)+(@rdec h1 h2).2),())))))
   else
    none
  else
   bif (aac ((List.length h0)+(List.length ([(IntKind.wrap .u16 (IntKind.wrap .i32 ((55296:Int)+(@Int.fdiv (IntKind.wrap .i32 ((@rdec h1 h2).1-65536)) ((2:Int) ^ (min (Int.toNat (10:Int)) (IntKind.bits .i32))))))),(IntKind.wrap .u16 (IntKind.wrap .i32 ((56320:Int)+(bits .and .i32 (IntKind.wrap .i32 ((@rdec h1 h2).1-65536)) (1023:Int)))))]:List (Int)))) 2) then
    (X ((),((h0++([(IntKind.wrap .u16 (IntKind.wrap .i32 ((55296:Int)+(@Int.fdiv (IntKind.wrap .i32 ((@rdec h1 h2).1-65536)) ((2:Int) ^ (min (Int.toNat (10:Int)) (IntKind.bits .i32))))))),(IntKind.wrap .u16 (IntKind.wrap .i32 ((56320:Int)+(bits .and .i32 (IntKind.wrap .i32 ((@rdec h1 h2).1-65536)) (1023:Int)))))]:List (Int))),(h1,(((((Int.toNat h2):Nat):Int)+(@rdec h1 h2).2),())))))
   else
    none
 else
  some (((),(h0,())))
noncomputable def aij (c:(Unit×((List Int)×pz22))):Option pz1:=gl (fun X c=>acE N X c.2.1 c.2.2.1 c.2.2.2.1) N c
theorem alV (X:(Unit×((List Int)×pz22))→Option pz1)(h0:List (Int))(h1:List UInt8)(h2:Int):(aal Tryz.prog (aIO N) 400 [110] aeW (aah Tryz.prog [110] 5) X ((),(h0,h1,h2,()))).run=acE N X h0 h1 h2:=by kernel_rfl
noncomputable def aIN:(R:Type)→Env R:=Env.addLp (aIO N) [110] 0 5 (fun R=>lpK Tryz.prog aeW (fun X c=>acE N X c.2.1 c.2.2.1 c.2.2.2.1) N)
theorem axb (R:Type):EnvOK Tryz.prog (aIN N R):=EnvOK.addLp (axc N R) (by kernel_rfl) (aao (li:=aeW) hmx (axc N _) (by kernel_rfl) aaa (fun X c=>alV N X c.2.1 c.2.2.1 c.2.2.2.1) N)
noncomputable def afs (s0:List UInt8):Option (List Int):=
 Option.bind (ag1 N s0) fun v2=>
 bif (!(decide (v2=(0:Int)))) then
  some (([]:List Int))
 else
  Option.bind (aij N ((),(([]:List Int),(s0,((0:Int),()))))) fun v3=>
  some (v3.2.1)
theorem apf (s0:List UInt8):(runK Tryz.prog (aIN N) 400 110 [.str] [(.sl (.int .u16))] (s0,())).run=afs N s0:=by kernel_rfl
noncomputable def aIM:(R:Type)→Env R:=Env.addFn (aIN N) 110 (fun R=>fnK [.str] [(.sl (.int .u16))] (fun c=>afs N c.1))
theorem axa (R:Type):EnvOK Tryz.prog (aIM N R):=EnvOK.addFn hmx (axb N R) (axb N _) (by kernel_rfl) (fun c=>apf N c.1)
noncomputable def agx:LI:=⟨33,0,[(5,5)],⟨[(5,.lit (.own 0)),(16,.ty (.sl (.int .u16))),(17,.ty (.int .i64)),(18,.ty (.int .i64))],[.own (.int .u8) 5]⟩,[(.exit 0,⟨[(5,.lit (.own 0))],[.own (.int .u8) 5]⟩)]⟩
noncomputable def adC (X:(pz3×((List Int)×Unit))→Option pz1)(x16:List (Int))(x17:Int)(x18:Int)(h0:List (Int)):Option pz1:=
 bif (decide (x18<x17)) then
  Option.bind (getI x16 x18) fun (v6:Int)=>
  Option.bind (abw N (IntKind.wrap .u64 v6) (2:Int) true) fun v7=>
  bif (aac ((List.length h0)+(List.length v7.1)) 1) then
   (X ((x16,(x17,((IntKind.wrap .i64 (x18+1)),()))),((h0++v7.1),())))
  else
   none
 else
  some (((),(h0,())))
noncomputable def ajJ (c:(pz3×((List Int)×Unit))):Option pz1:=gl (fun X c=>adC N X c.1.1 c.1.2.1 c.1.2.2.1 c.2.1) N c
theorem anU (X:(pz3×((List Int)×Unit))→Option pz1)(x16:List (Int))(x17:Int)(x18:Int)(h0:List (Int)):(aal Tryz.prog (aIM N) 400 [78] agx (aah Tryz.prog [78] 6) X ((x16,x17,x18,()),(h0,()))).run=adC N X x16 x17 x18 h0:=by kernel_rfl
noncomputable def aIL:(R:Type)→Env R:=Env.addLp (aIM N) [78] 0 6 (fun R=>lpK Tryz.prog agx (fun X c=>adC N X c.1.1 c.1.2.1 c.1.2.2.1 c.2.1) N)
theorem aw9 (R:Type):EnvOK Tryz.prog (aIL N R):=EnvOK.addLp (axa N R) (by kernel_rfl) (aao (li:=agx) hmx (axa N _) (by kernel_rfl) aaa (fun X c=>anU N X c.1.1 c.1.2.1 c.1.2.2.1 c.2.1) N)
noncomputable def aiy (s0:List UInt8):Option ((List Int)×Int):=
 Option.bind (ag1 N s0) fun v2=>
 bif (!(decide (v2=(0:Int)))) then
  some ((([]:List Int),v2))
 else
  Option.bind (afs N s0) fun v3=>
  Option.bind (ajJ N ((v3,((((List.length v3):Nat):Int),((0:Int),()))),(([]:List Int),()))) fun v4=>
  some ((v4.2.1,(0:Int)))
theorem asp (s0:List UInt8):(runK Tryz.prog (aIL N) 400 78 [.str] [(.sl (.int .u8)),(.int .i64)] (s0,())).run=aiy N s0:=by kernel_rfl
noncomputable def aKP:(R:Type)→Env R:=Env.addFn (aIL N) 78 (fun R=>fnK [.str] [(.sl (.int .u8)),(.int .i64)] (fun c=>aiy N c.1))
theorem aD6 (R:Type):EnvOK Tryz.prog (aKP N R):=EnvOK.addFn hmx (aw9 N R) (aw9 N _) (by kernel_rfl) (fun c=>asp N c.1)
noncomputable def aIK:(R:Type)→Env R:=Env.addMv (aKP N) [(127,7)]
theorem aw8 (R:Type):EnvOK Tryz.prog (aIK N R):=EnvOK.addMv (aD6 N R) [(127,7)]
noncomputable def adF (N:Nat)(s0:List UInt8)(i1:Int):Option (Int×Bool):=
 Option.bind (bif (decide ((((List.length s0):Nat):Int)≤i1)) then
   some (true)
  else
   Option.bind (getI s0 i1) fun (v3:UInt8)=>
   some ((cond false true (decide ((((@UInt8.toNat v3):Nat):Int)<(128:Int)))))) fun (v3:Bool)=>
 Option.bind (bif v3 then
   some (true)
  else
   Option.bind (getI s0 i1) fun (v4:UInt8)=>
   some ((cond false true (decide ((191:Int)<(((@UInt8.toNat v4):Nat):Int)))))) fun (v4:Bool)=>
 bif v4 then
  some (((0:Int),false))
 else
  Option.bind (getI s0 i1) fun (v5:UInt8)=>
  some (((IntKind.wrap .i64 ((IntKind.wrap .i64 (((@UInt8.toNat v5):Nat):Int))-128)),true))
theorem arb (s0:List UInt8)(i1:Int):(runK Tryz.prog (aIK N) 400 195 [.str,(.int .i64)] [(.int .i64),.bool] (s0,i1,())).run=adF N s0 i1:=by kernel_rfl
noncomputable def aIJ:(R:Type)→Env R:=Env.addFn (aIK N) 195 (fun R=>fnK [.str,(.int .i64)] [(.int .i64),.bool] (fun c=>adF N c.1 c.2.1))
theorem aw7 (R:Type):EnvOK Tryz.prog (aIJ N R):=EnvOK.addFn hmx (aw8 N R) (aw8 N _) (by kernel_rfl) (fun c=>arb N c.1 c.2.1)
noncomputable def ae4:LI:=⟨85,0,[],⟨[(0,.ty .str),(1,.ty (.int .i64)),(7,.ty (.int .i64)),(8,.ty (.int .i64)),(9,.ty (.int .i64)),(10,.ty (.int .i64))],[]⟩,[(.ret,⟨[(4,.ty (.int .i64)),(5,.ty (.int .i64))],[]⟩),(.exit 1,⟨[(7,.ty (.int .i64)),(8,.ty (.int .i64)),(9,.ty (.int .i64))],[]⟩)]⟩
noncomputable def acG (X:((List UInt8×(Int×(Int×pz6)))×Unit)→Option ((pz11 ⊕ (pz6×Unit))))(s0:List UInt8)(i1:Int)(need7:Int)(n8:Int)(least9:Int)(k10:Int):Option ((pz11 ⊕ (pz6×Unit))):=
 bif (decide (k10≤need7)) then
  Option.bind (adF N s0 (IntKind.wrap .i64 (i1+k10))) fun v8=>
  bif (!v8.2) then
   some ((.inl (((0:Int),((0:Int),())),())))
  else
   (X ((s0,(i1,(need7,((IntKind.wrap .i64 ((IntKind.wrap .i64 ((64:Int)*n8))+v8.1)),(least9,((IntKind.wrap .i64 (k10+1)),())))))),()))
 else
  some ((.inr ((need7,(n8,(least9,()))),())))
noncomputable def abq (c:((List UInt8×(Int×(Int×pz6)))×Unit)):Option ((pz11 ⊕ (pz6×Unit))):=gl (fun X c=>acG N X c.1.1 c.1.2.1 c.1.2.2.1 c.1.2.2.2.1 c.1.2.2.2.2.1 c.1.2.2.2.2.2.1) N c
theorem al3 (X:((List UInt8×(Int×(Int×pz6)))×Unit)→Option ((pz11 ⊕ (pz6×Unit))))(s0:List UInt8)(i1:Int)(need7:Int)(n8:Int)(least9:Int)(k10:Int):(aal Tryz.prog (aIJ N) 400 [163] ae4 (aah Tryz.prog [163] 13) X ((s0,i1,need7,n8,least9,k10,()),())).run=acG N X s0 i1 need7 n8 least9 k10:=by kernel_rfl
noncomputable def aII:(R:Type)→Env R:=Env.addLp (aIJ N) [163] 0 13 (fun R=>lpK Tryz.prog ae4 (fun X c=>acG N X c.1.1 c.1.2.1 c.1.2.2.1 c.1.2.2.2.1 c.1.2.2.2.2.1 c.1.2.2.2.2.2.1) N)
theorem aw6 (R:Type):EnvOK Tryz.prog (aII N R):=EnvOK.addLp (aw7 N R) (by kernel_rfl) (aao (li:=ae4) hmx (aw7 N _) (by kernel_rfl) aaa (fun X c=>al3 N X c.1.1 c.1.2.1 c.1.2.2.1 c.1.2.2.2.1 c.1.2.2.2.2.1 c.1.2.2.2.2.2.1) N)
noncomputable def ahc (s0:List UInt8)(i1:Int):Option (Int×Int):=
 Option.bind (getI s0 i1) fun (v3:UInt8)=>
 bif (decide ((IntKind.wrap .i64 (((@UInt8.toNat v3):Nat):Int))<(128:Int))) then
  some (((IntKind.wrap .i64 (((@UInt8.toNat v3):Nat):Int)),(1:Int)))
 else
  Option.bind (bif (decide ((192:Int)≤(IntKind.wrap .i64 (((@UInt8.toNat v3):Nat):Int)))) then
    some ((cond true (decide ((IntKind.wrap .i64 (((@UInt8.toNat v3):Nat):Int))<(224:Int))) false))
   else
    some (false)) fun (v4:Bool)=>
  bif v4 then
   Option.bind (abq N ((s0,(i1,((1:Int),((IntKind.wrap .i64 ((IntKind.wrap .i64 (((@UInt8.toNat v3):Nat):Int))-192)),((128:Int),((1:Int),())))))),())) fun v5=>
   Sum.elim
    (fun (v6:pz11)=>
    some ((v6.1.1,v6.1.2.1)))
    (fun (v6:(pz6×Unit))=>
    Option.bind (bif (decide (v6.1.2.1<v6.1.2.2.1)) then
      some (true)
     else
      some ((cond false true (decide ((1114111:Int)<v6.1.2.1))))) fun (v7:Bool)=>
    Option.bind (bif v7 then
      some (true)
     else
      bif (decide ((55296:Int)≤v6.1.2.1)) then
       some ((cond false true (cond true (decide (v6.1.2.1≤(57343:Int))) false)))
      else
       some ((cond false true false))) fun (v8:Bool)=>
    bif v8 then
     some (((0:Int),(0:Int)))
    else
     some ((v6.1.2.1,(IntKind.wrap .i64 (v6.1.1+1))))) v5
  else
   Option.bind (bif (decide ((224:Int)≤(IntKind.wrap .i64 (((@UInt8.toNat v3):Nat):Int)))) then
     some ((cond true (decide ((IntKind.wrap .i64 (((@UInt8.toNat v3):Nat):Int))<(240:Int))) false))
    else
     some (false)) fun (v5:Bool)=>
   bif v5 then
    Option.bind (abq N ((s0,(i1,((2:Int),((IntKind.wrap .i64 ((IntKind.wrap .i64 (((@UInt8.toNat v3):Nat):Int))-224)),((2048:Int),((1:Int),())))))),())) fun v6=>
    Sum.elim
     (fun (v7:pz11)=>
     some ((v7.1.1,v7.1.2.1)))
     (fun (v7:(pz6×Unit))=>
     Option.bind (bif (decide (v7.1.2.1<v7.1.2.2.1)) then
       some (true)
      else
       some ((cond false true (decide ((1114111:Int)<v7.1.2.1))))) fun (v8:Bool)=>
     Option.bind (bif v8 then
       some (true)
      else
       bif (decide ((55296:Int)≤v7.1.2.1)) then
        some ((cond false true (cond true (decide (v7.1.2.1≤(57343:Int))) false)))
       else
        some ((cond false true false))) fun (v9:Bool)=>
     bif v9 then
      some (((0:Int),(0:Int)))
     else
      some ((v7.1.2.1,(IntKind.wrap .i64 (v7.1.1+1))))) v6
   else
    Option.bind (bif (decide ((240:Int)≤(IntKind.wrap .i64 (((@UInt8.toNat v3):Nat):Int)))) then
      some ((cond true (decide ((IntKind.wrap .i64 (((@UInt8.toNat v3):Nat):Int))<(248:Int))) false))
     else
      some (false)) fun (v6:Bool)=>
    bif v6 then
     Option.bind (abq N ((s0,(i1,((3:Int),((IntKind.wrap .i64 ((IntKind.wrap .i64 (((@UInt8.toNat v3):Nat):Int))-240)),((65536:Int),((1:Int),())))))),())) fun v7=>
     Sum.elim
      (fun (v8:pz11)=>
      some ((v8.1.1,v8.1.2.1)))
      (fun (v8:(pz6×Unit))=>
      Option.bind (bif (decide (v8.1.2.1<v8.1.2.2.1)) then
        some (true)
       else
        some ((cond false true (decide ((1114111:Int)<v8.1.2.1))))) fun (v9:Bool)=>
      Option.bind (bif v9 then
        some (true)
       else
        bif (decide ((55296:Int)≤v8.1.2.1)) then
         some ((cond false true (cond true (decide (v8.1.2.1≤(57343:Int))) false)))
        else
         some ((cond false true false))) fun (v10:Bool)=>
      bif v10 then
       some (((0:Int),(0:Int)))
      else
       some ((v8.1.2.1,(IntKind.wrap .i64 (v8.1.1+1))))) v7
    else
     some (((0:Int),(0:Int)))
theorem ara (s0:List UInt8)(i1:Int):(runK Tryz.prog (aII N) 400 163 [.str,(.int .i64)] [(.int .i64),(.int .i64)] (s0,i1,())).run=ahc N s0 i1:=by kernel_rfl
noncomputable def aIH:(R:Type)→Env R:=Env.addFn (aII N) 163 (fun R=>fnK [.str,(.int .i64)] [(.int .i64),(.int .i64)] (fun c=>ahc N c.1 c.2.1))
theorem aw5 (R:Type):EnvOK Tryz.prog (aIH N R):=EnvOK.addFn hmx (aw6 N R) (aw6 N _) (by kernel_rfl) (fun c=>ara N c.1 c.2.1)
noncomputable def ae6:LI:=⟨28,0,[(4,3)],⟨[(0,.ty .str),(4,.lit (.own 0)),(5,.ty (.int .i64))],[.own (.int .i64) 3]⟩,[(.ret,⟨[(2,.ty (.sl (.int .i64))),(3,.ty .bool)],[]⟩),(.exit 0,⟨[(4,.lit (.own 0))],[.own (.int .i64) 3]⟩)]⟩
noncomputable def acI (X:(pz22×((List Int)×Unit))→Option (((((List Int)×(Bool×Unit))×Unit) ⊕ (Unit×((List Int)×Unit)))))(s0:List UInt8)(i5:Int)(h0:List (Int)):Option (((((List Int)×(Bool×Unit))×Unit) ⊕ (Unit×((List Int)×Unit)))):=
 bif (decide (i5<(((List.length s0):Nat):Int))) then
  Option.bind (ahc N s0 i5) fun v5=>
  bif (decide (v5.2=(0:Int))) then
   some ((.inl ((([]:List Int),(false,())),())))
  else
   bif (aac ((List.length h0)+(List.length ([v5.1]:List (Int)))) 8) then
    (X ((s0,((IntKind.wrap .i64 (i5+v5.2)),())),((h0++([v5.1]:List (Int))),())))
   else
    none
 else
  some ((.inr ((),(h0,()))))
noncomputable def aio (c:(pz22×((List Int)×Unit))):Option (((((List Int)×(Bool×Unit))×Unit) ⊕ (Unit×((List Int)×Unit)))):=gl (fun X c=>acI N X c.1.1 c.1.2.1 c.2.1) N c
theorem al5 (X:(pz22×((List Int)×Unit))→Option (((((List Int)×(Bool×Unit))×Unit) ⊕ (Unit×((List Int)×Unit)))))(s0:List UInt8)(i5:Int)(h0:List (Int)):(aal Tryz.prog (aIH N) 400 [127] ae6 (aah Tryz.prog [127] 3) X ((s0,i5,()),(h0,()))).run=acI N X s0 i5 h0:=by kernel_rfl
noncomputable def aIG:(R:Type)→Env R:=Env.addLp (aIH N) [127] 0 3 (fun R=>lpK Tryz.prog ae6 (fun X c=>acI N X c.1.1 c.1.2.1 c.2.1) N)
theorem aw4 (R:Type):EnvOK Tryz.prog (aIG N R):=EnvOK.addLp (aw5 N R) (by kernel_rfl) (aao (li:=ae6) hmx (aw5 N _) (by kernel_rfl) aaa (fun X c=>al5 N X c.1.1 c.1.2.1 c.2.1) N)
noncomputable def aeh (s0:List UInt8):Option ((List Int)×Bool):=
 Option.bind (aio N ((s0,((0:Int),())),(([]:List Int),()))) fun v2=>
 Sum.elim
  (fun (v3:(((List Int)×(Bool×Unit))×Unit))=>
  some ((v3.1.1,v3.1.2.1)))
  (fun (v3:(Unit×((List Int)×Unit)))=>
  some ((v3.2.1,true))) v2
theorem apE (s0:List UInt8):(runK Tryz.prog (aIG N) 400 127 [.str] [(.sl (.int .i64)),.bool] (s0,())).run=aeh N s0:=by kernel_rfl
noncomputable def aIF:(R:Type)→Env R:=Env.addFn (aIG N) 127 (fun R=>fnK [.str] [(.sl (.int .i64)),.bool] (fun c=>aeh N c.1))
theorem aw3 (R:Type):EnvOK Tryz.prog (aIF N R):=EnvOK.addFn hmx (aw4 N R) (aw4 N _) (by kernel_rfl) (fun c=>apE N c.1)
noncomputable def ahd (s0:List UInt8):Option Int:=
 Option.bind (aeh N s0) fun v2=>
 bif (!v2.2) then
  some ((3:Int))
 else
  bif (decide ((64:Int)<(((List.length v2.1):Nat):Int))) then
   some ((8:Int))
  else
   some ((0:Int))
theorem asD (s0:List UInt8):(runK Tryz.prog (aIF N) 400 84 [.str] [(.int .i64)] (s0,())).run=ahd N s0:=by kernel_rfl
noncomputable def aKO:(R:Type)→Env R:=Env.addFn (aIF N) 84 (fun R=>fnK [.str] [(.int .i64)] (fun c=>ahd N c.1))
theorem aD5 (R:Type):EnvOK Tryz.prog (aKO N R):=EnvOK.addFn hmx (aw3 N R) (aw3 N _) (by kernel_rfl) (fun c=>asD N c.1)
noncomputable def aIE:(R:Type)→Env R:=Env.addMv (aKO N) [(85,9),(85,11)]
theorem aw2 (R:Type):EnvOK Tryz.prog (aIE N R):=EnvOK.addMv (aD5 N R) [(85,9),(85,11)]
noncomputable def ae5:LI:=⟨52,0,[(5,146)],⟨[(3,.ty (.sl (.int .i64))),(5,.lit (.own 0)),(6,.ty (.int .i64))],[.own (.int .u16) 146]⟩,[(.exit 0,⟨[(5,.lit (.own 0))],[.own (.int .u16) 146]⟩)]⟩
noncomputable def acH (N:Nat)(X:(pz5×((List Int)×Unit))→Option pz1)(l3:List (Int))(i6:Int)(h0:List (Int)):Option pz1:=
 bif (decide (i6<(((List.length l3):Nat):Int))) then
  Option.bind (getI l3 i6) fun (v5:Int)=>
  bif (decide (v5<(65536:Int))) then
   Option.bind (getI l3 i6) fun (v6:Int)=>
   bif (aac ((List.length h0)+(List.length ([(IntKind.wrap .u16 v6)]:List (Int)))) 2) then
    (X ((l3,((IntKind.wrap .i64 (i6+1)),())),((h0++([(IntKind.wrap .u16 v6)]:List (Int))),())))
   else
    none
  else
   Option.bind (getI l3 i6) fun (v6:Int)=>
   bif (aac ((List.length h0)+(List.length ([(IntKind.wrap .u16 (IntKind.wrap .i64 ((55296:Int)+(IntKind.wrap .i64 (@Int.tdiv (IntKind.wrap .i64 (v6-65536)) (1024:Int)))))),(IntKind.wrap .u16 (IntKind.wrap .i64 ((56320:Int)+(@Int.tmod (IntKind.wrap .i64 (v6-65536)) (1024:Int)))))]:List (Int)))) 2) then
    (X ((l3,((IntKind.wrap .i64 (i6+1)),())),((h0++([(IntKind.wrap .u16 (IntKind.wrap .i64 ((55296:Int)+(IntKind.wrap .i64 (@Int.tdiv (IntKind.wrap .i64 (v6-65536)) (1024:Int)))))),(IntKind.wrap .u16 (IntKind.wrap .i64 ((56320:Int)+(@Int.tmod (IntKind.wrap .i64 (v6-65536)) (1024:Int)))))]:List (Int))),())))
   else
    none
 else
  some (((),(h0,())))
noncomputable def ain (c:(pz5×((List Int)×Unit))):Option pz1:=gl (fun X c=>acH N X c.1.1 c.1.2.1 c.2.1) N c
theorem al4 (X:(pz5×((List Int)×Unit))→Option pz1)(l3:List (Int))(i6:Int)(h0:List (Int)):(aal Tryz.prog (aIE N) 400 [85] ae5 (aah Tryz.prog [85] 6) X ((l3,i6,()),(h0,()))).run=acH N X l3 i6 h0:=by kernel_rfl
noncomputable def aID:(R:Type)→Env R:=Env.addLp (aIE N) [85] 0 6 (fun R=>lpK Tryz.prog ae5 (fun X c=>acH N X c.1.1 c.1.2.1 c.2.1) N)
theorem aw1 (R:Type):EnvOK Tryz.prog (aID N R):=EnvOK.addLp (aw2 N R) (by kernel_rfl) (aao (li:=ae5) hmx (aw2 N _) (by kernel_rfl) aaa (fun X c=>al4 N X c.1.1 c.1.2.1 c.2.1) N)
noncomputable def afG (s0:List UInt8):Option (List Int):=
 Option.bind (ahd N s0) fun v2=>
 bif (!(decide (v2=(0:Int)))) then
  some (([]:List Int))
 else
  Option.bind (aeh N s0) fun v3=>
  Option.bind (ain N ((v3.1,((0:Int),())),(([]:List Int),()))) fun v4=>
  some (v4.2.1)
theorem apD (s0:List UInt8):(runK Tryz.prog (aID N) 400 85 [.str] [(.sl (.int .u16))] (s0,())).run=afG N s0:=by kernel_rfl
noncomputable def aKN:(R:Type)→Env R:=Env.addFn (aID N) 85 (fun R=>fnK [.str] [(.sl (.int .u16))] (fun c=>afG N c.1))
theorem aD4 (R:Type):EnvOK Tryz.prog (aKN N R):=EnvOK.addFn hmx (aw1 N R) (aw1 N _) (by kernel_rfl) (fun c=>apD N c.1)
noncomputable def aIC:(R:Type)→Env R:=Env.addMv (aKN N) [(55,9)]
theorem aw0 (R:Type):EnvOK Tryz.prog (aIC N R):=EnvOK.addMv (aD4 N R) [(55,9)]
noncomputable def agA:LI:=⟨37,0,[(5,5)],⟨[(5,.lit (.own 0)),(6,.ty (.sl (.int .u16))),(7,.ty (.int .i64))],[.own (.int .u8) 5]⟩,[(.exit 0,⟨[(5,.lit (.own 0))],[.own (.int .u8) 5]⟩)]⟩
noncomputable def adG (N:Nat)(X:(pz5×((List Int)×Unit))→Option pz1)(u6:List (Int))(i7:Int)(h0:List (Int)):Option pz1:=
 bif (decide (i7<(((List.length u6):Nat):Int))) then
  Option.bind (getI u6 i7) fun (v5:Int)=>
  Option.bind (getI u6 i7) fun (v6:Int)=>
  bif (aac ((List.length h0)+(List.length ([(IntKind.wrap .u8 (@Int.tmod v5 (256:Int))),(IntKind.wrap .u8 (IntKind.wrap .u16 (@Int.tdiv v6 (256:Int))))]:List (Int)))) 1) then
   (X ((u6,((IntKind.wrap .i64 (i7+1)),())),((h0++([(IntKind.wrap .u8 (@Int.tmod v5 (256:Int))),(IntKind.wrap .u8 (IntKind.wrap .u16 (@Int.tdiv v6 (256:Int))))]:List (Int))),())))
  else
   none
 else
  some (((),(h0,())))
noncomputable def ajL (c:(pz5×((List Int)×Unit))):Option pz1:=gl (fun X c=>adG N X c.1.1 c.1.2.1 c.2.1) N c
theorem anY (X:(pz5×((List Int)×Unit))→Option pz1)(u6:List (Int))(i7:Int)(h0:List (Int)):(aal Tryz.prog (aIC N) 400 [55] agA (aah Tryz.prog [55] 7) X ((u6,i7,()),(h0,()))).run=adG N X u6 i7 h0:=by kernel_rfl
noncomputable def aIB:(R:Type)→Env R:=Env.addLp (aIC N) [55] 0 7 (fun R=>lpK Tryz.prog agA (fun X c=>adG N X c.1.1 c.1.2.1 c.2.1) N)
theorem awZ (R:Type):EnvOK Tryz.prog (aIB N R):=EnvOK.addLp (aw0 N R) (by kernel_rfl) (aao (li:=agA) hmx (aw0 N _) (by kernel_rfl) aaa (fun X c=>anY N X c.1.1 c.1.2.1 c.2.1) N)
noncomputable def aiI (s0:List UInt8):Option ((List Int)×Int):=
 Option.bind (ahd N s0) fun v2=>
 bif (!(decide (v2=(0:Int)))) then
  some ((([]:List Int),v2))
 else
  Option.bind (afG N s0) fun v3=>
  Option.bind (ajL N ((v3,((0:Int),())),(([]:List Int),()))) fun v4=>
  some ((v4.2.1,(0:Int)))
theorem asE (s0:List UInt8):(runK Tryz.prog (aIB N) 400 55 [.str] [(.sl (.int .u8)),(.int .i64)] (s0,())).run=aiI N s0:=by kernel_rfl
noncomputable def aIA:(R:Type)→Env R:=Env.addFn (aIB N) 55 (fun R=>fnK [.str] [(.sl (.int .u8)),(.int .i64)] (fun c=>aiI N c.1))
theorem awY (R:Type):EnvOK Tryz.prog (aIA N R):=EnvOK.addFn hmx (awZ N R) (awZ N _) (by kernel_rfl) (fun c=>asE N c.1)
noncomputable def adj (password0:List UInt8):Option ((Arr Int 16)×Int):=
 Option.bind (aiy N password0) fun v2=>
 bif (!(decide (v2.2=(0:Int)))) then
  some ((zc16,v2.2))
 else
  Option.bind (alN N ([v2.1]:List ((List Int)))) fun v3=>
  some ((v3,(0:Int)))
theorem as0 (password0:List UInt8):(runK Tryz.prog (aIA N) 400 52 [.str] [(.arr 16 (.int .u8)),(.int .i64)] (password0,())).run=adj N password0:=by kernel_rfl
noncomputable def aKM:(R:Type)→Env R:=Env.addFn (aIA N) 52 (fun R=>fnK [.str] [(.arr 16 (.int .u8)),(.int .i64)] (fun c=>adj N c.1))
theorem aD3 (R:Type):EnvOK Tryz.prog (aKM N R):=EnvOK.addFn hmx (awY N R) (awY N _) (by kernel_rfl) (fun c=>as0 N c.1)
noncomputable def aIz:(R:Type)→Env R:=Env.addBx (aKM N) [(105,0)]
theorem awX (R:Type):EnvOK Tryz.prog (aIz N R):=EnvOK.addBx (aD3 N R) [(105,0)]
noncomputable def acp (h0:Arr Int 16):Option (Arr Int 16):=
 Option.bind (alN N ([h0.l]:List ((List Int)))) fun v2=>
 some (v2)
theorem aoh (h0:Arr Int 16):(runK Tryz.prog (aIz N) 400 105 [(.arr 16 (.int .u8))] [(.arr 16 (.int .u8))] (h0,())).run=acp N h0:=by kernel_rfl
noncomputable def aKL:(R:Type)→Env R:=Env.addFn (aIz N) 105 (fun R=>fnK [(.arr 16 (.int .u8))] [(.arr 16 (.int .u8))] (fun c=>acp N c.1))
theorem aD2 (R:Type):EnvOK Tryz.prog (aKL N R):=EnvOK.addFn hmx (awX N R) (awX N _) (by kernel_rfl) (fun c=>aoh N c.1)
noncomputable def aKK:(R:Type)→Env R:=Env.addMv (aKL N) [(117,2)]
theorem aD1 (R:Type):EnvOK Tryz.prog (aKK N R):=EnvOK.addMv (aD2 N R) [(117,2)]
noncomputable def aIy:(R:Type)→Env R:=Env.addBx (aKK N) [(117,0)]
theorem awW (R:Type):EnvOK Tryz.prog (aIy N R):=EnvOK.addBx (aD1 N R) [(117,0)]
noncomputable def anc (N:Nat)(h0:Arr Int 16):Option (Arr Int 21):=
 some ((@Arr.over Int (21:Nat) zc21 h0.l))
theorem ap3 (h0:Arr Int 16):(runK Tryz.prog (aIy N) 400 117 [(.arr 16 (.int .u8))] [(.arr 21 (.int .u8))] (h0,())).run=anc N h0:=by kernel_rfl
noncomputable def aKJ:(R:Type)→Env R:=Env.addFn (aIy N) 117 (fun R=>fnK [(.arr 16 (.int .u8))] [(.arr 21 (.int .u8))] (fun c=>anc N c.1))
theorem aD0 (R:Type):EnvOK Tryz.prog (aKJ N R):=EnvOK.addFn hmx (awW N R) (awW N _) (by kernel_rfl) (fun c=>ap3 N c.1)
noncomputable def aIx:(R:Type)→Env R:=Env.addBx (aKJ N) [(80,0)]
theorem awV (R:Type):EnvOK Tryz.prog (aIx N R):=EnvOK.addBx (aD0 N R) [(80,0)]
noncomputable def ac7 (N:Nat)(h0:Arr Int 16):Option (Arr (Arr Int 7) 3):=
 Option.bind (abV (@Arr.over Int (21:Nat) zc21 h0.l).l (7:Int)) fun (v2:(List Int))=>
 Option.bind (@ac1 Int (7:Nat) v2) fun (v3:(Arr Int 7))=>
 Option.bind (subI (@Arr.over Int (21:Nat) zc21 h0.l).l (7:Int) (14:Int)) fun (v4:(List Int))=>
 Option.bind (@ac1 Int (7:Nat) v4) fun (v5:(Arr Int 7))=>
 Option.bind (abe (@Arr.over Int (21:Nat) zc21 h0.l).l (14:Int)) fun (v6:(List Int))=>
 Option.bind (@ac1 Int (7:Nat) v6) fun (v7:(Arr Int 7))=>
 some ((@Arr.cons (Arr Int 7) (2:Nat) v3 (@Arr.cons (Arr Int 7) (1:Nat) v5 (@Arr.cons (Arr Int 7) (0:Nat) v7 (@Arr.nil (Arr Int 7))))))
theorem anb (h0:Arr Int 16):(runK Tryz.prog (aIx N) 400 80 [(.arr 16 (.int .u8))] [(.arr 3 (.arr 7 (.int .u8)))] (h0,())).run=ac7 N h0:=by kernel_rfl
noncomputable def aIw:(R:Type)→Env R:=Env.addFn (aIx N) 80 (fun R=>fnK [(.arr 16 (.int .u8))] [(.arr 3 (.arr 7 (.int .u8)))] (fun c=>ac7 N c.1))
theorem awU (R:Type):EnvOK Tryz.prog (aIw N R):=EnvOK.addFn hmx (awV N R) (awV N _) (by kernel_rfl) (fun c=>anb N c.1)
noncomputable def akt (password0:List UInt8):Option ((Arr Int 16)×Int):=
 Option.bind (aiI N password0) fun v2=>
 bif (!(decide (v2.2=(0:Int)))) then
  some ((zc16,v2.2))
 else
  Option.bind (agr N v2.1) fun v3=>
  some ((v3,(0:Int)))
theorem axp (password0:List UInt8):(runK Tryz.prog (aIw N) 400 33 [.str] [(.arr 16 (.int .u8)),(.int .i64)] (password0,())).run=akt N password0:=by kernel_rfl
noncomputable def aKI:(R:Type)→Env R:=Env.addFn (aIw N) 33 (fun R=>fnK [.str] [(.arr 16 (.int .u8)),(.int .i64)] (fun c=>akt N c.1))
theorem aDZ (R:Type):EnvOK Tryz.prog (aKI N R):=EnvOK.addFn hmx (awU N R) (awU N _) (by kernel_rfl) (fun c=>axp N c.1)
noncomputable def aIv:(R:Type)→Env R:=Env.addBx (aKI N) [(73,0)]
theorem awT (R:Type):EnvOK Tryz.prog (aIv N R):=EnvOK.addBx (aDZ N R) [(73,0)]
noncomputable def ahL (h0:Arr Int 16):Option (Arr Int 16):=
 Option.bind (agr N h0.l) fun v2=>
 some (v2)
theorem apB (h0:Arr Int 16):(runK Tryz.prog (aIv N) 400 73 [(.arr 16 (.int .u8))] [(.arr 16 (.int .u8))] (h0,())).run=ahL N h0:=by kernel_rfl
noncomputable def aKH:(R:Type)→Env R:=Env.addFn (aIv N) 73 (fun R=>fnK [(.arr 16 (.int .u8))] [(.arr 16 (.int .u8))] (fun c=>ahL N c.1))
theorem aDY (R:Type):EnvOK Tryz.prog (aKH N R):=EnvOK.addFn hmx (awT N R) (awT N _) (by kernel_rfl) (fun c=>apB N c.1)
noncomputable def aIu:(R:Type)→Env R:=Env.addBx (aKH N) [(58,0)]
theorem awS (R:Type):EnvOK Tryz.prog (aIu N R):=EnvOK.addBx (aDY N R) [(58,0)]
noncomputable def abH (N:Nat)(h0:Arr Int 16)(n1:Int):Option (List Int):=
 bif (aac (List.length h0.l) 1) then
  bif (aac ((List.length h0.l)+(List.length ([0,0,0,0,0]:List Int))) 1) then
   Option.bind (subI (h0.l++([0,0,0,0,0]:List Int)) (IntKind.wrap .i64 ((7:Int)*n1)) (IntKind.wrap .i64 ((IntKind.wrap .i64 ((7:Int)*n1))+7))) fun (v3:(List Int))=>
   some (v3)
  else
   none
 else
  none
theorem apC (h0:Arr Int 16)(n1:Int):(runK Tryz.prog (aIu N) 400 58 [(.arr 16 (.int .u8)),(.int .i64)] [(.sl (.int .u8))] (h0,n1,())).run=abH N h0 n1:=by kernel_rfl
noncomputable def aKG:(R:Type)→Env R:=Env.addFn (aIu N) 58 (fun R=>fnK [(.arr 16 (.int .u8)),(.int .i64)] [(.sl (.int .u8))] (fun c=>abH N c.1 c.2.1))
theorem aDX (R:Type):EnvOK Tryz.prog (aKG N R):=EnvOK.addFn hmx (awS N R) (awS N _) (by kernel_rfl) (fun c=>apC N c.1 c.2.1)
noncomputable def aIt:(R:Type)→Env R:=Env.addFn (aKG N) 242 (fun R=>ixK)
theorem awR (R:Type):EnvOK Tryz.prog (aIt N R):=EnvOK.addExt (aDX N R) (aK9 (fn:=Go.Proofs.Tryz.f242) (by kernel_rfl) (by kernel_rfl) (by decide +kernel) (by kernel_rfl) (by kernel_rfl))
noncomputable def aeJ (N:Nat)(s0:List UInt8)(c1:Int):Option Int:=
 some ((@idxB s0 c1))
theorem ahH (s0:List UInt8)(c1:Int):(runK Tryz.prog (aIt N) 400 228 [.str,(.int .u8)] [(.int .i64)] (s0,c1,())).run=aeJ N s0 c1:=by kernel_rfl
noncomputable def aIs:(R:Type)→Env R:=Env.addFn (aIt N) 228 (fun R=>fnK [.str,(.int .u8)] [(.int .i64)] (fun c=>aeJ N c.1 c.2.1))
theorem awQ (R:Type):EnvOK Tryz.prog (aIs N R):=EnvOK.addFn hmx (awR N R) (awR N _) (by kernel_rfl) (fun c=>ahH N c.1 c.2.1)
noncomputable def ag3 (N:Nat)(s0:List UInt8)(c1:Int):Option Int:=
 some ((@idxB s0 c1))
theorem aj0 (s0:List UInt8)(c1:Int):(runK Tryz.prog (aIs N) 400 239 [.str,(.int .u8)] [(.int .i64)] (s0,c1,())).run=ag3 N s0 c1:=by kernel_rfl
noncomputable def aIr:(R:Type)→Env R:=Env.addFn (aIs N) 239 (fun R=>fnK [.str,(.int .u8)] [(.int .i64)] (fun c=>ag3 N c.1 c.2.1))
theorem awP (R:Type):EnvOK Tryz.prog (aIr N R):=EnvOK.addFn hmx (awQ N R) (awQ N _) (by kernel_rfl) (fun c=>aj0 N c.1 c.2.1)
noncomputable def ai9 (N:Nat)(n0:Int)(six1:Int):Option Int:=
 Option.bind (bif (decide (n0<(1:Int))) then
   some (true)
  else
   some ((cond false true (decide ((8:Int)<n0))))) fun (v3:Bool)=>
 bif v3 then
  some ((0:Int))
 else
  Option.bind (getI (Array.toList (List.toArray (@List.append UInt8 (@List.append UInt8 (@List.append UInt8 ([69,52,68,49,50,70,66,56,51,65,54,67,53,57,48,55,48,70,55,52,69,50,68,49,65,54,67,66,57,53,51,56,52,49,69,56,68,54,50,66,70,67,57,55,51,65,53,48,70,67,56,50,52,57,49,55,53,66,51,69,65,48,54,68]:List UInt8) ([70,49,56,69,54,66,51,52,57,55,50,68,67,48,53,65,51,68,52,55,70,50,56,69,67,48,49,65,54,57,66,53,48,69,55,66,65,52,68,49,53,56,67,54,57,51,50,70,68,56,65,49,51,70,52,50,66,54,55,67,48,53,69,57]:List UInt8)) (@List.append UInt8 ([65,48,57,69,54,51,70,53,49,68,67,55,66,52,50,56,68,55,48,57,51,52,54,65,50,56,53,69,67,66,70,49,68,54,52,57,56,70,51,48,66,49,50,67,53,65,69,55,49,65,68,48,54,57,56,55,52,70,69,51,66,53,50,67]:List UInt8) ([55,68,69,51,48,54,57,65,49,50,56,53,66,67,52,70,68,56,66,53,54,70,48,51,52,55,50,67,49,65,69,57,65,54,57,48,67,66,55,68,70,49,51,69,53,50,56,52,51,70,48,54,65,49,68,56,57,52,53,66,67,55,50,69]:List UInt8))) (@List.append UInt8 (@List.append UInt8 ([50,67,52,49,55,65,66,54,56,53,51,70,68,48,69,57,69,66,50,67,52,55,68,49,53,48,70,65,51,57,56,54,52,50,49,66,65,68,55,56,70,57,67,53,54,51,48,69,66,56,67,55,49,69,50,68,54,70,48,57,65,52,53,51]:List UInt8) ([67,49,65,70,57,50,54,56,48,68,51,52,69,55,53,66,65,70,52,50,55,67,57,53,54,49,68,69,48,66,51,56,57,69,70,53,50,56,67,51,55,48,52,65,49,68,66,54,52,51,50,67,57,53,70,65,66,69,49,55,54,48,56,68]:List UInt8)) (@List.append UInt8 ([52,66,50,69,70,48,56,68,51,67,57,55,53,65,54,49,68,48,66,55,52,57,49,65,69,51,53,67,50,70,56,54,49,52,66,68,67,51,55,69,65,70,54,56,48,53,57,50,54,66,68,56,49,52,65,55,57,53,48,70,69,50,51,67]:List UInt8) ([68,50,56,52,54,70,66,49,65,57,51,69,53,48,67,55,49,70,68,56,65,51,55,52,67,53,54,66,48,69,57,50,55,66,52,49,57,67,69,50,48,54,65,68,70,51,53,56,50,49,69,55,52,65,56,68,70,67,57,48,51,53,54,66]:List UInt8)))))) (IntKind.wrap .u64 ((IntKind.wrap .u64 ((IntKind.wrap .u64 ((64:Int)*(IntKind.wrap .u64 (IntKind.wrap .i64 (n0-1)))))+(IntKind.wrap .u64 ((16:Int)*(bits .or .u64 (bits .and .u64 (@Int.fdiv six1 ((2:Int) ^ (min (Int.toNat (4:Int)) (IntKind.bits .u64)))) (2:Int)) (bits .and .u64 six1 (1:Int)))))))+(bits .and .u64 (@Int.fdiv six1 ((2:Int) ^ (min (Int.toNat (1:Int)) (IntKind.bits .u64)))) (15:Int))))) fun (v4:UInt8)=>
  some ((IntKind.wrap .u64 (@idxB (Array.toList (List.toArray ([48,49,50,51,52,53,54,55,56,57,65,66,67,68,69,70]:List UInt8))) (((@UInt8.toNat v4):Nat):Int))))
theorem aAb (n0:Int)(six1:Int):(runK Tryz.prog (aIr N) 400 216 [(.int .i64),(.int .u64)] [(.int .u64)] (n0,six1,())).run=ai9 N n0 six1:=by kernel_rfl
noncomputable def aKF:(R:Type)→Env R:=Env.addFn (aIr N) 216 (fun R=>fnK [(.int .i64),(.int .u64)] [(.int .u64)] (fun c=>ai9 N c.1 c.2.1))
theorem aDW (R:Type):EnvOK Tryz.prog (aKF N R):=EnvOK.addFn hmx (awP N R) (awP N _) (by kernel_rfl) (fun c=>aAb N c.1 c.2.1)
noncomputable def aIq:(R:Type)→Env R:=Env.addMv (aKF N) [(192,8),(192,10)]
theorem awO (R:Type):EnvOK Tryz.prog (aIq N R):=EnvOK.addMv (aDW N R) [(192,8),(192,10)]
noncomputable def abs:LI:=⟨21,1,[(0,3)],⟨[(0,.lit (.own 1)),(1,.ty (.int .i64)),(8,.ty (.int .i64)),(9,.ty (.int .i64))],[.dead,.own (.int .i64) 3]⟩,[(.exit 0,⟨[(0,.lit (.own 1))],[.dead,.own (.int .i64) 3]⟩)]⟩
noncomputable def abI (N:Nat)(X:(pz6×((List Int)×Unit))→Option pz1)(x1:Int)(x8:Int)(x9:Int)(h0:List (Int)):Option pz1:=
 bif (decide (x9<x8)) then
  bif (aac ((List.length h0)+(List.length ([(IntKind.wrap .i64 (x1-(IntKind.wrap .i64 ((8:Int)*x9))))]:List (Int)))) 8) then
   (X ((x1,(x8,((IntKind.wrap .i64 (x9+1)),()))),((h0++([(IntKind.wrap .i64 (x1-(IntKind.wrap .i64 ((8:Int)*x9))))]:List (Int))),())))
  else
   none
 else
  some (((),(h0,())))
noncomputable def afd (c:(pz6×((List Int)×Unit))):Option pz1:=gl (fun X c=>abI N X c.1.1 c.1.2.1 c.1.2.2.1 c.2.1) N c
theorem afc (X:(pz6×((List Int)×Unit))→Option pz1)(x1:Int)(x8:Int)(x9:Int)(h0:List (Int)):(aal Tryz.prog (aIq N) 400 [215,8,192] abs (aah Tryz.prog [215,8,192] 2) X ((x1,x8,x9,()),(h0,()))).run=abI N X x1 x8 x9 h0:=by kernel_rfl
noncomputable def aIp:(R:Type)→Env R:=Env.addLp (aIq N) [215,8,192] 1 2 (fun R=>lpK Tryz.prog abs (fun X c=>abI N X c.1.1 c.1.2.1 c.1.2.2.1 c.2.1) N)
theorem awN (R:Type):EnvOK Tryz.prog (aIp N R):=EnvOK.addLp (awO N R) (by kernel_rfl) (aao (li:=abs) hmx (awO N _) (by kernel_rfl) aaa (fun X c=>afc N X c.1.1 c.1.2.1 c.1.2.2.1 c.2.1) N)
noncomputable def agc:LI:=⟨28,0,[],⟨[(1,.lit (.own 0)),(3,.adr (.arr 4 (.int .i64))),(8,.ty (.arr 2 (.arr 4 (.int .i64)))),(9,.ty (.int .i64)),(12,.ty (.sl (.int .i64))),(13,.ty (.int .i64)),(14,.ty (.int .i64))],[.own (.int .i64) 3]⟩,[(.exit 2,⟨[(1,.lit (.own 0)),(3,.adr (.arr 4 (.int .i64))),(8,.ty (.arr 2 (.arr 4 (.int .i64)))),(9,.ty (.int .i64))],[.own (.int .i64) 3]⟩)]⟩
noncomputable def aia (X:(((Arr Int 4)×((Arr (Arr Int 4) 2)×(Int×pz3)))×((List Int)×Unit))→Option ((((Arr Int 4)×((Arr (Arr Int 4) 2)×(Int×Unit)))×((List Int)×Unit))))(half3:Arr Int 4)(x8:Arr (Arr Int 4) 2)(x9:Int)(x12:List (Int))(x13:Int)(x14:Int)(h0:List (Int)):Option ((((Arr Int 4)×((Arr (Arr Int 4) 2)×(Int×Unit)))×((List Int)×Unit))):=
 bif (decide (x14<x13)) then
  Option.bind (getI x12 x14) fun (v9:Int)=>
  Option.bind (afd N ((v9,((8:Int),((0:Int),()))),(h0,()))) fun v10=>
  (X ((half3,(x8,(x9,(x12,(x13,((IntKind.wrap .i64 (x14+1)),())))))),(v10.2.1,())))
 else
  some (((half3,(x8,(x9,()))),(h0,())))
noncomputable def anA (c:(((Arr Int 4)×((Arr (Arr Int 4) 2)×(Int×pz3)))×((List Int)×Unit))):Option ((((Arr Int 4)×((Arr (Arr Int 4) 2)×(Int×Unit)))×((List Int)×Unit))):=gl (fun X c=>aia N X c.1.1 c.1.2.1 c.1.2.2.1 c.1.2.2.2.1 c.1.2.2.2.2.1 c.1.2.2.2.2.2.1 c.2.1) N c
theorem anz (X:(((Arr Int 4)×((Arr (Arr Int 4) 2)×(Int×pz3)))×((List Int)×Unit))→Option ((((Arr Int 4)×((Arr (Arr Int 4) 2)×(Int×Unit)))×((List Int)×Unit))))(half3:Arr Int 4)(x8:Arr (Arr Int 4) 2)(x9:Int)(x12:List (Int))(x13:Int)(x14:Int)(h0:List (Int)):(aal Tryz.prog (aIp N) 400 [192] agc (aah Tryz.prog [192] 6) X ((half3,x8,x9,x12,x13,x14,()),(h0,()))).run=aia N X half3 x8 x9 x12 x13 x14 h0:=by kernel_rfl
noncomputable def aIo:(R:Type)→Env R:=Env.addLp (aIp N) [192] 0 6 (fun R=>lpK Tryz.prog agc (fun X c=>aia N X c.1.1 c.1.2.1 c.1.2.2.1 c.1.2.2.2.1 c.1.2.2.2.2.1 c.1.2.2.2.2.2.1 c.2.1) N)
theorem awM (R:Type):EnvOK Tryz.prog (aIo N R):=EnvOK.addLp (awN N R) (by kernel_rfl) (aao (li:=agc) hmx (awN N _) (by kernel_rfl) aaa (fun X c=>anz N X c.1.1 c.1.2.1 c.1.2.2.1 c.1.2.2.2.1 c.1.2.2.2.2.1 c.1.2.2.2.2.2.1 c.2.1) N)
noncomputable def abm:LI:=⟨21,1,[(0,3)],⟨[(0,.lit (.own 1)),(1,.ty (.int .i64)),(8,.ty (.int .i64)),(9,.ty (.int .i64))],[.dead,.own (.int .i64) 3]⟩,[(.exit 0,⟨[(0,.lit (.own 1))],[.dead,.own (.int .i64) 3]⟩)]⟩
noncomputable def abx (N:Nat)(X:(pz6×((List Int)×Unit))→Option pz1)(x1:Int)(x8:Int)(x9:Int)(h0:List (Int)):Option pz1:=
 bif (decide (x9<x8)) then
  bif (aac ((List.length h0)+(List.length ([(IntKind.wrap .i64 (x1-(IntKind.wrap .i64 ((8:Int)*x9))))]:List (Int)))) 8) then
   (X ((x1,(x8,((IntKind.wrap .i64 (x9+1)),()))),((h0++([(IntKind.wrap .i64 (x1-(IntKind.wrap .i64 ((8:Int)*x9))))]:List (Int))),())))
  else
   none
 else
  some (((),(h0,())))
noncomputable def aeT (c:(pz6×((List Int)×Unit))):Option pz1:=gl (fun X c=>abx N X c.1.1 c.1.2.1 c.1.2.2.1 c.2.1) N c
theorem aeS (X:(pz6×((List Int)×Unit))→Option pz1)(x1:Int)(x8:Int)(x9:Int)(h0:List (Int)):(aal Tryz.prog (aIo N) 400 [215,10,192] abm (aah Tryz.prog [215,10,192] 2) X ((x1,x8,x9,()),(h0,()))).run=abx N X x1 x8 x9 h0:=by kernel_rfl
noncomputable def aIn:(R:Type)→Env R:=Env.addLp (aIo N) [215,10,192] 1 2 (fun R=>lpK Tryz.prog abm (fun X c=>abx N X c.1.1 c.1.2.1 c.1.2.2.1 c.2.1) N)
theorem awL (R:Type):EnvOK Tryz.prog (aIn N R):=EnvOK.addLp (awM N R) (by kernel_rfl) (aao (li:=abm) hmx (awM N _) (by kernel_rfl) aaa (fun X c=>aeS N X c.1.1 c.1.2.1 c.1.2.2.1 c.2.1) N)
noncomputable def agd:LI:=⟨28,0,[(1,3)],⟨[(1,.lit (.own 0)),(8,.ty (.arr 2 (.arr 4 (.int .i64)))),(9,.ty (.int .i64))],[.own (.int .i64) 3]⟩,[(.exit 0,⟨[(1,.lit (.own 0))],[.own (.int .i64) 3]⟩)]⟩
noncomputable def aib (X:(((Arr (Arr Int 4) 2)×(Int×Unit))×((List Int)×Unit))→Option pz1)(x8:Arr (Arr Int 4) 2)(x9:Int)(h0:List (Int)):Option pz1:=
 bif (decide (x9<(2:Int))) then
  Option.bind (getI x8.l x9) fun (v5:(Arr Int 4))=>
  Option.bind (abV v5.l (3:Int)) fun (v6:(List Int))=>
  Option.bind (anA N ((v5,(x8,(x9,(v6,((((List.length v6):Nat):Int),((0:Int),())))))),(h0,()))) fun v7=>
  Option.bind (getI v7.1.1.l (3:Int)) fun (v8:Int)=>
  Option.bind (aeT N ((v8,((4:Int),((0:Int),()))),(v7.2.1,()))) fun v9=>
  (X ((v7.1.2.1,((IntKind.wrap .i64 (v7.1.2.2.1+1)),())),(v9.2.1,())))
 else
  some (((),(h0,())))
noncomputable def anC (c:(((Arr (Arr Int 4) 2)×(Int×Unit))×((List Int)×Unit))):Option pz1:=gl (fun X c=>aib N X c.1.1 c.1.2.1 c.2.1) N c
theorem anB (X:(((Arr (Arr Int 4) 2)×(Int×Unit))×((List Int)×Unit))→Option pz1)(x8:Arr (Arr Int 4) 2)(x9:Int)(h0:List (Int)):(aal Tryz.prog (aIn N) 400 [192] agd (aah Tryz.prog [192] 3) X ((x8,x9,()),(h0,()))).run=aib N X x8 x9 h0:=by kernel_rfl
noncomputable def aIm:(R:Type)→Env R:=Env.addLp (aIn N) [192] 0 3 (fun R=>lpK Tryz.prog agd (fun X c=>aib N X c.1.1 c.1.2.1 c.2.1) N)
theorem awK (R:Type):EnvOK Tryz.prog (aIm N R):=EnvOK.addLp (awL N R) (by kernel_rfl) (aao (li:=agd) hmx (awL N _) (by kernel_rfl) aaa (fun X c=>anB N X c.1.1 c.1.2.1 c.2.1) N)
noncomputable def ahz:Option (List Int):=
 Option.bind (anC N (((@Arr.cons (Arr Int 4) (1:Nat) (@Arr.cons Int 3 57 (@Arr.cons Int 2 58 (@Arr.cons Int 1 59 (@Arr.cons Int 0 60 (@Arr.nil Int))))) (@Arr.cons (Arr Int 4) (0:Nat) (@Arr.cons Int 3 63 (@Arr.cons Int 2 62 (@Arr.cons Int 1 61 (@Arr.cons Int 0 28 (@Arr.nil Int))))) (@Arr.nil (Arr Int 4)))),((0:Int),())),(([]:List Int),()))) fun v1=>
 some (v1.2.1)
theorem ar4:(runK Tryz.prog (aIm N) 400 192 [] [(.sl (.int .i64))] ()).run=ahz N:=by kernel_rfl
noncomputable def aIl:(R:Type)→Env R:=Env.addFn (aIm N) 192 (fun R=>fnK [] [(.sl (.int .i64))] (fun c=>ahz N ))
theorem awJ (R:Type):EnvOK Tryz.prog (aIl N R):=EnvOK.addFn hmx (awK N R) (awK N _) (by kernel_rfl) (fun c=>ar4 N )
noncomputable def agv (N:Nat)(width0:Int):Option Bool:=
 Option.bind (bif (decide ((1:Int)≤width0)) then
   some ((cond true (decide (width0≤(64:Int))) false))
  else
   some (false)) fun (v2:Bool)=>
 some (v2)
theorem ax7 (width0:Int):(runK Tryz.prog (aIl N) 400 217 [(.int .i64)] [.bool] (width0,())).run=agv N width0:=by kernel_rfl
noncomputable def aIk:(R:Type)→Env R:=Env.addFn (aIl N) 217 (fun R=>fnK [(.int .i64)] [.bool] (fun c=>agv N c.1))
theorem awI (R:Type):EnvOK Tryz.prog (aIk N R):=EnvOK.addFn hmx (awJ N R) (awJ N _) (by kernel_rfl) (fun c=>ax7 N c.1)
noncomputable def aeE:LI:=⟨39,0,[],⟨[(0,.ty (.int .u64)),(1,.ty (.int .i64)),(2,.ty (.sl (.int .i64))),(19,.ty (.sl (.int .i64))),(20,.ty (.int .i64)),(21,.ty (.int .i64))],[]⟩,[(.ret,⟨[(6,.ty (.int .u64)),(7,.ty (.int .i64))],[]⟩),(.exit 0,⟨[(0,.ty (.int .u64)),(1,.ty (.int .i64)),(2,.ty (.sl (.int .i64)))],[]⟩)]⟩
noncomputable def ac0 (N:Nat)(X:((Int×(Int×((List Int)×pz3)))×Unit)→Option ((pz11 ⊕ (pz13×Unit))))(x0:Int)(width1:Int)(table2:List (Int))(x19:List (Int))(x20:Int)(x21:Int):Option ((pz11 ⊕ (pz13×Unit))):=
 bif (decide (x21<x20)) then
  Option.bind (getI x19 x21) fun (v8:Int)=>
  Option.bind (bif (decide (v8<(1:Int))) then
    some (true)
   else
    some ((cond false true (decide (width1<v8))))) fun (v9:Bool)=>
  bif v9 then
   some ((.inl (((0:Int),((1:Int),())),())))
  else
   (X ((x0,(width1,(table2,(x19,(x20,((IntKind.wrap .i64 (x21+1)),())))))),()))
 else
  some ((.inr ((x0,(width1,(table2,()))),())))
noncomputable def aeD (c:((Int×(Int×((List Int)×pz3)))×Unit)):Option ((pz11 ⊕ (pz13×Unit))):=gl (fun X c=>ac0 N X c.1.1 c.1.2.1 c.1.2.2.1 c.1.2.2.2.1 c.1.2.2.2.2.1 c.1.2.2.2.2.2.1) N c
theorem alH (X:((Int×(Int×((List Int)×pz3)))×Unit)→Option ((pz11 ⊕ (pz13×Unit))))(x0:Int)(width1:Int)(table2:List (Int))(x19:List (Int))(x20:Int)(x21:Int):(aal Tryz.prog (aIk N) 400 [214] aeE (aah Tryz.prog [214] 4) X ((x0,width1,table2,x19,x20,x21,()),())).run=ac0 N X x0 width1 table2 x19 x20 x21:=by kernel_rfl
noncomputable def aIj:(R:Type)→Env R:=Env.addLp (aIk N) [214] 0 4 (fun R=>lpK Tryz.prog aeE (fun X c=>ac0 N X c.1.1 c.1.2.1 c.1.2.2.1 c.1.2.2.2.1 c.1.2.2.2.2.1 c.1.2.2.2.2.2.1) N)
theorem awH (R:Type):EnvOK Tryz.prog (aIj N R):=EnvOK.addLp (awI N R) (by kernel_rfl) (aao (li:=aeE) hmx (awI N _) (by kernel_rfl) aaa (fun X c=>alH N X c.1.1 c.1.2.1 c.1.2.2.1 c.1.2.2.2.1 c.1.2.2.2.2.1 c.1.2.2.2.2.2.1) N)
noncomputable def ak6 (x0:Int)(width1:Int)(i2:Int):Option Int:=
 Option.bind (agv N width1) fun v4=>
 Option.bind (bif (!v4) then
   some (true)
  else
   some ((cond false true (decide (i2<(1:Int)))))) fun (v5:Bool)=>
 Option.bind (bif v5 then
   some (true)
  else
   some ((cond false true (decide (width1<i2))))) fun (v6:Bool)=>
 bif v6 then
  some ((0:Int))
 else
  bif (decide ((0:Int)≤(IntKind.wrap .i64 (width1-i2)))) then
   some ((bits .and .u64 (@Int.fdiv x0 ((2:Int) ^ (min (Int.toNat (IntKind.wrap .i64 (width1-i2))) (IntKind.bits .u64)))) (1:Int)))
  else
   none
theorem aya (x0:Int)(width1:Int)(i2:Int):(runK Tryz.prog (aIj N) 400 246 [(.int .u64),(.int .i64),(.int .i64)] [(.int .u64)] (x0,width1,i2,())).run=ak6 N x0 width1 i2:=by kernel_rfl
noncomputable def aIi:(R:Type)→Env R:=Env.addFn (aIj N) 246 (fun R=>fnK [(.int .u64),(.int .i64),(.int .i64)] [(.int .u64)] (fun c=>ak6 N c.1 c.2.1 c.2.2.1))
theorem awG (R:Type):EnvOK Tryz.prog (aIi N R):=EnvOK.addFn hmx (awH N R) (awH N _) (by kernel_rfl) (fun c=>aya N c.1 c.2.1 c.2.2.1)
noncomputable def abg:LI:=⟨23,1,[],⟨[(0,.ty (.int .u64)),(1,.ty (.int .i64)),(3,.lit (.clo 238 [.box 0 0])),(10,.ty (.sl (.int .i64))),(11,.ty (.int .i64)),(12,.ty (.int .i64))],[.box 148 (.int .u64)]⟩,[(.exit 0,⟨[],[.box 148 (.int .u64)]⟩)]⟩
noncomputable def aaB (X:((Int×(Int×pz3))×(Int×Unit))→Option ((Unit×(Int×Unit))))(x0:Int)(width1:Int)(x10:List (Int))(x11:Int)(x12:Int)(h0:Int):Option ((Unit×(Int×Unit))):=
 bif (decide (x12<x11)) then
  Option.bind (getI x10 x12) fun (v8:Int)=>
  Option.bind (ak6 N x0 width1 v8) fun v9=>
  (X ((x0,(width1,(x10,(x11,((IntKind.wrap .i64 (x12+1)),()))))),((bits .or .u64 (IntKind.wrap .u64 (h0*((2:Int) ^ (min (Int.toNat (1:Int)) (IntKind.bits .u64))))) v9),())))
 else
  some (((),(h0,())))
noncomputable def abf (c:((Int×(Int×pz3))×(Int×Unit))):Option ((Unit×(Int×Unit))):=gl (fun X c=>aaB N X c.1.1 c.1.2.1 c.1.2.2.1 c.1.2.2.2.1 c.1.2.2.2.2.1 c.2.1) N c
theorem aeF (X:((Int×(Int×pz3))×(Int×Unit))→Option ((Unit×(Int×Unit))))(x0:Int)(width1:Int)(x10:List (Int))(x11:Int)(x12:Int)(h0:Int):(aal Tryz.prog (aIi N) 400 [237,10,214] abg (aah Tryz.prog [237,10,214] 1) X ((x0,width1,x10,x11,x12,()),(h0,()))).run=aaB N X x0 width1 x10 x11 x12 h0:=by kernel_rfl
noncomputable def aIh:(R:Type)→Env R:=Env.addLp (aIi N) [237,10,214] 1 1 (fun R=>lpK Tryz.prog abg (fun X c=>aaB N X c.1.1 c.1.2.1 c.1.2.2.1 c.1.2.2.2.1 c.1.2.2.2.2.1 c.2.1) N)
theorem awF (R:Type):EnvOK Tryz.prog (aIh N R):=EnvOK.addLp (awG N R) (by kernel_rfl) (aao (li:=abg) hmx (awG N _) (by kernel_rfl) aaa (fun X c=>aeF N X c.1.1 c.1.2.1 c.1.2.2.1 c.1.2.2.2.1 c.1.2.2.2.2.1 c.2.1) N)
noncomputable def agw (x0:Int)(width1:Int)(table2:List (Int)):Option (Int×Int):=
 Option.bind (agv N width1) fun v4=>
 bif (!v4) then
  some (((0:Int),(1:Int)))
 else
  Option.bind (some ((cond false true (decide ((64:Int)<(((List.length table2):Nat):Int)))))) fun (v5:Bool)=>
  bif v5 then
   some (((0:Int),(1:Int)))
  else
   Option.bind (aeD N ((x0,(width1,(table2,(table2,((((List.length table2):Nat):Int),((0:Int),())))))),())) fun v6=>
   Sum.elim
    (fun (v7:pz11)=>
    some ((v7.1.1,v7.1.2.1)))
    (fun (v7:(pz13×Unit))=>
    Option.bind (abf N ((v7.1.1,(v7.1.2.1,(v7.1.2.2.1,((((List.length v7.1.2.2.1):Nat):Int),((0:Int),()))))),((0:Int),()))) fun v8=>
    some ((v8.2.1,(0:Int)))) v6
theorem aot (x0:Int)(width1:Int)(table2:List (Int)):(runK Tryz.prog (aIh N) 400 214 [(.int .u64),(.int .i64),(.sl (.int .i64))] [(.int .u64),(.int .i64)] (x0,width1,table2,())).run=agw N x0 width1 table2:=by kernel_rfl
noncomputable def aIg:(R:Type)→Env R:=Env.addFn (aIh N) 214 (fun R=>fnK [(.int .u64),(.int .i64),(.sl (.int .i64))] [(.int .u64),(.int .i64)] (fun c=>agw N c.1 c.2.1 c.2.2.1))
theorem awE (R:Type):EnvOK Tryz.prog (aIg N R):=EnvOK.addFn hmx (awF N R) (awF N _) (by kernel_rfl) (fun c=>aot N c.1 c.2.1 c.2.2.1)
noncomputable def aaC (x0:Int)(width1:Int)(table2:List (Int)):Option Int:=
 Option.bind (agw N x0 width1 table2) fun v4=>
 some (v4.1)
theorem aom (x0:Int)(width1:Int)(table2:List (Int)):(runK Tryz.prog (aIg N) 400 187 [(.int .u64),(.int .i64),(.sl (.int .i64))] [(.int .u64)] (x0,width1,table2,())).run=aaC N x0 width1 table2:=by kernel_rfl
noncomputable def aIf:(R:Type)→Env R:=Env.addFn (aIg N) 187 (fun R=>fnK [(.int .u64),(.int .i64),(.sl (.int .i64))] [(.int .u64)] (fun c=>aaC N c.1 c.2.1 c.2.2.1))
theorem awD (R:Type):EnvOK Tryz.prog (aIf N R):=EnvOK.addFn hmx (awE N R) (awE N _) (by kernel_rfl) (fun c=>aom N c.1 c.2.1 c.2.2.1)
noncomputable def ams (N:Nat)(x0:Int)(many1:Int):Option Int:=
 bif (decide ((0:Int)≤many1)) then
  some ((bits .and .u64 x0 (IntKind.wrap .u64 ((IntKind.wrap .u64 ((1:Int)*((2:Int) ^ (min (Int.toNat many1) (IntKind.bits .u64)))))-1))))
 else
  none
theorem ax8 (x0:Int)(many1:Int):(runK Tryz.prog (aIf N) 400 218 [(.int .u64),(.int .i64)] [(.int .u64)] (x0,many1,())).run=ams N x0 many1:=by kernel_rfl
noncomputable def aIe:(R:Type)→Env R:=Env.addFn (aIf N) 218 (fun R=>fnK [(.int .u64),(.int .i64)] [(.int .u64)] (fun c=>ams N c.1 c.2.1))
theorem awC (R:Type):EnvOK Tryz.prog (aIe N R):=EnvOK.addFn hmx (awD N R) (awD N _) (by kernel_rfl) (fun c=>ax8 N c.1 c.2.1)
noncomputable def ajD (x0:Int)(width1:Int)(x2:Int):Option (Int×Int×Int):=
 Option.bind (agv N width1) fun v4=>
 Option.bind (bif (!v4) then
   some (true)
  else
   some ((cond false true (decide (x2<(0:Int)))))) fun (v5:Bool)=>
 Option.bind (bif v5 then
   some (true)
  else
   some ((cond false true (decide (width1<x2))))) fun (v6:Bool)=>
 bif v6 then
  some (((0:Int),((0:Int),(1:Int))))
 else
  Option.bind (ams N x0 width1) fun v7=>
  bif (decide ((0:Int)≤(IntKind.wrap .i64 (width1-x2)))) then
   Option.bind (ams N v7 (IntKind.wrap .i64 (width1-x2))) fun v8=>
   some (((@Int.fdiv v7 ((2:Int) ^ (min (Int.toNat (IntKind.wrap .i64 (width1-x2))) (IntKind.bits .u64)))),(v8,(0:Int))))
  else
   none
theorem ash (x0:Int)(width1:Int)(x2:Int):(runK Tryz.prog (aIe N) 400 191 [(.int .u64),(.int .i64),(.int .i64)] [(.int .u64),(.int .u64),(.int .i64)] (x0,width1,x2,())).run=ajD N x0 width1 x2:=by kernel_rfl
noncomputable def aId:(R:Type)→Env R:=Env.addFn (aIe N) 191 (fun R=>fnK [(.int .u64),(.int .i64),(.int .i64)] [(.int .u64),(.int .u64),(.int .i64)] (fun c=>ajD N c.1 c.2.1 c.2.2.1))
theorem awB (R:Type):EnvOK Tryz.prog (aId N R):=EnvOK.addFn hmx (awC N R) (awC N _) (by kernel_rfl) (fun c=>ash N c.1 c.2.1 c.2.2.1)
noncomputable def alS (N:Nat):Option (List Int):=
 some ((((([14,17,11,24,1,5,3,28,15,6,21,10]:List Int)++([23,19,12,4,26,8,16,7,27,20,13,2]:List Int))++([41,52,31,37,47,55,30,40,51,45,33,48]:List Int))++([44,49,39,56,34,53,46,42,50,36,29,32]:List Int)))
theorem aon:(runK Tryz.prog (aId N) 400 193 [] [(.sl (.int .i64))] ()).run=alS N:=by kernel_rfl
noncomputable def aIc:(R:Type)→Env R:=Env.addFn (aId N) 193 (fun R=>fnK [] [(.sl (.int .i64))] (fun c=>alS N ))
theorem awA (R:Type):EnvOK Tryz.prog (aIc N R):=EnvOK.addFn hmx (awB N R) (awB N _) (by kernel_rfl) (fun c=>aon N )
noncomputable def aga:LI:=⟨23,0,[],⟨[(0,.ty (.int .u64)),(1,.ty (.int .i64)),(5,.ty (.int .i64)),(8,.ty (.arr 4 (.int .i64))),(9,.ty (.int .i64))],[]⟩,[(.exit 0,⟨[(0,.ty (.int .u64)),(5,.ty (.int .i64))],[]⟩)]⟩
noncomputable def ah9 (N:Nat)(X:((Int×(Int×(Int×pz23)))×Unit)→Option (pz11))(half0:Int)(round1:Int)(x5:Int)(x8:Arr Int 4)(x9:Int):Option (pz11):=
 bif (decide (x9<(4:Int))) then
  Option.bind (getI x8.l x9) fun (v7:Int)=>
  bif (decide (v7=round1)) then
   (X ((half0,(round1,((1:Int),(x8,((IntKind.wrap .i64 (x9+1)),()))))),()))
  else
   (X ((half0,(round1,(x5,(x8,((IntKind.wrap .i64 (x9+1)),()))))),()))
 else
  some (((half0,(x5,())),()))
noncomputable def af9 (c:((Int×(Int×(Int×pz23)))×Unit)):Option (pz11):=gl (fun X c=>ah9 N X c.1.1 c.1.2.1 c.1.2.2.1 c.1.2.2.2.1 c.1.2.2.2.2.1) N c
theorem anx (X:((Int×(Int×(Int×pz23)))×Unit)→Option (pz11))(half0:Int)(round1:Int)(x5:Int)(x8:Arr Int 4)(x9:Int):(aal Tryz.prog (aIc N) 400 [194] aga (aah Tryz.prog [194] 3) X ((half0,round1,x5,x8,x9,()),())).run=ah9 N X half0 round1 x5 x8 x9:=by kernel_rfl
noncomputable def aIb:(R:Type)→Env R:=Env.addLp (aIc N) [194] 0 3 (fun R=>lpK Tryz.prog aga (fun X c=>ah9 N X c.1.1 c.1.2.1 c.1.2.2.1 c.1.2.2.2.1 c.1.2.2.2.2.1) N)
theorem awz (R:Type):EnvOK Tryz.prog (aIb N R):=EnvOK.addLp (awA N R) (by kernel_rfl) (aao (li:=aga) hmx (awA N _) (by kernel_rfl) aaa (fun X c=>anx N X c.1.1 c.1.2.1 c.1.2.2.1 c.1.2.2.2.1 c.1.2.2.2.2.1) N)
noncomputable def ahE (x0:Int)(width1:Int)(n2:Int):Option (Int×Int):=
 Option.bind (agv N width1) fun v4=>
 bif (!v4) then
  some (((0:Int),(1:Int)))
 else
  bif (decide (width1=(0:Int))) then
   none
  else
   bif (decide ((@Int.tmod n2 width1)<(0:Int))) then
    Option.bind (ajD N x0 width1 (IntKind.wrap .i64 ((@Int.tmod n2 width1)+width1))) fun v5=>
    bif (decide ((0:Int)≤(IntKind.wrap .i64 ((@Int.tmod n2 width1)+width1)))) then
     some (((bits .or .u64 (IntKind.wrap .u64 (v5.2.1*((2:Int) ^ (min (Int.toNat (IntKind.wrap .i64 ((@Int.tmod n2 width1)+width1))) (IntKind.bits .u64))))) v5.1),(0:Int)))
    else
     none
   else
    Option.bind (ajD N x0 width1 (@Int.tmod n2 width1)) fun v5=>
    bif (decide ((0:Int)≤(@Int.tmod n2 width1))) then
     some (((bits .or .u64 (IntKind.wrap .u64 (v5.2.1*((2:Int) ^ (min (Int.toNat (@Int.tmod n2 width1)) (IntKind.bits .u64))))) v5.1),(0:Int)))
    else
     none
theorem atG (x0:Int)(width1:Int)(n2:Int):(runK Tryz.prog (aIb N) 400 219 [(.int .u64),(.int .i64),(.int .i64)] [(.int .u64),(.int .i64)] (x0,width1,n2,())).run=ahE N x0 width1 n2:=by kernel_rfl
noncomputable def aIa:(R:Type)→Env R:=Env.addFn (aIb N) 219 (fun R=>fnK [(.int .u64),(.int .i64),(.int .i64)] [(.int .u64),(.int .i64)] (fun c=>ahE N c.1 c.2.1 c.2.2.1))
theorem awy (R:Type):EnvOK Tryz.prog (aIa N R):=EnvOK.addFn hmx (awz N R) (awz N _) (by kernel_rfl) (fun c=>atG N c.1 c.2.1 c.2.2.1)
noncomputable def adT (half0:Int)(round1:Int):Option Int:=
 Option.bind (af9 N ((half0,(round1,((2:Int),((@Arr.mk Int (4:Nat) ([1,2,9,16]:List Int) @aoT._proof_8),((0:Int),()))))),())) fun v3=>
 Option.bind (ahE N v3.1.1 (28:Int) v3.1.2.1) fun v4=>
 some (v4.1)
theorem ar3 (half0:Int)(round1:Int):(runK Tryz.prog (aIa N) 400 194 [(.int .u64),(.int .i64)] [(.int .u64)] (half0,round1,())).run=adT N half0 round1:=by kernel_rfl
noncomputable def aH9:(R:Type)→Env R:=Env.addFn (aIa N) 194 (fun R=>fnK [(.int .u64),(.int .i64)] [(.int .u64)] (fun c=>adT N c.1 c.2.1))
theorem awx (R:Type):EnvOK Tryz.prog (aH9 N R):=EnvOK.addFn hmx (awy N R) (awy N _) (by kernel_rfl) (fun c=>ar3 N c.1 c.2.1)
noncomputable def aid:LI:=⟨39,0,[],⟨[(2,.lit (.box 0 0)),(3,.ty (.int .u64)),(4,.ty (.int .u64)),(6,.ty (.sl (.int .i64))),(7,.lit (.box 1 0)),(18,.ty (.int .i64))],[.box 222 (.arr 16 (.int .u64)),.box 222 (.arr 16 (.int .u64))]⟩,[(.exit 0,⟨[(2,.lit (.box 0 0)),(7,.lit (.box 1 0))],[.box 222 (.arr 16 (.int .u64)),.box 222 (.arr 16 (.int .u64))]⟩)]⟩
noncomputable def age (X:((Int×(Int×pz5))×pz12)→Option ((Unit×pz12)))(left3:Int)(right4:Int)(table6:List (Int))(x18:Int)(h0:Arr Int 16)(h1:Arr Int 16):Option ((Unit×pz12)):=
 bif (decide (x18<(16:Int))) then
  Option.bind (adT N left3 (IntKind.wrap .i64 (x18+1))) fun v8=>
  Option.bind (adT N right4 (IntKind.wrap .i64 (x18+1))) fun v9=>
  Option.bind (aaC N (bits .or .u64 (IntKind.wrap .u64 (v8*((2:Int) ^ (min (Int.toNat (28:Int)) (IntKind.bits .u64))))) v9) (56:Int) table6) fun v10=>
  bif (decide ((0:Int)≤x18∧x18<((16:Nat):Int))) then
   Option.bind (h1.l[Int.toNat x18]?) fun (v11:Int)=>
   (X ((v8,(v9,(table6,((IntKind.wrap .i64 (x18+1)),())))),(h0,((h1.set (Int.toNat x18) v10),()))))
  else
   none
 else
  some (((),(h0,(h1,()))))
noncomputable def afo (c:((Int×(Int×pz5))×pz12)):Option ((Unit×pz12)):=gl (fun X c=>age N X c.1.1 c.1.2.1 c.1.2.2.1 c.1.2.2.2.1 c.2.1 c.2.2.1) N c
theorem aqt (X:((Int×(Int×pz5))×pz12)→Option ((Unit×pz12)))(left3:Int)(right4:Int)(table6:List (Int))(x18:Int)(h0:Arr Int 16)(h1:Arr Int 16):(aal Tryz.prog (aH9 N) 400 [158] aid (aah Tryz.prog [158] 5) X ((left3,right4,table6,x18,()),(h0,h1,()))).run=age N X left3 right4 table6 x18 h0 h1:=by kernel_rfl
noncomputable def aH8:(R:Type)→Env R:=Env.addLp (aH9 N) [158] 0 5 (fun R=>lpK Tryz.prog aid (fun X c=>age N X c.1.1 c.1.2.1 c.1.2.2.1 c.1.2.2.2.1 c.2.1 c.2.2.1) N)
theorem aww (R:Type):EnvOK Tryz.prog (aH8 N R):=EnvOK.addLp (awx N R) (by kernel_rfl) (aao (li:=aid) hmx (awx N _) (by kernel_rfl) aaa (fun X c=>aqt N X c.1.1 c.1.2.1 c.1.2.2.1 c.1.2.2.2.1 c.2.1 c.2.2.1) N)
noncomputable def akW (key0:Int):Option (Arr Int 16):=
 Option.bind (@ahz N) fun (v2:(List Int))=>
 Option.bind (aaC N key0 (64:Int) v2) fun v3=>
 Option.bind (afo N (((@Int.fdiv (bits .and .u64 v3 (IntKind.wrap .u64 ((IntKind.wrap .u64 ((1:Int)*((2:Int) ^ (min (Int.toNat (56:Int)) (IntKind.bits .u64)))))-1))) ((2:Int) ^ (min (Int.toNat (IntKind.wrap .i64 ((56:Int)-28))) (IntKind.bits .u64)))),((bits .and .u64 (bits .and .u64 v3 (IntKind.wrap .u64 ((IntKind.wrap .u64 ((1:Int)*((2:Int) ^ (min (Int.toNat (56:Int)) (IntKind.bits .u64)))))-1))) (IntKind.wrap .u64 ((IntKind.wrap .u64 ((1:Int)*((2:Int) ^ (min (Int.toNat (IntKind.wrap .i64 ((56:Int)-28))) (IntKind.bits .u64)))))-1))),((((([14,17,11,24,1,5,3,28,15,6,21,10]:List Int)++([23,19,12,4,26,8,16,7,27,20,13,2]:List Int))++([41,52,31,37,47,55,30,40,51,45,33,48]:List Int))++([44,49,39,56,34,53,46,42,50,36,29,32]:List Int)),((0:Int),())))),(zc16,(zc16,())))) fun v4=>
 some (v4.2.2.1)
theorem axY (key0:Int):(runK Tryz.prog (aH8 N) 400 158 [(.int .u64)] [(.arr 16 (.int .u64))] (key0,())).run=akW N key0:=by kernel_rfl
noncomputable def aKE:(R:Type)→Env R:=Env.addFn (aH8 N) 158 (fun R=>fnK [(.int .u64)] [(.arr 16 (.int .u64))] (fun c=>akW N c.1))
theorem aDV (R:Type):EnvOK Tryz.prog (aKE N R):=EnvOK.addFn hmx (aww N R) (aww N _) (by kernel_rfl) (fun c=>axY N c.1)
noncomputable def aKD:(R:Type)→Env R:=Env.addBx (aKE N) [(157,0)]
theorem aDU (R:Type):EnvOK Tryz.prog (aKD N R):=EnvOK.addBx (aDV N R) [(157,0)]
noncomputable def aH7:(R:Type)→Env R:=Env.addMv (aKD N) [(185,8)]
theorem awv (R:Type):EnvOK Tryz.prog (aH7 N R):=EnvOK.addMv (aDU N R) [(185,8)]
noncomputable def ah7:LI:=⟨24,0,[],⟨[(1,.lit (.own 0)),(2,.ty (.int .i64)),(4,.ty (.int .i64)),(7,.ty (.int .i64))],[.own (.int .i64) 3]⟩,[(.exit 2,⟨[(1,.lit (.own 0)),(4,.ty (.int .i64))],[.own (.int .i64) 3]⟩)]⟩
noncomputable def akd (N:Nat)(X:(pz6×((List Int)×Unit))→Option (pz17))(row2:Int)(x4:Int)(x7:Int)(h0:List (Int)):Option (pz17):=
 bif (decide (x7<(6:Int))) then
  bif (aac ((List.length h0)+(List.length ([(IntKind.wrap .i64 ((@Int.tmod (IntKind.wrap .i64 ((IntKind.wrap .i64 ((IntKind.wrap .i64 ((IntKind.wrap .i64 ((4:Int)*row2))+x7))+32))-1)) (32:Int))+1))]:List (Int)))) 8) then
   (X ((row2,(x4,((IntKind.wrap .i64 (x7+1)),()))),((h0++([(IntKind.wrap .i64 ((@Int.tmod (IntKind.wrap .i64 ((IntKind.wrap .i64 ((IntKind.wrap .i64 ((IntKind.wrap .i64 ((4:Int)*row2))+x7))+32))-1)) (32:Int))+1))]:List (Int))),())))
  else
   none
 else
  some (((x4,()),(h0,())))
noncomputable def aqn (c:(pz6×((List Int)×Unit))):Option (pz17):=gl (fun X c=>akd N X c.1.1 c.1.2.1 c.1.2.2.1 c.2.1) N c
theorem aqm (X:(pz6×((List Int)×Unit))→Option (pz17))(row2:Int)(x4:Int)(x7:Int)(h0:List (Int)):(aal Tryz.prog (aH7 N) 400 [185] ah7 (aah Tryz.prog [185] 6) X ((row2,x4,x7,()),(h0,()))).run=akd N X row2 x4 x7 h0:=by kernel_rfl
noncomputable def aH6:(R:Type)→Env R:=Env.addLp (aH7 N) [185] 0 6 (fun R=>lpK Tryz.prog ah7 (fun X c=>akd N X c.1.1 c.1.2.1 c.1.2.2.1 c.2.1) N)
theorem awu (R:Type):EnvOK Tryz.prog (aH6 N R):=EnvOK.addLp (awv N R) (by kernel_rfl) (aao (li:=ah7) hmx (awv N _) (by kernel_rfl) aaa (fun X c=>aqm N X c.1.1 c.1.2.1 c.1.2.2.1 c.2.1) N)
noncomputable def ah8:LI:=⟨24,0,[(1,3)],⟨[(1,.lit (.own 0)),(4,.ty (.int .i64))],[.own (.int .i64) 3]⟩,[(.exit 0,⟨[(1,.lit (.own 0))],[.own (.int .i64) 3]⟩)]⟩
noncomputable def ake (X:pz17→Option pz1)(x4:Int)(h0:List (Int)):Option pz1:=
 bif (decide (x4<(8:Int))) then
  Option.bind (aqn N ((x4,(x4,((0:Int),()))),(h0,()))) fun v4=>
  (X (((IntKind.wrap .i64 (v4.1.1+1)),()),(v4.2.1,())))
 else
  some (((),(h0,())))
noncomputable def aqp (c:pz17):Option pz1:=gl (fun X c=>ake N X c.1.1 c.2.1) N c
theorem aqo (X:pz17→Option pz1)(x4:Int)(h0:List (Int)):(aal Tryz.prog (aH6 N) 400 [185] ah8 (aah Tryz.prog [185] 3) X ((x4,()),(h0,()))).run=ake N X x4 h0:=by kernel_rfl
noncomputable def aH5:(R:Type)→Env R:=Env.addLp (aH6 N) [185] 0 3 (fun R=>lpK Tryz.prog ah8 (fun X c=>ake N X c.1.1 c.2.1) N)
theorem awt (R:Type):EnvOK Tryz.prog (aH5 N R):=EnvOK.addLp (awu N R) (by kernel_rfl) (aao (li:=ah8) hmx (awu N _) (by kernel_rfl) aaa (fun X c=>aqo N X c.1.1 c.2.1) N)
noncomputable def akT:Option (List Int):=
 Option.bind (aqp N (((0:Int),()),(([]:List Int),()))) fun v1=>
 some (v1.2.1)
theorem axV:(runK Tryz.prog (aH5 N) 400 185 [] [(.sl (.int .i64))] ()).run=akT N:=by kernel_rfl
noncomputable def aH4:(R:Type)→Env R:=Env.addFn (aH5 N) 185 (fun R=>fnK [] [(.sl (.int .i64))] (fun c=>akT N ))
theorem aws (R:Type):EnvOK Tryz.prog (aH4 N R):=EnvOK.addFn hmx (awt N R) (awt N _) (by kernel_rfl) (fun c=>axV N )
noncomputable def ao1 (N:Nat):Option (List Int):=
 some ((((([16,7,20,21,29,12,28,17]:List Int)++([1,15,23,26,5,18,31,10]:List Int))++([2,8,24,14,32,27,3,9]:List Int))++([19,13,30,6,22,11,4,25]:List Int)))
theorem ar5:(runK Tryz.prog (aH4 N) 400 186 [] [(.sl (.int .i64))] ()).run=ao1 N:=by kernel_rfl
noncomputable def aKC:(R:Type)→Env R:=Env.addFn (aH4 N) 186 (fun R=>fnK [] [(.sl (.int .i64))] (fun c=>ao1 N ))
theorem aDT (R:Type):EnvOK Tryz.prog (aKC N R):=EnvOK.addFn hmx (aws N R) (aws N _) (by kernel_rfl) (fun c=>ar5 N )
noncomputable def aH3:(R:Type)→Env R:=Env.addMv (aKC N) [(188,5)]
theorem awr (R:Type):EnvOK Tryz.prog (aH3 N R):=EnvOK.addMv (aDT N R) [(188,5)]
noncomputable def aby:LI:=⟨21,1,[(0,3)],⟨[(0,.lit (.own 1)),(1,.ty (.int .i64)),(8,.ty (.int .i64)),(9,.ty (.int .i64))],[.dead,.own (.int .i64) 3]⟩,[(.exit 0,⟨[(0,.lit (.own 1))],[.dead,.own (.int .i64) 3]⟩)]⟩
noncomputable def abP (N:Nat)(X:(pz6×((List Int)×Unit))→Option pz1)(x1:Int)(x8:Int)(x9:Int)(h0:List (Int)):Option pz1:=
 bif (decide (x9<x8)) then
  bif (aac ((List.length h0)+(List.length ([(IntKind.wrap .i64 (x1-(IntKind.wrap .i64 ((8:Int)*x9))))]:List (Int)))) 8) then
   (X ((x1,(x8,((IntKind.wrap .i64 (x9+1)),()))),((h0++([(IntKind.wrap .i64 (x1-(IntKind.wrap .i64 ((8:Int)*x9))))]:List (Int))),())))
  else
   none
 else
  some (((),(h0,())))
noncomputable def afn (c:(pz6×((List Int)×Unit))):Option pz1:=gl (fun X c=>abP N X c.1.1 c.1.2.1 c.1.2.2.1 c.2.1) N c
theorem afm (X:(pz6×((List Int)×Unit))→Option pz1)(x1:Int)(x8:Int)(x9:Int)(h0:List (Int)):(aal Tryz.prog (aH3 N) 400 [215,5,188] aby (aah Tryz.prog [215,5,188] 2) X ((x1,x8,x9,()),(h0,()))).run=abP N X x1 x8 x9 h0:=by kernel_rfl
noncomputable def aH2:(R:Type)→Env R:=Env.addLp (aH3 N) [215,5,188] 1 2 (fun R=>lpK Tryz.prog aby (fun X c=>abP N X c.1.1 c.1.2.1 c.1.2.2.1 c.2.1) N)
theorem awq (R:Type):EnvOK Tryz.prog (aH2 N R):=EnvOK.addLp (awr N R) (by kernel_rfl) (aao (li:=aby) hmx (awr N _) (by kernel_rfl) aaa (fun X c=>afm N X c.1.1 c.1.2.1 c.1.2.2.1 c.2.1) N)
noncomputable def agX:LI:=⟨13,0,[(1,3)],⟨[(1,.lit (.own 0)),(4,.ty (.arr 8 (.int .i64))),(5,.ty (.int .i64))],[.own (.int .i64) 3]⟩,[(.exit 0,⟨[(1,.lit (.own 0))],[.own (.int .i64) 3]⟩)]⟩
noncomputable def ai8 (X:(((Arr Int 8)×(Int×Unit))×((List Int)×Unit))→Option pz1)(x4:Arr Int 8)(x5:Int)(h0:List (Int)):Option pz1:=
 bif (decide (x5<(8:Int))) then
  Option.bind (getI x4.l x5) fun (v5:Int)=>
  Option.bind (afn N ((v5,((8:Int),((0:Int),()))),(h0,()))) fun v6=>
  (X ((x4,((IntKind.wrap .i64 (x5+1)),())),(v6.2.1,())))
 else
  some (((),(h0,())))
noncomputable def aop (c:(((Arr Int 8)×(Int×Unit))×((List Int)×Unit))):Option pz1:=gl (fun X c=>ai8 N X c.1.1 c.1.2.1 c.2.1) N c
theorem aoo (X:(((Arr Int 8)×(Int×Unit))×((List Int)×Unit))→Option pz1)(x4:Arr Int 8)(x5:Int)(h0:List (Int)):(aal Tryz.prog (aH2 N) 400 [188] agX (aah Tryz.prog [188] 3) X ((x4,x5,()),(h0,()))).run=ai8 N X x4 x5 h0:=by kernel_rfl
noncomputable def aH1:(R:Type)→Env R:=Env.addLp (aH2 N) [188] 0 3 (fun R=>lpK Tryz.prog agX (fun X c=>ai8 N X c.1.1 c.1.2.1 c.2.1) N)
theorem awp (R:Type):EnvOK Tryz.prog (aH1 N R):=EnvOK.addLp (awq N R) (by kernel_rfl) (aao (li:=agX) hmx (awq N _) (by kernel_rfl) aaa (fun X c=>aoo N X c.1.1 c.1.2.1 c.2.1) N)
noncomputable def ahA:Option (List Int):=
 Option.bind (aop N (((@Arr.cons Int 7 58 (@Arr.cons Int 6 60 (@Arr.cons Int 5 62 (@Arr.cons Int 4 64 (@Arr.cons Int 3 57 (@Arr.cons Int 2 59 (@Arr.cons Int 1 61 (@Arr.cons Int 0 63 (@Arr.nil Int))))))))),((0:Int),())),(([]:List Int),()))) fun v1=>
 some (v1.2.1)
theorem atr:(runK Tryz.prog (aH1 N) 400 188 [] [(.sl (.int .i64))] ()).run=ahA N:=by kernel_rfl
noncomputable def aH0:(R:Type)→Env R:=Env.addFn (aH1 N) 188 (fun R=>fnK [] [(.sl (.int .i64))] (fun c=>ahA N ))
theorem awo (R:Type):EnvOK Tryz.prog (aH0 N R):=EnvOK.addFn hmx (awp N R) (awp N _) (by kernel_rfl) (fun c=>atr N )
noncomputable def ah6:LI:=⟨36,0,[],⟨[(3,.ty (.sl (.int .i64))),(9,.ty (.int .u64)),(10,.ty (.int .u64)),(11,.ty (.int .i64))],[]⟩,[(.exit 0,⟨[(3,.ty (.sl (.int .i64))),(10,.ty (.int .u64))],[]⟩)]⟩
noncomputable def af8 (X:(((List Int)×pz6)×Unit)→Option ((pz5×Unit)))(mix3:List (Int))(six9:Int)(digits10:Int)(n11:Int):Option ((pz5×Unit)):=
 bif (decide (n11≤(8:Int))) then
  bif (decide ((0:Int)≤(IntKind.wrap .i64 ((48:Int)-(IntKind.wrap .i64 ((6:Int)*n11)))))) then
   Option.bind (ai9 N n11 (@Int.fdiv six9 ((2:Int) ^ (min (Int.toNat (IntKind.wrap .i64 ((48:Int)-(IntKind.wrap .i64 ((6:Int)*n11))))) (IntKind.bits .u64))))) fun v6=>
   (X ((mix3,(six9,((bits .or .u64 (IntKind.wrap .u64 (digits10*((2:Int) ^ (min (Int.toNat (4:Int)) (IntKind.bits .u64))))) v6),((IntKind.wrap .i64 (n11+1)),())))),()))
  else
   none
 else
  some (((mix3,(digits10,())),()))
noncomputable def ah5 (c:(((List Int)×pz6)×Unit)):Option ((pz5×Unit)):=gl (fun X c=>af8 N X c.1.1 c.1.2.1 c.1.2.2.1 c.1.2.2.2.1) N c
theorem aql (X:(((List Int)×pz6)×Unit)→Option ((pz5×Unit)))(mix3:List (Int))(six9:Int)(digits10:Int)(n11:Int):(aal Tryz.prog (aH0 N) 400 [189] ah6 (aah Tryz.prog [189] 4) X ((mix3,six9,digits10,n11,()),())).run=af8 N X mix3 six9 digits10 n11:=by kernel_rfl
noncomputable def aHZ:(R:Type)→Env R:=Env.addLp (aH0 N) [189] 0 4 (fun R=>lpK Tryz.prog ah6 (fun X c=>af8 N X c.1.1 c.1.2.1 c.1.2.2.1 c.1.2.2.2.1) N)
theorem awn (R:Type):EnvOK Tryz.prog (aHZ N R):=EnvOK.addLp (awo N R) (by kernel_rfl) (aao (li:=ah6) hmx (awo N _) (by kernel_rfl) aaa (fun X c=>aql N X c.1.1 c.1.2.1 c.1.2.2.1 c.1.2.2.2.1) N)
noncomputable def akS (half0:Int)(key1:Int)(widen2:List (Int))(mix3:List (Int)):Option Int:=
 Option.bind (aaC N (IntKind.wrap .u64 half0) (32:Int) widen2) fun v5=>
 Option.bind (ah5 N ((mix3,((bits .xor .u64 v5 key1),((0:Int),((1:Int),())))),())) fun v6=>
 Option.bind (aaC N v6.1.2.1 (32:Int) v6.1.1) fun v7=>
 some ((IntKind.wrap .u32 v7))
theorem axU (half0:Int)(key1:Int)(widen2:List (Int))(mix3:List (Int)):(runK Tryz.prog (aHZ N) 400 189 [(.int .u32),(.int .u64),(.sl (.int .i64)),(.sl (.int .i64))] [(.int .u32)] (half0,key1,widen2,mix3,())).run=akS N half0 key1 widen2 mix3:=by kernel_rfl
noncomputable def aHY:(R:Type)→Env R:=Env.addFn (aHZ N) 189 (fun R=>fnK [(.int .u32),(.int .u64),(.sl (.int .i64)),(.sl (.int .i64))] [(.int .u32)] (fun c=>akS N c.1 c.2.1 c.2.2.1 c.2.2.2.1))
theorem awm (R:Type):EnvOK Tryz.prog (aHY N R):=EnvOK.addFn hmx (awn N R) (awn N _) (by kernel_rfl) (fun c=>axU N c.1 c.2.1 c.2.2.1 c.2.2.2.1)
noncomputable def afb:LI:=⟨43,0,[],⟨[(5,.ty (.sl (.int .i64))),(6,.ty (.sl (.int .i64))),(8,.ty (.int .u32)),(9,.ty (.int .u32)),(22,.ty (.arr 16 (.int .u64))),(23,.ty (.int .i64))],[]⟩,[(.exit 0,⟨[(8,.ty (.int .u32)),(9,.ty (.int .u32))],[]⟩)]⟩
noncomputable def adm (X:(((List Int)×((List Int)×(Int×(Int×((Arr Int 16)×(Int×Unit))))))×Unit)→Option (pz11))(widen5:List (Int))(mix6:List (Int))(left8:Int)(right9:Int)(x22:Arr Int 16)(x23:Int):Option (pz11):=
 bif (decide (x23<(16:Int))) then
  Option.bind (getI x22.l x23) fun (v8:Int)=>
  Option.bind (akS N right9 v8 widen5 mix6) fun v9=>
  (X ((widen5,(mix6,(right9,((bits .xor .u32 left8 v9),(x22,((IntKind.wrap .i64 (x23+1)),())))))),()))
 else
  some (((left8,(right9,())),()))
noncomputable def adp (c:(((List Int)×((List Int)×(Int×(Int×((Arr Int 16)×(Int×Unit))))))×Unit)):Option (pz11):=gl (fun X c=>adm N X c.1.1 c.1.2.1 c.1.2.2.1 c.1.2.2.2.1 c.1.2.2.2.2.1 c.1.2.2.2.2.2.1) N c
theorem amc (X:(((List Int)×((List Int)×(Int×(Int×((Arr Int 16)×(Int×Unit))))))×Unit)→Option (pz11))(widen5:List (Int))(mix6:List (Int))(left8:Int)(right9:Int)(x22:Arr Int 16)(x23:Int):(aal Tryz.prog (aHY N) 400 [157] afb (aah Tryz.prog [157] 5) X ((widen5,mix6,left8,right9,x22,x23,()),())).run=adm N X widen5 mix6 left8 right9 x22 x23:=by kernel_rfl
noncomputable def aHX:(R:Type)→Env R:=Env.addLp (aHY N) [157] 0 5 (fun R=>lpK Tryz.prog afb (fun X c=>adm N X c.1.1 c.1.2.1 c.1.2.2.1 c.1.2.2.2.1 c.1.2.2.2.2.1 c.1.2.2.2.2.2.1) N)
theorem awl (R:Type):EnvOK Tryz.prog (aHX N R):=EnvOK.addLp (awm N R) (by kernel_rfl) (aao (li:=afb) hmx (awm N _) (by kernel_rfl) aaa (fun X c=>amc N X c.1.1 c.1.2.1 c.1.2.2.1 c.1.2.2.2.1 c.1.2.2.2.2.1 c.1.2.2.2.2.2.1) N)
noncomputable def aic:LI:=⟨20,0,[],⟨[(1,.lit (.own 0)),(5,.ty (.sl (.int .i64))),(6,.ty (.int .i64)),(7,.ty (.int .i64))],[.own (.int .i64) 3]⟩,[(.exit 0,⟨[(1,.lit (.own 0))],[.own (.int .i64) 3]⟩)]⟩
noncomputable def akf (N:Nat)(X:(pz3×((List Int)×Unit))→Option pz1)(x5:List (Int))(x6:Int)(x7:Int)(h0:List (Int)):Option pz1:=
 bif (decide (x7<x6)) then
  Option.bind (getI x5 x7) fun (v6:Int)=>
  bif (decide ((0:Int)≤(IntKind.wrap .i64 (v6-1))∧(IntKind.wrap .i64 (v6-1))<(((List.length h0):Nat):Int))) then
   Option.bind (h0[Int.toNat (IntKind.wrap .i64 (v6-1))]?) fun (v7:Int)=>
   (X ((x5,(x6,((IntKind.wrap .i64 (x7+1)),()))),((@List.set Int h0 (Int.toNat (IntKind.wrap .i64 (v6-1))) (IntKind.wrap .i64 (x7+1))),())))
  else
   none
 else
  some (((),(h0,())))
noncomputable def aqs (c:(pz3×((List Int)×Unit))):Option pz1:=gl (fun X c=>akf N X c.1.1 c.1.2.1 c.1.2.2.1 c.2.1) N c
theorem aqr (X:(pz3×((List Int)×Unit))→Option pz1)(x5:List (Int))(x6:Int)(x7:Int)(h0:List (Int)):(aal Tryz.prog (aHX N) 400 [190] aic (aah Tryz.prog [190] 3) X ((x5,x6,x7,()),(h0,()))).run=akf N X x5 x6 x7 h0:=by kernel_rfl
noncomputable def aHW:(R:Type)→Env R:=Env.addLp (aHX N) [190] 0 3 (fun R=>lpK Tryz.prog aic (fun X c=>akf N X c.1.1 c.1.2.1 c.1.2.2.1 c.2.1) N)
theorem awk (R:Type):EnvOK Tryz.prog (aHW N R):=EnvOK.addLp (awl N R) (by kernel_rfl) (aao (li:=aic) hmx (awl N _) (by kernel_rfl) aaa (fun X c=>aqr N X c.1.1 c.1.2.1 c.1.2.2.1 c.2.1) N)
noncomputable def akU:Option (List Int):=
 Option.bind (@ahA N) fun (v1:(List Int))=>
 Option.bind (aqs N ((v1,((((List.length v1):Nat):Int),((0:Int),()))),((@List.replicate Int (Int.toNat (64:Int)) (0:Int)),()))) fun v2=>
 some (v2.2.1)
theorem axW:(runK Tryz.prog (aHW N) 400 190 [] [(.sl (.int .i64))] ()).run=akU N:=by kernel_rfl
noncomputable def aHV:(R:Type)→Env R:=Env.addFn (aHW N) 190 (fun R=>fnK [] [(.sl (.int .i64))] (fun c=>akU N ))
theorem awj (R:Type):EnvOK Tryz.prog (aHV N R):=EnvOK.addFn hmx (awk N R) (awk N _) (by kernel_rfl) (fun c=>axW N )
noncomputable def agb (keys0:Arr Int 16)(block1:Int):Option Int:=
 Option.bind (@akT N) fun (v3:(List Int))=>
 Option.bind (@ahA N) fun (v4:(List Int))=>
 Option.bind (aaC N block1 (64:Int) v4) fun v5=>
 Option.bind (adp N ((v3,((((([16,7,20,21,29,12,28,17]:List Int)++([1,15,23,26,5,18,31,10]:List Int))++([2,8,24,14,32,27,3,9]:List Int))++([19,13,30,6,22,11,4,25]:List Int)),((IntKind.wrap .u32 (@Int.fdiv v5 ((2:Int) ^ (min (Int.toNat (32:Int)) (IntKind.bits .u64))))),((IntKind.wrap .u32 v5),(keys0,((0:Int),())))))),())) fun v6=>
 Option.bind (@akU N) fun (v7:(List Int))=>
 Option.bind (aaC N (bits .or .u64 (IntKind.wrap .u64 ((IntKind.wrap .u64 v6.1.2.1)*((2:Int) ^ (min (Int.toNat (32:Int)) (IntKind.bits .u64))))) (IntKind.wrap .u64 v6.1.1)) (64:Int) v7) fun v8=>
 some (v8)
theorem aqq (keys0:Arr Int 16)(block1:Int):(runK Tryz.prog (aHV N) 400 157 [(.arr 16 (.int .u64)),(.int .u64)] [(.int .u64)] (keys0,block1,())).run=agb N keys0 block1:=by kernel_rfl
noncomputable def aHU:(R:Type)→Env R:=Env.addFn (aHV N) 157 (fun R=>fnK [(.arr 16 (.int .u64)),(.int .u64)] [(.int .u64)] (fun c=>agb N c.1 c.2.1))
theorem awi (R:Type):EnvOK Tryz.prog (aHU N R):=EnvOK.addFn hmx (awj N R) (awj N _) (by kernel_rfl) (fun c=>aqq N c.1 c.2.1)
noncomputable def akV (key0:Int)(block1:Int):Option Int:=
 Option.bind (akW N key0) fun v3=>
 Option.bind (agb N v3 block1) fun v4=>
 some (v4)
theorem axX (key0:Int)(block1:Int):(runK Tryz.prog (aHU N) 400 120 [(.int .u64),(.int .u64)] [(.int .u64)] (key0,block1,())).run=akV N key0 block1:=by kernel_rfl
noncomputable def aHT:(R:Type)→Env R:=Env.addFn (aHU N) 120 (fun R=>fnK [(.int .u64),(.int .u64)] [(.int .u64)] (fun c=>akV N c.1 c.2.1))
theorem awh (R:Type):EnvOK Tryz.prog (aHT N R):=EnvOK.addFn hmx (awi N R) (awi N _) (by kernel_rfl) (fun c=>axX N c.1 c.2.1)
noncomputable def aaI:LI:=⟨28,4,[],⟨[(1,.ty (.int .i64)),(2,.lit (.clo 182 [.box 2 0,.box 3 0,.box 0 0,.box 1 0])),(7,.ty (.int .u8)),(9,.ty (.sl (.int .u8))),(10,.ty (.int .i64)),(11,.ty (.int .i64)),(15,.ty (.int .i64)),(16,.ty (.int .i64))],[.box 3 (.int .i64),.boxp 28 [.own 4],.box 5 (.int .u8),.box 3 (.int .i64),.own (.int .u8) 5]⟩,[(.exit 2,⟨[(1,.ty (.int .i64)),(2,.lit (.clo 182 [.box 2 0,.box 3 0,.box 0 0,.box 1 0])),(9,.ty (.sl (.int .u8))),(10,.ty (.int .i64)),(11,.ty (.int .i64))],[.box 3 (.int .i64),.boxp 28 [.own 4],.box 5 (.int .u8),.box 3 (.int .i64),.own (.int .u8) 5]⟩)]⟩
noncomputable def aaf (N:Nat)(X:((Int×(Int×((List Int)×(Int×pz6))))×(Int×pz13))→Option (((Int×pz3)×(Int×pz13))))(many1:Int)(b7:Int)(x9:List (Int))(x10:Int)(x11:Int)(x15:Int)(x16:Int)(h0:Int)(h1:Int)(h2:Int)(h3:List (Int)):Option (((Int×pz3)×(Int×pz13))):=
 bif (decide (x16<x15)) then
  bif (decide ((0:Int)≤(IntKind.wrap .i64 ((7:Int)-x16)))) then
   bif (decide ((IntKind.wrap .i64 (h2+1))=h0)) then
    bif (aac ((List.length h3)+(List.length ([(bits .or .u8 (IntKind.wrap .u8 (h1*((2:Int) ^ (min (Int.toNat (1:Int)) (IntKind.bits .u8))))) (bits .and .u8 (@Int.fdiv b7 ((2:Int) ^ (min (Int.toNat (IntKind.wrap .i64 ((7:Int)-x16))) (IntKind.bits .u8)))) (1:Int)))]:List (Int)))) 1) then
     (X ((many1,(b7,(x9,(x10,(x11,(x15,((IntKind.wrap .i64 (x16+1)),()))))))),(h0,((0:Int),((0:Int),((h3++([(bits .or .u8 (IntKind.wrap .u8 (h1*((2:Int) ^ (min (Int.toNat (1:Int)) (IntKind.bits .u8))))) (bits .and .u8 (@Int.fdiv b7 ((2:Int) ^ (min (Int.toNat (IntKind.wrap .i64 ((7:Int)-x16))) (IntKind.bits .u8)))) (1:Int)))]:List (Int))),()))))))
    else
     none
   else
    (X ((many1,(b7,(x9,(x10,(x11,(x15,((IntKind.wrap .i64 (x16+1)),()))))))),(h0,((bits .or .u8 (IntKind.wrap .u8 (h1*((2:Int) ^ (min (Int.toNat (1:Int)) (IntKind.bits .u8))))) (bits .and .u8 (@Int.fdiv b7 ((2:Int) ^ (min (Int.toNat (IntKind.wrap .i64 ((7:Int)-x16))) (IntKind.bits .u8)))) (1:Int))),((IntKind.wrap .i64 (h2+1)),(h3,()))))))
  else
   none
 else
  some (((many1,(x9,(x10,(x11,())))),(h0,(h1,(h2,(h3,()))))))
noncomputable def aaH (c:((Int×(Int×((List Int)×(Int×pz6))))×(Int×pz13))):Option (((Int×pz3)×(Int×pz13))):=gl (fun X c=>aaf N X c.1.1 c.1.2.1 c.1.2.2.1 c.1.2.2.2.1 c.1.2.2.2.2.1 c.1.2.2.2.2.2.1 c.1.2.2.2.2.2.2.1 c.2.1 c.2.2.1 c.2.2.2.1 c.2.2.2.2.1) N c
theorem acl (X:((Int×(Int×((List Int)×(Int×pz6))))×(Int×pz13))→Option (((Int×pz3)×(Int×pz13))))(many1:Int)(b7:Int)(x9:List (Int))(x10:Int)(x11:Int)(x15:Int)(x16:Int)(h0:Int)(h1:Int)(h2:Int)(h3:List (Int)):(aal Tryz.prog (aHT N) 400 [183,5,155,3,118] aaI (aah Tryz.prog [183,5,155,3,118] 4) X ((many1,b7,x9,x10,x11,x15,x16,()),(h0,h1,h2,h3,()))).run=aaf N X many1 b7 x9 x10 x11 x15 x16 h0 h1 h2 h3:=by kernel_rfl
noncomputable def aHS:(R:Type)→Env R:=Env.addLp (aHT N) [183,5,155,3,118] 4 4 (fun R=>lpK Tryz.prog aaI (fun X c=>aaf N X c.1.1 c.1.2.1 c.1.2.2.1 c.1.2.2.2.1 c.1.2.2.2.2.1 c.1.2.2.2.2.2.1 c.1.2.2.2.2.2.2.1 c.2.1 c.2.2.1 c.2.2.2.1 c.2.2.2.2.1) N)
theorem awg (R:Type):EnvOK Tryz.prog (aHS N R):=EnvOK.addLp (awh N R) (by kernel_rfl) (aao (li:=aaI) hmx (awh N _) (by kernel_rfl) aaa (fun X c=>acl N X c.1.1 c.1.2.1 c.1.2.2.1 c.1.2.2.2.1 c.1.2.2.2.2.1 c.1.2.2.2.2.2.1 c.1.2.2.2.2.2.2.1 c.2.1 c.2.2.1 c.2.2.2.1 c.2.2.2.2.1) N)
noncomputable def aaK:LI:=⟨28,4,[],⟨[(1,.ty (.int .i64)),(2,.lit (.clo 182 [.box 2 0,.box 3 0,.box 0 0,.box 1 0])),(9,.ty (.sl (.int .u8))),(10,.ty (.int .i64)),(11,.ty (.int .i64))],[.box 3 (.int .i64),.boxp 28 [.own 4],.box 5 (.int .u8),.box 3 (.int .i64),.own (.int .u8) 5]⟩,[(.exit 0,⟨[],[.box 3 (.int .i64),.boxp 28 [.own 4],.box 5 (.int .u8),.box 3 (.int .i64),.own (.int .u8) 5]⟩)]⟩
noncomputable def aan (X:((Int×pz3)×(Int×pz13))→Option ((Unit×(Int×pz13))))(many1:Int)(x9:List (Int))(x10:Int)(x11:Int)(h0:Int)(h1:Int)(h2:Int)(h3:List (Int)):Option ((Unit×(Int×pz13))):=
 bif (decide (x11<x10)) then
  Option.bind (getI x9 x11) fun (v10:Int)=>
  Option.bind (aaH N ((many1,(v10,(x9,(x10,(x11,(many1,((0:Int),()))))))),(h0,(h1,(h2,(h3,())))))) fun v11=>
  (X ((v11.1.1,(v11.1.2.1,(v11.1.2.2.1,((IntKind.wrap .i64 (v11.1.2.2.2.1+1)),())))),(v11.2.1,((v11.2).snd.1,((v11.2).snd.2.1,((v11.2).snd.2.2.1,()))))))
 else
  some (((),(h0,(h1,(h2,(h3,()))))))
noncomputable def aaJ (c:((Int×pz3)×(Int×pz13))):Option ((Unit×(Int×pz13))):=gl (fun X c=>aan N X c.1.1 c.1.2.1 c.1.2.2.1 c.1.2.2.2.1 c.2.1 c.2.2.1 c.2.2.2.1 c.2.2.2.2.1) N c
theorem acm (X:((Int×pz3)×(Int×pz13))→Option ((Unit×(Int×pz13))))(many1:Int)(x9:List (Int))(x10:Int)(x11:Int)(h0:Int)(h1:Int)(h2:Int)(h3:List (Int)):(aal Tryz.prog (aHS N) 400 [183,5,155,3,118] aaK (aah Tryz.prog [183,5,155,3,118] 1) X ((many1,x9,x10,x11,()),(h0,h1,h2,h3,()))).run=aan N X many1 x9 x10 x11 h0 h1 h2 h3:=by kernel_rfl
noncomputable def aHR:(R:Type)→Env R:=Env.addLp (aHS N) [183,5,155,3,118] 4 1 (fun R=>lpK Tryz.prog aaK (fun X c=>aan N X c.1.1 c.1.2.1 c.1.2.2.1 c.1.2.2.2.1 c.2.1 c.2.2.1 c.2.2.2.1 c.2.2.2.2.1) N)
theorem awf (R:Type):EnvOK Tryz.prog (aHR N R):=EnvOK.addLp (awg N R) (by kernel_rfl) (aao (li:=aaK) hmx (awg N _) (by kernel_rfl) aaa (fun X c=>acm N X c.1.1 c.1.2.1 c.1.2.2.1 c.1.2.2.2.1 c.2.1 c.2.2.1 c.2.2.2.1 c.2.2.2.2.1) N)
noncomputable def adc (N:Nat)(x0:Int):Option Int:=
 Option.bind (getI (Array.toList (List.toArray (@List.append UInt8 (@List.append UInt8 ([0,1,1,2,1,2,2,3,1,2,2,3,2,3,3,4,1,2,2,3,2,3,3,4,2,3,3,4,3,4,4,5,1,2,2,3,2,3,3,4,2,3,3,4,3,4,4,5,2,3,3,4,3,4,4,5,3,4,4,5,4,5,5,6]:List UInt8) ([1,2,2,3,2,3,3,4,2,3,3,4,3,4,4,5,2,3,3,4,3,4,4,5,3,4,4,5,4,5,5,6,2,3,3,4,3,4,4,5,3,4,4,5,4,5,5,6,3,4,4,5,4,5,5,6,4,5,5,6,5,6,6,7]:List UInt8)) (@List.append UInt8 ([1,2,2,3,2,3,3,4,2,3,3,4,3,4,4,5,2,3,3,4,3,4,4,5,3,4,4,5,4,5,5,6,2,3,3,4,3,4,4,5,3,4,4,5,4,5,5,6,3,4,4,5,4,5,5,6,4,5,5,6,5,6,6,7]:List UInt8) ([2,3,3,4,3,4,4,5,3,4,4,5,4,5,5,6,3,4,4,5,4,5,5,6,4,5,5,6,5,6,6,7,3,4,4,5,4,5,5,6,4,5,5,6,5,6,6,7,4,5,5,6,5,6,6,7,5,6,6,7,6,7,7,8]:List UInt8))))) x0) fun (v2:UInt8)=>
 some ((IntKind.wrap .i64 (((@UInt8.toNat v2):Nat):Int)))
theorem aiv (x0:Int):(runK Tryz.prog (aHR N) 400 184 [(.int .u8)] [(.int .i64)] (x0,())).run=adc N x0:=by kernel_rfl
noncomputable def aHQ:(R:Type)→Env R:=Env.addFn (aHR N) 184 (fun R=>fnK [(.int .u8)] [(.int .i64)] (fun c=>adc N c.1))
theorem awe (R:Type):EnvOK Tryz.prog (aHQ N R):=EnvOK.addFn hmx (awf N R) (awf N _) (by kernel_rfl) (fun c=>aiv N c.1)
noncomputable def ak5 (b0:Int):Option Int:=
 Option.bind (adc N (bits .andNot .u8 b0 (1:Int))) fun v2=>
 bif (decide ((@Int.tmod v2 (2:Int))=(0:Int))) then
  some ((bits .or .u8 (bits .andNot .u8 b0 (1:Int)) (1:Int)))
 else
  some ((bits .andNot .u8 b0 (1:Int)))
theorem ax9 (b0:Int):(runK Tryz.prog (aHQ N) 400 156 [(.int .u8)] [(.int .u8)] (b0,())).run=ak5 N b0:=by kernel_rfl
noncomputable def aHP:(R:Type)→Env R:=Env.addFn (aHQ N) 156 (fun R=>fnK [(.int .u8)] [(.int .u8)] (fun c=>ak5 N c.1))
theorem awd (R:Type):EnvOK Tryz.prog (aHP N R):=EnvOK.addFn hmx (awe N R) (awe N _) (by kernel_rfl) (fun c=>ax9 N c.1)
noncomputable def afg:LI:=⟨27,0,[],⟨[(4,.lit (.own 0)),(12,.lit (.own 0)),(13,.ty (.int .i64)),(14,.ty (.int .i64))],[.own (.int .u8) 5]⟩,[(.exit 0,⟨[(4,.lit (.own 0))],[.own (.int .u8) 5]⟩)]⟩
noncomputable def acN (X:pz15→Option pz1)(x13:Int)(x14:Int)(h0:List (Int)):Option pz1:=
 bif (decide (x14<x13)) then
  bif (decide ((0:Int)≤x14∧x14<(((List.length h0):Nat):Int))) then
   Option.bind (h0[Int.toNat x14]?) fun (v5:Int)=>
   Option.bind (ak5 N (IntKind.wrap .u8 (v5*((2:Int) ^ (min (Int.toNat (1:Int)) (IntKind.bits .u8)))))) fun v6=>
   bif (decide ((0:Int)≤x14∧x14<(((List.length h0):Nat):Int))) then
    Option.bind (h0[Int.toNat x14]?) fun (v7:Int)=>
    (X ((x13,((IntKind.wrap .i64 (x14+1)),())),((@List.set Int h0 (Int.toNat x14) v6),())))
   else
    none
  else
   none
 else
  some (((),(h0,())))
noncomputable def aff (c:pz15):Option pz1:=gl (fun X c=>acN N X c.1.1 c.1.2.1 c.2.1) N c
theorem amf (X:pz15→Option pz1)(x13:Int)(x14:Int)(h0:List (Int)):(aal Tryz.prog (aHP N) 400 [118] afg (aah Tryz.prog [118] 5) X ((x13,x14,()),(h0,()))).run=acN N X x13 x14 h0:=by kernel_rfl
noncomputable def aHO:(R:Type)→Env R:=Env.addLp (aHP N) [118] 0 5 (fun R=>lpK Tryz.prog afg (fun X c=>acN N X c.1.1 c.1.2.1 c.2.1) N)
theorem awc (R:Type):EnvOK Tryz.prog (aHO N R):=EnvOK.addLp (awd N R) (by kernel_rfl) (aao (li:=afg) hmx (awd N _) (by kernel_rfl) aaa (fun X c=>amf N X c.1.1 c.1.2.1 c.2.1) N)
noncomputable def agi (key0:List (Int)):Option ((List Int)×Int):=
 bif (!(decide ((((List.length key0):Nat):Int)=(7:Int)))) then
  some ((([]:List Int),(1:Int)))
 else
  Option.bind (aaJ N (((8:Int),(key0,((((List.length key0):Nat):Int),((0:Int),())))),((7:Int),((0:Int),((0:Int),(([]:List Int),())))))) fun v2=>
  Option.bind (aff N (((((List.length (v2.2).snd.2.2.1):Nat):Int),((0:Int),())),((v2.2).snd.2.2.1,()))) fun v3=>
  some ((v3.2.1,(0:Int)))
theorem aqD (key0:List (Int)):(runK Tryz.prog (aHO N) 400 118 [(.sl (.int .u8))] [(.sl (.int .u8)),(.int .i64)] (key0,())).run=agi N key0:=by kernel_rfl
noncomputable def aHN:(R:Type)→Env R:=Env.addFn (aHO N) 118 (fun R=>fnK [(.sl (.int .u8))] [(.sl (.int .u8)),(.int .i64)] (fun c=>agi N c.1))
theorem awb (R:Type):EnvOK Tryz.prog (aHN N R):=EnvOK.addFn hmx (awc N R) (awc N _) (by kernel_rfl) (fun c=>aqD N c.1)
noncomputable def aeU (key0:List (Int))(block1:List (Int)):Option ((List Int)×Int):=
 Option.bind (agi N key0) fun v3=>
 bif (!(decide (v3.2=(0:Int)))) then
  some ((([]:List Int),(1:Int)))
 else
  Option.bind (some ((cond false true (!(decide ((((List.length block1):Nat):Int)=(8:Int))))))) fun (v4:Bool)=>
  bif v4 then
   some ((([]:List Int),(1:Int)))
  else
   Option.bind (aeI N v3.1 false) fun v5=>
   Option.bind (aeI N block1 false) fun v6=>
   Option.bind (akV N v5.1 v6.1) fun v7=>
   Option.bind (abw N v7 (8:Int) false) fun v8=>
   some (v8)
theorem att (key0:List (Int))(block1:List (Int)):(runK Tryz.prog (aHN N) 400 81 [(.sl (.int .u8)),(.sl (.int .u8))] [(.sl (.int .u8)),(.int .i64)] (key0,block1,())).run=aeU N key0 block1:=by kernel_rfl
noncomputable def aKB:(R:Type)→Env R:=Env.addFn (aHN N) 81 (fun R=>fnK [(.sl (.int .u8)),(.sl (.int .u8))] [(.sl (.int .u8)),(.int .i64)] (fun c=>aeU N c.1 c.2.1))
theorem aDS (R:Type):EnvOK Tryz.prog (aKB N R):=EnvOK.addFn hmx (awb N R) (awb N _) (by kernel_rfl) (fun c=>att N c.1 c.2.1)
noncomputable def aHM:(R:Type)→Env R:=Env.addMv (aKB N) [(135,2),(135,12)]
theorem awa (R:Type):EnvOK Tryz.prog (aHM N R):=EnvOK.addMv (aDS N R) [(135,2),(135,12)]
noncomputable def agE:LI:=⟨24,0,[],⟨[(0,.ty (.int .u64)),(5,.lit (.own 0)),(6,.ty (.int .i64))],[.own (.int .u8) 5]⟩,[(.exit 0,⟨[(5,.lit (.own 0))],[.own (.int .u8) 5]⟩)]⟩
noncomputable def adL (N:Nat)(X:pz15→Option pz1)(x0:Int)(i6:Int)(h0:List (Int)):Option pz1:=
 bif (decide ((0:Int)≤i6)) then
  bif (decide ((0:Int)≤i6∧i6<(((List.length h0):Nat):Int))) then
   Option.bind (h0[Int.toNat i6]?) fun (v5:Int)=>
   (X (((IntKind.wrap .u64 (@Int.tdiv x0 (2:Int))),((IntKind.wrap .i64 (i6-1)),())),((@List.set Int h0 (Int.toNat i6) (IntKind.wrap .u8 (@Int.tmod x0 (2:Int)))),())))
  else
   none
 else
  some (((),(h0,())))
noncomputable def agD (c:pz15):Option pz1:=gl (fun X c=>adL N X c.1.1 c.1.2.1 c.2.1) N c
theorem an6 (X:pz15→Option pz1)(x0:Int)(i6:Int)(h0:List (Int)):(aal Tryz.prog (aHM N) 400 [131] agE (aah Tryz.prog [131] 3) X ((x0,i6,()),(h0,()))).run=adL N X x0 i6 h0:=by kernel_rfl
noncomputable def aHL:(R:Type)→Env R:=Env.addLp (aHM N) [131] 0 3 (fun R=>lpK Tryz.prog agE (fun X c=>adL N X c.1.1 c.1.2.1 c.2.1) N)
theorem av9 (R:Type):EnvOK Tryz.prog (aHL N R):=EnvOK.addLp (awa N R) (by kernel_rfl) (aao (li:=agE) hmx (awa N _) (by kernel_rfl) aaa (fun X c=>an6 N X c.1.1 c.1.2.1 c.2.1) N)
noncomputable def acj (x0:Int)(width1:Int):Option (List Int):=
 bif ((decide ((0:Int)≤width1∧width1≤width1))&&(aac (Int.toNat width1) 1)) then
  Option.bind (agD N ((x0,((IntKind.wrap .i64 (width1-1)),())),((@List.replicate Int (Int.toNat width1) (0:Int)),()))) fun v3=>
  some (v3.2.1)
 else
  none
theorem asI (x0:Int)(width1:Int):(runK Tryz.prog (aHL N) 400 131 [(.int .u64),(.int .i64)] [(.sl (.int .u8))] (x0,width1,())).run=acj N x0 width1:=by kernel_rfl
noncomputable def aHK:(R:Type)→Env R:=Env.addFn (aHL N) 131 (fun R=>fnK [(.int .u64),(.int .i64)] [(.sl (.int .u8))] (fun c=>acj N c.1 c.2.1))
theorem av8 (R:Type):EnvOK Tryz.prog (aHK N R):=EnvOK.addFn hmx (av9 N R) (av9 N _) (by kernel_rfl) (fun c=>asI N c.1 c.2.1)
noncomputable def alL (N:Nat):Option (List Int):=
 some (([57,49,41,33,25,17,9,1,58,50,42,34,26,18,10,2,59,51,43,35,27,19,11,3,60,52,44,36,63,55,47,39,31,23,15,7,62,54,46,38,30,22,14,6,61,53,45,37,29,21,13,5,28,20,12,4]:List Int))
theorem an0:(runK Tryz.prog (aHK N) 400 170 [] [(.sl (.int .i64))] ()).run=alL N:=by kernel_rfl
noncomputable def aKA:(R:Type)→Env R:=Env.addFn (aHK N) 170 (fun R=>fnK [] [(.sl (.int .i64))] (fun c=>alL N ))
theorem aDR (R:Type):EnvOK Tryz.prog (aKA N R):=EnvOK.addFn hmx (av8 N R) (av8 N _) (by kernel_rfl) (fun c=>an0 N )
noncomputable def aHJ:(R:Type)→Env R:=Env.addMv (aKA N) [(165,5)]
theorem av7 (R:Type):EnvOK Tryz.prog (aHJ N R):=EnvOK.addMv (aDR N R) [(165,5)]
noncomputable def ahN:LI:=⟨25,0,[(5,5)],⟨[(0,.ty (.sl (.int .u8))),(1,.ty (.sl (.int .i64))),(5,.lit (.own 0)),(6,.ty (.int .i64))],[.own (.int .u8) 5]⟩,[(.exit 0,⟨[(5,.lit (.own 0))],[.own (.int .u8) 5]⟩)]⟩
noncomputable def ael (N:Nat)(X:(((List Int)×pz5)×((List Int)×Unit))→Option pz1)(row0:List (Int))(table1:List (Int))(i6:Int)(h0:List (Int)):Option pz1:=
 bif (decide (i6<(((List.length table1):Nat):Int))) then
  Option.bind (getI table1 i6) fun (v6:Int)=>
  Option.bind (getI row0 (IntKind.wrap .i64 (v6-1))) fun (v7:Int)=>
  bif (aac ((List.length h0)+(List.length ([v7]:List (Int)))) 1) then
   (X ((row0,(table1,((IntKind.wrap .i64 (i6+1)),()))),((h0++([v7]:List (Int))),())))
  else
   none
 else
  some (((),(h0,())))
noncomputable def ahM (c:(((List Int)×pz5)×((List Int)×Unit))):Option pz1:=gl (fun X c=>ael N X c.1.1 c.1.2.1 c.1.2.2.1 c.2.1) N c
theorem apH (X:(((List Int)×pz5)×((List Int)×Unit))→Option pz1)(row0:List (Int))(table1:List (Int))(i6:Int)(h0:List (Int)):(aal Tryz.prog (aHJ N) 400 [165] ahN (aah Tryz.prog [165] 3) X ((row0,table1,i6,()),(h0,()))).run=ael N X row0 table1 i6 h0:=by kernel_rfl
noncomputable def aHI:(R:Type)→Env R:=Env.addLp (aHJ N) [165] 0 3 (fun R=>lpK Tryz.prog ahN (fun X c=>ael N X c.1.1 c.1.2.1 c.1.2.2.1 c.2.1) N)
theorem av6 (R:Type):EnvOK Tryz.prog (aHI N R):=EnvOK.addLp (av7 N R) (by kernel_rfl) (aao (li:=ahN) hmx (av7 N _) (by kernel_rfl) aaa (fun X c=>apH N X c.1.1 c.1.2.1 c.1.2.2.1 c.2.1) N)
noncomputable def abL (row0:List (Int))(table1:List (Int)):Option (List Int):=
 Option.bind (ahM N ((row0,(table1,((0:Int),()))),(([]:List Int),()))) fun v3=>
 some (v3.2.1)
theorem axq (row0:List (Int))(table1:List (Int)):(runK Tryz.prog (aHI N) 400 165 [(.sl (.int .u8)),(.sl (.int .i64))] [(.sl (.int .u8))] (row0,table1,())).run=abL N row0 table1:=by kernel_rfl
noncomputable def aHH:(R:Type)→Env R:=Env.addFn (aHI N) 165 (fun R=>fnK [(.sl (.int .u8)),(.sl (.int .i64))] [(.sl (.int .u8))] (fun c=>abL N c.1 c.2.1))
theorem av5 (R:Type):EnvOK Tryz.prog (aHH N R):=EnvOK.addFn hmx (av6 N R) (av6 N _) (by kernel_rfl) (fun c=>axq N c.1 c.2.1)
noncomputable def ajM (N:Nat):Option (List Int):=
 some (([14,17,11,24,1,5,3,28,15,6,21,10,23,19,12,4,26,8,16,7,27,20,13,2,41,52,31,37,47,55,30,40,51,45,33,48,44,49,39,56,34,53,46,42,50,36,29,32]:List Int))
theorem al6:(runK Tryz.prog (aHH N) 400 171 [] [(.sl (.int .i64))] ()).run=ajM N:=by kernel_rfl
noncomputable def aHG:(R:Type)→Env R:=Env.addFn (aHH N) 171 (fun R=>fnK [] [(.sl (.int .i64))] (fun c=>ajM N ))
theorem av4 (R:Type):EnvOK Tryz.prog (aHG N R):=EnvOK.addFn hmx (av5 N R) (av5 N _) (by kernel_rfl) (fun c=>al6 N )
noncomputable def afL:LI:=⟨61,0,[(6,28)],⟨[(4,.ty (.sl (.int .u8))),(5,.ty (.sl (.int .u8))),(6,.lit (.own 0)),(7,.ty (.int .i64))],[.own (.sl (.int .u8)) 28]⟩,[(.exit 0,⟨[(6,.lit (.own 0))],[.own (.sl (.int .u8)) 28]⟩)]⟩
noncomputable def ac3 (X:(((List Int)×pz5)×((List (List Int))×Unit))→Option ((Unit×((List (List Int))×Unit))))(c4:List (Int))(d5:List (Int))(i7:Int)(h0:List (List Int)):Option ((Unit×((List (List Int))×Unit))):=
 bif (decide (i7≤(16:Int))) then
  Option.bind (bif (decide (i7=(1:Int))) then
    some (true)
   else
    some ((cond false true (decide (i7=(2:Int)))))) fun (v6:Bool)=>
  Option.bind (bif v6 then
    some (true)
   else
    some ((cond false true (decide (i7=(9:Int)))))) fun (v7:Bool)=>
  Option.bind (bif v7 then
    some (true)
   else
    some ((cond false true (decide (i7=(16:Int)))))) fun (v8:Bool)=>
  bif v8 then
   Option.bind (abe c4 (1:Int)) fun (v9:(List Int))=>
   Option.bind (abV c4 (1:Int)) fun (v10:(List Int))=>
   bif (aac (List.length v9) 1) then
    bif (aac ((List.length v9)+(List.length v10)) 1) then
     Option.bind (abe d5 (1:Int)) fun (v11:(List Int))=>
     Option.bind (abV d5 (1:Int)) fun (v12:(List Int))=>
     bif (aac (List.length v11) 1) then
      bif (aac ((List.length v11)+(List.length v12)) 1) then
       bif (aac (List.length (v9++v10)) 1) then
        bif (aac ((List.length (v9++v10))+(List.length (v11++v12))) 1) then
         Option.bind (abL N ((v9++v10)++(v11++v12)) (@List.cons Int (14:Int) (@List.cons Int (17:Int) (@List.cons Int (11:Int) (@List.cons Int (24:Int) (@List.cons Int (1:Int) (@List.cons Int (5:Int) (@List.cons Int (3:Int) (@List.cons Int (28:Int) (@List.cons Int (15:Int) (@List.cons Int (6:Int) (@List.cons Int (21:Int) (@List.cons Int (10:Int) (@List.cons Int (23:Int) (@List.cons Int (19:Int) (@List.cons Int (12:Int) (@List.cons Int (4:Int) (@List.cons Int (26:Int) (@List.cons Int (8:Int) (@List.cons Int (16:Int) (@List.cons Int (7:Int) (@List.cons Int (27:Int) (@List.cons Int (20:Int) (@List.cons Int (13:Int) (@List.cons Int (2:Int) (@List.cons Int (41:Int) (@List.cons Int (52:Int) (@List.cons Int (31:Int) (@List.cons Int (37:Int) (@List.cons Int (47:Int) (@List.cons Int (55:Int) (@List.cons Int (30:Int) (@List.cons Int (40:Int) (@List.cons Int (51:Int) (@List.cons Int (45:Int) (@List.cons Int (33:Int) (@List.cons Int (48:Int) ([44,49,39,56,34,53,46,42,50,36,29,32]:List Int)))))))))))))))))))))))))))))))))))))) fun v13=>
         bif (aac ((List.length h0)+(List.length ([v13]:List ((List Int))))) 24) then
          (X (((v9++v10),((v11++v12),((IntKind.wrap .i64 (i7+1)),()))),((h0++([v13]:List ((List Int)))),())))
         else
          none
        else
         none
       else
        none
      else
       none
     else
      none
    else
     none
   else
    none
  else
   Option.bind (abe c4 (2:Int)) fun (v9:(List Int))=>
   Option.bind (abV c4 (2:Int)) fun (v10:(List Int))=>
   bif (aac (List.length v9) 1) then
    bif (aac ((List.length v9)+(List.length v10)) 1) then
     Option.bind (abe d5 (2:Int)) fun (v11:(List Int))=>
     Option.bind (abV d5 (2:Int)) fun (v12:(List Int))=>
     bif (aac (List.length v11) 1) then
      bif (aac ((List.length v11)+(List.length v12)) 1) then
       bif (aac (List.length (v9++v10)) 1) then
        bif (aac ((List.length (v9++v10))+(List.length (v11++v12))) 1) then
         Option.bind (abL N ((v9++v10)++(v11++v12)) (@List.cons Int (14:Int) (@List.cons Int (17:Int) (@List.cons Int (11:Int) (@List.cons Int (24:Int) (@List.cons Int (1:Int) (@List.cons Int (5:Int) (@List.cons Int (3:Int) (@List.cons Int (28:Int) (@List.cons Int (15:Int) (@List.cons Int (6:Int) (@List.cons Int (21:Int) (@List.cons Int (10:Int) (@List.cons Int (23:Int) (@List.cons Int (19:Int) (@List.cons Int (12:Int) (@List.cons Int (4:Int) (@List.cons Int (26:Int) (@List.cons Int (8:Int) (@List.cons Int (16:Int) (@List.cons Int (7:Int) (@List.cons Int (27:Int) (@List.cons Int (20:Int) (@List.cons Int (13:Int) (@List.cons Int (2:Int) (@List.cons Int (41:Int) (@List.cons Int (52:Int) (@List.cons Int (31:Int) (@List.cons Int (37:Int) (@List.cons Int (47:Int) (@List.cons Int (55:Int) (@List.cons Int (30:Int) (@List.cons Int (40:Int) (@List.cons Int (51:Int) (@List.cons Int (45:Int) (@List.cons Int (33:Int) (@List.cons Int (48:Int) ([44,49,39,56,34,53,46,42,50,36,29,32]:List Int)))))))))))))))))))))))))))))))))))))) fun v13=>
         bif (aac ((List.length h0)+(List.length ([v13]:List ((List Int))))) 24) then
          (X (((v9++v10),((v11++v12),((IntKind.wrap .i64 (i7+1)),()))),((h0++([v13]:List ((List Int)))),())))
         else
          none
        else
         none
       else
        none
      else
       none
     else
      none
    else
     none
   else
    none
 else
  some (((),(h0,())))
noncomputable def ad2 (c:(((List Int)×pz5)×((List (List Int))×Unit))):Option ((Unit×((List (List Int))×Unit))):=gl (fun X c=>ac3 N X c.1.1 c.1.2.1 c.1.2.2.1 c.2.1) N c
theorem amS (X:(((List Int)×pz5)×((List (List Int))×Unit))→Option ((Unit×((List (List Int))×Unit))))(c4:List (Int))(d5:List (Int))(i7:Int)(h0:List (List Int)):(aal Tryz.prog (aHG N) 400 [135] afL (aah Tryz.prog [135] 5) X ((c4,d5,i7,()),(h0,()))).run=ac3 N X c4 d5 i7 h0:=by kernel_rfl
noncomputable def aHF:(R:Type)→Env R:=Env.addLp (aHG N) [135] 0 5 (fun R=>lpK Tryz.prog afL (fun X c=>ac3 N X c.1.1 c.1.2.1 c.1.2.2.1 c.2.1) N)
theorem av3 (R:Type):EnvOK Tryz.prog (aHF N R):=EnvOK.addLp (av4 N R) (by kernel_rfl) (aao (li:=afL) hmx (av4 N _) (by kernel_rfl) aaa (fun X c=>amS N X c.1.1 c.1.2.1 c.1.2.2.1 c.2.1) N)
noncomputable def ahh (key0:Int):Option (List (List Int)):=
 Option.bind (acj N key0 (64:Int)) fun v2=>
 Option.bind (abL N v2 (@List.cons Int (57:Int) (@List.cons Int (49:Int) (@List.cons Int (41:Int) (@List.cons Int (33:Int) (@List.cons Int (25:Int) (@List.cons Int (17:Int) (@List.cons Int (9:Int) (@List.cons Int (1:Int) (@List.cons Int (58:Int) (@List.cons Int (50:Int) (@List.cons Int (42:Int) (@List.cons Int (34:Int) (@List.cons Int (26:Int) (@List.cons Int (18:Int) (@List.cons Int (10:Int) (@List.cons Int (2:Int) (@List.cons Int (59:Int) (@List.cons Int (51:Int) (@List.cons Int (43:Int) (@List.cons Int (35:Int) (@List.cons Int (27:Int) (@List.cons Int (19:Int) (@List.cons Int (11:Int) (@List.cons Int (3:Int) (@List.cons Int (60:Int) (@List.cons Int (52:Int) (@List.cons Int (44:Int) (@List.cons Int (36:Int) (@List.cons Int (63:Int) (@List.cons Int (55:Int) (@List.cons Int (47:Int) (@List.cons Int (39:Int) (@List.cons Int (31:Int) (@List.cons Int (23:Int) (@List.cons Int (15:Int) (@List.cons Int (7:Int) (@List.cons Int (62:Int) (@List.cons Int (54:Int) (@List.cons Int (46:Int) (@List.cons Int (38:Int) (@List.cons Int (30:Int) (@List.cons Int (22:Int) ([14,6,61,53,45,37,29,21,13,5,28,20,12,4]:List Int)))))))))))))))))))))))))))))))))))))))))))) fun v3=>
 Option.bind (abV v3 (28:Int)) fun (v4:(List Int))=>
 Option.bind (abe v3 (28:Int)) fun (v5:(List Int))=>
 Option.bind (ad2 N ((v4,(v5,((1:Int),()))),(([]:List ((List Int))),()))) fun v6=>
 some (v6.2.1)
theorem ari (key0:Int):(runK Tryz.prog (aHF N) 400 135 [(.int .u64)] [(.sl (.sl (.int .u8)))] (key0,())).run=ahh N key0:=by kernel_rfl
noncomputable def aHE:(R:Type)→Env R:=Env.addFn (aHF N) 135 (fun R=>fnK [(.int .u64)] [(.sl (.sl (.int .u8)))] (fun c=>ahh N c.1))
theorem av2 (R:Type):EnvOK Tryz.prog (aHE N R):=EnvOK.addFn hmx (av3 N R) (av3 N _) (by kernel_rfl) (fun c=>ari N c.1)
noncomputable def amT (N:Nat):Option (List Int):=
 some (([58,50,42,34,26,18,10,2,60,52,44,36,28,20,12,4,62,54,46,38,30,22,14,6,64,56,48,40,32,24,16,8,57,49,41,33,25,17,9,1,59,51,43,35,27,19,11,3,61,53,45,37,29,21,13,5,63,55,47,39,31,23,15,7]:List Int))
theorem apF:(runK Tryz.prog (aHE N) 400 166 [] [(.sl (.int .i64))] ()).run=amT N:=by kernel_rfl
noncomputable def aHD:(R:Type)→Env R:=Env.addFn (aHE N) 166 (fun R=>fnK [] [(.sl (.int .i64))] (fun c=>amT N ))
theorem av1 (R:Type):EnvOK Tryz.prog (aHD N R):=EnvOK.addFn hmx (av2 N R) (av2 N _) (by kernel_rfl) (fun c=>apF N )
noncomputable def aoI (N:Nat):Option (List Int):=
 some (([32,1,2,3,4,5,4,5,6,7,8,9,8,9,10,11,12,13,12,13,14,15,16,17,16,17,18,19,20,21,20,21,22,23,24,25,24,25,26,27,28,29,28,29,30,31,32,1]:List Int))
theorem arf:(runK Tryz.prog (aHD N) 400 196 [] [(.sl (.int .i64))] ()).run=aoI N:=by kernel_rfl
noncomputable def aHC:(R:Type)→Env R:=Env.addFn (aHD N) 196 (fun R=>fnK [] [(.sl (.int .i64))] (fun c=>aoI N ))
theorem av0 (R:Type):EnvOK Tryz.prog (aHC N R):=EnvOK.addFn hmx (av1 N R) (av1 N _) (by kernel_rfl) (fun c=>arf N )
noncomputable def aej:LI:=⟨29,0,[],⟨[(0,.ty (.sl (.int .u8))),(1,.ty (.sl (.int .u8))),(5,.lit (.own 0)),(6,.ty (.int .i64))],[.own (.int .u8) 5]⟩,[(.exit 0,⟨[(5,.lit (.own 0))],[.own (.int .u8) 5]⟩)]⟩
noncomputable def acd (N:Nat)(X:(((List Int)×pz5)×((List Int)×Unit))→Option pz1)(a0:List (Int))(b1:List (Int))(i6:Int)(h0:List (Int)):Option pz1:=
 bif (decide (i6<(((List.length a0):Nat):Int))) then
  Option.bind (getI a0 i6) fun (v6:Int)=>
  Option.bind (getI b1 i6) fun (v7:Int)=>
  bif (decide ((0:Int)≤i6∧i6<(((List.length h0):Nat):Int))) then
   Option.bind (h0[Int.toNat i6]?) fun (v8:Int)=>
   (X ((a0,(b1,((IntKind.wrap .i64 (i6+1)),()))),((@List.set Int h0 (Int.toNat i6) (bits .xor .u8 v6 v7)),())))
  else
   none
 else
  some (((),(h0,())))
noncomputable def aei (c:(((List Int)×pz5)×((List Int)×Unit))):Option pz1:=gl (fun X c=>acd N X c.1.1 c.1.2.1 c.1.2.2.1 c.2.1) N c
theorem alg (X:(((List Int)×pz5)×((List Int)×Unit))→Option pz1)(a0:List (Int))(b1:List (Int))(i6:Int)(h0:List (Int)):(aal Tryz.prog (aHC N) 400 [167] aej (aah Tryz.prog [167] 3) X ((a0,b1,i6,()),(h0,()))).run=acd N X a0 b1 i6 h0:=by kernel_rfl
noncomputable def aHB:(R:Type)→Env R:=Env.addLp (aHC N) [167] 0 3 (fun R=>lpK Tryz.prog aej (fun X c=>acd N X c.1.1 c.1.2.1 c.1.2.2.1 c.2.1) N)
theorem avZ (R:Type):EnvOK Tryz.prog (aHB N R):=EnvOK.addLp (av0 N R) (by kernel_rfl) (aao (li:=aej) hmx (av0 N _) (by kernel_rfl) aaa (fun X c=>alg N X c.1.1 c.1.2.1 c.1.2.2.1 c.2.1) N)
noncomputable def adH (a0:List (Int))(b1:List (Int)):Option (List Int):=
 bif ((decide ((0:Int)≤(((List.length a0):Nat):Int)∧(((List.length a0):Nat):Int)≤(((List.length a0):Nat):Int)))&&(aac (Int.toNat (((List.length a0):Nat):Int)) 1)) then
  Option.bind (aei N ((a0,(b1,((0:Int),()))),((@List.replicate Int (Int.toNat (((List.length a0):Nat):Int)) (0:Int)),()))) fun v3=>
  some (v3.2.1)
 else
  none
theorem anZ (a0:List (Int))(b1:List (Int)):(runK Tryz.prog (aHB N) 400 167 [(.sl (.int .u8)),(.sl (.int .u8))] [(.sl (.int .u8))] (a0,b1,())).run=adH N a0 b1:=by kernel_rfl
noncomputable def aHA:(R:Type)→Env R:=Env.addFn (aHB N) 167 (fun R=>fnK [(.sl (.int .u8)),(.sl (.int .u8))] [(.sl (.int .u8))] (fun c=>adH N c.1 c.2.1))
theorem avY (R:Type):EnvOK Tryz.prog (aHA N R):=EnvOK.addFn hmx (avZ N R) (avZ N _) (by kernel_rfl) (fun c=>anZ N c.1 c.2.1)
noncomputable def afU:LI:=⟨20,0,[],⟨[(0,.ty (.sl (.int .u8))),(3,.ty (.int .u64)),(4,.ty (.int .i64))],[]⟩,[(.exit 0,⟨[(3,.ty (.int .u64))],[]⟩)]⟩
noncomputable def ac5 (N:Nat)(X:(pz3×Unit)→Option (((Int×Unit)×Unit)))(row0:List (Int))(x3:Int)(i4:Int):Option (((Int×Unit)×Unit)):=
 bif (decide (i4<(((List.length row0):Nat):Int))) then
  Option.bind (getI row0 i4) fun (v5:Int)=>
  (X ((row0,((IntKind.wrap .u64 ((IntKind.wrap .u64 ((2:Int)*x3))+(IntKind.wrap .u64 v5))),((IntKind.wrap .i64 (i4+1)),()))),()))
 else
  some (((x3,()),()))
end
section
variable (N:Nat)
noncomputable def afT (c:(pz3×Unit)):Option (((Int×Unit)×Unit)):=gl (fun X c=>ac5 N X c.1.1 c.1.2.1 c.1.2.2.1) N c
theorem am1 (X:(pz3×Unit)→Option (((Int×Unit)×Unit)))(row0:List (Int))(x3:Int)(i4:Int):(aal Tryz.prog (aHA N) 400 [133] afU (aah Tryz.prog [133] 3) X ((row0,x3,i4,()),())).run=ac5 N X row0 x3 i4:=by kernel_rfl
noncomputable def aHz:(R:Type)→Env R:=Env.addLp (aHA N) [133] 0 3 (fun R=>lpK Tryz.prog afU (fun X c=>ac5 N X c.1.1 c.1.2.1 c.1.2.2.1) N)
theorem avX (R:Type):EnvOK Tryz.prog (aHz N R):=EnvOK.addLp (avY N R) (by kernel_rfl) (aao (li:=afU) hmx (avY N _) (by kernel_rfl) aaa (fun X c=>am1 N X c.1.1 c.1.2.1 c.1.2.2.1) N)
noncomputable def adK (row0:List (Int)):Option Int:=
 Option.bind (afT N ((row0,((0:Int),((0:Int),()))),())) fun v2=>
 some (v2.1.1)
theorem arq (row0:List (Int)):(runK Tryz.prog (aHz N) 400 133 [(.sl (.int .u8))] [(.int .u64)] (row0,())).run=adK N row0:=by kernel_rfl
noncomputable def aHy:(R:Type)→Env R:=Env.addFn (aHz N) 133 (fun R=>fnK [(.sl (.int .u8))] [(.int .u64)] (fun c=>adK N c.1))
theorem avW (R:Type):EnvOK Tryz.prog (aHy N R):=EnvOK.addFn hmx (avX N R) (avX N _) (by kernel_rfl) (fun c=>arq N c.1)
noncomputable def amU (N:Nat)(n0:Int):Option (List Int):=
 bif (decide (n0=(1:Int))) then
  some (([14,4,13,1,2,15,11,8,3,10,6,12,5,9,0,7,0,15,7,4,14,2,13,1,10,6,12,11,9,5,3,8,4,1,14,8,13,6,2,11,15,12,9,7,3,10,5,0,15,12,8,2,4,9,1,7,5,11,3,14,10,0,6,13]:List Int))
 else
  bif (decide (n0=(2:Int))) then
   some (([15,1,8,14,6,11,3,4,9,7,2,13,12,0,5,10,3,13,4,7,15,2,8,14,12,0,1,10,6,9,11,5,0,14,7,11,10,4,13,1,5,8,12,6,9,3,2,15,13,8,10,1,3,15,4,2,11,6,7,12,0,5,14,9]:List Int))
  else
   bif (decide (n0=(3:Int))) then
    some (([10,0,9,14,6,3,15,5,1,13,12,7,11,4,2,8,13,7,0,9,3,4,6,10,2,8,5,14,12,11,15,1,13,6,4,9,8,15,3,0,11,1,2,12,5,10,14,7,1,10,13,0,6,9,8,7,4,15,14,3,11,5,2,12]:List Int))
   else
    bif (decide (n0=(4:Int))) then
     some (([7,13,14,3,0,6,9,10,1,2,8,5,11,12,4,15,13,8,11,5,6,15,0,3,4,7,2,12,1,10,14,9,10,6,9,0,12,11,7,13,15,1,3,14,5,2,8,4,3,15,0,6,10,1,13,8,9,4,5,11,12,7,2,14]:List Int))
    else
     bif (decide (n0=(5:Int))) then
      some (([2,12,4,1,7,10,11,6,8,5,3,15,13,0,14,9,14,11,2,12,4,7,13,1,5,0,15,10,3,9,8,6,4,2,1,11,10,13,7,8,15,9,12,5,6,3,0,14,11,8,12,7,1,14,2,13,6,15,0,9,10,4,5,3]:List Int))
     else
      bif (decide (n0=(6:Int))) then
       some (([12,1,10,15,9,2,6,8,0,13,3,4,14,7,5,11,10,15,4,2,7,12,9,5,6,1,13,14,0,11,3,8,9,14,15,5,2,8,12,3,7,0,4,10,1,13,11,6,4,3,2,12,9,5,15,10,11,14,1,7,6,0,8,13]:List Int))
      else
       bif (decide (n0=(7:Int))) then
        some (([4,11,2,14,15,0,8,13,3,12,9,7,5,10,6,1,13,0,11,7,4,9,1,10,14,3,5,12,2,15,8,6,1,4,11,13,12,3,7,14,10,15,6,8,0,5,9,2,6,11,13,8,1,4,10,7,9,5,0,15,14,2,3,12]:List Int))
       else
        bif (decide (n0=(8:Int))) then
         some (([13,2,8,4,6,15,11,1,10,9,3,14,5,0,12,7,1,15,13,8,10,3,7,4,12,5,6,11,0,14,9,2,7,11,4,1,9,12,14,2,0,6,10,13,15,3,5,8,2,1,14,7,4,10,8,13,15,12,9,0,3,5,6,11]:List Int))
        else
         some ((@List.replicate Int (Int.toNat (64:Int)) (0:Int)))
theorem asF (n0:Int):(runK Tryz.prog (aHy N) 400 220 [(.int .i64)] [(.sl (.int .i64))] (n0,())).run=amU N n0:=by kernel_rfl
noncomputable def aHx:(R:Type)→Env R:=Env.addFn (aHy N) 220 (fun R=>fnK [(.int .i64)] [(.sl (.int .i64))] (fun c=>amU N c.1))
theorem avV (R:Type):EnvOK Tryz.prog (aHx N R):=EnvOK.addFn hmx (avW N R) (avW N _) (by kernel_rfl) (fun c=>asF N c.1)
noncomputable def aek (n0:Int)(six1:List (Int)):Option Int:=
 Option.bind (getI six1 (0:Int)) fun (v3:Int)=>
 Option.bind (getI six1 (5:Int)) fun (v4:Int)=>
 Option.bind (subI six1 (1:Int) (5:Int)) fun (v5:(List Int))=>
 Option.bind (adK N v5) fun v6=>
 Option.bind (amU N n0) fun v7=>
 Option.bind (getI v7 (IntKind.wrap .i64 ((IntKind.wrap .i64 ((16:Int)*(IntKind.wrap .i64 ((IntKind.wrap .i64 ((2:Int)*(IntKind.wrap .i64 v3)))+(IntKind.wrap .i64 v4)))))+(IntKind.wrap .i64 v6)))) fun (v8:Int)=>
 some (v8)
theorem apG (n0:Int)(six1:List (Int)):(runK Tryz.prog (aHx N) 400 197 [(.int .i64),(.sl (.int .u8))] [(.int .i64)] (n0,six1,())).run=aek N n0 six1:=by kernel_rfl
noncomputable def aHw:(R:Type)→Env R:=Env.addFn (aHx N) 197 (fun R=>fnK [(.int .i64),(.sl (.int .u8))] [(.int .i64)] (fun c=>aek N c.1 c.2.1))
theorem avU (R:Type):EnvOK Tryz.prog (aHw N R):=EnvOK.addFn hmx (avV N R) (avV N _) (by kernel_rfl) (fun c=>apG N c.1 c.2.1)
noncomputable def afJ:LI:=⟨34,0,[(6,5)],⟨[(5,.ty (.sl (.int .u8))),(6,.lit (.own 0)),(7,.ty (.int .i64))],[.own (.int .u8) 5]⟩,[(.exit 0,⟨[(6,.lit (.own 0))],[.own (.int .u8) 5]⟩)]⟩
noncomputable def ad0 (X:(pz5×((List Int)×Unit))→Option pz1)(x5:List (Int))(i7:Int)(h0:List (Int)):Option pz1:=
 bif (decide (i7<(8:Int))) then
  Option.bind (subI x5 (IntKind.wrap .i64 ((6:Int)*i7)) (IntKind.wrap .i64 ((IntKind.wrap .i64 ((6:Int)*i7))+6))) fun (v5:(List Int))=>
  Option.bind (aek N (IntKind.wrap .i64 (i7+1)) v5) fun v6=>
  Option.bind (acj N (IntKind.wrap .u64 v6) (4:Int)) fun v7=>
  bif (aac ((List.length h0)+(List.length v7)) 1) then
   (X ((x5,((IntKind.wrap .i64 (i7+1)),())),((h0++v7),())))
  else
   none
 else
  some (((),(h0,())))
noncomputable def afI (c:(pz5×((List Int)×Unit))):Option pz1:=gl (fun X c=>ad0 N X c.1.1 c.1.2.1 c.2.1) N c
theorem amQ (X:(pz5×((List Int)×Unit))→Option pz1)(x5:List (Int))(i7:Int)(h0:List (Int)):(aal Tryz.prog (aHw N) 400 [168] afJ (aah Tryz.prog [168] 4) X ((x5,i7,()),(h0,()))).run=ad0 N X x5 i7 h0:=by kernel_rfl
noncomputable def aHv:(R:Type)→Env R:=Env.addLp (aHw N) [168] 0 4 (fun R=>lpK Tryz.prog afJ (fun X c=>ad0 N X c.1.1 c.1.2.1 c.2.1) N)
theorem avT (R:Type):EnvOK Tryz.prog (aHv N R):=EnvOK.addLp (avU N R) (by kernel_rfl) (aao (li:=afJ) hmx (avU N _) (by kernel_rfl) aaa (fun X c=>amQ N X c.1.1 c.1.2.1 c.2.1) N)
noncomputable def alM (N:Nat):Option (List Int):=
 some (([16,7,20,21,29,12,28,17,1,15,23,26,5,18,31,10,2,8,24,14,32,27,3,9,19,13,30,6,22,11,4,25]:List Int))
theorem an1:(runK Tryz.prog (aHv N) 400 198 [] [(.sl (.int .i64))] ()).run=alM N:=by kernel_rfl
noncomputable def aHu:(R:Type)→Env R:=Env.addFn (aHv N) 198 (fun R=>fnK [] [(.sl (.int .i64))] (fun c=>alM N ))
theorem avS (R:Type):EnvOK Tryz.prog (aHu N R):=EnvOK.addFn hmx (avT N R) (avT N _) (by kernel_rfl) (fun c=>an1 N )
noncomputable def ahf (half0:List (Int))(key1:List (Int)):Option (List Int):=
 Option.bind (abL N half0 (@List.cons Int (32:Int) (@List.cons Int (1:Int) (@List.cons Int (2:Int) (@List.cons Int (3:Int) (@List.cons Int (4:Int) (@List.cons Int (5:Int) (@List.cons Int (4:Int) (@List.cons Int (5:Int) (@List.cons Int (6:Int) (@List.cons Int (7:Int) (@List.cons Int (8:Int) (@List.cons Int (9:Int) (@List.cons Int (8:Int) (@List.cons Int (9:Int) (@List.cons Int (10:Int) (@List.cons Int (11:Int) (@List.cons Int (12:Int) (@List.cons Int (13:Int) (@List.cons Int (12:Int) (@List.cons Int (13:Int) (@List.cons Int (14:Int) (@List.cons Int (15:Int) (@List.cons Int (16:Int) (@List.cons Int (17:Int) (@List.cons Int (16:Int) (@List.cons Int (17:Int) (@List.cons Int (18:Int) (@List.cons Int (19:Int) (@List.cons Int (20:Int) (@List.cons Int (21:Int) (@List.cons Int (20:Int) (@List.cons Int (21:Int) (@List.cons Int (22:Int) (@List.cons Int (23:Int) (@List.cons Int (24:Int) (@List.cons Int (25:Int) ([24,25,26,27,28,29,28,29,30,31,32,1]:List Int)))))))))))))))))))))))))))))))))))))) fun v3=>
 Option.bind (adH N v3 key1) fun v4=>
 Option.bind (afI N ((v4,((0:Int),())),(([]:List Int),()))) fun v5=>
 Option.bind (abL N v5.2.1 ([16,7,20,21,29,12,28,17,1,15,23,26,5,18,31,10,2,8,24,14,32,27,3,9,19,13,30,6,22,11,4,25]:List Int)) fun v6=>
 some (v6)
theorem ard (half0:List (Int))(key1:List (Int)):(runK Tryz.prog (aHu N) 400 168 [(.sl (.int .u8)),(.sl (.int .u8))] [(.sl (.int .u8))] (half0,key1,())).run=ahf N half0 key1:=by kernel_rfl
noncomputable def aHt:(R:Type)→Env R:=Env.addFn (aHu N) 168 (fun R=>fnK [(.sl (.int .u8)),(.sl (.int .u8))] [(.sl (.int .u8))] (fun c=>ahf N c.1 c.2.1))
theorem avR (R:Type):EnvOK Tryz.prog (aHt N R):=EnvOK.addFn hmx (avS N R) (avS N _) (by kernel_rfl) (fun c=>ard N c.1 c.2.1)
noncomputable def afK:LI:=⟨39,0,[],⟨[(1,.ty (.sl (.sl (.int .u8)))),(6,.ty (.sl (.int .u8))),(7,.ty (.sl (.int .u8))),(8,.ty (.int .i64))],[]⟩,[(.exit 0,⟨[(6,.ty (.sl (.int .u8))),(7,.ty (.sl (.int .u8)))],[]⟩)]⟩
noncomputable def ac2 (X:(((List (List Int))×((List Int)×pz5))×Unit)→Option ((((List Int)×((List Int)×Unit))×Unit)))(l1:List (List Int))(left6:List (Int))(right7:List (Int))(i8:Int):Option ((((List Int)×((List Int)×Unit))×Unit)):=
 bif (decide (i8<(((List.length l1):Nat):Int))) then
  Option.bind (getI l1 i8) fun (v6:(List Int))=>
  Option.bind (ahf N right7 v6) fun v7=>
  Option.bind (adH N left6 v7) fun v8=>
  (X ((l1,(right7,(v8,((IntKind.wrap .i64 (i8+1)),())))),()))
 else
  some (((left6,(right7,())),()))
noncomputable def ad1 (c:(((List (List Int))×((List Int)×pz5))×Unit)):Option ((((List Int)×((List Int)×Unit))×Unit)):=gl (fun X c=>ac2 N X c.1.1 c.1.2.1 c.1.2.2.1 c.1.2.2.2.1) N c
theorem amR (X:(((List (List Int))×((List Int)×pz5))×Unit)→Option ((((List Int)×((List Int)×Unit))×Unit)))(l1:List (List Int))(left6:List (Int))(right7:List (Int))(i8:Int):(aal Tryz.prog (aHt N) 400 [134] afK (aah Tryz.prog [134] 4) X ((l1,left6,right7,i8,()),())).run=ac2 N X l1 left6 right7 i8:=by kernel_rfl
noncomputable def aHs:(R:Type)→Env R:=Env.addLp (aHt N) [134] 0 4 (fun R=>lpK Tryz.prog afK (fun X c=>ac2 N X c.1.1 c.1.2.1 c.1.2.2.1 c.1.2.2.2.1) N)
theorem avQ (R:Type):EnvOK Tryz.prog (aHs N R):=EnvOK.addLp (avR N R) (by kernel_rfl) (aao (li:=afK) hmx (avR N _) (by kernel_rfl) aaa (fun X c=>amR N X c.1.1 c.1.2.1 c.1.2.2.1 c.1.2.2.2.1) N)
noncomputable def aoJ (N:Nat):Option (List Int):=
 some (([40,8,48,16,56,24,64,32,39,7,47,15,55,23,63,31,38,6,46,14,54,22,62,30,37,5,45,13,53,21,61,29,36,4,44,12,52,20,60,28,35,3,43,11,51,19,59,27,34,2,42,10,50,18,58,26,33,1,41,9,49,17,57,25]:List Int))
theorem arh:(runK Tryz.prog (aHs N) 400 169 [] [(.sl (.int .i64))] ()).run=aoJ N:=by kernel_rfl
noncomputable def aHr:(R:Type)→Env R:=Env.addFn (aHs N) 169 (fun R=>fnK [] [(.sl (.int .i64))] (fun c=>aoJ N ))
theorem avP (R:Type):EnvOK Tryz.prog (aHr N R):=EnvOK.addFn hmx (avQ N R) (avQ N _) (by kernel_rfl) (fun c=>arh N )
noncomputable def ahg (block0:Int)(l1:List (List Int)):Option Int:=
 Option.bind (acj N block0 (64:Int)) fun v3=>
 Option.bind (abL N v3 (@List.cons Int (58:Int) (@List.cons Int (50:Int) (@List.cons Int (42:Int) (@List.cons Int (34:Int) (@List.cons Int (26:Int) (@List.cons Int (18:Int) (@List.cons Int (10:Int) (@List.cons Int (2:Int) (@List.cons Int (60:Int) (@List.cons Int (52:Int) (@List.cons Int (44:Int) (@List.cons Int (36:Int) (@List.cons Int (28:Int) (@List.cons Int (20:Int) (@List.cons Int (12:Int) (@List.cons Int (4:Int) (@List.cons Int (62:Int) (@List.cons Int (54:Int) (@List.cons Int (46:Int) (@List.cons Int (38:Int) (@List.cons Int (30:Int) (@List.cons Int (22:Int) (@List.cons Int (14:Int) (@List.cons Int (6:Int) (@List.cons Int (64:Int) (@List.cons Int (56:Int) (@List.cons Int (48:Int) (@List.cons Int (40:Int) (@List.cons Int (32:Int) (@List.cons Int (24:Int) (@List.cons Int (16:Int) (@List.cons Int (8:Int) (@List.cons Int (57:Int) (@List.cons Int (49:Int) (@List.cons Int (41:Int) (@List.cons Int (33:Int) (@List.cons Int (25:Int) (@List.cons Int (17:Int) (@List.cons Int (9:Int) (@List.cons Int (1:Int) (@List.cons Int (59:Int) (@List.cons Int (51:Int) (@List.cons Int (43:Int) (@List.cons Int (35:Int) (@List.cons Int (27:Int) (@List.cons Int (19:Int) (@List.cons Int (11:Int) (@List.cons Int (3:Int) (@List.cons Int (61:Int) (@List.cons Int (53:Int) (@List.cons Int (45:Int) (@List.cons Int (37:Int) (@List.cons Int (29:Int) (@List.cons Int (21:Int) (@List.cons Int (13:Int) (@List.cons Int (5:Int) ([63,55,47,39,31,23,15,7]:List Int)))))))))))))))))))))))))))))))))))))))))))))))))))))))))) fun v4=>
 Option.bind (abV v4 (32:Int)) fun (v5:(List Int))=>
 Option.bind (abe v4 (32:Int)) fun (v6:(List Int))=>
 Option.bind (ad1 N ((l1,(v5,(v6,((0:Int),())))),())) fun v7=>
 bif (aac (List.length v7.1.2.1) 1) then
  bif (aac ((List.length v7.1.2.1)+(List.length v7.1.1)) 1) then
   Option.bind (abL N (v7.1.2.1++v7.1.1) (@List.cons Int (40:Int) (@List.cons Int (8:Int) (@List.cons Int (48:Int) (@List.cons Int (16:Int) (@List.cons Int (56:Int) (@List.cons Int (24:Int) (@List.cons Int (64:Int) (@List.cons Int (32:Int) (@List.cons Int (39:Int) (@List.cons Int (7:Int) (@List.cons Int (47:Int) (@List.cons Int (15:Int) (@List.cons Int (55:Int) (@List.cons Int (23:Int) (@List.cons Int (63:Int) (@List.cons Int (31:Int) (@List.cons Int (38:Int) (@List.cons Int (6:Int) (@List.cons Int (46:Int) (@List.cons Int (14:Int) (@List.cons Int (54:Int) (@List.cons Int (22:Int) (@List.cons Int (62:Int) (@List.cons Int (30:Int) (@List.cons Int (37:Int) (@List.cons Int (5:Int) (@List.cons Int (45:Int) (@List.cons Int (13:Int) (@List.cons Int (53:Int) (@List.cons Int (21:Int) (@List.cons Int (61:Int) (@List.cons Int (29:Int) (@List.cons Int (36:Int) (@List.cons Int (4:Int) (@List.cons Int (44:Int) (@List.cons Int (12:Int) (@List.cons Int (52:Int) (@List.cons Int (20:Int) (@List.cons Int (60:Int) (@List.cons Int (28:Int) (@List.cons Int (35:Int) (@List.cons Int (3:Int) (@List.cons Int (43:Int) (@List.cons Int (11:Int) (@List.cons Int (51:Int) (@List.cons Int (19:Int) (@List.cons Int (59:Int) (@List.cons Int (27:Int) (@List.cons Int (34:Int) (@List.cons Int (2:Int) (@List.cons Int (42:Int) (@List.cons Int (10:Int) (@List.cons Int (50:Int) (@List.cons Int (18:Int) (@List.cons Int (58:Int) (@List.cons Int (26:Int) ([33,1,41,9,49,17,57,25]:List Int)))))))))))))))))))))))))))))))))))))))))))))))))))))))))) fun v8=>
   Option.bind (adK N v8) fun v9=>
   some (v9)
  else
   none
 else
  none
theorem arg (block0:Int)(l1:List (List Int)):(runK Tryz.prog (aHr N) 400 134 [(.int .u64),(.sl (.sl (.int .u8)))] [(.int .u64)] (block0,l1,())).run=ahg N block0 l1:=by kernel_rfl
noncomputable def aHq:(R:Type)→Env R:=Env.addFn (aHr N) 134 (fun R=>fnK [(.int .u64),(.sl (.sl (.int .u8)))] [(.int .u64)] (fun c=>ahg N c.1 c.2.1))
theorem avO (R:Type):EnvOK Tryz.prog (aHq N R):=EnvOK.addFn hmx (avP N R) (avP N _) (by kernel_rfl) (fun c=>arg N c.1 c.2.1)
noncomputable def ahi (key0:Int)(block1:Int):Option Int:=
 Option.bind (ahh N key0) fun v3=>
 Option.bind (ahg N block1 v3) fun v4=>
 some (v4)
theorem arj (key0:Int)(block1:Int):(runK Tryz.prog (aHq N) 400 91 [(.int .u64),(.int .u64)] [(.int .u64)] (key0,block1,())).run=ahi N key0 block1:=by kernel_rfl
noncomputable def aHp:(R:Type)→Env R:=Env.addFn (aHq N) 91 (fun R=>fnK [(.int .u64),(.int .u64)] [(.int .u64)] (fun c=>ahi N c.1 c.2.1))
theorem avN (R:Type):EnvOK Tryz.prog (aHp N R):=EnvOK.addFn hmx (avO N R) (avO N _) (by kernel_rfl) (fun c=>arj N c.1 c.2.1)
noncomputable def aew:LI:=⟨42,0,[(4,5)],⟨[(0,.ty (.sl (.int .u8))),(4,.lit (.own 0)),(5,.lit (.c (.slice none 0 0))),(6,.ty (.int .i64))],[.own (.int .u8) 5]⟩,[(.exit 0,⟨[(4,.lit (.own 0)),(5,.lit (.c (.slice none 0 0)))],[.own (.int .u8) 5]⟩)]⟩
noncomputable def aci (X:(pz5×((List Int)×Unit))→Option pz1)(key0:List (Int))(i6:Int)(h0:List (Int)):Option pz1:=
 bif (decide (i6<(7:Int))) then
  Option.bind (getI key0 i6) fun (v5:Int)=>
  Option.bind (acj N (IntKind.wrap .u64 v5) (8:Int)) fun v6=>
  bif (aac ((List.length h0)+(List.length v6)) 1) then
   (X ((key0,((IntKind.wrap .i64 (i6+1)),())),((h0++v6),())))
  else
   none
 else
  some (((),(h0,())))
noncomputable def aev (c:(pz5×((List Int)×Unit))):Option pz1:=gl (fun X c=>aci N X c.1.1 c.1.2.1 c.2.1) N c
theorem alm (X:(pz5×((List Int)×Unit))→Option pz1)(key0:List (Int))(i6:Int)(h0:List (Int)):(aal Tryz.prog (aHp N) 400 [89] aew (aah Tryz.prog [89] 5) X ((key0,i6,()),(h0,()))).run=aci N X key0 i6 h0:=by kernel_rfl
noncomputable def aHo:(R:Type)→Env R:=Env.addLp (aHp N) [89] 0 5 (fun R=>lpK Tryz.prog aew (fun X c=>aci N X c.1.1 c.1.2.1 c.2.1) N)
theorem avM (R:Type):EnvOK Tryz.prog (aHo N R):=EnvOK.addLp (avN N R) (by kernel_rfl) (aao (li:=aew) hmx (avN N _) (by kernel_rfl) aaa (fun X c=>alm N X c.1.1 c.1.2.1 c.2.1) N)
noncomputable def agF:LI:=⟨23,0,[],⟨[(0,.ty (.int .u8)),(3,.ty (.int .u8)),(4,.ty (.int .i64))],[]⟩,[(.exit 0,⟨[(0,.ty (.int .u8)),(3,.ty (.int .u8))],[]⟩)]⟩
noncomputable def aiM (N:Nat)(X:(pz6×Unit)→Option (pz11))(b0:Int)(n3:Int)(i4:Int):Option (pz11):=
 bif (decide (i4<(8:Int))) then
  bif (decide ((0:Int)≤i4)) then
   (X ((b0,((IntKind.wrap .u8 (n3+(@Int.tmod (@Int.fdiv b0 ((2:Int) ^ (min (Int.toNat i4) (IntKind.bits .u8)))) (2:Int)))),((IntKind.wrap .i64 (i4+1)),()))),()))
  else
   none
 else
  some (((b0,(n3,())),()))
noncomputable def an8 (c:(pz6×Unit)):Option (pz11):=gl (fun X c=>aiM N X c.1.1 c.1.2.1 c.1.2.2.1) N c
theorem an7 (X:(pz6×Unit)→Option (pz11))(b0:Int)(n3:Int)(i4:Int):(aal Tryz.prog (aHo N) 400 [132] agF (aah Tryz.prog [132] 3) X ((b0,n3,i4,()),())).run=aiM N X b0 n3 i4:=by kernel_rfl
noncomputable def aHn:(R:Type)→Env R:=Env.addLp (aHo N) [132] 0 3 (fun R=>lpK Tryz.prog agF (fun X c=>aiM N X c.1.1 c.1.2.1 c.1.2.2.1) N)
theorem avL (R:Type):EnvOK Tryz.prog (aHn N R):=EnvOK.addLp (avM N R) (by kernel_rfl) (aao (li:=agF) hmx (avM N _) (by kernel_rfl) aaa (fun X c=>an7 N X c.1.1 c.1.2.1 c.1.2.2.1) N)
noncomputable def aky (b0:Int):Option Int:=
 Option.bind (an8 N ((b0,((0:Int),((1:Int),()))),())) fun v2=>
 some ((IntKind.wrap .u8 ((IntKind.wrap .u8 (v2.1.1-(@Int.tmod v2.1.1 (2:Int))))+(@Int.tmod (IntKind.wrap .u8 (v2.1.2.1+1)) (2:Int)))))
theorem asJ (b0:Int):(runK Tryz.prog (aHn N) 400 132 [(.int .u8)] [(.int .u8)] (b0,())).run=aky N b0:=by kernel_rfl
noncomputable def aHm:(R:Type)→Env R:=Env.addFn (aHn N) 132 (fun R=>fnK [(.int .u8)] [(.int .u8)] (fun c=>aky N c.1))
theorem avK (R:Type):EnvOK Tryz.prog (aHm N R):=EnvOK.addFn hmx (avL N R) (avL N _) (by kernel_rfl) (fun c=>asJ N c.1)
noncomputable def aeu:LI:=⟨42,0,[(5,5)],⟨[(4,.ty (.sl (.int .u8))),(5,.lit (.own 0)),(7,.ty (.int .i64))],[.own (.int .u8) 5]⟩,[(.exit 2,⟨[(5,.lit (.own 0))],[.own (.int .u8) 5]⟩)]⟩
noncomputable def ach (X:(pz5×((List Int)×Unit))→Option pz1)(row4:List (Int))(i7:Int)(h0:List (Int)):Option pz1:=
 bif (decide (i7<(8:Int))) then
  Option.bind (subI row4 (IntKind.wrap .i64 ((7:Int)*i7)) (IntKind.wrap .i64 ((IntKind.wrap .i64 ((7:Int)*i7))+7))) fun (v5:(List Int))=>
  Option.bind (adK N v5) fun v6=>
  Option.bind (aky N (IntKind.wrap .u8 (IntKind.wrap .u64 ((2:Int)*v6)))) fun v7=>
  bif (aac ((List.length h0)+(List.length ([v7]:List (Int)))) 1) then
   (X ((row4,((IntKind.wrap .i64 (i7+1)),())),((h0++([v7]:List (Int))),())))
  else
   none
 else
  some (((),(h0,())))
noncomputable def aet (c:(pz5×((List Int)×Unit))):Option pz1:=gl (fun X c=>ach N X c.1.1 c.1.2.1 c.2.1) N c
theorem alk (X:(pz5×((List Int)×Unit))→Option pz1)(row4:List (Int))(i7:Int)(h0:List (Int)):(aal Tryz.prog (aHm N) 400 [89] aeu (aah Tryz.prog [89] 9) X ((row4,i7,()),(h0,()))).run=ach N X row4 i7 h0:=by kernel_rfl
noncomputable def aHl:(R:Type)→Env R:=Env.addLp (aHm N) [89] 0 9 (fun R=>lpK Tryz.prog aeu (fun X c=>ach N X c.1.1 c.1.2.1 c.2.1) N)
theorem avJ (R:Type):EnvOK Tryz.prog (aHl N R):=EnvOK.addLp (avK N R) (by kernel_rfl) (aao (li:=aeu) hmx (avK N _) (by kernel_rfl) aaa (fun X c=>alk N X c.1.1 c.1.2.1 c.2.1) N)
noncomputable def aeK (key0:List (Int)):Option ((List Int)×Int):=
 bif (!(decide ((((List.length key0):Nat):Int)=(7:Int)))) then
  some ((([]:List Int),(1:Int)))
 else
  Option.bind (aev N ((key0,((0:Int),())),(([]:List Int),()))) fun v2=>
  Option.bind (aet N ((v2.2.1,((0:Int),())),(([]:List Int),()))) fun v3=>
  some ((v3.2.1,(0:Int)))
theorem an5 (key0:List (Int)):(runK Tryz.prog (aHl N) 400 89 [(.sl (.int .u8))] [(.sl (.int .u8)),(.int .i64)] (key0,())).run=aeK N key0:=by kernel_rfl
noncomputable def aHk:(R:Type)→Env R:=Env.addFn (aHl N) 89 (fun R=>fnK [(.sl (.int .u8))] [(.sl (.int .u8)),(.int .i64)] (fun c=>aeK N c.1))
theorem avI (R:Type):EnvOK Tryz.prog (aHk N R):=EnvOK.addFn hmx (avJ N R) (avJ N _) (by kernel_rfl) (fun c=>an5 N c.1)
noncomputable def agH:LI:=⟨20,0,[],⟨[(0,.ty (.sl (.int .u8))),(3,.ty (.int .u64)),(4,.ty (.int .i64))],[]⟩,[(.exit 0,⟨[(3,.ty (.int .u64))],[]⟩)]⟩
noncomputable def adM (N:Nat)(X:(pz3×Unit)→Option (((Int×Unit)×Unit)))(b0:List (Int))(n3:Int)(i4:Int):Option (((Int×Unit)×Unit)):=
 bif (decide (i4<(((List.length b0):Nat):Int))) then
  Option.bind (getI b0 i4) fun (v5:Int)=>
  (X ((b0,((IntKind.wrap .u64 ((IntKind.wrap .u64 (n3*(256:Int)))+(IntKind.wrap .u64 v5))),((IntKind.wrap .i64 (i4+1)),()))),()))
 else
  some (((n3,()),()))
noncomputable def agG (c:(pz3×Unit)):Option (((Int×Unit)×Unit)):=gl (fun X c=>adM N X c.1.1 c.1.2.1 c.1.2.2.1) N c
theorem an9 (X:(pz3×Unit)→Option (((Int×Unit)×Unit)))(b0:List (Int))(n3:Int)(i4:Int):(aal Tryz.prog (aHk N) 400 [92] agH (aah Tryz.prog [92] 3) X ((b0,n3,i4,()),())).run=adM N X b0 n3 i4:=by kernel_rfl
noncomputable def aHj:(R:Type)→Env R:=Env.addLp (aHk N) [92] 0 3 (fun R=>lpK Tryz.prog agH (fun X c=>adM N X c.1.1 c.1.2.1 c.1.2.2.1) N)
theorem avH (R:Type):EnvOK Tryz.prog (aHj N R):=EnvOK.addLp (avI N R) (by kernel_rfl) (aao (li:=agH) hmx (avI N _) (by kernel_rfl) aaa (fun X c=>an9 N X c.1.1 c.1.2.1 c.1.2.2.1) N)
noncomputable def aho (b0:List (Int)):Option Int:=
 Option.bind (agG N ((b0,((0:Int),((0:Int),()))),())) fun v2=>
 some (v2.1.1)
theorem asK (b0:List (Int)):(runK Tryz.prog (aHj N) 400 92 [(.sl (.int .u8))] [(.int .u64)] (b0,())).run=aho N b0:=by kernel_rfl
noncomputable def aHi:(R:Type)→Env R:=Env.addFn (aHj N) 92 (fun R=>fnK [(.sl (.int .u8))] [(.int .u64)] (fun c=>aho N c.1))
theorem avG (R:Type):EnvOK Tryz.prog (aHi N R):=EnvOK.addFn hmx (avH N R) (avH N _) (by kernel_rfl) (fun c=>asK N c.1)
noncomputable def agK:LI:=⟨24,0,[],⟨[(0,.ty (.int .u64)),(5,.lit (.own 0)),(6,.ty (.int .i64))],[.own (.int .u8) 5]⟩,[(.exit 0,⟨[(5,.lit (.own 0))],[.own (.int .u8) 5]⟩)]⟩
noncomputable def aeL (N:Nat)(X:pz15→Option pz1)(n0:Int)(i6:Int)(h0:List (Int)):Option pz1:=
 bif (decide ((0:Int)≤i6)) then
  bif (decide ((0:Int)≤i6∧i6<(((List.length h0):Nat):Int))) then
   Option.bind (h0[Int.toNat i6]?) fun (v5:Int)=>
   (X (((IntKind.wrap .u64 (@Int.tdiv n0 (256:Int))),((IntKind.wrap .i64 (i6-1)),())),((@List.set Int h0 (Int.toNat i6) (IntKind.wrap .u8 (@Int.tmod n0 (256:Int)))),())))
  else
   none
 else
  some (((),(h0,())))
noncomputable def agJ (c:pz15):Option pz1:=gl (fun X c=>aeL N X c.1.1 c.1.2.1 c.2.1) N c
theorem aob (X:pz15→Option pz1)(n0:Int)(i6:Int)(h0:List (Int)):(aal Tryz.prog (aHi N) 400 [90] agK (aah Tryz.prog [90] 3) X ((n0,i6,()),(h0,()))).run=aeL N X n0 i6 h0:=by kernel_rfl
noncomputable def aHh:(R:Type)→Env R:=Env.addLp (aHi N) [90] 0 3 (fun R=>lpK Tryz.prog agK (fun X c=>aeL N X c.1.1 c.1.2.1 c.2.1) N)
theorem avF (R:Type):EnvOK Tryz.prog (aHh N R):=EnvOK.addLp (avG N R) (by kernel_rfl) (aao (li:=agK) hmx (avG N _) (by kernel_rfl) aaa (fun X c=>aob N X c.1.1 c.1.2.1 c.2.1) N)
noncomputable def aiN (n0:Int)(width1:Int):Option (List Int):=
 bif ((decide ((0:Int)≤width1∧width1≤width1))&&(aac (Int.toNat width1) 1)) then
  Option.bind (agJ N ((n0,((IntKind.wrap .i64 (width1-1)),())),((@List.replicate Int (Int.toNat width1) (0:Int)),()))) fun v3=>
  some (v3.2.1)
 else
  none
theorem asM (n0:Int)(width1:Int):(runK Tryz.prog (aHh N) 400 90 [(.int .u64),(.int .i64)] [(.sl (.int .u8))] (n0,width1,())).run=aiN N n0 width1:=by kernel_rfl
noncomputable def aHg:(R:Type)→Env R:=Env.addFn (aHh N) 90 (fun R=>fnK [(.int .u64),(.int .i64)] [(.sl (.int .u8))] (fun c=>aiN N c.1 c.2.1))
theorem avE (R:Type):EnvOK Tryz.prog (aHg N R):=EnvOK.addFn hmx (avF N R) (avF N _) (by kernel_rfl) (fun c=>asM N c.1 c.2.1)
noncomputable def afM (key0:List (Int))(block1:List (Int)):Option ((List Int)×Int):=
 bif (!(decide ((((List.length key0):Nat):Int)=(7:Int)))) then
  some ((([]:List Int),(1:Int)))
 else
  Option.bind (some ((cond false true (!(decide ((((List.length block1):Nat):Int)=(8:Int))))))) fun (v3:Bool)=>
  bif v3 then
   some ((([]:List Int),(1:Int)))
  else
   Option.bind (aeK N key0) fun v4=>
   Option.bind (aho N v4.1) fun v5=>
   Option.bind (aho N block1) fun v6=>
   Option.bind (ahi N v5 v6) fun v7=>
   Option.bind (aiN N v7 (8:Int)) fun v8=>
   some ((v8,(0:Int)))
theorem apI (key0:List (Int))(block1:List (Int)):(runK Tryz.prog (aHg N) 400 57 [(.sl (.int .u8)),(.sl (.int .u8))] [(.sl (.int .u8)),(.int .i64)] (key0,block1,())).run=afM N key0 block1:=by kernel_rfl
noncomputable def aHf:(R:Type)→Env R:=Env.addFn (aHg N) 57 (fun R=>fnK [(.sl (.int .u8)),(.sl (.int .u8))] [(.sl (.int .u8)),(.int .i64)] (fun c=>afM N c.1 c.2.1))
theorem avD (R:Type):EnvOK Tryz.prog (aHf N R):=EnvOK.addFn hmx (avE N R) (avE N _) (by kernel_rfl) (fun c=>apI N c.1 c.2.1)
noncomputable def agL:LI:=⟨35,0,[],⟨[(0,.ty (.sl (.int .u8))),(1,.ty (.sl (.int .u8))),(5,.ty (.int .i64)),(16,.ty (.int .i64)),(17,.ty (.int .i64))],[]⟩,[(.exit 0,⟨[(5,.ty (.int .i64))],[]⟩)]⟩
noncomputable def adP (N:Nat)(X:(((List Int)×((List Int)×pz6))×Unit)→Option (((Int×Unit)×Unit)))(a0:List (Int))(b1:List (Int))(differ5:Int)(x16:Int)(x17:Int):Option (((Int×Unit)×Unit)):=
 bif (decide (x17<x16)) then
  Option.bind (getI a0 x17) fun (v7:Int)=>
  Option.bind (getI b1 x17) fun (v8:Int)=>
  (X ((a0,(b1,((bits .or .i64 differ5 (IntKind.wrap .i64 (bits .xor .u8 v7 v8))),(x16,((IntKind.wrap .i64 (x17+1)),()))))),()))
 else
  some (((differ5,()),()))
noncomputable def ajQ (c:(((List Int)×((List Int)×pz6))×Unit)):Option (((Int×Unit)×Unit)):=gl (fun X c=>adP N X c.1.1 c.1.2.1 c.1.2.2.1 c.1.2.2.2.1 c.1.2.2.2.2.1) N c
theorem aoc (X:(((List Int)×((List Int)×pz6))×Unit)→Option (((Int×Unit)×Unit)))(a0:List (Int))(b1:List (Int))(differ5:Int)(x16:Int)(x17:Int):(aal Tryz.prog (aHf N) 400 [97] agL (aah Tryz.prog [97] 3) X ((a0,b1,differ5,x16,x17,()),())).run=adP N X a0 b1 differ5 x16 x17:=by kernel_rfl
noncomputable def aHe:(R:Type)→Env R:=Env.addLp (aHf N) [97] 0 3 (fun R=>lpK Tryz.prog agL (fun X c=>adP N X c.1.1 c.1.2.1 c.1.2.2.1 c.1.2.2.2.1 c.1.2.2.2.2.1) N)
theorem avC (R:Type):EnvOK Tryz.prog (aHe N R):=EnvOK.addLp (avD N R) (by kernel_rfl) (aao (li:=agL) hmx (avD N _) (by kernel_rfl) aaa (fun X c=>aoc N X c.1.1 c.1.2.1 c.1.2.2.1 c.1.2.2.2.1 c.1.2.2.2.2.1) N)
noncomputable def afV (a0:List (Int))(b1:List (Int)):Option Bool:=
 Option.bind (ajQ N ((a0,(b1,((bits .xor .i64 (((List.length a0):Nat):Int) (((List.length b1):Nat):Int)),((@minI (((List.length a0):Nat):Int) (((List.length b1):Nat):Int)),((0:Int),()))))),())) fun v3=>
 some ((decide (v3.1.1=(0:Int))))
theorem asY (a0:List (Int))(b1:List (Int)):(runK Tryz.prog (aHe N) 400 97 [(.sl (.int .u8)),(.sl (.int .u8))] [.bool] (a0,b1,())).run=afV N a0 b1:=by kernel_rfl
noncomputable def aKy:(R:Type)→Env R:=Env.addFn (aHe N) 97 (fun R=>fnK [(.sl (.int .u8)),(.sl (.int .u8))] [.bool] (fun c=>afV N c.1 c.2.1))
theorem aDQ (R:Type):EnvOK Tryz.prog (aKy N R):=EnvOK.addFn hmx (avC N R) (avC N _) (by kernel_rfl) (fun c=>asY N c.1 c.2.1)
noncomputable def aHd:(R:Type)→Env R:=Env.addMv (aKy N) [(101,5)]
theorem avB (R:Type):EnvOK Tryz.prog (aHd N R):=EnvOK.addMv (aDQ N R) [(101,5)]
noncomputable def ahW:LI:=⟨28,0,[],⟨[(3,.lit (.own 0)),(10,.ty (.sl (.int .u8))),(11,.ty (.int .i64)),(12,.ty (.int .i64))],[.own (.int .u8) 5]⟩,[(.exit 0,⟨[(3,.lit (.own 0))],[.own (.int .u8) 5]⟩)]⟩
noncomputable def aey (N:Nat)(X:(pz3×((List Int)×Unit))→Option pz1)(x10:List (Int))(x11:Int)(x12:Int)(h0:List (Int)):Option pz1:=
 bif (decide (x12<x11)) then
  Option.bind (getI x10 x12) fun (v6:Int)=>
  Option.bind (getI (Array.toList (List.toArray ([48,49,50,51,52,53,54,55,56,57,65,66,67,68,69,70]:List UInt8))) (@Int.fdiv v6 ((2:Int) ^ (min (Int.toNat (4:Int)) (IntKind.bits .u8))))) fun (v7:UInt8)=>
  Option.bind (getI (Array.toList (List.toArray ([48,49,50,51,52,53,54,55,56,57,65,66,67,68,69,70]:List UInt8))) (bits .and .u8 v6 (15:Int))) fun (v8:UInt8)=>
  bif (aac ((List.length h0)+(List.length ([(((@UInt8.toNat v7):Nat):Int),(((@UInt8.toNat v8):Nat):Int)]:List (Int)))) 1) then
   (X ((x10,(x11,((IntKind.wrap .i64 (x12+1)),()))),((h0++([(((@UInt8.toNat v7):Nat):Int),(((@UInt8.toNat v8):Nat):Int)]:List (Int))),())))
  else
   none
 else
  some (((),(h0,())))
noncomputable def akB (c:(pz3×((List Int)×Unit))):Option pz1:=gl (fun X c=>aey N X c.1.1 c.1.2.1 c.1.2.2.1 c.2.1) N c
theorem ap1 (X:(pz3×((List Int)×Unit))→Option pz1)(x10:List (Int))(x11:Int)(x12:Int)(h0:List (Int)):(aal Tryz.prog (aHd N) 400 [101] ahW (aah Tryz.prog [101] 3) X ((x10,x11,x12,()),(h0,()))).run=aey N X x10 x11 x12 h0:=by kernel_rfl
noncomputable def aHc:(R:Type)→Env R:=Env.addLp (aHd N) [101] 0 3 (fun R=>lpK Tryz.prog ahW (fun X c=>aey N X c.1.1 c.1.2.1 c.1.2.2.1 c.2.1) N)
theorem avA (R:Type):EnvOK Tryz.prog (aHc N R):=EnvOK.addLp (avB N R) (by kernel_rfl) (aao (li:=ahW) hmx (avB N _) (by kernel_rfl) aaa (fun X c=>ap1 N X c.1.1 c.1.2.1 c.1.2.2.1 c.2.1) N)
noncomputable def ags (b0:List (Int)):Option (List UInt8):=
 bif ((decide ((0:Int)≤(0:Int)∧(0:Int)≤(IntKind.wrap .i64 ((2:Int)*(((List.length b0):Nat):Int)))))&&(aac (Int.toNat (IntKind.wrap .i64 ((2:Int)*(((List.length b0):Nat):Int)))) 1)) then
  Option.bind (akB N ((b0,((((List.length b0):Nat):Int),((0:Int),()))),((@List.replicate Int (Int.toNat (0:Int)) (0:Int)),()))) fun v2=>
  Option.bind (@toBy v2.2.1) fun (v3:(List UInt8))=>
  some (v3)
 else
  none
theorem axF (b0:List (Int)):(runK Tryz.prog (aHc N) 400 101 [(.sl (.int .u8))] [.str] (b0,())).run=ags N b0:=by kernel_rfl
noncomputable def aHb:(R:Type)→Env R:=Env.addFn (aHc N) 101 (fun R=>fnK [(.sl (.int .u8))] [.str] (fun c=>ags N c.1))
theorem avz (R:Type):EnvOK Tryz.prog (aHb N R):=EnvOK.addFn hmx (avA N R) (avA N _) (by kernel_rfl) (fun c=>axF N c.1)
noncomputable def agI:LI:=⟨40,0,[],⟨[(0,.ty (.sl (.int .u8))),(3,.ty .str),(4,.ty .str),(5,.ty (.int .i64))],[]⟩,[(.exit 0,⟨[(4,.ty .str)],[]⟩)]⟩
noncomputable def adN (N:Nat)(X:(((List Int)×(List UInt8×pz22))×Unit)→Option (pz25))(b0:List (Int))(all3:List UInt8)(s4:List UInt8)(i5:Int):Option (pz25):=
 bif (decide (i5<(((List.length b0):Nat):Int))) then
  Option.bind (getI b0 i5) fun (v6:Int)=>
  Option.bind (getI b0 i5) fun (v7:Int)=>
  Option.bind (subI all3 (IntKind.wrap .i64 (IntKind.wrap .u8 (@Int.tdiv v6 (16:Int)))) (IntKind.wrap .i64 ((IntKind.wrap .i64 (IntKind.wrap .u8 (@Int.tdiv v6 (16:Int))))+1))) fun (v8:(List UInt8))=>
  Option.bind (subI all3 (IntKind.wrap .i64 (@Int.tmod v7 (16:Int))) (IntKind.wrap .i64 ((IntKind.wrap .i64 (@Int.tmod v7 (16:Int)))+1))) fun (v9:(List UInt8))=>
  bif (decide (((List.length v8)+(List.length v9))≤maxLen)) then
   bif (decide (((List.length s4)+(List.length (v8++v9)))≤maxLen)) then
    (X ((b0,(all3,((s4++(v8++v9)),((IntKind.wrap .i64 (i5+1)),())))),()))
   else
    none
  else
   none
 else
  some (((s4,()),()))
noncomputable def ajP (c:(((List Int)×(List UInt8×pz22))×Unit)):Option (pz25):=gl (fun X c=>adN N X c.1.1 c.1.2.1 c.1.2.2.1 c.1.2.2.2.1) N c
theorem aoa (X:(((List Int)×(List UInt8×pz22))×Unit)→Option (pz25))(b0:List (Int))(all3:List UInt8)(s4:List UInt8)(i5:Int):(aal Tryz.prog (aHb N) 400 [72] agI (aah Tryz.prog [72] 4) X ((b0,all3,s4,i5,()),())).run=adN N X b0 all3 s4 i5:=by kernel_rfl
noncomputable def aHa:(R:Type)→Env R:=Env.addLp (aHb N) [72] 0 4 (fun R=>lpK Tryz.prog agI (fun X c=>adN N X c.1.1 c.1.2.1 c.1.2.2.1 c.1.2.2.2.1) N)
theorem avy (R:Type):EnvOK Tryz.prog (aHa N R):=EnvOK.addLp (avz N R) (by kernel_rfl) (aao (li:=agI) hmx (avz N _) (by kernel_rfl) aaa (fun X c=>aoa N X c.1.1 c.1.2.1 c.1.2.2.1 c.1.2.2.2.1) N)
noncomputable def akz (b0:List (Int)):Option (List UInt8):=
 Option.bind (ajP N ((b0,((Array.toList (List.toArray ([48,49,50,51,52,53,54,55,56,57,65,66,67,68,69,70]:List UInt8))),((Array.toList (List.toArray ([]:List UInt8))),((0:Int),())))),())) fun v2=>
 some (v2.1.1)
theorem asL (b0:List (Int)):(runK Tryz.prog (aHa N) 400 72 [(.sl (.int .u8))] [.str] (b0,())).run=akz N b0:=by kernel_rfl
noncomputable def aG9:(R:Type)→Env R:=Env.addFn (aHa N) 72 (fun R=>fnK [(.sl (.int .u8))] [.str] (fun c=>akz N c.1))
theorem avx (R:Type):EnvOK Tryz.prog (aG9 N R):=EnvOK.addFn hmx (avy N R) (avy N _) (by kernel_rfl) (fun c=>asL N c.1)
noncomputable def aeX:LI:=⟨19,0,[],⟨[(6,.ty (.sl (.int .u8))),(7,.ty (.int .i64)),(8,.ty (.int .i64))],[]⟩,[(.ret,⟨[(2,.ty .bool)],[]⟩),(.exit 0,⟨[],[]⟩)]⟩
noncomputable def abz (N:Nat)(X:(pz3×Unit)→Option ((((Bool×Unit)×Unit) ⊕ (Unit×Unit))))(x6:List (Int))(x7:Int)(x8:Int):Option ((((Bool×Unit)×Unit) ⊕ (Unit×Unit))):=
 bif (decide (x8<x7)) then
  Option.bind (getI x6 x8) fun (v5:Int)=>
  Option.bind (bif (decide (v5<(32:Int))) then
    some (true)
   else
    some ((cond false true (decide ((126:Int)<v5))))) fun (v6:Bool)=>
  bif v6 then
   some ((.inl ((false,()),())))
  else
   (X ((x6,(x7,((IntKind.wrap .i64 (x8+1)),()))),()))
 else
  some ((.inr ((),())))
noncomputable def aik (c:(pz3×Unit)):Option ((((Bool×Unit)×Unit) ⊕ (Unit×Unit))):=gl (fun X c=>abz N X c.1.1 c.1.2.1 c.1.2.2.1) N c
theorem alW (X:(pz3×Unit)→Option ((((Bool×Unit)×Unit) ⊕ (Unit×Unit))))(x6:List (Int))(x7:Int)(x8:Int):(aal Tryz.prog (aG9 N) 400 [99] aeX (aah Tryz.prog [99] 2) X ((x6,x7,x8,()),())).run=abz N X x6 x7 x8:=by kernel_rfl
noncomputable def aG8:(R:Type)→Env R:=Env.addLp (aG9 N) [99] 0 2 (fun R=>lpK Tryz.prog aeX (fun X c=>abz N X c.1.1 c.1.2.1 c.1.2.2.1) N)
theorem avw (R:Type):EnvOK Tryz.prog (aG8 N R):=EnvOK.addLp (avx N R) (by kernel_rfl) (aao (li:=aeX) hmx (avx N _) (by kernel_rfl) aaa (fun X c=>alW N X c.1.1 c.1.2.1 c.1.2.2.1) N)
noncomputable def aft (s0:List UInt8):Option Bool:=
 bif (aac (List.length s0) 1) then
  Option.bind (aik N (((@ofB s0),((((List.length (@ofB s0)):Nat):Int),((0:Int),()))),())) fun v2=>
  Sum.elim
   (fun (v3:((Bool×Unit)×Unit))=>
   some (v3.1.1))
   (fun (v3:(Unit×Unit))=>
   some (true)) v2
 else
  none
theorem aph (s0:List UInt8):(runK Tryz.prog (aG8 N) 400 99 [.str] [.bool] (s0,())).run=aft N s0:=by kernel_rfl
noncomputable def aKx:(R:Type)→Env R:=Env.addFn (aG8 N) 99 (fun R=>fnK [.str] [.bool] (fun c=>aft N c.1))
theorem aDP (R:Type):EnvOK Tryz.prog (aKx N R):=EnvOK.addFn hmx (avw N R) (avw N _) (by kernel_rfl) (fun c=>aph N c.1)
noncomputable def aG7:(R:Type)→Env R:=Env.addBx (aKx N) [(104,0)]
theorem avv (R:Type):EnvOK Tryz.prog (aG7 N R):=EnvOK.addBx (aDP N R) [(104,0)]
noncomputable def aez (h0:Arr Int 16)(response1:Arr Int 24):Option (Arr Int 16):=
 Option.bind (acp N h0) fun v3=>
 Option.bind (adY N ([v3.l,response1.l,([84,104,105,115,32,105,115,32,116,104,101,32,77,80,80,69,32,77,97,115,116,101,114,32,75,101,121]:List Int)]:List ((List Int)))) fun v4=>
 Option.bind (abV v4.l (16:Int)) fun (v5:(List Int))=>
 Option.bind (@ac1 Int (16:Nat) v5) fun (v6:(Arr Int 16))=>
 some (v6)
theorem ap4 (h0:Arr Int 16)(response1:Arr Int 24):(runK Tryz.prog (aG7 N) 400 104 [(.arr 16 (.int .u8)),(.arr 24 (.int .u8))] [(.arr 16 (.int .u8))] (h0,response1,())).run=aez N h0 response1:=by kernel_rfl
noncomputable def aKw:(R:Type)→Env R:=Env.addFn (aG7 N) 104 (fun R=>fnK [(.arr 16 (.int .u8)),(.arr 24 (.int .u8))] [(.arr 16 (.int .u8))] (fun c=>aez N c.1 c.2.1))
theorem aDO (R:Type):EnvOK Tryz.prog (aKw N R):=EnvOK.addFn hmx (avv N R) (avv N _) (by kernel_rfl) (fun c=>ap4 N c.1 c.2.1)
noncomputable def aG6:(R:Type)→Env R:=Env.addInl (aKw N) [138,139,32]
theorem avu (R:Type):EnvOK Tryz.prog (aG6 N R):=EnvOK.addInl (aDO N R) (by kernel_rfl)
noncomputable def agN:LI:=⟨33,0,[],⟨[(0,.ty (.sl (.sl (.int .u8)))),(3,.ty (.int .i64)),(9,.ty (.sl (.sl (.int .u8)))),(10,.ty (.int .i64)),(11,.ty (.int .i64))],[]⟩,[(.exit 0,⟨[(0,.ty (.sl (.sl (.int .u8)))),(3,.ty (.int .i64))],[]⟩)]⟩
noncomputable def aiT (N:Nat)(X:(pz19×Unit)→Option ((pz9×Unit)))(parts0:List (List Int))(size3:Int)(x9:List (List Int))(x10:Int)(x11:Int):Option ((pz9×Unit)):=
 bif (decide (x11<x10)) then
  Option.bind (getI x9 x11) fun (v7:(List Int))=>
  (X ((parts0,((IntKind.wrap .i64 (size3+(((List.length v7):Nat):Int))),(x9,(x10,((IntKind.wrap .i64 (x11+1)),()))))),()))
 else
  some (((parts0,(size3,())),()))
noncomputable def aog (c:(pz19×Unit)):Option ((pz9×Unit)):=gl (fun X c=>aiT N X c.1.1 c.1.2.1 c.1.2.2.1 c.1.2.2.2.1 c.1.2.2.2.2.1) N c
theorem aof (X:(pz19×Unit)→Option ((pz9×Unit)))(parts0:List (List Int))(size3:Int)(x9:List (List Int))(x10:Int)(x11:Int):(aal Tryz.prog (aG6 N) 400 [48] agN (aah Tryz.prog [48] 3) X ((parts0,size3,x9,x10,x11,()),())).run=aiT N X parts0 size3 x9 x10 x11:=by kernel_rfl
noncomputable def aG5:(R:Type)→Env R:=Env.addLp (aG6 N) [48] 0 3 (fun R=>lpK Tryz.prog agN (fun X c=>aiT N X c.1.1 c.1.2.1 c.1.2.2.1 c.1.2.2.2.1 c.1.2.2.2.2.1) N)
theorem avt (R:Type):EnvOK Tryz.prog (aG5 N R):=EnvOK.addLp (avu N R) (by kernel_rfl) (aao (li:=agN) hmx (avu N _) (by kernel_rfl) aaa (fun X c=>aof N X c.1.1 c.1.2.1 c.1.2.2.1 c.1.2.2.2.1 c.1.2.2.2.2.1) N)
noncomputable def agM:LI:=⟨33,0,[],⟨[(6,.lit (.own 0)),(22,.ty (.sl (.sl (.int .u8)))),(23,.ty (.int .i64)),(24,.ty (.int .i64))],[.own (.int .u8) 5]⟩,[(.exit 2,⟨[(6,.lit (.own 0))],[.own (.int .u8) 5]⟩)]⟩
noncomputable def aiS (N:Nat)(X:(pz4×((List Int)×Unit))→Option pz1)(x22:List (List Int))(x23:Int)(x24:Int)(h0:List (Int)):Option pz1:=
 bif (decide (x24<x23)) then
  Option.bind (getI x22 x24) fun (v6:(List Int))=>
  bif (aac ((List.length h0)+(List.length v6)) 1) then
   (X ((x22,(x23,((IntKind.wrap .i64 (x24+1)),()))),((h0++v6),())))
  else
   none
 else
  some (((),(h0,())))
noncomputable def aoe (c:(pz4×((List Int)×Unit))):Option pz1:=gl (fun X c=>aiS N X c.1.1 c.1.2.1 c.1.2.2.1 c.2.1) N c
theorem aod (X:(pz4×((List Int)×Unit))→Option pz1)(x22:List (List Int))(x23:Int)(x24:Int)(h0:List (Int)):(aal Tryz.prog (aG5 N) 400 [48] agM (aah Tryz.prog [48] 9) X ((x22,x23,x24,()),(h0,()))).run=aiS N X x22 x23 x24 h0:=by kernel_rfl
noncomputable def aG4:(R:Type)→Env R:=Env.addLp (aG5 N) [48] 0 9 (fun R=>lpK Tryz.prog agM (fun X c=>aiS N X c.1.1 c.1.2.1 c.1.2.2.1 c.2.1) N)
theorem avs (R:Type):EnvOK Tryz.prog (aG4 N R):=EnvOK.addLp (avt N R) (by kernel_rfl) (aao (li:=agM) hmx (avt N _) (by kernel_rfl) aaa (fun X c=>aod N X c.1.1 c.1.2.1 c.1.2.2.1 c.2.1) N)
noncomputable def adi (parts0:List (List Int)):Option (List Int):=
 Option.bind (aog N ((parts0,((0:Int),(parts0,((((List.length parts0):Nat):Int),((0:Int),()))))),())) fun v2=>
 bif ((decide ((0:Int)≤(0:Int)∧(0:Int)≤v2.1.2.1))&&(aac (Int.toNat v2.1.2.1) 1)) then
  Option.bind (aoe N ((v2.1.1,((((List.length v2.1.1):Nat):Int),((0:Int),()))),((@List.replicate Int (Int.toNat (0:Int)) (0:Int)),()))) fun v3=>
  some (v3.2.1)
 else
  none
theorem asZ (parts0:List (List Int)):(runK Tryz.prog (aG4 N) 400 48 [(.sl (.sl (.int .u8)))] [(.sl (.int .u8))] (parts0,())).run=adi N parts0:=by kernel_rfl
noncomputable def aG3:(R:Type)→Env R:=Env.addFn (aG4 N) 48 (fun R=>fnK [(.sl (.sl (.int .u8)))] [(.sl (.int .u8))] (fun c=>adi N c.1))
theorem avr (R:Type):EnvOK Tryz.prog (aG3 N R):=EnvOK.addFn hmx (avs N R) (avs N _) (by kernel_rfl) (fun c=>asZ N c.1)
noncomputable def aba:LI:=⟨19,0,[],⟨[(0,.ty .str),(1,.ty (.int .u8)),(5,.ty (.int .i64))],[]⟩,[(.ret,⟨[(4,.ty (.int .i64))],[]⟩),(.exit 0,⟨[],[]⟩)]⟩
noncomputable def aau (N:Nat)(X:((List UInt8×(Int×(Int×Unit)))×Unit)→Option ((((Int×Unit)×Unit) ⊕ (Unit×Unit))))(s0:List UInt8)(c1:Int)(i5:Int):Option ((((Int×Unit)×Unit) ⊕ (Unit×Unit))):=
 bif (decide ((0:Int)≤i5)) then
  Option.bind (getI s0 i5) fun (v5:UInt8)=>
  bif (decide ((((@UInt8.toNat v5):Nat):Int)=c1)) then
   some ((.inl ((i5,()),())))
  else
   (X ((s0,(c1,((IntKind.wrap .i64 (i5-1)),()))),()))
 else
  some ((.inr ((),())))
noncomputable def ab4 (c:((List UInt8×(Int×(Int×Unit)))×Unit)):Option ((((Int×Unit)×Unit) ⊕ (Unit×Unit))):=gl (fun X c=>aau N X c.1.1 c.1.2.1 c.1.2.2.1) N c
theorem aec (X:((List UInt8×(Int×(Int×Unit)))×Unit)→Option ((((Int×Unit)×Unit) ⊕ (Unit×Unit))))(s0:List UInt8)(c1:Int)(i5:Int):(aal Tryz.prog (aG3 N) 400 [162] aba (aah Tryz.prog [162] 2) X ((s0,c1,i5,()),())).run=aau N X s0 c1 i5:=by kernel_rfl
noncomputable def aG1:(R:Type)→Env R:=Env.addLp (aG3 N) [162] 0 2 (fun R=>lpK Tryz.prog aba (fun X c=>aau N X c.1.1 c.1.2.1 c.1.2.2.1) N)
theorem avq (R:Type):EnvOK Tryz.prog (aG1 N R):=EnvOK.addLp (avr N R) (by kernel_rfl) (aao (li:=aba) hmx (avr N _) (by kernel_rfl) aaa (fun X c=>aec N X c.1.1 c.1.2.1 c.1.2.2.1) N)
noncomputable def aa9 (s0:List UInt8)(c1:Int):Option Int:=
 Option.bind (ab4 N ((s0,(c1,((IntKind.wrap .i64 ((((List.length s0):Nat):Int)-1)),()))),())) fun v3=>
 Sum.elim
  (fun (v4:((Int×Unit)×Unit))=>
  some (v4.1.1))
  (fun (v4:(Unit×Unit))=>
  some ((-1:Int))) v3
theorem afe (s0:List UInt8)(c1:Int):(runK Tryz.prog (aG1 N) 400 162 [.str,(.int .u8)] [(.int .i64)] (s0,c1,())).run=aa9 N s0 c1:=by kernel_rfl
noncomputable def aG0:(R:Type)→Env R:=Env.addFn (aG1 N) 162 (fun R=>fnK [.str,(.int .u8)] [(.int .i64)] (fun c=>aa9 N c.1 c.2.1))
theorem avp (R:Type):EnvOK Tryz.prog (aG0 N R):=EnvOK.addFn hmx (avq N R) (avq N _) (by kernel_rfl) (fun c=>afe N c.1 c.2.1)
noncomputable def abT (s0:List UInt8)(c1:Int):Option Int:=
 Option.bind (aa9 N s0 c1) fun v3=>
 some (v3)
theorem ahI (s0:List UInt8)(c1:Int):(runK Tryz.prog (aG0 N) 400 126 [.str,(.int .u8)] [(.int .i64)] (s0,c1,())).run=abT N s0 c1:=by kernel_rfl
noncomputable def aGZ:(R:Type)→Env R:=Env.addFn (aG0 N) 126 (fun R=>fnK [.str,(.int .u8)] [(.int .i64)] (fun c=>abT N c.1 c.2.1))
theorem avo (R:Type):EnvOK Tryz.prog (aGZ N R):=EnvOK.addFn hmx (avp N R) (avp N _) (by kernel_rfl) (fun c=>ahI N c.1 c.2.1)
noncomputable def aee (name0:List UInt8):Option (List UInt8):=
 Option.bind (abT N name0 (92:Int)) fun v2=>
 Option.bind (abe name0 (IntKind.wrap .i64 (v2+1))) fun (v3:(List UInt8))=>
 some (v3)
theorem aqN (name0:List UInt8):(runK Tryz.prog (aGZ N) 400 83 [.str] [.str] (name0,())).run=aee N name0:=by kernel_rfl
noncomputable def aGY:(R:Type)→Env R:=Env.addFn (aGZ N) 83 (fun R=>fnK [.str] [.str] (fun c=>aee N c.1))
theorem avn (R:Type):EnvOK Tryz.prog (aGY N R):=EnvOK.addFn hmx (avo N R) (avo N _) (by kernel_rfl) (fun c=>aqN N c.1)
noncomputable def afH:LI:=⟨20,0,[],⟨[(0,.ty .str),(3,.ty (.int .i64)),(4,.ty (.int .i64))],[]⟩,[(.exit 0,⟨[(0,.ty .str),(3,.ty (.int .i64))],[]⟩)]⟩
noncomputable def act (N:Nat)(X:((List UInt8×(Int×(Int×Unit)))×Unit)→Option ((pz22×Unit)))(name0:List UInt8)(x3:Int)(i4:Int):Option ((pz22×Unit)):=
 bif (decide (i4<(((List.length name0):Nat):Int))) then
  Option.bind (getI name0 i4) fun (v5:UInt8)=>
  bif (decide ((((@UInt8.toNat v5):Nat):Int)=(92:Int))) then
   (X ((name0,((IntKind.wrap .i64 (i4+1)),((IntKind.wrap .i64 (i4+1)),()))),()))
  else
   (X ((name0,(x3,((IntKind.wrap .i64 (i4+1)),()))),()))
 else
  some (((name0,(x3,())),()))
noncomputable def aiJ (c:((List UInt8×(Int×(Int×Unit)))×Unit)):Option ((pz22×Unit)):=gl (fun X c=>act N X c.1.1 c.1.2.1 c.1.2.2.1) N c
theorem amP (X:((List UInt8×(Int×(Int×Unit)))×Unit)→Option ((pz22×Unit)))(name0:List UInt8)(x3:Int)(i4:Int):(aal Tryz.prog (aGY N) 400 [60] afH (aah Tryz.prog [60] 3) X ((name0,x3,i4,()),())).run=act N X name0 x3 i4:=by kernel_rfl
noncomputable def aGX:(R:Type)→Env R:=Env.addLp (aGY N) [60] 0 3 (fun R=>lpK Tryz.prog afH (fun X c=>act N X c.1.1 c.1.2.1 c.1.2.2.1) N)
theorem avm (R:Type):EnvOK Tryz.prog (aGX N R):=EnvOK.addLp (avn N R) (by kernel_rfl) (aao (li:=afH) hmx (avn N _) (by kernel_rfl) aaa (fun X c=>amP N X c.1.1 c.1.2.1 c.1.2.2.1) N)
noncomputable def ahe (name0:List UInt8):Option (List UInt8):=
 Option.bind (aiJ N ((name0,((0:Int),((0:Int),()))),())) fun v2=>
 Option.bind (abe v2.1.1 v2.1.2.1) fun (v3:(List UInt8))=>
 some (v3)
theorem arc (name0:List UInt8):(runK Tryz.prog (aGX N) 400 60 [.str] [.str] (name0,())).run=ahe N name0:=by kernel_rfl
noncomputable def aKv:(R:Type)→Env R:=Env.addFn (aGX N) 60 (fun R=>fnK [.str] [.str] (fun c=>ahe N c.1))
theorem aDN (R:Type):EnvOK Tryz.prog (aKv N R):=EnvOK.addFn hmx (avm N R) (avm N _) (by kernel_rfl) (fun c=>arc N c.1)
noncomputable def aGW:(R:Type)→Env R:=Env.addBx (aKv N) [(31,0)]
theorem avl (R:Type):EnvOK Tryz.prog (aGW N R):=EnvOK.addBx (aDN N R) [(31,0)]
noncomputable def aeB (peer0:Arr Int 16)(response1:Arr Int 24):Option (List Int):=
 Option.bind (adi N ([peer0.l,(@List.replicate Int (Int.toNat (8:Int)) (0:Int)),response1.l,([0]:List Int)]:List ((List Int)))) fun v3=>
 some (v3)
theorem aqv (peer0:Arr Int 16)(response1:Arr Int 24):(runK Tryz.prog (aGW N) 400 31 [(.arr 16 (.int .u8)),(.arr 24 (.int .u8))] [(.sl (.int .u8))] (peer0,response1,())).run=aeB N peer0 response1:=by kernel_rfl
noncomputable def aGV:(R:Type)→Env R:=Env.addFn (aGW N) 31 (fun R=>fnK [(.arr 16 (.int .u8)),(.arr 24 (.int .u8))] [(.sl (.int .u8))] (fun c=>aeB N c.1 c.2.1))
theorem avk (R:Type):EnvOK Tryz.prog (aGV N R):=EnvOK.addFn hmx (avl N R) (avl N _) (by kernel_rfl) (fun c=>aqv N c.1 c.2.1)
noncomputable def adB (value0:List (Int)):Option ((Arr Int 16)×(Arr Int 24)×Int):=
 bif (!(decide ((((List.length value0):Nat):Int)=(49:Int)))) then
  some ((zc16,(zc24,(1:Int))))
 else
  Option.bind (abV value0 (16:Int)) fun (v2:(List Int))=>
  Option.bind (@ac1 Int (16:Nat) v2) fun (v3:(Arr Int 16))=>
  Option.bind (subI value0 (24:Int) (48:Int)) fun (v4:(List Int))=>
  Option.bind (@ac1 Int (24:Nat) v4) fun (v5:(Arr Int 24))=>
  Option.bind (aeB N v3 v5) fun v6=>
  Option.bind (afV N v6 value0) fun v7=>
  bif (!v7) then
   some ((zc16,(zc24,(3:Int))))
  else
   some ((v3,(v5,(0:Int))))
theorem aqx (value0:List (Int)):(runK Tryz.prog (aGV N) 400 62 [(.sl (.int .u8))] [(.arr 16 (.int .u8)),(.arr 24 (.int .u8)),(.int .i64)] (value0,())).run=adB N value0:=by kernel_rfl
noncomputable def aKu:(R:Type)→Env R:=Env.addFn (aGV N) 62 (fun R=>fnK [(.sl (.int .u8))] [(.arr 16 (.int .u8)),(.arr 24 (.int .u8)),(.int .i64)] (fun c=>adB N c.1))
theorem aDM (R:Type):EnvOK Tryz.prog (aKu N R):=EnvOK.addFn hmx (avk N R) (avk N _) (by kernel_rfl) (fun c=>aqx N c.1)
noncomputable def aGU:(R:Type)→Env R:=Env.addBx (aKu N) [(54,0)]
theorem avj (R:Type):EnvOK Tryz.prog (aGU N R):=EnvOK.addBx (aDM N R) [(54,0)]
noncomputable def aaR (peer0:Arr Int 16)(auth1:Arr Int 16)(name2:List UInt8):Option (Arr Int 8):=
 Option.bind (aee N name2) fun v4=>
 bif (aac (List.length v4) 1) then
  Option.bind (adY N ([peer0.l,auth1.l,(@ofB v4)]:List ((List Int)))) fun v5=>
  Option.bind (abV v5.l (8:Int)) fun (v6:(List Int))=>
  Option.bind (@ac1 Int (8:Nat) v6) fun (v7:(Arr Int 8))=>
  some (v7)
 else
  none
theorem alF (peer0:Arr Int 16)(auth1:Arr Int 16)(name2:List UInt8):(runK Tryz.prog (aGU N) 400 54 [(.arr 16 (.int .u8)),(.arr 16 (.int .u8)),.str] [(.arr 8 (.int .u8))] (peer0,auth1,name2,())).run=aaR N peer0 auth1 name2:=by kernel_rfl
noncomputable def aKt:(R:Type)→Env R:=Env.addFn (aGU N) 54 (fun R=>fnK [(.arr 16 (.int .u8)),(.arr 16 (.int .u8)),.str] [(.arr 8 (.int .u8))] (fun c=>aaR N c.1 c.2.1 c.2.2.1))
theorem aDL (R:Type):EnvOK Tryz.prog (aKt N R):=EnvOK.addFn hmx (avj N R) (avj N _) (by kernel_rfl) (fun c=>alF N c.1 c.2.1 c.2.2.1)
noncomputable def aGS:(R:Type)→Env R:=Env.addBx (aKt N) [(53,0)]
theorem avi (R:Type):EnvOK Tryz.prog (aGS N R):=EnvOK.addBx (aDL N R) [(53,0)]
noncomputable def adA:LI:=⟨28,0,[(5,5)],⟨[(2,.adr (.arr 8 (.int .u8))),(4,.lit (.box 0 0)),(5,.lit (.own 1)),(11,.ty (.arr 3 (.arr 7 (.int .u8)))),(12,.ty (.int .i64))],[.box 41 (.arr 24 (.int .u8)),.own (.int .u8) 5]⟩,[(.exit 0,⟨[(4,.lit (.box 0 0)),(5,.lit (.own 1))],[.box 41 (.arr 24 (.int .u8)),.own (.int .u8) 5]⟩)]⟩
noncomputable def ack (X:(((Arr Int 8)×((Arr (Arr Int 7) 3)×(Int×Unit)))×((Arr Int 24)×((List Int)×Unit)))→Option ((Unit×((Arr Int 24)×((List Int)×Unit)))))(c2:Arr Int 8)(x11:Arr (Arr Int 7) 3)(x12:Int)(h0:Arr Int 24)(h1:List (Int)):Option ((Unit×((Arr Int 24)×((List Int)×Unit)))):=
 bif (decide (x12<(3:Int))) then
  Option.bind (getI x11.l x12) fun (v7:(Arr Int 7))=>
  Option.bind (aeU N v7.l c2.l) fun v8=>
  bif (aac ((List.length h1)+(List.length v8.1)) 1) then
   (X ((c2,(x11,((IntKind.wrap .i64 (x12+1)),()))),(h0,((h1++v8.1),()))))
  else
   none
 else
  some (((),(h0,(h1,()))))
noncomputable def agf (c:(((Arr Int 8)×((Arr (Arr Int 7) 3)×(Int×Unit)))×((Arr Int 24)×((List Int)×Unit)))):Option ((Unit×((Arr Int 24)×((List Int)×Unit)))):=gl (fun X c=>ack N X c.1.1 c.1.2.1 c.1.2.2.1 c.2.1 c.2.2.1) N c
theorem akk (X:(((Arr Int 8)×((Arr (Arr Int 7) 3)×(Int×Unit)))×((Arr Int 24)×((List Int)×Unit)))→Option ((Unit×((Arr Int 24)×((List Int)×Unit)))))(c2:Arr Int 8)(x11:Arr (Arr Int 7) 3)(x12:Int)(h0:Arr Int 24)(h1:List (Int)):(aal Tryz.prog (aGS N) 400 [53] adA (aah Tryz.prog [53] 3) X ((c2,x11,x12,()),(h0,h1,()))).run=ack N X c2 x11 x12 h0 h1:=by kernel_rfl
noncomputable def aGR:(R:Type)→Env R:=Env.addLp (aGS N) [53] 0 3 (fun R=>lpK Tryz.prog adA (fun X c=>ack N X c.1.1 c.1.2.1 c.1.2.2.1 c.2.1 c.2.2.1) N)
theorem avh (R:Type):EnvOK Tryz.prog (aGR N R):=EnvOK.addLp (avi N R) (by kernel_rfl) (aao (li:=adA) hmx (avi N _) (by kernel_rfl) aaa (fun X c=>akk N X c.1.1 c.1.2.1 c.1.2.2.1 c.2.1 c.2.2.1) N)
noncomputable def abA (c0:Arr Int 8)(h1:Arr Int 16):Option (Arr Int 24):=
 Option.bind (ac7 N h1) fun v3=>
 Option.bind (agf N ((c0,(v3,((0:Int),()))),(zc24,(([]:List Int),())))) fun v4=>
 Option.bind (@ac1 Int (24:Nat) v4.2.2.1) fun (v5:(Arr Int 24))=>
 some (v5)
theorem amd (c0:Arr Int 8)(h1:Arr Int 16):(runK Tryz.prog (aGR N) 400 53 [(.arr 8 (.int .u8)),(.arr 16 (.int .u8))] [(.arr 24 (.int .u8))] (c0,h1,())).run=abA N c0 h1:=by kernel_rfl
noncomputable def aKs:(R:Type)→Env R:=Env.addFn (aGR N) 53 (fun R=>fnK [(.arr 8 (.int .u8)),(.arr 16 (.int .u8))] [(.arr 24 (.int .u8))] (fun c=>abA N c.1 c.2.1))
theorem aDK (R:Type):EnvOK Tryz.prog (aKs N R):=EnvOK.addFn hmx (avh N R) (avh N _) (by kernel_rfl) (fun c=>amd N c.1 c.2.1)
noncomputable def aGQ:(R:Type)→Env R:=Env.addBx (aKs N) [(30,0)]
theorem avg (R:Type):EnvOK Tryz.prog (aGQ N R):=EnvOK.addBx (aDK N R) [(30,0)]
noncomputable def ab2 (peer0:Arr Int 16)(auth1:Arr Int 16)(name2:List UInt8)(password3:List UInt8):Option ((Arr Int 24)×Int):=
 Option.bind (adj N password3) fun v5=>
 bif (!(decide (v5.2=(0:Int)))) then
  some ((zc24,v5.2))
 else
  Option.bind (aaR N peer0 auth1 name2) fun v6=>
  Option.bind (abA N v6 v5.1) fun v7=>
  some ((v7,(0:Int)))
theorem aqw (peer0:Arr Int 16)(auth1:Arr Int 16)(name2:List UInt8)(password3:List UInt8):(runK Tryz.prog (aGQ N) 400 30 [(.arr 16 (.int .u8)),(.arr 16 (.int .u8)),.str,.str] [(.arr 24 (.int .u8)),(.int .i64)] (peer0,auth1,name2,password3,())).run=ab2 N peer0 auth1 name2 password3:=by kernel_rfl
noncomputable def aKr:(R:Type)→Env R:=Env.addFn (aGQ N) 30 (fun R=>fnK [(.arr 16 (.int .u8)),(.arr 16 (.int .u8)),.str,.str] [(.arr 24 (.int .u8)),(.int .i64)] (fun c=>ab2 N c.1 c.2.1 c.2.2.1 c.2.2.2.1))
theorem aDJ (R:Type):EnvOK Tryz.prog (aKr N R):=EnvOK.addFn hmx (avg N R) (avg N _) (by kernel_rfl) (fun c=>aqw N c.1 c.2.1 c.2.2.1 c.2.2.2.1)
noncomputable def aGP:(R:Type)→Env R:=Env.addBx (aKr N) [(67,0)]
theorem avf (R:Type):EnvOK Tryz.prog (aGP N R):=EnvOK.addBx (aDJ N R) [(67,0)]
noncomputable def acZ (h0:Arr Int 16)(response1:Arr Int 24)(c2:Arr Int 8):Option (List UInt8):=
 Option.bind (acp N h0) fun v4=>
 Option.bind (adY N ([v4.l,response1.l,([77,97,103,105,99,32,115,101,114,118,101,114,32,116,111,32,99,108,105,101,110,116,32,115,105,103,110,105,110,103,32,99,111,110,115,116,97,110,116]:List Int)]:List ((List Int)))) fun v5=>
 Option.bind (adY N ([v5.l,c2.l,([80,97,100,32,116,111,32,109,97,107,101,32,105,116,32,100,111,32,109,111,114,101,32,116,104,97,110,32,111,110,101,32,105,116,101,114,97,116,105,111,110]:List Int)]:List ((List Int)))) fun v6=>
 Option.bind (ags N v6.l) fun v7=>
 bif (decide (((List.length (Array.toList (List.toArray ([83,61]:List UInt8))))+(List.length v7))≤maxLen)) then
  some (((Array.toList (List.toArray ([83,61]:List UInt8)))++v7))
 else
  none
theorem aoq (h0:Arr Int 16)(response1:Arr Int 24)(c2:Arr Int 8):(runK Tryz.prog (aGP N) 400 67 [(.arr 16 (.int .u8)),(.arr 24 (.int .u8)),(.arr 8 (.int .u8))] [.str] (h0,response1,c2,())).run=acZ N h0 response1 c2:=by kernel_rfl
noncomputable def aGO:(R:Type)→Env R:=Env.addFn (aGP N) 67 (fun R=>fnK [(.arr 16 (.int .u8)),(.arr 24 (.int .u8)),(.arr 8 (.int .u8))] [.str] (fun c=>acZ N c.1 c.2.1 c.2.2.1))
theorem ave (R:Type):EnvOK Tryz.prog (aGO N R):=EnvOK.addFn hmx (avf N R) (avf N _) (by kernel_rfl) (fun c=>aoq N c.1 c.2.1 c.2.2.1)
noncomputable def acB (N:Nat)(answer0:List UInt8)(text1:List UInt8):Option (List Int):=
 bif (decide (((List.length answer0)+(List.length (Array.toList (List.toArray ([32,77,61]:List UInt8)))))≤maxLen)) then
  bif (decide (((List.length (answer0++(Array.toList (List.toArray ([32,77,61]:List UInt8)))))+(List.length text1))≤maxLen)) then
   bif (aac (List.length ((answer0++(Array.toList (List.toArray ([32,77,61]:List UInt8))))++text1)) 1) then
    some ((@ofB ((answer0++(Array.toList (List.toArray ([32,77,61]:List UInt8))))++text1)))
   else
    none
  else
   none
 else
  none
theorem anG (answer0:List UInt8)(text1:List UInt8):(runK Tryz.prog (aGO N) 400 66 [.str,.str] [(.sl (.int .u8))] (answer0,text1,())).run=acB N answer0 text1:=by kernel_rfl
noncomputable def aKq:(R:Type)→Env R:=Env.addFn (aGO N) 66 (fun R=>fnK [.str,.str] [(.sl (.int .u8))] (fun c=>acB N c.1 c.2.1))
theorem aDI (R:Type):EnvOK Tryz.prog (aKq N R):=EnvOK.addFn hmx (ave N R) (ave N _) (by kernel_rfl) (fun c=>anG N c.1 c.2.1)
noncomputable def aKp:(R:Type)→Env R:=Env.addBx (aKq N) [(64,0)]
theorem aDH (R:Type):EnvOK Tryz.prog (aKp N R):=EnvOK.addBx (aDI N R) [(64,0)]
noncomputable def aGN:(R:Type)→Env R:=Env.addFn (aKp N) 100 (fun R=>itK)
theorem avd (R:Type):EnvOK Tryz.prog (aGN N R):=EnvOK.addExt (aDH N R) aLa
noncomputable def afr (f0:Int×(Bool×((Arr Int 16)×(List UInt8)))):Option ((List Int)×Int):=
 Option.bind (bif (decide (f0.1<(0:Int))) then
   some (true)
  else
   some ((cond false true (decide ((9999:Int)<f0.1))))) fun (v2:Bool)=>
 bif v2 then
  some ((([]:List Int),(1:Int)))
 else
  Option.bind (aft N f0.2.2.2) fun v3=>
  bif (!v3) then
   some ((([]:List Int),(3:Int)))
  else
   bif f0.2.1 then
    bif (decide ((-9223372036854775808:Int)≤f0.1∧f0.1≤(9223372036854775807:Int))) then
     bif (decide (((List.length (Array.toList (List.toArray ([69,61]:List UInt8))))+(List.length (@Go.Lib.itoa f0.1)))≤maxLen)) then
      bif (decide (((List.length ((Array.toList (List.toArray ([69,61]:List UInt8)))++(@Go.Lib.itoa f0.1)))+(List.length (Array.toList (List.toArray ([32,82,61]:List UInt8)))))≤maxLen)) then
       bif (decide (((List.length (((Array.toList (List.toArray ([69,61]:List UInt8)))++(@Go.Lib.itoa f0.1))++(Array.toList (List.toArray ([32,82,61]:List UInt8)))))+(List.length (Array.toList (List.toArray ([49]:List UInt8)))))≤maxLen)) then
        bif (decide (((List.length ((((Array.toList (List.toArray ([69,61]:List UInt8)))++(@Go.Lib.itoa f0.1))++(Array.toList (List.toArray ([32,82,61]:List UInt8))))++(Array.toList (List.toArray ([49]:List UInt8)))))+(List.length (Array.toList (List.toArray ([32,67,61]:List UInt8)))))≤maxLen)) then
         Option.bind (ags N f0.2.2.1.l) fun v4=>
         bif (decide (((List.length (((((Array.toList (List.toArray ([69,61]:List UInt8)))++(@Go.Lib.itoa f0.1))++(Array.toList (List.toArray ([32,82,61]:List UInt8))))++(Array.toList (List.toArray ([49]:List UInt8))))++(Array.toList (List.toArray ([32,67,61]:List UInt8)))))+(List.length v4))≤maxLen)) then
          bif (decide (((List.length ((((((Array.toList (List.toArray ([69,61]:List UInt8)))++(@Go.Lib.itoa f0.1))++(Array.toList (List.toArray ([32,82,61]:List UInt8))))++(Array.toList (List.toArray ([49]:List UInt8))))++(Array.toList (List.toArray ([32,67,61]:List UInt8))))++v4))+(List.length (Array.toList (List.toArray ([32,86,61,51,32,77,61]:List UInt8)))))≤maxLen)) then
           bif (decide (((List.length (((((((Array.toList (List.toArray ([69,61]:List UInt8)))++(@Go.Lib.itoa f0.1))++(Array.toList (List.toArray ([32,82,61]:List UInt8))))++(Array.toList (List.toArray ([49]:List UInt8))))++(Array.toList (List.toArray ([32,67,61]:List UInt8))))++v4)++(Array.toList (List.toArray ([32,86,61,51,32,77,61]:List UInt8)))))+(List.length f0.2.2.2))≤maxLen)) then
            bif (aac (List.length ((((((((Array.toList (List.toArray ([69,61]:List UInt8)))++(@Go.Lib.itoa f0.1))++(Array.toList (List.toArray ([32,82,61]:List UInt8))))++(Array.toList (List.toArray ([49]:List UInt8))))++(Array.toList (List.toArray ([32,67,61]:List UInt8))))++v4)++(Array.toList (List.toArray ([32,86,61,51,32,77,61]:List UInt8))))++f0.2.2.2)) 1) then
             some (((@ofB ((((((((Array.toList (List.toArray ([69,61]:List UInt8)))++(@Go.Lib.itoa f0.1))++(Array.toList (List.toArray ([32,82,61]:List UInt8))))++(Array.toList (List.toArray ([49]:List UInt8))))++(Array.toList (List.toArray ([32,67,61]:List UInt8))))++v4)++(Array.toList (List.toArray ([32,86,61,51,32,77,61]:List UInt8))))++f0.2.2.2)),(0:Int)))
            else
             none
           else
            none
          else
           none
         else
          none
        else
         none
       else
        none
      else
       none
     else
      none
    else
     none
   else
    bif (decide ((-9223372036854775808:Int)≤f0.1∧f0.1≤(9223372036854775807:Int))) then
     bif (decide (((List.length (Array.toList (List.toArray ([69,61]:List UInt8))))+(List.length (@Go.Lib.itoa f0.1)))≤maxLen)) then
      bif (decide (((List.length ((Array.toList (List.toArray ([69,61]:List UInt8)))++(@Go.Lib.itoa f0.1)))+(List.length (Array.toList (List.toArray ([32,82,61]:List UInt8)))))≤maxLen)) then
       bif (decide (((List.length (((Array.toList (List.toArray ([69,61]:List UInt8)))++(@Go.Lib.itoa f0.1))++(Array.toList (List.toArray ([32,82,61]:List UInt8)))))+(List.length (Array.toList (List.toArray ([48]:List UInt8)))))≤maxLen)) then
        bif (decide (((List.length ((((Array.toList (List.toArray ([69,61]:List UInt8)))++(@Go.Lib.itoa f0.1))++(Array.toList (List.toArray ([32,82,61]:List UInt8))))++(Array.toList (List.toArray ([48]:List UInt8)))))+(List.length (Array.toList (List.toArray ([32,67,61]:List UInt8)))))≤maxLen)) then
         Option.bind (ags N f0.2.2.1.l) fun v4=>
         bif (decide (((List.length (((((Array.toList (List.toArray ([69,61]:List UInt8)))++(@Go.Lib.itoa f0.1))++(Array.toList (List.toArray ([32,82,61]:List UInt8))))++(Array.toList (List.toArray ([48]:List UInt8))))++(Array.toList (List.toArray ([32,67,61]:List UInt8)))))+(List.length v4))≤maxLen)) then
          bif (decide (((List.length ((((((Array.toList (List.toArray ([69,61]:List UInt8)))++(@Go.Lib.itoa f0.1))++(Array.toList (List.toArray ([32,82,61]:List UInt8))))++(Array.toList (List.toArray ([48]:List UInt8))))++(Array.toList (List.toArray ([32,67,61]:List UInt8))))++v4))+(List.length (Array.toList (List.toArray ([32,86,61,51,32,77,61]:List UInt8)))))≤maxLen)) then
           bif (decide (((List.length (((((((Array.toList (List.toArray ([69,61]:List UInt8)))++(@Go.Lib.itoa f0.1))++(Array.toList (List.toArray ([32,82,61]:List UInt8))))++(Array.toList (List.toArray ([48]:List UInt8))))++(Array.toList (List.toArray ([32,67,61]:List UInt8))))++v4)++(Array.toList (List.toArray ([32,86,61,51,32,77,61]:List UInt8)))))+(List.length f0.2.2.2))≤maxLen)) then
            bif (aac (List.length ((((((((Array.toList (List.toArray ([69,61]:List UInt8)))++(@Go.Lib.itoa f0.1))++(Array.toList (List.toArray ([32,82,61]:List UInt8))))++(Array.toList (List.toArray ([48]:List UInt8))))++(Array.toList (List.toArray ([32,67,61]:List UInt8))))++v4)++(Array.toList (List.toArray ([32,86,61,51,32,77,61]:List UInt8))))++f0.2.2.2)) 1) then
             some (((@ofB ((((((((Array.toList (List.toArray ([69,61]:List UInt8)))++(@Go.Lib.itoa f0.1))++(Array.toList (List.toArray ([32,82,61]:List UInt8))))++(Array.toList (List.toArray ([48]:List UInt8))))++(Array.toList (List.toArray ([32,67,61]:List UInt8))))++v4)++(Array.toList (List.toArray ([32,86,61,51,32,77,61]:List UInt8))))++f0.2.2.2)),(0:Int)))
            else
             none
           else
            none
          else
           none
         else
          none
        else
         none
       else
        none
      else
       none
     else
      none
    else
     none
theorem ar9 (f0:Int×(Bool×((Arr Int 16)×(List UInt8)))):(runK Tryz.prog (aGN N) 400 64 [(.pair (.int .i64) (.pair .bool (.pair (.arr 16 (.int .u8)) .str)))] [(.sl (.int .u8)),(.int .i64)] (f0,())).run=afr N f0:=by kernel_rfl
noncomputable def aKo:(R:Type)→Env R:=Env.addFn (aGN N) 64 (fun R=>fnK [(.pair (.int .i64) (.pair .bool (.pair (.arr 16 (.int .u8)) .str)))] [(.sl (.int .u8)),(.int .i64)] (fun c=>afr N c.1))
theorem aDG (R:Type):EnvOK Tryz.prog (aKo N R):=EnvOK.addFn hmx (avd N R) (avd N _) (by kernel_rfl) (fun c=>ar9 N c.1)
noncomputable def aGM:(R:Type)→Env R:=Env.addBx (aKo N) [(35,0)]
theorem avc (R:Type):EnvOK Tryz.prog (aGM N R):=EnvOK.addBx (aDG N R) [(35,0)]
noncomputable def adb:LI:=⟨30,0,[],⟨[(6,.lit (.box 0 0)),(8,.lit (.box 1 0)),(9,.lit (.box 2 0)),(10,.ty (.int .i64))],[.box 81 (.arr 8 (.int .u8)),.box 111 (.arr 20 (.int .u8)),.box 81 (.arr 8 (.int .u8))]⟩,[(.exit 0,⟨[(6,.lit (.box 0 0)),(9,.lit (.box 1 0))],[.box 81 (.arr 8 (.int .u8)),.box 81 (.arr 8 (.int .u8))]⟩)]⟩
noncomputable def abn (N:Nat)(X:((Int×Unit)×((Arr Int 8)×((Arr Int 20)×((Arr Int 8)×Unit))))→Option ((Unit×((Arr Int 8)×((Arr Int 8)×Unit)))))(i10:Int)(h0:Arr Int 8)(h1:Arr Int 20)(h2:Arr Int 8):Option ((Unit×((Arr Int 8)×((Arr Int 8)×Unit)))):=
 bif (decide (i10<(8:Int))) then
  bif (decide ((0:Int)≤i10∧i10<((20:Nat):Int))) then
   Option.bind (h1.l[Int.toNat i10]?) fun (v6:Int)=>
   bif (decide ((0:Int)≤i10∧i10<((8:Nat):Int))) then
    Option.bind (h2.l[Int.toNat i10]?) fun (v7:Int)=>
    (X (((IntKind.wrap .i64 (i10+1)),()),(h0,(h1,((h2.set (Int.toNat i10) v6),())))))
   else
    none
  else
   none
 else
  some (((),(h0,(h2,()))))
noncomputable def afh (c:((Int×Unit)×((Arr Int 8)×((Arr Int 20)×((Arr Int 8)×Unit))))):Option ((Unit×((Arr Int 8)×((Arr Int 8)×Unit)))):=gl (fun X c=>abn N X c.1.1 c.2.1 c.2.2.1 c.2.2.2.1) N c
theorem ajF (X:((Int×Unit)×((Arr Int 8)×((Arr Int 20)×((Arr Int 8)×Unit))))→Option ((Unit×((Arr Int 8)×((Arr Int 8)×Unit)))))(i10:Int)(h0:Arr Int 8)(h1:Arr Int 20)(h2:Arr Int 8):(aal Tryz.prog (aGM N) 400 [35] adb (aah Tryz.prog [35] 5) X ((i10,()),(h0,h1,h2,()))).run=abn N X i10 h0 h1 h2:=by kernel_rfl
noncomputable def aGL:(R:Type)→Env R:=Env.addLp (aGM N) [35] 0 5 (fun R=>lpK Tryz.prog adb (fun X c=>abn N X c.1.1 c.2.1 c.2.2.1 c.2.2.2.1) N)
theorem avb (R:Type):EnvOK Tryz.prog (aGL N R):=EnvOK.addLp (avc N R) (by kernel_rfl) (aao (li:=adb) hmx (avc N _) (by kernel_rfl) aaa (fun X c=>ajF N X c.1.1 c.2.1 c.2.2.1 c.2.2.2.1) N)
noncomputable def acV (peer0:Arr Int 16)(auth1:Arr Int 16)(name2:List UInt8):Option (Arr Int 8):=
 bif (aac (List.length peer0.l) 1) then
  bif (aac ((List.length peer0.l)+(List.length auth1.l)) 1) then
   Option.bind (ahe N name2) fun v4=>
   bif (aac ((List.length (peer0.l++auth1.l))+(List.length v4)) 1) then
    Option.bind (ajt N ((peer0.l++auth1.l)++(@ofB v4))) fun v5=>
    Option.bind (afh N (((0:Int),()),((@Arr.cons Int 7 0 (@Arr.cons Int 6 0 (@Arr.cons Int 5 0 (@Arr.cons Int 4 0 (@Arr.cons Int 3 0 (@Arr.cons Int 2 0 (@Arr.cons Int 1 0 (@Arr.cons Int 0 0 (@Arr.nil Int))))))))),(v5,((@Arr.cons Int 7 0 (@Arr.cons Int 6 0 (@Arr.cons Int 5 0 (@Arr.cons Int 4 0 (@Arr.cons Int 3 0 (@Arr.cons Int 2 0 (@Arr.cons Int 1 0 (@Arr.cons Int 0 0 (@Arr.nil Int))))))))),()))))) fun v6=>
    some (v6.2.2.1)
   else
    none
  else
   none
 else
  none
theorem alf (peer0:Arr Int 16)(auth1:Arr Int 16)(name2:List UInt8):(runK Tryz.prog (aGL N) 400 35 [(.arr 16 (.int .u8)),(.arr 16 (.int .u8)),.str] [(.arr 8 (.int .u8))] (peer0,auth1,name2,())).run=acV N peer0 auth1 name2:=by kernel_rfl
noncomputable def aKn:(R:Type)→Env R:=Env.addFn (aGL N) 35 (fun R=>fnK [(.arr 16 (.int .u8)),(.arr 16 (.int .u8)),.str] [(.arr 8 (.int .u8))] (fun c=>acV N c.1 c.2.1 c.2.2.1))
theorem aDF (R:Type):EnvOK Tryz.prog (aKn N R):=EnvOK.addFn hmx (avb N R) (avb N _) (by kernel_rfl) (fun c=>alf N c.1 c.2.1 c.2.2.1)
noncomputable def aGK:(R:Type)→Env R:=Env.addBx (aKn N) [(34,0)]
theorem ava (R:Type):EnvOK Tryz.prog (aGK N R):=EnvOK.addBx (aDF N R) [(34,0)]
noncomputable def adu:LI:=⟨42,0,[],⟨[(2,.adr (.arr 8 (.int .u8))),(3,.adr (.arr 16 (.int .u8))),(4,.lit (.box 0 0)),(5,.lit (.box 1 0)),(6,.ty (.int .i64)),(7,.ty (.sl (.int .u8))),(9,.ty (.int .i64))],[.box 41 (.arr 24 (.int .u8)),.box 41 (.arr 24 (.int .u8))]⟩,[(.exit 2,⟨[(2,.adr (.arr 8 (.int .u8))),(3,.adr (.arr 16 (.int .u8))),(4,.lit (.box 0 0)),(5,.lit (.box 1 0)),(6,.ty (.int .i64))],[.box 41 (.arr 24 (.int .u8)),.box 41 (.arr 24 (.int .u8))]⟩)]⟩
noncomputable def abB (N:Nat)(X:(((Arr Int 8)×((Arr Int 16)×(Int×pz5)))×((Arr Int 24)×((Arr Int 24)×Unit)))→Option (pz14))(c2:Arr Int 8)(h3:Arr Int 16)(n6:Int)(b7:List (Int))(i9:Int)(h0:Arr Int 24)(h1:Arr Int 24):Option (pz14):=
 bif (decide (i9<(8:Int))) then
  Option.bind (some ((cond true (decide (i9<(((List.length b7):Nat):Int))) false))) fun (v9:Bool)=>
  bif v9 then
   Option.bind (getI b7 i9) fun (v10:Int)=>
   bif (decide ((0:Int)≤(IntKind.wrap .i64 ((IntKind.wrap .i64 ((8:Int)*n6))+i9))∧(IntKind.wrap .i64 ((IntKind.wrap .i64 ((8:Int)*n6))+i9))<((24:Nat):Int))) then
    Option.bind (h1.l[Int.toNat (IntKind.wrap .i64 ((IntKind.wrap .i64 ((8:Int)*n6))+i9))]?) fun (v11:Int)=>
    (X ((c2,(h3,(n6,(b7,((IntKind.wrap .i64 (i9+1)),()))))),(h0,((h1.set (Int.toNat (IntKind.wrap .i64 ((IntKind.wrap .i64 ((8:Int)*n6))+i9))) v10),()))))
   else
    none
  else
   some (((c2,(h3,(n6,()))),(h0,(h1,()))))
 else
  some (((c2,(h3,(n6,()))),(h0,(h1,()))))
noncomputable def afE (c:(((Arr Int 8)×((Arr Int 16)×(Int×pz5)))×((Arr Int 24)×((Arr Int 24)×Unit)))):Option (pz14):=gl (fun X c=>abB N X c.1.1 c.1.2.1 c.1.2.2.1 c.1.2.2.2.1 c.1.2.2.2.2.1 c.2.1 c.2.2.1) N c
theorem aj3 (X:(((Arr Int 8)×((Arr Int 16)×(Int×pz5)))×((Arr Int 24)×((Arr Int 24)×Unit)))→Option (pz14))(c2:Arr Int 8)(h3:Arr Int 16)(n6:Int)(b7:List (Int))(i9:Int)(h0:Arr Int 24)(h1:Arr Int 24):(aal Tryz.prog (aGK N) 400 [34] adu (aah Tryz.prog [34] 7) X ((c2,h3,n6,b7,i9,()),(h0,h1,()))).run=abB N X c2 h3 n6 b7 i9 h0 h1:=by kernel_rfl
noncomputable def aGJ:(R:Type)→Env R:=Env.addLp (aGK N) [34] 0 7 (fun R=>lpK Tryz.prog adu (fun X c=>abB N X c.1.1 c.1.2.1 c.1.2.2.1 c.1.2.2.2.1 c.1.2.2.2.2.1 c.2.1 c.2.2.1) N)
theorem au9 (R:Type):EnvOK Tryz.prog (aGJ N R):=EnvOK.addLp (ava N R) (by kernel_rfl) (aao (li:=adu) hmx (ava N _) (by kernel_rfl) aaa (fun X c=>aj3 N X c.1.1 c.1.2.1 c.1.2.2.1 c.1.2.2.2.1 c.1.2.2.2.2.1 c.2.1 c.2.2.1) N)
noncomputable def adv:LI:=⟨42,0,[],⟨[(2,.adr (.arr 8 (.int .u8))),(3,.adr (.arr 16 (.int .u8))),(4,.lit (.box 0 0)),(5,.lit (.box 1 0)),(6,.ty (.int .i64))],[.box 41 (.arr 24 (.int .u8)),.box 41 (.arr 24 (.int .u8))]⟩,[(.exit 0,⟨[(4,.lit (.box 0 0)),(5,.lit (.box 1 0))],[.box 41 (.arr 24 (.int .u8)),.box 41 (.arr 24 (.int .u8))]⟩)]⟩
noncomputable def aaY (X:pz14→Option ((Unit×((Arr Int 24)×((Arr Int 24)×Unit)))))(c2:Arr Int 8)(h3:Arr Int 16)(n6:Int)(h0:Arr Int 24)(h1:Arr Int 24):Option ((Unit×((Arr Int 24)×((Arr Int 24)×Unit)))):=
 bif (decide (n6<(3:Int))) then
  Option.bind (abH N h3 n6) fun v7=>
  Option.bind (afM N v7 c2.l) fun v8=>
  Option.bind (afE N ((c2,(h3,(n6,(v8.1,((0:Int),()))))),(h0,(h1,())))) fun v9=>
  (X ((v9.1.1,(v9.1.2.1,((IntKind.wrap .i64 (v9.1.2.2.1+1)),()))),(v9.2.1,(v9.2.2.1,()))))
 else
  some (((),(h0,(h1,()))))
noncomputable def afF (c:pz14):Option ((Unit×((Arr Int 24)×((Arr Int 24)×Unit)))):=gl (fun X c=>aaY N X c.1.1 c.1.2.1 c.1.2.2.1 c.2.1 c.2.2.1) N c
theorem aj4 (X:pz14→Option ((Unit×((Arr Int 24)×((Arr Int 24)×Unit)))))(c2:Arr Int 8)(h3:Arr Int 16)(n6:Int)(h0:Arr Int 24)(h1:Arr Int 24):(aal Tryz.prog (aGJ N) 400 [34] adv (aah Tryz.prog [34] 3) X ((c2,h3,n6,()),(h0,h1,()))).run=aaY N X c2 h3 n6 h0 h1:=by kernel_rfl
noncomputable def aGI:(R:Type)→Env R:=Env.addLp (aGJ N) [34] 0 3 (fun R=>lpK Tryz.prog adv (fun X c=>aaY N X c.1.1 c.1.2.1 c.1.2.2.1 c.2.1 c.2.2.1) N)
theorem au8 (R:Type):EnvOK Tryz.prog (aGI N R):=EnvOK.addLp (au9 N R) (by kernel_rfl) (aao (li:=adv) hmx (au9 N _) (by kernel_rfl) aaa (fun X c=>aj4 N X c.1.1 c.1.2.1 c.1.2.2.1 c.2.1 c.2.2.1) N)
noncomputable def adh (c0:Arr Int 8)(h1:Arr Int 16):Option (Arr Int 24):=
 Option.bind (afF N ((c0,(h1,((0:Int),()))),(zc24,(zc24,())))) fun v3=>
 some (v3.2.2.1)
theorem al2 (c0:Arr Int 8)(h1:Arr Int 16):(runK Tryz.prog (aGI N) 400 34 [(.arr 8 (.int .u8)),(.arr 16 (.int .u8))] [(.arr 24 (.int .u8))] (c0,h1,())).run=adh N c0 h1:=by kernel_rfl
noncomputable def aKm:(R:Type)→Env R:=Env.addFn (aGI N) 34 (fun R=>fnK [(.arr 8 (.int .u8)),(.arr 16 (.int .u8))] [(.arr 24 (.int .u8))] (fun c=>adh N c.1 c.2.1))
theorem aDE (R:Type):EnvOK Tryz.prog (aKm N R):=EnvOK.addFn hmx (au8 N R) (au8 N _) (by kernel_rfl) (fun c=>al2 N c.1 c.2.1)
noncomputable def aGH:(R:Type)→Env R:=Env.addBx (aKm N) [(10,0)]
theorem au7 (R:Type):EnvOK Tryz.prog (aGH N R):=EnvOK.addBx (aDE N R) [(10,0)]
noncomputable def abG (peer0:Arr Int 16)(auth1:Arr Int 16)(name2:List UInt8)(password3:List UInt8):Option ((Arr Int 24)×Int):=
 Option.bind (akt N password3) fun v5=>
 bif (!(decide (v5.2=(0:Int)))) then
  some ((zc24,v5.2))
 else
  Option.bind (acV N peer0 auth1 name2) fun v6=>
  Option.bind (adh N v6 v5.1) fun v7=>
  some ((v7,(0:Int)))
theorem apA (peer0:Arr Int 16)(auth1:Arr Int 16)(name2:List UInt8)(password3:List UInt8):(runK Tryz.prog (aGH N) 400 10 [(.arr 16 (.int .u8)),(.arr 16 (.int .u8)),.str,.str] [(.arr 24 (.int .u8)),(.int .i64)] (peer0,auth1,name2,password3,())).run=abG N peer0 auth1 name2 password3:=by kernel_rfl
noncomputable def aKl:(R:Type)→Env R:=Env.addFn (aGH N) 10 (fun R=>fnK [(.arr 16 (.int .u8)),(.arr 16 (.int .u8)),.str,.str] [(.arr 24 (.int .u8)),(.int .i64)] (fun c=>abG N c.1 c.2.1 c.2.2.1 c.2.2.2.1))
theorem aDD (R:Type):EnvOK Tryz.prog (aKl N R):=EnvOK.addFn hmx (au7 N R) (au7 N _) (by kernel_rfl) (fun c=>apA N c.1 c.2.1 c.2.2.1 c.2.2.2.1)
noncomputable def aGG:(R:Type)→Env R:=Env.addBx (aKl N) [(12,0)]
theorem au6 (R:Type):EnvOK Tryz.prog (aGG N R):=EnvOK.addBx (aDD N R) [(12,0)]
noncomputable def afD (N:Nat)(peer0:Arr Int 16)(response1:Arr Int 24):Option (List Int):=
 bif (aac (List.length peer0.l) 1) then
  bif (aac ((List.length peer0.l)+(Int.toNat (8:Int))) 1) then
   bif (aac ((List.length (peer0.l++(@List.replicate Int (Int.toNat (8:Int)) (0:Int))))+(List.length response1.l)) 1) then
    bif (aac ((List.length ((peer0.l++(@List.replicate Int (Int.toNat (8:Int)) (0:Int)))++response1.l))+(List.length ([0]:List Int))) 1) then
     some ((((peer0.l++(@List.replicate Int (Int.toNat (8:Int)) (0:Int)))++response1.l)++([0]:List Int)))
    else
     none
   else
    none
  else
   none
 else
  none
theorem apz (peer0:Arr Int 16)(response1:Arr Int 24):(runK Tryz.prog (aGG N) 400 12 [(.arr 16 (.int .u8)),(.arr 24 (.int .u8))] [(.sl (.int .u8))] (peer0,response1,())).run=afD N peer0 response1:=by kernel_rfl
noncomputable def aKk:(R:Type)→Env R:=Env.addFn (aGG N) 12 (fun R=>fnK [(.arr 16 (.int .u8)),(.arr 24 (.int .u8))] [(.sl (.int .u8))] (fun c=>afD N c.1 c.2.1))
theorem aDC (R:Type):EnvOK Tryz.prog (aKk N R):=EnvOK.addFn hmx (au6 N R) (au6 N _) (by kernel_rfl) (fun c=>apz N c.1 c.2.1)
noncomputable def aKj:(R:Type)→Env R:=Env.addBx (aKk N) [(141,0)]
theorem aDB (R:Type):EnvOK Tryz.prog (aKj N R):=EnvOK.addBx (aDC N R) [(141,0)]
noncomputable def aGF:(R:Type)→Env R:=Env.addFn (aKj N) 173 (fun R=>repK)
theorem au5 (R:Type):EnvOK Tryz.prog (aGF N R):=EnvOK.addExt (aDB N R) aI9
noncomputable def agt (master0:Arr Int 16)(sentence1:List UInt8):Option (Arr Int 16):=
 bif (aac (List.length sentence1) 1) then
  Option.bind (adY N ([master0.l,(@List.replicate Int (Int.toNat (40:Int)) (0:Int)),(@ofB sentence1),(@List.replicate Int (40:Nat) (242:Int))]:List ((List Int)))) fun v3=>
  Option.bind (abV v3.l (16:Int)) fun (v4:(List Int))=>
  Option.bind (@ac1 Int (16:Nat) v4) fun (v5:(Arr Int 16))=>
  some (v5)
 else
  none
theorem axH (master0:Arr Int 16)(sentence1:List UInt8):(runK Tryz.prog (aGF N) 400 141 [(.arr 16 (.int .u8)),.str] [(.arr 16 (.int .u8))] (master0,sentence1,())).run=agt N master0 sentence1:=by kernel_rfl
noncomputable def aKi:(R:Type)→Env R:=Env.addFn (aGF N) 141 (fun R=>fnK [(.arr 16 (.int .u8)),.str] [(.arr 16 (.int .u8))] (fun c=>agt N c.1 c.2.1))
theorem aDA (R:Type):EnvOK Tryz.prog (aKi N R):=EnvOK.addFn hmx (au5 N R) (au5 N _) (by kernel_rfl) (fun c=>axH N c.1 c.2.1)
noncomputable def aGE:(R:Type)→Env R:=Env.addBx (aKi N) [(103,0)]
theorem au4 (R:Type):EnvOK Tryz.prog (aGE N R):=EnvOK.addBx (aDA N R) [(103,0)]
noncomputable def alr (master0:Arr Int 16)(server1:Bool):Option ((Arr Int 16)×(Arr Int 16)):=
 Option.bind (agt N master0 (Array.toList (List.toArray (@List.append UInt8 ([79,110,32,116,104,101,32,99,108,105,101,110,116,32,115,105,100,101,44,32,116,104,105,115,32,105,115,32,116,104,101,32,115,101,110,100,32,107,101,121,59,32]:List UInt8) ([111,110,32,116,104,101,32,115,101,114,118,101,114,32,115,105,100,101,44,32,105,116,32,105,115,32,116,104,101,32,114,101,99,101,105,118,101,32,107,101,121,46]:List UInt8))))) fun v3=>
 Option.bind (agt N master0 (Array.toList (List.toArray (@List.append UInt8 ([79,110,32,116,104,101,32,99,108,105,101,110,116,32,115,105,100,101,44,32,116,104,105,115,32,105,115,32,116,104,101,32,114,101,99,101,105,118,101,32,107,101]:List UInt8) ([121,59,32,111,110,32,116,104,101,32,115,101,114,118,101,114,32,115,105,100,101,44,32,105,116,32,105,115,32,116,104,101,32,115,101,110,100,32,107,101,121,46]:List UInt8))))) fun v4=>
 bif server1 then
  some ((v4,v3))
 else
  some ((v3,v4))
theorem azn (master0:Arr Int 16)(server1:Bool):(runK Tryz.prog (aGE N) 400 103 [(.arr 16 (.int .u8)),.bool] [qz2] (master0,server1,())).run=alr N master0 server1:=by kernel_rfl
noncomputable def aKh:(R:Type)→Env R:=Env.addFn (aGE N) 103 (fun R=>fnK [(.arr 16 (.int .u8)),.bool] [qz2] (fun c=>alr N c.1 c.2.1))
theorem aDz (R:Type):EnvOK Tryz.prog (aKh N R):=EnvOK.addFn hmx (au4 N R) (au4 N _) (by kernel_rfl) (fun c=>azn N c.1 c.2.1)
noncomputable def aGD:(R:Type)→Env R:=Env.addBx (aKh N) [(102,0)]
theorem au3 (R:Type):EnvOK Tryz.prog (aGD N R):=EnvOK.addBx (aDz N R) [(102,0)]
noncomputable def ahr (k0:(Arr Int 16)×(Arr Int 16))(server1:Bool):Option (Arr Int 32):=
 bif server1 then
  Option.bind (adi N ([k0.2.l,k0.1.l]:List ((List Int)))) fun v3=>
  Option.bind (@ac1 Int (32:Nat) v3) fun (v4:(Arr Int 32))=>
  some (v4)
 else
  Option.bind (adi N ([k0.1.l,k0.2.l]:List ((List Int)))) fun v3=>
  Option.bind (@ac1 Int (32:Nat) v3) fun (v4:(Arr Int 32))=>
  some (v4)
theorem arH (k0:(Arr Int 16)×(Arr Int 16))(server1:Bool):(runK Tryz.prog (aGD N) 400 102 [qz2,.bool] [(.arr 32 (.int .u8))] (k0,server1,())).run=ahr N k0 server1:=by kernel_rfl
noncomputable def aKg:(R:Type)→Env R:=Env.addFn (aGD N) 102 (fun R=>fnK [qz2,.bool] [(.arr 32 (.int .u8))] (fun c=>ahr N c.1 c.2.1))
theorem aDy (R:Type):EnvOK Tryz.prog (aKg N R):=EnvOK.addFn hmx (au3 N R) (au3 N _) (by kernel_rfl) (fun c=>arH N c.1 c.2.1)
noncomputable def aGC:(R:Type)→Env R:=Env.addBx (aKg N) [(65,0)]
theorem au2 (R:Type):EnvOK Tryz.prog (aGC N R):=EnvOK.addBx (aDy N R) [(65,0)]
noncomputable def aeN (h0:Arr Int 16)(response1:Arr Int 24)(server2:Bool):Option (Arr Int 32):=
 Option.bind (aez N h0 response1) fun v4=>
 Option.bind (alr N v4 server2) fun v5=>
 Option.bind (ahr N v5 server2) fun v6=>
 some (v6)
theorem as2 (h0:Arr Int 16)(response1:Arr Int 24)(server2:Bool):(runK Tryz.prog (aGC N) 400 65 [(.arr 16 (.int .u8)),(.arr 24 (.int .u8)),.bool] [(.arr 32 (.int .u8))] (h0,response1,server2,())).run=aeN N h0 response1 server2:=by kernel_rfl
noncomputable def aKf:(R:Type)→Env R:=Env.addFn (aGC N) 65 (fun R=>fnK [(.arr 16 (.int .u8)),(.arr 24 (.int .u8)),.bool] [(.arr 32 (.int .u8))] (fun c=>aeN N c.1 c.2.1 c.2.2.1))
theorem aDx (R:Type):EnvOK Tryz.prog (aKf N R):=EnvOK.addFn hmx (au2 N R) (au2 N _) (by kernel_rfl) (fun c=>as2 N c.1 c.2.1 c.2.2.1)
noncomputable def aGB:(R:Type)→Env R:=Env.addBx (aKf N) [(23,0)]
theorem au1 (R:Type):EnvOK Tryz.prog (aGB N R):=EnvOK.addBx (aDx N R) [(23,0)]
noncomputable def agh (N:Nat)(a0:List (Int))(b1:List (Int)):Option Bool:=
 Option.bind (@toBy a0) fun (v3:(List UInt8))=>
 Option.bind (@toBy b1) fun (v4:(List UInt8))=>
 some ((decide (v3=v4)))
theorem aqy (a0:List (Int))(b1:List (Int)):(runK Tryz.prog (aGB N) 400 47 [(.sl (.int .u8)),(.sl (.int .u8))] [.bool] (a0,b1,())).run=agh N a0 b1:=by kernel_rfl
noncomputable def aGA:(R:Type)→Env R:=Env.addFn (aGB N) 47 (fun R=>fnK [(.sl (.int .u8)),(.sl (.int .u8))] [.bool] (fun c=>agh N c.1 c.2.1))
theorem au0 (R:Type):EnvOK Tryz.prog (aGA N R):=EnvOK.addFn hmx (au1 N R) (au1 N _) (by kernel_rfl) (fun c=>aqy N c.1 c.2.1)
noncomputable def aif (a0:Int×(Int×(List Int)))(b1:Int×(Int×(List Int))):Option Bool:=
 Option.bind (bif (decide (a0.1=b1.1)) then
   some ((cond true (decide (a0.2.1=b1.2.1)) false))
  else
   some (false)) fun (v3:Bool)=>
 bif v3 then
  Option.bind (agh N a0.2.2 b1.2.2) fun v4=>
  some ((cond true v4 false))
 else
  some (false)
theorem ax1 (a0:Int×(Int×(List Int)))(b1:Int×(Int×(List Int))):(runK Tryz.prog (aGA N) 400 23 [qz1,qz1] [.bool] (a0,b1,())).run=aif N a0 b1:=by kernel_rfl
noncomputable def aGz:(R:Type)→Env R:=Env.addFn (aGA N) 23 (fun R=>fnK [qz1,qz1] [.bool] (fun c=>aif N c.1 c.2.1))
theorem auZ (R:Type):EnvOK Tryz.prog (aGz N R):=EnvOK.addFn hmx (au0 N R) (au0 N _) (by kernel_rfl) (fun c=>ax1 N c.1 c.2.1)
noncomputable def aeV (code0:Int)(id1:Int)(value2:List (Int))(name3:List UInt8):Option pz10:=
 Option.bind (abV value2 (@minI (((List.length value2):Nat):Int) (255:Int))) fun (v5:(List Int))=>
 bif (aac (List.length name3) 1) then
  Option.bind (adi N ([([(IntKind.wrap .u8 (((List.length v5):Nat):Int))]:List (Int)),v5,(@ofB name3)]:List ((List Int)))) fun v6=>
  some ((code0,(id1,v6)))
 else
  none
theorem aty (code0:Int)(id1:Int)(value2:List (Int))(name3:List UInt8):(runK Tryz.prog (aGz N) 400 24 [(.int .u8),(.int .u8),(.sl (.int .u8)),.str] [qz1] (code0,id1,value2,name3,())).run=aeV N code0 id1 value2 name3:=by kernel_rfl
noncomputable def aKe:(R:Type)→Env R:=Env.addFn (aGz N) 24 (fun R=>fnK [(.int .u8),(.int .u8),(.sl (.int .u8)),.str] [qz1] (fun c=>aeV N c.1 c.2.1 c.2.2.1 c.2.2.2.1))
theorem aDw (R:Type):EnvOK Tryz.prog (aKe N R):=EnvOK.addFn hmx (auZ N R) (auZ N _) (by kernel_rfl) (fun c=>aty N c.1 c.2.1 c.2.2.1 c.2.2.2.1)
noncomputable def aBN:(R:Type)→Env R:=Env.addBx (aKe N) [(61,0)]
theorem auY (R:Type):EnvOK Tryz.prog (aBN N R):=EnvOK.addBx (aDw N R) [(61,0)]
noncomputable def abW (N:Nat)(s0:List (Int)):Option (List Int):=
 bif (@List.isEmpty Int s0) then
  none
 else
  bif (aac (List.length s0) 1) then
   some (s0)
  else
   none
theorem afx (s0:List (Int)):(runK Tryz.prog (aBN N) 400 96 [(.sl (.int .u8))] [(.sl (.int .u8))] (s0,())).run=abW N s0:=by kernel_rfl
theorem agz (c:Nat):(runV Tryz.prog (aBN N) 400 96 [.c (.slice none 0 c)] [(.sl (.int .u8))]).run=some []:=by kernel_rfl
theorem agy (A:Addr)(c:Nat):(runV Tryz.prog (aBN N) 400 96 [.c (.slice (some A) 0 c)] [(.sl (.int .u8))]).run=some []:=by kernel_rfl
noncomputable def abK (s0:List (Int)):Option (List Int):=bif s0.isEmpty then some [] else abW N s0
noncomputable def aGy:(R:Type)→Env R:=Env.addFn (aBN N) 96 (fun R=>fnK [(.sl (.int .u8))] [(.sl (.int .u8))] (fun c=>abK N c.1))
theorem auX (R:Type):EnvOK Tryz.prog (aGy N R):=EnvOK.addNil hmx (auY N R) (auY N _) (by kernel_rfl) (fun c=>afx N c.1) (agz N) (agy N)
noncomputable def adz (c0:Int×(Int×(List Int))):Option ((List Int)×List UInt8×Int):=
 bif (decide ((((List.length c0.2.2):Nat):Int)=(0:Int))) then
  some ((([]:List Int),((Array.toList (List.toArray ([]:List UInt8))),(4:Int))))
 else
  Option.bind (getI c0.2.2 (0:Int)) fun (v2:Int)=>
  bif (cond false true (decide ((IntKind.wrap .i64 ((((List.length c0.2.2):Nat):Int)-1))<(IntKind.wrap .i64 v2)))) then
   some ((([]:List Int),((Array.toList (List.toArray ([]:List UInt8))),(4:Int))))
  else
   Option.bind (getI c0.2.2 (0:Int)) fun (v3:Int)=>
   Option.bind (subI c0.2.2 (1:Int) (IntKind.wrap .i64 ((1:Int)+(IntKind.wrap .i64 v3)))) fun (v4:(List Int))=>
   Option.bind (abK N v4) fun v5=>
   Option.bind (abe c0.2.2 (IntKind.wrap .i64 ((1:Int)+(IntKind.wrap .i64 v3)))) fun (v6:(List Int))=>
   Option.bind (@toBy v6) fun (v7:(List UInt8))=>
   some ((v5,(v7,(0:Int))))
theorem aqu (c0:Int×(Int×(List Int))):(runK Tryz.prog (aGy N) 400 61 [qz1] [(.sl (.int .u8)),.str,(.int .i64)] (c0,())).run=adz N c0:=by kernel_rfl
noncomputable def aGx:(R:Type)→Env R:=Env.addFn (aGy N) 61 (fun R=>fnK [qz1] [(.sl (.int .u8)),.str,(.int .i64)] (fun c=>adz N c.1))
theorem auW (R:Type):EnvOK Tryz.prog (aGx N R):=EnvOK.addFn hmx (auX N R) (auX N _) (by kernel_rfl) (fun c=>aqu N c.1)
noncomputable def aaP:LI:=⟨21,2,[],⟨[(1,.lit (.clo 139 [.box 1 0])),(4,.lit (.box 2 0)),(9,.ty (.sl (.pair .str .str))),(10,.ty (.int .i64)),(11,.ty (.int .i64))],[.box 73 (.pair .str .str),.box 9 .str,.box 73 (.pair .str .str)]⟩,[(.ret,⟨[(4,.lit (.box 2 0)),(5,.ty .bool)],[.box 73 (.pair .str .str),.box 9 .str,.box 73 (.pair .str .str)]⟩),(.exit 0,⟨[(4,.lit (.box 2 0))],[.box 73 (.pair .str .str),.box 9 .str,.box 73 (.pair .str .str)]⟩)]⟩
noncomputable def aak (X:(pz29×(pz2×pz27))→Option ((((Bool×Unit)×(pz2×pz27)) ⊕ (Unit×(pz2×pz27)))))(x9:List pz2)(x10:Int)(x11:Int)(h0:List UInt8×(List UInt8))(h1:List UInt8)(h2:List UInt8×(List UInt8)):Option ((((Bool×Unit)×(pz2×pz27)) ⊕ (Unit×(pz2×pz27)))):=
 bif (decide (x11<x10)) then
  Option.bind (getI x9 x11) fun (v8:pz2)=>
  Option.bind (aee N v8.1) fun v9=>
  bif (decide (v9=h1)) then
   some ((.inl ((true,()),(h0,(h1,(v8,()))))))
  else
   (X ((x9,(x10,((IntKind.wrap .i64 (x11+1)),()))),(h0,(h1,(h2,())))))
 else
  some ((.inr ((),(h0,(h1,(h2,()))))))
noncomputable def abi (c:(pz29×(pz2×pz27))):Option ((((Bool×Unit)×(pz2×pz27)) ⊕ (Unit×(pz2×pz27)))):=gl (fun X c=>aak N X c.1.1 c.1.2.1 c.1.2.2.1 c.2.1 c.2.2.1 c.2.2.2.1) N c
theorem acS (X:(pz29×(pz2×pz27))→Option ((((Bool×Unit)×(pz2×pz27)) ⊕ (Unit×(pz2×pz27)))))(x9:List pz2)(x10:Int)(x11:Int)(h0:List UInt8×(List UInt8))(h1:List UInt8)(h2:List UInt8×(List UInt8)):(aal Tryz.prog (aGx N) 400 [138,2,98] aaP (aah Tryz.prog [138,2,98] 2) X ((x9,x10,x11,()),(h0,h1,h2,()))).run=aak N X x9 x10 x11 h0 h1 h2:=by kernel_rfl
noncomputable def aGw:(R:Type)→Env R:=Env.addLp (aGx N) [138,2,98] 2 2 (fun R=>lpK Tryz.prog aaP (fun X c=>aak N X c.1.1 c.1.2.1 c.1.2.2.1 c.2.1 c.2.2.1 c.2.2.2.1) N)
theorem auV (R:Type):EnvOK Tryz.prog (aGw N R):=EnvOK.addLp (auW N R) (by kernel_rfl) (aao (li:=aaP) hmx (auW N _) (by kernel_rfl) aaa (fun X c=>acS N X c.1.1 c.1.2.1 c.1.2.2.1 c.2.1 c.2.2.1 c.2.2.2.1) N)
noncomputable def afq (users0:List pz2)(name1:List UInt8):Option (pz2×Bool):=
 Option.bind (aee N name1) fun v3=>
 Option.bind (abi N ((users0,((((List.length users0):Nat):Int),((0:Int),()))),(((Array.toList (List.toArray ([]:List UInt8))),(Array.toList (List.toArray ([]:List UInt8)))),(v3,(((Array.toList (List.toArray ([]:List UInt8))),(Array.toList (List.toArray ([]:List UInt8)))),()))))) fun v4=>
 Sum.elim
  (fun (v5:((Bool×Unit)×(pz2×pz27)))=>
  some ((v5.2.2.2.1,v5.1.1)))
  (fun (v5:(Unit×(pz2×pz27)))=>
  some ((((Array.toList (List.toArray ([]:List UInt8))),(Array.toList (List.toArray ([]:List UInt8)))),false))) v4
theorem ar8 (users0:List pz2)(name1:List UInt8):(runK Tryz.prog (aGw N) 400 98 [(.sl (.pair .str .str)),.str] [(.pair .str .str),.bool] (users0,name1,())).run=afq N users0 name1:=by kernel_rfl
noncomputable def aKd:(R:Type)→Env R:=Env.addFn (aGw N) 98 (fun R=>fnK [(.sl (.pair .str .str)),.str] [(.pair .str .str),.bool] (fun c=>afq N c.1 c.2.1))
theorem aDv (R:Type):EnvOK Tryz.prog (aKd N R):=EnvOK.addFn hmx (auV N R) (auV N _) (by kernel_rfl) (fun c=>ar8 N c.1 c.2.1)
noncomputable def aGv:(R:Type)→Env R:=Env.addMv (aKd N) [(8,1)]
theorem auU (R:Type):EnvOK Tryz.prog (aGv N R):=EnvOK.addMv (aDv N R) [(8,1)]
noncomputable def ajd (N:Nat)(name0:List UInt8)(users1:List pz2):Option (List UInt8×pz0):=
 bif (@List.isEmpty pz2 users1) then
  none
 else
  bif (aac ((List.length ([]:List (pz2)))+(List.length users1)) 32) then
   some ((name0,((([]:List (pz2))++users1),((0:Int),((0:Int),(zc16,((0:Int),((0:Int),(([]:List Int),((0:Int),((Array.toList (List.toArray ([]:List UInt8))),zc32)))))))))))
  else
   none
theorem atx (name0:List UInt8)(users1:List pz2):(runK Tryz.prog (aGv N) 400 8 [.str,(.sl (.pair .str .str))] [qz0] (name0,users1,())).run=ajd N name0 users1:=by kernel_rfl
noncomputable def aGu:(R:Type)→Env R:=Env.addFn (aGv N) 8 (fun R=>fnK [.str,(.sl (.pair .str .str))] [qz0] (fun c=>ajd N c.1 c.2.1))
theorem auT (R:Type):EnvOK Tryz.prog (aGu N R):=EnvOK.addFn hmx (auU N R) (auU N _) (by kernel_rfl) (fun c=>atx N c.1 c.2.1)
noncomputable def acY (x0:List UInt8×pz0):Option ((List UInt8×pz0)×List pz10):=
 Option.bind (aeV N (1:Int) x0.2.2.2.1 x0.2.2.2.2.1.l x0.1) fun v2=>
 some (((x0.1,(x0.2.1,(x0.2.2.1,(x0.2.2.2.1,(x0.2.2.2.2.1,((IntKind.wrap .i64 (x0.2.2.2.2.2.1+1)),((3:Int),x0.2.2.2.2.2.2.2))))))),([v2]:List (pz10))))
theorem alD (x0:List UInt8×pz0):(runK Tryz.prog (aGu N) 400 36 [qz0] [qz0,(.sl qz1)] (x0,())).run=acY N x0:=by kernel_rfl
noncomputable def aKc:(R:Type)→Env R:=Env.addFn (aGu N) 36 (fun R=>fnK [qz0] [qz0,(.sl qz1)] (fun c=>acY N c.1))
theorem aDu (R:Type):EnvOK Tryz.prog (aKc N R):=EnvOK.addFn hmx (auT N R) (auT N _) (by kernel_rfl) (fun c=>alD N c.1)
noncomputable def aBL:(R:Type)→Env R:=Env.addBx (aKc N) [(39,0)]
theorem auS (R:Type):EnvOK Tryz.prog (aBL N R):=EnvOK.addBx (aDu N R) [(39,0)]
noncomputable def agZ (N:Nat)(b0:List (Int)):Option (List Int):=
 bif (@List.isEmpty Int b0) then
  none
 else
  bif (aac (List.length b0) 1) then
   some (b0)
  else
   none
theorem ame (b0:List (Int)):(runK Tryz.prog (aBL N) 400 68 [(.sl (.int .u8))] [(.sl (.int .u8))] (b0,())).run=agZ N b0:=by kernel_rfl
theorem aos (c:Nat):(runV Tryz.prog (aBL N) 400 68 [.c (.slice none 0 c)] [(.sl (.int .u8))]).run=some []:=by kernel_rfl
theorem aor (A:Addr)(c:Nat):(runV Tryz.prog (aBL N) 400 68 [.c (.slice (some A) 0 c)] [(.sl (.int .u8))]).run=some []:=by kernel_rfl
noncomputable def aih (b0:List (Int)):Option (List Int):=bif b0.isEmpty then some [] else agZ N b0
noncomputable def aGt:(R:Type)→Env R:=Env.addFn (aBL N) 68 (fun R=>fnK [(.sl (.int .u8))] [(.sl (.int .u8))] (fun c=>aih N c.1))
theorem auR (R:Type):EnvOK Tryz.prog (aGt N R):=EnvOK.addNil hmx (auS N R) (auS N _) (by kernel_rfl) (fun c=>ame N c.1) (aos N) (aor N)
noncomputable def aaS (x0:List UInt8×pz0):Option (List pz10):=
 bif (decide (x0.2.2.2.2.2.2.2.2.1=(0:Int))) then
  some (([]:List (pz10)))
 else
  Option.bind (aih N x0.2.2.2.2.2.2.2.1) fun v2=>
  some (([(x0.2.2.2.2.2.2.2.2.1,(x0.2.2.2.1,v2))]:List (pz10)))
theorem ak0 (x0:List UInt8×pz0):(runK Tryz.prog (aGt N) 400 39 [qz0] [(.sl qz1)] (x0,())).run=aaS N x0:=by kernel_rfl
noncomputable def aKb:(R:Type)→Env R:=Env.addFn (aGt N) 39 (fun R=>fnK [qz0] [(.sl qz1)] (fun c=>aaS N c.1))
theorem aDt (R:Type):EnvOK Tryz.prog (aKb N R):=EnvOK.addFn hmx (auR N R) (auR N _) (by kernel_rfl) (fun c=>ak0 N c.1)
noncomputable def aGs:(R:Type)→Env R:=Env.addBx (aKb N) [(63,0)]
theorem auQ (R:Type):EnvOK Tryz.prog (aGs N R):=EnvOK.addBx (aDt N R) [(63,0)]
noncomputable def aa1 (x0:List UInt8×pz0)(peer1:Arr Int 16)(response2:Arr Int 24)(name3:List UInt8):Option ((Arr Int 16)×Bool):=
 Option.bind (afq N x0.2.1 name3) fun v5=>
 bif (!v5.2) then
  some ((zc16,false))
 else
  Option.bind (adj N v5.1.2) fun v6=>
  bif (!(decide (v6.2=(0:Int)))) then
   some ((zc16,false))
  else
   Option.bind (aaR N peer1 x0.2.2.2.2.1 name3) fun v7=>
   Option.bind (abA N v7 v6.1) fun v8=>
   Option.bind (afV N v8.l response2.l) fun v9=>
   bif (!v9) then
    some ((zc16,false))
   else
    some ((v6.1,true))
theorem akg (x0:List UInt8×pz0)(peer1:Arr Int 16)(response2:Arr Int 24)(name3:List UInt8):(runK Tryz.prog (aGs N) 400 63 [qz0,(.arr 16 (.int .u8)),(.arr 24 (.int .u8)),.str] [(.arr 16 (.int .u8)),.bool] (x0,peer1,response2,name3,())).run=aa1 N x0 peer1 response2 name3:=by kernel_rfl
noncomputable def aGr:(R:Type)→Env R:=Env.addFn (aGs N) 63 (fun R=>fnK [qz0,(.arr 16 (.int .u8)),(.arr 24 (.int .u8)),.str] [(.arr 16 (.int .u8)),.bool] (fun c=>aa1 N c.1 c.2.1 c.2.2.1 c.2.2.2.1))
theorem auP (R:Type):EnvOK Tryz.prog (aGr N R):=EnvOK.addFn hmx (auQ N R) (auQ N _) (by kernel_rfl) (fun c=>akg N c.1 c.2.1 c.2.2.1 c.2.2.2.1)
noncomputable def aaO (x0:List UInt8×pz0)(c1:Int×(Int×(List Int))):Option ((List UInt8×pz0)×List pz10):=
 Option.bind (adz N c1) fun v3=>
 bif (!(decide (v3.2.2=(0:Int)))) then
  some ((x0,([]:List (pz10))))
 else
  Option.bind (adB N v3.1) fun v4=>
  bif (!(decide (v4.2.2=(0:Int)))) then
   some ((x0,([]:List (pz10))))
  else
   Option.bind (aa1 N x0 v4.1 v4.2.1 v3.2.1) fun v5=>
   bif (!v5.2) then
    Option.bind (afr N ((691:Int),(false,(x0.2.2.2.2.1,(Array.toList (List.toArray ([78,111]:List UInt8))))))) fun v6=>
    Option.bind (aaS N (x0.1,(x0.2.1,((3:Int),(x0.2.2.2.1,(x0.2.2.2.2.1,(x0.2.2.2.2.2.1,(x0.2.2.2.2.2.2.1,(v6.1,((4:Int),x0.2.2.2.2.2.2.2.2.2)))))))))) fun v7=>
    some (((x0.1,(x0.2.1,((3:Int),(x0.2.2.2.1,(x0.2.2.2.2.1,(x0.2.2.2.2.2.1,(x0.2.2.2.2.2.2.1,(v6.1,((4:Int),x0.2.2.2.2.2.2.2.2.2))))))))),v7))
   else
    Option.bind (aeN N v5.1 v4.2.1 true) fun v6=>
    Option.bind (aaR N v4.1 x0.2.2.2.2.1 v3.2.1) fun v7=>
    Option.bind (acZ N v5.1 v4.2.1 v7) fun v8=>
    Option.bind (acB N v8 (Array.toList (List.toArray ([87,101,108,99,111,109,101]:List UInt8)))) fun v9=>
    Option.bind (aaS N (x0.1,(x0.2.1,((2:Int),(x0.2.2.2.1,(x0.2.2.2.2.1,(x0.2.2.2.2.2.1,(x0.2.2.2.2.2.2.1,(v9,((3:Int),(v3.2.1,v6))))))))))) fun v10=>
    some (((x0.1,(x0.2.1,((2:Int),(x0.2.2.2.1,(x0.2.2.2.2.1,(x0.2.2.2.2.2.1,(x0.2.2.2.2.2.2.1,(v9,((3:Int),(v3.2.1,v6)))))))))),v10))
theorem akh (x0:List UInt8×pz0)(c1:Int×(Int×(List Int))):(runK Tryz.prog (aGr N) 400 38 [qz0,qz1] [qz0,(.sl qz1)] (x0,c1,())).run=aaO N x0 c1:=by kernel_rfl
noncomputable def aGq:(R:Type)→Env R:=Env.addFn (aGr N) 38 (fun R=>fnK [qz0,qz1] [qz0,(.sl qz1)] (fun c=>aaO N c.1 c.2.1))
theorem auO (R:Type):EnvOK Tryz.prog (aGq N R):=EnvOK.addFn hmx (auP N R) (auP N _) (by kernel_rfl) (fun c=>akh N c.1 c.2.1)
noncomputable def abD (x0:List UInt8×pz0)(challenge1:Arr Int 16):Option ((List UInt8×pz0)×List pz10):=
 bif (!(decide (x0.2.2.1=(0:Int)))) then
  some ((x0,([]:List (pz10))))
 else
  Option.bind (acY N (x0.1,(x0.2.1,((1:Int),((IntKind.wrap .u8 (x0.2.2.2.1+1)),(challenge1,x0.2.2.2.2.2)))))) fun v3=>
  some (v3)
theorem akj (x0:List UInt8×pz0)(challenge1:Arr Int 16):(runK Tryz.prog (aGq N) 400 13 [qz0,(.arr 16 (.int .u8))] [qz0,(.sl qz1)] (x0,challenge1,())).run=abD N x0 challenge1:=by kernel_rfl
noncomputable def aKa:(R:Type)→Env R:=Env.addFn (aGq N) 13 (fun R=>fnK [qz0,(.arr 16 (.int .u8))] [qz0,(.sl qz1)] (fun c=>abD N c.1 c.2.1))
theorem aDs (R:Type):EnvOK Tryz.prog (aKa N R):=EnvOK.addFn hmx (auO N R) (auO N _) (by kernel_rfl) (fun c=>akj N c.1 c.2.1)
noncomputable def aGp:(R:Type)→Env R:=Env.addBx (aKa N) [(17,0)]
theorem auN (R:Type):EnvOK Tryz.prog (aGp N R):=EnvOK.addBx (aDs N R) [(17,0)]
noncomputable def aaA (x0:List UInt8×pz0)(c1:Int×(Int×(List Int))):Option ((List UInt8×pz0)×List pz10):=
 Option.bind (bif (!(decide (c1.1=(2:Int)))) then
   some (true)
  else
   some ((cond false true (!(decide (c1.2.1=x0.2.2.2.1)))))) fun (v3:Bool)=>
 bif v3 then
  some ((x0,([]:List (pz10))))
 else
  bif (decide (x0.2.2.1=(1:Int))) then
   Option.bind (aaO N x0 c1) fun v4=>
   some (v4)
  else
   bif (decide (x0.2.2.1=(2:Int))) then
    bif (decide (x0.2.2.1=(2:Int))) then
     Option.bind (aaS N x0) fun v4=>
     some ((x0,v4))
    else
     some ((x0,([]:List (pz10))))
   else
    bif (decide (x0.2.2.1=(3:Int))) then
     Option.bind (aaS N x0) fun v4=>
     some ((x0,v4))
    else
     some ((x0,([]:List (pz10))))
theorem ak1 (x0:List UInt8×pz0)(c1:Int×(Int×(List Int))):(runK Tryz.prog (aGp N) 400 17 [qz0,qz1] [qz0,(.sl qz1)] (x0,c1,())).run=aaA N x0 c1:=by kernel_rfl
noncomputable def aJ9:(R:Type)→Env R:=Env.addFn (aGp N) 17 (fun R=>fnK [qz0,qz1] [qz0,(.sl qz1)] (fun c=>aaA N c.1 c.2.1))
theorem aDr (R:Type):EnvOK Tryz.prog (aJ9 N R):=EnvOK.addFn hmx (auN N R) (auN N _) (by kernel_rfl) (fun c=>ak1 N c.1 c.2.1)
noncomputable def aGo:(R:Type)→Env R:=Env.addMv (aJ9 N) [(9,5)]
theorem auM (R:Type):EnvOK Tryz.prog (aGo N R):=EnvOK.addMv (aDr N R) [(9,5)]
noncomputable def afa:LI:=⟨18,0,[(3,73)],⟨[(3,.lit (.own 0)),(6,.ty (.sl (.pair .str .str))),(7,.ty (.int .i64)),(8,.ty (.int .i64))],[.own (.pair .str .str) 73]⟩,[(.exit 0,⟨[(3,.lit (.own 0))],[.own (.pair .str .str) 73]⟩)]⟩
noncomputable def acM (N:Nat)(X:(pz29×((List pz2)×Unit))→Option ((Unit×((List pz2)×Unit))))(x6:List pz2)(x7:Int)(x8:Int)(h0:List pz2):Option ((Unit×((List pz2)×Unit))):=
 bif (decide (x8<x7)) then
  Option.bind (getI x6 x8) fun (v6:pz2)=>
  bif (aac ((List.length h0)+(List.length ([v6]:List (pz2)))) 32) then
   (X ((x6,(x7,((IntKind.wrap .i64 (x8+1)),()))),((h0++([v6]:List (pz2))),())))
  else
   none
 else
  some (((),(h0,())))
noncomputable def ait (c:(pz29×((List pz2)×Unit))):Option ((Unit×((List pz2)×Unit))):=gl (fun X c=>acM N X c.1.1 c.1.2.1 c.1.2.2.1 c.2.1) N c
theorem ama (X:(pz29×((List pz2)×Unit))→Option ((Unit×((List pz2)×Unit))))(x6:List pz2)(x7:Int)(x8:Int)(h0:List pz2):(aal Tryz.prog (aGo N) 400 [9] afa (aah Tryz.prog [9] 3) X ((x6,x7,x8,()),(h0,()))).run=acM N X x6 x7 x8 h0:=by kernel_rfl
noncomputable def aGn:(R:Type)→Env R:=Env.addLp (aGo N) [9] 0 3 (fun R=>lpK Tryz.prog afa (fun X c=>acM N X c.1.1 c.1.2.1 c.1.2.2.1 c.2.1) N)
theorem auL (R:Type):EnvOK Tryz.prog (aGn N R):=EnvOK.addLp (auM N R) (by kernel_rfl) (aao (li:=afa) hmx (auM N _) (by kernel_rfl) aaa (fun X c=>ama N X c.1.1 c.1.2.1 c.1.2.2.1 c.2.1) N)
noncomputable def af3 (l0:List pz2):Option (List pz2):=
 Option.bind (ait N ((l0,((((List.length l0):Nat):Int),((0:Int),()))),(([]:List (pz2)),()))) fun v2=>
 some (v2.2.1)
theorem ap7 (l0:List pz2):(runK Tryz.prog (aGn N) 400 9 [(.sl (.pair .str .str))] [(.sl (.pair .str .str))] (l0,())).run=af3 N l0:=by kernel_rfl
noncomputable def aGm:(R:Type)→Env R:=Env.addFn (aGn N) 9 (fun R=>fnK [(.sl (.pair .str .str))] [(.sl (.pair .str .str))] (fun c=>af3 N c.1))
theorem auK (R:Type):EnvOK Tryz.prog (aGm N R):=EnvOK.addFn hmx (auL N R) (auL N _) (by kernel_rfl) (fun c=>ap7 N c.1)
noncomputable def agV:LI:=⟨29,0,[],⟨[(0,.ty (.sl (.pair .str .str))),(9,.ty (.sl (.pair .str .str))),(10,.ty (.int .i64)),(11,.ty (.int .i64))],[]⟩,[(.ret,⟨[(2,.ty .bool)],[]⟩),(.exit 0,⟨[(0,.ty (.sl (.pair .str .str)))],[]⟩)]⟩
noncomputable def acq (N:Nat)(X:(((List pz2)×pz29)×Unit)→Option ((((Bool×Unit)×Unit) ⊕ (((List pz2)×Unit)×Unit))))(l0:List pz2)(x9:List pz2)(x10:Int)(x11:Int):Option ((((Bool×Unit)×Unit) ⊕ (((List pz2)×Unit)×Unit))):=
 bif (decide (x11<x10)) then
  Option.bind (getI x9 x11) fun (v6:pz2)=>
  bif (decide ((200:Int)<(((List.length v6.1):Nat):Int))) then
   some ((.inl ((true,()),())))
  else
   Option.bind (some ((cond false true (decide ((300:Int)<(((List.length v6.2):Nat):Int)))))) fun (v7:Bool)=>
   bif v7 then
    some ((.inl ((true,()),())))
   else
    (X ((l0,(x9,(x10,((IntKind.wrap .i64 (x11+1)),())))),()))
 else
  some ((.inr ((l0,()),())))
noncomputable def ajT (c:(((List pz2)×pz29)×Unit)):Option ((((Bool×Unit)×Unit) ⊕ (((List pz2)×Unit)×Unit))):=gl (fun X c=>acq N X c.1.1 c.1.2.1 c.1.2.2.1 c.1.2.2.2.1) N c
theorem aoj (X:(((List pz2)×pz29)×Unit)→Option ((((Bool×Unit)×Unit) ⊕ (((List pz2)×Unit)×Unit))))(l0:List pz2)(x9:List pz2)(x10:Int)(x11:Int):(aal Tryz.prog (aGm N) 400 [6] agV (aah Tryz.prog [6] 2) X ((l0,x9,x10,x11,()),())).run=acq N X l0 x9 x10 x11:=by kernel_rfl
noncomputable def aGl:(R:Type)→Env R:=Env.addLp (aGm N) [6] 0 2 (fun R=>lpK Tryz.prog agV (fun X c=>acq N X c.1.1 c.1.2.1 c.1.2.2.1 c.1.2.2.2.1) N)
theorem auJ (R:Type):EnvOK Tryz.prog (aGl N R):=EnvOK.addLp (auK N R) (by kernel_rfl) (aao (li:=agV) hmx (auK N _) (by kernel_rfl) aaa (fun X c=>aoj N X c.1.1 c.1.2.1 c.1.2.2.1 c.1.2.2.2.1) N)
noncomputable def aeP (l0:List pz2):Option Bool:=
 Option.bind (abV l0 (@minI (((List.length l0):Nat):Int) (10:Int))) fun (v2:(List pz2))=>
 Option.bind (ajT N ((l0,(v2,((((List.length v2):Nat):Int),((0:Int),())))),())) fun v3=>
 Sum.elim
  (fun (v4:((Bool×Unit)×Unit))=>
  some (v4.1.1))
  (fun (v4:(((List pz2)×Unit)×Unit))=>
  some ((decide ((10:Int)<(((List.length v4.1.1):Nat):Int))))) v3
theorem atd (l0:List pz2):(runK Tryz.prog (aGl N) 400 6 [(.sl (.pair .str .str))] [.bool] (l0,())).run=aeP N l0:=by kernel_rfl
noncomputable def aJ8:(R:Type)→Env R:=Env.addFn (aGl N) 6 (fun R=>fnK [(.sl (.pair .str .str))] [.bool] (fun c=>aeP N c.1))
theorem aDq (R:Type):EnvOK Tryz.prog (aJ8 N R):=EnvOK.addFn hmx (auJ N R) (auJ N _) (by kernel_rfl) (fun c=>atd N c.1)
noncomputable def aGk:(R:Type)→Env R:=Env.addBx (aJ8 N) [(20,0)]
theorem auI (R:Type):EnvOK Tryz.prog (aGk N R):=EnvOK.addBx (aDq N R) [(20,0)]
noncomputable def ahC (N:Nat)(x0:List UInt8×pz0):Option Int:=
 some (x0.2.2.1)
theorem aki (x0:List UInt8×pz0):(runK Tryz.prog (aGk N) 400 20 [qz0] [(.int .i64)] (x0,())).run=ahC N x0:=by kernel_rfl
noncomputable def aJ7:(R:Type)→Env R:=Env.addFn (aGk N) 20 (fun R=>fnK [qz0] [(.int .i64)] (fun c=>ahC N c.1))
theorem aDp (R:Type):EnvOK Tryz.prog (aJ7 N R):=EnvOK.addFn hmx (auI N R) (auI N _) (by kernel_rfl) (fun c=>aki N c.1)
noncomputable def aGj:(R:Type)→Env R:=Env.addBx (aJ7 N) [(21,0)]
theorem auH (R:Type):EnvOK Tryz.prog (aGj N R):=EnvOK.addBx (aDp N R) [(21,0)]
noncomputable def aiu (N:Nat)(x0:List UInt8×pz0):Option (List UInt8):=
 some (x0.2.2.2.2.2.2.2.2.2.1)
theorem ak2 (x0:List UInt8×pz0):(runK Tryz.prog (aGj N) 400 21 [qz0] [.str] (x0,())).run=aiu N x0:=by kernel_rfl
noncomputable def aJ5:(R:Type)→Env R:=Env.addFn (aGj N) 21 (fun R=>fnK [qz0] [.str] (fun c=>aiu N c.1))
theorem aDo (R:Type):EnvOK Tryz.prog (aJ5 N R):=EnvOK.addFn hmx (auH N R) (auH N _) (by kernel_rfl) (fun c=>ak2 N c.1)
noncomputable def aGi:(R:Type)→Env R:=Env.addBx (aJ5 N) [(22,0)]
theorem auG (R:Type):EnvOK Tryz.prog (aGi N R):=EnvOK.addBx (aDo N R) [(22,0)]
noncomputable def aje (N:Nat)(x0:List UInt8×pz0):Option (Arr Int 32):=
 some (x0.2.2.2.2.2.2.2.2.2.2)
theorem alE (x0:List UInt8×pz0):(runK Tryz.prog (aGi N) 400 22 [qz0] [(.arr 32 (.int .u8))] (x0,())).run=aje N x0:=by kernel_rfl
noncomputable def aGh:(R:Type)→Env R:=Env.addFn (aGi N) 22 (fun R=>fnK [qz0] [(.arr 32 (.int .u8))] (fun c=>aje N c.1))
theorem auF (R:Type):EnvOK Tryz.prog (aGh N R):=EnvOK.addFn hmx (auG N R) (auG N _) (by kernel_rfl) (fun c=>alE N c.1)
noncomputable def abd:Option Bool:=
 Option.bind (abD N ((Array.toList (List.toArray ([115]:List UInt8))),((([]:List (pz2))++([((Array.toList (List.toArray ([117]:List UInt8))),(Array.toList (List.toArray ([112]:List UInt8))))]:List (pz2))),((0:Int),((0:Int),(zc16,((0:Int),((0:Int),(([]:List Int),((0:Int),((Array.toList (List.toArray ([]:List UInt8))),zc32)))))))))) (@Arr.cons Int 15 9 zc15)) fun v1=>
 Option.bind (bif (!(decide ((((List.length v1.2):Nat):Int)=(1:Int)))) then
   some (true)
  else
   Option.bind (getI v1.2 (0:Int)) fun (v2:pz10)=>
   some ((cond false true (!(decide (v2.1=(1:Int))))))) fun (v2:Bool)=>
 Option.bind (bif v2 then
   some (true)
  else
   Option.bind (getI v1.2 (0:Int)) fun (v3:pz10)=>
   some ((cond false true (!(decide (v3.2.1=(1:Int))))))) fun (v3:Bool)=>
 bif v3 then
  some (false)
 else
  Option.bind (ab2 N (@Arr.cons Int 15 7 zc15) (@Arr.cons Int 15 9 zc15) (Array.toList (List.toArray ([117]:List UInt8))) (Array.toList (List.toArray ([112]:List UInt8)))) fun v4=>
  Option.bind (aeB N (@Arr.cons Int 15 7 zc15) v4.1) fun v5=>
  Option.bind (aeV N (2:Int) (1:Int) v5 (Array.toList (List.toArray ([117]:List UInt8)))) fun v6=>
  Option.bind (aaA N v1.1 v6) fun v7=>
  bif (decide (v4.2=(0:Int))) then
   Option.bind (some ((cond true (decide ((((List.length v7.2):Nat):Int)=(1:Int))) false))) fun (v8:Bool)=>
   Option.bind (bif v8 then
     Option.bind (getI v7.2 (0:Int)) fun (v9:pz10)=>
     some ((cond true (decide (v9.1=(3:Int))) false))
    else
     some (false)) fun (v9:Bool)=>
   bif v9 then
    Option.bind (some ((cond true (decide (v7.1.2.2.1=(2:Int))) false))) fun (v10:Bool)=>
    bif v10 then
     Option.bind (some ((cond true (decide (v7.1.2.2.2.2.2.2.2.2.2.1=(Array.toList (List.toArray ([117]:List UInt8))))) false))) fun (v11:Bool)=>
     bif v11 then
      Option.bind (bif ((@wfB (@Td.arr (32:Nat) (@Td.int @IntKind.u8)) v7.1.2.2.2.2.2.2.2.2.2.2)&&(@wfB (@Td.arr (32:Nat) (@Td.int @IntKind.u8)) zc32)) then
        some ((cond true (!(@Decidable.decide (@Eq (Arr Int 32) v7.1.2.2.2.2.2.2.2.2.2.2 zc32) (@decT (@Td.arr (32:Nat) (@Td.int @IntKind.u8)) v7.1.2.2.2.2.2.2.2.2.2.2 zc32))) false))
       else
        none) fun (v12:Bool)=>
      some (v12)
     else
      some (false)
    else
     some (false)
   else
    some (false)
  else
   some (false)
theorem ap8:(runK Tryz.prog (aGh N) 400 7 [] [.bool] ()).run=abd N:=by kernel_rfl
noncomputable def aJ4:(R:Type)→Env R:=Env.addFn (aGh N) 7 (fun R=>fnK [] [.bool] (fun c=>abd N ))
theorem aDn (R:Type):EnvOK Tryz.prog (aJ4 N R):=EnvOK.addFn hmx (auF N R) (auF N _) (by kernel_rfl) (fun c=>ap8 N )
noncomputable def aJ3:(R:Type)→Env R:=Env.addBx (aJ4 N) [(4,0)]
theorem aDm (R:Type):EnvOK Tryz.prog (aJ3 N R):=EnvOK.addBx (aDn N R) [(4,0)]
noncomputable def ac9 (u0:List UInt8×(List UInt8))(password1:List UInt8)(chal2:Arr (Arr Int 16) 2):Option Bool:=
 Option.bind (aeP N ([u0]:List (pz2))) fun v4=>
 bif v4 then
  Option.bind (@abd N) fun (v5:Bool)=>
  some (v5)
 else
  Option.bind (some ((cond false true (decide ((300:Int)<(((List.length password1):Nat):Int)))))) fun (v5:Bool)=>
  bif v5 then
   Option.bind (@abd N) fun (v6:Bool)=>
   some (v6)
  else
   Option.bind (af3 N ([u0]:List (pz2))) fun v6=>
   Option.bind (ajd N (Array.toList (List.toArray ([115]:List UInt8))) v6) fun v7=>
   Option.bind (getI chal2.l (0:Int)) fun (v8:(Arr Int 16))=>
   Option.bind (abD N v7 v8) fun v9=>
   Option.bind (getI chal2.l (1:Int)) fun (v10:(Arr Int 16))=>
   Option.bind (getI chal2.l (0:Int)) fun (v11:(Arr Int 16))=>
   Option.bind (abG N v10 v11 u0.1 password1) fun v12=>
   Option.bind (getI chal2.l (1:Int)) fun (v13:(Arr Int 16))=>
   Option.bind (getI chal2.l (0:Int)) fun (v14:(Arr Int 16))=>
   Option.bind (abG N v13 v14 u0.1 u0.2) fun v15=>
   Option.bind (getI chal2.l (1:Int)) fun (v16:(Arr Int 16))=>
   Option.bind (afD N v16 v12.1) fun v17=>
   Option.bind (aeV N (2:Int) (1:Int) v17 u0.1) fun v18=>
   Option.bind (aaA N v9.1 v18) fun v19=>
   Option.bind (bif (decide (v15.2=(0:Int))) then
     bif ((@wfB (@Td.arr (24:Nat) (@Td.int @IntKind.u8)) v12.1)&&(@wfB (@Td.arr (24:Nat) (@Td.int @IntKind.u8)) v15.1)) then
      some ((cond true (@Decidable.decide (@Eq (Arr Int 24) v12.1 v15.1) (@decT (@Td.arr (24:Nat) (@Td.int @IntKind.u8)) v12.1 v15.1)) false))
     else
      none
    else
     some (false)) fun (v20:Bool)=>
   bif (!(decide ((((List.length v9.2):Nat):Int)=(1:Int)))) then
    some (false)
   else
    Option.bind (some ((cond false true (!(decide ((((List.length v19.2):Nat):Int)=(1:Int))))))) fun (v21:Bool)=>
    bif v21 then
     some (false)
    else
     Option.bind (some ((cond false true (!(@BEq.beq Bool (@instBEqOfDecidableEq Bool @instDecidableEqBool) (decide (v19.1.2.2.1=(2:Int))) v20))))) fun (v22:Bool)=>
     bif v22 then
      some (false)
     else
      Option.bind (some ((cond false true (@BEq.beq Bool (@instBEqOfDecidableEq Bool @instDecidableEqBool) (decide (v19.1.2.2.1=(3:Int))) v20)))) fun (v23:Bool)=>
      Option.bind (bif v23 then
        some (true)
       else
        Option.bind (getI v19.2 (0:Int)) fun (v24:pz10)=>
        some ((cond false true (!(@BEq.beq Bool (@instBEqOfDecidableEq Bool @instDecidableEqBool) (decide (v24.1=(3:Int))) v20))))) fun (v24:Bool)=>
      bif v24 then
       some (false)
      else
       Option.bind (aeV N (2:Int) (1:Int) ([]:List Int) (Array.toList (List.toArray ([]:List UInt8)))) fun v25=>
       Option.bind (aaA N v19.1 v25) fun v26=>
       bif (!(decide (v12.2=(0:Int)))) then
        bif (cond true (decide (v26.1.2.2.1=v19.1.2.2.1)) false) then
         bif (cond true (decide ((((List.length v26.2):Nat):Int)=(1:Int))) false) then
          Option.bind (getI v26.2 (0:Int)) fun (v27:pz10)=>
          Option.bind (getI v19.2 (0:Int)) fun (v28:pz10)=>
          Option.bind (aif N v27 v28) fun v29=>
          bif (cond true v29 false) then
           bif v20 then
            Option.bind (@abd N) fun (v30:Bool)=>
            some ((cond true v30 false))
           else
            bif ((@wfB (@Td.arr (32:Nat) (@Td.int @IntKind.u8)) v19.1.2.2.2.2.2.2.2.2.2.2)&&(@wfB (@Td.arr (32:Nat) (@Td.int @IntKind.u8)) zc32)) then
             bif (cond true (cond false true (@Decidable.decide (@Eq (Arr Int 32) v19.1.2.2.2.2.2.2.2.2.2.2 zc32) (@decT (@Td.arr (32:Nat) (@Td.int @IntKind.u8)) v19.1.2.2.2.2.2.2.2.2.2.2 zc32))) false) then
              Option.bind (@abd N) fun (v30:Bool)=>
              some ((cond true v30 false))
             else
              some (false)
            else
             none
          else
           some (false)
         else
          some (false)
        else
         some (false)
       else
        bif (cond false true (!(decide (password1=u0.2)))) then
         bif (cond true (decide (v26.1.2.2.1=v19.1.2.2.1)) false) then
          bif (cond true (decide ((((List.length v26.2):Nat):Int)=(1:Int))) false) then
           Option.bind (getI v26.2 (0:Int)) fun (v27:pz10)=>
           Option.bind (getI v19.2 (0:Int)) fun (v28:pz10)=>
           Option.bind (aif N v27 v28) fun v29=>
           bif (cond true v29 false) then
            bif v20 then
             Option.bind (@abd N) fun (v30:Bool)=>
             some ((cond true v30 false))
            else
             bif ((@wfB (@Td.arr (32:Nat) (@Td.int @IntKind.u8)) v19.1.2.2.2.2.2.2.2.2.2.2)&&(@wfB (@Td.arr (32:Nat) (@Td.int @IntKind.u8)) zc32)) then
              bif (cond true (cond false true (@Decidable.decide (@Eq (Arr Int 32) v19.1.2.2.2.2.2.2.2.2.2.2 zc32) (@decT (@Td.arr (32:Nat) (@Td.int @IntKind.u8)) v19.1.2.2.2.2.2.2.2.2.2.2 zc32))) false) then
               Option.bind (@abd N) fun (v30:Bool)=>
               some ((cond true v30 false))
              else
               some (false)
             else
              none
           else
            some (false)
          else
           some (false)
         else
          some (false)
        else
         bif (cond false true v20) then
          bif (cond true (decide (v26.1.2.2.1=v19.1.2.2.1)) false) then
           bif (cond true (decide ((((List.length v26.2):Nat):Int)=(1:Int))) false) then
            Option.bind (getI v26.2 (0:Int)) fun (v27:pz10)=>
            Option.bind (getI v19.2 (0:Int)) fun (v28:pz10)=>
            Option.bind (aif N v27 v28) fun v29=>
            bif (cond true v29 false) then
             bif v20 then
              Option.bind (@abd N) fun (v30:Bool)=>
              some ((cond true v30 false))
             else
              bif ((@wfB (@Td.arr (32:Nat) (@Td.int @IntKind.u8)) v19.1.2.2.2.2.2.2.2.2.2.2)&&(@wfB (@Td.arr (32:Nat) (@Td.int @IntKind.u8)) zc32)) then
               bif (cond true (cond false true (@Decidable.decide (@Eq (Arr Int 32) v19.1.2.2.2.2.2.2.2.2.2.2 zc32) (@decT (@Td.arr (32:Nat) (@Td.int @IntKind.u8)) v19.1.2.2.2.2.2.2.2.2.2.2 zc32))) false) then
                Option.bind (@abd N) fun (v30:Bool)=>
                some ((cond true v30 false))
               else
                some (false)
              else
               none
            else
             some (false)
           else
            some (false)
          else
           some (false)
         else
          some (false)
theorem aj8 (u0:List UInt8×(List UInt8))(password1:List UInt8)(chal2:Arr (Arr Int 16) 2):(runK Tryz.prog (aJ3 N) 400 4 [(.pair .str .str),.str,(.arr 2 (.arr 16 (.int .u8)))] [.bool] (u0,password1,chal2,())).run=ac9 N u0 password1 chal2:=by kernel_rfl
theorem aj9 (u0:List UInt8×(List UInt8))(password1:List UInt8)(chal2:Arr (Arr Int 16) 2)(y:Bool)(h:ac9 N u0 password1 chal2=some y):ajW Tryz.prog 4 (valA [(.pair .str .str),.str,(.arr 2 (.arr 16 (.int .u8)))] (u0,password1,chal2,())) (tupV (valR [.bool] y)):=asA hmx (aDm N _) (alq (by kernel_rfl)) (by rw [aj8];exact h)
end
end Go.Proofs.YtkcdnjgieabjoaaGreatDoor
