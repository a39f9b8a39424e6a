/-
  Parts of my own, one behind the other: K3, K3b, K4, K5, K6, K7, GlobV, K8.
-/
import Derived.Test.YtolkfnemdejonaaGreatDoorMrg1
import Derived.DeepKeys
import Derived.Laws.StructEq
import Derived.Laws.Pointers
import Derived.LaidEqlPtr
import Derived.Stop.IfaceNil
import Derived.Laws.Entries
import Derived.Lib.ConvBytes
open Go.Op renaming operands→gt
open Go.Sem renaming run_bind→ne
open List renaming eq_nil_of_length_eq_zero→C5, mem_of_getElem?→Da, length_map→Dc, all_eq_true→Dh, take_of_length_le→Dk, drop_append_of_le_length→Do, length_append→Dq, append_assoc→Ds, length_drop→Dt, length_take→Dv, take_append_of_le_length→Dw, append_nil→Dy, drop_zero→Dz, nil_append→DC, map_map→DD, take_append_drop→DF, replicate→DK, map_append→DN
open Go.Proofs.YtolkfnemdejonaaGreatDoor.Tree renaming run_ite→C6, run_bind→Dd
open Option renaming map_eq_some_iff→C7, getD_some→C9, some→Db, map_some→DB
open Bool renaming and_eq_true→C8
open Nat renaming mul_le_mul_right→Df, le_refl→Dg, mul_div_cancel→Dx, zero_le→DI, sub_zero→DL, lt_or_ge→DM, min_eq_left→DP
open Go.Instr renaming sliceBounds→Di
open Go.Call renaming operands→Dj
open ByteArray renaming mk→Dm
open Array renaming getD_eq_getD_getElem?→Dn, ext'→DJ
open Go.Proofs.YtolkfnemdejonaaGreatDoor.Rel renaming ofC→Du
open Go.Proofs.YtolkfnemdejonaaGreatDoor.Oper renaming val→DA
open Go.Addr renaming add_mid→DE
open Function renaming comp_def→DH
open Go.Program renaming keyLits→DO
namespace Go.Proofs.YtolkfnemdejonaaGreatDoor
set_option maxRecDepth 100000
open Go.RowKit
set_option linter.unusedVariables false
set_option linter.unusedSimpArgs false
def getI {α:Type}(l:List α)(z:Int):Option α:=if 0≤z then l[z.toNat]? else none
def cR {α:Type}(l:List α)(z:Int):Option (List α):=if 0≤z∧z≤l.length then some (l.take z.toNat) else none
def b9 {α:Type}(l:List α)(z:Int):Option (List α):=if 0≤z∧z≤l.length then some (l.drop z.toNat) else none
def subI {α:Type}(l:List α)(a b:Int):Option (List α):=if 0≤a∧a≤b∧b≤l.length then some ((l.drop a.toNat).take (b.toNat-a.toNat)) else none
theorem zu {α:Type}{l:List α}{z:Int}{x:α}(h:getI l z=some x):0≤z∧l[z.toNat]? =some x∧z.toNat<l.length:=by
 unfold getI at h
 split at h
 ·exact ⟨by assumption,h,(List.getElem?_eq_some_iff.1 h).1⟩
 ·cases h
def al6 {R:Type}(H:List E2)(x:V)(k:List V→Tree R):Tree R:=
 match x with
 | .adr l=>k l
 | .box id off=>(match H[id]? with
  | some (.box l _)=>(match qu big l off with | some s=>k s | none=>.fail)
  | _=>.fail)
 | .boxi id off d n i o=>(match H[id]? with
  | some (.box l _)=>(match qu big l off with
   | some (.arr d' n' a::_)=>lX d' d (fun d=>Arr (T d) n') a fun a=>.bind (a.l[i]?) fun e=>match qu big (enc d e) o with | some s=>k s | none=>.fail
   | _=>.fail)
  | _=>.fail)
 | .oadr id d i o=>(match H[id]? with
  | some (.own d' l _)=>lX d' d (fun d=>List (T d)) l fun l=>.bind (l[i]?) fun e=>match qu big (enc d e) o with | some s=>k s | none=>.fail
  | _=>.fail)
 | _=>.fail
def aaI {R:Type}(x:V)(n:Nat)(k:V→Tree R):Tree R:=
 match x with
 | .box id o=>k (.box id (o+n))
 | .boxi id off d m i o=>k (.boxi id off d m i (o+n))
 | .oadr id d i o=>k (.oadr id d i (o+n))
 | .adr l=>(match qu big l n with | some s=>k (.adr s) | none=>.fail)
 | _=>.fail
def rG {R:Type}(x:V)(k:V→Tree R):Tree R:=
 match x with
 | .box id o=>k (.box id o)
 | .boxi id off d m i o=>k (.boxi id off d m i o)
 | .oadr id d i o=>k (.oadr id d i o)
 | .adr l=>k (.adr l)
 | _=>.fail
def qo {R:Type}(P:Program)(s:TypeId)(f:Nat)(x:V)(k:V→Tree R):Tree R:=
 match zA P s f with
 | some (ty,off)=>if P.cellsOf ty=0 then .fail else aaI x off k
 | none=>.fail
def amu {R:Type}(P:Program)(H:List E2)(t:TypeId)(x:V)(k:V→Tree R):Tree R:=
 al6 H x fun segs=>match ac3 P t segs 0 with | some r=>k r | none=>.fail
def afB {R:Type}(P:Program)(s:TypeId)(f:Nat)(x:V)(k:V→Tree R):Tree R:=
 match x,zA P s f with
 | .agg l,some (ty,off)=>(match ac3 P ty l off with | some r=>k r | none=>.fail)
 | _,_=>.fail
def afd {R:Type}(P:Program)(t:TypeId)(x i:V)(k:V→Tree R):Tree R:=
 match arrT P t,i with
 | some (m,e),.c (.int _ z)=>if P.cellsOf e=0 then .fail else (match x with
  | .agg [.arr d n a]=>if n=m∧wd d=P.cellsOf e then .bind (getI a.l z) fun el=>match ac3 P e (enc d el) 0 with | some r=>k r | none=>.fail else .fail
  | .agg l=>.ite (decide (0≤z∧z<m)) (match ac3 P e l (z.toNat*P.cellsOf e) with | some r=>k r | none=>.fail) .fail
  | _=>.fail)
 | _,_=>.fail
def aaw {R:Type}(z:Int)(k:Nat→Tree R):Nat→Nat→Tree R
 | 0,_=>.fail
 | n+1,j=>.ite (decide (z=(j:Int))) (k j) (aaw z k n (j+1))
theorem qp {R:Type}{z:Int}{k:Nat→Tree R}{res:R}:∀ {n j:Nat},(aaw z k n j).run=some res→∃ i:Nat,i<j+n∧z=(i:Int)∧(k i).run=some res
 | 0,j,h=>by cases h
 | n+1,j,h=>by
  unfold aaw at h
  rcases C6 h with ⟨hb,h⟩ | ⟨_,h⟩
  ·exact ⟨j,by omega,of_decide_eq_true hb,h⟩
  ·obtain ⟨i,h1,h2,h3⟩:=qp h
   exact ⟨i,by omega,h2,h3⟩
def nd {R:Type}(P:Program)(H:List E2)(t:TypeId)(x i:V)(k:V→Tree R):Tree R:=
 match jz P t,arrT P t,i with
 | some e,_,.c (.int _ z)=>(match x with
  | .own id=>(match H[id]? with
   | some (.own d l _)=>if wd d=P.cellsOf e then .ite (decide (0≤z∧z<l.length)) (k (.oadr id d z.toNat 0)) .fail else .fail
   | _=>.fail)
  | x=>(match nt P e x with
   | some ⟨d,l⟩=>if wd d=P.cellsOf e∧1≤wd d then .bind (getI l z) fun el=>k (.adr (enc d el)) else .fail
   | none=>.fail))
 | none,some (m,e),.c (.int _ z)=>if P.cellsOf e=0 then .fail else (match x with
  | .box id off=>(match H[id]? with
   | some (.box l _)=>(match qu big l off with
    | some (.arr d n a::_)=>if wd d=P.cellsOf e∧n=m then .ite (decide (0≤z∧z<m)) (k (.boxi id off d n z.toNat 0)) .fail else .fail
    | _=>if m≤4 then aaw z (fun j=>k (.box id (off+j*P.cellsOf e))) m 0 else .ite (decide (0≤z∧z<m)) (k (.box id (off+z.toNat*P.cellsOf e))) .fail)
   | _=>.fail)
  | .adr (.arr d n a::_)=>if wd d=P.cellsOf e∧n=m then .bind (getI a.l z) fun el=>k (.adr (enc d el)) else .fail
  | .adr l=>.ite (decide (0≤z∧z<m)) (match qu big l (z.toNat*P.cellsOf e) with | some s=>k (.adr s) | none=>.fail) .fail
  | .oadr id d ii oo=>if m≤4 then aaw z (fun j=>k (.oadr id d ii (oo+j*P.cellsOf e))) m 0 else .fail
  | _=>.fail)
 | _,_,_=>.fail
def rV {R:Type}(x:V)(i:Nat)(k:V→Tree R):Tree R:=
 match x with
 | .tup l=>(match l[i]? with
  | some (.c v)=>k (.c v)
  | some (.str s)=>k (.str s)
  | some (.agg l)=>k (.agg l)
  | some (.lst d l)=>k (.lst d l)
  | some (.own i)=>k (.own i)
  | some (.box i o)=>k (.box i o)
  | some .emp=>k .emp
  | some .nn=>k .nn
  | _=>.fail)
 | _=>.fail
def intK {R:Type}(x:V)(k:Int→Tree R):Tree R:=match x with | .c (.int _ z)=>k z | _=>.fail
def aaQ {R:Type}(P:Program)(ρ:Operand→V)(t:TypeId)(x:V)(lo hi:Option Operand)(k:V→Tree R):Tree R:=
 match jz P t with
 | some e=>(match nt P e x with
  | some ⟨d,l⟩=>if wd d=P.cellsOf e∧1≤wd d then (match lo,hi with
   | none,none=>k (.lst d l)
   | some lo,none=>intK (ρ lo) fun a=>.bind (b9 l a) fun m=>k (.lst d m)
   | none,some hi=>intK (ρ hi) fun b=>.bind (cR l b) fun m=>k (.lst d m)
   | some lo,some hi=>intK (ρ lo) fun a=>intK (ρ hi) fun b=>.bind (subI l a b) fun m=>k (.lst d m)) else .fail
  | none=>.fail)
 | none=>.fail
def Cn {R:Type}(P:Program)(t:TypeId)(x hi mx:V)(k:V→Tree R):Tree R:=
 match jz P t,hi,mx with
 | some e,.c (.int _ 0),.c (.int _ 0)=>if P.cellsOf e=0 then .fail else (match x with
  | .c (.slice (some _) 0 _)=>k .emp
  | x=>(match nt P e x with | some _=>k .emp | none=>.fail))
 | _,_,_=>.fail
section
variable {P:Program} {H:List E2} {ρ:Operand→V} {o:Oper} {R:Type}
def cn (ρ:Operand→V)(o:Oper):Prop:=∀ x∈o.op.operands,(ρ x).plain=true
theorem bV {w:World}{B:List Nat}{η:List Value}{n0:Nat}{ρv:Operand→Value}(hp:cn ρ o)(h:∀ x∈o.op.operands,Rel2 w B η (ρ x) (ρv x)∧aM n0 (ex (ρ x)) (ρv x)):∀ x∈o.op.operands,Rel w B η (ex (ρ x)) (ρv x):=fun x hx=>(h x hx).1.get (hp x hx)
theorem eM {w:World}{B:List Nat}{η:List Value}{n0:Nat}{ρv:Operand→Value}(hp:cn ρ o)(h:∀ x∈o.op.operands,Rel2 w B η (ρ x) (ρv x)∧aM n0 (ex (ρ x)) (ρv x)):∀ x∈o.op.operands,Rel w B η (eu (ρ x)) (ρv x):=fun x hx=>(bV hp h x hx).unf
def eL (P:Program)(e:TypeId)(x:V):AV:=match nt P e x with
 | some s=>.sl (flat s.1 s.2) (wd s.1)
 | none=>ex x
theorem BF {w:World}{B:List Nat}{η:List Value}{n0:Nat}{ρv:Operand→Value}(e:TypeId)(hp:cn ρ o)(h:∀ x∈o.op.operands,Rel2 w B η (ρ x) (ρv x)∧aM n0 (ex (ρ x)) (ρv x)):∀ x∈o.op.operands,Rel w B η (eL P e (ρ x)) (ρv x):=fun x hx=>by
 have h1:=bV hp h x hx
 unfold eL
 split
 ·rename_i s hs;exact yh hs h1
 ·exact h1
theorem abr {e:TypeId}{k:IntKind}{z:Int}:eL P e (.c (.int k z))= .c (.int k z):=rfl
theorem vL {e:TypeId}{x:V}{s:Sigma fun d=>List (T d)}(h:nt P e x=some s):eL P e x= .sl (flat s.1 s.2) (wd s.1):=by unfold eL;rw [h]
theorem Rel.adr_pre {w:World}{B:List Nat}{η:List Value}{a b:List AV}{v:Value}(h:Rel w B η (.adr (a++b)) v):Rel w B η (.adr a) v:=by
 cases h with
 | adr _ _ ad us ha hr=>exact .adr _ _ ad us ⟨ha.spot,ha.lt,ha.out,fun i hi=>ha.cell i (by rw [Dq];omega)⟩ (fun i x hx=>hr i x (by
   rw [List.getElem?_append_left (List.getElem?_eq_some_iff.1 hx).1];exact hx))
theorem OpOK.mono {n0:Nat}{w:World}{B:List Nat}{η:List Value}{ρv:Operand→Value}{r r':AV}(h:OpOK P n0 w ρv o B η r)(hr:∀ w' v,Rel w' B η r v→Rel w' B η r' v):OpOK P n0 w ρv o B η r':=fun N hN=>h N fun v w' g hv=>hN v w' g (hr _ _ hv)
theorem Bh {t:TypeId}{a b:List AV}{off:Nat}{r:AV}(h:sP P t a off=some r):sP P t (a++b) off=some r:=by
 unfold sP at h ⊢
 split at h
 ·rename_i hrow
  split at h
  ·rename_i hle
   injection h with h;subst h
   rw [if_pos (by rw [Dq];omega),Do (by omega),Dw (by rw [Dt];omega)]
  ·cases h
 ·rename_i hrow
  rw [List.getElem?_append_left (List.getElem?_eq_some_iff.1 h).1];exact h
 ·cases h
theorem xK {H:List Ent}{t:TypeId}{x r:AV}{l:List AV}(hc:pT H x=some l)(h:sP P t l 0=some r):ae0 P H t x=some r:=by
 unfold ae0
 rw [hc]
 unfold sP at h
 cases hrow:rowT P t with
 | none=>rw [hrow] at h;cases h
 | some b=>
  rw [hrow] at h
  cases b with
  | true=>
   simp only [Nat.zero_add,Dz] at h ⊢
   exact h
  | false=>
   simp only at h ⊢
   rw [List.head?_eq_getElem?];exact h
theorem exH {id:Nat}{e:E2}(h:H[id]? =some e):(H.map exE)[id]? =some (exE e):=by rw [List.getElem?_map,h];rfl
theorem gq {d:Td}{l:List (T d)}{i:Nat}{x:T d}(h:l[i]? =some x):(flat d l).drop (i*wd d)=cells d x++flat d (l.drop (i+1)):=by
 have hi:i<l.length:=(List.getElem?_eq_some_iff.1 h).1
 rw [←kF,List.drop_eq_getElem_cons hi,eT]
 rw [List.getElem?_eq_getElem hi] at h
 injection h with h
 rw [h]
theorem aa0 {x:V}{k:List V→Tree R}{r:R}(h:(al6 H x k).run=some r):∃ segs rest l,(k segs).run=some r∧pT (H.map exE) (ex x)=some l∧l=aD segs++rest:=by
 unfold al6 at h
 split at h
 ·exact ⟨_,[],_,h,rfl,by simp⟩
 ·rename_i id off
  split at h
  ·rename_i l T' hH
   split at h
   ·rename_i s hs
    obtain ⟨h1,h2⟩:=fD _ _ _ _ hs
    refine ⟨s,[],(aD l).drop off,h, ?_,by rw [h1];simp⟩
    simp only [ex,ex0,pT,exH hH,exE]
   ·cases h
  ·cases h
 ·rename_i id off d n i oo
  split at h
  ·rename_i l T' hH
   split at h
   ·rename_i d' n' a rr hs
    obtain ⟨e,h⟩:=bW h
    subst e
    obtain ⟨el,hel,h⟩:=Dd h
    split at h
    ·rename_i s hss
     obtain ⟨h1,h2⟩:=fD _ _ _ _ hs
     obtain ⟨h3,h4⟩:=fD _ _ _ _ hss
     rw [dr] at h3 h4
     have key:(aD l).drop (off+i*wd d'+oo)=aD s++(flat d' (a.l.drop (i+1))++aD rr):=by
      rw [Nat.add_assoc,←List.drop_drop,←h1,aA]
      simp only [segA]
      have hi:i<a.l.length:=(List.getElem?_eq_some_iff.1 hel).1
      have hle:i*wd d'+wd d'≤(flat d' a.l).length:=by rw [aF,←Nat.succ_mul];exact Df _ hi
      have hol:oo≤wd d':=by rw [bk] at h4;exact h4
      rw [Do (by omega),←List.drop_drop,gq hel,Do h4,←h3,Ds]
     refine ⟨s,_,_,h, ?_,key⟩
     simp only [ex,ex0,pT,exH hH,exE]
    ·cases h
   ·cases h
  ·cases h
 ·rename_i id d i oo
  split at h
  ·rename_i d' l E hH
   obtain ⟨e,h⟩:=bW h
   subst e
   obtain ⟨el,hel,h⟩:=Dd h
   split at h
   ·rename_i s hss
    obtain ⟨h3,h4⟩:=fD _ _ _ _ hss
    rw [dr] at h3 h4
    have key:(flat d' l).drop (i*wd d'+oo)=aD s++flat d' (l.drop (i+1)):=by
     rw [←List.drop_drop,gq hel,Do h4,←h3]
    refine ⟨s,_,_,h, ?_,key⟩
    simp only [ex,ex0,pT,exH hH,exE]
   ·cases h
  ·cases h
 ·cases h
theorem ahD {t:TypeId}{x:Operand}{k:V→Tree R}{res:R}(hp:cn ρ o)(ho:o.op= .load t x)(h:(amu P H t (ρ x) k).run=some res):∃ r,(k r).run=some res∧Does P H ρ o r:=by
 obtain ⟨segs,rest,l,h1,h2,h3⟩:=aa0 h
 split at h1
 ·rename_i r hr
  obtain ⟨h4,h5,h6⟩:=rD hr
  refine ⟨r,h1,fun n0 Bx w B η ρv inv he=>.of h5 h6 (ahE inv (ρA:=fun y=>ex (ρ y)) (bV hp he) ho (xK h2 (by rw [h3];exact Bh h4)))⟩
 ·cases h1
theorem adR {x:V}{n:Nat}{k:V→Tree R}{res:R}(h:(aaI x n k).run=some res):∃ r,(k r).run=some res∧gN (ex x) n=some (ex r)∧r.plain=true∧∀ l k,ex r≠.fresh l k:=by
 unfold aaI at h
 split at h
 ·exact ⟨_,h,rfl,rfl,fun _ _ h=>by simp [ex,ex0] at h⟩
 ·exact ⟨_,h,by simp [ex,ex0,gN,Nat.add_assoc],rfl,fun _ _ h=>by simp [ex,ex0] at h⟩
 ·exact ⟨_,h,by simp [ex,ex0,gN,Nat.add_assoc],rfl,fun _ _ h=>by simp [ex,ex0] at h⟩
 ·split at h
  ·rename_i s hs
   obtain ⟨h1,h2⟩:=fD _ _ _ _ hs
   exact ⟨_,h,by simp [ex,ex0,gN,h1],rfl,fun _ _ h=>by simp [ex,ex0] at h⟩
  ·cases h
 ·cases h
theorem qI {s:TypeId}{f:Nat}{x:Operand}{k:V→Tree R}{res:R}(hp:cn ρ o)(ho:o.op= .fieldAddr s x f)(h:(qo P s f (ρ x) k).run=some res):∃ r,(k r).run=some res∧∀ H:List E2,Does P H ρ o r:=by
 unfold qo at h
 split at h
 ·rename_i ty off hfd
  obtain ⟨fd,hfd2,rfl,rfl⟩:=tD hfd
  split at h
  ·cases h
  ·rename_i hc
   obtain ⟨r,h1,h2,h3,h4⟩:=adR h
   exact ⟨r,h1,fun H n0 Bx w B η ρv inv he=>.of h3 h4 (BL (ρA:=fun y=>ex (ρ y)) (bV hp he) ho hfd2 hc h2)⟩
 ·cases h
theorem zB {s:TypeId}{f:Nat}{x:Operand}{k:V→Tree R}{res:R}(hp:cn ρ o)(ho:o.op= .fieldAddr s x f)(h:(qo P s f (ρ x) k).run=some res):∃ r,(k r).run=some res∧Does P H ρ o r:=by
 obtain ⟨r,h1,h2⟩:=qI hp ho h
 exact ⟨r,h1,h2 H⟩
theorem rF {x:Operand}{k:V→Tree R}{res:R}(hp:cn ρ o)(ho:o.op= .nilCheck x)(h:(rG (ρ x) k).run=some res):∃ r,(k r).run=some res∧∀ H:List E2,Does P H ρ o r:=by
 have key:∀ r,ρ x=r→r.plain=true→(∀ l k,ex r≠.fresh l k)→((∃ i n,ex r= .box i n)∨(∃ l,ex r= .adr l)∨(∃ i n,ex r= .oadr i n))→∀ H:List E2,Does P H ρ o r:=fun r hr h1 h2 h3 H n0 Bx w B η ρv inv he=>by
  subst hr
  exact .of h1 h2 (CX (ρA:=fun y=>ex (ρ y)) (bV hp he) ho h3)
 unfold rG at h
 split at h
 ·rename_i hx;exact ⟨_,h,key _ hx rfl (fun _ _ h=>by simp [ex,ex0] at h) (.inl ⟨_,_,rfl⟩)⟩
 ·rename_i hx;exact ⟨_,h,key _ hx rfl (fun _ _ h=>by simp [ex,ex0] at h) (.inl ⟨_,_,rfl⟩)⟩
 ·rename_i hx;exact ⟨_,h,key _ hx rfl (fun _ _ h=>by simp [ex,ex0] at h) (.inr (.inr ⟨_,_,rfl⟩))⟩
 ·rename_i hx;exact ⟨_,h,key _ hx rfl (fun _ _ h=>by simp [ex,ex0] at h) (.inr (.inl ⟨_,rfl⟩))⟩
 ·cases h
theorem Bq {x:Operand}{k:V→Tree R}{res:R}(hp:cn ρ o)(ho:o.op= .nilCheck x)(h:(rG (ρ x) k).run=some res):∃ r,(k r).run=some res∧Does P H ρ o r:=by
 obtain ⟨r,h1,h2⟩:=rF (P:=P) hp ho h
 exact ⟨r,h1,h2 H⟩
theorem afA {s:TypeId}{f:Nat}{x:Operand}{k:V→Tree R}{res:R}(hp:cn ρ o)(ho:o.op= .field s x f)(h:(afB P s f (ρ x) k).run=some res):∃ r,(k r).run=some res∧Does P H ρ o r:=by
 unfold afB at h
 split at h
 ·rename_i l ty off hx hfd
  obtain ⟨fd,hfd2,rfl,rfl⟩:=tD hfd
  split at h
  ·rename_i r hr
   obtain ⟨h4,h5,h6⟩:=rD hr
   exact ⟨r,h,fun n0 Bx w B η ρv inv he=>.of h5 h6 (ahS (ρA:=fun y=>ex (ρ y)) (bV hp he) ho hfd2 (by rw [hx];rfl) h4)⟩
  ·cases h
 ·cases h
theorem afc {t:TypeId}{x i:Operand}{k:V→Tree R}{res:R}(hp:cn ρ o)(ho:o.op= .index t x i)(h:(afd P t (ρ x) (ρ i) k).run=some res):∃ r,(k r).run=some res∧Does P H ρ o r:=by
 unfold afd at h
 split at h
 ·rename_i m e kk z hat hi
  split at h
  ·cases h
  ·rename_i hc
   split at h
   ·rename_i d n a hx
    split at h
    ·rename_i hnm
     obtain ⟨rfl,hwd⟩:=hnm
     obtain ⟨el,hel,h⟩:=Dd h
     obtain ⟨g0,g1,g2⟩:=zu hel
     split at h
     ·rename_i r hr
      obtain ⟨h4,h5,h6⟩:=rD hr
      rw [a.h] at g2
      refine ⟨r,h,fun n0 Bx w B η ρv inv he=>.of h5 h6 (abe (ρA:=fun y=>ex (ρ y)) (bV hp he) ho (cN hat) (by rw [hx];rfl) (by rw [hi];rfl) ⟨g0,by omega⟩ hc ?_)⟩
      have e1:aD [V.arr d n a]=flat d a.l:=by simp [aD,segA]
      rw [e1]
      rw [dr] at h4
      have hd:=gq g1
      unfold sP at h4 ⊢
      rw [hwd] at hd
      have hlen:(flat d a.l).length=a.l.length*wd d:=aF d a.l
      split at h4
      ·rename_i hrow
       split at h4
       ·rename_i hle
        rw [if_pos (by have:=congrArg List.length hd;rw [Dt,Dq] at this;omega),hd,Dw (by omega)]
        simpa using h4
       ·cases h4
      ·rename_i hrow
       have:=congrArg (·[0]?) hd
       simp only [List.getElem?_drop,Nat.add_zero] at this
       rw [this,List.getElem?_append_left (List.getElem?_eq_some_iff.1 h4).1]
       exact h4
      ·cases h4
     ·cases h
    ·cases h
   ·rename_i l hx
    rcases C6 h with ⟨hb,h⟩ | ⟨_,h⟩
    ·have hz:=of_decide_eq_true hb
     split at h
     ·rename_i r hr
      obtain ⟨h4,h5,h6⟩:=rD hr
      exact ⟨r,h,fun n0 Bx w B η ρv inv he=>.of h5 h6 (abe (ρA:=fun y=>ex (ρ y)) (bV hp he) ho (cN hat) (by rw [hx];rfl) (by rw [hi];rfl) hz hc h4)⟩
     ·cases h
    ·cases h
   ·cases h
 ·cases h
theorem zq {t:TypeId}{x i:Operand}{k:V→Tree R}{res:R}(hp:cn ρ o)(ho:o.op= .indexAddr t x i)(h:(nd P H t (ρ x) (ρ i) k).run=some res):∃ r,(k r).run=some res∧Does P H ρ o r:=by
 unfold nd at h
 split at h
 ·rename_i e kk z het hi
  split at h
  ·rename_i id hx
   split at h
   ·rename_i d l E hH
    split at h
    ·rename_i hwd
     rcases C6 h with ⟨hb,h⟩ | ⟨_,h⟩
     ·have hz:=of_decide_eq_true hb
      refine ⟨_,h,fun n0 Bx w B η ρv inv he=>.of rfl (fun _ _ h=>by simp [ex,ex0] at h) ?_⟩
      have hid:=exH hH
      have hent:=inv.ent id _ hid
      obtain ⟨n',us,hown,hrel,hk1,hbl⟩:=hent
      exact aag (ρA:=fun y=>ex (ρ y)) inv (bV hp he) ho (aX het) (by simp only [hx];rfl) (by simp only [hi];rfl) hid ⟨hz.1,by
       rw [aF]
       exact Nat.mul_lt_mul_of_pos_right (by omega) (by omega)⟩ hwd
     ·cases h
    ·cases h
   ·cases h
  ·split at h
   ·rename_i d l hv
    split at h
    ·rename_i hwd
     obtain ⟨el,hel,h⟩:=Dd h
     obtain ⟨g0,g1,g2⟩:=zu hel
     refine ⟨_,h,fun n0 Bx w B η ρv inv he=>.of rfl (fun _ _ h=>by simp [ex,ex0] at h) (OpOK.mono (adn (ρA:=fun y=>eL P e (ρ y)) (BF e hp he) ho (aX het) (vL hv) (show eL P e (ρ i)= .c (.int kk z) by rw [hi];rfl) ⟨g0,by
      rw [aF];exact Nat.mul_lt_mul_of_pos_right g2 hwd.2⟩ hwd.1) fun w' v hv'=> ?_)⟩
     rw [gq g1] at hv'
     simp only [ex,ex0,dr]
     exact hv'.adr_pre
    ·cases h
   ·cases h
 ·rename_i m e kk z hnoel hat hi
  split at h
  ·cases h
  ·rename_i hc
   split at h
   ·rename_i id off hx
    split at h
    ·rename_i l T' hH
     split at h
     ·rename_i d n a rr hs
      split at h
      ·rename_i hwd
       rcases C6 h with ⟨hb,h⟩ | ⟨_,h⟩
       ·have hz:=of_decide_eq_true hb
        exact ⟨_,h,fun n0 Bx w B η ρv inv he=>.of rfl (fun _ _ h=>by simp [ex,ex0] at h) (ec (ρA:=fun y=>ex (ρ y)) (bV hp he) ho (cN hat) (by simp only [hi];rfl) hz hc (by simp [hx,ex,ex0,gN,hwd.1]))⟩
       ·cases h
      ·cases h
     ·split at h
      ·obtain ⟨j,hj,hz,h⟩:=qp h
       exact ⟨_,h,fun n0 Bx w B η ρv inv he=>.of rfl (fun _ _ h=>by simp [ex,ex0] at h) (ec (ρA:=fun y=>ex (ρ y)) (bV hp he) ho (cN hat) (z:=z) (by simp only [hi];rfl) (by omega) hc (by simp [hx,hz,ex,ex0,gN]))⟩
      rcases C6 h with ⟨hb,h⟩ | ⟨_,h⟩
      ·have hz:=of_decide_eq_true hb
       exact ⟨_,h,fun n0 Bx w B η ρv inv he=>.of rfl (fun _ _ h=>by simp [ex,ex0] at h) (ec (ρA:=fun y=>ex (ρ y)) (bV hp he) ho (cN hat) (by simp only [hi];rfl) hz hc (by simp [hx,ex,ex0,gN]))⟩
      ·cases h
    ·cases h
   ·rename_i d n a rr hx
    split at h
    ·rename_i hwd
     obtain ⟨el,hel,h⟩:=Dd h
     obtain ⟨g0,g1,g2⟩:=zu hel
     rw [a.h] at g2
     refine ⟨_,h,fun n0 Bx w B η ρv inv he=>.of rfl (fun _ _ h=>by simp [ex,ex0] at h) (OpOK.mono (r:=.adr ((aD (V.arr d n a::rr)).drop (z.toNat*P.cellsOf e))) (ec (ρA:=fun y=>ex (ρ y)) (bV hp he) ho (cN hat) (by simp only [hi];rfl) ⟨g0,by omega⟩ hc (by simp only [hx];rfl)) fun w' v hv'=> ?_)⟩
     have hle:z.toNat*wd d≤(flat d a.l).length:=by rw [aF,a.h];exact Df _ (by omega)
     rw [aA,←hwd.1] at hv'
     simp only [segA] at hv'
     rw [Do hle,gq g1,Ds] at hv'
     simp only [ex,ex0,dr]
     exact hv'.adr_pre
    ·cases h
   ·rename_i l hnot hx
    rcases C6 h with ⟨hb,h⟩ | ⟨_,h⟩
    ·have hz:=of_decide_eq_true hb
     split at h
     ·rename_i s hs
      obtain ⟨h1,h2⟩:=fD _ _ _ _ hs
      exact ⟨_,h,fun n0 Bx w B η ρv inv he=>.of rfl (fun _ _ h=>by simp [ex,ex0] at h) (ec (ρA:=fun y=>ex (ρ y)) (bV hp he) ho (cN hat) (by simp only [hi];rfl) hz hc (by simp [hx,ex,ex0,gN,h1]))⟩
     ·cases h
    ·cases h
   ·rename_i id d ii oo hx
    split at h
    ·obtain ⟨j,hj,hz,h⟩:=qp h
     exact ⟨_,h,fun n0 Bx w B η ρv inv he=>.of rfl (fun _ _ h=>by simp [ex,ex0] at h) (ec (ρA:=fun y=>ex (ρ y)) (bV hp he) ho (cN hat) (z:=z) (by simp only [hi];rfl) (by omega) hc (by simp [hx,hz,ex,ex0,gN,Nat.add_assoc]))⟩
    ·cases h
   ·cases h
 ·cases h
theorem aam {x:Operand}{i:Nat}{k:V→Tree R}{res:R}(hp:cn ρ o)(ho:o.op= .extract x i)(h:(rV (ρ x) i k).run=some res):∃ r,(k r).run=some res∧Does P H ρ o r:=by
 unfold rV at h
 split at h
 ·rename_i l hx
  have key:∀ r,l[i]? =some r→ex0 r=ex r→r.plain=true→(∀ l k,ex r≠.fresh l k)→Does P H ρ o r:=fun r hr h0 h1 h2 n0 Bx w B η ρv inv he=>
   .of h1 h2 (xW (ρA:=fun y=>ex (ρ y)) (bV hp he) ho (l:=l.map ex0) (by simp only [hx];rfl) (by rw [List.getElem?_map,hr,DB,h0]))
  split at h
  all_goals first | cases h | (rename_i hr;exact ⟨_,h,key _ hr rfl rfl (fun _ _ h=>by simp [ex,ex0] at h)⟩)
 ·cases h
theorem cm {x:V}{k:Int→Tree R}{res:R}(h:(intK x k).run=some res):∃ kk z,x= .c (.int kk z)∧(k z).run=some res:=by
 unfold intK at h
 split at h
 ·exact ⟨_,_,rfl,h⟩
 ·cases h
theorem aef {t:TypeId}{x:Operand}{lo hi:Option Operand}{k:V→Tree R}{res:R}(hp:cn ρ o)(ho:o.op= .slice t x lo hi none)(h:(aaQ P ρ t (ρ x) lo hi k).run=some res):∃ r,(k r).run=some res∧Does P H ρ o r:=by
 unfold aaQ at h
 split at h
 ·rename_i e het
  split at h
  ·rename_i d l hv
   split at h
   ·rename_i hwd
    have hdiv:(flat d l).length / wd d=l.length:=by rw [aF];exact Dx _ (by omega)
    have key:∀ (a b:Nat),ca (fun y=>eL P e (ρ y)) 0 lo=some a→ca (fun y=>eL P e (ρ y)) l.length hi=some b→a≤b→b≤l.length→Does P H ρ o (.lst d ((l.drop a).take (b-a))):=fun a b ha hb hab hbl n0 Bx w B η ρv inv he=>by
     refine .of rfl (fun _ _ h=>by simp [ex,ex0] at h) ?_
     have:=aha (P:=P) (ρA:=fun y=>eL P e (ρ y)) (n0:=n0) (BF e hp he) ho (aX het) (vL hv) hwd.1 ha (by rw [hdiv];exact hb) hab (by rw [aF];exact Df _ hbl)
     simp only [ex,ex0,iS,kF]
     exact this
    split at h
    ·have:=key 0 l.length rfl rfl (DI _) (Dg _)
     simp only [Dz,DL,List.take_length] at this
     exact ⟨_,h,this⟩
    ·obtain ⟨kk,z,hz,h⟩:=cm h
     obtain ⟨m,hm,h⟩:=Dd h
     unfold b9 at hm
     split at hm
     ·rename_i hc
      injection hm with hm;subst hm
      have:=key z.toNat l.length (by simp [ca,hz,abr,hc.1]) rfl (by omega) (Dg _)
      rw [Dk (by rw [Dt];exact Dg _)] at this
      exact ⟨_,h,this⟩
     ·cases hm
    ·obtain ⟨kk,z,hz,h⟩:=cm h
     obtain ⟨m,hm,h⟩:=Dd h
     unfold cR at hm
     split at hm
     ·rename_i hc
      injection hm with hm;subst hm
      have:=key 0 z.toNat rfl (by simp [ca,hz,abr,hc.1]) (DI _) (by omega)
      rw [Dz,DL] at this
      exact ⟨_,h,this⟩
     ·cases hm
    ·obtain ⟨kk,z,hz,h⟩:=cm h
     obtain ⟨kk2,z2,hz2,h⟩:=cm h
     obtain ⟨m,hm,h⟩:=Dd h
     unfold subI at hm
     split at hm
     ·rename_i hc
      injection hm with hm;subst hm
      exact ⟨_,h,key z.toNat z2.toNat (by simp [ca,hz,abr,hc.1]) (by simp [ca,hz2,abr];omega) (by omega) (by omega)⟩
     ·cases hm
   ·cases h
  ·cases h
 ·cases h
theorem acT {t:TypeId}{x hi mx:Operand}{k:V→Tree R}{res:R}(hp:cn ρ o)(ho:o.op= .slice t x none (some hi) (some mx))(h:(Cn P t (ρ x) (ρ hi) (ρ mx) k).run=some res):∃ r,(k r).run=some res∧Does P H ρ o r:=by
 unfold Cn at h
 split at h
 ·rename_i e k1 k2 het hhi hmx
  split at h
  ·cases h
  ·rename_i hc
   split at h
   ·rename_i A0 c0 hx
    exact ⟨_,h,fun n0 Bx w B η ρv inv he=>.of rfl (fun _ _ h=>by simp [ex,ex0] at h) (acS (ρA:=fun y=>ex (ρ y)) (A:=A0) (c:=c0) (bV hp he) ho (aX het) (by simp only [hx];rfl) hc (by simp only [hhi];rfl) (by simp only [hmx];rfl))⟩
   split at h
   ·rename_i s hv
    exact ⟨_,h,fun n0 Bx w B η ρv inv he=>.of rfl (fun _ _ h=>by simp [ex,ex0] at h) (aeg (ρA:=fun y=>eL P e (ρ y)) (BF e hp he) ho (aX het) (vL hv) hc (show eL P e (ρ hi)= .c (.int k1 0) by rw [hhi];rfl) (show eL P e (ρ mx)= .c (.int k2 0) by rw [hmx];rfl))⟩
   ·cases h
 ·cases h
end
mutual
def kB (P:Program):Nat→TypeId→Td→Bool
 | 0,_,_=>false
 | n+1,t,d=>P.cellsOf t==wd d&&(match P.underlying t,d with
  | some (.int k),.int k'=>decide (k=k')
  | some .bool,.bool=>true
  | some .string,.str=>true
  | some (.slice e),.sl d=>decide (1≤wd d)&&kB P n e d
  | some (.array m e),.arr m' d=>m==m'&&kB P n e d
  | some (.struct fs),d=>layFs P n fs.toList 0 d
  | _,_=>false)
def layFs (P:Program):Nat→List Field→Nat→Td→Bool
 | 0,_,_,_=>false
 | n+1,fs,o,d=>match fs with
  | []=>false
  | [f]=>f.offset==o&&kB P n f.type d
  | f::g::fs=>(match d with
   | .pair d e=>f.offset==o&&kB P n f.type d&&layFs P n (g::fs) (o+wd d) e
   | _=>false)
end
theorem cV {P:Program}{n:Nat}{t:TypeId}{d:Td}(h:kB P n t d=true):P.cellsOf t=wd d:=by
 cases n with
 | zero=>simp [kB] at h
 | succ n=>simp only [kB,C8,beq_iff_eq] at h;exact h.1
def isAgg:V→Bool
 | .agg _ | .arr _ _ _ | .c (.agg _)=>true
 | _=>false
theorem xM {x:V}(h:isAgg x=true):(∃ l,x= .agg l)∨(∃ d n a,x= .arr d n a)∨∃ cs,x= .c (.agg cs):=by
 unfold isAgg at h
 split at h
 ·exact .inl ⟨_,rfl⟩
 ·exact .inr (.inl ⟨_,_,_,rfl⟩)
 ·exact .inr (.inr ⟨_,rfl⟩)
 ·cases h
theorem Arr.ext' {α:Type}{n:Nat}{a b:Arr α n}(h:a.l=b.l):a=b:=by cases a;cases b;cases h;rfl
instance decArr {α:Type} {n:Nat} [DecidableEq α]:DecidableEq (Arr α n):=fun a b=>decidable_of_iff (a.l=b.l) ⟨Arr.ext',fun h=>congrArg _ h⟩
def decT:(d:Td)→DecidableEq (T d)
 | .int _=>Int.instDecidableEq
 | .bool=>instDecidableEqBool
 | .str=>instDecidableEqList
 | .sl d=>@instDecidableEqList _ (decT d)
 | .arr n d=>@decArr _ n (decT d)
 | .pair d e=>@instDecidableEqProd _ _ (decT d) (decT e)
def eqD:Td→Bool
 | .int _ | .bool | .str=>true
 | .sl _=>false
 | .arr _ d=>eqD d
 | .pair d e=>eqD d&&eqD e
def wfB:(d:Td)→T d→Bool
 | .int k,n=>(Lit.int k n).wf
 | .bool,_=>true
 | .str,s=>decide (s.length≤maxLen)
 | .sl _,_=>true
 | .arr n d,a=>a.l.all (wfB d)
 | .pair d e,x=>wfB d x.1&&wfB e x.2
def lits:(d:Td)→T d→List Lit
 | .int k,n=>[.int k n]
 | .bool,b=>[.bool b]
 | .str,s=>[.string s]
 | .sl _,_=>[]
 | .arr n d,a=>a.l.flatMap (lits d)
 | .pair d e,x=>lits d x.1++lits e x.2
def gO:(d:Td)→T d→List Value
 | .int k,n=>[.int k n]
 | .bool,b=>[.bool b]
 | .str,s=>[.string ⟨s.toArray⟩]
 | .sl _,_=>[]
 | .arr n d,a=>a.l.flatMap (gO d)
 | .pair d e,x=>gO d x.1++gO e x.2
theorem gv:∀ (d:Td) (x:T d),eqD d=true→cells d x=(gO d x).map .c
 | .int _,_,_=>rfl
 | .bool,_,_=>rfl
 | .str,_,_=>rfl
 | .sl _,_,h=>by cases h
 | .arr n d,a,h=>by
  simp only [cells,gO,List.map_flatMap]
  exact congrArg (fun f=>List.flatMap f a.l) (funext fun x=>gv d x h)
 | .pair d e,x,h=>by
  simp only [eqD,C8] at h
  simp only [cells,gO,DN,gv d x.1 h.1,gv e x.2 h.2]
theorem fF (d:Td)(x:T d)(h:eqD d=true):(gO d x).length=wd d:=by
 have:=congrArg List.length (gv d x h)
 rw [bk,Dc] at this
 exact this.symm
theorem kA:∀ (d:Td) (x y:T d),eqD d=true→(lits d x).length=(lits d y).length
 | .int _,_,_,_=>rfl
 | .bool,_,_,_=>rfl
 | .str,_,_,_=>rfl
 | .sl _,_,_,h=>by cases h
 | .arr n d,a,b,h=>by
  obtain ⟨la,ha⟩:=a
  obtain ⟨lb,hb⟩:=b
  simp only [lits]
  have hlen:la.length=lb.length:=by rw [ha,hb]
  clear ha hb
  induction la generalizing lb with
  | nil=>cases lb with | nil=>rfl | cons _ _=>simp at hlen
  | cons x la ih=>cases lb with
   | nil=>simp at hlen
   | cons y lb=>
    simp only [List.flatMap_cons,Dq]
    rw [kA d x y h,ih lb (by simpa using hlen)]
 | .pair d e,x,y,h=>by
  simp only [eqD,C8] at h
  simp only [lits,Dq,kA d x.1 y.1 h.1,kA e x.2 y.2 h.2]
theorem ut:∀ (d:Td) (x y:T d),eqD d=true→lits d x=lits d y→x=y
 | .int _,_,_,_,h=>by simp only [lits,List.cons.injEq,Lit.int.injEq,and_true,true_and] at h;exact h
 | .bool,_,_,_,h=>by simp only [lits,List.cons.injEq,Lit.bool.injEq,and_true] at h;exact h
 | .str,_,_,_,h=>by simp only [lits,List.cons.injEq,Lit.string.injEq,and_true] at h;exact h
 | .sl _,_,_,h,_=>by cases h
 | .arr n d,a,b,h,he=>by
  obtain ⟨la,ha⟩:=a
  obtain ⟨lb,hb⟩:=b
  simp only [lits] at he
  have hlen:la.length=lb.length:=by rw [ha,hb]
  have:la=lb:=by
   clear ha hb
   induction la generalizing lb with
   | nil=>cases lb with | nil=>rfl | cons _ _=>simp at hlen
   | cons x la ih=>cases lb with
    | nil=>simp at hlen
    | cons y lb=>
     simp only [List.flatMap_cons] at he
     obtain ⟨h1,h2⟩:=List.append_inj he (kA d x y h)
     rw [ut d x y h h1,ih lb h2 (by simpa using hlen)]
  exact Arr.ext' this
 | .pair d e,x,y,h,he=>by
  simp only [eqD,C8] at h
  simp only [lits] at he
  obtain ⟨h1,h2⟩:=List.append_inj he (kA d x.1 y.1 h.1)
  exact Prod.ext (ut d _ _ h.1 h1) (ut e _ _ h.2 h2)
section
variable {P:Program}
theorem aft (d:Td)(hd:eqD d=true)(l:List (T d))(i:Nat)(x:T d)(h:l[i]? =some x):((l.flatMap (gO d)).drop (i*wd d)).take (wd d)=gO d x:=by
 have hf:=afx d l i x h
 have hall:flat d l=(l.flatMap (gO d)).map .c:=by
  simp only [flat,List.map_flatMap]
  exact congrArg (fun f=>List.flatMap f l) (funext fun x=>gv d x hd)
 rw [hall,←List.map_drop,←List.map_take,gv d x hd] at hf
 have hinj:∀ a b:List Value,a.map AV.c=b.map AV.c→a=b:=fun a b h=>by
  have:=congrArg (List.map fun | AV.c v=>v | _=>undef) h
  simpa [DD,DH] using this
 exact hinj _ _ hf
mutual
theorem vB:∀ (n:Nat) (t:TypeId) (d:Td),kB P n t d=true→∀ (q:Nat),P.keyTypeAt q t=true→eqD d=true→∀ (x:T d),wfB d x=true→∀ m,n≤m→P.keyLits m t (gO d x)=some (lits d x)
 | 0,t,d,h=>by simp [kB] at h
 | n+1,t,d,h=>by
  intro q hq he x hw m hm
  obtain ⟨m,rfl⟩:∃ m',m=m'+1:=⟨m-1,by omega⟩
  have hc:=cV h
  simp only [kB,C8,beq_iff_eq] at h
  replace h:=h.2
  cases q with
  | zero=>simp [Program.keyTypeAt] at hq
  | succ q=>
  split at h
  ·rename_i k k' hu
   have:=of_decide_eq_true h
   subst this
   have hw:(Lit.int k x).wf=true:=hw
   simp only [DO,hu,gO,lits]
   simp [hw]
  ·rename_i hu
   simp only [DO,hu,gO,lits]
  ·rename_i hu
   have hw:=of_decide_eq_true hw
   have hsz:(Dm x.toArray).size=x.length:=by show x.toArray.size=_;simp
   simp only [DO,hu,gO,lits]
   rw [if_pos (by rw [hsz];exact hw)]
  ·cases he
  ·rename_i k e k' d' hu
   simp only [C8,beq_iff_eq] at h
   obtain ⟨rfl,h⟩:=h
   have hce:=cV h
   simp only [Program.keyTypeAt,hu] at hq
   have hw:x.l.all (wfB d')=true:=hw
   simp only [DO,hu,lits]
   rw [if_pos (by rw [fF _ _ he,hc])]
   have:(List.range k).mapM (fun i=>P.keyLits m e (((gO (.arr k d') x).drop (i*P.cellsOf e)).take (P.cellsOf e)))=some (x.l.map (lits d')):=by
    have key:∀ (j i:Nat) (l:List (T d')),(∀ y∈l,y∈x.l)→x.l.drop i=l→j=l.length→(List.range' i j).mapM (fun i=>P.keyLits m e (((gO (.arr k d') x).drop (i*P.cellsOf e)).take (P.cellsOf e)))=some (l.map (lits d')):=by
     intro j
     induction j with
     | zero=>intro i l hl hd hj;cases l with | nil=>rfl | cons _ _=>simp at hj
     | succ j ih=>
      intro i l hl hd hj
      cases l with
      | nil=>simp at hj
      | cons y l=>
       have hi:x.l[i]? =some y:=by
        have:=congrArg (·[0]?) hd
        simpa using this
       have h1:P.keyLits m e (((gO (.arr k d') x).drop (i*P.cellsOf e)).take (P.cellsOf e))=some (lits d' y):=by
        rw [hce]
        rw [show gO (.arr k d') x=x.l.flatMap (gO d') from rfl,aft d' he x.l i y hi]
        exact vB n e d' h q hq he y (Dh.1 hw y (hl y List.mem_cons_self)) m (by omega)
       have h2:x.l.drop (i+1)=l:=by rw [←List.drop_drop,hd];rfl
       rw [List.range'_succ,List.mapM_cons,h1,ih (i+1) l (fun z hz=>hl z (List.mem_cons_of_mem _ hz)) h2 (by simpa using hj)]
       rfl
    rw [List.range_eq_range']
    exact key k 0 x.l (fun y hy=>hy) rfl x.h.symm
   rw [this]
   simp [List.flatMap]
  ·rename_i d x1 d1 fs hu
   simp only [Program.keyTypeAt,hu,C8,Bool.not_eq_true'] at hq
   have hfq:∀ f∈fs.toList,f.name≠ "_" ∧P.keyTypeAt q f.type=true:=fun f hf=>by
    have:=Array.all_eq_true_iff_forall_mem.1 hq.1.1 f (Array.mem_toList_iff.1 hf)
    simp only [C8,bne_iff_ne,ne_eq] at this
    exact this
   obtain ⟨ls,h1,h2⟩:=fs_ok n fs.toList 0 d h q hfq he x hw m (by omega) [] rfl
   simp only [DC] at h1
   have hnm:fs.all (·.name != "_")=true:=Array.all_eq_true_iff_forall_mem.2 fun f hf=>by
    simp only [bne_iff_ne,ne_eq]
    exact (hfq f (Array.mem_toList_iff.2 hf)).1
   have hl:=fF d x he
   unfold DO
   simp only [hu]
   have hgo:(if (gO d x).length=P.cellsOf t∧fs.all (·.name != "_")=true then (fs.toList.mapM fun f=>P.keyLits m f.type (((gO d x).drop f.offset).take (P.cellsOf f.type))).map List.flatten else none)=some (lits d x):=by
    rw [if_pos ⟨by rw [hl,hc],hnm⟩,h1,←h2]
    rfl
   generalize gO d x=vs at hgo ⊢
   exact hgo
  ·cases h
theorem fs_ok:∀ (n:Nat) (fs:List Field) (o:Nat) (d:Td),layFs P n fs o d=true→∀ (q:Nat),(∀ f∈fs,f.name≠ "_" ∧P.keyTypeAt q f.type=true)→eqD d=true→∀ (x:T d),wfB d x=true→∀ m,n≤m→∀ (pre:List Value),pre.length=o→
  ∃ ls,fs.mapM (fun f=>P.keyLits m f.type (((pre++gO d x).drop f.offset).take (P.cellsOf f.type)))=some ls∧ls.flatten=lits d x
 | 0,fs,o,d,h=>by simp [layFs] at h
 | n+1,[],o,d,h=>by simp [layFs] at h
 | n+1,[f],o,d,h=>by
  intro q hq he x hw m hm pre hpre
  simp only [layFs,C8,beq_iff_eq] at h
  obtain ⟨ho,h⟩:=h
  have h1:=vB n f.type d h q (hq f List.mem_cons_self).2 he x hw m (by omega)
  refine ⟨[lits d x], ?_,by simp⟩
  rw [List.mapM_cons,List.mapM_nil,ho,←hpre,List.drop_left,cV h,Dk (by rw [fF d x he];exact Dg _),h1]
  rfl
 | n+1,f::g::fs,o,d,h=>by
  intro q hq he x hw m hm pre hpre
  simp only [layFs] at h
  split at h
  ·rename_i d e
   simp only [C8,beq_iff_eq] at h
   obtain ⟨⟨ho,h⟩,h'⟩:=h
   simp only [eqD,C8] at he
   simp only [wfB,C8] at hw
   have h1:=vB n f.type d h q (hq f List.mem_cons_self).2 he.1 x.1 hw.1 m (by omega)
   obtain ⟨ls,h2,h3⟩:=fs_ok n (g::fs) _ e h' q (fun f hf=>hq f (List.mem_cons_of_mem _ hf)) he.2 x.2 hw.2 m (by omega) (pre++gO d x.1) (by rw [Dq,hpre,fF d x.1 he.1])
   refine ⟨lits d x.1::ls, ?_,by simp [lits,h3]⟩
   rw [Ds] at h2
   rw [List.mapM_cons]
   simp only [gO]
   rw [ho,←hpre,List.drop_left,cV h,Dw (by rw [fF d x.1 he.1];exact Dg _),Dk (by rw [fF d x.1 he.1];exact Dg _),h1,h2]
   rfl
  ·cases h
end
theorem aaZ {w:World}{B:List Nat}{η:List Value}{vs us:List Value}(h:RelL w B η (vs.map .c) us):us=vs:=by
 apply List.ext_getElem?
 intro i
 rcases DM i vs.length with hi | hi
 ·obtain ⟨u,h1,h2⟩:=h.2 i (.c vs[i]) (by rw [List.getElem?_map,List.getElem?_eq_getElem hi];rfl)
  rw [h1,List.getElem?_eq_getElem hi,Du h2]
 ·have:=h.1
  rw [Dc] at this
  rw [List.getElem?_eq_none hi,List.getElem?_eq_none (by omega)]
end
section
variable {P:Program} {H:List E2} {ρ:Operand→V} {o:Oper} {R:Type}
def vK (P:Program)(t:TypeId)(d:Td):Bool:=eqD d&&kB P 24 t d&&P.keyTypeAt 24 t&& !P.eqGuardType P.depth t&&(match P.underlying t with | some (.struct _) | some (.array _ _)=>true | _=>false)
def agd (P:Program)(op:BinOp)(t:TypeId)(x y:V)(k:V→Tree R):Tree R:=
 match tdOf P 12 t with
 | some d=>if vK P t d=true∧isAgg x=true∧isAgg y=true then (match ma x,ma y with
  | some sx,some sy=>decK d sx fun a r=>decK d sy fun b r'=>if wL r=0∧wL r'=0 then (match op with
   | .eql=>.ite (wfB d a&&wfB d b) (k (.c (.bool (@decide (a=b) (decT d a b))))) .fail
   | .neq=>.ite (wfB d a&&wfB d b) (k (.c (.bool (!(@decide (a=b) (decT d a b)))))) .fail
   | _=>.fail) else .fail
  | _,_=>.fail) else .fail
 | none=>.fail
theorem abv {d:Td}{x:V}{segs:List V}{w:World}{B:List Nat}{η:List Value}{v:Value}{a:T d}{r:List V}(hs:ma x=some segs)(hw:Wk (aD segs) (cells d a++aD r))(hr:wL r=0)(hv:Rel w B η (eu x) v):RelL w B η (cells d a) v.cells.toList:=by
 obtain ⟨s1,s2,s3⟩:=jK hs
 have hr0:aD r=[]:=C5 (by rw [oM];exact hr)
 rw [hr0,Dy] at hw
 have hL:=hv.toL (fun l e=>by rw [e] at s2;cases s2)
 rw [s1] at hL
 exact hw w B η _ hL
theorem BD {x:V}{w:World}{B:List Nat}{η:List Value}{v:Value}(h:isAgg x=true)(hv:Rel w B η (ex x) v):∃ cs,v= .agg cs:=by
 rcases xM h with ⟨l,rfl⟩ | ⟨d',n',a',rfl⟩ | ⟨cs,rfl⟩
 ·obtain ⟨cs,e,_⟩:=Rel.aggL hv;exact ⟨cs,e⟩
 ·obtain ⟨cs,e,_⟩:=Rel.aggL hv;exact ⟨cs,e⟩
 ·exact ⟨cs,Du hv⟩
theorem adt {t:TypeId}{d:Td}(hb:vK P t d=true){a b:T d}(ha:wfB d a=true)(hb':wfB d b=true){xs ys:Array Value}(hx:xs.toList=gO d a)(hy:ys.toList=gO d b)(w:World):(Op.equalIn 10000 t (.agg xs) (.agg ys)).run P w= .ok (@decide (a=b) (decT d a b)) w:=by
 simp only [vK,C8] at hb
 obtain ⟨⟨⟨⟨he,hl⟩,hk⟩,_⟩,hrow⟩:=hb
 have hform:∀ (cs:Array Value) (z:T d),cs.toList=gO d z→(Value.agg cs).formed P t=true:=fun cs z hc=>by
  have hsz:cs.size=P.cellsOf t:=by rw [←Array.length_toList,hc,fF d z he,cV hl]
  unfold Value.formed
  split at hrow
  ·rename_i hu;simp [hu,hsz]
  ·rename_i hu;simp [hu,hsz]
  ·cases hrow
 obtain ⟨r,h1,h2⟩:=run_equalIn_deep (P:=P) 9976 24 t hk w 24 24 (.agg xs) (.agg ys) (lits d a) (lits d b) (hform xs a hx) (hform ys b hy)
  (by simp only [Value.cells,hx];exact vB 24 t d hl 24 hk he a ha 24 (Dg _)) (by simp only [Value.cells,hy];exact vB 24 t d hl 24 hk he b hb' 24 (Dg _))
 rw [show 9976+24=10000 from rfl] at h1
 rw [h1]
 congr 1
 cases r with
 | true=>exact (@decide_eq_true _ (decT d a b) (ut d a b he (h2.1 rfl))).symm
 | false=>exact (@decide_eq_false _ (decT d a b) (fun h=>by have:=h2.2 (by rw [h]);cases this)).symm
theorem agc {op:BinOp}{t t2:TypeId}{x y:Operand}{k:V→Tree R}{res:R}(hp:cn ρ o)(ho:o.op= .binOp op t x y t2)(h:(agd P op t (ρ x) (ρ y) k).run=some res):∃ r,(k r).run=some res∧Does P H ρ o r:=by
 unfold agd at h
 split at h
 ·rename_i d htd
  split at h
  ·rename_i hc
   obtain ⟨hb,ax,ay⟩:=hc
   split at h
   ·rename_i sx sy hsx hsy
    obtain ⟨a,r,h1,wa⟩:=eJ _ _ _ _ h
    obtain ⟨b,r',h2,wb⟩:=eJ _ _ _ _ h1
    split at h2
    ·rename_i hr
     have main:∀ (n0:Nat) (Bx:List Nat) (w:World) (B:List Nat) (η:List Value) (ρv:Operand→Value),Inv n0 Bx w B η (H.map exE)→(∀ x∈o.op.operands,Rel2 w B η (ρ x) (ρv x)∧aM n0 (ex (ρ x)) (ρv x))→wfB d a=true→wfB d b=true→∃ xs ys,ρv x= .agg xs∧ρv y= .agg ys∧(Op.equalIn 10000 t (.agg xs) (.agg ys)).run P w= .ok (@decide (a=b) (decT d a b)) w:=by
      intro n0 Bx w B η ρv inv he wa1 wb1
      have he1:eqD d=true:=by simp only [vK,C8] at hb;exact hb.1.1.1.1
      have hx:=bV hp he x (by simp [ho,gt])
      have hy:=bV hp he y (by simp [ho,gt])
      obtain ⟨xs,ex1⟩:=BD ax hx
      obtain ⟨ys,ey1⟩:=BD ay hy
      have lx:=abv hsx wa hr.1 (eM hp he x (by simp [ho,gt]))
      have ly:=abv hsy wb hr.2 (eM hp he y (by simp [ho,gt]))
      rw [gv d a he1,ex1] at lx
      rw [gv d b he1,ey1] at ly
      exact ⟨xs,ys,ex1,ey1,adt hb wa1 wb1 (aaZ lx) (aaZ ly) w⟩
     have hg:P.eqGuardType P.depth t=false:=by simp only [vK,C8,Bool.not_eq_true'] at hb;exact hb.1.2
     split at h2
     ·rcases C6 h2 with ⟨hw,h3⟩ | ⟨_,h3⟩
      ·simp only [C8] at hw
       refine ⟨_,h3,fun n0 Bx w B η ρv inv he=>.of rfl (fun _ _ h=>by simp [ex,ex0] at h) ?_⟩
       obtain ⟨xs,ys,e1,e2,e3⟩:=main n0 Bx w B η ρv inv he hw.1 hw.2
       refine .of_run (v:=.bool (@decide (a=b) (decT d a b))) ?_ (.c _ _)
       simp only [execOp,ho,e1,e2,ne,run_eqGuard_agg w _ t x y xs ys hg,Result.andThen_ok,run_eql_struct,e3]
       rfl
      ·cases h3
     ·rcases C6 h2 with ⟨hw,h3⟩ | ⟨_,h3⟩
      ·simp only [C8] at hw
       refine ⟨_,h3,fun n0 Bx w B η ρv inv he=>.of rfl (fun _ _ h=>by simp [ex,ex0] at h) ?_⟩
       obtain ⟨xs,ys,e1,e2,e3⟩:=main n0 Bx w B η ρv inv he hw.1 hw.2
       refine .of_run (v:=.bool (!(@decide (a=b) (decT d a b)))) ?_ (.c _ _)
       simp only [execOp,ho,e1,e2,ne,run_eqGuard_agg w _ t x y xs ys hg,Result.andThen_ok,run_neq_struct,e3]
       rfl
      ·cases h3
     ·cases h2
    ·cases h2
   ·cases h
  ·cases h
 ·cases h
def ptrT (P:Program)(t:TypeId):Option TypeId:=match P.underlying t with
 | some (.pointer e)=>some e
 | _=>none
theorem pg {t e:TypeId}(h:ptrT P t=some e):P.underlying t=some (.pointer e):=by
 unfold ptrT at h
 split at h
 ·rename_i hu;injection h with h;subst h;exact hu
 ·cases h
def niK (P:Program)(op:BinOp)(t:TypeId)(x y:V)(k:V→Tree R):Tree R:=
 match x,y with
 | .nn,.c .nilIface=>(match P.isIface t,op with
  | true,.eql=>k (.c (.bool false))
  | true,.neq=>k (.c (.bool true))
  | _,_=>.fail)
 | .c .nilIface,.c .nilIface=>(match P.isIface t,op with
  | true,.eql=>k (.c (.bool true))
  | true,.neq=>k (.c (.bool false))
  | _,_=>.fail)
 | _,_=>.fail
theorem arL {op:BinOp}{t t2:TypeId}{x y:Operand}{k:V→Tree R}{res:R}(hp:cn ρ o)(ho:o.op= .binOp op t x y t2)(hy0:y= .const .nilIface)(h:(niK P op t (ρ x) (ρ y) k).run=some res):∃ r,(k r).run=some res∧Does P H ρ o r:=by
 subst hy0
 have hinx:x∈o.op.operands:=by simp [ho,gt]
 have hiny:(.const .nilIface:Operand)∈o.op.operands:=by simp [ho,gt]
 unfold niK at h
 split at h
 ·rename_i hx hy
  have key:∀ (b:Bool),P.isIface t=true→((op= .eql∧b=false)∨(op= .neq∧b=true))→Does P H ρ o (.c (.bool b)):=fun b hu hb n0 Bx w B η ρv inv he=>by
   refine .of rfl (fun _ _ h=>by simp [ex,ex0] at h) ?_
   have h1:=bV hp he x hinx
   have h2:=bV hp he _ hiny
   rw [hx] at h1;rw [hy] at h2
   have h2:=Du h2
   have h1':∃ tx vx,ρv x= .iface tx vx:=by generalize ρv x=v at h1;cases h1;exact ⟨_,_,rfl⟩
   obtain ⟨tx,vx,h1'⟩:=h1'
   refine .of_run (v:=.bool b) ?_ (.c _ _)
   rcases hb with ⟨rfl,rfl⟩ | ⟨rfl,rfl⟩
   ·simp [execOp,ho,h1',h2,ne,eqGuard,run_eql_iface_nil w t hu]
   ·simp [execOp,ho,h1',h2,ne,eqGuard,run_neq_iface_nil w t hu]
  split at h
  ·rename_i hu;exact ⟨_,h,key _ hu (.inl ⟨rfl,rfl⟩)⟩
  ·rename_i hu;exact ⟨_,h,key _ hu (.inr ⟨rfl,rfl⟩)⟩
  ·cases h
 ·rename_i hx hy
  have key:∀ (b:Bool),P.isIface t=true→((op= .eql∧b=true)∨(op= .neq∧b=false))→Does P H ρ o (.c (.bool b)):=fun b hu hb n0 Bx w B η ρv inv he=>by
   refine .of rfl (fun _ _ h=>by simp [ex,ex0] at h) ?_
   have h1:=bV hp he x hinx
   have h2:=bV hp he _ hiny
   rw [hx] at h1;rw [hy] at h2
   have h1:=Du h1
   have h2:=Du h2
   refine .of_run (v:=.bool b) ?_ (.c _ _)
   rcases hb with ⟨rfl,rfl⟩ | ⟨rfl,rfl⟩
   ·simp [execOp,ho,h1,h2,ne,eqGuard_nil_constR,run_eql_nil_nil_at w t hu]
   ·simp [execOp,ho,h1,h2,ne,eqGuard_nil_constR,run_neq_nil_nil_at w t hu]
  split at h
  ·rename_i hu;exact ⟨_,h,key _ hu (.inl ⟨rfl,rfl⟩)⟩
  ·rename_i hu;exact ⟨_,h,key _ hu (.inr ⟨rfl,rfl⟩)⟩
  ·cases h
 ·cases h
def aig (P:Program)(op:BinOp)(t:TypeId)(x y:V)(k:V→Tree R):Tree R:=
 match x,y with
 | .box _ _,.c (.pointer none)=>(match ptrT P t,op with
  | some _,.eql=>k (.c (.bool false))
  | some _,.neq=>k (.c (.bool true))
  | _,_=>.fail)
 | .c (.pointer none),.c (.pointer none)=>(match ptrT P t,op with
  | some _,.eql=>k (.c (.bool true))
  | some _,.neq=>k (.c (.bool false))
  | _,_=>.fail)
 | .str a,.str b=>(match op with
  | .add=>.ite (decide (a.length+b.length≤maxLen)) (k (.str (a++b))) .fail
  | _=>.fail)
 | .c (.string a),.str b=>(match op with
  | .add=>.ite (decide (a.data.toList.length+b.length≤maxLen)) (k (.str (a.data.toList++b))) .fail
  | _=>.fail)
 | .str a,.c (.string b)=>(match op with
  | .add=>.ite (decide (a.length+b.data.toList.length≤maxLen)) (k (.str (a++b.data.toList))) .fail
  | _=>.fail)
 | x,y=>agd P op t x y k
theorem afP {n0:Nat}{w:World}{B:List Nat}{η:List Value}{ρv:Operand→Value}{t t':TypeId}{x y:Operand}{a b:List UInt8}(ho:o.op= .binOp .add t x y t')(h1:ρv x= .string ⟨a.toArray⟩)(h2:ρv y= .string ⟨b.toArray⟩)(hb:a.length+b.length≤maxLen):OpOK P n0 w ρv o B η (.c (.string ⟨(a++b).toArray⟩)):=by
 have hs1:(Dm a.toArray).size=a.length:=by show a.toArray.size=_;simp
 have hs2:(Dm b.toArray).size=b.length:=by show b.toArray.size=_;simp
 have hcat:(Dm a.toArray)++(Dm b.toArray)=⟨(a++b).toArray⟩:=by
  apply ByteArray.ext
  rw [ByteArray.data_append]
  apply DJ
  simp
 have hlim:¬ (((a.length+b.length:Nat):Int) > IntKind.i64.max):=by
  have:(maxLen:Int)≤IntKind.i64.max:=by decide
  omega
 refine .of_run (v:=.string ⟨(a++b).toArray⟩) ?_ (.c _ _)
 simp only [execOp,ho,h1,h2,ne]
 simp only [eqGuard,binOp,Op.stringOp,hs1,hs2,hcat]
 rw [if_neg hlim]
 rfl
theorem abD {op:BinOp}{t t2:TypeId}{x y:Operand}{k:V→Tree R}{res:R}(hp:cn ρ o)(ho:o.op= .binOp op t x y t2)(h:(aig P op t (ρ x) (ρ y) k).run=some res):∃ r,(k r).run=some res∧Does P H ρ o r:=by
 have hinx:x∈o.op.operands:=by simp [ho,gt]
 have hiny:y∈o.op.operands:=by simp [ho,gt]
 unfold aig at h
 split at h
 ·rename_i id off hx hy
  have key:∀ (b:Bool) (e:TypeId),P.underlying t=some (.pointer e)→((op= .eql∧b=false)∨(op= .neq∧b=true))→Does P H ρ o (.c (.bool b)):=fun b e hu hb n0 Bx w B η ρv inv he=>by
   refine .of rfl (fun _ _ h=>by simp [ex,ex0] at h) ?_
   have h1:=bV hp he x hinx
   have h2:=bV hp he y hiny
   rw [hx] at h1;rw [hy] at h2
   have h2:=Du h2
   have h1':∃ q,ρv x= .pointer (some q):=by generalize ρv x=v at h1;cases h1;exact ⟨_,rfl⟩
   obtain ⟨q,h1'⟩:=h1'
   have hu':P.underlying t=some (.pointer (P.pointee t)):=by simp [Program.pointee,hu]
   refine .of_run (v:=.bool b) ?_ (.c _ _)
   rcases hb with ⟨rfl,rfl⟩ | ⟨rfl,rfl⟩
   ·simp [execOp,ho,h1',h2,ne,eqGuard,run_eql_pointer_nil w t (some q) hu']
   ·simp [execOp,ho,h1',h2,ne,eqGuard,run_neq_pointer_nil w t (some q) hu']
  split at h
  ·rename_i e he;exact ⟨_,h,key _ _ (pg he) (.inl ⟨rfl,rfl⟩)⟩
  ·rename_i e he;exact ⟨_,h,key _ _ (pg he) (.inr ⟨rfl,rfl⟩)⟩
  ·cases h
 ·rename_i hx hy
  have key:∀ (b:Bool) (e:TypeId),P.underlying t=some (.pointer e)→((op= .eql∧b=true)∨(op= .neq∧b=false))→Does P H ρ o (.c (.bool b)):=fun b e hu hb n0 Bx w B η ρv inv he=>by
   refine .of rfl (fun _ _ h=>by simp [ex,ex0] at h) ?_
   have h1:=bV hp he x hinx
   have h2:=bV hp he y hiny
   rw [hx] at h1;rw [hy] at h2
   have h1:=Du h1
   have h2:=Du h2
   have hu':P.underlying t=some (.pointer (P.pointee t)):=by simp [Program.pointee,hu]
   refine .of_run (v:=.bool b) ?_ (.c _ _)
   rcases hb with ⟨rfl,rfl⟩ | ⟨rfl,rfl⟩
   ·simp [execOp,ho,h1,h2,ne,eqGuard,run_eql_pointer_nil w t none hu']
   ·simp [execOp,ho,h1,h2,ne,eqGuard,run_neq_pointer_nil w t none hu']
  split at h
  ·rename_i e he;exact ⟨_,h,key _ _ (pg he) (.inl ⟨rfl,rfl⟩)⟩
  ·rename_i e he;exact ⟨_,h,key _ _ (pg he) (.inr ⟨rfl,rfl⟩)⟩
  ·cases h
 ·rename_i a b hx hy
  split at h
  ·rcases C6 h with ⟨hb,h⟩ | ⟨_,h⟩
   ·have hb:=of_decide_eq_true hb
    refine ⟨_,h,fun n0 Bx w B η ρv inv he=>.of rfl (fun _ _ h=>by simp [ex,ex0] at h) ?_⟩
    have h1:=bV hp he x hinx
    have h2:=bV hp he y hiny
    rw [hx] at h1;rw [hy] at h2
    exact afP ho (Du h1) (Du h2) hb
   ·cases h
  ·cases h
 ·rename_i a b hx hy
  split at h
  ·rcases C6 h with ⟨hb,h⟩ | ⟨_,h⟩
   ·have hb:=of_decide_eq_true hb
    refine ⟨_,h,fun n0 Bx w B η ρv inv he=>.of rfl (fun _ _ h=>by simp [ex,ex0] at h) ?_⟩
    have h1:=bV hp he x hinx
    have h2:=bV hp he y hiny
    rw [hx] at h1;rw [hy] at h2
    exact afP ho (by rw [Du h1]) (Du h2) hb
   ·cases h
  ·cases h
 ·rename_i a b hx hy
  split at h
  ·rcases C6 h with ⟨hb,h⟩ | ⟨_,h⟩
   ·have hb:=of_decide_eq_true hb
    refine ⟨_,h,fun n0 Bx w B η ρv inv he=>.of rfl (fun _ _ h=>by simp [ex,ex0] at h) ?_⟩
    have h1:=bV hp he x hinx
    have h2:=bV hp he y hiny
    rw [hx] at h1;rw [hy] at h2
    exact afP ho (Du h1) (by rw [Du h2]) hb
   ·cases h
  ·cases h
 ·exact agc hp ho h
theorem Ax {n0:Nat}{w:World}{B:List Nat}{η:List Value}{ρv:Operand→Value}{ρA:Operand→AV}(he:∀ x∈o.op.operands,Rel w B η (ρA x) (ρv x)){t e:TypeId}{x:Operand}{lo hi:Option Operand}{l:List AV}{m k a b:Nat}(ho:o.op= .slice t x lo hi none)(hu:P.underlying t=some (.array m e))(hx:ρA x= .adr l)(hm:m≤maxLen)
  (hk:k=P.cellsOf e) (hk1:1≤k) (hml:m*k≤l.length) (hlo:ca ρA 0 lo=some a) (hhi:ca ρA m hi=some b) (hab:a≤b) (hb:b≤m):OpOK P n0 w ρv o B η (.sl ((l.drop (a*k)).take ((b-a)*k)) k):=by
 have hel:∀ y,lo=some y→Rel w B η (ρA y) (ρv y):=fun y h=>he y (by simp [ho,gt,h])
 have heh:∀ y,hi=some y→Rel w B η (ρA y) (ρv y):=fun y h=>he y (by simp [ho,gt,h])
 have h1:=he x (by simp [ho,gt])
 rw [hx] at h1
 have h1':∃ ad us,ρv x= .pointer (some ad)∧At w B ad l.length us∧∀ i y,l[i]? =some y→Rel w B [] y (us i):=by
  generalize ρv x=v at h1
  cases h1 with
  | adr _ _ ad us ha hr=>exact ⟨ad,us,rfl,ha,hr⟩
 obtain ⟨ad,us,hv,hat,hr⟩:=h1'
 obtain ⟨ii,hii,hs⟩:=bN (t:=e) (P:=P) (by omega)
 refine .of_run (v:=.slice (some (if m=a then ad else ad.add (a*k))) (b-a) (m-a)) ?_ ?_
 ·have hbounds:(Di false m m (lo.map ρv) (hi.map ρv) none).run P w= .ok (a,b,m) w:=by
   have hb':∀ z:Int,b=z.toNat→0≤z→z≤(m:Int):=by omega
   have ha':∀ z:Int,a=z.toNat→0≤z→z≤(b:Int):=by omega
   rcases cB hel hlo with ⟨rfl,rfl⟩ | ⟨y,kk,z,rfl,hy,hz,hza⟩
   ·rcases cB heh hhi with ⟨rfl,rfl⟩ | ⟨y2,kk2,z2,rfl,hy2,hz2,hzb⟩
    ·simp [Di,ne]
    ·subst hzb
     simp [Di,ne,hy2,aI (P:=P) ⟨hz2,hb' _ rfl hz2⟩]
   ·subst hza
    rcases cB heh hhi with ⟨rfl,rfl⟩ | ⟨y2,kk2,z2,rfl,hy2,hz2,hzb⟩
    ·simp [Di,ne,hy,aI (P:=P) ⟨hz,ha' _ rfl hz⟩]
    ·subst hzb
     simp [Di,ne,hy,hy2,aI (P:=P) ⟨hz2,hb' _ rfl hz2⟩,aI (P:=P) ⟨hz,ha' _ rfl hz⟩]
  simp [execOp,ho,Instr.sliceAt,Instr.sureAddr,ne,run_underlying hu,hv,hbounds,bG hii,hs,hk]
 ·have hlen:((l.drop (a*k)).take ((b-a)*k)).length=(b-a)*k:=by
   rw [Dv,Dt]
   refine DP ?_
   have:(b-a)*k+a*k≤l.length:=by rw [←Nat.add_mul];exact Nat.le_trans (Df k (by omega)) hml
   omega
  refine .sl _ _ _ _ _ _ (fun i=>us (a*k+i)) hk1 hlen.symm (by omega) (by omega) (fun h0=> ?_) (fun i y hy=> ?_)
  ·rw [if_neg (by omega)]
   refine ⟨_,rfl, ?_⟩
   have:=hat.shift (a*k)
   exact ⟨this.spot,this.lt,this.out,fun i hi=>this.cell i (by
    rw [hlen] at hi
    have:(b-a)*k+a*k≤l.length:=by rw [←Nat.add_mul];exact Nat.le_trans (Df k (by omega)) hml
    omega)⟩
  ·rw [List.getElem?_take] at hy
   split at hy
   ·rw [List.getElem?_drop] at hy;exact hr _ y hy
   ·cases hy
def ru (P:Program)(ρ:Operand→V)(m:Nat)(e:TypeId)(x:V)(lo hi:Option Operand)(k:V→Tree R):Tree R:=
 match x with
 | .adr (.arr d n a::_)=>if n=m∧wd d=P.cellsOf e∧1≤wd d∧m≤maxLen then (match lo,hi with
   | none,none=>k (.lst d a.l)
   | some lo,none=>intK (ρ lo) fun z=>.bind (b9 a.l z) fun s=>k (.lst d s)
   | none,some hi=>intK (ρ hi) fun z=>.bind (cR a.l z) fun s=>k (.lst d s)
   | some lo,some hi=>intK (ρ lo) fun z=>intK (ρ hi) fun z2=>.bind (subI a.l z z2) fun s=>k (.lst d s)) else .fail
 | .box id 0=>(match lo,hi with
   | none,none=>if 1≤P.cellsOf e then k (.bsl id m) else .fail
   | _,_=>.fail)
 | _=>.fail
theorem uH {t e:TypeId}{m id:Nat}{x:Operand}(hp:cn ρ o)(ho:o.op= .slice t x none none none)(hu:P.underlying t=some (.array m e))(hx:ρ x= .box id 0)(hc:1≤P.cellsOf e)(H:List E2):Does P H ρ o (.bsl id m):=by
 intro n0 Bx w B η ρv inv he N hN
 have hx0:=bV hp he x (by simp [ho,gt])
 rw [hx] at hx0
 have hx0:Rel w B η (.box id 0) (ρv x):=hx0
 have hx1:∃ b,ρv x= .pointer (some ⟨b,0,none⟩)∧η[id]? =some (.pointer (some ⟨b,0,none⟩)):=by
  generalize ρv x=v at hx0
  cases hx0 with
  | box _ _ _ b hid=>exact ⟨b,rfl,hid⟩
 obtain ⟨b,hv,hid⟩:=hx1
 obtain ⟨ii,hii,hs⟩:=bN (t:=e) (P:=P) (by omega)
 have hbounds:(Di false m m none none none).run P w= .ok (0,m,m) w:=by simp [Di,ne]
 have hadd:(⟨b,0,none⟩:Addr).add 0=⟨b,0,none⟩:=by rw [DE]
 unfold DA
 have hrun:(execOp ρv o).run P w= .ok (.value (.slice (some ⟨b,0,none⟩) m m)) w:=by
  simp [execOp,ho,Instr.sliceAt,Instr.sureAddr,ne,run_underlying hu,hv,hbounds,bG hii,hs,hadd]
 rw [hrun]
 exact hN _ _ (Gk.refl _ _ w) ⟨b,hid,rfl⟩ (fun h=>by cases h)
theorem Ay {t e:TypeId}{m:Nat}{x:Operand}{lo hi:Option Operand}{k:V→Tree R}{res:R}(hp:cn ρ o)(ho:o.op= .slice t x lo hi none)(hu:P.underlying t=some (.array m e))(h:(ru P ρ m e (ρ x) lo hi k).run=some res):∃ r,(k r).run=some res∧Does P H ρ o r:=by
 unfold ru at h
 split at h
 ·rename_i d n arr rest hx
  split at h
  ·rename_i hc
   obtain ⟨rfl,hwd,hw1,hm⟩:=hc
   have hal:=arr.h
   have key:∀ (a b:Nat),ca (fun y=>ex (ρ y)) 0 lo=some a→ca (fun y=>ex (ρ y)) n hi=some b→a≤b→b≤n→Does P H ρ o (.lst d ((arr.l.drop a).take (b-a))):=fun a b ha hb hab hbl n0 Bx w B η ρv inv he=>by
    refine .of rfl (fun _ _ h=>by simp [ex,ex0] at h) ?_
    have hfl:(flat d arr.l).length=n*wd d:=by rw [aF,hal]
    have:=Ax (P:=P) (ρA:=fun y=>ex (ρ y)) (n0:=n0) (bV hp he) ho hu (l:=flat d arr.l++aD rest) (by rw [hx];simp [ex,ex0,aA,segA]) hm hwd hw1 (by rw [Dq,hfl];omega) ha hb hab hbl
    rw [Do (by rw [hfl];exact Df _ (by omega)),Dw (by rw [Dt,hfl,←Nat.sub_mul];exact Df _ (by omega))] at this
    simp only [ex,ex0,iS,kF]
    exact this
   have exi:∀ (y:Operand) kk z,ρ y= .c (.int kk z)→ex (ρ y)= .c (.int kk z):=fun y kk z h=>by rw [h];rfl
   split at h
   ·have:=key 0 n rfl rfl (DI _) (Dg _)
    rw [Dz,DL,Dk (by rw [hal];exact Dg _)] at this
    exact ⟨_,h,this⟩
   ·obtain ⟨kk,z,hz,h⟩:=cm h
    obtain ⟨s,hs,h⟩:=Dd h
    unfold b9 at hs
    split at hs
    ·rename_i hc
     injection hs with hs;subst hs
     have:=key z.toNat n (by simp [ca,exi _ _ _ hz,hc.1]) rfl (by omega) (Dg _)
     rw [Dk (by rw [Dt,hal];exact Dg _)] at this
     exact ⟨_,h,this⟩
    ·cases hs
   ·obtain ⟨kk,z,hz,h⟩:=cm h
    obtain ⟨s,hs,h⟩:=Dd h
    unfold cR at hs
    split at hs
    ·rename_i hc
     injection hs with hs;subst hs
     have:=key 0 z.toNat rfl (by simp [ca,exi _ _ _ hz,hc.1]) (DI _) (by omega)
     rw [Dz,DL] at this
     exact ⟨_,h,this⟩
    ·cases hs
   ·obtain ⟨kk,z,hz,h⟩:=cm h
    obtain ⟨kk2,z2,hz2,h⟩:=cm h
    obtain ⟨s,hs,h⟩:=Dd h
    unfold subI at hs
    split at hs
    ·rename_i hc
     injection hs with hs;subst hs
     exact ⟨_,h,key z.toNat z2.toNat (by simp [ca,exi _ _ _ hz,hc.1]) (by simp [ca,exi _ _ _ hz2];omega) (by omega) (by omega)⟩
    ·cases hs
  ·cases h
 ·rename_i id hx
  split at h
  ·split at h
   ·rename_i hc
    exact ⟨_,h,uH hp ho hu hx hc _⟩
   ·cases h
  ·cases h
 ·cases h
def uD (ρ:Operand→V)(s:List UInt8)(lo hi:Option Operand)(k:V→Tree R):Tree R:=
 match lo,hi with
 | none,none=>k (.str s)
 | some lo,none=>intK (ρ lo) fun z=>.bind (b9 s z) fun s=>k (.str s)
 | none,some hi=>intK (ρ hi) fun z=>.bind (cR s z) fun s=>k (.str s)
 | some lo,some hi=>intK (ρ lo) fun z=>intK (ρ hi) fun z2=>.bind (subI s z z2) fun s=>k (.str s)
theorem Cj {n0:Nat}{w:World}{B:List Nat}{η:List Value}{ρv:Operand→Value}{ρA:Operand→AV}(he:∀ x∈o.op.operands,Rel w B η (ρA x) (ρv x)){t:TypeId}{x:Operand}{lo hi:Option Operand}{s:List UInt8}{a b:Nat}(ho:o.op= .slice t x lo hi none)(hu:P.underlying t=some .string)(hx:ρA x= .c (.string ⟨s.toArray⟩))
  (hlo:ca ρA 0 lo=some a) (hhi:ca ρA s.length hi=some b) (hab:a≤b) (hb:b≤s.length):OpOK P n0 w ρv o B η (.c (.string ⟨((s.drop a).take (b-a)).toArray⟩)):=by
 have hel:∀ y,lo=some y→Rel w B η (ρA y) (ρv y):=fun y h=>he y (by simp [ho,gt,h])
 have heh:∀ y,hi=some y→Rel w B η (ρA y) (ρv y):=fun y h=>he y (by simp [ho,gt,h])
 have h1:=he x (by simp [ho,gt])
 rw [hx] at h1
 have hv:=Du h1
 have hsz:(Dm s.toArray).size=s.length:=by show s.toArray.size=_;simp
 have hext:(Dm s.toArray).extract a b=⟨((s.drop a).take (b-a)).toArray⟩:=by
  apply ByteArray.ext
  rw [ByteArray.data_extract]
  apply DJ
  simp [List.extract]
 refine .of_run (v:=.string ⟨((s.drop a).take (b-a)).toArray⟩) ?_ (.c _ _)
 have hbounds:(Di false s.length s.length (lo.map ρv) (hi.map ρv) none).run P w= .ok (a,b,s.length) w:=by
  have hb':∀ z:Int,b=z.toNat→0≤z→z≤(s.length:Int):=by omega
  have ha':∀ z:Int,a=z.toNat→0≤z→z≤(b:Int):=by omega
  rcases cB hel hlo with ⟨rfl,rfl⟩ | ⟨y,kk,z,rfl,hy,hz,hza⟩
  ·rcases cB heh hhi with ⟨rfl,rfl⟩ | ⟨y2,kk2,z2,rfl,hy2,hz2,hzb⟩
   ·simp [Di,ne]
   ·subst hzb
    simp [Di,ne,hy2,aI (P:=P) ⟨hz2,hb' _ rfl hz2⟩]
  ·subst hza
   rcases cB heh hhi with ⟨rfl,rfl⟩ | ⟨y2,kk2,z2,rfl,hy2,hz2,hzb⟩
   ·simp [Di,ne,hy,aI (P:=P) ⟨hz,ha' _ rfl hz⟩]
   ·subst hzb
    simp [Di,ne,hy,hy2,aI (P:=P) ⟨hz2,hb' _ rfl hz2⟩,aI (P:=P) ⟨hz,ha' _ rfl hz⟩]
 simp [execOp,ho,Instr.sliceAt,Instr.slice,ne,run_underlying hu,hv,hsz,hbounds,hext]
theorem Aq {t:TypeId}{x:Operand}{lo hi:Option Operand}{s:List UInt8}{k:V→Tree R}{res:R}(hp:cn ρ o)(ho:o.op= .slice t x lo hi none)(hu:P.underlying t=some .string)(hx:ρ x= .str s)(h:(uD ρ s lo hi k).run=some res):∃ r,(k r).run=some res∧Does P H ρ o r:=by
 have key:∀ (a b:Nat),ca (fun y=>ex (ρ y)) 0 lo=some a→ca (fun y=>ex (ρ y)) s.length hi=some b→a≤b→b≤s.length→Does P H ρ o (.str ((s.drop a).take (b-a))):=fun a b ha hb hab hbl n0 Bx w B η ρv inv he=>by
  refine .of rfl (fun _ _ h=>by simp [ex,ex0] at h) ?_
  exact Cj (P:=P) (ρA:=fun y=>ex (ρ y)) (n0:=n0) (bV hp he) ho hu (by rw [hx];rfl) ha hb hab hbl
 have exi:∀ (y:Operand) kk z,ρ y= .c (.int kk z)→ex (ρ y)= .c (.int kk z):=fun y kk z h=>by rw [h];rfl
 unfold uD at h
 split at h
 ·have:=key 0 s.length rfl rfl (DI _) (Dg _)
  simp only [Dz,DL,List.take_length] at this
  exact ⟨_,h,this⟩
 ·obtain ⟨kk,z,hz,h⟩:=cm h
  obtain ⟨s',hs,h⟩:=Dd h
  unfold b9 at hs
  split at hs
  ·rename_i hc
   injection hs with hs;subst hs
   have:=key z.toNat s.length (by simp [ca,exi _ _ _ hz,hc.1]) rfl (by omega) (Dg _)
   rw [Dk (by rw [Dt];exact Dg _)] at this
   exact ⟨_,h,this⟩
  ·cases hs
 ·obtain ⟨kk,z,hz,h⟩:=cm h
  obtain ⟨s',hs,h⟩:=Dd h
  unfold cR at hs
  split at hs
  ·rename_i hc
   injection hs with hs;subst hs
   have:=key 0 z.toNat rfl (by simp [ca,exi _ _ _ hz,hc.1]) (DI _) (by omega)
   rw [Dz,DL] at this
   exact ⟨_,h,this⟩
  ·cases hs
 ·obtain ⟨kk,z,hz,h⟩:=cm h
  obtain ⟨kk2,z2,hz2,h⟩:=cm h
  obtain ⟨s',hs,h⟩:=Dd h
  unfold subI at hs
  split at hs
  ·rename_i hc
   injection hs with hs;subst hs
   exact ⟨_,h,key z.toNat z2.toNat (by simp [ca,exi _ _ _ hz,hc.1]) (by simp [ca,exi _ _ _ hz2];omega) (by omega) (by omega)⟩
  ·cases hs
def eW {α:Type}(n:Nat)(l:List α):Option (Arr α n):=if h:n≤l.length then some ⟨l.take n,by rw [Dv];omega⟩ else none
def aaD (P:Program)(t:TypeId)(x:V)(k:V→Tree R):Tree R:=
 match arrT P t with
 | some (m,e)=>(match nt P e x with
  | some ⟨d,l⟩=>if wd d=P.cellsOf e∧1≤wd d∧1≤m then .bind (eW m l) fun a=>k (.adr [.arr d m a]) else .fail
  | none=>.fail)
 | none=>.fail
theorem adM {t:TypeId}{x:Operand}{k:V→Tree R}{res:R}(hp:cn ρ o)(ho:o.op= .sliceToArrayPointer t x)(h:(aaD P t (ρ x) k).run=some res):∃ r,(k r).run=some res∧Does P H ρ o r:=by
 unfold aaD at h
 split at h
 ·rename_i m e hat
  split at h
  ·rename_i d l hv
   split at h
   ·rename_i hc
    obtain ⟨hwd,hw1,hm1⟩:=hc
    obtain ⟨a,ha,h⟩:=Dd h
    unfold eW at ha
    split at ha
    ·rename_i hml
     injection ha with ha;subst ha
     refine ⟨_,h,fun n0 Bx w B η ρv inv he=>.of rfl (fun _ _ h=>by simp [ex,ex0] at h) ?_⟩
     have h1:=yh hv (bV hp he x (by simp [ho,gt]))
     obtain ⟨A,n,c,us,hvv,hk1,hn,hc,hm,hA,hr⟩:=h1.slL
     have hn':n=l.length:=by
      rw [aF] at hn
      exact Nat.eq_of_mul_eq_mul_right (by omega) hn
     subst hn'
     obtain ⟨ad,rfl,hat'⟩:=hA (by omega)
     refine .of_run (v:=.pointer (some ad)) ?_ ?_
     ·simp [execOp,ho,Instr.arrayAt,ne,run_underlying (cN hat),hvv]
      intro hlt;omega
     ·have hlen:(flat d (l.take m)).length=m*wd d:=by rw [aF,Dv,DP hml]
      have e1:ex (.adr [.arr d m ⟨l.take m,by rw [Dv];omega⟩])= .adr (flat d (l.take m)):=by simp [ex,ex0,aD,segA]
      rw [e1]
      refine .adr _ _ ad us ⟨hat'.spot,hat'.lt,hat'.out,fun i hi=>hat'.cell i ?_⟩ (fun i y hy=>hr i y ?_)
      ·rw [hlen] at hi
       rw [aF]
       exact Nat.lt_of_lt_of_le hi (Df _ hml)
      ·rw [iS,List.getElem?_take] at hy
       split at hy
       ·exact hy
       ·cases hy
    ·cases ha
   ·cases h
  ·cases h
 ·cases h
def uE (s:List UInt8)(i:V)(k:V→Tree R):Tree R:=intK i fun z=>.bind (getI s z) fun b=>k (.c (.int .u8 b.toNat))
theorem Ar {t:TypeId}{x i:Operand}{s:List UInt8}{k:V→Tree R}{res:R}(hp:cn ρ o)(ho:o.op= .index t x i)(hu:P.underlying t=some .string)(hx:ρ x= .str s)(h:(uE s (ρ i) k).run=some res):∃ r,(k r).run=some res∧Does P H ρ o r:=by
 unfold uE at h
 obtain ⟨kk,z,hz,h⟩:=cm h
 obtain ⟨b,hb,h⟩:=Dd h
 obtain ⟨g0,g1,g2⟩:=zu hb
 refine ⟨_,h,fun n0 Bx w B η ρv inv he=>.of rfl (fun _ _ h=>by simp [ex,ex0] at h) ?_⟩
 have h1:=bV hp he x (by simp [ho,gt])
 have h2:=bV hp he i (by simp [ho,gt])
 rw [hx] at h1;rw [hz] at h2
 have h1:=Du h1
 have h2:=Du h2
 refine .of_run (v:=.int .u8 b.toNat) ?_ (.c _ _)
 have hget:(Dm s.toArray)[z.toNat]? =some b:=by
  show (if h:z.toNat<(Dm s.toArray).size then some ((Dm s.toArray)[z.toNat]) else none)=some b
  have hsz:(Dm s.toArray).size=s.length:=by show s.toArray.size=_;simp
  rw [dif_pos (by rw [hsz];exact g2)]
  have:(Dm s.toArray)[z.toNat]'(by rw [hsz];exact g2)=s[z.toNat]:=by
   show s.toArray[z.toNat]=_
   simp
  rw [this]
  rw [List.getElem?_eq_getElem g2] at g1
  exact g1
 simp [execOp,ho,Instr.index,asIntOf,ne,run_underlying hu,h1,h2,g0,hget]
end
def rowI (P:Program)(e:TypeId):Option (Nat×Nat):=match P.info? e with
 | some i=>(match i.zero with
  | some z=>if z.cells.size=i.size∧1≤i.size then some (i.size,i.bytes) else none
  | none=>none)
 | none=>none
theorem jR {P:Program}{e k b:Nat}(h:rowI P e=some (k,b)):∃ i z,P.info? e=some i∧i.zero=some z∧i.size=k∧i.bytes=b∧z.cells.size=k∧1≤k:=by
 unfold rowI at h
 split at h
 ·rename_i i hi
  split at h
  ·rename_i z hz
   split at h
   ·rename_i hc
    injection h with h;injection h with h1 h2;subst h1 h2
    exact ⟨i,z,hi,hz,rfl,rfl,hc.1,hc.2⟩
   ·cases h
  ·cases h
 ·cases h
section
variable {P:Program} {H:List E2} {ρ:Operand→V} {o:Oper} {R:Type}
def zn (P:Program)(t:TypeId)(a b:V)(k:V→Tree R):Tree R:=
 match sliT P t with
 | some (e,w,z)=>(match rowI P e,tdOf P 12 e with
  | some (_,by_),some d=>if wd d=w∧1≤w then intK a fun l=>intK b fun c=>.ite (decide (0≤l∧l≤c∧c.toNat≤maxLen∧c.toNat*by_≤140737488355328))
    (decK d (z.map fg) fun zd r=>if wL r=0 then k (.lst d (DK l.toNat zd)) else .fail) .fail else .fail
  | _,_=>.fail)
 | none=>.fail
theorem Ag {d:Td}{z:List Value}{zd:T d}(h:Wk (z.map .c) (cells d zd)):∀ n,Wk ((repL n z).map .c) (flat d (DK n zd))
 | 0=>Wk.refl _
 | n+1=>by
  have e1:repL (n+1) z=z++repL n z:=by simp [repL,List.replicate_succ]
  rw [e1,DN,List.replicate_succ,eT]
  exact h.app (Ag h n)
theorem aeC {w:World}{B:List Nat}{η:List Value}{l m:List AV}{k:Nat}{v:Value}(hw:Wk l m)(h:Rel w B η (.sl l k) v):Rel w B η (.sl m k) v:=by
 cases h with
 | sl _ _ _ A n c us hk hn hc hm hA hr=>
  have hl:RelL w B [] l ((List.range l.length).map us):=⟨by simp,fun i y hy=>⟨us i,by simp [(List.getElem?_eq_some_iff.1 hy).1],hr i y hy⟩⟩
  have hm':=hw w B [] _ hl
  have hlen:m.length=l.length:=by have:=hm'.1;simpa using this.symm
  refine .sl _ _ _ A n c us hk (by rw [hlen];exact hn) hc hm (fun h0=>by obtain ⟨ad,q1,q2⟩:=hA h0;exact ⟨ad,q1,by rw [hlen];exact q2⟩) (fun i x hx=> ?_)
  obtain ⟨u,q1,q2⟩:=hm'.2 i x hx
  have hi:i<l.length:=by rw [←hlen];exact (List.getElem?_eq_some_iff.1 hx).1
  simp [hi] at q1
  rw [q1];exact q2
theorem adm {n0:Nat}{w:World}{B:List Nat}{η:List Value}{ρv:Operand→Value}{ρA:Operand→AV}(hlt:∀ b∈B,b<w.heap.size)(he:∀ x∈o.op.operands,Rel w B η (ρA x) (ρv x)){t e k by_:Nat}{z:List Value}{a b:Operand}{kl kc:IntKind}{l c:Int}{i:TypeInfo}(ho:o.op= .makeSlice t a b)(hs:sliT P t=some (e,k,z))(hi:P.info? e=some i)(hby:i.bytes=by_)
  (ha:ρA a= .c (.int kl l)) (hb:ρA b= .c (.int kc c)) (h0:0≤l) (hlc:l≤c) (hm:c.toNat≤maxLen) (hbytes:c.toNat*by_≤140737488355328) (hk1:1≤k):
  OpOK P n0 w ρv o B η (.sl ((repL l.toNat z).map .c) k):=by
 intro N hN
 have h1:=he a (by simp [ho,gt])
 have h2:=he b (by simp [ho,gt])
 rw [ha] at h1
 rw [hb] at h2
 have h1:=h1.ofC
 have h2:=h2.ofC
 obtain ⟨i',zv,hu,hi',hz,hsz,hzc,hzl,hk⟩:=mc hs
 rw [hi] at hi'
 injection hi' with hi'
 subst hi'
 have hb1:(i.bytes:Int)*c≤281474976710656:=by
  have h:((c.toNat*by_:Nat):Int)≤281474976710656:=by omega
  rw [Int.natCast_mul,Int.toNat_of_nonneg (by omega)] at h
  rw [hby,Int.mul_comm];exact h
 have h63:c≤9223372036854775807:=by simp [maxLen] at hm;omega
 have hr:=run_make (P:=P) w t e i zv hu hi hz kl kc l c h0 hlc hb1 h63
 have hzs:zv.cells.size=k:=by rw [←hzl,←hzc];simp
 have hcs:(madeCells zv.cells (c.toNat*i.size)).size=c.toNat*k:=by rw [size_madeCells,hsz]
 have hlist:(madeCells zv.cells (c.toNat*i.size)).toList=repL c.toNat z:=by rw [←hzc,hsz,←hzs];exact rJ _ _ (by omega)
 generalize hcsq:madeCells zv.cells (c.toNat*i.size)=cs at hr hcs hlist
 have g:Gr w (w.alloc (.cells cs e)):=gL (Gr.refl w) _
 have hlcn:l.toNat≤c.toNat:=by omega
 have htake:cs.toList.take (l.toNat*k)=repL l.toNat z:=by
  rw [hlist]
  obtain ⟨m,hme⟩:∃ m,c.toNat=l.toNat+m:=⟨c.toNat-l.toNat,by omega⟩
  have e2:∀ x y:Nat,repL (x+y) z=repL x z++repL y z:=fun x y=>by unfold repL;rw [←List.flatten_append,List.replicate_append_replicate]
  rw [hme,e2,←hzl,←dP]
  exact List.take_left
 unfold DA
 have hrun:(execOp ρv o).run P w= .ok (.value (.slice (some ⟨w.heap.size,0,none⟩) l.toNat c.toNat)) (w.alloc (.cells cs e)):=by
  simp [execOp,ho,h1,h2,ne,hr]
 rw [hrun]
 have hlen:((repL l.toNat z).map AV.c).length=l.toNat*k:=by rw [Dc,dP,hzl]
 refine hN _ _ (.gr g) (.sl _ _ _ _ _ _ (fun i=>cs.toList.getD i undef) hk1 hlen.symm hlcn hm (fun _=>⟨_,rfl,rfl,by simp,fun hb=> ?_,fun j hj=> ?_⟩) (fun j x hx=> ?_))
 ·have:=hlt _ hb;simp at this
 ·have hj':j<cs.toList.length:=by
   rw [hlen] at hj
   rw [Array.length_toList,hcs]
   exact Nat.lt_of_lt_of_le hj (Df k hlcn)
  rw [DE,Nat.zero_add,cell_of_row (w.alloc (.cells cs e)) w.heap.size j cs e (0,0) (by show (w.heap.push _)[w.heap.size]? =_;simp)]
  rw [←Array.getElem?_toList,List.getElem?_eq_getElem hj',List.getD_eq_getElem?_getD,List.getElem?_eq_getElem hj',C9]
 ·rw [List.getElem?_map,C7] at hx
  obtain ⟨u,hu,rfl⟩:=hx
  have hj:j<l.toNat*k:=by have:=(List.getElem?_eq_some_iff.1 hu).1;rw [dP,hzl] at this;exact this
  have:cs.toList[j]? =some u:=by rw [←htake,List.getElem?_take,if_pos hj] at hu;exact hu
  rw [List.getD_eq_getElem?_getD,this,C9]
  exact .c _ _
theorem aab {t:TypeId}{a b:Operand}{k:V→Tree R}{res:R}(hp:cn ρ o)(ho:o.op= .makeSlice t a b)(h:(zn P t (ρ a) (ρ b) k).run=some res):∃ r,(k r).run=some res∧Does P H ρ o r:=by
 unfold zn at h
 split at h
 ·rename_i e kw z hsl
  split at h
  ·rename_i kw2 by_ d hrow htd
   obtain ⟨ti,zz,q1,q2,q3,q4,q5,q6⟩:=jR hrow
   split at h
   ·rename_i hwd
    obtain ⟨kl,l,ha,h⟩:=cm h
    obtain ⟨kc,c,hb,h⟩:=cm h
    rcases C6 h with ⟨hc,h⟩ | ⟨_,h⟩
    ·obtain ⟨c1,c2,c3,c4⟩:=of_decide_eq_true hc
     obtain ⟨zd,rest,h1,h2⟩:=eJ d _ _ _ h
     split at h1
     ·rename_i hrest
      have hr0:aD rest=[]:=C5 (by rw [oM];exact hrest)
      rw [hr0,Dy,cK] at h2
      refine ⟨_,h1,fun n0 Bx w B η ρv inv he=>.of rfl (fun _ _ h=>by simp [ex,ex0] at h) ?_⟩
      have:=adm (P:=P) (n0:=n0) (ρA:=fun y=>ex (ρ y)) inv.lt (bV hp he) ho hsl q1 q4 (by simp only [ha];rfl) (by simp only [hb];rfl) c1 c2 c3 c4 hwd.2
      refine this.mono fun w' v hv=> ?_
      have:=aeC (Ag h2 l.toNat) hv
      simp only [ex,ex0,hwd.1]
      exact this
     ·cases h1
    ·cases h
   ·cases h
  ·cases h
 ·cases h
end
end Go.Proofs.YtolkfnemdejonaaGreatDoor
namespace Go.Proofs.YtolkfnemdejonaaGreatDoor
set_option maxRecDepth 100000
open Go.RowKit
set_option linter.unusedVariables false
set_option linter.unusedSimpArgs false
def toBy:List Int→Option (List UInt8)
 | []=>some []
 | n::l=>if 0≤n∧n<256 then (match toBy l with | some bs=>some (UInt8.ofNat n.toNat::bs) | none=>none) else none
theorem ad4:∀ {l:List Int} {bs:List UInt8},toBy l=some bs→toBs (flat (.int .u8) l)=some bs
 | [],bs,h=>by simp only [toBy,Db.injEq] at h;subst h;rfl
 | n::l,bs,h=>by
  unfold toBy at h
  split at h
  ·rename_i hc
   split at h
   ·rename_i bs' hb
    injection h with h;subst h
    rw [eT]
    simp only [cells,List.cons_append,DC,toBs,toB,hc,and_self,if_true,ad4 hb]
   ·cases h
  ·cases h
def lenK {R:Type}(P:Program)(H:List E2)(t:TypeId)(x:V)(k:V→Tree R):Tree R:=
 match x with
 | .str s=>if jL P t=true then k (.c (.int .i64 s.length)) else .fail
 | .own id=>(match jz P t,H[id]? with
  | some _,some (.own d l _)=>if 1≤wd d then k (.c (.int .i64 l.length)) else .fail
  | _,_=>.fail)
 | x=>(match jz P t with
  | some e=>(match nt P e x with
   | some ⟨d,l⟩=>if 1≤wd d then k (.c (.int .i64 l.length)) else .fail
   | none=>.fail)
  | none=>.fail)
def ar5 {R:Type}(op:BinOp)(k1 k2:IntKind)(a b:Int)(k:V→Tree R):Tree R:=
 match op with
 | .shl=>.ite (decide (0≤b)) (k (.c (.int k1 (k1.wrap (a*2 ^ min b.toNat k1.bits))))) .fail
 | .shr=>.ite (decide (0≤b)) (k (.c (.int k1 (a.fdiv (2 ^ min b.toNat k1.bits))))) .fail
 | .quo=>if k1=k2 then .ite (decide (b=0)) .fail (k (.c (.int k1 (k1.wrap (a.tdiv b))))) else .fail
 | .rem=>if k1=k2 then .ite (decide (b=0)) .fail (k (.c (.int k1 (a.tmod b)))) else .fail
 | op=>if k1=k2 then (match intV op k1 a b with | some v=>k (.c v) | none=>.fail) else .fail
def binK {R:Type}(P:Program)(op:BinOp)(t:TypeId)(x y:V)(k:V→Tree R):Tree R:=
 match x,y with
 | .c (.int k1 a),.c (.int k2 b)=>ar5 op k1 k2 a b k
 | .c (.bool a),.c (.bool b)=>if afY P t=true then (match op with
  | .eql=>k (.c (.bool (a==b)))
  | .neq=>k (.c (.bool (!(a==b))))
  | _=>.fail) else .fail
 | .str a,.str b=>(match op with
  | .eql=>k (.c (.bool (decide (a=b))))
  | .neq=>k (.c (.bool (!decide (a=b))))
  | op=>aig P op t (.str a) (.str b) k)
 | .c (.slice none _ _),.c (.slice none _ _)=>if sliB P t=true then (match op with
  | .eql=>k (.c (.bool true))
  | .neq=>k (.c (.bool false))
  | _=>.fail) else .fail
 | .c (.slice (some _) _ _),.c (.slice none _ _)=>if sliB P t=true then (match op with
  | .eql=>k (.c (.bool false))
  | .neq=>k (.c (.bool true))
  | _=>.fail) else .fail
 | .lst d l,.c (.slice none _ _)=>(match jz P t,nilV op with | some _,some b=>.ite l.isEmpty .fail (k (.c (.bool b))) | _,_=>.fail)
 | .fre d l,.c (.slice none _ _)=>(match jz P t,nilV op with | some _,some b=>.ite l.isEmpty .fail (k (.c (.bool b))) | _,_=>.fail)
 | x,y=>aig P op t x y k
def unK {R:Type}(op:UnOp)(x:V)(k:V→Tree R):Tree R:=
 match op,x with
 | .not,.c (.bool b)=>k (.c (.bool (!b)))
 | .neg,.c (.int kk n)=>k (.c (.int kk (kk.wrap (0-n))))
 | .xor,.c (.int kk n)=>k (.c (.int kk (bits .xor kk (if kk.signed then -1 else kk.max) n)))
 | _,_=>.fail
def ae (n by_:Nat):Bool:=decide (n≤maxLen∧n*by_≤140737488355328)
def ofB (bs:List UInt8):List Int:=bs.map fun b=>(b.toNat:Int)
theorem ct (bs:List UInt8):(ofB bs).length=bs.length:=by simp [ofB]
theorem vp (bs:List UInt8):flat (.int .u8) (ofB bs)=(Lib.strCells ⟨bs.toArray⟩).map .c:=by
 induction bs with
 | nil=>rfl
 | cons b bs ih=>
  show [AV.c (.int .u8 (b.toNat:Int))]++flat (.int .u8) (ofB bs)=_
  rw [ih]
  simp [Lib.strCells]
def am1 {R:Type}(P:Program)(s d:TypeId)(x:V)(k:V→Tree R):Tree R:=
 match x with
 | .c (.int _ n)=>(match aaf P d,aaf P s with | some kd,some _=>k (.c (.int kd (kd.wrap n))) | _,_=>.fail)
 | .str bs=>if jL P s=true∧jL P d=true then k (.str bs) else (match wc P d with
  | some _=>if jL P s=true then .ite (ae bs.length 1) (k (.lst (.int .u8) (ofB bs))) .fail else .fail
  | none=>.fail)
 | x=>(match wc P s with
  | some e=>(match nt P e x with
   | some ⟨dd,l⟩=>lX dd (.int .u8) (fun d=>List (T d)) l fun l=>
    if s=d then (match x with | .fre _ _=>.ite l.isEmpty .fail (k (.lst (.int .u8) l)) | _=>.fail)
    else if jL P d=true then .bind (toBy l) fun bs=>k (.str bs) else .fail
   | none=>.fail)
  | none=>.fail)
def zy (place:Nat→Option (Nat×Nat))(segs:List V):List (Nat×V)→Option (List V)
 | []=>some segs
 | (i,x)::rest=>match place i with
  | none=>none
  | some (off,size)=>match ma x with
   | some s=>if wL s=size then (match putV segs off s with | some segs'=>zy place segs' rest | none=>none) else none
   | none=>none
def ahO:Td→Bool
 | .sl _=>true
 | .arr _ d=>ahO d
 | .pair d e=>ahO d||ahO e
 | _=>false
def ar4:Td→Bool
 | .pair _ _=>true
 | _=>false
def arz:V→Bool
 | .c (.slice none 0 0)=>true
 | _=>false
def vl:Td→List V→List V×List V
 | .arr n d,segs=>match segs with
  | .arr d' n' a::r=>([.arr d' n' a],r)
  | segs=>if (ar4 d&&ahO d&&segs.any arz)=true then (segs,[]) else match (decN (decK d) n segs fun a r=>Tree.done (a,r)).run with
   | some (a,r)=>([.arr d n a],r)
   | none=>(segs,[])
 | .pair d e,segs=>match vl d segs with
  | (p,r)=>match vl e r with
   | (q,r')=>(p++q,r')
 | _,segs=>match segs with
  | []=>([],[])
  | x::r=>([x],r)
def qT (P:Program)(t:TypeId)(segs:List V):List V:=match tdOf P 12 t with
 | some d=>match vl d segs with | (p,r)=>p++r
 | none=>segs
def mN (ρ:Operand→V)(parts:Array (Nat×Operand)):List (Nat×V):=parts.toList.map fun p=>(p.1,ρ p.2)
def afU {R:Type}(P:Program)(ρ:Operand→V)(t:TypeId)(parts:Array (Nat×Operand))(k:V→Tree R):Tree R:=
 match layP P t with
 | some (z,places)=>(match zy (places[·]?) (z.map fg) (mN ρ parts) with | some l=>k (.agg (qT P t l)) | none=>.fail)
 | none=>match layE P t with
  | some (z,size)=>(match zy (fun i=>some (i*size,size)) (z.map fg) (mN ρ parts) with | some l=>k (.agg (qT P t l)) | none=>.fail)
  | none=>.fail
def immV:V→Bool
 | .c _ | .str _ | .lst _ _ | .arr _ _ _ | .emp | .nn=>true
 | _=>false
def zY {R:Type}(P:Program)(ρ:Operand→V)(t:TypeId)(len:Nat)(parts:Array (Nat×Operand))(k:V→Tree R):Tree R:=
 match sliT P t with
 | some (e,w,z)=>if len*w≤16777216∧len≤maxLen then (match zy (fun i=>some (i*w,w)) ((repL len z).map fg) (mN ρ parts) with
  | some l=>if l.all immV=true then (if len=0 then k .emp else match tdOf P 12 e with
   | some d=>if wd d=w then decN (decK d) len l fun a r=>if wL r=0 then k (.fre d a.l) else .fail else .fail
   | none=>.fail) else .fail
  | none=>.fail) else .fail
 | none=>.fail
section
variable {P:Program} {H:List E2} {ρ:Operand→V} {o:Oper} {R:Type}
theorem amw {n0:Nat}{w:World}{B:List Nat}{η:List Value}{ρv:Operand→Value}{x:Operand}{ts:Array TypeId}{t:TypeId}{s:List UInt8}(hr:Rel w B η (.c (.string ⟨s.toArray⟩)) (ρv x))(ho:o.op= .call ⟨.builtin .len, #[x],ts⟩)(ht:ts[0]? =some t)(hu:P.underlying t=some .string):OpOK P n0 w ρv o B η (.c (.int .i64 s.length)):=by
 have hv:=hr.ofC
 refine .of_run (v:=.int .i64 s.length) ?_ (.c _ _)
 have hsz:(Dm s.toArray).size=s.length:=by show s.toArray.size=_;simp
 simp [execOp,ho,resolve,invoke,builtin,Builtin.len_,ne,hv,ht,run_underlying hu,goInt,hsz]
theorem amx {x:Operand}{ts:Array TypeId}{t:TypeId}{k:V→Tree R}{res:R}(hp:cn ρ o)(ho:o.op= .call ⟨.builtin .len, #[x],ts⟩)(ht:ts[0]? =some t)(h:(lenK P H t (ρ x) k).run=some res):∃ r,(k r).run=some res∧Does P H ρ o r:=by
 have hin:x∈o.op.operands:=by simp [ho,gt,Dj]
 unfold lenK at h
 split at h
 ·rename_i s hx
  split at h
  ·rename_i hs
   exact ⟨_,h,fun n0 Bx w B η ρv inv he=>.of rfl (fun _ _ h=>by simp [ex,ex0] at h) (amw (by have:=bV hp he x hin;rw [hx] at this;exact this) ho ht (dL hs))⟩
  ·cases h
 ·rename_i id hx
  split at h
  ·rename_i e d l E het hH
   split at h
   ·rename_i hw
    refine ⟨_,h,fun n0 Bx w B η ρv inv he=>.of rfl (fun _ _ h=>by simp [ex,ex0] at h) ?_⟩
    have:=ae2 (ρA:=fun y=>ex (ρ y)) inv (bV hp he) ho ht (aX het) (by simp only [hx];rfl) (exH hH)
    rw [aF,Dx _ (by omega)] at this
    exact this
   ·cases h
  ·cases h
 ·split at h
  ·rename_i e het
   split at h
   ·rename_i d l hv
    split at h
    ·rename_i hw
     refine ⟨_,h,fun n0 Bx w B η ρv inv he=>.of rfl (fun _ _ h=>by simp [ex,ex0] at h) ?_⟩
     have:=arU (ρA:=fun y=>eL P e (ρ y)) (n0:=n0) (BF e hp he) ho ht (aX het) (vL hv)
     simp only [aF] at this
     rw [Dx _ (by omega)] at this
     exact this
    ·cases h
   ·cases h
  ·cases h
theorem afw {d:Td}{l:List (T d)}(hw:1≤wd d)(hl:l.isEmpty=false):flat d l≠[]:=fun h0=>by
 have:=congrArg List.length h0
 rw [aF] at this
 cases l with
 | nil=>cases hl
 | cons a l=>simp only [List.length_cons,List.length_nil,Nat.add_mul] at this;omega
theorem vM {r:Value}(hp:cn ρ o)(h:∀ (n0:Nat) (w:World) (B:List Nat) (η:List Value) (ρv:Operand→Value),(∀ x∈o.op.operands,Rel w B η (ex (ρ x)) (ρv x))→OpOK P n0 w ρv o B η (.c r)):Does P H ρ o (.c r):=fun n0 Bx w B η ρv inv he=>.of rfl (fun _ _ h=>by simp [ex,ex0] at h) (h n0 w B η ρv (bV hp he))
theorem ana {op:BinOp}{t t2:TypeId}{x y:Operand}{k:V→Tree R}{res:R}(hp:cn ρ o)(ho:o.op= .binOp op t x y t2)(h:(binK P op t (ρ x) (ρ y) k).run=some res):∃ r,(k r).run=some res∧Does P H ρ o r:=by
 have key:∀ (a b v:Value),ex (ρ x)= .c a→ex (ρ y)= .c b→binV P op t a b=some v→Does P H ρ o (.c v):=fun a b v hx hy hv=>
  vM hp fun n0 w B η ρv he=>asv (ρA:=fun y=>ex (ρ y)) he ho hx hy hv
 have nil:∀ (d:Td) (l:List (T d)) (n c:Nat) (b:Bool) (e:TypeId),(ρ x= .lst d l∨ρ x= .fre d l)→ρ y= .c (.slice none n c)→jz P t=some e→nilV op=some b→l.isEmpty=false→1≤wd d→Does P H ρ o (.c (.bool b)):=fun d l n c b e hx hy he hb hl hw n0 Bx w B η ρv inv hh=>by
  refine .of rfl (fun _ _ h=>by simp [ex,ex0] at h) ?_
  exact arK (ρA:=fun y=>eu (ρ y)) (l:=flat d l) (k:=wd d) (eM hp hh) ho (by rcases hx with hx | hx <;> simp only [hx] <;> rfl) (by simp only [hy];rfl) (fun h0=>by
   have:=congrArg List.length h0
   rw [aF] at this
   cases l with
   | nil=>cases hl
   | cons a l=>simp only [List.length_cons,List.length_nil,Nat.add_mul] at this;omega) (aX he) hb
 unfold binK at h
 split at h
 ·rename_i k1 a k2 b hx hy
  have kk:=fun v=>key (.int k1 a) (.int k2 b) v (by simp only [hx];rfl) (by simp only [hy];rfl)
  unfold ar5 at h
  split at h
  ·rcases C6 h with ⟨hb,h⟩ | ⟨_,h⟩
   ·exact ⟨_,h,kk _ (by simp only [binV];rw [if_pos (of_decide_eq_true hb)])⟩
   ·cases h
  ·rcases C6 h with ⟨hb,h⟩ | ⟨_,h⟩
   ·exact ⟨_,h,kk _ (by simp only [binV];rw [if_pos (of_decide_eq_true hb)])⟩
   ·cases h
  ·split at h
   ·rename_i hkk
    rcases C6 h with ⟨_,h⟩ | ⟨hb,h⟩
    ·cases h
    ·exact ⟨_,h,kk _ (by simp only [binV,intV];rw [if_pos hkk,if_neg (of_decide_eq_false hb)])⟩
   ·cases h
  ·split at h
   ·rename_i hkk
    rcases C6 h with ⟨_,h⟩ | ⟨hb,h⟩
    ·cases h
    ·exact ⟨_,h,kk _ (by simp only [binV,intV];rw [if_pos hkk,if_neg (of_decide_eq_false hb)])⟩
   ·cases h
  ·split at h
   ·rename_i hkk
    split at h
    ·rename_i n1 n2 n3 n4 _ v hv
     exact ⟨_,h,kk _ (by
      cases op <;> first | exact absurd rfl n1 | exact absurd rfl n2 | (simp only [binV];rw [if_pos hkk];exact hv))⟩
    ·cases h
   ·cases h
 ·rename_i a b hx hy
  have kk:=fun v=>key (.bool a) (.bool b) v (by simp only [hx];rfl) (by simp only [hy];rfl)
  split at h
  ·rename_i hb
   split at h
   ·exact ⟨_,h,kk _ (by simp only [binV];rw [if_pos hb])⟩
   ·exact ⟨_,h,kk _ (by simp only [binV];rw [if_pos hb])⟩
   ·cases h
  ·cases h
 ·rename_i a b hx hy
  have kk:=fun v=>key (.string ⟨a.toArray⟩) (.string ⟨b.toArray⟩) v (by simp only [hx];rfl) (by simp only [hy];rfl)
  split at h
  ·exact ⟨_,h,kk _ (by simp [binV,strV])⟩
  ·exact ⟨_,h,kk _ (by simp [binV,strV])⟩
  ·exact abD hp ho (by rw [hx,hy];exact h)
 ·rename_i n c n' c' hx hy
  have kk:=fun v=>key (.slice none n c) (.slice none n' c') v (by simp only [hx];rfl) (by simp only [hy];rfl)
  split at h
  ·rename_i hb
   split at h
   ·exact ⟨_,h,kk _ (by simp only [binV];rw [if_pos hb])⟩
   ·exact ⟨_,h,kk _ (by simp only [binV];rw [if_pos hb])⟩
   ·cases h
  ·cases h
 ·rename_i A0 n c n' c' hx hy
  have kk:=fun v=>key (.slice (some A0) n c) (.slice none n' c') v (by simp only [hx];rfl) (by simp only [hy];rfl)
  split at h
  ·rename_i hb
   split at h
   ·exact ⟨_,h,kk _ (by simp only [binV];rw [if_pos hb])⟩
   ·exact ⟨_,h,kk _ (by simp only [binV];rw [if_pos hb])⟩
   ·cases h
  ·cases h
 ·rename_i d l n c hx hy
  split at h
  ·rename_i e b he hb
   rcases C6 h with ⟨_,h⟩ | ⟨hl,h⟩
   ·cases h
   ·refine ⟨_,h,fun n0 Bx w B η ρv inv hh=>nil d l n c b e (.inl hx) hy he hb hl ?_ n0 Bx w B η ρv inv hh⟩
    have:=bV hp hh x (by simp [ho,gt])
    rw [hx] at this
    obtain ⟨_,_,_,_,_,h1,_⟩:=Rel.slL this
    exact h1
  ·cases h
 ·rename_i d l n c hx hy
  split at h
  ·rename_i e b he hb
   rcases C6 h with ⟨_,h⟩ | ⟨hl,h⟩
   ·cases h
   ·refine ⟨_,h,fun n0 Bx w B η ρv inv hh=>nil d l n c b e (.inr hx) hy he hb hl ?_ n0 Bx w B η ρv inv hh⟩
    have:=eM hp hh x (by simp [ho,gt])
    rw [hx] at this
    obtain ⟨_,_,_,_,_,h1,_⟩:=Rel.slL this
    exact h1
  ·cases h
 ·exact abD hp ho h
theorem ark {op:UnOp}{t:TypeId}{x:Operand}{k:V→Tree R}{res:R}(hp:cn ρ o)(ho:o.op= .unOp op t x)(h:(unK op (ρ x) k).run=some res):∃ r,(k r).run=some res∧Does P H ρ o r:=by
 unfold unK at h
 split at h
 ·rename_i b hx
  exact ⟨_,h,vM hp fun n0 w B η ρv he=>arj (ρA:=fun y=>ex (ρ y)) he ho (by simp only [hx];rfl) rfl⟩
 ·rename_i kk n hx
  exact ⟨_,h,vM hp fun n0 w B η ρv he=>arj (ρA:=fun y=>ex (ρ y)) he ho (by simp only [hx];rfl) rfl⟩
 ·rename_i kk n hx
  refine ⟨_,h,vM hp fun n0 w B η ρv he=> ?_⟩
  have h1:=he x (by simp [ho,gt])
  rw [hx] at h1
  have h2:=Du h1
  refine .of_run (v:=.int kk (bits .xor kk (if kk.signed then -1 else kk.max) n)) ?_ (.c _ _)
  simp [execOp,ho,h2,Op.unary,Op.intBits,bits,ne]
 ·cases h
theorem ah2 {n0:Nat}{w:World}{B:List Nat}{η:List Value}{ρv:Operand→Value}{s d:TypeId}{x:Operand}{bs:List UInt8}(hr:Rel w B η (.c (.string ⟨bs.toArray⟩)) (ρv x))(ho:o.op= .convert s d x)(hs:P.underlying s=some .string)(hd:P.underlying d=some .string):OpOK P n0 w ρv o B η (.c (.string ⟨bs.toArray⟩)):=by
 have hv:=hr.ofC
 refine .of_run (v:=.string ⟨bs.toArray⟩) ?_ (.c _ _)
 simp [execOp,ho,convert,ne,hv,run_underlying hs,run_underlying hd]
theorem ah4 {n0:Nat}{w:World}{B:List Nat}{η:List Value}{ρv:Operand→Value}{s d e:TypeId}{x:Operand}{bs:List UInt8}(hB:∀ b∈B,b<w.heap.size)(hr:Rel w B η (.c (.string ⟨bs.toArray⟩)) (ρv x))(ho:o.op= .convert s d x)(hs:P.underlying s=some .string)(hd:wc P d=some e)(hroom:ae bs.length 1=true):OpOK P n0 w ρv o B η (.sl (flat (.int .u8) (ofB bs)) 1):=by
 have hv:=hr.ofC
 obtain ⟨q1,q2⟩:=rn hd
 have hm:bs.length≤maxLen:=(of_decide_eq_true hroom).1
 have hsz:(Dm bs.toArray).size=bs.length:=by show bs.toArray.size=_;simp
 have hcm:grownCap w (Dm bs.toArray).size 0 e≤maxLen:=grownCap_le_maxLen w _ 0 e (by rw [hsz];exact hm)
 have hge:=grownCap_ge w (Dm bs.toArray).size 0 e
 intro N hN
 have hrun:(execOp ρv o).run P w= .ok (.value (.slice (some ⟨w.heap.size,0,none⟩) (Dm bs.toArray).size (grownCap w (Dm bs.toArray).size 0 e))) (Lib.bytesWorld w e ⟨bs.toArray⟩):=by
  simp [execOp,ho,ne,hv,Lib.run_convert_string_bytes (P:=P) w s d e _ hs q1 q2]
 unfold DA
 rw [hrun]
 have hold:=Lib.bytesWorld_at_old w e ⟨bs.toArray⟩
 have hsize:=Lib.bytesWorld_size w e ⟨bs.toArray⟩
 refine hN _ _ ⟨rfl,rfl,rfl,by rw [hsize];omega,fun b hb=>.of (hold b hb),fun b hb _=>hold b hb⟩ ?_
 rw [vp]
 refine .sl _ _ _ _ _ _ (fun i=>(Lib.strCells ⟨bs.toArray⟩).getD i undef) (Dg 1) (by rw [Dc,Lib.strCells_length];omega) hge hcm (fun h0=>⟨_,rfl,rfl,by rw [hsize];exact Nat.lt_succ_self _,fun h=> ?_,fun i hi=> ?_⟩) (fun i x hx=> ?_)
 ·exact absurd (hB _ h) (Nat.lt_irrefl _)
 ·rw [Dc,Lib.strCells_length] at hi
  have e1:(Addr.mk w.heap.size 0 none).add i=⟨w.heap.size,i,none⟩:=by unfold Addr.add;simp;omega
  rw [e1,Lib.bytesWorld_cell w e _ i hi]
  have hi':i<(Dm bs.toArray).data.toList.length:=by simpa [hsz] using hi
  simp only [Lib.strCells,List.getD_eq_getElem?_getD,List.getElem?_map,List.getElem?_eq_getElem hi',DB,C9]
 ·rw [List.getElem?_map] at hx
  cases hg:(Lib.strCells ⟨bs.toArray⟩)[i]? with
  | none=>rw [hg] at hx;cases hx
  | some u=>
   rw [hg] at hx
   injection hx with hx
   subst hx
   have:(Lib.strCells ⟨bs.toArray⟩).getD i undef=u:=by rw [List.getD_eq_getElem?_getD,hg];rfl
   rw [this]
   exact .c _ _
theorem ah3 {s d:TypeId}{x:Operand}{k:V→Tree R}{res:R}(hp:cn ρ o)(ho:o.op= .convert s d x)(h:(am1 P s d (ρ x) k).run=some res):∃ r,(k r).run=some res∧Does P H ρ o r:=by
 have hin:x∈o.op.operands:=by simp [ho,gt]
 unfold am1 at h
 split at h
 ·rename_i kk n hx
  split at h
  ·rename_i kd ks hd hs
   exact ⟨_,h,vM hp fun n0 w B η ρv he=>amZ (ρA:=fun y=>ex (ρ y)) he ho (by simp only [hx];rfl) (by simp only [am0,hd,hs])⟩
  ·cases h
 ·rename_i bs hx
  split at h
  ·rename_i hs
   exact ⟨_,h,fun n0 Bx w B η ρv inv he=>.of rfl (fun _ _ h=>by simp [ex,ex0] at h) (ah2 (by have:=bV hp he x hin;rw [hx] at this;exact this) ho (dL hs.1) (dL hs.2))⟩
  ·split at h
   ·rename_i e hb
    split at h
    ·rename_i hs
     rcases C6 h with ⟨hroom,h⟩ | ⟨_,h⟩
     ·exact ⟨_,h,fun n0 Bx w B η ρv inv he=>.of rfl (fun _ _ h=>by simp [ex,ex0] at h) (ah4 inv.lt (by have:=bV hp he x hin;rw [hx] at this;exact this) ho (dL hs) hb hroom)⟩
     ·cases h
    ·cases h
   ·cases h
 ·split at h
  ·rename_i e hb
   split at h
   ·rename_i dd l hv
    obtain ⟨e1,h1⟩:=bW h
    clear h
    subst e1
    have h:=h1;clear h1
    simp only at h
    split at h
    ·rename_i hsd
     subst hsd
     split at h
     ·rename_i d2 l2 _ hx
      rcases C6 h with ⟨_,h⟩ | ⟨hl,h⟩
      ·cases h
      ·rw [hx] at hv
       simp only [nt,Db.injEq,Sigma.mk.injEq] at hv
       obtain ⟨rfl,hv⟩:=hv
       have hv:=eq_of_heq hv
       subst hv
       refine ⟨_,h,fun n0 Bx w B η ρv inv he=>.of rfl (fun _ _ h=>by simp [ex,ex0] at h) ?_⟩
       exact amr (ρA:=fun y=>eu (ρ y)) (eM hp he) ho (by simp only [hx];rfl) hb (fun h0=>afw (d:=.int .u8) (Dg 1) hl h0) (fun ad n c hv=>(he x hin).2 (by rw [hx];rfl) ad n c hv)
     ·cases h
    ·split at h
     ·rename_i hd
      obtain ⟨bs,hbs,h⟩:=Dd h
      refine ⟨_,h,fun n0 Bx w B η ρv inv he=>.of rfl (fun _ _ h=>by simp [ex,ex0] at h) ?_⟩
      exact ag6 (ρA:=fun y=>eL P e (ρ y)) (BF e hp he) ho (vL hv) hb hd (ad4 hbs)
     ·cases h
   ·cases h
  ·cases h
theorem qn {place:Nat→Option (Nat×Nat)}:∀ (parts:List (Nat×V)) (segs r:List V),zy place segs parts=some r→pG place (aD segs) (parts.map fun p=>(p.1,eu p.2))=some (aD r)
 | [],segs,r,h=>by simp only [zy,Db.injEq] at h;subst h;rfl
 | (i,x)::rest,segs,r,h=>by
  unfold zy at h
  split at h
  ·cases h
  ·rename_i off size hpl
   split at h
   ·rename_i s hs
    split at h
    ·rename_i hw
     split at h
     ·rename_i segs' hput
      obtain ⟨h1,h2,h3⟩:=jK hs
      obtain ⟨h4,h5⟩:=zb hput
      have ih:=qn rest segs' r h
      simp only [List.map_cons,pG,hpl]
      rw [if_pos ⟨h2,by rw [h1,oM,hw],by rw [h1];exact h5⟩,h1,←h4]
      exact ih
     ·cases h
    ·cases h
   ·cases h
theorem ze:∀ (d:Td) (segs:List V),Wk (aD segs) (aD (vl d segs).1++aD (vl d segs).2)
 | .arr n d,segs=>by
  unfold vl
  split
  ·rw [aA,aA,eP,Dy];exact Wk.refl _
  ·split
   ·simpa [eP] using Wk.refl _
   split
   ·rename_i a r hr
    obtain ⟨a',rest,h1,h2⟩:=tb (eJ d) n segs _ _ hr
    simp only [Tree.run,Db.injEq,Prod.mk.injEq] at h1
    obtain ⟨rfl,rfl⟩:=h1
    simpa [aD,segA] using h2
   ·simpa [eP] using Wk.refl _
 | .pair d e,segs=>by
  unfold vl
  have h1:=ze d segs
  split
  rename_i p r hpr
  rw [hpr] at h1
  have h2:=ze e r
  split
  rename_i q r' hqr
  rw [hqr] at h2
  simp only [cp,Ds]
  exact h1.trans ((Wk.refl _).app h2)
 | .int k,segs=>by cases segs <;> simpa [vl,aA,eP] using Wk.refl _
 | .bool,segs=>by cases segs <;> simpa [vl,aA,eP] using Wk.refl _
 | .str,segs=>by cases segs <;> simpa [vl,aA,eP] using Wk.refl _
 | .sl d,segs=>by cases segs <;> simpa [vl,aA,eP] using Wk.refl _
theorem nM (t:TypeId)(segs:List V):Wk (aD segs) (aD (qT P t segs)):=by
 unfold qT
 split
 ·rename_i d _
  have:=ze d segs
  split
  rename_i p r hpr
  rw [hpr] at this
  rw [cp];exact this
 ·exact Wk.refl _
theorem acW {w:World}{B:List Nat}{η:List Value}{l m:List AV}{v:Value}(hw:Wk l m)(h:Rel w B η (.agg l) v):Rel w B η (.agg m) v:=by
 obtain ⟨cs,rfl,hl⟩:=h.aggL
 exact (hw w B η _ hl).toAgg
theorem afT {t:TypeId}{parts:Array (Nat×Operand)}{k:V→Tree R}{res:R}(hp:cn ρ o)(ho:o.op= .build t parts)(h:(afU P ρ t parts k).run=some res):∃ r,(k r).run=some res∧Does P H ρ o r:=by
 have hpm:(mN ρ parts).map (fun p=>(p.1,eu p.2))=gj (fun y=>eu (ρ y)) parts:=by simp [mN,gj,DD,DH]
 have key:∀ l,B6 P t (gj (fun y=>eu (ρ y)) parts)=some (.agg (aD l))→Does P H ρ o (.agg (qT P t l)):=fun l hl n0 Bx w B η ρv inv he=>
  .of rfl (fun _ _ h=>by simp [ex,ex0] at h) (OpOK.mono (aid (ρA:=fun y=>eu (ρ y)) (eM hp he) ho hl) fun w' v hv=>acW (nM t l) hv)
 unfold afU at h
 split at h
 ·rename_i z places hlay
  split at h
  ·rename_i l hl
   refine ⟨_,h,key l ?_⟩
   have:=qn _ _ _ hl
   rw [hpm,cK] at this
   simp only [B6,hlay,this]
  ·cases h
 ·rename_i hno
  split at h
  ·rename_i z size hlay
   split at h
   ·rename_i l hl
    refine ⟨_,h,key l ?_⟩
    have:=qn _ _ _ hl
    rw [hpm,cK] at this
    simp only [B6,hno,hlay,this]
   ·cases h
  ·cases h
theorem pC:∀ (l:List V),l.all immV=true→(aD l).all AV.imm0=true
 | [],_=>rfl
 | x::l,h=>by
  simp only [List.all_cons,C8] at h
  rw [aA,List.all_append,pC l h.2,Bool.and_true]
  have h1:=h.1
  cases x <;> first | rfl | cases h1 | skip
  rename_i d n a
  exact fC d a.l
theorem AM {w:World}{B:List Nat}{η:List Value}{l m:List AV}{k:Nat}{v:Value}(hw:Wk l m)(hlen:m.length=l.length)(h:Rel w B η (.fresh l k) v):Rel w B η (.fresh m k) v:=by
 cases h with
 | fresh _ _ _ A n us hk hn h0 hm hA hr=>
  have hl:RelL w B [] l ((List.range l.length).map us):=⟨by simp,fun i y hy=>⟨us i,by simp [(List.getElem?_eq_some_iff.1 hy).1],hr i y hy⟩⟩
  have hm':=hw w B [] _ hl
  refine .fresh _ _ _ A n us hk (by rw [hlen];exact hn) h0 hm (fun h0=>by obtain ⟨ad,q1,q2⟩:=hA h0;exact ⟨ad,q1,by rw [hlen];exact q2⟩) (fun i x hx=> ?_)
  obtain ⟨u,q1,q2⟩:=hm'.2 i x hx
  have hi:i<l.length:=by rw [←hlen];exact (List.getElem?_eq_some_iff.1 hx).1
  simp [hi] at q1
  rw [q1];exact q2
theorem aaz {t:TypeId}{len:Nat}{parts:Array (Nat×Operand)}{k:V→Tree R}{res:R}(hp:cn ρ o)(ho:o.op= .buildSlice t len parts)(h:(zY P ρ t len parts k).run=some res):∃ r,(k r).run=some res∧Does P H ρ o r:=by
 have hpm:(mN ρ parts).map (fun p=>(p.1,eu p.2))=gj (fun y=>eu (ρ y)) parts:=by simp [mN,gj,DD,DH]
 unfold zY at h
 split at h
 ·rename_i e kw z hsl
  split at h
  ·rename_i hlen
   split at h
   ·rename_i l hl
    split at h
    ·rename_i himm
     have hb:qq P t len (gj (fun y=>eu (ρ y)) parts)=some (.sl (aD l) kw):=by
      have:=qn _ _ _ hl
      rw [hpm,cK] at this
      simp only [qq,hsl,this]
      rw [if_pos hlen.1,if_pos (pC l himm)]
     split at h
     ·rename_i h0
      exact ⟨_,h,fun n0 Bx w B η ρv inv he=>fun N hN=>aay (ρA:=fun y=>eu (ρ y)) (n0:=n0) inv.lt (eM hp he) ho hlen.2 h0 hb N fun v w' g hr hf=>hN v w' g hr hf⟩
     ·split at h
      ·rename_i d htd
       split at h
       ·rename_i hwd
        obtain ⟨a,rest,h1,h2⟩:=tb (eJ d) len l _ _ h
        split at h1
        ·rename_i hrest
         have hr0:aD rest=[]:=C5 (by rw [oM];exact hrest)
         rw [hr0,Dy] at h2
         refine ⟨_,h1,fun n0 Bx w B η ρv inv he=>fun N hN=>zX (ρA:=fun y=>eu (ρ y)) inv.lt inv.base.1 (eM hp he) ho hlen.2 hb N fun v w' g hr hf=>hN v w' g ?_ hf⟩
         have hll:(flat d a.l).length=(aD l).length:=by
          have hrl:∃ us,us.length=(aD l).length∧RelL w' B [] (aD l) us:=by
           cases hr with
           | fresh _ _ _ A n us hk hn h0 hm hA hr=>exact ⟨(List.range (aD l).length).map us,by simp,by simp,fun i y hy=>⟨us i,by simp [(List.getElem?_eq_some_iff.1 hy).1],hr i y hy⟩⟩
          obtain ⟨us,q1,q2⟩:=hrl
          have:=(h2 w' B [] us q2).1
          omega
         simp only [Rel2,ex,ex0,hwd]
         exact AM h2 hll hr
        ·cases h1
       ·cases h
      ·cases h
    ·cases h
   ·cases h
  ·cases h
 ·cases h
def minI (a b:Int):Int:=if b<a then b else a
def maxI (a b:Int):Int:=if a<b then b else a
def minK (x y:V)(k:V→Tree R):Tree R:=match x,y with
 | .c (.int kk a),.c (.int _ b)=>k (.c (.int kk (minI a b)))
 | _,_=>.fail
def maxK (x y:V)(k:V→Tree R):Tree R:=match x,y with
 | .c (.int kk a),.c (.int _ b)=>k (.c (.int kk (maxI a b)))
 | _,_=>.fail
theorem amp {x y:Operand}{ts:Array TypeId}{k:V→Tree R}{res:R}(hp:cn ρ o)(ho:o.op= .call ⟨.builtin .min, #[x,y],ts⟩)(h:(minK (ρ x) (ρ y) k).run=some res):∃ r,(k r).run=some res∧Does P H ρ o r:=by
 unfold minK at h
 split at h
 ·rename_i kk a k2 b hx hy
  refine ⟨_,h,vM hp fun n0 w B η ρv he=> ?_⟩
  have h1:=he x (by simp [ho,gt,Dj])
  have h2:=he y (by simp [ho,gt,Dj])
  rw [hx] at h1;rw [hy] at h2
  have h1:=Du h1
  have h2:=Du h2
  refine .of_run (v:=.int kk (minI a b)) ?_ (.c _ _)
  simp [execOp,ho,resolve,invoke,builtin,Builtin.min_,Builtin.min2,ne,h1,h2,minI]
 ·cases h
theorem amq {x y:Operand}{ts:Array TypeId}{k:V→Tree R}{res:R}(hp:cn ρ o)(ho:o.op= .call ⟨.builtin .max, #[x,y],ts⟩)(h:(maxK (ρ x) (ρ y) k).run=some res):∃ r,(k r).run=some res∧Does P H ρ o r:=by
 unfold maxK at h
 split at h
 ·rename_i kk a k2 b hx hy
  refine ⟨_,h,vM hp fun n0 w B η ρv he=> ?_⟩
  have h1:=he x (by simp [ho,gt,Dj])
  have h2:=he y (by simp [ho,gt,Dj])
  rw [hx] at h1;rw [hy] at h2
  have h1:=Du h1
  have h2:=Du h2
  refine .of_run (v:=.int kk (maxI a b)) ?_ (.c _ _)
  simp [execOp,ho,resolve,invoke,builtin,Builtin.max_,Builtin.max2,ne,h1,h2,maxI]
 ·cases h
def noOp (o:Op):Option Unit:=none
def amc (c a b:V)(k:V→Tree R):Tree R:=
 match c with
 | .c (.bool t)=>(match a,b with
  | .c (.bool p),.c (.bool q)=>k (.c (.bool (cond t p q)))
  | a,b=>.ite t (k a) (k b))
 | _=>.fail
def afX (P:Program)(H:List E2)(t:TypeId)(i o j o':Nat)(k:V→Tree R):Tree R:=
 match ptrT P t with
 | some e=>if P.cellsOf e=0 then .fail else if i=j∧o=o' then k (.c (.bool true)) else (match H[i]?,H[j]? with
  | some (.box _ _),some (.box _ _)=>k (.c (.bool false))
  | _,_=>.fail)
 | none=>.fail
theorem aie {t t2:TypeId}{x y:Operand}{i o1 j o2:Nat}{k:V→Tree R}{res:R}(hp:cn ρ o)(ho:o.op= .binOp .eql t x y t2)(hx:ρ x= .box i o1)(hy:ρ y= .box j o2)(h:(afX P H t i o1 j o2 k).run=some res):∃ r,(k r).run=some res∧Does P H ρ o r:=by
 have hinx:x∈o.op.operands:=by simp [ho,gt]
 have hiny:y∈o.op.operands:=by simp [ho,gt]
 unfold afX at h
 split at h
 case h_2=>cases h
 rename_i e het
 split at h
 ·cases h
 rename_i hc
 obtain ⟨ii,hii,hs⟩:=bN hc
 have hu:=pg het
 have addr:∀ (n0:Nat) (Bx:List Nat) (w:World) (B:List Nat) (η:List Value) (ρv:Operand→Value),(∀ x∈o.op.operands,Rel2 w B η (ρ x) (ρv x)∧aM n0 (ex (ρ x)) (ρv x))→∃ b c:Nat,ρv x= .pointer (some ⟨b,o1,none⟩)∧η[i]? =some (.pointer (some ⟨b,0,none⟩))∧ρv y= .pointer (some ⟨c,o2,none⟩)∧η[j]? =some (.pointer (some ⟨c,0,none⟩)):=fun n0 Bx w B η ρv he=>by
  have h1:=bV hp he x hinx
  have h2:=bV hp he y hiny
  rw [hx] at h1;rw [hy] at h2
  generalize ρv x=u at h1 ⊢
  generalize ρv y=v at h2 ⊢
  cases h1 with
  | box _ _ _ b hb=>cases h2 with
   | box _ _ _ c hc=>exact ⟨b,c,rfl,hb,rfl,hc⟩
 split at h
 ·rename_i hij
  obtain ⟨rfl,rfl⟩:=hij
  refine ⟨_,h,fun n0 Bx w B η ρv inv he=>.of rfl (fun _ _ h=>by simp [ex,ex0] at h) ?_⟩
  obtain ⟨b,c,e1,e2,e3,e4⟩:=addr n0 Bx w B η ρv he
  rw [e2] at e4
  simp only [Db.injEq,Value.pointer.injEq,Addr.mk.injEq] at e4
  obtain ⟨rfl,_⟩:=e4
  refine .of_run (v:=.bool true) ?_ (.c _ _)
  simp [execOp,ho,e1,e3,ne,eqGuard,run_eql_ptr_same w _ hu hii]
 ·rename_i hij
  split at h
  ·rename_i l1 T1 l2 T2 hH1 hH2
   refine ⟨_,h,fun n0 Bx w B η ρv inv he=>.of rfl (fun _ _ h=>by simp [ex,ex0] at h) ?_⟩
   obtain ⟨b,c,e1,e2,e3,e4⟩:=addr n0 Bx w B η ρv he
   have g1:η.getD i undef= .pointer (some ⟨b,0,none⟩):=by simp [List.getD_eq_getElem?_getD,e2]
   have g2:η.getD j undef= .pointer (some ⟨c,0,none⟩):=by simp [List.getD_eq_getElem?_getD,e4]
   obtain ⟨b',us,p1,_,_,_,p5,_⟩:=inv.ent i _ (exH hH1)
   obtain ⟨c',us',q1,_,_,_,q5,_⟩:=inv.ent j _ (exH hH2)
   rw [g1] at p1;rw [g2] at q1
   simp only [Value.pointer.injEq,Db.injEq,Addr.mk.injEq] at p1 q1
   obtain ⟨rfl,_⟩:=p1
   obtain ⟨rfl,_⟩:=q1
   have hne:(⟨b,o1,none⟩:Addr)≠⟨c,o2,none⟩:=fun hc=>by
    simp only [Addr.mk.injEq] at hc
    obtain ⟨rfl,rfl,_⟩:=hc
    refine inv.sep i j _ _ (fun h=>hij ⟨h,rfl⟩) (exH hH1) (exH hH2) rfl rfl b (by rw [g1];rfl) (by rw [g2];rfl)
   refine .of_run (v:=.bool false) ?_ (.c _ _)
   simp [execOp,ho,e1,e3,ne,eqGuard,run_eql_ptr_other w hu hii (by rw [hs];exact hc) hne p5 q5]
  ·cases h
def evN1 (P:Program)(H:List E2)(ρ:Operand→V)(o:Op)(k:V→Tree R):Tree R:=
 match o with
 | .nilCheck x=>rG (ρ x) k
 | .fieldAddr s x f=>qo P s f (ρ x) k
 | .load t x=>amu P H t (ρ x) k
 | .field s x f=>afB P s f (ρ x) k
 | .index t x i=>(match ρ x with
  | .str s=>if jL P t=true then uE s (ρ i) k else .fail
  | x=>afd P t x (ρ i) k)
 | .indexAddr t x i=>nd P H t (ρ x) (ρ i) k
 | .extract x i=>rV (ρ x) i k
 | .slice t x lo hi none=>(match arrT P t,ρ x with
  | some (m,e),x=>ru P ρ m e x lo hi k
  | none,.str s=>if jL P t=true then uD ρ s lo hi k else .fail
  | none,x=>aaQ P ρ t x lo hi k)
 | .slice t x none (some hi) (some mx)=>Cn P t (ρ x) (ρ hi) (ρ mx) k
 | .call ⟨.builtin .len,⟨[x]⟩,ts⟩=>(match ts[0]? with | some t=>lenK P H t (ρ x) k | none=>.fail)
 | .call ⟨.builtin .min,⟨[x,y]⟩,_⟩=>minK (ρ x) (ρ y) k
 | .call ⟨.builtin .max,⟨[x,y]⟩,_⟩=>maxK (ρ x) (ρ y) k
 | .binOp op t x (.const .nilIface) _=>niK P op t (ρ x) (ρ (.const .nilIface)) k
 | .binOp op t x y _=>(match op,ρ x,ρ y with
  | .eql,.box i o1,.box j o2=>afX P H t i o1 j o2 k
  | op,u,v=>binK P op t u v k)
 | .unOp op _ x=>unK op (ρ x) k
 | .convert s d x=>am1 P s d (ρ x) k
 | .build t parts=>afU P ρ t parts k
 | .buildSlice t len parts=>zY P ρ t len parts k
 | .sliceToArrayPointer t x=>aaD P t (ρ x) k
 | .makeSlice t a b=>zn P t (ρ a) (ρ b) k
 | o=>.bind (noOp o) fun _=>.fail
def Bf (ρ:Operand→V)(o:Op):Bool:=o.operands.all fun x=>(ρ x).plain
def bsiK (P:Program)(ρ:Operand→V)(k:V→Tree R):Op→Option (Tree R)
 | .indexAddr t x i=>(match ρ x,ρ i,jz P t with
  | .bsl id n,.c (.int _ z),some e=>if P.cellsOf e=0 then none else if n≤4 then some (aaw z (fun j=>k (.box id (j*P.cellsOf e))) n 0) else some (.ite (decide (0≤z∧z<(n:Int))) (k (.box id (z.toNat*P.cellsOf e))) .fail)
  | _,_,_=>none)
 | _=>none
def evN (P:Program)(H:List E2)(ρ:Operand→V)(o:Op)(k:V→Tree R):Tree R:=
 match o with
 | .move x=>k (ρ x)
 | .assign x=>k (ρ x)
 | .pick c a b=>amc (ρ c) (ρ a) (ρ b) k
 | .makeFunc (.func f) ⟨[]⟩ caps=>if caps.toList.all (fun x=>(ρ x).cap) then k (.clo f (caps.toList.map ρ)) else .fail
 | o=>if Bf ρ o=true then evN1 P H ρ o k else (match bsiK P ρ k o with | some t=>t | none=>.bind (noOp o) fun _=>.fail)
theorem rX {x:Operand}{r:V}(hop:∀ (w:World) (ρv:Operand→Value),(execOp ρv o).run P w= .ok (.value (ρv x)) w)(hin:x∈o.op.operands)(hr:ρ x=r):Does P H ρ o r:=fun n0 Bx w B η ρv inv he N hN=>by
 subst hr
 unfold DA
 rw [hop]
 exact hN _ _ (Gk.refl _ _ w) (he x hin).1 (he x hin).2
theorem ahq {c a b:Operand}{k:V→Tree R}{res:R}(ho:o.op= .pick c a b)(h:(amc (ρ c) (ρ a) (ρ b) k).run=some res):∃ r,(k r).run=some res∧Does P H ρ o r:=by
 unfold amc at h
 split at h
 ·rename_i t hc
  have key:∀ (r:V),(cond t (ρ a) (ρ b))=r→Does P H ρ o r:=fun r hr n0 Bx w B η ρv inv he N hN=>by
   have h1:=(he c (by simp [ho,gt])).1
   rw [hc] at h1
   have h2:=Du h1
   unfold DA
   have hrun:(execOp ρv o).run P w= .ok (.value (cond t (ρv a) (ρv b))) w:=by
    cases t <;> simp [execOp,ho,h2,asBool,ne]
   rw [hrun]
   subst hr
   cases t
   ·exact hN _ _ (Gk.refl _ _ w) (he b (by simp [ho,gt])).1 (he b (by simp [ho,gt])).2
   ·exact hN _ _ (Gk.refl _ _ w) (he a (by simp [ho,gt])).1 (he a (by simp [ho,gt])).2
  split at h
  ·rename_i p q ha hb
   exact ⟨_,h,key _ (by rw [ha,hb];cases t <;> rfl)⟩
  ·rcases C6 h with ⟨ht,h⟩ | ⟨ht,h⟩
   ·subst ht;exact ⟨_,h,key _ rfl⟩
   ·subst ht;exact ⟨_,h,key _ rfl⟩
 ·cases h
theorem amO {k:V→Tree R}{res:R}(hp:cn ρ o)(h:(evN1 P H ρ o.op k).run=some res):∃ r,(k r).run=some res∧Does P H ρ o r:=by
 generalize ho:o.op=op at h
 unfold evN1 at h
 split at h
 ·exact Bq hp ho h
 ·exact zB hp ho h
 ·exact ahD hp ho h
 ·exact afA hp ho h
 ·split at h
  ·rename_i hx;split at h
   ·rename_i hs;exact Ar hp ho (dL hs) hx h
   ·cases h
  ·exact afc hp ho h
 ·exact zq hp ho h
 ·exact aam hp ho h
 ·split at h
  ·rename_i hat;exact Ay hp ho (cN hat) h
  ·rename_i hx;split at h
   ·rename_i hs;exact Aq hp ho (dL hs) hx h
   ·cases h
  ·exact aef hp ho h
 ·exact acT hp ho h
 ·split at h
  ·rename_i ht;exact amx hp ho ht h
  ·cases h
 ·exact amp hp ho h
 ·exact amq hp ho h
 ·exact arL hp ho rfl h
 ·split at h
  ·rename_i hx hy;exact aie hp ho hx hy h
  ·exact ana hp ho h
 ·exact ark hp ho h
 ·exact ah3 hp ho h
 ·exact afT hp ho h
 ·exact aaz hp ho h
 ·exact adM hp ho h
 ·exact aab hp ho h
 ·cases h
theorem am7 {k:V→Tree R}{res:R}{t:Tree R}(hb:bsiK P ρ k o.op=some t)(h:t.run=some res):∃ r,(k r).run=some res∧Does P H ρ o r:=by
 obtain ⟨op,ho⟩:∃ op,o.op=op:=⟨_,rfl⟩
 rw [ho] at hb
 unfold bsiK at hb
 split at hb
 ·rename_i tt x i
  split at hb
  ·rename_i id n kk z e hx hi het
   split at hb
   ·cases hb
   ·rename_i hc
    have key:∀ (j:Nat),z=(j:Int)→j<n→Does P H ρ o (.box id (j*P.cellsOf e)):=fun j hj hjn=>by
     subst hj
     intro n0 Bx w B η ρv inv he N hN
     have z0:(0:Int)≤(j:Int):=by omega
     have z1:(j:Int)<(n:Int):=by omega
     have h1:=(he x (by simp [ho,gt])).1
     rw [hx] at h1
     obtain ⟨b,hid,hv⟩:=h1
     have h2:=(he i (by simp [ho,gt])).1
     rw [hi] at h2
     have h2:Rel w B η (.c (.int kk (j:Int))) (ρv i):=h2
     have h2:=h2.ofC
     have hu:=aX het
     obtain ⟨ii,hii,hs⟩:=bN (t:=e) (P:=P) (by omega)
     unfold DA
     have hrun:(execOp ρv o).run P w= .ok (.value (.pointer (some ⟨b,j*P.cellsOf e,none⟩))) w:=by
      simp [execOp,ho,Instr.indexAt,ne,run_underlying hu,hv,h2,asIntOf,z0,z1,hjn,Nat.not_le.mpr hjn,bG hii,hs,DE]
     rw [hrun]
     exact hN _ _ (Gk.refl _ _ w) (.box _ _ _ _ hid) (fun h=>by cases h)
    split at hb
    ·injection hb with hb;subst hb
     obtain ⟨j,hj,hz,h⟩:=qp h
     exact ⟨_,h,key j hz (by omega)⟩
    injection hb with hb;subst hb
    rcases C6 h with ⟨hz,h⟩ | ⟨_,h⟩
    ·obtain ⟨z0,z1⟩:=of_decide_eq_true hz
     exact ⟨_,h,key z.toNat (by omega) (by omega)⟩
    ·cases h
  ·cases hb
 ·cases hb
theorem asl {k:V→Tree R}{res:R}(h:(evN P H ρ o.op k).run=some res):∃ r,(k r).run=some res∧Does P H ρ o r:=by
 generalize ho:o.op=op at h
 unfold evN at h
 split at h
 ·exact ⟨_,h,rX (x:=by assumption) (fun w ρv=>by simp [execOp,ho]) (by simp [ho,gt]) rfl⟩
 ·exact ⟨_,h,rX (x:=by assumption) (fun w ρv=>by simp [execOp,ho]) (by simp [ho,gt]) rfl⟩
 ·exact ahq ho h
 ·rename_i f caps
  split at h
  ·rename_i hc
   refine ⟨_,h,fun n0 Bx w B η ρv inv he N hN=> ?_⟩
   unfold DA
   have hrun:(execOp ρv o).run P w= .ok (.value (.func (.func f) #[] (caps.map ρv))) w:=by
    simp [execOp,ho,Instr.makeFunc]
   have hcp:caps.map ρv=(caps.toList.map ρv).toArray:=by apply DJ;simp
   rw [hrun,hcp]
   refine hN _ _ (Gk.refl _ _ w) ⟨caps.toList.map ρv,by simp,by simp,fun i c hci=> ?_⟩ (fun h=>by simp [ex,ex0,fo] at h)
   rw [List.getElem?_map,C7] at hci
   obtain ⟨y,hy,rfl⟩:=hci
   have hm:=Da hy
   have hpl:=Dh.1 hc y hm
   exact ⟨ρv y,by rw [List.getElem?_map,hy];rfl,hpl,(he y (by simp [ho,gt];simpa using hm)).1.get (V.cap_plain hpl)⟩
  ·cases h
 ·split at h
  ·rename_i hp
   refine amO (fun x hx=> ?_) (by rw [ho];exact h)
   rw [ho] at hx
   exact Array.all_eq_true'.1 hp x hx
  ·split at h
   ·rename_i hb
    exact am7 (by rw [ho];exact hb) h
   ·cases h
end
def agY (P:Program)(t:TypeId):Option Value:=o9 P (zeroValue t)
def qw (e e':Ent):Prop:=e'= .dead∨e=e'∨(∃ l m T,e= .box l T∧e'= .box m T∧Wk l m)∨(∃ l m E k,e= .own l E k∧e'= .own m E k∧Wk l m)
theorem Wk.len {l m:List AV}(h:Wk l m){w:World}{B:List Nat}{η us:List Value}(hl:RelL w B η l us):m.length=l.length:=by
 rw [←(h w B η us hl).1,hl.1]
theorem qw.refl (e:Ent):qw e e:=.inr (.inl rfl)
theorem qw.live {e e':Ent}(h:qw e e')(hl:e'.live=true):e.live=true:=by
 rcases h with rfl | rfl | ⟨l,m,T,rfl,rfl,_⟩ | ⟨l,m,E,k,rfl,rfl,_⟩
 ·cases hl
 ·exact hl
 ·rfl
 ·rfl
theorem bH.le {n0:Nat}{Bx:List Nat}{w:World}{B:List Nat}{η:List Value}{v:Value}{e e':Ent}(h:bH n0 Bx w B η v e)(hle:qw e e'):bH n0 Bx w B η v e':=by
 rcases hle with rfl | rfl | ⟨l,m,T,rfl,rfl,hw⟩ | ⟨l,m,E,k,rfl,rfl,hw⟩
 ·trivial
 ·exact h
 ·obtain ⟨b,us,h1,h2,h3,h4,h5,h6⟩:=h
  exact ⟨b,us,h1,h2,h3,h4,h5,hw w B η us h6⟩
 ·obtain ⟨n,us,h1,h2,h3,h4⟩:=h
  exact ⟨n,us,h1,hw w B η us h2,h3,h4⟩
theorem Inv.le {n0:Nat}{Bx:List Nat}{w:World}{B:List Nat}{η:List Value}{H H':List Ent}(inv:Inv n0 Bx w B η H)(hlen:H'.length=H.length)(hle:∀ (i:Nat) e',H'[i]? =some e'→∃ e,H[i]? =some e∧qw e e'):Inv n0 Bx w B η H':=by
 refine ⟨by rw [hlen];exact inv.len,inv.base,inv.sub,inv.lt,fun i e' he=> ?_,fun i j ei ej hij hi hj hli hlj=> ?_⟩
 ·obtain ⟨e,h1,h2⟩:=hle i e' he
  exact (inv.ent i e h1).le h2
 ·obtain ⟨e,h1,h2⟩:=hle i ei hi
  obtain ⟨f,h3,h4⟩:=hle j ej hj
  exact inv.sep i j e f hij h1 h3 (h2.live hli) (h4.live hlj)
def OpS2 (P:Program)(n0:Nat)(Bx:List Nat)(w:World)(ρ:Operand→Value)(o:Oper)(B:List Nat)(η:List Value)(r:V)(H':List E2):Prop:=
 ∀ N:Value→World→Prop,(∀ v w' B' η',On B w w'→(∀ b∈B',b∈B∨w.heap.size≤b)→(∀ (id:Nat) v,η[id]? =some v→η'[id]? =some v)→Bel n0 Bx w w'→Inv n0 Bx w' B' η' (H'.map exE)→Rel2 w' B' η' r v→aM n0 (ex r) v→N v w')→DA P ρ o w N
def lZ (P:Program)(H:List E2)(ρ:Operand→V)(o:Oper)(r:V)(H':List E2):Prop:=
 ∀ (n0:Nat) (Bx:List Nat) (w:World) (B:List Nat) (η:List Value) (ρv:Operand→Value),Inv n0 Bx w B η (H.map exE)→(∀ x∈o.op.operands,Rel2 w B η (ρ x) (ρv x)∧aM n0 (ex (ρ x)) (ρv x))→OpS2 P n0 Bx w ρv o B η r H'
section
variable {P:Program} {H:List E2} {ρ:Operand→V} {o:Oper} {R:Type}
theorem Does.s {r:V}(h:Does P H ρ o r):lZ P H ρ o r H:=fun n0 Bx w B η ρv inv he N hN=>
 h n0 Bx w B η ρv inv he N (fun v w' g hr hf=>hN v w' B η g.on (fun _ h=>.inl h) (fun _ _ h=>h) (g.bel inv) (inv.gk g) hr hf)
theorem OpS.to {n0:Nat}{Bx:List Nat}{w:World}{ρv:Operand→Value}{B:List Nat}{η:List Value}{r:V}{H1:List Ent}{H':List E2}(h:OpS P n0 Bx w ρv o B η (ex r) H1)(hp:r.plain=true)(hlen:H'.length=H1.length)(hle:∀ (i:Nat) e',H'[i]? =some e'→∃ e,H1[i]? =some e∧qw e (exE e')):OpS2 P n0 Bx w ρv o B η r H':=fun N hN=>
 h N fun v w' B' η' h1 h2 h3 h4 h5 h6 h7=>hN v w' B' η' h1 h2 h3 h4 (h5.le (by simp [hlen]) (fun i e' he=>by
  rw [List.getElem?_map,C7] at he
  obtain ⟨e2,q1,rfl⟩:=he
  exact hle i e2 q1)) (Rel2.of hp h6) h7
theorem qG {H1:List E2}{id:Nat}{e e1:E2}{f:Ent}(h:qw f (exE e1)):∀ (i:Nat) e',(H1.set id e1)[i]? =some e'→∃ e,((H1.map exE).set id f)[i]? =some e∧qw e (exE e'):=by
 intro i e' he
 rw [List.getElem?_set] at he ⊢
 split at he
 ·rename_i hi
  subst hi
  split at he
  ·rename_i hlt
   injection he with he;subst he
   simp only [if_true,Dc]
   rw [if_pos hlt]
   exact ⟨f,rfl,h⟩
  ·cases he
 ·rename_i hi
  rw [if_neg hi,List.getElem?_map,he]
  exact ⟨_,rfl,.refl _⟩
theorem gK {H1:List E2}{H2:List Ent}{e1:E2}{f:Ent}(h0:H2.length=H1.length)(h1:∀ (i:Nat) e',H1[i]? =some e'→∃ e,H2[i]? =some e∧qw e (exE e'))(h:qw f (exE e1)):∀ (i:Nat) e',(H1++[e1])[i]? =some e'→∃ e,(H2++[f])[i]? =some e∧qw e (exE e'):=by
 intro i e' he
 rcases DM i H1.length with hi | hi
 ·rw [List.getElem?_append_left hi] at he
  rw [List.getElem?_append_left (by omega)]
  exact h1 i e' he
 ·rw [List.getElem?_append_right hi] at he
  have hz:i-H1.length=0:=by have:=(List.getElem?_eq_some_iff.1 he).1;simp at this;omega
  rw [hz] at he
  injection he with he;subst he
  rw [List.getElem?_append_right (by omega),h0,hz]
  exact ⟨f,rfl,h⟩
theorem lQ (H1:List E2):∀ (i:Nat) e',H1[i]? =some e'→∃ e,(H1.map exE)[i]? =some e∧qw e (exE e'):=fun i e' he=>⟨exE e',by rw [List.getElem?_map,he];rfl,.refl _⟩
def boxK (P:Program)(H:List E2)(t:TypeId)(x:V)(k:V→List E2→Tree R):Tree R:=
 match ma x with
 | some s=>k (.box H.length 0) (H++[.box (qT P t s) t])
 | none=>.fail
def aaB (P:Program)(t:TypeId)(x:V)(k:V→Tree R):Tree R:=
 match ma x with
 | some s=>if s.all immV=true then k (.adr (qT P t s)) else .fail
 | none=>.fail
theorem afW {P:Program}{n0:Nat}{w:World}{B:List Nat}{η:List Value}{ρv:Operand→Value}{ρA:Operand→AV}{o:Oper}(hlt:∀ b∈B,b<w.heap.size)(he:∀ x∈o.op.operands,Rel w B η (ρA x) (ρv x)){T:TypeId}{x:Operand}(ho:o.op= .box T x)(hnt:vt (ρA x)=true)(himm:(ρA x).toL.all AV.imm0=true):OpOK P n0 w ρv o B η (.adr (ρA x).toL):=by
 intro N hN
 have hx:=he x (by simp [ho,gt])
 have hr:=hx.toL (fun l e=>by rw [e] at hnt;cases hnt)
 have g:=gL (Gr.refl w) (.cells (ρv x).cells.toList.toArray T)
 unfold DA
 have hrun:(execOp ρv o).run P w= .ok (.value (.pointer (some ⟨w.heap.size,0,none⟩))) (w.alloc (.cells (ρv x).cells.toList.toArray T)):=by
  simp only [execOp,ho]
  rfl
 rw [hrun]
 refine hN _ _ (.gr g) (.adr _ _ _ (fun i=>(ρv x).cells.toList.getD i undef) ⟨rfl,by simp,fun hb=> ?_,fun j hj=> ?_⟩ (fun j y hy=> ?_))
 ·have:=hlt _ hb;simp at this
 ·have hj':j<(ρv x).cells.toList.length:=by rw [←hr.1] at hj;exact hj
  rw [DE,Nat.zero_add,cell_of_row (w.alloc (.cells (ρv x).cells.toList.toArray T)) w.heap.size j (ρv x).cells.toList.toArray T (0,0) (by show (w.heap.push _)[w.heap.size]? =_;simp)]
  rw [List.getElem?_toArray,List.getElem?_eq_getElem hj',List.getD_eq_getElem?_getD,List.getElem?_eq_getElem hj',C9]
 ·obtain ⟨u,q1,q2⟩:=hr.2 j y hy
  rw [List.getD_eq_getElem?_getD,q1,C9]
  exact ((q2.bare0 (Dh.1 himm y (Da hy))):Rel w B [] y u).gr g
theorem xB {w:World}{B:List Nat}{η:List Value}{l m:List AV}{v:Value}(hw:Wk l m)(hv:Rel w B η (.adr l) v):Rel w B η (.adr m) v:=by
 cases hv with
 | adr _ _ ad us ha hr=>
  have hl:RelL w B [] l ((List.range l.length).map us):=⟨by simp,fun i y hy=>⟨us i,by simp [(List.getElem?_eq_some_iff.1 hy).1],hr i y hy⟩⟩
  have hm:=hw w B [] _ hl
  have hlen:m.length=l.length:=by have:=hm.1;simpa using this.symm
  refine .adr _ _ ad us ⟨ha.spot,ha.lt,ha.out,fun i hi=>ha.cell i (by omega)⟩ (fun i y hy=> ?_)
  obtain ⟨u,q1,q2⟩:=hm.2 i y hy
  have hi:i<l.length:=by rw [←hlen];exact (List.getElem?_eq_some_iff.1 hy).1
  simp [hi] at q1
  rw [q1];exact q2
theorem adG {t:TypeId}{x:Operand}{k:V→List E2→Tree R}{res:R}(hp:cn ρ o)(ho:o.op= .box t x)(h:(aaB P t (ρ x) fun r=>k r H).run=some res):∃ r H',(k r H').run=some res∧lZ P H ρ o r H':=by
 unfold aaB at h
 split at h
 ·rename_i s hs
  obtain ⟨h1,h2,h3⟩:=jK hs
  split at h
  ·rename_i himm
   refine ⟨_,_,h,Does.s fun n0 Bx w B η ρv inv he=>.of rfl (fun _ _ h=>by simp [ex,ex0] at h) ?_⟩
   have:=afW (P:=P) (n0:=n0) (ρA:=fun y=>eu (ρ y)) inv.lt (eM hp he) ho h2 (by rw [h1];exact pC s himm)
   rw [h1] at this
   refine this.mono fun w' v hv=> ?_
   exact xB (nM t s) hv
  ·cases h
 ·cases h
def abH (P:Program)(H:List E2)(t:TypeId)(k:V→List E2→Tree R):Tree R:=
 match agY P t with
 | some v=>k (.box H.length 0) (H++[.box (qT P t (v.cells.toList.map fg)) t])
 | none=>.fail
def oneV:V→Bool
 | .c v=>v.oneCell'
 | _=>true
theorem CO:∀ (l:List V),l.all oneV=true→(aD l).all AV.one=true
 | [],_=>rfl
 | x::l,h=>by
  simp only [List.all_cons,C8] at h
  rw [aA,List.all_append,CO l h.2,Bool.and_true]
  have h1:=h.1
  cases x <;> first | rfl | skip
  ·simpa [segA,AV.one,oneV] using h1
  ·rename_i d n a;exact lg d a.l
theorem am9 {t:TypeId}{x:Operand}{k:V→List E2→Tree R}{res:R}(hp:cn ρ o)(ho:o.op= .box t x)(h:(boxK P H t (ρ x) k).run=some res):∃ r H',(k r H').run=some res∧lZ P H ρ o r H':=by
 unfold boxK at h
 split at h
 ·rename_i s hs
  obtain ⟨h1,h2,h3⟩:=jK hs
  refine ⟨_,_,h,fun n0 Bx w B η ρv inv he=> ?_⟩
  have:=ast (P:=P) (ρA:=fun y=>eu (ρ y)) inv (eM hp he) ho h2
  rw [h1] at this
  simp only [Dc] at this
  exact this.to (r:=.box H.length 0) rfl (by simp) (gK (by simp) (lQ H) (.inr (.inr (.inl ⟨_,_,_,rfl,rfl,nM t s⟩))))
 ·cases h
theorem af9 {t:TypeId}{k:V→List E2→Tree R}{res:R}(ho:o.op= .alloc t)(h:(abH P H t k).run=some res):∃ r H',(k r H').run=some res∧lZ P H ρ o r H':=by
 unfold abH at h
 split at h
 ·rename_i v hz
  refine ⟨_,_,h,fun n0 Bx w B η ρv inv he=> ?_⟩
  have:=aij (P:=P) (ρ:=ρv) inv ho hz
  rw [←cK] at this
  simp only [Dc] at this
  exact this.to (r:=.box H.length 0) rfl (by simp) (gK (by simp) (lQ H) (.inr (.inr (.inl ⟨_,_,_,rfl,rfl,nM t _⟩))))
 ·cases h
def Au (P:Program)(H:List E2)(t:TypeId)(a x:V)(k:V→List E2→Tree R):Tree R:=
 match ma x with
 | none=>.fail
 | some s=>if wL s=P.cellsOf t∧0<P.cellsOf t∧s.all oneV=true then (match a with
  | .box id off=>(match H[id]? with
   | some (.box l T')=>(match putV l off s with | some l'=>k (.c undef) (H.set id (.box (qT P T' l') T')) | none=>.fail)
   | _=>.fail)
  | .boxi id off d n i oo=>(match H[id]? with
   | some (.box l T')=>(match Ao big l off,qu big l off with
    | some p,some (.arr d' n' a::rr)=>lX d' d (fun d=>Arr (T d) n') a fun a=>.bind (a.l[i]?) fun e=>(match putV (enc d e) oo s with
     | some s'=>decK d s' fun e' rest=>if wL rest=0 then k (.c undef) (H.set id (.box (p++ .arr d n' (a.set i e')::rr) T')) else .fail
     | none=>.fail)
    | _,_=>.fail)
   | _=>.fail)
  | .oadr id d i oo=>(match H[id]? with
   | some (.own d' l E)=>lX d' d (fun d=>List (T d)) l fun l=>.bind (l[i]?) fun e=>(match putV (enc d e) oo s with
     | some s'=>decK d s' fun e' rest=>if wL rest=0 then k (.c undef) (H.set id (.own d (l.set i e') E)) else .fail
     | none=>.fail)
   | _=>.fail)
  | _=>.fail) else .fail
theorem aa2 {α:Type}(p c q:List α)(off:Nat)(l:List α)(h:off+l.length≤c.length):putL (p++c++q) (p.length+off) l=p++putL c off l++q:=by
 unfold putL
 rw [Ds p c q,List.take_append,Dk (by omega:p.length≤p.length+off),Nat.add_sub_cancel_left,Dw (by omega),List.drop_append,List.drop_eq_nil_of_le (by omega:p.length≤p.length+off+l.length),DC]
 rw [show p.length+off+l.length-p.length=off+l.length by omega,Do (by omega)]
 simp only [Ds]
theorem abn {d:Td}{l:List (T d)}{i oo:Nat}{e e':T d}{s s' rest:List V}(he:l[i]? =some e)(hput:putV (enc d e) oo s=some s')(hw:Wk (aD s') (cells d e'++aD rest))(hr:wL rest=0)(pre post:List AV):
  i*wd d+oo+(aD s).length≤(flat d l).length∧Wk (putL (pre++flat d l++post) (pre.length+(i*wd d+oo)) (aD s)) (pre++flat d (l.set i e')++post):=by
 obtain ⟨h1,h2⟩:=zb hput
 rw [dr] at h1 h2
 have hi:i<l.length:=(List.getElem?_eq_some_iff.1 he).1
 have hr0:aD rest=[]:=C5 (by rw [oM];exact hr)
 rw [hr0,Dy] at hw
 rw [bk] at h2
 have hle:i*wd d+wd d≤(flat d l).length:=by rw [aF,←Nat.succ_mul];exact Df _ hi
 have hsp:flat d l=flat d (l.take i)++cells d e++flat d (l.drop (i+1)):=by
  rw [Ds,←gq he,iS,DF]
 have hpl:(flat d (l.take i)).length=i*wd d:=by rw [aF,Dv,DP (by omega)]
 refine ⟨by omega, ?_⟩
 rw [aa2 _ _ _ _ _ (by omega)]
 have e1:putL (flat d l) (i*wd d+oo) (aD s)=flat d (l.take i)++aD s'++flat d (l.drop (i+1)):=by
  conv=>lhs;rw [hsp]
  rw [←hpl,aa2 _ _ _ _ _ (by rw [bk];exact h2),←h1]
 have e2:flat d (l.set i e')=flat d (l.take i)++cells d e'++flat d (l.drop (i+1)):=by
  rw [List.set_eq_take_append_cons_drop,if_pos hi,cz,eT,Ds]
 rw [e1,e2]
 exact ((Wk.refl _).app (((Wk.refl _).app hw).app (Wk.refl _))).app (Wk.refl _)
theorem aea {t:TypeId}{a x:Operand}{k:V→List E2→Tree R}{res:R}(hp:cn ρ o)(ho:o.op= .store t a x)(h:(Au P H t (ρ a) (ρ x) k).run=some res):∃ r H',(k r H').run=some res∧lZ P H ρ o r H':=by
 unfold Au at h
 split at h
 ·cases h
 ·rename_i s hs
  obtain ⟨s1,s2,s3⟩:=jK hs
  split at h
  ·rename_i hc
   obtain ⟨c1,c2,c3⟩:=hc
   have hl:(aD s).length=P.cellsOf t:=by rw [oM];exact c1
   have h1:=CO s c3
   split at h
   ·rename_i id off ha
    split at h
    ·rename_i l T' hH
     split at h
     ·rename_i l' hput
      obtain ⟨p1,p2⟩:=zb hput
      refine ⟨_,_,h,fun n0 Bx w B η ρv inv he=> ?_⟩
      have:=uF (ρA:=fun y=>eu (ρ y)) inv (eM hp he) ho (by simp only [ha];rfl) (exH hH) (.inr s1) s2 hl c2 p2 h1
      rw [←p1] at this
      exact this.to (r:=.c undef) rfl (by simp) (qG (e:=.dead) (.inr (.inr (.inl ⟨_,_,_,rfl,rfl,nM T' l'⟩))))
     ·cases h
    ·cases h
   ·rename_i id off d n i oo ha
    split at h
    ·rename_i l T' hH
     split at h
     ·rename_i p d' n' ar rr hpre hpost
      obtain ⟨e1,h⟩:=bW h
      subst e1
      obtain ⟨e,hel,h⟩:=Dd h
      split at h
      ·rename_i s' hput
       obtain ⟨e',rest,h3,h4⟩:=eJ _ _ _ _ h
       split at h3
       ·rename_i hrest
        obtain ⟨q1,q2⟩:=pZ _ _ _ _ hpre
        obtain ⟨q3,q4⟩:=fD _ _ _ _ hpost
        have hsp:aD l=aD p++flat d' ar.l++aD rr:=by
         have:aD l=(aD l).take off++(aD l).drop off:=(DF _ _).symm
         rw [this,←q1,←q3,Ds];rfl
        have hpl:(aD p).length=off:=by rw [q1,Dv];omega
        obtain ⟨f0,f2⟩:=abn (e':=e') hel hput h4 hrest (aD p) (aD rr)
        have f1:i*wd d'+oo+(aD s).length≤(flat d' ar.l).length:=f0
        refine ⟨_,_,h3,fun n0 Bx w B η ρv inv he=> ?_⟩
        have:=uF (ρA:=fun y=>eu (ρ y)) inv (eM hp he) ho (by simp only [ha];rfl) (exH hH) (.inr s1) s2 hl c2 (by have hq:=congrArg List.length hsp;simp only [Dq] at hq;omega) h1
        rw [hsp,←hpl,Nat.add_assoc] at this
        refine this.to (r:=.c undef) rfl (by simp) (qG (e:=.dead) (.inr (.inr (.inl ⟨_,_,_,rfl,rfl, ?_⟩))))
        have e3:aD (p++ .arr d' n' (ar.set i e')::rr)=aD p++flat d' (ar.l.set i e')++aD rr:=by
         rw [cp,aA,Ds];rfl
        rw [e3]
        exact f2
       ·cases h3
      ·cases h
     ·cases h
    ·cases h
   ·rename_i id d i oo ha
    split at h
    ·rename_i d' l E hH
     obtain ⟨e1,h⟩:=bW h
     subst e1
     obtain ⟨e,hel,h⟩:=Dd h
     split at h
     ·rename_i s' hput
      obtain ⟨e',rest,h3,h4⟩:=eJ _ _ _ _ h
      split at h3
      ·rename_i hrest
       obtain ⟨f1,f2⟩:=abn (e':=e') hel hput h4 hrest [] []
       refine ⟨_,_,h3,fun n0 Bx w B η ρv inv he=> ?_⟩
       have:=Ck (ρA:=fun y=>eu (ρ y)) inv (eM hp he) ho (by simp only [ha];rfl) (exH hH) s1 s2 hl c2 f1 h1
       refine this.to (r:=.c undef) rfl (by simp) (qG (e:=.dead) (.inr (.inr (.inr ⟨_,_,_,_,rfl,rfl, ?_⟩))))
       simpa using f2
      ·cases h3
     ·cases h
    ·cases h
   ·cases h
  ·cases h
def acN (P:Program)(e:TypeId)(x:V):Option (Sigma fun d=>List (T d)):=match x with
 | .c (.slice (some _) 0 _)=>(match tdOf P 12 e with | some d=>some ⟨d,[]⟩ | none=>none)
 | x=>nt P e x
def pU (P:Program)(H:List E2)(t:TypeId)(s x:V)(k:V→List E2→Tree R):Tree R:=
 match jz P t with
 | some e=>(match rowI P e with
  | some (w,by_)=>(match acN P e x with
   | some ⟨d,m⟩=>if wd d=w then (match s with
    | .c (.slice none 0 0)=>.ite (ae m.length by_) (k (.own H.length) (H++[.own d m e])) .fail
    | .own id=>(match H[id]? with
     | some (.own d' l E)=>if E=e then lX d' d (fun d=>List (T d)) l fun l=>.ite (ae (l.length+m.length) by_) (k (.own H.length) (H.set id .dead++[.own d (l++m) e])) .fail else .fail
     | _=>.fail)
    | .emp=>.ite (ae m.length by_) (k (.lst d m) H) .fail
    | .fre d' l=>lX d' d (fun d=>List (T d)) l fun l=>.ite (ae (l.length+m.length) by_&& !m.isEmpty) (k (.own H.length) (H++[.own d (l++m) e])) .fail
    | _=>.fail) else .fail
   | none=>.fail)
  | none=>.fail)
 | none=>.fail
theorem aec {e:TypeId}{x:V}{d:Td}{m:List (T d)}(h:nt P e x=some ⟨d,m⟩)(Hh:List Ent):srcA Hh (wd d) (eu x)=some (flat d m):=by
 unfold nt at h
 split at h
 ·simp only [Db.injEq,Sigma.mk.injEq] at h
  obtain ⟨rfl,h⟩:=h
  have h:=eq_of_heq h
  subst h
  simp [eu,ex,ex0,unf,srcA]
 ·simp only [Db.injEq,Sigma.mk.injEq] at h
  obtain ⟨rfl,h⟩:=h
  have h:=eq_of_heq h
  subst h
  simp [eu,ex,ex0,unf,srcA]
 ·split at h
  ·split at h
   ·simp only [Db.injEq,Sigma.mk.injEq] at h
    obtain ⟨rfl,h⟩:=h
    have h:=eq_of_heq h
    subst h
    rfl
   ·cases h
  ·cases h
 ·split at h
  ·split at h
   ·simp only [Db.injEq,Sigma.mk.injEq] at h
    obtain ⟨rfl,h⟩:=h
    have h:=eq_of_heq h
    subst h
    rfl
   ·cases h
  ·cases h
 ·cases h
theorem sz {e:TypeId}{x:V}{d:Td}{m:List (T d)}(h:acN P e x=some ⟨d,m⟩)(Hh:List Ent):srcA Hh (wd d) (eu x)=some (flat d m):=by
 unfold acN at h
 split at h
 ·split at h
  ·simp only [Db.injEq,Sigma.mk.injEq] at h
   obtain ⟨rfl,h⟩:=h
   have h:=eq_of_heq h
   subst h
   simp [eu,ex,ex0,unf,srcA,flat]
  ·cases h
 ·exact aec h Hh
theorem ye {t:TypeId}{s x:Operand}{k:V→List E2→Tree R}{res:R}(hp:cn ρ o)(ho:o.op= .call ⟨.builtin .append, #[s,x], #[t,t]⟩)(h:(pU P H t (ρ s) (ρ x) k).run=some res):∃ r H',(k r H').run=some res∧lZ P H ρ o r H':=by
 unfold pU at h
 split at h
 ·rename_i e het
  split at h
  ·rename_i kw by_ hrow
   obtain ⟨ti,z,q1,q2,q3,q4,q5,q6⟩:=jR hrow
   split at h
   ·rename_i d m hv
    split at h
    ·rename_i hwd
     have hsrc:∀ (Hh:List Ent),srcA Hh kw (eu (ρ x))=some (flat d m):=fun Hh=>by rw [←hwd];exact sz hv Hh
     have hdiv:∀ (l:List (T d)),(flat d l).length / kw=l.length:=fun l=>by rw [aF,hwd];exact Dx _ (by omega)
     have hrm:∀ {n:Nat},ae n by_=true→n≤maxLen∧n*by_≤140737488355328:=fun h=>of_decide_eq_true h
     have hdiv2:∀ (l:List (T d)),((flat d l).length+(flat d m).length) / kw=l.length+m.length:=fun l=>by rw [←Dq,←cz,hdiv,Dq]
     split at h
     ·rename_i hs
      rcases C6 h with ⟨hb,h⟩ | ⟨_,h⟩
      ·obtain ⟨r1,r2⟩:=hrm hb
       refine ⟨_,_,h,fun n0 Bx w B η ρv inv he=> ?_⟩
       have hse:eu (ρ s)= .c (.slice none 0 0):=by rw [hs];rfl
       have:=B8 (ρA:=fun y=>eu (ρ y)) inv (eM hp he) ho (aX het) q1 q2 q3 q4 q5 q6 (cells:=[]) (by simp only [hse];rfl) (hsrc _) (lg d m) (by simpa [hdiv] using r1) (by simpa [hdiv] using r2)
       simp only [hse,eI,Dc,DC] at this
       exact this.to (r:=.own H.length) rfl (by simp) (gK (by simp) (lQ H) (by rw [←hwd];exact .refl _))
      ·cases h
     ·rename_i id hs
      split at h
      ·rename_i d' l E hH
       split at h
       ·rename_i hE
        subst hE
        obtain ⟨e1,h1⟩:=bW h
        clear h
        subst e1
        simp only at h1
        rcases C6 h1 with ⟨hb,h⟩ | ⟨_,h⟩
        ·obtain ⟨r1,r2⟩:=hrm hb
         refine ⟨_,_,h,fun n0 Bx w B η ρv inv he=> ?_⟩
         have hse:eu (ρ s)= .own id:=by rw [hs];rfl
         have:=B8 (ρA:=fun y=>eu (ρ y)) inv (eM hp he) ho (aX het) q1 q2 q3 q4 q5 q6 (cells:=flat _ l) (by simp only [hse,dstA,exH hH,exE,hwd,and_self,if_true]) (hsrc _) (lg _ m) (by rw [hdiv2];exact r1) (by rw [hdiv2];exact r2)
         simp only [hse,eI,Dc,←cz] at this
         exact this.to (r:=.own H.length) rfl (by simp) (gK (by simp) (qG (e:=.dead) (e1:=.dead) (.refl _)) (by rw [←hwd];exact .refl _))
        ·cases h
       ·cases h
      ·cases h
     ·rename_i hs
      rcases C6 h with ⟨hb,h⟩ | ⟨_,h⟩
      ·obtain ⟨r1,r2⟩:=hrm hb
       refine ⟨_,_,h,Does.s fun n0 Bx w B η ρv inv he=>.of rfl (fun _ _ h=>by simp [ex,ex0] at h) ?_⟩
       have hse:eu (ρ s)= .emp:=by rw [hs];rfl
       have:=adO (ρA:=fun y=>eu (ρ y)) inv (eM hp he) ho (aX het) q1 q2 q3 q4 q5 q6 hse (hsrc _) (lg d m) (fC d m) (by rw [hdiv];exact r1) (by rw [hdiv];exact r2)
       rw [←hwd] at this
       exact this
      ·cases h
     ·rename_i d' l hs
      obtain ⟨e1,h1⟩:=bW h
      clear h
      subst e1
      simp only at h1
      rcases C6 h1 with ⟨hb,h⟩ | ⟨_,h⟩
      ·simp only [C8,Bool.not_eq_true'] at hb
       obtain ⟨r1,r2⟩:=hrm hb.1
       refine ⟨_,_,h,fun n0 Bx w B η ρv inv he=> ?_⟩
       have hse:=congrArg ex hs
       simp only [ex,ex0] at hse
       have:=adN (ρA:=fun y=>eu (ρ y)) (ρR:=fun y=>ex (ρ y)) inv (eM hp he) (fun y hy=>⟨bV hp he y hy,(he y hy).2⟩) ho (aX het) q1 q2 q3 q4 q5 q6 (by rw [←hwd];simp only [ex];exact hse) (hsrc _) (afw (by omega) hb.2) (lg _ m) (by rw [hdiv2];exact r1) (by rw [hdiv2];exact r2)
       simp only [Dc,←cz] at this
       exact this.to (r:=.own H.length) rfl (by simp) (gK (by simp) (lQ H) (by rw [←hwd];exact .refl _))
      ·cases h
     ·cases h
    ·cases h
   ·cases h
  ·cases h
 ·cases h
def Ab (P:Program)(H:List E2)(t tn:TypeId)(s x:V)(k:V→List E2→Tree R):Tree R:=
 match jz P t,aaf P tn,sliT P t with
 | some e,some _,some (E,w,z)=>(match rowI P e,tdOf P 12 e with
  | some (kw,by_),some d=>if (E=e∧w=kw∧wd d=kw)∧z.all Value.oneCell'=true then (match x with
   | .c (.int _ n)=>.ite (decide (0≤n)) (decK d (z.map fg) fun zd r=>if wL r=0 then (match s with
    | .c (.slice none 0 0)=>.ite (ae n.toNat by_) (k (.own H.length) (H++[.own d (DK n.toNat zd) e])) .fail
    | .own id=>(match H[id]? with
     | some (.own d' l E')=>if E'=e then lX d' d (fun d=>List (T d)) l fun l=>.ite (ae (l.length+n.toNat) by_) (k (.own H.length) (H.set id .dead++[.own d (l++DK n.toNat zd) e])) .fail else .fail
     | _=>.fail)
    | _=>.fail) else .fail) .fail
   | _=>.fail) else .fail
  | _,_=>.fail)
 | _,_,_=>.fail
def Ac (P:Program)(H:List E2)(t:TypeId)(s:V)(bs:List UInt8)(k:V→List E2→Tree R):Tree R:=
 match jz P t with
 | some e=>(match rowI P e with
  | some (kw,by_)=>if kw=1 then (match s with
   | .c (.slice none 0 0)=>.ite (ae bs.length by_) (k (.own H.length) (H++[.own (.int .u8) (ofB bs) e])) .fail
   | .own id=>(match H[id]? with
    | some (.own d' l E')=>if E'=e then lX d' (.int .u8) (fun d=>List (T d)) l fun l=>.ite (ae (l.length+bs.length) by_) (k (.own H.length) (H.set id .dead++[.own (.int .u8) (l++ofB bs) e])) .fail else .fail
    | _=>.fail)
   | _=>.fail) else .fail
  | none=>.fail)
 | none=>.fail
theorem aaG {t tn:TypeId}{s x:Operand}{bs:List UInt8}{k:V→List E2→Tree R}{res:R}(hp:cn ρ o)(ho:o.op= .call ⟨.builtin .append, #[s,x], #[t,tn]⟩)(htn:P.underlying tn=some .string)(hx:ρ x= .str bs)(h:(Ac P H t (ρ s) bs k).run=some res):∃ r H',(k r H').run=some res∧lZ P H ρ o r H':=by
 unfold Ac at h
 have hsz:(Dm bs.toArray).size=bs.length:=by show bs.toArray.size=_;simp
 split at h
 ·rename_i e het
  split at h
  ·rename_i kw by_ hrow
   obtain ⟨ti,z,q1,q2,q3,q4,q5,q6⟩:=jR hrow
   split at h
   ·rename_i hkw
    subst hkw
    have hrm:∀ {n:Nat},ae n by_=true→n≤maxLen∧n*by_≤140737488355328:=fun h=>of_decide_eq_true h
    split at h
    ·rename_i hs
     rcases C6 h with ⟨hb,h⟩ | ⟨_,h⟩
     ·obtain ⟨r1,r2⟩:=hrm hb
      refine ⟨_,_,h,fun n0 Bx w B η ρv inv he=> ?_⟩
      have hse:eu (ρ s)= .c (.slice none 0 0):=by rw [hs];rfl
      have hxe:eu (ρ x)= .c (.string ⟨bs.toArray⟩):=by rw [hx];rfl
      have:=yd (ρA:=fun y=>eu (ρ y)) inv (eM hp he) ho (aX het) q1 q2 q3 q4 q5 htn (cells:=[]) (by simp only [hse];rfl) hxe (by simpa [hsz] using r1) (by simpa [hsz] using r2)
      simp only [hse,eI,Dc,DC,←vp] at this
      exact this.to (r:=.own H.length) rfl (by simp) (gK (by simp) (lQ H) (.refl _))
     ·cases h
    ·rename_i id hs
     split at h
     ·rename_i d' l E hH
      split at h
      ·rename_i hE
       subst hE
       obtain ⟨e1,h1⟩:=bW h
       clear h
       subst e1
       simp only at h1
       rcases C6 h1 with ⟨hb,h⟩ | ⟨_,h⟩
       ·obtain ⟨r1,r2⟩:=hrm hb
        refine ⟨_,_,h,fun n0 Bx w B η ρv inv he=> ?_⟩
        have hse:eu (ρ s)= .own id:=by rw [hs];rfl
        have hxe:eu (ρ x)= .c (.string ⟨bs.toArray⟩):=by rw [hx];rfl
        have hfl:(flat (.int .u8) l).length=l.length:=by rw [aF];exact Nat.mul_one _
        have:=yd (ρA:=fun y=>eu (ρ y)) inv (eM hp he) ho (aX het) q1 q2 q3 q4 q5 htn (cells:=flat (.int .u8) l) (by simp only [hse,dstA,exH hH,exE];rfl) hxe (by rw [hfl,hsz];exact r1) (by rw [hfl,hsz];exact r2)
        simp only [hse,eI,Dc,←vp,←cz] at this
        exact this.to (r:=.own H.length) rfl (by simp) (gK (by simp) (qG (e:=.dead) (e1:=.dead) (.refl _)) (.refl _))
       ·cases h
      ·cases h
     ·cases h
    ·cases h
   ·cases h
  ·cases h
 ·cases h
theorem aaF {t tn:TypeId}{s x:Operand}{k:V→List E2→Tree R}{res:R}(hp:cn ρ o)(ho:o.op= .call ⟨.builtin .append, #[s,x], #[t,tn]⟩)(h:(Ab P H t tn (ρ s) (ρ x) k).run=some res):∃ r H',(k r H').run=some res∧lZ P H ρ o r H':=by
 unfold Ab at h
 split at h
 ·rename_i e kn E w z het hkn hsl
  split at h
  ·rename_i kw by_ d hrow htd
   obtain ⟨ti,zv0,q1,q2,q3,q4,q5,q6⟩:=jR hrow
   split at h
   ·rename_i hc
    obtain ⟨⟨rfl,rfl,hwd⟩,hone⟩:=hc
    obtain ⟨i',zv,hu,hi',hz,hsz,hzc,hzl,hk⟩:=mc hsl
    rw [q1] at hi'
    injection hi' with hi'
    subst hi'
    rw [q2] at hz
    injection hz with hz
    subst hz
    split at h
    ·rename_i kx n hx
     rcases C6 h with ⟨hn,h⟩ | ⟨_,h⟩
     ·have hn:=of_decide_eq_true hn
      obtain ⟨m,rfl⟩:∃ m:Nat,n=(m:Int):=⟨n.toNat,by omega⟩
      simp only [Int.toNat_natCast] at h
      obtain ⟨zd,rest,h1,h2⟩:=eJ d _ _ _ h
      split at h1
      ·rename_i hrest
       have hr0:aD rest=[]:=C5 (by rw [oM];exact hrest)
       rw [hr0,Dy,cK] at h2
       have hze:(Builtin.zeroCells zv0.cells m).toList=repL m z:=by rw [←hzc];exact wq _ _ (by omega)
       have h1c:∀ u∈repL m z,u.oneCell'=true:=fun u hu=>by
        unfold repL at hu
        obtain ⟨l,hl,hul⟩:=List.mem_flatten.1 hu
        rw [(List.mem_replicate.1 hl).2] at hul
        exact Dh.1 hone u hul
       have hxe:eu (ρ x)= .c (.int kx (m:Int)):=by rw [hx];rfl
       have hrm:∀ {n:Nat},ae n by_=true→n≤maxLen∧n*by_≤140737488355328:=fun h=>of_decide_eq_true h
       have hdiv:∀ (l:List (T d)),(flat d l).length / w=l.length:=fun l=>by rw [aF,hwd];exact Dx _ (by omega)
       split at h1
       ·rename_i hs
        rcases C6 h1 with ⟨hb,h⟩ | ⟨_,h⟩
        ·obtain ⟨r1,r2⟩:=hrm hb
         refine ⟨_,_,h,fun n0 Bx w0 B η ρv inv he=> ?_⟩
         have hse:eu (ρ s)= .c (.slice none 0 0):=by rw [hs];rfl
         have:=yc (ρA:=fun y=>eu (ρ y)) inv (eM hp he) ho (aX het) q1 q2 q3 q4 q5 q6 (ql hkn) (cells:=[]) (by simp only [hse];rfl) hxe hze h1c (by simpa using r1) (by simpa using r2)
         simp only [hse,eI,Dc,DC] at this
         exact this.to (r:=.own H.length) rfl (by simp) (gK (by simp) (lQ H) (.inr (.inr (.inr ⟨_,_,E,w,rfl,by simp [exE,hwd],Ag h2 _⟩))))
        ·cases h
       ·rename_i id hs
        split at h1
        ·rename_i d' l E' hH
         split at h1
         ·rename_i hE
          subst hE
          obtain ⟨e1,h3⟩:=bW h1
          clear h1
          subst e1
          simp only at h3
          rcases C6 h3 with ⟨hb,h⟩ | ⟨_,h⟩
          ·obtain ⟨r1,r2⟩:=hrm hb
           refine ⟨_,_,h,fun n0 Bx w0 B η ρv inv he=> ?_⟩
           have hse:eu (ρ s)= .own id:=by rw [hs];rfl
           have:=yc (ρA:=fun y=>eu (ρ y)) inv (eM hp he) ho (aX het) q1 q2 q3 q4 q5 q6 (ql hkn) (cells:=flat _ l) (by simp only [hse,dstA,exH hH,exE,hwd,and_self,if_true]) hxe hze h1c (by rw [hdiv];exact r1) (by rw [hdiv];exact r2)
           simp only [hse,eI,Dc] at this
           exact this.to (r:=.own H.length) rfl (by simp) (gK (by simp) (qG (e:=.dead) (e1:=.dead) (.refl _)) (.inr (.inr (.inr ⟨_,flat _ l++flat _ (DK m zd),E',w,rfl,by simp [exE,hwd,cz],(Wk.refl _).app (Ag h2 _)⟩))))
          ·cases h
         ·cases h1
        ·cases h1
       ·cases h1
      ·cases h1
     ·cases h
    ·cases h
   ·cases h
  ·cases h
 ·cases h
def wh (P:Program)(H:List E2)(ρ:Operand→V)(t:TypeId)(len:Nat)(parts:Array (Nat×Operand))(k:V→List E2→Tree R):Tree R:=
 match sliT P t with
 | some (e,w,z)=>if len*w≤16777216∧len≤maxLen then (match zy (fun i=>some (i*w,w)) ((repL len z).map fg) (mN ρ parts) with
  | some l=>match tdOf P 12 e with
   | some d=>if wd d=w then decN (decK d) len l fun a r=>if wL r=0 then k (.own H.length) (H++[.own d a.l e]) else .fail else .fail
   | none=>.fail
  | none=>.fail) else .fail
 | none=>.fail
theorem B4 {t:TypeId}{len:Nat}{parts:Array (Nat×Operand)}{k:V→List E2→Tree R}{res:R}(hp:cn ρ o)(ho:o.op= .buildSlice t len parts)(h:(wh P H ρ t len parts k).run=some res):∃ r H',(k r H').run=some res∧lZ P H ρ o r H':=by
 have hpm:(mN ρ parts).map (fun p=>(p.1,eu p.2))=gj (fun y=>eu (ρ y)) parts:=by simp [mN,gj,DD,DH]
 unfold wh at h
 split at h
 ·rename_i e kw z hsl
  split at h
  ·rename_i hlen
   split at h
   ·rename_i l hl
    split at h
    ·rename_i d htd
     split at h
     ·rename_i hwd
      obtain ⟨a,rest,h1,h2⟩:=tb (eJ d) len l _ _ h
      split at h1
      ·rename_i hrest
       have hr0:aD rest=[]:=C5 (by rw [oM];exact hrest)
       rw [hr0,Dy] at h2
       have hfill:=qn _ _ _ hl
       rw [hpm,cK] at hfill
       refine ⟨_,_,h1,fun n0 Bx w B η ρv inv he=> ?_⟩
       have:=aaA (ρA:=fun y=>eu (ρ y)) inv (eM hp he) ho hlen.2 hsl hlen.1 hfill
       simp only [Dc] at this
       exact this.to (r:=.own H.length) rfl (by simp) (gK (by simp) (lQ H) (.inr (.inr (.inr ⟨_,_,e,kw,rfl,by simp [exE,hwd],h2⟩))))
      ·cases h1
     ·cases h
    ·cases h
   ·cases h
  ·cases h
 ·cases h
def ams (P:Program)(H:List E2)(t:TypeId)(a b:V)(k:V→List E2→Tree R):Tree R:=
 match sliT P t with
 | some (e,w,z)=>(match rowI P e,tdOf P 12 e with
  | some (_,by_),some d=>if wd d=w then intK a fun l=>intK b fun c=>.ite (decide (0≤l∧l≤c)&&ae c.toNat by_)
    (decK d (z.map fg) fun zd r=>if wL r=0 then k (.own H.length) (H++[.own d (DK l.toNat zd) e]) else .fail) .fail else .fail
  | _,_=>.fail)
 | none=>.fail
theorem ahC {t:TypeId}{a b:Operand}{k:V→List E2→Tree R}{res:R}(hp:cn ρ o)(ho:o.op= .makeSlice t a b)(h:(ams P H t (ρ a) (ρ b) k).run=some res):∃ r H',(k r H').run=some res∧lZ P H ρ o r H':=by
 unfold ams at h
 split at h
 ·rename_i e kw z hsl
  split at h
  ·rename_i kw2 by_ d hrow htd
   obtain ⟨ti,zz,q1,q2,q3,q4,q5,q6⟩:=jR hrow
   split at h
   ·rename_i hwd
    obtain ⟨kl,l,ha,h⟩:=cm h
    obtain ⟨kc,c,hb,h⟩:=cm h
    rcases C6 h with ⟨hc,h⟩ | ⟨_,h⟩
    ·simp only [C8,decide_eq_true_eq] at hc
     obtain ⟨⟨c1,c2⟩,c3⟩:=hc
     obtain ⟨c3,c4⟩:c.toNat≤maxLen∧c.toNat*by_≤140737488355328:=of_decide_eq_true c3
     obtain ⟨zd,rest,h1,h2⟩:=eJ d _ _ _ h
     split at h1
     ·rename_i hrest
      have hr0:aD rest=[]:=C5 (by rw [oM];exact hrest)
      rw [hr0,Dy,cK] at h2
      refine ⟨_,_,h1,fun n0 Bx w B η ρv inv he=> ?_⟩
      have:=adl (ρA:=fun y=>ex (ρ y)) inv (bV hp he) ho hsl q1 q4 (by simp only [ha];rfl) (by simp only [hb];rfl) c1 c2 c3 c4
      simp only [Dc] at this
      exact this.to (r:=.own H.length) rfl (by simp) (gK (by simp) (lQ H) (.inr (.inr (.inr ⟨_,_,e,kw,rfl,by simp [exE,hwd],Ag h2 _⟩))))
     ·cases h1
    ·cases h
   ·cases h
  ·cases h
 ·cases h
def wk (P:Program)(H:List E2)(ρ:Operand→V)(t:TypeId)(len:Nat)(parts:Array (Nat×Operand))(k:V→List E2→Tree R):Tree R:=
 match sliT P t with
 | some (e,w,z)=>if len*w≤16777216∧len≤maxLen then (match zy (fun i=>some (i*w,w)) ((repL len z).map fg) (mN ρ parts) with
  | some l=>k (.bsl H.length len) (H++[.box l e])
  | none=>.fail) else .fail
 | none=>.fail
theorem B5 {t:TypeId}{len:Nat}{parts:Array (Nat×Operand)}{k:V→List E2→Tree R}{res:R}(hp:cn ρ o)(ho:o.op= .buildSlice t len parts)(h:(wk P H ρ t len parts k).run=some res):∃ r H',(k r H').run=some res∧lZ P H ρ o r H':=by
 have hpm:(mN ρ parts).map (fun p=>(p.1,eu p.2))=gj (fun y=>eu (ρ y)) parts:=by simp [mN,gj,DD,DH]
 unfold wk at h
 split at h
 ·rename_i e kw z hsl
  split at h
  ·rename_i hlen
   split at h
   ·rename_i l hl
    have hfill:=qn _ _ _ hl
    rw [hpm,cK] at hfill
    refine ⟨_,_,h,fun n0 Bx w B η ρv inv he N hN=> ?_⟩
    refine wg (ρA:=fun y=>eu (ρ y)) (eM hp he) ho hsl hlen.1 hfill N fun cs g hcs hrel=> ?_
    have hB:∀ b∈w.heap.size::B,b∈B∨w.heap.size≤b:=fun b hb=>by rcases List.mem_cons.1 hb with rfl | h;exact .inr (Dg _);exact .inl h
    have hinv:=zZ inv hrel e
    have e1:cs.toList.toArray=cs:=by simp
    rw [e1] at hinv
    have hlen':η.length=H.length:=by have:=inv.len;simpa using this
    refine hN _ _ (w.heap.size::B) (η++[.pointer (some ⟨w.heap.size,0,none⟩)]) (.gr g) hB (aJ η _) (Gr.bel g inv.base.1) (by simpa [exE] using hinv) ⟨w.heap.size, ?_,rfl⟩ (fun h=>by cases h)
    rw [List.getElem?_append_right (by omega),hlen']
    simp
   ·cases h
  ·cases h
 ·cases h
def bslK (P:Program)(H:List E2)(ρ:Operand→V)(o:Op)(k:V→List E2→Tree R):Option (Tree R):=
 match o with
 | .call ⟨.builtin .len,⟨[x]⟩,ts⟩=>(match ρ x,ts[0]? with
  | .bsl id n,some t=>(match jz P t with | some _=>some (k (.c (.int .i64 ((n:Nat):Int))) H) | none=>none)
  | _,_=>none)
 | .indexAddr t x i=>(match ρ x,ρ i,jz P t with
  | .bsl id n,.c (.int _ z),some e=>if P.cellsOf e=0 then none else if n≤4 then some (aaw z (fun j=>k (.box id (j*P.cellsOf e)) H) n 0) else some (.ite (decide (0≤z∧z<(n:Int))) (k (.box id (z.toNat*P.cellsOf e)) H) .fail)
  | _,_,_=>none)
 | _=>none
theorem am6 {k:V→List E2→Tree R}{res:R}{t:Tree R}(hb:bslK P H ρ o.op k=some t)(h:t.run=some res):∃ r H',(k r H').run=some res∧lZ P H ρ o r H':=by
 obtain ⟨op,ho⟩:∃ op,o.op=op:=⟨_,rfl⟩
 rw [ho] at hb
 unfold bslK at hb
 split at hb
 ·rename_i x ts
  split at hb
  ·rename_i id n tt hx hts
   split at hb
   ·rename_i e het
    injection hb with hb;subst hb
    refine ⟨_,_,h,fun n0 Bx w B η ρv inv he N hN=> ?_⟩
    have h1:=(he x (by simp [ho,gt,Dj])).1
    rw [hx] at h1
    obtain ⟨b,hid,hv⟩:=h1
    have hu:=aX het
    unfold DA
    have hrun:(execOp ρv o).run P w= .ok (.value (.int .i64 n)) w:=by
     simp [execOp,ho,resolve,invoke,builtin,Builtin.len_,ne,hv,hts,run_underlying hu,goInt]
    rw [hrun]
    exact hN _ _ B η (On.refl _ _) (fun _ h=>.inl h) (fun _ _ h=>h) (Bel.refl _ _ _) inv (.c _ _) (fun h=>by cases h)
   ·cases hb
  ·cases hb
 ·rename_i tt x i
  split at hb
  ·rename_i id n kk z e hx hi het
   split at hb
   ·cases hb
   ·rename_i hc
    have key:∀ (j:Nat),z=(j:Int)→j<n→lZ P H ρ o (.box id (j*P.cellsOf e)) H:=fun j hj hjn=>by
     subst hj
     intro n0 Bx w B η ρv inv he N hN
     have z0:(0:Int)≤(j:Int):=by omega
     have z1:(j:Int)<(n:Int):=by omega
     have h1:=(he x (by simp [ho,gt])).1
     rw [hx] at h1
     obtain ⟨b,hid,hv⟩:=h1
     have h2:=(he i (by simp [ho,gt])).1
     rw [hi] at h2
     have h2:Rel w B η (.c (.int kk (j:Int))) (ρv i):=h2
     have h2:=h2.ofC
     have hu:=aX het
     obtain ⟨ii,hii,hs⟩:=bN (t:=e) (P:=P) (by omega)
     unfold DA
     have hrun:(execOp ρv o).run P w= .ok (.value (.pointer (some ⟨b,j*P.cellsOf e,none⟩))) w:=by
      simp [execOp,ho,Instr.indexAt,ne,run_underlying hu,hv,h2,asIntOf,z0,z1,hjn,Nat.not_le.mpr hjn,bG hii,hs,DE]
     rw [hrun]
     exact hN _ _ B η (On.refl _ _) (fun _ h=>.inl h) (fun _ _ h=>h) (Bel.refl _ _ _) inv (.box _ _ _ _ hid) (fun h=>by cases h)
    split at hb
    ·injection hb with hb;subst hb
     obtain ⟨j,hj,hz,h⟩:=qp h
     exact ⟨_,_,h,key j hz (by omega)⟩
    injection hb with hb;subst hb
    rcases C6 h with ⟨hz,h⟩ | ⟨_,h⟩
    ·obtain ⟨z0,z1⟩:=of_decide_eq_true hz
     exact ⟨_,_,h,key z.toNat (by omega) (by omega)⟩
    ·cases h
  ·cases hb
 ·cases hb
def ptrS (P:Program)(t:TypeId):Bool:=match jz P t with
 | some e=>(tdOf P 12 e).isNone
 | none=>false
def amn (P:Program)(H:List E2)(ρ:Operand→V)(t:TypeId)(x:V)(lo hi:Option Operand)(k:V→List E2→Tree R):Tree R:=
 match jz P t,x with
 | some e,.own id=>(match H[id]? with
  | some (.own d l E)=>if wd d=P.cellsOf e∧1≤wd d then (match lo,hi with
   | some lo,none=>intK (ρ lo) fun a=>.bind (b9 l a) fun m=>k (.own H.length) (H.set id .dead++[.own d m E])
   | none,some hi=>intK (ρ hi) fun b=>.bind (cR l b) fun m=>k (.own H.length) (H.set id .dead++[.own d m E])
   | some lo,some hi=>intK (ρ lo) fun a=>intK (ρ hi) fun b=>.bind (subI l a b) fun m=>k (.own H.length) (H.set id .dead++[.own d m E])
   | none,none=>.fail) else .fail
  | _=>.fail)
 | _,_=>.fail
theorem ahz {t:TypeId}{x:Operand}{lo hi:Option Operand}{k:V→List E2→Tree R}{res:R}(hp:cn ρ o)(ho:o.op= .slice t x lo hi none)(h:(amn P H ρ t (ρ x) lo hi k).run=some res):∃ r H',(k r H').run=some res∧lZ P H ρ o r H':=by
 unfold amn at h
 split at h
 ·rename_i e id het hx
  split at h
  ·rename_i d l E hH
   split at h
   ·rename_i hwd
    have hdiv:(flat d l).length / wd d=l.length:=by rw [aF];exact Dx _ (by omega)
    have exi:∀ (y:Operand) kk z,ρ y= .c (.int kk z)→ex (ρ y)= .c (.int kk z):=fun y kk z h=>by rw [h];rfl
    have key:∀ (a b:Nat),ca (fun y=>ex (ρ y)) 0 lo=some a→ca (fun y=>ex (ρ y)) l.length hi=some b→a≤b→b≤l.length→lZ P H ρ o (.own H.length) (H.set id .dead++[.own d ((l.drop a).take (b-a)) E]):=fun a b ha hb hab hbl n0 Bx w B η ρv inv he=>by
     have:=Cm (P:=P) (ρA:=fun y=>ex (ρ y)) inv (bV hp he) ho (aX het) (by simp only [hx];rfl) (exH hH) hwd.1 hwd.2 ha (by rw [hdiv];exact hb) hab (by rw [aF];exact Df _ hbl)
     simp only [Dc] at this
     rw [←kF,←iS] at this
     exact this.to (r:=.own H.length) rfl (by simp) (gK (by simp) (qG (e:=.dead) (e1:=.dead) (.refl _)) (.refl _))
    split at h
    ·obtain ⟨kk,z,hz,h⟩:=cm h
     obtain ⟨m,hm,h⟩:=Dd h
     unfold b9 at hm
     split at hm
     ·rename_i hc
      injection hm with hm;subst hm
      have:=key z.toNat l.length (by simp [ca,exi _ _ _ hz,hc.1]) rfl (by omega) (Dg _)
      rw [Dk (by rw [Dt];exact Dg _)] at this
      exact ⟨_,_,h,this⟩
     ·cases hm
    ·obtain ⟨kk,z,hz,h⟩:=cm h
     obtain ⟨m,hm,h⟩:=Dd h
     unfold cR at hm
     split at hm
     ·rename_i hc
      injection hm with hm;subst hm
      have:=key 0 z.toNat rfl (by simp [ca,exi _ _ _ hz,hc.1]) (DI _) (by omega)
      rw [Dz,DL] at this
      exact ⟨_,_,h,this⟩
     ·cases hm
    ·obtain ⟨kk,z,hz,h⟩:=cm h
     obtain ⟨kk2,z2,hz2,h⟩:=cm h
     obtain ⟨m,hm,h⟩:=Dd h
     unfold subI at hm
     split at hm
     ·rename_i hc
      injection hm with hm;subst hm
      exact ⟨_,_,h,key z.toNat z2.toNat (by simp [ca,exi _ _ _ hz,hc.1]) (by simp [ca,exi _ _ _ hz2];omega) (by omega) (by omega)⟩
     ·cases hm
    ·cases h
   ·cases h
  ·cases h
 ·cases h
def Arr.over {α:Type}{n:Nat}(a:Arr α n)(l:List α):Arr α n:=⟨l.take n++a.l.drop l.length,by rw [Dq,Dv,Dt,a.h];omega⟩
theorem aeR {d:Td}{n:Nat}(a:Arr (T d) n)(l:List (T d)):flat d (a.over l).l=putL (flat d a.l) 0 ((flat d l).take (min l.length n*wd d)):=by
 have e1:(flat d l).take (min l.length n*wd d)=flat d (l.take (min l.length n)):=(iS d l _).symm
 have e2:l.take (min l.length n)=l.take n:=by
  rcases Nat.le_total l.length n with h | h
  ·rw [DP h,Dk (Dg _),Dk h]
  ·rw [Nat.min_eq_right h]
 have e3:a.l.drop (l.take n).length=a.l.drop l.length:=by
  rcases Nat.le_total l.length n with h | h
  ·rw [Dv,Nat.min_eq_right h]
  ·rw [Dv,DP h,List.drop_eq_nil_of_le (by rw [a.h];exact Dg _),List.drop_eq_nil_of_le (by rw [a.h];exact h)]
 unfold putL Arr.over
 rw [e1,e2,cz,List.take_zero,DC,Nat.zero_add,aF,←kF,e3]
theorem adC {n0:Nat}{Bx:List Nat}{w:World}{B:List Nat}{η:List Value}{Hh:List Ent}{ρv:Operand→Value}(inv:Inv n0 Bx w B η Hh){x s:Operand}{t t2 E k:Nat}{i:TypeInfo}{id b n:Nat}{T':TypeId}{cells l:List AV}(ho:o.op= .call ⟨.builtin .copy, #[x,s], #[t,t2]⟩)
  (ht:P.underlying t=some (.slice E)) (hi:P.info? E=some i) (hsz:i.size=k) (hx:ρv x= .slice (some ⟨b,0,none⟩) n n) (hid:η[id]? =some (.pointer (some ⟨b,0,none⟩))) (hH:Hh[id]? =some (.box cells T')) (hl:cells.length=n*k)
  (hs:Rel w B η (.sl l k) (ρv s)) (h1:l.all AV.one=true):OpS P n0 Bx w ρv o B η (.c (.int .i64 ((min (l.length / k) n:Nat):Int))) (Hh.set id (.box (putL cells 0 (l.take (min (l.length / k) n*k))) T')):=by
 intro N hN
 obtain ⟨A,m,c,us,hv,hk,hn,hc,hm,hA,hr⟩:=Rel.slL hs
 have hdiv:l.length / k=m:=by rw [←hn];exact Dx _ hk
 rw [hdiv] at hN
 have hent:=inv.ent id _ hH
 rw [List.getD_eq_getElem?_getD,hid,C9] at hent
 obtain ⟨b',us',e1,e2,e3,e4,e5,e6⟩:=hent
 obtain rfl:b=b':=by simpa using e1
 obtain ⟨q,hq⟩:∃ q,q=min m n:=⟨_,rfl⟩
 rw [←hq] at hN
 have hqm:q≤m:=by omega
 have hqn:q≤n:=by omega
 obtain ⟨news,hnews⟩:∃ news,news=(List.range (q*k)).map us:=⟨_,rfl⟩
 have hlen:news.length=q*k:=by simp [hnews]
 have hmul:q*k≤l.length:=by rw [←hn];exact Df k hqm
 have hmul2:q*k≤us'.length:=by rw [e6.1,hl];exact Df k hqn
 have hrel:RelL w B η (l.take (q*k)) news:=⟨by rw [hlen,Dv];omega,fun j y hy=>by
  rw [List.getElem?_take] at hy
  split at hy
  ·rename_i hj
   exact ⟨us j,by simp [hnews,hj],(hr j y hy).any⟩
  ·cases hy⟩
 have h1':(l.take (q*k)).all AV.one=true:=Dh.2 fun y hy=>Dh.1 h1 y (List.mem_of_mem_take hy)
 have hfc:(Builtin.firstCells i.size q (.slice A m c)).run P w= .ok news.toArray w:=by
  rw [hsz]
  cases A with
  | none=>
   have hm0:m=0:=by
    rcases Nat.eq_zero_or_pos m with h | h
    ·exact h
    ·obtain ⟨_,h,_⟩:=hA h;cases h
   have hq0:q=0:=by omega
   have:news=[]:=C5 (by rw [hlen,hq0];simp)
   rw [this,run_firstCells_none]
  | some ad=>
   refine run_firstCells_some (P:=P) w k q ad m c news hlen (fun j v hj=> ?_)
   have hjl:j<q*k:=by rw [←hlen];exact (List.getElem?_eq_some_iff.1 hj).1
   have hmp:0<m:=by
    rcases Nat.eq_zero_or_pos m with h | h
    ·have:q=0:=by omega
     subst this
     omega
    ·exact h
   obtain ⟨ad',h,hat⟩:=hA hmp
   injection h with h
   subst h
   rw [hat.cell j (by omega)]
   simp [hnews,hjl] at hj
   rw [hj]
 have hst:=run_storeCells_at (P:=P) b 0 T' news 0 us'.toArray w e5 (by simp;omega) (hrel.one h1')
 have hput:us'.toArray.toList.take (0+0)++news++us'.toArray.toList.drop (0+0+news.length)=putL us' 0 news:=rfl
 rw [hput] at hst
 have hon:On B w (w.setRow b (putL us' 0 news).toArray):=⟨rfl,rfl,rfl,by simp,fun kk _ hk=>.of (setRow_other w b kk _ (fun h=>hk (by rw [h];exact e3)))⟩
 obtain ⟨i1,i2,i3⟩:=inv.write (e':=.box (putL cells 0 (l.take (q*k))) T') (cs:=(putL us' 0 news).toArray) hH hid rfl rfl rfl
  ⟨b,_,rfl,e2,e3,e4,setRow_heap w b us'.toArray _ T' (0,0) e5,(e6.putL hrel 0).on hon (fun _ h=>.inl h) (fun _ _ h=>h)⟩
 have hqq:Nat.min m n=q:=hq.symm
 have hrun0:(Builtin.copy_ #[t,t2] o.type #[ρv x,ρv s]).run P w= .ok (.int .i64 (q:Int)) (w.setRow b (putL us' 0 news).toArray):=by
  rw [hx,hv]
  simp [Builtin.copy_,run_underlying ht,sizeOf,typeInfo,hi,Builtin.lenOf,hqq,hfc,hst,goInt]
 unfold DA
 have hrun':(execOp ρv o).run P w= .ok (.value (.int .i64 (q:Int))) (w.setRow b (putL us' 0 news).toArray):=by
  simp only [execOp,ho,resolve,invoke,builtin,ne,Sem.run_pure,Result.andThen_ok,List.map_toArray,List.map_cons,List.map_nil,hrun0]
 rw [hrun']
 exact hN _ _ B η i2 (fun _ h=>.inl h) (fun _ _ h=>h) i3 i1 (.c _ _) (fun h=>by cases h)
def amY (P:Program)(H:List E2)(t:TypeId)(x s:V)(k:V→List E2→Tree R):Tree R:=
 match x,jz P t with
 | .bsl id n,some e=>(match H[id]? with
  | some (.box [.arr d n' a] TT)=>if n'=n∧wd d=P.cellsOf e∧1≤wd d then (match nt P e s with
   | some ⟨d',l⟩=>lX d' d (fun d=>List (T d)) l fun l=>k (.c (.int .i64 ((min l.length n:Nat):Int))) (H.set id (.box [.arr d n' (a.over l)] TT))
   | none=>.fail) else .fail
  | _=>.fail)
 | _,_=>.fail
theorem ah1 {t t2:TypeId}{x s:Operand}{k:V→List E2→Tree R}{res:R}(ho:o.op= .call ⟨.builtin .copy, #[x,s], #[t,t2]⟩)(h:(amY P H t (ρ x) (ρ s) k).run=some res):∃ r H',(k r H').run=some res∧lZ P H ρ o r H':=by
 unfold amY at h
 split at h
 ·rename_i id n e hx het
  split at h
  ·rename_i d n' a TT hH
   split at h
   ·rename_i hc
    obtain ⟨rfl,hwd,hw1⟩:=hc
    split at h
    ·rename_i d' l hv
     obtain ⟨e1,h1⟩:=bW h
     clear h
     subst e1
     simp only at h1
     refine ⟨_,_,h1,fun n0 Bx w B η ρv inv he=> ?_⟩
     have hx0:=(he x (by simp [ho,gt,Dj])).1
     rw [hx] at hx0
     obtain ⟨b,hid,hvx⟩:=hx0
     obtain ⟨ii,hii,hs⟩:=bN (t:=e) (P:=P) (by omega)
     have hrs:=yh hv ((he s (by simp [ho,gt,Dj])).1.get (Cd hv))
     have:=adC (P:=P) (o:=o) (k:=wd d') inv ho (aX het) hii (hs.trans hwd.symm) hvx hid (exH hH) (by simp [exE,aA,eP,segA,aF,a.h]) hrs (lg _ l)
     have hw0:0<wd d':=hw1
     rw [aF,Dx _ hw0] at this
     have e2:putL (aD [V.arr d' n' a]) 0 ((flat d' l).take (min l.length n'*wd d'))=aD [V.arr d' n' (a.over l)]:=by
      simp only [aA,eP,segA,Dy]
      exact (aeR a l).symm
     rw [e2] at this
     exact this.to (r:=.c (.int .i64 ((min l.length n':Nat):Int))) rfl (by simp) (qG (e:=.dead) (.refl _))
    ·cases h
   ·cases h
  ·cases h
 ·cases h
def Cl (P:Program)(H:List E2)(ρ:Operand→V)(t:TypeId)(x:V)(lo hi:Option Operand)(k:V→List E2→Tree R):Tree R:=
 match arrT P t,x,lo,hi with
 | some (m,e),.box id 0,none,none=>if 1≤P.cellsOf e then k (.bsl id m) H else .fail
 | _,x,lo,hi=>amn P H ρ t x lo hi k
theorem acR {t:TypeId}{x:Operand}{lo hi:Option Operand}{k:V→List E2→Tree R}{res:R}(hp:cn ρ o)(ho:o.op= .slice t x lo hi none)(h:(Cl P H ρ t (ρ x) lo hi k).run=some res):∃ r H',(k r H').run=some res∧lZ P H ρ o r H':=by
 unfold Cl at h
 split at h
 ·rename_i m e id hat hx
  split at h
  ·rename_i hc
   refine ⟨_,_,h,fun n0 Bx w B η ρv inv he N hN=> ?_⟩
   have hx0:=bV hp he x (by simp [ho,gt])
   rw [hx] at hx0
   have hx0:Rel w B η (.box id 0) (ρv x):=hx0
   have hx1:∃ b,ρv x= .pointer (some ⟨b,0,none⟩)∧η[id]? =some (.pointer (some ⟨b,0,none⟩)):=by
    generalize ρv x=v at hx0
    cases hx0 with
    | box _ _ _ b hid=>exact ⟨b,rfl,hid⟩
   obtain ⟨b,hv,hid⟩:=hx1
   obtain ⟨ii,hii,hs⟩:=bN (t:=e) (P:=P) (by omega)
   have hu:=cN hat
   have hbounds:(Di false m m none none none).run P w= .ok (0,m,m) w:=by simp [Di,ne]
   have hadd:(⟨b,0,none⟩:Addr).add 0=⟨b,0,none⟩:=by rw [DE]
   unfold DA
   have hrun:(execOp ρv o).run P w= .ok (.value (.slice (some ⟨b,0,none⟩) m m)) w:=by
    simp [execOp,ho,Instr.sliceAt,Instr.sureAddr,ne,run_underlying hu,hv,hbounds,bG hii,hs,hadd]
   rw [hrun]
   exact hN _ _ B η (On.refl _ _) (fun _ h=>.inl h) (fun _ _ h=>h) (Bel.refl _ _ _) inv ⟨b,hid,rfl⟩ (fun h=>by cases h)
  ·cases h
 ·exact ahz hp ho h
def zr:V→Bool
 | .agg l=>l.all immV
 | .fre _ _=>true
 | x=>immV x
def argV:V→V
 | .fre d l=>.lst d l
 | x=>x
def kR (P:Program)(f:FuncId)(args:List V)(r:V):Prop:=
 ∀ (w:World) (B:List Nat) (cargs:List Value),(∀ b∈B,b<w.heap.size)→GlobOK w B→cargs.length=args.length→(∀ (i:Nat) x,args[i]? =some x→∃ v,cargs[i]? =some v∧Rel w B [] (ex x) v)→
  Calls P f cargs.toArray w fun e w'=>∃ v,e= .returned v∧Gr w w'∧Rel w' B [] (ex r) v
def Ad (P:Program)(f:FuncId)(cargs:Array Value)(w:World)(N:Value→World→Prop):Prop:=
 match (callFunc f cargs).run P w with
 | .ok (.value v) w'=>N v w'
 | .ok .skip w'=>N undef w'
 | .ok (.enter f args) w'=>Calls P f args w' fun e w''=>∃ v,e= .returned v∧N v w''
 | _=>False
def yg (P:Program)(f:FuncId)(args:List V)(r:V):Prop:=
 ∀ (w:World) (B:List Nat) (cargs:List Value),(∀ b∈B,b<w.heap.size)→GlobOK w B→cargs.length=args.length→(∀ (i:Nat) x,args[i]? =some x→∃ v,cargs[i]? =some v∧Rel w B [] (ex x) v)→
  ∀ N:Value→World→Prop,(∀ v w',Gr w w'→Rel w' B [] (ex r) v→N v w')→Ad P f cargs.toArray w N
theorem kR.toV {P:Program}{f:FuncId}{args:List V}{r:V}(h:kR P f args r)(hf:∃ fn,P.funcs[f]? =some fn∧fn.name≠ "runtime.NumGoroutine" ∧fn.body≠none):yg P f args r:=fun w B cargs h1 h2 h3 h4 N hN=>by
 obtain ⟨fn,h5,h6,h7⟩:=hf
 unfold Ad
 have hrun:(callFunc f cargs.toArray).run P w= .ok (.enter f cargs.toArray) w:=by
  simp [callFunc,ne,h5,h6,h7]
 rw [hrun]
 exact (h w B cargs h1 h2 h3 h4).mono fun e w' ⟨v,g1,g2,g3⟩=>⟨v,g1,hN v w' g2 g3⟩
theorem gx {P:Program}{f:FuncId}{x:Operand}{args:Array Operand}{ts:Array TypeId}{o:Oper}{ρv:Operand→Value}{w:World}{N:Value→World→Prop}(ho:o.op= .call ⟨.value x,args,ts⟩)(hx:ρv x= .func (.func f) #[] #[])(h:Ad P f (args.map ρv) w N):DA P ρv o w N:=by
 unfold DA
 have e:(execOp ρv o).run P w=(callFunc f (args.map ρv)).run P w:=by
  simp [execOp,ho,resolve,Deferred.ofValue,hx,invoke,ne]
 rw [e]
 exact h
abbrev Fns (R:Type):=FuncId→List V→(V→Tree R)→Tree R
structure FnsOK (P:Program) (F:Fns R):Prop where
 ok:∀ f args k res,(F f args k).run=some res→∃ r,(k r).run=some res∧r.plain=true∧(∀ l k,ex r≠.fresh l k)∧yg P f args r
def evNF (P:Program)(F:Fns R)(H:List E2)(ρ:Operand→V)(o:Op)(k:V→Tree R):Tree R:=
 match o with
 | .call ⟨.value (.func f),args,ts⟩=>if args.toList.all (fun x=>zr (ρ x))=true then F f (args.toList.map fun x=>argV (ρ x)) k else .fail
 | o=>evN P H ρ o k
theorem kD {x:V}(h:zr x=true):x.plain=true:=by cases x <;> first | rfl | cases h
theorem rN {x:V}(h:zr x=true){w:World}{B:List Nat}{η:List Value}{v:Value}(hr:Rel w B η (ex x) v):Rel w B [] (ex (argV x)) v:=by
 cases x with
 | agg l=>
  refine hr.bare ?_
  simp only [argV,ex,ex0,AV.imm]
  exact pC l h
 | fre d l=>exact hr.unf.bare rfl
 | arr d n a=>
  refine hr.bare ?_
  simp only [argV,ex,ex0,AV.imm]
  exact fC d a.l
 | c v=>exact hr.bare rfl
 | str s=>exact hr.bare rfl
 | lst d l=>exact hr.bare rfl
 | emp=>exact hr.bare rfl
 | nn=>exact hr.bare rfl
 | _=>cases h
theorem pH {F:Fns R}(hF:FnsOK P F){k:V→Tree R}{res:R}(h:(evNF P F H ρ o.op k).run=some res):
  ∃ r,(k r).run=some res∧∀ (n0:Nat) (Bx:List Nat) (w:World) (B:List Nat) (η:List Value) (ρv:Operand→Value),(∀ f,ρv (.func f)= .func (.func f) #[] #[])→Inv n0 Bx w B η (H.map exE)→(∀ x∈o.op.operands,Rel2 w B η (ρ x) (ρv x)∧aM n0 (ex (ρ x)) (ρv x))→OpK P n0 w ρv o B η r:=by
 generalize ho:o.op=op at h
 unfold evNF at h
 split at h
 ·rename_i f args ts
  split at h
  ·rename_i himm
   obtain ⟨r,h1,h2,h3,h4⟩:=hF.ok _ _ _ _ h
   refine ⟨r,h1,fun n0 Bx w B η ρv hfv inv he N hN=>gx ho (hfv f) ?_⟩
   have hmem:∀ y∈args.toList,y∈o.op.operands:=fun y hy=>by simp [ho,gt,Dj];exact .inr (by simpa using hy)
   have hcall:=h4 w B (args.toList.map ρv) inv.lt inv.base.2 (by simp) (fun i x hx=>by
    rw [List.getElem?_map,C7] at hx
    obtain ⟨y,hy,rfl⟩:=hx
    have hm:=Da hy
    have hi:=Dh.1 himm y hm
    exact ⟨ρv y,by rw [List.getElem?_map,hy];rfl,rN hi ((he y (by rw [←ho];exact hmem y hm)).1.get (kD hi))⟩) N (fun v w' g2 g3=>hN v w' (.gr g2) (Rel2.of h2 g3.any) (fun hfr=>by generalize ex r=y at h3 hfr;cases y <;> first | exact absurd rfl (h3 _ _) | cases hfr))
   have hargs:(args.toList.map ρv).toArray=args.map ρv:=by apply DJ;simp
   rw [hargs] at hcall
   exact hcall
  ·cases h
 ·obtain ⟨r,h1,h2⟩:=asl (o:=o) (by rw [ho];exact h)
  exact ⟨r,h1,fun n0 Bx w B η ρv _ inv he=>h2 n0 Bx w B η ρv inv (by rw [ho];exact he)⟩
def rdec (s:List UInt8)(p:Int):Int×Int:=(((Utf8.decode ⟨s.toArray⟩ p.toNat).1:Nat),((Utf8.decode ⟨s.toArray⟩ p.toNat).2:Nat))
def aeG (P:Program)(H:List E2)(t:TypeId)(x:V)(k:V→List E2→Tree R):Tree R:=
 match P.underlying t,x with
 | some .string,.str s=>k (.box H.length 0) (H++[.itr s 0])
 | some .string,.c (.string b)=>k (.box H.length 0) (H++[.itr b.data.toList 0])
 | _,_=>.fail
theorem aeF {t:TypeId}{x:Operand}{k:V→List E2→Tree R}{res:R}(hp:cn ρ o)(ho:o.op= .range t x)(h:(aeG P H t (ρ x) k).run=some res):∃ r H',(k r H').run=some res∧lZ P H ρ o r H':=by
 unfold aeG at h
 have fin:∀ (s:List UInt8),P.underlying t=some .string→ex (ρ x)= .c (.string ⟨s.toArray⟩)→lZ P H ρ o (.box H.length 0) (H++[.itr s 0]):=fun s hu hs n0 Bx w B η ρv inv he=>by
  have hx0:=bV hp he x (by simp [ho,gt])
  rw [hs] at hx0
  have:=ahj (P:=P) (ρ:=ρv) inv ho hu (Du hx0)
  simp only [Dc] at this
  exact this.to (r:=.box H.length 0) rfl (by simp) (gK (by simp) (lQ H) (.refl _))
 split at h
 ·rename_i s hu hx
  exact ⟨_,_,h,fin s hu (by rw [hx];rfl)⟩
 ·rename_i b hu hx
  exact ⟨_,_,h,fin b.data.toList hu (by rw [hx];simp [ex,ex0])⟩
 ·cases h
def amm (H:List E2)(a:V)(k:V→List E2→Tree R):Tree R:=
 match a with
 | .box id 0=>(match H[id]? with
  | some (.itr s p)=>.ite (decide (p.toNat<s.length)) (k (.tup [.c (.bool true),.c (.int .i64 (p.toNat:Nat)),.c (.int .i32 (rdec s p).1)]) (H.set id (.itr s (((p.toNat:Nat):Int)+(rdec s p).2)))) (k (.tup [.c (.bool false)]) H)
  | _=>.fail)
 | _=>.fail
theorem ahv {x:Operand}{k:V→List E2→Tree R}{res:R}(hp:cn ρ o)(ho:o.op= .next x true)(h:(amm H (ρ x) k).run=some res):∃ r H',(k r H').run=some res∧lZ P H ρ o r H':=by
 unfold amm at h
 split at h
 ·rename_i id hx
  split at h
  ·rename_i s p hH
   rcases C6 h with ⟨hb,h⟩ | ⟨hb,h⟩
   ·have hlt:=of_decide_eq_true hb
    refine ⟨_,_,h,fun n0 Bx w B η ρv inv he=> ?_⟩
    have hx0:=bV hp he x (by simp [ho,gt])
    rw [hx] at hx0
    have:=aml (P:=P) (ρ:=ρv) inv ho (exH hH) hx0 (by show p.toNat<s.toArray.size;simpa using hlt)
    refine this.to (r:=.tup [.c (.bool true),.c (.int .i64 (p.toNat:Nat)),.c (.int .i32 (rdec s p).1)]) rfl (by simp) ?_
    refine qG (e:=.itr s p) ?_
    show qw _ (exE (.itr s (((p.toNat:Nat):Int)+(rdec s p).2)))
    have e:(((p.toNat:Nat):Int)+(rdec s p).2).toNat=p.toNat+(Utf8.decode ⟨s.toArray⟩ p.toNat).2:=by unfold rdec;simp only;omega
    show qw _ (.itr ⟨s.toArray⟩ (((p.toNat:Nat):Int)+(rdec s p).2).toNat)
    rw [e]
    exact .refl _
   ·have hlt:=of_decide_eq_false hb
    refine ⟨_,_,h,fun n0 Bx w B η ρv inv he=> ?_⟩
    have hx0:=bV hp he x (by simp [ho,gt])
    rw [hx] at hx0
    have:=ahu (P:=P) (ρ:=ρv) inv ho (exH hH) hx0 (by show ¬ p.toNat<s.toArray.size;simpa using hlt)
    exact this.to (r:=.tup [.c (.bool false)]) rfl (by simp) (lQ H)
  ·cases h
 ·cases h
def movB:V→Bool
 | .adr _ | .lst _ _ | .str _=>false
 | _=>true
def evW2 (P:Program)(mv:Bool×Bool)(H:List E2)(ρ:Operand→V)(o:Op)(k:V→List E2→Tree R):Option (Tree R):=
 match o with
 | .box t x=>some (if mv.2=true then aaB P t (ρ x) fun r=>k r H else boxK P H t (ρ x) k)
 | .alloc t=>some (abH P H t k)
 | .store t a x=>some (Au P H t (ρ a) (ρ x) k)
 | .slice t x lo hi none=>if mv.1=true∧movB (ρ x)=true then some (Cl P H ρ t (ρ x) lo hi k) else none
 | .buildSlice t len parts=>if mv.1=true then some (wh P H ρ t len parts k) else if ptrS P t=true then some (wk P H ρ t len parts k) else none
 | .makeSlice t a b=>some (ams P H t (ρ a) (ρ b) k)
 | .range t x=>some (aeG P H t (ρ x) k)
 | .next x true=>some (amm H (ρ x) k)
 | .call ⟨.builtin .append,⟨[s,x]⟩,⟨[t,t']⟩⟩=>if t=t' then some (pU P H t (ρ s) (ρ x) k) else (match ρ x with
  | .str bs=>if jL P t'=true then some (Ac P H t (ρ s) bs k) else some .fail
  | x=>some (Ab P H t t' (ρ s) x k))
 | _=>none
def evS2 (P:Program)(F:Fns R)(mv:Bool×Bool)(H:List E2)(ρ:Operand→V)(o:Op)(k:V→List E2→Tree R):Tree R:=
 match evW2 P mv H ρ o k with
 | some t=>if Bf ρ o=true then t else .fail
 | none=>match bslK P H ρ o k with
  | some t=>t
  | none=>match o with
   | .call ⟨.builtin .copy,⟨[x,s]⟩,⟨[t,_]⟩⟩=>amY P H t (ρ x) (ρ s) k
   | o=>evNF P F H ρ o fun r=>k r H
theorem afE {F:Fns R}(hF:FnsOK P F){mv:Bool×Bool}{k:V→List E2→Tree R}{res:R}(h:(evS2 P F mv H ρ o.op k).run=some res):
  ∃ r H',(k r H').run=some res∧∀ (n0:Nat) (Bx:List Nat) (w:World) (B:List Nat) (η:List Value) (ρv:Operand→Value),(∀ f,ρv (.func f)= .func (.func f) #[] #[])→Inv n0 Bx w B η (H.map exE)→(∀ x∈o.op.operands,Rel2 w B η (ρ x) (ρv x)∧aM n0 (ex (ρ x)) (ρv x))→OpS2 P n0 Bx w ρv o B η r H':=by
 unfold evS2 at h
 split at h
 ·rename_i t hw
  split at h
  ·rename_i hpl
   have hp:cn ρ o:=fun x hx=>Array.all_eq_true'.1 hpl x hx
   have key:∀ {r H'},(k r H').run=some res∧lZ P H ρ o r H'→∃ r H',(k r H').run=some res∧∀ (n0:Nat) (Bx:List Nat) (w:World) (B:List Nat) (η:List Value) (ρv:Operand→Value),(∀ f,ρv (.func f)= .func (.func f) #[] #[])→Inv n0 Bx w B η (H.map exE)→(∀ x∈o.op.operands,Rel2 w B η (ρ x) (ρv x)∧aM n0 (ex (ρ x)) (ρv x))→OpS2 P n0 Bx w ρv o B η r H':=fun {r H'} h=>⟨r,H',h.1,fun n0 Bx w B η ρv _ inv he=>h.2 n0 Bx w B η ρv inv he⟩
   obtain ⟨op,ho⟩:∃ op,o.op=op:=⟨_,rfl⟩
   rw [ho] at hw
   unfold evW2 at hw
   split at hw
   ·injection hw with hw;subst hw
    split at h
    ·obtain ⟨r,H',h⟩:=adG hp ho h;exact key h
    ·obtain ⟨r,H',h⟩:=am9 hp ho h;exact key h
   ·injection hw with hw;subst hw;obtain ⟨r,H',h⟩:=af9 (ρ:=ρ) ho h;exact key h
   ·injection hw with hw;subst hw;obtain ⟨r,H',h⟩:=aea hp ho h;exact key h
   ·split at hw
    ·injection hw with hw;subst hw;obtain ⟨r,H',h⟩:=acR hp ho h;exact key h
    ·cases hw
   ·split at hw
    ·injection hw with hw;subst hw;obtain ⟨r,H',h⟩:=B4 hp ho h;exact key h
    ·split at hw
     ·injection hw with hw;subst hw;obtain ⟨r,H',h⟩:=B5 hp ho h;exact key h
     ·cases hw
   ·injection hw with hw;subst hw;obtain ⟨r,H',h⟩:=ahC hp ho h;exact key h
   ·injection hw with hw;subst hw;obtain ⟨r,H',h⟩:=aeF hp ho h;exact key h
   ·injection hw with hw;subst hw;obtain ⟨r,H',h⟩:=ahv hp ho h;exact key h
   ·split at hw
    ·rename_i ht
     subst ht
     injection hw with hw;subst hw;obtain ⟨r,H',h⟩:=ye hp ho h;exact key h
    ·split at hw
     ·rename_i bs hx
      split at hw
      ·rename_i hst
       injection hw with hw;subst hw;obtain ⟨r,H',h⟩:=aaG hp ho (dL hst) hx h;exact key h
      ·injection hw with hw;subst hw;cases h
     ·injection hw with hw;subst hw;obtain ⟨r,H',h⟩:=aaF hp ho h;exact key h
   ·cases hw
  ·cases h
 ·split at h
  ·rename_i t hb
   obtain ⟨r,H',h1,h2⟩:=am6 hb h
   exact ⟨r,H',h1,fun n0 Bx w B η ρv _ inv he=>h2 n0 Bx w B η ρv inv he⟩
  obtain ⟨op,ho⟩:∃ op,o.op=op:=⟨_,rfl⟩
  rw [ho] at h
  split at h
  ·obtain ⟨r,H',h1,h2⟩:=ah1 ho h
   exact ⟨r,H',h1,fun n0 Bx w B η ρv _ inv he=>h2 n0 Bx w B η ρv inv he⟩
  obtain ⟨r,h1,h2⟩:=pH (o:=o) hF (by rw [ho];exact h)
  exact ⟨r,H,h1,fun n0 Bx w B η ρv hfv inv he N hN=>h2 n0 Bx w B η ρv hfv inv he N (fun v w' g hr hf=>hN v w' B η g.on (fun _ h=>.inl h) (fun _ _ h=>h) (g.bel inv) (inv.gk g) hr hf)⟩
end
structure S2 where
 slots:List V
 heap:List E2
 deriving Inhabited
structure SlotsK (n0:Nat) (w:World) (B:List Nat) (η:List Value) (sl:List V) (tmps:Array Value):Prop where
 size:sl.length=tmps.size
 rel:∀ t,Rel2 w B η (sl.getD t .any) (tmps.getD t undef)
 fresh:∀ t,aM n0 (ex (sl.getD t .any)) (tmps.getD t undef)
structure SimK (n0:Nat) (Bx:List Nat) (ds:List Deferred) (st:S2) (a:Act) (w:World) (B:List Nat) (η:List Value):Prop where
 defers:a.defers=ds
 inv:Inv n0 Bx w B η (st.heap.map exE)
 slots:SlotsK n0 w B η st.slots a.tmps
theorem abg {α β:Type}(f:α→β)(l:List α)(t:Nat)(d:α):(l.map f).getD t (f d)=f (l.getD t d):=by
 simp only [List.getD_eq_getElem?_getD,List.getElem?_map]
 cases l[t]? <;> rfl
theorem SlotsK.map {n0:Nat}{w:World}{B B':List Nat}{η η':List Value}{sl:List V}{tmps:Array Value}(h:SlotsK n0 w B η sl tmps)(f:V→V)(hf:f .any= .any)(hr:∀ x v,Rel2 w B η x v→Rel2 w B' η' (f x) v)(hfr:∀ x v,aM n0 (ex x) v→aM n0 (ex (f x)) v):SlotsK n0 w B' η' (sl.map f) tmps:=
 ⟨by simp [h.size],fun t=>by
  have:=abg f sl t .any
  rw [hf] at this
  rw [this];exact hr _ _ (h.rel t),fun t=>by
  have:=abg f sl t .any
  rw [hf] at this
  rw [this];exact hfr _ _ (h.fresh t)⟩
theorem SlotsK.put {n0:Nat}{w:World}{B:List Nat}{η:List Value}{sl:List V}{tmps:Array Value}{r:V}{v:Value}(h:SlotsK n0 w B η sl tmps)(hr:Rel2 w B η r v)(hf:aM n0 (ex r) v)(t:Nat):SlotsK n0 w B η (sl.set t r) (tmps.setIfInBounds t v):=by
 have key:∀ u,((sl.set t r).getD u .any=r∧(tmps.setIfInBounds t v).getD u undef=v)∨((sl.set t r).getD u .any=sl.getD u .any∧(tmps.setIfInBounds t v).getD u undef=tmps.getD u undef):=by
  intro u
  simp only [List.getD_eq_getElem?_getD,Dn]
  rw [List.getElem?_set,Array.getElem?_setIfInBounds]
  by_cases htu:t=u
  ·subst htu
   simp only [if_true]
   rw [h.size]
   by_cases hlt:t<tmps.size
   ·simp [hlt]
   ·right
    simp only [hlt,if_false]
    have e1:sl[t]? =none:=List.getElem?_eq_none (by rw [h.size];exact Nat.le_of_not_lt hlt)
    have e2:tmps[t]? =none:=Array.getElem?_eq_none (Nat.le_of_not_lt hlt)
    rw [e1,e2]
    exact ⟨rfl,rfl⟩
  ·simp [htu]
 refine ⟨by simp [h.size],fun u=> ?_,fun u=> ?_⟩
 ·rcases key u with ⟨h1,h2⟩ | ⟨h1,h2⟩ <;> rw [h1,h2]
  ·exact hr
  ·exact h.rel u
 ·rcases key u with ⟨h1,h2⟩ | ⟨h1,h2⟩ <;> rw [h1,h2]
  ·exact hf
  ·exact h.fresh u
theorem SlotsK.on {n0:Nat}{w w':World}{B B':List Nat}{η η':List Value}{sl:List V}{tmps:Array Value}(h:SlotsK n0 w B η sl tmps)(g:On B w w')(hB:∀ b∈B',b∈B∨w.heap.size≤b)(he:∀ (id:Nat) v,η[id]? =some v→η'[id]? =some v):SlotsK n0 w' B' η' sl tmps:=
 ⟨h.size,fun t=>(h.rel t).on g hB he,h.fresh⟩
def fzS (id:Nat)(d:Td)(l:List (T d)):V→V
 | .own i=>if i=id then .lst d l else .own i
 | x=>x
def alv (id:Nat):V→Bool
 | .own i=>i==id
 | .oadr i _ _ _=>i==id
 | _=>false
def fzV (id:Nat)(d:Td)(l:List (T d))(x:V):V:=
 match x with
 | .own i=>if i=id then .lst d l else .own i
 | .oadr i dd j o=>if i=id then .any else .oadr i dd j o
 | .agg segs=>.agg (segs.map (fzS id d l))
 | .tup segs=>if segs.any (alv id) then .any else .tup segs
 | .clo f caps=>if caps.any (alv id) then .any else .clo f caps
 | x=>x
def fzE (id:Nat)(d:Td)(l:List (T d)):E2→E2
 | .box segs t=>.box (segs.map (fzS id d l)) t
 | e=>e
def freeze (st:S2)(id:Nat):S2:=
 match st.heap[id]? with
 | some (.own d l E)=>⟨st.slots.map (fzV id d l),(st.heap.set id .dead).map (fzE id d l)⟩
 | _=>st
section
variable {n0:Nat} {Bx:List Nat} {w:World} {B:List Nat} {η:List Value}
theorem yG {B':List Nat}(hB:∀ b∈B',b∈B){x:AV}{v:Value}(h:Rel w B η x v):Rel w B' η x v:=h.on (On.refl B w) (fun b hb=>.inl (hB b hb)) (fun _ _ h=>h)
theorem oV {B':List Nat}(hB:∀ b∈B',b∈B){l:List AV}{us:List Value}(h:RelL w B η l us):RelL w B' η l us:=h.on (On.refl B w) (fun b hb=>.inl (hB b hb)) (fun _ _ h=>h)
theorem sW {H:List Ent}(inv:Inv n0 Bx w B η H){id E k:Nat}{cs:List AV}(hH:H[id]? =some (.own cs E k))(himm:cs.all AV.imm0=true){B':List Nat}(hB:∀ b∈B',b∈B)(hb:∀ b,bP (η.getD id undef)=some b→b∉B'){v:Value}(hx:Rel w B η (.own id) v){η':List Value}:Rel w B' η' (.sl cs k) v:=by
 cases hx with
 | own _ _ a n c hid=>
  have hent:=inv.ent id _ hH
  have hg:η.getD id undef= .slice a n c:=by simp [List.getD_eq_getElem?_getD,hid]
  rw [hg] at hent hb
  obtain ⟨n',us,h1,h2,h3,h4⟩:=hent
  have hlen:n'*k=cs.length:=by rw [←h2.1];exact h1.1.symm
  have hrel:∀ i x,cs[i]? =some x→Rel w B' [] x (us.getD i undef):=fun i x hx=>by
   obtain ⟨u,q1,q2⟩:=h2.2 i x hx
   rw [List.getD_eq_getElem?_getD,q1,C9]
   exact yG hB (q2.bare0 (Dh.1 himm x (Da hx)))
  obtain rfl:=h1.len
  rcases h1.2 with ⟨hv,hn0⟩ | ⟨g,oo,cap,cur,hv,hbb,hgg,hnc,hcm,hsz,htk⟩
  ·injection hv with e1 e2 e3
   subst e1 e3
   subst hn0
   exact .sl _ _ _ _ _ _ _ h3 hlen (Dg _) (DI _) (fun h0=>absurd h0 (by omega)) hrel
  ·injection hv with e1 e2 e3
   subst e1 e3
   refine .sl _ _ _ _ _ _ _ h3 hlen hnc hcm (fun h0=>⟨_,rfl,rfl,(Array.getElem?_eq_some_iff.1 hgg).1,hb g rfl,fun i hi=> ?_⟩) hrel
   have hi':i<us.length:=by rw [h2.1];exact hi
   rw [DE,h1.cells i _ (List.getElem?_eq_getElem hi'),List.getD_eq_getElem?_getD,List.getElem?_eq_getElem hi',C9]
theorem RelL.map2 {w':World}{B':List Nat}{η':List Value}{f:V→V}(hf:∀ s us,RelL w B η (segA s) us→RelL w' B' η' (segA (f s)) us):∀ (l:List V) (us:List Value),RelL w B η (aD l) us→RelL w' B' η' (aD (l.map f)) us
 | [],us,h=>by
  have:us=[]:=C5 h.1
  subst this;exact RelL.nil _ _ _
 | s::l,us,h=>by
  rw [aA] at h
  obtain ⟨h1,h2⟩:=h.split
  rw [List.map_cons,aA]
  have:=(hf s _ h1).append (RelL.map2 hf l _ h2)
  rwa [DF] at this
theorem RelL.one1 {x:AV}{us:List Value}(h:RelL w B η [x] us):∃ u,us=[u]∧Rel w B η x u:=by
 match us,h with
 | [],hu=>have:=hu.1;simp at this
 | [u],hu=>
  obtain ⟨u',h1,h2⟩:=hu.2 0 x rfl
  simp at h1;subst h1
  exact ⟨u,rfl,h2⟩
 | _::_::_,hu=>have:=hu.1;simp at this
theorem RelL.of1 {x:AV}{u:Value}(h:Rel w B η x u):RelL w B η [x] [u]:=RelL.cons h (RelL.nil _ _ _)
theorem xP {ds:List Deferred}{st:S2}{a:Act}(h:SimK n0 Bx ds st a w B η)(id:Nat):∃ B',(∀ b∈B',b∈B)∧SimK n0 Bx ds (freeze st id) a w B' η∧∀ d l E,st.heap[id]? =some (.own d l E)→∀ b,bP (η.getD id undef)=some b→b∉B':=by
 unfold freeze
 split
 ·rename_i d l E hH
  have hid:=exH hH
  have hent:=h.inv.ent id _ hid
  obtain ⟨n',us,h1,h2,h3,h4⟩:=hent
  obtain ⟨B',hBd⟩:∃ B',B'=(match bP (η.getD id undef) with | some b=>B.filter (· ≠b) | none=>B):=⟨_,rfl⟩
  have hB:∀ b∈B',b∈B:=fun b hb=>by
   subst hBd
   split at hb
   ·exact (List.mem_filter.1 hb).1
   ·exact hb
  have hnb:∀ b,bP (η.getD id undef)=some b→b∉B':=fun b hb hc=>by
   rw [hb] at hBd;subst hBd
   simp at hc
  have hin:∀ b∈B,bP (η.getD id undef)≠some b→b∈B':=fun b hb hne=>by
   subst hBd
   split
   ·rename_i c hc;exact List.mem_filter.2 ⟨hb,by simp;intro h;subst h;exact hne hc⟩
   ·exact hb
  have hown:∀ b,bP (η.getD id undef)=some b→(η.getD id undef).ownBlock=some b:=fun b hb=>by
   rcases h1.2 with ⟨hv,_⟩ | ⟨g,oo,cap,cur,hv,_⟩
   ·rw [hv] at hb;cases hb
   ·rw [hv] at hb ⊢;exact hb
  have himm:(flat d l).all AV.imm0=true:=fC d l
  have hseg:∀ s us,RelL w B η (segA s) us→RelL w B' η (segA (fzS id d l s)) us:=fun s us hs=>by
   unfold fzS
   split
   ·split
    ·rename_i i hi
     subst hi
     obtain ⟨u,rfl,hu⟩:=RelL.one1 (x:=.own i) hs
     exact RelL.of1 (sW h.inv hid himm hB hnb hu)
    ·exact oV hB hs
   ·exact oV hB hs
  refine ⟨B',hB,⟨h.defers, ?_, ?_⟩,fun _ _ _ _=>hnb⟩
  ·refine ⟨by simp [h.inv.len],⟨h.inv.base.1,h.inv.base.2.on (On.refl B w) (fun b hb=>.inl (hB b hb))⟩,fun x hx=>hin x (h.inv.sub x hx) (fun hc=>(h4 x (hown x hc)).2 hx),fun b hb=>h.inv.lt b (hB b hb),fun i e he=> ?_,fun i j ei ej hij hi hj hli hlj=> ?_⟩
   ·simp only [DD,List.getElem?_map,C7,Function.comp_apply] at he
    obtain ⟨e0,he0,rfl⟩:=he
    rw [List.getElem?_set] at he0
    split at he0
    ·split at he0
     ·injection he0 with he0;subst he0;trivial
     ·cases he0
    ·rename_i hne
     have hold:=h.inv.ent i _ (exH he0)
     cases e0 with
     | dead=>trivial
     | box segs t=>
      obtain ⟨b,us',p1,p2,p3,p4,p5,p6⟩:=hold
      refine ⟨b,us',p1,p2,hin b p3 (fun hc=> ?_),p4,p5,RelL.map2 hseg _ _ p6⟩
      exact h.inv.sep id i _ _ hne hid (exH he0) rfl rfl b hc (by rw [p1];rfl)
     | itr s2 q2=>
      obtain ⟨b,p1,p2,p3,p4,p5⟩:=hold
      refine ⟨b,p1,p2,hin b p3 (fun hc=> ?_),p4,p5⟩
      exact h.inv.sep id i _ _ hne hid (exH he0) rfl rfl b hc (by rw [p1];rfl)
     | own d2 l2 E2'=>
      obtain ⟨n2,us',p1,p2,p3,p4⟩:=hold
      refine ⟨n2,us',p1,oV hB p2,p3,fun b hb=>⟨hin b (p4 b hb).1 (fun hc=> ?_),(p4 b hb).2⟩⟩
      refine h.inv.sep id i _ _ hne hid (exH he0) rfl rfl b hc ?_
      rcases p1.2 with ⟨hv,_⟩ | ⟨g,oo,cap,cur,hv,_⟩
      ·rw [hv] at hb;cases hb
      ·rw [hv] at hb ⊢;exact hb
   ·have key:∀ (i:Nat) (ei:Ent),(((st.heap.set id .dead).map (fzE id d l)).map exE)[i]? =some ei→ei.live=true→∃ ei',(st.heap.map exE)[i]? =some ei'∧ei'.live=true:=by
     intro i ei hi hli
     simp only [DD,List.getElem?_map,C7,Function.comp_apply] at hi
     obtain ⟨e0,he0,rfl⟩:=hi
     rw [List.getElem?_set] at he0
     split at he0
     ·split at he0
      ·injection he0 with he0;subst he0;cases hli
      ·cases he0
     ·exact ⟨_,exH he0,by cases e0 <;> first | rfl | cases hli⟩
    obtain ⟨_,k1,k2⟩:=key i ei hi hli
    obtain ⟨_,k3,k4⟩:=key j ej hj hlj
    exact h.inv.sep i j _ _ hij k1 k3 k2 k4
  ·refine h.slots.map _ rfl (fun x v hx=> ?_) (fun x v hf=> ?_)
   ·have dflt:Rel2 w B' η x v:=hx.on (On.refl B w) (fun b hb=>.inl (hB b hb)) (fun _ _ h=>h)
    unfold fzV
    split
    ·split
     ·rename_i i hi
      subst hi
      exact sW h.inv hid himm hB hnb hx
     ·exact dflt
    ·split
     ·trivial
     ·exact dflt
    ·rename_i segs
     obtain ⟨cs,rfl,hl⟩:=Rel.aggL hx
     have:=RelL.map2 hseg _ _ hl
     exact this.toAgg
    ·split
     ·trivial
     ·exact dflt
    ·split
     ·trivial
     ·exact dflt
    ·exact dflt
   ·intro hfr
    cases x <;> first
     | exact hf hfr
     | (simp only [fzV,ex,ex0,fo] at hfr;cases hfr;done)
     | (simp only [fzV] at hfr;split at hfr <;> (simp only [ex,ex0,fo] at hfr;cases hfr))
 ·rename_i hne
  exact ⟨B,fun _ h=>h,h,fun d l E hH=>absurd hH (fun hh=>hne d l E hh)⟩
theorem afp {ds:List Deferred}{st:S2}{a:Act}(h:SimK n0 Bx ds st a w B η)(id:Nat):∃ B',(∀ b∈B',b∈B)∧SimK n0 Bx ds (freeze st id) a w B' η:=by
 obtain ⟨B',h1,h2,_⟩:=xP h id
 exact ⟨B',h1,h2⟩
def fbV (id:Nat)(segs:List V)(x:V):V:=
 match x with
 | .box i off=>if i=id then (match qu big segs off with | some r=>.adr r | none=>.any) else .box i off
 | x=>x
def aal (st:S2)(id:Nat):S2:=
 match st.heap[id]? with
 | some (.box segs T)=>if segs.all immV=true then ⟨st.slots.map (fbV id segs),st.heap.set id .dead⟩ else st
 | _=>st
theorem aak {H:List Ent}(inv:Inv n0 Bx w B η H){id T:Nat}{segs:List V}(hH:H[id]? =some (.box (aD segs) T))(himm:segs.all immV=true){B':List Nat}(hB:∀ b∈B',b∈B)(hb:∀ b,bP (η.getD id undef)=some b→b∉B'){off:Nat}{r:List V}(hr:qu big segs off=some r){v:Value}(hx:Rel w B η (.box id off) v):Rel w B' η (.adr (aD r)) v:=by
 cases hx with
 | box _ _ _ b hid=>
  have hent:=inv.ent id _ hH
  have hg:η.getD id undef= .pointer (some ⟨b,0,none⟩):=by simp [List.getD_eq_getElem?_getD,hid]
  rw [hg] at hent hb
  obtain ⟨b',us,p1,p2,p3,p4,p5,p6⟩:=hent
  injection p1 with p1
  injection p1 with p1
  injection p1 with p1
  subst p1
  obtain ⟨h1,h2⟩:=fD _ _ _ _ hr
  have hl:=p6.1
  have himm':(aD segs).all AV.imm0=true:=pC segs himm
  refine .adr _ _ _ (fun i=>us.getD (off+i) undef) ⟨rfl,(Array.getElem?_eq_some_iff.1 p5).1,hb b rfl,fun i hi=> ?_⟩ (fun i x hi=> ?_)
  ·rw [h1,Dt] at hi
   rw [DE,cell_of_row w b _ _ _ (0,0) p5,List.getD_eq_getElem?_getD]
   have hlt:off+i<us.length:=by omega
   simp [hlt]
  ·rw [h1,List.getElem?_drop] at hi
   obtain ⟨u,q1,q2⟩:=p6.2 _ x hi
   rw [List.getD_eq_getElem?_getD,q1,C9]
   exact yG hB (q2.bare0 (Dh.1 himm' x (Da hi)))
theorem adp {ds:List Deferred}{st:S2}{a:Act}(h:SimK n0 Bx ds st a w B η)(id:Nat):∃ B',(∀ b∈B',b∈B)∧SimK n0 Bx ds (aal st id) a w B' η:=by
 unfold aal
 split
 ·rename_i segs T hH
  split
  ·rename_i himm
   have hid:=exH hH
   have hent:=h.inv.ent id _ hid
   obtain ⟨b0,us0,h1,h2,h3,h4,h5,h6⟩:=hent
   obtain ⟨B',hBd⟩:∃ B',B'=B.filter (· ≠b0):=⟨_,rfl⟩
   have hB:∀ b∈B',b∈B:=fun b hb=>by subst hBd;exact (List.mem_filter.1 hb).1
   have hnb:∀ b,bP (η.getD id undef)=some b→b∉B':=fun b hb hc=>by
    rw [h1] at hb
    injection hb with hb
    have hb:b0=b:=hb
    subst hb hBd
    simp at hc
   have hin:∀ b∈B,bP (η.getD id undef)≠some b→b∈B':=fun b hb hne=>by
    subst hBd
    refine List.mem_filter.2 ⟨hb, ?_⟩
    simp
    intro h;subst h
    exact hne (by rw [h1];rfl)
   refine ⟨B',hB,h.defers, ?_, ?_⟩
   ·refine ⟨by simp [h.inv.len],⟨h.inv.base.1,h.inv.base.2.on (On.refl B w) (fun b hb=>.inl (hB b hb))⟩,fun x hx=>hin x (h.inv.sub x hx) (fun hc=> ?_),fun b hb=>h.inv.lt b (hB b hb),fun i e he=> ?_,fun i j ei ej hij hi hj hli hlj=> ?_⟩
    ·rw [h1] at hc
     injection hc with hc
     have hc:b0=x:=hc
     exact h4 (hc▸hx)
    ·rw [List.map_set,List.getElem?_set] at he
     split at he
     ·split at he
      ·injection he with he;subst he;trivial
      ·cases he
     ·rename_i hne
      have hold:=h.inv.ent i e he
      rw [List.getElem?_map,C7] at he
      obtain ⟨e0,he0,rfl⟩:=he
      cases e0 with
      | dead=>trivial
      | box segs t=>
       obtain ⟨b,us',p1,p2,p3,p4,p5,p6⟩:=hold
       refine ⟨b,us',p1,p2,hin b p3 (fun hc=> ?_),p4,p5,oV hB p6⟩
       exact h.inv.sep id i _ _ hne hid (exH he0) rfl rfl b hc (by rw [p1];rfl)
      | itr s2 q2=>
       obtain ⟨b,p1,p2,p3,p4,p5⟩:=hold
       refine ⟨b,p1,p2,hin b p3 (fun hc=> ?_),p4,p5⟩
       exact h.inv.sep id i _ _ hne hid (exH he0) rfl rfl b hc (by rw [p1];rfl)
      | own d2 l2 E2'=>
       obtain ⟨n2,us',p1,p2,p3,p4⟩:=hold
       refine ⟨n2,us',p1,oV hB p2,p3,fun b hb=>⟨hin b (p4 b hb).1 (fun hc=> ?_),(p4 b hb).2⟩⟩
       refine h.inv.sep id i _ _ hne hid (exH he0) rfl rfl b hc ?_
       rcases p1.2 with ⟨hv,_⟩ | ⟨g,oo,cap,cur,hv,_⟩
       ·rw [hv] at hb;cases hb
       ·rw [hv] at hb ⊢;exact hb
    ·have key:∀ (i:Nat) (ei:Ent),((st.heap.set id .dead).map exE)[i]? =some ei→ei.live=true→(st.heap.map exE)[i]? =some ei:=by
      intro i ei hi hli
      rw [List.map_set,List.getElem?_set] at hi
      split at hi
      ·split at hi
       ·injection hi with hi;subst hi;cases hli
       ·cases hi
      ·exact hi
     exact h.inv.sep i j _ _ hij (key i ei hi hli) (key j ej hj hlj) hli hlj
   ·refine h.slots.map _ rfl (fun x v hx=> ?_) (fun x v hf=> ?_)
    ·have dflt:Rel2 w B' η x v:=hx.on (On.refl B w) (fun b hb=>.inl (hB b hb)) (fun _ _ h=>h)
     unfold fbV
     split
     ·split
      ·rename_i i off hi
       subst hi
       split
       ·rename_i r hr
        exact aak h.inv hid himm hB hnb hr hx
       ·trivial
      ·exact dflt
     ·exact dflt
    ·intro hfr
     unfold fbV at hfr
     split at hfr
     ·split at hfr
      ·split at hfr <;> (simp only [ex,ex0,fo] at hfr;cases hfr)
      ·simp only [ex,ex0,fo] at hfr;cases hfr
     ·exact hf hfr
  ·exact ⟨B,fun _ h=>h,h⟩
 ·exact ⟨B,fun _ h=>h,h⟩
end
def ph:List Nat→Nat→Option Nat
 | [],_=>none
 | x::l,i=>if x=i then some 0 else (match ph l i with | some j=>some (j+1) | none=>none)
theorem xJ:∀ (l:List Nat) (i j:Nat),ph l i=some j→l[j]? =some i
 | [],_,_,h=>by cases h
 | x::l,i,j,h=>by
  unfold ph at h
  split at h
  ·rename_i hx;injection h with h;subst h hx;rfl
  ·split at h
   ·rename_i j' hj;injection h with h;subst h;exact xJ l i j' hj
   ·cases h
def rnS (keep:List Nat):V→Option V
 | .own i=>(match ph keep i with | some j=>some (.own j) | none=>none)
 | .box i o=>(match ph keep i with | some j=>some (.box j o) | none=>none)
 | .boxi i off d n j o=>(match ph keep i with | some i'=>some (.boxi i' off d n j o) | none=>none)
 | .oadr i d j o=>(match ph keep i with | some i'=>some (.oadr i' d j o) | none=>none)
 | .agg _ | .tup _ | .any | .clo _ _ | .bsl _ _=>none
 | x=>some x
def rnL (keep:List Nat):List V→Option (List V)
 | []=>some []
 | x::l=>match rnS keep x,rnL keep l with
  | some y,some m=>some (y::m)
  | _,_=>none
def rnV (keep:List Nat)(x:V):V:=
 match x with
 | .agg l=>(match rnL keep l with | some m=>.agg m | none=>.any)
 | .tup l=>.any
 | .clo f l=>(match rnL keep l with | some m=>.clo f m | none=>.any)
 | .any=>.any
 | .bsl i n=>(match ph keep i with | some j=>.bsl j n | none=>.any)
 | x=>(match rnS keep x with | some y=>y | none=>.any)
def rnE (keep:List Nat):E2→E2
 | .box l t=>(match rnL keep l with | some m=>.box m t | none=>.dead)
 | e=>e
def acV (keep:List Nat)(st:S2):S2:=⟨st.slots.map (rnV keep),keep.map fun i=>rnE keep (st.heap.getD i .dead)⟩
section
variable {n0:Nat} {Bx:List Nat} {w:World} {B:List Nat} {η η':List Value} {keep:List Nat}
theorem yC (hη:∀ i j v,ph keep i=some j→η[i]? =some v→η'[j]? =some v){x y:V}(h:rnS keep x=some y){v:Value}(hx:Rel w B η (ex x) v):Rel w B η' (ex y) v:=by
 cases x with
 | own i=>
  simp only [rnS] at h
  split at h
  ·rename_i j hj
   injection h with h;subst h
   cases hx with
   | own _ _ a n c hid=>exact .own _ _ _ _ _ (hη _ _ _ hj hid)
  ·cases h
 | box i o=>
  simp only [rnS] at h
  split at h
  ·rename_i j hj
   injection h with h;subst h
   cases hx with
   | box _ _ _ b hid=>exact .box _ _ _ _ (hη _ _ _ hj hid)
  ·cases h
 | boxi i off d n j o=>
  simp only [rnS] at h
  split at h
  ·rename_i i' hj
   injection h with h;subst h
   simp only [ex,ex0] at hx ⊢
   cases hx with
   | box _ _ _ b hid=>exact .box _ _ _ _ (hη _ _ _ hj hid)
  ·cases h
 | oadr i d j o=>
  simp only [rnS] at h
  split at h
  ·rename_i i' hj
   injection h with h;subst h
   simp only [ex,ex0] at hx ⊢
   cases hx with
   | oadr _ _ _ b o n c hid=>exact .oadr _ _ _ _ _ _ _ (hη _ _ _ hj hid)
  ·cases h
 | agg l=>cases h
 | tup l=>cases h
 | any=>cases h
 | clo f l=>cases h
 | bsl i n=>cases h
 | c v=>simp only [rnS,Db.injEq] at h;subst h;cases hx;exact .c _ _
 | str s=>simp only [rnS,Db.injEq] at h;subst h;cases hx;exact .c _ _
 | nn=>simp only [rnS,Db.injEq] at h;subst h;exact hx.bare rfl
 | arr d n a=>
  simp only [rnS,Db.injEq] at h;subst h
  refine hx.bare ?_
  simp only [ex,ex0,AV.imm]
  exact fC d a.l
 | lst d l=>simp only [rnS,Db.injEq] at h;subst h;exact hx.bare rfl
 | fre d l=>
  simp only [rnS,Db.injEq] at h;subst h
  cases hx with
  | fresh _ _ _ A n us hk hn h0 hm hA hr=>exact .fresh _ _ _ A n us hk hn h0 hm hA hr
 | emp=>simp only [rnS,Db.injEq] at h;subst h;exact hx.bare rfl
 | adr l=>simp only [rnS,Db.injEq] at h;subst h;exact hx.bare rfl
theorem al3 (hη:∀ i j v,ph keep i=some j→η[i]? =some v→η'[j]? =some v){x y:V}(h:rnS keep x=some y){us:List Value}(hx:RelL w B η (segA x) us):RelL w B η' (segA y) us:=by
 cases x with
 | own i=>
  obtain ⟨u,rfl,hu⟩:=RelL.one1 (x:=.own i) hx
  have:=yC (B:=B) (w:=w) hη h (x:=.own i) hu
  simp only [rnS] at h
  split at h
  ·injection h with h;subst h;exact RelL.of1 this
  ·cases h
 | box i o=>
  obtain ⟨u,rfl,hu⟩:=RelL.one1 (x:=.box i o) hx
  have:=yC (B:=B) (w:=w) hη h (x:=.box i o) hu
  simp only [rnS] at h
  split at h
  ·injection h with h;subst h;exact RelL.of1 this
  ·cases h
 | boxi i off d n j o=>
  simp only [rnS] at h
  split at h
  ·injection h with h;subst h
   have:us=[]:=C5 hx.1
   subst this;exact RelL.nil _ _ _
  ·cases h
 | oadr i d j o=>
  simp only [rnS] at h
  split at h
  ·injection h with h;subst h
   have:us=[]:=C5 hx.1
   subst this;exact RelL.nil _ _ _
  ·cases h
 | agg l=>cases h
 | tup l=>cases h
 | any=>cases h
 | clo f l=>cases h
 | bsl i n=>cases h
 | c v=>simp only [rnS,Db.injEq] at h;subst h;obtain ⟨u,rfl,hu⟩:=RelL.one1 hx;cases hu;exact RelL.of1 (.c _ _)
 | str s=>simp only [rnS,Db.injEq] at h;subst h;obtain ⟨u,rfl,hu⟩:=RelL.one1 hx;cases hu;exact RelL.of1 (.c _ _)
 | arr d n a=>
  simp only [rnS,Db.injEq] at h;subst h
  exact ⟨hx.1,fun i x hi=>by
   obtain ⟨u,h1,h2⟩:=hx.2 i x hi
   exact ⟨u,h1,h2.bare0 (Dh.1 (fC d a.l) x (Da hi))⟩⟩
 | lst d l=>simp only [rnS,Db.injEq] at h;subst h;obtain ⟨u,rfl,hu⟩:=RelL.one1 hx;exact RelL.of1 (hu.bare rfl)
 | fre d l=>simp only [rnS,Db.injEq] at h;subst h;obtain ⟨u,rfl,hu⟩:=RelL.one1 hx;exact RelL.of1 (hu.bare rfl)
 | emp=>simp only [rnS,Db.injEq] at h;subst h;obtain ⟨u,rfl,hu⟩:=RelL.one1 hx;exact RelL.of1 (hu.bare rfl)
 | nn=>simp only [rnS,Db.injEq] at h;subst h;obtain ⟨u,rfl,hu⟩:=RelL.one1 hx;exact RelL.of1 (hu.bare rfl)
 | adr l=>
  simp only [rnS,Db.injEq] at h;subst h
  have:us=[]:=C5 hx.1
  subst this;exact RelL.nil _ _ _
theorem Cr (hη:∀ i j v,ph keep i=some j→η[i]? =some v→η'[j]? =some v):∀ (l m:List V) (us:List Value),rnL keep l=some m→RelL w B η (aD l) us→RelL w B η' (aD m) us
 | [],m,us,h,hx=>by
  simp only [rnL,Db.injEq] at h;subst h
  have:us=[]:=C5 hx.1
  subst this;exact RelL.nil _ _ _
 | x::l,m,us,h,hx=>by
  unfold rnL at h
  split at h
  ·rename_i y m' h1 h2
   injection h with h;subst h
   rw [aA] at hx ⊢
   obtain ⟨g1,g2⟩:=hx.split
   have:=(al3 hη h1 g1).append (Cr hη l m' _ h2 g2)
   rwa [DF] at this
  ·cases h
theorem aex:∀ (l m:List V),rnL keep l=some m→m.length=l.length∧∀ (i:Nat) y,m[i]? =some y→∃ x,l[i]? =some x∧rnS keep x=some y
 | [],m,h=>by simp only [rnL,Db.injEq] at h;subst h;exact ⟨rfl,fun i y h=>by simp at h⟩
 | x::l,m,h=>by
  unfold rnL at h
  split at h
  ·rename_i y m' h1 h2
   injection h with h;subst h
   obtain ⟨g1,g2⟩:=aex l m' h2
   refine ⟨by simp [g1],fun i z hz=> ?_⟩
   cases i with
   | zero=>simp at hz;subst hz;exact ⟨x,rfl,h1⟩
   | succ i=>simpa using g2 i z (by simpa using hz)
  ·cases h
theorem aew {x y:V}(h:rnS keep x=some y):y.plain=true:=by
 cases x <;> simp only [rnS] at h <;> first
  | (injection h with h;subst h;rfl)
  | (split at h <;> first | (injection h with h;subst h;rfl) | cases h)
  | cases h
theorem al4 {x y:V}(h:rnS keep x=some y)(hc:x.cap=true):y.cap=true:=by
 cases x <;> simp only [rnS] at h <;> first
  | (injection h with h;subst h;exact hc)
  | (split at h <;> first | (injection h with h;subst h;rfl) | cases h)
  | cases h
theorem al2 (hη:∀ i j v,ph keep i=some j→η[i]? =some v→η'[j]? =some v){x:V}{v:Value}(hx:Rel2 w B η x v):Rel2 w B η' (rnV keep x) v:=by
 unfold rnV
 split
 ·split
  ·rename_i m hm
   obtain ⟨cs,rfl,hl⟩:=Rel.aggL hx
   exact (Cr hη _ _ _ hm hl).toAgg
  ·trivial
 ·trivial
 ·split
  ·rename_i m hm
   obtain ⟨vs,h1,h2,h3⟩:=hx
   obtain ⟨g1,g2⟩:=aex _ _ hm
   refine ⟨vs,h1,by rw [h2,g1],fun i c hc=> ?_⟩
   obtain ⟨x,q1,q2⟩:=g2 i c hc
   obtain ⟨u,q3,q4,q5⟩:=h3 i x q1
   exact ⟨u,q3,al4 q2 q4,yC hη q2 q5⟩
  ·trivial
 ·trivial
 ·split
  ·rename_i j hj
   obtain ⟨b,h1,h2⟩:=hx
   exact ⟨b,hη _ _ _ hj h1,h2⟩
  ·trivial
 ·split
  ·rename_i y hy
   refine Rel2.of (aew hy) (yC hη hy ?_)
   refine hx.get ?_
   cases x <;> first | rfl | cases hy
  ·trivial
theorem afD {x:V}(h:fo (ex x)=true):∃ d l,x= .fre d l:=by
 cases x <;> first | exact ⟨_,_,rfl⟩ | cases h
theorem ahi {ds:List Deferred}{st:S2}{a:Act}(h:SimK n0 Bx ds st a w B η)(hnd:keep.Nodup):SimK n0 Bx ds (acV keep st) a w B (keep.map fun i=>η.getD i undef):=by
 have hη:∀ i j v,ph keep i=some j→η[i]? =some v→(keep.map fun i=>η.getD i undef)[j]? =some v:=fun i j v hp hv=>by
  rw [List.getElem?_map,xJ _ _ _ hp,DB,List.getD_eq_getElem?_getD,hv,C9]
 have key:∀ (j:Nat) e,(((acV keep st).heap.map exE))[j]? =some e→∃ i,keep[j]? =some i∧e=exE (rnE keep (st.heap.getD i .dead)):=fun j e he=>by
  simp only [acV,DD,List.getElem?_map,C7,Function.comp_apply] at he
  obtain ⟨i,hi,rfl⟩:=he
  exact ⟨i,hi,rfl⟩
 have live:∀ i,(exE (rnE keep (st.heap.getD i .dead))).live=true→∃ e,(st.heap.map exE)[i]? =some e∧e.live=true:=fun i hl=>by
  rw [List.getD_eq_getElem?_getD] at hl
  cases he:st.heap[i]? with
  | none=>rw [he] at hl;cases hl
  | some e=>
   rw [he,C9] at hl
   refine ⟨_,exH he, ?_⟩
   cases e with
   | dead=>cases hl
   | box l t=>rfl
   | own d l E=>rfl
   | itr s p=>rfl
 refine ⟨h.defers,⟨by simp [acV],h.inv.base,h.inv.sub,h.inv.lt,fun j e he=> ?_,fun i j ei ej hij hi hj hli hlj=> ?_⟩,h.slots.map _ rfl (fun x v hx=>al2 hη hx) (fun x v hf=> ?_)⟩
 ·obtain ⟨i,hi,rfl⟩:=key j e he
  have hj:(keep.map fun i=>η.getD i undef).getD j undef=η.getD i undef:=by
   rw [List.getD_eq_getElem?_getD,List.getElem?_map,hi];rfl
  cases hh:st.heap[i]? with
  | none=>
   have hd:st.heap.getD i .dead= .dead:=by rw [List.getD_eq_getElem?_getD,hh];rfl
   rw [hj,hd]
   trivial
  | some e0=>
   have hold:=h.inv.ent i _ (exH hh)
   have hd:st.heap.getD i .dead=e0:=by rw [List.getD_eq_getElem?_getD,hh];rfl
   rw [hj,hd]
   cases e0 with
   | dead=>trivial
   | box l t=>
    simp only [rnE]
    split
    ·rename_i m hm
     obtain ⟨b,us,p1,p2,p3,p4,p5,p6⟩:=hold
     exact ⟨b,us,p1,p2,p3,p4,p5,Cr hη _ _ _ hm p6⟩
    ·trivial
   | own d l E=>
    obtain ⟨n,us,p1,p2,p3,p4⟩:=hold
    exact ⟨n,us,p1,⟨p2.1,fun i x hi=>by
     obtain ⟨u,q1,q2⟩:=p2.2 i x hi
     exact ⟨u,q1,q2.bare0 (Dh.1 (fC d l) x (Da hi))⟩⟩,p3,p4⟩
   | itr s p=>exact hold
 ·obtain ⟨i',hi',rfl⟩:=key i ei hi
  obtain ⟨j',hj',rfl⟩:=key j ej hj
  obtain ⟨e1,q1,q2⟩:=live i' hli
  obtain ⟨e2,q3,q4⟩:=live j' hlj
  have hne:i'≠j':=fun hc=>by
   subst hc
   obtain ⟨g1,g2⟩:=List.getElem?_eq_some_iff.1 hi'
   obtain ⟨g3,g4⟩:=List.getElem?_eq_some_iff.1 hj'
   exact hij ((List.getElem_inj hnd).1 (g2.trans g4.symm))
  have e3:(keep.map fun i=>η.getD i undef).getD i undef=η.getD i' undef:=by rw [List.getD_eq_getElem?_getD,List.getElem?_map,hi'];rfl
  have e4:(keep.map fun i=>η.getD i undef).getD j undef=η.getD j' undef:=by rw [List.getD_eq_getElem?_getD,List.getElem?_map,hj'];rfl
  rw [e3,e4]
  exact h.inv.sep i' j' _ _ hne q1 q3 q2 q4
 ·intro hfr
  obtain ⟨d,l,hq⟩:=afD hfr
  have hx:x= .fre d l:=by
   cases x with
   | agg l=>simp only [rnV] at hq;split at hq <;> cases hq
   | clo f l=>simp only [rnV] at hq;split at hq <;> cases hq
   | bsl i n=>simp only [rnV] at hq;split at hq <;> cases hq
   | own i=>simp only [rnV,rnS] at hq;cases hp:ph keep i <;> simp only [hp] at hq <;> cases hq
   | box i o=>simp only [rnV,rnS] at hq;cases hp:ph keep i <;> simp only [hp] at hq <;> cases hq
   | boxi i off d n j o=>simp only [rnV,rnS] at hq;cases hp:ph keep i <;> simp only [hp] at hq <;> cases hq
   | oadr i d j o=>simp only [rnV,rnS] at hq;cases hp:ph keep i <;> simp only [hp] at hq <;> cases hq
   | fre d l=>exact hq
   | _=>simp only [rnV,rnS] at hq;cases hq
  subst hx
  exact hf rfl
def aeP (P:Program)(st:S2)(s:Nat)(e:TypeId):S2:=
 match st.slots[s]?,tdOf P 12 e with
 | some (.c (.slice none 0 0)),some d=>if 1≤wd d then ⟨st.slots.set s (.own st.heap.length),st.heap++[.own d [] e]⟩ else st
 | _,_=>st
theorem aeO {P:Program}{ds:List Deferred}{st:S2}{a:Act}(h:SimK n0 Bx ds st a w B η)(s:Nat)(e:TypeId):∃ η',SimK n0 Bx ds (aeP P st s e) a w B η'∧∀ (id:Nat) v,η[id]? =some v→η'[id]? =some v:=by
 unfold aeP
 split
 ·rename_i d hs htd
  split
  ·rename_i hw
   refine ⟨η++[.slice none 0 0],⟨h.defers, ?_, ?_⟩,aJ η _⟩
   ·refine ⟨by simp [h.inv.len],h.inv.base,h.inv.sub,h.inv.lt,fun i e' he=> ?_,fun i j ei ej hij hi hj hli hlj b hb=> ?_⟩
    ·rw [DN] at he
     rcases DM i st.heap.length with hi | hi
     ·rw [List.getElem?_append_left (by simpa using hi)] at he
      rw [az (by rw [h.inv.len];simpa using hi)]
      exact bH.keep (h.inv.ent i e' he) (On.refl B w) (fun _ h=>.inl h) (fun _ h=>h) (aJ η _) (fun _ _ _=>rfl)
     ·rw [List.getElem?_append_right (by simpa using hi)] at he
      have hz:i=st.heap.length:=by have:=(List.getElem?_eq_some_iff.1 he).1;simp at this;omega
      subst hz
      simp at he;subst he
      have hl:η.length=st.heap.length:=by simpa using h.inv.len
      rw [←hl,aB]
      exact ⟨0,[],eK.nil w n0 e (wd d),RelL.nil _ _ _,hw,fun b hb=>by cases hb⟩
    ·rw [DN] at hi hj
     have hl:η.length=st.heap.length:=by simpa using h.inv.len
     have part:∀ (i:Nat) (ei:Ent),(List.map exE st.heap++List.map exE [E2.own d [] e])[i]? =some ei→i<st.heap.length∧(st.heap.map exE)[i]? =some ei∨i=st.heap.length:=fun i ei hi=>by
      rcases DM i st.heap.length with hlt | hge
      ·rw [List.getElem?_append_left (by simpa using hlt)] at hi;exact .inl ⟨hlt,hi⟩
      ·rw [List.getElem?_append_right (by simpa using hge)] at hi
       exact .inr (by have:=(List.getElem?_eq_some_iff.1 hi).1;simp at this;omega)
     rcases part i ei hi with ⟨h1,h2⟩ | h1
     ·rw [az (by omega)] at hb
      rcases part j ej hj with ⟨h3,h4⟩ | h3
      ·rw [az (by omega)]
       exact h.inv.sep i j ei ej hij h2 h4 hli hlj b hb
      ·subst h3;rw [←hl,aB];intro hc;cases hc
     ·subst h1;rw [←hl,aB] at hb;cases hb
   ·have hv:=h.slots.rel s
    rw [List.getD_eq_getElem?_getD,hs,C9] at hv
    have hv:a.tmps.getD s undef= .slice none 0 0:=Du hv
    have hl:η.length=st.heap.length:=by simpa using h.inv.len
    have h1:=(h.slots.on (On.refl B w) (fun _ h=>.inl h) (aJ η (.slice none 0 0))).put (r:=.own st.heap.length) (v:=.slice none 0 0) (.own _ _ _ _ _ (by rw [←hl,List.getElem?_append_right (Dg _)];simp)) (fun h=>by cases h) s
    have h2:a.tmps.setIfInBounds s (.slice none 0 0)=a.tmps:=by
     have hlt:s<a.tmps.size:=by rw [←h.slots.size];exact (List.getElem?_eq_some_iff.1 hs).1
     rw [Dn,Array.getElem?_eq_getElem hlt,C9] at hv
     apply Array.ext (by simp)
     intro i hi1 hi2
     rw [Array.getElem_setIfInBounds]
     split
     ·rename_i hsi;subst hsi;exact hv.symm
     ·rfl
    rw [h2] at h1
    exact h1
  ·exact ⟨η,h,fun _ _ h=>h⟩
 ·exact ⟨η,h,fun _ _ h=>h⟩
def CZ (m0:Nat)(st:S2)(s:Nat):S2:=
 match st.slots[s]? with
 | some (.own i)=>if i<m0 then (match st.heap[i]? with
  | some (.own d l E)=>⟨st.slots.set s (.own st.heap.length),st.heap.set i .dead++[.own d l E]⟩
  | _=>st) else st
 | _=>st
theorem adh {m0:Nat}{ds:List Deferred}{st:S2}{a:Act}(h:SimK n0 Bx ds st a w B η)(s:Nat):∃ η',SimK n0 Bx ds (CZ m0 st s) a w B η'∧∀ (id:Nat) v,η[id]? =some v→η'[id]? =some v:=by
 unfold CZ
 split
 ·rename_i k hs
  split
  ·split
   ·rename_i d l E hH
    have hl:η.length=st.heap.length:=by simpa using h.inv.len
    have hk:k<st.heap.length:=(List.getElem?_eq_some_iff.1 hH).1
    refine ⟨η++[η.getD k undef],⟨h.defers, ?_, ?_⟩,aJ η _⟩
    ·have part:∀ (i:Nat) (ei:Ent),((st.heap.set k .dead++[E2.own d l E]).map exE)[i]? =some ei→(i<st.heap.length∧i≠k∧(st.heap.map exE)[i]? =some ei)∨(i=k∧ei= .dead)∨(i=st.heap.length∧ei=exE (.own d l E)):=fun i ei hi=>by
      rw [DN] at hi
      rcases DM i st.heap.length with hlt | hge
      ·rw [List.getElem?_append_left (by simpa using hlt),List.map_set,List.getElem?_set] at hi
       split at hi
       ·rename_i hik
        rw [if_pos (by simpa using hk)] at hi
        injection hi with hi
        exact .inr (.inl ⟨hik.symm,hi.symm⟩)
       ·rename_i hik
        exact .inl ⟨hlt,fun hc=>hik hc.symm,hi⟩
      ·rw [List.getElem?_append_right (by simpa using hge)] at hi
       have hz:i=st.heap.length:=by have:=(List.getElem?_eq_some_iff.1 hi).1;simp at this;omega
       subst hz
       simp at hi
       exact .inr (.inr ⟨rfl,hi.symm⟩)
     refine ⟨by simp [h.inv.len],h.inv.base,h.inv.sub,h.inv.lt,fun i e' he=> ?_,fun i j ei ej hij hi hj hli hlj b hb=> ?_⟩
     ·rcases part i e' he with ⟨h1,h2,h3⟩ | ⟨h1,rfl⟩ | ⟨rfl,rfl⟩
      ·rw [az (by omega)]
       exact bH.keep (h.inv.ent i e' h3) (On.refl B w) (fun _ h=>.inl h) (fun _ h=>h) (aJ η _) (fun _ _ _=>rfl)
      ·trivial
      ·rw [←hl,aB]
       exact bH.keep (h.inv.ent k _ (exH hH)) (On.refl B w) (fun _ h=>.inl h) (fun _ h=>h) (aJ η _) (fun _ _ _=>rfl)
     ·rcases part i ei hi with ⟨h1,h2,h3⟩ | ⟨h1,rfl⟩ | ⟨h1,rfl⟩
      ·rw [az (by omega)] at hb
       rcases part j ej hj with ⟨g1,g2,g3⟩ | ⟨g1,rfl⟩ | ⟨g1,rfl⟩
       ·rw [az (by omega)]
        exact h.inv.sep i j ei ej hij h3 g3 hli hlj b hb
       ·cases hlj
       ·subst g1;rw [←hl,aB]
        exact h.inv.sep i k ei _ h2 h3 (exH hH) hli rfl b hb
      ·cases hli
      ·subst h1
       rw [←hl,aB] at hb
       rcases part j ej hj with ⟨g1,g2,g3⟩ | ⟨g1,rfl⟩ | ⟨g1,rfl⟩
       ·rw [az (by omega)]
        exact h.inv.sep k j _ ej (fun hc=>g2 hc.symm) (exH hH) g3 rfl hlj b hb
       ·cases hlj
       ·exact absurd g1.symm hij
    ·have hv:=h.slots.rel s
     rw [List.getD_eq_getElem?_getD,hs,C9] at hv
     have hv:Rel w B η (.own k) (a.tmps.getD s undef):=hv
     generalize hav:a.tmps.getD s undef=u0 at hv
     cases hv with
     | own _ _ a0 n c hid=>
      have hg:η.getD k undef= .slice a0 n c:=by rw [List.getD_eq_getElem?_getD,hid];rfl
      have h1:=(h.slots.on (On.refl B w) (fun _ h=>.inl h) (aJ η (η.getD k undef))).put (r:=.own st.heap.length) (v:=.slice a0 n c) (.own _ _ _ _ _ (by rw [←hl,List.getElem?_append_right (Dg _),hg];simp)) (fun h=>by cases h) s
      have h2:a.tmps.setIfInBounds s (.slice a0 n c)=a.tmps:=by
       have hlt:s<a.tmps.size:=by rw [←h.slots.size];exact (List.getElem?_eq_some_iff.1 hs).1
       have hav':a.tmps.getD s undef= .slice a0 n c:=hav
       rw [Dn,Array.getElem?_eq_getElem hlt,C9] at hav'
       apply Array.ext (by simp)
       intro i hi1 hi2
       rw [Array.getElem_setIfInBounds]
       split
       ·rename_i hsi;subst hsi;exact hav'.symm
       ·rfl
      rw [h2] at h1
      exact h1
   ·exact ⟨η,h,fun _ _ h=>h⟩
  ·exact ⟨η,h,fun _ _ h=>h⟩
 ·exact ⟨η,h,fun _ _ h=>h⟩
end
end Go.Proofs.YtolkfnemdejonaaGreatDoor
namespace Go.Proofs.YtolkfnemdejonaaGreatDoor
set_option maxRecDepth 100000
open Go.RowKit
set_option linter.unusedVariables false
def xO:List (Nat×List V):=[
 (2,[.arr (.pair (.int .u8) (.int .u8)) 16 ⟨[(128,191),(160,191),(128,159),(144,191),(128,143),(0,0),(0,0),(0,0),(0,0),(0,0),(0,0),(0,0),(0,0),(0,0),(0,0),(0,0)],rfl⟩]),
 (1,[.arr (.int .u8) 256 ⟨[240,240,240,240,240,240,240,240,240,240,240,240,240,240,240,240,240,240,240,240,240,240,240,240,240,240,240,240,240,240,240,240,240,240,240,240,240,240,240,240,240,240,240,240,240,240,240,240,240,240,240,240,240,240,240,240,240,240,240,240,240,240,240,240,240,240,240,240,240,240,240,240,240,240,240,240,240,240,240,240,240,240,240,240,240,240,240,240,240,240,240,240,240,240,240,240,240,240,240,240,240,240,240,240,240,240,240,240,240,240,240,240,240,240,240,240,240,240,240,240,240,240,240,240,240,240,240,240,241,241,241,241,241,241,241,241,241,241,241,241,241,241,241,241,241,241,241,241,241,241,241,241,241,241,241,241,241,241,241,241,241,241,241,241,241,241,241,241,241,241,241,241,241,241,241,241,241,241,241,241,241,241,241,241,241,241,241,241,241,241,241,241,241,241,2,2,2,2,2,2,2,2,2,2,2,2,2,2,2,2,2,2,2,2,2,2,2,2,2,2,2,2,2,2,19,3,3,3,3,3,3,3,3,3,3,3,3,35,3,3,52,4,4,4,68,241,241,241,241,241,241,241,241,241,241,241],rfl⟩]),
 (0,[.arr (.arr 4 (.int .i64)) 3 ⟨[⟨[3,7,11,19],rfl⟩,⟨[3,5,9,13],rfl⟩,⟨[3,9,11,15],rfl⟩],rfl⟩]),
 (3,[.arr (.int .i64) 16 ⟨[0,8,4,12,2,10,6,14,1,9,5,13,3,11,7,15],rfl⟩]),
 (5,[.arr (.int .i64) 4 ⟨[1,2,9,16],rfl⟩]),
]
def amI (g:Nat):Option (List V):=(xO.find? (·.1==g)).map (·.2)
theorem afi:xO.map (fun p=>(p.1,aD p.2))=afg.map (fun p=>(p.1,p.2.map AV.c)):=by kernel_rfl
theorem afj {w:World}{B:List Nat}{η:List Value}{g:Nat}{l:List V}(h:GlobOK w B)(hl:amI g=some l):Rel2 w B η (.adr l) (.pointer (some ⟨g,0,none⟩)):=by
 unfold amI at hl
 rw [C7] at hl
 obtain ⟨p,hp,rfl⟩:=hl
 have h1:=List.mem_of_find?_eq_some hp
 have h2:=List.find?_some hp
 simp only [beq_iff_eq] at h2
 have h3:(p.1,aD p.2)∈afg.map (fun p=>(p.1,p.2.map AV.c)):=by
  rw [←afi]
  exact List.mem_map.2 ⟨p,h1,rfl⟩
 obtain ⟨q,q1,q2⟩:=List.mem_map.1 h3
 injection q2 with q3 q4
 have h4:=h.tab q.1 q.2 q1
 rw [q3,h2,q4] at h4
 exact h4.any
end Go.Proofs.YtolkfnemdejonaaGreatDoor
namespace Go.Proofs.YtolkfnemdejonaaGreatDoor
set_option maxRecDepth 100000
open Go.RowKit
set_option linter.unusedVariables false
set_option linter.unusedSimpArgs false
structure Goes (n0:Nat) (Bx:List Nat) (m0:Nat) (w:World) (B:List Nat) (η:List Value) (w':World) (B':List Nat) (η':List Value):Prop where
 on:On B w w'
 hB:∀ b∈B',b∈B∨w.heap.size≤b
 hη:∀ (id:Nat) v,id<m0→η[id]? =some v→η'[id]? =some v
 below:Bel n0 Bx w w'
theorem Goes.refl (n0:Nat)(Bx:List Nat)(m0:Nat)(w:World)(B:List Nat)(η:List Value):Goes n0 Bx m0 w B η w B η:=⟨On.refl B w,fun _ h=>.inl h,fun _ _ _ h=>h,Bel.refl _ _ _⟩
theorem Goes.trans {n0:Nat}{Bx:List Nat}{m0:Nat}{a b c:World}{B B' B'':List Nat}{η η' η'':List Value}(h:Goes n0 Bx m0 a B η b B' η')(k:Goes n0 Bx m0 b B' η' c B'' η''):Goes n0 Bx m0 a B η c B'' η'':=
 ⟨h.on.trans k.on h.hB,fun x hx=>(k.hB x hx).elim (fun hx=>h.hB x hx) (fun hx=>.inr (Nat.le_trans h.on.size hx)),fun id v hi hv=>k.hη id v hi (h.hη id v hi hv),h.below.trans k.below⟩
structure Env (R:Type) where
 fns:Fns R
 inl:FuncId→Bool
 lp:List Nat→Nat→Nat→S2→(Exit→S2→Tree R)→Tree R
 mv:List Nat→Nat→Bool×Bool
 cln:FuncId→Option TypeId
 scl:FuncId→Bool
 un:List Nat→Nat→Bool
 mth:FuncId→Option (List V→List E2→(V→List E2→Tree R)→Tree R)
def opV (sl:List V):Operand→V
 | .tmp t=>sl.getD t .any
 | .const v=>fg v
 | .global g=>(match amI g with | some l=>.adr l | none=>.c (.pointer (some ⟨g,0,none⟩)))
 | .func f=>.clo f []
def setV (sl:List V)(d:Option Tmp)(r:V):List V:=match d with | some t=>sl.set t r | none=>sl
def ahw (mv:Bool×Bool):Op→List Operand
 | .slice _ x _ _ _=>if mv.1=true then [] else [x]
 | .call ⟨.builtin .append,⟨[_,x]⟩,_⟩=>[x]
 | .call ⟨.value _,args,_⟩=>if mv.1=true then [] else args.toList
 | .convert _ _ x=>[x]
 | .sliceToArrayPointer _ x=>[x]
 | .call ⟨.builtin .copy,⟨[_,x]⟩,_⟩=>[x]
 | .buildSlice _ _ parts=>parts.toList.map (·.2)
 | .assign x=>if mv.1=true∧mv.2=true then [x] else []
 | .store _ _ x=>if mv.1=true∧mv.2=true then [x] else []
 | _=>[]
def jw:V→List Nat
 | .own i=>[i]
 | .agg l=>l.filterMap fun | .own i=>some i | _=>none
 | _=>[]
def jx:List Nat→S2→S2
 | [],st=>st
 | i::l,st=>jx l (freeze st i)
def aa9 (mv:Bool×Bool):Op→List Operand
 | .slice _ x _ _ none=>if mv.1=true then [] else [x]
 | _=>[]
def alq (mv:Bool×Bool)(ops:Array Oper):List Operand:=ops.toList.flatMap fun o=>match o.op with
 | .slice _ (.tmp t) _ _ none=>if mv.1=true then [] else ops.toList.flatMap fun q=>match q.op with
  | .fieldAddr _ y _=>if q.dst==some t then [y] else []
  | _=>[]
 | _=>[]
def abC:V→List Nat
 | .box i _=>[i]
 | _=>[]
def ahQ:List Nat→S2→S2
 | [],st=>st
 | i::l,st=>ahQ l (aal st i)
def amK (mv:Bool×Bool)(o:Op)(st:S2):S2:=ahQ ((aa9 mv o).flatMap fun x=>abC (opV st.slots x)) (jx ((ahw mv o).flatMap fun x=>jw (opV st.slots x)) st)
section
variable {R:Type}
def Cb (ops:Array Oper)(sl:List V)(o:Oper)(yes no:List V→Tree R):Tree R:=
 match o.guard with
 | none=>yes sl
 | some (g,want)=>match (ops[g]?).bind (·.dst) with
  | some d=>match sl[d]? with
   | some (.c (.bool b))=>.ite b (if want=true then yes (sl.set d (.c (.bool true))) else no (sl.set d (.c (.bool true)))) (if want=true then no (sl.set d (.c (.bool false))) else yes (sl.set d (.c (.bool false))))
   | some (.c (.tuple _))=>no sl
   | _=>.fail
  | none=>.fail
theorem AE {α:Type}{l:List α}{d:Nat}{x:α}(h:l[d]? =some x):l.set d x=l:=by
 apply List.ext_getElem?
 intro i
 rw [List.getElem?_set]
 split
 ·rename_i hi
  subst hi
  rw [if_pos (List.getElem?_eq_some_iff.1 h).1,h]
 ·rfl
def kE (ops:Array Oper)(o:Oper):Option Tmp:=match o.guard with
 | some (g,_)=>(ops[g]?).bind (·.dst)
 | none=>none
theorem rt {ops:Array Oper}{sl:List V}{o:Oper}{yes no:List V→Tree R}{res:R}(h:(Cb ops sl o yes no).run=some res):
  ∃ b:Bool,((if b=true then yes sl else no sl)).run=some res∧∀ (w:World) (B:List Nat) (η:List Value) (tmps:Array Value),sl.length=tmps.size→(∀ d,kE ops o=some d→Rel2 w B η (sl.getD d .any) (tmps.getD d undef))→Region.wanted o (yielded ops tmps)=b:=by
 unfold Cb at h
 split at h
 ·rename_i hg
  exact ⟨true,by simpa using h,fun w B η tmps hsz ht=>by simp [Region.wanted,hg]⟩
 ·rename_i g want hg
  split at h
  ·rename_i d hd
   have slot:∀ (v:Value),sl[d]? =some (.c v)→∀ (w:World) (B:List Nat) (η:List Value) (tmps:Array Value),sl.length=tmps.size→(∀ d,kE ops o=some d→Rel2 w B η (sl.getD d .any) (tmps.getD d undef))→tmps[d]? =some v:=fun v hv w B η tmps hsz ht=>by
    have hr:=ht d (by simp [kE,hg,hd])
    rw [List.getD_eq_getElem?_getD,hv,C9] at hr
    have hr:=Du hr
    have hlt:d<tmps.size:=by rw [←hsz];exact (List.getElem?_eq_some_iff.1 hv).1
    rw [Dn,Array.getElem?_eq_getElem hlt,C9] at hr
    rw [Array.getElem?_eq_getElem hlt,hr]
   split at h
   ·rename_i b hv
    have key:∀ (w:World) (B:List Nat) (η:List Value) (tmps:Array Value),sl.length=tmps.size→(∀ d,kE ops o=some d→Rel2 w B η (sl.getD d .any) (tmps.getD d undef))→Region.wanted o (yielded ops tmps)=(b==want):=fun w B η tmps hsz ht=>by
     simp [Region.wanted,hg,yielded,hd,slot _ hv w B η tmps hsz ht]
    rcases C6 h with ⟨hb,h1⟩ | ⟨hb,h1⟩
    ·clear h
     subst hb
     rw [AE hv] at h1
     refine ⟨want, ?_,fun w B η tmps hsz ht=>by rw [key w B η tmps hsz ht];cases want <;> rfl⟩
     cases want <;> simpa using h1
    ·clear h
     subst hb
     rw [AE hv] at h1
     refine ⟨!want, ?_,fun w B η tmps hsz ht=>by rw [key w B η tmps hsz ht];cases want <;> rfl⟩
     cases want <;> simpa using h1
   ·rename_i hv
    refine ⟨false,by simpa using h,fun w B η tmps hsz ht=>by simp [Region.wanted,hg,yielded,hd,slot _ hv w B η tmps hsz ht]⟩
   ·cases h
  ·cases h
theorem fx {n0 m0:Nat}{Bx:List Nat}{ds:List Deferred}{a:Act}{w:World}{η:List Value}:∀ (l:List Nat) (st:S2) (B:List Nat),SimK n0 Bx ds st a w B η→∃ B',SimK n0 Bx ds (jx l st) a w B' η∧Goes n0 Bx m0 w B η w B' η
 | [],st,B,h=>⟨B,h,Goes.refl _ _ _ _ _ _⟩
 | i::l,st,B,h=>by
  obtain ⟨B1,h1,h2⟩:=afp h i
  obtain ⟨B2,h3,h4⟩:=fx (m0:=m0) l _ B1 h2
  exact ⟨B2,h3,(⟨On.refl B w,fun b hb=>.inl (h1 b hb),fun _ _ _ h=>h,Bel.refl _ _ _⟩:Goes n0 Bx m0 w B η w B1 η).trans h4⟩
theorem zw {n0 m0:Nat}{Bx:List Nat}{ds:List Deferred}{a:Act}{w:World}{η:List Value}:∀ (l:List Nat) (st:S2) (B:List Nat),SimK n0 Bx ds st a w B η→∃ B',SimK n0 Bx ds (ahQ l st) a w B' η∧Goes n0 Bx m0 w B η w B' η
 | [],st,B,h=>⟨B,h,Goes.refl _ _ _ _ _ _⟩
 | i::l,st,B,h=>by
  obtain ⟨B1,h1,h2⟩:=adp h i
  obtain ⟨B2,h3,h4⟩:=zw (m0:=m0) l _ B1 h2
  exact ⟨B2,h3,(⟨On.refl B w,fun b hb=>.inl (h1 b hb),fun _ _ _ h=>h,Bel.refl _ _ _⟩:Goes n0 Bx m0 w B η w B1 η).trans h4⟩
theorem abh {n0 m0:Nat}{Bx:List Nat}{ds:List Deferred}{a:Act}{w:World}{η:List Value}(mv:Bool×Bool)(o:Op)(st:S2)(B:List Nat)(h:SimK n0 Bx ds st a w B η):∃ B',SimK n0 Bx ds (amK mv o st) a w B' η∧Goes n0 Bx m0 w B η w B' η:=by
 obtain ⟨B1,h1,h2⟩:=fx (m0:=m0) ((ahw mv o).flatMap fun x=>jw (opV st.slots x)) st B h
 obtain ⟨B2,h3,h4⟩:=zw (m0:=m0) ((aa9 mv o).flatMap fun x=>abC (opV st.slots x)) _ B1 h1
 exact ⟨B2,h3,h2.trans h4⟩
def arw (ops:Array Oper)(x:Operand):List Operand:=match x with
 | .tmp t=>x::ops.toList.flatMap fun q=>match q.op with
  | .move y=>if q.dst==some t then [y] else []
  | _=>[]
 | x=>[x]
def alx (mv:Bool×Bool)(ops:Array Oper)(st:S2):S2:=ahQ ((alq mv ops++ops.toList.flatMap fun o=>aa9 mv o.op).flatMap fun x=>abC (opV st.slots x)) (jx (((ops.toList.flatMap fun o=>ahw mv o.op).flatMap (arw ops)).flatMap fun x=>jw (opV st.slots x)) st)
theorem BG {n0 m0:Nat}{Bx:List Nat}{ds:List Deferred}{a:Act}{w:World}{η:List Value}(mv:Bool×Bool)(ops:Array Oper)(st:S2)(B:List Nat)(h:SimK n0 Bx ds st a w B η):∃ B',SimK n0 Bx ds (alx mv ops st) a w B' η∧Goes n0 Bx m0 w B η w B' η:=by
 obtain ⟨B1,h1,h2⟩:=fx (m0:=m0) (((ops.toList.flatMap fun o=>ahw mv o.op).flatMap (arw ops)).flatMap fun x=>jw (opV st.slots x)) st B h
 obtain ⟨B2,h3,h4⟩:=zw (m0:=m0) ((alq mv ops++ops.toList.flatMap fun o=>aa9 mv o.op).flatMap fun x=>abC (opV st.slots x)) _ B1 h1
 exact ⟨B2,h3,h2.trans h4⟩
theorem CN {n0:Nat}{w:World}{B:List Nat}{η:List Value}{sl:List V}(hgl:GlobOK w B)(g:Nat):Rel2 w B η (opV sl (.global g)) (.pointer (some ⟨g,0,none⟩))∧aM n0 (ex (opV sl (.global g))) (.pointer (some ⟨g,0,none⟩)):=by
 simp only [opV]
 split
 ·rename_i l hl
  exact ⟨afj hgl hl,fun h=>by cases h⟩
 ·exact ⟨.c _ _,fun h=>by cases h⟩
theorem vn {n0:Nat}{w:World}{B:List Nat}{η:List Value}{sl:List V}{a:Act}(h:SlotsK n0 w B η sl a.tmps)(hgl:GlobOK w B)(x:Operand):Rel2 w B η (opV sl x) (a.eval x)∧aM n0 (ex (opV sl x)) (a.eval x):=by
 cases x with
 | tmp t=>exact ⟨h.rel t,h.fresh t⟩
 | const v=>
  refine ⟨Rel2.of (pM v) ?_,fun h=> ?_⟩
  ·show Rel w B η (ex (fg v)) v
   rw [nl];exact .c _ _
  ·simp only [opV,nl,fo] at h;cases h
 | global g=>exact CN hgl g
 | func f=>exact ⟨⟨[],rfl,rfl,fun i c h=>by simp at h⟩,fun h=>by cases h⟩
abbrev ss (R:Type):=FuncId→List V→List E2→(V→List E2→Tree R)→Tree R
def aaJ (n0:Nat)(w:World)(B:List Nat)(η:List Value)(args:List V)(cargs:List Value):Prop:=cargs.length=args.length∧∀ (i:Nat) x,args[i]? =some x→∃ v,cargs[i]? =some v∧Rel2 w B η x v∧aM n0 (ex x) v
structure CallIOK (P:Program) (C:ss R):Prop where
 ok:∀ f args H k res,(C f args H k).run=some res→∃ r H',(k r H').run=some res∧(∃ fn,P.funcs[f]? =some fn∧fn.name≠ "runtime.NumGoroutine" ∧fn.body≠none)∧
  ∀ (n0:Nat) (Bx:List Nat) (w:World) (B:List Nat) (η:List Value) (cargs:List Value),Inv n0 Bx w B η (H.map exE)→aaJ n0 w B η args cargs→
   Calls P f cargs.toArray w fun e w'=>∃ v B' η',e= .returned v∧Goes n0 Bx H.length w B η w' B' η'∧Inv n0 Bx w' B' η' (H'.map exE)∧Rel2 w' B' η' r v∧aM n0 (ex r) v
def am5 (Γ:Env R)(f:FuncId)(xs:List V)(H:List E2)(k:V→List E2→Tree R):Tree R:=
 match jx (xs.flatMap jw) ⟨xs,H⟩ with
 | ⟨ys,H1⟩=>if ys.all zr=true then Γ.fns f (ys.map argV) fun r=>k r H1 else .fail
theorem aic {P:Program}{Γ:Env R}(hF:FnsOK P Γ.fns){f:FuncId}{args:Array Operand}{ts:Array TypeId}{sl:List V}{H:List E2}{o:Oper}{k:V→List E2→Tree R}{res:R}(ho:o.op= .call ⟨.value (.func f),args,ts⟩)(h:(am5 Γ f (args.toList.map (opV sl)) H k).run=some res):
  ∃ r H',(k r H').run=some res∧∀ (n0:Nat) (Bx:List Nat) (w:World) (B:List Nat) (η:List Value) (ρv:Operand→Value),(∀ f,ρv (.func f)= .func (.func f) #[] #[])→Inv n0 Bx w B η (H.map exE)→(∀ x∈o.op.operands,Rel2 w B η (opV sl x) (ρv x)∧aM n0 (ex (opV sl x)) (ρv x))→OpS2 P n0 Bx w ρv o B η r H':=by
 unfold am5 at h
 split at h
 rename_i ys H1 hst
 split at h
 ·rename_i himm
  obtain ⟨r,h1,h2,h3,h4⟩:=hF.ok _ _ _ _ h
  refine ⟨r,H1,h1,fun n0 Bx w B η ρv hfv inv he N hN=>gx ho (hfv f) ?_⟩
  have hmem:∀ y∈args.toList,y∈o.op.operands:=fun y hy=>by simp [ho,gt,Dj];exact .inr (by simpa using hy)
  have hs:SimK n0 Bx [] ⟨args.toList.map (opV sl),H⟩ { tmps:=args.map ρv,defers:=[] } w B η:=by
   refine ⟨rfl,inv,⟨by simp,fun t=> ?_,fun t=> ?_⟩⟩
   all_goals
    simp only [List.getD_eq_getElem?_getD,Dn,List.getElem?_map,Array.getElem?_map]
    rcases DM t args.size with ht | ht
    ·have e1:args[t]? =some args[t]:=Array.getElem?_eq_getElem ht
     have e2:args.toList[t]? =some args[t]:=by rw [Array.getElem?_toList];exact e1
     have hm:=he args[t] (hmem _ (Da e2))
     simp only [e1,e2,DB,C9]
     first | exact hm.1 | exact hm.2
    ·have e1:args[t]? =none:=Array.getElem?_eq_none ht
     have e2:args.toList[t]? =none:=by rw [Array.getElem?_toList];exact e1
     simp only [e1,e2,Option.map_none,Option.getD_none]
     first | trivial | (intro hc;cases hc)
  obtain ⟨B1,hs1,hg1⟩:=fx (m0:=0) ((args.toList.map (opV sl)).flatMap jw) _ B hs
  rw [hst] at hs1
  have hsz:ys.length=args.size:=by have:=hs1.slots.size;simpa using this
  have hcall:=h4 w B1 (args.toList.map ρv) hs1.inv.lt hs1.inv.base.2 (by simp [hsz]) (fun i x hx=>by
   rw [List.getElem?_map,C7] at hx
   obtain ⟨y,hy,rfl⟩:=hx
   have hi:=Dh.1 himm y (Da hy)
   have hlt:i<args.size:=by rw [←hsz];exact (List.getElem?_eq_some_iff.1 hy).1
   have hr:=hs1.slots.rel i
   simp only [List.getD_eq_getElem?_getD,hy,C9,Dn,Array.getElem?_map,Array.getElem?_eq_getElem hlt,DB] at hr
   exact ⟨ρv args[i],by simp [hlt],rN hi (hr.get (kD hi))⟩) N (fun v w' g2 g3=>hN v w' B1 η (On.gr g2) (fun b hb=>hg1.hB b hb) (fun _ _ h=>h) (Gr.bel g2 inv.base.1) (hs1.inv.gr g2) (Rel2.of h2 g3.any) (fun hfr=>by generalize ex r=y at h3 hfr;cases y <;> first | exact absurd rfl (h3 _ _) | cases hfr))
  have hargs:(args.toList.map ρv).toArray=args.map ρv:=by apply DJ;simp
  rw [hargs] at hcall
  exact hcall
 ·cases h
def scaV:V→Bool
 | .c _=>true
 | .tup l=>l.all fun x=>match x with | .c _=>true | _=>false
 | _=>false
theorem ahc {r:V}(h:scaV r=true){w:World}{B B':List Nat}{η η':List Value}{v:Value}(hr:Rel w B η (ex r) v):Rel w B' η' (ex r) v:=by
 cases r with
 | c u=>have:=Du hr;subst this;exact .c _ _
 | tup l=>
  have hr:Rel w B η (.tup (l.map ex0)) v:=hr
  show Rel w B' η' (.tup (l.map ex0)) v
  cases hr with
  | tup _ _ cs us hs hu hq=>
   refine .tup _ _ cs us hs hu (fun i x hx=> ?_)
   have h0:=hq i x hx
   rw [List.getElem?_map,C7] at hx
   obtain ⟨y,hy,rfl⟩:=hx
   have h1:=Dh.1 h y (Da hy)
   cases y with
   | c u=>
    have h0:Rel w B η (.c u) (us i):=h0
    have e:=Du h0
    rw [e]
    exact .c _ _
   | _=>cases h1
 | _=>cases h
def am4 (Γ:Env R)(f:FuncId)(xs:List V)(H:List E2)(k:V→List E2→Tree R):Tree R:=
 match jx (xs.flatMap jw) ⟨xs,H⟩ with
 | ⟨ys,H1⟩=>if ys.all zr=true then Γ.fns f (ys.map argV) fun r=>if scaV r=true then k r H else .fail else .fail
theorem aib {P:Program}{Γ:Env R}(hF:FnsOK P Γ.fns){f:FuncId}{args:Array Operand}{ts:Array TypeId}{sl:List V}{H:List E2}{o:Oper}{k:V→List E2→Tree R}{res:R}(ho:o.op= .call ⟨.value (.func f),args,ts⟩)(h:(am4 Γ f (args.toList.map (opV sl)) H k).run=some res):
  ∃ r H',(k r H').run=some res∧∀ (n0:Nat) (Bx:List Nat) (w:World) (B:List Nat) (η:List Value) (ρv:Operand→Value),(∀ f,ρv (.func f)= .func (.func f) #[] #[])→Inv n0 Bx w B η (H.map exE)→(∀ x∈o.op.operands,Rel2 w B η (opV sl x) (ρv x)∧aM n0 (ex (opV sl x)) (ρv x))→OpS2 P n0 Bx w ρv o B η r H':=by
 unfold am4 at h
 split at h
 rename_i ys H1 hst
 split at h
 ·rename_i himm
  obtain ⟨r,h1,h2,h3,h4⟩:=hF.ok _ _ _ _ h
  split at h1
  case isFalse=>cases h1
  rename_i hsca
  refine ⟨r,H,h1,fun n0 Bx w B η ρv hfv inv he N hN=>gx ho (hfv f) ?_⟩
  have hmem:∀ y∈args.toList,y∈o.op.operands:=fun y hy=>by simp [ho,gt,Dj];exact .inr (by simpa using hy)
  have hs:SimK n0 Bx [] ⟨args.toList.map (opV sl),H⟩ { tmps:=args.map ρv,defers:=[] } w B η:=by
   refine ⟨rfl,inv,⟨by simp,fun t=> ?_,fun t=> ?_⟩⟩
   all_goals
    simp only [List.getD_eq_getElem?_getD,Dn,List.getElem?_map,Array.getElem?_map]
    rcases DM t args.size with ht | ht
    ·have e1:args[t]? =some args[t]:=Array.getElem?_eq_getElem ht
     have e2:args.toList[t]? =some args[t]:=by rw [Array.getElem?_toList];exact e1
     have hm:=he args[t] (hmem _ (Da e2))
     simp only [e1,e2,DB,C9]
     first | exact hm.1 | exact hm.2
    ·have e1:args[t]? =none:=Array.getElem?_eq_none ht
     have e2:args.toList[t]? =none:=by rw [Array.getElem?_toList];exact e1
     simp only [e1,e2,Option.map_none,Option.getD_none]
     first | trivial | (intro hc;cases hc)
  obtain ⟨B1,hs1,hg1⟩:=fx (m0:=0) ((args.toList.map (opV sl)).flatMap jw) _ B hs
  rw [hst] at hs1
  have hsz:ys.length=args.size:=by have:=hs1.slots.size;simpa using this
  have hcall:=h4 w B1 (args.toList.map ρv) hs1.inv.lt hs1.inv.base.2 (by simp [hsz]) (fun i x hx=>by
   rw [List.getElem?_map,C7] at hx
   obtain ⟨y,hy,rfl⟩:=hx
   have hi:=Dh.1 himm y (Da hy)
   have hlt:i<args.size:=by rw [←hsz];exact (List.getElem?_eq_some_iff.1 hy).1
   have hr:=hs1.slots.rel i
   simp only [List.getD_eq_getElem?_getD,hy,C9,Dn,Array.getElem?_map,Array.getElem?_eq_getElem hlt,DB] at hr
   exact ⟨ρv args[i],by simp [hlt],rN hi (hr.get (kD hi))⟩) N (fun v w' g2 g3=>hN v w' B η (On.gr g2) (fun b hb=>.inl hb) (fun _ _ h=>h) (Gr.bel g2 inv.base.1) (inv.gr g2) (Rel2.of h2 (ahc hsca g3)) (fun hfr=>by generalize ex r=y at h3 hfr;cases y <;> first | exact absurd rfl (h3 _ _) | cases hfr))
  have hargs:(args.toList.map ρv).toArray=args.map ρv:=by apply DJ;simp
  rw [hargs] at hcall
  exact hcall
 ·cases h
def neB:Operand→Operand→Bool
 | .tmp i,.tmp j=>i !=j
 | .const _,.tmp _=>true
 | _,_=>false
theorem arM {s x:Operand}(h:neB s x=true):s≠x:=fun e=>by
 subst e
 cases s <;> simp [neB] at h
def appO (P:Program)(sl:List V)(H:List E2)(s x:Operand)(t:TypeId)(k:V→List E2→Tree R):Tree R:=
 match jx (jw (opV sl x)) ⟨[opV sl s,opV sl x],H⟩ with
 | ⟨[s',x'],H1⟩=>if s'.plain=true∧x'.plain=true then pU P H1 t s' x' k else .fail
 | _=>.fail
theorem ane {P:Program}{sl:List V}{H:List E2}{o:Oper}{s x:Operand}{t:TypeId}{k:V→List E2→Tree R}{res:R}(hne:s≠x)(ho:o.op= .call ⟨.builtin .append, #[s,x], #[t,t]⟩)(h:(appO P sl H s x t k).run=some res):
  ∃ r H',(k r H').run=some res∧∀ (n0:Nat) (Bx:List Nat) (w:World) (B:List Nat) (η:List Value) (ρv:Operand→Value),(∀ f,ρv (.func f)= .func (.func f) #[] #[])→Inv n0 Bx w B η (H.map exE)→(∀ x∈o.op.operands,Rel2 w B η (opV sl x) (ρv x)∧aM n0 (ex (opV sl x)) (ρv x))→OpS2 P n0 Bx w ρv o B η r H':=by
 classical
 unfold appO at h
 split at h
 ·rename_i s' x' H1 hst
  split at h
  ·rename_i hpl
   obtain ⟨hp1,hp2⟩:=hpl
   obtain ⟨ρ',hρ⟩:∃ ρ':Operand→V,ρ'=fun y=>if y=s then s' else if y=x then x' else .any:=⟨_,rfl⟩
   have e1:ρ' s=s':=by rw [hρ];simp
   have e2:ρ' x=x':=by rw [hρ];simp [Ne.symm hne]
   have hops:∀ y∈o.op.operands,y=s∨y=x:=fun y hy=>by
    rw [ho] at hy
    simpa [gt,Dj] using hy
   have hp:cn ρ' o:=fun y hy=>by
    rcases hops y hy with rfl | rfl
    ·rw [e1];exact hp1
    ·rw [e2];exact hp2
   obtain ⟨r,H',h1,h2⟩:=ye (ρ:=ρ') hp ho (by rw [e1,e2];exact h)
   refine ⟨r,H',h1,fun n0 Bx w B η ρv hfv inv he N hN=> ?_⟩
   have hs:SimK n0 Bx [] ⟨[opV sl s,opV sl x],H⟩ { tmps:= #[ρv s,ρv x],defers:=[] } w B η:=by
    have q1:=he s (by simp [ho,gt,Dj])
    have q2:=he x (by simp [ho,gt,Dj])
    refine ⟨rfl,inv,⟨rfl,fun t=> ?_,fun t=> ?_⟩⟩
    ·match t with
     | 0=>exact q1.1
     | 1=>exact q2.1
     | _+2=>trivial
    ·match t with
     | 0=>exact q1.2
     | 1=>exact q2.2
     | _+2=>exact fun hc=>by cases hc
   obtain ⟨B1,hs1,hg1⟩:=fx (m0:=0) (jw (opV sl x)) _ B hs
   rw [hst] at hs1
   have he':∀ y∈o.op.operands,Rel2 w B1 η (ρ' y) (ρv y)∧aM n0 (ex (ρ' y)) (ρv y):=fun y hy=>by
    rcases hops y hy with rfl | rfl
    ·rw [e1];exact ⟨hs1.slots.rel 0,hs1.slots.fresh 0⟩
    ·rw [e2];exact ⟨hs1.slots.rel 1,hs1.slots.fresh 1⟩
   exact h2 n0 Bx w B1 η ρv hs1.inv he' N (fun v w' B' η' g1 g2 g3 g4 g5 g6 g7=>hN v w' B' η' (hg1.on.trans g1 (fun b hb=>hg1.hB b hb)) (fun b hb=>(g2 b hb).elim (fun h=>hg1.hB b h) .inr) g3 g4 g5 g6 g7)
  ·cases h
 ·cases h
def evI (P:Program)(Γ:Env R)(C:ss R)(mv:Bool×Bool)(st:S2)(o:Op)(k:V→List E2→Tree R):Tree R:=
 match o with
 | .call ⟨.value (.func f),args,ts⟩=>if Γ.inl f=true then C f (args.toList.map (opV st.slots)) st.heap k else if Γ.scl f=true∧mv.1=true then am4 Γ f (args.toList.map (opV st.slots)) st.heap k else am5 Γ f (args.toList.map (opV st.slots)) st.heap k
 | .call ⟨.value (.tmp t),args,_⟩=>(match st.slots.getD t .any with
  | .clo f caps=>if Γ.inl f=true then C f (args.toList.map (opV st.slots)++caps) st.heap k
   else if caps.isEmpty=true∧args.toList.all (fun x=>zr (opV st.slots x))=true then Γ.fns f (args.toList.map fun x=>argV (opV st.slots x)) fun r=>k r st.heap else .fail
  | _=>.fail)
 | .call ⟨.builtin .append,⟨[s,x]⟩,⟨[t,t']⟩⟩=>(match opV st.slots x with
  | .own _=>if neB s x=true∧t=t' then appO P st.slots st.heap s x t k else .fail
  | _=>evS2 P Γ.fns mv st.heap (opV st.slots) (.call ⟨.builtin .append,⟨[s,x]⟩,⟨[t,t']⟩⟩) k)
 | o=>evS2 P Γ.fns mv st.heap (opV st.slots) o k
theorem aao {P:Program}{Γ:Env R}(hF:FnsOK P Γ.fns){C:ss R}(hC:CallIOK P C){mv:Bool×Bool}{st:S2}{o:Oper}{k:V→List E2→Tree R}{res:R}(h:(evI P Γ C mv st o.op k).run=some res):
  ∃ r H',(k r H').run=some res∧∀ (n0:Nat) (Bx:List Nat) (w:World) (B:List Nat) (η:List Value) (ρv:Operand→Value),(∀ f,ρv (.func f)= .func (.func f) #[] #[])→Inv n0 Bx w B η (st.heap.map exE)→(∀ x∈o.op.operands,Rel2 w B η (opV st.slots x) (ρv x)∧aM n0 (ex (opV st.slots x)) (ρv x))→OpS2 P n0 Bx w ρv o B η r H':=by
 have call:∀ (f:FuncId) (args:List V) (fv:Operand) (ops:Array Operand) (ts:Array TypeId) (r:V) (H':List E2),o.op= .call ⟨.value fv,ops,ts⟩→(∃ fn,P.funcs[f]? =some fn∧fn.name≠ "runtime.NumGoroutine" ∧fn.body≠none)→
   (∀ (n0:Nat) (Bx:List Nat) (w:World) (B:List Nat) (η:List Value) (cargs:List Value),Inv n0 Bx w B η (st.heap.map exE)→aaJ n0 w B η args cargs→
   Calls P f cargs.toArray w fun e w'=>∃ v B' η',e= .returned v∧Goes n0 Bx st.heap.length w B η w' B' η'∧Inv n0 Bx w' B' η' (H'.map exE)∧Rel2 w' B' η' r v∧aM n0 (ex r) v)→
   (∀ (n0:Nat) (w:World) (B:List Nat) (η:List Value) (ρv:Operand→Value),(∀ f,ρv (.func f)= .func (.func f) #[] #[])→(∀ x∈o.op.operands,Rel2 w B η (opV st.slots x) (ρv x)∧aM n0 (ex (opV st.slots x)) (ρv x))→∃ (cargs:List Value) (a1 cap:Array Value),aaJ n0 w B η args cargs∧(resolve ρv ⟨.value fv,ops,ts⟩ o.type).run P w= .ok { target:=.fn (.func f) cap,args:=a1 } w∧a1++cap=cargs.toArray)→
   ∀ (n0:Nat) (Bx:List Nat) (w:World) (B:List Nat) (η:List Value) (ρv:Operand→Value),(∀ f,ρv (.func f)= .func (.func f) #[] #[])→Inv n0 Bx w B η (st.heap.map exE)→(∀ x∈o.op.operands,Rel2 w B η (opV st.slots x) (ρv x)∧aM n0 (ex (opV st.slots x)) (ρv x))→OpS2 P n0 Bx w ρv o B η r H':=by
  intro f args fv ops ts r H' ho hfn hcalls hargs n0 Bx w B η ρv hfv inv he N hN
  obtain ⟨fn,f1,f2,f3⟩:=hfn
  obtain ⟨cargs,a1,cap,hrel,hres,hcat⟩:=hargs n0 w B η ρv hfv he
  have hcall:=hcalls n0 Bx w B η cargs inv hrel
  unfold DA
  have hrun:(execOp ρv o).run P w= .ok (.enter f cargs.toArray) w:=by
   simp only [execOp,ho,ne,hres,Result.andThen_ok,invoke,callFunc,hcat]
   simp [ne,f1,f2,f3]
  rw [hrun]
  refine hcall.mono fun e w' ⟨v,B',η',g1,g2,g3,g4,g5⟩=>⟨v,g1,hN v w' B' η' g2.on g2.hB (fun id v hv=>g2.hη id v ?_ hv) g2.below g3 g4 g5⟩
  have:=(List.getElem?_eq_some_iff.1 hv).1
  rw [inv.len] at this
  simpa using this
 obtain ⟨op,ho⟩:∃ op,o.op=op:=⟨_,rfl⟩
 rw [ho] at h
 unfold evI at h
 split at h
 ·rename_i f args ts
  split at h
  ·obtain ⟨r,H',h1,h2,h3⟩:=hC.ok _ _ _ _ _ h
   refine ⟨r,H',h1,call f _ _ _ _ r H' ho h2 h3 fun n0 w B η ρv hfv he=>⟨args.toList.map ρv,args.map ρv, #[],⟨by simp,fun i x hx=> ?_⟩, ?_, ?_⟩⟩
   ·rw [List.getElem?_map,C7] at hx
    obtain ⟨y,hy,rfl⟩:=hx
    have hm:=Da hy
    exact ⟨ρv y,by rw [List.getElem?_map,hy];rfl,he y (by simp [ho,gt,Dj];exact .inr (by simpa using hm))⟩
   ·simp [resolve,Deferred.ofValue,hfv]
   ·apply DJ;simp
  ·split at h
   ·exact aib hF ho h
   ·exact aic hF ho h
 ·rename_i t args ts
  split at h
  ·rename_i f caps hcl
   split at h
   ·obtain ⟨r,H',h1,h2,h3⟩:=hC.ok _ _ _ _ _ h
    refine ⟨r,H',h1,call f _ _ _ _ r H' ho h2 h3 fun n0 w B η ρv hfv he=> ?_⟩
    have hv:=(he (.tmp t) (by simp [ho,gt,Dj])).1
    simp only [opV] at hv
    rw [hcl] at hv
    obtain ⟨vs,e1,e2,e3⟩:=hv
    refine ⟨args.toList.map ρv++vs,args.map ρv,vs.toArray,⟨by simp [e2],fun i x hx=> ?_⟩, ?_, ?_⟩
    ·rw [List.getElem?_append] at hx ⊢
     simp only [Dc] at hx ⊢
     split at hx
     ·rename_i hi
      rw [if_pos hi]
      rw [List.getElem?_map,C7] at hx
      obtain ⟨y,hy,rfl⟩:=hx
      have hm:=Da hy
      exact ⟨ρv y,by rw [List.getElem?_map,hy];rfl,he y (by simp [ho,gt,Dj];exact .inr (by simpa using hm))⟩
     ·rename_i hi
      rw [if_neg hi]
      obtain ⟨u,g1,g2,g3⟩:=e3 _ _ hx
      refine ⟨u,g1,Rel2.of (V.cap_plain g2) g3,fun hfr=> ?_⟩
      obtain ⟨d,l,rfl⟩:=afD hfr
      cases g2
    ·have hev:ρv (.tmp t)= .func (.func f) #[] vs.toArray:=e1
     simp [resolve,Deferred.ofValue,hev]
    ·apply DJ;simp
   ·split at h
    ·rename_i hc
     obtain ⟨hcap,himm⟩:=hc
     have hcap:caps=[]:=by simpa using hcap
     subst hcap
     obtain ⟨r,h1,h2,h3,h4⟩:=hF.ok _ _ _ _ h
     refine ⟨r,st.heap,h1,fun n0 Bx w B η ρv hfv inv he N hN=> ?_⟩
     have hv:=(he (.tmp t) (by simp [ho,gt,Dj])).1
     simp only [opV] at hv
     rw [hcl] at hv
     obtain ⟨vs,e1,e2,e3⟩:=hv
     have hvs:vs=[]:=C5 e2
     subst hvs
     have hev:ρv (.tmp t)= .func (.func f) #[] #[]:=e1
     have hcall:=h4 w B (args.toList.map ρv) inv.lt inv.base.2 (by simp) (fun i x hx=>by
      rw [List.getElem?_map,C7] at hx
      obtain ⟨y,hy,rfl⟩:=hx
      have hm:=Da hy
      have hi:=Dh.1 himm y hm
      exact ⟨ρv y,by rw [List.getElem?_map,hy];rfl,rN hi ((he y (by simp [ho,gt,Dj];exact .inr (by simpa using hm))).1.get (kD hi))⟩) N (fun v w' g2 g3=>hN v w' B η (On.gr g2) (fun _ h=>.inl h) (fun _ _ h=>h) (Gr.bel g2 inv.base.1) (inv.gr g2) (Rel2.of h2 g3.any) (fun hfr=>by generalize ex r=y at h3 hfr;cases y <;> first | exact absurd rfl (h3 _ _) | cases hfr))
     have hargs:(args.toList.map ρv).toArray=args.map ρv:=by apply DJ;simp
     rw [hargs] at hcall
     exact gx ho hev hcall
    ·cases h
  ·cases h
 ·split at h
  ·split at h
   ·rename_i hc
    obtain ⟨hne,rfl⟩:=hc
    exact ane (arM hne) ho h
   ·cases h
  ·obtain ⟨r,H',h1,h2⟩:=afE (o:=o) hF (by rw [ho];exact h)
   exact ⟨r,H',h1,h2⟩
 ·obtain ⟨r,H',h1,h2⟩:=afE (o:=o) hF (by rw [ho];exact h)
  exact ⟨r,H',h1,h2⟩
theorem asm {P:Program}{Γ:Env R}(hF:FnsOK P Γ.fns){C:ss R}(hC:CallIOK P C){mv:Bool×Bool}{st:S2}{o:Oper}{k:V→List E2→Tree R}{res:R}(h:(evI P Γ C mv st o.op k).run=some res):
  ∃ r H',(k r H').run=some res∧∀ (n0:Nat) (Bx:List Nat) (ds:List Deferred) (a:Act) (w:World) (B:List Nat) (η:List Value),SimK n0 Bx ds st a w B η→OpS2 P n0 Bx w a.eval o B η r H':=by
 obtain ⟨r,H',h1,h2⟩:=aao hF hC h
 exact ⟨r,H',h1,fun n0 Bx ds a w B η hs=>h2 n0 Bx w B η a.eval (fun f=>rfl) hs.inv (fun x _=>vn hs.slots hs.inv.base.2 x)⟩
end
end Go.Proofs.YtolkfnemdejonaaGreatDoor
