/-
  Parts of my own, one behind the other: K3, K3b, K4, K5, K6, K7, GlobV, K8.
-/
import Derived.Test.YtmndainldhmnjaaMrg1
import Derived.DeepKeys
import Derived.Laws.StructEq
import Derived.Laws.Pointers
import Derived.LaidEqlPtr
import Derived.Stop.IfaceNil
import Derived.Laws.Entries
import Derived.Lib.ConvBytes
open Go.Op renaming operands→eq
open Go.Sem renaming run_bind→ge
open List renaming eq_nil_of_length_eq_zero→gt, mem_of_getElem?→uK, length_map→uM, all_eq_true→uQ, take_of_length_le→uT, drop_append_of_le_length→uW, length_append→uX, append_assoc→uY, length_drop→uZ, length_take→u2, take_append_of_le_length→u3, append_nil→u5, drop_zero→u6, nil_append→vb, map_map→vc, take_append_drop→ve, replicate→vi, map_append→vl
open Go.Proofs.Ytmndainldhmnjaa.Tree renaming run_ite→ne, run_bind→uN
open Option renaming map_eq_some_iff→uH, getD_some→uJ, some→uL, map_some→u9
open Bool renaming and_eq_true→uI
open Nat renaming mul_le_mul_right→uO, le_refl→uP, mul_div_cancel→u4, zero_le→vg, sub_zero→vj, lt_or_ge→vk, min_eq_left→vn
open Go.Instr renaming sliceBounds→uR
open Go.Call renaming operands→uS
open ByteArray renaming mk→uU
open Array renaming getD_eq_getD_getElem?→uV, ext'→vh
open Go.Proofs.Ytmndainldhmnjaa.Rel renaming ofC→u1
open Go.Proofs.Ytmndainldhmnjaa.Oper renaming val→u7
open Go.Addr renaming add_mid→vd
open Function renaming comp_def→vf
open Go.Program renaming keyLits→vm
namespace Go.Proofs.Ytmndainldhmnjaa
set_option maxRecDepth 100000
open Go.RowKit
set_option linter.unusedVariables false
set_option linter.unusedSimpArgs false
def getI {α:Type}(l:List α)(z:Int):Option α:=if 0≤z then l[z.toNat]? else none
def cN {α:Type}(l:List α)(z:Int):Option (List α):=if 0≤z∧z≤l.length then some (l.take z.toNat) else none
def dh {α:Type}(l:List α)(z:Int):Option (List α):=if 0≤z∧z≤l.length then some (l.drop z.toNat) else none
def subI {α:Type}(l:List α)(a b:Int):Option (List α):=if 0≤a∧a≤b∧b≤l.length then some ((l.drop a.toNat).take (b.toNat-a.toNat)) else none
theorem j5 {α:Type}{l:List α}{z:Int}{x:α}(h:getI l z=some x):0≤z∧l[z.toNat]? =some x∧z.toNat<l.length:=by
 unfold getI at h
 split at h
 ·exact ⟨by assumption,h,(List.getElem?_eq_some_iff.1 h).1⟩
 ·cases h
def sB {R:Type}(H:List E2)(x:V)(k:List V→Tree R):Tree R:=
 match x with
 | .adr l=>k l
 | .box id off=>(match H[id]? with
  | some (.box l _)=>(match fj big l off with | some s=>k s | none=>.fail)
  | _=>.fail)
 | .boxi id off d n i o=>(match H[id]? with
  | some (.box l _)=>(match fj big l off with
   | some (.arr d' n' a::_)=>dk d' d (fun d=>Arr (T d) n') a fun a=>.bind (a.l[i]?) fun e=>match fj big (enc d e) o with | some s=>k s | none=>.fail
   | _=>.fail)
  | _=>.fail)
 | .oadr id d i o=>(match H[id]? with
  | some (.own d' l _)=>dk d' d (fun d=>List (T d)) l fun l=>.bind (l[i]?) fun e=>match fj big (enc d e) o with | some s=>k s | none=>.fail
  | _=>.fail)
 | _=>.fail
def mO {R:Type}(x:V)(n:Nat)(k:V→Tree R):Tree R:=
 match x with
 | .box id o=>k (.box id (o+n))
 | .boxi id off d m i o=>k (.boxi id off d m i (o+n))
 | .oadr id d i o=>k (.oadr id d i (o+n))
 | .adr l=>(match fj big l n with | some s=>k (.adr s) | none=>.fail)
 | _=>.fail
def fX {R:Type}(x:V)(k:V→Tree R):Tree R:=
 match x with
 | .box id o=>k (.box id o)
 | .boxi id off d m i o=>k (.boxi id off d m i o)
 | .oadr id d i o=>k (.oadr id d i o)
 | .adr l=>k (.adr l)
 | _=>.fail
def fc {R:Type}(P:Program)(s:TypeId)(f:Nat)(x:V)(k:V→Tree R):Tree R:=
 match j8 P s f with
 | some (ty,off)=>if P.cellsOf ty=0 then .fail else mO x off k
 | none=>.fail
def sV {R:Type}(P:Program)(H:List E2)(t:TypeId)(x:V)(k:V→Tree R):Tree R:=
 sB H x fun segs=>match nQ P t segs 0 with | some r=>k r | none=>.fail
def pD {R:Type}(P:Program)(s:TypeId)(f:Nat)(x:V)(k:V→Tree R):Tree R:=
 match x,j8 P s f with
 | .agg l,some (ty,off)=>(match nQ P ty l off with | some r=>k r | none=>.fail)
 | _,_=>.fail
def ph {R:Type}(P:Program)(t:TypeId)(x i:V)(k:V→Tree R):Tree R:=
 match arrT P t,i with
 | some (m,e),.c (.int _ z)=>if P.cellsOf e=0 then .fail else (match x with
  | .agg [.arr d n a]=>if n=m∧wd d=P.cellsOf e then .bind (getI a.l z) fun el=>match nQ P e (enc d el) 0 with | some r=>k r | none=>.fail else .fail
  | .agg l=>.ite (decide (0≤z∧z<m)) (match nQ P e l (z.toNat*P.cellsOf e) with | some r=>k r | none=>.fail) .fail
  | _=>.fail)
 | _,_=>.fail
def mC {R:Type}(z:Int)(k:Nat→Tree R):Nat→Nat→Tree R
 | 0,_=>.fail
 | n+1,j=>.ite (decide (z=(j:Int))) (k j) (mC z k n (j+1))
theorem fe {R:Type}{z:Int}{k:Nat→Tree R}{res:R}:∀ {n j:Nat},(mC z k n j).run=some res→∃ i:Nat,i<j+n∧z=(i:Int)∧(k i).run=some res
 | 0,j,h=>by cases h
 | n+1,j,h=>by
  unfold mC at h
  rcases ne h with ⟨hb,h⟩ | ⟨_,h⟩
  ·exact ⟨j,by omega,of_decide_eq_true hb,h⟩
  ·obtain ⟨i,h1,h2,h3⟩:=fe h
   exact ⟨i,by omega,h2,h3⟩
def dP {R:Type}(P:Program)(H:List E2)(t:TypeId)(x i:V)(k:V→Tree R):Tree R:=
 match cX P t,arrT P t,i with
 | some e,_,.c (.int _ z)=>(match x with
  | .own id=>(match H[id]? with
   | some (.own d l _)=>if wd d=P.cellsOf e then .ite (decide (0≤z∧z<l.length)) (k (.oadr id d z.toNat 0)) .fail else .fail
   | _=>.fail)
  | x=>(match dV P e x with
   | some ⟨d,l⟩=>if wd d=P.cellsOf e∧1≤wd d then .bind (getI l z) fun el=>k (.adr (enc d el)) else .fail
   | none=>.fail))
 | none,some (m,e),.c (.int _ z)=>if P.cellsOf e=0 then .fail else (match x with
  | .box id off=>(match H[id]? with
   | some (.box l _)=>(match fj big l off with
    | some (.arr d n a::_)=>if wd d=P.cellsOf e∧n=m then .ite (decide (0≤z∧z<m)) (k (.boxi id off d n z.toNat 0)) .fail else .fail
    | _=>if m≤4 then mC z (fun j=>k (.box id (off+j*P.cellsOf e))) m 0 else .ite (decide (0≤z∧z<m)) (k (.box id (off+z.toNat*P.cellsOf e))) .fail)
   | _=>.fail)
  | .adr (.arr d n a::_)=>if wd d=P.cellsOf e∧n=m then .bind (getI a.l z) fun el=>k (.adr (enc d el)) else .fail
  | .adr l=>.ite (decide (0≤z∧z<m)) (match fj big l (z.toNat*P.cellsOf e) with | some s=>k (.adr s) | none=>.fail) .fail
  | .oadr id d ii oo=>if m≤4 then mC z (fun j=>k (.oadr id d ii (oo+j*P.cellsOf e))) m 0 else .fail
  | _=>.fail)
 | _,_,_=>.fail
def gd {R:Type}(x:V)(i:Nat)(k:V→Tree R):Tree R:=
 match x with
 | .tup l=>(match l[i]? with
  | some (.c v)=>k (.c v)
  | some (.str s)=>k (.str s)
  | some (.agg l)=>k (.agg l)
  | some (.lst d l)=>k (.lst d l)
  | some (.own i)=>k (.own i)
  | some (.box i o)=>k (.box i o)
  | some .emp=>k .emp
  | some .nn=>k .nn
  | _=>.fail)
 | _=>.fail
def intK {R:Type}(x:V)(k:Int→Tree R):Tree R:=match x with | .c (.int _ z)=>k z | _=>.fail
def mS {R:Type}(P:Program)(ρ:Operand→V)(t:TypeId)(x:V)(lo hi:Option Operand)(k:V→Tree R):Tree R:=
 match cX P t with
 | some e=>(match dV P e x with
  | some ⟨d,l⟩=>if wd d=P.cellsOf e∧1≤wd d then (match lo,hi with
   | none,none=>k (.lst d l)
   | some lo,none=>intK (ρ lo) fun a=>.bind (dh l a) fun m=>k (.lst d m)
   | none,some hi=>intK (ρ hi) fun b=>.bind (cN l b) fun m=>k (.lst d m)
   | some lo,some hi=>intK (ρ lo) fun a=>intK (ρ hi) fun b=>.bind (subI l a b) fun m=>k (.lst d m)) else .fail
  | none=>.fail)
 | none=>.fail
def lM {R:Type}(P:Program)(t:TypeId)(x hi mx:V)(k:V→Tree R):Tree R:=
 match cX P t,hi,mx with
 | some e,.c (.int _ 0),.c (.int _ 0)=>if P.cellsOf e=0 then .fail else (match x with
  | .c (.slice (some _) 0 _)=>k .emp
  | x=>(match dV P e x with | some _=>k .emp | none=>.fail))
 | _,_,_=>.fail
section
variable {P:Program} {H:List E2} {ρ:Operand→V} {o:Oper} {R:Type}
def aZ (ρ:Operand→V)(o:Oper):Prop:=∀ x∈o.op.operands,(ρ x).plain=true
theorem aV {w:World}{B:List Nat}{η:List Value}{n0:Nat}{ρv:Operand→Value}(hp:aZ ρ o)(h:∀ x∈o.op.operands,Rel2 w B η (ρ x) (ρv x)∧au n0 (ex (ρ x)) (ρv x)):∀ x∈o.op.operands,Rel w B η (ex (ρ x)) (ρv x):=fun x hx=>(h x hx).1.get (hp x hx)
theorem bV {w:World}{B:List Nat}{η:List Value}{n0:Nat}{ρv:Operand→Value}(hp:aZ ρ o)(h:∀ x∈o.op.operands,Rel2 w B η (ρ x) (ρv x)∧au n0 (ex (ρ x)) (ρv x)):∀ x∈o.op.operands,Rel w B η (eu (ρ x)) (ρv x):=fun x hx=>(aV hp h x hx).unf
def eL (P:Program)(e:TypeId)(x:V):AV:=match dV P e x with
 | some s=>.sl (flat s.1 s.2) (wd s.1)
 | none=>ex x
theorem k8 {w:World}{B:List Nat}{η:List Value}{n0:Nat}{ρv:Operand→Value}(e:TypeId)(hp:aZ ρ o)(h:∀ x∈o.op.operands,Rel2 w B η (ρ x) (ρv x)∧au n0 (ex (ρ x)) (ρv x)):∀ x∈o.op.operands,Rel w B η (eL P e (ρ x)) (ρv x):=fun x hx=>by
 have h1:=aV hp h x hx
 unfold eL
 split
 ·rename_i s hs;exact jH hs h1
 ·exact h1
theorem ns {e:TypeId}{k:IntKind}{z:Int}:eL P e (.c (.int k z))= .c (.int k z):=rfl
theorem iO {e:TypeId}{x:V}{s:Sigma fun d=>List (T d)}(h:dV P e x=some s):eL P e x= .sl (flat s.1 s.2) (wd s.1):=by unfold eL;rw [h]
theorem Rel.adr_pre {w:World}{B:List Nat}{η:List Value}{a b:List AV}{v:Value}(h:Rel w B η (.adr (a++b)) v):Rel w B η (.adr a) v:=by
 cases h with
 | adr _ _ ad us ha hr=>exact .adr _ _ ad us ⟨ha.spot,ha.lt,ha.out,fun i hi=>ha.cell i (by rw [uX];omega)⟩ (fun i x hx=>hr i x (by
   rw [List.getElem?_append_left (List.getElem?_eq_some_iff.1 hx).1];exact hx))
theorem OpOK.mono {n0:Nat}{w:World}{B:List Nat}{η:List Value}{ρv:Operand→Value}{r r':AV}(h:OpOK P n0 w ρv o B η r)(hr:∀ w' v,Rel w' B η r v→Rel w' B η r' v):OpOK P n0 w ρv o B η r':=fun N hN=>h N fun v w' g hv=>hN v w' g (hr _ _ hv)
theorem kP {t:TypeId}{a b:List AV}{off:Nat}{r:AV}(h:gy P t a off=some r):gy P t (a++b) off=some r:=by
 unfold gy at h ⊢
 split at h
 ·rename_i hrow
  split at h
  ·rename_i hle
   injection h with h;subst h
   rw [if_pos (by rw [uX];omega),uW (by omega),u3 (by rw [uZ];omega)]
  ·cases h
 ·rename_i hrow
  rw [List.getElem?_append_left (List.getElem?_eq_some_iff.1 h).1];exact h
 ·cases h
theorem ju {H:List Ent}{t:TypeId}{x r:AV}{l:List AV}(hc:eQ H x=some l)(h:gy P t l 0=some r):o9 P H t x=some r:=by
 unfold o9
 rw [hc]
 unfold gy at h
 cases hrow:rowT P t with
 | none=>rw [hrow] at h;cases h
 | some b=>
  rw [hrow] at h
  cases b with
  | true=>
   simp only [Nat.zero_add,u6] at h ⊢
   exact h
  | false=>
   simp only at h ⊢
   rw [List.head?_eq_getElem?];exact h
theorem exH {id:Nat}{e:E2}(h:H[id]? =some e):(H.map exE)[id]? =some (exE e):=by rw [List.getElem?_map,h];rfl
theorem cx {d:Td}{l:List (T d)}{i:Nat}{x:T d}(h:l[i]? =some x):(flat d l).drop (i*wd d)=cells d x++flat d (l.drop (i+1)):=by
 have hi:i<l.length:=(List.getElem?_eq_some_iff.1 h).1
 rw [←df,List.drop_eq_getElem_cons hi,ch]
 rw [List.getElem?_eq_getElem hi] at h
 injection h with h
 rw [h]
theorem mZ {x:V}{k:List V→Tree R}{r:R}(h:(sB H x k).run=some r):∃ segs rest l,(k segs).run=some r∧eQ (H.map exE) (ex x)=some l∧l=al segs++rest:=by
 unfold sB at h
 split at h
 ·exact ⟨_,[],_,h,rfl,by simp⟩
 ·rename_i id off
  split at h
  ·rename_i l T' hH
   split at h
   ·rename_i s hs
    obtain ⟨h1,h2⟩:=cr _ _ _ _ hs
    refine ⟨s,[],(al l).drop off,h, ?_,by rw [h1];simp⟩
    simp only [ex,ex0,eQ,exH hH,exE]
   ·cases h
  ·cases h
 ·rename_i id off d n i oo
  split at h
  ·rename_i l T' hH
   split at h
   ·rename_i d' n' a rr hs
    obtain ⟨e,h⟩:=aU h
    subst e
    obtain ⟨el,hel,h⟩:=uN h
    split at h
    ·rename_i s hss
     obtain ⟨h1,h2⟩:=cr _ _ _ _ hs
     obtain ⟨h3,h4⟩:=cr _ _ _ _ hss
     rw [bt] at h3 h4
     have key:(al l).drop (off+i*wd d'+oo)=al s++(flat d' (a.l.drop (i+1))++al rr):=by
      rw [Nat.add_assoc,←List.drop_drop,←h1,aj]
      simp only [segA]
      have hi:i<a.l.length:=(List.getElem?_eq_some_iff.1 hel).1
      have hle:i*wd d'+wd d'≤(flat d' a.l).length:=by rw [am,←Nat.succ_mul];exact uO _ hi
      have hol:oo≤wd d':=by rw [aH] at h4;exact h4
      rw [uW (by omega),←List.drop_drop,cx hel,uW h4,←h3,uY]
     refine ⟨s,_,_,h, ?_,key⟩
     simp only [ex,ex0,eQ,exH hH,exE]
    ·cases h
   ·cases h
  ·cases h
 ·rename_i id d i oo
  split at h
  ·rename_i d' l E hH
   obtain ⟨e,h⟩:=aU h
   subst e
   obtain ⟨el,hel,h⟩:=uN h
   split at h
   ·rename_i s hss
    obtain ⟨h3,h4⟩:=cr _ _ _ _ hss
    rw [bt] at h3 h4
    have key:(flat d' l).drop (i*wd d'+oo)=al s++flat d' (l.drop (i+1)):=by
     rw [←List.drop_drop,cx hel,uW h4,←h3]
    refine ⟨s,_,_,h, ?_,key⟩
    simp only [ex,ex0,eQ,exH hH,exE]
   ·cases h
  ·cases h
 ·cases h
theorem ra {t:TypeId}{x:Operand}{k:V→Tree R}{res:R}(hp:aZ ρ o)(ho:o.op= .load t x)(h:(sV P H t (ρ x) k).run=some res):∃ r,(k r).run=some res∧Does P H ρ o r:=by
 obtain ⟨segs,rest,l,h1,h2,h3⟩:=mZ h
 split at h1
 ·rename_i r hr
  obtain ⟨h4,h5,h6⟩:=fS hr
  refine ⟨r,h1,fun n0 Bx w B η ρv inv he=>.of h5 h6 (rb inv (ρA:=fun y=>ex (ρ y)) (aV hp he) ho (ju h2 (by rw [h3];exact kP h4)))⟩
 ·cases h1
theorem oC {x:V}{n:Nat}{k:V→Tree R}{res:R}(h:(mO x n k).run=some res):∃ r,(k r).run=some res∧cJ (ex x) n=some (ex r)∧r.plain=true∧∀ l k,ex r≠.fresh l k:=by
 unfold mO at h
 split at h
 ·exact ⟨_,h,rfl,rfl,fun _ _ h=>by simp [ex,ex0] at h⟩
 ·exact ⟨_,h,by simp [ex,ex0,cJ,Nat.add_assoc],rfl,fun _ _ h=>by simp [ex,ex0] at h⟩
 ·exact ⟨_,h,by simp [ex,ex0,cJ,Nat.add_assoc],rfl,fun _ _ h=>by simp [ex,ex0] at h⟩
 ·split at h
  ·rename_i s hs
   obtain ⟨h1,h2⟩:=cr _ _ _ _ hs
   exact ⟨_,h,by simp [ex,ex0,cJ,h1],rfl,fun _ _ h=>by simp [ex,ex0] at h⟩
  ·cases h
 ·cases h
theorem fz {s:TypeId}{f:Nat}{x:Operand}{k:V→Tree R}{res:R}(hp:aZ ρ o)(ho:o.op= .fieldAddr s x f)(h:(fc P s f (ρ x) k).run=some res):∃ r,(k r).run=some res∧∀ H:List E2,Does P H ρ o r:=by
 unfold fc at h
 split at h
 ·rename_i ty off hfd
  obtain ⟨fd,hfd2,rfl,rfl⟩:=gS hfd
  split at h
  ·cases h
  ·rename_i hc
   obtain ⟨r,h1,h2,h3,h4⟩:=oC h
   exact ⟨r,h1,fun H n0 Bx w B η ρv inv he=>.of h3 h4 (lg (ρA:=fun y=>ex (ρ y)) (aV hp he) ho hfd2 hc h2)⟩
 ·cases h
theorem j9 {s:TypeId}{f:Nat}{x:Operand}{k:V→Tree R}{res:R}(hp:aZ ρ o)(ho:o.op= .fieldAddr s x f)(h:(fc P s f (ρ x) k).run=some res):∃ r,(k r).run=some res∧Does P H ρ o r:=by
 obtain ⟨r,h1,h2⟩:=fz hp ho h
 exact ⟨r,h1,h2 H⟩
theorem fW {x:Operand}{k:V→Tree R}{res:R}(hp:aZ ρ o)(ho:o.op= .nilCheck x)(h:(fX (ρ x) k).run=some res):∃ r,(k r).run=some res∧∀ H:List E2,Does P H ρ o r:=by
 have key:∀ r,ρ x=r→r.plain=true→(∀ l k,ex r≠.fresh l k)→((∃ i n,ex r= .box i n)∨(∃ l,ex r= .adr l)∨(∃ i n,ex r= .oadr i n))→∀ H:List E2,Does P H ρ o r:=fun r hr h1 h2 h3 H n0 Bx w B η ρv inv he=>by
  subst hr
  exact .of h1 h2 (l9 (ρA:=fun y=>ex (ρ y)) (aV hp he) ho h3)
 unfold fX at h
 split at h
 ·rename_i hx;exact ⟨_,h,key _ hx rfl (fun _ _ h=>by simp [ex,ex0] at h) (.inl ⟨_,_,rfl⟩)⟩
 ·rename_i hx;exact ⟨_,h,key _ hx rfl (fun _ _ h=>by simp [ex,ex0] at h) (.inl ⟨_,_,rfl⟩)⟩
 ·rename_i hx;exact ⟨_,h,key _ hx rfl (fun _ _ h=>by simp [ex,ex0] at h) (.inr (.inr ⟨_,_,rfl⟩))⟩
 ·rename_i hx;exact ⟨_,h,key _ hx rfl (fun _ _ h=>by simp [ex,ex0] at h) (.inr (.inl ⟨_,rfl⟩))⟩
 ·cases h
theorem kS {x:Operand}{k:V→Tree R}{res:R}(hp:aZ ρ o)(ho:o.op= .nilCheck x)(h:(fX (ρ x) k).run=some res):∃ r,(k r).run=some res∧Does P H ρ o r:=by
 obtain ⟨r,h1,h2⟩:=fW (P:=P) hp ho h
 exact ⟨r,h1,h2 H⟩
theorem pC {s:TypeId}{f:Nat}{x:Operand}{k:V→Tree R}{res:R}(hp:aZ ρ o)(ho:o.op= .field s x f)(h:(pD P s f (ρ x) k).run=some res):∃ r,(k r).run=some res∧Does P H ρ o r:=by
 unfold pD at h
 split at h
 ·rename_i l ty off hx hfd
  obtain ⟨fd,hfd2,rfl,rfl⟩:=gS hfd
  split at h
  ·rename_i r hr
   obtain ⟨h4,h5,h6⟩:=fS hr
   exact ⟨r,h,fun n0 Bx w B η ρv inv he=>.of h5 h6 (rp (ρA:=fun y=>ex (ρ y)) (aV hp he) ho hfd2 (by rw [hx];rfl) h4)⟩
  ·cases h
 ·cases h
theorem pg {t:TypeId}{x i:Operand}{k:V→Tree R}{res:R}(hp:aZ ρ o)(ho:o.op= .index t x i)(h:(ph P t (ρ x) (ρ i) k).run=some res):∃ r,(k r).run=some res∧Does P H ρ o r:=by
 unfold ph at h
 split at h
 ·rename_i m e kk z hat hi
  split at h
  ·cases h
  ·rename_i hc
   split at h
   ·rename_i d n a hx
    split at h
    ·rename_i hnm
     obtain ⟨rfl,hwd⟩:=hnm
     obtain ⟨el,hel,h⟩:=uN h
     obtain ⟨g0,g1,g2⟩:=j5 hel
     split at h
     ·rename_i r hr
      obtain ⟨h4,h5,h6⟩:=fS hr
      rw [a.h] at g2
      refine ⟨r,h,fun n0 Bx w B η ρv inv he=>.of h5 h6 (na (ρA:=fun y=>ex (ρ y)) (aV hp he) ho (bb hat) (by rw [hx];rfl) (by rw [hi];rfl) ⟨g0,by omega⟩ hc ?_)⟩
      have e1:al [V.arr d n a]=flat d a.l:=by simp [al,segA]
      rw [e1]
      rw [bt] at h4
      have hd:=cx g1
      unfold gy at h4 ⊢
      rw [hwd] at hd
      have hlen:(flat d a.l).length=a.l.length*wd d:=am d a.l
      split at h4
      ·rename_i hrow
       split at h4
       ·rename_i hle
        rw [if_pos (by have:=congrArg List.length hd;rw [uZ,uX] at this;omega),hd,u3 (by omega)]
        simpa using h4
       ·cases h4
      ·rename_i hrow
       have:=congrArg (·[0]?) hd
       simp only [List.getElem?_drop,Nat.add_zero] at this
       rw [this,List.getElem?_append_left (List.getElem?_eq_some_iff.1 h4).1]
       exact h4
      ·cases h4
     ·cases h
    ·cases h
   ·rename_i l hx
    rcases ne h with ⟨hb,h⟩ | ⟨_,h⟩
    ·have hz:=of_decide_eq_true hb
     split at h
     ·rename_i r hr
      obtain ⟨h4,h5,h6⟩:=fS hr
      exact ⟨r,h,fun n0 Bx w B η ρv inv he=>.of h5 h6 (na (ρA:=fun y=>ex (ρ y)) (aV hp he) ho (bb hat) (by rw [hx];rfl) (by rw [hi];rfl) hz hc h4)⟩
     ·cases h
    ·cases h
   ·cases h
 ·cases h
theorem j3 {t:TypeId}{x i:Operand}{k:V→Tree R}{res:R}(hp:aZ ρ o)(ho:o.op= .indexAddr t x i)(h:(dP P H t (ρ x) (ρ i) k).run=some res):∃ r,(k r).run=some res∧Does P H ρ o r:=by
 unfold dP at h
 split at h
 ·rename_i e kk z het hi
  split at h
  ·rename_i id hx
   split at h
   ·rename_i d l E hH
    split at h
    ·rename_i hwd
     rcases ne h with ⟨hb,h⟩ | ⟨_,h⟩
     ·have hz:=of_decide_eq_true hb
      refine ⟨_,h,fun n0 Bx w B η ρv inv he=>.of rfl (fun _ _ h=>by simp [ex,ex0] at h) ?_⟩
      have hid:=exH hH
      have hent:=inv.ent id _ hid
      obtain ⟨n',us,hown,hrel,hk1,hbl⟩:=hent
      exact mg (ρA:=fun y=>ex (ρ y)) inv (aV hp he) ho (aD het) (by simp only [hx];rfl) (by simp only [hi];rfl) hid ⟨hz.1,by
       rw [am]
       exact Nat.mul_lt_mul_of_pos_right (by omega) (by omega)⟩ hwd
     ·cases h
    ·cases h
   ·cases h
  ·split at h
   ·rename_i d l hv
    split at h
    ·rename_i hwd
     obtain ⟨el,hel,h⟩:=uN h
     obtain ⟨g0,g1,g2⟩:=j5 hel
     refine ⟨_,h,fun n0 Bx w B η ρv inv he=>.of rfl (fun _ _ h=>by simp [ex,ex0] at h) (OpOK.mono (oa (ρA:=fun y=>eL P e (ρ y)) (k8 e hp he) ho (aD het) (iO hv) (show eL P e (ρ i)= .c (.int kk z) by rw [hi];rfl) ⟨g0,by
      rw [am];exact Nat.mul_lt_mul_of_pos_right g2 hwd.2⟩ hwd.1) fun w' v hv'=> ?_)⟩
     rw [cx g1] at hv'
     simp only [ex,ex0,bt]
     exact hv'.adr_pre
    ·cases h
   ·cases h
 ·rename_i m e kk z hnoel hat hi
  split at h
  ·cases h
  ·rename_i hc
   split at h
   ·rename_i id off hx
    split at h
    ·rename_i l T' hH
     split at h
     ·rename_i d n a rr hs
      split at h
      ·rename_i hwd
       rcases ne h with ⟨hb,h⟩ | ⟨_,h⟩
       ·have hz:=of_decide_eq_true hb
        exact ⟨_,h,fun n0 Bx w B η ρv inv he=>.of rfl (fun _ _ h=>by simp [ex,ex0] at h) (bC (ρA:=fun y=>ex (ρ y)) (aV hp he) ho (bb hat) (by simp only [hi];rfl) hz hc (by simp [hx,ex,ex0,cJ,hwd.1]))⟩
       ·cases h
      ·cases h
     ·split at h
      ·obtain ⟨j,hj,hz,h⟩:=fe h
       exact ⟨_,h,fun n0 Bx w B η ρv inv he=>.of rfl (fun _ _ h=>by simp [ex,ex0] at h) (bC (ρA:=fun y=>ex (ρ y)) (aV hp he) ho (bb hat) (z:=z) (by simp only [hi];rfl) (by omega) hc (by simp [hx,hz,ex,ex0,cJ]))⟩
      rcases ne h with ⟨hb,h⟩ | ⟨_,h⟩
      ·have hz:=of_decide_eq_true hb
       exact ⟨_,h,fun n0 Bx w B η ρv inv he=>.of rfl (fun _ _ h=>by simp [ex,ex0] at h) (bC (ρA:=fun y=>ex (ρ y)) (aV hp he) ho (bb hat) (by simp only [hi];rfl) hz hc (by simp [hx,ex,ex0,cJ]))⟩
      ·cases h
    ·cases h
   ·rename_i d n a rr hx
    split at h
    ·rename_i hwd
     obtain ⟨el,hel,h⟩:=uN h
     obtain ⟨g0,g1,g2⟩:=j5 hel
     rw [a.h] at g2
     refine ⟨_,h,fun n0 Bx w B η ρv inv he=>.of rfl (fun _ _ h=>by simp [ex,ex0] at h) (OpOK.mono (r:=.adr ((al (V.arr d n a::rr)).drop (z.toNat*P.cellsOf e))) (bC (ρA:=fun y=>ex (ρ y)) (aV hp he) ho (bb hat) (by simp only [hi];rfl) ⟨g0,by omega⟩ hc (by simp only [hx];rfl)) fun w' v hv'=> ?_)⟩
     have hle:z.toNat*wd d≤(flat d a.l).length:=by rw [am,a.h];exact uO _ (by omega)
     rw [aj,←hwd.1] at hv'
     simp only [segA] at hv'
     rw [uW hle,cx g1,uY] at hv'
     simp only [ex,ex0,bt]
     exact hv'.adr_pre
    ·cases h
   ·rename_i l hnot hx
    rcases ne h with ⟨hb,h⟩ | ⟨_,h⟩
    ·have hz:=of_decide_eq_true hb
     split at h
     ·rename_i s hs
      obtain ⟨h1,h2⟩:=cr _ _ _ _ hs
      exact ⟨_,h,fun n0 Bx w B η ρv inv he=>.of rfl (fun _ _ h=>by simp [ex,ex0] at h) (bC (ρA:=fun y=>ex (ρ y)) (aV hp he) ho (bb hat) (by simp only [hi];rfl) hz hc (by simp [hx,ex,ex0,cJ,h1]))⟩
     ·cases h
    ·cases h
   ·rename_i id d ii oo hx
    split at h
    ·obtain ⟨j,hj,hz,h⟩:=fe h
     exact ⟨_,h,fun n0 Bx w B η ρv inv he=>.of rfl (fun _ _ h=>by simp [ex,ex0] at h) (bC (ρA:=fun y=>ex (ρ y)) (aV hp he) ho (bb hat) (z:=z) (by simp only [hi];rfl) (by omega) hc (by simp [hx,hz,ex,ex0,cJ,Nat.add_assoc]))⟩
    ·cases h
   ·cases h
 ·cases h
theorem mr {x:Operand}{i:Nat}{k:V→Tree R}{res:R}(hp:aZ ρ o)(ho:o.op= .extract x i)(h:(gd (ρ x) i k).run=some res):∃ r,(k r).run=some res∧Does P H ρ o r:=by
 unfold gd at h
 split at h
 ·rename_i l hx
  have key:∀ r,l[i]? =some r→ex0 r=ex r→r.plain=true→(∀ l k,ex r≠.fresh l k)→Does P H ρ o r:=fun r hr h0 h1 h2 n0 Bx w B η ρv inv he=>
   .of h1 h2 (jB (ρA:=fun y=>ex (ρ y)) (aV hp he) ho (l:=l.map ex0) (by simp only [hx];rfl) (by rw [List.getElem?_map,hr,u9,h0]))
  split at h
  all_goals first | cases h | (rename_i hr;exact ⟨_,h,key _ hr rfl rfl (fun _ _ h=>by simp [ex,ex0] at h)⟩)
 ·cases h
theorem aY {x:V}{k:Int→Tree R}{res:R}(h:(intK x k).run=some res):∃ kk z,x= .c (.int kk z)∧(k z).run=some res:=by
 unfold intK at h
 split at h
 ·exact ⟨_,_,rfl,h⟩
 ·cases h
theorem oL {t:TypeId}{x:Operand}{lo hi:Option Operand}{k:V→Tree R}{res:R}(hp:aZ ρ o)(ho:o.op= .slice t x lo hi none)(h:(mS P ρ t (ρ x) lo hi k).run=some res):∃ r,(k r).run=some res∧Does P H ρ o r:=by
 unfold mS at h
 split at h
 ·rename_i e het
  split at h
  ·rename_i d l hv
   split at h
   ·rename_i hwd
    have hdiv:(flat d l).length / wd d=l.length:=by rw [am];exact u4 _ (by omega)
    have key:∀ (a b:Nat),aX (fun y=>eL P e (ρ y)) 0 lo=some a→aX (fun y=>eL P e (ρ y)) l.length hi=some b→a≤b→b≤l.length→Does P H ρ o (.lst d ((l.drop a).take (b-a))):=fun a b ha hb hab hbl n0 Bx w B η ρv inv he=>by
     refine .of rfl (fun _ _ h=>by simp [ex,ex0] at h) ?_
     have:=qM (P:=P) (ρA:=fun y=>eL P e (ρ y)) (n0:=n0) (k8 e hp he) ho (aD het) (iO hv) hwd.1 ha (by rw [hdiv];exact hb) hab (by rw [am];exact uO _ hbl)
     simp only [ex,ex0,cS,df]
     exact this
    split at h
    ·have:=key 0 l.length rfl rfl (vg _) (uP _)
     simp only [u6,vj,List.take_length] at this
     exact ⟨_,h,this⟩
    ·obtain ⟨kk,z,hz,h⟩:=aY h
     obtain ⟨m,hm,h⟩:=uN h
     unfold dh at hm
     split at hm
     ·rename_i hc
      injection hm with hm;subst hm
      have:=key z.toNat l.length (by simp [aX,hz,ns,hc.1]) rfl (by omega) (uP _)
      rw [uT (by rw [uZ];exact uP _)] at this
      exact ⟨_,h,this⟩
     ·cases hm
    ·obtain ⟨kk,z,hz,h⟩:=aY h
     obtain ⟨m,hm,h⟩:=uN h
     unfold cN at hm
     split at hm
     ·rename_i hc
      injection hm with hm;subst hm
      have:=key 0 z.toNat rfl (by simp [aX,hz,ns,hc.1]) (vg _) (by omega)
      rw [u6,vj] at this
      exact ⟨_,h,this⟩
     ·cases hm
    ·obtain ⟨kk,z,hz,h⟩:=aY h
     obtain ⟨kk2,z2,hz2,h⟩:=aY h
     obtain ⟨m,hm,h⟩:=uN h
     unfold subI at hm
     split at hm
     ·rename_i hc
      injection hm with hm;subst hm
      exact ⟨_,h,key z.toNat z2.toNat (by simp [aX,hz,ns,hc.1]) (by simp [aX,hz2,ns];omega) (by omega) (by omega)⟩
     ·cases hm
   ·cases h
  ·cases h
 ·cases h
theorem nN {t:TypeId}{x hi mx:Operand}{k:V→Tree R}{res:R}(hp:aZ ρ o)(ho:o.op= .slice t x none (some hi) (some mx))(h:(lM P t (ρ x) (ρ hi) (ρ mx) k).run=some res):∃ r,(k r).run=some res∧Does P H ρ o r:=by
 unfold lM at h
 split at h
 ·rename_i e k1 k2 het hhi hmx
  split at h
  ·cases h
  ·rename_i hc
   split at h
   ·rename_i A0 c0 hx
    exact ⟨_,h,fun n0 Bx w B η ρv inv he=>.of rfl (fun _ _ h=>by simp [ex,ex0] at h) (nM (ρA:=fun y=>ex (ρ y)) (A:=A0) (c:=c0) (aV hp he) ho (aD het) (by simp only [hx];rfl) hc (by simp only [hhi];rfl) (by simp only [hmx];rfl))⟩
   split at h
   ·rename_i s hv
    exact ⟨_,h,fun n0 Bx w B η ρv inv he=>.of rfl (fun _ _ h=>by simp [ex,ex0] at h) (oM (ρA:=fun y=>eL P e (ρ y)) (k8 e hp he) ho (aD het) (iO hv) hc (show eL P e (ρ hi)= .c (.int k1 0) by rw [hhi];rfl) (show eL P e (ρ mx)= .c (.int k2 0) by rw [hmx];rfl))⟩
   ·cases h
 ·cases h
end
mutual
def en (P:Program):Nat→TypeId→Td→Bool
 | 0,_,_=>false
 | n+1,t,d=>P.cellsOf t==wd d&&(match P.underlying t,d with
  | some (.int k),.int k'=>decide (k=k')
  | some .bool,.bool=>true
  | some .string,.str=>true
  | some (.slice e),.sl d=>decide (1≤wd d)&&en P n e d
  | some (.array m e),.arr m' d=>m==m'&&en P n e d
  | some (.struct fs),d=>layFs P n fs.toList 0 d
  | _,_=>false)
def layFs (P:Program):Nat→List Field→Nat→Td→Bool
 | 0,_,_,_=>false
 | n+1,fs,o,d=>match fs with
  | []=>false
  | [f]=>f.offset==o&&en P n f.type d
  | f::g::fs=>(match d with
   | .pair d e=>f.offset==o&&en P n f.type d&&layFs P n (g::fs) (o+wd d) e
   | _=>false)
end
theorem cj {P:Program}{n:Nat}{t:TypeId}{d:Td}(h:en P n t d=true):P.cellsOf t=wd d:=by
 cases n with
 | zero=>simp [en] at h
 | succ n=>simp only [en,uI,beq_iff_eq] at h;exact h.1
def isAgg:V→Bool
 | .agg _ | .arr _ _ _ | .c (.agg _)=>true
 | _=>false
theorem jw {x:V}(h:isAgg x=true):(∃ l,x= .agg l)∨(∃ d n a,x= .arr d n a)∨∃ cs,x= .c (.agg cs):=by
 unfold isAgg at h
 split at h
 ·exact .inl ⟨_,rfl⟩
 ·exact .inr (.inl ⟨_,_,_,rfl⟩)
 ·exact .inr (.inr ⟨_,rfl⟩)
 ·cases h
theorem Arr.ext' {α:Type}{n:Nat}{a b:Arr α n}(h:a.l=b.l):a=b:=by cases a;cases b;cases h;rfl
instance decArr {α:Type} {n:Nat} [DecidableEq α]:DecidableEq (Arr α n):=fun a b=>decidable_of_iff (a.l=b.l) ⟨Arr.ext',fun h=>congrArg _ h⟩
def decT:(d:Td)→DecidableEq (T d)
 | .int _=>Int.instDecidableEq
 | .bool=>instDecidableEqBool
 | .str=>instDecidableEqList
 | .sl d=>@instDecidableEqList _ (decT d)
 | .arr n d=>@decArr _ n (decT d)
 | .pair d e=>@instDecidableEqProd _ _ (decT d) (decT e)
def eqD:Td→Bool
 | .int _ | .bool | .str=>true
 | .sl _=>false
 | .arr _ d=>eqD d
 | .pair d e=>eqD d&&eqD e
def wfB:(d:Td)→T d→Bool
 | .int k,n=>(Lit.int k n).wf
 | .bool,_=>true
 | .str,s=>decide (s.length≤maxLen)
 | .sl _,_=>true
 | .arr n d,a=>a.l.all (wfB d)
 | .pair d e,x=>wfB d x.1&&wfB e x.2
def lits:(d:Td)→T d→List Lit
 | .int k,n=>[.int k n]
 | .bool,b=>[.bool b]
 | .str,s=>[.string s]
 | .sl _,_=>[]
 | .arr n d,a=>a.l.flatMap (lits d)
 | .pair d e,x=>lits d x.1++lits e x.2
def cK:(d:Td)→T d→List Value
 | .int k,n=>[.int k n]
 | .bool,b=>[.bool b]
 | .str,s=>[.string ⟨s.toArray⟩]
 | .sl _,_=>[]
 | .arr n d,a=>a.l.flatMap (cK d)
 | .pair d e,x=>cK d x.1++cK e x.2
theorem cz:∀ (d:Td) (x:T d),eqD d=true→cells d x=(cK d x).map .c
 | .int _,_,_=>rfl
 | .bool,_,_=>rfl
 | .str,_,_=>rfl
 | .sl _,_,h=>by cases h
 | .arr n d,a,h=>by
  simp only [cells,cK,List.map_flatMap]
  exact congrArg (fun f=>List.flatMap f a.l) (funext fun x=>cz d x h)
 | .pair d e,x,h=>by
  simp only [eqD,uI] at h
  simp only [cells,cK,vl,cz d x.1 h.1,cz e x.2 h.2]
theorem cv (d:Td)(x:T d)(h:eqD d=true):(cK d x).length=wd d:=by
 have:=congrArg List.length (cz d x h)
 rw [aH,uM] at this
 exact this.symm
theorem da:∀ (d:Td) (x y:T d),eqD d=true→(lits d x).length=(lits d y).length
 | .int _,_,_,_=>rfl
 | .bool,_,_,_=>rfl
 | .str,_,_,_=>rfl
 | .sl _,_,_,h=>by cases h
 | .arr n d,a,b,h=>by
  obtain ⟨la,ha⟩:=a
  obtain ⟨lb,hb⟩:=b
  simp only [lits]
  have hlen:la.length=lb.length:=by rw [ha,hb]
  clear ha hb
  induction la generalizing lb with
  | nil=>cases lb with | nil=>rfl | cons _ _=>simp at hlen
  | cons x la ih=>cases lb with
   | nil=>simp at hlen
   | cons y lb=>
    simp only [List.flatMap_cons,uX]
    rw [da d x y h,ih lb (by simpa using hlen)]
 | .pair d e,x,y,h=>by
  simp only [eqD,uI] at h
  simp only [lits,uX,da d x.1 y.1 h.1,da e x.2 y.2 h.2]
theorem hJ:∀ (d:Td) (x y:T d),eqD d=true→lits d x=lits d y→x=y
 | .int _,_,_,_,h=>by simp only [lits,List.cons.injEq,Lit.int.injEq,and_true,true_and] at h;exact h
 | .bool,_,_,_,h=>by simp only [lits,List.cons.injEq,Lit.bool.injEq,and_true] at h;exact h
 | .str,_,_,_,h=>by simp only [lits,List.cons.injEq,Lit.string.injEq,and_true] at h;exact h
 | .sl _,_,_,h,_=>by cases h
 | .arr n d,a,b,h,he=>by
  obtain ⟨la,ha⟩:=a
  obtain ⟨lb,hb⟩:=b
  simp only [lits] at he
  have hlen:la.length=lb.length:=by rw [ha,hb]
  have:la=lb:=by
   clear ha hb
   induction la generalizing lb with
   | nil=>cases lb with | nil=>rfl | cons _ _=>simp at hlen
   | cons x la ih=>cases lb with
    | nil=>simp at hlen
    | cons y lb=>
     simp only [List.flatMap_cons] at he
     obtain ⟨h1,h2⟩:=List.append_inj he (da d x y h)
     rw [hJ d x y h h1,ih lb h2 (by simpa using hlen)]
  exact Arr.ext' this
 | .pair d e,x,y,h,he=>by
  simp only [eqD,uI] at h
  simp only [lits] at he
  obtain ⟨h1,h2⟩:=List.append_inj he (da d x.1 y.1 h.1)
  exact Prod.ext (hJ d _ _ h.1 h1) (hJ e _ _ h.2 h2)
section
variable {P:Program}
theorem pw (d:Td)(hd:eqD d=true)(l:List (T d))(i:Nat)(x:T d)(h:l[i]? =some x):((l.flatMap (cK d)).drop (i*wd d)).take (wd d)=cK d x:=by
 have hf:=pB d l i x h
 have hall:flat d l=(l.flatMap (cK d)).map .c:=by
  simp only [flat,List.map_flatMap]
  exact congrArg (fun f=>List.flatMap f l) (funext fun x=>cz d x hd)
 rw [hall,←List.map_drop,←List.map_take,cz d x hd] at hf
 have hinj:∀ a b:List Value,a.map AV.c=b.map AV.c→a=b:=fun a b h=>by
  have:=congrArg (List.map fun | AV.c v=>v | _=>undef) h
  simpa [vc,vf] using this
 exact hinj _ _ hf
mutual
theorem iF:∀ (n:Nat) (t:TypeId) (d:Td),en P n t d=true→∀ (q:Nat),P.keyTypeAt q t=true→eqD d=true→∀ (x:T d),wfB d x=true→∀ m,n≤m→P.keyLits m t (cK d x)=some (lits d x)
 | 0,t,d,h=>by simp [en] at h
 | n+1,t,d,h=>by
  intro q hq he x hw m hm
  obtain ⟨m,rfl⟩:∃ m',m=m'+1:=⟨m-1,by omega⟩
  have hc:=cj h
  simp only [en,uI,beq_iff_eq] at h
  replace h:=h.2
  cases q with
  | zero=>simp [Program.keyTypeAt] at hq
  | succ q=>
  split at h
  ·rename_i k k' hu
   have:=of_decide_eq_true h
   subst this
   have hw:(Lit.int k x).wf=true:=hw
   simp only [vm,hu,cK,lits]
   simp [hw]
  ·rename_i hu
   simp only [vm,hu,cK,lits]
  ·rename_i hu
   have hw:=of_decide_eq_true hw
   have hsz:(uU x.toArray).size=x.length:=by show x.toArray.size=_;simp
   simp only [vm,hu,cK,lits]
   rw [if_pos (by rw [hsz];exact hw)]
  ·cases he
  ·rename_i k e k' d' hu
   simp only [uI,beq_iff_eq] at h
   obtain ⟨rfl,h⟩:=h
   have hce:=cj h
   simp only [Program.keyTypeAt,hu] at hq
   have hw:x.l.all (wfB d')=true:=hw
   simp only [vm,hu,lits]
   rw [if_pos (by rw [cv _ _ he,hc])]
   have:(List.range k).mapM (fun i=>P.keyLits m e (((cK (.arr k d') x).drop (i*P.cellsOf e)).take (P.cellsOf e)))=some (x.l.map (lits d')):=by
    have key:∀ (j i:Nat) (l:List (T d')),(∀ y∈l,y∈x.l)→x.l.drop i=l→j=l.length→(List.range' i j).mapM (fun i=>P.keyLits m e (((cK (.arr k d') x).drop (i*P.cellsOf e)).take (P.cellsOf e)))=some (l.map (lits d')):=by
     intro j
     induction j with
     | zero=>intro i l hl hd hj;cases l with | nil=>rfl | cons _ _=>simp at hj
     | succ j ih=>
      intro i l hl hd hj
      cases l with
      | nil=>simp at hj
      | cons y l=>
       have hi:x.l[i]? =some y:=by
        have:=congrArg (·[0]?) hd
        simpa using this
       have h1:P.keyLits m e (((cK (.arr k d') x).drop (i*P.cellsOf e)).take (P.cellsOf e))=some (lits d' y):=by
        rw [hce]
        rw [show cK (.arr k d') x=x.l.flatMap (cK d') from rfl,pw d' he x.l i y hi]
        exact iF n e d' h q hq he y (uQ.1 hw y (hl y List.mem_cons_self)) m (by omega)
       have h2:x.l.drop (i+1)=l:=by rw [←List.drop_drop,hd];rfl
       rw [List.range'_succ,List.mapM_cons,h1,ih (i+1) l (fun z hz=>hl z (List.mem_cons_of_mem _ hz)) h2 (by simpa using hj)]
       rfl
    rw [List.range_eq_range']
    exact key k 0 x.l (fun y hy=>hy) rfl x.h.symm
   rw [this]
   simp [List.flatMap]
  ·rename_i d x1 d1 fs hu
   simp only [Program.keyTypeAt,hu,uI,Bool.not_eq_true'] at hq
   have hfq:∀ f∈fs.toList,f.name≠ "_" ∧P.keyTypeAt q f.type=true:=fun f hf=>by
    have:=Array.all_eq_true_iff_forall_mem.1 hq.1.1 f (Array.mem_toList_iff.1 hf)
    simp only [uI,bne_iff_ne,ne_eq] at this
    exact this
   obtain ⟨ls,h1,h2⟩:=fs_ok n fs.toList 0 d h q hfq he x hw m (by omega) [] rfl
   simp only [vb] at h1
   have hnm:fs.all (·.name != "_")=true:=Array.all_eq_true_iff_forall_mem.2 fun f hf=>by
    simp only [bne_iff_ne,ne_eq]
    exact (hfq f (Array.mem_toList_iff.2 hf)).1
   have hl:=cv d x he
   unfold vm
   simp only [hu]
   have hgo:(if (cK d x).length=P.cellsOf t∧fs.all (·.name != "_")=true then (fs.toList.mapM fun f=>P.keyLits m f.type (((cK d x).drop f.offset).take (P.cellsOf f.type))).map List.flatten else none)=some (lits d x):=by
    rw [if_pos ⟨by rw [hl,hc],hnm⟩,h1,←h2]
    rfl
   generalize cK d x=vs at hgo ⊢
   exact hgo
  ·cases h
theorem fs_ok:∀ (n:Nat) (fs:List Field) (o:Nat) (d:Td),layFs P n fs o d=true→∀ (q:Nat),(∀ f∈fs,f.name≠ "_" ∧P.keyTypeAt q f.type=true)→eqD d=true→∀ (x:T d),wfB d x=true→∀ m,n≤m→∀ (pre:List Value),pre.length=o→
  ∃ ls,fs.mapM (fun f=>P.keyLits m f.type (((pre++cK d x).drop f.offset).take (P.cellsOf f.type)))=some ls∧ls.flatten=lits d x
 | 0,fs,o,d,h=>by simp [layFs] at h
 | n+1,[],o,d,h=>by simp [layFs] at h
 | n+1,[f],o,d,h=>by
  intro q hq he x hw m hm pre hpre
  simp only [layFs,uI,beq_iff_eq] at h
  obtain ⟨ho,h⟩:=h
  have h1:=iF n f.type d h q (hq f List.mem_cons_self).2 he x hw m (by omega)
  refine ⟨[lits d x], ?_,by simp⟩
  rw [List.mapM_cons,List.mapM_nil,ho,←hpre,List.drop_left,cj h,uT (by rw [cv d x he];exact uP _),h1]
  rfl
 | n+1,f::g::fs,o,d,h=>by
  intro q hq he x hw m hm pre hpre
  simp only [layFs] at h
  split at h
  ·rename_i d e
   simp only [uI,beq_iff_eq] at h
   obtain ⟨⟨ho,h⟩,h'⟩:=h
   simp only [eqD,uI] at he
   simp only [wfB,uI] at hw
   have h1:=iF n f.type d h q (hq f List.mem_cons_self).2 he.1 x.1 hw.1 m (by omega)
   obtain ⟨ls,h2,h3⟩:=fs_ok n (g::fs) _ e h' q (fun f hf=>hq f (List.mem_cons_of_mem _ hf)) he.2 x.2 hw.2 m (by omega) (pre++cK d x.1) (by rw [uX,hpre,cv d x.1 he.1])
   refine ⟨lits d x.1::ls, ?_,by simp [lits,h3]⟩
   rw [uY] at h2
   rw [List.mapM_cons]
   simp only [cK]
   rw [ho,←hpre,List.drop_left,cj h,u3 (by rw [cv d x.1 he.1];exact uP _),uT (by rw [cv d x.1 he.1];exact uP _),h1,h2]
   rfl
  ·cases h
end
theorem mY {w:World}{B:List Nat}{η:List Value}{vs us:List Value}(h:RelL w B η (vs.map .c) us):us=vs:=by
 apply List.ext_getElem?
 intro i
 rcases vk i vs.length with hi | hi
 ·obtain ⟨u,h1,h2⟩:=h.2 i (.c vs[i]) (by rw [List.getElem?_map,List.getElem?_eq_getElem hi];rfl)
  rw [h1,List.getElem?_eq_getElem hi,u1 h2]
 ·have:=h.1
  rw [uM] at this
  rw [List.getElem?_eq_none hi,List.getElem?_eq_none (by omega)]
end
section
variable {P:Program} {H:List E2} {ρ:Operand→V} {o:Oper} {R:Type}
def iN (P:Program)(t:TypeId)(d:Td):Bool:=eqD d&&en P 24 t d&&P.keyTypeAt 24 t&& !P.eqGuardType P.depth t&&(match P.underlying t with | some (.struct _) | some (.array _ _)=>true | _=>false)
def qi (P:Program)(op:BinOp)(t:TypeId)(x y:V)(k:V→Tree R):Tree R:=
 match tdOf P 12 t with
 | some d=>if iN P t d=true∧isAgg x=true∧isAgg y=true then (match dz x,dz y with
  | some sx,some sy=>decK d sx fun a r=>decK d sy fun b r'=>if wL r=0∧wL r'=0 then (match op with
   | .eql=>.ite (wfB d a&&wfB d b) (k (.c (.bool (@decide (a=b) (decT d a b))))) .fail
   | .neq=>.ite (wfB d a&&wfB d b) (k (.c (.bool (!(@decide (a=b) (decT d a b)))))) .fail
   | _=>.fail) else .fail
  | _,_=>.fail) else .fail
 | none=>.fail
theorem nv {d:Td}{x:V}{segs:List V}{w:World}{B:List Nat}{η:List Value}{v:Value}{a:T d}{r:List V}(hs:dz x=some segs)(hw:Wk (al segs) (cells d a++al r))(hr:wL r=0)(hv:Rel w B η (eu x) v):RelL w B η (cells d a) v.cells.toList:=by
 obtain ⟨s1,s2,s3⟩:=cY hs
 have hr0:al r=[]:=gt (by rw [ep];exact hr)
 rw [hr0,u5] at hw
 have hL:=hv.toL (fun l e=>by rw [e] at s2;cases s2)
 rw [s1] at hL
 exact hw w B η _ hL
theorem kZ {x:V}{w:World}{B:List Nat}{η:List Value}{v:Value}(h:isAgg x=true)(hv:Rel w B η (ex x) v):∃ cs,v= .agg cs:=by
 rcases jw h with ⟨l,rfl⟩ | ⟨d',n',a',rfl⟩ | ⟨cs,rfl⟩
 ·obtain ⟨cs,e,_⟩:=Rel.aggL hv;exact ⟨cs,e⟩
 ·obtain ⟨cs,e,_⟩:=Rel.aggL hv;exact ⟨cs,e⟩
 ·exact ⟨cs,u1 hv⟩
theorem oe {t:TypeId}{d:Td}(hb:iN P t d=true){a b:T d}(ha:wfB d a=true)(hb':wfB d b=true){xs ys:Array Value}(hx:xs.toList=cK d a)(hy:ys.toList=cK d b)(w:World):(Op.equalIn 10000 t (.agg xs) (.agg ys)).run P w= .ok (@decide (a=b) (decT d a b)) w:=by
 simp only [iN,uI] at hb
 obtain ⟨⟨⟨⟨he,hl⟩,hk⟩,_⟩,hrow⟩:=hb
 have hform:∀ (cs:Array Value) (z:T d),cs.toList=cK d z→(Value.agg cs).formed P t=true:=fun cs z hc=>by
  have hsz:cs.size=P.cellsOf t:=by rw [←Array.length_toList,hc,cv d z he,cj hl]
  unfold Value.formed
  split at hrow
  ·rename_i hu;simp [hu,hsz]
  ·rename_i hu;simp [hu,hsz]
  ·cases hrow
 obtain ⟨r,h1,h2⟩:=run_equalIn_deep (P:=P) 9976 24 t hk w 24 24 (.agg xs) (.agg ys) (lits d a) (lits d b) (hform xs a hx) (hform ys b hy)
  (by simp only [Value.cells,hx];exact iF 24 t d hl 24 hk he a ha 24 (uP _)) (by simp only [Value.cells,hy];exact iF 24 t d hl 24 hk he b hb' 24 (uP _))
 rw [show 9976+24=10000 from rfl] at h1
 rw [h1]
 congr 1
 cases r with
 | true=>exact (@decide_eq_true _ (decT d a b) (hJ d a b he (h2.1 rfl))).symm
 | false=>exact (@decide_eq_false _ (decT d a b) (fun h=>by have:=h2.2 (by rw [h]);cases this)).symm
theorem qg {op:BinOp}{t t2:TypeId}{x y:Operand}{k:V→Tree R}{res:R}(hp:aZ ρ o)(ho:o.op= .binOp op t x y t2)(h:(qi P op t (ρ x) (ρ y) k).run=some res):∃ r,(k r).run=some res∧Does P H ρ o r:=by
 unfold qi at h
 split at h
 ·rename_i d htd
  split at h
  ·rename_i hc
   obtain ⟨hb,ax,ay⟩:=hc
   split at h
   ·rename_i sx sy hsx hsy
    obtain ⟨a,r,h1,wa⟩:=bU _ _ _ _ h
    obtain ⟨b,r',h2,wb⟩:=bU _ _ _ _ h1
    split at h2
    ·rename_i hr
     have main:∀ (n0:Nat) (Bx:List Nat) (w:World) (B:List Nat) (η:List Value) (ρv:Operand→Value),Inv n0 Bx w B η (H.map exE)→(∀ x∈o.op.operands,Rel2 w B η (ρ x) (ρv x)∧au n0 (ex (ρ x)) (ρv x))→wfB d a=true→wfB d b=true→∃ xs ys,ρv x= .agg xs∧ρv y= .agg ys∧(Op.equalIn 10000 t (.agg xs) (.agg ys)).run P w= .ok (@decide (a=b) (decT d a b)) w:=by
      intro n0 Bx w B η ρv inv he wa1 wb1
      have he1:eqD d=true:=by simp only [iN,uI] at hb;exact hb.1.1.1.1
      have hx:=aV hp he x (by simp [ho,eq])
      have hy:=aV hp he y (by simp [ho,eq])
      obtain ⟨xs,ex1⟩:=kZ ax hx
      obtain ⟨ys,ey1⟩:=kZ ay hy
      have lx:=nv hsx wa hr.1 (bV hp he x (by simp [ho,eq]))
      have ly:=nv hsy wb hr.2 (bV hp he y (by simp [ho,eq]))
      rw [cz d a he1,ex1] at lx
      rw [cz d b he1,ey1] at ly
      exact ⟨xs,ys,ex1,ey1,oe hb wa1 wb1 (mY lx) (mY ly) w⟩
     have hg:P.eqGuardType P.depth t=false:=by simp only [iN,uI,Bool.not_eq_true'] at hb;exact hb.1.2
     split at h2
     ·rcases ne h2 with ⟨hw,h3⟩ | ⟨_,h3⟩
      ·simp only [uI] at hw
       refine ⟨_,h3,fun n0 Bx w B η ρv inv he=>.of rfl (fun _ _ h=>by simp [ex,ex0] at h) ?_⟩
       obtain ⟨xs,ys,e1,e2,e3⟩:=main n0 Bx w B η ρv inv he hw.1 hw.2
       refine .of_run (v:=.bool (@decide (a=b) (decT d a b))) ?_ (.c _ _)
       simp only [execOp,ho,e1,e2,ge,run_eqGuard_agg w _ t x y xs ys hg,Result.andThen_ok,run_eql_struct,e3]
       rfl
      ·cases h3
     ·rcases ne h2 with ⟨hw,h3⟩ | ⟨_,h3⟩
      ·simp only [uI] at hw
       refine ⟨_,h3,fun n0 Bx w B η ρv inv he=>.of rfl (fun _ _ h=>by simp [ex,ex0] at h) ?_⟩
       obtain ⟨xs,ys,e1,e2,e3⟩:=main n0 Bx w B η ρv inv he hw.1 hw.2
       refine .of_run (v:=.bool (!(@decide (a=b) (decT d a b)))) ?_ (.c _ _)
       simp only [execOp,ho,e1,e2,ge,run_eqGuard_agg w _ t x y xs ys hg,Result.andThen_ok,run_neq_struct,e3]
       rfl
      ·cases h3
     ·cases h2
    ·cases h2
   ·cases h
  ·cases h
 ·cases h
def ptrT (P:Program)(t:TypeId):Option TypeId:=match P.underlying t with
 | some (.pointer e)=>some e
 | _=>none
theorem eB {t e:TypeId}(h:ptrT P t=some e):P.underlying t=some (.pointer e):=by
 unfold ptrT at h
 split at h
 ·rename_i hu;injection h with h;subst h;exact hu
 ·cases h
def niK (P:Program)(op:BinOp)(t:TypeId)(x y:V)(k:V→Tree R):Tree R:=
 match x,y with
 | .nn,.c .nilIface=>(match P.isIface t,op with
  | true,.eql=>k (.c (.bool false))
  | true,.neq=>k (.c (.bool true))
  | _,_=>.fail)
 | .c .nilIface,.c .nilIface=>(match P.isIface t,op with
  | true,.eql=>k (.c (.bool true))
  | true,.neq=>k (.c (.bool false))
  | _,_=>.fail)
 | _,_=>.fail
theorem ub {op:BinOp}{t t2:TypeId}{x y:Operand}{k:V→Tree R}{res:R}(hp:aZ ρ o)(ho:o.op= .binOp op t x y t2)(hy0:y= .const .nilIface)(h:(niK P op t (ρ x) (ρ y) k).run=some res):∃ r,(k r).run=some res∧Does P H ρ o r:=by
 subst hy0
 have hinx:x∈o.op.operands:=by simp [ho,eq]
 have hiny:(.const .nilIface:Operand)∈o.op.operands:=by simp [ho,eq]
 unfold niK at h
 split at h
 ·rename_i hx hy
  have key:∀ (b:Bool),P.isIface t=true→((op= .eql∧b=false)∨(op= .neq∧b=true))→Does P H ρ o (.c (.bool b)):=fun b hu hb n0 Bx w B η ρv inv he=>by
   refine .of rfl (fun _ _ h=>by simp [ex,ex0] at h) ?_
   have h1:=aV hp he x hinx
   have h2:=aV hp he _ hiny
   rw [hx] at h1;rw [hy] at h2
   have h2:=u1 h2
   have h1':∃ tx vx,ρv x= .iface tx vx:=by generalize ρv x=v at h1;cases h1;exact ⟨_,_,rfl⟩
   obtain ⟨tx,vx,h1'⟩:=h1'
   refine .of_run (v:=.bool b) ?_ (.c _ _)
   rcases hb with ⟨rfl,rfl⟩ | ⟨rfl,rfl⟩
   ·simp [execOp,ho,h1',h2,ge,eqGuard,run_eql_iface_nil w t hu]
   ·simp [execOp,ho,h1',h2,ge,eqGuard,run_neq_iface_nil w t hu]
  split at h
  ·rename_i hu;exact ⟨_,h,key _ hu (.inl ⟨rfl,rfl⟩)⟩
  ·rename_i hu;exact ⟨_,h,key _ hu (.inr ⟨rfl,rfl⟩)⟩
  ·cases h
 ·rename_i hx hy
  have key:∀ (b:Bool),P.isIface t=true→((op= .eql∧b=true)∨(op= .neq∧b=false))→Does P H ρ o (.c (.bool b)):=fun b hu hb n0 Bx w B η ρv inv he=>by
   refine .of rfl (fun _ _ h=>by simp [ex,ex0] at h) ?_
   have h1:=aV hp he x hinx
   have h2:=aV hp he _ hiny
   rw [hx] at h1;rw [hy] at h2
   have h1:=u1 h1
   have h2:=u1 h2
   refine .of_run (v:=.bool b) ?_ (.c _ _)
   rcases hb with ⟨rfl,rfl⟩ | ⟨rfl,rfl⟩
   ·simp [execOp,ho,h1,h2,ge,eqGuard_nil_constR,run_eql_nil_nil_at w t hu]
   ·simp [execOp,ho,h1,h2,ge,eqGuard_nil_constR,run_neq_nil_nil_at w t hu]
  split at h
  ·rename_i hu;exact ⟨_,h,key _ hu (.inl ⟨rfl,rfl⟩)⟩
  ·rename_i hu;exact ⟨_,h,key _ hu (.inr ⟨rfl,rfl⟩)⟩
  ·cases h
 ·cases h
def rM (P:Program)(op:BinOp)(t:TypeId)(x y:V)(k:V→Tree R):Tree R:=
 match x,y with
 | .box _ _,.c (.pointer none)=>(match ptrT P t,op with
  | some _,.eql=>k (.c (.bool false))
  | some _,.neq=>k (.c (.bool true))
  | _,_=>.fail)
 | .c (.pointer none),.c (.pointer none)=>(match ptrT P t,op with
  | some _,.eql=>k (.c (.bool true))
  | some _,.neq=>k (.c (.bool false))
  | _,_=>.fail)
 | .str a,.str b=>(match op with
  | .add=>.ite (decide (a.length+b.length≤maxLen)) (k (.str (a++b))) .fail
  | _=>.fail)
 | .c (.string a),.str b=>(match op with
  | .add=>.ite (decide (a.data.toList.length+b.length≤maxLen)) (k (.str (a.data.toList++b))) .fail
  | _=>.fail)
 | .str a,.c (.string b)=>(match op with
  | .add=>.ite (decide (a.length+b.data.toList.length≤maxLen)) (k (.str (a++b.data.toList))) .fail
  | _=>.fail)
 | x,y=>qi P op t x y k
theorem pP {n0:Nat}{w:World}{B:List Nat}{η:List Value}{ρv:Operand→Value}{t t':TypeId}{x y:Operand}{a b:List UInt8}(ho:o.op= .binOp .add t x y t')(h1:ρv x= .string ⟨a.toArray⟩)(h2:ρv y= .string ⟨b.toArray⟩)(hb:a.length+b.length≤maxLen):OpOK P n0 w ρv o B η (.c (.string ⟨(a++b).toArray⟩)):=by
 have hs1:(uU a.toArray).size=a.length:=by show a.toArray.size=_;simp
 have hs2:(uU b.toArray).size=b.length:=by show b.toArray.size=_;simp
 have hcat:(uU a.toArray)++(uU b.toArray)=⟨(a++b).toArray⟩:=by
  apply ByteArray.ext
  rw [ByteArray.data_append]
  apply vh
  simp
 have hlim:¬ (((a.length+b.length:Nat):Int) > IntKind.i64.max):=by
  have:(maxLen:Int)≤IntKind.i64.max:=by decide
  omega
 refine .of_run (v:=.string ⟨(a++b).toArray⟩) ?_ (.c _ _)
 simp only [execOp,ho,h1,h2,ge]
 simp only [eqGuard,binOp,Op.stringOp,hs1,hs2,hcat]
 rw [if_neg hlim]
 rfl
theorem nC {op:BinOp}{t t2:TypeId}{x y:Operand}{k:V→Tree R}{res:R}(hp:aZ ρ o)(ho:o.op= .binOp op t x y t2)(h:(rM P op t (ρ x) (ρ y) k).run=some res):∃ r,(k r).run=some res∧Does P H ρ o r:=by
 have hinx:x∈o.op.operands:=by simp [ho,eq]
 have hiny:y∈o.op.operands:=by simp [ho,eq]
 unfold rM at h
 split at h
 ·rename_i id off hx hy
  have key:∀ (b:Bool) (e:TypeId),P.underlying t=some (.pointer e)→((op= .eql∧b=false)∨(op= .neq∧b=true))→Does P H ρ o (.c (.bool b)):=fun b e hu hb n0 Bx w B η ρv inv he=>by
   refine .of rfl (fun _ _ h=>by simp [ex,ex0] at h) ?_
   have h1:=aV hp he x hinx
   have h2:=aV hp he y hiny
   rw [hx] at h1;rw [hy] at h2
   have h2:=u1 h2
   have h1':∃ q,ρv x= .pointer (some q):=by generalize ρv x=v at h1;cases h1;exact ⟨_,rfl⟩
   obtain ⟨q,h1'⟩:=h1'
   have hu':P.underlying t=some (.pointer (P.pointee t)):=by simp [Program.pointee,hu]
   refine .of_run (v:=.bool b) ?_ (.c _ _)
   rcases hb with ⟨rfl,rfl⟩ | ⟨rfl,rfl⟩
   ·simp [execOp,ho,h1',h2,ge,eqGuard,run_eql_pointer_nil w t (some q) hu']
   ·simp [execOp,ho,h1',h2,ge,eqGuard,run_neq_pointer_nil w t (some q) hu']
  split at h
  ·rename_i e he;exact ⟨_,h,key _ _ (eB he) (.inl ⟨rfl,rfl⟩)⟩
  ·rename_i e he;exact ⟨_,h,key _ _ (eB he) (.inr ⟨rfl,rfl⟩)⟩
  ·cases h
 ·rename_i hx hy
  have key:∀ (b:Bool) (e:TypeId),P.underlying t=some (.pointer e)→((op= .eql∧b=true)∨(op= .neq∧b=false))→Does P H ρ o (.c (.bool b)):=fun b e hu hb n0 Bx w B η ρv inv he=>by
   refine .of rfl (fun _ _ h=>by simp [ex,ex0] at h) ?_
   have h1:=aV hp he x hinx
   have h2:=aV hp he y hiny
   rw [hx] at h1;rw [hy] at h2
   have h1:=u1 h1
   have h2:=u1 h2
   have hu':P.underlying t=some (.pointer (P.pointee t)):=by simp [Program.pointee,hu]
   refine .of_run (v:=.bool b) ?_ (.c _ _)
   rcases hb with ⟨rfl,rfl⟩ | ⟨rfl,rfl⟩
   ·simp [execOp,ho,h1,h2,ge,eqGuard,run_eql_pointer_nil w t none hu']
   ·simp [execOp,ho,h1,h2,ge,eqGuard,run_neq_pointer_nil w t none hu']
  split at h
  ·rename_i e he;exact ⟨_,h,key _ _ (eB he) (.inl ⟨rfl,rfl⟩)⟩
  ·rename_i e he;exact ⟨_,h,key _ _ (eB he) (.inr ⟨rfl,rfl⟩)⟩
  ·cases h
 ·rename_i a b hx hy
  split at h
  ·rcases ne h with ⟨hb,h⟩ | ⟨_,h⟩
   ·have hb:=of_decide_eq_true hb
    refine ⟨_,h,fun n0 Bx w B η ρv inv he=>.of rfl (fun _ _ h=>by simp [ex,ex0] at h) ?_⟩
    have h1:=aV hp he x hinx
    have h2:=aV hp he y hiny
    rw [hx] at h1;rw [hy] at h2
    exact pP ho (u1 h1) (u1 h2) hb
   ·cases h
  ·cases h
 ·rename_i a b hx hy
  split at h
  ·rcases ne h with ⟨hb,h⟩ | ⟨_,h⟩
   ·have hb:=of_decide_eq_true hb
    refine ⟨_,h,fun n0 Bx w B η ρv inv he=>.of rfl (fun _ _ h=>by simp [ex,ex0] at h) ?_⟩
    have h1:=aV hp he x hinx
    have h2:=aV hp he y hiny
    rw [hx] at h1;rw [hy] at h2
    exact pP ho (by rw [u1 h1]) (u1 h2) hb
   ·cases h
  ·cases h
 ·rename_i a b hx hy
  split at h
  ·rcases ne h with ⟨hb,h⟩ | ⟨_,h⟩
   ·have hb:=of_decide_eq_true hb
    refine ⟨_,h,fun n0 Bx w B η ρv inv he=>.of rfl (fun _ _ h=>by simp [ex,ex0] at h) ?_⟩
    have h1:=aV hp he x hinx
    have h2:=aV hp he y hiny
    rw [hx] at h1;rw [hy] at h2
    exact pP ho (u1 h1) (by rw [u1 h2]) hb
   ·cases h
  ·cases h
 ·exact qg hp ho h
theorem kD {n0:Nat}{w:World}{B:List Nat}{η:List Value}{ρv:Operand→Value}{ρA:Operand→AV}(he:∀ x∈o.op.operands,Rel w B η (ρA x) (ρv x)){t e:TypeId}{x:Operand}{lo hi:Option Operand}{l:List AV}{m k a b:Nat}(ho:o.op= .slice t x lo hi none)(hu:P.underlying t=some (.array m e))(hx:ρA x= .adr l)(hm:m≤maxLen)
  (hk:k=P.cellsOf e) (hk1:1≤k) (hml:m*k≤l.length) (hlo:aX ρA 0 lo=some a) (hhi:aX ρA m hi=some b) (hab:a≤b) (hb:b≤m):OpOK P n0 w ρv o B η (.sl ((l.drop (a*k)).take ((b-a)*k)) k):=by
 have hel:∀ y,lo=some y→Rel w B η (ρA y) (ρv y):=fun y h=>he y (by simp [ho,eq,h])
 have heh:∀ y,hi=some y→Rel w B η (ρA y) (ρv y):=fun y h=>he y (by simp [ho,eq,h])
 have h1:=he x (by simp [ho,eq])
 rw [hx] at h1
 have h1':∃ ad us,ρv x= .pointer (some ad)∧At w B ad l.length us∧∀ i y,l[i]? =some y→Rel w B [] y (us i):=by
  generalize ρv x=v at h1
  cases h1 with
  | adr _ _ ad us ha hr=>exact ⟨ad,us,rfl,ha,hr⟩
 obtain ⟨ad,us,hv,hat,hr⟩:=h1'
 obtain ⟨ii,hii,hs⟩:=aT (t:=e) (P:=P) (by omega)
 refine .of_run (v:=.slice (some (if m=a then ad else ad.add (a*k))) (b-a) (m-a)) ?_ ?_
 ·have hbounds:(uR false m m (lo.map ρv) (hi.map ρv) none).run P w= .ok (a,b,m) w:=by
   have hb':∀ z:Int,b=z.toNat→0≤z→z≤(m:Int):=by omega
   have ha':∀ z:Int,a=z.toNat→0≤z→z≤(b:Int):=by omega
   rcases a7 hel hlo with ⟨rfl,rfl⟩ | ⟨y,kk,z,rfl,hy,hz,hza⟩
   ·rcases a7 heh hhi with ⟨rfl,rfl⟩ | ⟨y2,kk2,z2,rfl,hy2,hz2,hzb⟩
    ·simp [uR,ge]
    ·subst hzb
     simp [uR,ge,hy2,ap (P:=P) ⟨hz2,hb' _ rfl hz2⟩]
   ·subst hza
    rcases a7 heh hhi with ⟨rfl,rfl⟩ | ⟨y2,kk2,z2,rfl,hy2,hz2,hzb⟩
    ·simp [uR,ge,hy,ap (P:=P) ⟨hz,ha' _ rfl hz⟩]
    ·subst hzb
     simp [uR,ge,hy,hy2,ap (P:=P) ⟨hz2,hb' _ rfl hz2⟩,ap (P:=P) ⟨hz,ha' _ rfl hz⟩]
  simp [execOp,ho,Instr.sliceAt,Instr.sureAddr,ge,run_underlying hu,hv,hbounds,aR hii,hs,hk]
 ·have hlen:((l.drop (a*k)).take ((b-a)*k)).length=(b-a)*k:=by
   rw [u2,uZ]
   refine vn ?_
   have:(b-a)*k+a*k≤l.length:=by rw [←Nat.add_mul];exact Nat.le_trans (uO k (by omega)) hml
   omega
  refine .sl _ _ _ _ _ _ (fun i=>us (a*k+i)) hk1 hlen.symm (by omega) (by omega) (fun h0=> ?_) (fun i y hy=> ?_)
  ·rw [if_neg (by omega)]
   refine ⟨_,rfl, ?_⟩
   have:=hat.shift (a*k)
   exact ⟨this.spot,this.lt,this.out,fun i hi=>this.cell i (by
    rw [hlen] at hi
    have:(b-a)*k+a*k≤l.length:=by rw [←Nat.add_mul];exact Nat.le_trans (uO k (by omega)) hml
    omega)⟩
  ·rw [List.getElem?_take] at hy
   split at hy
   ·rw [List.getElem?_drop] at hy;exact hr _ y hy
   ·cases hy
def fO (P:Program)(ρ:Operand→V)(m:Nat)(e:TypeId)(x:V)(lo hi:Option Operand)(k:V→Tree R):Tree R:=
 match x with
 | .adr (.arr d n a::_)=>if n=m∧wd d=P.cellsOf e∧1≤wd d∧m≤maxLen then (match lo,hi with
   | none,none=>k (.lst d a.l)
   | some lo,none=>intK (ρ lo) fun z=>.bind (dh a.l z) fun s=>k (.lst d s)
   | none,some hi=>intK (ρ hi) fun z=>.bind (cN a.l z) fun s=>k (.lst d s)
   | some lo,some hi=>intK (ρ lo) fun z=>intK (ρ hi) fun z2=>.bind (subI a.l z z2) fun s=>k (.lst d s)) else .fail
 | .box id 0=>(match lo,hi with
   | none,none=>if 1≤P.cellsOf e then k (.bsl id m) else .fail
   | _,_=>.fail)
 | _=>.fail
theorem hZ {t e:TypeId}{m id:Nat}{x:Operand}(hp:aZ ρ o)(ho:o.op= .slice t x none none none)(hu:P.underlying t=some (.array m e))(hx:ρ x= .box id 0)(hc:1≤P.cellsOf e)(H:List E2):Does P H ρ o (.bsl id m):=by
 intro n0 Bx w B η ρv inv he N hN
 have hx0:=aV hp he x (by simp [ho,eq])
 rw [hx] at hx0
 have hx0:Rel w B η (.box id 0) (ρv x):=hx0
 have hx1:∃ b,ρv x= .pointer (some ⟨b,0,none⟩)∧η[id]? =some (.pointer (some ⟨b,0,none⟩)):=by
  generalize ρv x=v at hx0
  cases hx0 with
  | box _ _ _ b hid=>exact ⟨b,rfl,hid⟩
 obtain ⟨b,hv,hid⟩:=hx1
 obtain ⟨ii,hii,hs⟩:=aT (t:=e) (P:=P) (by omega)
 have hbounds:(uR false m m none none none).run P w= .ok (0,m,m) w:=by simp [uR,ge]
 have hadd:(⟨b,0,none⟩:Addr).add 0=⟨b,0,none⟩:=by rw [vd]
 unfold u7
 have hrun:(execOp ρv o).run P w= .ok (.value (.slice (some ⟨b,0,none⟩) m m)) w:=by
  simp [execOp,ho,Instr.sliceAt,Instr.sureAddr,ge,run_underlying hu,hv,hbounds,aR hii,hs,hadd]
 rw [hrun]
 exact hN _ _ (Gk.refl _ _ w) ⟨b,hid,rfl⟩ (fun h=>by cases h)
theorem kE {t e:TypeId}{m:Nat}{x:Operand}{lo hi:Option Operand}{k:V→Tree R}{res:R}(hp:aZ ρ o)(ho:o.op= .slice t x lo hi none)(hu:P.underlying t=some (.array m e))(h:(fO P ρ m e (ρ x) lo hi k).run=some res):∃ r,(k r).run=some res∧Does P H ρ o r:=by
 unfold fO at h
 split at h
 ·rename_i d n arr rest hx
  split at h
  ·rename_i hc
   obtain ⟨rfl,hwd,hw1,hm⟩:=hc
   have hal:=arr.h
   have key:∀ (a b:Nat),aX (fun y=>ex (ρ y)) 0 lo=some a→aX (fun y=>ex (ρ y)) n hi=some b→a≤b→b≤n→Does P H ρ o (.lst d ((arr.l.drop a).take (b-a))):=fun a b ha hb hab hbl n0 Bx w B η ρv inv he=>by
    refine .of rfl (fun _ _ h=>by simp [ex,ex0] at h) ?_
    have hfl:(flat d arr.l).length=n*wd d:=by rw [am,hal]
    have:=kD (P:=P) (ρA:=fun y=>ex (ρ y)) (n0:=n0) (aV hp he) ho hu (l:=flat d arr.l++al rest) (by rw [hx];simp [ex,ex0,aj,segA]) hm hwd hw1 (by rw [uX,hfl];omega) ha hb hab hbl
    rw [uW (by rw [hfl];exact uO _ (by omega)),u3 (by rw [uZ,hfl,←Nat.sub_mul];exact uO _ (by omega))] at this
    simp only [ex,ex0,cS,df]
    exact this
   have exi:∀ (y:Operand) kk z,ρ y= .c (.int kk z)→ex (ρ y)= .c (.int kk z):=fun y kk z h=>by rw [h];rfl
   split at h
   ·have:=key 0 n rfl rfl (vg _) (uP _)
    rw [u6,vj,uT (by rw [hal];exact uP _)] at this
    exact ⟨_,h,this⟩
   ·obtain ⟨kk,z,hz,h⟩:=aY h
    obtain ⟨s,hs,h⟩:=uN h
    unfold dh at hs
    split at hs
    ·rename_i hc
     injection hs with hs;subst hs
     have:=key z.toNat n (by simp [aX,exi _ _ _ hz,hc.1]) rfl (by omega) (uP _)
     rw [uT (by rw [uZ,hal];exact uP _)] at this
     exact ⟨_,h,this⟩
    ·cases hs
   ·obtain ⟨kk,z,hz,h⟩:=aY h
    obtain ⟨s,hs,h⟩:=uN h
    unfold cN at hs
    split at hs
    ·rename_i hc
     injection hs with hs;subst hs
     have:=key 0 z.toNat rfl (by simp [aX,exi _ _ _ hz,hc.1]) (vg _) (by omega)
     rw [u6,vj] at this
     exact ⟨_,h,this⟩
    ·cases hs
   ·obtain ⟨kk,z,hz,h⟩:=aY h
    obtain ⟨kk2,z2,hz2,h⟩:=aY h
    obtain ⟨s,hs,h⟩:=uN h
    unfold subI at hs
    split at hs
    ·rename_i hc
     injection hs with hs;subst hs
     exact ⟨_,h,key z.toNat z2.toNat (by simp [aX,exi _ _ _ hz,hc.1]) (by simp [aX,exi _ _ _ hz2];omega) (by omega) (by omega)⟩
    ·cases hs
  ·cases h
 ·rename_i id hx
  split at h
  ·split at h
   ·rename_i hc
    exact ⟨_,h,hZ hp ho hu hx hc _⟩
   ·cases h
  ·cases h
 ·cases h
def hU (ρ:Operand→V)(s:List UInt8)(lo hi:Option Operand)(k:V→Tree R):Tree R:=
 match lo,hi with
 | none,none=>k (.str s)
 | some lo,none=>intK (ρ lo) fun z=>.bind (dh s z) fun s=>k (.str s)
 | none,some hi=>intK (ρ hi) fun z=>.bind (cN s z) fun s=>k (.str s)
 | some lo,some hi=>intK (ρ lo) fun z=>intK (ρ hi) fun z2=>.bind (subI s z z2) fun s=>k (.str s)
theorem lI {n0:Nat}{w:World}{B:List Nat}{η:List Value}{ρv:Operand→Value}{ρA:Operand→AV}(he:∀ x∈o.op.operands,Rel w B η (ρA x) (ρv x)){t:TypeId}{x:Operand}{lo hi:Option Operand}{s:List UInt8}{a b:Nat}(ho:o.op= .slice t x lo hi none)(hu:P.underlying t=some .string)(hx:ρA x= .c (.string ⟨s.toArray⟩))
  (hlo:aX ρA 0 lo=some a) (hhi:aX ρA s.length hi=some b) (hab:a≤b) (hb:b≤s.length):OpOK P n0 w ρv o B η (.c (.string ⟨((s.drop a).take (b-a)).toArray⟩)):=by
 have hel:∀ y,lo=some y→Rel w B η (ρA y) (ρv y):=fun y h=>he y (by simp [ho,eq,h])
 have heh:∀ y,hi=some y→Rel w B η (ρA y) (ρv y):=fun y h=>he y (by simp [ho,eq,h])
 have h1:=he x (by simp [ho,eq])
 rw [hx] at h1
 have hv:=u1 h1
 have hsz:(uU s.toArray).size=s.length:=by show s.toArray.size=_;simp
 have hext:(uU s.toArray).extract a b=⟨((s.drop a).take (b-a)).toArray⟩:=by
  apply ByteArray.ext
  rw [ByteArray.data_extract]
  apply vh
  simp [List.extract]
 refine .of_run (v:=.string ⟨((s.drop a).take (b-a)).toArray⟩) ?_ (.c _ _)
 have hbounds:(uR false s.length s.length (lo.map ρv) (hi.map ρv) none).run P w= .ok (a,b,s.length) w:=by
  have hb':∀ z:Int,b=z.toNat→0≤z→z≤(s.length:Int):=by omega
  have ha':∀ z:Int,a=z.toNat→0≤z→z≤(b:Int):=by omega
  rcases a7 hel hlo with ⟨rfl,rfl⟩ | ⟨y,kk,z,rfl,hy,hz,hza⟩
  ·rcases a7 heh hhi with ⟨rfl,rfl⟩ | ⟨y2,kk2,z2,rfl,hy2,hz2,hzb⟩
   ·simp [uR,ge]
   ·subst hzb
    simp [uR,ge,hy2,ap (P:=P) ⟨hz2,hb' _ rfl hz2⟩]
  ·subst hza
   rcases a7 heh hhi with ⟨rfl,rfl⟩ | ⟨y2,kk2,z2,rfl,hy2,hz2,hzb⟩
   ·simp [uR,ge,hy,ap (P:=P) ⟨hz,ha' _ rfl hz⟩]
   ·subst hzb
    simp [uR,ge,hy,hy2,ap (P:=P) ⟨hz2,hb' _ rfl hz2⟩,ap (P:=P) ⟨hz,ha' _ rfl hz⟩]
 simp [execOp,ho,Instr.sliceAt,Instr.slice,ge,run_underlying hu,hv,hsz,hbounds,hext]
theorem ky {t:TypeId}{x:Operand}{lo hi:Option Operand}{s:List UInt8}{k:V→Tree R}{res:R}(hp:aZ ρ o)(ho:o.op= .slice t x lo hi none)(hu:P.underlying t=some .string)(hx:ρ x= .str s)(h:(hU ρ s lo hi k).run=some res):∃ r,(k r).run=some res∧Does P H ρ o r:=by
 have key:∀ (a b:Nat),aX (fun y=>ex (ρ y)) 0 lo=some a→aX (fun y=>ex (ρ y)) s.length hi=some b→a≤b→b≤s.length→Does P H ρ o (.str ((s.drop a).take (b-a))):=fun a b ha hb hab hbl n0 Bx w B η ρv inv he=>by
  refine .of rfl (fun _ _ h=>by simp [ex,ex0] at h) ?_
  exact lI (P:=P) (ρA:=fun y=>ex (ρ y)) (n0:=n0) (aV hp he) ho hu (by rw [hx];rfl) ha hb hab hbl
 have exi:∀ (y:Operand) kk z,ρ y= .c (.int kk z)→ex (ρ y)= .c (.int kk z):=fun y kk z h=>by rw [h];rfl
 unfold hU at h
 split at h
 ·have:=key 0 s.length rfl rfl (vg _) (uP _)
  simp only [u6,vj,List.take_length] at this
  exact ⟨_,h,this⟩
 ·obtain ⟨kk,z,hz,h⟩:=aY h
  obtain ⟨s',hs,h⟩:=uN h
  unfold dh at hs
  split at hs
  ·rename_i hc
   injection hs with hs;subst hs
   have:=key z.toNat s.length (by simp [aX,exi _ _ _ hz,hc.1]) rfl (by omega) (uP _)
   rw [uT (by rw [uZ];exact uP _)] at this
   exact ⟨_,h,this⟩
  ·cases hs
 ·obtain ⟨kk,z,hz,h⟩:=aY h
  obtain ⟨s',hs,h⟩:=uN h
  unfold cN at hs
  split at hs
  ·rename_i hc
   injection hs with hs;subst hs
   have:=key 0 z.toNat rfl (by simp [aX,exi _ _ _ hz,hc.1]) (vg _) (by omega)
   rw [u6,vj] at this
   exact ⟨_,h,this⟩
  ·cases hs
 ·obtain ⟨kk,z,hz,h⟩:=aY h
  obtain ⟨kk2,z2,hz2,h⟩:=aY h
  obtain ⟨s',hs,h⟩:=uN h
  unfold subI at hs
  split at hs
  ·rename_i hc
   injection hs with hs;subst hs
   exact ⟨_,h,key z.toNat z2.toNat (by simp [aX,exi _ _ _ hz,hc.1]) (by simp [aX,exi _ _ _ hz2];omega) (by omega) (by omega)⟩
  ·cases hs
def tU {α:Type}(n:Nat)(l:List α):Option (Arr α n):=if h:n≤l.length then some ⟨l.take n,by rw [u2];omega⟩ else none
def mJ (P:Program)(t:TypeId)(x:V)(k:V→Tree R):Tree R:=
 match arrT P t with
 | some (m,e)=>(match dV P e x with
  | some ⟨d,l⟩=>if wd d=P.cellsOf e∧1≤wd d∧1≤m then .bind (tU m l) fun a=>k (.adr [.arr d m a]) else .fail
  | none=>.fail)
 | none=>.fail
theorem oz {t:TypeId}{x:Operand}{k:V→Tree R}{res:R}(hp:aZ ρ o)(ho:o.op= .sliceToArrayPointer t x)(h:(mJ P t (ρ x) k).run=some res):∃ r,(k r).run=some res∧Does P H ρ o r:=by
 unfold mJ at h
 split at h
 ·rename_i m e hat
  split at h
  ·rename_i d l hv
   split at h
   ·rename_i hc
    obtain ⟨hwd,hw1,hm1⟩:=hc
    obtain ⟨a,ha,h⟩:=uN h
    unfold tU at ha
    split at ha
    ·rename_i hml
     injection ha with ha;subst ha
     refine ⟨_,h,fun n0 Bx w B η ρv inv he=>.of rfl (fun _ _ h=>by simp [ex,ex0] at h) ?_⟩
     have h1:=jH hv (aV hp he x (by simp [ho,eq]))
     obtain ⟨A,n,c,us,hvv,hk1,hn,hc,hm,hA,hr⟩:=h1.slL
     have hn':n=l.length:=by
      rw [am] at hn
      exact Nat.eq_of_mul_eq_mul_right (by omega) hn
     subst hn'
     obtain ⟨ad,rfl,hat'⟩:=hA (by omega)
     refine .of_run (v:=.pointer (some ad)) ?_ ?_
     ·simp [execOp,ho,Instr.arrayAt,ge,run_underlying (bb hat),hvv]
      intro hlt;omega
     ·have hlen:(flat d (l.take m)).length=m*wd d:=by rw [am,u2,vn hml]
      have e1:ex (.adr [.arr d m ⟨l.take m,by rw [u2];omega⟩])= .adr (flat d (l.take m)):=by simp [ex,ex0,al,segA]
      rw [e1]
      refine .adr _ _ ad us ⟨hat'.spot,hat'.lt,hat'.out,fun i hi=>hat'.cell i ?_⟩ (fun i y hy=>hr i y ?_)
      ·rw [hlen] at hi
       rw [am]
       exact Nat.lt_of_lt_of_le hi (uO _ hml)
      ·rw [cS,List.getElem?_take] at hy
       split at hy
       ·exact hy
       ·cases hy
    ·cases ha
   ·cases h
  ·cases h
 ·cases h
def hX (s:List UInt8)(i:V)(k:V→Tree R):Tree R:=intK i fun z=>.bind (getI s z) fun b=>k (.c (.int .u8 b.toNat))
theorem kz {t:TypeId}{x i:Operand}{s:List UInt8}{k:V→Tree R}{res:R}(hp:aZ ρ o)(ho:o.op= .index t x i)(hu:P.underlying t=some .string)(hx:ρ x= .str s)(h:(hX s (ρ i) k).run=some res):∃ r,(k r).run=some res∧Does P H ρ o r:=by
 unfold hX at h
 obtain ⟨kk,z,hz,h⟩:=aY h
 obtain ⟨b,hb,h⟩:=uN h
 obtain ⟨g0,g1,g2⟩:=j5 hb
 refine ⟨_,h,fun n0 Bx w B η ρv inv he=>.of rfl (fun _ _ h=>by simp [ex,ex0] at h) ?_⟩
 have h1:=aV hp he x (by simp [ho,eq])
 have h2:=aV hp he i (by simp [ho,eq])
 rw [hx] at h1;rw [hz] at h2
 have h1:=u1 h1
 have h2:=u1 h2
 refine .of_run (v:=.int .u8 b.toNat) ?_ (.c _ _)
 have hget:(uU s.toArray)[z.toNat]? =some b:=by
  show (if h:z.toNat<(uU s.toArray).size then some ((uU s.toArray)[z.toNat]) else none)=some b
  have hsz:(uU s.toArray).size=s.length:=by show s.toArray.size=_;simp
  rw [dif_pos (by rw [hsz];exact g2)]
  have:(uU s.toArray)[z.toNat]'(by rw [hsz];exact g2)=s[z.toNat]:=by
   show s.toArray[z.toNat]=_
   simp
  rw [this]
  rw [List.getElem?_eq_getElem g2] at g1
  exact g1
 simp [execOp,ho,Instr.index,asIntOf,ge,run_underlying hu,h1,h2,g0,hget]
end
def rowI (P:Program)(e:TypeId):Option (Nat×Nat):=match P.info? e with
 | some i=>(match i.zero with
  | some z=>if z.cells.size=i.size∧1≤i.size then some (i.size,i.bytes) else none
  | none=>none)
 | none=>none
theorem c9 {P:Program}{e k b:Nat}(h:rowI P e=some (k,b)):∃ i z,P.info? e=some i∧i.zero=some z∧i.size=k∧i.bytes=b∧z.cells.size=k∧1≤k:=by
 unfold rowI at h
 split at h
 ·rename_i i hi
  split at h
  ·rename_i z hz
   split at h
   ·rename_i hc
    injection h with h;injection h with h1 h2;subst h1 h2
    exact ⟨i,z,hi,hz,rfl,rfl,hc.1,hc.2⟩
   ·cases h
  ·cases h
 ·cases h
section
variable {P:Program} {H:List E2} {ρ:Operand→V} {o:Oper} {R:Type}
def jX (P:Program)(t:TypeId)(a b:V)(k:V→Tree R):Tree R:=
 match sliT P t with
 | some (e,w,z)=>(match rowI P e,tdOf P 12 e with
  | some (_,by_),some d=>if wd d=w∧1≤w then intK a fun l=>intK b fun c=>.ite (decide (0≤l∧l≤c∧c.toNat≤maxLen∧c.toNat*by_≤140737488355328))
    (decK d (z.map ck) fun zd r=>if wL r=0 then k (.lst d (vi l.toNat zd)) else .fail) .fail else .fail
  | _,_=>.fail)
 | none=>.fail
theorem kp {d:Td}{z:List Value}{zd:T d}(h:Wk (z.map .c) (cells d zd)):∀ n,Wk ((repL n z).map .c) (flat d (vi n zd))
 | 0=>Wk.refl _
 | n+1=>by
  have e1:repL (n+1) z=z++repL n z:=by simp [repL,List.replicate_succ]
  rw [e1,vl,List.replicate_succ,ch]
  exact h.app (kp h n)
theorem oX {w:World}{B:List Nat}{η:List Value}{l m:List AV}{k:Nat}{v:Value}(hw:Wk l m)(h:Rel w B η (.sl l k) v):Rel w B η (.sl m k) v:=by
 cases h with
 | sl _ _ _ A n c us hk hn hc hm hA hr=>
  have hl:RelL w B [] l ((List.range l.length).map us):=⟨by simp,fun i y hy=>⟨us i,by simp [(List.getElem?_eq_some_iff.1 hy).1],hr i y hy⟩⟩
  have hm':=hw w B [] _ hl
  have hlen:m.length=l.length:=by have:=hm'.1;simpa using this.symm
  refine .sl _ _ _ A n c us hk (by rw [hlen];exact hn) hc hm (fun h0=>by obtain ⟨ad,q1,q2⟩:=hA h0;exact ⟨ad,q1,by rw [hlen];exact q2⟩) (fun i x hx=> ?_)
  obtain ⟨u,q1,q2⟩:=hm'.2 i x hx
  have hi:i<l.length:=by rw [←hlen];exact (List.getElem?_eq_some_iff.1 hx).1
  simp [hi] at q1
  rw [q1];exact q2
theorem n8 {n0:Nat}{w:World}{B:List Nat}{η:List Value}{ρv:Operand→Value}{ρA:Operand→AV}(hlt:∀ b∈B,b<w.heap.size)(he:∀ x∈o.op.operands,Rel w B η (ρA x) (ρv x)){t e k by_:Nat}{z:List Value}{a b:Operand}{kl kc:IntKind}{l c:Int}{i:TypeInfo}(ho:o.op= .makeSlice t a b)(hs:sliT P t=some (e,k,z))(hi:P.info? e=some i)(hby:i.bytes=by_)
  (ha:ρA a= .c (.int kl l)) (hb:ρA b= .c (.int kc c)) (h0:0≤l) (hlc:l≤c) (hm:c.toNat≤maxLen) (hbytes:c.toNat*by_≤140737488355328) (hk1:1≤k):
  OpOK P n0 w ρv o B η (.sl ((repL l.toNat z).map .c) k):=by
 intro N hN
 have h1:=he a (by simp [ho,eq])
 have h2:=he b (by simp [ho,eq])
 rw [ha] at h1
 rw [hb] at h2
 have h1:=h1.ofC
 have h2:=h2.ofC
 obtain ⟨i',zv,hu,hi',hz,hsz,hzc,hzl,hk⟩:=dA hs
 rw [hi] at hi'
 injection hi' with hi'
 subst hi'
 have hb1:(i.bytes:Int)*c≤281474976710656:=by
  have h:((c.toNat*by_:Nat):Int)≤281474976710656:=by omega
  rw [Int.natCast_mul,Int.toNat_of_nonneg (by omega)] at h
  rw [hby,Int.mul_comm];exact h
 have h63:c≤9223372036854775807:=by simp [maxLen] at hm;omega
 have hr:=run_make (P:=P) w t e i zv hu hi hz kl kc l c h0 hlc hb1 h63
 have hzs:zv.cells.size=k:=by rw [←hzl,←hzc];simp
 have hcs:(madeCells zv.cells (c.toNat*i.size)).size=c.toNat*k:=by rw [size_madeCells,hsz]
 have hlist:(madeCells zv.cells (c.toNat*i.size)).toList=repL c.toNat z:=by rw [←hzc,hsz,←hzs];exact fZ _ _ (by omega)
 generalize hcsq:madeCells zv.cells (c.toNat*i.size)=cs at hr hcs hlist
 have g:Gr w (w.alloc (.cells cs e)):=cH (Gr.refl w) _
 have hlcn:l.toNat≤c.toNat:=by omega
 have htake:cs.toList.take (l.toNat*k)=repL l.toNat z:=by
  rw [hlist]
  obtain ⟨m,hme⟩:∃ m,c.toNat=l.toNat+m:=⟨c.toNat-l.toNat,by omega⟩
  have e2:∀ x y:Nat,repL (x+y) z=repL x z++repL y z:=fun x y=>by unfold repL;rw [←List.flatten_append,List.replicate_append_replicate]
  rw [hme,e2,←hzl,←bA]
  exact List.take_left
 unfold u7
 have hrun:(execOp ρv o).run P w= .ok (.value (.slice (some ⟨w.heap.size,0,none⟩) l.toNat c.toNat)) (w.alloc (.cells cs e)):=by
  simp [execOp,ho,h1,h2,ge,hr]
 rw [hrun]
 have hlen:((repL l.toNat z).map AV.c).length=l.toNat*k:=by rw [uM,bA,hzl]
 refine hN _ _ (.gr g) (.sl _ _ _ _ _ _ (fun i=>cs.toList.getD i undef) hk1 hlen.symm hlcn hm (fun _=>⟨_,rfl,rfl,by simp,fun hb=> ?_,fun j hj=> ?_⟩) (fun j x hx=> ?_))
 ·have:=hlt _ hb;simp at this
 ·have hj':j<cs.toList.length:=by
   rw [hlen] at hj
   rw [Array.length_toList,hcs]
   exact Nat.lt_of_lt_of_le hj (uO k hlcn)
  rw [vd,Nat.zero_add,cell_of_row (w.alloc (.cells cs e)) w.heap.size j cs e (0,0) (by show (w.heap.push _)[w.heap.size]? =_;simp)]
  rw [←Array.getElem?_toList,List.getElem?_eq_getElem hj',List.getD_eq_getElem?_getD,List.getElem?_eq_getElem hj',uJ]
 ·rw [List.getElem?_map,uH] at hx
  obtain ⟨u,hu,rfl⟩:=hx
  have hj:j<l.toNat*k:=by have:=(List.getElem?_eq_some_iff.1 hu).1;rw [bA,hzl] at this;exact this
  have:cs.toList[j]? =some u:=by rw [←htake,List.getElem?_take,if_pos hj] at hu;exact hu
  rw [List.getD_eq_getElem?_getD,this,uJ]
  exact .c _ _
theorem md {t:TypeId}{a b:Operand}{k:V→Tree R}{res:R}(hp:aZ ρ o)(ho:o.op= .makeSlice t a b)(h:(jX P t (ρ a) (ρ b) k).run=some res):∃ r,(k r).run=some res∧Does P H ρ o r:=by
 unfold jX at h
 split at h
 ·rename_i e kw z hsl
  split at h
  ·rename_i kw2 by_ d hrow htd
   obtain ⟨ti,zz,q1,q2,q3,q4,q5,q6⟩:=c9 hrow
   split at h
   ·rename_i hwd
    obtain ⟨kl,l,ha,h⟩:=aY h
    obtain ⟨kc,c,hb,h⟩:=aY h
    rcases ne h with ⟨hc,h⟩ | ⟨_,h⟩
    ·obtain ⟨c1,c2,c3,c4⟩:=of_decide_eq_true hc
     obtain ⟨zd,rest,h1,h2⟩:=bU d _ _ _ h
     split at h1
     ·rename_i hrest
      have hr0:al rest=[]:=gt (by rw [ep];exact hrest)
      rw [hr0,u5,a9] at h2
      refine ⟨_,h1,fun n0 Bx w B η ρv inv he=>.of rfl (fun _ _ h=>by simp [ex,ex0] at h) ?_⟩
      have:=n8 (P:=P) (n0:=n0) (ρA:=fun y=>ex (ρ y)) inv.lt (aV hp he) ho hsl q1 q4 (by simp only [ha];rfl) (by simp only [hb];rfl) c1 c2 c3 c4 hwd.2
      refine this.mono fun w' v hv=> ?_
      have:=oX (kp h2 l.toNat) hv
      simp only [ex,ex0,hwd.1]
      exact this
     ·cases h1
    ·cases h
   ·cases h
  ·cases h
 ·cases h
end
end Go.Proofs.Ytmndainldhmnjaa
namespace Go.Proofs.Ytmndainldhmnjaa
set_option maxRecDepth 100000
open Go.RowKit
set_option linter.unusedVariables false
set_option linter.unusedSimpArgs false
def toBy:List Int→Option (List UInt8)
 | []=>some []
 | n::l=>if 0≤n∧n<256 then (match toBy l with | some bs=>some (UInt8.ofNat n.toNat::bs) | none=>none) else none
theorem oG:∀ {l:List Int} {bs:List UInt8},toBy l=some bs→toBs (flat (.int .u8) l)=some bs
 | [],bs,h=>by simp only [toBy,uL.injEq] at h;subst h;rfl
 | n::l,bs,h=>by
  unfold toBy at h
  split at h
  ·rename_i hc
   split at h
   ·rename_i bs' hb
    injection h with h;subst h
    rw [ch]
    simp only [cells,List.cons_append,vb,toBs,toB,hc,and_self,if_true,oG hb]
   ·cases h
  ·cases h
def lenK {R:Type}(P:Program)(H:List E2)(t:TypeId)(x:V)(k:V→Tree R):Tree R:=
 match x with
 | .str s=>if cZ P t=true then k (.c (.int .i64 s.length)) else .fail
 | .own id=>(match cX P t,H[id]? with
  | some _,some (.own d l _)=>if 1≤wd d then k (.c (.int .i64 l.length)) else .fail
  | _,_=>.fail)
 | x=>(match cX P t with
  | some e=>(match dV P e x with
   | some ⟨d,l⟩=>if 1≤wd d then k (.c (.int .i64 l.length)) else .fail
   | none=>.fail)
  | none=>.fail)
def uj {R:Type}(op:BinOp)(k1 k2:IntKind)(a b:Int)(k:V→Tree R):Tree R:=
 match op with
 | .shl=>.ite (decide (0≤b)) (k (.c (.int k1 (k1.wrap (a*2 ^ min b.toNat k1.bits))))) .fail
 | .shr=>.ite (decide (0≤b)) (k (.c (.int k1 (a.fdiv (2 ^ min b.toNat k1.bits))))) .fail
 | .quo=>if k1=k2 then .ite (decide (b=0)) .fail (k (.c (.int k1 (k1.wrap (a.tdiv b))))) else .fail
 | .rem=>if k1=k2 then .ite (decide (b=0)) .fail (k (.c (.int k1 (a.tmod b)))) else .fail
 | op=>if k1=k2 then (match intV op k1 a b with | some v=>k (.c v) | none=>.fail) else .fail
def binK {R:Type}(P:Program)(op:BinOp)(t:TypeId)(x y:V)(k:V→Tree R):Tree R:=
 match x,y with
 | .c (.int k1 a),.c (.int k2 b)=>uj op k1 k2 a b k
 | .c (.bool a),.c (.bool b)=>if pW P t=true then (match op with
  | .eql=>k (.c (.bool (a==b)))
  | .neq=>k (.c (.bool (!(a==b))))
  | _=>.fail) else .fail
 | .str a,.str b=>(match op with
  | .eql=>k (.c (.bool (decide (a=b))))
  | .neq=>k (.c (.bool (!decide (a=b))))
  | op=>rM P op t (.str a) (.str b) k)
 | .c (.slice none _ _),.c (.slice none _ _)=>if sliB P t=true then (match op with
  | .eql=>k (.c (.bool true))
  | .neq=>k (.c (.bool false))
  | _=>.fail) else .fail
 | .c (.slice (some _) _ _),.c (.slice none _ _)=>if sliB P t=true then (match op with
  | .eql=>k (.c (.bool false))
  | .neq=>k (.c (.bool true))
  | _=>.fail) else .fail
 | .lst d l,.c (.slice none _ _)=>(match cX P t,nilV op with | some _,some b=>.ite l.isEmpty .fail (k (.c (.bool b))) | _,_=>.fail)
 | .fre d l,.c (.slice none _ _)=>(match cX P t,nilV op with | some _,some b=>.ite l.isEmpty .fail (k (.c (.bool b))) | _,_=>.fail)
 | x,y=>rM P op t x y k
def unK {R:Type}(op:UnOp)(x:V)(k:V→Tree R):Tree R:=
 match op,x with
 | .not,.c (.bool b)=>k (.c (.bool (!b)))
 | .neg,.c (.int kk n)=>k (.c (.int kk (kk.wrap (0-n))))
 | .xor,.c (.int kk n)=>k (.c (.int kk (bits .xor kk (if kk.signed then -1 else kk.max) n)))
 | _,_=>.fail
def aS (n by_:Nat):Bool:=decide (n≤maxLen∧n*by_≤140737488355328)
def ofB (bs:List UInt8):List Int:=bs.map fun b=>(b.toNat:Int)
theorem iC (bs:List UInt8):flat (.int .u8) (ofB bs)=(Lib.strCells ⟨bs.toArray⟩).map .c:=by
 induction bs with
 | nil=>rfl
 | cons b bs ih=>
  show [AV.c (.int .u8 (b.toNat:Int))]++flat (.int .u8) (ofB bs)=_
  rw [ih]
  simp [Lib.strCells]
def tr {R:Type}(P:Program)(s d:TypeId)(x:V)(k:V→Tree R):Tree R:=
 match x with
 | .c (.int _ n)=>(match mf P d,mf P s with | some kd,some _=>k (.c (.int kd (kd.wrap n))) | _,_=>.fail)
 | .str bs=>if cZ P s=true∧cZ P d=true then k (.str bs) else (match iT P d with
  | some _=>if cZ P s=true then .ite (aS bs.length 1) (k (.lst (.int .u8) (ofB bs))) .fail else .fail
  | none=>.fail)
 | x=>(match iT P s with
  | some e=>(match dV P e x with
   | some ⟨dd,l⟩=>dk dd (.int .u8) (fun d=>List (T d)) l fun l=>
    if s=d then (match x with | .fre _ _=>.ite l.isEmpty .fail (k (.lst (.int .u8) l)) | _=>.fail)
    else if cZ P d=true then .bind (toBy l) fun bs=>k (.str bs) else .fail
   | none=>.fail)
  | none=>.fail)
def j7 (place:Nat→Option (Nat×Nat))(segs:List V):List (Nat×V)→Option (List V)
 | []=>some segs
 | (i,x)::rest=>match place i with
  | none=>none
  | some (off,size)=>match dz x with
   | some s=>if wL s=size then (match putV segs off s with | some segs'=>j7 place segs' rest | none=>none) else none
   | none=>none
def rj:Td→Bool
 | .sl _=>true
 | .arr _ d=>rj d
 | .pair d e=>rj d||rj e
 | _=>false
def uh:Td→Bool
 | .pair _ _=>true
 | _=>false
def tY:V→Bool
 | .c (.slice none 0 0)=>true
 | _=>false
def iz:Td→List V→List V×List V
 | .arr n d,segs=>match segs with
  | .arr d' n' a::r=>([.arr d' n' a],r)
  | segs=>if (uh d&&rj d&&segs.any tY)=true then (segs,[]) else match (decN (decK d) n segs fun a r=>Tree.done (a,r)).run with
   | some (a,r)=>([.arr d n a],r)
   | none=>(segs,[])
 | .pair d e,segs=>match iz d segs with
  | (p,r)=>match iz e r with
   | (q,r')=>(p++q,r')
 | _,segs=>match segs with
  | []=>([],[])
  | x::r=>([x],r)
def fC (P:Program)(t:TypeId)(segs:List V):List V:=match tdOf P 12 t with
 | some d=>match iz d segs with | (p,r)=>p++r
 | none=>segs
def dC (ρ:Operand→V)(parts:Array (Nat×Operand)):List (Nat×V):=parts.toList.map fun p=>(p.1,ρ p.2)
def pT {R:Type}(P:Program)(ρ:Operand→V)(t:TypeId)(parts:Array (Nat×Operand))(k:V→Tree R):Tree R:=
 match layP P t with
 | some (z,places)=>(match j7 (places[·]?) (z.map ck) (dC ρ parts) with | some l=>k (.agg (fC P t l)) | none=>.fail)
 | none=>match layE P t with
  | some (z,size)=>(match j7 (fun i=>some (i*size,size)) (z.map ck) (dC ρ parts) with | some l=>k (.agg (fC P t l)) | none=>.fail)
  | none=>.fail
def immV:V→Bool
 | .c _ | .str _ | .lst _ _ | .arr _ _ _ | .emp | .nn=>true
 | _=>false
def kf {R:Type}(P:Program)(ρ:Operand→V)(t:TypeId)(len:Nat)(parts:Array (Nat×Operand))(k:V→Tree R):Tree R:=
 match sliT P t with
 | some (e,w,z)=>if len*w≤16777216∧len≤maxLen then (match j7 (fun i=>some (i*w,w)) ((repL len z).map ck) (dC ρ parts) with
  | some l=>if l.all immV=true then (if len=0 then k .emp else match tdOf P 12 e with
   | some d=>if wd d=w then decN (decK d) len l fun a r=>if wL r=0 then k (.fre d a.l) else .fail else .fail
   | none=>.fail) else .fail
  | none=>.fail) else .fail
 | none=>.fail
section
variable {P:Program} {H:List E2} {ρ:Operand→V} {o:Oper} {R:Type}
theorem sW {n0:Nat}{w:World}{B:List Nat}{η:List Value}{ρv:Operand→Value}{x:Operand}{ts:Array TypeId}{t:TypeId}{s:List UInt8}(hr:Rel w B η (.c (.string ⟨s.toArray⟩)) (ρv x))(ho:o.op= .call ⟨.builtin .len, #[x],ts⟩)(ht:ts[0]? =some t)(hu:P.underlying t=some .string):OpOK P n0 w ρv o B η (.c (.int .i64 s.length)):=by
 have hv:=hr.ofC
 refine .of_run (v:=.int .i64 s.length) ?_ (.c _ _)
 have hsz:(uU s.toArray).size=s.length:=by show s.toArray.size=_;simp
 simp [execOp,ho,resolve,invoke,builtin,Builtin.len_,ge,hv,ht,run_underlying hu,goInt,hsz]
theorem sX {x:Operand}{ts:Array TypeId}{t:TypeId}{k:V→Tree R}{res:R}(hp:aZ ρ o)(ho:o.op= .call ⟨.builtin .len, #[x],ts⟩)(ht:ts[0]? =some t)(h:(lenK P H t (ρ x) k).run=some res):∃ r,(k r).run=some res∧Does P H ρ o r:=by
 have hin:x∈o.op.operands:=by simp [ho,eq,uS]
 unfold lenK at h
 split at h
 ·rename_i s hx
  split at h
  ·rename_i hs
   exact ⟨_,h,fun n0 Bx w B η ρv inv he=>.of rfl (fun _ _ h=>by simp [ex,ex0] at h) (sW (by have:=aV hp he x hin;rw [hx] at this;exact this) ho ht (bz hs))⟩
  ·cases h
 ·rename_i id hx
  split at h
  ·rename_i e d l E het hH
   split at h
   ·rename_i hw
    refine ⟨_,h,fun n0 Bx w B η ρv inv he=>.of rfl (fun _ _ h=>by simp [ex,ex0] at h) ?_⟩
    have:=pb (ρA:=fun y=>ex (ρ y)) inv (aV hp he) ho ht (aD het) (by simp only [hx];rfl) (exH hH)
    rw [am,u4 _ (by omega)] at this
    exact this
   ·cases h
  ·cases h
 ·split at h
  ·rename_i e het
   split at h
   ·rename_i d l hv
    split at h
    ·rename_i hw
     refine ⟨_,h,fun n0 Bx w B η ρv inv he=>.of rfl (fun _ _ h=>by simp [ex,ex0] at h) ?_⟩
     have:=uf (ρA:=fun y=>eL P e (ρ y)) (n0:=n0) (k8 e hp he) ho ht (aD het) (iO hv)
     simp only [am] at this
     rw [u4 _ (by omega)] at this
     exact this
    ·cases h
   ·cases h
  ·cases h
theorem pA {d:Td}{l:List (T d)}(hw:1≤wd d)(hl:l.isEmpty=false):flat d l≠[]:=fun h0=>by
 have:=congrArg List.length h0
 rw [am] at this
 cases l with
 | nil=>cases hl
 | cons a l=>simp only [List.length_cons,List.length_nil,Nat.add_mul] at this;omega
theorem iP {r:Value}(hp:aZ ρ o)(h:∀ (n0:Nat) (w:World) (B:List Nat) (η:List Value) (ρv:Operand→Value),(∀ x∈o.op.operands,Rel w B η (ex (ρ x)) (ρv x))→OpOK P n0 w ρv o B η (.c r)):Does P H ρ o (.c r):=fun n0 Bx w B η ρv inv he=>.of rfl (fun _ _ h=>by simp [ex,ex0] at h) (h n0 w B η ρv (aV hp he))
theorem tD {op:BinOp}{t t2:TypeId}{x y:Operand}{k:V→Tree R}{res:R}(hp:aZ ρ o)(ho:o.op= .binOp op t x y t2)(h:(binK P op t (ρ x) (ρ y) k).run=some res):∃ r,(k r).run=some res∧Does P H ρ o r:=by
 have key:∀ (a b v:Value),ex (ρ x)= .c a→ex (ρ y)= .c b→binV P op t a b=some v→Does P H ρ o (.c v):=fun a b v hx hy hv=>
  iP hp fun n0 w B η ρv he=>ur (ρA:=fun y=>ex (ρ y)) he ho hx hy hv
 have nil:∀ (d:Td) (l:List (T d)) (n c:Nat) (b:Bool) (e:TypeId),(ρ x= .lst d l∨ρ x= .fre d l)→ρ y= .c (.slice none n c)→cX P t=some e→nilV op=some b→l.isEmpty=false→1≤wd d→Does P H ρ o (.c (.bool b)):=fun d l n c b e hx hy he hb hl hw n0 Bx w B η ρv inv hh=>by
  refine .of rfl (fun _ _ h=>by simp [ex,ex0] at h) ?_
  exact ua (ρA:=fun y=>eu (ρ y)) (l:=flat d l) (k:=wd d) (bV hp hh) ho (by rcases hx with hx | hx <;> simp only [hx] <;> rfl) (by simp only [hy];rfl) (fun h0=>by
   have:=congrArg List.length h0
   rw [am] at this
   cases l with
   | nil=>cases hl
   | cons a l=>simp only [List.length_cons,List.length_nil,Nat.add_mul] at this;omega) (aD he) hb
 unfold binK at h
 split at h
 ·rename_i k1 a k2 b hx hy
  have kk:=fun v=>key (.int k1 a) (.int k2 b) v (by simp only [hx];rfl) (by simp only [hy];rfl)
  unfold uj at h
  split at h
  ·rcases ne h with ⟨hb,h⟩ | ⟨_,h⟩
   ·exact ⟨_,h,kk _ (by simp only [binV];rw [if_pos (of_decide_eq_true hb)])⟩
   ·cases h
  ·rcases ne h with ⟨hb,h⟩ | ⟨_,h⟩
   ·exact ⟨_,h,kk _ (by simp only [binV];rw [if_pos (of_decide_eq_true hb)])⟩
   ·cases h
  ·split at h
   ·rename_i hkk
    rcases ne h with ⟨_,h⟩ | ⟨hb,h⟩
    ·cases h
    ·exact ⟨_,h,kk _ (by simp only [binV,intV];rw [if_pos hkk,if_neg (of_decide_eq_false hb)])⟩
   ·cases h
  ·split at h
   ·rename_i hkk
    rcases ne h with ⟨_,h⟩ | ⟨hb,h⟩
    ·cases h
    ·exact ⟨_,h,kk _ (by simp only [binV,intV];rw [if_pos hkk,if_neg (of_decide_eq_false hb)])⟩
   ·cases h
  ·split at h
   ·rename_i hkk
    split at h
    ·rename_i n1 n2 n3 n4 _ v hv
     exact ⟨_,h,kk _ (by
      cases op <;> first | exact absurd rfl n1 | exact absurd rfl n2 | (simp only [binV];rw [if_pos hkk];exact hv))⟩
    ·cases h
   ·cases h
 ·rename_i a b hx hy
  have kk:=fun v=>key (.bool a) (.bool b) v (by simp only [hx];rfl) (by simp only [hy];rfl)
  split at h
  ·rename_i hb
   split at h
   ·exact ⟨_,h,kk _ (by simp only [binV];rw [if_pos hb])⟩
   ·exact ⟨_,h,kk _ (by simp only [binV];rw [if_pos hb])⟩
   ·cases h
  ·cases h
 ·rename_i a b hx hy
  have kk:=fun v=>key (.string ⟨a.toArray⟩) (.string ⟨b.toArray⟩) v (by simp only [hx];rfl) (by simp only [hy];rfl)
  split at h
  ·exact ⟨_,h,kk _ (by simp [binV,strV])⟩
  ·exact ⟨_,h,kk _ (by simp [binV,strV])⟩
  ·exact nC hp ho (by rw [hx,hy];exact h)
 ·rename_i n c n' c' hx hy
  have kk:=fun v=>key (.slice none n c) (.slice none n' c') v (by simp only [hx];rfl) (by simp only [hy];rfl)
  split at h
  ·rename_i hb
   split at h
   ·exact ⟨_,h,kk _ (by simp only [binV];rw [if_pos hb])⟩
   ·exact ⟨_,h,kk _ (by simp only [binV];rw [if_pos hb])⟩
   ·cases h
  ·cases h
 ·rename_i A0 n c n' c' hx hy
  have kk:=fun v=>key (.slice (some A0) n c) (.slice none n' c') v (by simp only [hx];rfl) (by simp only [hy];rfl)
  split at h
  ·rename_i hb
   split at h
   ·exact ⟨_,h,kk _ (by simp only [binV];rw [if_pos hb])⟩
   ·exact ⟨_,h,kk _ (by simp only [binV];rw [if_pos hb])⟩
   ·cases h
  ·cases h
 ·rename_i d l n c hx hy
  split at h
  ·rename_i e b he hb
   rcases ne h with ⟨_,h⟩ | ⟨hl,h⟩
   ·cases h
   ·refine ⟨_,h,fun n0 Bx w B η ρv inv hh=>nil d l n c b e (.inl hx) hy he hb hl ?_ n0 Bx w B η ρv inv hh⟩
    have:=aV hp hh x (by simp [ho,eq])
    rw [hx] at this
    obtain ⟨_,_,_,_,_,h1,_⟩:=Rel.slL this
    exact h1
  ·cases h
 ·rename_i d l n c hx hy
  split at h
  ·rename_i e b he hb
   rcases ne h with ⟨_,h⟩ | ⟨hl,h⟩
   ·cases h
   ·refine ⟨_,h,fun n0 Bx w B η ρv inv hh=>nil d l n c b e (.inr hx) hy he hb hl ?_ n0 Bx w B η ρv inv hh⟩
    have:=bV hp hh x (by simp [ho,eq])
    rw [hx] at this
    obtain ⟨_,_,_,_,_,h1,_⟩:=Rel.slL this
    exact h1
  ·cases h
 ·exact nC hp ho h
theorem tR {op:UnOp}{t:TypeId}{x:Operand}{k:V→Tree R}{res:R}(hp:aZ ρ o)(ho:o.op= .unOp op t x)(h:(unK op (ρ x) k).run=some res):∃ r,(k r).run=some res∧Does P H ρ o r:=by
 unfold unK at h
 split at h
 ·rename_i b hx
  exact ⟨_,h,iP hp fun n0 w B η ρv he=>tQ (ρA:=fun y=>ex (ρ y)) he ho (by simp only [hx];rfl) rfl⟩
 ·rename_i kk n hx
  exact ⟨_,h,iP hp fun n0 w B η ρv he=>tQ (ρA:=fun y=>ex (ρ y)) he ho (by simp only [hx];rfl) rfl⟩
 ·rename_i kk n hx
  refine ⟨_,h,iP hp fun n0 w B η ρv he=> ?_⟩
  have h1:=he x (by simp [ho,eq])
  rw [hx] at h1
  have h2:=u1 h1
  refine .of_run (v:=.int kk (bits .xor kk (if kk.signed then -1 else kk.max) n)) ?_ (.c _ _)
  simp [execOp,ho,h2,Op.unary,Op.intBits,bits,ge]
 ·cases h
theorem rC {n0:Nat}{w:World}{B:List Nat}{η:List Value}{ρv:Operand→Value}{s d:TypeId}{x:Operand}{bs:List UInt8}(hr:Rel w B η (.c (.string ⟨bs.toArray⟩)) (ρv x))(ho:o.op= .convert s d x)(hs:P.underlying s=some .string)(hd:P.underlying d=some .string):OpOK P n0 w ρv o B η (.c (.string ⟨bs.toArray⟩)):=by
 have hv:=hr.ofC
 refine .of_run (v:=.string ⟨bs.toArray⟩) ?_ (.c _ _)
 simp [execOp,ho,convert,ge,hv,run_underlying hs,run_underlying hd]
theorem rE {n0:Nat}{w:World}{B:List Nat}{η:List Value}{ρv:Operand→Value}{s d e:TypeId}{x:Operand}{bs:List UInt8}(hB:∀ b∈B,b<w.heap.size)(hr:Rel w B η (.c (.string ⟨bs.toArray⟩)) (ρv x))(ho:o.op= .convert s d x)(hs:P.underlying s=some .string)(hd:iT P d=some e)(hroom:aS bs.length 1=true):OpOK P n0 w ρv o B η (.sl (flat (.int .u8) (ofB bs)) 1):=by
 have hv:=hr.ofC
 obtain ⟨q1,q2⟩:=fK hd
 have hm:bs.length≤maxLen:=(of_decide_eq_true hroom).1
 have hsz:(uU bs.toArray).size=bs.length:=by show bs.toArray.size=_;simp
 have hcm:grownCap w (uU bs.toArray).size 0 e≤maxLen:=grownCap_le_maxLen w _ 0 e (by rw [hsz];exact hm)
 have hge:=grownCap_ge w (uU bs.toArray).size 0 e
 intro N hN
 have hrun:(execOp ρv o).run P w= .ok (.value (.slice (some ⟨w.heap.size,0,none⟩) (uU bs.toArray).size (grownCap w (uU bs.toArray).size 0 e))) (Lib.bytesWorld w e ⟨bs.toArray⟩):=by
  simp [execOp,ho,ge,hv,Lib.run_convert_string_bytes (P:=P) w s d e _ hs q1 q2]
 unfold u7
 rw [hrun]
 have hold:=Lib.bytesWorld_at_old w e ⟨bs.toArray⟩
 have hsize:=Lib.bytesWorld_size w e ⟨bs.toArray⟩
 refine hN _ _ ⟨rfl,rfl,rfl,by rw [hsize];omega,fun b hb=>.of (hold b hb),fun b hb _=>hold b hb⟩ ?_
 rw [iC]
 refine .sl _ _ _ _ _ _ (fun i=>(Lib.strCells ⟨bs.toArray⟩).getD i undef) (uP 1) (by rw [uM,Lib.strCells_length];omega) hge hcm (fun h0=>⟨_,rfl,rfl,by rw [hsize];exact Nat.lt_succ_self _,fun h=> ?_,fun i hi=> ?_⟩) (fun i x hx=> ?_)
 ·exact absurd (hB _ h) (Nat.lt_irrefl _)
 ·rw [uM,Lib.strCells_length] at hi
  have e1:(Addr.mk w.heap.size 0 none).add i=⟨w.heap.size,i,none⟩:=by unfold Addr.add;simp;omega
  rw [e1,Lib.bytesWorld_cell w e _ i hi]
  have hi':i<(uU bs.toArray).data.toList.length:=by simpa [hsz] using hi
  simp only [Lib.strCells,List.getD_eq_getElem?_getD,List.getElem?_map,List.getElem?_eq_getElem hi',u9,uJ]
 ·rw [List.getElem?_map] at hx
  cases hg:(Lib.strCells ⟨bs.toArray⟩)[i]? with
  | none=>rw [hg] at hx;cases hx
  | some u=>
   rw [hg] at hx
   injection hx with hx
   subst hx
   have:(Lib.strCells ⟨bs.toArray⟩).getD i undef=u:=by rw [List.getD_eq_getElem?_getD,hg];rfl
   rw [this]
   exact .c _ _
theorem rD {s d:TypeId}{x:Operand}{k:V→Tree R}{res:R}(hp:aZ ρ o)(ho:o.op= .convert s d x)(h:(tr P s d (ρ x) k).run=some res):∃ r,(k r).run=some res∧Does P H ρ o r:=by
 have hin:x∈o.op.operands:=by simp [ho,eq]
 unfold tr at h
 split at h
 ·rename_i kk n hx
  split at h
  ·rename_i kd ks hd hs
   exact ⟨_,h,iP hp fun n0 w B η ρv he=>tp (ρA:=fun y=>ex (ρ y)) he ho (by simp only [hx];rfl) (by simp only [tq,hd,hs])⟩
  ·cases h
 ·rename_i bs hx
  split at h
  ·rename_i hs
   exact ⟨_,h,fun n0 Bx w B η ρv inv he=>.of rfl (fun _ _ h=>by simp [ex,ex0] at h) (rC (by have:=aV hp he x hin;rw [hx] at this;exact this) ho (bz hs.1) (bz hs.2))⟩
  ·split at h
   ·rename_i e hb
    split at h
    ·rename_i hs
     rcases ne h with ⟨hroom,h⟩ | ⟨_,h⟩
     ·exact ⟨_,h,fun n0 Bx w B η ρv inv he=>.of rfl (fun _ _ h=>by simp [ex,ex0] at h) (rE inv.lt (by have:=aV hp he x hin;rw [hx] at this;exact this) ho (bz hs) hb hroom)⟩
     ·cases h
    ·cases h
   ·cases h
 ·split at h
  ·rename_i e hb
   split at h
   ·rename_i dd l hv
    obtain ⟨e1,h1⟩:=aU h
    clear h
    subst e1
    have h:=h1;clear h1
    simp only at h
    split at h
    ·rename_i hsd
     subst hsd
     split at h
     ·rename_i d2 l2 _ hx
      rcases ne h with ⟨_,h⟩ | ⟨hl,h⟩
      ·cases h
      ·rw [hx] at hv
       simp only [dV,uL.injEq,Sigma.mk.injEq] at hv
       obtain ⟨rfl,hv⟩:=hv
       have hv:=eq_of_heq hv
       subst hv
       refine ⟨_,h,fun n0 Bx w B η ρv inv he=>.of rfl (fun _ _ h=>by simp [ex,ex0] at h) ?_⟩
       exact sT (ρA:=fun y=>eu (ρ y)) (bV hp he) ho (by simp only [hx];rfl) hb (fun h0=>pA (d:=.int .u8) (uP 1) hl h0) (fun ad n c hv=>(he x hin).2 (by rw [hx];rfl) ad n c hv)
     ·cases h
    ·split at h
     ·rename_i hd
      obtain ⟨bs,hbs,h⟩:=uN h
      refine ⟨_,h,fun n0 Bx w B η ρv inv he=>.of rfl (fun _ _ h=>by simp [ex,ex0] at h) ?_⟩
      exact qK (ρA:=fun y=>eL P e (ρ y)) (k8 e hp he) ho (iO hv) hb hd (oG hbs)
     ·cases h
   ·cases h
  ·cases h
theorem fb {place:Nat→Option (Nat×Nat)}:∀ (parts:List (Nat×V)) (segs r:List V),j7 place segs parts=some r→eI place (al segs) (parts.map fun p=>(p.1,eu p.2))=some (al r)
 | [],segs,r,h=>by simp only [j7,uL.injEq] at h;subst h;rfl
 | (i,x)::rest,segs,r,h=>by
  unfold j7 at h
  split at h
  ·cases h
  ·rename_i off size hpl
   split at h
   ·rename_i s hs
    split at h
    ·rename_i hw
     split at h
     ·rename_i segs' hput
      obtain ⟨h1,h2,h3⟩:=cY hs
      obtain ⟨h4,h5⟩:=jS hput
      have ih:=fb rest segs' r h
      simp only [List.map_cons,eI,hpl]
      rw [if_pos ⟨h2,by rw [h1,ep,hw],by rw [h1];exact h5⟩,h1,←h4]
      exact ih
     ·cases h
    ·cases h
   ·cases h
theorem jT:∀ (d:Td) (segs:List V),Wk (al segs) (al (iz d segs).1++al (iz d segs).2)
 | .arr n d,segs=>by
  unfold iz
  split
  ·rw [aj,aj,bX,u5];exact Wk.refl _
  ·split
   ·simpa [bX] using Wk.refl _
   split
   ·rename_i a r hr
    obtain ⟨a',rest,h1,h2⟩:=gK (bU d) n segs _ _ hr
    simp only [Tree.run,uL.injEq,Prod.mk.injEq] at h1
    obtain ⟨rfl,rfl⟩:=h1
    simpa [al,segA] using h2
   ·simpa [bX] using Wk.refl _
 | .pair d e,segs=>by
  unfold iz
  have h1:=jT d segs
  split
  rename_i p r hpr
  rw [hpr] at h1
  have h2:=jT e r
  split
  rename_i q r' hqr
  rw [hqr] at h2
  simp only [a5,uY]
  exact h1.trans ((Wk.refl _).app h2)
 | .int k,segs=>by cases segs <;> simpa [iz,aj,bX] using Wk.refl _
 | .bool,segs=>by cases segs <;> simpa [iz,aj,bX] using Wk.refl _
 | .str,segs=>by cases segs <;> simpa [iz,aj,bX] using Wk.refl _
 | .sl d,segs=>by cases segs <;> simpa [iz,aj,bX] using Wk.refl _
theorem dY (t:TypeId)(segs:List V):Wk (al segs) (al (fC P t segs)):=by
 unfold fC
 split
 ·rename_i d _
  have:=jT d segs
  split
  rename_i p r hpr
  rw [hpr] at this
  rw [a5];exact this
 ·exact Wk.refl _
theorem nP {w:World}{B:List Nat}{η:List Value}{l m:List AV}{v:Value}(hw:Wk l m)(h:Rel w B η (.agg l) v):Rel w B η (.agg m) v:=by
 obtain ⟨cs,rfl,hl⟩:=h.aggL
 exact (hw w B η _ hl).toAgg
theorem pS {t:TypeId}{parts:Array (Nat×Operand)}{k:V→Tree R}{res:R}(hp:aZ ρ o)(ho:o.op= .build t parts)(h:(pT P ρ t parts k).run=some res):∃ r,(k r).run=some res∧Does P H ρ o r:=by
 have hpm:(dC ρ parts).map (fun p=>(p.1,eu p.2))=cw (fun y=>eu (ρ y)) parts:=by simp [dC,cw,vc,vf]
 have key:∀ l,lA P t (cw (fun y=>eu (ρ y)) parts)=some (.agg (al l))→Does P H ρ o (.agg (fC P t l)):=fun l hl n0 Bx w B η ρv inv he=>
  .of rfl (fun _ _ h=>by simp [ex,ex0] at h) (OpOK.mono (rJ (ρA:=fun y=>eu (ρ y)) (bV hp he) ho hl) fun w' v hv=>nP (dY t l) hv)
 unfold pT at h
 split at h
 ·rename_i z places hlay
  split at h
  ·rename_i l hl
   refine ⟨_,h,key l ?_⟩
   have:=fb _ _ _ hl
   rw [hpm,a9] at this
   simp only [lA,hlay,this]
  ·cases h
 ·rename_i hno
  split at h
  ·rename_i z size hlay
   split at h
   ·rename_i l hl
    refine ⟨_,h,key l ?_⟩
    have:=fb _ _ _ hl
    rw [hpm,a9] at this
    simp only [lA,hno,hlay,this]
   ·cases h
  ·cases h
theorem eE:∀ (l:List V),l.all immV=true→(al l).all AV.imm0=true
 | [],_=>rfl
 | x::l,h=>by
  simp only [List.all_cons,uI] at h
  rw [aj,List.all_append,eE l h.2,Bool.and_true]
  have h1:=h.1
  cases x <;> first | rfl | cases h1 | skip
  rename_i d n a
  exact cq d a.l
theorem kK {w:World}{B:List Nat}{η:List Value}{l m:List AV}{k:Nat}{v:Value}(hw:Wk l m)(hlen:m.length=l.length)(h:Rel w B η (.fresh l k) v):Rel w B η (.fresh m k) v:=by
 cases h with
 | fresh _ _ _ A n us hk hn h0 hm hA hr=>
  have hl:RelL w B [] l ((List.range l.length).map us):=⟨by simp,fun i y hy=>⟨us i,by simp [(List.getElem?_eq_some_iff.1 hy).1],hr i y hy⟩⟩
  have hm':=hw w B [] _ hl
  refine .fresh _ _ _ A n us hk (by rw [hlen];exact hn) h0 hm (fun h0=>by obtain ⟨ad,q1,q2⟩:=hA h0;exact ⟨ad,q1,by rw [hlen];exact q2⟩) (fun i x hx=> ?_)
  obtain ⟨u,q1,q2⟩:=hm'.2 i x hx
  have hi:i<l.length:=by rw [←hlen];exact (List.getElem?_eq_some_iff.1 hx).1
  simp [hi] at q1
  rw [q1];exact q2
theorem mF {t:TypeId}{len:Nat}{parts:Array (Nat×Operand)}{k:V→Tree R}{res:R}(hp:aZ ρ o)(ho:o.op= .buildSlice t len parts)(h:(kf P ρ t len parts k).run=some res):∃ r,(k r).run=some res∧Does P H ρ o r:=by
 have hpm:(dC ρ parts).map (fun p=>(p.1,eu p.2))=cw (fun y=>eu (ρ y)) parts:=by simp [dC,cw,vc,vf]
 unfold kf at h
 split at h
 ·rename_i e kw z hsl
  split at h
  ·rename_i hlen
   split at h
   ·rename_i l hl
    split at h
    ·rename_i himm
     have hb:ff P t len (cw (fun y=>eu (ρ y)) parts)=some (.sl (al l) kw):=by
      have:=fb _ _ _ hl
      rw [hpm,a9] at this
      simp only [ff,hsl,this]
      rw [if_pos hlen.1,if_pos (eE l himm)]
     split at h
     ·rename_i h0
      exact ⟨_,h,fun n0 Bx w B η ρv inv he=>fun N hN=>mE (ρA:=fun y=>eu (ρ y)) (n0:=n0) inv.lt (bV hp he) ho hlen.2 h0 hb N fun v w' g hr hf=>hN v w' g hr hf⟩
     ·split at h
      ·rename_i d htd
       split at h
       ·rename_i hwd
        obtain ⟨a,rest,h1,h2⟩:=gK (bU d) len l _ _ h
        split at h1
        ·rename_i hrest
         have hr0:al rest=[]:=gt (by rw [ep];exact hrest)
         rw [hr0,u5] at h2
         refine ⟨_,h1,fun n0 Bx w B η ρv inv he=>fun N hN=>ke (ρA:=fun y=>eu (ρ y)) inv.lt inv.base.1 (bV hp he) ho hlen.2 hb N fun v w' g hr hf=>hN v w' g ?_ hf⟩
         have hll:(flat d a.l).length=(al l).length:=by
          have hrl:∃ us,us.length=(al l).length∧RelL w' B [] (al l) us:=by
           cases hr with
           | fresh _ _ _ A n us hk hn h0 hm hA hr=>exact ⟨(List.range (al l).length).map us,by simp,by simp,fun i y hy=>⟨us i,by simp [(List.getElem?_eq_some_iff.1 hy).1],hr i y hy⟩⟩
          obtain ⟨us,q1,q2⟩:=hrl
          have:=(h2 w' B [] us q2).1
          omega
         simp only [Rel2,ex,ex0,hwd]
         exact kK h2 hll hr
        ·cases h1
       ·cases h
      ·cases h
    ·cases h
   ·cases h
  ·cases h
 ·cases h
def minI (a b:Int):Int:=if b<a then b else a
def maxI (a b:Int):Int:=if a<b then b else a
def minK (x y:V)(k:V→Tree R):Tree R:=match x,y with
 | .c (.int kk a),.c (.int _ b)=>k (.c (.int kk (minI a b)))
 | _,_=>.fail
def maxK (x y:V)(k:V→Tree R):Tree R:=match x,y with
 | .c (.int kk a),.c (.int _ b)=>k (.c (.int kk (maxI a b)))
 | _,_=>.fail
theorem sR {x y:Operand}{ts:Array TypeId}{k:V→Tree R}{res:R}(hp:aZ ρ o)(ho:o.op= .call ⟨.builtin .min, #[x,y],ts⟩)(h:(minK (ρ x) (ρ y) k).run=some res):∃ r,(k r).run=some res∧Does P H ρ o r:=by
 unfold minK at h
 split at h
 ·rename_i kk a k2 b hx hy
  refine ⟨_,h,iP hp fun n0 w B η ρv he=> ?_⟩
  have h1:=he x (by simp [ho,eq,uS])
  have h2:=he y (by simp [ho,eq,uS])
  rw [hx] at h1;rw [hy] at h2
  have h1:=u1 h1
  have h2:=u1 h2
  refine .of_run (v:=.int kk (minI a b)) ?_ (.c _ _)
  simp [execOp,ho,resolve,invoke,builtin,Builtin.min_,Builtin.min2,ge,h1,h2,minI]
 ·cases h
theorem sS {x y:Operand}{ts:Array TypeId}{k:V→Tree R}{res:R}(hp:aZ ρ o)(ho:o.op= .call ⟨.builtin .max, #[x,y],ts⟩)(h:(maxK (ρ x) (ρ y) k).run=some res):∃ r,(k r).run=some res∧Does P H ρ o r:=by
 unfold maxK at h
 split at h
 ·rename_i kk a k2 b hx hy
  refine ⟨_,h,iP hp fun n0 w B η ρv he=> ?_⟩
  have h1:=he x (by simp [ho,eq,uS])
  have h2:=he y (by simp [ho,eq,uS])
  rw [hx] at h1;rw [hy] at h2
  have h1:=u1 h1
  have h2:=u1 h2
  refine .of_run (v:=.int kk (maxI a b)) ?_ (.c _ _)
  simp [execOp,ho,resolve,invoke,builtin,Builtin.max_,Builtin.max2,ge,h1,h2,maxI]
 ·cases h
def noOp (o:Op):Option Unit:=none
def sE (c a b:V)(k:V→Tree R):Tree R:=
 match c with
 | .c (.bool t)=>(match a,b with
  | .c (.bool p),.c (.bool q)=>k (.c (.bool (cond t p q)))
  | a,b=>.ite t (k a) (k b))
 | _=>.fail
def pV (P:Program)(H:List E2)(t:TypeId)(i o j o':Nat)(k:V→Tree R):Tree R:=
 match ptrT P t with
 | some e=>if P.cellsOf e=0 then .fail else if i=j∧o=o' then k (.c (.bool true)) else (match H[i]?,H[j]? with
  | some (.box _ _),some (.box _ _)=>k (.c (.bool false))
  | _,_=>.fail)
 | none=>.fail
theorem rK {t t2:TypeId}{x y:Operand}{i o1 j o2:Nat}{k:V→Tree R}{res:R}(hp:aZ ρ o)(ho:o.op= .binOp .eql t x y t2)(hx:ρ x= .box i o1)(hy:ρ y= .box j o2)(h:(pV P H t i o1 j o2 k).run=some res):∃ r,(k r).run=some res∧Does P H ρ o r:=by
 have hinx:x∈o.op.operands:=by simp [ho,eq]
 have hiny:y∈o.op.operands:=by simp [ho,eq]
 unfold pV at h
 split at h
 case h_2=>cases h
 rename_i e het
 split at h
 ·cases h
 rename_i hc
 obtain ⟨ii,hii,hs⟩:=aT hc
 have hu:=eB het
 have addr:∀ (n0:Nat) (Bx:List Nat) (w:World) (B:List Nat) (η:List Value) (ρv:Operand→Value),(∀ x∈o.op.operands,Rel2 w B η (ρ x) (ρv x)∧au n0 (ex (ρ x)) (ρv x))→∃ b c:Nat,ρv x= .pointer (some ⟨b,o1,none⟩)∧η[i]? =some (.pointer (some ⟨b,0,none⟩))∧ρv y= .pointer (some ⟨c,o2,none⟩)∧η[j]? =some (.pointer (some ⟨c,0,none⟩)):=fun n0 Bx w B η ρv he=>by
  have h1:=aV hp he x hinx
  have h2:=aV hp he y hiny
  rw [hx] at h1;rw [hy] at h2
  generalize ρv x=u at h1 ⊢
  generalize ρv y=v at h2 ⊢
  cases h1 with
  | box _ _ _ b hb=>cases h2 with
   | box _ _ _ c hc=>exact ⟨b,c,rfl,hb,rfl,hc⟩
 split at h
 ·rename_i hij
  obtain ⟨rfl,rfl⟩:=hij
  refine ⟨_,h,fun n0 Bx w B η ρv inv he=>.of rfl (fun _ _ h=>by simp [ex,ex0] at h) ?_⟩
  obtain ⟨b,c,e1,e2,e3,e4⟩:=addr n0 Bx w B η ρv he
  rw [e2] at e4
  simp only [uL.injEq,Value.pointer.injEq,Addr.mk.injEq] at e4
  obtain ⟨rfl,_⟩:=e4
  refine .of_run (v:=.bool true) ?_ (.c _ _)
  simp [execOp,ho,e1,e3,ge,eqGuard,run_eql_ptr_same w _ hu hii]
 ·rename_i hij
  split at h
  ·rename_i l1 T1 l2 T2 hH1 hH2
   refine ⟨_,h,fun n0 Bx w B η ρv inv he=>.of rfl (fun _ _ h=>by simp [ex,ex0] at h) ?_⟩
   obtain ⟨b,c,e1,e2,e3,e4⟩:=addr n0 Bx w B η ρv he
   have g1:η.getD i undef= .pointer (some ⟨b,0,none⟩):=by simp [List.getD_eq_getElem?_getD,e2]
   have g2:η.getD j undef= .pointer (some ⟨c,0,none⟩):=by simp [List.getD_eq_getElem?_getD,e4]
   obtain ⟨b',us,p1,_,_,_,p5,_⟩:=inv.ent i _ (exH hH1)
   obtain ⟨c',us',q1,_,_,_,q5,_⟩:=inv.ent j _ (exH hH2)
   rw [g1] at p1;rw [g2] at q1
   simp only [Value.pointer.injEq,uL.injEq,Addr.mk.injEq] at p1 q1
   obtain ⟨rfl,_⟩:=p1
   obtain ⟨rfl,_⟩:=q1
   have hne:(⟨b,o1,none⟩:Addr)≠⟨c,o2,none⟩:=fun hc=>by
    simp only [Addr.mk.injEq] at hc
    obtain ⟨rfl,rfl,_⟩:=hc
    refine inv.sep i j _ _ (fun h=>hij ⟨h,rfl⟩) (exH hH1) (exH hH2) rfl rfl b (by rw [g1];rfl) (by rw [g2];rfl)
   refine .of_run (v:=.bool false) ?_ (.c _ _)
   simp [execOp,ho,e1,e3,ge,eqGuard,run_eql_ptr_other w hu hii (by rw [hs];exact hc) hne p5 q5]
  ·cases h
def evN1 (P:Program)(H:List E2)(ρ:Operand→V)(o:Op)(k:V→Tree R):Tree R:=
 match o with
 | .nilCheck x=>fX (ρ x) k
 | .fieldAddr s x f=>fc P s f (ρ x) k
 | .load t x=>sV P H t (ρ x) k
 | .field s x f=>pD P s f (ρ x) k
 | .index t x i=>(match ρ x with
  | .str s=>if cZ P t=true then hX s (ρ i) k else .fail
  | x=>ph P t x (ρ i) k)
 | .indexAddr t x i=>dP P H t (ρ x) (ρ i) k
 | .extract x i=>gd (ρ x) i k
 | .slice t x lo hi none=>(match arrT P t,ρ x with
  | some (m,e),x=>fO P ρ m e x lo hi k
  | none,.str s=>if cZ P t=true then hU ρ s lo hi k else .fail
  | none,x=>mS P ρ t x lo hi k)
 | .slice t x none (some hi) (some mx)=>lM P t (ρ x) (ρ hi) (ρ mx) k
 | .call ⟨.builtin .len,⟨[x]⟩,ts⟩=>(match ts[0]? with | some t=>lenK P H t (ρ x) k | none=>.fail)
 | .call ⟨.builtin .min,⟨[x,y]⟩,_⟩=>minK (ρ x) (ρ y) k
 | .call ⟨.builtin .max,⟨[x,y]⟩,_⟩=>maxK (ρ x) (ρ y) k
 | .binOp op t x (.const .nilIface) _=>niK P op t (ρ x) (ρ (.const .nilIface)) k
 | .binOp op t x y _=>(match op,ρ x,ρ y with
  | .eql,.box i o1,.box j o2=>pV P H t i o1 j o2 k
  | op,u,v=>binK P op t u v k)
 | .unOp op _ x=>unK op (ρ x) k
 | .convert s d x=>tr P s d (ρ x) k
 | .build t parts=>pT P ρ t parts k
 | .buildSlice t len parts=>kf P ρ t len parts k
 | .sliceToArrayPointer t x=>mJ P t (ρ x) k
 | .makeSlice t a b=>jX P t (ρ a) (ρ b) k
 | o=>.bind (noOp o) fun _=>.fail
def kN (ρ:Operand→V)(o:Op):Bool:=o.operands.all fun x=>(ρ x).plain
def bsiK (P:Program)(ρ:Operand→V)(k:V→Tree R):Op→Option (Tree R)
 | .indexAddr t x i=>(match ρ x,ρ i,cX P t with
  | .bsl id n,.c (.int _ z),some e=>if P.cellsOf e=0 then none else if n≤4 then some (mC z (fun j=>k (.box id (j*P.cellsOf e))) n 0) else some (.ite (decide (0≤z∧z<(n:Int))) (k (.box id (z.toNat*P.cellsOf e))) .fail)
  | _,_,_=>none)
 | _=>none
def evN (P:Program)(H:List E2)(ρ:Operand→V)(o:Op)(k:V→Tree R):Tree R:=
 match o with
 | .move x=>k (ρ x)
 | .assign x=>k (ρ x)
 | .pick c a b=>sE (ρ c) (ρ a) (ρ b) k
 | .makeFunc (.func f) ⟨[]⟩ caps=>if caps.toList.all (fun x=>(ρ x).cap) then k (.clo f (caps.toList.map ρ)) else .fail
 | o=>if kN ρ o=true then evN1 P H ρ o k else (match bsiK P ρ k o with | some t=>t | none=>.bind (noOp o) fun _=>.fail)
theorem gh {x:Operand}{r:V}(hop:∀ (w:World) (ρv:Operand→Value),(execOp ρv o).run P w= .ok (.value (ρv x)) w)(hin:x∈o.op.operands)(hr:ρ x=r):Does P H ρ o r:=fun n0 Bx w B η ρv inv he N hN=>by
 subst hr
 unfold u7
 rw [hop]
 exact hN _ _ (Gk.refl _ _ w) (he x hin).1 (he x hin).2
theorem qS {c a b:Operand}{k:V→Tree R}{res:R}(ho:o.op= .pick c a b)(h:(sE (ρ c) (ρ a) (ρ b) k).run=some res):∃ r,(k r).run=some res∧Does P H ρ o r:=by
 unfold sE at h
 split at h
 ·rename_i t hc
  have key:∀ (r:V),(cond t (ρ a) (ρ b))=r→Does P H ρ o r:=fun r hr n0 Bx w B η ρv inv he N hN=>by
   have h1:=(he c (by simp [ho,eq])).1
   rw [hc] at h1
   have h2:=u1 h1
   unfold u7
   have hrun:(execOp ρv o).run P w= .ok (.value (cond t (ρv a) (ρv b))) w:=by
    cases t <;> simp [execOp,ho,h2,asBool,ge]
   rw [hrun]
   subst hr
   cases t
   ·exact hN _ _ (Gk.refl _ _ w) (he b (by simp [ho,eq])).1 (he b (by simp [ho,eq])).2
   ·exact hN _ _ (Gk.refl _ _ w) (he a (by simp [ho,eq])).1 (he a (by simp [ho,eq])).2
  split at h
  ·rename_i p q ha hb
   exact ⟨_,h,key _ (by rw [ha,hb];cases t <;> rfl)⟩
  ·rcases ne h with ⟨ht,h⟩ | ⟨ht,h⟩
   ·subst ht;exact ⟨_,h,key _ rfl⟩
   ·subst ht;exact ⟨_,h,key _ rfl⟩
 ·cases h
theorem td {k:V→Tree R}{res:R}(hp:aZ ρ o)(h:(evN1 P H ρ o.op k).run=some res):∃ r,(k r).run=some res∧Does P H ρ o r:=by
 generalize ho:o.op=op at h
 unfold evN1 at h
 split at h
 ·exact kS hp ho h
 ·exact j9 hp ho h
 ·exact ra hp ho h
 ·exact pC hp ho h
 ·split at h
  ·rename_i hx;split at h
   ·rename_i hs;exact kz hp ho (bz hs) hx h
   ·cases h
  ·exact pg hp ho h
 ·exact j3 hp ho h
 ·exact mr hp ho h
 ·split at h
  ·rename_i hat;exact kE hp ho (bb hat) h
  ·rename_i hx;split at h
   ·rename_i hs;exact ky hp ho (bz hs) hx h
   ·cases h
  ·exact oL hp ho h
 ·exact nN hp ho h
 ·split at h
  ·rename_i ht;exact sX hp ho ht h
  ·cases h
 ·exact sR hp ho h
 ·exact sS hp ho h
 ·exact ub hp ho rfl h
 ·split at h
  ·rename_i hx hy;exact rK hp ho hx hy h
  ·exact tD hp ho h
 ·exact tR hp ho h
 ·exact rD hp ho h
 ·exact pS hp ho h
 ·exact mF hp ho h
 ·exact oz hp ho h
 ·exact md hp ho h
 ·cases h
theorem tA {k:V→Tree R}{res:R}{t:Tree R}(hb:bsiK P ρ k o.op=some t)(h:t.run=some res):∃ r,(k r).run=some res∧Does P H ρ o r:=by
 obtain ⟨op,ho⟩:∃ op,o.op=op:=⟨_,rfl⟩
 rw [ho] at hb
 unfold bsiK at hb
 split at hb
 ·rename_i tt x i
  split at hb
  ·rename_i id n kk z e hx hi het
   split at hb
   ·cases hb
   ·rename_i hc
    have key:∀ (j:Nat),z=(j:Int)→j<n→Does P H ρ o (.box id (j*P.cellsOf e)):=fun j hj hjn=>by
     subst hj
     intro n0 Bx w B η ρv inv he N hN
     have z0:(0:Int)≤(j:Int):=by omega
     have z1:(j:Int)<(n:Int):=by omega
     have h1:=(he x (by simp [ho,eq])).1
     rw [hx] at h1
     obtain ⟨b,hid,hv⟩:=h1
     have h2:=(he i (by simp [ho,eq])).1
     rw [hi] at h2
     have h2:Rel w B η (.c (.int kk (j:Int))) (ρv i):=h2
     have h2:=h2.ofC
     have hu:=aD het
     obtain ⟨ii,hii,hs⟩:=aT (t:=e) (P:=P) (by omega)
     unfold u7
     have hrun:(execOp ρv o).run P w= .ok (.value (.pointer (some ⟨b,j*P.cellsOf e,none⟩))) w:=by
      simp [execOp,ho,Instr.indexAt,ge,run_underlying hu,hv,h2,asIntOf,z0,z1,hjn,Nat.not_le.mpr hjn,aR hii,hs,vd]
     rw [hrun]
     exact hN _ _ (Gk.refl _ _ w) (.box _ _ _ _ hid) (fun h=>by cases h)
    split at hb
    ·injection hb with hb;subst hb
     obtain ⟨j,hj,hz,h⟩:=fe h
     exact ⟨_,h,key j hz (by omega)⟩
    injection hb with hb;subst hb
    rcases ne h with ⟨hz,h⟩ | ⟨_,h⟩
    ·obtain ⟨z0,z1⟩:=of_decide_eq_true hz
     exact ⟨_,h,key z.toNat (by omega) (by omega)⟩
    ·cases h
  ·cases hb
 ·cases hb
theorem ul {k:V→Tree R}{res:R}(h:(evN P H ρ o.op k).run=some res):∃ r,(k r).run=some res∧Does P H ρ o r:=by
 generalize ho:o.op=op at h
 unfold evN at h
 split at h
 ·exact ⟨_,h,gh (x:=by assumption) (fun w ρv=>by simp [execOp,ho]) (by simp [ho,eq]) rfl⟩
 ·exact ⟨_,h,gh (x:=by assumption) (fun w ρv=>by simp [execOp,ho]) (by simp [ho,eq]) rfl⟩
 ·exact qS ho h
 ·rename_i f caps
  split at h
  ·rename_i hc
   refine ⟨_,h,fun n0 Bx w B η ρv inv he N hN=> ?_⟩
   unfold u7
   have hrun:(execOp ρv o).run P w= .ok (.value (.func (.func f) #[] (caps.map ρv))) w:=by
    simp [execOp,ho,Instr.makeFunc]
   have hcp:caps.map ρv=(caps.toList.map ρv).toArray:=by apply vh;simp
   rw [hrun,hcp]
   refine hN _ _ (Gk.refl _ _ w) ⟨caps.toList.map ρv,by simp,by simp,fun i c hci=> ?_⟩ (fun h=>by simp [ex,ex0,cg] at h)
   rw [List.getElem?_map,uH] at hci
   obtain ⟨y,hy,rfl⟩:=hci
   have hm:=uK hy
   have hpl:=uQ.1 hc y hm
   exact ⟨ρv y,by rw [List.getElem?_map,hy];rfl,hpl,(he y (by simp [ho,eq];simpa using hm)).1.get (V.cap_plain hpl)⟩
  ·cases h
 ·split at h
  ·rename_i hp
   refine td (fun x hx=> ?_) (by rw [ho];exact h)
   rw [ho] at hx
   exact Array.all_eq_true'.1 hp x hx
  ·split at h
   ·rename_i hb
    exact tA (by rw [ho];exact hb) h
   ·cases h
end
def qI (P:Program)(t:TypeId):Option Value:=eA P (zeroValue t)
def fu (e e':Ent):Prop:=e'= .dead∨e=e'∨(∃ l m T,e= .box l T∧e'= .box m T∧Wk l m)∨(∃ l m E k,e= .own l E k∧e'= .own m E k∧Wk l m)
theorem Wk.len {l m:List AV}(h:Wk l m){w:World}{B:List Nat}{η us:List Value}(hl:RelL w B η l us):m.length=l.length:=by
 rw [←(h w B η us hl).1,hl.1]
theorem fu.refl (e:Ent):fu e e:=.inr (.inl rfl)
theorem fu.live {e e':Ent}(h:fu e e')(hl:e'.live=true):e.live=true:=by
 rcases h with rfl | rfl | ⟨l,m,T,rfl,rfl,_⟩ | ⟨l,m,E,k,rfl,rfl,_⟩
 ·cases hl
 ·exact hl
 ·rfl
 ·rfl
theorem aF.le {n0:Nat}{Bx:List Nat}{w:World}{B:List Nat}{η:List Value}{v:Value}{e e':Ent}(h:aF n0 Bx w B η v e)(hle:fu e e'):aF n0 Bx w B η v e':=by
 rcases hle with rfl | rfl | ⟨l,m,T,rfl,rfl,hw⟩ | ⟨l,m,E,k,rfl,rfl,hw⟩
 ·trivial
 ·exact h
 ·obtain ⟨b,us,h1,h2,h3,h4,h5,h6⟩:=h
  exact ⟨b,us,h1,h2,h3,h4,h5,hw w B η us h6⟩
 ·obtain ⟨n,us,h1,h2,h3,h4⟩:=h
  exact ⟨n,us,h1,hw w B η us h2,h3,h4⟩
theorem Inv.le {n0:Nat}{Bx:List Nat}{w:World}{B:List Nat}{η:List Value}{H H':List Ent}(inv:Inv n0 Bx w B η H)(hlen:H'.length=H.length)(hle:∀ (i:Nat) e',H'[i]? =some e'→∃ e,H[i]? =some e∧fu e e'):Inv n0 Bx w B η H':=by
 refine ⟨by rw [hlen];exact inv.len,inv.base,inv.sub,inv.lt,fun i e' he=> ?_,fun i j ei ej hij hi hj hli hlj=> ?_⟩
 ·obtain ⟨e,h1,h2⟩:=hle i e' he
  exact (inv.ent i e h1).le h2
 ·obtain ⟨e,h1,h2⟩:=hle i ei hi
  obtain ⟨f,h3,h4⟩:=hle j ej hj
  exact inv.sep i j e f hij h1 h3 (h2.live hli) (h4.live hlj)
def OpS2 (P:Program)(n0:Nat)(Bx:List Nat)(w:World)(ρ:Operand→Value)(o:Oper)(B:List Nat)(η:List Value)(r:V)(H':List E2):Prop:=
 ∀ N:Value→World→Prop,(∀ v w' B' η',On B w w'→(∀ b∈B',b∈B∨w.heap.size≤b)→(∀ (id:Nat) v,η[id]? =some v→η'[id]? =some v)→Bel n0 Bx w w'→Inv n0 Bx w' B' η' (H'.map exE)→Rel2 w' B' η' r v→au n0 (ex r) v→N v w')→u7 P ρ o w N
def dy (P:Program)(H:List E2)(ρ:Operand→V)(o:Oper)(r:V)(H':List E2):Prop:=
 ∀ (n0:Nat) (Bx:List Nat) (w:World) (B:List Nat) (η:List Value) (ρv:Operand→Value),Inv n0 Bx w B η (H.map exE)→(∀ x∈o.op.operands,Rel2 w B η (ρ x) (ρv x)∧au n0 (ex (ρ x)) (ρv x))→OpS2 P n0 Bx w ρv o B η r H'
section
variable {P:Program} {H:List E2} {ρ:Operand→V} {o:Oper} {R:Type}
theorem Does.s {r:V}(h:Does P H ρ o r):dy P H ρ o r H:=fun n0 Bx w B η ρv inv he N hN=>
 h n0 Bx w B η ρv inv he N (fun v w' g hr hf=>hN v w' B η g.on (fun _ h=>.inl h) (fun _ _ h=>h) (g.bel inv) (inv.gk g) hr hf)
theorem OpS.to {n0:Nat}{Bx:List Nat}{w:World}{ρv:Operand→Value}{B:List Nat}{η:List Value}{r:V}{H1:List Ent}{H':List E2}(h:OpS P n0 Bx w ρv o B η (ex r) H1)(hp:r.plain=true)(hlen:H'.length=H1.length)(hle:∀ (i:Nat) e',H'[i]? =some e'→∃ e,H1[i]? =some e∧fu e (exE e')):OpS2 P n0 Bx w ρv o B η r H':=fun N hN=>
 h N fun v w' B' η' h1 h2 h3 h4 h5 h6 h7=>hN v w' B' η' h1 h2 h3 h4 (h5.le (by simp [hlen]) (fun i e' he=>by
  rw [List.getElem?_map,uH] at he
  obtain ⟨e2,q1,rfl⟩:=he
  exact hle i e2 q1)) (Rel2.of hp h6) h7
theorem fy {H1:List E2}{id:Nat}{e e1:E2}{f:Ent}(h:fu f (exE e1)):∀ (i:Nat) e',(H1.set id e1)[i]? =some e'→∃ e,((H1.map exE).set id f)[i]? =some e∧fu e (exE e'):=by
 intro i e' he
 rw [List.getElem?_set] at he ⊢
 split at he
 ·rename_i hi
  subst hi
  split at he
  ·rename_i hlt
   injection he with he;subst he
   simp only [if_true,uM]
   rw [if_pos hlt]
   exact ⟨f,rfl,h⟩
  ·cases he
 ·rename_i hi
  rw [if_neg hi,List.getElem?_map,he]
  exact ⟨_,rfl,.refl _⟩
theorem cF {H1:List E2}{H2:List Ent}{e1:E2}{f:Ent}(h0:H2.length=H1.length)(h1:∀ (i:Nat) e',H1[i]? =some e'→∃ e,H2[i]? =some e∧fu e (exE e'))(h:fu f (exE e1)):∀ (i:Nat) e',(H1++[e1])[i]? =some e'→∃ e,(H2++[f])[i]? =some e∧fu e (exE e'):=by
 intro i e' he
 rcases vk i H1.length with hi | hi
 ·rw [List.getElem?_append_left hi] at he
  rw [List.getElem?_append_left (by omega)]
  exact h1 i e' he
 ·rw [List.getElem?_append_right hi] at he
  have hz:i-H1.length=0:=by have:=(List.getElem?_eq_some_iff.1 he).1;simp at this;omega
  rw [hz] at he
  injection he with he;subst he
  rw [List.getElem?_append_right (by omega),h0,hz]
  exact ⟨f,rfl,h⟩
theorem dv (H1:List E2):∀ (i:Nat) e',H1[i]? =some e'→∃ e,(H1.map exE)[i]? =some e∧fu e (exE e'):=fun i e' he=>⟨exE e',by rw [List.getElem?_map,he];rfl,.refl _⟩
def boxK (P:Program)(H:List E2)(t:TypeId)(x:V)(k:V→List E2→Tree R):Tree R:=
 match dz x with
 | some s=>k (.box H.length 0) (H++[.box (fC P t s) t])
 | none=>.fail
def mH (P:Program)(t:TypeId)(x:V)(k:V→Tree R):Tree R:=
 match dz x with
 | some s=>if s.all immV=true then k (.adr (fC P t s)) else .fail
 | none=>.fail
theorem pU {P:Program}{n0:Nat}{w:World}{B:List Nat}{η:List Value}{ρv:Operand→Value}{ρA:Operand→AV}{o:Oper}(hlt:∀ b∈B,b<w.heap.size)(he:∀ x∈o.op.operands,Rel w B η (ρA x) (ρv x)){T:TypeId}{x:Operand}(ho:o.op= .box T x)(hnt:iD (ρA x)=true)(himm:(ρA x).toL.all AV.imm0=true):OpOK P n0 w ρv o B η (.adr (ρA x).toL):=by
 intro N hN
 have hx:=he x (by simp [ho,eq])
 have hr:=hx.toL (fun l e=>by rw [e] at hnt;cases hnt)
 have g:=cH (Gr.refl w) (.cells (ρv x).cells.toList.toArray T)
 unfold u7
 have hrun:(execOp ρv o).run P w= .ok (.value (.pointer (some ⟨w.heap.size,0,none⟩))) (w.alloc (.cells (ρv x).cells.toList.toArray T)):=by
  simp only [execOp,ho]
  rfl
 rw [hrun]
 refine hN _ _ (.gr g) (.adr _ _ _ (fun i=>(ρv x).cells.toList.getD i undef) ⟨rfl,by simp,fun hb=> ?_,fun j hj=> ?_⟩ (fun j y hy=> ?_))
 ·have:=hlt _ hb;simp at this
 ·have hj':j<(ρv x).cells.toList.length:=by rw [←hr.1] at hj;exact hj
  rw [vd,Nat.zero_add,cell_of_row (w.alloc (.cells (ρv x).cells.toList.toArray T)) w.heap.size j (ρv x).cells.toList.toArray T (0,0) (by show (w.heap.push _)[w.heap.size]? =_;simp)]
  rw [List.getElem?_toArray,List.getElem?_eq_getElem hj',List.getD_eq_getElem?_getD,List.getElem?_eq_getElem hj',uJ]
 ·obtain ⟨u,q1,q2⟩:=hr.2 j y hy
  rw [List.getD_eq_getElem?_getD,q1,uJ]
  exact ((q2.bare0 (uQ.1 himm y (uK hy))):Rel w B [] y u).gr g
theorem jp {w:World}{B:List Nat}{η:List Value}{l m:List AV}{v:Value}(hw:Wk l m)(hv:Rel w B η (.adr l) v):Rel w B η (.adr m) v:=by
 cases hv with
 | adr _ _ ad us ha hr=>
  have hl:RelL w B [] l ((List.range l.length).map us):=⟨by simp,fun i y hy=>⟨us i,by simp [(List.getElem?_eq_some_iff.1 hy).1],hr i y hy⟩⟩
  have hm:=hw w B [] _ hl
  have hlen:m.length=l.length:=by have:=hm.1;simpa using this.symm
  refine .adr _ _ ad us ⟨ha.spot,ha.lt,ha.out,fun i hi=>ha.cell i (by omega)⟩ (fun i y hy=> ?_)
  obtain ⟨u,q1,q2⟩:=hm.2 i y hy
  have hi:i<l.length:=by rw [←hlen];exact (List.getElem?_eq_some_iff.1 hy).1
  simp [hi] at q1
  rw [q1];exact q2
theorem ox {t:TypeId}{x:Operand}{k:V→List E2→Tree R}{res:R}(hp:aZ ρ o)(ho:o.op= .box t x)(h:(mH P t (ρ x) fun r=>k r H).run=some res):∃ r H',(k r H').run=some res∧dy P H ρ o r H':=by
 unfold mH at h
 split at h
 ·rename_i s hs
  obtain ⟨h1,h2,h3⟩:=cY hs
  split at h
  ·rename_i himm
   refine ⟨_,_,h,Does.s fun n0 Bx w B η ρv inv he=>.of rfl (fun _ _ h=>by simp [ex,ex0] at h) ?_⟩
   have:=pU (P:=P) (n0:=n0) (ρA:=fun y=>eu (ρ y)) inv.lt (bV hp he) ho h2 (by rw [h1];exact eE s himm)
   rw [h1] at this
   refine this.mono fun w' v hv=> ?_
   exact jp (dY t s) hv
  ·cases h
 ·cases h
def nF (P:Program)(H:List E2)(t:TypeId)(k:V→List E2→Tree R):Tree R:=
 match qI P t with
 | some v=>k (.box H.length 0) (H++[.box (fC P t (v.cells.toList.map ck)) t])
 | none=>.fail
def oneV:V→Bool
 | .c v=>v.oneCell'
 | _=>true
theorem l7:∀ (l:List V),l.all oneV=true→(al l).all AV.one=true
 | [],_=>rfl
 | x::l,h=>by
  simp only [List.all_cons,uI] at h
  rw [aj,List.all_append,l7 l h.2,Bool.and_true]
  have h1:=h.1
  cases x <;> first | rfl | skip
  ·simpa [segA,AV.one,oneV] using h1
  ·rename_i d n a;exact dt d a.l
theorem tB {t:TypeId}{x:Operand}{k:V→List E2→Tree R}{res:R}(hp:aZ ρ o)(ho:o.op= .box t x)(h:(boxK P H t (ρ x) k).run=some res):∃ r H',(k r H').run=some res∧dy P H ρ o r H':=by
 unfold boxK at h
 split at h
 ·rename_i s hs
  obtain ⟨h1,h2,h3⟩:=cY hs
  refine ⟨_,_,h,fun n0 Bx w B η ρv inv he=> ?_⟩
  have:=uq (P:=P) (ρA:=fun y=>eu (ρ y)) inv (bV hp he) ho h2
  rw [h1] at this
  simp only [uM] at this
  exact this.to (r:=.box H.length 0) rfl (by simp) (cF (by simp) (dv H) (.inr (.inr (.inl ⟨_,_,_,rfl,rfl,dY t s⟩))))
 ·cases h
theorem qd {t:TypeId}{k:V→List E2→Tree R}{res:R}(ho:o.op= .alloc t)(h:(nF P H t k).run=some res):∃ r H',(k r H').run=some res∧dy P H ρ o r H':=by
 unfold nF at h
 split at h
 ·rename_i v hz
  refine ⟨_,_,h,fun n0 Bx w B η ρv inv he=> ?_⟩
  have:=rR (P:=P) (ρ:=ρv) inv ho hz
  rw [←a9] at this
  simp only [uM] at this
  exact this.to (r:=.box H.length 0) rfl (by simp) (cF (by simp) (dv H) (.inr (.inr (.inl ⟨_,_,_,rfl,rfl,dY t _⟩))))
 ·cases h
def kA (P:Program)(H:List E2)(t:TypeId)(a x:V)(k:V→List E2→Tree R):Tree R:=
 match dz x with
 | none=>.fail
 | some s=>if wL s=P.cellsOf t∧0<P.cellsOf t∧s.all oneV=true then (match a with
  | .box id off=>(match H[id]? with
   | some (.box l T')=>(match putV l off s with | some l'=>k (.c undef) (H.set id (.box (fC P T' l') T')) | none=>.fail)
   | _=>.fail)
  | .boxi id off d n i oo=>(match H[id]? with
   | some (.box l T')=>(match kv big l off,fj big l off with
    | some p,some (.arr d' n' a::rr)=>dk d' d (fun d=>Arr (T d) n') a fun a=>.bind (a.l[i]?) fun e=>(match putV (enc d e) oo s with
     | some s'=>decK d s' fun e' rest=>if wL rest=0 then k (.c undef) (H.set id (.box (p++ .arr d n' (a.set i e')::rr) T')) else .fail
     | none=>.fail)
    | _,_=>.fail)
   | _=>.fail)
  | .oadr id d i oo=>(match H[id]? with
   | some (.own d' l E)=>dk d' d (fun d=>List (T d)) l fun l=>.bind (l[i]?) fun e=>(match putV (enc d e) oo s with
     | some s'=>decK d s' fun e' rest=>if wL rest=0 then k (.c undef) (H.set id (.own d (l.set i e') E)) else .fail
     | none=>.fail)
   | _=>.fail)
  | _=>.fail) else .fail
theorem m7 {α:Type}(p c q:List α)(off:Nat)(l:List α)(h:off+l.length≤c.length):putL (p++c++q) (p.length+off) l=p++putL c off l++q:=by
 unfold putL
 rw [uY p c q,List.take_append,uT (by omega:p.length≤p.length+off),Nat.add_sub_cancel_left,u3 (by omega),List.drop_append,List.drop_eq_nil_of_le (by omega:p.length≤p.length+off+l.length),vb]
 rw [show p.length+off+l.length-p.length=off+l.length by omega,uW (by omega)]
 simp only [uY]
theorem np {d:Td}{l:List (T d)}{i oo:Nat}{e e':T d}{s s' rest:List V}(he:l[i]? =some e)(hput:putV (enc d e) oo s=some s')(hw:Wk (al s') (cells d e'++al rest))(hr:wL rest=0)(pre post:List AV):
  i*wd d+oo+(al s).length≤(flat d l).length∧Wk (putL (pre++flat d l++post) (pre.length+(i*wd d+oo)) (al s)) (pre++flat d (l.set i e')++post):=by
 obtain ⟨h1,h2⟩:=jS hput
 rw [bt] at h1 h2
 have hi:i<l.length:=(List.getElem?_eq_some_iff.1 he).1
 have hr0:al rest=[]:=gt (by rw [ep];exact hr)
 rw [hr0,u5] at hw
 rw [aH] at h2
 have hle:i*wd d+wd d≤(flat d l).length:=by rw [am,←Nat.succ_mul];exact uO _ hi
 have hsp:flat d l=flat d (l.take i)++cells d e++flat d (l.drop (i+1)):=by
  rw [uY,←cx he,cS,ve]
 have hpl:(flat d (l.take i)).length=i*wd d:=by rw [am,u2,vn (by omega)]
 refine ⟨by omega, ?_⟩
 rw [m7 _ _ _ _ _ (by omega)]
 have e1:putL (flat d l) (i*wd d+oo) (al s)=flat d (l.take i)++al s'++flat d (l.drop (i+1)):=by
  conv=>lhs;rw [hsp]
  rw [←hpl,m7 _ _ _ _ _ (by rw [aH];exact h2),←h1]
 have e2:flat d (l.set i e')=flat d (l.take i)++cells d e'++flat d (l.drop (i+1)):=by
  rw [List.set_eq_take_append_cons_drop,if_pos hi,a6,ch,uY]
 rw [e1,e2]
 exact ((Wk.refl _).app (((Wk.refl _).app hw).app (Wk.refl _))).app (Wk.refl _)
theorem oI {t:TypeId}{a x:Operand}{k:V→List E2→Tree R}{res:R}(hp:aZ ρ o)(ho:o.op= .store t a x)(h:(kA P H t (ρ a) (ρ x) k).run=some res):∃ r H',(k r H').run=some res∧dy P H ρ o r H':=by
 unfold kA at h
 split at h
 ·cases h
 ·rename_i s hs
  obtain ⟨s1,s2,s3⟩:=cY hs
  split at h
  ·rename_i hc
   obtain ⟨c1,c2,c3⟩:=hc
   have hl:(al s).length=P.cellsOf t:=by rw [ep];exact c1
   have h1:=l7 s c3
   split at h
   ·rename_i id off ha
    split at h
    ·rename_i l T' hH
     split at h
     ·rename_i l' hput
      obtain ⟨p1,p2⟩:=jS hput
      refine ⟨_,_,h,fun n0 Bx w B η ρv inv he=> ?_⟩
      have:=hY (ρA:=fun y=>eu (ρ y)) inv (bV hp he) ho (by simp only [ha];rfl) (exH hH) (.inr s1) s2 hl c2 p2 h1
      rw [←p1] at this
      exact this.to (r:=.c undef) rfl (by simp) (fy (e:=.dead) (.inr (.inr (.inl ⟨_,_,_,rfl,rfl,dY T' l'⟩))))
     ·cases h
    ·cases h
   ·rename_i id off d n i oo ha
    split at h
    ·rename_i l T' hH
     split at h
     ·rename_i p d' n' ar rr hpre hpost
      obtain ⟨e1,h⟩:=aU h
      subst e1
      obtain ⟨e,hel,h⟩:=uN h
      split at h
      ·rename_i s' hput
       obtain ⟨e',rest,h3,h4⟩:=bU _ _ _ _ h
       split at h3
       ·rename_i hrest
        obtain ⟨q1,q2⟩:=eV _ _ _ _ hpre
        obtain ⟨q3,q4⟩:=cr _ _ _ _ hpost
        have hsp:al l=al p++flat d' ar.l++al rr:=by
         have:al l=(al l).take off++(al l).drop off:=(ve _ _).symm
         rw [this,←q1,←q3,uY];rfl
        have hpl:(al p).length=off:=by rw [q1,u2];omega
        obtain ⟨f0,f2⟩:=np (e':=e') hel hput h4 hrest (al p) (al rr)
        have f1:i*wd d'+oo+(al s).length≤(flat d' ar.l).length:=f0
        refine ⟨_,_,h3,fun n0 Bx w B η ρv inv he=> ?_⟩
        have:=hY (ρA:=fun y=>eu (ρ y)) inv (bV hp he) ho (by simp only [ha];rfl) (exH hH) (.inr s1) s2 hl c2 (by have hq:=congrArg List.length hsp;simp only [uX] at hq;omega) h1
        rw [hsp,←hpl,Nat.add_assoc] at this
        refine this.to (r:=.c undef) rfl (by simp) (fy (e:=.dead) (.inr (.inr (.inl ⟨_,_,_,rfl,rfl, ?_⟩))))
        have e3:al (p++ .arr d' n' (ar.set i e')::rr)=al p++flat d' (ar.l.set i e')++al rr:=by
         rw [a5,aj,uY];rfl
        rw [e3]
        exact f2
       ·cases h3
      ·cases h
     ·cases h
    ·cases h
   ·rename_i id d i oo ha
    split at h
    ·rename_i d' l E hH
     obtain ⟨e1,h⟩:=aU h
     subst e1
     obtain ⟨e,hel,h⟩:=uN h
     split at h
     ·rename_i s' hput
      obtain ⟨e',rest,h3,h4⟩:=bU _ _ _ _ h
      split at h3
      ·rename_i hrest
       obtain ⟨f1,f2⟩:=np (e':=e') hel hput h4 hrest [] []
       refine ⟨_,_,h3,fun n0 Bx w B η ρv inv he=> ?_⟩
       have:=lJ (ρA:=fun y=>eu (ρ y)) inv (bV hp he) ho (by simp only [ha];rfl) (exH hH) s1 s2 hl c2 f1 h1
       refine this.to (r:=.c undef) rfl (by simp) (fy (e:=.dead) (.inr (.inr (.inr ⟨_,_,_,_,rfl,rfl, ?_⟩))))
       simpa using f2
      ·cases h3
     ·cases h
    ·cases h
   ·cases h
  ·cases h
def nH (P:Program)(e:TypeId)(x:V):Option (Sigma fun d=>List (T d)):=match x with
 | .c (.slice (some _) 0 _)=>(match tdOf P 12 e with | some d=>some ⟨d,[]⟩ | none=>none)
 | x=>dV P e x
def eR (P:Program)(H:List E2)(t:TypeId)(s x:V)(k:V→List E2→Tree R):Tree R:=
 match cX P t with
 | some e=>(match rowI P e with
  | some (w,by_)=>(match nH P e x with
   | some ⟨d,m⟩=>if wd d=w then (match s with
    | .c (.slice none 0 0)=>.ite (aS m.length by_) (k (.own H.length) (H++[.own d m e])) .fail
    | .own id=>(match H[id]? with
     | some (.own d' l E)=>if E=e then dk d' d (fun d=>List (T d)) l fun l=>.ite (aS (l.length+m.length) by_) (k (.own H.length) (H.set id .dead++[.own d (l++m) e])) .fail else .fail
     | _=>.fail)
    | .emp=>.ite (aS m.length by_) (k (.lst d m) H) .fail
    | .fre d' l=>dk d' d (fun d=>List (T d)) l fun l=>.ite (aS (l.length+m.length) by_&& !m.isEmpty) (k (.own H.length) (H++[.own d (l++m) e])) .fail
    | _=>.fail) else .fail
   | none=>.fail)
  | none=>.fail)
 | none=>.fail
theorem oJ {e:TypeId}{x:V}{d:Td}{m:List (T d)}(h:dV P e x=some ⟨d,m⟩)(Hh:List Ent):srcA Hh (wd d) (eu x)=some (flat d m):=by
 unfold dV at h
 split at h
 ·simp only [uL.injEq,Sigma.mk.injEq] at h
  obtain ⟨rfl,h⟩:=h
  have h:=eq_of_heq h
  subst h
  simp [eu,ex,ex0,unf,srcA]
 ·simp only [uL.injEq,Sigma.mk.injEq] at h
  obtain ⟨rfl,h⟩:=h
  have h:=eq_of_heq h
  subst h
  simp [eu,ex,ex0,unf,srcA]
 ·split at h
  ·split at h
   ·simp only [uL.injEq,Sigma.mk.injEq] at h
    obtain ⟨rfl,h⟩:=h
    have h:=eq_of_heq h
    subst h
    rfl
   ·cases h
  ·cases h
 ·split at h
  ·split at h
   ·simp only [uL.injEq,Sigma.mk.injEq] at h
    obtain ⟨rfl,h⟩:=h
    have h:=eq_of_heq h
    subst h
    rfl
   ·cases h
  ·cases h
 ·cases h
theorem gu {e:TypeId}{x:V}{d:Td}{m:List (T d)}(h:nH P e x=some ⟨d,m⟩)(Hh:List Ent):srcA Hh (wd d) (eu x)=some (flat d m):=by
 unfold nH at h
 split at h
 ·split at h
  ·simp only [uL.injEq,Sigma.mk.injEq] at h
   obtain ⟨rfl,h⟩:=h
   have h:=eq_of_heq h
   subst h
   simp [eu,ex,ex0,unf,srcA,flat]
  ·cases h
 ·exact oJ h Hh
theorem jF {t:TypeId}{s x:Operand}{k:V→List E2→Tree R}{res:R}(hp:aZ ρ o)(ho:o.op= .call ⟨.builtin .append, #[s,x], #[t,t]⟩)(h:(eR P H t (ρ s) (ρ x) k).run=some res):∃ r H',(k r H').run=some res∧dy P H ρ o r H':=by
 unfold eR at h
 split at h
 ·rename_i e het
  split at h
  ·rename_i kw by_ hrow
   obtain ⟨ti,z,q1,q2,q3,q4,q5,q6⟩:=c9 hrow
   split at h
   ·rename_i d m hv
    split at h
    ·rename_i hwd
     have hsrc:∀ (Hh:List Ent),srcA Hh kw (eu (ρ x))=some (flat d m):=fun Hh=>by rw [←hwd];exact gu hv Hh
     have hdiv:∀ (l:List (T d)),(flat d l).length / kw=l.length:=fun l=>by rw [am,hwd];exact u4 _ (by omega)
     have hrm:∀ {n:Nat},aS n by_=true→n≤maxLen∧n*by_≤140737488355328:=fun h=>of_decide_eq_true h
     have hdiv2:∀ (l:List (T d)),((flat d l).length+(flat d m).length) / kw=l.length+m.length:=fun l=>by rw [←uX,←a6,hdiv,uX]
     split at h
     ·rename_i hs
      rcases ne h with ⟨hb,h⟩ | ⟨_,h⟩
      ·obtain ⟨r1,r2⟩:=hrm hb
       refine ⟨_,_,h,fun n0 Bx w B η ρv inv he=> ?_⟩
       have hse:eu (ρ s)= .c (.slice none 0 0):=by rw [hs];rfl
       have:=lB (ρA:=fun y=>eu (ρ y)) inv (bV hp he) ho (aD het) q1 q2 q3 q4 q5 q6 (cells:=[]) (by simp only [hse];rfl) (hsrc _) (dt d m) (by simpa [hdiv] using r1) (by simpa [hdiv] using r2)
       simp only [hse,bS,uM,vb] at this
       exact this.to (r:=.own H.length) rfl (by simp) (cF (by simp) (dv H) (by rw [←hwd];exact .refl _))
      ·cases h
     ·rename_i id hs
      split at h
      ·rename_i d' l E hH
       split at h
       ·rename_i hE
        subst hE
        obtain ⟨e1,h1⟩:=aU h
        clear h
        subst e1
        simp only at h1
        rcases ne h1 with ⟨hb,h⟩ | ⟨_,h⟩
        ·obtain ⟨r1,r2⟩:=hrm hb
         refine ⟨_,_,h,fun n0 Bx w B η ρv inv he=> ?_⟩
         have hse:eu (ρ s)= .own id:=by rw [hs];rfl
         have:=lB (ρA:=fun y=>eu (ρ y)) inv (bV hp he) ho (aD het) q1 q2 q3 q4 q5 q6 (cells:=flat _ l) (by simp only [hse,dstA,exH hH,exE,hwd,and_self,if_true]) (hsrc _) (dt _ m) (by rw [hdiv2];exact r1) (by rw [hdiv2];exact r2)
         simp only [hse,bS,uM,←a6] at this
         exact this.to (r:=.own H.length) rfl (by simp) (cF (by simp) (fy (e:=.dead) (e1:=.dead) (.refl _)) (by rw [←hwd];exact .refl _))
        ·cases h
       ·cases h
      ·cases h
     ·rename_i hs
      rcases ne h with ⟨hb,h⟩ | ⟨_,h⟩
      ·obtain ⟨r1,r2⟩:=hrm hb
       refine ⟨_,_,h,Does.s fun n0 Bx w B η ρv inv he=>.of rfl (fun _ _ h=>by simp [ex,ex0] at h) ?_⟩
       have hse:eu (ρ s)= .emp:=by rw [hs];rfl
       have:=oB (ρA:=fun y=>eu (ρ y)) inv (bV hp he) ho (aD het) q1 q2 q3 q4 q5 q6 hse (hsrc _) (dt d m) (cq d m) (by rw [hdiv];exact r1) (by rw [hdiv];exact r2)
       rw [←hwd] at this
       exact this
      ·cases h
     ·rename_i d' l hs
      obtain ⟨e1,h1⟩:=aU h
      clear h
      subst e1
      simp only at h1
      rcases ne h1 with ⟨hb,h⟩ | ⟨_,h⟩
      ·simp only [uI,Bool.not_eq_true'] at hb
       obtain ⟨r1,r2⟩:=hrm hb.1
       refine ⟨_,_,h,fun n0 Bx w B η ρv inv he=> ?_⟩
       have hse:=congrArg ex hs
       simp only [ex,ex0] at hse
       have:=oA (ρA:=fun y=>eu (ρ y)) (ρR:=fun y=>ex (ρ y)) inv (bV hp he) (fun y hy=>⟨aV hp he y hy,(he y hy).2⟩) ho (aD het) q1 q2 q3 q4 q5 q6 (by rw [←hwd];simp only [ex];exact hse) (hsrc _) (pA (by omega) hb.2) (dt _ m) (by rw [hdiv2];exact r1) (by rw [hdiv2];exact r2)
       simp only [uM,←a6] at this
       exact this.to (r:=.own H.length) rfl (by simp) (cF (by simp) (dv H) (by rw [←hwd];exact .refl _))
      ·cases h
     ·cases h
    ·cases h
   ·cases h
  ·cases h
 ·cases h
def ki (P:Program)(H:List E2)(t tn:TypeId)(s x:V)(k:V→List E2→Tree R):Tree R:=
 match cX P t,mf P tn,sliT P t with
 | some e,some _,some (E,w,z)=>(match rowI P e,tdOf P 12 e with
  | some (kw,by_),some d=>if (E=e∧w=kw∧wd d=kw)∧z.all Value.oneCell'=true then (match x with
   | .c (.int _ n)=>.ite (decide (0≤n)) (decK d (z.map ck) fun zd r=>if wL r=0 then (match s with
    | .c (.slice none 0 0)=>.ite (aS n.toNat by_) (k (.own H.length) (H++[.own d (vi n.toNat zd) e])) .fail
    | .own id=>(match H[id]? with
     | some (.own d' l E')=>if E'=e then dk d' d (fun d=>List (T d)) l fun l=>.ite (aS (l.length+n.toNat) by_) (k (.own H.length) (H.set id .dead++[.own d (l++vi n.toNat zd) e])) .fail else .fail
     | _=>.fail)
    | _=>.fail) else .fail) .fail
   | _=>.fail) else .fail
  | _,_=>.fail)
 | _,_,_=>.fail
def kj (P:Program)(H:List E2)(t:TypeId)(s:V)(bs:List UInt8)(k:V→List E2→Tree R):Tree R:=
 match cX P t with
 | some e=>(match rowI P e with
  | some (kw,by_)=>if kw=1 then (match s with
   | .c (.slice none 0 0)=>.ite (aS bs.length by_) (k (.own H.length) (H++[.own (.int .u8) (ofB bs) e])) .fail
   | .own id=>(match H[id]? with
    | some (.own d' l E')=>if E'=e then dk d' (.int .u8) (fun d=>List (T d)) l fun l=>.ite (aS (l.length+bs.length) by_) (k (.own H.length) (H.set id .dead++[.own (.int .u8) (l++ofB bs) e])) .fail else .fail
    | _=>.fail)
   | _=>.fail) else .fail
  | none=>.fail)
 | none=>.fail
theorem mM {t tn:TypeId}{s x:Operand}{bs:List UInt8}{k:V→List E2→Tree R}{res:R}(hp:aZ ρ o)(ho:o.op= .call ⟨.builtin .append, #[s,x], #[t,tn]⟩)(htn:P.underlying tn=some .string)(hx:ρ x= .str bs)(h:(kj P H t (ρ s) bs k).run=some res):∃ r H',(k r H').run=some res∧dy P H ρ o r H':=by
 unfold kj at h
 have hsz:(uU bs.toArray).size=bs.length:=by show bs.toArray.size=_;simp
 split at h
 ·rename_i e het
  split at h
  ·rename_i kw by_ hrow
   obtain ⟨ti,z,q1,q2,q3,q4,q5,q6⟩:=c9 hrow
   split at h
   ·rename_i hkw
    subst hkw
    have hrm:∀ {n:Nat},aS n by_=true→n≤maxLen∧n*by_≤140737488355328:=fun h=>of_decide_eq_true h
    split at h
    ·rename_i hs
     rcases ne h with ⟨hb,h⟩ | ⟨_,h⟩
     ·obtain ⟨r1,r2⟩:=hrm hb
      refine ⟨_,_,h,fun n0 Bx w B η ρv inv he=> ?_⟩
      have hse:eu (ρ s)= .c (.slice none 0 0):=by rw [hs];rfl
      have hxe:eu (ρ x)= .c (.string ⟨bs.toArray⟩):=by rw [hx];rfl
      have:=jE (ρA:=fun y=>eu (ρ y)) inv (bV hp he) ho (aD het) q1 q2 q3 q4 q5 htn (cells:=[]) (by simp only [hse];rfl) hxe (by simpa [hsz] using r1) (by simpa [hsz] using r2)
      simp only [hse,bS,uM,vb,←iC] at this
      exact this.to (r:=.own H.length) rfl (by simp) (cF (by simp) (dv H) (.refl _))
     ·cases h
    ·rename_i id hs
     split at h
     ·rename_i d' l E hH
      split at h
      ·rename_i hE
       subst hE
       obtain ⟨e1,h1⟩:=aU h
       clear h
       subst e1
       simp only at h1
       rcases ne h1 with ⟨hb,h⟩ | ⟨_,h⟩
       ·obtain ⟨r1,r2⟩:=hrm hb
        refine ⟨_,_,h,fun n0 Bx w B η ρv inv he=> ?_⟩
        have hse:eu (ρ s)= .own id:=by rw [hs];rfl
        have hxe:eu (ρ x)= .c (.string ⟨bs.toArray⟩):=by rw [hx];rfl
        have hfl:(flat (.int .u8) l).length=l.length:=by rw [am];exact Nat.mul_one _
        have:=jE (ρA:=fun y=>eu (ρ y)) inv (bV hp he) ho (aD het) q1 q2 q3 q4 q5 htn (cells:=flat (.int .u8) l) (by simp only [hse,dstA,exH hH,exE];rfl) hxe (by rw [hfl,hsz];exact r1) (by rw [hfl,hsz];exact r2)
        simp only [hse,bS,uM,←iC,←a6] at this
        exact this.to (r:=.own H.length) rfl (by simp) (cF (by simp) (fy (e:=.dead) (e1:=.dead) (.refl _)) (.refl _))
       ·cases h
      ·cases h
     ·cases h
    ·cases h
   ·cases h
  ·cases h
 ·cases h
theorem mL {t tn:TypeId}{s x:Operand}{k:V→List E2→Tree R}{res:R}(hp:aZ ρ o)(ho:o.op= .call ⟨.builtin .append, #[s,x], #[t,tn]⟩)(h:(ki P H t tn (ρ s) (ρ x) k).run=some res):∃ r H',(k r H').run=some res∧dy P H ρ o r H':=by
 unfold ki at h
 split at h
 ·rename_i e kn E w z het hkn hsl
  split at h
  ·rename_i kw by_ d hrow htd
   obtain ⟨ti,zv0,q1,q2,q3,q4,q5,q6⟩:=c9 hrow
   split at h
   ·rename_i hc
    obtain ⟨⟨rfl,rfl,hwd⟩,hone⟩:=hc
    obtain ⟨i',zv,hu,hi',hz,hsz,hzc,hzl,hk⟩:=dA hsl
    rw [q1] at hi'
    injection hi' with hi'
    subst hi'
    rw [q2] at hz
    injection hz with hz
    subst hz
    split at h
    ·rename_i kx n hx
     rcases ne h with ⟨hn,h⟩ | ⟨_,h⟩
     ·have hn:=of_decide_eq_true hn
      obtain ⟨m,rfl⟩:∃ m:Nat,n=(m:Int):=⟨n.toNat,by omega⟩
      simp only [Int.toNat_natCast] at h
      obtain ⟨zd,rest,h1,h2⟩:=bU d _ _ _ h
      split at h1
      ·rename_i hrest
       have hr0:al rest=[]:=gt (by rw [ep];exact hrest)
       rw [hr0,u5,a9] at h2
       have hze:(Builtin.zeroCells zv0.cells m).toList=repL m z:=by rw [←hzc];exact jd _ _ (by omega)
       have h1c:∀ u∈repL m z,u.oneCell'=true:=fun u hu=>by
        unfold repL at hu
        obtain ⟨l,hl,hul⟩:=List.mem_flatten.1 hu
        rw [(List.mem_replicate.1 hl).2] at hul
        exact uQ.1 hone u hul
       have hxe:eu (ρ x)= .c (.int kx (m:Int)):=by rw [hx];rfl
       have hrm:∀ {n:Nat},aS n by_=true→n≤maxLen∧n*by_≤140737488355328:=fun h=>of_decide_eq_true h
       have hdiv:∀ (l:List (T d)),(flat d l).length / w=l.length:=fun l=>by rw [am,hwd];exact u4 _ (by omega)
       split at h1
       ·rename_i hs
        rcases ne h1 with ⟨hb,h⟩ | ⟨_,h⟩
        ·obtain ⟨r1,r2⟩:=hrm hb
         refine ⟨_,_,h,fun n0 Bx w0 B η ρv inv he=> ?_⟩
         have hse:eu (ρ s)= .c (.slice none 0 0):=by rw [hs];rfl
         have:=jD (ρA:=fun y=>eu (ρ y)) inv (bV hp he) ho (aD het) q1 q2 q3 q4 q5 q6 (eZ hkn) (cells:=[]) (by simp only [hse];rfl) hxe hze h1c (by simpa using r1) (by simpa using r2)
         simp only [hse,bS,uM,vb] at this
         exact this.to (r:=.own H.length) rfl (by simp) (cF (by simp) (dv H) (.inr (.inr (.inr ⟨_,_,E,w,rfl,by simp [exE,hwd],kp h2 _⟩))))
        ·cases h
       ·rename_i id hs
        split at h1
        ·rename_i d' l E' hH
         split at h1
         ·rename_i hE
          subst hE
          obtain ⟨e1,h3⟩:=aU h1
          clear h1
          subst e1
          simp only at h3
          rcases ne h3 with ⟨hb,h⟩ | ⟨_,h⟩
          ·obtain ⟨r1,r2⟩:=hrm hb
           refine ⟨_,_,h,fun n0 Bx w0 B η ρv inv he=> ?_⟩
           have hse:eu (ρ s)= .own id:=by rw [hs];rfl
           have:=jD (ρA:=fun y=>eu (ρ y)) inv (bV hp he) ho (aD het) q1 q2 q3 q4 q5 q6 (eZ hkn) (cells:=flat _ l) (by simp only [hse,dstA,exH hH,exE,hwd,and_self,if_true]) hxe hze h1c (by rw [hdiv];exact r1) (by rw [hdiv];exact r2)
           simp only [hse,bS,uM] at this
           exact this.to (r:=.own H.length) rfl (by simp) (cF (by simp) (fy (e:=.dead) (e1:=.dead) (.refl _)) (.inr (.inr (.inr ⟨_,flat _ l++flat _ (vi m zd),E',w,rfl,by simp [exE,hwd,a6],(Wk.refl _).app (kp h2 _)⟩))))
          ·cases h
         ·cases h1
        ·cases h1
       ·cases h1
      ·cases h1
     ·cases h
    ·cases h
   ·cases h
  ·cases h
 ·cases h
def iW (P:Program)(H:List E2)(ρ:Operand→V)(t:TypeId)(len:Nat)(parts:Array (Nat×Operand))(k:V→List E2→Tree R):Tree R:=
 match sliT P t with
 | some (e,w,z)=>if len*w≤16777216∧len≤maxLen then (match j7 (fun i=>some (i*w,w)) ((repL len z).map ck) (dC ρ parts) with
  | some l=>match tdOf P 12 e with
   | some d=>if wd d=w then decN (decK d) len l fun a r=>if wL r=0 then k (.own H.length) (H++[.own d a.l e]) else .fail else .fail
   | none=>.fail
  | none=>.fail) else .fail
 | none=>.fail
theorem lw {t:TypeId}{len:Nat}{parts:Array (Nat×Operand)}{k:V→List E2→Tree R}{res:R}(hp:aZ ρ o)(ho:o.op= .buildSlice t len parts)(h:(iW P H ρ t len parts k).run=some res):∃ r H',(k r H').run=some res∧dy P H ρ o r H':=by
 have hpm:(dC ρ parts).map (fun p=>(p.1,eu p.2))=cw (fun y=>eu (ρ y)) parts:=by simp [dC,cw,vc,vf]
 unfold iW at h
 split at h
 ·rename_i e kw z hsl
  split at h
  ·rename_i hlen
   split at h
   ·rename_i l hl
    split at h
    ·rename_i d htd
     split at h
     ·rename_i hwd
      obtain ⟨a,rest,h1,h2⟩:=gK (bU d) len l _ _ h
      split at h1
      ·rename_i hrest
       have hr0:al rest=[]:=gt (by rw [ep];exact hrest)
       rw [hr0,u5] at h2
       have hfill:=fb _ _ _ hl
       rw [hpm,a9] at hfill
       refine ⟨_,_,h1,fun n0 Bx w B η ρv inv he=> ?_⟩
       have:=mG (ρA:=fun y=>eu (ρ y)) inv (bV hp he) ho hlen.2 hsl hlen.1 hfill
       simp only [uM] at this
       exact this.to (r:=.own H.length) rfl (by simp) (cF (by simp) (dv H) (.inr (.inr (.inr ⟨_,_,e,kw,rfl,by simp [exE,hwd],h2⟩))))
      ·cases h1
     ·cases h
    ·cases h
   ·cases h
  ·cases h
 ·cases h
def sU (P:Program)(H:List E2)(t:TypeId)(a b:V)(k:V→List E2→Tree R):Tree R:=
 match sliT P t with
 | some (e,w,z)=>(match rowI P e,tdOf P 12 e with
  | some (_,by_),some d=>if wd d=w then intK a fun l=>intK b fun c=>.ite (decide (0≤l∧l≤c)&&aS c.toNat by_)
    (decK d (z.map ck) fun zd r=>if wL r=0 then k (.own H.length) (H++[.own d (vi l.toNat zd) e]) else .fail) .fail else .fail
  | _,_=>.fail)
 | none=>.fail
theorem q9 {t:TypeId}{a b:Operand}{k:V→List E2→Tree R}{res:R}(hp:aZ ρ o)(ho:o.op= .makeSlice t a b)(h:(sU P H t (ρ a) (ρ b) k).run=some res):∃ r H',(k r H').run=some res∧dy P H ρ o r H':=by
 unfold sU at h
 split at h
 ·rename_i e kw z hsl
  split at h
  ·rename_i kw2 by_ d hrow htd
   obtain ⟨ti,zz,q1,q2,q3,q4,q5,q6⟩:=c9 hrow
   split at h
   ·rename_i hwd
    obtain ⟨kl,l,ha,h⟩:=aY h
    obtain ⟨kc,c,hb,h⟩:=aY h
    rcases ne h with ⟨hc,h⟩ | ⟨_,h⟩
    ·simp only [uI,decide_eq_true_eq] at hc
     obtain ⟨⟨c1,c2⟩,c3⟩:=hc
     obtain ⟨c3,c4⟩:c.toNat≤maxLen∧c.toNat*by_≤140737488355328:=of_decide_eq_true c3
     obtain ⟨zd,rest,h1,h2⟩:=bU d _ _ _ h
     split at h1
     ·rename_i hrest
      have hr0:al rest=[]:=gt (by rw [ep];exact hrest)
      rw [hr0,u5,a9] at h2
      refine ⟨_,_,h1,fun n0 Bx w B η ρv inv he=> ?_⟩
      have:=n7 (ρA:=fun y=>ex (ρ y)) inv (aV hp he) ho hsl q1 q4 (by simp only [ha];rfl) (by simp only [hb];rfl) c1 c2 c3 c4
      simp only [uM] at this
      exact this.to (r:=.own H.length) rfl (by simp) (cF (by simp) (dv H) (.inr (.inr (.inr ⟨_,_,e,kw,rfl,by simp [exE,hwd],kp h2 _⟩))))
     ·cases h1
    ·cases h
   ·cases h
  ·cases h
 ·cases h
def iX (P:Program)(H:List E2)(ρ:Operand→V)(t:TypeId)(len:Nat)(parts:Array (Nat×Operand))(k:V→List E2→Tree R):Tree R:=
 match sliT P t with
 | some (e,w,z)=>if len*w≤16777216∧len≤maxLen then (match j7 (fun i=>some (i*w,w)) ((repL len z).map ck) (dC ρ parts) with
  | some l=>k (.bsl H.length len) (H++[.box l e])
  | none=>.fail) else .fail
 | none=>.fail
theorem lz {t:TypeId}{len:Nat}{parts:Array (Nat×Operand)}{k:V→List E2→Tree R}{res:R}(hp:aZ ρ o)(ho:o.op= .buildSlice t len parts)(h:(iX P H ρ t len parts k).run=some res):∃ r H',(k r H').run=some res∧dy P H ρ o r H':=by
 have hpm:(dC ρ parts).map (fun p=>(p.1,eu p.2))=cw (fun y=>eu (ρ y)) parts:=by simp [dC,cw,vc,vf]
 unfold iX at h
 split at h
 ·rename_i e kw z hsl
  split at h
  ·rename_i hlen
   split at h
   ·rename_i l hl
    have hfill:=fb _ _ _ hl
    rw [hpm,a9] at hfill
    refine ⟨_,_,h,fun n0 Bx w B η ρv inv he N hN=> ?_⟩
    refine iV (ρA:=fun y=>eu (ρ y)) (bV hp he) ho hsl hlen.1 hfill N fun cs g hcs hrel=> ?_
    have hB:∀ b∈w.heap.size::B,b∈B∨w.heap.size≤b:=fun b hb=>by rcases List.mem_cons.1 hb with rfl | h;exact .inr (uP _);exact .inl h
    have hinv:=kg inv hrel e
    have e1:cs.toList.toArray=cs:=by simp
    rw [e1] at hinv
    have hlen':η.length=H.length:=by have:=inv.len;simpa using this
    refine hN _ _ (w.heap.size::B) (η++[.pointer (some ⟨w.heap.size,0,none⟩)]) (.gr g) hB (aq η _) (Gr.bel g inv.base.1) (by simpa [exE] using hinv) ⟨w.heap.size, ?_,rfl⟩ (fun h=>by cases h)
    rw [List.getElem?_append_right (by omega),hlen']
    simp
   ·cases h
  ·cases h
 ·cases h
def bslK (P:Program)(H:List E2)(ρ:Operand→V)(o:Op)(k:V→List E2→Tree R):Option (Tree R):=
 match o with
 | .call ⟨.builtin .len,⟨[x]⟩,ts⟩=>(match ρ x,ts[0]? with
  | .bsl id n,some t=>(match cX P t with | some _=>some (k (.c (.int .i64 ((n:Nat):Int))) H) | none=>none)
  | _,_=>none)
 | .indexAddr t x i=>(match ρ x,ρ i,cX P t with
  | .bsl id n,.c (.int _ z),some e=>if P.cellsOf e=0 then none else if n≤4 then some (mC z (fun j=>k (.box id (j*P.cellsOf e)) H) n 0) else some (.ite (decide (0≤z∧z<(n:Int))) (k (.box id (z.toNat*P.cellsOf e)) H) .fail)
  | _,_,_=>none)
 | _=>none
theorem tz {k:V→List E2→Tree R}{res:R}{t:Tree R}(hb:bslK P H ρ o.op k=some t)(h:t.run=some res):∃ r H',(k r H').run=some res∧dy P H ρ o r H':=by
 obtain ⟨op,ho⟩:∃ op,o.op=op:=⟨_,rfl⟩
 rw [ho] at hb
 unfold bslK at hb
 split at hb
 ·rename_i x ts
  split at hb
  ·rename_i id n tt hx hts
   split at hb
   ·rename_i e het
    injection hb with hb;subst hb
    refine ⟨_,_,h,fun n0 Bx w B η ρv inv he N hN=> ?_⟩
    have h1:=(he x (by simp [ho,eq,uS])).1
    rw [hx] at h1
    obtain ⟨b,hid,hv⟩:=h1
    have hu:=aD het
    unfold u7
    have hrun:(execOp ρv o).run P w= .ok (.value (.int .i64 n)) w:=by
     simp [execOp,ho,resolve,invoke,builtin,Builtin.len_,ge,hv,hts,run_underlying hu,goInt]
    rw [hrun]
    exact hN _ _ B η (On.refl _ _) (fun _ h=>.inl h) (fun _ _ h=>h) (Bel.refl _ _ _) inv (.c _ _) (fun h=>by cases h)
   ·cases hb
  ·cases hb
 ·rename_i tt x i
  split at hb
  ·rename_i id n kk z e hx hi het
   split at hb
   ·cases hb
   ·rename_i hc
    have key:∀ (j:Nat),z=(j:Int)→j<n→dy P H ρ o (.box id (j*P.cellsOf e)) H:=fun j hj hjn=>by
     subst hj
     intro n0 Bx w B η ρv inv he N hN
     have z0:(0:Int)≤(j:Int):=by omega
     have z1:(j:Int)<(n:Int):=by omega
     have h1:=(he x (by simp [ho,eq])).1
     rw [hx] at h1
     obtain ⟨b,hid,hv⟩:=h1
     have h2:=(he i (by simp [ho,eq])).1
     rw [hi] at h2
     have h2:Rel w B η (.c (.int kk (j:Int))) (ρv i):=h2
     have h2:=h2.ofC
     have hu:=aD het
     obtain ⟨ii,hii,hs⟩:=aT (t:=e) (P:=P) (by omega)
     unfold u7
     have hrun:(execOp ρv o).run P w= .ok (.value (.pointer (some ⟨b,j*P.cellsOf e,none⟩))) w:=by
      simp [execOp,ho,Instr.indexAt,ge,run_underlying hu,hv,h2,asIntOf,z0,z1,hjn,Nat.not_le.mpr hjn,aR hii,hs,vd]
     rw [hrun]
     exact hN _ _ B η (On.refl _ _) (fun _ h=>.inl h) (fun _ _ h=>h) (Bel.refl _ _ _) inv (.box _ _ _ _ hid) (fun h=>by cases h)
    split at hb
    ·injection hb with hb;subst hb
     obtain ⟨j,hj,hz,h⟩:=fe h
     exact ⟨_,_,h,key j hz (by omega)⟩
    injection hb with hb;subst hb
    rcases ne h with ⟨hz,h⟩ | ⟨_,h⟩
    ·obtain ⟨z0,z1⟩:=of_decide_eq_true hz
     exact ⟨_,_,h,key z.toNat (by omega) (by omega)⟩
    ·cases h
  ·cases hb
 ·cases hb
def ptrS (P:Program)(t:TypeId):Bool:=match cX P t with
 | some e=>(tdOf P 12 e).isNone
 | none=>false
def sQ (P:Program)(H:List E2)(ρ:Operand→V)(t:TypeId)(x:V)(lo hi:Option Operand)(k:V→List E2→Tree R):Tree R:=
 match cX P t,x with
 | some e,.own id=>(match H[id]? with
  | some (.own d l E)=>if wd d=P.cellsOf e∧1≤wd d then (match lo,hi with
   | some lo,none=>intK (ρ lo) fun a=>.bind (dh l a) fun m=>k (.own H.length) (H.set id .dead++[.own d m E])
   | none,some hi=>intK (ρ hi) fun b=>.bind (cN l b) fun m=>k (.own H.length) (H.set id .dead++[.own d m E])
   | some lo,some hi=>intK (ρ lo) fun a=>intK (ρ hi) fun b=>.bind (subI l a b) fun m=>k (.own H.length) (H.set id .dead++[.own d m E])
   | none,none=>.fail) else .fail
  | _=>.fail)
 | _,_=>.fail
theorem q8 {t:TypeId}{x:Operand}{lo hi:Option Operand}{k:V→List E2→Tree R}{res:R}(hp:aZ ρ o)(ho:o.op= .slice t x lo hi none)(h:(sQ P H ρ t (ρ x) lo hi k).run=some res):∃ r H',(k r H').run=some res∧dy P H ρ o r H':=by
 unfold sQ at h
 split at h
 ·rename_i e id het hx
  split at h
  ·rename_i d l E hH
   split at h
   ·rename_i hwd
    have hdiv:(flat d l).length / wd d=l.length:=by rw [am];exact u4 _ (by omega)
    have exi:∀ (y:Operand) kk z,ρ y= .c (.int kk z)→ex (ρ y)= .c (.int kk z):=fun y kk z h=>by rw [h];rfl
    have key:∀ (a b:Nat),aX (fun y=>ex (ρ y)) 0 lo=some a→aX (fun y=>ex (ρ y)) l.length hi=some b→a≤b→b≤l.length→dy P H ρ o (.own H.length) (H.set id .dead++[.own d ((l.drop a).take (b-a)) E]):=fun a b ha hb hab hbl n0 Bx w B η ρv inv he=>by
     have:=lL (P:=P) (ρA:=fun y=>ex (ρ y)) inv (aV hp he) ho (aD het) (by simp only [hx];rfl) (exH hH) hwd.1 hwd.2 ha (by rw [hdiv];exact hb) hab (by rw [am];exact uO _ hbl)
     simp only [uM] at this
     rw [←df,←cS] at this
     exact this.to (r:=.own H.length) rfl (by simp) (cF (by simp) (fy (e:=.dead) (e1:=.dead) (.refl _)) (.refl _))
    split at h
    ·obtain ⟨kk,z,hz,h⟩:=aY h
     obtain ⟨m,hm,h⟩:=uN h
     unfold dh at hm
     split at hm
     ·rename_i hc
      injection hm with hm;subst hm
      have:=key z.toNat l.length (by simp [aX,exi _ _ _ hz,hc.1]) rfl (by omega) (uP _)
      rw [uT (by rw [uZ];exact uP _)] at this
      exact ⟨_,_,h,this⟩
     ·cases hm
    ·obtain ⟨kk,z,hz,h⟩:=aY h
     obtain ⟨m,hm,h⟩:=uN h
     unfold cN at hm
     split at hm
     ·rename_i hc
      injection hm with hm;subst hm
      have:=key 0 z.toNat rfl (by simp [aX,exi _ _ _ hz,hc.1]) (vg _) (by omega)
      rw [u6,vj] at this
      exact ⟨_,_,h,this⟩
     ·cases hm
    ·obtain ⟨kk,z,hz,h⟩:=aY h
     obtain ⟨kk2,z2,hz2,h⟩:=aY h
     obtain ⟨m,hm,h⟩:=uN h
     unfold subI at hm
     split at hm
     ·rename_i hc
      injection hm with hm;subst hm
      exact ⟨_,_,h,key z.toNat z2.toNat (by simp [aX,exi _ _ _ hz,hc.1]) (by simp [aX,exi _ _ _ hz2];omega) (by omega) (by omega)⟩
     ·cases hm
    ·cases h
   ·cases h
  ·cases h
 ·cases h
def Arr.over {α:Type}{n:Nat}(a:Arr α n)(l:List α):Arr α n:=⟨l.take n++a.l.drop l.length,by rw [uX,u2,uZ,a.h];omega⟩
theorem o7 {d:Td}{n:Nat}(a:Arr (T d) n)(l:List (T d)):flat d (a.over l).l=putL (flat d a.l) 0 ((flat d l).take (min l.length n*wd d)):=by
 have e1:(flat d l).take (min l.length n*wd d)=flat d (l.take (min l.length n)):=(cS d l _).symm
 have e2:l.take (min l.length n)=l.take n:=by
  rcases Nat.le_total l.length n with h | h
  ·rw [vn h,uT (uP _),uT h]
  ·rw [Nat.min_eq_right h]
 have e3:a.l.drop (l.take n).length=a.l.drop l.length:=by
  rcases Nat.le_total l.length n with h | h
  ·rw [u2,Nat.min_eq_right h]
  ·rw [u2,vn h,List.drop_eq_nil_of_le (by rw [a.h];exact uP _),List.drop_eq_nil_of_le (by rw [a.h];exact h)]
 unfold putL Arr.over
 rw [e1,e2,a6,List.take_zero,vb,Nat.zero_add,am,←df,e3]
theorem oq {n0:Nat}{Bx:List Nat}{w:World}{B:List Nat}{η:List Value}{Hh:List Ent}{ρv:Operand→Value}(inv:Inv n0 Bx w B η Hh){x s:Operand}{t t2 E k:Nat}{i:TypeInfo}{id b n:Nat}{T':TypeId}{cells l:List AV}(ho:o.op= .call ⟨.builtin .copy, #[x,s], #[t,t2]⟩)
  (ht:P.underlying t=some (.slice E)) (hi:P.info? E=some i) (hsz:i.size=k) (hx:ρv x= .slice (some ⟨b,0,none⟩) n n) (hid:η[id]? =some (.pointer (some ⟨b,0,none⟩))) (hH:Hh[id]? =some (.box cells T')) (hl:cells.length=n*k)
  (hs:Rel w B η (.sl l k) (ρv s)) (h1:l.all AV.one=true):OpS P n0 Bx w ρv o B η (.c (.int .i64 ((min (l.length / k) n:Nat):Int))) (Hh.set id (.box (putL cells 0 (l.take (min (l.length / k) n*k))) T')):=by
 intro N hN
 obtain ⟨A,m,c,us,hv,hk,hn,hc,hm,hA,hr⟩:=Rel.slL hs
 have hdiv:l.length / k=m:=by rw [←hn];exact u4 _ hk
 rw [hdiv] at hN
 have hent:=inv.ent id _ hH
 rw [List.getD_eq_getElem?_getD,hid,uJ] at hent
 obtain ⟨b',us',e1,e2,e3,e4,e5,e6⟩:=hent
 obtain rfl:b=b':=by simpa using e1
 obtain ⟨q,hq⟩:∃ q,q=min m n:=⟨_,rfl⟩
 rw [←hq] at hN
 have hqm:q≤m:=by omega
 have hqn:q≤n:=by omega
 obtain ⟨news,hnews⟩:∃ news,news=(List.range (q*k)).map us:=⟨_,rfl⟩
 have hlen:news.length=q*k:=by simp [hnews]
 have hmul:q*k≤l.length:=by rw [←hn];exact uO k hqm
 have hmul2:q*k≤us'.length:=by rw [e6.1,hl];exact uO k hqn
 have hrel:RelL w B η (l.take (q*k)) news:=⟨by rw [hlen,u2];omega,fun j y hy=>by
  rw [List.getElem?_take] at hy
  split at hy
  ·rename_i hj
   exact ⟨us j,by simp [hnews,hj],(hr j y hy).any⟩
  ·cases hy⟩
 have h1':(l.take (q*k)).all AV.one=true:=uQ.2 fun y hy=>uQ.1 h1 y (List.mem_of_mem_take hy)
 have hfc:(Builtin.firstCells i.size q (.slice A m c)).run P w= .ok news.toArray w:=by
  rw [hsz]
  cases A with
  | none=>
   have hm0:m=0:=by
    rcases Nat.eq_zero_or_pos m with h | h
    ·exact h
    ·obtain ⟨_,h,_⟩:=hA h;cases h
   have hq0:q=0:=by omega
   have:news=[]:=gt (by rw [hlen,hq0];simp)
   rw [this,run_firstCells_none]
  | some ad=>
   refine run_firstCells_some (P:=P) w k q ad m c news hlen (fun j v hj=> ?_)
   have hjl:j<q*k:=by rw [←hlen];exact (List.getElem?_eq_some_iff.1 hj).1
   have hmp:0<m:=by
    rcases Nat.eq_zero_or_pos m with h | h
    ·have:q=0:=by omega
     subst this
     omega
    ·exact h
   obtain ⟨ad',h,hat⟩:=hA hmp
   injection h with h
   subst h
   rw [hat.cell j (by omega)]
   simp [hnews,hjl] at hj
   rw [hj]
 have hst:=run_storeCells_at (P:=P) b 0 T' news 0 us'.toArray w e5 (by simp;omega) (hrel.one h1')
 have hput:us'.toArray.toList.take (0+0)++news++us'.toArray.toList.drop (0+0+news.length)=putL us' 0 news:=rfl
 rw [hput] at hst
 have hon:On B w (w.setRow b (putL us' 0 news).toArray):=⟨rfl,rfl,rfl,by simp,fun kk _ hk=>.of (setRow_other w b kk _ (fun h=>hk (by rw [h];exact e3)))⟩
 obtain ⟨i1,i2,i3⟩:=inv.write (e':=.box (putL cells 0 (l.take (q*k))) T') (cs:=(putL us' 0 news).toArray) hH hid rfl rfl rfl
  ⟨b,_,rfl,e2,e3,e4,setRow_heap w b us'.toArray _ T' (0,0) e5,(e6.putL hrel 0).on hon (fun _ h=>.inl h) (fun _ _ h=>h)⟩
 have hqq:Nat.min m n=q:=hq.symm
 have hrun0:(Builtin.copy_ #[t,t2] o.type #[ρv x,ρv s]).run P w= .ok (.int .i64 (q:Int)) (w.setRow b (putL us' 0 news).toArray):=by
  rw [hx,hv]
  simp [Builtin.copy_,run_underlying ht,sizeOf,typeInfo,hi,Builtin.lenOf,hqq,hfc,hst,goInt]
 unfold u7
 have hrun':(execOp ρv o).run P w= .ok (.value (.int .i64 (q:Int))) (w.setRow b (putL us' 0 news).toArray):=by
  simp only [execOp,ho,resolve,invoke,builtin,ge,Sem.run_pure,Result.andThen_ok,List.map_toArray,List.map_cons,List.map_nil,hrun0]
 rw [hrun']
 exact hN _ _ B η i2 (fun _ h=>.inl h) (fun _ _ h=>h) i3 i1 (.c _ _) (fun h=>by cases h)
def tm (P:Program)(H:List E2)(t:TypeId)(x s:V)(k:V→List E2→Tree R):Tree R:=
 match x,cX P t with
 | .bsl id n,some e=>(match H[id]? with
  | some (.box [.arr d n' a] TT)=>if n'=n∧wd d=P.cellsOf e∧1≤wd d then (match dV P e s with
   | some ⟨d',l⟩=>dk d' d (fun d=>List (T d)) l fun l=>k (.c (.int .i64 ((min l.length n:Nat):Int))) (H.set id (.box [.arr d n' (a.over l)] TT))
   | none=>.fail) else .fail
  | _=>.fail)
 | _,_=>.fail
theorem rB {t t2:TypeId}{x s:Operand}{k:V→List E2→Tree R}{res:R}(ho:o.op= .call ⟨.builtin .copy, #[x,s], #[t,t2]⟩)(h:(tm P H t (ρ x) (ρ s) k).run=some res):∃ r H',(k r H').run=some res∧dy P H ρ o r H':=by
 unfold tm at h
 split at h
 ·rename_i id n e hx het
  split at h
  ·rename_i d n' a TT hH
   split at h
   ·rename_i hc
    obtain ⟨rfl,hwd,hw1⟩:=hc
    split at h
    ·rename_i d' l hv
     obtain ⟨e1,h1⟩:=aU h
     clear h
     subst e1
     simp only at h1
     refine ⟨_,_,h1,fun n0 Bx w B η ρv inv he=> ?_⟩
     have hx0:=(he x (by simp [ho,eq,uS])).1
     rw [hx] at hx0
     obtain ⟨b,hid,hvx⟩:=hx0
     obtain ⟨ii,hii,hs⟩:=aT (t:=e) (P:=P) (by omega)
     have hrs:=jH hv ((he s (by simp [ho,eq,uS])).1.get (lG hv))
     have:=oq (P:=P) (o:=o) (k:=wd d') inv ho (aD het) hii (hs.trans hwd.symm) hvx hid (exH hH) (by simp [exE,aj,bX,segA,am,a.h]) hrs (dt _ l)
     have hw0:0<wd d':=hw1
     rw [am,u4 _ hw0] at this
     have e2:putL (al [V.arr d' n' a]) 0 ((flat d' l).take (min l.length n'*wd d'))=al [V.arr d' n' (a.over l)]:=by
      simp only [aj,bX,segA,u5]
      exact (o7 a l).symm
     rw [e2] at this
     exact this.to (r:=.c (.int .i64 ((min l.length n':Nat):Int))) rfl (by simp) (fy (e:=.dead) (.refl _))
    ·cases h
   ·cases h
  ·cases h
 ·cases h
def lK (P:Program)(H:List E2)(ρ:Operand→V)(t:TypeId)(x:V)(lo hi:Option Operand)(k:V→List E2→Tree R):Tree R:=
 match arrT P t,x,lo,hi with
 | some (m,e),.box id 0,none,none=>if 1≤P.cellsOf e then k (.bsl id m) H else .fail
 | _,x,lo,hi=>sQ P H ρ t x lo hi k
theorem nL {t:TypeId}{x:Operand}{lo hi:Option Operand}{k:V→List E2→Tree R}{res:R}(hp:aZ ρ o)(ho:o.op= .slice t x lo hi none)(h:(lK P H ρ t (ρ x) lo hi k).run=some res):∃ r H',(k r H').run=some res∧dy P H ρ o r H':=by
 unfold lK at h
 split at h
 ·rename_i m e id hat hx
  split at h
  ·rename_i hc
   refine ⟨_,_,h,fun n0 Bx w B η ρv inv he N hN=> ?_⟩
   have hx0:=aV hp he x (by simp [ho,eq])
   rw [hx] at hx0
   have hx0:Rel w B η (.box id 0) (ρv x):=hx0
   have hx1:∃ b,ρv x= .pointer (some ⟨b,0,none⟩)∧η[id]? =some (.pointer (some ⟨b,0,none⟩)):=by
    generalize ρv x=v at hx0
    cases hx0 with
    | box _ _ _ b hid=>exact ⟨b,rfl,hid⟩
   obtain ⟨b,hv,hid⟩:=hx1
   obtain ⟨ii,hii,hs⟩:=aT (t:=e) (P:=P) (by omega)
   have hu:=bb hat
   have hbounds:(uR false m m none none none).run P w= .ok (0,m,m) w:=by simp [uR,ge]
   have hadd:(⟨b,0,none⟩:Addr).add 0=⟨b,0,none⟩:=by rw [vd]
   unfold u7
   have hrun:(execOp ρv o).run P w= .ok (.value (.slice (some ⟨b,0,none⟩) m m)) w:=by
    simp [execOp,ho,Instr.sliceAt,Instr.sureAddr,ge,run_underlying hu,hv,hbounds,aR hii,hs,hadd]
   rw [hrun]
   exact hN _ _ B η (On.refl _ _) (fun _ h=>.inl h) (fun _ _ h=>h) (Bel.refl _ _ _) inv ⟨b,hid,rfl⟩ (fun h=>by cases h)
  ·cases h
 ·exact q8 hp ho h
def j4:V→Bool
 | .agg l=>l.all immV
 | .fre _ _=>true
 | x=>immV x
def argV:V→V
 | .fre d l=>.lst d l
 | x=>x
def jc (P:Program)(f:FuncId)(args:List V)(r:V):Prop:=
 ∀ (w:World) (B:List Nat) (cargs:List Value),(∀ b∈B,b<w.heap.size)→GlobOK w B→cargs.length=args.length→(∀ (i:Nat) x,args[i]? =some x→∃ v,cargs[i]? =some v∧Rel w B [] (ex x) v)→
  Calls P f cargs.toArray w fun e w'=>∃ v,e= .returned v∧Gr w w'∧Rel w' B [] (ex r) v
def mP (P:Program)(f:FuncId)(cargs:Array Value)(w:World)(N:Value→World→Prop):Prop:=
 match (callFunc f cargs).run P w with
 | .ok (.value v) w'=>N v w'
 | .ok .skip w'=>N undef w'
 | .ok (.enter f args) w'=>Calls P f args w' fun e w''=>∃ v,e= .returned v∧N v w''
 | _=>False
def sg (P:Program)(f:FuncId)(args:List V)(r:V):Prop:=
 ∀ (w:World) (B:List Nat) (cargs:List Value),(∀ b∈B,b<w.heap.size)→GlobOK w B→cargs.length=args.length→(∀ (i:Nat) x,args[i]? =some x→∃ v,cargs[i]? =some v∧Rel w B [] (ex x) v)→
  ∀ N:Value→World→Prop,(∀ v w',Gr w w'→Rel w' B [] (ex r) v→N v w')→mP P f cargs.toArray w N
theorem jc.toV {P:Program}{f:FuncId}{args:List V}{r:V}(h:jc P f args r)(hf:∃ fn,P.funcs[f]? =some fn∧fn.name≠ "runtime.NumGoroutine" ∧fn.body≠none):sg P f args r:=fun w B cargs h1 h2 h3 h4 N hN=>by
 obtain ⟨fn,h5,h6,h7⟩:=hf
 unfold mP
 have hrun:(callFunc f cargs.toArray).run P w= .ok (.enter f cargs.toArray) w:=by
  simp [callFunc,ge,h5,h6,h7]
 rw [hrun]
 exact (h w B cargs h1 h2 h3 h4).mono fun e w' ⟨v,g1,g2,g3⟩=>⟨v,g1,hN v w' g2 g3⟩
theorem cA {P:Program}{f:FuncId}{x:Operand}{args:Array Operand}{ts:Array TypeId}{o:Oper}{ρv:Operand→Value}{w:World}{N:Value→World→Prop}(ho:o.op= .call ⟨.value x,args,ts⟩)(hx:ρv x= .func (.func f) #[] #[])(h:mP P f (args.map ρv) w N):u7 P ρv o w N:=by
 unfold u7
 have e:(execOp ρv o).run P w=(callFunc f (args.map ρv)).run P w:=by
  simp [execOp,ho,resolve,Deferred.ofValue,hx,invoke,ge]
 rw [e]
 exact h
abbrev Fns (R:Type):=FuncId→List V→(V→Tree R)→Tree R
structure FnsOK (P:Program) (F:Fns R):Prop where
 ok:∀ f args k res,(F f args k).run=some res→∃ r,(k r).run=some res∧r.plain=true∧(∀ l k,ex r≠.fresh l k)∧sg P f args r
def evNF (P:Program)(F:Fns R)(H:List E2)(ρ:Operand→V)(o:Op)(k:V→Tree R):Tree R:=
 match o with
 | .call ⟨.value (.func f),args,ts⟩=>if args.toList.all (fun x=>j4 (ρ x))=true then F f (args.toList.map fun x=>argV (ρ x)) k else .fail
 | o=>evN P H ρ o k
theorem db {x:V}(h:j4 x=true):x.plain=true:=by cases x <;> first | rfl | cases h
theorem f9 {x:V}(h:j4 x=true){w:World}{B:List Nat}{η:List Value}{v:Value}(hr:Rel w B η (ex x) v):Rel w B [] (ex (argV x)) v:=by
 cases x with
 | agg l=>
  refine hr.bare ?_
  simp only [argV,ex,ex0,AV.imm]
  exact eE l h
 | fre d l=>exact hr.unf.bare rfl
 | arr d n a=>
  refine hr.bare ?_
  simp only [argV,ex,ex0,AV.imm]
  exact cq d a.l
 | c v=>exact hr.bare rfl
 | str s=>exact hr.bare rfl
 | lst d l=>exact hr.bare rfl
 | emp=>exact hr.bare rfl
 | nn=>exact hr.bare rfl
 | _=>cases h
theorem ec {F:Fns R}(hF:FnsOK P F){k:V→Tree R}{res:R}(h:(evNF P F H ρ o.op k).run=some res):
  ∃ r,(k r).run=some res∧∀ (n0:Nat) (Bx:List Nat) (w:World) (B:List Nat) (η:List Value) (ρv:Operand→Value),(∀ f,ρv (.func f)= .func (.func f) #[] #[])→Inv n0 Bx w B η (H.map exE)→(∀ x∈o.op.operands,Rel2 w B η (ρ x) (ρv x)∧au n0 (ex (ρ x)) (ρv x))→OpK P n0 w ρv o B η r:=by
 generalize ho:o.op=op at h
 unfold evNF at h
 split at h
 ·rename_i f args ts
  split at h
  ·rename_i himm
   obtain ⟨r,h1,h2,h3,h4⟩:=hF.ok _ _ _ _ h
   refine ⟨r,h1,fun n0 Bx w B η ρv hfv inv he N hN=>cA ho (hfv f) ?_⟩
   have hmem:∀ y∈args.toList,y∈o.op.operands:=fun y hy=>by simp [ho,eq,uS];exact .inr (by simpa using hy)
   have hcall:=h4 w B (args.toList.map ρv) inv.lt inv.base.2 (by simp) (fun i x hx=>by
    rw [List.getElem?_map,uH] at hx
    obtain ⟨y,hy,rfl⟩:=hx
    have hm:=uK hy
    have hi:=uQ.1 himm y hm
    exact ⟨ρv y,by rw [List.getElem?_map,hy];rfl,f9 hi ((he y (by rw [←ho];exact hmem y hm)).1.get (db hi))⟩) N (fun v w' g2 g3=>hN v w' (.gr g2) (Rel2.of h2 g3.any) (fun hfr=>by generalize ex r=y at h3 hfr;cases y <;> first | exact absurd rfl (h3 _ _) | cases hfr))
   have hargs:(args.toList.map ρv).toArray=args.map ρv:=by apply vh;simp
   rw [hargs] at hcall
   exact hcall
  ·cases h
 ·obtain ⟨r,h1,h2⟩:=ul (o:=o) (by rw [ho];exact h)
  exact ⟨r,h1,fun n0 Bx w B η ρv _ inv he=>h2 n0 Bx w B η ρv inv (by rw [ho];exact he)⟩
def rdec (s:List UInt8)(p:Int):Int×Int:=(((Utf8.decode ⟨s.toArray⟩ p.toNat).1:Nat),((Utf8.decode ⟨s.toArray⟩ p.toNat).2:Nat))
def o0 (P:Program)(H:List E2)(t:TypeId)(x:V)(k:V→List E2→Tree R):Tree R:=
 match P.underlying t,x with
 | some .string,.str s=>k (.box H.length 0) (H++[.itr s 0])
 | some .string,.c (.string b)=>k (.box H.length 0) (H++[.itr b.data.toList 0])
 | _,_=>.fail
theorem oZ {t:TypeId}{x:Operand}{k:V→List E2→Tree R}{res:R}(hp:aZ ρ o)(ho:o.op= .range t x)(h:(o0 P H t (ρ x) k).run=some res):∃ r H',(k r H').run=some res∧dy P H ρ o r H':=by
 unfold o0 at h
 have fin:∀ (s:List UInt8),P.underlying t=some .string→ex (ρ x)= .c (.string ⟨s.toArray⟩)→dy P H ρ o (.box H.length 0) (H++[.itr s 0]):=fun s hu hs n0 Bx w B η ρv inv he=>by
  have hx0:=aV hp he x (by simp [ho,eq])
  rw [hs] at hx0
  have:=qO (P:=P) (ρ:=ρv) inv ho hu (u1 hx0)
  simp only [uM] at this
  exact this.to (r:=.box H.length 0) rfl (by simp) (cF (by simp) (dv H) (.refl _))
 split at h
 ·rename_i s hu hx
  exact ⟨_,_,h,fin s hu (by rw [hx];rfl)⟩
 ·rename_i b hu hx
  exact ⟨_,_,h,fin b.data.toList hu (by rw [hx];simp [ex,ex0])⟩
 ·cases h
def sN (H:List E2)(a:V)(k:V→List E2→Tree R):Tree R:=
 match a with
 | .box id 0=>(match H[id]? with
  | some (.itr s p)=>.ite (decide (p.toNat<s.length)) (k (.tup [.c (.bool true),.c (.int .i64 (p.toNat:Nat)),.c (.int .i32 (rdec s p).1)]) (H.set id (.itr s (((p.toNat:Nat):Int)+(rdec s p).2)))) (k (.tup [.c (.bool false)]) H)
  | _=>.fail)
 | _=>.fail
theorem qX {x:Operand}{k:V→List E2→Tree R}{res:R}(hp:aZ ρ o)(ho:o.op= .next x true)(h:(sN H (ρ x) k).run=some res):∃ r H',(k r H').run=some res∧dy P H ρ o r H':=by
 unfold sN at h
 split at h
 ·rename_i id hx
  split at h
  ·rename_i s p hH
   rcases ne h with ⟨hb,h⟩ | ⟨hb,h⟩
   ·have hlt:=of_decide_eq_true hb
    refine ⟨_,_,h,fun n0 Bx w B η ρv inv he=> ?_⟩
    have hx0:=aV hp he x (by simp [ho,eq])
    rw [hx] at hx0
    have:=sM (P:=P) (ρ:=ρv) inv ho (exH hH) hx0 (by show p.toNat<s.toArray.size;simpa using hlt)
    refine this.to (r:=.tup [.c (.bool true),.c (.int .i64 (p.toNat:Nat)),.c (.int .i32 (rdec s p).1)]) rfl (by simp) ?_
    refine fy (e:=.itr s p) ?_
    show fu _ (exE (.itr s (((p.toNat:Nat):Int)+(rdec s p).2)))
    have e:(((p.toNat:Nat):Int)+(rdec s p).2).toNat=p.toNat+(Utf8.decode ⟨s.toArray⟩ p.toNat).2:=by unfold rdec;simp only;omega
    show fu _ (.itr ⟨s.toArray⟩ (((p.toNat:Nat):Int)+(rdec s p).2).toNat)
    rw [e]
    exact .refl _
   ·have hlt:=of_decide_eq_false hb
    refine ⟨_,_,h,fun n0 Bx w B η ρv inv he=> ?_⟩
    have hx0:=aV hp he x (by simp [ho,eq])
    rw [hx] at hx0
    have:=qW (P:=P) (ρ:=ρv) inv ho (exH hH) hx0 (by show ¬ p.toNat<s.toArray.size;simpa using hlt)
    exact this.to (r:=.tup [.c (.bool false)]) rfl (by simp) (dv H)
  ·cases h
 ·cases h
def movB:V→Bool
 | .adr _ | .lst _ _ | .str _=>false
 | _=>true
def evW2 (P:Program)(mv:Bool×Bool)(H:List E2)(ρ:Operand→V)(o:Op)(k:V→List E2→Tree R):Option (Tree R):=
 match o with
 | .box t x=>some (if mv.2=true then mH P t (ρ x) fun r=>k r H else boxK P H t (ρ x) k)
 | .alloc t=>some (nF P H t k)
 | .store t a x=>some (kA P H t (ρ a) (ρ x) k)
 | .slice t x lo hi none=>if mv.1=true∧movB (ρ x)=true then some (lK P H ρ t (ρ x) lo hi k) else none
 | .buildSlice t len parts=>if mv.1=true then some (iW P H ρ t len parts k) else if ptrS P t=true then some (iX P H ρ t len parts k) else none
 | .makeSlice t a b=>some (sU P H t (ρ a) (ρ b) k)
 | .range t x=>some (o0 P H t (ρ x) k)
 | .next x true=>some (sN H (ρ x) k)
 | .call ⟨.builtin .append,⟨[s,x]⟩,⟨[t,t']⟩⟩=>if t=t' then some (eR P H t (ρ s) (ρ x) k) else (match ρ x with
  | .str bs=>if cZ P t'=true then some (kj P H t (ρ s) bs k) else some .fail
  | x=>some (ki P H t t' (ρ s) x k))
 | _=>none
def evS2 (P:Program)(F:Fns R)(mv:Bool×Bool)(H:List E2)(ρ:Operand→V)(o:Op)(k:V→List E2→Tree R):Tree R:=
 match evW2 P mv H ρ o k with
 | some t=>if kN ρ o=true then t else .fail
 | none=>match bslK P H ρ o k with
  | some t=>t
  | none=>match o with
   | .call ⟨.builtin .copy,⟨[x,s]⟩,⟨[t,_]⟩⟩=>tm P H t (ρ x) (ρ s) k
   | o=>evNF P F H ρ o fun r=>k r H
theorem pG {F:Fns R}(hF:FnsOK P F){mv:Bool×Bool}{k:V→List E2→Tree R}{res:R}(h:(evS2 P F mv H ρ o.op k).run=some res):
  ∃ r H',(k r H').run=some res∧∀ (n0:Nat) (Bx:List Nat) (w:World) (B:List Nat) (η:List Value) (ρv:Operand→Value),(∀ f,ρv (.func f)= .func (.func f) #[] #[])→Inv n0 Bx w B η (H.map exE)→(∀ x∈o.op.operands,Rel2 w B η (ρ x) (ρv x)∧au n0 (ex (ρ x)) (ρv x))→OpS2 P n0 Bx w ρv o B η r H':=by
 unfold evS2 at h
 split at h
 ·rename_i t hw
  split at h
  ·rename_i hpl
   have hp:aZ ρ o:=fun x hx=>Array.all_eq_true'.1 hpl x hx
   have key:∀ {r H'},(k r H').run=some res∧dy P H ρ o r H'→∃ r H',(k r H').run=some res∧∀ (n0:Nat) (Bx:List Nat) (w:World) (B:List Nat) (η:List Value) (ρv:Operand→Value),(∀ f,ρv (.func f)= .func (.func f) #[] #[])→Inv n0 Bx w B η (H.map exE)→(∀ x∈o.op.operands,Rel2 w B η (ρ x) (ρv x)∧au n0 (ex (ρ x)) (ρv x))→OpS2 P n0 Bx w ρv o B η r H':=fun {r H'} h=>⟨r,H',h.1,fun n0 Bx w B η ρv _ inv he=>h.2 n0 Bx w B η ρv inv he⟩
   obtain ⟨op,ho⟩:∃ op,o.op=op:=⟨_,rfl⟩
   rw [ho] at hw
   unfold evW2 at hw
   split at hw
   ·injection hw with hw;subst hw
    split at h
    ·obtain ⟨r,H',h⟩:=ox hp ho h;exact key h
    ·obtain ⟨r,H',h⟩:=tB hp ho h;exact key h
   ·injection hw with hw;subst hw;obtain ⟨r,H',h⟩:=qd (ρ:=ρ) ho h;exact key h
   ·injection hw with hw;subst hw;obtain ⟨r,H',h⟩:=oI hp ho h;exact key h
   ·split at hw
    ·injection hw with hw;subst hw;obtain ⟨r,H',h⟩:=nL hp ho h;exact key h
    ·cases hw
   ·split at hw
    ·injection hw with hw;subst hw;obtain ⟨r,H',h⟩:=lw hp ho h;exact key h
    ·split at hw
     ·injection hw with hw;subst hw;obtain ⟨r,H',h⟩:=lz hp ho h;exact key h
     ·cases hw
   ·injection hw with hw;subst hw;obtain ⟨r,H',h⟩:=q9 hp ho h;exact key h
   ·injection hw with hw;subst hw;obtain ⟨r,H',h⟩:=oZ hp ho h;exact key h
   ·injection hw with hw;subst hw;obtain ⟨r,H',h⟩:=qX hp ho h;exact key h
   ·split at hw
    ·rename_i ht
     subst ht
     injection hw with hw;subst hw;obtain ⟨r,H',h⟩:=jF hp ho h;exact key h
    ·split at hw
     ·rename_i bs hx
      split at hw
      ·rename_i hst
       injection hw with hw;subst hw;obtain ⟨r,H',h⟩:=mM hp ho (bz hst) hx h;exact key h
      ·injection hw with hw;subst hw;cases h
     ·injection hw with hw;subst hw;obtain ⟨r,H',h⟩:=mL hp ho h;exact key h
   ·cases hw
  ·cases h
 ·split at h
  ·rename_i t hb
   obtain ⟨r,H',h1,h2⟩:=tz hb h
   exact ⟨r,H',h1,fun n0 Bx w B η ρv _ inv he=>h2 n0 Bx w B η ρv inv he⟩
  obtain ⟨op,ho⟩:∃ op,o.op=op:=⟨_,rfl⟩
  rw [ho] at h
  split at h
  ·obtain ⟨r,H',h1,h2⟩:=rB ho h
   exact ⟨r,H',h1,fun n0 Bx w B η ρv _ inv he=>h2 n0 Bx w B η ρv inv he⟩
  obtain ⟨r,h1,h2⟩:=ec (o:=o) hF (by rw [ho];exact h)
  exact ⟨r,H,h1,fun n0 Bx w B η ρv hfv inv he N hN=>h2 n0 Bx w B η ρv hfv inv he N (fun v w' g hr hf=>hN v w' B η g.on (fun _ h=>.inl h) (fun _ _ h=>h) (g.bel inv) (inv.gk g) hr hf)⟩
end
structure S2 where
 slots:List V
 heap:List E2
 deriving Inhabited
structure SlotsK (n0:Nat) (w:World) (B:List Nat) (η:List Value) (sl:List V) (tmps:Array Value):Prop where
 size:sl.length=tmps.size
 rel:∀ t,Rel2 w B η (sl.getD t .any) (tmps.getD t undef)
 fresh:∀ t,au n0 (ex (sl.getD t .any)) (tmps.getD t undef)
structure SimK (n0:Nat) (Bx:List Nat) (ds:List Deferred) (st:S2) (a:Act) (w:World) (B:List Nat) (η:List Value):Prop where
 defers:a.defers=ds
 inv:Inv n0 Bx w B η (st.heap.map exE)
 slots:SlotsK n0 w B η st.slots a.tmps
theorem ng {α β:Type}(f:α→β)(l:List α)(t:Nat)(d:α):(l.map f).getD t (f d)=f (l.getD t d):=by
 simp only [List.getD_eq_getElem?_getD,List.getElem?_map]
 cases l[t]? <;> rfl
theorem SlotsK.map {n0:Nat}{w:World}{B B':List Nat}{η η':List Value}{sl:List V}{tmps:Array Value}(h:SlotsK n0 w B η sl tmps)(f:V→V)(hf:f .any= .any)(hr:∀ x v,Rel2 w B η x v→Rel2 w B' η' (f x) v)(hfr:∀ x v,au n0 (ex x) v→au n0 (ex (f x)) v):SlotsK n0 w B' η' (sl.map f) tmps:=
 ⟨by simp [h.size],fun t=>by
  have:=ng f sl t .any
  rw [hf] at this
  rw [this];exact hr _ _ (h.rel t),fun t=>by
  have:=ng f sl t .any
  rw [hf] at this
  rw [this];exact hfr _ _ (h.fresh t)⟩
theorem SlotsK.put {n0:Nat}{w:World}{B:List Nat}{η:List Value}{sl:List V}{tmps:Array Value}{r:V}{v:Value}(h:SlotsK n0 w B η sl tmps)(hr:Rel2 w B η r v)(hf:au n0 (ex r) v)(t:Nat):SlotsK n0 w B η (sl.set t r) (tmps.setIfInBounds t v):=by
 have key:∀ u,((sl.set t r).getD u .any=r∧(tmps.setIfInBounds t v).getD u undef=v)∨((sl.set t r).getD u .any=sl.getD u .any∧(tmps.setIfInBounds t v).getD u undef=tmps.getD u undef):=by
  intro u
  simp only [List.getD_eq_getElem?_getD,uV]
  rw [List.getElem?_set,Array.getElem?_setIfInBounds]
  by_cases htu:t=u
  ·subst htu
   simp only [if_true]
   rw [h.size]
   by_cases hlt:t<tmps.size
   ·simp [hlt]
   ·right
    simp only [hlt,if_false]
    have e1:sl[t]? =none:=List.getElem?_eq_none (by rw [h.size];exact Nat.le_of_not_lt hlt)
    have e2:tmps[t]? =none:=Array.getElem?_eq_none (Nat.le_of_not_lt hlt)
    rw [e1,e2]
    exact ⟨rfl,rfl⟩
  ·simp [htu]
 refine ⟨by simp [h.size],fun u=> ?_,fun u=> ?_⟩
 ·rcases key u with ⟨h1,h2⟩ | ⟨h1,h2⟩ <;> rw [h1,h2]
  ·exact hr
  ·exact h.rel u
 ·rcases key u with ⟨h1,h2⟩ | ⟨h1,h2⟩ <;> rw [h1,h2]
  ·exact hf
  ·exact h.fresh u
theorem SlotsK.on {n0:Nat}{w w':World}{B B':List Nat}{η η':List Value}{sl:List V}{tmps:Array Value}(h:SlotsK n0 w B η sl tmps)(g:On B w w')(hB:∀ b∈B',b∈B∨w.heap.size≤b)(he:∀ (id:Nat) v,η[id]? =some v→η'[id]? =some v):SlotsK n0 w' B' η' sl tmps:=
 ⟨h.size,fun t=>(h.rel t).on g hB he,h.fresh⟩
def fzS (id:Nat)(d:Td)(l:List (T d)):V→V
 | .own i=>if i=id then .lst d l else .own i
 | x=>x
def rZ (id:Nat):V→Bool
 | .own i=>i==id
 | .oadr i _ _ _=>i==id
 | _=>false
def fzV (id:Nat)(d:Td)(l:List (T d))(x:V):V:=
 match x with
 | .own i=>if i=id then .lst d l else .own i
 | .oadr i dd j o=>if i=id then .any else .oadr i dd j o
 | .agg segs=>.agg (segs.map (fzS id d l))
 | .tup segs=>if segs.any (rZ id) then .any else .tup segs
 | .clo f caps=>if caps.any (rZ id) then .any else .clo f caps
 | x=>x
def fzE (id:Nat)(d:Td)(l:List (T d)):E2→E2
 | .box segs t=>.box (segs.map (fzS id d l)) t
 | e=>e
def freeze (st:S2)(id:Nat):S2:=
 match st.heap[id]? with
 | some (.own d l E)=>⟨st.slots.map (fzV id d l),(st.heap.set id .dead).map (fzE id d l)⟩
 | _=>st
section
variable {n0:Nat} {Bx:List Nat} {w:World} {B:List Nat} {η:List Value}
theorem jQ {B':List Nat}(hB:∀ b∈B',b∈B){x:AV}{v:Value}(h:Rel w B η x v):Rel w B' η x v:=h.on (On.refl B w) (fun b hb=>.inl (hB b hb)) (fun _ _ h=>h)
theorem ey {B':List Nat}(hB:∀ b∈B',b∈B){l:List AV}{us:List Value}(h:RelL w B η l us):RelL w B' η l us:=h.on (On.refl B w) (fun b hb=>.inl (hB b hb)) (fun _ _ h=>h)
theorem gE {H:List Ent}(inv:Inv n0 Bx w B η H){id E k:Nat}{cs:List AV}(hH:H[id]? =some (.own cs E k))(himm:cs.all AV.imm0=true){B':List Nat}(hB:∀ b∈B',b∈B)(hb:∀ b,aO (η.getD id undef)=some b→b∉B'){v:Value}(hx:Rel w B η (.own id) v){η':List Value}:Rel w B' η' (.sl cs k) v:=by
 cases hx with
 | own _ _ a n c hid=>
  have hent:=inv.ent id _ hH
  have hg:η.getD id undef= .slice a n c:=by simp [List.getD_eq_getElem?_getD,hid]
  rw [hg] at hent hb
  obtain ⟨n',us,h1,h2,h3,h4⟩:=hent
  have hlen:n'*k=cs.length:=by rw [←h2.1];exact h1.1.symm
  have hrel:∀ i x,cs[i]? =some x→Rel w B' [] x (us.getD i undef):=fun i x hx=>by
   obtain ⟨u,q1,q2⟩:=h2.2 i x hx
   rw [List.getD_eq_getElem?_getD,q1,uJ]
   exact jQ hB (q2.bare0 (uQ.1 himm x (uK hx)))
  obtain rfl:=h1.len
  rcases h1.2 with ⟨hv,hn0⟩ | ⟨g,oo,cap,cur,hv,hbb,hgg,hnc,hcm,hsz,htk⟩
  ·injection hv with e1 e2 e3
   subst e1 e3
   subst hn0
   exact .sl _ _ _ _ _ _ _ h3 hlen (uP _) (vg _) (fun h0=>absurd h0 (by omega)) hrel
  ·injection hv with e1 e2 e3
   subst e1 e3
   refine .sl _ _ _ _ _ _ _ h3 hlen hnc hcm (fun h0=>⟨_,rfl,rfl,(Array.getElem?_eq_some_iff.1 hgg).1,hb g rfl,fun i hi=> ?_⟩) hrel
   have hi':i<us.length:=by rw [h2.1];exact hi
   rw [vd,h1.cells i _ (List.getElem?_eq_getElem hi'),List.getD_eq_getElem?_getD,List.getElem?_eq_getElem hi',uJ]
theorem RelL.map2 {w':World}{B':List Nat}{η':List Value}{f:V→V}(hf:∀ s us,RelL w B η (segA s) us→RelL w' B' η' (segA (f s)) us):∀ (l:List V) (us:List Value),RelL w B η (al l) us→RelL w' B' η' (al (l.map f)) us
 | [],us,h=>by
  have:us=[]:=gt h.1
  subst this;exact RelL.nil _ _ _
 | s::l,us,h=>by
  rw [aj] at h
  obtain ⟨h1,h2⟩:=h.split
  rw [List.map_cons,aj]
  have:=(hf s _ h1).append (RelL.map2 hf l _ h2)
  rwa [ve] at this
theorem RelL.one1 {x:AV}{us:List Value}(h:RelL w B η [x] us):∃ u,us=[u]∧Rel w B η x u:=by
 match us,h with
 | [],hu=>have:=hu.1;simp at this
 | [u],hu=>
  obtain ⟨u',h1,h2⟩:=hu.2 0 x rfl
  simp at h1;subst h1
  exact ⟨u,rfl,h2⟩
 | _::_::_,hu=>have:=hu.1;simp at this
theorem RelL.of1 {x:AV}{u:Value}(h:Rel w B η x u):RelL w B η [x] [u]:=RelL.cons h (RelL.nil _ _ _)
theorem jy {ds:List Deferred}{st:S2}{a:Act}(h:SimK n0 Bx ds st a w B η)(id:Nat):∃ B',(∀ b∈B',b∈B)∧SimK n0 Bx ds (freeze st id) a w B' η∧∀ d l E,st.heap[id]? =some (.own d l E)→∀ b,aO (η.getD id undef)=some b→b∉B':=by
 unfold freeze
 split
 ·rename_i d l E hH
  have hid:=exH hH
  have hent:=h.inv.ent id _ hid
  obtain ⟨n',us,h1,h2,h3,h4⟩:=hent
  obtain ⟨B',hBd⟩:∃ B',B'=(match aO (η.getD id undef) with | some b=>B.filter (· ≠b) | none=>B):=⟨_,rfl⟩
  have hB:∀ b∈B',b∈B:=fun b hb=>by
   subst hBd
   split at hb
   ·exact (List.mem_filter.1 hb).1
   ·exact hb
  have hnb:∀ b,aO (η.getD id undef)=some b→b∉B':=fun b hb hc=>by
   rw [hb] at hBd;subst hBd
   simp at hc
  have hin:∀ b∈B,aO (η.getD id undef)≠some b→b∈B':=fun b hb hne=>by
   subst hBd
   split
   ·rename_i c hc;exact List.mem_filter.2 ⟨hb,by simp;intro h;subst h;exact hne hc⟩
   ·exact hb
  have hown:∀ b,aO (η.getD id undef)=some b→(η.getD id undef).ownBlock=some b:=fun b hb=>by
   rcases h1.2 with ⟨hv,_⟩ | ⟨g,oo,cap,cur,hv,_⟩
   ·rw [hv] at hb;cases hb
   ·rw [hv] at hb ⊢;exact hb
  have himm:(flat d l).all AV.imm0=true:=cq d l
  have hseg:∀ s us,RelL w B η (segA s) us→RelL w B' η (segA (fzS id d l s)) us:=fun s us hs=>by
   unfold fzS
   split
   ·split
    ·rename_i i hi
     subst hi
     obtain ⟨u,rfl,hu⟩:=RelL.one1 (x:=.own i) hs
     exact RelL.of1 (gE h.inv hid himm hB hnb hu)
    ·exact ey hB hs
   ·exact ey hB hs
  refine ⟨B',hB,⟨h.defers, ?_, ?_⟩,fun _ _ _ _=>hnb⟩
  ·refine ⟨by simp [h.inv.len],⟨h.inv.base.1,h.inv.base.2.on (On.refl B w) (fun b hb=>.inl (hB b hb))⟩,fun x hx=>hin x (h.inv.sub x hx) (fun hc=>(h4 x (hown x hc)).2 hx),fun b hb=>h.inv.lt b (hB b hb),fun i e he=> ?_,fun i j ei ej hij hi hj hli hlj=> ?_⟩
   ·simp only [vc,List.getElem?_map,uH,Function.comp_apply] at he
    obtain ⟨e0,he0,rfl⟩:=he
    rw [List.getElem?_set] at he0
    split at he0
    ·split at he0
     ·injection he0 with he0;subst he0;trivial
     ·cases he0
    ·rename_i hne
     have hold:=h.inv.ent i _ (exH he0)
     cases e0 with
     | dead=>trivial
     | box segs t=>
      obtain ⟨b,us',p1,p2,p3,p4,p5,p6⟩:=hold
      refine ⟨b,us',p1,p2,hin b p3 (fun hc=> ?_),p4,p5,RelL.map2 hseg _ _ p6⟩
      exact h.inv.sep id i _ _ hne hid (exH he0) rfl rfl b hc (by rw [p1];rfl)
     | itr s2 q2=>
      obtain ⟨b,p1,p2,p3,p4,p5⟩:=hold
      refine ⟨b,p1,p2,hin b p3 (fun hc=> ?_),p4,p5⟩
      exact h.inv.sep id i _ _ hne hid (exH he0) rfl rfl b hc (by rw [p1];rfl)
     | own d2 l2 E2'=>
      obtain ⟨n2,us',p1,p2,p3,p4⟩:=hold
      refine ⟨n2,us',p1,ey hB p2,p3,fun b hb=>⟨hin b (p4 b hb).1 (fun hc=> ?_),(p4 b hb).2⟩⟩
      refine h.inv.sep id i _ _ hne hid (exH he0) rfl rfl b hc ?_
      rcases p1.2 with ⟨hv,_⟩ | ⟨g,oo,cap,cur,hv,_⟩
      ·rw [hv] at hb;cases hb
      ·rw [hv] at hb ⊢;exact hb
   ·have key:∀ (i:Nat) (ei:Ent),(((st.heap.set id .dead).map (fzE id d l)).map exE)[i]? =some ei→ei.live=true→∃ ei',(st.heap.map exE)[i]? =some ei'∧ei'.live=true:=by
     intro i ei hi hli
     simp only [vc,List.getElem?_map,uH,Function.comp_apply] at hi
     obtain ⟨e0,he0,rfl⟩:=hi
     rw [List.getElem?_set] at he0
     split at he0
     ·split at he0
      ·injection he0 with he0;subst he0;cases hli
      ·cases he0
     ·exact ⟨_,exH he0,by cases e0 <;> first | rfl | cases hli⟩
    obtain ⟨_,k1,k2⟩:=key i ei hi hli
    obtain ⟨_,k3,k4⟩:=key j ej hj hlj
    exact h.inv.sep i j _ _ hij k1 k3 k2 k4
  ·refine h.slots.map _ rfl (fun x v hx=> ?_) (fun x v hf=> ?_)
   ·have dflt:Rel2 w B' η x v:=hx.on (On.refl B w) (fun b hb=>.inl (hB b hb)) (fun _ _ h=>h)
    unfold fzV
    split
    ·split
     ·rename_i i hi
      subst hi
      exact gE h.inv hid himm hB hnb hx
     ·exact dflt
    ·split
     ·trivial
     ·exact dflt
    ·rename_i segs
     obtain ⟨cs,rfl,hl⟩:=Rel.aggL hx
     have:=RelL.map2 hseg _ _ hl
     exact this.toAgg
    ·split
     ·trivial
     ·exact dflt
    ·split
     ·trivial
     ·exact dflt
    ·exact dflt
   ·intro hfr
    cases x <;> first
     | exact hf hfr
     | (simp only [fzV,ex,ex0,cg] at hfr;cases hfr;done)
     | (simp only [fzV] at hfr;split at hfr <;> (simp only [ex,ex0,cg] at hfr;cases hfr))
 ·rename_i hne
  exact ⟨B,fun _ h=>h,h,fun d l E hH=>absurd hH (fun hh=>hne d l E hh)⟩
theorem pr {ds:List Deferred}{st:S2}{a:Act}(h:SimK n0 Bx ds st a w B η)(id:Nat):∃ B',(∀ b∈B',b∈B)∧SimK n0 Bx ds (freeze st id) a w B' η:=by
 obtain ⟨B',h1,h2,_⟩:=jy h id
 exact ⟨B',h1,h2⟩
def fbV (id:Nat)(segs:List V)(x:V):V:=
 match x with
 | .box i off=>if i=id then (match fj big segs off with | some r=>.adr r | none=>.any) else .box i off
 | x=>x
def mn (st:S2)(id:Nat):S2:=
 match st.heap[id]? with
 | some (.box segs T)=>if segs.all immV=true then ⟨st.slots.map (fbV id segs),st.heap.set id .dead⟩ else st
 | _=>st
theorem ml {H:List Ent}(inv:Inv n0 Bx w B η H){id T:Nat}{segs:List V}(hH:H[id]? =some (.box (al segs) T))(himm:segs.all immV=true){B':List Nat}(hB:∀ b∈B',b∈B)(hb:∀ b,aO (η.getD id undef)=some b→b∉B'){off:Nat}{r:List V}(hr:fj big segs off=some r){v:Value}(hx:Rel w B η (.box id off) v):Rel w B' η (.adr (al r)) v:=by
 cases hx with
 | box _ _ _ b hid=>
  have hent:=inv.ent id _ hH
  have hg:η.getD id undef= .pointer (some ⟨b,0,none⟩):=by simp [List.getD_eq_getElem?_getD,hid]
  rw [hg] at hent hb
  obtain ⟨b',us,p1,p2,p3,p4,p5,p6⟩:=hent
  injection p1 with p1
  injection p1 with p1
  injection p1 with p1
  subst p1
  obtain ⟨h1,h2⟩:=cr _ _ _ _ hr
  have hl:=p6.1
  have himm':(al segs).all AV.imm0=true:=eE segs himm
  refine .adr _ _ _ (fun i=>us.getD (off+i) undef) ⟨rfl,(Array.getElem?_eq_some_iff.1 p5).1,hb b rfl,fun i hi=> ?_⟩ (fun i x hi=> ?_)
  ·rw [h1,uZ] at hi
   rw [vd,cell_of_row w b _ _ _ (0,0) p5,List.getD_eq_getElem?_getD]
   have hlt:off+i<us.length:=by omega
   simp [hlt]
  ·rw [h1,List.getElem?_drop] at hi
   obtain ⟨u,q1,q2⟩:=p6.2 _ x hi
   rw [List.getD_eq_getElem?_getD,q1,uJ]
   exact jQ hB (q2.bare0 (uQ.1 himm' x (uK hi)))
theorem od {ds:List Deferred}{st:S2}{a:Act}(h:SimK n0 Bx ds st a w B η)(id:Nat):∃ B',(∀ b∈B',b∈B)∧SimK n0 Bx ds (mn st id) a w B' η:=by
 unfold mn
 split
 ·rename_i segs T hH
  split
  ·rename_i himm
   have hid:=exH hH
   have hent:=h.inv.ent id _ hid
   obtain ⟨b0,us0,h1,h2,h3,h4,h5,h6⟩:=hent
   obtain ⟨B',hBd⟩:∃ B',B'=B.filter (· ≠b0):=⟨_,rfl⟩
   have hB:∀ b∈B',b∈B:=fun b hb=>by subst hBd;exact (List.mem_filter.1 hb).1
   have hnb:∀ b,aO (η.getD id undef)=some b→b∉B':=fun b hb hc=>by
    rw [h1] at hb
    injection hb with hb
    have hb:b0=b:=hb
    subst hb hBd
    simp at hc
   have hin:∀ b∈B,aO (η.getD id undef)≠some b→b∈B':=fun b hb hne=>by
    subst hBd
    refine List.mem_filter.2 ⟨hb, ?_⟩
    simp
    intro h;subst h
    exact hne (by rw [h1];rfl)
   refine ⟨B',hB,h.defers, ?_, ?_⟩
   ·refine ⟨by simp [h.inv.len],⟨h.inv.base.1,h.inv.base.2.on (On.refl B w) (fun b hb=>.inl (hB b hb))⟩,fun x hx=>hin x (h.inv.sub x hx) (fun hc=> ?_),fun b hb=>h.inv.lt b (hB b hb),fun i e he=> ?_,fun i j ei ej hij hi hj hli hlj=> ?_⟩
    ·rw [h1] at hc
     injection hc with hc
     have hc:b0=x:=hc
     exact h4 (hc▸hx)
    ·rw [List.map_set,List.getElem?_set] at he
     split at he
     ·split at he
      ·injection he with he;subst he;trivial
      ·cases he
     ·rename_i hne
      have hold:=h.inv.ent i e he
      rw [List.getElem?_map,uH] at he
      obtain ⟨e0,he0,rfl⟩:=he
      cases e0 with
      | dead=>trivial
      | box segs t=>
       obtain ⟨b,us',p1,p2,p3,p4,p5,p6⟩:=hold
       refine ⟨b,us',p1,p2,hin b p3 (fun hc=> ?_),p4,p5,ey hB p6⟩
       exact h.inv.sep id i _ _ hne hid (exH he0) rfl rfl b hc (by rw [p1];rfl)
      | itr s2 q2=>
       obtain ⟨b,p1,p2,p3,p4,p5⟩:=hold
       refine ⟨b,p1,p2,hin b p3 (fun hc=> ?_),p4,p5⟩
       exact h.inv.sep id i _ _ hne hid (exH he0) rfl rfl b hc (by rw [p1];rfl)
      | own d2 l2 E2'=>
       obtain ⟨n2,us',p1,p2,p3,p4⟩:=hold
       refine ⟨n2,us',p1,ey hB p2,p3,fun b hb=>⟨hin b (p4 b hb).1 (fun hc=> ?_),(p4 b hb).2⟩⟩
       refine h.inv.sep id i _ _ hne hid (exH he0) rfl rfl b hc ?_
       rcases p1.2 with ⟨hv,_⟩ | ⟨g,oo,cap,cur,hv,_⟩
       ·rw [hv] at hb;cases hb
       ·rw [hv] at hb ⊢;exact hb
    ·have key:∀ (i:Nat) (ei:Ent),((st.heap.set id .dead).map exE)[i]? =some ei→ei.live=true→(st.heap.map exE)[i]? =some ei:=by
      intro i ei hi hli
      rw [List.map_set,List.getElem?_set] at hi
      split at hi
      ·split at hi
       ·injection hi with hi;subst hi;cases hli
       ·cases hi
      ·exact hi
     exact h.inv.sep i j _ _ hij (key i ei hi hli) (key j ej hj hlj) hli hlj
   ·refine h.slots.map _ rfl (fun x v hx=> ?_) (fun x v hf=> ?_)
    ·have dflt:Rel2 w B' η x v:=hx.on (On.refl B w) (fun b hb=>.inl (hB b hb)) (fun _ _ h=>h)
     unfold fbV
     split
     ·split
      ·rename_i i off hi
       subst hi
       split
       ·rename_i r hr
        exact ml h.inv hid himm hB hnb hr hx
       ·trivial
      ·exact dflt
     ·exact dflt
    ·intro hfr
     unfold fbV at hfr
     split at hfr
     ·split at hfr
      ·split at hfr <;> (simp only [ex,ex0,cg] at hfr;cases hfr)
      ·simp only [ex,ex0,cg] at hfr;cases hfr
     ·exact hf hfr
  ·exact ⟨B,fun _ h=>h,h⟩
 ·exact ⟨B,fun _ h=>h,h⟩
end
def dB:List Nat→Nat→Option Nat
 | [],_=>none
 | x::l,i=>if x=i then some 0 else (match dB l i with | some j=>some (j+1) | none=>none)
theorem gx:∀ (l:List Nat) (i j:Nat),dB l i=some j→l[j]? =some i
 | [],_,_,h=>by cases h
 | x::l,i,j,h=>by
  unfold dB at h
  split at h
  ·rename_i hx;injection h with h;subst h hx;rfl
  ·split at h
   ·rename_i j' hj;injection h with h;subst h;exact gx l i j' hj
   ·cases h
def rnS (keep:List Nat):V→Option V
 | .own i=>(match dB keep i with | some j=>some (.own j) | none=>none)
 | .box i o=>(match dB keep i with | some j=>some (.box j o) | none=>none)
 | .boxi i off d n j o=>(match dB keep i with | some i'=>some (.boxi i' off d n j o) | none=>none)
 | .oadr i d j o=>(match dB keep i with | some i'=>some (.oadr i' d j o) | none=>none)
 | .agg _ | .tup _ | .any | .clo _ _ | .bsl _ _=>none
 | x=>some x
def rnL (keep:List Nat):List V→Option (List V)
 | []=>some []
 | x::l=>match rnS keep x,rnL keep l with
  | some y,some m=>some (y::m)
  | _,_=>none
def rnV (keep:List Nat)(x:V):V:=
 match x with
 | .agg l=>(match rnL keep l with | some m=>.agg m | none=>.any)
 | .tup l=>.any
 | .clo f l=>(match rnL keep l with | some m=>.clo f m | none=>.any)
 | .any=>.any
 | .bsl i n=>(match dB keep i with | some j=>.bsl j n | none=>.any)
 | x=>(match rnS keep x with | some y=>y | none=>.any)
def rnE (keep:List Nat):E2→E2
 | .box l t=>(match rnL keep l with | some m=>.box m t | none=>.dead)
 | e=>e
def ek (keep:List Nat)(st:S2):S2:=⟨st.slots.map (rnV keep),keep.map fun i=>rnE keep (st.heap.getD i .dead)⟩
section
variable {n0:Nat} {Bx:List Nat} {w:World} {B:List Nat} {η η':List Value} {keep:List Nat}
theorem jM (hη:∀ i j v,dB keep i=some j→η[i]? =some v→η'[j]? =some v){x y:V}(h:rnS keep x=some y){v:Value}(hx:Rel w B η (ex x) v):Rel w B η' (ex y) v:=by
 cases x with
 | own i=>
  simp only [rnS] at h
  split at h
  ·rename_i j hj
   injection h with h;subst h
   cases hx with
   | own _ _ a n c hid=>exact .own _ _ _ _ _ (hη _ _ _ hj hid)
  ·cases h
 | box i o=>
  simp only [rnS] at h
  split at h
  ·rename_i j hj
   injection h with h;subst h
   cases hx with
   | box _ _ _ b hid=>exact .box _ _ _ _ (hη _ _ _ hj hid)
  ·cases h
 | boxi i off d n j o=>
  simp only [rnS] at h
  split at h
  ·rename_i i' hj
   injection h with h;subst h
   simp only [ex,ex0] at hx ⊢
   cases hx with
   | box _ _ _ b hid=>exact .box _ _ _ _ (hη _ _ _ hj hid)
  ·cases h
 | oadr i d j o=>
  simp only [rnS] at h
  split at h
  ·rename_i i' hj
   injection h with h;subst h
   simp only [ex,ex0] at hx ⊢
   cases hx with
   | oadr _ _ _ b o n c hid=>exact .oadr _ _ _ _ _ _ _ (hη _ _ _ hj hid)
  ·cases h
 | agg l=>cases h
 | tup l=>cases h
 | any=>cases h
 | clo f l=>cases h
 | bsl i n=>cases h
 | c v=>simp only [rnS,uL.injEq] at h;subst h;cases hx;exact .c _ _
 | str s=>simp only [rnS,uL.injEq] at h;subst h;cases hx;exact .c _ _
 | nn=>simp only [rnS,uL.injEq] at h;subst h;exact hx.bare rfl
 | arr d n a=>
  simp only [rnS,uL.injEq] at h;subst h
  refine hx.bare ?_
  simp only [ex,ex0,AV.imm]
  exact cq d a.l
 | lst d l=>simp only [rnS,uL.injEq] at h;subst h;exact hx.bare rfl
 | fre d l=>
  simp only [rnS,uL.injEq] at h;subst h
  cases hx with
  | fresh _ _ _ A n us hk hn h0 hm hA hr=>exact .fresh _ _ _ A n us hk hn h0 hm hA hr
 | emp=>simp only [rnS,uL.injEq] at h;subst h;exact hx.bare rfl
 | adr l=>simp only [rnS,uL.injEq] at h;subst h;exact hx.bare rfl
theorem sv (hη:∀ i j v,dB keep i=some j→η[i]? =some v→η'[j]? =some v){x y:V}(h:rnS keep x=some y){us:List Value}(hx:RelL w B η (segA x) us):RelL w B η' (segA y) us:=by
 cases x with
 | own i=>
  obtain ⟨u,rfl,hu⟩:=RelL.one1 (x:=.own i) hx
  have:=jM (B:=B) (w:=w) hη h (x:=.own i) hu
  simp only [rnS] at h
  split at h
  ·injection h with h;subst h;exact RelL.of1 this
  ·cases h
 | box i o=>
  obtain ⟨u,rfl,hu⟩:=RelL.one1 (x:=.box i o) hx
  have:=jM (B:=B) (w:=w) hη h (x:=.box i o) hu
  simp only [rnS] at h
  split at h
  ·injection h with h;subst h;exact RelL.of1 this
  ·cases h
 | boxi i off d n j o=>
  simp only [rnS] at h
  split at h
  ·injection h with h;subst h
   have:us=[]:=gt hx.1
   subst this;exact RelL.nil _ _ _
  ·cases h
 | oadr i d j o=>
  simp only [rnS] at h
  split at h
  ·injection h with h;subst h
   have:us=[]:=gt hx.1
   subst this;exact RelL.nil _ _ _
  ·cases h
 | agg l=>cases h
 | tup l=>cases h
 | any=>cases h
 | clo f l=>cases h
 | bsl i n=>cases h
 | c v=>simp only [rnS,uL.injEq] at h;subst h;obtain ⟨u,rfl,hu⟩:=RelL.one1 hx;cases hu;exact RelL.of1 (.c _ _)
 | str s=>simp only [rnS,uL.injEq] at h;subst h;obtain ⟨u,rfl,hu⟩:=RelL.one1 hx;cases hu;exact RelL.of1 (.c _ _)
 | arr d n a=>
  simp only [rnS,uL.injEq] at h;subst h
  exact ⟨hx.1,fun i x hi=>by
   obtain ⟨u,h1,h2⟩:=hx.2 i x hi
   exact ⟨u,h1,h2.bare0 (uQ.1 (cq d a.l) x (uK hi))⟩⟩
 | lst d l=>simp only [rnS,uL.injEq] at h;subst h;obtain ⟨u,rfl,hu⟩:=RelL.one1 hx;exact RelL.of1 (hu.bare rfl)
 | fre d l=>simp only [rnS,uL.injEq] at h;subst h;obtain ⟨u,rfl,hu⟩:=RelL.one1 hx;exact RelL.of1 (hu.bare rfl)
 | emp=>simp only [rnS,uL.injEq] at h;subst h;obtain ⟨u,rfl,hu⟩:=RelL.one1 hx;exact RelL.of1 (hu.bare rfl)
 | nn=>simp only [rnS,uL.injEq] at h;subst h;obtain ⟨u,rfl,hu⟩:=RelL.one1 hx;exact RelL.of1 (hu.bare rfl)
 | adr l=>
  simp only [rnS,uL.injEq] at h;subst h
  have:us=[]:=gt hx.1
  subst this;exact RelL.nil _ _ _
theorem lN (hη:∀ i j v,dB keep i=some j→η[i]? =some v→η'[j]? =some v):∀ (l m:List V) (us:List Value),rnL keep l=some m→RelL w B η (al l) us→RelL w B η' (al m) us
 | [],m,us,h,hx=>by
  simp only [rnL,uL.injEq] at h;subst h
  have:us=[]:=gt hx.1
  subst this;exact RelL.nil _ _ _
 | x::l,m,us,h,hx=>by
  unfold rnL at h
  split at h
  ·rename_i y m' h1 h2
   injection h with h;subst h
   rw [aj] at hx ⊢
   obtain ⟨g1,g2⟩:=hx.split
   have:=(sv hη h1 g1).append (lN hη l m' _ h2 g2)
   rwa [ve] at this
  ·cases h
theorem oP:∀ (l m:List V),rnL keep l=some m→m.length=l.length∧∀ (i:Nat) y,m[i]? =some y→∃ x,l[i]? =some x∧rnS keep x=some y
 | [],m,h=>by simp only [rnL,uL.injEq] at h;subst h;exact ⟨rfl,fun i y h=>by simp at h⟩
 | x::l,m,h=>by
  unfold rnL at h
  split at h
  ·rename_i y m' h1 h2
   injection h with h;subst h
   obtain ⟨g1,g2⟩:=oP l m' h2
   refine ⟨by simp [g1],fun i z hz=> ?_⟩
   cases i with
   | zero=>simp at hz;subst hz;exact ⟨x,rfl,h1⟩
   | succ i=>simpa using g2 i z (by simpa using hz)
  ·cases h
theorem oO {x y:V}(h:rnS keep x=some y):y.plain=true:=by
 cases x <;> simp only [rnS] at h <;> first
  | (injection h with h;subst h;rfl)
  | (split at h <;> first | (injection h with h;subst h;rfl) | cases h)
  | cases h
theorem sw {x y:V}(h:rnS keep x=some y)(hc:x.cap=true):y.cap=true:=by
 cases x <;> simp only [rnS] at h <;> first
  | (injection h with h;subst h;exact hc)
  | (split at h <;> first | (injection h with h;subst h;rfl) | cases h)
  | cases h
theorem su (hη:∀ i j v,dB keep i=some j→η[i]? =some v→η'[j]? =some v){x:V}{v:Value}(hx:Rel2 w B η x v):Rel2 w B η' (rnV keep x) v:=by
 unfold rnV
 split
 ·split
  ·rename_i m hm
   obtain ⟨cs,rfl,hl⟩:=Rel.aggL hx
   exact (lN hη _ _ _ hm hl).toAgg
  ·trivial
 ·trivial
 ·split
  ·rename_i m hm
   obtain ⟨vs,h1,h2,h3⟩:=hx
   obtain ⟨g1,g2⟩:=oP _ _ hm
   refine ⟨vs,h1,by rw [h2,g1],fun i c hc=> ?_⟩
   obtain ⟨x,q1,q2⟩:=g2 i c hc
   obtain ⟨u,q3,q4,q5⟩:=h3 i x q1
   exact ⟨u,q3,sw q2 q4,jM hη q2 q5⟩
  ·trivial
 ·trivial
 ·split
  ·rename_i j hj
   obtain ⟨b,h1,h2⟩:=hx
   exact ⟨b,hη _ _ _ hj h1,h2⟩
  ·trivial
 ·split
  ·rename_i y hy
   refine Rel2.of (oO hy) (jM hη hy ?_)
   refine hx.get ?_
   cases x <;> first | rfl | cases hy
  ·trivial
theorem pF {x:V}(h:cg (ex x)=true):∃ d l,x= .fre d l:=by
 cases x <;> first | exact ⟨_,_,rfl⟩ | cases h
theorem jP {ds:List Deferred}{st:S2}{a:Act}(h:SimK n0 Bx ds st a w B η)(hnd:keep.Nodup):SimK n0 Bx ds (ek keep st) a w B (keep.map fun i=>η.getD i undef):=by
 have hη:∀ i j v,dB keep i=some j→η[i]? =some v→(keep.map fun i=>η.getD i undef)[j]? =some v:=fun i j v hp hv=>by
  rw [List.getElem?_map,gx _ _ _ hp,u9,List.getD_eq_getElem?_getD,hv,uJ]
 have key:∀ (j:Nat) e,(((ek keep st).heap.map exE))[j]? =some e→∃ i,keep[j]? =some i∧e=exE (rnE keep (st.heap.getD i .dead)):=fun j e he=>by
  simp only [ek,vc,List.getElem?_map,uH,Function.comp_apply] at he
  obtain ⟨i,hi,rfl⟩:=he
  exact ⟨i,hi,rfl⟩
 have live:∀ i,(exE (rnE keep (st.heap.getD i .dead))).live=true→∃ e,(st.heap.map exE)[i]? =some e∧e.live=true:=fun i hl=>by
  rw [List.getD_eq_getElem?_getD] at hl
  cases he:st.heap[i]? with
  | none=>rw [he] at hl;cases hl
  | some e=>
   rw [he,uJ] at hl
   refine ⟨_,exH he, ?_⟩
   cases e with
   | dead=>cases hl
   | box l t=>rfl
   | own d l E=>rfl
   | itr s p=>rfl
 refine ⟨h.defers,⟨by simp [ek],h.inv.base,h.inv.sub,h.inv.lt,fun j e he=> ?_,fun i j ei ej hij hi hj hli hlj=> ?_⟩,h.slots.map _ rfl (fun x v hx=>su hη hx) (fun x v hf=> ?_)⟩
 ·obtain ⟨i,hi,rfl⟩:=key j e he
  have hj:(keep.map fun i=>η.getD i undef).getD j undef=η.getD i undef:=by
   rw [List.getD_eq_getElem?_getD,List.getElem?_map,hi];rfl
  cases hh:st.heap[i]? with
  | none=>
   have hd:st.heap.getD i .dead= .dead:=by rw [List.getD_eq_getElem?_getD,hh];rfl
   rw [hj,hd]
   trivial
  | some e0=>
   have hold:=h.inv.ent i _ (exH hh)
   have hd:st.heap.getD i .dead=e0:=by rw [List.getD_eq_getElem?_getD,hh];rfl
   rw [hj,hd]
   cases e0 with
   | dead=>trivial
   | box l t=>
    simp only [rnE]
    split
    ·rename_i m hm
     obtain ⟨b,us,p1,p2,p3,p4,p5,p6⟩:=hold
     exact ⟨b,us,p1,p2,p3,p4,p5,lN hη _ _ _ hm p6⟩
    ·trivial
   | own d l E=>
    obtain ⟨n,us,p1,p2,p3,p4⟩:=hold
    exact ⟨n,us,p1,⟨p2.1,fun i x hi=>by
     obtain ⟨u,q1,q2⟩:=p2.2 i x hi
     exact ⟨u,q1,q2.bare0 (uQ.1 (cq d l) x (uK hi))⟩⟩,p3,p4⟩
   | itr s p=>exact hold
 ·obtain ⟨i',hi',rfl⟩:=key i ei hi
  obtain ⟨j',hj',rfl⟩:=key j ej hj
  obtain ⟨e1,q1,q2⟩:=live i' hli
  obtain ⟨e2,q3,q4⟩:=live j' hlj
  have hne:i'≠j':=fun hc=>by
   subst hc
   obtain ⟨g1,g2⟩:=List.getElem?_eq_some_iff.1 hi'
   obtain ⟨g3,g4⟩:=List.getElem?_eq_some_iff.1 hj'
   exact hij ((List.getElem_inj hnd).1 (g2.trans g4.symm))
  have e3:(keep.map fun i=>η.getD i undef).getD i undef=η.getD i' undef:=by rw [List.getD_eq_getElem?_getD,List.getElem?_map,hi'];rfl
  have e4:(keep.map fun i=>η.getD i undef).getD j undef=η.getD j' undef:=by rw [List.getD_eq_getElem?_getD,List.getElem?_map,hj'];rfl
  rw [e3,e4]
  exact h.inv.sep i' j' _ _ hne q1 q3 q2 q4
 ·intro hfr
  obtain ⟨d,l,hq⟩:=pF hfr
  have hx:x= .fre d l:=by
   cases x with
   | agg l=>simp only [rnV] at hq;split at hq <;> cases hq
   | clo f l=>simp only [rnV] at hq;split at hq <;> cases hq
   | bsl i n=>simp only [rnV] at hq;split at hq <;> cases hq
   | own i=>simp only [rnV,rnS] at hq;cases hp:dB keep i <;> simp only [hp] at hq <;> cases hq
   | box i o=>simp only [rnV,rnS] at hq;cases hp:dB keep i <;> simp only [hp] at hq <;> cases hq
   | boxi i off d n j o=>simp only [rnV,rnS] at hq;cases hp:dB keep i <;> simp only [hp] at hq <;> cases hq
   | oadr i d j o=>simp only [rnV,rnS] at hq;cases hp:dB keep i <;> simp only [hp] at hq <;> cases hq
   | fre d l=>exact hq
   | _=>simp only [rnV,rnS] at hq;cases hq
  subst hx
  exact hf rfl
def o5 (P:Program)(st:S2)(s:Nat)(e:TypeId):S2:=
 match st.slots[s]?,tdOf P 12 e with
 | some (.c (.slice none 0 0)),some d=>if 1≤wd d then ⟨st.slots.set s (.own st.heap.length),st.heap++[.own d [] e]⟩ else st
 | _,_=>st
theorem o4 {P:Program}{ds:List Deferred}{st:S2}{a:Act}(h:SimK n0 Bx ds st a w B η)(s:Nat)(e:TypeId):∃ η',SimK n0 Bx ds (o5 P st s e) a w B η'∧∀ (id:Nat) v,η[id]? =some v→η'[id]? =some v:=by
 unfold o5
 split
 ·rename_i d hs htd
  split
  ·rename_i hw
   refine ⟨η++[.slice none 0 0],⟨h.defers, ?_, ?_⟩,aq η _⟩
   ·refine ⟨by simp [h.inv.len],h.inv.base,h.inv.sub,h.inv.lt,fun i e' he=> ?_,fun i j ei ej hij hi hj hli hlj b hb=> ?_⟩
    ·rw [vl] at he
     rcases vk i st.heap.length with hi | hi
     ·rw [List.getElem?_append_left (by simpa using hi)] at he
      rw [ai (by rw [h.inv.len];simpa using hi)]
      exact aF.keep (h.inv.ent i e' he) (On.refl B w) (fun _ h=>.inl h) (fun _ h=>h) (aq η _) (fun _ _ _=>rfl)
     ·rw [List.getElem?_append_right (by simpa using hi)] at he
      have hz:i=st.heap.length:=by have:=(List.getElem?_eq_some_iff.1 he).1;simp at this;omega
      subst hz
      simp at he;subst he
      have hl:η.length=st.heap.length:=by simpa using h.inv.len
      rw [←hl,ak]
      exact ⟨0,[],bw.nil w n0 e (wd d),RelL.nil _ _ _,hw,fun b hb=>by cases hb⟩
    ·rw [vl] at hi hj
     have hl:η.length=st.heap.length:=by simpa using h.inv.len
     have part:∀ (i:Nat) (ei:Ent),(List.map exE st.heap++List.map exE [E2.own d [] e])[i]? =some ei→i<st.heap.length∧(st.heap.map exE)[i]? =some ei∨i=st.heap.length:=fun i ei hi=>by
      rcases vk i st.heap.length with hlt | hge
      ·rw [List.getElem?_append_left (by simpa using hlt)] at hi;exact .inl ⟨hlt,hi⟩
      ·rw [List.getElem?_append_right (by simpa using hge)] at hi
       exact .inr (by have:=(List.getElem?_eq_some_iff.1 hi).1;simp at this;omega)
     rcases part i ei hi with ⟨h1,h2⟩ | h1
     ·rw [ai (by omega)] at hb
      rcases part j ej hj with ⟨h3,h4⟩ | h3
      ·rw [ai (by omega)]
       exact h.inv.sep i j ei ej hij h2 h4 hli hlj b hb
      ·subst h3;rw [←hl,ak];intro hc;cases hc
     ·subst h1;rw [←hl,ak] at hb;cases hb
   ·have hv:=h.slots.rel s
    rw [List.getD_eq_getElem?_getD,hs,uJ] at hv
    have hv:a.tmps.getD s undef= .slice none 0 0:=u1 hv
    have hl:η.length=st.heap.length:=by simpa using h.inv.len
    have h1:=(h.slots.on (On.refl B w) (fun _ h=>.inl h) (aq η (.slice none 0 0))).put (r:=.own st.heap.length) (v:=.slice none 0 0) (.own _ _ _ _ _ (by rw [←hl,List.getElem?_append_right (uP _)];simp)) (fun h=>by cases h) s
    have h2:a.tmps.setIfInBounds s (.slice none 0 0)=a.tmps:=by
     have hlt:s<a.tmps.size:=by rw [←h.slots.size];exact (List.getElem?_eq_some_iff.1 hs).1
     rw [uV,Array.getElem?_eq_getElem hlt,uJ] at hv
     apply Array.ext (by simp)
     intro i hi1 hi2
     rw [Array.getElem_setIfInBounds]
     split
     ·rename_i hsi;subst hsi;exact hv.symm
     ·rfl
    rw [h2] at h1
    exact h1
  ·exact ⟨η,h,fun _ _ h=>h⟩
 ·exact ⟨η,h,fun _ _ h=>h⟩
def mc (m0:Nat)(st:S2)(s:Nat):S2:=
 match st.slots[s]? with
 | some (.own i)=>if i<m0 then (match st.heap[i]? with
  | some (.own d l E)=>⟨st.slots.set s (.own st.heap.length),st.heap.set i .dead++[.own d l E]⟩
  | _=>st) else st
 | _=>st
theorem n6 {m0:Nat}{ds:List Deferred}{st:S2}{a:Act}(h:SimK n0 Bx ds st a w B η)(s:Nat):∃ η',SimK n0 Bx ds (mc m0 st s) a w B η'∧∀ (id:Nat) v,η[id]? =some v→η'[id]? =some v:=by
 unfold mc
 split
 ·rename_i k hs
  split
  ·split
   ·rename_i d l E hH
    have hl:η.length=st.heap.length:=by simpa using h.inv.len
    have hk:k<st.heap.length:=(List.getElem?_eq_some_iff.1 hH).1
    refine ⟨η++[η.getD k undef],⟨h.defers, ?_, ?_⟩,aq η _⟩
    ·have part:∀ (i:Nat) (ei:Ent),((st.heap.set k .dead++[E2.own d l E]).map exE)[i]? =some ei→(i<st.heap.length∧i≠k∧(st.heap.map exE)[i]? =some ei)∨(i=k∧ei= .dead)∨(i=st.heap.length∧ei=exE (.own d l E)):=fun i ei hi=>by
      rw [vl] at hi
      rcases vk i st.heap.length with hlt | hge
      ·rw [List.getElem?_append_left (by simpa using hlt),List.map_set,List.getElem?_set] at hi
       split at hi
       ·rename_i hik
        rw [if_pos (by simpa using hk)] at hi
        injection hi with hi
        exact .inr (.inl ⟨hik.symm,hi.symm⟩)
       ·rename_i hik
        exact .inl ⟨hlt,fun hc=>hik hc.symm,hi⟩
      ·rw [List.getElem?_append_right (by simpa using hge)] at hi
       have hz:i=st.heap.length:=by have:=(List.getElem?_eq_some_iff.1 hi).1;simp at this;omega
       subst hz
       simp at hi
       exact .inr (.inr ⟨rfl,hi.symm⟩)
     refine ⟨by simp [h.inv.len],h.inv.base,h.inv.sub,h.inv.lt,fun i e' he=> ?_,fun i j ei ej hij hi hj hli hlj b hb=> ?_⟩
     ·rcases part i e' he with ⟨h1,h2,h3⟩ | ⟨h1,rfl⟩ | ⟨rfl,rfl⟩
      ·rw [ai (by omega)]
       exact aF.keep (h.inv.ent i e' h3) (On.refl B w) (fun _ h=>.inl h) (fun _ h=>h) (aq η _) (fun _ _ _=>rfl)
      ·trivial
      ·rw [←hl,ak]
       exact aF.keep (h.inv.ent k _ (exH hH)) (On.refl B w) (fun _ h=>.inl h) (fun _ h=>h) (aq η _) (fun _ _ _=>rfl)
     ·rcases part i ei hi with ⟨h1,h2,h3⟩ | ⟨h1,rfl⟩ | ⟨h1,rfl⟩
      ·rw [ai (by omega)] at hb
       rcases part j ej hj with ⟨g1,g2,g3⟩ | ⟨g1,rfl⟩ | ⟨g1,rfl⟩
       ·rw [ai (by omega)]
        exact h.inv.sep i j ei ej hij h3 g3 hli hlj b hb
       ·cases hlj
       ·subst g1;rw [←hl,ak]
        exact h.inv.sep i k ei _ h2 h3 (exH hH) hli rfl b hb
      ·cases hli
      ·subst h1
       rw [←hl,ak] at hb
       rcases part j ej hj with ⟨g1,g2,g3⟩ | ⟨g1,rfl⟩ | ⟨g1,rfl⟩
       ·rw [ai (by omega)]
        exact h.inv.sep k j _ ej (fun hc=>g2 hc.symm) (exH hH) g3 rfl hlj b hb
       ·cases hlj
       ·exact absurd g1.symm hij
    ·have hv:=h.slots.rel s
     rw [List.getD_eq_getElem?_getD,hs,uJ] at hv
     have hv:Rel w B η (.own k) (a.tmps.getD s undef):=hv
     generalize hav:a.tmps.getD s undef=u0 at hv
     cases hv with
     | own _ _ a0 n c hid=>
      have hg:η.getD k undef= .slice a0 n c:=by rw [List.getD_eq_getElem?_getD,hid];rfl
      have h1:=(h.slots.on (On.refl B w) (fun _ h=>.inl h) (aq η (η.getD k undef))).put (r:=.own st.heap.length) (v:=.slice a0 n c) (.own _ _ _ _ _ (by rw [←hl,List.getElem?_append_right (uP _),hg];simp)) (fun h=>by cases h) s
      have h2:a.tmps.setIfInBounds s (.slice a0 n c)=a.tmps:=by
       have hlt:s<a.tmps.size:=by rw [←h.slots.size];exact (List.getElem?_eq_some_iff.1 hs).1
       have hav':a.tmps.getD s undef= .slice a0 n c:=hav
       rw [uV,Array.getElem?_eq_getElem hlt,uJ] at hav'
       apply Array.ext (by simp)
       intro i hi1 hi2
       rw [Array.getElem_setIfInBounds]
       split
       ·rename_i hsi;subst hsi;exact hav'.symm
       ·rfl
      rw [h2] at h1
      exact h1
   ·exact ⟨η,h,fun _ _ h=>h⟩
  ·exact ⟨η,h,fun _ _ h=>h⟩
 ·exact ⟨η,h,fun _ _ h=>h⟩
end
end Go.Proofs.Ytmndainldhmnjaa
namespace Go.Proofs.Ytmndainldhmnjaa
set_option maxRecDepth 100000
open Go.RowKit
set_option linter.unusedVariables false
def r6:List (Nat×List V):=[
]
def s9 (g:Nat):Option (List V):=(r6.find? (·.1==g)).map (·.2)
theorem pk:r6.map (fun p=>(p.1,al p.2))=rl.map (fun p=>(p.1,p.2.map AV.c)):=by kernel_rfl
theorem pl {w:World}{B:List Nat}{η:List Value}{g:Nat}{l:List V}(h:GlobOK w B)(hl:s9 g=some l):Rel2 w B η (.adr l) (.pointer (some ⟨g,0,none⟩)):=by
 unfold s9 at hl
 rw [uH] at hl
 obtain ⟨p,hp,rfl⟩:=hl
 have h1:=List.mem_of_find?_eq_some hp
 have h2:=List.find?_some hp
 simp only [beq_iff_eq] at h2
 have h3:(p.1,al p.2)∈rl.map (fun p=>(p.1,p.2.map AV.c)):=by
  rw [←pk]
  exact List.mem_map.2 ⟨p,h1,rfl⟩
 obtain ⟨q,q1,q2⟩:=List.mem_map.1 h3
 injection q2 with q3 q4
 have h4:=h.tab q.1 q.2 q1
 rw [q3,h2,q4] at h4
 exact h4.any
end Go.Proofs.Ytmndainldhmnjaa
namespace Go.Proofs.Ytmndainldhmnjaa
set_option maxRecDepth 100000
open Go.RowKit
set_option linter.unusedVariables false
set_option linter.unusedSimpArgs false
structure Goes (n0:Nat) (Bx:List Nat) (m0:Nat) (w:World) (B:List Nat) (η:List Value) (w':World) (B':List Nat) (η':List Value):Prop where
 on:On B w w'
 hB:∀ b∈B',b∈B∨w.heap.size≤b
 hη:∀ (id:Nat) v,id<m0→η[id]? =some v→η'[id]? =some v
 below:Bel n0 Bx w w'
theorem Goes.refl (n0:Nat)(Bx:List Nat)(m0:Nat)(w:World)(B:List Nat)(η:List Value):Goes n0 Bx m0 w B η w B η:=⟨On.refl B w,fun _ h=>.inl h,fun _ _ _ h=>h,Bel.refl _ _ _⟩
theorem Goes.trans {n0:Nat}{Bx:List Nat}{m0:Nat}{a b c:World}{B B' B'':List Nat}{η η' η'':List Value}(h:Goes n0 Bx m0 a B η b B' η')(k:Goes n0 Bx m0 b B' η' c B'' η''):Goes n0 Bx m0 a B η c B'' η'':=
 ⟨h.on.trans k.on h.hB,fun x hx=>(k.hB x hx).elim (fun hx=>h.hB x hx) (fun hx=>.inr (Nat.le_trans h.on.size hx)),fun id v hi hv=>k.hη id v hi (h.hη id v hi hv),h.below.trans k.below⟩
structure Env (R:Type) where
 fns:Fns R
 inl:FuncId→Bool
 lp:List Nat→Nat→Nat→S2→(Exit→S2→Tree R)→Tree R
 mv:List Nat→Nat→Bool×Bool
 cln:FuncId→Option TypeId
 scl:FuncId→Bool
 un:List Nat→Nat→Bool
 mth:FuncId→Option (List V→List E2→(V→List E2→Tree R)→Tree R)
 mtv:FuncId→List V→List E2→List Nat
def opV (sl:List V):Operand→V
 | .tmp t=>sl.getD t .any
 | .const v=>ck v
 | .global g=>(match s9 g with | some l=>.adr l | none=>.c (.pointer (some ⟨g,0,none⟩)))
 | .func f=>.clo f []
def setV (sl:List V)(d:Option Tmp)(r:V):List V:=match d with | some t=>sl.set t r | none=>sl
def qY (mv:Bool×Bool):Op→List Operand
 | .slice _ x _ _ _=>if mv.1=true then [] else [x]
 | .call ⟨.builtin .append,⟨[_,x]⟩,_⟩=>[x]
 | .call ⟨.value _,args,_⟩=>if mv.1=true then [] else args.toList
 | .convert _ _ x=>[x]
 | .sliceToArrayPointer _ x=>[x]
 | .call ⟨.builtin .copy,⟨[_,x]⟩,_⟩=>[x]
 | .buildSlice _ _ parts=>parts.toList.map (·.2)
 | .assign x=>if mv.1=true∧mv.2=true then [x] else []
 | .store _ _ x=>if mv.1=true∧mv.2=true then [x] else []
 | _=>[]
def cU:V→List Nat
 | .own i=>[i]
 | .agg l=>l.filterMap fun | .own i=>some i | _=>none
 | _=>[]
def cW:List Nat→S2→S2
 | [],st=>st
 | i::l,st=>cW l (freeze st i)
def m9 (mv:Bool×Bool):Op→List Operand
 | .slice _ x _ _ none=>if mv.1=true then [] else [x]
 | _=>[]
def rW (mv:Bool×Bool)(ops:Array Oper):List Operand:=ops.toList.flatMap fun o=>match o.op with
 | .slice _ (.tmp t) _ _ none=>if mv.1=true then [] else ops.toList.flatMap fun q=>match q.op with
  | .fieldAddr _ y _=>if q.dst==some t then [y] else []
  | _=>[]
 | _=>[]
def nA:V→List Nat
 | .box i _=>[i]
 | _=>[]
def rn:List Nat→S2→S2
 | [],st=>st
 | i::l,st=>rn l (mn st i)
def ta (mv:Bool×Bool)(o:Op)(st:S2):S2:=rn ((m9 mv o).flatMap fun x=>nA (opV st.slots x)) (cW ((qY mv o).flatMap fun x=>cU (opV st.slots x)) st)
section
variable {R:Type}
def lE (ops:Array Oper)(sl:List V)(o:Oper)(yes no:List V→Tree R):Tree R:=
 match o.guard with
 | none=>yes sl
 | some (g,want)=>match (ops[g]?).bind (·.dst) with
  | some d=>match sl[d]? with
   | some (.c (.bool b))=>.ite b (if want=true then yes (sl.set d (.c (.bool true))) else no (sl.set d (.c (.bool true)))) (if want=true then no (sl.set d (.c (.bool false))) else yes (sl.set d (.c (.bool false))))
   | some (.c (.tuple _))=>no sl
   | _=>.fail
  | none=>.fail
theorem kF {α:Type}{l:List α}{d:Nat}{x:α}(h:l[d]? =some x):l.set d x=l:=by
 apply List.ext_getElem?
 intro i
 rw [List.getElem?_set]
 split
 ·rename_i hi
  subst hi
  rw [if_pos (List.getElem?_eq_some_iff.1 h).1,h]
 ·rfl
def dc (ops:Array Oper)(o:Oper):Option Tmp:=match o.guard with
 | some (g,_)=>(ops[g]?).bind (·.dst)
 | none=>none
theorem fL {ops:Array Oper}{sl:List V}{o:Oper}{yes no:List V→Tree R}{res:R}(h:(lE ops sl o yes no).run=some res):
  ∃ b:Bool,((if b=true then yes sl else no sl)).run=some res∧∀ (w:World) (B:List Nat) (η:List Value) (tmps:Array Value),sl.length=tmps.size→(∀ d,dc ops o=some d→Rel2 w B η (sl.getD d .any) (tmps.getD d undef))→Region.wanted o (yielded ops tmps)=b:=by
 unfold lE at h
 split at h
 ·rename_i hg
  exact ⟨true,by simpa using h,fun w B η tmps hsz ht=>by simp [Region.wanted,hg]⟩
 ·rename_i g want hg
  split at h
  ·rename_i d hd
   have slot:∀ (v:Value),sl[d]? =some (.c v)→∀ (w:World) (B:List Nat) (η:List Value) (tmps:Array Value),sl.length=tmps.size→(∀ d,dc ops o=some d→Rel2 w B η (sl.getD d .any) (tmps.getD d undef))→tmps[d]? =some v:=fun v hv w B η tmps hsz ht=>by
    have hr:=ht d (by simp [dc,hg,hd])
    rw [List.getD_eq_getElem?_getD,hv,uJ] at hr
    have hr:=u1 hr
    have hlt:d<tmps.size:=by rw [←hsz];exact (List.getElem?_eq_some_iff.1 hv).1
    rw [uV,Array.getElem?_eq_getElem hlt,uJ] at hr
    rw [Array.getElem?_eq_getElem hlt,hr]
   split at h
   ·rename_i b hv
    have key:∀ (w:World) (B:List Nat) (η:List Value) (tmps:Array Value),sl.length=tmps.size→(∀ d,dc ops o=some d→Rel2 w B η (sl.getD d .any) (tmps.getD d undef))→Region.wanted o (yielded ops tmps)=(b==want):=fun w B η tmps hsz ht=>by
     simp [Region.wanted,hg,yielded,hd,slot _ hv w B η tmps hsz ht]
    rcases ne h with ⟨hb,h1⟩ | ⟨hb,h1⟩
    ·clear h
     subst hb
     rw [kF hv] at h1
     refine ⟨want, ?_,fun w B η tmps hsz ht=>by rw [key w B η tmps hsz ht];cases want <;> rfl⟩
     cases want <;> simpa using h1
    ·clear h
     subst hb
     rw [kF hv] at h1
     refine ⟨!want, ?_,fun w B η tmps hsz ht=>by rw [key w B η tmps hsz ht];cases want <;> rfl⟩
     cases want <;> simpa using h1
   ·rename_i hv
    refine ⟨false,by simpa using h,fun w B η tmps hsz ht=>by simp [Region.wanted,hg,yielded,hd,slot _ hv w B η tmps hsz ht]⟩
   ·cases h
  ·cases h
theorem cm {n0 m0:Nat}{Bx:List Nat}{ds:List Deferred}{a:Act}{w:World}{η:List Value}:∀ (l:List Nat) (st:S2) (B:List Nat),SimK n0 Bx ds st a w B η→∃ B',SimK n0 Bx ds (cW l st) a w B' η∧Goes n0 Bx m0 w B η w B' η
 | [],st,B,h=>⟨B,h,Goes.refl _ _ _ _ _ _⟩
 | i::l,st,B,h=>by
  obtain ⟨B1,h1,h2⟩:=pr h i
  obtain ⟨B2,h3,h4⟩:=cm (m0:=m0) l _ B1 h2
  exact ⟨B2,h3,(⟨On.refl B w,fun b hb=>.inl (h1 b hb),fun _ _ _ h=>h,Bel.refl _ _ _⟩:Goes n0 Bx m0 w B η w B1 η).trans h4⟩
theorem j6 {n0 m0:Nat}{Bx:List Nat}{ds:List Deferred}{a:Act}{w:World}{η:List Value}:∀ (l:List Nat) (st:S2) (B:List Nat),SimK n0 Bx ds st a w B η→∃ B',SimK n0 Bx ds (rn l st) a w B' η∧Goes n0 Bx m0 w B η w B' η
 | [],st,B,h=>⟨B,h,Goes.refl _ _ _ _ _ _⟩
 | i::l,st,B,h=>by
  obtain ⟨B1,h1,h2⟩:=od h i
  obtain ⟨B2,h3,h4⟩:=j6 (m0:=m0) l _ B1 h2
  exact ⟨B2,h3,(⟨On.refl B w,fun b hb=>.inl (h1 b hb),fun _ _ _ h=>h,Bel.refl _ _ _⟩:Goes n0 Bx m0 w B η w B1 η).trans h4⟩
theorem nh {n0 m0:Nat}{Bx:List Nat}{ds:List Deferred}{a:Act}{w:World}{η:List Value}(mv:Bool×Bool)(o:Op)(st:S2)(B:List Nat)(h:SimK n0 Bx ds st a w B η):∃ B',SimK n0 Bx ds (ta mv o st) a w B' η∧Goes n0 Bx m0 w B η w B' η:=by
 obtain ⟨B1,h1,h2⟩:=cm (m0:=m0) ((qY mv o).flatMap fun x=>cU (opV st.slots x)) st B h
 obtain ⟨B2,h3,h4⟩:=j6 (m0:=m0) ((m9 mv o).flatMap fun x=>nA (opV st.slots x)) _ B1 h1
 exact ⟨B2,h3,h2.trans h4⟩
def tW (ops:Array Oper)(x:Operand):List Operand:=match x with
 | .tmp t=>x::ops.toList.flatMap fun q=>match q.op with
  | .move y=>if q.dst==some t then [y] else []
  | _=>[]
 | x=>[x]
def r9 (mv:Bool×Bool)(ops:Array Oper)(st:S2):S2:=rn ((rW mv ops++ops.toList.flatMap fun o=>m9 mv o.op).flatMap fun x=>nA (opV st.slots x)) (cW (((ops.toList.flatMap fun o=>qY mv o.op).flatMap (tW ops)).flatMap fun x=>cU (opV st.slots x)) st)
theorem k9 {n0 m0:Nat}{Bx:List Nat}{ds:List Deferred}{a:Act}{w:World}{η:List Value}(mv:Bool×Bool)(ops:Array Oper)(st:S2)(B:List Nat)(h:SimK n0 Bx ds st a w B η):∃ B',SimK n0 Bx ds (r9 mv ops st) a w B' η∧Goes n0 Bx m0 w B η w B' η:=by
 obtain ⟨B1,h1,h2⟩:=cm (m0:=m0) (((ops.toList.flatMap fun o=>qY mv o.op).flatMap (tW ops)).flatMap fun x=>cU (opV st.slots x)) st B h
 obtain ⟨B2,h3,h4⟩:=j6 (m0:=m0) ((rW mv ops++ops.toList.flatMap fun o=>m9 mv o.op).flatMap fun x=>nA (opV st.slots x)) _ B1 h1
 exact ⟨B2,h3,h2.trans h4⟩
theorem l6 {n0:Nat}{w:World}{B:List Nat}{η:List Value}{sl:List V}(hgl:GlobOK w B)(g:Nat):Rel2 w B η (opV sl (.global g)) (.pointer (some ⟨g,0,none⟩))∧au n0 (ex (opV sl (.global g))) (.pointer (some ⟨g,0,none⟩)):=by
 simp only [opV]
 split
 ·rename_i l hl
  exact ⟨pl hgl hl,fun h=>by cases h⟩
 ·exact ⟨.c _ _,fun h=>by cases h⟩
theorem iB {n0:Nat}{w:World}{B:List Nat}{η:List Value}{sl:List V}{a:Act}(h:SlotsK n0 w B η sl a.tmps)(hgl:GlobOK w B)(x:Operand):Rel2 w B η (opV sl x) (a.eval x)∧au n0 (ex (opV sl x)) (a.eval x):=by
 cases x with
 | tmp t=>exact ⟨h.rel t,h.fresh t⟩
 | const v=>
  refine ⟨Rel2.of (eK v) ?_,fun h=> ?_⟩
  ·show Rel w B η (ex (ck v)) v
   rw [dS];exact .c _ _
  ·simp only [opV,dS,cg] at h;cases h
 | global g=>exact l6 hgl g
 | func f=>exact ⟨⟨[],rfl,rfl,fun i c h=>by simp at h⟩,fun h=>by cases h⟩
abbrev fw (R:Type):=FuncId→List V→List E2→(V→List E2→Tree R)→Tree R
def gN (n0:Nat)(w:World)(B:List Nat)(η:List Value)(args:List V)(cargs:List Value):Prop:=cargs.length=args.length∧∀ (i:Nat) x,args[i]? =some x→∃ v,cargs[i]? =some v∧Rel2 w B η x v∧au n0 (ex x) v
structure CallIOK (P:Program) (C:fw R):Prop where
 ok:∀ f args H k res,(C f args H k).run=some res→∃ r H',(k r H').run=some res∧(∃ fn,P.funcs[f]? =some fn∧fn.name≠ "runtime.NumGoroutine" ∧fn.body≠none)∧
  ∀ (n0:Nat) (Bx:List Nat) (w:World) (B:List Nat) (η:List Value) (cargs:List Value),Inv n0 Bx w B η (H.map exE)→gN n0 w B η args cargs→
   Calls P f cargs.toArray w fun e w'=>∃ v B' η',e= .returned v∧Goes n0 Bx H.length w B η w' B' η'∧Inv n0 Bx w' B' η' (H'.map exE)∧Rel2 w' B' η' r v∧au n0 (ex r) v
def tw (Γ:Env R)(f:FuncId)(xs:List V)(H:List E2)(k:V→List E2→Tree R):Tree R:=
 match cW (xs.flatMap cU) ⟨xs,H⟩ with
 | ⟨ys,H1⟩=>if ys.all j4=true then Γ.fns f (ys.map argV) fun r=>k r H1 else .fail
theorem rI {P:Program}{Γ:Env R}(hF:FnsOK P Γ.fns){f:FuncId}{args:Array Operand}{ts:Array TypeId}{sl:List V}{H:List E2}{o:Oper}{k:V→List E2→Tree R}{res:R}(ho:o.op= .call ⟨.value (.func f),args,ts⟩)(h:(tw Γ f (args.toList.map (opV sl)) H k).run=some res):
  ∃ r H',(k r H').run=some res∧∀ (n0:Nat) (Bx:List Nat) (w:World) (B:List Nat) (η:List Value) (ρv:Operand→Value),(∀ f,ρv (.func f)= .func (.func f) #[] #[])→Inv n0 Bx w B η (H.map exE)→(∀ x∈o.op.operands,Rel2 w B η (opV sl x) (ρv x)∧au n0 (ex (opV sl x)) (ρv x))→OpS2 P n0 Bx w ρv o B η r H':=by
 unfold tw at h
 split at h
 rename_i ys H1 hst
 split at h
 ·rename_i himm
  obtain ⟨r,h1,h2,h3,h4⟩:=hF.ok _ _ _ _ h
  refine ⟨r,H1,h1,fun n0 Bx w B η ρv hfv inv he N hN=>cA ho (hfv f) ?_⟩
  have hmem:∀ y∈args.toList,y∈o.op.operands:=fun y hy=>by simp [ho,eq,uS];exact .inr (by simpa using hy)
  have hs:SimK n0 Bx [] ⟨args.toList.map (opV sl),H⟩ { tmps:=args.map ρv,defers:=[] } w B η:=by
   refine ⟨rfl,inv,⟨by simp,fun t=> ?_,fun t=> ?_⟩⟩
   all_goals
    simp only [List.getD_eq_getElem?_getD,uV,List.getElem?_map,Array.getElem?_map]
    rcases vk t args.size with ht | ht
    ·have e1:args[t]? =some args[t]:=Array.getElem?_eq_getElem ht
     have e2:args.toList[t]? =some args[t]:=by rw [Array.getElem?_toList];exact e1
     have hm:=he args[t] (hmem _ (uK e2))
     simp only [e1,e2,u9,uJ]
     first | exact hm.1 | exact hm.2
    ·have e1:args[t]? =none:=Array.getElem?_eq_none ht
     have e2:args.toList[t]? =none:=by rw [Array.getElem?_toList];exact e1
     simp only [e1,e2,Option.map_none,Option.getD_none]
     first | trivial | (intro hc;cases hc)
  obtain ⟨B1,hs1,hg1⟩:=cm (m0:=0) ((args.toList.map (opV sl)).flatMap cU) _ B hs
  rw [hst] at hs1
  have hsz:ys.length=args.size:=by have:=hs1.slots.size;simpa using this
  have hcall:=h4 w B1 (args.toList.map ρv) hs1.inv.lt hs1.inv.base.2 (by simp [hsz]) (fun i x hx=>by
   rw [List.getElem?_map,uH] at hx
   obtain ⟨y,hy,rfl⟩:=hx
   have hi:=uQ.1 himm y (uK hy)
   have hlt:i<args.size:=by rw [←hsz];exact (List.getElem?_eq_some_iff.1 hy).1
   have hr:=hs1.slots.rel i
   simp only [List.getD_eq_getElem?_getD,hy,uJ,uV,Array.getElem?_map,Array.getElem?_eq_getElem hlt,u9] at hr
   exact ⟨ρv args[i],by simp [hlt],f9 hi (hr.get (db hi))⟩) N (fun v w' g2 g3=>hN v w' B1 η (On.gr g2) (fun b hb=>hg1.hB b hb) (fun _ _ h=>h) (Gr.bel g2 inv.base.1) (hs1.inv.gr g2) (Rel2.of h2 g3.any) (fun hfr=>by generalize ex r=y at h3 hfr;cases y <;> first | exact absurd rfl (h3 _ _) | cases hfr))
  have hargs:(args.toList.map ρv).toArray=args.map ρv:=by apply vh;simp
  rw [hargs] at hcall
  exact hcall
 ·cases h
def scaV:V→Bool
 | .c _=>true
 | .tup l=>l.all fun x=>match x with | .c _=>true | _=>false
 | _=>false
theorem qN {r:V}(h:scaV r=true){w:World}{B B':List Nat}{η η':List Value}{v:Value}(hr:Rel w B η (ex r) v):Rel w B' η' (ex r) v:=by
 cases r with
 | c u=>have:=u1 hr;subst this;exact .c _ _
 | tup l=>
  have hr:Rel w B η (.tup (l.map ex0)) v:=hr
  show Rel w B' η' (.tup (l.map ex0)) v
  cases hr with
  | tup _ _ cs us hs hu hq=>
   refine .tup _ _ cs us hs hu (fun i x hx=> ?_)
   have h0:=hq i x hx
   rw [List.getElem?_map,uH] at hx
   obtain ⟨y,hy,rfl⟩:=hx
   have h1:=uQ.1 h y (uK hy)
   cases y with
   | c u=>
    have h0:Rel w B η (.c u) (us i):=h0
    have e:=u1 h0
    rw [e]
    exact .c _ _
   | _=>cases h1
 | _=>cases h
def tv (Γ:Env R)(f:FuncId)(xs:List V)(H:List E2)(k:V→List E2→Tree R):Tree R:=
 match cW (xs.flatMap cU) ⟨xs,H⟩ with
 | ⟨ys,H1⟩=>if ys.all j4=true then Γ.fns f (ys.map argV) fun r=>if scaV r=true then k r H else .fail else .fail
theorem rH {P:Program}{Γ:Env R}(hF:FnsOK P Γ.fns){f:FuncId}{args:Array Operand}{ts:Array TypeId}{sl:List V}{H:List E2}{o:Oper}{k:V→List E2→Tree R}{res:R}(ho:o.op= .call ⟨.value (.func f),args,ts⟩)(h:(tv Γ f (args.toList.map (opV sl)) H k).run=some res):
  ∃ r H',(k r H').run=some res∧∀ (n0:Nat) (Bx:List Nat) (w:World) (B:List Nat) (η:List Value) (ρv:Operand→Value),(∀ f,ρv (.func f)= .func (.func f) #[] #[])→Inv n0 Bx w B η (H.map exE)→(∀ x∈o.op.operands,Rel2 w B η (opV sl x) (ρv x)∧au n0 (ex (opV sl x)) (ρv x))→OpS2 P n0 Bx w ρv o B η r H':=by
 unfold tv at h
 split at h
 rename_i ys H1 hst
 split at h
 ·rename_i himm
  obtain ⟨r,h1,h2,h3,h4⟩:=hF.ok _ _ _ _ h
  split at h1
  case isFalse=>cases h1
  rename_i hsca
  refine ⟨r,H,h1,fun n0 Bx w B η ρv hfv inv he N hN=>cA ho (hfv f) ?_⟩
  have hmem:∀ y∈args.toList,y∈o.op.operands:=fun y hy=>by simp [ho,eq,uS];exact .inr (by simpa using hy)
  have hs:SimK n0 Bx [] ⟨args.toList.map (opV sl),H⟩ { tmps:=args.map ρv,defers:=[] } w B η:=by
   refine ⟨rfl,inv,⟨by simp,fun t=> ?_,fun t=> ?_⟩⟩
   all_goals
    simp only [List.getD_eq_getElem?_getD,uV,List.getElem?_map,Array.getElem?_map]
    rcases vk t args.size with ht | ht
    ·have e1:args[t]? =some args[t]:=Array.getElem?_eq_getElem ht
     have e2:args.toList[t]? =some args[t]:=by rw [Array.getElem?_toList];exact e1
     have hm:=he args[t] (hmem _ (uK e2))
     simp only [e1,e2,u9,uJ]
     first | exact hm.1 | exact hm.2
    ·have e1:args[t]? =none:=Array.getElem?_eq_none ht
     have e2:args.toList[t]? =none:=by rw [Array.getElem?_toList];exact e1
     simp only [e1,e2,Option.map_none,Option.getD_none]
     first | trivial | (intro hc;cases hc)
  obtain ⟨B1,hs1,hg1⟩:=cm (m0:=0) ((args.toList.map (opV sl)).flatMap cU) _ B hs
  rw [hst] at hs1
  have hsz:ys.length=args.size:=by have:=hs1.slots.size;simpa using this
  have hcall:=h4 w B1 (args.toList.map ρv) hs1.inv.lt hs1.inv.base.2 (by simp [hsz]) (fun i x hx=>by
   rw [List.getElem?_map,uH] at hx
   obtain ⟨y,hy,rfl⟩:=hx
   have hi:=uQ.1 himm y (uK hy)
   have hlt:i<args.size:=by rw [←hsz];exact (List.getElem?_eq_some_iff.1 hy).1
   have hr:=hs1.slots.rel i
   simp only [List.getD_eq_getElem?_getD,hy,uJ,uV,Array.getElem?_map,Array.getElem?_eq_getElem hlt,u9] at hr
   exact ⟨ρv args[i],by simp [hlt],f9 hi (hr.get (db hi))⟩) N (fun v w' g2 g3=>hN v w' B η (On.gr g2) (fun b hb=>.inl hb) (fun _ _ h=>h) (Gr.bel g2 inv.base.1) (inv.gr g2) (Rel2.of h2 (qN hsca g3)) (fun hfr=>by generalize ex r=y at h3 hfr;cases y <;> first | exact absurd rfl (h3 _ _) | cases hfr))
  have hargs:(args.toList.map ρv).toArray=args.map ρv:=by apply vh;simp
  rw [hargs] at hcall
  exact hcall
 ·cases h
def neB:Operand→Operand→Bool
 | .tmp i,.tmp j=>i !=j
 | .const _,.tmp _=>true
 | _,_=>false
theorem uc {s x:Operand}(h:neB s x=true):s≠x:=fun e=>by
 subst e
 cases s <;> simp [neB] at h
def appO (P:Program)(sl:List V)(H:List E2)(s x:Operand)(t:TypeId)(k:V→List E2→Tree R):Tree R:=
 match cW (cU (opV sl x)) ⟨[opV sl s,opV sl x],H⟩ with
 | ⟨[s',x'],H1⟩=>if s'.plain=true∧x'.plain=true then eR P H1 t s' x' k else .fail
 | _=>.fail
theorem tH {P:Program}{sl:List V}{H:List E2}{o:Oper}{s x:Operand}{t:TypeId}{k:V→List E2→Tree R}{res:R}(hne:s≠x)(ho:o.op= .call ⟨.builtin .append, #[s,x], #[t,t]⟩)(h:(appO P sl H s x t k).run=some res):
  ∃ r H',(k r H').run=some res∧∀ (n0:Nat) (Bx:List Nat) (w:World) (B:List Nat) (η:List Value) (ρv:Operand→Value),(∀ f,ρv (.func f)= .func (.func f) #[] #[])→Inv n0 Bx w B η (H.map exE)→(∀ x∈o.op.operands,Rel2 w B η (opV sl x) (ρv x)∧au n0 (ex (opV sl x)) (ρv x))→OpS2 P n0 Bx w ρv o B η r H':=by
 classical
 unfold appO at h
 split at h
 ·rename_i s' x' H1 hst
  split at h
  ·rename_i hpl
   obtain ⟨hp1,hp2⟩:=hpl
   obtain ⟨ρ',hρ⟩:∃ ρ':Operand→V,ρ'=fun y=>if y=s then s' else if y=x then x' else .any:=⟨_,rfl⟩
   have e1:ρ' s=s':=by rw [hρ];simp
   have e2:ρ' x=x':=by rw [hρ];simp [Ne.symm hne]
   have hops:∀ y∈o.op.operands,y=s∨y=x:=fun y hy=>by
    rw [ho] at hy
    simpa [eq,uS] using hy
   have hp:aZ ρ' o:=fun y hy=>by
    rcases hops y hy with rfl | rfl
    ·rw [e1];exact hp1
    ·rw [e2];exact hp2
   obtain ⟨r,H',h1,h2⟩:=jF (ρ:=ρ') hp ho (by rw [e1,e2];exact h)
   refine ⟨r,H',h1,fun n0 Bx w B η ρv hfv inv he N hN=> ?_⟩
   have hs:SimK n0 Bx [] ⟨[opV sl s,opV sl x],H⟩ { tmps:= #[ρv s,ρv x],defers:=[] } w B η:=by
    have q1:=he s (by simp [ho,eq,uS])
    have q2:=he x (by simp [ho,eq,uS])
    refine ⟨rfl,inv,⟨rfl,fun t=> ?_,fun t=> ?_⟩⟩
    ·match t with
     | 0=>exact q1.1
     | 1=>exact q2.1
     | _+2=>trivial
    ·match t with
     | 0=>exact q1.2
     | 1=>exact q2.2
     | _+2=>exact fun hc=>by cases hc
   obtain ⟨B1,hs1,hg1⟩:=cm (m0:=0) (cU (opV sl x)) _ B hs
   rw [hst] at hs1
   have he':∀ y∈o.op.operands,Rel2 w B1 η (ρ' y) (ρv y)∧au n0 (ex (ρ' y)) (ρv y):=fun y hy=>by
    rcases hops y hy with rfl | rfl
    ·rw [e1];exact ⟨hs1.slots.rel 0,hs1.slots.fresh 0⟩
    ·rw [e2];exact ⟨hs1.slots.rel 1,hs1.slots.fresh 1⟩
   exact h2 n0 Bx w B1 η ρv hs1.inv he' N (fun v w' B' η' g1 g2 g3 g4 g5 g6 g7=>hN v w' B' η' (hg1.on.trans g1 (fun b hb=>hg1.hB b hb)) (fun b hb=>(g2 b hb).elim (fun h=>hg1.hB b h) .inr) g3 g4 g5 g6 g7)
  ·cases h
 ·cases h
def evI (P:Program)(Γ:Env R)(C:fw R)(mv:Bool×Bool)(st:S2)(o:Op)(k:V→List E2→Tree R):Tree R:=
 match o with
 | .call ⟨.value (.func f),args,ts⟩=>if Γ.inl f=true then C f (args.toList.map (opV st.slots)) st.heap k else if Γ.scl f=true∧mv.1=true then tv Γ f (args.toList.map (opV st.slots)) st.heap k else tw Γ f (args.toList.map (opV st.slots)) st.heap k
 | .call ⟨.value (.tmp t),args,_⟩=>(match st.slots.getD t .any with
  | .clo f caps=>if Γ.inl f=true then C f (args.toList.map (opV st.slots)++caps) st.heap k
   else if caps.isEmpty=true∧args.toList.all (fun x=>j4 (opV st.slots x))=true then Γ.fns f (args.toList.map fun x=>argV (opV st.slots x)) fun r=>k r st.heap else .fail
  | _=>.fail)
 | .call ⟨.builtin .append,⟨[s,x]⟩,⟨[t,t']⟩⟩=>(match opV st.slots x with
  | .own _=>if neB s x=true∧t=t' then appO P st.slots st.heap s x t k else .fail
  | _=>evS2 P Γ.fns mv st.heap (opV st.slots) (.call ⟨.builtin .append,⟨[s,x]⟩,⟨[t,t']⟩⟩) k)
 | o=>evS2 P Γ.fns mv st.heap (opV st.slots) o k
theorem mt {P:Program}{Γ:Env R}(hF:FnsOK P Γ.fns){C:fw R}(hC:CallIOK P C){mv:Bool×Bool}{st:S2}{o:Oper}{k:V→List E2→Tree R}{res:R}(h:(evI P Γ C mv st o.op k).run=some res):
  ∃ r H',(k r H').run=some res∧∀ (n0:Nat) (Bx:List Nat) (w:World) (B:List Nat) (η:List Value) (ρv:Operand→Value),(∀ f,ρv (.func f)= .func (.func f) #[] #[])→Inv n0 Bx w B η (st.heap.map exE)→(∀ x∈o.op.operands,Rel2 w B η (opV st.slots x) (ρv x)∧au n0 (ex (opV st.slots x)) (ρv x))→OpS2 P n0 Bx w ρv o B η r H':=by
 have call:∀ (f:FuncId) (args:List V) (fv:Operand) (ops:Array Operand) (ts:Array TypeId) (r:V) (H':List E2),o.op= .call ⟨.value fv,ops,ts⟩→(∃ fn,P.funcs[f]? =some fn∧fn.name≠ "runtime.NumGoroutine" ∧fn.body≠none)→
   (∀ (n0:Nat) (Bx:List Nat) (w:World) (B:List Nat) (η:List Value) (cargs:List Value),Inv n0 Bx w B η (st.heap.map exE)→gN n0 w B η args cargs→
   Calls P f cargs.toArray w fun e w'=>∃ v B' η',e= .returned v∧Goes n0 Bx st.heap.length w B η w' B' η'∧Inv n0 Bx w' B' η' (H'.map exE)∧Rel2 w' B' η' r v∧au n0 (ex r) v)→
   (∀ (n0:Nat) (w:World) (B:List Nat) (η:List Value) (ρv:Operand→Value),(∀ f,ρv (.func f)= .func (.func f) #[] #[])→(∀ x∈o.op.operands,Rel2 w B η (opV st.slots x) (ρv x)∧au n0 (ex (opV st.slots x)) (ρv x))→∃ (cargs:List Value) (a1 cap:Array Value),gN n0 w B η args cargs∧(resolve ρv ⟨.value fv,ops,ts⟩ o.type).run P w= .ok { target:=.fn (.func f) cap,args:=a1 } w∧a1++cap=cargs.toArray)→
   ∀ (n0:Nat) (Bx:List Nat) (w:World) (B:List Nat) (η:List Value) (ρv:Operand→Value),(∀ f,ρv (.func f)= .func (.func f) #[] #[])→Inv n0 Bx w B η (st.heap.map exE)→(∀ x∈o.op.operands,Rel2 w B η (opV st.slots x) (ρv x)∧au n0 (ex (opV st.slots x)) (ρv x))→OpS2 P n0 Bx w ρv o B η r H':=by
  intro f args fv ops ts r H' ho hfn hcalls hargs n0 Bx w B η ρv hfv inv he N hN
  obtain ⟨fn,f1,f2,f3⟩:=hfn
  obtain ⟨cargs,a1,cap,hrel,hres,hcat⟩:=hargs n0 w B η ρv hfv he
  have hcall:=hcalls n0 Bx w B η cargs inv hrel
  unfold u7
  have hrun:(execOp ρv o).run P w= .ok (.enter f cargs.toArray) w:=by
   simp only [execOp,ho,ge,hres,Result.andThen_ok,invoke,callFunc,hcat]
   simp [ge,f1,f2,f3]
  rw [hrun]
  refine hcall.mono fun e w' ⟨v,B',η',g1,g2,g3,g4,g5⟩=>⟨v,g1,hN v w' B' η' g2.on g2.hB (fun id v hv=>g2.hη id v ?_ hv) g2.below g3 g4 g5⟩
  have:=(List.getElem?_eq_some_iff.1 hv).1
  rw [inv.len] at this
  simpa using this
 obtain ⟨op,ho⟩:∃ op,o.op=op:=⟨_,rfl⟩
 rw [ho] at h
 unfold evI at h
 split at h
 ·rename_i f args ts
  split at h
  ·obtain ⟨r,H',h1,h2,h3⟩:=hC.ok _ _ _ _ _ h
   refine ⟨r,H',h1,call f _ _ _ _ r H' ho h2 h3 fun n0 w B η ρv hfv he=>⟨args.toList.map ρv,args.map ρv, #[],⟨by simp,fun i x hx=> ?_⟩, ?_, ?_⟩⟩
   ·rw [List.getElem?_map,uH] at hx
    obtain ⟨y,hy,rfl⟩:=hx
    have hm:=uK hy
    exact ⟨ρv y,by rw [List.getElem?_map,hy];rfl,he y (by simp [ho,eq,uS];exact .inr (by simpa using hm))⟩
   ·simp [resolve,Deferred.ofValue,hfv]
   ·apply vh;simp
  ·split at h
   ·exact rH hF ho h
   ·exact rI hF ho h
 ·rename_i t args ts
  split at h
  ·rename_i f caps hcl
   split at h
   ·obtain ⟨r,H',h1,h2,h3⟩:=hC.ok _ _ _ _ _ h
    refine ⟨r,H',h1,call f _ _ _ _ r H' ho h2 h3 fun n0 w B η ρv hfv he=> ?_⟩
    have hv:=(he (.tmp t) (by simp [ho,eq,uS])).1
    simp only [opV] at hv
    rw [hcl] at hv
    obtain ⟨vs,e1,e2,e3⟩:=hv
    refine ⟨args.toList.map ρv++vs,args.map ρv,vs.toArray,⟨by simp [e2],fun i x hx=> ?_⟩, ?_, ?_⟩
    ·rw [List.getElem?_append] at hx ⊢
     simp only [uM] at hx ⊢
     split at hx
     ·rename_i hi
      rw [if_pos hi]
      rw [List.getElem?_map,uH] at hx
      obtain ⟨y,hy,rfl⟩:=hx
      have hm:=uK hy
      exact ⟨ρv y,by rw [List.getElem?_map,hy];rfl,he y (by simp [ho,eq,uS];exact .inr (by simpa using hm))⟩
     ·rename_i hi
      rw [if_neg hi]
      obtain ⟨u,g1,g2,g3⟩:=e3 _ _ hx
      refine ⟨u,g1,Rel2.of (V.cap_plain g2) g3,fun hfr=> ?_⟩
      obtain ⟨d,l,rfl⟩:=pF hfr
      cases g2
    ·have hev:ρv (.tmp t)= .func (.func f) #[] vs.toArray:=e1
     simp [resolve,Deferred.ofValue,hev]
    ·apply vh;simp
   ·split at h
    ·rename_i hc
     obtain ⟨hcap,himm⟩:=hc
     have hcap:caps=[]:=by simpa using hcap
     subst hcap
     obtain ⟨r,h1,h2,h3,h4⟩:=hF.ok _ _ _ _ h
     refine ⟨r,st.heap,h1,fun n0 Bx w B η ρv hfv inv he N hN=> ?_⟩
     have hv:=(he (.tmp t) (by simp [ho,eq,uS])).1
     simp only [opV] at hv
     rw [hcl] at hv
     obtain ⟨vs,e1,e2,e3⟩:=hv
     have hvs:vs=[]:=gt e2
     subst hvs
     have hev:ρv (.tmp t)= .func (.func f) #[] #[]:=e1
     have hcall:=h4 w B (args.toList.map ρv) inv.lt inv.base.2 (by simp) (fun i x hx=>by
      rw [List.getElem?_map,uH] at hx
      obtain ⟨y,hy,rfl⟩:=hx
      have hm:=uK hy
      have hi:=uQ.1 himm y hm
      exact ⟨ρv y,by rw [List.getElem?_map,hy];rfl,f9 hi ((he y (by simp [ho,eq,uS];exact .inr (by simpa using hm))).1.get (db hi))⟩) N (fun v w' g2 g3=>hN v w' B η (On.gr g2) (fun _ h=>.inl h) (fun _ _ h=>h) (Gr.bel g2 inv.base.1) (inv.gr g2) (Rel2.of h2 g3.any) (fun hfr=>by generalize ex r=y at h3 hfr;cases y <;> first | exact absurd rfl (h3 _ _) | cases hfr))
     have hargs:(args.toList.map ρv).toArray=args.map ρv:=by apply vh;simp
     rw [hargs] at hcall
     exact cA ho hev hcall
    ·cases h
  ·cases h
 ·split at h
  ·split at h
   ·rename_i hc
    obtain ⟨hne,rfl⟩:=hc
    exact tH (uc hne) ho h
   ·cases h
  ·obtain ⟨r,H',h1,h2⟩:=pG (o:=o) hF (by rw [ho];exact h)
   exact ⟨r,H',h1,h2⟩
 ·obtain ⟨r,H',h1,h2⟩:=pG (o:=o) hF (by rw [ho];exact h)
  exact ⟨r,H',h1,h2⟩
theorem um {P:Program}{Γ:Env R}(hF:FnsOK P Γ.fns){C:fw R}(hC:CallIOK P C){mv:Bool×Bool}{st:S2}{o:Oper}{k:V→List E2→Tree R}{res:R}(h:(evI P Γ C mv st o.op k).run=some res):
  ∃ r H',(k r H').run=some res∧∀ (n0:Nat) (Bx:List Nat) (ds:List Deferred) (a:Act) (w:World) (B:List Nat) (η:List Value),SimK n0 Bx ds st a w B η→OpS2 P n0 Bx w a.eval o B η r H':=by
 obtain ⟨r,H',h1,h2⟩:=mt hF hC h
 exact ⟨r,H',h1,fun n0 Bx ds a w B η hs=>h2 n0 Bx w B η a.eval (fun f=>rfl) hs.inv (fun x _=>iB hs.slots hs.inv.base.2 x)⟩
end
end Go.Proofs.Ytmndainldhmnjaa
