/-
  Parts of my own, one behind the other: K8d, K8e, K9, KA, KB.
-/
import Derived.Test.YtmndainldhmnjaaMrg2
open List renaming mem_of_getElem?→eq, mem_cons_of_mem→gt, mem_cons_self→ne, getElem_of_mem→uM, all_eq_true→uN, eq_nil_of_length_eq_zero→uO, mem_cons→uQ, pairwise_cons→uS, append_assoc→uU, mem_append_right→uX, range→u1, length_append→u5, mem_filter→u7, take_append_drop→vb, mem_range→vc, mem_append_left→ve, replicate→vf, length_cons→vg, pairwise_iff_getElem→vh, map_append→vi, length_map→vj, append_nil→vk, mem_filterMap→vm, filter_cons_of_neg→vn, filter_cons_of_pos→vo
open Bool renaming and_eq_true→ge, false_eq_true→uR, or_eq_true→u9
open Array renaming getD_eq_getD_getElem?→uH, all_eq_true'→uP, replicate→uW, getElem_setIfInBounds→uZ
open Option renaming bind_eq_some_iff→uI, map_eq_some_iff→uK, some→uL, map_some→uY
open Nat renaming lt_or_ge→uJ, le_refl→uV, eq_zero_or_pos→vl
open Go.Region renaming wanted→uT
open Go.Proofs.Ytmndainldhmnjaa.On renaming refl→u2
open Go.Proofs.Ytmndainldhmnjaa.Goes renaming refl→u3
open Go.Proofs.Ytmndainldhmnjaa.Tree renaming run_ite→u4
open Go.Sem renaming run_bind→u6
open Go.Op renaming operands→vd
namespace Go.Proofs.Ytmndainldhmnjaa
set_option maxRecDepth 100000
open Go.RowKit
set_option linter.unusedVariables false
set_option linter.unusedSimpArgs false
section
variable {R:Type}
def ef (P:Program)(f:FuncId)(e:TypeId):Prop:=(∃ fn,P.funcs[f]? =some fn∧fn.name≠ "runtime.NumGoroutine" ∧fn.body≠none)∧∀ (l:List Int),aS l.length 1=true→∀ (w:World) (B:List Nat) (v:Value),(∀ b∈B,b<w.heap.size)→GlobOK w B→Rel w B [] (ex (.lst (.int .u8) l)) v→Calls P f #[v] w fun e1 w'=>∃ v',e1= .returned v'∧Gr w w'∧bw w' w.heap.size e 1 v' l.length (l.map fun n=>Value.int .u8 n)
def gj (H:List E2)(e:TypeId)(args:List V)(k:V→List E2→Tree R):Tree R:=
 match args with
 | [.lst d l]=>dk d (.int .u8) (fun d=>List (T d)) l fun l=>.ite (aS (List.length l) 1) (k (.own H.length) (H++[.own (.int .u8) l e])) .fail
 | [.own id]=>(match H[id]? with
  | some (.own d l _)=>dk d (.int .u8) (fun d=>List (T d)) l fun l=>.ite (aS (List.length l) 1) (k (.own H.length) (H++[.own (.int .u8) l e])) .fail
  | _=>.fail)
 | _=>.fail
theorem Inv.pushNil {n0:Nat}{Bx:List Nat}{w:World}{B:List Nat}{η:List Value}{Hs:List Ent}(inv:Inv n0 Bx w B η Hs)(e:TypeId){k:Nat}(hk:1≤k):Inv n0 Bx w B (η++[.slice none 0 0]) (Hs++[.own [] e k]):=by
 refine ⟨by simp [inv.len],inv.base,inv.sub,inv.lt,fun i e' he=> ?_,fun i j ei ej hij hi hj hli hlj b hb=> ?_⟩
 ·rcases uJ i Hs.length with hi | hi
  ·rw [List.getElem?_append_left hi] at he
   rw [ai (by rw [inv.len];exact hi)]
   exact aF.keep (inv.ent i e' he) (u2 B w) (fun _ h=>.inl h) (fun _ h=>h) (aq η _) (fun _ _ _=>rfl)
  ·rw [List.getElem?_append_right hi] at he
   have hz:i=Hs.length:=by have:=(List.getElem?_eq_some_iff.1 he).1;simp at this;omega
   subst hz
   simp at he;subst he
   rw [←inv.len,ak]
   exact ⟨0,[],bw.nil w n0 e k,RelL.nil _ _ _,hk,fun b hb=>by cases hb⟩
 ·have part:∀ (i:Nat) (ei:Ent),(Hs++[Ent.own [] e k])[i]? =some ei→i<Hs.length∧Hs[i]? =some ei∨i=Hs.length:=fun i ei hi=>by
   rcases uJ i Hs.length with hlt | hge
   ·rw [List.getElem?_append_left hlt] at hi;exact .inl ⟨hlt,hi⟩
   ·rw [List.getElem?_append_right hge] at hi
    exact .inr (by have:=(List.getElem?_eq_some_iff.1 hi).1;simp at this;omega)
  have hl:=inv.len
  rcases part i ei hi with ⟨h1,h2⟩ | h1
  ·rw [ai (by omega)] at hb
   rcases part j ej hj with ⟨h3,h4⟩ | h3
   ·rw [ai (by omega)]
    exact inv.sep i j ei ej hij h2 h4 hli hlj b hb
   ·subst h3;rw [←hl,ak];intro hc;cases hc
  ·subst h1;rw [←hl,ak] at hb;cases hb
theorem mq (l:List Int):flat (.int .u8) l=l.map fun n=>AV.c (.int .u8 n):=by
 induction l with
 | nil=>rfl
 | cons x l ih=>rw [ch,ih];rfl
theorem Inv.pushOwn {n0:Nat}{Bx:List Nat}{w w':World}{B:List Nat}{η:List Value}{Hs:List Ent}{e:TypeId}{l:List Int}{v:Value}(inv:Inv n0 Bx w B η Hs)(g:Gr w w')(h:bw w' w.heap.size e 1 v l.length (l.map fun n=>Value.int .u8 n)):∃ B',Inv n0 Bx w' B' (η++[v]) (Hs++[.own (flat (.int .u8) l) e 1])∧(∀ b∈B',b∈B∨w.heap.size≤b)∧∃ a n c,v= .slice a n c:=by
 have hrl:∀ (B':List Nat) (η':List Value),RelL w' B' η' (flat (.int .u8) l) (l.map fun n=>Value.int .u8 n):=fun B' η'=>⟨by rw [mq];simp,fun i x hx=>by
  rw [mq,List.getElem?_map,uK] at hx
  obtain ⟨n,hn,rfl⟩:=hx
  exact ⟨.int .u8 n,by rw [List.getElem?_map,hn];rfl,.c _ _⟩⟩
 rcases h.2 with ⟨hv,hn⟩ | ⟨gg,o,cap,cur,hv,hb,hcell,rest⟩
 ·have hl:l=[]:=uO hn
  subst hl hv
  exact ⟨B,(inv.gr g).pushNil e (uV 1),fun b hb=>.inl hb,_,_,_,rfl⟩
 ·refine ⟨gg::B,inv.push g hb (Array.getElem?_eq_some_iff.1 hcell).1 (by rw [hv];rfl) ⟨l.length,_,⟨h.1,.inr ⟨gg,o,cap,cur,hv,Nat.le_trans inv.base.1 hb,hcell,rest⟩⟩,hrl _ _,uV 1,fun b hb'=> ?_⟩,fun b hb'=>by rcases uQ.1 hb' with rfl | h;exact .inr hb;exact .inl h,_,_,_,hv⟩
  rw [hv] at hb'
  have:gg=b:=by simpa [Value.ownBlock] using hb'
  subst this
  exact ⟨ne,fun hx=>by have:=inv.lt _ (inv.sub _ hx);have:=inv.base.1;omega⟩
def me (B:List Nat)(v:Value):List Nat:=B.filter fun b=>aO v !=some b
theorem f8 {B:List Nat}{v:Value}{b:Nat}(h:b∈me B v):b∈B:=(u7.1 h).1
theorem pa {B:List Nat}{v:Value}{b:Nat}(h:aO v=some b):b∉me B v:=fun hb=>by
 have:=(u7.1 hb).2
 rw [h] at this
 simp at this
theorem m8 {n0:Nat}{Bx:List Nat}{w:World}{B:List Nat}{η:List Value}{H:List E2}(inv:Inv n0 Bx w B η (H.map exE)){id:Nat}{d:Td}{l:List (T d)}{E:TypeId}(hH:H[id]? =some (.own d l E)){v:Value}(hv:Rel w B η (.own id) v):Rel w (me B (η.getD id undef)) [] (.sl (flat d l) (wd d)) v:=
 gE inv (exH hH) (cq d l) (fun _ h=>f8 h) (fun _ h=>pa h) hv
theorem ln {P:Program}{Γ:Env R}(hCl:∀ f e,Γ.cln f=some e→ef P f e){f:FuncId}{e:TypeId}(hcl:Γ.cln f=some e){H:List E2}{args:List V}{k:V→List E2→Tree R}{res:R}(h:(gj H e args k).run=some res):
  ∃ r H',(k r H').run=some res∧((∃ fn,P.funcs[f]? =some fn∧fn.name≠ "runtime.NumGoroutine" ∧fn.body≠none)∧
   ∀ (n0:Nat) (Bx:List Nat) (w:World) (B:List Nat) (η:List Value) (cargs:List Value),Inv n0 Bx w B η (H.map exE)→gN n0 w B η args cargs→
    Calls P f cargs.toArray w fun e w'=>∃ v B' η',e= .returned v∧Goes n0 Bx H.length w B η w' B' η'∧Inv n0 Bx w' B' η' (H'.map exE)∧Rel2 w' B' η' r v∧au n0 (ex r) v)∧∃ x,H'=H++[x]:=by
 have hc:=hCl f e hcl
 unfold gj at h
 split at h
 ·rename_i d l
  obtain ⟨e1,h1⟩:=aU h
  clear h
  subst e1
  simp only at h1
  rcases u4 h1 with ⟨hr,h2⟩ | ⟨_,h2⟩
  ·refine ⟨_,_,h2,⟨hc.1,fun n0 Bx w B η cargs inv hrel=> ?_⟩,_,rfl⟩
   obtain ⟨v,q1,q2,_⟩:=hrel.2 0 (.lst (.int .u8) l) rfl
   have hcg:cargs=[v]:=by
    have:=hrel.1
    match cargs,this,q1 with
    | [x],_,q1=>simp at q1;rw [q1]
   subst hcg
   refine (hc.2 l hr w B v inv.lt inv.base.2 ((q2.get rfl).bare rfl)).mono fun e1 w' ⟨v',g1,g2,g3⟩=> ?_
   obtain ⟨B',i1,i2,a,n,c,rfl⟩:=inv.pushOwn g2 g3
   refine ⟨_,B',_,g1,⟨.gr g2,i2,fun id v _ hv=>aq η _ id v hv,Gr.bel g2 inv.base.1⟩,by rw [vi];exact i1, ?_,fun hfr=>by cases hfr⟩
   have hl:η.length=H.length:=by have:=inv.len;simpa using this
   exact Rel.own _ _ _ _ _ (by rw [←hl,List.getElem?_append_right (uV _)];simp)
  ·cases h2
 ·rename_i id
  split at h
  ·rename_i d l E hH
   obtain ⟨e1,h1⟩:=aU h
   clear h
   subst e1
   simp only at h1
   rcases u4 h1 with ⟨hr,h2⟩ | ⟨_,h2⟩
   ·refine ⟨_,_,h2,⟨hc.1,fun n0 Bx w B η cargs inv hrel=> ?_⟩,_,rfl⟩
    obtain ⟨v,q1,q2,_⟩:=hrel.2 0 (.own id) rfl
    have hcg:cargs=[v]:=by
     have:=hrel.1
     match cargs,this,q1 with
     | [x],_,q1=>simp at q1;rw [q1]
    subst hcg
    refine (hc.2 l hr w (me B (η.getD id undef)) v (fun b hb=>inv.lt b (f8 hb)) (inv.base.2.on (u2 B w) (fun b hb=>.inl (f8 hb))) (m8 inv hH q2)).mono fun e1 w' ⟨v',g1,g2,g3⟩=> ?_
    obtain ⟨B',i1,i2,a,n,c,rfl⟩:=inv.pushOwn g2 g3
    refine ⟨_,B',_,g1,⟨.gr g2,i2,fun id v _ hv=>aq η _ id v hv,Gr.bel g2 inv.base.1⟩,by rw [vi];exact i1, ?_,fun hfr=>by cases hfr⟩
    have hl:η.length=H.length:=by have:=inv.len;simpa using this
    exact Rel.own _ _ _ _ _ (by rw [←hl,List.getElem?_append_right (uV _)];simp)
   ·cases h2
  ·cases h
 ·cases h
def nz (Γ:Env R):fw R:=fun f args H k=>if Γ.inl f=true then (match Γ.cln f with | some e=>gj H e args k | none=>.fail) else .fail
theorem ov {P:Program}{Γ:Env R}(hCl:∀ f e,Γ.cln f=some e→ef P f e):CallIOK P (nz Γ):=by
 refine ⟨fun f args H k res h=> ?_⟩
 unfold nz at h
 split at h
 ·split at h
  ·rename_i e hcl
   obtain ⟨r,H',q1,q2,_⟩:=ln hCl hcl h
   exact ⟨r,H',q1,q2⟩
  ·cases h
 ·cases h
def clnE (Γ:Env R)(ρ:Operand→V)(o:Op):Option (TypeId×List V):=match o with
 | .call ⟨.value (.func f),args,_⟩=>if Γ.inl f=true then (match Γ.cln f with | some e=>some (e,args.toList.map ρ) | none=>none) else none
 | _=>none
theorem rF {P:Program}{Γ:Env R}{mv:Bool×Bool}{sl:List V}{H:List E2}{o:Op}{e:TypeId}{args:List V}(h:clnE Γ (opV sl) o=some (e,args))(k:V→List E2→Tree R):evI P Γ (nz Γ) mv ⟨sl,H⟩ o k=gj H e args k:=by
 unfold clnE at h
 split at h
 ·rename_i f l0 ts
  split at h
  ·rename_i hin
   split at h
   ·rename_i e' hcl
    simp only [uL.injEq,Prod.mk.injEq] at h
    obtain ⟨rfl,rfl⟩:=h
    unfold evI
    simp only [hin,if_true,nz,hcl]
   ·cases h
  ·cases h
 ·cases h
open Classical in
theorem mA {H:List E2}{e:TypeId}{args:List V}(k:V→List E2→Tree R):gj H e args k=gj H e args fun r H'=>if ∃ x,H'=H++[x] then k r H' else .fail:=by
 have hp:∀ x,(∃ y,H++[x]=H++[y])=True:=fun x=>eq_true ⟨x,rfl⟩
 unfold gj
 split
 ·simp only [hp,if_true]
 ·split
  ·simp only [hp,if_true]
  ·rfl
 ·rfl
end
section
variable {P:Program} {ops:Array Oper}
theorem hS {Q:Exit→Act→World→Prop}(I:Array Bool→Act→World→Prop)(hback:rO ops=true)
  (hstep:∀ (listed:Array Bool) (a:Act) (w:World) (j:Nat),HeadInv .any ops ops.size listed→I listed a w→j∈Region.ready .any ops listed→∀ K:Act→World→Prop,(∀ a' w',I (listed.setIfInBounds j true) a' w'→K a' w')→wpOp P ops Q j K a w)
  (hend:∀ (listed:Array Bool) (a:Act) (w:World),HeadInv .any ops ops.size listed→(∀ i,i<ops.size→listed.getD i false=true)→I listed a w→Q .normal a w):
  ∀ (f:Nat) (listed:Array Bool) (a:Act) (w:World),((u1 ops.size).filter fun i=>!listed.getD i false).length=f→HeadInv .any ops ops.size listed→I listed a w→wpAny P .any ops Q f listed a w
 | 0,listed,a,w,hf,hi,inv=>by
  have hall:∀ i,i<ops.size→listed.getD i false=true:=fun i hin=>by
   cases hl:listed.getD i false with
   | true=>rfl
   | false=>
    have:i∈(u1 ops.size).filter fun i=>!listed.getD i false:=u7.2 ⟨vc.2 hin,by rw [hl];rfl⟩
    rw [List.length_eq_zero_iff.1 hf] at this;cases this
  refine ⟨?_,hend listed a w hi hall inv⟩
  cases hr:Region.ready .any ops listed with
  | nil=>rfl
  | cons j l=>
   have hj:j∈Region.ready .any ops listed:=by rw [hr];exact ne
   obtain ⟨h1,o,ho,_⟩:=mem_ready.1 hj
   have hjs:=(Array.getElem?_eq_some_iff.1 ho).1
   have:=hall j hjs
   have hjl:j<listed.size:=by rw [hi.size];exact hjs
   simp [hjl] at this h1
   rw [this] at h1;cases h1
 | f+1,listed,a,w,hf,hi,inv=>by
  have hex:∃ i,i<ops.size∧listed.getD i false=false:=by
   cases hfil:(u1 ops.size).filter fun i=>!listed.getD i false with
   | nil=>rw [hfil] at hf;cases hf
   | cons x xs=>
    have:x∈(u1 ops.size).filter fun i=>!listed.getD i false:=by rw [hfil];exact ne
    obtain ⟨h1,h2⟩:=u7.1 this
    exact ⟨x,vc.1 h1,by simpa using h2⟩
  have hready:∃ i,i∈Region.ready .any ops listed:=by
   obtain ⟨i0,hin0,hun0⟩:=hex
   revert hin0 hun0
   refine Nat.strongRecOn i0 fun i ih his hun=> ?_
   by_cases hall:∀ e∈ops[i].after,Region.binds .any e=true→listed.getD e.on false=true
   ·refine ⟨i,mem_ready.2 ⟨?_,ops[i],Array.getElem?_eq_getElem his,hall⟩⟩
    have hil:i<listed.size:=by rw [hi.size];exact his
    simp [hil] at hun ⊢;exact hun
   ·have:∃ e∈ops[i].after,Region.binds .any e=true∧listed.getD e.on false=false:=by
     apply Classical.byContradiction
     intro hc
     apply hall
     intro e he hb
     cases hl:listed.getD e.on false with
     | true=>rfl
     | false=>exact absurd ⟨e,he,hb,hl⟩ hc
    obtain ⟨e,he,hb,hl⟩:=this
    have h1:=uN.1 hback i (vc.2 his)
    simp only [Array.getElem?_eq_getElem his] at h1
    have h2:=Array.all_eq_true_iff_forall_mem.1 h1 e he
    simp only [hb,Bool.not_true,Bool.false_or,decide_eq_true_eq] at h2
    exact ih e.on h2 (by omega) hl
  refine ⟨fun h0=>by obtain ⟨i,hi2⟩:=hready;rw [h0] at hi2;exact (List.not_mem_nil hi2).elim,fun j hj=> ?_⟩
  have hjs:j<ops.size:=by obtain ⟨_,o,ho,_⟩:=mem_ready.1 hj;exact (Array.getElem?_eq_some_iff.1 ho).1
  refine hstep listed a w j hi inv hj _ fun a' w' inv'=>hS I hback hstep hend f _ a' w' ?_ (hi.set hj hjs) inv'
  have hjl:j<listed.size:=by rw [hi.size];omega
  have hjun:listed.getD j false=false:=by
   have:=(mem_ready.1 hj).1
   simp [hjl] at this ⊢;exact this
  have:∀ (l:List Nat),l.Nodup→j∈l→(l.filter fun i=>!(listed.setIfInBounds j true).getD i false).length+1=(l.filter fun i=>!listed.getD i false).length:=by
   intro l
   induction l with
   | nil=>intro _ h;cases h
   | cons x l ih=>
    intro hnd hm
    obtain ⟨hx,hnd'⟩:=List.nodup_cons.1 hnd
    rcases uQ.1 hm with rfl | hm'
    ·have e1:(listed.setIfInBounds j true).getD j false=true:=by simp [hjl]
     have e2:(l.filter fun i=>!(listed.setIfInBounds j true).getD i false)=l.filter fun i=>!listed.getD i false:=
      List.filter_congr fun i hi'=>by rw [getD_set_ne false (fun e=>hx (by rw [e];exact hi'))]
     rw [vn (by rw [e1];simp),vo (by rw [hjun];rfl),e2,vg]
    ·have hne:j≠x:=fun e=>hx (by rw [←e];exact hm')
     have ih':=ih hnd' hm'
     by_cases hlx:listed.getD x false=true
     ·rw [vn (by rw [getD_set_ne false hne,hlx];simp),vn (by rw [hlx];simp)];exact ih'
     ·have hlx':listed.getD x false=false:=by simpa using hlx
      rw [vo (by rw [getD_set_ne false hne,hlx'];rfl),vo (by rw [hlx'];rfl),vg,vg];omega
  have h:=this (u1 ops.size) List.nodup_range (vc.2 hjs)
  omega
end
def p8:V→Bool
 | .any=>true
 | .agg l=>l.all immV
 | .tup l=>l.all j4
 | .fre _ _=>true
 | .adr _=>true
 | .clo _ l=>l.isEmpty
 | x=>immV x
theorem ri {x:V}(h:j4 x=true):(unf (ex0 x)).imm=true:=by
 cases x with
 | agg l=>exact eE l h
 | arr d n a=>exact cq d a.l
 | _=>first | rfl | cases h
theorem Rel.bare2 {w:World}{B:List Nat}{η η':List Value}{x:AV}{v:Value}(h:Rel w B η x v)(hi:(Go.Proofs.Ytmndainldhmnjaa.unf x).imm=true):Rel w B η' x v:=by
 cases h with
 | fresh _ l k A n us hk hn h0 hm hA hr=>exact .fresh _ l k A n us hk hn h0 hm hA hr
 | c=>exact .c _ _
 | sl _ l k A n c us hk hn hc hm hA hr=>exact .sl _ l k A n c us hk hn hc hm hA hr
 | adr _ l ad us ha hr=>exact .adr _ l ad us ha hr
 | emp _ A=>exact .emp _ A
 | nn _ t v=>exact .nn _ t v
 | agg _ l cs us hs hu hr=>exact Rel.bare (.agg _ l cs us hs hu hr) hi
 | tup _ l cs us hs hu hr=>exact Rel.bare (.tup _ l cs us hs hu hr) hi
 | _=>cases hi
theorem iY {w:World}{B:List Nat}{η η':List Value}{x:V}{v:Value}(hb:p8 x=true)(h:Rel2 w B η x v):Rel2 w B η' x v:=by
 cases x with
 | any=>trivial
 | agg l=>exact Rel.bare h (eE l hb)
 | arr d n a=>exact Rel.bare h (cq d a.l)
 | tup l=>
  have hr0:Rel w B η (.tup (l.map ex0)) v:=h
  cases hr0 with
  | tup _ _ cs us hs hu hr=>
   refine Rel.tup _ _ cs us hs hu (fun i y hy=>(hr i y hy).bare2 ?_)
   rw [List.getElem?_map,uK] at hy
   obtain ⟨z,hz,rfl⟩:=hy
   exact ri (uN.1 hb z (eq hz))
 | fre d l=>
  have hr0:Rel w B η (.fresh (flat d l) (wd d)) v:=h
  exact hr0.bare2 (η':=η') rfl
 | adr l=>
  have hr0:Rel w B η (.adr (al l)) v:=h
  exact hr0.bare2 (η':=η') rfl
 | c v0=>exact Rel.bare h rfl
 | str s=>exact Rel.bare h rfl
 | lst d l=>exact Rel.bare h rfl
 | emp=>exact Rel.bare h rfl
 | nn=>exact Rel.bare h rfl
 | clo f l=>
  have hl:l=[]:=List.isEmpty_iff.1 hb
  subst hl
  obtain ⟨vs,h1,h2,h3⟩:=h
  exact ⟨vs,h1,h2,fun i c hc=>by simp at hc⟩
 | _=>cases hb
def lD (inl:FuncId→Bool):Op→Bool
 | .store _ _ _=>true
 | .box _ _=>true
 | .alloc _=>true
 | .call c=>match c.callee with
  | .builtin .append=>true
  | .builtin .copy=>true
  | .value (.func f)=>inl f
  | .value (.tmp _)=>true
  | _=>false
 | _=>false
def ni (inl:FuncId→Bool)(ops:Array Oper):List Oper→List (Option Tmp×Bool)→List Bool
 | [],_=>[]
 | o::rest,acc=>
  let f:=!lD inl o.op&&(o.looksAt ops).all fun t=>acc.all fun p=>p.2||p.1 !=some t
  f::ni inl ops rest (acc++[(o.dst,f)])
section
variable {R:Type}
def gb:List V→(List V→Tree R)→Tree R
 | [],k=>k []
 | x::l,k=>gb l fun m=>k (x::m)
theorem cR:∀ (l:List V) (k:List V→Tree R),gb l k=k l
 | [],k=>rfl
 | x::l,k=>by rw [gb,cR l]
def jz (n:Nat)(k:Nat→Tree R):List Nat→Tree R
 | []=>k n
 | i::l=>if Nat.beq i n=true then k i else jz n k l
theorem ga {n:Nat}{k:Nat→Tree R}:∀ l,jz n k l=k n
 | []=>rfl
 | i::l=>by
  unfold jz
  split
  ·rename_i h;rw [Nat.eq_of_beq_eq_true h]
  ·exact ga l
def s7:List Nat:=[0,1,2,3,4,5,6,7,8,9,10,11,12,13,14,15,16,17,18,19,20,21,22,23,24,25,26,27,28,29,30,31,32,33,34,35,36,37,38,39,40,41,42,43,44,45,46,47,48,49,50,51,52,53,54,55,56,57,58,59,60,61,62,63,64,65,66,67,68,69,70,71,72,73,74,75,76,77,78,79,80,81,82,83,84,85,86,87,88,89,90,91,92,93,94,95,96,97,98,99]
def nk (x:V)(k:V→Tree R):Tree R:=match x with
 | .own i=>jz i (fun i=>k (.own i)) s7
 | .box i o=>jz i (fun i=>k (.box i o)) s7
 | x=>k x
theorem ld (x:V)(k:V→Tree R):nk x k=k x:=by
 unfold nk
 split
 ·exact ga _
 ·exact ga _
 ·rfl
def gG:List V→(List V→Tree R)→Tree R
 | [],k=>k []
 | x::l,k=>nk x fun x=>gG l fun m=>k (x::m)
theorem e9:∀ (l:List V) (k:List V→Tree R),gG l k=k l
 | [],k=>rfl
 | x::l,k=>by rw [gG,ld,e9 l]
def nj (x:V)(k:V→Tree R):Tree R:=match x with
 | .agg l=>gG l fun l=>k (.agg l)
 | .tup l=>gG l fun l=>k (.tup l)
 | x=>nk x k
theorem lc (x:V)(k:V→Tree R):nj x k=k x:=by
 unfold nj
 split
 ·rw [e9]
 ·rw [e9]
 ·exact ld _ _
def pv (e:E2)(k:E2→Tree R):Tree R:=match e with
 | .box l t=>gG l fun l=>k (.box l t)
 | e=>k e
theorem pu (e:E2)(k:E2→Tree R):pv e k=k e:=by
 unfold pv
 split
 ·rw [e9]
 ·rfl
def iK:List E2→(List E2→Tree R)→Tree R
 | [],k=>k []
 | x::l,k=>pv x fun x=>iK l fun m=>k (x::m)
theorem gH:∀ (l:List E2) (k:List E2→Tree R),iK l k=k l
 | [],k=>rfl
 | x::l,k=>by rw [iK,pu,gH l]
def iI:List V→(List V→Tree R)→Tree R
 | [],k=>k []
 | x::l,k=>nj x fun x=>iI l fun m=>k (x::m)
theorem gF:∀ (l:List V) (k:List V→Tree R),iI l k=k l
 | [],k=>rfl
 | x::l,k=>by rw [iI,lc,gF l]
def eG:List Nat→(List Nat→Tree R)→Tree R
 | [],k=>k []
 | x::l,k=>jz x (fun x=>eG l fun m=>k (x::m)) s7
theorem fa:∀ (l:List Nat) (k:List Nat→Tree R),eG l k=k l
 | [],k=>rfl
 | x::l,k=>by rw [eG,ga,fa l]
def de (st:S2)(k:S2→Tree R):Tree R:=iI st.slots fun sl=>iK st.heap fun H=>k ⟨sl,H⟩
theorem e8 (st:S2)(k:S2→Tree R):de st k=k st:=by rw [de,gF,gH]
def uB:Op→Bool
 | .move _ | .assign _ | .binOp _ _ _ _ _ | .unOp _ _ _ | .load _ _ | .fieldAddr _ _ _ | .field _ _ _ | .pick _ _ _ | .nilCheck _ | .indexAddr _ _ _ | .index _ _ _=>true
 | _=>false
def lf (o:Op)(H:List E2)(k:List E2→Tree R):Tree R:=match uB o with
 | true=>k H
 | false=>iK H k
theorem iJ (o:Op)(H:List E2)(k:List E2→Tree R):lf o H k=k H:=by
 unfold lf
 split
 ·rfl
 ·exact gH _ _
def cn (sl:List V)(d:Option Tmp)(r:V)(k:List V→Tree R):Tree R:=nj r fun r=>gb (setV sl d r) k
theorem aW (sl:List V)(d:Option Tmp)(r:V)(k:List V→Tree R):cn sl d r k=k (setV sl d r):=by rw [cn,lc,cR]
def flR (k:Nat):List Oper→List Bool→List (Nat×Oper)
 | o::l,b::fs=>if b=true then (k,o)::flR (k+1) l fs else flR (k+1) l fs
 | _,_=>[]
def clR (k:Nat):List Oper→List Bool→List (Nat×Oper)
 | o::l,b::fs=>if b=true then clR (k+1) l fs else (k,o)::clR (k+1) l fs
 | _,_=>[]
theorem gI:∀ (l:List Oper) (fs:List Bool) (k j:Nat) (o:Oper),(j,o)∈flR k l fs↔k≤j∧l[j-k]? =some o∧fs[j-k]? =some true
 | [],fs,k,j,o=>by cases fs <;> simp [flR]
 | _::_,[],k,j,o=>by simp [flR]
 | p::l,b::fs,k,j,o=>by
  have ih:=gI l fs (k+1) j o
  have key:k+1≤j∧l[j-(k+1)]? =some o∧fs[j-(k+1)]? =some true↔k<j∧(p::l)[j-k]? =some o∧(b::fs)[j-k]? =some true:=by
   constructor
   ·rintro ⟨h1,h2,h3⟩
    rw [show j-k=(j-(k+1))+1 by omega]
    exact ⟨by omega,by simpa using h2,by simpa using h3⟩
   ·rintro ⟨h1,h2,h3⟩
    rw [show j-k=(j-(k+1))+1 by omega] at h2 h3
    exact ⟨by omega,by simpa using h2,by simpa using h3⟩
  unfold flR
  cases b with
  | true=>
   simp only [if_true,uQ,ih,key]
   constructor
   ·rintro (h | ⟨h1,h2,h3⟩)
    ·injection h with h1 h2;subst h1 h2;simp
    ·exact ⟨by omega,h2,h3⟩
   ·rintro ⟨h1,h2,h3⟩
    rcases uJ k j with h | h
    ·exact .inr ⟨h,h2,h3⟩
    ·have:j=k:=by omega
     subst this
     simp at h2
     exact .inl (by rw [h2])
  | false=>
   simp only [uR,if_false,ih,key]
   constructor
   ·rintro ⟨h1,h2,h3⟩;exact ⟨by omega,h2,h3⟩
   ·rintro ⟨h1,h2,h3⟩
    rcases uJ k j with h | h
    ·exact ⟨h,h2,h3⟩
    ·have:j=k:=by omega
     subst this
     simp at h3
theorem eM:∀ (l:List Oper) (fs:List Bool) (k j:Nat) (o:Oper),(j,o)∈clR k l fs↔k≤j∧l[j-k]? =some o∧fs[j-k]? =some false
 | [],fs,k,j,o=>by cases fs <;> simp [clR]
 | _::_,[],k,j,o=>by simp [clR]
 | p::l,b::fs,k,j,o=>by
  have ih:=eM l fs (k+1) j o
  have key:k+1≤j∧l[j-(k+1)]? =some o∧fs[j-(k+1)]? =some false↔k<j∧(p::l)[j-k]? =some o∧(b::fs)[j-k]? =some false:=by
   constructor
   ·rintro ⟨h1,h2,h3⟩
    rw [show j-k=(j-(k+1))+1 by omega]
    exact ⟨by omega,by simpa using h2,by simpa using h3⟩
   ·rintro ⟨h1,h2,h3⟩
    rw [show j-k=(j-(k+1))+1 by omega] at h2 h3
    exact ⟨by omega,by simpa using h2,by simpa using h3⟩
  unfold clR
  cases b with
  | false=>
   simp only [uR,if_false,uQ,ih,key]
   constructor
   ·rintro (h | ⟨h1,h2,h3⟩)
    ·injection h with h1 h2;subst h1 h2;simp
    ·exact ⟨by omega,h2,h3⟩
   ·rintro ⟨h1,h2,h3⟩
    rcases uJ k j with h | h
    ·exact .inr ⟨h,h2,h3⟩
    ·have:j=k:=by omega
     subst this
     simp at h2
     exact .inl (by rw [h2])
  | true=>
   simp only [if_true,ih,key]
   constructor
   ·rintro ⟨h1,h2,h3⟩;exact ⟨by omega,h2,h3⟩
   ·rintro ⟨h1,h2,h3⟩
    rcases uJ k j with h | h
    ·exact ⟨h,h2,h3⟩
    ·have:j=k:=by omega
     subst this
     simp at h3
theorem hO:∀ (l:List Oper) (fs:List Bool) (k:Nat),(flR k l fs).Pairwise fun p q=>p.1<q.1
 | [],fs,k=>by cases fs <;> simp [flR]
 | _::_,[],k=>by simp [flR]
 | p::l,b::fs,k=>by
  unfold flR
  split
  ·exact uS.2 ⟨fun q hq=>by have:=(gI l fs (k+1) q.1 q.2).1 hq;show k<q.1;omega,hO l fs (k+1)⟩
  ·exact hO l fs (k+1)
theorem hP:∀ (l:List Oper) (fs:List Bool) (k:Nat),(clR k l fs).Pairwise fun p q=>p.1<q.1
 | [],fs,k=>by cases fs <;> simp [clR]
 | _::_,[],k=>by simp [clR]
 | p::l,b::fs,k=>by
  unfold clR
  split
  ·exact hP l fs (k+1)
  ·exact uS.2 ⟨fun q hq=>by have:=(eM l fs (k+1) q.1 q.2).1 hq;show k<q.1;omega,hP l fs (k+1)⟩
def ud (ops:Array Oper)(cl:List (Nat×Oper))(j:Nat):Bool:=match cl with
 | []=>true
 | (c,_)::_=>ancB ops ops.size c j
def p9 (ρ:Operand→V)(o:Op):Bool:=o.operands.all fun x=>p8 (ρ x)
def rV (cl:List (Nat×Oper))(p:Nat×Oper):Bool:=match p.2.op with
 | .alloc _=>true
 | .store _ (.tmp t) _=>cl.any fun q=>q.2.dst==some t&&(match q.2.op with | .alloc _=>true | _=>false)
 | .call ⟨.builtin .append,⟨[s,_]⟩,⟨[t,t']⟩⟩=>t==t'&&(match s with
  | .const (.slice none 0 0)=>true
  | .tmp x=>cl.any fun q=>q.2.dst==some x&&(match q.2.op with | .call ⟨.builtin .append,_,_⟩=>true | _=>false)
  | _=>false)
 | .move _=>true
 | .assign _=>true
 | _=>false
def qU (cl:List (Nat×Oper)):Bool:=cl.all fun p=>rV cl p
def fg:E2→E2
 | .box l T=>if l.all immV=true then .box l T else .dead
 | .own d l E=>.own d l E
 | _=>.dead
def lowV (n:Nat):V→Bool
 | .box id _=>decide (id<n)
 | .boxi id _ _ _ _ _=>decide (id<n)
 | .own id=>decide (id<n)
 | .oadr id _ _ _=>decide (id<n)
 | x=>p8 x
def rY (n:Nat)(ρ:Operand→V)(o:Op):Bool:=o.operands.all fun x=>lowV n (ρ x)
def t7:V→Bool
 | .own _=>false
 | _=>true
def pe (n:Nat)(H:List E2)(ρ:Operand→V)(o:Op):Bool:=n==0||(decide (n≤H.length)&&match o with
 | .alloc _=>true
 | .store _ a _=>(match ρ a with | .box id _=>decide (n≤id) | .boxi id _ _ _ _ _=>decide (n≤id) | _=>false)
 | .call ⟨.builtin .append,⟨[s,x]⟩,⟨[t,t']⟩⟩=>(t7 (ρ x)&&t==t')&&(match ρ s with | .c (.slice none 0 0)=>true | .own id=>decide (n≤id) | _=>false)
 | .move _=>true
 | .assign _=>true
 | _=>false)
def em (n:Nat)(H H':List E2):Prop:=∀ i,i<n→H'[i]? =H[i]?
open Classical in
theorem mN {P:Program}{n:Nat}{H:List E2}{t:TypeId}{a x:V}{k:V→List E2→Tree R}{hl:n≤H.length}(h:(match a with | .c (.slice none 0 0)=>true | .own id=>decide (n≤id) | _=>false)=true):
  eR P H t a x k=eR P H t a x fun r H'=>if em n H H' then k r H' else .fail:=by
 unfold eR
 cases cX P t with
 | none=>rfl
 | some e=>
  dsimp only
  cases rowI P e with
  | none=>rfl
  | some wb=>
   obtain ⟨w,by_⟩:=wb
   dsimp only
   cases nH P e x with
   | none=>rfl
   | some dm=>
    obtain ⟨d,m⟩:=dm
    dsimp only
    split at h
    ·have hp:∀ e,em n H (H++[e]):=fun e i hi=>by rw [List.getElem?_append_left (by omega)]
     simp only [hp,if_true]
    ·rename_i id
     have hid:n≤id:=by simpa using h
     have hp:∀ e e',em n H (H.set id e++[e']):=fun e e' i hi=>by rw [List.getElem?_append_left (by rw [List.length_set];omega),List.getElem?_set_ne (by omega)]
     simp only [hp,if_true]
    ·cases h
open Classical in
theorem q7 {P:Program}{F:Fns R}{mv:Bool×Bool}{n:Nat}{H:List E2}{ρ:Operand→V}(x:Operand)(k:V→List E2→Tree R):evS2 P F mv H ρ (.move x) k=evS2 P F mv H ρ (.move x) fun r H'=>if em n H H' then k r H' else .fail:=by
 have hp:em n H H:=fun i hi=>rfl
 have e0:∀ k:V→List E2→Tree R,evS2 P F mv H ρ (.move x) k=evNF P F H ρ (.move x) fun r=>k r H:=fun k=>rfl
 rw [e0,e0]
 simp only [hp,if_true]
open Classical in
theorem oy {P:Program}{F:Fns R}{mv:Bool×Bool}{n:Nat}{H:List E2}{ρ:Operand→V}(x:Operand)(k:V→List E2→Tree R):evS2 P F mv H ρ (.assign x) k=evS2 P F mv H ρ (.assign x) fun r H'=>if em n H H' then k r H' else .fail:=by
 have hp:em n H H:=fun i hi=>rfl
 have e0:∀ k:V→List E2→Tree R,evS2 P F mv H ρ (.assign x) k=evNF P F H ρ (.assign x) fun r=>k r H:=fun k=>rfl
 rw [e0,e0]
 simp only [hp,if_true]
open Classical in
theorem gf {P:Program}{F:Fns R}{mv:Bool×Bool}{n:Nat}{H:List E2}{ρ:Operand→V}{o:Op}{k:V→List E2→Tree R}(h:pe n H ρ o=true):
  evS2 P F mv H ρ o k=evS2 P F mv H ρ o fun r H'=>if em n H H' then k r H' else .fail:=by
 unfold pe at h
 rcases vl n with rfl | hn
 ·have:(fun r H'=>if em 0 H H' then k r H' else .fail)=k:=by
   funext r H'
   rw [if_pos (show em 0 H H' from fun i hi=>absurd hi (Nat.not_lt_zero i))]
  rw [this]
 ·have hz:(n==0)=false:=by simp;omega
  rw [hz,Bool.false_or,ge,decide_eq_true_eq] at h
  obtain ⟨hl,h⟩:=h
  split at h
  ·have hp:∀ e,em n H (H++[e]):=fun e i hi=>by rw [List.getElem?_append_left (by omega)]
   simp only [evS2,evW2,nF]
   cases qI P _ with
   | none=>rfl
   | some v=>simp only [hp,if_true]
  ·rename_i t a x
   have hp:∀ id e,n≤id→em n H (H.set id e):=fun id e hid i hi=>by rw [List.getElem?_set_ne (by omega)]
   simp only [evS2,evW2,kA]
   split at h
   ·rename_i id off he
    have hid:n≤id:=by simpa using h
    simp only [he,hp _ _ hid,if_true]
   ·rename_i id off d m i oo he
    have hid:n≤id:=by simpa using h
    simp only [he,hp _ _ hid,if_true]
   ·cases h
  ·rename_i x y t t'
   simp only [ge,beq_iff_eq] at h
   obtain ⟨⟨_,rfl⟩,h⟩:=h
   have e0:∀ k:V→List E2→Tree R,evS2 P F mv H ρ (.call ⟨.builtin .append,⟨[x,y]⟩,⟨[t,t]⟩⟩) k=if kN ρ (.call ⟨.builtin .append,⟨[x,y]⟩,⟨[t,t]⟩⟩)=true then eR P H t (ρ x) (ρ y) k else .fail:=fun k=>by simp only [evS2,evW2,if_true]
   rw [e0,e0,mN (hl:=hl) h]
  ·exact q7 _ k
  ·exact oy _ k
  ·cases h
open Classical in
theorem pH {P:Program}{Γ:Env R}{C:fw R}{mv:Bool×Bool}{n:Nat}{H:List E2}{sl:List V}{o:Op}{k:V→List E2→Tree R}(h:pe n H (opV sl) o=true):
  evI P Γ C mv ⟨sl,H⟩ o k=evI P Γ C mv ⟨sl,H⟩ o fun r H'=>if em n H H' then k r H' else .fail:=by
 rcases vl n with rfl | hn
 ·have:(fun r H'=>if em 0 H H' then k r H' else .fail)=k:=by
   funext r H'
   rw [if_pos (show em 0 H H' from fun i hi=>absurd hi (Nat.not_lt_zero i))]
  rw [this]
 ·have h':=h
  unfold pe at h'
  have hz:(n==0)=false:=by simp;omega
  rw [hz,Bool.false_or,ge,decide_eq_true_eq] at h'
  obtain ⟨hl,h'⟩:=h'
  split at h'
  ·exact gf (F:=Γ.fns) (mv:=mv) h
  ·exact gf (F:=Γ.fns) (mv:=mv) h
  ·rename_i x y t t'
   simp only [ge] at h'
   have hno:=h'.1.1
   have e0:∀ k:V→List E2→Tree R,evI P Γ C mv ⟨sl,H⟩ (.call ⟨.builtin .append,⟨[x,y]⟩,⟨[t,t']⟩⟩) k=evS2 P Γ.fns mv H (opV sl) (.call ⟨.builtin .append,⟨[x,y]⟩,⟨[t,t']⟩⟩) k:=fun k=>by
    simp only [evI]
    split
    ·rename_i i hi
     rw [hi] at hno
     cases hno
    ·rfl
   rw [e0,e0]
   exact gf (F:=Γ.fns) (mv:=mv) h
  ·exact gf (P:=P) (F:=Γ.fns) (mv:=mv) h
  ·exact gf (P:=P) (F:=Γ.fns) (mv:=mv) h
  ·cases h'
def lowW (U:List Nat)(n:Nat)(H H':List E2):Prop:=(n≤H.length→n≤H'.length)∧∀ i,i<n→U.contains i=false→H'[i]? =H[i]?
def Fr (T:List Nat)(H H':List E2):Prop:=H.length≤H'.length∧∀ i,i<H.length→T.contains i=false→H'[i]? =H[i]?
theorem em.toW {U:List Nat}{n:Nat}{H H':List E2}(h:em n H H'):lowW U n H H':=⟨fun hl=>by
 rcases vl n with rfl | hn
 ·exact Nat.zero_le _
 ·have h1:=h (n-1) (by omega)
  rw [List.getElem?_eq_getElem (show n-1<H.length by omega)] at h1
  have:=(List.getElem?_eq_some_iff.1 h1).1
  omega,fun i hi _=>h i hi⟩
def tcOf (Γ:Env R):FuncId→List V→List E2→Option (List Nat):=fun f args H=>if Γ.inl f=true∧(Γ.cln f).isNone=true∧(Γ.mth f).isSome=true then some (Γ.mtv f args H) else none
def s0 (tc:FuncId→List V→List E2→Option (List Nat))(U:List Nat)(n:Nat)(H:List E2)(ρ:Operand→V)(o:Op):Bool:=pe n H ρ o||(decide (n≤H.length)&&match o with
 | .call ⟨.value (.func f),args,_⟩=>(match tc f (args.toList.map ρ) H with | some T=>T.all (fun i=>U.contains i||decide (n≤i)) | none=>false)
 | .binOp _ _ _ _ _=>true
 | .unOp _ _ _=>true
 | .load _ _=>true
 | .fieldAddr _ _ _=>true
 | .indexAddr _ _ _=>true
 | .pick _ _ _=>true
 | .call ⟨.builtin .len,⟨[_]⟩,_⟩=>true
 | _=>false)
open Classical in
theorem ed {P:Program}{Γ:Env R}{C:fw R}{mv:Bool×Bool}{U:List Nat}{n:Nat}{H:List E2}{sl:List V}{o:Op}{k:V→List E2→Tree R}(e0:∀ k:V→List E2→Tree R,evI P Γ C mv ⟨sl,H⟩ o k=evI P Γ C mv ⟨sl,H⟩ o fun r _=>k r H):
  evI P Γ C mv ⟨sl,H⟩ o k=evI P Γ C mv ⟨sl,H⟩ o fun r H'=>if lowW U n H H' then k r H' else .fail:=by
 have hp:lowW U n H H:=⟨fun h=>h,fun _ _ _=>rfl⟩
 rw [e0 k,e0 fun r H'=>if lowW U n H H' then k r H' else .fail]
 simp only [hp,if_true]
open Classical in
theorem ru {P:Program}{Γ:Env R}{C:fw R}(hM:∀ f args H k T,tcOf Γ f args H=some T→C f args H k=C f args H fun r H'=>if Fr T H H' then k r H' else .fail){mv:Bool×Bool}{U:List Nat}{n:Nat}{H:List E2}{sl:List V}{o:Op}{k:V→List E2→Tree R}(h:s0 (tcOf Γ) U n H (opV sl) o=true):
  evI P Γ C mv ⟨sl,H⟩ o k=evI P Γ C mv ⟨sl,H⟩ o fun r H'=>if lowW U n H H' then k r H' else .fail:=by
 unfold s0 at h
 rcases u9 _ _▸h with h | h
 ·rw [pH h,pH (k:=fun r H'=>if lowW U n H H' then k r H' else .fail) h]
  congr 1
  funext r H'
  by_cases hl:em n H H'
  ·rw [if_pos hl,if_pos hl,if_pos (hl.toW)]
  ·rw [if_neg hl,if_neg hl]
 ·rw [ge,decide_eq_true_eq] at h
  obtain ⟨hn,h⟩:=h
  split at h
  ·rename_i f args ts hx
   split at h
   ·rename_i T hT
    have hi:Γ.inl f=true:=by
     unfold tcOf at hT
     split at hT
     ·rename_i hc;exact hc.1
     ·cases hT
    have e0:∀ k:V→List E2→Tree R,evI P Γ C mv ⟨sl,H⟩ (.call ⟨.value (.func f),args,ts⟩) k=C f (args.toList.map (opV sl)) H k:=fun k=>by
     simp only [evI,hi,if_true]
    rw [e0,e0,hM _ _ _ k _ hT,hM _ _ _ (fun r H'=>if lowW U n H H' then k r H' else .fail) _ hT]
    congr 1
    funext r H'
    by_cases hf:Fr T H H'
    ·rw [if_pos hf,if_pos hf,if_pos ⟨fun _=>Nat.le_trans hn hf.1,fun i hi hv=>hf.2 i (by omega) (by
      cases hc:T.contains i with
      | false=>rfl
      | true=>
       have h1:=uN.1 h i (by simpa using hc)
       rw [hv,Bool.false_or,decide_eq_true_eq] at h1
       omega)⟩]
    ·rw [if_neg hf,if_neg hf]
   ·cases h
  ·exact ed (fun k=>rfl)
  ·exact ed (fun k=>rfl)
  ·exact ed (fun k=>rfl)
  ·exact ed (fun k=>rfl)
  ·exact ed (fun k=>rfl)
  ·exact ed (fun k=>rfl)
  ·exact ed (fun k=>rfl)
  ·cases h
def fE (W:List Nat):Nat→List E2→List E2
 | _,[]=>[]
 | i,e::H=>(if W.contains i=true then .dead else e)::fE W (i+1) H
theorem fY (W:List Nat):∀ (H:List E2) (k i:Nat),(fE W k H)[i]? =(H[i]?).map fun e=>if W.contains (k+i)=true then .dead else e
 | [],k,i=>by simp [fE]
 | e::H,k,0=>by simp [fE]
 | e::H,k,i+1=>by
  rw [fE,List.getElem?_cons_succ,fY W H (k+1) i,List.getElem?_cons_succ]
  rw [show k+1+i=k+(i+1) by omega]
theorem dr (W:List Nat):∀ (H:List E2) (k:Nat),(fE W k H).length=H.length
 | [],k=>rfl
 | e::H,k=>by rw [fE,vg,dr W H,vg]
def p7 (sl:List V)(ops:List Oper):Nat→Operand→Option Nat
 | 0,_=>none
 | n+1,a=>(match opV sl a with
  | .box id _=>some id
  | .boxi id _ _ _ _ _=>some id
  | _=>(match a with
   | .tmp t=>(match ops.find? (fun o=>o.dst==some t) with
    | some o=>(match o.op with
     | .fieldAddr _ x _=>p7 sl ops n x
     | .indexAddr _ x _=>p7 sl ops n x
     | .move x=>p7 sl ops n x
     | _=>none)
    | none=>none)
   | _=>none))
def tP (ops:List Oper)(sl:List V):List (Nat×Oper)→Option (List Nat)
 | []=>some []
 | (_,o)::l=>match o.op with
  | .store _ a _=>(match p7 sl ops 6 a,tP ops sl l with
   | some id,some W=>some (id::W)
   | _,_=>none)
  | _=>none
abbrev WS:=Option (List Nat)×Nat×List Nat
def lowS (ops:List Oper)(sl:List V)(cl:List (Nat×Oper)):List (Nat×Oper)→Nat→Option Nat
 | [],n=>some n
 | p::l,n=>match p.2.op with
  | .store _ (.tmp t) _=>if (cl.any fun q=>q.2.dst==some t&&(match q.2.op with | .alloc _=>true | _=>false))=true then lowS ops sl cl l n else (match p7 sl ops 6 (.tmp t) with | some id=>lowS ops sl cl l (min n id) | none=>none)
  | _=>if rV cl p=true then lowS ops sl cl l n else none
def resO (ops:List Oper)(sl:List V):Nat→Operand→V
 | 0,a=>opV sl a
 | n+1,a=>match a with
  | .tmp t=>(match ops.find? (fun o=>o.dst==some t) with
   | some o=>(match o.op with
    | .move x=>resO ops sl n x
    | _=>.any)
   | none=>opV sl a)
  | a=>opV sl a
def ui:Op→Bool
 | .load _ _=>true
 | _=>false
def mthS (tc:FuncId→List V→List E2→Option (List Nat))(ops:List Oper)(sl:List V)(H:List E2):List (Nat×Oper)→List Nat
 | []=>[]
 | p::l=>match p.2.op with
  | .call ⟨.value (.func f),args,_⟩=>(match tc f (args.toList.map (resO ops sl 6)) H with | some T=>T++mthS tc ops sl H l | none=>mthS tc ops sl H l)
  | _=>mthS tc ops sl H l
def isM (tc:FuncId→List V→List E2→Option (List Nat))(p:Nat×Oper):Bool:=match p.2.op with
 | .call ⟨.value (.func f),_,_⟩=>(tc f [] []).isSome
 | _=>false
def tZ:Op→Bool
 | .store _ _ _=>false
 | .box _ _=>false
 | .alloc _=>false
 | .call c=>(match c.callee with
  | .builtin .len=>true
  | _=>false)
 | _=>true
def wrS (tc:FuncId→List V→List E2→Option (List Nat))(ops:List Oper)(sl:List V)(cl:List (Nat×Oper))(H:List E2):WS:=match tP ops sl cl with
 | some W=>(some W,if qU cl=true then H.length else 0,[])
 | none=>if cl.any (isM tc)=true∧cl.any (fun p=>ui p.2.op)=true∧cl.all (fun p=>isM tc p||tZ p.2.op)=true then (none,H.length,mthS tc ops sl H cl) else (none,if qU cl=true then H.length else (lowS ops sl cl cl H.length).getD 0,[])
theorem jY (ops:List Oper)(sl:List V)(cl:List (Nat×Oper)):∀ (l:List (Nat×Oper)) (n r:Nat),lowS ops sl cl l n=some r→r≤n
 | [],n,r,h=>by unfold lowS at h;injection h with h;omega
 | p::l,n,r,h=>by
  unfold lowS at h
  split at h
  ·split at h
   ·exact jY ops sl cl l n r h
   ·split at h
    ·have:=jY ops sl cl l _ r h
     omega
    ·cases h
  ·split at h
   ·exact jY ops sl cl l n r h
   ·cases h
theorem tO (tc:FuncId→List V→List E2→Option (List Nat))(ops:List Oper)(sl:List V)(cl:List (Nat×Oper))(H:List E2):(wrS tc ops sl cl H).2.1≤H.length:=by
 unfold wrS
 split
 ·show (if qU cl=true then H.length else 0)≤H.length
  split <;> omega
 ·split
  ·exact uV _
  ·show (if qU cl=true then H.length else (lowS ops sl cl cl H.length).getD 0)≤H.length
   split
   ·exact uV _
   ·cases h:lowS ops sl cl cl H.length with
    | none=>exact Nat.zero_le _
    | some r=>exact jY ops sl cl cl H.length r h
def sZ (W:WS)(ρ:Operand→V)(o:Op):Bool:=match W.1 with
 | none=>true
 | some W=>(match o with
  | .store _ a _=>(match ρ a with | .box id _=>W.contains id | .boxi id _ _ _ _ _=>W.contains id | _=>false)
  | _=>false)
def uC (W:List Nat)(H H':List E2):Prop:=H'.length=H.length∧∀ i,W.contains i=false→H'[i]? =H[i]?
def offW (W:WS)(H H':List E2):Prop:=∀ W',W.1=some W'→uC W' H H'
open Classical in
theorem te {P:Program}{Γ:Env R}{C:fw R}{mv:Bool×Bool}{W:WS}{H:List E2}{sl:List V}{o:Op}{k:V→List E2→Tree R}(h:sZ W (opV sl) o=true):
  evI P Γ C mv ⟨sl,H⟩ o k=evI P Γ C mv ⟨sl,H⟩ o fun r H'=>if offW W H H' then k r H' else .fail:=by
 obtain ⟨W,n2⟩:=W
 cases W with
 | none=>
  have:(fun r H'=>if offW (none,n2) H H' then k r H' else .fail)=k:=by
   funext r H'
   rw [if_pos (show offW (none,n2) H H' from fun W' h=>by cases h)]
  rw [this]
 | some W=>
  unfold sZ at h
  simp only at h
  split at h
  ·rename_i t a x
   have hp:∀ id e,W.contains id=true→offW (some W,n2) H (H.set id e):=fun id e hid W' hW=>by
    injection hW with hW
    subst hW
    refine ⟨by simp,fun i hi=> ?_⟩
    have hne:id≠i:=fun e=>by subst e;rw [hid] at hi;cases hi
    rw [List.getElem?_set_ne hne]
   show evS2 P Γ.fns mv H (opV sl) (.store t a x) k=evS2 P Γ.fns mv H (opV sl) (.store t a x) _
   simp only [evS2,evW2,kA]
   split at h
   ·rename_i id off he
    simp only [he,hp _ _ h,if_true]
   ·rename_i id off d m i oo he
    simp only [he,hp _ _ h,if_true]
   ·cases h
  ·cases h
def rS (ρ:Operand→V):Op→Bool
 | .fieldAddr _ _ _=>true
 | .nilCheck _=>true
 | .move _=>true
 | .assign _=>true
 | .slice _ x none none none=>(match ρ x with | .box _ 0=>true | _=>false)
 | .indexAddr _ x _=>(match ρ x with | .box _ _=>true | _=>false)
 | .extract _ _=>true
 | _=>false
theorem lh {P:Program}{ρ:Operand→V}{o:Oper}{x:Operand}{i:Nat}{k:V→Tree R}{res:R}(hp:aZ ρ o)(ho:o.op= .extract x i)(h:(gd (ρ x) i k).run=some res):∃ r,(k r).run=some res∧∀ H':List E2,Does P H' ρ o r:=by
 unfold gd at h
 split at h
 ·rename_i l hx
  have key:∀ r,l[i]? =some r→ex0 r=ex r→r.plain=true→(∀ l k,ex r≠.fresh l k)→∀ H':List E2,Does P H' ρ o r:=fun r hr h0 h1 h2 H' n0 Bx w B η ρv inv he=>
   .of h1 h2 (jB (ρA:=fun y=>ex (ρ y)) (aV hp he) ho (l:=l.map ex0) (by simp only [hx];rfl) (by rw [List.getElem?_map,hr,uY,h0]))
  split at h
  all_goals first | cases h | (rename_i hr;exact ⟨_,h,key _ hr rfl rfl (fun _ _ h=>by simp [ex,ex0] at h)⟩)
 ·cases h
theorem ji {P:Program}{H:List E2}{ρ:Operand→V}{o:Oper}{t:TypeId}{x i:Operand}{k:V→Tree R}{res:R}{id off:Nat}(hp:aZ ρ o)(ho:o.op= .indexAddr t x i)(hx:ρ x= .box id off)(h:(dP P H t (ρ x) (ρ i) k).run=some res):∃ r,(k r).run=some res∧∀ H',Does P H' ρ o r:=by
 unfold dP at h
 split at h
 ·rw [hx] at h
  simp only [dV] at h
  cases h
 ·rename_i m e kk z hnoel hat hi
  rw [hx] at h
  split at h
  ·cases h
  ·rename_i hc
   simp only at h
   split at h
   ·rename_i l T' hH
    split at h
    ·rename_i d n a rr hs
     split at h
     ·rename_i hwd
      rcases u4 h with ⟨hb,h⟩ | ⟨_,h⟩
      ·have hz:=of_decide_eq_true hb
       exact ⟨_,h,fun H' n0 Bx w B η ρv inv he=>.of rfl (fun _ _ h=>by simp [ex,ex0] at h) (bC (ρA:=fun y=>ex (ρ y)) (aV hp he) ho (bb hat) (by simp only [hi];rfl) hz hc (by simp [hx,ex,ex0,cJ,hwd.1]))⟩
      ·cases h
     ·cases h
    ·split at h
     ·obtain ⟨j,hj,hz,h⟩:=fe h
      exact ⟨_,h,fun H' n0 Bx w B η ρv inv he=>.of rfl (fun _ _ h=>by simp [ex,ex0] at h) (bC (ρA:=fun y=>ex (ρ y)) (aV hp he) ho (bb hat) (z:=z) (by simp only [hi];rfl) (by omega) hc (by simp [hx,hz,ex,ex0,cJ]))⟩
     rcases u4 h with ⟨hb,h⟩ | ⟨_,h⟩
     ·have hz:=of_decide_eq_true hb
      exact ⟨_,h,fun H' n0 Bx w B η ρv inv he=>.of rfl (fun _ _ h=>by simp [ex,ex0] at h) (bC (ρA:=fun y=>ex (ρ y)) (aV hp he) ho (bb hat) (by simp only [hi];rfl) hz hc (by simp [hx,ex,ex0,cJ]))⟩
     ·cases h
   ·cases h
 ·cases h
def evFr (P:Program)(F:Fns R)(ops:Array Oper)(cl:List (Nat×Oper))(W:WS)(H:List E2):List (Nat×Oper)→List V→(List V→Tree R)→Tree R
 | [],sl,k=>k sl
 | (j,o)::rest,sl,k=>lE ops sl o
  (fun sl=>if ud ops cl j=true then evNF P F H (opV sl) o.op fun r=>cn sl o.dst r fun sl'=>evFr P F ops cl W H rest sl' k
   else if p9 (opV sl) o.op=true then evNF P F [] (opV sl) o.op fun r=>cn sl o.dst r fun sl'=>evFr P F ops cl W H rest sl' k
   else if rS (opV sl) o.op=true then evNF P F H (opV sl) o.op fun r=>cn sl o.dst r fun sl'=>evFr P F ops cl W H rest sl' k
   else if W.2.1≤H.length∧rY W.2.1 (opV sl) o.op=true then evNF P F ((fE W.2.2 0 (H.take W.2.1)).map fg) (opV sl) o.op fun r=>cn sl o.dst r fun sl'=>evFr P F ops cl W H rest sl' k
   else match W.1 with
    | some W'=>evNF P F (fE W' 0 H) (opV sl) o.op fun r=>cn sl o.dst r fun sl'=>evFr P F ops cl W H rest sl' k
    | none=>.fail)
  (fun sl=>cn sl o.dst (.c undef) fun sl'=>evFr P F ops cl W H rest sl' k)
def eO (ops:Array Oper):List (Nat×Oper)→Bool
 | c::c'::r=>ancB ops ops.size c'.1 c.1&&eO ops (c'::r)
 | _=>true
def wfOf (inl:FuncId→Bool)(ops:Array Oper)(cl:List (Nat×Oper)):Oper→Bool:=if eO ops cl=true then fun _=>true else fun o=>lD inl o.op
def jj (P:Program)(Γ:Env R)(C:fw R)(mv:Bool×Bool)(ops:Array Oper)(wf:Oper→Bool)(n:Nat)(W:WS):List (Nat×Oper)→S2→(S2→Tree R)→Tree R
 | [],st,k=>k st
 | (j,o)::rest,st,k=>lE ops st.slots o
  (fun sl=>if wf o=true then (match clnE Γ (opV sl) o.op with
   | some (e,args)=>if n≤st.heap.length∧W.1.isNone=true then gj st.heap e args fun r H'=>lf o.op H' fun H'=>cn sl o.dst r fun sl'=>jj P Γ C mv ops wf n W rest ⟨sl',H'⟩ k else .fail
   | none=>if s0 (tcOf Γ) W.2.2 n st.heap (opV sl) o.op=true∧sZ W (opV sl) o.op=true then evI P Γ C mv ⟨sl,st.heap⟩ o.op fun r H'=>lf o.op H' fun H'=>cn sl o.dst r fun sl'=>jj P Γ C mv ops wf n W rest ⟨sl',H'⟩ k else .fail)
   else if p9 (opV sl) o.op=true then evNF P Γ.fns [] (opV sl) o.op fun r=>cn sl o.dst r fun sl'=>jj P Γ C mv ops wf n W rest ⟨sl',st.heap⟩ k
   else if rS (opV sl) o.op=true then evNF P Γ.fns st.heap (opV sl) o.op fun r=>cn sl o.dst r fun sl'=>jj P Γ C mv ops wf n W rest ⟨sl',st.heap⟩ k
   else if n≤st.heap.length∧rY n (opV sl) o.op=true then evNF P Γ.fns ((fE W.2.2 0 (st.heap.take n)).map fg) (opV sl) o.op fun r=>cn sl o.dst r fun sl'=>jj P Γ C mv ops wf n W rest ⟨sl',st.heap⟩ k else .fail)
  (fun sl=>cn sl o.dst (.c undef) fun sl'=>jj P Γ C mv ops wf n W rest ⟨sl',st.heap⟩ k)
def evCh (P:Program)(Γ:Env R)(C:fw R)(mv:Bool×Bool)(ops:Array Oper)(W:WS)(l:List (Nat×Oper))(st:S2)(k:S2→Tree R):Tree R:=match eO ops l with
 | true=>jj P Γ C mv ops (fun _=>true) W.2.1 W l st k
 | false=>jj P Γ C mv ops (fun o=>lD Γ.inl o.op) W.2.1 W l st k
def Wt (ops:Array Oper)(o:Oper)(sl:List V)(b:Bool):Prop:=∀ (w:World) (B:List Nat) (η:List Value) (tmps:Array Value),sl.length=tmps.size→(∀ d,dc ops o=some d→Rel2 w B η (sl.getD d .any) (tmps.getD d undef))→uT o (yielded ops tmps)=b
def OpsN (P:Program)(H:List E2)(o:Oper)(sl:List V)(r:V):Prop:=∀ (n0:Nat) (Bx:List Nat) (w:World) (B:List Nat) (η:List Value) (ρv:Operand→Value),(∀ f,ρv (.func f)= .func (.func f) #[] #[])→Inv n0 Bx w B η (H.map exE)→(∀ x∈o.op.operands,Rel2 w B η (opV sl x) (ρv x)∧au n0 (ex (opV sl x)) (ρv x))→OpK P n0 w ρv o B η r
def OpsC (P:Program)(H:List E2)(o:Oper)(sl:List V)(r:V)(H':List E2):Prop:=∀ (n0:Nat) (Bx:List Nat) (w:World) (B:List Nat) (η:List Value) (ρv:Operand→Value),(∀ f,ρv (.func f)= .func (.func f) #[] #[])→Inv n0 Bx w B η (H.map exE)→(∀ x∈o.op.operands,Rel2 w B η (opV sl x) (ρv x)∧au n0 (ex (opV sl x)) (ρv x))→OpS2 P n0 Bx w ρv o B η r H'
def T1 (P:Program)(ops:Array Oper)(cl:List (Nat×Oper))(W:WS)(H:List E2):List (Nat×Oper)→List V→List V→Prop
 | [],sl,sl'=>sl'=sl
 | (j,o)::rest,sl,sl'=>∃ b r,Wt ops o sl b∧(b=true→(ud ops cl j=true∧OpsN P H o sl r)∨((∀ x∈o.op.operands,p8 (opV sl x)=true)∧OpsN P [] o sl r)∨(∀ H',OpsN P H' o sl r)∨(W.2.1≤H.length∧(∀ x∈o.op.operands,lowV W.2.1 (opV sl x)=true)∧OpsN P ((fE W.2.2 0 (H.take W.2.1)).map fg) o sl r)∨(∃ W',W.1=some W'∧OpsN P (fE W' 0 H) o sl r))∧(b=false→r= .c undef)∧T1 P ops cl W H rest (setV sl o.dst r) sl'
def T2 (P:Program)(ops:Array Oper)(wf:Oper→Bool)(n:Nat)(W:WS):List (Nat×Oper)→S2→S2→Prop
 | [],st,st'=>st'=st
 | (j,o)::rest,st,st'=>∃ b r H',Wt ops o st.slots b∧(b=true→wf o=true→OpsC P st.heap o st.slots r H')∧(b=false→r= .c undef∧H'=st.heap)∧((lowW W.2.2 n st.heap H'∧offW W st.heap H')∧(wf o=false→H'=st.heap∧(b=true→((∀ x∈o.op.operands,p8 (opV st.slots x)=true)∧OpsN P [] o st.slots r)∨(∀ H1,OpsN P H1 o st.slots r)∨(n≤st.heap.length∧(∀ x∈o.op.operands,lowV n (opV st.slots x)=true)∧OpsN P ((fE W.2.2 0 (st.heap.take n)).map fg) o st.slots r))))∧T2 P ops wf n W rest ⟨setV st.slots o.dst r,H'⟩ st'
theorem qj {P:Program}{F:Fns R}{H:List E2}{sl:List V}{o:Oper}{k:V→Tree R}{res:R}(ha:rS (opV sl) o.op=true)(h:(evNF P F H (opV sl) o.op k).run=some res):∃ r,(k r).run=some res∧∀ H',OpsN P H' o sl r:=by
 obtain ⟨op,ho⟩:∃ op,o.op=op:=⟨_,rfl⟩
 rw [ho] at ha h
 unfold rS at ha
 split at ha
 ·rename_i s x f
  unfold evNF evN at h
  simp only at h
  split at h
  ·rename_i hpl
   unfold evN1 at h
   simp only at h
   obtain ⟨r,h1,h2⟩:=fz (o:=o) (fun y hy=>by rw [ho] at hy;exact uP.1 hpl y hy) ho h
   exact ⟨r,h1,fun H' n0 Bx w B η ρv _ inv he=>h2 H' n0 Bx w B η ρv inv he⟩
  ·cases h
 ·rename_i x
  unfold evNF evN at h
  simp only at h
  split at h
  ·rename_i hpl
   unfold evN1 at h
   simp only at h
   obtain ⟨r,h1,h2⟩:=fW (P:=P) (o:=o) (fun y hy=>by rw [ho] at hy;exact uP.1 hpl y hy) ho h
   exact ⟨r,h1,fun H' n0 Bx w B η ρv _ inv he=>h2 H' n0 Bx w B η ρv inv he⟩
  ·cases h
 ·rename_i x
  unfold evNF evN at h
  simp only at h
  exact ⟨_,h,fun H' n0 Bx w B η ρv _ inv he=>gh (x:=x) (fun w ρv=>by simp [execOp,ho]) (by simp [ho,vd]) rfl n0 Bx w B η ρv inv he⟩
 ·rename_i x
  unfold evNF evN at h
  simp only at h
  exact ⟨_,h,fun H' n0 Bx w B η ρv _ inv he=>gh (x:=x) (fun w ρv=>by simp [execOp,ho]) (by simp [ho,vd]) rfl n0 Bx w B η ρv inv he⟩
 ·rename_i t x
  split at ha
  ·rename_i id hx
   unfold evNF evN at h
   simp only at h
   split at h
   ·rename_i hpl
    have hp:aZ (opV sl) o:=fun y hy=>by rw [ho] at hy;exact uP.1 hpl y hy
    unfold evN1 at h
    simp only [hx] at h
    split at h
    ·rename_i m e hat
     unfold fO at h
     simp only at h
     split at h
     ·rename_i hc
      exact ⟨_,h,fun H' n0 Bx w B η ρv _ inv he=>hZ hp ho (bb hat) hx hc H' n0 Bx w B η ρv inv he⟩
     ·cases h
    ·rename_i hs
     cases hs
    ·unfold mS at h
     split at h
     ·simp only [dV] at h
      cases h
     ·cases h
   ·cases h
  ·cases ha
 ·rename_i t x i
  split at ha
  ·rename_i id off hx
   unfold evNF evN at h
   simp only at h
   split at h
   ·rename_i hpl
    have hp:aZ (opV sl) o:=fun y hy=>by rw [ho] at hy;exact uP.1 hpl y hy
    unfold evN1 at h
    simp only at h
    obtain ⟨r,h1,h2⟩:=ji (o:=o) hp ho hx h
    exact ⟨r,h1,fun H' n0 Bx w B η ρv _ inv he=>h2 H' n0 Bx w B η ρv inv he⟩
   ·simp only [bsiK,hx] at h;cases h
  ·cases ha
 ·rename_i x i
  unfold evNF evN at h
  simp only at h
  split at h
  ·rename_i hpl
   unfold evN1 at h
   simp only at h
   obtain ⟨r,h1,h2⟩:=lh (o:=o) (fun y hy=>by rw [ho] at hy;exact uP.1 hpl y hy) ho h
   exact ⟨r,h1,fun H' n0 Bx w B η ρv _ inv he=>h2 H' n0 Bx w B η ρv inv he⟩
  ·cases h
 ·cases ha
theorem fG {P:Program}{F:Fns R}(hF:FnsOK P F){ops:Array Oper}{cl:List (Nat×Oper)}{W:WS}{H:List E2}:∀ (l:List (Nat×Oper)) (sl:List V) (k:List V→Tree R) (res:R),(evFr P F ops cl W H l sl k).run=some res→∃ sl',(k sl').run=some res∧T1 P ops cl W H l sl sl'
 | [],sl,k,res,h=>⟨sl,h,rfl⟩
 | (j,o)::rest,sl,k,res,h=>by
  unfold evFr at h
  obtain ⟨b,h1,hwant⟩:=fL h
  clear h
  cases b with
  | true=>
   simp only [if_true] at h1
   split at h1
   ·rename_i hA
    obtain ⟨r,h2,h3⟩:=ec hF h1
    rw [aW] at h2
    obtain ⟨sl',h4,h5⟩:=fG hF rest _ k res h2
    exact ⟨sl',h4,true,r,hwant,fun _=>.inl ⟨hA,h3⟩,nofun,h5⟩
   ·split at h1
    ·rename_i hb
     obtain ⟨r,h2,h3⟩:=ec hF h1
     rw [aW] at h2
     obtain ⟨sl',h4,h5⟩:=fG hF rest _ k res h2
     exact ⟨sl',h4,true,r,hwant,fun _=>.inr (.inl ⟨fun x hx=>uP.1 hb x hx,h3⟩),nofun,h5⟩
    ·split at h1
     ·rename_i hb
      obtain ⟨r,h2,h3⟩:=qj hb h1
      rw [aW] at h2
      obtain ⟨sl',h4,h5⟩:=fG hF rest _ k res h2
      exact ⟨sl',h4,true,r,hwant,fun _=>.inr (.inr (.inl h3)),nofun,h5⟩
     ·split at h1
      ·rename_i hb
       obtain ⟨r,h2,h3⟩:=ec hF h1
       rw [aW] at h2
       obtain ⟨sl',h4,h5⟩:=fG hF rest _ k res h2
       exact ⟨sl',h4,true,r,hwant,fun _=>.inr (.inr (.inr (.inl ⟨hb.1,fun x hx=>uP.1 hb.2 x hx,h3⟩))),nofun,h5⟩
      ·split at h1
       ·rename_i W' hW'
        obtain ⟨r,h2,h3⟩:=ec hF h1
        rw [aW] at h2
        obtain ⟨sl',h4,h5⟩:=fG hF rest _ k res h2
        exact ⟨sl',h4,true,r,hwant,fun _=>.inr (.inr (.inr (.inr ⟨W',hW',h3⟩))),nofun,h5⟩
       ·cases h1
  | false=>
   simp only [uR,if_false] at h1
   rw [aW] at h1
   obtain ⟨sl',h4,h5⟩:=fG hF rest _ k res h1
   exact ⟨sl',h4,false,_,hwant,nofun,fun _=>rfl,h5⟩
open Classical in
theorem du {P:Program}{Γ:Env R}(hF:FnsOK P Γ.fns)(hCl:∀ f e,Γ.cln f=some e→ef P f e){C:fw R}(hC:CallIOK P C)(hM:∀ f args H k T,tcOf Γ f args H=some T→C f args H k=C f args H fun r H'=>if Fr T H H' then k r H' else .fail){mv:Bool×Bool}{ops:Array Oper}{wf:Oper→Bool}{n:Nat}{W:WS}:∀ (l:List (Nat×Oper)) (st:S2) (k:S2→Tree R) (res:R),(jj P Γ C mv ops wf n W l st k).run=some res→∃ st',(k st').run=some res∧T2 P ops wf n W l st st'
 | [],st,k,res,h=>⟨st,h,rfl⟩
 | (j,o)::rest,st,k,res,h=>by
  unfold jj at h
  obtain ⟨b,h1,hwant⟩:=fL h
  clear h
  cases b with
  | true=>
   simp only [if_true] at h1
   split at h1
   ·rename_i hwf
    split at h1
    ·rename_i e args hq
     split at h1
     ·rename_i hc
      rw [mA,←rF (P:=P) (mv:=mv) hq] at h1
      obtain ⟨r,H',h2,h3⟩:=mt hF (ov hCl) h1
      split at h2
      case isFalse=>cases h2
      rename_i hpush
      obtain ⟨x,rfl⟩:=hpush
      rw [iJ,aW] at h2
      obtain ⟨st',h4,h5⟩:=du hF hCl hC hM rest _ k res h2
      exact ⟨st',h4,true,r,_,hwant,fun _ _=>h3,nofun,⟨⟨⟨fun _=>by rw [u5];omega,fun i hi _=>by rw [List.getElem?_append_left (by omega)]⟩,fun W' hW=>by rw [hW] at hc;cases hc.2⟩,fun hf=>by rw [hwf] at hf;cases hf⟩,h5⟩
     ·cases h1
    split at h1
    ·rename_i hk
     rw [ru hM hk.1,te hk.2] at h1
     obtain ⟨r,H',h2,h3⟩:=mt hF hC h1
     split at h2
     case isFalse=>cases h2
     rename_i hoff
     split at h2
     ·rename_i hlow
      rw [iJ,aW] at h2
      obtain ⟨st',h4,h5⟩:=du hF hCl hC hM rest _ k res h2
      exact ⟨st',h4,true,r,H',hwant,fun _ _=>h3,nofun,⟨⟨hlow,hoff⟩,fun hf=>by rw [hwf] at hf;cases hf⟩,h5⟩
     ·cases h2
    ·cases h1
   ·rename_i hwf
    split at h1
    ·rename_i hb
     obtain ⟨r,h2,h3⟩:=ec hF h1
     rw [aW] at h2
     obtain ⟨st',h4,h5⟩:=du hF hCl hC hM rest _ k res h2
     exact ⟨st',h4,true,r,st.heap,hwant,fun _ hw=>absurd hw hwf,nofun,⟨⟨⟨fun h=>h,fun _ _ _=>rfl⟩,fun _ _=>⟨rfl,fun _ _=>rfl⟩⟩,fun _=>⟨rfl,fun _=>.inl ⟨fun x hx=>uP.1 hb x hx,h3⟩⟩⟩,h5⟩
    ·split at h1
     ·rename_i hb
      obtain ⟨r,h2,h3⟩:=qj hb h1
      rw [aW] at h2
      obtain ⟨st',h4,h5⟩:=du hF hCl hC hM rest _ k res h2
      exact ⟨st',h4,true,r,st.heap,hwant,fun _ hw=>absurd hw hwf,nofun,⟨⟨⟨fun h=>h,fun _ _ _=>rfl⟩,fun _ _=>⟨rfl,fun _ _=>rfl⟩⟩,fun _=>⟨rfl,fun _=>.inr (.inl h3)⟩⟩,h5⟩
     ·split at h1
      ·rename_i hb
       obtain ⟨r,h2,h3⟩:=ec hF h1
       rw [aW] at h2
       obtain ⟨st',h4,h5⟩:=du hF hCl hC hM rest _ k res h2
       exact ⟨st',h4,true,r,st.heap,hwant,fun _ hw=>absurd hw hwf,nofun,⟨⟨⟨fun h=>h,fun _ _ _=>rfl⟩,fun _ _=>⟨rfl,fun _ _=>rfl⟩⟩,fun _=>⟨rfl,fun _=>.inr (.inr ⟨hb.1,fun x hx=>uP.1 hb.2 x hx,h3⟩)⟩⟩,h5⟩
      ·cases h1
  | false=>
   simp only [uR,if_false] at h1
   rw [aW] at h1
   obtain ⟨st',h4,h5⟩:=du hF hCl hC hM rest _ k res h1
   exact ⟨st',h4,false,_,st.heap,hwant,nofun,fun _=>⟨rfl,rfl⟩,⟨⟨⟨fun h=>h,fun _ _ _=>rfl⟩,fun _ _=>⟨rfl,fun _ _=>rfl⟩⟩,fun _=>⟨rfl,nofun⟩⟩,h5⟩
open Classical in
theorem tf {P:Program}{Γ:Env R}(hF:FnsOK P Γ.fns)(hCl:∀ f e,Γ.cln f=some e→ef P f e){C:fw R}(hC:CallIOK P C)(hM:∀ f args H k T,tcOf Γ f args H=some T→C f args H k=C f args H fun r H'=>if Fr T H H' then k r H' else .fail){mv:Bool×Bool}{ops:Array Oper}{W:WS}(l:List (Nat×Oper))(st:S2)(k:S2→Tree R)(res:R)(h:(evCh P Γ C mv ops W l st k).run=some res):∃ st',(k st').run=some res∧T2 P ops (wfOf Γ.inl ops l) W.2.1 W l st st':=by
 unfold evCh at h
 split at h
 ·rename_i hc
  have:=du hF hCl hC hM l st k res h
  simpa only [wfOf,hc,if_true] using this
 ·rename_i hc
  have:=du hF hCl hC hM l st k res h
  simpa only [wfOf,hc,uR,if_false] using this
theorem cI {sl:List V}{d:Option Tmp}{r:V}{t:Nat}(h:d≠some t):(setV sl d r).getD t .any=sl.getD t .any:=by
 cases d with
 | none=>rfl
 | some u=>
  have:u≠t:=fun e=>h (by rw [e])
  simp [setV,List.getD_eq_getElem?_getD,List.getElem?_set_ne this]
theorem bg (sl:List V)(d:Option Tmp)(r:V):(setV sl d r).length=sl.length:=by cases d <;> simp [setV]
variable {P:Program} {ops:Array Oper} {cl:List (Nat×Oper)} {W:WS} {H:List E2} {wf:Oper→Bool}
theorem T1.keep:∀ {l:List (Nat×Oper)} {sl sl':List V},T1 P ops cl W H l sl sl'→sl'.length=sl.length∧∀ t,(∀ p∈l,p.2.dst≠some t)→sl'.getD t .any=sl.getD t .any
 | [],sl,sl',h=>by
  have h:sl'=sl:=h
  subst h;exact ⟨rfl,fun _ _=>rfl⟩
 | (j,o)::rest,sl,sl',h=>by
  obtain ⟨b,r,_,_,_,h5⟩:=h
  obtain ⟨k1,k2⟩:=T1.keep h5
  exact ⟨by rw [k1,bg],fun t ht=>by rw [k2 t (fun p hp=>ht p (gt _ hp)),cI (ht (j,o) ne)]⟩
theorem T2.low {n:Nat}:∀ {l:List (Nat×Oper)} {st st':S2},T2 P ops wf n W l st st'→lowW W.2.2 n st.heap st'.heap
 | [],st,st',h=>by
  have h:st'=st:=h
  subst h;exact ⟨fun h=>h,fun _ _ _=>rfl⟩
 | (j,o)::rest,st,st',h=>by
  obtain ⟨b,r,H',_,_,_,h4,h5⟩:=h
  exact ⟨fun h=>(T2.low h5).1 (h4.1.1.1 h),fun i hi hv=>((T2.low h5).2 i hi hv).trans (h4.1.1.2 i hi hv)⟩
theorem T2.off {n:Nat}:∀ {l:List (Nat×Oper)} {st st':S2},T2 P ops wf n W l st st'→offW W st.heap st'.heap
 | [],st,st',h=>by
  have h:st'=st:=h
  subst h;exact fun _ _=>⟨rfl,fun _ _=>rfl⟩
 | (j,o)::rest,st,st',h=>by
  obtain ⟨b,r,H',_,_,_,h4,h5⟩:=h
  exact fun W' hW=>⟨(T2.off h5 W' hW).1.trans (h4.1.2 W' hW).1,fun i hi=>((T2.off h5 W' hW).2 i hi).trans ((h4.1.2 W' hW).2 i hi)⟩
theorem T2.keep {n:Nat}:∀ {l:List (Nat×Oper)} {st st':S2},T2 P ops wf n W l st st'→st'.slots.length=st.slots.length∧∀ t,(∀ p∈l,p.2.dst≠some t)→st'.slots.getD t .any=st.slots.getD t .any
 | [],st,st',h=>by
  have h:st'=st:=h
  subst h;exact ⟨rfl,fun _ _=>rfl⟩
 | (j,o)::rest,st,st',h=>by
  obtain ⟨b,r,H',_,_,_,_,h5⟩:=h
  obtain ⟨k1,k2⟩:=T2.keep h5
  exact ⟨by rw [k1,bg],fun t ht=>by rw [k2 t (fun p hp=>ht p (gt _ hp)),cI (ht (j,o) ne)]⟩
theorem T1.cut:∀ {l1 l2:List (Nat×Oper)} {sl sl':List V},T1 P ops cl W H (l1++l2) sl sl'→∃ m,T1 P ops cl W H l1 sl m∧T1 P ops cl W H l2 m sl'
 | [],l2,sl,sl',h=>⟨sl,rfl,h⟩
 | (j,o)::l1,l2,sl,sl',h=>by
  obtain ⟨b,r,h2,h3,h4,h5⟩:=h
  obtain ⟨m,k1,k2⟩:=T1.cut h5
  exact ⟨m,⟨b,r,h2,h3,h4,k1⟩,k2⟩
theorem T2.cut {n:Nat}:∀ {l1 l2:List (Nat×Oper)} {st st':S2},T2 P ops wf n W (l1++l2) st st'→∃ m,T2 P ops wf n W l1 st m∧T2 P ops wf n W l2 m st'
 | [],l2,st,st',h=>⟨st,rfl,h⟩
 | (j,o)::l1,l2,st,st',h=>by
  obtain ⟨b,r,H',h2,h3,h4,h4',h5⟩:=h
  obtain ⟨m,k1,k2⟩:=T2.cut h5
  exact ⟨m,⟨b,r,H',h2,h3,h4,h4',k1⟩,k2⟩
theorem T2.append {n:Nat}:∀ {l1 l2:List (Nat×Oper)} {st m st':S2},T2 P ops wf n W l1 st m→T2 P ops wf n W l2 m st'→T2 P ops wf n W (l1++l2) st st'
 | [],l2,st,m,st',h1,h2=>by
  have h1:m=st:=h1
  subst h1;exact h2
 | (i,p)::l1,l2,st,m,st',h1,h2=>by
  obtain ⟨b,r,H',a1,a2,a3,a3',a4⟩:=h1
  exact ⟨b,r,H',a1,a2,a3,a3',T2.append a4 h2⟩
theorem T2.still {n:Nat}:∀ {l:List (Nat×Oper)} {st st':S2},T2 P ops wf n W l st st'→(∀ p∈l,wf p.2=false)→st'.heap=st.heap
 | [],st,st',h,_=>by
  have h:st'=st:=h
  subst h;rfl
 | (j,o)::rest,st,st',h,hf=>by
  obtain ⟨b,r,H',_,_,_,h4,h5⟩:=h
  have h6:=T2.still h5 (fun p hp=>hf p (gt _ hp))
  exact h6.trans (h4.2 (hf (j,o) ne)).1
theorem T2.snoc {n:Nat}:∀ {l1:List (Nat×Oper)} {j:Nat} {o:Oper} {st m st':S2},T2 P ops wf n W l1 st m→T2 P ops wf n W [(j,o)] m st'→T2 P ops wf n W (l1++[(j,o)]) st st'
 | [],j,o,st,m,st',h1,h2=>by
  have h1:m=st:=h1
  subst h1;exact h2
 | (i,p)::l1,j,o,st,m,st',h1,h2=>by
  obtain ⟨b,r,H',a1,a2,a3,a3',a4⟩:=h1
  exact ⟨b,r,H',a1,a2,a3,a3',T2.snoc a4 h2⟩
def depB (ops:Array Oper)(fs:List Bool):Bool:=
 (u1 ops.size).all fun j=>(u1 ops.size).all fun i=>match ops[i]?,ops[j]? with
  | some oi,some oj=>(match oi.dst with
   | some t=>!(oj.looksAt ops).contains t||i==j||(if fs.getD j false=true then (fs.getD i false||decide (j<i)) else (!fs.getD i false||decide (i<j)))
   | none=>true)
  | _,_=>true
def aC (inl:FuncId→Bool)(ops:Array Oper):List Bool:=ni inl ops ops.toList []
def sa (wf:Oper→Bool):List (Nat×Oper)→Bool
 | []=>true
 | p::_=>wf p.2
def pI (inl:FuncId→Bool)(ops:Array Oper):Bool:=
 Region.noSelect ops&&rO ops&&l8 ops ops.size&&pL ops ops.size&&(eO ops ((clR 0 ops.toList (aC inl ops)).filter fun p=>wfOf inl ops (clR 0 ops.toList (aC inl ops)) p.2)&&sa (wfOf inl ops (clR 0 ops.toList (aC inl ops))) (clR 0 ops.toList (aC inl ops)))&&depB ops (aC inl ops)&&((aC inl ops).length==ops.size)
theorem eN:∀ (l:List (Nat×Oper)),eO ops l=true→∀ (m:Nat) p q,l[m]? =some p→l[m+1]? =some q→ancB ops ops.size q.1 p.1=true
 | [],_,m,p,q,h1,h2=>by simp at h1
 | [c],_,m,p,q,h1,h2=>by simp at h2
 | c::c'::r,h,m,p,q,h1,h2=>by
  simp only [eO,ge] at h
  cases m with
  | zero=>simp at h1 h2;subst h1 h2;exact h.1
  | succ m=>exact eN (c'::r) h.2 m p q (by simpa using h1) (by simpa using h2)
theorem gi {fs:List Bool}(h:depB ops fs=true){i j:Nat}{oi oj:Oper}{t:Tmp}(hi:ops[i]? =some oi)(hj:ops[j]? =some oj)(hd:oi.dst=some t)(hl:t∈oj.looksAt ops)(hne:i≠j):
  if fs.getD j false=true then (fs.getD i false=true∨j<i) else (fs.getD i false=false∨i<j):=by
 have:=uN.1 (uN.1 h j (vc.2 (Array.getElem?_eq_some_iff.1 hj).1)) i (vc.2 (Array.getElem?_eq_some_iff.1 hi).1)
 simp only [hi,hj,hd,u9,beq_iff_eq,Bool.not_eq_true',List.contains_eq_mem,decide_eq_false_iff_not] at this
 rcases this with (h | h) | h
 ·exact absurd hl h
 ·exact absurd h hne
 ·cases hf:fs.getD j false with
  | true=>rw [hf] at h;simpa using h
  | false=>rw [hf] at h;simpa using h
theorem oY {listed:Array Bool}(hcl:∀ j oj,ops[j]? =some oj→listed.getD j false=true→∀ e∈oj.after,Region.binds .any e=true→listed.getD e.on false=true){j:Nat}{oj:Oper}(ho:ops[j]? =some oj)(hall:∀ e∈oj.after,Region.binds .any e=true→listed.getD e.on false=true){f i:Nat}(h:ancB ops f j i=true):listed.getD i false=true:=by
 unfold ancB jr at h
 rw [ho] at h
 have hp:∀ x∈jt oj,listed.getD x false=true:=fun x hx=>by
  obtain ⟨e,he,hb,rfl⟩:=js hx
  exact hall e he hb
 rcases u9 _ _▸h with h1 | h1
 ·exact hp i (by simpa using h1)
 ·exact dW hcl _ _ _ h1 (fun x hx=>by
   rcases List.mem_append.1 hx with hx | hx
   ·exact hp x (u7.1 hx).1
   ·cases hx)
theorem iE {α:Type}{x:α}:∀ {l:List α},x∈l→∃ l1 l2,l=l1++x::l2
 | y::l,h=>by
  rcases uQ.1 h with rfl | h
  ·exact ⟨[],l,rfl⟩
  ·obtain ⟨l1,l2,e⟩:=iE h
   exact ⟨y::l1,l2,by rw [e];rfl⟩
def DInv (P:Program)(ops:Array Oper)(wf:Oper→Bool)(cl:List (Nat×Oper))(W:WS)(sl0 sl1:List V)(H0:List E2)(st2:S2)(n0 m0:Nat)(Bx:List Nat)(ds:List Deferred)(w0:World)(B0:List Nat)(η0:List Value)(listed:Array Bool)(a:Act)(w:World):Prop:=
 ∃ (k:Nat) (st:S2) (B:List Nat) (η:List Value),T2 P ops wf W.2.1 W (cl.take k) ⟨sl1,H0⟩ st∧T2 P ops wf W.2.1 W (cl.drop k) st st2∧k≤cl.length∧(∀ (m:Nat) p,cl[m]? =some p→wf p.2=true→(listed.getD p.1 false=true↔m<k))∧
  a.defers=ds∧a.tmps.size=sl0.length∧Inv n0 Bx w B η (st.heap.map exE)∧Goes n0 Bx m0 w0 B0 η0 w B η∧
  ∀ t,((∃ i,(ops[i]?).bind (·.dst)=some t∧listed.getD i false=true)→Rel2 w B η (st2.slots.getD t .any) (a.tmps.getD t undef)∧au n0 (ex (st2.slots.getD t .any)) (a.tmps.getD t undef))∧
   ((∀ i,(ops[i]?).bind (·.dst)=some t→listed.getD i false=false)→Rel2 w B η (sl0.getD t .any) (a.tmps.getD t undef)∧au n0 (ex (sl0.getD t .any)) (a.tmps.getD t undef))
end
section
variable {R:Type} {P:Program} {ops:Array Oper} {W:WS}
theorem jW (honce:l8 ops ops.size=true){i j:Nat}{t:Tmp}(h1:(ops[i]?).bind (·.dst)=some t)(h2:(ops[j]?).bind (·.dst)=some t):i=j:=by
 have s1:i<ops.size:=by obtain ⟨o,ho,_⟩:=uI.1 h1;exact (Array.getElem?_eq_some_iff.1 ho).1
 have s2:j<ops.size:=by obtain ⟨o,ho,_⟩:=uI.1 h2;exact (Array.getElem?_eq_some_iff.1 ho).1
 exact nX honce s1 s2 h1 h2
theorem m6 (a:Act)(d:Option Tmp)(v:Value)(t:Nat)(h:d≠some t):(a.put d v).tmps.getD t undef=a.tmps.getD t undef:=by
 cases d with
 | none=>rfl
 | some u=>
  have hne:u≠t:=fun e=>h (by rw [e])
  simp [Act.put,uH,Array.getElem?_setIfInBounds_ne hne]
theorem hD (a:Act)(d:Option Tmp)(v:Value):(a.put d v).tmps.size=a.tmps.size:=by cases d <;> simp [Act.put]
theorem dX (a:Act)(d:Option Tmp)(v:Value):(a.put d v).defers=a.defers:=by cases d <;> rfl
theorem o3 {w:World}{B:List Nat}{η:List Value}{n0:Nat}{a:Act}{sl:List V}{d:Tmp}{v:Value}{r:V}(hsz:a.tmps.size=sl.length)(hr:Rel2 w B η r v)(hf:au n0 (ex r) v){x:V}(hx:d<sl.length→x=r)(hx2:sl.length≤d→x= .any):Rel2 w B η x ((a.put (some d) v).tmps.getD d undef)∧au n0 (ex x) ((a.put (some d) v).tmps.getD d undef):=by
 rcases uJ d sl.length with h | h
 ·rw [hx h]
  have:(a.put (some d) v).tmps.getD d undef=v:=by
   simp [Act.put,uH,Array.getElem?_setIfInBounds_self_of_lt (show d<a.tmps.size by rw [hsz];exact h)]
  rw [this];exact ⟨hr,hf⟩
 ·rw [hx2 h];exact ⟨trivial,fun h=>by cases h⟩
theorem eF {l:List V}{t:Nat}(h:l.length≤t):l.getD t .any= .any:=by
 rw [List.getD_eq_getElem?_getD,List.getElem?_eq_none h];rfl
theorem eW {sl:List V}{d:Tmp}{r:V}(h:d<sl.length):(setV sl (some d) r).getD d .any=r:=by
 simp [setV,List.getD_eq_getElem?_getD,h]
theorem o8 {n0:Nat}{Bx:List Nat}{w:World}{B:List Nat}{η:List Value}{Hc H1:List E2}(hinv:Inv n0 Bx w B η (Hc.map exE))(hkeep:∀ i,i<H1.length→Hc[i]? =H1[i]? ∨H1[i]? =some .dead)(hlen:H1.length≤Hc.length):
  Inv n0 Bx w B (η.take H1.length) ((H1.map fg).map exE)∧(∀ (x:V) (v:Value),lowV H1.length x=true→Rel2 w B η x v→Rel2 w B (η.take H1.length) x v)∧(∀ (id:Nat) v,(η.take H1.length)[id]? =some v→η[id]? =some v):=by
 have hle:H1.length≤η.length:=by
  rw [hinv.len,vj];omega
 have hg:∀ id,id<H1.length→(η.take H1.length).getD id undef=η.getD id undef:=fun id hid=>by
  simp [List.getD_eq_getElem?_getD,List.getElem?_take,hid]
 have hent:∀ id e,((H1.map fg).map exE)[id]? =some e→id<H1.length∧((Hc.map exE)[id]? =some e∨e= .dead)∧∀ cells T,e= .box cells T→cells.all AV.imm0=true:=fun id e he=>by
  rw [List.getElem?_map,List.getElem?_map,Option.map_map,uK] at he
  obtain ⟨e0,h5,rfl⟩:=he
  have hid:=(List.getElem?_eq_some_iff.1 h5).1
  have h6:=hkeep id hid
  rw [h5] at h6
  refine ⟨hid, ?_⟩
  rcases h6 with h6 | h6
  rotate_left
  ·injection h6 with h6
   subst h6
   exact ⟨.inr rfl,fun cells T h=>by cases h⟩
  cases e0 with
  | dead=>exact ⟨.inr rfl,fun cells T h=>by cases h⟩
  | own d l E=>exact ⟨.inl (by rw [List.getElem?_map,h6];rfl),fun cells T h=>by cases h⟩
  | itr s p=>exact ⟨.inr rfl,fun cells T h=>by cases h⟩
  | box l T=>
   by_cases hl:l.all immV=true
   ·have hm:exE (fg (.box l T))=exE (.box l T):=by simp only [fg,hl,if_true]
    refine ⟨.inl ?_,fun cells T' h=> ?_⟩
    ·show (Hc.map exE)[id]? =some (exE (fg (.box l T)))
     rw [hm,List.getElem?_map,h6];rfl
    ·have h:exE (fg (.box l T))=_:=h
     rw [hm] at h
     injection h with h7 h8
     rw [←h7];exact eE l hl
   ·have hm:exE (fg (.box l T))= .dead:=by simp only [fg,hl];rfl
    refine ⟨.inr hm,fun cells T' h=> ?_⟩
    have h:exE (fg (.box l T))=_:=h
    rw [hm] at h;cases h
 have hinv0:Inv n0 Bx w B (η.take H1.length) ((H1.map fg).map exE):=by
  refine ⟨by simp;omega,hinv.base,hinv.sub,hinv.lt,fun id e he=> ?_,fun i j ei ej hij hi' hj' li lj b hb=> ?_⟩
  ·obtain ⟨hid,h5,h6⟩:=hent id e he
   rw [hg id hid]
   rcases h5 with h5 | rfl
   ·have h7:=hinv.ent id e h5
    cases e with
    | dead=>trivial
    | box cells T=>
     obtain ⟨b,us,g1,g2,g3,g4,g5,g6⟩:=h7
     exact ⟨b,us,g1,g2,g3,g4,g5,g6.1,fun i x hx=>by
      obtain ⟨u,e1,e2⟩:=g6.2 i x hx
      exact ⟨u,e1,e2.bare0 (uN.1 (h6 cells T rfl) x (eq hx))⟩⟩
    | own cells E k=>
     rw [List.getElem?_map,List.getElem?_map,Option.map_map,uK] at he
     obtain ⟨e0,_,h9⟩:=he
     cases e0 with
     | dead=>cases h9
     | own d l E'=>
      injection h9 with h10 h11 h12
      subst h10 h11 h12
      obtain ⟨n,us,p1,p2,p3,p4⟩:=h7
      exact ⟨n,us,p1,⟨p2.1,fun i x hi=>by
       obtain ⟨u,q1,q2⟩:=p2.2 i x hi
       exact ⟨u,q1,q2.bare0 (uN.1 (cq d l) x (eq hi))⟩⟩,p3,p4⟩
     | itr s p=>cases h9
     | box l T=>
      simp only [Function.comp,fg] at h9
      split at h9 <;> cases h9
    | itr s p=>
     exfalso
     rw [List.getElem?_map,List.getElem?_map,Option.map_map,uK] at he
     obtain ⟨e0,_,h9⟩:=he
     cases e0 with
     | dead=>cases h9
     | own d l E=>cases h9
     | itr s p=>cases h9
     | box l T=>
      simp only [Function.comp,fg] at h9
      split at h9 <;> cases h9
   ·trivial
  ·obtain ⟨a1,a2,_⟩:=hent i ei hi'
   obtain ⟨b1,b2,_⟩:=hent j ej hj'
   rcases a2 with a2 | rfl
   ·rcases b2 with b2 | rfl
    ·rw [hg j b1]
     rw [hg i a1] at hb
     exact hinv.sep i j ei ej hij a2 b2 li lj b hb
    ·cases lj
   ·cases li
 have hsub:∀ (id:Nat) v,(η.take H1.length)[id]? =some v→η[id]? =some v:=fun id v hv=>by
  rw [List.getElem?_take] at hv
  split at hv
  ·exact hv
  ·cases hv
 have hget:∀ (id:Nat) v,id<H1.length→η[id]? =some v→(η.take H1.length)[id]? =some v:=fun id v hid hv=>by
  rw [List.getElem?_take,if_pos hid];exact hv
 have hrel:∀ (x:V) (v:Value),lowV H1.length x=true→Rel2 w B η x v→Rel2 w B (η.take H1.length) x v:=fun x v hx hr=>by
  unfold lowV at hx
  split at hx
  ·have hr0:Rel w B η (.box _ _) v:=hr
   cases hr0 with
   | box _ _ _ b h=>exact Rel.box _ _ _ b (hget _ _ (by simpa using hx) h)
  ·have hr0:Rel w B η (.box _ _) v:=hr
   cases hr0 with
   | box _ _ _ b h=>exact Rel.box _ _ _ b (hget _ _ (by simpa using hx) h)
  ·have hr0:Rel w B η (.own _) v:=hr
   cases hr0 with
   | own _ _ a n c h=>exact Rel.own _ _ _ _ _ (hget _ _ (by simpa using hx) h)
  ·have hr0:Rel w B η (.oadr _ _) v:=hr
   cases hr0 with
   | oadr _ _ _ b o n c h=>exact Rel.oadr _ _ _ _ _ _ _ (hget _ _ (by simpa using hx) h)
  ·exact iY hx hr
 exact ⟨hinv0,hrel,hsub⟩
theorem pJ {wf:Oper→Bool}{fs:List Bool}{cl fl:List (Nat×Oper)}(hcl:cl=clR 0 ops.toList fs)(hfl:fl=flR 0 ops.toList fs)(hsel:Region.noSelect ops=true)(hback:rO ops=true)(honce:l8 ops ops.size=true)(hdata:pL ops ops.size=true)(hchain:eO ops (cl.filter fun p=>wf p.2)=true)(hfirst:sa wf cl=true)(hdep:depB ops fs=true)(hfsl:fs.length=ops.size)
  {sl0 sl1:List V} {H0:List E2} {st2:S2} {n0 m0:Nat} {Bx:List Nat} {ds:List Deferred} {w0:World} {B0:List Nat} {η0:List Value} {Q:Exit→Act→World→Prop}
  (hWl:W.2.1≤H0.length) (h1:T1 P ops cl W H0 fl sl0 sl1) (h2:T2 P ops wf W.2.1 W cl ⟨sl1,H0⟩ st2):
  ∀ (listed:Array Bool) (a:Act) (w:World) (j:Nat),HeadInv .any ops ops.size listed→DInv P ops wf cl W sl0 sl1 H0 st2 n0 m0 Bx ds w0 B0 η0 listed a w→j∈Region.ready .any ops listed→∀ K:Act→World→Prop,(∀ a' w',DInv P ops wf cl W sl0 sl1 H0 st2 n0 m0 Bx ds w0 B0 η0 (listed.setIfInBounds j true) a' w'→K a' w')→wpOp P ops Q j K a w:=by
 intro listed a w j hi inv hj K hK
 obtain ⟨hjun,oj,hoj,hall⟩:=mem_ready.1 hj
 have hjs:j<ops.size:=(Array.getElem?_eq_some_iff.1 hoj).1
 have hjl:j<listed.size:=by rw [hi.size];exact hjs
 have hjunF:listed.getD j false=false:=by simp [hjl] at hjun ⊢;exact hjun
 obtain ⟨k,st,B,η,ht1,ht2,hk,hprog,hdef,hsz,hinv,hgo,hslot⟩:=inv
 have hfsj:∀ i,i<ops.size→∃ b,fs[i]? =some b:=fun i hi=>⟨_,List.getElem?_eq_getElem (by rw [hfsl];exact hi)⟩
 have hfsd:∀ i b,fs[i]? =some b→fs.getD i false=b:=fun i b h=>by rw [List.getD_eq_getElem?_getD,h];rfl
 have inF:∀ i o,(i,o)∈fl↔ops[i]? =some o∧fs[i]? =some true:=fun i o=>by rw [hfl,gI];simp
 have inC:∀ i o,(i,o)∈cl↔ops[i]? =some o∧fs[i]? =some false:=fun i o=>by rw [hcl,eM];simp
 have hlen1:=h1.keep.1
 have hlen2:=h2.keep.1
 simp only at hlen2
 -- who writes t, and is it listed?
 have wr:∀ t∈oj.looksAt ops,∀ (i:Nat) (oi:Oper),ops[i]? =some oi→oi.dst=some t→i=j∨(i<j∧listed.getD i false=true)∨(j<i∧listed.getD i false=false):=fun t ht i oi hoi hd=>by
  rcases gL hdata (Array.getElem?_eq_some_iff.1 hoi).1 hjs (by rw [hoi];exact hd) hoj ht with h | ⟨h1,h2⟩ | ⟨h1,h2⟩
  ·exact .inl h
  ·obtain ⟨o',ho',e,he,hb,hon⟩:=Region.waitsFor_spec h2
   have:o'=oj:=by rw [hoj] at ho';exact (uL.inj ho').symm
   subst this
   exact .inr (.inl ⟨h1,by rw [←hon];exact hall e he hb⟩)
  ·refine .inr (.inr ⟨h1, ?_⟩)
   cases hli:listed.getD i false with
   | false=>rfl
   | true=>have:=gq hi.closed _ i j h2 hli;rw [hjunF] at this;cases this
 -- what is in a slot of the end, if it is not written by the others
 have end1:∀ (t:Tmp),(∀ (i:Nat) (o:Oper),(i,o)∈cl→o.dst≠some t)→st2.slots.getD t .any=sl1.getD t .any:=fun t h=>h2.keep.2 t (fun p hp=>h p.1 p.2 hp)
 have ini1:∀ (t:Tmp),(∀ (i:Nat) (o:Oper),(i,o)∈fl→o.dst≠some t)→sl1.getD t .any=sl0.getD t .any:=fun t h=>h1.keep.2 t (fun p hp=>h p.1 p.2 hp)
 have noC:∀ (t:Tmp) (i:Nat) (oi:Oper),ops[i]? =some oi→oi.dst=some t→fs[i]? =some true→∀ i' o',(i',o')∈cl→o'.dst≠some t:=fun t i oi hoi hd hf i' o' hm hd'=>by
  obtain ⟨q1,q2⟩:=(inC i' o').1 hm
  have:=jW honce (show (ops[i]?).bind (·.dst)=some t by rw [hoi];exact hd) (show (ops[i']?).bind (·.dst)=some t by rw [q1];exact hd')
  subst this;rw [hf] at q2;cases q2
 have noF:∀ (t:Tmp) (i:Nat) (oi:Oper),ops[i]? =some oi→oi.dst=some t→fs[i]? =some false→∀ i' o',(i',o')∈fl→o'.dst≠some t:=fun t i oi hoi hd hf i' o' hm hd'=>by
  obtain ⟨q1,q2⟩:=(inF i' o').1 hm
  have:=jW honce (show (ops[i]?).bind (·.dst)=some t by rw [hoi];exact hd) (show (ops[i']?).bind (·.dst)=some t by rw [q1];exact hd')
  subst this;rw [hf] at q2;cases q2
 have noW:∀ (t:Tmp),(¬ ∃ (i:Nat) (oi:Oper),ops[i]? =some oi∧oi.dst=some t)→(∀ (i:Nat) (o:Oper),(i,o)∈fl→o.dst≠some t)∧(∀ (i:Nat) (o:Oper),(i,o)∈cl→o.dst≠some t):=fun t h=>
  ⟨fun i o hm hd=>h ⟨i,o,((inF i o).1 hm).1,hd⟩,fun i o hm hd=>h ⟨i,o,((inC i o).1 hm).1,hd⟩⟩
 have hnoT:∀ (t:Tmp),(¬ ∃ (i:Nat) (oi:Oper),ops[i]? =some oi∧oi.dst=some t)→∀ i,(ops[i]?).bind (·.dst)=some t→listed.getD i false=false:=fun t h i hd=>by
  obtain ⟨o,ho,hd⟩:=uI.1 hd
  exact absurd ⟨i,o,ho,hd⟩ h
 -- if the slots that it looks at read as slc does, and it does as said, the rest is as said
 have fin:∀ (st':S2) (slc:List V) (b:Bool) (r:V) (k':Nat),slc.length=sl0.length→Wt ops oj slc b→
   (∀ t∈oj.looksAt ops,Rel2 w B η (slc.getD t .any) (a.tmps.getD t undef)∧au n0 (ex (slc.getD t .any)) (a.tmps.getD t undef))→
   (b=true→(∀ x∈oj.op.operands,Rel2 w B η (opV slc x) (a.eval x)∧au n0 (ex (opV slc x)) (a.eval x))→OpS2 P n0 Bx w a.eval oj B η r st'.heap)→(b=false→r= .c undef∧st'.heap=st.heap)→
   T2 P ops wf W.2.1 W (cl.take k') ⟨sl1,H0⟩ st'→T2 P ops wf W.2.1 W (cl.drop k') st' st2→k'≤cl.length→(∀ (m:Nat) p,cl[m]? =some p→wf p.2=true→((listed.setIfInBounds j true).getD p.1 false=true↔m<k'))→
   (∀ t,oj.dst=some t→t<sl0.length→st2.slots.getD t .any=r)→wpOp P ops Q j K a w:=by
  intro st' slc b r k' hslc hwt hlook hdo hno htk htd hkl hpr hown
  have heval:∀ x∈oj.op.operands,Rel2 w B η (opV slc x) (a.eval x)∧au n0 (ex (opV slc x)) (a.eval x):=fun x hx=>by
   cases x with
   | tmp t=>exact hlook t (ve _ (vm.2 ⟨.tmp t,by simpa using hx,rfl⟩))
   | const v=>
    refine ⟨Rel2.of (eK v) ?_,fun h=> ?_⟩
    ·show Rel w B η (ex (ck v)) v
     rw [dS];exact .c _ _
    ·simp only [opV,dS,cg] at h;cases h
   | global g=>exact l6 hinv.base.2 g
   | func f=>exact ⟨⟨[],rfl,rfl,fun i c h=>by simp at h⟩,fun h=>by cases h⟩
  have hw:=hwt w B η a.tmps (by rw [hslc,hsz]) (fun d hd=>(hlook d (by
   unfold dc at hd
   split at hd
   ·rename_i g want hg
    exact uX _ (by simp [hg,hd])
   ·cases hd)).1)
  -- the invariant behind it
  have next:∀ v w' B' η',On B w w'→(∀ b∈B',b∈B∨w.heap.size≤b)→(∀ (id:Nat) v,η[id]? =some v→η'[id]? =some v)→Bel n0 Bx w w'→Inv n0 Bx w' B' η' (st'.heap.map exE)→Rel2 w' B' η' r v→au n0 (ex r) v→K (a.put oj.dst v) w':=by
   intro v w' B' η' g1 g2 g3 g4 g5 g6 g7
   refine hK _ _ ⟨k',st',B',η',htk,htd,hkl,hpr,by rw [dX];exact hdef,by rw [hD];exact hsz,g5,hgo.trans ⟨g1,g2,fun id v _ hv=>g3 id v hv,g4⟩,fun t=> ?_⟩
   by_cases hdt:oj.dst=some t
   ·refine ⟨fun _=> ?_,fun hno=> ?_⟩
    ·rw [hdt]
     exact o3 (sl:=sl0) hsz g6 g7 (fun h=>hown t hdt h) (fun h=>eF (by rw [hlen2,hlen1];exact h))
    ·have:=hno j (by rw [hoj];exact hdt)
     simp [hjl] at this
   ·rw [m6 a oj.dst v t hdt]
    have hne:∀ i,(ops[i]?).bind (·.dst)=some t→(listed.setIfInBounds j true).getD i false=listed.getD i false:=fun i hd=>by
     refine getD_set_ne false (fun e=>hdt ?_)
     subst e
     rw [hoj] at hd;exact hd
    refine ⟨fun ⟨i,hd,hli⟩=> ?_,fun hno=> ?_⟩
    ·have:=(hslot t).1 ⟨i,hd,by rw [←hne i hd];exact hli⟩
     exact ⟨this.1.on g1 g2 g3,this.2⟩
    ·have:=(hslot t).2 (fun i hd=>by rw [←hne i hd];exact hno i hd)
     exact ⟨this.1.on g1 g2 g3,this.2⟩
  unfold wpOp
  simp only [hoj]
  rw [hw]
  cases b with
  | true=>
   rw [if_pos rfl]
   exact .inl (er (hdo rfl heval _ next))
  | false=>
   obtain ⟨rfl,hh⟩:=hno rfl
   rw [if_neg (by simp)]
   exact next undef w B η (u2 B w) (fun _ h=>.inl h) (fun _ _ h=>h) (Bel.refl _ _ _) (by rw [hh];exact hinv) (Rel.c _ _) (fun h=>by cases h)
 obtain ⟨bj,hbj⟩:=hfsj j hjs
 cases bj with
 | true=>
  -- one in front
  obtain ⟨l1,l2,hsp⟩:=iE ((inF j oj).2 ⟨hoj,hbj⟩)
  have hpw:=hO ops.toList fs 0
  rw [←hfl,hsp] at hpw
  obtain ⟨pw1,pw2,pw3⟩:=List.pairwise_append.1 hpw
  have pl1:∀ i o,(i,o)∈l1→i<j:=fun i o hm=>pw3 (i,o) hm (j,oj) ne
  have pl2:∀ i o,(i,o)∈l2→j<i:=fun i o hm=>(uS.1 pw2).1 (i,o) hm
  rw [hsp] at h1
  obtain ⟨slc,q1,b,r,q2,q3,q4,q5⟩:=h1.cut
  have hmemF:∀ i o,(i,o)∈fl→(i,o)∈l1∨(i,o)=(j,oj)∨(i,o)∈l2:=fun i o hm=>by rw [hsp] at hm;simpa using hm
  have hlook:∀ t∈oj.looksAt ops,Rel2 w B η (slc.getD t .any) (a.tmps.getD t undef)∧au n0 (ex (slc.getD t .any)) (a.tmps.getD t undef):=fun t ht=>by
   by_cases hw:∃ (i:Nat) (oi:Oper),ops[i]? =some oi∧oi.dst=some t
   ·obtain ⟨i,oi,hoi,hd⟩:=hw
    have uniq:∀ i' o',ops[i']? =some o'→o'.dst=some t→i'=i:=fun i' o' h h'=>jW honce (show (ops[i']?).bind (·.dst)=some t by rw [h];exact h') (show (ops[i]?).bind (·.dst)=some t by rw [hoi];exact hd)
    have initial:listed.getD i false=false→(∀ p∈l1,p.2.dst≠some t)→Rel2 w B η (slc.getD t .any) (a.tmps.getD t undef)∧au n0 (ex (slc.getD t .any)) (a.tmps.getD t undef):=fun hun hno=>by
     rw [q1.keep.2 t hno]
     exact (hslot t).2 (fun i' hd'=>by
      obtain ⟨o',ho',hd'⟩:=uI.1 hd'
      rw [uniq i' o' ho' hd'];exact hun)
    have notin:¬ i<j→∀ p∈l1,p.2.dst≠some t:=fun hlt p hp hd'=>by
     have hpf:p∈fl:=by rw [hsp];simp [hp]
     have:=uniq p.1 p.2 ((inF p.1 p.2).1 hpf).1 hd'
     have h3:=pl1 p.1 p.2 hp
     omega
    rcases wr t ht i oi hoi hd with h | ⟨hlt,hli⟩ | ⟨hlt,hun⟩
    ·subst h;exact initial hjunF (notin (by omega))
    ·have hdp:=gi hdep hoi hoj hd ht (by omega)
     rw [hfsd j true hbj,if_pos rfl] at hdp
     obtain ⟨bi,hbi⟩:=hfsj i (Array.getElem?_eq_some_iff.1 hoi).1
     rw [hfsd i bi hbi] at hdp
     have hbi':fs[i]? =some true:=by
      rcases hdp with h | h
      ·rw [hbi,h]
      ·omega
     have hE:slc.getD t .any=st2.slots.getD t .any:=by
      rw [end1 t (noC t i oi hoi hd hbi')]
      refine (T1.keep (l:=(j,oj)::l2) ⟨b,r,q2,q3,q4,q5⟩).2 t (fun p hp hd'=> ?_) |>.symm
      have hpf:p∈fl:=by rw [hsp];exact uX _ hp
      have h4:=uniq p.1 p.2 ((inF p.1 p.2).1 hpf).1 hd'
      rcases uQ.1 hp with h | h
      ·rw [h] at h4;simp only at h4;omega
      ·have:=pl2 p.1 p.2 h;omega
     rw [hE]
     exact (hslot t).1 ⟨i,by rw [hoi];exact hd,hli⟩
    ·exact initial hun (notin (by omega))
   ·have:=noW t hw
    rw [q1.keep.2 t (fun p hp=>this.1 p.1 p.2 (by rw [hsp];simp [hp]))]
    exact (hslot t).2 (hnoT t hw)
  refine fin st slc b r k q1.keep.1 q2 hlook (fun hb he=> ?_) (fun hb=>⟨q4 hb,rfl⟩) ht1 ht2 hk (fun m p hp hwp=> ?_) (fun t hd htl=> ?_)
  ·have toS2:OpK P n0 w a.eval oj B η r→OpS2 P n0 Bx w a.eval oj B η r st.heap:=fun h N hN=>
    h N (fun v w' g hr hf=>hN v w' B η g.on (fun _ h=>.inl h) (fun _ _ h=>h) (g.bel hinv) (hinv.gk g) hr hf)
   rcases q3 hb with ⟨hA,hop⟩ | ⟨hbare,hop⟩ | hop | ⟨hlow,hlv,hop⟩ | ⟨W',hW,hop⟩
   rotate_right
   ·have hoff:=ht1.off W' hW
    refine toS2 (hop n0 Bx w B η a.eval (fun f=>rfl) (hinv.le (by simp [dr,hoff.1]) (fun i e' he'=> ?_)) he)
    rw [List.getElem?_map,fY,Option.map_map,uK] at he'
    obtain ⟨e0,h5,rfl⟩:=he'
    by_cases hc:W'.contains (0+i)=true
    ·have hlt:i<st.heap.length:=by rw [hoff.1];exact (List.getElem?_eq_some_iff.1 h5).1
     exact ⟨exE st.heap[i],by rw [List.getElem?_map,List.getElem?_eq_getElem hlt];rfl,.inl (by simp only [Function.comp,hc,if_true];rfl)⟩
    ·have h6:=hoff.2 i (by simpa using hc)
     rw [show (⟨sl1,H0⟩:S2).heap=H0 from rfl,h5] at h6
     exact ⟨exE e0,by rw [List.getElem?_map,h6];rfl,.inr (.inl (by simp only [Function.comp,hc];rfl))⟩
   ·-- all that writes waits for it
    have hk0:k=0:=by
     cases hcc:cl with
     | nil=>rw [hcc] at hk;simpa using hk
     | cons p rest=>
      obtain ⟨c,co⟩:=p
      rw [hcc] at hA
      rcases vl k with h | h
      ·exact h
      ·have h5:=(hprog 0 (c,co) (by rw [hcc];rfl) (by have h7:=hfirst;rw [hcc] at h7;exact h7)).2 h
       have h6:=gq hi.closed _ c j hA h5
       rw [hjunF] at h6;cases h6
    subst hk0
    have hst:st=⟨sl1,H0⟩:=ht1
    rw [hst] at hinv
    exact toS2 (hop n0 Bx w B η a.eval (fun f=>rfl) hinv he)
   rotate_left
   ·exact toS2 (hop st.heap n0 Bx w B η a.eval (fun f=>rfl) hinv he)
   ·have hkeep0:=ht1.low
    obtain ⟨H1,hH1⟩:∃ H1,H1=fE W.2.2 0 (H0.take W.2.1):=⟨_,rfl⟩
    rw [←hH1] at hop
    have hlenW:W.2.1=H1.length:=by rw [hH1,dr,List.length_take];omega
    rw [hlenW] at hlv
    have hkeep:∀ i,i<H1.length→st.heap[i]? =H1[i]? ∨H1[i]? =some .dead:=fun i hi=>by
     rw [hH1,fY,List.getElem?_take,if_pos (by omega),Nat.zero_add]
     by_cases hc:W.2.2.contains i=true
     ·right
      have:i<H0.length:=by omega
      rw [List.getElem?_eq_getElem this,uY,if_pos hc]
     ·left
      rw [hkeep0.2 i (by omega) (by simpa using hc)]
      show H0[i]? =_
      cases H0[i]? with
      | none=>rfl
      | some e=>rw [uY,if_neg hc]
    obtain ⟨hinv0,hrel,hsub⟩:=o8 hinv hkeep (by have:=hkeep0.1 hlow;omega)
    refine toS2 fun N hN=>hop n0 Bx w B (η.take H1.length) a.eval (fun f=>rfl) hinv0 (fun x hx=>⟨hrel _ _ (hlv x hx) (he x hx).1,(he x hx).2⟩) N (fun v w' g hr hf=>hN v w' g (hr.on (u2 B w') (fun _ h=>.inl h) hsub) hf)
   rotate_left
   ·have hinv0:Inv n0 Bx w B [] (([]:List E2).map exE):=⟨rfl,hinv.base,hinv.sub,hinv.lt,fun id e h=>by simp at h,fun i j ei ej _ h=>by simp at h⟩
    refine toS2 fun N hN=>hop n0 Bx w B [] a.eval (fun f=>rfl) hinv0 (fun x hx=>⟨iY (hbare x hx) (he x hx).1,(he x hx).2⟩) N (fun v w' g hr hf=>hN v w' g (hr.on (u2 B w') (fun _ h=>.inl h) (fun id v h=>by simp at h)) hf)
  ·have hmc:=eq hp
   have hne:j≠p.1:=fun e=>by
    have:=((inC p.1 p.2).1 hmc).2
    rw [←e,hbj] at this;cases this
   rw [getD_set_ne false hne]
   exact hprog m p hp hwp
  ·rw [end1 t (noC t j oj hoj hd hbj)]
   have h6:=q5.keep.2 t (fun p hp hd'=>by
    have hpf:p∈fl:=by rw [hsp];exact uX _ (gt _ hp)
    have:=jW honce (show (ops[p.1]?).bind (·.dst)=some t by rw [((inF p.1 p.2).1 hpf).1];exact hd') (show (ops[j]?).bind (·.dst)=some t by rw [hoj];exact hd)
    have h3:=pl2 p.1 p.2 hp
    omega)
   rw [h6,hd,eW (by rw [q1.keep.1];exact htl)]
 | false=>
  -- one of the others
  obtain ⟨m,hm⟩:∃ m:Nat,cl[m]? =some (j,oj):=by
   obtain ⟨m,hm,e⟩:=uM ((inC j oj).2 ⟨hoj,hbj⟩)
   exact ⟨m,by rw [List.getElem?_eq_getElem hm,e]⟩
  have hmlt:m<cl.length:=(List.getElem?_eq_some_iff.1 hm).1
  have hdrop:cl.drop m=(j,oj)::cl.drop (m+1):=by
   rw [List.drop_eq_getElem_cons hmlt]
   rw [List.getElem?_eq_getElem hmlt] at hm
   injection hm with hm
   rw [hm]
  have hpw:=hP ops.toList fs 0
  rw [←hcl] at hpw
  have htd:cl=cl.take m++(j,oj)::cl.drop (m+1):=by rw [←hdrop,vb]
  have hpw0:=hpw
  rw [htd] at hpw
  obtain ⟨pw1,pw2,pw3⟩:=List.pairwise_append.1 hpw
  have pl1:∀ i o,(i,o)∈cl.take m→i<j:=fun i o hm=>pw3 (i,o) hm (j,oj) ne
  have pl2:∀ i o,(i,o)∈cl.drop (m+1)→j<i:=fun i o hm=>(uS.1 pw2).1 (i,o) hm
  have inCl:∀ p,p∈cl.take m→p∈cl:=fun p hp=>List.mem_of_mem_take hp
  have inCd:∀ p,p∈cl.drop (m+1)→p∈cl:=fun p hp=>List.mem_of_mem_drop hp
  have hslen:∀ stm:S2,T2 P ops wf W.2.1 W (cl.take m) ⟨sl1,H0⟩ stm→stm.slots.length=sl0.length:=fun stm ht1=>by rw [ht1.keep.1];exact hlen1
  have hlookG:∀ stm:S2,T2 P ops wf W.2.1 W (cl.take m) ⟨sl1,H0⟩ stm→T2 P ops wf W.2.1 W ((j,oj)::cl.drop (m+1)) stm st2→∀ t∈oj.looksAt ops,Rel2 w B η (stm.slots.getD t .any) (a.tmps.getD t undef)∧au n0 (ex (stm.slots.getD t .any)) (a.tmps.getD t undef):=fun stm ht1 ht2 t ht=>by
   by_cases hw:∃ (i:Nat) (oi:Oper),ops[i]? =some oi∧oi.dst=some t
   ·obtain ⟨i,oi,hoi,hd⟩:=hw
    have uniq:∀ i' o',ops[i']? =some o'→o'.dst=some t→i'=i:=fun i' o' h h'=>jW honce (show (ops[i']?).bind (·.dst)=some t by rw [h];exact h') (show (ops[i]?).bind (·.dst)=some t by rw [hoi];exact hd)
    obtain ⟨bi,hbi⟩:=hfsj i (Array.getElem?_eq_some_iff.1 hoi).1
    have notin:¬ i<j→∀ p∈cl.take m,p.2.dst≠some t:=fun hlt p hp hd'=>by
     have:=uniq p.1 p.2 ((inC p.1 p.2).1 (inCl p hp)).1 hd'
     have h3:=pl1 p.1 p.2 hp
     omega
    have initial:listed.getD i false=false→fs[i]? =some false→¬ i<j→Rel2 w B η (stm.slots.getD t .any) (a.tmps.getD t undef)∧au n0 (ex (stm.slots.getD t .any)) (a.tmps.getD t undef):=fun hun hf hlt=>by
     rw [ht1.keep.2 t (notin hlt)]
     show Rel2 w B η (sl1.getD t .any) _∧au n0 (ex (sl1.getD t .any)) _
     rw [ini1 t (noF t i oi hoi hd hf)]
     exact (hslot t).2 (fun i' hd'=>by
      obtain ⟨o',ho',hd'⟩:=uI.1 hd'
      rw [uniq i' o' ho' hd'];exact hun)
    rcases wr t ht i oi hoi hd with h | ⟨hlt,hli⟩ | ⟨hlt,hun⟩
    ·subst h;exact initial hjunF hbj (by omega)
    ·have hE:stm.slots.getD t .any=st2.slots.getD t .any:=by
      refine (T2.keep ht2).2 t (fun p hp hd'=> ?_) |>.symm
      rcases uQ.1 hp with h | h
      ·rw [h] at hd'
       have:=uniq j oj hoj hd'
       omega
      ·have h4:=uniq p.1 p.2 ((inC p.1 p.2).1 (inCd p h)).1 hd'
       have:=pl2 p.1 p.2 h
       omega
     rw [hE]
     exact (hslot t).1 ⟨i,by rw [hoi];exact hd,hli⟩
    ·have hdp:=gi hdep hoi hoj hd ht (by omega)
     rw [hfsd j false hbj,if_neg (by simp),hfsd i bi hbi] at hdp
     refine initial hun ?_ (by omega)
     rcases hdp with h | h
     ·rw [hbi,h]
     ·omega
   ·have:=noW t hw
    rw [ht1.keep.2 t (fun p hp=>this.2 p.1 p.2 (inCl p hp))]
    show Rel2 w B η (sl1.getD t .any) _∧au n0 (ex (sl1.getD t .any)) _
    rw [ini1 t this.1]
    exact (hslot t).2 (hnoT t hw)
  have hownG:∀ (stm:S2) (r:V) (H':List E2),stm.slots.length=sl0.length→T2 P ops wf W.2.1 W (cl.drop (m+1)) ⟨setV stm.slots oj.dst r,H'⟩ st2→∀ t,oj.dst=some t→t<sl0.length→st2.slots.getD t .any=r:=fun stm r H' hl q5 t hd htl=>by
   have h6:=q5.keep.2 t (fun p hp hd'=>by
    have:=jW honce (show (ops[p.1]?).bind (·.dst)=some t by rw [((inC p.1 p.2).1 (inCd p hp)).1];exact hd') (show (ops[j]?).bind (·.dst)=some t by rw [hoj];exact hd)
    have h3:=pl2 p.1 p.2 hp
    omega)
   simp only at h6
   rw [h6,hd,eW (by rw [hl];exact htl)]
  have hpj:∀ (m':Nat) p,cl[m']? =some p→p.1=j→m'=m∧p.2=oj:=fun m' p hp he=>by
   have hmc:=eq hp
   have h9:p=(j,oj):=by
    have:=((inC p.1 p.2).1 hmc).1
    rw [he,hoj] at this
    injection this with this
    exact Prod.ext he this.symm
   refine ⟨?_,by rw [h9]⟩
   rw [h9] at hp
   obtain ⟨g1,g2⟩:=List.getElem?_eq_some_iff.1 hp
   obtain ⟨g3,g4⟩:=List.getElem?_eq_some_iff.1 hm
   have hnd:cl.Nodup:=hpw0.imp (fun hlt e=>by rw [e] at hlt;exact Nat.lt_irrefl _ hlt)
   exact (List.getElem_inj hnd).1 (g2.trans g4.symm)
  cases hwf:wf oj with
  | false=>
   -- it writes nothing, and looks at nothing that is written: whenever it comes
   have h2':=h2
   rw [htd] at h2'
   obtain ⟨stm,ht1m,ht2m⟩:=h2'.cut
   have ht2m':=ht2m
   obtain ⟨b,r,H',q2,q3,q4,⟨q4',qf⟩,q5⟩:=ht2m
   obtain ⟨qh,qb⟩:=qf hwf
   refine fin st stm.slots b r k (hslen stm ht1m) q2 (hlookG stm ht1m ht2m') (fun hb he=> ?_) (fun hb=>⟨(q4 hb).1,rfl⟩) ht1 ht2 hk (fun m' p hp hwp=> ?_) (hownG stm r H' (hslen stm ht1m) q5)
   ·have toS2:OpK P n0 w a.eval oj B η r→OpS2 P n0 Bx w a.eval oj B η r st.heap:=fun h N hN=>
     h N (fun v w' g hr hf=>hN v w' B η g.on (fun _ h=>.inl h) (fun _ _ h=>h) (g.bel hinv) (hinv.gk g) hr hf)
    rcases qb hb with ⟨hbare,hop⟩ | hop | ⟨hnl,hlv,hop⟩
    rotate_left
    ·exact toS2 (hop st.heap n0 Bx w B η a.eval (fun f=>rfl) hinv he)
    ·have k1:=ht1.low
     have k2:=ht1m.low
     obtain ⟨H1,hH1⟩:∃ H1,H1=fE W.2.2 0 (stm.heap.take W.2.1):=⟨_,rfl⟩
     rw [←hH1] at hop
     have hlenW:W.2.1=H1.length:=by rw [hH1,dr,List.length_take];omega
     rw [hlenW] at hlv
     have hkeep:∀ i,i<H1.length→st.heap[i]? =H1[i]? ∨H1[i]? =some .dead:=fun i hi=>by
      rw [hH1,fY,List.getElem?_take,if_pos (by omega),Nat.zero_add]
      by_cases hc:W.2.2.contains i=true
      ·right
       have:i<stm.heap.length:=by omega
       rw [List.getElem?_eq_getElem this,uY,if_pos hc]
      ·left
       rw [k1.2 i (by omega) (by simpa using hc),←k2.2 i (by omega) (by simpa using hc)]
       cases stm.heap[i]? with
       | none=>rfl
       | some e=>rw [uY,if_neg hc]
     obtain ⟨hinv0,hrel,hsub⟩:=o8 hinv hkeep (by have:=k1.1 hWl;omega)
     exact toS2 fun N hN=>hop n0 Bx w B (η.take H1.length) a.eval (fun f=>rfl) hinv0 (fun x hx=>⟨hrel _ _ (hlv x hx) (he x hx).1,(he x hx).2⟩) N (fun v w' g hr hf=>hN v w' g (hr.on (u2 B w') (fun _ h=>.inl h) hsub) hf)
    have hinv0:Inv n0 Bx w B [] (([]:List E2).map exE):=⟨rfl,hinv.base,hinv.sub,hinv.lt,fun id e h=>by simp at h,fun i j ei ej _ h=>by simp at h⟩
    exact toS2 fun N hN=>hop n0 Bx w B [] a.eval (fun f=>rfl) hinv0 (fun x hx=>⟨iY (hbare x hx) (he x hx).1,(he x hx).2⟩) N (fun v w' g hr hf=>hN v w' g (hr.on (u2 B w') (fun _ h=>.inl h) (fun id v h=>by simp at h)) hf)
   ·have hne:p.1≠j:=fun e=>by
     have:=(hpj m' p hp e).2
     rw [this,hwf] at hwp;cases hwp
    rw [getD_set_ne false (Ne.symm hne)]
    exact hprog m' p hp hwp
  | true=>
   -- all that write ahead of it have come
   have hlist:∀ (L1 L2:List (Nat×Oper)),L1++(j,oj)::L2=cl.filter (fun p=>wf p.2)→∀ p∈L1,listed.getD p.1 false=true:=by
    intro L1 L2 hL
    rw [←hL] at hchain
    have step:∀ (n:Nat) (y:Nat),y+n+1=L1.length→∀ p,L1[y]? =some p→listed.getD p.1 false=true:=by
     intro n
     induction n with
     | zero=>
      intro y hy p hp
      have h6:=eN _ hchain y p (j,oj) (by rw [List.getElem?_append_left (by omega)];exact hp) (by rw [List.getElem?_append_right (by omega)];rw [show y+1-L1.length=0 by omega];rfl)
      exact oY hi.closed hoj hall h6
     | succ n ih=>
      intro y hy p hp
      have hlt:y+1<L1.length:=by omega
      have h5:=ih (y+1) (by omega) _ (List.getElem?_eq_getElem hlt)
      have h6:=eN _ hchain y p L1[y+1] (by rw [List.getElem?_append_left (by omega)];exact hp) (by rw [List.getElem?_append_left hlt];exact List.getElem?_eq_getElem hlt)
      exact gq hi.closed _ _ _ h6 h5
    intro p hp
    obtain ⟨y,hy,e⟩:=uM hp
    exact step (L1.length-1-y) y (by omega) p (by rw [List.getElem?_eq_getElem hy,e])
   have hfil:cl.filter (fun p=>wf p.2)=(cl.take m).filter (fun p=>wf p.2)++(j,oj)::(cl.drop (m+1)).filter (fun p=>wf p.2):=by
    conv=>lhs;rw [htd]
    rw [List.filter_append,List.filter_cons,if_pos hwf]
   have hbefore:∀ (q:Nat) p,cl[q]? =some p→q<m→wf p.2=true→listed.getD p.1 false=true:=fun q p hq hqm hwp=>
    hlist _ _ hfil.symm p (u7.2 ⟨eq (show (cl.take m)[q]? =some p by rw [List.getElem?_take,if_pos hqm];exact hq),hwp⟩)
   have hkm:k≤m:=by
    rcases uJ m k with h | h
    ·have:=(hprog m (j,oj) hm hwf).2 h
     rw [hjunF] at this;cases this
    ·exact h
   have hmid:∀ (q:Nat) p,cl[q]? =some p→k≤q→q<m→wf p.2=false:=fun q p hq hkq hqm=>by
    cases hwp:wf p.2 with
    | false=>rfl
    | true=>
     have h5:=(hprog q p hq hwp).1 (hbefore q p hq hqm hwp)
     omega
   have hseg:cl.drop k=(cl.drop k).take (m-k)++(j,oj)::cl.drop (m+1):=by
    rw [←hdrop]
    conv=>lhs;rw [←vb (m-k) (cl.drop k)]
    rw [List.drop_drop,show k+(m-k)=m by omega]
   have ht2':=ht2
   rw [hseg] at ht2'
   obtain ⟨stm,htm,ht2m⟩:=ht2'.cut
   have hheap:stm.heap=st.heap:=htm.still (fun p hp=>by
    obtain ⟨y,hy,e⟩:=uM hp
    rw [List.length_take,List.length_drop] at hy
    have h5:cl[k+y]? =some p:=by
     rw [←e,List.getElem_take,List.getElem_drop]
     exact List.getElem?_eq_getElem (by omega)
    exact hmid (k+y) p h5 (by omega) (by omega))
   have ht1m:T2 P ops wf W.2.1 W (cl.take m) ⟨sl1,H0⟩ stm:=by
    have h5:=T2.append ht1 htm
    have h6:cl.take k++(cl.drop k).take (m-k)=cl.take m:=by
     rw [←List.take_add,show k+(m-k)=m by omega]
    rw [h6] at h5;exact h5
   have ht2m':=ht2m
   obtain ⟨b,r,H',q2,q3,q4,⟨q4',qf⟩,q5⟩:=ht2m
   have hinvm:Inv n0 Bx w B η (stm.heap.map exE):=by rw [hheap];exact hinv
   refine fin ⟨setV stm.slots oj.dst r,H'⟩ stm.slots b r (m+1) (hslen stm ht1m) q2 (hlookG stm ht1m ht2m') (fun hb he=>q3 hb hwf n0 Bx w B η a.eval (fun f=>rfl) hinvm he) (fun hb=>⟨(q4 hb).1,(q4 hb).2.trans hheap⟩) ?_ q5 hmlt (fun m' p hp hwp=> ?_) (hownG stm r H' (hslen stm ht1m) q5)
   ·rw [List.take_add_one,hm]
    exact T2.snoc ht1m ⟨b,r,H',q2,q3,q4,⟨q4',qf⟩,rfl⟩
   ·by_cases he:p.1=j
    ·obtain ⟨rfl,_⟩:=hpj m' p hp he
     rw [he]
     simp [hjl]
    ·rw [getD_set_ne false (Ne.symm he),hprog m' p hp hwp]
     constructor
     ·intro h;omega
     ·intro h
      rcases uJ m' k with h' | h'
      ·exact h'
      ·rcases uJ m' m with h'' | h''
       ·have:=hmid m' p hp h' h''
        rw [hwp] at this;cases this
       ·have:m'=m:=by omega
        subst this
        rw [hm] at hp
        injection hp with hp
        exact absurd (by rw [←hp]) he
theorem rx {inl:FuncId→Bool}(hB:pI inl ops=true){st0 st2:S2}{sl1:List V}
  (hWl:W.2.1≤st0.heap.length) (h1:T1 P ops (clR 0 ops.toList (aC inl ops)) W st0.heap (flR 0 ops.toList (aC inl ops)) st0.slots sl1) (h2:T2 P ops (wfOf inl ops (clR 0 ops.toList (aC inl ops))) W.2.1 W (clR 0 ops.toList (aC inl ops)) ⟨sl1,st0.heap⟩ st2)
  {n0 m0:Nat} {Bx:List Nat} {ds:List Deferred} {a:Act} {w:World} {B:List Nat} {η:List Value} {Q:Exit→Act→World→Prop} (hs:SimK n0 Bx ds st0 a w B η)
  (hQ:∀ a' w' B' η',SimK n0 Bx ds st2 a' w' B' η'→Goes n0 Bx m0 w B η w' B' η'→Q .normal a' w'):wpAny P .any ops Q ops.size (uW ops.size false) a { w with drawn:=w.drawn+1 }:=by
 have g0:Gr w { w with drawn:=w.drawn+1 }:=⟨rfl,rfl,rfl,uV _,fun _ _=>rfl⟩
 have hB':=hB
 simp only [pI,ge,beq_iff_eq] at hB'
 obtain ⟨⟨⟨⟨⟨⟨hsel,hback⟩,honce⟩,hdata⟩,hchain,hfirst⟩,hdep⟩,hfsl⟩:=hB'
 have hcount:((u1 ops.size).filter fun i=>!(uW ops.size false).getD i false).length=ops.size:=by
  rw [List.filter_eq_self.2 (fun i _=>by rw [getD_replicate_false];rfl),List.length_range]
 have inv0:HeadInv .any ops ops.size (uW ops.size false):=
  ⟨by simp,fun j oj _ hl=>(by rw [getD_replicate_false] at hl;cases hl),fun t ht1 ht2=>by omega⟩
 refine hS (DInv P ops (wfOf inl ops (clR 0 ops.toList (aC inl ops))) (clR 0 ops.toList (aC inl ops)) W st0.slots sl1 st0.heap st2 n0 m0 Bx ds { w with drawn:=w.drawn+1 } B η) hback (pJ rfl rfl hsel hback honce hdata hchain hfirst hdep hfsl hWl h1 h2) ?_ ops.size _ a _ hcount inv0 ?_
 ·intro listed a' w' hi hall ⟨k,st,B',η',t1,t2,hk,hprog,hdef,hsz,hinv,hgo,hslot⟩
  have hst:∀ p∈(clR 0 ops.toList (aC inl ops)).drop k,wfOf inl ops (clR 0 ops.toList (aC inl ops)) p.2=false:=fun p hp=>by
   obtain ⟨y,hy,e⟩:=uM hp
   rw [List.length_drop] at hy
   have h5:(clR 0 ops.toList (aC inl ops))[k+y]? =some p:=by rw [←e,List.getElem_drop];exact List.getElem?_eq_getElem (by omega)
   cases hwp:wfOf inl ops (clR 0 ops.toList (aC inl ops)) p.2 with
   | false=>rfl
   | true=>
    have h3:=hprog (k+y) p h5 hwp
    have h4:=(eM ops.toList (aC inl ops) 0 _ _).1 (eq h5)
    have h6:p.1<ops.size:=by
     have:=(List.getElem?_eq_some_iff.1 h4.2.1).1
     simpa using this
    have:=h3.1 (hall _ h6)
    omega
  have hheap:st2.heap=st.heap:=t2.still hst
  refine hQ a' w' B' η' ⟨hdef,by rw [hheap];exact hinv, ?_⟩ ⟨(On.gr g0).trans hgo.on (fun _ h=>.inl h),fun b hb=>hgo.hB b hb,hgo.hη,Bel.trans (Gr.bel g0 hs.inv.base.1) hgo.below⟩
  have key:∀ t,Rel2 w' B' η' (st2.slots.getD t .any) (a'.tmps.getD t undef)∧au n0 (ex (st2.slots.getD t .any)) (a'.tmps.getD t undef):=fun t=>by
   by_cases hw:∃ (i:Nat) (oi:Oper),ops[i]? =some oi∧oi.dst=some t
   ·obtain ⟨i,oi,hoi,hd⟩:=hw
    exact (hslot t).1 ⟨i,by rw [hoi];exact hd,hall i (Array.getElem?_eq_some_iff.1 hoi).1⟩
   ·have nf:∀ p∈flR 0 ops.toList (aC inl ops),p.2.dst≠some t:=fun p hp hd=>hw ⟨p.1,p.2,by have:=((gI ops.toList (aC inl ops) 0 p.1 p.2).1 hp).2.1;simpa using this,hd⟩
    have nc:∀ p∈clR 0 ops.toList (aC inl ops),p.2.dst≠some t:=fun p hp hd=>hw ⟨p.1,p.2,by have:=((eM ops.toList (aC inl ops) 0 p.1 p.2).1 hp).2.1;simpa using this,hd⟩
    rw [h2.keep.2 t nc]
    show Rel2 w' B' η' (sl1.getD t .any) _∧au n0 (ex (sl1.getD t .any)) _
    rw [h1.keep.2 t nf]
    exact (hslot t).2 (fun i hd=>by
     obtain ⟨o,ho,hd⟩:=uI.1 hd
     exact absurd ⟨i,o,ho,hd⟩ hw)
  refine ⟨?_,fun t=>(key t).1,fun t=>(key t).2⟩
  rw [hsz,h2.keep.1]
  exact h1.keep.1
 ·refine ⟨0,⟨sl1,st0.heap⟩,B,η,rfl,h2,Nat.zero_le _,fun m p hp _=>⟨fun h=>(by rw [getD_replicate_false] at h;cases h),fun h=>by omega⟩,hs.defers,hs.slots.size.symm,hs.inv.gr g0,u3 _ _ _ _ _ _,fun t=>⟨fun ⟨i,_,h⟩=>(by rw [getD_replicate_false] at h;cases h),fun _=>⟨(hs.slots.rel t).gk (Gk.gr (n0:=n0) g0),hs.slots.fresh t⟩⟩⟩
theorem th (hm:P.follows .mixedOrders=true){id:Nat}{inl:FuncId→Bool}(hB:pI inl ops=true){st0 st2:S2}{sl1:List V}
  (hWl:W.2.1≤st0.heap.length) (h1:T1 P ops (clR 0 ops.toList (aC inl ops)) W st0.heap (flR 0 ops.toList (aC inl ops)) st0.slots sl1) (h2:T2 P ops (wfOf inl ops (clR 0 ops.toList (aC inl ops))) W.2.1 W (clR 0 ops.toList (aC inl ops)) ⟨sl1,st0.heap⟩ st2)
  {n0 m0:Nat} {Bx:List Nat} {ds:List Deferred} {a:Act} {w:World} {B:List Nat} {η:List Value} {Q:Exit→Act→World→Prop} (hs:SimK n0 Bx ds st0 a w B η)
  (hQ:∀ a' w' B' η',SimK n0 Bx ds st2 a' w' B' η'→Goes n0 Bx m0 w B η w' B' η'→Q .normal a' w'):(Code.region id ops true).wp P Q a w:=
 wp_region_any hm (rx hB hWl h1 h2 hs hQ)
end
structure Grp where
 j:Nat
 t:Tmp
 T:TypeId
 s:Option (Nat×Operand)
def c5 (t:Tmp)(p:Nat×Oper):Option (Nat×Operand):=match p.2.op with
 | .store _ (.tmp t') x=>if t'=t then some (p.1,x) else none
 | _=>none
def cM (cl:List (Nat×Oper)):List (Nat×Oper)→List Grp
 | []=>[]
 | (j,o)::l=>match o.op,o.dst with
  | .alloc T,some t=>⟨j,t,T,cl.findSome? (c5 t)⟩::cM cl l
  | _,_=>cM cl l
def rX (t:Tmp)(T:TypeId)(n:Nat)(q:Nat×Oper):Bool:=q.2.dst==some t&&decide (q.1<n)&&(match q.2.op with | .alloc T'=>T'==T | _=>false)
def nu (cl:List (Nat×Oper))(p:Nat×Oper):Bool:=p.2.guard.isNone&&(match p.2.op,p.2.dst with
 | .alloc _,some _=>true
 | .store T (.tmp t) x,none=>cl.any (rX t T p.1)&&(match x with | .tmp t'=>cl.all (fun q=>q.2.dst !=some t') | _=>true)&&cl.all fun q=>(c5 t q).isNone||q.1==p.1
 | _,_=>false)
def uo (cl:List (Nat×Oper)):Bool:=cl.all (nu cl)
def rz (inl:FuncId→Bool)(ops:Array Oper):Bool:=uo (clR 0 ops.toList (aC inl ops))&& !eO ops (clR 0 ops.toList (aC inl ops))
def oh (inl:FuncId→Bool)(ops:Array Oper):Bool:=
 rz inl ops&&(Region.noSelect ops&&rO ops&&l8 ops ops.size&&pL ops ops.size&&depB ops (aC inl ops)&&((aC inl ops).length==ops.size))
section
variable {R:Type}
def oD (P:Program)(T:TypeId)(v:Value):E2:=.box (fC P T (v.cells.toList.map ck)) T
def oneK (P:Program)(sl:List V)(g:Grp)(k:E2→E2→Tree R):Tree R:=
 match qI P g.T with
 | none=>.fail
 | some v=>match g.s with
  | none=>k (oD P g.T v) (oD P g.T v)
  | some (_,x)=>match dz (opV sl x) with
   | none=>.fail
   | some s=>if wL s=P.cellsOf g.T∧0<P.cellsOf g.T∧s.all oneV=true then (match putV (fC P g.T (v.cells.toList.map ck)) 0 s with
    | some l'=>k (oD P g.T v) (.box (fC P g.T l') g.T)
    | none=>.fail) else .fail
def ut (P:Program)(sl:List V)(g:Grp)(y:E2×E2):Prop:=∃ v,qI P g.T=some v∧y.1=oD P g.T v∧(g.s=none→y.2=y.1)∧
 ∀ i x,g.s=some (i,x)→∃ s l',dz (opV sl x)=some s∧wL s=P.cellsOf g.T∧0<P.cellsOf g.T∧s.all oneV=true∧putV (fC P g.T (v.cells.toList.map ck)) 0 s=some l'∧y.2= .box (fC P g.T l') g.T
theorem sJ {P:Program}{sl:List V}{g:Grp}{k:E2→E2→Tree R}{res:R}(h:(oneK P sl g k).run=some res):∃ y:E2×E2,(k y.1 y.2).run=some res∧ut P sl g y:=by
 unfold oneK at h
 split at h
 ·cases h
 ·rename_i v hz
  split at h
  ·rename_i hs
   exact ⟨(_,_),h,v,hz,rfl,fun _=>rfl,fun i x hx=>by rw [hs] at hx;cases hx⟩
  ·rename_i j x hs
   split at h
   ·cases h
   ·rename_i s hsg
    split at h
    ·rename_i hc
     split at h
     ·rename_i l' hput
      refine ⟨(_,_),h,v,hz,rfl,fun hn=>(by rw [hs] at hn;cases hn),fun i x' hx=> ?_⟩
      rw [hs] at hx
      injection hx with hx
      injection hx with hx1 hx2
      subst hx2
      exact ⟨s,l',hsg,hc.1,hc.2.1,hc.2.2,hput,rfl⟩
     ·cases h
    ·cases h
def rk (P:Program)(sl:List V):List Grp→(List E2→Tree R)→Tree R
 | [],k=>k []
 | g::gs,k=>oneK P sl g fun _ f=>rk P sl gs fun m=>k (f::m)
def YsOK (P:Program)(sl:List V)(gs:List Grp)(ys:List (E2×E2)):Prop:=ys.length=gs.length∧∀ (i:Nat) g y,gs[i]? =some g→ys[i]? =some y→ut P sl g y
theorem nb {P:Program}{sl:List V}:∀ {gs:List Grp} {k:List E2→Tree R} {res:R},(rk P sl gs k).run=some res→∃ ys,(k (ys.map (·.2))).run=some res∧YsOK P sl gs ys
 | [],k,res,h=>⟨[],h,rfl,fun i g y hg=>by simp at hg⟩
 | g::gs,k,res,h=>by
  unfold rk at h
  obtain ⟨y,h1,h2⟩:=sJ h
  obtain ⟨ys,h3,h4,h5⟩:=nb h1
  refine ⟨y::ys,h3,by simp [h4],fun i g' y' hg hy=> ?_⟩
  cases i with
  | zero=>simp at hg hy;subst hg hy;exact h2
  | succ i=>exact h5 i g' y' (by simpa using hg) (by simpa using hy)
def setG:List V→Nat→List Grp→List V
 | sl,_,[]=>sl
 | sl,n,g::gs=>setG (sl.set g.t (.box n 0)) (n+1) gs
theorem ia:∀ (gs:List Grp) (sl:List V) (n:Nat),(setG sl n gs).length=sl.length
 | [],sl,n=>rfl
 | g::gs,sl,n=>by rw [setG,ia gs];simp
theorem ib:∀ (gs:List Grp) (sl:List V) (n:Nat) (t:Nat),(∀ g∈gs,g.t≠t)→(setG sl n gs).getD t .any=sl.getD t .any
 | [],sl,n,t,h=>rfl
 | g::gs,sl,n,t,h=>by
  rw [setG,ib gs _ _ t (fun g' hg=>h g' (gt _ hg))]
  have:=h g ne
  simp [List.getD_eq_getElem?_getD,List.getElem?_set_ne this]
theorem mT:∀ (gs:List Grp) (sl:List V) (n i:Nat) (g:Grp),gs[i]? =some g→(∀ i' g',gs[i']? =some g'→g'.t=g.t→i'=i)→g.t<sl.length→(setG sl n gs).getD g.t .any= .box (n+i) 0
 | [],sl,n,i,g,h,_,_=>by simp at h
 | g0::gs,sl,n,i,g,h,hu,hlt=>by
  rw [setG]
  cases i with
  | zero=>
   simp at h;subst h
   rw [ib gs _ _ _ (fun g' hg hc=>by
    obtain ⟨i',hi',e⟩:=uM hg
    have:=hu (i'+1) g' (by rw [List.getElem?_cons_succ,List.getElem?_eq_getElem hi',e]) hc
    omega)]
   simp [List.getD_eq_getElem?_getD,hlt]
  | succ i=>
   rw [mT gs _ (n+1) i g (by simpa using h) (fun i' g' hg hc=>by have:=hu (i'+1) g' (by simpa using hg) hc;omega) (by simpa using hlt)]
   congr 1;omega
def rA (P:Program)(cl:List (Nat×Oper))(sl:List V)(H:List E2)(k:S2→Tree R):Tree R:=
 if (cM cl cl).all (fun g=>decide (g.t<sl.length))=true then rk P sl (cM cl cl) fun m=>gb (setG sl H.length (cM cl cl)) fun sl'=>k ⟨sl',H++m⟩ else .fail
def evFd (P:Program)(F:Fns R)(ops:Array Oper)(H:List E2):List (Nat×Oper)→List V→(List V→Tree R)→Tree R
 | [],sl,k=>k sl
 | (j,o)::rest,sl,k=>lE ops sl o
  (fun sl=>evNF P F H (opV sl) o.op fun r=>cn sl o.dst r fun sl'=>evFd P F ops H rest sl' k)
  (fun sl=>cn sl o.dst (.c undef) fun sl'=>evFd P F ops H rest sl' k)
def T1d (P:Program)(ops:Array Oper)(H:List E2):List (Nat×Oper)→List V→List V→Prop
 | [],sl,sl'=>sl'=sl
 | (j,o)::rest,sl,sl'=>∃ b r,Wt ops o sl b∧(b=true→OpsN P H o sl r)∧(b=false→r= .c undef)∧T1d P ops H rest (setV sl o.dst r) sl'
theorem mu {P:Program}{F:Fns R}(hF:FnsOK P F){ops:Array Oper}{H:List E2}:∀ (l:List (Nat×Oper)) (sl:List V) (k:List V→Tree R) (res:R),(evFd P F ops H l sl k).run=some res→∃ sl',(k sl').run=some res∧T1d P ops H l sl sl'
 | [],sl,k,res,h=>⟨sl,h,rfl⟩
 | (j,o)::rest,sl,k,res,h=>by
  unfold evFd at h
  obtain ⟨b,h1,hwant⟩:=fL h
  clear h
  cases b with
  | true=>
   simp only [if_true] at h1
   obtain ⟨r,h2,h3⟩:=ec hF h1
   rw [aW] at h2
   obtain ⟨sl',h4,h5⟩:=mu hF rest _ k res h2
   exact ⟨sl',h4,true,r,hwant,fun _=>h3,nofun,h5⟩
  | false=>
   simp only [uR,if_false] at h1
   rw [aW] at h1
   obtain ⟨sl',h4,h5⟩:=mu hF rest _ k res h1
   exact ⟨sl',h4,false,_,hwant,nofun,fun _=>rfl,h5⟩
end
section
variable {P:Program} {ops:Array Oper} {H:List E2}
theorem T1d.keep:∀ {l:List (Nat×Oper)} {sl sl':List V},T1d P ops H l sl sl'→sl'.length=sl.length∧∀ t,(∀ p∈l,p.2.dst≠some t)→sl'.getD t .any=sl.getD t .any
 | [],sl,sl',h=>by
  have h:sl'=sl:=h
  subst h;exact ⟨rfl,fun _ _=>rfl⟩
 | (j,o)::rest,sl,sl',h=>by
  obtain ⟨b,r,_,_,_,h5⟩:=h
  obtain ⟨k1,k2⟩:=T1d.keep h5
  exact ⟨by rw [k1,bg],fun t ht=>by rw [k2 t (fun p hp=>ht p (gt _ hp)),cI (ht (j,o) ne)]⟩
theorem T1d.cut:∀ {l1 l2:List (Nat×Oper)} {sl sl':List V},T1d P ops H (l1++l2) sl sl'→∃ m,T1d P ops H l1 sl m∧T1d P ops H l2 m sl'
 | [],l2,sl,sl',h=>⟨sl,rfl,h⟩
 | (j,o)::l1,l2,sl,sl',h=>by
  obtain ⟨b,r,h2,h3,h4,h5⟩:=h
  obtain ⟨m,k1,k2⟩:=T1d.cut h5
  exact ⟨m,⟨b,r,h2,h3,h4,k1⟩,k2⟩
theorem gO {t:Tmp}{p:Nat×Oper}{s:Nat×Operand}(h:c5 t p=some s):∃ T,p.2.op= .store T (.tmp t) s.2∧p.1=s.1:=by
 unfold c5 at h
 split at h
 ·rename_i T t' x ho
  split at h
  ·rename_i e
   subst e
   injection h with h
   subst h
   exact ⟨T,ho,rfl⟩
  ·cases h
 ·cases h
theorem dQ {cl:List (Nat×Oper)}:∀ {l:List (Nat×Oper)} {g:Grp},g∈cM cl l→∃ o,(g.j,o)∈l∧o.op= .alloc g.T∧o.dst=some g.t∧g.s=cl.findSome? (c5 g.t)
 | [],g,h=>by cases h
 | (j,o)::l,g,h=>by
  unfold cM at h
  split at h
  ·rename_i T t ho hd
   rcases uQ.1 h with rfl | h
   ·exact ⟨o,ne,ho,hd,rfl⟩
   ·obtain ⟨o',h1,h2⟩:=dQ h
    exact ⟨o',gt _ h1,h2⟩
  ·obtain ⟨o',h1,h2⟩:=dQ h
   exact ⟨o',gt _ h1,h2⟩
theorem mj {cl:List (Nat×Oper)}(i:Nat)(p:Oper)(l:List (Nat×Oper)){g:Grp}(h:g∈cM cl l):g∈cM cl ((i,p)::l):=by
 unfold cM
 split
 ·exact gt _ h
 ·exact h
theorem mh {cl:List (Nat×Oper)}{j:Nat}{o:Oper}(l:List (Nat×Oper)){T:TypeId}{t:Tmp}(ho:o.op= .alloc T)(hd:o.dst=some t):∃ g∈cM cl ((j,o)::l),g.j=j∧g.t=t∧g.T=T∧g.s=cl.findSome? (c5 t):=by
 unfold cM
 simp only [ho,hd]
 exact ⟨_,ne,rfl,rfl,rfl,rfl⟩
theorem jx {cl:List (Nat×Oper)}{j:Nat}{o:Oper}{T:TypeId}{t:Tmp}(ho:o.op= .alloc T)(hd:o.dst=some t):∀ (l:List (Nat×Oper)),(j,o)∈l→∃ g∈cM cl l,g.j=j∧g.t=t∧g.T=T∧g.s=cl.findSome? (c5 t):=by
 intro l
 induction l with
 | nil=>intro h;cases h
 | cons p l ih=>
  intro h
  rcases uQ.1 h with h | h
  ·subst h
   exact mh l ho hd
  ·obtain ⟨g,h1,h2⟩:=ih h
   exact ⟨g,mj p.1 p.2 l h1,h2⟩
theorem eJ {cl:List (Nat×Oper)}{j:Nat}{o:Oper}(h:nu cl (j,o)=true):o.guard=none∧((∃ T t,o.op= .alloc T∧o.dst=some t)∨(∃ T t x,o.op= .store T (.tmp t) x∧o.dst=none∧(∃ q∈cl,q.2.dst=some t∧q.1<j∧q.2.op= .alloc T)∧(∀ t',x= .tmp t'→∀ q∈cl,q.2.dst≠some t')∧∀ q∈cl,c5 t q≠none→q.1=j)):=by
 unfold nu at h
 rw [ge] at h
 obtain ⟨h0,h⟩:=h
 refine ⟨by simpa using h0, ?_⟩
 split at h
 ·rename_i T t ho hd;exact .inl ⟨T,t,ho,hd⟩
 ·rename_i T t x ho hd
  rw [ge,ge] at h
  obtain ⟨⟨h1,h2⟩,h3⟩:=h
  refine .inr ⟨T,t,x,ho,hd, ?_,fun t' hx q hq=> ?_,fun q hq hne=> ?_⟩
  ·obtain ⟨q,hq,hm⟩:=List.any_eq_true.1 h1
   unfold rX at hm
   simp only [ge,beq_iff_eq,decide_eq_true_eq] at hm
   obtain ⟨⟨m1,m2⟩,m3⟩:=hm
   refine ⟨q,hq,m1,m2, ?_⟩
   split at m3
   ·rename_i T' hT;rw [hT,beq_iff_eq.1 m3]
   ·cases m3
  ·subst hx
   have:=uN.1 h2 q hq
   simpa using this
  ·have:=uN.1 h3 q hq
   simp only [u9,Option.isNone_iff_eq_none,beq_iff_eq] at this
   exact this.elim (fun h=>absurd h hne) id
 ·cases h
theorem Inv.other {n0:Nat}{Bx:List Nat}{w w':World}{B B':List Nat}{η:List Value}{Hs:List Ent}(inv:Inv n0 Bx w B η Hs)(g:On B w w')(hB:∀ b∈B',b∈B∨w.heap.size≤b)(hs:∀ b∈B,b∈B')(hlt:∀ b∈B',b<w'.heap.size)
  (hb:∀ id e,Hs[id]? =some e→e.live=true→∀ b,aO (η.getD id undef)=some b→w'.heap[b]? =w.heap[b]?):Inv n0 Bx w' B' η Hs:=
 ⟨inv.len,⟨Nat.le_trans inv.base.1 g.size,inv.base.2.on g hB⟩,fun b hb'=>hs b (inv.sub b hb'),hlt,fun id e he=>aF.keep (inv.ent id e he) g hB hs (fun _ _ h=>h) (hb id e he),inv.sep⟩
theorem Inv.snoc {n0:Nat}{Bx:List Nat}{w:World}{B:List Nat}{η:List Value}{Hs:List Ent}{v:Value}{e:Ent}(inv:Inv n0 Bx w B η Hs)(he:aF n0 Bx w B (η++[v]) v e)
  (hs:∀ id e',Hs[id]? =some e'→e'.live=true→∀ b,aO (η.getD id undef)=some b→aO v≠some b):Inv n0 Bx w B (η++[v]) (Hs++[e]):=by
 refine ⟨by simp [inv.len],inv.base,inv.sub,inv.lt,fun id e' h=> ?_,fun i j ei ej hij hi hj hli hlj c hc=> ?_⟩
 ·rcases uJ id Hs.length with hid | hid
  ·rw [List.getElem?_append_left hid] at h
   rw [ai (by rw [inv.len];exact hid)]
   exact aF.keep (inv.ent id e' h) (u2 B w) (fun _ h=>.inl h) (fun _ h=>h) (aq η v) (fun _ _ _=>rfl)
  ·rw [List.getElem?_append_right hid] at h
   have:id=Hs.length:=by have:=(List.getElem?_eq_some_iff.1 h).1;simp at this;omega
   subst this
   simp at h;subst h
   rw [←inv.len,ak];exact he
 ·have key:∀ (i:Nat) (ei:Ent),(Hs++[e])[i]? =some ei→(i<Hs.length∧Hs[i]? =some ei∧(η++[v]).getD i undef=η.getD i undef)∨(i=Hs.length∧(η++[v]).getD i undef=v):=by
   intro i ei h
   rcases uJ i Hs.length with hid | hid
   ·exact .inl ⟨hid,by rwa [List.getElem?_append_left hid] at h,ai (by rw [inv.len];exact hid)⟩
   ·have:i=Hs.length:=by
     rw [List.getElem?_append_right hid] at h
     have:=(List.getElem?_eq_some_iff.1 h).1;simp at this;omega
    subst this
    exact .inr ⟨rfl,by rw [←inv.len,ak]⟩
  rcases key i ei hi with ⟨h1,h2,h3⟩ | ⟨h1,h3⟩ <;> rcases key j ej hj with ⟨k1,k2,k3⟩ | ⟨k1,k3⟩
  ·rw [h3] at hc;rw [k3];exact inv.sep i j ei ej hij h2 k2 hli hlj c hc
  ·rw [h3] at hc;rw [k3];exact hs i ei h2 hli c hc
  ·rw [h3] at hc;rw [k3]
   intro hcc
   exact hs j ej k2 hlj c hcc hc
  ·omega
theorem aF.ext {n0:Nat}{Bx:List Nat}{w:World}{B:List Nat}{η η':List Value}{v:Value}{e:Ent}(h:aF n0 Bx w B η v e)(he:∀ (id:Nat) v,η[id]? =some v→η'[id]? =some v):aF n0 Bx w B η' v e:=
 aF.keep h (u2 B w) (fun _ h=>.inl h) (fun _ h=>h) he (fun _ _ _=>rfl)
theorem Inv.snocs {n0:Nat}{Bx:List Nat}{w:World}{B:List Nat}{η0:List Value}{base:Nat}:∀ (l:List (Value×E2)) (η:List Value) (Hs:List E2),Inv n0 Bx w B η (Hs.map exE)→(∀ (id:Nat) v,η0[id]? =some v→η[id]? =some v)→
  (∀ p∈l,aF n0 Bx w B η0 p.1 (exE p.2))→(∀ p∈l,∀ id e',(Hs.map exE)[id]? =some e'→e'.live=true→∀ b,aO (η.getD id undef)=some b→aO p.1≠some b)→(l.Pairwise fun p q=>∀ b,aO p.1=some b→aO q.1≠some b)→
  Inv n0 Bx w B (η++l.map (·.1)) ((Hs++l.map (·.2)).map exE)
 | [],η,Hs,inv,_,_,_,_=>by simpa using inv
 | (v,e)::l,η,Hs,inv,hη,he,hs,hp=>by
  obtain ⟨p1,p2⟩:=uS.1 hp
  have inv1:=inv.snoc ((he (v,e) ne).ext fun id v' h=>aq η v id v' (hη id v' h)) (hs (v,e) ne)
  have hl:=inv.len
  simp only [vj] at hl
  have hbase:=Inv.snocs (η0:=η0) (base:=base) l (η++[v]) (Hs++[e]) (by simpa using inv1) (fun id v' h=>aq η v id v' (hη id v' h)) (fun p hp'=>he p (gt _ hp')) (fun p hp' id e' hid hli b hb=>by
   rcases uJ id Hs.length with h | h
   ·rw [ai (by omega)] at hb
    refine hs p (gt _ hp') id e' ?_ hli b hb
    rw [vi,List.getElem?_append_left (by simpa using h)] at hid
    exact hid
   ·have hz:id=Hs.length:=by
     have:=(List.getElem?_eq_some_iff.1 hid).1
     simp at this;omega
    subst hz
    rw [←hl,ak] at hb
    exact p1 p hp' b hb) p2
  simpa using hbase
def stB (listed:Array Bool)(g:Grp):Bool:=match g.s with
 | some (s,_)=>listed.getD s false
 | none=>false
def curE (listed:Array Bool)(g:Grp)(y:E2×E2):E2:=if stB listed g=true then y.2 else y.1
structure DG (ops:Array Oper) (fs:List Bool) (gs:List Grp) (ys:List (E2×E2)) (sl0 sl1:List V) (H0:List E2) (n0 m0:Nat) (Bx:List Nat) (ds:List Deferred) (w0:World) (B0:List Nat) (η0:List Value) (listed:Array Bool) (a:Act) (w:World) (B:List Nat):Prop where
 defers:a.defers=ds
 size:a.tmps.size=sl0.length
 inv:Inv n0 Bx w B η0 (H0.map exE)
 goes:Goes n0 Bx m0 w0 B0 η0 w B η0
 done:∀ t i o,ops[i]? =some o→o.dst=some t→fs[i]? =some true→listed.getD i false=true→Rel2 w B η0 (sl1.getD t .any) (a.tmps.getD t undef)∧au n0 (ex (sl1.getD t .any)) (a.tmps.getD t undef)
 todo:∀ t,(∀ i,(ops[i]?).bind (·.dst)=some t→listed.getD i false=false)→Rel2 w B η0 (sl0.getD t .any) (a.tmps.getD t undef)∧au n0 (ex (sl0.getD t .any)) (a.tmps.getD t undef)
 box:∀ (i:Nat) g y,gs[i]? =some g→ys[i]? =some y→listed.getD g.j false=true→aF n0 Bx w B η0 (a.tmps.getD g.t undef) (exE (curE listed g y))∧∀ b,aO (a.tmps.getD g.t undef)=some b→w0.heap.size≤b
 sep:∀ (i i':Nat) g g',i≠i'→gs[i]? =some g→gs[i']? =some g'→listed.getD g.j false=true→listed.getD g'.j false=true→∀ b,aO (a.tmps.getD g.t undef)=some b→aO (a.tmps.getD g'.t undef)≠some b
theorem fF {cl:List (Nat×Oper)}:∀ {l:List (Nat×Oper)},(l.Pairwise fun p q=>p.1<q.1)→(cM cl l).Pairwise fun p q=>p.j<q.j
 | [],_=>List.Pairwise.nil
 | (j,o)::l,h=>by
  obtain ⟨h1,h2⟩:=uS.1 h
  unfold cM
  split
  ·refine uS.2 ⟨fun g hg=> ?_,fF h2⟩
   obtain ⟨o',m,_⟩:=dQ hg
   exact h1 _ m
  ·exact fF h2
theorem nR {α:Type}{f:α→Nat}:∀ {l:List α},(l.Pairwise fun p q=>f p<f q)→∀ (i i':Nat) p q,l[i]? =some p→l[i']? =some q→f p=f q→i=i':=fun {l} h i i' p q hi hi' e=>by
 obtain ⟨a1,a2⟩:=List.getElem?_eq_some_iff.1 hi
 obtain ⟨b1,b2⟩:=List.getElem?_eq_some_iff.1 hi'
 rcases Nat.lt_trichotomy i i' with h1 | h1 | h1
 ·have:=vh.1 h i i' a1 b1 h1
  rw [a2,b2] at this;omega
 ·exact h1
 ·have:=vh.1 h i' i b1 a1 h1
  rw [a2,b2] at this;omega
theorem eH {α β:Type}{f:α→Option β}:∀ {l:List α} {y:β},l.findSome? f=some y→∃ x∈l,f x=some y
 | x::l,y,h=>by
  rw [List.findSome?_cons] at h
  split at h
  ·rename_i z hz
   exact ⟨x,ne,by rw [hz];exact h⟩
  ·obtain ⟨x',h1,h2⟩:=eH h
   exact ⟨x',gt _ h1,h2⟩
theorem gc {α β:Type}{f:α→Option β}:∀ {l:List α} {x:α},x∈l→f x≠none→l.findSome? f≠none
 | y::l,x,h,hx=>by
  rw [List.findSome?_cons]
  rcases uQ.1 h with rfl | h
  ·split
   ·intro hc;cases hc
   ·rename_i hn;exact absurd hn hx
  ·split
   ·intro hc;cases hc
   ·exact gc h hx
end
section
variable {R:Type} {P:Program} {ops:Array Oper}
structure GsOK (ops:Array Oper) (fs:List Bool) (cl:List (Nat×Oper)) (gs:List Grp):Prop where
 make:∀ g∈gs,∃ o,ops[g.j]? =some o∧fs[g.j]? =some false∧o.op= .alloc g.T∧o.dst=some g.t∧o.guard=none
 fill:∀ g∈gs,∀ s x,g.s=some (s,x)→∃ o,ops[s]? =some o∧fs[s]? =some false∧o.op= .store g.T (.tmp g.t) x∧o.dst=none∧o.guard=none∧g.j<s∧∀ t',x= .tmp t'→∀ q∈cl,q.2.dst≠some t'
 part:∀ j o,(j,o)∈cl→(∃ (i:Nat) (g:Grp),gs[i]? =some g∧g.j=j)∨(∃ (i:Nat) (g:Grp) (x:Operand),gs[i]? =some g∧g.s=some (j,x))
 uniq:∀ (i i':Nat) g g',gs[i]? =some g→gs[i']? =some g'→g.t=g'.t→i=i'
theorem s8 {fs:List Bool}{cl:List (Nat×Oper)}(hcl:cl=clR 0 ops.toList fs)(hdecl:uo cl=true)(honce:l8 ops ops.size=true):GsOK ops fs cl (cM cl cl):=by
 have inC:∀ i o,(i,o)∈cl↔ops[i]? =some o∧fs[i]? =some false:=fun i o=>by rw [hcl,eM];simp
 have hop:∀ p∈cl,nu cl p=true:=fun p hp=>uN.1 hdecl p hp
 have hmake:∀ g∈cM cl cl,∃ o,ops[g.j]? =some o∧fs[g.j]? =some false∧o.op= .alloc g.T∧o.dst=some g.t∧o.guard=none:=fun g hg=>by
  obtain ⟨o,m,h1,h2,h3⟩:=dQ hg
  exact ⟨o,((inC _ _).1 m).1,((inC _ _).1 m).2,h1,h2,(eJ (hop _ m)).1⟩
 refine ⟨hmake,fun g hg s x hs=> ?_,fun j o hjo=> ?_,fun i i' g g' hi hi' ht=> ?_⟩
 ·obtain ⟨o,m,h1,h2,h3⟩:=dQ hg
  rw [h3] at hs
  obtain ⟨p,hp,hst⟩:=eH hs
  obtain ⟨T',k1,k2⟩:=gO hst
  obtain ⟨q1,q2⟩:=eJ (j:=p.1) (o:=p.2) (hop _ hp)
  have hps:=(inC p.1 p.2).1 hp
  simp only at k1 k2
  rcases q2 with ⟨T2,t2,e1,e2⟩ | ⟨T2,t2,x2,e1,e2,⟨q,hq,e3,e4,e5⟩,e6,e7⟩
  ·rw [k1] at e1;cases e1
  ·rw [k1] at e1
   injection e1 with a1 a2 a3
   injection a2 with a2
   subst a1 a2 a3
   have hqj:q.1=g.j:=jW honce (show (ops[q.1]?).bind (·.dst)=some g.t by rw [((inC q.1 q.2).1 hq).1];exact e3) (show (ops[g.j]?).bind (·.dst)=some g.t by rw [((inC _ _).1 m).1];exact h2)
   have hT:T'=g.T:=by
    have:=((inC q.1 q.2).1 hq).1
    rw [hqj,((inC _ _).1 m).1] at this
    injection this with this
    rw [←this,h1] at e5
    injection e5 with e5
    exact e5.symm
   subst hT
   refine ⟨p.2,by rw [←k2];exact hps.1,by rw [←k2];exact hps.2,k1,e2,q1,by rw [←k2,←hqj];exact e4,e6⟩
 ·obtain ⟨q1,q2⟩:=eJ (hop _ hjo)
  rcases q2 with ⟨T2,t2,e1,e2⟩ | ⟨T2,t2,x2,e1,e2,⟨q,hq,e3,e4,e5⟩,e6,e7⟩
  ·obtain ⟨g,hg,g1,g2,g3,g4⟩:=jx (cl:=cl) e1 e2 cl hjo
   obtain ⟨i,hi,e⟩:=uM hg
   exact .inl ⟨i,g,by rw [List.getElem?_eq_getElem hi,e],g1⟩
  ·obtain ⟨g,hg,g1,g2,g3,g4⟩:=jx (cl:=cl) (j:=q.1) (o:=q.2) e5 e3 cl hq
   obtain ⟨i,hi,e⟩:=uM hg
   have hself:c5 t2 (j,o)≠none:=by
    unfold c5
    simp only [e1,if_true]
    exact nofun
   cases hf:cl.findSome? (c5 t2) with
   | none=>exact absurd hf (gc hjo hself)
   | some y=>
    obtain ⟨p,hp,hst⟩:=eH hf
    have hpj:=e7 p hp (by rw [hst];exact nofun)
    obtain ⟨T',k1,k2⟩:=gO hst
    refine .inr ⟨i,g,y.2,by rw [List.getElem?_eq_getElem hi,e], ?_⟩
    rw [g4,hf,←hpj,k2]
 ·have hj:g.j=g'.j:=by
   obtain ⟨o,a1,_,_,a4,_⟩:=hmake g (eq hi)
   obtain ⟨o',b1,_,_,b4,_⟩:=hmake g' (eq hi')
   exact jW honce (show (ops[g.j]?).bind (·.dst)=some g.t by rw [a1];exact a4) (show (ops[g'.j]?).bind (·.dst)=some g.t by rw [b1,ht];exact b4)
  have hp:=hP ops.toList fs 0
  rw [←hcl] at hp
  exact nR (f:=Grp.j) (fF hp) i i' g g' hi hi' hj
theorem tj {fs:List Bool}{cl fl:List (Nat×Oper)}{gs:List Grp}(hcl:cl=clR 0 ops.toList fs)(hfl:fl=flR 0 ops.toList fs)(hgs:GsOK ops fs cl gs)(honce:l8 ops ops.size=true)(hdata:pL ops ops.size=true)(hdep:depB ops fs=true)(hfsl:fs.length=ops.size)
  {ys:List (E2×E2)} {sl0 sl1:List V} {H0:List E2} {n0 m0:Nat} {Bx:List Nat} {ds:List Deferred} {w0:World} {B0:List Nat} {η0:List Value} {Q:Exit→Act→World→Prop}
  (h1:T1d P ops H0 fl sl0 sl1) (hys:YsOK P sl1 gs ys) (hin:∀ g∈gs,g.t<sl0.length) (hlow:∀ id e,(H0.map exE)[id]? =some e→e.live=true→∀ b,aO (η0.getD id undef)=some b→b<w0.heap.size):
  ∀ (listed:Array Bool) (a:Act) (w:World) (j:Nat),HeadInv .any ops ops.size listed→(∃ B,DG ops fs gs ys sl0 sl1 H0 n0 m0 Bx ds w0 B0 η0 listed a w B)→j∈Region.ready .any ops listed→∀ K:Act→World→Prop,(∀ a' w',(∃ B,DG ops fs gs ys sl0 sl1 H0 n0 m0 Bx ds w0 B0 η0 (listed.setIfInBounds j true) a' w' B)→K a' w')→wpOp P ops Q j K a w:=by
 intro listed a w j hi ⟨B,D⟩ hj K hK
 obtain ⟨hjun,oj,hoj,hall⟩:=mem_ready.1 hj
 have hjs:j<ops.size:=(Array.getElem?_eq_some_iff.1 hoj).1
 have hjl:j<listed.size:=by rw [hi.size];exact hjs
 have hjunF:listed.getD j false=false:=by simp [hjl] at hjun ⊢;exact hjun
 have hjset:(listed.setIfInBounds j true).getD j false=true:=by simp [hjl]
 have hset:∀ i,i≠j→(listed.setIfInBounds j true).getD i false=listed.getD i false:=fun i hne=>getD_set_ne false hne.symm
 have hfsj:∀ i,i<ops.size→∃ b,fs[i]? =some b:=fun i hi=>⟨_,List.getElem?_eq_getElem (by rw [hfsl];exact hi)⟩
 have hfsd:∀ i b,fs[i]? =some b→fs.getD i false=b:=fun i b h=>by rw [List.getD_eq_getElem?_getD,h];rfl
 have inF:∀ i o,(i,o)∈fl↔ops[i]? =some o∧fs[i]? =some true:=fun i o=>by rw [hfl,gI];simp
 have inC:∀ i o,(i,o)∈cl↔ops[i]? =some o∧fs[i]? =some false:=fun i o=>by rw [hcl,eM];simp
 have hlen1:=h1.keep.1
 have wr:∀ t∈oj.looksAt ops,∀ (i:Nat) (oi:Oper),ops[i]? =some oi→oi.dst=some t→i=j∨(i<j∧listed.getD i false=true)∨(j<i∧listed.getD i false=false):=fun t ht i oi hoi hd=>by
  rcases gL hdata (Array.getElem?_eq_some_iff.1 hoi).1 hjs (by rw [hoi];exact hd) hoj ht with h | ⟨h1,h2⟩ | ⟨h1,h2⟩
  ·exact .inl h
  ·obtain ⟨o',ho',e,he,hb,hon⟩:=Region.waitsFor_spec h2
   have:o'=oj:=by rw [hoj] at ho';exact (uL.inj ho').symm
   subst this
   exact .inr (.inl ⟨h1,by rw [←hon];exact hall e he hb⟩)
  ·refine .inr (.inr ⟨h1, ?_⟩)
   cases hli:listed.getD i false with
   | false=>rfl
   | true=>have:=gq hi.closed _ i j h2 hli;rw [hjunF] at this;cases this
 have uniqD:∀ (t:Tmp) (i:Nat) (oi:Oper) (i':Nat) (oi':Oper),ops[i]? =some oi→oi.dst=some t→ops[i']? =some oi'→oi'.dst=some t→i=i':=fun t i oi i' oi' h1 h2 h3 h4=>jW honce (show (ops[i]?).bind (·.dst)=some t by rw [h1];exact h2) (show (ops[i']?).bind (·.dst)=some t by rw [h3];exact h4)
 have ini1:∀ (t:Tmp),(∀ (i:Nat) (o:Oper),ops[i]? =some o→fs[i]? =some true→o.dst≠some t)→sl1.getD t .any=sl0.getD t .any:=fun t h=>h1.keep.2 t (fun p hp=>h p.1 p.2 ((inF p.1 p.2).1 hp).1 ((inF p.1 p.2).1 hp).2)
 have hnoT:∀ (t:Tmp),(¬ ∃ (i:Nat) (oi:Oper),ops[i]? =some oi∧oi.dst=some t)→∀ i,(ops[i]?).bind (·.dst)=some t→listed.getD i false=false:=fun t h i hd=>by
  obtain ⟨o,ho,hd⟩:=uI.1 hd
  exact absurd ⟨i,o,ho,hd⟩ h
 have evalOf:∀ (slc:List V) x,x∈oj.op.operands→(∀ t,x= .tmp t→t∈oj.looksAt ops→Rel2 w B η0 (slc.getD t .any) (a.tmps.getD t undef)∧au n0 (ex (slc.getD t .any)) (a.tmps.getD t undef))→Rel2 w B η0 (opV slc x) (a.eval x)∧au n0 (ex (opV slc x)) (a.eval x):=fun slc x hx hlook=>by
  cases x with
  | tmp t=>exact hlook t rfl (ve _ (vm.2 ⟨.tmp t,by simpa using hx,rfl⟩))
  | const v=>
   refine ⟨Rel2.of (eK v) ?_,fun h=> ?_⟩
   ·show Rel w B η0 (ex (ck v)) v
    rw [dS];exact .c _ _
   ·simp only [opV,dS,cg] at h;cases h
  | global g=>exact l6 (sl:=slc) D.inv.base.2 g
  | func f=>exact ⟨⟨[],rfl,rfl,fun i c h=>by simp at h⟩,fun h=>by cases h⟩
 have makeAt:∀ (i:Nat) g,gs[i]? =some g→∃ o,ops[g.j]? =some o∧fs[g.j]? =some false∧o.op= .alloc g.T∧o.dst=some g.t∧o.guard=none:=fun i g hg=>hgs.make g (eq hg)
 have put0:∀ (v:Value) (t:Nat),oj.dst≠some t→(a.put oj.dst v).tmps.getD t undef=a.tmps.getD t undef:=fun v t h=>m6 a oj.dst v t h
 obtain ⟨bj,hbj⟩:=hfsj j hjs
 cases bj with
 | true=>
  obtain ⟨l1,l2,hsp⟩:=iE ((inF j oj).2 ⟨hoj,hbj⟩)
  have hpw:=hO ops.toList fs 0
  rw [←hfl,hsp] at hpw
  obtain ⟨pw1,pw2,pw3⟩:=List.pairwise_append.1 hpw
  have pl1:∀ i o,(i,o)∈l1→i<j:=fun i o hm=>pw3 (i,o) hm (j,oj) ne
  have pl2:∀ i o,(i,o)∈l2→j<i:=fun i o hm=>(uS.1 pw2).1 (i,o) hm
  have h1':=h1
  rw [hsp] at h1'
  obtain ⟨slc,q1,b,r,q2,q3,q4,q5⟩:=h1'.cut
  have hlook:∀ t∈oj.looksAt ops,Rel2 w B η0 (slc.getD t .any) (a.tmps.getD t undef)∧au n0 (ex (slc.getD t .any)) (a.tmps.getD t undef):=fun t ht=>by
   by_cases hw:∃ (i:Nat) (oi:Oper),ops[i]? =some oi∧oi.dst=some t
   ·obtain ⟨i,oi,hoi,hd⟩:=hw
    have initial:listed.getD i false=false→(∀ p∈l1,p.2.dst≠some t)→Rel2 w B η0 (slc.getD t .any) (a.tmps.getD t undef)∧au n0 (ex (slc.getD t .any)) (a.tmps.getD t undef):=fun hun hno=>by
     rw [q1.keep.2 t hno]
     exact D.todo t (fun i' hd'=>by
      obtain ⟨o',ho',hd'⟩:=uI.1 hd'
      rw [uniqD t i' o' i oi ho' hd' hoi hd];exact hun)
    have notin:¬ i<j→∀ p∈l1,p.2.dst≠some t:=fun hlt p hp hd'=>by
     have hpf:p∈fl:=by rw [hsp];simp [hp]
     have:=uniqD t p.1 p.2 i oi ((inF p.1 p.2).1 hpf).1 hd' hoi hd
     have h3:=pl1 p.1 p.2 hp
     omega
    rcases wr t ht i oi hoi hd with h | ⟨hlt,hli⟩ | ⟨hlt,hun⟩
    ·subst h;exact initial hjunF (notin (by omega))
    ·have hdp:=gi hdep hoi hoj hd ht (by omega)
     rw [hfsd j true hbj,if_pos rfl] at hdp
     obtain ⟨bi,hbi⟩:=hfsj i (Array.getElem?_eq_some_iff.1 hoi).1
     rw [hfsd i bi hbi] at hdp
     have hbi':fs[i]? =some true:=by
      rcases hdp with h | h
      ·rw [hbi,h]
      ·omega
     have hE:slc.getD t .any=sl1.getD t .any:=by
      refine (T1d.keep (l:=(j,oj)::l2) ⟨b,r,q2,q3,q4,q5⟩).2 t (fun p hp hd'=> ?_) |>.symm
      have hpf:p∈fl:=by rw [hsp];exact uX _ hp
      have h4:=uniqD t p.1 p.2 i oi ((inF p.1 p.2).1 hpf).1 hd' hoi hd
      rcases uQ.1 hp with h | h
      ·rw [h] at h4;simp only at h4;omega
      ·have:=pl2 p.1 p.2 h;omega
     rw [hE]
     exact D.done t i oi hoi hd hbi' hli
    ·exact initial hun (notin (by omega))
   ·rw [q1.keep.2 t (fun p hp hd=>hw ⟨p.1,p.2,((inF p.1 p.2).1 (by rw [hsp];simp [hp])).1,hd⟩)]
    exact D.todo t (hnoT t hw)
  have hown:∀ t,oj.dst=some t→t<sl0.length→sl1.getD t .any=r:=fun t hd htl=>by
   have h6:=q5.keep.2 t (fun p hp hd'=>by
    have hpf:p∈fl:=by rw [hsp];exact uX _ (gt _ hp)
    have:=uniqD t p.1 p.2 j oj ((inF p.1 p.2).1 hpf).1 hd' hoj hd
    have h3:=pl2 p.1 p.2 hp
    omega)
   rw [h6,hd,eW (by rw [q1.keep.1];exact htl)]
  have next:∀ v w',Gk n0 B w w'→Rel2 w' B η0 r v→au n0 (ex r) v→K (a.put oj.dst v) w':=fun v w' g hr hf=>by
   have hnej:∀ (i:Nat) gg,gs[i]? =some gg→gg.j≠j∧oj.dst≠some gg.t∧stB (listed.setIfInBounds j true) gg=stB listed gg:=fun i gg hg=>by
    obtain ⟨o,m1,m2,m3,m4,m5⟩:=makeAt i gg hg
    have hne:gg.j≠j:=fun e=>by rw [e,hbj] at m2;cases m2
    refine ⟨hne,fun hd=>hne (uniqD gg.t gg.j o j oj m1 m4 hoj hd), ?_⟩
    unfold stB
    split
    ·rename_i s x hs
     obtain ⟨o',f1,f2,_⟩:=hgs.fill gg (eq hg) s x hs
     exact hset s (fun e=>by rw [e,hbj] at f2;cases f2)
    ·rfl
   refine hK _ _ ⟨B,by rw [dX];exact D.defers,by rw [hD];exact D.size,D.inv.gk g,D.goes.trans ⟨g.on,fun _ h=>.inl h,fun _ _ _ h=>h,g.bel D.inv⟩,fun t i o ho hd hfi hli=> ?_,fun t hno=> ?_,fun i gg y hg hy hl=> ?_,fun i i' gg gg' hne hg hg' hl hl'=> ?_⟩
   ·by_cases hij:i=j
    ·subst hij
     have:o=oj:=by rw [hoj] at ho;exact (uL.inj ho).symm
     subst this
     rw [hd]
     exact o3 (sl:=sl0) D.size hr hf (fun h=>hown t hd h) (fun h=>eF (by rw [hlen1];exact h))
    ·rw [put0 v t (fun hd'=>hij (uniqD t i o j oj ho hd hoj hd'))]
     have:=D.done t i o ho hd hfi (by rw [←hset i hij];exact hli)
     exact ⟨this.1.gk g,this.2⟩
   ·have hdt:oj.dst≠some t:=fun hd=>by
     have:=hno j (by rw [hoj];exact hd)
     rw [hjset] at this;cases this
    rw [put0 v t hdt]
    have:=D.todo t (fun i hd=>by
     rw [←hset i (fun e=>hdt (by subst e;rw [hoj] at hd;exact hd))];exact hno i hd)
    exact ⟨this.1.gk g,this.2⟩
   ·obtain ⟨n1,n2,n3⟩:=hnej i gg hg
    rw [put0 v gg.t n2]
    obtain ⟨k1,k2⟩:=D.box i gg y hg hy (by rw [←hset _ n1];exact hl)
    refine ⟨?_,k2⟩
    unfold curE at k1 ⊢
    rw [n3]
    exact aF.keep k1 g.on (fun _ h=>.inl h) (fun _ h=>h) (fun _ _ h=>h) (fun hl b hb=>have hlt:=aF.lt k1 hl b hb;g.just b hlt.1 (.inr hlt.2))
   ·obtain ⟨n1,n2,n3⟩:=hnej i gg hg
    obtain ⟨n1',n2',n3'⟩:=hnej i' gg' hg'
    rw [put0 v gg.t n2,put0 v gg'.t n2']
    exact D.sep i i' gg gg' hne hg hg' (by rw [←hset _ n1];exact hl) (by rw [←hset _ n1'];exact hl')
  have hw:=q2 w B η0 a.tmps (by rw [q1.keep.1];exact D.size.symm) (fun d hd=>(hlook d (by
   unfold dc at hd
   split at hd
   ·rename_i g want hg
    exact uX _ (by simp [hg,hd])
   ·cases hd)).1)
  unfold wpOp
  simp only [hoj]
  rw [hw]
  cases b with
  | true=>
   rw [if_pos rfl]
   exact .inl (er (q3 rfl n0 Bx w B η0 a.eval (fun f=>rfl) D.inv (fun x hx=>evalOf slc x hx (fun t _ ht=>hlook t ht)) _ next))
  | false=>
   obtain rfl:=q4 rfl
   rw [if_neg (by simp)]
   exact next undef w (Gk.refl _ _ _) (Rel.c _ _) (fun h=>by cases h)
 | false=>
  rcases hgs.part j oj ((inC j oj).2 ⟨hoj,hbj⟩) with ⟨i0,g0,hg0,rfl⟩ | ⟨i0,g0,x,hg0,hs0⟩
  ·-- a box is made
   obtain ⟨o,m1,m2,m3,m4,m5⟩:=makeAt i0 g0 hg0
   have:o=oj:=by rw [hoj] at m1;exact (uL.inj m1).symm
   subst this
   have hy0:i0<ys.length:=by rw [hys.1];exact (List.getElem?_eq_some_iff.1 hg0).1
   obtain ⟨vz,z1,z2,z3,z4⟩:=hys.2 i0 g0 _ hg0 (List.getElem?_eq_getElem hy0)
   have hz:eA P (zeroValue g0.T)=some vz:=z1
   have hrun:(execOp a.eval o).run P w= .ok (.value (.pointer (some ⟨w.heap.size,0,none⟩))) (w.alloc (.cells vz.cells.toList.toArray g0.T)):=by
    simp only [execOp,m3,Instr.alloc,u6,iw hz,Result.andThen_ok]
    rfl
   have g:=cH (Gr.refl w) (.cells vz.cells.toList.toArray g0.T)
   have hB:∀ y∈w.heap.size::B,y∈B∨w.heap.size≤y:=fun y hy=>by rcases uQ.1 hy with rfl | h;exact .inr (uV _);exact .inl h
   have hget:(a.put o.dst (.pointer (some ⟨w.heap.size,0,none⟩))).tmps.getD g0.t undef= .pointer (some ⟨w.heap.size,0,none⟩):=by
    rw [m4]
    have hlt:g0.t<a.tmps.size:=by rw [D.size];exact hin g0 (eq hg0)
    simp [Act.put,uH,Array.getElem?_setIfInBounds_self_of_lt hlt]
   have hother:∀ (i:Nat) gg,gs[i]? =some gg→i≠i0→gg.j≠g0.j∧o.dst≠some gg.t:=fun i gg hg hne=>by
    obtain ⟨o',n1,n2,n3,n4,n5⟩:=makeAt i gg hg
    refine ⟨fun e=> ?_,fun e=>hne (hgs.uniq i i0 gg g0 hg hg0 (by rw [m4] at e;exact (uL.inj e).symm))⟩
    rw [e,m1] at n1
    injection n1 with n1
    rw [←n1,m4] at n4
    exact hne (hgs.uniq i i0 gg g0 hg hg0 (uL.inj n4).symm)
   have hstB:∀ (i:Nat) gg,gs[i]? =some gg→stB (listed.setIfInBounds g0.j true) gg=stB listed gg:=fun i gg hg=>by
    unfold stB
    split
    ·rename_i s x hs
     obtain ⟨o',f1,f2,f3,f4,_⟩:=hgs.fill gg (eq hg) s x hs
     exact hset s (fun e=>by rw [e,m1] at f1;injection f1 with f1;rw [←f1,m4] at f4;cases f4)
    ·rfl
   have hst0:stB listed g0=false:=by
    unfold stB
    split
    ·rename_i s x hs
     obtain ⟨o',f1,f2,f3,f4,f5,f6,_⟩:=hgs.fill g0 (eq hg0) s x hs
     cases hls:listed.getD s false with
     | false=>rfl
     | true=>
      exfalso
      have hlk:g0.t∈o'.looksAt ops:=ve _ (vm.2 ⟨.tmp g0.t,by simp [f3,vd],rfl⟩)
      rcases gL hdata hjs (Array.getElem?_eq_some_iff.1 f1).1 (by rw [m1];exact m4) f1 hlk with h | ⟨h1,h2⟩ | ⟨h1,h2⟩
      ·omega
      ·obtain ⟨o2,ho2,e,he,hb,hon⟩:=Region.waitsFor_spec h2
       have:=hi.closed s o2 ho2 hls e he hb
       rw [hon,hjunF] at this;cases this
      ·omega
    ·rfl
   have hnext:K (a.put o.dst (.pointer (some ⟨w.heap.size,0,none⟩))) (w.alloc (.cells vz.cells.toList.toArray g0.T)):=by
    refine hK _ _ ⟨w.heap.size::B,by rw [dX];exact D.defers,by rw [hD];exact D.size,D.inv.other (.gr g) hB (fun _ h=>gt _ h) (fun b hb=> ?_) (fun id e he hl b hb=>g.block b (aF.lt (D.inv.ent id e he) hl b hb).1),D.goes.trans ⟨.gr g,hB,fun _ _ _ h=>h,Gr.bel g D.inv.base.1⟩,fun t i o' ho hd hfi hli=> ?_,fun t hno=> ?_,fun i gg y hg hy hl=> ?_,fun i i' gg gg' hne hg hg' hl hl' b hb=> ?_⟩
    ·rcases uQ.1 hb with rfl | h
     ·simp
     ·exact Nat.lt_of_lt_of_le (D.inv.lt b h) g.size
    ·have hij:i≠g0.j:=fun e=>by rw [e,m2] at hfi;cases hfi
     rw [put0 _ t (fun hd'=>hij (uniqD t i o' g0.j o ho hd m1 hd'))]
     have:=D.done t i o' ho hd hfi (by rw [←hset i hij];exact hli)
     exact ⟨this.1.on (.gr g) hB (fun _ _ h=>h),this.2⟩
    ·have hdt:o.dst≠some t:=fun hd=>by
      have:=hno g0.j (by rw [m1];exact hd)
      rw [hjset] at this;cases this
     rw [put0 _ t hdt]
     have:=D.todo t (fun i hd=>by
      rw [←hset i (fun e=>hdt (by subst e;rw [m1] at hd;exact hd))];exact hno i hd)
     exact ⟨this.1.on (.gr g) hB (fun _ _ h=>h),this.2⟩
    ·by_cases hii:i=i0
     ·subst hii
      have:gg=g0:=by rw [hg0] at hg;exact (uL.inj hg).symm
      subst this
      have:y=ys[i]:=by rw [List.getElem?_eq_getElem hy0] at hy;exact (uL.inj hy).symm
      subst this
      rw [hget]
      refine ⟨?_,fun b hb=>by simp [aO] at hb;rw [←hb];exact D.goes.on.size⟩
      unfold curE
      rw [hstB i gg hg,hst0,if_neg (by simp),z2]
      have hr:RelL w B η0 (vz.cells.toList.map .c) vz.cells.toList:=⟨by simp,fun i y hy=>by
       rw [List.getElem?_map,uK] at hy
       obtain ⟨u,hu,rfl⟩:=hy
       exact ⟨u,hu,.c _ _⟩⟩
      have h0:aF n0 Bx (w.alloc (.cells vz.cells.toList.toArray gg.T)) (w.heap.size::B) η0 (.pointer (some ⟨w.heap.size,0,none⟩)) (.box (vz.cells.toList.map .c) gg.T):=⟨w.heap.size,_,rfl,D.inv.base.1,ne,fun h=>(by have:=D.inv.lt _ (D.inv.sub _ h);have:=D.inv.base.1;omega),ja w _ _,hr.on (.gr g) hB (fun _ _ h=>h)⟩
      refine h0.le (.inr (.inr (.inl ⟨_,_,_,rfl,rfl, ?_⟩)))
      rw [←a9]
      exact dY gg.T _
     ·obtain ⟨n1,n2⟩:=hother i gg hg hii
      rw [put0 _ gg.t n2]
      obtain ⟨k1,k2⟩:=D.box i gg y hg hy (by rw [←hset _ n1];exact hl)
      refine ⟨?_,k2⟩
      unfold curE at k1 ⊢
      rw [hstB i gg hg]
      exact aF.keep k1 (.gr g) hB (fun _ h=>gt _ h) (fun _ _ h=>h) (fun hl b hb=>g.block b (aF.lt k1 hl b hb).1)
    ·have hlt:∀ (i:Nat) gg,gs[i]? =some gg→i≠i0→(listed.setIfInBounds g0.j true).getD gg.j false=true→∀ b,aO ((a.put o.dst (.pointer (some ⟨w.heap.size,0,none⟩))).tmps.getD gg.t undef)=some b→b<w.heap.size:=fun i gg hg hne hl b hb=>by
      obtain ⟨n1,n2⟩:=hother i gg hg hne
      rw [put0 _ gg.t n2] at hb
      have hyi:i<ys.length:=by rw [hys.1];exact (List.getElem?_eq_some_iff.1 hg).1
      obtain ⟨k1,k2⟩:=D.box i gg _ hg (List.getElem?_eq_getElem hyi) (by rw [←hset _ n1];exact hl)
      obtain ⟨v',q1,q2,q3,q4⟩:=hys.2 i gg _ hg (List.getElem?_eq_getElem hyi)
      have hlive:(exE (curE listed gg ys[i])).live=true:=by
       unfold curE
       split
       ·cases hgs':gg.s with
        | none=>rw [q3 hgs',q2];rfl
        | some p=>
         obtain ⟨s,l',_,_,_,_,_,q5⟩:=q4 p.1 p.2 hgs'
         rw [q5];rfl
       ·rw [q2];rfl
      exact (aF.lt k1 hlive b hb).1
     by_cases hii:i=i0
     ·subst hii
      have:gg=g0:=by rw [hg0] at hg;exact (uL.inj hg).symm
      subst this
      rw [hget] at hb
      have hb:w.heap.size=b:=by simpa [aO] using hb
      intro hb'
      have:=hlt i' gg' hg' (Ne.symm hne) hl' b hb'
      omega
     ·by_cases hii':i'=i0
      ·subst hii'
       have:gg'=g0:=by rw [hg0] at hg';exact (uL.inj hg').symm
       subst this
       rw [hget]
       intro hb'
       have hb':w.heap.size=b:=by simpa [aO] using hb'
       have:=hlt i gg hg hii hl b hb
       omega
      ·obtain ⟨n1,n2⟩:=hother i gg hg hii
       obtain ⟨n1',n2'⟩:=hother i' gg' hg' hii'
       rw [put0 _ gg.t n2] at hb
       rw [put0 _ gg'.t n2']
       exact D.sep i i' gg gg' hne hg hg' (by rw [←hset _ n1];exact hl) (by rw [←hset _ n1'];exact hl') b hb
   unfold wpOp
   simp only [hoj]
   rw [if_pos (by simp [uT,m5])]
   refine .inl (er ?_)
   unfold Oper.val
   rw [hrun]
   exact hnext
  ·-- a box is filled
   obtain ⟨o,f1,f2,f3,f4,f5,f6,f7⟩:=hgs.fill g0 (eq hg0) j x hs0
   have:o=oj:=by rw [hoj] at f1;exact (uL.inj f1).symm
   subst this
   obtain ⟨om,m1,m2,m3,m4,m5⟩:=makeAt i0 g0 hg0
   have hlk:g0.t∈o.looksAt ops:=ve _ (vm.2 ⟨.tmp g0.t,by simp [f3,vd],rfl⟩)
   have hmade:listed.getD g0.j false=true:=by
    rcases wr g0.t hlk g0.j om m1 m4 with h | ⟨_,h⟩ | ⟨h,_⟩
    ·omega
    ·exact h
    ·omega
   have hy0:i0<ys.length:=by rw [hys.1];exact (List.getElem?_eq_some_iff.1 hg0).1
   obtain ⟨vz,z1,z2,z3,z4⟩:=hys.2 i0 g0 _ hg0 (List.getElem?_eq_getElem hy0)
   obtain ⟨s,l',s1,s2,s3,s4,s5,s6⟩:=z4 j x hs0
   obtain ⟨k1,k2⟩:=D.box i0 g0 _ hg0 (List.getElem?_eq_getElem hy0) hmade
   have hst0:stB listed g0=false:=by
    unfold stB
    rw [hs0]
    exact hjunF
   have hst1:stB (listed.setIfInBounds j true) g0=true:=by
    unfold stB
    rw [hs0]
    exact hjset
   unfold curE at k1
   rw [hst0,if_neg (by simp),z2] at k1
   obtain ⟨b,us,e1,e2,e3,e4,e5,e6⟩:=k1
   have hblk:w0.heap.size≤b:=k2 b (by rw [e1];rfl)
   have hx:Rel2 w B η0 (opV sl1 x) (a.eval x):=by
    refine (evalOf sl1 x (by simp [f3,vd]) (fun t hxt ht=> ?_)).1
    by_cases hw:∃ (i:Nat) (oi:Oper),ops[i]? =some oi∧oi.dst=some t
    ·obtain ⟨i,oi,hoi,hd⟩:=hw
     have hfi:fs[i]? =some true:=by
      obtain ⟨bi,hbi⟩:=hfsj i (Array.getElem?_eq_some_iff.1 hoi).1
      cases bi with
      | true=>exact hbi
      | false=>exact absurd hd (f7 t hxt (i,oi) ((inC i oi).2 ⟨hoi,hbi⟩))
     have hij:i≠j:=fun e=>by subst e;rw [f2] at hfi;cases hfi
     rcases wr t ht i oi hoi hd with h | ⟨hlt,hli⟩ | ⟨hlt,hun⟩
     ·exact absurd h hij
     ·exact D.done t i oi hoi hd hfi hli
     ·have hdp:=gi hdep hoi hoj hd ht hij
      rw [hfsd j false hbj,if_neg (by simp),hfsd i true hfi] at hdp
      rcases hdp with h | h
      ·cases h
      ·omega
    ·rw [ini1 t (fun i o ho _ hd=>hw ⟨i,o,ho,hd⟩)]
     exact D.todo t (hnoT t hw)
   obtain ⟨t1,t2,t3⟩:=cY s1
   have hr:=(hx.get t3).unf.toL (fun l e=>by
    have e:eu (opV sl1 x)= .tup l:=e
    rw [e] at t2;cases t2)
   have hr:RelL w B η0 (al s) (a.eval x).cells.toList:=by rw [←t1];exact hr
   have hl:(al s).length=P.cellsOf g0.T:=by rw [ep];exact s2
   obtain ⟨p1,p2⟩:=jS s5
   have hz:exE (oD P g0.T vz)= .box (al (fC P g0.T (vz.cells.toList.map ck))) g0.T:=rfl
   have hrun:=c8 (P:=P) (T:=g0.T) (v:=a.eval x) (of:=0) e5 (by rw [hr.1];exact hl) s3 (by rw [hr.1,e6.1];exact p2) (hr.one (l7 s s4))
   have hon:On B w (w.setRow b (putL us 0 (a.eval x).cells.toList).toArray):=⟨rfl,rfl,rfl,by simp,fun k _ hk=>.of (setRow_other w b k _ (fun h=>hk (by rw [h];exact e3)))⟩
   have hbel:Bel n0 Bx w (w.setRow b (putL us 0 (a.eval x).cells.toList).toArray):=⟨⟨rfl,rfl,rfl,by simp,fun k hk=>setRow_other w b k _ (by omega)⟩,fun k hk _=>setRow_other w b k _ (fun hkb=>e4 (by rw [←hkb];exact hk))⟩
   have hval:(execOp a.eval o).run P w= .ok .skip (w.setRow b (putL us 0 (a.eval x).cells.toList).toArray):=by
    have hga:a.eval (.tmp g0.t)= .pointer (some ⟨b,0,none⟩):=e1
    simp [execOp,f3,hga,u6,hrun]
   have hput:∀ t,(a.put o.dst undef).tmps.getD t undef=a.tmps.getD t undef:=fun t=>put0 undef t (by rw [f4];exact nofun)
   have hnej:∀ (i:Nat) gg,gs[i]? =some gg→gg.j≠j:=fun i gg hg e=>by
    obtain ⟨o',n1,n2,n3,n4,n5⟩:=makeAt i gg hg
    rw [e,f1] at n1
    injection n1 with n1
    rw [←n1,f4] at n4;cases n4
   have hstB:∀ (i:Nat) gg,gs[i]? =some gg→i≠i0→stB (listed.setIfInBounds j true) gg=stB listed gg:=fun i gg hg hne=>by
    unfold stB
    split
    ·rename_i s' x' hs
     obtain ⟨o',n1,n2,n3,n4,_⟩:=hgs.fill gg (eq hg) s' x' hs
     refine hset s' (fun e=> ?_)
     rw [e,f1] at n1
     injection n1 with n1
     rw [←n1,f3] at n3
     injection n3 with _ n3 _
     injection n3 with n3
     exact hne (hgs.uniq i i0 gg g0 hg hg0 n3.symm)
    ·rfl
   have hnext:K (a.put o.dst undef) (w.setRow b (putL us 0 (a.eval x).cells.toList).toArray):=by
    refine hK _ _ ⟨B,by rw [dX];exact D.defers,by rw [hD];exact D.size,D.inv.other hon (fun _ h=>.inl h) (fun _ h=>h) (fun b' hb'=>by simpa using D.inv.lt b' hb') (fun id e he hl b' hb'=>setRow_other w b b' _ (fun h=> ?_)),D.goes.trans ⟨hon,fun _ h=>.inl h,fun _ _ _ h=>h,hbel⟩,fun t i o' ho hd hfi hli=> ?_,fun t hno=> ?_,fun i gg y hg hy hl=> ?_,fun i i' gg gg' hne hg hg' hl hl'=> ?_⟩
    ·have:=hlow id e he hl b' hb'
     omega
    ·have hij:i≠j:=fun e=>by rw [e,f2] at hfi;cases hfi
     rw [hput]
     have:=D.done t i o' ho hd hfi (by rw [←hset i hij];exact hli)
     exact ⟨this.1.on hon (fun _ h=>.inl h) (fun _ _ h=>h),this.2⟩
    ·rw [hput]
     have:=D.todo t (fun i hd=>by
      rw [←hset i (fun e=>(by subst e;rw [f1] at hd;rw [Option.bind_some,f4] at hd;cases hd))];exact hno i hd)
     exact ⟨this.1.on hon (fun _ h=>.inl h) (fun _ _ h=>h),this.2⟩
    ·rw [hput]
     by_cases hii:i=i0
     ·subst hii
      have:gg=g0:=by rw [hg0] at hg;exact (uL.inj hg).symm
      subst this
      have:y=ys[i]:=by rw [List.getElem?_eq_getElem hy0] at hy;exact (uL.inj hy).symm
      subst this
      rw [e1]
      refine ⟨?_,fun b' hb'=>by simp [aO] at hb';rw [←hb'];exact hblk⟩
      unfold curE
      rw [hst1,if_pos rfl,s6]
      have h0:aF n0 Bx (w.setRow b (putL us 0 (a.eval x).cells.toList).toArray) B η0 (.pointer (some ⟨b,0,none⟩)) (.box (al l') gg.T):=⟨b,_,rfl,e2,e3,e4,setRow_heap w b us.toArray _ gg.T (0,0) e5,by rw [p1];exact (e6.putL hr 0).on hon (fun _ h=>.inl h) (fun _ _ h=>h)⟩
      exact h0.le (.inr (.inr (.inl ⟨_,_,_,rfl,rfl,dY gg.T l'⟩)))
     ·obtain ⟨q1,q2⟩:=D.box i gg y hg hy (by rw [←hset _ (hnej i gg hg)];exact hl)
      refine ⟨?_,q2⟩
      unfold curE at q1 ⊢
      rw [hstB i gg hg hii]
      exact aF.keep q1 hon (fun _ h=>.inl h) (fun _ h=>h) (fun _ _ h=>h) (fun hl b' hb'=>setRow_other w b b' _ (fun h=>D.sep i i0 gg g0 hii hg hg0 (by rw [←hset _ (hnej i gg hg)];assumption) hmade b' hb' (by rw [e1,h];rfl)))
    ·rw [hput,hput]
     exact D.sep i i' gg gg' hne hg hg' (by rw [←hset _ (hnej i gg hg)];exact hl) (by rw [←hset _ (hnej i' gg' hg')];exact hl')
   unfold wpOp
   simp only [hoj]
   rw [if_pos (by simp [uT,f5])]
   exact .inl (er (jI hval hnext))
theorem ry {inl:FuncId→Bool}(hB:oh inl ops=true){st0:S2}{sl1:List V}{k:S2→Tree R}{res:R}
  (h1:T1d P ops st0.heap (flR 0 ops.toList (aC inl ops)) st0.slots sl1) (h:(rA P (clR 0 ops.toList (aC inl ops)) sl1 st0.heap k).run=some res):
  ∃ st2,(k st2).run=some res∧∀ (n0 m0:Nat) (Bx:List Nat) (ds:List Deferred) (a:Act) (w:World) (B:List Nat) (η:List Value) (Q:Exit→Act→World→Prop),SimK n0 Bx ds st0 a w B η→
   (∀ a' w' B' η',SimK n0 Bx ds st2 a' w' B' η'→Goes n0 Bx m0 w B η w' B' η'→Q .normal a' w')→wpAny P .any ops Q ops.size (uW ops.size false) a { w with drawn:=w.drawn+1 }:=by
 have hB':=hB
 simp only [oh,rz,ge,beq_iff_eq] at hB'
 obtain ⟨⟨hdecl,_⟩,⟨⟨⟨⟨hsel,hback⟩,honce⟩,hdata⟩,hdep⟩,hfsl⟩:=hB'
 generalize hcl:clR 0 ops.toList (aC inl ops)=cl at h hdecl
 generalize hfl:flR 0 ops.toList (aC inl ops)=fl at h1
 generalize hfs:aC inl ops=fs at *
 have hgs:=s8 (fs:=fs) hcl.symm hdecl honce
 unfold rA at h
 generalize cM cl cl=gs at h hgs
 split at h
 case isFalse=>cases h
 rename_i hall0
 obtain ⟨ys,h2,hys⟩:=nb h
 rw [cR] at h2
 refine ⟨_,h2,fun n0 m0 Bx ds a w B η Q hs hQ=> ?_⟩
 have hlen1:=h1.keep.1
 have hin:∀ g∈gs,g.t<st0.slots.length:=fun g hg=>by
  have:=uN.1 hall0 g hg
  rw [←hlen1];simpa using this
 have inF:∀ i o,(i,o)∈fl↔ops[i]? =some o∧fs[i]? =some true:=fun i o=>by rw [←hfl,gI];simp
 have inC:∀ i o,(i,o)∈cl↔ops[i]? =some o∧fs[i]? =some false:=fun i o=>by rw [←hcl,eM];simp
 have g0:Gr w { w with drawn:=w.drawn+1 }:=⟨rfl,rfl,rfl,uV _,fun _ _=>rfl⟩
 have hcount:((u1 ops.size).filter fun i=>!(uW ops.size false).getD i false).length=ops.size:=by
  rw [List.filter_eq_self.2 (fun i _=>by rw [getD_replicate_false];rfl),List.length_range]
 have inv0:HeadInv .any ops ops.size (uW ops.size false):=
  ⟨by simp,fun j oj _ hl=>(by rw [getD_replicate_false] at hl;cases hl),fun t ht1 ht2=>by omega⟩
 have hinv:=hs.inv.gr g0
 have hlow:∀ id e,(st0.heap.map exE)[id]? =some e→e.live=true→∀ b,aO (η.getD id undef)=some b→b<({ w with drawn:=w.drawn+1 }:World).heap.size:=fun id e he hl b hb=>(aF.lt (hinv.ent id e he) hl b hb).1
 refine hS (fun listed a' w'=>∃ B',DG ops fs gs ys st0.slots sl1 st0.heap n0 m0 Bx ds { w with drawn:=w.drawn+1 } B η listed a' w' B') hback (tj (P:=P) hcl.symm hfl.symm hgs honce hdata hdep hfsl h1 hys hin hlow) ?_ ops.size _ a _ hcount inv0 ⟨B, ?_⟩
 ·intro listed a' w' hi hall ⟨B',D⟩
  have hmake:∀ (i:Nat) g,gs[i]? =some g→listed.getD g.j false=true:=fun i g hg=>by
   obtain ⟨o,m1,_⟩:=hgs.make g (eq hg)
   exact hall _ (Array.getElem?_eq_some_iff.1 m1).1
  have hcur:∀ (i:Nat) g y,gs[i]? =some g→ys[i]? =some y→curE listed g y=y.2:=fun i g y hg hy=>by
   unfold curE stB
   cases hgs':g.s with
   | none=>
    obtain ⟨v,_,_,q3,_⟩:=hys.2 i g y hg hy
    rw [if_neg (by simp)];exact (q3 hgs').symm
   | some p=>
    obtain ⟨o,m1,_⟩:=hgs.fill g (eq hg) p.1 p.2 (by rw [hgs'])
    simp only
    rw [if_pos (hall _ (Array.getElem?_eq_some_iff.1 m1).1)]
  have hlen:(gs.zip ys).length=gs.length:=by rw [List.length_zip,hys.1];exact Nat.min_self _
  have hat:∀ (i:Nat) p,(gs.zip ys)[i]? =some p→gs[i]? =some p.1∧ys[i]? =some p.2:=fun i p hp=>by
   rw [List.getElem?_zip_eq_some] at hp;exact hp
  have hl2:((gs.zip ys).map fun p=>(a'.tmps.getD p.1.t undef,p.2.2)).map (·.2)=ys.map (·.2):=by
   rw [List.map_map]
   have:((fun x=>x.2) ∘ fun (p:Grp×E2×E2)=>(a'.tmps.getD p.1.t undef,p.2.2))=(fun x=>x.2) ∘ Prod.snd:=rfl
   rw [this,←List.map_map,List.map_snd_zip (by rw [hys.1];exact uV _)]
  have hfin:=Inv.snocs (base:=0) (η0:=η) ((gs.zip ys).map fun p=>(a'.tmps.getD p.1.t undef,p.2.2)) η st0.heap D.inv (fun _ _ h=>h) (fun q hq=> ?_) (fun q hq id e' he hl b hb hc=> ?_) ?_
  rotate_left
  ·obtain ⟨p,hp,rfl⟩:=List.mem_map.1 hq
   obtain ⟨i,hi',e⟩:=uM hp
   obtain ⟨k1,k2⟩:=hat i p (by rw [List.getElem?_eq_getElem hi',e])
   have:=(D.box i p.1 p.2 k1 k2 (hmake i p.1 k1)).1
   rw [hcur i p.1 p.2 k1 k2] at this
   exact this
  ·obtain ⟨p,hp,rfl⟩:=List.mem_map.1 hq
   obtain ⟨i,hi',e⟩:=uM hp
   obtain ⟨k1,k2⟩:=hat i p (by rw [List.getElem?_eq_getElem hi',e])
   have h3:=(D.box i p.1 p.2 k1 k2 (hmake i p.1 k1)).2 b hc
   have h4:=hlow id e' he hl b hb
   omega
  ·refine vh.2 fun i i' hi1 hi2 hlt b hb=> ?_
   simp only [vj] at hi1 hi2
   simp only [List.getElem_map] at hb ⊢
   obtain ⟨k1,k2⟩:=hat i _ (List.getElem?_eq_getElem hi1)
   obtain ⟨k1',k2'⟩:=hat i' _ (List.getElem?_eq_getElem hi2)
   exact D.sep i i' _ _ (by omega) k1 k1' (hmake i _ k1) (hmake i' _ k1') b hb
  rw [hl2] at hfin
  have hη:∀ (id:Nat) v,η[id]? =some v→(η++((gs.zip ys).map fun p=>(a'.tmps.getD p.1.t undef,p.2.2)).map (·.1))[id]? =some v:=fun id v hv=>by
   rw [List.getElem?_append_left (List.getElem?_eq_some_iff.1 hv).1];exact hv
  refine hQ a' w' B' _ ⟨D.defers,hfin, ?_⟩ ⟨(On.gr g0).trans D.goes.on (fun _ h=>.inl h),fun b hb=>D.goes.hB b hb,fun id v hid hv=>hη id v hv,Bel.trans (Gr.bel g0 hs.inv.base.1) D.goes.below⟩
  have key:∀ t,Rel2 w' B' (η++((gs.zip ys).map fun p=>(a'.tmps.getD p.1.t undef,p.2.2)).map (·.1)) ((setG sl1 st0.heap.length gs).getD t .any) (a'.tmps.getD t undef)∧au n0 (ex ((setG sl1 st0.heap.length gs).getD t .any)) (a'.tmps.getD t undef):=fun t=>by
   by_cases hgt:∃ (i:Nat) (g:Grp),gs[i]? =some g∧g.t=t
   ·obtain ⟨i,g,hg,rfl⟩:=hgt
    rw [mT gs sl1 st0.heap.length i g hg (fun i' g' hg' ht=>hgs.uniq i' i g' g hg' hg ht) (by rw [hlen1];exact hin g (eq hg))]
    refine ⟨?_,fun h=>by cases h⟩
    have hyi:i<ys.length:=by rw [hys.1];exact (List.getElem?_eq_some_iff.1 hg).1
    have hzi:(gs.zip ys)[i]? =some (g,ys[i]):=by rw [List.getElem?_zip_eq_some];exact ⟨hg,List.getElem?_eq_getElem hyi⟩
    have hbx:=(D.box i g _ hg (List.getElem?_eq_getElem hyi) (hmake i g hg)).1
    rw [hcur i g _ hg (List.getElem?_eq_getElem hyi)] at hbx
    have:∃ b,a'.tmps.getD g.t undef= .pointer (some ⟨b,0,none⟩):=by
     obtain ⟨v',q1,q2,q3,q4⟩:=hys.2 i g _ hg (List.getElem?_eq_getElem hyi)
     cases hgs':g.s with
     | none=>
      rw [q3 hgs',q2] at hbx
      obtain ⟨b,us,e1,_⟩:=hbx
      exact ⟨b,e1⟩
     | some p=>
      obtain ⟨s,l',_,_,_,_,_,q5⟩:=q4 p.1 p.2 hgs'
      rw [q5] at hbx
      obtain ⟨b,us,e1,_⟩:=hbx
      exact ⟨b,e1⟩
    obtain ⟨b,hb⟩:=this
    have hηl:η.length=st0.heap.length:=by have:=hinv.len;simpa using this
    rw [hb]
    refine Rel.box _ _ _ b ?_
    rw [List.getElem?_append_right (by omega),hηl,Nat.add_sub_cancel_left,List.map_map,List.getElem?_map,hzi]
    show some (a'.tmps.getD g.t undef)=_
    rw [hb]
   ·rw [ib gs sl1 _ t (fun g hg ht=>by
     obtain ⟨i,hi',e⟩:=uM hg
     exact hgt ⟨i,g,by rw [List.getElem?_eq_getElem hi',e],ht⟩)]
    have hon:=u2 B' w'
    by_cases hw:∃ (i:Nat) (oi:Oper),ops[i]? =some oi∧oi.dst=some t
    ·obtain ⟨i,oi,hoi,hd⟩:=hw
     have his:=(Array.getElem?_eq_some_iff.1 hoi).1
     have hfi:fs[i]? =some true:=by
      have hlt:i<fs.length:=by rw [hfsl];exact his
      cases hb:fs[i] with
      | true=>rw [List.getElem?_eq_getElem hlt,hb]
      | false=>
       exfalso
       rcases hgs.part i oi ((inC i oi).2 ⟨hoi,by rw [List.getElem?_eq_getElem hlt,hb]⟩) with ⟨i1,g,hg,e⟩ | ⟨i1,g,x,hg,e⟩
       ·obtain ⟨o,m1,m2,m3,m4,_⟩:=hgs.make g (eq hg)
        rw [e,hoi] at m1
        injection m1 with m1
        rw [←m1,hd] at m4
        exact hgt ⟨i1,g,hg,(uL.inj m4).symm⟩
       ·obtain ⟨o,m1,m2,m3,m4,_⟩:=hgs.fill g (eq hg) i x e
        rw [hoi] at m1
        injection m1 with m1
        rw [←m1,hd] at m4;cases m4
     have:=D.done t i oi hoi hd hfi (hall i his)
     exact ⟨this.1.on hon (fun _ h=>.inl h) hη,this.2⟩
    ·rw [h1.keep.2 t (fun p hp hd=>hw ⟨p.1,p.2,((inF p.1 p.2).1 hp).1,hd⟩)]
     have:=D.todo t (fun i hd=>by
      obtain ⟨o,ho,hd⟩:=uI.1 hd
      exact absurd ⟨i,o,ho,hd⟩ hw)
     exact ⟨this.1.on hon (fun _ h=>.inl h) hη,this.2⟩
  refine ⟨?_,fun t=>(key t).1,fun t=>(key t).2⟩
  show (setG sl1 st0.heap.length gs).length=_
  rw [ia,hlen1,D.size]
 ·exact ⟨hs.defers,hs.slots.size.symm,hinv,u3 _ _ _ _ _ _,fun t i o _ _ _ h=>(by rw [getD_replicate_false] at h;cases h),fun t _=>⟨(hs.slots.rel t).gk (Gk.gr (n0:=n0) g0),hs.slots.fresh t⟩,fun i g y _ _ h=>(by rw [getD_replicate_false] at h;cases h),fun i i' g g' _ _ _ h=>(by rw [getD_replicate_false] at h;cases h)⟩
theorem tk (hm:P.follows .mixedOrders=true){id:Nat}{inl:FuncId→Bool}(hB:oh inl ops=true){st0:S2}{sl1:List V}{k:S2→Tree R}{res:R}
  (h1:T1d P ops st0.heap (flR 0 ops.toList (aC inl ops)) st0.slots sl1) (h:(rA P (clR 0 ops.toList (aC inl ops)) sl1 st0.heap k).run=some res):
  ∃ st2,(k st2).run=some res∧∀ (n0 m0:Nat) (Bx:List Nat) (ds:List Deferred) (a:Act) (w:World) (B:List Nat) (η:List Value) (Q:Exit→Act→World→Prop),SimK n0 Bx ds st0 a w B η→
   (∀ a' w' B' η',SimK n0 Bx ds st2 a' w' B' η'→Goes n0 Bx m0 w B η w' B' η'→Q .normal a' w')→(Code.region id ops true).wp P Q a w:=by
 obtain ⟨st2,h2,h3⟩:=ry hB h1 h
 exact ⟨st2,h2,fun n0 m0 Bx ds a w B η Q hs hQ=>wp_region_any hm (h3 n0 m0 Bx ds a w B η Q hs hQ)⟩
end
section
variable {R:Type}
def appQ (mv:Bool×Bool)(sl:List V)(o:Op):Option (Nat×Operand×TypeId):=
 if mv.2=true then (match o with
  | .call ⟨.builtin .append,⟨[s,x]⟩,⟨[t,t']⟩⟩=>if t=t'∧kN (opV sl) o=true then (match opV sl s with
   | .own id=>some (id,x,t)
   | _=>none) else none
  | _=>none) else none
def qc (P:Program)(st:S2)(id:Nat)(x:V)(t:TypeId)(k:S2→V→Tree R):Tree R:=
 match cX P t,st.heap[id]? with
 | some e,some (.own d l E)=>(match rowI P e with
  | some (kw,by_)=>if E=e∧wd d=kw then (match nH P e x with
   | some ⟨d',m⟩=>dk d' d (fun d=>List (T d)) m fun m=>.ite (aS (l.length+m.length) by_) (k (freeze st id) (.lst d (l++m))) .fail
   | none=>.fail) else .fail
  | none=>.fail)
 | _,_=>.fail
theorem qa {mv:Bool×Bool}{sl:List V}{o:Op}{id:Nat}{x:Operand}{t:TypeId}(h:appQ mv sl o=some (id,x,t)):∃ s,o= .call ⟨.builtin .append, #[s,x], #[t,t]⟩∧opV sl s= .own id∧kN (opV sl) o=true:=by
 unfold appQ at h
 split at h
 ·split at h
  ·rename_i s x' t1 t2
   split at h
   ·rename_i hc
    obtain ⟨rfl,hp⟩:=hc
    split at h
    ·rename_i id' hs
     simp only [uL.injEq,Prod.mk.injEq] at h
     obtain ⟨rfl,rfl,rfl⟩:=h
     exact ⟨s,rfl,hs,hp⟩
    ·cases h
   ·cases h
  ·cases h
 ·cases h
theorem rQ {P:Program}{st:S2}{o:Oper}{id:Nat}{s x:Operand}{t:TypeId}{k:S2→V→Tree R}{res:R}(ho:o.op= .call ⟨.builtin .append, #[s,x], #[t,t]⟩)(hs:opV st.slots s= .own id)(hp:aZ (opV st.slots) o)(h:(qc P st id (opV st.slots x) t k).run=some res):
  ∃ st2 r,(k st2 r).run=some res∧∀ (n0 m0:Nat) (Bx:List Nat) (ds:List Deferred) (a:Act) (w:World) (B:List Nat) (η:List Value),SimK n0 Bx ds st a w B η→∀ N:Value→World→Prop,
   (∀ v w' B',SimK n0 Bx ds st2 a w' B' η→Goes n0 Bx m0 w B η w' B' η→Rel2 w' B' η r v→au n0 (ex r) v→N v w')→Oper.val P a.eval o w N:=by
 unfold qc at h
 split at h
 ·rename_i e d l E het hH
  split at h
  ·rename_i kw by_ hrow
   obtain ⟨ti,z,q1,q2,q3,q4,q5,q6⟩:=c9 hrow
   split at h
   ·rename_i hc
    obtain ⟨rfl,hwd⟩:=hc
    split at h
    ·rename_i d' m hv
     obtain ⟨e1,h1⟩:=aU h
     clear h
     subst e1
     simp only at h1
     rcases u4 h1 with ⟨hb,h⟩ | ⟨_,h⟩
     ·obtain ⟨r1,r2⟩:l.length+m.length≤maxLen∧(l.length+m.length)*by_≤140737488355328:=of_decide_eq_true hb
      refine ⟨_,_,h,fun n0 m0 Bx ds a w B η hsim N hN=> ?_⟩
      have hdiv2:((flat _ l).length+(flat _ m).length) / kw=l.length+m.length:=by rw [←u5,←a6,am,hwd,u5];exact Nat.mul_div_cancel _ (by omega)
      have hop:∀ y∈o.op.operands,Rel2 w B η (opV st.slots y) (a.eval y)∧au n0 (ex (opV st.slots y)) (a.eval y):=fun y _=>iB hsim.slots hsim.inv.base.2 y
      have hse:=(hop s (by simp [ho,vd,Call.operands])).1
      rw [hs] at hse
      have hse:Rel w B η (.own id) (a.eval s):=hse
      have hxe:=bV hp hop x (by simp [ho,vd,Call.operands])
      have hsrc:∀ (Hh:List Ent),srcA Hh kw (eu (opV st.slots x))=some (flat _ m):=fun Hh=>by rw [←hwd];exact gu hv Hh
      obtain ⟨v',w',g1,g2,g3,g4,g5⟩:=mK (P:=P) (o:=o) (ρA:=fun y=>eu (opV st.slots y)) hsim.inv ho hse hxe (aD het) q1 q2 q3 q4 q5 q6 (cells:=flat _ l) (by rw [exH hH];simp [exE,hwd]) (hsrc _) (dt _ m) (by rw [←a6];exact cq _ _) (by rw [hdiv2];exact r1) (by rw [hdiv2];exact r2)
      have hs1:SimK n0 Bx ds st a w' B η:=⟨hsim.defers,g4,hsim.slots.on g2 (fun _ h=>.inl h) (fun _ _ h=>h)⟩
      obtain ⟨B',k1,k2,k3⟩:=jy hs1 id
      unfold Oper.val
      rw [g1]
      refine hN v' w' B' k2 ⟨g2,fun b hb=>.inl (k1 b hb),fun _ _ _ h=>h,g3⟩ ?_ (fun h=>by cases h)
      have:=g5 B' η k1 (k3 _ _ _ hH)
      rw [←a6,←hwd] at this
      exact this
     ·cases h
    ·cases h
   ·cases h
  ·cases h
 ·cases h
theorem SlotsK.setV {n0:Nat}{w:World}{B:List Nat}{η:List Value}{sl:List V}{a:Act}{r:V}{v:Value}(h:SlotsK n0 w B η sl a.tmps)(hr:Rel2 w B η r v)(hf:au n0 (ex r) v)(d:Option Tmp):SlotsK n0 w B η (setV sl d r) (a.put d v).tmps:=by
 cases d with
 | none=>exact h
 | some t=>exact h.put hr hf t
theorem ci (a:Act)(d:Option Tmp)(v:Value):(a.put d v).defers=a.defers:=by cases d <;> rfl
end
section
variable {R:Type}
def t4:Op→Bool
 | .move _=>true
 | .binOp _ _ _ _ _=>true
 | .unOp _ _ _=>true
 | .load _ _=>true
 | .fieldAddr _ _ _=>true
 | .field _ _ _=>true
 | .pick _ _ _=>true
 | .nilCheck _=>true
 | .indexAddr _ _ _=>true
 | .index _ _ _=>true
 | _=>false
def oK:List Oper→List Oper×List Oper
 | []=>([],[])
 | o::l=>match o.guard with
  | none=>([],o::l)
  | some _=>(match oK l with | (a,b)=>(o::a,b))
theorem mQ:∀ (l:List Oper),(oK l).1++(oK l).2=l
 | []=>rfl
 | o::l=>by
  unfold oK
  split
  ·rfl
  ·have:=mQ l
   split
   rename_i a b h
   rw [h] at this
   simp only at this ⊢
   rw [List.cons_append,this]
def segO (l:List Oper):Option (List Oper×Tmp×List Oper):=match l with
 | []=>none
 | o::r=>(match o.guard with
  | none=>none
  | some _=>(match oK (o::r) with
   | (seg,p::rest)=>(match p.op,p.dst with
    | .pick _ _ _,some d=>if seg.all (fun q=>t4 q.op)=true then some (seg++[p],d,rest) else none
    | _,_=>none)
   | _=>none))
theorem sq {l seg rest:List Oper}{d:Tmp}(h:segO l=some (seg,d,rest)):l=seg++rest:=by
 unfold segO at h
 split at h
 ·cases h
 ·rename_i o r
  split at h
  ·cases h
  ·split at h
   ·rename_i a p b hs
    split at h
    ·split at h
     ·injection h with h
      injection h with h1 h2
      injection h2 with h2 h3
      subst h1 h3
      have:=mQ (o::r)
      rw [hs] at this
      rw [uU]
      exact this.symm
     ·cases h
    ·cases h
   ·cases h
def noF:Fns Bool:=fun _ _ _=>.fail
theorem t9 (P:Program):FnsOK P noF:=⟨fun f args k res h=>by cases h⟩
def evSg (P:Program)(ops:Array Oper)(H:List E2):List Oper→List V→(List V→Tree Bool)→Tree Bool
 | [],sl,k=>k sl
 | o::rest,sl,k=>lE ops sl o (fun sl=>evNF P noF H (opV sl) o.op fun r=>cn sl o.dst r fun sl'=>evSg P ops H rest sl' k) (fun sl=>cn sl o.dst (.c undef) fun sl'=>evSg P ops H rest sl' k)
def je:List Oper→List V→List V
 | [],sl=>sl
 | o::l,sl=>je l (setV sl o.dst .any)
theorem dl:∀ (l:List Oper) (sl:List V),(je l sl).length=sl.length
 | [],sl=>rfl
 | o::l,sl=>by rw [je,dl l,bg]
theorem kr:∀ (l:List Oper) (sl:List V) (t:Nat),sl.getD t .any= .any→(je l sl).getD t .any= .any
 | [],sl,t,h=>h
 | o::l,sl,t,h=>by
  rw [je]
  refine kr l _ t ?_
  by_cases hd:o.dst=some t
  ·rw [hd]
   rcases uJ t sl.length with hl | hl
   ·exact eW hl
   ·exact eF (by rw [bg];exact hl)
  ·rw [cI hd];exact h
theorem kq:∀ (l:List Oper) (sl:List V) (t:Nat),(je l sl).getD t .any= .any∨((je l sl).getD t .any=sl.getD t .any∧∀ o∈l,o.dst≠some t)
 | [],sl,t=>.inr ⟨rfl,fun o h=>by cases h⟩
 | o::l,sl,t=>by
  rw [je]
  by_cases hd:o.dst=some t
  ·refine .inl (kr l _ t ?_)
   rw [hd]
   rcases uJ t sl.length with hl | hl
   ·exact eW hl
   ·exact eF (by rw [bg];exact hl)
  ·rcases kq l (setV sl o.dst .any) t with h | ⟨h1,h2⟩
   ·exact .inl h
   ·refine .inr ⟨by rw [h1,cI hd],fun o' ho'=> ?_⟩
    rcases uQ.1 ho' with rfl | h
    ·exact hd
    ·exact h2 o' h
def ug (t:Tree Bool)(k:Bool→Tree R):Tree R:=match t with
 | .done b=>k b
 | .fail=>.fail
 | t=>.bind t.run k
theorem rf {t:Tree Bool}{k:Bool→Tree R}{res:R}(h:(ug t k).run=some res):∃ b,t.run=some b∧(k b).run=some res:=by
 cases t with
 | done b=>exact ⟨b,rfl,h⟩
 | fail=>cases h
 | _=>exact Tree.run_bind h
theorem SimK.weaken {n0:Nat}{Bx:List Nat}{ds:List Deferred}{sl sl':List V}{H:List E2}{a:Act}{w:World}{B:List Nat}{η:List Value}(h:SimK n0 Bx ds ⟨sl,H⟩ a w B η)(hl:sl'.length=sl.length)(hw:∀ t,sl'.getD t .any=sl.getD t .any∨sl'.getD t .any= .any):SimK n0 Bx ds ⟨sl',H⟩ a w B η:=
 ⟨h.defers,h.inv,hl.trans h.slots.size,fun t=>by
  show Rel2 w B η (sl'.getD t .any) _
  rcases hw t with h1 | h1
  ·rw [h1];exact h.slots.rel t
  ·rw [h1];trivial,fun t=>by
  show au n0 (ex (sl'.getD t .any)) _
  rcases hw t with h1 | h1
  ·rw [h1];exact h.slots.fresh t
  ·rw [h1];exact fun h=>by cases h⟩
theorem ms {P:Program}{ops:Array Oper}{H:List E2}:∀ (l:List Oper) (sl:List V) (k:List V→Tree Bool) (b:Bool),(evSg P ops H l sl k).run=some b→
  ∃ sl',(k sl').run=some b∧(sl'.length=sl.length∧∀ t,(∀ o∈l,o.dst≠some t)→sl'.getD t .any=sl.getD t .any)∧
   ∀ (n0 m0:Nat) (Bx:List Nat) (ds:List Deferred) (a:Act) (w:World) (B:List Nat) (η:List Value) (Q:Exit→Act→World→Prop) (rest:List Oper),SimK n0 Bx ds ⟨sl,H⟩ a w B η→
    (∀ a' w',SimK n0 Bx ds ⟨sl',H⟩ a' w' B η→Goes n0 Bx m0 w B η w' B η→wpList P ops Q rest a' w')→wpList P ops Q (l++rest) a w
 | [],sl,k,b,h=>⟨sl,h,⟨rfl,fun _ _=>rfl⟩,fun n0 m0 Bx ds a w B η Q rest hs hQ=>hQ a w hs (u3 _ _ _ _ _ _)⟩
 | o::l,sl,k,b,h=>by
  unfold evSg at h
  obtain ⟨b1,h1,hwant⟩:=fL h
  clear h
  cases b1 with
  | true=>
   simp only [if_true] at h1
   obtain ⟨r,h2,h3⟩:=ec (t9 P) h1
   rw [aW] at h2
   obtain ⟨sl',h4,⟨k1,k2⟩,h5⟩:=ms l _ k b h2
   refine ⟨sl',h4,⟨by rw [k1,bg],fun t ht=>by rw [k2 t (fun o' ho'=>ht o' (gt _ ho')),cI (ht o ne)]⟩,fun n0 m0 Bx ds a w B η Q rest hs hQ=> ?_⟩
   rw [List.cons_append]
   unfold wpList
   rw [hwant w B η a.tmps hs.slots.size (fun d _=>hs.slots.rel d),if_pos rfl]
   refine .inl (er (h3 n0 Bx w B η a.eval (fun f=>rfl) hs.inv (fun x _=>iB hs.slots hs.inv.base.2 x) _ fun v w' g hr hf=> ?_))
   have hg:Goes n0 Bx m0 w B η w' B η:=⟨g.on,fun _ h=>.inl h,fun _ _ _ h=>h,g.bel hs.inv⟩
   exact h5 n0 m0 Bx ds _ w' B η Q rest ⟨by rw [ci];exact hs.defers,hs.inv.gk g,(hs.slots.on g.on (fun _ h=>.inl h) (fun _ _ h=>h)).setV hr hf _⟩ (fun a2 w2 hs2 hg2=>hQ a2 w2 hs2 (hg.trans hg2))
  | false=>
   simp only [uR,if_false] at h1
   rw [aW] at h1
   obtain ⟨sl',h4,⟨k1,k2⟩,h5⟩:=ms l _ k b h1
   refine ⟨sl',h4,⟨by rw [k1,bg],fun t ht=>by rw [k2 t (fun o' ho'=>ht o' (gt _ ho')),cI (ht o ne)]⟩,fun n0 m0 Bx ds a w B η Q rest hs hQ=> ?_⟩
   rw [List.cons_append]
   unfold wpList
   rw [hwant w B η a.tmps hs.slots.size (fun d _=>hs.slots.rel d),if_neg (by simp)]
   exact h5 n0 m0 Bx ds _ w B η Q rest ⟨by rw [ci];exact hs.defers,hs.inv,hs.slots.setV (r:=.c undef) (v:=undef) (Rel.c _ _) (fun h=>by cases h) _⟩ hQ
def pY (d:Tmp)(sl:List V):Tree Bool:=match sl.getD d .any with
 | .c (.bool b)=>.done b
 | _=>.fail
theorem pX {d:Tmp}{sl:List V}{b:Bool}(h:(pY d sl).run=some b):sl.getD d .any= .c (.bool b):=by
 unfold pY at h
 split at h
 ·rename_i b' he
  injection h with h
  rw [he,h]
 ·cases h
def qQ:Td→Bool
 | .int _ | .bool | .str=>true
 | _=>false
theorem sC {d:Td}(h:qQ d=true)(x:T d):∃ v,cells d x=[.c v]:=by
 cases d with
 | int k=>exact ⟨_,rfl⟩
 | bool=>exact ⟨_,rfl⟩
 | str=>exact ⟨_,rfl⟩
 | _=>cases h
theorem qP {d:Td}(h:qQ d=true):1≤wd d:=by cases d <;> first | exact uV 1 | cases h
theorem pz {d:Td}(h:qQ d=true)(l:List (T d)):∀ x∈flat d l,∃ v,x= .c v:=by
 intro x hx
 unfold flat at hx
 obtain ⟨y,hy,hx⟩:=List.mem_flatMap.1 hx
 obtain ⟨v,hv⟩:=sC h y
 rw [hv] at hx
 exact ⟨v,List.mem_singleton.1 hx⟩
def qT (Γ:Env R)(mv:Bool×Bool)(sl:List V)(o:Oper)(rest:List Oper):Option (FuncId×List Operand×Tmp×TypeId×Nat×Option Tmp×List Oper):=
 if (mv.1&&mv.2)=true then (match rest with
  | o2::rest2=>(match o.op,o.dst,o2.op with
   | .call ⟨.value (.func f),args,_⟩,some t,.call ⟨.builtin .append,⟨[.tmp i,.tmp t']⟩,⟨[ty,ty']⟩⟩=>
    if t'=t∧ty=ty'∧o.guard.isNone=true∧o2.guard.isNone=true∧Γ.inl f=false∧i≠t∧t<sl.length then (match sl.getD i .any with
     | .own id=>some (f,args.toList,t,ty,id,o2.dst,rest2)
     | _=>none) else none
   | _,_,_=>none)
  | []=>none) else none
theorem nS {Γ:Env R}{mv:Bool×Bool}{sl:List V}{o:Oper}{rest:List Oper}{f:FuncId}{args:List Operand}{t:Tmp}{ty:TypeId}{id:Nat}{d2:Option Tmp}{rest2:List Oper}(h:qT Γ mv sl o rest=some (f,args,t,ty,id,d2,rest2)):
  ∃ i o2 ts argsA,rest=o2::rest2∧o.op= .call ⟨.value (.func f),argsA,ts⟩∧argsA.toList=args∧o.dst=some t∧o2.op= .call ⟨.builtin .append, #[.tmp i,.tmp t], #[ty,ty]⟩∧o2.dst=d2∧o.guard=none∧o2.guard=none∧i≠t∧t<sl.length∧sl.getD i .any= .own id:=by
 unfold qT at h
 split at h
 ·split at h
  ·rename_i o2 rest2'
   split at h
   ·rename_i f' args' ts' t1 i t' ty1 ty' ho hd ho2
    split at h
    ·rename_i hc
     obtain ⟨rfl,rfl,h3,h4,_,h6,h7⟩:=hc
     split at h
     ·rename_i id' hid
      simp only [uL.injEq,Prod.mk.injEq] at h
      obtain ⟨rfl,rfl,rfl,rfl,rfl,rfl,rfl⟩:=h
      exact ⟨i,o2,ts',args',rfl,ho,rfl,hd,ho2,rfl,by simpa using h3,by simpa using h4,h6,h7,hid⟩
     ·cases h
    ·cases h
   ·cases h
  ·cases h
 ·cases h
def sG (P:Program)(Γ:Env R)(st:S2)(f:FuncId)(args:List Operand)(t:Tmp)(ty:TypeId)(id:Nat)(d2:Option Tmp)(k:S2→Tree R):Tree R:=
 match cW ((args.map (opV st.slots)).flatMap cU) ⟨args.map (opV st.slots),st.heap⟩ with
 | ⟨ys,_⟩=>if ys.all j4=true then Γ.fns f (ys.map argV) fun r=>(match cX P ty,st.heap[id]? with
   | some e,some (.own d l E)=>(match rowI P e,nH P e r with
    | some (kw,by_),some ⟨d',m⟩=>if E=e∧wd d=kw∧qQ d=true then dk d' d (fun d=>List (T d)) m fun m=>.ite (aS (l.length+m.length) by_) (gb (setV (setV st.slots (some t) .any) d2 (.own st.heap.length)) fun sl=>k ⟨sl,st.heap.set id .dead++[.own d (l++m) E]⟩) .fail else .fail
    | _,_=>.fail)
   | _,_=>.fail) else .fail
theorem sF {P:Program}{Γ:Env R}(hF:FnsOK P Γ.fns){mv:Bool×Bool}{ops:Array Oper}{st:S2}{o:Oper}{rest:List Oper}{f:FuncId}{args:List Operand}{t:Tmp}{ty:TypeId}{id:Nat}{d2:Option Tmp}{rest2:List Oper}{k:S2→Tree R}{res:R}
  (hq:qT Γ mv st.slots o rest=some (f,args,t,ty,id,d2,rest2)) (h:(sG P Γ st f args t ty id d2 k).run=some res):
  ∃ st',(k st').run=some res∧∀ (n0 m0:Nat) (Bx:List Nat) (ds:List Deferred) (a:Act) (w:World) (B:List Nat) (η:List Value) (Q:Exit→Act→World→Prop),SimK n0 Bx ds st a w B η→
   (∀ a' w' B' η',SimK n0 Bx ds st' a' w' B' η'→Goes n0 Bx m0 w B η w' B' η'→wpList P ops Q rest2 a' w')→wpList P ops Q (o::rest) a w:=by
 obtain ⟨i,o2,ts,argsA,rfl,ho,rfl,hd,ho2,rfl,hg1,hg2,hne,htl,hs⟩:=nS hq
 unfold sG at h
 split at h
 rename_i ys H1 hst
 split at h
 case isFalse=>cases h
 rename_i himm
 obtain ⟨r,h1,h2,h3,h4⟩:=hF.ok _ _ _ _ h
 clear h
 split at h1
 case h_2=>cases h1
 rename_i e d l E het hH
 split at h1
 case h_2=>cases h1
 rename_i kw by_ d' m hrow hv
 split at h1
 case isFalse=>cases h1
 rename_i hc
 obtain ⟨rfl,hwd,hpr⟩:=hc
 obtain ⟨e1,h1⟩:=aU h1
 subst e1
 simp only at h1
 rcases u4 h1 with ⟨hb,h1⟩ | ⟨_,h1⟩
 case inr=>cases h1
 rw [cR] at h1
 obtain ⟨ti,z,q1,q2,q3,q4,q5,q6⟩:=c9 hrow
 obtain ⟨r1,r2⟩:l.length+m.length≤maxLen∧(l.length+m.length)*by_≤140737488355328:=of_decide_eq_true hb
 refine ⟨_,h1,fun n0 m0 Bx ds a w B η Q hsim hQ=> ?_⟩
 unfold wpList
 rw [show uT o (yielded ops a.tmps)=true by simp [uT,hg1],if_pos rfl]
 refine .inl (er (cA ho (x:=.func f) rfl ?_))
 have hs0:SimK n0 Bx [] ⟨argsA.toList.map (opV st.slots),st.heap⟩ { tmps:=argsA.map a.eval,defers:=[] } w B η:=by
  refine ⟨rfl,hsim.inv,⟨by simp,fun t=> ?_,fun t=> ?_⟩⟩
  all_goals
   simp only [List.getD_eq_getElem?_getD,uH,List.getElem?_map,Array.getElem?_map]
   rcases uJ t argsA.size with ht | ht
   ·have e1:argsA[t]? =some argsA[t]:=Array.getElem?_eq_getElem ht
    have e2:argsA.toList[t]? =some argsA[t]:=by rw [Array.getElem?_toList];exact e1
    have hm:=iB (n0:=n0) hsim.slots hsim.inv.base.2 argsA[t]
    simp only [e1,e2,uY,Option.getD_some]
    first | exact hm.1 | exact hm.2
   ·have e1:argsA[t]? =none:=Array.getElem?_eq_none ht
    have e2:argsA.toList[t]? =none:=by rw [Array.getElem?_toList];exact e1
    simp only [e1,e2,Option.map_none,Option.getD_none]
    first | trivial | (intro hc;cases hc)
 obtain ⟨B1,hs1,hgo1⟩:=cm (m0:=0) ((argsA.toList.map (opV st.slots)).flatMap cU) _ B hs0
 rw [hst] at hs1
 have hsz:ys.length=argsA.size:=by have:=hs1.slots.size;simpa using this
 have hargs:(argsA.toList.map a.eval).toArray=argsA.map a.eval:=by apply Array.ext';simp
 rw [←hargs]
 refine h4 w B1 (argsA.toList.map a.eval) hs1.inv.lt hs1.inv.base.2 (by simp [hsz]) (fun i x hx=> ?_) _ (fun v w' g2 g3=> ?_)
 ·rw [List.getElem?_map,uK] at hx
  obtain ⟨y,hy,rfl⟩:=hx
  have hi:=uN.1 himm y (eq hy)
  have hlt:i<argsA.size:=by rw [←hsz];exact (List.getElem?_eq_some_iff.1 hy).1
  have hr:=hs1.slots.rel i
  simp only [List.getD_eq_getElem?_getD,hy,Option.getD_some,uH,Array.getElem?_map,Array.getElem?_eq_getElem hlt,uY] at hr
  exact ⟨a.eval argsA[i],by simp [hlt],f9 hi (hr.get (db hi))⟩
 have hinv2:Inv n0 Bx w' B η (st.heap.map exE):=hsim.inv.gr g2
 have hsl:SlotsK n0 w' B η (setV st.slots (some t) .any) (a.put (some t) v).tmps:=(hsim.slots.on (On.gr g2) (fun _ h=>.inl h) (fun _ _ h=>h)).setV (r:=.any) trivial (fun h=>by cases h) (some t)
 have hta:t<a.tmps.size:=by rw [←hsim.slots.size];exact htl
 rw [hd]
 unfold wpList
 rw [show uT o2 (yielded ops (a.put (some t) v).tmps)=true by simp [uT,hg2],if_pos rfl]
 refine .inl (er ?_)
 have hse:Rel w' B η (.own id) ((a.put (some t) v).eval (.tmp i)):=by
  have:=hsl.rel i
  rw [cI (by intro hc;injection hc with hc;exact hne hc.symm),hs] at this
  exact this
 have hxv:(a.put (some t) v).eval (.tmp t)=v:=by
  show (a.tmps.setIfInBounds t v).getD t undef=v
  rw [uH,Array.getElem?_setIfInBounds_self_of_lt hta]
  rfl
 have hk:1≤kw:=by rw [←hwd];exact qP hpr
 have hrv:Rel w' B1 [] (eu r) v:=g3.unf
 obtain ⟨A,mm,c,us,hvv,hn,hA,hr⟩:=et hrv (by rw [hwd];exact hk) (gu hv (st.heap.map exE))
 have hdiv2:((flat _ l).length+(flat _ m).length) / kw=l.length+m.length:=by rw [←u5,←a6,am,hwd,u5];exact Nat.mul_div_cancel _ (by omega)
 have hops:=jC (P:=P) (o:=o2) (ρ:=(a.put (some t) v).eval) (ρA:=fun _=>.own id) (cells:=flat _ l) hinv2 ho2 hse ⟨A,mm,c,us,by rw [hxv,hvv],by rw [←hwd];exact hn,fun h0=>(hA h0).elim fun ad h=>⟨ad,h.1,h.2.cell⟩,fun j y hy=>by
   obtain ⟨u,rfl⟩:=pz hpr m y (eq hy)
   have:=(hr j _ hy).ofC
   rw [this]
   exact .c _ _⟩ (aD het) q1 q2 q3 q4 q5 q6 (by simp only [dstA,exH hH,exE,hwd,and_self,if_true]) (dt _ m) (by rw [hdiv2];exact r1) (by rw [hdiv2];exact r2)
 simp only [bS,vj,←a6] at hops
 have hop2:OpS2 P n0 Bx w' (a.put (some t) v).eval o2 B η (.own st.heap.length) (st.heap.set id .dead++[.own _ (l++m) E]):=hops.to (r:=.own st.heap.length) rfl (by simp) (cF (by simp) (fy (e:=.dead) (e1:=.dead) (.refl _)) (by rw [←hwd];exact .refl _))
 exact hop2 _ fun v2 w2 B2 η2 k1 k2 k3 k4 k5 k6 k7=>hQ _ w2 B2 η2 ⟨by rw [ci,ci];exact hsim.defers,k5,(hsl.on k1 k2 k3).setV k6 k7 _⟩ ((⟨On.gr g2,fun _ h=>.inl h,fun _ _ _ h=>h,Gr.bel g2 hsim.inv.base.1⟩:Goes n0 Bx m0 w B η w' B η).trans ⟨k1,k2,fun id v _ hv=>k3 id v hv,k4⟩)
def qJ (Γ:Env R)(mv:Bool×Bool)(sl:List V)(o:Oper)(rest:List Oper):Option (TypeId×Nat×Int×TypeId×Tmp×Option Tmp×List Oper):=
 if mv.1=true then (match rest with
  | o2::rest2=>(match o.op,o.dst,o2.op with
   | .slice t (.tmp x) none (some (.tmp hi)) none,some d,.call ⟨.value (.func f),⟨[.tmp d']⟩,_⟩=>
    if d'=d∧o.guard.isNone=true∧o2.guard.isNone=true∧Γ.inl f=true∧d<sl.length then (match sl.getD x .any,sl.getD hi .any,Γ.cln f with
     | .own id,.c (.int _ a),some e=>some (t,id,a,e,d,o2.dst,rest2)
     | _,_,_=>none) else none
   | _,_,_=>none)
  | []=>none) else none
theorem nG {Γ:Env R}{mv:Bool×Bool}{sl:List V}{o:Oper}{rest:List Oper}{t:TypeId}{id:Nat}{a:Int}{e:TypeId}{d:Tmp}{d2:Option Tmp}{rest2:List Oper}(h:qJ Γ mv sl o rest=some (t,id,a,e,d,d2,rest2)):
  ∃ x hi o2 f ts kk,rest=o2::rest2∧o.op= .slice t (.tmp x) none (some (.tmp hi)) none∧o.dst=some d∧o2.op= .call ⟨.value (.func f), #[.tmp d],ts⟩∧o2.dst=d2∧o.guard=none∧o2.guard=none∧d<sl.length∧sl.getD x .any= .own id∧sl.getD hi .any= .c (.int kk a)∧Γ.cln f=some e:=by
 unfold qJ at h
 split at h
 ·split at h
  ·rename_i o2 rest2'
   split at h
   ·rename_i t' x hi d' f d'' ts ho hd ho2
    split at h
    ·rename_i hc
     obtain ⟨rfl,h3,h4,_,h7⟩:=hc
     split at h
     ·rename_i id' kk a' e' h8 h9 h10
      simp only [uL.injEq,Prod.mk.injEq] at h
      obtain ⟨rfl,rfl,rfl,rfl,rfl,rfl,rfl⟩:=h
      exact ⟨x,hi,o2,f,ts,kk,rfl,ho,hd,ho2,rfl,by simpa using h3,by simpa using h4,h7,h8,h9,h10⟩
     ·cases h
    ·cases h
   ·cases h
  ·cases h
 ·cases h
def sj (P:Program)(st:S2)(t:TypeId)(id:Nat)(a:Int)(e:TypeId)(d:Tmp)(d2:Option Tmp)(k:S2→Tree R):Tree R:=
 match cX P t,st.heap[id]? with
 | some e',some (.own dd l _)=>if P.cellsOf e'=1 then dk dd (.int .u8) (fun d=>List (T d)) l fun l=>.bind (cN l a) fun m=>.ite (aS (List.length m) 1) (gb (setV (setV st.slots (some d) .any) d2 (.own st.heap.length)) fun sl=>k ⟨sl,st.heap++[.own (.int .u8) m e]⟩) .fail else .fail
 | _,_=>.fail
theorem si {P:Program}{Γ:Env R}(hC:∀ f e,Γ.cln f=some e→ef P f e){mv:Bool×Bool}{ops:Array Oper}{st:S2}{o:Oper}{rest:List Oper}{t:TypeId}{id:Nat}{z:Int}{e:TypeId}{d:Tmp}{d2:Option Tmp}{rest2:List Oper}{k:S2→Tree R}{res:R}
  (hq:qJ Γ mv st.slots o rest=some (t,id,z,e,d,d2,rest2)) (h:(sj P st t id z e d d2 k).run=some res):
  ∃ st',(k st').run=some res∧∀ (n0 m0:Nat) (Bx:List Nat) (ds:List Deferred) (a:Act) (w:World) (B:List Nat) (η:List Value) (Q:Exit→Act→World→Prop),SimK n0 Bx ds st a w B η→
   (∀ a' w' B' η',SimK n0 Bx ds st' a' w' B' η'→Goes n0 Bx m0 w B η w' B' η'→wpList P ops Q rest2 a' w')→wpList P ops Q (o::rest) a w:=by
 obtain ⟨x,hi,o2,f,ts,kk,rfl,ho,hd,ho2,rfl,hg1,hg2,htl,hx,hhi,hcl⟩:=nG hq
 obtain ⟨hfn,hclone⟩:=hC f e hcl
 unfold sj at h
 split at h
 case h_2=>cases h
 rename_i e' dd l E het hH
 split at h
 case isFalse=>cases h
 rename_i hk1
 obtain ⟨e1,h1⟩:=aU h
 subst e1
 simp only at h1
 obtain ⟨m,hm,h2⟩:=Tree.run_bind h1
 rcases u4 h2 with ⟨hr,h3⟩ | ⟨_,h3⟩
 case inr=>cases h3
 rw [cR] at h3
 have hz:0≤z∧z≤l.length∧m=l.take z.toNat:=by
  unfold cN at hm
  split at hm
  ·rename_i hc;injection hm with hm;exact ⟨hc.1,hc.2,hm.symm⟩
  ·cases hm
 refine ⟨_,h3,fun n0 m0 Bx ds a w B η Q hsim hQ=> ?_⟩
 unfold wpList
 rw [show uT o (yielded ops a.tmps)=true by simp [uT,hg1],if_pos rfl]
 have hxr:Rel w B η (.own id) (a.eval (.tmp x)):=by have:=hsim.slots.rel x;rw [hx] at this;exact this
 have hhr:a.eval (.tmp hi)= .int kk z:=by have:=hsim.slots.rel hi;rw [hhi] at this;exact Rel.ofC this
 have hview:=m8 hsim.inv hH hxr
 have hlen:(flat (.int .u8) l).length=l.length:=by rw [am];exact Nat.mul_one _
 obtain ⟨v1,hrun1,hrel1⟩:=kC (P:=P) (w:=w) (B:=me B (η.getD id undef)) (η:=[]) (o:=o) (ρ:=a.eval) (ρA:=fun y=>match y with | .tmp y=>if y=hi then .c (.int kk z) else .sl (flat (.int .u8) l) 1 | _=>.c undef) (k:=1) (a:=0) (b:=z.toNat)
  (fun y hy=>by
   simp only [ho,vd] at hy
   have hne:x≠hi:=fun hc=>by rw [hc,hhi] at hx;cases hx
   simp at hy
   rcases hy with rfl | rfl
   ·simp only [if_neg hne];exact hview
   ·simp only [if_true];rw [hhr];exact .c _ _) ho (aD het) (l:=flat (.int .u8) l) (by
    have hne:x≠hi:=fun hc=>by rw [hc,hhi] at hx;cases hx
    simp only [if_neg hne]) hk1.symm rfl (by simp [aX,hz.1]) (Nat.zero_le _) (by rw [hlen];omega)
 refine .inl (er ?_)
 unfold Oper.val
 rw [hrun1,hd]
 have hrelm:Rel w (me B (η.getD id undef)) [] (ex (.lst (.int .u8) m)) v1:=by
  show Rel w _ [] (.sl (flat (.int .u8) m) 1) v1
  rw [hz.2.2,cS,show z.toNat*wd (.int .u8)=z.toNat from Nat.mul_one _]
  simpa using hrel1
 have hta:d<a.tmps.size:=by rw [←hsim.slots.size];exact htl
 have hxv:(a.put (some d) v1).eval (.tmp d)=v1:=by
  show (a.tmps.setIfInBounds d v1).getD d undef=v1
  rw [uH,Array.getElem?_setIfInBounds_self_of_lt hta]
  rfl
 have hsl:SlotsK n0 w B η (setV st.slots (some d) .any) (a.put (some d) v1).tmps:=hsim.slots.setV (r:=.any) trivial (fun h=>by cases h) (some d)
 show wpList P ops Q (o2::rest2) (a.put (some d) v1) w
 unfold wpList
 rw [show uT o2 (yielded ops (a.put (some d) v1).tmps)=true by simp [uT,hg2],if_pos rfl]
 refine .inl (er ?_)
 unfold Oper.val
 obtain ⟨fn,f1,f2,f3⟩:=hfn
 have hrun2:(execOp (a.put (some d) v1).eval o2).run P w= .ok (.enter f #[v1]) w:=by
  have e0:(a.put (some d) v1).eval (.func f)= .func (.func f) #[] #[]:=rfl
  simp [execOp,ho2,u6,resolve,Deferred.ofValue,invoke,callFunc,e0,hxv,f1,f2,f3]
 rw [hrun2]
 refine (hclone m hr w (me B (η.getD id undef)) v1 (fun b hb=>hsim.inv.lt b (f8 hb)) (hsim.inv.base.2.on (u2 B w) (fun b hb=>.inl (f8 hb))) hrelm).mono fun e1 w' ⟨v',g1,g2,g3⟩=> ?_
 obtain ⟨B',i1,i2,aa,n,c,rfl⟩:=hsim.inv.pushOwn g2 g3
 have hl:η.length=st.heap.length:=by have:=hsim.inv.len;simpa using this
 refine ⟨_,g1,hQ _ w' B' (η++[.slice aa n c]) ⟨by rw [ci,ci];exact hsim.defers,by rw [vi];exact i1,(hsl.on (.gr g2) i2 (aq η _)).setV (r:=.own st.heap.length) (.own _ _ _ _ _ (by rw [←hl,List.getElem?_append_right (uV _)];simp)) (fun h=>by cases h) _⟩ ⟨.gr g2,i2,fun id v _ hv=>aq η _ id v hv,Gr.bel g2 hsim.inv.base.1⟩⟩
def fA (P:Program)(Γ:Env R)(C:fw R)(mv:Bool×Bool)(ops:Array Oper):Nat→List Oper→S2→(S2→Tree R)→Tree R
 | 0,_,_,_=>.fail
 | _+1,[],st,k=>k st
 | n+1,o::rest,st,k=>match qJ Γ mv st.slots o rest with
  | some (t,id,z,e,d,d2,rest2)=>sj P st t id z e d d2 fun st2=>fA P Γ C mv ops n rest2 st2 k
  | none=>match qT Γ mv st.slots o rest with
  | some (f,args,t,ty,id,d2,rest2)=>sG P Γ st f args t ty id d2 fun st2=>fA P Γ C mv ops n rest2 st2 k
  | none=>match segO (o::rest) with
  | some (seg,d,rest')=>ug (evSg P ops st.heap seg st.slots (pY d)) fun b=>gb (setV (je seg st.slots) (some d) (.c (.bool b))) fun sl'=>fA P Γ C mv ops n rest' ⟨sl',st.heap⟩ k
  | none=>lE ops st.slots o
   (fun sl=>match ta mv o.op ⟨sl,st.heap⟩ with
    | ⟨sl1,H1⟩=>match appQ mv sl1 o.op with
     | some (id,x,t)=>qc P ⟨sl1,H1⟩ id (opV sl1 x) t fun st2 r=>cn st2.slots o.dst r fun sl'=>fA P Γ C mv ops n rest ⟨sl',st2.heap⟩ k
     | none=>evI P Γ C mv ⟨sl1,H1⟩ o.op fun r H'=>lf o.op H' fun H'=>cn sl1 o.dst r fun sl'=>fA P Γ C mv ops n rest ⟨sl',H'⟩ k)
   (fun sl=>cn sl o.dst (.c undef) fun sl'=>fA P Γ C mv ops n rest ⟨sl',st.heap⟩ k)
theorem dg {P:Program}{Γ:Env R}(hF:FnsOK P Γ.fns)(hCl:∀ f e,Γ.cln f=some e→ef P f e){C:fw R}(hC:CallIOK P C){mv:Bool×Bool}{ops:Array Oper}:∀ (n:Nat) (l:List Oper) (st:S2) (k:S2→Tree R) (res:R),(fA P Γ C mv ops n l st k).run=some res→
  ∃ st',(k st').run=some res∧∀ (n0 m0:Nat) (Bx:List Nat) (ds:List Deferred) (a:Act) (w:World) (B:List Nat) (η:List Value) (Q:Exit→Act→World→Prop),SimK n0 Bx ds st a w B η→
   (∀ a' w' B' η',SimK n0 Bx ds st' a' w' B' η'→Goes n0 Bx m0 w B η w' B' η'→Q .normal a' w')→wpList P ops Q l a w
 | 0,l,st,k,res,h=>by cases l <;> cases h
 | n+1,[],st,k,res,h=>⟨st,h,fun n0 m0 Bx ds a w B η Q hs hQ=>hQ a w B η hs (u3 _ _ _ _ _ _)⟩
 | n+1,o::rest,st,k,res,h=>by
  unfold fA at h
  split at h
  ·rename_i t id z e d d2 rest2 hq
   obtain ⟨st2,h1,h2⟩:=si (ops:=ops) hCl hq h
   obtain ⟨st',h3,h4⟩:=dg hF hCl hC n rest2 st2 k res h1
   exact ⟨st',h3,fun n0 m0 Bx ds a w B η Q hs hQ=>h2 n0 m0 Bx ds a w B η Q hs fun a1 w1 B1 η1 hs1 hg1=>h4 n0 m0 Bx ds a1 w1 B1 η1 Q hs1 fun a2 w2 B2 η2 hs2 hg2=>hQ a2 w2 B2 η2 hs2 (hg1.trans hg2)⟩
  split at h
  ·rename_i f args t ty id d2 rest2 hq
   obtain ⟨st2,h1,h2⟩:=sF (ops:=ops) hF hq h
   obtain ⟨st',h3,h4⟩:=dg hF hCl hC n rest2 st2 k res h1
   exact ⟨st',h3,fun n0 m0 Bx ds a w B η Q hs hQ=>h2 n0 m0 Bx ds a w B η Q hs fun a1 w1 B1 η1 hs1 hg1=>h4 n0 m0 Bx ds a1 w1 B1 η1 Q hs1 fun a2 w2 B2 η2 hs2 hg2=>hQ a2 w2 B2 η2 hs2 (hg1.trans hg2)⟩
  split at h
  ·rename_i seg d rest' hseg
   obtain ⟨b,h1,h2⟩:=rf h
   obtain ⟨sl1,h3,⟨k1,k2⟩,h4⟩:=ms _ _ _ _ h1
   have hb:=pX h3
   rw [cR] at h2
   obtain ⟨st',h5,h6⟩:=dg hF hCl hC n rest' _ k res h2
   refine ⟨st',h5,fun n0 m0 Bx ds a w B η Q hs hQ=> ?_⟩
   rw [sq hseg]
   refine h4 n0 m0 Bx ds a w B η Q rest' hs fun a1 w1 hs1 hg1=> ?_
   have hs2:SimK n0 Bx ds ⟨setV (je seg st.slots) (some d) (.c (.bool b)),st.heap⟩ a1 w1 B η:=hs1.weaken (by rw [bg,dl,k1]) (fun t=>by
    by_cases hd:d=t
    ·subst hd
     rcases uJ d st.slots.length with hl | hl
     ·left
      rw [eW (by rw [dl];exact hl),hb]
     ·right
      exact eF (by rw [bg,dl];exact hl)
    ·rw [cI (fun e=>hd (uL.inj e))]
     rcases kq seg st.slots t with h7 | ⟨h7,h8⟩
     ·exact .inr h7
     ·exact .inl (by rw [h7,k2 t h8]))
   exact h6 n0 m0 Bx ds a1 w1 B η Q hs2 (fun a2 w2 B2 η2 hs3 hg3=>hQ a2 w2 B2 η2 hs3 (hg1.trans hg3))
  ·obtain ⟨b,h1,hwant⟩:=fL h
   clear h
   cases b with
   | true=>
    simp only [if_true] at h1
    split at h1
    ·rename_i id x t hq
     obtain ⟨s,ho,hs,hpl⟩:=qa hq
     obtain ⟨st2,r,h2,h3⟩:=rQ (st:=ta mv o.op ⟨st.slots,st.heap⟩) (s:=s) ho hs (fun y hy=>uP.1 hpl y hy) h1
     rw [aW] at h2
     obtain ⟨st',h4,h5⟩:=dg hF hCl hC n rest _ k res h2
     refine ⟨st',h4,fun n0 m0 Bx ds a w B η Q hs hQ=> ?_⟩
     unfold wpList
     rw [hwant w B η a.tmps hs.slots.size (fun d _=>hs.slots.rel d),if_pos rfl]
     obtain ⟨B1,hs1,hg1⟩:=nh (m0:=m0) mv o.op st B hs
     refine .inl (er (h3 n0 m0 Bx ds a w B1 η hs1 _ fun v w' B' hs2 hg2 hrel hfv=> ?_))
     exact h5 n0 m0 Bx ds _ w' B' η Q ⟨by rw [ci];exact hs2.defers,hs2.inv,hs2.slots.setV hrel hfv _⟩ (fun a2 w2 B2 η2 hs3 hg3=>hQ a2 w2 B2 η2 hs3 ((hg1.trans hg2).trans hg3))
    ·obtain ⟨r,H',h2,h3⟩:=um hF hC h1
     rw [iJ,aW] at h2
     obtain ⟨st',h4,h5⟩:=dg hF hCl hC n rest _ k res h2
     refine ⟨st',h4,fun n0 m0 Bx ds a w B η Q hs hQ=> ?_⟩
     unfold wpList
     rw [hwant w B η a.tmps hs.slots.size (fun d _=>hs.slots.rel d),if_pos rfl]
     obtain ⟨B1,hs1,hg1⟩:=nh (m0:=m0) mv o.op st B hs
     refine .inl (er (h3 n0 Bx ds a w B1 η hs1 _ fun v w' B' η' hon hB hη hbel inv' hrel hfv=> ?_))
     have hg2:Goes n0 Bx m0 w B1 η w' B' η':=⟨hon,hB,fun id v _ hv=>hη id v hv,hbel⟩
     exact h5 n0 m0 Bx ds _ w' B' η' Q ⟨by rw [ci];exact hs1.defers,inv',(hs1.slots.on hon hB hη).setV hrel hfv _⟩ (fun a2 w2 B2 η2 hs2 hg3=>hQ a2 w2 B2 η2 hs2 ((hg1.trans hg2).trans hg3))
   | false=>
    simp only [uR,if_false] at h1
    rw [aW] at h1
    obtain ⟨st',h4,h5⟩:=dg hF hCl hC n rest _ k res h1
    refine ⟨st',h4,fun n0 m0 Bx ds a w B η Q hs hQ=> ?_⟩
    unfold wpList
    rw [hwant w B η a.tmps hs.slots.size (fun d _=>hs.slots.rel d),if_neg (by simp)]
    exact h5 n0 m0 Bx ds _ w B η Q ⟨by rw [ci];exact hs.defers,hs.inv,hs.slots.setV (r:=.c undef) (v:=undef) (Rel.c _ _) (fun h=>by cases h) _⟩ hQ
end
def okC2 (inl:FuncId→Bool):Code→Bool
 | .region _ ops true=>(pI inl ops&& !rz inl ops)||oh inl ops
 | .seq a b=>okC2 inl a&&okC2 inl b
 | .cond _ a b=>okC2 inl a&&okC2 inl b
 | .block _ c=>okC2 inl c
 | .loop c=>okC2 inl c
 | .scope c=>okC2 inl c
 | _=>true
def gR:Code→Option Nat
 | .region id _ _=>some id
 | .seq a b=>match gR a with | some i=>some i | none=>gR b
 | .cond _ a b=>match gR a with | some i=>some i | none=>gR b
 | .block _ c=>gR c
 | .loop c=>gR c
 | .scope c=>gR c
 | _=>none
def aK:Code→List Code
 | .seq a b=>aK a++aK b
 | .cond _ a b=>aK a++aK b
 | .block _ c=>aK c
 | .loop c=>c::aK c
 | .scope c=>aK c
 | _=>[]
def bY (P:Program):List Nat→List Code
 | f::_=>(match P.funcs[f]? with
  | some fn=>(match fn.body with | some c=>aK c | none=>[])
  | none=>[])
 | []=>[]
section
variable {R:Type}
def jN (P:Program)(st:S2)(rv:ResultVar)(k:V→Tree R):Tree R:=
 match rv with
 | .tmp t=>k (st.slots.getD t .any)
 | .cell a t=>if (st.slots.getD a .any).plain=true then sV P st.heap t (st.slots.getD a .any) k else .fail
def sm:V→Bool
 | .any | .clo _ _ | .bsl _ _ | .tup _=>false
 | _=>true
def lO (P:Program)(st:S2):List ResultVar→(List V→Tree R)→Tree R
 | [],k=>k []
 | r::l,k=>jN P st r fun x=>if sm x=true then lO P st l fun m=>k (argV x::m) else .fail
def resK (P:Program)(st:S2)(l:List ResultVar)(k:V→Tree R):Tree R:=
 match l with
 | []=>k (.c (.tuple #[]))
 | [r]=>jN P st r k
 | l=>lO P st l fun m=>k (.tup m)
def gp (P:Program)(Γ:Env R)(ev:List Nat→Nat→Code→S2→(Exit→S2→Tree R)→Tree R)(path:List Nat):fw R:=fun f args H k=>
 if Γ.inl f=true then (match Γ.cln f with
 | some e=>gj H e args k
 | none=>match Γ.mth f with
 | some c=>c args H k
 | none=>match P.funcs[f]? with
  | some fn=>(match fn.body with
   | some c=>ev (f::path) H.length c ⟨args++vf (fn.ntmps-args.length) .any,H⟩ fun ex st'=>match ex with
    | .normal=>resK P st' fn.results.toList fun r=>k r st'.heap
    | .ret=>resK P st' fn.results.toList fun r=>k r st'.heap
    | _=>.fail
   | none=>.fail)
  | none=>.fail) else .fail
def ez (c:Code):Nat:=match gR c with | some i=>i | none=>0
def evU (ev:S2→(Exit→S2→Tree R)→Tree R):Nat→S2→(Exit→S2→Tree R)→Tree R
 | 0,_,_=>.fail
 | m+1,st,k=>ev st fun ex st'=>match ex with
  | .normal=>evU ev m st' k
  | e=>k e st'
def evK (P:Program)(Γ:Env R):Nat→List Nat→Nat→Code→S2→(Exit→S2→Tree R)→Tree R
 | 0,_,_,_,_,_=>.fail
 | n+1,path,m0,c,st,k=>match c with
  | .skip=>k .normal st
  | .label _=>k .normal st
  | .region id ops false=>bif Γ.un path (id+1000000) then .fail else fA P Γ (gp P Γ (evK P Γ n) (id::path)) (Γ.mv path id) ops (ops.toList.length+1) ops.toList st fun st'=>k .normal st'
  | .region id ops true=>(match r9 (Γ.mv path id) ops st with
   | ⟨sl,H⟩=>if rz Γ.inl ops=true then evFd P Γ.fns ops H (flR 0 ops.toList (aC Γ.inl ops)) sl fun sl'=>rA P (clR 0 ops.toList (aC Γ.inl ops)) sl' H fun st'=>k .normal st'
    else evFr P Γ.fns ops (clR 0 ops.toList (aC Γ.inl ops)) (wrS (tcOf Γ) ops.toList sl (clR 0 ops.toList (aC Γ.inl ops)) H) H (flR 0 ops.toList (aC Γ.inl ops)) sl fun sl'=>
    evCh P Γ (gp P Γ (evK P Γ n) (id::path)) (Γ.mv path id) ops (wrS (tcOf Γ) ops.toList sl (clR 0 ops.toList (aC Γ.inl ops)) H) (clR 0 ops.toList (aC Γ.inl ops)) ⟨sl',H⟩ fun st'=>k .normal st')
  | .seq a b=>evK P Γ n path m0 a st fun ex st'=>match ex with
   | .normal=>evK P Γ n path m0 b st' k
   | e=>k e st'
  | .cond x t e=>(match opV st.slots x with
   | .c (.bool b)=>.ite b (evK P Γ n path m0 t st k) (evK P Γ n path m0 e st k)
   | _=>.fail)
  | .block id c=>evK P Γ n path m0 c st fun ex st'=>match ex with
   | .exit i=>if i=id then k .normal st' else k (.exit i) st'
   | e=>k e st'
  | .loop c=>if Γ.un path (ez c)=true then evU (evK P Γ n path m0 c) 40 st k else Γ.lp path m0 (ez c) st k
  | .exit id=>k (.exit id) st
  | .ret=>k .ret st
  | .scope c=>evK P Γ n path m0 c st fun ex st'=>match ex with
   | .goto _=>.fail
   | e=>k e st'
  | _=>.fail
def Ends (P:Program)(m0:Nat)(c:Code)(st:S2)(ex:Exit)(st':S2):Prop:=
 ∀ (n0:Nat) (Bx:List Nat) (ds:List Deferred) (a:Act) (w:World) (B:List Nat) (η:List Value) (Q:Exit→Act→World→Prop),SimK n0 Bx ds st a w B η→
  (∀ a' w' B' η',SimK n0 Bx ds st' a' w' B' η'→Goes n0 Bx m0 w B η w' B' η'→Q ex a' w')→c.wp P Q a w
def rT (P:Program)(f:FuncId)(c:List V→List E2→(V→List E2→Tree R)→Tree R):Prop:=
 ∀ args H k res,(c args H k).run=some res→∃ r H',(k r H').run=some res∧(∃ fn,P.funcs[f]? =some fn∧fn.name≠ "runtime.NumGoroutine" ∧fn.body≠none)∧
  ∀ (n0:Nat) (Bx:List Nat) (w:World) (B:List Nat) (η:List Value) (cargs:List Value),Inv n0 Bx w B η (H.map exE)→gN n0 w B η args cargs→
   Calls P f cargs.toArray w fun e w'=>∃ v B' η',e= .returned v∧Goes n0 Bx H.length w B η w' B' η'∧Inv n0 Bx w' B' η' (H'.map exE)∧Rel2 w' B' η' r v∧au n0 (ex r) v
open Classical in
def FrM (t:List V→List E2→List Nat)(c:List V→List E2→(V→List E2→Tree R)→Tree R):Prop:=∀ args H k,c args H k=c args H fun r H'=>if Fr (t args H) H H' then k r H' else .fail
structure EnvOK (P:Program) (Γ:Env R):Prop where
 fns:FnsOK P Γ.fns
 inl:∀ f,Γ.inl f=true→∃ fn c,P.funcs[f]? =some fn∧fn.body=some c∧okC2 Γ.inl c=true∧fn.name≠ "runtime.NumGoroutine"
 lp:∀ path m0 c st k res,c∈bY P path→(Γ.lp path m0 (ez c) st k).run=some res→∃ ex st',(k ex st').run=some res∧Ends P m0 (.loop c) st ex st'
 cln:∀ f e,Γ.cln f=some e→ef P f e
 mth:∀ f c,Γ.mth f=some c→rT P f c∧FrM (Γ.mtv f) c
theorem lH {ex:Exit}{N:Act→World→Prop}{Q:Exit→Act→World→Prop}{a:Act}{w:World}(h:ex≠.normal):Exit.then N Q ex a w=Q ex a w:=by
 cases ex <;> first | exact absurd rfl h | rfl
theorem ko {P:Program}{id:Nat}{ops:Array Oper}{Q:Exit→Act→World→Prop}{a:Act}{w:World}(h:wpList P ops Q ops.toList a w):(Code.region id ops false).wp P Q a w:=by
 refine wp_region ?_
 have e:=wpOps_eq_wpList (P:=P) (ops:=ops) (Q:=Q) ops.toList 0 (fun j=>by simp)
 rw [List.range_eq_range']
 simp only [Array.length_toList] at e
 rw [e]
 exact h
def il (tmps:Array Value):ResultVar→Sem Value
 | .tmp t=>pure (tmps.getD t undef)
 | .cell a t=>do loadVar t (←asAddr (tmps.getD a undef))
theorem jn (fn:Func)(tmps:Array Value):results fn tmps=(do let vs ←fn.results.mapM (il tmps);pure (if h:vs.size=1 then vs[0] else .tuple vs)):=by
 unfold results
 congr 1
theorem gv {P:Program}{st:S2}{rv:ResultVar}{k:V→Tree R}{res:R}(h:(jN P st rv k).run=some res):
  ∃ r,(k r).run=some res∧∀ (n0:Nat) (Bx:List Nat) (ds:List Deferred) (a:Act) (w:World) (B:List Nat) (η:List Value),SimK n0 Bx ds st a w B η→∃ v,(il a.tmps rv).run P w= .ok v w∧Rel2 w B η r v∧au n0 (ex r) v:=by
 unfold jN at h
 split at h
 ·rename_i t
  exact ⟨_,h,fun n0 Bx ds a w B η hs=>⟨_,rfl,hs.slots.rel t,hs.slots.fresh t⟩⟩
 ·rename_i ad t
  split at h
  ·rename_i hpl
   obtain ⟨segs,rest,l,h1,h2,h3⟩:=mZ h
   split at h1
   ·rename_i r hr
    obtain ⟨h4,h5,h6⟩:=fS hr
    refine ⟨r,h1,fun n0 Bx ds a w B η hs=> ?_⟩
    obtain ⟨adr,u,hv,hrun,hrel⟩:=kW (P:=P) hs.inv ((hs.slots.rel ad).get hpl) (ju h2 (by rw [h3];exact kP h4))
    refine ⟨u, ?_,Rel2.of h5 hrel,fun hfr=>by generalize ex r=y at h6 hfr;cases y <;> first | exact absurd rfl (h6 _ _) | cases hfr⟩
    simp [il,hv,asAddr,u6,hrun]
   ·cases h1
  ·cases h
theorem oF {x:V}(h:sm x=true){n0:Nat}{w:World}{B:List Nat}{η:List Value}{v:Value}(hr:Rel2 w B η x v):Rel w B η (ex0 (argV x)) v:=by
 cases x <;> first | exact hr | exact Rel.unf hr | cases h
theorem mW {P:Program}{st:S2}:∀ (l:List ResultVar) (k:List V→Tree R) (res:R),(lO P st l k).run=some res→
  ∃ m,(k m).run=some res∧m.length=l.length∧∀ (n0:Nat) (Bx:List Nat) (ds:List Deferred) (a:Act) (w:World) (B:List Nat) (η:List Value),SimK n0 Bx ds st a w B η→∃ vs:List Value,(l.mapM (il a.tmps)).run P w= .ok vs w∧RelL w B η (m.map ex0) vs
 | [],k,res,h=>⟨[],h,rfl,fun n0 Bx ds a w B η hs=>⟨[],rfl,RelL.nil _ _ _⟩⟩
 | rv::l,k,res,h=>by
  unfold lO at h
  obtain ⟨x,h1,h2⟩:=gv h
  split at h1
  ·rename_i hx
   obtain ⟨m,h3,h4,h5⟩:=mW l _ _ h1
   refine ⟨_,h3,by simp [h4],fun n0 Bx ds a w B η hs=> ?_⟩
   obtain ⟨v,g1,g2,_⟩:=h2 n0 Bx ds a w B η hs
   obtain ⟨vs,g3,g4⟩:=h5 n0 Bx ds a w B η hs
   refine ⟨v::vs, ?_,RelL.cons (oF (n0:=n0) hx g2) g4⟩
   simp [u6,g1,g3]
  ·cases h1
theorem im {P:Program}{st:S2}{fn:Func}{k:V→Tree R}{res:R}(h:(resK P st fn.results.toList k).run=some res):
  ∃ r,(k r).run=some res∧∀ (n0:Nat) (Bx:List Nat) (ds:List Deferred) (a:Act) (w:World) (B:List Nat) (η:List Value),SimK n0 Bx ds st a w B η→∃ v,(results fn a.tmps).run P w= .ok v w∧Rel2 w B η r v∧au n0 (ex r) v:=by
 obtain ⟨rs,hrs⟩:∃ rs,fn.results=rs:=⟨_,rfl⟩
 simp only [jn]
 rw [hrs] at h ⊢
 obtain ⟨rs⟩:=rs
 simp only at h
 unfold resK at h
 split at h
 ·refine ⟨_,h,fun n0 Bx ds a w B η hs=>⟨.tuple #[],by simp,.c _ _,fun h=>by cases h⟩⟩
 ·obtain ⟨r,h1,h2⟩:=gv h
  refine ⟨r,h1,fun n0 Bx ds a w B η hs=> ?_⟩
  obtain ⟨v,g1,g2,g3⟩:=h2 n0 Bx ds a w B η hs
  exact ⟨v,by simp [u6,g1],g2,g3⟩
 ·rename_i hn0 hn1
  obtain ⟨m,h1,h2,h3⟩:=mW _ _ _ h
  refine ⟨_,h1,fun n0 Bx ds a w B η hs=> ?_⟩
  obtain ⟨vs,g1,g2⟩:=h3 n0 Bx ds a w B η hs
  have hlen:vs.length=rs.length:=by rw [g2.1,vj,h2]
  have hne:¬ vs.length=1:=fun hc=>by
   rw [hlen] at hc
   match rs,hc with
   | [x],_=>exact hn1 x rfl
  refine ⟨.tuple vs.toArray, ?_, ?_,fun h=>by cases h⟩
  ·have hm:(Array.mapM (il a.tmps) rs.toArray).run P w= .ok vs.toArray w:=by
    rw [List.mapM_toArray,←bind_pure_comp]
    simp [u6,g1]
   rw [u6,hm]
   simp [hne]
  ·show Rel w B η (.tup (m.map ex0)) _
   exact .tup _ _ _ (fun i=>vs.getD i undef) (by simp [g2.1]) (fun i y hy=>by obtain ⟨u,h1,h2⟩:=g2.2 i y hy;simp [List.getD_eq_getElem?_getD,h1]) (fun i y hy=>by obtain ⟨u,h1,h2⟩:=g2.2 i y hy;simpa [List.getD_eq_getElem?_getD,h1] using h2)
end
section
variable {R:Type} {P:Program} {Γ:Env R}
def fN (fn:Func)(args:List V):List V:=args++vf (fn.ntmps-args.length) .any
theorem fM {n0:Nat}{w:World}{B:List Nat}{η:List Value}{fn:Func}{args:List V}{cargs:List Value}(h:gN n0 w B η args cargs):SlotsK n0 w B η (fN fn args) (cargs.toArray++uW (fn.ntmps-cargs.toArray.size) undef):=by
 have hl:=h.1
 have key:∀ t,Rel2 w B η ((fN fn args).getD t .any) ((cargs.toArray++uW (fn.ntmps-cargs.toArray.size) undef).getD t undef)∧au n0 (ex ((fN fn args).getD t .any)) ((cargs.toArray++uW (fn.ntmps-cargs.toArray.size) undef).getD t undef):=by
  intro t
  simp only [fN,List.getD_eq_getElem?_getD,uH]
  rw [List.getElem?_append,Array.getElem?_append]
  simp only [List.size_toArray,hl]
  by_cases ht:t<args.length
  ·simp only [ht,if_true]
   obtain ⟨u,h1,h2⟩:=h.2 t _ (List.getElem?_eq_getElem ht)
   rw [List.getElem?_eq_getElem ht,List.getElem?_toArray,h1]
   exact h2
  ·simp only [ht,if_false]
   rw [List.getElem?_replicate,Array.getElem?_replicate]
   split <;> exact ⟨trivial,fun h=>by cases h⟩
 exact ⟨by simp [fN,hl],fun t=>(key t).1,fun t=>(key t).2⟩
open Classical in
theorem pR {R:Type}{Γ:Env R}(hΓ:EnvOK P Γ){ev:List Nat→Nat→Code→S2→(Exit→S2→Tree R)→Tree R}(path:List Nat):∀ f args H k T,tcOf Γ f args H=some T→gp P Γ ev path f args H k=gp P Γ ev path f args H fun r H'=>if Fr T H H' then k r H' else .fail:=by
 intro f args H k T hT
 unfold tcOf at hT
 split at hT
 ·rename_i hc
  obtain ⟨h1,h2,h3⟩:=hc
  injection hT with hT
  subst hT
  have h2:Γ.cln f=none:=Option.isNone_iff_eq_none.1 h2
  obtain ⟨c,hc⟩:=Option.isSome_iff_exists.1 h3
  have e0:∀ k,gp P Γ ev path f args H k=c args H k:=fun k=>by simp only [gp,h1,if_true,h2,hc]
  rw [e0,e0]
  exact (hΓ.mth f c hc).2 args H k
 ·cases hT
theorem lr (hΓ:EnvOK P Γ){n:Nat}(ih:∀ (path:List Nat) (m0:Nat) (c:Code) (st:S2) (k:Exit→S2→Tree R) (res:R),okC2 Γ.inl c=true→(∀ c'∈aK c,c'∈bY P path)→(evK P Γ n path m0 c st k).run=some res→∃ ex st',(k ex st').run=some res∧Ends P m0 c st ex st')(path:List Nat):
  CallIOK P (gp P Γ (evK P Γ n) path):=by
 refine ⟨fun f args H k res h=> ?_⟩
 unfold gp at h
 split at h
 ·rename_i hin
  split at h
  ·rename_i e hcl
   obtain ⟨r,H',q1,q2,_⟩:=ln hΓ.cln hcl h
   exact ⟨r,H',q1,q2⟩
  split at h
  ·rename_i c hm
   exact (hΓ.mth f c hm).1 _ _ _ _ h
  obtain ⟨fn,c,hf,hb,hok,hnm⟩:=hΓ.inl f hin
  rw [hf] at h
  simp only [hb] at h
  obtain ⟨ex,st',h1,h2⟩:=ih _ _ _ _ _ _ hok (fun c' hc'=>by simp only [bY,hf,hb];exact hc') h
  have key:∀ {r},(ex= .normal∨ex= .ret)→(k r st'.heap).run=some res∧(∀ (n0:Nat) (Bx:List Nat) (ds:List Deferred) (a:Act) (w:World) (B:List Nat) (η:List Value),SimK n0 Bx ds st' a w B η→∃ v,(results fn a.tmps).run P w= .ok v w∧Rel2 w B η r v∧au n0 (Go.Proofs.Ytmndainldhmnjaa.ex r) v)→
    ∃ r H',(k r H').run=some res∧(∃ fn,P.funcs[f]? =some fn∧fn.name≠ "runtime.NumGoroutine" ∧fn.body≠none)∧
    ∀ (n0:Nat) (Bx:List Nat) (w:World) (B:List Nat) (η:List Value) (cargs:List Value),Inv n0 Bx w B η (H.map exE)→gN n0 w B η args cargs→
     Calls P f cargs.toArray w fun e w'=>∃ v B' η',e= .returned v∧Goes n0 Bx H.length w B η w' B' η'∧Inv n0 Bx w' B' η' (H'.map exE)∧Rel2 w' B' η' r v∧au n0 (Go.Proofs.Ytmndainldhmnjaa.ex r) v:=by
   intro r hex hr
   refine ⟨r,st'.heap,hr.1,⟨fn,hf,hnm,by rw [hb];exact fun h=>by cases h⟩,fun n0 Bx w B η cargs inv hrel=>calls_of_wp hf hb ?_⟩
   refine h2 n0 Bx [] _ w B η _ ⟨rfl,inv,fM hrel⟩ (fun a' w' B' η' hs hg=> ?_)
   obtain ⟨v,q1,q2,q3⟩:=hr.2 n0 Bx [] a' w' B' η' hs
   rcases hex with rfl | rfl
   ·exact ⟨hs.defers,v,q1,v,B',η',rfl,hg,hs.inv,q2,q3⟩
   ·exact ⟨hs.defers,v,q1,v,B',η',rfl,hg,hs.inv,q2,q3⟩
  split at h1
  ·obtain ⟨r,q1,q2⟩:=im h1
   exact key (.inl rfl) ⟨q1,q2⟩
  ·obtain ⟨r,q1,q2⟩:=im h1
   exact key (.inr rfl) ⟨q1,q2⟩
  ·cases h1
 ·cases h
theorem sb {m0:Nat}{c:Code}{ev:S2→(Exit→S2→Tree R)→Tree R}(hev:∀ st k res,(ev st k).run=some res→∃ ex st',(k ex st').run=some res∧Ends P m0 c st ex st'):
  ∀ (m:Nat) (st:S2) (k:Exit→S2→Tree R) (res:R),(evU ev m st k).run=some res→∃ ex st',(k ex st').run=some res∧∀ (n0:Nat) (Bx:List Nat) (ds:List Deferred) (a:Act) (w:World) (B:List Nat) (η:List Value) (Q:Exit→Act→World→Prop),SimK n0 Bx ds st a w B η→
   (∀ a' w' B' η',SimK n0 Bx ds st' a' w' B' η'→Goes n0 Bx m0 w B η w' B' η'→Q ex a' w')→Code.rounds P c Q m a w
 | 0,st,k,res,h=>by cases h
 | m+1,st,k,res,h=>by
  unfold evU at h
  obtain ⟨ex1,st1,h1,h2⟩:=hev _ _ _ h
  split at h1
  ·obtain ⟨ex2,st2,h3,h4⟩:=sb hev m st1 k res h1
   exact ⟨ex2,st2,h3,fun n0 Bx ds a w B η Q hs hQ=>h2 n0 Bx ds a w B η _ hs fun a' w' B' η' hs' hg'=>h4 n0 Bx ds a' w' B' η' Q hs' fun a2 w2 B2 η2 hs2 hg2=>hQ a2 w2 B2 η2 hs2 (hg'.trans hg2)⟩
  ·rename_i hne
   exact ⟨ex1,st1,h1,fun n0 Bx ds a w B η Q hs hQ=>h2 n0 Bx ds a w B η _ hs fun a' w' B' η' hs' hg'=>by rw [lH (fun hc=>hne hc)];exact hQ a' w' B' η' hs' hg'⟩
theorem ll (hm:P.follows .mixedOrders=true)(hΓ:EnvOK P Γ):∀ (n:Nat) (path:List Nat) (m0:Nat) (c:Code) (st:S2) (k:Exit→S2→Tree R) (res:R),okC2 Γ.inl c=true→(∀ c'∈aK c,c'∈bY P path)→(evK P Γ n path m0 c st k).run=some res→∃ ex st',(k ex st').run=some res∧Ends P m0 c st ex st'
 | 0,path,m0,c,st,k,res,_,_,h=>by cases h
 | n+1,path,m0,c,st,k,res,hok,hsub,h=>by
  have ih:=ll hm hΓ n
  cases c with
  | skip=>exact ⟨_,_,h,fun n0 Bx ds a w B η Q hs hQ=>wp_skip (hQ a w B η hs (u3 _ _ _ _ _ _))⟩
  | label l=>exact ⟨_,_,h,fun n0 Bx ds a w B η Q hs hQ=>wp_label (hQ a w B η hs (u3 _ _ _ _ _ _))⟩
  | exit id=>exact ⟨_,_,h,fun n0 Bx ds a w B η Q hs hQ=>wp_exit (hQ a w B η hs (u3 _ _ _ _ _ _))⟩
  | ret=>exact ⟨_,_,h,fun n0 Bx ds a w B η Q hs hQ=>wp_ret (hQ a w B η hs (u3 _ _ _ _ _ _))⟩
  | region id ops draw=>
   cases draw with
   | false=>
    have h':(bif Γ.un path (id+1000000) then Tree.fail else fA P Γ (gp P Γ (evK P Γ n) (id::path)) (Γ.mv path id) ops (ops.toList.length+1) ops.toList st fun st'=>k .normal st').run=some res:=h
    cases hun:Γ.un path (id+1000000) with
    | true=>rw [hun] at h';cases h'
    | false=>
    rw [hun] at h'
    obtain ⟨st',h1,h2⟩:=dg hΓ.fns hΓ.cln (lr hΓ ih (id::path)) _ _ _ _ _ h'
    exact ⟨_,st',h1,fun n0 Bx ds a w B η Q hs hQ=>ko (h2 n0 m0 Bx ds a w B η Q hs hQ)⟩
   | true=>
    unfold evK at h
    simp only at h
    simp only [okC2] at hok
    split at h
    ·rename_i hdq
     obtain ⟨sl1,h1,h2⟩:=mu hΓ.fns _ _ _ _ h
     have hdb:oh Γ.inl ops=true:=by
      rcases u9 _ _▸hok with h3 | h3
      ·exfalso
       rw [ge,hdq] at h3
       exact absurd h3.2 (by simp)
      ·exact h3
     obtain ⟨st',h3,h4⟩:=tk (id:=id) hm hdb h2 h1
     refine ⟨_,st',h3,fun n0 Bx ds a w B η Q hs hQ=> ?_⟩
     obtain ⟨B1,hs1,hg1⟩:=k9 (m0:=m0) (Γ.mv path id) ops st B hs
     exact h4 n0 m0 Bx ds a w B1 η Q hs1 (fun a2 w2 B2 η2 hs2 hg2=>hQ a2 w2 B2 η2 hs2 (hg1.trans hg2))
    ·rename_i hdq
     obtain ⟨sl1,h1,h2⟩:=fG hΓ.fns _ _ _ _ h
     obtain ⟨st',h3,h4⟩:=tf hΓ.fns hΓ.cln (lr hΓ ih (id::path)) (pR hΓ (id::path)) _ _ _ _ h1
     have hdb:pI Γ.inl ops=true:=by
      rcases u9 _ _▸hok with h5 | h5
      ·exact ((ge _ _).mp h5).1
      ·unfold oh at h5
       rw [ge] at h5
       exact absurd h5.1 hdq
     refine ⟨_,st',h3,fun n0 Bx ds a w B η Q hs hQ=> ?_⟩
     obtain ⟨B1,hs1,hg1⟩:=k9 (m0:=m0) (Γ.mv path id) ops st B hs
     exact th hm hdb (tO _ _ _ _ _) h2 h4 hs1 (fun a2 w2 B2 η2 hs2 hg2=>hQ a2 w2 B2 η2 hs2 (hg1.trans hg2))
  | seq x y=>
   simp only [okC2,ge] at hok
   obtain ⟨ex1,st1,h1,h2⟩:=ih path m0 x st _ res hok.1 (fun c' hc'=>hsub c' (by simp [aK,hc'])) h
   split at h1
   ·obtain ⟨ex2,st2,h3,h4⟩:=ih path m0 y st1 _ res hok.2 (fun c' hc'=>hsub c' (by simp [aK,hc'])) h1
    exact ⟨ex2,st2,h3,fun n0 Bx ds a w B η Q hs hQ=>wp_seq (h2 n0 Bx ds a w B η _ hs fun a' w' B' η' hs' hg'=>h4 n0 Bx ds a' w' B' η' Q hs' fun a2 w2 B2 η2 hs2 hg2=>hQ a2 w2 B2 η2 hs2 (hg'.trans hg2))⟩
   ·rename_i hne
    exact ⟨ex1,st1,h1,fun n0 Bx ds a w B η Q hs hQ=>wp_seq (h2 n0 Bx ds a w B η _ hs fun a' w' B' η' hs' hg'=>by rw [lH (fun hc=>hne hc)];exact hQ a' w' B' η' hs' hg')⟩
  | cond x t e=>
   simp only [okC2,ge] at hok
   unfold evK at h
   simp only at h
   split at h
   ·rename_i b hb
    have hx:∀ {n0:Nat} {Bx:List Nat} {ds:List Deferred} {a:Act} {w:World} {B:List Nat} {η:List Value},SimK n0 Bx ds st a w B η→a.eval x= .bool b:=fun hs=>by
     have:=(iB hs.slots hs.inv.base.2 x).1
     rw [hb] at this
     exact Rel.ofC this
    rcases u4 h with ⟨hbt,h1⟩ | ⟨hbf,h1⟩
    ·obtain ⟨ex,st',h2,h3⟩:=ih path m0 t st k res hok.1 (fun c' hc'=>hsub c' (by simp [aK,hc'])) h1
     exact ⟨ex,st',h2,fun n0 Bx ds a w B η Q hs hQ=>wp_cond_true (by rw [hx hs,hbt]) (h3 n0 Bx ds a w B η Q hs hQ)⟩
    ·obtain ⟨ex,st',h2,h3⟩:=ih path m0 e st k res hok.2 (fun c' hc'=>hsub c' (by simp [aK,hc'])) h1
     exact ⟨ex,st',h2,fun n0 Bx ds a w B η Q hs hQ=>wp_cond_false (by rw [hx hs,hbf]) (h3 n0 Bx ds a w B η Q hs hQ)⟩
   ·cases h
  | block id c=>
   simp only [okC2] at hok
   obtain ⟨ex1,st1,h1,h2⟩:=ih path m0 c st _ res hok (fun c' hc'=>hsub c' (by simpa [aK] using hc')) h
   split at h1
   ·rename_i i
    split at h1
    ·rename_i hi
     exact ⟨_,st1,h1,fun n0 Bx ds a w B η Q hs hQ=>wp_block (h2 n0 Bx ds a w B η _ hs fun a' w' B' η' hs' hg'=>by simp only [Exit.inBlock,hi,if_true];exact hQ a' w' B' η' hs' hg')⟩
    ·rename_i hi
     exact ⟨_,st1,h1,fun n0 Bx ds a w B η Q hs hQ=>wp_block (h2 n0 Bx ds a w B η _ hs fun a' w' B' η' hs' hg'=>by simp only [Exit.inBlock,hi,if_false];exact hQ a' w' B' η' hs' hg')⟩
   ·rename_i hne
    exact ⟨ex1,st1,h1,fun n0 Bx ds a w B η Q hs hQ=>wp_block (h2 n0 Bx ds a w B η _ hs fun a' w' B' η' hs' hg'=>by
     cases ex1 <;> first | exact absurd rfl (hne _) | exact hQ a' w' B' η' hs' hg')⟩
  | loop c=>
   unfold evK at h
   simp only at h
   split at h
   ·have hok':okC2 Γ.inl c=true:=by simpa only [okC2] using hok
    obtain ⟨ex,st',h1,h2⟩:=sb (P:=P) (m0:=m0) (c:=c) (fun st k res h=>ih path m0 c st k res hok' (fun c' hc'=>hsub c' (by simp [aK,hc'])) h) 40 st k res h
    exact ⟨ex,st',h1,fun n0 Bx ds a w B η Q hs hQ=>wp_loop_rounds 40 (h2 n0 Bx ds a w B η Q hs hQ)⟩
   ·exact hΓ.lp path m0 c st k res (hsub c (by simp [aK])) h
  | scope c=>
   simp only [okC2] at hok
   obtain ⟨ex1,st1,h1,h2⟩:=ih path m0 c st _ res hok (fun c' hc'=>hsub c' (by simpa [aK] using hc')) h
   split at h1
   ·cases h1
   ·rename_i hne
    exact ⟨ex1,st1,h1,fun n0 Bx ds a w B η Q hs hQ=>wp_scope_straight (h2 n0 Bx ds a w B η _ hs fun a' w' B' η' hs' hg'=>by
     cases ex1 <;> first | exact absurd rfl (hne _) | exact hQ a' w' B' η' hs' hg')⟩
  | _=>cases h
end
def rowD:Td→Bool
 | .arr _ _=>true
 | .pair _ _=>true
 | _=>false
def valV (d:Td)(x:T d):V:=match d,x with
 | .int k,n=>.c (.int k n)
 | .bool,b=>.c (.bool b)
 | .str,s=>.str s
 | .sl d,l=>.lst d l
 | .arr n d,a=>.agg [.arr d n a]
 | .pair d e,x=>.agg (enc d x.1++enc e x.2)
theorem eS (d:Td)(x:T d):(valV d x).plain=true:=by cases d <;> rfl
theorem jJ (d:Td)(x:T d)(h:rowD d=true):ex (valV d x)= .agg (cells d x):=by
 cases d with
 | pair d e=>simp [valV,ex,ex0,a5,bt,cells]
 | arr n d=>simp [valV,ex,ex0,al,segA,cells,flat]
 | _=>cases h
theorem jK (d:Td)(x:T d)(h:rowD d=false):cells d x=[ex (valV d x)]:=by
 cases d <;> first | rfl | cases h
theorem eT (d:Td)(x:T d):cg (ex (valV d x))=false:=by cases d <;> rfl
section
variable {R:Type}
def decV (d:Td)(x:V)(k:T d→Tree R):Tree R:=
 if isAgg x=rowD d then (match dz x with
  | some segs=>decK d segs fun y rest=>if wL rest=0 then k y else .fail
  | none=>.fail) else .fail
theorem qe {x:V}{w:World}{B:List Nat}{η:List Value}{cs:Array Value}(hp:x.plain=true)(hv:Rel w B η (ex x) (.agg cs)):isAgg x=true:=by
 cases x with
 | agg l=>rfl
 | arr d n a=>rfl
 | c v0=>have:=Rel.ofC hv;subst this;rfl
 | any=>cases hp
 | clo f l=>cases hp
 | bsl i n=>cases hp
 | _=>cases hv
theorem iQ {d:Td}{x:V}{k:T d→Tree R}{res:R}(h:(decV d x k).run=some res):∃ y,(k y).run=some res∧x.plain=true∧∀ (w:World) (B:List Nat) (η:List Value) (v:Value),Rel w B η (ex x) v→Rel w B η (ex (valV d y)) v:=by
 unfold decV at h
 split at h
 ·rename_i hag
  split at h
  ·rename_i segs hs
   obtain ⟨s1,s2,s3⟩:=cY hs
   obtain ⟨y,rest,h1,h2⟩:=bU _ _ _ _ h
   split at h1
   ·rename_i hr
    have hr0:al rest=[]:=uO (by rw [ep];exact hr)
    rw [hr0,vk] at h2
    refine ⟨y,h1,s3,fun w B η v hv=> ?_⟩
    have hu:Rel w B η (eu x) v:=hv.unf
    have hL:=hu.toL (fun l e=>by rw [e] at s2;cases s2)
    rw [s1] at hL
    have hL:=h2 w B η _ hL
    cases hd:rowD d with
    | true=>
     rw [hd] at hag
     rw [jJ d y hd]
     have:∃ cs,v= .agg cs:=by
      rcases jw hag with ⟨l,rfl⟩ | ⟨d',n',a',rfl⟩ | ⟨cs,rfl⟩
      ·obtain ⟨cs,e,_⟩:=Rel.aggL hv;exact ⟨cs,e⟩
      ·obtain ⟨cs,e,_⟩:=Rel.aggL hv;exact ⟨cs,e⟩
      ·exact ⟨cs,Rel.ofC hv⟩
     obtain ⟨cs,rfl⟩:=this
     exact hL.toAgg
    | false=>
     rw [hd] at hag
     rw [jK d y hd] at hL
     have:v.cells.toList=[v]:=by
      cases v with
      | agg cs=>
       rw [qe s3 hv] at hag
       cases hag
      | _=>rfl
     rw [this] at hL
     obtain ⟨u,e,hu⟩:=RelL.one1 hL
     injection e with e
     subst e
     exact hu
   ·cases h1
  ·cases h
 ·cases h
inductive BSh where
 | ty (d:Td)
 | own (j:Nat)
 | nil
 | sel (j:Nat)
 | bl (b:Bool)
 | lv (v:V)
inductive SSh where
 | ty (d:Td)
 | lit (v:V)
 | adr (d:Td)
 | mix (b:List BSh)
inductive HSh where
 | dead
 | boxp (t:TypeId) (b:List BSh)
 | box (t:TypeId) (d:Td)
 | own (d:Td) (E:TypeId)
 | itr
structure Shape where
 slots:List (Nat×SSh)
 heap:List HSh
@[reducible] def HL:List Td→Type
 | []=>Unit
 | d::l=>T d×HL l
@[reducible] def tdsB:List BSh→List Td→List Td
 | [],r=>r
 | .ty d::b,r=>d::tdsB b r
 | .own _::b,r=>tdsB b r
 | .nil::b,r=>tdsB b r
 | .bl _::b,r=>tdsB b r
 | .lv _::b,r=>tdsB b r
 | .sel _::b,r=>.bool::tdsB b r
@[reducible] def tdsS:List (Nat×SSh)→List Td
 | []=>[]
 | (_,.ty d)::l=>d::tdsS l
 | (_,.lit _)::l=>tdsS l
 | (_,.adr d)::l=>d::tdsS l
 | (_,.mix b)::l=>tdsB b (tdsS l)
@[reducible] def tdsH:List HSh→List Td
 | []=>[]
 | .boxp _ b::l=>tdsB b (tdsH l)
 | .dead::l=>tdsH l
 | .box _ d::l=>d::tdsH l
 | .own d _::l=>.sl d::tdsH l
 | .itr::l=>.str:: .int .i64::tdsH l
@[reducible] def CT (sh:Shape):Type:=HL (tdsS sh.slots)×HL (tdsH sh.heap)
def encB:(b:List BSh)→(r:List Td)→HL (tdsB b r)→List V
 | [],_,_=>[]
 | .ty d::b,r,c=>enc d c.1++encB b r c.2
 | .own j::b,r,c=>.own j::encB b r c
 | .nil::b,r,c=>.c (.slice none 0 0)::encB b r c
 | .bl x::b,r,c=>.c (.bool x)::encB b r c
 | .lv x::b,r,c=>x::encB b r c
 | .sel j::b,r,c=>(bif c.1 then .box j 0 else .c (.pointer none))::encB b r c.2
def jh:(b:List BSh)→(r:List Td)→HL (tdsB b r)→HL r
 | [],_,c=>c
 | .ty _::b,r,c=>jh b r c.2
 | .own _::b,r,c=>jh b r c
 | .nil::b,r,c=>jh b r c
 | .bl _::b,r,c=>jh b r c
 | .lv _::b,r,c=>jh b r c
 | .sel _::b,r,c=>jh b r c.2
def l3:(l:List (Nat×SSh))→HL (tdsS l)→List V→List V
 | [],_,sl=>sl
 | (s,.ty d)::l,c,sl=>l3 l c.2 (sl.set s (valV d c.1))
 | (s,.lit v)::l,c,sl=>l3 l c (sl.set s v)
 | (s,.adr d)::l,c,sl=>l3 l c.2 (sl.set s (.adr (enc d c.1)))
 | (s,.mix b)::l,c,sl=>l3 l (jh b (tdsS l) c) (sl.set s (.agg (encB b (tdsS l) c)))
def encH:(l:List HSh)→HL (tdsH l)→List E2
 | [],_=>[]
 | .boxp t b::l,c=>.box (encB b (tdsH l) c) t::encH l (jh b (tdsH l) c)
 | .dead::l,c=>.dead::encH l c
 | .box t d::l,c=>.box (enc d c.1) t::encH l c.2
 | .own d E::l,c=>.own d c.1 E::encH l c.2
 | .itr::l,c=>.itr c.1 c.2.1::encH l c.2.2
def stOf (sh:Shape)(n:Nat)(c:CT sh):S2:=⟨l3 sh.slots c.1 (vf n .any),encH sh.heap c.2⟩
def jv:V→V→Bool
 | .box i o,.box i' o'=>i==i'&&o==o'
 | .own i,.own i'=>i==i'
 | .c (.pointer none),.c (.pointer none)=>true
 | .c (.slice none 0 0),.c (.slice none 0 0)=>true
 | .emp,.emp=>true
 | _,_=>false
def kY:List V→List V→Bool
 | [],[]=>true
 | x::l,y::m=>jv x y&&kY l m
 | _,_=>false
def re:V→V→Bool
 | .clo f l,.clo g m=>f==g&&kY l m
 | .bsl i n,.bsl j m=>i==j&&n==m
 | x,y=>jv x y
theorem iG {x y:V}(h:jv x y=true):x=y:=by
 unfold jv at h
 split at h
 ·simp only [ge,beq_iff_eq] at h;rw [h.1,h.2]
 ·simp only [beq_iff_eq] at h;rw [h]
 ·rfl
 ·rfl
 ·rfl
 ·cases h
theorem kX:∀ {l m:List V},kY l m=true→l=m
 | [],[],_=>rfl
 | [],_::_,h=>by cases h
 | _::_,[],h=>by cases h
 | x::l,y::m,h=>by
  simp only [kY,ge] at h
  rw [iG h.1,kX h.2]
theorem rd {x y:V}(h:re x y=true):x=y∧cg (ex y)=false:=by
 unfold re at h
 split at h
 ·simp only [ge,beq_iff_eq] at h
  rw [h.1,kX h.2];exact ⟨rfl,rfl⟩
 ·simp only [ge,beq_iff_eq] at h
  rw [h.1,h.2];exact ⟨rfl,rfl⟩
 ·refine ⟨iG h, ?_⟩
  unfold jv at h
  split at h <;> first | rfl | cases h
def decB:(b:List BSh)→(r:List Td)→List V→((HL r→HL (tdsB b r))→List V→Tree R)→Tree R
 | [],_,segs,k=>k (fun y=>y) segs
 | .ty d::b,r,segs,k=>decK d segs fun x segs'=>decB b r segs' fun f segs''=>k (fun y=>(x,f y)) segs''
 | .own j::b,r,segs,k=>(match segs with
  | .own i::segs'=>if i=j then decB b r segs' k else .fail
  | _=>.fail)
 | .nil::b,r,segs,k=>(match segs with
  | .c (.slice none 0 0)::segs'=>decB b r segs' k
  | _=>.fail)
 | .bl x::b,r,segs,k=>(match segs with
  | .c (.bool y)::segs'=>if y=x then decB b r segs' k else .fail
  | _=>.fail)
 | .lv x::b,r,segs,k=>(match segs with
  | y::segs'=>if jv y x=true then decB b r segs' k else .fail
  | _=>.fail)
 | .sel j::b,r,segs,k=>(match segs with
  | .box i 0::segs'=>if i=j then decB b r segs' fun f segs''=>k (fun y=>(true,f y)) segs'' else .fail
  | .c (.pointer none)::segs'=>decB b r segs' fun f segs''=>k (fun y=>(false,f y)) segs''
  | _=>.fail)
theorem ee:∀ (b:List BSh) (r:List Td) (segs:List V) (k:(HL r→HL (tdsB b r))→List V→Tree R) (res:R),(decB b r segs k).run=some res→
  ∃ f rest,(k f rest).run=some res∧∀ y,jh b r (f y)=y∧Wk (al segs) (al (encB b r (f y))++al rest)
 | [],r,segs,k,res,h=>⟨fun y=>y,segs,h,fun y=>⟨rfl,Wk.refl _⟩⟩
 | .ty d::b,r,segs,k,res,h=>by
  obtain ⟨x,segs',h1,h2⟩:=bU _ _ _ _ h
  obtain ⟨f,rest,h3,h4⟩:=ee b r _ _ res h1
  refine ⟨_,rest,h3,fun y=>⟨(h4 y).1, ?_⟩⟩
  show Wk _ (al (enc d x++encB b r (f y))++al rest)
  rw [a5,bt,uU]
  exact h2.trans ((Wk.refl _).app (h4 y).2)
 | .own j::b,r,segs,k,res,h=>by
  unfold decB at h
  split at h
  ·rename_i i segs'
   split at h
   ·rename_i hi
    subst hi
    obtain ⟨f,rest,h3,h4⟩:=ee b r _ _ res h
    refine ⟨f,rest,h3,fun y=>⟨(h4 y).1, ?_⟩⟩
    show Wk _ (al (V.own i::encB b r (f y))++al rest)
    rw [aj,aj,uU]
    exact (Wk.refl _).app (h4 y).2
   ·cases h
  ·cases h
 | .bl x::b,r,segs,k,res,h=>by
  unfold decB at h
  split at h
  ·rename_i y segs'
   split at h
   ·rename_i hi
    subst hi
    obtain ⟨f,rest,h3,h4⟩:=ee b r _ _ res h
    refine ⟨f,rest,h3,fun y=>⟨(h4 y).1, ?_⟩⟩
    show Wk _ (al (V.c (.bool _)::encB b r (f y))++al rest)
    rw [aj,aj,uU]
    exact (Wk.refl _).app (h4 y).2
   ·cases h
  ·cases h
 | .lv x::b,r,segs,k,res,h=>by
  unfold decB at h
  split at h
  ·rename_i y segs'
   split at h
   ·rename_i hi
    have hi:=iG hi
    subst hi
    obtain ⟨f,rest,h3,h4⟩:=ee b r _ _ res h
    refine ⟨f,rest,h3,fun y=>⟨(h4 y).1, ?_⟩⟩
    show Wk _ (al (_::encB b r (f y))++al rest)
    rw [aj,aj,uU]
    exact (Wk.refl _).app (h4 y).2
   ·cases h
  ·cases h
 | .nil::b,r,segs,k,res,h=>by
  unfold decB at h
  split at h
  ·rename_i segs'
   obtain ⟨f,rest,h3,h4⟩:=ee b r _ _ res h
   refine ⟨f,rest,h3,fun y=>⟨(h4 y).1, ?_⟩⟩
   show Wk _ (al (V.c (.slice none 0 0)::encB b r (f y))++al rest)
   rw [aj,aj,uU]
   exact (Wk.refl _).app (h4 y).2
  ·cases h
 | .sel j::b,r,segs,k,res,h=>by
  unfold decB at h
  split at h
  ·rename_i i segs'
   split at h
   ·rename_i hi
    subst hi
    obtain ⟨f,rest,h3,h4⟩:=ee b r _ _ res h
    refine ⟨_,rest,h3,fun y=>⟨(h4 y).1, ?_⟩⟩
    show Wk _ (al (V.box i 0::encB b r (f y))++al rest)
    rw [aj,aj,uU]
    exact (Wk.refl _).app (h4 y).2
   ·cases h
  ·rename_i segs'
   obtain ⟨f,rest,h3,h4⟩:=ee b r _ _ res h
   refine ⟨_,rest,h3,fun y=>⟨(h4 y).1, ?_⟩⟩
   show Wk _ (al (V.c (.pointer none)::encB b r (f y))++al rest)
   rw [aj,aj,uU]
   exact (Wk.refl _).app (h4 y).2
  ·cases h
def decS:(l:List (Nat×SSh))→List V→(HL (tdsS l)→Tree R)→Tree R
 | [],_,k=>k ()
 | (s,.ty d)::l,sl,k=>decV d (sl.getD s .any) fun x=>decS l sl fun y=>k (x,y)
 | (s,.lit v)::l,sl,k=>if re (sl.getD s .any) v=true then decS l sl k else .fail
 | (s,.adr d)::l,sl,k=>(match sl.getD s .any with
  | .adr segs=>decK d segs fun x rest=>if wL rest=0 then decS l sl fun y=>k (x,y) else .fail
  | _=>.fail)
 | (s,.mix b)::l,sl,k=>(match sl.getD s .any with
  | .agg segs=>decB b (tdsS l) segs fun f rest=>if wL rest=0 then decS l sl fun y=>k (f y) else .fail
  | _=>.fail)
def decH:(l:List HSh)→List E2→(HL (tdsH l)→Tree R)→Tree R
 | [],H,k=>(match H with | []=>k () | _=>.fail)
 | .boxp t b::l,H,k=>(match H with
  | .box segs t'::H=>if t=t' then decB b (tdsH l) segs fun f rest=>if wL rest=0 then decH l H fun y=>k (f y) else .fail else .fail
  | _=>.fail)
 | .dead::l,H,k=>(match H with | _::H=>decH l H k | []=>.fail)
 | .box t d::l,H,k=>(match H with
  | .box segs t'::H=>if t=t' then decK d segs fun x rest=>if wL rest=0 then decH l H fun y=>k (x,y) else .fail else .fail
  | _=>.fail)
 | .own d E::l,H,k=>(match H with
  | .own d' m E'::H=>if E=E' then dk d' d (fun d=>List (T d)) m fun m=>decH l H fun y=>k (m,y) else .fail
  | _=>.fail)
 | .itr::l,H,k=>(match H with
  | .itr s p::H=>decH l H fun y=>k (s,(p,y))
  | _=>.fail)
theorem gJ:∀ (l:List (Nat×SSh)) (sl:List V) (k:HL (tdsS l)→Tree R) (res:R),(decS l sl k).run=some res→
  ∃ c,(k c).run=some res∧∀ (n0:Nat) (w:World) (B:List Nat) (η:List Value) (tmps:Array Value) (base:List V),SlotsK n0 w B η sl tmps→SlotsK n0 w B η base tmps→SlotsK n0 w B η (l3 l c base) tmps
 | [],sl,k,res,h=>⟨(),h,fun n0 w B η tmps base hs hb=>hb⟩
 | (s,.ty d)::l,sl,k,res,h=>by
  obtain ⟨x,h1,h2,h3⟩:=iQ h
  obtain ⟨c,h4,h5⟩:=gJ l sl _ res h1
  refine ⟨(x,c),h4,fun n0 w B η tmps base hs hb=>h5 n0 w B η tmps _ hs ?_⟩
  have hr:=h3 w B η _ ((hs.rel s).get h2)
  have:=hb.put (r:=valV d x) (v:=tmps.getD s undef) (Rel2.of (eS d x) hr) (fun h=>by rw [eT] at h;cases h) s
  have e:tmps.setIfInBounds s (tmps.getD s undef)=tmps:=by
   apply Array.ext (by simp)
   intro i h1 h2
   rw [uZ]
   split
   ·rename_i hi;subst hi;simp [uH,h2]
   ·rfl
  rwa [e] at this
 | (s,.lit v)::l,sl,k,res,h=>by
  unfold decS at h
  split at h
  ·rename_i hl
   obtain ⟨e1,e2⟩:=rd hl
   obtain ⟨c,h4,h5⟩:=gJ l sl k res h
   refine ⟨c,h4,fun n0 w B η tmps base hs hb=>h5 n0 w B η tmps _ hs ?_⟩
   have hr:=hs.rel s
   rw [e1] at hr
   have:=hb.put (r:=v) (v:=tmps.getD s undef) hr (fun h=>by rw [e2] at h;cases h) s
   have e:tmps.setIfInBounds s (tmps.getD s undef)=tmps:=by
    apply Array.ext (by simp)
    intro i h1 h2
    rw [uZ]
    split
    ·rename_i hi;subst hi;simp [uH,h2]
    ·rfl
   rwa [e] at this
  ·cases h
 | (s,.adr d)::l,sl,k,res,h=>by
  unfold decS at h
  split at h
  ·rename_i segs hsg
   obtain ⟨x,rest,h1,h2⟩:=bU _ _ _ _ h
   split at h1
   ·rename_i hr
    have hr0:al rest=[]:=uO (by rw [ep];exact hr)
    rw [hr0,vk] at h2
    obtain ⟨c,h4,h5⟩:=gJ l sl _ res h1
    refine ⟨(x,c),h4,fun n0 w B η tmps base hs hb=>h5 n0 w B η tmps _ hs ?_⟩
    have hr1:=hs.rel s
    rw [hsg] at hr1
    have hr2:Rel w B η (.adr (al segs)) (tmps.getD s undef):=hr1
    have hr3:Rel2 w B η (.adr (enc d x)) (tmps.getD s undef):=by
     show Rel w B η (.adr (al (enc d x))) _
     rw [bt];exact jp h2 hr2
    have:=hb.put (r:=.adr (enc d x)) (v:=tmps.getD s undef) hr3 (fun h=>by cases h) s
    have e:tmps.setIfInBounds s (tmps.getD s undef)=tmps:=by
     apply Array.ext (by simp)
     intro i h1 h2
     rw [uZ]
     split
     ·rename_i hi;subst hi;simp [uH,h2]
     ·rfl
    rwa [e] at this
   ·cases h1
  ·cases h
 | (s,.mix b)::l,sl,k,res,h=>by
  unfold decS at h
  split at h
  ·rename_i segs hsg
   obtain ⟨f,rest,h1,h2⟩:=ee _ _ _ _ _ h
   split at h1
   ·rename_i hr
    have hr0:al rest=[]:=uO (by rw [ep];exact hr)
    obtain ⟨c,h4,h5⟩:=gJ l sl _ res h1
    obtain ⟨g1,g2⟩:=h2 c
    rw [hr0,vk] at g2
    refine ⟨f c,h4,fun n0 w B η tmps base hs hb=> ?_⟩
    have hr1:=hs.rel s
    rw [hsg] at hr1
    have hr3:Rel2 w B η (.agg (encB b (tdsS l) (f c))) (tmps.getD s undef):=by
     obtain ⟨cs,hcs,hl⟩:=Rel.aggL hr1
     rw [hcs]
     exact (g2 w B η _ hl).toAgg
    have:=hb.put (r:=.agg (encB b (tdsS l) (f c))) (v:=tmps.getD s undef) hr3 (fun h=>by cases h) s
    have e:tmps.setIfInBounds s (tmps.getD s undef)=tmps:=by
     apply Array.ext (by simp)
     intro i h1 h2
     rw [uZ]
     split
     ·rename_i hi;subst hi;simp [uH,h2]
     ·rfl
    rw [e] at this
    have:=h5 n0 w B η tmps _ hs this
    show SlotsK n0 w B η (l3 l (jh b (tdsS l) (f c)) _) tmps
    rw [g1]
    exact this
   ·cases h1
  ·cases h
theorem fH:∀ (l:List HSh) (H:List E2) (k:HL (tdsH l)→Tree R) (res:R),(decH l H k).run=some res→
  ∃ c,(k c).run=some res∧(encH l c).length=H.length∧∀ (i:Nat) e',(encH l c)[i]? =some e'→∃ e,H[i]? =some e∧fu (exE e) (exE e')
 | [],H,k,res,h=>by
  unfold decH at h
  split at h
  ·exact ⟨(),h,rfl,fun i e' h=>by simp [encH] at h⟩
  ·cases h
 | .boxp t b::l,H,k,res,h=>by
  unfold decH at h
  split at h
  ·rename_i segs t' H
   split at h
   ·rename_i ht
    subst ht
    obtain ⟨f,rest,h1,h2⟩:=ee _ _ _ _ _ h
    split at h1
    ·rename_i hr
     have hr0:al rest=[]:=uO (by rw [ep];exact hr)
     obtain ⟨c,h3,h4,h5⟩:=fH l H _ res h1
     obtain ⟨g1,g2⟩:=h2 c
     rw [hr0,vk] at g2
     refine ⟨f c,h3,by simp [encH,g1,h4],fun i e' he=> ?_⟩
     cases i with
     | zero=>simp [encH] at he;subst he;exact ⟨_,rfl,.inr (.inr (.inl ⟨_,_,_,rfl,rfl,g2⟩))⟩
     | succ i=>simpa using h5 i e' (by simpa [encH,g1] using he)
    ·cases h1
   ·cases h
  ·cases h
 | .dead::l,H,k,res,h=>by
  unfold decH at h
  split at h
  ·rename_i e0 H
   obtain ⟨c,h1,h2,h3⟩:=fH l H k res h
   refine ⟨c,h1,by simp [encH,h2],fun i e' he=> ?_⟩
   cases i with
   | zero=>simp [encH] at he;subst he;exact ⟨e0,rfl,.inl rfl⟩
   | succ i=>simpa using h3 i e' (by simpa [encH] using he)
  ·cases h
 | .box t d::l,H,k,res,h=>by
  unfold decH at h
  split at h
  ·rename_i segs t' H
   split at h
   ·rename_i ht
    subst ht
    obtain ⟨x,rest,h1,h2⟩:=bU _ _ _ _ h
    split at h1
    ·rename_i hr
     have hr0:al rest=[]:=uO (by rw [ep];exact hr)
     rw [hr0,vk] at h2
     obtain ⟨c,h3,h4,h5⟩:=fH l H _ res h1
     refine ⟨(x,c),h3,by simp [encH,h4],fun i e' he=> ?_⟩
     cases i with
     | zero=>simp [encH] at he;subst he;exact ⟨_,rfl,.inr (.inr (.inl ⟨_,_,_,rfl,rfl,by rw [bt];exact h2⟩))⟩
     | succ i=>simpa using h5 i e' (by simpa [encH] using he)
    ·cases h1
   ·cases h
  ·cases h
 | .own d E::l,H,k,res,h=>by
  unfold decH at h
  split at h
  ·rename_i d' m E' H
   split at h
   ·rename_i ht
    subst ht
    obtain ⟨e1,h1⟩:=aU h
    clear h
    subst e1
    simp only at h1
    obtain ⟨c,h3,h4,h5⟩:=fH l H _ res h1
    refine ⟨(m,c),h3,by simp [encH,h4],fun i e' he=> ?_⟩
    cases i with
    | zero=>simp [encH] at he;subst he;exact ⟨_,rfl,.refl _⟩
    | succ i=>simpa using h5 i e' (by simpa [encH] using he)
   ·cases h
  ·cases h
 | .itr::l,H,k,res,h=>by
  unfold decH at h
  split at h
  ·rename_i s p H
   obtain ⟨c,h3,h4,h5⟩:=fH l H _ res h
   refine ⟨(s,(p,c)),h3,by simp [encH,h4],fun i e' he=> ?_⟩
   cases i with
   | zero=>simp [encH] at he;subst he;exact ⟨_,rfl,.refl _⟩
   | succ i=>simpa using h5 i e' (by simpa [encH] using he)
  ·cases h
def idsV:V→List Nat
 | .own i | .box i _ | .boxi i _ _ _ _ _ | .oadr i _ _ _ | .bsl i _=>[i]
 | .agg l | .clo _ l=>l.filterMap fun | .own i | .box i _ | .boxi i _ _ _ _ _ | .oadr i _ _ _=>some i | _=>none
 | _=>[]
def idsE:E2→List Nat
 | .box l _=>idsV (.agg l)
 | _=>[]
def clos (H:List E2)(m0:Nat):Nat→List Nat→List Nat→List Nat
 | 0,_,acc=>acc
 | _,[],acc=>acc
 | f+1,i::todo,acc=>if i<m0||acc.contains i then clos H m0 f todo acc else clos H m0 f (todo++idsE (H.getD i .dead)) (acc++[i])
def fV:List Nat→Bool
 | []=>true
 | x::l=>!l.contains x&&fV l
theorem fU:∀ {l:List Nat},fV l=true→l.Nodup
 | [],_=>List.nodup_nil
 | x::l,h=>by
  simp only [fV,ge,Bool.not_eq_true',List.contains_eq_mem,decide_eq_false_iff_not] at h
  exact List.nodup_cons.2 ⟨h.1,fU h.2⟩
def iA (P:Program)(m0:Nat):List (Nat×TypeId)→S2→S2
 | [],st=>st
 | (s,e)::l,st=>iA P m0 l (mc m0 (o5 P st s e) s)
def eh (m0:Nat)(sh:Shape)(st:S2):List Nat:=u1 m0++clos st.heap m0 500 ((sh.slots.flatMap fun p=>idsV (st.slots.getD p.1 .any))++(u1 m0).flatMap fun i=>idsE (st.heap.getD i .dead)) []
def jf:List (Nat×SSh)→List V→List Nat
 | [],_=>[]
 | (s,.ty _)::l,sl=>cU (sl.getD s .any)++jf l sl
 | (_,.lit _)::l,sl=>jf l sl
 | (_,.adr _)::l,sl=>jf l sl
 | (_,.mix _)::l,sl=>jf l sl
def sH:E2→List Nat
 | .box l _=>cU (.agg l)
 | _=>[]
def tyB:List BSh→List V→List Nat
 | .ty _::b,x::segs=>cU x++tyB b segs
 | _::b,_::segs=>tyB b segs
 | _,_=>[]
def jm:List HSh→List Nat→List E2→List Nat
 | .box _ _::l,i::keep,H=>sH (H.getD i .dead)++jm l keep H
 | .boxp _ b::l,i::keep,H=>(match H.getD i .dead with | .box segs _=>(if b.any (fun | .own _=>true | _=>false)=true then tyB b segs else cU (.agg segs)) | _=>[])++jm l keep H
 | _::l,_::keep,H=>jm l keep H
 | _,_,_=>[]
def fD (P:Program)(st:S2)(id c:Nat)(e:TypeId):S2:=
 match st.heap[id]?,tdOf P 12 e with
 | some (.box segs t),some d=>(match segs[c]? with
  | some (.c (.slice none 0 0))=>if 1≤wd d then ⟨st.slots,st.heap.set id (.box (segs.set c (.own st.heap.length)) t)++[.own d [] e]⟩ else st
  | _=>st)
 | _,_=>st
theorem mX {w:World}{B:List Nat}{η:List Value}{n:Nat}(hn:η[n]? =some (.slice none 0 0)):∀ (l:List V) (c:Nat) (us:List Value),l[c]? =some (.c (.slice none 0 0))→RelL w B η (al l) us→RelL w B η (al (l.set c (.own n))) us
 | [],c,us,h,_=>by simp at h
 | x::l,0,us,h,hr=>by
  simp at h
  subst h
  rw [aj] at hr
  obtain ⟨h1,h2⟩:=hr.split
  obtain ⟨u,e,hu⟩:=RelL.one1 (x:=.c (.slice none 0 0)) h1
  have hu:=Rel.ofC hu
  subst hu
  rw [List.set_cons_zero,aj]
  have:=(RelL.of1 (.own η n none 0 0 hn:Rel w B η (.own n) (.slice none 0 0))).append h2
  rw [←e,vb] at this
  exact this
 | x::l,c+1,us,h,hr=>by
  rw [aj] at hr
  obtain ⟨h1,h2⟩:=hr.split
  rw [List.set_cons_succ,aj]
  have:=h1.append (mX hn l c _ (by simpa using h) h2)
  rwa [vb] at this
theorem nU {P:Program}{n0:Nat}{Bx:List Nat}{ds:List Deferred}{st:S2}{a:Act}{w:World}{B:List Nat}{η:List Value}(h:SimK n0 Bx ds st a w B η)(id c:Nat)(e:TypeId):∃ η',SimK n0 Bx ds (fD P st id c e) a w B η'∧∀ (id:Nat) v,η[id]? =some v→η'[id]? =some v:=by
 unfold fD
 split
 ·rename_i segs t d hH htd
  split
  ·rename_i hsg
   split
   ·rename_i hw
    have hl:η.length=st.heap.length:=by simpa using h.inv.len
    have hnew:(η++[Value.slice none 0 0])[st.heap.length]? =some (.slice none 0 0):=by rw [←hl,List.getElem?_append_right (uV _)];simp
    refine ⟨η++[.slice none 0 0],⟨h.defers, ?_,h.slots.on (u2 B w) (fun _ h=>.inl h) (aq η _)⟩,aq η _⟩
    have hidlt:id<st.heap.length:=(List.getElem?_eq_some_iff.1 hH).1
    have part:∀ (i:Nat) (ei:Ent),(((st.heap.set id (.box (segs.set c (.own st.heap.length)) t))++[E2.own d [] e]).map exE)[i]? =some ei→(i<st.heap.length∧((i=id∧ei= .box (al (segs.set c (.own st.heap.length))) t)∨(i≠id∧(st.heap.map exE)[i]? =some ei)))∨(i=st.heap.length∧ei= .own [] e (wd d)):=fun i ei hi=>by
     rw [vi] at hi
     rcases uJ i st.heap.length with hlt | hge
     ·rw [List.getElem?_append_left (by simpa using hlt),List.map_set,List.getElem?_set] at hi
      refine .inl ⟨hlt, ?_⟩
      split at hi
      ·rename_i hii
       subst hii
       rw [if_pos (by simpa using hlt)] at hi
       injection hi with hi
       exact .inl ⟨rfl,hi.symm⟩
      ·rename_i hii
       exact .inr ⟨fun h=>hii h.symm,hi⟩
     ·rw [List.getElem?_append_right (by simpa using hge)] at hi
      have hz:i=st.heap.length:=by have:=(List.getElem?_eq_some_iff.1 hi).1;simp at this;omega
      subst hz
      simp at hi
      exact .inr ⟨rfl,hi.symm⟩
    refine ⟨by simp [h.inv.len],h.inv.base,h.inv.sub,h.inv.lt,fun i e' he=> ?_,fun i j ei ej hij hi hj hli hlj b hb=> ?_⟩
    ·rcases part i e' he with ⟨hlt,⟨rfl,rfl⟩ | ⟨hne,hold⟩⟩ | ⟨rfl,rfl⟩
     ·rw [ai (by omega)]
      obtain ⟨b,us,p1,p2,p3,p4,p5,p6⟩:=h.inv.ent i _ (exH hH)
      exact ⟨b,us,p1,p2,p3,p4,p5,mX hnew segs c us hsg (p6.on (u2 B w) (fun _ h=>.inl h) (aq η _))⟩
     ·rw [ai (by omega)]
      exact aF.keep (h.inv.ent i e' hold) (u2 B w) (fun _ h=>.inl h) (fun _ h=>h) (aq η _) (fun _ _ _=>rfl)
     ·rw [←hl,ak]
      exact ⟨0,[],bw.nil w n0 e (wd d),RelL.nil _ _ _,hw,fun b hb=>by cases hb⟩
    ·have live:∀ (i:Nat) (ei:Ent),i<st.heap.length→((i=id∧ei= .box (al (segs.set c (.own st.heap.length))) t)∨(i≠id∧(st.heap.map exE)[i]? =some ei))→ei.live=true→∃ ei',(st.heap.map exE)[i]? =some ei'∧ei'.live=true:=fun i ei _ hc hl=>by
      rcases hc with ⟨rfl,rfl⟩ | ⟨_,hc⟩
      ·exact ⟨_,exH hH,rfl⟩
      ·exact ⟨_,hc,hl⟩
     rcases part i ei hi with ⟨h1,h2⟩ | ⟨h1,_⟩
     ·rw [ai (by omega)] at hb
      rcases part j ej hj with ⟨h3,h4⟩ | ⟨h3,_⟩
      ·rw [ai (by omega)]
       obtain ⟨_,k1,k2⟩:=live i ei h1 h2 hli
       obtain ⟨_,k3,k4⟩:=live j ej h3 h4 hlj
       exact h.inv.sep i j _ _ hij k1 k3 k2 k4 b hb
      ·subst h3;rw [←hl,ak];intro hc;cases hc
     ·subst h1;rw [←hl,ak] at hb;cases hb
   ·exact ⟨η,h,fun _ _ h=>h⟩
  ·exact ⟨η,h,fun _ _ h=>h⟩
 ·exact ⟨η,h,fun _ _ h=>h⟩
def gT:List BSh→Nat→List Nat
 | [],_=>[]
 | .own _::b,i=>i::gT b (i+1)
 | .ty _::b,i=>gT b (i+1)
 | .nil::b,i=>gT b (i+1)
 | .bl _::b,i=>gT b (i+1)
 | .lv _::b,i=>gT b (i+1)
 | .sel _::b,i=>gT b (i+1)
def tb (P:Program):Nat→TypeId→List (Option TypeId)
 | 0,_=>[none]
 | n+1,t=>match P.underlying t with
  | some (.struct fs)=>fs.toList.flatMap fun f=>tb P n f.type
  | some (.array m e)=>(match P.underlying e with
   | some (.struct _)=>if m≤4 then (vf m (tb P n e)).flatten else [none]
   | _=>[none])
  | _=>[cX P t]
def uG (P:Program)(t:TypeId)(c:Nat):Option TypeId:=((tb P 6 t)[c]?).join
def ownB (P:Program)(t:TypeId)(id:Nat):List Nat→S2→S2
 | [],st=>st
 | c::l,st=>ownB P t id l (match uG P t c with | some e=>fD P st id c e | none=>st)
def nW (P:Program):List HSh→List Nat→S2→S2
 | .boxp t b::l,i::keep,st=>nW P l keep (ownB P t i (gT b 0) st)
 | _::l,_::keep,st=>nW P l keep st
 | _,_,st=>st
theorem jU {P:Program}{n0 m0:Nat}{Bx:List Nat}{ds:List Deferred}{a:Act}{w:World}{B:List Nat}(t:TypeId)(id:Nat):∀ (l:List Nat) (st:S2) (η:List Value),SimK n0 Bx ds st a w B η→∃ η',SimK n0 Bx ds (ownB P t id l st) a w B η'∧Goes n0 Bx m0 w B η w B η'
 | [],st,η,h=>⟨η,h,u3 _ _ _ _ _ _⟩
 | c::l,st,η,h=>by
  unfold ownB
  split
  ·rename_i e _
   obtain ⟨η1,h1,h2⟩:=nU (P:=P) h id c e
   obtain ⟨η2,h3,h4⟩:=jU (m0:=m0) t id l _ η1 h1
   exact ⟨η2,h3,(⟨u2 B w,fun b hb=>.inl hb,fun id v _ hv=>h2 id v hv,Bel.refl _ _ _⟩:Goes n0 Bx m0 w B η w B η1).trans h4⟩
  ·exact jU t id l _ η h
theorem eY {P:Program}{n0 m0:Nat}{Bx:List Nat}{ds:List Deferred}{a:Act}{w:World}{B:List Nat}:∀ (l:List HSh) (keep:List Nat) (st:S2) (η:List Value),SimK n0 Bx ds st a w B η→∃ η',SimK n0 Bx ds (nW P l keep st) a w B η'∧Goes n0 Bx m0 w B η w B η'
 | [],_,st,η,h=>⟨η,h,u3 _ _ _ _ _ _⟩
 | x::l,[],st,η,h=>by
  have e:nW P (x::l) [] st=st:=by cases x <;> rfl
  rw [e]
  exact ⟨η,h,u3 _ _ _ _ _ _⟩
 | x::l,i::keep,st,η,h=>by
  cases x with
  | boxp t b=>
   obtain ⟨η1,h1,h2⟩:=jU (m0:=m0) (P:=P) t i (gT b 0) st η h
   obtain ⟨η2,h3,h4⟩:=eY (m0:=m0) l keep _ η1 h1
   exact ⟨η2,h3,h2.trans h4⟩
  | dead=>exact eY l keep st η h
  | box t d=>exact eY l keep st η h
  | own d E=>exact eY l keep st η h
  | itr=>exact eY l keep st η h
def sD (P:Program)(m0:Nat)(ow:List (Nat×TypeId))(sh:Shape)(st:S2):S2:=
 match iA P m0 ow (cW (jf sh.slots st.slots) st) with
 | st1=>match cW (jm sh.heap (eh m0 sh st1) st1.heap) st1 with
  | st2=>nW P sh.heap (eh m0 sh st1) st2
def fB (P:Program)(m0:Nat)(ow:List (Nat×TypeId))(sh:Shape)(n:Nat)(st:S2)(k:CT sh→Tree R):Tree R:=
 de (iA P m0 ow (cW (jf sh.slots st.slots) st)) fun st1=>eG (eh m0 sh st1) fun keep=>de (cW (jm sh.heap keep st1.heap) st1) fun st2=>de (nW P sh.heap keep st2) fun st3=>
 eG (eh m0 sh st3) fun keep3=>if fV keep3=true∧st3.slots.length=n∧m0≤st3.heap.length then de (ek keep3 st3) fun st4=>decS sh.slots st4.slots fun c=>decH sh.heap st4.heap fun d=>k (c,d) else .fail
def jL (P:Program)(m0:Nat)(ow:List (Nat×TypeId))(sh:Shape)(n:Nat)(st:S2)(k:CT sh→Tree R):Tree R:=
 match sD P m0 ow sh st with
 | ⟨sl,H⟩=>if fV (eh m0 sh ⟨sl,H⟩)=true∧sl.length=n∧m0≤H.length then (match ek (eh m0 sh ⟨sl,H⟩) ⟨sl,H⟩ with
  | ⟨sl2,H2⟩=>gb sl2 fun sl2=>decS sh.slots sl2 fun c=>decH sh.heap H2 fun d=>k (c,d)) else .fail
theorem nK (P:Program)(m0:Nat)(ow:List (Nat×TypeId))(sh:Shape)(n:Nat)(st:S2)(k:CT sh→Tree R):fB P m0 ow sh n st k=jL P m0 ow sh n st k:=by
 unfold fB jL
 simp only [e8,fa,cR]
 rfl
theorem kR {P:Program}{n0 m0:Nat}{Bx:List Nat}{ds:List Deferred}{a:Act}{w:World}{B:List Nat}:∀ (l:List (Nat×TypeId)) (st:S2) (η:List Value),SimK n0 Bx ds st a w B η→∃ η',SimK n0 Bx ds (iA P m0 l st) a w B η'∧Goes n0 Bx m0 w B η w B η'
 | [],st,η,h=>⟨η,h,u3 _ _ _ _ _ _⟩
 | (s,e)::l,st,η,h=>by
  obtain ⟨η1,h1,h2⟩:=o4 (P:=P) h s e
  obtain ⟨η0,h5,h6⟩:=n6 (m0:=m0) h1 s
  obtain ⟨η2,h3,h4⟩:=kR (m0:=m0) l _ η0 h5
  exact ⟨η2,h3,(⟨u2 B w,fun b hb=>.inl hb,fun id v _ hv=>h6 id v (h2 id v hv),Bel.refl _ _ _⟩:Goes n0 Bx m0 w B η w B η0).trans h4⟩
theorem lC {n0:Nat}{w:World}{B:List Nat}{η:List Value}{tmps:Array Value}{n:Nat}(h:n=tmps.size):SlotsK n0 w B η (vf n .any) tmps:=by
 have:∀ t,(vf n V.any).getD t .any= .any:=fun t=>by
  rw [List.getD_eq_getElem?_getD,List.getElem?_replicate];split <;> rfl
 exact ⟨by simp [h],fun t=>by rw [this];trivial,fun t hf=>by rw [this] at hf;cases hf⟩
theorem qR {P:Program}{n0 m0:Nat}{Bx:List Nat}{ds:List Deferred}{a:Act}{w:World}{B:List Nat}{η:List Value}{st:S2}(ow:List (Nat×TypeId))(sh:Shape)(hs:SimK n0 Bx ds st a w B η):∃ B' η',SimK n0 Bx ds (sD P m0 ow sh st) a w B' η'∧Goes n0 Bx m0 w B η w B' η':=by
 obtain ⟨B0,f1,f2⟩:=cm (m0:=m0) (jf sh.slots st.slots) st B hs
 obtain ⟨η1,g1,g2⟩:=kR (P:=P) (m0:=m0) ow _ η f1
 obtain ⟨B1,k1,k2⟩:=cm (m0:=m0) (jm sh.heap (eh m0 sh (iA P m0 ow (cW (jf sh.slots st.slots) st))) (iA P m0 ow (cW (jf sh.slots st.slots) st)).heap) _ B0 g1
 obtain ⟨η2,l1,l2⟩:=eY (P:=P) (m0:=m0) sh.heap (eh m0 sh (iA P m0 ow (cW (jf sh.slots st.slots) st))) _ η1 k1
 exact ⟨B1,η2,l1,((f2.trans g2).trans k2).trans l2⟩
theorem eU {P:Program}{m0:Nat}{ow:List (Nat×TypeId)}{sh:Shape}{n:Nat}{st:S2}{k:CT sh→Tree R}{res:R}(h:(fB P m0 ow sh n st k).run=some res):
  ∃ c,(k c).run=some res∧∀ (n0:Nat) (Bx:List Nat) (ds:List Deferred) (a:Act) (w:World) (B:List Nat) (η:List Value),SimK n0 Bx ds st a w B η→∃ B' η',SimK n0 Bx ds (stOf sh n c) a w B' η'∧Goes n0 Bx m0 w B η w B' η':=by
 rw [nK] at h
 unfold jL at h
 split at h
 rename_i sl H how
 split at h
 ·rename_i hc
  obtain ⟨hnd,hlen,hm0⟩:=hc
  split at h
  rename_i sl2 H2 hrn
  rw [cR] at h
  obtain ⟨c,h1,h2⟩:=gJ _ _ _ _ h
  obtain ⟨d,h3,h4,h5⟩:=fH _ _ _ _ h1
  refine ⟨(c,d),h3,fun n0 Bx ds a w B η hs=> ?_⟩
  obtain ⟨B0,η1,g1,g2⟩:=qR (P:=P) (m0:=m0) ow sh hs
  rw [how] at g1
  have g3:=jP g1 (fU hnd)
  rw [hrn] at g3
  refine ⟨B0,(eh m0 sh ⟨sl,H⟩).map fun i=>η1.getD i undef,⟨g3.defers, ?_, ?_⟩,g2.trans ⟨u2 B0 w,fun b hb=>.inl hb,fun id v hid hv=> ?_,Bel.refl _ _ _⟩⟩
  ·refine g3.inv.le (by simp [stOf,h4]) (fun i e' he=> ?_)
   simp only [stOf,List.getElem?_map,uK] at he
   obtain ⟨e0,he0,rfl⟩:=he
   obtain ⟨e1,he1,hle⟩:=h5 i e0 he0
   exact ⟨_,exH he1,hle⟩
  ·exact h2 n0 w B0 _ a.tmps _ g3.slots (lC (by rw [←hlen];exact g1.slots.size))
  ·have hk:(eh m0 sh ⟨sl,H⟩)[id]? =some id:=by
    unfold eh
    rw [List.getElem?_append_left (by simpa using hid)]
    simp [hid]
   rw [List.getElem?_map,hk,uY,List.getD_eq_getElem?_getD,hv,Option.getD_some]
 ·cases h
end
end Go.Proofs.Ytmndainldhmnjaa
