/-
  Parts of my own, one behind the other: Base, Rgn, Glob, Eng1, Eng2, Eng3, Eng4, Eng4b, Eng4c, Eng4d, Facts, Eng4e, Eng5, Eng6, Eng7, Eng8, Eng8b, Eng8z, K1, K2.
-/
import Derived.WalkKit
import Derived.WalkSpells
import Derived.WalkLawsBesides
import Derived.BigQuiet
import Derived.Deep.QuietTactic
import Derived.Deep.Draws
import Derived.Deep.AppendLies
import Derived.Lib.Hide
import Derived.Maps.AppendAt
import Derived.StillTailTactics
import Derived.StillTail
import Derived.Deep.MidRow
import Derived.Laws.Tables
import Derived.Laws.MakeOwn
import Derived.Test.YtmndainldhmnjaaRows
import Derived.Deep.RegionLaw
import Derived.Deep.RegionHeld3
import Derived.Scope
import Derived.LoopN
import Derived.Laws.CopyRow
import Derived.ArgAppend
import Derived.Lib.AppendStr
open Go.Sem renaming run_bind→eq, run_pure→uS
open Go.Op renaming operands→ge
open Go.Builtin renaming append_→gt, zeroCells→uO, lenOf→vd
open Go.Result renaming andThen_ok→ne
open Nat renaming le_refl→uH, lt_of_lt_of_le→uJ, lt_or_ge→uM, mul_le_mul_right→uN, add_mul→uV, mul_div_cancel→uY, le_trans→vb, eq_zero_or_pos→vf
open List renaming eq_nil_of_length_eq_zero→uI, all_eq_true→uK, range→uP, mem_cons_self→uR, take_of_length_le→uT, mem_cons→uU, append_assoc→uW, mem_cons_of_mem→uX, length_append→uZ, map_toArray→u4, map_cons→u5, take_left→vc, length_take→ve, mem_of_getElem?→vg, map_nil→vh, toList_toArray→vi, length_drop→vj, take_append→vl, ext_getElem?→vm
open Go.Instr renaming sliceBounds→uL, sliceBound→vk
open Go.Lib renaming strCells→uQ, run_firstCells_string→vo
open Go.Value renaming ownBlock→u1, slice→vn
open Option renaming getD_some→u2, map_eq_some_iff→u7, some→u9, bind_eq_some_iff→vp
open Go.Addr renaming add_mid→u3
open Go.Call renaming operands→u6
namespace Go.Proofs.Ytmndainldhmnjaa
set_option maxRecDepth 100000
open Go.RowKit
def bv (b:UInt8):Value:=.int .u8 (b.toNat:Int)
def RB (w:World)(A:Option Addr)(n:Nat)(bs:List UInt8):Prop:=
 bs.length=n∧(0<n→∃ ad,A=some ad∧ad.block<w.heap.size∧∀ j b,bs[j]? =some b→w.cell? (ad.add j)=some (.int .u8 (b.toNat:Int)))
theorem bf (a:Addr)(n:Nat):(a.add n).block=a.block:=by unfold Addr.add;split <;> rfl
section
variable {w w':World} {n:Nat} {A:Option Addr} {bs:List UInt8}
theorem RB.len (h:RB w A n bs):bs.length=n:=h.1
theorem RB.nil (w:World)(A:Option Addr):RB w A 0 []:=⟨rfl,fun h=>absurd h (by omega)⟩
theorem RB.below (h:RB w A n bs)(hb:Below w.heap.size w w'):RB w' A n bs:=
 ⟨h.1,fun hn=>by
  obtain ⟨ad,e,hlt,hc⟩:=h.2 hn
  exact ⟨ad,e,uJ hlt hb.size,fun j u hu=>(hb.cell (by rw [bf];exact hlt)).trans (hc j u hu)⟩⟩
theorem RB.drewN (h:RB w A n bs)(k:Nat):RB (w.drewN k) A n bs:=h
theorem RB.drew (h:RB w A n bs):RB w.drew A n bs:=h
end
def Qt (w w':World):Prop:=∃ q,w'=w.drewN q
theorem Qt.refl (w:World):Qt w w:=⟨0,rfl⟩
theorem Qt.d (w:World)(q:Nat):Qt w (w.drewN q):=⟨q,rfl⟩
theorem Qt.dd (w:World)(q p:Nat):Qt w ((w.drewN q).drewN p):=⟨q+p,World.drewN_drewN _ _ _⟩
theorem Qt.trans {a b c:World}(h:Qt a b)(k:Qt b c):Qt a c:=by
 obtain ⟨q,rfl⟩:=h;obtain ⟨p,rfl⟩:=k;exact Qt.dd _ _ _
theorem Qt.below {w w':World}(h:Qt w w')(B:Nat):Below B w w':=by
 obtain ⟨q,rfl⟩:=h;exact ⟨rfl,rfl,rfl,uH _,fun _ _=>rfl⟩
def OB (w:World)(base:Nat)(v:Value)(n:Nat)(bs:List UInt8):Prop:=w.ownsRow base 5 1 v n (bs.map bv)
section
variable {w w':World} {base n:Nat} {v:Value} {bs:List UInt8}
theorem OB.len (h:OB w base v n bs):bs.length=n:=by have:=h.1;simpa using this
theorem OB.nil (w:World)(base:Nat):OB w base (.slice none 0 0) 0 []:=World.ownsRow_nil _ _ _ _
theorem OB.alloc (h:OB w base v n bs)(o:Obj):OB (w.alloc o) base v n bs:=World.ownsRow.alloc h o
theorem OB.drewN (h:OB w base v n bs)(q:Nat):OB (w.drewN q) base v n bs:=h
theorem OB.drew (h:OB w base v n bs):OB w.drew base v n bs:=h
theorem OB.lt (h:OB w base v n bs):∀ k,v.ownBlock=some k→base≤k∧k<w.heap.size:=World.ownsRow.lt h
theorem OB.kept {row:Option Nat}(h:OB w base v n bs)(hg:w.grownBy w' row)(hne:v.ownBlock=none∨v.ownBlock≠row):OB w' base v n bs:=World.ownsRow.kept h hg hne
theorem OB.below (h:OB w base v n bs)(hb:Below w.heap.size w w'):OB w' base v n bs:=by
 refine World.ownsRow.kept (row:=none) h ⟨hb.os,hb.tape,hb.output,hb.size,fun k hk _=>hb.block k hk⟩ ?_
 cases hv:v.ownBlock <;> simp
theorem OB.more {b':Nat}(h:OB w base v n bs)(hb:b'≤base):OB w b' v n bs:=by
 refine ⟨h.1, ?_⟩
 rcases h.2 with h' | ⟨g,cap,cur,hv,hg,r⟩
 ·exact .inl h'
 ·exact .inr ⟨g,cap,cur,hv,vb hb hg,r⟩
theorem OB.shape (h:OB w base v n bs):∃ A c,v= .slice A n c∧n≤c∧c≤maxLen∧RB w A n bs:=by
 have hl:=h.len
 rcases h.2 with ⟨rfl,rfl⟩ | ⟨g,cap,cur,rfl,hb,hg,hnc,hcm,hcs,htake⟩
 ·exact ⟨none,0,rfl,uH _,by simp [maxLen],hl,fun h=>absurd h (by omega)⟩
 ·refine ⟨_,cap,rfl,hnc,hcm,hl,fun hn=>⟨_,rfl,(Array.getElem?_eq_some_iff.1 hg).1,fun j b hj=> ?_⟩⟩
  exact World.ownsRow.cells h (g:=g) rfl j _ (by rw [List.getElem?_map,hj];rfl)
theorem OB.made (w:World)(base l c:Nat)(hl:l≤c)(hc:c≤maxLen)(hb:base≤w.heap.size):
  OB (w.alloc (.cells (madeCells #[.int .u8 0] c) 5)) base (.slice (some ⟨w.heap.size,0,none⟩) l c) l (List.replicate l 0):=by
 refine ⟨by simp,.inr ⟨w.heap.size,c,_,rfl,hb,heap_alloc_new w _,hl,hc,by rw [size_madeCells];simp, ?_⟩⟩
 rw [toList_madeCells_one,Nat.mul_one,List.take_replicate,Nat.min_eq_left hl,List.map_replicate];rfl
end
def RV (w:World)(A:Option Addr)(n:Nat)(vs:List Value):Prop:=
 vs.length=n∧(0<n→∃ ad,A=some ad∧ad.block<w.heap.size∧∀ j v,vs[j]? =some v→w.cell? (ad.add j)=some v)
section
variable {w w':World} {n:Nat} {A:Option Addr} {vs:List Value}
theorem RV.len (h:RV w A n vs):vs.length=n:=h.1
theorem RV.below (h:RV w A n vs)(hb:Below w.heap.size w w'):RV w' A n vs:=
 ⟨h.1,fun hn=>by
  obtain ⟨ad,e,hlt,hc⟩:=h.2 hn
  exact ⟨ad,e,uJ hlt hb.size,fun j u hu=>(hb.cell (by rw [bf];exact hlt)).trans (hc j u hu)⟩⟩
end
def RPs (w:World)(A:Option Addr)(n:Nat)(ps:List (List UInt8)):Prop:=
 ∃ vs:List Value,RV w A n vs∧ps.length=n∧∀ (j:Nat) (v:Value) (p:List UInt8),vs[j]? =some v→ps[j]? =some p→∃ B m c,v=vn B m c∧m≤c∧c≤maxLen∧RB w B m p
theorem RPs.below {w w':World}{A:Option Addr}{n:Nat}{ps:List (List UInt8)}(h:RPs w A n ps)(hb:Below w.heap.size w w'):RPs w' A n ps:=by
 obtain ⟨vs,hv,hl,hp⟩:=h
 refine ⟨vs,hv.below hb,hl,fun j v p h1 h2=> ?_⟩
 obtain ⟨B,m,c,rfl,h3,h4,h5⟩:=hp j v p h1 h2
 exact ⟨B,m,c,rfl,h3,h4,h5.below hb⟩
theorem RPs.len {w:World}{A:Option Addr}{n:Nat}{ps:List (List UInt8)}(h:RPs w A n ps):ps.length=n:=by obtain ⟨_,_,hl,_⟩:=h;exact hl
theorem mI {B:Nat}{a w:World}(h:Below B a w)(n:Nat):Below B a (w.drewN n):=⟨h.os,h.tape,h.output,h.size,h.block⟩
end Go.Proofs.Ytmndainldhmnjaa
namespace Go.Proofs.Ytmndainldhmnjaa
set_option maxRecDepth 100000
open Go.RowKit
set_option linter.unusedVariables false
abbrev Gr (w w':World):Prop:=Below w.heap.size w w'
theorem Gr.refl (w:World):Gr w w:=Below.refl _ _
theorem Gr.trans {a b c:World}(h:Gr a b)(k:Gr b c):Gr a c:=Below.trans h (k.mono h.size)
theorem cH {a b:World}(h:Gr a b)(o:Obj):Gr a (b.alloc o):=Below.alloc h h.size o
inductive Slot where
 | is (v:Value)
 | sat (R:Value→World→Prop)
def Slot.Has:Slot→Value→World→Prop
 | .is x,v,_=>v=x
 | .sat R,v,w=>R v w
structure Way (L:World→World→Prop):Prop where
 refl:∀ w,L w w
 trans:∀ a b c,L a b→L b c→L a c
 draw:∀ w:World,L w { w with drawn:=w.drawn+1 }
section
variable {P:Program} {L:World→World→Prop} {ops:Array Oper} {W:World} {ds:List Deferred}
def Oper.val (P:Program)(ρ:Operand→Value)(o:Oper)(w:World)(N:Value→World→Prop):Prop:=
 match (execOp ρ o).run P w with
 | .ok (.value v) w'=>N v w'
 | .ok .skip w'=>N undef w'
 | .ok (.enter f args) w'=>Calls P f args w' fun e w''=>∃ v,e= .returned v∧N v w''
 | _=>False
def jt (o:Oper):List Nat:=o.after.toList.filterMap fun e=>if Region.binds .any e=true then some e.on else none
def jr (ops:Array Oper)(i:Nat):Nat→List Nat→List Nat→Bool
 | 0,_,_=>false
 | _+1,[],_=>false
 | f+1,j::todo,seen=>match ops[j]? with
  | none=>jr ops i f todo seen
  | some o=>(jt o).contains i||jr ops i f ((jt o).filter (fun x=>!seen.contains x)++todo) (jt o++seen)
def ancB (ops:Array Oper)(f j i:Nat):Bool:=jr ops i (3*f+3) [j] []
def pL (ops:Array Oper)(n:Nat):Bool:=
 (uP n).all fun j=>(uP n).all fun i=>match ops[i]?,ops[j]? with
  | some oi,some oj=>(match oi.dst with
   | some t=>!(oj.looksAt ops).contains t||i==j||(decide (i<j)&&Region.waitsFor .any ops j i)||(decide (j<i)&&ancB ops ops.size i j)
   | none=>true)
  | _,_=>true
def l8 (ops:Array Oper)(n:Nat):Bool:=
 (uP n).all fun j=>(uP n).all fun i=>i==j||match ops[i]?,ops[j]? with
  | some oi,some oj=>(match oi.dst with | some t=>oj.dst !=some t | none=>true)
  | _,_=>true
def rO (ops:Array Oper):Bool:=(uP ops.size).all fun j=>match ops[j]? with | some o=>o.after.all fun e=>!Region.binds .any e||decide (e.on<j) | none=>true
theorem js {o:Oper}{x:Nat}(h:x∈jt o):∃ e∈o.after,Region.binds .any e=true∧e.on=x:=by
 obtain ⟨e,he,hx⟩:=List.mem_filterMap.1 h
 split at hx
 ·rename_i hb
  injection hx with hx
  exact ⟨e,by simpa using he,hb,hx⟩
 ·cases hx
theorem dW {listed:Array Bool}{i:Nat}(hc:∀ j oj,ops[j]? =some oj→listed.getD j false=true→∀ e∈oj.after,Region.binds .any e=true→listed.getD e.on false=true):
  ∀ (f:Nat) (todo seen:List Nat),jr ops i f todo seen=true→(∀ x∈todo,listed.getD x false=true)→listed.getD i false=true
 | 0,_,_,h,_=>by cases h
 | _+1,[],_,h,_=>by cases h
 | f+1,j::todo,seen,h,hl=>by
  unfold jr at h
  split at h
  ·exact dW hc f _ _ h (fun x hx=>hl x (uX _ hx))
  ·rename_i o ho
   have hp:∀ x∈jt o,listed.getD x false=true:=fun x hx=>by
    obtain ⟨e,he,hb,rfl⟩:=js hx
    exact hc j o ho (hl j uR) e he hb
   rcases Bool.or_eq_true _ _▸h with h1 | h1
   ·exact hp i (by simpa using h1)
   ·exact dW hc f _ _ h1 (fun x hx=>by
     rcases List.mem_append.1 hx with hx | hx
     ·exact hp x (List.mem_filter.1 hx).1
     ·exact hl x (uX _ hx))
theorem gq {listed:Array Bool}(hc:∀ j oj,ops[j]? =some oj→listed.getD j false=true→∀ e∈oj.after,Region.binds .any e=true→listed.getD e.on false=true):
  ∀ (f j i:Nat),ancB ops f j i=true→listed.getD j false=true→listed.getD i false=true:=fun f j i h hl=>
 dW hc _ _ _ h (fun x hx=>by rw [List.mem_singleton.1 hx];exact hl)
structure InvS (L:World→World→Prop) (ops:Array Oper) (n:Nat) (W:World) (ds:List Deferred) (σ0:List Slot) (Rs:Nat→Slot) (listed:Array Bool) (a:Act) (w:World):Prop where
 defers:a.defers=ds
 size:a.tmps.size=σ0.length
 grown:L W w
 done:∀ t x i,a.tmps[t]? =some x→i<n→(ops[i]?).bind (·.dst)=some t→listed.getD i false=true→(Rs i).Has x w
 bare:∀ i o,i<n→ops[i]? =some o→o.dst=none→listed.getD i false=true→∃ v,(Rs i).Has v w
 open_:∀ t x S,a.tmps[t]? =some x→(∀ i<n,(ops[i]?).bind (·.dst)=some t→listed.getD i false=false)→σ0[t]? =some S→S.Has x w
theorem nX {n:Nat}(h:l8 ops n=true){i j:Nat}{t:Tmp}(hi:i<n)(hj:j<n)(h1:(ops[i]?).bind (·.dst)=some t)(h2:(ops[j]?).bind (·.dst)=some t):i=j:=by
 have:=uK.1 (uK.1 h j (List.mem_range.2 hj)) i (List.mem_range.2 hi)
 obtain ⟨oi,hoi,hdi⟩:=vp.1 h1
 obtain ⟨oj,hoj,hdj⟩:=vp.1 h2
 simp only [hoi,hoj,hdi,hdj,Bool.or_eq_true,beq_iff_eq] at this
 rcases this with h | h
 ·exact h
 ·simp at h
theorem gL {n:Nat}(h:pL ops n=true){i j:Nat}{t:Tmp}{oj:Oper}(hi:i<n)(hj:j<n)(h1:(ops[i]?).bind (·.dst)=some t)(h2:ops[j]? =some oj)(hl:t∈oj.looksAt ops):
  i=j∨(i<j∧Region.waitsFor .any ops j i=true)∨(j<i∧ancB ops ops.size i j=true):=by
 have:=uK.1 (uK.1 h j (List.mem_range.2 hj)) i (List.mem_range.2 hi)
 obtain ⟨oi,hoi,hdi⟩:=vp.1 h1
 simp only [hoi,h2,hdi,Bool.or_eq_true,beq_iff_eq,Bool.and_eq_true,decide_eq_true_eq,Bool.not_eq_true',List.contains_eq_mem,decide_eq_false_iff_not] at this
 rcases this with ((h | h) | h) | h
 ·exact absurd hl h
 ·exact .inl h
 ·exact .inr (.inl h)
 ·exact .inr (.inr h)
attribute [go_sem] Oper.val
end
structure Gs (bs:List Nat) (ps:List (Addr×Value)) (w w':World):Prop where
 os:w'.os=w.os
 tape:w'.tape=w.tape
 output:w'.output=w.output
 size:w.heap.size≤w'.heap.size
 block:∀ k,k<w.heap.size→k∉bs→w'.heap[k]? =w.heap[k]?
 frozen:∀ p:Addr,p.block∈bs→p.block<w.heap.size→w'.frozen? p=w.frozen? p
 some_:∀ p:Addr,p.block∈bs→(∃ v,w.cell? p=some v)→∃ v,w'.cell? p=some v
 said:∀ p∈ps,w.cell? p.1=some p.2→w'.cell? p.1=some p.2
theorem Gs.refl (bs:List Nat)(ps:List (Addr×Value))(w:World):Gs bs ps w w:=⟨rfl,rfl,rfl,uH _,fun _ _ _=>rfl,fun _ _ _=>rfl,fun _ _ h=>h,fun _ _ h=>h⟩
theorem Gs.trans {bs:List Nat}{ps:List (Addr×Value)}{a b c:World}(h:Gs bs ps a b)(k:Gs bs ps b c):Gs bs ps a c:=
 ⟨k.os.trans h.os,k.tape.trans h.tape,k.output.trans h.output,vb h.size k.size,fun i hi hn=>(k.block i (uJ hi h.size) hn).trans (h.block i hi hn),
  fun p hp hi=>(k.frozen p hp (uJ hi h.size)).trans (h.frozen p hp hi),fun p hp he=>k.some_ p hp (h.some_ p hp he),fun p hp he=>k.said p hp (h.said p hp he)⟩
theorem gn {w:World}{p:Addr}{v:Value}(h:w.cell? p=some v):p.block<w.heap.size:=by
 unfold World.cell? at h
 rcases uM p.block w.heap.size with hl | hl
 ·exact hl
 ·rw [Array.getElem?_eq_none hl] at h;cases h
theorem Gr.gs {w w':World}(h:Gr w w')(bs:List Nat)(ps:List (Addr×Value)):Gs bs ps w w':=
 ⟨h.os,h.tape,h.output,h.size,fun k hk _=>h.block k hk,fun p _ hp=>h.frozen hp,fun p _ ⟨v,hv⟩=>⟨v,(h.cell (gn hv)).trans hv⟩,fun p _ hv=>(h.cell (gn hv)).trans hv⟩
theorem Gs.set {bs:List Nat}{ps:List (Addr×Value)}{w:World}{p:Addr}{u:Value}(hp:p.block∈bs)(hs:∀ q∈ps,q.1=p→q.2=u):Gs bs ps w (w.setCell p u):=by
 refine ⟨rfl,rfl,rfl,by simp,fun k _ hn=>Below.heap_setCell _ _ _ _ (fun e=>hn (by rw [e];exact hp)),fun q _ _=>by simp,fun q _ ⟨v,hv⟩=> ?_,fun q hq hv=> ?_⟩
 ·by_cases he:q=p
  ·subst he;exact ⟨u,World.cell?_setCell_same _ _ _ hv⟩
  ·exact ⟨v,by rw [World.cell?_setCell_other _ _ _ _ (fun e=>he e.symm)];exact hv⟩
 ·by_cases he:q.1=p
  ·rw [hs q hq he,he];rw [he] at hv;exact World.cell?_setCell_same _ _ _ hv
  ·rw [World.cell?_setCell_other _ _ _ _ (fun e=>he e.symm)];exact hv
theorem Gs.cell {bs:List Nat}{ps:List (Addr×Value)}{w w':World}(h:Gs bs ps w w'){p:Addr}(hp:p.block<w.heap.size)(hn:p.block∉bs):w'.cell? p=w.cell? p:=World.cell?_of_block (w:=w) (h.block _ hp hn)
def mB (b:Nat):Nat→List Value→List (Addr×Value)
 | _,[]=>[]
 | k,v::vs=>(⟨b,k,none⟩,v)::mB b (k+1) vs
def dn (w:World)(b:Nat):Nat→List Value→World
 | _,[]=>w
 | k,v::vs=>dn (w.setCell ⟨b,k,none⟩ v) b (k+1) vs
theorem iR {b:Nat}:∀ {vs:List Value} {k:Nat} {q:Addr×Value},q∈mB b k vs→∃ i,vs[i]? =some q.2∧q.1=⟨b,k+i,none⟩
 | [],_,_,h=>by cases h
 | v::vs,k,q,h=>by
  rcases uU.1 h with rfl | h
  ·exact ⟨0,rfl,rfl⟩
  ·obtain ⟨i,h1,h2⟩:=iR h
   exact ⟨i+1,by simpa using h1,by rw [h2];congr 1;omega⟩
theorem fx {b:Nat}{p:Addr}:∀ (vs:List Value) (k:Nat) (w:World),(∀ i,i<vs.length→p≠⟨b,k+i,none⟩)→(dn w b k vs).cell? p=w.cell? p
 | [],_,_,_=>rfl
 | v::vs,k,w,h=>by
  show (dn (w.setCell ⟨b,k,none⟩ v) b (k+1) vs).cell? p=_
  rw [fx vs (k+1) _ (fun i hi=>by have:=h (i+1) (by simp;omega);rwa [show k+1+i=k+(i+1) by omega]),World.cell?_setCell_other _ _ _ _ (fun e=>h 0 (by simp) (by rw [←e];rfl))]
theorem ic {b:Nat}:∀ (vs:List Value) (k:Nat) (w:World),(∀ i,i<vs.length→∃ x,w.cell? ⟨b,k+i,none⟩=some x)→∀ i v,vs[i]? =some v→(dn w b k vs).cell? ⟨b,k+i,none⟩=some v
 | [],_,_,_,i,v,h=>by simp at h
 | u::vs,k,w,hex,0,v,h=>by
  show (dn (w.setCell ⟨b,k,none⟩ u) b (k+1) vs).cell? _=_
  rw [fx vs (k+1) _ (fun i _ e=>by injection e;omega)]
  have:u=v:=by simpa using h
  subst this
  obtain ⟨x,hx⟩:=hex 0 (by simp)
  exact World.cell?_setCell_same _ _ _ hx
 | u::vs,k,w,hex,i+1,v,h=>by
  have:=ic vs (k+1) (w.setCell ⟨b,k,none⟩ u) (fun j hj=>by
   obtain ⟨x,hx⟩:=hex (j+1) (by simp;omega)
   exact ⟨x,by rw [World.cell?_setCell_other _ _ _ _ (fun e=>by injection e;omega)];rw [show k+1+j=k+(j+1) by omega];exact hx⟩) i v (by simpa using h)
  rw [show k+(i+1)=k+1+i by omega];exact this
theorem gP {bs:List Nat}{ps:List (Addr×Value)}{b:Nat}(hb:b∈bs):∀ (vs:List Value) (k:Nat) (w:World),(∀ q∈ps,∀ i v,vs[i]? =some v→q.1=⟨b,k+i,none⟩→q.2=v)→Gs bs ps w (dn w b k vs)
 | [],_,w,_=>Gs.refl _ _ _
 | v::vs,k,w,h=>Gs.trans (Gs.set (p:=⟨b,k,none⟩) (u:=v) hb (fun q hq he=>h q hq 0 v rfl he)) (gP hb vs (k+1) _ (fun q hq i u hu he=>h q hq (i+1) u (by simpa using hu) (by rw [he];congr 1;omega)))
theorem kG (b:Nat)(vs:List Value)(w:World):Gs [b] (mB b 0 vs) w (dn w b 0 vs):=
 gP uR vs 0 w fun q hq i v hv he=>by
  obtain ⟨j,h1,h2⟩:=iR hq
  rw [h2] at he
  injection he with _ he
  have:j=i:=by omega
  subst this
  rw [h1] at hv;exact u9.inj hv
theorem Gs.below {bs:List Nat}{ps:List (Addr×Value)}{w w':World}(h:Gs bs ps w w'){B:Nat}(hB:B≤w.heap.size)(hn:∀ b∈bs,B≤b):Below B w w':=
 ⟨h.os,h.tape,h.output,h.size,fun k hk=>h.block k (by omega) (fun e=>by have:=hn k e;omega)⟩
structure StA (w:World) (B:Nat) (vs:List Value):Prop where
 cell:∀ i v,vs[i]? =some v→w.cell? ⟨B,i,none⟩=some v
 free:∀ i v,vs[i]? =some v→w.frozen? ⟨B,i,none⟩=false
 lt:B<w.heap.size
theorem StA.gr {w w':World}{B:Nat}{vs:List Value}(h:StA w B vs)(g:Gr w w'):StA w' B vs:=
 ⟨fun i v hv=>(g.cell (p:=⟨B,i,none⟩) h.lt).trans (h.cell i v hv),fun i v hv=>(g.frozen (p:=⟨B,i,none⟩) h.lt).trans (h.free i v hv),uJ h.lt g.size⟩
theorem StA.drewN {w:World}{B:Nat}{vs:List Value}(h:StA w B vs)(n:Nat):StA (w.drewN n) B vs:=h.gr (mI (Gr.refl w) n)
theorem StA.set {w:World}{B:Nat}{vs us:List Value}(h:StA w B vs)(hl:us.length=vs.length):StA (dn w B 0 us) B us:=by
 have hex:∀ i,i<us.length→∃ x,w.cell? ⟨B,0+i,none⟩=some x:=fun i hi=>⟨_,by rw [Nat.zero_add];exact h.cell i _ (List.getElem?_eq_getElem (by omega))⟩
 have g:=kG B us w
 refine ⟨fun i v hv=>by have:=ic us 0 w hex i v hv;rwa [Nat.zero_add] at this,fun i v hv=> ?_,uJ h.lt g.size⟩
 have hi:i<us.length:=(List.getElem?_eq_some_iff.1 hv).1
 rw [g.frozen ⟨B,i,none⟩ uR h.lt]
 exact h.free i _ (List.getElem?_eq_getElem (by omega))
theorem StA.new (w:World)(vs:List Value)(t:TypeId):StA (w.alloc (.cells vs.toArray t)) w.heap.size vs:=by
 refine ⟨fun i v hv=> ?_,fun i v hv=> ?_,by simp⟩
 ·rw [World.cell?_alloc_at _ _ _ _ rfl];simpa using hv
 ·exact World.frozen?_alloc_at _ _ _ _ rfl
end Go.Proofs.Ytmndainldhmnjaa
namespace Go.Proofs.Ytmndainldhmnjaa
set_option maxRecDepth 100000
open Go.RowKit
def rl:List (Nat×List Value):=[
]
def r7:List Nat:=[]
def pm:List Nat:=[]
def nd:List (Nat×List Value):=[]
end Go.Proofs.Ytmndainldhmnjaa
namespace Go.Proofs.Ytmndainldhmnjaa
set_option maxRecDepth 100000
open Go.RowKit
set_option linter.unusedVariables false
inductive AV where
 | c (v:Value)
 | agg (l:List AV)
 | tup (l:List AV)
 | sl (l:List AV) (k:Nat)
 | fresh (l:List AV) (k:Nat)
 | emp
 | adr (l:List AV)
 | box (id off:Nat)
 | own (id:Nat)
 | oadr (id off:Nat)
 | nn
 deriving Inhabited
structure At (w:World) (B:List Nat) (ad:Addr) (len:Nat) (us:Nat→Value):Prop where
 spot:ad.spot=none
 lt:ad.block<w.heap.size
 out:ad.block∉B
 cell:∀ i,i<len→w.cell? (ad.add i)=some (us i)
inductive Rel (w:World) (B:List Nat):List Value→AV→Value→Prop where
 | c (η:List Value) (v:Value):Rel w B η (.c v) v
 | agg (η:List Value) (l:List AV) (cs:Array Value) (us:Nat→Value) (hs:cs.size=l.length) (hu:∀ i x,l[i]? =some x→cs[i]? =some (us i)) (hr:∀ i x,l[i]? =some x→Rel w B η x (us i)):Rel w B η (.agg l) (.agg cs)
 | tup (η:List Value) (l:List AV) (cs:Array Value) (us:Nat→Value) (hs:cs.size=l.length) (hu:∀ i x,l[i]? =some x→cs[i]? =some (us i)) (hr:∀ i x,l[i]? =some x→Rel w B η x (us i)):Rel w B η (.tup l) (.tuple cs)
 | sl (η:List Value) (l:List AV) (k:Nat) (A:Option Addr) (n c:Nat) (us:Nat→Value) (hk:1≤k) (hn:n*k=l.length) (hc:n≤c) (hm:c≤maxLen) (hA:0<n→∃ ad,A=some ad∧At w B ad l.length us) (hr:∀ i x,l[i]? =some x→Rel w B [] x (us i)):Rel w B η (.sl l k) (.slice A n c)
 | fresh (η:List Value) (l:List AV) (k:Nat) (A:Option Addr) (n:Nat) (us:Nat→Value) (hk:1≤k) (hn:n*k=l.length) (h0:A=none→n=0) (hm:n≤maxLen) (hA:0<n→∃ ad,A=some ad∧At w B ad l.length us) (hr:∀ i x,l[i]? =some x→Rel w B [] x (us i)):Rel w B η (.fresh l k) (.slice A n n)
 | emp (η:List Value) (A:Option Addr):Rel w B η .emp (.slice A 0 0)
 | adr (η:List Value) (l:List AV) (ad:Addr) (us:Nat→Value) (ha:At w B ad l.length us) (hr:∀ i x,l[i]? =some x→Rel w B [] x (us i)):Rel w B η (.adr l) (.pointer (some ad))
 | box (η:List Value) (id off b:Nat) (h:η[id]? =some (.pointer (some ⟨b,0,none⟩))):Rel w B η (.box id off) (.pointer (some ⟨b,off,none⟩))
 | own (η:List Value) (id:Nat) (a:Option Addr) (n c:Nat) (h:η[id]? =some (.slice a n c)):Rel w B η (.own id) (.slice a n c)
 | oadr (η:List Value) (id off b o n c:Nat) (h:η[id]? =some (.slice (some ⟨b,o,none⟩) n c)):Rel w B η (.oadr id off) (.pointer (some ⟨b,o+off,none⟩))
 | nn (η:List Value) (t:TypeId) (v:Value):Rel w B η .nn (.iface t v)
def Soft (w w':World)(b:Nat):Prop:=(∀ c e fr,w.heap[b]? =some (.cells c e fr)→∃ fr',w'.heap[b]? =some (.cells c e fr'))∧∀ o:Obj,w.heap[b]? =some o→(∀ c e fr,o≠.cells c e fr)→w'.heap[b]? =some o
theorem Soft.of {w w':World}{b:Nat}(h:w'.heap[b]? =w.heap[b]?):Soft w w' b:=⟨fun c e fr hc=>⟨fr,by rw [h];exact hc⟩,fun o ho _=>by rw [h];exact ho⟩
theorem Soft.cell {w w':World}{b:Nat}(h:Soft w w' b){p:Addr}(hp:p.block=b){u:Value}(hu:w.cell? p=some u):w'.cell? p=some u:=by
 subst hp
 unfold World.cell? at hu ⊢
 split at hu
 ·rename_i c e fr hc
  obtain ⟨fr',hc'⟩:=h.1 c e fr hc
  rw [hc']
  exact hu
 ·cases hu
theorem Soft.trans {a b c:World}{k:Nat}(h:Soft a b k)(h':Soft b c k):Soft a c k:=⟨fun x e fr hx=>by
 obtain ⟨fr',h1⟩:=h.1 x e fr hx
 exact h'.1 x e fr' h1,fun o ho hc=>h'.2 o (h.2 o ho hc) hc⟩
structure On (B:List Nat) (w w':World):Prop where
 os:w'.os=w.os
 tape:w'.tape=w.tape
 output:w'.output=w.output
 size:w.heap.size≤w'.heap.size
 block:∀ b,b<w.heap.size→b∉B→Soft w w' b
theorem On.refl (B:List Nat)(w:World):On B w w:=⟨rfl,rfl,rfl,uH _,fun _ _ _=>.of rfl⟩
theorem On.gr {B:List Nat}{w w':World}(h:Gr w w'):On B w w':=⟨h.os,h.tape,h.output,h.size,fun b hb _=>.of (h.block b hb)⟩
structure Gk (n0:Nat) (B:List Nat) (w w':World):Prop where
 os:w'.os=w.os
 tape:w'.tape=w.tape
 output:w'.output=w.output
 size:w.heap.size≤w'.heap.size
 block:∀ b,b<w.heap.size→Soft w w' b
 just:∀ b,b<w.heap.size→b<n0∨b∈B→w'.heap[b]? =w.heap[b]?
theorem Gk.refl (n0:Nat)(B:List Nat)(w:World):Gk n0 B w w:=⟨rfl,rfl,rfl,uH _,fun _ _=>.of rfl,fun _ _ _=>rfl⟩
theorem Gk.gr {n0:Nat}{B:List Nat}{w w':World}(h:Gr w w'):Gk n0 B w w':=⟨h.os,h.tape,h.output,h.size,fun b hb=>.of (h.block b hb),fun b hb _=>h.block b hb⟩
theorem Gk.trans {n0:Nat}{B:List Nat}{a b c:World}(h:Gk n0 B a b)(k:Gk n0 B b c):Gk n0 B a c:=
 ⟨k.os.trans h.os,k.tape.trans h.tape,k.output.trans h.output,vb h.size k.size,fun i hi=>(h.block i hi).trans (k.block i (uJ hi h.size)),
  fun i hi hj=>(k.just i (uJ hi h.size) hj).trans (h.just i hi hj)⟩
theorem Gk.on {n0:Nat}{B B':List Nat}{w w':World}(h:Gk n0 B w w'):On B' w w':=⟨h.os,h.tape,h.output,h.size,fun b hb _=>h.block b hb⟩
theorem Gk.below {n0:Nat}{B:List Nat}{w w':World}(h:Gk n0 B w w')(hn:n0≤w.heap.size):Below n0 w w':=⟨h.os,h.tape,h.output,h.size,fun b hb=>h.just b (by omega) (.inl hb)⟩
theorem At.on {w w':World}{B B':List Nat}{ad:Addr}{len:Nat}{us:Nat→Value}(h:At w B ad len us)(g:On B w w')(hB:∀ b∈B',b∈B∨w.heap.size≤b):At w' B' ad len us:=
 ⟨h.spot,uJ h.lt g.size,fun hb=>(hB _ hb).elim h.out (fun hb=>by have:=h.lt;omega),
  fun i hi=>(g.block _ h.lt h.out).cell (bf _ _) (h.cell i hi)⟩
theorem Rel.on {w w':World}{B B':List Nat}{η η':List Value}{x:AV}{v:Value}(h:Rel w B η x v)(g:On B w w')(hB:∀ b∈B',b∈B∨w.heap.size≤b)(he:∀ (id:Nat) v,η[id]? =some v→η'[id]? =some v):Rel w' B' η' x v:=by
 induction h generalizing η' with
 | c η v=>exact .c _ v
 | agg η l cs us hs hu hr ih=>exact .agg _ l cs us hs hu (fun i x hx=>ih i x hx he)
 | tup η l cs us hs hu hr ih=>exact .tup _ l cs us hs hu (fun i x hx=>ih i x hx he)
 | sl η l k A n c us hk hn hc hm hA hr ih=>exact .sl _ l k A n c us hk hn hc hm (fun h0=>by obtain ⟨ad,h1,h2⟩:=hA h0;exact ⟨ad,h1,h2.on g hB⟩) (fun i x hx=>ih i x hx (fun _ _ h=>h))
 | fresh η l k A n us hk hn h0 hm hA hr ih=>exact .fresh _ l k A n us hk hn h0 hm (fun h0=>by obtain ⟨ad,h1,h2⟩:=hA h0;exact ⟨ad,h1,h2.on g hB⟩) (fun i x hx=>ih i x hx (fun _ _ h=>h))
 | emp η A=>exact .emp _ A
 | adr η l ad us ha hr ih=>exact .adr _ l ad us (ha.on g hB) (fun i x hx=>ih i x hx (fun _ _ h=>h))
 | box η id off b h=>exact .box _ id off b (he _ _ h)
 | own η id a n c h=>exact .own _ id a n c (he _ _ h)
 | oadr η id off b o n c h=>exact .oadr _ id off b o n c (he _ _ h)
 | nn η t v=>exact .nn _ t v
def AV.imm0:AV→Bool
 | .c _ | .sl _ _ | .adr _ | .emp | .nn=>true
 | _=>false
def AV.imm:AV→Bool
 | .agg l | .tup l=>l.all AV.imm0
 | x=>x.imm0
theorem Rel.bare0 {w:World}{B:List Nat}{η η':List Value}{x:AV}{v:Value}(h:Rel w B η x v)(hi:x.imm0=true):Rel w B η' x v:=by
 cases h with
 | c=>exact .c _ _
 | sl _ l k A n c us hk hn hc hm hA hr=>exact .sl _ l k A n c us hk hn hc hm hA hr
 | adr _ l ad us ha hr=>exact .adr _ l ad us ha hr
 | emp _ A=>exact .emp _ A
 | nn _ t v=>exact .nn _ t v
 | _=>simp [AV.imm0] at hi
theorem Rel.bare {w:World}{B:List Nat}{η η':List Value}{x:AV}{v:Value}(h:Rel w B η x v)(hi:x.imm=true):Rel w B η' x v:=by
 cases h with
 | c=>exact .c _ _
 | sl _ l k A n c us hk hn hc hm hA hr=>exact .sl _ l k A n c us hk hn hc hm hA hr
 | adr _ l ad us ha hr=>exact .adr _ l ad us ha hr
 | emp _ A=>exact .emp _ A
 | nn _ t v=>exact .nn _ t v
 | agg _ l cs us hs hu hr=>exact .agg _ l cs us hs hu (fun i x hx=>(hr i x hx).bare0 (uK.1 hi x (vg hx)))
 | tup _ l cs us hs hu hr=>exact .tup _ l cs us hs hu (fun i x hx=>(hr i x hx).bare0 (uK.1 hi x (vg hx)))
 | _=>simp [AV.imm,AV.imm0] at hi
theorem Rel.any {w:World}{B:List Nat}{η:List Value}{x:AV}{v:Value}(h:Rel w B [] x v):Rel w B η x v:=h.on (On.refl _ _) (fun _ h=>.inl h) (fun _ _ h=>by simp at h)
theorem Rel.gr {w w':World}{B:List Nat}{η:List Value}{x:AV}{v:Value}(h:Rel w B η x v)(g:Gr w w'):Rel w' B η x v:=h.on (.gr g) (fun _ hb=>.inl hb) (fun _ _ h=>h)
theorem Rel.gk {n0:Nat}{w w':World}{B:List Nat}{η:List Value}{x:AV}{v:Value}(h:Rel w B η x v)(g:Gk n0 B w w'):Rel w' B η x v:=h.on g.on (fun _ hb=>.inl hb) (fun _ _ h=>h)
theorem On.trans {B B':List Nat}{a b c:World}(h:On B a b)(k:On B' b c)(hB:∀ b∈B',b∈B∨a.heap.size≤b):On B a c:=
 ⟨k.os.trans h.os,k.tape.trans h.tape,k.output.trans h.output,vb h.size k.size,fun i hi hn=>by
  exact (h.block i hi hn).trans (k.block i (uJ hi h.size) (fun hb=>(hB _ hb).elim hn (fun hb=>by omega)))⟩
inductive Ent where
 | dead
 | box (cells:List AV) (T:TypeId)
 | own (cells:List AV) (E:TypeId) (k:Nat)
 | itr (s:ByteArray) (pos:Nat)
 deriving Inhabited
def RelL (w:World)(B:List Nat)(η:List Value)(l:List AV)(us:List Value):Prop:=us.length=l.length∧∀ (i:Nat) x,l[i]? =some x→∃ u,us[i]? =some u∧Rel w B η x u
theorem RelL.on {w w':World}{B B':List Nat}{η η':List Value}{l:List AV}{us:List Value}(h:RelL w B η l us)(g:On B w w')(hB:∀ b∈B',b∈B∨w.heap.size≤b)(he:∀ (id:Nat) v,η[id]? =some v→η'[id]? =some v):RelL w' B' η' l us:=
 ⟨h.1,fun i x hx=>by obtain ⟨u,h1,h2⟩:=h.2 i x hx;exact ⟨u,h1,h2.on g hB he⟩⟩
theorem RelL.nil (w:World)(B:List Nat)(η:List Value):RelL w B η [] []:=⟨rfl,fun i x h=>by simp at h⟩
theorem RelL.cons {w:World}{B:List Nat}{η:List Value}{x:AV}{l:List AV}{u:Value}{us:List Value}(h:Rel w B η x u)(k:RelL w B η l us):RelL w B η (x::l) (u::us):=
 ⟨by simp [k.1],fun i y hy=>by
  cases i with
  | zero=>simp at hy;subst hy;exact ⟨u,rfl,h⟩
  | succ i=>simp at hy;obtain ⟨v,h1,h2⟩:=k.2 i y hy;exact ⟨v,by simpa using h1,h2⟩⟩
theorem RelL.append {w:World}{B:List Nat}{η:List Value}{l m:List AV}{us vs:List Value}(h:RelL w B η l us)(k:RelL w B η m vs):RelL w B η (l++m) (us++vs):=
 ⟨by simp [h.1,k.1],fun i x hx=>by
  rw [List.getElem?_append] at hx ⊢
  rw [h.1]
  split at hx
  ·rename_i hi;rw [if_pos hi];exact h.2 i x hx
  ·rename_i hi;rw [if_neg hi];exact k.2 _ x hx⟩
theorem RelL.take {w:World}{B:List Nat}{η:List Value}{l:List AV}{us:List Value}(h:RelL w B η l us)(n:Nat):RelL w B η (l.take n) (us.take n):=
 ⟨by simp [h.1],fun i x hx=>by
  rw [List.getElem?_take] at hx ⊢
  split at hx
  ·rename_i hi;rw [if_pos hi];exact h.2 i x hx
  ·cases hx⟩
theorem RelL.drop {w:World}{B:List Nat}{η:List Value}{l:List AV}{us:List Value}(h:RelL w B η l us)(n:Nat):RelL w B η (l.drop n) (us.drop n):=
 ⟨by simp [h.1],fun i x hx=>by rw [List.getElem?_drop] at hx ⊢;exact h.2 _ x hx⟩
theorem RelL.set {w:World}{B:List Nat}{η:List Value}{l:List AV}{us:List Value}(h:RelL w B η l us){x:AV}{u:Value}(hx:Rel w B η x u)(n:Nat):RelL w B η (l.set n x) (us.set n u):=
 ⟨by simp [h.1],fun i y hy=>by
  rw [List.getElem?_set] at hy ⊢
  rw [h.1]
  split at hy
  ·split at hy
   ·rename_i h1 h2;rw [if_pos h1,if_pos h2];injection hy with hy;subst hy;exact ⟨u,rfl,hx⟩
   ·cases hy
  ·rename_i h1;rw [if_neg h1];exact h.2 i y hy⟩
def bw (w:World)(base:Nat)(e:TypeId)(k:Nat)(v:Value)(n:Nat)(us:List Value):Prop:=
 us.length=n*k∧((v= .slice none 0 0∧n=0)∨∃ g o cap cur,v= .slice (some ⟨g,o,none⟩) n cap∧base≤g∧w.heap[g]? =some (.cells cur e (0,0))∧n≤cap∧cap≤maxLen∧o+cap*k≤cur.size∧(cur.toList.drop o).take (n*k)=us)
theorem bw.nil (w:World)(base e k:Nat):bw w base e k (.slice none 0 0) 0 []:=⟨by simp,.inl ⟨rfl,rfl⟩⟩
theorem bw.row {w:World}{base base' e k n:Nat}{v:Value}{us:List Value}(h:w.ownsRow base' e k v n us)(hb:base≤base'):bw w base e k v n us:=by
 refine ⟨h.1, ?_⟩
 rcases h.2 with hn | ⟨g,cap,cur,hv,hg,hh,h1,h2,h3,h4⟩
 ·exact .inl hn
 ·exact .inr ⟨g,0,cap,cur,hv,by omega,hh,h1,h2,by omega,by simpa using h4⟩
theorem bw.cells {w:World}{base e k n g o c:Nat}{us:List Value}(h:bw w base e k (.slice (some ⟨g,o,none⟩) n c) n us):∀ (j:Nat) u,us[j]? =some u→w.cell? ⟨g,o+j,none⟩=some u:=by
 intro j u hu
 rcases h.2 with ⟨hv,_⟩ | ⟨g',o',cap,cur,hv,_,hh,_,_,_,ht⟩
 ·cases hv
 ·injection hv with q1 q2 q3
  injection q1 with q1
  injection q1 with q4 q5
  subst q4 q5
  rw [cell_of_row w g _ cur e (0,0) hh]
  rw [←ht,List.getElem?_take] at hu
  split at hu
  ·rw [List.getElem?_drop] at hu;simpa using hu
  ·cases hu
theorem bw.len {w:World}{base e k n m c:Nat}{a:Option Addr}{us:List Value}(h:bw w base e k (.slice a m c) n us):m=n:=by
 rcases h.2 with ⟨hv,hn⟩ | ⟨g',o',cap,cur,hv,_⟩ <;> injection hv with q1 q2 q3 <;> omega
def aF (n0:Nat)(Bx:List Nat)(w:World)(B:List Nat)(η:List Value)(v:Value):Ent→Prop
 | .dead=>True
 | .box cells T=>∃ b us,v= .pointer (some ⟨b,0,none⟩)∧n0≤b∧b∈B∧b∉Bx∧w.heap[b]? =some (.cells us.toArray T (0,0))∧RelL w B η cells us
 | .own cells E k=>∃ n us,bw w n0 E k v n us∧RelL w B η cells us∧1≤k∧∀ b,v.ownBlock=some b→b∈B∧b∉Bx
 | .itr s pos=>∃ b,v= .pointer (some ⟨b,0,none⟩)∧n0≤b∧b∈B∧b∉Bx∧w.heap[b]? =some (.stringIter s pos)
def aO (v:Value):Option Nat:=match v with
 | .pointer (some a)=>some a.block
 | .slice (some a) _ _=>some a.block
 | _=>none
def Ent.live:Ent→Bool
 | .dead=>false
 | _=>true
structure GlobOK (w:World) (B:List Nat):Prop where
 tab:∀ g l,(g,l)∈rl→Rel w B [] (.adr (l.map .c)) (.pointer (some ⟨g,0,none⟩))
 nn:∀ g∈r7,Rel w B [] (.adr [.nn]) (.pointer (some ⟨g,0,none⟩))
 num:∀ g∈pm,∃ m,Rel w B [] (.adr [.c (.int .i64 m)]) (.pointer (some ⟨g,0,none⟩))
 row:∀ g l,(g,l)∈nd→g∉B∧∃ T fr,w.heap[g]? =some (.cells l.toArray T fr)
theorem GlobOK.on {w w':World}{B B':List Nat}(h:GlobOK w B)(g:On B w w')(hB:∀ b∈B',b∈B∨w.heap.size≤b):GlobOK w' B':=⟨fun i l hi=>(h.tab i l hi).on g hB (fun _ _ h=>h),fun i hi=>(h.nn i hi).on g hB (fun _ _ h=>h),fun i hi=>(h.num i hi).elim fun m hm=>⟨m,hm.on g hB (fun _ _ h=>h)⟩,fun i l hi=>by
  obtain ⟨h1,T,fr,h2⟩:=h.row i l hi
  have hlt:=(Array.getElem?_eq_some_iff.1 h2).1
  obtain ⟨fr',h3⟩:=(g.block i hlt h1).1 _ _ _ h2
  exact ⟨fun hb=>(hB i hb).elim h1 (fun hc=>by omega),T,fr',h3⟩⟩
structure Inv (n0:Nat) (Bx:List Nat) (w:World) (B:List Nat) (η:List Value) (H:List Ent):Prop where
 len:η.length=H.length
 base:n0≤w.heap.size∧GlobOK w B
 sub:∀ b∈Bx,b∈B
 lt:∀ b∈B,b<w.heap.size
 ent:∀ id e,H[id]? =some e→aF n0 Bx w B η (η.getD id undef) e
 sep:∀ i j ei ej,i≠j→H[i]? =some ei→H[j]? =some ej→ei.live=true→ej.live=true→∀ b,aO (η.getD i undef)=some b→aO (η.getD j undef)≠some b
structure Bel (n0:Nat) (Bx:List Nat) (w w':World):Prop where
 below:Below n0 w w'
 bx:∀ b∈Bx,b<w.heap.size→w'.heap[b]? =w.heap[b]?
theorem Bel.refl (n0:Nat)(Bx:List Nat)(w:World):Bel n0 Bx w w:=⟨Below.refl _ _,fun _ _ _=>rfl⟩
theorem Bel.trans {n0:Nat}{Bx:List Nat}{a b c:World}(h:Bel n0 Bx a b)(k:Bel n0 Bx b c):Bel n0 Bx a c:=⟨h.below.trans k.below,fun x hx hl=>(k.bx x hx (uJ hl h.below.size)).trans (h.bx x hx hl)⟩
theorem Gr.bel {n0:Nat}{Bx:List Nat}{w w':World}(g:Gr w w')(hn:n0≤w.heap.size):Bel n0 Bx w w':=⟨g.mono hn,fun b _ hl=>g.block b hl⟩
theorem Gk.bel {n0:Nat}{Bx:List Nat}{w w':World}{B:List Nat}{η:List Value}{H:List Ent}(g:Gk n0 B w w')(inv:Inv n0 Bx w B η H):Bel n0 Bx w w':=⟨g.below inv.base.1,fun b hb hl=>g.just b hl (.inr (inv.sub b hb))⟩
theorem aF.noBx {n0:Nat}{Bx:List Nat}{w:World}{B:List Nat}{η:List Value}{v:Value}{e:Ent}(h:aF n0 Bx w B η v e)(hl:e.live=true):∀ b,aO v=some b→b∉Bx:=by
 intro b hb
 cases e with
 | dead=>cases hl
 | box cells T=>
  obtain ⟨b',us,h1,h2,h3,h4,_⟩:=h
  rw [h1] at hb;simp [aO] at hb;subst hb
  exact h4
 | own cells E k=>
  obtain ⟨n,us,h1,h2,h3,h4⟩:=h
  rcases h1.2 with ⟨hv,_⟩ | ⟨gg,oo,cap,cur,hv,hb',hgg,rest⟩
  ·rw [hv] at hb;cases hb
  ·rw [hv] at hb;simp [aO] at hb;subst hb
   exact (h4 gg (by rw [hv];rfl)).2
 | itr s pos=>
  obtain ⟨b',h1,h2,h3,h4,h5⟩:=h
  rw [h1] at hb;simp [aO] at hb;subst hb
  exact h4
theorem aF.keep {n0:Nat}{Bx:List Nat}{w w':World}{B B':List Nat}{η η':List Value}{v:Value}{e:Ent}(h:aF n0 Bx w B η v e)(g:On B w w')(hB:∀ b∈B',b∈B∨w.heap.size≤b)(hs:∀ b∈B,b∈B')(he:∀ (id:Nat) v,η[id]? =some v→η'[id]? =some v)
  (hb:e.live=true→∀ b,aO v=some b→w'.heap[b]? =w.heap[b]?):aF n0 Bx w' B' η' v e:=by
 cases e with
 | dead=>trivial
 | box cells T=>
  obtain ⟨b,us,h1,h2,h3,h4,h5,h6⟩:=h
  refine ⟨b,us,h1,h2,hs _ h3,h4, ?_,h6.on g hB he⟩
  rw [hb rfl b (by rw [h1];rfl)];exact h5
 | own cells E k=>
  obtain ⟨n,us,h1,h2,h3,h4⟩:=h
  refine ⟨n,us,⟨h1.1, ?_⟩,h2.on g hB he,h3,fun b hb'=>⟨hs _ (h4 b hb').1,(h4 b hb').2⟩⟩
  rcases h1.2 with hn | ⟨gg,oo,cap,cur,hv,hb',hgg,rest⟩
  ·exact .inl hn
  ·refine .inr ⟨gg,oo,cap,cur,hv,hb', ?_,rest⟩
   rw [hb rfl gg (by rw [hv];rfl)];exact hgg
 | itr s pos=>
  obtain ⟨b,h1,h2,h3,h4,h5⟩:=h
  exact ⟨b,h1,h2,hs _ h3,h4,by rw [hb rfl b (by rw [h1];rfl)];exact h5⟩
theorem aF.lt {n0:Nat}{Bx:List Nat}{w:World}{B:List Nat}{η:List Value}{v:Value}{e:Ent}(h:aF n0 Bx w B η v e)(hl:e.live=true):∀ b,aO v=some b→b<w.heap.size∧b∈B:=by
 intro b hb
 cases e with
 | dead=>cases hl
 | box cells T=>
  obtain ⟨b',us,h1,h2,h3,h4,h5,h6⟩:=h
  rw [h1] at hb;simp [aO] at hb;subst hb
  exact ⟨(Array.getElem?_eq_some_iff.1 h5).1,h3⟩
 | own cells E k=>
  obtain ⟨n,us,h1,h2,h3,h4⟩:=h
  rcases h1.2 with ⟨hv,_⟩ | ⟨gg,oo,cap,cur,hv,hb',hgg,rest⟩
  ·rw [hv] at hb;cases hb
  ·rw [hv] at hb;simp [aO] at hb;subst hb
   exact ⟨(Array.getElem?_eq_some_iff.1 hgg).1,(h4 gg (by rw [hv];rfl)).1⟩
 | itr s pos=>
  obtain ⟨b',h1,h2,h3,h4,h5⟩:=h
  rw [h1] at hb;simp [aO] at hb;subst hb
  exact ⟨(Array.getElem?_eq_some_iff.1 h5).1,h3⟩
theorem aF.on {n0:Nat}{Bx:List Nat}{w w':World}{B:List Nat}{η η':List Value}{v:Value}{e:Ent}(h:aF n0 Bx w B η v e)(g:Gr w w')(he:∀ (id:Nat) v,η[id]? =some v→η'[id]? =some v):aF n0 Bx w' B η' v e:=
 aF.keep h (.gr g) (fun _ h=>.inl h) (fun _ h=>h) he (fun hl b hb=>g.block b (aF.lt h hl b hb).1)
theorem Inv.gk {n0:Nat}{Bx:List Nat}{w w':World}{B:List Nat}{η:List Value}{H:List Ent}(h:Inv n0 Bx w B η H)(g:Gk n0 B w w'):Inv n0 Bx w' B η H:=
 ⟨h.len,⟨vb h.base.1 g.size,h.base.2.on g.on (fun _ h=>.inl h)⟩,h.sub,fun b hb=>uJ (h.lt b hb) g.size,fun id e he=>aF.keep (h.ent id e he) g.on (fun _ h=>.inl h) (fun _ h=>h) (fun _ _ h=>h)
  (fun hl b hb=>have hlt:=aF.lt (h.ent id e he) hl b hb;g.just b hlt.1 (.inr hlt.2)),h.sep⟩
theorem Inv.gr {n0:Nat}{Bx:List Nat}{w w':World}{B:List Nat}{η:List Value}{H:List Ent}(h:Inv n0 Bx w B η H)(g:Gr w w'):Inv n0 Bx w' B η H:=
 ⟨h.len,⟨vb h.base.1 g.size,h.base.2.on (.gr g) (fun _ h=>.inl h)⟩,h.sub,fun b hb=>uJ (h.lt b hb) g.size,fun id e he=>aF.on (h.ent id e he) g (fun _ _ h=>h),h.sep⟩
end Go.Proofs.Ytmndainldhmnjaa
namespace Go.Proofs.Ytmndainldhmnjaa
set_option maxRecDepth 100000
open Go.RowKit
set_option linter.unusedVariables false
set_option linter.unusedSimpArgs false
def eA (P:Program){α:Type}:Sem α→Option α
 | .pure a=>some a
 | .program k=>eA P (k P)
 | .mark _ k=>eA P k
 | _=>none
theorem iw {P:Program}{α:Type}{s:Sem α}{a:α}(h:eA P s=some a)(w:World):s.run P w= .ok a w:=by
 induction s with
 | pure b=>simp only [eA,u9.injEq] at h;subst h;rfl
 | program k ih=>exact ih P h
 | mark m k ih=>exact ih h
 | _=>simp [eA] at h
def AV.val:AV→Value
 | .c v=>v
 | _=>undef
theorem Rel.ofC {w:World}{B:List Nat}{η:List Value}{v u:Value}(h:Rel w B η (.c v) u):u=v:=by cases h;rfl
def AV.toL:AV→List AV
 | .agg l=>l
 | .c (.agg cs)=>cs.toList.map .c
 | x=>[x]
theorem Rel.toL {w:World}{B:List Nat}{η:List Value}{x:AV}{v:Value}(h:Rel w B η x v)(hnt:∀ l,x≠.tup l):RelL w B η x.toL v.cells.toList:=by
 cases h with
 | c v=>
  cases v with
  | agg cs=>exact ⟨by simp [AV.toL,Value.cells],fun i y hy=>by
    simp only [AV.toL,List.getElem?_map,u7] at hy
    obtain ⟨u,hu,rfl⟩:=hy
    exact ⟨u,by simpa [Value.cells] using hu,.c _ _⟩⟩
  | _=>exact RelL.cons (.c _ _) (RelL.nil _ _ _)
 | agg _ l cs us hs hu hr=>
  exact ⟨by simp [AV.toL,Value.cells,hs],fun i y hy=>⟨us i,by simpa [Value.cells] using hu i y hy,hr i y hy⟩⟩
 | tup=>exact absurd rfl (hnt _)
 | sl _ l k A n c us hk hn hc hm hA hr=>exact RelL.cons (.sl _ l k A n c us hk hn hc hm hA hr) (RelL.nil _ _ _)
 | fresh _ l k A n us hk hn h0 hm hA hr=>exact RelL.cons (.fresh _ l k A n us hk hn h0 hm hA hr) (RelL.nil _ _ _)
 | emp _ A=>exact RelL.cons (.emp _ A) (RelL.nil _ _ _)
 | adr _ l ad us ha hr=>exact RelL.cons (.adr _ l ad us ha hr) (RelL.nil _ _ _)
 | box _ id off b h=>exact RelL.cons (.box _ id off b h) (RelL.nil _ _ _)
 | own _ id a n c h=>exact RelL.cons (.own _ id a n c h) (RelL.nil _ _ _)
 | oadr _ id off b o n c h=>exact RelL.cons (.oadr _ id off b o n c h) (RelL.nil _ _ _)
 | nn _ t v=>exact RelL.cons (.nn _ t v) (RelL.nil _ _ _)
def cJ:AV→Nat→Option AV
 | .box i o,n=>some (.box i (o+n))
 | .oadr i o,n=>some (.oadr i (o+n))
 | .adr l,n=>some (.adr (l.drop n))
 | _,_=>none
def eQ (H:List Ent):AV→Option (List AV)
 | .adr l=>some l
 | .box id off=>match H[id]? with | some (.box cells _)=>some (cells.drop off) | _=>none
 | .oadr id off=>match H[id]? with | some (.own cells _ _)=>some (cells.drop off) | _=>none
 | _=>none
def rowT (P:Program)(t:TypeId):Option Bool:=match P.underlying t with
 | some (.struct _) | some (.array _ _)=>some true
 | some _=>some false
 | none=>none
def o9 (P:Program)(H:List Ent)(t:TypeId)(x:AV):Option AV:=
 match eQ H x,rowT P t with
 | some l,some true=>if P.cellsOf t≤l.length then some (.agg (l.take (P.cellsOf t))) else none
 | some l,some false=>l.head?
 | _,_=>none
def gy (P:Program)(t:TypeId)(l:List AV)(off:Nat):Option AV:=
 match rowT P t with
 | some true=>if off+P.cellsOf t≤l.length then some (.agg ((l.drop off).take (P.cellsOf t))) else none
 | some false=>l[off]?
 | none=>none
def jA (P:Program)(s:TypeId)(f:Nat):Option Field:=match P.underlying s with
 | some (.struct fs)=>fs[f]?
 | _=>none
def lu (b:UInt8):AV:=.c (bv b)
def toB:AV→Option UInt8
 | .c (.int .u8 n)=>if 0≤n∧n<256 then some (UInt8.ofNat n.toNat) else none
 | _=>none
def toBs:List AV→Option (List UInt8)
 | []=>some []
 | x::l=>match toB x,toBs l with | some b,some bs=>some (b::bs) | _,_=>none
theorem tS {x:AV}{b:UInt8}(h:toB x=some b):x=lu b:=by
 unfold toB at h
 split at h
 ·split at h
  ·injection h with h
   subst h
   rename_i n hn
   simp only [lu,bv,AV.c.injEq,Value.int.injEq,true_and]
   rw [UInt8.toNat_ofNat'];omega
  ·cases h
 ·cases h
theorem sn {l:List AV}{bs:List UInt8}(h:toBs l=some bs):l=bs.map lu:=by
 induction l generalizing bs with
 | nil=>simp [toBs] at h;subst h;rfl
 | cons x l ih=>
  simp only [toBs] at h
  split at h
  ·rename_i b bs' h1 h2
   injection h with h;subst h
   rw [u5,←ih h2,←tS h1]
  ·cases h
section
variable {P:Program} {w:World} {B:List Nat} {η:List Value} {H:List Ent}
theorem eX {t:TypeId}{b:Bool}(h:rowT P t=some b)(w:World):(isAgg t).run P w= .ok b w∧∃ d,P.underlying t=some d∧d.isRow=b:=by
 unfold rowT at h
 cases hu:P.underlying t with
 | none=>rw [hu] at h;cases h
 | some d=>
  rw [hu] at h
  have hb:d.isRow=b:=by cases d <;> simp_all [TypeDesc.isRow]
  refine ⟨?_,d,rfl,hb⟩
  unfold isAgg
  rw [eq,run_underlying hu w]
  subst hb
  cases d <;> rfl
theorem pf {t:TypeId}{d:TypeDesc}(h:P.underlying t=some d):∃ i,P.info? t=some i∧i.size=P.cellsOf t:=by
 unfold Program.underlying at h
 cases hi:P.info? t with
 | none=>rw [hi] at h;cases h
 | some i=>exact ⟨i,rfl,by simp [Program.cellsOf,hi]⟩
theorem aR {t:TypeId}{i:TypeInfo}(h:P.info? t=some i)(w:World):(sizeOf t).run P w= .ok i.size w:=by
 simp [sizeOf,typeInfo,h]
theorem At.shift {ad:Addr}{len:Nat}{us:Nat→Value}(h:At w B ad len us)(n:Nat):At w B (ad.add n) (len-n) (fun i=>us (n+i)):=
 ⟨by unfold Addr.add;split <;> simp [h.spot],by rw [bf];exact h.lt,by rw [bf];exact h.out,fun i hi=>by
  have:=h.cell (n+i) (by omega)
  rw [←this]
  congr 1
  obtain ⟨b,o,s⟩:=ad
  have hs:s=none:=h.spot
  subst hs
  simp [u3,Nat.add_assoc]⟩
theorem iS {n0:Nat}{Bx:List Nat}(inv:Inv n0 Bx w B η H){x:AV}{v:Value}{l:List AV}(hx:Rel w B η x v)(h:eQ H x=some l):
  ∃ b o us,v= .pointer (some ⟨b,o,none⟩)∧w.rangeAt b o us∧RelL w B η l us:=by
 cases hx with
 | adr _ l' ad us ha hr=>
  simp only [eQ,u9.injEq] at h;subst h
  obtain ⟨b,o,sp⟩:=ad
  obtain rfl:sp=none:=ha.spot
  refine ⟨b,o,(uP l'.length).map us,rfl,fun j v hj=> ?_,by simp,fun i y hy=> ?_⟩
  ·have hj':j<l'.length:=by have:=(List.getElem?_eq_some_iff.1 hj).1;simpa using this
   have:=ha.cell j hj'
   rw [u3] at this
   rw [this]
   simp [hj'] at hj
   rw [hj]
  ·have hi:i<l'.length:=(List.getElem?_eq_some_iff.1 hy).1
   exact ⟨us i,by simp [hi],(hr i y hy).any⟩
 | box _ id off b hb=>
  simp only [eQ] at h
  split at h
  ·rename_i cells T hH
   injection h with h;subst h
   have he:=inv.ent id _ hH
   have hg:η.getD id undef= .pointer (some ⟨b,0,none⟩):=by simp [List.getD_eq_getElem?_getD,hb]
   rw [hg] at he
   obtain ⟨b',us,h1,h2,h3,h4,h5,h6⟩:=he
   obtain rfl:b=b':=by simpa using h1
   refine ⟨b,off,us.drop off,rfl,fun j v hj=> ?_,h6.drop off⟩
   rw [List.getElem?_drop] at hj
   rw [cell_of_row w b _ us.toArray T (0,0) h5]
   simpa using hj
  ·cases h
 | oadr _ id off b o n c hb=>
  simp only [eQ] at h
  split at h
  ·rename_i cells E k hH
   injection h with h;subst h
   have he:=inv.ent id _ hH
   have hg:η.getD id undef= .slice (some ⟨b,o,none⟩) n c:=by simp [List.getD_eq_getElem?_getD,hb]
   rw [hg] at he
   obtain ⟨n',us,h1,h2,h3,h4⟩:=he
   obtain rfl:=h1.len
   refine ⟨b,o+off,us.drop off,rfl,fun j v hj=> ?_,h2.drop off⟩
   rw [List.getElem?_drop] at hj
   rw [Nat.add_assoc]
   exact h1.cells (off+j) v hj
  ·cases h
 | _=>simp [eQ] at h
end
def OpOK (P:Program)(n0:Nat)(w:World)(ρ:Operand→Value)(o:Oper)(B:List Nat)(η:List Value)(r:AV):Prop:=
 ∀ N:Value→World→Prop,(∀ v w',Gk n0 B w w'→Rel w' B η r v→N v w')→Oper.val P ρ o w N
section
variable {P:Program} {n0:Nat} {w:World} {B:List Nat} {η:List Value} {H:List Ent} {ρ:Operand→Value} {ρA:Operand→AV} {o:Oper}
theorem OpOK.of_run {r:AV}{v:Value}(h:(execOp ρ o).run P w= .ok (.value v) w)(hr:Rel w B η r v):OpOK P n0 w ρ o B η r:=by
 intro N hN
 unfold Oper.val
 rw [h]
 exact hN v w (Gk.refl _ _ w) hr
theorem l9 (he:∀ x∈o.op.operands,Rel w B η (ρA x) (ρ x)){x:Operand}(ho:o.op= .nilCheck x)(hx:(∃ i n,ρA x= .box i n)∨(∃ l,ρA x= .adr l)∨(∃ i n,ρA x= .oadr i n)):OpOK P n0 w ρ o B η (ρA x):=by
 have h:=he x (by simp [ho,ge])
 have:∃ ad,ρ x= .pointer (some ad):=by
  generalize ρ x=v at h
  rcases hx with ⟨i,n,hx⟩ | ⟨l,hx⟩ | ⟨i,n,hx⟩ <;> rw [hx] at h <;> cases h <;> exact ⟨_,rfl⟩
 obtain ⟨ad,hv⟩:=this
 exact .of_run (v:=ρ x) (by simp [execOp,ho,hv]) h
theorem jb {x r:AV}{v:Value}{n:Nat}(hx:Rel w B η x v)(h:cJ x n=some r):∃ ad,v= .pointer (some ad)∧Rel w B η r (.pointer (some (ad.add n))):=by
 cases hx with
 | adr _ l ad us ha hr=>
  simp only [cJ,u9.injEq] at h;subst h
  refine ⟨ad,rfl,.adr _ _ _ (fun i=>us (n+i)) ?_ (fun i x hx=>hr (n+i) x (by rw [List.getElem?_drop] at hx;exact hx))⟩
  rw [vj];exact ha.shift n
 | box _ id off b hb=>
  simp only [cJ,u9.injEq] at h;subst h
  exact ⟨_,rfl,by rw [u3];exact .box _ _ _ _ hb⟩
 | oadr _ id off b o m c hb=>
  simp only [cJ,u9.injEq] at h;subst h
  exact ⟨_,rfl,by rw [u3,Nat.add_assoc];exact .oadr _ _ _ _ _ _ _ hb⟩
 | _=>simp [cJ] at h
theorem iM {s:TypeId}{f:Nat}{fd:Field}(h:jA P s f=some fd):∃ fs,P.underlying s=some (.struct fs)∧fs[f]? =some fd:=by
 unfold jA at h
 split at h
 ·exact ⟨_,by assumption,h⟩
 ·cases h
theorem aT {t:TypeId}(h:P.cellsOf t≠0):∃ i,P.info? t=some i∧i.size=P.cellsOf t:=by
 unfold Program.cellsOf at h ⊢
 cases hi:P.info? t with
 | none=>rw [hi] at h;simp at h
 | some i=>exact ⟨i,rfl,by simp⟩
theorem lg (he:∀ x∈o.op.operands,Rel w B η (ρA x) (ρ x)){s:TypeId}{x:Operand}{f:Nat}{fd:Field}{r:AV}(ho:o.op= .fieldAddr s x f)(hf:jA P s f=some fd)(hc:P.cellsOf fd.type≠0)(h:cJ (ρA x) fd.offset=some r):OpOK P n0 w ρ o B η r:=by
 obtain ⟨fs,hu,hfs⟩:=iM hf
 obtain ⟨ad,hv,hr⟩:=jb (he x (by simp [ho,ge])) h
 obtain ⟨i,hi,hs⟩:=aT hc
 refine .of_run (v:=.pointer (some (ad.add fd.offset))) ?_ hr
 have hz:(fieldPlace ad fd).run P w= .ok (ad.add fd.offset) w:=by
  unfold fieldPlace
  rw [eq,aR hi]
  simp only [ne]
  rw [if_neg (by rw [hs];exact hc)]
  rfl
 simp [execOp,ho,Instr.fieldAt,eq,run_underlying hu,hfs,hv,Instr.sureAddr,hz]
theorem kW {Bx:List Nat}(inv:Inv n0 Bx w B η H){t:TypeId}{x r:AV}{v:Value}(hx:Rel w B η x v)(h:o9 P H t x=some r):∃ ad u,v= .pointer (some ad)∧(loadVar t ad).run P w= .ok u w∧Rel w B η r u:=by
 unfold o9 at h
 split at h
 ·rename_i l b hl hrow
  rename_i hb
  split at h
  ·rename_i hle
   injection h with h;subst h
   obtain ⟨bl,of,us,hv,hus,hrel⟩:=iS inv hx hl
   obtain ⟨_,d,hu,hd⟩:=eX hrow w
   obtain ⟨i,hi,hs⟩:=pf hu
   have hlen:(us.take (P.cellsOf t)).length=P.cellsOf t:=by rw [ve,hrel.1];omega
   have hrun:=run_loadVar_mid (P:=P) w bl of t (us.take (P.cellsOf t)) d (fun j v hj=>hus j v (by rw [List.getElem?_take] at hj;split at hj;exact hj;cases hj)) hu hd (by rw [hi];simp [hs,hlen])
   refine ⟨_,.agg (us.take (P.cellsOf t)).toArray,hv,hrun, ?_⟩
   have hr2:=hrel.take (P.cellsOf t)
   exact .agg _ _ _ (fun i=>(us.take (P.cellsOf t)).getD i undef) (by simp [hr2.1]) (fun i y hy=>by
    obtain ⟨u,h1,h2⟩:=hr2.2 i y hy
    simp [List.getD_eq_getElem?_getD,h1]) (fun i y hy=>by
    obtain ⟨u,h1,h2⟩:=hr2.2 i y hy
    simpa [List.getD_eq_getElem?_getD,h1] using h2)
  ·cases h
 ·rename_i l hl hrow
  obtain ⟨bl,of,us,hv,hus,hrel⟩:=iS inv hx hl
  obtain ⟨hagg,_⟩:=eX hrow w
  cases l with
  | nil=>cases h
  | cons y l=>
   simp only [List.head?_cons,u9.injEq] at h;subst h
   obtain ⟨u,h1,h2⟩:=hrel.2 0 y rfl
   have hcell:=hus 0 u h1
   rw [Nat.add_zero] at hcell
   refine ⟨_,u,hv, ?_,h2⟩
   simp [loadVar,eq,hagg,load,Sem.run,hcell]
 ·cases h
theorem rb {Bx:List Nat}(inv:Inv n0 Bx w B η H)(he:∀ x∈o.op.operands,Rel w B η (ρA x) (ρ x)){t:TypeId}{x:Operand}{r:AV}(ho:o.op= .load t x)(h:o9 P H t (ρA x)=some r):OpOK P n0 w ρ o B η r:=by
 obtain ⟨ad,u,hv,hrun,hr⟩:=kW (P:=P) inv (he x (by simp [ho,ge])) h
 exact .of_run (v:=u) (by simp [execOp,ho,hv,Instr.loadAt,Instr.sureAddr,eq,hrun]) hr
theorem kO {t:TypeId}{l:List AV}{cs:Array Value}{off:Nat}{r:AV}(hl:RelL w B η l cs.toList)(h:gy P t l off=some r):∃ v,(part t cs off).run P w= .ok v w∧Rel w B η r v:=by
 unfold gy at h
 split at h
 ·rename_i hrow
  split at h
  ·rename_i hle
   injection h with h;subst h
   obtain ⟨hagg,d,hu,hd⟩:=eX hrow w
   obtain ⟨i,hi,hs⟩:=pf hu
   have hr2:=(hl.drop off).take (P.cellsOf t)
   have hcs:(cs.extract off (off+P.cellsOf t)).toList=(cs.toList.drop off).take (P.cellsOf t):=by
    rw [Array.toList_extract,List.extract_eq_take_drop];simp
   refine ⟨.agg (cs.extract off (off+P.cellsOf t)), ?_, ?_⟩
   ·simp [part,eq,hagg,aR hi,hs]
   ·exact .agg _ _ _ (fun i=>((cs.toList.drop off).take (P.cellsOf t)).getD i undef) (by rw [←Array.length_toList,hcs,hr2.1]) (fun i y hy=>by
     obtain ⟨u,h1,h2⟩:=hr2.2 i y hy
     rw [←Array.getElem?_toList,hcs]
     simp [List.getD_eq_getElem?_getD,h1]) (fun i y hy=>by
     obtain ⟨u,h1,h2⟩:=hr2.2 i y hy
     simpa [List.getD_eq_getElem?_getD,h1] using h2)
  ·cases h
 ·rename_i hrow
  obtain ⟨hagg,_⟩:=eX hrow w
  obtain ⟨u,h1,h2⟩:=hl.2 off r h
  refine ⟨u, ?_,h2⟩
  have:cs[off]? =some u:=by simpa using h1
  simp [part,eq,hagg,this]
 ·cases h
theorem Rel.aggL {l:List AV}{v:Value}(h:Rel w B η (.agg l) v):∃ cs,v= .agg cs∧RelL w B η l cs.toList:=by
 cases h with
 | agg _ _ cs us hs hu hr=>exact ⟨cs,rfl,by simp [hs],fun i x hx=>⟨us i,by simpa using hu i x hx,hr i x hx⟩⟩
theorem rp (he:∀ x∈o.op.operands,Rel w B η (ρA x) (ρ x)){s:TypeId}{x:Operand}{f:Nat}{fd:Field}{l:List AV}{r:AV}(ho:o.op= .field s x f)(hf:jA P s f=some fd)(hx:ρA x= .agg l)(h:gy P fd.type l fd.offset=some r):OpOK P n0 w ρ o B η r:=by
 obtain ⟨fs,hu,hfs⟩:=iM hf
 have h0:=he x (by simp [ho,ge])
 rw [hx] at h0
 obtain ⟨cs,hv,hl⟩:=h0.aggL
 obtain ⟨v,h1,h2⟩:=kO (P:=P) hl h
 exact .of_run (v:=v) (by simp [execOp,ho,Instr.field,eq,run_underlying hu,hfs,hv,asAgg,h1]) h2
theorem na (he:∀ x∈o.op.operands,Rel w B η (ρA x) (ρ x)){t e:TypeId}{x i:Operand}{m:Nat}{k:IntKind}{n:Int}{l:List AV}{r:AV}(ho:o.op= .index t x i)(hu:P.underlying t=some (.array m e))(hx:ρA x= .agg l)(hi:ρA i= .c (.int k n))(h0:0≤n∧n<m)(hc:P.cellsOf e≠0)(h:gy P e l (n.toNat*P.cellsOf e)=some r):OpOK P n0 w ρ o B η r:=by
 have h1:=he x (by simp [ho,ge])
 rw [hx] at h1
 obtain ⟨cs,hv,hl⟩:=h1.aggL
 have h2:=he i (by simp [ho,ge])
 rw [hi] at h2
 have h2:=h2.ofC
 obtain ⟨v,h3,h4⟩:=kO (P:=P) hl h
 obtain ⟨ii,hii,hs⟩:=aT hc
 refine .of_run (v:=v) ?_ h4
 simp [execOp,ho,Instr.index,eq,run_underlying hu,hv,h2,asIntOf,h0,aR hii,hs,h3]
theorem jB (he:∀ x∈o.op.operands,Rel w B η (ρA x) (ρ x)){x:Operand}{i:Nat}{l:List AV}{r:AV}(ho:o.op= .extract x i)(hx:ρA x= .tup l)(h:l[i]? =some r):OpOK P n0 w ρ o B η r:=by
 have h1:=he x (by simp [ho,ge])
 rw [hx] at h1
 generalize hv:ρ x=v at h1
 cases h1 with
 | tup _ _ cs us hs hu hr=>
  exact .of_run (v:=us i) (by simp [execOp,ho,hv,Instr.extract,hu i r h]) (hr i r h)
end
section
variable {P:Program} {n0:Nat} {w:World} {B:List Nat} {η:List Value} {H:List Ent} {ρ:Operand→Value} {ρA:Operand→AV} {o:Oper}
theorem Rel.slL {l:List AV}{k:Nat}{v:Value}(h:Rel w B η (.sl l k) v):∃ A n c us,v= .slice A n c∧1≤k∧n*k=l.length∧n≤c∧c≤maxLen∧(0<n→∃ ad,A=some ad∧At w B ad l.length us)∧∀ i x,l[i]? =some x→Rel w B [] x (us i):=by
 cases h with
 | sl _ _ _ A n c us hk hn hc hm hA hr=>exact ⟨A,n,c,us,rfl,hk,hn,hc,hm,hA,hr⟩
theorem kT {a n k:Nat}(h:a*k<n*k):a<n:=Nat.lt_of_mul_lt_mul_right h
theorem oa (he:∀ x∈o.op.operands,Rel w B η (ρA x) (ρ x)){t e:TypeId}{x i:Operand}{kk:IntKind}{z:Int}{l:List AV}{k:Nat}(ho:o.op= .indexAddr t x i)(hu:P.underlying t=some (.slice e))(hx:ρA x= .sl l k)(hi:ρA i= .c (.int kk z))
  (h0:0≤z∧z.toNat*k<l.length) (hk:k=P.cellsOf e):OpOK P n0 w ρ o B η (.adr (l.drop (z.toNat*k))):=by
 have h1:=he x (by simp [ho,ge])
 rw [hx] at h1
 obtain ⟨A,n,c,us,hv,hk1,hn,hc,hm,hA,hr⟩:=h1.slL
 have h2:=he i (by simp [ho,ge])
 rw [hi] at h2
 have h2:=h2.ofC
 have hlt:z.toNat<n:=kT (by rw [hn];exact h0.2)
 obtain ⟨ad,hA1,hA2⟩:=hA (by omega)
 subst hA1
 obtain ⟨ii,hii,hs⟩:=aT (t:=e) (P:=P) (by omega)
 refine .of_run (v:=.pointer (some (ad.add (z.toNat*k)))) ?_ ?_
 ·have hz:z<(n:Int):=by omega
  simp [execOp,ho,Instr.indexAt,eq,run_underlying hu,hv,h2,asIntOf,h0.1,hz,aR hii,hs,hk]
 ·refine .adr _ _ _ (fun i=>us (z.toNat*k+i)) ?_ (fun i x hx=>hr _ x (by rw [List.getElem?_drop] at hx;exact hx))
  rw [vj];exact hA2.shift _
theorem mg {Bx:List Nat}(inv:Inv n0 Bx w B η H)(he:∀ x∈o.op.operands,Rel w B η (ρA x) (ρ x)){t e:TypeId}{x i:Operand}{kk:IntKind}{z:Int}{id:Nat}{cells:List AV}{E k:Nat}(ho:o.op= .indexAddr t x i)(hu:P.underlying t=some (.slice e))(hx:ρA x= .own id)(hi:ρA i= .c (.int kk z))
  (hH:H[id]? =some (.own cells E k)) (h0:0≤z∧z.toNat*k<cells.length) (hk:k=P.cellsOf e):OpOK P n0 w ρ o B η (.oadr id (z.toNat*k)):=by
 have h1:=he x (by simp [ho,ge])
 rw [hx] at h1
 have h2:=he i (by simp [ho,ge])
 rw [hi] at h2
 have h2:=h2.ofC
 generalize hv:ρ x=v at h1
 cases h1 with
 | own _ _ a1 n1 c1 hid=>
 have hent:=inv.ent id _ hH
 rw [List.getD_eq_getElem?_getD,hid,u2] at hent
 obtain ⟨n,us,hown,hrel,hk1,hbl⟩:=hent
 have hlen:cells.length=n*k:=by rw [←hrel.1];exact hown.1
 have hlt:z.toNat<n:=kT (by rw [←hlen];exact h0.2)
 rcases hown.2 with ⟨_,hn0⟩ | ⟨g,oo,cap,cur,hvv,hb,hg,hnc,hcm,hsz,htk⟩
 ·omega
 injection hvv with q1 q2 q3
 subst q1 q2 q3
 obtain ⟨ii,hii,hs⟩:=aT (t:=e) (P:=P) (by omega)
 refine .of_run (v:=.pointer (some ⟨g,oo+z.toNat*k,none⟩)) ?_ (.oadr _ _ _ _ _ _ _ hid)
 have hz:z<(n1:Int):=by omega
 simp [execOp,ho,Instr.indexAt,eq,run_underlying hu,hv,h2,asIntOf,h0.1,hz,aR hii,hs,hk,u3]
theorem bC (he:∀ x∈o.op.operands,Rel w B η (ρA x) (ρ x)){t e:TypeId}{x i:Operand}{kk:IntKind}{z:Int}{m:Nat}{r:AV}(ho:o.op= .indexAddr t x i)(hu:P.underlying t=some (.array m e))(hi:ρA i= .c (.int kk z))
  (h0:0≤z∧z<m) (hk:P.cellsOf e≠0) (h:cJ (ρA x) (z.toNat*P.cellsOf e)=some r):OpOK P n0 w ρ o B η r:=by
 obtain ⟨ad,hv,hr⟩:=jb (he x (by simp [ho,ge])) h
 have h2:=he i (by simp [ho,ge])
 rw [hi] at h2
 have h2:=h2.ofC
 obtain ⟨ii,hii,hs⟩:=aT hk
 refine .of_run (v:=.pointer (some (ad.add (z.toNat*P.cellsOf e)))) ?_ hr
 simp [execOp,ho,Instr.indexAt,Instr.sureAddr,eq,run_underlying hu,hv,h2,asIntOf,h0.1,h0.2,aR hii,hs]
theorem ap {kk:IntKind}{z:Int}{y:Nat}{code:BoundsCode}(h:0≤z∧z≤y)(w:World):(vk (.int kk z) y code).run P w= .ok z.toNat w:=by
 simp [vk,asIntOf,eq,h]
def aX (ρA:Operand→AV)(d:Nat):Option Operand→Option Nat
 | none=>some d
 | some x=>match ρA x with
  | .c (.int _ z)=>if 0≤z then some z.toNat else none
  | _=>none
theorem a7 {d r:Nat}{x:Option Operand}(he:∀ y,x=some y→Rel w B η (ρA y) (ρ y))(h:aX ρA d x=some r):(x=none∧r=d)∨∃ y kk z,x=some y∧ρ y= .int kk z∧0≤z∧r=z.toNat:=by
 unfold aX at h
 split at h
 ·injection h with h;exact .inl ⟨rfl,h.symm⟩
 ·rename_i y
  split at h
  ·rename_i kk z hy
   split at h
   ·rename_i hz
    injection h with h
    have:=he y rfl
    rw [hy] at this
    exact .inr ⟨y,kk,z,rfl,this.ofC,hz,h.symm⟩
   ·cases h
  ·cases h
theorem kC (he:∀ x∈o.op.operands,Rel w B η (ρA x) (ρ x)){t e:TypeId}{x:Operand}{lo hi:Option Operand}{l:List AV}{k a b:Nat}(ho:o.op= .slice t x lo hi none)(hu:P.underlying t=some (.slice e))(hx:ρA x= .sl l k)
  (hk:k=P.cellsOf e) (hlo:aX ρA 0 lo=some a) (hhi:aX ρA (l.length / k) hi=some b) (hab:a≤b) (hb:b*k≤l.length):∃ v,(execOp ρ o).run P w= .ok (.value v) w∧Rel w B η (.sl ((l.drop (a*k)).take ((b-a)*k)) k) v:=by
 have hel:∀ y,lo=some y→Rel w B η (ρA y) (ρ y):=fun y h=>he y (by simp [ho,ge,h])
 have heh:∀ y,hi=some y→Rel w B η (ρA y) (ρ y):=fun y h=>he y (by simp [ho,ge,h])
 have h1:=he x (by simp [ho,ge])
 rw [hx] at h1
 obtain ⟨A,n,c,us,hv,hk1,hn,hc,hm,hA,hr⟩:=h1.slL
 have hdiv:l.length / k=n:=by rw [←hn];exact uY _ hk1
 rw [hdiv] at hhi
 have hbn:b≤n:=Nat.le_of_mul_le_mul_right (by rw [hn];exact hb) hk1
 obtain ⟨ii,hii,hs⟩:=aT (t:=e) (P:=P) (by omega)
 refine ⟨.slice (if c=a then A else A.map (·.add (a*k))) (b-a) (c-a), ?_, ?_⟩
 ·have hbounds:(uL true n c (lo.map ρ) (hi.map ρ) none).run P w= .ok (a,b,c) w:=by
   have hb':∀ z:Int,b=z.toNat→0≤z→z≤(c:Int):=by omega
   have ha':∀ z:Int,a=z.toNat→0≤z→z≤(b:Int):=by omega
   rcases a7 hel hlo with ⟨rfl,rfl⟩ | ⟨y,kk,z,rfl,hy,hz,hza⟩
   ·rcases a7 heh hhi with ⟨rfl,rfl⟩ | ⟨y2,kk2,z2,rfl,hy2,hz2,hzb⟩
    ·simp [uL,eq]
    ·subst hzb
     simp [uL,eq,hy2,ap (P:=P) ⟨hz2,hb' _ rfl hz2⟩]
   ·subst hza
    rcases a7 heh hhi with ⟨rfl,rfl⟩ | ⟨y2,kk2,z2,rfl,hy2,hz2,hzb⟩
    ·simp [uL,eq,hy,ap (P:=P) ⟨hz,ha' _ rfl hz⟩]
    ·subst hzb
     simp [uL,eq,hy,hy2,ap (P:=P) ⟨hz2,hb' _ rfl hz2⟩,ap (P:=P) ⟨hz,ha' _ rfl hz⟩]
  simp [execOp,ho,Instr.sliceAt,Instr.slice,eq,run_underlying hu,hv,hbounds,aR hii,hs,hk]
 ·have hlen:((l.drop (a*k)).take ((b-a)*k)).length=(b-a)*k:=by
   rw [ve,vj,←hn,←Nat.sub_mul]
   exact Nat.min_eq_left (uN k (by omega))
  refine .sl _ _ _ _ _ _ (fun i=>us (a*k+i)) hk1 hlen.symm (by omega) (by omega) (fun h0=> ?_) (fun i y hy=> ?_)
  ·obtain ⟨ad,rfl,hat⟩:=hA (by omega)
   rw [if_neg (by omega)]
   refine ⟨_,rfl, ?_⟩
   have:=hat.shift (a*k)
   exact ⟨this.spot,this.lt,this.out,fun i hi=>this.cell i (by
    rw [hlen] at hi
    have:(b-a)*k+a*k≤l.length:=by rw [←uV,←hn];exact uN k (by omega)
    omega)⟩
  ·rw [List.getElem?_take] at hy
   split at hy
   ·rw [List.getElem?_drop] at hy;exact hr _ y hy
   ·cases hy
theorem qM (he:∀ x∈o.op.operands,Rel w B η (ρA x) (ρ x)){t e:TypeId}{x:Operand}{lo hi:Option Operand}{l:List AV}{k a b:Nat}(ho:o.op= .slice t x lo hi none)(hu:P.underlying t=some (.slice e))(hx:ρA x= .sl l k)
  (hk:k=P.cellsOf e) (hlo:aX ρA 0 lo=some a) (hhi:aX ρA (l.length / k) hi=some b) (hab:a≤b) (hb:b*k≤l.length):OpOK P n0 w ρ o B η (.sl ((l.drop (a*k)).take ((b-a)*k)) k):=by
 obtain ⟨v,h1,h2⟩:=kC he ho hu hx hk hlo hhi hab hb
 exact .of_run h1 h2
theorem oM (he:∀ x∈o.op.operands,Rel w B η (ρA x) (ρ x)){t e:TypeId}{x hi mx:Operand}{l:List AV}{k:Nat}{kh km:IntKind}(ho:o.op= .slice t x none (some hi) (some mx))(hu:P.underlying t=some (.slice e))(hx:ρA x= .sl l k)(hk:P.cellsOf e≠0)(hhi:ρA hi= .c (.int kh 0))(hmx:ρA mx= .c (.int km 0)):OpOK P n0 w ρ o B η .emp:=by
 have h1:=he x (by simp [ho,ge])
 rw [hx] at h1
 obtain ⟨A,n,c,us,hv,hk1,hn,hc,hm,hA,hr⟩:=h1.slL
 have h2:=he hi (by simp [ho,ge])
 rw [hhi] at h2
 have h2:=h2.ofC
 have h3:=he mx (by simp [ho,ge])
 rw [hmx] at h3
 have h3:=h3.ofC
 obtain ⟨ii,hii,hs⟩:=aT (t:=e) (P:=P) hk
 refine .of_run (v:=.slice A 0 0) ?_ (.emp _ _)
 have b1:(vk (.int km 0) c .slice3Acap).run P w= .ok 0 w:=by
  have:=ap (P:=P) (kk:=km) (z:=0) (y:=c) (code:=.slice3Acap) ⟨by omega,by omega⟩ w
  simpa using this
 have b2:(vk (.int kh 0) 0 .slice3B).run P w= .ok 0 w:=by
  have:=ap (P:=P) (kk:=kh) (z:=0) (y:=0) (code:=.slice3B) ⟨by omega,by omega⟩ w
  simpa using this
 have hb:(uL true n c none (some (.int kh 0)) (some (.int km 0))).run P w= .ok (0,0,0) w:=by
  simp [uL,eq,b1,b2]
 simp [execOp,ho,Instr.sliceAt,Instr.slice,eq,run_underlying hu,hv,h2,h3,hb,aR hii]
theorem nM (he:∀ x∈o.op.operands,Rel w B η (ρA x) (ρ x)){t e:TypeId}{x hi mx:Operand}{A:Addr}{c:Nat}{kh km:IntKind}(ho:o.op= .slice t x none (some hi) (some mx))(hu:P.underlying t=some (.slice e))(hx:ρA x= .c (.slice (some A) 0 c))(hk:P.cellsOf e≠0)(hhi:ρA hi= .c (.int kh 0))(hmx:ρA mx= .c (.int km 0)):OpOK P n0 w ρ o B η .emp:=by
 have h1:=he x (by simp [ho,ge])
 rw [hx] at h1
 have hv:=h1.ofC
 have h2:=he hi (by simp [ho,ge])
 rw [hhi] at h2
 have h2:=h2.ofC
 have h3:=he mx (by simp [ho,ge])
 rw [hmx] at h3
 have h3:=h3.ofC
 obtain ⟨ii,hii,hs⟩:=aT (t:=e) (P:=P) hk
 refine .of_run (v:=.slice (some A) 0 0) ?_ (.emp _ _)
 have b1:(vk (.int km 0) c .slice3Acap).run P w= .ok 0 w:=by
  have:=ap (P:=P) (kk:=km) (z:=0) (y:=c) (code:=.slice3Acap) ⟨by omega,by omega⟩ w
  simpa using this
 have b2:(vk (.int kh 0) 0 .slice3B).run P w= .ok 0 w:=by
  have:=ap (P:=P) (kk:=kh) (z:=0) (y:=0) (code:=.slice3B) ⟨by omega,by omega⟩ w
  simpa using this
 have hb:(uL true 0 c none (some (.int kh 0)) (some (.int km 0))).run P w= .ok (0,0,0) w:=by
  simp [uL,eq,b1,b2]
 simp [execOp,ho,Instr.sliceAt,Instr.slice,eq,run_underlying hu,hv,h2,h3,hb,aR hii]
theorem uf (he:∀ x∈o.op.operands,Rel w B η (ρA x) (ρ x)){x:Operand}{ts:Array TypeId}{t e:TypeId}{l:List AV}{k:Nat}(ho:o.op= .call ⟨.builtin .len, #[x],ts⟩)(ht:ts[0]? =some t)(hu:P.underlying t=some (.slice e))(hx:ρA x= .sl l k):OpOK P n0 w ρ o B η (.c (.int .i64 ((l.length / k:Nat):Int))):=by
 have h1:=he x (by simp [ho,ge,u6])
 rw [hx] at h1
 obtain ⟨A,n,c,us,hv,hk1,hn,hc,hm,hA,hr⟩:=h1.slL
 have hdiv:l.length / k=n:=by rw [←hn];exact uY _ hk1
 rw [hdiv]
 refine .of_run (v:=.int .i64 n) ?_ (.c _ _)
 simp [execOp,ho,resolve,invoke,builtin,Builtin.len_,eq,hv,ht,run_underlying hu,goInt]
theorem pb {Bx:List Nat}(inv:Inv n0 Bx w B η H)(he:∀ x∈o.op.operands,Rel w B η (ρA x) (ρ x)){x:Operand}{ts:Array TypeId}{t e id k E:Nat}{cells:List AV}(ho:o.op= .call ⟨.builtin .len, #[x],ts⟩)(ht:ts[0]? =some t)(hu:P.underlying t=some (.slice e))(hx:ρA x= .own id)(hH:H[id]? =some (.own cells E k)):OpOK P n0 w ρ o B η (.c (.int .i64 ((cells.length / k:Nat):Int))):=by
 have h1:=he x (by simp [ho,ge,u6])
 rw [hx] at h1
 generalize hv:ρ x=v at h1
 cases h1 with
 | own _ _ A n c hid=>
 have hent:=inv.ent id _ hH
 rw [List.getD_eq_getElem?_getD,hid,u2] at hent
 obtain ⟨n',us,hown,hrel,hk1,hbl⟩:=hent
 obtain rfl:=hown.len
 have hdiv:cells.length / k=n:=by rw [←hrel.1,hown.1];exact uY _ hk1
 rw [hdiv]
 refine .of_run (v:=.int .i64 n) ?_ (.c _ _)
 simp [execOp,ho,resolve,invoke,builtin,Builtin.len_,eq,hv,ht,run_underlying hu,goInt]
abbrev Con:=FuncId→List AV→Option AV
structure ConOK (P:Program) (C:Con):Prop where
 callable:∀ f args r,C f args=some r→∃ fn,P.funcs[f]? =some fn∧fn.name≠ "runtime.NumGoroutine" ∧fn.body≠none
 calls:∀ f args r,C f args=some r→∀ (w:World) (B:List Nat) (cargs:List Value),(∀ b∈B,b<w.heap.size)→RelL w B [] args cargs→Calls P f cargs.toArray w fun e w'=>∃ v,e= .returned v∧Gr w w'∧Rel w' B [] r v
end
def intV (op:BinOp)(k:IntKind)(a b:Int):Option Value:=
  match op with
  | .add=>some (.int k (k.wrap (a+b)))
  | .sub=>some (.int k (k.wrap (a-b)))
  | .mul=>some (.int k (k.wrap (a*b)))
  | .quo=>if b=0 then none else some (.int k (k.wrap (a.tdiv b)))
  | .rem=>if b=0 then none else some (.int k (a.tmod b))
  | .and=>some (.int k (bits .and k a b))
  | .or=>some (.int k (bits .or k a b))
  | .xor=>some (.int k (bits .xor k a b))
  | .andNot=>some (.int k (bits .andNot k a b))
  | .eql=>some (.bool (decide (a=b)))
  | .neq=>some (.bool (!decide (a=b)))
  | .lss=>some (.bool (decide (a<b)))
  | .leq=>some (.bool (decide (a≤b)))
  | .gtr=>some (.bool (decide (b<a)))
  | .geq=>some (.bool (decide (b≤a)))
  | _=>none
def strV (op:BinOp)(x y:List UInt8):Option Value:=
  match op with
  | .eql=>some (.bool (decide (x=y)))
  | .neq=>some (.bool (!decide (x=y)))
  | _=>none
def pW (P:Program)(t:TypeId):Bool:=match P.underlying t with
  | some .bool=>true
  | _=>false
def sliB (P:Program)(t:TypeId):Bool:=match P.underlying t with
  | some (.slice _)=>true
  | _=>false
def mf (P:Program)(t:TypeId):Option IntKind:=match P.underlying t with
  | some (.int k)=>some k
  | _=>none
def binV (P:Program)(op:BinOp)(t:TypeId)(x y:Value):Option Value:=
  match x,y with
  | .int k a,.int k' b=>(match op with
    | .shl=>if 0≤b then some (.int k (k.wrap (a*2 ^ min b.toNat k.bits))) else none
    | .shr=>if 0≤b then some (.int k (a.fdiv (2 ^ min b.toNat k.bits))) else none
    | op=>if k=k' then intV op k a b else none)
  | .bool a,.bool b=>(match op with
    | .eql=>if pW P t=true then some (.bool (a==b)) else none
    | .neq=>if pW P t=true then some (.bool (!(a==b))) else none
    | _=>none)
  | .string a,.string b=>strV op a.data.toList b.data.toList
  | .slice none _ _,.slice none _ _=>if sliB P t=true then (match op with
    | .eql=>some (.bool true)
    | .neq=>some (.bool false)
    | _=>none) else none
  | .slice (some _) _ _,.slice none _ _=>if sliB P t=true then (match op with
    | .eql=>some (.bool false)
    | .neq=>some (.bool true)
    | _=>none) else none
  | _,_=>none
def unV (op:UnOp)(x:Value):Option Value:=
  match op,x with
  | .not,.bool b=>some (.bool (!b))
  | .neg,.int k n=>some (.int k (k.wrap (0-n)))
  | _,_=>none
def tq (P:Program)(src dst:TypeId)(x:Value):Option Value:=
  match x with
  | .int _ n=>(match mf P dst,mf P src with | some k,some _=>some (.int k (k.wrap n)) | _,_=>none)
  | _=>none
section
variable {P:Program} {n0:Nat} {w:World} {B:List Nat} {η:List Value} {H:List Ent} {ρ:Operand→Value} {ρA:Operand→AV} {o:Oper}
theorem rh {op:BinOp}{k:IntKind}{a b:Int}{v:Value}{t:TypeId}(h:intV op k a b=some v)(w:World):(binOp op t (.int k a) (.int k b)).run P w= .ok v w:=by
  cases op <;> simp only [intV] at h <;> first
    | (injection h with h;subst h;simp [binOp,Op.intArith,Op.intCmp,Op.intBits,bits];done)
    | (split at h
       · cases h
       · rename_i hb;injection h with h;subst h;simp [binOp,Op.intDiv,hb];done)
    | (injection h with h;subst h;simp [binOp,Op.intCmp];rw [Bool.eq_iff_iff];simp;done)
    | (cases h;done)
theorem pj {op:BinOp}{t:TypeId}{x y:Operand}{k k':IntKind}{a b:Int}(w:World):(eqGuard op t x y (.int k a) (.int k' b)).run P w= .ok () w:=by
  cases op <;> simp [eqGuard]
theorem oc {op:BinOp}{t:TypeId}{x y:Operand}{a b:Bool}(w:World):(eqGuard op t x y (.bool a) (.bool b)).run P w= .ok () w:=by
  cases op <;> simp [eqGuard]
theorem pi {op:BinOp}{t:TypeId}{x y:Operand}{a b:ByteArray}(w:World):(eqGuard op t x y (.string a) (.string b)).run P w= .ok () w:=by
  cases op <;> simp [eqGuard]
theorem rU (a b:ByteArray):(a.toList==b.toList)=decide (a.data.toList=b.data.toList):=by
  rw [ByteArray.toList_eq,ByteArray.toList_eq,Bool.eq_iff_iff]
  simp
theorem rL {op:BinOp}{t:TypeId}{x y:Value}{v:Value}(h:binV P op t x y=some v)(px py:Operand)(w:World):(do eqGuard op t px py x y;binOp op t x y:Sem Value).run P w= .ok v w:=by
  unfold binV at h
  split at h
  · rename_i k a k' b
    rw [eq,pj]
    simp only [ne]
    split at h
    · split at h
      · rename_i hb;injection h with h;subst h
        have:¬ b<0:=by omega
        simp [binOp,Op.shift,this]
      · cases h
    · split at h
      · rename_i hb;injection h with h;subst h
        have:¬ b<0:=by omega
        simp [binOp,Op.shift,this]
      · cases h
    · split at h
      · rename_i hk;subst hk;exact rh h w
      · cases h
  · rename_i a b
    rw [eq,oc]
    simp only [ne]
    have hu:pW P t=true→P.underlying t=some .bool:=fun hb=>by
      unfold pW at hb
      split at hb
      · assumption
      · cases hb
    split at h
    · split at h
      · rename_i hb;injection h with h;subst h
        exact run_eql_bool w t a b (hu hb)
      · cases h
    · split at h
      · rename_i hb;injection h with h;subst h
        exact run_neq_bool w t a b (hu hb)
      · cases h
    · cases h
  · rename_i a b
    rw [eq,pi]
    simp only [ne]
    unfold strV at h
    split at h
    · injection h with h;subst h
      simp only [binOp,Op.stringOp,rU,uS]
    · injection h with h;subst h
      simp only [binOp,Op.stringOp,rU,uS]
    · cases h
  · rename_i n c n' c'
    split at h
    · rename_i hb
      obtain ⟨e,hu⟩:∃ e,P.underlying t=some (.slice e):=by
        unfold sliB at hb
        split at hb
        · exact ⟨_,by assumption⟩
        · cases hb
      have hg:(eqGuard op t px py (.slice none n c) (.slice none n' c')).run P w= .ok () w:=by cases op <;> simp [eqGuard]
      rw [eq,hg]
      simp only [ne]
      split at h
      · injection h with h;subst h
        rw [Lib.run_eql_slice_nil w t e _ _ _ _ _ hu];rfl
      · injection h with h;subst h
        rw [run_neq_slice_nil_any w t e _ _ _ _ _ hu];rfl
      · cases h
    · cases h
  · rename_i A0 n c n' c'
    split at h
    · rename_i hb
      obtain ⟨e,hu⟩:∃ e,P.underlying t=some (.slice e):=by
        unfold sliB at hb
        split at hb
        · exact ⟨_,by assumption⟩
        · cases hb
      have hg:(eqGuard op t px py (.slice (some A0) n c) (.slice none n' c')).run P w= .ok () w:=by cases op <;> simp [eqGuard]
      rw [eq,hg]
      simp only [ne]
      split at h
      · injection h with h;subst h
        rw [Lib.run_eql_slice_nil w t e _ _ _ _ _ hu];rfl
      · injection h with h;subst h
        rw [run_neq_slice_nil_any w t e _ _ _ _ _ hu];rfl
      · cases h
    · cases h
  · cases h
theorem ur (he:∀ x∈o.op.operands,Rel w B η (ρA x) (ρ x)){op:BinOp}{t t2:TypeId}{x y:Operand}{a b v:Value}(ho:o.op= .binOp op t x y t2)(hx:ρA x= .c a)(hy:ρA y= .c b)(h:binV P op t a b=some v):OpOK P n0 w ρ o B η (.c v):=by
  have h1:=he x (by simp [ho,ge])
  have h2:=he y (by simp [ho,ge])
  rw [hx] at h1;rw [hy] at h2
  have h1:=h1.ofC
  have h2:=h2.ofC
  have:=rL (P:=P) h x y w
  exact .of_run (v:=v) (by simp only [execOp,ho,h1,h2];rw [eq];rw [this];rfl) (.c _ _)
theorem tQ (he:∀ x∈o.op.operands,Rel w B η (ρA x) (ρ x)){op:UnOp}{t:TypeId}{x:Operand}{a v:Value}(ho:o.op= .unOp op t x)(hx:ρA x= .c a)(h:unV op a=some v):OpOK P n0 w ρ o B η (.c v):=by
  have h1:=he x (by simp [ho,ge])
  rw [hx] at h1
  have h1:=h1.ofC
  refine .of_run (v:=v) ?_ (.c _ _)
  unfold unV at h
  split at h <;> first | (injection h with h;subst h;simp [execOp,ho,h1,Op.unary,Op.intArith];done) | (cases h;done)
theorem eZ {t:TypeId}{k:IntKind}(h:mf P t=some k):P.underlying t=some (.int k):=by
  unfold mf at h
  split at h
  · rename_i hu;injection h with h;subst h;exact hu
  · cases h
theorem tp (he:∀ x∈o.op.operands,Rel w B η (ρA x) (ρ x)){s d:TypeId}{x:Operand}{a v:Value}(ho:o.op= .convert s d x)(hx:ρA x= .c a)(h:tq P s d a=some v):OpOK P n0 w ρ o B η (.c v):=by
  have h1:=he x (by simp [ho,ge])
  rw [hx] at h1
  have h1:=h1.ofC
  refine .of_run (v:=v) ?_ (.c _ _)
  unfold tq at h
  split at h
  · split at h
    · rename_i k k' hd hs
      injection h with h;subst h
      simp [execOp,ho,h1,convert,eq,run_underlying (eZ hd),run_underlying (eZ hs),Conv.intToInt]
    · cases h
  · cases h
end
def iD:AV→Bool
 | .tup _=>false
 | _=>true
def putL {α:Type}(cells:List α)(off:Nat)(l:List α):List α:=cells.take off++l++cells.drop (off+l.length)
theorem RelL.putL {w:World}{B:List Nat}{η:List Value}{l m:List AV}{us vs:List Value}(h:RelL w B η l us)(k:RelL w B η m vs)(off:Nat):RelL w B η (putL l off m) (putL us off vs):=by
 unfold Go.Proofs.Ytmndainldhmnjaa.putL
 rw [k.1]
 exact ((h.take off).append k).append (h.drop _)
def eI (place:Nat→Option (Nat×Nat))(cells:List AV):List (Nat×AV)→Option (List AV)
 | []=>some cells
 | (i,x)::rest=>match place i with
  | none=>none
  | some (off,size)=>if iD x=true∧x.toL.length=size∧off+x.toL.length≤cells.length then eI place (putL cells off x.toL) rest else none
def layP (P:Program)(t:TypeId):Option (List Value×List (Nat×Nat)):=
 match P.info? t,P.underlying t with
 | some it,some (.struct fields)=>(match it.zero,fields.toList.mapM (fun f=>(P.info? f.type).map fun i=>(f.offset,i.size)) with
  | some z,some places=>some (z.cells.toList,places)
  | _,_=>none)
 | _,_=>none
def layE (P:Program)(t:TypeId):Option (List Value×Nat):=
 match P.info? t,P.underlying t with
 | some it,some (.array _ e)=>(match it.zero,P.info? e with
  | some z,some ie=>some (z.cells.toList,ie.size)
  | _,_=>none)
 | _,_=>none
def lA (P:Program)(t:TypeId)(parts:List (Nat×AV)):Option AV:=
 match layP P t with
 | some (z,places)=>(match eI (places[·]?) (z.map .c) parts with | some l=>some (.agg l) | none=>none)
 | none=>match layE P t with
  | some (z,size)=>(match eI (fun i=>some (i*size,size)) (z.map .c) parts with | some l=>some (.agg l) | none=>none)
  | none=>none
section
variable {P:Program} {n0:Nat} {w:World} {B:List Nat} {η:List Value} {H:List Ent} {ρ:Operand→Value} {ρA:Operand→AV} {o:Oper}
theorem nl:∀ (l:List Value) (s off:Nat) (cs:Array Value),off+s+l.length≤cs.size→
  ((l.zipIdx s).foldl (fun cs (x:Value×Nat)=>cs.setIfInBounds (off+x.2) x.1) cs).toList=putL cs.toList (off+s) l
 | [],s,off,cs,h=>by simp [putL]
 | x::l,s,off,cs,h=>by
  rw [List.zipIdx_cons,List.foldl_cons,nl l (s+1) off _ (by simp at h ⊢;omega)]
  simp only [putL,Array.toList_setIfInBounds,List.length_cons]
  have hlt:off+s<cs.toList.length:=by simp at h ⊢;omega
  rw [show off+(s+1)=(off+s)+1 by omega,List.take_add_one,List.getElem?_set_self hlt,List.take_set_of_le (uH _)]
  rw [List.drop_set_of_lt (by omega)]
  simp [Nat.add_assoc,Nat.add_comm 1]
theorem iL {place:Nat→Option (Nat×Nat)}:∀ (parts:List (Nat×AV)) (cparts:List (Nat×Value)) (cells l:List AV) (cs:Array Value),RelL w B η cells cs.toList→cparts.length=parts.length→(∀ (i:Nat) (p:Nat×AV),parts[i]? =some p→∃ v,cparts[i]? =some (p.1,v)∧Rel w B η p.2 v)→eI place cells parts=some l→
  ∃ cs',Instr.fill place cs cparts=some cs'∧RelL w B η l cs'.toList
 | [],cparts,cells,l,cs,hr,hlen,hp,h=>by
  simp only [eI,u9.injEq] at h;subst h
  have:cparts=[]:=uI hlen
  subst this
  exact ⟨cs,rfl,hr⟩
 | (i,x)::rest,[],cells,l,cs,hr,hlen,hp,h=>by simp at hlen
 | (i,x)::rest,(j,v)::crest,cells,l,cs,hr,hlen,hp,h=>by
  obtain ⟨v',h1,h2⟩:=hp 0 (i,x) rfl
  simp only [List.getElem?_cons_zero,u9.injEq,Prod.mk.injEq] at h1
  obtain ⟨rfl,rfl⟩:=h1
  simp only [eI] at h
  unfold Instr.fill
  split at h
  ·cases h
  ·rename_i off size hpl
   rw [hpl]
   split at h
   ·rename_i hc
    have hx:=h2.toL (fun l e=>by have e':x= .tup l:=e;rw [e'] at hc;exact absurd hc.1 (by simp [iD]))
    have hsz:v.cells.size=size:=by rw [←hc.2.1,←hx.1];simp
    have hbd:off+v.cells.size≤cs.size:=by have:=hc.2.2;have e1:=hx.1;have e2:=hr.1;simp at e1 e2;omega
    simp only [hsz,ne_eq,not_true_eq_false,decide_false,Bool.false_or]
    rw [if_neg (by simp;omega)]
    have hfold:(v.cells.zipIdx.foldl (fun cs (x:Value×Nat)=>cs.setIfInBounds (off+x.2) x.1) cs).toList=putL cs.toList off v.cells.toList:=by
     have:=nl v.cells.toList 0 off cs (by simpa using hbd)
     rw [←Array.foldl_toList,Array.toList_zipIdx]
     simpa using this
    exact iL rest crest _ l _ (by
     have:=hr.putL hx off
     rw [←hfold] at this
     exact this) (by simpa using hlen) (fun i p hip=>hp (i+1) p hip) h
   ·cases h
theorem pc {t:TypeId}{z:List Value}{places:List (Nat×Nat)}(h:layP P t=some (z,places))(parts:List (Nat×Value)):P.built t parts=Instr.fill (places[·]?) z.toArray parts:=by
 unfold layP at h
 split at h
 ·rename_i it fields hi hu
  split at h
  ·rename_i z' places' hz hp
   injection h with h;injection h with h1 h2;subst h1 h2
   simp only [Program.built,hi,hu,hz,hp]
   simp
  ·cases h
 ·cases h
theorem pd {t:TypeId}{z:List Value}{size:Nat}(h:layE P t=some (z,size))(parts:List (Nat×Value)):P.built t parts=Instr.fill (fun i=>some (i*size,size)) z.toArray parts:=by
 unfold layE at h
 split at h
 ·rename_i it n e hi hu
  split at h
  ·rename_i z' ie hz hp
   injection h with h;injection h with h1 h2;subst h1 h2
   simp only [Program.built,hi,hu,hz,hp]
  ·cases h
 ·cases h
theorem jq (l:List Value):RelL w B η (l.map .c) l:=⟨by simp,fun i x hx=>by
 rw [List.getElem?_map,u7] at hx
 obtain ⟨u,hu,rfl⟩:=hx
 exact ⟨u,hu,.c _ _⟩⟩
theorem RelL.toAgg {l:List AV}{us:List Value}(h:RelL w B η l us):Rel w B η (.agg l) (.agg us.toArray):=
 .agg _ _ _ (fun i=>us.getD i undef) (by simp [h.1]) (fun i y hy=>by obtain ⟨u,h1,h2⟩:=h.2 i y hy;simp [List.getD_eq_getElem?_getD,h1]) (fun i y hy=>by obtain ⟨u,h1,h2⟩:=h.2 i y hy;simpa [List.getD_eq_getElem?_getD,h1] using h2)
def cw (ρA:Operand→AV)(parts:Array (Nat×Operand)):List (Nat×AV):=parts.toList.map fun p=>(p.1,ρA p.2)
theorem iy (he:∀ x∈o.op.operands,Rel w B η (ρA x) (ρ x)){parts:Array (Nat×Operand)}(hin:∀ p∈parts.toList,p.2∈o.op.operands):(parts.map fun (i,x)=>(i,ρ x)).toList.length=(cw ρA parts).length∧∀ (i:Nat) (p:Nat×AV),(cw ρA parts)[i]? =some p→∃ v,(parts.map fun (i,x)=>(i,ρ x)).toList[i]? =some (p.1,v)∧Rel w B η p.2 v:=by
 refine ⟨by simp [cw],fun i p hp=> ?_⟩
 unfold cw at hp
 rw [List.getElem?_map,u7] at hp
 obtain ⟨q,hq,rfl⟩:=hp
 refine ⟨ρ q.2, ?_,he q.2 (hin q (vg hq))⟩
 have:parts[i]? =some q:=by simpa using hq
 simp [this]
theorem rJ (he:∀ x∈o.op.operands,Rel w B η (ρA x) (ρ x)){t:TypeId}{parts:Array (Nat×Operand)}{r:AV}(ho:o.op= .build t parts)(h:lA P t (cw ρA parts)=some r):OpOK P n0 w ρ o B η r:=by
 obtain ⟨hl,hp⟩:=iy he (parts:=parts) (fun p hp=>by rw [ho];simp [ge];exact ⟨p.1,by simpa using hp⟩)
 have key:∃ l cells,r= .agg l∧P.built t (parts.map fun (i,x)=>(i,ρ x)).toList=some cells∧RelL w B η l cells.toList:=by
  unfold lA at h
  split at h
  ·rename_i z places hlay
   split at h
   ·rename_i l hfill
    injection h with h;subst h
    obtain ⟨cs,h1,h2⟩:=iL (place:=(places[·]?)) _ _ _ _ z.toArray (by simpa using jq z) hl hp hfill
    exact ⟨l,cs,rfl,by rw [pc hlay];exact h1,h2⟩
   ·cases h
  ·split at h
   ·rename_i z size hlay
    split at h
    ·rename_i l hfill
     injection h with h;subst h
     obtain ⟨cs,h1,h2⟩:=iL (place:=fun i=>some (i*size,size)) _ _ _ _ z.toArray (by simpa using jq z) hl hp hfill
     exact ⟨l,cs,rfl,by rw [pd hlay];exact h1,h2⟩
    ·cases h
   ·cases h
 obtain ⟨l,cells,rfl,hb,hr⟩:=key
 exact .of_run (v:=.agg cells) (by simp only [execOp,ho];rw [eq,run_build w t _ cells hb];rfl) hr.toAgg
end
def sliT (P:Program)(t:TypeId):Option (TypeId×Nat×List Value):=
 match P.underlying t with
 | some (.slice e)=>(match P.info? e with
  | some i=>(match i.zero with
   | some z=>if z.cells.size=i.size∧1≤i.size then some (e,i.size,z.cells.toList) else none
   | none=>none)
  | none=>none)
 | _=>none
def repL (n:Nat)(z:List Value):List Value:=(List.replicate n z).flatten
def ff (P:Program)(t:TypeId)(len:Nat)(parts:List (Nat×AV)):Option AV:=
 match sliT P t with
 | some (_,k,z)=>if len*k≤16777216 then (match eI (fun i=>some (i*k,k)) ((repL len z).map .c) parts with
  | some l=>if l.all AV.imm0=true then some (.sl l k) else none
  | none=>none) else none
 | none=>none
section
variable {P:Program} {n0:Nat} {w:World} {B:List Nat} {η:List Value} {H:List Ent} {ρ:Operand→Value} {ρA:Operand→AV} {o:Oper}
theorem dA {t e k:Nat}{z:List Value}(h:sliT P t=some (e,k,z)):∃ i zv,P.underlying t=some (.slice e)∧P.info? e=some i∧i.zero=some zv∧i.size=k∧zv.cells.toList=z∧z.length=k∧1≤k:=by
 unfold sliT at h
 split at h
 ·rename_i e' hu
  split at h
  ·rename_i i hi
   split at h
   ·rename_i zv hz
    split at h
    ·rename_i hc
     injection h with h;injection h with h1 h2;injection h2 with h2 h3;subst h1 h2 h3
     exact ⟨i,zv,hu,hi,hz,rfl,rfl,by simpa using hc.1,hc.2⟩
    ·cases h
   ·cases h
  ·cases h
 ·cases h
theorem bA (n:Nat)(z:List Value):(repL n z).length=n*z.length:=by
 simp [repL,List.length_flatten]
theorem jO:∀ (n:Nat) (z:List Value) (j:Nat),j<n*z.length→(repL n z)[j]? =z[j % z.length]?
 | 0,z,j,h=>by simp at h
 | n+1,z,j,h=>by
  have e:repL (n+1) z=z++repL n z:=by simp [repL,List.replicate_succ]
  rw [e]
  rcases uM j z.length with hj | hj
  ·rw [List.getElem?_append_left hj,Nat.mod_eq_of_lt hj]
  ·rw [List.getElem?_append_right hj,jO n z (j-z.length) (by rw [uV] at h;omega)]
   rw [Nat.mod_eq_sub_mod hj]
theorem fZ (z:Array Value)(n:Nat)(hz:0<z.size):(madeCells z (n*z.size)).toList=repL n z.toList:=by
 apply vm
 intro j
 rcases uM j (n*z.size) with hj | hj
 ·rw [jO n z.toList j (by simpa using hj)]
  have hm:j % z.size<z.size:=Nat.mod_lt _ hz
  simp [madeCells,hj,hm]
 ·rw [List.getElem?_eq_none (by simpa [size_madeCells] using hj),List.getElem?_eq_none (by rw [bA];simpa using hj)]
theorem iU (hlt:∀ b∈B,b<w.heap.size)(he:∀ x∈o.op.operands,Rel w B η (ρA x) (ρ x)){t:TypeId}{len:Nat}{parts:Array (Nat×Operand)}{r:AV}(ho:o.op= .buildSlice t len parts)(hm:len≤maxLen)(h:ff P t len (cw ρA parts)=some r)(N:Value→World→Prop)(hN:∀ v w',Gr w w'→Rel w' B η r v→(∀ ad n c,v= .slice (some ad) n c→w.heap.size≤ad.block)→(∃ A,v= .slice A len len)→N v w'):Oper.val P ρ o w N:=by
 obtain ⟨hl,hp⟩:=iy he (parts:=parts) (fun p hp=>by rw [ho];simp [ge];exact ⟨p.1,by simpa using hp⟩)
 unfold ff at h
 split at h
 ·rename_i e k z hs
  obtain ⟨i,zv,hu,hi,hz,hsz,hzc,hzl,hk⟩:=dA hs
  split at h
  ·rename_i hle
   split at h
   ·rename_i l hfill
    split at h
    ·rename_i himm
     injection h with h;subst h
     have hzs:zv.cells.size=k:=by rw [←hzl,←hzc];simp
     have hbase:RelL w B η ((repL len z).map .c) (madeCells zv.cells (len*k)).toList:=by
      have:(madeCells zv.cells (len*k)).toList=repL len z:=by rw [←hzc,←hzs];exact fZ _ _ (by omega)
      rw [this];exact jq _
     obtain ⟨cs,h1,h2⟩:=iL (place:=fun i=>some (i*k,k)) _ _ _ _ _ hbase hl hp hfill
     unfold Oper.val
     have hrun:(execOp ρ o).run P w= .ok (.value (.slice (some ⟨w.heap.size,0,none⟩) len len)) (w.alloc (.cells cs e)):=by
      have h0:len=0∨0<len:=by omega
      simp only [execOp,ho,Instr.buildSlice,eq,run_underlying hu,ne,aR hi,hsz]
      rw [if_neg (by omega)]
      by_cases h00:len*k=0
      ·have hm0:(Array.range 0).map ((#[]:Array Value)[· % (#[]:Array Value).size]!)=madeCells zv.cells (len*k):=by rw [h00];simp [madeCells]
       simp only [h00,if_true,eq,uS,ne]
       rw [hm0,h1]
       rfl
      ·have hm0:(Array.range (len*k)).map (zv.cells[· % zv.cells.size]!)=madeCells zv.cells (len*k):=rfl
       have hzr:(zeroValue e).run P w= .ok zv w:=by simp [zeroValue,typeInfo,hi,hz,eq]
       simp only [h00,if_false,eq,hzr,uS,ne]
       rw [hm0,h1]
       rfl
     rw [hrun]
     have g:Gr w (w.alloc (.cells cs e)):=cH (Gr.refl w) _
     have hcl:cs.toList.length=len*k:=by
      rw [h2.1]
      have:∀ (parts:List (Nat×AV)) (cells l:List AV),eI (fun i=>some (i*k,k)) cells parts=some l→l.length=cells.length:=by
       intro parts
       induction parts with
       | nil=>intro cells l h;simp only [eI,u9.injEq] at h;subst h;rfl
       | cons p rest ih=>
        obtain ⟨j,x⟩:=p
        intro cells l h
        simp only [eI] at h
        split at h
        ·rename_i hc
         rw [ih _ _ h]
         simp [putL];omega
        ·cases h
      rw [this _ _ _ hfill];simp [bA,hzl]
     refine hN _ _ g (.sl _ _ _ _ _ _ (fun i=>cs.toList.getD i undef) hk (by rw [←h2.1,hcl]) (uH _) hm (fun _=>⟨_,rfl,rfl,by simp,fun hb=> ?_,fun j hj=> ?_⟩) (fun j x hx=> ?_)) (fun ad n c hh=>by injection hh with hh;injection hh with hh;subst hh;exact uH _) ⟨_,rfl⟩
     ·have:=hlt _ hb;simp at this
     ·have hj':j<cs.toList.length:=by rw [h2.1];exact hj
      rw [u3,Nat.zero_add,cell_of_row (w.alloc (.cells cs e)) w.heap.size j cs e (0,0) (by show (w.heap.push _)[w.heap.size]? =_;simp)]
      rw [←Array.getElem?_toList,List.getElem?_eq_getElem hj',List.getD_eq_getElem?_getD,List.getElem?_eq_getElem hj',u2]
     ·obtain ⟨u,q1,q2⟩:=h2.2 j x hx
      rw [List.getD_eq_getElem?_getD,q1,u2]
      exact ((q2.bare0 (uK.1 himm x (vg hx))):Rel w B [] x u).gr g
    ·cases h
   ·cases h
  ·cases h
 ·cases h
theorem iV (he:∀ x∈o.op.operands,Rel w B η (ρA x) (ρ x)){t:TypeId}{len k e:Nat}{z:List Value}{parts:Array (Nat×Operand)}{l:List AV}(ho:o.op= .buildSlice t len parts)(hs:sliT P t=some (e,k,z))(hle:len*k≤16777216)(hfill:eI (fun i=>some (i*k,k)) ((repL len z).map .c) (cw ρA parts)=some l)(N:Value→World→Prop)
  (hN:∀ cs:Array Value,Gr w (w.alloc (.cells cs e))→cs.size=len*k→RelL w B η l cs.toList→N (.slice (some ⟨w.heap.size,0,none⟩) len len) (w.alloc (.cells cs e))):Oper.val P ρ o w N:=by
 obtain ⟨hl,hp⟩:=iy he (parts:=parts) (fun p hp=>by rw [ho];simp [ge];exact ⟨p.1,by simpa using hp⟩)
 obtain ⟨i,zv,hu,hi,hz,hsz,hzc,hzl,hk⟩:=dA hs
 have hzs:zv.cells.size=k:=by rw [←hzl,←hzc];simp
 have hbase:RelL w B η ((repL len z).map .c) (madeCells zv.cells (len*k)).toList:=by
  have:(madeCells zv.cells (len*k)).toList=repL len z:=by rw [←hzc,←hzs];exact fZ _ _ (by omega)
  rw [this];exact jq _
 obtain ⟨cs,h1,h2⟩:=iL (place:=fun i=>some (i*k,k)) _ _ _ _ _ hbase hl hp hfill
 unfold Oper.val
 have hrun:(execOp ρ o).run P w= .ok (.value (.slice (some ⟨w.heap.size,0,none⟩) len len)) (w.alloc (.cells cs e)):=by
  have h0:len=0∨0<len:=by omega
  simp only [execOp,ho,Instr.buildSlice,eq,run_underlying hu,ne,aR hi,hsz]
  rw [if_neg (by omega)]
  by_cases h00:len*k=0
  ·have hm0:(Array.range 0).map ((#[]:Array Value)[· % (#[]:Array Value).size]!)=madeCells zv.cells (len*k):=by rw [h00];simp [madeCells]
   simp only [h00,if_true,eq,uS,ne]
   rw [hm0,h1]
   rfl
  ·have hm0:(Array.range (len*k)).map (zv.cells[· % zv.cells.size]!)=madeCells zv.cells (len*k):=rfl
   have hzr:(zeroValue e).run P w= .ok zv w:=by simp [zeroValue,typeInfo,hi,hz,eq]
   simp only [h00,if_false,eq,hzr,uS,ne]
   rw [hm0,h1]
   rfl
 rw [hrun]
 have g:Gr w (w.alloc (.cells cs e)):=cH (Gr.refl w) _
 have hcl:cs.toList.length=len*k:=by
  rw [h2.1]
  have:∀ (parts:List (Nat×AV)) (cells l:List AV),eI (fun i=>some (i*k,k)) cells parts=some l→l.length=cells.length:=by
   intro parts
   induction parts with
   | nil=>intro cells l h;simp only [eI,u9.injEq] at h;subst h;rfl
   | cons p rest ih=>
    obtain ⟨j,x⟩:=p
    intro cells l h
    simp only [eI] at h
    split at h
    ·rename_i hc
     rw [ih _ _ h]
     simp [putL];omega
    ·cases h
  rw [this _ _ _ hfill];simp [bA,hzl]
 exact hN cs g (by simpa using hcl) h2
end
end Go.Proofs.Ytmndainldhmnjaa
namespace Go.Proofs.Ytmndainldhmnjaa
set_option maxRecDepth 100000
open Go.RowKit
section
variable {P:Program} (w:World)
end
end Go.Proofs.Ytmndainldhmnjaa
namespace Go.Proofs.Ytmndainldhmnjaa
set_option maxRecDepth 100000
open Go.RowKit
set_option linter.unusedVariables false
set_option linter.unusedSimpArgs false
def iT (P:Program)(t:TypeId):Option TypeId:=match P.underlying t with
  | some (.slice e)=>(match P.underlying e with | some (.int .u8)=>some e | _=>none)
  | _=>none
def cZ (P:Program)(t:TypeId):Bool:=match P.underlying t with
  | some .string=>true
  | _=>false
section
variable {P:Program} {n0:Nat} {w:World} {B:List Nat} {η:List Value} {H:List Ent} {ρ:Operand→Value} {ρA:Operand→AV} {o:Oper}
theorem fK {t e:TypeId}(h:iT P t=some e):P.underlying t=some (.slice e)∧P.underlying e=some (.int .u8):=by
  unfold iT at h
  split at h
  · rename_i e' hu
    split at h
    · rename_i hk;injection h with h;subst h;exact ⟨hu,hk⟩
    · cases h
  · cases h
theorem bz {t:TypeId}(h:cZ P t=true):P.underlying t=some .string:=by
  unfold cZ at h
  split at h
  · assumption
  · cases h
theorem Rel.toRB {bs:List UInt8}{v:Value}(h:Rel w B η (.sl (bs.map lu) 1) v):∃ A n c,v= .slice A n c∧RB w A n bs∧n≤c∧c≤maxLen:=by
  obtain ⟨A,n,c,us,hv,hk,hn,hc,hm,hA,hr⟩:=h.slL
  refine ⟨A,n,c,hv,⟨by simpa using hn.symm,fun h0=> ?_⟩,hc,hm⟩
  obtain ⟨ad,h1,h2⟩:=hA h0
  refine ⟨ad,h1,h2.lt,fun j b hj=> ?_⟩
  have hlt:j<bs.length:=(List.getElem?_eq_some_iff.1 hj).1
  rw [h2.cell j (by simpa using hlt)]
  have:=hr j (lu b) (by rw [List.getElem?_map,hj];rfl)
  have:=this.ofC
  rw [this];rfl
theorem so {s d e:TypeId}(hs:P.underlying s=some (.slice e))(he:P.underlying e=some (.int .u8))(hd:P.underlying d=some .string)(A:Option Addr)(n c:Nat)(bs:List UInt8)(h:RB w A n bs):
    (convert s d (.slice A n c)).run P w= .ok (.string ⟨bs.toArray⟩) w:=by
  rcases A with _ | ad
  · have hn:n=0:=by
      rcases vf n with h0 | h0
      · exact h0
      · obtain ⟨ad,h1,_⟩:=h.2 h0
        cases h1
    subst hn
    have hb:bs=[]:=uI h.1
    subst hb
    rw [run_convert_bytes_nil w _ _ hs he 0 c _ hd]
    rfl
  · have hl:(loadCells ad n).run P w= .ok ((bs.map fun b=>(b.toNat:Int)).map (Value.int .u8)).toArray w:=by
      have:=run_loadCells_list (P:=P) w ad ((bs.map fun b=>(b.toNat:Int)).map (Value.int .u8)) (fun j v hj=>by
        rw [List.map_map,List.getElem?_map] at hj
        cases hb:bs[j]? with
        | none=>rw [hb] at hj;cases hj
        | some b=>
          rw [hb] at hj
          have hlt:j<bs.length:=(List.getElem?_eq_some_iff.1 hb).1
          obtain ⟨ad',h1,_,hc⟩:=h.2 (by have:=h.1;omega)
          injection h1 with h1
          subst h1
          injection hj with hj
          subst hj
          exact hc j b hb)
      simpa [h.1] using this
    rw [run_convert_bytes_string w _ _ _ _ n c hs he hd,run_bytesToString w _ n c _ hl,foldl_push_bytes]
    simp [ByteArray.empty,ByteArray.emptyWithCapacity,List.map_map,Function.comp_def]
    rfl
theorem qK (he:∀ x∈o.op.operands,Rel w B η (ρA x) (ρ x)){s d e:TypeId}{x:Operand}{l:List AV}{bs:List UInt8}(ho:o.op= .convert s d x)(hx:ρA x= .sl l 1)(hs:iT P s=some e)(hd:cZ P d=true)(hb:toBs l=some bs):OpOK P n0 w ρ o B η (.c (.string ⟨bs.toArray⟩)):=by
  have h1:=he x (by simp [ho,ge])
  rw [hx,sn hb] at h1
  obtain ⟨A,n,c,hv,hr,_,_⟩:=h1.toRB
  obtain ⟨q1,q2⟩:=fK hs
  exact .of_run (v:=.string ⟨bs.toArray⟩) (by simp only [execOp,ho,hv,eq,so q1 q2 (bz hd) A n c bs hr];rfl) (.c _ _)
def nilV (op:BinOp):Option Bool:=match op with
  | .eql=>some false
  | .neq=>some true
  | _=>none
theorem ua (he:∀ x∈o.op.operands,Rel w B η (ρA x) (ρ x)){op:BinOp}{t t2 e k n' c':Nat}{x y:Operand}{l:List AV}{b:Bool}(ho:o.op= .binOp op t x y t2)(hx:ρA x= .sl l k)(hy:ρA y= .c (.slice none n' c'))(hl:l≠[])(hu:P.underlying t=some (.slice e))(h:nilV op=some b):OpOK P n0 w ρ o B η (.c (.bool b)):=by
  have h1:=he x (by simp [ho,ge])
  have h2:=he y (by simp [ho,ge])
  rw [hx] at h1;rw [hy] at h2
  have h2:=h2.ofC
  obtain ⟨A,n,c,us,hv,hk,hn,hc,hm,hA,hr⟩:=h1.slL
  have hn0:0<n:=by
    have:0<l.length:=List.length_pos_iff.2 hl
    exact Nat.pos_of_ne_zero fun h=>by subst h;omega
  obtain ⟨ad,rfl,_⟩:=hA hn0
  have hg:(eqGuard op t x y (.slice (some ad) n c) (.slice none n' c')).run P w= .ok () w:=by cases op <;> simp [eqGuard]
  refine .of_run (v:=.bool b) ?_ (.c _ _)
  cases op <;> simp only [nilV,u9.injEq] at h <;> first
    | (subst h
       simp only [execOp,ho,hv,h2]
       rw [eq,eq,hg]
       simp only [ne]
       first
         | (rw [Lib.run_eql_slice_nil w t e _ _ _ _ _ hu];rfl)
         | (rw [run_neq_slice_nil_any w t e _ _ _ _ _ hu];rfl))
    | (cases h;done)
theorem pt {b k:Nat}(hb:n0≤b)(hB:b∉B):Gk n0 B w (w.freeze ⟨b,k,none⟩ 1):=by
  refine ⟨rfl,rfl,rfl,by simp [World.freeze],fun i hi=>⟨fun c e fr hc=> ?_,fun o ho hc=> ?_⟩,fun i hi hj=> ?_⟩
  · simp only [World.freeze,Nat.one_ne_zero,if_false,Array.getElem?_modify]
    by_cases hbi:b=i
    · subst hbi
      simp only [if_true,hc,Option.map_some]
      obtain ⟨lo,hi'⟩:=fr
      exact ⟨_,rfl⟩
    · simp only [hbi,if_false];exact ⟨fr,hc⟩
  · simp only [World.freeze,Nat.one_ne_zero,if_false,Array.getElem?_modify]
    by_cases hbi:b=i
    · subst hbi
      simp only [if_true,ho,Option.map_some]
      cases o <;> first | exact absurd rfl (hc _ _ _) | rfl
    · simp only [hbi,if_false];exact ho
  · simp only [World.freeze,Nat.one_ne_zero,if_false,Array.getElem?_modify]
    rw [if_neg (fun h=>by subst h;exact hj.elim (fun h=>by omega) hB)]
theorem sT (he:∀ x∈o.op.operands,Rel w B η (ρA x) (ρ x)){s e:TypeId}{x:Operand}{l:List AV}(ho:o.op= .convert s s x)(hx:ρA x= .sl l 1)(hs:iT P s=some e)(hl:l≠[])(hfr:∀ ad n c,ρ x= .slice (some ad) n c→n0≤ad.block):OpOK P n0 w ρ o B η (.sl l 1):=by
  have h1:=he x (by simp [ho,ge])
  rw [hx] at h1
  have h1':=h1
  obtain ⟨A,n,c,us,hv,hk,hn,hc,hm,hA,hr⟩:=h1.slL
  obtain ⟨q1,q2⟩:=fK hs
  have hn0:0<n:=by
    have:0<l.length:=List.length_pos_iff.2 hl
    omega
  obtain ⟨ad,hA1,hat⟩:=hA hn0
  subst hA1
  have hge:=hfr ad n c hv
  intro N hN
  unfold Oper.val
  have hcell:=hat.cell 0 (by omega)
  obtain ⟨b,of,sp⟩:=ad
  obtain rfl:sp=none:=hat.spot
  rw [u3] at hcell
  have hsh:∃ E m,w.shape? b=some (E,m):=by
    unfold World.cell? at hcell
    unfold World.shape?
    split at hcell
    · rename_i cc e' fr hcc
      simp only at hcc
      rw [hcc];exact ⟨_,_,rfl⟩
    · cases hcell
  obtain ⟨E,m,hsh⟩:=hsh
  have hrun:(execOp ρ o).run P w= .ok (.value (.slice (some ⟨b,of,none⟩) n c)) (w.freeze ⟨b,m,none⟩ 1):=by
    simp [execOp,ho,hv,convert,eq,run_underlying q1,run_underlying q2,markStringish,shape,Sem.run,hsh,freeze]
  rw [hrun]
  have g:Gk n0 B w (w.freeze ⟨b,m,none⟩ 1):=pt hge hat.out
  rw [hv] at h1'
  exact hN _ _ g (h1'.gk g)
end
structure St where
  slots:List AV
  heap:List Ent
def unf:AV→AV
  | .fresh l k=>.sl l k
  | x=>x
def cg:AV→Bool
  | .fresh _ _=>true
  | _=>false
theorem Rel.unf {w:World}{B:List Nat}{η:List Value}{x:AV}{v:Value}(h:Rel w B η x v):Rel w B η (unf x) v:=by
  cases h with
  | fresh _ l k A n us hk hn h0 hm hA hr=>exact .sl _ l k A n n us hk hn (uH _) hm hA hr
  | c=>exact .c _ _
  | agg _ l cs us hs hu hr=>exact .agg _ l cs us hs hu hr
  | tup _ l cs us hs hu hr=>exact .tup _ l cs us hs hu hr
  | sl _ l k A n c us hk hn hc hm hA hr=>exact .sl _ l k A n c us hk hn hc hm hA hr
  | adr _ l ad us ha hr=>exact .adr _ l ad us ha hr
  | box _ id off b h=>exact .box _ id off b h
  | own _ id a n c h=>exact .own _ id a n c h
  | emp _ A=>exact .emp _ A
  | oadr _ id off b o n c h=>exact .oadr _ id off b o n c h
  | nn _ t v=>exact .nn _ t v
theorem sk (x:AV):cg (unf x)=false:=by cases x <;> rfl
def au (n0:Nat)(r:AV)(v:Value):Prop:=cg r=true→∀ ad n c,v= .slice (some ad) n c→n0≤ad.block
def opA (sl:List AV):Operand→AV
  | .tmp t=>unf (sl.getD t (.c undef))
  | .const v=>.c v
  | .global g=>.c (.pointer (some ⟨g,0,none⟩))
  | .func f=>.c (.func (.func f) #[] #[])
def cX (P:Program)(t:TypeId):Option TypeId:=match P.underlying t with
  | some (.slice e)=>some e
  | _=>none
theorem aD {P:Program}{t e:TypeId}(h:cX P t=some e):P.underlying t=some (.slice e):=by
  unfold cX at h
  split at h
  · rename_i hu;injection h with h;subst h;exact hu
  · cases h
def arrT (P:Program)(t:TypeId):Option (Nat×TypeId):=match P.underlying t with
  | some (.array m e)=>some (m,e)
  | _=>none
theorem bb {P:Program}{t e:TypeId}{m:Nat}(h:arrT P t=some (m,e)):P.underlying t=some (.array m e):=by
  unfold arrT at h
  split at h
  · rename_i hu;injection h with h;injection h with h1 h2;subst h1 h2;exact hu
  · cases h
def j8 (P:Program)(s:TypeId)(f:Nat):Option (TypeId×Nat):=match jA P s f with | some fd=>some (fd.type,fd.offset) | none=>none
theorem gS {P:Program}{s:TypeId}{f ty off:Nat}(h:j8 P s f=some (ty,off)):∃ fd,jA P s f=some fd∧fd.type=ty∧fd.offset=off:=by
  unfold j8 at h
  split at h
  · rename_i fd hfd;injection h with h;injection h with h1 h2;exact ⟨fd,hfd,h1,h2⟩
  · cases h
def qk (P:Program)(n0:Nat)(w:World)(ρ:Operand→Value)(o:Oper)(B:List Nat)(η:List Value)(r:AV):Prop:=
  ∀ N:Value→World→Prop,(∀ v w',Gk n0 B w w'→Rel w' B η r v→au n0 r v→N v w')→Oper.val P ρ o w N
section
variable {P:Program} {n0:Nat} {w:World} {B:List Nat} {η:List Value} {H:List Ent} {ρ:Operand→Value} {ρA ρR:Operand→AV} {fr:Operand→Bool} {o:Oper} {C:Con} {Bx:List Nat}
theorem OpOK.f {r:AV}(h:OpOK P n0 w ρ o B η r):qk P n0 w ρ o B η (unf r):=fun N hN=>h N fun v w' g hr=>hN v w' g hr.unf (fun hf=>by rw [sk] at hf;cases hf)
theorem Rel.toFresh {l:List AV}{k n:Nat}{A:Option Addr}(h:Rel w B η (.sl l k) (.slice A n n)):Rel w B η (.fresh l k) (.slice A n n):=by
  cases h with
  | sl _ l k A n c us hk hn hc hm hA hr=>exact .fresh _ l k A n us hk hn (fun h=>by
      subst h
      rcases vf n with h0 | h0
      · exact h0
      · obtain ⟨ad,h1,_⟩:=hA h0;cases h1) hm hA hr
theorem Rel.freshL {l:List AV}{k:Nat}{v:Value}(h:Rel w B η (.fresh l k) v):∃ A n us,v= .slice A n n∧1≤k∧n*k=l.length∧(A=none→n=0)∧n≤maxLen∧(0<n→∃ ad,A=some ad∧At w B ad l.length us)∧∀ i x,l[i]? =some x→Rel w B [] x (us i):=by
  cases h with
  | fresh _ _ _ A n us hk hn h0 hm hA hr=>exact ⟨A,n,us,rfl,hk,hn,h0,hm,hA,hr⟩
theorem ke (hlt:∀ b∈B,b<w.heap.size)(hb:n0≤w.heap.size)(he:∀ x∈o.op.operands,Rel w B η (ρA x) (ρ x)){t:TypeId}{len k:Nat}{l:List AV}{parts:Array (Nat×Operand)}(ho:o.op= .buildSlice t len parts)(hm:len≤maxLen)(h:ff P t len (cw ρA parts)=some (.sl l k)):qk P n0 w ρ o B η (.fresh l k):=fun N hN=>
  iU hlt he ho hm h N fun v w' g hr hf hv0=>by
    obtain ⟨A,rfl⟩:=hv0
    exact hN _ w' (.gr g) hr.toFresh fun _ ad n c hv=>vb hb (hf ad n c hv)
theorem mE (hlt:∀ b∈B,b<w.heap.size)(he:∀ x∈o.op.operands,Rel w B η (ρA x) (ρ x)){t:TypeId}{len k:Nat}{l:List AV}{parts:Array (Nat×Operand)}(ho:o.op= .buildSlice t len parts)(hm:len≤maxLen)(h0:len=0)(h:ff P t len (cw ρA parts)=some (.sl l k)):qk P n0 w ρ o B η .emp:=fun N hN=>
  iU hlt he ho hm h N fun v w' g hr hf hv=>by
    obtain ⟨A,rfl⟩:=hv
    subst h0
    exact hN _ w' (.gr g) (.emp _ A) (fun h=>by cases h)
end
structure SlotsOK (n0:Nat) (w:World) (B:List Nat) (η:List Value) (sl:List AV) (tmps:Array Value):Prop where
  size:sl.length=tmps.size
  rel:∀ t,Rel w B η (sl.getD t (.c undef)) (tmps.getD t undef)
  fresh:∀ t,au n0 (sl.getD t (.c undef)) (tmps.getD t undef)
def setA (sl:List AV)(d:Option Tmp)(r:AV):List AV:=match d with | some t=>sl.set t r | none=>sl
section
variable {P:Program} {n0:Nat} {w:World} {B:List Nat} {η:List Value} {H:List Ent} {sl:List AV} {a:Act} {C:Con} {Bx:List Nat}
theorem SlotsOK.op (h:SlotsOK n0 w B η sl a.tmps)(x:Operand):Rel w B η (opA sl x) (a.eval x):=by
  cases x with
  | tmp t=>exact (h.rel t).unf
  | const v=>exact .c _ _
  | global g=>exact .c _ _
  | func f=>exact .c _ _
theorem SlotsOK.put {r:AV}{v:Value}(h:SlotsOK n0 w B η sl a.tmps)(hr:Rel w B η r v)(hfv:au n0 r v)(d:Option Tmp):SlotsOK n0 w B η (setA sl d r) (a.put d v).tmps:=by
  cases d with
  | none=>exact h
  | some t=>
    have key:∀ u,((setA sl (some t) r).getD u (.c undef)=r∧(a.put (some t) v).tmps.getD u undef=v)∨((setA sl (some t) r).getD u (.c undef)=sl.getD u (.c undef)∧(a.put (some t) v).tmps.getD u undef=a.tmps.getD u undef):=by
      intro u
      simp only [setA,Act.put,List.getD_eq_getElem?_getD,Array.getD_eq_getD_getElem?]
      rw [List.getElem?_set,Array.getElem?_setIfInBounds]
      by_cases htu:t=u
      · subst htu
        simp only [if_true]
        rw [h.size]
        by_cases hlt:t<a.tmps.size
        · simp [hlt]
        · right
          simp only [hlt,if_false]
          have e1:sl[t]? =none:=List.getElem?_eq_none (by rw [h.size];exact Nat.le_of_not_lt hlt)
          have e2:a.tmps[t]? =none:=Array.getElem?_eq_none (Nat.le_of_not_lt hlt)
          rw [e1,e2]
          exact ⟨rfl,rfl⟩
      · simp [htu]
    refine ⟨by simp [setA,Act.put,h.size],fun u=> ?_,fun u=> ?_⟩
    · rcases key u with ⟨h1,h2⟩ | ⟨h1,h2⟩ <;> rw [h1,h2]
      · exact hr
      · exact h.rel u
    · rcases key u with ⟨h1,h2⟩ | ⟨h1,h2⟩ <;> rw [h1,h2]
      · exact hfv
      · exact h.fresh u
theorem SlotsOK.on {w':World}{B':List Nat}{η':List Value}{tmps:Array Value}(h:SlotsOK n0 w B η sl tmps)(g:On B w w')(hB:∀ b∈B',b∈B∨w.heap.size≤b)(he:∀ (id:Nat) v,η[id]? =some v→η'[id]? =some v):SlotsOK n0 w' B' η' sl tmps:=
  ⟨h.size,fun t=>(h.rel t).on g hB he,h.fresh⟩
theorem er {o:Oper}{K:Act→World→Prop}{Q:Exit→Act→World→Prop}(h:Oper.val P a.eval o w (fun v w'=>K (a.put o.dst v) w')):o.wp P a w K Q:=by
  unfold Oper.val at h
  unfold Oper.wp
  generalize (execOp a.eval o).run P w=r at *
  cases r with
  | ok nx w'=>
    cases nx <;> simp only [Oper.upon] at h ⊢
    case value u=>exact h
    case skip=>exact h
    case enter f args=>exact Calls.mono h fun e w'' ⟨v,he,hk⟩=>by subst he;exact hk
  | halt x w'=>simp only at h
end
def AV.one:AV→Bool
 | .c v=>v.oneCell'
 | .agg _ | .tup _=>false
 | _=>true
theorem Rel.one {w:World}{B:List Nat}{η:List Value}{x:AV}{v:Value}(h:Rel w B η x v)(hx:x.one=true):v.oneCell'=true:=by
 cases h with
 | c=>exact hx
 | agg=>cases hx
 | tup=>cases hx
 | _=>rfl
theorem RelL.one {w:World}{B:List Nat}{η:List Value}{l:List AV}{us:List Value}(h:RelL w B η l us)(hl:l.all AV.one=true):∀ u∈us,u.oneCell'=true:=by
 intro u hu
 obtain ⟨i,hi,rfl⟩:=List.getElem_of_mem hu
 obtain ⟨v,h1,h2⟩:=h.2 i (l[i]'(by rw [←h.1];exact hi)) (List.getElem?_eq_getElem _)
 rw [List.getElem?_eq_getElem hi] at h1
 injection h1 with h1
 rw [h1]
 exact h2.one (uK.1 hl _ (List.getElem_mem _))
def OpS (P:Program)(n0:Nat)(Bx:List Nat)(w:World)(ρ:Operand→Value)(o:Oper)(B:List Nat)(η:List Value)(r:AV)(H':List Ent):Prop:=
 ∀ N:Value→World→Prop,(∀ v w' B' η',On B w w'→(∀ b∈B',b∈B∨w.heap.size≤b)→(∀ (id:Nat) v,η[id]? =some v→η'[id]? =some v)→Bel n0 Bx w w'→Inv n0 Bx w' B' η' H'→Rel w' B' η' r v→au n0 r v→N v w')→Oper.val P ρ o w N
section
variable {P:Program} {w w':World} {B:List Nat} {η:List Value} {H:List Ent} {ρ:Operand→Value} {ρA:Operand→AV} {o:Oper} {C:Con} {n0:Nat} {Bx:List Nat}
theorem qk.s {r:AV}(inv:Inv n0 Bx w B η H)(h:qk P n0 w ρ o B η r):OpS P n0 Bx w ρ o B η r H:=by
 intro N hN
 exact h N (fun v w' g hr hf=>hN v w' B η g.on (fun _ h=>.inl h) (fun _ _ h=>h) (g.bel inv) (inv.gk g) hr hf)
theorem aq {α:Type}(l:List α)(x:α):∀ (i:Nat) v,l[i]? =some v→(l++[x])[i]? =some v:=fun i v h=>by
 have hi:i<l.length:=(List.getElem?_eq_some_iff.1 h).1
 rw [List.getElem?_append_left hi];exact h
theorem ai {l:List Value}{x d:Value}{i:Nat}(h:i<l.length):(l++[x]).getD i d=l.getD i d:=by
 rw [List.getD_eq_getElem?_getD,List.getD_eq_getElem?_getD,List.getElem?_append_left h]
theorem ak {l:List Value}{x d:Value}:(l++[x]).getD l.length d=x:=by
 rw [List.getD_eq_getElem?_getD,List.getElem?_append_right (uH _)];simp
theorem Inv.push (inv:Inv n0 Bx w B η H)(g:Gr w w'){b:Nat}{v:Value}{e:Ent}(hb:w.heap.size≤b)(hlt:b<w'.heap.size)(hv:aO v=some b)(he:aF n0 Bx w' (b::B) (η++[v]) v e):Inv n0 Bx w' (b::B) (η++[v]) (H++[e]):=by
 have hB:∀ x∈b::B,x∈B∨w.heap.size≤x:=fun x hx=>by rcases uU.1 hx with rfl | h;exact .inr hb;exact .inl h
 refine ⟨by simp [inv.len],⟨vb inv.base.1 g.size,inv.base.2.on (.gr g) hB⟩,fun x hx=>uX _ (inv.sub x hx),fun x hx=> ?_,fun id e' h=> ?_,fun i j ei ej hij hi hj hli hlj c hc=> ?_⟩
 ·rcases uU.1 hx with rfl | h
  ·exact hlt
  ·exact uJ (inv.lt x h) g.size
 ·rcases uM id H.length with hid | hid
  ·rw [List.getElem?_append_left hid] at h
   rw [ai (by rw [inv.len];exact hid)]
   exact aF.keep (inv.ent id e' h) (.gr g) hB (fun _ h=>uX _ h) (aq η v) (fun hl b hb=>g.block b (aF.lt (inv.ent id e' h) hl b hb).1)
  ·rw [List.getElem?_append_right hid] at h
   have:id=H.length:=by have:=(List.getElem?_eq_some_iff.1 h).1;simp at this;omega
   subst this
   simp at h;subst h
   rw [←inv.len,ak];exact he
 ·have key:∀ (i:Nat) (ei:Ent),(H++[e])[i]? =some ei→(i<H.length∧H[i]? =some ei∧(η++[v]).getD i undef=η.getD i undef)∨(i=H.length∧(η++[v]).getD i undef=v):=by
   intro i ei h
   rcases uM i H.length with hid | hid
   ·exact .inl ⟨hid,by rwa [List.getElem?_append_left hid] at h,ai (by rw [inv.len];exact hid)⟩
   ·have:i=H.length:=by
     rw [List.getElem?_append_right hid] at h
     have:=(List.getElem?_eq_some_iff.1 h).1;simp at this;omega
    subst this
    exact .inr ⟨rfl,by rw [←inv.len,ak]⟩
  rcases key i ei hi with ⟨h1,h2,h3⟩ | ⟨h1,h3⟩ <;> rcases key j ej hj with ⟨k1,k2,k3⟩ | ⟨k1,k3⟩
  ·rw [h3] at hc;rw [k3];exact inv.sep i j ei ej hij h2 k2 hli hlj c hc
  ·rw [h3] at hc;rw [k3,hv]
   have:=(aF.lt (inv.ent i ei h2) hli c hc).1
   intro hcc;injection hcc with hcc;omega
  ·rw [h3,hv] at hc;injection hc with hc;subst hc
   rw [k3]
   intro hcc
   have:=(aF.lt (inv.ent j ej k2) hlj b hcc).1
   omega
  ·omega
theorem ja (w:World)(c:Array Value)(t:TypeId):(w.alloc (.cells c t)).heap[w.heap.size]? =some (.cells c t (0,0)):=by
 show (w.heap.push _)[w.heap.size]? =_
 simp
theorem kg (inv:Inv n0 Bx w B η H){l:List AV}{us:List Value}(hr:RelL w B η l us)(T:TypeId):Inv n0 Bx (w.alloc (.cells us.toArray T)) (w.heap.size::B) (η++[.pointer (some ⟨w.heap.size,0,none⟩)]) (H++[.box l T]):=by
 have g:=cH (Gr.refl w) (.cells us.toArray T)
 have hB:∀ x∈w.heap.size::B,x∈B∨w.heap.size≤x:=fun x hx=>by rcases uU.1 hx with rfl | h;exact .inr (uH _);exact .inl h
 refine inv.push g (uH _) (by simp) rfl ⟨w.heap.size,us,rfl,inv.base.1,uR,fun h=> ?_,ja w _ _,hr.on (.gr g) hB (aq _ _)⟩
 have:=inv.lt _ (inv.sub _ h);have:=inv.base.1;omega
theorem uq (inv:Inv n0 Bx w B η H)(he:∀ x∈o.op.operands,Rel w B η (ρA x) (ρ x)){T:TypeId}{x:Operand}(ho:o.op= .box T x)(hnt:iD (ρA x)=true):OpS P n0 Bx w ρ o B η (.box H.length 0) (H++[.box (ρA x).toL T]):=by
 intro N hN
 have hx:=he x (by simp [ho,ge])
 have hr:=hx.toL (fun l e=>by rw [e] at hnt;cases hnt)
 have g:=cH (Gr.refl w) (.cells (ρ x).cells.toList.toArray T)
 have hB:∀ y∈w.heap.size::B,y∈B∨w.heap.size≤y:=fun y hy=>by rcases uU.1 hy with rfl | h;exact .inr (uH _);exact .inl h
 have:=hN (.pointer (some ⟨w.heap.size,0,none⟩)) _ _ _ (.gr g) hB (aq η _) (Gr.bel g inv.base.1) (kg inv hr T) (.box _ _ _ _ (by rw [←inv.len,List.getElem?_append_right (uH _)];simp)) (fun h=>by cases h)
 unfold Oper.val
 have hrun:(execOp ρ o).run P w= .ok (.value (.pointer (some ⟨w.heap.size,0,none⟩))) (w.alloc (.cells (ρ x).cells.toList.toArray T)):=by
  simp only [execOp,ho]
  rfl
 rw [hrun]
 exact this
theorem rR (inv:Inv n0 Bx w B η H){T:TypeId}{v:Value}(ho:o.op= .alloc T)(hz:eA P (zeroValue T)=some v):OpS P n0 Bx w ρ o B η (.box H.length 0) (H++[.box (v.cells.toList.map .c) T]):=by
 intro N hN
 have hr:RelL w B η (v.cells.toList.map .c) v.cells.toList:=⟨by simp,fun i y hy=>by
  rw [List.getElem?_map,u7] at hy
  obtain ⟨u,hu,rfl⟩:=hy
  exact ⟨u,hu,.c _ _⟩⟩
 have g:=cH (Gr.refl w) (.cells v.cells.toList.toArray T)
 have hB:∀ y∈w.heap.size::B,y∈B∨w.heap.size≤y:=fun y hy=>by rcases uU.1 hy with rfl | h;exact .inr (uH _);exact .inl h
 have:=hN (.pointer (some ⟨w.heap.size,0,none⟩)) _ _ _ (.gr g) hB (aq η _) (Gr.bel g inv.base.1) (kg inv hr T) (.box _ _ _ _ (by rw [←inv.len,List.getElem?_append_right (uH _)];simp)) (fun h=>by cases h)
 unfold Oper.val
 have hrun:(execOp ρ o).run P w= .ok (.value (.pointer (some ⟨w.heap.size,0,none⟩))) (w.alloc (.cells v.cells.toList.toArray T)):=by
  simp only [execOp,ho,Instr.alloc,eq,iw hz,ne]
  rfl
 rw [hrun]
 exact this
theorem Inv.write (inv:Inv n0 Bx w B η H){id b:Nat}{v:Value}{e e':Ent}{cs:Array Value}(hH:H[id]? =some e)(hv:η[id]? =some v)(hl:e.live=true)(hb:aO v=some b)(hl':e'.live=true)(he:aF n0 Bx (w.setRow b cs) B η v e'):Inv n0 Bx (w.setRow b cs) B η (H.set id e')∧On B w (w.setRow b cs)∧Bel n0 Bx w (w.setRow b cs):=by
 have hg:η.getD id undef=v:=by simp [List.getD_eq_getElem?_getD,hv]
 have hlt:=aF.lt (inv.ent id e hH) hl b (by rw [hg];exact hb)
 have hon:On B w (w.setRow b cs):=⟨rfl,rfl,rfl,by simp,fun k _ hk=>.of (setRow_other w b k cs (fun h=>hk (by rw [h];exact hlt.2)))⟩
 have hnb:b∉Bx:=aF.noBx (inv.ent id e hH) hl b (by rw [hg];exact hb)
 have hn0:n0≤b:=by
  have:=inv.ent id e hH
  rw [hg] at this
  cases e with
  | dead=>cases hl
  | box cells T=>obtain ⟨b',us,h1,h2,_⟩:=this;rw [h1] at hb;simp [aO] at hb;omega
  | own cells E k=>
   obtain ⟨n,us,h1,_⟩:=this
   rcases h1.2 with ⟨hv',_⟩ | ⟨gg,oo,cap,cur,hv',hb',_⟩
   ·rw [hv'] at hb;cases hb
   ·rw [hv'] at hb;simp [aO] at hb;omega
  | itr s pos=>obtain ⟨b',h1,h2,_⟩:=this;rw [h1] at hb;simp [aO] at hb;omega
 refine ⟨⟨by simp [inv.len],⟨by simpa using inv.base.1,inv.base.2.on hon (fun _ h=>.inl h)⟩,inv.sub,fun x hx=>by simpa using inv.lt x hx,fun i ei hi=> ?_,fun i j ei ej hij hi hj hli hlj c hc=> ?_⟩,hon,⟨⟨rfl,rfl,rfl,by simp,fun k hk=>setRow_other w b k cs (by omega)⟩,fun k hk _=>setRow_other w b k cs (fun hkb=>hnb (by rw [←hkb];exact hk))⟩⟩
 ·rw [List.getElem?_set] at hi
  split at hi
  ·rename_i hij
   subst hij
   split at hi
   ·injection hi with hi;subst hi;rw [hg];exact he
   ·cases hi
  ·rename_i hij
   exact aF.keep (inv.ent i ei hi) hon (fun _ h=>.inl h) (fun _ h=>h) (fun _ _ h=>h) (fun hli k hk=>setRow_other w b k cs (fun h=>by
    subst h
    exact inv.sep id i e ei hij hH hi hl hli k (by rw [hg];exact hb) hk))
 ·have key:∀ (i:Nat) (ei:Ent),(H.set id e')[i]? =some ei→ei.live=true→∃ ei',H[i]? =some ei'∧ei'.live=true:=by
   intro i ei h hlive
   rw [List.getElem?_set] at h
   split at h
   ·rename_i hij;subst hij;exact ⟨e,hH,hl⟩
   ·exact ⟨ei,h,hlive⟩
  obtain ⟨ei',h1,h2⟩:=key i ei hi hli
  obtain ⟨ej',k1,k2⟩:=key j ej hj hlj
  exact inv.sep i j ei' ej' hij h1 k1 h2 k2 c hc
theorem c8 {b of:Nat}{T t:TypeId}{v:Value}{cur:List Value}(hg:w.heap[b]? =some (.cells cur.toArray t (0,0)))(hs:v.cells.toList.length=P.cellsOf T)(hp:0<P.cellsOf T)(hle:of+v.cells.toList.length≤cur.length)(h1:∀ u∈v.cells.toList,u.oneCell'=true):
  (Instr.storeAt T (.pointer (some ⟨b,of,none⟩)) v).run P w= .ok () (w.setRow b (putL cur of v.cells.toList).toArray):=by
 obtain ⟨i,hi,hsz⟩:=aT (P:=P) (t:=T) (by omega)
 have hst:=run_storeCells_at (P:=P) b of t v.cells.toList 0 cur.toArray w hg (by simpa using hle) h1
 simp only [Nat.add_zero] at hst
 have hne:v.cells.size=i.size:=by rw [hsz,←hs];simp
 simp only [Instr.storeAt,Instr.sureAddr,storeVar,eq,uS,ne,aR hi,hne]
 rw [if_neg (by simp),hst]
 rfl
theorem rg (inv:Inv n0 Bx w B η H)(s:ByteArray)(pos:Nat):Inv n0 Bx (w.alloc (.stringIter s pos)) (w.heap.size::B) (η++[.pointer (some ⟨w.heap.size,0,none⟩)]) (H++[.itr s pos]):=by
 have g:=cH (Gr.refl w) (.stringIter s pos)
 refine inv.push g (uH _) (by simp) rfl ⟨w.heap.size,rfl,inv.base.1,uR,fun h=> ?_, ?_⟩
 ·have:=inv.lt _ (inv.sub _ h);have:=inv.base.1;omega
 ·show (w.heap.push _)[w.heap.size]? =_
  simp
theorem qO (inv:Inv n0 Bx w B η H){T:TypeId}{x:Operand}{s:ByteArray}(ho:o.op= .range T x)(hu:P.underlying T=some .string)(hx:ρ x= .string s):OpS P n0 Bx w ρ o B η (.box H.length 0) (H++[.itr s 0]):=by
 intro N hN
 have g:=cH (Gr.refl w) (.stringIter s 0)
 have hB:∀ y∈w.heap.size::B,y∈B∨w.heap.size≤y:=fun y hy=>by rcases uU.1 hy with rfl | h;exact .inr (uH _);exact .inl h
 have:=hN (.pointer (some ⟨w.heap.size,0,none⟩)) _ _ _ (.gr g) hB (aq η _) (Gr.bel g inv.base.1) (rg inv s 0) (.box _ _ _ _ (by rw [←inv.len,List.getElem?_append_right (uH _)];simp)) (fun h=>by cases h)
 unfold Oper.val
 have hrun:(execOp ρ o).run P w= .ok (.value (.pointer (some ⟨w.heap.size,0,none⟩))) (w.alloc (.stringIter s 0)):=by
  simp only [execOp,ho,Instr.range,eq,run_underlying hu,ne,hx]
  rfl
 rw [hrun]
 exact this
theorem Inv.setItr (inv:Inv n0 Bx w B η H){id b pos pos':Nat}{s:ByteArray}(hH:H[id]? =some (.itr s pos))(hv:η[id]? =some (.pointer (some ⟨b,0,none⟩))):Inv n0 Bx { w with heap:=w.heap.setIfInBounds b (.stringIter s pos') } B η (H.set id (.itr s pos'))∧On B w { w with heap:=w.heap.setIfInBounds b (.stringIter s pos') }∧Bel n0 Bx w { w with heap:=w.heap.setIfInBounds b (.stringIter s pos') }∧w.heap[b]? =some (.stringIter s pos):=by
 have hg:η.getD id undef= .pointer (some ⟨b,0,none⟩):=by simp [List.getD_eq_getElem?_getD,hv]
 have hent:=inv.ent id _ hH
 rw [hg] at hent
 obtain ⟨b',h1,h2,h3,h4,h5⟩:=hent
 injection h1 with h1;injection h1 with h1;injection h1 with h1 _ _;subst h1
 have hlt:=(Array.getElem?_eq_some_iff.1 h5).1
 have other:∀ k,k≠b→({ w with heap:=w.heap.setIfInBounds b (.stringIter s pos') }:World).heap[k]? =w.heap[k]? :=fun k hk=>by
  show (w.heap.setIfInBounds b _)[k]? =_
  rw [Array.getElem?_setIfInBounds_ne (fun h=>hk h.symm)]
 have hon:On B w { w with heap:=w.heap.setIfInBounds b (.stringIter s pos') }:=⟨rfl,rfl,rfl,by simp,fun k _ hk=>.of (other k (fun h=>hk (by rw [h];exact h3)))⟩
 refine ⟨⟨by simp [inv.len],⟨by simpa using inv.base.1,inv.base.2.on hon (fun _ h=>.inl h)⟩,inv.sub,fun x hx=>by simpa using inv.lt x hx,fun i ei hi=> ?_,fun i j ei ej hij hi hj hli hlj c hc=> ?_⟩,hon,⟨⟨rfl,rfl,rfl,by simp,fun k hk=>other k (by omega)⟩,fun k hk _=>other k (fun hkb=>h4 (by rw [←hkb];exact hk))⟩,h5⟩
 ·rw [List.getElem?_set] at hi
  split at hi
  ·rename_i hij
   subst hij
   split at hi
   ·injection hi with hi;subst hi;rw [hg]
    exact ⟨b,rfl,h2,h3,h4,by show (w.heap.setIfInBounds b _)[b]? =_;simp [hlt]⟩
   ·cases hi
  ·rename_i hij
   exact aF.keep (inv.ent i ei hi) hon (fun _ h=>.inl h) (fun _ h=>h) (fun _ _ h=>h) (fun hli k hk=>other k (fun h=>by
    subst h
    exact inv.sep id i (.itr s pos) ei hij hH hi rfl hli k (by rw [hg];rfl) hk))
 ·have key:∀ (i:Nat) (ei:Ent),(H.set id (.itr s pos'))[i]? =some ei→ei.live=true→∃ ei',H[i]? =some ei'∧ei'.live=true:=by
   intro i ei h hlive
   rw [List.getElem?_set] at h
   split at h
   ·rename_i hij;subst hij;exact ⟨_,hH,rfl⟩
   ·exact ⟨ei,h,hlive⟩
  obtain ⟨ei',h1,h2⟩:=key i ei hi hli
  obtain ⟨ej',k1,k2⟩:=key j ej hj hlj
  exact inv.sep i j ei' ej' hij h1 k1 h2 k2 c hc
theorem oW (l:List Value):Rel w B η (.tup (l.map .c)) (.tuple l.toArray):=by
 refine .tup η _ _ (fun i=>l.getD i undef) (by simp) (fun i x hx=> ?_) (fun i x hx=> ?_)
 ·rw [List.getElem?_map,u7] at hx
  obtain ⟨u,hu,rfl⟩:=hx
  simp [List.getD_eq_getElem?_getD,hu]
 ·rw [List.getElem?_map,u7] at hx
  obtain ⟨u,hu,rfl⟩:=hx
  rw [List.getD_eq_getElem?_getD,hu]
  exact .c _ _
theorem sM (inv:Inv n0 Bx w B η H){x:Operand}{s:ByteArray}{id pos:Nat}(ho:o.op= .next x true)(hH:H[id]? =some (.itr s pos))(hx:Rel w B η (.box id 0) (ρ x))(hp:pos<s.size):
  OpS P n0 Bx w ρ o B η (.tup ([Value.bool true,goInt pos,.int .i32 ((Utf8.decode s pos).1:Nat)].map .c)) (H.set id (.itr s (pos+(Utf8.decode s pos).2))):=by
 intro N hN
 have:∃ b,ρ x= .pointer (some ⟨b,0,none⟩)∧η[id]? =some (.pointer (some ⟨b,0,none⟩)):=by
  generalize ρ x=v at hx
  cases hx with
  | box _ _ _ b h=>exact ⟨b,rfl,h⟩
 obtain ⟨b,e1,e2⟩:=this
 obtain ⟨i1,i2,i3,i4⟩:=inv.setItr (pos':=pos+(Utf8.decode s pos).2) hH e2
 have:=hN (.tuple [Value.bool true,goInt pos,.int .i32 ((Utf8.decode s pos).1:Nat)].toArray) _ B η i2 (fun _ h=>.inl h) (fun _ _ h=>h) i3 i1 (oW _) (fun h=>by cases h)
 unfold Oper.val
 have hrun:(execOp ρ o).run P w= .ok (.value (.tuple #[.bool true,goInt pos,.int .i32 ((Utf8.decode s pos).1:Nat)])) { w with heap:=w.heap.setIfInBounds b (.stringIter s (pos+(Utf8.decode s pos).2)) }:=by
  have h1:(getObj b).run P w= .ok (.stringIter s pos) w:=by simp [getObj,Sem.run,i4]
  have h2:∀ ob,(setObj b ob).run P w= .ok () { w with heap:=w.heap.setIfInBounds b ob }:=fun ob=>by simp [setObj,Sem.run,i4]
  simp only [execOp,ho,Instr.next,e1,eq,h1,ne,hp,if_true,h2]
  rfl
 rw [hrun]
 exact this
theorem qW (inv:Inv n0 Bx w B η H){x:Operand}{s:ByteArray}{id pos:Nat}(ho:o.op= .next x true)(hH:H[id]? =some (.itr s pos))(hx:Rel w B η (.box id 0) (ρ x))(hp:¬ pos<s.size):
  OpS P n0 Bx w ρ o B η (.tup ([Value.bool false].map .c)) H:=by
 intro N hN
 have:∃ b,ρ x= .pointer (some ⟨b,0,none⟩)∧η[id]? =some (.pointer (some ⟨b,0,none⟩)):=by
  generalize ρ x=v at hx
  cases hx with
  | box _ _ _ b h=>exact ⟨b,rfl,h⟩
 obtain ⟨b,e1,e2⟩:=this
 obtain ⟨i1,i2,i3,i4⟩:=inv.setItr (pos':=pos) hH e2
 have:=hN (.tuple [Value.bool false].toArray) w B η (.gr (Gr.refl w)) (fun _ h=>.inl h) (fun _ _ h=>h) (Bel.refl _ _ _) inv (oW _) (fun h=>by cases h)
 unfold Oper.val
 have hrun:(execOp ρ o).run P w= .ok (.value (.tuple #[.bool false])) w:=by
  have h1:(getObj b).run P w= .ok (.stringIter s pos) w:=by simp [getObj,Sem.run,i4]
  simp only [execOp,ho,Instr.next,e1,eq,h1,ne,hp,if_false]
  rfl
 rw [hrun]
 exact this
end
section
variable {P:Program} {w w':World} {B:List Nat} {η:List Value} {H:List Ent} {ρ:Operand→Value} {ρA:Operand→AV} {o:Oper} {C:Con} {n0:Nat} {Bx:List Nat}
theorem jI {N:Value→World→Prop}{wx:World}(h:(execOp ρ o).run P w= .ok .skip wx)(hN:N undef wx):Oper.val P ρ o w N:=by
 unfold Oper.val;rw [h];exact hN
theorem hY (inv:Inv n0 Bx w B η H)(he:∀ x∈o.op.operands,Rel w B η (ρA x) (ρ x)){T T':TypeId}{a x:Operand}{id off:Nat}{cells l:List AV}(ho:o.op= .store T a x)(ha:ρA a= .box id off)(hH:H[id]? =some (.box cells T'))(hx:ρA x≠ρA x∨(ρA x).toL=l)(hnt:iD (ρA x)=true)
  (hl:l.length=P.cellsOf T) (hp:0<P.cellsOf T) (hle:off+l.length≤cells.length) (h1:l.all AV.one=true):OpS P n0 Bx w ρ o B η (.c undef) (H.set id (.box (putL cells off l) T')):=by
 intro N hN
 have hx':(ρA x).toL=l:=hx.elim (fun h=>absurd rfl h) (fun h=>h)
 have hr:=(he x (by simp [ho,ge])).toL (fun l e=>by rw [e] at hnt;cases hnt)
 rw [hx'] at hr
 have h2:=he a (by simp [ho,ge])
 rw [ha] at h2
 generalize hva:ρ a=va at h2
 cases h2 with
 | box _ _ _ b hid=>
  have hent:=inv.ent id _ hH
  rw [List.getD_eq_getElem?_getD,hid,u2] at hent
  obtain ⟨b',us,e1,e2,e3,e4,e5,e6⟩:=hent
  obtain rfl:b=b':=by simpa using e1
  have hrun:=c8 (P:=P) (T:=T) (v:=ρ x) (of:=off) e5 (by rw [hr.1];exact hl) hp (by rw [hr.1,e6.1];exact hle) (hr.one h1)
  have hon:On B w (w.setRow b (putL us off (ρ x).cells.toList).toArray):=⟨rfl,rfl,rfl,by simp,fun k _ hk=>.of (setRow_other w b k _ (fun h=>hk (by rw [h];exact e3)))⟩
  obtain ⟨i1,i2,i3⟩:=inv.write (e':=.box (putL cells off l) T') (cs:=(putL us off (ρ x).cells.toList).toArray) hH hid rfl rfl rfl
   ⟨b,_,rfl,e2,e3,e4,setRow_heap w b us.toArray _ T' (0,0) e5,(e6.putL hr off).on hon (fun _ h=>.inl h) (fun _ _ h=>h)⟩
  exact jI (by simp [execOp,ho,hva,eq,hrun]) (hN undef _ B η i2 (fun _ h=>.inl h) (fun _ _ h=>h) i3 i1 (.c _ _) (fun h=>by cases h))
theorem oH {α:Type}(cur us vs:List α)(off N:Nat)(h:cur.take N=us)(hle:off+vs.length≤us.length):(putL cur off vs).take N=putL us off vs:=by
 have hN:us.length≤N:=by rw [←h];simp;omega
 have hc:us.length≤cur.length:=by rw [←h];simp;omega
 unfold putL
 subst h
 apply vm
 intro i
 simp only [List.getElem?_take,List.getElem?_append,uZ,ve,List.getElem?_drop]
 simp only [ve] at hle hN hc
 by_cases h1:i<off
 ·have:i<N:=by omega
  simp only [this,if_true]
  rw [if_pos (by omega),if_pos (by omega),if_pos (by omega),if_pos (by omega)]
  (repeat (first | rw [if_pos (by omega)] | rw [if_neg (by omega)]))
 ·by_cases h2:i<off+vs.length
  ·have:i<N:=by omega
   simp only [this,if_true]
   rw [if_pos (by omega),if_neg (by omega),if_pos (by omega),if_neg (by omega)]
   congr 1
   omega
  ·by_cases h3:i<N
   ·simp only [h3,if_true]
    rw [if_neg (by omega),if_neg (by omega)]
    have e1:off+vs.length+(i-(min off cur.length+vs.length))=i:=by omega
    have e2:off+vs.length+(i-(min off (min N cur.length)+vs.length))=i:=by omega
    rw [e1,e2,if_pos h3]
   ·simp only [h3,if_false]
    rw [if_neg (by omega)]
    have e2:off+vs.length+(i-(min off (min N cur.length)+vs.length))=i:=by omega
    rw [e2,if_neg h3]
theorem dR {α:Type}(cur vs:List α)(o off:Nat)(h:o+off+vs.length≤cur.length):(putL cur (o+off) vs).drop o=putL (cur.drop o) off vs:=by
 unfold putL
 apply vm
 intro i
 simp only [List.getElem?_drop,List.getElem?_append,uZ,ve,List.getElem?_take,vj]
 by_cases h1:i<off
 ·(repeat (first | rw [if_pos (by omega)] | rw [if_neg (by omega)]))
 ·by_cases h2:i<off+vs.length
  ·rw [if_pos (by omega),if_neg (by omega),if_pos (by omega),if_neg (by omega)]
   congr 1
   omega
  ·rw [if_neg (by omega),if_neg (by omega)]
   congr 1
   omega
theorem lJ (inv:Inv n0 Bx w B η H)(he:∀ x∈o.op.operands,Rel w B η (ρA x) (ρ x)){T E k:Nat}{a x:Operand}{id off:Nat}{cells l:List AV}(ho:o.op= .store T a x)(ha:ρA a= .oadr id off)(hH:H[id]? =some (.own cells E k))(hx:(ρA x).toL=l)(hnt:iD (ρA x)=true)
  (hl:l.length=P.cellsOf T) (hp:0<P.cellsOf T) (hle:off+l.length≤cells.length) (h1:l.all AV.one=true):OpS P n0 Bx w ρ o B η (.c undef) (H.set id (.own (putL cells off l) E k)):=by
 intro N hN
 have hr:=(he x (by simp [ho,ge])).toL (fun l e=>by rw [e] at hnt;cases hnt)
 rw [hx] at hr
 have h2:=he a (by simp [ho,ge])
 rw [ha] at h2
 generalize hva:ρ a=va at h2
 cases h2 with
 | oadr _ _ _ b oo n c hid=>
  have hent:=inv.ent id _ hH
  rw [List.getD_eq_getElem?_getD,hid,u2] at hent
  obtain ⟨n',us,e1,e2,e3,e4⟩:=hent
  obtain rfl:=e1.len
  rcases e1.2 with ⟨hv0,_⟩ | ⟨g,o',cap,cur,hvv,hb,hg,hnc,hcm,hsz,htk⟩
  ·cases hv0
  injection hvv with q1 q2 q3
  injection q1 with q1
  injection q1 with q1 q4
  subst q1 q3 q4
  have hcur:w.heap[b]? =some (.cells cur.toList.toArray E (0,0)):=hg
  have hul:off+(ρ x).cells.toList.length≤us.length:=by rw [hr.1,e2.1];exact hle
  have hlen:oo+us.length≤cur.toList.length:=by
   have h1:us.length=n*k:=e1.1
   have h2:n*k≤c*k:=uN k hnc
   simp;omega
  have hrun:=c8 (P:=P) (T:=T) (v:=ρ x) (of:=oo+off) hcur (by rw [hr.1];exact hl) hp (by omega) (hr.one h1)
  have hbB:=(e4 b rfl).1
  have hon:On B w (w.setRow b (putL cur.toList (oo+off) (ρ x).cells.toList).toArray):=⟨rfl,rfl,rfl,by simp,fun k _ hk=>.of (setRow_other w b k _ (fun h=>hk (by rw [h];exact hbB)))⟩
  have hnew:(w.setRow b (putL cur.toList (oo+off) (ρ x).cells.toList).toArray).heap[b]? =some (.cells (putL cur.toList (oo+off) (ρ x).cells.toList).toArray E (0,0)):=setRow_heap w b cur _ E (0,0) hg
  have hpl:(putL cur.toList (oo+off) (ρ x).cells.toList).length=cur.toList.length:=by unfold putL;simp at *;omega
  have hpu:(putL us off (ρ x).cells.toList).length=us.length:=by unfold putL;simp at *;omega
  obtain ⟨i1,i2,i3⟩:=inv.write (e':=.own (putL cells off l) E k) (cs:=(putL cur.toList (oo+off) (ρ x).cells.toList).toArray) hH hid rfl rfl rfl
   ⟨n,putL us off (ρ x).cells.toList,⟨by rw [hpu];exact e1.1,.inr ⟨b,oo,c,_,rfl,hb,hnew,hnc,hcm,by
    have:(putL cur.toList (oo+off) (ρ x).cells.toList).toArray.size=cur.size:=by simpa using hpl
    omega,by
    rw [vi,dR _ _ _ _ (by omega)]
    exact oH _ _ _ _ _ htk hul⟩⟩,(e2.putL hr off).on hon (fun _ h=>.inl h) (fun _ _ h=>h),e3,fun g hg=>by simp [u1] at hg;subst hg;exact e4 _ rfl⟩
  exact jI (by simp [execOp,ho,hva,eq,hrun]) (hN undef _ B η i2 (fun _ h=>.inl h) (fun _ _ h=>h) i3 i1 (.c _ _) (fun h=>by cases h))
end
def srcA (H:List Ent)(k:Nat):AV→Option (List AV)
 | .sl l k'=>if k'=k then some l else none
 | .emp=>some []
 | .c (.slice none n c)=>if n=0 then some [] else none
 | .c (.slice (some _) 0 _)=>some []
 | _=>none
def dstA (H:List Ent)(E k:Nat):AV→Option (List AV)
 | .c (.slice none n c)=>if n=0∧c=0 then some [] else none
 | .own id=>match H[id]? with | some (.own cells E' k')=>if E'=E∧k'=k then some cells else none | _=>none
 | _=>none
def bS (H:List Ent):AV→List Ent
 | .own id=>H.set id .dead
 | _=>H
section
variable {P:Program} {w w':World} {B:List Nat} {η:List Value} {H:List Ent} {ρ:Operand→Value} {ρA:Operand→AV} {o:Oper} {C:Con} {n0:Nat} {Bx:List Nat}
theorem Inv.kill (inv:Inv n0 Bx w B η H)(x:AV):Inv n0 Bx w B η (bS H x):=by
 unfold bS
 split
 ·rename_i id
  refine ⟨by simp [inv.len],inv.base,inv.sub,inv.lt,fun i ei hi=> ?_,fun i j ei ej hij hi hj hli hlj=> ?_⟩
  ·rw [List.getElem?_set] at hi
   split at hi
   ·split at hi
    ·injection hi with hi;subst hi;trivial
    ·cases hi
   ·exact inv.ent i ei hi
  ·have key:∀ (i:Nat) (ei:Ent),(H.set id .dead)[i]? =some ei→ei.live=true→H[i]? =some ei:=by
    intro i ei h hl
    rw [List.getElem?_set] at h
    split at h
    ·split at h
     ·injection h with h;subst h;cases hl
     ·cases h
    ·exact h
   exact inv.sep i j ei ej hij (key i ei hi hli) (key j ej hj hlj) hli hlj
 ·exact inv
theorem lm (inv:Inv n0 Bx w B η H){x:AV}{v:Value}{E k:Nat}{cells:List AV}(hx:Rel w B η x v)(hk:1≤k)(h:dstA H E k x=some cells):
  ∃ n us,bw w n0 E k v n us∧RelL w B η cells us∧(∀ b,v.ownBlock=some b→b∈B∧b∉Bx)∧∀ b,v.ownBlock=some b→∃ id e,x= .own id∧H[id]? =some e∧e.live=true∧aO (η.getD id undef)=some b:=by
 unfold dstA at h
 split at h
 ·rename_i n c
  split at h
  ·rename_i hnc
   injection h with h;subst h
   obtain ⟨rfl,rfl⟩:=hnc
   have:=hx.ofC
   subst this
   exact ⟨0,[],bw.nil w n0 E k,RelL.nil _ _ _,(fun b hb=>by cases hb),(fun b hb=>by cases hb)⟩
  ·cases h
 ·rename_i id
  split at h
  ·rename_i cells' E' k' hH
   split at h
   ·rename_i hc
    injection h with h;subst h
    obtain ⟨rfl,rfl⟩:=hc
    cases hx with
    | own _ _ a n c hid=>
     have hent:=inv.ent id _ hH
     have hg:η.getD id undef= .slice a n c:=by simp [List.getD_eq_getElem?_getD,hid]
     rw [hg] at hent
     obtain ⟨n',us,h1,h2,h3,h4⟩:=hent
     exact ⟨n',us,h1,h2,h4,fun b hb=>⟨id,_,rfl,hH,rfl,by
      rw [hg]
      cases a with
      | none=>cases hb
      | some ad=>exact hb⟩⟩
   ·cases h
  ·cases h
 ·cases h
theorem et {x:AV}{v:Value}{k:Nat}{l:List AV}(hx:Rel w B η x v)(hk:1≤k)(h:srcA H k x=some l):∃ A n c us,v= .slice A n c∧n*k=l.length∧(0<n→∃ ad,A=some ad∧At w B ad l.length us)∧∀ i x,l[i]? =some x→Rel w B [] x (us i):=by
 unfold srcA at h
 split at h
 ·split at h
  ·rename_i hkk
   injection h with h;subst h hkk
   obtain ⟨A,n,c,us,hv,_,hn,_,_,hA,hr⟩:=hx.slL
   exact ⟨A,n,c,us,hv,hn,hA,hr⟩
  ·cases h
 ·injection h with h;subst h
  cases hx with
  | emp _ A=>exact ⟨A,0,0,fun _=>undef,rfl,by simp,fun h=>absurd h (by omega),fun i x hx=>by simp at hx⟩
 ·rename_i n c
  split at h
  ·rename_i hn
   injection h with h;subst h hn
   have:=hx.ofC
   exact ⟨none,0,c,fun _=>undef,this,by simp,fun h=>absurd h (by omega),fun i x hx=>by simp at hx⟩
  ·cases h
 ·rename_i A0 c
  injection h with h;subst h
  exact ⟨some A0,0,c,fun _=>undef,hx.ofC,by simp,fun h=>absurd h (by omega),fun i x hx=>by simp at hx⟩
 ·cases h
theorem ew {base t ty e n m c:Nat}{i:TypeInfo}{v:Value}{xs:List Value}{A:Option Addr}(ht:P.underlying t=some (.slice e))(hi:P.info? e=some i)(hown:bw w base e i.size v n xs)(hm:m=0):
  (gt #[t,t] ty #[v,.slice A m c]).run P w= .ok v w:=by
 subst hm
 rcases hown.2 with ⟨rfl,rfl⟩ | ⟨g,oo,cap,cur,rfl,_,_,hnc,_⟩
 ·cases A <;> simp [gt,run_underlying ht,sizeOf,typeInfo,hi,vd,Builtin.firstCells,loadCells,loadCellsFrom]
 ·cases A <;> simp [gt,run_underlying ht,sizeOf,typeInfo,hi,vd,Builtin.firstCells,hnc,storeCells,loadCells,loadCellsFrom]
theorem fP {base t ty E k by_:Nat}{i:TypeInfo}{z:Value}(ht:P.underlying t=some (.slice E))(hi:P.info? E=some i)(hz:i.zero=some z)(hsz:i.size=k)(hby:i.bytes=by_)(hzs:z.cells.size=k)(hk:1≤k)
  {v:Value} {n:Nat} {us:List Value} (hown:bw w base E k v n us) (ad:Addr) (m c:Nat) (news:List Value) (hl:news.length=m*k) (hnews:∀ (j:Nat) u,news[j]? =some u→w.cell? (ad.add j)=some u) (h1:∀ u∈news,u.oneCell'=true)
  (hm:0<m) (h63:n+m≤maxLen) (hbytes:(n+m)*by_≤140737488355328) (hbase:base≤w.heap.size):
  ∃ g o cap w',(gt #[t,t] ty #[v,.slice (some ad) m c]).run P w= .ok (.slice (some ⟨g,o,none⟩) (n+m) cap) w'∧bw w' base E k (.slice (some ⟨g,o,none⟩) (n+m) cap) (n+m) (us++news)∧
   w.grownBy w' v.ownBlock∧(v.ownBlock=some g∨w.heap.size≤g)∧g<w'.heap.size:=by
 have fresh:∀ v' w',(gt #[t,t] ty #[v,.slice (some ad) m c]).run P w= .ok v' w'→w'.ownsRow w.heap.size E k v' (n+m) (us++news)→w.grownBy w' none→∃ g o cap w',(gt #[t,t] ty #[v,.slice (some ad) m c]).run P w= .ok (.slice (some ⟨g,o,none⟩) (n+m) cap) w'∧bw w' base E k (.slice (some ⟨g,o,none⟩) (n+m) cap) (n+m) (us++news)∧w.grownBy w' v.ownBlock∧(v.ownBlock=some g∨w.heap.size≤g)∧g<w'.heap.size:=by
  intro v' w' hr h2 h3
  obtain ⟨g,cap,hv',hbg,hlt⟩:=h2.form (by omega)
  subst hv'
  exact ⟨g,0,cap,w',hr,.row h2 hbase,⟨h3.os,h3.tape,h3.output,h3.size,fun b hb _=>h3.block b hb (by simp)⟩,.inr hbg,hlt⟩
 rcases hown.2 with ⟨hv,hn⟩ | ⟨g,o,cap,cur,hv,hb,hg,hnc,hcm,hsize,htk⟩
 ·subst hv hn
  have hus:us=[]:=uI (by rw [hown.1];simp)
  subst hus
  obtain ⟨v',w',hr,h2,h3,_,h5⟩:=run_append_own_at (P:=P) w base t ty E i z k by_ ht hi hz hsz hby hzs hk _ 0 [] (World.ownsRow_nil _ _ _ _) ad m c news hl hnews h1 h63 hbytes hbase
  obtain ⟨g,cap,hv',hbg,hlt⟩:=h2.form (by omega)
  subst hv'
  exact ⟨g,0,cap,w',hr,.row h2 (uH _),h3,by
   rcases h5 with h5 | h5
   ·cases h5
   ·exact .inr (Nat.le_of_eq (u9.inj h5).symm),hlt⟩
 ·subst hv
  rcases uM cap (n+m) with hgr | hroom
  ·obtain ⟨v',w',hr,h2,h3⟩:=run_append_arg_grows (P:=P) w t ty E i z k by_ ht hi hz hsz hby hzs hk ⟨g,o,none⟩ n cap us hown.1 (fun j u hj=>by rw [u3];exact hown.cells j u hj) ad m c news hl hnews hgr h63 hbytes
   exact fresh v' w' hr h2 h3
  ·have hmul:(n+m)*k≤cap*k:=uN k hroom
   have hnm:(n+m)*k=n*k+m*k:=uV n m k
   have hfit:o+n*k+news.length≤cur.size:=by omega
   have hst:=run_storeCells_at (P:=P) g (o+n*k) E news 0 cur w hg (by omega) h1
   simp only [Nat.add_zero] at hst
   have hfc:=run_firstCells_some (P:=P) w k m ad m c news hl hnews
   have hput:cur.toList.take (o+n*k)++news++cur.toList.drop (o+n*k+news.length)=putL cur.toList (o+n*k) news:=rfl
   rw [hput] at hst
   have hpl:(putL cur.toList (o+n*k) news).length=cur.toList.length:=by unfold putL;simp;omega
   have hglt:g<w.heap.size:=(Array.getElem?_eq_some_iff.1 hg).1
   refine ⟨g,o,cap,w.setRow g (putL cur.toList (o+n*k) news).toArray, ?_,⟨by simp [hown.1,hl,hnm],.inr ⟨g,o,cap,_,rfl,hb,setRow_heap w g cur _ E (0,0) hg,hroom,hcm, ?_, ?_⟩⟩,⟨rfl,rfl,rfl,by simp,fun b hb' hne=>setRow_other w g b _ (fun h=>hne (by rw [h];rfl))⟩,.inl rfl,by simpa using hglt⟩
   ·simp [gt,run_underlying ht,sizeOf,typeInfo,hi,hsz,vd,hroom,hfc,Addr.add_lit,hst]
   ·have:(putL cur.toList (o+n*k) news).toArray.size=cur.size:=by simpa using hpl
    omega
   ·rw [vi,dR _ _ _ _ (by simpa using hfit)]
    unfold putL
    rw [htk,uW,vl,hown.1]
    have hu:us.take ((n+m)*k)=us:=uT (by rw [hown.1];omega)
    rw [hu,show (n+m)*k-n*k=news.length by omega,vc]
theorem jC (inv:Inv n0 Bx w B η H){s x:Operand}{t E k by_:Nat}{i:TypeInfo}{z:Value}{cells l:List AV}(ho:o.op= .call ⟨.builtin .append, #[s,x], #[t,t]⟩)(hse:Rel w B η (ρA s) (ρ s))
  (hsrc:∃ (A:Option Addr) (m c:Nat) (vs:Nat→Value),ρ x= .slice A m c∧m*k=l.length∧(0<m→∃ ad,A=some ad∧∀ i,i<l.length→w.cell? (ad.add i)=some (vs i))∧∀ i y,l[i]? =some y→Rel w B [] y (vs i))
  (ht:P.underlying t=some (.slice E)) (hi:P.info? E=some i) (hz:i.zero=some z) (hsz:i.size=k) (hby:i.bytes=by_) (hzs:z.cells.size=k) (hk:1≤k)
  (hd:dstA H E k (ρA s)=some cells) (h1:l.all AV.one=true) (hm:(cells.length+l.length) / k≤maxLen) (hb:(cells.length+l.length) / k*by_≤140737488355328):
  OpS P n0 Bx w ρ o B η (.own H.length) (bS H (ρA s)++[.own (cells++l) E k]):=by
 intro N hN
 obtain ⟨n,us,hown,hrel,hbl,hex⟩:=lm inv hse hk hd
 obtain ⟨A,m,c,vs,hv,hn,hA,hr⟩:=hsrc
 have hlc:cells.length=n*k:=by rw [←hrel.1];exact hown.1
 have ik:=inv.kill (ρA s)
 have klen:(bS H (ρA s)).length=H.length:=by unfold bS;split <;> simp
 have hold:∀ (id:Nat) (e:Ent),(bS H (ρA s))[id]? =some e→e.live=true→H[id]? =some e∧∀ b,(ρ s).ownBlock=some b→aO (η.getD id undef)≠some b:=by
  intro id e h hl
  have hH:H[id]? =some e∧(ρA s)≠.own id:=by
   unfold bS at h
   split at h
   ·rename_i id' hid'
    rw [List.getElem?_set] at h
    split at h
    ·split at h
     ·injection h with h;subst h;cases hl
     ·cases h
    ·rename_i hne;exact ⟨h,fun hh=>hne (by rw [hid'] at hh;injection hh)⟩
   ·rename_i hnot
    exact ⟨h,fun hh=>hnot id hh⟩
  refine ⟨hH.1,fun b hb hc=> ?_⟩
  obtain ⟨id2,e2,h2,h3,h4,h5⟩:=hex b hb
  exact inv.sep id2 id e2 e (fun hh=>hH.2 (by rw [h2,hh])) h3 hH.1 h4 hl b h5 hc
 rcases vf m with hm0 | hmp
 ·have hl0:l=[]:=uI (by rw [←hn,hm0];simp)
  subst hl0
  have hrun0:=ew (P:=P) (w:=w) (ty:=o.type) (A:=A) (c:=c) ht hi (by rw [hsz];exact hown) hm0
  have hinv:Inv n0 Bx w B (η++[ρ s]) (bS H (ρA s)++[.own (cells++[]) E k]):=by
   refine ⟨by simp [klen,inv.len],inv.base,inv.sub,inv.lt,fun id e h=> ?_,fun i j ei ej hij hi' hj hli hlj b hb'=> ?_⟩
   ·rcases uM id H.length with hid | hid
    ·rw [List.getElem?_append_left (by rw [klen];exact hid)] at h
     rw [ai (by rw [inv.len];exact hid)]
     exact aF.on (ik.ent id e h) (Gr.refl w) (aq η _)
    ·rw [List.getElem?_append_right (by rw [klen];exact hid)] at h
     have:id=H.length:=by have:=(List.getElem?_eq_some_iff.1 h).1;rw [klen] at this;simp at this;omega
     subst this
     simp [klen] at h;subst h
     rw [←inv.len,ak]
     exact ⟨n,us,hown,by simpa using hrel.on (On.refl _ _) (fun _ h=>.inl h) (aq η _),hk,hbl⟩
   ·have key:∀ (i:Nat) (ei:Ent),(bS H (ρA s)++[Ent.own (cells++[]) E k])[i]? =some ei→(i<H.length∧(bS H (ρA s))[i]? =some ei∧(η++[ρ s]).getD i undef=η.getD i undef)∨(i=H.length∧(η++[ρ s]).getD i undef=ρ s):=by
     intro i ei h
     rcases uM i H.length with hid | hid
     ·exact .inl ⟨hid,by rwa [List.getElem?_append_left (by rw [klen];exact hid)] at h,ai (by rw [inv.len];exact hid)⟩
     ·have:i=H.length:=by
       rw [List.getElem?_append_right (by rw [klen];exact hid)] at h
       have:=(List.getElem?_eq_some_iff.1 h).1;rw [klen] at this;simp at this;omega
      subst this
      exact .inr ⟨rfl,by rw [←inv.len,ak]⟩
    have hos:∀ b,aO (ρ s)=some b→(ρ s).ownBlock=some b:=by
     intro b hb
     rcases hown.2 with ⟨hv0,_⟩ | ⟨g,oo,cap,cur,hv0,_⟩ <;> rw [hv0] at hb ⊢ <;> exact hb
    rcases key i ei hi' with ⟨h1,h2,h3⟩ | ⟨h1,h3⟩ <;> rcases key j ej hj with ⟨k1,k2,k3⟩ | ⟨k1,k3⟩
    ·rw [h3] at hb';rw [k3];exact ik.sep i j ei ej hij h2 k2 hli hlj b hb'
    ·rw [h3] at hb';rw [k3]
     exact fun hcc=>(hold i ei h2 hli).2 b (hos b hcc) hb'
    ·rw [h3] at hb';rw [k3]
     exact (hold j ej k2 hlj).2 b (hos b hb')
    ·omega
  have hform:∃ a nn cc,ρ s= .slice a nn cc:=by
   rcases hown.2 with ⟨hv0,_⟩ | ⟨g,oo,cap,cur,hv0,_⟩ <;> rw [hv0] <;> exact ⟨_,_,_,rfl⟩
  obtain ⟨a0,nn,cc,hf⟩:=hform
  unfold Oper.val
  have hrun':(execOp ρ o).run P w= .ok (.value (ρ s)) w:=by
   simp only [execOp,ho,resolve,invoke,builtin,eq,uS,ne,u4,u5,vh,hv,hrun0]
  rw [hrun']
  exact hN _ _ _ _ (On.refl _ _) (fun _ h=>.inl h) (aq η _) (Bel.refl _ _ _) hinv (by rw [hf];exact .own _ _ _ _ _ (by rw [←inv.len,List.getElem?_append_right (uH _)];simp)) (fun h=>by cases h)
 obtain ⟨ad,hA1,hat⟩:=hA hmp
 subst hA1
 have hnews:RelL w B η l ((uP l.length).map vs):=⟨by simp,fun i y hy=>by
  have hlt:i<l.length:=(List.getElem?_eq_some_iff.1 hy).1
  exact ⟨vs i,by simp [hlt],(hr i y hy).any⟩⟩
 have hdiv:(cells.length+l.length) / k=n+m:=by rw [hlc,←hn,←uV];exact uY _ hk
 rw [hdiv] at hm hb
 obtain ⟨g,og,cap,w',hrun,hown',hgrow,hg,hglt⟩:=fP (P:=P) (ty:=o.type) ht hi hz hsz hby hzs hk hown ad m c ((uP l.length).map vs)
  (by simp [hn]) (fun j u hj=>by
   have hlt:j<l.length:=by have:=(List.getElem?_eq_some_iff.1 hj).1;simpa using this
   rw [hat j hlt]
   simp [hlt] at hj
   rw [hj]) (hnews.one h1) hmp hm hb inv.base.1
 have hng:n0≤g:=by
  rcases hown'.2 with ⟨hv0,_⟩ | ⟨g',o',cap',cur,hv0,hb',_⟩
  ·cases hv0
  ·injection hv0 with q1
   injection q1 with q1
   injection q1 with q1
   omega
 have hgB:g∈B∨w.heap.size≤g:=hg.elim (fun h=>.inl (hbl g h).1) (fun h=>.inr h)
 have hon:On B w w':=⟨hgrow.os,hgrow.tape,hgrow.output,hgrow.size,fun b hb hn=>.of (hgrow.block b hb (fun h=>hn (hbl b h.symm).1))⟩
 have hB:∀ b∈g::B,b∈B∨w.heap.size≤b:=fun b hb=>by rcases uU.1 hb with rfl | h;exact hgB;exact .inl h
 have hbelow:Bel n0 Bx w w':=⟨⟨hgrow.os,hgrow.tape,hgrow.output,hgrow.size,fun b hb=>hgrow.block b (by have:=inv.base.1;omega) (fun h=>by
  have hlt:n0≤b:=by
   rcases hown.2 with ⟨hv0,_⟩ | ⟨g',oo,cap',cur,hv0,hb',_⟩
   ·rw [hv0] at h;cases h
   ·rw [hv0] at h;simp [u1] at h;omega
  omega)⟩,fun b hb hl=>hgrow.block b hl (fun h=>(hbl b h.symm).2 hb)⟩
 have hkeep:∀ (id:Nat) (e:Ent),(bS H (ρA s))[id]? =some e→e.live=true→∀ b,aO (η.getD id undef)=some b→w'.heap[b]? =w.heap[b]? ∧b≠g:=by
  intro id e h hl b hb
  obtain ⟨h1,h2⟩:=hold id e h hl
  have hlt:=(aF.lt (inv.ent id e h1) hl b hb).1
  refine ⟨hgrow.block b hlt (fun hh=>h2 b hh.symm hb),fun hh=> ?_⟩
  subst hh
  rcases hg with h3 | h3
  ·exact h2 b h3 hb
  ·omega
 have hinv:Inv n0 Bx w' (g::B) (η++[.slice (some ⟨g,og,none⟩) (n+m) cap]) (bS H (ρA s)++[.own (cells++l) E k]):=by
  refine ⟨by simp [klen,inv.len],⟨vb inv.base.1 hgrow.size,inv.base.2.on hon hB⟩,fun b hb=>uX _ (inv.sub b hb),fun b hb=> ?_,fun id e h=> ?_,fun i j ei ej hij hi' hj hli hlj b hb'=> ?_⟩
  ·rcases uU.1 hb with rfl | h
   ·exact hglt
   ·exact uJ (inv.lt b h) hgrow.size
  ·rcases uM id H.length with hid | hid
   ·rw [List.getElem?_append_left (by rw [klen];exact hid)] at h
    rw [ai (by rw [inv.len];exact hid)]
    exact aF.keep (ik.ent id e h) hon hB (fun _ h=>uX _ h) (aq η _) (fun hl b hb=>(hkeep id e h hl b hb).1)
   ·rw [List.getElem?_append_right (by rw [klen];exact hid)] at h
    have:id=H.length:=by have:=(List.getElem?_eq_some_iff.1 h).1;rw [klen] at this;simp at this;omega
    subst this
    simp [klen] at h;subst h
    rw [←inv.len,ak]
    refine ⟨n+m,_,hown',(hrel.append hnews).on hon hB (aq η _),hk,fun b hb=> ?_⟩
    simp [u1] at hb
    subst hb
    refine ⟨uR,fun hbx=> ?_⟩
    rcases hg with h | h
    ·exact (hbl _ h).2 hbx
    ·have:=inv.lt _ (inv.sub _ hbx)
     omega
  ·have key:∀ (i:Nat) (ei:Ent),(bS H (ρA s)++[Ent.own (cells++l) E k])[i]? =some ei→(i<H.length∧(bS H (ρA s))[i]? =some ei∧(η++[vn (some ⟨g,og,none⟩) (n+m) cap]).getD i undef=η.getD i undef)∨(i=H.length∧(η++[vn (some ⟨g,og,none⟩) (n+m) cap]).getD i undef=vn (some ⟨g,og,none⟩) (n+m) cap):=by
    intro i ei h
    rcases uM i H.length with hid | hid
    ·exact .inl ⟨hid,by rwa [List.getElem?_append_left (by rw [klen];exact hid)] at h,ai (by rw [inv.len];exact hid)⟩
    ·have:i=H.length:=by
      rw [List.getElem?_append_right (by rw [klen];exact hid)] at h
      have:=(List.getElem?_eq_some_iff.1 h).1;rw [klen] at this;simp at this;omega
     subst this
     exact .inr ⟨rfl,by rw [←inv.len,ak]⟩
   rcases key i ei hi' with ⟨h1,h2,h3⟩ | ⟨h1,h3⟩ <;> rcases key j ej hj with ⟨k1,k2,k3⟩ | ⟨k1,k3⟩
   ·rw [h3] at hb';rw [k3];exact ik.sep i j ei ej hij h2 k2 hli hlj b hb'
   ·rw [h3] at hb';rw [k3]
    intro hcc
    have:=(hkeep i ei h2 hli b hb').2
    simp [aO] at hcc
    omega
   ·rw [h3] at hb'
    simp [aO] at hb'
    subst hb'
    rw [k3]
    intro hcc
    exact (hkeep j ej k2 hlj _ hcc).2 rfl
   ·omega
 unfold Oper.val
 have hrun':(execOp ρ o).run P w= .ok (.value (.slice (some ⟨g,og,none⟩) (n+m) cap)) w':=by
  simp only [execOp,ho,resolve,invoke,builtin,eq,uS,ne,u4,u5,vh,hv,hrun]
 rw [hrun']
 exact hN _ _ _ _ hon hB (aq η _) hbelow hinv (.own _ _ _ _ _ (by rw [←inv.len,List.getElem?_append_right (uH _)];simp)) (fun h=>by cases h)
theorem lB (inv:Inv n0 Bx w B η H)(he:∀ x∈o.op.operands,Rel w B η (ρA x) (ρ x)){s x:Operand}{t E k by_:Nat}{i:TypeInfo}{z:Value}{cells l:List AV}(ho:o.op= .call ⟨.builtin .append, #[s,x], #[t,t]⟩)
  (ht:P.underlying t=some (.slice E)) (hi:P.info? E=some i) (hz:i.zero=some z) (hsz:i.size=k) (hby:i.bytes=by_) (hzs:z.cells.size=k) (hk:1≤k)
  (hd:dstA H E k (ρA s)=some cells) (hs:srcA H k (ρA x)=some l) (h1:l.all AV.one=true) (hm:(cells.length+l.length) / k≤maxLen) (hb:(cells.length+l.length) / k*by_≤140737488355328):
  OpS P n0 Bx w ρ o B η (.own H.length) (bS H (ρA s)++[.own (cells++l) E k]):=by
 obtain ⟨A,m,c,vs,hv,hn,hA,hr⟩:=et (he x (by simp [ho,ge,u6])) hk hs
 exact jC inv ho (he s (by simp [ho,ge,u6])) ⟨A,m,c,vs,hv,hn,fun h0=>(hA h0).elim fun ad h=>⟨ad,h.1,h.2.cell⟩,hr⟩ ht hi hz hsz hby hzs hk hd h1 hm hb
theorem oB (inv:Inv n0 Bx w B η H)(he:∀ x∈o.op.operands,Rel w B η (ρA x) (ρ x)){s x:Operand}{t E k by_:Nat}{i:TypeInfo}{z:Value}{l:List AV}(ho:o.op= .call ⟨.builtin .append, #[s,x], #[t,t]⟩)
  (ht:P.underlying t=some (.slice E)) (hi:P.info? E=some i) (hz:i.zero=some z) (hsz:i.size=k) (hby:i.bytes=by_) (hzs:z.cells.size=k) (hk:1≤k)
  (hd:ρA s= .emp) (hs:srcA H k (ρA x)=some l) (h1:l.all AV.one=true) (h2:l.all AV.imm0=true) (hm:l.length / k≤maxLen) (hb:l.length / k*by_≤140737488355328):
  OpOK P n0 w ρ o B η (.sl l k):=by
 have h0:=he s (by simp [ho,ge,u6])
 rw [hd] at h0
 obtain ⟨A,m,c,vs,hv,hn,hA,hr⟩:=et (he x (by simp [ho,ge,u6])) hk hs
 have hdiv:l.length / k=m:=by rw [←hn];exact uY _ hk
 rw [hdiv] at hm hb
 generalize hvs:ρ s=v0 at h0
 cases h0 with
 | emp _ A0=>
  rcases vf m with hm0 | hmp
  ·have hl0:l=[]:=uI (by rw [←hn,hm0];simp)
   subst hl0
   subst hm0
   refine .of_run (v:=.slice A0 0 0) ?_ (.sl _ _ _ _ _ _ (fun _=>undef) hk (by simp) (uH _) (Nat.zero_le _) (fun h=>absurd h (by omega)) (fun i x hx=>by simp at hx))
   have hrun0:(gt #[t,t] o.type #[.slice A0 0 0,.slice A 0 c]).run P w= .ok (.slice A0 0 0) w:=by
    cases A <;> cases A0 <;> simp [gt,run_underlying ht,sizeOf,typeInfo,hi,vd,Builtin.firstCells,storeCells,loadCells,loadCellsFrom]
   simp only [execOp,ho,resolve,invoke,builtin,eq,uS,ne,u4,u5,vh,hv,hvs,hrun0]
  ·obtain ⟨ad,hA1,hat⟩:=hA hmp
   subst hA1
   have hnews:RelL w B [] l ((uP l.length).map vs):=⟨by simp,fun i y hy=>by
    have hlt:i<l.length:=(List.getElem?_eq_some_iff.1 hy).1
    exact ⟨vs i,by simp [hlt],hr i y hy⟩⟩
   have hcells:∀ j u,((uP l.length).map vs)[j]? =some u→w.cell? (ad.add j)=some u:=fun j u hj=>by
    have hlt:j<l.length:=by have:=(List.getElem?_eq_some_iff.1 hj).1;simpa using this
    rw [hat.cell j hlt]
    simp [hlt] at hj
    rw [hj]
   have key:∃ v' w',(gt #[t,t] o.type #[.slice A0 0 0,.slice (some ad) m c]).run P w= .ok v' w'∧w'.ownsRow w.heap.size E k v' m ((uP l.length).map vs)∧w.grownBy w' none:=by
    cases A0 with
    | none=>
     obtain ⟨v',w',q1,q2,q3,q4,q5⟩:=run_append_own_at (P:=P) w w.heap.size t o.type E i z k by_ ht hi hz hsz hby hzs hk (.slice none 0 0) 0 [] (World.ownsRow_nil _ _ _ _) ad m c ((uP l.length).map vs) (by simp [hn]) hcells (hnews.one h1) (by simpa using hm) (by simpa using hb) (uH _)
     exact ⟨v',w',q1,by simpa using q2,q3⟩
    | some a0=>
     obtain ⟨v',w',q1,q2,q3⟩:=run_append_arg_grows (P:=P) w t o.type E i z k by_ ht hi hz hsz hby hzs hk a0 0 0 [] (by simp) (fun j u h=>by simp at h) ad m c ((uP l.length).map vs) (by simp [hn]) hcells (by omega) (by simpa using hm) (by simpa using hb)
     exact ⟨v',w',q1,by simpa using q2,q3⟩
   obtain ⟨v',w',q1,q2,q3⟩:=key
   have g:Gr w w':=⟨q3.os,q3.tape,q3.output,q3.size,fun b hb=>q3.block b hb (by simp)⟩
   intro N hN
   unfold Oper.val
   have hrun':(execOp ρ o).run P w= .ok (.value v') w':=by
    simp only [execOp,ho,resolve,invoke,builtin,eq,uS,ne,u4,u5,vh,hv,hvs,q1]
   rw [hrun']
   rcases q2.2 with ⟨hv0,hm0⟩ | ⟨gg,cap,cur,hv0,hbase,hg,hnc,hcm,hsz',htk⟩
   ·omega
   ·subst hv0
    refine hN _ _ (.gr g) (.sl _ _ _ _ _ _ vs hk hn hnc hcm (fun _=>⟨_,rfl,rfl,(Array.getElem?_eq_some_iff.1 hg).1,fun hb=> ?_,fun j hj=> ?_⟩) (fun j x hx=>(hr j x hx).gr g))
    ·have:=inv.lt _ hb;simp at this;omega
    ·exact q2.cells (g:=gg) rfl j _ (by simp [hj])
end
section
variable {P:Program} {w w':World} {B:List Nat} {η:List Value} {H:List Ent} {ρ:Operand→Value} {ρA:Operand→AV} {o:Oper} {C:Con} {n0:Nat} {Bx:List Nat}
theorem Inv.move (inv:Inv n0 Bx w B η H){id:Nat}{e e':Ent}{v v':Value}(hH:H[id]? =some e)(hl:e.live=true)(hv:η[id]? =some v)(he:aF n0 Bx w B (η++[v']) v' e')(hb:∀ b,aO v'=some b→aO v=some b):Inv n0 Bx w B (η++[v']) (H.set id .dead++[e']):=by
 have ik:=inv.kill (.own id)
 have hk:bS H (.own id)=H.set id .dead:=rfl
 rw [hk] at ik
 have klen:(H.set id Ent.dead).length=H.length:=by simp
 have hg:η.getD id undef=v:=by simp [List.getD_eq_getElem?_getD,hv]
 have hold:∀ (j:Nat) (ej:Ent),(H.set id Ent.dead)[j]? =some ej→ej.live=true→H[j]? =some ej∧j≠id:=by
  intro j ej h hlj
  rw [List.getElem?_set] at h
  split at h
  ·split at h
   ·injection h with h;subst h;cases hlj
   ·cases h
  ·rename_i hne;exact ⟨h,fun hh=>hne hh.symm⟩
 refine ⟨by simp [inv.len],inv.base,inv.sub,inv.lt,fun j ej h=> ?_,fun i j ei ej hij hi' hj hli hlj b hb'=> ?_⟩
 ·rcases uM j H.length with hid | hid
  ·rw [List.getElem?_append_left (by rw [klen];exact hid)] at h
   rw [ai (by rw [inv.len];exact hid)]
   exact aF.on (ik.ent j ej h) (Gr.refl w) (aq η _)
  ·rw [List.getElem?_append_right (by rw [klen];exact hid)] at h
   have:j=H.length:=by have:=(List.getElem?_eq_some_iff.1 h).1;rw [klen] at this;simp at this;omega
   subst this
   simp [klen] at h;subst h
   rw [←inv.len,ak]
   exact he
 ·have key:∀ (i:Nat) (ei:Ent),(H.set id Ent.dead++[e'])[i]? =some ei→(i<H.length∧(H.set id Ent.dead)[i]? =some ei∧(η++[v']).getD i undef=η.getD i undef)∨(i=H.length∧(η++[v']).getD i undef=v'):=by
   intro i ei h
   rcases uM i H.length with hid | hid
   ·exact .inl ⟨hid,by rwa [List.getElem?_append_left (by rw [klen];exact hid)] at h,ai (by rw [inv.len];exact hid)⟩
   ·have:i=H.length:=by
     rw [List.getElem?_append_right (by rw [klen];exact hid)] at h
     have:=(List.getElem?_eq_some_iff.1 h).1;rw [klen] at this;simp at this;omega
    subst this
    exact .inr ⟨rfl,by rw [←inv.len,ak]⟩
  rcases key i ei hi' with ⟨h1,h2,h3⟩ | ⟨h1,h3⟩ <;> rcases key j ej hj with ⟨k1,k2,k3⟩ | ⟨k1,k3⟩
  ·rw [h3] at hb';rw [k3];exact ik.sep i j ei ej hij h2 k2 hli hlj b hb'
  ·rw [h3] at hb';rw [k3]
   intro hcc
   obtain ⟨q1,q2⟩:=hold i ei h2 hli
   exact inv.sep i id ei e q2 q1 hH hli hl b hb' (by rw [hg];exact hb b hcc)
  ·rw [h3] at hb';rw [k3]
   obtain ⟨q1,q2⟩:=hold j ej k2 hlj
   exact inv.sep id j e ej (fun h=>q2 h.symm) hH q1 hl hlj b (by rw [hg];exact hb b hb')
  ·omega
theorem jk {α:Type}(D us:List α)(N x y:Nat)(h:D.take N=us)(hxy:x+y≤us.length):(D.drop x).take y=(us.drop x).take y:=by
 subst h
 apply vm
 intro i
 simp only [List.getElem?_take,List.getElem?_drop]
 simp only [ve] at hxy
 by_cases hi:i<y
 ·simp only [hi,if_true]
  rw [if_pos (by omega)]
 ·simp only [hi,if_false]
theorem lL (inv:Inv n0 Bx w B η H)(he:∀ x∈o.op.operands,Rel w B η (ρA x) (ρ x)){t e E:TypeId}{x:Operand}{lo hi:Option Operand}{id k a b:Nat}{cells:List AV}(ho:o.op= .slice t x lo hi none)(hu:P.underlying t=some (.slice e))(hx:ρA x= .own id)
  (hH:H[id]? =some (.own cells E k)) (hk:k=P.cellsOf e) (hk1:1≤k) (hlo:aX ρA 0 lo=some a) (hhi:aX ρA (cells.length / k) hi=some b) (hab:a≤b) (hb:b*k≤cells.length):
  OpS P n0 Bx w ρ o B η (.own H.length) (H.set id .dead++[.own ((cells.drop (a*k)).take ((b-a)*k)) E k]):=by
 have hel:∀ y,lo=some y→Rel w B η (ρA y) (ρ y):=fun y h=>he y (by simp [ho,ge,h])
 have heh:∀ y,hi=some y→Rel w B η (ρA y) (ρ y):=fun y h=>he y (by simp [ho,ge,h])
 have h1:=he x (by simp [ho,ge])
 rw [hx] at h1
 generalize hv:ρ x=v at h1
 cases h1 with
 | own _ _ A n c hid=>
 have hent:=inv.ent id _ hH
 rw [List.getD_eq_getElem?_getD,hid,u2] at hent
 obtain ⟨n',us,hown,hrel,_,hbl⟩:=hent
 obtain rfl:=hown.len
 have hlen:cells.length=n*k:=by rw [←hrel.1];exact hown.1
 have hdiv:cells.length / k=n:=by rw [hlen];exact uY _ hk1
 rw [hdiv] at hhi
 have hbn:b≤n:=Nat.le_of_mul_le_mul_right (by rw [←hlen];exact hb) hk1
 obtain ⟨ii,hii,hs⟩:=aT (t:=e) (P:=P) (by omega)
 have hnc:n≤c:=by
  rcases hown.2 with ⟨hvv,hn0⟩ | ⟨g,oo,cap,cur,hvv,hb',hg,hnc,hcm,hsz,htk⟩
  ·omega
  ·injection hvv with q1 q2 q3;omega
 have hrun:(execOp ρ o).run P w= .ok (.value (.slice (if c=a then A else A.map (·.add (a*k))) (b-a) (c-a))) w:=by
  have hbounds:(uL true n c (lo.map ρ) (hi.map ρ) none).run P w= .ok (a,b,c) w:=by
   have hb':∀ z:Int,b=z.toNat→0≤z→z≤(c:Int):=by omega
   have ha':∀ z:Int,a=z.toNat→0≤z→z≤(b:Int):=by omega
   rcases a7 hel hlo with ⟨rfl,rfl⟩ | ⟨y,kk,z,rfl,hy,hz,hza⟩
   ·rcases a7 heh hhi with ⟨rfl,rfl⟩ | ⟨y2,kk2,z2,rfl,hy2,hz2,hzb⟩
    ·simp [uL,eq]
    ·subst hzb
     simp [uL,eq,hy2,ap (P:=P) ⟨hz2,hb' _ rfl hz2⟩]
   ·subst hza
    rcases a7 heh hhi with ⟨rfl,rfl⟩ | ⟨y2,kk2,z2,rfl,hy2,hz2,hzb⟩
    ·simp [uL,eq,hy,ap (P:=P) ⟨hz,ha' _ rfl hz⟩]
    ·subst hzb
     simp [uL,eq,hy,hy2,ap (P:=P) ⟨hz2,hb' _ rfl hz2⟩,ap (P:=P) ⟨hz,ha' _ rfl hz⟩]
  simp [execOp,ho,Instr.sliceAt,Instr.slice,eq,run_underlying hu,hv,hbounds,aR hii,hs,hk]
 have hpart:((us.drop (a*k)).take ((b-a)*k)).length=(b-a)*k:=by
  rw [ve,vj,hown.1,←Nat.sub_mul]
  exact Nat.min_eq_left (uN k (by omega))
 have hrel2:RelL w B (η++[.slice (if c=a then A else A.map (·.add (a*k))) (b-a) (c-a)]) ((cells.drop (a*k)).take ((b-a)*k)) ((us.drop (a*k)).take ((b-a)*k)):=((hrel.drop _).take _).on (On.refl _ _) (fun _ h=>.inl h) (aq η _)
 have hfit:a*k+(b-a)*k≤us.length:=by
  rw [hown.1,←uV];exact uN k (by omega)
 have hent':aF n0 Bx w B (η++[.slice (if c=a then A else A.map (·.add (a*k))) (b-a) (c-a)]) (.slice (if c=a then A else A.map (·.add (a*k))) (b-a) (c-a)) (.own ((cells.drop (a*k)).take ((b-a)*k)) E k):=by
  refine ⟨b-a,_,⟨hpart, ?_⟩,hrel2,hk1,fun g hg=>hbl g ?_⟩
  ·rcases hown.2 with ⟨hvv,hn0⟩ | ⟨g,oo,cap,cur,hvv,hb',hg,hnc',hcm,hsz,htk⟩
   ·injection hvv with q1 q2 q3
    subst q1 q3
    left
    have:a=0:=by omega
    subst this
    exact ⟨by simp;omega,by omega⟩
   ·injection hvv with q1 q2 q3
    subst q1 q3
    right
    by_cases hca:c=a
    ·rw [if_pos hca]
     refine ⟨g,oo,c-a,cur,rfl,hb',hg,by omega,by omega, ?_, ?_⟩
     ·have:(c-a)*k=0:=by rw [hca];simp
      have:c*k≥0:=Nat.zero_le _
      omega
     ·have:(b-a)*k=0:=by rw [show b-a=0 by omega];simp
      rw [this];simp
    ·rw [if_neg hca]
     refine ⟨g,oo+a*k,c-a,cur,by simp [u3],hb',hg,by omega,by omega, ?_, ?_⟩
     ·have:a*k+(c-a)*k=c*k:=by rw [←uV];congr 1;omega
      omega
     ·rw [←List.drop_drop]
      exact jk _ _ _ _ _ htk hfit
  ·cases A with
   | none=>simp [u1] at hg
   | some ad=>
    split at hg <;> simpa [u1,bf] using hg
 have hinv:=inv.move (v':=.slice (if c=a then A else A.map (·.add (a*k))) (b-a) (c-a)) hH rfl hid hent' (fun g hg=>by
  cases A with
  | none=>simp [aO] at hg
  | some ad=>split at hg <;> simpa [aO,bf] using hg)
 intro N hN
 unfold Oper.val
 rw [hrun]
 exact hN _ _ B _ (On.refl _ _) (fun _ h=>.inl h) (aq η _) (Bel.refl _ _ _) hinv (.own _ _ _ _ _ (by rw [←inv.len,List.getElem?_append_right (uH _)];simp)) (fun h=>by cases h)
theorem oA (inv:Inv n0 Bx w B η H)(he:∀ x∈o.op.operands,Rel w B η (ρA x) (ρ x)){ρR:Operand→AV}(hR:∀ x∈o.op.operands,Rel w B η (ρR x) (ρ x)∧au n0 (ρR x) (ρ x)){s x:Operand}{t E k by_:Nat}{i:TypeInfo}{z:Value}{l0 l:List AV}(ho:o.op= .call ⟨.builtin .append, #[s,x], #[t,t]⟩)
  (ht:P.underlying t=some (.slice E)) (hi:P.info? E=some i) (hz:i.zero=some z) (hsz:i.size=k) (hby:i.bytes=by_) (hzs:z.cells.size=k) (hk:1≤k)
  (hd:ρR s= .fresh l0 k) (hs:srcA H k (ρA x)=some l) (hl:l≠[]) (h1:l.all AV.one=true) (hm:(l0.length+l.length) / k≤maxLen) (hb:(l0.length+l.length) / k*by_≤140737488355328):
  OpS P n0 Bx w ρ o B η (.own H.length) (H++[.own (l0++l) E k]):=by
 intro N hN
 have h0:=(hR s (by simp [ho,ge,u6])).1
 rw [hd] at h0
 obtain ⟨A0,n,us0,hvs,_,hn0,hA0n,hmx,hA0,hr0⟩:=h0.freshL
 obtain ⟨A,m,c,vs,hv,hn,hA,hr⟩:=et (he x (by simp [ho,ge,u6])) hk hs
 have hlp:0<l.length:=List.length_pos_iff.2 hl
 have hmp:0<m:=Nat.pos_of_ne_zero fun h=>by subst h;omega
 obtain ⟨ad,hA1,hat⟩:=hA hmp
 subst hA1
 have hdiv:(l0.length+l.length) / k=n+m:=by rw [←hn0,←hn,←uV];exact uY _ hk
 rw [hdiv] at hm hb
 have hnews:RelL w B η l ((uP l.length).map vs):=⟨by simp,fun i y hy=>by
  have hlt:i<l.length:=(List.getElem?_eq_some_iff.1 hy).1
  exact ⟨vs i,by simp [hlt],(hr i y hy).any⟩⟩
 have holds:RelL w B η l0 ((uP l0.length).map us0):=⟨by simp,fun i y hy=>by
  have hlt:i<l0.length:=(List.getElem?_eq_some_iff.1 hy).1
  exact ⟨us0 i,by simp [hlt],(hr0 i y hy).any⟩⟩
 have hcells:∀ (j:Nat) u,((uP l.length).map vs)[j]? =some u→w.cell? (ad.add j)=some u:=fun j u hj=>by
  have hlt:j<l.length:=by have:=(List.getElem?_eq_some_iff.1 hj).1;simpa using this
  rw [hat.cell j hlt]
  simp [hlt] at hj
  rw [hj]
 have key:∃ v' w',(gt #[t,t] o.type #[.slice A0 n n,.slice (some ad) m c]).run P w= .ok v' w'∧w'.ownsRow w.heap.size E k v' (n+m) ((uP l0.length).map us0++(uP l.length).map vs)∧w.grownBy w' none:=by
  cases A0 with
  | none=>
   have hz0:=hA0n rfl
   subst hz0
   have:l0=[]:=uI (by rw [←hn0];simp)
   subst this
   obtain ⟨v',w',q1,q2,q3,q4,q5⟩:=run_append_own_at (P:=P) w w.heap.size t o.type E i z k by_ ht hi hz hsz hby hzs hk (.slice none 0 0) 0 [] (World.ownsRow_nil _ _ _ _) ad m c ((uP l.length).map vs) (by simp [hn]) hcells (hnews.one h1) hm hb (uH _)
   exact ⟨v',w',q1,by simpa using q2,q3⟩
  | some a0=>
   exact run_append_arg_grows (P:=P) w t o.type E i z k by_ ht hi hz hsz hby hzs hk a0 n n ((uP l0.length).map us0) (by simp [hn0]) (fun j u hj=>by
    have hlt:j<l0.length:=by have:=(List.getElem?_eq_some_iff.1 hj).1;simpa using this
    have hnp:0<n:=Nat.pos_of_ne_zero fun h=>by subst h;omega
    obtain ⟨a1,q1,q2⟩:=hA0 hnp
    injection q1 with q1
    subst q1
    rw [q2.cell j hlt]
    simp [hlt] at hj
    rw [hj]) ad m c ((uP l.length).map vs) (by simp [hn]) hcells (by omega) hm hb
 obtain ⟨v',w',q1,q2,q3⟩:=key
 have g:Gr w w':=⟨q3.os,q3.tape,q3.output,q3.size,fun b hb=>q3.block b hb (by simp)⟩
 obtain ⟨gg,cap,hv',hgb,hglt⟩:=q2.form (by omega)
 subst hv'
 have hB:∀ y∈gg::B,y∈B∨w.heap.size≤y:=fun y hy=>by rcases uU.1 hy with rfl | h;exact .inr hgb;exact .inl h
 have hinv:=inv.push (v:=.slice (some ⟨gg,0,none⟩) (n+m) cap) (e:=.own (l0++l) E k) g hgb hglt rfl ⟨n+m,_,.row q2 (by have:=inv.base.1;omega),(holds.append hnews).on (.gr g) hB (aq η _),hk,fun b hb=>by
  simp [u1] at hb
  subst hb
  exact ⟨uR,fun hbx=>by have:=inv.lt _ (inv.sub _ hbx);have:=inv.base.1;omega⟩⟩
 unfold Oper.val
 have hrun':(execOp ρ o).run P w= .ok (.value (.slice (some ⟨gg,0,none⟩) (n+m) cap)) w':=by
  simp only [execOp,ho,resolve,invoke,builtin,eq,uS,ne,u4,u5,vh,hv,hvs,q1]
 rw [hrun']
 exact hN _ _ _ _ (.gr g) hB (aq η _) (Gr.bel g inv.base.1) hinv (.own _ _ _ _ _ (by rw [←inv.len,List.getElem?_append_right (uH _)];simp)) (fun h=>by cases h)
theorem mG (inv:Inv n0 Bx w B η H)(he:∀ x∈o.op.operands,Rel w B η (ρA x) (ρ x)){t:TypeId}{len k e:Nat}{z:List Value}{parts:Array (Nat×Operand)}{l:List AV}(ho:o.op= .buildSlice t len parts)(hm:len≤maxLen)(hs:sliT P t=some (e,k,z))(hle:len*k≤16777216)(hfill:eI (fun i=>some (i*k,k)) ((repL len z).map .c) (cw ρA parts)=some l):
  OpS P n0 Bx w ρ o B η (.own H.length) (H++[.own l e k]):=by
 intro N hN
 refine iV he ho hs hle hfill N fun cs g hcs hrel=> ?_
 obtain ⟨_,_,_,_,_,_,_,_,hk⟩:=dA hs
 have hsz:w.heap.size<(w.alloc (.cells cs e)).heap.size:=by show w.heap.size<(w.heap.push _).size;simp
 have hat:(w.alloc (.cells cs e)).heap[w.heap.size]? =some (.cells cs e (0,0)):=by show (w.heap.push _)[w.heap.size]? =_;simp
 have hB:∀ b∈w.heap.size::B,b∈B∨w.heap.size≤b:=fun b hb=>by rcases uU.1 hb with rfl | h;exact .inr (uH _);exact .inl h
 refine hN _ _ (w.heap.size::B) (η++[.slice (some ⟨w.heap.size,0,none⟩) len len]) (.gr g) hB (aq η _) (Gr.bel g inv.base.1) ?_ (.own _ _ _ _ _ (by rw [←inv.len,List.getElem?_append_right (uH _)];simp)) (fun h=>by cases h)
 refine inv.push g (uH _) hsz rfl ⟨len,cs.toList,⟨by simpa using hcs,.inr ⟨w.heap.size,0,len,cs,rfl,inv.base.1,hat,uH _,hm,by omega,by rw [List.drop_zero];exact uT (by simp [hcs])⟩⟩,hrel.on (.gr g) hB (aq η _),hk,fun b hb=> ?_⟩
 simp [u1] at hb
 subst hb
 exact ⟨uR,fun hbx=>by have:=inv.lt _ (inv.sub _ hbx);have:=inv.base.1;omega⟩
theorem n7 (inv:Inv n0 Bx w B η H)(he:∀ x∈o.op.operands,Rel w B η (ρA x) (ρ x)){t e k by_:Nat}{z:List Value}{a b:Operand}{kl kc:IntKind}{l c:Int}{i:TypeInfo}(ho:o.op= .makeSlice t a b)(hs:sliT P t=some (e,k,z))(hi:P.info? e=some i)(hby:i.bytes=by_)
  (ha:ρA a= .c (.int kl l)) (hb:ρA b= .c (.int kc c)) (h0:0≤l) (hlc:l≤c) (hm:c.toNat≤maxLen) (hbytes:c.toNat*by_≤140737488355328):
  OpS P n0 Bx w ρ o B η (.own H.length) (H++[.own ((repL l.toNat z).map .c) e k]):=by
 intro N hN
 have h1:=he a (by simp [ho,ge])
 have h2:=he b (by simp [ho,ge])
 rw [ha] at h1
 rw [hb] at h2
 have h1:=h1.ofC
 have h2:=h2.ofC
 obtain ⟨i',zv,hu,hi',hz,hsz,hzc,hzl,hk⟩:=dA hs
 rw [hi] at hi'
 injection hi' with hi'
 subst hi'
 have hb1:(i.bytes:Int)*c≤281474976710656:=by
  have h:((c.toNat*by_:Nat):Int)≤281474976710656:=by omega
  rw [Int.natCast_mul,Int.toNat_of_nonneg (by omega)] at h
  rw [hby,Int.mul_comm];exact h
 have h63:c≤9223372036854775807:=by simp [maxLen] at hm;omega
 have hr:=run_make (P:=P) w t e i zv hu hi hz kl kc l c h0 hlc hb1 h63
 have hzs:zv.cells.size=k:=by rw [←hzl,←hzc];simp
 have hcs:(madeCells zv.cells (c.toNat*i.size)).size=c.toNat*k:=by rw [size_madeCells,hsz]
 have hlist:(madeCells zv.cells (c.toNat*i.size)).toList=repL c.toNat z:=by rw [←hzc,hsz,←hzs];exact fZ _ _ (by omega)
 generalize hcsq:madeCells zv.cells (c.toNat*i.size)=cs at hr hcs hlist
 have g:Gr w (w.alloc (.cells cs e)):=cH (Gr.refl w) _
 have hsz':w.heap.size<(w.alloc (.cells cs e)).heap.size:=by show w.heap.size<(w.heap.push _).size;simp
 have hat:(w.alloc (.cells cs e)).heap[w.heap.size]? =some (.cells cs e (0,0)):=by show (w.heap.push _)[w.heap.size]? =_;simp
 have hB:∀ b∈w.heap.size::B,b∈B∨w.heap.size≤b:=fun b hb=>by rcases uU.1 hb with rfl | h;exact .inr (uH _);exact .inl h
 have hlcn:l.toNat≤c.toNat:=by omega
 have htake:(cs.toList.drop 0).take (l.toNat*k)=repL l.toNat z:=by
  rw [List.drop_zero,hlist]
  obtain ⟨m,hme⟩:∃ m,c.toNat=l.toNat+m:=⟨c.toNat-l.toNat,by omega⟩
  have e2:∀ x y:Nat,repL (x+y) z=repL x z++repL y z:=fun x y=>by unfold repL;rw [←List.flatten_append,List.replicate_append_replicate]
  rw [hme,e2,←hzl,←bA]
  exact vc
 unfold Oper.val
 have hrun:(execOp ρ o).run P w= .ok (.value (.slice (some ⟨w.heap.size,0,none⟩) l.toNat c.toNat)) (w.alloc (.cells cs e)):=by
  simp [execOp,ho,h1,h2,eq,hr]
 rw [hrun]
 refine hN _ _ (w.heap.size::B) (η++[.slice (some ⟨w.heap.size,0,none⟩) l.toNat c.toNat]) (.gr g) hB (aq η _) (Gr.bel g inv.base.1) ?_ (.own _ _ _ _ _ (by rw [←inv.len,List.getElem?_append_right (uH _)];simp)) (fun h=>by cases h)
 refine inv.push g (uH _) hsz' rfl ⟨l.toNat,repL l.toNat z,⟨by rw [bA,hzl],.inr ⟨w.heap.size,0,c.toNat,cs,rfl,inv.base.1,hat,hlcn,hm,by omega,htake⟩⟩,jq _,hk,fun b hb=> ?_⟩
 simp [u1] at hb
 subst hb
 exact ⟨uR,fun hbx=>by have:=inv.lt _ (inv.sub _ hbx);have:=inv.base.1;omega⟩
end
section
variable {P:Program} {w w':World} {B:List Nat} {η:List Value} {H:List Ent} {ρ:Operand→Value} {ρA:Operand→AV} {o:Oper} {n0:Nat} {Bx:List Nat}
theorem jd (c:Array Value)(n:Nat)(h:0<c.size):(uO c n).toList=repL n c.toList:=by
 apply vm
 intro j
 rcases uM j (n*c.size) with hj | hj
 ·rw [jO n c.toList j (by simpa using hj)]
  have hm:j % c.size<c.size:=Nat.mod_lt _ h
  simp [uO,hj,hm]
 ·rw [List.getElem?_eq_none (by simpa [size_zeroCells] using hj),List.getElem?_eq_none (by rw [bA];simpa using hj)]
theorem gV {base t tn ty e n:Nat}{kn kx:IntKind}{i:TypeInfo}{v:Value}{xs:List Value}(ht:P.underlying t=some (.slice e))(htn:P.underlying tn=some (.int kn))(hi:P.info? e=some i)(hown:bw w base e i.size v n xs):
  (gt #[t,tn] ty #[v,.int kx ((0:Nat):Int)]).run P w= .ok v w:=by
 have hw:IntKind.i64.wrap (0:Int)=0:=by decide
 rcases hown.2 with ⟨rfl,rfl⟩ | ⟨g,oo,cap,cur,rfl,_,_,hnc,_⟩
 ·simp [gt,run_underlying ht,run_underlying htn,sizeOf,typeInfo,hi,asInt,asIntOf,hw]
 ·simp [gt,run_underlying ht,run_underlying htn,sizeOf,typeInfo,hi,asInt,asIntOf,hw,hnc,storeCells]
theorem gU {base t tn ty E k by_ m:Nat}{kn kx:IntKind}{i:TypeInfo}{z:Value}(ht:P.underlying t=some (.slice E))(htn:P.underlying tn=some (.int kn))(hi:P.info? E=some i)(hz:i.zero=some z)(hsz:i.size=k)(hby:i.bytes=by_)(hzs:z.cells.size=k)(hk:1≤k)
  {v:Value} {n:Nat} {us:List Value} (hown:bw w base E k v n us) (h1:∀ u∈(uO z.cells m).toList,u.oneCell'=true)
  (hm:0<m) (h63:n+m≤maxLen) (hbytes:(n+m)*by_≤140737488355328) (hbase:base≤w.heap.size):
  ∃ g o cap w',(gt #[t,tn] ty #[v,.int kx (m:Int)]).run P w= .ok (.slice (some ⟨g,o,none⟩) (n+m) cap) w'∧bw w' base E k (.slice (some ⟨g,o,none⟩) (n+m) cap) (n+m) (us++(uO z.cells m).toList)∧
   w.grownBy w' v.ownBlock∧(v.ownBlock=some g∨w.heap.size≤g)∧g<w'.heap.size:=by
 subst hsz
 subst hby
 have hml:maxLen≤9223372036854775807:=by decide
 have hw:IntKind.i64.wrap (m:Int)=m:=by rw [IntKind.wrap_i64];omega
 have hmb:m*i.bytes≤(n+m)*i.bytes:=uN _ (by omega)
 have h48i:¬ (281474976710656<(m:Int)*(i.bytes:Int)):=by
  rw [←Int.natCast_mul]
  omega
 have hneg:¬ ((m:Int)<0):=by omega
 have hm0:m≠0:=by omega
 have hns:¬ (m*i.size=0):=Nat.mul_ne_zero hm0 (by omega)
 have hm1:¬ (i.size=0):=by omega
 have hzl:(uO z.cells m).size=m*i.size:=by rw [size_zeroCells,hzs]
 have fin:∀ (old:Nat),old<n+m→(gt #[t,tn] ty #[v,.int kx (m:Int)]).run P w= .ok (.slice (some ⟨w.heap.size,0,none⟩) (n+m) (grownCap w (n+m) old E)) (w.drew.alloc (.cells (us.toArray++uO z.cells m++uO z.cells (grownCap w (n+m) old E-(n+m))) E))→
   ∃ g o cap w',(gt #[t,tn] ty #[v,.int kx (m:Int)]).run P w= .ok (.slice (some ⟨g,o,none⟩) (n+m) cap) w'∧bw w' base E i.size (.slice (some ⟨g,o,none⟩) (n+m) cap) (n+m) (us++(uO z.cells m).toList)∧
   w.grownBy w' v.ownBlock∧(v.ownBlock=some g∨w.heap.size≤g)∧g<w'.heap.size:=by
  intro old ho hr
  have hge:=grownCap_ge w (n+m) old E
  have hcm:grownCap w (n+m) old E≤maxLen:=grownCap_le_maxLen w (n+m) old E h63
  have hlen:(us++(uO z.cells m).toList).length=(n+m)*i.size:=by rw [uZ,hown.1,Array.length_toList,hzl,uV]
  refine ⟨w.heap.size,0,_,_,hr,⟨hlen,.inr ⟨w.heap.size,0,_,_,rfl,hbase,heap_alloc_new w.drew _,hge,hcm, ?_, ?_⟩⟩,⟨rfl,rfl,rfl,by simp,fun b hb _=>by first | exact heap_alloc_old w.drew _ b hb | exact heap_alloc_old w.drew _ hb⟩,.inr (uH _),by simp⟩
  ·simp only [Array.size_append,List.size_toArray,size_zeroCells,hzs,hown.1,←uV]
   rw [Nat.zero_add]
   exact uN _ (by omega)
  ·simp only [Array.toList_append,uW,List.drop_zero]
   rw [←uW,←hlen]
   exact vc
 rcases hown.2 with ⟨hv,hn⟩ | ⟨g,o,cap,cur,hv,hb,hg,hnc,hcm,hsize,htk⟩
 ·subst hv hn
  have hus:us=[]:=uI (by rw [hown.1];simp)
  subst hus
  have h48':¬ (281474976710656<Builtin.nextslicecap m 0*i.bytes):=by rw [nextslicecap_zero hm];omega
  have h63':¬ (9223372036854775807<(m:Int)):=by omega
  refine fin 0 (by omega) ?_
  simp [gt,run_underlying ht,run_underlying htn,sizeOf,typeInfo,zeroValue,hi,hz,asInt,asIntOf,hw,hm0,hm1,hneg,hns,h63',h48',h48i,Question.forced,run_firstCells_none,newRow,grownCap]
 ·subst hv
  rcases uM cap (n+m) with hgr | hroom
  ·have hnr:¬ (n+m≤cap):=by omega
   have h63':¬ (9223372036854775807<((n:Int)+(m:Int))):=by omega
   have h48':¬ (281474976710656<Builtin.nextslicecap (n+m) cap*i.bytes):=by have:=growslice_fits hgr hbytes;omega
   have hfo:=run_firstCells_some (P:=P) w.drew i.size n ⟨g,o,none⟩ n cap us hown.1 (fun j u hj=>by
    rw [u3]
    have:=hown.cells j u hj
    simpa using this)
   refine fin cap hgr ?_
   simp [gt,run_underlying ht,run_underlying htn,sizeOf,typeInfo,zeroValue,hi,hz,asInt,asIntOf,hw,hnr,hm0,hm1,hneg,hns,h63',h48',h48i,Question.forced,hfo,newRow,grownCap]
  ·obtain ⟨news,hnews⟩:∃ news,news=(uO z.cells m).toList:=⟨_,rfl⟩
   have hl:news.length=m*i.size:=by rw [hnews,Array.length_toList,hzl]
   rw [←hnews] at h1 ⊢
   have hmul:(n+m)*i.size≤cap*i.size:=uN _ hroom
   have hnm:(n+m)*i.size=n*i.size+m*i.size:=uV n m _
   have hfit:o+n*i.size+news.length≤cur.size:=by omega
   have hst:=run_storeCells_at (P:=P) g (o+n*i.size) E news 0 cur w hg (by omega) h1
   simp only [Nat.add_zero] at hst
   have hput:cur.toList.take (o+n*i.size)++news++cur.toList.drop (o+n*i.size+news.length)=putL cur.toList (o+n*i.size) news:=rfl
   rw [hput] at hst
   have hpl:(putL cur.toList (o+n*i.size) news).length=cur.toList.length:=by unfold putL;simp;omega
   have hglt:g<w.heap.size:=(Array.getElem?_eq_some_iff.1 hg).1
   refine ⟨g,o,cap,w.setRow g (putL cur.toList (o+n*i.size) news).toArray, ?_,⟨by simp [hown.1,hl,hnm],.inr ⟨g,o,cap,_,rfl,hb,setRow_heap w g cur _ E (0,0) hg,hroom,hcm, ?_, ?_⟩⟩,⟨rfl,rfl,rfl,by simp,fun b hb' hne=>setRow_other w g b _ (fun h=>hne (by rw [h];rfl))⟩,.inl rfl,by simpa using hglt⟩
   ·simp [gt,run_underlying ht,run_underlying htn,sizeOf,typeInfo,zeroValue,hi,hz,asInt,asIntOf,hw,hroom,hm0,hm1,hneg,hns,h48i,Addr.add_lit,←hnews,hst]
   ·have:(putL cur.toList (o+n*i.size) news).toArray.size=cur.size:=by simpa using hpl
    omega
   ·rw [vi,dR _ _ _ _ (by simpa using hfit)]
    unfold putL
    rw [htk,uW,vl,hown.1]
    have hu:us.take ((n+m)*i.size)=us:=uT (by rw [hown.1];omega)
    rw [hu,show (n+m)*i.size-n*i.size=news.length by omega,vc]
theorem jG (inv:Inv n0 Bx w B η H)(he:∀ x∈o.op.operands,Rel w B η (ρA x) (ρ x)){s x:Operand}{t tn E k m:Nat}{zs:List Value}{xv:Value}{cells:List AV}(ho:o.op= .call ⟨.builtin .append, #[s,x], #[t,tn]⟩)
  (hk:1≤k) (hd:dstA H E k (ρA s)=some cells) (hv:ρ x=xv) (hz0:m=0→zs=[])
  (hrun0:m=0→∀ (v:Value) (n:Nat) (us:List Value),bw w n0 E k v n us→(gt #[t,tn] o.type #[v,xv]).run P w= .ok v w)
  (hrunp:0<m→∀ (v:Value) (n:Nat) (us:List Value),bw w n0 E k v n us→n=cells.length / k→∃ g og cap w',(gt #[t,tn] o.type #[v,xv]).run P w= .ok (.slice (some ⟨g,og,none⟩) (n+m) cap) w'∧bw w' n0 E k (.slice (some ⟨g,og,none⟩) (n+m) cap) (n+m) (us++zs)∧
   w.grownBy w' v.ownBlock∧(v.ownBlock=some g∨w.heap.size≤g)∧g<w'.heap.size):
  OpS P n0 Bx w ρ o B η (.own H.length) (bS H (ρA s)++[.own (cells++zs.map .c) E k]):=by
 intro N hN
 obtain ⟨n,us,hown,hrel,hbl,hex⟩:=lm inv (he s (by simp [ho,ge,u6])) hk hd
 have hlc:cells.length=n*k:=by rw [←hrel.1];exact hown.1
 have ik:=inv.kill (ρA s)
 have klen:(bS H (ρA s)).length=H.length:=by unfold bS;split <;> simp
 have hold:∀ (id:Nat) (e:Ent),(bS H (ρA s))[id]? =some e→e.live=true→H[id]? =some e∧∀ b,(ρ s).ownBlock=some b→aO (η.getD id undef)≠some b:=by
  intro id e h hl
  have hH:H[id]? =some e∧ρA s≠.own id:=by
   unfold bS at h
   split at h
   ·rename_i id' hid'
    rw [List.getElem?_set] at h
    split at h
    ·split at h
     ·injection h with h;subst h;cases hl
     ·cases h
    ·rename_i hne;exact ⟨h,fun hh=>hne (by rw [hid'] at hh;injection hh)⟩
   ·rename_i hnot
    exact ⟨h,fun hh=>hnot id hh⟩
  refine ⟨hH.1,fun b hb hc=> ?_⟩
  obtain ⟨id2,e2,h2,h3,h4,h5⟩:=hex b hb
  exact inv.sep id2 id e2 e (fun hh=>hH.2 (by rw [h2,hh])) h3 hH.1 h4 hl b h5 hc
 rcases vf m with hm0 | hmp
 ·have hl0:zs=[]:=hz0 hm0
  subst hm0
  rw [hl0] at hN
  have hrun0:=hrun0 rfl _ _ _ hown
  have hinv:Inv n0 Bx w B (η++[ρ s]) (bS H (ρA s)++[.own (cells++List.map AV.c []) E k]):=by
   refine ⟨by simp [klen,inv.len],inv.base,inv.sub,inv.lt,fun id e h=> ?_,fun i j ei ej hij hi' hj hli hlj b hb'=> ?_⟩
   ·rcases uM id H.length with hid | hid
    ·rw [List.getElem?_append_left (by rw [klen];exact hid)] at h
     rw [ai (by rw [inv.len];exact hid)]
     exact aF.on (ik.ent id e h) (Gr.refl w) (aq η _)
    ·rw [List.getElem?_append_right (by rw [klen];exact hid)] at h
     have:id=H.length:=by have:=(List.getElem?_eq_some_iff.1 h).1;rw [klen] at this;simp at this;omega
     subst this
     simp [klen] at h;subst h
     rw [←inv.len,ak]
     exact ⟨n,us,hown,by simpa using hrel.on (On.refl _ _) (fun _ h=>.inl h) (aq η _),hk,hbl⟩
   ·have key:∀ (i:Nat) (ei:Ent),(bS H (ρA s)++[Ent.own (cells++List.map AV.c []) E k])[i]? =some ei→(i<H.length∧(bS H (ρA s))[i]? =some ei∧(η++[ρ s]).getD i undef=η.getD i undef)∨(i=H.length∧(η++[ρ s]).getD i undef=ρ s):=by
     intro i ei h
     rcases uM i H.length with hid | hid
     ·exact .inl ⟨hid,by rwa [List.getElem?_append_left (by rw [klen];exact hid)] at h,ai (by rw [inv.len];exact hid)⟩
     ·have:i=H.length:=by
       rw [List.getElem?_append_right (by rw [klen];exact hid)] at h
       have:=(List.getElem?_eq_some_iff.1 h).1;rw [klen] at this;simp at this;omega
      subst this
      exact .inr ⟨rfl,by rw [←inv.len,ak]⟩
    have hos:∀ b,aO (ρ s)=some b→(ρ s).ownBlock=some b:=by
     intro b hb
     rcases hown.2 with ⟨hv0,_⟩ | ⟨g,oo,cap,cur,hv0,_⟩ <;> rw [hv0] at hb ⊢ <;> exact hb
    rcases key i ei hi' with ⟨h1,h2,h3⟩ | ⟨h1,h3⟩ <;> rcases key j ej hj with ⟨k1,k2,k3⟩ | ⟨k1,k3⟩
    ·rw [h3] at hb';rw [k3];exact ik.sep i j ei ej hij h2 k2 hli hlj b hb'
    ·rw [h3] at hb';rw [k3]
     exact fun hcc=>(hold i ei h2 hli).2 b (hos b hcc) hb'
    ·rw [h3] at hb';rw [k3]
     exact (hold j ej k2 hlj).2 b (hos b hb')
    ·omega
  have hform:∃ a nn cc,ρ s= .slice a nn cc:=by
   rcases hown.2 with ⟨hv0,_⟩ | ⟨g,oo,cap,cur,hv0,_⟩ <;> rw [hv0] <;> exact ⟨_,_,_,rfl⟩
  obtain ⟨a0,nn,cc,hf⟩:=hform
  unfold Oper.val
  have hrun':(execOp ρ o).run P w= .ok (.value (ρ s)) w:=by
   simp only [execOp,ho,resolve,invoke,builtin,eq,uS,ne,u4,u5,vh,hv,hrun0]
  rw [hrun']
  exact hN _ _ _ _ (On.refl _ _) (fun _ h=>.inl h) (aq η _) (Bel.refl _ _ _) hinv (by rw [hf];exact .own _ _ _ _ _ (by rw [←inv.len,List.getElem?_append_right (uH _)];simp)) (fun h=>by cases h)
 have hdiv:cells.length / k=n:=by rw [hlc];exact uY _ hk
 have hnews:RelL w B η (zs.map .c) zs:=jq _
 obtain ⟨g,og,cap,w',hrun,hown',hgrow,hg,hglt⟩:=hrunp hmp _ _ _ hown hdiv.symm
 have hng:n0≤g:=by
  rcases hown'.2 with ⟨hv0,_⟩ | ⟨g',o',cap',cur,hv0,hb',_⟩
  ·cases hv0
  ·injection hv0 with q1
   injection q1 with q1
   injection q1 with q1
   omega
 have hgB:g∈B∨w.heap.size≤g:=hg.elim (fun h=>.inl (hbl g h).1) (fun h=>.inr h)
 have hon:On B w w':=⟨hgrow.os,hgrow.tape,hgrow.output,hgrow.size,fun b hb hn=>.of (hgrow.block b hb (fun h=>hn (hbl b h.symm).1))⟩
 have hB:∀ b∈g::B,b∈B∨w.heap.size≤b:=fun b hb=>by rcases uU.1 hb with rfl | h;exact hgB;exact .inl h
 have hbelow:Bel n0 Bx w w':=⟨⟨hgrow.os,hgrow.tape,hgrow.output,hgrow.size,fun b hb=>hgrow.block b (by have:=inv.base.1;omega) (fun h=>by
  have hlt:n0≤b:=by
   rcases hown.2 with ⟨hv0,_⟩ | ⟨g',oo,cap',cur,hv0,hb',_⟩
   ·rw [hv0] at h;cases h
   ·rw [hv0] at h;simp [u1] at h;omega
  omega)⟩,fun b hb hl=>hgrow.block b hl (fun h=>(hbl b h.symm).2 hb)⟩
 have hkeep:∀ (id:Nat) (e:Ent),(bS H (ρA s))[id]? =some e→e.live=true→∀ b,aO (η.getD id undef)=some b→w'.heap[b]? =w.heap[b]? ∧b≠g:=by
  intro id e h hl b hb
  obtain ⟨h1,h2⟩:=hold id e h hl
  have hlt:=(aF.lt (inv.ent id e h1) hl b hb).1
  refine ⟨hgrow.block b hlt (fun hh=>h2 b hh.symm hb),fun hh=> ?_⟩
  subst hh
  rcases hg with h3 | h3
  ·exact h2 b h3 hb
  ·omega
 have hinv:Inv n0 Bx w' (g::B) (η++[.slice (some ⟨g,og,none⟩) (n+m) cap]) (bS H (ρA s)++[.own (cells++zs.map .c) E k]):=by
  refine ⟨by simp [klen,inv.len],⟨vb inv.base.1 hgrow.size,inv.base.2.on hon hB⟩,fun b hb=>uX _ (inv.sub b hb),fun b hb=> ?_,fun id e h=> ?_,fun i j ei ej hij hi' hj hli hlj b hb'=> ?_⟩
  ·rcases uU.1 hb with rfl | h
   ·exact hglt
   ·exact uJ (inv.lt b h) hgrow.size
  ·rcases uM id H.length with hid | hid
   ·rw [List.getElem?_append_left (by rw [klen];exact hid)] at h
    rw [ai (by rw [inv.len];exact hid)]
    exact aF.keep (ik.ent id e h) hon hB (fun _ h=>uX _ h) (aq η _) (fun hl b hb=>(hkeep id e h hl b hb).1)
   ·rw [List.getElem?_append_right (by rw [klen];exact hid)] at h
    have:id=H.length:=by have:=(List.getElem?_eq_some_iff.1 h).1;rw [klen] at this;simp at this;omega
    subst this
    simp [klen] at h;subst h
    rw [←inv.len,ak]
    refine ⟨n+m,_,hown',(hrel.append hnews).on hon hB (aq η _),hk,fun b hb=> ?_⟩
    simp [u1] at hb
    subst hb
    refine ⟨uR,fun hbx=> ?_⟩
    rcases hg with h | h
    ·exact (hbl _ h).2 hbx
    ·have:=inv.lt _ (inv.sub _ hbx)
     omega
  ·have key:∀ (i:Nat) (ei:Ent),(bS H (ρA s)++[Ent.own (cells++zs.map .c) E k])[i]? =some ei→(i<H.length∧(bS H (ρA s))[i]? =some ei∧(η++[vn (some ⟨g,og,none⟩) (n+m) cap]).getD i undef=η.getD i undef)∨(i=H.length∧(η++[vn (some ⟨g,og,none⟩) (n+m) cap]).getD i undef=vn (some ⟨g,og,none⟩) (n+m) cap):=by
    intro i ei h
    rcases uM i H.length with hid | hid
    ·exact .inl ⟨hid,by rwa [List.getElem?_append_left (by rw [klen];exact hid)] at h,ai (by rw [inv.len];exact hid)⟩
    ·have:i=H.length:=by
      rw [List.getElem?_append_right (by rw [klen];exact hid)] at h
      have:=(List.getElem?_eq_some_iff.1 h).1;rw [klen] at this;simp at this;omega
     subst this
     exact .inr ⟨rfl,by rw [←inv.len,ak]⟩
   rcases key i ei hi' with ⟨h1,h2,h3⟩ | ⟨h1,h3⟩ <;> rcases key j ej hj with ⟨k1,k2,k3⟩ | ⟨k1,k3⟩
   ·rw [h3] at hb';rw [k3];exact ik.sep i j ei ej hij h2 k2 hli hlj b hb'
   ·rw [h3] at hb';rw [k3]
    intro hcc
    have:=(hkeep i ei h2 hli b hb').2
    simp [aO] at hcc
    omega
   ·rw [h3] at hb'
    simp [aO] at hb'
    subst hb'
    rw [k3]
    intro hcc
    exact (hkeep j ej k2 hlj _ hcc).2 rfl
   ·omega
 unfold Oper.val
 have hrun':(execOp ρ o).run P w= .ok (.value (.slice (some ⟨g,og,none⟩) (n+m) cap)) w':=by
  simp only [execOp,ho,resolve,invoke,builtin,eq,uS,ne,u4,u5,vh,hv,hrun]
 rw [hrun']
 exact hN _ _ _ _ hon hB (aq η _) hbelow hinv (.own _ _ _ _ _ (by rw [←inv.len,List.getElem?_append_right (uH _)];simp)) (fun h=>by cases h)
theorem jD (inv:Inv n0 Bx w B η H)(he:∀ x∈o.op.operands,Rel w B η (ρA x) (ρ x)){s x:Operand}{t tn E k by_ m:Nat}{i:TypeInfo}{z:Value}{zs:List Value}{kn kx:IntKind}{cells:List AV}(ho:o.op= .call ⟨.builtin .append, #[s,x], #[t,tn]⟩)
  (ht:P.underlying t=some (.slice E)) (hi:P.info? E=some i) (hz:i.zero=some z) (hsz:i.size=k) (hby:i.bytes=by_) (hzs:z.cells.size=k) (hk:1≤k)
  (htn:P.underlying tn=some (.int kn)) (hd:dstA H E k (ρA s)=some cells) (hx:ρA x= .c (.int kx (m:Int))) (hzl:(uO z.cells m).toList=zs) (h1:∀ u∈zs,u.oneCell'=true) (hm:cells.length / k+m≤maxLen) (hb:(cells.length / k+m)*by_≤140737488355328):
  OpS P n0 Bx w ρ o B η (.own H.length) (bS H (ρA s)++[.own (cells++zs.map .c) E k]):=by
 have hv:ρ x= .int kx (m:Int):=by
  have:=he x (by simp [ho,ge,u6])
  rw [hx] at this
  exact this.ofC
 refine jG inv he ho hk hd hv (m:=m) (fun hm0=>by rw [←hzl,hm0];simp [uO]) (fun hm0 v n us hown=> ?_) (fun hmp v n us hown hn=> ?_)
 ·subst hm0
  exact gV ht htn hi (by rw [hsz];exact hown)
 ·have:=gU (P:=P) (w:=w) (ty:=o.type) (kx:=kx) ht htn hi hz hsz hby hzs hk hown (m:=m) (by rw [hzl];exact h1) hmp (by rw [hn];exact hm) (by rw [hn];exact hb) inv.base.1
  rw [hzl] at this
  exact this
theorem ig {base t tn ty e n:Nat}{i:TypeInfo}{v:Value}{xs:List Value}{s:ByteArray}(ht:P.underlying t=some (.slice e))(htn:P.underlying tn=some .string)(hi:P.info? e=some i)(hown:bw w base e i.size v n xs)(hs:s.size=0):
  (gt #[t,tn] ty #[v,.string s]).run P w= .ok v w:=by
 have hsc:uQ s=[]:=uI (by rw [Lib.strCells_length];exact hs)
 have hf:=vo (P:=P) w i.size s
 rw [hs,hsc] at hf
 rcases hown.2 with ⟨rfl,rfl⟩ | ⟨g,oo,cap,cur,rfl,_,_,hnc,_⟩
 ·simp [gt,run_underlying ht,run_underlying htn,sizeOf,typeInfo,hi,vd,hs,hf]
 ·simp [gt,run_underlying ht,run_underlying htn,sizeOf,typeInfo,hi,vd,hs,hf,hnc,storeCells]
theorem jg {base t tn ty E by_:Nat}{i:TypeInfo}{z:Value}{s:ByteArray}(ht:P.underlying t=some (.slice E))(htn:P.underlying tn=some .string)(hi:P.info? E=some i)(hz:i.zero=some z)(hsz:i.size=1)(hby:i.bytes=by_)(hzs:z.cells.size=1)
  {v:Value} {n:Nat} {us:List Value} (hown:bw w base E 1 v n us)
  (hm:0<s.size) (h63:n+s.size≤maxLen) (hbytes:(n+s.size)*by_≤140737488355328) (hbase:base≤w.heap.size):
  ∃ g o cap w',(gt #[t,tn] ty #[v,.string s]).run P w= .ok (.slice (some ⟨g,o,none⟩) (n+s.size) cap) w'∧bw w' base E 1 (.slice (some ⟨g,o,none⟩) (n+s.size) cap) (n+s.size) (us++uQ s)∧
   w.grownBy w' v.ownBlock∧(v.ownBlock=some g∨w.heap.size≤g)∧g<w'.heap.size:=by
 have hml:maxLen≤9223372036854775807:=by decide
 have hsl:=Lib.strCells_length s
 have fin:∀ (old:Nat),old<n+s.size→(gt #[t,tn] ty #[v,.string s]).run P w= .ok (.slice (some ⟨w.heap.size,0,none⟩) (n+s.size) (grownCap w (n+s.size) old E)) (w.drew.alloc (.cells (us.toArray++(uQ s).toArray++uO z.cells (grownCap w (n+s.size) old E-(n+s.size))) E))→
   ∃ g o cap w',(gt #[t,tn] ty #[v,.string s]).run P w= .ok (.slice (some ⟨g,o,none⟩) (n+s.size) cap) w'∧bw w' base E 1 (.slice (some ⟨g,o,none⟩) (n+s.size) cap) (n+s.size) (us++uQ s)∧
   w.grownBy w' v.ownBlock∧(v.ownBlock=some g∨w.heap.size≤g)∧g<w'.heap.size:=by
  intro old ho hr
  have hge:=grownCap_ge w (n+s.size) old E
  have hcm:grownCap w (n+s.size) old E≤maxLen:=grownCap_le_maxLen w (n+s.size) old E h63
  have hul:=hown.1
  have hlen:(us++uQ s).length=(n+s.size)*1:=by rw [uZ,hul,hsl];omega
  refine ⟨w.heap.size,0,_,_,hr,⟨hlen,.inr ⟨w.heap.size,0,_,_,rfl,hbase,heap_alloc_new w.drew _,hge,hcm, ?_, ?_⟩⟩,⟨rfl,rfl,rfl,by simp,fun b hb _=>by first | exact heap_alloc_old w.drew _ b hb | exact heap_alloc_old w.drew _ hb⟩,.inr (uH _),by simp⟩
  ·simp only [Array.size_append,List.size_toArray,size_zeroCells,hzs,hul,hsl]
   omega
  ·simp only [Array.toList_append,uW,List.drop_zero]
   rw [←uW,←hlen]
   exact vc
 rcases hown.2 with ⟨hv,hn⟩ | ⟨g,o,cap,cur,hv,hb,hg,hnc,hcm,hsize,htk⟩
 ·subst hv hn
  have hus:us=[]:=uI (by have:=hown.1;omega)
  subst hus
  have hf:=vo (P:=P) w.drew 1 s
  have e0:(0+s.size)*by_=s.size*by_:=by rw [Nat.zero_add]
  have h48':¬ (281474976710656<Builtin.nextslicecap s.size 0*i.bytes):=by rw [nextslicecap_zero hm,hby];omega
  have h63':¬ (9223372036854775807<(s.size:Int)):=by omega
  have hm0:¬ (s.size=0):=by omega
  refine fin 0 (by omega) ?_
  simp [gt,run_underlying ht,run_underlying htn,sizeOf,typeInfo,zeroValue,hi,hz,hsz,vd,hm0,h63',h48',Question.forced,hf,run_firstCells_none,newRow,grownCap]
 ·subst hv
  rcases uM cap (n+s.size) with hgr | hroom
  ·have hgrow:=growslice_fits hgr hbytes
   have hfo:∀ (j:Nat) (u:Value),us[j]? =some u→w.cell? ((⟨g,o,none⟩:Addr).add j)=some u:=fun j u hj=>by rw [u3];exact hown.cells j u hj
   exact fin cap hgr (Lib.run_append_grow_string (P:=P) w t tn ty E i z ht htn hi hz ⟨g,o,none⟩ n cap us (by rw [hsz];exact hown.1) hfo s hgr (by omega) (by rw [hby];omega))
  ·have hmul:(n+s.size)*1≤cap*1:=uN 1 hroom
   have hfit:o+n+(uQ s).length≤cur.size:=by rw [hsl];omega
   have hst:=run_storeCells_at (P:=P) g (o+n) E (uQ s) 0 cur w hg (by omega) (Lib.strCells_oneCell s)
   simp only [Nat.add_zero] at hst
   have hf:=vo (P:=P) w 1 s
   have hput:cur.toList.take (o+n)++uQ s++cur.toList.drop (o+n+(uQ s).length)=putL cur.toList (o+n) (uQ s):=rfl
   rw [hput] at hst
   have hpl:(putL cur.toList (o+n) (uQ s)).length=cur.toList.length:=by unfold putL;simp;omega
   have hglt:g<w.heap.size:=(Array.getElem?_eq_some_iff.1 hg).1
   have hul:=hown.1
   refine ⟨g,o,cap,w.setRow g (putL cur.toList (o+n) (uQ s)).toArray, ?_,⟨by rw [uZ,hul,hsl];omega,.inr ⟨g,o,cap,_,rfl,hb,setRow_heap w g cur _ E (0,0) hg,hroom,hcm, ?_, ?_⟩⟩,⟨rfl,rfl,rfl,by simp,fun b hb' hne=>setRow_other w g b _ (fun h=>hne (by rw [h];rfl))⟩,.inl rfl,by simpa using hglt⟩
   ·simp [gt,run_underlying ht,run_underlying htn,sizeOf,typeInfo,hi,hsz,vd,hroom,hf,Addr.add_lit,hst]
   ·have:(putL cur.toList (o+n) (uQ s)).toArray.size=cur.size:=by simpa using hpl
    omega
   ·have hd:=dR cur.toList (uQ s) (o+n) o
    rw [vi]
    have e1:(putL cur.toList (o+n*1) (uQ s)).drop o=putL (cur.toList.drop o) (n*1) (uQ s):=dR _ _ _ _ (by rw [Nat.mul_one];simpa using hfit)
    rw [Nat.mul_one] at e1
    rw [e1]
    unfold putL
    rw [Nat.mul_one] at htk
    rw [htk,Nat.mul_one,uW,vl,hul]
    have hu:us.take (n+s.size)=us:=uT (by rw [hul];omega)
    rw [hu,show n+s.size-n*1=(uQ s).length by rw [hsl];omega,vc]
theorem jE (inv:Inv n0 Bx w B η H)(he:∀ x∈o.op.operands,Rel w B η (ρA x) (ρ x)){s x:Operand}{t tn E by_:Nat}{i:TypeInfo}{z:Value}{bs:ByteArray}{cells:List AV}(ho:o.op= .call ⟨.builtin .append, #[s,x], #[t,tn]⟩)
  (ht:P.underlying t=some (.slice E)) (hi:P.info? E=some i) (hz:i.zero=some z) (hsz:i.size=1) (hby:i.bytes=by_) (hzs:z.cells.size=1)
  (htn:P.underlying tn=some .string) (hd:dstA H E 1 (ρA s)=some cells) (hx:ρA x= .c (.string bs)) (hm:cells.length+bs.size≤maxLen) (hb:(cells.length+bs.size)*by_≤140737488355328):
  OpS P n0 Bx w ρ o B η (.own H.length) (bS H (ρA s)++[.own (cells++(uQ bs).map .c) E 1]):=by
 have hv:ρ x= .string bs:=by
  have:=he x (by simp [ho,ge,u6])
  rw [hx] at this
  exact this.ofC
 refine jG inv he ho (uH 1) hd hv (m:=bs.size) (fun hm0=>uI (by rw [Lib.strCells_length];exact hm0)) (fun hm0 v n us hown=> ?_) (fun hmp v n us hown hn=> ?_)
 ·exact ig ht htn hi (by rw [hsz];exact hown) hm0
 ·rw [Nat.div_one] at hn
  exact jg (P:=P) (w:=w) (ty:=o.type) ht htn hi hz hsz hby hzs hown hmp (by rw [hn];exact hm) (by rw [hn];exact hb) inv.base.1
theorem ij {base t ty E k by_:Nat}{i:TypeInfo}{z:Value}(ht:P.underlying t=some (.slice E))(hi:P.info? E=some i)(hz:i.zero=some z)(hsz:i.size=k)(hby:i.bytes=by_)(hzs:z.cells.size=k)(hk:1≤k)
  {v:Value} {n:Nat} {us:List Value} (hown:bw w base E k v n us) (ad:Addr) (m c:Nat) (news:List Value) (hl:news.length=m*k) (hnews:∀ (j:Nat) u,news[j]? =some u→w.cell? (ad.add j)=some u) (h1:∀ u∈news,u.oneCell'=true)
  (hm:0<m) (h63:n+m≤maxLen) (hbytes:(n+m)*by_≤140737488355328) (hbase:base≤w.heap.size):
  ∃ g o cap w',(gt #[t,t] ty #[v,.slice (some ad) m c]).run P w= .ok (.slice (some ⟨g,o,none⟩) (n+m) cap) w'∧bw w' base E k (.slice (some ⟨g,o,none⟩) (n+m) cap) (n+m) (us++news)∧
   w.grownBy w' v.ownBlock∧(v.ownBlock=some g∨w.heap.size≤g)∧g<w'.heap.size∧bw w' base E k v n us:=by
 have fresh:∀ v' w',(gt #[t,t] ty #[v,.slice (some ad) m c]).run P w= .ok v' w'→w'.ownsRow w.heap.size E k v' (n+m) (us++news)→w.grownBy w' none→∃ g o cap w',(gt #[t,t] ty #[v,.slice (some ad) m c]).run P w= .ok (.slice (some ⟨g,o,none⟩) (n+m) cap) w'∧bw w' base E k (.slice (some ⟨g,o,none⟩) (n+m) cap) (n+m) (us++news)∧w.grownBy w' v.ownBlock∧(v.ownBlock=some g∨w.heap.size≤g)∧g<w'.heap.size∧bw w' base E k v n us:=by
  intro v' w' hr h2 h3
  obtain ⟨g,cap,hv',hbg,hlt⟩:=h2.form (by omega)
  subst hv'
  refine ⟨g,0,cap,w',hr,.row h2 hbase,⟨h3.os,h3.tape,h3.output,h3.size,fun b hb _=>h3.block b hb (by simp)⟩,.inr hbg,hlt,hown.1, ?_⟩
  rcases hown.2 with hn | ⟨g2,o2,cap2,cur,hv,hb,hg,rest⟩
  ·exact .inl hn
  ·exact .inr ⟨g2,o2,cap2,cur,hv,hb,by rw [h3.block g2 (Array.getElem?_eq_some_iff.1 hg).1 (by simp)];exact hg,rest⟩
 rcases hown.2 with ⟨hv,hn⟩ | ⟨g,o,cap,cur,hv,hb,hg,hnc,hcm,hsize,htk⟩
 ·obtain ⟨g,o,cap,w',r1,r2,r3,r4,r5⟩:=fP (P:=P) (ty:=ty) ht hi hz hsz hby hzs hk hown ad m c news hl hnews h1 hm h63 hbytes hbase
  exact ⟨g,o,cap,w',r1,r2,r3,r4,r5,hown.1,.inl ⟨hv,hn⟩⟩
 ·subst hv
  rcases uM cap (n+m) with hgr | hroom
  ·obtain ⟨v',w',hr,h2,h3⟩:=run_append_arg_grows (P:=P) w t ty E i z k by_ ht hi hz hsz hby hzs hk ⟨g,o,none⟩ n cap us hown.1 (fun j u hj=>by rw [u3];exact hown.cells j u hj) ad m c news hl hnews hgr h63 hbytes
   exact fresh v' w' hr h2 h3
  ·have hmul:(n+m)*k≤cap*k:=uN k hroom
   have hnm:(n+m)*k=n*k+m*k:=uV n m k
   have hfit:o+n*k+news.length≤cur.size:=by omega
   have hst:=run_storeCells_at (P:=P) g (o+n*k) E news 0 cur w hg (by omega) h1
   simp only [Nat.add_zero] at hst
   have hfc:=run_firstCells_some (P:=P) w k m ad m c news hl hnews
   have hput:cur.toList.take (o+n*k)++news++cur.toList.drop (o+n*k+news.length)=putL cur.toList (o+n*k) news:=rfl
   rw [hput] at hst
   have hpl:(putL cur.toList (o+n*k) news).length=cur.toList.length:=by unfold putL;simp;omega
   have hglt:g<w.heap.size:=(Array.getElem?_eq_some_iff.1 hg).1
   have hsz':(putL cur.toList (o+n*k) news).toArray.size=cur.size:=by simpa using hpl
   have htk2:((putL cur.toList (o+n*k) news).toArray.toList.drop o).take ((n+m)*k)=us++news:=by
    rw [vi,dR _ _ _ _ (by simpa using hfit)]
    unfold putL
    rw [htk,uW,vl,hown.1]
    have hu:us.take ((n+m)*k)=us:=uT (by rw [hown.1];omega)
    rw [hu,show (n+m)*k-n*k=news.length by omega,vc]
   refine ⟨g,o,cap,w.setRow g (putL cur.toList (o+n*k) news).toArray, ?_,⟨by simp [hown.1,hl,hnm],.inr ⟨g,o,cap,_,rfl,hb,setRow_heap w g cur _ E (0,0) hg,hroom,hcm,by omega,htk2⟩⟩,⟨rfl,rfl,rfl,by simp,fun b hb' hne=>setRow_other w g b _ (fun h=>hne (by rw [h];rfl))⟩,.inl rfl,by simpa using hglt,hown.1,.inr ⟨g,o,cap,_,rfl,hb,setRow_heap w g cur _ E (0,0) hg,hnc,hcm,by omega, ?_⟩⟩
   ·simp [gt,run_underlying ht,sizeOf,typeInfo,hi,hsz,vd,hroom,hfc,Addr.add_lit,hst]
   ·have:((putL cur.toList (o+n*k) news).toArray.toList.drop o).take (n*k)=(((putL cur.toList (o+n*k) news).toArray.toList.drop o).take ((n+m)*k)).take (n*k):=by rw [List.take_take,Nat.min_eq_left (by omega)]
    rw [this,htk2,←hown.1,vc]
theorem mK (inv:Inv n0 Bx w B η H){s x:Operand}{t E k by_ id:Nat}{i:TypeInfo}{z:Value}{cells l:List AV}(ho:o.op= .call ⟨.builtin .append, #[s,x], #[t,t]⟩)
  (hse:Rel w B η (.own id) (ρ s)) (hxe:Rel w B η (ρA x) (ρ x))
  (ht:P.underlying t=some (.slice E)) (hi:P.info? E=some i) (hz:i.zero=some z) (hsz:i.size=k) (hby:i.bytes=by_) (hzs:z.cells.size=k) (hk:1≤k)
  (hH:H[id]? =some (.own cells E k)) (hs:srcA H k (ρA x)=some l) (h1:l.all AV.one=true) (himm:(cells++l).all AV.imm0=true) (hm:(cells.length+l.length) / k≤maxLen) (hb:(cells.length+l.length) / k*by_≤140737488355328):
  ∃ v' w',(execOp ρ o).run P w= .ok (.value v') w'∧On B w w'∧Bel n0 Bx w w'∧Inv n0 Bx w' B η H∧∀ (B':List Nat) (η':List Value),(∀ b∈B',b∈B)→(∀ b,aO (η.getD id undef)=some b→b∉B')→Rel w' B' η' (.sl (cells++l) k) v':=by
 cases hse':ρ s with
 | slice a0 nn0 cc0=>
  rw [hse'] at hse
  cases hse with
  | own _ _ _ _ _ hid=>
  have hent:=inv.ent id _ hH
  have hg0:η.getD id undef= .slice a0 nn0 cc0:=by simp [List.getD_eq_getElem?_getD,hid]
  rw [hg0] at hent
  rw [hg0]
  obtain ⟨n,us,hown,hrel,_,hbl⟩:=hent
  obtain rfl:=hown.len
  obtain ⟨A,m,c,vs,hv,hn,hA,hr⟩:=et hxe hk hs
  have hlc:cells.length=nn0*k:=by rw [←hrel.1];exact hown.1
  have hos:∀ b,(vn a0 nn0 cc0).ownBlock=some b→aO (.slice a0 nn0 cc0)=some b:=fun b hb=>by
   rcases hown.2 with ⟨hv0,_⟩ | ⟨g,oo,cap,cur,hv0,_⟩ <;> rw [hv0] at hb ⊢ <;> exact hb
  have hrow:∀ {w':World} {v':Value} {n':Nat} {us':List Value} {cs:List AV} {η2:List Value},bw w' n0 E k v' n' us'→RelL w' B η2 cs us'→cs.all AV.imm0=true→∀ (B':List Nat) (η':List Value),(∀ b∈B',b∈B)→(∀ b,v'.ownBlock=some b→b∉B')→Rel w' B' η' (.sl cs k) v':=by
   intro w' v' n' us' cs η2 ho' hr' hi' B' η' hB' hb'
   have hlen:n'*k=cs.length:=by rw [←hr'.1];exact ho'.1.symm
   have hrel':∀ i x,cs[i]? =some x→Rel w' B' [] x (us'.getD i undef):=fun i x hx=>by
    obtain ⟨u,q1,q2⟩:=hr'.2 i x hx
    rw [List.getD_eq_getElem?_getD,q1,u2]
    exact ((q2.bare0 (uK.1 hi' x (vg hx))):Rel w' B [] x u).on (On.refl B w') (fun b hb=>.inl (hB' b hb)) (fun _ _ h=>h)
   rcases ho'.2 with ⟨hv0,hn0⟩ | ⟨g,oo,cap,cur,hv0,hbb,hgg,hnc,hcm,hsz',htk⟩
   ·subst hv0 hn0
    exact .sl _ _ _ _ _ _ _ hk hlen (uH _) (Nat.zero_le _) (fun h0=>absurd h0 (by omega)) hrel'
   ·subst hv0
    refine .sl _ _ _ _ _ _ _ hk hlen hnc hcm (fun h0=>⟨_,rfl,rfl,(Array.getElem?_eq_some_iff.1 hgg).1,hb' g rfl,fun i hi=> ?_⟩) hrel'
    have hi'':i<us'.length:=by rw [hr'.1];exact hi
    rw [u3,ho'.cells i _ (List.getElem?_eq_getElem hi''),List.getD_eq_getElem?_getD,List.getElem?_eq_getElem hi'',u2]
  rcases vf m with hm0 | hmp
  ·have hl0:l=[]:=uI (by rw [←hn,hm0];simp)
   subst hl0
   have hrun0:=ew (P:=P) (w:=w) (ty:=o.type) (A:=A) (c:=c) ht hi (by rw [hsz];exact hown) hm0
   refine ⟨.slice a0 nn0 cc0,w, ?_,On.refl _ _,Bel.refl _ _ _,inv,fun B' η' hB' hb'=> ?_⟩
   ·simp only [execOp,ho,resolve,invoke,builtin,eq,uS,ne,u4,u5,vh,hv,hse',hrun0]
   ·rw [List.append_nil] at himm ⊢
    exact hrow hown hrel himm B' η' hB' (fun b hb=>hb' b (hos b hb))
  ·obtain ⟨ad,hA1,hat⟩:=hA hmp
   subst hA1
   have hnews:RelL w B η l ((uP l.length).map vs):=⟨by simp,fun i y hy=>by
    have hlt:i<l.length:=(List.getElem?_eq_some_iff.1 hy).1
    exact ⟨vs i,by simp [hlt],(hr i y hy).any⟩⟩
   have hdiv:(cells.length+l.length) / k=nn0+m:=by rw [hlc,←hn,←uV];exact uY _ hk
   rw [hdiv] at hm hb
   obtain ⟨g,og,cap,w',hrun,hown',hgrow,hg,hglt,hkeep⟩:=ij (P:=P) (ty:=o.type) ht hi hz hsz hby hzs hk hown ad m c ((uP l.length).map vs)
    (by simp [hn]) (fun j u hj=>by
     have hlt:j<l.length:=by have:=(List.getElem?_eq_some_iff.1 hj).1;simpa using this
     rw [hat.cell j hlt]
     simp [hlt] at hj
     rw [hj]) (hnews.one h1) hmp hm hb inv.base.1
   have hon:On B w w':=⟨hgrow.os,hgrow.tape,hgrow.output,hgrow.size,fun b hb hn=>.of (hgrow.block b hb (fun h=>hn (hbl b h.symm).1))⟩
   have hbelow:Bel n0 Bx w w':=⟨⟨hgrow.os,hgrow.tape,hgrow.output,hgrow.size,fun b hb=>hgrow.block b (by have:=inv.base.1;omega) (fun h=>by
    have hlt:n0≤b:=by
     rcases hown.2 with ⟨hv0,_⟩ | ⟨g',oo,cap',cur,hv0,hb',_⟩
     ·rw [hv0] at h;cases h
     ·rw [hv0] at h;simp [u1] at h;omega
    omega)⟩,fun b hb hl=>hgrow.block b hl (fun h=>(hbl b h.symm).2 hb)⟩
   refine ⟨.slice (some ⟨g,og,none⟩) (nn0+m) cap,w', ?_,hon,hbelow, ?_,fun B' η' hB' hb'=> ?_⟩
   ·simp only [execOp,ho,resolve,invoke,builtin,eq,uS,ne,u4,u5,vh,hv,hse',hrun]
   ·refine ⟨inv.len,⟨vb inv.base.1 hgrow.size,inv.base.2.on hon (fun _ h=>.inl h)⟩,inv.sub,fun b hb=>uJ (inv.lt b hb) hgrow.size,fun j e he=> ?_,inv.sep⟩
    by_cases hj:j=id
    ·subst hj
     rw [hH] at he
     injection he with he
     subst he
     rw [hg0]
     exact ⟨nn0,us,hkeep,hrel.on hon (fun _ h=>.inl h) (fun _ _ h=>h),hk,hbl⟩
    ·refine aF.keep (inv.ent j e he) hon (fun _ h=>.inl h) (fun _ h=>h) (fun _ _ h=>h) (fun hl b hb=> ?_)
     have hlt:=(aF.lt (inv.ent j e he) hl b hb).1
     refine hgrow.block b hlt (fun h=> ?_)
     have:=inv.sep id j _ e (fun h=>hj h.symm) hH he rfl hl b (by rw [hg0];exact hos b h.symm)
     exact this hb
   ·refine hrow hown' ((hrel.append hnews).on hon (fun _ h=>.inl h) (fun _ _ h=>h)) himm B' η' hB' (fun b hb hc=> ?_)
    simp [u1] at hb
    subst hb
    rcases hg with h | h
    ·exact hb' _ (hos _ h) hc
    ·have:=inv.lt _ (hB' _ hc)
     omega
 | _=>rw [hse'] at hse;cases hse
end
structure Arr (α:Type) (n:Nat) where
 l:List α
 h:l.length=n
inductive Td where
 | int (k:IntKind)
 | bool
 | str
 | sl (d:Td)
 | arr (n:Nat) (d:Td)
 | pair (d e:Td)
 deriving DecidableEq
@[reducible] def T:Td→Type
 | .int _=>Int
 | .bool=>Bool
 | .str=>List UInt8
 | .sl d=>List (T d)
 | .arr n d=>Arr (T d) n
 | .pair d e=>T d×T e
def wd:Td→Nat
 | .arr n d=>n*wd d
 | .pair d e=>wd d+wd e
 | _=>1
def cells:(d:Td)→T d→List AV
 | .int k,n=>[.c (.int k n)]
 | .bool,b=>[.c (.bool b)]
 | .str,s=>[.c (.string ⟨s.toArray⟩)]
 | .sl d,l=>[.sl (l.flatMap (cells d)) (wd d)]
 | .arr n d,a=>a.l.flatMap (cells d)
 | .pair d e,x=>cells d x.1++cells e x.2
theorem dx {α β:Type}(f:α→List β)(k:Nat):∀ (l:List α),(∀ x,(f x).length=k)→(l.flatMap f).length=l.length*k
 | [],_=>by simp
 | x::l,h=>by simp only [List.flatMap_cons,uZ,h x,dx f k l h,List.length_cons];rw [uV];omega
theorem aH:∀ (d:Td) (x:T d),(cells d x).length=wd d
 | .int _,_=>rfl
 | .bool,_=>rfl
 | .str,_=>rfl
 | .sl _,_=>rfl
 | .arr n d,a=>by
  have:=dx (cells d) (wd d) a.l (aH d)
  rw [a.h] at this
  exact this
 | .pair d e,x=>by simp [cells,wd,aH d x.1,aH e x.2]
theorem dU:∀ (d:Td) (x:T d),(cells d x).all AV.imm0=true
 | .int _,_=>rfl
 | .bool,_=>rfl
 | .str,_=>rfl
 | .sl _,_=>rfl
 | .arr n d,a=>by
  simp only [cells,List.all_flatMap,uK]
  exact fun x _=>uK.1 (dU d x)
 | .pair d e,x=>by simp [cells,List.all_append,dU d x.1,dU e x.2]
theorem gm:∀ (d:Td) (x:T d),(cells d x).all AV.one=true
 | .int _,_=>rfl
 | .bool,_=>rfl
 | .str,_=>rfl
 | .sl _,_=>rfl
 | .arr n d,a=>by
  simp only [cells,List.all_flatMap,uK]
  exact fun x _=>uK.1 (gm d x)
 | .pair d e,x=>by simp [cells,List.all_append,gm d x.1,gm e x.2]
def flat (d:Td)(l:List (T d)):List AV:=l.flatMap (cells d)
theorem am (d:Td)(l:List (T d)):(flat d l).length=l.length*wd d:=dx _ _ _ (aH d)
theorem a6 (d:Td)(l m:List (T d)):flat d (l++m)=flat d l++flat d m:=List.flatMap_append
theorem ch (d:Td)(x:T d)(l:List (T d)):flat d (x::l)=cells d x++flat d l:=rfl
theorem cq (d:Td)(l:List (T d)):(flat d l).all AV.imm0=true:=by
 simp only [flat,List.all_flatMap,uK]
 exact fun x _=>uK.1 (dU d x)
theorem dt (d:Td)(l:List (T d)):(flat d l).all AV.one=true:=by
 simp only [flat,List.all_flatMap,uK]
 exact fun x _=>uK.1 (gm d x)
theorem df (d:Td):∀ (l:List (T d)) (n:Nat),flat d (l.drop n)=(flat d l).drop (n*wd d)
 | l,0=>by simp
 | [],n+1=>by simp [flat]
 | x::l,n+1=>by
  rw [List.drop_succ_cons,df d l n,ch,List.drop_append,aH]
  have e1:(n+1)*wd d-wd d=n*wd d:=by rw [uV];omega
  have e2:(cells d x).drop ((n+1)*wd d)=[]:=List.drop_eq_nil_of_le (by rw [aH,uV];omega)
  rw [e1,e2,List.nil_append]
theorem cS (d:Td):∀ (l:List (T d)) (n:Nat),flat d (l.take n)=(flat d l).take (n*wd d)
 | l,0=>by simp [flat]
 | [],n+1=>by simp [flat]
 | x::l,n+1=>by
  rw [List.take_succ_cons,ch,cS d l n,ch,vl,aH]
  have e1:(n+1)*wd d-wd d=n*wd d:=by rw [uV];omega
  have e2:(cells d x).take ((n+1)*wd d)=cells d x:=uT (by rw [aH,uV];omega)
  rw [e1,e2]
theorem pB (d:Td)(l:List (T d))(i:Nat)(x:T d)(h:l[i]? =some x):((flat d l).drop (i*wd d)).take (wd d)=cells d x:=by
 have hi:i<l.length:=(List.getElem?_eq_some_iff.1 h).1
 rw [←df,List.drop_eq_getElem_cons hi,ch]
 rw [List.getElem?_eq_getElem hi] at h
 injection h with h
 rw [h,List.take_append_of_le_length (by rw [aH];exact uH _),uT (by rw [aH];exact uH _)]
inductive V where
 | any
 | c (v:Value)
 | str (s:List UInt8)
 | agg (l:List V)
 | arr (d:Td) (n:Nat) (a:Arr (T d) n)
 | tup (l:List V)
 | lst (d:Td) (l:List (T d))
 | fre (d:Td) (l:List (T d))
 | emp
 | adr (l:List V)
 | box (id off:Nat)
 | boxi (id off:Nat) (d:Td) (n:Nat) (i o:Nat)
 | own (id:Nat)
 | oadr (id:Nat) (d:Td) (i o:Nat)
 | clo (f:FuncId) (caps:List V)
 | bsl (id n:Nat)
 | nn
 deriving Inhabited
def segA:V→List AV
 | .c v=>[.c v]
 | .str s=>[.c (.string ⟨s.toArray⟩)]
 | .arr d n a=>flat d a.l
 | .lst d l=>[.sl (flat d l) (wd d)]
 | .fre d l=>[.sl (flat d l) (wd d)]
 | .emp=>[.emp]
 | .box id off=>[.box id off]
 | .own id=>[.own id]
 | .nn=>[.nn]
 | _=>[]
def al (l:List V):List AV:=l.flatMap segA
def ex0:V→AV
 | .c v=>.c v
 | .str s=>.c (.string ⟨s.toArray⟩)
 | .agg l=>.agg (al l)
 | .arr d n a=>.agg (flat d a.l)
 | .lst d l=>.sl (flat d l) (wd d)
 | .fre d l=>.fresh (flat d l) (wd d)
 | .emp=>.emp
 | .adr l=>.adr (al l)
 | .box id off=>.box id off
 | .boxi id off d n i o=>.box id (off+i*wd d+o)
 | .own id=>.own id
 | .oadr id d i o=>.oadr id (i*wd d+o)
 | .nn=>.nn
 | _=>.c undef
def ex:V→AV
 | .tup l=>.tup (l.map ex0)
 | x=>ex0 x
def V.plain:V→Bool
 | .any=>false
 | .clo _ _=>false
 | .bsl _ _=>false
 | _=>true
def V.cap:V→Bool
 | .any | .clo _ _ | .bsl _ _ | .fre _ _=>false
 | _=>true
theorem V.cap_plain {x:V}(h:x.cap=true):x.plain=true:=by cases x <;> first | rfl | cases h
theorem bX:al []=[]:=rfl
theorem aj (x:V)(l:List V):al (x::l)=segA x++al l:=rfl
theorem a5 (l m:List V):al (l++m)=al l++al m:=List.flatMap_append
def enc:(d:Td)→T d→List V
 | .int k,n=>[.c (.int k n)]
 | .bool,b=>[.c (.bool b)]
 | .str,s=>[.str s]
 | .sl d,l=>[.lst d l]
 | .arr n d,a=>[.arr d n a]
 | .pair d e,x=>enc d x.1++enc e x.2
theorem bt:∀ (d:Td) (x:T d),al (enc d x)=cells d x
 | .int _,_=>rfl
 | .bool,_=>rfl
 | .str,_=>rfl
 | .sl _,_=>rfl
 | .arr n d,a=>by simp [enc,al,segA,cells,flat]
 | .pair d e,x=>by simp only [enc,a5,bt d x.1,bt e x.2,cells]
inductive Tree (R:Type):Type 1 where
 | done (r:R)
 | fail
 | tail (m:Option R)
 | ite (b:Bool) (x y:Tree R)
 | bind {α:Type} (m:Option α) (k:α→Tree R)
 | cases {α β:Type} (o:Sum α β) (f:α→Tree R) (g:β→Tree R)
def Tree.run {R:Type}:Tree R→Option R
 | .done r=>some r
 | .fail=>none
 | .tail m=>m
 | .ite b x y=>cond b x.run y.run
 | .bind m k=>m.bind fun a=>(k a).run
 | .cases o f g=>match o with
  | .inl a=>(f a).run
  | .inr b=>(g b).run
theorem Tree.run_ite {R:Type}{b:Bool}{x y:Tree R}{r:R}(h:(Tree.ite b x y).run=some r):(b=true∧x.run=some r)∨(b=false∧y.run=some r):=by
 cases b
 ·exact .inr ⟨rfl,h⟩
 ·exact .inl ⟨rfl,h⟩
theorem Tree.run_bind {R α:Type}{m:Option α}{k:α→Tree R}{r:R}(h:(Tree.bind m k).run=some r):∃ a,m=some a∧(k a).run=some r:=by
 cases m with
 | none=>cases h
 | some a=>exact ⟨a,rfl,h⟩
def dflt:(d:Td)→T d
 | .int _=>(0:Int)
 | .bool=>false
 | .str=>([]:List UInt8)
 | .sl d=>([]:List (T d))
 | .arr n d=>⟨List.replicate n (dflt d),by simp⟩
 | .pair d e=>(dflt d,dflt e)
def Arr.nil {α:Type}:Arr α 0:=⟨[],rfl⟩
def Arr.cons {α:Type}{n:Nat}(x:α)(a:Arr α n):Arr α (n+1):=⟨x::a.l,by simp [a.h]⟩
def Arr.set {α:Type}{n:Nat}(a:Arr α n)(i:Nat)(x:α):Arr α n:=⟨a.l.set i x,by simp [a.h]⟩
def dk {R:Type}(d d':Td)(F:Td→Type)(x:F d)(k:F d'→Tree R):Tree R:=
 match decEq d d' with
 | isTrue h=>@Eq.rec Td d (fun d' _=>(F d'→Tree R)→Tree R) (fun k=>k x) d' h k
 | isFalse _=>.fail
def tu {R α:Type}(n n':Nat)(a:Arr α n)(k:Arr α n'→Tree R):Tree R:=
 match decEq n n' with
 | isTrue h=>@Eq.rec Nat n (fun n' _=>(Arr α n'→Tree R)→Tree R) (fun k=>k a) n' h k
 | isFalse _=>.fail
def decN {R α:Type}(f:List V→(α→List V→Tree R)→Tree R):(n:Nat)→List V→(Arr α n→List V→Tree R)→Tree R
 | 0,segs,k=>k .nil segs
 | n+1,segs,k=>f segs fun x r=>decN f n r fun a r'=>k (.cons x a) r'
def decK {R:Type}:(d:Td)→List V→(T d→List V→Tree R)→Tree R
 | .int k,segs,f=>match segs with
  | .c (.int k' n)::r=>if k=k' then f n r else .fail
  | _=>.fail
 | .bool,segs,f=>match segs with
  | .c (.bool b)::r=>f b r
  | _=>.fail
 | .str,segs,f=>match segs with
  | .str s::r=>f s r
  | _=>.fail
 | .sl d,segs,f=>match segs with
  | .lst d' l::r=>dk d' d (fun d=>List (T d)) l fun l=>f l r
  | .fre d' l::r=>dk d' d (fun d=>List (T d)) l fun l=>f l r
  | .c (.slice none 0 0)::r=>if 1≤wd d then f [] r else .fail
  | .emp::r=>if 1≤wd d then f [] r else .fail
  | _=>.fail
 | .arr n d,segs,f=>match segs with
  | .arr d' n' a::r=>if n'=n∧d'=d then tu n' n a fun a=>dk d' d (fun d=>Arr (T d) n) a fun a=>f a r else decN (decK d) n segs f
  | segs=>decN (decK d) n segs f
 | .pair d e,segs,f=>decK d segs fun x r=>decK e r fun y r'=>f (x,y) r'
def Wk (l m:List AV):Prop:=∀ (w:World) (B:List Nat) (η us:List Value),RelL w B η l us→RelL w B η m us
theorem Wk.refl (l:List AV):Wk l l:=fun _ _ _ _ h=>h
theorem Wk.trans {a b c:List AV}(h:Wk a b)(k:Wk b c):Wk a c:=fun w B η us hu=>k w B η us (h w B η us hu)
theorem RelL.split {w:World}{B:List Nat}{η us:List Value}{l m:List AV}(h:RelL w B η (l++m) us):RelL w B η l (us.take l.length)∧RelL w B η m (us.drop l.length):=by
 have h1:=h.take l.length
 have h2:=h.drop l.length
 rw [vc] at h1
 rw [List.drop_left] at h2
 exact ⟨h1,h2⟩
theorem Wk.app {a b c d:List AV}(h:Wk a b)(k:Wk c d):Wk (a++c) (b++d):=fun w B η us hu=>by
 obtain ⟨h1,h2⟩:=hu.split
 have:=(h w B η _ h1).append (k w B η _ h2)
 rwa [List.take_append_drop] at this
theorem Wk.one {x y:AV}(h:∀ (w:World) (B:List Nat) (η:List Value) (v:Value),Rel w B η x v→Rel w B η y v):Wk [x] [y]:=fun w B η us hu=>by
 match us,hu with
 | [],hu=>have:=hu.1;simp at this
 | [u],hu=>
  obtain ⟨u',h1,h2⟩:=hu.2 0 x rfl
  simp at h1;subst h1
  exact RelL.cons (h _ _ _ _ h2) (RelL.nil _ _ _)
 | _::_::_,hu=>have:=hu.1;simp at this
theorem gw {w:World}{B:List Nat}{η:List Value}{v:Value}{k:Nat}(hk:1≤k)(h:Rel w B η (.c (.slice none 0 0)) v):Rel w B η (.sl [] k) v:=by
 cases h
 exact .sl _ _ _ _ _ _ (fun _=>undef) hk (by simp) (uH _) (Nat.zero_le _) (fun h=>absurd h (by omega)) (fun i x hx=>by simp at hx)
theorem jo {w:World}{B:List Nat}{η:List Value}{v:Value}{k:Nat}(hk:1≤k)(h:Rel w B η .emp v):Rel w B η (.sl [] k) v:=by
 cases h
 exact .sl _ _ _ _ _ _ (fun _=>undef) hk (by simp) (uH _) (Nat.zero_le _) (fun h=>absurd h (by omega)) (fun i x hx=>by simp at hx)
theorem aU {R:Type}{d d':Td}{F:Td→Type}{x:F d}{k:F d'→Tree R}{r:R}(h:(dk d d' F x k).run=some r):∃ e:d=d',(k (e▸x)).run=some r:=by
 unfold dk at h
 split at h
 ·rename_i e _;subst e;exact ⟨rfl,h⟩
 ·cases h
theorem pQ {R α:Type}{n n':Nat}{a:Arr α n}{k:Arr α n'→Tree R}{r:R}(h:(tu n n' a k).run=some r):∃ e:n=n',(k (e▸a)).run=some r:=by
 unfold tu at h
 split at h
 ·rename_i e _;subst e;exact ⟨rfl,h⟩
 ·cases h
theorem gK {R:Type}{d:Td}{f:List V→(T d→List V→Tree R)→Tree R}(hf:∀ segs k r,(f segs k).run=some r→∃ x rest,(k x rest).run=some r∧Wk (al segs) (cells d x++al rest)):
  ∀ (n:Nat) (segs:List V) (k:Arr (T d) n→List V→Tree R) (r:R),(decN f n segs k).run=some r→∃ a rest,(k a rest).run=some r∧Wk (al segs) (flat d a.l++al rest)
 | 0,segs,k,r,h=>⟨.nil,segs,h,Wk.refl _⟩
 | n+1,segs,k,r,h=>by
  obtain ⟨x,rest,h1,h2⟩:=hf _ _ _ h
  obtain ⟨a,rest',h3,h4⟩:=gK hf n _ _ _ h1
  refine ⟨_,rest',h3,h2.trans ?_⟩
  simp only [Arr.cons,ch,uW]
  exact (Wk.refl _).app h4
theorem bU {R:Type}:∀ (d:Td) (segs:List V) (k:T d→List V→Tree R) (r:R),(decK d segs k).run=some r→∃ x rest,(k x rest).run=some r∧Wk (al segs) (cells d x++al rest)
 | .int kk,segs,k,r,h=>by
  unfold decK at h
  split at h
  ·split at h
   ·rename_i hk;subst hk;exact ⟨_,_,h,Wk.refl _⟩
   ·cases h
  ·cases h
 | .bool,segs,k,r,h=>by
  unfold decK at h
  split at h
  ·exact ⟨_,_,h,Wk.refl _⟩
  ·cases h
 | .str,segs,k,r,h=>by
  unfold decK at h
  split at h
  ·exact ⟨_,_,h,Wk.refl _⟩
  ·cases h
 | .sl d,segs,k,r,h=>by
  unfold decK at h
  split at h
  ·obtain ⟨e,h⟩:=aU h
   subst e
   exact ⟨_,_,h,Wk.refl _⟩
  ·obtain ⟨e,h⟩:=aU h
   subst e
   exact ⟨_,_,h,Wk.refl _⟩
  ·split at h
   ·rename_i hk
    exact ⟨_,_,h,(Wk.one fun w B η v hv=>gw hk hv).app (Wk.refl _)⟩
   ·cases h
  ·split at h
   ·rename_i hk
    exact ⟨_,_,h,(Wk.one fun w B η v hv=>jo hk hv).app (Wk.refl _)⟩
   ·cases h
  ·cases h
 | .arr n d,segs,k,r,h=>by
  unfold decK at h
  split at h
  ·split at h
   ·obtain ⟨e,h⟩:=pQ h
    subst e
    obtain ⟨e,h⟩:=aU h
    subst e
    exact ⟨_,_,h,Wk.refl _⟩
   ·exact gK (bU d) n _ k r h
  ·exact gK (bU d) n segs k r h
 | .pair d e,segs,k,r,h=>by
  unfold decK at h
  obtain ⟨x,rest,h1,h2⟩:=bU d _ _ _ h
  obtain ⟨y,rest',h3,h4⟩:=bU e _ _ _ h1
  refine ⟨_,rest',h3,h2.trans ?_⟩
  simp only [cells,uW]
  exact (Wk.refl _).app h4
def wV:V→Nat
 | .arr d n _=>n*wd d
 | .c _ | .str _ | .lst _ _ | .fre _ _ | .emp | .box _ _ | .own _ | .nn=>1
 | _=>0
theorem lF (x:V):(segA x).length=wV x:=by
 cases x <;> first | rfl | skip
 rename_i d n a
 simp only [segA,wV,am,a.h]
def wL:List V→Nat
 | []=>0
 | x::l=>wV x+wL l
theorem ep:∀ l:List V,(al l).length=wL l
 | []=>rfl
 | x::l=>by rw [aj,uZ,lF,ep l];rfl
def expl (d:Td)(l:List (T d)):Nat→Nat→List V
 | _,0=>[]
 | i,n+1=>enc d (l.getD i (dflt d))++expl d l (i+1) n
theorem pE (d:Td)(l:List (T d)):∀ n i,i+n=l.length→al (expl d l i n)=flat d (l.drop i)
 | 0,i,h=>by rw [List.drop_of_length_le (by omega)];rfl
 | n+1,i,h=>by
  have hi:i<l.length:=by omega
  rw [expl,a5,bt,pE d l n (i+1) (by omega),List.drop_eq_getElem_cons hi,ch,List.getD_eq_getElem?_getD,List.getElem?_eq_getElem hi,u2]
def rq (d:Td)(n:Nat)(a:Arr (T d) n):List V:=expl d a.l 0 n
theorem ka (d:Td)(n:Nat)(a:Arr (T d) n):al (rq d n a)=flat d a.l:=by
 have:=pE d a.l n 0 (by simp [a.h])
 rw [List.drop_zero] at this
 exact this
def fj:Nat→List V→Nat→Option (List V)
 | 0,_,_=>none
 | f+1,segs,n=>if n=0 then some segs else match segs with
  | []=>none
  | s::r=>if wV s≤n then fj f r (n-wV s) else match s with
   | .arr d m a=>fj f (rq d m a++r) n
   | _=>none
def kv:Nat→List V→Nat→Option (List V)
 | 0,_,_=>none
 | f+1,segs,n=>if n=0 then some [] else match segs with
  | []=>none
  | s::r=>if wV s≤n then (match kv f r (n-wV s) with | some t=>some (s::t) | none=>none) else match s with
   | .arr d m a=>kv f (rq d m a++r) n
   | _=>none
theorem cr:∀ (f:Nat) (segs:List V) (n:Nat) (t:List V),fj f segs n=some t→al t=(al segs).drop n∧n≤(al segs).length
 | 0,_,_,_,h=>by cases h
 | f+1,segs,n,t,h=>by
  unfold fj at h
  split at h
  ·rename_i hn;subst hn;injection h with h;subst h;simp
  ·split at h
   ·cases h
   ·rename_i s r
    split at h
    ·rename_i hle
     obtain ⟨h1,h2⟩:=cr f r _ t h
     rw [aj,List.drop_append,List.drop_eq_nil_of_le (by rw [lF];exact hle),List.nil_append,lF,h1,uZ,lF]
     exact ⟨rfl,by omega⟩
    ·split at h
     ·rename_i d m a _
      obtain ⟨h1,h2⟩:=cr f _ _ t h
      rw [a5,ka] at h1 h2
      exact ⟨h1,h2⟩
     ·cases h
theorem eV:∀ (f:Nat) (segs:List V) (n:Nat) (t:List V),kv f segs n=some t→al t=(al segs).take n∧n≤(al segs).length
 | 0,_,_,_,h=>by cases h
 | f+1,segs,n,t,h=>by
  unfold kv at h
  split at h
  ·rename_i hn;subst hn;injection h with h;subst h;simp [bX]
  ·split at h
   ·cases h
   ·rename_i s r
    split at h
    ·rename_i hle
     split at h
     ·rename_i t' ht
      injection h with h;subst h
      obtain ⟨h1,h2⟩:=eV f r _ _ ht
      rw [aj,aj,vl,uT (by rw [lF];exact hle),lF,h1,uZ,lF]
      exact ⟨rfl,by omega⟩
     ·cases h
    ·split at h
     ·rename_i d m a _
      obtain ⟨h1,h2⟩:=eV f _ _ t h
      rw [a5,ka] at h1 h2
      exact ⟨h1,h2⟩
     ·cases h
def scal:V→Option V
 | .c v=>some (.c v)
 | .str s=>some (.str s)
 | .lst d l=>some (.lst d l)
 | .emp=>some .emp
 | .box i o=>some (.box i o)
 | .own i=>some (.own i)
 | .nn=>some .nn
 | .arr d n a=>match rq d n a with
  | [.c v]=>some (.c v)
  | [.str s]=>some (.str s)
  | [.lst d l]=>some (.lst d l)
  | _=>none
 | _=>none
theorem sr {x y:V}(h:scal x=some y):segA x=[ex y]∧y.plain=true∧(∀ l k,ex y≠.fresh l k)∧(∀ l,ex y≠.tup l):=by
 unfold scal at h
 split at h
 all_goals first | (injection h with h;subst h;exact ⟨rfl,rfl,fun _ _ h=>by simp [ex,ex0] at h,fun _ h=>by simp [ex,ex0] at h⟩) | skip
 ·rename_i d n a
  have he:=ka d n a
  split at h
  all_goals first | (rename_i hx;rw [hx] at he;injection h with h;subst h;refine ⟨?_,rfl,fun _ _ h=>by simp [ex,ex0] at h,fun _ h=>by simp [ex,ex0] at h⟩;simp only [segA];rw [←he];rfl) | cases h
 ·cases h
abbrev big:Nat:=5000
def nQ (P:Program)(t:TypeId)(segs:List V)(off:Nat):Option V:=
 match fj big segs off with
 | some r=>match rowT P t with
  | some true=>(match kv big r (P.cellsOf t) with | some l=>some (.agg l) | none=>none)
  | some false=>(match kv big r 1 with | some [x]=>scal x | _=>none)
  | none=>none
 | none=>none
theorem fS {P:Program}{t:TypeId}{segs:List V}{off:Nat}{r:V}(h:nQ P t segs off=some r):gy P t (al segs) off=some (ex r)∧r.plain=true∧(∀ l k,ex r≠.fresh l k):=by
 unfold nQ at h
 split at h
 ·rename_i rr hd
  obtain ⟨h1,h2⟩:=cr _ _ _ _ hd
  split at h
  ·rename_i hrow
   split at h
   ·rename_i l hl
    injection h with h;subst h
    obtain ⟨h3,h4⟩:=eV _ _ _ _ hl
    refine ⟨?_,rfl,fun _ _ h=>by simp [ex,ex0] at h⟩
    simp only [gy,hrow,ex,ex0]
    rw [h1,vj] at h4
    rw [if_pos (by omega),h3,h1]
   ·cases h
  ·rename_i hrow
   split at h
   ·rename_i x hl
    obtain ⟨h3,h4⟩:=eV _ _ _ _ hl
    obtain ⟨h5,h6,h7,_⟩:=sr h
    refine ⟨?_,h6,h7⟩
    simp only [gy,hrow]
    rw [aj,bX,List.append_nil,h5,h1] at h3
    have:=congrArg (·[0]?) h3
    simp at this
    exact this.symm
   ·cases h
  ·cases h
 ·cases h
def putV (segs:List V)(off:Nat)(new:List V):Option (List V):=
 match kv big segs off,fj big segs (off+wL new) with
 | some p,some q=>some (p++new++q)
 | _,_=>none
theorem jS {segs new r:List V}{off:Nat}(h:putV segs off new=some r):al r=putL (al segs) off (al new)∧off+(al new).length≤(al segs).length:=by
 unfold putV at h
 split at h
 ·rename_i p q h1 h2
  injection h with h;subst h
  obtain ⟨a1,a2⟩:=eV _ _ _ _ h1
  obtain ⟨b1,b2⟩:=cr _ _ _ _ h2
  rw [←ep] at b1 b2
  rw [a5,a5,a1,b1]
  exact ⟨rfl,b2⟩
 ·cases h
def ck:Value→V
 | .string s=>.str s.data.toList
 | v=>.c v
theorem dS (v:Value):ex (ck v)= .c v:=by
 cases v <;> first | rfl | skip
theorem ot (v:Value):segA (ck v)=[.c v]:=by
 cases v <;> first | rfl | skip
theorem eK (v:Value):(ck v).plain=true:=by cases v <;> rfl
theorem a9 (l:List Value):al (l.map ck)=l.map .c:=by
 induction l with
 | nil=>rfl
 | cons v l ih=>rw [u5,aj,ot,ih];rfl
def dz:V→Option (List V)
 | .c (.agg cs)=>some (cs.toList.map ck)
 | .c v=>some [.c v]
 | .str s=>some [.str s]
 | .agg l=>some l
 | .arr d n a=>some [.arr d n a]
 | .lst d l=>some [.lst d l]
 | .fre d l=>some [.lst d l]
 | .emp=>some [.emp]
 | .box i o=>some [.box i o]
 | .own i=>some [.own i]
 | .nn=>some [.nn]
 | _=>none
def eu (x:V):AV:=unf (ex x)
theorem cY {x:V}{l:List V}(h:dz x=some l):(eu x).toL=al l∧iD (eu x)=true∧x.plain=true:=by
 unfold dz at h
 split at h
 all_goals first
  | (injection h with h;subst h;refine ⟨?_,rfl,rfl⟩;simp [eu,ex,ex0,unf,AV.toL,al,segA];done)
  | (injection h with h;subst h;refine ⟨?_,rfl,rfl⟩;simp only [eu,ex,ex0,unf,AV.toL,a9];done)
  | (injection h with h;subst h;refine ⟨?_,rfl,rfl⟩;rename_i v hv;cases v <;> first | rfl | exact absurd rfl (hv _))
  | cases h
def tdOf (P:Program):Nat→TypeId→Option Td
 | 0,_=>none
 | n+1,t=>match P.underlying t with
  | some (.int k)=>some (.int k)
  | some .bool=>some .bool
  | some .string=>some .str
  | some (.slice e)=>(match tdOf P n e with | some d=>some (.sl d) | none=>none)
  | some (.array m e)=>(match tdOf P n e with | some d=>some (.arr m d) | none=>none)
  | some (.struct fs)=>tdFs (tdOf P n) fs.toList
  | _=>none
where tdFs (f:TypeId→Option Td):List Field→Option Td
 | []=>none
 | [a]=>f a.type
 | a::as'=>match f a.type,tdFs f as' with
  | some d,some e=>some (.pair d e)
  | _,_=>none
def dV (P:Program)(e:TypeId):V→Option (Sigma fun d=>List (T d))
 | .lst d l=>some ⟨d,l⟩
 | .fre d l=>some ⟨d,l⟩
 | .emp=>(match tdOf P 12 e with | some d=>if 1≤wd d then some ⟨d,[]⟩ else none | none=>none)
 | .c (.slice none 0 0)=>(match tdOf P 12 e with | some d=>if 1≤wd d then some ⟨d,[]⟩ else none | none=>none)
 | _=>none
theorem jH {P:Program}{e:TypeId}{x:V}{s:Sigma fun d=>List (T d)}(h:dV P e x=some s){w:World}{B:List Nat}{η:List Value}{v:Value}(hr:Rel w B η (ex x) v):Rel w B η (.sl (flat s.1 s.2) (wd s.1)) v:=by
 unfold dV at h
 split at h
 ·injection h with h;subst h;exact hr
 ·injection h with h;subst h;exact hr.unf
 ·split at h
  ·split at h
   ·rename_i hw;injection h with h;subst h;exact jo hw hr
   ·cases h
  ·cases h
 ·split at h
  ·split at h
   ·rename_i hw;injection h with h;subst h;exact gw hw hr
   ·cases h
  ·cases h
 ·cases h
theorem lG {P:Program}{e:TypeId}{x:V}{s:Sigma fun d=>List (T d)}(h:dV P e x=some s):x.plain=true:=by
 unfold dV at h
 split at h <;> first | rfl | cases h
def Rel2 (w:World)(B:List Nat)(η:List Value)(x:V)(v:Value):Prop:=
 match x with
 | .any=>True
 | .clo f caps=>∃ vs:List Value,v= .func (.func f) #[] vs.toArray∧vs.length=caps.length∧∀ (i:Nat) c,caps[i]? =some c→∃ u,vs[i]? =some u∧c.cap=true∧Rel w B η (ex c) u
 | .bsl id n=>∃ b,η[id]? =some (.pointer (some ⟨b,0,none⟩))∧v= .slice (some ⟨b,0,none⟩) n n
 | x=>Rel w B η (ex x) v
section
variable {w w':World} {B B':List Nat} {η η':List Value}
theorem Rel2.get {x:V}{v:Value}(h:Rel2 w B η x v)(hp:x.plain=true):Rel w B η (ex x) v:=by
 cases x <;> first | exact h | cases hp
theorem Rel2.of {x:V}{v:Value}(hp:x.plain=true)(h:Rel w B η (ex x) v):Rel2 w B η x v:=by
 cases x <;> first | exact h | cases hp
theorem Rel2.on {x:V}{v:Value}(h:Rel2 w B η x v)(g:On B w w')(hB:∀ b∈B',b∈B∨w.heap.size≤b)(he:∀ (id:Nat) v,η[id]? =some v→η'[id]? =some v):Rel2 w' B' η' x v:=by
 cases x with
 | any=>trivial
 | clo f caps=>
  obtain ⟨vs,h1,h2,h3⟩:=h
  exact ⟨vs,h1,h2,fun i c hc=>by obtain ⟨u,a,b,c⟩:=h3 i c hc;exact ⟨u,a,b,c.on g hB he⟩⟩
 | bsl id n=>obtain ⟨b,h1,h2⟩:=h;exact ⟨b,he _ _ h1,h2⟩
 | _=>exact Rel.on h g hB he
theorem Rel2.gk {n0:Nat}{x:V}{v:Value}(h:Rel2 w B η x v)(g:Gk n0 B w w'):Rel2 w' B η x v:=h.on g.on (fun _ hb=>.inl hb) (fun _ _ h=>h)
end
inductive E2 where
 | dead
 | box (l:List V) (T:TypeId)
 | own (d:Td) (l:List (T d)) (E:TypeId)
 | itr (s:List UInt8) (pos:Int)
 deriving Inhabited
def exE:E2→Ent
 | .dead=>.dead
 | .box l T=>.box (al l) T
 | .own d l E=>.own (flat d l) E (wd d)
 | .itr s pos=>.itr ⟨s.toArray⟩ pos.toNat
def OpK (P:Program)(n0:Nat)(w:World)(ρ:Operand→Value)(o:Oper)(B:List Nat)(η:List Value)(r:V):Prop:=
 ∀ N:Value→World→Prop,(∀ v w',Gk n0 B w w'→Rel2 w' B η r v→au n0 (ex r) v→N v w')→Oper.val P ρ o w N
def Does (P:Program)(H:List E2)(ρ:Operand→V)(o:Oper)(r:V):Prop:=
 ∀ (n0:Nat) (Bx:List Nat) (w:World) (B:List Nat) (η:List Value) (ρv:Operand→Value),Inv n0 Bx w B η (H.map exE)→(∀ x∈o.op.operands,Rel2 w B η (ρ x) (ρv x)∧au n0 (ex (ρ x)) (ρv x))→OpK P n0 w ρv o B η r
theorem OpK.of {P:Program}{n0:Nat}{w:World}{ρ:Operand→Value}{o:Oper}{B:List Nat}{η:List Value}{r:V}(hp:r.plain=true)(hf:∀ l k,ex r≠.fresh l k)(h:OpOK P n0 w ρ o B η (ex r)):OpK P n0 w ρ o B η r:=fun N hN=>
 h N fun v w' g hr=>hN v w' g (Rel2.of hp hr) (fun hfr=>by generalize ex r=y at hf hfr;cases y <;> first | exact absurd rfl (hf _ _) | cases hfr)
end Go.Proofs.Ytmndainldhmnjaa
