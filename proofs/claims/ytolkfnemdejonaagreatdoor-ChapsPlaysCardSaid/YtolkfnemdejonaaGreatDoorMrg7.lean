/-
  Parts of my own, one behind the other: Rep.
-/
import Derived.Test.YtolkfnemdejonaaGreatDoorMrg4
import Derived.Test.YtolkfnemdejonaaGreatDoorMrg1
import Derived.Laws.CopyOwn
import Derived.Lib.MakeNoZero
import Derived.Deep.RegionLaw
open List renaming replicate→gt
open Go.Proofs.Tryz renaming prog→ne
namespace Go.Proofs.YtolkfnemdejonaaGreatDoor
set_option maxRecDepth 100000
open Go.RowKit
set_option linter.unusedVariables false
set_option maxRecDepth 100000 in
set_option maxHeartbeats 3200000 in
theorem ahx (w:World):Calls ne 179 #[.int .u64 1,.int .u64 40] w fun e w'=>e= .returned (.tuple #[.int .u64 0,.int .u64 40])∧w'=w:=by
 have b1:bits .and .u64 1 4294967295=1:=by kernel_rfl
 have b40:bits .and .u64 40 4294967295=40:=by kernel_rfl
 have b0:bits .and .u64 0 4294967295=0:=by kernel_rfl
 go_enter Tryz.func179,Tryz.ntmps179
 go_wp2
 go_ret2
 exact ⟨rfl,rfl⟩
theorem BS (w0 w:World)(B g k n:Nat)(sA:Addr)(sLen sCap dLen dCap:Nat)(cur:List Value)(hg:w.heap[g]? =some (.cells cur.toArray 5 (0,0)))(hn:n=Nat.min sLen dLen)
  (hsrc:∀ j,j<n→w.cell? (sA.add j)=some (.int .u8 242)) (hfit:k+n≤cur.length) (hpre:∀ j,j<k→cur[j]? =some (.int .u8 242)) (hb:Below B w0 w) (hB:B≤g):
  ∃ (cur':List Value) (w':World),(Builtin.copy_ #[28,28] 3 #[.slice (some ⟨g,k,none⟩) dLen dCap,.slice (some sA) sLen sCap]).run ne w= .ok (.int .i64 (n:Int)) w'∧
   w'.heap[g]? =some (.cells cur'.toArray 5 (0,0))∧cur'.length=cur.length∧(∀ j,j<k+n→cur'[j]? =some (.int .u8 242))∧Below B w0 w':=by
 have hl:(gt n (Value.int .u8 242)).length=n:=by simp
 have h:=run_copy_row (P:=ne) w 28 28 3 5 g k dLen dCap sA sLen sCap cur.toArray 5 (gt n (.int .u8 242)) Tryz.underlying28 (by kernel_rfl) hg (by rw [hl];exact hn)
  (fun j v hj=>by
   rw [List.getElem?_replicate] at hj
   split at hj
   ·rename_i h;cases hj;exact hsrc j h
   ·cases hj) (by rw [hl];simpa using hfit) (fun v hv=>by rw [(List.mem_replicate.1 hv).2];rfl)
 rw [hl] at h
 refine ⟨_,_,h,setRow_heap w g _ _ _ _ hg, ?_, ?_,below_setRow hb hB _⟩
 ·simp;omega
 ·intro j hj
  simp only [List.append_assoc]
  rw [List.getElem?_append]
  split
  ·rename_i h1
   simp at h1
   rw [List.getElem?_take,if_pos (by omega)]
   exact hpre j (by omega)
  ·rename_i h1
   simp at h1
   rw [List.getElem?_append_left (by simp;omega),List.getElem?_replicate,if_pos (by simp;omega)]
def asA (w0:World)(g m:Nat)(w:World):Prop:=Below g w0 w∧∃ cur:List Value,w.heap[g]? =some (.cells cur.toArray 5 (0,0))∧40≤cur.length∧∀ j,j<m→cur[j]? =some (.int .u8 242)
theorem art {P:Program}{ops:Array Oper}{o:Oper}{a:Act}{w:World}{K:Act→World→Prop}{Q:Exit→Act→World→Prop}{E:Prop}(hgd:o.guard=none)(d s:Operand)(dT sT:TypeId)
  (ho:o.op= .call { callee:=.builtin .copy,args:= #[d,s],argTypes:= #[dT,sT] }) (x y:Value) (hd:a.eval d=x) (hs:a.eval s=y) (v:Value) (Φ:World→Prop)
  (hrun:∃ w',(Builtin.copy_ #[dT,sT] o.type #[x,y]).run P w= .ok v w'∧Φ w') (h:∀ w',RowKit.Hid (Φ w')→K (a.put o.dst v) w'):
  if Region.wanted o (yielded ops a.tmps)=true then Oper.wp P o a w K Q else E:=by
 have hw:Region.wanted o (yielded ops a.tmps)=true:=by simp [Region.wanted,hgd]
 rw [if_pos hw]
 obtain ⟨w',hr,hp⟩:=hrun
 unfold Oper.wp
 simp [execOp,ho,resolve,invoke,builtin,hd,hs,hr,Result.andThen]
 exact h w' hp
set_option maxRecDepth 100000 in
set_option maxHeartbeats 3200000 in
theorem ahh (a:Addr)(c:Nat)(w:World)(hc:w.cell? a=some (.int .u8 242))(ha:a.block<w.heap.size):
  Calls ne 154 #[.slice (some a) 1 c,.int .i64 40] w fun e w'=>∃ cur:List Value,e= .returned (.slice (some ⟨w.heap.size,0,none⟩) 40 40)∧Below w.heap.size w w'∧w'.heap[w.heap.size]? =some (.cells cur.toArray 5 (0,0))∧40≤cur.length∧∀ j,j<40→cur[j]? =some (.int .u8 242):=by
 have hmk:∀ w:World,∃ cs:List Value,40≤cs.length∧(callFunc 180 #[.int .i64 40]).run ne w= .ok (.value (.slice (some ⟨w.heap.size,0,none⟩) 40 cs.length)) (w.drew.drew.alloc (.cells cs.toArray 5)):=fun w=>by
  obtain ⟨cs,hrunM,hle,_⟩:=Lib.run_makeNoZero (P:=ne) w #[3] 28 5 Tryz.underlying28 40 (by omega)
  refine ⟨cs.toList,by simpa using hle, ?_⟩
  rw [run_callFunc_extern Tryz.func180 (by kernel_rfl) (by kernel_rfl) (by kernel_rfl) (e:=Extern.BytealgMakeNoZero.makeNoZero #[3] #[28]) (by kernel_rfl)]
  rw [show (Value.int .i64 40)=Value.int .i64 ((40:Nat):Int) from rfl,hrunM,Array.toArray_toList,Array.length_toList]
  rfl
 go_enter Tryz.func154,Tryz.ntmps154
 go_wp2_with fail
 refine (ahx _).mono ?_
 rintro e w' ⟨rfl,rfl⟩
 obtain ⟨cs,hcs,hcall⟩:=hmk w'
 have i1:(40:Int)≤(cs.length:Int):=by omega
 have hnew:(w'.alloc (.cells cs.toArray 5)).drew.drew.heap[w'.heap.size]? =some (.cells cs.toArray 5 (0,0)):=heap_alloc_new w' _
 have hbel:Below w'.heap.size w' (w'.alloc (.cells cs.toArray 5)).drew.drew:=ro ((Below.refl _ _).alloc (Nat.le_refl _) _) 2
 obtain ⟨cur1,w1,hcp,hg1,hl1,hc1,hb1⟩:=BS w' (w'.alloc (.cells cs.toArray 5)).drew.drew w'.heap.size w'.heap.size 0 1 a 1 c 40 40 cs hnew rfl (fun j hj=>by
  obtain rfl:j=0:=by omega
  have e0:a.add 0=a:=by unfold Addr.add;simp
  rw [e0]
  exact (hbel.cell ha).trans hc) (by omega) (fun j hj=>by omega) hbel (Nat.le_refl _)
 rw [hl1.symm] at hcs
 clear hnew hbel hl1
 go_wp2_with fail
 go_loopw [10] (fun bp wr=>∃ (k:Nat) (cur:List Value),1≤k∧k≤40∧bp= .int .i64 k∧Below w'.heap.size w' wr∧wr.heap[w'.heap.size]? =some (.cells cur.toArray 5 (0,0))∧40≤cur.length∧∀ j,j<k→cur[j]? =some (.int .u8 242)) (fun bp _=>40-(intOf bp).toNat)
 case atStart=>exact ⟨1,cur1,by omega,by omega,rfl,hb1,hg1,hcs,hc1⟩
 case round=>
  obtain ⟨k,cur,hk1,hk2,rfl,hbr,hgr,hlr,hcr⟩:=hrel
  by_cases hlt:k<40
  ·have hcp:∀ q,∃ w2,(Builtin.copy_ #[28,28] 3 #[.slice (some ⟨w'.heap.size,k,none⟩) (40-k) (40-k),.slice (some ⟨w'.heap.size,0,none⟩) k 40]).run ne (wr.drewN q)= .ok (.int .i64 ((min k (40-k):Nat):Int)) w2∧asA w' w'.heap.size (k+min k (40-k)) w2:=fun q=>by
    obtain ⟨cur2,w2,h1,h2,h3,h4,h5⟩:=BS w' (wr.drewN q) w'.heap.size w'.heap.size k (min k (40-k)) ⟨w'.heap.size,0,none⟩ k 40 (40-k) (40-k) cur hgr rfl (fun j hj=>by
     show (wr.drewN q).cell? _=_
     have:(Addr.mk w'.heap.size 0 none).add j=⟨w'.heap.size,j,none⟩:=by unfold Addr.add;simp;omega
     rw [this]
     have hx:cur.toArray[j]? =some (Value.int .u8 242):=by simpa using hcr j (by omega)
     show (match wr.heap[w'.heap.size]? with | some (.cells cs _ _)=>_ | _=>_)=_
     rw [hgr]
     exact hx) (by omega) hcr (ro hbr q) (Nat.le_refl _)
    exact ⟨w2,h1,h5,cur2,h2,by omega,h4⟩
   have c40:(k:Int)≤40:=by omega
   have c0:(0:Int)≤(k:Int):=by omega
   have c41:¬ (40=k):=by omega
   obtain ⟨w2,hcp2,hw2⟩:=hcp 1
   have hcp3:(Builtin.copy_ #[28,28] 3 #[.slice (some ⟨w'.heap.size,k,none⟩) (40-k) (40-k),.slice (some ⟨w'.heap.size,0,none⟩) k 40]).run ne wr.drew= .ok (.int .i64 ((min k (40-k):Nat):Int)) w2:=hcp2
   have Hw2:=Lib.hid hw2
   obtain ⟨mn,hmn⟩:∃ mn,mn=min k (40-k):=⟨_,rfl⟩
   rw [←hmn] at hcp3 Hw2
   have hm1:1≤mn∧mn≤40-k:=by omega
   clear hcp hcp2 hw2 hmn hcr
   go_wp2
   go_region
   all_goals
    go_wp2
    go_roundw
    case rel=>
     obtain ⟨hB,cur2,hg2,hl2,hc2⟩:=Hw2.out
     exact ⟨k+mn,cur2,by omega,by omega,by go_num,hB,hg2,hl2,hc2⟩
    case measure=>simp [intOf];omega
  ·have hk:k=40:=by omega
   subst hk
   go_wp2
   go_ret
   exact ⟨cur,rfl,hbr,hgr,hlr,hcr⟩
theorem atK:kR ne 154 [.lst (.int .u8) [242],.c (.int .i64 40)] (.lst (.int .u8) (gt 40 242)):=by
 intro w B cargs hB hgl hlen hrel
 obtain ⟨v0,e0,r0⟩:=hrel 0 _ rfl
 obtain ⟨v1,e1,r1⟩:=hrel 1 _ rfl
 have hc:cargs=[v0,v1]:=by
  match cargs,hlen,e0,e1 with
  | [a,b],_,e0,e1=>simp at e0 e1;rw [e0,e1]
 have q1:=Rel.ofC r1
 subst q1 hc
 have r0':Rel w B [] (.sl [.c (.int .u8 242)] 1) v0:=r0
 cases r0' with
 | sl _ l k A n c us hk hn hc hm hA hr=>
  have hn1:n=1:=by simpa using hn
  subst hn1
  obtain ⟨ad,rfl,hat⟩:=hA (by omega)
  have hu:=Rel.ofC (hr 0 _ rfl)
  have hcell:=hat.cell 0 (by decide)
  rw [hu] at hcell
  have e0:ad.add 0=ad:=by unfold Addr.add;simp
  rw [e0] at hcell
  refine (ahh ad c w hcell hat.lt).mono ?_
  rintro e w' ⟨cur,rfl,hb,hg,hl,hcs⟩
  refine ⟨_,rfl,hb, ?_⟩
  have hlt:w.heap.size<w'.heap.size:=(Array.getElem?_eq_some_iff.1 hg).1
  have hfl:flat (.int .u8) (gt 40 (242:Int))=gt 40 (.c (.int .u8 242)):=by kernel_rfl
  show Rel w' B [] (.sl (flat (.int .u8) (gt 40 (242:Int))) 1) _
  rw [hfl]
  refine .sl _ _ _ _ 40 40 (fun _=>.int .u8 242) (by omega) (by simp) (by omega) (by decide) (fun _=>⟨_,rfl,rfl,hlt,fun h=> ?_,fun i hi=> ?_⟩) (fun i x hx=> ?_)
  ·exact absurd (hB _ h) (Nat.lt_irrefl _)
  ·have e:(Addr.mk w.heap.size 0 none).add i=⟨w.heap.size,i,none⟩:=by unfold Addr.add;simp;omega
   rw [e]
   show (match w'.heap[w.heap.size]? with | some (.cells cs _ _)=>_ | _=>_)=_
   rw [hg]
   have:=hcs i (by simpa using hi)
   simpa using this
  ·rw [List.getElem?_replicate] at hx
   split at hx
   ·cases hx;exact .c _ _
   ·cases hx
def repK {R:Type}(args:List V)(k:V→Tree R):Tree R:=match args with
 | [.lst (.int .u8) l,.c (.int .i64 n)]=>bif decide ((l:List Int)=[242])&&decide (n=40) then k (.lst (.int .u8) (gt 40 (242:Int))) else .fail
 | _=>.fail
theorem ary {R:Type}:∀ args (k:V→Tree R) res,(repK args k).run=some res→∃ r,(k r).run=some res∧r.plain=true∧(∀ l k,ex r≠.fresh l k)∧yg ne 154 args r:=by
 intro args k res h
 unfold repK at h
 split at h
 ·rename_i l n
  cases hc:(decide ((l:List Int)=[242])&&decide (n=40)) with
  | true=>
   rw [hc] at h
   simp only [Bool.and_eq_true,decide_eq_true_eq] at hc
   obtain ⟨h1,rfl⟩:=hc
   subst h1
   exact ⟨_,h,rfl,(fun l k h=>by cases h),atK.toV ⟨_,Tryz.func154,by decide +kernel,fun h=>by
    have h2:(Tryz.f154).body.isSome=true:=by kernel_rfl
    rw [h] at h2
    cases h2⟩⟩
  | false=>rw [hc] at h;cases h
 ·cases h
end Go.Proofs.YtolkfnemdejonaaGreatDoor
