/-
  Parts of my own, one behind the other: KC, QBase, KOpen, KRead, KD, KM, GCp, QBase2, Qg1.
-/
import Derived.Test.YtmndainldhmnjaaMrg3
import Derived.ProofKit
import Derived.OpenShut
import Derived.ShutString
import Derived.ChangeOld
open List renaming length→eq, getD→uI, set→uJ, length_map→uK, length_take→uP, length_drop→uQ
open Option renaming bind→ge, map_eq_some_iff→uL
open Go.IntKind renaming wrap→gt
open Go.Proofs.Try renaming prog→ne
open Int renaming toNat→uH
open Bool renaming and_eq_true→uM
open LT renaming lt→uN
open Array renaming getD_eq_getD_getElem?→uO
open Nat renaming le_refl→uR
namespace Go.Proofs.Ytmndainldhmnjaa
set_option maxRecDepth 100000
open Go.RowKit
set_option linter.unusedVariables false
set_option linter.unusedSimpArgs false
def gl {C O:Type}(G:(C→Option O)→C→Option O):Nat→C→Option O
 | 0,_=>none
 | n+1,c=>G (gl G n) c
@[reducible] def OT:List (Exit×Shape)→Type
 | []=>Empty
 | [e]=>CT e.2
 | e::e2::es=>CT e.2 ⊕ OT (e2::es)
def encO (n:Nat):(es:List (Exit×Shape))→OT es→Exit×S2
 | [],o=>nomatch o
 | [e],o=>(e.1,stOf e.2 n o)
 | e::e2::es,o=>match o with
  | .inl c=>(e.1,stOf e.2 n c)
  | .inr o=>encO n (e2::es) o
def nq:Exit→Exit→Bool
 | .normal,.normal=>true
 | .ret,.ret=>true
 | .exit i,.exit j=>i==j
 | _,_=>false
theorem lk {x y:Exit}(h:nq x y=true):x=y:=by
 unfold nq at h
 split at h
 ·rfl
 ·rfl
 ·simp only [beq_iff_eq] at h;rw [h]
 ·cases h
section
variable {R:Type}
def lq (n:Nat):(es:List (Exit×Shape))→OT es→(Exit→S2→Tree R)→Tree R
 | [],_,_=>.fail
 | [e],o,k=>k e.1 (stOf e.2 n o)
 | e::e2::es,o,k=>.cases o (fun c=>k e.1 (stOf e.2 n c)) (fun o=>lq n (e2::es) o k)
theorem gM (n:Nat):∀ (es:List (Exit×Shape)) (o:OT es) (k:Exit→S2→Tree R),(lq n es o k).run=(k (encO n es o).1 (encO n es o).2).run
 | [],o,_=>nomatch o
 | [e],o,k=>rfl
 | e::e2::es,.inl c,k=>rfl
 | e::e2::es,.inr o,k=>gM n (e2::es) o k
def decO (P:Program)(m0 n:Nat)(ow:List (Nat×TypeId)):(es:List (Exit×Shape))→Exit→S2→(OT es→Tree R)→Tree R
 | [],_,_,_=>.fail
 | [e],x,st,k=>if nq x e.1=true then fB P m0 ow e.2 n st k else .fail
 | e::e2::es,x,st,k=>if nq x e.1=true then fB P m0 ow e.2 n st fun c=>k (.inl c) else decO P m0 n ow (e2::es) x st fun o=>k (.inr o)
theorem mz {P:Program}{m0 n:Nat}{ow:List (Nat×TypeId)}:∀ (es:List (Exit×Shape)) (x:Exit) (st:S2) (k:OT es→Tree R) (res:R),(decO P m0 n ow es x st k).run=some res→
  ∃ o,(k o).run=some res∧x=(encO n es o).1∧∀ (n0:Nat) (Bx:List Nat) (ds:List Deferred) (a:Act) (w:World) (B:List Nat) (η:List Value),SimK n0 Bx ds st a w B η→∃ B' η',SimK n0 Bx ds (encO n es o).2 a w B' η'∧Goes n0 Bx m0 w B η w B' η'
 | [],x,st,k,res,h=>by cases h
 | [e],x,st,k,res,h=>by
  unfold decO at h
  split at h
  ·rename_i he
   obtain ⟨c,h1,h2⟩:=eU h
   exact ⟨c,h1,lk he,h2⟩
  ·cases h
 | e::e2::es,x,st,k,res,h=>by
  unfold decO at h
  split at h
  ·rename_i he
   obtain ⟨c,h1,h2⟩:=eU h
   exact ⟨.inl c,h1,lk he,h2⟩
  ·obtain ⟨o,h1,h2,h3⟩:=mz (e2::es) x st _ res h
   exact ⟨.inr o,h1,h2,h3⟩
structure LI where
 n:Nat
 m0:Nat
 ow:List (Nat×TypeId)
 sh:Shape
 outs:List (Exit×Shape)
def gQ (P:Program)(Γ:(R:Type)→Env R)(fuel:Nat)(path:List Nat)(li:LI)(body:Code)(X:CT li.sh→Option (OT li.outs))(c:CT li.sh):Tree (OT li.outs):=
 evK P (Γ (OT li.outs)) fuel path li.m0 body (stOf li.sh li.n c) fun ex st'=>match ex with
  | .normal=>fB P li.m0 li.ow li.sh li.n st' fun c'=>.tail (X c')
  | ex=>decO P li.m0 li.n li.ow li.outs ex st' fun o=>.done o
def lpK (P:Program)(li:LI)(G:(CT li.sh→Option (OT li.outs))→CT li.sh→Option (OT li.outs))(N:Nat)(st:S2)(k:Exit→S2→Tree R):Tree R:=
 fB P li.m0 li.ow li.sh li.n st fun c=>.bind (gl G N c) fun o=>lq li.n li.outs o k
def ql (P:Program)(m0:Nat)(body:Code)(lp:S2→(Exit→S2→Tree R)→Tree R):Prop:=
 ∀ st k res,(lp st k).run=some res→∃ ex st',(k ex st').run=some res∧Ends P m0 (.loop body) st ex st'
end
section
variable {P:Program} {Γ:(R:Type)→Env R}
theorem po (hm:P.follows .mixedOrders=true){li:LI}{G:(CT li.sh→Option (OT li.outs))→CT li.sh→Option (OT li.outs)}{fuel:Nat}{path:List Nat}{body:Code}
  (hΓ:EnvOK P (Γ (OT li.outs))) (hok:okC2 (Γ (OT li.outs)).inl body=true) (hsub:∀ c'∈aK body,c'∈bY P path)
  (hstep:∀ X c,(gQ P Γ fuel path li body X c).run=G X c):∀ (N:Nat) (c:CT li.sh) (o:OT li.outs),gl G N c=some o→
  ∀ (n0:Nat) (Bx:List Nat) (ds:List Deferred) (a:Act) (w:World) (B:List Nat) (η:List Value) (Q:Exit→Act→World→Prop),SimK n0 Bx ds (stOf li.sh li.n c) a w B η→
   (∀ a' w' B' η',SimK n0 Bx ds (encO li.n li.outs o).2 a' w' B' η'→Goes n0 Bx li.m0 w B η w' B' η'→Q (encO li.n li.outs o).1 a' w')→Code.rounds P body Q N a w
 | 0,c,o,h=>by cases h
 | N+1,c,o,h=>by
  intro n0 Bx ds a w B η Q hs hQ
  have h1:G (gl G N) c=some o:=h
  rw [←hstep] at h1
  obtain ⟨ex,st',h2,h3⟩:=ll hm hΓ fuel path li.m0 body _ _ o hok hsub h1
  rw [rounds_succ]
  split at h2
  ·obtain ⟨c',h4,h5⟩:=eU h2
   refine h3 n0 Bx ds a w B η _ hs fun a' w' B' η' hs' hg'=> ?_
   obtain ⟨B2,η2,hs2,hg2⟩:=h5 n0 Bx ds a' w' B' η' hs'
   exact po hm hΓ hok hsub hstep N c' o h4 n0 Bx ds a' w' B2 η2 Q hs2 fun a3 w3 B3 η3 hs3 hg3=>hQ a3 w3 B3 η3 hs3 ((hg'.trans hg2).trans hg3)
  ·rename_i hne
   obtain ⟨o',h4,h5,h6⟩:=mz _ _ _ _ _ h2
   simp only [Tree.run,Option.some.injEq] at h4
   subst h4
   refine h3 n0 Bx ds a w B η _ hs fun a' w' B' η' hs' hg'=> ?_
   obtain ⟨B2,η2,hs2,hg2⟩:=h6 n0 Bx ds a' w' B' η' hs'
   rw [lH (fun hc=>hne hc),h5]
   exact hQ a' w' B2 η2 hs2 (hg'.trans hg2)
theorem kU {R:Type}(hm:P.follows .mixedOrders=true){li:LI}{G:(CT li.sh→Option (OT li.outs))→CT li.sh→Option (OT li.outs)}{fuel:Nat}{path:List Nat}{body:Code}
  (hΓ:EnvOK P (Γ (OT li.outs))) (hok:okC2 (Γ (OT li.outs)).inl body=true) (hsub:∀ c'∈aK body,c'∈bY P path)
  (hstep:∀ X c,(gQ P Γ fuel path li body X c).run=G X c) (N:Nat):ql (R:=R) P li.m0 body (lpK P li G N):=by
 intro st k res h
 obtain ⟨c,h1,h2⟩:=eU h
 obtain ⟨o,h3,h4⟩:=Tree.run_bind h1
 rw [gM] at h4
 refine ⟨_,_,h4,fun n0 Bx ds a w B η Q hs hQ=> ?_⟩
 obtain ⟨B1,η1,hs1,hg1⟩:=h2 n0 Bx ds a w B η hs
 exact wp_loop_rounds N (po hm hΓ hok hsub hstep N c o h3 n0 Bx ds a w B1 η1 Q hs1 fun a' w' B' η' hs' hg'=>hQ a' w' B' η' hs' (hg1.trans hg'))
def Env.addLp (Γ:(R:Type)→Env R)(path:List Nat)(m0 key:Nat)(lp:(R:Type)→S2→(Exit→S2→Tree R)→Tree R):(R:Type)→Env R:=fun R=>
 { Γ R with lp:=fun p m k st kk=>if p=path∧m=m0∧k=key then lp R st kk else (Γ R).lp p m k st kk }
def eg (P:Program)(path:List Nat)(key:Nat):Code:=match (bY P path).filter (fun c=>ez c==key) with
 | [c]=>c
 | _=>.skip
def jV (P:Program)(path:List Nat)(key:Nat):Bool:=match (bY P path).filter (fun c=>ez c==key) with
 | [_]=>true
 | _=>false
theorem kV {path:List Nat}{key:Nat}(h:jV P path key=true){c:Code}(hc:c∈bY P path)(hk:ez c=key):c=eg P path key:=by
 unfold jV at h
 unfold eg
 have hm:c∈(bY P path).filter (fun c=>ez c==key):=List.mem_filter.2 ⟨hc,by simp [hk]⟩
 split at h
 ·rename_i c0 he
  rw [he] at hm
  simp only [List.mem_singleton] at hm
  rw [hm]
 ·cases h
theorem EnvOK.addLp {R:Type}(hΓ:EnvOK P (Γ R)){path:List Nat}{m0 key:Nat}{lp:(R:Type)→S2→(Exit→S2→Tree R)→Tree R}(h1:jV P path key=true)(h2:ql P m0 (eg P path key) (lp R)):EnvOK P (Env.addLp Γ path m0 key lp R):=by
 refine ⟨hΓ.fns,hΓ.inl,fun p m c st k res hc h=> ?_,hΓ.cln,hΓ.mth⟩
 simp only [Env.addLp] at h
 split at h
 ·rename_i hp
  obtain ⟨rfl,rfl,hk⟩:=hp
  rw [kV h1 hc hk]
  exact h2 st k res h
 ·exact hΓ.lp p m c st k res hc h
def Env.addLq (Γ:(R:Type)→Env R)(path:List Nat)(m0 key:Nat)(fit:S2→Bool)(lp:(R:Type)→S2→(Exit→S2→Tree R)→Tree R):(R:Type)→Env R:=fun R=>
 { Γ R with lp:=fun p m k st kk=>if p=path∧m=m0∧k=key then (match fit st with | true=>lp R st kk | false=>(Γ R).lp p m k st kk) else (Γ R).lp p m k st kk }
theorem EnvOK.addLq {R:Type}(hΓ:EnvOK P (Γ R)){path:List Nat}{m0 key:Nat}{fit:S2→Bool}{lp:(R:Type)→S2→(Exit→S2→Tree R)→Tree R}(h1:jV P path key=true)(h2:ql P m0 (eg P path key) (lp R)):EnvOK P (Env.addLq Γ path m0 key fit lp R):=by
 refine ⟨hΓ.fns,hΓ.inl,fun p m c st k res hc h=> ?_,hΓ.cln,hΓ.mth⟩
 simp only [Env.addLq] at h
 split at h
 ·rename_i hp
  obtain ⟨rfl,rfl,hk⟩:=hp
  split at h
  ·rw [kV h1 hc hk]
   exact h2 st k res h
  ·exact hΓ.lp _ _ c st k res hc h
 ·exact hΓ.lp p m c st k res hc h
def Env.addFn (Γ:(R:Type)→Env R)(f:FuncId)(S:(R:Type)→List V→(V→Tree R)→Tree R):(R:Type)→Env R:=fun R=>
 { Γ R with fns:=fun g args k=>if g=f then S R args k else (Γ R).fns g args k }
def Env.addInl (Γ:(R:Type)→Env R)(l:List FuncId):(R:Type)→Env R:=fun R=>{ Γ R with inl:=fun f=>l.contains f }
def Env.addMv (Γ:(R:Type)→Env R)(l:List (Nat×Nat)):(R:Type)→Env R:=fun R=>{ Γ R with mv:=fun p i=>(l.contains (p.headD 0,i)||((Γ R).mv p i).1,((Γ R).mv p i).2) }
def Env.addBx (Γ:(R:Type)→Env R)(l:List (Nat×Nat)):(R:Type)→Env R:=fun R=>{ Γ R with mv:=fun p i=>(((Γ R).mv p i).1,l.contains (p.headD 0,i)||((Γ R).mv p i).2) }
def t8 (path:List Nat)(m0 key:Nat)(st:S2):Option Unit:=none
def noFn (f:FuncId)(args:List V):Option Unit:=none
def env0:(R:Type)→Env R:=fun R=>⟨fun f args _=>.bind (noFn f args) fun _=>.fail,fun _=>false,fun p m k st _=>.bind (t8 p m k st) fun _=>.fail,fun _ _=>(false,false),fun _=>none,fun _=>false,fun _ _=>false,fun _=>none,fun _ _ _=>[]⟩
theorem cQ:∀ (d c c':Code),c∈aK d→c'∈aK c→c'∈aK d
 | .seq a b,c,c',h,h'=>by
  simp only [aK,List.mem_append] at h ⊢
  exact h.elim (fun h=>.inl (cQ a c c' h h')) (fun h=>.inr (cQ b c c' h h'))
 | .cond x a b,c,c',h,h'=>by
  simp only [aK,List.mem_append] at h ⊢
  exact h.elim (fun h=>.inl (cQ a c c' h h')) (fun h=>.inr (cQ b c c' h h'))
 | .block i a,c,c',h,h'=>by
  simp only [aK] at h ⊢
  exact cQ a c c' h h'
 | .scope a,c,c',h,h'=>by
  simp only [aK] at h ⊢
  exact cQ a c c' h h'
 | .loop a,c,c',h,h'=>by
  simp only [aK,List.mem_cons] at h ⊢
  rcases h with rfl | h
  ·exact .inr h'
  ·exact .inr (cQ a c c' h h')
 | .skip,c,c',h,h'=>by simp [aK] at h
 | .region _ _ _,c,c',h,h'=>by simp [aK] at h
 | .rangeFunc _ _ _ _,c,c',h,h'=>by simp [aK] at h
 | .exit _,c,c',h,h'=>by simp [aK] at h
 | .label _,c,c',h,h'=>by simp [aK] at h
 | .goto _,c,c',h,h'=>by simp [aK] at h
 | .ret,c,c',h,h'=>by simp [aK] at h
 | .refuse _,c,c',h,h'=>by simp [aK] at h
theorem dD {path:List Nat}{key:Nat}:∀ c'∈aK (eg P path key),c'∈bY P path:=by
 intro c' hc'
 unfold eg at hc'
 split at hc'
 ·rename_i c hc
  have hm:c∈bY P path:=(List.mem_filter.1 (by rw [hc];simp:c∈(bY P path).filter fun c=>ez c==key)).1
  unfold bY at hm ⊢
  split at hm
  ·split at hm
   ·split at hm
    ·exact cQ _ c c' hm hc'
    ·simp at hm
   ·simp at hm
  ·simp at hm
 ·simp [aK] at hc'
theorem tg (R:Type):EnvOK P (env0 R) where
 fns:=⟨fun f args k res h=>nomatch h⟩
 inl:=fun f h=>nomatch h
 lp:=fun path m0 c st k res _ h=>nomatch h
 cln:=fun f e h=>nomatch h
 mth:=fun f c h=>nomatch h
theorem EnvOK.addMv {R:Type}(hΓ:EnvOK P (Γ R))(l:List (Nat×Nat)):EnvOK P (Env.addMv Γ l R):=⟨hΓ.fns,hΓ.inl,hΓ.lp,hΓ.cln,hΓ.mth⟩
theorem EnvOK.addBx {R:Type}(hΓ:EnvOK P (Γ R))(l:List (Nat×Nat)):EnvOK P (Env.addBx Γ l R):=⟨hΓ.fns,hΓ.inl,hΓ.lp,hΓ.cln,hΓ.mth⟩
def uF (P:Program)(l:List FuncId):Bool:=l.all fun f=>match P.funcs[f]? with
 | some fn=>(match fn.body with | some c=>okC2 (fun f=>l.contains f) c&&fn.name != "runtime.NumGoroutine" | none=>false)
 | none=>false
theorem EnvOK.addInl {R:Type}(hΓ:EnvOK P (Γ R)){l:List FuncId}(h:uF P l=true):EnvOK P (Env.addInl Γ l R):=by
 refine ⟨hΓ.fns,fun f hf=> ?_,hΓ.lp,hΓ.cln,hΓ.mth⟩
 have:=List.all_eq_true.1 h f (by simpa [Env.addInl] using hf)
 split at this
 ·rename_i fn hfn
  split at this
  ·rename_i c hc
   simp only [uM,bne_iff_ne] at this
   exact ⟨fn,c,hfn,hc,this.1,this.2⟩
  ·cases this
 ·cases this
@[reducible] def RT:List Td→Type
 | []=>Unit
 | [d]=>T d
 | d::e::l=>T d×RT (e::l)
def valR:(l:List Td)→RT l→List V
 | [],_=>[]
 | [d],x=>[valV d x]
 | d::e::l,x=>valV d x.1::valR (e::l) x.2
def tupV (l:List V):V:=match l with
 | []=>.c (.tuple #[])
 | [x]=>x
 | l=>.tup l
def valA:(l:List Td)→HL l→List V
 | [],_=>[]
 | d::l,c=>valV d c.1::valA l c.2
section
variable {R:Type}
def decA:(l:List Td)→List V→(HL l→Tree R)→Tree R
 | [],xs,k=>(match xs with | []=>k () | _=>.fail)
 | d::l,xs,k=>(match xs with
  | x::xs=>decV d x fun y=>decA l xs fun z=>k (y,z)
  | []=>.fail)
def ol:(l:List Td)→List V→(RT l→Tree R)→Tree R
 | [],xs,k=>(match xs with | []=>k () | _=>.fail)
 | [d],xs,k=>(match xs with | [x]=>decV d x k | _=>.fail)
 | d::e::l,xs,k=>(match xs with
  | x::xs=>decV d x fun y=>ol (e::l) xs fun z=>k (y,z)
  | []=>.fail)
def decR (l:List Td)(r:V)(k:RT l→Tree R):Tree R:=
 match l with
 | []=>(match r with | .c (.tuple _)=>k () | _=>.fail)
 | [d]=>decV d r k
 | d::e::l=>(match r with | .tup xs=>ol (d::e::l) xs k | _=>.fail)
def pq (st:S2):S2:=cW (List.range st.heap.length) st
def runV (P:Program)(Γ:(R:Type)→Env R)(fuel:Nat)(f:FuncId)(xs:List V)(rs:List Td):Tree (RT rs):=
 match P.funcs[f]? with
 | some fn=>(match fn.body with
  | some b=>evK P (Γ (RT rs)) fuel [f] 0 b ⟨fN fn xs,[]⟩ fun ex st'=>match ex with
   | .normal=>resK P (pq st') fn.results.toList fun r=>decR rs r fun y=>.done y
   | .ret=>resK P (pq st') fn.results.toList fun r=>decR rs r fun y=>.done y
   | _=>.fail
  | none=>.fail)
 | none=>.fail
def runK (P:Program)(Γ:(R:Type)→Env R)(fuel:Nat)(f:FuncId)(ds rs:List Td)(c:HL ds):Tree (RT rs):=runV P Γ fuel f (valA ds c) rs
def fnK (ds rs:List Td)(g:HL ds→Option (RT rs))(args:List V)(k:V→Tree R):Tree R:=decA ds args fun c=>.bind (g c) fun y=>k (tupV (valR rs y))
theorem pK:∀ (l:List Td) (xs:List V) (k:HL l→Tree R) (res:R),(decA l xs k).run=some res→∃ c,(k c).run=some res∧xs.length=(valA l c).length∧∀ (i:Nat) y,(valA l c)[i]? =some y→∃ x,xs[i]? =some x∧y.plain=true∧cg (ex y)=false∧∀ (w:World) (B:List Nat) (η:List Value) (v:Value),Rel w B η (ex x) v→Rel w B η (ex y) v
 | [],xs,k,res,h=>by
  unfold decA at h
  split at h
  ·exact ⟨(),h,rfl,fun i y h=>by simp [valA] at h⟩
  ·cases h
 | d::l,xs,k,res,h=>by
  unfold decA at h
  split at h
  ·rename_i x xs
   obtain ⟨y,h1,h2,h3⟩:=iQ h
   obtain ⟨c,h4,h5,h6⟩:=pK l xs _ res h1
   refine ⟨(y,c),h4,by simp [valA,h5],fun i z hz=> ?_⟩
   cases i with
   | zero=>simp [valA] at hz;subst hz;exact ⟨x,rfl,eS d y,eT d y,h3⟩
   | succ i=>simpa using h6 i z (by simpa [valA] using hz)
  ·cases h
theorem nw {R:Type}{d:Td}{x:V}{k:T d→Tree R}{res:R}(h:(decV d x k).run=some res):ex0 x=ex x:=by
 cases x with
 | tup l=>
  unfold decV at h
  split at h
  ·simp only [dz] at h;cases h
  ·cases h
 | _=>rfl
theorem ny:∀ (l:List Td) (xs:List V) (k:RT l→Tree R) (res:R),(ol l xs k).run=some res→∃ c,(k c).run=some res∧xs.length=l.length∧xs.length=(valR l c).length∧∀ (i:Nat) y,(valR l c)[i]? =some y→∃ x,xs[i]? =some x∧ex0 x=ex x∧∀ (w:World) (B:List Nat) (η:List Value) (v:Value),Rel w B η (ex x) v→Rel w B η (ex y) v
 | [],xs,k,res,h=>by
  unfold ol at h
  split at h
  ·exact ⟨(),h,rfl,rfl,fun i y h=>by simp [valR] at h⟩
  ·cases h
 | [d],xs,k,res,h=>by
  unfold ol at h
  split at h
  ·rename_i x
   obtain ⟨y,h1,h2,h3⟩:=iQ h
   refine ⟨y,h1,rfl,rfl,fun i z hz=> ?_⟩
   cases i with
   | zero=>simp [valR] at hz;subst hz;exact ⟨x,rfl,nw h,h3⟩
   | succ i=>simp [valR] at hz
  ·cases h
 | d::e::l,xs,k,res,h=>by
  unfold ol at h
  split at h
  ·rename_i x xs
   obtain ⟨y,h1,h2,h3⟩:=iQ h
   obtain ⟨c,h4,h5,h6,h7⟩:=ny (e::l) xs _ res h1
   refine ⟨(y,c),h4,by simp [h5],by simp [valR,h6],fun i z hz=> ?_⟩
   cases i with
   | zero=>simp [valR] at hz;subst hz;exact ⟨x,rfl,nw h,h3⟩
   | succ i=>simpa using h7 i z (by simpa [valR] using hz)
  ·cases h
end
theorem kt {w:World}{B B':List Nat}{η η':List Value}{d:Td}{x:T d}{v:Value}(hB:∀ b∈B',b∈B)(h:Rel w B η (ex (valV d x)) v):Rel w B' η' (ex (valV d x)) v:=by
 refine Rel.bare (jQ hB h) ?_
 cases hd:rowD d with
 | true=>rw [jJ d x hd];exact dU d x
 | false=>
  have:=dU d x
  rw [jK d x hd] at this
  simp only [List.all_cons,List.all_nil,Bool.and_true] at this
  generalize ex (valV d x)=y at this
  cases y <;> first | exact this | cases this
theorem rt (d:Td)(x:T d):ex0 (valV d x)=ex (valV d x):=by cases d <;> rfl
theorem ku:∀ (l:List Td) (c:RT l) (i:Nat) y,(valR l c)[i]? =some y→∃ d x,y=valV d x
 | [],c,i,y,h=>by simp [valR] at h
 | [d],c,i,y,h=>by
  cases i with
  | zero=>simp [valR] at h;exact ⟨d,c,h.symm⟩
  | succ i=>simp [valR] at h
 | d::e::l,c,i,y,h=>by
  cases i with
  | zero=>simp [valR] at h;exact ⟨d,c.1,h.symm⟩
  | succ i=>exact ku (e::l) c.2 i y (by simpa [valR] using h)
theorem tl {R:Type}:∀ (l:List Td) {r:V} {k:RT l→Tree R} {res:R} (h:(decR l r k).run=some res),∃ y,(k y).run=some res∧r.plain=true∧∀ (w:World) (B B':List Nat) (η η':List Value) (v:Value),(∀ b∈B',b∈B)→Rel w B η (ex r) v→(l=[]→v= .tuple #[])→Rel w B' η' (ex (tupV (valR l y))) v
 | [],r,k,res,h=>by
  simp only [decR] at h
  split at h
  ·exact ⟨(),h,rfl,fun w B B' η η' v hB hv h0=>by rw [h0 rfl];exact .c _ _⟩
  ·cases h
 | [d],r,k,res,h=>by
  obtain ⟨y,h1,h2,h3⟩:=iQ h
  exact ⟨y,h1,h2,fun w B B' η η' v hB hv _=>kt hB (h3 w B η v hv)⟩
 | d::e::l,r,k,res,h=>by
  simp only [decR] at h
  split at h
  ·rename_i xs
   obtain ⟨y,h1,h2,h3,h4⟩:=ny _ _ _ _ h
   refine ⟨y,h1,rfl,fun w B B' η η' v hB hv _=> ?_⟩
   have hlen:(valR (d::e::l) y).length=(d::e::l).length:=by rw [←h3,h2]
   have htv:tupV (valR (d::e::l) y)= .tup (valR (d::e::l) y):=by
    match hq:valR (d::e::l) y with
    | []=>rw [hq] at hlen;simp at hlen
    | [_]=>rw [hq] at hlen;simp at hlen
    | _::_::_=>rfl
   rw [htv]
   cases hv with
   | tup _ _ cs us hs hu hr=>
    refine .tup _ _ cs us (by rw [hs,uK,uK,h3]) (fun i x hx=> ?_) (fun i x hx=> ?_)
    ·rw [List.getElem?_map,uL] at hx
     obtain ⟨z,hz,rfl⟩:=hx
     obtain ⟨x0,q1,q2,q3⟩:=h4 i z hz
     exact hu i (ex0 x0) (by rw [List.getElem?_map,q1];rfl)
    ·rw [List.getElem?_map,uL] at hx
     obtain ⟨z,hz,rfl⟩:=hx
     obtain ⟨x0,q1,q2,q3⟩:=h4 i z hz
     obtain ⟨d',x',rfl⟩:=ku _ _ _ _ hz
     have h0:=hr i (ex0 x0) (by rw [List.getElem?_map,q1];rfl)
     rw [q2] at h0
     rw [rt]
     exact kt hB (q3 w B η _ h0)
  ·cases h
theorem oE:∀ (l:List Td) (c:HL l) (i:Nat) x,(valA l c)[i]? =some x→x.plain=true∧cg (ex x)=false:=fun l=>by
 induction l with
 | nil=>intro c i x hx;simp [valA] at hx
 | cons d l ih=>
  intro c i x hx
  cases i with
  | zero=>simp [valA] at hx;subst hx;exact ⟨eS d c.1,eT d c.1⟩
  | succ i=>exact ih c.2 i x (by simpa [valA] using hx)
theorem ss (hm:P.follows .mixedOrders=true){f:FuncId}{xs:List V}{rs:List Td}(hΓ:EnvOK P (Γ (RT rs))){fuel:Nat}(hf:∃ fn c,P.funcs[f]? =some fn∧fn.body=some c∧okC2 (Γ (RT rs)).inl c=true∧fn.name≠ "runtime.NumGoroutine" ∧(rs=[]→fn.results= #[])) (hxs:∀ (i:Nat) x,xs[i]? =some x→x.plain=true∧cg (ex x)=false) {y:RT rs} (h:(runV P Γ fuel f xs rs).run=some y):jc P f xs (tupV (valR rs y)):=by
 obtain ⟨fn,b,hfn,hb,hok,hnm,hres⟩:=hf
 unfold runV at h
 rw [hfn] at h
 simp only [hb] at h
 obtain ⟨ex1,st',h1,h2⟩:=ll hm hΓ fuel [f] 0 b _ _ y hok (fun c' hc'=>by simp only [bY,hfn,hb];exact hc') h
 intro w B cargs hB hgl hlen hrel
 refine calls_of_wp hfn hb ?_
 have hsim:SimK w.heap.size B [] ⟨fN fn xs,[]⟩ { tmps:=cargs.toArray++Array.replicate (fn.ntmps-cargs.toArray.size) undef,defers:=[] } w B []:=by
  refine ⟨rfl,⟨rfl,⟨uR _,hgl⟩,fun b hb=>hb,hB,fun id e h=>by simp at h,fun i j ei ej _ h=>by simp at h⟩,fM ⟨hlen,fun i x hx=> ?_⟩⟩
  obtain ⟨v,q1,q2⟩:=hrel i x hx
  obtain ⟨q3,q4⟩:=hxs i x hx
  exact ⟨v,q1,Rel2.of q3 q2,fun h=>by rw [q4] at h;cases h⟩
 refine h2 w.heap.size B [] _ w B [] _ hsim fun a' w' B' η' hs hg=> ?_
 obtain ⟨B2,hs2,hg2⟩:=cm (m0:=0) (List.range st'.heap.length) st' B' hs
 have key:∀ {r:V} {k:V→Tree (RT rs)},(decR rs r fun y=>.done y).run=some y→(∀ (n0:Nat) (Bx:List Nat) (ds:List Deferred) (a:Act) (w:World) (B:List Nat) (η:List Value),SimK n0 Bx ds (pq st') a w B η→∃ v,(results fn a.tmps).run P w= .ok v w∧Rel2 w B η r v∧au n0 (ex r) v)→∃ v,(results fn a'.tmps).run P w'= .ok v w'∧Rel w' B [] (ex (tupV (valR rs y))) v:=by
  intro r k hr hv
  obtain ⟨y',q1,q2,q3⟩:=tl _ hr
  simp only [Tree.run,Option.some.injEq] at q1
  subst q1
  obtain ⟨v,g1,g2,_⟩:=hv _ _ _ a' w' B2 η' hs2
  have h0:rs=[]→v= .tuple #[]:=fun h=>by
   have:=hres h
   unfold results at g1
   rw [this] at g1
   simp at g1
   exact g1.symm
  have hB0:∀ b∈B,b∈B2:=fun b hb=>(hs2.inv.sub b hb)
  exact ⟨v,g1,q3 w' B2 B η' [] v hB0 (g2.get q2) h0⟩
 split at h1
 ·obtain ⟨r,q1,q2⟩:=im h1
  obtain ⟨v,g1,g2⟩:=key (k:=fun _=>.fail) q1 q2
  exact ⟨hs.defers,v,g1,v,rfl,hg.below.below,g2⟩
 ·obtain ⟨r,q1,q2⟩:=im h1
  obtain ⟨v,g1,g2⟩:=key (k:=fun _=>.fail) q1 q2
  exact ⟨hs.defers,v,g1,v,rfl,hg.below.below,g2⟩
 ·cases h1
theorem oN (hm:P.follows .mixedOrders=true){f:FuncId}{ds rs:List Td}(hΓ:EnvOK P (Γ (RT rs))){fuel:Nat}(hf:∃ fn c,P.funcs[f]? =some fn∧fn.body=some c∧okC2 (Γ (RT rs)).inl c=true∧fn.name≠ "runtime.NumGoroutine" ∧(rs=[]→fn.results= #[])) {c:HL ds} {y:RT rs} (h:(runK P Γ fuel f ds rs c).run=some y):jc P f (valA ds c) (tupV (valR rs y)):=by
 unfold runK at h
 exact ss hm hΓ hf (oE ds c) h
def okFn (P:Program)(inl:FuncId→Bool)(f:FuncId)(rs:List Td):Bool:=match P.funcs[f]? with
 | some fn=>(match fn.body with
  | some c=>okC2 inl c&&fn.name != "runtime.NumGoroutine" &&(!rs.isEmpty||fn.results.size==0)
  | none=>false)
 | none=>false
theorem gA {inl:FuncId→Bool}{f:FuncId}{rs:List Td}(h:okFn P inl f rs=true):∃ fn c,P.funcs[f]? =some fn∧fn.body=some c∧okC2 inl c=true∧fn.name≠ "runtime.NumGoroutine" ∧(rs=[]→fn.results= #[]):=by
 unfold okFn at h
 split at h
 ·rename_i fn hfn
  split at h
  ·rename_i c hc
   simp only [uM,bne_iff_ne,Bool.or_eq_true,Bool.not_eq_true',beq_iff_eq] at h
   refine ⟨fn,c,hfn,hc,h.1.1,h.1.2,fun hr=> ?_⟩
   subst hr
   rcases h.2 with h | h
   ·cases h
   ·exact Array.eq_empty_of_size_eq_zero h
  ·cases h
 ·cases h
theorem nJ (l:List Td)(y:RT l):(tupV (valR l y)).plain=true∧∀ m k,ex (tupV (valR l y))≠.fresh m k:=by
 match l,y with
 | [],y=>exact ⟨rfl,fun m k h=>by simp [valR,tupV,ex,ex0] at h⟩
 | [d],y=>
  refine ⟨eS d y,fun m k h=> ?_⟩
  have:=eT d y
  rw [show ex (valV d y)= .fresh m k from h] at this
  cases this
 | d::e::l,y=>
  match l,y with
  | [],y=>exact ⟨rfl,fun m k h=>by simp [valR,tupV,ex] at h⟩
  | _::_,y=>exact ⟨rfl,fun m k h=>by simp [valR,tupV,ex] at h⟩
theorem EnvOK.addFn {R:Type}{Γ0:(R:Type)→Env R}(hm:P.follows .mixedOrders=true)(hΓ:EnvOK P (Γ R)){f:FuncId}{ds rs:List Td}{g:HL ds→Option (RT rs)}{fuel:Nat}(hΓ0:EnvOK P (Γ0 (RT rs)))(hok:okFn P (Γ0 (RT rs)).inl f rs=true)(h:∀ c,(runK P Γ0 fuel f ds rs c).run=g c):EnvOK P (Env.addFn Γ f (fun R=>fnK ds rs g) R):=by
 refine ⟨⟨fun f' args k res hc=> ?_⟩,hΓ.inl,hΓ.lp,hΓ.cln,hΓ.mth⟩
 simp only [Env.addFn] at hc
 split at hc
 ·rename_i hff
  subst hff
  obtain ⟨c,h1,h2,h3⟩:=pK _ _ _ _ hc
  obtain ⟨y,h4,h5⟩:=Tree.run_bind h1
  obtain ⟨p1,p2⟩:=nJ rs y
  obtain ⟨fn,b,hfn,hb,hokc,hnm,hres⟩:=gA hok
  refine ⟨_,h5,p1,p2,jc.toV (fun w B cargs hB hgl hlen hrel=> ?_) ⟨fn,hfn,hnm,by rw [hb];exact fun h=>by cases h⟩⟩
  refine oN hm hΓ0 (gA hok) (by rw [h];exact h4) w B cargs hB hgl (by rw [hlen,h2]) (fun i x hx=> ?_)
  obtain ⟨x0,q1,_,_,q4⟩:=h3 i x hx
  obtain ⟨v,q5,q6⟩:=hrel i x0 q1
  exact ⟨v,q5,q4 w B [] v q6⟩
 ·exact hΓ.fns.ok f' args k res hc
def Env.addCln (Γ:(R:Type)→Env R)(f:FuncId)(e:TypeId):(R:Type)→Env R:=fun R=>{ Γ R with cln:=fun g=>if g=f then some e else (Γ R).cln g }
theorem EnvOK.addCln {R:Type}(hΓ:EnvOK P (Γ R)){f:FuncId}{e:TypeId}(h:ef P f e):EnvOK P (Env.addCln Γ f e R):=⟨hΓ.fns,hΓ.inl,hΓ.lp,fun g e' hg=>by
 simp only [Env.addCln] at hg
 split at hg
 ·rename_i hgf
  subst hgf
  injection hg with hg
  subst hg
  exact h
 ·exact hΓ.cln g e' hg,hΓ.mth⟩
def o6 (P:Program)(st':S2)(fn:Func)(e:TypeId):Tree (List Int):=resK P st' fn.results.toList fun r=>match r with
 | .own id=>(match st'.heap[id]? with
  | some (.own d l e')=>if e'=e then dk d (.int .u8) (fun d=>List (T d)) l fun l=>.done l else .fail
  | _=>.fail)
 | .c (.slice none 0 0)=>.done []
 | _=>.fail
def fQ (P:Program)(Γ:(R:Type)→Env R)(fuel:Nat)(f:FuncId)(xs:List V)(e:TypeId):Tree (List Int):=
 match P.funcs[f]? with
 | some fn=>(match fn.body with
  | some b=>evK P (Γ (List Int)) fuel [f] 0 b ⟨fN fn xs,[]⟩ fun ex st'=>(match ex with
   | .normal=>o6 P st' fn e
   | .ret=>o6 P st' fn e
   | _=>.fail)
  | none=>.fail)
 | none=>.fail
theorem sA {w:World}{B:List Nat}{η:List Value}{l:List Int}{us:List Value}(h:RelL w B η (flat (.int .u8) l) us):us=l.map fun n=>Value.int .u8 n:=by
 rw [mq] at h
 apply List.ext_getElem?
 intro i
 rcases Nat.lt_or_ge i l.length with hi | hi
 ·obtain ⟨u,h1,h2⟩:=h.2 i (.c (.int .u8 l[i])) (by rw [List.getElem?_map,List.getElem?_eq_getElem hi];rfl)
  rw [h1,Rel.ofC h2,List.getElem?_map,List.getElem?_eq_getElem hi]
  rfl
 ·have hl:=h.1
  rw [uK] at hl
  rw [List.getElem?_eq_none (by omega),List.getElem?_eq_none (by rw [uK];exact hi)]
theorem kH (hm:P.follows .mixedOrders=true){f:FuncId}{xs:List V}{rs:List Td}{e:TypeId}(hΓ:EnvOK P (Γ (List Int))){fuel:Nat}(hf:∃ fn c,P.funcs[f]? =some fn∧fn.body=some c∧okC2 (Γ (List Int)).inl c=true∧fn.name≠ "runtime.NumGoroutine" ∧(rs=[]→fn.results= #[])) (hxs:∀ (i:Nat) x,xs[i]? =some x→x.plain=true∧cg (ex x)=false) {l:List Int} (h:(fQ P Γ fuel f xs e).run=some l) (w:World) (B:List Nat) (cargs:List Value) (hB:∀ b∈B,b<w.heap.size) (hgl:GlobOK w B) (hlen:cargs.length=xs.length) (hrel:∀ (i:Nat) x,xs[i]? =some x→∃ v,cargs[i]? =some v∧Rel w B [] (ex x) v):
  Calls P f cargs.toArray w fun e1 w'=>∃ v',e1= .returned v'∧Gr w w'∧bw w' w.heap.size e 1 v' l.length (l.map fun n=>Value.int .u8 n):=by
 obtain ⟨fn,b,hfn,hb,hok,hnm,_⟩:=hf
 unfold fQ at h
 rw [hfn] at h
 simp only [hb] at h
 obtain ⟨ex1,st',h1,h2⟩:=ll hm hΓ fuel [f] 0 b _ _ l hok (fun c' hc'=>by simp only [bY,hfn,hb];exact hc') h
 refine calls_of_wp hfn hb ?_
 have hsim:SimK w.heap.size B [] ⟨fN fn xs,[]⟩ { tmps:=cargs.toArray++Array.replicate (fn.ntmps-cargs.toArray.size) undef,defers:=[] } w B []:=by
  refine ⟨rfl,⟨rfl,⟨uR _,hgl⟩,fun b hb=>hb,hB,fun id e h=>by simp at h,fun i j ei ej _ h=>by simp at h⟩,fM ⟨hlen,fun i x hx=> ?_⟩⟩
  obtain ⟨v,q1,q2⟩:=hrel i x hx
  obtain ⟨q3,q4⟩:=hxs i x hx
  exact ⟨v,q1,Rel2.of q3 q2,fun h=>by rw [q4] at h;cases h⟩
 refine h2 w.heap.size B [] _ w B [] _ hsim fun a' w' B' η' hs hg=> ?_
 have fin:(o6 P st' fn e).run=some l→∃ v,(results fn a'.tmps).run P w'= .ok v w'∧bw w' w.heap.size e 1 v l.length (l.map fun n=>Value.int .u8 n):=by
  intro h1
  obtain ⟨r,q1,q2⟩:=im h1
  obtain ⟨v,g1,g2,g5⟩:=q2 _ _ _ a' w' B' η' hs
  refine ⟨v,g1, ?_⟩
  clear g5
  split at q1
  ·rename_i id
   split at q1
   ·rename_i d l0 e' hid
    split at q1
    ·rename_i he
     subst he
     obtain ⟨e1,q3⟩:=aU q1
     subst e1
     simp only [Tree.run,Option.some.injEq] at q3
     subst q3
     obtain ⟨n,us,p1,p2,p3,p4⟩:=hs.inv.ent id _ (exH hid)
     have hus:=sA p2
     subst hus
     have g3:Rel w' B' η' (.own id) v:=g2
     have hv:η'.getD id undef=v:=by
      cases g3 with
      | own _ _ a n c h=>rw [List.getD_eq_getElem?_getD,h];rfl
     rw [hv] at p1
     have hn:n=l0.length:=by
      have h5:=p1.1
      rw [uK,show wd (.int .u8)=1 from rfl,Nat.mul_one] at h5
      exact h5.symm
     rw [hn] at p1
     exact p1
    ·cases q1
   ·cases q1
  ·simp only [Tree.run,Option.some.injEq] at q1
   subst q1
   have g3:Rel w' B' η' (.c (.slice none 0 0)) v:=g2
   rw [Rel.ofC g3]
   exact bw.nil _ _ _ _
  ·cases q1
 split at h1
 ·obtain ⟨v,g1,g2⟩:=fin h1
  exact ⟨hs.defers,v,g1,v,rfl,hg.below.below,g2⟩
 ·obtain ⟨v,g1,g2⟩:=fin h1
  exact ⟨hs.defers,v,g1,v,rfl,hg.below.below,g2⟩
 ·cases h1
theorem ou {Γ0:(R:Type)→Env R}(hm:P.follows .mixedOrders=true){f:FuncId}{e:TypeId}{fuel:Nat}(hΓ0:EnvOK P (Γ0 (List Int)))(hok:okFn P (Γ0 (List Int)).inl f [.sl (.int .u8)]=true){g:List Int→Option (List Int)}(h:∀ l:List Int,(fQ P Γ0 fuel f [.lst (.int .u8) l] e).run=g l)(hg:∀ l:List Int,l.isEmpty=false→aS l.length 1=true→g l=some l)
  (h1:∀ c,(fQ P Γ0 fuel f [.c (.slice none 0 c)] e).run=some []) (h2:∀ A c,(fQ P Γ0 fuel f [.c (.slice (some A) 0 c)] e).run=some []):ef P f e:=by
 obtain ⟨fn,b,hfn,hb,hokc,hnm,hres⟩:=gA hok
 refine ⟨⟨fn,hfn,hnm,by rw [hb];exact fun h=>by cases h⟩,fun l hr w B v hB hgl hv=> ?_⟩
 cases he:l.isEmpty with
 | false=>
  exact kH hm hΓ0 (gA hok) (xs:=[.lst (.int .u8) l]) (fun i x hx=>by
   match i,hx with
   | 0,hx=>simp at hx;subst hx;exact ⟨rfl,rfl⟩) (by rw [h];exact hg l he hr) w B [v] hB hgl rfl (fun i x hx=>by
   match i,hx with
   | 0,hx=>simp at hx;subst hx;exact ⟨v,rfl,hv⟩)
 | true=>
  have hl:l=[]:=List.isEmpty_iff.1 he
  subst hl
  obtain ⟨A,n,cc,us,rfl,hk,hn,_,hm',_,_⟩:=Rel.slL hv
  have hn0:n=0:=by
   rcases Nat.eq_zero_or_pos n with h | h
   ·exact h
   ·have:=Nat.mul_pos h hk;simp [flat] at hn;omega
  subst hn0
  have go:(fQ P Γ0 fuel f [.c (.slice A 0 cc)] e).run=some []→Calls P f #[.slice A 0 cc] w fun e1 w'=>∃ v',e1= .returned v'∧Gr w w'∧bw w' w.heap.size e 1 v' ([]:List Int).length (([]:List Int).map fun n=>Value.int .u8 n):=fun hr=>by
   exact kH hm hΓ0 (gA hok) (xs:=[.c (.slice A 0 cc)]) (fun i x hx=>by
    match i,hx with
    | 0,hx=>simp at hx;subst hx;exact ⟨rfl,rfl⟩) hr w B [.slice A 0 cc] hB hgl rfl (fun i x hx=>by
    match i,hx with
    | 0,hx=>simp at hx;subst hx;exact ⟨.slice A 0 cc,rfl,.c _ _⟩)
  cases A with
  | some A=>exact go (h2 A cc)
  | none=>exact go (h1 cc)
end
theorem aQ {x:Int}(h1: -9223372036854775808≤x)(h2:x<9223372036854775808):gt .i64 x=x:=by
 have:=IntKind.wrap_i64 x
 rw [this];omega
theorem rm {α:Type}(l:List α)(i:Nat):getI l (i:Int)=l[i]? :=by unfold getI;rw [if_pos (Int.natCast_nonneg i),Int.toNat_natCast]
theorem pp {α:Type}(l:List α)(i:Nat)(h:i<l.length):getI l (i:Int)=some l[i]:=by rw [rm,List.getElem?_eq_getElem h]
theorem mU {n b:Nat}(h1:n≤maxLen)(h2:n*b≤140737488355328):aS n b=true:=decide_eq_true ⟨h1,h2⟩
theorem pZ:1000000000≤maxLen:=by simp [maxLen]
theorem gD {C O:Type}(G:(C→Option O)→C→Option O)(n:Nat)(c:C):gl G (n+1) c=G (gl G n) c:=rfl
theorem r8 {C O:Type}{G:(C→Option O)→C→Option O}(st:Nat→C)(n:Nat)(o:O)(hstep:∀ X i,i<n→G X (st i)=X (st (i+1)))(hend:∀ X,G X (st n)=some o):∀ k i,i≤n→n-i<k→gl G k (st i)=some o
 | 0,i,_,h=>by omega
 | k+1,i,hi,h=>by
  rw [gD]
  rcases Nat.lt_or_ge i n with h' | h'
  ·rw [hstep _ i h'];exact r8 st n o hstep hend k (i+1) h' (by omega)
  ·have:i=n:=by omega
   subst this;exact hend _
end Go.Proofs.Ytmndainldhmnjaa
namespace Go.Proofs.Ytmndainldhmnjaa
set_option maxRecDepth 100000
open Go.ChangeShapes Go.WideShapes Go.ChangeAt Go.RowKit
set_option linter.unusedVariables false
theorem own:ownKnob ne.godebug=none:=by kernel_rfl
theorem sY:laidOutB ne=true:=by kernel_rfl
theorem mD {f:FuncId}{args:List V}{cargs:List Value}{w:World}(h:jc ne f args (.c (.bool true)))(hr:RelL w [] [] (args.map ex) cargs)(hgl:GlobOK w []:=by refine ⟨fun g l h=> ?_,fun g h=> ?_,fun g h=> ?_,fun g l h=> ?_⟩ <;> simp [rl,r7,pm,nd] at h):
  Calls ne f cargs.toArray w fun e w'=>e= .returned (.bool true)∧Below w.heap.size w w':=
 (h w [] cargs (by simp) hgl (by rw [hr.1,uK]) (fun i x hx=>hr.2 i (ex x) (by rw [List.getElem?_map,hx];rfl))).mono fun e w' ⟨v,he,hg,hrel⟩=>by cases hrel;exact ⟨he,⟨hg.os,hg.tape,hg.output,hg.size,fun b hb=>hg.block b hb⟩⟩
section
variable {H:Type} {enc:TypeId×Value→H} {W:World}
theorem n9 {T:TypeId}{v:Value}{d:DataW H}{p:List MemPlace}(h:DataW.Trod enc ne W 0 (fun _=>true) true T v d p):∀ x∈p,x.block<W.heap.size:=by
 obtain ⟨m,hm⟩:=h;exact DataW.trod_lt m _ _ _ hm
end
end Go.Proofs.Ytmndainldhmnjaa
namespace Go.Proofs.Ytmndainldhmnjaa
set_option maxRecDepth 100000
open Go.ChangeShapes Go.WideShapes Go.ChangeAt Go.RowKit
set_option linter.unusedVariables false
set_option linter.unusedSimpArgs false
def wfT:(d:Td)→T d→Prop
 | .int k,n=>(Lit.int k n).wf=true
 | .bool,_=>True
 | .str,s=>s.length≤maxLen
 | .sl d,l=>l.length≤maxLen∧∀ x∈l,wfT d x
 | .arr n d,a=>∀ x∈a.l,wfT d x
 | .pair d e,x=>wfT d x.1∧wfT e x.2
section
variable {P:Program} {H:Type} {enc:TypeId×Value→H} {W:World}
theorem ix {α:Type}(Q:Nat→α→Prop):∀ n,(∀ i,i<n→∃ y,Q i y)→∃ l:List α,l.length=n∧∀ i y,l[i]? =some y→Q i y
 | 0,_=>⟨[],rfl,fun i y h=>by simp at h⟩
 | n+1,h=>by
  obtain ⟨l,h1,h2⟩:=ix Q n fun i hi=>h i (by omega)
  obtain ⟨y,hy⟩:=h n (by omega)
  refine ⟨l++[y],by simp [h1],fun i z hz=> ?_⟩
  rcases Nat.lt_or_ge i n with hi | hi
  ·rw [List.getElem?_append_left (by omega)] at hz;exact h2 i z hz
  ·rw [List.getElem?_append_right (by omega)] at hz
   have:i-l.length=0:=by have:=(List.getElem?_eq_some_iff.1 hz).1;simp at this;omega
   rw [this] at hz
   simp at hz
   subst hz
   rw [show i=n by omega];exact hy
theorem pO {a:Addr}{v:Value}(h:W.cell? a=some v):a.spot=none:=by
 unfold World.cell? at h
 split at h
 ·split at h
  ·cases h
  ·rename_i hs;cases hx:a.spot with
   | none=>rfl
   | some _=>rw [hx] at hs;simp at hs
 ·cases h
theorem tI (a:Addr)(i j:Nat)(h:a.spot=none):(a.add i).add j=a.add (i+j):=by
 unfold Addr.add
 obtain ⟨b,o,s⟩:=a
 simp only at h
 subst h
 by_cases hi:i=0 <;> by_cases hj:j=0 <;> simp [hi,hj,Nat.add_assoc]
theorem eP {a:Addr}{n:Nat}{cs:List Value}(h:W.cells? 0 a n=some cs):cs.length=n∧∀ i u,cs[i]? =some u→W.cell? (a.add i)=some u:=by
 unfold World.cells? at h
 rw [if_pos (Nat.zero_le _)] at h
 have hl:=mapM_some_length h
 rw [List.length_range] at hl
 refine ⟨hl,fun i u hu=> ?_⟩
 have hi:i<n:=by have:=(List.getElem?_eq_some_iff.1 hu).1;omega
 rw [mapM_some_get h i i (by simp [hi])]
 exact hu
theorem nm {d:Td}(xs:List (T d))(us:Nat→Value)(B:List Nat)(h:∀ i x,xs[i]? =some x→∀ j y,(cells d x)[j]? =some y→Rel W B [] y (us (i*wd d+j))):∀ i y,(flat d xs)[i]? =some y→Rel W B [] y (us i):=by
 intro i y hy
 have hi:i<xs.length*wd d:=by have:=(List.getElem?_eq_some_iff.1 hy).1;rwa [am] at this
 have hw:0<wd d:=by rcases Nat.eq_zero_or_pos (wd d) with h | h;rw [h] at hi;omega;exact h
 have hq:i / wd d<xs.length:=Nat.div_lt_of_lt_mul (by rw [Nat.mul_comm];exact hi)
 have hx:xs[i / wd d]? =some xs[i / wd d]:=List.getElem?_eq_getElem hq
 have hf:=pB d xs (i / wd d) _ hx
 have hr:i % wd d<wd d:=Nat.mod_lt _ hw
 have hdm:=Nat.div_add_mod i (wd d)
 have h1:(cells d xs[i / wd d])[i % wd d]? =some y:=by
  rw [←hf,List.getElem?_take,if_pos hr,List.getElem?_drop]
  rw [show i / wd d*wd d+i % wd d=i by rw [Nat.mul_comm];exact hdm]
  exact hy
 have:=h _ _ hx _ _ h1
 rwa [show i / wd d*wd d+i % wd d=i by rw [Nat.mul_comm];exact hdm] at this
mutual
theorem iv:∀ (n:Nat) (t:TypeId) (d:Td),en P n t d=true→∀ (fuel:Nat) (cs:List Value) (x:DataW H×List MemPlace),DataW.trod enc P W 0 (fun _=>true) true fuel t cs=some x→∃ y:T d,RelL W [] [] (cells d y) cs∧wfT d y
 | 0,t,d,h=>by simp [en] at h
 | n+1,t,d,h=>by
  intro fuel cs x hx
  simp only [en,uM,beq_iff_eq] at h
  obtain ⟨hc,h⟩:=h
  split at h
  ·rename_i k k' hu
   have:=of_decide_eq_true h
   subst this
   obtain ⟨z,rfl,_,hw⟩:=DataW.trod_int hu hx
   exact ⟨z,RelL.cons (.c _ _) (RelL.nil _ _ _),hw⟩
  ·rename_i hu
   obtain ⟨z,rfl,_⟩:=DataW.trod_bool hu hx
   exact ⟨z,RelL.cons (.c _ _) (RelL.nil _ _ _),trivial⟩
  ·rename_i hu
   obtain ⟨s,rfl,_,hs⟩:=DataW.trod_string hu hx
   refine ⟨s.data.toList,RelL.cons ?_ (RelL.nil _ _ _),by show s.data.toList.length≤maxLen;simpa using hs⟩
   have:(⟨s.data.toList.toArray⟩:ByteArray)=s:=by cases s;simp
   rw [this];exact .c _ _
  ·rename_i e d hu
   simp only [uM,decide_eq_true_eq] at h
   obtain ⟨hw,h⟩:=h
   have hce:=cj h
   rcases DataW.trod_slice hu hx with ⟨rfl,_⟩ | ⟨a,len,cap,elems,rest,m,rfl,rfl,_,_,hlc,hm,hel,hels,_⟩
   ·exact ⟨[],RelL.cons (gw hw (.c _ _)) (RelL.nil _ _ _),by simp [maxLen],fun x hx=>by cases hx⟩
   ·obtain ⟨ys,hy1,hy2⟩:=ix (fun i y=>∃ us,W.cells? 0 (a.add (i*wd d)) (wd d)=some us∧RelL W [] [] (cells d y) us∧wfT d y) len fun i hi=>by
     have h0:=hels i hi
     rw [List.getElem?_eq_getElem (by omega),hce] at h0
     obtain ⟨us,q1,q2⟩:=Option.bind_eq_some_iff.1 h0
     obtain ⟨y,q3,q4⟩:=iv n e d h _ _ _ q2
     exact ⟨y,us,q1,q3,q4⟩
    refine ⟨ys,RelL.cons ?_ (RelL.nil _ _ _),by rw [hy1];omega,fun x hx=> ?_⟩
    ·have hspot:0<len→a.spot=none:=fun h0=>by
      obtain ⟨us,q1,q3,_⟩:=hy2 0 ys[0] (List.getElem?_eq_getElem (by omega))
      have hl:=(eP q1).1
      have:=(eP q1).2 0 us[0] (List.getElem?_eq_getElem (by omega))
      have:=pO this
      unfold Addr.add at this
      simpa using this
     have hcell:∀ i x,ys[i]? =some x→∀ j y,(cells d x)[j]? =some y→Rel W [] [] y ((W.cell? (a.add (i*wd d+j))).getD undef)∧(W.cell? (a.add (i*wd d+j))).isSome=true:=fun i x hx j y hy=>by
      obtain ⟨us,q1,q3,_⟩:=hy2 i x hx
      obtain ⟨u,q4,q5⟩:=q3.2 j y hy
      have:=(eP q1).2 j u q4
      have h0:0<len:=by have:=(List.getElem?_eq_some_iff.1 hx).1;omega
      rw [tI a _ _ (hspot h0)] at this
      rw [this]
      exact ⟨q5,rfl⟩
     have hr:=nm (W:=W) ys (fun i=>(W.cell? (a.add i)).getD undef) [] fun i x hx j y hy=>(hcell i x hx j y hy).1
     refine .sl _ _ _ _ _ _ (fun i=>(W.cell? (a.add i)).getD undef) hw (by show len*wd d=(flat d ys).length;rw [am,hy1]) hlc hm (fun h0=>⟨a,rfl,hspot h0, ?_,by simp,fun i hi=> ?_⟩) hr
     ·obtain ⟨us,q1,q3,_⟩:=hy2 0 ys[0] (List.getElem?_eq_getElem (by omega))
      have hl:=(eP q1).1
      have:=(eP q1).2 0 us[0] (List.getElem?_eq_getElem (by omega))
      have:=World.block_lt_of_cell? W _ this
      rwa [bf,bf] at this
     ·have hi':i<len*wd d:=by change i<(flat d ys).length at hi;rw [am,hy1] at hi;exact hi
      have hq:i / wd d<ys.length:=by rw [hy1];exact Nat.div_lt_of_lt_mul (by rw [Nat.mul_comm];exact hi')
      have hrm:i % wd d<(cells d ys[i / wd d]).length:=by rw [aH];exact Nat.mod_lt _ (by omega)
      have:=(hcell _ _ (List.getElem?_eq_getElem hq) _ _ (List.getElem?_eq_getElem hrm)).2
      rw [show i / wd d*wd d+i % wd d=i by rw [Nat.mul_comm];exact Nat.div_add_mod i (wd d)] at this
      obtain ⟨u,hu⟩:=Option.isSome_iff_exists.1 this
      rw [hu];rfl
    ·obtain ⟨i,hi⟩:=List.getElem?_of_mem hx
     obtain ⟨_,_,_,q⟩:=hy2 i x hi
     exact q
  ·rename_i m e m' d hu
   simp only [uM,beq_iff_eq] at h
   obtain ⟨rfl,h⟩:=h
   have hce:=cj h
   obtain ⟨xs,m2,rfl,_,hl,hxl,hi⟩:=DataW.trod_array hu hx
   obtain ⟨ys,hy1,hy2⟩:=ix (fun i y=>RelL W [] [] (cells d y) ((cs.drop (i*wd d)).take (wd d))∧wfT d y) m fun i h1=>by
    have h0:=hi i h1
    rw [List.getElem?_eq_getElem (by omega),hce] at h0
    exact iv n e d h _ _ _ h0
   refine ⟨⟨ys,hy1⟩,⟨?_, ?_⟩,fun x hx=> ?_⟩
   ·rw [aH,←hc];exact hl.symm▸rfl
   ·intro i y hy
    have hr:=nm (W:=W) ys (fun i=>cs.getD i undef) [] fun i x hx j y hy=>by
     obtain ⟨u,q1,q2⟩:=(hy2 i x hx).1.2 j y hy
     rw [List.getElem?_take] at q1
     split at q1
     ·rw [List.getElem?_drop] at q1
      rw [List.getD_eq_getElem?_getD,q1];exact q2
     ·cases q1
    have hlt:i<cs.length:=by
     have:=(List.getElem?_eq_some_iff.1 hy).1
     rw [aH,←hc,←hl] at this
     exact this
    refine ⟨cs[i],List.getElem?_eq_getElem hlt, ?_⟩
    have:=hr i y hy
    rwa [List.getD_eq_getElem?_getD,List.getElem?_eq_getElem hlt] at this
   ·obtain ⟨i,hi⟩:=List.getElem?_of_mem hx
    exact (hy2 i x hi).2
  ·rename_i fs hu
   obtain ⟨xs,m2,rfl,_,hl,hxl,hi⟩:=DataW.trod_struct hu hx
   have:=read_fs n fs.toList 0 _ h m2 cs (fun i f hf=>by
    have h0:=hi i f (by simpa using hf)
    have hlt:i<xs.length:=by have:=(List.getElem?_eq_some_iff.1 hf).1;rw [hxl];simpa using this
    exact ⟨_,h0.trans (List.getElem?_eq_getElem hlt)⟩) (by rw [hl,hc];omega)
   simpa using this
  ·cases h
theorem read_fs:∀ (n:Nat) (fs:List Field) (o:Nat) (d:Td),layFs P n fs o d=true→∀ (m:Nat) (cs:List Value),(∀ (i:Nat) (f:Field),fs[i]? =some f→∃ x,DataW.trod enc P W 0 (fun _=>true) true m f.type ((cs.drop f.offset).take (P.cellsOf f.type))=some x)→cs.length=o+wd d→∃ y:T d,RelL W [] [] (cells d y) (cs.drop o)∧wfT d y
 | 0,fs,o,d,h=>by simp [layFs] at h
 | n+1,[],o,d,h=>by simp [layFs] at h
 | n+1,[f],o,d,h=>by
  intro m cs hx hl
  simp only [layFs,uM,beq_iff_eq] at h
  obtain ⟨rfl,h⟩:=h
  obtain ⟨x,hx⟩:=hx 0 f rfl
  rw [cj h] at hx
  obtain ⟨y,h1,h2⟩:=iv n _ d h _ _ _ hx
  rw [List.take_of_length_le (by rw [uQ];omega)] at h1
  exact ⟨y,h1,h2⟩
 | n+1,f::g::fs,o,d,h=>by
  intro m cs hx hl
  simp only [layFs] at h
  split at h
  ·rename_i d e
   simp only [uM,beq_iff_eq] at h
   obtain ⟨⟨rfl,h⟩,h'⟩:=h
   simp only [wd] at hl
   obtain ⟨x,hx0⟩:=hx 0 f rfl
   rw [cj h] at hx0
   obtain ⟨y,h1,h2⟩:=iv n _ d h _ _ _ hx0
   obtain ⟨z,h3,h4⟩:=read_fs n (g::fs) _ e h' m cs (fun i f' hf=>hx (i+1) f' (by simpa using hf)) (by omega)
   refine ⟨(y,z), ?_,h2,h4⟩
   have:=h1.append h3
   rw [←List.drop_drop,List.take_append_drop] at this
   exact this
  ·cases h
end
end
def rowB (P:Program)(t:TypeId):Bool:=match P.underlying t with
 | some (.struct _) | some (.array _ _)=>true
 | _=>false
theorem nY {P:Program}{W:World}{base:Nat}{t:TypeId}{v:Value}(h:rowB P t=true)(hv:Value.okWide P W .any base t v):∃ cs,v= .agg cs:=by
 unfold rowB at h
 unfold Value.okWide at hv
 split at h
 ·rename_i hu;rw [hu] at hv;obtain ⟨cs,h1,_⟩:=hv;exact ⟨cs,h1⟩
 ·rename_i hu;rw [hu] at hv;obtain ⟨cs,h1,_⟩:=hv;exact ⟨cs,h1⟩
 ·cases h
theorem nZ {P:Program}{W:World}{base n:Nat}{t:TypeId}{d:Td}{v:Value}(hl:en P n t d=true)(h:rowB P t=false)(hv:Value.okWide P W .any base t v):v.cells.toList=[v]:=by
 cases n with
 | zero=>simp [en] at hl
 | succ n=>
  simp only [en,uM] at hl
  replace hl:=hl.2
  split at hl
  ·rename_i hu;obtain ⟨_,rfl⟩:=okWide_int hu hv;rfl
  ·rename_i hu
   simp only [Value.okWide,hu,Cell.okWide] at hv
   cases v <;> first | rfl | simp_all [Cell.ok]
  ·rename_i hu;obtain ⟨_,rfl⟩:=okWide_string hu hv;rfl
  ·rename_i hu;obtain ⟨_,_,_,rfl⟩:=okWide_slice hu hv;rfl
  ·rename_i hu;simp [rowB,hu] at h
  ·rename_i hu;simp [rowB,hu] at h
  ·cases hl
theorem sI {H:Type}{enc:TypeId×Value→H}{W:World}{t:TypeId}{d:Td}(hl:en ne 24 t d=true)(hr:rowB ne t=rowD d){base:Nat}{v:Value}{x:DataW H}{p:List MemPlace}(hv:Value.okWide ne W .any base t v)(h:DataW.Trod enc ne W 0 (fun _=>true) true t v x p):∃ y:T d,Rel W [] [] (ex (valV d y)) v∧wfT d y:=by
 obtain ⟨fuel,hf⟩:=h
 obtain ⟨y,h1,h2⟩:=iv _ _ _ hl _ _ _ hf
 refine ⟨y, ?_,h2⟩
 cases hd:rowD d with
 | true=>
  obtain ⟨cs,rfl⟩:=nY (hr.trans hd) hv
  rw [jJ d y hd]
  refine .agg _ _ cs (fun i=>cs.getD i undef) (by rw [←h1.1];simp [Value.cells]) (fun i x hx=> ?_) (fun i x hx=> ?_)
  ·obtain ⟨u,q1,_⟩:=h1.2 i x hx
   simp only [Value.cells,Array.getElem?_toList] at q1
   rw [uO,q1];rfl
  ·obtain ⟨u,q1,q2⟩:=h1.2 i x hx
   simp only [Value.cells,Array.getElem?_toList] at q1
   rw [uO,q1];exact q2
 | false=>
  rw [nZ hl (hr.trans hd) hv,jK d y hd] at h1
  obtain ⟨u,q1,q2⟩:=h1.2 0 _ rfl
  simp at q1
  rw [q1];exact q2
end Go.Proofs.Ytmndainldhmnjaa
namespace Go.Proofs.Ytmndainldhmnjaa
set_option maxRecDepth 100000
open Go.RowKit
set_option linter.unusedVariables false
set_option linter.unusedSimpArgs false
section
variable {P:Program} {R:Type}
end
structure MI where
 nt:Nat
 nr:Nat
 mb:Nat
 sh:Shape
 outs:List (Exit×Shape)
def lab1:V→Nat
 | .c (.pointer none)=>1
 | .box _ _=>2
 | _=>0
def labR:List V→Nat
 | []=>0
 | x::l=>lab1 x+3*labR l
def qV:List V→Nat→List Nat
 | [],_=>[]
 | .c (.slice none 0 0)::l,i=>i::qV l (i+1)
 | _::l,i=>qV l (i+1)
def cL (P:Program):List Nat→S2→S2
 | [],st=>st
 | i::l,st=>cL P l (match st.heap.getD i .dead with | .box segs t=>ownB P t i (qV segs 0) st | _=>st)
theorem fT {P:Program}{n0 m0:Nat}{Bx:List Nat}{ds:List Deferred}{a:Act}{w:World}{B:List Nat}:∀ (l:List Nat) (st:S2) (η:List Value),SimK n0 Bx ds st a w B η→∃ η',SimK n0 Bx ds (cL P l st) a w B η'∧Goes n0 Bx m0 w B η w B η'
 | [],st,η,h=>⟨η,h,Goes.refl _ _ _ _ _ _⟩
 | i::l,st,η,h=>by
  unfold cL
  split
  ·rename_i segs t _
   obtain ⟨η1,h1,h2⟩:=jU (m0:=m0) (P:=P) t i (qV segs 0) st η h
   obtain ⟨η2,h3,h4⟩:=fT (m0:=m0) l _ η1 h1
   exact ⟨η2,h3,h2.trans h4⟩
  ·exact fT l st η h
def isBx:E2→Bool
 | .box _ _=>true
 | _=>false
def dw (args:List V)(H:List E2):List Nat:=
 (clos H 0 500 (args.flatMap idsV) []).filter (fun i=>isBx (H.getD i .dead))++(clos H 0 500 (args.flatMap idsV) []).filter (fun i=>!isBx (H.getD i .dead))
section
variable {R:Type}
def endM (P:Program)(mi:MI)(fn:Func)(st:S2)(k:OT mi.outs→Tree R):Tree R:=
 lO P st fn.results.toList fun rs=>de (cL P (List.range st.heap.length) ⟨rs,st.heap⟩) fun st2=>decO P mi.mb mi.nr [] mi.outs (.exit (labR rs)) st2 k
def runM (P:Program)(Γ:(R:Type)→Env R)(fuel:Nat)(path:List Nat)(f:FuncId)(mi:MI)(c:CT mi.sh):Tree (OT mi.outs):=
 match P.funcs[f]? with
 | some fn=>(match fn.body with
  | some b=>evK P (Γ (OT mi.outs)) fuel path mi.mb b (stOf mi.sh mi.nt c) fun ex st'=>match ex with
   | .normal=>endM P mi fn st' fun o=>.done o
   | .ret=>endM P mi fn st' fun o=>.done o
   | _=>.fail
  | none=>.fail)
 | none=>.fail
def bkL (keep:List Nat)(n m:Nat):List Nat:=(List.range n).map (fun i=>match dB keep i with | some j=>j | none=>m+i)++(List.range (m-keep.length)).map (fun j=>keep.length+j)
def ovl {α:Type}(keep:List Nat):Nat→List α→List α→List α
 | _,[],l=>l
 | i,e::H,a::l=>(if keep.contains i then a else e)::ovl keep (i+1) H l
 | _,_::_,[]=>[]
def retK (l:List V)(k:V→Tree R):Tree R:=match l with
 | []=>k (.c (.tuple #[]))
 | [x]=>k x
 | l=>if l.all sm=true then k (.tup l) else .fail
def tG (keep:List Nat)(mb:Nat)(H1:List E2)(st:S2)(k:V→List E2→Tree R):Tree R:=
 eG (bkL (keep.take mb) H1.length st.heap.length) fun L=>if fV L=true then de (ek L ⟨st.slots,st.heap++H1.map fun _=>.dead⟩) fun st2=>retK st2.slots fun r=>k r (ovl keep 0 H1 st2.heap) else .fail
def iZ (keep:List Nat)(mb:Nat)(H1:List E2)(st:S2)(k:V→List E2→Tree R):Tree R:=
 if fV (bkL (keep.take mb) H1.length st.heap.length)=true then (match ek (bkL (keep.take mb) H1.length st.heap.length) ⟨st.slots,st.heap++H1.map fun _=>.dead⟩ with
  | ⟨rs,Ha⟩=>retK rs fun r=>k r (ovl keep 0 H1 Ha)) else .fail
def spec (l:List V):List V:=l.filter fun x=>match x with | .own _ | .box _ _ | .c (.pointer none)=>true | _=>false
def qL:List BSh→List V
 | []=>[]
 | .own j::b=>.own j::qL b
 | .lv v::b=>v::qL b
 | _::b=>qL b
def fitB (b:List BSh)(segs:List V):Bool:=kY (spec segs) (qL b)
def fitS:List (Nat×SSh)→List V→Bool
 | [],_=>true
 | (s,.lit v)::l,sl=>re (sl.getD s .any) v&&fitS l sl
 | (s,.ty _)::l,sl=>(match sl.getD s .any with | .own _ | .box _ _ | .c (.pointer none) | .adr _ | .clo _ _=>false | _=>true)&&fitS l sl
 | (s,.adr _)::l,sl=>(match sl.getD s .any with | .adr _=>true | _=>false)&&fitS l sl
 | (s,.mix b)::l,sl=>(match sl.getD s .any with | .agg segs=>fitB b segs | _=>false)&&fitS l sl
def fitH:List HSh→List E2→Bool
 | [],[]=>true
 | .boxp t b::l,.box segs t'::H=>t==t'&&fitB b segs&&fitH l H
 | .box t _::l,.box segs t'::H=>t==t'&&(spec segs).isEmpty&&fitH l H
 | .own _ E::l,.own _ _ E'::H=>E==E'&&fitH l H
 | .dead::l,_::H=>fitH l H
 | .itr::l,.itr _ _::H=>fitH l H
 | _,_=>false
def uk (P:Program)(li:LI)(st:S2):Bool:=match sD P li.m0 li.ow li.sh st with
 | ⟨sl,H⟩=>(match ek (eh li.m0 li.sh ⟨sl,H⟩) ⟨sl,H⟩ with
  | ⟨sl2,H2⟩=>fitS li.sh.slots sl2&&fitH li.sh.heap H2)
def mthK (P:Program)(mi:MI)(g:CT mi.sh→Option (OT mi.outs))(old:List V→List E2→(V→List E2→Tree R)→Tree R)(args0:List V)(H:List E2)(k:V→List E2→Tree R):Tree R:=
 iI (args0.map argV) fun args=>eG (dw args H) fun keep0=>de (cL P keep0 ⟨args,H⟩) fun st1=>eG (dw args st1.heap) fun keep=>
  if fV keep=true∧keep.all (fun i=>decide (i<st1.heap.length))=true∧mi.mb≤keep.length∧args.length≤mi.nt∧keep.all (fun i=>keep0.contains i||decide (H.length≤i))=true then de (ek keep st1) fun st2=>
   if (fitS mi.sh.slots st2.slots&&fitH mi.sh.heap st2.heap)=true then decS mi.sh.slots (st2.slots++List.replicate (mi.nt-st2.slots.length) .any) fun c1=>decH mi.sh.heap st2.heap fun c2=>.bind (g (c1,c2)) fun o=>lq mi.nr mi.outs o fun _ st=>de st fun st=>tG keep mi.mb st1.heap st k
   else old args0 H k else old args0 H k
def qZ (P:Program)(mi:MI)(g:CT mi.sh→Option (OT mi.outs))(old:List V→List E2→(V→List E2→Tree R)→Tree R)(args0:List V)(H:List E2)(k:V→List E2→Tree R):Tree R:=
 match args0.map argV with
 | args=>match cL P (dw args H) ⟨args,H⟩ with
  | ⟨sl1,H1⟩=>match dw args H1 with
   | keep=>if fV keep=true∧keep.all (fun i=>decide (i<H1.length))=true∧mi.mb≤keep.length∧args.length≤mi.nt∧keep.all (fun i=>(dw args H).contains i||decide (H.length≤i))=true then (match ek keep ⟨sl1,H1⟩ with
    | ⟨sl2,H2⟩=>if (fitS mi.sh.slots sl2&&fitH mi.sh.heap H2)=true then decS mi.sh.slots (sl2++List.replicate (mi.nt-sl2.length) .any) fun c1=>decH mi.sh.heap H2 fun c2=>.bind (g (c1,c2)) fun o=>lq mi.nr mi.outs o fun _ st=>iZ keep mi.mb H1 st k else old args0 H k) else old args0 H k
end
section
variable {P:Program}
theorem mR {n0:Nat}{w:World}{B:List Nat}{η:List Value}{args:List V}{cargs:List Value}(h:gN n0 w B η args cargs):SlotsK n0 w B η args cargs.toArray:=by
 refine ⟨by simp [h.1],fun t=> ?_,fun t=> ?_⟩
 ·rw [List.getD_eq_getElem?_getD,uO,List.getElem?_toArray]
  rcases Nat.lt_or_ge t args.length with ht | ht
  ·obtain ⟨u,h1,h2,_⟩:=h.2 t _ (List.getElem?_eq_getElem ht)
   rw [List.getElem?_eq_getElem ht,h1];exact h2
  ·rw [List.getElem?_eq_none ht];trivial
 ·rw [List.getD_eq_getElem?_getD,uO,List.getElem?_toArray]
  rcases Nat.lt_or_ge t args.length with ht | ht
  ·obtain ⟨u,h1,_,h2⟩:=h.2 t _ (List.getElem?_eq_getElem ht)
   rw [List.getElem?_eq_getElem ht,h1];exact h2
  ·rw [List.getElem?_eq_none ht];exact fun h=>by cases h
theorem kB {n0:Nat}{w:World}{B:List Nat}{η:List Value}{args:List V}{cargs:List Value}(h:SlotsK n0 w B η args cargs.toArray):gN n0 w B η args cargs:=by
 have hl:args.length=cargs.length:=by simpa using h.size
 refine ⟨hl.symm,fun i x hx=> ?_⟩
 have hi:=(List.getElem?_eq_some_iff.1 hx).1
 have h1:=h.rel i
 have h2:=h.fresh i
 rw [List.getD_eq_getElem?_getD,hx,uO,List.getElem?_toArray,List.getElem?_eq_getElem (by omega)] at h1 h2
 exact ⟨_,List.getElem?_eq_getElem (by omega),h1,h2⟩
theorem nD {n0:Nat}{w:World}{B:List Nat}{η:List Value}{x:V}{v:Value}(h:Rel2 w B η x v):Rel2 w B η (argV x) v∧au n0 (ex (argV x)) v:=by
 cases x <;> first | exact ⟨h,fun h=>by cases h⟩ | exact ⟨Rel.unf h,fun h=>by cases h⟩
theorem rP {n0:Nat}{w:World}{B:List Nat}{η:List Value}{args:List V}{cargs:List Value}(h:gN n0 w B η args cargs):gN n0 w B η (args.map argV) cargs:=by
 refine ⟨by simp [h.1],fun i y hy=> ?_⟩
 rw [List.getElem?_map,uL] at hy
 obtain ⟨x,hx,rfl⟩:=hy
 obtain ⟨v,h1,h2,_⟩:=h.2 i x hx
 obtain ⟨q1,q2⟩:=nD (n0:=n0) h2
 exact ⟨v,h1,q1,q2⟩
theorem mV {R:Type}{st:S2}:∀ (l:List ResultVar) (k:List V→Tree R) (res:R),(lO P st l k).run=some res→
  ∃ m,(k m).run=some res∧∀ (n0:Nat) (Bx:List Nat) (ds:List Deferred) (a:Act) (w:World) (B:List Nat) (η:List Value),SimK n0 Bx ds st a w B η→∃ vs:List Value,(l.mapM (il a.tmps)).run P w= .ok vs w∧gN n0 w B η m vs
 | [],k,res,h=>⟨[],h,fun n0 Bx ds a w B η hs=>⟨[],rfl,rfl,fun i x h=>by simp at h⟩⟩
 | rv::l,k,res,h=>by
  unfold lO at h
  obtain ⟨x,h1,h2⟩:=gv h
  split at h1
  ·obtain ⟨m,h3,h5⟩:=mV l _ _ h1
   refine ⟨_,h3,fun n0 Bx ds a w B η hs=> ?_⟩
   obtain ⟨v,g1,g2,_⟩:=h2 n0 Bx ds a w B η hs
   obtain ⟨vs,g3,g4⟩:=h5 n0 Bx ds a w B η hs
   refine ⟨v::vs, ?_,by simp [g4.1],fun i y hy=> ?_⟩
   ·simp [Sem.run_bind,g1,g3]
   ·cases i with
    | zero=>simp at hy;subst hy;obtain ⟨q1,q2⟩:=nD (n0:=n0) g2;exact ⟨v,rfl,q1,q2⟩
    | succ i=>simpa using g4.2 i y (by simpa using hy)
  ·cases h1
def MthC (P:Program)(f:FuncId)(mi:MI)(g:CT mi.sh→Option (OT mi.outs)):Prop:=
 (∃ fn,P.funcs[f]? =some fn∧fn.name≠ "runtime.NumGoroutine" ∧fn.body≠none)∧
 ∀ c o,g c=some o→∀ (n0:Nat) (Bx:List Nat) (w:World) (B:List Nat) (η:List Value) (cargs:List Value),
  SimK n0 Bx [] (stOf mi.sh mi.nt c) { tmps:=cargs.toArray++Array.replicate (mi.nt-cargs.toArray.size) undef,defers:=[] } w B η→
  Calls P f cargs.toArray w fun e w'=>∃ (vs:List Value) (B':List Nat) (η':List Value),e= .returned (if h:vs.toArray.size=1 then vs.toArray[0] else .tuple vs.toArray)∧Goes n0 Bx mi.mb w B η w' B' η'∧
   SimK n0 Bx [] (encO mi.nr mi.outs o).2 { tmps:=vs.toArray,defers:=[] } w' B' η'
def okM (P:Program)(inl:FuncId→Bool)(f:FuncId)(nt:Nat):Bool:=match P.funcs[f]? with
 | some fn=>(match fn.body with
  | some c=>okC2 inl c&&fn.name != "runtime.NumGoroutine" &&fn.ntmps==nt
  | none=>false)
 | none=>false
theorem cC (hm:P.follows .mixedOrders=true){Γ:(R:Type)→Env R}{f:FuncId}{mi:MI}{g:CT mi.sh→Option (OT mi.outs)}{fuel j:Nat}(hΓ:EnvOK P (Γ (OT mi.outs)))(hok:okM P (Γ (OT mi.outs)).inl f mi.nt=true)(h:∀ c,(runM P Γ fuel [f,j] f mi c).run=g c):MthC P f mi g:=by
 unfold okM at hok
 split at hok
 ·rename_i fn hfn
  split at hok
  ·rename_i b hb
   simp only [uM,bne_iff_ne,beq_iff_eq] at hok
   obtain ⟨⟨hokc,hnm⟩,hnt⟩:=hok
   refine ⟨⟨fn,hfn,hnm,by rw [hb];exact fun h=>by cases h⟩,fun c o hc n0 Bx w B η cargs hs=> ?_⟩
   rw [←h] at hc
   unfold runM at hc
   rw [hfn] at hc
   simp only [hb] at hc
   obtain ⟨ex,st',h1,h2⟩:=ll hm hΓ fuel [f,j] mi.mb b _ _ _ hokc (fun c' hc'=>by simp only [bY,hfn,hb];exact hc') hc
   refine calls_of_wp hfn hb ?_
   rw [hnt]
   refine h2 n0 Bx [] _ w B η _ hs fun a' w' B' η' hs' hg=> ?_
   have key:(endM P mi fn st' fun o=>.done o).run=some o→∃ (vs:List Value) (v:Value) (B2:List Nat) (η2:List Value),(results fn a'.tmps).run P w'= .ok v w'∧v=(if h:vs.toArray.size=1 then vs.toArray[0] else .tuple vs.toArray)∧Goes n0 Bx mi.mb w B η w' B2 η2∧SimK n0 Bx [] (encO mi.nr mi.outs o).2 { tmps:=vs.toArray,defers:=[] } w' B2 η2:=by
    intro he
    unfold endM at he
    obtain ⟨m,k1,k2⟩:=mV _ _ _ he
    rw [e8] at k1
    obtain ⟨vs,k3,k4⟩:=k2 n0 Bx [] a' w' B' η' hs'
    obtain ⟨o',k5,_,k6⟩:=mz _ _ _ _ _ k1
    simp only [Tree.run,Option.some.injEq] at k5
    subst k5
    have hs2:SimK n0 Bx [] ⟨m,st'.heap⟩ { tmps:=vs.toArray,defers:=[] } w' B' η':=⟨rfl,hs'.inv,mR k4⟩
    obtain ⟨η1,q1,q2⟩:=fT (P:=P) (m0:=mi.mb) (List.range st'.heap.length) _ η' hs2
    obtain ⟨B2,η2,q3,q4⟩:=k6 n0 Bx [] _ w' B' η1 q1
    refine ⟨vs,_,B2,η2, ?_,rfl,(hg.trans q2).trans q4,q3⟩
    rw [jn]
    have hmm:(fn.results.mapM (il a'.tmps)).run P w'= .ok vs.toArray w':=by
     obtain ⟨rs,hrs⟩:∃ rs,fn.results=rs:=⟨_,rfl⟩
     rw [hrs] at k3 ⊢
     obtain ⟨rs⟩:=rs
     rw [List.mapM_toArray,←bind_pure_comp]
     simp only at k3
     simp [Sem.run_bind,k3]
    rw [Sem.run_bind,hmm]
    rfl
   split at h1
   ·obtain ⟨vs,v,B2,η2,q1,q2,q3,q4⟩:=key h1
    exact ⟨hs'.defers,v,q1,vs,B2,η2,by rw [q2],q3,q4⟩
   ·obtain ⟨vs,v,B2,η2,q1,q2,q3,q4⟩:=key h1
    exact ⟨hs'.defers,v,q1,vs,B2,η2,by rw [q2],q3,q4⟩
   ·cases h1
  ·cases hok
 ·cases hok
theorem gz {α:Type}(keep:List Nat):∀ (k:Nat) (H l:List α),H.length≤l.length→(ovl keep k H l).length=l.length
 | _,[],l,_=>rfl
 | k,e::H,a::l,h=>by
  simp only [ovl,List.length_cons] at h ⊢
  rw [gz keep (k+1) H l (by omega)]
 | _,_::_,[],h=>by simp at h
theorem l5 {α:Type}(keep:List Nat):∀ (k:Nat) (H l:List α) (i:Nat),H.length≤l.length→(ovl keep k H l)[i]? =if i<H.length∧¬ (keep.contains (k+i)=true) then H[i]? else l[i]?
 | _,[],l,i,_=>by simp [ovl]
 | k,e::H,a::l,0,h=>by
  simp only [ovl,List.getElem?_cons_zero,Nat.add_zero,List.length_cons]
  by_cases hk:keep.contains k=true
  ·rw [if_pos hk,if_neg (fun h=>h.2 hk)]
  ·rw [if_neg hk,if_pos ⟨by omega,hk⟩]
 | k,e::H,a::l,i+1,h=>by
  simp only [ovl,List.getElem?_cons_succ,List.length_cons] at h ⊢
  rw [l5 keep (k+1) H l i (by omega)]
  have e1:k+1+i=k+(i+1):=by omega
  rw [e1]
  by_cases hc:i<H.length∧¬ (keep.contains (k+(i+1))=true)
  ·rw [if_pos hc,if_pos ⟨by omega,hc.2⟩]
  ·rw [if_neg hc,if_neg (fun h=>hc ⟨by omega,h.2⟩)]
 | _,_::_,[],_,h=>by simp at h
theorem aF.chBx {n0:Nat}{Bx Bx':List Nat}{w:World}{B:List Nat}{η:List Value}{v:Value}{e:Ent}(h:aF n0 Bx w B η v e)(hb:e.live=true→∀ b,aO v=some b→b∉Bx'):aF n0 Bx' w B η v e:=by
 cases e with
 | dead=>trivial
 | box cells T=>
  obtain ⟨b,us,h1,h2,h3,h4,h5,h6⟩:=h
  exact ⟨b,us,h1,h2,h3,hb rfl b (by rw [h1];rfl),h5,h6⟩
 | own cells E k=>
  obtain ⟨n,us,h1,h2,h3,h4⟩:=h
  refine ⟨n,us,h1,h2,h3,fun b hb'=>⟨(h4 b hb').1,hb rfl b ?_⟩⟩
  rcases h1.2 with ⟨hv,_⟩ | ⟨gg,oo,cap,cur,hv,_⟩
  ·rw [hv] at hb';cases hb'
  ·rw [hv] at hb' ⊢;exact hb'
 | itr s pos=>
  obtain ⟨b,h1,h2,h3,h4,h5⟩:=h
  exact ⟨b,h1,h2,h3,hb rfl b (by rw [h1];rfl),h5⟩
theorem aF.keepF {n0:Nat}{Bx:List Nat}{w w':World}{B B':List Nat}{η η':List Value}{v:Value}{e:Ent}(h:aF n0 Bx w B η v e)(g:On B w w')(hB:∀ b∈B',b∈B∨w.heap.size≤b)(he:∀ (id:Nat) v,η[id]? =some v→η'[id]? =some v)
  (hin:e.live=true→∀ b,aO v=some b→b∈B') (hb:e.live=true→∀ b,aO v=some b→w'.heap[b]? =w.heap[b]?):aF n0 Bx w' B' η' v e:=by
 cases e with
 | dead=>trivial
 | box cells T=>
  obtain ⟨b,us,h1,h2,h3,h4,h5,h6⟩:=h
  refine ⟨b,us,h1,h2,hin rfl b (by rw [h1];rfl),h4, ?_,h6.on g hB he⟩
  rw [hb rfl b (by rw [h1];rfl)];exact h5
 | own cells E k=>
  obtain ⟨n,us,h1,h2,h3,h4⟩:=h
  have hblk:∀ b,v.ownBlock=some b→aO v=some b:=fun b hb'=>by
   rcases h1.2 with ⟨hv,_⟩ | ⟨gg,oo,cap,cur,hv,_⟩
   ·rw [hv] at hb';cases hb'
   ·rw [hv] at hb' ⊢;exact hb'
  refine ⟨n,us,⟨h1.1, ?_⟩,h2.on g hB he,h3,fun b hb'=>⟨hin rfl b (hblk b hb'),(h4 b hb').2⟩⟩
  rcases h1.2 with hn | ⟨gg,oo,cap,cur,hv,hb',hgg,rest⟩
  ·exact .inl hn
  ·refine .inr ⟨gg,oo,cap,cur,hv,hb', ?_,rest⟩
   rw [hb rfl gg (by rw [hv];rfl)];exact hgg
 | itr s pos=>
  obtain ⟨b,h1,h2,h3,h4,h5⟩:=h
  exact ⟨b,h1,h2,hin rfl b (by rw [h1];rfl),h4,by rw [hb rfl b (by rw [h1];rfl)];exact h5⟩
theorem Inv.pad {n0:Nat}{Bx:List Nat}{w:World}{B:List Nat}{η η':List Value}{H H':List Ent}(inv:Inv n0 Bx w B η H)(hl:η'.length=H'.length)(hd:∀ e∈H',e= .dead):Inv n0 Bx w B (η++η') (H++H'):=by
 have old:∀ i,i<H.length→(η++η').getD i undef=η.getD i undef:=fun i hi=>by
  rw [List.getD_eq_getElem?_getD,List.getElem?_append_left (by rw [inv.len];exact hi),List.getD_eq_getElem?_getD]
 have part:∀ (i:Nat) (e:Ent),(H++H')[i]? =some e→e.live=true→i<H.length∧H[i]? =some e:=fun i e hi hl=>by
  rcases Nat.lt_or_ge i H.length with h | h
  ·rw [List.getElem?_append_left h] at hi;exact ⟨h,hi⟩
  ·rw [List.getElem?_append_right h] at hi
   rw [hd e (List.mem_of_getElem? hi)] at hl
   cases hl
 refine ⟨by simp [inv.len,hl],inv.base,inv.sub,inv.lt,fun i e he=> ?_,fun i j ei ej hij hi hj hli hlj b hb=> ?_⟩
 ·cases hlv:e.live with
  | true=>
   obtain ⟨h1,h2⟩:=part i e he hlv
   rw [old i h1]
   exact aF.keepF (inv.ent i e h2) (On.refl B w) (fun _ h=>.inl h) (fun id v hv=>by rw [List.getElem?_append_left (List.getElem?_eq_some_iff.1 hv).1];exact hv) (fun hl b hb=>(aF.lt (inv.ent i e h2) hl b hb).2) (fun _ _ _=>rfl)
  | false=>cases e <;> first | trivial | cases hlv
 ·obtain ⟨h1,h2⟩:=part i ei hi hli
  obtain ⟨h3,h4⟩:=part j ej hj hlj
  rw [old i h1] at hb
  rw [old j h3]
  exact inv.sep i j ei ej hij h2 h4 hli hlj b hb
theorem tF {n0:Nat}{Bx FB:List Nat}{w w':World}{B B':List Nat}{η1 η3:List Value}{H1:List E2}{keep kb:List Nat}{st:S2}{vs:Array Value}(inv1:Inv n0 Bx w B η1 (H1.map exE))
  (hkb:∀ i∈kb,i∈keep)
  (f1:∀ b∈Bx,b∈FB) (f2:∀ (i:Nat) e,(H1.map exE)[i]? =some e→e.live=true→i∉keep→∀ b,aO (η1.getD i undef)=some b→b∈FB) (hs:SimK n0 FB [] st { tmps:=vs,defers:=[] } w' B' η3)
  (hon:On B w w') (hB:∀ b∈B',b∈B∨w.heap.size≤b) (hbel:Bel n0 FB w w') (hη:∀ (j i:Nat),kb[j]? =some i→∀ v,η1[i]? =some v→η3[j]? =some v) (hL:(bkL kb H1.length st.heap.length).Nodup):
  ∃ η4,Inv n0 Bx w' B' η4 ((ovl keep 0 H1 (ek (bkL kb H1.length st.heap.length) ⟨st.slots,st.heap++H1.map fun _=>.dead⟩).heap).map exE)∧SlotsK n0 w' B' η4 (ek (bkL kb H1.length st.heap.length) ⟨st.slots,st.heap++H1.map fun _=>.dead⟩).slots vs∧∀ (id:Nat) v,η1[id]? =some v→η4[id]? =some v:=by
 have hlen1:η1.length=H1.length:=by simpa using inv1.len
 have hlen3:η3.length=st.heap.length:=by simpa using hs.inv.len
 obtain ⟨L,hLe⟩:∃ L,L=bkL kb H1.length st.heap.length:=⟨_,rfl⟩
 rw [←hLe] at hL ⊢
 have hpad:SimK n0 FB [] ⟨st.slots,st.heap++H1.map fun _=>.dead⟩ { tmps:=vs,defers:=[] } w' B' (η3++η1):=by
  refine ⟨rfl, ?_,hs.slots.on (On.refl B' w') (fun _ h=>.inl h) (fun id v hv=>by rw [List.getElem?_append_left (List.getElem?_eq_some_iff.1 hv).1];exact hv)⟩
  rw [List.map_append]
  refine hs.inv.pad (by simp [hlen1]) (fun e he=> ?_)
  simp only [List.map_map,List.mem_map,Function.comp_apply] at he
  obtain ⟨_,_,rfl⟩:=he
  rfl
 have hr:=jP hpad hL
 obtain ⟨Ha,hHa⟩:∃ Ha,Ha=(ek L ⟨st.slots,st.heap++H1.map fun _=>.dead⟩).heap:=⟨_,rfl⟩
 obtain ⟨ηa,hηa⟩:∃ ηa,ηa=L.map (fun i=>(η3++η1).getD i undef):=⟨_,rfl⟩
 rw [←hηa] at hr
 have hinv:=hr.inv
 rw [←hHa] at hinv ⊢
 have hLl:H1.length≤L.length:=by rw [hLe];simp [bkL]
 have hHl:Ha.length=L.length:=by rw [hHa];simp [ek]
 have he:∀ (id:Nat) v,η1[id]? =some v→ηa[id]? =some v:=fun id v hv=>by
  have hid:id<H1.length:=by rw [←hlen1];exact (List.getElem?_eq_some_iff.1 hv).1
  have hLi:L[id]? =some (match dB kb id with | some j=>j | none=>st.heap.length+id):=by
   rw [hLe,bkL,List.getElem?_append_left (by simpa using hid),List.getElem?_map,List.getElem?_range hid]
   rfl
  rw [hηa,List.getElem?_map,hLi,Option.map_some]
  congr 1
  cases hp:dB kb id with
  | some j=>
   have h3:=hη j id (gx _ _ _ hp) v hv
   simp only
   rw [List.getD_eq_getElem?_getD,List.getElem?_append_left (List.getElem?_eq_some_iff.1 h3).1,h3]
   rfl
  | none=>
   simp only
   rw [List.getD_eq_getElem?_getD,List.getElem?_append_right (by omega),hlen3,Nat.add_sub_cancel_left,hv]
   rfl
 have hget:∀ i:Nat,i<H1.length→ηa.getD i undef=η1.getD i undef:=fun i hi=>by
  have:=he i _ (List.getElem?_eq_getElem (by omega))
  rw [List.getD_eq_getElem?_getD,this,List.getD_eq_getElem?_getD,List.getElem?_eq_getElem (by omega)]
 -- each entry: one that stayed, or one that came back
 have part:∀ (i:Nat) (e:Ent),((ovl keep 0 H1 Ha).map exE)[i]? =some e→(i<H1.length∧i∉keep∧(H1.map exE)[i]? =some e)∨(Ha.map exE)[i]? =some e:=fun i e hi=>by
  rw [List.getElem?_map,l5 keep 0 H1 Ha i (by omega)] at hi
  split at hi
  ·rename_i hc
   refine .inl ⟨hc.1,fun hk=>hc.2 ?_,by rw [List.getElem?_map];exact hi⟩
   rw [Nat.zero_add,List.contains_eq_mem]
   exact decide_eq_true hk
  ·exact .inr (by rw [List.getElem?_map];exact hi)
 have frame:∀ (i:Nat) (e:Ent),i<H1.length→i∉keep→(H1.map exE)[i]? =some e→aF n0 Bx w' B' ηa (ηa.getD i undef) e:=fun i e hi hk h=>by
  rw [hget i hi]
  refine aF.keepF (inv1.ent i e h) hon hB he (fun hl b hb=>hinv.sub b (f2 i e h hl hk b hb)) (fun hl b hb=>hbel.bx b (f2 i e h hl hk b hb) (aF.lt (inv1.ent i e h) hl b hb).1)
 refine ⟨ηa,⟨by rw [uK,gz keep 0 H1 Ha (by omega),hηa,uK,hHl],hinv.base,fun b hb=>hinv.sub b (f1 b hb),hinv.lt,fun i e hi=> ?_,fun i j ei ej hij hi hj hli hlj b hb=> ?_⟩,hr.slots,he⟩
 ·rcases part i e hi with ⟨h1,h2,h3⟩ | h
  ·exact frame i e h1 h2 h3
  ·exact aF.chBx (hinv.ent i e h) (fun hl b hb hc=>aF.noBx (hinv.ent i e h) hl b hb (f1 b hc))
 ·rcases part i ei hi with ⟨h1,h2,h3⟩ | h
  ·rw [hget i h1] at hb
   rcases part j ej hj with ⟨k1,k2,k3⟩ | k
   ·rw [hget j k1]
    exact inv1.sep i j ei ej hij h3 k3 hli hlj b hb
   ·intro hc
    exact aF.noBx (hinv.ent j ej k) hlj b hc (f2 i ei h3 hli h2 b hb)
  ·rcases part j ej hj with ⟨k1,k2,k3⟩ | k
   ·intro hc
    rw [hget j k1] at hc
    exact aF.noBx (hinv.ent i ei h) hli b hb (f2 j ej k3 hlj k2 b hc)
   ·exact hinv.sep i j ei ej hij h k hli hlj b hb
theorem sz {R:Type}{l:List V}{k:V→Tree R}{res:R}(h:(retK l k).run=some res):∃ r,(k r).run=some res∧∀ (n0:Nat) (w:World) (B:List Nat) (η:List Value) (vs:List Value),gN n0 w B η l vs→Rel2 w B η r (if h:vs.toArray.size=1 then vs.toArray[0] else .tuple vs.toArray)∧au n0 (ex r) (if h:vs.toArray.size=1 then vs.toArray[0] else .tuple vs.toArray):=by
 unfold retK at h
 split at h
 ·refine ⟨_,h,fun n0 w B η vs hr=> ?_⟩
  have:vs=[]:=List.eq_nil_of_length_eq_zero hr.1
  subst this
  exact ⟨Rel.c _ _,fun h=>by cases h⟩
 ·rename_i x
  refine ⟨_,h,fun n0 w B η vs hr=> ?_⟩
  obtain ⟨v,h1,h2,h3⟩:=hr.2 0 x rfl
  match vs,hr.1,h1 with
  | [u],_,h1=>
   simp at h1
   subst h1
   exact ⟨h2,h3⟩
 ·rename_i hn0 hn1
  split at h
  ·rename_i hall
   refine ⟨_,h,fun n0 w B η vs hr=> ?_⟩
   have hne:¬ vs.toArray.size=1:=fun hc=>by
    have hc:vs.length=1:=by simpa using hc
    rw [hr.1] at hc
    match l,hc with
    | [x],_=>exact hn1 x rfl
   rw [dif_neg hne]
   refine ⟨?_,fun h=>by cases h⟩
   show Rel w B η (.tup (l.map ex0)) _
   have key:∀ (i:Nat) x,l[i]? =some x→∃ u,vs[i]? =some u∧Rel w B η (ex0 x) u:=fun i x hx=>by
    obtain ⟨u,q1,q2,_⟩:=hr.2 i x hx
    have ht:=List.all_eq_true.1 hall x (List.mem_of_getElem? hx)
    refine ⟨u,q1, ?_⟩
    cases x <;> first | exact q2 | cases ht
   refine .tup _ _ _ (fun i=>vs.getD i undef) (by simp [hr.1]) (fun i y hy=> ?_) (fun i y hy=> ?_)
   ·rw [List.getElem?_map,uL] at hy
    obtain ⟨x,hx,rfl⟩:=hy
    obtain ⟨u,q1,q2⟩:=key i x hx
    simp [List.getD_eq_getElem?_getD,q1]
   ·rw [List.getElem?_map,uL] at hy
    obtain ⟨x,hx,rfl⟩:=hy
    obtain ⟨u,q1,q2⟩:=key i x hx
    simpa [List.getD_eq_getElem?_getD,q1] using q2
  ·cases h
theorem rN {R:Type}(keep:List Nat)(mb:Nat)(H1:List E2)(st:S2)(k:V→List E2→Tree R):tG keep mb H1 st k=iZ keep mb H1 st k:=by
 unfold tG iZ
 simp only [e8,fa]
theorem ma {R:Type}(P:Program)(mi:MI)(g:CT mi.sh→Option (OT mi.outs))(old:List V→List E2→(V→List E2→Tree R)→Tree R)(args0:List V)(H:List E2)(k:V→List E2→Tree R):mthK P mi g old args0 H k=qZ P mi g old args0 H k:=by
 unfold mthK qZ
 simp only [e8,fa,gF,rN]
theorem nV {P:Program}(st:S2)(id c:Nat)(e:TypeId):st.heap.length≤(fD P st id c e).heap.length∧∀ i,i<st.heap.length→i≠id→(fD P st id c e).heap[i]? =st.heap[i]? :=by
 unfold fD
 split
 ·split
  ·split
   ·refine ⟨by simp,fun i hi hne=> ?_⟩
    show (st.heap.set id _++_)[i]? =_
    rw [List.getElem?_append_left (by rw [List.length_set];omega),List.getElem?_set_ne (fun h=>hne h.symm)]
   ·exact ⟨uR _,fun _ _ _=>rfl⟩
  ·exact ⟨uR _,fun _ _ _=>rfl⟩
 ·exact ⟨uR _,fun _ _ _=>rfl⟩
theorem l4 {P:Program}(t:TypeId)(id:Nat):∀ (l:List Nat) (st:S2),st.heap.length≤(ownB P t id l st).heap.length∧∀ i,i<st.heap.length→i≠id→(ownB P t id l st).heap[i]? =st.heap[i]?
 | [],st=>⟨uR _,fun _ _ _=>rfl⟩
 | c::l,st=>by
  unfold ownB
  split
  ·rename_i e _
   obtain ⟨a1,a2⟩:=nV (P:=P) st id c e
   obtain ⟨b1,b2⟩:=l4 (P:=P) t id l (fD P st id c e)
   exact ⟨Nat.le_trans a1 b1,fun i hi hne=>(b2 i (by omega) hne).trans (a2 i hi hne)⟩
  ·exact l4 t id l st
theorem kQ {P:Program}:∀ (l:List Nat) (st:S2),st.heap.length≤(cL P l st).heap.length∧∀ i,i<st.heap.length→l.contains i=false→(cL P l st).heap[i]? =st.heap[i]?
 | [],st=>⟨uR _,fun _ _ _=>rfl⟩
 | j::l,st=>by
  unfold cL
  have key:∀ st1:S2,(st.heap.length≤st1.heap.length∧∀ i,i<st.heap.length→i≠j→st1.heap[i]? =st.heap[i]?)→st.heap.length≤(cL P l st1).heap.length∧∀ i,i<st.heap.length→(j::l).contains i=false→(cL P l st1).heap[i]? =st.heap[i]? :=fun st1 h=>by
   obtain ⟨b1,b2⟩:=kQ (P:=P) l st1
   refine ⟨Nat.le_trans h.1 b1,fun i hi hc=> ?_⟩
   rw [List.contains_cons,Bool.or_eq_false_iff] at hc
   exact (b2 i (by have:=h.1;omega) hc.2).trans (h.2 i hi (by simpa using hc.1))
  refine key _ ?_
  split
  ·exact l4 _ _ _ _
  ·exact ⟨uR _,fun _ _ _=>rfl⟩
theorem tC (keep:List Nat)(n m:Nat):n≤(bkL keep n m).length:=by
 unfold bkL
 simp only [List.length_append,uK,List.length_range]
 omega
def mtvM (args0:List V)(H:List E2):List Nat:=dw (args0.map argV) H
open Classical in
theorem sP {R:Type}{P:Program}{mi:MI}{g:CT mi.sh→Option (OT mi.outs)}{old:List V→List E2→(V→List E2→Tree R)→Tree R}{T:List V→List E2→List Nat}(hold:FrM T old):FrM (fun args H=>mtvM args H++T args H) (mthK P mi g old):=by
 intro args0 H k
 rw [ma,ma]
 have ho:old args0 H k=old args0 H fun r H'=>if Fr (mtvM args0 H++T args0 H) H H' then k r H' else .fail:=by
  rw [hold args0 H k,hold args0 H (fun r H'=>if Fr (mtvM args0 H++T args0 H) H H' then k r H' else .fail)]
  congr 1
  funext r H'
  by_cases hf:Fr (T args0 H) H H'
  ·rw [if_pos hf,if_pos hf,if_pos ⟨hf.1,fun i hi hc=>hf.2 i hi (by
    cases hq:(T args0 H).contains i with
    | false=>rfl
    | true=>rw [show (mtvM args0 H++T args0 H).contains i=true by simp at hq ⊢;exact .inr hq] at hc;cases hc)⟩]
  ·rw [if_neg hf,if_neg hf]
 unfold qZ
 simp only
 split
 ·rename_i hcond
  obtain ⟨_,hall,_,_,hsub⟩:=hcond
  split
  ·have hb:∀ (st:S2),iZ (dw (args0.map argV) (cL P (dw (args0.map argV) H) ⟨args0.map argV,H⟩).heap) mi.mb (cL P (dw (args0.map argV) H) ⟨args0.map argV,H⟩).heap st k=iZ (dw (args0.map argV) (cL P (dw (args0.map argV) H) ⟨args0.map argV,H⟩).heap) mi.mb (cL P (dw (args0.map argV) H) ⟨args0.map argV,H⟩).heap st fun r H'=>if Fr (mtvM args0 H++T args0 H) H H' then k r H' else .fail:=fun st=>by
    obtain ⟨f1,f2⟩:=kQ (P:=P) (dw (args0.map argV) H) ⟨args0.map argV,H⟩
    generalize hkp:dw (args0.map argV) (cL P (dw (args0.map argV) H) ⟨args0.map argV,H⟩).heap=keep at hsub
    generalize (cL P (dw (args0.map argV) H) ⟨args0.map argV,H⟩).heap=H1 at f1 f2
    unfold iZ
    split
    ·simp only [ek]
     have hlen:=tC (keep.take mi.mb) H1.length st.heap.length
     generalize bkL (keep.take mi.mb) H1.length st.heap.length=L at hlen
     have hlen2:H1.length≤(List.map (fun i=>rnE L ((st.heap++H1.map fun _=>(E2.dead)).getD i E2.dead)) L).length:=by rw [uK];exact hlen
     have hfr:∀ Ha:List E2,H1.length≤Ha.length→Fr (mtvM args0 H++T args0 H) H (ovl keep 0 H1 Ha):=fun Ha hlen2=>⟨by rw [gz keep 0 H1 Ha hlen2];simp only at f1;omega,fun i hi hc=>by
      simp only at f1 f2
      have hc1:(dw (args0.map argV) H).contains i=false:=by
       cases hq:(dw (args0.map argV) H).contains i with
       | false=>rfl
       | true=>rw [show (mtvM args0 H++T args0 H).contains i=true by simp [mtvM] at hq ⊢;exact .inl hq] at hc;cases hc
      have hk:¬ (keep.contains i=true):=fun hk=>by
       have h1:=List.all_eq_true.1 hsub i (by simpa using hk)
       rw [hc1,Bool.false_or,decide_eq_true_eq] at h1
       omega
      rw [l5 keep 0 H1 Ha i hlen2,Nat.zero_add,if_pos ⟨by omega,hk⟩,f2 i hi hc1]⟩
     have e:=hfr _ hlen2
     congr 1
     funext r
     exact (if_pos e).symm
    ·rfl
   simp only [hb]
  ·exact ho
 ·exact ho
theorem sO {R:Type}{f:FuncId}{mi:MI}{g:CT mi.sh→Option (OT mi.outs)}{old:List V→List E2→(V→List E2→Tree R)→Tree R}(hc:MthC P f mi g)(hold:rT P f old):rT (R:=R) P f (mthK P mi g old):=by
 intro args0 H k res h
 rw [ma] at h
 unfold qZ at h
 obtain ⟨args,hargs⟩:∃ args,args=args0.map argV:=⟨_,rfl⟩
 rw [←hargs] at h
 simp only at h
 obtain ⟨st1,hst1⟩:∃ st1,st1=cL P (dw args H) ⟨args,H⟩:=⟨_,rfl⟩
 rw [←hst1] at h
 obtain ⟨sl1,H1⟩:=st1
 simp only at h
 obtain ⟨keep,hkeep⟩:∃ keep,keep=dw args H1:=⟨_,rfl⟩
 rw [←hkeep] at h
 split at h
 ·rename_i hcond
  obtain ⟨hnd,hall,hmb,hal,_⟩:=hcond
  obtain ⟨st2,hst2⟩:∃ st2,st2=ek keep ⟨sl1,H1⟩:=⟨_,rfl⟩
  rw [←hst2] at h
  obtain ⟨sl2,H2⟩:=st2
  simp only at h
  split at h
  case isFalse=>exact hold _ _ _ _ h
  obtain ⟨c1,h1,hd1⟩:=gJ _ _ _ _ h
  obtain ⟨c2,h2,hd2,hd3⟩:=fH _ _ _ _ h1
  obtain ⟨o,ho,h3⟩:=Tree.run_bind h2
  rw [gM] at h3
  obtain ⟨stE,hstE⟩:∃ stE,stE=(encO mi.nr mi.outs o).2:=⟨_,rfl⟩
  rw [←hstE] at h3
  unfold iZ at h3
  split at h3
  ·rename_i hnd2
   obtain ⟨rs,hrs⟩:∃ x,x=ek (bkL (keep.take mi.mb) H1.length stE.heap.length) ⟨stE.slots,stE.heap++H1.map fun _=>.dead⟩:=⟨_,rfl⟩
   rw [←hrs] at h3
   obtain ⟨rsl,Ha⟩:=rs
   simp only at h3
   obtain ⟨r,h4,h5⟩:=sz h3
   refine ⟨r,_,h4,hc.1,fun n0 Bx w B η cargs inv hrel=> ?_⟩
   have hs0:SimK n0 Bx [] ⟨args,H⟩ { tmps:=cargs.toArray,defers:=[] } w B η:=⟨rfl,inv,by rw [hargs];exact mR (rP hrel)⟩
   obtain ⟨η1,g1,g2⟩:=fT (P:=P) (m0:=H.length) (dw args H) _ η hs0
   rw [←hst1] at g1
   have inv1:=g1.inv
   simp only at inv1
   -- the part that is handed over
   have hr:=jP g1 (fU hnd)
   rw [←hst2] at hr
   obtain ⟨η2,hη2⟩:∃ η2,η2=keep.map fun i=>η1.getD i undef:=⟨_,rfl⟩
   rw [←hη2] at hr
   have hlt:∀ i∈keep,i<H1.length:=fun i hi=>by simpa using List.all_eq_true.1 hall i hi
   have hlen1:η1.length=H1.length:=by simpa using inv1.len
   obtain ⟨FB,hFB⟩:∃ FB:List Nat,∀ b,b∈FB↔b∈B∧∀ (i:Nat) e,i∈keep→(H1.map exE)[i]? =some e→e.live=true→aO (η1.getD i undef)≠some b:=
    ⟨B.filter fun b=>@decide _ (Classical.propDecidable (∀ (i:Nat) e,i∈keep→(H1.map exE)[i]? =some e→e.live=true→aO (η1.getD i undef)≠some b)),fun b=>by rw [List.mem_filter];simp⟩
   have f1:∀ b∈Bx,b∈FB:=fun b hb=>(hFB b).2 ⟨inv1.sub b hb,fun i e _ he hl hc=>aF.noBx (inv1.ent i e he) hl b hc hb⟩
   have f2:∀ (i:Nat) e,(H1.map exE)[i]? =some e→e.live=true→i∉keep→∀ b,aO (η1.getD i undef)=some b→b∈FB:=fun i e he hl hk b hb=>(hFB b).2 ⟨(aF.lt (inv1.ent i e he) hl b hb).2,fun j ej hj hej hlj hc=>inv1.sep i j e ej (fun hij=>hk (by rw [hij];exact hj)) he hej hl hlj b hb hc⟩
   have inv2:Inv n0 FB w B η2 (H2.map exE):=by
    refine ⟨hr.inv.len,hr.inv.base,fun b hb=>((hFB b).1 hb).1,hr.inv.lt,fun j e he=>aF.chBx (hr.inv.ent j e he) (fun hl b hb hc=> ?_),hr.inv.sep⟩
    have hH2:H2=keep.map fun i=>rnE keep (H1.getD i .dead):=by
     have:=congrArg S2.heap hst2
     exact this
    rw [hH2] at he
    simp only [List.map_map,List.getElem?_map,uL,Function.comp_apply] at he
    obtain ⟨i,hi,rfl⟩:=he
    have hik:=List.mem_of_getElem? hi
    have hil:=hlt i hik
    have hgd:H1.getD i .dead=H1[i]:=by rw [List.getD_eq_getElem?_getD,List.getElem?_eq_getElem hil];rfl
    rw [hgd] at hl
    have hl':(exE H1[i]).live=true:=by
     generalize H1[i]=e0 at hl
     cases e0 with
     | box l t=>rfl
     | _=>first | exact hl | cases hl
    have hη:η2.getD j undef=η1.getD i undef:=by
     rw [hη2,List.getD_eq_getElem?_getD,List.getElem?_map,hi];rfl
    rw [hη] at hb
    exact ((hFB b).1 hc).2 i _ hik (exH (List.getElem?_eq_getElem hil)) hl' hb
   have hrel2:=kB hr.slots
   have hsl:=fM (fn:={ (default:Func) with ntmps:=mi.nt }) hrel2
   have hsim:SimK n0 FB [] (stOf mi.sh mi.nt (c1,c2)) { tmps:=cargs.toArray++Array.replicate (mi.nt-cargs.toArray.size) undef,defers:=[] } w B η2:=by
    refine ⟨rfl, ?_, ?_⟩
    ·refine inv2.le (by simp [stOf,hd2]) (fun i e' he=> ?_)
     simp only [stOf,List.getElem?_map,uL] at he
     obtain ⟨e0,he0,rfl⟩:=he
     obtain ⟨e1,he1,hle⟩:=hd3 i e0 he0
     exact ⟨_,exH he1,hle⟩
    ·exact hd1 n0 w B η2 _ _ hsl (lC (by
      have:cargs.length=args.length:=by rw [hrel.1,hargs,uK]
      simp;omega))
   refine (hc.2 (c1,c2) o ho n0 FB w B η2 cargs hsim).mono fun e w' ⟨vs,B',η3,e1,hg,hs3⟩=> ?_
   rw [←hstE] at hs3
   have hkη:∀ (j i:Nat),(keep.take mi.mb)[j]? =some i→∀ v,η1[i]? =some v→η3[j]? =some v:=fun j i hji v hv=>by
    have hj:j<mi.mb∧keep[j]? =some i:=by
     rw [List.getElem?_take] at hji
     split at hji
     ·rename_i hj;exact ⟨hj,hji⟩
     ·cases hji
    refine hg.hη j v hj.1 ?_
    rw [hη2,List.getElem?_map,hj.2,Option.map_some,List.getD_eq_getElem?_getD,hv]
    rfl
   obtain ⟨η4,b1,b2,b3⟩:=tF (keep:=keep) (kb:=keep.take mi.mb) inv1 (fun i hi=>List.mem_of_mem_take hi) f1 f2 hs3 hg.on hg.hB hg.below hkη (fU hnd2)
   rw [←hrs] at b1 b2
   obtain ⟨q1,q2⟩:=h5 n0 w' B' η4 vs (kB b2)
   exact ⟨_,B',η4,e1,⟨hg.on,hg.hB,fun id v hid hv=>b3 id v (g2.hη id v hid hv),⟨hg.below.below,fun b hb hl=>hg.below.bx b (f1 b hb) hl⟩⟩,b1,q1,q2⟩
  ·cases h3
 ·exact hold _ _ _ _ h
end
section
variable {P:Program} {Γ:(R:Type)→Env R}
def uD (f:FuncId)(args:List V)(H:List E2):Option Unit:=none
def oldM {R:Type}(Γ:Env R)(f:FuncId):List V→List E2→(V→List E2→Tree R)→Tree R:=match Γ.mth f with
 | some c=>c
 | none=>fun _ _ _=>.fail
theorem sK {R:Type}{Γ:Env R}(h:EnvOK P Γ)(f:FuncId):rT P f (oldM Γ f):=by
 unfold oldM
 split
 ·rename_i c hc;exact (h.mth f c hc).1
 ·exact fun _ _ _ _ h=>by cases h
theorem sL {R:Type}{Γ:Env R}(h:EnvOK P Γ)(f:FuncId):FrM (Γ.mtv f) (oldM Γ f):=by
 unfold oldM
 split
 ·rename_i c hc;exact (h.mth f c hc).2
 ·exact fun _ _ _=>rfl
def Env.addMths (Γ:(R:Type)→Env R)(l:List FuncId):(R:Type)→Env R:=fun R=>{ Γ R with mth:=fun f=>if l.contains f=true then some (fun args H _=>.bind (uD f args H) fun _=>.fail) else (Γ R).mth f }
theorem EnvOK.addMths {R:Type}(hΓ:EnvOK P (Γ R))(l:List FuncId):EnvOK P (Env.addMths Γ l R):=⟨hΓ.fns,hΓ.inl,hΓ.lp,hΓ.cln,fun f c hc=>by
 simp only [Env.addMths] at hc
 split at hc
 ·injection hc with hc
  subst hc
  exact ⟨fun args H k res h=>(nomatch h),fun args H k=>rfl⟩
 ·exact hΓ.mth f c hc⟩
def Env.addMth (Γ:(R:Type)→Env R)(f:FuncId)(c:(R:Type)→(List V→List E2→(V→List E2→Tree R)→Tree R)→List V→List E2→(V→List E2→Tree R)→Tree R):(R:Type)→Env R:=fun R=>{ Γ R with mth:=fun g=>if g=f then some (c R (oldM (Γ R) f)) else (Γ R).mth g,mtv:=fun g=>if g=f then (fun args H=>mtvM args H++(Γ R).mtv f args H) else (Γ R).mtv g }
theorem EnvOK.addMth {R:Type}(hΓ:EnvOK P (Γ R)){f:FuncId}{mi:MI}{g:CT mi.sh→Option (OT mi.outs)}(hc:MthC P f mi g):EnvOK P (Env.addMth Γ f (fun R old=>mthK P mi g old) R):=⟨hΓ.fns,hΓ.inl,hΓ.lp,hΓ.cln,fun f' c h=>by
 simp only [Env.addMth] at h
 split at h
 ·rename_i hf
  subst hf
  injection h with h
  subst h
  refine ⟨sO hc (sK hΓ _), ?_⟩
  have:=sP (P:=P) (mi:=mi) (g:=g) (sL hΓ f')
  simpa only [Env.addMth,if_true] using this
 ·rename_i hf
  have:=hΓ.mth f' c h
  simpa only [Env.addMth,hf,if_false] using this⟩
end
end Go.Proofs.Ytmndainldhmnjaa
namespace Go.Proofs.Ytmndainldhmnjaa
open Go.RowKit
set_option linter.unusedVariables false
set_option maxRecDepth 100000
section
variable (N:Nat)
abbrev zc32:Arr Int 32:=(@Arr.cons Int 31 0 (@Arr.cons Int 30 0 (@Arr.cons Int 29 0 (@Arr.cons Int 28 0 (@Arr.cons Int 27 0 (@Arr.cons Int 26 0 (@Arr.cons Int 25 0 (@Arr.cons Int 24 0 (@Arr.cons Int 23 0 (@Arr.cons Int 22 0 (@Arr.cons Int 21 0 (@Arr.cons Int 20 0 (@Arr.cons Int 19 0 (@Arr.cons Int 18 0 (@Arr.cons Int 17 0 (@Arr.cons Int 16 0 (@Arr.cons Int 15 0 (@Arr.cons Int 14 0 (@Arr.cons Int 13 0 (@Arr.cons Int 12 0 (@Arr.cons Int 11 0 (@Arr.cons Int 10 0 (@Arr.cons Int 9 0 (@Arr.cons Int 8 0 (@Arr.cons Int 7 0 (@Arr.cons Int 6 0 (@Arr.cons Int 5 0 (@Arr.cons Int 4 0 (@Arr.cons Int 3 0 (@Arr.cons Int 2 0 (@Arr.cons Int 1 0 (@Arr.cons Int 0 0 (@Arr.nil Int)))))))))))))))))))))))))))))))))
abbrev zc31:Arr Int 31:=(@Arr.cons Int 30 0 (@Arr.cons Int 29 0 (@Arr.cons Int 28 0 (@Arr.cons Int 27 0 (@Arr.cons Int 26 0 (@Arr.cons Int 25 0 (@Arr.cons Int 24 0 (@Arr.cons Int 23 0 (@Arr.cons Int 22 0 (@Arr.cons Int 21 0 (@Arr.cons Int 20 0 (@Arr.cons Int 19 0 (@Arr.cons Int 18 0 (@Arr.cons Int 17 0 (@Arr.cons Int 16 0 (@Arr.cons Int 15 0 (@Arr.cons Int 14 0 (@Arr.cons Int 13 0 (@Arr.cons Int 12 0 (@Arr.cons Int 11 0 (@Arr.cons Int 10 0 (@Arr.cons Int 9 0 (@Arr.cons Int 8 0 (@Arr.cons Int 7 0 (@Arr.cons Int 6 0 (@Arr.cons Int 5 0 (@Arr.cons Int 4 0 (@Arr.cons Int 3 0 (@Arr.cons Int 2 0 (@Arr.cons Int 1 0 (@Arr.cons Int 0 0 (@Arr.nil Int))))))))))))))))))))))))))))))))
abbrev qz0:Td:=(.pair (.arr 2 (.pair (.sl (.int .u8)) (.pair (.int .i64) (.pair (.int .i64) (.int .i64))))) .bool)
abbrev qz1:Td:=(.sl (.pair (.int .u8) (.pair .bool (.pair .bool (.pair (.int .i64) (.pair (.int .i64) (.pair (.int .i64) (.sl (.int .u8)))))))))
abbrev pz0:Type:=((Arr ((List Int)×(Int×(Int×Int))) 2)×Bool)
abbrev pz1:Type:=(Bool×((Arr Int 32)×(Int×(Int×(Int×(Int×(Int×(Int×(Bool×(Bool×((Arr Int 32)×(Int×(Int×(Int×(Int×(Int×(Int×(Bool×((List Int)×((List Int)×((List Int)×((List Int)×Unit))))))))))))))))))))))
abbrev pz2:Type:=((List Int)×(Int×(Int×Int)))
abbrev pz3:Type:=(Int×(Bool×(Bool×(Int×(Int×(Int×(List Int)))))))
abbrev pz4:Type:=(Bool×((Arr Int 32)×(Int×(Int×(Int×(Int×(Int×(Int×(Bool×((List Int)×((List Int)×Unit)))))))))))
abbrev pz5:Type:=(((List pz3)×(Int×(Int×Unit)))×((List pz0)×pz1))
abbrev pz6:Type:=(((List pz3)×(Int×(Int×(Int×(Int×Unit)))))×((List ((Arr pz2 2)×(Bool)))×pz1))
abbrev pz7:Type:=((Int×((List pz3)×(Int×(Int×(Int×(Int×(Int×Unit)))))))×((List ((Arr pz2 2)×(Bool)))×pz1))
abbrev pz8:Type:=(((List pz3)×(Int×(Int×Unit)))×((List ((Arr pz2 2)×(Bool)))×pz1))
theorem hmx:ne.follows .mixedOrders=true:=by kernel_rfl
noncomputable def Ev0 (N:Nat):(R:Type)→Env R:=Env.addInl env0 [10,4,21,22,27,24,20,6,23,26,8,11,17,18,16,15,19,13,29,14]
theorem uz (R:Type):EnvOK ne (Ev0 N R):=EnvOK.addInl (tg R) (by kernel_rfl)
noncomputable def Ev1:(R:Type)→Env R:=Env.addMths (Ev0 N) [10,4,20,6,8,11,17,18,16,15,19,13,14]
theorem uy (R:Type):EnvOK ne (Ev1 N R):=EnvOK.addMths (uz N R) [10,4,20,6,8,11,17,18,16,15,19,13,14]
noncomputable def Ev2:(R:Type)→Env R:=Env.addBx (Ev1 N) [(4,0)]
theorem ux (R:Type):EnvOK ne (Ev2 N R):=EnvOK.addBx (uy N R) [(4,0)]
noncomputable def Ev3:(R:Type)→Env R:=Env.addMv (Ev2 N) [(27,3),(27,2)]
theorem uw (R:Type):EnvOK ne (Ev3 N R):=EnvOK.addMv (ux N R) [(27,3),(27,2)]
noncomputable def Ev4:(R:Type)→Env R:=Env.addMv (Ev3 N) [(17,3)]
theorem uv (R:Type):EnvOK ne (Ev4 N R):=EnvOK.addMv (uw N R) [(17,3)]
noncomputable def Ev5:(R:Type)→Env R:=Env.addMv (Ev4 N) [(29,3)]
theorem sf (R:Type):EnvOK ne (Ev5 N R):=EnvOK.addMv (uv N R) [(29,3)]
noncomputable def br (N:Nat)(l:List (Int)):Option (List Int):=
 bif (@List.isEmpty Int l) then
  none
 else
  bif (aS ((eq ([]:List Int))+(eq l)) 1) then
   some ((([]:List Int)++l))
  else
   none
theorem di (l:List (Int)):(fQ ne (Ev5 N) 400 29 [.lst (.int .u8) l] 5).run=br N l:=by kernel_rfl
theorem c7 (c:Nat):(fQ ne (Ev5 N) 400 29 [.c (.slice none 0 c)] 5).run=some []:=by kernel_rfl
theorem c6 (A:Addr)(c:Nat):(fQ ne (Ev5 N) 400 29 [.c (.slice (some A) 0 c)] 5).run=some []:=by kernel_rfl
theorem dj (l:List (Int))(h1:l.isEmpty=false)(h2:aS l.length 1=true):br N l=some l:=by simp [br,h1,h2]
noncomputable def Ev6:(R:Type)→Env R:=Env.addCln (Ev5 N) 29 5
theorem uu (R:Type):EnvOK ne (Ev6 N R):=EnvOK.addCln (sf N R) (ou hmx (sf N _) (by kernel_rfl) (di N) (dj N) (c7 N) (c6 N))
noncomputable def Ev7:(R:Type)→Env R:=Env.addMv (Ev6 N) [(3,2),(3,36)]
theorem se (R:Type):EnvOK ne (Ev7 N R):=EnvOK.addMv (uu N R) [(3,2),(3,36)]
noncomputable def cO:MI:=⟨6,1,0,⟨[(0,.ty (.arr 32 (.int .u8)))],[]⟩,[(.exit 2,⟨[(0,.lit (.box 0 0))],[.boxp 62 [.ty .bool,.ty (.arr 32 (.int .u8)),.own 1,.ty (.int .i64),.ty (.int .i64),.ty (.int .i64),.own 2,.ty (.int .i64),.ty (.int .i64),.ty (.int .i64),.ty .bool],.own (.int .u8) 5,.own (.int .u8) 5]⟩)]⟩
noncomputable def cy (N:Nat)(hash0:Arr Int 32):Option ((Unit×pz4)):=
 some (((),(true,(hash0,((0:Int),((0:Int),((0:Int),((0:Int),((0:Int),((0:Int),(false,(([]:List Int),(([]:List Int),())))))))))))))
theorem jl (hash0:Arr Int 32):(runM ne (Ev7 N) 400 [4,1] 4 cO ((hash0,()),())).run=cy N hash0:=by kernel_rfl
noncomputable def Ev8:(R:Type)→Env R:=Env.addMth (Ev7 N) 4 (fun R old=>mthK ne cO (fun c=>cy N c.1.1) old)
theorem sd (R:Type):EnvOK ne (Ev8 N R):=EnvOK.addMth (se N R) (cC (mi:=cO) (g:=fun c=>cy N c.1.1) hmx (se N _) (by kernel_rfl) (fun (c:CT cO.sh)=>jl N c.1.1))
noncomputable def bD:MI:=⟨31,1,1,⟨[(0,.lit (.box 0 0)),(1,.ty (.int .i64)),(2,.ty (.sl (.int .u8)))],[.boxp 62 [.ty .bool,.ty (.arr 32 (.int .u8)),.own 1,.ty (.int .i64),.ty (.int .i64),.ty (.int .i64),.own 2,.ty (.int .i64),.ty (.int .i64),.ty (.int .i64),.ty .bool],.own (.int .u8) 5,.own (.int .u8) 5]⟩,[(.exit 0,⟨[(0,.ty (.int .i64))],[.boxp 62 [.ty .bool,.ty (.arr 32 (.int .u8)),.own 1,.ty (.int .i64),.ty (.int .i64),.ty (.int .i64),.own 2,.ty (.int .i64),.ty (.int .i64),.ty (.int .i64),.ty .bool],.own (.int .u8) 5,.own (.int .u8) 5]⟩)]⟩
noncomputable def ao (N:Nat)(way1:Int)(b2:List (Int))(h0:Bool)(h1:Arr Int 32)(h2:Int)(h3:Int)(h4:Int)(h5:Int)(h6:Int)(h7:Int)(h8:Bool)(h9:List (Int))(h10:List (Int)):Option (((Int×Unit)×pz4)):=
 ge (some ((cond true h0 false))) fun (v14:Bool)=>
 bif (!v14) then
  some ((((2:Int),()),(h0,(h1,(h2,(h3,(h4,(h5,(h6,(h7,(h8,(h9,(h10,())))))))))))))
 else
  ge (bif (decide (way1=(0:Int))) then
    some (true)
   else
    some ((cond false true (decide (way1=(1:Int)))))) fun (v15:Bool)=>
  bif (!v15) then
   some ((((1:Int),()),(h0,(h1,(h2,(h3,(h4,(h5,(h6,(h7,(h8,(h9,(h10,())))))))))))))
  else
   bif h8 then
    some ((((11:Int),()),(h0,(h1,(h2,(h3,(h4,(h5,(h6,(h7,(h8,(h9,(h10,())))))))))))))
   else
    bif (decide (way1=((0:Nat):Int))) then
     bif (decide ((gt .i64 ((65536:Int)-(((eq h9):Nat):Int)))<(((eq b2):Nat):Int))) then
      some ((((12:Int),()),(h0,(h1,(h2,(h3,(h4,(h5,(h6,(h7,(h8,(h9,(h10,())))))))))))))
     else
      bif (decide (way1=((0:Nat):Int))) then
       bif (aS ((eq h9)+(eq b2)) 1) then
        some ((((0:Int),()),(h0,(h1,((gt .i64 (h2+(((eq b2):Nat):Int))),(h3,(h4,(h5,(h6,(h7,(h8,((h9++b2),(h10,())))))))))))))
       else
        none
      else
       bif (decide (way1=((((0:Nat)+(1:Nat)):Nat):Int))) then
        bif (aS ((eq h10)+(eq b2)) 1) then
         some ((((0:Int),()),(h0,(h1,(h2,(h3,(h4,((gt .i64 (h5+(((eq b2):Nat):Int))),(h6,(h7,(h8,(h9,((h10++b2),())))))))))))))
        else
         none
       else
        none
    else
     bif (decide (way1=((((0:Nat)+(1:Nat)):Nat):Int))) then
      bif (decide ((gt .i64 ((65536:Int)-(((eq h10):Nat):Int)))<(((eq b2):Nat):Int))) then
       some ((((12:Int),()),(h0,(h1,(h2,(h3,(h4,(h5,(h6,(h7,(h8,(h9,(h10,())))))))))))))
      else
       bif (decide (way1=((0:Nat):Int))) then
        bif (aS ((eq h9)+(eq b2)) 1) then
         some ((((0:Int),()),(h0,(h1,((gt .i64 (h2+(((eq b2):Nat):Int))),(h3,(h4,(h5,(h6,(h7,(h8,((h9++b2),(h10,())))))))))))))
        else
         none
       else
        bif (decide (way1=((((0:Nat)+(1:Nat)):Nat):Int))) then
         bif (aS ((eq h10)+(eq b2)) 1) then
          some ((((0:Int),()),(h0,(h1,(h2,(h3,(h4,((gt .i64 (h5+(((eq b2):Nat):Int))),(h6,(h7,(h8,(h9,((h10++b2),())))))))))))))
         else
          none
        else
         none
     else
      none
theorem fI (way1:Int)(b2:List (Int))(h0:Bool)(h1:Arr Int 32)(h2:Int)(h3:Int)(h4:Int)(h5:Int)(h6:Int)(h7:Int)(h8:Bool)(h9:List (Int))(h10:List (Int)):(runM ne (Ev8 N) 400 [6,1] 6 bD ((way1,b2,()),(h0,h1,h2,h3,h4,h5,h6,h7,h8,h9,h10,()))).run=ao N way1 b2 h0 h1 h2 h3 h4 h5 h6 h7 h8 h9 h10:=by kernel_rfl
noncomputable def Ev9:(R:Type)→Env R:=Env.addMth (Ev8 N) 6 (fun R old=>mthK ne bD (fun c=>ao N c.1.1 c.1.2.1 c.2.1 c.2.2.1 c.2.2.2.1 c.2.2.2.2.1 c.2.2.2.2.2.1 c.2.2.2.2.2.2.1 c.2.2.2.2.2.2.2.1 c.2.2.2.2.2.2.2.2.1 c.2.2.2.2.2.2.2.2.2.1 c.2.2.2.2.2.2.2.2.2.2.1 c.2.2.2.2.2.2.2.2.2.2.2.1) old)
theorem sc (R:Type):EnvOK ne (Ev9 N R):=EnvOK.addMth (sd N R) (cC (mi:=bD) (g:=fun c=>ao N c.1.1 c.1.2.1 c.2.1 c.2.2.1 c.2.2.2.1 c.2.2.2.2.1 c.2.2.2.2.2.1 c.2.2.2.2.2.2.1 c.2.2.2.2.2.2.2.1 c.2.2.2.2.2.2.2.2.1 c.2.2.2.2.2.2.2.2.2.1 c.2.2.2.2.2.2.2.2.2.2.1 c.2.2.2.2.2.2.2.2.2.2.2.1) hmx (sd N _) (by kernel_rfl) (fun (c:CT bD.sh)=>fI N c.1.1 c.1.2.1 c.2.1 c.2.2.1 c.2.2.2.1 c.2.2.2.2.1 c.2.2.2.2.2.1 c.2.2.2.2.2.2.1 c.2.2.2.2.2.2.2.1 c.2.2.2.2.2.2.2.2.1 c.2.2.2.2.2.2.2.2.2.1 c.2.2.2.2.2.2.2.2.2.2.1 c.2.2.2.2.2.2.2.2.2.2.2.1))
noncomputable def bk:MI:=⟨39,2,1,⟨[(0,.lit (.box 0 0)),(1,.ty (.int .i64)),(2,.ty (.int .i64))],[.boxp 62 [.ty .bool,.ty (.arr 32 (.int .u8)),.own 1,.ty (.int .i64),.ty (.int .i64),.ty (.int .i64),.own 2,.ty (.int .i64),.ty (.int .i64),.ty (.int .i64),.ty .bool],.own (.int .u8) 5,.own (.int .u8) 5]⟩,[(.exit 0,⟨[(0,.ty (.sl (.int .u8))),(1,.ty (.int .i64))],[.boxp 62 [.ty .bool,.ty (.arr 32 (.int .u8)),.own 1,.ty (.int .i64),.ty (.int .i64),.ty (.int .i64),.own 2,.ty (.int .i64),.ty (.int .i64),.ty (.int .i64),.ty .bool],.own (.int .u8) 5,.own (.int .u8) 5]⟩)]⟩
noncomputable def ah (N:Nat)(way1:Int)(n2:Int)(h0:Bool)(h1:Arr Int 32)(h2:Int)(h3:Int)(h4:Int)(h5:Int)(h6:Int)(h7:Int)(h8:Bool)(h9:List (Int))(h10:List (Int)):Option ((((List Int)×(Int×Unit))×pz4)):=
 ge (some ((cond true h0 false))) fun (v14:Bool)=>
 bif (!v14) then
  some (((([]:List Int),((2:Int),())),(h0,(h1,(h2,(h3,(h4,(h5,(h6,(h7,(h8,(h9,(h10,())))))))))))))
 else
  ge (bif (decide (way1=(0:Int))) then
    some (true)
   else
    some ((cond false true (decide (way1=(1:Int)))))) fun (v15:Bool)=>
  ge (bif (!v15) then
    some (true)
   else
    some ((cond false true (decide (n2<(0:Int)))))) fun (v16:Bool)=>
  bif v16 then
   some (((([]:List Int),((1:Int),())),(h0,(h1,(h2,(h3,(h4,(h5,(h6,(h7,(h8,(h9,(h10,())))))))))))))
  else
   bif (decide (way1=((0:Nat):Int))) then
    ge (cN h9 (@minI n2 (((eq h9):Nat):Int))) fun (v17:(List Int))=>
    bif (aS (eq v17) 1) then
     ge (dh h9 (@minI n2 (((eq h9):Nat):Int))) fun (v18:(List Int))=>
     bif (decide (way1=((0:Nat):Int))) then
      bif (decide (way1=((0:Nat):Int))) then
       some (((v17,((0:Int),())),(h0,(h1,(h2,((gt .i64 (h3+(((eq v17):Nat):Int))),(h4,(h5,(h6,(h7,(h8,(v18,(h10,())))))))))))))
      else
       bif (decide (way1=((((0:Nat)+(1:Nat)):Nat):Int))) then
        some (((v17,((0:Int),())),(h0,(h1,(h2,(h3,(h4,(h5,((gt .i64 (h3+(((eq v17):Nat):Int))),(h7,(h8,(v18,(h10,())))))))))))))
       else
        none
     else
      bif (decide (way1=((((0:Nat)+(1:Nat)):Nat):Int))) then
       bif (decide (way1=((0:Nat):Int))) then
        some (((v17,((0:Int),())),(h0,(h1,(h2,((gt .i64 (h6+(((eq v17):Nat):Int))),(h4,(h5,(h6,(h7,(h8,(v18,(h10,())))))))))))))
       else
        bif (decide (way1=((((0:Nat)+(1:Nat)):Nat):Int))) then
         some (((v17,((0:Int),())),(h0,(h1,(h2,(h3,(h4,(h5,((gt .i64 (h6+(((eq v17):Nat):Int))),(h7,(h8,(v18,(h10,())))))))))))))
        else
         none
      else
       none
    else
     none
   else
    bif (decide (way1=((((0:Nat)+(1:Nat)):Nat):Int))) then
     ge (cN h10 (@minI n2 (((eq h10):Nat):Int))) fun (v17:(List Int))=>
     bif (aS (eq v17) 1) then
      ge (dh h10 (@minI n2 (((eq h10):Nat):Int))) fun (v18:(List Int))=>
      bif (decide (way1=((0:Nat):Int))) then
       bif (decide (way1=((0:Nat):Int))) then
        some (((v17,((0:Int),())),(h0,(h1,(h2,((gt .i64 (h3+(((eq v17):Nat):Int))),(h4,(h5,(h6,(h7,(h8,(h9,(v18,())))))))))))))
       else
        bif (decide (way1=((((0:Nat)+(1:Nat)):Nat):Int))) then
         some (((v17,((0:Int),())),(h0,(h1,(h2,(h3,(h4,(h5,((gt .i64 (h3+(((eq v17):Nat):Int))),(h7,(h8,(h9,(v18,())))))))))))))
        else
         none
      else
       bif (decide (way1=((((0:Nat)+(1:Nat)):Nat):Int))) then
        bif (decide (way1=((0:Nat):Int))) then
         some (((v17,((0:Int),())),(h0,(h1,(h2,((gt .i64 (h6+(((eq v17):Nat):Int))),(h4,(h5,(h6,(h7,(h8,(h9,(v18,())))))))))))))
        else
         bif (decide (way1=((((0:Nat)+(1:Nat)):Nat):Int))) then
          some (((v17,((0:Int),())),(h0,(h1,(h2,(h3,(h4,(h5,((gt .i64 (h6+(((eq v17):Nat):Int))),(h7,(h8,(h9,(v18,())))))))))))))
         else
          none
       else
        none
     else
      none
    else
     none
theorem fk (way1:Int)(n2:Int)(h0:Bool)(h1:Arr Int 32)(h2:Int)(h3:Int)(h4:Int)(h5:Int)(h6:Int)(h7:Int)(h8:Bool)(h9:List (Int))(h10:List (Int)):(runM ne (Ev9 N) 400 [8,1] 8 bk ((way1,n2,()),(h0,h1,h2,h3,h4,h5,h6,h7,h8,h9,h10,()))).run=ah N way1 n2 h0 h1 h2 h3 h4 h5 h6 h7 h8 h9 h10:=by kernel_rfl
noncomputable def Ev10:(R:Type)→Env R:=Env.addMth (Ev9 N) 8 (fun R old=>mthK ne bk (fun c=>ah N c.1.1 c.1.2.1 c.2.1 c.2.2.1 c.2.2.2.1 c.2.2.2.2.1 c.2.2.2.2.2.1 c.2.2.2.2.2.2.1 c.2.2.2.2.2.2.2.1 c.2.2.2.2.2.2.2.2.1 c.2.2.2.2.2.2.2.2.2.1 c.2.2.2.2.2.2.2.2.2.2.1 c.2.2.2.2.2.2.2.2.2.2.2.1) old)
theorem qH (R:Type):EnvOK ne (Ev10 N R):=EnvOK.addMth (sc N R) (cC (mi:=bk) (g:=fun c=>ah N c.1.1 c.1.2.1 c.2.1 c.2.2.1 c.2.2.2.1 c.2.2.2.2.1 c.2.2.2.2.2.1 c.2.2.2.2.2.2.1 c.2.2.2.2.2.2.2.1 c.2.2.2.2.2.2.2.2.1 c.2.2.2.2.2.2.2.2.2.1 c.2.2.2.2.2.2.2.2.2.2.1 c.2.2.2.2.2.2.2.2.2.2.2.1) hmx (sc N _) (by kernel_rfl) (fun (c:CT bk.sh)=>fk N c.1.1 c.1.2.1 c.2.1 c.2.2.1 c.2.2.2.1 c.2.2.2.2.1 c.2.2.2.2.2.1 c.2.2.2.2.2.2.1 c.2.2.2.2.2.2.2.1 c.2.2.2.2.2.2.2.2.1 c.2.2.2.2.2.2.2.2.2.1 c.2.2.2.2.2.2.2.2.2.2.1 c.2.2.2.2.2.2.2.2.2.2.2.1))
noncomputable def bE:MI:=⟨21,1,1,⟨[(0,.lit (.box 0 0)),(1,.ty (.int .i64))],[.boxp 62 [.ty .bool,.ty (.arr 32 (.int .u8)),.own 1,.ty (.int .i64),.ty (.int .i64),.ty (.int .i64),.own 2,.ty (.int .i64),.ty (.int .i64),.ty (.int .i64),.ty .bool],.own (.int .u8) 5,.own (.int .u8) 5]⟩,[(.exit 0,⟨[(0,.ty (.int .i64))],[.boxp 62 [.ty .bool,.ty (.arr 32 (.int .u8)),.own 1,.ty (.int .i64),.ty (.int .i64),.ty (.int .i64),.own 2,.ty (.int .i64),.ty (.int .i64),.ty (.int .i64),.ty .bool],.own (.int .u8) 5,.own (.int .u8) 5]⟩)]⟩
noncomputable def av (N:Nat)(way1:Int)(h0:Bool)(h1:Arr Int 32)(h2:Int)(h3:Int)(h4:Int)(h5:Int)(h6:Int)(h7:Int)(h8:Bool)(h9:List (Int))(h10:List (Int)):Option (((Int×Unit)×pz4)):=
 ge (some ((cond true h0 false))) fun (v13:Bool)=>
 bif (!v13) then
  some ((((0:Int),()),(h0,(h1,(h2,(h3,(h4,(h5,(h6,(h7,(h8,(h9,(h10,())))))))))))))
 else
  ge (bif (decide (way1=(0:Int))) then
    some (true)
   else
    some ((cond false true (decide (way1=(1:Int)))))) fun (v14:Bool)=>
  ge (some ((cond false true (!v14)))) fun (v15:Bool)=>
  bif v15 then
   some ((((0:Int),()),(h0,(h1,(h2,(h3,(h4,(h5,(h6,(h7,(h8,(h9,(h10,())))))))))))))
  else
   bif (decide (way1=((0:Nat):Int))) then
    some ((((((eq h9):Nat):Int),()),(h0,(h1,(h2,(h3,(h4,(h5,(h6,(h7,(h8,(h9,(h10,())))))))))))))
   else
    bif (decide (way1=((((0:Nat)+(1:Nat)):Nat):Int))) then
     some ((((((eq h10):Nat):Int),()),(h0,(h1,(h2,(h3,(h4,(h5,(h6,(h7,(h8,(h9,(h10,())))))))))))))
    else
     none
theorem fJ (way1:Int)(h0:Bool)(h1:Arr Int 32)(h2:Int)(h3:Int)(h4:Int)(h5:Int)(h6:Int)(h7:Int)(h8:Bool)(h9:List (Int))(h10:List (Int)):(runM ne (Ev10 N) 400 [18,1] 18 bE ((way1,()),(h0,h1,h2,h3,h4,h5,h6,h7,h8,h9,h10,()))).run=av N way1 h0 h1 h2 h3 h4 h5 h6 h7 h8 h9 h10:=by kernel_rfl
noncomputable def Ev11:(R:Type)→Env R:=Env.addMth (Ev10 N) 18 (fun R old=>mthK ne bE (fun c=>av N c.1.1 c.2.1 c.2.2.1 c.2.2.2.1 c.2.2.2.2.1 c.2.2.2.2.2.1 c.2.2.2.2.2.2.1 c.2.2.2.2.2.2.2.1 c.2.2.2.2.2.2.2.2.1 c.2.2.2.2.2.2.2.2.2.1 c.2.2.2.2.2.2.2.2.2.2.1 c.2.2.2.2.2.2.2.2.2.2.2.1) old)
theorem qG (R:Type):EnvOK ne (Ev11 N R):=EnvOK.addMth (qH N R) (cC (mi:=bE) (g:=fun c=>av N c.1.1 c.2.1 c.2.2.1 c.2.2.2.1 c.2.2.2.2.1 c.2.2.2.2.2.1 c.2.2.2.2.2.2.1 c.2.2.2.2.2.2.2.1 c.2.2.2.2.2.2.2.2.1 c.2.2.2.2.2.2.2.2.2.1 c.2.2.2.2.2.2.2.2.2.2.1 c.2.2.2.2.2.2.2.2.2.2.2.1) hmx (qH N _) (by kernel_rfl) (fun (c:CT bE.sh)=>fJ N c.1.1 c.2.1 c.2.2.1 c.2.2.2.1 c.2.2.2.2.1 c.2.2.2.2.2.1 c.2.2.2.2.2.2.1 c.2.2.2.2.2.2.2.1 c.2.2.2.2.2.2.2.2.1 c.2.2.2.2.2.2.2.2.2.1 c.2.2.2.2.2.2.2.2.2.2.1 c.2.2.2.2.2.2.2.2.2.2.2.1))
noncomputable def bq:MI:=⟨11,1,1,⟨[(0,.lit (.box 0 0))],[.boxp 62 [.ty .bool,.ty (.arr 32 (.int .u8)),.own 1,.ty (.int .i64),.ty (.int .i64),.ty (.int .i64),.own 2,.ty (.int .i64),.ty (.int .i64),.ty (.int .i64),.ty .bool],.own (.int .u8) 5,.own (.int .u8) 5]⟩,[(.exit 0,⟨[(0,.ty (.arr 32 (.int .u8)))],[.boxp 62 [.ty .bool,.ty (.arr 32 (.int .u8)),.own 1,.ty (.int .i64),.ty (.int .i64),.ty (.int .i64),.own 2,.ty (.int .i64),.ty (.int .i64),.ty (.int .i64),.ty .bool],.own (.int .u8) 5,.own (.int .u8) 5]⟩)]⟩
noncomputable def bW (N:Nat)(h0:Bool)(h1:Arr Int 32)(h2:Int)(h3:Int)(h4:Int)(h5:Int)(h6:Int)(h7:Int)(h8:Bool)(h9:List (Int))(h10:List (Int)):Option ((((Arr Int 32)×Unit)×pz4)):=
 ge (some ((cond true h0 false))) fun (v12:Bool)=>
 bif (!v12) then
  some (((zc32,()),(h0,(h1,(h2,(h3,(h4,(h5,(h6,(h7,(h8,(h9,(h10,())))))))))))))
 else
  some (((h1,()),(h0,(h1,(h2,(h3,(h4,(h5,(h6,(h7,(h8,(h9,(h10,())))))))))))))
theorem ft (h0:Bool)(h1:Arr Int 32)(h2:Int)(h3:Int)(h4:Int)(h5:Int)(h6:Int)(h7:Int)(h8:Bool)(h9:List (Int))(h10:List (Int)):(runM ne (Ev11 N) 400 [20,1] 20 bq ((),(h0,h1,h2,h3,h4,h5,h6,h7,h8,h9,h10,()))).run=bW N h0 h1 h2 h3 h4 h5 h6 h7 h8 h9 h10:=by kernel_rfl
noncomputable def Ev12:(R:Type)→Env R:=Env.addMth (Ev11 N) 20 (fun R old=>mthK ne bq (fun c=>bW N c.2.1 c.2.2.1 c.2.2.2.1 c.2.2.2.2.1 c.2.2.2.2.2.1 c.2.2.2.2.2.2.1 c.2.2.2.2.2.2.2.1 c.2.2.2.2.2.2.2.2.1 c.2.2.2.2.2.2.2.2.2.1 c.2.2.2.2.2.2.2.2.2.2.1 c.2.2.2.2.2.2.2.2.2.2.2.1) old)
theorem qF (R:Type):EnvOK ne (Ev12 N R):=EnvOK.addMth (qG N R) (cC (mi:=bq) (g:=fun c=>bW N c.2.1 c.2.2.1 c.2.2.2.1 c.2.2.2.2.1 c.2.2.2.2.2.1 c.2.2.2.2.2.2.1 c.2.2.2.2.2.2.2.1 c.2.2.2.2.2.2.2.2.1 c.2.2.2.2.2.2.2.2.2.1 c.2.2.2.2.2.2.2.2.2.2.1 c.2.2.2.2.2.2.2.2.2.2.2.1) hmx (qG N _) (by kernel_rfl) (fun (c:CT bq.sh)=>ft N c.2.1 c.2.2.1 c.2.2.2.1 c.2.2.2.2.1 c.2.2.2.2.2.1 c.2.2.2.2.2.2.1 c.2.2.2.2.2.2.2.1 c.2.2.2.2.2.2.2.2.1 c.2.2.2.2.2.2.2.2.2.1 c.2.2.2.2.2.2.2.2.2.2.1 c.2.2.2.2.2.2.2.2.2.2.2.1))
noncomputable def bo:MI:=⟨12,1,1,⟨[(0,.lit (.box 0 0))],[.boxp 62 [.ty .bool,.ty (.arr 32 (.int .u8)),.own 1,.ty (.int .i64),.ty (.int .i64),.ty (.int .i64),.own 2,.ty (.int .i64),.ty (.int .i64),.ty (.int .i64),.ty .bool],.own (.int .u8) 5,.own (.int .u8) 5]⟩,[(.exit 0,⟨[(0,.ty .bool)],[.boxp 62 [.ty .bool,.ty (.arr 32 (.int .u8)),.own 1,.ty (.int .i64),.ty (.int .i64),.ty (.int .i64),.own 2,.ty (.int .i64),.ty (.int .i64),.ty (.int .i64),.ty .bool],.own (.int .u8) 5,.own (.int .u8) 5]⟩)]⟩
noncomputable def aG (N:Nat)(h0:Bool)(h1:Arr Int 32)(h2:Int)(h3:Int)(h4:Int)(h5:Int)(h6:Int)(h7:Int)(h8:Bool)(h9:List (Int))(h10:List (Int)):Option (((Bool×Unit)×pz4)):=
 ge (some ((cond true h0 false))) fun (v12:Bool)=>
 ge (bif v12 then
   some ((cond true (!h8) false))
  else
   some (false)) fun (v13:Bool)=>
 some (((v13,()),(h0,(h1,(h2,(h3,(h4,(h5,(h6,(h7,(h8,(h9,(h10,())))))))))))))
theorem fp (h0:Bool)(h1:Arr Int 32)(h2:Int)(h3:Int)(h4:Int)(h5:Int)(h6:Int)(h7:Int)(h8:Bool)(h9:List (Int))(h10:List (Int)):(runM ne (Ev12 N) 400 [19,1] 19 bo ((),(h0,h1,h2,h3,h4,h5,h6,h7,h8,h9,h10,()))).run=aG N h0 h1 h2 h3 h4 h5 h6 h7 h8 h9 h10:=by kernel_rfl
noncomputable def Ev13:(R:Type)→Env R:=Env.addMth (Ev12 N) 19 (fun R old=>mthK ne bo (fun c=>aG N c.2.1 c.2.2.1 c.2.2.2.1 c.2.2.2.2.1 c.2.2.2.2.2.1 c.2.2.2.2.2.2.1 c.2.2.2.2.2.2.2.1 c.2.2.2.2.2.2.2.2.1 c.2.2.2.2.2.2.2.2.2.1 c.2.2.2.2.2.2.2.2.2.2.1 c.2.2.2.2.2.2.2.2.2.2.2.1) old)
theorem qE (R:Type):EnvOK ne (Ev13 N R):=EnvOK.addMth (qF N R) (cC (mi:=bo) (g:=fun c=>aG N c.2.1 c.2.2.1 c.2.2.2.1 c.2.2.2.2.1 c.2.2.2.2.2.1 c.2.2.2.2.2.2.1 c.2.2.2.2.2.2.2.1 c.2.2.2.2.2.2.2.2.1 c.2.2.2.2.2.2.2.2.2.1 c.2.2.2.2.2.2.2.2.2.2.1 c.2.2.2.2.2.2.2.2.2.2.2.1) hmx (qF N _) (by kernel_rfl) (fun (c:CT bo.sh)=>fp N c.2.1 c.2.2.1 c.2.2.2.1 c.2.2.2.2.1 c.2.2.2.2.2.1 c.2.2.2.2.2.2.1 c.2.2.2.2.2.2.2.1 c.2.2.2.2.2.2.2.2.1 c.2.2.2.2.2.2.2.2.2.1 c.2.2.2.2.2.2.2.2.2.2.1 c.2.2.2.2.2.2.2.2.2.2.2.1))
noncomputable def iH:Option Bool:=
 ge (cy N (@Arr.cons Int 31 7 zc31)) fun v1=>
 ge (ao N (0:Int) ([97,98,99]:List Int) v1.2.1 v1.2.2.1 v1.2.2.2.1 v1.2.2.2.2.1 v1.2.2.2.2.2.1 v1.2.2.2.2.2.2.1 v1.2.2.2.2.2.2.2.1 v1.2.2.2.2.2.2.2.2.1 v1.2.2.2.2.2.2.2.2.2.1 (v1.2.2.2.2.2.2.2.2.2).snd.1 (v1.2.2.2.2.2.2.2.2.2).snd.2.1) fun v2=>
 ge (some ((cond false true (!(decide (v2.1.1=(0:Int))))))) fun (v3:Bool)=>
 bif v3 then
  some (false)
 else
  ge (ah N (0:Int) (2:Int) v2.2.1 v2.2.2.1 v2.2.2.2.1 v2.2.2.2.2.1 v2.2.2.2.2.2.1 v2.2.2.2.2.2.2.1 v2.2.2.2.2.2.2.2.1 v2.2.2.2.2.2.2.2.2.1 v2.2.2.2.2.2.2.2.2.2.1 (v2.2.2.2.2.2.2.2.2.2).snd.1 (v2.2.2.2.2.2.2.2.2.2).snd.2.1) fun v4=>
  ge (@toBy v4.1.1) fun (v5:(List UInt8))=>
  ge (bif (decide (v5=(Array.toList (List.toArray ([97,98]:List UInt8))))) then
    some ((cond true (decide (v4.1.2.1=(0:Int))) false))
   else
    some (false)) fun (v6:Bool)=>
  bif v6 then
   ge (av N (0:Int) v4.2.1 v4.2.2.1 v4.2.2.2.1 v4.2.2.2.2.1 v4.2.2.2.2.2.1 v4.2.2.2.2.2.2.1 v4.2.2.2.2.2.2.2.1 v4.2.2.2.2.2.2.2.2.1 v4.2.2.2.2.2.2.2.2.2.1 (v4.2.2.2.2.2.2.2.2.2).snd.1 (v4.2.2.2.2.2.2.2.2.2).snd.2.1) fun v7=>
   ge (some ((cond true (decide (v7.1.1=(1:Int))) false))) fun (v8:Bool)=>
   bif v8 then
    ge (bW N v7.2.1 v7.2.2.1 v7.2.2.2.1 v7.2.2.2.2.1 v7.2.2.2.2.2.1 v7.2.2.2.2.2.2.1 v7.2.2.2.2.2.2.2.1 v7.2.2.2.2.2.2.2.2.1 v7.2.2.2.2.2.2.2.2.2.1 (v7.2.2.2.2.2.2.2.2.2).snd.1 (v7.2.2.2.2.2.2.2.2.2).snd.2.1) fun v9=>
    ge (bif ((@wfB (@Td.arr (32:Nat) (@Td.int @IntKind.u8)) v9.1.1)&&(@wfB (@Td.arr (32:Nat) (@Td.int @IntKind.u8)) (@Arr.cons Int 31 7 zc31))) then
      some ((cond true (@Decidable.decide (@Eq (Arr Int 32) v9.1.1 (@Arr.cons Int 31 7 zc31)) (@decT (@Td.arr (32:Nat) (@Td.int @IntKind.u8)) v9.1.1 (@Arr.cons Int 31 7 zc31))) false))
     else
      none) fun (v10:Bool)=>
    bif v10 then
     ge (aG N v9.2.1 v9.2.2.1 v9.2.2.2.1 v9.2.2.2.2.1 v9.2.2.2.2.2.1 v9.2.2.2.2.2.2.1 v9.2.2.2.2.2.2.2.1 v9.2.2.2.2.2.2.2.2.1 v9.2.2.2.2.2.2.2.2.2.1 (v9.2.2.2.2.2.2.2.2.2).snd.1 (v9.2.2.2.2.2.2.2.2.2).snd.2.1) fun v11=>
     some ((cond (cond (cond true v11.1.1 false) true false) true false))
    else
     some ((cond (cond false true false) true false))
   else
    some ((cond (cond false true false) true false))
  else
   some ((cond (cond false true false) true false))
theorem j2:(runK ne (Ev13 N) 400 5 [] [.bool] ()).run=iH N:=by kernel_rfl
noncomputable def Ev14:(R:Type)→Env R:=Env.addFn (Ev13 N) 5 (fun R=>fnK [] [.bool] (fun c=>iH N ))
theorem tN (R:Type):EnvOK ne (Ev14 N R):=EnvOK.addFn hmx (qE N R) (qE N _) (by kernel_rfl) (fun c=>j2 N )
noncomputable def Ev15:(R:Type)→Env R:=Env.addMv (Ev14 N) [(7,7)]
theorem tM (R:Type):EnvOK ne (Ev15 N R):=EnvOK.addMv (tN N R) [(7,7)]
noncomputable def Ev16:(R:Type)→Env R:=Env.addBx (Ev15 N) [(7,7)]
theorem qD (R:Type):EnvOK ne (Ev16 N R):=EnvOK.addBx (tM N R) [(7,7)]
noncomputable def ba (N:Nat)(w0:Int):Option Bool:=
 ge (bif (decide (w0=(0:Int))) then
   some (true)
  else
   some ((cond false true (decide (w0=(1:Int)))))) fun (v2:Bool)=>
 some (v2)
theorem lX (w0:Int):(runK ne (Ev16 N) 400 25 [(.int .i64)] [.bool] (w0,())).run=ba N w0:=by kernel_rfl
noncomputable def Ev17:(R:Type)→Env R:=Env.addFn (Ev16 N) 25 (fun R=>fnK [(.int .i64)] [.bool] (fun c=>ba N c.1))
theorem qC (R:Type):EnvOK ne (Ev17 N R):=EnvOK.addFn hmx (qD N R) (qD N _) (by kernel_rfl) (fun c=>lX N c.1)
noncomputable def aP (c0:(Arr pz2 2)×(Bool))(w1:Int)(b2:List (Int)):Option (((Arr pz2 2)×(Bool))×Int):=
 ge (ba N w1) fun v4=>
 bif (!v4) then
  some ((c0,(1:Int)))
 else
  bif c0.2 then
   some ((c0,(11:Int)))
  else
   bif (decide ((0:Int)≤w1∧w1<((2:Nat):Int))) then
    ge (@GetElem?.getElem? (List pz2) Nat pz2 (fun (as5:(List pz2))=>(fun (i6:Nat)=>(@uN Nat @instLTNat i6 (eq as5)))) (@List.instGetElem?NatLtLength pz2) c0.1.l (uH w1)) fun (v5:pz2)=>
    bif (decide ((65536:Int)<(gt .i64 ((((eq v5.1):Nat):Int)+(((eq b2):Nat):Int))))) then
     some ((c0,(12:Int)))
    else
     bif (decide ((0:Int)≤w1∧w1<((2:Nat):Int))) then
      ge (@GetElem?.getElem? (List pz2) Nat pz2 (fun (as6:(List pz2))=>(fun (i7:Nat)=>(@uN Nat @instLTNat i7 (eq as6)))) (@List.instGetElem?NatLtLength pz2) c0.1.l (uH w1)) fun (v6:pz2)=>
      bif (aS (eq v6.1) 1) then
       bif (aS ((eq v6.1)+(eq b2)) 1) then
        bif (decide ((0:Int)≤w1∧w1<((2:Nat):Int))) then
         ge (@GetElem?.getElem? (List pz2) Nat pz2 (fun (as7:(List pz2))=>(fun (i8:Nat)=>(@uN Nat @instLTNat i8 (eq as7)))) (@List.instGetElem?NatLtLength pz2) c0.1.l (uH w1)) fun (v7:pz2)=>
         bif (decide ((0:Int)≤w1∧w1<((2:Nat):Int))) then
          ge (@GetElem?.getElem? (List pz2) Nat pz2 (fun (as8:(List pz2))=>(fun (i9:Nat)=>(@uN Nat @instLTNat i9 (eq as8)))) (@List.instGetElem?NatLtLength pz2) (c0.1.set (uH w1) ((v6.1++b2),v7.2)).l (uH w1)) fun (v8:pz2)=>
          bif (decide ((0:Int)≤w1∧w1<((2:Nat):Int))) then
           ge (@GetElem?.getElem? (List pz2) Nat pz2 (fun (as9:(List pz2))=>(fun (i10:Nat)=>(@uN Nat @instLTNat i10 (eq as9)))) (@List.instGetElem?NatLtLength pz2) (c0.1.set (uH w1) ((v6.1++b2),v7.2)).l (uH w1)) fun (v9:pz2)=>
           some (((((c0.1.set (uH w1) ((v6.1++b2),v7.2)).set (uH w1) (v9.1,((gt .i64 (v8.2.1+(((eq b2):Nat):Int))),v9.2.2))),c0.2),(0:Int)))
          else
           none
         else
          none
        else
         none
       else
        none
      else
       none
     else
      none
   else
    none
theorem lZ (c0:(Arr pz2 2)×(Bool))(w1:Int)(b2:List (Int)):(runK ne (Ev17 N) 400 7 [qz0,(.int .i64),(.sl (.int .u8))] [qz0,(.int .i64)] (c0,w1,b2,())).run=aP N c0 w1 b2:=by kernel_rfl
noncomputable def Ev18:(R:Type)→Env R:=Env.addFn (Ev17 N) 7 (fun R=>fnK [qz0,(.int .i64),(.sl (.int .u8))] [qz0,(.int .i64)] (fun c=>aP N c.1 c.2.1 c.2.2.1))
theorem qB (R:Type):EnvOK ne (Ev18 N R):=EnvOK.addFn hmx (qC N R) (qC N _) (by kernel_rfl) (fun c=>lZ N c.1 c.2.1 c.2.2.1)
noncomputable def bc:MI:=⟨28,3,1,⟨[(0,.lit (.box 0 0)),(1,.ty (.int .i64))],[.boxp 62 [.ty .bool,.ty (.arr 32 (.int .u8)),.own 1,.ty (.int .i64),.ty (.int .i64),.ty (.int .i64),.own 2,.ty (.int .i64),.ty (.int .i64),.ty (.int .i64),.ty .bool],.own (.int .u8) 5,.own (.int .u8) 5]⟩,[(.exit 0,⟨[(0,.ty (.int .i64)),(1,.ty (.int .i64)),(2,.ty (.int .i64))],[.boxp 62 [.ty .bool,.ty (.arr 32 (.int .u8)),.own 1,.ty (.int .i64),.ty (.int .i64),.ty (.int .i64),.own 2,.ty (.int .i64),.ty (.int .i64),.ty (.int .i64),.ty .bool],.own (.int .u8) 5,.own (.int .u8) 5]⟩)]⟩
noncomputable def aE (N:Nat)(way1:Int)(h0:Bool)(h1:Arr Int 32)(h2:Int)(h3:Int)(h4:Int)(h5:Int)(h6:Int)(h7:Int)(h8:Bool)(h9:List (Int))(h10:List (Int)):Option (((Int×(Int×(Int×Unit)))×pz4)):=
 ge (some ((cond true h0 false))) fun (v13:Bool)=>
 bif (!v13) then
  some ((((0:Int),((0:Int),((0:Int),()))),(h0,(h1,(h2,(h3,(h4,(h5,(h6,(h7,(h8,(h9,(h10,())))))))))))))
 else
  ge (bif (decide (way1=(0:Int))) then
    some (true)
   else
    some ((cond false true (decide (way1=(1:Int)))))) fun (v14:Bool)=>
  ge (some ((cond false true (!v14)))) fun (v15:Bool)=>
  bif v15 then
   some ((((0:Int),((0:Int),((0:Int),()))),(h0,(h1,(h2,(h3,(h4,(h5,(h6,(h7,(h8,(h9,(h10,())))))))))))))
  else
   bif (decide (way1=((0:Nat):Int))) then
    some (((h2,(h3,(h4,()))),(h0,(h1,(h2,(h3,(h4,(h5,(h6,(h7,(h8,(h9,(h10,())))))))))))))
   else
    bif (decide (way1=((((0:Nat)+(1:Nat)):Nat):Int))) then
     some (((h5,(h6,(h7,()))),(h0,(h1,(h2,(h3,(h4,(h5,(h6,(h7,(h8,(h9,(h10,())))))))))))))
    else
     none
theorem eo (way1:Int)(h0:Bool)(h1:Arr Int 32)(h2:Int)(h3:Int)(h4:Int)(h5:Int)(h6:Int)(h7:Int)(h8:Bool)(h9:List (Int))(h10:List (Int)):(runM ne (Ev18 N) 400 [16,1] 16 bc ((way1,()),(h0,h1,h2,h3,h4,h5,h6,h7,h8,h9,h10,()))).run=aE N way1 h0 h1 h2 h3 h4 h5 h6 h7 h8 h9 h10:=by kernel_rfl
noncomputable def Ev19:(R:Type)→Env R:=Env.addMth (Ev18 N) 16 (fun R old=>mthK ne bc (fun c=>aE N c.1.1 c.2.1 c.2.2.1 c.2.2.2.1 c.2.2.2.2.1 c.2.2.2.2.2.1 c.2.2.2.2.2.2.1 c.2.2.2.2.2.2.2.1 c.2.2.2.2.2.2.2.2.1 c.2.2.2.2.2.2.2.2.2.1 c.2.2.2.2.2.2.2.2.2.2.1 c.2.2.2.2.2.2.2.2.2.2.2.1) old)
theorem qA (R:Type):EnvOK ne (Ev19 N R):=EnvOK.addMth (qB N R) (cC (mi:=bc) (g:=fun c=>aE N c.1.1 c.2.1 c.2.2.1 c.2.2.2.1 c.2.2.2.2.1 c.2.2.2.2.2.1 c.2.2.2.2.2.2.1 c.2.2.2.2.2.2.2.1 c.2.2.2.2.2.2.2.2.1 c.2.2.2.2.2.2.2.2.2.1 c.2.2.2.2.2.2.2.2.2.2.1 c.2.2.2.2.2.2.2.2.2.2.2.1) hmx (qB N _) (by kernel_rfl) (fun (c:CT bc.sh)=>eo N c.1.1 c.2.1 c.2.2.1 c.2.2.2.1 c.2.2.2.2.1 c.2.2.2.2.2.1 c.2.2.2.2.2.2.1 c.2.2.2.2.2.2.2.1 c.2.2.2.2.2.2.2.2.1 c.2.2.2.2.2.2.2.2.2.1 c.2.2.2.2.2.2.2.2.2.2.1 c.2.2.2.2.2.2.2.2.2.2.2.1))
noncomputable def bn:MI:=⟨21,1,1,⟨[(0,.lit (.box 0 0)),(1,.ty (.int .i64))],[.boxp 62 [.ty .bool,.ty (.arr 32 (.int .u8)),.own 1,.ty (.int .i64),.ty (.int .i64),.ty (.int .i64),.own 2,.ty (.int .i64),.ty (.int .i64),.ty (.int .i64),.ty .bool],.own (.int .u8) 5,.own (.int .u8) 5]⟩,[(.exit 0,⟨[(0,.ty (.sl (.int .u8)))],[.boxp 62 [.ty .bool,.ty (.arr 32 (.int .u8)),.own 1,.ty (.int .i64),.ty (.int .i64),.ty (.int .i64),.own 2,.ty (.int .i64),.ty (.int .i64),.ty (.int .i64),.ty .bool],.own (.int .u8) 5,.own (.int .u8) 5]⟩)]⟩
noncomputable def aB (N:Nat)(way1:Int)(h0:Bool)(h1:Arr Int 32)(h2:Int)(h3:Int)(h4:Int)(h5:Int)(h6:Int)(h7:Int)(h8:Bool)(h9:List (Int))(h10:List (Int)):Option ((((List Int)×Unit)×pz4)):=
 ge (some ((cond true h0 false))) fun (v13:Bool)=>
 bif (!v13) then
  some (((([]:List Int),()),(h0,(h1,(h2,(h3,(h4,(h5,(h6,(h7,(h8,(h9,(h10,())))))))))))))
 else
  ge (bif (decide (way1=(0:Int))) then
    some (true)
   else
    some ((cond false true (decide (way1=(1:Int)))))) fun (v14:Bool)=>
  ge (some ((cond false true (!v14)))) fun (v15:Bool)=>
  bif v15 then
   some (((([]:List Int),()),(h0,(h1,(h2,(h3,(h4,(h5,(h6,(h7,(h8,(h9,(h10,())))))))))))))
  else
   bif (decide (way1=((0:Nat):Int))) then
    bif (aS (eq h9) 1) then
     some (((h9,()),(h0,(h1,(h2,(h3,(h4,(h5,(h6,(h7,(h8,(h9,(h10,())))))))))))))
    else
     none
   else
    bif (decide (way1=((((0:Nat)+(1:Nat)):Nat):Int))) then
     bif (aS (eq h10) 1) then
      some (((h10,()),(h0,(h1,(h2,(h3,(h4,(h5,(h6,(h7,(h8,(h9,(h10,())))))))))))))
     else
      none
    else
     none
theorem fo (way1:Int)(h0:Bool)(h1:Arr Int 32)(h2:Int)(h3:Int)(h4:Int)(h5:Int)(h6:Int)(h7:Int)(h8:Bool)(h9:List (Int))(h10:List (Int)):(runM ne (Ev19 N) 400 [17,1] 17 bn ((way1,()),(h0,h1,h2,h3,h4,h5,h6,h7,h8,h9,h10,()))).run=aB N way1 h0 h1 h2 h3 h4 h5 h6 h7 h8 h9 h10:=by kernel_rfl
noncomputable def Ev20:(R:Type)→Env R:=Env.addMth (Ev19 N) 17 (fun R old=>mthK ne bn (fun c=>aB N c.1.1 c.2.1 c.2.2.1 c.2.2.2.1 c.2.2.2.2.1 c.2.2.2.2.2.1 c.2.2.2.2.2.2.1 c.2.2.2.2.2.2.2.1 c.2.2.2.2.2.2.2.2.1 c.2.2.2.2.2.2.2.2.2.1 c.2.2.2.2.2.2.2.2.2.2.1 c.2.2.2.2.2.2.2.2.2.2.2.1) old)
theorem qz (R:Type):EnvOK ne (Ev20 N R):=EnvOK.addMth (qA N R) (cC (mi:=bn) (g:=fun c=>aB N c.1.1 c.2.1 c.2.2.1 c.2.2.2.1 c.2.2.2.2.1 c.2.2.2.2.2.1 c.2.2.2.2.2.2.1 c.2.2.2.2.2.2.2.1 c.2.2.2.2.2.2.2.2.1 c.2.2.2.2.2.2.2.2.2.1 c.2.2.2.2.2.2.2.2.2.2.1 c.2.2.2.2.2.2.2.2.2.2.2.1) hmx (qA N _) (by kernel_rfl) (fun (c:CT bn.sh)=>fo N c.1.1 c.2.1 c.2.2.1 c.2.2.2.1 c.2.2.2.2.1 c.2.2.2.2.2.1 c.2.2.2.2.2.2.1 c.2.2.2.2.2.2.2.1 c.2.2.2.2.2.2.2.2.1 c.2.2.2.2.2.2.2.2.2.1 c.2.2.2.2.2.2.2.2.2.2.1 c.2.2.2.2.2.2.2.2.2.2.2.1))
noncomputable def cD:LI:=⟨26,0,[],⟨[(0,.ty (.sl (.int .u8))),(1,.ty (.sl (.int .u8))),(5,.ty (.int .i64))],[]⟩,[(.ret,⟨[(4,.ty .bool)],[]⟩),(.exit 0,⟨[],[]⟩)]⟩
noncomputable def bd (N:Nat)(X:(((List Int)×((List Int)×(Int×Unit)))×Unit)→Option ((((Bool×Unit)×Unit) ⊕ (Unit×Unit))))(a0:List (Int))(b1:List (Int))(i5:Int):Option ((((Bool×Unit)×Unit) ⊕ (Unit×Unit))):=
 bif (decide (i5<(((eq a0):Nat):Int))) then
  ge (getI a0 i5) fun (v5:Int)=>
  ge (getI b1 i5) fun (v6:Int)=>
  bif (!(decide (v5=v6))) then
   some ((.inl ((false,()),())))
  else
   (X ((a0,(b1,((gt .i64 (i5+1)),()))),()))
 else
  some ((.inr ((),())))
noncomputable def dq (c:(((List Int)×((List Int)×(Int×Unit)))×Unit)):Option ((((Bool×Unit)×Unit) ⊕ (Unit×Unit))):=gl (fun X c=>bd N X c.1.1 c.1.2.1 c.1.2.2.1) N c
theorem fR (X:(((List Int)×((List Int)×(Int×Unit)))×Unit)→Option ((((Bool×Unit)×Unit) ⊕ (Unit×Unit))))(a0:List (Int))(b1:List (Int))(i5:Int):(gQ ne (Ev20 N) 400 [10,1] cD (eg ne [10,1] 4) X ((a0,b1,i5,()),())).run=bd N X a0 b1 i5:=by kernel_rfl
noncomputable def Ev21:(R:Type)→Env R:=Env.addLp (Ev20 N) [10,1] 0 4 (fun R=>lpK ne cD (fun X c=>bd N X c.1.1 c.1.2.1 c.1.2.2.1) N)
theorem qy (R:Type):EnvOK ne (Ev21 N R):=EnvOK.addLp (qz N R) (by kernel_rfl) (kU (li:=cD) hmx (qz N _) (by kernel_rfl) dD (fun X c=>fR N X c.1.1 c.1.2.1 c.1.2.2.1) N)
noncomputable def cE:MI:=⟨26,1,0,⟨[(0,.ty (.sl (.int .u8))),(1,.ty (.sl (.int .u8)))],[]⟩,[(.exit 0,⟨[(0,.ty .bool)],[]⟩)]⟩
noncomputable def aN (a0:List (Int))(b1:List (Int)):Option (((Bool×Unit)×Unit)):=
 bif (!(decide ((((eq a0):Nat):Int)=(((eq b1):Nat):Int)))) then
  some (((false,()),()))
 else
  ge (dq N ((a0,(b1,((0:Int),()))),())) fun v3=>
  Sum.elim
   (fun (v4:((Bool×Unit)×Unit))=>
   some (((v4.1.1,()),())))
   (fun (v4:(Unit×Unit))=>
   some (((true,()),()))) v3
theorem iu (a0:List (Int))(b1:List (Int)):(runM ne (Ev21 N) 400 [10,1] 10 cE ((a0,b1,()),())).run=aN N a0 b1:=by kernel_rfl
noncomputable def Ev22:(R:Type)→Env R:=Env.addMth (Ev21 N) 10 (fun R old=>mthK ne cE (fun c=>aN N c.1.1 c.1.2.1) old)
theorem qx (R:Type):EnvOK ne (Ev22 N R):=EnvOK.addMth (qy N R) (cC (mi:=cE) (g:=fun c=>aN N c.1.1 c.1.2.1) hmx (qy N _) (by kernel_rfl) (fun (c:CT cE.sh)=>iu N c.1.1 c.1.2.1))
noncomputable def be:LI:=⟨287,0,[],⟨[(3,.lit (.bsl 0 2)),(4,.lit (.own 1)),(26,.ty (.int .i64)),(27,.lit (.box 2 0)),(45,.ty qz1),(46,.ty (.int .i64)),(47,.ty (.int .i64)),(215,.lit (.bsl 0 2)),(216,.ty (.int .i64)),(217,.ty (.int .i64)),(222,.ty (.int .i64))],[.boxp 23 [.lv (.box 2 0),.lv (.box 3 0)],.own qz0 32,.boxp 62 [.ty .bool,.ty (.arr 32 (.int .u8)),.own 4,.ty (.int .i64),.ty (.int .i64),.ty (.int .i64),.own 5,.ty (.int .i64),.ty (.int .i64),.ty (.int .i64),.ty .bool],.boxp 62 [.ty .bool,.ty (.arr 32 (.int .u8)),.own 6,.ty (.int .i64),.ty (.int .i64),.ty (.int .i64),.own 7,.ty (.int .i64),.ty (.int .i64),.ty (.int .i64),.ty .bool],.own (.int .u8) 5,.own (.int .u8) 5,.own (.int .u8) 5,.own (.int .u8) 5]⟩,[(.ret,⟨[(2,.ty .bool)],[]⟩),(.exit 5,⟨[(3,.lit (.bsl 0 2)),(4,.lit (.own 1)),(45,.ty qz1),(46,.ty (.int .i64)),(47,.ty (.int .i64)),(215,.lit (.bsl 0 2)),(216,.ty (.int .i64)),(217,.ty (.int .i64))],[.boxp 23 [.lv (.box 2 0),.lv (.box 3 0)],.own qz0 32,.boxp 62 [.ty .bool,.ty (.arr 32 (.int .u8)),.own 4,.ty (.int .i64),.ty (.int .i64),.ty (.int .i64),.own 5,.ty (.int .i64),.ty (.int .i64),.ty (.int .i64),.ty .bool],.boxp 62 [.ty .bool,.ty (.arr 32 (.int .u8)),.own 6,.ty (.int .i64),.ty (.int .i64),.ty (.int .i64),.own 7,.ty (.int .i64),.ty (.int .i64),.ty (.int .i64),.ty .bool],.own (.int .u8) 5,.own (.int .u8) 5,.own (.int .u8) 5,.own (.int .u8) 5]⟩)]⟩
noncomputable def aI (X:pz7→Option ((((Bool×Unit)×Unit) ⊕ pz6)))(j26:Int)(x45:List pz3)(x46:Int)(x47:Int)(x216:Int)(x217:Int)(x222:Int)(h0:List ((Arr pz2 2)×(Bool)))(h1:Bool)(h2:Arr Int 32)(h3:Int)(h4:Int)(h5:Int)(h6:Int)(h7:Int)(h8:Int)(h9:Bool)(h10:Bool)(h11:Arr Int 32)(h12:Int)(h13:Int)(h14:Int)(h15:Int)(h16:Int)(h17:Int)(h18:Bool)(h19:List (Int))(h20:List (Int))(h21:List (Int))(h22:List (Int)):Option ((((Bool×Unit)×Unit) ⊕ pz6)):=
 bif (decide (x222<(2:Int))) then
  ge (aE N x222 h1 h2 h3 h4 h5 h6 h7 h8 h9 h19 h20) fun v32=>
  bif (decide ((0:Int)≤j26∧j26<(((eq h0):Nat):Int))) then
   bif (decide (x222=((0:Nat):Int))) then
    ge (@GetElem?.getElem? (List pz0) Nat pz0 (fun (as33:(List pz0))=>(fun (i34:Nat)=>(@uN Nat @instLTNat i34 (eq as33)))) (@List.instGetElem?NatLtLength pz0) h0 (uH j26)) fun (v33:pz0)=>
    ge (aB N x222 v32.2.1 v32.2.2.1 v32.2.2.2.1 v32.2.2.2.2.1 v32.2.2.2.2.2.1 v32.2.2.2.2.2.2.1 v32.2.2.2.2.2.2.2.1 v32.2.2.2.2.2.2.2.2.1 v32.2.2.2.2.2.2.2.2.2.1 (v32.2.2.2.2.2.2.2.2.2).snd.1 (v32.2.2.2.2.2.2.2.2.2).snd.2.1) fun v34=>
    ge (aN N v34.1.1 (@uI pz2 v33.1.l (0:Nat) (([]:List Int),((0:Int),((0:Int),(0:Int))))).1) fun v35=>
    bif (!v35.1.1) then
     some ((.inl ((false,()),())))
    else
     ge (av N x222 v34.2.1 v34.2.2.1 v34.2.2.2.1 v34.2.2.2.2.1 v34.2.2.2.2.2.1 v34.2.2.2.2.2.2.1 v34.2.2.2.2.2.2.2.1 v34.2.2.2.2.2.2.2.2.1 v34.2.2.2.2.2.2.2.2.2.1 (v34.2.2.2.2.2.2.2.2.2).snd.1 (v34.2.2.2.2.2.2.2.2.2).snd.2.1) fun v36=>
     bif (cond false true (!(decide (v36.1.1=(((eq (@uI pz2 v33.1.l (0:Nat) (([]:List Int),((0:Int),((0:Int),(0:Int))))).1):Nat):Int))))) then
      some ((.inl ((false,()),())))
     else
      bif (cond false true (!(decide (v32.1.1=(@uI pz2 v33.1.l (0:Nat) (([]:List Int),((0:Int),((0:Int),(0:Int))))).2.1)))) then
       some ((.inl ((false,()),())))
      else
       bif (cond false true (!(decide (v32.1.2.1=(@uI pz2 v33.1.l (0:Nat) (([]:List Int),((0:Int),((0:Int),(0:Int))))).2.2.1)))) then
        some ((.inl ((false,()),())))
       else
        bif (cond false true (!(decide (v32.1.2.2.1=(@uI pz2 v33.1.l (0:Nat) (([]:List Int),((0:Int),((0:Int),(0:Int))))).2.2.2)))) then
         some ((.inl ((false,()),())))
        else
         ge (aG N v36.2.1 v36.2.2.1 v36.2.2.2.1 v36.2.2.2.2.1 v36.2.2.2.2.2.1 v36.2.2.2.2.2.2.1 v36.2.2.2.2.2.2.2.1 v36.2.2.2.2.2.2.2.2.1 v36.2.2.2.2.2.2.2.2.2.1 (v36.2.2.2.2.2.2.2.2.2).snd.1 (v36.2.2.2.2.2.2.2.2.2).snd.2.1) fun v37=>
         bif (decide ((0:Int)≤j26∧j26<(((eq h0):Nat):Int))) then
          ge (@GetElem?.getElem? (List pz0) Nat pz0 (fun (as38:(List pz0))=>(fun (i39:Nat)=>(@uN Nat @instLTNat i39 (eq as38)))) (@List.instGetElem?NatLtLength pz0) h0 (uH j26)) fun (v38:pz0)=>
          bif (cond false true (@BEq.beq Bool (@instBEqOfDecidableEq Bool @instDecidableEqBool) v37.1.1 v38.2)) then
           some ((.inl ((false,()),())))
          else
           (X ((j26,(x45,(x46,(x47,(x216,(x217,((gt .i64 (x222+1)),()))))))),(h0,(v37.2.1,(v37.2.2.1,(v37.2.2.2.1,(v37.2.2.2.2.1,(v37.2.2.2.2.2.1,(v37.2.2.2.2.2.2.1,(v37.2.2.2.2.2.2.2.1,(v37.2.2.2.2.2.2.2.2.1,(v37.2.2.2.2.2.2.2.2.2.1,(h10,(h11,(h12,(h13,(h14,(h15,(h16,(h17,(h18,((v37.2.2.2.2.2.2.2.2.2).snd.1,((v37.2.2.2.2.2.2.2.2.2).snd.2.1,(h21,(h22,())))))))))))))))))))))))))
         else
          none
   else
    bif (decide (x222=((((0:Nat)+(1:Nat)):Nat):Int))) then
     ge (@GetElem?.getElem? (List pz0) Nat pz0 (fun (as33:(List pz0))=>(fun (i34:Nat)=>(@uN Nat @instLTNat i34 (eq as33)))) (@List.instGetElem?NatLtLength pz0) h0 (uH j26)) fun (v33:pz0)=>
     ge (aB N x222 v32.2.1 v32.2.2.1 v32.2.2.2.1 v32.2.2.2.2.1 v32.2.2.2.2.2.1 v32.2.2.2.2.2.2.1 v32.2.2.2.2.2.2.2.1 v32.2.2.2.2.2.2.2.2.1 v32.2.2.2.2.2.2.2.2.2.1 (v32.2.2.2.2.2.2.2.2.2).snd.1 (v32.2.2.2.2.2.2.2.2.2).snd.2.1) fun v34=>
     ge (aN N v34.1.1 (@uI pz2 v33.1.l ((0:Nat)+(1:Nat)) (([]:List Int),((0:Int),((0:Int),(0:Int))))).1) fun v35=>
     bif (!v35.1.1) then
      some ((.inl ((false,()),())))
     else
      ge (av N x222 v34.2.1 v34.2.2.1 v34.2.2.2.1 v34.2.2.2.2.1 v34.2.2.2.2.2.1 v34.2.2.2.2.2.2.1 v34.2.2.2.2.2.2.2.1 v34.2.2.2.2.2.2.2.2.1 v34.2.2.2.2.2.2.2.2.2.1 (v34.2.2.2.2.2.2.2.2.2).snd.1 (v34.2.2.2.2.2.2.2.2.2).snd.2.1) fun v36=>
      bif (cond false true (!(decide (v36.1.1=(((eq (@uI pz2 v33.1.l ((0:Nat)+(1:Nat)) (([]:List Int),((0:Int),((0:Int),(0:Int))))).1):Nat):Int))))) then
       some ((.inl ((false,()),())))
      else
       bif (cond false true (!(decide (v32.1.1=(@uI pz2 v33.1.l ((0:Nat)+(1:Nat)) (([]:List Int),((0:Int),((0:Int),(0:Int))))).2.1)))) then
        some ((.inl ((false,()),())))
       else
        bif (cond false true (!(decide (v32.1.2.1=(@uI pz2 v33.1.l ((0:Nat)+(1:Nat)) (([]:List Int),((0:Int),((0:Int),(0:Int))))).2.2.1)))) then
         some ((.inl ((false,()),())))
        else
         bif (cond false true (!(decide (v32.1.2.2.1=(@uI pz2 v33.1.l ((0:Nat)+(1:Nat)) (([]:List Int),((0:Int),((0:Int),(0:Int))))).2.2.2)))) then
          some ((.inl ((false,()),())))
         else
          ge (aG N v36.2.1 v36.2.2.1 v36.2.2.2.1 v36.2.2.2.2.1 v36.2.2.2.2.2.1 v36.2.2.2.2.2.2.1 v36.2.2.2.2.2.2.2.1 v36.2.2.2.2.2.2.2.2.1 v36.2.2.2.2.2.2.2.2.2.1 (v36.2.2.2.2.2.2.2.2.2).snd.1 (v36.2.2.2.2.2.2.2.2.2).snd.2.1) fun v37=>
          bif (decide ((0:Int)≤j26∧j26<(((eq h0):Nat):Int))) then
           ge (@GetElem?.getElem? (List pz0) Nat pz0 (fun (as38:(List pz0))=>(fun (i39:Nat)=>(@uN Nat @instLTNat i39 (eq as38)))) (@List.instGetElem?NatLtLength pz0) h0 (uH j26)) fun (v38:pz0)=>
           bif (cond false true (@BEq.beq Bool (@instBEqOfDecidableEq Bool @instDecidableEqBool) v37.1.1 v38.2)) then
            some ((.inl ((false,()),())))
           else
            (X ((j26,(x45,(x46,(x47,(x216,(x217,((gt .i64 (x222+1)),()))))))),(h0,(v37.2.1,(v37.2.2.1,(v37.2.2.2.1,(v37.2.2.2.2.1,(v37.2.2.2.2.2.1,(v37.2.2.2.2.2.2.1,(v37.2.2.2.2.2.2.2.1,(v37.2.2.2.2.2.2.2.2.1,(v37.2.2.2.2.2.2.2.2.2.1,(h10,(h11,(h12,(h13,(h14,(h15,(h16,(h17,(h18,((v37.2.2.2.2.2.2.2.2.2).snd.1,((v37.2.2.2.2.2.2.2.2.2).snd.2.1,(h21,(h22,())))))))))))))))))))))))))
          else
           none
    else
     none
  else
   none
 else
  some ((.inr ((x45,(x46,(x47,(x216,(x217,()))))),(h0,(h1,(h2,(h3,(h4,(h5,(h6,(h7,(h8,(h9,(h10,(h11,(h12,(h13,(h14,(h15,(h16,(h17,(h18,(h19,(h20,(h21,(h22,()))))))))))))))))))))))))))
noncomputable def ce (c:pz7):Option ((((Bool×Unit)×Unit) ⊕ pz6)):=gl (fun X c=>aI N X c.1.1 c.1.2.1 c.1.2.2.1 c.1.2.2.2.1 c.1.2.2.2.2.1 c.1.2.2.2.2.2.1 c.1.2.2.2.2.2.2.1 c.2.1 c.2.2.1 c.2.2.2.1 c.2.2.2.2.1 c.2.2.2.2.2.1 c.2.2.2.2.2.2.1 c.2.2.2.2.2.2.2.1 c.2.2.2.2.2.2.2.2.1 c.2.2.2.2.2.2.2.2.2.1 c.2.2.2.2.2.2.2.2.2.2.1 c.2.2.2.2.2.2.2.2.2.2.2.1 c.2.2.2.2.2.2.2.2.2.2.2.2.1 c.2.2.2.2.2.2.2.2.2.2.2.2.2.1 c.2.2.2.2.2.2.2.2.2.2.2.2.2.2.1 c.2.2.2.2.2.2.2.2.2.2.2.2.2.2.2.1 c.2.2.2.2.2.2.2.2.2.2.2.2.2.2.2.2.1 c.2.2.2.2.2.2.2.2.2.2.2.2.2.2.2.2.2.1 c.2.2.2.2.2.2.2.2.2.2.2.2.2.2.2.2.2.2.1 c.2.2.2.2.2.2.2.2.2.2.2.2.2.2.2.2.2.2.2.1 c.2.2.2.2.2.2.2.2.2.2.2.2.2.2.2.2.2.2.2.2.1 c.2.2.2.2.2.2.2.2.2.2.2.2.2.2.2.2.2.2.2.2.2.1 c.2.2.2.2.2.2.2.2.2.2.2.2.2.2.2.2.2.2.2.2.2.2.1 c.2.2.2.2.2.2.2.2.2.2.2.2.2.2.2.2.2.2.2.2.2.2.2.1) N c
theorem eC (X:pz7→Option ((((Bool×Unit)×Unit) ⊕ pz6)))(j26:Int)(x45:List pz3)(x46:Int)(x47:Int)(x216:Int)(x217:Int)(x222:Int)(h0:List ((Arr pz2 2)×(Bool)))(h1:Bool)(h2:Arr Int 32)(h3:Int)(h4:Int)(h5:Int)(h6:Int)(h7:Int)(h8:Int)(h9:Bool)(h10:Bool)(h11:Arr Int 32)(h12:Int)(h13:Int)(h14:Int)(h15:Int)(h16:Int)(h17:Int)(h18:Bool)(h19:List (Int))(h20:List (Int))(h21:List (Int))(h22:List (Int)):(gQ ne (Ev22 N) 400 [3] be (eg ne [3] 47) X ((j26,x45,x46,x47,x216,x217,x222,()),(h0,h1,h2,h3,h4,h5,h6,h7,h8,h9,h10,h11,h12,h13,h14,h15,h16,h17,h18,h19,h20,h21,h22,()))).run=aI N X j26 x45 x46 x47 x216 x217 x222 h0 h1 h2 h3 h4 h5 h6 h7 h8 h9 h10 h11 h12 h13 h14 h15 h16 h17 h18 h19 h20 h21 h22:=by kernel_rfl
noncomputable def Ev23:(R:Type)→Env R:=Env.addLq (Ev22 N) [3] 0 47 (uk ne be) (fun R=>lpK ne be (fun X c=>aI N X c.1.1 c.1.2.1 c.1.2.2.1 c.1.2.2.2.1 c.1.2.2.2.2.1 c.1.2.2.2.2.2.1 c.1.2.2.2.2.2.2.1 c.2.1 c.2.2.1 c.2.2.2.1 c.2.2.2.2.1 c.2.2.2.2.2.1 c.2.2.2.2.2.2.1 c.2.2.2.2.2.2.2.1 c.2.2.2.2.2.2.2.2.1 c.2.2.2.2.2.2.2.2.2.1 c.2.2.2.2.2.2.2.2.2.2.1 c.2.2.2.2.2.2.2.2.2.2.2.1 c.2.2.2.2.2.2.2.2.2.2.2.2.1 c.2.2.2.2.2.2.2.2.2.2.2.2.2.1 c.2.2.2.2.2.2.2.2.2.2.2.2.2.2.1 c.2.2.2.2.2.2.2.2.2.2.2.2.2.2.2.1 c.2.2.2.2.2.2.2.2.2.2.2.2.2.2.2.2.1 c.2.2.2.2.2.2.2.2.2.2.2.2.2.2.2.2.2.1 c.2.2.2.2.2.2.2.2.2.2.2.2.2.2.2.2.2.2.1 c.2.2.2.2.2.2.2.2.2.2.2.2.2.2.2.2.2.2.2.1 c.2.2.2.2.2.2.2.2.2.2.2.2.2.2.2.2.2.2.2.2.1 c.2.2.2.2.2.2.2.2.2.2.2.2.2.2.2.2.2.2.2.2.2.1 c.2.2.2.2.2.2.2.2.2.2.2.2.2.2.2.2.2.2.2.2.2.2.1 c.2.2.2.2.2.2.2.2.2.2.2.2.2.2.2.2.2.2.2.2.2.2.2.1) N)
theorem qw (R:Type):EnvOK ne (Ev23 N R):=EnvOK.addLq (qx N R) (by kernel_rfl) (kU (li:=be) hmx (qx N _) (by kernel_rfl) dD (fun X c=>eC N X c.1.1 c.1.2.1 c.1.2.2.1 c.1.2.2.2.1 c.1.2.2.2.2.1 c.1.2.2.2.2.2.1 c.1.2.2.2.2.2.2.1 c.2.1 c.2.2.1 c.2.2.2.1 c.2.2.2.2.1 c.2.2.2.2.2.1 c.2.2.2.2.2.2.1 c.2.2.2.2.2.2.2.1 c.2.2.2.2.2.2.2.2.1 c.2.2.2.2.2.2.2.2.2.1 c.2.2.2.2.2.2.2.2.2.2.1 c.2.2.2.2.2.2.2.2.2.2.2.1 c.2.2.2.2.2.2.2.2.2.2.2.2.1 c.2.2.2.2.2.2.2.2.2.2.2.2.2.1 c.2.2.2.2.2.2.2.2.2.2.2.2.2.2.1 c.2.2.2.2.2.2.2.2.2.2.2.2.2.2.2.1 c.2.2.2.2.2.2.2.2.2.2.2.2.2.2.2.2.1 c.2.2.2.2.2.2.2.2.2.2.2.2.2.2.2.2.2.1 c.2.2.2.2.2.2.2.2.2.2.2.2.2.2.2.2.2.2.1 c.2.2.2.2.2.2.2.2.2.2.2.2.2.2.2.2.2.2.2.1 c.2.2.2.2.2.2.2.2.2.2.2.2.2.2.2.2.2.2.2.2.1 c.2.2.2.2.2.2.2.2.2.2.2.2.2.2.2.2.2.2.2.2.2.1 c.2.2.2.2.2.2.2.2.2.2.2.2.2.2.2.2.2.2.2.2.2.2.1 c.2.2.2.2.2.2.2.2.2.2.2.2.2.2.2.2.2.2.2.2.2.2.2.1) N)
noncomputable def a8:LI:=⟨287,0,[],⟨[(3,.lit (.bsl 0 2)),(4,.lit (.own 1)),(26,.ty (.int .i64)),(27,.lit (.box 2 0)),(45,.ty qz1),(46,.ty (.int .i64)),(47,.ty (.int .i64)),(215,.lit (.bsl 0 2)),(216,.ty (.int .i64)),(217,.ty (.int .i64)),(222,.ty (.int .i64))],[.boxp 23 [.lv (.box 3 0),.lv (.box 2 0)],.own qz0 32,.boxp 62 [.ty .bool,.ty (.arr 32 (.int .u8)),.own 4,.ty (.int .i64),.ty (.int .i64),.ty (.int .i64),.own 5,.ty (.int .i64),.ty (.int .i64),.ty (.int .i64),.ty .bool],.boxp 62 [.ty .bool,.ty (.arr 32 (.int .u8)),.own 6,.ty (.int .i64),.ty (.int .i64),.ty (.int .i64),.own 7,.ty (.int .i64),.ty (.int .i64),.ty (.int .i64),.ty .bool],.own (.int .u8) 5,.own (.int .u8) 5,.own (.int .u8) 5,.own (.int .u8) 5]⟩,[(.ret,⟨[(2,.ty .bool)],[]⟩),(.exit 5,⟨[(3,.lit (.bsl 0 2)),(4,.lit (.own 1)),(45,.ty qz1),(46,.ty (.int .i64)),(47,.ty (.int .i64)),(215,.lit (.bsl 0 2)),(216,.ty (.int .i64)),(217,.ty (.int .i64))],[.boxp 23 [.lv (.box 2 0),.lv (.box 3 0)],.own qz0 32,.boxp 62 [.ty .bool,.ty (.arr 32 (.int .u8)),.own 4,.ty (.int .i64),.ty (.int .i64),.ty (.int .i64),.own 5,.ty (.int .i64),.ty (.int .i64),.ty (.int .i64),.ty .bool],.boxp 62 [.ty .bool,.ty (.arr 32 (.int .u8)),.own 6,.ty (.int .i64),.ty (.int .i64),.ty (.int .i64),.own 7,.ty (.int .i64),.ty (.int .i64),.ty (.int .i64),.ty .bool],.own (.int .u8) 5,.own (.int .u8) 5,.own (.int .u8) 5,.own (.int .u8) 5]⟩)]⟩
noncomputable def aA (X:pz7→Option ((((Bool×Unit)×Unit) ⊕ pz6)))(j26:Int)(x45:List pz3)(x46:Int)(x47:Int)(x216:Int)(x217:Int)(x222:Int)(h0:List ((Arr pz2 2)×(Bool)))(h1:Bool)(h2:Arr Int 32)(h3:Int)(h4:Int)(h5:Int)(h6:Int)(h7:Int)(h8:Int)(h9:Bool)(h10:Bool)(h11:Arr Int 32)(h12:Int)(h13:Int)(h14:Int)(h15:Int)(h16:Int)(h17:Int)(h18:Bool)(h19:List (Int))(h20:List (Int))(h21:List (Int))(h22:List (Int)):Option ((((Bool×Unit)×Unit) ⊕ pz6)):=
 bif (decide (x222<(2:Int))) then
  ge (aE N x222 h1 h2 h3 h4 h5 h6 h7 h8 h9 h19 h20) fun v32=>
  bif (decide ((0:Int)≤j26∧j26<(((eq h0):Nat):Int))) then
   bif (decide (x222=((0:Nat):Int))) then
    ge (@GetElem?.getElem? (List pz0) Nat pz0 (fun (as33:(List pz0))=>(fun (i34:Nat)=>(@uN Nat @instLTNat i34 (eq as33)))) (@List.instGetElem?NatLtLength pz0) h0 (uH j26)) fun (v33:pz0)=>
    ge (aB N x222 v32.2.1 v32.2.2.1 v32.2.2.2.1 v32.2.2.2.2.1 v32.2.2.2.2.2.1 v32.2.2.2.2.2.2.1 v32.2.2.2.2.2.2.2.1 v32.2.2.2.2.2.2.2.2.1 v32.2.2.2.2.2.2.2.2.2.1 (v32.2.2.2.2.2.2.2.2.2).snd.1 (v32.2.2.2.2.2.2.2.2.2).snd.2.1) fun v34=>
    ge (aN N v34.1.1 (@uI pz2 v33.1.l (0:Nat) (([]:List Int),((0:Int),((0:Int),(0:Int))))).1) fun v35=>
    bif (!v35.1.1) then
     some ((.inl ((false,()),())))
    else
     ge (av N x222 v34.2.1 v34.2.2.1 v34.2.2.2.1 v34.2.2.2.2.1 v34.2.2.2.2.2.1 v34.2.2.2.2.2.2.1 v34.2.2.2.2.2.2.2.1 v34.2.2.2.2.2.2.2.2.1 v34.2.2.2.2.2.2.2.2.2.1 (v34.2.2.2.2.2.2.2.2.2).snd.1 (v34.2.2.2.2.2.2.2.2.2).snd.2.1) fun v36=>
     bif (cond false true (!(decide (v36.1.1=(((eq (@uI pz2 v33.1.l (0:Nat) (([]:List Int),((0:Int),((0:Int),(0:Int))))).1):Nat):Int))))) then
      some ((.inl ((false,()),())))
     else
      bif (cond false true (!(decide (v32.1.1=(@uI pz2 v33.1.l (0:Nat) (([]:List Int),((0:Int),((0:Int),(0:Int))))).2.1)))) then
       some ((.inl ((false,()),())))
      else
       bif (cond false true (!(decide (v32.1.2.1=(@uI pz2 v33.1.l (0:Nat) (([]:List Int),((0:Int),((0:Int),(0:Int))))).2.2.1)))) then
        some ((.inl ((false,()),())))
       else
        bif (cond false true (!(decide (v32.1.2.2.1=(@uI pz2 v33.1.l (0:Nat) (([]:List Int),((0:Int),((0:Int),(0:Int))))).2.2.2)))) then
         some ((.inl ((false,()),())))
        else
         ge (aG N v36.2.1 v36.2.2.1 v36.2.2.2.1 v36.2.2.2.2.1 v36.2.2.2.2.2.1 v36.2.2.2.2.2.2.1 v36.2.2.2.2.2.2.2.1 v36.2.2.2.2.2.2.2.2.1 v36.2.2.2.2.2.2.2.2.2.1 (v36.2.2.2.2.2.2.2.2.2).snd.1 (v36.2.2.2.2.2.2.2.2.2).snd.2.1) fun v37=>
         bif (decide ((0:Int)≤j26∧j26<(((eq h0):Nat):Int))) then
          ge (@GetElem?.getElem? (List pz0) Nat pz0 (fun (as38:(List pz0))=>(fun (i39:Nat)=>(@uN Nat @instLTNat i39 (eq as38)))) (@List.instGetElem?NatLtLength pz0) h0 (uH j26)) fun (v38:pz0)=>
          bif (cond false true (@BEq.beq Bool (@instBEqOfDecidableEq Bool @instDecidableEqBool) v37.1.1 v38.2)) then
           some ((.inl ((false,()),())))
          else
           (X ((j26,(x45,(x46,(x47,(x216,(x217,((gt .i64 (x222+1)),()))))))),(h0,(v37.2.1,(v37.2.2.1,(v37.2.2.2.1,(v37.2.2.2.2.1,(v37.2.2.2.2.2.1,(v37.2.2.2.2.2.2.1,(v37.2.2.2.2.2.2.2.1,(v37.2.2.2.2.2.2.2.2.1,(v37.2.2.2.2.2.2.2.2.2.1,(h10,(h11,(h12,(h13,(h14,(h15,(h16,(h17,(h18,((v37.2.2.2.2.2.2.2.2.2).snd.1,((v37.2.2.2.2.2.2.2.2.2).snd.2.1,(h21,(h22,())))))))))))))))))))))))))
         else
          none
   else
    bif (decide (x222=((((0:Nat)+(1:Nat)):Nat):Int))) then
     ge (@GetElem?.getElem? (List pz0) Nat pz0 (fun (as33:(List pz0))=>(fun (i34:Nat)=>(@uN Nat @instLTNat i34 (eq as33)))) (@List.instGetElem?NatLtLength pz0) h0 (uH j26)) fun (v33:pz0)=>
     ge (aB N x222 v32.2.1 v32.2.2.1 v32.2.2.2.1 v32.2.2.2.2.1 v32.2.2.2.2.2.1 v32.2.2.2.2.2.2.1 v32.2.2.2.2.2.2.2.1 v32.2.2.2.2.2.2.2.2.1 v32.2.2.2.2.2.2.2.2.2.1 (v32.2.2.2.2.2.2.2.2.2).snd.1 (v32.2.2.2.2.2.2.2.2.2).snd.2.1) fun v34=>
     ge (aN N v34.1.1 (@uI pz2 v33.1.l ((0:Nat)+(1:Nat)) (([]:List Int),((0:Int),((0:Int),(0:Int))))).1) fun v35=>
     bif (!v35.1.1) then
      some ((.inl ((false,()),())))
     else
      ge (av N x222 v34.2.1 v34.2.2.1 v34.2.2.2.1 v34.2.2.2.2.1 v34.2.2.2.2.2.1 v34.2.2.2.2.2.2.1 v34.2.2.2.2.2.2.2.1 v34.2.2.2.2.2.2.2.2.1 v34.2.2.2.2.2.2.2.2.2.1 (v34.2.2.2.2.2.2.2.2.2).snd.1 (v34.2.2.2.2.2.2.2.2.2).snd.2.1) fun v36=>
      bif (cond false true (!(decide (v36.1.1=(((eq (@uI pz2 v33.1.l ((0:Nat)+(1:Nat)) (([]:List Int),((0:Int),((0:Int),(0:Int))))).1):Nat):Int))))) then
       some ((.inl ((false,()),())))
      else
       bif (cond false true (!(decide (v32.1.1=(@uI pz2 v33.1.l ((0:Nat)+(1:Nat)) (([]:List Int),((0:Int),((0:Int),(0:Int))))).2.1)))) then
        some ((.inl ((false,()),())))
       else
        bif (cond false true (!(decide (v32.1.2.1=(@uI pz2 v33.1.l ((0:Nat)+(1:Nat)) (([]:List Int),((0:Int),((0:Int),(0:Int))))).2.2.1)))) then
         some ((.inl ((false,()),())))
        else
         bif (cond false true (!(decide (v32.1.2.2.1=(@uI pz2 v33.1.l ((0:Nat)+(1:Nat)) (([]:List Int),((0:Int),((0:Int),(0:Int))))).2.2.2)))) then
          some ((.inl ((false,()),())))
         else
          ge (aG N v36.2.1 v36.2.2.1 v36.2.2.2.1 v36.2.2.2.2.1 v36.2.2.2.2.2.1 v36.2.2.2.2.2.2.1 v36.2.2.2.2.2.2.2.1 v36.2.2.2.2.2.2.2.2.1 v36.2.2.2.2.2.2.2.2.2.1 (v36.2.2.2.2.2.2.2.2.2).snd.1 (v36.2.2.2.2.2.2.2.2.2).snd.2.1) fun v37=>
          bif (decide ((0:Int)≤j26∧j26<(((eq h0):Nat):Int))) then
           ge (@GetElem?.getElem? (List pz0) Nat pz0 (fun (as38:(List pz0))=>(fun (i39:Nat)=>(@uN Nat @instLTNat i39 (eq as38)))) (@List.instGetElem?NatLtLength pz0) h0 (uH j26)) fun (v38:pz0)=>
           bif (cond false true (@BEq.beq Bool (@instBEqOfDecidableEq Bool @instDecidableEqBool) v37.1.1 v38.2)) then
            some ((.inl ((false,()),())))
           else
            (X ((j26,(x45,(x46,(x47,(x216,(x217,((gt .i64 (x222+1)),()))))))),(h0,(v37.2.1,(v37.2.2.1,(v37.2.2.2.1,(v37.2.2.2.2.1,(v37.2.2.2.2.2.1,(v37.2.2.2.2.2.2.1,(v37.2.2.2.2.2.2.2.1,(v37.2.2.2.2.2.2.2.2.1,(v37.2.2.2.2.2.2.2.2.2.1,(h10,(h11,(h12,(h13,(h14,(h15,(h16,(h17,(h18,((v37.2.2.2.2.2.2.2.2.2).snd.1,((v37.2.2.2.2.2.2.2.2.2).snd.2.1,(h21,(h22,())))))))))))))))))))))))))
          else
           none
    else
     none
  else
   none
 else
  some ((.inr ((x45,(x46,(x47,(x216,(x217,()))))),(h0,(h10,(h11,(h12,(h13,(h14,(h15,(h16,(h17,(h18,(h1,(h2,(h3,(h4,(h5,(h6,(h7,(h8,(h9,(h21,(h22,(h19,(h20,()))))))))))))))))))))))))))
noncomputable def bB (c:pz7):Option ((((Bool×Unit)×Unit) ⊕ pz6)):=gl (fun X c=>aA N X c.1.1 c.1.2.1 c.1.2.2.1 c.1.2.2.2.1 c.1.2.2.2.2.1 c.1.2.2.2.2.2.1 c.1.2.2.2.2.2.2.1 c.2.1 c.2.2.1 c.2.2.2.1 c.2.2.2.2.1 c.2.2.2.2.2.1 c.2.2.2.2.2.2.1 c.2.2.2.2.2.2.2.1 c.2.2.2.2.2.2.2.2.1 c.2.2.2.2.2.2.2.2.2.1 c.2.2.2.2.2.2.2.2.2.2.1 c.2.2.2.2.2.2.2.2.2.2.2.1 c.2.2.2.2.2.2.2.2.2.2.2.2.1 c.2.2.2.2.2.2.2.2.2.2.2.2.2.1 c.2.2.2.2.2.2.2.2.2.2.2.2.2.2.1 c.2.2.2.2.2.2.2.2.2.2.2.2.2.2.2.1 c.2.2.2.2.2.2.2.2.2.2.2.2.2.2.2.2.1 c.2.2.2.2.2.2.2.2.2.2.2.2.2.2.2.2.2.1 c.2.2.2.2.2.2.2.2.2.2.2.2.2.2.2.2.2.2.1 c.2.2.2.2.2.2.2.2.2.2.2.2.2.2.2.2.2.2.2.1 c.2.2.2.2.2.2.2.2.2.2.2.2.2.2.2.2.2.2.2.2.1 c.2.2.2.2.2.2.2.2.2.2.2.2.2.2.2.2.2.2.2.2.2.1 c.2.2.2.2.2.2.2.2.2.2.2.2.2.2.2.2.2.2.2.2.2.2.1 c.2.2.2.2.2.2.2.2.2.2.2.2.2.2.2.2.2.2.2.2.2.2.2.1) N c
theorem eb (X:pz7→Option ((((Bool×Unit)×Unit) ⊕ pz6)))(j26:Int)(x45:List pz3)(x46:Int)(x47:Int)(x216:Int)(x217:Int)(x222:Int)(h0:List ((Arr pz2 2)×(Bool)))(h1:Bool)(h2:Arr Int 32)(h3:Int)(h4:Int)(h5:Int)(h6:Int)(h7:Int)(h8:Int)(h9:Bool)(h10:Bool)(h11:Arr Int 32)(h12:Int)(h13:Int)(h14:Int)(h15:Int)(h16:Int)(h17:Int)(h18:Bool)(h19:List (Int))(h20:List (Int))(h21:List (Int))(h22:List (Int)):(gQ ne (Ev23 N) 400 [3] a8 (eg ne [3] 47) X ((j26,x45,x46,x47,x216,x217,x222,()),(h0,h1,h2,h3,h4,h5,h6,h7,h8,h9,h10,h11,h12,h13,h14,h15,h16,h17,h18,h19,h20,h21,h22,()))).run=aA N X j26 x45 x46 x47 x216 x217 x222 h0 h1 h2 h3 h4 h5 h6 h7 h8 h9 h10 h11 h12 h13 h14 h15 h16 h17 h18 h19 h20 h21 h22:=by kernel_rfl
noncomputable def Ev24:(R:Type)→Env R:=Env.addLq (Ev23 N) [3] 0 47 (uk ne a8) (fun R=>lpK ne a8 (fun X c=>aA N X c.1.1 c.1.2.1 c.1.2.2.1 c.1.2.2.2.1 c.1.2.2.2.2.1 c.1.2.2.2.2.2.1 c.1.2.2.2.2.2.2.1 c.2.1 c.2.2.1 c.2.2.2.1 c.2.2.2.2.1 c.2.2.2.2.2.1 c.2.2.2.2.2.2.1 c.2.2.2.2.2.2.2.1 c.2.2.2.2.2.2.2.2.1 c.2.2.2.2.2.2.2.2.2.1 c.2.2.2.2.2.2.2.2.2.2.1 c.2.2.2.2.2.2.2.2.2.2.2.1 c.2.2.2.2.2.2.2.2.2.2.2.2.1 c.2.2.2.2.2.2.2.2.2.2.2.2.2.1 c.2.2.2.2.2.2.2.2.2.2.2.2.2.2.1 c.2.2.2.2.2.2.2.2.2.2.2.2.2.2.2.1 c.2.2.2.2.2.2.2.2.2.2.2.2.2.2.2.2.1 c.2.2.2.2.2.2.2.2.2.2.2.2.2.2.2.2.2.1 c.2.2.2.2.2.2.2.2.2.2.2.2.2.2.2.2.2.2.1 c.2.2.2.2.2.2.2.2.2.2.2.2.2.2.2.2.2.2.2.1 c.2.2.2.2.2.2.2.2.2.2.2.2.2.2.2.2.2.2.2.2.1 c.2.2.2.2.2.2.2.2.2.2.2.2.2.2.2.2.2.2.2.2.2.1 c.2.2.2.2.2.2.2.2.2.2.2.2.2.2.2.2.2.2.2.2.2.2.1 c.2.2.2.2.2.2.2.2.2.2.2.2.2.2.2.2.2.2.2.2.2.2.2.1) N)
theorem qv (R:Type):EnvOK ne (Ev24 N R):=EnvOK.addLq (qw N R) (by kernel_rfl) (kU (li:=a8) hmx (qw N _) (by kernel_rfl) dD (fun X c=>eb N X c.1.1 c.1.2.1 c.1.2.2.1 c.1.2.2.2.1 c.1.2.2.2.2.1 c.1.2.2.2.2.2.1 c.1.2.2.2.2.2.2.1 c.2.1 c.2.2.1 c.2.2.2.1 c.2.2.2.2.1 c.2.2.2.2.2.1 c.2.2.2.2.2.2.1 c.2.2.2.2.2.2.2.1 c.2.2.2.2.2.2.2.2.1 c.2.2.2.2.2.2.2.2.2.1 c.2.2.2.2.2.2.2.2.2.2.1 c.2.2.2.2.2.2.2.2.2.2.2.1 c.2.2.2.2.2.2.2.2.2.2.2.2.1 c.2.2.2.2.2.2.2.2.2.2.2.2.2.1 c.2.2.2.2.2.2.2.2.2.2.2.2.2.2.1 c.2.2.2.2.2.2.2.2.2.2.2.2.2.2.2.1 c.2.2.2.2.2.2.2.2.2.2.2.2.2.2.2.2.1 c.2.2.2.2.2.2.2.2.2.2.2.2.2.2.2.2.2.1 c.2.2.2.2.2.2.2.2.2.2.2.2.2.2.2.2.2.2.1 c.2.2.2.2.2.2.2.2.2.2.2.2.2.2.2.2.2.2.2.1 c.2.2.2.2.2.2.2.2.2.2.2.2.2.2.2.2.2.2.2.2.1 c.2.2.2.2.2.2.2.2.2.2.2.2.2.2.2.2.2.2.2.2.2.1 c.2.2.2.2.2.2.2.2.2.2.2.2.2.2.2.2.2.2.2.2.2.2.1 c.2.2.2.2.2.2.2.2.2.2.2.2.2.2.2.2.2.2.2.2.2.2.2.1) N)
noncomputable def cf:LI:=⟨287,0,[],⟨[(3,.lit (.bsl 0 2)),(4,.lit (.own 1)),(45,.ty qz1),(46,.ty (.int .i64)),(47,.ty (.int .i64)),(215,.lit (.bsl 0 2)),(216,.ty (.int .i64)),(217,.ty (.int .i64))],[.boxp 23 [.lv (.box 2 0),.lv (.box 3 0)],.own qz0 32,.boxp 62 [.ty .bool,.ty (.arr 32 (.int .u8)),.own 4,.ty (.int .i64),.ty (.int .i64),.ty (.int .i64),.own 5,.ty (.int .i64),.ty (.int .i64),.ty (.int .i64),.ty .bool],.boxp 62 [.ty .bool,.ty (.arr 32 (.int .u8)),.own 6,.ty (.int .i64),.ty (.int .i64),.ty (.int .i64),.own 7,.ty (.int .i64),.ty (.int .i64),.ty (.int .i64),.ty .bool],.own (.int .u8) 5,.own (.int .u8) 5,.own (.int .u8) 5,.own (.int .u8) 5]⟩,[(.ret,⟨[(2,.ty .bool)],[]⟩),(.exit 3,⟨[(3,.lit (.bsl 0 2)),(4,.lit (.own 1)),(45,.ty qz1),(46,.ty (.int .i64)),(47,.ty (.int .i64))],[.boxp 23 [.lv (.box 2 0),.lv (.box 3 0)],.own qz0 32,.boxp 62 [.ty .bool,.ty (.arr 32 (.int .u8)),.own 4,.ty (.int .i64),.ty (.int .i64),.ty (.int .i64),.own 5,.ty (.int .i64),.ty (.int .i64),.ty (.int .i64),.ty .bool],.boxp 62 [.ty .bool,.ty (.arr 32 (.int .u8)),.own 6,.ty (.int .i64),.ty (.int .i64),.ty (.int .i64),.own 7,.ty (.int .i64),.ty (.int .i64),.ty (.int .i64),.ty .bool],.own (.int .u8) 5,.own (.int .u8) 5,.own (.int .u8) 5,.own (.int .u8) 5]⟩)]⟩
noncomputable def aJ (X:pz6→Option ((((Bool×Unit)×Unit) ⊕ pz8)))(x45:List pz3)(x46:Int)(x47:Int)(x216:Int)(x217:Int)(h0:List ((Arr pz2 2)×(Bool)))(h1:Bool)(h2:Arr Int 32)(h3:Int)(h4:Int)(h5:Int)(h6:Int)(h7:Int)(h8:Int)(h9:Bool)(h10:Bool)(h11:Arr Int 32)(h12:Int)(h13:Int)(h14:Int)(h15:Int)(h16:Int)(h17:Int)(h18:Bool)(h19:List (Int))(h20:List (Int))(h21:List (Int))(h22:List (Int)):Option ((((Bool×Unit)×Unit) ⊕ pz8)):=
 bif (decide (x217<x216)) then
  bif (decide (x217=((0:Nat):Int))) then
   ge (ce N ((x217,(x45,(x46,(x47,(x216,(x217,((0:Int),()))))))),(h0,(h1,(h2,(h3,(h4,(h5,(h6,(h7,(h8,(h9,(h10,(h11,(h12,(h13,(h14,(h15,(h16,(h17,(h18,(h19,(h20,(h21,(h22,()))))))))))))))))))))))))) fun v30=>
   Sum.elim
    (fun (v31:((Bool×Unit)×Unit))=>
    some ((.inl ((v31.1.1,()),()))))
    (fun (v31:(((List pz3)×(Int×(Int×(Int×(Int×Unit)))))×((List pz0)×pz1)))=>
    (X ((v31.1.1,(v31.1.2.1,(v31.1.2.2.1,(v31.1.2.2.2.1,((gt .i64 (v31.1.2.2.2.2.1+1)),()))))),((v31).snd.1,((v31).snd.2.1,((v31).snd.2.2.1,((v31).snd.2.2.2.1,((v31).snd.2.2.2.2.1,((v31).snd.2.2.2.2.2.1,((v31).snd.2.2.2.2.2.2.1,((v31).snd.2.2.2.2.2.2.2.1,((v31).snd.2.2.2.2.2.2.2.2.1,((v31).snd.2.2.2.2.2.2.2.2.2.1,(((v31).snd.2.2.2.2.2.2.2.2.2).snd.1,(((v31).snd.2.2.2.2.2.2.2.2.2).snd.2.1,(((v31).snd.2.2.2.2.2.2.2.2.2).snd.2.2.1,(((v31).snd.2.2.2.2.2.2.2.2.2).snd.2.2.2.1,(((v31).snd.2.2.2.2.2.2.2.2.2).snd.2.2.2.2.1,(((v31).snd.2.2.2.2.2.2.2.2.2).snd.2.2.2.2.2.1,(((v31).snd.2.2.2.2.2.2.2.2.2).snd.2.2.2.2.2.2.1,(((v31).snd.2.2.2.2.2.2.2.2.2).snd.2.2.2.2.2.2.2.1,(((v31).snd.2.2.2.2.2.2.2.2.2).snd.2.2.2.2.2.2.2.2.1,((((v31).snd.2.2.2.2.2.2.2.2.2).snd.2.2.2.2.2.2.2.2).snd.1,((((v31).snd.2.2.2.2.2.2.2.2.2).snd.2.2.2.2.2.2.2.2).snd.2.1,((((v31).snd.2.2.2.2.2.2.2.2.2).snd.2.2.2.2.2.2.2.2).snd.2.2.1,((((v31).snd.2.2.2.2.2.2.2.2.2).snd.2.2.2.2.2.2.2.2).snd.2.2.2.1,())))))))))))))))))))))))))) v30
  else
   bif (decide (x217=((((0:Nat)+(1:Nat)):Nat):Int))) then
    ge (bB N ((x217,(x45,(x46,(x47,(x216,(x217,((0:Int),()))))))),(h0,(h10,(h11,(h12,(h13,(h14,(h15,(h16,(h17,(h18,(h1,(h2,(h3,(h4,(h5,(h6,(h7,(h8,(h9,(h21,(h22,(h19,(h20,()))))))))))))))))))))))))) fun v30=>
    Sum.elim
     (fun (v31:((Bool×Unit)×Unit))=>
     some ((.inl ((v31.1.1,()),()))))
     (fun (v31:(((List pz3)×(Int×(Int×(Int×(Int×Unit)))))×((List pz0)×pz1)))=>
     (X ((v31.1.1,(v31.1.2.1,(v31.1.2.2.1,(v31.1.2.2.2.1,((gt .i64 (v31.1.2.2.2.2.1+1)),()))))),((v31).snd.1,((v31).snd.2.1,((v31).snd.2.2.1,((v31).snd.2.2.2.1,((v31).snd.2.2.2.2.1,((v31).snd.2.2.2.2.2.1,((v31).snd.2.2.2.2.2.2.1,((v31).snd.2.2.2.2.2.2.2.1,((v31).snd.2.2.2.2.2.2.2.2.1,((v31).snd.2.2.2.2.2.2.2.2.2.1,(((v31).snd.2.2.2.2.2.2.2.2.2).snd.1,(((v31).snd.2.2.2.2.2.2.2.2.2).snd.2.1,(((v31).snd.2.2.2.2.2.2.2.2.2).snd.2.2.1,(((v31).snd.2.2.2.2.2.2.2.2.2).snd.2.2.2.1,(((v31).snd.2.2.2.2.2.2.2.2.2).snd.2.2.2.2.1,(((v31).snd.2.2.2.2.2.2.2.2.2).snd.2.2.2.2.2.1,(((v31).snd.2.2.2.2.2.2.2.2.2).snd.2.2.2.2.2.2.1,(((v31).snd.2.2.2.2.2.2.2.2.2).snd.2.2.2.2.2.2.2.1,(((v31).snd.2.2.2.2.2.2.2.2.2).snd.2.2.2.2.2.2.2.2.1,((((v31).snd.2.2.2.2.2.2.2.2.2).snd.2.2.2.2.2.2.2.2).snd.1,((((v31).snd.2.2.2.2.2.2.2.2.2).snd.2.2.2.2.2.2.2.2).snd.2.1,((((v31).snd.2.2.2.2.2.2.2.2.2).snd.2.2.2.2.2.2.2.2).snd.2.2.1,((((v31).snd.2.2.2.2.2.2.2.2.2).snd.2.2.2.2.2.2.2.2).snd.2.2.2.1,())))))))))))))))))))))))))) v30
   else
    none
 else
  some ((.inr ((x45,(x46,(x47,()))),(h0,(h1,(h2,(h3,(h4,(h5,(h6,(h7,(h8,(h9,(h10,(h11,(h12,(h13,(h14,(h15,(h16,(h17,(h18,(h19,(h20,(h21,(h22,()))))))))))))))))))))))))))
noncomputable def ac (c:pz6):Option ((((Bool×Unit)×Unit) ⊕ pz8)):=gl (fun X c=>aJ N X c.1.1 c.1.2.1 c.1.2.2.1 c.1.2.2.2.1 c.1.2.2.2.2.1 c.2.1 c.2.2.1 c.2.2.2.1 c.2.2.2.2.1 c.2.2.2.2.2.1 c.2.2.2.2.2.2.1 c.2.2.2.2.2.2.2.1 c.2.2.2.2.2.2.2.2.1 c.2.2.2.2.2.2.2.2.2.1 c.2.2.2.2.2.2.2.2.2.2.1 c.2.2.2.2.2.2.2.2.2.2.2.1 c.2.2.2.2.2.2.2.2.2.2.2.2.1 c.2.2.2.2.2.2.2.2.2.2.2.2.2.1 c.2.2.2.2.2.2.2.2.2.2.2.2.2.2.1 c.2.2.2.2.2.2.2.2.2.2.2.2.2.2.2.1 c.2.2.2.2.2.2.2.2.2.2.2.2.2.2.2.2.1 c.2.2.2.2.2.2.2.2.2.2.2.2.2.2.2.2.2.1 c.2.2.2.2.2.2.2.2.2.2.2.2.2.2.2.2.2.2.1 c.2.2.2.2.2.2.2.2.2.2.2.2.2.2.2.2.2.2.2.1 c.2.2.2.2.2.2.2.2.2.2.2.2.2.2.2.2.2.2.2.2.1 c.2.2.2.2.2.2.2.2.2.2.2.2.2.2.2.2.2.2.2.2.2.1 c.2.2.2.2.2.2.2.2.2.2.2.2.2.2.2.2.2.2.2.2.2.2.1 c.2.2.2.2.2.2.2.2.2.2.2.2.2.2.2.2.2.2.2.2.2.2.2.1) N c
theorem eD (X:pz6→Option ((((Bool×Unit)×Unit) ⊕ pz8)))(x45:List pz3)(x46:Int)(x47:Int)(x216:Int)(x217:Int)(h0:List ((Arr pz2 2)×(Bool)))(h1:Bool)(h2:Arr Int 32)(h3:Int)(h4:Int)(h5:Int)(h6:Int)(h7:Int)(h8:Int)(h9:Bool)(h10:Bool)(h11:Arr Int 32)(h12:Int)(h13:Int)(h14:Int)(h15:Int)(h16:Int)(h17:Int)(h18:Bool)(h19:List (Int))(h20:List (Int))(h21:List (Int))(h22:List (Int)):(gQ ne (Ev24 N) 400 [3] cf (eg ne [3] 44) X ((x45,x46,x47,x216,x217,()),(h0,h1,h2,h3,h4,h5,h6,h7,h8,h9,h10,h11,h12,h13,h14,h15,h16,h17,h18,h19,h20,h21,h22,()))).run=aJ N X x45 x46 x47 x216 x217 h0 h1 h2 h3 h4 h5 h6 h7 h8 h9 h10 h11 h12 h13 h14 h15 h16 h17 h18 h19 h20 h21 h22:=by kernel_rfl
noncomputable def Ev25:(R:Type)→Env R:=Env.addLp (Ev24 N) [3] 0 44 (fun R=>lpK ne cf (fun X c=>aJ N X c.1.1 c.1.2.1 c.1.2.2.1 c.1.2.2.2.1 c.1.2.2.2.2.1 c.2.1 c.2.2.1 c.2.2.2.1 c.2.2.2.2.1 c.2.2.2.2.2.1 c.2.2.2.2.2.2.1 c.2.2.2.2.2.2.2.1 c.2.2.2.2.2.2.2.2.1 c.2.2.2.2.2.2.2.2.2.1 c.2.2.2.2.2.2.2.2.2.2.1 c.2.2.2.2.2.2.2.2.2.2.2.1 c.2.2.2.2.2.2.2.2.2.2.2.2.1 c.2.2.2.2.2.2.2.2.2.2.2.2.2.1 c.2.2.2.2.2.2.2.2.2.2.2.2.2.2.1 c.2.2.2.2.2.2.2.2.2.2.2.2.2.2.2.1 c.2.2.2.2.2.2.2.2.2.2.2.2.2.2.2.2.1 c.2.2.2.2.2.2.2.2.2.2.2.2.2.2.2.2.2.1 c.2.2.2.2.2.2.2.2.2.2.2.2.2.2.2.2.2.2.1 c.2.2.2.2.2.2.2.2.2.2.2.2.2.2.2.2.2.2.2.1 c.2.2.2.2.2.2.2.2.2.2.2.2.2.2.2.2.2.2.2.2.1 c.2.2.2.2.2.2.2.2.2.2.2.2.2.2.2.2.2.2.2.2.2.1 c.2.2.2.2.2.2.2.2.2.2.2.2.2.2.2.2.2.2.2.2.2.2.1 c.2.2.2.2.2.2.2.2.2.2.2.2.2.2.2.2.2.2.2.2.2.2.2.1) N)
theorem tL (R:Type):EnvOK ne (Ev25 N R):=EnvOK.addLp (qv N R) (by kernel_rfl) (kU (li:=cf) hmx (qv N _) (by kernel_rfl) dD (fun X c=>eD N X c.1.1 c.1.2.1 c.1.2.2.1 c.1.2.2.2.1 c.1.2.2.2.2.1 c.2.1 c.2.2.1 c.2.2.2.1 c.2.2.2.2.1 c.2.2.2.2.2.1 c.2.2.2.2.2.2.1 c.2.2.2.2.2.2.2.1 c.2.2.2.2.2.2.2.2.1 c.2.2.2.2.2.2.2.2.2.1 c.2.2.2.2.2.2.2.2.2.2.1 c.2.2.2.2.2.2.2.2.2.2.2.1 c.2.2.2.2.2.2.2.2.2.2.2.2.1 c.2.2.2.2.2.2.2.2.2.2.2.2.2.1 c.2.2.2.2.2.2.2.2.2.2.2.2.2.2.1 c.2.2.2.2.2.2.2.2.2.2.2.2.2.2.2.1 c.2.2.2.2.2.2.2.2.2.2.2.2.2.2.2.2.1 c.2.2.2.2.2.2.2.2.2.2.2.2.2.2.2.2.2.1 c.2.2.2.2.2.2.2.2.2.2.2.2.2.2.2.2.2.2.1 c.2.2.2.2.2.2.2.2.2.2.2.2.2.2.2.2.2.2.2.1 c.2.2.2.2.2.2.2.2.2.2.2.2.2.2.2.2.2.2.2.2.1 c.2.2.2.2.2.2.2.2.2.2.2.2.2.2.2.2.2.2.2.2.2.1 c.2.2.2.2.2.2.2.2.2.2.2.2.2.2.2.2.2.2.2.2.2.2.1 c.2.2.2.2.2.2.2.2.2.2.2.2.2.2.2.2.2.2.2.2.2.2.2.1) N)
noncomputable def Ev26:(R:Type)→Env R:=Env.addMv (Ev25 N) [(28,3)]
theorem tK (R:Type):EnvOK ne (Ev26 N R):=EnvOK.addMv (tL N R) [(28,3)]
noncomputable def Ev27:(R:Type)→Env R:=Env.addBx (Ev26 N) [(28,3)]
theorem qu (R:Type):EnvOK ne (Ev27 N R):=EnvOK.addBx (tK N R) [(28,3)]
noncomputable def cP (N:Nat)(c0:(Arr pz2 2)×(Bool))(w1:Int)(n2:Int):Option (((Arr pz2 2)×(Bool))×List (Int)):=
 bif (decide ((0:Int)≤w1∧w1<((2:Nat):Int))) then
  ge (@GetElem?.getElem? (List pz2) Nat pz2 (fun (as4:(List pz2))=>(fun (i5:Nat)=>(@uN Nat @instLTNat i5 (eq as4)))) (@List.instGetElem?NatLtLength pz2) c0.1.l (uH w1)) fun (v4:pz2)=>
  ge (dh v4.1 (@minI n2 (((eq v4.1):Nat):Int))) fun (v5:(List Int))=>
  bif (aS (eq v5) 1) then
   bif (decide ((0:Int)≤w1∧w1<((2:Nat):Int))) then
    ge (@GetElem?.getElem? (List pz2) Nat pz2 (fun (as6:(List pz2))=>(fun (i7:Nat)=>(@uN Nat @instLTNat i7 (eq as6)))) (@List.instGetElem?NatLtLength pz2) c0.1.l (uH w1)) fun (v6:pz2)=>
    ge (cN v4.1 (@minI n2 (((eq v4.1):Nat):Int))) fun (v7:(List Int))=>
    bif (aS (eq v7) 1) then
     some ((((c0.1.set (uH w1) (v5,v6.2)),c0.2),v7))
    else
     none
   else
    none
  else
   none
 else
  none
theorem lY (c0:(Arr pz2 2)×(Bool))(w1:Int)(n2:Int):(runK ne (Ev27 N) 400 28 [qz0,(.int .i64),(.int .i64)] [qz0,(.sl (.int .u8))] (c0,w1,n2,())).run=cP N c0 w1 n2:=by kernel_rfl
noncomputable def Ev28:(R:Type)→Env R:=Env.addFn (Ev27 N) 28 (fun R=>fnK [qz0,(.int .i64),(.int .i64)] [qz0,(.sl (.int .u8))] (fun c=>cP N c.1 c.2.1 c.2.2.1))
theorem qt (R:Type):EnvOK ne (Ev28 N R):=EnvOK.addFn hmx (qu N R) (qu N _) (by kernel_rfl) (fun c=>lY N c.1 c.2.1 c.2.2.1)
noncomputable def aM (c0:(Arr pz2 2)×(Bool))(w1:Int)(n2:Int):Option (((Arr pz2 2)×(Bool))×(List Int)×Int):=
 ge (ba N w1) fun v4=>
 ge (bif (!v4) then
   some (true)
  else
   some ((cond false true (decide (n2<(0:Int)))))) fun (v5:Bool)=>
 bif v5 then
  some ((c0,(([]:List Int),(1:Int))))
 else
  ge (cP N c0 w1 n2) fun v6=>
  bif (decide ((0:Int)≤w1∧w1<((2:Nat):Int))) then
   ge (@GetElem?.getElem? (List pz2) Nat pz2 (fun (as7:(List pz2))=>(fun (i8:Nat)=>(@uN Nat @instLTNat i8 (eq as7)))) (@List.instGetElem?NatLtLength pz2) v6.1.1.l (uH w1)) fun (v7:pz2)=>
   bif (decide ((0:Int)≤w1∧w1<((2:Nat):Int))) then
    ge (@GetElem?.getElem? (List pz2) Nat pz2 (fun (as8:(List pz2))=>(fun (i9:Nat)=>(@uN Nat @instLTNat i9 (eq as8)))) (@List.instGetElem?NatLtLength pz2) v6.1.1.l (uH w1)) fun (v8:pz2)=>
    some ((((v6.1.1.set (uH w1) (v8.1,(v8.2.1,((gt .i64 (v7.2.2.1+(((eq v6.2):Nat):Int))),v8.2.2.2)))),v6.1.2),(v6.2,(0:Int))))
   else
    none
  else
   none
theorem kL (c0:(Arr pz2 2)×(Bool))(w1:Int)(n2:Int):(runK ne (Ev28 N) 400 9 [qz0,(.int .i64),(.int .i64)] [qz0,(.sl (.int .u8)),(.int .i64)] (c0,w1,n2,())).run=aM N c0 w1 n2:=by kernel_rfl
noncomputable def Ev29:(R:Type)→Env R:=Env.addFn (Ev28 N) 9 (fun R=>fnK [qz0,(.int .i64),(.int .i64)] [qz0,(.sl (.int .u8)),(.int .i64)] (fun c=>aM N c.1 c.2.1 c.2.2.1))
theorem qs (R:Type):EnvOK ne (Ev29 N R):=EnvOK.addFn hmx (qt N R) (qt N _) (by kernel_rfl) (fun c=>kL N c.1 c.2.1 c.2.2.1)
noncomputable def bp:MI:=⟨40,2,1,⟨[(0,.lit (.box 0 0)),(1,.ty (.int .i64)),(2,.ty (.int .i64))],[.boxp 62 [.ty .bool,.ty (.arr 32 (.int .u8)),.own 1,.ty (.int .i64),.ty (.int .i64),.ty (.int .i64),.own 2,.ty (.int .i64),.ty (.int .i64),.ty (.int .i64),.ty .bool],.own (.int .u8) 5,.own (.int .u8) 5]⟩,[(.exit 0,⟨[(0,.ty (.int .i64)),(1,.ty (.int .i64))],[.boxp 62 [.ty .bool,.ty (.arr 32 (.int .u8)),.own 1,.ty (.int .i64),.ty (.int .i64),.ty (.int .i64),.own 2,.ty (.int .i64),.ty (.int .i64),.ty (.int .i64),.ty .bool],.own (.int .u8) 5,.own (.int .u8) 5]⟩)]⟩
noncomputable def az (N:Nat)(way1:Int)(n2:Int)(h0:Bool)(h1:Arr Int 32)(h2:Int)(h3:Int)(h4:Int)(h5:Int)(h6:Int)(h7:Int)(h8:Bool)(h9:List (Int))(h10:List (Int)):Option (((Int×(Int×Unit))×pz4)):=
 ge (some ((cond true h0 false))) fun (v14:Bool)=>
 bif (!v14) then
  some ((((0:Int),((2:Int),())),(h0,(h1,(h2,(h3,(h4,(h5,(h6,(h7,(h8,(h9,(h10,())))))))))))))
 else
  ge (bif (decide (way1=(0:Int))) then
    some (true)
   else
    some ((cond false true (decide (way1=(1:Int)))))) fun (v15:Bool)=>
  ge (bif (!v15) then
    some (true)
   else
    some ((cond false true (decide (n2<(0:Int)))))) fun (v16:Bool)=>
  bif v16 then
   some ((((0:Int),((1:Int),())),(h0,(h1,(h2,(h3,(h4,(h5,(h6,(h7,(h8,(h9,(h10,())))))))))))))
  else
   bif (decide (way1=((0:Nat):Int))) then
    ge (cN h9 (@minI n2 (((eq h9):Nat):Int))) fun (v17:(List Int))=>
    bif (aS (eq v17) 1) then
     ge (dh h9 (@minI n2 (((eq h9):Nat):Int))) fun (v18:(List Int))=>
     bif (decide (way1=((0:Nat):Int))) then
      bif (decide (way1=((0:Nat):Int))) then
       some ((((((eq v17):Nat):Int),((0:Int),())),(h0,(h1,(h2,(h3,((gt .i64 (h4+(((eq v17):Nat):Int))),(h5,(h6,(h7,(h8,(v18,(h10,())))))))))))))
      else
       bif (decide (way1=((((0:Nat)+(1:Nat)):Nat):Int))) then
        some ((((((eq v17):Nat):Int),((0:Int),())),(h0,(h1,(h2,(h3,(h4,(h5,(h6,((gt .i64 (h4+(((eq v17):Nat):Int))),(h8,(v18,(h10,())))))))))))))
       else
        none
     else
      bif (decide (way1=((((0:Nat)+(1:Nat)):Nat):Int))) then
       bif (decide (way1=((0:Nat):Int))) then
        some ((((((eq v17):Nat):Int),((0:Int),())),(h0,(h1,(h2,(h3,((gt .i64 (h7+(((eq v17):Nat):Int))),(h5,(h6,(h7,(h8,(v18,(h10,())))))))))))))
       else
        bif (decide (way1=((((0:Nat)+(1:Nat)):Nat):Int))) then
         some ((((((eq v17):Nat):Int),((0:Int),())),(h0,(h1,(h2,(h3,(h4,(h5,(h6,((gt .i64 (h7+(((eq v17):Nat):Int))),(h8,(v18,(h10,())))))))))))))
        else
         none
      else
       none
    else
     none
   else
    bif (decide (way1=((((0:Nat)+(1:Nat)):Nat):Int))) then
     ge (cN h10 (@minI n2 (((eq h10):Nat):Int))) fun (v17:(List Int))=>
     bif (aS (eq v17) 1) then
      ge (dh h10 (@minI n2 (((eq h10):Nat):Int))) fun (v18:(List Int))=>
      bif (decide (way1=((0:Nat):Int))) then
       bif (decide (way1=((0:Nat):Int))) then
        some ((((((eq v17):Nat):Int),((0:Int),())),(h0,(h1,(h2,(h3,((gt .i64 (h4+(((eq v17):Nat):Int))),(h5,(h6,(h7,(h8,(h9,(v18,())))))))))))))
       else
        bif (decide (way1=((((0:Nat)+(1:Nat)):Nat):Int))) then
         some ((((((eq v17):Nat):Int),((0:Int),())),(h0,(h1,(h2,(h3,(h4,(h5,(h6,((gt .i64 (h4+(((eq v17):Nat):Int))),(h8,(h9,(v18,())))))))))))))
        else
         none
      else
       bif (decide (way1=((((0:Nat)+(1:Nat)):Nat):Int))) then
        bif (decide (way1=((0:Nat):Int))) then
         some ((((((eq v17):Nat):Int),((0:Int),())),(h0,(h1,(h2,(h3,((gt .i64 (h7+(((eq v17):Nat):Int))),(h5,(h6,(h7,(h8,(h9,(v18,())))))))))))))
        else
         bif (decide (way1=((((0:Nat)+(1:Nat)):Nat):Int))) then
          some ((((((eq v17):Nat):Int),((0:Int),())),(h0,(h1,(h2,(h3,(h4,(h5,(h6,((gt .i64 (h7+(((eq v17):Nat):Int))),(h8,(h9,(v18,())))))))))))))
         else
          none
       else
        none
     else
      none
    else
     none
theorem fq (way1:Int)(n2:Int)(h0:Bool)(h1:Arr Int 32)(h2:Int)(h3:Int)(h4:Int)(h5:Int)(h6:Int)(h7:Int)(h8:Bool)(h9:List (Int))(h10:List (Int)):(runM ne (Ev29 N) 400 [11,1] 11 bp ((way1,n2,()),(h0,h1,h2,h3,h4,h5,h6,h7,h8,h9,h10,()))).run=az N way1 n2 h0 h1 h2 h3 h4 h5 h6 h7 h8 h9 h10:=by kernel_rfl
noncomputable def Ev30:(R:Type)→Env R:=Env.addMth (Ev29 N) 11 (fun R old=>mthK ne bp (fun c=>az N c.1.1 c.1.2.1 c.2.1 c.2.2.1 c.2.2.2.1 c.2.2.2.2.1 c.2.2.2.2.2.1 c.2.2.2.2.2.2.1 c.2.2.2.2.2.2.2.1 c.2.2.2.2.2.2.2.2.1 c.2.2.2.2.2.2.2.2.2.1 c.2.2.2.2.2.2.2.2.2.2.1 c.2.2.2.2.2.2.2.2.2.2.2.1) old)
theorem qr (R:Type):EnvOK ne (Ev30 N R):=EnvOK.addMth (qs N R) (cC (mi:=bp) (g:=fun c=>az N c.1.1 c.1.2.1 c.2.1 c.2.2.1 c.2.2.2.1 c.2.2.2.2.1 c.2.2.2.2.2.1 c.2.2.2.2.2.2.1 c.2.2.2.2.2.2.2.1 c.2.2.2.2.2.2.2.2.1 c.2.2.2.2.2.2.2.2.2.1 c.2.2.2.2.2.2.2.2.2.2.1 c.2.2.2.2.2.2.2.2.2.2.2.1) hmx (qs N _) (by kernel_rfl) (fun (c:CT bp.sh)=>fq N c.1.1 c.1.2.1 c.2.1 c.2.2.1 c.2.2.2.1 c.2.2.2.2.1 c.2.2.2.2.2.1 c.2.2.2.2.2.2.1 c.2.2.2.2.2.2.2.1 c.2.2.2.2.2.2.2.2.1 c.2.2.2.2.2.2.2.2.2.1 c.2.2.2.2.2.2.2.2.2.2.1 c.2.2.2.2.2.2.2.2.2.2.2.1))
noncomputable def bu (c0:(Arr pz2 2)×(Bool))(w1:Int)(n2:Int):Option (((Arr pz2 2)×(Bool))×Int×Int):=
 ge (ba N w1) fun v4=>
 ge (bif (!v4) then
   some (true)
  else
   some ((cond false true (decide (n2<(0:Int)))))) fun (v5:Bool)=>
 bif v5 then
  some ((c0,((0:Int),(1:Int))))
 else
  ge (cP N c0 w1 n2) fun v6=>
  bif (decide ((0:Int)≤w1∧w1<((2:Nat):Int))) then
   ge (@GetElem?.getElem? (List pz2) Nat pz2 (fun (as7:(List pz2))=>(fun (i8:Nat)=>(@uN Nat @instLTNat i8 (eq as7)))) (@List.instGetElem?NatLtLength pz2) v6.1.1.l (uH w1)) fun (v7:pz2)=>
   bif (decide ((0:Int)≤w1∧w1<((2:Nat):Int))) then
    ge (@GetElem?.getElem? (List pz2) Nat pz2 (fun (as8:(List pz2))=>(fun (i9:Nat)=>(@uN Nat @instLTNat i9 (eq as8)))) (@List.instGetElem?NatLtLength pz2) v6.1.1.l (uH w1)) fun (v8:pz2)=>
    some ((((v6.1.1.set (uH w1) (v8.1,(v8.2.1,(v8.2.2.1,(gt .i64 (v7.2.2.2+(((eq v6.2):Nat):Int))))))),v6.1.2),((((eq v6.2):Nat):Int),(0:Int))))
   else
    none
  else
   none
theorem kM (c0:(Arr pz2 2)×(Bool))(w1:Int)(n2:Int):(runK ne (Ev30 N) 400 12 [qz0,(.int .i64),(.int .i64)] [qz0,(.int .i64),(.int .i64)] (c0,w1,n2,())).run=bu N c0 w1 n2:=by kernel_rfl
noncomputable def Ev31:(R:Type)→Env R:=Env.addFn (Ev30 N) 12 (fun R=>fnK [qz0,(.int .i64),(.int .i64)] [qz0,(.int .i64),(.int .i64)] (fun c=>bu N c.1 c.2.1 c.2.2.1))
theorem qq (R:Type):EnvOK ne (Ev31 N R):=EnvOK.addFn hmx (qr N R) (qr N _) (by kernel_rfl) (fun c=>kM N c.1 c.2.1 c.2.2.1)
noncomputable def cu:MI:=⟨74,2,1,⟨[(0,.lit (.box 0 0)),(1,.ty (.int .i64)),(2,.lit (.box 0 0)),(3,.ty (.int .i64)),(4,.ty (.int .i64))],[.boxp 62 [.ty .bool,.ty (.arr 32 (.int .u8)),.own 1,.ty (.int .i64),.ty (.int .i64),.ty (.int .i64),.own 2,.ty (.int .i64),.ty (.int .i64),.ty (.int .i64),.ty .bool],.own (.int .u8) 5,.own (.int .u8) 5]⟩,[(.exit 0,⟨[(0,.ty (.int .i64)),(1,.ty (.int .i64))],[.boxp 62 [.ty .bool,.ty (.arr 32 (.int .u8)),.own 1,.ty (.int .i64),.ty (.int .i64),.ty (.int .i64),.own 2,.ty (.int .i64),.ty (.int .i64),.ty (.int .i64),.ty .bool],.own (.int .u8) 5,.own (.int .u8) 5]⟩)]⟩
noncomputable def an (way1:Int)(other3:Int)(n4:Int)(h0:Bool)(h1:Arr Int 32)(h2:Int)(h3:Int)(h4:Int)(h5:Int)(h6:Int)(h7:Int)(h8:Bool)(h9:List (Int))(h10:List (Int)):Option (((Int×(Int×Unit))×pz4)):=
 ge (some ((cond true h0 false))) fun (v15:Bool)=>
 bif (!v15) then
  some ((((0:Int),((2:Int),())),(h0,(h1,(h2,(h3,(h4,(h5,(h6,(h7,(h8,(h9,(h10,())))))))))))))
 else
  ge (some ((cond true h0 false))) fun (v16:Bool)=>
  ge (some ((cond false true (!v16)))) fun (v17:Bool)=>
  bif v17 then
   some ((((0:Int),((2:Int),())),(h0,(h1,(h2,(h3,(h4,(h5,(h6,(h7,(h8,(h9,(h10,())))))))))))))
  else
   ge (bif (decide (way1=(0:Int))) then
     some (true)
    else
     some ((cond false true (decide (way1=(1:Int)))))) fun (v18:Bool)=>
   bif (!v18) then
    some ((((0:Int),((1:Int),())),(h0,(h1,(h2,(h3,(h4,(h5,(h6,(h7,(h8,(h9,(h10,())))))))))))))
   else
    ge (bif (decide (other3=(0:Int))) then
      some (true)
     else
      some ((cond false true (decide (other3=(1:Int)))))) fun (v19:Bool)=>
    ge (some ((cond false true (!v19)))) fun (v20:Bool)=>
    ge (bif v20 then
      some (true)
     else
      some ((cond false true (decide (n4<(0:Int)))))) fun (v21:Bool)=>
    ge (bif v21 then
      some (true)
     else
      some ((cond false true (cond true (decide (way1=other3)) false)))) fun (v22:Bool)=>
    bif v22 then
     some ((((0:Int),((1:Int),())),(h0,(h1,(h2,(h3,(h4,(h5,(h6,(h7,(h8,(h9,(h10,())))))))))))))
    else
     ge (av N way1 h0 h1 h2 h3 h4 h5 h6 h7 h8 h9 h10) fun v23=>
     bif v23.2.2.2.2.2.2.2.2.2.1 then
      some ((((0:Int),((11:Int),())),(v23.2.1,(v23.2.2.1,(v23.2.2.2.1,(v23.2.2.2.2.1,(v23.2.2.2.2.2.1,(v23.2.2.2.2.2.2.1,(v23.2.2.2.2.2.2.2.1,(v23.2.2.2.2.2.2.2.2.1,(v23.2.2.2.2.2.2.2.2.2.1,((v23.2.2.2.2.2.2.2.2.2).snd.1,((v23.2.2.2.2.2.2.2.2.2).snd.2.1,())))))))))))))
     else
      bif (decide (other3=((0:Nat):Int))) then
       bif (decide ((gt .i64 ((65536:Int)-(((eq (v23.2.2.2.2.2.2.2.2.2).snd.1):Nat):Int)))<(@minI n4 v23.1.1))) then
        some ((((0:Int),((12:Int),())),(v23.2.1,(v23.2.2.1,(v23.2.2.2.1,(v23.2.2.2.2.1,(v23.2.2.2.2.2.1,(v23.2.2.2.2.2.2.1,(v23.2.2.2.2.2.2.2.1,(v23.2.2.2.2.2.2.2.2.1,(v23.2.2.2.2.2.2.2.2.2.1,((v23.2.2.2.2.2.2.2.2.2).snd.1,((v23.2.2.2.2.2.2.2.2.2).snd.2.1,())))))))))))))
       else
        ge (ah N way1 n4 v23.2.1 v23.2.2.1 v23.2.2.2.1 v23.2.2.2.2.1 v23.2.2.2.2.2.1 v23.2.2.2.2.2.2.1 v23.2.2.2.2.2.2.2.1 v23.2.2.2.2.2.2.2.2.1 v23.2.2.2.2.2.2.2.2.2.1 (v23.2.2.2.2.2.2.2.2.2).snd.1 (v23.2.2.2.2.2.2.2.2.2).snd.2.1) fun v24=>
        bif (decide (other3=((0:Nat):Int))) then
         bif (aS ((eq (v24.2.2.2.2.2.2.2.2.2).snd.1)+(eq v24.1.1)) 1) then
          some ((((((eq v24.1.1):Nat):Int),((0:Int),())),(v24.2.1,(v24.2.2.1,((gt .i64 (v24.2.2.2.1+(((eq v24.1.1):Nat):Int))),(v24.2.2.2.2.1,(v24.2.2.2.2.2.1,(v24.2.2.2.2.2.2.1,(v24.2.2.2.2.2.2.2.1,(v24.2.2.2.2.2.2.2.2.1,(v24.2.2.2.2.2.2.2.2.2.1,(((v24.2.2.2.2.2.2.2.2.2).snd.1++v24.1.1),((v24.2.2.2.2.2.2.2.2.2).snd.2.1,())))))))))))))
         else
          none
        else
         bif (decide (other3=((((0:Nat)+(1:Nat)):Nat):Int))) then
          bif (aS ((eq (v24.2.2.2.2.2.2.2.2.2).snd.2.1)+(eq v24.1.1)) 1) then
           some ((((((eq v24.1.1):Nat):Int),((0:Int),())),(v24.2.1,(v24.2.2.1,(v24.2.2.2.1,(v24.2.2.2.2.1,(v24.2.2.2.2.2.1,((gt .i64 (v24.2.2.2.2.2.2.1+(((eq v24.1.1):Nat):Int))),(v24.2.2.2.2.2.2.2.1,(v24.2.2.2.2.2.2.2.2.1,(v24.2.2.2.2.2.2.2.2.2.1,((v24.2.2.2.2.2.2.2.2.2).snd.1,(((v24.2.2.2.2.2.2.2.2.2).snd.2.1++v24.1.1),())))))))))))))
          else
           none
         else
          none
      else
       bif (decide (other3=((((0:Nat)+(1:Nat)):Nat):Int))) then
        bif (decide ((gt .i64 ((65536:Int)-(((eq (v23.2.2.2.2.2.2.2.2.2).snd.2.1):Nat):Int)))<(@minI n4 v23.1.1))) then
         some ((((0:Int),((12:Int),())),(v23.2.1,(v23.2.2.1,(v23.2.2.2.1,(v23.2.2.2.2.1,(v23.2.2.2.2.2.1,(v23.2.2.2.2.2.2.1,(v23.2.2.2.2.2.2.2.1,(v23.2.2.2.2.2.2.2.2.1,(v23.2.2.2.2.2.2.2.2.2.1,((v23.2.2.2.2.2.2.2.2.2).snd.1,((v23.2.2.2.2.2.2.2.2.2).snd.2.1,())))))))))))))
        else
         ge (ah N way1 n4 v23.2.1 v23.2.2.1 v23.2.2.2.1 v23.2.2.2.2.1 v23.2.2.2.2.2.1 v23.2.2.2.2.2.2.1 v23.2.2.2.2.2.2.2.1 v23.2.2.2.2.2.2.2.2.1 v23.2.2.2.2.2.2.2.2.2.1 (v23.2.2.2.2.2.2.2.2.2).snd.1 (v23.2.2.2.2.2.2.2.2.2).snd.2.1) fun v24=>
         bif (decide (other3=((0:Nat):Int))) then
          bif (aS ((eq (v24.2.2.2.2.2.2.2.2.2).snd.1)+(eq v24.1.1)) 1) then
           some ((((((eq v24.1.1):Nat):Int),((0:Int),())),(v24.2.1,(v24.2.2.1,((gt .i64 (v24.2.2.2.1+(((eq v24.1.1):Nat):Int))),(v24.2.2.2.2.1,(v24.2.2.2.2.2.1,(v24.2.2.2.2.2.2.1,(v24.2.2.2.2.2.2.2.1,(v24.2.2.2.2.2.2.2.2.1,(v24.2.2.2.2.2.2.2.2.2.1,(((v24.2.2.2.2.2.2.2.2.2).snd.1++v24.1.1),((v24.2.2.2.2.2.2.2.2.2).snd.2.1,())))))))))))))
          else
           none
         else
          bif (decide (other3=((((0:Nat)+(1:Nat)):Nat):Int))) then
           bif (aS ((eq (v24.2.2.2.2.2.2.2.2.2).snd.2.1)+(eq v24.1.1)) 1) then
            some ((((((eq v24.1.1):Nat):Int),((0:Int),())),(v24.2.1,(v24.2.2.1,(v24.2.2.2.1,(v24.2.2.2.2.1,(v24.2.2.2.2.2.1,((gt .i64 (v24.2.2.2.2.2.2.1+(((eq v24.1.1):Nat):Int))),(v24.2.2.2.2.2.2.2.1,(v24.2.2.2.2.2.2.2.2.1,(v24.2.2.2.2.2.2.2.2.2.1,((v24.2.2.2.2.2.2.2.2.2).snd.1,(((v24.2.2.2.2.2.2.2.2.2).snd.2.1++v24.1.1),())))))))))))))
           else
            none
          else
           none
       else
        none
theorem gZ (way1:Int)(other3:Int)(n4:Int)(h0:Bool)(h1:Arr Int 32)(h2:Int)(h3:Int)(h4:Int)(h5:Int)(h6:Int)(h7:Int)(h8:Bool)(h9:List (Int))(h10:List (Int)):(runM ne (Ev31 N) 400 [13,1] 13 cu ((way1,other3,n4,()),(h0,h1,h2,h3,h4,h5,h6,h7,h8,h9,h10,()))).run=an N way1 other3 n4 h0 h1 h2 h3 h4 h5 h6 h7 h8 h9 h10:=by kernel_rfl
noncomputable def Ev32:(R:Type)→Env R:=Env.addMth (Ev31 N) 13 (fun R old=>mthK ne cu (fun c=>an N c.1.1 c.1.2.1 c.1.2.2.1 c.2.1 c.2.2.1 c.2.2.2.1 c.2.2.2.2.1 c.2.2.2.2.2.1 c.2.2.2.2.2.2.1 c.2.2.2.2.2.2.2.1 c.2.2.2.2.2.2.2.2.1 c.2.2.2.2.2.2.2.2.2.1 c.2.2.2.2.2.2.2.2.2.2.1 c.2.2.2.2.2.2.2.2.2.2.2.1) old)
theorem qp (R:Type):EnvOK ne (Ev32 N R):=EnvOK.addMth (qq N R) (cC (mi:=cu) (g:=fun c=>an N c.1.1 c.1.2.1 c.1.2.2.1 c.2.1 c.2.2.1 c.2.2.2.1 c.2.2.2.2.1 c.2.2.2.2.2.1 c.2.2.2.2.2.2.1 c.2.2.2.2.2.2.2.1 c.2.2.2.2.2.2.2.2.1 c.2.2.2.2.2.2.2.2.2.1 c.2.2.2.2.2.2.2.2.2.2.1 c.2.2.2.2.2.2.2.2.2.2.2.1) hmx (qq N _) (by kernel_rfl) (fun (c:CT cu.sh)=>gZ N c.1.1 c.1.2.1 c.1.2.2.1 c.2.1 c.2.2.1 c.2.2.2.1 c.2.2.2.2.1 c.2.2.2.2.2.1 c.2.2.2.2.2.2.1 c.2.2.2.2.2.2.2.1 c.2.2.2.2.2.2.2.2.1 c.2.2.2.2.2.2.2.2.2.1 c.2.2.2.2.2.2.2.2.2.2.1 c.2.2.2.2.2.2.2.2.2.2.2.1))
noncomputable def cp:MI:=⟨109,3,0,⟨[(0,.lit (.own 0)),(1,.ty (.int .i64)),(2,.ty (.int .i64)),(3,.ty (.int .i64)),(4,.ty (.int .i64)),(5,.ty (.int .i64))],[.own qz0 32]⟩,[(.exit 0,⟨[(0,.lit (.own 0)),(1,.ty (.int .i64)),(2,.ty (.int .i64))],[.own qz0 32]⟩)]⟩
noncomputable def ab (x1:Int)(w2:Int)(to3:Int)(other4:Int)(n5:Int)(h0:List ((Arr pz2 2)×(Bool))):Option (((Int×(Int×Unit))×((List ((Arr pz2 2)×(Bool)))×Unit))):=
 ge (ba N w2) fun v7=>
 bif (!v7) then
  some ((((0:Int),((1:Int),())),(h0,())))
 else
  ge (ba N other4) fun v8=>
  ge (some ((cond false true (!v8)))) fun (v9:Bool)=>
  ge (bif v9 then
    some (true)
   else
    some ((cond false true (decide (n5<(0:Int)))))) fun (v10:Bool)=>
  ge (bif v10 then
    some (true)
   else
    bif (decide (x1=to3)) then
     some ((cond false true (cond true (decide (w2=other4)) false)))
    else
     some ((cond false true false))) fun (v11:Bool)=>
  bif v11 then
   some ((((0:Int),((1:Int),())),(h0,())))
  else
   bif (decide ((0:Int)≤to3∧to3<(((eq h0):Nat):Int))) then
    ge (@GetElem?.getElem? (List pz0) Nat pz0 (fun (as12:(List pz0))=>(fun (i13:Nat)=>(@uN Nat @instLTNat i13 (eq as12)))) (@List.instGetElem?NatLtLength pz0) h0 (uH to3)) fun (v12:pz0)=>
    bif v12.2 then
     some ((((0:Int),((11:Int),())),(h0,())))
    else
     bif (decide ((0:Int)≤x1∧x1<(((eq h0):Nat):Int))) then
      bif (decide (w2=((0:Nat):Int))) then
       ge (@GetElem?.getElem? (List pz0) Nat pz0 (fun (as13:(List pz0))=>(fun (i14:Nat)=>(@uN Nat @instLTNat i14 (eq as13)))) (@List.instGetElem?NatLtLength pz0) h0 (uH x1)) fun (v13:pz0)=>
       bif (decide ((0:Int)≤to3∧to3<(((eq h0):Nat):Int))) then
        bif (decide (other4=((0:Nat):Int))) then
         ge (@GetElem?.getElem? (List pz0) Nat pz0 (fun (as14:(List pz0))=>(fun (i15:Nat)=>(@uN Nat @instLTNat i15 (eq as14)))) (@List.instGetElem?NatLtLength pz0) h0 (uH to3)) fun (v14:pz0)=>
         bif (decide ((65536:Int)<(gt .i64 ((((eq (@uI pz2 v14.1.l (0:Nat) (([]:List Int),((0:Int),((0:Int),(0:Int))))).1):Nat):Int)+(@minI n5 (((eq (@uI pz2 v13.1.l (0:Nat) (([]:List Int),((0:Int),((0:Int),(0:Int))))).1):Nat):Int)))))) then
          some ((((0:Int),((12:Int),())),(h0,())))
         else
          bif (aS (eq h0) 104) then
           bif (decide ((0:Int)≤x1∧x1<(((eq h0):Nat):Int))) then
            ge (@GetElem?.getElem? (List pz0) Nat pz0 (fun (as15:(List pz0))=>(fun (i16:Nat)=>(@uN Nat @instLTNat i16 (eq as15)))) (@List.instGetElem?NatLtLength pz0) h0 (uH x1)) fun (v15:pz0)=>
            ge (aM N v15 w2 n5) fun v16=>
            bif (decide ((0:Int)≤x1∧x1<(((eq h0):Nat):Int))) then
             ge (@GetElem?.getElem? (List pz0) Nat pz0 (fun (as17:(List pz0))=>(fun (i18:Nat)=>(@uN Nat @instLTNat i18 (eq as17)))) (@List.instGetElem?NatLtLength pz0) h0 (uH x1)) fun (v17:pz0)=>
             bif (decide ((0:Int)≤to3∧to3<(((eq (@uJ pz0 h0 (uH x1) v16.1)):Nat):Int))) then
              ge (@GetElem?.getElem? (List pz0) Nat pz0 (fun (as18:(List pz0))=>(fun (i19:Nat)=>(@uN Nat @instLTNat i19 (eq as18)))) (@List.instGetElem?NatLtLength pz0) (@uJ pz0 h0 (uH x1) v16.1) (uH to3)) fun (v18:pz0)=>
              ge (aP N v18 other4 v16.2.1) fun v19=>
              bif (decide ((0:Int)≤to3∧to3<(((eq (@uJ pz0 h0 (uH x1) v16.1)):Nat):Int))) then
               ge (@GetElem?.getElem? (List pz0) Nat pz0 (fun (as20:(List pz0))=>(fun (i21:Nat)=>(@uN Nat @instLTNat i21 (eq as20)))) (@List.instGetElem?NatLtLength pz0) (@uJ pz0 h0 (uH x1) v16.1) (uH to3)) fun (v20:pz0)=>
               some ((((((eq v16.2.1):Nat):Int),((0:Int),())),((@uJ pz0 (@uJ pz0 h0 (uH x1) v16.1) (uH to3) v19.1),())))
              else
               none
             else
              none
            else
             none
           else
            none
          else
           none
        else
         bif (decide (other4=((((0:Nat)+(1:Nat)):Nat):Int))) then
          ge (@GetElem?.getElem? (List pz0) Nat pz0 (fun (as14:(List pz0))=>(fun (i15:Nat)=>(@uN Nat @instLTNat i15 (eq as14)))) (@List.instGetElem?NatLtLength pz0) h0 (uH to3)) fun (v14:pz0)=>
          bif (decide ((65536:Int)<(gt .i64 ((((eq (@uI pz2 v14.1.l ((0:Nat)+(1:Nat)) (([]:List Int),((0:Int),((0:Int),(0:Int))))).1):Nat):Int)+(@minI n5 (((eq (@uI pz2 v13.1.l (0:Nat) (([]:List Int),((0:Int),((0:Int),(0:Int))))).1):Nat):Int)))))) then
           some ((((0:Int),((12:Int),())),(h0,())))
          else
           bif (aS (eq h0) 104) then
            bif (decide ((0:Int)≤x1∧x1<(((eq h0):Nat):Int))) then
             ge (@GetElem?.getElem? (List pz0) Nat pz0 (fun (as15:(List pz0))=>(fun (i16:Nat)=>(@uN Nat @instLTNat i16 (eq as15)))) (@List.instGetElem?NatLtLength pz0) h0 (uH x1)) fun (v15:pz0)=>
             ge (aM N v15 w2 n5) fun v16=>
             bif (decide ((0:Int)≤x1∧x1<(((eq h0):Nat):Int))) then
              ge (@GetElem?.getElem? (List pz0) Nat pz0 (fun (as17:(List pz0))=>(fun (i18:Nat)=>(@uN Nat @instLTNat i18 (eq as17)))) (@List.instGetElem?NatLtLength pz0) h0 (uH x1)) fun (v17:pz0)=>
              bif (decide ((0:Int)≤to3∧to3<(((eq (@uJ pz0 h0 (uH x1) v16.1)):Nat):Int))) then
               ge (@GetElem?.getElem? (List pz0) Nat pz0 (fun (as18:(List pz0))=>(fun (i19:Nat)=>(@uN Nat @instLTNat i19 (eq as18)))) (@List.instGetElem?NatLtLength pz0) (@uJ pz0 h0 (uH x1) v16.1) (uH to3)) fun (v18:pz0)=>
               ge (aP N v18 other4 v16.2.1) fun v19=>
               bif (decide ((0:Int)≤to3∧to3<(((eq (@uJ pz0 h0 (uH x1) v16.1)):Nat):Int))) then
                ge (@GetElem?.getElem? (List pz0) Nat pz0 (fun (as20:(List pz0))=>(fun (i21:Nat)=>(@uN Nat @instLTNat i21 (eq as20)))) (@List.instGetElem?NatLtLength pz0) (@uJ pz0 h0 (uH x1) v16.1) (uH to3)) fun (v20:pz0)=>
                some ((((((eq v16.2.1):Nat):Int),((0:Int),())),((@uJ pz0 (@uJ pz0 h0 (uH x1) v16.1) (uH to3) v19.1),())))
               else
                none
              else
               none
             else
              none
            else
             none
           else
            none
         else
          none
       else
        none
      else
       bif (decide (w2=((((0:Nat)+(1:Nat)):Nat):Int))) then
        ge (@GetElem?.getElem? (List pz0) Nat pz0 (fun (as13:(List pz0))=>(fun (i14:Nat)=>(@uN Nat @instLTNat i14 (eq as13)))) (@List.instGetElem?NatLtLength pz0) h0 (uH x1)) fun (v13:pz0)=>
        bif (decide ((0:Int)≤to3∧to3<(((eq h0):Nat):Int))) then
         bif (decide (other4=((0:Nat):Int))) then
          ge (@GetElem?.getElem? (List pz0) Nat pz0 (fun (as14:(List pz0))=>(fun (i15:Nat)=>(@uN Nat @instLTNat i15 (eq as14)))) (@List.instGetElem?NatLtLength pz0) h0 (uH to3)) fun (v14:pz0)=>
          bif (decide ((65536:Int)<(gt .i64 ((((eq (@uI pz2 v14.1.l (0:Nat) (([]:List Int),((0:Int),((0:Int),(0:Int))))).1):Nat):Int)+(@minI n5 (((eq (@uI pz2 v13.1.l ((0:Nat)+(1:Nat)) (([]:List Int),((0:Int),((0:Int),(0:Int))))).1):Nat):Int)))))) then
           some ((((0:Int),((12:Int),())),(h0,())))
          else
           bif (aS (eq h0) 104) then
            bif (decide ((0:Int)≤x1∧x1<(((eq h0):Nat):Int))) then
             ge (@GetElem?.getElem? (List pz0) Nat pz0 (fun (as15:(List pz0))=>(fun (i16:Nat)=>(@uN Nat @instLTNat i16 (eq as15)))) (@List.instGetElem?NatLtLength pz0) h0 (uH x1)) fun (v15:pz0)=>
             ge (aM N v15 w2 n5) fun v16=>
             bif (decide ((0:Int)≤x1∧x1<(((eq h0):Nat):Int))) then
              ge (@GetElem?.getElem? (List pz0) Nat pz0 (fun (as17:(List pz0))=>(fun (i18:Nat)=>(@uN Nat @instLTNat i18 (eq as17)))) (@List.instGetElem?NatLtLength pz0) h0 (uH x1)) fun (v17:pz0)=>
              bif (decide ((0:Int)≤to3∧to3<(((eq (@uJ pz0 h0 (uH x1) v16.1)):Nat):Int))) then
               ge (@GetElem?.getElem? (List pz0) Nat pz0 (fun (as18:(List pz0))=>(fun (i19:Nat)=>(@uN Nat @instLTNat i19 (eq as18)))) (@List.instGetElem?NatLtLength pz0) (@uJ pz0 h0 (uH x1) v16.1) (uH to3)) fun (v18:pz0)=>
               ge (aP N v18 other4 v16.2.1) fun v19=>
               bif (decide ((0:Int)≤to3∧to3<(((eq (@uJ pz0 h0 (uH x1) v16.1)):Nat):Int))) then
                ge (@GetElem?.getElem? (List pz0) Nat pz0 (fun (as20:(List pz0))=>(fun (i21:Nat)=>(@uN Nat @instLTNat i21 (eq as20)))) (@List.instGetElem?NatLtLength pz0) (@uJ pz0 h0 (uH x1) v16.1) (uH to3)) fun (v20:pz0)=>
                some ((((((eq v16.2.1):Nat):Int),((0:Int),())),((@uJ pz0 (@uJ pz0 h0 (uH x1) v16.1) (uH to3) v19.1),())))
               else
                none
              else
               none
             else
              none
            else
             none
           else
            none
         else
          bif (decide (other4=((((0:Nat)+(1:Nat)):Nat):Int))) then
           ge (@GetElem?.getElem? (List pz0) Nat pz0 (fun (as14:(List pz0))=>(fun (i15:Nat)=>(@uN Nat @instLTNat i15 (eq as14)))) (@List.instGetElem?NatLtLength pz0) h0 (uH to3)) fun (v14:pz0)=>
           bif (decide ((65536:Int)<(gt .i64 ((((eq (@uI pz2 v14.1.l ((0:Nat)+(1:Nat)) (([]:List Int),((0:Int),((0:Int),(0:Int))))).1):Nat):Int)+(@minI n5 (((eq (@uI pz2 v13.1.l ((0:Nat)+(1:Nat)) (([]:List Int),((0:Int),((0:Int),(0:Int))))).1):Nat):Int)))))) then
            some ((((0:Int),((12:Int),())),(h0,())))
           else
            bif (aS (eq h0) 104) then
             bif (decide ((0:Int)≤x1∧x1<(((eq h0):Nat):Int))) then
              ge (@GetElem?.getElem? (List pz0) Nat pz0 (fun (as15:(List pz0))=>(fun (i16:Nat)=>(@uN Nat @instLTNat i16 (eq as15)))) (@List.instGetElem?NatLtLength pz0) h0 (uH x1)) fun (v15:pz0)=>
              ge (aM N v15 w2 n5) fun v16=>
              bif (decide ((0:Int)≤x1∧x1<(((eq h0):Nat):Int))) then
               ge (@GetElem?.getElem? (List pz0) Nat pz0 (fun (as17:(List pz0))=>(fun (i18:Nat)=>(@uN Nat @instLTNat i18 (eq as17)))) (@List.instGetElem?NatLtLength pz0) h0 (uH x1)) fun (v17:pz0)=>
               bif (decide ((0:Int)≤to3∧to3<(((eq (@uJ pz0 h0 (uH x1) v16.1)):Nat):Int))) then
                ge (@GetElem?.getElem? (List pz0) Nat pz0 (fun (as18:(List pz0))=>(fun (i19:Nat)=>(@uN Nat @instLTNat i19 (eq as18)))) (@List.instGetElem?NatLtLength pz0) (@uJ pz0 h0 (uH x1) v16.1) (uH to3)) fun (v18:pz0)=>
                ge (aP N v18 other4 v16.2.1) fun v19=>
                bif (decide ((0:Int)≤to3∧to3<(((eq (@uJ pz0 h0 (uH x1) v16.1)):Nat):Int))) then
                 ge (@GetElem?.getElem? (List pz0) Nat pz0 (fun (as20:(List pz0))=>(fun (i21:Nat)=>(@uN Nat @instLTNat i21 (eq as20)))) (@List.instGetElem?NatLtLength pz0) (@uJ pz0 h0 (uH x1) v16.1) (uH to3)) fun (v20:pz0)=>
                 some ((((((eq v16.2.1):Nat):Int),((0:Int),())),((@uJ pz0 (@uJ pz0 h0 (uH x1) v16.1) (uH to3) v19.1),())))
                else
                 none
               else
                none
              else
               none
             else
              none
            else
             none
          else
           none
        else
         none
       else
        none
     else
      none
   else
    none
theorem gX (x1:Int)(w2:Int)(to3:Int)(other4:Int)(n5:Int)(h0:List ((Arr pz2 2)×(Bool))):(runM ne (Ev32 N) 400 [14,1] 14 cp ((x1,w2,to3,other4,n5,()),(h0,()))).run=ab N x1 w2 to3 other4 n5 h0:=by kernel_rfl
noncomputable def Ev33:(R:Type)→Env R:=Env.addMth (Ev32 N) 14 (fun R old=>mthK ne cp (fun c=>ab N c.1.1 c.1.2.1 c.1.2.2.1 c.1.2.2.2.1 c.1.2.2.2.2.1 c.2.1) old)
theorem qo (R:Type):EnvOK ne (Ev33 N R):=EnvOK.addMth (qp N R) (cC (mi:=cp) (g:=fun c=>ab N c.1.1 c.1.2.1 c.1.2.2.1 c.1.2.2.2.1 c.1.2.2.2.2.1 c.2.1) hmx (qp N _) (by kernel_rfl) (fun (c:CT cp.sh)=>gX N c.1.1 c.1.2.1 c.1.2.2.1 c.1.2.2.2.1 c.1.2.2.2.2.1 c.2.1))
noncomputable def bm:MI:=⟨7,0,1,⟨[(0,.lit (.box 0 0))],[.boxp 62 [.ty .bool,.ty (.arr 32 (.int .u8)),.own 1,.ty (.int .i64),.ty (.int .i64),.ty (.int .i64),.own 2,.ty (.int .i64),.ty (.int .i64),.ty (.int .i64),.ty .bool],.own (.int .u8) 5,.own (.int .u8) 5]⟩,[(.exit 0,⟨[],[.boxp 62 [.ty .bool,.ty (.arr 32 (.int .u8)),.own 1,.ty (.int .i64),.ty (.int .i64),.ty (.int .i64),.own 2,.ty (.int .i64),.ty (.int .i64),.ty (.int .i64),.ty .bool],.own (.int .u8) 5,.own (.int .u8) 5]⟩)]⟩
noncomputable def aL (N:Nat)(h0:Bool)(h1:Arr Int 32)(h2:Int)(h3:Int)(h4:Int)(h5:Int)(h6:Int)(h7:Int)(h8:Bool)(h9:List (Int))(h10:List (Int)):Option ((Unit×pz4)):=
 ge (some ((cond true h0 false))) fun (v12:Bool)=>
 bif v12 then
  some (((),(h0,(h1,(h2,(h3,(h4,(h5,(h6,(h7,(true,(h9,(h10,())))))))))))))
 else
  some (((),(h0,(h1,(h2,(h3,(h4,(h5,(h6,(h7,(h8,(h9,(h10,())))))))))))))
theorem fm (h0:Bool)(h1:Arr Int 32)(h2:Int)(h3:Int)(h4:Int)(h5:Int)(h6:Int)(h7:Int)(h8:Bool)(h9:List (Int))(h10:List (Int)):(runM ne (Ev33 N) 400 [15,1] 15 bm ((),(h0,h1,h2,h3,h4,h5,h6,h7,h8,h9,h10,()))).run=aL N h0 h1 h2 h3 h4 h5 h6 h7 h8 h9 h10:=by kernel_rfl
noncomputable def Ev34:(R:Type)→Env R:=Env.addMth (Ev33 N) 15 (fun R old=>mthK ne bm (fun c=>aL N c.2.1 c.2.2.1 c.2.2.2.1 c.2.2.2.2.1 c.2.2.2.2.2.1 c.2.2.2.2.2.2.1 c.2.2.2.2.2.2.2.1 c.2.2.2.2.2.2.2.2.1 c.2.2.2.2.2.2.2.2.2.1 c.2.2.2.2.2.2.2.2.2.2.1 c.2.2.2.2.2.2.2.2.2.2.2.1) old)
theorem qn (R:Type):EnvOK ne (Ev34 N R):=EnvOK.addMth (qo N R) (cC (mi:=bm) (g:=fun c=>aL N c.2.1 c.2.2.1 c.2.2.2.1 c.2.2.2.2.1 c.2.2.2.2.2.1 c.2.2.2.2.2.2.1 c.2.2.2.2.2.2.2.1 c.2.2.2.2.2.2.2.2.1 c.2.2.2.2.2.2.2.2.2.1 c.2.2.2.2.2.2.2.2.2.2.1 c.2.2.2.2.2.2.2.2.2.2.2.1) hmx (qo N _) (by kernel_rfl) (fun (c:CT bm.sh)=>fm N c.2.1 c.2.2.1 c.2.2.2.1 c.2.2.2.2.1 c.2.2.2.2.2.1 c.2.2.2.2.2.2.1 c.2.2.2.2.2.2.2.1 c.2.2.2.2.2.2.2.2.1 c.2.2.2.2.2.2.2.2.2.1 c.2.2.2.2.2.2.2.2.2.2.1 c.2.2.2.2.2.2.2.2.2.2.2.1))
noncomputable def ct:MI:=⟨74,2,2,⟨[(0,.lit (.box 0 0)),(1,.ty (.int .i64)),(2,.lit (.box 1 0)),(3,.ty (.int .i64)),(4,.ty (.int .i64))],[.boxp 62 [.ty .bool,.ty (.arr 32 (.int .u8)),.own 2,.ty (.int .i64),.ty (.int .i64),.ty (.int .i64),.own 3,.ty (.int .i64),.ty (.int .i64),.ty (.int .i64),.ty .bool],.boxp 62 [.ty .bool,.ty (.arr 32 (.int .u8)),.own 4,.ty (.int .i64),.ty (.int .i64),.ty (.int .i64),.own 5,.ty (.int .i64),.ty (.int .i64),.ty (.int .i64),.ty .bool],.own (.int .u8) 5,.own (.int .u8) 5,.own (.int .u8) 5,.own (.int .u8) 5]⟩,[(.exit 0,⟨[(0,.ty (.int .i64)),(1,.ty (.int .i64))],[.boxp 62 [.ty .bool,.ty (.arr 32 (.int .u8)),.own 2,.ty (.int .i64),.ty (.int .i64),.ty (.int .i64),.own 3,.ty (.int .i64),.ty (.int .i64),.ty (.int .i64),.ty .bool],.boxp 62 [.ty .bool,.ty (.arr 32 (.int .u8)),.own 4,.ty (.int .i64),.ty (.int .i64),.ty (.int .i64),.own 5,.ty (.int .i64),.ty (.int .i64),.ty (.int .i64),.ty .bool],.own (.int .u8) 5,.own (.int .u8) 5,.own (.int .u8) 5,.own (.int .u8) 5]⟩)]⟩
noncomputable def ag (way1:Int)(other3:Int)(n4:Int)(h0:Bool)(h1:Arr Int 32)(h2:Int)(h3:Int)(h4:Int)(h5:Int)(h6:Int)(h7:Int)(h8:Bool)(h9:Bool)(h10:Arr Int 32)(h11:Int)(h12:Int)(h13:Int)(h14:Int)(h15:Int)(h16:Int)(h17:Bool)(h18:List (Int))(h19:List (Int))(h20:List (Int))(h21:List (Int)):Option (((Int×(Int×Unit))×pz1)):=
 ge (some ((cond true h0 false))) fun (v26:Bool)=>
 bif (!v26) then
  some ((((0:Int),((2:Int),())),(h0,(h1,(h2,(h3,(h4,(h5,(h6,(h7,(h8,(h9,(h10,(h11,(h12,(h13,(h14,(h15,(h16,(h17,(h18,(h19,(h20,(h21,()))))))))))))))))))))))))
 else
  ge (some ((cond true h9 false))) fun (v27:Bool)=>
  ge (some ((cond false true (!v27)))) fun (v28:Bool)=>
  bif v28 then
   some ((((0:Int),((2:Int),())),(h0,(h1,(h2,(h3,(h4,(h5,(h6,(h7,(h8,(h9,(h10,(h11,(h12,(h13,(h14,(h15,(h16,(h17,(h18,(h19,(h20,(h21,()))))))))))))))))))))))))
  else
   ge (bif (decide (way1=(0:Int))) then
     some (true)
    else
     some ((cond false true (decide (way1=(1:Int)))))) fun (v29:Bool)=>
   bif (!v29) then
    some ((((0:Int),((1:Int),())),(h0,(h1,(h2,(h3,(h4,(h5,(h6,(h7,(h8,(h9,(h10,(h11,(h12,(h13,(h14,(h15,(h16,(h17,(h18,(h19,(h20,(h21,()))))))))))))))))))))))))
   else
    ge (bif (decide (other3=(0:Int))) then
      some (true)
     else
      some ((cond false true (decide (other3=(1:Int)))))) fun (v30:Bool)=>
    ge (some ((cond false true (!v30)))) fun (v31:Bool)=>
    ge (bif v31 then
      some (true)
     else
      some ((cond false true (decide (n4<(0:Int)))))) fun (v32:Bool)=>
    ge (bif v32 then
      some (true)
     else
      some ((cond false true false))) fun (v33:Bool)=>
    bif v33 then
     some ((((0:Int),((1:Int),())),(h0,(h1,(h2,(h3,(h4,(h5,(h6,(h7,(h8,(h9,(h10,(h11,(h12,(h13,(h14,(h15,(h16,(h17,(h18,(h19,(h20,(h21,()))))))))))))))))))))))))
    else
     ge (av N way1 h0 h1 h2 h3 h4 h5 h6 h7 h8 h18 h19) fun v34=>
     bif h17 then
      some ((((0:Int),((11:Int),())),(v34.2.1,(v34.2.2.1,(v34.2.2.2.1,(v34.2.2.2.2.1,(v34.2.2.2.2.2.1,(v34.2.2.2.2.2.2.1,(v34.2.2.2.2.2.2.2.1,(v34.2.2.2.2.2.2.2.2.1,(v34.2.2.2.2.2.2.2.2.2.1,(h9,(h10,(h11,(h12,(h13,(h14,(h15,(h16,(h17,((v34.2.2.2.2.2.2.2.2.2).snd.1,((v34.2.2.2.2.2.2.2.2.2).snd.2.1,(h20,(h21,()))))))))))))))))))))))))
     else
      bif (decide (other3=((0:Nat):Int))) then
       bif (decide ((gt .i64 ((65536:Int)-(((eq h20):Nat):Int)))<(@minI n4 v34.1.1))) then
        some ((((0:Int),((12:Int),())),(v34.2.1,(v34.2.2.1,(v34.2.2.2.1,(v34.2.2.2.2.1,(v34.2.2.2.2.2.1,(v34.2.2.2.2.2.2.1,(v34.2.2.2.2.2.2.2.1,(v34.2.2.2.2.2.2.2.2.1,(v34.2.2.2.2.2.2.2.2.2.1,(h9,(h10,(h11,(h12,(h13,(h14,(h15,(h16,(h17,((v34.2.2.2.2.2.2.2.2.2).snd.1,((v34.2.2.2.2.2.2.2.2.2).snd.2.1,(h20,(h21,()))))))))))))))))))))))))
       else
        ge (ah N way1 n4 v34.2.1 v34.2.2.1 v34.2.2.2.1 v34.2.2.2.2.1 v34.2.2.2.2.2.1 v34.2.2.2.2.2.2.1 v34.2.2.2.2.2.2.2.1 v34.2.2.2.2.2.2.2.2.1 v34.2.2.2.2.2.2.2.2.2.1 (v34.2.2.2.2.2.2.2.2.2).snd.1 (v34.2.2.2.2.2.2.2.2.2).snd.2.1) fun v35=>
        bif (decide (other3=((0:Nat):Int))) then
         bif (aS ((eq h20)+(eq v35.1.1)) 1) then
          some ((((((eq v35.1.1):Nat):Int),((0:Int),())),(v35.2.1,(v35.2.2.1,(v35.2.2.2.1,(v35.2.2.2.2.1,(v35.2.2.2.2.2.1,(v35.2.2.2.2.2.2.1,(v35.2.2.2.2.2.2.2.1,(v35.2.2.2.2.2.2.2.2.1,(v35.2.2.2.2.2.2.2.2.2.1,(h9,(h10,((gt .i64 (h11+(((eq v35.1.1):Nat):Int))),(h12,(h13,(h14,(h15,(h16,(h17,((v35.2.2.2.2.2.2.2.2.2).snd.1,((v35.2.2.2.2.2.2.2.2.2).snd.2.1,((h20++v35.1.1),(h21,()))))))))))))))))))))))))
         else
          none
        else
         bif (decide (other3=((((0:Nat)+(1:Nat)):Nat):Int))) then
          bif (aS ((eq h21)+(eq v35.1.1)) 1) then
           some ((((((eq v35.1.1):Nat):Int),((0:Int),())),(v35.2.1,(v35.2.2.1,(v35.2.2.2.1,(v35.2.2.2.2.1,(v35.2.2.2.2.2.1,(v35.2.2.2.2.2.2.1,(v35.2.2.2.2.2.2.2.1,(v35.2.2.2.2.2.2.2.2.1,(v35.2.2.2.2.2.2.2.2.2.1,(h9,(h10,(h11,(h12,(h13,((gt .i64 (h14+(((eq v35.1.1):Nat):Int))),(h15,(h16,(h17,((v35.2.2.2.2.2.2.2.2.2).snd.1,((v35.2.2.2.2.2.2.2.2.2).snd.2.1,(h20,((h21++v35.1.1),()))))))))))))))))))))))))
          else
           none
         else
          none
      else
       bif (decide (other3=((((0:Nat)+(1:Nat)):Nat):Int))) then
        bif (decide ((gt .i64 ((65536:Int)-(((eq h21):Nat):Int)))<(@minI n4 v34.1.1))) then
         some ((((0:Int),((12:Int),())),(v34.2.1,(v34.2.2.1,(v34.2.2.2.1,(v34.2.2.2.2.1,(v34.2.2.2.2.2.1,(v34.2.2.2.2.2.2.1,(v34.2.2.2.2.2.2.2.1,(v34.2.2.2.2.2.2.2.2.1,(v34.2.2.2.2.2.2.2.2.2.1,(h9,(h10,(h11,(h12,(h13,(h14,(h15,(h16,(h17,((v34.2.2.2.2.2.2.2.2.2).snd.1,((v34.2.2.2.2.2.2.2.2.2).snd.2.1,(h20,(h21,()))))))))))))))))))))))))
        else
         ge (ah N way1 n4 v34.2.1 v34.2.2.1 v34.2.2.2.1 v34.2.2.2.2.1 v34.2.2.2.2.2.1 v34.2.2.2.2.2.2.1 v34.2.2.2.2.2.2.2.1 v34.2.2.2.2.2.2.2.2.1 v34.2.2.2.2.2.2.2.2.2.1 (v34.2.2.2.2.2.2.2.2.2).snd.1 (v34.2.2.2.2.2.2.2.2.2).snd.2.1) fun v35=>
         bif (decide (other3=((0:Nat):Int))) then
          bif (aS ((eq h20)+(eq v35.1.1)) 1) then
           some ((((((eq v35.1.1):Nat):Int),((0:Int),())),(v35.2.1,(v35.2.2.1,(v35.2.2.2.1,(v35.2.2.2.2.1,(v35.2.2.2.2.2.1,(v35.2.2.2.2.2.2.1,(v35.2.2.2.2.2.2.2.1,(v35.2.2.2.2.2.2.2.2.1,(v35.2.2.2.2.2.2.2.2.2.1,(h9,(h10,((gt .i64 (h11+(((eq v35.1.1):Nat):Int))),(h12,(h13,(h14,(h15,(h16,(h17,((v35.2.2.2.2.2.2.2.2.2).snd.1,((v35.2.2.2.2.2.2.2.2.2).snd.2.1,((h20++v35.1.1),(h21,()))))))))))))))))))))))))
          else
           none
         else
          bif (decide (other3=((((0:Nat)+(1:Nat)):Nat):Int))) then
           bif (aS ((eq h21)+(eq v35.1.1)) 1) then
            some ((((((eq v35.1.1):Nat):Int),((0:Int),())),(v35.2.1,(v35.2.2.1,(v35.2.2.2.1,(v35.2.2.2.2.1,(v35.2.2.2.2.2.1,(v35.2.2.2.2.2.2.1,(v35.2.2.2.2.2.2.2.1,(v35.2.2.2.2.2.2.2.2.1,(v35.2.2.2.2.2.2.2.2.2.1,(h9,(h10,(h11,(h12,(h13,((gt .i64 (h14+(((eq v35.1.1):Nat):Int))),(h15,(h16,(h17,((v35.2.2.2.2.2.2.2.2.2).snd.1,((v35.2.2.2.2.2.2.2.2.2).snd.2.1,(h20,((h21++v35.1.1),()))))))))))))))))))))))))
           else
            none
          else
           none
       else
        none
theorem gY (way1:Int)(other3:Int)(n4:Int)(h0:Bool)(h1:Arr Int 32)(h2:Int)(h3:Int)(h4:Int)(h5:Int)(h6:Int)(h7:Int)(h8:Bool)(h9:Bool)(h10:Arr Int 32)(h11:Int)(h12:Int)(h13:Int)(h14:Int)(h15:Int)(h16:Int)(h17:Bool)(h18:List (Int))(h19:List (Int))(h20:List (Int))(h21:List (Int)):(runM ne (Ev34 N) 400 [13,2] 13 ct ((way1,other3,n4,()),(h0,h1,h2,h3,h4,h5,h6,h7,h8,h9,h10,h11,h12,h13,h14,h15,h16,h17,h18,h19,h20,h21,()))).run=ag N way1 other3 n4 h0 h1 h2 h3 h4 h5 h6 h7 h8 h9 h10 h11 h12 h13 h14 h15 h16 h17 h18 h19 h20 h21:=by kernel_rfl
noncomputable def Ev35:(R:Type)→Env R:=Env.addMth (Ev34 N) 13 (fun R old=>mthK ne ct (fun c=>ag N c.1.1 c.1.2.1 c.1.2.2.1 c.2.1 c.2.2.1 c.2.2.2.1 c.2.2.2.2.1 c.2.2.2.2.2.1 c.2.2.2.2.2.2.1 c.2.2.2.2.2.2.2.1 c.2.2.2.2.2.2.2.2.1 c.2.2.2.2.2.2.2.2.2.1 c.2.2.2.2.2.2.2.2.2.2.1 c.2.2.2.2.2.2.2.2.2.2.2.1 c.2.2.2.2.2.2.2.2.2.2.2.2.1 c.2.2.2.2.2.2.2.2.2.2.2.2.2.1 c.2.2.2.2.2.2.2.2.2.2.2.2.2.2.1 c.2.2.2.2.2.2.2.2.2.2.2.2.2.2.2.1 c.2.2.2.2.2.2.2.2.2.2.2.2.2.2.2.2.1 c.2.2.2.2.2.2.2.2.2.2.2.2.2.2.2.2.2.1 c.2.2.2.2.2.2.2.2.2.2.2.2.2.2.2.2.2.2.1 c.2.2.2.2.2.2.2.2.2.2.2.2.2.2.2.2.2.2.2.1 c.2.2.2.2.2.2.2.2.2.2.2.2.2.2.2.2.2.2.2.2.1 c.2.2.2.2.2.2.2.2.2.2.2.2.2.2.2.2.2.2.2.2.2.1 c.2.2.2.2.2.2.2.2.2.2.2.2.2.2.2.2.2.2.2.2.2.2.1) old)
theorem qm (R:Type):EnvOK ne (Ev35 N R):=EnvOK.addMth (qn N R) (cC (mi:=ct) (g:=fun c=>ag N c.1.1 c.1.2.1 c.1.2.2.1 c.2.1 c.2.2.1 c.2.2.2.1 c.2.2.2.2.1 c.2.2.2.2.2.1 c.2.2.2.2.2.2.1 c.2.2.2.2.2.2.2.1 c.2.2.2.2.2.2.2.2.1 c.2.2.2.2.2.2.2.2.2.1 c.2.2.2.2.2.2.2.2.2.2.1 c.2.2.2.2.2.2.2.2.2.2.2.1 c.2.2.2.2.2.2.2.2.2.2.2.2.1 c.2.2.2.2.2.2.2.2.2.2.2.2.2.1 c.2.2.2.2.2.2.2.2.2.2.2.2.2.2.1 c.2.2.2.2.2.2.2.2.2.2.2.2.2.2.2.1 c.2.2.2.2.2.2.2.2.2.2.2.2.2.2.2.2.1 c.2.2.2.2.2.2.2.2.2.2.2.2.2.2.2.2.2.1 c.2.2.2.2.2.2.2.2.2.2.2.2.2.2.2.2.2.2.1 c.2.2.2.2.2.2.2.2.2.2.2.2.2.2.2.2.2.2.2.1 c.2.2.2.2.2.2.2.2.2.2.2.2.2.2.2.2.2.2.2.2.1 c.2.2.2.2.2.2.2.2.2.2.2.2.2.2.2.2.2.2.2.2.2.1 c.2.2.2.2.2.2.2.2.2.2.2.2.2.2.2.2.2.2.2.2.2.2.1) hmx (qn N _) (by kernel_rfl) (fun (c:CT ct.sh)=>gY N c.1.1 c.1.2.1 c.1.2.2.1 c.2.1 c.2.2.1 c.2.2.2.1 c.2.2.2.2.1 c.2.2.2.2.2.1 c.2.2.2.2.2.2.1 c.2.2.2.2.2.2.2.1 c.2.2.2.2.2.2.2.2.1 c.2.2.2.2.2.2.2.2.2.1 c.2.2.2.2.2.2.2.2.2.2.1 c.2.2.2.2.2.2.2.2.2.2.2.1 c.2.2.2.2.2.2.2.2.2.2.2.2.1 c.2.2.2.2.2.2.2.2.2.2.2.2.2.1 c.2.2.2.2.2.2.2.2.2.2.2.2.2.2.1 c.2.2.2.2.2.2.2.2.2.2.2.2.2.2.2.1 c.2.2.2.2.2.2.2.2.2.2.2.2.2.2.2.2.1 c.2.2.2.2.2.2.2.2.2.2.2.2.2.2.2.2.2.1 c.2.2.2.2.2.2.2.2.2.2.2.2.2.2.2.2.2.2.1 c.2.2.2.2.2.2.2.2.2.2.2.2.2.2.2.2.2.2.2.1 c.2.2.2.2.2.2.2.2.2.2.2.2.2.2.2.2.2.2.2.2.1 c.2.2.2.2.2.2.2.2.2.2.2.2.2.2.2.2.2.2.2.2.2.1 c.2.2.2.2.2.2.2.2.2.2.2.2.2.2.2.2.2.2.2.2.2.2.1))
end
end Go.Proofs.Ytmndainldhmnjaa
namespace Go.Proofs.Ytmndainldhmnjaa
set_option maxRecDepth 100000
open Go.RowKit
set_option linter.unusedVariables false
set_option linter.unusedSimpArgs false
def AllB (l:List Int):Prop:=∀ x∈l,0≤x∧x<256
theorem AllB.nil:AllB []:=fun _ h=>by cases h
theorem AllB.cons {x:Int}{l:List Int}(h1:0≤x∧x<256)(h2:AllB l):AllB (x::l):=fun y hy=>by
  rcases List.mem_cons.1 hy with rfl | hy
  · exact h1
  · exact h2 y hy
theorem AllB.append {l m:List Int}(h1:AllB l)(h2:AllB m):AllB (l++m):=fun y hy=>by
  rcases List.mem_append.1 hy with hy | hy
  · exact h1 y hy
  · exact h2 y hy
theorem AllB.drop {l:List Int}(h:AllB l)(n:Nat):AllB (l.drop n):=fun y hy=>h y (List.mem_of_mem_drop hy)
theorem AllB.take {l:List Int}(h:AllB l)(n:Nat):AllB (l.take n):=fun y hy=>h y (List.mem_of_mem_take hy)
theorem AllB.get {l:List Int}(h:AllB l)(i:Nat)(hi:i<l.length):0≤l[i]∧l[i]<256:=h _ (List.getElem_mem hi)
theorem cT {α:Type}(l:List α){a:Int}{i:Nat}(ha:a=i)(h1:i≤l.length):dh l a=some (l.drop i):=by
  subst ha
  unfold dh
  rw [if_pos ⟨by omega,by omega⟩,Int.toNat_natCast]
theorem cB {α:Type}(l:List α){a:Int}{i:Nat}(ha:a=i)(h1:i≤l.length):cN l a=some (l.take i):=by
  subst ha
  unfold cN
  rw [if_pos ⟨by omega,by omega⟩,Int.toNat_natCast]
end Go.Proofs.Ytmndainldhmnjaa
namespace Go.Proofs.Ytmndainldhmnjaa
set_option maxRecDepth 100000
open Go.RowKit
set_option linter.unusedVariables false
set_option linter.unusedSimpArgs false
set_option maxRecDepth 100000
theorem bpos {α:Type}{p:Prop}{i:Decidable p}{x y:α}(h:p):(bif @decide p i then x else y)=x:=by rw [decide_eq_true h];rfl
theorem bneg {α:Type}{p:Prop}{i:Decidable p}{x y:α}(h:¬ p):(bif @decide p i then x else y)=y:=by rw [decide_eq_false h];rfl
theorem nO {n b:Nat}(h:n≤100000)(hb:b≤100):aS n b=true:=mU (by have:=pZ;omega) (by
 have:n*b≤100000*100:=Nat.mul_le_mul h hb
 omega)
theorem rpos {α:Type}{n b:Nat}{x y:α}(h:n≤100000)(hb:b≤100):(bif aS n b then x else y)=x:=by rw [nO h hb];rfl
theorem bnd {α β:Type}{o:Option α}{v:α}{k:α→Option β}(h:o=some v):ge o k=k v:=by rw [h];rfl
theorem bvp {α:Type}{v:Bool}{x y:α}(h:v=true):(bif v then x else y)=x:=by rw [h];rfl
theorem bvn {α:Type}{v:Bool}{x y:α}(h:v=false):(bif v then x else y)=y:=by rw [h];rfl
theorem mini (k n:Nat):minI (k:Int) (n:Int)=((min k n:Nat):Int):=by unfold minI;split <;> omega
abbrev Wy:Type:=List Int×(Int×(Int×Int))
abbrev Rc:Type:=Arr Wy 2×Bool
abbrev Kd:Type:=Bool×(Arr Int 32×(Int×(Int×(Int×(Int×(Int×(Int×(Bool×(List Int×(List Int×Unit))))))))))
structure Kx where
 p0:Int
 t0:Int
 l0:Int
 p1:Int
 t1:Int
 l1:Int
 s:Bool
 b0:List Int
 b1:List Int
def rc (K:Kx):Rc:=(⟨[(K.b0,(K.p0,(K.t0,K.l0))),(K.b1,(K.p1,(K.t1,K.l1)))],rfl⟩,K.s)
def kd (h:Arr Int 32)(K:Kx):Kd:=(true,(h,(K.p0,(K.t0,(K.l0,(K.p1,(K.t1,(K.l1,(K.s,(K.b0,(K.b1,())))))))))))
def okK (K:Kx):Prop:=K.b0.length≤65536∧K.b1.length≤65536
theorem way0:ba 200000 0=some true:=rfl
theorem way1:ba 200000 1=some true:=rfl
theorem wayN {w:Int}(h0:¬ w=0)(h1:¬ w=1):ba 200000 w=some false:=by
 unfold ba
 rw [decide_eq_false h0,decide_eq_false h1];rfl
theorem mayN {w:Int}(h0:¬ w=0)(h1:¬ w=1):(bif (decide (w=(0:Int))) then some true else some (cond false true (decide (w=(1:Int)))))=some false:=by
 rw [decide_eq_false h0,decide_eq_false h1];rfl
theorem in0:(0:Int)≤0∧(0:Int)<((2:Nat):Int):=by omega
theorem in1:(0:Int)≤1∧(1:Int)<((2:Nat):Int):=by omega
theorem jR (h:Arr Int 32)(K:Kx)(hk:okK K)(w:Int)(d:List Int)(hd:d.length≤70000):
  ∃ (e:Int) (K':Kx),ao 200000 w d true h K.p0 K.t0 K.l0 K.p1 K.t1 K.l1 K.s K.b0 K.b1=some ((e,()),kd h K')∧aP 200000 (rc K) w d=some (rc K',e)∧okK K':=by
 obtain ⟨p0,t0,l0,p1,t1,l1,s,b0,b1⟩:=K
 obtain ⟨k0,k1⟩:=hk
 simp only at k0 k1
 by_cases w0:w=0
 ·subst w0
  cases s with
  | true=>
   refine ⟨11,⟨p0,t0,l0,p1,t1,l1,true,b0,b1⟩, ?_, ?_,k0,k1⟩
   ·unfold ao
    exact (bnd (v:=true) rfl).trans ((bvn rfl).trans ((bnd (v:=true) rfl).trans ((bvn rfl).trans ((bvp rfl).trans rfl))))
   ·unfold aP
    exact (bnd way0).trans ((bvn rfl).trans ((bvp rfl).trans rfl))
  | false=>
   have w1:gt .i64 ((65536:Int)-(b0.length:Int))=65536-(b0.length:Int):=aQ (by omega) (by omega)
   have w2:gt .i64 ((b0.length:Int)+(d.length:Int))=(b0.length:Int)+(d.length:Int):=aQ (by omega) (by omega)
   by_cases hf:65536<b0.length+d.length
   ·refine ⟨12,⟨p0,t0,l0,p1,t1,l1,false,b0,b1⟩, ?_, ?_,k0,k1⟩
    ·unfold ao
     exact (bnd (v:=true) rfl).trans ((bvn rfl).trans ((bnd (v:=true) rfl).trans ((bvn rfl).trans ((bvn rfl).trans ((bpos rfl).trans ((bpos (by rw [w1];omega)).trans rfl))))))
    ·unfold aP
     exact (bnd way0).trans ((bvn rfl).trans ((bvn rfl).trans ((bpos in0).trans ((bnd (v:=((b0,(p0,(t0,l0))):Wy)) rfl).trans ((bpos (by show (65536:Int)<gt .i64 ((b0.length:Int)+(d.length:Int));rw [w2];omega)).trans rfl)))))
   ·refine ⟨0,⟨gt .i64 (p0+(d.length:Int)),t0,l0,p1,t1,l1,false,b0++d,b1⟩, ?_, ?_,by show (b0++d).length≤65536;rw [List.length_append];omega,k1⟩
    ·unfold ao
     exact (bnd (v:=true) rfl).trans ((bvn rfl).trans ((bnd (v:=true) rfl).trans ((bvn rfl).trans ((bvn rfl).trans ((bpos rfl).trans ((bneg (by rw [w1];omega)).trans ((bpos rfl).trans ((rpos (by show b0.length+d.length≤100000;omega) (by omega)).trans rfl))))))))
    ·unfold aP
     refine (bnd way0).trans ((bvn rfl).trans ((bvn rfl).trans ((bpos in0).trans ((bnd (v:=((b0,(p0,(t0,l0))):Wy)) rfl).trans ((bneg (by show ¬ (65536:Int)<gt .i64 ((b0.length:Int)+(d.length:Int));rw [w2];omega)).trans ?_)))))
     refine (bpos in0).trans ((bnd (v:=((b0,(p0,(t0,l0))):Wy)) rfl).trans ((rpos (by show b0.length≤100000;omega) (by omega)).trans ((rpos (by show b0.length+d.length≤100000;omega) (by omega)).trans ?_)))
     refine (bpos in0).trans ((bnd (v:=((b0,(p0,(t0,l0))):Wy)) rfl).trans ?_)
     refine (bpos in0).trans ((bnd (v:=((b0++d,(p0,(t0,l0))):Wy)) rfl).trans ?_)
     exact (bpos in0).trans ((bnd (v:=((b0++d,(p0,(t0,l0))):Wy)) rfl).trans rfl)
 ·by_cases w1':w=1
  ·subst w1'
   cases s with
   | true=>
    refine ⟨11,⟨p0,t0,l0,p1,t1,l1,true,b0,b1⟩, ?_, ?_,k0,k1⟩
    ·unfold ao
     exact (bnd (v:=true) rfl).trans ((bvn rfl).trans ((bnd (v:=true) rfl).trans ((bvn rfl).trans ((bvp rfl).trans rfl))))
    ·unfold aP
     exact (bnd way1).trans ((bvn rfl).trans ((bvp rfl).trans rfl))
   | false=>
    have w1:gt .i64 ((65536:Int)-(b1.length:Int))=65536-(b1.length:Int):=aQ (by omega) (by omega)
    have w2:gt .i64 ((b1.length:Int)+(d.length:Int))=(b1.length:Int)+(d.length:Int):=aQ (by omega) (by omega)
    by_cases hf:65536<b1.length+d.length
    ·refine ⟨12,⟨p0,t0,l0,p1,t1,l1,false,b0,b1⟩, ?_, ?_,k0,k1⟩
     ·unfold ao
      exact (bnd (v:=true) rfl).trans ((bvn rfl).trans ((bnd (v:=true) rfl).trans ((bvn rfl).trans ((bvn rfl).trans ((bneg (by omega)).trans ((bpos rfl).trans ((bpos (by rw [w1];omega)).trans rfl)))))))
     ·unfold aP
      exact (bnd way1).trans ((bvn rfl).trans ((bvn rfl).trans ((bpos in1).trans ((bnd (v:=((b1,(p1,(t1,l1))):Wy)) rfl).trans ((bpos (by show (65536:Int)<gt .i64 ((b1.length:Int)+(d.length:Int));rw [w2];omega)).trans rfl)))))
    ·refine ⟨0,⟨p0,t0,l0,gt .i64 (p1+(d.length:Int)),t1,l1,false,b0,b1++d⟩, ?_, ?_,k0,by show (b1++d).length≤65536;rw [List.length_append];omega⟩
     ·unfold ao
      exact (bnd (v:=true) rfl).trans ((bvn rfl).trans ((bnd (v:=true) rfl).trans ((bvn rfl).trans ((bvn rfl).trans ((bneg (by omega)).trans ((bpos rfl).trans ((bneg (by rw [w1];omega)).trans ((bneg (by omega)).trans ((bpos rfl).trans ((rpos (by show b1.length+d.length≤100000;omega) (by omega)).trans rfl))))))))))
     ·unfold aP
      refine (bnd way1).trans ((bvn rfl).trans ((bvn rfl).trans ((bpos in1).trans ((bnd (v:=((b1,(p1,(t1,l1))):Wy)) rfl).trans ((bneg (by show ¬ (65536:Int)<gt .i64 ((b1.length:Int)+(d.length:Int));rw [w2];omega)).trans ?_)))))
      refine (bpos in1).trans ((bnd (v:=((b1,(p1,(t1,l1))):Wy)) rfl).trans ((rpos (by show b1.length≤100000;omega) (by omega)).trans ((rpos (by show b1.length+d.length≤100000;omega) (by omega)).trans ?_)))
      refine (bpos in1).trans ((bnd (v:=((b1,(p1,(t1,l1))):Wy)) rfl).trans ?_)
      refine (bpos in1).trans ((bnd (v:=((b1++d,(p1,(t1,l1))):Wy)) rfl).trans ?_)
      exact (bpos in1).trans ((bnd (v:=((b1++d,(p1,(t1,l1))):Wy)) rfl).trans rfl)
  ·refine ⟨1,⟨p0,t0,l0,p1,t1,l1,s,b0,b1⟩, ?_, ?_,k0,k1⟩
   ·unfold ao
    exact (bnd (v:=true) rfl).trans ((bvn rfl).trans ((bnd (mayN w0 w1')).trans ((bvp rfl).trans rfl)))
   ·unfold aP
    exact (bnd (wayN w0 w1')).trans ((bvp rfl).trans rfl)
theorem cut0 (p0 t0 l0 p1 t1 l1:Int)(s:Bool)(b0 b1:List Int)(k:Nat)(hb:b0.length≤65536):cP 200000 (rc ⟨p0,t0,l0,p1,t1,l1,s,b0,b1⟩) 0 (k:Int)=some (rc ⟨p0,t0,l0,p1,t1,l1,s,b0.drop (min k b0.length),b1⟩,b0.take (min k b0.length)):=by
 have e1:cN b0 (minI (k:Int) (b0.length:Int))=some (b0.take (min k b0.length)):=by rw [mini];exact cB b0 rfl (by omega)
 have e2:dh b0 (minI (k:Int) (b0.length:Int))=some (b0.drop (min k b0.length)):=by rw [mini];exact cT b0 rfl (by omega)
 unfold cP
 refine (bpos in0).trans ((bnd (v:=((b0,(p0,(t0,l0))):Wy)) rfl).trans ((bnd e2).trans ((rpos (by rw [uQ];omega) (by omega)).trans ?_)))
 refine (bpos in0).trans ((bnd (v:=((b0,(p0,(t0,l0))):Wy)) rfl).trans ((bnd e1).trans ((rpos (by rw [uP];omega) (by omega)).trans ?_)))
 rfl
theorem cut1 (p0 t0 l0 p1 t1 l1:Int)(s:Bool)(b0 b1:List Int)(k:Nat)(hb:b1.length≤65536):cP 200000 (rc ⟨p0,t0,l0,p1,t1,l1,s,b0,b1⟩) 1 (k:Int)=some (rc ⟨p0,t0,l0,p1,t1,l1,s,b0,b1.drop (min k b1.length)⟩,b1.take (min k b1.length)):=by
 have e1:cN b1 (minI (k:Int) (b1.length:Int))=some (b1.take (min k b1.length)):=by rw [mini];exact cB b1 rfl (by omega)
 have e2:dh b1 (minI (k:Int) (b1.length:Int))=some (b1.drop (min k b1.length)):=by rw [mini];exact cT b1 rfl (by omega)
 unfold cP
 refine (bpos in1).trans ((bnd (v:=((b1,(p1,(t1,l1))):Wy)) rfl).trans ((bnd e2).trans ((rpos (by rw [uQ];omega) (by omega)).trans ?_)))
 refine (bpos in1).trans ((bnd (v:=((b1,(p1,(t1,l1))):Wy)) rfl).trans ((bnd e1).trans ((rpos (by rw [uP];omega) (by omega)).trans ?_)))
 rfl
theorem hI (h:Arr Int 32)(K:Kx)(hk:okK K)(w n:Int):
  ∃ (c e:Int) (K':Kx),az 200000 w n true h K.p0 K.t0 K.l0 K.p1 K.t1 K.l1 K.s K.b0 K.b1=some ((c,(e,())),kd h K')∧bu 200000 (rc K) w n=some (rc K',(c,e))∧okK K':=by
 obtain ⟨p0,t0,l0,p1,t1,l1,s,b0,b1⟩:=K
 obtain ⟨k0,k1⟩:=hk
 simp only at k0 k1
 have bad:∀ {b:Bool},b=true→(w=0∨w=1→n<0)→∃ (c e:Int) (K':Kx),az 200000 w n true h p0 t0 l0 p1 t1 l1 s b0 b1=some ((c,(e,())),kd h K')∧bu 200000 (rc ⟨p0,t0,l0,p1,t1,l1,s,b0,b1⟩) w n=some (rc K',(c,e))∧okK K':=fun _ hw=>by
  refine ⟨0,1,⟨p0,t0,l0,p1,t1,l1,s,b0,b1⟩, ?_, ?_,k0,k1⟩
  ·unfold az
   refine (bnd (v:=true) rfl).trans ((bvn rfl).trans ?_)
   by_cases h01:w=0∨w=1
   ·refine (bnd (v:=true) (by rcases h01 with rfl | rfl <;> rfl)).trans ?_
    exact (bnd (v:=true) ((bvn rfl).trans (by rw [decide_eq_true (hw h01)];rfl))).trans ((bvp rfl).trans rfl)
   ·exact (bnd (mayN (fun e=>h01 (.inl e)) (fun e=>h01 (.inr e)))).trans ((bnd (v:=true) (bvp rfl)).trans ((bvp rfl).trans rfl))
  ·unfold bu
   by_cases h01:w=0∨w=1
   ·refine (bnd (v:=true) (by rcases h01 with rfl | rfl <;> rfl)).trans ?_
    exact (bnd (v:=true) ((bvn rfl).trans (by rw [decide_eq_true (hw h01)];rfl))).trans ((bvp rfl).trans rfl)
   ·exact (bnd (wayN (fun e=>h01 (.inl e)) (fun e=>h01 (.inr e)))).trans ((bnd (v:=true) (bvp rfl)).trans ((bvp rfl).trans rfl))
 by_cases hn:n<0
 ·exact bad (b:=true) rfl (fun _=>hn)
 obtain ⟨k,rfl⟩:∃ k:Nat,n=(k:Int):=⟨n.toNat,by omega⟩
 have hnn:(cond false true (decide ((k:Int)<0)))=false:=by rw [decide_eq_false hn];rfl
 by_cases w0:w=0
 ·subst w0
  have e1:cN b0 (minI (k:Int) (b0.length:Int))=some (b0.take (min k b0.length)):=by rw [mini];exact cB b0 rfl (by omega)
  have e2:dh b0 (minI (k:Int) (b0.length:Int))=some (b0.drop (min k b0.length)):=by rw [mini];exact cT b0 rfl (by omega)
  refine ⟨((b0.take (min k b0.length)).length:Int),0,⟨p0,t0,gt .i64 (l0+((b0.take (min k b0.length)).length:Int)),p1,t1,l1,s,b0.drop (min k b0.length),b1⟩, ?_, ?_,by show (b0.drop _).length≤_;rw [uQ];omega,k1⟩
  ·unfold az
   refine (bnd (v:=true) rfl).trans ((bvn rfl).trans ((bnd (v:=true) rfl).trans ((bnd (v:=false) ((bvn rfl).trans (by rw [hnn]))).trans ((bvn rfl).trans ((bpos rfl).trans ?_)))))
   refine (bnd e1).trans ((rpos (by rw [uP];omega) (by omega)).trans ((bnd e2).trans ((bpos rfl).trans ((bpos rfl).trans rfl))))
  ·unfold bu
   refine (bnd way0).trans ((bnd (v:=false) ((bvn rfl).trans (by rw [hnn]))).trans ((bvn rfl).trans ((bnd (cut0 p0 t0 l0 p1 t1 l1 s b0 b1 k k0)).trans ?_)))
   exact (bpos in0).trans ((bnd (v:=((b0.drop (min k b0.length),(p0,(t0,l0))):Wy)) rfl).trans ((bpos in0).trans ((bnd (v:=((b0.drop (min k b0.length),(p0,(t0,l0))):Wy)) rfl).trans rfl)))
 ·by_cases w1:w=1
  ·subst w1
   have e1:cN b1 (minI (k:Int) (b1.length:Int))=some (b1.take (min k b1.length)):=by rw [mini];exact cB b1 rfl (by omega)
   have e2:dh b1 (minI (k:Int) (b1.length:Int))=some (b1.drop (min k b1.length)):=by rw [mini];exact cT b1 rfl (by omega)
   refine ⟨((b1.take (min k b1.length)).length:Int),0,⟨p0,t0,l0,p1,t1,gt .i64 (l1+((b1.take (min k b1.length)).length:Int)),s,b0,b1.drop (min k b1.length)⟩, ?_, ?_,k0,by show (b1.drop _).length≤_;rw [uQ];omega⟩
   ·unfold az
    refine (bnd (v:=true) rfl).trans ((bvn rfl).trans ((bnd (v:=true) rfl).trans ((bnd (v:=false) ((bvn rfl).trans (by rw [hnn]))).trans ((bvn rfl).trans ((bneg (by omega)).trans ((bpos rfl).trans ?_))))))
    exact (bnd e1).trans ((rpos (by rw [uP];omega) (by omega)).trans ((bnd e2).trans ((bneg (by omega)).trans ((bpos rfl).trans ((bneg (by omega)).trans ((bpos rfl).trans rfl))))))
   ·unfold bu
    refine (bnd way1).trans ((bnd (v:=false) ((bvn rfl).trans (by rw [hnn]))).trans ((bvn rfl).trans ((bnd (cut1 p0 t0 l0 p1 t1 l1 s b0 b1 k k1)).trans ?_)))
    exact (bpos in1).trans ((bnd (v:=((b1.drop (min k b1.length),(p1,(t1,l1))):Wy)) rfl).trans ((bpos in1).trans ((bnd (v:=((b1.drop (min k b1.length),(p1,(t1,l1))):Wy)) rfl).trans rfl)))
  ·exact bad (b:=true) rfl (fun h=>by rcases h with h | h <;> contradiction)
theorem g8 (h:Arr Int 32)(K:Kx)(hk:okK K)(w n:Int):
  ∃ (c:List Int) (e:Int) (K':Kx),ah 200000 w n true h K.p0 K.t0 K.l0 K.p1 K.t1 K.l1 K.s K.b0 K.b1=some ((c,(e,())),kd h K')∧aM 200000 (rc K) w n=some (rc K',(c,e))∧okK K'∧c.length≤65536:=by
 obtain ⟨p0,t0,l0,p1,t1,l1,s,b0,b1⟩:=K
 obtain ⟨k0,k1⟩:=hk
 simp only at k0 k1
 have bad:∀ {b:Bool},b=true→(w=0∨w=1→n<0)→∃ (c:List Int) (e:Int) (K':Kx),ah 200000 w n true h p0 t0 l0 p1 t1 l1 s b0 b1=some ((c,(e,())),kd h K')∧aM 200000 (rc ⟨p0,t0,l0,p1,t1,l1,s,b0,b1⟩) w n=some (rc K',(c,e))∧okK K'∧c.length≤65536:=fun _ hw=>by
  refine ⟨[],1,⟨p0,t0,l0,p1,t1,l1,s,b0,b1⟩, ?_, ?_,⟨k0,k1⟩,Nat.zero_le _⟩
  ·unfold ah
   refine (bnd (v:=true) rfl).trans ((bvn rfl).trans ?_)
   by_cases h01:w=0∨w=1
   ·refine (bnd (v:=true) (by rcases h01 with rfl | rfl <;> rfl)).trans ?_
    exact (bnd (v:=true) ((bvn rfl).trans (by rw [decide_eq_true (hw h01)];rfl))).trans ((bvp rfl).trans rfl)
   ·exact (bnd (mayN (fun e=>h01 (.inl e)) (fun e=>h01 (.inr e)))).trans ((bnd (v:=true) (bvp rfl)).trans ((bvp rfl).trans rfl))
  ·unfold aM
   by_cases h01:w=0∨w=1
   ·refine (bnd (v:=true) (by rcases h01 with rfl | rfl <;> rfl)).trans ?_
    exact (bnd (v:=true) ((bvn rfl).trans (by rw [decide_eq_true (hw h01)];rfl))).trans ((bvp rfl).trans rfl)
   ·exact (bnd (wayN (fun e=>h01 (.inl e)) (fun e=>h01 (.inr e)))).trans ((bnd (v:=true) (bvp rfl)).trans ((bvp rfl).trans rfl))
 by_cases hn:n<0
 ·exact bad (b:=true) rfl (fun _=>hn)
 obtain ⟨k,rfl⟩:∃ k:Nat,n=(k:Int):=⟨n.toNat,by omega⟩
 have hnn:(cond false true (decide ((k:Int)<0)))=false:=by rw [decide_eq_false hn];rfl
 by_cases w0:w=0
 ·subst w0
  have e1:cN b0 (minI (k:Int) (b0.length:Int))=some (b0.take (min k b0.length)):=by rw [mini];exact cB b0 rfl (by omega)
  have e2:dh b0 (minI (k:Int) (b0.length:Int))=some (b0.drop (min k b0.length)):=by rw [mini];exact cT b0 rfl (by omega)
  refine ⟨b0.take (min k b0.length),0,⟨p0,gt .i64 (t0+((b0.take (min k b0.length)).length:Int)),l0,p1,t1,l1,s,b0.drop (min k b0.length),b1⟩, ?_, ?_,⟨by show (b0.drop _).length≤_;rw [uQ];omega,k1⟩,by rw [uP];omega⟩
  ·unfold ah
   refine (bnd (v:=true) rfl).trans ((bvn rfl).trans ((bnd (v:=true) rfl).trans ((bnd (v:=false) ((bvn rfl).trans (by rw [hnn]))).trans ((bvn rfl).trans ((bpos rfl).trans ?_)))))
   refine (bnd e1).trans ((rpos (by rw [uP];omega) (by omega)).trans ((bnd e2).trans ((bpos rfl).trans ((bpos rfl).trans rfl))))
  ·unfold aM
   refine (bnd way0).trans ((bnd (v:=false) ((bvn rfl).trans (by rw [hnn]))).trans ((bvn rfl).trans ((bnd (cut0 p0 t0 l0 p1 t1 l1 s b0 b1 k k0)).trans ?_)))
   exact (bpos in0).trans ((bnd (v:=((b0.drop (min k b0.length),(p0,(t0,l0))):Wy)) rfl).trans ((bpos in0).trans ((bnd (v:=((b0.drop (min k b0.length),(p0,(t0,l0))):Wy)) rfl).trans rfl)))
 ·by_cases w1:w=1
  ·subst w1
   have e1:cN b1 (minI (k:Int) (b1.length:Int))=some (b1.take (min k b1.length)):=by rw [mini];exact cB b1 rfl (by omega)
   have e2:dh b1 (minI (k:Int) (b1.length:Int))=some (b1.drop (min k b1.length)):=by rw [mini];exact cT b1 rfl (by omega)
   refine ⟨b1.take (min k b1.length),0,⟨p0,t0,l0,p1,gt .i64 (t1+((b1.take (min k b1.length)).length:Int)),l1,s,b0,b1.drop (min k b1.length)⟩, ?_, ?_,⟨k0,by show (b1.drop _).length≤_;rw [uQ];omega⟩,by rw [uP];omega⟩
   ·unfold ah
    refine (bnd (v:=true) rfl).trans ((bvn rfl).trans ((bnd (v:=true) rfl).trans ((bnd (v:=false) ((bvn rfl).trans (by rw [hnn]))).trans ((bvn rfl).trans ((bneg (by omega)).trans ((bpos rfl).trans ?_))))))
    exact (bnd e1).trans ((rpos (by rw [uP];omega) (by omega)).trans ((bnd e2).trans ((bneg (by omega)).trans ((bpos rfl).trans ((bneg (by omega)).trans ((bpos rfl).trans rfl))))))
   ·unfold aM
    refine (bnd way1).trans ((bnd (v:=false) ((bvn rfl).trans (by rw [hnn]))).trans ((bvn rfl).trans ((bnd (cut1 p0 t0 l0 p1 t1 l1 s b0 b1 k k1)).trans ?_)))
    exact (bpos in1).trans ((bnd (v:=((b1.drop (min k b1.length),(p1,(t1,l1))):Wy)) rfl).trans ((bpos in1).trans ((bnd (v:=((b1.drop (min k b1.length),(p1,(t1,l1))):Wy)) rfl).trans rfl)))
  ·exact bad (b:=true) rfl (fun h=>by rcases h with h | h <;> contradiction)
theorem g9 (h:Arr Int 32)(K:Kx):aL 200000 true h K.p0 K.t0 K.l0 K.p1 K.t1 K.l1 K.s K.b0 K.b1=some ((),kd h { K with s:=true }):=by
 unfold aL
 exact (bnd (v:=true) rfl).trans ((bvp rfl).trans rfl)
end Go.Proofs.Ytmndainldhmnjaa
