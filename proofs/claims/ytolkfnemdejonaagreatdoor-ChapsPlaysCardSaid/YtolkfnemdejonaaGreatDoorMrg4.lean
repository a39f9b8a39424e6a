/-
  Parts of my own, one behind the other: KC, QBase, KOpen, KRead, KLaid, QBase2, QOctsD, QOcts, QCD0, KD, Dec.
-/
import Derived.Test.YtolkfnemdejonaaGreatDoorMrg3
import Derived.ProofKit
import Derived.OpenShut
import Derived.ShutString
import Derived.ChangeOld
import Derived.LaidMore
import Derived.MakeChecks
import Derived.SevenTiedAt
import Derived.Stop.LaidErr
import Derived.Lib.DecodeN
open Go.IntKind renaming wrap→gt, u64→Da, bits→Dj, wrap_u8→Dq
open Bool renaming and_eq_true→ne
open Unit renaming unit→C5
open List renaming eq_nil_of_length_eq_zero→C6, dropLast_concat_getLast→C7, length→Db, take_append_drop→Df, length_drop→Dh, drop_eq_getElem_cons→Do
open BitVec renaming ofInt→C8
open Int renaming toNat→C9, toNat_natCast→Dm, fdiv_eq_ediv_of_nonneg→Dn
open Nat renaming mul_comm→Dc, mod_eq_of_lt→Di
open Option renaming bind_some→Dd, bind→Dg
open Go.Proofs.Tryz renaming prog→Dk
open Go.Extern.BytealgIndexByte renaming indexByte→Ds
namespace Go.Proofs.YtolkfnemdejonaaGreatDoor
set_option maxRecDepth 100000
open Go.RowKit
set_option linter.unusedVariables false
set_option linter.unusedSimpArgs false
def gl {C O:Type}(G:(C→Option O)→C→Option O):Nat→C→Option O
 | 0,_=>none
 | n+1,c=>G (gl G n) c
@[reducible] def OT:List (Exit×Shape)→Type
 | []=>Empty
 | [e]=>CT e.2
 | e::e2::es=>CT e.2 ⊕ OT (e2::es)
def encO (n:Nat):(es:List (Exit×Shape))→OT es→Exit×S2
 | [],o=>nomatch o
 | [e],o=>(e.1,stOf e.2 n o)
 | e::e2::es,o=>match o with
  | .inl c=>(e.1,stOf e.2 n c)
  | .inr o=>encO n (e2::es) o
def abq:Exit→Exit→Bool
 | .normal,.normal=>true
 | .ret,.ret=>true
 | .exit i,.exit j=>i==j
 | _,_=>false
theorem BN {x y:Exit}(h:abq x y=true):x=y:=by
 unfold abq at h
 split at h
 ·rfl
 ·rfl
 ·simp only [beq_iff_eq] at h;rw [h]
 ·cases h
section
variable {R:Type}
def afR (n:Nat):(es:List (Exit×Shape))→OT es→(Exit→S2→Tree R)→Tree R
 | [],_,_=>.fail
 | [e],o,k=>k e.1 (stOf e.2 n o)
 | e::e2::es,o,k=>.cases o (fun c=>k e.1 (stOf e.2 n c)) (fun o=>afR n (e2::es) o k)
theorem xZ (n:Nat):∀ (es:List (Exit×Shape)) (o:OT es) (k:Exit→S2→Tree R),(afR n es o k).run=(k (encO n es o).1 (encO n es o).2).run
 | [],o,_=>nomatch o
 | [e],o,k=>rfl
 | e::e2::es,.inl c,k=>rfl
 | e::e2::es,.inr o,k=>xZ n (e2::es) o k
def decO (P:Program)(m0 n:Nat)(ow:List (Nat×TypeId)):(es:List (Exit×Shape))→Exit→S2→(OT es→Tree R)→Tree R
 | [],_,_,_=>.fail
 | [e],x,st,k=>if abq x e.1=true then qL P m0 ow e.2 n st k else .fail
 | e::e2::es,x,st,k=>if abq x e.1=true then qL P m0 ow e.2 n st fun c=>k (.inl c) else decO P m0 n ow (e2::es) x st fun o=>k (.inr o)
theorem afM {P:Program}{m0 n:Nat}{ow:List (Nat×TypeId)}:∀ (es:List (Exit×Shape)) (x:Exit) (st:S2) (k:OT es→Tree R) (res:R),(decO P m0 n ow es x st k).run=some res→
  ∃ o,(k o).run=some res∧x=(encO n es o).1∧∀ (n0:Nat) (Bx:List Nat) (ds:List Deferred) (a:Act) (w:World) (B:List Nat) (η:List Value),SimK n0 Bx ds st a w B η→∃ B' η',SimK n0 Bx ds (encO n es o).2 a w B' η'∧Goes n0 Bx m0 w B η w B' η'
 | [],x,st,k,res,h=>by cases h
 | [e],x,st,k,res,h=>by
  unfold decO at h
  split at h
  ·rename_i he
   obtain ⟨c,h1,h2⟩:=pY h
   exact ⟨c,h1,BN he,h2⟩
  ·cases h
 | e::e2::es,x,st,k,res,h=>by
  unfold decO at h
  split at h
  ·rename_i he
   obtain ⟨c,h1,h2⟩:=pY h
   exact ⟨.inl c,h1,BN he,h2⟩
  ·obtain ⟨o,h1,h2,h3⟩:=afM (e2::es) x st _ res h
   exact ⟨.inr o,h1,h2,h3⟩
structure LI where
 n:Nat
 m0:Nat
 ow:List (Nat×TypeId)
 sh:Shape
 outs:List (Exit×Shape)
def aq (P:Program)(Γ:(R:Type)→Env R)(fuel:Nat)(path:List Nat)(li:LI)(body:Code)(X:CT li.sh→Option (OT li.outs))(c:CT li.sh):Tree (OT li.outs):=
 evK P (Γ (OT li.outs)) fuel path li.m0 body (stOf li.sh li.n c) fun ex st'=>match ex with
  | .normal=>qL P li.m0 li.ow li.sh li.n st' fun c'=>.tail (X c')
  | ex=>decO P li.m0 li.n li.ow li.outs ex st' fun o=>.done o
def lpK (P:Program)(li:LI)(G:(CT li.sh→Option (OT li.outs))→CT li.sh→Option (OT li.outs))(N:Nat)(st:S2)(k:Exit→S2→Tree R):Tree R:=
 qL P li.m0 li.ow li.sh li.n st fun c=>.bind (gl G N c) fun o=>afR li.n li.outs o k
def alG (P:Program)(m0:Nat)(body:Code)(lp:S2→(Exit→S2→Tree R)→Tree R):Prop:=
 ∀ st k res,(lp st k).run=some res→∃ ex st',(k ex st').run=some res∧Ends P m0 (.loop body) st ex st'
end
section
variable {P:Program} {Γ:(R:Type)→Env R}
theorem afl (hm:P.follows .mixedOrders=true){li:LI}{G:(CT li.sh→Option (OT li.outs))→CT li.sh→Option (OT li.outs)}{fuel:Nat}{path:List Nat}{body:Code}
  (hΓ:EnvOK P (Γ (OT li.outs))) (hok:okC2 (Γ (OT li.outs)).inl body=true) (hsub:∀ c'∈bm body,c'∈fN P path)
  (hstep:∀ X c,(aq P Γ fuel path li body X c).run=G X c):∀ (N:Nat) (c:CT li.sh) (o:OT li.outs),gl G N c=some o→
  ∀ (n0:Nat) (Bx:List Nat) (ds:List Deferred) (a:Act) (w:World) (B:List Nat) (η:List Value) (Q:Exit→Act→World→Prop),SimK n0 Bx ds (stOf li.sh li.n c) a w B η→
   (∀ a' w' B' η',SimK n0 Bx ds (encO li.n li.outs o).2 a' w' B' η'→Goes n0 Bx li.m0 w B η w' B' η'→Q (encO li.n li.outs o).1 a' w')→Code.rounds P body Q N a w
 | 0,c,o,h=>by cases h
 | N+1,c,o,h=>by
  intro n0 Bx ds a w B η Q hs hQ
  have h1:G (gl G N) c=some o:=h
  rw [←hstep] at h1
  obtain ⟨ex,st',h2,h3⟩:=afF hm hΓ fuel path li.m0 body _ _ o hok hsub h1
  rw [rounds_succ]
  split at h2
  ·obtain ⟨c',h4,h5⟩:=pY h2
   refine h3 n0 Bx ds a w B η _ hs fun a' w' B' η' hs' hg'=> ?_
   obtain ⟨B2,η2,hs2,hg2⟩:=h5 n0 Bx ds a' w' B' η' hs'
   exact afl hm hΓ hok hsub hstep N c' o h4 n0 Bx ds a' w' B2 η2 Q hs2 fun a3 w3 B3 η3 hs3 hg3=>hQ a3 w3 B3 η3 hs3 ((hg'.trans hg2).trans hg3)
  ·rename_i hne
   obtain ⟨o',h4,h5,h6⟩:=afM _ _ _ _ _ h2
   simp only [Tree.run,Option.some.injEq] at h4
   subst h4
   refine h3 n0 Bx ds a w B η _ hs fun a' w' B' η' hs' hg'=> ?_
   obtain ⟨B2,η2,hs2,hg2⟩:=h6 n0 Bx ds a' w' B' η' hs'
   rw [Ci (fun hc=>hne hc),h5]
   exact hQ a' w' B2 η2 hs2 (hg'.trans hg2)
theorem aw {R:Type}(hm:P.follows .mixedOrders=true){li:LI}{G:(CT li.sh→Option (OT li.outs))→CT li.sh→Option (OT li.outs)}{fuel:Nat}{path:List Nat}{body:Code}
  (hΓ:EnvOK P (Γ (OT li.outs))) (hok:okC2 (Γ (OT li.outs)).inl body=true) (hsub:∀ c'∈bm body,c'∈fN P path)
  (hstep:∀ X c,(aq P Γ fuel path li body X c).run=G X c) (N:Nat):alG (R:=R) P li.m0 body (lpK P li G N):=by
 intro st k res h
 obtain ⟨c,h1,h2⟩:=pY h
 obtain ⟨o,h3,h4⟩:=Tree.run_bind h1
 rw [xZ] at h4
 refine ⟨_,_,h4,fun n0 Bx ds a w B η Q hs hQ=> ?_⟩
 obtain ⟨B1,η1,hs1,hg1⟩:=h2 n0 Bx ds a w B η hs
 exact wp_loop_rounds N (afl hm hΓ hok hsub hstep N c o h3 n0 Bx ds a w B1 η1 Q hs1 fun a' w' B' η' hs' hg'=>hQ a' w' B' η' hs' (hg1.trans hg'))
def Env.addLp (Γ:(R:Type)→Env R)(path:List Nat)(m0 key:Nat)(lp:(R:Type)→S2→(Exit→S2→Tree R)→Tree R):(R:Type)→Env R:=fun R=>
 { Γ R with lp:=fun p m k st kk=>if p=path∧m=m0∧k=key then lp R st kk else (Γ R).lp p m k st kk }
def ao (P:Program)(path:List Nat)(key:Nat):Code:=match (fN P path).filter (fun c=>oW c==key) with
 | [c]=>c
 | _=>.skip
def CP (P:Program)(path:List Nat)(key:Nat):Bool:=match (fN P path).filter (fun c=>oW c==key) with
 | [_]=>true
 | _=>false
theorem aeZ {path:List Nat}{key:Nat}(h:CP P path key=true){c:Code}(hc:c∈fN P path)(hk:oW c=key):c=ao P path key:=by
 unfold CP at h
 unfold ao
 have hm:c∈(fN P path).filter (fun c=>oW c==key):=List.mem_filter.2 ⟨hc,by simp [hk]⟩
 split at h
 ·rename_i c0 he
  rw [he] at hm
  simp only [List.mem_singleton] at hm
  rw [hm]
 ·cases h
theorem EnvOK.addLp {R:Type}(hΓ:EnvOK P (Γ R)){path:List Nat}{m0 key:Nat}{lp:(R:Type)→S2→(Exit→S2→Tree R)→Tree R}(h1:CP P path key=true)(h2:alG P m0 (ao P path key) (lp R)):EnvOK P (Env.addLp Γ path m0 key lp R):=by
 refine ⟨hΓ.fns,hΓ.inl,fun p m c st k res hc h=> ?_,hΓ.cln,hΓ.mth⟩
 simp only [Env.addLp] at h
 split at h
 ·rename_i hp
  obtain ⟨rfl,rfl,hk⟩:=hp
  rw [aeZ h1 hc hk]
  exact h2 st k res h
 ·exact hΓ.lp p m c st k res hc h
def Env.addFn (Γ:(R:Type)→Env R)(f:FuncId)(S:(R:Type)→List V→(V→Tree R)→Tree R):(R:Type)→Env R:=fun R=>
 { Γ R with fns:=fun g args k=>if g=f then S R args k else (Γ R).fns g args k }
def Env.addInl (Γ:(R:Type)→Env R)(l:List FuncId):(R:Type)→Env R:=fun R=>{ Γ R with inl:=fun f=>l.contains f }
def Env.addMv (Γ:(R:Type)→Env R)(l:List (Nat×Nat)):(R:Type)→Env R:=fun R=>{ Γ R with mv:=fun p i=>(l.contains (p.headD 0,i)||((Γ R).mv p i).1,((Γ R).mv p i).2) }
def Env.addBx (Γ:(R:Type)→Env R)(l:List (Nat×Nat)):(R:Type)→Env R:=fun R=>{ Γ R with mv:=fun p i=>(((Γ R).mv p i).1,l.contains (p.headD 0,i)||((Γ R).mv p i).2) }
def arI (path:List Nat)(m0 key:Nat)(st:S2):Option Unit:=none
def noFn (f:FuncId)(args:List V):Option Unit:=none
def env0:(R:Type)→Env R:=fun R=>⟨fun f args _=>.bind (noFn f args) fun _=>.fail,fun _=>false,fun p m k st _=>.bind (arI p m k st) fun _=>.fail,fun _ _=>(false,false),fun _=>none,fun _=>false,fun _ _=>false,fun _=>none⟩
theorem iO:∀ (d c c':Code),c∈bm d→c'∈bm c→c'∈bm d
 | .seq a b,c,c',h,h'=>by
  simp only [bm,List.mem_append] at h ⊢
  exact h.elim (fun h=>.inl (iO a c c' h h')) (fun h=>.inr (iO b c c' h h'))
 | .cond x a b,c,c',h,h'=>by
  simp only [bm,List.mem_append] at h ⊢
  exact h.elim (fun h=>.inl (iO a c c' h h')) (fun h=>.inr (iO b c c' h h'))
 | .block i a,c,c',h,h'=>by
  simp only [bm] at h ⊢
  exact iO a c c' h h'
 | .scope a,c,c',h,h'=>by
  simp only [bm] at h ⊢
  exact iO a c c' h h'
 | .loop a,c,c',h,h'=>by
  simp only [bm,List.mem_cons] at h ⊢
  rcases h with rfl | h
  ·exact .inr h'
  ·exact .inr (iO a c c' h h')
 | .skip,c,c',h,h'=>by simp [bm] at h
 | .region _ _ _,c,c',h,h'=>by simp [bm] at h
 | .rangeFunc _ _ _ _,c,c',h,h'=>by simp [bm] at h
 | .exit _,c,c',h,h'=>by simp [bm] at h
 | .label _,c,c',h,h'=>by simp [bm] at h
 | .goto _,c,c',h,h'=>by simp [bm] at h
 | .ret,c,c',h,h'=>by simp [bm] at h
 | .refuse _,c,c',h,h'=>by simp [bm] at h
theorem ab {path:List Nat}{key:Nat}:∀ c'∈bm (ao P path key),c'∈fN P path:=by
 intro c' hc'
 unfold ao at hc'
 split at hc'
 ·rename_i c hc
  have hm:c∈fN P path:=(List.mem_filter.1 (by rw [hc];simp:c∈(fN P path).filter fun c=>oW c==key)).1
  unfold fN at hm ⊢
  split at hm
  ·split at hm
   ·split at hm
    ·exact iO _ c c' hm hc'
    ·simp at hm
   ·simp at hm
  ·simp at hm
 ·simp [bm] at hc'
theorem amS (R:Type):EnvOK P (env0 R) where
 fns:=⟨fun f args k res h=>nomatch h⟩
 inl:=fun f h=>nomatch h
 lp:=fun path m0 c st k res _ h=>nomatch h
 cln:=fun f e h=>nomatch h
 mth:=fun f c h=>nomatch h
theorem EnvOK.addMv {R:Type}(hΓ:EnvOK P (Γ R))(l:List (Nat×Nat)):EnvOK P (Env.addMv Γ l R):=⟨hΓ.fns,hΓ.inl,hΓ.lp,hΓ.cln,hΓ.mth⟩
theorem EnvOK.addBx {R:Type}(hΓ:EnvOK P (Γ R))(l:List (Nat×Nat)):EnvOK P (Env.addBx Γ l R):=⟨hΓ.fns,hΓ.inl,hΓ.lp,hΓ.cln,hΓ.mth⟩
def atW (P:Program)(l:List FuncId):Bool:=l.all fun f=>match P.funcs[f]? with
 | some fn=>(match fn.body with | some c=>okC2 (fun f=>l.contains f) c&&fn.name != "runtime.NumGoroutine" | none=>false)
 | none=>false
theorem EnvOK.addInl {R:Type}(hΓ:EnvOK P (Γ R)){l:List FuncId}(h:atW P l=true):EnvOK P (Env.addInl Γ l R):=by
 refine ⟨hΓ.fns,fun f hf=> ?_,hΓ.lp,hΓ.cln,hΓ.mth⟩
 have:=List.all_eq_true.1 h f (by simpa [Env.addInl] using hf)
 split at this
 ·rename_i fn hfn
  split at this
  ·rename_i c hc
   simp only [ne,bne_iff_ne] at this
   exact ⟨fn,c,hfn,hc,this.1,this.2⟩
  ·cases this
 ·cases this
@[reducible] def RT:List Td→Type
 | []=>Unit
 | [d]=>T d
 | d::e::l=>T d×RT (e::l)
def valR:(l:List Td)→RT l→List V
 | [],_=>[]
 | [d],x=>[valV d x]
 | d::e::l,x=>valV d x.1::valR (e::l) x.2
def tupV (l:List V):V:=match l with
 | []=>.c (.tuple #[])
 | [x]=>x
 | l=>.tup l
def valA:(l:List Td)→HL l→List V
 | [],_=>[]
 | d::l,c=>valV d c.1::valA l c.2
section
variable {R:Type}
def decA:(l:List Td)→List V→(HL l→Tree R)→Tree R
 | [],xs,k=>(match xs with | []=>k () | _=>.fail)
 | d::l,xs,k=>(match xs with
  | x::xs=>decV d x fun y=>decA l xs fun z=>k (y,z)
  | []=>.fail)
def adA:(l:List Td)→List V→(RT l→Tree R)→Tree R
 | [],xs,k=>(match xs with | []=>k () | _=>.fail)
 | [d],xs,k=>(match xs with | [x]=>decV d x k | _=>.fail)
 | d::e::l,xs,k=>(match xs with
  | x::xs=>decV d x fun y=>adA (e::l) xs fun z=>k (y,z)
  | []=>.fail)
def decR (l:List Td)(r:V)(k:RT l→Tree R):Tree R:=
 match l with
 | []=>(match r with | .c (.tuple _)=>k () | _=>.fail)
 | [d]=>decV d r k
 | d::e::l=>(match r with | .tup xs=>adA (d::e::l) xs k | _=>.fail)
def afn (st:S2):S2:=jx (List.range st.heap.length) st
def runV (P:Program)(Γ:(R:Type)→Env R)(fuel:Nat)(f:FuncId)(xs:List V)(rs:List Td):Tree (RT rs):=
 match P.funcs[f]? with
 | some fn=>(match fn.body with
  | some b=>evK P (Γ (RT rs)) fuel [f] 0 b ⟨uG fn xs,[]⟩ fun ex st'=>match ex with
   | .normal=>resK P (afn st') fn.results.toList fun r=>decR rs r fun y=>.done y
   | .ret=>resK P (afn st') fn.results.toList fun r=>decR rs r fun y=>.done y
   | _=>.fail
  | none=>.fail)
 | none=>.fail
def runK (P:Program)(Γ:(R:Type)→Env R)(fuel:Nat)(f:FuncId)(ds rs:List Td)(c:HL ds):Tree (RT rs):=runV P Γ fuel f (valA ds c) rs
def fnK (ds rs:List Td)(g:HL ds→Option (RT rs))(args:List V)(k:V→Tree R):Tree R:=decA ds args fun c=>.bind (g c) fun y=>k (tupV (valR rs y))
theorem zQ:∀ (l:List Td) (xs:List V) (k:HL l→Tree R) (res:R),(decA l xs k).run=some res→∃ c,(k c).run=some res∧xs.length=(valA l c).length∧∀ (i:Nat) y,(valA l c)[i]? =some y→∃ x,xs[i]? =some x∧y.plain=true∧fo (ex y)=false∧∀ (w:World) (B:List Nat) (η:List Value) (v:Value),Rel w B η (ex x) v→Rel w B η (ex y) v
 | [],xs,k,res,h=>by
  unfold decA at h
  split at h
  ·exact ⟨(),h,rfl,fun i y h=>by simp [valA] at h⟩
  ·cases h
 | d::l,xs,k,res,h=>by
  unfold decA at h
  split at h
  ·rename_i x xs
   obtain ⟨y,h1,h2,h3⟩:=vU h
   obtain ⟨c,h4,h5,h6⟩:=zQ l xs _ res h1
   refine ⟨(y,c),h4,by simp [valA,h5],fun i z hz=> ?_⟩
   cases i with
   | zero=>simp [valA] at hz;subst hz;exact ⟨x,rfl,pV d y,pW d y,h3⟩
   | succ i=>simpa using h6 i z (by simpa [valA] using hz)
  ·cases h
theorem abw {R:Type}{d:Td}{x:V}{k:T d→Tree R}{res:R}(h:(decV d x k).run=some res):ex0 x=ex x:=by
 cases x with
 | tup l=>
  unfold decV at h
  split at h
  ·simp only [ma] at h;cases h
  ·cases h
 | _=>rfl
theorem abx:∀ (l:List Td) (xs:List V) (k:RT l→Tree R) (res:R),(adA l xs k).run=some res→∃ c,(k c).run=some res∧xs.length=l.length∧xs.length=(valR l c).length∧∀ (i:Nat) y,(valR l c)[i]? =some y→∃ x,xs[i]? =some x∧ex0 x=ex x∧∀ (w:World) (B:List Nat) (η:List Value) (v:Value),Rel w B η (ex x) v→Rel w B η (ex y) v
 | [],xs,k,res,h=>by
  unfold adA at h
  split at h
  ·exact ⟨(),h,rfl,rfl,fun i y h=>by simp [valR] at h⟩
  ·cases h
 | [d],xs,k,res,h=>by
  unfold adA at h
  split at h
  ·rename_i x
   obtain ⟨y,h1,h2,h3⟩:=vU h
   refine ⟨y,h1,rfl,rfl,fun i z hz=> ?_⟩
   cases i with
   | zero=>simp [valR] at hz;subst hz;exact ⟨x,rfl,abw h,h3⟩
   | succ i=>simp [valR] at hz
  ·cases h
 | d::e::l,xs,k,res,h=>by
  unfold adA at h
  split at h
  ·rename_i x xs
   obtain ⟨y,h1,h2,h3⟩:=vU h
   obtain ⟨c,h4,h5,h6,h7⟩:=abx (e::l) xs _ res h1
   refine ⟨(y,c),h4,by simp [h5],by simp [valR,h6],fun i z hz=> ?_⟩
   cases i with
   | zero=>simp [valR] at hz;subst hz;exact ⟨x,rfl,abw h,h3⟩
   | succ i=>simpa using h7 i z (by simpa [valR] using hz)
  ·cases h
end
theorem Aj {w:World}{B B':List Nat}{η η':List Value}{d:Td}{x:T d}{v:Value}(hB:∀ b∈B',b∈B)(h:Rel w B η (ex (valV d x)) v):Rel w B' η' (ex (valV d x)) v:=by
 refine Rel.bare (yG hB h) ?_
 cases hd:rowD d with
 | true=>rw [yj d x hd];exact nr d x
 | false=>
  have:=nr d x
  rw [yk d x hd] at this
  simp only [List.all_cons,List.all_nil,Bool.and_true] at this
  generalize ex (valV d x)=y at this
  cases y <;> first | exact this | cases this
theorem ahV (d:Td)(x:T d):ex0 (valV d x)=ex (valV d x):=by cases d <;> rfl
theorem Ak:∀ (l:List Td) (c:RT l) (i:Nat) y,(valR l c)[i]? =some y→∃ d x,y=valV d x
 | [],c,i,y,h=>by simp [valR] at h
 | [d],c,i,y,h=>by
  cases i with
  | zero=>simp [valR] at h;exact ⟨d,c,h.symm⟩
  | succ i=>simp [valR] at h
 | d::e::l,c,i,y,h=>by
  cases i with
  | zero=>simp [valR] at h;exact ⟨d,c.1,h.symm⟩
  | succ i=>exact Ak (e::l) c.2 i y (by simpa [valR] using h)
theorem amW {R:Type}:∀ (l:List Td) {r:V} {k:RT l→Tree R} {res:R} (h:(decR l r k).run=some res),∃ y,(k y).run=some res∧r.plain=true∧∀ (w:World) (B B':List Nat) (η η':List Value) (v:Value),(∀ b∈B',b∈B)→Rel w B η (ex r) v→(l=[]→v= .tuple #[])→Rel w B' η' (ex (tupV (valR l y))) v
 | [],r,k,res,h=>by
  simp only [decR] at h
  split at h
  ·exact ⟨(),h,rfl,fun w B B' η η' v hB hv h0=>by rw [h0 rfl];exact .c _ _⟩
  ·cases h
 | [d],r,k,res,h=>by
  obtain ⟨y,h1,h2,h3⟩:=vU h
  exact ⟨y,h1,h2,fun w B B' η η' v hB hv _=>Aj hB (h3 w B η v hv)⟩
 | d::e::l,r,k,res,h=>by
  simp only [decR] at h
  split at h
  ·rename_i xs
   obtain ⟨y,h1,h2,h3,h4⟩:=abx _ _ _ _ h
   refine ⟨y,h1,rfl,fun w B B' η η' v hB hv _=> ?_⟩
   have hlen:(valR (d::e::l) y).length=(d::e::l).length:=by rw [←h3,h2]
   have htv:tupV (valR (d::e::l) y)= .tup (valR (d::e::l) y):=by
    match hq:valR (d::e::l) y with
    | []=>rw [hq] at hlen;simp at hlen
    | [_]=>rw [hq] at hlen;simp at hlen
    | _::_::_=>rfl
   rw [htv]
   cases hv with
   | tup _ _ cs us hs hu hr=>
    refine .tup _ _ cs us (by rw [hs,List.length_map,List.length_map,h3]) (fun i x hx=> ?_) (fun i x hx=> ?_)
    ·rw [List.getElem?_map,Option.map_eq_some_iff] at hx
     obtain ⟨z,hz,rfl⟩:=hx
     obtain ⟨x0,q1,q2,q3⟩:=h4 i z hz
     exact hu i (ex0 x0) (by rw [List.getElem?_map,q1];rfl)
    ·rw [List.getElem?_map,Option.map_eq_some_iff] at hx
     obtain ⟨z,hz,rfl⟩:=hx
     obtain ⟨x0,q1,q2,q3⟩:=h4 i z hz
     obtain ⟨d',x',rfl⟩:=Ak _ _ _ _ hz
     have h0:=hr i (ex0 x0) (by rw [List.getElem?_map,q1];rfl)
     rw [q2] at h0
     rw [ahV]
     exact Aj hB (q3 w B η _ h0)
  ·cases h
theorem adW:∀ (l:List Td) (c:HL l) (i:Nat) x,(valA l c)[i]? =some x→x.plain=true∧fo (ex x)=false:=fun l=>by
 induction l with
 | nil=>intro c i x hx;simp [valA] at hx
 | cons d l ih=>
  intro c i x hx
  cases i with
  | zero=>simp [valA] at hx;subst hx;exact ⟨pV d c.1,pW d c.1⟩
  | succ i=>exact ih c.2 i x (by simpa [valA] using hx)
theorem aet (hm:P.follows .mixedOrders=true){f:FuncId}{xs:List V}{rs:List Td}(hΓ:EnvOK P (Γ (RT rs))){fuel:Nat}(hf:∃ fn c,P.funcs[f]? =some fn∧fn.body=some c∧okC2 (Γ (RT rs)).inl c=true∧fn.name≠ "runtime.NumGoroutine" ∧(rs=[]→fn.results= #[])) (hxs:∀ (i:Nat) x,xs[i]? =some x→x.plain=true∧fo (ex x)=false) {y:RT rs} (h:(runV P Γ fuel f xs rs).run=some y):kR P f xs (tupV (valR rs y)):=by
 obtain ⟨fn,b,hfn,hb,hok,hnm,hres⟩:=hf
 unfold runV at h
 rw [hfn] at h
 simp only [hb] at h
 obtain ⟨ex1,st',h1,h2⟩:=afF hm hΓ fuel [f] 0 b _ _ y hok (fun c' hc'=>by simp only [fN,hfn,hb];exact hc') h
 intro w B cargs hB hgl hlen hrel
 refine calls_of_wp hfn hb ?_
 have hsim:SimK w.heap.size B [] ⟨uG fn xs,[]⟩ { tmps:=cargs.toArray++Array.replicate (fn.ntmps-cargs.toArray.size) undef,defers:=[] } w B []:=by
  refine ⟨rfl,⟨rfl,⟨Nat.le_refl _,hgl⟩,fun b hb=>hb,hB,fun id e h=>by simp at h,fun i j ei ej _ h=>by simp at h⟩,Av ⟨hlen,fun i x hx=> ?_⟩⟩
  obtain ⟨v,q1,q2⟩:=hrel i x hx
  obtain ⟨q3,q4⟩:=hxs i x hx
  exact ⟨v,q1,Rel2.of q3 q2,fun h=>by rw [q4] at h;cases h⟩
 refine h2 w.heap.size B [] _ w B [] _ hsim fun a' w' B' η' hs hg=> ?_
 obtain ⟨B2,hs2,hg2⟩:=fx (m0:=0) (List.range st'.heap.length) st' B' hs
 have key:∀ {r:V} {k:V→Tree (RT rs)},(decR rs r fun y=>.done y).run=some y→(∀ (n0:Nat) (Bx:List Nat) (ds:List Deferred) (a:Act) (w:World) (B:List Nat) (η:List Value),SimK n0 Bx ds (afn st') a w B η→∃ v,(results fn a.tmps).run P w= .ok v w∧Rel2 w B η r v∧aM n0 (ex r) v)→∃ v,(results fn a'.tmps).run P w'= .ok v w'∧Rel w' B [] (ex (tupV (valR rs y))) v:=by
  intro r k hr hv
  obtain ⟨y',q1,q2,q3⟩:=amW _ hr
  simp only [Tree.run,Option.some.injEq] at q1
  subst q1
  obtain ⟨v,g1,g2,_⟩:=hv _ _ _ a' w' B2 η' hs2
  have h0:rs=[]→v= .tuple #[]:=fun h=>by
   have:=hres h
   unfold results at g1
   rw [this] at g1
   simp at g1
   exact g1.symm
  have hB0:∀ b∈B,b∈B2:=fun b hb=>(hs2.inv.sub b hb)
  exact ⟨v,g1,q3 w' B2 B η' [] v hB0 (g2.get q2) h0⟩
 split at h1
 ·obtain ⟨r,q1,q2⟩:=yE h1
  obtain ⟨v,g1,g2⟩:=key (k:=fun _=>.fail) q1 q2
  exact ⟨hs.defers,v,g1,v,rfl,hg.below.below,g2⟩
 ·obtain ⟨r,q1,q2⟩:=yE h1
  obtain ⟨v,g1,g2⟩:=key (k:=fun _=>.fail) q1 q2
  exact ⟨hs.defers,v,g1,v,rfl,hg.below.below,g2⟩
 ·cases h1
theorem yz (hm:P.follows .mixedOrders=true){f:FuncId}{ds rs:List Td}(hΓ:EnvOK P (Γ (RT rs))){fuel:Nat}(hf:∃ fn c,P.funcs[f]? =some fn∧fn.body=some c∧okC2 (Γ (RT rs)).inl c=true∧fn.name≠ "runtime.NumGoroutine" ∧(rs=[]→fn.results= #[])) {c:HL ds} {y:RT rs} (h:(runK P Γ fuel f ds rs c).run=some y):kR P f (valA ds c) (tupV (valR rs y)):=by
 unfold runK at h
 exact aet hm hΓ hf (adW ds c) h
def okFn (P:Program)(inl:FuncId→Bool)(f:FuncId)(rs:List Td):Bool:=match P.funcs[f]? with
 | some fn=>(match fn.body with
  | some c=>okC2 inl c&&fn.name != "runtime.NumGoroutine" &&(!rs.isEmpty||fn.results.size==0)
  | none=>false)
 | none=>false
theorem pi {inl:FuncId→Bool}{f:FuncId}{rs:List Td}(h:okFn P inl f rs=true):∃ fn c,P.funcs[f]? =some fn∧fn.body=some c∧okC2 inl c=true∧fn.name≠ "runtime.NumGoroutine" ∧(rs=[]→fn.results= #[]):=by
 unfold okFn at h
 split at h
 ·rename_i fn hfn
  split at h
  ·rename_i c hc
   simp only [ne,bne_iff_ne,Bool.or_eq_true,Bool.not_eq_true',beq_iff_eq] at h
   refine ⟨fn,c,hfn,hc,h.1.1,h.1.2,fun hr=> ?_⟩
   subst hr
   rcases h.2 with h | h
   ·cases h
   ·exact Array.eq_empty_of_size_eq_zero h
  ·cases h
 ·cases h
theorem sv (l:List Td)(y:RT l):(tupV (valR l y)).plain=true∧∀ m k,ex (tupV (valR l y))≠.fresh m k:=by
 match l,y with
 | [],y=>exact ⟨rfl,fun m k h=>by simp [valR,tupV,ex,ex0] at h⟩
 | [d],y=>
  refine ⟨pV d y,fun m k h=> ?_⟩
  have:=pW d y
  rw [show ex (valV d y)= .fresh m k from h] at this
  cases this
 | d::e::l,y=>
  match l,y with
  | [],y=>exact ⟨rfl,fun m k h=>by simp [valR,tupV,ex] at h⟩
  | _::_,y=>exact ⟨rfl,fun m k h=>by simp [valR,tupV,ex] at h⟩
theorem EnvOK.addFn {R:Type}{Γ0:(R:Type)→Env R}(hm:P.follows .mixedOrders=true)(hΓ:EnvOK P (Γ R)){f:FuncId}{ds rs:List Td}{g:HL ds→Option (RT rs)}{fuel:Nat}(hΓ0:EnvOK P (Γ0 (RT rs)))(hok:okFn P (Γ0 (RT rs)).inl f rs=true)(h:∀ c,(runK P Γ0 fuel f ds rs c).run=g c):EnvOK P (Env.addFn Γ f (fun R=>fnK ds rs g) R):=by
 refine ⟨⟨fun f' args k res hc=> ?_⟩,hΓ.inl,hΓ.lp,hΓ.cln,hΓ.mth⟩
 simp only [Env.addFn] at hc
 split at hc
 ·rename_i hff
  subst hff
  obtain ⟨c,h1,h2,h3⟩:=zQ _ _ _ _ hc
  obtain ⟨y,h4,h5⟩:=Tree.run_bind h1
  obtain ⟨p1,p2⟩:=sv rs y
  obtain ⟨fn,b,hfn,hb,hokc,hnm,hres⟩:=pi hok
  refine ⟨_,h5,p1,p2,kR.toV (fun w B cargs hB hgl hlen hrel=> ?_) ⟨fn,hfn,hnm,by rw [hb];exact fun h=>by cases h⟩⟩
  refine yz hm hΓ0 (pi hok) (by rw [h];exact h4) w B cargs hB hgl (by rw [hlen,h2]) (fun i x hx=> ?_)
  obtain ⟨x0,q1,_,_,q4⟩:=h3 i x hx
  obtain ⟨v,q5,q6⟩:=hrel i x0 q1
  exact ⟨v,q5,q4 w B [] v q6⟩
 ·exact hΓ.fns.ok f' args k res hc
theorem EnvOK.addSelf {R:Type}(hΓ:EnvOK P (Γ R)){f:FuncId}{ds rs:List Td}{g:HL ds→Option (RT rs)}{inl:FuncId→Bool}(hok:okFn P inl f rs=true)(hX:∀ c y,g c=some y→kR P f (valA ds c) (tupV (valR rs y))):EnvOK P (Env.addFn Γ f (fun R=>fnK ds rs g) R):=by
 refine ⟨⟨fun f' args k res hc=> ?_⟩,hΓ.inl,hΓ.lp,hΓ.cln,hΓ.mth⟩
 simp only [Env.addFn] at hc
 split at hc
 ·rename_i hff
  subst hff
  obtain ⟨c,h1,h2,h3⟩:=zQ _ _ _ _ hc
  obtain ⟨y,h4,h5⟩:=Tree.run_bind h1
  obtain ⟨p1,p2⟩:=sv rs y
  obtain ⟨fn,b,hfn,hb,hokc,hnm,hres⟩:=pi hok
  refine ⟨_,h5,p1,p2,kR.toV (fun w B cargs hB hgl hlen hrel=> ?_) ⟨fn,hfn,hnm,by rw [hb];exact fun h=>by cases h⟩⟩
  refine hX c y h4 w B cargs hB hgl (by rw [hlen,h2]) (fun i x hx=> ?_)
  obtain ⟨x0,q1,_,_,q4⟩:=h3 i x hx
  obtain ⟨v,q5,q6⟩:=hrel i x0 q1
  exact ⟨v,q5,q4 w B [] v q6⟩
 ·exact hΓ.fns.ok f' args k res hc
theorem alk (hm:P.follows .mixedOrders=true){f:FuncId}{ds rs:List Td}{G:(HL ds→Option (RT rs))→HL ds→Option (RT rs)}{Γs:(HL ds→Option (RT rs))→(R:Type)→Env R}{fuel:Nat}
  (h1:∀ X,(∀ c y,X c=some y→kR P f (valA ds c) (tupV (valR rs y)))→EnvOK P (Γs X (RT rs))) (hok:∀ X,okFn P (Γs X (RT rs)).inl f rs=true) (h2:∀ X c,(runK P (Γs X) fuel f ds rs c).run=G X c):
  ∀ N c y,gl G N c=some y→kR P f (valA ds c) (tupV (valR rs y))
 | 0,c,y,h=>by cases h
 | N+1,c,y,h=>yz hm (h1 _ (alk hm h1 hok h2 N)) (pi (hok _)) (by rw [h2];exact h)
theorem EnvOK.addNil {R:Type}{Γ0:(R:Type)→Env R}(hm:P.follows .mixedOrders=true)(hΓ:EnvOK P (Γ R)){f:FuncId}{d:Td}{rs:List Td}{g:HL [.sl d]→Option (RT rs)}{e:RT rs}{fuel:Nat}(hΓ0:EnvOK P (Γ0 (RT rs)))(hok:okFn P (Γ0 (RT rs)).inl f rs=true)(h:∀ c,(runK P Γ0 fuel f [.sl d] rs c).run=g c)
  (h1:∀ c,(runV P Γ0 fuel f [.c (.slice none 0 c)] rs).run=some e) (h2:∀ A c,(runV P Γ0 fuel f [.c (.slice (some A) 0 c)] rs).run=some e):EnvOK P (Env.addFn Γ f (fun R=>fnK [.sl d] rs (fun c=>bif c.1.isEmpty then some e else g c)) R):=by
 refine ⟨⟨fun f' args k res hc=> ?_⟩,hΓ.inl,hΓ.lp,hΓ.cln,hΓ.mth⟩
 simp only [Env.addFn] at hc
 split at hc
 ·rename_i hff
  subst hff
  obtain ⟨c,q1,q2,q3⟩:=zQ _ _ _ _ hc
  obtain ⟨y,q4,q5⟩:=Tree.run_bind q1
  obtain ⟨p1,p2⟩:=sv rs y
  obtain ⟨fn,b,hfn,hb,hokc,hnm,hres⟩:=pi hok
  refine ⟨_,q5,p1,p2,kR.toV (fun w B cargs hB hgl hlen hrel=> ?_) ⟨fn,hfn,hnm,by rw [hb];exact fun h=>by cases h⟩⟩
  have hrel':∀ (i:Nat) x,(valA [.sl d] c)[i]? =some x→∃ v,cargs[i]? =some v∧Rel w B [] (ex x) v:=fun i x hx=>by
   obtain ⟨x0,r1,_,_,r4⟩:=q3 i x hx
   obtain ⟨v,r5,r6⟩:=hrel i x0 r1
   exact ⟨v,r5,r4 w B [] v r6⟩
  have hlen':cargs.length=1:=by rw [hlen,q2];rfl
  cases he:c.1.isEmpty with
  | false=>
   simp only [he,cond_false] at q4
   exact yz hm hΓ0 (pi hok) (by rw [h];exact q4) w B cargs hB hgl (by rw [hlen,q2]) hrel'
  | true=>
   simp only [he,cond_true,Option.some.injEq] at q4
   subst q4
   obtain ⟨v,r1,r2⟩:=hrel' 0 (.lst d c.1) rfl
   obtain ⟨A,n,cc,us,hv,_,hn,_,hm',_,_⟩:=Rel.slL r2
   have hl:c.1=[]:=List.isEmpty_iff.1 he
   rw [hl] at hn
   have hn0:n=0:=by
    have hk:=Rel.slL r2
    obtain ⟨_,_,_,_,_,hk,_⟩:=hk
    rcases Nat.eq_zero_or_pos n with h | h
    ·exact h
    ·have:=Nat.mul_pos h hk;simp [flat] at hn;omega
   subst hn0 hv
   have hca:cargs=[.slice A 0 cc]:=by
    match cargs,hlen',r1 with
    | [x],_,r1=>simp at r1;rw [r1]
   have go:(runV P Γ0 fuel f' [.c (.slice A 0 cc)] rs).run=some e→Calls P f' cargs.toArray w fun e1 w'=>∃ v,e1= .returned v∧Gr w w'∧Rel w' B [] (ex (tupV (valR rs e))) v:=fun hr=>by
    refine aet hm hΓ0 (pi hok) (fun i x hx=> ?_) hr w B cargs hB hgl (by rw [hlen'];rfl) (fun i x hx=> ?_)
    ·match i,hx with
     | 0,hx=>simp at hx;subst hx;exact ⟨rfl,rfl⟩
    ·match i,hx with
     | 0,hx=>simp at hx;subst hx;exact ⟨.slice A 0 cc,by rw [hca];rfl,.c _ _⟩
   cases A with
   | some A=>exact go (h2 A cc)
   | none=>exact go (h1 cc)
 ·exact hΓ.fns.ok f' args k res hc
end
theorem ac {x:Int}(h1: -9223372036854775808≤x)(h2:x<9223372036854775808):gt .i64 x=x:=by
 have:=IntKind.wrap_i64 x
 rw [this];omega
theorem Ae {x:Int}(h1:0≤x)(h2:x<256):gt .u8 x=x:=by
 rw [Dq];omega
theorem rP {α:Type}(l:List α)(i:Nat):getI l (i:Int)=l[i]? :=by unfold getI;rw [if_pos (Int.natCast_nonneg i),Dm]
theorem aS {α:Type}(l:List α)(i:Nat)(h:i<l.length):getI l (i:Int)=some l[i]:=by rw [rP,List.getElem?_eq_getElem h]
theorem aH {n b:Nat}(h1:n≤maxLen)(h2:n*b≤140737488355328):ae n b=true:=decide_eq_true ⟨h1,h2⟩
theorem aL:1000000000≤maxLen:=by simp [maxLen]
theorem ah {C O:Type}(G:(C→Option O)→C→Option O)(n:Nat)(c:C):gl G (n+1) c=G (gl G n) c:=rfl
theorem cu {C O:Type}{G:(C→Option O)→C→Option O}(st:Nat→C)(n:Nat)(o:O)(hstep:∀ X i,i<n→G X (st i)=X (st (i+1)))(hend:∀ X,G X (st n)=some o):∀ k i,i≤n→n-i<k→gl G k (st i)=some o
 | 0,i,_,h=>by omega
 | k+1,i,hi,h=>by
  rw [ah]
  rcases Nat.lt_or_ge i n with h' | h'
  ·rw [hstep _ i h'];exact cu st n o hstep hend k (i+1) h' (by omega)
  ·have:i=n:=by omega
   subst this;exact hend _
theorem alw {C O:Type}{G:(C→Option O)→C→Option O}(I:Nat→C→Prop)(Q:O→Prop)(hstep:∀ X n c,I n c→(∃ o,G X c=some o∧Q o)∨∃ m c',m<n∧I m c'∧G X c=X c'):∀ k n c,n<k→I n c→∃ o,gl G k c=some o∧Q o
 | 0,n,c,h,_=>by omega
 | k+1,n,c,h,hi=>by
  rw [ah]
  rcases hstep (gl G k) n c hi with h1 | ⟨m,c',h1,h2,h3⟩
  ·exact h1
  ·rw [h3];exact alw I Q hstep k m c' (by omega) h2
end Go.Proofs.YtolkfnemdejonaaGreatDoor
namespace Go.Proofs.YtolkfnemdejonaaGreatDoor
set_option maxRecDepth 100000
open Go.ChangeShapes Go.WideShapes Go.ChangeAt Go.RowKit
set_option linter.unusedVariables false
theorem own:ownKnob Dk.godebug=none:=by kernel_rfl
theorem aae:laidOutB Dk=true:=by kernel_rfl
theorem aax {f:FuncId}{args:List V}{cargs:List Value}{w:World}(h:kR Dk f args (.c (.bool true)))(hr:RelL w [] [] (args.map ex) cargs)(hgl:GlobOK w []:=by refine ⟨fun g l h=> ?_,fun g h=> ?_,fun g h=> ?_,fun g l h=> ?_⟩ <;> simp [afg,afk,aaj,uu] at h):
  Calls Dk f cargs.toArray w fun e w'=>e= .returned (.bool true)∧Below w.heap.size w w':=
 (h w [] cargs (by simp) hgl (by rw [hr.1,List.length_map]) (fun i x hx=>hr.2 i (ex x) (by rw [List.getElem?_map,hx];rfl))).mono fun e w' ⟨v,he,hg,hrel⟩=>by cases hrel;exact ⟨he,⟨hg.os,hg.tape,hg.output,hg.size,fun b hb=>hg.block b hb⟩⟩
section
variable {H:Type} {enc:TypeId×Value→H} {W:World}
theorem sV {T:TypeId}{v:Value}{d:DataW H}{p:List MemPlace}(h:DataW.Trod enc Dk W 0 (fun _=>true) true T v d p):∀ x∈p,x.block<W.heap.size:=by
 obtain ⟨m,hm⟩:=h;exact DataW.trod_lt m _ _ _ hm
end
end Go.Proofs.YtolkfnemdejonaaGreatDoor
namespace Go.Proofs.YtolkfnemdejonaaGreatDoor
set_option maxRecDepth 100000
open Go.ChangeShapes Go.WideShapes Go.ChangeAt Go.RowKit
set_option linter.unusedVariables false
set_option linter.unusedSimpArgs false
def wfT:(d:Td)→T d→Prop
 | .int k,n=>(Lit.int k n).wf=true
 | .bool,_=>True
 | .str,s=>s.length≤maxLen
 | .sl d,l=>l.length≤maxLen∧∀ x∈l,wfT d x
 | .arr n d,a=>∀ x∈a.l,wfT d x
 | .pair d e,x=>wfT d x.1∧wfT e x.2
section
variable {P:Program} {H:Type} {enc:TypeId×Value→H} {W:World}
theorem vj {α:Type}(Q:Nat→α→Prop):∀ n,(∀ i,i<n→∃ y,Q i y)→∃ l:List α,l.length=n∧∀ i y,l[i]? =some y→Q i y
 | 0,_=>⟨[],rfl,fun i y h=>by simp at h⟩
 | n+1,h=>by
  obtain ⟨l,h1,h2⟩:=vj Q n fun i hi=>h i (by omega)
  obtain ⟨y,hy⟩:=h n (by omega)
  refine ⟨l++[y],by simp [h1],fun i z hz=> ?_⟩
  rcases Nat.lt_or_ge i n with hi | hi
  ·rw [List.getElem?_append_left (by omega)] at hz;exact h2 i z hz
  ·rw [List.getElem?_append_right (by omega)] at hz
   have:i-l.length=0:=by have:=(List.getElem?_eq_some_iff.1 hz).1;simp at this;omega
   rw [this] at hz
   simp at hz
   subst hz
   rw [show i=n by omega];exact hy
theorem afO {a:Addr}{v:Value}(h:W.cell? a=some v):a.spot=none:=by
 unfold World.cell? at h
 split at h
 ·split at h
  ·cases h
  ·rename_i hs;cases hx:a.spot with
   | none=>rfl
   | some _=>rw [hx] at hs;simp at hs
 ·cases h
theorem anh (a:Addr)(i j:Nat)(h:a.spot=none):(a.add i).add j=a.add (i+j):=by
 unfold Addr.add
 obtain ⟨b,o,s⟩:=a
 simp only at h
 subst h
 by_cases hi:i=0 <;> by_cases hj:j=0 <;> simp [hi,hj,Nat.add_assoc]
theorem pS {a:Addr}{n:Nat}{cs:List Value}(h:W.cells? 0 a n=some cs):cs.length=n∧∀ i u,cs[i]? =some u→W.cell? (a.add i)=some u:=by
 unfold World.cells? at h
 rw [if_pos (Nat.zero_le _)] at h
 have hl:=mapM_some_length h
 rw [List.length_range] at hl
 refine ⟨hl,fun i u hu=> ?_⟩
 have hi:i<n:=by have:=(List.getElem?_eq_some_iff.1 hu).1;omega
 rw [mapM_some_get h i i (by simp [hi])]
 exact hu
theorem abm {d:Td}(xs:List (T d))(us:Nat→Value)(B:List Nat)(h:∀ i x,xs[i]? =some x→∀ j y,(cells d x)[j]? =some y→Rel W B [] y (us (i*wd d+j))):∀ i y,(flat d xs)[i]? =some y→Rel W B [] y (us i):=by
 intro i y hy
 have hi:i<xs.length*wd d:=by have:=(List.getElem?_eq_some_iff.1 hy).1;rwa [aF] at this
 have hw:0<wd d:=by rcases Nat.eq_zero_or_pos (wd d) with h | h;rw [h] at hi;omega;exact h
 have hq:i / wd d<xs.length:=Nat.div_lt_of_lt_mul (by rw [Dc];exact hi)
 have hx:xs[i / wd d]? =some xs[i / wd d]:=List.getElem?_eq_getElem hq
 have hf:=afx d xs (i / wd d) _ hx
 have hr:i % wd d<wd d:=Nat.mod_lt _ hw
 have hdm:=Nat.div_add_mod i (wd d)
 have h1:(cells d xs[i / wd d])[i % wd d]? =some y:=by
  rw [←hf,List.getElem?_take,if_pos hr,List.getElem?_drop]
  rw [show i / wd d*wd d+i % wd d=i by rw [Dc];exact hdm]
  exact hy
 have:=h _ _ hx _ _ h1
 rwa [show i / wd d*wd d+i % wd d=i by rw [Dc];exact hdm] at this
mutual
theorem vh:∀ (n:Nat) (t:TypeId) (d:Td),kB P n t d=true→∀ (fuel:Nat) (cs:List Value) (x:DataW H×List MemPlace),DataW.trod enc P W 0 (fun _=>true) true fuel t cs=some x→∃ y:T d,RelL W [] [] (cells d y) cs∧wfT d y
 | 0,t,d,h=>by simp [kB] at h
 | n+1,t,d,h=>by
  intro fuel cs x hx
  simp only [kB,ne,beq_iff_eq] at h
  obtain ⟨hc,h⟩:=h
  split at h
  ·rename_i k k' hu
   have:=of_decide_eq_true h
   subst this
   obtain ⟨z,rfl,_,hw⟩:=DataW.trod_int hu hx
   exact ⟨z,RelL.cons (.c _ _) (RelL.nil _ _ _),hw⟩
  ·rename_i hu
   obtain ⟨z,rfl,_⟩:=DataW.trod_bool hu hx
   exact ⟨z,RelL.cons (.c _ _) (RelL.nil _ _ _),trivial⟩
  ·rename_i hu
   obtain ⟨s,rfl,_,hs⟩:=DataW.trod_string hu hx
   refine ⟨s.data.toList,RelL.cons ?_ (RelL.nil _ _ _),by show s.data.toList.length≤maxLen;simpa using hs⟩
   have:(⟨s.data.toList.toArray⟩:ByteArray)=s:=by cases s;simp
   rw [this];exact .c _ _
  ·rename_i e d hu
   simp only [ne,decide_eq_true_eq] at h
   obtain ⟨hw,h⟩:=h
   have hce:=cV h
   rcases DataW.trod_slice hu hx with ⟨rfl,_⟩ | ⟨a,len,cap,elems,rest,m,rfl,rfl,_,_,hlc,hm,hel,hels,_⟩
   ·exact ⟨[],RelL.cons (sD hw (.c _ _)) (RelL.nil _ _ _),by simp [maxLen],fun x hx=>by cases hx⟩
   ·obtain ⟨ys,hy1,hy2⟩:=vj (fun i y=>∃ us,W.cells? 0 (a.add (i*wd d)) (wd d)=some us∧RelL W [] [] (cells d y) us∧wfT d y) len fun i hi=>by
     have h0:=hels i hi
     rw [List.getElem?_eq_getElem (by omega),hce] at h0
     obtain ⟨us,q1,q2⟩:=Option.bind_eq_some_iff.1 h0
     obtain ⟨y,q3,q4⟩:=vh n e d h _ _ _ q2
     exact ⟨y,us,q1,q3,q4⟩
    refine ⟨ys,RelL.cons ?_ (RelL.nil _ _ _),by rw [hy1];omega,fun x hx=> ?_⟩
    ·have hspot:0<len→a.spot=none:=fun h0=>by
      obtain ⟨us,q1,q3,_⟩:=hy2 0 ys[0] (List.getElem?_eq_getElem (by omega))
      have hl:=(pS q1).1
      have:=(pS q1).2 0 us[0] (List.getElem?_eq_getElem (by omega))
      have:=afO this
      unfold Addr.add at this
      simpa using this
     have hcell:∀ i x,ys[i]? =some x→∀ j y,(cells d x)[j]? =some y→Rel W [] [] y ((W.cell? (a.add (i*wd d+j))).getD undef)∧(W.cell? (a.add (i*wd d+j))).isSome=true:=fun i x hx j y hy=>by
      obtain ⟨us,q1,q3,_⟩:=hy2 i x hx
      obtain ⟨u,q4,q5⟩:=q3.2 j y hy
      have:=(pS q1).2 j u q4
      have h0:0<len:=by have:=(List.getElem?_eq_some_iff.1 hx).1;omega
      rw [anh a _ _ (hspot h0)] at this
      rw [this]
      exact ⟨q5,rfl⟩
     have hr:=abm (W:=W) ys (fun i=>(W.cell? (a.add i)).getD undef) [] fun i x hx j y hy=>(hcell i x hx j y hy).1
     refine .sl _ _ _ _ _ _ (fun i=>(W.cell? (a.add i)).getD undef) hw (by show len*wd d=(flat d ys).length;rw [aF,hy1]) hlc hm (fun h0=>⟨a,rfl,hspot h0, ?_,by simp,fun i hi=> ?_⟩) hr
     ·obtain ⟨us,q1,q3,_⟩:=hy2 0 ys[0] (List.getElem?_eq_getElem (by omega))
      have hl:=(pS q1).1
      have:=(pS q1).2 0 us[0] (List.getElem?_eq_getElem (by omega))
      have:=World.block_lt_of_cell? W _ this
      rwa [cZ,cZ] at this
     ·have hi':i<len*wd d:=by change i<(flat d ys).length at hi;rw [aF,hy1] at hi;exact hi
      have hq:i / wd d<ys.length:=by rw [hy1];exact Nat.div_lt_of_lt_mul (by rw [Dc];exact hi')
      have hrm:i % wd d<(cells d ys[i / wd d]).length:=by rw [bk];exact Nat.mod_lt _ (by omega)
      have:=(hcell _ _ (List.getElem?_eq_getElem hq) _ _ (List.getElem?_eq_getElem hrm)).2
      rw [show i / wd d*wd d+i % wd d=i by rw [Dc];exact Nat.div_add_mod i (wd d)] at this
      obtain ⟨u,hu⟩:=Option.isSome_iff_exists.1 this
      rw [hu];rfl
    ·obtain ⟨i,hi⟩:=List.getElem?_of_mem hx
     obtain ⟨_,_,_,q⟩:=hy2 i x hi
     exact q
  ·rename_i m e m' d hu
   simp only [ne,beq_iff_eq] at h
   obtain ⟨rfl,h⟩:=h
   have hce:=cV h
   obtain ⟨xs,m2,rfl,_,hl,hxl,hi⟩:=DataW.trod_array hu hx
   obtain ⟨ys,hy1,hy2⟩:=vj (fun i y=>RelL W [] [] (cells d y) ((cs.drop (i*wd d)).take (wd d))∧wfT d y) m fun i h1=>by
    have h0:=hi i h1
    rw [List.getElem?_eq_getElem (by omega),hce] at h0
    exact vh n e d h _ _ _ h0
   refine ⟨⟨ys,hy1⟩,⟨?_, ?_⟩,fun x hx=> ?_⟩
   ·rw [bk,←hc];exact hl.symm▸rfl
   ·intro i y hy
    have hr:=abm (W:=W) ys (fun i=>cs.getD i undef) [] fun i x hx j y hy=>by
     obtain ⟨u,q1,q2⟩:=(hy2 i x hx).1.2 j y hy
     rw [List.getElem?_take] at q1
     split at q1
     ·rw [List.getElem?_drop] at q1
      rw [List.getD_eq_getElem?_getD,q1];exact q2
     ·cases q1
    have hlt:i<cs.length:=by
     have:=(List.getElem?_eq_some_iff.1 hy).1
     rw [bk,←hc,←hl] at this
     exact this
    refine ⟨cs[i],List.getElem?_eq_getElem hlt, ?_⟩
    have:=hr i y hy
    rwa [List.getD_eq_getElem?_getD,List.getElem?_eq_getElem hlt] at this
   ·obtain ⟨i,hi⟩:=List.getElem?_of_mem hx
    exact (hy2 i x hi).2
  ·rename_i fs hu
   obtain ⟨xs,m2,rfl,_,hl,hxl,hi⟩:=DataW.trod_struct hu hx
   have:=read_fs n fs.toList 0 _ h m2 cs (fun i f hf=>by
    have h0:=hi i f (by simpa using hf)
    have hlt:i<xs.length:=by have:=(List.getElem?_eq_some_iff.1 hf).1;rw [hxl];simpa using this
    exact ⟨_,h0.trans (List.getElem?_eq_getElem hlt)⟩) (by rw [hl,hc];omega)
   simpa using this
  ·cases h
theorem read_fs:∀ (n:Nat) (fs:List Field) (o:Nat) (d:Td),layFs P n fs o d=true→∀ (m:Nat) (cs:List Value),(∀ (i:Nat) (f:Field),fs[i]? =some f→∃ x,DataW.trod enc P W 0 (fun _=>true) true m f.type ((cs.drop f.offset).take (P.cellsOf f.type))=some x)→cs.length=o+wd d→∃ y:T d,RelL W [] [] (cells d y) (cs.drop o)∧wfT d y
 | 0,fs,o,d,h=>by simp [layFs] at h
 | n+1,[],o,d,h=>by simp [layFs] at h
 | n+1,[f],o,d,h=>by
  intro m cs hx hl
  simp only [layFs,ne,beq_iff_eq] at h
  obtain ⟨rfl,h⟩:=h
  obtain ⟨x,hx⟩:=hx 0 f rfl
  rw [cV h] at hx
  obtain ⟨y,h1,h2⟩:=vh n _ d h _ _ _ hx
  rw [List.take_of_length_le (by rw [Dh];omega)] at h1
  exact ⟨y,h1,h2⟩
 | n+1,f::g::fs,o,d,h=>by
  intro m cs hx hl
  simp only [layFs] at h
  split at h
  ·rename_i d e
   simp only [ne,beq_iff_eq] at h
   obtain ⟨⟨rfl,h⟩,h'⟩:=h
   simp only [wd] at hl
   obtain ⟨x,hx0⟩:=hx 0 f rfl
   rw [cV h] at hx0
   obtain ⟨y,h1,h2⟩:=vh n _ d h _ _ _ hx0
   obtain ⟨z,h3,h4⟩:=read_fs n (g::fs) _ e h' m cs (fun i f' hf=>hx (i+1) f' (by simpa using hf)) (by omega)
   refine ⟨(y,z), ?_,h2,h4⟩
   have:=h1.append h3
   rw [←List.drop_drop,Df] at this
   exact this
  ·cases h
end
end
def rowB (P:Program)(t:TypeId):Bool:=match P.underlying t with
 | some (.struct _) | some (.array _ _)=>true
 | _=>false
theorem ac9 {P:Program}{W:World}{base:Nat}{t:TypeId}{v:Value}(h:rowB P t=true)(hv:Value.okWide P W .any base t v):∃ cs,v= .agg cs:=by
 unfold rowB at h
 unfold Value.okWide at hv
 split at h
 ·rename_i hu;rw [hu] at hv;obtain ⟨cs,h1,_⟩:=hv;exact ⟨cs,h1⟩
 ·rename_i hu;rw [hu] at hv;obtain ⟨cs,h1,_⟩:=hv;exact ⟨cs,h1⟩
 ·cases h
theorem ada {P:Program}{W:World}{base n:Nat}{t:TypeId}{d:Td}{v:Value}(hl:kB P n t d=true)(h:rowB P t=false)(hv:Value.okWide P W .any base t v):v.cells.toList=[v]:=by
 cases n with
 | zero=>simp [kB] at hl
 | succ n=>
  simp only [kB,ne] at hl
  replace hl:=hl.2
  split at hl
  ·rename_i hu;obtain ⟨_,rfl⟩:=okWide_int hu hv;rfl
  ·rename_i hu
   simp only [Value.okWide,hu,Cell.okWide] at hv
   cases v <;> first | rfl | simp_all [Cell.ok]
  ·rename_i hu;obtain ⟨_,rfl⟩:=okWide_string hu hv;rfl
  ·rename_i hu;obtain ⟨_,_,_,rfl⟩:=okWide_slice hu hv;rfl
  ·rename_i hu;simp [rowB,hu] at h
  ·rename_i hu;simp [rowB,hu] at h
  ·cases hl
theorem CM {H:Type}{enc:TypeId×Value→H}{W:World}{t:TypeId}{d:Td}(hl:kB Dk 24 t d=true)(hr:rowB Dk t=rowD d){base:Nat}{v:Value}{x:DataW H}{p:List MemPlace}(hv:Value.okWide Dk W .any base t v)(h:DataW.Trod enc Dk W 0 (fun _=>true) true t v x p):∃ y:T d,Rel W [] [] (ex (valV d y)) v∧wfT d y:=by
 obtain ⟨fuel,hf⟩:=h
 obtain ⟨y,h1,h2⟩:=vh _ _ _ hl _ _ _ hf
 refine ⟨y, ?_,h2⟩
 cases hd:rowD d with
 | true=>
  obtain ⟨cs,rfl⟩:=ac9 (hr.trans hd) hv
  rw [yj d y hd]
  refine .agg _ _ cs (fun i=>cs.getD i undef) (by rw [←h1.1];simp [Value.cells]) (fun i x hx=> ?_) (fun i x hx=> ?_)
  ·obtain ⟨u,q1,_⟩:=h1.2 i x hx
   simp only [Value.cells,Array.getElem?_toList] at q1
   rw [Array.getD_eq_getD_getElem?,q1];rfl
  ·obtain ⟨u,q1,q2⟩:=h1.2 i x hx
   simp only [Value.cells,Array.getElem?_toList] at q1
   rw [Array.getD_eq_getD_getElem?,q1];exact q2
 | false=>
  rw [ada hl (hr.trans hd) hv,yk d y hd] at h1
  obtain ⟨u,q1,q2⟩:=h1.2 0 _ rfl
  simp at q1
  rw [q1];exact q2
end Go.Proofs.YtolkfnemdejonaaGreatDoor
namespace Go.Proofs.YtolkfnemdejonaaGreatDoor
set_option maxRecDepth 100000
open Go.RowKit Go.ChangeShapes
set_option linter.unusedVariables false
set_option linter.unusedSimpArgs false
def datL {H:Type}:Nat→DataW H→List Value
 | 0,_=>[]
 | n+1,.lit l=>[l.value]
 | n+1,.agg ps=>ps.flatMap (datL n)
 | _,_=>[]
section
variable {P:Program} {H:Type} {enc:TypeId×Value→H} {W:World} {sp:Nat→Bool} {base:Nat} {held:Bool}
mutual
theorem BA:∀ (n:Nat) (t:TypeId) (d:Td),kB P n t d=true→eqD d=true→∀ (fuel:Nat) (cs:List Value) (x:DataW H×List MemPlace),DataW.trod enc P W base sp held fuel t cs=some x→∀ m,n≤m→datL m x.1=cs
 | 0,t,d,h=>by simp [kB] at h
 | n+1,t,d,h=>by
  intro hd fuel cs x hx m hm
  obtain ⟨m,rfl⟩:∃ m',m=m'+1:=⟨m-1,by omega⟩
  simp only [kB,ne,beq_iff_eq] at h
  obtain ⟨hc,h⟩:=h
  split at h
  ·rename_i k k' hu
   obtain ⟨z,rfl,rfl,hw⟩:=DataW.trod_int hu hx
   rfl
  ·rename_i hu
   obtain ⟨z,rfl,rfl⟩:=DataW.trod_bool hu hx
   rfl
  ·rename_i hu
   obtain ⟨s,rfl,rfl,hs⟩:=DataW.trod_string hu hx
   simp [datL,Lit.value]
  ·cases hd
  ·rename_i k e k' d hu
   simp only [ne,beq_iff_eq] at h
   obtain ⟨rfl,h⟩:=h
   have hce:=cV h
   obtain ⟨xs,m2,rfl,rfl,hl,hxl,hi⟩:=DataW.trod_array hu hx
   have key:∀ (j i:Nat),j+i=k→((xs.drop i).map (·.1)).flatMap (datL m)=cs.drop (i*wd d):=by
    intro j
    induction j with
    | zero=>
     intro i hi0
     rw [List.drop_of_length_le (by omega),List.drop_of_length_le (by rw [hl,hc];simp only [wd];rw [show i=k by omega];exact Nat.le_refl _)]
     rfl
    | succ j ih=>
     intro i hi0
     have hlt:i<xs.length:=by omega
     have h0:=hi i (by omega)
     rw [List.getElem?_eq_getElem hlt,hce] at h0
     have h1:=BA n e d h hd _ _ _ h0 m (by omega)
     have h2:=ih (i+1) (by omega)
     rw [Do hlt,List.map_cons,List.flatMap_cons,h1,h2,Nat.add_mul,Nat.one_mul,←List.drop_drop,Df]
   have:=key k 0 (by omega)
   simpa [datL] using this
  ·rename_i fs hu
   obtain ⟨xs,m2,rfl,rfl,hl,hxl,hi⟩:=DataW.trod_struct hu hx
   have:=lit_fs n fs.toList 0 _ h hd m2 cs xs (by simpa using hxl) (fun i f hf=>hi i f (by simpa using hf)) (by rw [hl,hc];omega) m (by omega)
   simpa [datL] using this
  ·cases h
theorem lit_fs:∀ (n:Nat) (fs:List Field) (o:Nat) (d:Td),layFs P n fs o d=true→eqD d=true→∀ (m0:Nat) (cs:List Value) (xs:List (DataW H×List MemPlace)),xs.length=fs.length→(∀ (i:Nat) (f:Field),fs[i]? =some f→DataW.trod enc P W base sp held m0 f.type ((cs.drop f.offset).take (P.cellsOf f.type))=xs[i]?)→cs.length=o+wd d→∀ m,n≤m→(xs.map (·.1)).flatMap (datL m)=cs.drop o
 | 0,fs,o,d,h=>by simp [layFs] at h
 | n+1,[],o,d,h=>by simp [layFs] at h
 | n+1,[f],o,d,h=>by
  intro hd m0 cs xs hxl hx hl m hm
  simp only [layFs,ne,beq_iff_eq] at h
  obtain ⟨rfl,h⟩:=h
  match xs,hxl with
  | [x],_=>
   have h0:=hx 0 f rfl
   rw [cV h] at h0
   have h1:=BA n _ d h hd _ _ _ h0 m (by omega)
   rw [List.take_of_length_le (by rw [Dh];omega)] at h1
   simp [h1]
 | n+1,f::g::fs,o,d,h=>by
  intro hd m0 cs xs hxl hx hl m hm
  simp only [layFs] at h
  split at h
  ·rename_i d e
   simp only [ne,beq_iff_eq] at h
   simp only [eqD,ne] at hd
   obtain ⟨⟨rfl,h⟩,h'⟩:=h
   simp only [wd] at hl
   match xs,hxl with
   | x::xs,hxl=>
    have h0:=hx 0 f rfl
    rw [cV h] at h0
    have h1:=BA n _ d h hd.1 _ _ _ h0 m (by omega)
    have h2:=lit_fs n (g::fs) _ e h' hd.2 m0 cs xs (by simpa using hxl) (fun i f' hf=>by have:=hx (i+1) f' (by simpa using hf);simpa using this) (by omega) m (by omega)
    rw [List.map_cons,List.flatMap_cons,h1,h2,←List.drop_drop,Df]
  ·cases h
end
theorem na {n:String}{D:DataW Unit}{g:Nat}{t:TypeId}{d:Td}(hg:P.globalNamed n=some g)(ht:(P.globals[g]?).map (·.type)=some t)(hl:kB P 24 t d=true)(hd:eqD d=true){cs:Array Value}{fuel:Nat}{p:List MemPlace}
  (hv:W.var? P n=some cs) (hx:DataW.trod (fun _=>()) P W 0 (fun _=>true) false fuel t cs.toList=some (D,p)) (hne:datL 24 D≠[]):Rel W [] [] (.adr ((datL 24 D).map .c)) (.pointer (some ⟨g,0,none⟩)):=by
 have h1:=BA 24 t d hl hd _ _ _ hx 24 (Nat.le_refl _)
 simp only at h1
 rw [h1] at hne ⊢
 have hb:∃ T fr,W.heap[g]? =some (.cells cs T fr):=by
  unfold World.var? at hv
  rw [hg] at hv
  simp only [Dd] at hv
  split at hv
  ·rename_i c T fr hc
   injection hv with hv
   subst hv
   exact ⟨T,fr,hc⟩
  ·cases hv
 obtain ⟨T,fr,hb⟩:=hb
 refine .adr _ _ _ (fun i=>cs.toList.getD i undef) ⟨rfl,(Array.getElem?_eq_some_iff.1 hb).1,by simp,fun i hi=> ?_⟩ (fun i x hx=> ?_)
 ·rw [List.length_map] at hi
  have hc:=cell_of_row W g i cs T fr hb
  have e:(⟨g,0,none⟩:Addr).add i=⟨g,i,none⟩:=by simp [Addr.add];omega
  rw [e,hc,List.getD_eq_getElem?_getD,List.getElem?_eq_getElem hi,Option.getD_some]
  simp at hi
  simp [hi]
 ·rw [List.getElem?_map,Option.map_eq_some_iff] at hx
  obtain ⟨v,hv',rfl⟩:=hx
  rw [List.getD_eq_getElem?_getD,hv',Option.getD_some]
  exact .c _ _
theorem ahH {n:String}{D:DataW Unit}{g:Nat}{t:TypeId}{d:Td}(hg:P.globalNamed n=some g)(hl:kB P 24 t d=true)(hd:eqD d=true){cs:Array Value}{fuel:Nat}{p:List MemPlace}
  (hv:W.var? P n=some cs) (hx:DataW.trod (fun _=>()) P W 0 (fun _=>true) false fuel t cs.toList=some (D,p)):∃ T fr,W.heap[g]? =some (.cells (datL 24 D).toArray T fr):=by
 have h1:=BA 24 t d hl hd _ _ _ hx 24 (Nat.le_refl _)
 simp only at h1
 unfold World.var? at hv
 rw [hg] at hv
 simp only [Dd] at hv
 split at hv
 ·rename_i c T fr hc
  injection hv with hv
  subst hv
  exact ⟨T,fr,by rw [hc,h1]⟩
 ·cases hv
end
end Go.Proofs.YtolkfnemdejonaaGreatDoor
namespace Go.Proofs.YtolkfnemdejonaaGreatDoor
set_option maxRecDepth 100000
open Go.RowKit
set_option linter.unusedVariables false
set_option linter.unusedSimpArgs false
def AllB (l:List Int):Prop:=∀ x∈l,0≤x∧x<256
theorem AllB.nil:AllB []:=fun _ h=>by cases h
theorem AllB.cons {x:Int}{l:List Int}(h1:0≤x∧x<256)(h2:AllB l):AllB (x::l):=fun y hy=>by
  rcases List.mem_cons.1 hy with rfl | hy
  · exact h1
  · exact h2 y hy
theorem AllB.append {l m:List Int}(h1:AllB l)(h2:AllB m):AllB (l++m):=fun y hy=>by
  rcases List.mem_append.1 hy with hy | hy
  · exact h1 y hy
  · exact h2 y hy
theorem AllB.drop {l:List Int}(h:AllB l)(n:Nat):AllB (l.drop n):=fun y hy=>h y (List.mem_of_mem_drop hy)
theorem AllB.take {l:List Int}(h:AllB l)(n:Nat):AllB (l.take n):=fun y hy=>h y (List.mem_of_mem_take hy)
theorem AllB.get {l:List Int}(h:AllB l)(i:Nat)(hi:i<l.length):0≤l[i]∧l[i]<256:=h _ (List.getElem_mem hi)
theorem arh {n:Int}(h:(Lit.int .u8 n).wf=true):0≤n∧n<256:=by
  simp only [Lit.wf,ne,decide_eq_true_eq,IntKind.min,IntKind.max,IntKind.signed,Dj] at h
  simp at h
  omega
theorem ag0 {l:List Int}(h:wfT (.sl (.int .u8)) l):AllB l:=fun x hx=>arh (h.2 x hx)
def afS (x:Int):UInt8:=UInt8.ofNat x.toNat
theorem yr:∀ {l:List Int},AllB l→toBy l=some (l.map afS)
  | [],_=>rfl
  | x::l,h=>by
    have h1:=h x List.mem_cons_self
    unfold toBy
    rw [if_pos h1,yr (fun y hy=>h y (List.mem_cons_of_mem _ hy))]
    rfl
theorem iE {α:Type}(l:List α){a b:Int}{i j:Nat}(ha:a=i)(hb:b=j)(h1:i≤j)(h2:j≤l.length):subI l a b=some ((l.drop i).take (j-i)):=by
  subst ha hb
  unfold subI
  rw [if_pos ⟨by omega,by omega,by omega⟩,Dm,Dm]
theorem fy {α:Type}(l:List α){a:Int}{i:Nat}(ha:a=i)(h1:i≤l.length):b9 l a=some (l.drop i):=by
  subst ha
  unfold b9
  rw [if_pos ⟨by omega,by omega⟩,Dm]
theorem eg {α:Type}(l:List α){a:Int}{i:Nat}(ha:a=i)(h1:i≤l.length):cR l a=some (l.take i):=by
  subst ha
  unfold cR
  rw [if_pos ⟨by omega,by omega⟩,Dm]
def qS (N:Nat)(i0:Int)(width1:Int)(little2:Bool):Option (Int):=
 bif little2 then
  some (i0)
 else
  some ((gt .i64 ((gt .i64 (width1-(1:Int)))-i0)))
def y9 (N:Nat)(X:(((Int)×((Int)×((Bool)×((Int)×((Int)×Unit)))))×((List (Int))×Unit))→Option ((Unit×((List (Int))×Unit))))(n0:Int)(width1:Int)(little2:Bool)(x19:Int)(x20:Int)(h0:List (Int)):Option ((Unit×((List (Int))×Unit))):=
 bif (decide (x20<x19)) then
  Dg (qS N x20 width1 little2) fun (v8:Int)=>
  bif (decide ((0:Int)≤v8∧v8<(((Db h0):Nat):Int))) then
   Dg (@GetElem?.getElem? (List Int) Nat Int (fun (as9:(List Int))=>(fun (i10:Nat)=>(@LT.lt Nat @instLTNat i10 (Db as9)))) (@List.instGetElem?NatLtLength Int) h0 (C9 v8)) fun (v9:Int)=>
   (X (((@Int.fdiv n0 (@HPow.hPow Int Nat Int (@instHPow Int Nat (@instPowNat Int @Int.instNatPow)) (2:Int) (@Min.min Nat @instMinNat (C9 (8:Int)) (@Dj @Da)))),(width1,(little2,(x19,((gt .i64 (x20+(1:Int))),@C5))))),((@List.set Int h0 (C9 v8) (gt .u8 n0)),@C5)))
  else
   none
 else
  some ((@C5,(h0,@C5)))
def ul (N:Nat)(c:(((Int)×((Int)×((Bool)×((Int)×((Int)×Unit)))))×((List (Int))×Unit))):Option ((Unit×((List (Int))×Unit))):=gl (fun X c=>y9 N X c.1.1 c.1.2.1 c.1.2.2.1 c.1.2.2.2.1 c.1.2.2.2.2.1 c.2.1) N c
def ac1 (N:Nat)(n0:Int)(width1:Int)(little2:Bool):Option ((List (Int))×Int):=
 bif (decide (width1<(1:Int))) then
  some ((([]:List (Int)),(1:Int)))
 else
  bif (@cond Bool @Bool.false @Bool.true (decide ((8:Int)<width1))) then
   some ((([]:List (Int)),(1:Int)))
  else
   bif ((decide ((0:Int)≤width1∧width1≤width1))&&(ae (C9 width1) 1)) then
    Dg (ul N ((n0,(width1,(little2,((((Db (@List.replicate Int (C9 width1) (0:Int))):Nat):Int),((0:Int),@C5))))),((@List.replicate Int (C9 width1) (0:Int)),@C5))) fun (v4:(Unit×((List Int)×Unit)))=>
    some ((v4.2.1,(0:Int)))
   else
    none
def uo (N:Nat)(X:(((List (List (Int)))×((Int)×((List (List (Int)))×((Int)×((Int)×Unit)))))×Unit)→Option ((((List (List (Int)))×((Int)×Unit))×Unit)))(parts0:List (List (Int)))(size3:Int)(x9:List (List (Int)))(x10:Int)(x11:Int):Option ((((List (List (Int)))×((Int)×Unit))×Unit)):=
 bif (decide (x11<x10)) then
  Dg (getI x9 x11) fun (v7:(List Int))=>
  (X ((parts0,((gt .i64 (size3+(((Db v7):Nat):Int))),(x9,(x10,((gt .i64 (x11+(1:Int))),@C5))))),@C5))
 else
  some (((parts0,(size3,@C5)),@C5))
def Be (N:Nat)(c:(((List (List (Int)))×((Int)×((List (List (Int)))×((Int)×((Int)×Unit)))))×Unit)):Option ((((List (List (Int)))×((Int)×Unit))×Unit)):=gl (fun X c=>uo N X c.1.1 c.1.2.1 c.1.2.2.1 c.1.2.2.2.1 c.1.2.2.2.2.1) N c
def um (N:Nat)(X:(((List (List (Int)))×((Int)×((Int)×Unit)))×((List (Int))×Unit))→Option ((Unit×((List (Int))×Unit))))(x22:List (List (Int)))(x23:Int)(x24:Int)(h0:List (Int)):Option ((Unit×((List (Int))×Unit))):=
 bif (decide (x24<x23)) then
  Dg (getI x22 x24) fun (v6:(List Int))=>
  bif (ae ((Db h0)+(Db v6)) 1) then
   (X ((x22,(x23,((gt .i64 (x24+(1:Int))),@C5))),((h0++v6),@C5)))
  else
   none
 else
  some ((@C5,(h0,@C5)))
def Bd (N:Nat)(c:(((List (List (Int)))×((Int)×((Int)×Unit)))×((List (Int))×Unit))):Option ((Unit×((List (Int))×Unit))):=gl (fun X c=>um N X c.1.1 c.1.2.1 c.1.2.2.1 c.2.1) N c
def alm (N:Nat)(parts0:List (List (Int))):Option (List (Int)):=
 Dg (Be N ((parts0,((0:Int),(parts0,((((Db parts0):Nat):Int),((0:Int),@C5))))),@C5)) fun (v2:(((List (List Int))×(Int×Unit))×Unit))=>
 bif ((decide ((0:Int)≤(0:Int)∧(0:Int)≤v2.1.2.1))&&(ae (C9 v2.1.2.1) 1)) then
  Dg (Bd N ((v2.1.1,((((Db v2.1.1):Nat):Int),((0:Int),@C5))),((@List.replicate Int (C9 (0:Int)) (0:Int)),@C5))) fun (v3:(Unit×((List Int)×Unit)))=>
  some (v3.2.1)
 else
  none
def CI (N:Nat)(X:(((List (Int))×((Bool)×((Int)×((Int)×((Int)×Unit)))))×Unit)→Option ((((Int)×Unit)×Unit)))(b0:List (Int))(little1:Bool)(n6:Int)(x17:Int)(x18:Int):Option ((((Int)×Unit)×Unit)):=
 bif (decide (x18<x17)) then
  Dg (qS N x18 (((Db b0):Nat):Int) little1) fun (v7:Int)=>
  Dg (getI b0 v7) fun (v8:Int)=>
  bif (decide ((0:Int)≤(gt .i64 ((8:Int)*x18)))) then
   (X ((b0,(little1,((@Go.bits @Go.BinOp.or @Da n6 (gt .u64 ((gt .u64 v8)*(@HPow.hPow Int Nat Int (@instHPow Int Nat (@instPowNat Int @Int.instNatPow)) (2:Int) (@Min.min Nat @instMinNat (C9 (gt .i64 ((8:Int)*x18))) (@Dj @Da)))))),(x17,((gt .i64 (x18+(1:Int))),@C5))))),@C5))
  else
   none
 else
  some (((n6,@C5),@C5))
def za (N:Nat)(c:(((List (Int))×((Bool)×((Int)×((Int)×((Int)×Unit)))))×Unit)):Option ((((Int)×Unit)×Unit)):=gl (fun X c=>CI N X c.1.1 c.1.2.1 c.1.2.2.1 c.1.2.2.2.1 c.1.2.2.2.2.1) N c
def ahk (N:Nat)(b0:List (Int))(little1:Bool):Option ((Int)×Int):=
 bif (decide ((((Db b0):Nat):Int)<(1:Int))) then
  some (((0:Int),(1:Int)))
 else
  bif (@cond Bool @Bool.false @Bool.true (decide ((8:Int)<(((Db b0):Nat):Int)))) then
   some (((0:Int),(1:Int)))
  else
   Dg (za N ((b0,(little1,((0:Int),((((Db b0):Nat):Int),((0:Int),@C5))))),@C5)) fun (v3:((Int×Unit)×Unit))=>
   some ((v3.1.1,(0:Int)))
theorem oG (a:Nat)(ha:a<18446744073709551616):(C8 64 (a:Int)).toNat=a:=by
 rw [BitVec.ofInt_natCast,BitVec.toNat_ofNat];exact Di (by omega)
theorem mM (a b:Nat)(ha:a<18446744073709551616)(hb:b<18446744073709551616):bits .or .u64 (a:Int) (b:Int)=((a|||b:Nat):Int):=by
 have hx:a|||b<2 ^ 64:=Nat.or_lt_two_pow (n:=64) (by omega) (by omega)
 show Da.wrap ((C8 64 (a:Int)|||C8 64 (b:Int)).toNat:Int)=_
 rw [BitVec.toNat_or,oG a ha,oG b hb,IntKind.wrap_u64]
 omega
theorem alp (x y k:Nat)(hx:x<2 ^ k)(hx':x<18446744073709551616)(hy:y*2 ^ k<18446744073709551616):bits .or .u64 (x:Int) ((y*2 ^ k:Nat):Int)=((y*2 ^ k+x:Nat):Int):=by
 rw [mM x (y*2 ^ k) hx' hy,Nat.or_comm,←Nat.shiftLeft_eq,←Nat.shiftLeft_add_eq_or_of_lt hx]
theorem Bj (a b:Int)(k:Nat)(h0:0≤a)(ha:a.toNat<2 ^ k)(ha':a<18446744073709551616)(hb:0≤b)(hk:b.toNat*2 ^ k<18446744073709551616):bits .or .u64 a (b*((2 ^ k:Nat):Int))=b*((2 ^ k:Nat):Int)+a:=by
 obtain ⟨x,rfl⟩:=Int.eq_ofNat_of_zero_le h0
 obtain ⟨y,rfl⟩:=Int.eq_ofNat_of_zero_le hb
 have:=alp x y k (by simpa using ha) (by omega) (by simpa using hk)
 rw [Int.natCast_add,Int.natCast_mul] at this
 exact this
theorem aR {x:Int}(h1:0≤x)(h2:x<18446744073709551616):gt .u64 x=x:=by
 rw [IntKind.wrap_u64];omega
section
variable {N:Nat}
theorem put4 (n:Int)(h:0≤n∧n<18446744073709551616)(hN:100≤N):ac1 N n 4 false=some ([n / 16777216 % 256,n / 65536 % 256,n / 256 % 256,n % 256],0):=by
 obtain ⟨M,rfl⟩:∃ M,N=M+5:=⟨N-5,by omega⟩
 have r1:ae (C9 4) 1=true:=by decide
 have r2:List.replicate (C9 4) (0:Int)=[0,0,0,0]:=rfl
 have w1:gt .i64 ((4:Int)-1)=3:=by decide
 have v0:gt .i64 ((3:Int)-0)=3:=by decide
 have v1:gt .i64 ((3:Int)-1)=2:=by decide
 have v2:gt .i64 ((3:Int)-2)=1:=by decide
 have v3:gt .i64 ((3:Int)-3)=0:=by decide
 have w3:gt .i64 ((0:Int)+1)=1:=by decide
 have w4:gt .i64 ((1:Int)+1)=2:=by decide
 have w5:gt .i64 ((2:Int)+1)=3:=by decide
 have w6:gt .i64 ((3:Int)+1)=4:=by decide
 have e1:(2:Int) ^ min (C9 8) (Dj Da)=256:=by decide
 have d1:Int.fdiv n 256=n / 256:=Dn n (by decide)
 have d2:Int.fdiv (n / 256) 256=n / 65536:=by rw [Dn _ (by decide)];omega
 have d3:Int.fdiv (n / 65536) 256=n / 16777216:=by rw [Dn _ (by decide)];omega
 have w7:gt .u8 n=n % 256:=by rw [Dq]
 have w8:gt .u8 (n / 256)=n / 256 % 256:=by rw [Dq]
 have w9:gt .u8 (n / 65536)=n / 65536 % 256:=by rw [Dq]
 have w10:gt .u8 (n / 16777216)=n / 16777216 % 256:=by rw [Dq]
 simp only [ac1,ul,gl,y9,qS,r1,r2,e1,cond_false,Dd,w1,v0,v1,v2,v3,w3,w4,w5,w6]
 simp [w1,v0,v1,v2,v3,w3,w4,w5,w6,d1,d2,d3,w7,w8,w9,w10]
theorem get4 (x y z u:Int)(hx:0≤x∧x<256)(hy:0≤y∧y<256)(hz:0≤z∧z<256)(hu:0≤u∧u<256)(hN:100≤N):ahk N [x,y,z,u] false=some (((x*256+y)*256+z)*256+u,0):=by
 obtain ⟨M,rfl⟩:∃ M,N=M+5:=⟨N-5,by omega⟩
 have w1:gt .i64 ((4:Int)-1)=3:=by decide
 have v0:gt .i64 ((3:Int)-0)=3:=by decide
 have v1:gt .i64 ((3:Int)-1)=2:=by decide
 have v2:gt .i64 ((3:Int)-2)=1:=by decide
 have v3:gt .i64 ((3:Int)-3)=0:=by decide
 have w3:gt .i64 ((0:Int)+1)=1:=by decide
 have w4:gt .i64 ((1:Int)+1)=2:=by decide
 have w5:gt .i64 ((2:Int)+1)=3:=by decide
 have w6:gt .i64 ((3:Int)+1)=4:=by decide
 have m0:gt .i64 ((8:Int)*0)=0:=by decide
 have m1:gt .i64 ((8:Int)*1)=8:=by decide
 have m2:gt .i64 ((8:Int)*2)=16:=by decide
 have m3:gt .i64 ((8:Int)*3)=24:=by decide
 have x1:gt .u64 x=x:=aR (by omega) (by omega)
 have y1:gt .u64 y=y:=aR (by omega) (by omega)
 have z1:gt .u64 z=z:=aR (by omega) (by omega)
 have u1:gt .u64 u=u:=aR (by omega) (by omega)
 have e0:(2:Int) ^ min (C9 0) (Dj Da)=1:=by decide
 have e1:(2:Int) ^ min (C9 8) (Dj Da)=256:=by decide
 have e2:(2:Int) ^ min (C9 16) (Dj Da)=65536:=by decide
 have e3:(2:Int) ^ min (C9 24) (Dj Da)=16777216:=by decide
 have u2:gt .u64 (u*1)=u:=by rw [Int.mul_one];exact u1
 have z2:gt .u64 (z*256)=z*256:=aR (by omega) (by omega)
 have y2:gt .u64 (y*65536)=y*65536:=aR (by omega) (by omega)
 have x2:gt .u64 (x*16777216)=x*16777216:=aR (by omega) (by omega)
 have o1:bits .or .u64 0 u=u:=by
  have:=Bj 0 u 0 (by decide) (by decide) (by decide) (by omega) (by simp;omega)
  simpa using this
 have o2:bits .or .u64 u (z*256)=z*256+u:=Bj u z 8 (by omega) (by show u.toNat<256;omega) (by omega) (by omega) (by show z.toNat*256<_;omega)
 have o3:bits .or .u64 (z*256+u) (y*65536)=y*65536+(z*256+u):=Bj (z*256+u) y 16 (by omega) (by show (z*256+u).toNat<65536;omega) (by omega) (by omega) (by show y.toNat*65536<_;omega)
 have o4:bits .or .u64 (y*65536+(z*256+u)) (x*16777216)=x*16777216+(y*65536+(z*256+u)):=Bj (y*65536+(z*256+u)) x 24 (by omega) (by show (y*65536+(z*256+u)).toNat<16777216;omega) (by omega) (by omega) (by show x.toNat*16777216<_;omega)
 have fin:x*16777216+(y*65536+(z*256+u))=((x*256+y)*256+z)*256+u:=by omega
 have g0:getI [x,y,z,u] (0:Int)=some x:=rfl
 have g1:getI [x,y,z,u] (1:Int)=some y:=rfl
 have g2:getI [x,y,z,u] (2:Int)=some z:=rfl
 have g3:getI [x,y,z,u] (3:Int)=some u:=rfl
 have l4:(([x,y,z,u]:List Int).length:Int)=4:=rfl
 rw [←fin]
 simp only [ahk,za,gl,CI,qS,l4,cond_false,Dd,w1,v0,v1,v2,v3,w3,w4,w5,w6,m0,m1,m2,m3,x1,y1,z1,u1,e0,e1,e2,e3,u2,z2,y2,x2,o1,o2,o3,o4,g0,g1,g2,g3]
 simp [w1,v0,v1,v2,v3,w3,w4,w5,w6,m1,m2,m3,x1,y1,z1,u1,e1,e2,e3,z2,y2,x2,o2,o3,o4,g0,g1,g2,g3]
theorem vD (l:List (List Int))(hl:l.length≤1000)(hs:∀ p∈l,p.length≤100000)(hN:2000≤N):alm N l=some l.flatten:=by
 have tot:∀ (m:List (List Int)),(∀ p∈m,p.length≤100000)→m.flatten.length≤100000*m.length:=by
  intro m
  induction m with
  | nil=>intro _;simp
  | cons p m ih=>
   intro h
   have h1:=h p List.mem_cons_self
   have h2:=ih fun q hq=>h q (List.mem_cons_of_mem _ hq)
   rw [List.flatten_cons,List.length_append,List.length_cons]
   omega
 have tk:∀ i,(l.take i).flatten.length≤100000000:=fun i=>by
  have:=tot (l.take i) fun p hp=>hs p (List.mem_of_mem_take hp)
  rw [List.length_take] at this
  omega
 have hsn:∀ i (hi:i<l.length),(l.take (i+1)).flatten=(l.take i).flatten++l[i]:=fun i hi=>by
  have:l.take (i+1)=l.take i++[l[i]]:=by rw [List.take_add_one,List.getElem?_eq_getElem hi];rfl
  rw [this,List.flatten_append]
  simp
 have h1:=cu (G:=fun (X:((List (List Int)×Int×List (List Int)×Int×Int×Unit)×Unit)→Option ((List (List Int)×Int×Unit)×Unit)) c=>uo N X c.1.1 c.1.2.1 c.1.2.2.1 c.1.2.2.2.1 c.1.2.2.2.2.1)
  (fun i=>((l,(((l.take i).flatten.length:Int),(l,((l.length:Int),((i:Int),()))))),())) l.length ((l,((l.flatten.length:Int),())),()) (fun X i hi=>by
  have c1:((i:Int)<(l.length:Int)):=by omega
  have c2:gt .i64 ((i:Int)+1)=((i+1:Nat):Int):=by rw [ac (by omega) (by omega)];omega
  have hp:=hs _ (List.getElem_mem hi)
  have ht:=tk i
  have c3:gt .i64 (((l.take i).flatten.length:Int)+(l[i].length:Int))=(((l.take (i+1)).flatten.length:Nat):Int):=by rw [ac (by omega) (by omega),hsn i hi,List.length_append];omega
  simp only [uo,c1,decide_true,cond_true,aS l i hi,Dd,c3,c2]) (fun X=>by
  simp [uo]) N 0 (by omega) (by omega)
 have h2:=cu (G:=fun (X:((List (List Int)×Int×Int×Unit)×List Int×Unit)→Option (Unit×List Int×Unit)) c=>um N X c.1.1 c.1.2.1 c.1.2.2.1 c.2.1)
  (fun i=>((l,((l.length:Int),((i:Int),()))),((l.take i).flatten,()))) l.length ((),(l.flatten,())) (fun X i hi=>by
  have c1:((i:Int)<(l.length:Int)):=by omega
  have c2:gt .i64 ((i:Int)+1)=((i+1:Nat):Int):=by rw [ac (by omega) (by omega)];omega
  have hp:=hs _ (List.getElem_mem hi)
  have ht:=tk i
  have c3:ae ((l.take i).flatten.length+l[i].length) 1=true:=aH (by have:=aL;omega) (by omega)
  simp only [um,c1,decide_true,cond_true,aS l i hi,Dd,c3,c2,hsn i hi]) (fun X=>by
  simp [um]) N 0 (by omega) (by omega)
 have htot:=tk l.length
 rw [List.take_length] at htot
 have c4:(decide ((0:Int)≤(0:Int)∧(0:Int)≤(l.flatten.length:Int))&&ae (C9 (l.flatten.length:Int)) 1)=true:=by
  rw [ne]
  exact ⟨decide_eq_true ⟨by omega,by omega⟩,aH (by have:=aL;omega) (by omega)⟩
 unfold alm Be Bd
 simp only [Int.natCast_zero,List.take_zero,List.flatten_nil,List.length_nil] at h1 h2
 rw [h1]
 simp only [Dd,c4,cond_true]
 have e0:List.replicate (C9 0) (0:Int)=[]:=rfl
 rw [e0,h2]
 rfl
end
end Go.Proofs.YtolkfnemdejonaaGreatDoor
namespace Go.Proofs.YtolkfnemdejonaaGreatDoor.De
set_option maxRecDepth 100000
open Go.RowKit
set_option linter.unusedVariables false
set_option linter.unusedSimpArgs false
set_option maxRecDepth 100000
def toW (l:List Bool):Nat:=l.foldl (fun a b=>2*a+b.toNat) 0
theorem Ch:toW []=0:=rfl
theorem gy (l:List Bool)(b:Bool):toW (l++[b])=2*toW l+b.toNat:=by simp [toW,List.foldl_append]
theorem pX (l:List Bool):∀ m:List Bool,toW (l++m)=toW l*2 ^ m.length+toW m:=by
 intro m
 generalize hn:m.length=n
 induction n generalizing m with
 | zero=>rw [C6 hn];simp [Ch]
 | succ n ih=>
  have hne:m≠[]:=fun h=>by rw [h] at hn;cases hn
  obtain ⟨m',b,rfl⟩:∃ m' b,m=m'++[b]:=⟨_,_,(C7 hne).symm⟩
  have hl:m'.length=n:=by simpa using hn
  rw [←List.append_assoc,gy,gy,ih m' hl,Nat.pow_succ,Nat.mul_add,←Nat.mul_assoc]
  rw [Dc 2 (toW l),Nat.mul_assoc (toW l),Dc 2 (2 ^ n)]
  omega
theorem dK:∀ l:List Bool,toW l<2 ^ l.length:=by
 intro l
 generalize hn:l.length=n
 induction n generalizing l with
 | zero=>rw [C6 hn];simp [Ch]
 | succ n ih=>
  have hne:l≠[]:=fun h=>by rw [h] at hn;cases hn
  obtain ⟨m',b,rfl⟩:∃ m' b,l=m'++[b]:=⟨_,_,(C7 hne).symm⟩
  have:=ih m' (by simpa using hn)
  rw [gy,Nat.pow_succ]
  have:b.toNat≤1:=by cases b <;> simp
  omega
theorem uA (l:List Bool)(k:Nat)(h:k≤l.length):toW l / 2 ^ (l.length-k)=toW (l.take k):=by
 have e:=pX (l.take k) (l.drop k)
 rw [Df,Dh] at e
 have hl:=dK (l.drop k)
 rw [Dh] at hl
 rw [e,Dc,Nat.mul_add_div (Nat.two_pow_pos _),Nat.div_eq_of_lt hl]
 omega
theorem yp (l:List Bool)(k:Nat)(h:k≤l.length):toW l % 2 ^ (l.length-k)=toW (l.drop k):=by
 have e:=pX (l.take k) (l.drop k)
 rw [Df,Dh] at e
 have hl:=dK (l.drop k)
 rw [Dh] at hl
 rw [e,Dc,Nat.mul_add_mod,Di hl]
theorem ad3 (b:Bool):toW [b]=b.toNat:=by cases b <;> rfl
theorem alO (l:List Bool)(i:Nat)(h1:1≤i)(h2:i≤l.length):toW l / 2 ^ (l.length-i) % 2=(l.getD (i-1) false).toNat:=by
 rw [uA l i h2]
 have e:=yp (l.take i) (i-1) (by rw [List.length_take];omega)
 rw [List.length_take,Nat.min_eq_left h2,show i-(i-1)=1 by omega,Nat.pow_one] at e
 rw [e]
 have hd:(l.take i).drop (i-1)=[l.getD (i-1) false]:=by
  rw [List.drop_take,show i-(i-1)=1 by omega,Do (show i-1<l.length by omega),List.getD_eq_getElem?_getD,List.getElem?_eq_getElem (by omega)]
  rfl
 rw [hd,ad3]
theorem alN:∀ {l m:List Bool},l.length=m.length→toW l=toW m→l=m:=by
 intro l m hl
 generalize hn:l.length=n
 induction n generalizing l m with
 | zero=>intro _;rw [C6 hn,C6 (by omega:m.length=0)]
 | succ n ih=>
  intro h
  have hne:l≠[]:=fun h=>by rw [h] at hn;cases hn
  have hne':m≠[]:=fun h=>by rw [h] at hl;simp at hl;rw [hl] at hn;cases hn
  obtain ⟨l',b,rfl⟩:∃ m' b,l=m'++[b]:=⟨_,_,(C7 hne).symm⟩
  obtain ⟨m',c,rfl⟩:∃ m' b,m=m'++[b]:=⟨_,_,(C7 hne').symm⟩
  rw [gy,gy] at h
  have hb:b.toNat=c.toNat∧toW l'=toW m':=by
   have h1:b.toNat≤1:=by cases b <;> simp
   have h2:c.toNat≤1:=by cases c <;> simp
   omega
  have hbc:b=c:=by have:=hb.1;cases b <;> cases c <;> simp at this <;> rfl
  rw [hbc,ih (by simpa using hl) (by simpa using hn) hb.2]
def aQ:Nat→Nat→List Bool
 | 0,_=>[]
 | w+1,x=>aQ w (x / 2)++[decide (x % 2=1)]
theorem cW:∀ w x,(aQ w x).length=w
 | 0,_=>rfl
 | w+1,x=>by simp [aQ,cW w]
theorem sw:∀ w x,toW (aQ w x)=x % 2 ^ w
 | 0,x=>by simp [aQ,Ch,Nat.mod_one]
 | w+1,x=>by
  rw [aQ,gy,sw w (x / 2)]
  have hb:(decide (x % 2=1)).toNat=x % 2:=by
   rcases Nat.mod_two_eq_zero_or_one x with h | h <;> simp [h]
  rw [hb,Nat.pow_succ,Dc (2 ^ w) 2,Nat.mod_mul]
  omega
theorem th (l:List Bool):aQ l.length (toW l)=l:=
 alN (cW _ _) (by rw [sw,Di (dK l)])
theorem aaN {w x:Nat}(h:x<2 ^ w):toW (aQ w x)=x:=by rw [sw,Di h]
def xorL (a b:List Bool):List Bool:=List.zipWith xor a b
theorem uj (a b:List Bool)(h:a.length=b.length):(xorL a b).length=a.length:=by simp [xorL,h]
theorem alI (a b:Nat)(x y:Bool):(2*a+x.toNat) ^^^ (2*b+y.toNat)=2*(a ^^^ b)+(xor x y).toNat:=by
 apply Nat.eq_of_testBit_eq
 intro i
 rw [Nat.testBit_xor]
 cases i with
 | zero=>cases x <;> cases y <;> simp [Nat.testBit_zero]
 | succ i=>
  have e:∀ (a:Nat) (x:Bool),(2*a+x.toNat).testBit (i+1)=a.testBit i:=fun a x=>by
   rw [Nat.testBit_succ]
   congr 1
   have:x.toNat≤1:=by cases x <;> simp
   omega
  rw [e,e,e,Nat.testBit_xor]
theorem ad2:∀ (a b:List Bool),a.length=b.length→toW (xorL a b)=toW a ^^^ toW b:=by
 intro a b hl
 generalize hn:a.length=n
 induction n generalizing a b with
 | zero=>rw [C6 hn,C6 (by omega:b.length=0)];rfl
 | succ n ih=>
  have hne:a≠[]:=fun h=>by rw [h] at hn;cases hn
  have hne':b≠[]:=fun h=>by rw [h] at hl;simp at hl;rw [hl] at hn;cases hn
  obtain ⟨a',x,rfl⟩:∃ m' b,a=m'++[b]:=⟨_,_,(C7 hne).symm⟩
  obtain ⟨b',y,rfl⟩:∃ m' c,b=m'++[c]:=⟨_,_,(C7 hne').symm⟩
  have hl':a'.length=b'.length:=by simpa using hl
  have e:xorL (a'++[x]) (b'++[y])=xorL a' b'++[xor x y]:=by
   unfold xorL;rw [List.zipWith_append hl'];rfl
  rw [e,gy,gy,gy,ih a' b' hl' (by simpa using hn),alI]
def byM (t:List Int)(l:List Bool):List Bool:=t.map fun i=>l.getD (i.toNat-1) false
theorem iA (t:List Int)(l:List Bool):(byM t l).length=t.length:=by simp [byM]
def yv (w:Nat)(t:List Int):Prop:=∀ i∈t,1≤i∧i≤(w:Int)
instance (w:Nat) (t:List Int):Decidable (yv w t):=List.decidableBAll _ _
def rI (l:List Bool):List Int:=l.map fun b=>(b.toNat:Int)
theorem bU (l:List Bool):(rI l).length=l.length:=by simp [rI]
theorem iM (l m:List Bool):rI (l++m)=rI l++rI m:=by simp [rI]
theorem sN (l:List Bool)(n:Nat):(rI l).take n=rI (l.take n):=by simp [rI,List.map_take]
theorem sO (l:List Bool)(n:Nat):(rI l).drop n=rI (l.drop n):=by simp [rI,List.map_drop]
theorem q64_and (a b:Nat)(ha:a<18446744073709551616)(hb:b<18446744073709551616):bits .and .u64 (a:Int) (b:Int)=((a&&&b:Nat):Int):=by
 have hx:a&&&b<18446744073709551616:=Nat.lt_of_le_of_lt Nat.and_le_left ha
 show Da.wrap ((C8 64 (a:Int)&&&C8 64 (b:Int)).toNat:Int)=_
 rw [BitVec.toNat_and,oG a ha,oG b hb,IntKind.wrap_u64]
 omega
theorem al7 (a b:Nat)(ha:a<18446744073709551616)(hb:b<18446744073709551616):bits .xor .u64 (a:Int) (b:Int)=((a ^^^ b:Nat):Int):=by
 have hx:a ^^^ b<2 ^ 64:=Nat.xor_lt_two_pow (n:=64) (by omega) (by omega)
 show Da.wrap ((C8 64 (a:Int) ^^^ C8 64 (b:Int)).toNat:Int)=_
 rw [BitVec.toNat_xor,oG a ha,oG b hb,IntKind.wrap_u64]
 omega
theorem aln (a:Nat)(ha:a<4294967296):(C8 32 (a:Int)).toNat=a:=by
 rw [BitVec.ofInt_natCast,BitVec.toNat_ofNat];exact Di (by omega)
theorem al8 (a b:Nat)(ha:a<4294967296)(hb:b<4294967296):bits .xor .u32 (a:Int) (b:Int)=((a ^^^ b:Nat):Int):=by
 have hx:a ^^^ b<2 ^ 32:=Nat.xor_lt_two_pow (n:=32) (by omega) (by omega)
 show IntKind.u32.wrap ((C8 32 (a:Int) ^^^ C8 32 (b:Int)).toNat:Int)=_
 rw [BitVec.toNat_xor,aln a ha,aln b hb,IntKind.wrap_u32]
 omega
theorem q8_of (a:Nat)(ha:a<256):(C8 8 (a:Int)).toNat=a:=by
 rw [BitVec.ofInt_natCast,BitVec.toNat_ofNat];exact Di (by omega)
theorem Bk (a b:Int):bits .or .u64 a b=bits .or .u64 b a:=by
 show Da.wrap ((C8 64 a|||C8 64 b).toNat:Int)=Da.wrap ((C8 64 b|||C8 64 a).toNat:Int)
 rw [BitVec.or_comm]
theorem qk (a b:List Bool)(h:a.length+b.length≤64):bits .or .u64 (gt .u64 ((toW a:Int)*((2 ^ b.length:Nat):Int))) (toW b:Int)=((toW (a++b):Nat):Int):=by
 have ha:=dK (a++b)
 rw [List.length_append] at ha
 have hp:2 ^ (a.length+b.length)≤2 ^ 64:=Nat.pow_le_pow_right (by decide) h
 have e:=pX a b
 have hb:=dK b
 have hb64:2 ^ b.length≤2 ^ 64:=Nat.pow_le_pow_right (by decide) (by omega)
 have hm:toW a*2 ^ b.length<18446744073709551616:=by omega
 have e2:(toW a:Int)*((2 ^ b.length:Nat):Int)=((toW a*2 ^ b.length:Nat):Int):=by rw [Int.natCast_mul]
 rw [e2,aR (by omega) (by omega),Bk,alp (toW b) (toW a) b.length hb (by omega) hm,e]
theorem B9 (a b:List Bool)(h:a.length=b.length)(h32:a.length≤32):bits .xor .u32 (toW a:Int) (toW b:Int)=((toW (xorL a b):Nat):Int):=by
 have ha:=dK a
 have hb:=dK b
 have hp:2 ^ a.length≤2 ^ 32:=Nat.pow_le_pow_right (by decide) h32
 rw [←h] at hb
 rw [al8 _ _ (by omega) (by omega),ad2 a b h]
end Go.Proofs.YtolkfnemdejonaaGreatDoor.De
namespace Go.Proofs.YtolkfnemdejonaaGreatDoor
set_option maxRecDepth 100000
open Go.RowKit
set_option linter.unusedVariables false
set_option linter.unusedSimpArgs false
def idxB (s:List UInt8)(z:Int):Int:=match s.findIdx? (fun b=>b==z.toNat.toUInt8) with
 | some i=>(i:Int)
 | none=> -1
section
variable {P:Program} {R:Type}
def ixK {R:Type}(args:List V)(k:V→Tree R):Tree R:=match args with
 | [.str s,.c (.int .u8 z)]=>k (.c (.int .i64 (idxB s z)))
 | _=>.fail
theorem xU (s:List UInt8)(p:UInt8→Bool):∀ (n i:Nat),i+n=s.length→((List.range' i n).find? fun j=>p (s.getD j 0))=((s.drop i).findIdx? p).map (i+ ·)
 | 0,i,h=>by rw [List.drop_of_length_le (by omega)];rfl
 | n+1,i,h=>by
  have hi:i<s.length:=by omega
  rw [List.range'_succ,List.find?_cons,Do hi,List.findIdx?_cons,xU s p n (i+1) (by omega)]
  have e:s.getD i 0=s[i]:=by simp [List.getD_eq_getElem?_getD,hi]
  rw [e]
  cases p s[i] with
  | true=>simp
  | false=>
   simp only [Bool.false_eq_true,if_false,Option.map_map]
   cases (s.drop (i+1)).findIdx? p with
   | none=>rfl
   | some j=>simp;omega
theorem aes {s:List UInt8}{z:Int}{w:World}:(Ds #[.string ⟨s.toArray⟩,.int .u8 z]).run P w= .ok (.int .i64 (idxB s z)) w:=by
 have hsz:(ByteArray.mk s.toArray).size=s.length:=by show s.toArray.size=_;simp
 have hget:∀ i,(ByteArray.mk s.toArray)[i]! =s.getD i 0:=fun i=>by
  rcases Nat.lt_or_ge i s.length with hi | hi
  ·rw [getElem!_pos (ByteArray.mk s.toArray) i (by rw [hsz];exact hi),List.getD_eq_getElem?_getD,List.getElem?_eq_getElem hi]
   rfl
  ·rw [getElem!_neg (ByteArray.mk s.toArray) i (by rw [hsz];omega),List.getD_eq_getElem?_getD,List.getElem?_eq_none hi]
   rfl
 have e:=xU s (fun b=>b==z.toNat.toUInt8) s.length 0 (by omega)
 rw [List.drop_zero] at e
 unfold idxB
 show Sem.run P (do
  let b ←Extern.Bytes.bytesOf (.string ⟨s.toArray⟩)
  let c ←Extern.Bytes.asByte (.int .u8 z)
  match (List.range b.size).find? fun i=>b[i]! ==c with
  | some i=>pure (goInt i)
  | none=>pure (goInt (-1))) w=_
 simp only [Extern.Bytes.bytesOf,Extern.Bytes.asByte,Sem.run_bind,Sem.run_pure,Result.andThen_ok,hsz,List.range_eq_range',hget]
 rw [e]
 cases s.findIdx? (fun b=>b==z.toNat.toUInt8) with
 | none=>rfl
 | some i=>simp [goInt]
theorem atU {f:FuncId}{fn:Func}(hf:P.funcs[f]? =some fn)(hb:fn.body.isNone=true)(hn:fn.name≠ "runtime.NumGoroutine") (h1:(Extern.findNext fn).isNone=true) (h2:Extern.find fn=some Ds):
  ∀ args (k:V→Tree R) res,(ixK args k).run=some res→∃ r,(k r).run=some res∧r.plain=true∧(∀ l k,ex r≠.fresh l k)∧yg P f args r:=by
 intro args k res h
 unfold ixK at h
 split at h
 ·rename_i s z
  refine ⟨_,h,rfl,(fun l k h=>by cases h),fun w B cargs hB hgl hlen hrel N hN=> ?_⟩
  obtain ⟨v0,e0,r0⟩:=hrel 0 _ rfl
  obtain ⟨v1,e1,r1⟩:=hrel 1 _ rfl
  have hc:cargs=[v0,v1]:=by
   match cargs,hlen,e0,e1 with
   | [a,b],_,e0,e1=>simp at e0 e1;rw [e0,e1]
  have q0:=Rel.ofC r0
  have q1:=Rel.ofC r1
  subst q0 q1 hc
  unfold Ad
  have h1':Extern.findNext fn=none:=Option.isNone_iff_eq_none.1 h1
  have hb':fn.body=none:=Option.isNone_iff_eq_none.1 hb
  have hm:Sem.run P (mark (.extern f)) w= .ok () w:=rfl
  have hrun:(callFunc f [Value.string ⟨s.toArray⟩,Value.int .u8 z].toArray).run P w= .ok (.value (.int .i64 (idxB s z))) w:=by
   simp [callFunc,Sem.run_bind,hf,hn,hb',hm,h1',h2,aes]
  rw [hrun]
  exact hN _ _ (Gr.refl _) (.c _ _)
 ·cases h
theorem EnvOK.addExt {Γ:(R:Type)→Env R}(hΓ:EnvOK P (Γ R)){f:FuncId}{F:(R:Type)→List V→(V→Tree R)→Tree R}(h:∀ args (k:V→Tree R) res,(F R args k).run=some res→∃ r,(k r).run=some res∧r.plain=true∧(∀ l k,ex r≠.fresh l k)∧yg P f args r):EnvOK P (Env.addFn Γ f F R):=by
 refine ⟨⟨fun f' args k res hc=> ?_⟩,hΓ.inl,hΓ.lp,hΓ.cln,hΓ.mth⟩
 simp only [Env.addFn] at hc
 split at hc
 ·rename_i hff
  subst hff
  exact h args k res hc
 ·exact hΓ.fns.ok f' args k res hc
end
end Go.Proofs.YtolkfnemdejonaaGreatDoor
namespace Go.Proofs.YtolkfnemdejonaaGreatDoor
set_option maxRecDepth 100000
open Go.RowKit
set_option linter.unusedVariables false
theorem amF {f:Nat}{fn:Func}(hf:Dk.funcs[f]? =some fn)(hn:fn.name≠ "runtime.NumGoroutine") (hb:fn.body.isSome=true):∃ fn,Dk.funcs[f]? =some fn∧fn.name≠ "runtime.NumGoroutine" ∧fn.body≠none:=
 ⟨fn,hf,hn,fun h=>by rw [h] at hb;cases hb⟩
theorem al5 {w:World}{B:List Nat}{x:V}{cargs:List Value}(hlen:cargs.length=[x].length)(h:∀ (i:Nat) z,[x][i]? =some z→∃ v,cargs[i]? =some v∧Rel w B [] (ex z) v):∃ a,cargs=[a]∧Rel w B [] (ex x) a:=by
 obtain ⟨a,h1,h2⟩:=h 0 x rfl
 match cargs,hlen,h1 with
 | [p],_,h1=>simp at h1;subst h1;exact ⟨_,rfl,h2⟩
end Go.Proofs.YtolkfnemdejonaaGreatDoor
