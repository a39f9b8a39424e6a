/-
  Parts of my own, one behind the other: Qp7, Qp8, Qp9a, GCq, Qp9.
-/
import Derived.Test.YtolkfnemdejonaaGreatDoorMrg11
import Derived.Test.YtolkfnemdejonaaGreatDoorMrg12
import Derived.Test.YtolkfnemdejonaaGreatDoorMrg13
import Derived.Test.YtolkfnemdejonaaGreatDoorMrg10
open Option renaming bind→gt, bind_eq_some_iff→C7
open Go.IntKind renaming wrap→ne
open Decidable renaming decide→C5
open List renaming length_append→C6, length_cons→C8, length_nil→C9
open Int renaming tmod→Da
open Go.Proofs.Tryz renaming prog→Db
open Sum renaming elim→Dc
namespace Go.Proofs.YtolkfnemdejonaaGreatDoor
set_option maxRecDepth 100000
open Go.RowKit
set_option linter.unusedVariables false
set_option linter.unusedSimpArgs false
set_option maxRecDepth 100000
theorem ame:∃ (h:Arr Int 16) (c:Arr Int 8) (r:Arr Int 24) (k:Arr Int 32) (a:List UInt8),gH 200000 [112]=some (h,0)∧bz 200000 pf af [117]=some c∧dc 200000 c h=some r∧de 200000 pf af [117] [112]=some (r,0)∧iN 200000 h r true=some k∧eU 200000 h r c=some a∧a.length≤1000∧AllB r.l∧k.l≠List.replicate 32 0∧wfB (.arr 32 (.int .u8)) k=true:=by
 have e1:=atT
 have e2:=at7
 rw [show pe=pf from rfl,show au=af from rfl] at e1
 obtain ⟨x,hx,e1⟩:=C7.1 e1
 obtain ⟨h,hh,e1⟩:=C7.1 e1
 rw [hx,hh] at e2
 simp only [Option.bind_some] at e2
 obtain ⟨c,hc,e2⟩:=C7.1 e2
 obtain ⟨k,hk,e1⟩:=Option.map_eq_some_iff.1 e1
 obtain ⟨a,ha,e2⟩:=Option.map_eq_some_iff.1 e2
 simp only [Bool.and_eq_true,decide_eq_true_eq] at e1 e2
 obtain ⟨⟨x2,h2⟩,k1,k2⟩:=e1
 obtain ⟨a1,r1⟩:=e2
 have hx2:=hx
 unfold de at hx2
 obtain ⟨h',hh',hx3⟩:=C7.1 hx2
 have hhe:h'=h:=Option.some.inj (hh'.symm.trans hh)
 subst hhe
 rw [decide_eq_true h2] at hx3
 simp only [Bool.not_true,cond_false] at hx3
 obtain ⟨c',hc',hx4⟩:=C7.1 hx3
 have hce:c'=c:=Option.some.inj (hc'.symm.trans hc)
 subst hce
 obtain ⟨r,hr,hx5⟩:=C7.1 hx4
 simp only [Option.some.injEq] at hx5
 subst hx5
 obtain ⟨h1,h3⟩:=h'
 simp only at h2 hr hk ha
 subst h2
 refine ⟨h1,c',r,k,a,hh,hc,hr,hx,hk,ha,a1,fun y hy=> ?_,k1,k2⟩
 have:=List.all_eq_true.1 r1 y hy
 simpa using this
theorem atN (V:List Int)(h:V.length=49)(hb:AllB V):ix 200000 (layK 2 1 V [117])=some (V,([117],0)):=by
 have e:(layK 2 1 V [117]).2.2=49::(V++[117]):=by
  unfold layK
  have:min V.length 255=V.length:=by omega
  rw [this,List.take_length,h]
  rfl
 have hl:(49::(V++[(117:Int)])).length=51:=by simp;omega
 rw [(arC _ (ae4 2 1 V [117] hb) (by rw [e,hl];omega)).1]
 congr 1
 unfold parK
 rw [e,hl]
 have g:(49::(V++[(117:Int)])).getD 0 0=49:=rfl
 rw [g,if_neg (by omega)]
 have t1:((49::(V++[(117:Int)])).drop 1).take (49:Int).toNat=V:=by
  show (V++[(117:Int)]).take 49=V
  rw [←h,List.take_left]
 have t2:(49::(V++[(117:Int)])).drop (1+(49:Int).toNat)=[117]:=by
  show (V++[(117:Int)]).drop 49=[117]
  rw [←h,List.drop_left]
 rw [t1,t2]
 rfl
theorem alE (l:List Int)(h:l.length≤10000):oq 200000 l=some l:=by
 unfold oq lY
 cases l with
 | nil=>rfl
 | cons x l=>exact (bvn rfl).trans ((bvn rfl).trans ((rpos (by omega) (by omega)).trans rfl))
abbrev As:Type:=List UInt8×(List Us×(Int×(Int×(Arr Int 16×(Int×(Int×(List Int×(Int×(List UInt8×Arr Int 32)))))))))
def z32:Arr Int 32:=⟨List.replicate 32 0,rfl⟩
def st1:As:=([115],([([117],[112])],(1,(1,(af,(1,(3,([],(0,([],z32))))))))))
def st2 (m:List Int)(k:Arr Int 32):As:=([115],([([117],[112])],(2,(1,(af,(1,(3,(m,(3,([117],k))))))))))
theorem atJ (a:List UInt8)(h:a.length≤1000):∃ m,ed 200000 a [87,101,108,99,111,109,101]=some m∧m.length≤10000:=by
 have hb:=aL
 refine ⟨ofB (a++[32,77,61]++[87,101,108,99,111,109,101]), ?_, ?_⟩
 ·unfold ed
  refine (bpos ?_).trans ((bpos ?_).trans ((rpos ?_ (by omega)).trans rfl))
  ·show a.length+3≤maxLen
   omega
  ·show (a++[32,77,61]).length+7≤maxLen
   rw [C6];simp only [C8,C9];omega
  ·show ((a++[32,77,61])++[87,101,108,99,111,109,101]).length≤100000
   simp only [C6,C8,C9];omega
 ·rw [ct];simp only [C6,C8,C9];omega
theorem amC:∃ (r:Arr Int 24) (m:List Int) (k:Arr Int 32),de 200000 pf af [117] [112]=some (r,0)∧k.l≠List.replicate 32 0∧wfB (.arr 32 (.int .u8)) k=true∧AllB r.l∧
  bB 200000 st1 (layK 2 1 (valB pf.l r.l) [117])=some (st2 m k,[(3,(1,m))]):=by
 obtain ⟨h,c,r,k,a,p1,p2,p3,p4,p5,p6,p7,p8,p9,p10⟩:=ame
 obtain ⟨m,m1,m2⟩:=atJ a p7
 refine ⟨r,m,k,p4,p9,p10,p8, ?_⟩
 have hpB:AllB pf.l:=by unfold pf;exact AllB.cons (by omega) (wy 15 0 (by omega))
 have hV:(valB pf.l r.l).length=49:=by
  have:=r.h
  simp only [valB,C6,List.length_replicate,C8,C9,pf.h];omega
 have hVB:AllB (valB pf.l r.l):=((hpB.append (wy 8 0 (by omega))).append p8).append (AllB.cons (by omega) AllB.nil)
 have hpar:=atN _ hV hVB
 have hval:iz 200000 (valB pf.l r.l)=some (pf,(r,0)):=by
  have hpl:=pf.h
  have e1:(valB pf.l r.l).take 16=pf.l:=by
   unfold valB
   rw [List.append_assoc,List.append_assoc,List.take_append_of_le_length (by omega),List.take_of_length_le (by omega)]
  have e2:((valB pf.l r.l).drop 24).take 24=r.l:=by
   have:=r.h
   unfold valB
   rw [List.append_assoc,List.drop_append_of_le_length (by simp only [C6,List.length_replicate];omega),List.drop_eq_nil_of_le (by simp only [C6,List.length_replicate];omega),List.nil_append,List.take_append_of_le_length (by omega),List.take_of_length_le (by omega)]
  have q1:gF _ hV=pf:=Arr.eq e1
  have q2:jv _ hV=r:=Arr.eq e2
  rw [aa5 _ hVB (by omega),dif_pos hV,if_pos ((uz _ hV).1 (by rw [q1,q2])),q1,q2]
 have hproof:bq 200000 st1 pf r [117]=some (h,true):=by
  unfold bq
  refine (bnd (v:=((([117],[112]):Us),true)) (by kernel_rfl)).trans ?_
  refine (bvn rfl).trans ?_
  refine (bnd p1).trans ?_
  refine (bvn rfl).trans ?_
  refine (bnd p2).trans ?_
  refine (bnd p3).trans ?_
  have:=r.h
  refine (bnd (ami r.l r.l p8 p8 (by omega) (by omega) (by omega))).trans ?_
  rw [decide_eq_true rfl]
  rfl
 have htold:bA 200000 (st2 m k)=some [(3,(1,m))]:=by
  unfold bA
  refine (bneg (by show ¬ (3:Int)=0;omega)).trans ?_
  exact (bnd (alE m m2)).trans rfl
 unfold bB
 refine (bnd hpar).trans ?_
 refine (bvn rfl).trans ?_
 refine (bnd hval).trans ?_
 refine (bvn rfl).trans ?_
 refine (bnd hproof).trans ?_
 refine (bvn rfl).trans ?_
 refine (bnd p5).trans ?_
 refine (bnd p2).trans ?_
 refine (bnd p6).trans ?_
 refine (bnd m1).trans ?_
 refine (bnd htold).trans ?_
 rfl
theorem aga:cy 200000=some true:=by
 obtain ⟨r,m,k,p1,p2,p3,p4,p5⟩:=amC
 have htake:aP 200000 st1 (layK 2 1 (valB pf.l r.l) [117])=some (st2 m k,[(3,(1,m))]):=by
  unfold aP
  refine (bnd (v:=false) rfl).trans ?_
  refine (bvn rfl).trans ?_
  refine (bpos rfl).trans ?_
  exact (bnd p5).trans rfl
 unfold cy
 refine (bnd (v:=(st1,[((1:Int),((1:Int),16::(af.l++[115])))])) (by kernel_rfl)).trans ?_
 refine (bnd (v:=false) (by kernel_rfl)).trans ?_
 refine (bnd (v:=false) (by kernel_rfl)).trans ?_
 refine (bvn rfl).trans ?_
 refine (bnd p1).trans ?_
 refine (bnd (aaL pf r)).trans ?_
 refine (bnd (arX 2 1 (valB pf.l r.l) [117] (by simp))).trans ?_
 refine (bnd htake).trans ?_
 refine (bpos rfl).trans ?_
 refine (bnd (v:=true) rfl).trans ?_
 refine (bnd (v:=true) rfl).trans ?_
 refine (bvp rfl).trans ?_
 refine (bnd (v:=true) rfl).trans ?_
 refine (bvp rfl).trans ?_
 refine (bnd (v:=true) (by kernel_rfl)).trans ?_
 refine (bvp rfl).trans ?_
 have hz:wfB (.arr 32 (.int .u8)) z32=true:=by kernel_rfl
 have hne:¬ k=z32:=fun e=>p2 (by rw [e];rfl)
 refine (bnd (v:=true) ?_).trans rfl
 refine (bvp ?_).trans ?_
 ·show (wfB (.arr 32 (.int .u8)) k&&wfB (.arr 32 (.int .u8)) z32)=true
  rw [p3,hz]
  rfl
 ·show some (cond true (!(@C5 (k=z32) _)) false)=some true
  rw [decide_eq_false hne]
  rfl
theorem dT {p:Prop}{i:Decidable p}(h:p):@decide p i=true:=decide_eq_true h
theorem dF {p:Prop}{i:Decidable p}(h:¬ p):@decide p i=false:=decide_eq_false h
abbrev Rs:Type:=List UInt8×(List Us×(Int×(Int×(Arr Int 16×(Int×(Int×(List UInt8×(Arr Int 32×List Ct))))))))
def xS (own:List UInt8)(us:List Us)(st id:Int)(ch:Arr Int 16)(t l:Int)(ans:List Int)(cd:Int)(who:List UInt8)(key:Arr Int 32):As:=(own,(us,(st,(id,(ch,(t,(l,(ans,(cd,(who,key))))))))))
def rS (own:List UInt8)(us:List Us)(st id:Int)(ch:Arr Int 16)(t l:Int)(who:List UInt8)(key:Arr Int 32)(last:List Ct):Rs:=(own,(us,(st,(id,(ch,(t,(l,(who,(key,last)))))))))
def pA (cd id:Int)(ans:List Int):List Ct:=if cd=0 then [] else [(cd,(id,ans))]
structure Okx (own:List UInt8) (us:List Us) (st:Int) (ch:Arr Int 16) (t l:Int) (ans:List Int) (cd:Int) (key:Arr Int 32):Prop where
 fown:own.length≤200
 flen:us.length≤10
 fus:∀ u∈us,u.1.length≤200∧u.2.length≤300
 fst:0≤st∧st≤3
 fch:AllB ch.l
 ft:0≤t∧t≤5
 ft0:st=0→t=0
 fl:0≤l∧l≤3
 fl1:st=1→1≤l
 fans:AllB ans
 falen:ans.length≤10000
 fcd:st≤1→cd=0
 fkey:AllB key.l
def Rlx (x:As)(r:Rs):Prop:=∃ own us st id ch t l ans cd who key,x=xS own us st id ch t l ans cd who key∧r=rS own us st id ch t l who key (pA cd id ans)∧Okx own us st ch t l ans cd key
def Few (L:List Ct):Prop:=L=[]∨∃ p:Ct,L=[p]∧AllB p.2.2
def Both (a:As×List Ct)(b:Rs×List Ct):Prop:=Rlx a.1 b.1∧b.2=a.2∧Few a.2
theorem arZ (id:Int)(ch:Arr Int 16)(own:List UInt8)(h:AllB ch.l):AllB (layK 1 id ch.l own).2.2:=ae4 1 id ch.l own h
theorem asw (own us st id ch t l ans cd who key)(ho:own.length≤200)(ht:0≤t∧t≤5):dG 200000 (xS own us st id ch t l ans cd who key)=some (xS own us st id ch (t+1) 3 ans cd who key,[layK 1 id ch.l own]):=by
 unfold dG
 refine (bnd (arX 1 id ch.l own (by omega))).trans ?_
 show some ((own,(us,(st,(id,(ch,(ne .i64 (t+1),(3,(ans,(cd,(who,key)))))))))),[layK 1 id ch.l own])=_
 rw [ac (by omega) (by omega)]
 rfl
theorem alF (own us st id ch t l who key last)(ho:own.length≤200):jE 200000 (rS own us st id ch t l who key last)=some [layK 1 id ch.l own]:=by
 unfold jE
 exact (bnd (arW 1 id ch.l own (by omega))).trans rfl
theorem ag7 (x:As)(r:Rs)(c:Arr Int 16)(h:Rlx x r)(hc:AllB c.l):∃ a b,br 200000 x c=some a∧dQ 200000 r c=some b∧Both a b:=by
 obtain ⟨own,us,st,id,ch,t,l,ans,cd,who,key,rfl,rfl,ok⟩:=h
 by_cases h0:st=0
 ·subst h0
  have ht:=ok.ft0 rfl
  subst ht
  have hcd:=ok.fcd (by omega)
  subst hcd
  refine ⟨(xS own us 1 (ne .u8 (id+1)) c 1 3 ans 0 who key,[layK 1 (ne .u8 (id+1)) c.l own]),(rS own us 1 (ne .u8 (id+1)) c 1 3 who key [],[layK 1 (ne .u8 (id+1)) c.l own]), ?_, ?_,⟨_,_,_,_,_,_,_,_,_,_,_,rfl,rfl, ?_⟩,rfl,.inr ⟨_,rfl,arZ _ _ _ hc⟩⟩
  ·unfold br
   refine (bvn rfl).trans ?_
   exact (bnd (asw own us 1 (ne .u8 (id+1)) c 0 l ans 0 who key ok.fown (by omega))).trans rfl
  ·unfold dQ
   refine (bvn rfl).trans ?_
   exact (bnd (alF own us 1 (ne .u8 (id+1)) c 1 3 who key [] ok.fown)).trans rfl
  ·exact ⟨ok.fown,ok.flen,ok.fus,by omega,hc,by omega,by omega,by omega,by omega,ok.fans,ok.falen,fun _=>rfl,ok.fkey⟩
 ·refine ⟨(xS own us st id ch t l ans cd who key,[]),(rS own us st id ch t l who key (pA cd id ans),[]), ?_, ?_,⟨_,_,_,_,_,_,_,_,_,_,_,rfl,rfl,ok⟩,rfl,.inl rfl⟩
  ·unfold br
   exact (bvp (show (!(decide (st=0)))=true by rw [decide_eq_false h0];rfl)).trans rfl
  ·unfold dQ
   exact (bvp (show (!(decide (st=0)))=true by rw [decide_eq_false h0];rfl)).trans rfl
theorem alQ (x:As)(r:Rs)(h:Rlx x r):∃ a b,bn 200000 x=some a∧dt 200000 r=some b∧Both a b:=by
 obtain ⟨own,us,st,id,ch,t,l,ans,cd,who,key,rfl,rfl,ok⟩:=h
 by_cases h1:st=1
 ·subst h1
  have hl:=ok.fl
  have hl1:=ok.fl1 rfl
  have ht:=ok.ft
  have hcd:=ok.fcd (by omega)
  subst hcd
  have w:ne .i64 (l-1)=l-1:=ac (by omega) (by omega)
  by_cases hp:0<l-1
  ·refine ⟨(xS own us 1 id ch t (l-1) ans 0 who key,[]),(rS own us 1 id ch t (l-1) who key [],[]), ?_, ?_,⟨_,_,_,_,_,_,_,_,_,_,_,rfl,rfl, ?_⟩,rfl,.inl rfl⟩
   ·unfold bn
    refine (bvn rfl).trans ?_
    refine (bpos (show 0<ne .i64 (l-1) by omega)).trans ?_
    show some ((own,(us,(1,(id,(ch,(t,(ne .i64 (l-1),(ans,(0,(who,key)))))))))),([]:List Ct))=_
    rw [w];rfl
   ·unfold dt
    refine (bvn rfl).trans ?_
    refine (bpos (show 0<ne .i64 (l-1) by omega)).trans ?_
    show some ((own,(us,(1,(id,(ch,(t,(ne .i64 (l-1),(who,(key,[]))))))))) ,([]:List Ct))=_
    rw [w];rfl
   ·exact ⟨ok.fown,ok.flen,ok.fus,by omega,ok.fch,ok.ft,by omega,by omega,by omega,ok.fans,ok.falen,fun _=>rfl,ok.fkey⟩
  ·have hle:¬ 0<ne .i64 (l-1):=by omega
   by_cases h5:t=5
   ·subst h5
    refine ⟨(xS own us 3 id ch 5 (l-1) ans 0 who key,[]),(rS own us 3 id ch 5 (l-1) who key [],[]), ?_, ?_,⟨_,_,_,_,_,_,_,_,_,_,_,rfl,rfl, ?_⟩,rfl,.inl rfl⟩
    ·unfold bn
     refine (bvn rfl).trans ?_
     refine (bneg hle).trans ?_
     refine (bneg (show ¬ (5:Int)<5 by omega)).trans ?_
     show some ((own,(us,(3,(id,(ch,(5,(ne .i64 (l-1),(ans,(0,(who,key)))))))))),([]:List Ct))=_
     rw [w];rfl
    ·unfold dt
     refine (bvn rfl).trans ?_
     refine (bneg hle).trans ?_
     refine (bpos rfl).trans ?_
     show some ((own,(us,(3,(id,(ch,(5,(ne .i64 (l-1),(who,(key,[]))))))))) ,([]:List Ct))=_
     rw [w];rfl
    ·exact ⟨ok.fown,ok.flen,ok.fus,by omega,ok.fch,ok.ft,by omega,by omega,by omega,ok.fans,ok.falen,fun _=>rfl,ok.fkey⟩
   ·refine ⟨(xS own us 1 id ch (t+1) 3 ans 0 who key,[layK 1 id ch.l own]),(rS own us 1 id ch (t+1) 3 who key [],[layK 1 id ch.l own]), ?_, ?_,⟨_,_,_,_,_,_,_,_,_,_,_,rfl,rfl, ?_⟩,rfl,.inr ⟨_,rfl,arZ _ _ _ ok.fch⟩⟩
    ·unfold bn
     refine (bvn rfl).trans ?_
     refine (bneg hle).trans ?_
     refine (bpos (show t<5 by omega)).trans ?_
     exact (bnd (asw own us 1 id ch t _ ans 0 who key ok.fown ok.ft)).trans rfl
    ·unfold dt
     refine (bvn rfl).trans ?_
     refine (bneg hle).trans ?_
     refine (bneg h5).trans ?_
     refine (bnd (alF own us 1 id ch _ 3 who key [] ok.fown)).trans ?_
     show some ((own,(us,(1,(id,(ch,(ne .i64 (t+1),(3,(who,(key,[]))))))))) ,[layK 1 id ch.l own])=_
     rw [ac (by omega) (by omega)];rfl
    ·exact ⟨ok.fown,ok.flen,ok.fus,by omega,ok.fch,by omega,by omega,by omega,by omega,ok.fans,ok.falen,fun _=>rfl,ok.fkey⟩
 ·refine ⟨(xS own us st id ch t l ans cd who key,[]),(rS own us st id ch t l who key (pA cd id ans),[]), ?_, ?_,⟨_,_,_,_,_,_,_,_,_,_,_,rfl,rfl,ok⟩,rfl,.inl rfl⟩
  ·unfold bn
   exact (bvp (show (!(decide (st=1)))=true by rw [decide_eq_false h1];rfl)).trans rfl
  ·unfold dt
   exact (bvp (show (!(decide (st=1)))=true by rw [decide_eq_false h1];rfl)).trans rfl
theorem abp (b:List UInt8):∀ (l:List Us) (u:Us),s9 b l=some u→u∈l
 | [],u,h=>by unfold s9 at h;cases h
 | v::l,u,h=>by
  unfold s9 at h
  split at h
  ·injection h with h;subst h;exact List.mem_cons_self
  ·exact List.mem_cons_of_mem _ (abp b l u h)
theorem aeJ (own:List UInt8)(us:List Us)(st id:Int)(ch:Arr Int 16)(t l:Int)(ans:List Int)(cd:Int)(who:List UInt8)(key:Arr Int 32)(last:List Ct)(peer:Arr Int 16)(r:Arr Int 24)(name:List UInt8)(hn:name.length≤600)(hl:us.length≤10)(hu:∀ u∈us,u.1.length≤200∧u.2.length≤300)(hch:AllB ch.l)(hp:AllB peer.l)(hr:AllB r.l):
  ∃ (Dp Dr:Arr Int 16) (b:Bool),bq 200000 (xS own us st id ch t l ans cd who key) peer r name=some (Dp,b)∧eQ 200000 (rS own us st id ch t l who key last) peer r name=some (Dr,b)∧(b=true→Dp=Dr∧AllB Dr.l):=by
 have oks:oksU us:=fun u hu'=>by have:=hu u hu';exact ⟨by omega,by omega⟩
 have f1:=ase us name (by omega) oks (by omega)
 have f2:=asd us name (by omega) oks (by omega)
 cases hfs:s9 (ui name) us with
 | none=>
  rw [hfs] at f1 f2
  obtain ⟨D,e,d1,d2,d3⟩:=CR [] (by simp)
  refine ⟨z16,z16,false, ?_, ?_,nofun⟩
  ·unfold bq
   exact (bnd f1).trans ((bvp rfl).trans rfl)
  ·unfold eQ
   refine (bnd f2).trans ((bnd d2).trans ?_)
   exact (bnd (v:=true) (bvp rfl)).trans ((bvp rfl).trans rfl)
 | some u=>
  rw [hfs] at f1 f2
  have hm:=hu u (abp _ _ _ hfs)
  obtain ⟨D,e,d1,d2,d3⟩:=CR u.2 (by omega)
  by_cases he:e=0
  ·obtain ⟨C,c1,c2,c3⟩:=abz peer ch name hp hch hn
   obtain ⟨W,r1,r2,r3⟩:=aez C D c1 d3
   have hWl:=W.h
   have hrl:=r.h
   have ho:=ami W.l r.l r1 hr (by omega) (by omega) (N:=200000) (by omega)
   have hv:(bif (!(true)) then some true else some (cond false true (!(decide (e=(0:Int))))))=some false:=(bvn rfl).trans (by rw [decide_eq_true he];rfl)
   have hwf:(wfB (.arr 24 (.int .u8)) W&&wfB (.arr 24 (.int .u8)) r)=true:=by rw [wfB_b W r1,wfB_b r hr];rfl
   by_cases hw:W=r
   ·subst hw
    rw [decide_eq_true rfl] at ho
    refine ⟨D,D,true, ?_, ?_,fun _=>⟨rfl,d3⟩⟩
    ·unfold bq
     refine (bnd f1).trans ((bvn rfl).trans ((bnd d1).trans ((bvn (by rw [decide_eq_true he];rfl)).trans ((bnd c2).trans ((bnd r2).trans ((bnd ho).trans ?_))))))
     exact (bvn rfl).trans rfl
    ·unfold eQ
     refine (bnd f2).trans ((bnd d2).trans ((bnd hv).trans ((bvn rfl).trans ((bnd c3).trans ((bnd r3).trans ((bvp hwf).trans ?_))))))
     show some (D,@decide (W=W) _)=some (D,true)
     rw [dT rfl]
   ·rw [decide_eq_false (fun h=>hw (Arr.eq h))] at ho
    refine ⟨z16,D,false, ?_, ?_,nofun⟩
    ·unfold bq
     refine (bnd f1).trans ((bvn rfl).trans ((bnd d1).trans ((bvn (by rw [decide_eq_true he];rfl)).trans ((bnd c2).trans ((bnd r2).trans ((bnd ho).trans ?_))))))
     exact (bvp rfl).trans rfl
    ·unfold eQ
     refine (bnd f2).trans ((bnd d2).trans ((bnd hv).trans ((bvn rfl).trans ((bnd c3).trans ((bnd r3).trans ((bvp hwf).trans ?_))))))
     show some (D,@decide (W=r) _)=some (D,false)
     rw [dF hw]
  ·refine ⟨z16,z16,false, ?_, ?_,nofun⟩
   ·unfold bq
    exact (bnd f1).trans ((bvn rfl).trans ((bnd d1).trans ((bvp (by rw [decide_eq_false he];rfl)).trans rfl)))
   ·unfold eQ
    refine (bnd f2).trans ((bnd d2).trans ?_)
    refine (bnd (v:=true) ((bvn rfl).trans ?_)).trans ((bvp rfl).trans rfl)
    show some (cond false true (!(decide (e=0))))=some true
    rw [decide_eq_false he];rfl
theorem alS (a:List UInt8)(h:a.length≤1000):∃ m:List Int,ed 200000 a [87,101,108,99,111,109,101]=some m∧gB 200000 a [87,101,108,99,111,109,101]=some m∧AllB m∧m.length≤10000:=by
 have hb:=aL
 have q1:a.length+3≤maxLen:=by omega
 have q2:(a++[32,77,61]).length+7≤maxLen:=by rw [C6];simp only [C8,C9];omega
 have q3:((a++[32,77,61])++[87,101,108,99,111,109,101]).length≤100000:=by simp only [C6,C8,C9];omega
 refine ⟨ofB ((a++[32,77,61])++[87,101,108,99,111,109,101]), ?_, ?_,CS _, ?_⟩
 ·unfold ed
  exact (bpos q1).trans ((bpos q2).trans ((rpos q3 (by omega)).trans rfl))
 ·unfold gB
  exact (bpos q1).trans ((bpos q2).trans ((rpos q3 (by omega)).trans rfl))
 ·rw [ct];simp only [C6,C8,C9];omega
def fU (a:Arr Int 16):Fl:=(691,(false,(a,[78,111])))
theorem ahT (a:Arr Int 16)(ha:AllB a.l):∃ m:List Int,jH 200000 (fU a)=some (m,0)∧jG 200000 (fU a)=some (m,0)∧AllB m∧m.length≤10000:=by
 have e:ads (fU a)=(ofB (layF (fU a)),0):=by
  unfold ads
  rw [if_neg (by show ¬ ((691:Int)<0∨9999<(691:Int));omega),if_pos (by show asc [78,111]=true;decide)]
 refine ⟨ofB (layF (fU a)), ?_, ?_,CS _, ?_⟩
 ·rw [ask (fU a) ha (by show 2≤1000;omega),e]
 ·rw [asj (fU a) ha (by show 2≤1000;omega),e]
 ·have h1:=a.h
  have h2:=vT (n:=691) (by omega)
  have h3:=lf a.l
  rw [ct]
  show (L8 (Lib.decDigits 691) [48] (hexS a.l) [78,111]).length≤10000
  unfold L8 mE mR mC mV
  simp only [C6,C8,C9];omega
theorem aaM (own us st id ch t l ans cd who key)(ha:ans.length≤10000):bA 200000 (xS own us st id ch t l ans cd who key)=some (pA cd id ans):=by
 unfold bA pA
 by_cases h:cd=0
 ·rw [if_pos h]
  exact (bpos h).trans rfl
 ·rw [if_neg h]
  exact (bneg h).trans ((bnd (alE ans ha)).trans rfl)
theorem zC (cd id:Int)(ans:List Int)(h:AllB ans):Few (pA cd id ans):=by
 unfold pA
 by_cases hc:cd=0
 ·rw [if_pos hc];exact .inl rfl
 ·rw [if_neg hc];exact .inr ⟨_,rfl,h⟩
theorem arD (c:Ct)(hc:AllB c.2.2):AllB (parK c).1∧(parK c).1.length≤c.2.2.length∧(parK c).2.1.length≤c.2.2.length:=by
 unfold parK
 split
 ·exact ⟨AllB.nil,Nat.zero_le _,Nat.zero_le _⟩
 ·refine ⟨(hc.drop 1).take _, ?_, ?_⟩
  ·show ((c.2.2.drop 1).take _).length≤_
   rw [List.length_take,List.length_drop];omega
  ·show ((c.2.2.drop _).map afS).length≤_
   rw [List.length_map,List.length_drop];omega
theorem ahI (own:List UInt8)(us:List Us)(id:Int)(ch:Arr Int 16)(t l:Int)(ans:List Int)(who:List UInt8)(key:Arr Int 32)(d:List Int)(ok:Okx own us 1 ch t l ans 0 key)(hd:AllB d)(hl:d.length≤600):
  ∃ a b,bB 200000 (xS own us 1 id ch t l ans 0 who key) (2,(id,d))=some a∧ce 200000 (rS own us 1 id ch t l who key []) (2,(id,d))=some b∧Both a b:=by
 have nothing:Both (xS own us 1 id ch t l ans 0 who key,[]) (rS own us 1 id ch t l who key [],[]):=⟨⟨_,_,_,_,_,_,_,_,_,_,_,rfl,rfl,ok⟩,rfl,.inl rfl⟩
 obtain ⟨p1,p2⟩:=arC (2,(id,d)) hd (by show d.length≤1000;omega)
 obtain ⟨b1,b2,b3⟩:=arD (2,(id,d)) hd
 simp only at b2 b3
 generalize parK (2,(id,d))=pk at p1 p2 b1 b2 b3
 obtain ⟨v,n,e⟩:=pk
 simp only at b1 b2 b3
 have hv:=aa5 v b1 (by omega)
 have hr:=aeu v
 have hB:=amd v b1
 generalize (if h:v.length=49 then (if ud v then (gF v h,jv v h,(0:Int)) else (z16,z24,3)) else (z16,z24,1))=pv at hv hr hB
 obtain ⟨peer,resp,e2⟩:=pv
 simp only at hB
 obtain ⟨hB1,hB2⟩:=hB
 by_cases he:e=0∧e2=0
 ·obtain ⟨rfl,rfl⟩:=he
  obtain ⟨Dp,Dr,q,q1,q2,q3⟩:=aeJ own us 1 id ch t l ans 0 who key [] peer resp n (by omega) ok.flen ok.fus ok.fch hB1 hB2
  have hcond:(bif (!(decide ((0:Int)=0))) then some true else some (cond false true (!(decide ((0:Int)=0)))))=some false:=rfl
  cases q with
  | false=>
   obtain ⟨m,m1,m2,m3,m4⟩:=ahT ch ok.fch
   refine ⟨(xS own us 3 id ch t l m 4 who key,pA 4 id m),(rS own us 3 id ch t l who key (pA 4 id m),pA 4 id m), ?_, ?_,⟨_,_,_,_,_,_,_,_,_,_,_,rfl,rfl, ?_⟩,rfl,zC 4 id m m3⟩
   ·unfold bB
    refine (bnd p1).trans ((bvn rfl).trans ((bnd hv).trans ((bvn rfl).trans ((bnd q1).trans ((bvp rfl).trans ((bnd m1).trans ?_))))))
    exact (bnd (aaM own us 3 id ch t l m 4 who key m4)).trans rfl
   ·unfold ce
    refine (bnd (v:=false) (by show (bif (!(decide ((2:Int)=2))) then some true else some (cond false true (!(decide (id=id)))))=some false;rw [decide_eq_true (rfl:id=id)];rfl)).trans ?_
    refine (bnd (v:=false) rfl).trans ((bvn rfl).trans ((bvn rfl).trans ?_))
    refine (bnd p2).trans ((bnd hr).trans ((bnd hcond).trans ((bvn rfl).trans ((bnd q2).trans ((bvp rfl).trans ((bnd m2).trans ?_))))))
    rfl
   ·exact ⟨ok.fown,ok.flen,ok.fus,by omega,ok.fch,ok.ft,by omega,ok.fl,by omega,m3,m4,by omega,ok.fkey⟩
  | true=>
   obtain ⟨rfl,dB⟩:=q3 rfl
   obtain ⟨C,c1,c2,c3⟩:=abz peer ch n hB1 ok.fch (by omega)
   obtain ⟨K,k1,k2,k3⟩:=ahR Dp resp dB hB2
   obtain ⟨a,a1,a2,a3⟩:=af8 Dp resp C dB hB2 c1
   obtain ⟨m,m1,m2,m3,m4⟩:=alS a (by omega)
   refine ⟨(xS own us 2 id ch t l m 3 n K,pA 3 id m),(rS own us 2 id ch t l n K (pA 3 id m),pA 3 id m), ?_, ?_,⟨_,_,_,_,_,_,_,_,_,_,_,rfl,rfl, ?_⟩,rfl,zC 3 id m m3⟩
   ·unfold bB
    refine (bnd p1).trans ((bvn rfl).trans ((bnd hv).trans ((bvn rfl).trans ((bnd q1).trans ((bvn rfl).trans ((bnd (k2 true)).trans ((bnd c2).trans ((bnd a2).trans ((bnd m1).trans ?_)))))))))
    exact (bnd (aaM own us 2 id ch t l m 3 n K m4)).trans rfl
   ·unfold ce
    refine (bnd (v:=false) (by show (bif (!(decide ((2:Int)=2))) then some true else some (cond false true (!(decide (id=id)))))=some false;rw [decide_eq_true (rfl:id=id)];rfl)).trans ?_
    refine (bnd (v:=false) rfl).trans ((bvn rfl).trans ((bvn rfl).trans ?_))
    refine (bnd p2).trans ((bnd hr).trans ((bnd hcond).trans ((bvn rfl).trans ((bnd q2).trans ((bvn rfl).trans ((bnd c3).trans ((bnd a3).trans ((bnd k3).trans ((bnd m2).trans ?_)))))))))
    rfl
   ·exact ⟨ok.fown,ok.flen,ok.fus,by omega,ok.fch,ok.ft,by omega,ok.fl,by omega,m3,m4,by omega,k1⟩
 ·refine ⟨_,_, ?_, ?_,nothing⟩
  ·unfold bB
   refine (bnd p1).trans ?_
   by_cases h0:e=0
   ·have h2:¬ e2=0:=fun h=>he ⟨h0,h⟩
    exact (bvn (show (!(decide (e=0)))=false by rw [decide_eq_true h0];rfl)).trans ((bnd hv).trans ((bvp (show (!(decide (e2=0)))=true by rw [decide_eq_false h2];rfl)).trans rfl))
   ·exact (bvp (show (!(decide (e=0)))=true by rw [decide_eq_false h0];rfl)).trans rfl
  ·unfold ce
   refine (bnd (v:=false) (by show (bif (!(decide ((2:Int)=2))) then some true else some (cond false true (!(decide (id=id)))))=some false;rw [decide_eq_true (rfl:id=id)];rfl)).trans ?_
   refine (bnd (v:=false) rfl).trans ((bvn rfl).trans ((bvn rfl).trans ?_))
   refine (bnd p2).trans ((bnd hr).trans ?_)
   refine (bnd (v:=true) ?_).trans ((bvp rfl).trans rfl)
   show (bif (!(decide (e=0))) then some true else some (cond false true (!(decide (e2=0)))))=some true
   by_cases h0:e=0
   ·have h2:¬ e2=0:=fun h=>he ⟨h0,h⟩
    rw [decide_eq_true h0,decide_eq_false h2];rfl
   ·rw [decide_eq_false h0];rfl
theorem yu (x:As)(r:Rs)(c:Ct)(h:Rlx x r)(hc:AllB c.2.2)(hl:c.2.2.length≤600):∃ a b,aP 200000 x c=some a∧ce 200000 r c=some b∧Both a b:=by
 obtain ⟨own,us,st,id,ch,t,l,ans,cd,who,key,rfl,rfl,ok⟩:=h
 obtain ⟨c0,c1,d⟩:=c
 simp only at hc hl
 have nothing:Both (xS own us st id ch t l ans cd who key,[]) (rS own us st id ch t l who key (pA cd id ans),[]):=⟨⟨_,_,_,_,_,_,_,_,_,_,_,rfl,rfl,ok⟩,rfl,.inl rfl⟩
 have told:Both (xS own us st id ch t l ans cd who key,pA cd id ans) (rS own us st id ch t l who key (pA cd id ans),pA cd id ans):=⟨⟨_,_,_,_,_,_,_,_,_,_,_,rfl,rfl,ok⟩,rfl,zC cd id ans ok.fans⟩
 by_cases k:c0=2∧c1=id
 ·obtain ⟨rfl,rfl⟩:=k
  have hq:(bif (!(decide ((2:Int)=2))) then some true else some (cond false true (!(decide (c1=c1)))))=some false:=by rw [decide_eq_true (rfl:c1=c1)];rfl
  have hst:=ok.fst
  have cases4:st=0∨st=1∨st=2∨st=3:=by omega
  rcases cases4 with rfl | rfl | rfl | rfl
  ·refine ⟨_,_, ?_, ?_,nothing⟩
   ·unfold aP
    refine (bnd hq).trans ((bvn rfl).trans ?_)
    exact (bneg (show ¬ (0:Int)=1 by omega)).trans ((bneg (show ¬ (0:Int)=2 by omega)).trans ((bneg (show ¬ (0:Int)=3 by omega)).trans rfl))
   ·unfold ce
    refine (bnd hq).trans ?_
    exact (bnd (v:=true) rfl).trans ((bvp rfl).trans rfl)
  ·have hcd:=ok.fcd (by omega)
   subst hcd
   obtain ⟨a,b,j1,j2,j3⟩:=ahI own us c1 ch t l ans who key d ok hc hl
   refine ⟨a,b, ?_,j2,j3⟩
   unfold aP
   refine (bnd hq).trans ((bvn rfl).trans ((bpos rfl).trans ?_))
   exact (bnd j1).trans rfl
  ·refine ⟨_,_, ?_, ?_,told⟩
   ·unfold aP
    refine (bnd hq).trans ((bvn rfl).trans ?_)
    refine (bneg (show ¬ (2:Int)=1 by omega)).trans ((bpos rfl).trans ((bpos rfl).trans ?_))
    exact (bnd (aaM own us 2 c1 ch t l ans cd who key ok.falen)).trans rfl
   ·unfold ce
    refine (bnd hq).trans ?_
    exact (bnd (v:=false) rfl).trans ((bvn rfl).trans ((bvp rfl).trans rfl))
  ·refine ⟨_,_, ?_, ?_,told⟩
   ·unfold aP
    refine (bnd hq).trans ((bvn rfl).trans ?_)
    refine (bneg (show ¬ (3:Int)=1 by omega)).trans ((bneg (show ¬ (3:Int)=2 by omega)).trans ((bpos rfl).trans ?_))
    exact (bnd (aaM own us 3 c1 ch t l ans cd who key ok.falen)).trans rfl
   ·unfold ce
    refine (bnd hq).trans ?_
    exact (bnd (v:=false) rfl).trans ((bvn rfl).trans ((bvp rfl).trans rfl))
 ·have hq:(bif (!(decide (c0=2))) then some true else some (cond false true (!(decide (c1=id)))))=some true:=by
   by_cases h0:c0=2
   ·have h1:¬ c1=id:=fun h=>k ⟨h0,h⟩
    rw [decide_eq_true h0,decide_eq_false h1];rfl
   ·rw [decide_eq_false h0];rfl
  refine ⟨_,_, ?_, ?_,nothing⟩
  ·unfold aP
   exact (bnd hq).trans ((bvp rfl).trans rfl)
  ·unfold ce
   refine (bnd hq).trans ?_
   exact (bnd (v:=true) (bvp rfl)).trans ((bvp rfl).trans rfl)
end Go.Proofs.YtolkfnemdejonaaGreatDoor
namespace Go.Proofs.YtolkfnemdejonaaGreatDoor
open Go.RowKit
set_option linter.unusedVariables false
set_option maxRecDepth 100000
section
variable (N:Nat)
noncomputable def eH:LI:=⟨183,0,[],⟨[(7,.lit (.box 0 0)),(8,.lit (.box 1 0)),(13,.ty (.sl qz2)),(14,.ty (.sl qz2)),(35,.ty qz3),(36,.ty (.int .i64)),(37,.ty (.int .i64)),(165,.ty (.int .i64)),(166,.ty (.int .i64))],[.box 31 qz0,.box 36 qz1]⟩,[(.ret,⟨[(6,.ty .bool)],[]⟩),(.exit 3,⟨[(7,.lit (.box 0 0)),(8,.lit (.box 1 0)),(35,.ty qz3),(36,.ty (.int .i64)),(37,.ty (.int .i64))],[.box 31 qz0,.box 36 qz1]⟩)]⟩
noncomputable def aZ (X:(((List pz5)×((List pz5)×((List pz20)×(Int×pz10))))×((List UInt8×pz0)×((List UInt8×pz1)×Unit)))→Option ((((Bool×Unit)×Unit) ⊕ pz4)))(a13:List pz5)(b14:List pz5)(x35:List pz20)(x36:Int)(x37:Int)(x165:Int)(x166:Int)(h0:List UInt8×pz0)(h1:List UInt8×pz1):Option ((((Bool×Unit)×Unit) ⊕ pz4)):=
 bif (decide (x166<x165)) then
  gt (getI a13 x166) fun v11=>
  gt (getI b14 x166) fun v12=>
  gt (sd N v11 v12) fun v13=>
  bif (!v13) then
   some ((.inl ((false,()),())))
  else
   (X ((a13,(b14,(x35,(x36,(x37,(x165,((ne .i64 (x166+1)),()))))))),(h0,(h1,()))))
 else
  some ((.inr ((x35,(x36,(x37,()))),(h0,(h1,())))))
noncomputable def av (c:(((List pz5)×((List pz5)×((List pz20)×(Int×pz10))))×((List UInt8×pz0)×((List UInt8×pz1)×Unit)))):Option ((((Bool×Unit)×Unit) ⊕ pz4)):=gl (fun X c=>aZ N X c.1.1 c.1.2.1 c.1.2.2.1 c.1.2.2.2.1 c.1.2.2.2.2.1 c.1.2.2.2.2.2.1 c.1.2.2.2.2.2.2.1 c.2.1 c.2.2.1) N c
theorem oL (X:(((List pz5)×((List pz5)×((List pz20)×(Int×pz10))))×((List UInt8×pz0)×((List UInt8×pz1)×Unit)))→Option ((((Bool×Unit)×Unit) ⊕ pz4)))(a13:List pz5)(b14:List pz5)(x35:List pz20)(x36:Int)(x37:Int)(x165:Int)(x166:Int)(h0:List UInt8×pz0)(h1:List UInt8×pz1):(aq Db (anX N) 400 [3] eH (ao Db [3] 28) X ((a13,b14,x35,x36,x37,x165,x166,()),(h0,h1,()))).run=aZ N X a13 b14 x35 x36 x37 x165 x166 h0 h1:=by kernel_rfl
noncomputable def aim:(R:Type)→Env R:=Env.addLp (anX N) [3] 0 28 (fun R=>lpK Db eH (fun X c=>aZ N X c.1.1 c.1.2.1 c.1.2.2.1 c.1.2.2.2.1 c.1.2.2.2.2.1 c.1.2.2.2.2.2.1 c.1.2.2.2.2.2.2.1 c.2.1 c.2.2.1) N)
theorem abI (R:Type):EnvOK Db (aim N R):=EnvOK.addLp (abJ N R) (by kernel_rfl) (aw (li:=eH) hmx (abJ N _) (by kernel_rfl) ab (fun X c=>oL N X c.1.1 c.1.2.1 c.1.2.2.1 c.1.2.2.2.1 c.1.2.2.2.2.1 c.1.2.2.2.2.2.1 c.1.2.2.2.2.2.2.1 c.2.1 c.2.2.1) N)
noncomputable def cY:LI:=⟨183,0,[],⟨[(7,.lit (.box 0 0)),(8,.lit (.box 1 0)),(35,.ty qz3),(36,.ty (.int .i64)),(37,.ty (.int .i64))],[.box 31 qz0,.box 36 qz1]⟩,[(.ret,⟨[(6,.ty .bool)],[]⟩),(.exit 0,⟨[],[]⟩)]⟩
def tT {R:Type}:Tree R→Tree R
  | .ite _ x _=>x
  | t=>t
def tE {R:Type}:Tree R→Tree R
  | .ite _ _ y=>y
  | t=>t
def bT {R:Type}:Tree R→Type
  | .bind (α:=α) _ _=>α
  | _=>Unit
def bF {R:Type}:(t:Tree R)→bT t→Tree R
  | .bind _ k=>k
  | .done _=>fun _=>.fail
  | .fail=>fun _=>.fail
  | .tail _=>fun _=>.fail
  | .ite _ _ _=>fun _=>.fail
  | .cases _ _ _=>fun _=>.fail
def apB {R α:Type}(t:Tree R)(h:α=bT t)(v:α):Tree R:=bF t (cast h v)
def isI {R:Type}:Tree R→Bool
  | .ite _ _ _=>true
  | _=>false
def iteB {R:Type}:Tree R→Bool
  | .ite b _ _=>b
  | _=>false
def isB {R:Type}:Tree R→Bool
  | .bind _ _=>true
  | _=>false
def bO {R:Type}:(t:Tree R)→Option (bT t)
  | .bind m _=>m
  | .done _=>none
  | .fail=>none
  | .tail _=>none
  | .ite _ _ _=>none
  | .cases _ _ _=>none
theorem nI {R:Type}{t:Tree R}{c:Bool}{x y:Option R}(hi:isI t=true)(hc:iteB t=c)(hx:(tT t).run=x)(hy:(tE t).run=y):t.run=bif c then x else y:=by
  cases t with
  | ite b u v=>subst hc hx hy;rfl
  | _=>simp [isI] at hi
theorem nE {R:Type}{t:Tree R}{x:Option R}(hi:isI t=true)(hc:iteB t=false)(hx:(tE t).run=x):t.run=x:=(nI hi hc rfl hx).trans rfl
theorem nB {R α:Type}{t:Tree R}(h:α=bT t){m:Option α}(hi:isB t=true)(hm:bO t=cast (congrArg Option h) m){f:α→Option R}(hf:∀ v,(apB t h v).run=f v):t.run=m.bind f:=by
  cases t with
  | bind o k=>
    have h':α=_:=h
    subst h'
    have hm':o=m:=hm
    subst hm'
    show (o.bind fun a=>(k a).run)=o.bind f
    congr 1
    funext a
    exact hf a
  | _=>simp [isB] at hi
noncomputable def aj (X:pz4→Option ((((Bool×Unit)×Unit) ⊕ (Unit×Unit))))(x35:List pz20)(x36:Int)(x37:Int)(h0:List UInt8×pz0)(h1:List UInt8×pz1):=aq Db (aim N) 400 [3] cY (ao Db [3] 5) X ((x35,x36,x37,()),(h0,h1,()))
theorem ai (X:pz4→Option ((((Bool×Unit)×Unit) ⊕ (Unit×Unit))))(x35:List pz20)(x36:Int)(x37:Int)(h0:List UInt8×pz0)(h1:List UInt8×pz1):(pz20)=bT (tT (aj N X x35 x36 x37 h0 h1)):=by kernel_rfl
theorem ak (X:pz4→Option ((((Bool×Unit)×Unit) ⊕ (Unit×Unit))))(x35:List pz20)(x36:Int)(x37:Int)(h0:List UInt8×pz0)(h1:List UInt8×pz1)(v7:pz20):(Bool)=bT (tE (tE (tE (apB (tT (aj N X x35 x36 x37 h0 h1)) (ai N X x35 x36 x37 h0 h1 ) v7)))):=by kernel_rfl
theorem an (X:pz4→Option ((((Bool×Unit)×Unit) ⊕ (Unit×Unit))))(x35:List pz20)(x36:Int)(x37:Int)(h0:List UInt8×pz0)(h1:List UInt8×pz1)(v7:pz20)(v8:Bool):(Bool)=bT (tE (tE (tE (apB (tE (tE (tE (apB (tT (aj N X x35 x36 x37 h0 h1)) (ai N X x35 x36 x37 h0 h1 ) v7)))) (ak N X x35 x36 x37 h0 h1 v7) v8)))):=by kernel_rfl
theorem aT (X:pz4→Option ((((Bool×Unit)×Unit) ⊕ (Unit×Unit))))(x35:List pz20)(x36:Int)(x37:Int)(h0:List UInt8×pz0)(h1:List UInt8×pz1)(v7:pz20)(v8:Bool)(v9:Bool):(((Arr Int 24)×Int))=bT (tT (tE (tE (apB (tE (tE (tE (apB (tE (tE (tE (apB (tT (aj N X x35 x36 x37 h0 h1)) (ai N X x35 x36 x37 h0 h1 ) v7)))) (ak N X x35 x36 x37 h0 h1 v7) v8)))) (an N X x35 x36 x37 h0 h1 v7 v8) v9)))):=by kernel_rfl
theorem aY (X:pz4→Option ((((Bool×Unit)×Unit) ⊕ (Unit×Unit))))(x35:List pz20)(x36:Int)(x37:Int)(h0:List UInt8×pz0)(h1:List UInt8×pz1)(v7:pz20)(v8:Bool)(v9:Bool)(v10:((Arr Int 24)×Int)):((List Int))=bT (apB (tT (tE (tE (apB (tE (tE (tE (apB (tE (tE (tE (apB (tT (aj N X x35 x36 x37 h0 h1)) (ai N X x35 x36 x37 h0 h1 ) v7)))) (ak N X x35 x36 x37 h0 h1 v7) v8)))) (an N X x35 x36 x37 h0 h1 v7 v8) v9)))) (aT N X x35 x36 x37 h0 h1 v7 v8 v9) v10):=by kernel_rfl
theorem bt (X:pz4→Option ((((Bool×Unit)×Unit) ⊕ (Unit×Unit))))(x35:List pz20)(x36:Int)(x37:Int)(h0:List UInt8×pz0)(h1:List UInt8×pz1)(v7:pz20)(v8:Bool)(v9:Bool)(v10:((Arr Int 24)×Int))(v11:(List Int)):(pz5)=bT (apB (apB (tT (tE (tE (apB (tE (tE (tE (apB (tE (tE (tE (apB (tT (aj N X x35 x36 x37 h0 h1)) (ai N X x35 x36 x37 h0 h1 ) v7)))) (ak N X x35 x36 x37 h0 h1 v7) v8)))) (an N X x35 x36 x37 h0 h1 v7 v8) v9)))) (aT N X x35 x36 x37 h0 h1 v7 v8 v9) v10) (aY N X x35 x36 x37 h0 h1 v7 v8 v9 v10) v11):=by kernel_rfl
noncomputable def gU (X:pz4→Option ((((Bool×Unit)×Unit) ⊕ (Unit×Unit))))(x35:List pz20)(x36:Int)(x37:Int)(h0:List UInt8×pz0)(h1:List UInt8×pz1)(v7:pz20)(v8:Bool)(v9:Bool)(v10:((Arr Int 24)×Int))(v11:(List Int))(v12:pz5):Option ((((Bool×Unit)×Unit) ⊕ (Unit×Unit))):=
        gt (br N h0 v7.2.1) fun v13=>
        gt (dQ N h1 v7.2.1) fun v14=>
        bif (!(decide ((v13.2.length:Int)=(v14.2.length:Int)))) then
         some ((.inl ((false,()),())))
        else
         bif (cond false true (!(decide (v13.1.2.2.1=v14.1.2.2.1)))) then
          some ((.inl ((false,()),())))
         else
          bif (cond false true (!(decide (v13.1.2.2.2.2.2.2.2.2.2.1=v14.1.2.2.2.2.2.2.2.1)))) then
           some ((.inl ((false,()),())))
          else
           bif ((wfB (.arr 32 (.int .u8)) v13.1.2.2.2.2.2.2.2.2.2.2)&&(wfB (.arr 32 (.int .u8)) v14.1.2.2.2.2.2.2.2.2.1)) then
            bif (cond false true (!(@C5 (@Eq (Arr Int 32) v13.1.2.2.2.2.2.2.2.2.2.2 v14.1.2.2.2.2.2.2.2.2.1) (@decT (.arr 32 (.int .u8)) v13.1.2.2.2.2.2.2.2.2.2.2 v14.1.2.2.2.2.2.2.2.2.1)))) then
             some ((.inl ((false,()),())))
            else
             gt (av N ((v13.2,(v14.2,(x35,(x36,(x37,((v13.2.length:Int),(0,()))))))),(v13.1,(v14.1,())))) fun v15=>
             Dc
              (fun (v16:((Bool×Unit)×Unit))=>
              some ((.inl ((v16.1.1,()),()))))
              (fun (v16:pz4)=>
              (X ((v16.1.1,(v16.1.2.1,((ne .i64 (v16.1.2.2.1+1)),()))),(v16.2.1,(v16.2.2.1,()))))) v15
           else
            none
theorem m9 (X:pz4→Option ((((Bool×Unit)×Unit) ⊕ (Unit×Unit))))(x35:List pz20)(x36:Int)(x37:Int)(h0:List UInt8×pz0)(h1:List UInt8×pz1)(v7:pz20)(v8:Bool)(v9:Bool)(v10:((Arr Int 24)×Int))(v11:(List Int))(v12:pz5):(tT (tE (tT (apB (apB (apB (tT (tE (tE (apB (tE (tE (tE (apB (tE (tE (tE (apB (tT (aj N X x35 x36 x37 h0 h1)) (ai N X x35 x36 x37 h0 h1 ) v7)))) (ak N X x35 x36 x37 h0 h1 v7) v8)))) (an N X x35 x36 x37 h0 h1 v7 v8) v9)))) (aT N X x35 x36 x37 h0 h1 v7 v8 v9) v10) (aY N X x35 x36 x37 h0 h1 v7 v8 v9 v10) v11) (bt N X x35 x36 x37 h0 h1 v7 v8 v9 v10 v11) v12)))).run=gU N X x35 x36 x37 h0 h1 v7 v8 v9 v10 v11 v12:=by kernel_rfl
noncomputable def gT (X:pz4→Option ((((Bool×Unit)×Unit) ⊕ (Unit×Unit))))(x35:List pz20)(x36:Int)(x37:Int)(h0:List UInt8×pz0)(h1:List UInt8×pz1)(v7:pz20)(v8:Bool)(v9:Bool)(v10:((Arr Int 24)×Int))(v11:(List Int))(v12:pz5):Option ((((Bool×Unit)×Unit) ⊕ (Unit×Unit))):=
         gt (bn N h0) fun v13=>
         gt (dt N h1) fun v14=>
         bif (!(decide ((v13.2.length:Int)=(v14.2.length:Int)))) then
          some ((.inl ((false,()),())))
         else
          bif (cond false true (!(decide (v13.1.2.2.1=v14.1.2.2.1)))) then
           some ((.inl ((false,()),())))
          else
           bif (cond false true (!(decide (v13.1.2.2.2.2.2.2.2.2.2.1=v14.1.2.2.2.2.2.2.2.1)))) then
            some ((.inl ((false,()),())))
           else
            bif ((wfB (.arr 32 (.int .u8)) v13.1.2.2.2.2.2.2.2.2.2.2)&&(wfB (.arr 32 (.int .u8)) v14.1.2.2.2.2.2.2.2.2.1)) then
             bif (cond false true (!(@C5 (@Eq (Arr Int 32) v13.1.2.2.2.2.2.2.2.2.2.2 v14.1.2.2.2.2.2.2.2.2.1) (@decT (.arr 32 (.int .u8)) v13.1.2.2.2.2.2.2.2.2.2.2 v14.1.2.2.2.2.2.2.2.2.1)))) then
              some ((.inl ((false,()),())))
             else
              gt (av N ((v13.2,(v14.2,(x35,(x36,(x37,((v13.2.length:Int),(0,()))))))),(v13.1,(v14.1,())))) fun v15=>
              Dc
               (fun (v16:((Bool×Unit)×Unit))=>
               some ((.inl ((v16.1.1,()),()))))
               (fun (v16:pz4)=>
               (X ((v16.1.1,(v16.1.2.1,((ne .i64 (v16.1.2.2.1+1)),()))),(v16.2.1,(v16.2.2.1,()))))) v15
            else
             none
theorem m7 (X:pz4→Option ((((Bool×Unit)×Unit) ⊕ (Unit×Unit))))(x35:List pz20)(x36:Int)(x37:Int)(h0:List UInt8×pz0)(h1:List UInt8×pz1)(v7:pz20)(v8:Bool)(v9:Bool)(v10:((Arr Int 24)×Int))(v11:(List Int))(v12:pz5):(tT (tE (tE (tT (apB (apB (apB (tT (tE (tE (apB (tE (tE (tE (apB (tE (tE (tE (apB (tT (aj N X x35 x36 x37 h0 h1)) (ai N X x35 x36 x37 h0 h1 ) v7)))) (ak N X x35 x36 x37 h0 h1 v7) v8)))) (an N X x35 x36 x37 h0 h1 v7 v8) v9)))) (aT N X x35 x36 x37 h0 h1 v7 v8 v9) v10) (aY N X x35 x36 x37 h0 h1 v7 v8 v9 v10) v11) (bt N X x35 x36 x37 h0 h1 v7 v8 v9 v10 v11) v12))))).run=gT N X x35 x36 x37 h0 h1 v7 v8 v9 v10 v11 v12:=by kernel_rfl
noncomputable def eG (X:pz4→Option ((((Bool×Unit)×Unit) ⊕ (Unit×Unit))))(x35:List pz20)(x36:Int)(x37:Int)(h0:List UInt8×pz0)(h1:List UInt8×pz1)(v7:pz20)(v8:Bool)(v9:Bool)(v10:((Arr Int 24)×Int))(v11:(List Int))(v12:pz5):Option ((((Bool×Unit)×Unit) ⊕ (Unit×Unit))):=
         gt (aP N h0 (v12.1,(h1.2.2.2.1,v12.2.2))) fun v13=>
         gt (ce N h1 (v12.1,(h1.2.2.2.1,v12.2.2))) fun v14=>
         bif (!(decide ((v13.2.length:Int)=(v14.2.length:Int)))) then
          some ((.inl ((false,()),())))
         else
          bif (cond false true (!(decide (v13.1.2.2.1=v14.1.2.2.1)))) then
           some ((.inl ((false,()),())))
          else
           bif (cond false true (!(decide (v13.1.2.2.2.2.2.2.2.2.2.1=v14.1.2.2.2.2.2.2.2.1)))) then
            some ((.inl ((false,()),())))
           else
            bif ((wfB (.arr 32 (.int .u8)) v13.1.2.2.2.2.2.2.2.2.2.2)&&(wfB (.arr 32 (.int .u8)) v14.1.2.2.2.2.2.2.2.2.1)) then
             bif (cond false true (!(@C5 (@Eq (Arr Int 32) v13.1.2.2.2.2.2.2.2.2.2.2 v14.1.2.2.2.2.2.2.2.2.1) (@decT (.arr 32 (.int .u8)) v13.1.2.2.2.2.2.2.2.2.2.2 v14.1.2.2.2.2.2.2.2.2.1)))) then
              some ((.inl ((false,()),())))
             else
              gt (av N ((v13.2,(v14.2,(x35,(x36,(x37,((v13.2.length:Int),(0,()))))))),(v13.1,(v14.1,())))) fun v15=>
              Dc
               (fun (v16:((Bool×Unit)×Unit))=>
               some ((.inl ((v16.1.1,()),()))))
               (fun (v16:pz4)=>
               (X ((v16.1.1,(v16.1.2.1,((ne .i64 (v16.1.2.2.1+1)),()))),(v16.2.1,(v16.2.2.1,()))))) v15
            else
             none
theorem m6 (X:pz4→Option ((((Bool×Unit)×Unit) ⊕ (Unit×Unit))))(x35:List pz20)(x36:Int)(x37:Int)(h0:List UInt8×pz0)(h1:List UInt8×pz1)(v7:pz20)(v8:Bool)(v9:Bool)(v10:((Arr Int 24)×Int))(v11:(List Int))(v12:pz5):(tE (tE (tE (tT (apB (apB (apB (tT (tE (tE (apB (tE (tE (tE (apB (tE (tE (tE (apB (tT (aj N X x35 x36 x37 h0 h1)) (ai N X x35 x36 x37 h0 h1 ) v7)))) (ak N X x35 x36 x37 h0 h1 v7) v8)))) (an N X x35 x36 x37 h0 h1 v7 v8) v9)))) (aT N X x35 x36 x37 h0 h1 v7 v8 v9) v10) (aY N X x35 x36 x37 h0 h1 v7 v8 v9 v10) v11) (bt N X x35 x36 x37 h0 h1 v7 v8 v9 v10 v11) v12))))).run=eG N X x35 x36 x37 h0 h1 v7 v8 v9 v10 v11 v12:=by kernel_rfl
noncomputable def gS (X:pz4→Option ((((Bool×Unit)×Unit) ⊕ (Unit×Unit))))(x35:List pz20)(x36:Int)(x37:Int)(h0:List UInt8×pz0)(h1:List UInt8×pz1)(v7:pz20)(v8:Bool)(v9:Bool)(v10:((Arr Int 24)×Int))(v11:(List Int))(v12:pz5):Option ((((Bool×Unit)×Unit) ⊕ (Unit×Unit))):=
        gt (br N h0 v7.2.1) fun v13=>
        gt (dQ N h1 v7.2.1) fun v14=>
        bif (!(decide ((v13.2.length:Int)=(v14.2.length:Int)))) then
         some ((.inl ((false,()),())))
        else
         bif (cond false true (!(decide (v13.1.2.2.1=v14.1.2.2.1)))) then
          some ((.inl ((false,()),())))
         else
          bif (cond false true (!(decide (v13.1.2.2.2.2.2.2.2.2.2.1=v14.1.2.2.2.2.2.2.2.1)))) then
           some ((.inl ((false,()),())))
          else
           bif ((wfB (.arr 32 (.int .u8)) v13.1.2.2.2.2.2.2.2.2.2.2)&&(wfB (.arr 32 (.int .u8)) v14.1.2.2.2.2.2.2.2.2.1)) then
            bif (cond false true (!(@C5 (@Eq (Arr Int 32) v13.1.2.2.2.2.2.2.2.2.2.2 v14.1.2.2.2.2.2.2.2.2.1) (@decT (.arr 32 (.int .u8)) v13.1.2.2.2.2.2.2.2.2.2.2 v14.1.2.2.2.2.2.2.2.2.1)))) then
             some ((.inl ((false,()),())))
            else
             gt (av N ((v13.2,(v14.2,(x35,(x36,(x37,((v13.2.length:Int),(0,()))))))),(v13.1,(v14.1,())))) fun v15=>
             Dc
              (fun (v16:((Bool×Unit)×Unit))=>
              some ((.inl ((v16.1.1,()),()))))
              (fun (v16:pz4)=>
              (X ((v16.1.1,(v16.1.2.1,((ne .i64 (v16.1.2.2.1+1)),()))),(v16.2.1,(v16.2.2.1,()))))) v15
           else
            none
theorem mZ (X:pz4→Option ((((Bool×Unit)×Unit) ⊕ (Unit×Unit))))(x35:List pz20)(x36:Int)(x37:Int)(h0:List UInt8×pz0)(h1:List UInt8×pz1)(v7:pz20)(v8:Bool)(v9:Bool)(v10:((Arr Int 24)×Int))(v11:(List Int))(v12:pz5):(tT (tE (tE (apB (apB (apB (tT (tE (tE (apB (tE (tE (tE (apB (tE (tE (tE (apB (tT (aj N X x35 x36 x37 h0 h1)) (ai N X x35 x36 x37 h0 h1 ) v7)))) (ak N X x35 x36 x37 h0 h1 v7) v8)))) (an N X x35 x36 x37 h0 h1 v7 v8) v9)))) (aT N X x35 x36 x37 h0 h1 v7 v8 v9) v10) (aY N X x35 x36 x37 h0 h1 v7 v8 v9 v10) v11) (bt N X x35 x36 x37 h0 h1 v7 v8 v9 v10 v11) v12)))).run=gS N X x35 x36 x37 h0 h1 v7 v8 v9 v10 v11 v12:=by kernel_rfl
noncomputable def gR (X:pz4→Option ((((Bool×Unit)×Unit) ⊕ (Unit×Unit))))(x35:List pz20)(x36:Int)(x37:Int)(h0:List UInt8×pz0)(h1:List UInt8×pz1)(v7:pz20)(v8:Bool)(v9:Bool)(v10:((Arr Int 24)×Int))(v11:(List Int))(v12:pz5):Option ((((Bool×Unit)×Unit) ⊕ (Unit×Unit))):=
         gt (bn N h0) fun v13=>
         gt (dt N h1) fun v14=>
         bif (!(decide ((v13.2.length:Int)=(v14.2.length:Int)))) then
          some ((.inl ((false,()),())))
         else
          bif (cond false true (!(decide (v13.1.2.2.1=v14.1.2.2.1)))) then
           some ((.inl ((false,()),())))
          else
           bif (cond false true (!(decide (v13.1.2.2.2.2.2.2.2.2.2.1=v14.1.2.2.2.2.2.2.2.1)))) then
            some ((.inl ((false,()),())))
           else
            bif ((wfB (.arr 32 (.int .u8)) v13.1.2.2.2.2.2.2.2.2.2.2)&&(wfB (.arr 32 (.int .u8)) v14.1.2.2.2.2.2.2.2.2.1)) then
             bif (cond false true (!(@C5 (@Eq (Arr Int 32) v13.1.2.2.2.2.2.2.2.2.2.2 v14.1.2.2.2.2.2.2.2.2.1) (@decT (.arr 32 (.int .u8)) v13.1.2.2.2.2.2.2.2.2.2.2 v14.1.2.2.2.2.2.2.2.2.1)))) then
              some ((.inl ((false,()),())))
             else
              gt (av N ((v13.2,(v14.2,(x35,(x36,(x37,((v13.2.length:Int),(0,()))))))),(v13.1,(v14.1,())))) fun v15=>
              Dc
               (fun (v16:((Bool×Unit)×Unit))=>
               some ((.inl ((v16.1.1,()),()))))
               (fun (v16:pz4)=>
               (X ((v16.1.1,(v16.1.2.1,((ne .i64 (v16.1.2.2.1+1)),()))),(v16.2.1,(v16.2.2.1,()))))) v15
            else
             none
theorem mY (X:pz4→Option ((((Bool×Unit)×Unit) ⊕ (Unit×Unit))))(x35:List pz20)(x36:Int)(x37:Int)(h0:List UInt8×pz0)(h1:List UInt8×pz1)(v7:pz20)(v8:Bool)(v9:Bool)(v10:((Arr Int 24)×Int))(v11:(List Int))(v12:pz5):(tT (tE (tE (tE (apB (apB (apB (tT (tE (tE (apB (tE (tE (tE (apB (tE (tE (tE (apB (tT (aj N X x35 x36 x37 h0 h1)) (ai N X x35 x36 x37 h0 h1 ) v7)))) (ak N X x35 x36 x37 h0 h1 v7) v8)))) (an N X x35 x36 x37 h0 h1 v7 v8) v9)))) (aT N X x35 x36 x37 h0 h1 v7 v8 v9) v10) (aY N X x35 x36 x37 h0 h1 v7 v8 v9 v10) v11) (bt N X x35 x36 x37 h0 h1 v7 v8 v9 v10 v11) v12))))).run=gR N X x35 x36 x37 h0 h1 v7 v8 v9 v10 v11 v12:=by kernel_rfl
noncomputable def eF (X:pz4→Option ((((Bool×Unit)×Unit) ⊕ (Unit×Unit))))(x35:List pz20)(x36:Int)(x37:Int)(h0:List UInt8×pz0)(h1:List UInt8×pz1)(v7:pz20)(v8:Bool)(v9:Bool)(v10:((Arr Int 24)×Int))(v11:(List Int))(v12:pz5):Option ((((Bool×Unit)×Unit) ⊕ (Unit×Unit))):=
         gt (aP N h0 v12) fun v13=>
         gt (ce N h1 v12) fun v14=>
         bif (!(decide ((v13.2.length:Int)=(v14.2.length:Int)))) then
          some ((.inl ((false,()),())))
         else
          bif (cond false true (!(decide (v13.1.2.2.1=v14.1.2.2.1)))) then
           some ((.inl ((false,()),())))
          else
           bif (cond false true (!(decide (v13.1.2.2.2.2.2.2.2.2.2.1=v14.1.2.2.2.2.2.2.2.1)))) then
            some ((.inl ((false,()),())))
           else
            bif ((wfB (.arr 32 (.int .u8)) v13.1.2.2.2.2.2.2.2.2.2.2)&&(wfB (.arr 32 (.int .u8)) v14.1.2.2.2.2.2.2.2.2.1)) then
             bif (cond false true (!(@C5 (@Eq (Arr Int 32) v13.1.2.2.2.2.2.2.2.2.2.2 v14.1.2.2.2.2.2.2.2.2.1) (@decT (.arr 32 (.int .u8)) v13.1.2.2.2.2.2.2.2.2.2.2 v14.1.2.2.2.2.2.2.2.2.1)))) then
              some ((.inl ((false,()),())))
             else
              gt (av N ((v13.2,(v14.2,(x35,(x36,(x37,((v13.2.length:Int),(0,()))))))),(v13.1,(v14.1,())))) fun v15=>
              Dc
               (fun (v16:((Bool×Unit)×Unit))=>
               some ((.inl ((v16.1.1,()),()))))
               (fun (v16:pz4)=>
               (X ((v16.1.1,(v16.1.2.1,((ne .i64 (v16.1.2.2.1+1)),()))),(v16.2.1,(v16.2.2.1,()))))) v15
            else
             none
theorem mX (X:pz4→Option ((((Bool×Unit)×Unit) ⊕ (Unit×Unit))))(x35:List pz20)(x36:Int)(x37:Int)(h0:List UInt8×pz0)(h1:List UInt8×pz1)(v7:pz20)(v8:Bool)(v9:Bool)(v10:((Arr Int 24)×Int))(v11:(List Int))(v12:pz5):(tE (tE (tE (tE (apB (apB (apB (tT (tE (tE (apB (tE (tE (tE (apB (tE (tE (tE (apB (tT (aj N X x35 x36 x37 h0 h1)) (ai N X x35 x36 x37 h0 h1 ) v7)))) (ak N X x35 x36 x37 h0 h1 v7) v8)))) (an N X x35 x36 x37 h0 h1 v7 v8) v9)))) (aT N X x35 x36 x37 h0 h1 v7 v8 v9) v10) (aY N X x35 x36 x37 h0 h1 v7 v8 v9 v10) v11) (bt N X x35 x36 x37 h0 h1 v7 v8 v9 v10 v11) v12))))).run=eF N X x35 x36 x37 h0 h1 v7 v8 v9 v10 v11 v12:=by kernel_rfl
noncomputable def eE (X:pz4→Option ((((Bool×Unit)×Unit) ⊕ (Unit×Unit))))(x35:List pz20)(x36:Int)(x37:Int)(h0:List UInt8×pz0)(h1:List UInt8×pz1)(v7:pz20)(v8:Bool)(v9:Bool):Option ((((Bool×Unit)×Unit) ⊕ (Unit×Unit))):=
        gt (br N h0 v7.2.1) fun v10=>
        gt (dQ N h1 v7.2.1) fun v11=>
        bif (!(decide ((v10.2.length:Int)=(v11.2.length:Int)))) then
         some ((.inl ((false,()),())))
        else
         bif (cond false true (!(decide (v10.1.2.2.1=v11.1.2.2.1)))) then
          some ((.inl ((false,()),())))
         else
          bif (cond false true (!(decide (v10.1.2.2.2.2.2.2.2.2.2.1=v11.1.2.2.2.2.2.2.2.1)))) then
           some ((.inl ((false,()),())))
          else
           bif ((wfB (.arr 32 (.int .u8)) v10.1.2.2.2.2.2.2.2.2.2.2)&&(wfB (.arr 32 (.int .u8)) v11.1.2.2.2.2.2.2.2.2.1)) then
            bif (cond false true (!(@C5 (@Eq (Arr Int 32) v10.1.2.2.2.2.2.2.2.2.2.2 v11.1.2.2.2.2.2.2.2.2.1) (@decT (.arr 32 (.int .u8)) v10.1.2.2.2.2.2.2.2.2.2.2 v11.1.2.2.2.2.2.2.2.2.1)))) then
             some ((.inl ((false,()),())))
            else
             gt (av N ((v10.2,(v11.2,(x35,(x36,(x37,((v10.2.length:Int),(0,()))))))),(v10.1,(v11.1,())))) fun v12=>
             Dc
              (fun (v13:((Bool×Unit)×Unit))=>
              some ((.inl ((v13.1.1,()),()))))
              (fun (v13:pz4)=>
              (X ((v13.1.1,(v13.1.2.1,((ne .i64 (v13.1.2.2.1+1)),()))),(v13.2.1,(v13.2.2.1,()))))) v12
           else
            none
theorem mW (X:pz4→Option ((((Bool×Unit)×Unit) ⊕ (Unit×Unit))))(x35:List pz20)(x36:Int)(x37:Int)(h0:List UInt8×pz0)(h1:List UInt8×pz1)(v7:pz20)(v8:Bool)(v9:Bool):(tT (tE (tT (tE (tE (tE (apB (tE (tE (tE (apB (tE (tE (tE (apB (tT (aj N X x35 x36 x37 h0 h1)) (ai N X x35 x36 x37 h0 h1 ) v7)))) (ak N X x35 x36 x37 h0 h1 v7) v8)))) (an N X x35 x36 x37 h0 h1 v7 v8) v9))))))).run=eE N X x35 x36 x37 h0 h1 v7 v8 v9:=by kernel_rfl
noncomputable def eD (X:pz4→Option ((((Bool×Unit)×Unit) ⊕ (Unit×Unit))))(x35:List pz20)(x36:Int)(x37:Int)(h0:List UInt8×pz0)(h1:List UInt8×pz1)(v7:pz20)(v8:Bool)(v9:Bool):Option ((((Bool×Unit)×Unit) ⊕ (Unit×Unit))):=
         gt (bn N h0) fun v10=>
         gt (dt N h1) fun v11=>
         bif (!(decide ((v10.2.length:Int)=(v11.2.length:Int)))) then
          some ((.inl ((false,()),())))
         else
          bif (cond false true (!(decide (v10.1.2.2.1=v11.1.2.2.1)))) then
           some ((.inl ((false,()),())))
          else
           bif (cond false true (!(decide (v10.1.2.2.2.2.2.2.2.2.2.1=v11.1.2.2.2.2.2.2.2.1)))) then
            some ((.inl ((false,()),())))
           else
            bif ((wfB (.arr 32 (.int .u8)) v10.1.2.2.2.2.2.2.2.2.2.2)&&(wfB (.arr 32 (.int .u8)) v11.1.2.2.2.2.2.2.2.2.1)) then
             bif (cond false true (!(@C5 (@Eq (Arr Int 32) v10.1.2.2.2.2.2.2.2.2.2.2 v11.1.2.2.2.2.2.2.2.2.1) (@decT (.arr 32 (.int .u8)) v10.1.2.2.2.2.2.2.2.2.2.2 v11.1.2.2.2.2.2.2.2.2.1)))) then
              some ((.inl ((false,()),())))
             else
              gt (av N ((v10.2,(v11.2,(x35,(x36,(x37,((v10.2.length:Int),(0,()))))))),(v10.1,(v11.1,())))) fun v12=>
              Dc
               (fun (v13:((Bool×Unit)×Unit))=>
               some ((.inl ((v13.1.1,()),()))))
               (fun (v13:pz4)=>
               (X ((v13.1.1,(v13.1.2.1,((ne .i64 (v13.1.2.2.1+1)),()))),(v13.2.1,(v13.2.2.1,()))))) v12
            else
             none
theorem mU (X:pz4→Option ((((Bool×Unit)×Unit) ⊕ (Unit×Unit))))(x35:List pz20)(x36:Int)(x37:Int)(h0:List UInt8×pz0)(h1:List UInt8×pz1)(v7:pz20)(v8:Bool)(v9:Bool):(tT (tE (tE (tT (tE (tE (tE (apB (tE (tE (tE (apB (tE (tE (tE (apB (tT (aj N X x35 x36 x37 h0 h1)) (ai N X x35 x36 x37 h0 h1 ) v7)))) (ak N X x35 x36 x37 h0 h1 v7) v8)))) (an N X x35 x36 x37 h0 h1 v7 v8) v9)))))))).run=eD N X x35 x36 x37 h0 h1 v7 v8 v9:=by kernel_rfl
noncomputable def eC (X:pz4→Option ((((Bool×Unit)×Unit) ⊕ (Unit×Unit))))(x35:List pz20)(x36:Int)(x37:Int)(h0:List UInt8×pz0)(h1:List UInt8×pz1)(v7:pz20)(v8:Bool)(v9:Bool):Option ((((Bool×Unit)×Unit) ⊕ (Unit×Unit))):=
         gt (aP N h0 (v7.2.2.2.1.1,(h1.2.2.2.1,v7.2.2.2.1.2.2))) fun v10=>
         gt (ce N h1 (v7.2.2.2.1.1,(h1.2.2.2.1,v7.2.2.2.1.2.2))) fun v11=>
         bif (!(decide ((v10.2.length:Int)=(v11.2.length:Int)))) then
          some ((.inl ((false,()),())))
         else
          bif (cond false true (!(decide (v10.1.2.2.1=v11.1.2.2.1)))) then
           some ((.inl ((false,()),())))
          else
           bif (cond false true (!(decide (v10.1.2.2.2.2.2.2.2.2.2.1=v11.1.2.2.2.2.2.2.2.1)))) then
            some ((.inl ((false,()),())))
           else
            bif ((wfB (.arr 32 (.int .u8)) v10.1.2.2.2.2.2.2.2.2.2.2)&&(wfB (.arr 32 (.int .u8)) v11.1.2.2.2.2.2.2.2.2.1)) then
             bif (cond false true (!(@C5 (@Eq (Arr Int 32) v10.1.2.2.2.2.2.2.2.2.2.2 v11.1.2.2.2.2.2.2.2.2.1) (@decT (.arr 32 (.int .u8)) v10.1.2.2.2.2.2.2.2.2.2.2 v11.1.2.2.2.2.2.2.2.2.1)))) then
              some ((.inl ((false,()),())))
             else
              gt (av N ((v10.2,(v11.2,(x35,(x36,(x37,((v10.2.length:Int),(0,()))))))),(v10.1,(v11.1,())))) fun v12=>
              Dc
               (fun (v13:((Bool×Unit)×Unit))=>
               some ((.inl ((v13.1.1,()),()))))
               (fun (v13:pz4)=>
               (X ((v13.1.1,(v13.1.2.1,((ne .i64 (v13.1.2.2.1+1)),()))),(v13.2.1,(v13.2.2.1,()))))) v12
            else
             none
theorem mT (X:pz4→Option ((((Bool×Unit)×Unit) ⊕ (Unit×Unit))))(x35:List pz20)(x36:Int)(x37:Int)(h0:List UInt8×pz0)(h1:List UInt8×pz1)(v7:pz20)(v8:Bool)(v9:Bool):(tE (tE (tE (tT (tE (tE (tE (apB (tE (tE (tE (apB (tE (tE (tE (apB (tT (aj N X x35 x36 x37 h0 h1)) (ai N X x35 x36 x37 h0 h1 ) v7)))) (ak N X x35 x36 x37 h0 h1 v7) v8)))) (an N X x35 x36 x37 h0 h1 v7 v8) v9)))))))).run=eC N X x35 x36 x37 h0 h1 v7 v8 v9:=by kernel_rfl
noncomputable def eb (X:pz4→Option ((((Bool×Unit)×Unit) ⊕ (Unit×Unit))))(x35:List pz20)(x36:Int)(x37:Int)(h0:List UInt8×pz0)(h1:List UInt8×pz1)(v7:pz20)(v8:Bool)(v9:Bool):Option ((((Bool×Unit)×Unit) ⊕ (Unit×Unit))):=
        gt (br N h0 v7.2.1) fun v10=>
        gt (dQ N h1 v7.2.1) fun v11=>
        bif (!(decide ((v10.2.length:Int)=(v11.2.length:Int)))) then
         some ((.inl ((false,()),())))
        else
         bif (cond false true (!(decide (v10.1.2.2.1=v11.1.2.2.1)))) then
          some ((.inl ((false,()),())))
         else
          bif (cond false true (!(decide (v10.1.2.2.2.2.2.2.2.2.2.1=v11.1.2.2.2.2.2.2.2.1)))) then
           some ((.inl ((false,()),())))
          else
           bif ((wfB (.arr 32 (.int .u8)) v10.1.2.2.2.2.2.2.2.2.2.2)&&(wfB (.arr 32 (.int .u8)) v11.1.2.2.2.2.2.2.2.2.1)) then
            bif (cond false true (!(@C5 (@Eq (Arr Int 32) v10.1.2.2.2.2.2.2.2.2.2.2 v11.1.2.2.2.2.2.2.2.2.1) (@decT (.arr 32 (.int .u8)) v10.1.2.2.2.2.2.2.2.2.2.2 v11.1.2.2.2.2.2.2.2.2.1)))) then
             some ((.inl ((false,()),())))
            else
             gt (av N ((v10.2,(v11.2,(x35,(x36,(x37,((v10.2.length:Int),(0,()))))))),(v10.1,(v11.1,())))) fun v12=>
             Dc
              (fun (v13:((Bool×Unit)×Unit))=>
              some ((.inl ((v13.1.1,()),()))))
              (fun (v13:pz4)=>
              (X ((v13.1.1,(v13.1.2.1,((ne .i64 (v13.1.2.2.1+1)),()))),(v13.2.1,(v13.2.2.1,()))))) v12
           else
            none
theorem lU (X:pz4→Option ((((Bool×Unit)×Unit) ⊕ (Unit×Unit))))(x35:List pz20)(x36:Int)(x37:Int)(h0:List UInt8×pz0)(h1:List UInt8×pz1)(v7:pz20)(v8:Bool)(v9:Bool):(tT (tE (tE (tE (tE (tE (apB (tE (tE (tE (apB (tE (tE (tE (apB (tT (aj N X x35 x36 x37 h0 h1)) (ai N X x35 x36 x37 h0 h1 ) v7)))) (ak N X x35 x36 x37 h0 h1 v7) v8)))) (an N X x35 x36 x37 h0 h1 v7 v8) v9))))))).run=eb N X x35 x36 x37 h0 h1 v7 v8 v9:=by kernel_rfl
noncomputable def ea (X:pz4→Option ((((Bool×Unit)×Unit) ⊕ (Unit×Unit))))(x35:List pz20)(x36:Int)(x37:Int)(h0:List UInt8×pz0)(h1:List UInt8×pz1)(v7:pz20)(v8:Bool)(v9:Bool):Option ((((Bool×Unit)×Unit) ⊕ (Unit×Unit))):=
         gt (bn N h0) fun v10=>
         gt (dt N h1) fun v11=>
         bif (!(decide ((v10.2.length:Int)=(v11.2.length:Int)))) then
          some ((.inl ((false,()),())))
         else
          bif (cond false true (!(decide (v10.1.2.2.1=v11.1.2.2.1)))) then
           some ((.inl ((false,()),())))
          else
           bif (cond false true (!(decide (v10.1.2.2.2.2.2.2.2.2.2.1=v11.1.2.2.2.2.2.2.2.1)))) then
            some ((.inl ((false,()),())))
           else
            bif ((wfB (.arr 32 (.int .u8)) v10.1.2.2.2.2.2.2.2.2.2.2)&&(wfB (.arr 32 (.int .u8)) v11.1.2.2.2.2.2.2.2.2.1)) then
             bif (cond false true (!(@C5 (@Eq (Arr Int 32) v10.1.2.2.2.2.2.2.2.2.2.2 v11.1.2.2.2.2.2.2.2.2.1) (@decT (.arr 32 (.int .u8)) v10.1.2.2.2.2.2.2.2.2.2.2 v11.1.2.2.2.2.2.2.2.2.1)))) then
              some ((.inl ((false,()),())))
             else
              gt (av N ((v10.2,(v11.2,(x35,(x36,(x37,((v10.2.length:Int),(0,()))))))),(v10.1,(v11.1,())))) fun v12=>
              Dc
               (fun (v13:((Bool×Unit)×Unit))=>
               some ((.inl ((v13.1.1,()),()))))
               (fun (v13:pz4)=>
               (X ((v13.1.1,(v13.1.2.1,((ne .i64 (v13.1.2.2.1+1)),()))),(v13.2.1,(v13.2.2.1,()))))) v12
            else
             none
theorem lT (X:pz4→Option ((((Bool×Unit)×Unit) ⊕ (Unit×Unit))))(x35:List pz20)(x36:Int)(x37:Int)(h0:List UInt8×pz0)(h1:List UInt8×pz1)(v7:pz20)(v8:Bool)(v9:Bool):(tT (tE (tE (tE (tE (tE (tE (apB (tE (tE (tE (apB (tE (tE (tE (apB (tT (aj N X x35 x36 x37 h0 h1)) (ai N X x35 x36 x37 h0 h1 ) v7)))) (ak N X x35 x36 x37 h0 h1 v7) v8)))) (an N X x35 x36 x37 h0 h1 v7 v8) v9)))))))).run=ea N X x35 x36 x37 h0 h1 v7 v8 v9:=by kernel_rfl
noncomputable def d9 (X:pz4→Option ((((Bool×Unit)×Unit) ⊕ (Unit×Unit))))(x35:List pz20)(x36:Int)(x37:Int)(h0:List UInt8×pz0)(h1:List UInt8×pz1)(v7:pz20)(v8:Bool)(v9:Bool):Option ((((Bool×Unit)×Unit) ⊕ (Unit×Unit))):=
         gt (aP N h0 v7.2.2.2.1) fun v10=>
         gt (ce N h1 v7.2.2.2.1) fun v11=>
         bif (!(decide ((v10.2.length:Int)=(v11.2.length:Int)))) then
          some ((.inl ((false,()),())))
         else
          bif (cond false true (!(decide (v10.1.2.2.1=v11.1.2.2.1)))) then
           some ((.inl ((false,()),())))
          else
           bif (cond false true (!(decide (v10.1.2.2.2.2.2.2.2.2.2.1=v11.1.2.2.2.2.2.2.2.1)))) then
            some ((.inl ((false,()),())))
           else
            bif ((wfB (.arr 32 (.int .u8)) v10.1.2.2.2.2.2.2.2.2.2.2)&&(wfB (.arr 32 (.int .u8)) v11.1.2.2.2.2.2.2.2.2.1)) then
             bif (cond false true (!(@C5 (@Eq (Arr Int 32) v10.1.2.2.2.2.2.2.2.2.2.2 v11.1.2.2.2.2.2.2.2.2.1) (@decT (.arr 32 (.int .u8)) v10.1.2.2.2.2.2.2.2.2.2.2 v11.1.2.2.2.2.2.2.2.2.1)))) then
              some ((.inl ((false,()),())))
             else
              gt (av N ((v10.2,(v11.2,(x35,(x36,(x37,((v10.2.length:Int),(0,()))))))),(v10.1,(v11.1,())))) fun v12=>
              Dc
               (fun (v13:((Bool×Unit)×Unit))=>
               some ((.inl ((v13.1.1,()),()))))
               (fun (v13:pz4)=>
               (X ((v13.1.1,(v13.1.2.1,((ne .i64 (v13.1.2.2.1+1)),()))),(v13.2.1,(v13.2.2.1,()))))) v12
            else
             none
theorem lS (X:pz4→Option ((((Bool×Unit)×Unit) ⊕ (Unit×Unit))))(x35:List pz20)(x36:Int)(x37:Int)(h0:List UInt8×pz0)(h1:List UInt8×pz1)(v7:pz20)(v8:Bool)(v9:Bool):(tE (tE (tE (tE (tE (tE (tE (apB (tE (tE (tE (apB (tE (tE (tE (apB (tT (aj N X x35 x36 x37 h0 h1)) (ai N X x35 x36 x37 h0 h1 ) v7)))) (ak N X x35 x36 x37 h0 h1 v7) v8)))) (an N X x35 x36 x37 h0 h1 v7 v8) v9)))))))).run=d9 N X x35 x36 x37 h0 h1 v7 v8 v9:=by kernel_rfl
noncomputable def aO (X:pz4→Option ((((Bool×Unit)×Unit) ⊕ (Unit×Unit))))(x35:List pz20)(x36:Int)(x37:Int)(h0:List UInt8×pz0)(h1:List UInt8×pz1):Option ((((Bool×Unit)×Unit) ⊕ (Unit×Unit))):=
 bif (decide (x37<x36)) then
  gt (getI x35 x37) fun v7=>
  bif (decide ((500:Int)<(v7.2.2.2.1.2.2.length:Int))) then
   gt (@cy N) fun v8=>
   some ((.inl ((v8,()),())))
  else
   gt (some ((cond false true (decide ((200:Int)<(v7.2.2.2.2.1.length:Int)))))) fun (v8:Bool)=>
   bif v8 then
    gt (@cy N) fun v9=>
    some ((.inl ((v9,()),())))
   else
    gt (some ((cond false true (decide ((300:Int)<(v7.2.2.2.2.2.length:Int)))))) fun (v9:Bool)=>
    bif v9 then
     gt (@cy N) fun v10=>
     some ((.inl ((v10,()),())))
    else
     bif (decide ((@Da v7.1 (4:Int))=(3:Int))) then
      gt (fK N v7.2.1 h1.2.2.2.2.1 v7.2.2.2.2.1 v7.2.2.2.2.2) fun v10=>
      gt (jX N v7.2.1 v10.1) fun v11=>
      gt (mr N (2:Int) v7.2.2.2.1.2.1 v11 v7.2.2.2.2.1) fun v12=>
      bif v7.2.2.1 then
       bif (decide ((@Da v7.1 (4:Int))=(0:Int))) then
        gU N X x35 x36 x37 h0 h1 v7 v8 v9 v10 v11 v12
       else
        bif (decide ((@Da v7.1 (4:Int))=(1:Int))) then
         gT N X x35 x36 x37 h0 h1 v7 v8 v9 v10 v11 v12
        else
         eG N X x35 x36 x37 h0 h1 v7 v8 v9 v10 v11 v12
      else
       bif (decide ((@Da v7.1 (4:Int))=(0:Int))) then
        gS N X x35 x36 x37 h0 h1 v7 v8 v9 v10 v11 v12
       else
        bif (decide ((@Da v7.1 (4:Int))=(1:Int))) then
         gR N X x35 x36 x37 h0 h1 v7 v8 v9 v10 v11 v12
        else
         eF N X x35 x36 x37 h0 h1 v7 v8 v9 v10 v11 v12
     else
      bif v7.2.2.1 then
       bif (decide ((@Da v7.1 (4:Int))=(0:Int))) then
        eE N X x35 x36 x37 h0 h1 v7 v8 v9
       else
        bif (decide ((@Da v7.1 (4:Int))=(1:Int))) then
         eD N X x35 x36 x37 h0 h1 v7 v8 v9
        else
         eC N X x35 x36 x37 h0 h1 v7 v8 v9
      else
       bif (decide ((@Da v7.1 (4:Int))=(0:Int))) then
        eb N X x35 x36 x37 h0 h1 v7 v8 v9
       else
        bif (decide ((@Da v7.1 (4:Int))=(1:Int))) then
         ea N X x35 x36 x37 h0 h1 v7 v8 v9
        else
         d9 N X x35 x36 x37 h0 h1 v7 v8 v9
 else
  some ((.inr ((),())))
noncomputable def iQ (c:pz4):Option ((((Bool×Unit)×Unit) ⊕ (Unit×Unit))):=gl (fun X c=>aO N X c.1.1 c.1.2.1 c.1.2.2.1 c.2.1 c.2.2.1) N c
theorem pu (X:pz4→Option ((((Bool×Unit)×Unit) ⊕ (Unit×Unit))))(x35:List pz20)(x36:Int)(x37:Int)(h0:List UInt8×pz0)(h1:List UInt8×pz1):(aj N X x35 x36 x37 h0 h1).run=aO N X x35 x36 x37 h0 h1:=by
 unfold aO
 exact (nI (by kernel_rfl) (by kernel_rfl) (nB (ai N X x35 x36 x37 h0 h1 ) (by kernel_rfl) (by kernel_rfl) fun v7=>(nI (by kernel_rfl) (by kernel_rfl) (by kernel_rfl) (nE (by kernel_rfl) (by kernel_rfl) (nE (by kernel_rfl) (by kernel_rfl) (nB (ak N X x35 x36 x37 h0 h1 v7) (by kernel_rfl) (by kernel_rfl) fun v8=>(nI (by kernel_rfl) (by kernel_rfl) (by kernel_rfl) (nE (by kernel_rfl) (by kernel_rfl) (nE (by kernel_rfl) (by kernel_rfl) (nB (an N X x35 x36 x37 h0 h1 v7 v8) (by kernel_rfl) (by kernel_rfl) fun v9=>(nI (by kernel_rfl) (by kernel_rfl) (by kernel_rfl) (nE (by kernel_rfl) (by kernel_rfl) (nI (by kernel_rfl) (by kernel_rfl) (nB (aT N X x35 x36 x37 h0 h1 v7 v8 v9) (by kernel_rfl) (by kernel_rfl) fun v10=>(nB (aY N X x35 x36 x37 h0 h1 v7 v8 v9 v10) (by kernel_rfl) (by kernel_rfl) fun v11=>(nB (bt N X x35 x36 x37 h0 h1 v7 v8 v9 v10 v11) (by kernel_rfl) (by kernel_rfl) fun v12=>(nI (by kernel_rfl) (by kernel_rfl) (nE (by kernel_rfl) (by kernel_rfl) (nI (by kernel_rfl) (by kernel_rfl) (m9 N X x35 x36 x37 h0 h1 v7 v8 v9 v10 v11 v12) (nI (by kernel_rfl) (by kernel_rfl) (m7 N X x35 x36 x37 h0 h1 v7 v8 v9 v10 v11 v12) (m6 N X x35 x36 x37 h0 h1 v7 v8 v9 v10 v11 v12)))) (nE (by kernel_rfl) (by kernel_rfl) (nI (by kernel_rfl) (by kernel_rfl) (mZ N X x35 x36 x37 h0 h1 v7 v8 v9 v10 v11 v12) (nI (by kernel_rfl) (by kernel_rfl) (mY N X x35 x36 x37 h0 h1 v7 v8 v9 v10 v11 v12) (mX N X x35 x36 x37 h0 h1 v7 v8 v9 v10 v11 v12)))))))) (nI (by kernel_rfl) (by kernel_rfl) (nE (by kernel_rfl) (by kernel_rfl) (nI (by kernel_rfl) (by kernel_rfl) (mW N X x35 x36 x37 h0 h1 v7 v8 v9) (nI (by kernel_rfl) (by kernel_rfl) (mU N X x35 x36 x37 h0 h1 v7 v8 v9) (mT N X x35 x36 x37 h0 h1 v7 v8 v9)))) (nE (by kernel_rfl) (by kernel_rfl) (nI (by kernel_rfl) (by kernel_rfl) (lU N X x35 x36 x37 h0 h1 v7 v8 v9) (nI (by kernel_rfl) (by kernel_rfl) (lT N X x35 x36 x37 h0 h1 v7 v8 v9) (lS N X x35 x36 x37 h0 h1 v7 v8 v9))))))))))))))))) (by kernel_rfl))
theorem pz (X:pz4→Option ((((Bool×Unit)×Unit) ⊕ (Unit×Unit))))(x35:List pz20)(x36:Int)(x37:Int)(h0:List UInt8×pz0)(h1:List UInt8×pz1):(aq Db (aim N) 400 [3] cY (ao Db [3] 5) X ((x35,x36,x37,()),(h0,h1,()))).run=aO N X x35 x36 x37 h0 h1:=pu N X x35 x36 x37 h0 h1
noncomputable def asH:(R:Type)→Env R:=Env.addLp (aim N) [3] 0 5 (fun R=>lpK Db cY (fun X c=>aO N X c.1.1 c.1.2.1 c.1.2.2.1 c.2.1 c.2.2.1) N)
theorem ail (R:Type):EnvOK Db (asH N R):=EnvOK.addLp (abI N R) (by kernel_rfl) (aw (li:=cY) hmx (abI N _) (by kernel_rfl) ab (fun X c=>pz N X c.1.1 c.1.2.1 c.1.2.2.1 c.2.1 c.2.2.1) N)
noncomputable def fB (name0:List UInt8)(l1:List pz2)(steps2:List pz20):Option Bool:=
 bif (decide ((200:Int)<(name0.length:Int))) then
  gt (@cy N) fun v4=>
  some (v4)
 else
  gt (iP N l1) fun v4=>
  bif (cond false true v4) then
   gt (@cy N) fun v5=>
   some (v5)
  else
   gt (kC N l1) fun v5=>
   gt (pO N name0 v5) fun v6=>
   gt (cR steps2 (@minI (steps2.length:Int) (20:Int))) fun v7=>
   gt (iQ N ((v7,((v7.length:Int),(0,()))),(v6,((name0,(l1,(0,(0,(zc16,(0,(0,((Array.toList (List.toArray ([]:List UInt8))),(zc32,([]:List (pz5))))))))))),())))) fun v8=>
   Dc
    (fun (v9:((Bool×Unit)×Unit))=>
    some (v9.1.1))
    (fun (v9:(Unit×Unit))=>
    gt (@cy N) fun v10=>
    some (v10)) v8
theorem rL (name0:List UInt8)(l1:List pz2)(steps2:List pz20):(runK Db (asH N) 400 3 [.str,(.sl (.pair .str .str)),qz3] [.bool] (name0,l1,steps2,())).run=fB N name0 l1 steps2:=by kernel_rfl
theorem rM (name0:List UInt8)(l1:List pz2)(steps2:List pz20)(y:Bool)(h:fB N name0 l1 steps2=some y):kR Db 3 (valA [.str,(.sl (.pair .str .str)),qz3] (name0,l1,steps2,())) (tupV (valR [.bool] y)):=yz hmx (ail N _) (pi (by kernel_rfl)) (by rw [rL];exact h)
end
end Go.Proofs.YtolkfnemdejonaaGreatDoor
namespace Go.Proofs.YtolkfnemdejonaaGreatDoor
set_option maxRecDepth 100000
open Go.RowKit
set_option linter.unusedVariables false
set_option linter.unusedSimpArgs false
set_option maxRecDepth 100000
abbrev Sx:Type:=Int×(Arr Int 16×(Bool×(Ct×Us)))
abbrev Ox:Type:=((Bool×Unit)×Unit) ⊕ (Unit×Unit)
abbrev Cx:Type:=(List Sx×(Int×(Int×Unit)))×(As×(Rs×Unit))
noncomputable def alh (X:Cx→Option Ox)(x35:List Sx)(x36 x37:Int)(v13:As×List Ct)(v14:Rs×List Ct):Option Ox:=
 bif (!(decide ((v13.2.length:Int)=(v14.2.length:Int)))) then
  some ((.inl ((false,()),())))
 else
  bif (cond false true (!(decide (v13.1.2.2.1=v14.1.2.2.1)))) then
   some ((.inl ((false,()),())))
  else
   bif (cond false true (!(decide (v13.1.2.2.2.2.2.2.2.2.2.1=v14.1.2.2.2.2.2.2.2.1)))) then
    some ((.inl ((false,()),())))
   else
    bif ((wfB (.arr 32 (.int .u8)) v13.1.2.2.2.2.2.2.2.2.2.2)&&(wfB (.arr 32 (.int .u8)) v14.1.2.2.2.2.2.2.2.2.1)) then
     bif (cond false true (!(@C5 (@Eq (Arr Int 32) v13.1.2.2.2.2.2.2.2.2.2.2 v14.1.2.2.2.2.2.2.2.2.1) (@decT (.arr 32 (.int .u8)) v13.1.2.2.2.2.2.2.2.2.2.2 v14.1.2.2.2.2.2.2.2.2.1)))) then
      some ((.inl ((false,()),())))
     else
      gt (av 200000 ((v13.2,(v14.2,(x35,(x36,(x37,((v13.2.length:Int),(0,()))))))),(v13.1,(v14.1,())))) fun v15=>
      Dc
       (fun (v16:((Bool×Unit)×Unit))=>some ((.inl ((v16.1.1,()),()))))
       (fun (v16:Cx)=>(X ((v16.1.1,(v16.1.2.1,((ne .i64 (v16.1.2.2.1+1)),()))),(v16.2.1,(v16.2.2.1,()))))) v15
    else
     none
theorem asa {A B:Type}(G:(A→Option B)→A→Option B)(c0 c1:A)(r:B)(h0:∀ X,G X c0=X c1)(h1:∀ X,G X c1=some r):gl G 200000 c0=some r:=by
 show gl G (199998+1+1) c0=_
 rw [ah,h0,ah,h1]
theorem amJ {A B:Type}(G:(A→Option B)→A→Option B)(c0:A)(r:B)(h0:∀ X,G X c0=some r):gl G 200000 c0=some r:=by
 show gl G (199999+1) c0=_
 rw [ah,h0]
theorem asz (L:List Ct)(hf:Few L)(x35:List Sx)(x36 x37:Int)(h0:As)(h1:Rs):av 200000 ((L,(L,(x35,(x36,(x37,((L.length:Int),(0,()))))))),(h0,(h1,())))=some (.inr ((x35,(x36,(x37,()))),(h0,(h1,())))):=by
 unfold av
 rcases hf with rfl | ⟨p,rfl,hp⟩
 ·refine amJ _ _ _ (fun X=> ?_)
  show aZ 200000 X [] [] x35 x36 x37 _ 0 h0 h1=_
  unfold aZ
  exact (bneg (by show ¬ (0:Int)<0;omega)).trans rfl
 ·refine asa _ _ (([p],([p],(x35,(x36,(x37,((([p]:List Ct).length:Int),(ne .i64 ((0:Int)+1),()))))))),(h0,(h1,()))) _ (fun X=> ?_) (fun X=> ?_)
  ·show aZ 200000 X [p] [p] x35 x36 x37 _ 0 h0 h1=_
   unfold aZ
   exact (bpos (by show (0:Int)<1;omega)).trans ((bnd (v:=p) rfl).trans ((bnd (v:=p) rfl).trans ((bnd (amX p hp)).trans ((bvn rfl).trans rfl))))
  ·show aZ 200000 X [p] [p] x35 x36 x37 _ _ h0 h1=_
   unfold aZ
   exact (bneg (by show ¬ (1:Int)<1;omega)).trans rfl
theorem oP (X:Cx→Option Ox)(x35:List Sx)(x36 x37:Int)(a:As×List Ct)(b:Rs×List Ct)(h:Both a b):alh X x35 x36 x37 a b=X ((x35,(x36,(ne .i64 (x37+1),()))),(a.1,(b.1,()))):=by
 obtain ⟨x',L⟩:=a
 obtain ⟨r',L'⟩:=b
 obtain ⟨⟨own,us,st,id,ch,t,l,ans,cd,who,key,hx,hr,ok⟩,hL,hf⟩:=h
 simp only at hx hr hL hf
 subst hx hr hL
 have hw:=wfB_b key ok.fkey
 unfold alh
 refine (bvn (show (!(decide ((L'.length:Int)=(L'.length:Int))))=false by rw [decide_eq_true rfl];rfl)).trans ?_
 refine (bvn (show (cond false true (!(decide (st=st))))=false by rw [decide_eq_true rfl];rfl)).trans ?_
 refine (bvn (show (cond false true (!(decide (who=who))))=false by rw [decide_eq_true rfl];rfl)).trans ?_
 refine (bvp (show (wfB (.arr 32 (.int .u8)) key&&wfB (.arr 32 (.int .u8)) key)=true by rw [hw];rfl)).trans ?_
 refine (bvn (show (cond false true (!(@C5 (key=key) (decT (.arr 32 (.int .u8)) key key))))=false by rw [dT rfl];rfl)).trans ?_
 exact (bnd (asz L' hf x35 x36 x37 _ _)).trans rfl
theorem ari (p:Arr Int 16)(r:Arr Int 24)(hp:AllB p.l)(hr:AllB r.l):AllB (valB p.l r.l):=((hp.append (wy 8 0 (by omega))).append hr).append (AllB.cons (by omega) AllB.nil)
theorem ahG (a b:Int)(v:List Int)(s:List UInt8):(layK a b v s).2.2.length≤256+s.length:=by
 unfold layK
 simp only [C6,C8,C9,List.length_take,ct]
 omega
theorem aru (X:Cx→Option Ox)(x35:List Sx)(x36 x37:Int)(x:As)(r:Rs)(v:Sx)(hlt:x37<x36)(hg:getI x35 x37=some v)(hc:AllB v.2.1.l)(hd:AllB v.2.2.2.1.2.2)(h:Rlx x r):
  aO 200000 X x35 x36 x37 x r=some (.inl ((true,()),()))∨∃ x' r',Rlx x' r'∧aO 200000 X x35 x36 x37 x r=X ((x35,(x36,(ne .i64 (x37+1),()))),(x',(r',()))):=by
 have hal:=aga
 obtain ⟨k,chal,last,c,name,pw⟩:=v
 simp only at hc hd
 unfold aO
 generalize cy 200000=al at hal ⊢
 subst hal
 by_cases l1:(500:Int)<(c.2.2.length:Int)
 ·left
  exact (bpos hlt).trans ((bnd hg).trans ((bpos l1).trans (bnd rfl)))
 by_cases l2:(200:Int)<(name.length:Int)
 ·left
  exact (bpos hlt).trans ((bnd hg).trans ((bneg l1).trans ((bnd (v:=true) (show some (cond false true (decide ((200:Int)<(name.length:Int))))=some true by rw [decide_eq_true l2];rfl)).trans ((bvp rfl).trans (bnd rfl)))))
 by_cases l3:(300:Int)<(pw.length:Int)
 ·left
  exact (bpos hlt).trans ((bnd hg).trans ((bneg l1).trans ((bnd (v:=false) (show some (cond false true (decide ((200:Int)<(name.length:Int))))=some false by rw [decide_eq_false l2];rfl)).trans ((bvn rfl).trans ((bnd (v:=true) (show some (cond false true (decide ((300:Int)<(pw.length:Int))))=some true by rw [decide_eq_true l3];rfl)).trans ((bvp rfl).trans (bnd rfl)))))))
 right
 by_cases k3:Da k 4=3
 ·obtain ⟨own,us,st,id,ch,t,l,ans,cd,who,key,hx,hr,ok⟩:=id h
  obtain ⟨P,e,q1,_,q3⟩:=ahm chal ch name pw hc ok.fch (by omega) (by omega)
  have hv:=aeq chal P
  have hlay:=arW 2 c.2.1 (valB chal.l P.l) name (by omega)
  have hB:AllB (layK 2 c.2.1 (valB chal.l P.l) name).2.2:=ae4 2 c.2.1 _ name (ari chal P hc q1)
  have hlen:(layK 2 c.2.1 (valB chal.l P.l) name).2.2.length≤600:=by have:=ahG 2 c.2.1 (valB chal.l P.l) name;omega
  have hchr:r.2.2.2.2.1=ch:=by rw [hr];rfl
  cases last with
  | true=>
   obtain ⟨a,b,j1,j2,j3⟩:=yu x r ((layK 2 c.2.1 (valB chal.l P.l) name).1,(r.2.2.2.1,(layK 2 c.2.1 (valB chal.l P.l) name).2.2)) h hB hlen
   refine ⟨a.1,b.1,j3.1, ?_⟩
   refine (bpos hlt).trans ((bnd hg).trans ((bneg l1).trans ((bnd (v:=false) (show some (cond false true (decide ((200:Int)<(name.length:Int))))=some false by rw [decide_eq_false l2];rfl)).trans ((bvn rfl).trans ((bnd (v:=false) (show some (cond false true (decide ((300:Int)<(pw.length:Int))))=some false by rw [decide_eq_false l3];rfl)).trans ((bvn rfl).trans ?_))))))
   refine (bpos k3).trans ((bnd (show fK 200000 chal r.2.2.2.2.1 name pw=some (P,e) by rw [hchr];exact q3)).trans ((bnd hv).trans ((bnd hlay).trans ((bvp rfl).trans ?_))))
   refine (bneg (show ¬ Da k 4=0 by omega)).trans ((bneg (show ¬ Da k 4=1 by omega)).trans ?_)
   unfold eG
   exact (bnd j1).trans ((bnd j2).trans (oP X x35 x36 x37 a b j3))
  | false=>
   obtain ⟨a,b,j1,j2,j3⟩:=yu x r (layK 2 c.2.1 (valB chal.l P.l) name) h hB hlen
   refine ⟨a.1,b.1,j3.1, ?_⟩
   refine (bpos hlt).trans ((bnd hg).trans ((bneg l1).trans ((bnd (v:=false) (show some (cond false true (decide ((200:Int)<(name.length:Int))))=some false by rw [decide_eq_false l2];rfl)).trans ((bvn rfl).trans ((bnd (v:=false) (show some (cond false true (decide ((300:Int)<(pw.length:Int))))=some false by rw [decide_eq_false l3];rfl)).trans ((bvn rfl).trans ?_))))))
   refine (bpos k3).trans ((bnd (show fK 200000 chal r.2.2.2.2.1 name pw=some (P,e) by rw [hchr];exact q3)).trans ((bnd hv).trans ((bnd hlay).trans ((bvn rfl).trans ?_))))
   refine (bneg (show ¬ Da k 4=0 by omega)).trans ((bneg (show ¬ Da k 4=1 by omega)).trans ?_)
   unfold eF
   exact (bnd j1).trans ((bnd j2).trans (oP X x35 x36 x37 a b j3))
 ·by_cases k0:Da k 4=0
  ·obtain ⟨a,b,j1,j2,j3⟩:=ag7 x r chal h hc
   refine ⟨a.1,b.1,j3.1, ?_⟩
   refine (bpos hlt).trans ((bnd hg).trans ((bneg l1).trans ((bnd (v:=false) (show some (cond false true (decide ((200:Int)<(name.length:Int))))=some false by rw [decide_eq_false l2];rfl)).trans ((bvn rfl).trans ((bnd (v:=false) (show some (cond false true (decide ((300:Int)<(pw.length:Int))))=some false by rw [decide_eq_false l3];rfl)).trans ((bvn rfl).trans ?_))))))
   refine (bneg k3).trans ?_
   cases last with
   | true=>
    refine (bvp rfl).trans ((bpos k0).trans ?_)
    unfold eE
    exact (bnd j1).trans ((bnd j2).trans (oP X x35 x36 x37 a b j3))
   | false=>
    refine (bvn rfl).trans ((bpos k0).trans ?_)
    unfold eb
    exact (bnd j1).trans ((bnd j2).trans (oP X x35 x36 x37 a b j3))
  ·by_cases k1:Da k 4=1
   ·obtain ⟨a,b,j1,j2,j3⟩:=alQ x r h
    refine ⟨a.1,b.1,j3.1, ?_⟩
    refine (bpos hlt).trans ((bnd hg).trans ((bneg l1).trans ((bnd (v:=false) (show some (cond false true (decide ((200:Int)<(name.length:Int))))=some false by rw [decide_eq_false l2];rfl)).trans ((bvn rfl).trans ((bnd (v:=false) (show some (cond false true (decide ((300:Int)<(pw.length:Int))))=some false by rw [decide_eq_false l3];rfl)).trans ((bvn rfl).trans ?_))))))
    refine (bneg k3).trans ?_
    cases last with
    | true=>
     refine (bvp rfl).trans ((bneg k0).trans ((bpos k1).trans ?_))
     unfold eD
     exact (bnd j1).trans ((bnd j2).trans (oP X x35 x36 x37 a b j3))
    | false=>
     refine (bvn rfl).trans ((bneg k0).trans ((bpos k1).trans ?_))
     unfold ea
     exact (bnd j1).trans ((bnd j2).trans (oP X x35 x36 x37 a b j3))
   ·cases last with
    | true=>
     obtain ⟨a,b,j1,j2,j3⟩:=yu x r (c.1,(r.2.2.2.1,c.2.2)) h hd (show c.2.2.length≤600 by omega)
     refine ⟨a.1,b.1,j3.1, ?_⟩
     refine (bpos hlt).trans ((bnd hg).trans ((bneg l1).trans ((bnd (v:=false) (show some (cond false true (decide ((200:Int)<(name.length:Int))))=some false by rw [decide_eq_false l2];rfl)).trans ((bvn rfl).trans ((bnd (v:=false) (show some (cond false true (decide ((300:Int)<(pw.length:Int))))=some false by rw [decide_eq_false l3];rfl)).trans ((bvn rfl).trans ?_))))))
     refine (bneg k3).trans ((bvp rfl).trans ((bneg k0).trans ((bneg k1).trans ?_)))
     unfold eC
     exact (bnd j1).trans ((bnd j2).trans (oP X x35 x36 x37 a b j3))
    | false=>
     obtain ⟨a,b,j1,j2,j3⟩:=yu x r c h hd (by omega)
     refine ⟨a.1,b.1,j3.1, ?_⟩
     refine (bpos hlt).trans ((bnd hg).trans ((bneg l1).trans ((bnd (v:=false) (show some (cond false true (decide ((200:Int)<(name.length:Int))))=some false by rw [decide_eq_false l2];rfl)).trans ((bvn rfl).trans ((bnd (v:=false) (show some (cond false true (decide ((300:Int)<(pw.length:Int))))=some false by rw [decide_eq_false l3];rfl)).trans ((bvn rfl).trans ?_))))))
     refine (bneg k3).trans ((bvn rfl).trans ((bneg k0).trans ((bneg k1).trans ?_)))
     unfold d9
     exact (bnd j1).trans ((bnd j2).trans (oP X x35 x36 x37 a b j3))
noncomputable def G5:(Cx→Option Ox)→Cx→Option Ox:=fun X c=>aO 200000 X c.1.1 c.1.2.1 c.1.2.2.1 c.2.1 c.2.2.1
theorem atQ (l:List Sx)(hl:l.length≤1000)(hw:∀ v∈l,AllB v.2.1.l∧AllB v.2.2.2.1.2.2)(n:Nat):∀ (k i:Nat) (x:As) (r:Rs),i+n=l.length→n<k→Rlx x r→
  ∃ o:Ox,gl G5 k ((l,((l.length:Int),((i:Int),()))),(x,(r,())))=some o∧(o= .inl ((true,()),())∨o= .inr ((),())):=by
 induction n with
 | zero=>
  intro k i x r hi hk _
  obtain ⟨k,rfl⟩:∃ k',k=k'+1:=⟨k-1,by omega⟩
  refine ⟨.inr ((),()), ?_,.inr rfl⟩
  rw [ah]
  show aO 200000 (gl G5 k) l (l.length:Int) (i:Int) x r=_
  unfold aO
  exact (bneg (by omega)).trans rfl
 | succ n ih=>
  intro k i x r hi hk hr
  obtain ⟨k,rfl⟩:∃ k',k=k'+1:=⟨k-1,by omega⟩
  have hlt:i<l.length:=by omega
  have hv:=hw _ (List.getElem_mem hlt)
  have w:ne .i64 ((i:Int)+1)=((i+1:Nat):Int):=by rw [ac (by omega) (by omega)];omega
  rw [ah]
  show ∃ o:Ox,aO 200000 (gl G5 k) l (l.length:Int) (i:Int) x r=some o∧_
  rcases aru (gl G5 k) l (l.length:Int) (i:Int) x r l[i] (by omega) (aS l i hlt) hv.1 hv.2 hr with h | ⟨x',r',h1,h2⟩
  ·exact ⟨_,h,.inl rfl⟩
  ·obtain ⟨o,o1,o2⟩:=ih k (i+1) x' r' (by omega) (by omega) h1
   rw [w] at h2
   exact ⟨o,h2.trans o1,o2⟩
theorem ah7 (l:List Us)(h:l.length≤1000):bo 200000 l=some l:=by
 unfold bo bC
 cases l with
 | nil=>rfl
 | cons x l=>exact (bvn rfl).trans ((bvn rfl).trans ((rpos (by omega) (by omega)).trans rfl))
theorem xa (name:List UInt8)(l:List Us)(steps:List Sx)(w1:wfT .str name)(w2:wfT (.sl (.pair .str .str)) l)(w3:wfT (.sl (.pair (.int .u8) (.pair (.arr 16 (.int .u8)) (.pair .bool (.pair (.pair (.int .u8) (.pair (.int .u8) (.sl (.int .u8)))) (.pair .str .str)))))) steps):fB 200000 name l steps=some true:=by
 have hal:=aga
 unfold fB
 generalize cy 200000=al at hal ⊢
 subst hal
 by_cases l1:(200:Int)<(name.length:Int)
 ·exact (bpos l1).trans (bnd rfl)
 refine (bneg l1).trans ?_
 rcases asi l with hf | ⟨hf,hll,hu⟩
 ·exact (bnd hf).trans ((bvp rfl).trans (bnd rfl))
 refine (bnd hf).trans ((bvn rfl).trans ?_)
 refine (bnd (ag3 l (by omega))).trans ?_
 have hnew:pO 200000 name l=some (xS name l 0 0 z16 0 0 [] 0 [] z32):=by
  unfold pO
  exact (bnd (ah7 l (by omega))).trans rfl
 refine (bnd hnew).trans ?_
 have hmi:minI (steps.length:Int) 20=((min steps.length 20:Nat):Int):=by unfold minI;split <;> omega
 have ht:cR steps (minI (((steps.length:Nat)):Int) (20:Int))=some (steps.take (min steps.length 20)):=by rw [hmi];exact eg steps rfl (by omega)
 refine (bnd ht).trans ?_
 have hle:(steps.take (min steps.length 20)).length≤1000:=by rw [List.length_take];omega
 have hr0:Rlx (xS name l 0 0 z16 0 0 [] 0 [] z32) (rS name l 0 0 z16 0 0 [] z32 []):=⟨name,l,0,0,z16,0,0,[],0,[],z32,rfl,rfl,⟨by omega,hll,hu,by omega,wy 16 0 (by omega),by omega,fun _=>rfl,by omega,by omega,AllB.nil,Nat.zero_le _,fun _=>rfl,wy 32 0 (by omega)⟩⟩
 obtain ⟨o,o1,o2⟩:=atQ (steps.take (min steps.length 20)) hle (fun v hv=>by
  have hv':=w3.2 v (List.mem_of_mem_take hv)
  exact ⟨wf16 hv'.2.1,ag0 hv'.2.2.2.1.2.2⟩) (steps.take (min steps.length 20)).length 200000 0 _ _ (by omega) (by omega) hr0
 have o1':iQ 200000 ((steps.take (min steps.length 20),(((steps.take (min steps.length 20)).length:Int),((0:Int),()))),(xS name l 0 0 z16 0 0 [] 0 [] z32,(rS name l 0 0 z16 0 0 [] z32 [],())))=some o:=o1
 refine (bnd o1').trans ?_
 rcases o2 with rfl | rfl
 ·rfl
 ·exact bnd rfl
end Go.Proofs.YtolkfnemdejonaaGreatDoor
