/-
  Parts of my own, one behind the other: QZ7, QZ8, QZ9.
-/
import Derived.Test.YtkcdnjgieabjoaaGreatDoorMrg11
import Derived.Test.YtkcdnjgieabjoaaGreatDoorMrg12
import Derived.Test.YtkcdnjgieabjoaaGreatDoorMrg13
namespace Go.Proofs.YtkcdnjgieabjoaaGreatDoor
set_option maxRecDepth 100000
open Go.RowKit
set_option linter.unusedVariables false
set_option linter.unusedSimpArgs false
set_option maxRecDepth 100000
theorem aE7:∃ (h:Arr Int 16) (c:Arr Int 8) (r:Arr Int 24) (k:Arr Int 32) (a:List UInt8),adj 200000 [112]=some (h,0)∧aaR 200000 pf af [117]=some c∧abA 200000 c h=some r∧ab2 200000 pf af [117] [112]=some (r,0)∧aeN 200000 h r true=some k∧acZ 200000 h r c=some a∧a.length≤1000∧AllB r.l∧k.l≠List.replicate 32 0∧wfB (.arr 32 (.int .u8)) k=true:=by
 have e1:=aK8
 have e2:=aLn
 rw [show pe=pf from rfl,show au=af from rfl] at e1
 obtain ⟨x,hx,e1⟩:=Option.bind_eq_some_iff.1 e1
 obtain ⟨h,hh,e1⟩:=Option.bind_eq_some_iff.1 e1
 rw [hx,hh] at e2
 simp only [Option.bind_some] at e2
 obtain ⟨c,hc,e2⟩:=Option.bind_eq_some_iff.1 e2
 obtain ⟨k,hk,e1⟩:=Option.map_eq_some_iff.1 e1
 obtain ⟨a,ha,e2⟩:=Option.map_eq_some_iff.1 e2
 simp only [Bool.and_eq_true,decide_eq_true_eq] at e1 e2
 obtain ⟨⟨x2,h2⟩,k1,k2⟩:=e1
 obtain ⟨a1,r1⟩:=e2
 have hx2:=hx
 unfold ab2 at hx2
 obtain ⟨h',hh',hx3⟩:=Option.bind_eq_some_iff.1 hx2
 have hhe:h'=h:=Option.some.inj (hh'.symm.trans hh)
 subst hhe
 rw [decide_eq_true h2] at hx3
 simp only [Bool.not_true,cond_false] at hx3
 obtain ⟨c',hc',hx4⟩:=Option.bind_eq_some_iff.1 hx3
 have hce:c'=c:=Option.some.inj (hc'.symm.trans hc)
 subst hce
 obtain ⟨r,hr,hx5⟩:=Option.bind_eq_some_iff.1 hx4
 simp only [Option.some.injEq] at hx5
 subst hx5
 obtain ⟨h1,h3⟩:=h'
 simp only at h2 hr hk ha
 subst h2
 refine ⟨h1,c',r,k,a,hh,hc,hr,hx,hk,ha,a1,fun y hy=> ?_,k1,k2⟩
 have:=List.all_eq_true.1 r1 y hy
 simpa using this
theorem aK3 (V:List Int)(h:V.length=49)(hb:AllB V):adz 200000 (layK 2 1 V [117])=some (V,([117],0)):=by
 have e:(layK 2 1 V [117]).2.2=49::(V++[117]):=by
  unfold layK
  have:min V.length 255=V.length:=by omega
  rw [this,List.take_length,h]
  rfl
 have hl:(49::(V++[(117:Int)])).length=51:=by simp;omega
 rw [(aJe _ (aEk 2 1 V [117] hb) (by rw [e,hl];omega)).1]
 congr 1
 unfold parK
 rw [e,hl]
 have g:(49::(V++[(117:Int)])).getD 0 0=49:=rfl
 rw [g,if_neg (by omega)]
 have t1:((49::(V++[(117:Int)])).drop 1).take (49:Int).toNat=V:=by
  show (V++[(117:Int)]).take 49=V
  rw [←h,List.take_left]
 have t2:(49::(V++[(117:Int)])).drop (1+(49:Int).toNat)=[117]:=by
  show (V++[(117:Int)]).drop 49=[117]
  rw [←h,List.drop_left]
 rw [t1,t2]
 rfl
theorem aEu (l:List Int)(h:l.length≤10000):aih 200000 l=some l:=by
 unfold aih agZ
 cases l with
 | nil=>rfl
 | cons x l=>exact (bvn rfl).trans ((bvn rfl).trans ((rpos (by omega) (by omega)).trans rfl))
abbrev As:Type:=List UInt8×(List Us×(Int×(Int×(Arr Int 16×(Int×(Int×(List Int×(Int×(List UInt8×Arr Int 32)))))))))
def z32:Arr Int 32:=⟨List.replicate 32 0,rfl⟩
def st1:As:=([115],([([117],[112])],(1,(1,(af,(1,(3,([],(0,([],z32))))))))))
def st2 (m:List Int)(k:Arr Int 32):As:=([115],([([117],[112])],(2,(1,(af,(1,(3,(m,(3,([117],k))))))))))
theorem aKZ (a:List UInt8)(h:a.length≤1000):∃ m,acB 200000 a [87,101,108,99,111,109,101]=some m∧m.length≤10000:=by
 have hb:=aax
 refine ⟨ofB (a++[32,77,61]++[87,101,108,99,111,109,101]), ?_, ?_⟩
 ·unfold acB
  refine (bpos ?_).trans ((bpos ?_).trans ((rpos ?_ (by omega)).trans rfl))
  ·show a.length+3≤maxLen
   omega
  ·show (a++[32,77,61]).length+7≤maxLen
   rw [List.length_append];simp only [List.length_cons,List.length_nil];omega
  ·show ((a++[32,77,61])++[87,101,108,99,111,109,101]).length≤100000
   simp only [List.length_append,List.length_cons,List.length_nil];omega
 ·rw [abC];simp only [List.length_append,List.length_cons,List.length_nil];omega
theorem aFu:∃ (r:Arr Int 24) (m:List Int) (k:Arr Int 32),ab2 200000 pf af [117] [112]=some (r,0)∧k.l≠List.replicate 32 0∧wfB (.arr 32 (.int .u8)) k=true∧AllB r.l∧
  aaO 200000 st1 (layK 2 1 (valB pf.l r.l) [117])=some (st2 m k,[(3,(1,m))]):=by
 obtain ⟨h,c,r,k,a,p1,p2,p3,p4,p5,p6,p7,p8,p9,p10⟩:=aE7
 obtain ⟨m,m1,m2⟩:=aKZ a p7
 refine ⟨r,m,k,p4,p9,p10,p8, ?_⟩
 have hpB:AllB pf.l:=by unfold pf;exact AllB.cons (by omega) (axm 15 0 (by omega))
 have hV:(valB pf.l r.l).length=49:=by
  have:=r.h
  simp only [valB,List.length_append,List.length_replicate,List.length_cons,List.length_nil,pf.h];omega
 have hVB:AllB (valB pf.l r.l):=((hpB.append (axm 8 0 (by omega))).append p8).append (AllB.cons (by omega) AllB.nil)
 have hpar:=aK3 _ hV hVB
 have hval:adB 200000 (valB pf.l r.l)=some (pf,(r,0)):=by
  have hpl:=pf.h
  have e1:(valB pf.l r.l).take 16=pf.l:=by
   unfold valB
   rw [List.append_assoc,List.append_assoc,List.take_append_of_le_length (by omega),List.take_of_length_le (by omega)]
  have e2:((valB pf.l r.l).drop 24).take 24=r.l:=by
   have:=r.h
   unfold valB
   rw [List.append_assoc,List.drop_append_of_le_length (by simp only [List.length_append,List.length_replicate];omega),List.drop_eq_nil_of_le (by simp only [List.length_append,List.length_replicate];omega),List.nil_append,List.take_append_of_le_length (by omega),List.take_of_length_le (by omega)]
  have q1:aiR _ hV=pf:=Arr.eq e1
  have q2:aiF _ hV=r:=Arr.eq e2
  rw [at8 _ hVB (by omega),dif_pos hV,if_pos ((akq _ hV).1 (by rw [q1,q2])),q1,q2]
 have hproof:aa1 200000 st1 pf r [117]=some (h,true):=by
  unfold aa1
  refine (bnd (v:=((([117],[112]):Us),true)) (by kernel_rfl)).trans ?_
  refine (bvn rfl).trans ?_
  refine (bnd p1).trans ?_
  refine (bvn rfl).trans ?_
  refine (bnd p2).trans ?_
  refine (bnd p3).trans ?_
  have:=r.h
  refine (bnd (aFb r.l r.l p8 p8 (by omega) (by omega) (by omega))).trans ?_
  rw [decide_eq_true rfl]
  rfl
 have htold:aaS 200000 (st2 m k)=some [(3,(1,m))]:=by
  unfold aaS
  refine (bneg (by show ¬ (3:Int)=0;omega)).trans ?_
  exact (bnd (aEu m m2)).trans rfl
 unfold aaO
 refine (bnd hpar).trans ?_
 refine (bvn rfl).trans ?_
 refine (bnd hval).trans ?_
 refine (bvn rfl).trans ?_
 refine (bnd hproof).trans ?_
 refine (bvn rfl).trans ?_
 refine (bnd p5).trans ?_
 refine (bnd p2).trans ?_
 refine (bnd p6).trans ?_
 refine (bnd m1).trans ?_
 refine (bnd htold).trans ?_
 rfl
theorem aF7:abd 200000=some true:=by
 obtain ⟨r,m,k,p1,p2,p3,p4,p5⟩:=aFu
 have htake:aaA 200000 st1 (layK 2 1 (valB pf.l r.l) [117])=some (st2 m k,[(3,(1,m))]):=by
  unfold aaA
  refine (bnd (v:=false) rfl).trans ?_
  refine (bvn rfl).trans ?_
  refine (bpos rfl).trans ?_
  exact (bnd p5).trans rfl
 unfold abd
 refine (bnd (v:=(st1,[((1:Int),((1:Int),16::(af.l++[115])))])) (by kernel_rfl)).trans ?_
 refine (bnd (v:=false) (by kernel_rfl)).trans ?_
 refine (bnd (v:=false) (by kernel_rfl)).trans ?_
 refine (bvn rfl).trans ?_
 refine (bnd p1).trans ?_
 refine (bnd (atP pf r)).trans ?_
 refine (bnd (azu 2 1 (valB pf.l r.l) [117] (by simp))).trans ?_
 refine (bnd htake).trans ?_
 refine (bpos rfl).trans ?_
 refine (bnd (v:=true) rfl).trans ?_
 refine (bnd (v:=true) rfl).trans ?_
 refine (bvp rfl).trans ?_
 refine (bnd (v:=true) rfl).trans ?_
 refine (bvp rfl).trans ?_
 refine (bnd (v:=true) (by kernel_rfl)).trans ?_
 refine (bvp rfl).trans ?_
 have hz:wfB (.arr 32 (.int .u8)) z32=true:=by kernel_rfl
 have hne:¬ k=z32:=fun e=>p2 (by rw [e];rfl)
 refine (bnd (v:=true) ?_).trans rfl
 refine (bvp ?_).trans ?_
 ·show (wfB (.arr 32 (.int .u8)) k&&wfB (.arr 32 (.int .u8)) z32)=true
  rw [p3,hz]
  rfl
 ·show some (cond true (!(@Decidable.decide (k=z32) _)) false)=some true
  rw [decide_eq_false hne]
  rfl
theorem ayS (p:Arr Int 16)(r:Arr Int 24):afD 200000 p r=some (valB p.l r.l):=by
  have hp:=p.h
  have hr:=r.h
  unfold afD
  rw [abQ (by omega),abQ (by omega),abQ (by simp only [List.length_append,List.length_replicate];omega),abQ (by simp only [List.length_append,List.length_replicate,List.length_cons,List.length_nil];omega)]
  rfl
theorem asP (p a:Arr Int 16)(s w:List UInt8)(hp:AllB p.l)(ha:AllB a.l)(hs:s.length≤300)(hw:w.length≤300):∃ (D:Arr Int 16) (e:Int) (W:Arr Int 24),adj 200000 w=some (D,e)∧AllB D.l∧AllB W.l∧abG 200000 p a s w=some (W,e)∧(e=0→∃ C:Arr Int 8,AllB C.l∧aaR 200000 p a s=some C∧abA 200000 C D=some W):=by
  obtain ⟨D,e,d1,d2,d3⟩:=azj w (by omega)
  by_cases he:e=0
  · obtain ⟨C,c1,c2,c3⟩:=aAf p a s hp ha hs
    obtain ⟨R,r1,r2,r3⟩:=ayZ C D c1 d3
    refine ⟨D,e,R,d1,d3,r1, ?_,fun _=>⟨C,c1,c2,r2⟩⟩
    unfold abG
    rw [d2,Option.bind_some]
    simp only [he,decide_true,Bool.not_true,cond_false,c3,r3,Option.bind_some]
  · refine ⟨D,e,⟨List.replicate 24 0,rfl⟩,d1,d3,AllB.zeros 24, ?_,fun h=>absurd h he⟩
    unfold abG
    rw [d2,Option.bind_some]
    simp only [he,decide_false,Bool.not_false,cond_true]
    rfl
theorem aCw (s:List UInt8):(ofB s).map aAk=s:=Option.some.inj ((amh (axD s)).symm.trans (apl s))
theorem parN (V:List Int)(n:List UInt8)(h:V.length=49)(hb:AllB V)(hn:n.length≤300):adz 200000 (layK 2 1 V n)=some (V,(n,0)):=by
  have e:(layK 2 1 V n).2.2=49::(V++ofB n):=by
    unfold layK
    have:min V.length 255=V.length:=by omega
    rw [this,List.take_length,h]
    rfl
  have hl:(49::(V++ofB n)).length=50+n.length:=by simp only [List.length_cons,List.length_append,abC];omega
  rw [(aJe _ (aEk 2 1 V n hb) (by rw [e,hl];omega)).1]
  congr 1
  unfold parK
  rw [e,hl]
  have g:(49::(V++ofB n)).getD 0 0=49:=rfl
  rw [g,if_neg (by omega)]
  have t1:((49::(V++ofB n)).drop 1).take (49:Int).toNat=V:=by
    show (V++ofB n).take 49=V
    rw [←h,List.take_left]
  have t2:(49::(V++ofB n)).drop (1+(49:Int).toNat)=ofB n:=by
    show (V++ofB n).drop 49=ofB n
    rw [←h,List.drop_left]
  rw [t1,t2,aCw]
theorem aD9 (p:Arr Int 16)(r:Arr Int 24):(valB p.l r.l).length=49:=by
  have:=r.h
  have:=p.h
  simp only [valB,List.length_append,List.length_replicate,List.length_cons,List.length_nil];omega
theorem aIT (p:Arr Int 16)(r:Arr Int 24)(hp:AllB p.l)(hr:AllB r.l):AllB (valB p.l r.l):=((hp.append (axm 8 0 (by omega))).append hr).append (AllB.cons (by omega) AllB.nil)
theorem aJd (p:Arr Int 16)(r:Arr Int 24)(hp:AllB p.l)(hr:AllB r.l):adB 200000 (valB p.l r.l)=some (p,(r,0)):=by
  have hpl:=p.h
  have hrl:=r.h
  have hV:=aD9 p r
  have e1:(valB p.l r.l).take 16=p.l:=by
    unfold valB
    rw [List.append_assoc,List.append_assoc,List.take_append_of_le_length (by omega),List.take_of_length_le (by omega)]
  have e2:((valB p.l r.l).drop 24).take 24=r.l:=by
    unfold valB
    rw [List.append_assoc,List.drop_append_of_le_length (by simp only [List.length_append,List.length_replicate];omega),List.drop_eq_nil_of_le (by simp only [List.length_append,List.length_replicate];omega),List.nil_append,List.take_append_of_le_length (by omega),List.take_of_length_le (by omega)]
  have q1:aiR _ hV=p:=Arr.eq e1
  have q2:aiF _ hV=r:=Arr.eq e2
  rw [at8 _ (aIT p r hp hr) (by omega),dif_pos hV,if_pos ((akq _ hV).1 (by rw [q1,q2])),q1,q2]
theorem aLf (u:Us)(h1:u.1.length≤1000)(h2:u.2.length≤1000):afq 200000 [u] u.1=some (u,true):=by
  rw [aJI [u] u.1 h1 (fun v hv=>by rw [List.mem_singleton.1 hv];exact ⟨h1,h2⟩) (by simp)]
  unfold axS
  rw [if_pos rfl]
  rfl
def stU (u:Us)(a:Arr Int 16):As:=([115],([u],(1,(1,(a,(1,(3,([],(0,([],z32))))))))))
theorem ay9 (u:Us)(a peer:Arr Int 16)(r:Arr Int 24)(hu1:u.1.length≤300)(hu2:u.2.length≤300)(ha:AllB a.l)(hp:AllB peer.l)(hr:AllB r.l):
    ∃ (D:Arr Int 16) (e:Int) (W:Arr Int 24),AllB D.l∧AllB W.l∧abG 200000 peer a u.1 u.2=some (W,e)∧((e=0∧r=W∧(∃ C:Arr Int 8,AllB C.l∧aaR 200000 peer a u.1=some C)∧aa1 200000 (stU u a) peer r u.1=some (D,true))∨(¬ (e=0∧r=W)∧∃ Z,aa1 200000 (stU u a) peer r u.1=some (Z,false))):=by
  obtain ⟨D,e,W,d1,d2,d3,d4,d5⟩:=asP peer a u.1 u.2 hp ha hu1 hu2
  refine ⟨D,e,W,d2,d3,d4, ?_⟩
  unfold aa1
  have hf:=aLf u (by omega) (by omega)
  by_cases he:e=0
  · obtain ⟨C,c1,c2,c3⟩:=d5 he
    subst he
    have hW:=W.h
    have hR:=r.h
    have ho:=aFb W.l r.l d3 hr (by omega) (by omega) (N:=200000) (by omega)
    by_cases hw:r=W
    · refine .inl ⟨rfl,hw,⟨C,c1,c2⟩, ?_⟩
      subst hw
      rw [decide_eq_true rfl] at ho
      refine (bnd hf).trans ((bvn rfl).trans ((bnd d1).trans ((bvn rfl).trans ((bnd c2).trans ((bnd c3).trans ((bnd ho).trans ?_))))))
      rfl
    · refine .inr ⟨fun h=>hw h.2,z16, ?_⟩
      rw [decide_eq_false (fun h=>hw (Arr.eq h.symm))] at ho
      refine (bnd hf).trans ((bvn rfl).trans ((bnd d1).trans ((bvn rfl).trans ((bnd c2).trans ((bnd c3).trans ((bnd ho).trans ?_))))))
      rfl
  · refine .inr ⟨fun h=>he h.1,z16, ?_⟩
    refine (bnd hf).trans ((bvn rfl).trans ((bnd d1).trans ((bvp (by rw [decide_eq_false he];rfl)).trans ?_)))
    rfl
theorem aEL (a:List UInt8)(h:a.length≤1000):∃ s:List UInt8,acB 200000 a [87,101,108,99,111,109,101]=some (ofB s)∧s.length≤2000:=by
  have hb:=aax
  refine ⟨a++[32,77,61]++[87,101,108,99,111,109,101], ?_, ?_⟩
  · unfold acB
    refine (bpos ?_).trans ((bpos ?_).trans ((rpos ?_ (by omega)).trans rfl))
    · show a.length+3≤maxLen
      omega
    · show (a++[32,77,61]).length+7≤maxLen
      rw [List.length_append];simp only [List.length_cons,List.length_nil];omega
    · show ((a++[32,77,61])++[87,101,108,99,111,109,101]).length≤100000
      simp only [List.length_append,List.length_cons,List.length_nil];omega
  · simp only [List.length_append,List.length_cons,List.length_nil];omega
def fU (a:Arr Int 16):Fl:=(691,(false,(a,[78,111])))
theorem aCU (a:Arr Int 16)(ha:AllB a.l):∃ s:List UInt8,afr 200000 (fU a)=some (ofB s,0)∧s.length≤2000:=by
  refine ⟨layF (fU a), ?_, ?_⟩
  · rw [aJM (fU a) ha (by show 2≤1000;omega)]
    unfold aFF
    rw [if_neg (by show ¬ ((691:Int)<0∨9999<(691:Int));omega),if_pos (by show asc [78,111]=true;decide)]
  · have h1:=a.h
    have h2:=aAc (n:=691) (by omega)
    have h3:=ah1 a.l
    show (L8 (Lib.decDigits 691) [48] (hexS a.l) [78,111]).length≤2000
    unfold L8 mE mR mC mV
    simp only [List.length_append,List.length_cons,List.length_nil];omega
def enU (u:Us)(a:Arr Int 16)(st cd:Int)(m:List Int)(wh:List UInt8)(k:Arr Int 32):As:=([115],([u],(st,(1,(a,(1,(3,(m,(cd,(wh,k))))))))))
theorem aCa (u:Us)(a:Arr Int 16)(st cd:Int)(m:List Int)(wh:List UInt8)(k:Arr Int 32)(hc:cd≠0)(hm:m.length≤10000):aaS 200000 (enU u a st cd m wh k)=some [(cd,(1,m))]:=by
  unfold aaS
  refine (bneg hc).trans ?_
  exact (bnd (aEu m hm)).trans rfl
theorem aJA (u:Us)(a peer:Arr Int 16)(r:Arr Int 24)(hu1:u.1.length≤300)(hu2:u.2.length≤300)(ha:AllB a.l)(hp:AllB peer.l)(hr:AllB r.l):
    ∃ (e:Int) (W:Arr Int 24),AllB W.l∧abG 200000 peer a u.1 u.2=some (W,e)∧∃ (m:List UInt8),m.length≤2000∧
      ((e=0∧r=W∧∃ k:Arr Int 32,AllB k.l∧aaO 200000 (stU u a) (layK 2 1 (valB peer.l r.l) u.1)=some (enU u a 2 3 (ofB m) u.1 k,[(3,(1,ofB m))]))∨
       (¬ (e=0∧r=W)∧aaO 200000 (stU u a) (layK 2 1 (valB peer.l r.l) u.1)=some (enU u a 3 4 (ofB m) [] z32,[(4,(1,ofB m))]))):=by
  obtain ⟨D,e,W,d1,d2,d3,d4⟩:=ay9 u a peer r hu1 hu2 ha hp hr
  refine ⟨e,W,d2,d3, ?_⟩
  have hpar:=parN (valB peer.l r.l) u.1 (aD9 peer r) (aIT peer r hp hr) hu1
  have hval:=aJd peer r hp hr
  rcases d4 with ⟨e0,rW,⟨C,c1,c2⟩,hpf⟩ | ⟨hno,Z,hpf⟩
  · obtain ⟨k,k1,k2⟩:=aCS D r d1 hr
    obtain ⟨t,t1,t2⟩:=aAB D r C d1 hr c1
    obtain ⟨m,m1,m2⟩:=aEL t (by omega)
    refine ⟨m,m2,.inl ⟨e0,rW,k,k1, ?_⟩⟩
    unfold aaO
    refine (bnd hpar).trans ?_
    refine (bvn rfl).trans ?_
    refine (bnd hval).trans ?_
    refine (bvn rfl).trans ?_
    refine (bnd hpf).trans ?_
    refine (bvn rfl).trans ?_
    refine (bnd (k2 true)).trans ?_
    refine (bnd c2).trans ?_
    refine (bnd t2).trans ?_
    refine (bnd m1).trans ?_
    refine (bnd (aCa u a 2 3 (ofB m) u.1 k (by omega) (by rw [abC];omega))).trans ?_
    rfl
  · obtain ⟨m,m1,m2⟩:=aCU a ha
    refine ⟨m,m2,.inr ⟨hno, ?_⟩⟩
    unfold aaO
    refine (bnd hpar).trans ?_
    refine (bvn rfl).trans ?_
    refine (bnd hval).trans ?_
    refine (bvn rfl).trans ?_
    refine (bnd hpf).trans ?_
    refine (bvp rfl).trans ?_
    refine (bnd m1).trans ?_
    refine (bnd (aCa u a 3 4 (ofB m) [] z32 (by omega) (by rw [abC];omega))).trans ?_
    rfl
theorem aI1 (u:Us)(a:Arr Int 16)(v:List Int)(n:List UInt8)(y:As×List (Int×(Int×List Int)))(h:aaO 200000 (stU u a) (layK 2 1 v n)=some y):aaA 200000 (stU u a) (layK 2 1 v n)=some y:=by
  unfold aaA
  refine (bnd (v:=false) rfl).trans ?_
  refine (bvn rfl).trans ?_
  refine (bpos rfl).trans ?_
  exact (bnd h).trans rfl
theorem aKY (u:Us)(a:Arr Int 16)(cd:Int)(m:List Int)(wh:List UInt8)(k:Arr Int 32)(hc:cd≠0)(hm:m.length≤10000)(v:List Int)(n:List UInt8):aaA 200000 (enU u a 2 cd m wh k) (layK 2 1 v n)=some (enU u a 2 cd m wh k,[(cd,(1,m))]):=by
  unfold aaA
  refine (bnd (v:=false) rfl).trans ?_
  refine (bvn rfl).trans ?_
  refine (bneg (by show ¬ (2:Int)=1;omega)).trans ?_
  refine (bpos rfl).trans ?_
  refine (bpos rfl).trans ?_
  exact (bnd (aCa u a 2 cd m wh k hc hm)).trans rfl
theorem aKX (u:Us)(a:Arr Int 16)(cd:Int)(m:List Int)(wh:List UInt8)(k:Arr Int 32)(hc:cd≠0)(hm:m.length≤10000)(v:List Int)(n:List UInt8):aaA 200000 (enU u a 3 cd m wh k) (layK 2 1 v n)=some (enU u a 3 cd m wh k,[(cd,(1,m))]):=by
  unfold aaA
  refine (bnd (v:=false) rfl).trans ?_
  refine (bvn rfl).trans ?_
  refine (bneg (by show ¬ (3:Int)=1;omega)).trans ?_
  refine (bneg (by show ¬ (3:Int)=2;omega)).trans ?_
  refine (bpos rfl).trans ?_
  exact (bnd (aCa u a 3 cd m wh k hc hm)).trans rfl
theorem aI4 (u:Us)(a:Arr Int 16):∃ d,(ajd 200000 [115] [u]).bind (fun x=>abD 200000 x a)=some (stU u a,[(1,(1,d))]):=by
  refine ⟨(layK 1 1 a.l [115]).2.2, ?_⟩
  unfold ajd
  have hn:(bif List.isEmpty [u] then (none:Option As) else bif aac (([]:List Us).length+[u].length) 32 then some ([115],([]++[u],(0,(0,(⟨List.replicate 16 0,rfl⟩,(0,(0,([],(0,([],z32)))))))))) else none)=some ([115],([u],(0,(0,(⟨List.replicate 16 0,rfl⟩,(0,(0,([],(0,([],z32)))))))))):=(bvn rfl).trans ((rpos (by show 1≤100000;omega) (by omega)).trans rfl)
  refine (bnd (v:=(([115],([u],(0,(0,(⟨List.replicate 16 0,rfl⟩,(0,(0,([],(0,([],z32)))))))))):As)) hn).trans ?_
  unfold abD
  refine (bvn rfl).trans ?_
  have hask:acY 200000 ([115],([u],(1,(1,(a,(0,(0,([],(0,([],z32))))))))))=some (stU u a,[(1,(1,(layK 1 1 a.l [115]).2.2))]):=by
    unfold acY
    refine (bnd (azu 1 1 a.l [115] (by show 1≤1000;omega))).trans ?_
    rfl
  exact (bnd hask).trans rfl
theorem aLm {α:Type}(l:Arr α 2):∃ a b,l.l=[a,b]:=by
 obtain ⟨l,h⟩:=l
 match l,h with
 | [a,b],_=>exact ⟨a,b,rfl⟩
theorem anm (u:Us)(w:List UInt8)(ch:Arr (Arr Int 16) 2)(w1:wfT (.pair .str .str) u)(w2:wfT .str w)(w3:wfT (.arr 2 (.arr 16 (.int .u8))) ch):ac9 200000 u w ch=some true:=by
 obtain ⟨a,peer,hl⟩:=aLm ch
 have ha:AllB a.l:=wf16 (w3 a (by rw [hl];simp))
 have hp:AllB peer.l:=wf16 (w3 peer (by rw [hl];simp))
 have g0:getI ch.l (0:Int)=some a:=by rw [hl];rfl
 have g1:getI ch.l (1:Int)=some peer:=by rw [hl];rfl
 have hal:=aF7
 unfold ac9
 generalize abd 200000=al at hal ⊢
 subst hal
 rcases aJL [u] with hf | ⟨hf,_,hu⟩
 ·exact (bnd hf).trans ((bvp rfl).trans (bnd rfl))
 refine (bnd hf).trans ((bvn rfl).trans ?_)
 obtain ⟨hu1,hu2⟩:=hu u (List.mem_singleton.2 rfl)
 by_cases l2:(300:Int)<(w.length:Int)
 ·rw [decide_eq_true l2]
  exact (bnd (v:=true) rfl).trans ((bvp rfl).trans (bnd rfl))
 rw [decide_eq_false l2]
 refine (bnd (v:=false) rfl).trans ((bvn rfl).trans ?_)
 refine (bnd (aB7 [u] (by show 1≤1000;omega))).trans ?_
 obtain ⟨d,hst⟩:=aI4 u a
 obtain ⟨x,hx,hs⟩:=Option.bind_eq_some_iff.1 hst
 refine (bnd hx).trans ?_
 refine (bnd g0).trans ?_
 refine (bnd hs).trans ?_
 refine (bnd g1).trans ?_
 refine (bnd g0).trans ?_
 obtain ⟨P,e,q1,_,q3⟩:=aCo peer a u.1 w hp ha (by omega) (by omega)
 refine (bnd q3).trans ?_
 refine (bnd g1).trans ?_
 refine (bnd g0).trans ?_
 obtain ⟨f,W,j1,j2,m,m1,hj⟩:=aJA u a peer P (by omega) (by omega) ha hp q1
 refine (bnd j2).trans ?_
 refine (bnd g1).trans ?_
 refine (bnd (ayS peer P)).trans ?_
 refine (bnd (azu 2 1 (valB peer.l P.l) u.1 (by omega))).trans ?_
 have hPw:wfB (.arr 24 (.int .u8)) P=true:=wfB_b P q1
 have hWw:wfB (.arr 24 (.int .u8)) W=true:=wfB_b W j1
 have hb:AllB (ofB m):=azk m
 have hcs:=fun c:Int=>aFP ((c,(1,ofB m)):Ct) hb
 have hlm:(ofB m).length≤10000:=by rw [abC];omega
 have same:w=u.2→(P,e)=(W,f):=fun h=>by subst h;exact Option.some.inj (q3.symm.trans j2)
 rcases hj with ⟨e0,rW,k,k1,hj⟩ | ⟨hno,hj⟩
 ·refine (bnd (aI1 u a _ u.1 _ hj)).trans ?_
  subst rW
  have hv:(bif (decide (f=0)) then (bif (wfB (.arr 24 (.int .u8)) P&&wfB (.arr 24 (.int .u8)) P) then some (cond true (@Decidable.decide (P=P) (decT (.arr 24 (.int .u8)) P P)) false) else none) else some false)=some true:=by
   rw [decide_eq_true e0,hPw]
   show some (cond true (@Decidable.decide (P=P) _) false)=some true
   rw [decide_eq_true rfl]
   rfl
  refine (bnd hv).trans ?_
  refine (bvn rfl).trans ?_
  refine (bnd (v:=false) rfl).trans ((bvn rfl).trans ?_)
  refine (bnd (v:=false) rfl).trans ((bvn rfl).trans ?_)
  refine (bnd (v:=false) rfl).trans ?_
  refine (bnd (v:=false) rfl).trans ((bvn rfl).trans ?_)
  refine (bnd (azu 2 1 [] [] (by show 0≤1000;omega))).trans ?_
  refine (bnd (aKY u a 3 (ofB m) u.1 k (by omega) hlm [] [])).trans ?_
  have tail:∀ X:Option Bool,X=some true→X=some true:=fun _ h=>h
  by_cases he:e=0
  ·refine (bvn (by rw [decide_eq_true he];rfl)).trans ?_
   by_cases hw:w=u.2
   ·refine (bvn (by rw [decide_eq_true hw];rfl)).trans ?_
    refine (bvp rfl).trans ?_
    refine (bcp rfl).trans ((bcp rfl).trans ((bnd rfl).trans ((bnd rfl).trans ((bnd (hcs 3)).trans ((bvp rfl).trans ((bvp rfl).trans (bnd rfl)))))))
   ·refine (bvp (by rw [decide_eq_false hw];rfl)).trans ?_
    refine (bcp rfl).trans ((bcp rfl).trans ((bnd rfl).trans ((bnd rfl).trans ((bnd (hcs 3)).trans ((bvp rfl).trans ((bvp rfl).trans (bnd rfl)))))))
  ·refine (bvp (by rw [decide_eq_false he];rfl)).trans ?_
   refine (bcp rfl).trans ((bcp rfl).trans ((bnd rfl).trans ((bnd rfl).trans ((bnd (hcs 3)).trans ((bvp rfl).trans ((bvp rfl).trans (bnd rfl)))))))
 ·refine (bnd (aI1 u a _ u.1 _ hj)).trans ?_
  have hv:(bif (decide (f=0)) then (bif (wfB (.arr 24 (.int .u8)) P&&wfB (.arr 24 (.int .u8)) W) then some (cond true (@Decidable.decide (P=W) (decT (.arr 24 (.int .u8)) P W)) false) else none) else some false)=some false:=by
   by_cases f0:f=0
   ·rw [decide_eq_true f0,hPw,hWw]
    show some (cond true (@Decidable.decide (P=W) _) false)=some false
    rw [decide_eq_false (fun h=>hno ⟨f0,h⟩)]
    rfl
   ·rw [decide_eq_false f0];rfl
  refine (bnd hv).trans ?_
  refine (bvn rfl).trans ?_
  refine (bnd (v:=false) rfl).trans ((bvn rfl).trans ?_)
  refine (bnd (v:=false) rfl).trans ((bvn rfl).trans ?_)
  refine (bnd (v:=false) rfl).trans ?_
  refine (bnd (v:=false) rfl).trans ((bvn rfl).trans ?_)
  refine (bnd (azu 2 1 [] [] (by show 0≤1000;omega))).trans ?_
  refine (bnd (aKX u a 4 (ofB m) [] z32 (by omega) hlm [] [])).trans ?_
  have hz:wfB (.arr 32 (.int .u8)) z32=true:=by kernel_rfl
  have hzz:(bif (wfB (.arr 32 (.int .u8)) z32&&wfB (.arr 32 (.int .u8)) z32) then (bif (cond true (cond false true (@Decidable.decide (z32=z32) (decT (.arr 32 (.int .u8)) z32 z32))) false) then (Option.bind (some true) fun v:Bool=>some (cond true v false)) else some false) else none)=some true:=by
   rw [hz]
   show (bif (cond true (cond false true (@Decidable.decide (z32=z32) _)) false) then _ else _)=some true
   rw [decide_eq_true rfl]
   rfl
  by_cases he:e=0
  ·refine (bvn (by rw [decide_eq_true he];rfl)).trans ?_
   by_cases hw:w=u.2
   ·have h1:=same hw
    exact absurd ⟨(congrArg Prod.snd h1).symm.trans he,congrArg Prod.fst h1⟩ hno
   ·refine (bvp (by rw [decide_eq_false hw];rfl)).trans ?_
    refine (bcp rfl).trans ((bcp rfl).trans ((bnd rfl).trans ((bnd rfl).trans ((bnd (hcs 4)).trans ((bvp rfl).trans ((bvn rfl).trans hzz))))))
  ·refine (bvp (by rw [decide_eq_false he];rfl)).trans ?_
   refine (bcp rfl).trans ((bcp rfl).trans ((bnd rfl).trans ((bnd rfl).trans ((bnd (hcs 4)).trans ((bvp rfl).trans ((bvn rfl).trans hzz))))))
end Go.Proofs.YtkcdnjgieabjoaaGreatDoor
