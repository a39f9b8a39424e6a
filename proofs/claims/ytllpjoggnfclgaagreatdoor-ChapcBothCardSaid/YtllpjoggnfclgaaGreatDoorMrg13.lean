/-
  Parts of my own, one behind the other: Qb9.
-/
import Derived.Test.YtllpjoggnfclgaaGreatDoorMrg11
import Derived.Test.YtllpjoggnfclgaaGreatDoorMrg12
open Option renaming some→gt, bind_eq_some_iff→ne
namespace Go.Proofs.YtllpjoggnfclgaaGreatDoor
set_option maxRecDepth 100000
open Go.RowKit
set_option linter.unusedVariables false
set_option linter.unusedSimpArgs false
set_option maxRecDepth 100000
theorem keyA (s w:List UInt8)(p:Arr Int 16)(id:Int)(t:List UInt8)(k:Arr Int 32)(cd:Int):bf 200000 (yS s w p 2 id t k cd)=some k:=by
 unfold bf
 exact (bvn rfl).trans rfl
theorem keyN (s w:List UInt8)(p:Arr Int 16)(id:Int)(t:List UInt8)(k:Arr Int 32)(cd:Int):bf 200000 (yS s w p 3 id t k cd)=some z32:=by
 unfold bf
 exact (bvp rfl).trans rfl
theorem dT {p:Prop}{i:Decidable p}(h:p):@decide p i=true:=decide_eq_true h
theorem dF {p:Prop}{i:Decidable p}(h:¬ p):@decide p i=false:=decide_eq_false h
theorem au_B:AllB au.l:=AllB.cons (by omega) (ada 15 0 (by omega))
theorem pe_B:AllB pe.l:=AllB.cons (by omega) (ada 15 0 (by omega))
theorem fn1 {α β:Type}{o:Option (α×β)}{a b:α}{x y:β}(h1:o=some (a,x))(h2:o=some (b,y)):a=b∧x=y:=by
 have:=gt.inj (h1.symm.trans h2)
 simpa using this
theorem amD:ca 200000=some true:=by
 obtain ⟨⟨h0,he⟩,hh,key⟩:=ne.1 asb
 obtain ⟨C,hC,key⟩:=ne.1 key
 obtain ⟨r,hr,key⟩:=ne.1 key
 obtain ⟨k,hk,key⟩:=Option.map_eq_some_iff.1 key
 simp only [Bool.and_eq_true,decide_eq_true_eq] at key
 obtain ⟨h2,kne⟩:=key
 subst h2
 obtain ⟨D0,D1,e,f,W0,W1,j0,j1,j2,j3,j4,j5,jj⟩:=agr [117] [112] [112] au pe (by decide) (by decide) (by decide) au_B pe_B ⟨[[112],[112]],rfl⟩ ⟨[au,pe],rfl⟩ rfl rfl rfl rfl
 obtain ⟨rfl,rfl⟩:=fn1 j0 hh
 obtain ⟨rfl,rfl⟩:=fn1 j1 hh
 obtain ⟨rfl,_⟩:=fn1 j4 j5
 rcases jj with ⟨hf,_⟩ | ⟨_,C',E1,k1,k1B,q2,q3,q4,q5,jj⟩
 ·exact absurd rfl hf
 obtain rfl:=gt.inj (q2.symm.trans hC)
 obtain rfl:=gt.inj (q3.symm.trans hr)
 obtain rfl:=gt.inj (q5.symm.trans hk)
 rcases jj with ⟨_,_,k',E,kB,g3,g5,hb⟩ | ⟨hno,_⟩
 ·obtain rfl:=gt.inj (g3.symm.trans q5)
  have hE:=gt.inj (g5.symm.trans q4)
  rw [hE,if_pos rfl] at hb
  have hw:=wfB_b k' k1B
  have hz:wfB (.arr 32 (.int .u8)) z32=true:=by kernel_rfl
  have hne:¬ k'=z32:=fun e=>kne (by rw [e];rfl)
  have hl:(sS++hexS E1.l).length=42:=by rw [List.length_append,iI,E1.h];rfl
  unfold ca
  refine (bnd hb).trans ?_
  refine (bpos rfl).trans ?_
  refine (bcp rfl).trans ?_
  refine (bcp rfl).trans ?_
  refine (bnd (keyA _ _ _ _ _ _ _)).trans ?_
  refine (bvp (show (wfB (.arr 32 (.int .u8)) k'&&wfB (.arr 32 (.int .u8)) k')=true by rw [hw];rfl)).trans ?_
  refine (bcp rfl).trans ?_
  refine (bnd (keyA _ _ _ _ _ _ _)).trans ?_
  refine (bvp (show (wfB (.arr 32 (.int .u8)) k'&&wfB (.arr 32 (.int .u8)) z32)=true by rw [hw,hz];rfl)).trans ?_
  refine (bvp ?_).trans ?_
  ·show cond true (!(@Decidable.decide (k'=z32) _)) false=true
   rw [decide_eq_false hne]
   rfl
  ·show some (cond true (decide ((((sS++hexS E1.l).length:Nat):Int)=42)) false)=some true
   rw [decide_eq_true (by omega)]
   rfl
 ·exact absurd ⟨rfl,rfl⟩ hno
theorem xZ (s:List UInt8)(pw:Arr (List UInt8) 2)(ch:Arr (Arr Int 16) 2)(w1:wfT .str s)(w2:wfT (.arr 2 .str) pw)(w3:wfT (.arr 2 (.arr 16 (.int .u8))) ch):fS 200000 s pw ch=some true:=by
 obtain ⟨x0,x1,hl⟩:=arr2 pw
 obtain ⟨a,peer,hc⟩:=arr2 ch
 have ha:AllB a.l:=wf16 (w3 a (by rw [hc];simp))
 have hp:AllB peer.l:=wf16 (w3 peer (by rw [hc];simp))
 have p0:getI pw.l (0:Int)=some x0:=by rw [hl];rfl
 have p1:getI pw.l (1:Int)=some x1:=by rw [hl];rfl
 have c0:getI ch.l (0:Int)=some a:=by rw [hc];rfl
 have c1:getI ch.l (1:Int)=some peer:=by rw [hc];rfl
 have hal:=amD
 unfold fS
 generalize ca 200000=al at hal ⊢
 subst hal
 by_cases l1:(200:Int)<(s.length:Int)
 ·exact (bpos l1).trans (bnd rfl)
 refine (bneg l1).trans ?_
 refine (bnd p0).trans ?_
 by_cases l2:(300:Int)<(x0.length:Int)
 ·rw [decide_eq_true l2]
  exact (bnd (v:=true) rfl).trans ((bvp rfl).trans (bnd rfl))
 rw [decide_eq_false l2]
 refine (bnd (v:=false) rfl).trans ((bvn rfl).trans ?_)
 refine (bnd p1).trans ?_
 by_cases l3:(300:Int)<(x1.length:Int)
 ·rw [decide_eq_true l3]
  exact (bnd (v:=true) rfl).trans ((bvp rfl).trans (bnd rfl))
 rw [decide_eq_false l3]
 refine (bnd (v:=false) rfl).trans ((bvn rfl).trans ?_)
 obtain ⟨D0,D1,e,f,W0,W1,j0,j1,j2,j3,j4,j5,jj⟩:=agr s x0 x1 a peer (by omega) (by omega) (by omega) ha hp pw ch p0 p1 c0 c1
 refine (bnd c1).trans ?_
 refine (bnd c0).trans ?_
 refine (bnd p0).trans ?_
 refine (bnd j4).trans ?_
 refine (bnd c1).trans ?_
 refine (bnd c0).trans ?_
 refine (bnd p1).trans ?_
 refine (bnd j5).trans ?_
 have hW0:=wfB_b W0 j2
 have hW1:=wfB_b W1 j3
 have hz:wfB (.arr 32 (.int .u8)) z32=true:=by kernel_rfl
 rcases jj with ⟨hf,hb⟩ | ⟨rfl,C,E1,k1,k1B,q2,q3,q4,q5,jj⟩
 ·refine (bnd hb).trans ?_
  refine (bvp (by rw [decide_eq_false hf];rfl)).trans ?_
  refine (bpos rfl).trans ?_
  refine (bnd (v:=true) rfl).trans ((bvp rfl).trans ?_)
  refine (bnd (v:=true) rfl).trans ((bvp rfl).trans ?_)
  exact bnd rfl
 ·have hq:∀ b:Bool,b=decide (e=0∧x0=x1)→(bif (decide (e=(0:Int))) then Option.bind (getI pw.l (0:Int)) fun (v17:List UInt8)=>Option.bind (getI pw.l (1:Int)) fun (v18:List UInt8)=>some (cond true (decide (v17=v18)) false) else some false)=some b:=fun b hb=>by
   rw [hb]
   by_cases he:e=0
   ·refine (bpos he).trans ((bnd p0).trans ((bnd p1).trans ?_))
    by_cases hx:x0=x1
    ·rw [decide_eq_true hx,decide_eq_true ⟨he,hx⟩];rfl
    ·rw [decide_eq_false hx,decide_eq_false (fun h=>hx h.2)];rfl
   ·exact (bneg he).trans (by rw [decide_eq_false (fun h=>he h.1)])
  have hv:∀ b:Bool,b=decide (e=0∧W0=W1)→(bif (decide (e=(0:Int))) then (bif (wfB (.arr 24 (.int .u8)) W0&&wfB (.arr 24 (.int .u8)) W1) then some (cond true (@Decidable.decide (W0=W1) (decT (.arr 24 (.int .u8)) W0 W1)) false) else none) else some false)=some b:=fun b hb=>by
   rw [hb]
   by_cases he:e=0
   ·refine (bpos he).trans ((bvp (by rw [hW0,hW1];rfl)).trans ?_)
    by_cases hx:W0=W1
    ·rw [dT hx,dT (p:=e=0∧W0=W1) ⟨he,hx⟩];rfl
    ·rw [dF hx,dF (p:=e=0∧W0=W1) (fun h=>hx h.2)];rfl
   ·exact (bneg he).trans (by rw [decide_eq_false (fun h=>he h.1)])
  rcases jj with ⟨he,hW,k,E,kB,g3,g5,hb⟩ | ⟨hno,hb⟩
  ·refine (bnd hb).trans ?_
   refine (bvn rfl).trans ?_
   by_cases hx:x0=x1
   ·subst hx
    obtain ⟨rfl,_⟩:=fn1 j0 j1
    obtain rfl:=gt.inj (g3.symm.trans q5)
    have hE:=gt.inj (g5.symm.trans q4)
    have hk:=wfB_b k k1B
    rw [hE,if_pos rfl]
    refine (bnd (hq true (decide_eq_true ⟨he,rfl⟩).symm)).trans ((bvp rfl).trans ?_)
    refine (bpos rfl).trans ?_
    refine (bcp rfl).trans ?_
    refine (bnd (keyA _ _ _ _ _ _ _)).trans ?_
    refine (bvp (show (wfB (.arr 32 (.int .u8)) k&&wfB (.arr 32 (.int .u8)) k)=true by rw [hk];rfl)).trans ?_
    refine (bcp rfl).trans ?_
    refine (bcp rfl).trans ?_
    exact bnd rfl
   ·refine (bnd (hq false (decide_eq_false (fun h=>hx h.2)).symm)).trans ((bvn rfl).trans ?_)
    refine (bnd (hv true (decide_eq_true ⟨he,hW.symm⟩).symm)).trans ((bvp rfl).trans ?_)
    refine (bpos rfl).trans ?_
    exact bnd rfl
  ·refine (bnd hb).trans ?_
   refine (bvn rfl).trans ?_
   have hx:¬ (e=0∧x0=x1):=fun h=>by
    obtain ⟨he,rfl⟩:=h
    obtain ⟨rfl,_⟩:=fn1 j4 j5
    exact hno ⟨he,rfl⟩
   refine (bnd (hq false (decide_eq_false hx).symm)).trans ((bvn rfl).trans ?_)
   refine (bnd (hv false (decide_eq_false (fun h=>hno ⟨h.1,h.2.symm⟩)).symm)).trans ((bvn rfl).trans ?_)
   refine (bpos rfl).trans ?_
   refine (bnd (v:=true) rfl).trans ((bvp rfl).trans ?_)
   refine (bnd (v:=true) rfl).trans ((bvp rfl).trans ?_)
   refine (bnd (v:=true) ((bvp (show (wfB (.arr 32 (.int .u8)) z32&&wfB (.arr 32 (.int .u8)) z32)=true by rw [hz];rfl)).trans (show some (cond true (@Decidable.decide (z32=z32) _) false)=some true by rw [decide_eq_true rfl];rfl))).trans ((bvp rfl).trans ?_)
   refine (bnd (keyN _ _ _ _ _ _ _)).trans ?_
   refine (bnd (v:=true) ((bvp (show (wfB (.arr 32 (.int .u8)) z32&&wfB (.arr 32 (.int .u8)) z32)=true by rw [hz];rfl)).trans (show some (cond true (@Decidable.decide (z32=z32) _) false)=some true by rw [decide_eq_true rfl];rfl))).trans ((bvp rfl).trans ?_)
   exact bnd rfl
end Go.Proofs.YtllpjoggnfclgaaGreatDoor
