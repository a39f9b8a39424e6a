/-
  Parts of my own, one behind the other: Qg2, Qg3, Qg4, GCq, Qg5.
-/
import Derived.Test.YtmndainldhmnjaaMrg4
open Go.IntKind renaming wrap→eq
open Option renaming bind→ge
open List renaming length→gt, length_take→ne, set→uK
open Int renaming toNat→uH, tmod→uI
open Sum renaming elim→uJ
open LT renaming lt→uL
namespace Go.Proofs.Ytmndainldhmnjaa
set_option maxRecDepth 100000
open Go.RowKit
set_option linter.unusedVariables false
set_option linter.unusedSimpArgs false
set_option maxRecDepth 100000
theorem gW:aS 2 104=true:=mU (by have:=pZ;omega) (by omega)
def tk0 (K:Kx)(k:Nat):Kx:={ K with t0:=eq .i64 (K.t0+((K.b0.take (min k K.b0.length)).length:Int)),b0:=K.b0.drop (min k K.b0.length) }
def pt0 (K:Kx)(d:List Int):Kx:={ K with p0:=eq .i64 (K.p0+(d.length:Int)),b0:=K.b0++d }
theorem okT0 {K:Kx}(h:okK K)(k:Nat):okK (tk0 K k):=by
 obtain ⟨h0,h1⟩:=h
 refine ⟨?_, ?_⟩
 ·show (K.b0.drop _).length≤65536
  rw [List.length_drop];omega
 ·show (K.b1).length≤65536
  exact h1
theorem okP0 {K:Kx}(h:okK K)(d:List Int)(hd:K.b0.length+d.length≤65536):okK (pt0 K d):=by
 obtain ⟨h0,h1⟩:=h
 refine ⟨?_, ?_⟩
 ·show (K.b0++d).length≤65536
  rw [List.length_append];omega
 ·show (K.b1).length≤65536
  exact h1
theorem len0 (h:Arr Int 32)(K:Kx):av 200000 0 true h K.p0 K.t0 K.l0 K.p1 K.t1 K.l1 K.s K.b0 K.b1=some (((K.b0.length:Int),()),kd h K):=by
 unfold av
 refine (bnd (v:=true) rfl).trans ((bvn rfl).trans ((bnd (v:=true) rfl).trans ((bnd (v:=false) rfl).trans ((bvn rfl).trans ?_))))
 exact (bpos rfl).trans rfl
theorem ptk0 (h:Arr Int 32)(K:Kx)(hk:okK K)(k:Nat):ah 200000 0 (k:Int) true h K.p0 K.t0 K.l0 K.p1 K.t1 K.l1 K.s K.b0 K.b1=some ((K.b0.take (min k K.b0.length),(0,())),kd h (tk0 K k)):=by
 obtain ⟨k0,k1⟩:=hk
 have hnn:(cond false true (decide ((k:Int)<0)))=false:=by rw [decide_eq_false (by omega)];rfl
 have e1:cN K.b0 (minI (k:Int) (K.b0.length:Int))=some (K.b0.take (min k K.b0.length)):=by rw [mini];exact cB K.b0 rfl (by omega)
 have e2:dh K.b0 (minI (k:Int) (K.b0.length:Int))=some (K.b0.drop (min k K.b0.length)):=by rw [mini];exact cT K.b0 rfl (by omega)
 unfold ah
 refine (bnd (v:=true) rfl).trans ((bvn rfl).trans ((bnd (v:=true) rfl).trans ((bnd (v:=false) ((bvn rfl).trans (by rw [hnn]))).trans ((bvn rfl).trans ?_))))
 exact (bpos rfl).trans ((bnd e1).trans ((rpos (by rw [ne];omega) (by omega)).trans ((bnd e2).trans ((bpos rfl).trans ((bpos rfl).trans rfl)))))
theorem rtk0 (K:Kx)(hk:okK K)(k:Nat):aM 200000 (rc K) 0 (k:Int)=some (rc (tk0 K k),(K.b0.take (min k K.b0.length),0)):=by
 obtain ⟨p0,t0,l0,p1,t1,l1,s,b0,b1⟩:=K
 obtain ⟨k0,k1⟩:=hk
 simp only at k0 k1
 have hnn:(cond false true (decide ((k:Int)<0)))=false:=by rw [decide_eq_false (by omega)];rfl
 unfold aM
 refine (bnd way0).trans ((bnd (v:=false) ((bvn rfl).trans (by rw [hnn]))).trans ((bvn rfl).trans ((bnd (cut0 p0 t0 l0 p1 t1 l1 s b0 b1 k k0)).trans ?_)))
 exact (bpos in0).trans ((bnd (v:=((b0.drop (min k b0.length),(p0,(t0,l0))):Wy)) rfl).trans ((bpos in0).trans ((bnd (v:=((b0.drop (min k b0.length),(p0,(t0,l0))):Wy)) rfl).trans rfl)))
theorem rpt0 (K:Kx)(hk:okK K)(hs:K.s=false)(d:List Int)(hd:K.b0.length+d.length≤65536):aP 200000 (rc K) 0 d=some (rc (pt0 K d),0):=by
 obtain ⟨p0,t0,l0,p1,t1,l1,s,b0,b1⟩:=K
 obtain ⟨k0,k1⟩:=hk
 simp only at k0 k1 hs hd
 subst hs
 have w2:eq .i64 ((b0.length:Int)+(d.length:Int))=(b0.length:Int)+(d.length:Int):=aQ (by omega) (by omega)
 unfold aP
 refine (bnd way0).trans ((bvn rfl).trans ((bvn rfl).trans ((bpos in0).trans ((bnd (v:=((b0,(p0,(t0,l0))):Wy)) rfl).trans ((bneg (by show ¬ (65536:Int)<eq .i64 ((b0.length:Int)+(d.length:Int));rw [w2];omega)).trans ?_)))))
 refine (bpos in0).trans ((bnd (v:=((b0,(p0,(t0,l0))):Wy)) rfl).trans ((rpos (by show b0.length≤100000;omega) (by omega)).trans ((rpos (by show b0.length+d.length≤100000;omega) (by omega)).trans ?_)))
 refine (bpos in0).trans ((bnd (v:=((b0,(p0,(t0,l0))):Wy)) rfl).trans ?_)
 refine (bpos in0).trans ((bnd (v:=((b0++d,(p0,(t0,l0))):Wy)) rfl).trans ?_)
 exact (bpos in0).trans ((bnd (v:=((b0++d,(p0,(t0,l0))):Wy)) rfl).trans rfl)
def tk1 (K:Kx)(k:Nat):Kx:={ K with t1:=eq .i64 (K.t1+((K.b1.take (min k K.b1.length)).length:Int)),b1:=K.b1.drop (min k K.b1.length) }
def pt1 (K:Kx)(d:List Int):Kx:={ K with p1:=eq .i64 (K.p1+(d.length:Int)),b1:=K.b1++d }
theorem okT1 {K:Kx}(h:okK K)(k:Nat):okK (tk1 K k):=by
 obtain ⟨h0,h1⟩:=h
 refine ⟨?_, ?_⟩
 ·show (K.b0).length≤65536
  exact h0
 ·show (K.b1.drop _).length≤65536
  rw [List.length_drop];omega
theorem okP1 {K:Kx}(h:okK K)(d:List Int)(hd:K.b1.length+d.length≤65536):okK (pt1 K d):=by
 obtain ⟨h0,h1⟩:=h
 refine ⟨?_, ?_⟩
 ·show (K.b0).length≤65536
  exact h0
 ·show (K.b1++d).length≤65536
  rw [List.length_append];omega
theorem len1 (h:Arr Int 32)(K:Kx):av 200000 1 true h K.p0 K.t0 K.l0 K.p1 K.t1 K.l1 K.s K.b0 K.b1=some (((K.b1.length:Int),()),kd h K):=by
 unfold av
 refine (bnd (v:=true) rfl).trans ((bvn rfl).trans ((bnd (v:=true) rfl).trans ((bnd (v:=false) rfl).trans ((bvn rfl).trans ?_))))
 exact (bneg (by omega)).trans ((bpos rfl).trans rfl)
theorem ptk1 (h:Arr Int 32)(K:Kx)(hk:okK K)(k:Nat):ah 200000 1 (k:Int) true h K.p0 K.t0 K.l0 K.p1 K.t1 K.l1 K.s K.b0 K.b1=some ((K.b1.take (min k K.b1.length),(0,())),kd h (tk1 K k)):=by
 obtain ⟨k0,k1⟩:=hk
 have hnn:(cond false true (decide ((k:Int)<0)))=false:=by rw [decide_eq_false (by omega)];rfl
 have e1:cN K.b1 (minI (k:Int) (K.b1.length:Int))=some (K.b1.take (min k K.b1.length)):=by rw [mini];exact cB K.b1 rfl (by omega)
 have e2:dh K.b1 (minI (k:Int) (K.b1.length:Int))=some (K.b1.drop (min k K.b1.length)):=by rw [mini];exact cT K.b1 rfl (by omega)
 unfold ah
 refine (bnd (v:=true) rfl).trans ((bvn rfl).trans ((bnd (v:=true) rfl).trans ((bnd (v:=false) ((bvn rfl).trans (by rw [hnn]))).trans ((bvn rfl).trans ?_))))
 exact (bneg (by omega)).trans ((bpos rfl).trans ((bnd e1).trans ((rpos (by rw [ne];omega) (by omega)).trans ((bnd e2).trans ((bneg (by omega)).trans ((bpos rfl).trans ((bneg (by omega)).trans ((bpos rfl).trans rfl))))))))
theorem rtk1 (K:Kx)(hk:okK K)(k:Nat):aM 200000 (rc K) 1 (k:Int)=some (rc (tk1 K k),(K.b1.take (min k K.b1.length),0)):=by
 obtain ⟨p0,t0,l0,p1,t1,l1,s,b0,b1⟩:=K
 obtain ⟨k0,k1⟩:=hk
 simp only at k0 k1
 have hnn:(cond false true (decide ((k:Int)<0)))=false:=by rw [decide_eq_false (by omega)];rfl
 unfold aM
 refine (bnd way1).trans ((bnd (v:=false) ((bvn rfl).trans (by rw [hnn]))).trans ((bvn rfl).trans ((bnd (cut1 p0 t0 l0 p1 t1 l1 s b0 b1 k k1)).trans ?_)))
 exact (bpos in1).trans ((bnd (v:=((b1.drop (min k b1.length),(p1,(t1,l1))):Wy)) rfl).trans ((bpos in1).trans ((bnd (v:=((b1.drop (min k b1.length),(p1,(t1,l1))):Wy)) rfl).trans rfl)))
theorem rpt1 (K:Kx)(hk:okK K)(hs:K.s=false)(d:List Int)(hd:K.b1.length+d.length≤65536):aP 200000 (rc K) 1 d=some (rc (pt1 K d),0):=by
 obtain ⟨p0,t0,l0,p1,t1,l1,s,b0,b1⟩:=K
 obtain ⟨k0,k1⟩:=hk
 simp only at k0 k1 hs hd
 subst hs
 have w2:eq .i64 ((b1.length:Int)+(d.length:Int))=(b1.length:Int)+(d.length:Int):=aQ (by omega) (by omega)
 unfold aP
 refine (bnd way1).trans ((bvn rfl).trans ((bvn rfl).trans ((bpos in1).trans ((bnd (v:=((b1,(p1,(t1,l1))):Wy)) rfl).trans ((bneg (by show ¬ (65536:Int)<eq .i64 ((b1.length:Int)+(d.length:Int));rw [w2];omega)).trans ?_)))))
 refine (bpos in1).trans ((bnd (v:=((b1,(p1,(t1,l1))):Wy)) rfl).trans ((rpos (by show b1.length≤100000;omega) (by omega)).trans ((rpos (by show b1.length+d.length≤100000;omega) (by omega)).trans ?_)))
 refine (bpos in1).trans ((bnd (v:=((b1,(p1,(t1,l1))):Wy)) rfl).trans ?_)
 refine (bpos in1).trans ((bnd (v:=((b1++d,(p1,(t1,l1))):Wy)) rfl).trans ?_)
 exact (bpos in1).trans ((bnd (v:=((b1++d,(p1,(t1,l1))):Wy)) rfl).trans rfl)
def kd2 (hx hy:Arr Int 32)(K J:Kx):=(true,(hx,(K.p0,(K.t0,(K.l0,(K.p1,(K.t1,(K.l1,(K.s,(true,(hy,(J.p0,(J.t0,(J.l0,(J.p1,(J.t1,(J.l1,(J.s,(K.b0,(K.b1,(J.b0,(J.b1,()))))))))))))))))))))))
theorem uA (hx hy:Arr Int 32)(K J:Kx)(w o n:Int)(h:(w=0∨w=1)→(o=0∨o=1)→n<0):ag 200000 w o n true hx K.p0 K.t0 K.l0 K.p1 K.t1 K.l1 K.s true hy J.p0 J.t0 J.l0 J.p1 J.t1 J.l1 J.s K.b0 K.b1 J.b0 J.b1=some ((0,(1,())),kd2 hx hy K J)∧ab 200000 0 w 1 o n [rc K,rc J]=some ((0,(1,())),([rc K,rc J],()))∧ab 200000 1 w 0 o n [rc J,rc K]=some ((0,(1,())),([rc J,rc K],())):=by
 by_cases hw:w=0∨w=1
 ·have mw:(bif (decide (w=(0:Int))) then some true else some (cond false true (decide (w=(1:Int)))))=some true:=by rcases hw with rfl | rfl <;> rfl
  have rw_:ba 200000 w=some true:=by rcases hw with rfl | rfl <;> rfl
  by_cases ho:o=0∨o=1
  ·have mo:(bif (decide (o=(0:Int))) then some true else some (cond false true (decide (o=(1:Int)))))=some true:=by rcases ho with rfl | rfl <;> rfl
   have ro:ba 200000 o=some true:=by rcases ho with rfl | rfl <;> rfl
   have hn:=h hw ho
   ·have c1:(bif false then some true else some (cond false true (decide (n<(0:Int)))))=some true:=(bvn rfl).trans (by rw [decide_eq_true hn];rfl)
    refine ⟨?_, ?_, ?_⟩
    ·unfold ag
     exact (bnd (v:=true) rfl).trans ((bvn rfl).trans ((bnd (v:=true) rfl).trans ((bnd (v:=false) rfl).trans ((bvn rfl).trans ((bnd mw).trans ((bvn rfl).trans ((bnd mo).trans ((bnd (v:=false) rfl).trans ((bnd c1).trans ((bnd (v:=true) (bvp rfl)).trans ((bvp rfl).trans rfl)))))))))))
    ·unfold ab
     exact (bnd rw_).trans ((bvn rfl).trans ((bnd ro).trans ((bnd (v:=false) rfl).trans ((bnd c1).trans ((bnd (v:=true) (bvp rfl)).trans ((bvp rfl).trans rfl))))))
    ·unfold ab
     exact (bnd rw_).trans ((bvn rfl).trans ((bnd ro).trans ((bnd (v:=false) rfl).trans ((bnd c1).trans ((bnd (v:=true) (bvp rfl)).trans ((bvp rfl).trans rfl))))))
  ·have no:=mayN (fun e=>ho (.inl e)) (fun e=>ho (.inr e))
   have ro:=wayN (fun e=>ho (.inl e)) (fun e=>ho (.inr e))
   refine ⟨?_, ?_, ?_⟩
   ·unfold ag
    exact (bnd (v:=true) rfl).trans ((bvn rfl).trans ((bnd (v:=true) rfl).trans ((bnd (v:=false) rfl).trans ((bvn rfl).trans ((bnd mw).trans ((bvn rfl).trans ((bnd no).trans ((bnd (v:=true) rfl).trans ((bnd (v:=true) (bvp rfl)).trans ((bnd (v:=true) (bvp rfl)).trans ((bvp rfl).trans rfl)))))))))))
   ·unfold ab
    exact (bnd rw_).trans ((bvn rfl).trans ((bnd ro).trans ((bnd (v:=true) rfl).trans ((bnd (v:=true) (bvp rfl)).trans ((bnd (v:=true) (bvp rfl)).trans ((bvp rfl).trans rfl))))))
   ·unfold ab
    exact (bnd rw_).trans ((bvn rfl).trans ((bnd ro).trans ((bnd (v:=true) rfl).trans ((bnd (v:=true) (bvp rfl)).trans ((bnd (v:=true) (bvp rfl)).trans ((bvp rfl).trans rfl))))))
 ·have no:=mayN (fun e=>hw (.inl e)) (fun e=>hw (.inr e))
  have ro:=wayN (fun e=>hw (.inl e)) (fun e=>hw (.inr e))
  refine ⟨?_, ?_, ?_⟩
  ·unfold ag
   exact (bnd (v:=true) rfl).trans ((bvn rfl).trans ((bnd (v:=true) rfl).trans ((bnd (v:=false) rfl).trans ((bvn rfl).trans ((bnd no).trans ((bvp rfl).trans rfl))))))
  ·unfold ab
   exact (bnd ro).trans ((bvp rfl).trans rfl)
  ·unfold ab
   exact (bnd ro).trans ((bvp rfl).trans rfl)
theorem lV (hx hy:Arr Int 32)(K J:Kx)(hk:okK K)(hj:okK J)(k:Nat)(hs:J.s=true):ag 200000 0 0 (k:Int) true hx K.p0 K.t0 K.l0 K.p1 K.t1 K.l1 K.s true hy J.p0 J.t0 J.l0 J.p1 J.t1 J.l1 J.s K.b0 K.b1 J.b0 J.b1=some ((0,(11,())),kd2 hx hy K J)∧ab 200000 0 0 1 0 (k:Int) [rc K,rc J]=some ((0,(11,())),([rc K,rc J],()))∧ab 200000 1 0 0 0 (k:Int) [rc J,rc K]=some ((0,(11,())),([rc J,rc K],())):=by
 obtain ⟨k0,k1⟩:=hk
 obtain ⟨j0,j1⟩:=hj
 have c1:(bif false then some true else some (cond false true (decide ((k:Int)<(0:Int)))))=some false:=(bvn rfl).trans (by rw [decide_eq_false (by omega)];rfl)
 have w1:eq .i64 ((65536:Int)-(J.b0.length:Int))=65536-(J.b0.length:Int):=aQ (by omega) (by omega)
 have w2:eq .i64 ((J.b0.length:Int)+minI (k:Int) (K.b0.length:Int))=(J.b0.length:Int)+((min k K.b0.length:Nat):Int):=by rw [mini,aQ (by omega) (by omega)]
 have lt:(K.b0.take (min k K.b0.length)).length=min k K.b0.length:=by rw [ne];omega
 refine ⟨?_, ?_, ?_⟩
 ·unfold ag
  exact (bnd (v:=true) rfl).trans ((bvn rfl).trans ((bnd (v:=true) rfl).trans ((bnd (v:=false) rfl).trans ((bvn rfl).trans ((bnd (v:=true) rfl).trans ((bvn rfl).trans ((bnd (v:=true) rfl).trans ((bnd (v:=false) rfl).trans ((bnd c1).trans ((bnd (v:=false) rfl).trans ((bvn rfl).trans ((bnd (len0 hx K)).trans ((bvp hs).trans rfl)))))))))))))
 ·unfold ab
  exact (bnd way0).trans ((bvn rfl).trans ((bnd way0).trans ((bnd (v:=false) rfl).trans ((bnd c1).trans ((bnd (v:=false) ((bvn rfl).trans ((bneg (by omega)).trans rfl))).trans ((bvn rfl).trans ((bpos (by show (0:Int)≤1∧(1:Int)<((2:Nat):Int);omega)).trans ((bnd (v:=rc J) rfl).trans ((bvp hs).trans rfl)))))))))
 ·unfold ab
  exact (bnd way0).trans ((bvn rfl).trans ((bnd way0).trans ((bnd (v:=false) rfl).trans ((bnd c1).trans ((bnd (v:=false) ((bvn rfl).trans ((bneg (by omega)).trans rfl))).trans ((bvn rfl).trans ((bpos (by show (0:Int)≤0∧(0:Int)<((2:Nat):Int);omega)).trans ((bnd (v:=rc J) rfl).trans ((bvp hs).trans rfl)))))))))
theorem lW (hx hy:Arr Int 32)(K J:Kx)(hk:okK K)(hj:okK J)(k:Nat)(hs:J.s=false)(hf:65536<J.b0.length+min k K.b0.length):ag 200000 0 0 (k:Int) true hx K.p0 K.t0 K.l0 K.p1 K.t1 K.l1 K.s true hy J.p0 J.t0 J.l0 J.p1 J.t1 J.l1 J.s K.b0 K.b1 J.b0 J.b1=some ((0,(12,())),kd2 hx hy K J)∧ab 200000 0 0 1 0 (k:Int) [rc K,rc J]=some ((0,(12,())),([rc K,rc J],()))∧ab 200000 1 0 0 0 (k:Int) [rc J,rc K]=some ((0,(12,())),([rc J,rc K],())):=by
 obtain ⟨k0,k1⟩:=hk
 obtain ⟨j0,j1⟩:=hj
 have c1:(bif false then some true else some (cond false true (decide ((k:Int)<(0:Int)))))=some false:=(bvn rfl).trans (by rw [decide_eq_false (by omega)];rfl)
 have w1:eq .i64 ((65536:Int)-(J.b0.length:Int))=65536-(J.b0.length:Int):=aQ (by omega) (by omega)
 have w2:eq .i64 ((J.b0.length:Int)+minI (k:Int) (K.b0.length:Int))=(J.b0.length:Int)+((min k K.b0.length:Nat):Int):=by rw [mini,aQ (by omega) (by omega)]
 have lt:(K.b0.take (min k K.b0.length)).length=min k K.b0.length:=by rw [ne];omega
 refine ⟨?_, ?_, ?_⟩
 ·unfold ag
  exact (bnd (v:=true) rfl).trans ((bvn rfl).trans ((bnd (v:=true) rfl).trans ((bnd (v:=false) rfl).trans ((bvn rfl).trans ((bnd (v:=true) rfl).trans ((bvn rfl).trans ((bnd (v:=true) rfl).trans ((bnd (v:=false) rfl).trans ((bnd c1).trans ((bnd (v:=false) rfl).trans ((bvn rfl).trans ((bnd (len0 hx K)).trans ((bvn hs).trans ((bpos rfl).trans ((bpos (by show eq .i64 ((65536:Int)-(J.b0.length:Int))<minI (k:Int) (K.b0.length:Int);rw [w1,mini];omega)).trans rfl)))))))))))))))
 ·unfold ab
  exact (bnd way0).trans ((bvn rfl).trans ((bnd way0).trans ((bnd (v:=false) rfl).trans ((bnd c1).trans ((bnd (v:=false) ((bvn rfl).trans ((bneg (by omega)).trans rfl))).trans ((bvn rfl).trans ((bpos (by show (0:Int)≤1∧(1:Int)<((2:Nat):Int);omega)).trans ((bnd (v:=rc J) rfl).trans ((bvn hs).trans ((bpos (by show (0:Int)≤0∧(0:Int)<((2:Nat):Int);omega)).trans ((bpos rfl).trans ((bnd (v:=rc K) rfl).trans ((bpos (by show (0:Int)≤1∧(1:Int)<((2:Nat):Int);omega)).trans ((bpos rfl).trans ((bnd (v:=rc J) rfl).trans ((bpos (by show (65536:Int)<eq .i64 ((J.b0.length:Int)+minI (k:Int) (K.b0.length:Int));rw [w2];omega)).trans rfl))))))))))))))))
 ·unfold ab
  exact (bnd way0).trans ((bvn rfl).trans ((bnd way0).trans ((bnd (v:=false) rfl).trans ((bnd c1).trans ((bnd (v:=false) ((bvn rfl).trans ((bneg (by omega)).trans rfl))).trans ((bvn rfl).trans ((bpos (by show (0:Int)≤0∧(0:Int)<((2:Nat):Int);omega)).trans ((bnd (v:=rc J) rfl).trans ((bvn hs).trans ((bpos (by show (0:Int)≤1∧(1:Int)<((2:Nat):Int);omega)).trans ((bpos rfl).trans ((bnd (v:=rc K) rfl).trans ((bpos (by show (0:Int)≤0∧(0:Int)<((2:Nat):Int);omega)).trans ((bpos rfl).trans ((bnd (v:=rc J) rfl).trans ((bpos (by show (65536:Int)<eq .i64 ((J.b0.length:Int)+minI (k:Int) (K.b0.length:Int));rw [w2];omega)).trans rfl))))))))))))))))
theorem oT (hx hy:Arr Int 32)(K J:Kx)(hk:okK K)(hj:okK J)(k:Nat)(hs:J.s=false)(hf:J.b0.length+min k K.b0.length≤65536):ag 200000 0 0 (k:Int) true hx K.p0 K.t0 K.l0 K.p1 K.t1 K.l1 K.s true hy J.p0 J.t0 J.l0 J.p1 J.t1 J.l1 J.s K.b0 K.b1 J.b0 J.b1=some ((((K.b0.take (min k K.b0.length)).length:Int),(0,())),kd2 hx hy (tk0 K k) (pt0 J (K.b0.take (min k K.b0.length))))∧ab 200000 0 0 1 0 (k:Int) [rc K,rc J]=some ((((K.b0.take (min k K.b0.length)).length:Int),(0,())),([rc (tk0 K k),rc (pt0 J (K.b0.take (min k K.b0.length)))],()))∧ab 200000 1 0 0 0 (k:Int) [rc J,rc K]=some ((((K.b0.take (min k K.b0.length)).length:Int),(0,())),([rc (pt0 J (K.b0.take (min k K.b0.length))),rc (tk0 K k)],())):=by
 obtain ⟨k0,k1⟩:=hk
 obtain ⟨j0,j1⟩:=hj
 have c1:(bif false then some true else some (cond false true (decide ((k:Int)<(0:Int)))))=some false:=(bvn rfl).trans (by rw [decide_eq_false (by omega)];rfl)
 have w1:eq .i64 ((65536:Int)-(J.b0.length:Int))=65536-(J.b0.length:Int):=aQ (by omega) (by omega)
 have w2:eq .i64 ((J.b0.length:Int)+minI (k:Int) (K.b0.length:Int))=(J.b0.length:Int)+((min k K.b0.length:Nat):Int):=by rw [mini,aQ (by omega) (by omega)]
 have lt:(K.b0.take (min k K.b0.length)).length=min k K.b0.length:=by rw [ne];omega
 refine ⟨?_, ?_, ?_⟩
 ·unfold ag
  exact (bnd (v:=true) rfl).trans ((bvn rfl).trans ((bnd (v:=true) rfl).trans ((bnd (v:=false) rfl).trans ((bvn rfl).trans ((bnd (v:=true) rfl).trans ((bvn rfl).trans ((bnd (v:=true) rfl).trans ((bnd (v:=false) rfl).trans ((bnd c1).trans ((bnd (v:=false) rfl).trans ((bvn rfl).trans ((bnd (len0 hx K)).trans ((bvn hs).trans ((bpos rfl).trans ((bneg (by show ¬ eq .i64 ((65536:Int)-(J.b0.length:Int))<minI (k:Int) (K.b0.length:Int);rw [w1,mini];omega)).trans ((bnd (ptk0 hx K ⟨k0,k1⟩ k)).trans ((bpos rfl).trans ((rpos (by show J.b0.length+(K.b0.take (min k K.b0.length)).length≤100000;rw [lt];omega) (by omega)).trans rfl))))))))))))))))))
 ·unfold ab
  refine (bnd way0).trans ((bvn rfl).trans ((bnd way0).trans ((bnd (v:=false) rfl).trans ((bnd c1).trans ((bnd (v:=false) ((bvn rfl).trans ((bneg (by omega)).trans rfl))).trans ((bvn rfl).trans ((bpos (by show (0:Int)≤1∧(1:Int)<((2:Nat):Int);omega)).trans ((bnd (v:=rc J) rfl).trans ((bvn hs).trans ((bpos (by show (0:Int)≤0∧(0:Int)<((2:Nat):Int);omega)).trans ((bpos rfl).trans ((bnd (v:=rc K) rfl).trans ((bpos (by show (0:Int)≤1∧(1:Int)<((2:Nat):Int);omega)).trans ((bpos rfl).trans ((bnd (v:=rc J) rfl).trans ((bneg (by show ¬ (65536:Int)<eq .i64 ((J.b0.length:Int)+minI (k:Int) (K.b0.length:Int));rw [w2];omega)).trans ?_))))))))))))))))
  refine (bvp (gW:aS 2 104=true)).trans ?_
  refine (bpos (by show (0:Int)≤0∧(0:Int)<((2:Nat):Int);omega)).trans ((bnd (v:=rc K) rfl).trans ((bnd (rtk0 K ⟨k0,k1⟩ k)).trans ((bpos (by show (0:Int)≤0∧(0:Int)<((2:Nat):Int);omega)).trans ((bnd (v:=rc K) rfl).trans ?_))))
  refine (bpos (by show (0:Int)≤1∧(1:Int)<((2:Nat):Int);omega)).trans ((bnd (v:=rc J) rfl).trans ((bnd (rpt0 J ⟨j0,j1⟩ hs _ (by rw [lt];exact hf))).trans ((bpos (by show (0:Int)≤1∧(1:Int)<((2:Nat):Int);omega)).trans ((bnd (v:=rc J) rfl).trans ?_))))
  rfl
 ·unfold ab
  refine (bnd way0).trans ((bvn rfl).trans ((bnd way0).trans ((bnd (v:=false) rfl).trans ((bnd c1).trans ((bnd (v:=false) ((bvn rfl).trans ((bneg (by omega)).trans rfl))).trans ((bvn rfl).trans ((bpos (by show (0:Int)≤0∧(0:Int)<((2:Nat):Int);omega)).trans ((bnd (v:=rc J) rfl).trans ((bvn hs).trans ((bpos (by show (0:Int)≤1∧(1:Int)<((2:Nat):Int);omega)).trans ((bpos rfl).trans ((bnd (v:=rc K) rfl).trans ((bpos (by show (0:Int)≤0∧(0:Int)<((2:Nat):Int);omega)).trans ((bpos rfl).trans ((bnd (v:=rc J) rfl).trans ((bneg (by show ¬ (65536:Int)<eq .i64 ((J.b0.length:Int)+minI (k:Int) (K.b0.length:Int));rw [w2];omega)).trans ?_))))))))))))))))
  refine (bvp (gW:aS 2 104=true)).trans ?_
  refine (bpos (by show (0:Int)≤1∧(1:Int)<((2:Nat):Int);omega)).trans ((bnd (v:=rc K) rfl).trans ((bnd (rtk0 K ⟨k0,k1⟩ k)).trans ((bpos (by show (0:Int)≤1∧(1:Int)<((2:Nat):Int);omega)).trans ((bnd (v:=rc K) rfl).trans ?_))))
  refine (bpos (by show (0:Int)≤0∧(0:Int)<((2:Nat):Int);omega)).trans ((bnd (v:=rc J) rfl).trans ((bnd (rpt0 J ⟨j0,j1⟩ hs _ (by rw [lt];exact hf))).trans ((bpos (by show (0:Int)≤0∧(0:Int)<((2:Nat):Int);omega)).trans ((bnd (v:=rc J) rfl).trans ?_))))
  rfl
theorem lT (hx hy:Arr Int 32)(K J:Kx)(hk:okK K)(hj:okK J)(k:Nat)(hs:J.s=true):ag 200000 0 1 (k:Int) true hx K.p0 K.t0 K.l0 K.p1 K.t1 K.l1 K.s true hy J.p0 J.t0 J.l0 J.p1 J.t1 J.l1 J.s K.b0 K.b1 J.b0 J.b1=some ((0,(11,())),kd2 hx hy K J)∧ab 200000 0 0 1 1 (k:Int) [rc K,rc J]=some ((0,(11,())),([rc K,rc J],()))∧ab 200000 1 0 0 1 (k:Int) [rc J,rc K]=some ((0,(11,())),([rc J,rc K],())):=by
 obtain ⟨k0,k1⟩:=hk
 obtain ⟨j0,j1⟩:=hj
 have c1:(bif false then some true else some (cond false true (decide ((k:Int)<(0:Int)))))=some false:=(bvn rfl).trans (by rw [decide_eq_false (by omega)];rfl)
 have w1:eq .i64 ((65536:Int)-(J.b1.length:Int))=65536-(J.b1.length:Int):=aQ (by omega) (by omega)
 have w2:eq .i64 ((J.b1.length:Int)+minI (k:Int) (K.b0.length:Int))=(J.b1.length:Int)+((min k K.b0.length:Nat):Int):=by rw [mini,aQ (by omega) (by omega)]
 have lt:(K.b0.take (min k K.b0.length)).length=min k K.b0.length:=by rw [ne];omega
 refine ⟨?_, ?_, ?_⟩
 ·unfold ag
  exact (bnd (v:=true) rfl).trans ((bvn rfl).trans ((bnd (v:=true) rfl).trans ((bnd (v:=false) rfl).trans ((bvn rfl).trans ((bnd (v:=true) rfl).trans ((bvn rfl).trans ((bnd (v:=true) rfl).trans ((bnd (v:=false) rfl).trans ((bnd c1).trans ((bnd (v:=false) rfl).trans ((bvn rfl).trans ((bnd (len0 hx K)).trans ((bvp hs).trans rfl)))))))))))))
 ·unfold ab
  exact (bnd way0).trans ((bvn rfl).trans ((bnd way1).trans ((bnd (v:=false) rfl).trans ((bnd c1).trans ((bnd (v:=false) ((bvn rfl).trans ((bneg (by omega)).trans rfl))).trans ((bvn rfl).trans ((bpos (by show (0:Int)≤1∧(1:Int)<((2:Nat):Int);omega)).trans ((bnd (v:=rc J) rfl).trans ((bvp hs).trans rfl)))))))))
 ·unfold ab
  exact (bnd way0).trans ((bvn rfl).trans ((bnd way1).trans ((bnd (v:=false) rfl).trans ((bnd c1).trans ((bnd (v:=false) ((bvn rfl).trans ((bneg (by omega)).trans rfl))).trans ((bvn rfl).trans ((bpos (by show (0:Int)≤0∧(0:Int)<((2:Nat):Int);omega)).trans ((bnd (v:=rc J) rfl).trans ((bvp hs).trans rfl)))))))))
theorem lU (hx hy:Arr Int 32)(K J:Kx)(hk:okK K)(hj:okK J)(k:Nat)(hs:J.s=false)(hf:65536<J.b1.length+min k K.b0.length):ag 200000 0 1 (k:Int) true hx K.p0 K.t0 K.l0 K.p1 K.t1 K.l1 K.s true hy J.p0 J.t0 J.l0 J.p1 J.t1 J.l1 J.s K.b0 K.b1 J.b0 J.b1=some ((0,(12,())),kd2 hx hy K J)∧ab 200000 0 0 1 1 (k:Int) [rc K,rc J]=some ((0,(12,())),([rc K,rc J],()))∧ab 200000 1 0 0 1 (k:Int) [rc J,rc K]=some ((0,(12,())),([rc J,rc K],())):=by
 obtain ⟨k0,k1⟩:=hk
 obtain ⟨j0,j1⟩:=hj
 have c1:(bif false then some true else some (cond false true (decide ((k:Int)<(0:Int)))))=some false:=(bvn rfl).trans (by rw [decide_eq_false (by omega)];rfl)
 have w1:eq .i64 ((65536:Int)-(J.b1.length:Int))=65536-(J.b1.length:Int):=aQ (by omega) (by omega)
 have w2:eq .i64 ((J.b1.length:Int)+minI (k:Int) (K.b0.length:Int))=(J.b1.length:Int)+((min k K.b0.length:Nat):Int):=by rw [mini,aQ (by omega) (by omega)]
 have lt:(K.b0.take (min k K.b0.length)).length=min k K.b0.length:=by rw [ne];omega
 refine ⟨?_, ?_, ?_⟩
 ·unfold ag
  exact (bnd (v:=true) rfl).trans ((bvn rfl).trans ((bnd (v:=true) rfl).trans ((bnd (v:=false) rfl).trans ((bvn rfl).trans ((bnd (v:=true) rfl).trans ((bvn rfl).trans ((bnd (v:=true) rfl).trans ((bnd (v:=false) rfl).trans ((bnd c1).trans ((bnd (v:=false) rfl).trans ((bvn rfl).trans ((bnd (len0 hx K)).trans ((bvn hs).trans ((bneg (by omega)).trans ((bpos rfl).trans ((bpos (by show eq .i64 ((65536:Int)-(J.b1.length:Int))<minI (k:Int) (K.b0.length:Int);rw [w1,mini];omega)).trans rfl))))))))))))))))
 ·unfold ab
  exact (bnd way0).trans ((bvn rfl).trans ((bnd way1).trans ((bnd (v:=false) rfl).trans ((bnd c1).trans ((bnd (v:=false) ((bvn rfl).trans ((bneg (by omega)).trans rfl))).trans ((bvn rfl).trans ((bpos (by show (0:Int)≤1∧(1:Int)<((2:Nat):Int);omega)).trans ((bnd (v:=rc J) rfl).trans ((bvn hs).trans ((bpos (by show (0:Int)≤0∧(0:Int)<((2:Nat):Int);omega)).trans ((bpos rfl).trans ((bnd (v:=rc K) rfl).trans ((bpos (by show (0:Int)≤1∧(1:Int)<((2:Nat):Int);omega)).trans ((bneg (by omega)).trans ((bpos rfl).trans ((bnd (v:=rc J) rfl).trans ((bpos (by show (65536:Int)<eq .i64 ((J.b1.length:Int)+minI (k:Int) (K.b0.length:Int));rw [w2];omega)).trans rfl)))))))))))))))))
 ·unfold ab
  exact (bnd way0).trans ((bvn rfl).trans ((bnd way1).trans ((bnd (v:=false) rfl).trans ((bnd c1).trans ((bnd (v:=false) ((bvn rfl).trans ((bneg (by omega)).trans rfl))).trans ((bvn rfl).trans ((bpos (by show (0:Int)≤0∧(0:Int)<((2:Nat):Int);omega)).trans ((bnd (v:=rc J) rfl).trans ((bvn hs).trans ((bpos (by show (0:Int)≤1∧(1:Int)<((2:Nat):Int);omega)).trans ((bpos rfl).trans ((bnd (v:=rc K) rfl).trans ((bpos (by show (0:Int)≤0∧(0:Int)<((2:Nat):Int);omega)).trans ((bneg (by omega)).trans ((bpos rfl).trans ((bnd (v:=rc J) rfl).trans ((bpos (by show (65536:Int)<eq .i64 ((J.b1.length:Int)+minI (k:Int) (K.b0.length:Int));rw [w2];omega)).trans rfl)))))))))))))))))
theorem oS (hx hy:Arr Int 32)(K J:Kx)(hk:okK K)(hj:okK J)(k:Nat)(hs:J.s=false)(hf:J.b1.length+min k K.b0.length≤65536):ag 200000 0 1 (k:Int) true hx K.p0 K.t0 K.l0 K.p1 K.t1 K.l1 K.s true hy J.p0 J.t0 J.l0 J.p1 J.t1 J.l1 J.s K.b0 K.b1 J.b0 J.b1=some ((((K.b0.take (min k K.b0.length)).length:Int),(0,())),kd2 hx hy (tk0 K k) (pt1 J (K.b0.take (min k K.b0.length))))∧ab 200000 0 0 1 1 (k:Int) [rc K,rc J]=some ((((K.b0.take (min k K.b0.length)).length:Int),(0,())),([rc (tk0 K k),rc (pt1 J (K.b0.take (min k K.b0.length)))],()))∧ab 200000 1 0 0 1 (k:Int) [rc J,rc K]=some ((((K.b0.take (min k K.b0.length)).length:Int),(0,())),([rc (pt1 J (K.b0.take (min k K.b0.length))),rc (tk0 K k)],())):=by
 obtain ⟨k0,k1⟩:=hk
 obtain ⟨j0,j1⟩:=hj
 have c1:(bif false then some true else some (cond false true (decide ((k:Int)<(0:Int)))))=some false:=(bvn rfl).trans (by rw [decide_eq_false (by omega)];rfl)
 have w1:eq .i64 ((65536:Int)-(J.b1.length:Int))=65536-(J.b1.length:Int):=aQ (by omega) (by omega)
 have w2:eq .i64 ((J.b1.length:Int)+minI (k:Int) (K.b0.length:Int))=(J.b1.length:Int)+((min k K.b0.length:Nat):Int):=by rw [mini,aQ (by omega) (by omega)]
 have lt:(K.b0.take (min k K.b0.length)).length=min k K.b0.length:=by rw [ne];omega
 refine ⟨?_, ?_, ?_⟩
 ·unfold ag
  exact (bnd (v:=true) rfl).trans ((bvn rfl).trans ((bnd (v:=true) rfl).trans ((bnd (v:=false) rfl).trans ((bvn rfl).trans ((bnd (v:=true) rfl).trans ((bvn rfl).trans ((bnd (v:=true) rfl).trans ((bnd (v:=false) rfl).trans ((bnd c1).trans ((bnd (v:=false) rfl).trans ((bvn rfl).trans ((bnd (len0 hx K)).trans ((bvn hs).trans ((bneg (by omega)).trans ((bpos rfl).trans ((bneg (by show ¬ eq .i64 ((65536:Int)-(J.b1.length:Int))<minI (k:Int) (K.b0.length:Int);rw [w1,mini];omega)).trans ((bnd (ptk0 hx K ⟨k0,k1⟩ k)).trans ((bneg (by omega)).trans ((bpos rfl).trans ((rpos (by show J.b1.length+(K.b0.take (min k K.b0.length)).length≤100000;rw [lt];omega) (by omega)).trans rfl))))))))))))))))))))
 ·unfold ab
  refine (bnd way0).trans ((bvn rfl).trans ((bnd way1).trans ((bnd (v:=false) rfl).trans ((bnd c1).trans ((bnd (v:=false) ((bvn rfl).trans ((bneg (by omega)).trans rfl))).trans ((bvn rfl).trans ((bpos (by show (0:Int)≤1∧(1:Int)<((2:Nat):Int);omega)).trans ((bnd (v:=rc J) rfl).trans ((bvn hs).trans ((bpos (by show (0:Int)≤0∧(0:Int)<((2:Nat):Int);omega)).trans ((bpos rfl).trans ((bnd (v:=rc K) rfl).trans ((bpos (by show (0:Int)≤1∧(1:Int)<((2:Nat):Int);omega)).trans ((bneg (by omega)).trans ((bpos rfl).trans ((bnd (v:=rc J) rfl).trans ((bneg (by show ¬ (65536:Int)<eq .i64 ((J.b1.length:Int)+minI (k:Int) (K.b0.length:Int));rw [w2];omega)).trans ?_)))))))))))))))))
  refine (bvp (gW:aS 2 104=true)).trans ?_
  refine (bpos (by show (0:Int)≤0∧(0:Int)<((2:Nat):Int);omega)).trans ((bnd (v:=rc K) rfl).trans ((bnd (rtk0 K ⟨k0,k1⟩ k)).trans ((bpos (by show (0:Int)≤0∧(0:Int)<((2:Nat):Int);omega)).trans ((bnd (v:=rc K) rfl).trans ?_))))
  refine (bpos (by show (0:Int)≤1∧(1:Int)<((2:Nat):Int);omega)).trans ((bnd (v:=rc J) rfl).trans ((bnd (rpt1 J ⟨j0,j1⟩ hs _ (by rw [lt];exact hf))).trans ((bpos (by show (0:Int)≤1∧(1:Int)<((2:Nat):Int);omega)).trans ((bnd (v:=rc J) rfl).trans ?_))))
  rfl
 ·unfold ab
  refine (bnd way0).trans ((bvn rfl).trans ((bnd way1).trans ((bnd (v:=false) rfl).trans ((bnd c1).trans ((bnd (v:=false) ((bvn rfl).trans ((bneg (by omega)).trans rfl))).trans ((bvn rfl).trans ((bpos (by show (0:Int)≤0∧(0:Int)<((2:Nat):Int);omega)).trans ((bnd (v:=rc J) rfl).trans ((bvn hs).trans ((bpos (by show (0:Int)≤1∧(1:Int)<((2:Nat):Int);omega)).trans ((bpos rfl).trans ((bnd (v:=rc K) rfl).trans ((bpos (by show (0:Int)≤0∧(0:Int)<((2:Nat):Int);omega)).trans ((bneg (by omega)).trans ((bpos rfl).trans ((bnd (v:=rc J) rfl).trans ((bneg (by show ¬ (65536:Int)<eq .i64 ((J.b1.length:Int)+minI (k:Int) (K.b0.length:Int));rw [w2];omega)).trans ?_)))))))))))))))))
  refine (bvp (gW:aS 2 104=true)).trans ?_
  refine (bpos (by show (0:Int)≤1∧(1:Int)<((2:Nat):Int);omega)).trans ((bnd (v:=rc K) rfl).trans ((bnd (rtk0 K ⟨k0,k1⟩ k)).trans ((bpos (by show (0:Int)≤1∧(1:Int)<((2:Nat):Int);omega)).trans ((bnd (v:=rc K) rfl).trans ?_))))
  refine (bpos (by show (0:Int)≤0∧(0:Int)<((2:Nat):Int);omega)).trans ((bnd (v:=rc J) rfl).trans ((bnd (rpt1 J ⟨j0,j1⟩ hs _ (by rw [lt];exact hf))).trans ((bpos (by show (0:Int)≤0∧(0:Int)<((2:Nat):Int);omega)).trans ((bnd (v:=rc J) rfl).trans ?_))))
  rfl
theorem lR (hx hy:Arr Int 32)(K J:Kx)(hk:okK K)(hj:okK J)(k:Nat)(hs:J.s=true):ag 200000 1 0 (k:Int) true hx K.p0 K.t0 K.l0 K.p1 K.t1 K.l1 K.s true hy J.p0 J.t0 J.l0 J.p1 J.t1 J.l1 J.s K.b0 K.b1 J.b0 J.b1=some ((0,(11,())),kd2 hx hy K J)∧ab 200000 0 1 1 0 (k:Int) [rc K,rc J]=some ((0,(11,())),([rc K,rc J],()))∧ab 200000 1 1 0 0 (k:Int) [rc J,rc K]=some ((0,(11,())),([rc J,rc K],())):=by
 obtain ⟨k0,k1⟩:=hk
 obtain ⟨j0,j1⟩:=hj
 have c1:(bif false then some true else some (cond false true (decide ((k:Int)<(0:Int)))))=some false:=(bvn rfl).trans (by rw [decide_eq_false (by omega)];rfl)
 have w1:eq .i64 ((65536:Int)-(J.b0.length:Int))=65536-(J.b0.length:Int):=aQ (by omega) (by omega)
 have w2:eq .i64 ((J.b0.length:Int)+minI (k:Int) (K.b1.length:Int))=(J.b0.length:Int)+((min k K.b1.length:Nat):Int):=by rw [mini,aQ (by omega) (by omega)]
 have lt:(K.b1.take (min k K.b1.length)).length=min k K.b1.length:=by rw [ne];omega
 refine ⟨?_, ?_, ?_⟩
 ·unfold ag
  exact (bnd (v:=true) rfl).trans ((bvn rfl).trans ((bnd (v:=true) rfl).trans ((bnd (v:=false) rfl).trans ((bvn rfl).trans ((bnd (v:=true) rfl).trans ((bvn rfl).trans ((bnd (v:=true) rfl).trans ((bnd (v:=false) rfl).trans ((bnd c1).trans ((bnd (v:=false) rfl).trans ((bvn rfl).trans ((bnd (len1 hx K)).trans ((bvp hs).trans rfl)))))))))))))
 ·unfold ab
  exact (bnd way1).trans ((bvn rfl).trans ((bnd way0).trans ((bnd (v:=false) rfl).trans ((bnd c1).trans ((bnd (v:=false) ((bvn rfl).trans ((bneg (by omega)).trans rfl))).trans ((bvn rfl).trans ((bpos (by show (0:Int)≤1∧(1:Int)<((2:Nat):Int);omega)).trans ((bnd (v:=rc J) rfl).trans ((bvp hs).trans rfl)))))))))
 ·unfold ab
  exact (bnd way1).trans ((bvn rfl).trans ((bnd way0).trans ((bnd (v:=false) rfl).trans ((bnd c1).trans ((bnd (v:=false) ((bvn rfl).trans ((bneg (by omega)).trans rfl))).trans ((bvn rfl).trans ((bpos (by show (0:Int)≤0∧(0:Int)<((2:Nat):Int);omega)).trans ((bnd (v:=rc J) rfl).trans ((bvp hs).trans rfl)))))))))
theorem lS (hx hy:Arr Int 32)(K J:Kx)(hk:okK K)(hj:okK J)(k:Nat)(hs:J.s=false)(hf:65536<J.b0.length+min k K.b1.length):ag 200000 1 0 (k:Int) true hx K.p0 K.t0 K.l0 K.p1 K.t1 K.l1 K.s true hy J.p0 J.t0 J.l0 J.p1 J.t1 J.l1 J.s K.b0 K.b1 J.b0 J.b1=some ((0,(12,())),kd2 hx hy K J)∧ab 200000 0 1 1 0 (k:Int) [rc K,rc J]=some ((0,(12,())),([rc K,rc J],()))∧ab 200000 1 1 0 0 (k:Int) [rc J,rc K]=some ((0,(12,())),([rc J,rc K],())):=by
 obtain ⟨k0,k1⟩:=hk
 obtain ⟨j0,j1⟩:=hj
 have c1:(bif false then some true else some (cond false true (decide ((k:Int)<(0:Int)))))=some false:=(bvn rfl).trans (by rw [decide_eq_false (by omega)];rfl)
 have w1:eq .i64 ((65536:Int)-(J.b0.length:Int))=65536-(J.b0.length:Int):=aQ (by omega) (by omega)
 have w2:eq .i64 ((J.b0.length:Int)+minI (k:Int) (K.b1.length:Int))=(J.b0.length:Int)+((min k K.b1.length:Nat):Int):=by rw [mini,aQ (by omega) (by omega)]
 have lt:(K.b1.take (min k K.b1.length)).length=min k K.b1.length:=by rw [ne];omega
 refine ⟨?_, ?_, ?_⟩
 ·unfold ag
  exact (bnd (v:=true) rfl).trans ((bvn rfl).trans ((bnd (v:=true) rfl).trans ((bnd (v:=false) rfl).trans ((bvn rfl).trans ((bnd (v:=true) rfl).trans ((bvn rfl).trans ((bnd (v:=true) rfl).trans ((bnd (v:=false) rfl).trans ((bnd c1).trans ((bnd (v:=false) rfl).trans ((bvn rfl).trans ((bnd (len1 hx K)).trans ((bvn hs).trans ((bpos rfl).trans ((bpos (by show eq .i64 ((65536:Int)-(J.b0.length:Int))<minI (k:Int) (K.b1.length:Int);rw [w1,mini];omega)).trans rfl)))))))))))))))
 ·unfold ab
  exact (bnd way1).trans ((bvn rfl).trans ((bnd way0).trans ((bnd (v:=false) rfl).trans ((bnd c1).trans ((bnd (v:=false) ((bvn rfl).trans ((bneg (by omega)).trans rfl))).trans ((bvn rfl).trans ((bpos (by show (0:Int)≤1∧(1:Int)<((2:Nat):Int);omega)).trans ((bnd (v:=rc J) rfl).trans ((bvn hs).trans ((bpos (by show (0:Int)≤0∧(0:Int)<((2:Nat):Int);omega)).trans ((bneg (by omega)).trans ((bpos rfl).trans ((bnd (v:=rc K) rfl).trans ((bpos (by show (0:Int)≤1∧(1:Int)<((2:Nat):Int);omega)).trans ((bpos rfl).trans ((bnd (v:=rc J) rfl).trans ((bpos (by show (65536:Int)<eq .i64 ((J.b0.length:Int)+minI (k:Int) (K.b1.length:Int));rw [w2];omega)).trans rfl)))))))))))))))))
 ·unfold ab
  exact (bnd way1).trans ((bvn rfl).trans ((bnd way0).trans ((bnd (v:=false) rfl).trans ((bnd c1).trans ((bnd (v:=false) ((bvn rfl).trans ((bneg (by omega)).trans rfl))).trans ((bvn rfl).trans ((bpos (by show (0:Int)≤0∧(0:Int)<((2:Nat):Int);omega)).trans ((bnd (v:=rc J) rfl).trans ((bvn hs).trans ((bpos (by show (0:Int)≤1∧(1:Int)<((2:Nat):Int);omega)).trans ((bneg (by omega)).trans ((bpos rfl).trans ((bnd (v:=rc K) rfl).trans ((bpos (by show (0:Int)≤0∧(0:Int)<((2:Nat):Int);omega)).trans ((bpos rfl).trans ((bnd (v:=rc J) rfl).trans ((bpos (by show (65536:Int)<eq .i64 ((J.b0.length:Int)+minI (k:Int) (K.b1.length:Int));rw [w2];omega)).trans rfl)))))))))))))))))
theorem oR (hx hy:Arr Int 32)(K J:Kx)(hk:okK K)(hj:okK J)(k:Nat)(hs:J.s=false)(hf:J.b0.length+min k K.b1.length≤65536):ag 200000 1 0 (k:Int) true hx K.p0 K.t0 K.l0 K.p1 K.t1 K.l1 K.s true hy J.p0 J.t0 J.l0 J.p1 J.t1 J.l1 J.s K.b0 K.b1 J.b0 J.b1=some ((((K.b1.take (min k K.b1.length)).length:Int),(0,())),kd2 hx hy (tk1 K k) (pt0 J (K.b1.take (min k K.b1.length))))∧ab 200000 0 1 1 0 (k:Int) [rc K,rc J]=some ((((K.b1.take (min k K.b1.length)).length:Int),(0,())),([rc (tk1 K k),rc (pt0 J (K.b1.take (min k K.b1.length)))],()))∧ab 200000 1 1 0 0 (k:Int) [rc J,rc K]=some ((((K.b1.take (min k K.b1.length)).length:Int),(0,())),([rc (pt0 J (K.b1.take (min k K.b1.length))),rc (tk1 K k)],())):=by
 obtain ⟨k0,k1⟩:=hk
 obtain ⟨j0,j1⟩:=hj
 have c1:(bif false then some true else some (cond false true (decide ((k:Int)<(0:Int)))))=some false:=(bvn rfl).trans (by rw [decide_eq_false (by omega)];rfl)
 have w1:eq .i64 ((65536:Int)-(J.b0.length:Int))=65536-(J.b0.length:Int):=aQ (by omega) (by omega)
 have w2:eq .i64 ((J.b0.length:Int)+minI (k:Int) (K.b1.length:Int))=(J.b0.length:Int)+((min k K.b1.length:Nat):Int):=by rw [mini,aQ (by omega) (by omega)]
 have lt:(K.b1.take (min k K.b1.length)).length=min k K.b1.length:=by rw [ne];omega
 refine ⟨?_, ?_, ?_⟩
 ·unfold ag
  exact (bnd (v:=true) rfl).trans ((bvn rfl).trans ((bnd (v:=true) rfl).trans ((bnd (v:=false) rfl).trans ((bvn rfl).trans ((bnd (v:=true) rfl).trans ((bvn rfl).trans ((bnd (v:=true) rfl).trans ((bnd (v:=false) rfl).trans ((bnd c1).trans ((bnd (v:=false) rfl).trans ((bvn rfl).trans ((bnd (len1 hx K)).trans ((bvn hs).trans ((bpos rfl).trans ((bneg (by show ¬ eq .i64 ((65536:Int)-(J.b0.length:Int))<minI (k:Int) (K.b1.length:Int);rw [w1,mini];omega)).trans ((bnd (ptk1 hx K ⟨k0,k1⟩ k)).trans ((bpos rfl).trans ((rpos (by show J.b0.length+(K.b1.take (min k K.b1.length)).length≤100000;rw [lt];omega) (by omega)).trans rfl))))))))))))))))))
 ·unfold ab
  refine (bnd way1).trans ((bvn rfl).trans ((bnd way0).trans ((bnd (v:=false) rfl).trans ((bnd c1).trans ((bnd (v:=false) ((bvn rfl).trans ((bneg (by omega)).trans rfl))).trans ((bvn rfl).trans ((bpos (by show (0:Int)≤1∧(1:Int)<((2:Nat):Int);omega)).trans ((bnd (v:=rc J) rfl).trans ((bvn hs).trans ((bpos (by show (0:Int)≤0∧(0:Int)<((2:Nat):Int);omega)).trans ((bneg (by omega)).trans ((bpos rfl).trans ((bnd (v:=rc K) rfl).trans ((bpos (by show (0:Int)≤1∧(1:Int)<((2:Nat):Int);omega)).trans ((bpos rfl).trans ((bnd (v:=rc J) rfl).trans ((bneg (by show ¬ (65536:Int)<eq .i64 ((J.b0.length:Int)+minI (k:Int) (K.b1.length:Int));rw [w2];omega)).trans ?_)))))))))))))))))
  refine (bvp (gW:aS 2 104=true)).trans ?_
  refine (bpos (by show (0:Int)≤0∧(0:Int)<((2:Nat):Int);omega)).trans ((bnd (v:=rc K) rfl).trans ((bnd (rtk1 K ⟨k0,k1⟩ k)).trans ((bpos (by show (0:Int)≤0∧(0:Int)<((2:Nat):Int);omega)).trans ((bnd (v:=rc K) rfl).trans ?_))))
  refine (bpos (by show (0:Int)≤1∧(1:Int)<((2:Nat):Int);omega)).trans ((bnd (v:=rc J) rfl).trans ((bnd (rpt0 J ⟨j0,j1⟩ hs _ (by rw [lt];exact hf))).trans ((bpos (by show (0:Int)≤1∧(1:Int)<((2:Nat):Int);omega)).trans ((bnd (v:=rc J) rfl).trans ?_))))
  rfl
 ·unfold ab
  refine (bnd way1).trans ((bvn rfl).trans ((bnd way0).trans ((bnd (v:=false) rfl).trans ((bnd c1).trans ((bnd (v:=false) ((bvn rfl).trans ((bneg (by omega)).trans rfl))).trans ((bvn rfl).trans ((bpos (by show (0:Int)≤0∧(0:Int)<((2:Nat):Int);omega)).trans ((bnd (v:=rc J) rfl).trans ((bvn hs).trans ((bpos (by show (0:Int)≤1∧(1:Int)<((2:Nat):Int);omega)).trans ((bneg (by omega)).trans ((bpos rfl).trans ((bnd (v:=rc K) rfl).trans ((bpos (by show (0:Int)≤0∧(0:Int)<((2:Nat):Int);omega)).trans ((bpos rfl).trans ((bnd (v:=rc J) rfl).trans ((bneg (by show ¬ (65536:Int)<eq .i64 ((J.b0.length:Int)+minI (k:Int) (K.b1.length:Int));rw [w2];omega)).trans ?_)))))))))))))))))
  refine (bvp (gW:aS 2 104=true)).trans ?_
  refine (bpos (by show (0:Int)≤1∧(1:Int)<((2:Nat):Int);omega)).trans ((bnd (v:=rc K) rfl).trans ((bnd (rtk1 K ⟨k0,k1⟩ k)).trans ((bpos (by show (0:Int)≤1∧(1:Int)<((2:Nat):Int);omega)).trans ((bnd (v:=rc K) rfl).trans ?_))))
  refine (bpos (by show (0:Int)≤0∧(0:Int)<((2:Nat):Int);omega)).trans ((bnd (v:=rc J) rfl).trans ((bnd (rpt0 J ⟨j0,j1⟩ hs _ (by rw [lt];exact hf))).trans ((bpos (by show (0:Int)≤0∧(0:Int)<((2:Nat):Int);omega)).trans ((bnd (v:=rc J) rfl).trans ?_))))
  rfl
theorem lP (hx hy:Arr Int 32)(K J:Kx)(hk:okK K)(hj:okK J)(k:Nat)(hs:J.s=true):ag 200000 1 1 (k:Int) true hx K.p0 K.t0 K.l0 K.p1 K.t1 K.l1 K.s true hy J.p0 J.t0 J.l0 J.p1 J.t1 J.l1 J.s K.b0 K.b1 J.b0 J.b1=some ((0,(11,())),kd2 hx hy K J)∧ab 200000 0 1 1 1 (k:Int) [rc K,rc J]=some ((0,(11,())),([rc K,rc J],()))∧ab 200000 1 1 0 1 (k:Int) [rc J,rc K]=some ((0,(11,())),([rc J,rc K],())):=by
 obtain ⟨k0,k1⟩:=hk
 obtain ⟨j0,j1⟩:=hj
 have c1:(bif false then some true else some (cond false true (decide ((k:Int)<(0:Int)))))=some false:=(bvn rfl).trans (by rw [decide_eq_false (by omega)];rfl)
 have w1:eq .i64 ((65536:Int)-(J.b1.length:Int))=65536-(J.b1.length:Int):=aQ (by omega) (by omega)
 have w2:eq .i64 ((J.b1.length:Int)+minI (k:Int) (K.b1.length:Int))=(J.b1.length:Int)+((min k K.b1.length:Nat):Int):=by rw [mini,aQ (by omega) (by omega)]
 have lt:(K.b1.take (min k K.b1.length)).length=min k K.b1.length:=by rw [ne];omega
 refine ⟨?_, ?_, ?_⟩
 ·unfold ag
  exact (bnd (v:=true) rfl).trans ((bvn rfl).trans ((bnd (v:=true) rfl).trans ((bnd (v:=false) rfl).trans ((bvn rfl).trans ((bnd (v:=true) rfl).trans ((bvn rfl).trans ((bnd (v:=true) rfl).trans ((bnd (v:=false) rfl).trans ((bnd c1).trans ((bnd (v:=false) rfl).trans ((bvn rfl).trans ((bnd (len1 hx K)).trans ((bvp hs).trans rfl)))))))))))))
 ·unfold ab
  exact (bnd way1).trans ((bvn rfl).trans ((bnd way1).trans ((bnd (v:=false) rfl).trans ((bnd c1).trans ((bnd (v:=false) ((bvn rfl).trans ((bneg (by omega)).trans rfl))).trans ((bvn rfl).trans ((bpos (by show (0:Int)≤1∧(1:Int)<((2:Nat):Int);omega)).trans ((bnd (v:=rc J) rfl).trans ((bvp hs).trans rfl)))))))))
 ·unfold ab
  exact (bnd way1).trans ((bvn rfl).trans ((bnd way1).trans ((bnd (v:=false) rfl).trans ((bnd c1).trans ((bnd (v:=false) ((bvn rfl).trans ((bneg (by omega)).trans rfl))).trans ((bvn rfl).trans ((bpos (by show (0:Int)≤0∧(0:Int)<((2:Nat):Int);omega)).trans ((bnd (v:=rc J) rfl).trans ((bvp hs).trans rfl)))))))))
theorem lQ (hx hy:Arr Int 32)(K J:Kx)(hk:okK K)(hj:okK J)(k:Nat)(hs:J.s=false)(hf:65536<J.b1.length+min k K.b1.length):ag 200000 1 1 (k:Int) true hx K.p0 K.t0 K.l0 K.p1 K.t1 K.l1 K.s true hy J.p0 J.t0 J.l0 J.p1 J.t1 J.l1 J.s K.b0 K.b1 J.b0 J.b1=some ((0,(12,())),kd2 hx hy K J)∧ab 200000 0 1 1 1 (k:Int) [rc K,rc J]=some ((0,(12,())),([rc K,rc J],()))∧ab 200000 1 1 0 1 (k:Int) [rc J,rc K]=some ((0,(12,())),([rc J,rc K],())):=by
 obtain ⟨k0,k1⟩:=hk
 obtain ⟨j0,j1⟩:=hj
 have c1:(bif false then some true else some (cond false true (decide ((k:Int)<(0:Int)))))=some false:=(bvn rfl).trans (by rw [decide_eq_false (by omega)];rfl)
 have w1:eq .i64 ((65536:Int)-(J.b1.length:Int))=65536-(J.b1.length:Int):=aQ (by omega) (by omega)
 have w2:eq .i64 ((J.b1.length:Int)+minI (k:Int) (K.b1.length:Int))=(J.b1.length:Int)+((min k K.b1.length:Nat):Int):=by rw [mini,aQ (by omega) (by omega)]
 have lt:(K.b1.take (min k K.b1.length)).length=min k K.b1.length:=by rw [ne];omega
 refine ⟨?_, ?_, ?_⟩
 ·unfold ag
  exact (bnd (v:=true) rfl).trans ((bvn rfl).trans ((bnd (v:=true) rfl).trans ((bnd (v:=false) rfl).trans ((bvn rfl).trans ((bnd (v:=true) rfl).trans ((bvn rfl).trans ((bnd (v:=true) rfl).trans ((bnd (v:=false) rfl).trans ((bnd c1).trans ((bnd (v:=false) rfl).trans ((bvn rfl).trans ((bnd (len1 hx K)).trans ((bvn hs).trans ((bneg (by omega)).trans ((bpos rfl).trans ((bpos (by show eq .i64 ((65536:Int)-(J.b1.length:Int))<minI (k:Int) (K.b1.length:Int);rw [w1,mini];omega)).trans rfl))))))))))))))))
 ·unfold ab
  exact (bnd way1).trans ((bvn rfl).trans ((bnd way1).trans ((bnd (v:=false) rfl).trans ((bnd c1).trans ((bnd (v:=false) ((bvn rfl).trans ((bneg (by omega)).trans rfl))).trans ((bvn rfl).trans ((bpos (by show (0:Int)≤1∧(1:Int)<((2:Nat):Int);omega)).trans ((bnd (v:=rc J) rfl).trans ((bvn hs).trans ((bpos (by show (0:Int)≤0∧(0:Int)<((2:Nat):Int);omega)).trans ((bneg (by omega)).trans ((bpos rfl).trans ((bnd (v:=rc K) rfl).trans ((bpos (by show (0:Int)≤1∧(1:Int)<((2:Nat):Int);omega)).trans ((bneg (by omega)).trans ((bpos rfl).trans ((bnd (v:=rc J) rfl).trans ((bpos (by show (65536:Int)<eq .i64 ((J.b1.length:Int)+minI (k:Int) (K.b1.length:Int));rw [w2];omega)).trans rfl))))))))))))))))))
 ·unfold ab
  exact (bnd way1).trans ((bvn rfl).trans ((bnd way1).trans ((bnd (v:=false) rfl).trans ((bnd c1).trans ((bnd (v:=false) ((bvn rfl).trans ((bneg (by omega)).trans rfl))).trans ((bvn rfl).trans ((bpos (by show (0:Int)≤0∧(0:Int)<((2:Nat):Int);omega)).trans ((bnd (v:=rc J) rfl).trans ((bvn hs).trans ((bpos (by show (0:Int)≤1∧(1:Int)<((2:Nat):Int);omega)).trans ((bneg (by omega)).trans ((bpos rfl).trans ((bnd (v:=rc K) rfl).trans ((bpos (by show (0:Int)≤0∧(0:Int)<((2:Nat):Int);omega)).trans ((bneg (by omega)).trans ((bpos rfl).trans ((bnd (v:=rc J) rfl).trans ((bpos (by show (65536:Int)<eq .i64 ((J.b1.length:Int)+minI (k:Int) (K.b1.length:Int));rw [w2];omega)).trans rfl))))))))))))))))))
theorem oQ (hx hy:Arr Int 32)(K J:Kx)(hk:okK K)(hj:okK J)(k:Nat)(hs:J.s=false)(hf:J.b1.length+min k K.b1.length≤65536):ag 200000 1 1 (k:Int) true hx K.p0 K.t0 K.l0 K.p1 K.t1 K.l1 K.s true hy J.p0 J.t0 J.l0 J.p1 J.t1 J.l1 J.s K.b0 K.b1 J.b0 J.b1=some ((((K.b1.take (min k K.b1.length)).length:Int),(0,())),kd2 hx hy (tk1 K k) (pt1 J (K.b1.take (min k K.b1.length))))∧ab 200000 0 1 1 1 (k:Int) [rc K,rc J]=some ((((K.b1.take (min k K.b1.length)).length:Int),(0,())),([rc (tk1 K k),rc (pt1 J (K.b1.take (min k K.b1.length)))],()))∧ab 200000 1 1 0 1 (k:Int) [rc J,rc K]=some ((((K.b1.take (min k K.b1.length)).length:Int),(0,())),([rc (pt1 J (K.b1.take (min k K.b1.length))),rc (tk1 K k)],())):=by
 obtain ⟨k0,k1⟩:=hk
 obtain ⟨j0,j1⟩:=hj
 have c1:(bif false then some true else some (cond false true (decide ((k:Int)<(0:Int)))))=some false:=(bvn rfl).trans (by rw [decide_eq_false (by omega)];rfl)
 have w1:eq .i64 ((65536:Int)-(J.b1.length:Int))=65536-(J.b1.length:Int):=aQ (by omega) (by omega)
 have w2:eq .i64 ((J.b1.length:Int)+minI (k:Int) (K.b1.length:Int))=(J.b1.length:Int)+((min k K.b1.length:Nat):Int):=by rw [mini,aQ (by omega) (by omega)]
 have lt:(K.b1.take (min k K.b1.length)).length=min k K.b1.length:=by rw [ne];omega
 refine ⟨?_, ?_, ?_⟩
 ·unfold ag
  exact (bnd (v:=true) rfl).trans ((bvn rfl).trans ((bnd (v:=true) rfl).trans ((bnd (v:=false) rfl).trans ((bvn rfl).trans ((bnd (v:=true) rfl).trans ((bvn rfl).trans ((bnd (v:=true) rfl).trans ((bnd (v:=false) rfl).trans ((bnd c1).trans ((bnd (v:=false) rfl).trans ((bvn rfl).trans ((bnd (len1 hx K)).trans ((bvn hs).trans ((bneg (by omega)).trans ((bpos rfl).trans ((bneg (by show ¬ eq .i64 ((65536:Int)-(J.b1.length:Int))<minI (k:Int) (K.b1.length:Int);rw [w1,mini];omega)).trans ((bnd (ptk1 hx K ⟨k0,k1⟩ k)).trans ((bneg (by omega)).trans ((bpos rfl).trans ((rpos (by show J.b1.length+(K.b1.take (min k K.b1.length)).length≤100000;rw [lt];omega) (by omega)).trans rfl))))))))))))))))))))
 ·unfold ab
  refine (bnd way1).trans ((bvn rfl).trans ((bnd way1).trans ((bnd (v:=false) rfl).trans ((bnd c1).trans ((bnd (v:=false) ((bvn rfl).trans ((bneg (by omega)).trans rfl))).trans ((bvn rfl).trans ((bpos (by show (0:Int)≤1∧(1:Int)<((2:Nat):Int);omega)).trans ((bnd (v:=rc J) rfl).trans ((bvn hs).trans ((bpos (by show (0:Int)≤0∧(0:Int)<((2:Nat):Int);omega)).trans ((bneg (by omega)).trans ((bpos rfl).trans ((bnd (v:=rc K) rfl).trans ((bpos (by show (0:Int)≤1∧(1:Int)<((2:Nat):Int);omega)).trans ((bneg (by omega)).trans ((bpos rfl).trans ((bnd (v:=rc J) rfl).trans ((bneg (by show ¬ (65536:Int)<eq .i64 ((J.b1.length:Int)+minI (k:Int) (K.b1.length:Int));rw [w2];omega)).trans ?_))))))))))))))))))
  refine (bvp (gW:aS 2 104=true)).trans ?_
  refine (bpos (by show (0:Int)≤0∧(0:Int)<((2:Nat):Int);omega)).trans ((bnd (v:=rc K) rfl).trans ((bnd (rtk1 K ⟨k0,k1⟩ k)).trans ((bpos (by show (0:Int)≤0∧(0:Int)<((2:Nat):Int);omega)).trans ((bnd (v:=rc K) rfl).trans ?_))))
  refine (bpos (by show (0:Int)≤1∧(1:Int)<((2:Nat):Int);omega)).trans ((bnd (v:=rc J) rfl).trans ((bnd (rpt1 J ⟨j0,j1⟩ hs _ (by rw [lt];exact hf))).trans ((bpos (by show (0:Int)≤1∧(1:Int)<((2:Nat):Int);omega)).trans ((bnd (v:=rc J) rfl).trans ?_))))
  rfl
 ·unfold ab
  refine (bnd way1).trans ((bvn rfl).trans ((bnd way1).trans ((bnd (v:=false) rfl).trans ((bnd c1).trans ((bnd (v:=false) ((bvn rfl).trans ((bneg (by omega)).trans rfl))).trans ((bvn rfl).trans ((bpos (by show (0:Int)≤0∧(0:Int)<((2:Nat):Int);omega)).trans ((bnd (v:=rc J) rfl).trans ((bvn hs).trans ((bpos (by show (0:Int)≤1∧(1:Int)<((2:Nat):Int);omega)).trans ((bneg (by omega)).trans ((bpos rfl).trans ((bnd (v:=rc K) rfl).trans ((bpos (by show (0:Int)≤0∧(0:Int)<((2:Nat):Int);omega)).trans ((bneg (by omega)).trans ((bpos rfl).trans ((bnd (v:=rc J) rfl).trans ((bneg (by show ¬ (65536:Int)<eq .i64 ((J.b1.length:Int)+minI (k:Int) (K.b1.length:Int));rw [w2];omega)).trans ?_))))))))))))))))))
  refine (bvp (gW:aS 2 104=true)).trans ?_
  refine (bpos (by show (0:Int)≤1∧(1:Int)<((2:Nat):Int);omega)).trans ((bnd (v:=rc K) rfl).trans ((bnd (rtk1 K ⟨k0,k1⟩ k)).trans ((bpos (by show (0:Int)≤1∧(1:Int)<((2:Nat):Int);omega)).trans ((bnd (v:=rc K) rfl).trans ?_))))
  refine (bpos (by show (0:Int)≤0∧(0:Int)<((2:Nat):Int);omega)).trans ((bnd (v:=rc J) rfl).trans ((bnd (rpt1 J ⟨j0,j1⟩ hs _ (by rw [lt];exact hf))).trans ((bpos (by show (0:Int)≤0∧(0:Int)<((2:Nat):Int);omega)).trans ((bnd (v:=rc J) rfl).trans ?_))))
  rfl
theorem tX (hx:Arr Int 32)(K:Kx)(R:Rc)(w o n:Int)(h:(w=0∨w=1)→(o=0∨o=1)→n<0∨w=o):an 200000 w o n true hx K.p0 K.t0 K.l0 K.p1 K.t1 K.l1 K.s K.b0 K.b1=some ((0,(1,())),kd hx K)∧ab 200000 0 w 0 o n [rc K,R]=some ((0,(1,())),([rc K,R],()))∧ab 200000 1 w 1 o n [R,rc K]=some ((0,(1,())),([R,rc K],())):=by
 by_cases hw:w=0∨w=1
 ·have mw:(bif (decide (w=(0:Int))) then some true else some (cond false true (decide (w=(1:Int)))))=some true:=by rcases hw with rfl | rfl <;> rfl
  have rw_:ba 200000 w=some true:=by rcases hw with rfl | rfl <;> rfl
  by_cases ho:o=0∨o=1
  ·have mo:(bif (decide (o=(0:Int))) then some true else some (cond false true (decide (o=(1:Int)))))=some true:=by rcases ho with rfl | rfl <;> rfl
   have ro:ba 200000 o=some true:=by rcases ho with rfl | rfl <;> rfl
   by_cases hn:n<0
   ·have c1:(bif false then some true else some (cond false true (decide (n<(0:Int)))))=some true:=(bvn rfl).trans (by rw [decide_eq_true hn];rfl)
    refine ⟨?_, ?_, ?_⟩
    ·unfold an
     exact (bnd (v:=true) rfl).trans ((bvn rfl).trans ((bnd (v:=true) rfl).trans ((bnd (v:=false) rfl).trans ((bvn rfl).trans ((bnd mw).trans ((bvn rfl).trans ((bnd mo).trans ((bnd (v:=false) rfl).trans ((bnd c1).trans ((bnd (v:=true) (bvp rfl)).trans ((bvp rfl).trans rfl)))))))))))
    ·unfold ab
     exact (bnd rw_).trans ((bvn rfl).trans ((bnd ro).trans ((bnd (v:=false) rfl).trans ((bnd c1).trans ((bnd (v:=true) (bvp rfl)).trans ((bvp rfl).trans rfl))))))
    ·unfold ab
     exact (bnd rw_).trans ((bvn rfl).trans ((bnd ro).trans ((bnd (v:=false) rfl).trans ((bnd c1).trans ((bnd (v:=true) (bvp rfl)).trans ((bvp rfl).trans rfl))))))
   ·have he:=(h hw ho).resolve_left hn
    subst he
    have c1:(bif false then some true else some (cond false true (decide (n<(0:Int)))))=some false:=(bvn rfl).trans (by rw [decide_eq_false hn];rfl)
    have c2:(bif false then some true else some (cond false true (cond true (decide (w=w)) false)))=some true:=(bvn rfl).trans (by rw [decide_eq_true rfl];rfl)
    refine ⟨?_, ?_, ?_⟩
    ·unfold an
     exact (bnd (v:=true) rfl).trans ((bvn rfl).trans ((bnd (v:=true) rfl).trans ((bnd (v:=false) rfl).trans ((bvn rfl).trans ((bnd mw).trans ((bvn rfl).trans ((bnd mo).trans ((bnd (v:=false) rfl).trans ((bnd c1).trans ((bnd c2).trans ((bvp rfl).trans rfl)))))))))))
    ·unfold ab
     exact (bnd rw_).trans ((bvn rfl).trans ((bnd ro).trans ((bnd (v:=false) rfl).trans ((bnd c1).trans ((bnd (v:=true) ((bvn rfl).trans ((bpos rfl).trans (by rw [decide_eq_true rfl];rfl)))).trans ((bvp rfl).trans rfl))))))
    ·unfold ab
     exact (bnd rw_).trans ((bvn rfl).trans ((bnd ro).trans ((bnd (v:=false) rfl).trans ((bnd c1).trans ((bnd (v:=true) ((bvn rfl).trans ((bpos rfl).trans (by rw [decide_eq_true rfl];rfl)))).trans ((bvp rfl).trans rfl))))))
  ·have no:=mayN (fun e=>ho (.inl e)) (fun e=>ho (.inr e))
   have ro:=wayN (fun e=>ho (.inl e)) (fun e=>ho (.inr e))
   refine ⟨?_, ?_, ?_⟩
   ·unfold an
    exact (bnd (v:=true) rfl).trans ((bvn rfl).trans ((bnd (v:=true) rfl).trans ((bnd (v:=false) rfl).trans ((bvn rfl).trans ((bnd mw).trans ((bvn rfl).trans ((bnd no).trans ((bnd (v:=true) rfl).trans ((bnd (v:=true) (bvp rfl)).trans ((bnd (v:=true) (bvp rfl)).trans ((bvp rfl).trans rfl)))))))))))
   ·unfold ab
    exact (bnd rw_).trans ((bvn rfl).trans ((bnd ro).trans ((bnd (v:=true) rfl).trans ((bnd (v:=true) (bvp rfl)).trans ((bnd (v:=true) (bvp rfl)).trans ((bvp rfl).trans rfl))))))
   ·unfold ab
    exact (bnd rw_).trans ((bvn rfl).trans ((bnd ro).trans ((bnd (v:=true) rfl).trans ((bnd (v:=true) (bvp rfl)).trans ((bnd (v:=true) (bvp rfl)).trans ((bvp rfl).trans rfl))))))
 ·have no:=mayN (fun e=>hw (.inl e)) (fun e=>hw (.inr e))
  have ro:=wayN (fun e=>hw (.inl e)) (fun e=>hw (.inr e))
  refine ⟨?_, ?_, ?_⟩
  ·unfold an
   exact (bnd (v:=true) rfl).trans ((bvn rfl).trans ((bnd (v:=true) rfl).trans ((bnd (v:=false) rfl).trans ((bvn rfl).trans ((bnd no).trans ((bvp rfl).trans rfl))))))
  ·unfold ab
   exact (bnd ro).trans ((bvp rfl).trans rfl)
  ·unfold ab
   exact (bnd ro).trans ((bvp rfl).trans rfl)
theorem iq (hx:Arr Int 32)(K:Kx)(R:Rc)(hk:okK K)(k:Nat)(hs:K.s=true):an 200000 0 1 (k:Int) true hx K.p0 K.t0 K.l0 K.p1 K.t1 K.l1 K.s K.b0 K.b1=some ((0,(11,())),kd hx K)∧ab 200000 0 0 0 1 (k:Int) [rc K,R]=some ((0,(11,())),([rc K,R],()))∧ab 200000 1 0 1 1 (k:Int) [R,rc K]=some ((0,(11,())),([R,rc K],())):=by
 obtain ⟨k0,k1⟩:=hk
 have c1:(bif false then some true else some (cond false true (decide ((k:Int)<(0:Int)))))=some false:=(bvn rfl).trans (by rw [decide_eq_false (by omega)];rfl)
 have w1:eq .i64 ((65536:Int)-(K.b1.length:Int))=65536-(K.b1.length:Int):=aQ (by omega) (by omega)
 have w2:eq .i64 ((K.b1.length:Int)+minI (k:Int) (K.b0.length:Int))=(K.b1.length:Int)+((min k K.b0.length:Nat):Int):=by rw [mini,aQ (by omega) (by omega)]
 have lt:(K.b0.take (min k K.b0.length)).length=min k K.b0.length:=by rw [ne];omega
 refine ⟨?_, ?_, ?_⟩
 ·unfold an
  exact (bnd (v:=true) rfl).trans ((bvn rfl).trans ((bnd (v:=true) rfl).trans ((bnd (v:=false) rfl).trans ((bvn rfl).trans ((bnd (v:=true) rfl).trans ((bvn rfl).trans ((bnd (v:=true) rfl).trans ((bnd (v:=false) rfl).trans ((bnd c1).trans ((bnd (v:=false) rfl).trans ((bvn rfl).trans ((bnd (len0 hx K)).trans ((bvp hs).trans rfl)))))))))))))
 ·unfold ab
  exact (bnd way0).trans ((bvn rfl).trans ((bnd way1).trans ((bnd (v:=false) rfl).trans ((bnd c1).trans ((bnd (v:=false) ((bvn rfl).trans ((bpos rfl).trans rfl))).trans ((bvn rfl).trans ((bpos (by show (0:Int)≤0∧(0:Int)<((2:Nat):Int);omega)).trans ((bnd (v:=rc K) rfl).trans ((bvp hs).trans rfl)))))))))
 ·unfold ab
  exact (bnd way0).trans ((bvn rfl).trans ((bnd way1).trans ((bnd (v:=false) rfl).trans ((bnd c1).trans ((bnd (v:=false) ((bvn rfl).trans ((bpos rfl).trans rfl))).trans ((bvn rfl).trans ((bpos (by show (0:Int)≤1∧(1:Int)<((2:Nat):Int);omega)).trans ((bnd (v:=rc K) rfl).trans ((bvp hs).trans rfl)))))))))
theorem ir (hx:Arr Int 32)(K:Kx)(R:Rc)(hk:okK K)(k:Nat)(hs:K.s=false)(hf:65536<K.b1.length+min k K.b0.length):an 200000 0 1 (k:Int) true hx K.p0 K.t0 K.l0 K.p1 K.t1 K.l1 K.s K.b0 K.b1=some ((0,(12,())),kd hx K)∧ab 200000 0 0 0 1 (k:Int) [rc K,R]=some ((0,(12,())),([rc K,R],()))∧ab 200000 1 0 1 1 (k:Int) [R,rc K]=some ((0,(12,())),([R,rc K],())):=by
 obtain ⟨k0,k1⟩:=hk
 have c1:(bif false then some true else some (cond false true (decide ((k:Int)<(0:Int)))))=some false:=(bvn rfl).trans (by rw [decide_eq_false (by omega)];rfl)
 have w1:eq .i64 ((65536:Int)-(K.b1.length:Int))=65536-(K.b1.length:Int):=aQ (by omega) (by omega)
 have w2:eq .i64 ((K.b1.length:Int)+minI (k:Int) (K.b0.length:Int))=(K.b1.length:Int)+((min k K.b0.length:Nat):Int):=by rw [mini,aQ (by omega) (by omega)]
 have lt:(K.b0.take (min k K.b0.length)).length=min k K.b0.length:=by rw [ne];omega
 refine ⟨?_, ?_, ?_⟩
 ·unfold an
  exact (bnd (v:=true) rfl).trans ((bvn rfl).trans ((bnd (v:=true) rfl).trans ((bnd (v:=false) rfl).trans ((bvn rfl).trans ((bnd (v:=true) rfl).trans ((bvn rfl).trans ((bnd (v:=true) rfl).trans ((bnd (v:=false) rfl).trans ((bnd c1).trans ((bnd (v:=false) rfl).trans ((bvn rfl).trans ((bnd (len0 hx K)).trans ((bvn hs).trans ((bneg (by omega)).trans ((bpos rfl).trans ((bpos (by show eq .i64 ((65536:Int)-(K.b1.length:Int))<minI (k:Int) (K.b0.length:Int);rw [w1,mini];omega)).trans rfl))))))))))))))))
 ·unfold ab
  exact (bnd way0).trans ((bvn rfl).trans ((bnd way1).trans ((bnd (v:=false) rfl).trans ((bnd c1).trans ((bnd (v:=false) ((bvn rfl).trans ((bpos rfl).trans rfl))).trans ((bvn rfl).trans ((bpos (by show (0:Int)≤0∧(0:Int)<((2:Nat):Int);omega)).trans ((bnd (v:=rc K) rfl).trans ((bvn hs).trans ((bpos (by show (0:Int)≤0∧(0:Int)<((2:Nat):Int);omega)).trans ((bpos rfl).trans ((bnd (v:=rc K) rfl).trans ((bpos (by show (0:Int)≤0∧(0:Int)<((2:Nat):Int);omega)).trans ((bneg (by omega)).trans ((bpos rfl).trans ((bnd (v:=rc K) rfl).trans ((bpos (by show (65536:Int)<eq .i64 ((K.b1.length:Int)+minI (k:Int) (K.b0.length:Int));rw [w2];omega)).trans rfl)))))))))))))))))
 ·unfold ab
  exact (bnd way0).trans ((bvn rfl).trans ((bnd way1).trans ((bnd (v:=false) rfl).trans ((bnd c1).trans ((bnd (v:=false) ((bvn rfl).trans ((bpos rfl).trans rfl))).trans ((bvn rfl).trans ((bpos (by show (0:Int)≤1∧(1:Int)<((2:Nat):Int);omega)).trans ((bnd (v:=rc K) rfl).trans ((bvn hs).trans ((bpos (by show (0:Int)≤1∧(1:Int)<((2:Nat):Int);omega)).trans ((bpos rfl).trans ((bnd (v:=rc K) rfl).trans ((bpos (by show (0:Int)≤1∧(1:Int)<((2:Nat):Int);omega)).trans ((bneg (by omega)).trans ((bpos rfl).trans ((bnd (v:=rc K) rfl).trans ((bpos (by show (65536:Int)<eq .i64 ((K.b1.length:Int)+minI (k:Int) (K.b0.length:Int));rw [w2];omega)).trans rfl)))))))))))))))))
theorem kJ (hx:Arr Int 32)(K:Kx)(R:Rc)(hk:okK K)(k:Nat)(hs:K.s=false)(hf:K.b1.length+min k K.b0.length≤65536):an 200000 0 1 (k:Int) true hx K.p0 K.t0 K.l0 K.p1 K.t1 K.l1 K.s K.b0 K.b1=some ((((K.b0.take (min k K.b0.length)).length:Int),(0,())),kd hx (pt1 (tk0 K k) (K.b0.take (min k K.b0.length))))∧ab 200000 0 0 0 1 (k:Int) [rc K,R]=some ((((K.b0.take (min k K.b0.length)).length:Int),(0,())),([rc (pt1 (tk0 K k) (K.b0.take (min k K.b0.length))),R],()))∧ab 200000 1 0 1 1 (k:Int) [R,rc K]=some ((((K.b0.take (min k K.b0.length)).length:Int),(0,())),([R,rc (pt1 (tk0 K k) (K.b0.take (min k K.b0.length)))],())):=by
 obtain ⟨k0,k1⟩:=hk
 have c1:(bif false then some true else some (cond false true (decide ((k:Int)<(0:Int)))))=some false:=(bvn rfl).trans (by rw [decide_eq_false (by omega)];rfl)
 have w1:eq .i64 ((65536:Int)-(K.b1.length:Int))=65536-(K.b1.length:Int):=aQ (by omega) (by omega)
 have w2:eq .i64 ((K.b1.length:Int)+minI (k:Int) (K.b0.length:Int))=(K.b1.length:Int)+((min k K.b0.length:Nat):Int):=by rw [mini,aQ (by omega) (by omega)]
 have lt:(K.b0.take (min k K.b0.length)).length=min k K.b0.length:=by rw [ne];omega
 refine ⟨?_, ?_, ?_⟩
 ·unfold an
  exact (bnd (v:=true) rfl).trans ((bvn rfl).trans ((bnd (v:=true) rfl).trans ((bnd (v:=false) rfl).trans ((bvn rfl).trans ((bnd (v:=true) rfl).trans ((bvn rfl).trans ((bnd (v:=true) rfl).trans ((bnd (v:=false) rfl).trans ((bnd c1).trans ((bnd (v:=false) rfl).trans ((bvn rfl).trans ((bnd (len0 hx K)).trans ((bvn hs).trans ((bneg (by omega)).trans ((bpos rfl).trans ((bneg (by show ¬ eq .i64 ((65536:Int)-(K.b1.length:Int))<minI (k:Int) (K.b0.length:Int);rw [w1,mini];omega)).trans ((bnd (ptk0 hx K ⟨k0,k1⟩ k)).trans ((bneg (by omega)).trans ((bpos rfl).trans ((rpos (by show K.b1.length+(K.b0.take (min k K.b0.length)).length≤100000;rw [lt];omega) (by omega)).trans rfl))))))))))))))))))))
 ·unfold ab
  refine (bnd way0).trans ((bvn rfl).trans ((bnd way1).trans ((bnd (v:=false) rfl).trans ((bnd c1).trans ((bnd (v:=false) ((bvn rfl).trans ((bpos rfl).trans rfl))).trans ((bvn rfl).trans ((bpos (by show (0:Int)≤0∧(0:Int)<((2:Nat):Int);omega)).trans ((bnd (v:=rc K) rfl).trans ((bvn hs).trans ((bpos (by show (0:Int)≤0∧(0:Int)<((2:Nat):Int);omega)).trans ((bpos rfl).trans ((bnd (v:=rc K) rfl).trans ((bpos (by show (0:Int)≤0∧(0:Int)<((2:Nat):Int);omega)).trans ((bneg (by omega)).trans ((bpos rfl).trans ((bnd (v:=rc K) rfl).trans ((bneg (by show ¬ (65536:Int)<eq .i64 ((K.b1.length:Int)+minI (k:Int) (K.b0.length:Int));rw [w2];omega)).trans ?_)))))))))))))))))
  refine (bvp (gW:aS 2 104=true)).trans ?_
  refine (bpos (by show (0:Int)≤0∧(0:Int)<((2:Nat):Int);omega)).trans ((bnd (v:=rc K) rfl).trans ((bnd (rtk0 K ⟨k0,k1⟩ k)).trans ((bpos (by show (0:Int)≤0∧(0:Int)<((2:Nat):Int);omega)).trans ((bnd (v:=rc K) rfl).trans ?_))))
  refine (bpos (by show (0:Int)≤0∧(0:Int)<((2:Nat):Int);omega)).trans ((bnd (v:=rc (tk0 K k)) rfl).trans ((bnd (rpt1 (tk0 K k) (okT0 ⟨k0,k1⟩ k) hs _ (by show K.b1.length+_≤65536;rw [lt];exact hf))).trans ((bpos (by show (0:Int)≤0∧(0:Int)<((2:Nat):Int);omega)).trans ((bnd (v:=rc (tk0 K k)) rfl).trans ?_))))
  rfl
 ·unfold ab
  refine (bnd way0).trans ((bvn rfl).trans ((bnd way1).trans ((bnd (v:=false) rfl).trans ((bnd c1).trans ((bnd (v:=false) ((bvn rfl).trans ((bpos rfl).trans rfl))).trans ((bvn rfl).trans ((bpos (by show (0:Int)≤1∧(1:Int)<((2:Nat):Int);omega)).trans ((bnd (v:=rc K) rfl).trans ((bvn hs).trans ((bpos (by show (0:Int)≤1∧(1:Int)<((2:Nat):Int);omega)).trans ((bpos rfl).trans ((bnd (v:=rc K) rfl).trans ((bpos (by show (0:Int)≤1∧(1:Int)<((2:Nat):Int);omega)).trans ((bneg (by omega)).trans ((bpos rfl).trans ((bnd (v:=rc K) rfl).trans ((bneg (by show ¬ (65536:Int)<eq .i64 ((K.b1.length:Int)+minI (k:Int) (K.b0.length:Int));rw [w2];omega)).trans ?_)))))))))))))))))
  refine (bvp (gW:aS 2 104=true)).trans ?_
  refine (bpos (by show (0:Int)≤1∧(1:Int)<((2:Nat):Int);omega)).trans ((bnd (v:=rc K) rfl).trans ((bnd (rtk0 K ⟨k0,k1⟩ k)).trans ((bpos (by show (0:Int)≤1∧(1:Int)<((2:Nat):Int);omega)).trans ((bnd (v:=rc K) rfl).trans ?_))))
  refine (bpos (by show (0:Int)≤1∧(1:Int)<((2:Nat):Int);omega)).trans ((bnd (v:=rc (tk0 K k)) rfl).trans ((bnd (rpt1 (tk0 K k) (okT0 ⟨k0,k1⟩ k) hs _ (by show K.b1.length+_≤65536;rw [lt];exact hf))).trans ((bpos (by show (0:Int)≤1∧(1:Int)<((2:Nat):Int);omega)).trans ((bnd (v:=rc (tk0 K k)) rfl).trans ?_))))
  rfl
theorem io (hx:Arr Int 32)(K:Kx)(R:Rc)(hk:okK K)(k:Nat)(hs:K.s=true):an 200000 1 0 (k:Int) true hx K.p0 K.t0 K.l0 K.p1 K.t1 K.l1 K.s K.b0 K.b1=some ((0,(11,())),kd hx K)∧ab 200000 0 1 0 0 (k:Int) [rc K,R]=some ((0,(11,())),([rc K,R],()))∧ab 200000 1 1 1 0 (k:Int) [R,rc K]=some ((0,(11,())),([R,rc K],())):=by
 obtain ⟨k0,k1⟩:=hk
 have c1:(bif false then some true else some (cond false true (decide ((k:Int)<(0:Int)))))=some false:=(bvn rfl).trans (by rw [decide_eq_false (by omega)];rfl)
 have w1:eq .i64 ((65536:Int)-(K.b0.length:Int))=65536-(K.b0.length:Int):=aQ (by omega) (by omega)
 have w2:eq .i64 ((K.b0.length:Int)+minI (k:Int) (K.b1.length:Int))=(K.b0.length:Int)+((min k K.b1.length:Nat):Int):=by rw [mini,aQ (by omega) (by omega)]
 have lt:(K.b1.take (min k K.b1.length)).length=min k K.b1.length:=by rw [ne];omega
 refine ⟨?_, ?_, ?_⟩
 ·unfold an
  exact (bnd (v:=true) rfl).trans ((bvn rfl).trans ((bnd (v:=true) rfl).trans ((bnd (v:=false) rfl).trans ((bvn rfl).trans ((bnd (v:=true) rfl).trans ((bvn rfl).trans ((bnd (v:=true) rfl).trans ((bnd (v:=false) rfl).trans ((bnd c1).trans ((bnd (v:=false) rfl).trans ((bvn rfl).trans ((bnd (len1 hx K)).trans ((bvp hs).trans rfl)))))))))))))
 ·unfold ab
  exact (bnd way1).trans ((bvn rfl).trans ((bnd way0).trans ((bnd (v:=false) rfl).trans ((bnd c1).trans ((bnd (v:=false) ((bvn rfl).trans ((bpos rfl).trans rfl))).trans ((bvn rfl).trans ((bpos (by show (0:Int)≤0∧(0:Int)<((2:Nat):Int);omega)).trans ((bnd (v:=rc K) rfl).trans ((bvp hs).trans rfl)))))))))
 ·unfold ab
  exact (bnd way1).trans ((bvn rfl).trans ((bnd way0).trans ((bnd (v:=false) rfl).trans ((bnd c1).trans ((bnd (v:=false) ((bvn rfl).trans ((bpos rfl).trans rfl))).trans ((bvn rfl).trans ((bpos (by show (0:Int)≤1∧(1:Int)<((2:Nat):Int);omega)).trans ((bnd (v:=rc K) rfl).trans ((bvp hs).trans rfl)))))))))
theorem ip (hx:Arr Int 32)(K:Kx)(R:Rc)(hk:okK K)(k:Nat)(hs:K.s=false)(hf:65536<K.b0.length+min k K.b1.length):an 200000 1 0 (k:Int) true hx K.p0 K.t0 K.l0 K.p1 K.t1 K.l1 K.s K.b0 K.b1=some ((0,(12,())),kd hx K)∧ab 200000 0 1 0 0 (k:Int) [rc K,R]=some ((0,(12,())),([rc K,R],()))∧ab 200000 1 1 1 0 (k:Int) [R,rc K]=some ((0,(12,())),([R,rc K],())):=by
 obtain ⟨k0,k1⟩:=hk
 have c1:(bif false then some true else some (cond false true (decide ((k:Int)<(0:Int)))))=some false:=(bvn rfl).trans (by rw [decide_eq_false (by omega)];rfl)
 have w1:eq .i64 ((65536:Int)-(K.b0.length:Int))=65536-(K.b0.length:Int):=aQ (by omega) (by omega)
 have w2:eq .i64 ((K.b0.length:Int)+minI (k:Int) (K.b1.length:Int))=(K.b0.length:Int)+((min k K.b1.length:Nat):Int):=by rw [mini,aQ (by omega) (by omega)]
 have lt:(K.b1.take (min k K.b1.length)).length=min k K.b1.length:=by rw [ne];omega
 refine ⟨?_, ?_, ?_⟩
 ·unfold an
  exact (bnd (v:=true) rfl).trans ((bvn rfl).trans ((bnd (v:=true) rfl).trans ((bnd (v:=false) rfl).trans ((bvn rfl).trans ((bnd (v:=true) rfl).trans ((bvn rfl).trans ((bnd (v:=true) rfl).trans ((bnd (v:=false) rfl).trans ((bnd c1).trans ((bnd (v:=false) rfl).trans ((bvn rfl).trans ((bnd (len1 hx K)).trans ((bvn hs).trans ((bpos rfl).trans ((bpos (by show eq .i64 ((65536:Int)-(K.b0.length:Int))<minI (k:Int) (K.b1.length:Int);rw [w1,mini];omega)).trans rfl)))))))))))))))
 ·unfold ab
  exact (bnd way1).trans ((bvn rfl).trans ((bnd way0).trans ((bnd (v:=false) rfl).trans ((bnd c1).trans ((bnd (v:=false) ((bvn rfl).trans ((bpos rfl).trans rfl))).trans ((bvn rfl).trans ((bpos (by show (0:Int)≤0∧(0:Int)<((2:Nat):Int);omega)).trans ((bnd (v:=rc K) rfl).trans ((bvn hs).trans ((bpos (by show (0:Int)≤0∧(0:Int)<((2:Nat):Int);omega)).trans ((bneg (by omega)).trans ((bpos rfl).trans ((bnd (v:=rc K) rfl).trans ((bpos (by show (0:Int)≤0∧(0:Int)<((2:Nat):Int);omega)).trans ((bpos rfl).trans ((bnd (v:=rc K) rfl).trans ((bpos (by show (65536:Int)<eq .i64 ((K.b0.length:Int)+minI (k:Int) (K.b1.length:Int));rw [w2];omega)).trans rfl)))))))))))))))))
 ·unfold ab
  exact (bnd way1).trans ((bvn rfl).trans ((bnd way0).trans ((bnd (v:=false) rfl).trans ((bnd c1).trans ((bnd (v:=false) ((bvn rfl).trans ((bpos rfl).trans rfl))).trans ((bvn rfl).trans ((bpos (by show (0:Int)≤1∧(1:Int)<((2:Nat):Int);omega)).trans ((bnd (v:=rc K) rfl).trans ((bvn hs).trans ((bpos (by show (0:Int)≤1∧(1:Int)<((2:Nat):Int);omega)).trans ((bneg (by omega)).trans ((bpos rfl).trans ((bnd (v:=rc K) rfl).trans ((bpos (by show (0:Int)≤1∧(1:Int)<((2:Nat):Int);omega)).trans ((bpos rfl).trans ((bnd (v:=rc K) rfl).trans ((bpos (by show (65536:Int)<eq .i64 ((K.b0.length:Int)+minI (k:Int) (K.b1.length:Int));rw [w2];omega)).trans rfl)))))))))))))))))
theorem kI (hx:Arr Int 32)(K:Kx)(R:Rc)(hk:okK K)(k:Nat)(hs:K.s=false)(hf:K.b0.length+min k K.b1.length≤65536):an 200000 1 0 (k:Int) true hx K.p0 K.t0 K.l0 K.p1 K.t1 K.l1 K.s K.b0 K.b1=some ((((K.b1.take (min k K.b1.length)).length:Int),(0,())),kd hx (pt0 (tk1 K k) (K.b1.take (min k K.b1.length))))∧ab 200000 0 1 0 0 (k:Int) [rc K,R]=some ((((K.b1.take (min k K.b1.length)).length:Int),(0,())),([rc (pt0 (tk1 K k) (K.b1.take (min k K.b1.length))),R],()))∧ab 200000 1 1 1 0 (k:Int) [R,rc K]=some ((((K.b1.take (min k K.b1.length)).length:Int),(0,())),([R,rc (pt0 (tk1 K k) (K.b1.take (min k K.b1.length)))],())):=by
 obtain ⟨k0,k1⟩:=hk
 have c1:(bif false then some true else some (cond false true (decide ((k:Int)<(0:Int)))))=some false:=(bvn rfl).trans (by rw [decide_eq_false (by omega)];rfl)
 have w1:eq .i64 ((65536:Int)-(K.b0.length:Int))=65536-(K.b0.length:Int):=aQ (by omega) (by omega)
 have w2:eq .i64 ((K.b0.length:Int)+minI (k:Int) (K.b1.length:Int))=(K.b0.length:Int)+((min k K.b1.length:Nat):Int):=by rw [mini,aQ (by omega) (by omega)]
 have lt:(K.b1.take (min k K.b1.length)).length=min k K.b1.length:=by rw [ne];omega
 refine ⟨?_, ?_, ?_⟩
 ·unfold an
  exact (bnd (v:=true) rfl).trans ((bvn rfl).trans ((bnd (v:=true) rfl).trans ((bnd (v:=false) rfl).trans ((bvn rfl).trans ((bnd (v:=true) rfl).trans ((bvn rfl).trans ((bnd (v:=true) rfl).trans ((bnd (v:=false) rfl).trans ((bnd c1).trans ((bnd (v:=false) rfl).trans ((bvn rfl).trans ((bnd (len1 hx K)).trans ((bvn hs).trans ((bpos rfl).trans ((bneg (by show ¬ eq .i64 ((65536:Int)-(K.b0.length:Int))<minI (k:Int) (K.b1.length:Int);rw [w1,mini];omega)).trans ((bnd (ptk1 hx K ⟨k0,k1⟩ k)).trans ((bpos rfl).trans ((rpos (by show K.b0.length+(K.b1.take (min k K.b1.length)).length≤100000;rw [lt];omega) (by omega)).trans rfl))))))))))))))))))
 ·unfold ab
  refine (bnd way1).trans ((bvn rfl).trans ((bnd way0).trans ((bnd (v:=false) rfl).trans ((bnd c1).trans ((bnd (v:=false) ((bvn rfl).trans ((bpos rfl).trans rfl))).trans ((bvn rfl).trans ((bpos (by show (0:Int)≤0∧(0:Int)<((2:Nat):Int);omega)).trans ((bnd (v:=rc K) rfl).trans ((bvn hs).trans ((bpos (by show (0:Int)≤0∧(0:Int)<((2:Nat):Int);omega)).trans ((bneg (by omega)).trans ((bpos rfl).trans ((bnd (v:=rc K) rfl).trans ((bpos (by show (0:Int)≤0∧(0:Int)<((2:Nat):Int);omega)).trans ((bpos rfl).trans ((bnd (v:=rc K) rfl).trans ((bneg (by show ¬ (65536:Int)<eq .i64 ((K.b0.length:Int)+minI (k:Int) (K.b1.length:Int));rw [w2];omega)).trans ?_)))))))))))))))))
  refine (bvp (gW:aS 2 104=true)).trans ?_
  refine (bpos (by show (0:Int)≤0∧(0:Int)<((2:Nat):Int);omega)).trans ((bnd (v:=rc K) rfl).trans ((bnd (rtk1 K ⟨k0,k1⟩ k)).trans ((bpos (by show (0:Int)≤0∧(0:Int)<((2:Nat):Int);omega)).trans ((bnd (v:=rc K) rfl).trans ?_))))
  refine (bpos (by show (0:Int)≤0∧(0:Int)<((2:Nat):Int);omega)).trans ((bnd (v:=rc (tk1 K k)) rfl).trans ((bnd (rpt0 (tk1 K k) (okT1 ⟨k0,k1⟩ k) hs _ (by show K.b0.length+_≤65536;rw [lt];exact hf))).trans ((bpos (by show (0:Int)≤0∧(0:Int)<((2:Nat):Int);omega)).trans ((bnd (v:=rc (tk1 K k)) rfl).trans ?_))))
  rfl
 ·unfold ab
  refine (bnd way1).trans ((bvn rfl).trans ((bnd way0).trans ((bnd (v:=false) rfl).trans ((bnd c1).trans ((bnd (v:=false) ((bvn rfl).trans ((bpos rfl).trans rfl))).trans ((bvn rfl).trans ((bpos (by show (0:Int)≤1∧(1:Int)<((2:Nat):Int);omega)).trans ((bnd (v:=rc K) rfl).trans ((bvn hs).trans ((bpos (by show (0:Int)≤1∧(1:Int)<((2:Nat):Int);omega)).trans ((bneg (by omega)).trans ((bpos rfl).trans ((bnd (v:=rc K) rfl).trans ((bpos (by show (0:Int)≤1∧(1:Int)<((2:Nat):Int);omega)).trans ((bpos rfl).trans ((bnd (v:=rc K) rfl).trans ((bneg (by show ¬ (65536:Int)<eq .i64 ((K.b0.length:Int)+minI (k:Int) (K.b1.length:Int));rw [w2];omega)).trans ?_)))))))))))))))))
  refine (bvp (gW:aS 2 104=true)).trans ?_
  refine (bpos (by show (0:Int)≤1∧(1:Int)<((2:Nat):Int);omega)).trans ((bnd (v:=rc K) rfl).trans ((bnd (rtk1 K ⟨k0,k1⟩ k)).trans ((bpos (by show (0:Int)≤1∧(1:Int)<((2:Nat):Int);omega)).trans ((bnd (v:=rc K) rfl).trans ?_))))
  refine (bpos (by show (0:Int)≤1∧(1:Int)<((2:Nat):Int);omega)).trans ((bnd (v:=rc (tk1 K k)) rfl).trans ((bnd (rpt0 (tk1 K k) (okT1 ⟨k0,k1⟩ k) hs _ (by show K.b0.length+_≤65536;rw [lt];exact hf))).trans ((bpos (by show (0:Int)≤1∧(1:Int)<((2:Nat):Int);omega)).trans ((bnd (v:=rc (tk1 K k)) rfl).trans ?_))))
  rfl
theorem oV (hx hy:Arr Int 32)(K J:Kx)(hk:okK K)(hj:okK J)(w o n:Int):∃ (c e:Int) (K' J':Kx),ag 200000 w o n true hx K.p0 K.t0 K.l0 K.p1 K.t1 K.l1 K.s true hy J.p0 J.t0 J.l0 J.p1 J.t1 J.l1 J.s K.b0 K.b1 J.b0 J.b1=some ((c,(e,())),kd2 hx hy K' J')∧ab 200000 0 w 1 o n [rc K,rc J]=some ((c,(e,())),([rc K',rc J'],()))∧ab 200000 1 w 0 o n [rc J,rc K]=some ((c,(e,())),([rc J',rc K'],()))∧okK K'∧okK J':=by
 by_cases hg:(w=0∨w=1)∧(o=0∨o=1)∧0≤n
 ·obtain ⟨hw,ho,hn⟩:=hg
  obtain ⟨k,rfl⟩:∃ k:Nat,n=(k:Int):=⟨n.toNat,by omega⟩
  cases hs:J.s with
  | true=>
   rcases hw with rfl | rfl <;> rcases ho with rfl | rfl
   ·obtain ⟨a,b,c⟩:=lV hx hy K J hk hj k hs
    exact ⟨_,_,_,_,by rw [hs] at a;exact a,b,c,hk,hj⟩
   ·obtain ⟨a,b,c⟩:=lT hx hy K J hk hj k hs
    exact ⟨_,_,_,_,by rw [hs] at a;exact a,b,c,hk,hj⟩
   ·obtain ⟨a,b,c⟩:=lR hx hy K J hk hj k hs
    exact ⟨_,_,_,_,by rw [hs] at a;exact a,b,c,hk,hj⟩
   ·obtain ⟨a,b,c⟩:=lP hx hy K J hk hj k hs
    exact ⟨_,_,_,_,by rw [hs] at a;exact a,b,c,hk,hj⟩
  | false=>
   rcases hw with rfl | rfl <;> rcases ho with rfl | rfl
   ·by_cases hf:65536<J.b0.length+min k K.b0.length
    ·obtain ⟨a,b,c⟩:=lW hx hy K J hk hj k hs hf
     exact ⟨_,_,_,_,by rw [hs] at a;exact a,b,c,hk,hj⟩
    ·obtain ⟨a,b,c⟩:=oT hx hy K J hk hj k hs (by omega)
     exact ⟨_,_,_,_,by rw [hs] at a;exact a,b,c,okT0 hk k,okP0 hj _ (by rw [ne];omega)⟩
   ·by_cases hf:65536<J.b1.length+min k K.b0.length
    ·obtain ⟨a,b,c⟩:=lU hx hy K J hk hj k hs hf
     exact ⟨_,_,_,_,by rw [hs] at a;exact a,b,c,hk,hj⟩
    ·obtain ⟨a,b,c⟩:=oS hx hy K J hk hj k hs (by omega)
     exact ⟨_,_,_,_,by rw [hs] at a;exact a,b,c,okT0 hk k,okP1 hj _ (by rw [ne];omega)⟩
   ·by_cases hf:65536<J.b0.length+min k K.b1.length
    ·obtain ⟨a,b,c⟩:=lS hx hy K J hk hj k hs hf
     exact ⟨_,_,_,_,by rw [hs] at a;exact a,b,c,hk,hj⟩
    ·obtain ⟨a,b,c⟩:=oR hx hy K J hk hj k hs (by omega)
     exact ⟨_,_,_,_,by rw [hs] at a;exact a,b,c,okT1 hk k,okP0 hj _ (by rw [ne];omega)⟩
   ·by_cases hf:65536<J.b1.length+min k K.b1.length
    ·obtain ⟨a,b,c⟩:=lQ hx hy K J hk hj k hs hf
     exact ⟨_,_,_,_,by rw [hs] at a;exact a,b,c,hk,hj⟩
    ·obtain ⟨a,b,c⟩:=oQ hx hy K J hk hj k hs (by omega)
     exact ⟨_,_,_,_,by rw [hs] at a;exact a,b,c,okT1 hk k,okP1 hj _ (by rw [ne];omega)⟩
 ·obtain ⟨a,b,c⟩:=uA hx hy K J w o n (fun h1 h2=>by
   rcases Int.lt_or_le n 0 with h | h
   ·exact h
   ·exact absurd ⟨h1,h2,h⟩ hg)
  exact ⟨_,_,_,_,a,b,c,hk,hj⟩
theorem oU (hx:Arr Int 32)(K:Kx)(hk:okK K)(w o n:Int):∃ (c e:Int) (K':Kx),an 200000 w o n true hx K.p0 K.t0 K.l0 K.p1 K.t1 K.l1 K.s K.b0 K.b1=some ((c,(e,())),kd hx K')∧(∀ R:Rc,ab 200000 0 w 0 o n [rc K,R]=some ((c,(e,())),([rc K',R],()))∧ab 200000 1 w 1 o n [R,rc K]=some ((c,(e,())),([R,rc K'],())))∧okK K':=by
 by_cases hg:(w=0∨w=1)∧(o=0∨o=1)∧0≤n∧w≠o
 ·obtain ⟨hw,ho,hn,hne⟩:=hg
  obtain ⟨k,rfl⟩:∃ k:Nat,n=(k:Int):=⟨n.toNat,by omega⟩
  have hwo:(w=0∧o=1)∨(w=1∧o=0):=by omega
  cases hs:K.s with
  | true=>
   rcases hwo with ⟨rfl,rfl⟩ | ⟨rfl,rfl⟩
   ·exact ⟨_,_,_,by have a:=(iq hx K (rc K) hk k hs).1;rw [hs] at a;exact a,fun R=>(iq hx K R hk k hs).2,hk⟩
   ·exact ⟨_,_,_,by have a:=(io hx K (rc K) hk k hs).1;rw [hs] at a;exact a,fun R=>(io hx K R hk k hs).2,hk⟩
  | false=>
   rcases hwo with ⟨rfl,rfl⟩ | ⟨rfl,rfl⟩
   ·by_cases hf:65536<K.b1.length+min k K.b0.length
    ·exact ⟨_,_,_,by have a:=(ir hx K (rc K) hk k hs hf).1;rw [hs] at a;exact a,fun R=>(ir hx K R hk k hs hf).2,hk⟩
    ·exact ⟨_,_,_,by have a:=(kJ hx K (rc K) hk k hs (by omega)).1;rw [hs] at a;exact a,fun R=>(kJ hx K R hk k hs (by omega)).2,okP1 (okT0 hk k) _ (by show K.b1.length+_≤65536;rw [ne];omega)⟩
   ·by_cases hf:65536<K.b0.length+min k K.b1.length
    ·exact ⟨_,_,_,by have a:=(ip hx K (rc K) hk k hs hf).1;rw [hs] at a;exact a,fun R=>(ip hx K R hk k hs hf).2,hk⟩
    ·exact ⟨_,_,_,by have a:=(kI hx K (rc K) hk k hs (by omega)).1;rw [hs] at a;exact a,fun R=>(kI hx K R hk k hs (by omega)).2,okP0 (okT1 hk k) _ (by show K.b0.length+_≤65536;rw [ne];omega)⟩
 ·have hb:(w=0∨w=1)→(o=0∨o=1)→n<0∨w=o:=fun h1 h2=>by
   rcases Int.lt_or_le n 0 with h | h
   ·exact .inl h
   ·by_cases he:w=o
    ·exact .inr he
    ·exact absurd ⟨h1,h2,h,he⟩ hg
  exact ⟨_,_,_,(tX hx K (rc K) w o n hb).1,fun R=>(tX hx K R w o n hb).2,hk⟩
theorem t6 (h:Arr Int 32)(K:Kx)(hk:okK K):aB 200000 0 true h K.p0 K.t0 K.l0 K.p1 K.t1 K.l1 K.s K.b0 K.b1=some ((K.b0,()),kd h K):=by
 obtain ⟨k0,k1⟩:=hk
 unfold aB
 refine (bnd (v:=true) rfl).trans ((bvn rfl).trans ((bnd (v:=true) rfl).trans ((bnd (v:=false) rfl).trans ((bvn rfl).trans ?_))))
 exact (bpos rfl).trans ((rpos (by omega) (by omega)).trans rfl)
theorem pN (h:Arr Int 32)(K:Kx):aE 200000 0 true h K.p0 K.t0 K.l0 K.p1 K.t1 K.l1 K.s K.b0 K.b1=some ((K.p0,(K.t0,(K.l0,()))),kd h K):=by
 unfold aE
 refine (bnd (v:=true) rfl).trans ((bvn rfl).trans ((bnd (v:=true) rfl).trans ((bnd (v:=false) rfl).trans ((bvn rfl).trans ?_))))
 exact (bpos rfl).trans rfl
theorem t5 (h:Arr Int 32)(K:Kx)(hk:okK K):aB 200000 1 true h K.p0 K.t0 K.l0 K.p1 K.t1 K.l1 K.s K.b0 K.b1=some ((K.b1,()),kd h K):=by
 obtain ⟨k0,k1⟩:=hk
 unfold aB
 refine (bnd (v:=true) rfl).trans ((bvn rfl).trans ((bnd (v:=true) rfl).trans ((bnd (v:=false) rfl).trans ((bvn rfl).trans ?_))))
 exact (bneg (by omega)).trans ((bpos rfl).trans ((rpos (by omega) (by omega)).trans rfl))
theorem pM (h:Arr Int 32)(K:Kx):aE 200000 1 true h K.p0 K.t0 K.l0 K.p1 K.t1 K.l1 K.s K.b0 K.b1=some ((K.p1,(K.t1,(K.l1,()))),kd h K):=by
 unfold aE
 refine (bnd (v:=true) rfl).trans ((bvn rfl).trans ((bnd (v:=true) rfl).trans ((bnd (v:=false) rfl).trans ((bvn rfl).trans ?_))))
 exact (bneg (by omega)).trans ((bpos rfl).trans rfl)
theorem hG (h:Arr Int 32)(K:Kx):aG 200000 true h K.p0 K.t0 K.l0 K.p1 K.t1 K.l1 K.s K.b0 K.b1=some ((!K.s,()),kd h K):=by
 unfold aG
 refine (bnd (v:=true) rfl).trans ((bnd (v:=!K.s) ?_).trans rfl)
 refine (bvp rfl).trans ?_
 cases K.s <;> rfl
theorem dp (a:List Int)(h:a.length≤65536):aN 200000 a a=some ((true,()),()):=by
 have hl:dq 200000 ((a,(a,((0:Int),()))),())=some (.inr ((),())):=by
  have:=r8 (G:=fun X c=>bd 200000 X c.1.1 c.1.2.1 c.1.2.2.1) (fun i=>((a,(a,((i:Int),()))),())) a.length (.inr ((),())) (fun X i hi=> ?_) (fun X=> ?_) 200000 0 (Nat.zero_le _) (by omega)
  ·exact this
  ·have c1:((i:Int)<(a.length:Int)):=by omega
   have w:eq .i64 ((i:Int)+1)=((i+1:Nat):Int):=by rw [aQ (by omega) (by omega)];omega
   simp only [bd,c1,decide_true,cond_true,pp a i hi,Option.bind_some,Bool.not_true,cond_false,w]
  ·have c1:¬ ((a.length:Int)<(a.length:Int)):=by omega
   simp only [bd,c1,decide_false,cond_false]
 unfold aN
 refine (bvn (by rw [decide_eq_true rfl];rfl)).trans ?_
 exact (bnd hl).trans rfl
abbrev Sx:Type:=Int×(Bool×(Bool×(Int×(Int×(Int×List Int)))))
theorem pn {A B:Type}(G:(A→Option B)→A→Option B)(c0 c1 c2:A)(r:B)(h0:∀ X,G X c0=X c1)(h1:∀ X,G X c1=X c2)(h2:∀ X,G X c2=some r):gl G 200000 c0=some r:=by
 show gl G (199997+1+1+1) c0=_
 rw [gD,h0,gD,h1,gD,h2]
theorem eqv {α:Type}{x:α}{i:Decidable (x=x)}:cond false true (!(@decide (x=x) i))=false:=by rw [decide_eq_true rfl];rfl
theorem shn (s:Bool):cond false true (@BEq.beq Bool (@instBEqOfDecidableEq Bool @instDecidableEqBool) (!s) s)=false:=by cases s <;> rfl
theorem up (hx hy:Arr Int 32)(K J:Kx)(hk:okK K)(j:Int)(R:List Rc)(x45:List Sx)(x46 x47 x216 x217:Int)(hin:0≤j∧j<(R.length:Int))(hg:R[j.toNat]? =some (rc K)):
  ce 200000 ((j,(x45,(x46,(x47,(x216,(x217,((0:Int),()))))))),(R,kd2 hx hy K J))=some (.inr ((x45,(x46,(x47,(x216,(x217,()))))),(R,kd2 hx hy K J))):=by
 obtain ⟨k0,k1⟩:=hk
 unfold ce
 refine pn _ _ ((j,(x45,(x46,(x47,(x216,(x217,((1:Int),()))))))),(R,kd2 hx hy K J)) ((j,(x45,(x46,(x47,(x216,(x217,((2:Int),()))))))),(R,kd2 hx hy K J)) _ (fun X=> ?_) (fun X=> ?_) (fun X=> ?_)
 ·show aI 200000 X j x45 x46 x47 x216 x217 0 R true hx K.p0 K.t0 K.l0 K.p1 K.t1 K.l1 K.s true hy J.p0 J.t0 J.l0 J.p1 J.t1 J.l1 J.s K.b0 K.b1 J.b0 J.b1=_
  unfold aI
  refine (bpos (by omega)).trans ((bnd (pN hx K)).trans ((bpos hin).trans ((bpos rfl).trans ((bnd hg).trans ((bnd (t6 hx K ⟨k0,k1⟩)).trans ((bnd (dp K.b0 k0)).trans ((bvn rfl).trans ((bnd (len0 hx K)).trans ?_))))))))
  refine (bvn eqv).trans ((bvn eqv).trans ((bvn eqv).trans ((bvn eqv).trans ((bnd (hG hx K)).trans ((bpos hin).trans ((bnd hg).trans ((bvn (shn K.s)).trans ?_)))))))
  rfl
 ·show aI 200000 X j x45 x46 x47 x216 x217 1 R true hx K.p0 K.t0 K.l0 K.p1 K.t1 K.l1 K.s true hy J.p0 J.t0 J.l0 J.p1 J.t1 J.l1 J.s K.b0 K.b1 J.b0 J.b1=_
  unfold aI
  refine (bpos (by omega)).trans ((bnd (pM hx K)).trans ((bpos hin).trans ((bneg (by omega)).trans ((bpos rfl).trans ((bnd hg).trans ((bnd (t5 hx K ⟨k0,k1⟩)).trans ((bnd (dp K.b1 k1)).trans ((bvn rfl).trans ((bnd (len1 hx K)).trans ?_)))))))))
  refine (bvn eqv).trans ((bvn eqv).trans ((bvn eqv).trans ((bvn eqv).trans ((bnd (hG hx K)).trans ((bpos hin).trans ((bnd hg).trans ((bvn (shn K.s)).trans ?_)))))))
  rfl
 ·show aI 200000 X j x45 x46 x47 x216 x217 2 R true hx K.p0 K.t0 K.l0 K.p1 K.t1 K.l1 K.s true hy J.p0 J.t0 J.l0 J.p1 J.t1 J.l1 J.s K.b0 K.b1 J.b0 J.b1=_
  unfold aI
  exact (bneg (by omega)).trans rfl
theorem rG (hx hy:Arr Int 32)(K J:Kx)(hk:okK K)(j:Int)(R:List Rc)(x45:List Sx)(x46 x47 x216 x217:Int)(hin:0≤j∧j<(R.length:Int))(hg:R[j.toNat]? =some (rc K)):
  bB 200000 ((j,(x45,(x46,(x47,(x216,(x217,((0:Int),()))))))),(R,kd2 hx hy K J))=some (.inr ((x45,(x46,(x47,(x216,(x217,()))))),(R,kd2 hy hx J K))):=by
 obtain ⟨k0,k1⟩:=hk
 unfold bB
 refine pn _ _ ((j,(x45,(x46,(x47,(x216,(x217,((1:Int),()))))))),(R,kd2 hx hy K J)) ((j,(x45,(x46,(x47,(x216,(x217,((2:Int),()))))))),(R,kd2 hx hy K J)) _ (fun X=> ?_) (fun X=> ?_) (fun X=> ?_)
 ·show aA 200000 X j x45 x46 x47 x216 x217 0 R true hx K.p0 K.t0 K.l0 K.p1 K.t1 K.l1 K.s true hy J.p0 J.t0 J.l0 J.p1 J.t1 J.l1 J.s K.b0 K.b1 J.b0 J.b1=_
  unfold aA
  refine (bpos (by omega)).trans ((bnd (pN hx K)).trans ((bpos hin).trans ((bpos rfl).trans ((bnd hg).trans ((bnd (t6 hx K ⟨k0,k1⟩)).trans ((bnd (dp K.b0 k0)).trans ((bvn rfl).trans ((bnd (len0 hx K)).trans ?_))))))))
  refine (bvn eqv).trans ((bvn eqv).trans ((bvn eqv).trans ((bvn eqv).trans ((bnd (hG hx K)).trans ((bpos hin).trans ((bnd hg).trans ((bvn (shn K.s)).trans ?_)))))))
  rfl
 ·show aA 200000 X j x45 x46 x47 x216 x217 1 R true hx K.p0 K.t0 K.l0 K.p1 K.t1 K.l1 K.s true hy J.p0 J.t0 J.l0 J.p1 J.t1 J.l1 J.s K.b0 K.b1 J.b0 J.b1=_
  unfold aA
  refine (bpos (by omega)).trans ((bnd (pM hx K)).trans ((bpos hin).trans ((bneg (by omega)).trans ((bpos rfl).trans ((bnd hg).trans ((bnd (t5 hx K ⟨k0,k1⟩)).trans ((bnd (dp K.b1 k1)).trans ((bvn rfl).trans ((bnd (len1 hx K)).trans ?_)))))))))
  refine (bvn eqv).trans ((bvn eqv).trans ((bvn eqv).trans ((bvn eqv).trans ((bnd (hG hx K)).trans ((bpos hin).trans ((bnd hg).trans ((bvn (shn K.s)).trans ?_)))))))
  rfl
 ·show aA 200000 X j x45 x46 x47 x216 x217 2 R true hx K.p0 K.t0 K.l0 K.p1 K.t1 K.l1 K.s true hy J.p0 J.t0 J.l0 J.p1 J.t1 J.l1 J.s K.b0 K.b1 J.b0 J.b1=_
  unfold aA
  exact (bneg (by omega)).trans rfl
theorem dT (hx hy:Arr Int 32)(K J:Kx)(hk:okK K)(hj:okK J)(x45:List Sx)(x46 x47:Int):
  ac 200000 ((x45,(x46,(x47,(((2:Nat):Int),((0:Int),()))))),([rc K,rc J],kd2 hx hy K J))=some (.inr ((x45,(x46,(x47,()))),([rc K,rc J],kd2 hx hy K J))):=by
 unfold ac
 refine pn _ _ ((x45,(x46,(x47,(((2:Nat):Int),((1:Int),()))))),([rc K,rc J],kd2 hx hy K J)) ((x45,(x46,(x47,(((2:Nat):Int),((2:Int),()))))),([rc K,rc J],kd2 hx hy K J)) _ (fun X=> ?_) (fun X=> ?_) (fun X=> ?_)
 ·show aJ 200000 X x45 x46 x47 ((2:Nat):Int) 0 [rc K,rc J] true hx K.p0 K.t0 K.l0 K.p1 K.t1 K.l1 K.s true hy J.p0 J.t0 J.l0 J.p1 J.t1 J.l1 J.s K.b0 K.b1 J.b0 J.b1=_
  unfold aJ
  refine (bpos (by omega)).trans ((bpos rfl).trans ((bnd (up hx hy K J hk 0 [rc K,rc J] x45 x46 x47 ((2:Nat):Int) 0 (by show (0:Int)≤0∧(0:Int)<((2:Nat):Int);omega) rfl)).trans ?_))
  rfl
 ·show aJ 200000 X x45 x46 x47 ((2:Nat):Int) 1 [rc K,rc J] true hx K.p0 K.t0 K.l0 K.p1 K.t1 K.l1 K.s true hy J.p0 J.t0 J.l0 J.p1 J.t1 J.l1 J.s K.b0 K.b1 J.b0 J.b1=_
  unfold aJ
  refine (bpos (by omega)).trans ((bneg (by omega)).trans ((bpos rfl).trans ((bnd (rG hy hx J K hj 1 [rc K,rc J] x45 x46 x47 ((2:Nat):Int) 1 (by show (0:Int)≤1∧(1:Int)<((2:Nat):Int);omega) rfl)).trans ?_)))
  rfl
 ·show aJ 200000 X x45 x46 x47 ((2:Nat):Int) 2 [rc K,rc J] true hx K.p0 K.t0 K.l0 K.p1 K.t1 K.l1 K.s true hy J.p0 J.t0 J.l0 J.p1 J.t1 J.l1 J.s K.b0 K.b1 J.b0 J.b1=_
  unfold aJ
  exact (bneg (by omega)).trans rfl
end Go.Proofs.Ytmndainldhmnjaa
namespace Go.Proofs.Ytmndainldhmnjaa
open Go.RowKit
set_option linter.unusedVariables false
set_option maxRecDepth 100000
section
variable (N:Nat)
noncomputable def bh:LI:=⟨287,0,[],⟨[(3,.lit (.bsl 0 2)),(4,.lit (.own 1)),(45,.ty qz1),(46,.ty (.int .i64)),(47,.ty (.int .i64))],[.boxp 23 [.lv (.box 2 0),.lv (.box 3 0)],.own qz0 32,.boxp 62 [.ty .bool,.ty (.arr 32 (.int .u8)),.own 4,.ty (.int .i64),.ty (.int .i64),.ty (.int .i64),.own 5,.ty (.int .i64),.ty (.int .i64),.ty (.int .i64),.ty .bool],.boxp 62 [.ty .bool,.ty (.arr 32 (.int .u8)),.own 6,.ty (.int .i64),.ty (.int .i64),.ty (.int .i64),.own 7,.ty (.int .i64),.ty (.int .i64),.ty (.int .i64),.ty .bool],.own (.int .u8) 5,.own (.int .u8) 5,.own (.int .u8) 5,.own (.int .u8) 5]⟩,[(.ret,⟨[(2,.ty .bool)],[]⟩),(.exit 0,⟨[],[]⟩)]⟩
def tT {R:Type}:Tree R→Tree R
  | .ite _ x _=>x
  | t=>t
def tE {R:Type}:Tree R→Tree R
  | .ite _ _ y=>y
  | t=>t
def bT {R:Type}:Tree R→Type
  | .bind (α:=α) _ _=>α
  | _=>Unit
def bF {R:Type}:(t:Tree R)→bT t→Tree R
  | .bind _ k=>k
  | .done _=>fun _=>.fail
  | .fail=>fun _=>.fail
  | .tail _=>fun _=>.fail
  | .ite _ _ _=>fun _=>.fail
  | .cases _ _ _=>fun _=>.fail
def apB {R α:Type}(t:Tree R)(h:α=bT t)(v:α):Tree R:=bF t (cast h v)
def isI {R:Type}:Tree R→Bool
  | .ite _ _ _=>true
  | _=>false
def iteB {R:Type}:Tree R→Bool
  | .ite b _ _=>b
  | _=>false
def isB {R:Type}:Tree R→Bool
  | .bind _ _=>true
  | _=>false
def bO {R:Type}:(t:Tree R)→Option (bT t)
  | .bind m _=>m
  | .done _=>none
  | .fail=>none
  | .tail _=>none
  | .ite _ _ _=>none
  | .cases _ _ _=>none
theorem nI {R:Type}{t:Tree R}{c:Bool}{x y:Option R}(hi:isI t=true)(hc:iteB t=c)(hx:(tT t).run=x)(hy:(tE t).run=y):t.run=bif c then x else y:=by
  cases t with
  | ite b u v=>subst hc hx hy;rfl
  | _=>simp [isI] at hi
theorem nT {R:Type}{t:Tree R}{x:Option R}(hi:isI t=true)(hc:iteB t=true)(hx:(tT t).run=x):t.run=x:=(nI hi hc hx rfl).trans rfl
theorem nE {R:Type}{t:Tree R}{x:Option R}(hi:isI t=true)(hc:iteB t=false)(hx:(tE t).run=x):t.run=x:=(nI hi hc rfl hx).trans rfl
theorem nB {R α:Type}{t:Tree R}(h:α=bT t){m:Option α}(hi:isB t=true)(hm:bO t=cast (congrArg Option h) m){f:α→Option R}(hf:∀ v,(apB t h v).run=f v):t.run=m.bind f:=by
  cases t with
  | bind o k=>
    have h':α=_:=h
    subst h'
    have hm':o=m:=hm
    subst hm'
    show (o.bind fun a=>(k a).run)=o.bind f
    congr 1
    funext a
    exact hf a
  | _=>simp [isB] at hi
noncomputable def af (X:pz8→Option ((((Bool×Unit)×Unit) ⊕ (Unit×Unit))))(x45:List pz3)(x46:Int)(x47:Int)(h0:List ((Arr pz2 2)×(Bool)))(h1:Bool)(h2:Arr Int 32)(h3:Int)(h4:Int)(h5:Int)(h6:Int)(h7:Int)(h8:Int)(h9:Bool)(h10:Bool)(h11:Arr Int 32)(h12:Int)(h13:Int)(h14:Int)(h15:Int)(h16:Int)(h17:Int)(h18:Bool)(h19:List (Int))(h20:List (Int))(h21:List (Int))(h22:List (Int)):=gQ Try.prog (Ev35 N) 400 [3] bh (eg Try.prog [3] 4) X ((x45,x46,x47,()),(h0,h1,h2,h3,h4,h5,h6,h7,h8,h9,h10,h11,h12,h13,h14,h15,h16,h17,h18,h19,h20,h21,h22,()))
theorem ae (X:pz8→Option ((((Bool×Unit)×Unit) ⊕ (Unit×Unit))))(x45:List pz3)(x46:Int)(x47:Int)(h0:List ((Arr pz2 2)×(Bool)))(h1:Bool)(h2:Arr Int 32)(h3:Int)(h4:Int)(h5:Int)(h6:Int)(h7:Int)(h8:Int)(h9:Bool)(h10:Bool)(h11:Arr Int 32)(h12:Int)(h13:Int)(h14:Int)(h15:Int)(h16:Int)(h17:Int)(h18:Bool)(h19:List (Int))(h20:List (Int))(h21:List (Int))(h22:List (Int)):(pz3)=bT (tT (af N X x45 x46 x47 h0 h1 h2 h3 h4 h5 h6 h7 h8 h9 h10 h11 h12 h13 h14 h15 h16 h17 h18 h19 h20 h21 h22)):=by kernel_rfl
noncomputable def cd (X:pz8→Option ((((Bool×Unit)×Unit) ⊕ (Unit×Unit))))(x45:List pz3)(x46:Int)(x47:Int)(h0:List ((Arr pz2 2)×(Bool)))(h1:Bool)(h2:Arr Int 32)(h3:Int)(h4:Int)(h5:Int)(h6:Int)(h7:Int)(h8:Int)(h9:Bool)(h10:Bool)(h11:Arr Int 32)(h12:Int)(h13:Int)(h14:Int)(h15:Int)(h16:Int)(h17:Int)(h18:Bool)(h19:List (Int))(h20:List (Int))(h21:List (Int))(h22:List (Int))(v28:pz3):Option ((((Bool×Unit)×Unit) ⊕ (Unit×Unit))):=
      ge (ao N v28.2.2.2.1 v28.2.2.2.2.2.2 h10 h11 h12 h13 h14 h15 h16 h17 h18 h21 h22) fun v29=>
      bif (decide ((0:Int)≤(1:Int)∧(1:Int)<(((gt h0):Nat):Int))) then
       ge (@GetElem?.getElem? (List pz0) Nat pz0 (fun (as30:(List pz0))=>(fun (i31:Nat)=>(@uL Nat @instLTNat i31 (gt as30)))) (@List.instGetElem?NatLtLength pz0) h0 (uH (1:Int))) fun (v30:pz0)=>
       ge (aP N v30 v28.2.2.2.1 v28.2.2.2.2.2.2) fun v31=>
       bif (decide ((0:Int)≤(1:Int)∧(1:Int)<(((gt h0):Nat):Int))) then
        ge (@GetElem?.getElem? (List pz0) Nat pz0 (fun (as32:(List pz0))=>(fun (i33:Nat)=>(@uL Nat @instLTNat i33 (gt as32)))) (@List.instGetElem?NatLtLength pz0) h0 (uH (1:Int))) fun (v32:pz0)=>
        bif (!(decide (v29.1.1=v31.2))) then
         some ((.inl ((false,()),())))
        else
         ge (ac N ((x45,(x46,(x47,(((2:Nat):Int),((0:Int),()))))),((@uK pz0 h0 (uH (1:Int)) v31.1),(h1,(h2,(h3,(h4,(h5,(h6,(h7,(h8,(h9,(v29.2.1,(v29.2.2.1,(v29.2.2.2.1,(v29.2.2.2.2.1,(v29.2.2.2.2.2.1,(v29.2.2.2.2.2.2.1,(v29.2.2.2.2.2.2.2.1,(v29.2.2.2.2.2.2.2.2.1,(v29.2.2.2.2.2.2.2.2.2.1,(h19,(h20,((v29.2.2.2.2.2.2.2.2.2).snd.1,((v29.2.2.2.2.2.2.2.2.2).snd.2.1,()))))))))))))))))))))))))) fun v33=>
         uJ
          (fun (v34:((Bool×Unit)×Unit))=>
          some ((.inl ((v34.1.1,()),()))))
          (fun (v34:pz5)=>
          (X ((v34.1.1,(v34.1.2.1,((eq .i64 (v34.1.2.2.1+1)),()))),((v34).snd.1,((v34).snd.2.1,((v34).snd.2.2.1,((v34).snd.2.2.2.1,((v34).snd.2.2.2.2.1,((v34).snd.2.2.2.2.2.1,((v34).snd.2.2.2.2.2.2.1,((v34).snd.2.2.2.2.2.2.2.1,((v34).snd.2.2.2.2.2.2.2.2.1,((v34).snd.2.2.2.2.2.2.2.2.2.1,(((v34).snd.2.2.2.2.2.2.2.2.2).snd.1,(((v34).snd.2.2.2.2.2.2.2.2.2).snd.2.1,(((v34).snd.2.2.2.2.2.2.2.2.2).snd.2.2.1,(((v34).snd.2.2.2.2.2.2.2.2.2).snd.2.2.2.1,(((v34).snd.2.2.2.2.2.2.2.2.2).snd.2.2.2.2.1,(((v34).snd.2.2.2.2.2.2.2.2.2).snd.2.2.2.2.2.1,(((v34).snd.2.2.2.2.2.2.2.2.2).snd.2.2.2.2.2.2.1,(((v34).snd.2.2.2.2.2.2.2.2.2).snd.2.2.2.2.2.2.2.1,(((v34).snd.2.2.2.2.2.2.2.2.2).snd.2.2.2.2.2.2.2.2.1,((((v34).snd.2.2.2.2.2.2.2.2.2).snd.2.2.2.2.2.2.2.2).snd.1,((((v34).snd.2.2.2.2.2.2.2.2.2).snd.2.2.2.2.2.2.2.2).snd.2.1,((((v34).snd.2.2.2.2.2.2.2.2.2).snd.2.2.2.2.2.2.2.2).snd.2.2.1,((((v34).snd.2.2.2.2.2.2.2.2.2).snd.2.2.2.2.2.2.2.2).snd.2.2.2.1,())))))))))))))))))))))))))) v33
       else
        none
      else
       none
theorem ea (X:pz8→Option ((((Bool×Unit)×Unit) ⊕ (Unit×Unit))))(x45:List pz3)(x46:Int)(x47:Int)(h0:List ((Arr pz2 2)×(Bool)))(h1:Bool)(h2:Arr Int 32)(h3:Int)(h4:Int)(h5:Int)(h6:Int)(h7:Int)(h8:Int)(h9:Bool)(h10:Bool)(h11:Arr Int 32)(h12:Int)(h13:Int)(h14:Int)(h15:Int)(h16:Int)(h17:Int)(h18:Bool)(h19:List (Int))(h20:List (Int))(h21:List (Int))(h22:List (Int))(v28:pz3):(tT (tE (tT (tE (tT (tT (tE (apB (tT (af N X x45 x46 x47 h0 h1 h2 h3 h4 h5 h6 h7 h8 h9 h10 h11 h12 h13 h14 h15 h16 h17 h18 h19 h20 h21 h22)) (ae N X x45 x46 x47 h0 h1 h2 h3 h4 h5 h6 h7 h8 h9 h10 h11 h12 h13 h14 h15 h16 h17 h18 h19 h20 h21 h22 ) v28)))))))).run=cd N X x45 x46 x47 h0 h1 h2 h3 h4 h5 h6 h7 h8 h9 h10 h11 h12 h13 h14 h15 h16 h17 h18 h19 h20 h21 h22 v28:=by kernel_rfl
noncomputable def cb (X:pz8→Option ((((Bool×Unit)×Unit) ⊕ (Unit×Unit))))(x45:List pz3)(x46:Int)(x47:Int)(h0:List ((Arr pz2 2)×(Bool)))(h1:Bool)(h2:Arr Int 32)(h3:Int)(h4:Int)(h5:Int)(h6:Int)(h7:Int)(h8:Int)(h9:Bool)(h10:Bool)(h11:Arr Int 32)(h12:Int)(h13:Int)(h14:Int)(h15:Int)(h16:Int)(h17:Int)(h18:Bool)(h19:List (Int))(h20:List (Int))(h21:List (Int))(h22:List (Int))(v28:pz3):Option ((((Bool×Unit)×Unit) ⊕ (Unit×Unit))):=
       ge (ah N v28.2.2.2.1 v28.2.2.2.2.2.1 h10 h11 h12 h13 h14 h15 h16 h17 h18 h21 h22) fun v29=>
       bif (decide ((0:Int)≤(1:Int)∧(1:Int)<(((gt h0):Nat):Int))) then
        ge (@GetElem?.getElem? (List pz0) Nat pz0 (fun (as30:(List pz0))=>(fun (i31:Nat)=>(@uL Nat @instLTNat i31 (gt as30)))) (@List.instGetElem?NatLtLength pz0) h0 (uH (1:Int))) fun (v30:pz0)=>
        ge (aM N v30 v28.2.2.2.1 v28.2.2.2.2.2.1) fun v31=>
        bif (decide ((0:Int)≤(1:Int)∧(1:Int)<(((gt h0):Nat):Int))) then
         ge (@GetElem?.getElem? (List pz0) Nat pz0 (fun (as32:(List pz0))=>(fun (i33:Nat)=>(@uL Nat @instLTNat i33 (gt as32)))) (@List.instGetElem?NatLtLength pz0) h0 (uH (1:Int))) fun (v32:pz0)=>
         ge (aN N v29.1.1 v31.2.1) fun v33=>
         bif (!v33.1.1) then
          some ((.inl ((false,()),())))
         else
          bif (!(decide (v29.1.2.1=v31.2.2))) then
           some ((.inl ((false,()),())))
          else
           ge (ac N ((x45,(x46,(x47,(((2:Nat):Int),((0:Int),()))))),((@uK pz0 h0 (uH (1:Int)) v31.1),(h1,(h2,(h3,(h4,(h5,(h6,(h7,(h8,(h9,(v29.2.1,(v29.2.2.1,(v29.2.2.2.1,(v29.2.2.2.2.1,(v29.2.2.2.2.2.1,(v29.2.2.2.2.2.2.1,(v29.2.2.2.2.2.2.2.1,(v29.2.2.2.2.2.2.2.2.1,(v29.2.2.2.2.2.2.2.2.2.1,(h19,(h20,((v29.2.2.2.2.2.2.2.2.2).snd.1,((v29.2.2.2.2.2.2.2.2.2).snd.2.1,()))))))))))))))))))))))))) fun v34=>
           uJ
            (fun (v35:((Bool×Unit)×Unit))=>
            some ((.inl ((v35.1.1,()),()))))
            (fun (v35:pz5)=>
            (X ((v35.1.1,(v35.1.2.1,((eq .i64 (v35.1.2.2.1+1)),()))),((v35).snd.1,((v35).snd.2.1,((v35).snd.2.2.1,((v35).snd.2.2.2.1,((v35).snd.2.2.2.2.1,((v35).snd.2.2.2.2.2.1,((v35).snd.2.2.2.2.2.2.1,((v35).snd.2.2.2.2.2.2.2.1,((v35).snd.2.2.2.2.2.2.2.2.1,((v35).snd.2.2.2.2.2.2.2.2.2.1,(((v35).snd.2.2.2.2.2.2.2.2.2).snd.1,(((v35).snd.2.2.2.2.2.2.2.2.2).snd.2.1,(((v35).snd.2.2.2.2.2.2.2.2.2).snd.2.2.1,(((v35).snd.2.2.2.2.2.2.2.2.2).snd.2.2.2.1,(((v35).snd.2.2.2.2.2.2.2.2.2).snd.2.2.2.2.1,(((v35).snd.2.2.2.2.2.2.2.2.2).snd.2.2.2.2.2.1,(((v35).snd.2.2.2.2.2.2.2.2.2).snd.2.2.2.2.2.2.1,(((v35).snd.2.2.2.2.2.2.2.2.2).snd.2.2.2.2.2.2.2.1,(((v35).snd.2.2.2.2.2.2.2.2.2).snd.2.2.2.2.2.2.2.2.1,((((v35).snd.2.2.2.2.2.2.2.2.2).snd.2.2.2.2.2.2.2.2).snd.1,((((v35).snd.2.2.2.2.2.2.2.2.2).snd.2.2.2.2.2.2.2.2).snd.2.1,((((v35).snd.2.2.2.2.2.2.2.2.2).snd.2.2.2.2.2.2.2.2).snd.2.2.1,((((v35).snd.2.2.2.2.2.2.2.2.2).snd.2.2.2.2.2.2.2.2).snd.2.2.2.1,())))))))))))))))))))))))))) v34
        else
         none
       else
        none
theorem d9 (X:pz8→Option ((((Bool×Unit)×Unit) ⊕ (Unit×Unit))))(x45:List pz3)(x46:Int)(x47:Int)(h0:List ((Arr pz2 2)×(Bool)))(h1:Bool)(h2:Arr Int 32)(h3:Int)(h4:Int)(h5:Int)(h6:Int)(h7:Int)(h8:Int)(h9:Bool)(h10:Bool)(h11:Arr Int 32)(h12:Int)(h13:Int)(h14:Int)(h15:Int)(h16:Int)(h17:Int)(h18:Bool)(h19:List (Int))(h20:List (Int))(h21:List (Int))(h22:List (Int))(v28:pz3):(tT (tE (tT (tE (tE (tT (tT (tE (apB (tT (af N X x45 x46 x47 h0 h1 h2 h3 h4 h5 h6 h7 h8 h9 h10 h11 h12 h13 h14 h15 h16 h17 h18 h19 h20 h21 h22)) (ae N X x45 x46 x47 h0 h1 h2 h3 h4 h5 h6 h7 h8 h9 h10 h11 h12 h13 h14 h15 h16 h17 h18 h19 h20 h21 h22 ) v28))))))))).run=cb N X x45 x46 x47 h0 h1 h2 h3 h4 h5 h6 h7 h8 h9 h10 h11 h12 h13 h14 h15 h16 h17 h18 h19 h20 h21 h22 v28:=by kernel_rfl
noncomputable def ca (X:pz8→Option ((((Bool×Unit)×Unit) ⊕ (Unit×Unit))))(x45:List pz3)(x46:Int)(x47:Int)(h0:List ((Arr pz2 2)×(Bool)))(h1:Bool)(h2:Arr Int 32)(h3:Int)(h4:Int)(h5:Int)(h6:Int)(h7:Int)(h8:Int)(h9:Bool)(h10:Bool)(h11:Arr Int 32)(h12:Int)(h13:Int)(h14:Int)(h15:Int)(h16:Int)(h17:Int)(h18:Bool)(h19:List (Int))(h20:List (Int))(h21:List (Int))(h22:List (Int))(v28:pz3):Option ((((Bool×Unit)×Unit) ⊕ (Unit×Unit))):=
        ge (az N v28.2.2.2.1 v28.2.2.2.2.2.1 h10 h11 h12 h13 h14 h15 h16 h17 h18 h21 h22) fun v29=>
        bif (decide ((0:Int)≤(1:Int)∧(1:Int)<(((gt h0):Nat):Int))) then
         ge (@GetElem?.getElem? (List pz0) Nat pz0 (fun (as30:(List pz0))=>(fun (i31:Nat)=>(@uL Nat @instLTNat i31 (gt as30)))) (@List.instGetElem?NatLtLength pz0) h0 (uH (1:Int))) fun (v30:pz0)=>
         ge (bu N v30 v28.2.2.2.1 v28.2.2.2.2.2.1) fun v31=>
         bif (decide ((0:Int)≤(1:Int)∧(1:Int)<(((gt h0):Nat):Int))) then
          ge (@GetElem?.getElem? (List pz0) Nat pz0 (fun (as32:(List pz0))=>(fun (i33:Nat)=>(@uL Nat @instLTNat i33 (gt as32)))) (@List.instGetElem?NatLtLength pz0) h0 (uH (1:Int))) fun (v32:pz0)=>
          bif (!(decide (v29.1.1=v31.2.1))) then
           some ((.inl ((false,()),())))
          else
           bif (!(decide (v29.1.2.1=v31.2.2))) then
            some ((.inl ((false,()),())))
           else
            ge (ac N ((x45,(x46,(x47,(((2:Nat):Int),((0:Int),()))))),((@uK pz0 h0 (uH (1:Int)) v31.1),(h1,(h2,(h3,(h4,(h5,(h6,(h7,(h8,(h9,(v29.2.1,(v29.2.2.1,(v29.2.2.2.1,(v29.2.2.2.2.1,(v29.2.2.2.2.2.1,(v29.2.2.2.2.2.2.1,(v29.2.2.2.2.2.2.2.1,(v29.2.2.2.2.2.2.2.2.1,(v29.2.2.2.2.2.2.2.2.2.1,(h19,(h20,((v29.2.2.2.2.2.2.2.2.2).snd.1,((v29.2.2.2.2.2.2.2.2.2).snd.2.1,()))))))))))))))))))))))))) fun v33=>
            uJ
             (fun (v34:((Bool×Unit)×Unit))=>
             some ((.inl ((v34.1.1,()),()))))
             (fun (v34:pz5)=>
             (X ((v34.1.1,(v34.1.2.1,((eq .i64 (v34.1.2.2.1+1)),()))),((v34).snd.1,((v34).snd.2.1,((v34).snd.2.2.1,((v34).snd.2.2.2.1,((v34).snd.2.2.2.2.1,((v34).snd.2.2.2.2.2.1,((v34).snd.2.2.2.2.2.2.1,((v34).snd.2.2.2.2.2.2.2.1,((v34).snd.2.2.2.2.2.2.2.2.1,((v34).snd.2.2.2.2.2.2.2.2.2.1,(((v34).snd.2.2.2.2.2.2.2.2.2).snd.1,(((v34).snd.2.2.2.2.2.2.2.2.2).snd.2.1,(((v34).snd.2.2.2.2.2.2.2.2.2).snd.2.2.1,(((v34).snd.2.2.2.2.2.2.2.2.2).snd.2.2.2.1,(((v34).snd.2.2.2.2.2.2.2.2.2).snd.2.2.2.2.1,(((v34).snd.2.2.2.2.2.2.2.2.2).snd.2.2.2.2.2.1,(((v34).snd.2.2.2.2.2.2.2.2.2).snd.2.2.2.2.2.2.1,(((v34).snd.2.2.2.2.2.2.2.2.2).snd.2.2.2.2.2.2.2.1,(((v34).snd.2.2.2.2.2.2.2.2.2).snd.2.2.2.2.2.2.2.2.1,((((v34).snd.2.2.2.2.2.2.2.2.2).snd.2.2.2.2.2.2.2.2).snd.1,((((v34).snd.2.2.2.2.2.2.2.2.2).snd.2.2.2.2.2.2.2.2).snd.2.1,((((v34).snd.2.2.2.2.2.2.2.2.2).snd.2.2.2.2.2.2.2.2).snd.2.2.1,((((v34).snd.2.2.2.2.2.2.2.2.2).snd.2.2.2.2.2.2.2.2).snd.2.2.2.1,())))))))))))))))))))))))))) v33
         else
          none
        else
         none
theorem d8 (X:pz8→Option ((((Bool×Unit)×Unit) ⊕ (Unit×Unit))))(x45:List pz3)(x46:Int)(x47:Int)(h0:List ((Arr pz2 2)×(Bool)))(h1:Bool)(h2:Arr Int 32)(h3:Int)(h4:Int)(h5:Int)(h6:Int)(h7:Int)(h8:Int)(h9:Bool)(h10:Bool)(h11:Arr Int 32)(h12:Int)(h13:Int)(h14:Int)(h15:Int)(h16:Int)(h17:Int)(h18:Bool)(h19:List (Int))(h20:List (Int))(h21:List (Int))(h22:List (Int))(v28:pz3):(tT (tE (tT (tE (tE (tE (tT (tT (tE (apB (tT (af N X x45 x46 x47 h0 h1 h2 h3 h4 h5 h6 h7 h8 h9 h10 h11 h12 h13 h14 h15 h16 h17 h18 h19 h20 h21 h22)) (ae N X x45 x46 x47 h0 h1 h2 h3 h4 h5 h6 h7 h8 h9 h10 h11 h12 h13 h14 h15 h16 h17 h18 h19 h20 h21 h22 ) v28)))))))))).run=ca N X x45 x46 x47 h0 h1 h2 h3 h4 h5 h6 h7 h8 h9 h10 h11 h12 h13 h14 h15 h16 h17 h18 h19 h20 h21 h22 v28:=by kernel_rfl
noncomputable def b9 (X:pz8→Option ((((Bool×Unit)×Unit) ⊕ (Unit×Unit))))(x45:List pz3)(x46:Int)(x47:Int)(h0:List ((Arr pz2 2)×(Bool)))(h1:Bool)(h2:Arr Int 32)(h3:Int)(h4:Int)(h5:Int)(h6:Int)(h7:Int)(h8:Int)(h9:Bool)(h10:Bool)(h11:Arr Int 32)(h12:Int)(h13:Int)(h14:Int)(h15:Int)(h16:Int)(h17:Int)(h18:Bool)(h19:List (Int))(h20:List (Int))(h21:List (Int))(h22:List (Int))(v28:pz3):Option ((((Bool×Unit)×Unit) ⊕ (Unit×Unit))):=
         ge (an N v28.2.2.2.1 v28.2.2.2.2.1 v28.2.2.2.2.2.1 h10 h11 h12 h13 h14 h15 h16 h17 h18 h21 h22) fun v29=>
         ge (ab N (1:Int) v28.2.2.2.1 (1:Int) v28.2.2.2.2.1 v28.2.2.2.2.2.1 h0) fun v30=>
         bif (!(decide (v29.1.1=v30.1.1))) then
          some ((.inl ((false,()),())))
         else
          bif (!(decide (v29.1.2.1=v30.1.2.1))) then
           some ((.inl ((false,()),())))
          else
           ge (ac N ((x45,(x46,(x47,(((2:Nat):Int),((0:Int),()))))),(v30.2.1,(h1,(h2,(h3,(h4,(h5,(h6,(h7,(h8,(h9,(v29.2.1,(v29.2.2.1,(v29.2.2.2.1,(v29.2.2.2.2.1,(v29.2.2.2.2.2.1,(v29.2.2.2.2.2.2.1,(v29.2.2.2.2.2.2.2.1,(v29.2.2.2.2.2.2.2.2.1,(v29.2.2.2.2.2.2.2.2.2.1,(h19,(h20,((v29.2.2.2.2.2.2.2.2.2).snd.1,((v29.2.2.2.2.2.2.2.2.2).snd.2.1,()))))))))))))))))))))))))) fun v31=>
           uJ
            (fun (v32:((Bool×Unit)×Unit))=>
            some ((.inl ((v32.1.1,()),()))))
            (fun (v32:pz5)=>
            (X ((v32.1.1,(v32.1.2.1,((eq .i64 (v32.1.2.2.1+1)),()))),((v32).snd.1,((v32).snd.2.1,((v32).snd.2.2.1,((v32).snd.2.2.2.1,((v32).snd.2.2.2.2.1,((v32).snd.2.2.2.2.2.1,((v32).snd.2.2.2.2.2.2.1,((v32).snd.2.2.2.2.2.2.2.1,((v32).snd.2.2.2.2.2.2.2.2.1,((v32).snd.2.2.2.2.2.2.2.2.2.1,(((v32).snd.2.2.2.2.2.2.2.2.2).snd.1,(((v32).snd.2.2.2.2.2.2.2.2.2).snd.2.1,(((v32).snd.2.2.2.2.2.2.2.2.2).snd.2.2.1,(((v32).snd.2.2.2.2.2.2.2.2.2).snd.2.2.2.1,(((v32).snd.2.2.2.2.2.2.2.2.2).snd.2.2.2.2.1,(((v32).snd.2.2.2.2.2.2.2.2.2).snd.2.2.2.2.2.1,(((v32).snd.2.2.2.2.2.2.2.2.2).snd.2.2.2.2.2.2.1,(((v32).snd.2.2.2.2.2.2.2.2.2).snd.2.2.2.2.2.2.2.1,(((v32).snd.2.2.2.2.2.2.2.2.2).snd.2.2.2.2.2.2.2.2.1,((((v32).snd.2.2.2.2.2.2.2.2.2).snd.2.2.2.2.2.2.2.2).snd.1,((((v32).snd.2.2.2.2.2.2.2.2.2).snd.2.2.2.2.2.2.2.2).snd.2.1,((((v32).snd.2.2.2.2.2.2.2.2.2).snd.2.2.2.2.2.2.2.2).snd.2.2.1,((((v32).snd.2.2.2.2.2.2.2.2.2).snd.2.2.2.2.2.2.2.2).snd.2.2.2.1,())))))))))))))))))))))))))) v31
theorem d7 (X:pz8→Option ((((Bool×Unit)×Unit) ⊕ (Unit×Unit))))(x45:List pz3)(x46:Int)(x47:Int)(h0:List ((Arr pz2 2)×(Bool)))(h1:Bool)(h2:Arr Int 32)(h3:Int)(h4:Int)(h5:Int)(h6:Int)(h7:Int)(h8:Int)(h9:Bool)(h10:Bool)(h11:Arr Int 32)(h12:Int)(h13:Int)(h14:Int)(h15:Int)(h16:Int)(h17:Int)(h18:Bool)(h19:List (Int))(h20:List (Int))(h21:List (Int))(h22:List (Int))(v28:pz3):(tT (tE (tT (tE (tT (tE (tE (tE (tE (tT (tT (tE (apB (tT (af N X x45 x46 x47 h0 h1 h2 h3 h4 h5 h6 h7 h8 h9 h10 h11 h12 h13 h14 h15 h16 h17 h18 h19 h20 h21 h22)) (ae N X x45 x46 x47 h0 h1 h2 h3 h4 h5 h6 h7 h8 h9 h10 h11 h12 h13 h14 h15 h16 h17 h18 h19 h20 h21 h22 ) v28))))))))))))).run=b9 N X x45 x46 x47 h0 h1 h2 h3 h4 h5 h6 h7 h8 h9 h10 h11 h12 h13 h14 h15 h16 h17 h18 h19 h20 h21 h22 v28:=by kernel_rfl
noncomputable def b8 (X:pz8→Option ((((Bool×Unit)×Unit) ⊕ (Unit×Unit))))(x45:List pz3)(x46:Int)(x47:Int)(h0:List ((Arr pz2 2)×(Bool)))(h1:Bool)(h2:Arr Int 32)(h3:Int)(h4:Int)(h5:Int)(h6:Int)(h7:Int)(h8:Int)(h9:Bool)(h10:Bool)(h11:Arr Int 32)(h12:Int)(h13:Int)(h14:Int)(h15:Int)(h16:Int)(h17:Int)(h18:Bool)(h19:List (Int))(h20:List (Int))(h21:List (Int))(h22:List (Int))(v28:pz3):Option ((((Bool×Unit)×Unit) ⊕ (Unit×Unit))):=
         ge (aL N h10 h11 h12 h13 h14 h15 h16 h17 h18 h21 h22) fun v29=>
         bif (decide ((0:Int)≤(1:Int)∧(1:Int)<(((gt h0):Nat):Int))) then
          ge (@GetElem?.getElem? (List pz0) Nat pz0 (fun (as30:(List pz0))=>(fun (i31:Nat)=>(@uL Nat @instLTNat i31 (gt as30)))) (@List.instGetElem?NatLtLength pz0) h0 (uH (1:Int))) fun (v30:pz0)=>
          ge (ac N ((x45,(x46,(x47,(((2:Nat):Int),((0:Int),()))))),((@uK pz0 h0 (uH (1:Int)) (v30.1,true)),(h1,(h2,(h3,(h4,(h5,(h6,(h7,(h8,(h9,(v29.2.1,(v29.2.2.1,(v29.2.2.2.1,(v29.2.2.2.2.1,(v29.2.2.2.2.2.1,(v29.2.2.2.2.2.2.1,(v29.2.2.2.2.2.2.2.1,(v29.2.2.2.2.2.2.2.2.1,(v29.2.2.2.2.2.2.2.2.2.1,(h19,(h20,((v29.2.2.2.2.2.2.2.2.2).snd.1,((v29.2.2.2.2.2.2.2.2.2).snd.2.1,()))))))))))))))))))))))))) fun v31=>
          uJ
           (fun (v32:((Bool×Unit)×Unit))=>
           some ((.inl ((v32.1.1,()),()))))
           (fun (v32:pz5)=>
           (X ((v32.1.1,(v32.1.2.1,((eq .i64 (v32.1.2.2.1+1)),()))),((v32).snd.1,((v32).snd.2.1,((v32).snd.2.2.1,((v32).snd.2.2.2.1,((v32).snd.2.2.2.2.1,((v32).snd.2.2.2.2.2.1,((v32).snd.2.2.2.2.2.2.1,((v32).snd.2.2.2.2.2.2.2.1,((v32).snd.2.2.2.2.2.2.2.2.1,((v32).snd.2.2.2.2.2.2.2.2.2.1,(((v32).snd.2.2.2.2.2.2.2.2.2).snd.1,(((v32).snd.2.2.2.2.2.2.2.2.2).snd.2.1,(((v32).snd.2.2.2.2.2.2.2.2.2).snd.2.2.1,(((v32).snd.2.2.2.2.2.2.2.2.2).snd.2.2.2.1,(((v32).snd.2.2.2.2.2.2.2.2.2).snd.2.2.2.2.1,(((v32).snd.2.2.2.2.2.2.2.2.2).snd.2.2.2.2.2.1,(((v32).snd.2.2.2.2.2.2.2.2.2).snd.2.2.2.2.2.2.1,(((v32).snd.2.2.2.2.2.2.2.2.2).snd.2.2.2.2.2.2.2.1,(((v32).snd.2.2.2.2.2.2.2.2.2).snd.2.2.2.2.2.2.2.2.1,((((v32).snd.2.2.2.2.2.2.2.2.2).snd.2.2.2.2.2.2.2.2).snd.1,((((v32).snd.2.2.2.2.2.2.2.2.2).snd.2.2.2.2.2.2.2.2).snd.2.1,((((v32).snd.2.2.2.2.2.2.2.2.2).snd.2.2.2.2.2.2.2.2).snd.2.2.1,((((v32).snd.2.2.2.2.2.2.2.2.2).snd.2.2.2.2.2.2.2.2).snd.2.2.2.1,())))))))))))))))))))))))))) v31
         else
          none
theorem d6 (X:pz8→Option ((((Bool×Unit)×Unit) ⊕ (Unit×Unit))))(x45:List pz3)(x46:Int)(x47:Int)(h0:List ((Arr pz2 2)×(Bool)))(h1:Bool)(h2:Arr Int 32)(h3:Int)(h4:Int)(h5:Int)(h6:Int)(h7:Int)(h8:Int)(h9:Bool)(h10:Bool)(h11:Arr Int 32)(h12:Int)(h13:Int)(h14:Int)(h15:Int)(h16:Int)(h17:Int)(h18:Bool)(h19:List (Int))(h20:List (Int))(h21:List (Int))(h22:List (Int))(v28:pz3):(tT (tE (tE (tE (tE (tE (tE (tT (tT (tE (apB (tT (af N X x45 x46 x47 h0 h1 h2 h3 h4 h5 h6 h7 h8 h9 h10 h11 h12 h13 h14 h15 h16 h17 h18 h19 h20 h21 h22)) (ae N X x45 x46 x47 h0 h1 h2 h3 h4 h5 h6 h7 h8 h9 h10 h11 h12 h13 h14 h15 h16 h17 h18 h19 h20 h21 h22 ) v28))))))))))).run=b8 N X x45 x46 x47 h0 h1 h2 h3 h4 h5 h6 h7 h8 h9 h10 h11 h12 h13 h14 h15 h16 h17 h18 h19 h20 h21 h22 v28:=by kernel_rfl
noncomputable def b7 (X:pz8→Option ((((Bool×Unit)×Unit) ⊕ (Unit×Unit))))(x45:List pz3)(x46:Int)(x47:Int)(h0:List ((Arr pz2 2)×(Bool)))(h1:Bool)(h2:Arr Int 32)(h3:Int)(h4:Int)(h5:Int)(h6:Int)(h7:Int)(h8:Int)(h9:Bool)(h10:Bool)(h11:Arr Int 32)(h12:Int)(h13:Int)(h14:Int)(h15:Int)(h16:Int)(h17:Int)(h18:Bool)(h19:List (Int))(h20:List (Int))(h21:List (Int))(h22:List (Int))(v28:pz3):Option ((((Bool×Unit)×Unit) ⊕ (Unit×Unit))):=
      ge (ao N v28.2.2.2.1 v28.2.2.2.2.2.2 h10 h11 h12 h13 h14 h15 h16 h17 h18 h21 h22) fun v29=>
      bif (decide ((0:Int)≤(1:Int)∧(1:Int)<(((gt h0):Nat):Int))) then
       ge (@GetElem?.getElem? (List pz0) Nat pz0 (fun (as30:(List pz0))=>(fun (i31:Nat)=>(@uL Nat @instLTNat i31 (gt as30)))) (@List.instGetElem?NatLtLength pz0) h0 (uH (1:Int))) fun (v30:pz0)=>
       ge (aP N v30 v28.2.2.2.1 v28.2.2.2.2.2.2) fun v31=>
       bif (decide ((0:Int)≤(1:Int)∧(1:Int)<(((gt h0):Nat):Int))) then
        ge (@GetElem?.getElem? (List pz0) Nat pz0 (fun (as32:(List pz0))=>(fun (i33:Nat)=>(@uL Nat @instLTNat i33 (gt as32)))) (@List.instGetElem?NatLtLength pz0) h0 (uH (1:Int))) fun (v32:pz0)=>
        bif (!(decide (v29.1.1=v31.2))) then
         some ((.inl ((false,()),())))
        else
         ge (ac N ((x45,(x46,(x47,(((2:Nat):Int),((0:Int),()))))),((@uK pz0 h0 (uH (1:Int)) v31.1),(h1,(h2,(h3,(h4,(h5,(h6,(h7,(h8,(h9,(v29.2.1,(v29.2.2.1,(v29.2.2.2.1,(v29.2.2.2.2.1,(v29.2.2.2.2.2.1,(v29.2.2.2.2.2.2.1,(v29.2.2.2.2.2.2.2.1,(v29.2.2.2.2.2.2.2.2.1,(v29.2.2.2.2.2.2.2.2.2.1,(h19,(h20,((v29.2.2.2.2.2.2.2.2.2).snd.1,((v29.2.2.2.2.2.2.2.2.2).snd.2.1,()))))))))))))))))))))))))) fun v33=>
         uJ
          (fun (v34:((Bool×Unit)×Unit))=>
          some ((.inl ((v34.1.1,()),()))))
          (fun (v34:pz5)=>
          (X ((v34.1.1,(v34.1.2.1,((eq .i64 (v34.1.2.2.1+1)),()))),((v34).snd.1,((v34).snd.2.1,((v34).snd.2.2.1,((v34).snd.2.2.2.1,((v34).snd.2.2.2.2.1,((v34).snd.2.2.2.2.2.1,((v34).snd.2.2.2.2.2.2.1,((v34).snd.2.2.2.2.2.2.2.1,((v34).snd.2.2.2.2.2.2.2.2.1,((v34).snd.2.2.2.2.2.2.2.2.2.1,(((v34).snd.2.2.2.2.2.2.2.2.2).snd.1,(((v34).snd.2.2.2.2.2.2.2.2.2).snd.2.1,(((v34).snd.2.2.2.2.2.2.2.2.2).snd.2.2.1,(((v34).snd.2.2.2.2.2.2.2.2.2).snd.2.2.2.1,(((v34).snd.2.2.2.2.2.2.2.2.2).snd.2.2.2.2.1,(((v34).snd.2.2.2.2.2.2.2.2.2).snd.2.2.2.2.2.1,(((v34).snd.2.2.2.2.2.2.2.2.2).snd.2.2.2.2.2.2.1,(((v34).snd.2.2.2.2.2.2.2.2.2).snd.2.2.2.2.2.2.2.1,(((v34).snd.2.2.2.2.2.2.2.2.2).snd.2.2.2.2.2.2.2.2.1,((((v34).snd.2.2.2.2.2.2.2.2.2).snd.2.2.2.2.2.2.2.2).snd.1,((((v34).snd.2.2.2.2.2.2.2.2.2).snd.2.2.2.2.2.2.2.2).snd.2.1,((((v34).snd.2.2.2.2.2.2.2.2.2).snd.2.2.2.2.2.2.2.2).snd.2.2.1,((((v34).snd.2.2.2.2.2.2.2.2.2).snd.2.2.2.2.2.2.2.2).snd.2.2.2.1,())))))))))))))))))))))))))) v33
       else
        none
      else
       none
theorem d5 (X:pz8→Option ((((Bool×Unit)×Unit) ⊕ (Unit×Unit))))(x45:List pz3)(x46:Int)(x47:Int)(h0:List ((Arr pz2 2)×(Bool)))(h1:Bool)(h2:Arr Int 32)(h3:Int)(h4:Int)(h5:Int)(h6:Int)(h7:Int)(h8:Int)(h9:Bool)(h10:Bool)(h11:Arr Int 32)(h12:Int)(h13:Int)(h14:Int)(h15:Int)(h16:Int)(h17:Int)(h18:Bool)(h19:List (Int))(h20:List (Int))(h21:List (Int))(h22:List (Int))(v28:pz3):(tT (tE (tT (tE (tE (tT (tE (apB (tT (af N X x45 x46 x47 h0 h1 h2 h3 h4 h5 h6 h7 h8 h9 h10 h11 h12 h13 h14 h15 h16 h17 h18 h19 h20 h21 h22)) (ae N X x45 x46 x47 h0 h1 h2 h3 h4 h5 h6 h7 h8 h9 h10 h11 h12 h13 h14 h15 h16 h17 h18 h19 h20 h21 h22 ) v28)))))))).run=b7 N X x45 x46 x47 h0 h1 h2 h3 h4 h5 h6 h7 h8 h9 h10 h11 h12 h13 h14 h15 h16 h17 h18 h19 h20 h21 h22 v28:=by kernel_rfl
noncomputable def b6 (X:pz8→Option ((((Bool×Unit)×Unit) ⊕ (Unit×Unit))))(x45:List pz3)(x46:Int)(x47:Int)(h0:List ((Arr pz2 2)×(Bool)))(h1:Bool)(h2:Arr Int 32)(h3:Int)(h4:Int)(h5:Int)(h6:Int)(h7:Int)(h8:Int)(h9:Bool)(h10:Bool)(h11:Arr Int 32)(h12:Int)(h13:Int)(h14:Int)(h15:Int)(h16:Int)(h17:Int)(h18:Bool)(h19:List (Int))(h20:List (Int))(h21:List (Int))(h22:List (Int))(v28:pz3):Option ((((Bool×Unit)×Unit) ⊕ (Unit×Unit))):=
       ge (ah N v28.2.2.2.1 v28.2.2.2.2.2.1 h10 h11 h12 h13 h14 h15 h16 h17 h18 h21 h22) fun v29=>
       bif (decide ((0:Int)≤(1:Int)∧(1:Int)<(((gt h0):Nat):Int))) then
        ge (@GetElem?.getElem? (List pz0) Nat pz0 (fun (as30:(List pz0))=>(fun (i31:Nat)=>(@uL Nat @instLTNat i31 (gt as30)))) (@List.instGetElem?NatLtLength pz0) h0 (uH (1:Int))) fun (v30:pz0)=>
        ge (aM N v30 v28.2.2.2.1 v28.2.2.2.2.2.1) fun v31=>
        bif (decide ((0:Int)≤(1:Int)∧(1:Int)<(((gt h0):Nat):Int))) then
         ge (@GetElem?.getElem? (List pz0) Nat pz0 (fun (as32:(List pz0))=>(fun (i33:Nat)=>(@uL Nat @instLTNat i33 (gt as32)))) (@List.instGetElem?NatLtLength pz0) h0 (uH (1:Int))) fun (v32:pz0)=>
         ge (aN N v29.1.1 v31.2.1) fun v33=>
         bif (!v33.1.1) then
          some ((.inl ((false,()),())))
         else
          bif (!(decide (v29.1.2.1=v31.2.2))) then
           some ((.inl ((false,()),())))
          else
           ge (ac N ((x45,(x46,(x47,(((2:Nat):Int),((0:Int),()))))),((@uK pz0 h0 (uH (1:Int)) v31.1),(h1,(h2,(h3,(h4,(h5,(h6,(h7,(h8,(h9,(v29.2.1,(v29.2.2.1,(v29.2.2.2.1,(v29.2.2.2.2.1,(v29.2.2.2.2.2.1,(v29.2.2.2.2.2.2.1,(v29.2.2.2.2.2.2.2.1,(v29.2.2.2.2.2.2.2.2.1,(v29.2.2.2.2.2.2.2.2.2.1,(h19,(h20,((v29.2.2.2.2.2.2.2.2.2).snd.1,((v29.2.2.2.2.2.2.2.2.2).snd.2.1,()))))))))))))))))))))))))) fun v34=>
           uJ
            (fun (v35:((Bool×Unit)×Unit))=>
            some ((.inl ((v35.1.1,()),()))))
            (fun (v35:pz5)=>
            (X ((v35.1.1,(v35.1.2.1,((eq .i64 (v35.1.2.2.1+1)),()))),((v35).snd.1,((v35).snd.2.1,((v35).snd.2.2.1,((v35).snd.2.2.2.1,((v35).snd.2.2.2.2.1,((v35).snd.2.2.2.2.2.1,((v35).snd.2.2.2.2.2.2.1,((v35).snd.2.2.2.2.2.2.2.1,((v35).snd.2.2.2.2.2.2.2.2.1,((v35).snd.2.2.2.2.2.2.2.2.2.1,(((v35).snd.2.2.2.2.2.2.2.2.2).snd.1,(((v35).snd.2.2.2.2.2.2.2.2.2).snd.2.1,(((v35).snd.2.2.2.2.2.2.2.2.2).snd.2.2.1,(((v35).snd.2.2.2.2.2.2.2.2.2).snd.2.2.2.1,(((v35).snd.2.2.2.2.2.2.2.2.2).snd.2.2.2.2.1,(((v35).snd.2.2.2.2.2.2.2.2.2).snd.2.2.2.2.2.1,(((v35).snd.2.2.2.2.2.2.2.2.2).snd.2.2.2.2.2.2.1,(((v35).snd.2.2.2.2.2.2.2.2.2).snd.2.2.2.2.2.2.2.1,(((v35).snd.2.2.2.2.2.2.2.2.2).snd.2.2.2.2.2.2.2.2.1,((((v35).snd.2.2.2.2.2.2.2.2.2).snd.2.2.2.2.2.2.2.2).snd.1,((((v35).snd.2.2.2.2.2.2.2.2.2).snd.2.2.2.2.2.2.2.2).snd.2.1,((((v35).snd.2.2.2.2.2.2.2.2.2).snd.2.2.2.2.2.2.2.2).snd.2.2.1,((((v35).snd.2.2.2.2.2.2.2.2.2).snd.2.2.2.2.2.2.2.2).snd.2.2.2.1,())))))))))))))))))))))))))) v34
        else
         none
       else
        none
theorem d4 (X:pz8→Option ((((Bool×Unit)×Unit) ⊕ (Unit×Unit))))(x45:List pz3)(x46:Int)(x47:Int)(h0:List ((Arr pz2 2)×(Bool)))(h1:Bool)(h2:Arr Int 32)(h3:Int)(h4:Int)(h5:Int)(h6:Int)(h7:Int)(h8:Int)(h9:Bool)(h10:Bool)(h11:Arr Int 32)(h12:Int)(h13:Int)(h14:Int)(h15:Int)(h16:Int)(h17:Int)(h18:Bool)(h19:List (Int))(h20:List (Int))(h21:List (Int))(h22:List (Int))(v28:pz3):(tT (tE (tT (tE (tE (tE (tT (tE (apB (tT (af N X x45 x46 x47 h0 h1 h2 h3 h4 h5 h6 h7 h8 h9 h10 h11 h12 h13 h14 h15 h16 h17 h18 h19 h20 h21 h22)) (ae N X x45 x46 x47 h0 h1 h2 h3 h4 h5 h6 h7 h8 h9 h10 h11 h12 h13 h14 h15 h16 h17 h18 h19 h20 h21 h22 ) v28))))))))).run=b6 N X x45 x46 x47 h0 h1 h2 h3 h4 h5 h6 h7 h8 h9 h10 h11 h12 h13 h14 h15 h16 h17 h18 h19 h20 h21 h22 v28:=by kernel_rfl
noncomputable def b5 (X:pz8→Option ((((Bool×Unit)×Unit) ⊕ (Unit×Unit))))(x45:List pz3)(x46:Int)(x47:Int)(h0:List ((Arr pz2 2)×(Bool)))(h1:Bool)(h2:Arr Int 32)(h3:Int)(h4:Int)(h5:Int)(h6:Int)(h7:Int)(h8:Int)(h9:Bool)(h10:Bool)(h11:Arr Int 32)(h12:Int)(h13:Int)(h14:Int)(h15:Int)(h16:Int)(h17:Int)(h18:Bool)(h19:List (Int))(h20:List (Int))(h21:List (Int))(h22:List (Int))(v28:pz3):Option ((((Bool×Unit)×Unit) ⊕ (Unit×Unit))):=
        ge (az N v28.2.2.2.1 v28.2.2.2.2.2.1 h10 h11 h12 h13 h14 h15 h16 h17 h18 h21 h22) fun v29=>
        bif (decide ((0:Int)≤(1:Int)∧(1:Int)<(((gt h0):Nat):Int))) then
         ge (@GetElem?.getElem? (List pz0) Nat pz0 (fun (as30:(List pz0))=>(fun (i31:Nat)=>(@uL Nat @instLTNat i31 (gt as30)))) (@List.instGetElem?NatLtLength pz0) h0 (uH (1:Int))) fun (v30:pz0)=>
         ge (bu N v30 v28.2.2.2.1 v28.2.2.2.2.2.1) fun v31=>
         bif (decide ((0:Int)≤(1:Int)∧(1:Int)<(((gt h0):Nat):Int))) then
          ge (@GetElem?.getElem? (List pz0) Nat pz0 (fun (as32:(List pz0))=>(fun (i33:Nat)=>(@uL Nat @instLTNat i33 (gt as32)))) (@List.instGetElem?NatLtLength pz0) h0 (uH (1:Int))) fun (v32:pz0)=>
          bif (!(decide (v29.1.1=v31.2.1))) then
           some ((.inl ((false,()),())))
          else
           bif (!(decide (v29.1.2.1=v31.2.2))) then
            some ((.inl ((false,()),())))
           else
            ge (ac N ((x45,(x46,(x47,(((2:Nat):Int),((0:Int),()))))),((@uK pz0 h0 (uH (1:Int)) v31.1),(h1,(h2,(h3,(h4,(h5,(h6,(h7,(h8,(h9,(v29.2.1,(v29.2.2.1,(v29.2.2.2.1,(v29.2.2.2.2.1,(v29.2.2.2.2.2.1,(v29.2.2.2.2.2.2.1,(v29.2.2.2.2.2.2.2.1,(v29.2.2.2.2.2.2.2.2.1,(v29.2.2.2.2.2.2.2.2.2.1,(h19,(h20,((v29.2.2.2.2.2.2.2.2.2).snd.1,((v29.2.2.2.2.2.2.2.2.2).snd.2.1,()))))))))))))))))))))))))) fun v33=>
            uJ
             (fun (v34:((Bool×Unit)×Unit))=>
             some ((.inl ((v34.1.1,()),()))))
             (fun (v34:pz5)=>
             (X ((v34.1.1,(v34.1.2.1,((eq .i64 (v34.1.2.2.1+1)),()))),((v34).snd.1,((v34).snd.2.1,((v34).snd.2.2.1,((v34).snd.2.2.2.1,((v34).snd.2.2.2.2.1,((v34).snd.2.2.2.2.2.1,((v34).snd.2.2.2.2.2.2.1,((v34).snd.2.2.2.2.2.2.2.1,((v34).snd.2.2.2.2.2.2.2.2.1,((v34).snd.2.2.2.2.2.2.2.2.2.1,(((v34).snd.2.2.2.2.2.2.2.2.2).snd.1,(((v34).snd.2.2.2.2.2.2.2.2.2).snd.2.1,(((v34).snd.2.2.2.2.2.2.2.2.2).snd.2.2.1,(((v34).snd.2.2.2.2.2.2.2.2.2).snd.2.2.2.1,(((v34).snd.2.2.2.2.2.2.2.2.2).snd.2.2.2.2.1,(((v34).snd.2.2.2.2.2.2.2.2.2).snd.2.2.2.2.2.1,(((v34).snd.2.2.2.2.2.2.2.2.2).snd.2.2.2.2.2.2.1,(((v34).snd.2.2.2.2.2.2.2.2.2).snd.2.2.2.2.2.2.2.1,(((v34).snd.2.2.2.2.2.2.2.2.2).snd.2.2.2.2.2.2.2.2.1,((((v34).snd.2.2.2.2.2.2.2.2.2).snd.2.2.2.2.2.2.2.2).snd.1,((((v34).snd.2.2.2.2.2.2.2.2.2).snd.2.2.2.2.2.2.2.2).snd.2.1,((((v34).snd.2.2.2.2.2.2.2.2.2).snd.2.2.2.2.2.2.2.2).snd.2.2.1,((((v34).snd.2.2.2.2.2.2.2.2.2).snd.2.2.2.2.2.2.2.2).snd.2.2.2.1,())))))))))))))))))))))))))) v33
         else
          none
        else
         none
theorem d3 (X:pz8→Option ((((Bool×Unit)×Unit) ⊕ (Unit×Unit))))(x45:List pz3)(x46:Int)(x47:Int)(h0:List ((Arr pz2 2)×(Bool)))(h1:Bool)(h2:Arr Int 32)(h3:Int)(h4:Int)(h5:Int)(h6:Int)(h7:Int)(h8:Int)(h9:Bool)(h10:Bool)(h11:Arr Int 32)(h12:Int)(h13:Int)(h14:Int)(h15:Int)(h16:Int)(h17:Int)(h18:Bool)(h19:List (Int))(h20:List (Int))(h21:List (Int))(h22:List (Int))(v28:pz3):(tT (tE (tT (tE (tE (tE (tE (tT (tE (apB (tT (af N X x45 x46 x47 h0 h1 h2 h3 h4 h5 h6 h7 h8 h9 h10 h11 h12 h13 h14 h15 h16 h17 h18 h19 h20 h21 h22)) (ae N X x45 x46 x47 h0 h1 h2 h3 h4 h5 h6 h7 h8 h9 h10 h11 h12 h13 h14 h15 h16 h17 h18 h19 h20 h21 h22 ) v28)))))))))).run=b5 N X x45 x46 x47 h0 h1 h2 h3 h4 h5 h6 h7 h8 h9 h10 h11 h12 h13 h14 h15 h16 h17 h18 h19 h20 h21 h22 v28:=by kernel_rfl
noncomputable def bZ (X:pz8→Option ((((Bool×Unit)×Unit) ⊕ (Unit×Unit))))(x45:List pz3)(x46:Int)(x47:Int)(h0:List ((Arr pz2 2)×(Bool)))(h1:Bool)(h2:Arr Int 32)(h3:Int)(h4:Int)(h5:Int)(h6:Int)(h7:Int)(h8:Int)(h9:Bool)(h10:Bool)(h11:Arr Int 32)(h12:Int)(h13:Int)(h14:Int)(h15:Int)(h16:Int)(h17:Int)(h18:Bool)(h19:List (Int))(h20:List (Int))(h21:List (Int))(h22:List (Int))(v28:pz3):Option ((((Bool×Unit)×Unit) ⊕ (Unit×Unit))):=
         ge (ag N v28.2.2.2.1 v28.2.2.2.2.1 v28.2.2.2.2.2.1 h10 h11 h12 h13 h14 h15 h16 h17 h18 h1 h2 h3 h4 h5 h6 h7 h8 h9 h21 h22 h19 h20) fun v29=>
         ge (ab N (1:Int) v28.2.2.2.1 (0:Int) v28.2.2.2.2.1 v28.2.2.2.2.2.1 h0) fun v30=>
         bif (!(decide (v29.1.1=v30.1.1))) then
          some ((.inl ((false,()),())))
         else
          bif (!(decide (v29.1.2.1=v30.1.2.1))) then
           some ((.inl ((false,()),())))
          else
           ge (ac N ((x45,(x46,(x47,(((2:Nat):Int),((0:Int),()))))),(v30.2.1,((v29.2.2.2.2.2.2.2.2.2).snd.1,((v29.2.2.2.2.2.2.2.2.2).snd.2.1,((v29.2.2.2.2.2.2.2.2.2).snd.2.2.1,((v29.2.2.2.2.2.2.2.2.2).snd.2.2.2.1,((v29.2.2.2.2.2.2.2.2.2).snd.2.2.2.2.1,((v29.2.2.2.2.2.2.2.2.2).snd.2.2.2.2.2.1,((v29.2.2.2.2.2.2.2.2.2).snd.2.2.2.2.2.2.1,((v29.2.2.2.2.2.2.2.2.2).snd.2.2.2.2.2.2.2.1,((v29.2.2.2.2.2.2.2.2.2).snd.2.2.2.2.2.2.2.2.1,(v29.2.1,(v29.2.2.1,(v29.2.2.2.1,(v29.2.2.2.2.1,(v29.2.2.2.2.2.1,(v29.2.2.2.2.2.2.1,(v29.2.2.2.2.2.2.2.1,(v29.2.2.2.2.2.2.2.2.1,(v29.2.2.2.2.2.2.2.2.2.1,(((v29.2.2.2.2.2.2.2.2.2).snd.2.2.2.2.2.2.2.2).snd.2.2.1,(((v29.2.2.2.2.2.2.2.2.2).snd.2.2.2.2.2.2.2.2).snd.2.2.2.1,(((v29.2.2.2.2.2.2.2.2.2).snd.2.2.2.2.2.2.2.2).snd.1,(((v29.2.2.2.2.2.2.2.2.2).snd.2.2.2.2.2.2.2.2).snd.2.1,()))))))))))))))))))))))))) fun v31=>
           uJ
            (fun (v32:((Bool×Unit)×Unit))=>
            some ((.inl ((v32.1.1,()),()))))
            (fun (v32:pz5)=>
            (X ((v32.1.1,(v32.1.2.1,((eq .i64 (v32.1.2.2.1+1)),()))),((v32).snd.1,((v32).snd.2.1,((v32).snd.2.2.1,((v32).snd.2.2.2.1,((v32).snd.2.2.2.2.1,((v32).snd.2.2.2.2.2.1,((v32).snd.2.2.2.2.2.2.1,((v32).snd.2.2.2.2.2.2.2.1,((v32).snd.2.2.2.2.2.2.2.2.1,((v32).snd.2.2.2.2.2.2.2.2.2.1,(((v32).snd.2.2.2.2.2.2.2.2.2).snd.1,(((v32).snd.2.2.2.2.2.2.2.2.2).snd.2.1,(((v32).snd.2.2.2.2.2.2.2.2.2).snd.2.2.1,(((v32).snd.2.2.2.2.2.2.2.2.2).snd.2.2.2.1,(((v32).snd.2.2.2.2.2.2.2.2.2).snd.2.2.2.2.1,(((v32).snd.2.2.2.2.2.2.2.2.2).snd.2.2.2.2.2.1,(((v32).snd.2.2.2.2.2.2.2.2.2).snd.2.2.2.2.2.2.1,(((v32).snd.2.2.2.2.2.2.2.2.2).snd.2.2.2.2.2.2.2.1,(((v32).snd.2.2.2.2.2.2.2.2.2).snd.2.2.2.2.2.2.2.2.1,((((v32).snd.2.2.2.2.2.2.2.2.2).snd.2.2.2.2.2.2.2.2).snd.1,((((v32).snd.2.2.2.2.2.2.2.2.2).snd.2.2.2.2.2.2.2.2).snd.2.1,((((v32).snd.2.2.2.2.2.2.2.2.2).snd.2.2.2.2.2.2.2.2).snd.2.2.1,((((v32).snd.2.2.2.2.2.2.2.2.2).snd.2.2.2.2.2.2.2.2).snd.2.2.2.1,())))))))))))))))))))))))))) v31
theorem dZ (X:pz8→Option ((((Bool×Unit)×Unit) ⊕ (Unit×Unit))))(x45:List pz3)(x46:Int)(x47:Int)(h0:List ((Arr pz2 2)×(Bool)))(h1:Bool)(h2:Arr Int 32)(h3:Int)(h4:Int)(h5:Int)(h6:Int)(h7:Int)(h8:Int)(h9:Bool)(h10:Bool)(h11:Arr Int 32)(h12:Int)(h13:Int)(h14:Int)(h15:Int)(h16:Int)(h17:Int)(h18:Bool)(h19:List (Int))(h20:List (Int))(h21:List (Int))(h22:List (Int))(v28:pz3):(tT (tT (tE (tT (tE (tE (tE (tE (tE (tT (tE (apB (tT (af N X x45 x46 x47 h0 h1 h2 h3 h4 h5 h6 h7 h8 h9 h10 h11 h12 h13 h14 h15 h16 h17 h18 h19 h20 h21 h22)) (ae N X x45 x46 x47 h0 h1 h2 h3 h4 h5 h6 h7 h8 h9 h10 h11 h12 h13 h14 h15 h16 h17 h18 h19 h20 h21 h22 ) v28)))))))))))).run=bZ N X x45 x46 x47 h0 h1 h2 h3 h4 h5 h6 h7 h8 h9 h10 h11 h12 h13 h14 h15 h16 h17 h18 h19 h20 h21 h22 v28:=by kernel_rfl
noncomputable def bR (X:pz8→Option ((((Bool×Unit)×Unit) ⊕ (Unit×Unit))))(x45:List pz3)(x46:Int)(x47:Int)(h0:List ((Arr pz2 2)×(Bool)))(h1:Bool)(h2:Arr Int 32)(h3:Int)(h4:Int)(h5:Int)(h6:Int)(h7:Int)(h8:Int)(h9:Bool)(h10:Bool)(h11:Arr Int 32)(h12:Int)(h13:Int)(h14:Int)(h15:Int)(h16:Int)(h17:Int)(h18:Bool)(h19:List (Int))(h20:List (Int))(h21:List (Int))(h22:List (Int))(v28:pz3):Option ((((Bool×Unit)×Unit) ⊕ (Unit×Unit))):=
         ge (aL N h10 h11 h12 h13 h14 h15 h16 h17 h18 h21 h22) fun v29=>
         bif (decide ((0:Int)≤(1:Int)∧(1:Int)<(((gt h0):Nat):Int))) then
          ge (@GetElem?.getElem? (List pz0) Nat pz0 (fun (as30:(List pz0))=>(fun (i31:Nat)=>(@uL Nat @instLTNat i31 (gt as30)))) (@List.instGetElem?NatLtLength pz0) h0 (uH (1:Int))) fun (v30:pz0)=>
          ge (ac N ((x45,(x46,(x47,(((2:Nat):Int),((0:Int),()))))),((@uK pz0 h0 (uH (1:Int)) (v30.1,true)),(h1,(h2,(h3,(h4,(h5,(h6,(h7,(h8,(h9,(v29.2.1,(v29.2.2.1,(v29.2.2.2.1,(v29.2.2.2.2.1,(v29.2.2.2.2.2.1,(v29.2.2.2.2.2.2.1,(v29.2.2.2.2.2.2.2.1,(v29.2.2.2.2.2.2.2.2.1,(v29.2.2.2.2.2.2.2.2.2.1,(h19,(h20,((v29.2.2.2.2.2.2.2.2.2).snd.1,((v29.2.2.2.2.2.2.2.2.2).snd.2.1,()))))))))))))))))))))))))) fun v31=>
          uJ
           (fun (v32:((Bool×Unit)×Unit))=>
           some ((.inl ((v32.1.1,()),()))))
           (fun (v32:pz5)=>
           (X ((v32.1.1,(v32.1.2.1,((eq .i64 (v32.1.2.2.1+1)),()))),((v32).snd.1,((v32).snd.2.1,((v32).snd.2.2.1,((v32).snd.2.2.2.1,((v32).snd.2.2.2.2.1,((v32).snd.2.2.2.2.2.1,((v32).snd.2.2.2.2.2.2.1,((v32).snd.2.2.2.2.2.2.2.1,((v32).snd.2.2.2.2.2.2.2.2.1,((v32).snd.2.2.2.2.2.2.2.2.2.1,(((v32).snd.2.2.2.2.2.2.2.2.2).snd.1,(((v32).snd.2.2.2.2.2.2.2.2.2).snd.2.1,(((v32).snd.2.2.2.2.2.2.2.2.2).snd.2.2.1,(((v32).snd.2.2.2.2.2.2.2.2.2).snd.2.2.2.1,(((v32).snd.2.2.2.2.2.2.2.2.2).snd.2.2.2.2.1,(((v32).snd.2.2.2.2.2.2.2.2.2).snd.2.2.2.2.2.1,(((v32).snd.2.2.2.2.2.2.2.2.2).snd.2.2.2.2.2.2.1,(((v32).snd.2.2.2.2.2.2.2.2.2).snd.2.2.2.2.2.2.2.1,(((v32).snd.2.2.2.2.2.2.2.2.2).snd.2.2.2.2.2.2.2.2.1,((((v32).snd.2.2.2.2.2.2.2.2.2).snd.2.2.2.2.2.2.2.2).snd.1,((((v32).snd.2.2.2.2.2.2.2.2.2).snd.2.2.2.2.2.2.2.2).snd.2.1,((((v32).snd.2.2.2.2.2.2.2.2.2).snd.2.2.2.2.2.2.2.2).snd.2.2.1,((((v32).snd.2.2.2.2.2.2.2.2.2).snd.2.2.2.2.2.2.2.2).snd.2.2.2.1,())))))))))))))))))))))))))) v31
         else
          none
theorem dO (X:pz8→Option ((((Bool×Unit)×Unit) ⊕ (Unit×Unit))))(x45:List pz3)(x46:Int)(x47:Int)(h0:List ((Arr pz2 2)×(Bool)))(h1:Bool)(h2:Arr Int 32)(h3:Int)(h4:Int)(h5:Int)(h6:Int)(h7:Int)(h8:Int)(h9:Bool)(h10:Bool)(h11:Arr Int 32)(h12:Int)(h13:Int)(h14:Int)(h15:Int)(h16:Int)(h17:Int)(h18:Bool)(h19:List (Int))(h20:List (Int))(h21:List (Int))(h22:List (Int))(v28:pz3):(tT (tE (tE (tE (tE (tE (tE (tE (tT (tE (apB (tT (af N X x45 x46 x47 h0 h1 h2 h3 h4 h5 h6 h7 h8 h9 h10 h11 h12 h13 h14 h15 h16 h17 h18 h19 h20 h21 h22)) (ae N X x45 x46 x47 h0 h1 h2 h3 h4 h5 h6 h7 h8 h9 h10 h11 h12 h13 h14 h15 h16 h17 h18 h19 h20 h21 h22 ) v28))))))))))).run=bR N X x45 x46 x47 h0 h1 h2 h3 h4 h5 h6 h7 h8 h9 h10 h11 h12 h13 h14 h15 h16 h17 h18 h19 h20 h21 h22 v28:=by kernel_rfl
noncomputable def bQ (X:pz8→Option ((((Bool×Unit)×Unit) ⊕ (Unit×Unit))))(x45:List pz3)(x46:Int)(x47:Int)(h0:List ((Arr pz2 2)×(Bool)))(h1:Bool)(h2:Arr Int 32)(h3:Int)(h4:Int)(h5:Int)(h6:Int)(h7:Int)(h8:Int)(h9:Bool)(h10:Bool)(h11:Arr Int 32)(h12:Int)(h13:Int)(h14:Int)(h15:Int)(h16:Int)(h17:Int)(h18:Bool)(h19:List (Int))(h20:List (Int))(h21:List (Int))(h22:List (Int))(v28:pz3):Option ((((Bool×Unit)×Unit) ⊕ (Unit×Unit))):=
      ge (ao N v28.2.2.2.1 v28.2.2.2.2.2.2 h1 h2 h3 h4 h5 h6 h7 h8 h9 h19 h20) fun v29=>
      bif (decide ((0:Int)≤(0:Int)∧(0:Int)<(((gt h0):Nat):Int))) then
       ge (@GetElem?.getElem? (List pz0) Nat pz0 (fun (as30:(List pz0))=>(fun (i31:Nat)=>(@uL Nat @instLTNat i31 (gt as30)))) (@List.instGetElem?NatLtLength pz0) h0 (uH (0:Int))) fun (v30:pz0)=>
       ge (aP N v30 v28.2.2.2.1 v28.2.2.2.2.2.2) fun v31=>
       bif (decide ((0:Int)≤(0:Int)∧(0:Int)<(((gt h0):Nat):Int))) then
        ge (@GetElem?.getElem? (List pz0) Nat pz0 (fun (as32:(List pz0))=>(fun (i33:Nat)=>(@uL Nat @instLTNat i33 (gt as32)))) (@List.instGetElem?NatLtLength pz0) h0 (uH (0:Int))) fun (v32:pz0)=>
        bif (!(decide (v29.1.1=v31.2))) then
         some ((.inl ((false,()),())))
        else
         ge (ac N ((x45,(x46,(x47,(((2:Nat):Int),((0:Int),()))))),((@uK pz0 h0 (uH (0:Int)) v31.1),(v29.2.1,(v29.2.2.1,(v29.2.2.2.1,(v29.2.2.2.2.1,(v29.2.2.2.2.2.1,(v29.2.2.2.2.2.2.1,(v29.2.2.2.2.2.2.2.1,(v29.2.2.2.2.2.2.2.2.1,(v29.2.2.2.2.2.2.2.2.2.1,(h10,(h11,(h12,(h13,(h14,(h15,(h16,(h17,(h18,((v29.2.2.2.2.2.2.2.2.2).snd.1,((v29.2.2.2.2.2.2.2.2.2).snd.2.1,(h21,(h22,()))))))))))))))))))))))))) fun v33=>
         uJ
          (fun (v34:((Bool×Unit)×Unit))=>
          some ((.inl ((v34.1.1,()),()))))
          (fun (v34:pz5)=>
          (X ((v34.1.1,(v34.1.2.1,((eq .i64 (v34.1.2.2.1+1)),()))),((v34).snd.1,((v34).snd.2.1,((v34).snd.2.2.1,((v34).snd.2.2.2.1,((v34).snd.2.2.2.2.1,((v34).snd.2.2.2.2.2.1,((v34).snd.2.2.2.2.2.2.1,((v34).snd.2.2.2.2.2.2.2.1,((v34).snd.2.2.2.2.2.2.2.2.1,((v34).snd.2.2.2.2.2.2.2.2.2.1,(((v34).snd.2.2.2.2.2.2.2.2.2).snd.1,(((v34).snd.2.2.2.2.2.2.2.2.2).snd.2.1,(((v34).snd.2.2.2.2.2.2.2.2.2).snd.2.2.1,(((v34).snd.2.2.2.2.2.2.2.2.2).snd.2.2.2.1,(((v34).snd.2.2.2.2.2.2.2.2.2).snd.2.2.2.2.1,(((v34).snd.2.2.2.2.2.2.2.2.2).snd.2.2.2.2.2.1,(((v34).snd.2.2.2.2.2.2.2.2.2).snd.2.2.2.2.2.2.1,(((v34).snd.2.2.2.2.2.2.2.2.2).snd.2.2.2.2.2.2.2.1,(((v34).snd.2.2.2.2.2.2.2.2.2).snd.2.2.2.2.2.2.2.2.1,((((v34).snd.2.2.2.2.2.2.2.2.2).snd.2.2.2.2.2.2.2.2).snd.1,((((v34).snd.2.2.2.2.2.2.2.2.2).snd.2.2.2.2.2.2.2.2).snd.2.1,((((v34).snd.2.2.2.2.2.2.2.2.2).snd.2.2.2.2.2.2.2.2).snd.2.2.1,((((v34).snd.2.2.2.2.2.2.2.2.2).snd.2.2.2.2.2.2.2.2).snd.2.2.2.1,())))))))))))))))))))))))))) v33
       else
        none
      else
       none
theorem dN (X:pz8→Option ((((Bool×Unit)×Unit) ⊕ (Unit×Unit))))(x45:List pz3)(x46:Int)(x47:Int)(h0:List ((Arr pz2 2)×(Bool)))(h1:Bool)(h2:Arr Int 32)(h3:Int)(h4:Int)(h5:Int)(h6:Int)(h7:Int)(h8:Int)(h9:Bool)(h10:Bool)(h11:Arr Int 32)(h12:Int)(h13:Int)(h14:Int)(h15:Int)(h16:Int)(h17:Int)(h18:Bool)(h19:List (Int))(h20:List (Int))(h21:List (Int))(h22:List (Int))(v28:pz3):(tT (tT (tE (tT (tE (tE (apB (tT (af N X x45 x46 x47 h0 h1 h2 h3 h4 h5 h6 h7 h8 h9 h10 h11 h12 h13 h14 h15 h16 h17 h18 h19 h20 h21 h22)) (ae N X x45 x46 x47 h0 h1 h2 h3 h4 h5 h6 h7 h8 h9 h10 h11 h12 h13 h14 h15 h16 h17 h18 h19 h20 h21 h22 ) v28))))))).run=bQ N X x45 x46 x47 h0 h1 h2 h3 h4 h5 h6 h7 h8 h9 h10 h11 h12 h13 h14 h15 h16 h17 h18 h19 h20 h21 h22 v28:=by kernel_rfl
noncomputable def bP (X:pz8→Option ((((Bool×Unit)×Unit) ⊕ (Unit×Unit))))(x45:List pz3)(x46:Int)(x47:Int)(h0:List ((Arr pz2 2)×(Bool)))(h1:Bool)(h2:Arr Int 32)(h3:Int)(h4:Int)(h5:Int)(h6:Int)(h7:Int)(h8:Int)(h9:Bool)(h10:Bool)(h11:Arr Int 32)(h12:Int)(h13:Int)(h14:Int)(h15:Int)(h16:Int)(h17:Int)(h18:Bool)(h19:List (Int))(h20:List (Int))(h21:List (Int))(h22:List (Int))(v28:pz3):Option ((((Bool×Unit)×Unit) ⊕ (Unit×Unit))):=
       ge (ah N v28.2.2.2.1 v28.2.2.2.2.2.1 h1 h2 h3 h4 h5 h6 h7 h8 h9 h19 h20) fun v29=>
       bif (decide ((0:Int)≤(0:Int)∧(0:Int)<(((gt h0):Nat):Int))) then
        ge (@GetElem?.getElem? (List pz0) Nat pz0 (fun (as30:(List pz0))=>(fun (i31:Nat)=>(@uL Nat @instLTNat i31 (gt as30)))) (@List.instGetElem?NatLtLength pz0) h0 (uH (0:Int))) fun (v30:pz0)=>
        ge (aM N v30 v28.2.2.2.1 v28.2.2.2.2.2.1) fun v31=>
        bif (decide ((0:Int)≤(0:Int)∧(0:Int)<(((gt h0):Nat):Int))) then
         ge (@GetElem?.getElem? (List pz0) Nat pz0 (fun (as32:(List pz0))=>(fun (i33:Nat)=>(@uL Nat @instLTNat i33 (gt as32)))) (@List.instGetElem?NatLtLength pz0) h0 (uH (0:Int))) fun (v32:pz0)=>
         ge (aN N v29.1.1 v31.2.1) fun v33=>
         bif (!v33.1.1) then
          some ((.inl ((false,()),())))
         else
          bif (!(decide (v29.1.2.1=v31.2.2))) then
           some ((.inl ((false,()),())))
          else
           ge (ac N ((x45,(x46,(x47,(((2:Nat):Int),((0:Int),()))))),((@uK pz0 h0 (uH (0:Int)) v31.1),(v29.2.1,(v29.2.2.1,(v29.2.2.2.1,(v29.2.2.2.2.1,(v29.2.2.2.2.2.1,(v29.2.2.2.2.2.2.1,(v29.2.2.2.2.2.2.2.1,(v29.2.2.2.2.2.2.2.2.1,(v29.2.2.2.2.2.2.2.2.2.1,(h10,(h11,(h12,(h13,(h14,(h15,(h16,(h17,(h18,((v29.2.2.2.2.2.2.2.2.2).snd.1,((v29.2.2.2.2.2.2.2.2.2).snd.2.1,(h21,(h22,()))))))))))))))))))))))))) fun v34=>
           uJ
            (fun (v35:((Bool×Unit)×Unit))=>
            some ((.inl ((v35.1.1,()),()))))
            (fun (v35:pz5)=>
            (X ((v35.1.1,(v35.1.2.1,((eq .i64 (v35.1.2.2.1+1)),()))),((v35).snd.1,((v35).snd.2.1,((v35).snd.2.2.1,((v35).snd.2.2.2.1,((v35).snd.2.2.2.2.1,((v35).snd.2.2.2.2.2.1,((v35).snd.2.2.2.2.2.2.1,((v35).snd.2.2.2.2.2.2.2.1,((v35).snd.2.2.2.2.2.2.2.2.1,((v35).snd.2.2.2.2.2.2.2.2.2.1,(((v35).snd.2.2.2.2.2.2.2.2.2).snd.1,(((v35).snd.2.2.2.2.2.2.2.2.2).snd.2.1,(((v35).snd.2.2.2.2.2.2.2.2.2).snd.2.2.1,(((v35).snd.2.2.2.2.2.2.2.2.2).snd.2.2.2.1,(((v35).snd.2.2.2.2.2.2.2.2.2).snd.2.2.2.2.1,(((v35).snd.2.2.2.2.2.2.2.2.2).snd.2.2.2.2.2.1,(((v35).snd.2.2.2.2.2.2.2.2.2).snd.2.2.2.2.2.2.1,(((v35).snd.2.2.2.2.2.2.2.2.2).snd.2.2.2.2.2.2.2.1,(((v35).snd.2.2.2.2.2.2.2.2.2).snd.2.2.2.2.2.2.2.2.1,((((v35).snd.2.2.2.2.2.2.2.2.2).snd.2.2.2.2.2.2.2.2).snd.1,((((v35).snd.2.2.2.2.2.2.2.2.2).snd.2.2.2.2.2.2.2.2).snd.2.1,((((v35).snd.2.2.2.2.2.2.2.2.2).snd.2.2.2.2.2.2.2.2).snd.2.2.1,((((v35).snd.2.2.2.2.2.2.2.2.2).snd.2.2.2.2.2.2.2.2).snd.2.2.2.1,())))))))))))))))))))))))))) v34
        else
         none
       else
        none
theorem dM (X:pz8→Option ((((Bool×Unit)×Unit) ⊕ (Unit×Unit))))(x45:List pz3)(x46:Int)(x47:Int)(h0:List ((Arr pz2 2)×(Bool)))(h1:Bool)(h2:Arr Int 32)(h3:Int)(h4:Int)(h5:Int)(h6:Int)(h7:Int)(h8:Int)(h9:Bool)(h10:Bool)(h11:Arr Int 32)(h12:Int)(h13:Int)(h14:Int)(h15:Int)(h16:Int)(h17:Int)(h18:Bool)(h19:List (Int))(h20:List (Int))(h21:List (Int))(h22:List (Int))(v28:pz3):(tT (tT (tE (tE (tT (tE (tE (apB (tT (af N X x45 x46 x47 h0 h1 h2 h3 h4 h5 h6 h7 h8 h9 h10 h11 h12 h13 h14 h15 h16 h17 h18 h19 h20 h21 h22)) (ae N X x45 x46 x47 h0 h1 h2 h3 h4 h5 h6 h7 h8 h9 h10 h11 h12 h13 h14 h15 h16 h17 h18 h19 h20 h21 h22 ) v28)))))))).run=bP N X x45 x46 x47 h0 h1 h2 h3 h4 h5 h6 h7 h8 h9 h10 h11 h12 h13 h14 h15 h16 h17 h18 h19 h20 h21 h22 v28:=by kernel_rfl
noncomputable def bN (X:pz8→Option ((((Bool×Unit)×Unit) ⊕ (Unit×Unit))))(x45:List pz3)(x46:Int)(x47:Int)(h0:List ((Arr pz2 2)×(Bool)))(h1:Bool)(h2:Arr Int 32)(h3:Int)(h4:Int)(h5:Int)(h6:Int)(h7:Int)(h8:Int)(h9:Bool)(h10:Bool)(h11:Arr Int 32)(h12:Int)(h13:Int)(h14:Int)(h15:Int)(h16:Int)(h17:Int)(h18:Bool)(h19:List (Int))(h20:List (Int))(h21:List (Int))(h22:List (Int))(v28:pz3):Option ((((Bool×Unit)×Unit) ⊕ (Unit×Unit))):=
        ge (az N v28.2.2.2.1 v28.2.2.2.2.2.1 h1 h2 h3 h4 h5 h6 h7 h8 h9 h19 h20) fun v29=>
        bif (decide ((0:Int)≤(0:Int)∧(0:Int)<(((gt h0):Nat):Int))) then
         ge (@GetElem?.getElem? (List pz0) Nat pz0 (fun (as30:(List pz0))=>(fun (i31:Nat)=>(@uL Nat @instLTNat i31 (gt as30)))) (@List.instGetElem?NatLtLength pz0) h0 (uH (0:Int))) fun (v30:pz0)=>
         ge (bu N v30 v28.2.2.2.1 v28.2.2.2.2.2.1) fun v31=>
         bif (decide ((0:Int)≤(0:Int)∧(0:Int)<(((gt h0):Nat):Int))) then
          ge (@GetElem?.getElem? (List pz0) Nat pz0 (fun (as32:(List pz0))=>(fun (i33:Nat)=>(@uL Nat @instLTNat i33 (gt as32)))) (@List.instGetElem?NatLtLength pz0) h0 (uH (0:Int))) fun (v32:pz0)=>
          bif (!(decide (v29.1.1=v31.2.1))) then
           some ((.inl ((false,()),())))
          else
           bif (!(decide (v29.1.2.1=v31.2.2))) then
            some ((.inl ((false,()),())))
           else
            ge (ac N ((x45,(x46,(x47,(((2:Nat):Int),((0:Int),()))))),((@uK pz0 h0 (uH (0:Int)) v31.1),(v29.2.1,(v29.2.2.1,(v29.2.2.2.1,(v29.2.2.2.2.1,(v29.2.2.2.2.2.1,(v29.2.2.2.2.2.2.1,(v29.2.2.2.2.2.2.2.1,(v29.2.2.2.2.2.2.2.2.1,(v29.2.2.2.2.2.2.2.2.2.1,(h10,(h11,(h12,(h13,(h14,(h15,(h16,(h17,(h18,((v29.2.2.2.2.2.2.2.2.2).snd.1,((v29.2.2.2.2.2.2.2.2.2).snd.2.1,(h21,(h22,()))))))))))))))))))))))))) fun v33=>
            uJ
             (fun (v34:((Bool×Unit)×Unit))=>
             some ((.inl ((v34.1.1,()),()))))
             (fun (v34:pz5)=>
             (X ((v34.1.1,(v34.1.2.1,((eq .i64 (v34.1.2.2.1+1)),()))),((v34).snd.1,((v34).snd.2.1,((v34).snd.2.2.1,((v34).snd.2.2.2.1,((v34).snd.2.2.2.2.1,((v34).snd.2.2.2.2.2.1,((v34).snd.2.2.2.2.2.2.1,((v34).snd.2.2.2.2.2.2.2.1,((v34).snd.2.2.2.2.2.2.2.2.1,((v34).snd.2.2.2.2.2.2.2.2.2.1,(((v34).snd.2.2.2.2.2.2.2.2.2).snd.1,(((v34).snd.2.2.2.2.2.2.2.2.2).snd.2.1,(((v34).snd.2.2.2.2.2.2.2.2.2).snd.2.2.1,(((v34).snd.2.2.2.2.2.2.2.2.2).snd.2.2.2.1,(((v34).snd.2.2.2.2.2.2.2.2.2).snd.2.2.2.2.1,(((v34).snd.2.2.2.2.2.2.2.2.2).snd.2.2.2.2.2.1,(((v34).snd.2.2.2.2.2.2.2.2.2).snd.2.2.2.2.2.2.1,(((v34).snd.2.2.2.2.2.2.2.2.2).snd.2.2.2.2.2.2.2.1,(((v34).snd.2.2.2.2.2.2.2.2.2).snd.2.2.2.2.2.2.2.2.1,((((v34).snd.2.2.2.2.2.2.2.2.2).snd.2.2.2.2.2.2.2.2).snd.1,((((v34).snd.2.2.2.2.2.2.2.2.2).snd.2.2.2.2.2.2.2.2).snd.2.1,((((v34).snd.2.2.2.2.2.2.2.2.2).snd.2.2.2.2.2.2.2.2).snd.2.2.1,((((v34).snd.2.2.2.2.2.2.2.2.2).snd.2.2.2.2.2.2.2.2).snd.2.2.2.1,())))))))))))))))))))))))))) v33
         else
          none
        else
         none
theorem dL (X:pz8→Option ((((Bool×Unit)×Unit) ⊕ (Unit×Unit))))(x45:List pz3)(x46:Int)(x47:Int)(h0:List ((Arr pz2 2)×(Bool)))(h1:Bool)(h2:Arr Int 32)(h3:Int)(h4:Int)(h5:Int)(h6:Int)(h7:Int)(h8:Int)(h9:Bool)(h10:Bool)(h11:Arr Int 32)(h12:Int)(h13:Int)(h14:Int)(h15:Int)(h16:Int)(h17:Int)(h18:Bool)(h19:List (Int))(h20:List (Int))(h21:List (Int))(h22:List (Int))(v28:pz3):(tT (tT (tE (tE (tE (tT (tE (tE (apB (tT (af N X x45 x46 x47 h0 h1 h2 h3 h4 h5 h6 h7 h8 h9 h10 h11 h12 h13 h14 h15 h16 h17 h18 h19 h20 h21 h22)) (ae N X x45 x46 x47 h0 h1 h2 h3 h4 h5 h6 h7 h8 h9 h10 h11 h12 h13 h14 h15 h16 h17 h18 h19 h20 h21 h22 ) v28))))))))).run=bN N X x45 x46 x47 h0 h1 h2 h3 h4 h5 h6 h7 h8 h9 h10 h11 h12 h13 h14 h15 h16 h17 h18 h19 h20 h21 h22 v28:=by kernel_rfl
noncomputable def bM (X:pz8→Option ((((Bool×Unit)×Unit) ⊕ (Unit×Unit))))(x45:List pz3)(x46:Int)(x47:Int)(h0:List ((Arr pz2 2)×(Bool)))(h1:Bool)(h2:Arr Int 32)(h3:Int)(h4:Int)(h5:Int)(h6:Int)(h7:Int)(h8:Int)(h9:Bool)(h10:Bool)(h11:Arr Int 32)(h12:Int)(h13:Int)(h14:Int)(h15:Int)(h16:Int)(h17:Int)(h18:Bool)(h19:List (Int))(h20:List (Int))(h21:List (Int))(h22:List (Int))(v28:pz3):Option ((((Bool×Unit)×Unit) ⊕ (Unit×Unit))):=
         ge (an N v28.2.2.2.1 v28.2.2.2.2.1 v28.2.2.2.2.2.1 h1 h2 h3 h4 h5 h6 h7 h8 h9 h19 h20) fun v29=>
         ge (ab N (0:Int) v28.2.2.2.1 (0:Int) v28.2.2.2.2.1 v28.2.2.2.2.2.1 h0) fun v30=>
         bif (!(decide (v29.1.1=v30.1.1))) then
          some ((.inl ((false,()),())))
         else
          bif (!(decide (v29.1.2.1=v30.1.2.1))) then
           some ((.inl ((false,()),())))
          else
           ge (ac N ((x45,(x46,(x47,(((2:Nat):Int),((0:Int),()))))),(v30.2.1,(v29.2.1,(v29.2.2.1,(v29.2.2.2.1,(v29.2.2.2.2.1,(v29.2.2.2.2.2.1,(v29.2.2.2.2.2.2.1,(v29.2.2.2.2.2.2.2.1,(v29.2.2.2.2.2.2.2.2.1,(v29.2.2.2.2.2.2.2.2.2.1,(h10,(h11,(h12,(h13,(h14,(h15,(h16,(h17,(h18,((v29.2.2.2.2.2.2.2.2.2).snd.1,((v29.2.2.2.2.2.2.2.2.2).snd.2.1,(h21,(h22,()))))))))))))))))))))))))) fun v31=>
           uJ
            (fun (v32:((Bool×Unit)×Unit))=>
            some ((.inl ((v32.1.1,()),()))))
            (fun (v32:pz5)=>
            (X ((v32.1.1,(v32.1.2.1,((eq .i64 (v32.1.2.2.1+1)),()))),((v32).snd.1,((v32).snd.2.1,((v32).snd.2.2.1,((v32).snd.2.2.2.1,((v32).snd.2.2.2.2.1,((v32).snd.2.2.2.2.2.1,((v32).snd.2.2.2.2.2.2.1,((v32).snd.2.2.2.2.2.2.2.1,((v32).snd.2.2.2.2.2.2.2.2.1,((v32).snd.2.2.2.2.2.2.2.2.2.1,(((v32).snd.2.2.2.2.2.2.2.2.2).snd.1,(((v32).snd.2.2.2.2.2.2.2.2.2).snd.2.1,(((v32).snd.2.2.2.2.2.2.2.2.2).snd.2.2.1,(((v32).snd.2.2.2.2.2.2.2.2.2).snd.2.2.2.1,(((v32).snd.2.2.2.2.2.2.2.2.2).snd.2.2.2.2.1,(((v32).snd.2.2.2.2.2.2.2.2.2).snd.2.2.2.2.2.1,(((v32).snd.2.2.2.2.2.2.2.2.2).snd.2.2.2.2.2.2.1,(((v32).snd.2.2.2.2.2.2.2.2.2).snd.2.2.2.2.2.2.2.1,(((v32).snd.2.2.2.2.2.2.2.2.2).snd.2.2.2.2.2.2.2.2.1,((((v32).snd.2.2.2.2.2.2.2.2.2).snd.2.2.2.2.2.2.2.2).snd.1,((((v32).snd.2.2.2.2.2.2.2.2.2).snd.2.2.2.2.2.2.2.2).snd.2.1,((((v32).snd.2.2.2.2.2.2.2.2.2).snd.2.2.2.2.2.2.2.2).snd.2.2.1,((((v32).snd.2.2.2.2.2.2.2.2.2).snd.2.2.2.2.2.2.2.2).snd.2.2.2.1,())))))))))))))))))))))))))) v31
theorem dK (X:pz8→Option ((((Bool×Unit)×Unit) ⊕ (Unit×Unit))))(x45:List pz3)(x46:Int)(x47:Int)(h0:List ((Arr pz2 2)×(Bool)))(h1:Bool)(h2:Arr Int 32)(h3:Int)(h4:Int)(h5:Int)(h6:Int)(h7:Int)(h8:Int)(h9:Bool)(h10:Bool)(h11:Arr Int 32)(h12:Int)(h13:Int)(h14:Int)(h15:Int)(h16:Int)(h17:Int)(h18:Bool)(h19:List (Int))(h20:List (Int))(h21:List (Int))(h22:List (Int))(v28:pz3):(tT (tT (tT (tE (tE (tE (tE (tT (tE (tE (apB (tT (af N X x45 x46 x47 h0 h1 h2 h3 h4 h5 h6 h7 h8 h9 h10 h11 h12 h13 h14 h15 h16 h17 h18 h19 h20 h21 h22)) (ae N X x45 x46 x47 h0 h1 h2 h3 h4 h5 h6 h7 h8 h9 h10 h11 h12 h13 h14 h15 h16 h17 h18 h19 h20 h21 h22 ) v28))))))))))).run=bM N X x45 x46 x47 h0 h1 h2 h3 h4 h5 h6 h7 h8 h9 h10 h11 h12 h13 h14 h15 h16 h17 h18 h19 h20 h21 h22 v28:=by kernel_rfl
noncomputable def bL (X:pz8→Option ((((Bool×Unit)×Unit) ⊕ (Unit×Unit))))(x45:List pz3)(x46:Int)(x47:Int)(h0:List ((Arr pz2 2)×(Bool)))(h1:Bool)(h2:Arr Int 32)(h3:Int)(h4:Int)(h5:Int)(h6:Int)(h7:Int)(h8:Int)(h9:Bool)(h10:Bool)(h11:Arr Int 32)(h12:Int)(h13:Int)(h14:Int)(h15:Int)(h16:Int)(h17:Int)(h18:Bool)(h19:List (Int))(h20:List (Int))(h21:List (Int))(h22:List (Int))(v28:pz3):Option ((((Bool×Unit)×Unit) ⊕ (Unit×Unit))):=
         ge (aL N h1 h2 h3 h4 h5 h6 h7 h8 h9 h19 h20) fun v29=>
         bif (decide ((0:Int)≤(0:Int)∧(0:Int)<(((gt h0):Nat):Int))) then
          ge (@GetElem?.getElem? (List pz0) Nat pz0 (fun (as30:(List pz0))=>(fun (i31:Nat)=>(@uL Nat @instLTNat i31 (gt as30)))) (@List.instGetElem?NatLtLength pz0) h0 (uH (0:Int))) fun (v30:pz0)=>
          ge (ac N ((x45,(x46,(x47,(((2:Nat):Int),((0:Int),()))))),((@uK pz0 h0 (uH (0:Int)) (v30.1,true)),(v29.2.1,(v29.2.2.1,(v29.2.2.2.1,(v29.2.2.2.2.1,(v29.2.2.2.2.2.1,(v29.2.2.2.2.2.2.1,(v29.2.2.2.2.2.2.2.1,(v29.2.2.2.2.2.2.2.2.1,(v29.2.2.2.2.2.2.2.2.2.1,(h10,(h11,(h12,(h13,(h14,(h15,(h16,(h17,(h18,((v29.2.2.2.2.2.2.2.2.2).snd.1,((v29.2.2.2.2.2.2.2.2.2).snd.2.1,(h21,(h22,()))))))))))))))))))))))))) fun v31=>
          uJ
           (fun (v32:((Bool×Unit)×Unit))=>
           some ((.inl ((v32.1.1,()),()))))
           (fun (v32:pz5)=>
           (X ((v32.1.1,(v32.1.2.1,((eq .i64 (v32.1.2.2.1+1)),()))),((v32).snd.1,((v32).snd.2.1,((v32).snd.2.2.1,((v32).snd.2.2.2.1,((v32).snd.2.2.2.2.1,((v32).snd.2.2.2.2.2.1,((v32).snd.2.2.2.2.2.2.1,((v32).snd.2.2.2.2.2.2.2.1,((v32).snd.2.2.2.2.2.2.2.2.1,((v32).snd.2.2.2.2.2.2.2.2.2.1,(((v32).snd.2.2.2.2.2.2.2.2.2).snd.1,(((v32).snd.2.2.2.2.2.2.2.2.2).snd.2.1,(((v32).snd.2.2.2.2.2.2.2.2.2).snd.2.2.1,(((v32).snd.2.2.2.2.2.2.2.2.2).snd.2.2.2.1,(((v32).snd.2.2.2.2.2.2.2.2.2).snd.2.2.2.2.1,(((v32).snd.2.2.2.2.2.2.2.2.2).snd.2.2.2.2.2.1,(((v32).snd.2.2.2.2.2.2.2.2.2).snd.2.2.2.2.2.2.1,(((v32).snd.2.2.2.2.2.2.2.2.2).snd.2.2.2.2.2.2.2.1,(((v32).snd.2.2.2.2.2.2.2.2.2).snd.2.2.2.2.2.2.2.2.1,((((v32).snd.2.2.2.2.2.2.2.2.2).snd.2.2.2.2.2.2.2.2).snd.1,((((v32).snd.2.2.2.2.2.2.2.2.2).snd.2.2.2.2.2.2.2.2).snd.2.1,((((v32).snd.2.2.2.2.2.2.2.2.2).snd.2.2.2.2.2.2.2.2).snd.2.2.1,((((v32).snd.2.2.2.2.2.2.2.2.2).snd.2.2.2.2.2.2.2.2).snd.2.2.2.1,())))))))))))))))))))))))))) v31
         else
          none
theorem dJ (X:pz8→Option ((((Bool×Unit)×Unit) ⊕ (Unit×Unit))))(x45:List pz3)(x46:Int)(x47:Int)(h0:List ((Arr pz2 2)×(Bool)))(h1:Bool)(h2:Arr Int 32)(h3:Int)(h4:Int)(h5:Int)(h6:Int)(h7:Int)(h8:Int)(h9:Bool)(h10:Bool)(h11:Arr Int 32)(h12:Int)(h13:Int)(h14:Int)(h15:Int)(h16:Int)(h17:Int)(h18:Bool)(h19:List (Int))(h20:List (Int))(h21:List (Int))(h22:List (Int))(v28:pz3):(tT (tE (tE (tE (tE (tE (tT (tE (tE (apB (tT (af N X x45 x46 x47 h0 h1 h2 h3 h4 h5 h6 h7 h8 h9 h10 h11 h12 h13 h14 h15 h16 h17 h18 h19 h20 h21 h22)) (ae N X x45 x46 x47 h0 h1 h2 h3 h4 h5 h6 h7 h8 h9 h10 h11 h12 h13 h14 h15 h16 h17 h18 h19 h20 h21 h22 ) v28)))))))))).run=bL N X x45 x46 x47 h0 h1 h2 h3 h4 h5 h6 h7 h8 h9 h10 h11 h12 h13 h14 h15 h16 h17 h18 h19 h20 h21 h22 v28:=by kernel_rfl
noncomputable def bK (X:pz8→Option ((((Bool×Unit)×Unit) ⊕ (Unit×Unit))))(x45:List pz3)(x46:Int)(x47:Int)(h0:List ((Arr pz2 2)×(Bool)))(h1:Bool)(h2:Arr Int 32)(h3:Int)(h4:Int)(h5:Int)(h6:Int)(h7:Int)(h8:Int)(h9:Bool)(h10:Bool)(h11:Arr Int 32)(h12:Int)(h13:Int)(h14:Int)(h15:Int)(h16:Int)(h17:Int)(h18:Bool)(h19:List (Int))(h20:List (Int))(h21:List (Int))(h22:List (Int))(v28:pz3):Option ((((Bool×Unit)×Unit) ⊕ (Unit×Unit))):=
      ge (ao N v28.2.2.2.1 v28.2.2.2.2.2.2 h1 h2 h3 h4 h5 h6 h7 h8 h9 h19 h20) fun v29=>
      bif (decide ((0:Int)≤(0:Int)∧(0:Int)<(((gt h0):Nat):Int))) then
       ge (@GetElem?.getElem? (List pz0) Nat pz0 (fun (as30:(List pz0))=>(fun (i31:Nat)=>(@uL Nat @instLTNat i31 (gt as30)))) (@List.instGetElem?NatLtLength pz0) h0 (uH (0:Int))) fun (v30:pz0)=>
       ge (aP N v30 v28.2.2.2.1 v28.2.2.2.2.2.2) fun v31=>
       bif (decide ((0:Int)≤(0:Int)∧(0:Int)<(((gt h0):Nat):Int))) then
        ge (@GetElem?.getElem? (List pz0) Nat pz0 (fun (as32:(List pz0))=>(fun (i33:Nat)=>(@uL Nat @instLTNat i33 (gt as32)))) (@List.instGetElem?NatLtLength pz0) h0 (uH (0:Int))) fun (v32:pz0)=>
        bif (!(decide (v29.1.1=v31.2))) then
         some ((.inl ((false,()),())))
        else
         ge (ac N ((x45,(x46,(x47,(((2:Nat):Int),((0:Int),()))))),((@uK pz0 h0 (uH (0:Int)) v31.1),(v29.2.1,(v29.2.2.1,(v29.2.2.2.1,(v29.2.2.2.2.1,(v29.2.2.2.2.2.1,(v29.2.2.2.2.2.2.1,(v29.2.2.2.2.2.2.2.1,(v29.2.2.2.2.2.2.2.2.1,(v29.2.2.2.2.2.2.2.2.2.1,(h10,(h11,(h12,(h13,(h14,(h15,(h16,(h17,(h18,((v29.2.2.2.2.2.2.2.2.2).snd.1,((v29.2.2.2.2.2.2.2.2.2).snd.2.1,(h21,(h22,()))))))))))))))))))))))))) fun v33=>
         uJ
          (fun (v34:((Bool×Unit)×Unit))=>
          some ((.inl ((v34.1.1,()),()))))
          (fun (v34:pz5)=>
          (X ((v34.1.1,(v34.1.2.1,((eq .i64 (v34.1.2.2.1+1)),()))),((v34).snd.1,((v34).snd.2.1,((v34).snd.2.2.1,((v34).snd.2.2.2.1,((v34).snd.2.2.2.2.1,((v34).snd.2.2.2.2.2.1,((v34).snd.2.2.2.2.2.2.1,((v34).snd.2.2.2.2.2.2.2.1,((v34).snd.2.2.2.2.2.2.2.2.1,((v34).snd.2.2.2.2.2.2.2.2.2.1,(((v34).snd.2.2.2.2.2.2.2.2.2).snd.1,(((v34).snd.2.2.2.2.2.2.2.2.2).snd.2.1,(((v34).snd.2.2.2.2.2.2.2.2.2).snd.2.2.1,(((v34).snd.2.2.2.2.2.2.2.2.2).snd.2.2.2.1,(((v34).snd.2.2.2.2.2.2.2.2.2).snd.2.2.2.2.1,(((v34).snd.2.2.2.2.2.2.2.2.2).snd.2.2.2.2.2.1,(((v34).snd.2.2.2.2.2.2.2.2.2).snd.2.2.2.2.2.2.1,(((v34).snd.2.2.2.2.2.2.2.2.2).snd.2.2.2.2.2.2.2.1,(((v34).snd.2.2.2.2.2.2.2.2.2).snd.2.2.2.2.2.2.2.2.1,((((v34).snd.2.2.2.2.2.2.2.2.2).snd.2.2.2.2.2.2.2.2).snd.1,((((v34).snd.2.2.2.2.2.2.2.2.2).snd.2.2.2.2.2.2.2.2).snd.2.1,((((v34).snd.2.2.2.2.2.2.2.2.2).snd.2.2.2.2.2.2.2.2).snd.2.2.1,((((v34).snd.2.2.2.2.2.2.2.2.2).snd.2.2.2.2.2.2.2.2).snd.2.2.2.1,())))))))))))))))))))))))))) v33
       else
        none
      else
       none
theorem dI (X:pz8→Option ((((Bool×Unit)×Unit) ⊕ (Unit×Unit))))(x45:List pz3)(x46:Int)(x47:Int)(h0:List ((Arr pz2 2)×(Bool)))(h1:Bool)(h2:Arr Int 32)(h3:Int)(h4:Int)(h5:Int)(h6:Int)(h7:Int)(h8:Int)(h9:Bool)(h10:Bool)(h11:Arr Int 32)(h12:Int)(h13:Int)(h14:Int)(h15:Int)(h16:Int)(h17:Int)(h18:Bool)(h19:List (Int))(h20:List (Int))(h21:List (Int))(h22:List (Int))(v28:pz3):(tT (tT (tE (tE (tE (tE (apB (tT (af N X x45 x46 x47 h0 h1 h2 h3 h4 h5 h6 h7 h8 h9 h10 h11 h12 h13 h14 h15 h16 h17 h18 h19 h20 h21 h22)) (ae N X x45 x46 x47 h0 h1 h2 h3 h4 h5 h6 h7 h8 h9 h10 h11 h12 h13 h14 h15 h16 h17 h18 h19 h20 h21 h22 ) v28))))))).run=bK N X x45 x46 x47 h0 h1 h2 h3 h4 h5 h6 h7 h8 h9 h10 h11 h12 h13 h14 h15 h16 h17 h18 h19 h20 h21 h22 v28:=by kernel_rfl
noncomputable def bJ (X:pz8→Option ((((Bool×Unit)×Unit) ⊕ (Unit×Unit))))(x45:List pz3)(x46:Int)(x47:Int)(h0:List ((Arr pz2 2)×(Bool)))(h1:Bool)(h2:Arr Int 32)(h3:Int)(h4:Int)(h5:Int)(h6:Int)(h7:Int)(h8:Int)(h9:Bool)(h10:Bool)(h11:Arr Int 32)(h12:Int)(h13:Int)(h14:Int)(h15:Int)(h16:Int)(h17:Int)(h18:Bool)(h19:List (Int))(h20:List (Int))(h21:List (Int))(h22:List (Int))(v28:pz3):Option ((((Bool×Unit)×Unit) ⊕ (Unit×Unit))):=
       ge (ah N v28.2.2.2.1 v28.2.2.2.2.2.1 h1 h2 h3 h4 h5 h6 h7 h8 h9 h19 h20) fun v29=>
       bif (decide ((0:Int)≤(0:Int)∧(0:Int)<(((gt h0):Nat):Int))) then
        ge (@GetElem?.getElem? (List pz0) Nat pz0 (fun (as30:(List pz0))=>(fun (i31:Nat)=>(@uL Nat @instLTNat i31 (gt as30)))) (@List.instGetElem?NatLtLength pz0) h0 (uH (0:Int))) fun (v30:pz0)=>
        ge (aM N v30 v28.2.2.2.1 v28.2.2.2.2.2.1) fun v31=>
        bif (decide ((0:Int)≤(0:Int)∧(0:Int)<(((gt h0):Nat):Int))) then
         ge (@GetElem?.getElem? (List pz0) Nat pz0 (fun (as32:(List pz0))=>(fun (i33:Nat)=>(@uL Nat @instLTNat i33 (gt as32)))) (@List.instGetElem?NatLtLength pz0) h0 (uH (0:Int))) fun (v32:pz0)=>
         ge (aN N v29.1.1 v31.2.1) fun v33=>
         bif (!v33.1.1) then
          some ((.inl ((false,()),())))
         else
          bif (!(decide (v29.1.2.1=v31.2.2))) then
           some ((.inl ((false,()),())))
          else
           ge (ac N ((x45,(x46,(x47,(((2:Nat):Int),((0:Int),()))))),((@uK pz0 h0 (uH (0:Int)) v31.1),(v29.2.1,(v29.2.2.1,(v29.2.2.2.1,(v29.2.2.2.2.1,(v29.2.2.2.2.2.1,(v29.2.2.2.2.2.2.1,(v29.2.2.2.2.2.2.2.1,(v29.2.2.2.2.2.2.2.2.1,(v29.2.2.2.2.2.2.2.2.2.1,(h10,(h11,(h12,(h13,(h14,(h15,(h16,(h17,(h18,((v29.2.2.2.2.2.2.2.2.2).snd.1,((v29.2.2.2.2.2.2.2.2.2).snd.2.1,(h21,(h22,()))))))))))))))))))))))))) fun v34=>
           uJ
            (fun (v35:((Bool×Unit)×Unit))=>
            some ((.inl ((v35.1.1,()),()))))
            (fun (v35:pz5)=>
            (X ((v35.1.1,(v35.1.2.1,((eq .i64 (v35.1.2.2.1+1)),()))),((v35).snd.1,((v35).snd.2.1,((v35).snd.2.2.1,((v35).snd.2.2.2.1,((v35).snd.2.2.2.2.1,((v35).snd.2.2.2.2.2.1,((v35).snd.2.2.2.2.2.2.1,((v35).snd.2.2.2.2.2.2.2.1,((v35).snd.2.2.2.2.2.2.2.2.1,((v35).snd.2.2.2.2.2.2.2.2.2.1,(((v35).snd.2.2.2.2.2.2.2.2.2).snd.1,(((v35).snd.2.2.2.2.2.2.2.2.2).snd.2.1,(((v35).snd.2.2.2.2.2.2.2.2.2).snd.2.2.1,(((v35).snd.2.2.2.2.2.2.2.2.2).snd.2.2.2.1,(((v35).snd.2.2.2.2.2.2.2.2.2).snd.2.2.2.2.1,(((v35).snd.2.2.2.2.2.2.2.2.2).snd.2.2.2.2.2.1,(((v35).snd.2.2.2.2.2.2.2.2.2).snd.2.2.2.2.2.2.1,(((v35).snd.2.2.2.2.2.2.2.2.2).snd.2.2.2.2.2.2.2.1,(((v35).snd.2.2.2.2.2.2.2.2.2).snd.2.2.2.2.2.2.2.2.1,((((v35).snd.2.2.2.2.2.2.2.2.2).snd.2.2.2.2.2.2.2.2).snd.1,((((v35).snd.2.2.2.2.2.2.2.2.2).snd.2.2.2.2.2.2.2.2).snd.2.1,((((v35).snd.2.2.2.2.2.2.2.2.2).snd.2.2.2.2.2.2.2.2).snd.2.2.1,((((v35).snd.2.2.2.2.2.2.2.2.2).snd.2.2.2.2.2.2.2.2).snd.2.2.2.1,())))))))))))))))))))))))))) v34
        else
         none
       else
        none
theorem dH (X:pz8→Option ((((Bool×Unit)×Unit) ⊕ (Unit×Unit))))(x45:List pz3)(x46:Int)(x47:Int)(h0:List ((Arr pz2 2)×(Bool)))(h1:Bool)(h2:Arr Int 32)(h3:Int)(h4:Int)(h5:Int)(h6:Int)(h7:Int)(h8:Int)(h9:Bool)(h10:Bool)(h11:Arr Int 32)(h12:Int)(h13:Int)(h14:Int)(h15:Int)(h16:Int)(h17:Int)(h18:Bool)(h19:List (Int))(h20:List (Int))(h21:List (Int))(h22:List (Int))(v28:pz3):(tT (tT (tE (tE (tE (tE (tE (apB (tT (af N X x45 x46 x47 h0 h1 h2 h3 h4 h5 h6 h7 h8 h9 h10 h11 h12 h13 h14 h15 h16 h17 h18 h19 h20 h21 h22)) (ae N X x45 x46 x47 h0 h1 h2 h3 h4 h5 h6 h7 h8 h9 h10 h11 h12 h13 h14 h15 h16 h17 h18 h19 h20 h21 h22 ) v28)))))))).run=bJ N X x45 x46 x47 h0 h1 h2 h3 h4 h5 h6 h7 h8 h9 h10 h11 h12 h13 h14 h15 h16 h17 h18 h19 h20 h21 h22 v28:=by kernel_rfl
noncomputable def bI (X:pz8→Option ((((Bool×Unit)×Unit) ⊕ (Unit×Unit))))(x45:List pz3)(x46:Int)(x47:Int)(h0:List ((Arr pz2 2)×(Bool)))(h1:Bool)(h2:Arr Int 32)(h3:Int)(h4:Int)(h5:Int)(h6:Int)(h7:Int)(h8:Int)(h9:Bool)(h10:Bool)(h11:Arr Int 32)(h12:Int)(h13:Int)(h14:Int)(h15:Int)(h16:Int)(h17:Int)(h18:Bool)(h19:List (Int))(h20:List (Int))(h21:List (Int))(h22:List (Int))(v28:pz3):Option ((((Bool×Unit)×Unit) ⊕ (Unit×Unit))):=
        ge (az N v28.2.2.2.1 v28.2.2.2.2.2.1 h1 h2 h3 h4 h5 h6 h7 h8 h9 h19 h20) fun v29=>
        bif (decide ((0:Int)≤(0:Int)∧(0:Int)<(((gt h0):Nat):Int))) then
         ge (@GetElem?.getElem? (List pz0) Nat pz0 (fun (as30:(List pz0))=>(fun (i31:Nat)=>(@uL Nat @instLTNat i31 (gt as30)))) (@List.instGetElem?NatLtLength pz0) h0 (uH (0:Int))) fun (v30:pz0)=>
         ge (bu N v30 v28.2.2.2.1 v28.2.2.2.2.2.1) fun v31=>
         bif (decide ((0:Int)≤(0:Int)∧(0:Int)<(((gt h0):Nat):Int))) then
          ge (@GetElem?.getElem? (List pz0) Nat pz0 (fun (as32:(List pz0))=>(fun (i33:Nat)=>(@uL Nat @instLTNat i33 (gt as32)))) (@List.instGetElem?NatLtLength pz0) h0 (uH (0:Int))) fun (v32:pz0)=>
          bif (!(decide (v29.1.1=v31.2.1))) then
           some ((.inl ((false,()),())))
          else
           bif (!(decide (v29.1.2.1=v31.2.2))) then
            some ((.inl ((false,()),())))
           else
            ge (ac N ((x45,(x46,(x47,(((2:Nat):Int),((0:Int),()))))),((@uK pz0 h0 (uH (0:Int)) v31.1),(v29.2.1,(v29.2.2.1,(v29.2.2.2.1,(v29.2.2.2.2.1,(v29.2.2.2.2.2.1,(v29.2.2.2.2.2.2.1,(v29.2.2.2.2.2.2.2.1,(v29.2.2.2.2.2.2.2.2.1,(v29.2.2.2.2.2.2.2.2.2.1,(h10,(h11,(h12,(h13,(h14,(h15,(h16,(h17,(h18,((v29.2.2.2.2.2.2.2.2.2).snd.1,((v29.2.2.2.2.2.2.2.2.2).snd.2.1,(h21,(h22,()))))))))))))))))))))))))) fun v33=>
            uJ
             (fun (v34:((Bool×Unit)×Unit))=>
             some ((.inl ((v34.1.1,()),()))))
             (fun (v34:pz5)=>
             (X ((v34.1.1,(v34.1.2.1,((eq .i64 (v34.1.2.2.1+1)),()))),((v34).snd.1,((v34).snd.2.1,((v34).snd.2.2.1,((v34).snd.2.2.2.1,((v34).snd.2.2.2.2.1,((v34).snd.2.2.2.2.2.1,((v34).snd.2.2.2.2.2.2.1,((v34).snd.2.2.2.2.2.2.2.1,((v34).snd.2.2.2.2.2.2.2.2.1,((v34).snd.2.2.2.2.2.2.2.2.2.1,(((v34).snd.2.2.2.2.2.2.2.2.2).snd.1,(((v34).snd.2.2.2.2.2.2.2.2.2).snd.2.1,(((v34).snd.2.2.2.2.2.2.2.2.2).snd.2.2.1,(((v34).snd.2.2.2.2.2.2.2.2.2).snd.2.2.2.1,(((v34).snd.2.2.2.2.2.2.2.2.2).snd.2.2.2.2.1,(((v34).snd.2.2.2.2.2.2.2.2.2).snd.2.2.2.2.2.1,(((v34).snd.2.2.2.2.2.2.2.2.2).snd.2.2.2.2.2.2.1,(((v34).snd.2.2.2.2.2.2.2.2.2).snd.2.2.2.2.2.2.2.1,(((v34).snd.2.2.2.2.2.2.2.2.2).snd.2.2.2.2.2.2.2.2.1,((((v34).snd.2.2.2.2.2.2.2.2.2).snd.2.2.2.2.2.2.2.2).snd.1,((((v34).snd.2.2.2.2.2.2.2.2.2).snd.2.2.2.2.2.2.2.2).snd.2.1,((((v34).snd.2.2.2.2.2.2.2.2.2).snd.2.2.2.2.2.2.2.2).snd.2.2.1,((((v34).snd.2.2.2.2.2.2.2.2.2).snd.2.2.2.2.2.2.2.2).snd.2.2.2.1,())))))))))))))))))))))))))) v33
         else
          none
        else
         none
theorem dG (X:pz8→Option ((((Bool×Unit)×Unit) ⊕ (Unit×Unit))))(x45:List pz3)(x46:Int)(x47:Int)(h0:List ((Arr pz2 2)×(Bool)))(h1:Bool)(h2:Arr Int 32)(h3:Int)(h4:Int)(h5:Int)(h6:Int)(h7:Int)(h8:Int)(h9:Bool)(h10:Bool)(h11:Arr Int 32)(h12:Int)(h13:Int)(h14:Int)(h15:Int)(h16:Int)(h17:Int)(h18:Bool)(h19:List (Int))(h20:List (Int))(h21:List (Int))(h22:List (Int))(v28:pz3):(tT (tT (tE (tE (tE (tE (tE (tE (apB (tT (af N X x45 x46 x47 h0 h1 h2 h3 h4 h5 h6 h7 h8 h9 h10 h11 h12 h13 h14 h15 h16 h17 h18 h19 h20 h21 h22)) (ae N X x45 x46 x47 h0 h1 h2 h3 h4 h5 h6 h7 h8 h9 h10 h11 h12 h13 h14 h15 h16 h17 h18 h19 h20 h21 h22 ) v28))))))))).run=bI N X x45 x46 x47 h0 h1 h2 h3 h4 h5 h6 h7 h8 h9 h10 h11 h12 h13 h14 h15 h16 h17 h18 h19 h20 h21 h22 v28:=by kernel_rfl
noncomputable def bH (X:pz8→Option ((((Bool×Unit)×Unit) ⊕ (Unit×Unit))))(x45:List pz3)(x46:Int)(x47:Int)(h0:List ((Arr pz2 2)×(Bool)))(h1:Bool)(h2:Arr Int 32)(h3:Int)(h4:Int)(h5:Int)(h6:Int)(h7:Int)(h8:Int)(h9:Bool)(h10:Bool)(h11:Arr Int 32)(h12:Int)(h13:Int)(h14:Int)(h15:Int)(h16:Int)(h17:Int)(h18:Bool)(h19:List (Int))(h20:List (Int))(h21:List (Int))(h22:List (Int))(v28:pz3):Option ((((Bool×Unit)×Unit) ⊕ (Unit×Unit))):=
         ge (ag N v28.2.2.2.1 v28.2.2.2.2.1 v28.2.2.2.2.2.1 h1 h2 h3 h4 h5 h6 h7 h8 h9 h10 h11 h12 h13 h14 h15 h16 h17 h18 h19 h20 h21 h22) fun v29=>
         ge (ab N (0:Int) v28.2.2.2.1 (1:Int) v28.2.2.2.2.1 v28.2.2.2.2.2.1 h0) fun v30=>
         bif (!(decide (v29.1.1=v30.1.1))) then
          some ((.inl ((false,()),())))
         else
          bif (!(decide (v29.1.2.1=v30.1.2.1))) then
           some ((.inl ((false,()),())))
          else
           ge (ac N ((x45,(x46,(x47,(((2:Nat):Int),((0:Int),()))))),(v30.2.1,(v29.2.1,(v29.2.2.1,(v29.2.2.2.1,(v29.2.2.2.2.1,(v29.2.2.2.2.2.1,(v29.2.2.2.2.2.2.1,(v29.2.2.2.2.2.2.2.1,(v29.2.2.2.2.2.2.2.2.1,(v29.2.2.2.2.2.2.2.2.2.1,((v29.2.2.2.2.2.2.2.2.2).snd.1,((v29.2.2.2.2.2.2.2.2.2).snd.2.1,((v29.2.2.2.2.2.2.2.2.2).snd.2.2.1,((v29.2.2.2.2.2.2.2.2.2).snd.2.2.2.1,((v29.2.2.2.2.2.2.2.2.2).snd.2.2.2.2.1,((v29.2.2.2.2.2.2.2.2.2).snd.2.2.2.2.2.1,((v29.2.2.2.2.2.2.2.2.2).snd.2.2.2.2.2.2.1,((v29.2.2.2.2.2.2.2.2.2).snd.2.2.2.2.2.2.2.1,((v29.2.2.2.2.2.2.2.2.2).snd.2.2.2.2.2.2.2.2.1,(((v29.2.2.2.2.2.2.2.2.2).snd.2.2.2.2.2.2.2.2).snd.1,(((v29.2.2.2.2.2.2.2.2.2).snd.2.2.2.2.2.2.2.2).snd.2.1,(((v29.2.2.2.2.2.2.2.2.2).snd.2.2.2.2.2.2.2.2).snd.2.2.1,(((v29.2.2.2.2.2.2.2.2.2).snd.2.2.2.2.2.2.2.2).snd.2.2.2.1,()))))))))))))))))))))))))) fun v31=>
           uJ
            (fun (v32:((Bool×Unit)×Unit))=>
            some ((.inl ((v32.1.1,()),()))))
            (fun (v32:pz5)=>
            (X ((v32.1.1,(v32.1.2.1,((eq .i64 (v32.1.2.2.1+1)),()))),((v32).snd.1,((v32).snd.2.1,((v32).snd.2.2.1,((v32).snd.2.2.2.1,((v32).snd.2.2.2.2.1,((v32).snd.2.2.2.2.2.1,((v32).snd.2.2.2.2.2.2.1,((v32).snd.2.2.2.2.2.2.2.1,((v32).snd.2.2.2.2.2.2.2.2.1,((v32).snd.2.2.2.2.2.2.2.2.2.1,(((v32).snd.2.2.2.2.2.2.2.2.2).snd.1,(((v32).snd.2.2.2.2.2.2.2.2.2).snd.2.1,(((v32).snd.2.2.2.2.2.2.2.2.2).snd.2.2.1,(((v32).snd.2.2.2.2.2.2.2.2.2).snd.2.2.2.1,(((v32).snd.2.2.2.2.2.2.2.2.2).snd.2.2.2.2.1,(((v32).snd.2.2.2.2.2.2.2.2.2).snd.2.2.2.2.2.1,(((v32).snd.2.2.2.2.2.2.2.2.2).snd.2.2.2.2.2.2.1,(((v32).snd.2.2.2.2.2.2.2.2.2).snd.2.2.2.2.2.2.2.1,(((v32).snd.2.2.2.2.2.2.2.2.2).snd.2.2.2.2.2.2.2.2.1,((((v32).snd.2.2.2.2.2.2.2.2.2).snd.2.2.2.2.2.2.2.2).snd.1,((((v32).snd.2.2.2.2.2.2.2.2.2).snd.2.2.2.2.2.2.2.2).snd.2.1,((((v32).snd.2.2.2.2.2.2.2.2.2).snd.2.2.2.2.2.2.2.2).snd.2.2.1,((((v32).snd.2.2.2.2.2.2.2.2.2).snd.2.2.2.2.2.2.2.2).snd.2.2.2.1,())))))))))))))))))))))))))) v31
theorem dF (X:pz8→Option ((((Bool×Unit)×Unit) ⊕ (Unit×Unit))))(x45:List pz3)(x46:Int)(x47:Int)(h0:List ((Arr pz2 2)×(Bool)))(h1:Bool)(h2:Arr Int 32)(h3:Int)(h4:Int)(h5:Int)(h6:Int)(h7:Int)(h8:Int)(h9:Bool)(h10:Bool)(h11:Arr Int 32)(h12:Int)(h13:Int)(h14:Int)(h15:Int)(h16:Int)(h17:Int)(h18:Bool)(h19:List (Int))(h20:List (Int))(h21:List (Int))(h22:List (Int))(v28:pz3):(tT (tE (tT (tT (tE (tE (tE (tE (tE (tE (tE (apB (tT (af N X x45 x46 x47 h0 h1 h2 h3 h4 h5 h6 h7 h8 h9 h10 h11 h12 h13 h14 h15 h16 h17 h18 h19 h20 h21 h22)) (ae N X x45 x46 x47 h0 h1 h2 h3 h4 h5 h6 h7 h8 h9 h10 h11 h12 h13 h14 h15 h16 h17 h18 h19 h20 h21 h22 ) v28)))))))))))).run=bH N X x45 x46 x47 h0 h1 h2 h3 h4 h5 h6 h7 h8 h9 h10 h11 h12 h13 h14 h15 h16 h17 h18 h19 h20 h21 h22 v28:=by kernel_rfl
noncomputable def bG (X:pz8→Option ((((Bool×Unit)×Unit) ⊕ (Unit×Unit))))(x45:List pz3)(x46:Int)(x47:Int)(h0:List ((Arr pz2 2)×(Bool)))(h1:Bool)(h2:Arr Int 32)(h3:Int)(h4:Int)(h5:Int)(h6:Int)(h7:Int)(h8:Int)(h9:Bool)(h10:Bool)(h11:Arr Int 32)(h12:Int)(h13:Int)(h14:Int)(h15:Int)(h16:Int)(h17:Int)(h18:Bool)(h19:List (Int))(h20:List (Int))(h21:List (Int))(h22:List (Int))(v28:pz3):Option ((((Bool×Unit)×Unit) ⊕ (Unit×Unit))):=
         ge (aL N h1 h2 h3 h4 h5 h6 h7 h8 h9 h19 h20) fun v29=>
         bif (decide ((0:Int)≤(0:Int)∧(0:Int)<(((gt h0):Nat):Int))) then
          ge (@GetElem?.getElem? (List pz0) Nat pz0 (fun (as30:(List pz0))=>(fun (i31:Nat)=>(@uL Nat @instLTNat i31 (gt as30)))) (@List.instGetElem?NatLtLength pz0) h0 (uH (0:Int))) fun (v30:pz0)=>
          ge (ac N ((x45,(x46,(x47,(((2:Nat):Int),((0:Int),()))))),((@uK pz0 h0 (uH (0:Int)) (v30.1,true)),(v29.2.1,(v29.2.2.1,(v29.2.2.2.1,(v29.2.2.2.2.1,(v29.2.2.2.2.2.1,(v29.2.2.2.2.2.2.1,(v29.2.2.2.2.2.2.2.1,(v29.2.2.2.2.2.2.2.2.1,(v29.2.2.2.2.2.2.2.2.2.1,(h10,(h11,(h12,(h13,(h14,(h15,(h16,(h17,(h18,((v29.2.2.2.2.2.2.2.2.2).snd.1,((v29.2.2.2.2.2.2.2.2.2).snd.2.1,(h21,(h22,()))))))))))))))))))))))))) fun v31=>
          uJ
           (fun (v32:((Bool×Unit)×Unit))=>
           some ((.inl ((v32.1.1,()),()))))
           (fun (v32:pz5)=>
           (X ((v32.1.1,(v32.1.2.1,((eq .i64 (v32.1.2.2.1+1)),()))),((v32).snd.1,((v32).snd.2.1,((v32).snd.2.2.1,((v32).snd.2.2.2.1,((v32).snd.2.2.2.2.1,((v32).snd.2.2.2.2.2.1,((v32).snd.2.2.2.2.2.2.1,((v32).snd.2.2.2.2.2.2.2.1,((v32).snd.2.2.2.2.2.2.2.2.1,((v32).snd.2.2.2.2.2.2.2.2.2.1,(((v32).snd.2.2.2.2.2.2.2.2.2).snd.1,(((v32).snd.2.2.2.2.2.2.2.2.2).snd.2.1,(((v32).snd.2.2.2.2.2.2.2.2.2).snd.2.2.1,(((v32).snd.2.2.2.2.2.2.2.2.2).snd.2.2.2.1,(((v32).snd.2.2.2.2.2.2.2.2.2).snd.2.2.2.2.1,(((v32).snd.2.2.2.2.2.2.2.2.2).snd.2.2.2.2.2.1,(((v32).snd.2.2.2.2.2.2.2.2.2).snd.2.2.2.2.2.2.1,(((v32).snd.2.2.2.2.2.2.2.2.2).snd.2.2.2.2.2.2.2.1,(((v32).snd.2.2.2.2.2.2.2.2.2).snd.2.2.2.2.2.2.2.2.1,((((v32).snd.2.2.2.2.2.2.2.2.2).snd.2.2.2.2.2.2.2.2).snd.1,((((v32).snd.2.2.2.2.2.2.2.2.2).snd.2.2.2.2.2.2.2.2).snd.2.1,((((v32).snd.2.2.2.2.2.2.2.2.2).snd.2.2.2.2.2.2.2.2).snd.2.2.1,((((v32).snd.2.2.2.2.2.2.2.2.2).snd.2.2.2.2.2.2.2.2).snd.2.2.2.1,())))))))))))))))))))))))))) v31
         else
          none
theorem dE (X:pz8→Option ((((Bool×Unit)×Unit) ⊕ (Unit×Unit))))(x45:List pz3)(x46:Int)(x47:Int)(h0:List ((Arr pz2 2)×(Bool)))(h1:Bool)(h2:Arr Int 32)(h3:Int)(h4:Int)(h5:Int)(h6:Int)(h7:Int)(h8:Int)(h9:Bool)(h10:Bool)(h11:Arr Int 32)(h12:Int)(h13:Int)(h14:Int)(h15:Int)(h16:Int)(h17:Int)(h18:Bool)(h19:List (Int))(h20:List (Int))(h21:List (Int))(h22:List (Int))(v28:pz3):(tT (tE (tE (tE (tE (tE (tE (tE (tE (apB (tT (af N X x45 x46 x47 h0 h1 h2 h3 h4 h5 h6 h7 h8 h9 h10 h11 h12 h13 h14 h15 h16 h17 h18 h19 h20 h21 h22)) (ae N X x45 x46 x47 h0 h1 h2 h3 h4 h5 h6 h7 h8 h9 h10 h11 h12 h13 h14 h15 h16 h17 h18 h19 h20 h21 h22 ) v28)))))))))).run=bG N X x45 x46 x47 h0 h1 h2 h3 h4 h5 h6 h7 h8 h9 h10 h11 h12 h13 h14 h15 h16 h17 h18 h19 h20 h21 h22 v28:=by kernel_rfl
noncomputable def aw (X:pz8→Option ((((Bool×Unit)×Unit) ⊕ (Unit×Unit))))(x45:List pz3)(x46:Int)(x47:Int)(h0:List ((Arr pz2 2)×(Bool)))(h1:Bool)(h2:Arr Int 32)(h3:Int)(h4:Int)(h5:Int)(h6:Int)(h7:Int)(h8:Int)(h9:Bool)(h10:Bool)(h11:Arr Int 32)(h12:Int)(h13:Int)(h14:Int)(h15:Int)(h16:Int)(h17:Int)(h18:Bool)(h19:List (Int))(h20:List (Int))(h21:List (Int))(h22:List (Int)):Option ((((Bool×Unit)×Unit) ⊕ (Unit×Unit))):=
 bif (decide (x47<x46)) then
  ge (getI x45 x47) fun (v28:pz3)=>
  bif (decide ((70000:Int)<(((gt v28.2.2.2.2.2.2):Nat):Int))) then
   some ((.inl (((cond (cond (cond true (cond true (!false) false) false) true false) true false),()),())))
  else
   bif v28.2.1 then
    bif v28.2.2.1 then
     bif (decide ((@uI v28.1 (5:Int))=(0:Int))) then
      cd N X x45 x46 x47 h0 h1 h2 h3 h4 h5 h6 h7 h8 h9 h10 h11 h12 h13 h14 h15 h16 h17 h18 h19 h20 h21 h22 v28
     else
      bif (decide ((@uI v28.1 (5:Int))=(1:Int))) then
       cb N X x45 x46 x47 h0 h1 h2 h3 h4 h5 h6 h7 h8 h9 h10 h11 h12 h13 h14 h15 h16 h17 h18 h19 h20 h21 h22 v28
      else
       bif (decide ((@uI v28.1 (5:Int))=(2:Int))) then
        ca N X x45 x46 x47 h0 h1 h2 h3 h4 h5 h6 h7 h8 h9 h10 h11 h12 h13 h14 h15 h16 h17 h18 h19 h20 h21 h22 v28
       else
        bif (decide ((@uI v28.1 (5:Int))=(3:Int))) then
         b9 N X x45 x46 x47 h0 h1 h2 h3 h4 h5 h6 h7 h8 h9 h10 h11 h12 h13 h14 h15 h16 h17 h18 h19 h20 h21 h22 v28
        else
         b8 N X x45 x46 x47 h0 h1 h2 h3 h4 h5 h6 h7 h8 h9 h10 h11 h12 h13 h14 h15 h16 h17 h18 h19 h20 h21 h22 v28
    else
     bif (decide ((@uI v28.1 (5:Int))=(0:Int))) then
      b7 N X x45 x46 x47 h0 h1 h2 h3 h4 h5 h6 h7 h8 h9 h10 h11 h12 h13 h14 h15 h16 h17 h18 h19 h20 h21 h22 v28
     else
      bif (decide ((@uI v28.1 (5:Int))=(1:Int))) then
       b6 N X x45 x46 x47 h0 h1 h2 h3 h4 h5 h6 h7 h8 h9 h10 h11 h12 h13 h14 h15 h16 h17 h18 h19 h20 h21 h22 v28
      else
       bif (decide ((@uI v28.1 (5:Int))=(2:Int))) then
        b5 N X x45 x46 x47 h0 h1 h2 h3 h4 h5 h6 h7 h8 h9 h10 h11 h12 h13 h14 h15 h16 h17 h18 h19 h20 h21 h22 v28
       else
        bif (decide ((@uI v28.1 (5:Int))=(3:Int))) then
         bZ N X x45 x46 x47 h0 h1 h2 h3 h4 h5 h6 h7 h8 h9 h10 h11 h12 h13 h14 h15 h16 h17 h18 h19 h20 h21 h22 v28
        else
         bR N X x45 x46 x47 h0 h1 h2 h3 h4 h5 h6 h7 h8 h9 h10 h11 h12 h13 h14 h15 h16 h17 h18 h19 h20 h21 h22 v28
   else
    bif v28.2.2.1 then
     bif (decide ((@uI v28.1 (5:Int))=(0:Int))) then
      bQ N X x45 x46 x47 h0 h1 h2 h3 h4 h5 h6 h7 h8 h9 h10 h11 h12 h13 h14 h15 h16 h17 h18 h19 h20 h21 h22 v28
     else
      bif (decide ((@uI v28.1 (5:Int))=(1:Int))) then
       bP N X x45 x46 x47 h0 h1 h2 h3 h4 h5 h6 h7 h8 h9 h10 h11 h12 h13 h14 h15 h16 h17 h18 h19 h20 h21 h22 v28
      else
       bif (decide ((@uI v28.1 (5:Int))=(2:Int))) then
        bN N X x45 x46 x47 h0 h1 h2 h3 h4 h5 h6 h7 h8 h9 h10 h11 h12 h13 h14 h15 h16 h17 h18 h19 h20 h21 h22 v28
       else
        bif (decide ((@uI v28.1 (5:Int))=(3:Int))) then
         bM N X x45 x46 x47 h0 h1 h2 h3 h4 h5 h6 h7 h8 h9 h10 h11 h12 h13 h14 h15 h16 h17 h18 h19 h20 h21 h22 v28
        else
         bL N X x45 x46 x47 h0 h1 h2 h3 h4 h5 h6 h7 h8 h9 h10 h11 h12 h13 h14 h15 h16 h17 h18 h19 h20 h21 h22 v28
    else
     bif (decide ((@uI v28.1 (5:Int))=(0:Int))) then
      bK N X x45 x46 x47 h0 h1 h2 h3 h4 h5 h6 h7 h8 h9 h10 h11 h12 h13 h14 h15 h16 h17 h18 h19 h20 h21 h22 v28
     else
      bif (decide ((@uI v28.1 (5:Int))=(1:Int))) then
       bJ N X x45 x46 x47 h0 h1 h2 h3 h4 h5 h6 h7 h8 h9 h10 h11 h12 h13 h14 h15 h16 h17 h18 h19 h20 h21 h22 v28
      else
       bif (decide ((@uI v28.1 (5:Int))=(2:Int))) then
        bI N X x45 x46 x47 h0 h1 h2 h3 h4 h5 h6 h7 h8 h9 h10 h11 h12 h13 h14 h15 h16 h17 h18 h19 h20 h21 h22 v28
       else
        bif (decide ((@uI v28.1 (5:Int))=(3:Int))) then
         bH N X x45 x46 x47 h0 h1 h2 h3 h4 h5 h6 h7 h8 h9 h10 h11 h12 h13 h14 h15 h16 h17 h18 h19 h20 h21 h22 v28
        else
         bG N X x45 x46 x47 h0 h1 h2 h3 h4 h5 h6 h7 h8 h9 h10 h11 h12 h13 h14 h15 h16 h17 h18 h19 h20 h21 h22 v28
 else
  some ((.inr ((),())))
noncomputable def cV (c:pz8):Option ((((Bool×Unit)×Unit) ⊕ (Unit×Unit))):=gl (fun X c=>aw N X c.1.1 c.1.2.1 c.1.2.2.1 c.2.1 c.2.2.1 c.2.2.2.1 c.2.2.2.2.1 c.2.2.2.2.2.1 c.2.2.2.2.2.2.1 c.2.2.2.2.2.2.2.1 c.2.2.2.2.2.2.2.2.1 c.2.2.2.2.2.2.2.2.2.1 c.2.2.2.2.2.2.2.2.2.2.1 c.2.2.2.2.2.2.2.2.2.2.2.1 c.2.2.2.2.2.2.2.2.2.2.2.2.1 c.2.2.2.2.2.2.2.2.2.2.2.2.2.1 c.2.2.2.2.2.2.2.2.2.2.2.2.2.2.1 c.2.2.2.2.2.2.2.2.2.2.2.2.2.2.2.1 c.2.2.2.2.2.2.2.2.2.2.2.2.2.2.2.2.1 c.2.2.2.2.2.2.2.2.2.2.2.2.2.2.2.2.2.1 c.2.2.2.2.2.2.2.2.2.2.2.2.2.2.2.2.2.2.1 c.2.2.2.2.2.2.2.2.2.2.2.2.2.2.2.2.2.2.2.1 c.2.2.2.2.2.2.2.2.2.2.2.2.2.2.2.2.2.2.2.2.1 c.2.2.2.2.2.2.2.2.2.2.2.2.2.2.2.2.2.2.2.2.2.1 c.2.2.2.2.2.2.2.2.2.2.2.2.2.2.2.2.2.2.2.2.2.2.1 c.2.2.2.2.2.2.2.2.2.2.2.2.2.2.2.2.2.2.2.2.2.2.2.1) N c
theorem fh (X:pz8→Option ((((Bool×Unit)×Unit) ⊕ (Unit×Unit))))(x45:List pz3)(x46:Int)(x47:Int)(h0:List ((Arr pz2 2)×(Bool)))(h1:Bool)(h2:Arr Int 32)(h3:Int)(h4:Int)(h5:Int)(h6:Int)(h7:Int)(h8:Int)(h9:Bool)(h10:Bool)(h11:Arr Int 32)(h12:Int)(h13:Int)(h14:Int)(h15:Int)(h16:Int)(h17:Int)(h18:Bool)(h19:List (Int))(h20:List (Int))(h21:List (Int))(h22:List (Int)):(af N X x45 x46 x47 h0 h1 h2 h3 h4 h5 h6 h7 h8 h9 h10 h11 h12 h13 h14 h15 h16 h17 h18 h19 h20 h21 h22).run=aw N X x45 x46 x47 h0 h1 h2 h3 h4 h5 h6 h7 h8 h9 h10 h11 h12 h13 h14 h15 h16 h17 h18 h19 h20 h21 h22:=by
 unfold aw
 exact (nI (by kernel_rfl) (by kernel_rfl) (nB (ae N X x45 x46 x47 h0 h1 h2 h3 h4 h5 h6 h7 h8 h9 h10 h11 h12 h13 h14 h15 h16 h17 h18 h19 h20 h21 h22 ) (by kernel_rfl) (by kernel_rfl) fun v28=>(nI (by kernel_rfl) (by kernel_rfl) (by kernel_rfl) (nI (by kernel_rfl) (by kernel_rfl) (nI (by kernel_rfl) (by kernel_rfl) (nE (by kernel_rfl) (by kernel_rfl) (nI (by kernel_rfl) (by kernel_rfl) (nE (by kernel_rfl) (by kernel_rfl) (nT (by kernel_rfl) (by kernel_rfl) (ea N X x45 x46 x47 h0 h1 h2 h3 h4 h5 h6 h7 h8 h9 h10 h11 h12 h13 h14 h15 h16 h17 h18 h19 h20 h21 h22 v28))) (nI (by kernel_rfl) (by kernel_rfl) (nE (by kernel_rfl) (by kernel_rfl) (nT (by kernel_rfl) (by kernel_rfl) (d9 N X x45 x46 x47 h0 h1 h2 h3 h4 h5 h6 h7 h8 h9 h10 h11 h12 h13 h14 h15 h16 h17 h18 h19 h20 h21 h22 v28))) (nI (by kernel_rfl) (by kernel_rfl) (nE (by kernel_rfl) (by kernel_rfl) (nT (by kernel_rfl) (by kernel_rfl) (d8 N X x45 x46 x47 h0 h1 h2 h3 h4 h5 h6 h7 h8 h9 h10 h11 h12 h13 h14 h15 h16 h17 h18 h19 h20 h21 h22 v28))) (nI (by kernel_rfl) (by kernel_rfl) (nE (by kernel_rfl) (by kernel_rfl) (nT (by kernel_rfl) (by kernel_rfl) (nE (by kernel_rfl) (by kernel_rfl) (nT (by kernel_rfl) (by kernel_rfl) (d7 N X x45 x46 x47 h0 h1 h2 h3 h4 h5 h6 h7 h8 h9 h10 h11 h12 h13 h14 h15 h16 h17 h18 h19 h20 h21 h22 v28))))) (nE (by kernel_rfl) (by kernel_rfl) (nT (by kernel_rfl) (by kernel_rfl) (d6 N X x45 x46 x47 h0 h1 h2 h3 h4 h5 h6 h7 h8 h9 h10 h11 h12 h13 h14 h15 h16 h17 h18 h19 h20 h21 h22 v28)))))))) (nE (by kernel_rfl) (by kernel_rfl) (nI (by kernel_rfl) (by kernel_rfl) (nE (by kernel_rfl) (by kernel_rfl) (nT (by kernel_rfl) (by kernel_rfl) (d5 N X x45 x46 x47 h0 h1 h2 h3 h4 h5 h6 h7 h8 h9 h10 h11 h12 h13 h14 h15 h16 h17 h18 h19 h20 h21 h22 v28))) (nI (by kernel_rfl) (by kernel_rfl) (nE (by kernel_rfl) (by kernel_rfl) (nT (by kernel_rfl) (by kernel_rfl) (d4 N X x45 x46 x47 h0 h1 h2 h3 h4 h5 h6 h7 h8 h9 h10 h11 h12 h13 h14 h15 h16 h17 h18 h19 h20 h21 h22 v28))) (nI (by kernel_rfl) (by kernel_rfl) (nE (by kernel_rfl) (by kernel_rfl) (nT (by kernel_rfl) (by kernel_rfl) (d3 N X x45 x46 x47 h0 h1 h2 h3 h4 h5 h6 h7 h8 h9 h10 h11 h12 h13 h14 h15 h16 h17 h18 h19 h20 h21 h22 v28))) (nI (by kernel_rfl) (by kernel_rfl) (nE (by kernel_rfl) (by kernel_rfl) (nT (by kernel_rfl) (by kernel_rfl) (nT (by kernel_rfl) (by kernel_rfl) (dZ N X x45 x46 x47 h0 h1 h2 h3 h4 h5 h6 h7 h8 h9 h10 h11 h12 h13 h14 h15 h16 h17 h18 h19 h20 h21 h22 v28)))) (nE (by kernel_rfl) (by kernel_rfl) (nT (by kernel_rfl) (by kernel_rfl) (dO N X x45 x46 x47 h0 h1 h2 h3 h4 h5 h6 h7 h8 h9 h10 h11 h12 h13 h14 h15 h16 h17 h18 h19 h20 h21 h22 v28))))))))) (nI (by kernel_rfl) (by kernel_rfl) (nE (by kernel_rfl) (by kernel_rfl) (nI (by kernel_rfl) (by kernel_rfl) (nT (by kernel_rfl) (by kernel_rfl) (dN N X x45 x46 x47 h0 h1 h2 h3 h4 h5 h6 h7 h8 h9 h10 h11 h12 h13 h14 h15 h16 h17 h18 h19 h20 h21 h22 v28)) (nI (by kernel_rfl) (by kernel_rfl) (nT (by kernel_rfl) (by kernel_rfl) (dM N X x45 x46 x47 h0 h1 h2 h3 h4 h5 h6 h7 h8 h9 h10 h11 h12 h13 h14 h15 h16 h17 h18 h19 h20 h21 h22 v28)) (nI (by kernel_rfl) (by kernel_rfl) (nT (by kernel_rfl) (by kernel_rfl) (dL N X x45 x46 x47 h0 h1 h2 h3 h4 h5 h6 h7 h8 h9 h10 h11 h12 h13 h14 h15 h16 h17 h18 h19 h20 h21 h22 v28)) (nI (by kernel_rfl) (by kernel_rfl) (nT (by kernel_rfl) (by kernel_rfl) (nT (by kernel_rfl) (by kernel_rfl) (dK N X x45 x46 x47 h0 h1 h2 h3 h4 h5 h6 h7 h8 h9 h10 h11 h12 h13 h14 h15 h16 h17 h18 h19 h20 h21 h22 v28))) (nT (by kernel_rfl) (by kernel_rfl) (dJ N X x45 x46 x47 h0 h1 h2 h3 h4 h5 h6 h7 h8 h9 h10 h11 h12 h13 h14 h15 h16 h17 h18 h19 h20 h21 h22 v28))))))) (nE (by kernel_rfl) (by kernel_rfl) (nI (by kernel_rfl) (by kernel_rfl) (nT (by kernel_rfl) (by kernel_rfl) (dI N X x45 x46 x47 h0 h1 h2 h3 h4 h5 h6 h7 h8 h9 h10 h11 h12 h13 h14 h15 h16 h17 h18 h19 h20 h21 h22 v28)) (nI (by kernel_rfl) (by kernel_rfl) (nT (by kernel_rfl) (by kernel_rfl) (dH N X x45 x46 x47 h0 h1 h2 h3 h4 h5 h6 h7 h8 h9 h10 h11 h12 h13 h14 h15 h16 h17 h18 h19 h20 h21 h22 v28)) (nI (by kernel_rfl) (by kernel_rfl) (nT (by kernel_rfl) (by kernel_rfl) (dG N X x45 x46 x47 h0 h1 h2 h3 h4 h5 h6 h7 h8 h9 h10 h11 h12 h13 h14 h15 h16 h17 h18 h19 h20 h21 h22 v28)) (nI (by kernel_rfl) (by kernel_rfl) (nT (by kernel_rfl) (by kernel_rfl) (nE (by kernel_rfl) (by kernel_rfl) (nT (by kernel_rfl) (by kernel_rfl) (dF N X x45 x46 x47 h0 h1 h2 h3 h4 h5 h6 h7 h8 h9 h10 h11 h12 h13 h14 h15 h16 h17 h18 h19 h20 h21 h22 v28)))) (nT (by kernel_rfl) (by kernel_rfl) (dE N X x45 x46 x47 h0 h1 h2 h3 h4 h5 h6 h7 h8 h9 h10 h11 h12 h13 h14 h15 h16 h17 h18 h19 h20 h21 h22 v28))))))))))) (by kernel_rfl))
theorem fi (X:pz8→Option ((((Bool×Unit)×Unit) ⊕ (Unit×Unit))))(x45:List pz3)(x46:Int)(x47:Int)(h0:List ((Arr pz2 2)×(Bool)))(h1:Bool)(h2:Arr Int 32)(h3:Int)(h4:Int)(h5:Int)(h6:Int)(h7:Int)(h8:Int)(h9:Bool)(h10:Bool)(h11:Arr Int 32)(h12:Int)(h13:Int)(h14:Int)(h15:Int)(h16:Int)(h17:Int)(h18:Bool)(h19:List (Int))(h20:List (Int))(h21:List (Int))(h22:List (Int)):(gQ Try.prog (Ev35 N) 400 [3] bh (eg Try.prog [3] 4) X ((x45,x46,x47,()),(h0,h1,h2,h3,h4,h5,h6,h7,h8,h9,h10,h11,h12,h13,h14,h15,h16,h17,h18,h19,h20,h21,h22,()))).run=aw N X x45 x46 x47 h0 h1 h2 h3 h4 h5 h6 h7 h8 h9 h10 h11 h12 h13 h14 h15 h16 h17 h18 h19 h20 h21 h22:=fh N X x45 x46 x47 h0 h1 h2 h3 h4 h5 h6 h7 h8 h9 h10 h11 h12 h13 h14 h15 h16 h17 h18 h19 h20 h21 h22
noncomputable def Ev36:(R:Type)→Env R:=Env.addLp (Ev35 N) [3] 0 4 (fun R=>lpK Try.prog bh (fun X c=>aw N X c.1.1 c.1.2.1 c.1.2.2.1 c.2.1 c.2.2.1 c.2.2.2.1 c.2.2.2.2.1 c.2.2.2.2.2.1 c.2.2.2.2.2.2.1 c.2.2.2.2.2.2.2.1 c.2.2.2.2.2.2.2.2.1 c.2.2.2.2.2.2.2.2.2.1 c.2.2.2.2.2.2.2.2.2.2.1 c.2.2.2.2.2.2.2.2.2.2.2.1 c.2.2.2.2.2.2.2.2.2.2.2.2.1 c.2.2.2.2.2.2.2.2.2.2.2.2.2.1 c.2.2.2.2.2.2.2.2.2.2.2.2.2.2.1 c.2.2.2.2.2.2.2.2.2.2.2.2.2.2.2.1 c.2.2.2.2.2.2.2.2.2.2.2.2.2.2.2.2.1 c.2.2.2.2.2.2.2.2.2.2.2.2.2.2.2.2.2.1 c.2.2.2.2.2.2.2.2.2.2.2.2.2.2.2.2.2.2.1 c.2.2.2.2.2.2.2.2.2.2.2.2.2.2.2.2.2.2.2.1 c.2.2.2.2.2.2.2.2.2.2.2.2.2.2.2.2.2.2.2.2.1 c.2.2.2.2.2.2.2.2.2.2.2.2.2.2.2.2.2.2.2.2.2.1 c.2.2.2.2.2.2.2.2.2.2.2.2.2.2.2.2.2.2.2.2.2.2.1 c.2.2.2.2.2.2.2.2.2.2.2.2.2.2.2.2.2.2.2.2.2.2.2.1) N)
theorem tJ (R:Type):EnvOK Try.prog (Ev36 N R):=EnvOK.addLp (qm N R) (by kernel_rfl) (kU (li:=bh) hmx (qm N _) (by kernel_rfl) dD (fun X c=>fi N X c.1.1 c.1.2.1 c.1.2.2.1 c.2.1 c.2.2.1 c.2.2.2.1 c.2.2.2.2.1 c.2.2.2.2.2.1 c.2.2.2.2.2.2.1 c.2.2.2.2.2.2.2.1 c.2.2.2.2.2.2.2.2.1 c.2.2.2.2.2.2.2.2.2.1 c.2.2.2.2.2.2.2.2.2.2.1 c.2.2.2.2.2.2.2.2.2.2.2.1 c.2.2.2.2.2.2.2.2.2.2.2.2.1 c.2.2.2.2.2.2.2.2.2.2.2.2.2.1 c.2.2.2.2.2.2.2.2.2.2.2.2.2.2.1 c.2.2.2.2.2.2.2.2.2.2.2.2.2.2.2.1 c.2.2.2.2.2.2.2.2.2.2.2.2.2.2.2.2.1 c.2.2.2.2.2.2.2.2.2.2.2.2.2.2.2.2.2.1 c.2.2.2.2.2.2.2.2.2.2.2.2.2.2.2.2.2.2.1 c.2.2.2.2.2.2.2.2.2.2.2.2.2.2.2.2.2.2.2.1 c.2.2.2.2.2.2.2.2.2.2.2.2.2.2.2.2.2.2.2.2.1 c.2.2.2.2.2.2.2.2.2.2.2.2.2.2.2.2.2.2.2.2.2.1 c.2.2.2.2.2.2.2.2.2.2.2.2.2.2.2.2.2.2.2.2.2.2.1 c.2.2.2.2.2.2.2.2.2.2.2.2.2.2.2.2.2.2.2.2.2.2.2.1) N)
noncomputable def cG (l0:List pz3):Option Bool:=
 ge (cy N (@Arr.cons Int 31 1 zc31)) fun v2=>
 ge (cy N (@Arr.cons Int 31 2 zc31)) fun v3=>
 ge (cN l0 (@minI (((gt l0):Nat):Int) (40:Int))) fun (v4:(List pz3))=>
 ge (cV N ((v4,((((gt v4):Nat):Int),((0:Int),()))),(([((@Arr.cons pz2 (1:Nat) (([]:List Int),((0:Int),((0:Int),(0:Int)))) (@Arr.cons pz2 (0:Nat) (([]:List Int),((0:Int),((0:Int),(0:Int)))) (@Arr.nil pz2))),false),((@Arr.cons pz2 (1:Nat) (([]:List Int),((0:Int),((0:Int),(0:Int)))) (@Arr.cons pz2 (0:Nat) (([]:List Int),((0:Int),((0:Int),(0:Int)))) (@Arr.nil pz2))),false)]:List (pz0)),(v2.2.1,(v2.2.2.1,(v2.2.2.2.1,(v2.2.2.2.2.1,(v2.2.2.2.2.2.1,(v2.2.2.2.2.2.2.1,(v2.2.2.2.2.2.2.2.1,(v2.2.2.2.2.2.2.2.2.1,(v2.2.2.2.2.2.2.2.2.2.1,(v3.2.1,(v3.2.2.1,(v3.2.2.2.1,(v3.2.2.2.2.1,(v3.2.2.2.2.2.1,(v3.2.2.2.2.2.2.1,(v3.2.2.2.2.2.2.2.1,(v3.2.2.2.2.2.2.2.2.1,(v3.2.2.2.2.2.2.2.2.2.1,((v2.2.2.2.2.2.2.2.2.2).snd.1,((v2.2.2.2.2.2.2.2.2.2).snd.2.1,((v3.2.2.2.2.2.2.2.2.2).snd.1,((v3.2.2.2.2.2.2.2.2.2).snd.2.1,()))))))))))))))))))))))))) fun v5=>
 uJ
  (fun (v6:((Bool×Unit)×Unit))=>
  some (v6.1.1))
  (fun (v6:(Unit×Unit))=>
  some ((cond (cond (cond true (cond true (!false) false) false) true false) true false))) v5
theorem gB (l0:List pz3):(runK Try.prog (Ev36 N) 400 3 [qz1] [.bool] (l0,())).run=cG N l0:=by kernel_rfl
theorem gC (l0:List pz3)(y:Bool)(h:cG N l0=some y):jc Try.prog 3 (valA [qz1] (l0,())) (tupV (valR [.bool] y)):=oN hmx (tJ N _) (gA (by kernel_rfl)) (by rw [gB];exact h)
end
end Go.Proofs.Ytmndainldhmnjaa
namespace Go.Proofs.Ytmndainldhmnjaa
set_option maxRecDepth 100000
open Go.RowKit
set_option linter.unusedVariables false
set_option linter.unusedSimpArgs false
set_option maxRecDepth 100000
abbrev Ox:Type:=((Bool×Unit)×Unit) ⊕ (Unit×Unit)
abbrev Cx:Type:=(List Sx×(Int×(Int×Unit)))×(List Rc×(Bool×(Arr Int 32×(Int×(Int×(Int×(Int×(Int×(Int×(Bool×(Bool×(Arr Int 32×(Int×(Int×(Int×(Int×(Int×(Int×(Bool×(List Int×(List Int×(List Int×(List Int×Unit)))))))))))))))))))))))
theorem dee {a:Int}:(!(decide (a=a)))=false:=by rw [decide_eq_true rfl];rfl
theorem bd0:(0:Int)≤(0:Int)∧(0:Int)<((2:Nat):Int):=by omega
theorem bd1:(0:Int)≤(1:Int)∧(1:Int)<((2:Nat):Int):=by omega
theorem tV (X:Cx→Option Ox)(x45:List Sx)(x46 x47:Int)(hx hy:Arr Int 32)(K J:Kx)(hk:okK K)(hj:okK J)(v:Sx)(hlt:x47<x46)(hg:getI x45 x47=some v):
  aw 200000 X x45 x46 x47 [rc K,rc J] true hx K.p0 K.t0 K.l0 K.p1 K.t1 K.l1 K.s true hy J.p0 J.t0 J.l0 J.p1 J.t1 J.l1 J.s K.b0 K.b1 J.b0 J.b1=some (.inl ((true,()),()))∨∃ K' J',okK K'∧okK J'∧aw 200000 X x45 x46 x47 [rc K,rc J] true hx K.p0 K.t0 K.l0 K.p1 K.t1 K.l1 K.s true hy J.p0 J.t0 J.l0 J.p1 J.t1 J.l1 J.s K.b0 K.b1 J.b0 J.b1=X ((x45,(x46,(eq .i64 (x47+1),()))),([rc K',rc J'],kd2 hx hy K' J')):=by
 obtain ⟨k,second,both,w,other,n,d⟩:=v
 unfold aw
 by_cases l1:(70000:Int)<(d.length:Int)
 ·left
  exact (bpos hlt).trans ((bnd hg).trans ((bpos l1).trans rfl))
 right
 have hd:d.length≤70000:=by omega
 cases second with
 | false=>
  cases both with
  | false=>
   by_cases k0:uI k 5=0
   ·obtain ⟨e,Z,z1,z2,z3⟩:=jR hx K hk w d hd
    refine ⟨Z,J,z3,hj, ?_⟩
    refine (bpos hlt).trans ((bnd hg).trans ((bneg l1).trans ?_))
    dsimp only [cond_true,cond_false]
    refine (bpos k0).trans ?_
    unfold bK
    exact (bnd z1).trans ((bpos bd0).trans ((bnd (v:=rc K) rfl).trans ((bnd z2).trans ((bpos bd0).trans ((bnd (v:=rc K) rfl).trans ((bvn dee).trans ((bnd (dT hx hy Z J z3 hj x45 x46 x47)).trans rfl)))))))
   ·by_cases k1:uI k 5=1
    ·obtain ⟨c,e,Z,z1,z2,z3,z4⟩:=g8 hx K hk w n
     refine ⟨Z,J,z3,hj, ?_⟩
     refine (bpos hlt).trans ((bnd hg).trans ((bneg l1).trans ?_))
     dsimp only [cond_true,cond_false]
     refine (bneg k0).trans ((bpos k1).trans ?_)
     unfold bJ
     exact (bnd z1).trans ((bpos bd0).trans ((bnd (v:=rc K) rfl).trans ((bnd z2).trans ((bpos bd0).trans ((bnd (v:=rc K) rfl).trans ((bnd (dp c z4)).trans ((bvn rfl).trans ((bvn dee).trans ((bnd (dT hx hy Z J z3 hj x45 x46 x47)).trans rfl)))))))))
    ·by_cases k2:uI k 5=2
     ·obtain ⟨c,e,Z,z1,z2,z3⟩:=hI hx K hk w n
      refine ⟨Z,J,z3,hj, ?_⟩
      refine (bpos hlt).trans ((bnd hg).trans ((bneg l1).trans ?_))
      dsimp only [cond_true,cond_false]
      refine (bneg k0).trans ((bneg k1).trans ((bpos k2).trans ?_))
      unfold bI
      exact (bnd z1).trans ((bpos bd0).trans ((bnd (v:=rc K) rfl).trans ((bnd z2).trans ((bpos bd0).trans ((bnd (v:=rc K) rfl).trans ((bvn dee).trans ((bvn dee).trans ((bnd (dT hx hy Z J z3 hj x45 x46 x47)).trans rfl))))))))
     ·by_cases k3:uI k 5=3
      ·obtain ⟨c,e,Z,Y,z1,z2,_,z3,z4⟩:=oV hx hy K J hk hj w other n
       refine ⟨Z,Y,z3,z4, ?_⟩
       refine (bpos hlt).trans ((bnd hg).trans ((bneg l1).trans ?_))
       dsimp only [cond_true,cond_false]
       refine (bneg k0).trans ((bneg k1).trans ((bneg k2).trans ((bpos k3).trans ?_)))
       unfold bH
       exact (bnd z1).trans ((bnd z2).trans ((bvn dee).trans ((bvn dee).trans ((bnd (dT hx hy Z Y z3 z4 x45 x46 x47)).trans rfl))))
      ·refine ⟨{ K with s:=true },J,hk,hj, ?_⟩
       refine (bpos hlt).trans ((bnd hg).trans ((bneg l1).trans ?_))
       dsimp only [cond_true,cond_false]
       refine (bneg k0).trans ((bneg k1).trans ((bneg k2).trans ((bneg k3).trans ?_)))
       unfold bG
       exact (bnd (g9 hx K)).trans ((bpos bd0).trans ((bnd (v:=rc K) rfl).trans ((bnd (dT hx hy { K with s:=true } J hk hj x45 x46 x47)).trans rfl)))
  | true=>
   by_cases k0:uI k 5=0
   ·obtain ⟨e,Z,z1,z2,z3⟩:=jR hx K hk w d hd
    refine ⟨Z,J,z3,hj, ?_⟩
    refine (bpos hlt).trans ((bnd hg).trans ((bneg l1).trans ?_))
    dsimp only [cond_true,cond_false]
    refine (bpos k0).trans ?_
    unfold bQ
    exact (bnd z1).trans ((bpos bd0).trans ((bnd (v:=rc K) rfl).trans ((bnd z2).trans ((bpos bd0).trans ((bnd (v:=rc K) rfl).trans ((bvn dee).trans ((bnd (dT hx hy Z J z3 hj x45 x46 x47)).trans rfl)))))))
   ·by_cases k1:uI k 5=1
    ·obtain ⟨c,e,Z,z1,z2,z3,z4⟩:=g8 hx K hk w n
     refine ⟨Z,J,z3,hj, ?_⟩
     refine (bpos hlt).trans ((bnd hg).trans ((bneg l1).trans ?_))
     dsimp only [cond_true,cond_false]
     refine (bneg k0).trans ((bpos k1).trans ?_)
     unfold bP
     exact (bnd z1).trans ((bpos bd0).trans ((bnd (v:=rc K) rfl).trans ((bnd z2).trans ((bpos bd0).trans ((bnd (v:=rc K) rfl).trans ((bnd (dp c z4)).trans ((bvn rfl).trans ((bvn dee).trans ((bnd (dT hx hy Z J z3 hj x45 x46 x47)).trans rfl)))))))))
    ·by_cases k2:uI k 5=2
     ·obtain ⟨c,e,Z,z1,z2,z3⟩:=hI hx K hk w n
      refine ⟨Z,J,z3,hj, ?_⟩
      refine (bpos hlt).trans ((bnd hg).trans ((bneg l1).trans ?_))
      dsimp only [cond_true,cond_false]
      refine (bneg k0).trans ((bneg k1).trans ((bpos k2).trans ?_))
      unfold bN
      exact (bnd z1).trans ((bpos bd0).trans ((bnd (v:=rc K) rfl).trans ((bnd z2).trans ((bpos bd0).trans ((bnd (v:=rc K) rfl).trans ((bvn dee).trans ((bvn dee).trans ((bnd (dT hx hy Z J z3 hj x45 x46 x47)).trans rfl))))))))
     ·by_cases k3:uI k 5=3
      ·obtain ⟨c,e,Z,z1,z2,z3⟩:=oU hx K hk w other n
       refine ⟨Z,J,z3,hj, ?_⟩
       refine (bpos hlt).trans ((bnd hg).trans ((bneg l1).trans ?_))
       dsimp only [cond_true,cond_false]
       refine (bneg k0).trans ((bneg k1).trans ((bneg k2).trans ((bpos k3).trans ?_)))
       unfold bM
       exact (bnd z1).trans ((bnd (z2 (rc J)).1).trans ((bvn dee).trans ((bvn dee).trans ((bnd (dT hx hy Z J z3 hj x45 x46 x47)).trans rfl))))
      ·refine ⟨{ K with s:=true },J,hk,hj, ?_⟩
       refine (bpos hlt).trans ((bnd hg).trans ((bneg l1).trans ?_))
       dsimp only [cond_true,cond_false]
       refine (bneg k0).trans ((bneg k1).trans ((bneg k2).trans ((bneg k3).trans ?_)))
       unfold bL
       exact (bnd (g9 hx K)).trans ((bpos bd0).trans ((bnd (v:=rc K) rfl).trans ((bnd (dT hx hy { K with s:=true } J hk hj x45 x46 x47)).trans rfl)))
 | true=>
  cases both with
  | false=>
   by_cases k0:uI k 5=0
   ·obtain ⟨e,Z,z1,z2,z3⟩:=jR hy J hj w d hd
    refine ⟨K,Z,hk,z3, ?_⟩
    refine (bpos hlt).trans ((bnd hg).trans ((bneg l1).trans ?_))
    dsimp only [cond_true,cond_false]
    refine (bpos k0).trans ?_
    unfold b7
    exact (bnd z1).trans ((bpos bd1).trans ((bnd (v:=rc J) rfl).trans ((bnd z2).trans ((bpos bd1).trans ((bnd (v:=rc J) rfl).trans ((bvn dee).trans ((bnd (dT hx hy K Z hk z3 x45 x46 x47)).trans rfl)))))))
   ·by_cases k1:uI k 5=1
    ·obtain ⟨c,e,Z,z1,z2,z3,z4⟩:=g8 hy J hj w n
     refine ⟨K,Z,hk,z3, ?_⟩
     refine (bpos hlt).trans ((bnd hg).trans ((bneg l1).trans ?_))
     dsimp only [cond_true,cond_false]
     refine (bneg k0).trans ((bpos k1).trans ?_)
     unfold b6
     exact (bnd z1).trans ((bpos bd1).trans ((bnd (v:=rc J) rfl).trans ((bnd z2).trans ((bpos bd1).trans ((bnd (v:=rc J) rfl).trans ((bnd (dp c z4)).trans ((bvn rfl).trans ((bvn dee).trans ((bnd (dT hx hy K Z hk z3 x45 x46 x47)).trans rfl)))))))))
    ·by_cases k2:uI k 5=2
     ·obtain ⟨c,e,Z,z1,z2,z3⟩:=hI hy J hj w n
      refine ⟨K,Z,hk,z3, ?_⟩
      refine (bpos hlt).trans ((bnd hg).trans ((bneg l1).trans ?_))
      dsimp only [cond_true,cond_false]
      refine (bneg k0).trans ((bneg k1).trans ((bpos k2).trans ?_))
      unfold b5
      exact (bnd z1).trans ((bpos bd1).trans ((bnd (v:=rc J) rfl).trans ((bnd z2).trans ((bpos bd1).trans ((bnd (v:=rc J) rfl).trans ((bvn dee).trans ((bvn dee).trans ((bnd (dT hx hy K Z hk z3 x45 x46 x47)).trans rfl))))))))
     ·by_cases k3:uI k 5=3
      ·obtain ⟨c,e,Z,Y,z1,_,z2,z3,z4⟩:=oV hy hx J K hj hk w other n
       refine ⟨Y,Z,z4,z3, ?_⟩
       refine (bpos hlt).trans ((bnd hg).trans ((bneg l1).trans ?_))
       dsimp only [cond_true,cond_false]
       refine (bneg k0).trans ((bneg k1).trans ((bneg k2).trans ((bpos k3).trans ?_)))
       unfold bZ
       exact (bnd z1).trans ((bnd z2).trans ((bvn dee).trans ((bvn dee).trans ((bnd (dT hx hy Y Z z4 z3 x45 x46 x47)).trans rfl))))
      ·refine ⟨K,{ J with s:=true },hk,hj, ?_⟩
       refine (bpos hlt).trans ((bnd hg).trans ((bneg l1).trans ?_))
       dsimp only [cond_true,cond_false]
       refine (bneg k0).trans ((bneg k1).trans ((bneg k2).trans ((bneg k3).trans ?_)))
       unfold bR
       exact (bnd (g9 hy J)).trans ((bpos bd1).trans ((bnd (v:=rc J) rfl).trans ((bnd (dT hx hy K { J with s:=true } hk hj x45 x46 x47)).trans rfl)))
  | true=>
   by_cases k0:uI k 5=0
   ·obtain ⟨e,Z,z1,z2,z3⟩:=jR hy J hj w d hd
    refine ⟨K,Z,hk,z3, ?_⟩
    refine (bpos hlt).trans ((bnd hg).trans ((bneg l1).trans ?_))
    dsimp only [cond_true,cond_false]
    refine (bpos k0).trans ?_
    unfold cd
    exact (bnd z1).trans ((bpos bd1).trans ((bnd (v:=rc J) rfl).trans ((bnd z2).trans ((bpos bd1).trans ((bnd (v:=rc J) rfl).trans ((bvn dee).trans ((bnd (dT hx hy K Z hk z3 x45 x46 x47)).trans rfl)))))))
   ·by_cases k1:uI k 5=1
    ·obtain ⟨c,e,Z,z1,z2,z3,z4⟩:=g8 hy J hj w n
     refine ⟨K,Z,hk,z3, ?_⟩
     refine (bpos hlt).trans ((bnd hg).trans ((bneg l1).trans ?_))
     dsimp only [cond_true,cond_false]
     refine (bneg k0).trans ((bpos k1).trans ?_)
     unfold cb
     exact (bnd z1).trans ((bpos bd1).trans ((bnd (v:=rc J) rfl).trans ((bnd z2).trans ((bpos bd1).trans ((bnd (v:=rc J) rfl).trans ((bnd (dp c z4)).trans ((bvn rfl).trans ((bvn dee).trans ((bnd (dT hx hy K Z hk z3 x45 x46 x47)).trans rfl)))))))))
    ·by_cases k2:uI k 5=2
     ·obtain ⟨c,e,Z,z1,z2,z3⟩:=hI hy J hj w n
      refine ⟨K,Z,hk,z3, ?_⟩
      refine (bpos hlt).trans ((bnd hg).trans ((bneg l1).trans ?_))
      dsimp only [cond_true,cond_false]
      refine (bneg k0).trans ((bneg k1).trans ((bpos k2).trans ?_))
      unfold ca
      exact (bnd z1).trans ((bpos bd1).trans ((bnd (v:=rc J) rfl).trans ((bnd z2).trans ((bpos bd1).trans ((bnd (v:=rc J) rfl).trans ((bvn dee).trans ((bvn dee).trans ((bnd (dT hx hy K Z hk z3 x45 x46 x47)).trans rfl))))))))
     ·by_cases k3:uI k 5=3
      ·obtain ⟨c,e,Z,z1,z2,z3⟩:=oU hy J hj w other n
       refine ⟨K,Z,hk,z3, ?_⟩
       refine (bpos hlt).trans ((bnd hg).trans ((bneg l1).trans ?_))
       dsimp only [cond_true,cond_false]
       refine (bneg k0).trans ((bneg k1).trans ((bneg k2).trans ((bpos k3).trans ?_)))
       unfold b9
       exact (bnd z1).trans ((bnd (z2 (rc K)).2).trans ((bvn dee).trans ((bvn dee).trans ((bnd (dT hx hy K Z hk z3 x45 x46 x47)).trans rfl))))
      ·refine ⟨K,{ J with s:=true },hk,hj, ?_⟩
       refine (bpos hlt).trans ((bnd hg).trans ((bneg l1).trans ?_))
       dsimp only [cond_true,cond_false]
       refine (bneg k0).trans ((bneg k1).trans ((bneg k2).trans ((bneg k3).trans ?_)))
       unfold b8
       exact (bnd (g9 hy J)).trans ((bpos bd1).trans ((bnd (v:=rc J) rfl).trans ((bnd (dT hx hy K { J with s:=true } hk hj x45 x46 x47)).trans rfl)))
noncomputable def G4:(Cx→Option Ox)→Cx→Option Ox:=fun X c=>aw 200000 X c.1.1 c.1.2.1 c.1.2.2.1 c.2.1 c.2.2.1 c.2.2.2.1 c.2.2.2.2.1 c.2.2.2.2.2.1 c.2.2.2.2.2.2.1 c.2.2.2.2.2.2.2.1 c.2.2.2.2.2.2.2.2.1 c.2.2.2.2.2.2.2.2.2.1 c.2.2.2.2.2.2.2.2.2.2.1 c.2.2.2.2.2.2.2.2.2.2.2.1 c.2.2.2.2.2.2.2.2.2.2.2.2.1 c.2.2.2.2.2.2.2.2.2.2.2.2.2.1 c.2.2.2.2.2.2.2.2.2.2.2.2.2.2.1 c.2.2.2.2.2.2.2.2.2.2.2.2.2.2.2.1 c.2.2.2.2.2.2.2.2.2.2.2.2.2.2.2.2.1 c.2.2.2.2.2.2.2.2.2.2.2.2.2.2.2.2.2.1 c.2.2.2.2.2.2.2.2.2.2.2.2.2.2.2.2.2.2.1 c.2.2.2.2.2.2.2.2.2.2.2.2.2.2.2.2.2.2.2.1 c.2.2.2.2.2.2.2.2.2.2.2.2.2.2.2.2.2.2.2.2.1 c.2.2.2.2.2.2.2.2.2.2.2.2.2.2.2.2.2.2.2.2.2.1 c.2.2.2.2.2.2.2.2.2.2.2.2.2.2.2.2.2.2.2.2.2.2.1 c.2.2.2.2.2.2.2.2.2.2.2.2.2.2.2.2.2.2.2.2.2.2.2.1
theorem uE (hx hy:Arr Int 32)(l:List Sx)(hl:l.length≤1000)(n:Nat):∀ (k i:Nat) (K J:Kx),i+n=l.length→n<k→okK K→okK J→
  ∃ o:Ox,gl G4 k ((l,((l.length:Int),((i:Int),()))),([rc K,rc J],kd2 hx hy K J))=some o∧(o= .inl ((true,()),())∨o= .inr ((),())):=by
 induction n with
 | zero=>
  intro k i K J hi hk _ _
  obtain ⟨k,rfl⟩:∃ k',k=k'+1:=⟨k-1,by omega⟩
  refine ⟨.inr ((),()), ?_,.inr rfl⟩
  rw [gD]
  show aw 200000 (gl G4 k) l (l.length:Int) (i:Int) [rc K,rc J] true hx K.p0 K.t0 K.l0 K.p1 K.t1 K.l1 K.s true hy J.p0 J.t0 J.l0 J.p1 J.t1 J.l1 J.s K.b0 K.b1 J.b0 J.b1=_
  unfold aw
  exact (bneg (by omega)).trans rfl
 | succ n ih=>
  intro k i K J hi hk okk okj
  obtain ⟨k,rfl⟩:∃ k',k=k'+1:=⟨k-1,by omega⟩
  have hlt:i<l.length:=by omega
  have w:eq .i64 ((i:Int)+1)=((i+1:Nat):Int):=by rw [aQ (by omega) (by omega)];omega
  rw [gD]
  show ∃ o:Ox,aw 200000 (gl G4 k) l (l.length:Int) (i:Int) [rc K,rc J] true hx K.p0 K.t0 K.l0 K.p1 K.t1 K.l1 K.s true hy J.p0 J.t0 J.l0 J.p1 J.t1 J.l1 J.s K.b0 K.b1 J.b0 J.b1=some o∧_
  rcases tV (gl G4 k) l (l.length:Int) (i:Int) hx hy K J okk okj l[i] (by omega) (pp l i hlt) with h | ⟨K',J',h1,h2,h3⟩
  ·exact ⟨_,h,.inl rfl⟩
  ·obtain ⟨o,o1,o2⟩:=ih k (i+1) K' J' (by omega) (by omega) h1 h2
   rw [w] at h3
   exact ⟨o,h3.trans o1,o2⟩
def K0:Kx:=⟨0,0,0,0,0,0,false,[],[]⟩
def A1:Arr Int 32:=⟨1::List.replicate 31 0,rfl⟩
def A2:Arr Int 32:=⟨2::List.replicate 31 0,rfl⟩
theorem jZ (steps:List Sx)(w1:wfT (.sl (.pair (.int .u8) (.pair .bool (.pair .bool (.pair (.int .i64) (.pair (.int .i64) (.pair (.int .i64) (.sl (.int .u8))))))))) steps):cG 200000 steps=some true:=by
 have hmi:minI (steps.length:Int) 40=((min steps.length 40:Nat):Int):=mini steps.length 40
 have ht:cN steps (minI (((steps.length:Nat)):Int) (40:Int))=some (steps.take (min steps.length 40)):=by rw [hmi];exact cB steps rfl (by omega)
 have hle:(steps.take (min steps.length 40)).length≤1000:=by rw [ne];omega
 obtain ⟨o,o1,o2⟩:=uE A1 A2 (steps.take (min steps.length 40)) hle (steps.take (min steps.length 40)).length 200000 0 K0 K0 (by omega) (by omega) ⟨Nat.zero_le _,Nat.zero_le _⟩ ⟨Nat.zero_le _,Nat.zero_le _⟩
 have o1':cV 200000 ((steps.take (min steps.length 40),(((steps.take (min steps.length 40)).length:Int),((0:Int),()))),([rc K0,rc K0],kd2 A1 A2 K0 K0))=some o:=o1
 unfold cG
 refine (bnd rfl).trans ((bnd rfl).trans ((bnd ht).trans ((bnd o1').trans ?_)))
 rcases o2 with rfl | rfl
 ·rfl
 ·rfl
end Go.Proofs.Ytmndainldhmnjaa
