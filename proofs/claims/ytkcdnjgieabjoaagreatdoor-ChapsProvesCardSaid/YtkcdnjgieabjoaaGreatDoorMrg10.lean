/-
  Parts of my own, one behind the other: QCD1, QCD2, QCD3, QCD4, QCD5, QCD6, QCD7, QCp0, QCa0, QCa1, QCa2, QCa3, QCa4, QCa5, QCs0, QCs1, QCs2, QCs3, QCs4, QCs5, QCM6, QCU0, QCU1, QCU2, QCU3.
-/
import Derived.Test.YtkcdnjgieabjoaaGreatDoorMrg4
import Derived.Test.YtkcdnjgieabjoaaGreatDoorMrg9
namespace Go.Proofs.YtkcdnjgieabjoaaGreatDoor.De
set_option maxRecDepth 100000
open Go.RowKit
set_option linter.unusedVariables false
set_option linter.unusedSimpArgs false
set_option maxRecDepth 100000
variable {N:Nat}
theorem aqi (a:Nat)(k:Nat):Int.fdiv (a:Int) ((2:Int) ^ k)=((a / 2 ^ k:Nat):Int):=by
 rw [Int.fdiv_eq_ediv_of_nonneg _ (Int.pow_nonneg (by decide))]
 have:((2:Int) ^ k)=((2 ^ k:Nat):Int):=by simp
 rw [this];rfl
theorem aJW (l:List Bool)(i:Int)(h1:1≤i)(h2:i≤(l.length:Int))(hl:l.length≤64):ak6 N (toW l:Int) (l.length:Int) i=some (((l.getD (i.toNat-1) false).toNat:Nat):Int):=by
 obtain ⟨k,rfl⟩:∃ k:Nat,i=k:=⟨i.toNat,by omega⟩
 have c1:decide ((1:Int)≤(l.length:Int))=true:=decide_eq_true (by omega)
 have c2:decide ((l.length:Int)≤64)=true:=decide_eq_true (by omega)
 have c3:decide ((k:Int)<1)=false:=decide_eq_false (by omega)
 have c4:decide ((l.length:Int)<(k:Int))=false:=decide_eq_false (by omega)
 have hw:IntKind.wrap .i64 ((l.length:Int)-(k:Int))=((l.length-k:Nat):Int):=by rw [aab (by omega) (by omega)];omega
 have c5:decide ((0:Int)≤((l.length-k:Nat):Int))=true:=decide_eq_true (by omega)
 have hm:min ((l.length-k:Nat):Int).toNat (IntKind.bits .u64)=l.length-k:=by
  show min _ 64=_
  rw [Int.toNat_natCast];omega
 have hb:=acn l
 have hp:2 ^ l.length≤2 ^ 64:=Nat.pow_le_pow_right (by decide) hl
 have hd:toW l / 2 ^ (l.length-k)<18446744073709551616:=Nat.lt_of_le_of_lt (Nat.div_le_self _ _) (by omega)
 have e:bits .and .u64 (((toW l / 2 ^ (l.length-k):Nat)):Int) 1=(((l.getD (k-1) false).toNat:Nat):Int):=by
  rw [show (1:Int)=((1:Nat):Int) from rfl,q64_and _ _ hd (by decide),Nat.and_one_is_mod,aEI l k (by omega) (by omega)]
 simp only [ak6,agv,c1,c2,c3,c4,hw,c5,hm,aqi,cond_true,cond_false,Option.bind_some,Bool.not_true]
 rw [e,Int.toNat_natCast]
theorem auA (t:List Int)(l:List Bool)(i:Nat)(h:i<t.length):byM (t.take (i+1)) l=byM (t.take i) l++[l.getD (t[i].toNat-1) false]:=by
 unfold byM
 rw [←List.take_append_getElem h,List.map_append]
 rfl
theorem aex (l:List Bool)(t:List Int)(hl:l.length≤64)(h1:1≤l.length)(ht:apn l.length t)(hn:t.length≤64)(hN:100≤N):aaC N (toW l:Int) (l.length:Int) t=some ((toW (byM t l):Nat):Int):=by
 have c1:decide ((1:Int)≤(l.length:Int))=true:=decide_eq_true (by omega)
 have c2:decide ((l.length:Int)≤64)=true:=decide_eq_true (by omega)
 have c3:decide ((64:Int)<(t.length:Int))=false:=decide_eq_false (by omega)
 have e1:aeD N (((toW l:Int),((l.length:Int),(t,(t,((t.length:Int),((0:Int),())))))),())=some (.inr (((toW l:Int),((l.length:Int),(t,()))),())):=by
  unfold aeD
  refine abu (fun i=>(((toW l:Int),((l.length:Int),(t,(t,((t.length:Int),((i:Int),())))))),())) t.length _ (fun X i hi=> ?_) (fun X=> ?_) N 0 (Nat.zero_le _) (by omega)
  ·have d1:decide ((i:Int)<(t.length:Int))=true:=decide_eq_true (by omega)
   have hi2:=ht t[i] (List.getElem_mem hi)
   have d2:decide (t[i]<(1:Int))=false:=decide_eq_false (by omega)
   have d3:decide ((l.length:Int)<t[i])=false:=decide_eq_false (by omega)
   simp only [ac0,d1,d2,d3,cond_true,cond_false,aaG t i hi,Option.bind_some,aab (show -9223372036854775808≤(i:Int)+1 by omega) (show (i:Int)+1<9223372036854775808 by omega),Int.natCast_add,Int.natCast_one]
  ·have d1:decide ((t.length:Int)<(t.length:Int))=false:=decide_eq_false (by omega)
   simp only [ac0,d1,cond_false]
 have e2:abf N (((toW l:Int),((l.length:Int),(t,((t.length:Int),((0:Int),()))))),((0:Int),()))=some ((),((toW (byM t l):Int),())):=by
  unfold abf
  have:=abu (G:=fun X c=>aaB N X c.1.1 c.1.2.1 c.1.2.2.1 c.1.2.2.2.1 c.1.2.2.2.2.1 c.2.1) (fun i=>(((toW l:Int),((l.length:Int),(t,((t.length:Int),((i:Int),()))))),((toW (byM (t.take i) l):Int),()))) t.length ((),((toW (byM t l):Int),())) (fun X i hi=> ?_) (fun X=> ?_) N 0 (Nat.zero_le _) (by omega)
  ·exact this
  ·have d1:decide ((i:Int)<(t.length:Int))=true:=decide_eq_true (by omega)
   have hi2:=ht t[i] (List.getElem_mem hi)
   have hb:=aJW (N:=N) l t[i] hi2.1 hi2.2 hl
   have hor:=ajw (byM (t.take i) l) [l.getD (t[i].toNat-1) false] (by rw [aeC,List.length_take];simp;omega)
   rw [ayv] at hor
   have hpw:(2:Int) ^ (min (Int.toNat (1:Int)) (IntKind.bits .u64))=((2 ^ [l.getD (t[i].toNat-1) false].length:Nat):Int):=rfl
   simp only [aaB,d1,cond_true,aaG t i hi,Option.bind_some,hb,aab (show -9223372036854775808≤(i:Int)+1 by omega) (show (i:Int)+1<9223372036854775808 by omega),Int.natCast_add,Int.natCast_one]
   rw [hpw,hor,auA t l i hi]
  ·have d1:decide ((t.length:Int)<(t.length:Int))=false:=decide_eq_false (by omega)
   simp only [aaB,d1,cond_false,List.take_length]
 simp only [aaC,agw,agv,c1,c2,c3,cond_true,cond_false,Option.bind_some,Bool.not_true]
 rw [e1]
 simp only [Option.bind_some,Sum.elim_inr]
 rw [e2]
 rfl
theorem aue (l:List Bool)(k:Nat)(hk:k≤l.length)(hl:l.length≤64):bits .and .u64 (toW l:Int) (((2 ^ k-1:Nat)):Int)=((toW (l.drop (l.length-k)):Nat):Int):=by
 have hb:=acn l
 have hp:2 ^ l.length≤2 ^ 64:=Nat.pow_le_pow_right (by decide) hl
 have hp2:2 ^ k≤2 ^ 64:=Nat.pow_le_pow_right (by decide) (by omega)
 have hp3:0<2 ^ k:=Nat.two_pow_pos k
 rw [q64_and _ _ (by omega) (by omega),Nat.and_two_pow_sub_one_eq_mod]
 have:=apj l (l.length-k) (by omega)
 rw [show l.length-(l.length-k)=k by omega] at this
 rw [this]
def rot (n:Nat)(c:List Bool):List Bool:=c.drop n++c.take n
theorem aEU (n:Nat)(c:List Bool):(rot n c).length=c.length:=by simp [rot];omega
def amt (i:Nat):Nat:=if i=1∨i=2∨i=9∨i=16 then 1 else 2
theorem asq (x:Int)(i:Nat)(h1:1≤i)(h2:i≤16)(hN:100≤N):af9 N ((x,((i:Int),((2:Int),((⟨[1,2,9,16],rfl⟩:Arr Int 4),((0:Int),()))))),())=some ((x,((amt i:Int),())),()):=by
 obtain ⟨M,rfl⟩:∃ M,N=M+5:=⟨N-5,by omega⟩
 have:i=1∨i=2∨i=3∨i=4∨i=5∨i=6∨i=7∨i=8∨i=9∨i=10∨i=11∨i=12∨i=13∨i=14∨i=15∨i=16:=by omega
 rcases this with rfl | rfl | rfl | rfl | rfl | rfl | rfl | rfl | rfl | rfl | rfl | rfl | rfl | rfl | rfl | rfl <;> rfl
theorem aIY (c:List Bool)(n:Nat)(hn:n=1∨n=2)(hc:c.length=28):ahE N (toW c:Int) (28:Int) (n:Int)=some ((toW (rot n c):Int),0):=by
 have l1:=aue c 28 (by omega) (by omega)
 have hdr:c.drop (c.length-28)=c:=by rw [hc];rfl
 rw [hdr] at l1
 have l2:=aue c (28-n) (by omega) (by omega)
 rw [hc,show 28-(28-n)=n by omega] at l2
 have l3:=amv c n (by omega)
 rw [hc] at l3
 have l4:=ajw (c.drop n) (c.take n) (by simp;omega)
 have l5:(c.take n).length=n:=by simp;omega
 rw [l5] at l4
 have f:=aqi (toW c) (28-n)
 rw [l3] at f
 rcases hn with rfl | rfl
 ·have e:ahE N (toW c:Int) (28:Int) ((1:Nat):Int)=some (bits .or .u64 (IntKind.wrap .u64 (bits .and .u64 (bits .and .u64 (toW c:Int) (((2 ^ 28-1:Nat)):Int)) (((2 ^ (28-1)-1:Nat)):Int)*((2 ^ 1:Nat):Int))) (Int.fdiv (bits .and .u64 (toW c:Int) (((2 ^ 28-1:Nat)):Int)) ((2:Int) ^ (28-1))),0):=rfl
  rw [e,l1,l2,f,l4];rfl
 ·have e:ahE N (toW c:Int) (28:Int) ((2:Nat):Int)=some (bits .or .u64 (IntKind.wrap .u64 (bits .and .u64 (bits .and .u64 (toW c:Int) (((2 ^ 28-1:Nat)):Int)) (((2 ^ (28-2)-1:Nat)):Int)*((2 ^ 2:Nat):Int))) (Int.fdiv (bits .and .u64 (toW c:Int) (((2 ^ 28-1:Nat)):Int)) ((2:Int) ^ (28-2))),0):=rfl
  rw [e,l1,l2,f,l4];rfl
theorem aqO (c:List Bool)(i:Nat)(h1:1≤i)(h2:i≤16)(hc:c.length=28)(hN:100≤N):adT N (toW c:Int) (i:Int)=some (toW (rot (amt i) c):Int):=by
 have e:=asq (N:=N) (toW c:Int) i h1 h2 hN
 have hn:amt i=1∨amt i=2:=by unfold amt;split <;> simp
 unfold adT
 rw [show (af9 N _)=_ from e]
 simp only [Option.bind_some]
 rw [aIY c (amt i) hn hc]
 rfl
end Go.Proofs.YtkcdnjgieabjoaaGreatDoor.De
namespace Go.Proofs.YtkcdnjgieabjoaaGreatDoor.De
set_option maxRecDepth 100000
open Go.RowKit
set_option linter.unusedVariables false
set_option linter.unusedSimpArgs false
set_option maxRecDepth 100000
variable {N:Nat}
theorem aii:∀ (w x:Nat),aay (w+1) x=decide (x / 2 ^ w % 2=1)::aay w x
 | 0,x=>by simp [aay]
 | w+1,x=>by
  rw [aay,aii w (x / 2),aay,Nat.div_div_eq_div_mul,←Nat.pow_succ']
  rfl
theorem ayQ (k:Nat)(L:List Int)(v:Int):(List.replicate (k+1) (0:Int)++L).set k v=List.replicate k 0++v::L:=by
 rw [List.replicate_succ',List.append_assoc,List.set_append_right _ _ (by simp)]
 simp
theorem aEQ (A:List Int)(k:Nat)(v:Int):(A++List.replicate (k+1) (0:Int)).set A.length v=A++v::List.replicate k 0:=by
 rw [List.replicate_succ,List.set_append_right _ _ (Nat.le_refl _)]
 simp
theorem bitI (a:Nat):((a % 2:Nat):Int)=(((decide (a % 2=1)).toNat:Nat):Int):=by
 rcases Nat.mod_two_eq_zero_or_one a with h | h <;> simp [h]
theorem aJG (y:Nat)(hy:y<18446744073709551616):IntKind.wrap .u64 (Int.tdiv (y:Int) 2)=((y / 2:Nat):Int):=by
 rw [Int.tdiv_eq_ediv_of_nonneg (Int.natCast_nonneg _),aaz (by omega) (by omega)];omega
theorem mod8 (y:Nat):IntKind.wrap .u8 (Int.tmod (y:Int) 2)=((y % 2:Nat):Int):=by
 rw [Int.tmod_eq_emod_of_nonneg (Int.natCast_nonneg _),atO (by omega) (by omega)];omega
theorem atX (x w:Nat)(hx:x<18446744073709551616)(hw:w≤64)(hN:100≤N):acj N (x:Int) (w:Int)=some (rI (aay w x)):=by
 have c1:decide ((0:Int)≤(w:Int)∧(w:Int)≤(w:Int))=true:=decide_eq_true (by omega)
 have c2:aac w 1=true:=aar (by have:=aax;omega) (by omega)
 have e1:agD N (((x:Int),((IntKind.wrap .i64 ((w:Int)-1)),())),(List.replicate w (0:Int),()))=some ((),(rI (aay w x),())):=by
  unfold agD
  have:=abu (G:=fun X c=>adL N X c.1.1 c.1.2.1 c.2.1) (fun i=>((((x / 2 ^ i:Nat):Int),((w:Int)-1-(i:Int),())),(List.replicate (w-i) (0:Int)++rI (aay i x),()))) w ((),(rI (aay w x),())) (fun X i hi=> ?_) (fun X=> ?_) N 0 (Nat.zero_le _) (by omega)
  ·rw [aab (by omega) (by omega)]
   simpa [aay,rI] using this
  ·have d1:decide ((0:Int)≤(w:Int)-1-(i:Int))=true:=decide_eq_true (by omega)
   have hlen:(List.replicate (w-i) (0:Int)++rI (aay i x)).length=w:=by simp [aa6,abS];omega
   have d2:decide ((0:Int)≤(w:Int)-1-(i:Int)∧(w:Int)-1-(i:Int)<((List.replicate (w-i) (0:Int)++rI (aay i x)).length:Int))=true:=decide_eq_true (by rw [hlen];omega)
   have ht:((w:Int)-1-(i:Int)).toNat=w-i-1:=by omega
   have hg:(List.replicate (w-i) (0:Int)++rI (aay i x))[w-i-1]? =some (List.replicate (w-i) (0:Int)++rI (aay i x))[w-i-1]:=List.getElem?_eq_getElem (by rw [hlen];omega)
   have h1:IntKind.wrap .u64 (Int.tdiv ((x / 2 ^ i:Nat):Int) 2)=((x / 2 ^ (i+1):Nat):Int):=by
    rw [aJG _ (Nat.lt_of_le_of_lt (Nat.div_le_self _ _) hx),Nat.pow_succ,←Nat.div_div_eq_div_mul]
   have h2:IntKind.wrap .u8 (Int.tmod ((x / 2 ^ i:Nat):Int) 2)=(((decide (x / 2 ^ i % 2=1)).toNat:Nat):Int):=by
    rw [mod8,←bitI]
   have h3:(List.replicate (w-i) (0:Int)++rI (aay i x)).set (w-i-1) ((((decide (x / 2 ^ i % 2=1)).toNat:Nat):Int))=List.replicate (w-(i+1)) (0:Int)++rI (aay (i+1) x):=by
    obtain ⟨k,hk⟩:∃ k,w-i=k+1:=⟨w-i-1,by omega⟩
    rw [hk,show k+1-1=k by omega,ayQ,show w-(i+1)=k by omega,aii]
    rfl
   simp only [adL,d1,d2,cond_true,ht,hg,Option.bind_some,h1,h2,h3,aab (show -9223372036854775808≤(w:Int)-1-(i:Int)-1 by omega) (show (w:Int)-1-(i:Int)-1<9223372036854775808 by omega)]
   rw [show (w:Int)-1-(i:Int)-1=(w:Int)-1-((i+1:Nat):Int) by omega]
  ·have d1:decide ((0:Int)≤(w:Int)-1-(w:Int))=false:=decide_eq_false (by omega)
   simp only [adL,d1,cond_false,Nat.sub_self,List.replicate_zero,List.nil_append]
 simp only [acj,c1,Int.toNat_natCast,c2,Bool.and_true,cond_true,e1,Option.bind_some]
theorem aqb (l:List Bool)(i:Nat)(h:i<l.length):getI (rI l) (i:Int)=some (((l[i]).toNat:Nat):Int):=by
 rw [aaG _ i (by rw [aa6];exact h)];simp [rI]
theorem word_ok (l:List Bool)(hl:l.length≤64)(hN:100≤N):adK N (rI l)=some ((toW l:Nat):Int):=by
 have e1:afT N ((rI l,((0:Int),((0:Int),()))),())=some (((toW l:Int),()),()):=by
  unfold afT
  have:=abu (G:=fun X c=>ac5 N X c.1.1 c.1.2.1 c.1.2.2.1) (fun i=>((rI l,(((toW (l.take i):Nat):Int),((i:Int),()))),())) l.length (((toW l:Int),()),()) (fun X i hi=> ?_) (fun X=> ?_) N 0 (Nat.zero_le _) (by omega)
  ·exact this
  ·have d1:decide ((i:Int)<((rI l).length:Int))=true:=decide_eq_true (by rw [aa6];omega)
   have hb:=acn (l.take i)
   rw [List.length_take,Nat.min_eq_left (by omega)] at hb
   have hp:2 ^ i≤2 ^ 63:=Nat.pow_le_pow_right (by decide) (by omega)
   have hbt:l[i].toNat≤1:=by cases l[i] <;> simp
   have h1:IntKind.wrap .u64 ((2:Int)*((toW (l.take i):Nat):Int))=(2:Int)*((toW (l.take i):Nat):Int):=aaz (by omega) (by omega)
   have h2:IntKind.wrap .u64 (((l[i]).toNat:Nat):Int)=(((l[i]).toNat:Nat):Int):=aaz (by omega) (by omega)
   have h3:IntKind.wrap .u64 ((2:Int)*((toW (l.take i):Nat):Int)+(((l[i]).toNat:Nat):Int))=((toW (l.take (i+1)):Nat):Int):=by
    rw [aaz (by omega) (by omega),←List.take_append_getElem hi,adX];omega
   simp only [ac5,d1,cond_true,aqb l i hi,Option.bind_some,h1,h2,h3,aab (show -9223372036854775808≤(i:Int)+1 by omega) (show (i:Int)+1<9223372036854775808 by omega),Int.natCast_add,Int.natCast_one]
  ·have d1:decide ((l.length:Int)<((rI l).length:Int))=false:=decide_eq_false (by rw [aa6];omega)
   simp only [ac5,d1,cond_false,List.take_length]
 simp only [adK,e1,Option.bind_some]
theorem ax5 (l:List Bool)(t:List Int)(ht:apn l.length t)(hl:l.length≤90)(hn:t.length≤90)(hN:100≤N):abL N (rI l) t=some (rI (byM t l)):=by
 have e1:ahM N ((rI l,(t,((0:Int),()))),([],()))=some ((),(rI (byM t l),())):=by
  unfold ahM
  have:=abu (G:=fun X c=>ael N X c.1.1 c.1.2.1 c.1.2.2.1 c.2.1) (fun i=>((rI l,(t,((i:Int),()))),(rI (byM (t.take i) l),()))) t.length ((),(rI (byM t l),())) (fun X i hi=> ?_) (fun X=> ?_) N 0 (Nat.zero_le _) (by omega)
  ·exact this
  ·have d1:decide ((i:Int)<(t.length:Int))=true:=decide_eq_true (by omega)
   have hi2:=ht t[i] (List.getElem_mem hi)
   obtain ⟨k,hk⟩:∃ k:Nat,t[i]=(k:Int)+1:=⟨t[i].toNat-1,by omega⟩
   have hkl:k<l.length:=by omega
   have hw:IntKind.wrap .i64 (t[i]-1)=(k:Int):=by rw [aab (by omega) (by omega)];omega
   have hr:aac ((rI (byM (t.take i) l)).length+[(((l[k]).toNat:Nat):Int)].length) 1=true:=by
    have hl2:(rI (byM (t.take i) l)).length≤90:=by rw [aa6,aeC,List.length_take];omega
    simp only [List.length_cons,List.length_nil]
    exact aar (by have:=aax;omega) (by omega)
   have hs:rI (byM (t.take i) l)++[(((l[k]).toNat:Nat):Int)]=rI (byM (t.take (i+1)) l):=by
    rw [auA t l i hi,aeM]
    have:t[i].toNat-1=k:=by omega
    rw [this,List.getD_eq_getElem?_getD,List.getElem?_eq_getElem hkl]
    rfl
   simp only [ael,d1,cond_true,aaG t i hi,Option.bind_some,hw,aqb l k hkl,hr,hs,aab (show -9223372036854775808≤(i:Int)+1 by omega) (show (i:Int)+1<9223372036854775808 by omega),Int.natCast_add,Int.natCast_one]
  ·have d1:decide ((t.length:Int)<(t.length:Int))=false:=decide_eq_false (by omega)
   simp only [ael,d1,cond_false,List.take_length]
 simp only [abL,e1,Option.bind_some]
theorem ayl (a b:List Bool)(i:Nat)(ha:i<a.length)(hb:i<b.length):xorL (a.take (i+1)) (b.take (i+1))=xorL (a.take i) (b.take i)++[xor a[i] b[i]]:=by
 unfold xorL
 rw [←List.take_append_getElem ha,←List.take_append_getElem hb,List.zipWith_append (by simp;omega)]
 rfl
theorem aLk (x y:Bool):bits .xor .u8 ((x.toNat:Nat):Int) ((y.toNat:Nat):Int)=(((xor x y).toNat:Nat):Int):=by
 cases x <;> cases y <;> decide +kernel
theorem atW (a b:List Bool)(hab:a.length=b.length)(ha:a.length≤90)(hN:100≤N):adH N (rI a) (rI b)=some (rI (xorL a b)):=by
 have e1:aei N ((rI a,(rI b,((0:Int),()))),(List.replicate a.length (0:Int),()))=some ((),(rI (xorL a b),())):=by
  unfold aei
  have:=abu (G:=fun X c=>acd N X c.1.1 c.1.2.1 c.1.2.2.1 c.2.1) (fun i=>((rI a,(rI b,((i:Int),()))),(rI (xorL (a.take i) (b.take i))++List.replicate (a.length-i) (0:Int),()))) a.length ((),(rI (xorL a b),())) (fun X i hi=> ?_) (fun X=> ?_) N 0 (Nat.zero_le _) (by omega)
  ·simpa [xorL,rI] using this
  ·have d1:decide ((i:Int)<((rI a).length:Int))=true:=decide_eq_true (by rw [aa6];omega)
   have hx:(rI (xorL (a.take i) (b.take i))).length=i:=by rw [aa6,amg _ _ (by simp;omega)];simp;omega
   have hlen:(rI (xorL (a.take i) (b.take i))++List.replicate (a.length-i) (0:Int)).length=a.length:=by rw [List.length_append,hx];simp;omega
   have d2:decide ((0:Int)≤(i:Int)∧(i:Int)<((rI (xorL (a.take i) (b.take i))++List.replicate (a.length-i) (0:Int)).length:Int))=true:=decide_eq_true (by rw [hlen];omega)
   have hg:(rI (xorL (a.take i) (b.take i))++List.replicate (a.length-i) (0:Int))[i]? =some (rI (xorL (a.take i) (b.take i))++List.replicate (a.length-i) (0:Int))[i]:=List.getElem?_eq_getElem (by rw [hlen];omega)
   have hib:i<b.length:=by omega
   have h3:(rI (xorL (a.take i) (b.take i))++List.replicate (a.length-i) (0:Int)).set i (((xor a[i] b[i]).toNat:Nat):Int)=rI (xorL (a.take (i+1)) (b.take (i+1)))++List.replicate (a.length-(i+1)) (0:Int):=by
    obtain ⟨k,hk⟩:∃ k,a.length-i=k+1:=⟨a.length-i-1,by omega⟩
    have:=aEQ (rI (xorL (a.take i) (b.take i))) k (((xor a[i] b[i]).toNat:Nat):Int)
    rw [hx] at this
    rw [hk,this,show a.length-(i+1)=k by omega,ayl a b i hi hib,aeM,List.append_assoc]
    rfl
   simp only [acd,d1,d2,cond_true,aqb a i hi,aqb b i hib,Int.toNat_natCast,hg,Option.bind_some,aLk,h3,aab (show -9223372036854775808≤(i:Int)+1 by omega) (show (i:Int)+1<9223372036854775808 by omega),Int.natCast_add,Int.natCast_one]
  ·have d1:decide ((a.length:Int)<((rI a).length:Int))=false:=decide_eq_false (by rw [aa6];omega)
   have hb':b.take a.length=b:=by rw [hab];exact List.take_length
   simp only [acd,d1,cond_false,List.take_length,hb',Nat.sub_self,List.replicate_zero,List.append_nil]
 have c1:decide ((0:Int)≤((rI a).length:Int)∧((rI a).length:Int)≤((rI a).length:Int))=true:=decide_eq_true (by omega)
 have c2:aac ((rI a).length:Int).toNat 1=true:=by rw [Int.toNat_natCast,aa6];exact aar (by have:=aax;omega) (by omega)
 simp only [adH,c1,c2,Bool.and_true,cond_true]
 rw [Int.toNat_natCast,aa6,e1]
 rfl
end Go.Proofs.YtkcdnjgieabjoaaGreatDoor.De
namespace Go.Proofs.YtkcdnjgieabjoaaGreatDoor.De
set_option maxRecDepth 100000
open Go.RowKit
set_option linter.unusedVariables false
set_option linter.unusedSimpArgs false
set_option maxRecDepth 100000
variable {N:Nat}
def abh:List Int:=[58,50,42,34,26,18,10,2,60,52,44,36,28,20,12,4,62,54,46,38,30,22,14,6,64,56,48,40,32,24,16,8,57,49,41,33,25,17,9,1,59,51,43,35,27,19,11,3,61,53,45,37,29,21,13,5,63,55,47,39,31,23,15,7]
def aqR:List Int:=[40,8,48,16,56,24,64,32,39,7,47,15,55,23,63,31,38,6,46,14,54,22,62,30,37,5,45,13,53,21,61,29,36,4,44,12,52,20,60,28,35,3,43,11,51,19,59,27,34,2,42,10,50,18,58,26,33,1,41,9,49,17,57,25]
def aef:List Int:=[32,1,2,3,4,5,4,5,6,7,8,9,8,9,10,11,12,13,12,13,14,15,16,17,16,17,18,19,20,21,20,21,22,23,24,25,24,25,26,27,28,29,28,29,30,31,32,1]
def ae1:List Int:=[16,7,20,21,29,12,28,17,1,15,23,26,5,18,31,10,2,8,24,14,32,27,3,9,19,13,30,6,22,11,4,25]
def ae0:List Int:=[57,49,41,33,25,17,9,1,58,50,42,34,26,18,10,2,59,51,43,35,27,19,11,3,60,52,44,36,63,55,47,39,31,23,15,7,62,54,46,38,30,22,14,6,61,53,45,37,29,21,13,5,28,20,12,4]
def adf:List Int:=[14,17,11,24,1,5,3,28,15,6,21,10,23,19,12,4,26,8,16,7,27,20,13,2,41,52,31,37,47,55,30,40,51,45,33,48,44,49,39,56,34,53,46,42,50,36,29,32]
theorem aCv:ahz 200000=some ae0:=by kernel_rfl
theorem aIS:akT 200000=some aef:=by kernel_rfl
theorem aFE:ahA 200000=some abh:=by kernel_rfl
theorem aJx:akU 200000=some aqR:=by kernel_rfl
theorem arA:apn 64 ae0:=by decide +kernel
theorem am9:apn 56 adf:=by decide +kernel
theorem azh:apn 32 aef:=by decide +kernel
theorem arB:apn 32 ae1:=by decide +kernel
theorem aub:apn 64 abh:=by decide +kernel
theorem azi:apn 64 aqR:=by decide +kernel
noncomputable def dig (n x:Nat):Nat:=((aek 200000 (n:Int) (rI (aay 6 x))).getD 0).toNat
theorem aAn:∀ n:Nat,n<8→∀ x:Nat,x<64→ai9 200000 ((n+1:Nat):Int) (x:Int)=some ((dig (n+1) x:Nat):Int)∧aek 200000 ((n+1:Nat):Int) (rI (aay 6 x))=some ((dig (n+1) x:Nat):Int)∧dig (n+1) x<16:=by decide +kernel
theorem aF6 (a m k:Nat)(hm:m<2 ^ k):a&&&m=(a % 2 ^ k)&&&m:=by
 apply Nat.eq_of_testBit_eq
 intro i
 rw [Nat.testBit_and,Nat.testBit_and,Nat.testBit_mod_two_pow]
 rcases Nat.lt_or_ge i k with h | h
 ·simp [h]
 ·have:m.testBit i=false:=Nat.testBit_lt_two_pow (Nat.lt_of_lt_of_le hm (Nat.pow_le_pow_right (by decide) h))
  simp [this]
theorem ayi (a m k:Nat)(ha:a<18446744073709551616)(hm:m<2 ^ k)(hk:k≤6):bits .and .u64 (a:Int) (m:Int)=bits .and .u64 ((a % 2 ^ k:Nat):Int) (m:Int):=by
 have hp:2 ^ k≤2 ^ 6:=Nat.pow_le_pow_right (by decide) hk
 rw [q64_and _ _ ha (by omega),q64_and _ _ (by have:=Nat.mod_lt a (Nat.two_pow_pos k);omega) (by omega),←aF6 a m k hm]
theorem aFZ (n:Int)(z:Nat)(hz:z<18446744073709551616):ai9 N n (z:Int)=ai9 N n ((z % 64:Nat):Int):=by
 have f:∀ (a k:Nat),Int.fdiv (a:Int) ((2:Int) ^ (min (Int.toNat (k:Int)) (IntKind.bits .u64)))=((a / 2 ^ (min k 64):Nat):Int):=fun a k=>by
  rw [Int.toNat_natCast];exact aqi a _
 have f4:=f z 4
 have f4':=f (z % 64) 4
 have f1:=f z 1
 have f1':=f (z % 64) 1
 have h2:=ayi (z / 2 ^ 4) 2 2 (Nat.lt_of_le_of_lt (Nat.div_le_self _ _) hz) (by decide) (by decide)
 have h2':=ayi (z % 64 / 2 ^ 4) 2 2 (by omega) (by decide) (by decide)
 have h15:=ayi (z / 2 ^ 1) 15 4 (Nat.lt_of_le_of_lt (Nat.div_le_self _ _) hz) (by decide) (by decide)
 have h15':=ayi (z % 64 / 2 ^ 1) 15 4 (by omega) (by decide) (by decide)
 have h1:=ayi z 1 1 hz (by decide) (by decide)
 have h1':=ayi (z % 64) 1 1 (by omega) (by decide) (by decide)
 rw [show z % 64 / 2 ^ 4 % 2 ^ 2=z / 2 ^ 4 % 2 ^ 2 by omega,←h2] at h2'
 rw [show z % 64 / 2 ^ 1 % 2 ^ 4=z / 2 ^ 1 % 2 ^ 4 by omega,←h15] at h15'
 rw [show z % 64 % 2 ^ 1=z % 2 ^ 1 by omega,←h1] at h1'
 unfold ai9
 have e4:Int.fdiv (z:Int) ((2:Int) ^ (min (Int.toNat (4:Int)) (IntKind.bits .u64)))=((z / 2 ^ 4:Nat):Int):=f4
 have e4':Int.fdiv ((z % 64:Nat):Int) ((2:Int) ^ (min (Int.toNat (4:Int)) (IntKind.bits .u64)))=((z % 64 / 2 ^ 4:Nat):Int):=f4'
 have e1:Int.fdiv (z:Int) ((2:Int) ^ (min (Int.toNat (1:Int)) (IntKind.bits .u64)))=((z / 2 ^ 1:Nat):Int):=f1
 have e1':Int.fdiv ((z % 64:Nat):Int) ((2:Int) ^ (min (Int.toNat (1:Int)) (IntKind.bits .u64)))=((z % 64 / 2 ^ 1:Nat):Int):=f1'
 have g2:bits .and .u64 ((z % 64 / 2 ^ 4:Nat):Int) (2:Int)=bits .and .u64 ((z / 2 ^ 4:Nat):Int) (2:Int):=h2'
 have g15:bits .and .u64 ((z % 64 / 2 ^ 1:Nat):Int) (15:Int)=bits .and .u64 ((z / 2 ^ 1:Nat):Int) (15:Int):=h15'
 have g1:bits .and .u64 ((z % 64:Nat):Int) (1:Int)=bits .and .u64 (z:Int) (1:Int):=h1'
 rw [e4,e4',e1,e1',g2,g15,g1]
theorem aut (n:Nat)(hn:n<8)(s:List Bool)(hs:s.length=6):aek 200000 ((n+1:Nat):Int) (rI s)=some ((dig (n+1) (toW s):Nat):Int)∧dig (n+1) (toW s)<16:=by
 have hx:=acn s
 rw [hs] at hx
 have:=aAn n hn (toW s) hx
 rw [←hs,alG] at this
 exact this.2
theorem aAa (n:Nat)(hn:n<8)(s:List Bool)(hs:s.length=6)(z:Nat)(hz:z<18446744073709551616)(h:z % 64=toW s):ai9 200000 ((n+1:Nat):Int) (z:Int)=some ((dig (n+1) (toW s):Nat):Int):=by
 have hx:=acn s
 rw [hs] at hx
 rw [aFZ _ z hz,h]
 exact (aAn n hn (toW s) hx).1
def ajH (X:List Bool)(i:Nat):List Bool:=(X.drop (6*i)).take 6
noncomputable def digM (X:List Bool)(i:Nat):List Bool:=(List.range i).flatMap fun i=>aay 4 (dig (i+1) (toW (ajH X i)))
theorem anw (X:List Bool)(i:Nat):digM X (i+1)=digM X i++aay 4 (dig (i+1) (toW (ajH X i))):=by
 unfold digM
 rw [List.range_succ,List.flatMap_append]
 simp
theorem akR (X:List Bool):∀ i,(digM X i).length=4*i
 | 0=>rfl
 | i+1=>by rw [anw,List.length_append,akR X i,abS];omega
theorem anF (X:List Bool)(i:Nat)(hX:X.length=48)(hi:i<8):(ajH X i).length=6:=by simp [ajH,hX];omega
noncomputable def alU (r k:List Bool):List Bool:=byM ae1 (digM (xorL (byM aef r) k) 8)
theorem ako (r k:List Bool):(alU r k).length=32:=by rw [alU,aeC];rfl
theorem aDa (X:List Bool)(z i:Nat)(hX:X.length=48)(hz:z % 2 ^ 48=toW X)(hi:i<8):z / 2 ^ (42-6*i) % 64=toW (ajH X i):=by
 have e1:z / 2 ^ (42-6*i) % 2 ^ 6=(z % 2 ^ 48) / 2 ^ (42-6*i) % 2 ^ 6:=by
  have h:=Nat.mod_mul_right_div_self z (2 ^ (42-6*i)) (2 ^ (6+6*i))
  rw [←Nat.pow_add,show 42-6*i+(6+6*i)=48 by omega] at h
  rw [h,Nat.mod_mod_of_dvd]
  exact Nat.pow_dvd_pow 2 (by omega)
 have h1:=amv X (6*i+6) (by omega)
 rw [hX,show 48-(6*i+6)=42-6*i by omega] at h1
 have h2:=apj (X.take (6*i+6)) (6*i) (by rw [List.length_take];omega)
 rw [List.length_take,hX,Nat.min_eq_left (by omega),show 6*i+6-6*i=6 by omega] at h2
 rw [show (64:Nat)=2 ^ 6 from rfl,e1,hz,h1,h2,ajH,List.drop_take,show 6*i+6-6*i=6 by omega]
theorem ayn (X:List Bool)(z:Nat)(hX:X.length=48)(hz:z % 2 ^ 48=toW X)(hzl:z<18446744073709551616)(t:List Int):ah5 200000 ((t,((z:Int),((0:Int),((1:Int),())))),())=some ((t,((toW (digM X 8):Int),())),()):=by
 unfold ah5
 have:=abu (G:=fun X c=>af8 200000 X c.1.1 c.1.2.1 c.1.2.2.1 c.1.2.2.2.1) (fun i=>((t,((z:Int),(((toW (digM X i):Nat):Int),(((i+1:Nat):Int),())))),())) 8 ((t,((toW (digM X 8):Int),())),()) (fun Y i hi=> ?_) (fun Y=> ?_) 200000 0 (Nat.zero_le _) (by decide)
 ·exact this
 ·have d1:decide (((i+1:Nat):Int)≤(8:Int))=true:=decide_eq_true (by omega)
  have hw1:IntKind.wrap .i64 ((6:Int)*((i+1:Nat):Int))=(6:Int)*((i+1:Nat):Int):=aab (by omega) (by omega)
  have hw2:IntKind.wrap .i64 ((48:Int)-(6:Int)*((i+1:Nat):Int))=((42-6*i:Nat):Int):=by rw [aab (by omega) (by omega)];omega
  have d2:decide ((0:Int)≤((42-6*i:Nat):Int))=true:=decide_eq_true (by omega)
  have hm:min (42-6*i) (IntKind.bits .u64)=42-6*i:=by show min _ 64=_;omega
  have hb:=aAa i hi (ajH X i) (anF X i hX hi) (z / 2 ^ (42-6*i)) (Nat.lt_of_le_of_lt (Nat.div_le_self _ _) hzl) (aDa X z i hX hz hi)
  have hd:=(aut i hi (ajH X i) (anF X i hX hi)).2
  have hor:=ajw (digM X i) (aay 4 (dig (i+1) (toW (ajH X i)))) (by rw [akR,abS];omega)
  rw [atQ hd,←anw,abS] at hor
  have hpw:(2:Int) ^ (min (Int.toNat (4:Int)) (IntKind.bits .u64))=((2 ^ 4:Nat):Int):=rfl
  have hw3:IntKind.wrap .i64 (((i+1:Nat):Int)+1)=((i+1+1:Nat):Int):=by rw [aab (by omega) (by omega)];omega
  simp only [af8,d1,cond_true,hw1,hw2,d2,Int.toNat_natCast,hm,aqi,hb,Option.bind_some,hpw,hor,hw3]
 ·rfl
theorem aIQ (r k:List Bool)(kk:Nat)(hr:r.length=32)(hk:k.length=48)(hkk:kk<18446744073709551616)(h:kk % 2 ^ 48=toW k):akS 200000 (toW r:Int) (kk:Int) aef ae1=some ((toW (alU r k):Nat):Int):=by
 have hrb:=acn r
 rw [hr] at hrb
 have hw:IntKind.wrap .u64 (toW r:Int)=(toW r:Int):=aaz (by omega) (by omega)
 have hp:=aex (N:=200000) r aef (by omega) (by omega) (by rw [hr];exact azh) (by decide) (by decide)
 rw [hr] at hp
 have hbl:(byM aef r).length=48:=by rw [aeC];rfl
 have hbb:=acn (byM aef r)
 rw [hbl] at hbb
 have hX:(xorL (byM aef r) k).length=48:=by rw [amg _ _ (by omega),hbl]
 have hx:=aE0 (toW (byM aef r)) kk (by omega) hkk
 have hz:(toW (byM aef r) ^^^ kk) % 2 ^ 48=toW (xorL (byM aef r) k):=by
  rw [Nat.xor_mod_two_pow,h,Nat.mod_eq_of_lt hbb,ayu _ _ (by omega)]
 have hl:=ayn (xorL (byM aef r) k) (toW (byM aef r) ^^^ kk) hX hz (by have:=Nat.xor_lt_two_pow (n:=64) (x:=toW (byM aef r)) (y:=kk) (by omega) (by omega);omega) ae1
 have hd:=akR (xorL (byM aef r) k) 8
 have hp2:=aex (N:=200000) (digM (xorL (byM aef r) k) 8) ae1 (by omega) (by omega) (by rw [hd];exact arB) (by decide) (by decide)
 rw [hd] at hp2
 have hwb:=acn (alU r k)
 rw [ako] at hwb
 unfold akS
 rw [hw]
 rw [show aaC 200000 (toW r:Int) (32:Int) aef=_ from hp]
 simp only [Option.bind_some]
 rw [hx,hl]
 simp only [Option.bind_some]
 rw [show aaC 200000 ((toW (digM (xorL (byM aef r) k) 8):Nat):Int) (32:Int) ae1=_ from hp2]
 simp only [Option.bind_some]
 rw [show byM ae1 (digM (xorL (byM aef r) k) 8)=alU r k from rfl]
 have:IntKind.wrap .u32 ((toW (alU r k):Nat):Int)=((toW (alU r k):Nat):Int):=by rw [IntKind.wrap_u32];omega
 rw [this]
theorem aIR (r k:List Bool)(hr:r.length=32)(hk:k.length=48):ahf 200000 (rI r) (rI k)=some (rI (alU r k)):=by
 have h1:=ax5 (N:=200000) r aef (by rw [hr];exact azh) (by omega) (by decide) (by decide)
 have hbl:(byM aef r).length=48:=by rw [aeC];rfl
 have h2:=atW (N:=200000) (byM aef r) k (by omega) (by omega) (by decide)
 have hX:(xorL (byM aef r) k).length=48:=by rw [amg _ _ (by omega),hbl]
 generalize hXe:xorL (byM aef r) k=X at *
 have h3:afI 200000 ((rI X,((0:Int),())),([],()))=some ((),(rI (digM X 8),())):=by
  unfold afI
  have:=abu (G:=fun X c=>ad0 200000 X c.1.1 c.1.2.1 c.2.1) (fun i=>((rI X,((i:Int),())),(rI (digM X i),()))) 8 ((),(rI (digM X 8),())) (fun Y i hi=> ?_) (fun Y=>rfl) 200000 0 (Nat.zero_le _) (by decide)
  ·exact this
  ·have d1:decide ((i:Int)<(8:Int))=true:=decide_eq_true (by omega)
   have hw1:IntKind.wrap .i64 ((6:Int)*(i:Int))=((6*i:Nat):Int):=by rw [aab (by omega) (by omega)];omega
   have hw2:IntKind.wrap .i64 (((6*i:Nat):Int)+6)=((6*i+6:Nat):Int):=by rw [aab (by omega) (by omega)];omega
   have hs:subI (rI X) ((6*i:Nat):Int) ((6*i+6:Nat):Int)=some (rI (ajH X i)):=by
    rw [aeG (rI X) rfl rfl (by omega) (by rw [aa6];omega),alo,aln,show 6*i+6-6*i=6 by omega];rfl
   have hw3:IntKind.wrap .i64 ((i:Int)+1)=((i+1:Nat):Int):=by rw [aab (by omega) (by omega)];omega
   obtain ⟨hd,hd16⟩:=aut i hi (ajH X i) (anF X i hX hi)
   have hw4:IntKind.wrap .u64 ((dig (i+1) (toW (ajH X i)):Nat):Int)=((dig (i+1) (toW (ajH X i)):Nat):Int):=aaz (by omega) (by omega)
   have hro:acj 200000 ((dig (i+1) (toW (ajH X i)):Nat):Int) (4:Int)=some (rI (aay 4 (dig (i+1) (toW (ajH X i))))):=atX _ 4 (by omega) (by decide) (by decide)
   have hrm:aac ((rI (digM X i)).length+(rI (aay 4 (dig (i+1) (toW (ajH X i))))).length) 1=true:=by
    rw [aa6,aa6,akR,abS]
    exact aar (by have:=aax;omega) (by omega)
   simp only [ad0,d1,cond_true,hw1,hw2,hs,Option.bind_some,hw3,hd,hw4,hro,hrm]
   rw [←aeM,←anw]
 have hd:=akR X 8
 have h4:=ax5 (N:=200000) (digM X 8) ae1 (by rw [hd];exact arB) (by omega) (by decide) (by decide)
 unfold ahf
 show (abL 200000 (rI r) aef).bind _=_
 rw [h1]
 simp only [Option.bind_some]
 rw [h2]
 simp only [Option.bind_some]
 rw [h3]
 simp only [Option.bind_some]
 show (abL 200000 (rI (digM X 8)) ae1).bind _=_
 rw [h4]
 simp only [Option.bind_some,alU,hXe]
end Go.Proofs.YtkcdnjgieabjoaaGreatDoor.De
namespace Go.Proofs.YtkcdnjgieabjoaaGreatDoor.De
set_option maxRecDepth 100000
open Go.RowKit
set_option linter.unusedVariables false
set_option linter.unusedSimpArgs false
set_option maxRecDepth 100000
def hv:Nat→List Bool→List Bool
  | 0,c=>c
  | i+1,c=>rot (amt (i+1)) (hv i c)
theorem akI:∀ i c,(hv i c).length=c.length
  | 0,c=>rfl
  | i+1,c=>by rw [hv,aEU,akI i c]
def aka (c d:List Bool)(i:Nat):List Bool:=byM adf (hv (i+1) c++hv (i+1) d)
theorem azA (c d:List Bool)(i:Nat):(aka c d i).length=48:=by rw [aka,aeC];rfl
def amb (key:List Bool):List (List Bool):=(List.range 16).map (aka ((byM ae0 key).take 28) ((byM ae0 key).drop 28))
theorem azz (key:List Bool):(amb key).length=16:=by simp [amb]
theorem arP {key k:List Bool}(h:k∈amb key):k.length=48:=by
  obtain ⟨i,_,rfl⟩:=List.mem_map.1 h
  exact azA _ _ _
def stA (z:Arr Int 16)(f:Nat→Int):Nat→Arr Int 16
  | 0=>z
  | i+1=>(stA z f i).set i (f i)
theorem aEb (A B:List Int)(i:Nat)(v:Int)(hA:A.length=i)(hi:i<B.length):(A++B.drop i).set i v=(A++[v])++B.drop (i+1):=by
  subst hA
  rw [List.set_append_right _ _ (Nat.le_refl _),List.drop_eq_getElem_cons hi,Nat.sub_self,List.set_cons_zero,List.append_assoc]
  rfl
theorem aI5 (z:Arr Int 16)(f:Nat→Int):∀ i,i≤16→(stA z f i).l=(List.range i).map f++z.l.drop i
  | 0,_=>rfl
  | i+1,h=>by
    show (stA z f i).l.set i (f i)=_
    rw [aI5 z f i (by omega),aEb _ _ i _ (by simp) (by rw [z.h];omega),List.range_succ,List.map_append]
    rfl
theorem aEN (z:Arr Int 16)(f:Nat→Int):(stA z f 16).l=(List.range 16).map f:=by
  have:=aI5 z f 16 (Nat.le_refl _)
  rw [this,List.drop_eq_nil_of_le (by rw [z.h];decide),List.append_nil]
theorem aF3 (a:Arr Int 16)(i:Nat)(h:i<16):∃ v,a.l[i]? =some v:=⟨_,List.getElem?_eq_getElem (by rw [a.h];exact h)⟩
def M56:Int:=72057594037927935
def M28:Int:=268435455
theorem aJp:M56=((2 ^ 56-1:Nat):Int):=by decide +kernel
theorem aJq:M28=((2 ^ 28-1:Nat):Int):=by decide +kernel
theorem aAI (key:Int):akW 200000 key=Option.bind (ahz 200000) fun v2=>Option.bind (aaC 200000 key 64 v2) fun v3=>Option.bind (afo 200000 (((Int.fdiv (bits .and .u64 v3 M56) ((2:Int) ^ 28)),((bits .and .u64 (bits .and .u64 v3 M56) M28),(adf,((0:Int),())))),(dflt (.arr 16 (.int .u64)),(dflt (.arr 16 (.int .u64)),())))) fun v4=>some v4.2.2.1:=by kernel_rfl
theorem aJy (key:List Bool)(hk:key.length=64):∃ a,akW 200000 (toW key:Int)=some a∧a.l=(amb key).map fun k=>((toW k:Nat):Int):=by
  have h1:=aex (N:=200000) key ae0 (by omega) (by omega) (by rw [hk];exact arA) (by decide) (by decide)
  rw [hk] at h1
  have hpl:(byM ae0 key).length=56:=by rw [aeC];rfl
  generalize hp:byM ae0 key=p at *
  have h2:=aue p 56 (by omega) (by omega)
  rw [hpl,show 56-56=0 from rfl,List.drop_zero] at h2
  have h3:=aue p 28 (by omega) (by omega)
  rw [hpl,show 56-28=28 from rfl] at h3
  have h4:=amv p 28 (by omega)
  rw [hpl,show 56-28=28 from rfl] at h4
  have h5:=aqi (toW p) 28
  rw [h4] at h5
  have hc:(p.take 28).length=28:=by simp [hpl]
  have hd:(p.drop 28).length=28:=by simp [hpl]
  generalize hcE:p.take 28=c at *
  generalize hdE:p.drop 28=d at *
  let f:Nat→Int:=fun i=>((toW (aka c d i):Nat):Int)
  have e1:∀ y z:Arr Int 16,afo 200000 (((toW c:Int),((toW d:Int),(adf,((0:Int),())))),(y,(z,())))=some ((),(y,(stA z f 16,()))):=by
    intro y z
    unfold afo
    have:=abu (G:=fun X c=>age 200000 X c.1.1 c.1.2.1 c.1.2.2.1 c.1.2.2.2.1 c.2.1 c.2.2.1) (fun i=>(((toW (hv i c):Int),((toW (hv i d):Int),(adf,((i:Int),())))),(y,(stA z f i,())))) 16 ((),(y,(stA z f 16,()))) (fun Y i hi=> ?_) (fun Y=>rfl) 200000 0 (Nat.zero_le _) (by decide)
    · exact this
    · have d1:decide ((i:Int)<(16:Int))=true:=decide_eq_true (by omega)
      have hw:IntKind.wrap .i64 ((i:Int)+1)=((i+1:Nat):Int):=by rw [aab (by omega) (by omega)];omega
      have t1:=aqO (N:=200000) (hv i c) (i+1) (by omega) (by omega) (by rw [akI,hc]) (by decide)
      have t2:=aqO (N:=200000) (hv i d) (i+1) (by omega) (by omega) (by rw [akI,hd]) (by decide)
      have hl1:(hv (i+1) c).length=28:=by rw [akI,hc]
      have hl2:(hv (i+1) d).length=28:=by rw [akI,hd]
      have hor:=ajw (hv (i+1) c) (hv (i+1) d) (by omega)
      rw [hl2] at hor
      have hpw:(2:Int) ^ (min (Int.toNat (28:Int)) (IntKind.bits .u64))=((2 ^ 28:Nat):Int):=rfl
      have hcl:(hv (i+1) c++hv (i+1) d).length=56:=by rw [List.length_append,hl1,hl2]
      have h6:=aex (N:=200000) (hv (i+1) c++hv (i+1) d) adf (by omega) (by omega) (by rw [hcl];exact am9) (by decide) (by decide)
      rw [hcl] at h6
      have h6:aaC 200000 ((toW (hv (i+1) c++hv (i+1) d):Nat):Int) (56:Int) adf=some ((toW (aka c d i):Nat):Int):=h6
      have d2:decide ((0:Int)≤(i:Int)∧(i:Int)<(((16:Nat):Nat):Int))=true:=decide_eq_true (by omega)
      obtain ⟨v,hv⟩:=aF3 (stA z f i) i hi
      have t1:adT 200000 ((toW (Go.Proofs.YtkcdnjgieabjoaaGreatDoor.De.hv i c):Nat):Int) ((i+1:Nat):Int)=some ((toW (Go.Proofs.YtkcdnjgieabjoaaGreatDoor.De.hv (i+1) c):Nat):Int):=t1
      have t2:adT 200000 ((toW (Go.Proofs.YtkcdnjgieabjoaaGreatDoor.De.hv i d):Nat):Int) ((i+1:Nat):Int)=some ((toW (Go.Proofs.YtkcdnjgieabjoaaGreatDoor.De.hv (i+1) d):Nat):Int):=t2
      simp only [age,d1,d2,cond_true,hw,t1,t2,Option.bind_some,hpw,hor,h6,Int.toNat_natCast,hv]
      rfl
  refine ⟨stA (dflt (.arr 16 (.int .u64))) f 16, ?_, ?_⟩
  · rw [aAI,aCv]
    simp only [Option.bind_some]
    rw [show aaC 200000 (toW key:Int) (64:Int) ae0=_ from h1]
    simp only [Option.bind_some]
    rw [aJp,aJq,h2,h3,h5,e1]
    rfl
  · rw [aEN]
    unfold amb
    rw [List.map_map,hp,hcE,hdE]
    rfl
theorem azy (X:(((List (Int))×((List (Int))×((Int)×Unit)))×((List (List (Int)))×Unit))→Option ((Unit×((List (List (Int)))×Unit))))(c d:List Int)(h0:List (List Int))(i:Nat)(hi:i<16):
    ac3 200000 X c d ((i+1:Nat):Int) h0=Option.bind (abe c (amt (i+1):Int)) fun v6=>Option.bind (abV c (amt (i+1):Int)) fun v7=>
      bif (aac (List.length v6) 1) then (bif (aac ((List.length v6)+(List.length v7)) 1) then (Option.bind (abe d (amt (i+1):Int)) fun v8=>Option.bind (abV d (amt (i+1):Int)) fun v9=>
      (bif (aac (List.length v8) 1) then (bif (aac ((List.length v8)+(List.length v9)) 1) then (bif (aac (List.length (v6++v7)) 1) then (bif (aac ((List.length (v6++v7))+(List.length (v8++v9))) 1) then
       (Option.bind (abL 200000 ((v6++v7)++(v8++v9)) adf) fun v10=>(bif (aac ((List.length h0)+(List.length ([v10]:List ((List Int))))) 24) then
          (X (((v6++v7),((v8++v9),((IntKind.wrap .i64 (((i+1:Nat):Int)+(1:Int))),()))),((h0++([v10]:List ((List Int)))),()))) else none)) else none) else none) else none) else none)) else none) else none:=by
  have:i=0∨i=1∨i=2∨i=3∨i=4∨i=5∨i=6∨i=7∨i=8∨i=9∨i=10∨i=11∨i=12∨i=13∨i=14∨i=15:=by omega
  rcases this with rfl | rfl | rfl | rfl | rfl | rfl | rfl | rfl | rfl | rfl | rfl | rfl | rfl | rfl | rfl | rfl <;> rfl
theorem aJz (key:List Bool)(hk:key.length=64):ahh 200000 (toW key:Int)=some ((amb key).map rI):=by
  have hkb:=acn key
  rw [hk] at hkb
  have h0:acj 200000 (toW key:Int) (64:Int)=some (rI key):=by
    have:=atX (N:=200000) (toW key) 64 (by omega) (by decide) (by decide)
    rw [←hk,alG,hk] at this
    exact this
  have h1:=ax5 (N:=200000) key ae0 (by rw [hk];exact arA) (by omega) (by decide) (by decide)
  have hpl:(byM ae0 key).length=56:=by rw [aeC];rfl
  generalize hp:byM ae0 key=p at *
  have h2:abV (rI p) (28:Int)=some (rI (p.take 28)):=(acT (a:=(28:Int)) (rI p) (i:=28) rfl (by rw [aa6];omega)).trans (by rw [aln])
  have h3:abe (rI p) (28:Int)=some (rI (p.drop 28)):=(adl (a:=(28:Int)) (rI p) (i:=28) rfl (by rw [aa6];omega)).trans (by rw [alo])
  have hc:(p.take 28).length=28:=by simp [hpl]
  have hd:(p.drop 28).length=28:=by simp [hpl]
  generalize hcE:p.take 28=c at *
  generalize hdE:p.drop 28=d at *
  have e1:ad2 200000 ((rI c,(rI d,((1:Int),()))),([],()))=some ((),(((List.range 16).map (aka c d)).map rI,())):=by
    unfold ad2
    have:=abu (G:=fun X c=>ac3 200000 X c.1.1 c.1.2.1 c.1.2.2.1 c.2.1) (fun i=>((rI (hv i c),(rI (hv i d),(((i+1:Nat):Int),()))),(((List.range i).map (aka c d)).map rI,()))) 16 ((),(((List.range 16).map (aka c d)).map rI,())) (fun Y i hi=> ?_) (fun Y=>rfl) 200000 0 (Nat.zero_le _) (by decide)
    · exact this
    · have hn:amt (i+1)≤2:=by unfold amt;split <;> simp
      have hlc:(hv i c).length=28:=by rw [akI,hc]
      have hld:(hv i d).length=28:=by rw [akI,hd]
      have a1:abe (rI (hv i c)) (amt (i+1):Int)=some (rI ((hv i c).drop (amt (i+1)))):=by rw [adl _ rfl (by rw [aa6];omega),alo]
      have a2:abV (rI (hv i c)) (amt (i+1):Int)=some (rI ((hv i c).take (amt (i+1)))):=by rw [acT _ rfl (by rw [aa6];omega),aln]
      have a3:abe (rI (hv i d)) (amt (i+1):Int)=some (rI ((hv i d).drop (amt (i+1)))):=by rw [adl _ rfl (by rw [aa6];omega),alo]
      have a4:abV (rI (hv i d)) (amt (i+1):Int)=some (rI ((hv i d).take (amt (i+1)))):=by rw [acT _ rfl (by rw [aa6];omega),aln]
      have b1:rI ((hv i c).drop (amt (i+1)))++rI ((hv i c).take (amt (i+1)))=rI (hv (i+1) c):=by rw [←aeM];rfl
      have b2:rI ((hv i d).drop (amt (i+1)))++rI ((hv i d).take (amt (i+1)))=rI (hv (i+1) d):=by rw [←aeM];rfl
      have room:∀ n,n≤100→aac n 1=true:=fun n hn=>aar (by have:=aax;omega) (by omega)
      have r1:aac (rI ((hv i c).drop (amt (i+1)))).length 1=true:=room _ (by rw [aa6,List.length_drop];omega)
      have r2:aac ((rI ((hv i c).drop (amt (i+1)))).length+(rI ((hv i c).take (amt (i+1)))).length) 1=true:=room _ (by rw [aa6,aa6,List.length_drop,List.length_take];omega)
      have r3:aac (rI ((hv i d).drop (amt (i+1)))).length 1=true:=room _ (by rw [aa6,List.length_drop];omega)
      have r4:aac ((rI ((hv i d).drop (amt (i+1)))).length+(rI ((hv i d).take (amt (i+1)))).length) 1=true:=room _ (by rw [aa6,aa6,List.length_drop,List.length_take];omega)
      have hl1:(hv (i+1) c).length=28:=by rw [akI,hc]
      have hl2:(hv (i+1) d).length=28:=by rw [akI,hd]
      have r5:aac (rI (hv (i+1) c)).length 1=true:=room _ (by rw [aa6];omega)
      have r6:aac ((rI (hv (i+1) c)).length+(rI (hv (i+1) d)).length) 1=true:=room _ (by rw [aa6,aa6];omega)
      have hcl:(hv (i+1) c++hv (i+1) d).length=56:=by rw [List.length_append,hl1,hl2]
      have h6:=ax5 (N:=200000) (hv (i+1) c++hv (i+1) d) adf (by rw [hcl];exact am9) (by omega) (by decide) (by decide)
      rw [aeM] at h6
      have r7:aac ((((List.range i).map (aka c d)).map rI).length+[rI (aka c d i)].length) 24=true:=by
        simp only [List.length_map,List.length_range,List.length_cons,List.length_nil]
        exact aar (by have:=aax;omega) (by omega)
      have hw:IntKind.wrap .i64 (((i+1:Nat):Int)+1)=((i+1+1:Nat):Int):=by rw [aab (by omega) (by omega)];omega
      have hap:(((List.range i).map (aka c d)).map rI)++[rI (aka c d i)]=((List.range (i+1)).map (aka c d)).map rI:=by rw [List.range_succ,List.map_append,List.map_append];rfl
      have h6:abL 200000 (rI (hv (i+1) c)++rI (hv (i+1) d)) adf=some (rI (aka c d i)):=h6
      show ac3 200000 Y (rI (hv i c)) (rI (hv i d)) ((i+1:Nat):Int) (((List.range i).map (aka c d)).map rI)=_
      rw [azy Y _ _ _ i hi,a1]
      simp only [Option.bind_some,a2,a3,a4,r1,r2,r3,r4,cond_true,b1,b2,r5,r6,h6,r7,hw,hap]
  unfold ahh
  rw [h0]
  simp only [Option.bind_some]
  show (abL 200000 (rI key) ae0).bind _=_
  rw [h1]
  simp only [Option.bind_some,h2,h3]
  show (ad2 200000 ((rI c,(rI d,((1:Int),()))),([],()))).bind _=_
  rw [e1]
  simp only [Option.bind_some,amb,hp,hcE,hdE]
noncomputable def adg (s:List Bool×List Bool)(k:List Bool):List Bool×List Bool:=(s.2,xorL s.1 (alU s.2 k))
def Two (s:List Bool×List Bool):Prop:=s.1.length=32∧s.2.length=32
theorem ayD {s:List Bool×List Bool}(k:List Bool)(h:Two s):Two (adg s k):=⟨h.2,by rw [adg,amg _ _ (by rw [ako];exact h.1)];exact h.1⟩
theorem akM:∀ (ks:List (List Bool)) {s:List Bool×List Bool},Two s→Two (ks.foldl adg s)
 | [],_,h=>h
 | k::ks,_,h=>akM ks (ayD k h)
noncomputable def api (ks:List (List Bool))(b:List Bool):List Bool:=let s:=ks.foldl adg ((byM abh b).take 32,(byM abh b).drop 32);byM aqR (s.2++s.1)
theorem ays (ks:List (List Bool))(b:List Bool):(api ks b).length=64:=by unfold api;rw [aeC];rfl
theorem arX (b:List Bool):Two ((byM abh b).take 32,(byM abh b).drop 32):=by
 have:(byM abh b).length=64:=by rw [aeC];rfl
 constructor <;> simp [this]
theorem w32 {x:Int}(h1:0≤x)(h2:x<4294967296):IntKind.wrap .u32 x=x:=by rw [IntKind.wrap_u32];omega
theorem aqP (a:Arr Int 16)(b:Int):agb 200000 a b=Option.bind (akT 200000) fun v3=>Option.bind (ahA 200000) fun v4=>Option.bind (aaC 200000 b 64 v4) fun v5=>Option.bind (adp 200000 ((v3,(ae1,((IntKind.wrap .u32 (Int.fdiv v5 ((2:Int) ^ 32))),((IntKind.wrap .u32 v5),(a,((0:Int),())))))),())) fun v6=>Option.bind (akU 200000) fun v7=>Option.bind (aaC 200000 (bits .or .u64 (IntKind.wrap .u64 ((IntKind.wrap .u64 v6.1.2.1)*(4294967296:Int))) (IntKind.wrap .u64 v6.1.1)) 64 v7) fun v8=>some v8:=by kernel_rfl
theorem ayx (a:Arr Int 16)(ks:List (List Bool))(b:List Bool)(ha:a.l=ks.map fun k=>((toW k:Nat):Int))(hks:∀ k∈ks,k.length=48)(hb:b.length=64):agb 200000 a (toW b:Int)=some ((toW (api ks b):Nat):Int):=by
 have hl:ks.length=16:=by have:=a.h;rw [ha] at this;simpa using this
 have h1:=aex (N:=200000) b abh (by omega) (by omega) (by rw [hb];exact aub) (by decide) (by decide)
 rw [hb] at h1
 have hpl:(byM abh b).length=64:=by rw [aeC];rfl
 have hS:=arX b
 have hpb:=acn (byM abh b)
 rw [hpl] at hpb
 have h2:=amv (byM abh b) 32 (by omega)
 rw [hpl,show 64-32=32 from rfl] at h2
 have h3:=apj (byM abh b) 32 (by omega)
 rw [hpl,show 64-32=32 from rfl] at h3
 have h4:=aqi (toW (byM abh b)) 32
 have hlt:=acn ((byM abh b).take 32)
 rw [hS.1] at hlt
 have k1:IntKind.wrap .u32 (Int.fdiv (toW (byM abh b):Int) ((2:Int) ^ 32))=((toW ((byM abh b).take 32):Nat):Int):=by rw [h4,h2,w32 (by omega) (by omega)]
 have k2:IntKind.wrap .u32 (toW (byM abh b):Int)=((toW ((byM abh b).drop 32):Nat):Int):=by rw [IntKind.wrap_u32,←h3];omega
 generalize hs:((byM abh b).take 32,(byM abh b).drop 32)=s at *
 have hs1:(byM abh b).take 32=s.1:=by rw [←hs]
 have hs2:(byM abh b).drop 32=s.2:=by rw [←hs]
 have e1:adp 200000 ((aef,(ae1,((toW s.1:Int),((toW s.2:Int),(a,((0:Int),())))))),())=some (((toW (ks.foldl adg s).1:Int),((toW (ks.foldl adg s).2:Int),())),()):=by
  unfold adp
  have:=abu (G:=fun X c=>adm 200000 X c.1.1 c.1.2.1 c.1.2.2.1 c.1.2.2.2.1 c.1.2.2.2.2.1 c.1.2.2.2.2.2.1) (fun i=>((aef,(ae1,((toW ((ks.take i).foldl adg s).1:Int),((toW ((ks.take i).foldl adg s).2:Int),(a,((i:Int),())))))),())) 16 (((toW (ks.foldl adg s).1:Int),((toW (ks.foldl adg s).2:Int),())),()) (fun Y i hi=> ?_) (fun Y=> ?_) 200000 0 (Nat.zero_le _) (by decide)
  ·exact this
  ·have d1:decide ((i:Int)<(16:Int))=true:=decide_eq_true (by omega)
   have hil:i<ks.length:=by omega
   have hg:getI a.l (i:Int)=some ((toW ks[i]:Nat):Int):=by rw [ha,aaG _ i (by simpa using hil)];simp
   have hF:=akM (ks.take i) hS
   have hk:=hks ks[i] (List.getElem_mem hil)
   have hkb:=acn ks[i]
   rw [hk] at hkb
   have hw:=aIQ ((ks.take i).foldl adg s).2 ks[i] (toW ks[i]) hF.2 hk (by omega) (Nat.mod_eq_of_lt hkb)
   have hx:=asj ((ks.take i).foldl adg s).1 (alU ((ks.take i).foldl adg s).2 ks[i]) (by rw [ako];exact hF.1) (by rw [hF.1];decide)
   have hst:(ks.take (i+1)).foldl adg s=adg ((ks.take i).foldl adg s) ks[i]:=by rw [←List.take_append_getElem hil,List.foldl_append];rfl
   have hw2:IntKind.wrap .i64 ((i:Int)+1)=((i+1:Nat):Int):=by rw [aab (by omega) (by omega)];omega
   simp only [adm,d1,cond_true,hg,Option.bind_some,hw,hx,hw2,hst,adg]
  ·have ht:ks.take 16=ks:=by rw [←hl];exact List.take_length
   simp only [ht]
   rfl
 have hF:=akM ks hS
 generalize hf:ks.foldl adg s=t at *
 have b1:=acn t.1
 have b2:=acn t.2
 rw [hF.1] at b1
 rw [hF.2] at b2
 have hor:=ajw t.2 t.1 (by rw [hF.1,hF.2];decide)
 rw [hF.1] at hor
 have hor:bits .or .u64 (IntKind.wrap .u64 (((toW t.2:Nat):Int)*(4294967296:Int))) ((toW t.1:Nat):Int)=((toW (t.2++t.1):Nat):Int):=hor
 have hcl:(t.2++t.1).length=64:=by rw [List.length_append,hF.1,hF.2]
 have h5:=aex (N:=200000) (t.2++t.1) aqR (by omega) (by omega) (by rw [hcl];exact azi) (by decide) (by decide)
 rw [hcl] at h5
 rw [aqP,aIS,aFE,aJx]
 simp only [Option.bind_some]
 rw [show aaC 200000 (toW b:Int) (64:Int) abh=_ from h1]
 simp only [Option.bind_some]
 rw [k1,k2,hs1,hs2,e1]
 simp only [Option.bind_some]
 rw [aaz (x:=((toW t.2:Nat):Int)) (by omega) (by omega),aaz (x:=((toW t.1:Nat):Int)) (by omega) (by omega),hor]
 rw [show aaC 200000 ((toW (t.2++t.1):Nat):Int) (64:Int) aqR=_ from h5]
 simp only [Option.bind_some]
 unfold api
 rw [hs,hf]
theorem ayr (b:Int)(l:List (List Int)):ahg 200000 b l=Option.bind (acj 200000 b 64) fun v3=>Option.bind (abL 200000 v3 abh) fun v4=>Option.bind (abV v4 (32:Int)) fun v5=>Option.bind (abe v4 (32:Int)) fun v6=>Option.bind (ad1 200000 ((l,(v5,(v6,((0:Int),())))),())) fun v7=>bif aac (List.length v7.1.2.1) 1 then (bif aac ((List.length v7.1.2.1)+(List.length v7.1.1)) 1 then (Option.bind (abL 200000 (v7.1.2.1++v7.1.1) aqR) fun v8=>Option.bind (adK 200000 v8) fun v9=>some v9) else none) else none:=by kernel_rfl
theorem aIX (ks:List (List Bool))(b:List Bool)(hl:ks.length≤16)(hks:∀ k∈ks,k.length=48)(hb:b.length=64):ahg 200000 (toW b:Int) (ks.map rI)=some ((toW (api ks b):Nat):Int):=by
 have hbb:=acn b
 rw [hb] at hbb
 have h0:acj 200000 (toW b:Int) (64:Int)=some (rI b):=by
  have:=atX (N:=200000) (toW b) 64 (by omega) (by decide) (by decide)
  rw [←hb,alG,hb] at this
  exact this
 have h1:=ax5 (N:=200000) b abh (by rw [hb];exact aub) (by omega) (by decide) (by decide)
 have hpl:(byM abh b).length=64:=by rw [aeC];rfl
 have hS:=arX b
 have h2:abV (rI (byM abh b)) (32:Int)=some (rI ((byM abh b).take 32)):=(acT (a:=(32:Int)) (rI (byM abh b)) (i:=32) rfl (by rw [aa6];omega)).trans (by rw [aln])
 have h3:abe (rI (byM abh b)) (32:Int)=some (rI ((byM abh b).drop 32)):=(adl (a:=(32:Int)) (rI (byM abh b)) (i:=32) rfl (by rw [aa6];omega)).trans (by rw [alo])
 generalize hs:((byM abh b).take 32,(byM abh b).drop 32)=s at *
 have hs1:(byM abh b).take 32=s.1:=by rw [←hs]
 have hs2:(byM abh b).drop 32=s.2:=by rw [←hs]
 have e1:ad1 200000 ((ks.map rI,(rI s.1,(rI s.2,((0:Int),())))),())=some ((rI (ks.foldl adg s).1,(rI (ks.foldl adg s).2,())),()):=by
  unfold ad1
  have:=abu (G:=fun X c=>ac2 200000 X c.1.1 c.1.2.1 c.1.2.2.1 c.1.2.2.2.1) (fun i=>((ks.map rI,(rI ((ks.take i).foldl adg s).1,(rI ((ks.take i).foldl adg s).2,((i:Int),())))),())) ks.length ((rI (ks.foldl adg s).1,(rI (ks.foldl adg s).2,())),()) (fun Y i hi=> ?_) (fun Y=> ?_) 200000 0 (Nat.zero_le _) (by omega)
  ·exact this
  ·have d1:decide ((i:Int)<((ks.map rI).length:Int))=true:=decide_eq_true (by simp;omega)
   have hg:getI (ks.map rI) (i:Int)=some (rI ks[i]):=by rw [aaG _ i (by simpa using hi)];simp
   have hF:=akM (ks.take i) hS
   have hk:=hks ks[i] (List.getElem_mem hi)
   have hw:=aIR ((ks.take i).foldl adg s).2 ks[i] hF.2 hk
   have hx:=atW (N:=200000) ((ks.take i).foldl adg s).1 (alU ((ks.take i).foldl adg s).2 ks[i]) (by rw [ako];exact hF.1) (by rw [hF.1];decide) (by decide)
   have hst:(ks.take (i+1)).foldl adg s=adg ((ks.take i).foldl adg s) ks[i]:=by rw [←List.take_append_getElem hi,List.foldl_append];rfl
   have hw2:IntKind.wrap .i64 ((i:Int)+1)=((i+1:Nat):Int):=by rw [aab (by omega) (by omega)];omega
   simp only [ac2,d1,cond_true,hg,Option.bind_some,hw,hx,hw2,hst,adg]
  ·have d1:decide ((ks.length:Int)<((ks.map rI).length:Int))=false:=decide_eq_false (by simp)
   simp only [ac2,d1,cond_false,List.take_length]
 have hF:=akM ks hS
 generalize hf:ks.foldl adg s=t at *
 have hcl:(t.2++t.1).length=64:=by rw [List.length_append,hF.1,hF.2]
 have h5:=ax5 (N:=200000) (t.2++t.1) aqR (by rw [hcl];exact azi) (by omega) (by decide) (by decide)
 have h6:=word_ok (N:=200000) (byM aqR (t.2++t.1)) (by rw [aeC];decide) (by decide)
 have r1:aac (rI t.2).length 1=true:=aar (by rw [aa6,hF.2];have:=aax;omega) (by rw [aa6,hF.2];decide)
 have r2:aac ((rI t.2).length+(rI t.1).length) 1=true:=aar (by rw [aa6,aa6,hF.2,hF.1];have:=aax;omega) (by rw [aa6,aa6,hF.2,hF.1];decide)
 rw [ayr,h0]
 simp only [Option.bind_some,h1,h2,h3,hs1,hs2,e1,r1,r2,cond_true,←aeM,h5,h6]
 unfold api
 rw [hs,hf]
theorem aIW (key b:List Bool)(hk:key.length=64)(hb:b.length=64):akV 200000 (toW key:Int) (toW b:Int)=some ((toW (api (amb key) b):Nat):Int):=by
 obtain ⟨a,h1,h2⟩:=aJy key hk
 unfold akV
 rw [h1]
 simp only [Option.bind_some]
 rw [ayx a (amb key) b h2 (fun k h=>arP h) hb]
 rfl
theorem aJZ (key b:List Bool)(hk:key.length=64)(hb:b.length=64):ahi 200000 (toW key:Int) (toW b:Int)=some ((toW (api (amb key) b):Nat):Int):=by
 unfold ahi
 rw [aJz key hk]
 simp only [Option.bind_some]
 rw [aIX (amb key) b (by rw [azz];decide) (fun k h=>arP h) hb]
 rfl
def stB (z a:Arr Int 16):Nat→Arr Int 16
 | 0=>z
 | i+1=>(stB z a i).set (15-i) (a.l.getD i 0)
theorem ao4:∀ (w x j:Nat),j<w→(aay w x).getD j false=x.testBit (w-1-j)
 | w+1,x,0,_=>by rw [aii,Nat.testBit_eq_decide_div_mod_eq];rfl
 | w+1,x,j+1,h=>by
  rw [aii]
  have:=ao4 w x j (by omega)
  rw [show w+1-1-(j+1)=w-1-j by omega,←this]
  rfl
variable {N:Nat}
def aa4 (l:List Int):List Bool:=l.flatMap fun x=>aay 8 x.toNat
theorem ald (l:List Int)(x:Int):aa4 (l++[x])=aa4 l++aay 8 x.toNat:=by simp [aa4]
theorem aoD (l:List Int)(x:Int):aa4 (x::l)=aay 8 x.toNat++aa4 l:=by simp [aa4]
theorem adZ:∀ l:List Int,(aa4 l).length=8*l.length
 | []=>rfl
 | x::l=>by rw [aoD,List.length_append,abS,adZ l,List.length_cons];omega
theorem aD8 {x:Int}(h:0≤x∧x<256):((toW (aay 8 x.toNat):Nat):Int)=x:=by rw [atQ (by omega)];omega
theorem azm (l:List Int)(hl:l.length≤8)(hB:AllB l)(hN:100≤N):aho N l=some ((toW (aa4 l):Nat):Int):=by
 have e1:agG N ((l,((0:Int),((0:Int),()))),())=some (((toW (aa4 l):Int),()),()):=by
  unfold agG
  have:=abu (G:=fun X c=>adM N X c.1.1 c.1.2.1 c.1.2.2.1) (fun i=>((l,(((toW (aa4 (l.take i)):Nat):Int),((i:Int),()))),())) l.length (((toW (aa4 l):Int),()),()) (fun X i hi=> ?_) (fun X=> ?_) N 0 (Nat.zero_le _) (by omega)
  ·exact this
  ·have d1:decide ((i:Int)<(l.length:Int))=true:=decide_eq_true (by omega)
   have hb:=hB.get i hi
   have ha:=acn (aa4 (l.take i))
   rw [adZ,List.length_take,Nat.min_eq_left (by omega)] at ha
   have hp:2 ^ (8*i)≤2 ^ 56:=Nat.pow_le_pow_right (by decide) (by omega)
   have h1:IntKind.wrap .u64 (((toW (aa4 (l.take i)):Nat):Int)*256)=((toW (aa4 (l.take i)):Nat):Int)*256:=aaz (by omega) (by omega)
   have h2:IntKind.wrap .u64 l[i]=l[i]:=aaz (by omega) (by omega)
   have h3:IntKind.wrap .u64 (((toW (aa4 (l.take i)):Nat):Int)*256+l[i])=((toW (aa4 (l.take (i+1))):Nat):Int):=by
    rw [aaz (by omega) (by omega),←List.take_append_getElem hi,ald,ajm,abS,Int.natCast_add,aD8 hb]
    omega
   simp only [adM,d1,cond_true,aaG l i hi,Option.bind_some,h1,h2,h3,aab (show -9223372036854775808≤(i:Int)+1 by omega) (show (i:Int)+1<9223372036854775808 by omega),Int.natCast_add,Int.natCast_one]
  ·have d1:decide ((l.length:Int)<(l.length:Int))=false:=decide_eq_false (by omega)
   simp only [adM,d1,cond_false,List.take_length]
 simp only [aho,e1,Option.bind_some]
theorem azN (l:List Int)(hl:l.length=8)(hB:AllB l)(hN:100≤N):aeI N l false=some (((toW (aa4 l):Nat):Int),0):=by
 have e1:ahX N ((l,(false,((0:Int),((8:Int),((0:Int),()))))),())=some (((toW (aa4 l):Int),()),()):=by
  unfold ahX
  have:=abu (G:=fun X c=>afW N X c.1.1 c.1.2.1 c.1.2.2.1 c.1.2.2.2.1 c.1.2.2.2.2.1) (fun i=>((l,(false,(((toW (aa4 (l.drop (8-i))):Nat):Int),((8:Int),((i:Int),()))))),())) 8 (((toW (aa4 l):Int),()),()) (fun X i hi=> ?_) (fun X=>rfl) N 0 (Nat.zero_le _) (by omega)
  ·have h0:l.drop (8-0)=[]:=List.drop_eq_nil_of_le (by omega)
   simp only [h0] at this
   exact this
  ·have d1:decide ((i:Int)<(8:Int))=true:=decide_eq_true (by omega)
   have hp:acK N (i:Int) ((l.length:Nat):Int) false=some ((7-i:Nat):Int):=by
    have a1:IntKind.wrap .i64 (((l.length:Nat):Int)-1)=7:=by rw [hl];rfl
    have a2:IntKind.wrap .i64 ((7:Int)-(i:Int))=((7-i:Nat):Int):=by rw [aab (by omega) (by omega)];omega
    simp only [acK,cond_false,a1,a2]
   have hil:7-i<l.length:=by omega
   have hb:=hB.get (7-i) hil
   have hw8:IntKind.wrap .i64 ((8:Int)*(i:Int))=((8*i:Nat):Int):=by rw [aab (by omega) (by omega)];omega
   have d2:decide ((0:Int)≤((8*i:Nat):Int))=true:=decide_eq_true (by omega)
   have hm:min (8*i) (IntKind.bits .u64)=8*i:=by show min _ 64=_;omega
   have hwb:IntKind.wrap .u64 l[7-i]=((toW (aay 8 l[7-i].toNat):Nat):Int):=by rw [aD8 hb];exact aaz (by omega) (by omega)
   have hrl:(aa4 (l.drop (8-i))).length=8*i:=by rw [adZ,List.length_drop];omega
   have hor:=ajw (aay 8 l[7-i].toNat) (aa4 (l.drop (8-i))) (by rw [abS,hrl];omega)
   have hdr:l.drop (8-(i+1))=l[7-i]::l.drop (8-i):=by
    have:=List.drop_eq_getElem_cons hil
    rw [show 8-(i+1)=7-i by omega,this,show 7-i+1=8-i by omega]
   rw [hrl,←aoD,←hdr,arz] at hor
   have hpw:(2:Int) ^ (8*i)=((2 ^ (8*i):Nat):Int):=by simp
   have hw2:IntKind.wrap .i64 ((i:Int)+1)=((i+1:Nat):Int):=by rw [aab (by omega) (by omega)];omega
   simp only [afW,d1,cond_true,hp,Option.bind_some,aaG l (7-i) hil,hw8,d2,Int.toNat_natCast,hm,hwb,hpw,hor,hw2]
 have c1:decide (((l.length:Nat):Int)<1)=false:=decide_eq_false (by omega)
 have c2:decide ((8:Int)<((l.length:Nat):Int))=false:=decide_eq_false (by omega)
 have hl8:((l.length:Nat):Int)=8:=by omega
 simp only [aeI,c1,c2,cond_false]
 rw [hl8,e1]
 rfl
def byB:Nat→Nat→List Int
 | 0,_=>[]
 | w+1,x=>byB w (x / 256)++[((x % 256:Nat):Int)]
theorem aqz:∀ w x,(byB w x).length=w
 | 0,_=>rfl
 | w+1,x=>by simp [byB,aqz w]
theorem auB:∀ (w x:Nat),byB (w+1) x=((x / 256 ^ w % 256:Nat):Int)::byB w x
 | 0,x=>by simp [byB]
 | w+1,x=>by
  rw [byB,auB w (x / 256),byB,Nat.div_div_eq_div_mul,←Nat.pow_succ']
  rfl
theorem aJU:∀ w x,AllB (byB w x)
 | 0,_=>AllB.nil
 | w+1,x=>(aJU w _).append (AllB.cons (by omega) AllB.nil)
theorem aJP (y:Nat)(hy:y<18446744073709551616):IntKind.wrap .u64 (Int.tdiv (y:Int) 256)=((y / 256:Nat):Int):=by
 rw [Int.tdiv_eq_ediv_of_nonneg (Int.natCast_nonneg _),aaz (by omega) (by omega)];omega
theorem aJo (y:Nat):IntKind.wrap .u8 (Int.tmod (y:Int) 256)=((y % 256:Nat):Int):=by
 rw [Int.tmod_eq_emod_of_nonneg (Int.natCast_nonneg _),atO (by omega) (by omega)];omega
theorem aKV (y:Nat):IntKind.wrap .u8 (y:Int)=((y % 256:Nat):Int):=by rw [IntKind.wrap_u8];omega
theorem set8 (v i:Nat)(hi:i<8):(List.replicate (8-i) (0:Int)++byB i v).set (7-i) ((v / 256 ^ i % 256:Nat):Int)=List.replicate (8-(i+1)) (0:Int)++byB (i+1) v:=by
 obtain ⟨k,hk⟩:∃ k,8-i=k+1:=⟨7-i,by omega⟩
 rw [hk,show 7-i=k by omega,ayQ,show 8-(i+1)=k by omega,auB]
theorem aJH (v i:Nat)(hi:i<8):∃ x,(List.replicate (8-i) (0:Int)++byB i v)[7-i]? =some x:=⟨_,List.getElem?_eq_getElem (by rw [List.length_append,List.length_replicate,aqz];omega)⟩
theorem aJv (v i:Nat)(hi:i≤8):(List.replicate (8-i) (0:Int)++byB i v).length=8:=by rw [List.length_append,List.length_replicate,aqz];omega
theorem aE3 (v:Nat)(hv:v<18446744073709551616)(hN:100≤N):abw N (v:Int) 8 false=some (byB 8 v,0):=by
 have e1:ad3 N (((v:Int),((8:Int),(false,((8:Int),((0:Int),()))))),(List.replicate 8 (0:Int),()))=some ((),(byB 8 v,())):=by
  unfold ad3
  have:=abu (G:=fun X c=>adx N X c.1.1 c.1.2.1 c.1.2.2.1 c.1.2.2.2.1 c.1.2.2.2.2.1 c.2.1) (fun i=>((((v / 256 ^ i:Nat):Int),((8:Int),(false,((8:Int),((i:Int),()))))),(List.replicate (8-i) (0:Int)++byB i v,()))) 8 ((),(byB 8 v,())) (fun X i hi=> ?_) (fun X=>rfl) N 0 (Nat.zero_le _) (by omega)
  ·simpa [byB] using this
  ·have d1:decide ((i:Int)<(8:Int))=true:=decide_eq_true (by omega)
   have hp:acK N (i:Int) (8:Int) false=some ((7-i:Nat):Int):=by
    have a1:IntKind.wrap .i64 ((8:Int)-1)=7:=rfl
    have a2:IntKind.wrap .i64 ((7:Int)-(i:Int))=((7-i:Nat):Int):=by rw [aab (by omega) (by omega)];omega
    simp only [acK,cond_false,a1,a2]
   have d2:decide ((0:Int)≤((7-i:Nat):Int)∧((7-i:Nat):Int)<((List.replicate (8-i) (0:Int)++byB i v).length:Int))=true:=decide_eq_true (by rw [aJv v i (by omega)];omega)
   obtain ⟨x,hx⟩:=aJH v i hi
   have hpw:(2:Int) ^ (min (Int.toNat (8:Int)) (IntKind.bits .u64))=(2:Int) ^ 8:=rfl
   have hf:Int.fdiv ((v / 256 ^ i:Nat):Int) ((2:Int) ^ 8)=((v / 256 ^ (i+1):Nat):Int):=by rw [aqi,Nat.div_div_eq_div_mul,show (2:Nat) ^ 8=256 from rfl,←Nat.pow_succ]
   have hw2:IntKind.wrap .i64 ((i:Int)+1)=((i+1:Nat):Int):=by rw [aab (by omega) (by omega)];omega
   simp only [adx,d1,cond_true,hp,Option.bind_some,d2,Int.toNat_natCast,hx,hpw,hf,aKV,set8 v i hi,hw2]
 have c3:aac (Int.toNat 8) 1=true:=by decide
 have hr:List.replicate (Int.toNat 8) (0:Int)=List.replicate 8 0:=rfl
 have hl8:((List.replicate 8 (0:Int)).length:Int)=8:=rfl
 unfold abw
 rw [decide_eq_false (show ¬ ((8:Int)<1) by decide),decide_eq_false (show ¬ ((8:Int)<8) by decide),decide_eq_true (show (0:Int)≤8∧(8:Int)≤8 by decide),c3,hr,hl8,e1]
 rfl
theorem aF2 (v:Nat)(hv:v<18446744073709551616)(hN:100≤N):aiN N (v:Int) 8=some (byB 8 v):=by
 have e1:agJ N (((v:Int),((7:Int),())),(List.replicate 8 (0:Int),()))=some ((),(byB 8 v,())):=by
  unfold agJ
  have:=abu (G:=fun X c=>aeL N X c.1.1 c.1.2.1 c.2.1) (fun i=>((((v / 256 ^ i:Nat):Int),((7:Int)-(i:Int),())),(List.replicate (8-i) (0:Int)++byB i v,()))) 8 ((),(byB 8 v,())) (fun X i hi=> ?_) (fun X=>rfl) N 0 (Nat.zero_le _) (by omega)
  ·simpa [byB] using this
  ·have d1:decide ((0:Int)≤(7:Int)-(i:Int))=true:=decide_eq_true (by omega)
   have d2:decide ((0:Int)≤(7:Int)-(i:Int)∧(7:Int)-(i:Int)<((List.replicate (8-i) (0:Int)++byB i v).length:Int))=true:=decide_eq_true (by rw [aJv v i (by omega)];omega)
   have ht:((7:Int)-(i:Int)).toNat=7-i:=by omega
   obtain ⟨x,hx⟩:=aJH v i hi
   have hf:((v / 256 ^ i / 256:Nat):Int)=((v / 256 ^ (i+1):Nat):Int):=by rw [Nat.div_div_eq_div_mul,Nat.pow_succ]
   have hw2:IntKind.wrap .i64 ((7:Int)-(i:Int)-1)=(7:Int)-((i+1:Nat):Int):=by rw [aab (by omega) (by omega)];omega
   simp only [aeL,d1,cond_true,Option.bind_some,d2,ht,hx,aJP _ (Nat.lt_of_le_of_lt (Nat.div_le_self v _) hv),hf,aJo,set8 v i hi,hw2]
 have c3:aac (Int.toNat 8) 1=true:=by decide
 have hr:List.replicate (Int.toNat 8) (0:Int)=List.replicate 8 0:=rfl
 have hw:IntKind.wrap .i64 ((8:Int)-1)=7:=rfl
 unfold aiN
 rw [decide_eq_true (show (0:Int)≤8∧(8:Int)≤8 by decide),c3,hr,hw,e1]
 rfl
def ab5 (s:List Bool×List Int)(b:Bool):List Bool×List Int:=if s.1.length+1=7 then ([],s.2++[((toW (s.1++[b]):Nat):Int)]) else (s.1++[b],s.2)
theorem azc (s:List Bool×List Int)(b:Bool)(h:s.1.length≤6):(ab5 s b).1.length≤6∧(ab5 s b).2.length≤s.2.length+1:=by
 unfold ab5
 split
 ·simp
 ·simp;omega
theorem apW:∀ (l:List Bool) (s:List Bool×List Int),s.1.length≤6→(l.foldl ab5 s).1.length≤6∧(l.foldl ab5 s).2.length≤s.2.length+l.length
 | [],s,h=>⟨h,by simp⟩
 | b::l,s,h=>by
  have h1:=azc s b h
  have h2:=apW l (ab5 s b) h1.1
  exact ⟨h2.1,by rw [List.foldl_cons,List.length_cons];omega⟩
theorem or8b:∀ a:Nat,a<64→∀ x:Nat,x<2→bits .or .u8 (IntKind.wrap .u8 ((a:Int)*(2:Int) ^ (min (Int.toNat (1:Int)) (IntKind.bits .u8)))) (x:Int)=((2*a+x:Nat):Int):=by decide +kernel
theorem aLo:∀ z:Nat,z<256→bits .and .u8 (z:Int) 1=((z % 2:Nat):Int):=by decide +kernel
theorem az7 (key:List Int)(i:Nat)(b:Int)(hb:0≤b∧b<256)(s:List Bool×List Int)(hs:s.1.length≤6)(hs2:s.2.length≤1000)(hN:100≤N):
  aaH N (((8:Int),(b,(key,((7:Int),((i:Int),((8:Int),((0:Int),()))))))),((7:Int),(((toW s.1:Nat):Int),((s.1.length:Int),(s.2,())))))=
   some (((8:Int),(key,((7:Int),((i:Int),())))),((7:Int),(((toW ((aay 8 b.toNat).foldl ab5 s).1:Nat):Int),((((aay 8 b.toNat).foldl ab5 s).1.length:Int),(((aay 8 b.toNat).foldl ab5 s).2,()))))):=by
 obtain ⟨m,rfl⟩:∃ m:Nat,b=m:=⟨b.toNat,by omega⟩
 rw [Int.toNat_natCast]
 have hbl:=abS 8 m
 unfold aaH
 have:=abu (G:=fun X c=>aaf N X c.1.1 c.1.2.1 c.1.2.2.1 c.1.2.2.2.1 c.1.2.2.2.2.1 c.1.2.2.2.2.2.1 c.1.2.2.2.2.2.2.1 c.2.1 c.2.2.1 c.2.2.2.1 c.2.2.2.2.1)
  (fun j=>(((8:Int),((m:Int),(key,((7:Int),((i:Int),((8:Int),((j:Int),()))))))),((7:Int),(((toW (((aay 8 m).take j).foldl ab5 s).1:Nat):Int),(((((aay 8 m).take j).foldl ab5 s).1.length:Int),((((aay 8 m).take j).foldl ab5 s).2,())))))) 8
  (((8:Int),(key,((7:Int),((i:Int),())))),((7:Int),(((toW ((aay 8 m).foldl ab5 s).1:Nat):Int),((((aay 8 m).foldl ab5 s).1.length:Int),(((aay 8 m).foldl ab5 s).2,()))))) (fun X j hj=> ?_) (fun X=> ?_) N 0 (Nat.zero_le _) (by omega)
 ·exact this
 ·have hjl:j<(aay 8 m).length:=by omega
  have hst:((aay 8 m).take (j+1)).foldl ab5 s=ab5 (((aay 8 m).take j).foldl ab5 s) (aay 8 m)[j]:=by rw [←List.take_append_getElem hjl,List.foldl_append];rfl
  obtain ⟨a1,a2⟩:=apW ((aay 8 m).take j) s hs
  rw [List.length_take] at a2
  have hbit:(((aay 8 m)[j].toNat:Nat):Int)=((m / 2 ^ (7-j) % 2:Nat):Int):=by
   have:=ao4 8 m j hj
   rw [List.getD_eq_getElem?_getD,List.getElem?_eq_getElem hjl,Option.getD_some] at this
   rw [this,show 8-1-j=7-j by omega,Nat.testBit_eq_decide_div_mod_eq,←bitI]
  generalize hsj:((aay 8 m).take j).foldl ab5 s=t at *
  have d1:decide ((j:Int)<(8:Int))=true:=decide_eq_true (by omega)
  have hw:IntKind.wrap .i64 ((7:Int)-(j:Int))=((7-j:Nat):Int):=by rw [aab (by omega) (by omega)];omega
  have d2:decide ((0:Int)≤((7-j:Nat):Int))=true:=decide_eq_true (by omega)
  have hm:min (7-j) (IntKind.bits .u8)=7-j:=by show min _ 8=_;omega
  have hand:=aLo (m / 2 ^ (7-j)) (Nat.lt_of_le_of_lt (Nat.div_le_self _ _) (by omega))
  rw [←hbit] at hand
  have htl:=acn t.1
  have hp:2 ^ t.1.length≤2 ^ 6:=Nat.pow_le_pow_right (by decide) a1
  have hbt:(aay 8 m)[j].toNat<2:=by cases (aay 8 m)[j] <;> simp
  have hor:=or8b (toW t.1) (by omega) _ hbt
  rw [←adX] at hor
  have hw2:IntKind.wrap .i64 ((j:Int)+1)=((j+1:Nat):Int):=by rw [aab (by omega) (by omega)];omega
  have hw3:IntKind.wrap .i64 ((t.1.length:Int)+1)=((t.1.length+1:Nat):Int):=by rw [aab (by omega) (by omega)];omega
  have hrm:aac (t.2.length+[((toW (t.1++[(aay 8 m)[j]]):Nat):Int)].length) 1=true:=by
   simp only [List.length_cons,List.length_nil]
   exact aar (by have:=aax;omega) (by omega)
  by_cases h7:t.1.length+1=7
  ·have d3:decide (((t.1.length+1:Nat):Int)=(7:Int))=true:=decide_eq_true (by omega)
   have hps:ab5 t (aay 8 m)[j]=([],t.2++[((toW (t.1++[(aay 8 m)[j]]):Nat):Int)]):=by unfold ab5;rw [if_pos h7]
   simp only [aaf,d1,cond_true,hw,d2,hw3,d3,Int.toNat_natCast,hm,aqi,hand,hor,hrm,hw2,hst,hps]
   rfl
  ·have d3:decide (((t.1.length+1:Nat):Int)=(7:Int))=false:=decide_eq_false (by omega)
   have hps:ab5 t (aay 8 m)[j]=(t.1++[(aay 8 m)[j]],t.2):=by unfold ab5;rw [if_neg h7]
   simp only [aaf,d1,cond_true,cond_false,hw,d2,hw3,d3,Int.toNat_natCast,hm,aqi,hand,hor,hw2,hst,hps,List.length_append,List.length_cons,List.length_nil,Nat.zero_add]
 ·have ht:(aay 8 m).take 8=aay 8 m:=by have:=List.take_length (l:=aay 8 m);rwa [hbl] at this
  have d1:decide (((8:Nat):Int)<(8:Int))=false:=rfl
  simp only [aaf,d1,cond_false,ht]
theorem aCf:∀ (c:List Bool),c.length=7→∃ a b x d e f g,c=[a,b,x,d,e,f,g]
 | [a,b,x,d,e,f,g],_=>⟨a,b,x,d,e,f,g,rfl⟩
theorem aK4 (c rest:List Bool)(out:List Int)(h:c.length=7):(c++rest).foldl ab5 ([],out)=rest.foldl ab5 ([],out++[((toW c:Nat):Int)]):=by
 obtain ⟨a,b,c',d,e,f,g,rfl⟩:=aCf c h
 simp [ab5]
theorem at9:∀ (n:Nat) (K:List Bool) (out:List Int),K.length=7*n→(K.foldl ab5 ([],out)).2=out++(List.range n).map fun i=>((toW ((K.drop (7*i)).take 7):Nat):Int)
 | 0,K,out,h=>by rw [List.eq_nil_of_length_eq_zero h];simp
 | n+1,K,out,h=>by
  have hc:(K.take 7).length=7:=by rw [List.length_take];omega
  have:=aK4 (K.take 7) (K.drop 7) out hc
  rw [List.take_append_drop] at this
  rw [this,at9 n (K.drop 7) _ (by rw [List.length_drop];omega),List.range_succ_eq_map,List.map_cons,List.map_map,List.append_assoc]
  congr 1
  simp only [List.cons_append,List.nil_append,Nat.mul_zero,List.drop_zero]
  congr 1
  apply List.map_congr_left
  intro i _
  simp only [Function.comp,List.drop_drop]
  rw [show 7*Nat.succ i=7+7*i by omega]
noncomputable def od (s:Int):Int:=(ak5 200000 (IntKind.wrap .u8 (s*(2:Int) ^ (min (Int.toNat (1:Int)) (IntKind.bits .u8))))).getD 0
theorem azl:∀ s:Nat,s<128→ak5 200000 (IntKind.wrap .u8 ((s:Int)*(2:Int) ^ (min (Int.toNat (1:Int)) (IntKind.bits .u8))))=some (od (s:Int))∧aky 200000 (IntKind.wrap .u8 (IntKind.wrap .u64 ((2:Int)*(s:Int))))=some (od (s:Int))∧0≤od (s:Int)∧od (s:Int)<256:=by decide +kernel
def sev (key:List Int):List Int:=(List.range 8).map fun i=>((toW (((aa4 key).drop (7*i)).take 7):Nat):Int)
theorem ayP (key:List Int):∀ s∈sev key,∃ m:Nat,s=m∧m<128:=fun s hs=>by
 obtain ⟨i,_,rfl⟩:=List.mem_map.1 hs
 refine ⟨_,rfl, ?_⟩
 have:=acn (((aa4 key).drop (7*i)).take 7)
 have hp:2 ^ (((aa4 key).drop (7*i)).take 7).length≤2 ^ 7:=Nat.pow_le_pow_right (by decide) (by rw [List.length_take];omega)
 omega
theorem aCc (key:List Int)(hl:key.length=7)(hB:AllB key):agi 200000 key=some ((sev key).map od,0):=by
 have e1:aaJ 200000 (((8:Int),(key,((7:Int),((0:Int),())))),((7:Int),((0:Int),((0:Int),([],())))))=some ((),((7:Int),(((toW ((aa4 key).foldl ab5 ([],[])).1:Nat):Int),((((aa4 key).foldl ab5 ([],[])).1.length:Int),(((aa4 key).foldl ab5 ([],[])).2,()))))):=by
  unfold aaJ
  have:=abu (G:=fun X c=>aan 200000 X c.1.1 c.1.2.1 c.1.2.2.1 c.1.2.2.2.1 c.2.1 c.2.2.1 c.2.2.2.1 c.2.2.2.2.1)
   (fun i=>(((8:Int),(key,((7:Int),((i:Int),())))),((7:Int),(((toW ((aa4 (key.take i)).foldl ab5 ([],[])).1:Nat):Int),((((aa4 (key.take i)).foldl ab5 ([],[])).1.length:Int),(((aa4 (key.take i)).foldl ab5 ([],[])).2,())))))) 7
   ((),((7:Int),(((toW ((aa4 key).foldl ab5 ([],[])).1:Nat):Int),((((aa4 key).foldl ab5 ([],[])).1.length:Int),(((aa4 key).foldl ab5 ([],[])).2,()))))) (fun X i hi=> ?_) (fun X=> ?_) 200000 0 (Nat.zero_le _) (by decide)
  ·exact this
  ·have hil:i<key.length:=by omega
   have d1:decide ((i:Int)<(7:Int))=true:=decide_eq_true (by omega)
   obtain ⟨a1,a2⟩:=apW (aa4 (key.take i)) ([],[]) (by simp)
   rw [adZ,List.length_take] at a2
   have hst:(aa4 (key.take (i+1))).foldl ab5 ([],[])=(aay 8 key[i].toNat).foldl ab5 ((aa4 (key.take i)).foldl ab5 ([],[])):=by rw [←List.take_append_getElem hil,ald,List.foldl_append]
   have a2:((aa4 (key.take i)).foldl ab5 ([],[])).2.length≤1000:=by simp at a2;omega
   generalize (aa4 (key.take i)).foldl ab5 ([],[])=t at *
   have he:=az7 (N:=200000) key i key[i] (hB.get i hil) t a1 a2 (by decide)
   have hw2:IntKind.wrap .i64 ((i:Int)+1)=((i+1:Nat):Int):=by rw [aab (by omega) (by omega)];omega
   simp only [aan,d1,cond_true,aaG key i hil,Option.bind_some,he,hst,hw2]
  ·have ht:key.take 7=key:=by rw [←hl];exact List.take_length
   have d1:decide (((7:Nat):Int)<(7:Int))=false:=rfl
   simp only [aan,d1,cond_false,ht]
 have hp:=at9 8 (aa4 key) [] (by rw [adZ,hl])
 rw [List.nil_append] at hp
 have hp:((aa4 key).foldl ab5 ([],[])).2=sev key:=hp
 have hsl:(sev key).length=8:=by simp [sev]
 have hslt:=ayP key
 have e2:aff 200000 (((8:Int),((0:Int),())),(sev key,()))=some ((),((sev key).map od,())):=by
  unfold aff
  have:=abu (G:=fun X c=>acN 200000 X c.1.1 c.1.2.1 c.2.1) (fun i=>(((8:Int),((i:Int),())),(((sev key).take i).map od++(sev key).drop i,()))) 8 ((),((sev key).map od,())) (fun X i hi=> ?_) (fun X=> ?_) 200000 0 (Nat.zero_le _) (by decide)
  ·exact this
  ·have hil:i<(sev key).length:=by omega
   have hA:(((sev key).take i).map od).length=i:=by simp;omega
   have hlen:(((sev key).take i).map od++(sev key).drop i).length=8:=by rw [List.length_append,hA,List.length_drop];omega
   have d1:decide ((i:Int)<(8:Int))=true:=decide_eq_true (by omega)
   have d2:decide ((0:Int)≤(i:Int)∧(i:Int)<((((sev key).take i).map od++(sev key).drop i).length:Int))=true:=decide_eq_true (by rw [hlen];omega)
   have hg:(((sev key).take i).map od++(sev key).drop i)[i]? =some (sev key)[i]:=by
    rw [List.getElem?_append_right (by omega),hA,Nat.sub_self,List.getElem?_drop,Nat.add_zero,List.getElem?_eq_getElem hil]
   obtain ⟨m,hm,hm2⟩:=hslt _ (List.getElem_mem hil)
   have ho:=(azl m hm2).1
   rw [←hm] at ho
   have hset:=aEb (((sev key).take i).map od) (sev key) i (od (sev key)[i]) hA hil
   have hap:((sev key).take i).map od++[od (sev key)[i]]=((sev key).take (i+1)).map od:=by rw [←List.take_append_getElem hil,List.map_append];rfl
   rw [hap] at hset
   have hw2:IntKind.wrap .i64 ((i:Int)+1)=((i+1:Nat):Int):=by rw [aab (by omega) (by omega)];omega
   simp only [acN,d1,d2,cond_true,Int.toNat_natCast,hg,Option.bind_some,ho,hset,hw2]
  ·have ht:(sev key).take 8=sev key:=by rw [←hsl];exact List.take_length
   have hd:(sev key).drop 8=[]:=List.drop_eq_nil_of_le (by omega)
   have d1:decide (((8:Nat):Int)<(8:Int))=false:=rfl
   simp only [acN,d1,cond_false,ht,hd,List.append_nil]
 have c1:decide (((key.length:Nat):Int)=7)=true:=decide_eq_true (by omega)
 have hk7:((key.length:Nat):Int)=7:=by omega
 unfold agi
 rw [c1,hk7]
 simp only [Bool.not_true,cond_false]
 rw [e1]
 simp only [Option.bind_some]
 rw [hp,hsl]
 rw [show (((8:Nat):Int))=(8:Int) from rfl,e2]
 rfl
theorem aCd (key:List Int)(hl:key.length=7)(hB:AllB key):aeK 200000 key=some ((sev key).map od,0):=by
 have e1:aev 200000 ((key,((0:Int),())),([],()))=some ((),(rI (aa4 key),())):=by
  unfold aev
  have:=abu (G:=fun X c=>aci 200000 X c.1.1 c.1.2.1 c.2.1) (fun i=>((key,((i:Int),())),(rI (aa4 (key.take i)),()))) 7 ((),(rI (aa4 key),())) (fun X i hi=> ?_) (fun X=> ?_) 200000 0 (Nat.zero_le _) (by decide)
  ·exact this
  ·have hil:i<key.length:=by omega
   have d1:decide ((i:Int)<(7:Int))=true:=decide_eq_true (by omega)
   have hb:=hB.get i hil
   have hwb:IntKind.wrap .u64 key[i]=((key[i].toNat:Nat):Int):=by rw [aaz (by omega) (by omega)];omega
   have hr:acj 200000 ((key[i].toNat:Nat):Int) (8:Int)=some (rI (aay 8 key[i].toNat)):=atX _ 8 (by omega) (by decide) (by decide)
   have hrm:aac ((rI (aa4 (key.take i))).length+(rI (aay 8 key[i].toNat)).length) 1=true:=by
    rw [aa6,aa6,adZ,abS,List.length_take]
    exact aar (by have:=aax;omega) (by omega)
   have hap:rI (aa4 (key.take i))++rI (aay 8 key[i].toNat)=rI (aa4 (key.take (i+1))):=by rw [←List.take_append_getElem hil,ald,aeM]
   have hw2:IntKind.wrap .i64 ((i:Int)+1)=((i+1:Nat):Int):=by rw [aab (by omega) (by omega)];omega
   simp only [aci,d1,cond_true,aaG key i hil,Option.bind_some,hwb,hr,hrm,hap,hw2]
  ·have ht:key.take 7=key:=by rw [←hl];exact List.take_length
   have d1:decide (((7:Nat):Int)<(7:Int))=false:=rfl
   simp only [aci,d1,cond_false,ht]
 have hsl:(sev key).length=8:=by simp [sev]
 have hKl:(aa4 key).length=56:=by rw [adZ,hl]
 have e2:aet 200000 ((rI (aa4 key),((0:Int),())),([],()))=some ((),((sev key).map od,())):=by
  unfold aet
  have:=abu (G:=fun X c=>ach 200000 X c.1.1 c.1.2.1 c.2.1) (fun i=>((rI (aa4 key),((i:Int),())),(((sev key).take i).map od,()))) 8 ((),((sev key).map od,())) (fun X i hi=> ?_) (fun X=> ?_) 200000 0 (Nat.zero_le _) (by decide)
  ·exact this
  ·have hil:i<(sev key).length:=by omega
   have d1:decide ((i:Int)<(8:Int))=true:=decide_eq_true (by omega)
   have hw1:IntKind.wrap .i64 ((7:Int)*(i:Int))=((7*i:Nat):Int):=by rw [aab (by omega) (by omega)];omega
   have hw3:IntKind.wrap .i64 (((7*i:Nat):Int)+7)=((7*i+7:Nat):Int):=by rw [aab (by omega) (by omega)];omega
   have hs:subI (rI (aa4 key)) ((7*i:Nat):Int) ((7*i+7:Nat):Int)=some (rI (((aa4 key).drop (7*i)).take 7)):=by
    rw [aeG (rI (aa4 key)) rfl rfl (by omega) (by rw [aa6];omega),alo,aln,show 7*i+7-7*i=7 by omega]
   have hw:=word_ok (N:=200000) (((aa4 key).drop (7*i)).take 7) (by rw [List.length_take];omega) (by decide)
   have hse:((toW (((aa4 key).drop (7*i)).take 7):Nat):Int)=(sev key)[i]:=by simp [sev]
   obtain ⟨m,hm,hm2⟩:=ayP key _ (List.getElem_mem hil)
   have ho:=(azl m hm2).2.1
   rw [←hm] at ho
   have hrm:aac ((((sev key).take i).map od).length+[od (sev key)[i]].length) 1=true:=by
    simp only [List.length_map,List.length_take,List.length_cons,List.length_nil]
    exact aar (by have:=aax;omega) (by omega)
   have hap:((sev key).take i).map od++[od (sev key)[i]]=((sev key).take (i+1)).map od:=by rw [←List.take_append_getElem hil,List.map_append];rfl
   have hw2:IntKind.wrap .i64 ((i:Int)+1)=((i+1:Nat):Int):=by rw [aab (by omega) (by omega)];omega
   simp only [ach,d1,cond_true,hw1,hw3,hs,Option.bind_some,hw,hse,ho,hrm,hap,hw2]
  ·have ht:(sev key).take 8=sev key:=by rw [←hsl];exact List.take_length
   have d1:decide (((8:Nat):Int)<(8:Int))=false:=rfl
   simp only [ach,d1,cond_false,ht]
 have c1:decide (((key.length:Nat):Int)=7)=true:=decide_eq_true (by omega)
 unfold aeK
 rw [c1]
 simp only [Bool.not_true,cond_false]
 rw [e1]
 simp only [Option.bind_some]
 rw [e2]
 rfl
end Go.Proofs.YtkcdnjgieabjoaaGreatDoor.De
namespace Go.Proofs.YtkcdnjgieabjoaaGreatDoor.De
set_option maxRecDepth 100000
open Go.RowKit
set_option linter.unusedVariables false
set_option linter.unusedSimpArgs false
set_option maxRecDepth 100000
theorem seven8 (key block:List Int)(h1:AllB key)(h2:AllB block)(hk:key.length=7)(hb:block.length=8):∃ l,aeU 200000 key block=some (l,0)∧afM 200000 key block=some (l,0)∧l.length=8∧AllB l:=by
 unfold aeU afM
 have c1:decide (((key.length:Nat):Int)=7)=true:=decide_eq_true (by omega)
 rw [aCc key hk h1,aCd key hk h1,c1]
 simp only [Option.bind_some,decide_true,Bool.not_true,cond_false]
 have c2:decide (((block.length:Nat):Int)=8)=true:=decide_eq_true (by omega)
 rw [c2]
 simp only [Bool.not_true,cond_false]
 have hsl:((sev key).map od).length=8:=by simp [sev]
 have hsB:AllB ((sev key).map od):=fun x hx=>by
  obtain ⟨s,hs,rfl⟩:=List.mem_map.1 hx
  obtain ⟨m,rfl,hm⟩:=ayP key s hs
  exact (azl m hm).2.2
 generalize (sev key).map od=sp at *
 have hrk:(aa4 sp).length=64:=by rw [adZ,hsl]
 have hrb:(aa4 block).length=64:=by rw [adZ,hb]
 rw [azN sp hsl hsB (by decide),azN block hb h2 (by decide),azm sp (by omega) hsB (by decide),azm block (by omega) h2 (by decide)]
 simp only [Option.bind_some]
 rw [aIW _ _ hrk hrb,aJZ _ _ hrk hrb]
 simp only [Option.bind_some]
 have hv:=acn (api (amb (aa4 sp)) (aa4 block))
 rw [ays] at hv
 rw [aE3 _ (by omega) (by decide),aF2 _ (by omega) (by decide)]
 exact ⟨_,rfl,rfl,aqz _ _,aJU _ _⟩
end Go.Proofs.YtkcdnjgieabjoaaGreatDoor.De
namespace Go.Proofs.YtkcdnjgieabjoaaGreatDoor
set_option maxRecDepth 100000
set_option maxRecDepth 100000
theorem aC7:afk 200000=some (Arr.cons 0 (Arr.cons 1518500249 (Arr.cons 1859775393 Arr.nil))):=by kernel_rfl
end Go.Proofs.YtkcdnjgieabjoaaGreatDoor
namespace Go.Proofs.YtkcdnjgieabjoaaGreatDoor
set_option maxRecDepth 100000
open Go.RowKit
set_option linter.unusedVariables false
set_option linter.unusedSimpArgs false
set_option maxRecDepth 100000
def AllW (l:List Int):Prop:=∀ x∈l,0≤x∧x<4294967296
theorem AllW.get {l:List Int}(h:AllW l)(i:Nat)(hi:i<l.length):0≤l[i]∧l[i]<4294967296:=h _ (List.getElem_mem hi)
theorem AllW.set {l:List Int}(h:AllW l)(i:Nat){x:Int}(hx:0≤x∧x<4294967296):AllW (l.set i x):=fun y hy=>by
 rcases List.mem_or_eq_of_mem_set hy with h1 | rfl
 ·exact h y h1
 ·exact hx
theorem w32 (x:Int):IntKind.wrap .u32 x=x % 4294967296:=IntKind.wrap_u32 x
theorem w32r (x:Int):0≤IntKind.wrap .u32 x∧IntKind.wrap .u32 x<4294967296:=by rw [w32];omega
theorem or32r (a b:Int):0≤bits .or .u32 a b∧bits .or .u32 a b<4294967296:=w32r _
theorem not32 (b:Int)(h:0≤b∧b<4294967296):bits .xor .u32 (if IntKind.signed .u32=true then (-1) else IntKind.max .u32) b=IntKind.wrap .u32 (4294967295-b):=by
 obtain ⟨x,rfl⟩:=Int.eq_ofNat_of_zero_le h.1
 show IntKind.u32.wrap ((BitVec.ofInt 32 4294967295 ^^^ BitVec.ofInt 32 (x:Int)).toNat:Int)=_
 have e1:(BitVec.ofInt 32 4294967295:BitVec 32)=BitVec.allOnes 32:=by decide
 rw [e1,BitVec.allOnes_xor,BitVec.toNat_not,BitVec.ofInt_natCast,BitVec.toNat_ofNat,w32,w32]
 have:x % 2 ^ 32=x:=Nat.mod_eq_of_lt (by omega)
 rw [this]
 omega
theorem drop4 (l:List Int)(i:Nat)(h:i+4≤l.length):(l.drop i).take (i+4-i)=[l[i],l[i+1],l[i+2],l[i+3]]:=by
 rw [show i+4-i=4 by omega,List.drop_eq_getElem_cons (by omega),List.drop_eq_getElem_cons (by omega),List.drop_eq_getElem_cons (by omega),List.drop_eq_getElem_cons (by omega)]
 rfl
section
variable {N:Nat}
theorem aLd (u z y x:Int)(hx:0≤x∧x<256)(hy:0≤y∧y<256)(hz:0≤z∧z<256)(hu:0≤u∧u<256)(hN:100≤N):aeI N [u,z,y,x] true=some (((x*256+y)*256+z)*256+u,0):=by
 show aCm N [u,z,y,x] true=_
 obtain ⟨M,rfl⟩:∃ M,N=M+5:=⟨N-5,by omega⟩
 have w3:IntKind.wrap .i64 ((0:Int)+1)=1:=by decide
 have w4:IntKind.wrap .i64 ((1:Int)+1)=2:=by decide
 have w5:IntKind.wrap .i64 ((2:Int)+1)=3:=by decide
 have w6:IntKind.wrap .i64 ((3:Int)+1)=4:=by decide
 have m0:IntKind.wrap .i64 ((8:Int)*0)=0:=by decide
 have m1:IntKind.wrap .i64 ((8:Int)*1)=8:=by decide
 have m2:IntKind.wrap .i64 ((8:Int)*2)=16:=by decide
 have m3:IntKind.wrap .i64 ((8:Int)*3)=24:=by decide
 have x1:IntKind.wrap .u64 x=x:=aaz (by omega) (by omega)
 have y1:IntKind.wrap .u64 y=y:=aaz (by omega) (by omega)
 have z1:IntKind.wrap .u64 z=z:=aaz (by omega) (by omega)
 have u1:IntKind.wrap .u64 u=u:=aaz (by omega) (by omega)
 have e0:(2:Int) ^ min (Int.toNat 0) (IntKind.bits IntKind.u64)=1:=by decide
 have e1:(2:Int) ^ min (Int.toNat 8) (IntKind.bits IntKind.u64)=256:=by decide
 have e2:(2:Int) ^ min (Int.toNat 16) (IntKind.bits IntKind.u64)=65536:=by decide
 have e3:(2:Int) ^ min (Int.toNat 24) (IntKind.bits IntKind.u64)=16777216:=by decide
 have u2:IntKind.wrap .u64 (u*1)=u:=by rw [Int.mul_one];exact u1
 have z2:IntKind.wrap .u64 (z*256)=z*256:=aaz (by omega) (by omega)
 have y2:IntKind.wrap .u64 (y*65536)=y*65536:=aaz (by omega) (by omega)
 have x2:IntKind.wrap .u64 (x*16777216)=x*16777216:=aaz (by omega) (by omega)
 have o1:bits .or .u64 0 u=u:=by
  have:=ary 0 u 0 (by decide) (by decide) (by decide) (by omega) (by simp;omega)
  simpa using this
 have o2:bits .or .u64 u (z*256)=z*256+u:=ary u z 8 (by omega) (by show u.toNat<256;omega) (by omega) (by omega) (by show z.toNat*256<_;omega)
 have o3:bits .or .u64 (z*256+u) (y*65536)=y*65536+(z*256+u):=ary (z*256+u) y 16 (by omega) (by show (z*256+u).toNat<65536;omega) (by omega) (by omega) (by show y.toNat*65536<_;omega)
 have o4:bits .or .u64 (y*65536+(z*256+u)) (x*16777216)=x*16777216+(y*65536+(z*256+u)):=ary (y*65536+(z*256+u)) x 24 (by omega) (by show (y*65536+(z*256+u)).toNat<16777216;omega) (by omega) (by omega) (by show x.toNat*16777216<_;omega)
 have fin:x*16777216+(y*65536+(z*256+u))=((x*256+y)*256+z)*256+u:=by omega
 have g0:getI [u,z,y,x] (0:Int)=some u:=rfl
 have g1:getI [u,z,y,x] (1:Int)=some z:=rfl
 have g2:getI [u,z,y,x] (2:Int)=some y:=rfl
 have g3:getI [u,z,y,x] (3:Int)=some x:=rfl
 have l4:(([u,z,y,x]:List Int).length:Int)=4:=rfl
 rw [←fin]
 simp only [aCm,apU,gl,asN,aj5,l4,cond_false,cond_true,Option.bind_some,w3,w4,w5,w6,m0,m1,m2,m3,x1,y1,z1,u1,e0,e1,e2,e3,u2,z2,y2,x2,o1,o2,o3,o4,g0,g1,g2,g3]
 simp [w3,w4,w5,w6,m1,m2,m3,x1,y1,z1,u1,e1,e2,e3,z2,y2,x2,o2,o3,o4,g0,g1,g2,g3]
def lew (l:List Int)(j:Nat):Int:=((l.getD (4*j+3) 0*256+l.getD (4*j+2) 0)*256+l.getD (4*j+1) 0)*256+l.getD (4*j) 0
theorem AllB.getD {l:List Int}(h:AllB l)(i:Nat):0≤l.getD i 0∧l.getD i 0<256:=by
 rw [List.getD_eq_getElem?_getD]
 cases hq:l[i]? with
 | none=>simp
 | some x=>exact h x (List.mem_of_getElem? hq)
theorem aK6 {l:List Int}(h:AllB l)(j:Nat):0≤lew l j∧lew l j<4294967296:=by
 have h0:=h.getD (4*j);have h1:=h.getD (4*j+1);have h2:=h.getD (4*j+2);have h3:=h.getD (4*j+3)
 unfold lew;omega
theorem ai3 {l:List Int}{i:Nat}(h:i<l.length):l.getD i 0=l[i]:=by simp [List.getD_eq_getElem?_getD,h]
theorem aou (hN:10000≤N)(b:Arr Int 64)(hb:AllB b.l)(h0:Arr Int 16):∀ (k M i:Nat) (h1:Arr Int 16),k+i=16→k<M→(∀ j,j<i→h1.l[j]? =some (lew b.l j))→
  ∃ h2:Arr Int 16,(∀ j,j<16→h2.l[j]? =some (lew b.l j))∧gl (fun X c=>adQ N X c.1.1 c.1.2.1 c.2.1 c.2.2.1) M ((b,((i:Int),())),(h0,(h1,())))=some ((),(h0,(h2,())))
 | 0,M+1,i,h1,hk,hM,hw=>by
  have c1:¬ ((i:Int)<16):=by omega
  refine ⟨h1,fun j hj=>hw j (by omega), ?_⟩
  simp only [gl,adQ,c1,decide_false,cond_false]
 | k+1,M+1,i,h1,hk,hM,hw=>by
  have hl:=h1.h
  have hbl:=b.h
  have c1:((i:Int)<16):=by omega
  have c2:(0:Int)≤(i:Int)∧(i:Int)<((16:Nat):Int):=by omega
  have e0:IntKind.wrap .i64 ((i:Int)+1)=((i+1:Nat):Int):=by rw [aab (by omega) (by omega)];omega
  have e1:Int.toNat (i:Int)=i:=Int.toNat_natCast i
  have g1:h1.l[i]? =some (h1.l[i]'(by omega)):=List.getElem?_eq_getElem _
  have s1:IntKind.wrap .i64 ((4:Int)*(i:Int))=((4*i:Nat):Int):=by rw [aab (by omega) (by omega)];omega
  have s2:IntKind.wrap .i64 (((4*i:Nat):Int)+4)=((4*i+4:Nat):Int):=by rw [aab (by omega) (by omega)];omega
  have s6:subI b.l ((4*i:Nat):Int) ((4*i+4:Nat):Int)=some [b.l[4*i]'(by omega),b.l[4*i+1]'(by omega),b.l[4*i+2]'(by omega),b.l[4*i+3]'(by omega)]:=by
   rw [aeG b.l rfl rfl (by omega) (by omega),drop4 b.l (4*i) (by omega)]
  have ba:=hb.get (4*i) (by omega)
  have bb:=hb.get (4*i+1) (by omega)
  have bc:=hb.get (4*i+2) (by omega)
  have bd:=hb.get (4*i+3) (by omega)
  have s7:=aLd (N:=N) _ _ _ _ bd bc bb ba (by omega)
  have hlw:lew b.l i=((b.l[4*i+3]'(by omega)*256+b.l[4*i+2]'(by omega))*256+b.l[4*i+1]'(by omega))*256+b.l[4*i]'(by omega):=by
   unfold lew
   rw [ai3 (by omega),ai3 (by omega),ai3 (by omega),ai3 (by omega)]
  rw [←hlw] at s7
  have v1:IntKind.wrap .u32 (lew b.l i)=lew b.l i:=by have:=aK6 hb i;rw [w32];omega
  obtain ⟨h2,r1,r2⟩:=aou hN b hb h0 k M (i+1) (h1.set i (lew b.l i)) (by omega) (by omega) (fun j hj=>by
   show (h1.l.set i (lew b.l i))[j]? =_
   by_cases hji:j=i
   ·subst hji;rw [List.getElem?_set_self (by omega)]
   ·rw [List.getElem?_set_ne (by omega)];exact hw j (by omega))
  refine ⟨h2,r1, ?_⟩
  rw [aae]
  simp only [adQ,c1,decide_true,cond_true,s1,s2,s6,Option.bind_some,s7,c2,and_self,e1,g1,e0,v1]
  exact r2
theorem aB4 (hN:10000≤N)(b:Arr Int 64)(hb:AllB b.l):∃ W:Arr Int 16,(∀ j,j<16→W.l[j]? =some (lew b.l j))∧aiU N b=some W:=by
 obtain ⟨W,h1,h2⟩:=aou hN b hb ⟨List.replicate 16 0,rfl⟩ 16 N 0 ⟨List.replicate 16 0,rfl⟩ (by omega) (by omega) (fun j hj=>by omega)
 refine ⟨W,h1, ?_⟩
 have h2':ajR N ((b,((0:Int),())),((⟨List.replicate 16 0,rfl⟩:Arr Int 16),((⟨List.replicate 16 0,rfl⟩:Arr Int 16),())))=some ((),((⟨List.replicate 16 0,rfl⟩:Arr Int 16),(W,()))):=h2
 unfold aiU
 refine (congrArg (fun o=>Option.bind o _) h2').trans ?_
 rfl
end
theorem aCh (N:Nat)(x k:Int)(hk:k=3∨k=5∨k=7∨k=9∨k=11∨k=13∨k=15∨k=19):∃ r,0≤r∧r<4294967296∧abM N x k=some r∧aju N x k=some r:=by
 rcases hk with rfl | rfl | rfl | rfl | rfl | rfl | rfl | rfl
 ·exact ⟨bits .or .u32 (IntKind.wrap .u32 (x*8)) (Int.fdiv x 536870912),(or32r _ _).1,(or32r _ _).2,by kernel_rfl,by kernel_rfl⟩
 ·exact ⟨bits .or .u32 (IntKind.wrap .u32 (x*32)) (Int.fdiv x 134217728),(or32r _ _).1,(or32r _ _).2,by kernel_rfl,by kernel_rfl⟩
 ·exact ⟨bits .or .u32 (IntKind.wrap .u32 (x*128)) (Int.fdiv x 33554432),(or32r _ _).1,(or32r _ _).2,by kernel_rfl,by kernel_rfl⟩
 ·exact ⟨bits .or .u32 (IntKind.wrap .u32 (x*512)) (Int.fdiv x 8388608),(or32r _ _).1,(or32r _ _).2,by kernel_rfl,by kernel_rfl⟩
 ·exact ⟨bits .or .u32 (IntKind.wrap .u32 (x*2048)) (Int.fdiv x 2097152),(or32r _ _).1,(or32r _ _).2,by kernel_rfl,by kernel_rfl⟩
 ·exact ⟨bits .or .u32 (IntKind.wrap .u32 (x*8192)) (Int.fdiv x 524288),(or32r _ _).1,(or32r _ _).2,by kernel_rfl,by kernel_rfl⟩
 ·exact ⟨bits .or .u32 (IntKind.wrap .u32 (x*32768)) (Int.fdiv x 131072),(or32r _ _).1,(or32r _ _).2,by kernel_rfl,by kernel_rfl⟩
 ·exact ⟨bits .or .u32 (IntKind.wrap .u32 (x*524288)) (Int.fdiv x 8192),(or32r _ _).1,(or32r _ _).2,by kernel_rfl,by kernel_rfl⟩
def ks04:Arr Int 3:=Arr.cons 0 (Arr.cons 1518500249 (Arr.cons 1859775393 Arr.nil))
def ta04:List (Arr Int 4):=[⟨[3,7,11,19],rfl⟩,⟨[3,5,9,13],rfl⟩,⟨[3,9,11,15],rfl⟩]
def tl04:List (List Int):=[[3,7,11,19],[3,5,9,13],[3,9,11,15]]
section
variable {N:Nat}
theorem aLh (i:Nat)(hi:i<48):IntKind.wrap .i64 (Int.tdiv (i:Int) 16)=((i / 16:Nat):Int):=by
 rw [Int.tdiv_eq_ediv_of_nonneg (by omega),aab (by omega) (by omega)];omega
theorem mix_pair (q:Nat)(hq:q<3)(b c d:Int)(hb:0≤b∧b<4294967296):∃ m k,aiV N (q:Int) b c d=some m∧getI ks04.l (q:Int)=some k∧ahm N (q:Int) b c d=some (IntKind.wrap .u32 (m+k)):=by
 have hq:q=0∨q=1∨q=2:=by omega
 unfold aiV ahm
 rcases hq with rfl | rfl | rfl
 ·refine ⟨_,0,rfl,rfl, ?_⟩
  rw [not32 b hb]
  have h:=or32r (bits .and .u32 b c) (bits .and .u32 (IntKind.wrap .u32 (4294967295-b)) d)
  show some _=_
  congr 1
  generalize bits .or .u32 (bits .and .u32 b c) (bits .and .u32 (IntKind.wrap .u32 (4294967295-b)) d)=z at *
  rw [w32];omega
 ·exact ⟨_,1518500249,rfl,rfl,rfl⟩
 ·exact ⟨_,1859775393,rfl,rfl,rfl⟩
theorem azb:((List.range 48).all fun i=>match afX 0 (i:Int),adw 0 (i:Int) with | some a,some b=>decide (a=b)&&decide (0≤a)&&decide (a<16) | _,_=>false)=true:=by decide +kernel
theorem axu (i:Nat)(hi:i<48):∃ j:Nat,j<16∧afX N (i:Int)=some (j:Int)∧adw N (i:Int)=some (j:Int):=by
 have h:=List.all_eq_true.1 azb i (List.mem_range.2 hi)
 show ∃ j:Nat,j<16∧afX 0 (i:Int)=some (j:Int)∧adw 0 (i:Int)=some (j:Int)
 revert h
 generalize afX 0 (i:Int)=x
 generalize adw 0 (i:Int)=y
 intro h
 split at h
 ·rename_i a b
  simp only [Bool.and_eq_true,decide_eq_true_eq] at h
  obtain ⟨⟨rfl,h1⟩,h2⟩:=h
  exact ⟨a.toNat,by omega,by rw [Int.toNat_of_nonneg h1],by rw [Int.toNat_of_nonneg h1]⟩
 ·cases h
theorem axg (i:Nat)(hi:i<48):∃ (a:Arr Int 4) (l:List Int) (k:Int),getI ta04 ((i / 16:Nat):Int)=some a∧getI a.l (Int.tmod (i:Int) 4)=some k∧getI tl04 ((i / 16:Nat):Int)=some l∧getI l (Int.tmod (i:Int) 4)=some k∧
  (k=3∨k=5∨k=7∨k=9∨k=11∨k=13∨k=15∨k=19):=by
 have e:Int.tmod (i:Int) 4=((i % 4:Nat):Int):=by rw [Int.tmod_eq_emod_of_nonneg (by omega)];omega
 rw [e]
 have hq:i / 16=0∨i / 16=1∨i / 16=2:=by omega
 have hr:i % 4=0∨i % 4=1∨i % 4=2∨i % 4=3:=by omega
 rcases hq with hq | hq | hq <;> rcases hr with hr | hr | hr | hr <;> rw [hq,hr] <;> exact ⟨_,_,_,rfl,rfl,rfl,rfl,by decide⟩
theorem steps_pair (hN:10000≤N)(blk:Arr Int 64)(hB:AllB blk.l)(W:Arr Int 16)(hW:∀ j,j<16→W.l[j]? =some (lew blk.l j))(s:Arr Int 4)(h0 h0':Arr Int 4):∀ (k M i:Nat) (t:Arr Int 4),k+i=48→k<M→AllW t.l→
  ∃ t2:Arr Int 4,AllW t2.l∧gl (fun X c=>ac8 N X c.1.1 c.1.2.1 c.1.2.2.1 c.2.1 c.2.2.1 c.2.2.2.1) M ((s,(ks04,((i:Int),()))),(h0,(W,(t,()))))=some ((s,()),(h0,(t2,())))∧
   gl (fun X c=>acJ N X c.1.1 c.1.2.1 c.1.2.2.1 c.1.2.2.2.1 c.2.1 c.2.2.1) M ((s,(blk,(tl04,((i:Int),())))),(h0',(t,())))=some ((s,()),(h0',(t2,())))
 | 0,M+1,i,t,hk,hM,hw=>by
  have c1:¬ ((i:Int)<48):=by omega
  refine ⟨t,hw, ?_, ?_⟩
  ·simp only [gl,ac8,c1,decide_false,cond_false]
  ·simp only [gl,acJ,c1,decide_false,cond_false]
 | k+1,M+1,i,t,hk,hM,hw=>by
  have hbl:=blk.h
  have c1:((i:Int)<48):=by omega
  have e0:IntKind.wrap .i64 ((i:Int)+1)=((i+1:Nat):Int):=by rw [aab (by omega) (by omega)];omega
  have dq:=aLh i (by omega)
  obtain ⟨j,j1,j2,j3⟩:=axu (N:=N) i (by omega)
  obtain ⟨ar,lr,kk,k1,k2,k3,k4,k5⟩:=axg i (by omega)
  have c2:(0:Int)≤(j:Int)∧(j:Int)<((16:Nat):Int):=by omega
  have e1:Int.toNat (j:Int)=j:=Int.toNat_natCast j
  have g1:=hW j j1
  have s1:IntKind.wrap .i64 ((4:Int)*(j:Int))=((4*j:Nat):Int):=by rw [aab (by omega) (by omega)];omega
  have s3:IntKind.wrap .i64 (((4*j:Nat):Int)+1)=((4*j+1:Nat):Int):=by rw [aab (by omega) (by omega)];omega
  have s4:IntKind.wrap .i64 (((4*j:Nat):Int)+2)=((4*j+2:Nat):Int):=by rw [aab (by omega) (by omega)];omega
  have s5:IntKind.wrap .i64 (((4*j:Nat):Int)+3)=((4*j+3:Nat):Int):=by rw [aab (by omega) (by omega)];omega
  have ba:=hB.get (4*j) (by omega)
  have bb:=hB.get (4*j+1) (by omega)
  have bc:=hB.get (4*j+2) (by omega)
  have bd:=hB.get (4*j+3) (by omega)
  have G0:=aaG blk.l (4*j) (by omega)
  have G1:=aaG blk.l (4*j+1) (by omega)
  have G2:=aaG blk.l (4*j+2) (by omega)
  have G3:=aaG blk.l (4*j+3) (by omega)
  have hlw:lew blk.l j=((blk.l[4*j+3]'(by omega)*256+blk.l[4*j+2]'(by omega))*256+blk.l[4*j+1]'(by omega))*256+blk.l[4*j]'(by omega):=by
   unfold lew
   rw [ai3 (by omega),ai3 (by omega),ai3 (by omega),ai3 (by omega)]
  generalize lew blk.l j=wj at *
  generalize hx:blk.l[4*j]'(by omega)=x at *
  generalize hy:blk.l[4*j+1]'(by omega)=y at *
  generalize hz:blk.l[4*j+2]'(by omega)=z at *
  generalize hu:blk.l[4*j+3]'(by omega)=u at *
  have v2:IntKind.wrap .u32 (IntKind.wrap .u32 (IntKind.wrap .u32 (IntKind.wrap .u32 x+IntKind.wrap .u32 (IntKind.wrap .u32 y*256))+IntKind.wrap .u32 (IntKind.wrap .u32 z*65536))+IntKind.wrap .u32 (IntKind.wrap .u32 u*16777216))=wj:=by
   simp only [w32];omega
  match t,hw with
  | ⟨[a,b,c,d],ht⟩,hw=>
   have ra:=hw a (by simp)
   have rb:=hw b (by simp)
   have rc:=hw c (by simp)
   have rd:=hw d (by simp)
   obtain ⟨m,kc,m1,m2,m3⟩:=mix_pair (N:=N) (i / 16) (by omega) b c d rb
   have z0:([a,b,c,d]:List Int)[Int.toNat 0]? =some a:=rfl
   have z1:([a,b,c,d]:List Int)[Int.toNat 1]? =some b:=rfl
   have z2:([a,b,c,d]:List Int)[Int.toNat 2]? =some c:=rfl
   have z3:([a,b,c,d]:List Int)[Int.toNat 3]? =some d:=rfl
   have x1:IntKind.wrap .u32 (IntKind.wrap .u32 (a+IntKind.wrap .u32 (m+kc))+wj)=IntKind.wrap .u32 (IntKind.wrap .u32 (IntKind.wrap .u32 (a+m)+wj)+kc):=by
    simp only [w32];omega
   obtain ⟨r,r1,r2,r3,r4⟩:=aCh N (IntKind.wrap .u32 (IntKind.wrap .u32 (IntKind.wrap .u32 (a+m)+wj)+kc)) kk k5
   obtain ⟨t2,q1,q2,q3⟩:=steps_pair hN blk hB W hW s h0 h0' k M (i+1) (Arr.cons d (Arr.cons r (Arr.cons b (Arr.cons c Arr.nil)))) (by omega) (by omega) (fun x hx=>by
    simp only [Arr.cons,Arr.nil,List.mem_cons,List.not_mem_nil,or_false] at hx
    rcases hx with rfl | rfl | rfl | rfl
    ·exact rd
    ·exact ⟨r1,r2⟩
    ·exact rb
    ·exact rc)
   refine ⟨t2,q1, ?_, ?_⟩
   ·rw [aae]
    unfold ta04 at k1
    simp only [ac8,c1,decide_true,cond_true,z0,z1,z2,z3,Option.bind_some,dq,m1,j2,c2,and_self,e1,g1,m2,k1,k2,r3,e0]
    exact q2
   ·rw [aae]
    simp only [acJ,c1,decide_true,cond_true,z0,z1,z2,z3,Option.bind_some,dq,j3,s1,s3,s4,s5,G0,G1,G2,G3,m3,k3,k4,v2,x1,r4,e0]
    exact q3
theorem add_pair (hN:10000≤N)(s h0:Arr Int 4)(hs:AllW s.l):∀ (k M i:Nat) (t:Arr Int 4),k+i=4→k<M→AllW t.l→
  ∃ t2:Arr Int 4,AllW t2.l∧gl (fun X c=>acL N X c.1.1 c.1.2.1 c.2.1 c.2.2.1) M ((s,((i:Int),())),(h0,(t,())))=some ((),(h0,(t2,())))∧(gl (fun X c=>acg N X c.1.1 c.1.2.1 c.2.1 c.2.2.1) M ((s,((i:Int),())),(h0,(t,())))=some ((),(h0,(t2,()))))
 | 0,M+1,i,t,hk,hM,hw=>by
  have c1:¬ ((i:Int)<4):=by omega
  refine ⟨t,hw, ?_, ?_⟩
  ·simp only [gl,acL,c1,decide_false,cond_false]
  ·simp only [gl,acg,c1,decide_false,cond_false]
 | k+1,M+1,i,t,hk,hM,hw=>by
  have hl:=t.h
  have hsl:=s.h
  have c1:((i:Int)<4):=by omega
  have c2:(0:Int)≤(i:Int)∧(i:Int)<((4:Nat):Int):=by omega
  have e0:IntKind.wrap .i64 ((i:Int)+1)=((i+1:Nat):Int):=by rw [aab (by omega) (by omega)];omega
  have e1:Int.toNat (i:Int)=i:=Int.toNat_natCast i
  have g1:t.l[i]? =some (t.l[i]'(by omega)):=List.getElem?_eq_getElem _
  have g2:=aaG s.l i (by omega)
  obtain ⟨t2,r1,r2,r3⟩:=add_pair hN s h0 hs k M (i+1) (t.set i (IntKind.wrap .u32 (t.l[i]'(by omega)+s.l[i]'(by omega)))) (by omega) (by omega) (hw.set i (w32r _))
  refine ⟨t2,r1, ?_, ?_⟩
  ·rw [aae]
   simp only [acL,c1,decide_true,cond_true,c2,and_self,e1,g1,g2,e0,Option.bind_some]
   exact r2
  ·rw [aae]
   simp only [acg,c1,decide_true,cond_true,c2,and_self,e1,g1,g2,e0,Option.bind_some]
   exact r3
theorem behind_pair (hN:10000≤N)(s:Arr Int 4)(b:Arr Int 64)(hs:AllW s.l)(hb:AllB b.l):∃ t:Arr Int 4,AllW t.l∧aeA N s b ks04=some t∧afS N s b=some t:=by
 unfold aeA afS
 obtain ⟨W,w1,w2⟩:=aB4 (N:=N) hN b hb
 obtain ⟨t,t1,t2,t3⟩:=steps_pair (N:=N) hN b hb W w1 s ⟨List.replicate 4 0,rfl⟩ ⟨List.replicate 4 0,rfl⟩ 48 N 0 s (by omega) (by omega) hs
 have t2':aiX N ((s,(ks04,((0:Int),()))),((⟨List.replicate 4 0,rfl⟩:Arr Int 4),(W,(s,()))))=some ((s,()),((⟨List.replicate 4 0,rfl⟩:Arr Int 4),(t,()))):=t2
 have t3':aiq N ((s,(b,(tl04,((0:Int),())))),((⟨List.replicate 4 0,rfl⟩:Arr Int 4),(s,())))=some ((s,()),((⟨List.replicate 4 0,rfl⟩:Arr Int 4),(t,()))):=t3
 obtain ⟨u,u1,u2,u3⟩:=add_pair (N:=N) hN s ⟨List.replicate 4 0,rfl⟩ hs 4 N 0 t (by omega) (by omega) t1
 have u2':ais N ((s,((0:Int),())),((⟨List.replicate 4 0,rfl⟩:Arr Int 4),(t,())))=some ((),((⟨List.replicate 4 0,rfl⟩:Arr Int 4),(u,()))):=u2
 have u3':ahn N ((s,((0:Int),())),((⟨List.replicate 4 0,rfl⟩:Arr Int 4),(t,())))=some ((),((⟨List.replicate 4 0,rfl⟩:Arr Int 4),(u,()))):=u3
 refine ⟨u,u1, ?_, ?_⟩
 ·rw [w2,Option.bind_some]
  refine (congrArg (fun o=>Option.bind o _) t2').trans ?_
  simp only [Option.bind_some]
  refine (congrArg (fun o=>Option.bind o _) u2').trans ?_
  rfl
 ·refine (congrArg (fun o=>Option.bind o _) t3').trans ?_
  simp only [Option.bind_some]
  refine (congrArg (fun o=>Option.bind o _) u3').trans ?_
  rfl
end
def le8 (n:Int):List Int:=[n % 256,n / 256 % 256,n / 65536 % 256,n / 16777216 % 256,n / 4294967296 % 256,n / 1099511627776 % 256,n / 281474976710656 % 256,n / 72057594037927936 % 256]
theorem aK7 (n:Int):AllB (le8 n):=fun x hx=>by
 simp only [le8,List.mem_cons,List.not_mem_nil,or_false] at hx
 rcases hx with rfl | rfl | rfl | rfl | rfl | rfl | rfl | rfl <;> omega
section
variable {N:Nat}
theorem put8 (n:Int)(h:0≤n∧n<18446744073709551616)(hN:100≤N):abw N n 8 true=some (le8 n,0):=by
 obtain ⟨M,rfl⟩:∃ M,N=M+9:=⟨N-9,by omega⟩
 have r1:aac (Int.toNat 8) 1=true:=by decide
 have r2:List.replicate (Int.toNat 8) (0:Int)=[0,0,0,0,0,0,0,0]:=rfl
 have w1:IntKind.wrap .i64 ((8:Int)-1)=7:=by decide
 have v0:IntKind.wrap .i64 ((7:Int)-0)=7:=by decide
 have v1:IntKind.wrap .i64 ((7:Int)-1)=6:=by decide
 have v2:IntKind.wrap .i64 ((7:Int)-2)=5:=by decide
 have v3:IntKind.wrap .i64 ((7:Int)-3)=4:=by decide
 have v4:IntKind.wrap .i64 ((7:Int)-4)=3:=by decide
 have v5:IntKind.wrap .i64 ((7:Int)-5)=2:=by decide
 have v6:IntKind.wrap .i64 ((7:Int)-6)=1:=by decide
 have v7:IntKind.wrap .i64 ((7:Int)-7)=0:=by decide
 have w3:IntKind.wrap .i64 ((0:Int)+1)=1:=by decide
 have w4:IntKind.wrap .i64 ((1:Int)+1)=2:=by decide
 have w5:IntKind.wrap .i64 ((2:Int)+1)=3:=by decide
 have w6:IntKind.wrap .i64 ((3:Int)+1)=4:=by decide
 have w7:IntKind.wrap .i64 ((4:Int)+1)=5:=by decide
 have w8:IntKind.wrap .i64 ((5:Int)+1)=6:=by decide
 have w9:IntKind.wrap .i64 ((6:Int)+1)=7:=by decide
 have w10:IntKind.wrap .i64 ((7:Int)+1)=8:=by decide
 have e1:(2:Int) ^ min (Int.toNat 8) (IntKind.bits IntKind.u64)=256:=by decide
 have fd:∀ x:Int,Int.fdiv x 256=x / 256:=fun x=>Int.fdiv_eq_ediv_of_nonneg _ (by decide)
 have d2:n / 256 / 256=n / 65536:=by omega
 have d3:n / 65536 / 256=n / 16777216:=by omega
 have d4:n / 16777216 / 256=n / 4294967296:=by omega
 have d5:n / 4294967296 / 256=n / 1099511627776:=by omega
 have d6:n / 1099511627776 / 256=n / 281474976710656:=by omega
 have d7:n / 281474976710656 / 256=n / 72057594037927936:=by omega
 have u8:∀ x:Int,IntKind.wrap .u8 x=x % 256:=fun x=>by rw [IntKind.wrap_u8]
 simp only [abw,ad3,gl,adx,acK,r1,r2,e1,cond_false,cond_true,Option.bind_some,w1,v0,v1,v2,v3,v4,v5,v6,v7,w3,w4,w5,w6,w7,w8,w9,w10]
 simp [w1,v0,v1,v2,v3,v4,v5,v6,v7,w3,w4,w5,w6,w7,w8,w9,w10,fd,d2,d3,d4,d5,d6,d7,u8,le8]
def nz (n:Int):Nat:=((119-n % 64) % 64).toNat
def ajZ (n:Int):List Int:=[128]++List.replicate (nz n) 0++le8 (8*n % 18446744073709551616)
theorem nz_lt (n:Int):nz n<64:=by unfold nz;omega
theorem amx (n:Int):(ajZ n).length=nz n+9:=by simp [ajZ,le8]
theorem ayB (n:Int):AllB (ajZ n):=by
 refine AllB.append (AllB.append (AllB.cons (by omega) AllB.nil) fun x hx=> ?_) (aK7 _)
 rw [(List.mem_replicate.1 hx).2];omega
theorem as5 (n:Int)(h:0≤n∧n<18446744073709551616)(hN:10000≤N):akE N n=some (ajZ n):=by
 unfold akE
 have hw:IntKind.wrap .u64 ((8:Int)*n)=8*n % 18446744073709551616:=by rw [IntKind.wrap_u64]
 have hz:Int.tmod (IntKind.wrap .u64 ((119:Int)-Int.tmod n 64)) 64=((nz n:Nat):Int):=by
  have hm:Int.tmod n 64=n % 64:=Int.tmod_eq_emod_of_nonneg h.1
  rw [hm,aaz (by omega) (by omega),Int.tmod_eq_emod_of_nonneg (by omega)]
  unfold nz
  omega
 have hl:=nz_lt n
 have c1:((decide ((0:Int)≤((nz n:Nat):Int)∧((nz n:Nat):Int)≤((nz n:Nat):Int)))&&aac (nz n) 1)=true:=by
  have:aac (nz n) 1=true:=aar (by have:=aax;omega) (by omega)
  simp [this]
 rw [hw,put8 _ (by omega) (by omega),hz]
 simp only [Option.bind_some,c1,cond_true,Int.toNat_natCast]
 refine (ann (N:=N) [[128],List.replicate (nz n) 0,le8 (8*n % 18446744073709551616)] (by simp) ?_ ?_).trans ?_
 all_goals first | omega | skip
 ·simp [le8];omega
 ·simp [ajZ]
theorem zeros_ok (n:Int)(h:0≤n∧n<18446744073709551616):∀ (k M:Nat) (l:List Int),k<M→l.length+k<1000→(n+l.length+k) % 64=56→k<64→
  gl (fun X c=>abv N X c.1.1 c.2.1) M ((n,()),(l,()))=some ((n,()),(l++List.replicate k 0,()))
 | 0,M+1,l,hM,hl,hk,_=>by
  have e:Int.tmod (IntKind.wrap .u64 (n+IntKind.wrap .u64 (l.length:Int))) 64=56:=by
   rw [aaz (x:=(l.length:Int)) (by omega) (by omega),IntKind.wrap_u64,Int.tmod_eq_emod_of_nonneg (by omega)];omega
  rw [aae]
  simp only [abv,e,decide_true,Bool.not_true,cond_false,List.replicate_zero,List.append_nil]
 | k+1,M+1,l,hM,hl,hk,h64=>by
  have e:¬ Int.tmod (IntKind.wrap .u64 (n+IntKind.wrap .u64 (l.length:Int))) 64=56:=by
   rw [aaz (x:=(l.length:Int)) (by omega) (by omega),IntKind.wrap_u64,Int.tmod_eq_emod_of_nonneg (by omega)];omega
  have r:aac (l.length+([(0:Int)]:List Int).length) 1=true:=aar (by have:=aax;simp;omega) (by simp;omega)
  rw [aae]
  simp only [abv,e,decide_false,Bool.not_false,cond_true,r]
  refine (zeros_ok n h k M (l++[0]) (by omega) (by simp;omega) (by simp;omega) (by omega)).trans ?_
  rw [List.replicate_succ,List.append_assoc];rfl
theorem ref04_tail_ok (n:Int)(h:0≤n∧n<18446744073709551616)(hN:10000≤N):ac4 N n=some ([128]++List.replicate (nz n) 0++le8 (8*n % 18446744073709551616)):=by
 unfold ac4
 have hl:=nz_lt n
 have hz:=zeros_ok (N:=N) n h (nz n) N [128] (by omega) (by simp;omega) (by unfold nz;simp;omega) hl
 refine (congrArg (fun o=>Option.bind o _) hz).trans ?_
 simp only [Option.bind_some]
 have hw:IntKind.wrap .u64 ((8:Int)*n)=8*n % 18446744073709551616:=by rw [IntKind.wrap_u64]
 rw [hw]
 have hb:0≤8*n % 18446744073709551616∧8*n % 18446744073709551616<18446744073709551616:=by omega
 generalize 8*n % 18446744073709551616=m at *
 have hpl:([128]++List.replicate (nz n) (0:Int)).length=nz n+1:=by simp
 generalize [128]++List.replicate (nz n) (0:Int)=p at *
 obtain ⟨M,rfl⟩:∃ M,N=M+9:=⟨N-9,by omega⟩
 have dv:∀ x:Int,0≤x→x<18446744073709551616→IntKind.wrap .u64 (Int.tdiv x 256)=x / 256:=fun x h1 h2=>by
  rw [Int.tdiv_eq_ediv_of_nonneg h1,aaz (by omega) (by omega)]
 have md:∀ x:Int,0≤x→IntKind.wrap .u8 (Int.tmod x 256)=x % 256:=fun x h1=>by
  rw [Int.tmod_eq_emod_of_nonneg h1,atO (by omega) (by omega)]
 have st:∀ (K:Nat) (x:Int) (i:Nat) (q:List Int),i<8→0≤x→x<18446744073709551616→q.length<1000→gl (fun X c=>aa5 (M+9) X c.1.1 c.1.2.1 c.2.1) (K+1) ((x,((i:Int),())),(q,()))=gl (fun X c=>aa5 (M+9) X c.1.1 c.1.2.1 c.2.1) K ((x / 256,(((i+1:Nat):Int),())),(q++[x % 256],())):=fun K x i q hi h1 h2 hq=>by
  have c1:((i:Int)<8):=by omega
  have e0:IntKind.wrap .i64 ((i:Int)+1)=((i+1:Nat):Int):=by rw [aab (by omega) (by omega)];omega
  have r:∀ y:Int,aac (q.length+([y]:List Int).length) 1=true:=fun y=>aar (by have:=aax;simp;omega) (by simp;omega)
  rw [aae]
  simp only [aa5,c1,decide_true,cond_true,md x h1,r,dv x h1 h2,e0]
 have fin:∀ (K:Nat) (x:Int) (q:List Int),gl (fun X c=>aa5 (M+9) X c.1.1 c.1.2.1 c.2.1) (K+1) ((x,(((8:Nat):Int),())),(q,()))=some ((),(q,())):=fun K x q=>by
  rw [aae]
  rfl
 have all:afP (M+9) ((m,((0:Int),())),(p,()))=some ((),(p++le8 m,())):=by
  refine (st (M+8) m 0 p (by omega) hb.1 hb.2 (by omega)).trans ?_
  refine (st (M+7) _ 1 _ (by omega) (by omega) (by omega) (by simp;omega)).trans ?_
  refine (st (M+6) _ 2 _ (by omega) (by omega) (by omega) (by simp;omega)).trans ?_
  refine (st (M+5) _ 3 _ (by omega) (by omega) (by omega) (by simp;omega)).trans ?_
  refine (st (M+4) _ 4 _ (by omega) (by omega) (by omega) (by simp;omega)).trans ?_
  refine (st (M+3) _ 5 _ (by omega) (by omega) (by omega) (by simp;omega)).trans ?_
  refine (st (M+2) _ 6 _ (by omega) (by omega) (by omega) (by simp;omega)).trans ?_
  refine (st (M+1) _ 7 _ (by omega) (by omega) (by omega) (by simp;omega)).trans ?_
  refine (fin M _ _).trans ?_
  have d2:m / 256 / 256=m / 65536:=by omega
  have d3:m / 65536 / 256=m / 16777216:=by omega
  have d4:m / 16777216 / 256=m / 4294967296:=by omega
  have d5:m / 4294967296 / 256=m / 1099511627776:=by omega
  have d6:m / 1099511627776 / 256=m / 281474976710656:=by omega
  have d7:m / 281474976710656 / 256=m / 72057594037927936:=by omega
  simp only [d2,d3,d4,d5,d6,d7,List.append_assoc,List.cons_append,List.nil_append,le8]
 refine (congrArg (fun o=>Option.bind o _) all).trans ?_
 rfl
theorem an3 (n:Int)(h:0≤n∧n<18446744073709551616)(hN:10000≤N):ac4 N n=some (ajZ n):=ref04_tail_ok n h hN
end
theorem flat_len (m:List (List Int))(k:Nat)(h:∀ p∈m,p.length≤k):m.flatten.length≤k*m.length:=by
 induction m with
 | nil=>simp
 | cons p m ih=>
  have h1:=h p List.mem_cons_self
  have h2:=ih fun q hq=>h q (List.mem_cons_of_mem _ hq)
  rw [List.flatten_cons,List.length_append,List.length_cons,Nat.mul_add]
  omega
section
variable {N:Nat}
theorem joinS (l:List (List Int))(h0:Arr Int 16)(hl:l.length≤1000)(hs:∀ p∈l,p.length≤100000)(hN:2000≤N):
  ad5 N ((l,((0:Int),(l,((l.length:Int),((0:Int),()))))),(h0,()))=some ((l,((l.flatten.length:Int),())),(h0,()))∧
  ad4 N ((l,((l.length:Int),((0:Int),()))),(h0,(([]:List Int),())))=some ((),(h0,(l.flatten,()))):=by
 have tk:∀ i,(l.take i).flatten.length≤100000000:=fun i=>by
  have:=flat_len (l.take i) 100000 fun p hp=>hs p (List.mem_of_mem_take hp)
  rw [List.length_take] at this
  omega
 have hsn:∀ i (hi:i<l.length),(l.take (i+1)).flatten=(l.take i).flatten++l[i]:=fun i hi=>by
  have:l.take (i+1)=l.take i++[l[i]]:=by rw [List.take_add_one,List.getElem?_eq_getElem hi];rfl
  rw [this,List.flatten_append]
  simp
 have h1:=abu (G:=fun (X:((List (List Int)×Int×List (List Int)×Int×Int×Unit)×Arr Int 16×Unit)→Option ((List (List Int)×Int×Unit)×Arr Int 16×Unit)) c=>aa0 N X c.1.1 c.1.2.1 c.1.2.2.1 c.1.2.2.2.1 c.1.2.2.2.2.1 c.2.1)
  (fun i=>((l,(((l.take i).flatten.length:Int),(l,((l.length:Int),((i:Int),()))))),(h0,()))) l.length ((l,((l.flatten.length:Int),())),(h0,())) (fun X i hi=>by
  have c1:((i:Int)<(l.length:Int)):=by omega
  have c2:IntKind.wrap .i64 ((i:Int)+1)=((i+1:Nat):Int):=by rw [aab (by omega) (by omega)];omega
  have hp:=hs _ (List.getElem_mem hi)
  have ht:=tk i
  have c3:IntKind.wrap .i64 (((l.take i).flatten.length:Int)+(l[i].length:Int))=(((l.take (i+1)).flatten.length:Nat):Int):=by rw [aab (by omega) (by omega),hsn i hi,List.length_append];omega
  simp only [aa0,c1,decide_true,cond_true,aaG l i hi,Option.bind_some,c3,c2]) (fun X=>by
  simp [aa0]) N 0 (by omega) (by omega)
 have h2:=abu (G:=fun (X:((List (List Int)×Int×Int×Unit)×Arr Int 16×List Int×Unit)→Option (Unit×Arr Int 16×List Int×Unit)) c=>aaZ N X c.1.1 c.1.2.1 c.1.2.2.1 c.2.1 c.2.2.1)
  (fun i=>((l,((l.length:Int),((i:Int),()))),(h0,((l.take i).flatten,())))) l.length ((),(h0,(l.flatten,()))) (fun X i hi=>by
  have c1:((i:Int)<(l.length:Int)):=by omega
  have c2:IntKind.wrap .i64 ((i:Int)+1)=((i+1:Nat):Int):=by rw [aab (by omega) (by omega)];omega
  have hp:=hs _ (List.getElem_mem hi)
  have ht:=tk i
  have c3:aac ((l.take i).flatten.length+l[i].length) 1=true:=aar (by have:=aax;omega) (by omega)
  simp only [aaZ,c1,decide_true,cond_true,aaG l i hi,Option.bind_some,c3,c2,hsn i hi]) (fun X=>by
  simp [aaZ]) N 0 (by omega) (by omega)
 simp only [Int.natCast_zero,List.take_zero,List.flatten_nil,List.length_nil] at h1 h2
 exact ⟨h1,h2⟩
theorem aCn (n:Int)(h:0≤n∧n<4294967296)(hN:100≤N):abw N (IntKind.wrap .u64 n) 4 true=some ([n % 256,n / 256 % 256,n / 65536 % 256,n / 16777216 % 256],0):=by
 rw [aaz (by omega) (by omega)]
 show axt N n 4 true=_
 obtain ⟨M,rfl⟩:∃ M,N=M+5:=⟨N-5,by omega⟩
 have r1:aac (Int.toNat 4) 1=true:=by decide
 have r2:List.replicate (Int.toNat 4) (0:Int)=[0,0,0,0]:=rfl
 have w3:IntKind.wrap .i64 ((0:Int)+1)=1:=by decide
 have w4:IntKind.wrap .i64 ((1:Int)+1)=2:=by decide
 have w5:IntKind.wrap .i64 ((2:Int)+1)=3:=by decide
 have w6:IntKind.wrap .i64 ((3:Int)+1)=4:=by decide
 have e1:(2:Int) ^ min (Int.toNat 8) (IntKind.bits IntKind.u64)=256:=by decide
 have d1:Int.fdiv n 256=n / 256:=Int.fdiv_eq_ediv_of_nonneg n (by decide)
 have d2:Int.fdiv (n / 256) 256=n / 65536:=by rw [Int.fdiv_eq_ediv_of_nonneg _ (by decide)];omega
 have d3:Int.fdiv (n / 65536) 256=n / 16777216:=by rw [Int.fdiv_eq_ediv_of_nonneg _ (by decide)];omega
 have w7:IntKind.wrap .u8 n=n % 256:=by rw [IntKind.wrap_u8]
 have w8:IntKind.wrap .u8 (n / 256)=n / 256 % 256:=by rw [IntKind.wrap_u8]
 have w9:IntKind.wrap .u8 (n / 65536)=n / 65536 % 256:=by rw [IntKind.wrap_u8]
 have w10:IntKind.wrap .u8 (n / 16777216)=n / 16777216 % 256:=by rw [IntKind.wrap_u8]
 simp only [axt,amj,gl,apT,aj5,r1,r2,e1,cond_false,cond_true,Option.bind_some,w3,w4,w5,w6]
 simp [w3,w4,w5,w6,d1,d2,d3,w7,w8,w9,w10]
def by4 (n:Int):List Int:=[n % 256,n / 256 % 256,n / 65536 % 256,n / 16777216 % 256]
theorem by4_B (n:Int):AllB (by4 n):=fun x hx=>by
 simp only [by4,List.mem_cons,List.not_mem_nil,or_false] at hx
 rcases hx with rfl | rfl | rfl | rfl <;> omega
theorem digest_ok (a b c d:Int)(ht:([a,b,c,d]:List Int).length=4)(ha:AllW [a,b,c,d])(hN:10000≤N):∃ D:Arr Int 16,D.l=by4 a++by4 b++by4 c++by4 d∧ahs N ⟨[a,b,c,d],ht⟩=some D:=by
 obtain ⟨M,rfl⟩:∃ M,N=M+6:=⟨N-6,by omega⟩
 have pa:=aCn (N:=M+6) a (ha a (by simp)) (by omega)
 have pb:=aCn (N:=M+6) b (ha b (by simp)) (by omega)
 have pc:=aCn (N:=M+6) c (ha c (by simp)) (by omega)
 have pd:=aCn (N:=M+6) d (ha d (by simp)) (by omega)
 have w3:IntKind.wrap .i64 ((0:Int)+1)=1:=by decide
 have w4:IntKind.wrap .i64 ((1:Int)+1)=2:=by decide
 have w5:IntKind.wrap .i64 ((2:Int)+1)=3:=by decide
 have w6:IntKind.wrap .i64 ((3:Int)+1)=4:=by decide
 have z0:getI ([a,b,c,d]:List Int) 0=some a:=rfl
 have z1:getI ([a,b,c,d]:List Int) 1=some b:=rfl
 have z2:getI ([a,b,c,d]:List Int) 2=some c:=rfl
 have z3:getI ([a,b,c,d]:List Int) 3=some d:=rfl
 have l0:(decide ((0:Int)<4))=true:=rfl
 have l1:(decide ((1:Int)<4))=true:=rfl
 have l2:(decide ((2:Int)<4))=true:=rfl
 have l3:(decide ((3:Int)<4))=true:=rfl
 have rm:∀ (p:List Int) (u v x y:Int),p.length<100→aac (p.length+([u,v,x,y]:List Int).length) 1=true:=fun p u v x y hp=>aar (by have:=aax;simp;omega) (by simp;omega)
 have step:∀ (K:Nat) (i j:Int) (n:Int) (p:List Int) (h0:Arr Int 16),decide (i<4)=true→getI ([a,b,c,d]:List Int) i=some n→abw (M+6) (IntKind.wrap .u64 n) 4 true=some (by4 n,0)→IntKind.wrap .i64 (i+1)=j→p.length<100→
   gl (fun X c=>acv (M+6) X c.1.1 c.1.2.1 c.2.1 c.2.2.1) (K+1) (((⟨[a,b,c,d],ht⟩:Arr Int 4),(i,())),(h0,(p,())))=gl (fun X c=>acv (M+6) X c.1.1 c.1.2.1 c.2.1 c.2.2.1) K (((⟨[a,b,c,d],ht⟩:Arr Int 4),(j,())),(h0,(p++by4 n,()))):=fun K i j n p h0 q1 q2 q3 q4 q5=>by
  rw [aae]
  have r:=rm p (n % 256) (n / 256 % 256) (n / 65536 % 256) (n / 16777216 % 256) q5
  have r:aac (p.length+(by4 n).length) 1=true:=r
  simp only [acv,q1,cond_true,q2,Option.bind_some,q3,r,q4]
 have fin:∀ (K:Nat) (p:List Int) (h0:Arr Int 16),gl (fun X c=>acv (M+6) X c.1.1 c.1.2.1 c.2.1 c.2.2.1) (K+1) (((⟨[a,b,c,d],ht⟩:Arr Int 4),((4:Int),())),(h0,(p,())))=some ((),(h0,(p,()))):=fun K p h0=>by
  rw [aae];rfl
 have all:∀ h0:Arr Int 16,aiW (M+6) (((⟨[a,b,c,d],ht⟩:Arr Int 4),((0:Int),())),(h0,(([]:List Int),())))=some ((),(h0,(by4 a++by4 b++by4 c++by4 d,()))):=fun h0=>by
  refine (step (M+5) 0 1 a [] h0 l0 z0 pa w3 (by simp)).trans ?_
  refine (step (M+4) 1 2 b _ h0 l1 z1 pb w4 (by simp [by4])).trans ?_
  refine (step (M+3) 2 3 c _ h0 l2 z2 pc w5 (by simp [by4])).trans ?_
  refine (step (M+2) 3 4 d _ h0 l3 z3 pd w6 (by simp [by4])).trans ?_
  exact fin (M+1) _ h0
 have hl:(by4 a++by4 b++by4 c++by4 d).length=16:=by simp [by4]
 unfold ahs
 rw [all,Option.bind_some]
 refine ⟨⟨(by4 a++by4 b++by4 c++by4 d).take 16,by rw [List.length_take,hl];rfl⟩, ?_, ?_⟩
 ·exact List.take_of_length_le (by omega)
 ·have:ac1 16 (by4 a++by4 b++by4 c++by4 d)=some ⟨(by4 a++by4 b++by4 c++by4 d).take 16,by rw [List.length_take,hl];rfl⟩:=dif_pos (by omega)
  simp only [this,Option.bind_some]
end
theorem Arr.eq {α:Type}{n:Nat}{a b:Arr α n}(h:a.l=b.l):a=b:=by
 cases a;cases b;simp only at h;subst h;rfl
noncomputable def stepB (N:Nat)(t:Arr Int 4)(l:List Int):Option (Arr Int 4):=(ac1 64 l).bind fun a=>aeA N t a ks04
noncomputable def runB (N:Nat):Nat→Arr Int 4→List Int→Option (Arr Int 4)
 | 0,t,_=>some t
 | m+1,t,l=>(stepB N t (l.take 64)).bind fun t'=>runB N m t' (l.drop 64)
theorem toArr64 (l:List Int)(h:64≤l.length):∃ a:Arr Int 64,a.l=l.take 64∧ac1 64 (l.take 64)=some a:=by
 have h1:64≤(l.take 64).length:=by rw [List.length_take];omega
 refine ⟨⟨(l.take 64).take 64,by rw [List.length_take];omega⟩, ?_,dif_pos h1⟩
 exact List.take_of_length_le (by rw [List.length_take];omega)
section
variable {N:Nat}
theorem runB_some (hN:10000≤N):∀ (m:Nat) (t:Arr Int 4) (l:List Int),AllW t.l→AllB l→l.length=64*m→∃ t',AllW t'.l∧runB N m t l=some t'
 | 0,t,l,ht,_,_=>⟨t,ht,rfl⟩
 | m+1,t,l,ht,hl,hm=>by
  obtain ⟨a,a1,a2⟩:=toArr64 l (by omega)
  obtain ⟨t1,h1,h2,_⟩:=behind_pair (N:=N) hN t a ht (by rw [a1];exact hl.take 64)
  obtain ⟨t',h3,h4⟩:=runB_some hN m t1 (l.drop 64) h1 (hl.drop 64) (by rw [List.length_drop];omega)
  refine ⟨t',h3, ?_⟩
  unfold runB stepB
  rw [a2,Option.bind_some,h2,Option.bind_some,h4]
theorem loopOf (hN:10000≤N)(all:List Int)(ha:all.length<100000)(h0:Arr Int 16):∀ (m M i:Nat) (t t':Arr Int 4),m<M→all.length=i+64*m→runB N m t (all.drop i)=some t'→
  gl (fun X c=>aht N X c.1.1 c.1.2.1 c.2.1 c.2.2.1 c.2.2.2.1) M ((all,((i:Int),())),(h0,(t,(ks04,()))))=some ((),(h0,(t',())))
 | 0,M+1,i,t,t',hM,hi,hr=>by
  have c1:¬ ((i:Int)<(all.length:Int)):=by omega
  have hr:some t=some t':=hr
  injection hr with hr
  subst hr
  rw [aae]
  simp only [aht,c1,decide_false,cond_false]
 | m+1,M+1,i,t,t',hM,hi,hr=>by
  have c1:((i:Int)<(all.length:Int)):=by omega
  have e0:IntKind.wrap .i64 ((i:Int)+64)=((i+64:Nat):Int):=by rw [aab (by omega) (by omega)];omega
  have s1:subI all (i:Int) ((i+64:Nat):Int)=some ((all.drop i).take 64):=by
   rw [aeG all rfl rfl (by omega) (by omega)];congr 2;omega
  unfold runB stepB at hr
  cases hb:ac1 64 ((all.drop i).take 64) with
  | none=>rw [hb] at hr;cases hr
  | some a=>
   rw [hb,Option.bind_some] at hr
   cases hc:aeA N t a ks04 with
   | none=>rw [hc] at hr;cases hr
   | some t1=>
    rw [hc,Option.bind_some,List.drop_drop] at hr
    have ih:=loopOf hN all ha h0 m M (i+64) t1 t' (by omega) (by omega) (by rw [show i+64=i+64 from rfl];exact hr)
    rw [aae]
    simp only [aht,c1,decide_true,cond_true,e0,s1,Option.bind_some,hb,hc]
    exact ih
theorem fillOf (hN:10000≤N)(all:List Int)(ha:all.length<100000)(h0:Arr Int 16)(t:Arr Int 4)(x:Nat)(hx:x+64≤all.length):∀ (k M i:Nat) (blk:Arr Int 64),k+i=64→k<M→
  ∃ b2:Arr Int 64,b2.l=blk.l.take i++(all.drop (x+i)).take k∧gl (fun X c=>aeq N X c.1.1 c.1.2.1 c.2.1 c.2.2.1 c.2.2.2.1 c.2.2.2.2.1) M (((x:Int),((i:Int),())),(h0,(all,(t,(blk,())))))=some (((x:Int),()),(h0,(all,(t,(b2,())))))
 | 0,M+1,i,blk,hk,hM=>by
  have c1:¬ ((i:Int)<64):=by omega
  refine ⟨blk, ?_, ?_⟩
  ·rw [List.take_of_length_le (by rw [blk.h];omega),List.take_zero,List.append_nil]
  ·rw [aae]
   simp only [aeq,c1,decide_false,cond_false]
 | k+1,M+1,i,blk,hk,hM=>by
  have hbl:=blk.h
  have c1:((i:Int)<64):=by omega
  have e0:IntKind.wrap .i64 ((i:Int)+1)=((i+1:Nat):Int):=by rw [aab (by omega) (by omega)];omega
  have e2:IntKind.wrap .i64 ((x:Int)+(i:Int))=((x+i:Nat):Int):=by rw [aab (by omega) (by omega)];omega
  have c2:(0:Int)≤((x+i:Nat):Int)∧((x+i:Nat):Int)<(all.length:Int):=by omega
  have c3:(0:Int)≤(i:Int)∧(i:Int)<((64:Nat):Int):=by omega
  have e1:Int.toNat (i:Int)=i:=Int.toNat_natCast i
  have e3:Int.toNat ((x+i:Nat):Int)=x+i:=Int.toNat_natCast _
  have g1:all[x+i]? =some (all[x+i]'(by omega)):=List.getElem?_eq_getElem _
  have g2:blk.l[i]? =some (blk.l[i]'(by omega)):=List.getElem?_eq_getElem _
  obtain ⟨b2,h1,h2⟩:=fillOf hN all ha h0 t x hx k M (i+1) (blk.set i (all[x+i]'(by omega))) (by omega) (by omega)
  refine ⟨b2, ?_, ?_⟩
  ·rw [h1]
   have q1:(blk.set i (all[x+i]'(by omega))).l.take (i+1)=blk.l.take i++[all[x+i]'(by omega)]:=by
    show (blk.l.set i _).take (i+1)=_
    rw [List.take_add_one,List.take_set_of_le (Nat.le_refl _),List.getElem?_set_self (by omega)]
    rfl
   rw [q1,List.append_assoc]
   congr 1
   rw [List.drop_eq_getElem_cons (show x+i<all.length by omega),List.take_succ_cons]
   rfl
  ·rw [aae]
   simp only [aeq,c1,decide_true,cond_true,e2,c2,and_self,e3,g1,Option.bind_some,c3,e1,g2,e0]
   exact h2
theorem loopRef (hN:10000≤N)(all:List Int)(ha:all.length<100000)(hB:AllB all)(h0:Arr Int 16):∀ (m M i:Nat) (t t':Arr Int 4),m<M→all.length=i+64*m→AllW t.l→runB N m t (all.drop i)=some t'→
  gl (fun X c=>aer N X c.1.1 c.2.1 c.2.2.1 c.2.2.2.1) M (((i:Int),()),(h0,(all,(t,()))))=some ((),(h0,(t',())))
 | 0,M+1,i,t,t',hM,hi,hw,hr=>by
  have c1:¬ ((i:Int)<(all.length:Int)):=by omega
  have hr:some t=some t':=hr
  injection hr with hr
  subst hr
  rw [aae]
  simp only [aer,c1,decide_false,cond_false]
 | m+1,M+1,i,t,t',hM,hi,hw,hr=>by
  have c1:((i:Int)<(all.length:Int)):=by omega
  have e0:IntKind.wrap .i64 ((i:Int)+64)=((i+64:Nat):Int):=by rw [aab (by omega) (by omega)];omega
  obtain ⟨b2,f1,f2⟩:=fillOf (N:=N) hN all ha h0 t i (by omega) 64 N 0 ⟨List.replicate 64 0,rfl⟩ (by omega) (by omega)
  have f2':akw N (((i:Int),((0:Int),())),(h0,(all,(t,((⟨List.replicate 64 0,rfl⟩:Arr Int 64),())))))=some (((i:Int),()),(h0,(all,(t,(b2,()))))):=f2
  have f1':b2.l=(all.drop i).take 64:=by rw [f1];simp
  obtain ⟨a,a1,a2⟩:=toArr64 (all.drop i) (by rw [List.length_drop];omega)
  have hab:a=b2:=Arr.eq (by rw [a1,f1'])
  subst hab
  obtain ⟨t1,h1,h2,h3⟩:=behind_pair (N:=N) hN t a hw (by rw [a1];exact (hB.drop i).take 64)
  unfold runB stepB at hr
  rw [a2,Option.bind_some,h2,Option.bind_some,List.drop_drop] at hr
  have ih:=loopRef hN all ha hB h0 m M (i+64) t1 t' (by omega) (by omega) h1 hr
  rw [aae]
  simp only [aer,c1,decide_true,cond_true]
  refine (congrArg (fun o=>Option.bind o _) f2').trans ?_
  simp only [Option.bind_some,h3,e0]
  exact ih
def dg4 (a b c d:Int):List Int:=by4 a++by4 b++by4 c++by4 d
theorem aLi (a b c d:Int):AllB (dg4 a b c d):=AllB.append (AllB.append (AllB.append (by4_B a) (by4_B b)) (by4_B c)) (by4_B d)
theorem aJR (a b c d:Int)(i:Nat)(hi:i<16)(v:Int)(hv:([a,b,c,d]:List Int)[i / 4]? =some v):(dg4 a b c d)[i]? =some (IntKind.wrap .u8 (Int.fdiv v (2 ^ (8*(i % 4))))):=by
 have fd:∀ k:Nat,Int.fdiv v (2 ^ k)=v / 2 ^ k:=fun k=>Int.fdiv_eq_ediv_of_nonneg _ (Int.le_of_lt (Int.pow_pos (by decide)))
 rw [fd,IntKind.wrap_u8]
 have:i=0∨i=1∨i=2∨i=3∨i=4∨i=5∨i=6∨i=7∨i=8∨i=9∨i=10∨i=11∨i=12∨i=13∨i=14∨i=15:=by omega
 rcases this with rfl | rfl | rfl | rfl | rfl | rfl | rfl | rfl | rfl | rfl | rfl | rfl | rfl | rfl | rfl | rfl <;> simp at hv <;> subst hv <;> simp [dg4,by4]
theorem outRef (hN:10000≤N)(a b c d:Int)(ht:([a,b,c,d]:List Int).length=4)(h0:Arr Int 16):∀ (k M i:Nat) (o:Arr Int 16),k+i=16→k<M→
  ∃ D:Arr Int 16,D.l=o.l.take i++(dg4 a b c d).drop i∧gl (fun X c=>adJ N X c.1.1 c.2.1 c.2.2.1 c.2.2.2.1) M (((i:Int),()),(h0,((⟨[a,b,c,d],ht⟩:Arr Int 4),(o,()))))=some ((),(h0,(D,())))
 | 0,M+1,i,o,hk,hM=>by
  have c1:¬ ((i:Int)<16):=by omega
  have hol:=o.h
  refine ⟨o, ?_, ?_⟩
  ·rw [List.take_of_length_le (by omega),List.drop_eq_nil_of_le (by simp [dg4,by4];omega),List.append_nil]
  ·rw [aae]
   simp only [adJ,c1,decide_false,cond_false]
 | k+1,M+1,i,o,hk,hM=>by
  have hol:=o.h
  have c1:((i:Int)<16):=by omega
  have e0:IntKind.wrap .i64 ((i:Int)+1)=((i+1:Nat):Int):=by rw [aab (by omega) (by omega)];omega
  have f1:IntKind.wrap .i64 (Int.tdiv (i:Int) 4)=((i / 4:Nat):Int):=by
   rw [Int.tdiv_eq_ediv_of_nonneg (by omega),aab (by omega) (by omega)];omega
  have f0:IntKind.wrap .i64 ((8:Int)*Int.tmod (i:Int) 4)=((8*(i % 4):Nat):Int):=by
   rw [Int.tmod_eq_emod_of_nonneg (by omega),aab (by omega) (by omega)];omega
  have c2:(0:Int)≤((i / 4:Nat):Int)∧((i / 4:Nat):Int)<((4:Nat):Int):=by omega
  have c3:(0:Int)≤((8*(i % 4):Nat):Int):=by omega
  have c4:(0:Int)≤(i:Int)∧(i:Int)<((16:Nat):Int):=by omega
  have e1:Int.toNat (i:Int)=i:=Int.toNat_natCast i
  have e2:Int.toNat ((i / 4:Nat):Int)=i / 4:=Int.toNat_natCast _
  have e3:min (Int.toNat ((8*(i % 4):Nat):Int)) (IntKind.bits .u32)=8*(i % 4):=by
   rw [Int.toNat_natCast];show min _ 32=_;omega
  have g1:([a,b,c,d]:List Int)[i / 4]? =some (([a,b,c,d]:List Int)[i / 4]'(by simp;omega)):=List.getElem?_eq_getElem _
  have g2:o.l[i]? =some (o.l[i]'(by omega)):=List.getElem?_eq_getElem _
  have hd:=aJR a b c d i (by omega) _ g1
  generalize ([a,b,c,d]:List Int)[i / 4]'(by simp;omega)=v at *
  obtain ⟨D,h1,h2⟩:=outRef hN a b c d ht h0 k M (i+1) (o.set i (IntKind.wrap .u8 (Int.fdiv v (2 ^ (8*(i % 4)))))) (by omega) (by omega)
  refine ⟨D, ?_, ?_⟩
  ·rw [h1]
   have q1:(o.set i (IntKind.wrap .u8 (Int.fdiv v (2 ^ (8*(i % 4)))))).l.take (i+1)=o.l.take i++[IntKind.wrap .u8 (Int.fdiv v (2 ^ (8*(i % 4))))]:=by
    show (o.l.set i _).take (i+1)=_
    rw [List.take_add_one,List.take_set_of_le (Nat.le_refl _),List.getElem?_set_self (by omega)]
    rfl
   rw [q1,List.append_assoc]
   congr 1
   obtain ⟨hlt,hv⟩:=List.getElem?_eq_some_iff.1 hd
   rw [List.drop_eq_getElem_cons hlt,hv]
   rfl
  ·rw [aae]
   simp only [adJ,c1,decide_true,cond_true,f1,c2,and_self,e2,g1,Option.bind_some,f0,c3,c4,e1,g2,e0,e3]
   exact h2
end
def ah3:Arr Int 4:=Arr.cons 1732584193 (Arr.cons 4023233417 (Arr.cons 2562383102 (Arr.cons 271733878 Arr.nil)))
theorem first_W:AllW ah3.l:=fun x hx=>by
 simp only [ah3,Arr.cons,Arr.nil,List.mem_cons,List.not_mem_nil,or_false] at hx
 rcases hx with rfl | rfl | rfl | rfl <;> omega
def nb (n:Nat):Nat:=(n+(ajZ (n:Int)).length) / 64
theorem nb_ok (n:Nat)(l:List Int)(h:l.length=n):(l++ajZ (n:Int)).length=64*nb n:=by
 unfold nb
 rw [List.length_append,amx,h]
 unfold nz
 omega
theorem of_ok (l:List (List Int))(hl:l.length≤1000)(hs:∀ p∈l,p.length≤5000∧AllB p)(hf:l.flatten.length≤5000):
  ∃ a b c d ht,∃ D:Arr Int 16,runB 200000 (nb l.flatten.length) ah3 (l.flatten++ajZ (l.flatten.length:Int))=some ⟨[a,b,c,d],ht⟩∧AllW [a,b,c,d]∧D.l=dg4 a b c d∧alN 200000 l=some D:=by
 have hB:AllB l.flatten:=fun x hx=>by
  obtain ⟨p,hp,hx⟩:=List.mem_flatten.1 hx
  exact (hs p hp).2 x hx
 have hall:AllB (l.flatten++ajZ (l.flatten.length:Int)):=hB.append (ayB _)
 have hlen:=nb_ok l.flatten.length l.flatten rfl
 have htl:=amx (l.flatten.length:Int)
 have hnz:=nz_lt (l.flatten.length:Int)
 obtain ⟨t',t1,t2⟩:=runB_some (N:=200000) (by omega) (nb l.flatten.length) ah3 _ first_W hall hlen
 match t',t1,t2 with
 | ⟨[a,b,c,d],ht⟩,t1,t2=>
  obtain ⟨D,d1,d2⟩:=digest_ok (N:=200000) a b c d ht t1 (by omega)
  refine ⟨a,b,c,d,ht,D,t2,t1,d1, ?_⟩
  have hj:∀ h0,_:=fun h0=>joinS (N:=200000) l h0 hl (fun p hp=>by have:=(hs p hp).1;omega) (by omega)
  have hwn:IntKind.wrap .u64 (l.flatten.length:Int)=(l.flatten.length:Int):=aaz (by omega) (by omega)
  have htail:=as5 (N:=200000) (l.flatten.length:Int) (by omega) (by omega)
  have c4:(decide ((0:Int)≤(0:Int)∧(0:Int)≤(l.flatten.length:Int))&&aac (Int.toNat (l.flatten.length:Int)) 1)=true:=by
   rw [Bool.and_eq_true]
   exact ⟨decide_eq_true ⟨by omega,by omega⟩,aar (by have:=aax;omega) (by omega)⟩
  have c5:aac (l.flatten.length+(ajZ (l.flatten.length:Int)).length) 1=true:=aar (by have:=aax;omega) (by omega)
  have hloop:∀ h0,anj 200000 (((l.flatten++ajZ (l.flatten.length:Int)),((0:Int),())),(h0,(ah3,(ks04,()))))=some ((),(h0,((⟨[a,b,c,d],ht⟩:Arr Int 4),()))):=fun h0=>
   loopOf (N:=200000) (by omega) _ (by rw [List.length_append];omega) h0 (nb l.flatten.length) 200000 0 ah3 _ (by rw [List.length_append] at hlen;omega) (by rw [hlen];omega) t2
  have e0:List.replicate (Int.toNat 0) (0:Int)=[]:=rfl
  unfold alN
  rw [(hj _).1,Option.bind_some]
  simp only [c4,cond_true,e0]
  rw [(hj _).2,Option.bind_some]
  simp only [hwn]
  rw [htail,Option.bind_some]
  simp only [c5,cond_true,aC7,Option.bind_some]
  refine (congrArg (fun o=>Option.bind o _) (hloop _)).trans ?_
  simp only [Option.bind_some,d2]
theorem refOf_ok (b:List Int)(hb:AllB b)(hl:b.length≤1000){a c d e:Int}{ht:([a,c,d,e]:List Int).length=4}(hr:runB 200000 (nb b.length) ah3 (b++ajZ (b.length:Int))=some ⟨[a,c,d,e],ht⟩):
  ∃ D:Arr Int 16,D.l=dg4 a c d e∧agr 200000 b=some D:=by
 have htl:=amx (b.length:Int)
 have hnz:=nz_lt (b.length:Int)
 have hlen:=nb_ok b.length b rfl
 have hwn:IntKind.wrap .u64 (b.length:Int)=(b.length:Int):=aaz (by omega) (by omega)
 have htail:=an3 (N:=200000) (b.length:Int) (by omega) (by omega)
 have c0:aac b.length 1=true:=aar (by have:=aax;omega) (by omega)
 have c5:aac (b.length+(ajZ (b.length:Int)).length) 1=true:=aar (by have:=aax;omega) (by omega)
 obtain ⟨D,d1,d2⟩:=outRef (N:=200000) (by omega) a c d e ht ⟨List.replicate 16 0,rfl⟩ 16 200000 0 ⟨List.replicate 16 0,rfl⟩ (by omega) (by omega)
 have hloop:akx 200000 (((0:Int),()),((⟨List.replicate 16 0,rfl⟩:Arr Int 16),((b++ajZ (b.length:Int)),(ah3,()))))=some ((),((⟨List.replicate 16 0,rfl⟩:Arr Int 16),((⟨[a,c,d,e],ht⟩:Arr Int 4),()))):=
  loopRef (N:=200000) (by omega) _ (by rw [List.length_append];omega) (hb.append (ayB _)) _ (nb b.length) 200000 0 ah3 _ (by rw [List.length_append] at hlen;omega) (by rw [hlen];omega) first_W hr
 have hout:ajO 200000 (((0:Int),()),((⟨List.replicate 16 0,rfl⟩:Arr Int 16),((⟨[a,c,d,e],ht⟩:Arr Int 4),((⟨List.replicate 16 0,rfl⟩:Arr Int 16),()))))=some ((),((⟨List.replicate 16 0,rfl⟩:Arr Int 16),(D,()))):=d2
 refine ⟨D,by simpa using d1, ?_⟩
 unfold agr
 simp only [c0,cond_true,hwn,htail,Option.bind_some,c5]
 refine (congrArg (fun o=>Option.bind o _) hloop).trans ?_
 simp only [Option.bind_some]
 refine (congrArg (fun o=>Option.bind o _) hout).trans ?_
 rfl
theorem wfB_b {n:Nat}(a:Arr Int n)(h:AllB a.l):wfB (.arr n (.int .u8)) a=true:=List.all_eq_true.2 fun x hx=>by
 have h1:=h x hx
 show (Lit.int .u8 x).wf=true
 simp only [Lit.wf,Bool.and_eq_true,decide_eq_true_eq,IntKind.min,IntKind.max,IntKind.signed,IntKind.bits]
 simp
 omega
end Go.Proofs.YtkcdnjgieabjoaaGreatDoor
namespace Go.Proofs.YtkcdnjgieabjoaaGreatDoor.Sh
set_option maxRecDepth 100000
set_option maxRecDepth 100000
theorem aC6:aeH 200000=some (Arr.cons 1518500249 (Arr.cons 1859775393 (Arr.cons 2400959708 (Arr.cons 3395469782 Arr.nil)))):=by kernel_rfl
end Go.Proofs.YtkcdnjgieabjoaaGreatDoor.Sh
namespace Go.Proofs.YtkcdnjgieabjoaaGreatDoor.Sh
set_option maxRecDepth 100000
open Go.RowKit
set_option linter.unusedVariables false
set_option linter.unusedSimpArgs false
set_option maxRecDepth 100000
def AllW (l:List Int):Prop:=∀ x∈l,0≤x∧x<4294967296
theorem AllW.get {l:List Int}(h:AllW l)(i:Nat)(hi:i<l.length):0≤l[i]∧l[i]<4294967296:=h _ (List.getElem_mem hi)
theorem AllW.set {l:List Int}(h:AllW l)(i:Nat){x:Int}(hx:0≤x∧x<4294967296):AllW (l.set i x):=fun y hy=>by
 rcases List.mem_or_eq_of_mem_set hy with h1 | rfl
 ·exact h y h1
 ·exact hx
theorem w32 (x:Int):IntKind.wrap .u32 x=x % 4294967296:=IntKind.wrap_u32 x
theorem w32r (x:Int):0≤IntKind.wrap .u32 x∧IntKind.wrap .u32 x<4294967296:=by rw [w32];omega
theorem or32r (a b:Int):0≤bits .or .u32 a b∧bits .or .u32 a b<4294967296:=w32r _
theorem not32 (b:Int)(h:0≤b∧b<4294967296):bits .xor .u32 (if IntKind.signed .u32=true then (-1) else IntKind.max .u32) b=IntKind.wrap .u32 (4294967295-b):=by
 obtain ⟨x,rfl⟩:=Int.eq_ofNat_of_zero_le h.1
 show IntKind.u32.wrap ((BitVec.ofInt 32 4294967295 ^^^ BitVec.ofInt 32 (x:Int)).toNat:Int)=_
 have e1:(BitVec.ofInt 32 4294967295:BitVec 32)=BitVec.allOnes 32:=by decide
 rw [e1,BitVec.allOnes_xor,BitVec.toNat_not,BitVec.ofInt_natCast,BitVec.toNat_ofNat,w32,w32]
 have:x % 2 ^ 32=x:=Nat.mod_eq_of_lt (by omega)
 rw [this]
 omega
theorem drop4 (l:List Int)(i:Nat)(h:i+4≤l.length):(l.drop i).take (i+4-i)=[l[i],l[i+1],l[i+2],l[i+3]]:=by
 rw [show i+4-i=4 by omega,List.drop_eq_getElem_cons (by omega),List.drop_eq_getElem_cons (by omega),List.drop_eq_getElem_cons (by omega),List.drop_eq_getElem_cons (by omega)]
 rfl
section
variable {N:Nat}
theorem aLe (x y z u:Int)(hx:0≤x∧x<256)(hy:0≤y∧y<256)(hz:0≤z∧z<256)(hu:0≤u∧u<256)(hN:100≤N):aeI N [x,y,z,u] false=some (((x*256+y)*256+z)*256+u,0):=get4 x y z u hx hy hz hu hN
theorem q1:(2:Int) ^ min (Int.toNat (bits .and .u64 (IntKind.wrap .u64 1) 31)) (IntKind.bits .u32)=2:=by decide +kernel
theorem q2:(2:Int) ^ min (Int.toNat (IntKind.wrap .u64 (32-bits .and .u64 (IntKind.wrap .u64 1) 31))) (IntKind.bits .u32)=2147483648:=by decide +kernel
theorem q3:(2:Int) ^ min (Int.toNat 1) (IntKind.bits .u32)=2:=by decide +kernel
theorem q4:(2:Int) ^ min (Int.toNat (IntKind.wrap .i64 (32-1))) (IntKind.bits .u32)=2147483648:=by decide +kernel
theorem ak9 (hN:10000≤N)(b:Arr Int 64)(hb:AllB b.l)(s:Arr Int 5)(h0:Arr Int 80)(h0':Arr Int 5):∀ (k M i:Nat) (h1:Arr Int 80),k+i=80→k<M→AllW h1.l→
  ∃ h2:Arr Int 80,AllW h2.l∧gl (fun X c=>acr N X c.1.1 c.1.2.1 c.2.1 c.2.2.1) M ((b,((i:Int),())),(h0,(h1,())))=some ((),(h0,(h2,())))∧
   gl (fun X c=>abY N X c.1.1 c.1.2.1 c.1.2.2.1 c.2.1 c.2.2.1) M ((s,(b,((i:Int),()))),(h0',(h1,())))=some ((s,()),(h0',(h2,())))
 | 0,M+1,i,h1,hk,hM,hw=>by
  have c1:¬ ((i:Int)<80):=by omega
  refine ⟨h1,hw, ?_, ?_⟩
  ·simp only [gl,acr,c1,decide_false,cond_false]
  ·simp only [gl,abY,c1,decide_false,cond_false]
 | k+1,M+1,i,h1,hk,hM,hw=>by
  have hl:=h1.h
  have hbl:=b.h
  have c1:((i:Int)<80):=by omega
  have c2:(0:Int)≤(i:Int)∧(i:Int)<((80:Nat):Int):=by omega
  have e0:IntKind.wrap .i64 ((i:Int)+1)=((i+1:Nat):Int):=by rw [aab (by omega) (by omega)];omega
  have e1:Int.toNat (i:Int)=i:=Int.toNat_natCast i
  have g1:h1.l[i]? =some (h1.l[i]'(by omega)):=List.getElem?_eq_getElem _
  by_cases h16:i<16
  ·have c3:((i:Int)<16):=by omega
   have s1:IntKind.wrap .i64 ((4:Int)*(i:Int))=((4*i:Nat):Int):=by rw [aab (by omega) (by omega)];omega
   have s2:IntKind.wrap .i64 (((4*i:Nat):Int)+4)=((4*i+4:Nat):Int):=by rw [aab (by omega) (by omega)];omega
   have s3:IntKind.wrap .i64 (((4*i:Nat):Int)+1)=((4*i+1:Nat):Int):=by rw [aab (by omega) (by omega)];omega
   have s4:IntKind.wrap .i64 (((4*i:Nat):Int)+2)=((4*i+2:Nat):Int):=by rw [aab (by omega) (by omega)];omega
   have s5:IntKind.wrap .i64 (((4*i:Nat):Int)+3)=((4*i+3:Nat):Int):=by rw [aab (by omega) (by omega)];omega
   have s6:subI b.l ((4*i:Nat):Int) ((4*i+4:Nat):Int)=some [b.l[4*i]'(by omega),b.l[4*i+1]'(by omega),b.l[4*i+2]'(by omega),b.l[4*i+3]'(by omega)]:=by
    rw [aeG b.l rfl rfl (by omega) (by omega),drop4 b.l (4*i) (by omega)]
   have ba:=hb.get (4*i) (by omega)
   have bb:=hb.get (4*i+1) (by omega)
   have bc:=hb.get (4*i+2) (by omega)
   have bd:=hb.get (4*i+3) (by omega)
   have s7:=aLe (N:=N) _ _ _ _ ba bb bc bd (by omega)
   have G0:=aaG b.l (4*i) (by omega)
   have G1:=aaG b.l (4*i+1) (by omega)
   have G2:=aaG b.l (4*i+2) (by omega)
   have G3:=aaG b.l (4*i+3) (by omega)
   generalize hx:b.l[4*i]'(by omega)=x at *
   generalize hy:b.l[4*i+1]'(by omega)=y at *
   generalize hz:b.l[4*i+2]'(by omega)=z at *
   generalize hu:b.l[4*i+3]'(by omega)=u at *
   have v1:IntKind.wrap .u32 (((x*256+y)*256+z)*256+u)=((x*256+y)*256+z)*256+u:=by rw [w32];omega
   have v2:IntKind.wrap .u32 (IntKind.wrap .u32 (IntKind.wrap .u32 (IntKind.wrap .u32 (IntKind.wrap .u32 x*16777216)+IntKind.wrap .u32 (IntKind.wrap .u32 y*65536))+IntKind.wrap .u32 (IntKind.wrap .u32 z*256))+IntKind.wrap .u32 u)=((x*256+y)*256+z)*256+u:=by
    simp only [w32];omega
   obtain ⟨h2,r1,r2,r3⟩:=ak9 hN b hb s h0 h0' k M (i+1) (h1.set i (((x*256+y)*256+z)*256+u)) (by omega) (by omega) (hw.set i (by omega))
   refine ⟨h2,r1, ?_, ?_⟩
   ·rw [aae]
    simp only [acr,c1,c3,decide_true,cond_true,s1,s2,s6,Option.bind_some,s7,c2,and_self,e1,g1,e0,v1]
    exact r2
   ·rw [aae]
    simp only [abY,c1,c3,decide_true,cond_true,s1,s3,s4,s5,G0,G1,G2,G3,Option.bind_some,c2,and_self,e1,g1,e0,v2]
    exact r3
  ·have c3:¬ ((i:Int)<16):=by omega
   have t1:IntKind.wrap .i64 ((i:Int)-3)=((i-3:Nat):Int):=by rw [aab (by omega) (by omega)];omega
   have t2:IntKind.wrap .i64 ((i:Int)-8)=((i-8:Nat):Int):=by rw [aab (by omega) (by omega)];omega
   have t3:IntKind.wrap .i64 ((i:Int)-14)=((i-14:Nat):Int):=by rw [aab (by omega) (by omega)];omega
   have t4:IntKind.wrap .i64 ((i:Int)-16)=((i-16:Nat):Int):=by rw [aab (by omega) (by omega)];omega
   have d1:(0:Int)≤((i-3:Nat):Int)∧((i-3:Nat):Int)<((80:Nat):Int):=by omega
   have d2:(0:Int)≤((i-8:Nat):Int)∧((i-8:Nat):Int)<((80:Nat):Int):=by omega
   have d3:(0:Int)≤((i-14:Nat):Int)∧((i-14:Nat):Int)<((80:Nat):Int):=by omega
   have d4:(0:Int)≤((i-16:Nat):Int)∧((i-16:Nat):Int)<((80:Nat):Int):=by omega
   have f1:Int.toNat ((i-3:Nat):Int)=i-3:=Int.toNat_natCast _
   have f2:Int.toNat ((i-8:Nat):Int)=i-8:=Int.toNat_natCast _
   have f3:Int.toNat ((i-14:Nat):Int)=i-14:=Int.toNat_natCast _
   have f4:Int.toNat ((i-16:Nat):Int)=i-16:=Int.toNat_natCast _
   have g2:h1.l[i-3]? =some (h1.l[i-3]'(by omega)):=List.getElem?_eq_getElem _
   have g3:h1.l[i-8]? =some (h1.l[i-8]'(by omega)):=List.getElem?_eq_getElem _
   have g4:h1.l[i-14]? =some (h1.l[i-14]'(by omega)):=List.getElem?_eq_getElem _
   have g5:h1.l[i-16]? =some (h1.l[i-16]'(by omega)):=List.getElem?_eq_getElem _
   generalize h1.l[i-3]'(by omega)=x at *
   generalize h1.l[i-8]'(by omega)=y at *
   generalize h1.l[i-14]'(by omega)=z at *
   generalize h1.l[i-16]'(by omega)=u at *
   obtain ⟨h2,r1,r2,r3⟩:=ak9 hN b hb s h0 h0' k M (i+1) (h1.set i (bits .or .u32 (IntKind.wrap .u32 (bits .xor .u32 (bits .xor .u32 (bits .xor .u32 x y) z) u*2)) (Int.fdiv (bits .xor .u32 (bits .xor .u32 (bits .xor .u32 x y) z) u) 2147483648))) (by omega) (by omega) (hw.set i (or32r _ _))
   refine ⟨h2,r1, ?_, ?_⟩
   ·rw [aae]
    simp only [acr,c1,c3,decide_true,decide_false,cond_true,cond_false,t1,t2,t3,t4,d1,d2,d3,d4,f1,f2,f3,f4,g2,g3,g4,g5,Option.bind_some,c2,and_self,e1,g1,e0,q1,q2]
    exact r2
   ·rw [aae]
    simp only [abY,c1,c3,decide_true,decide_false,cond_true,cond_false,t1,t2,t3,t4,d1,d2,d3,d4,f1,f2,f3,f4,g2,g3,g4,g5,Option.bind_some,c2,and_self,e1,g1,e0,q3,q4]
    exact r3
end
section
variable {N:Nat}
theorem q5:(2:Int) ^ min (Int.toNat (bits .and .u64 (IntKind.wrap .u64 5) 31)) (IntKind.bits .u32)=32:=by decide +kernel
theorem q6:(2:Int) ^ min (Int.toNat (IntKind.wrap .u64 (32-bits .and .u64 (IntKind.wrap .u64 5) 31))) (IntKind.bits .u32)=134217728:=by decide +kernel
theorem q7:(2:Int) ^ min (Int.toNat 5) (IntKind.bits .u32)=32:=by decide +kernel
theorem q8:(2:Int) ^ min (Int.toNat (IntKind.wrap .i64 (32-5))) (IntKind.bits .u32)=134217728:=by decide +kernel
theorem q9:(2:Int) ^ min (Int.toNat (bits .and .u64 (IntKind.wrap .u64 30) 31)) (IntKind.bits .u32)=1073741824:=by decide +kernel
theorem q10:(2:Int) ^ min (Int.toNat (IntKind.wrap .u64 (32-bits .and .u64 (IntKind.wrap .u64 30) 31))) (IntKind.bits .u32)=4:=by decide +kernel
theorem q11:(2:Int) ^ min (Int.toNat 30) (IntKind.bits .u32)=1073741824:=by decide +kernel
theorem q12:(2:Int) ^ min (Int.toNat (IntKind.wrap .i64 (32-30))) (IntKind.bits .u32)=4:=by decide +kernel
def ks05:Arr Int 4:=Arr.cons 1518500249 (Arr.cons 1859775393 (Arr.cons 2400959708 (Arr.cons 3395469782 Arr.nil)))
theorem mix_pair (i:Nat)(hi:i<80)(b c d:Int)(hb:0≤b∧b<4294967296):∃ m k,ag6 N (IntKind.wrap .i64 (Int.tdiv (i:Int) 20)) b c d=some m∧getI ks05.l (IntKind.wrap .i64 (Int.tdiv (i:Int) 20))=some k∧aiK N (i:Int) b c d=some (IntKind.wrap .u32 (m+k)):=by
 have e:IntKind.wrap .i64 (Int.tdiv (i:Int) 20)=((i / 20:Nat):Int):=by
  rw [Int.tdiv_eq_ediv_of_nonneg (by omega),aab (by omega) (by omega)];omega
 unfold ag6 aiK
 rw [e]
 have hq:i / 20=0∨i / 20=1∨i / 20=2∨i / 20=3:=by omega
 rcases hq with hq | hq | hq | hq <;> rw [hq]
 ·exact ⟨_,1518500249,rfl,rfl,by rw [not32 b hb];rfl⟩
 ·exact ⟨_,1859775393,rfl,rfl,rfl⟩
 ·exact ⟨_,2400959708,rfl,rfl,rfl⟩
 ·exact ⟨_,3395469782,rfl,rfl,rfl⟩
theorem steps_pair (hN:10000≤N)(W:Arr Int 80)(hW:AllW W.l)(s:Arr Int 5)(h0:Arr Int 5)(h0':Arr Int 5):∀ (k M i:Nat) (t:Arr Int 5),k+i=80→k<M→AllW t.l→
  ∃ t2:Arr Int 5,AllW t2.l∧gl (fun X c=>acF N X c.1.1 c.1.2.1 c.1.2.2.1 c.2.1 c.2.2.1 c.2.2.2.1) M ((s,(ks05,((i:Int),()))),(h0,(W,(t,()))))=some ((s,()),(h0,(t2,())))∧
   gl (fun X c=>acf N X c.1.1 c.1.2.1 c.2.1 c.2.2.1 c.2.2.2.1) M ((s,((i:Int),())),(h0',(W,(t,()))))=some ((s,()),(h0',(t2,())))
 | 0,M+1,i,t,hk,hM,hw=>by
  have c1:¬ ((i:Int)<80):=by omega
  refine ⟨t,hw, ?_, ?_⟩
  ·simp only [gl,acF,c1,decide_false,cond_false]
  ·simp only [gl,acf,c1,decide_false,cond_false]
 | k+1,M+1,i,t,hk,hM,hw=>by
  have hWl:=W.h
  have c1:((i:Int)<80):=by omega
  have c2:(0:Int)≤(i:Int)∧(i:Int)<((80:Nat):Int):=by omega
  have e0:IntKind.wrap .i64 ((i:Int)+1)=((i+1:Nat):Int):=by rw [aab (by omega) (by omega)];omega
  have e1:Int.toNat (i:Int)=i:=Int.toNat_natCast i
  have g1:W.l[i]? =some (W.l[i]'(by omega)):=List.getElem?_eq_getElem _
  have hWi:=hW.get i (by omega)
  generalize W.l[i]'(by omega)=wi at *
  match t,hw with
  | ⟨[a,b,c,d,e],ht⟩,hw=>
   have ra:=hw a (by simp)
   have rb:=hw b (by simp)
   have rc:=hw c (by simp)
   have rd:=hw d (by simp)
   have re:=hw e (by simp)
   obtain ⟨m,kk,m1,m2,m3⟩:=mix_pair (N:=N) i (by omega) b c d rb
   have z0:([a,b,c,d,e]:List Int)[Int.toNat 0]? =some a:=rfl
   have z1:([a,b,c,d,e]:List Int)[Int.toNat 1]? =some b:=rfl
   have z2:([a,b,c,d,e]:List Int)[Int.toNat 2]? =some c:=rfl
   have z3:([a,b,c,d,e]:List Int)[Int.toNat 3]? =some d:=rfl
   have z4:([a,b,c,d,e]:List Int)[Int.toNat 4]? =some e:=rfl
   have x1:∀ r:Int,IntKind.wrap .u32 (IntKind.wrap .u32 (IntKind.wrap .u32 (IntKind.wrap .u32 (r+m)+e)+kk)+wi)=IntKind.wrap .u32 (IntKind.wrap .u32 (IntKind.wrap .u32 (r+IntKind.wrap .u32 (m+kk))+e)+wi):=fun r=>by
    simp only [w32];omega
   obtain ⟨t2,r1,r2,r3⟩:=steps_pair hN W hW s h0 h0' k M (i+1) (Arr.cons (IntKind.wrap .u32 (IntKind.wrap .u32 (IntKind.wrap .u32 (bits .or .u32 (IntKind.wrap .u32 (a*32)) (Int.fdiv a 134217728)+IntKind.wrap .u32 (m+kk))+e)+wi)) (Arr.cons a (Arr.cons (bits .or .u32 (IntKind.wrap .u32 (b*1073741824)) (Int.fdiv b 4)) (Arr.cons c (Arr.cons d Arr.nil))))) (by omega) (by omega) (fun x hx=>by
    simp only [Arr.cons,Arr.nil,List.mem_cons,List.not_mem_nil,or_false] at hx
    rcases hx with rfl | rfl | rfl | rfl | rfl
    ·exact w32r _
    ·exact ra
    ·exact or32r _ _
    ·exact rc
    ·exact rd)
   refine ⟨t2,r1, ?_, ?_⟩
   ·rw [aae]
    simp only [acF,c1,decide_true,cond_true,z0,z1,z2,z3,z4,Option.bind_some,m1,m2,c2,and_self,e1,g1,e0,q5,q6,q9,q10,x1]
    exact r2
   ·rw [aae]
    simp only [acf,c1,decide_true,cond_true,z0,z1,z2,z3,z4,Option.bind_some,m3,c2,and_self,e1,g1,e0,q7,q8,q11,q12]
    exact r3
theorem add_pair (hN:10000≤N)(s h0:Arr Int 5)(hs:AllW s.l):∀ (k M i:Nat) (t:Arr Int 5),k+i=5→k<M→AllW t.l→
  ∃ t2:Arr Int 5,AllW t2.l∧gl (fun X c=>ab6 N X c.1.1 c.1.2.1 c.2.1 c.2.2.1) M ((s,((i:Int),())),(h0,(t,())))=some ((),(h0,(t2,())))∧(gl (fun X c=>ace N X c.1.1 c.1.2.1 c.2.1 c.2.2.1) M ((s,((i:Int),())),(h0,(t,())))=some ((),(h0,(t2,()))))
 | 0,M+1,i,t,hk,hM,hw=>by
  have c1:¬ ((i:Int)<5):=by omega
  refine ⟨t,hw, ?_, ?_⟩
  ·simp only [gl,ab6,c1,decide_false,cond_false]
  ·simp only [gl,ace,c1,decide_false,cond_false]
 | k+1,M+1,i,t,hk,hM,hw=>by
  have hl:=t.h
  have hsl:=s.h
  have c1:((i:Int)<5):=by omega
  have c2:(0:Int)≤(i:Int)∧(i:Int)<((5:Nat):Int):=by omega
  have e0:IntKind.wrap .i64 ((i:Int)+1)=((i+1:Nat):Int):=by rw [aab (by omega) (by omega)];omega
  have e1:Int.toNat (i:Int)=i:=Int.toNat_natCast i
  have g1:t.l[i]? =some (t.l[i]'(by omega)):=List.getElem?_eq_getElem _
  have g2:=aaG s.l i (by omega)
  obtain ⟨t2,r1,r2,r3⟩:=add_pair hN s h0 hs k M (i+1) (t.set i (IntKind.wrap .u32 (t.l[i]'(by omega)+s.l[i]'(by omega)))) (by omega) (by omega) (hw.set i (w32r _))
  refine ⟨t2,r1, ?_, ?_⟩
  ·rw [aae]
   simp only [ab6,c1,decide_true,cond_true,c2,and_self,e1,g1,g2,e0,Option.bind_some]
   exact r2
  ·rw [aae]
   simp only [ace,c1,decide_true,cond_true,c2,and_self,e1,g1,g2,e0,Option.bind_some]
   exact r3
theorem behind_pair (hN:10000≤N)(s:Arr Int 5)(b:Arr Int 64)(hs:AllW s.l)(hb:AllB b.l):∃ t:Arr Int 5,AllW t.l∧adt N s b ks05=some t∧afO N s b=some t:=by
 obtain ⟨M,rfl⟩:∃ M,N=M:=⟨N,rfl⟩
 unfold adt ajp afO
 have hz:AllW (List.replicate 80 (0:Int)):=fun x hx=>by rw [(List.mem_replicate.1 hx).2];omega
 obtain ⟨W,w1,w2,w3⟩:=ak9 (N:=N) hN b hb s ⟨List.replicate 80 0,rfl⟩ ⟨List.replicate 5 0,rfl⟩ 80 N 0 ⟨List.replicate 80 0,rfl⟩ (by omega) (by omega) hz
 have w2':aiA N ((b,((0:Int),())),((⟨List.replicate 80 0,rfl⟩:Arr Int 80),((⟨List.replicate 80 0,rfl⟩:Arr Int 80),())))=some ((),((⟨List.replicate 80 0,rfl⟩:Arr Int 80),(W,()))):=w2
 have w3':aip N ((s,(b,((0:Int),()))),((⟨List.replicate 5 0,rfl⟩:Arr Int 5),((⟨List.replicate 80 0,rfl⟩:Arr Int 80),())))=some ((s,()),((⟨List.replicate 5 0,rfl⟩:Arr Int 5),(W,()))):=w3
 obtain ⟨t,t1,t2,t3⟩:=steps_pair (N:=N) hN W w1 s ⟨List.replicate 5 0,rfl⟩ ⟨List.replicate 5 0,rfl⟩ 80 N 0 s (by omega) (by omega) hs
 have t2':aim N ((s,(ks05,((0:Int),()))),((⟨List.replicate 5 0,rfl⟩:Arr Int 5),(W,(s,()))))=some ((s,()),((⟨List.replicate 5 0,rfl⟩:Arr Int 5),(t,()))):=t2
 have t3':ahl N ((s,((0:Int),())),((⟨List.replicate 5 0,rfl⟩:Arr Int 5),(W,(s,()))))=some ((s,()),((⟨List.replicate 5 0,rfl⟩:Arr Int 5),(t,()))):=t3
 obtain ⟨u,u1,u2,u3⟩:=add_pair (N:=N) hN s ⟨List.replicate 5 0,rfl⟩ hs 5 N 0 t (by omega) (by omega) t1
 have u2':ag7 N ((s,((0:Int),())),((⟨List.replicate 5 0,rfl⟩:Arr Int 5),(t,())))=some ((),((⟨List.replicate 5 0,rfl⟩:Arr Int 5),(u,()))):=u2
 have u3':ahk N ((s,((0:Int),())),((⟨List.replicate 5 0,rfl⟩:Arr Int 5),(t,())))=some ((),((⟨List.replicate 5 0,rfl⟩:Arr Int 5),(u,()))):=u3
 refine ⟨u,u1, ?_, ?_⟩
 ·refine (congrArg (fun o=>Option.bind (Option.bind o _) _) w2').trans ?_
  simp only [Option.bind_some]
  refine (congrArg (fun o=>Option.bind o _) t2').trans ?_
  simp only [Option.bind_some]
  refine (congrArg (fun o=>Option.bind o _) u2').trans ?_
  rfl
 ·refine (congrArg (fun o=>Option.bind o _) w3').trans ?_
  simp only [Option.bind_some]
  refine (congrArg (fun o=>Option.bind o _) t3').trans ?_
  simp only [Option.bind_some]
  refine (congrArg (fun o=>Option.bind o _) u3').trans ?_
  rfl
end
def by8 (n:Int):List Int:=[n / 72057594037927936 % 256,n / 281474976710656 % 256,n / 1099511627776 % 256,n / 4294967296 % 256,n / 16777216 % 256,n / 65536 % 256,n / 256 % 256,n % 256]
theorem aLj (n:Int):AllB (by8 n):=fun x hx=>by
 simp only [by8,List.mem_cons,List.not_mem_nil,or_false] at hx
 rcases hx with rfl | rfl | rfl | rfl | rfl | rfl | rfl | rfl <;> omega
section
variable {N:Nat}
theorem put8 (n:Int)(h:0≤n∧n<18446744073709551616)(hN:100≤N):abw N n 8 false=some (by8 n,0):=by
 obtain ⟨M,rfl⟩:∃ M,N=M+9:=⟨N-9,by omega⟩
 have r1:aac (Int.toNat 8) 1=true:=by decide
 have r2:List.replicate (Int.toNat 8) (0:Int)=[0,0,0,0,0,0,0,0]:=rfl
 have w1:IntKind.wrap .i64 ((8:Int)-1)=7:=by decide
 have v0:IntKind.wrap .i64 ((7:Int)-0)=7:=by decide
 have v1:IntKind.wrap .i64 ((7:Int)-1)=6:=by decide
 have v2:IntKind.wrap .i64 ((7:Int)-2)=5:=by decide
 have v3:IntKind.wrap .i64 ((7:Int)-3)=4:=by decide
 have v4:IntKind.wrap .i64 ((7:Int)-4)=3:=by decide
 have v5:IntKind.wrap .i64 ((7:Int)-5)=2:=by decide
 have v6:IntKind.wrap .i64 ((7:Int)-6)=1:=by decide
 have v7:IntKind.wrap .i64 ((7:Int)-7)=0:=by decide
 have w3:IntKind.wrap .i64 ((0:Int)+1)=1:=by decide
 have w4:IntKind.wrap .i64 ((1:Int)+1)=2:=by decide
 have w5:IntKind.wrap .i64 ((2:Int)+1)=3:=by decide
 have w6:IntKind.wrap .i64 ((3:Int)+1)=4:=by decide
 have w7:IntKind.wrap .i64 ((4:Int)+1)=5:=by decide
 have w8:IntKind.wrap .i64 ((5:Int)+1)=6:=by decide
 have w9:IntKind.wrap .i64 ((6:Int)+1)=7:=by decide
 have w10:IntKind.wrap .i64 ((7:Int)+1)=8:=by decide
 have e1:(2:Int) ^ min (Int.toNat 8) (IntKind.bits IntKind.u64)=256:=by decide
 have fd:∀ x:Int,Int.fdiv x 256=x / 256:=fun x=>Int.fdiv_eq_ediv_of_nonneg _ (by decide)
 have d2:n / 256 / 256=n / 65536:=by omega
 have d3:n / 65536 / 256=n / 16777216:=by omega
 have d4:n / 16777216 / 256=n / 4294967296:=by omega
 have d5:n / 4294967296 / 256=n / 1099511627776:=by omega
 have d6:n / 1099511627776 / 256=n / 281474976710656:=by omega
 have d7:n / 281474976710656 / 256=n / 72057594037927936:=by omega
 have u8:∀ x:Int,IntKind.wrap .u8 x=x % 256:=fun x=>by rw [IntKind.wrap_u8]
 simp only [abw,ad3,gl,adx,acK,r1,r2,e1,cond_false,Option.bind_some,w1,v0,v1,v2,v3,v4,v5,v6,v7,w3,w4,w5,w6,w7,w8,w9,w10]
 simp [w1,v0,v1,v2,v3,v4,v5,v6,v7,w3,w4,w5,w6,w7,w8,w9,w10,fd,d2,d3,d4,d5,d6,d7,u8,by8]
def nz (n:Int):Nat:=((119-n % 64) % 64).toNat
def ajE (n:Int):List Int:=[128]++List.replicate (nz n) 0++by8 (8*n % 18446744073709551616)
theorem nz_lt (n:Int):nz n<64:=by unfold nz;omega
theorem amw (n:Int):(ajE n).length=nz n+9:=by simp [ajE,by8]
theorem ayA (n:Int):AllB (ajE n):=by
 refine AllB.append (AllB.append (AllB.cons (by omega) AllB.nil) fun x hx=> ?_) (aLj _)
 rw [(List.mem_replicate.1 hx).2];omega
theorem aq0 (n:Int)(h:0≤n∧n<18446744073709551616)(hN:10000≤N):aiC N n=some (ajE n):=by
 unfold aiC
 have hw:IntKind.wrap .u64 ((8:Int)*n)=8*n % 18446744073709551616:=by rw [IntKind.wrap_u64]
 have hz:Int.tmod (IntKind.wrap .u64 ((119:Int)-Int.tmod n 64)) 64=((nz n:Nat):Int):=by
  have hm:Int.tmod n 64=n % 64:=Int.tmod_eq_emod_of_nonneg h.1
  rw [hm,aaz (by omega) (by omega),Int.tmod_eq_emod_of_nonneg (by omega)]
  unfold nz
  omega
 have hl:=nz_lt n
 have c1:((decide ((0:Int)≤((nz n:Nat):Int)∧((nz n:Nat):Int)≤((nz n:Nat):Int)))&&aac (nz n) 1)=true:=by
  have:aac (nz n) 1=true:=aar (by have:=aax;omega) (by omega)
  simp [this]
 rw [hw,put8 _ (by omega) (by omega),hz]
 simp only [Option.bind_some,c1,cond_true,Int.toNat_natCast]
 refine (ann (N:=N) [[128],List.replicate (nz n) 0,by8 (8*n % 18446744073709551616)] (by simp) ?_ ?_).trans ?_
 all_goals first | omega | skip
 ·simp [by8];omega
 ·simp [ajE]
theorem zeros_ok (n:Int)(h:0≤n∧n<18446744073709551616):∀ (k M:Nat) (l:List Int),k<M→l.length+k<1000→(n+l.length+k) % 64=56→k<64→
  gl (fun X c=>abv N X c.1.1 c.2.1) M ((n,()),(l,()))=some ((n,()),(l++List.replicate k 0,()))
 | 0,M+1,l,hM,hl,hk,_=>by
  have e:Int.tmod (IntKind.wrap .u64 (n+IntKind.wrap .u64 (l.length:Int))) 64=56:=by
   rw [aaz (x:=(l.length:Int)) (by omega) (by omega),IntKind.wrap_u64,Int.tmod_eq_emod_of_nonneg (by omega)];omega
  rw [aae]
  simp only [abv,e,decide_true,Bool.not_true,cond_false,List.replicate_zero,List.append_nil]
 | k+1,M+1,l,hM,hl,hk,h64=>by
  have e:¬ Int.tmod (IntKind.wrap .u64 (n+IntKind.wrap .u64 (l.length:Int))) 64=56:=by
   rw [aaz (x:=(l.length:Int)) (by omega) (by omega),IntKind.wrap_u64,Int.tmod_eq_emod_of_nonneg (by omega)];omega
  have r:aac (l.length+([(0:Int)]:List Int).length) 1=true:=aar (by have:=aax;simp;omega) (by simp;omega)
  rw [aae]
  simp only [abv,e,decide_false,Bool.not_false,cond_true,r]
  refine (zeros_ok n h k M (l++[0]) (by omega) (by simp;omega) (by simp;omega) (by omega)).trans ?_
  rw [List.replicate_succ,List.append_assoc];rfl
def le8 (n:Int):List Int:=[n % 256,n / 256 % 256,n / 65536 % 256,n / 16777216 % 256,n / 4294967296 % 256,n / 1099511627776 % 256,n / 281474976710656 % 256,n / 72057594037927936 % 256]
theorem ref04_tail_ok (n:Int)(h:0≤n∧n<18446744073709551616)(hN:10000≤N):ac4 N n=some ([128]++List.replicate (nz n) 0++le8 (8*n % 18446744073709551616)):=by
 unfold ac4
 have hl:=nz_lt n
 have hz:=zeros_ok (N:=N) n h (nz n) N [128] (by omega) (by simp;omega) (by unfold nz;simp;omega) hl
 refine (congrArg (fun o=>Option.bind o _) hz).trans ?_
 simp only [Option.bind_some]
 have hw:IntKind.wrap .u64 ((8:Int)*n)=8*n % 18446744073709551616:=by rw [IntKind.wrap_u64]
 rw [hw]
 have hb:0≤8*n % 18446744073709551616∧8*n % 18446744073709551616<18446744073709551616:=by omega
 generalize 8*n % 18446744073709551616=m at *
 have hpl:([128]++List.replicate (nz n) (0:Int)).length=nz n+1:=by simp
 generalize [128]++List.replicate (nz n) (0:Int)=p at *
 obtain ⟨M,rfl⟩:∃ M,N=M+9:=⟨N-9,by omega⟩
 have dv:∀ x:Int,0≤x→x<18446744073709551616→IntKind.wrap .u64 (Int.tdiv x 256)=x / 256:=fun x h1 h2=>by
  rw [Int.tdiv_eq_ediv_of_nonneg h1,aaz (by omega) (by omega)]
 have md:∀ x:Int,0≤x→IntKind.wrap .u8 (Int.tmod x 256)=x % 256:=fun x h1=>by
  rw [Int.tmod_eq_emod_of_nonneg h1,atO (by omega) (by omega)]
 have st:∀ (K:Nat) (x:Int) (i:Nat) (q:List Int),i<8→0≤x→x<18446744073709551616→q.length<1000→gl (fun X c=>aa5 (M+9) X c.1.1 c.1.2.1 c.2.1) (K+1) ((x,((i:Int),())),(q,()))=gl (fun X c=>aa5 (M+9) X c.1.1 c.1.2.1 c.2.1) K ((x / 256,(((i+1:Nat):Int),())),(q++[x % 256],())):=fun K x i q hi h1 h2 hq=>by
  have c1:((i:Int)<8):=by omega
  have e0:IntKind.wrap .i64 ((i:Int)+1)=((i+1:Nat):Int):=by rw [aab (by omega) (by omega)];omega
  have r:∀ y:Int,aac (q.length+([y]:List Int).length) 1=true:=fun y=>aar (by have:=aax;simp;omega) (by simp;omega)
  rw [aae]
  simp only [aa5,c1,decide_true,cond_true,md x h1,r,dv x h1 h2,e0]
 have fin:∀ (K:Nat) (x:Int) (q:List Int),gl (fun X c=>aa5 (M+9) X c.1.1 c.1.2.1 c.2.1) (K+1) ((x,(((8:Nat):Int),())),(q,()))=some ((),(q,())):=fun K x q=>by
  rw [aae]
  rfl
 have all:afP (M+9) ((m,((0:Int),())),(p,()))=some ((),(p++le8 m,())):=by
  refine (st (M+8) m 0 p (by omega) hb.1 hb.2 (by omega)).trans ?_
  refine (st (M+7) _ 1 _ (by omega) (by omega) (by omega) (by simp;omega)).trans ?_
  refine (st (M+6) _ 2 _ (by omega) (by omega) (by omega) (by simp;omega)).trans ?_
  refine (st (M+5) _ 3 _ (by omega) (by omega) (by omega) (by simp;omega)).trans ?_
  refine (st (M+4) _ 4 _ (by omega) (by omega) (by omega) (by simp;omega)).trans ?_
  refine (st (M+3) _ 5 _ (by omega) (by omega) (by omega) (by simp;omega)).trans ?_
  refine (st (M+2) _ 6 _ (by omega) (by omega) (by omega) (by simp;omega)).trans ?_
  refine (st (M+1) _ 7 _ (by omega) (by omega) (by omega) (by simp;omega)).trans ?_
  refine (fin M _ _).trans ?_
  have d2:m / 256 / 256=m / 65536:=by omega
  have d3:m / 65536 / 256=m / 16777216:=by omega
  have d4:m / 16777216 / 256=m / 4294967296:=by omega
  have d5:m / 4294967296 / 256=m / 1099511627776:=by omega
  have d6:m / 1099511627776 / 256=m / 281474976710656:=by omega
  have d7:m / 281474976710656 / 256=m / 72057594037927936:=by omega
  simp only [d2,d3,d4,d5,d6,d7,List.append_assoc,List.cons_append,List.nil_append,le8]
 refine (congrArg (fun o=>Option.bind o _) all).trans ?_
 rfl
theorem apJ (n:Int)(h:0≤n∧n<18446744073709551616)(hN:10000≤N):ahj N n=some (ajE n):=by
 unfold ahj
 rw [ref04_tail_ok n h hN,Option.bind_some]
 have hl:=nz_lt n
 unfold ajE
 generalize 8*n % 18446744073709551616=m at *
 have hpl:([128]++List.replicate (nz n) (0:Int)).length=nz n+1:=by simp
 generalize [128]++List.replicate (nz n) (0:Int)=p at *
 have h8:(le8 m).length=8:=rfl
 have e1:IntKind.wrap .i64 (((p++le8 m).length:Int)-8)=(p.length:Int):=by
  rw [List.length_append,h8,aab (by omega) (by omega)];omega
 have r:aac p.length 1=true:=aar (by have:=aax;omega) (by omega)
 have tk:abV (p++le8 m) (p.length:Int)=some p:=by
  rw [acT _ rfl (by simp)];simp
 rw [e1,tk,Option.bind_some,r]
 simp only [cond_true]
 obtain ⟨M,rfl⟩:∃ M,N=M+9:=⟨N-9,by omega⟩
 have st:∀ (K:Nat) (i:Nat) (q:List Int) (y:Int),i<8→q.length<1000→(le8 m)[i]? =some y→gl (fun X c=>acu (M+9) X c.1.1 c.1.2.1 c.1.2.2.1 c.2.1) (K+1) ((p++le8 m,((p.length:Int),((i:Int),()))),(q,()))=gl (fun X c=>acu (M+9) X c.1.1 c.1.2.1 c.1.2.2.1 c.2.1) K ((p++le8 m,((p.length:Int),(((i:Int)-1),()))),(q++[y],())):=fun K i q y hi hq hy=>by
  have c1:((0:Int)≤(i:Int)):=by omega
  have e0:IntKind.wrap .i64 ((i:Int)-1)=((i:Int)-1):=by rw [aab (by omega) (by omega)]
  have e2:IntKind.wrap .i64 ((p.length:Int)+(i:Int))=((p.length+i:Nat):Int):=by rw [aab (by omega) (by omega)];omega
  have r:aac (q.length+([y]:List Int).length) 1=true:=aar (by have:=aax;simp;omega) (by simp;omega)
  have g:getI (p++le8 m) ((p.length+i:Nat):Int)=some y:=by
   rw [akJ,List.getElem?_append_right (by omega)]
   rw [show p.length+i-p.length=i by omega,hy]
  rw [aae]
  simp only [acu,c1,decide_true,cond_true,e2,g,Option.bind_some,r,e0]
 have fin:∀ (K:Nat) (q:List Int),gl (fun X c=>acu (M+9) X c.1.1 c.1.2.1 c.1.2.2.1 c.2.1) (K+1) ((p++le8 m,((p.length:Int),(((0:Nat):Int)-1,()))),(q,()))=some ((),(q,())):=fun K q=>by
  rw [aae]
  rfl
 have all:aiL (M+9) ((p++le8 m,((p.length:Int),((7:Int),()))),(p,()))=some ((),(p++by8 m,())):=by
  refine (st (M+8) 7 p _ (by omega) (by omega) rfl).trans ?_
  refine (st (M+7) 6 _ _ (by omega) (by simp;omega) rfl).trans ?_
  refine (st (M+6) 5 _ _ (by omega) (by simp;omega) rfl).trans ?_
  refine (st (M+5) 4 _ _ (by omega) (by simp;omega) rfl).trans ?_
  refine (st (M+4) 3 _ _ (by omega) (by simp;omega) rfl).trans ?_
  refine (st (M+3) 2 _ _ (by omega) (by simp;omega) rfl).trans ?_
  refine (st (M+2) 1 _ _ (by omega) (by simp;omega) rfl).trans ?_
  refine (st (M+1) 0 _ _ (by omega) (by simp;omega) rfl).trans ?_
  refine (fin M _).trans ?_
  simp only [List.append_assoc,List.cons_append,List.nil_append,by8]
 refine (congrArg (fun o=>Option.bind o _) all).trans ?_
 rfl
end
theorem flat_len (m:List (List Int))(k:Nat)(h:∀ p∈m,p.length≤k):m.flatten.length≤k*m.length:=by
 induction m with
 | nil=>simp
 | cons p m ih=>
  have h1:=h p List.mem_cons_self
  have h2:=ih fun q hq=>h q (List.mem_cons_of_mem _ hq)
  rw [List.flatten_cons,List.length_append,List.length_cons,Nat.mul_add]
  omega
section
variable {N:Nat}
theorem joinS (l:List (List Int))(h0:Arr Int 20)(hl:l.length≤1000)(hs:∀ p∈l,p.length≤100000)(hN:2000≤N):
  adE N ((l,((0:Int),(l,((l.length:Int),((0:Int),()))))),(h0,()))=some ((l,((l.flatten.length:Int),())),(h0,()))∧
  adD N ((l,((l.length:Int),((0:Int),()))),(h0,(([]:List Int),())))=some ((),(h0,(l.flatten,()))):=by
 have tk:∀ i,(l.take i).flatten.length≤100000000:=fun i=>by
  have:=flat_len (l.take i) 100000 fun p hp=>hs p (List.mem_of_mem_take hp)
  rw [List.length_take] at this
  omega
 have hsn:∀ i (hi:i<l.length),(l.take (i+1)).flatten=(l.take i).flatten++l[i]:=fun i hi=>by
  have:l.take (i+1)=l.take i++[l[i]]:=by rw [List.take_add_one,List.getElem?_eq_getElem hi];rfl
  rw [this,List.flatten_append]
  simp
 have h1:=abu (G:=fun (X:((List (List Int)×Int×List (List Int)×Int×Int×Unit)×Arr Int 20×Unit)→Option ((List (List Int)×Int×Unit)×Arr Int 20×Unit)) c=>aaU N X c.1.1 c.1.2.1 c.1.2.2.1 c.1.2.2.2.1 c.1.2.2.2.2.1 c.2.1)
  (fun i=>((l,(((l.take i).flatten.length:Int),(l,((l.length:Int),((i:Int),()))))),(h0,()))) l.length ((l,((l.flatten.length:Int),())),(h0,())) (fun X i hi=>by
  have c1:((i:Int)<(l.length:Int)):=by omega
  have c2:IntKind.wrap .i64 ((i:Int)+1)=((i+1:Nat):Int):=by rw [aab (by omega) (by omega)];omega
  have hp:=hs _ (List.getElem_mem hi)
  have ht:=tk i
  have c3:IntKind.wrap .i64 (((l.take i).flatten.length:Int)+(l[i].length:Int))=(((l.take (i+1)).flatten.length:Nat):Int):=by rw [aab (by omega) (by omega),hsn i hi,List.length_append];omega
  simp only [aaU,c1,decide_true,cond_true,aaG l i hi,Option.bind_some,c3,c2]) (fun X=>by
  simp [aaU]) N 0 (by omega) (by omega)
 have h2:=abu (G:=fun (X:((List (List Int)×Int×Int×Unit)×Arr Int 20×List Int×Unit)→Option (Unit×Arr Int 20×List Int×Unit)) c=>aaT N X c.1.1 c.1.2.1 c.1.2.2.1 c.2.1 c.2.2.1)
  (fun i=>((l,((l.length:Int),((i:Int),()))),(h0,((l.take i).flatten,())))) l.length ((),(h0,(l.flatten,()))) (fun X i hi=>by
  have c1:((i:Int)<(l.length:Int)):=by omega
  have c2:IntKind.wrap .i64 ((i:Int)+1)=((i+1:Nat):Int):=by rw [aab (by omega) (by omega)];omega
  have hp:=hs _ (List.getElem_mem hi)
  have ht:=tk i
  have c3:aac ((l.take i).flatten.length+l[i].length) 1=true:=aar (by have:=aax;omega) (by omega)
  simp only [aaT,c1,decide_true,cond_true,aaG l i hi,Option.bind_some,c3,c2,hsn i hi]) (fun X=>by
  simp [aaT]) N 0 (by omega) (by omega)
 simp only [Int.natCast_zero,List.take_zero,List.flatten_nil,List.length_nil] at h1 h2
 exact ⟨h1,h2⟩
theorem ay8 (n:Int)(h:0≤n∧n<4294967296)(hN:100≤N):abw N (IntKind.wrap .u64 n) 4 false=some ([n / 16777216 % 256,n / 65536 % 256,n / 256 % 256,n % 256],0):=by
 rw [aaz (by omega) (by omega)]
 exact put4 n (by omega) hN
def by4 (n:Int):List Int:=[n / 16777216 % 256,n / 65536 % 256,n / 256 % 256,n % 256]
theorem by4_B (n:Int):AllB (by4 n):=fun x hx=>by
 simp only [by4,List.mem_cons,List.not_mem_nil,or_false] at hx
 rcases hx with rfl | rfl | rfl | rfl <;> omega
theorem digest_ok (a b c d e:Int)(ht:([a,b,c,d,e]:List Int).length=5)(ha:AllW [a,b,c,d,e])(hN:10000≤N):∃ D:Arr Int 20,D.l=by4 a++by4 b++by4 c++by4 d++by4 e∧afz N ⟨[a,b,c,d,e],ht⟩=some D:=by
 obtain ⟨M,rfl⟩:∃ M,N=M+6:=⟨N-6,by omega⟩
 have pa:=ay8 (N:=M+6) a (ha a (by simp)) (by omega)
 have pb:=ay8 (N:=M+6) b (ha b (by simp)) (by omega)
 have pc:=ay8 (N:=M+6) c (ha c (by simp)) (by omega)
 have pd:=ay8 (N:=M+6) d (ha d (by simp)) (by omega)
 have pe:=ay8 (N:=M+6) e (ha e (by simp)) (by omega)
 have w3:IntKind.wrap .i64 ((0:Int)+1)=1:=by decide
 have w4:IntKind.wrap .i64 ((1:Int)+1)=2:=by decide
 have w5:IntKind.wrap .i64 ((2:Int)+1)=3:=by decide
 have w6:IntKind.wrap .i64 ((3:Int)+1)=4:=by decide
 have w7:IntKind.wrap .i64 ((4:Int)+1)=5:=by decide
 have z0:getI ([a,b,c,d,e]:List Int) 0=some a:=rfl
 have z1:getI ([a,b,c,d,e]:List Int) 1=some b:=rfl
 have z2:getI ([a,b,c,d,e]:List Int) 2=some c:=rfl
 have z3:getI ([a,b,c,d,e]:List Int) 3=some d:=rfl
 have z4:getI ([a,b,c,d,e]:List Int) 4=some e:=rfl
 have l0:(decide ((0:Int)<5))=true:=rfl
 have l1:(decide ((1:Int)<5))=true:=rfl
 have l2:(decide ((2:Int)<5))=true:=rfl
 have l3:(decide ((3:Int)<5))=true:=rfl
 have l4:(decide ((4:Int)<5))=true:=rfl
 have l5:(decide ((5:Int)<5))=false:=rfl
 have rm:∀ (p:List Int) (u v x y:Int),p.length<100→aac (p.length+([u,v,x,y]:List Int).length) 1=true:=fun p u v x y hp=>aar (by have:=aax;simp;omega) (by simp;omega)
 have step:∀ (K:Nat) (i j:Int) (n:Int) (p:List Int) (h0:Arr Int 20),decide (i<5)=true→getI ([a,b,c,d,e]:List Int) i=some n→abw (M+6) (IntKind.wrap .u64 n) 4 false=some (by4 n,0)→IntKind.wrap .i64 (i+1)=j→p.length<100→
   gl (fun X c=>abX (M+6) X c.1.1 c.1.2.1 c.2.1 c.2.2.1) (K+1) (((⟨[a,b,c,d,e],ht⟩:Arr Int 5),(i,())),(h0,(p,())))=gl (fun X c=>abX (M+6) X c.1.1 c.1.2.1 c.2.1 c.2.2.1) K (((⟨[a,b,c,d,e],ht⟩:Arr Int 5),(j,())),(h0,(p++by4 n,()))):=fun K i j n p h0 q1 q2 q3 q4 q5=>by
  rw [aae]
  have r:=rm p (n / 16777216 % 256) (n / 65536 % 256) (n / 256 % 256) (n % 256) q5
  have r:aac (p.length+(by4 n).length) 1=true:=r
  simp only [abX,q1,cond_true,q2,Option.bind_some,q3,r,q4]
 have fin:∀ (K:Nat) (p:List Int) (h0:Arr Int 20),gl (fun X c=>abX (M+6) X c.1.1 c.1.2.1 c.2.1 c.2.2.1) (K+1) (((⟨[a,b,c,d,e],ht⟩:Arr Int 5),((5:Int),())),(h0,(p,())))=some ((),(h0,(p,()))):=fun K p h0=>by
  rw [aae];rfl
 have all:∀ h0:Arr Int 20,ail (M+6) (((⟨[a,b,c,d,e],ht⟩:Arr Int 5),((0:Int),())),(h0,(([]:List Int),())))=some ((),(h0,(by4 a++by4 b++by4 c++by4 d++by4 e,()))):=fun h0=>by
  refine (step (M+5) 0 1 a [] h0 l0 z0 pa w3 (by simp)).trans ?_
  refine (step (M+4) 1 2 b _ h0 l1 z1 pb w4 (by simp [by4])).trans ?_
  refine (step (M+3) 2 3 c _ h0 l2 z2 pc w5 (by simp [by4])).trans ?_
  refine (step (M+2) 3 4 d _ h0 l3 z3 pd w6 (by simp [by4])).trans ?_
  refine (step (M+1) 4 5 e _ h0 l4 z4 pe w7 (by simp [by4])).trans ?_
  exact fin M _ h0
 have hl:(by4 a++by4 b++by4 c++by4 d++by4 e).length=20:=by simp [by4]
 unfold afz
 rw [all,Option.bind_some]
 refine ⟨⟨(by4 a++by4 b++by4 c++by4 d++by4 e).take 20,by rw [List.length_take,hl];rfl⟩, ?_, ?_⟩
 ·exact List.take_of_length_le (by omega)
 ·have:ac1 20 (by4 a++by4 b++by4 c++by4 d++by4 e)=some ⟨(by4 a++by4 b++by4 c++by4 d++by4 e).take 20,by rw [List.length_take,hl];rfl⟩:=dif_pos (by omega)
  simp only [this,Option.bind_some]
end
theorem Arr.eq {α:Type}{n:Nat}{a b:Arr α n}(h:a.l=b.l):a=b:=by
 cases a;cases b;simp only at h;subst h;rfl
noncomputable def stepB (N:Nat)(t:Arr Int 5)(l:List Int):Option (Arr Int 5):=(ac1 64 l).bind fun a=>adt N t a ks05
noncomputable def runB (N:Nat):Nat→Arr Int 5→List Int→Option (Arr Int 5)
 | 0,t,_=>some t
 | m+1,t,l=>(stepB N t (l.take 64)).bind fun t'=>runB N m t' (l.drop 64)
theorem toArr64 (l:List Int)(h:64≤l.length):∃ a:Arr Int 64,a.l=l.take 64∧ac1 64 (l.take 64)=some a:=by
 have h1:64≤(l.take 64).length:=by rw [List.length_take];omega
 refine ⟨⟨(l.take 64).take 64,by rw [List.length_take];omega⟩, ?_,dif_pos h1⟩
 exact List.take_of_length_le (by rw [List.length_take];omega)
section
variable {N:Nat}
theorem runB_some (hN:10000≤N):∀ (m:Nat) (t:Arr Int 5) (l:List Int),AllW t.l→AllB l→l.length=64*m→∃ t',AllW t'.l∧runB N m t l=some t'
 | 0,t,l,ht,_,_=>⟨t,ht,rfl⟩
 | m+1,t,l,ht,hl,hm=>by
  obtain ⟨a,a1,a2⟩:=toArr64 l (by omega)
  obtain ⟨t1,h1,h2,_⟩:=behind_pair (N:=N) hN t a ht (by rw [a1];exact hl.take 64)
  obtain ⟨t',h3,h4⟩:=runB_some hN m t1 (l.drop 64) h1 (hl.drop 64) (by rw [List.length_drop];omega)
  refine ⟨t',h3, ?_⟩
  unfold runB stepB
  rw [a2,Option.bind_some,h2,Option.bind_some,h4]
theorem loopOf (hN:10000≤N)(all:List Int)(ha:all.length<100000)(h0:Arr Int 20):∀ (m M i:Nat) (t t':Arr Int 5),m<M→all.length=i+64*m→runB N m t (all.drop i)=some t'→
  gl (fun X c=>afp N X c.1.1 c.1.2.1 c.2.1 c.2.2.1 c.2.2.2.1) M ((all,((i:Int),())),(h0,(t,(ks05,()))))=some ((),(h0,(t',())))
 | 0,M+1,i,t,t',hM,hi,hr=>by
  have c1:¬ ((i:Int)<(all.length:Int)):=by omega
  have hr:some t=some t':=hr
  injection hr with hr
  subst hr
  rw [aae]
  simp only [afp,c1,decide_false,cond_false]
 | m+1,M+1,i,t,t',hM,hi,hr=>by
  have c1:((i:Int)<(all.length:Int)):=by omega
  have e0:IntKind.wrap .i64 ((i:Int)+64)=((i+64:Nat):Int):=by rw [aab (by omega) (by omega)];omega
  have s1:subI all (i:Int) ((i+64:Nat):Int)=some ((all.drop i).take 64):=by
   rw [aeG all rfl rfl (by omega) (by omega)];congr 2;omega
  unfold runB stepB at hr
  cases hb:ac1 64 ((all.drop i).take 64) with
  | none=>rw [hb] at hr;cases hr
  | some a=>
   rw [hb,Option.bind_some] at hr
   cases hc:adt N t a ks05 with
   | none=>rw [hc] at hr;cases hr
   | some t1=>
    rw [hc,Option.bind_some,List.drop_drop] at hr
    have ih:=loopOf hN all ha h0 m M (i+64) t1 t' (by omega) (by omega) (by rw [show i+64=i+64 from rfl];exact hr)
    rw [aae]
    simp only [afp,c1,decide_true,cond_true,e0,s1,Option.bind_some,hb,hc]
    exact ih
theorem fillOf (hN:10000≤N)(all:List Int)(ha:all.length<100000)(h0:Arr Int 20)(t:Arr Int 5)(x:Nat)(hx:x+64≤all.length):∀ (k M i:Nat) (blk:Arr Int 64),k+i=64→k<M→
  ∃ b2:Arr Int 64,b2.l=blk.l.take i++(all.drop (x+i)).take k∧gl (fun X c=>aem N X c.1.1 c.1.2.1 c.2.1 c.2.2.1 c.2.2.2.1 c.2.2.2.2.1) M (((x:Int),((i:Int),())),(h0,(all,(t,(blk,())))))=some (((x:Int),()),(h0,(all,(t,(b2,())))))
 | 0,M+1,i,blk,hk,hM=>by
  have c1:¬ ((i:Int)<64):=by omega
  refine ⟨blk, ?_, ?_⟩
  ·rw [List.take_of_length_le (by rw [blk.h];omega),List.take_zero,List.append_nil]
  ·rw [aae]
   simp only [aem,c1,decide_false,cond_false]
 | k+1,M+1,i,blk,hk,hM=>by
  have hbl:=blk.h
  have c1:((i:Int)<64):=by omega
  have e0:IntKind.wrap .i64 ((i:Int)+1)=((i+1:Nat):Int):=by rw [aab (by omega) (by omega)];omega
  have e2:IntKind.wrap .i64 ((x:Int)+(i:Int))=((x+i:Nat):Int):=by rw [aab (by omega) (by omega)];omega
  have c2:(0:Int)≤((x+i:Nat):Int)∧((x+i:Nat):Int)<(all.length:Int):=by omega
  have c3:(0:Int)≤(i:Int)∧(i:Int)<((64:Nat):Int):=by omega
  have e1:Int.toNat (i:Int)=i:=Int.toNat_natCast i
  have e3:Int.toNat ((x+i:Nat):Int)=x+i:=Int.toNat_natCast _
  have g1:all[x+i]? =some (all[x+i]'(by omega)):=List.getElem?_eq_getElem _
  have g2:blk.l[i]? =some (blk.l[i]'(by omega)):=List.getElem?_eq_getElem _
  obtain ⟨b2,h1,h2⟩:=fillOf hN all ha h0 t x hx k M (i+1) (blk.set i (all[x+i]'(by omega))) (by omega) (by omega)
  refine ⟨b2, ?_, ?_⟩
  ·rw [h1]
   have q1:(blk.set i (all[x+i]'(by omega))).l.take (i+1)=blk.l.take i++[all[x+i]'(by omega)]:=by
    show (blk.l.set i _).take (i+1)=_
    rw [List.take_add_one,List.take_set_of_le (Nat.le_refl _),List.getElem?_set_self (by omega)]
    rfl
   rw [q1,List.append_assoc]
   congr 1
   rw [List.drop_eq_getElem_cons (show x+i<all.length by omega),List.take_succ_cons]
   rfl
  ·rw [aae]
   simp only [aem,c1,decide_true,cond_true,e2,c2,and_self,e3,g1,Option.bind_some,c3,e1,g2,e0]
   exact h2
theorem loopRef (hN:10000≤N)(all:List Int)(ha:all.length<100000)(hB:AllB all)(h0:Arr Int 20):∀ (m M i:Nat) (t t':Arr Int 5),m<M→all.length=i+64*m→AllW t.l→runB N m t (all.drop i)=some t'→
  gl (fun X c=>aen N X c.1.1 c.2.1 c.2.2.1 c.2.2.2.1) M (((i:Int),()),(h0,(all,(t,()))))=some ((),(h0,(t',())))
 | 0,M+1,i,t,t',hM,hi,hw,hr=>by
  have c1:¬ ((i:Int)<(all.length:Int)):=by omega
  have hr:some t=some t':=hr
  injection hr with hr
  subst hr
  rw [aae]
  simp only [aen,c1,decide_false,cond_false]
 | m+1,M+1,i,t,t',hM,hi,hw,hr=>by
  have c1:((i:Int)<(all.length:Int)):=by omega
  have e0:IntKind.wrap .i64 ((i:Int)+64)=((i+64:Nat):Int):=by rw [aab (by omega) (by omega)];omega
  obtain ⟨b2,f1,f2⟩:=fillOf (N:=N) hN all ha h0 t i (by omega) 64 N 0 ⟨List.replicate 64 0,rfl⟩ (by omega) (by omega)
  have f2':aku N (((i:Int),((0:Int),())),(h0,(all,(t,((⟨List.replicate 64 0,rfl⟩:Arr Int 64),())))))=some (((i:Int),()),(h0,(all,(t,(b2,()))))):=f2
  have f1':b2.l=(all.drop i).take 64:=by rw [f1];simp
  obtain ⟨a,a1,a2⟩:=toArr64 (all.drop i) (by rw [List.length_drop];omega)
  have hab:a=b2:=Arr.eq (by rw [a1,f1'])
  subst hab
  obtain ⟨t1,h1,h2,h3⟩:=behind_pair (N:=N) hN t a hw (by rw [a1];exact (hB.drop i).take 64)
  unfold runB stepB at hr
  rw [a2,Option.bind_some,h2,Option.bind_some,List.drop_drop] at hr
  have ih:=loopRef hN all ha hB h0 m M (i+64) t1 t' (by omega) (by omega) h1 hr
  rw [aae]
  simp only [aen,c1,decide_true,cond_true]
  refine (congrArg (fun o=>Option.bind o _) f2').trans ?_
  simp only [Option.bind_some,h3,e0]
  exact ih
def dg5 (a b c d e:Int):List Int:=by4 a++by4 b++by4 c++by4 d++by4 e
theorem dg5_B (a b c d e:Int):AllB (dg5 a b c d e):=AllB.append (AllB.append (AllB.append (AllB.append (by4_B a) (by4_B b)) (by4_B c)) (by4_B d)) (by4_B e)
theorem aJQ (a b c d e:Int)(i:Nat)(hi:i<20)(v:Int)(hv:([a,b,c,d,e]:List Int)[i / 4]? =some v):(dg5 a b c d e)[i]? =some (IntKind.wrap .u8 (Int.fdiv v (2 ^ (24-8*(i % 4))))):=by
 have fd:∀ k:Nat,Int.fdiv v (2 ^ k)=v / 2 ^ k:=fun k=>Int.fdiv_eq_ediv_of_nonneg _ (Int.le_of_lt (Int.pow_pos (by decide)))
 rw [fd,IntKind.wrap_u8]
 have:i=0∨i=1∨i=2∨i=3∨i=4∨i=5∨i=6∨i=7∨i=8∨i=9∨i=10∨i=11∨i=12∨i=13∨i=14∨i=15∨i=16∨i=17∨i=18∨i=19:=by omega
 rcases this with rfl | rfl | rfl | rfl | rfl | rfl | rfl | rfl | rfl | rfl | rfl | rfl | rfl | rfl | rfl | rfl | rfl | rfl | rfl | rfl <;> simp at hv <;> subst hv <;> simp [dg5,by4]
theorem outRef (hN:10000≤N)(a b c d e:Int)(ht:([a,b,c,d,e]:List Int).length=5)(h0:Arr Int 20):∀ (k M i:Nat) (o:Arr Int 20),k+i=20→k<M→
  ∃ D:Arr Int 20,D.l=o.l.take i++(dg5 a b c d e).drop i∧gl (fun X c=>adI N X c.1.1 c.2.1 c.2.2.1 c.2.2.2.1) M (((i:Int),()),(h0,((⟨[a,b,c,d,e],ht⟩:Arr Int 5),(o,()))))=some ((),(h0,(D,())))
 | 0,M+1,i,o,hk,hM=>by
  have c1:¬ ((i:Int)<20):=by omega
  have hol:=o.h
  refine ⟨o, ?_, ?_⟩
  ·rw [List.take_of_length_le (by omega),List.drop_eq_nil_of_le (by simp [dg5,by4];omega),List.append_nil]
  ·rw [aae]
   simp only [adI,c1,decide_false,cond_false]
 | k+1,M+1,i,o,hk,hM=>by
  have hol:=o.h
  have c1:((i:Int)<20):=by omega
  have e0:IntKind.wrap .i64 ((i:Int)+1)=((i+1:Nat):Int):=by rw [aab (by omega) (by omega)];omega
  have f1:IntKind.wrap .i64 (Int.tdiv (i:Int) 4)=((i / 4:Nat):Int):=by
   rw [Int.tdiv_eq_ediv_of_nonneg (by omega),aab (by omega) (by omega)];omega
  have f0:IntKind.wrap .i64 ((8:Int)*Int.tmod (i:Int) 4)=((8*(i % 4):Nat):Int):=by
   rw [Int.tmod_eq_emod_of_nonneg (by omega),aab (by omega) (by omega)];omega
  have f2:IntKind.wrap .i64 ((24:Int)-((8*(i % 4):Nat):Int))=((24-8*(i % 4):Nat):Int):=by
   rw [aab (by omega) (by omega)];omega
  have c2:(0:Int)≤((i / 4:Nat):Int)∧((i / 4:Nat):Int)<((5:Nat):Int):=by omega
  have c3:(0:Int)≤((24-8*(i % 4):Nat):Int):=by omega
  have c4:(0:Int)≤(i:Int)∧(i:Int)<((20:Nat):Int):=by omega
  have e1:Int.toNat (i:Int)=i:=Int.toNat_natCast i
  have e2:Int.toNat ((i / 4:Nat):Int)=i / 4:=Int.toNat_natCast _
  have e3:min (Int.toNat ((24-8*(i % 4):Nat):Int)) (IntKind.bits .u32)=24-8*(i % 4):=by
   rw [Int.toNat_natCast];show min _ 32=_;omega
  have g1:([a,b,c,d,e]:List Int)[i / 4]? =some (([a,b,c,d,e]:List Int)[i / 4]'(by simp;omega)):=List.getElem?_eq_getElem _
  have g2:o.l[i]? =some (o.l[i]'(by omega)):=List.getElem?_eq_getElem _
  have hd:=aJQ a b c d e i (by omega) _ g1
  generalize ([a,b,c,d,e]:List Int)[i / 4]'(by simp;omega)=v at *
  obtain ⟨D,h1,h2⟩:=outRef hN a b c d e ht h0 k M (i+1) (o.set i (IntKind.wrap .u8 (Int.fdiv v (2 ^ (24-8*(i % 4)))))) (by omega) (by omega)
  refine ⟨D, ?_, ?_⟩
  ·rw [h1]
   have q1:(o.set i (IntKind.wrap .u8 (Int.fdiv v (2 ^ (24-8*(i % 4)))))).l.take (i+1)=o.l.take i++[IntKind.wrap .u8 (Int.fdiv v (2 ^ (24-8*(i % 4))))]:=by
    show (o.l.set i _).take (i+1)=_
    rw [List.take_add_one,List.take_set_of_le (Nat.le_refl _),List.getElem?_set_self (by omega)]
    rfl
   rw [q1,List.append_assoc]
   congr 1
   obtain ⟨hlt,hv⟩:=List.getElem?_eq_some_iff.1 hd
   rw [List.drop_eq_getElem_cons hlt,hv]
   rfl
  ·rw [aae]
   simp only [adI,c1,decide_true,cond_true,f1,c2,and_self,e2,g1,Option.bind_some,f0,f2,c3,c4,e1,g2,e0,e3]
   exact h2
end
def ah2:Arr Int 5:=Arr.cons 1732584193 (Arr.cons 4023233417 (Arr.cons 2562383102 (Arr.cons 271733878 (Arr.cons 3285377520 Arr.nil))))
theorem first_W:AllW ah2.l:=fun x hx=>by
 simp only [ah2,Arr.cons,Arr.nil,List.mem_cons,List.not_mem_nil,or_false] at hx
 rcases hx with rfl | rfl | rfl | rfl | rfl <;> omega
def nb (n:Nat):Nat:=(n+(ajE (n:Int)).length) / 64
theorem nb_ok (n:Nat)(l:List Int)(h:l.length=n):(l++ajE (n:Int)).length=64*nb n:=by
 unfold nb
 rw [List.length_append,amw,h]
 unfold nz
 omega
theorem of_ok (l:List (List Int))(hl:l.length≤1000)(hs:∀ p∈l,p.length≤5000∧AllB p)(hf:l.flatten.length≤5000):
  ∃ a b c d e ht,∃ D:Arr Int 20,runB 200000 (nb l.flatten.length) ah2 (l.flatten++ajE (l.flatten.length:Int))=some ⟨[a,b,c,d,e],ht⟩∧AllW [a,b,c,d,e]∧D.l=dg5 a b c d e∧adY 200000 l=some D:=by
 have hB:AllB l.flatten:=fun x hx=>by
  obtain ⟨p,hp,hx⟩:=List.mem_flatten.1 hx
  exact (hs p hp).2 x hx
 have hall:AllB (l.flatten++ajE (l.flatten.length:Int)):=hB.append (ayA _)
 have hlen:=nb_ok l.flatten.length l.flatten rfl
 have htl:=amw (l.flatten.length:Int)
 have hnz:=nz_lt (l.flatten.length:Int)
 obtain ⟨t',t1,t2⟩:=runB_some (N:=200000) (by omega) (nb l.flatten.length) ah2 _ first_W hall hlen
 match t',t1,t2 with
 | ⟨[a,b,c,d,e],ht⟩,t1,t2=>
  obtain ⟨D,d1,d2⟩:=digest_ok (N:=200000) a b c d e ht t1 (by omega)
  refine ⟨a,b,c,d,e,ht,D,t2,t1,d1, ?_⟩
  have hj:∀ h0,_:=fun h0=>joinS (N:=200000) l h0 hl (fun p hp=>by have:=(hs p hp).1;omega) (by omega)
  have hwn:IntKind.wrap .u64 (l.flatten.length:Int)=(l.flatten.length:Int):=aaz (by omega) (by omega)
  have htail:=aq0 (N:=200000) (l.flatten.length:Int) (by omega) (by omega)
  have c4:(decide ((0:Int)≤(0:Int)∧(0:Int)≤(l.flatten.length:Int))&&aac (Int.toNat (l.flatten.length:Int)) 1)=true:=by
   rw [Bool.and_eq_true]
   exact ⟨decide_eq_true ⟨by omega,by omega⟩,aar (by have:=aax;omega) (by omega)⟩
  have c5:aac (l.flatten.length+(ajE (l.flatten.length:Int)).length) 1=true:=aar (by have:=aax;omega) (by omega)
  have hloop:∀ h0,alJ 200000 (((l.flatten++ajE (l.flatten.length:Int)),((0:Int),())),(h0,(ah2,(ks05,()))))=some ((),(h0,((⟨[a,b,c,d,e],ht⟩:Arr Int 5),()))):=fun h0=>
   loopOf (N:=200000) (by omega) _ (by rw [List.length_append];omega) h0 (nb l.flatten.length) 200000 0 ah2 _ (by rw [List.length_append] at hlen;omega) (by rw [hlen];omega) t2
  have e0:List.replicate (Int.toNat 0) (0:Int)=[]:=rfl
  unfold adY
  rw [(hj _).1,Option.bind_some]
  simp only [c4,cond_true,e0]
  rw [(hj _).2,Option.bind_some]
  simp only [hwn]
  rw [htail,Option.bind_some]
  simp only [c5,cond_true,aC6,Option.bind_some]
  refine (congrArg (fun o=>Option.bind o _) (hloop _)).trans ?_
  simp only [Option.bind_some,d2]
theorem refOf_ok (b:List Int)(hb:AllB b)(hl:b.length≤1000){a c d e f:Int}{ht:([a,c,d,e,f]:List Int).length=5}(hr:runB 200000 (nb b.length) ah2 (b++ajE (b.length:Int))=some ⟨[a,c,d,e,f],ht⟩):
  ∃ D:Arr Int 20,D.l=dg5 a c d e f∧ajt 200000 b=some D:=by
 have htl:=amw (b.length:Int)
 have hnz:=nz_lt (b.length:Int)
 have hlen:=nb_ok b.length b rfl
 have hwn:IntKind.wrap .u64 (b.length:Int)=(b.length:Int):=aaz (by omega) (by omega)
 have htail:=apJ (N:=200000) (b.length:Int) (by omega) (by omega)
 have c0:aac b.length 1=true:=aar (by have:=aax;omega) (by omega)
 have c5:aac (b.length+(ajE (b.length:Int)).length) 1=true:=aar (by have:=aax;omega) (by omega)
 obtain ⟨D,d1,d2⟩:=outRef (N:=200000) (by omega) a c d e f ht ⟨List.replicate 20 0,rfl⟩ 20 200000 0 ⟨List.replicate 20 0,rfl⟩ (by omega) (by omega)
 have hloop:akv 200000 (((0:Int),()),((⟨List.replicate 20 0,rfl⟩:Arr Int 20),((b++ajE (b.length:Int)),(ah2,()))))=some ((),((⟨List.replicate 20 0,rfl⟩:Arr Int 20),((⟨[a,c,d,e,f],ht⟩:Arr Int 5),()))):=
  loopRef (N:=200000) (by omega) _ (by rw [List.length_append];omega) (hb.append (ayA _)) _ (nb b.length) 200000 0 ah2 _ (by rw [List.length_append] at hlen;omega) (by rw [hlen];omega) first_W hr
 have hout:ajN 200000 (((0:Int),()),((⟨List.replicate 20 0,rfl⟩:Arr Int 20),((⟨[a,c,d,e,f],ht⟩:Arr Int 5),((⟨List.replicate 20 0,rfl⟩:Arr Int 20),()))))=some ((),((⟨List.replicate 20 0,rfl⟩:Arr Int 20),(D,()))):=d2
 refine ⟨D,by simpa using d1, ?_⟩
 unfold ajt
 simp only [c0,cond_true,hwn,htail,Option.bind_some,c5]
 refine (congrArg (fun o=>Option.bind o _) hloop).trans ?_
 simp only [Option.bind_some]
 refine (congrArg (fun o=>Option.bind o _) hout).trans ?_
 rfl
theorem wfB_b {n:Nat}(a:Arr Int n)(h:AllB a.l):wfB (.arr n (.int .u8)) a=true:=List.all_eq_true.2 fun x hx=>by
 have h1:=h x hx
 show (Lit.int .u8 x).wf=true
 simp only [Lit.wf,Bool.and_eq_true,decide_eq_true_eq,IntKind.min,IntKind.max,IntKind.signed,IntKind.bits]
 simp
 omega
end Go.Proofs.YtkcdnjgieabjoaaGreatDoor.Sh
namespace Go.Proofs.YtkcdnjgieabjoaaGreatDoor
set_option maxRecDepth 100000
open Go.RowKit
set_option linter.unusedVariables false
set_option linter.unusedSimpArgs false
set_option maxRecDepth 100000
theorem aEq {l:List (List Int)}(h:∀ p∈l,AllB p):AllB l.flatten:=fun x hx=>by
 obtain ⟨p,hp,hx⟩:=List.mem_flatten.1 hx
 exact h p hp x hx
theorem at7 {l:List (List Int)}{n:Nat}(hf:l.flatten.length≤n):∀ p∈l,p.length≤n:=fun p hp=>by
 have:=(List.sublist_flatten_of_mem hp).length_le
 omega
theorem aCD (l:List (List Int))(hl:l.length≤1000)(hs:∀ p∈l,AllB p)(hf:l.flatten.length≤1000):∃ D:Arr Int 16,AllB D.l∧alN 200000 l=some D∧agr 200000 l.flatten=some D:=by
 obtain ⟨a,b,c,d,ht,D,r1,r2,r3,r4⟩:=of_ok l hl (fun p hp=>⟨by have:=at7 hf p hp;omega,hs p hp⟩) (by omega)
 obtain ⟨D',q1,q2⟩:=refOf_ok l.flatten (aEq hs) hf r1
 have hD:D'=D:=Arr.eq (by rw [q1,r3])
 subst hD
 exact ⟨D',by rw [q1];exact aLi _ _ _ _,r4,q2⟩
theorem aiB (l:List (List Int))(hl:l.length≤1000)(hs:∀ p∈l,AllB p)(hf:l.flatten.length≤1000):∃ D:Arr Int 20,AllB D.l∧adY 200000 l=some D∧ajt 200000 l.flatten=some D:=by
 obtain ⟨a,b,c,d,e,ht,D,r1,r2,r3,r4⟩:=Sh.of_ok l hl (fun p hp=>⟨by have:=at7 hf p hp;omega,hs p hp⟩) (by omega)
 obtain ⟨D',q1,q2⟩:=Sh.refOf_ok l.flatten (aEq hs) hf r1
 have hD:D'=D:=Arr.eq (by rw [q1,r3])
 subst hD
 exact ⟨D',by rw [q1];exact Sh.dg5_B _ _ _ _ _,r4,q2⟩
def cb (b:UInt8):Bool:=decide (128≤b.toNat∧b.toNat<192)
def n2 (a b:UInt8):Nat:=(a.toNat-192)*64+(b.toNat-128)
def n3 (a b c:UInt8):Nat:=(a.toNat-224)*4096+(b.toNat-128)*64+(c.toNat-128)
def n4 (a b c d:UInt8):Nat:=(a.toNat-240)*262144+(b.toNat-128)*4096+(c.toNat-128)*64+(d.toNat-128)
def sg:List UInt8→Nat×Nat
 | []=>(0,0)
 | b0::r=>
  if b0.toNat<128 then (b0.toNat,1)
  else if 192≤b0.toNat∧b0.toNat<224 then (match r with
   | b1::_=>if cb b1=true∧128≤n2 b0 b1 then (n2 b0 b1,2) else (0,0)
   | _=>(0,0))
  else if 224≤b0.toNat∧b0.toNat<240 then (match r with
   | b1::b2::_=>if cb b1=true∧cb b2=true∧2048≤n3 b0 b1 b2∧¬ (55296≤n3 b0 b1 b2∧n3 b0 b1 b2≤57343) then (n3 b0 b1 b2,3) else (0,0)
   | _=>(0,0))
  else if 240≤b0.toNat∧b0.toNat<248 then (match r with
   | b1::b2::b3::_=>if cb b1=true∧cb b2=true∧cb b3=true∧65536≤n4 b0 b1 b2 b3∧n4 b0 b1 b2 b3≤1114111 then (n4 b0 b1 b2 b3,4) else (0,0)
   | _=>(0,0))
  else (0,0)
theorem adV (b:UInt8):b.toNat<256:=b.toNat_lt
theorem ab3 {b:UInt8}:cb b=true↔128≤b.toNat∧b.toNat<192:=by simp [cb]
theorem aJT {b:UInt8}:cb b=false↔¬ (128≤b.toNat∧b.toNat<192):=by simp [cb]
section
variable {N:Nat}
theorem aFh (s:List UInt8)(j:Nat):adF N s (j:Int)=some (match s[j]? with
  | some b=>if cb b=true then (((b.toNat-128:Nat):Int),true) else (0,false)
  | none=>(0,false)):=by
 cases h:s[j]? with
 | none=>
  have hl:(s.length:Int)≤(j:Int):=by have:=List.getElem?_eq_none_iff.1 h;omega
  simp [adF,hl]
 | some b=>
  obtain ⟨hj,hb⟩:=List.getElem?_eq_some_iff.1 h
  have hl:¬ (s.length:Int)≤(j:Int):=by omega
  have hg:getI s (j:Int)=some b:=by rw [akJ,h]
  have hlt:=adV b
  cases hc:cb b with
  | true=>
   rw [ab3] at hc
   have c1:¬ (b.toNat:Int)<128:=by omega
   have c2:¬ (191:Int)<(b.toNat:Int):=by omega
   have e1:IntKind.wrap .i64 (b.toNat:Int)=(b.toNat:Int):=aab (by omega) (by omega)
   have e2:IntKind.wrap .i64 ((b.toNat:Int)-128)=((b.toNat-128:Nat):Int):=by rw [aab (by omega) (by omega)];omega
   have hc2:=ab3.2 hc
   simp [adF,hl,hg,c1,c2,e1,e2,hc2]
  | false=>
   have hcf:=hc
   rw [aJT] at hc
   by_cases c1:(b.toNat:Int)<128
   ·simp [adF,hl,hg,c1,hcf]
   ·have c2:(191:Int)<(b.toNat:Int):=by omega
    simp [adF,hl,hg,c1,c2,hcf]
theorem atY (X)(s:List UInt8)(i need n k:Nat)(least:Int)(h1:i<1000000000)(h2:n<1000000000)(h3:k<10):acG N X s (i:Int) (need:Int) (n:Int) least (k:Int)=
  if k≤need then (match s[i+k]? with
   | some b=>if cb b=true then X ((s,((i:Int),((need:Int),(((64*n+(b.toNat-128):Nat):Int),(least,(((k+1:Nat):Int),())))))),()) else some (.inl ((0,(0,())),()))
   | none=>some (.inl ((0,(0,())),())))
  else some (.inr (((need:Int),((n:Int),(least,()))),())):=by
 have e0:IntKind.wrap .i64 ((i:Int)+(k:Int))=((i+k:Nat):Int):=by rw [aab (by omega) (by omega)];omega
 have e1:IntKind.wrap .i64 ((k:Int)+1)=((k+1:Nat):Int):=by rw [aab (by omega) (by omega)];omega
 have e2:IntKind.wrap .i64 (64*(n:Int))=((64*n:Nat):Int):=by rw [aab (by omega) (by omega)];omega
 unfold acG
 rw [e0,aFh]
 by_cases hk:k≤need
 ·have c1:(k:Int)≤(need:Int):=by omega
  rw [if_pos hk]
  simp only [c1,decide_true,cond_true,Option.bind_some]
  cases h:s[i+k]? with
  | none=>simp
  | some b=>
   have hlt:=adV b
   cases hc:cb b with
   | false=>simp [hc]
   | true=>
    have e3:IntKind.wrap .i64 (((64*n:Nat):Int)+((b.toNat-128:Nat):Int))=((64*n+(b.toNat-128):Nat):Int):=by rw [aab (by omega) (by omega)];omega
    simp only [hc,if_true,Bool.not_true,cond_false,e1,e2,e3]
 ·have c1:¬ (k:Int)≤(need:Int):=by omega
  rw [if_neg hk]
  simp only [c1,decide_false,cond_false]
def aig:Nat→List UInt8→Nat→Option Nat
 | 0,_,n=>some n
 | _+1,[],_=>none
 | k+1,b::r,n=>if cb b=true then aig k r (64*n+(b.toNat-128)) else none
theorem azp (s:List UInt8)(i need:Nat)(least:Int)(h1:i<1000000000)(hn:need≤3):∀ (left k M n:Nat),k+left=need+1→1≤k→left<M→n<64 ^ k→
  gl (fun X c=>acG N X c.1.1 c.1.2.1 c.1.2.2.1 c.1.2.2.2.1 c.1.2.2.2.2.1 c.1.2.2.2.2.2.1) M ((s,((i:Int),((need:Int),((n:Int),(least,((k:Int),())))))),())=
   some (match aig left (s.drop (i+k)) n with
    | some m=>.inr (((need:Int),((m:Int),(least,()))),())
    | none=>.inl ((0,(0,())),()))
 | 0,k,M+1,n,hk,hk1,hM,hn2=>by
  have hb:(64:Nat) ^ k≤64 ^ 4:=Nat.pow_le_pow_right (by decide) (by omega)
  have hb4:(64:Nat) ^ 4=16777216:=by decide
  rw [aae,atY _ s i need n k least h1 (by omega) (by omega),if_neg (by omega)]
  rfl
 | left+1,k,M+1,n,hk,hk1,hM,hn2=>by
  have hb:(64:Nat) ^ k≤64 ^ 4:=Nat.pow_le_pow_right (by decide) (by omega)
  have hb4:(64:Nat) ^ 4=16777216:=by decide
  rw [aae,atY _ s i need n k least h1 (by omega) (by omega),if_pos (by omega)]
  cases h:s[i+k]? with
  | none=>
   have:=List.getElem?_eq_none_iff.1 h
   rw [List.drop_eq_nil_of_le this]
   rfl
  | some b=>
   obtain ⟨hj,hbb⟩:=List.getElem?_eq_some_iff.1 h
   rw [List.drop_eq_getElem_cons hj,hbb]
   have hlt:=adV b
   simp only [aig]
   cases hc:cb b with
   | false=>rfl
   | true=>
    rw [ab3] at hc
    have hp:64 ^ (k+1)=64*64 ^ k:=by rw [Nat.pow_succ];omega
    have ih:=azp s i need least h1 hn left (k+1) M (64*n+(b.toNat-128)) (by omega) (by omega) (by omega) (by rw [hp];omega)
    simp only [if_true]
    exact ih
theorem aEO (hN:10≤N)(s:List UInt8)(i:Nat)(hi:i<s.length)(hb:s.length<1000000000):ahc N s (i:Int)=some (((sg (s.drop i)).1:Int),((sg (s.drop i)).2:Int)):=by
 have hd:=List.drop_eq_getElem_cons hi
 obtain ⟨b0,hb0⟩:∃ b,b=s[i]:=⟨_,rfl⟩
 obtain ⟨r,hr⟩:∃ r,r=s.drop (i+1):=⟨_,rfl⟩
 rw [←hb0,←hr] at hd
 have hg:getI s (i:Int)=some b0:=by rw [aaG s i hi,hb0]
 have hlt:=adV b0
 have w0:IntKind.wrap .i64 (b0.toNat:Int)=b0.toNat:=aab (by omega) (by omega)
 have L:∀ (need n:Nat) (least:Int),1≤need→need≤3→n<64→abq N ((s,((i:Int),((need:Int),((n:Int),(least,((1:Int),())))))),())=
   some (match aig need r n with
    | some m=>.inr (((need:Int),((m:Int),(least,()))),())
    | none=>.inl ((0,(0,())),())):=fun need n least h1 h2 h3=>by
  have:=azp (N:=N) s i need least (by omega) h2 need 1 N n (by omega) (by omega) (by omega) (by omega)
  rw [hr]
  exact this
 rw [hd]
 unfold ahc
 rw [hg]
 simp only [Option.bind_some,w0]
 by_cases c1:b0.toNat<128
 ·have d1:(b0.toNat:Int)<128:=by omega
  simp [sg,c1,d1]
 have d1:¬ (b0.toNat:Int)<128:=by omega
 by_cases c2:192≤b0.toNat∧b0.toNat<224
 ·have d2:(192:Int)≤(b0.toNat:Int):=by omega
  have d3:(b0.toNat:Int)<224:=by omega
  have e1:IntKind.wrap .i64 ((b0.toNat:Int)-192)=((b0.toNat-192:Nat):Int):=by rw [aab (by omega) (by omega)];omega
  have l:=L 1 (b0.toNat-192) 128 (by omega) (by omega) (by omega)
  simp only [d1,d2,d3,decide_true,decide_false,cond_true,cond_false,e1]
  have l':abq N ((s,((i:Int),((1:Int),(((b0.toNat-192:Nat):Int),((128:Int),((1:Int),())))))),())=_:=l
  rw [l']
  simp only [sg,c1,if_false,c2,and_self,if_true]
  cases r with
  | nil=>simp [aig]
  | cons b1 r=>
   have hlt1:=adV b1
   cases hc:cb b1 with
   | false=>simp [aig,hc]
   | true=>
    have hc':=ab3.1 hc
    have e2:64*(b0.toNat-192)+(b1.toNat-128)=n2 b0 b1:=by unfold n2;omega
    have hn:n2 b0 b1<2048:=by unfold n2;omega
    simp only [aig,hc,if_true,e2,Option.bind_some,Sum.elim_inr]
    have q1:¬ (1114111:Int)<(n2 b0 b1:Int):=by omega
    have q2:¬ (55296:Int)≤(n2 b0 b1:Int):=by omega
    by_cases q3:128≤n2 b0 b1
    ·have q4:¬ (n2 b0 b1:Int)<128:=by omega
     simp [q1,q2,q3,q4,aab]
    ·have q4:(n2 b0 b1:Int)<128:=by omega
     simp [q3,q4]
 by_cases c3:224≤b0.toNat∧b0.toNat<240
 ·have d2:(192:Int)≤(b0.toNat:Int):=by omega
  have d3:¬ (b0.toNat:Int)<224:=by omega
  have d4:(224:Int)≤(b0.toNat:Int):=by omega
  have d5:(b0.toNat:Int)<240:=by omega
  have e1:IntKind.wrap .i64 ((b0.toNat:Int)-224)=((b0.toNat-224:Nat):Int):=by rw [aab (by omega) (by omega)];omega
  have l:=L 2 (b0.toNat-224) 2048 (by omega) (by omega) (by omega)
  simp only [d1,d2,d3,d4,d5,decide_true,decide_false,cond_true,cond_false,e1]
  have l':abq N ((s,((i:Int),((2:Int),(((b0.toNat-224:Nat):Int),((2048:Int),((1:Int),())))))),())=_:=l
  rw [l']
  simp only [sg,c1,if_false,c2,c3,and_self,if_true]
  match r with
  | []=>simp [aig]
  | [b1]=>cases hc:cb b1 <;> simp [aig,hc]
  | b1::b2::r=>
   have hlt1:=adV b1
   have hlt2:=adV b2
   cases hc:cb b1 with
   | false=>simp [aig,hc]
   | true=>
    cases hc2:cb b2 with
    | false=>simp [aig,hc,hc2]
    | true=>
     have hc':=ab3.1 hc
     have hc2':=ab3.1 hc2
     have e2:64*(64*(b0.toNat-224)+(b1.toNat-128))+(b2.toNat-128)=n3 b0 b1 b2:=by unfold n3;omega
     have hn:n3 b0 b1 b2<65536:=by unfold n3;omega
     simp only [aig,hc,hc2,if_true,e2,Option.bind_some,Sum.elim_inr]
     have q1:¬ (1114111:Int)<(n3 b0 b1 b2:Int):=by omega
     by_cases q3:2048≤n3 b0 b1 b2
     ·have q4:¬ (n3 b0 b1 b2:Int)<2048:=by omega
      by_cases q5:55296≤n3 b0 b1 b2
      ·have q6:(55296:Int)≤(n3 b0 b1 b2:Int):=by omega
       by_cases q7:n3 b0 b1 b2≤57343
       ·have q8:(n3 b0 b1 b2:Int)≤57343:=by omega
        simp [q1,q3,q4,q5,q6,q7,q8]
       ·have q8:¬ (n3 b0 b1 b2:Int)≤57343:=by omega
        simp [q1,q3,q4,q5,q6,q7,q8,aab]
      ·have q6:¬ (55296:Int)≤(n3 b0 b1 b2:Int):=by omega
       simp [q1,q3,q4,q5,q6,aab]
     ·have q4:(n3 b0 b1 b2:Int)<2048:=by omega
      simp [q3,q4]
 have hne:¬ ((192:Int)≤(b0.toNat:Int)∧(b0.toNat:Int)<224):=by omega
 have hne2:¬ ((224:Int)≤(b0.toNat:Int)∧(b0.toNat:Int)<240):=by omega
 by_cases c4:240≤b0.toNat∧b0.toNat<248
 ·have d2:(192:Int)≤(b0.toNat:Int):=by omega
  have d3:¬ (b0.toNat:Int)<224:=by omega
  have d4:(224:Int)≤(b0.toNat:Int):=by omega
  have d5:¬ (b0.toNat:Int)<240:=by omega
  have d6:(240:Int)≤(b0.toNat:Int):=by omega
  have d7:(b0.toNat:Int)<248:=by omega
  have e1:IntKind.wrap .i64 ((b0.toNat:Int)-240)=((b0.toNat-240:Nat):Int):=by rw [aab (by omega) (by omega)];omega
  have l:=L 3 (b0.toNat-240) 65536 (by omega) (by omega) (by omega)
  simp only [d1,d2,d3,d4,d5,d6,d7,decide_true,decide_false,cond_true,cond_false,e1]
  have l':abq N ((s,((i:Int),((3:Int),(((b0.toNat-240:Nat):Int),((65536:Int),((1:Int),())))))),())=_:=l
  rw [l']
  simp only [sg,c1,if_false,c2,c3,c4,and_self,if_true]
  match r with
  | []=>simp [aig]
  | [b1]=>cases hc:cb b1 <;> simp [aig,hc]
  | [b1,b2]=>cases hc:cb b1 <;> cases hc2:cb b2 <;> simp [aig,hc,hc2]
  | b1::b2::b3::r=>
   have hlt1:=adV b1
   have hlt2:=adV b2
   have hlt3:=adV b3
   cases hc:cb b1 with
   | false=>simp [aig,hc]
   | true=>
    cases hc2:cb b2 with
    | false=>simp [aig,hc,hc2]
    | true=>
     cases hc3:cb b3 with
     | false=>simp [aig,hc,hc2,hc3]
     | true=>
      have hc':=ab3.1 hc
      have hc2':=ab3.1 hc2
      have hc3':=ab3.1 hc3
      have e2:64*(64*(64*(b0.toNat-240)+(b1.toNat-128))+(b2.toNat-128))+(b3.toNat-128)=n4 b0 b1 b2 b3:=by unfold n4;omega
      simp only [aig,hc,hc2,hc3,if_true,e2,Option.bind_some,Sum.elim_inr]
      by_cases q3:65536≤n4 b0 b1 b2 b3
      ·have q4:¬ (n4 b0 b1 b2 b3:Int)<65536:=by omega
       have q6:(55296:Int)≤(n4 b0 b1 b2 b3:Int):=by omega
       have q8:¬ (n4 b0 b1 b2 b3:Int)≤57343:=by omega
       by_cases q1:n4 b0 b1 b2 b3≤1114111
       ·have q2:¬ (1114111:Int)<(n4 b0 b1 b2 b3:Int):=by omega
        simp [q1,q2,q3,q4,q6,q8,aab]
       ·have q2:(1114111:Int)<(n4 b0 b1 b2 b3:Int):=by omega
        simp [q1,q2,q3,q4]
      ·have q4:(n4 b0 b1 b2 b3:Int)<65536:=by omega
       simp [q3,q4]
 simp only [sg,c1,if_false,c2,c3,c4]
 by_cases d2:(192:Int)≤(b0.toNat:Int)
 ·have d3:¬ (b0.toNat:Int)<224:=by omega
  have d4:(224:Int)≤(b0.toNat:Int):=by omega
  have d5:¬ (b0.toNat:Int)<240:=by omega
  have d6:(240:Int)≤(b0.toNat:Int):=by omega
  have d7:¬ (b0.toNat:Int)<248:=by omega
  simp [d1,d2,d3,d4,d5,d6,d7]
 ·have d4:¬ (224:Int)≤(b0.toNat:Int):=by omega
  have d6:¬ (240:Int)≤(b0.toNat:Int):=by omega
  simp [d1,d2,d4,d6]
end
theorem ayO:∀ l:List UInt8,(sg l).2≤l.length∧(sg l).1≤1114111
 | []=>by simp [sg]
 | b0::r=>by
  have hlt:=adV b0
  by_cases c1:b0.toNat<128
  ·simp only [sg,c1,if_true,List.length_cons];omega
  by_cases c2:192≤b0.toNat∧b0.toNat<224
  ·simp only [sg,c1,c2,and_self,if_true,if_false]
   match r with
   | []=>simp
   | b1::r=>
    have:=adV b1
    simp only
    split
    ·unfold n2;simp only [List.length_cons];omega
    ·simp
  by_cases c3:224≤b0.toNat∧b0.toNat<240
  ·simp only [sg,c1,c2,c3,and_self,if_true,if_false]
   match r with
   | []=>simp
   | [b1]=>simp
   | b1::b2::r=>
    have:=adV b1
    have:=adV b2
    simp only
    split
    ·unfold n3;simp only [List.length_cons];omega
    ·simp
  by_cases c4:240≤b0.toNat∧b0.toNat<248
  ·simp only [sg,c1,c2,c3,c4,and_self,if_true,if_false]
   match r with
   | []=>simp
   | [b1]=>simp
   | [b1,b2]=>simp
   | b1::b2::b3::r=>
    simp only
    split
    ·rename_i h;simp only [List.length_cons];omega
    ·simp
  simp [sg,c1,c2,c3,c4]
theorem aEP (l:List UInt8):(sg l).2≤l.length:=(ayO l).1
theorem atU (l:List UInt8):(sg l).1≤1114111:=(ayO l).2
def sgs (l:List UInt8):Option (List Nat):=
 if h:l=[] then some [] else if hw:(sg l).2=0 then none else (sgs (l.drop (sg l).2)).map ((sg l).1:: ·)
termination_by l.length
decreasing_by
 have:l.length≠0:=fun h0=>h (List.eq_nil_of_length_eq_zero h0)
 simp only [List.length_drop];omega
theorem apr:sgs []=some []:=by rw [sgs];simp
theorem amE {l:List UInt8}(h:l≠[])(hw:(sg l).2=0):sgs l=none:=by rw [sgs];simp [h,hw]
theorem aoC {l:List UInt8}(h:l≠[])(hw:(sg l).2≠0):sgs l=(sgs (l.drop (sg l).2)).map ((sg l).1:: ·):=by rw [sgs];simp [h,hw]
theorem ahb:∀ (n:Nat) (l:List UInt8) (m:List Nat),l.length≤n→sgs l=some m→(∀ x∈m,x≤1114111)∧m.length≤l.length
 | n,[],m,_,h=>by rw [apr] at h;injection h with h;subst h;simp
 | 0,b::l,m,hn,h=>by simp at hn
 | n+1,b::l,m,hn,h=>by
  by_cases hw:(sg (b::l)).2=0
  ·rw [amE (by simp) hw] at h;cases h
  ·rw [aoC (by simp) hw,Option.map_eq_some_iff] at h
   obtain ⟨m',h1,rfl⟩:=h
   have hd:((b::l).drop (sg (b::l)).2).length≤n:=by rw [List.length_drop];omega
   obtain ⟨i1,i2⟩:=ahb n _ m' hd h1
   refine ⟨fun x hx=> ?_, ?_⟩
   ·rcases List.mem_cons.1 hx with rfl | hx
    ·exact atU _
    ·exact i1 x hx
   ·have:=aEP (b::l)
    rw [List.length_drop] at i2
    rw [List.length_cons]
    omega
theorem cb64 (b:UInt8):(b.toNat / 64==2)=cb b:=by
 rw [Bool.eq_iff_iff]
 simp only [beq_iff_eq,cb,decide_eq_true_eq]
 omega
theorem bget (s:List UInt8)(j:Nat):(ByteArray.mk s.toArray).get! j=s.getD j default:=by
 show s.toArray[j]! =_
 rw [List.getElem!_toArray,List.getElem!_eq_getElem?_getD,List.getD_eq_getElem?_getD]
theorem ay4 (s:List UInt8)(i:Nat)(hi:i<s.length):rdec s (i:Int)=if (sg (s.drop i)).2=0 then (65533,1) else (((sg (s.drop i)).1:Int),((sg (s.drop i)).2:Int)):=by
 have hd:=List.drop_eq_getElem_cons hi
 obtain ⟨b0,hb0⟩:∃ b,b=s[i]:=⟨_,rfl⟩
 obtain ⟨r,hr⟩:∃ r,r=s.drop (i+1):=⟨_,rfl⟩
 rw [←hb0,←hr] at hd
 have hlt:=adV b0
 have hsz:(ByteArray.mk s.toArray).size=s.length:=by show s.toArray.size=_;simp
 have at0:s.getD i default=b0:=by rw [List.getD_eq_getElem?_getD,List.getElem?_eq_getElem hi,Option.getD_some,hb0]
 have g:∀ k,s[i+(k+1)]? =r[k]? :=fun k=>by rw [hr,List.getElem?_drop];congr 1;omega
 have ats:∀ k b,r[k]? =some b→s.getD (i+(k+1)) default=b∧decide (i+(k+1)<s.length)=true:=fun k b h=>by
  have h1:=g k
  rw [h] at h1
  exact ⟨by rw [List.getD_eq_getElem?_getD,h1];rfl,decide_eq_true (List.getElem?_eq_some_iff.1 h1).1⟩
 have atn:∀ k,r[k]? =none→decide (i+(k+1)<s.length)=false:=fun k h=>by
  have h1:=g k
  rw [h] at h1
  exact decide_eq_false (by have:=List.getElem?_eq_none_iff.1 h1;omega)
 rw [hd]
 unfold rdec Utf8.decode
 simp only [Int.toNat_natCast,hsz,bget,Nat.add_zero,at0,cb64]
 have m2:(b0.toNat / 32==6)=decide (192≤b0.toNat∧b0.toNat<224):=by rw [Bool.eq_iff_iff];simp only [beq_iff_eq,decide_eq_true_eq];omega
 have m3:(b0.toNat / 16==14)=decide (224≤b0.toNat∧b0.toNat<240):=by rw [Bool.eq_iff_iff];simp only [beq_iff_eq,decide_eq_true_eq];omega
 have m4:(b0.toNat / 8==30)=decide (240≤b0.toNat∧b0.toNat<248):=by rw [Bool.eq_iff_iff];simp only [beq_iff_eq,decide_eq_true_eq];omega
 simp only [m2,m3,m4]
 by_cases c1:b0.toNat<128
 ·simp [sg,c1]
 simp only [c1,if_false]
 by_cases c2:192≤b0.toNat∧b0.toNat<224
 ·have c3:¬ (224≤b0.toNat∧b0.toNat<240):=by omega
  have c4:¬ (240≤b0.toNat∧b0.toNat<248):=by omega
  simp only [sg,c1,if_false,c2,c3,c4,and_self,decide_true,decide_false,Bool.true_and,Bool.false_and,if_true,Bool.false_eq_true]
  match r,ats,atn with
  | [],ats,atn=>
   simp [atn 0 rfl,Utf8.runeError]
  | b1::r,ats,atn=>
   obtain ⟨a1,a2⟩:=ats 0 b1 rfl
   simp only [Nat.zero_add] at a1 a2
   have hlt1:=adV b1
   simp only [a1,a2,Bool.true_and]
   cases hc:cb b1 with
   | false=>simp [Utf8.runeError]
   | true=>
    have hc':=ab3.1 hc
    have e2:b0.toNat % 32*64+b1.toNat % 64=n2 b0 b1:=by unfold n2;omega
    simp only [if_true,e2,true_and,ge_iff_le]
    by_cases q3:128≤n2 b0 b1 <;> simp [q3,Utf8.runeError]
 by_cases c3:224≤b0.toNat∧b0.toNat<240
 ·have c4:¬ (240≤b0.toNat∧b0.toNat<248):=by omega
  simp only [sg,c1,if_false,c2,c3,c4,and_self,decide_true,decide_false,Bool.true_and,Bool.false_and,if_true,Bool.false_eq_true]
  match r,ats,atn with
  | [],ats,atn=>simp [atn 0 rfl,Utf8.runeError]
  | [b1],ats,atn=>
   have h2:=atn 1 rfl
   simp only [Nat.reduceAdd] at h2
   simp [h2,Utf8.runeError]
  | b1::b2::r,ats,atn=>
   obtain ⟨a1,a2⟩:=ats 0 b1 rfl
   obtain ⟨a3,a4⟩:=ats 1 b2 rfl
   simp only [Nat.zero_add,Nat.reduceAdd] at a1 a2 a3 a4
   have hlt1:=adV b1
   have hlt2:=adV b2
   simp only [a1,a2,a3,a4,Bool.true_and]
   cases hc:cb b1 with
   | false=>simp [Utf8.runeError]
   | true=>
    cases hc2:cb b2 with
    | false=>simp [Utf8.runeError]
    | true=>
     have hc':=ab3.1 hc
     have hc2':=ab3.1 hc2
     have e2:b0.toNat % 16*4096+b1.toNat % 64*64+b2.toNat % 64=n3 b0 b1 b2:=by unfold n3;omega
     have hn:n3 b0 b1 b2<65536:=by unfold n3;omega
     have hv:Utf8.valid ((n3 b0 b1 b2:Nat):Int)=decide (¬ (55296≤n3 b0 b1 b2∧n3 b0 b1 b2≤57343)):=by
      rw [Bool.eq_iff_iff]
      simp only [Utf8.valid,Bool.or_eq_true,Bool.and_eq_true,decide_eq_true_eq]
      omega
     simp only [if_true,e2,true_and,ge_iff_le,Bool.and_self,hv]
     by_cases q3:2048≤n3 b0 b1 b2
     ·by_cases q5:55296≤n3 b0 b1 b2∧n3 b0 b1 b2≤57343
      ·simp [q3,q5,Utf8.runeError]
      ·simp only [q3,q5,decide_true,decide_false,not_false_eq_true,Bool.true_and,if_true,and_self];simp
     ·simp [q3,Utf8.runeError]
 by_cases c4:240≤b0.toNat∧b0.toNat<248
 ·simp only [sg,c1,if_false,c2,c3,c4,and_self,decide_true,decide_false,Bool.true_and,Bool.false_and,if_true,Bool.false_eq_true]
  match r,ats,atn with
  | [],ats,atn=>simp [atn 0 rfl,Utf8.runeError]
  | [b1],ats,atn=>
   have h2:=atn 1 rfl
   simp only [Nat.reduceAdd] at h2
   simp [h2,Utf8.runeError]
  | [b1,b2],ats,atn=>
   have h2:=atn 2 rfl
   simp only [Nat.reduceAdd] at h2
   simp [h2,Utf8.runeError]
  | b1::b2::b3::r,ats,atn=>
   obtain ⟨a1,a2⟩:=ats 0 b1 rfl
   obtain ⟨a3,a4⟩:=ats 1 b2 rfl
   obtain ⟨a5,a6⟩:=ats 2 b3 rfl
   simp only [Nat.zero_add,Nat.reduceAdd] at a1 a2 a3 a4 a5 a6
   have hlt1:=adV b1
   have hlt2:=adV b2
   have hlt3:=adV b3
   simp only [a1,a2,a3,a4,a5,a6,Bool.true_and]
   cases hc:cb b1 with
   | false=>simp [Utf8.runeError]
   | true=>
    cases hc2:cb b2 with
    | false=>simp [Utf8.runeError]
    | true=>
     cases hc3:cb b3 with
     | false=>simp [Utf8.runeError]
     | true=>
      have hc':=ab3.1 hc
      have hc2':=ab3.1 hc2
      have hc3':=ab3.1 hc3
      have e2:b0.toNat % 8*262144+b1.toNat % 64*4096+b2.toNat % 64*64+b3.toNat % 64=n4 b0 b1 b2 b3:=by unfold n4;omega
      simp only [if_true,e2,true_and,ge_iff_le,Bool.and_self]
      by_cases q3:65536≤n4 b0 b1 b2 b3
      ·have hv:Utf8.valid ((n4 b0 b1 b2 b3:Nat):Int)=decide (n4 b0 b1 b2 b3≤1114111):=by
        rw [Bool.eq_iff_iff]
        simp only [Utf8.valid,Bool.or_eq_true,Bool.and_eq_true,decide_eq_true_eq]
        omega
       rw [hv]
       by_cases q5:n4 b0 b1 b2 b3≤1114111 <;> simp [q3,q5,Utf8.runeError]
      ·simp [q3,Utf8.runeError]
 simp [sg,c1,c2,c3,c4,Utf8.runeError]
theorem ayN {b:UInt8}{l:List UInt8}(h:b.toNat<128):sg (b::l)=(b.toNat,1):=by simp [sg,h]
theorem ayK:∀ (k:Nat) (l:List UInt8),k≤l.length→(∀ j b,j<k→l[j]? =some b→b.toNat<128)→(sgs (l.drop k)).isSome=(sgs l).isSome
 | 0,l,_,_=>by simp
 | k+1,[],hk,_=>by simp at hk
 | k+1,b::l,hk,h=>by
  have hb:=h 0 b (by omega) rfl
  rw [List.drop_succ_cons,ayK k l (by simpa using hk) (fun j c hj hc=>h (j+1) c (by omega) (by simpa using hc)),aoC (l:=b::l) (by simp) (by rw [ayN hb];simp),ayN hb]
  simp
theorem q64_and (a b:Nat)(ha:a<18446744073709551616)(hb:b<18446744073709551616):bits .and .u64 (a:Int) (b:Int)=((a&&&b:Nat):Int):=by
 have hx:a&&&b<2 ^ 64:=Nat.and_lt_two_pow (n:=64) a (by omega)
 show IntKind.u64.wrap ((BitVec.ofInt 64 (a:Int)&&&BitVec.ofInt 64 (b:Int)).toNat:Int)=_
 rw [BitVec.toNat_and,air a ha,air b hb,IntKind.wrap_u64]
 omega
theorem sh64 (b:UInt8)(k:Nat)(hk:k≤56):IntKind.wrap .u64 (IntKind.wrap .u64 (b.toNat:Int)*2 ^ k)=((b.toNat <<<k:Nat):Int):=by
 have hlt:=adV b
 have h1:IntKind.wrap .u64 (b.toNat:Int)=b.toNat:=aaz (by omega) (by omega)
 have h2:b.toNat*2 ^ k<18446744073709551616:=by
  have:(2:Nat) ^ k≤2 ^ 56:=Nat.pow_le_pow_right (by decide) hk
  calc b.toNat*2 ^ k≤255*2 ^ 56:=Nat.mul_le_mul (by omega) this
   _<_:=by decide
 rw [h1,Nat.shiftLeft_eq]
 have e:((b.toNat:Int)*2 ^ k)=((b.toNat*2 ^ k:Nat):Int):=by simp
 rw [e]
 exact aaz (by omega) (by omega)
theorem aha (b:UInt8)(k:Nat)(hk:k≤56):b.toNat <<<k<18446744073709551616:=by
 have hlt:=adV b
 have:(2:Nat) ^ k≤2 ^ 56:=Nat.pow_le_pow_right (by decide) hk
 rw [Nat.shiftLeft_eq]
 calc b.toNat*2 ^ k≤255*2 ^ 56:=Nat.mul_le_mul (by omega) this
  _<_:=by decide
theorem acW {a b:Nat}(ha:a<18446744073709551616)(hb:b<18446744073709551616):a|||b<18446744073709551616:=Nat.or_lt_two_pow (n:=64) ha hb
def w8 (a b c d e f g h:UInt8):Nat:=(((((((a.toNat|||b.toNat <<<8)|||c.toNat <<<16)|||d.toNat <<<24)|||e.toNat <<<32)|||f.toNat <<<40)|||g.toNat <<<48)|||h.toNat <<<56)
theorem aKU (a b c d e f g h:UInt8):w8 a b c d e f g h<18446744073709551616:=by
 have ha:a.toNat<18446744073709551616:=by have:=adV a;omega
 exact acW (acW (acW (acW (acW (acW (acW ha (aha b 8 (by decide))) (aha c 16 (by decide))) (aha d 24 (by decide))) (aha e 32 (by decide))) (aha f 40 (by decide))) (aha g 48 (by decide))) (aha h 56 (by decide))
theorem aJE (b:UInt8)(n:Nat)(h:8≤n):b.toNat.testBit n=false:=Nat.testBit_lt_two_pow (Nat.lt_of_lt_of_le (adV b) (by have:(2:Nat) ^ 8≤2 ^ n:=Nat.pow_le_pow_right (by decide) h;exact this))
theorem aED (a b c d e f g h:UInt8):
  (w8 a b c d e f g h).testBit 7=a.toNat.testBit 7∧(w8 a b c d e f g h).testBit 15=b.toNat.testBit 7∧(w8 a b c d e f g h).testBit 23=c.toNat.testBit 7∧(w8 a b c d e f g h).testBit 31=d.toNat.testBit 7∧(w8 a b c d e f g h).testBit 39=e.toNat.testBit 7∧(w8 a b c d e f g h).testBit 47=f.toNat.testBit 7∧(w8 a b c d e f g h).testBit 55=g.toNat.testBit 7∧(w8 a b c d e f g h).testBit 63=h.toNat.testBit 7:=by
 have z:∀ (x:UInt8) (n:Nat),8≤n→x.toNat.testBit n=false:=aJE
 refine ⟨?_, ?_, ?_, ?_, ?_, ?_, ?_, ?_⟩ <;> simp [w8,Nat.testBit_or,Nat.testBit_shiftLeft,z]
theorem alP {x:UInt8}(h:x.toNat.testBit 7=false):x.toNat<128:=by
 have hlt:=adV x
 rw [Nat.testBit_eq_decide_div_mod_eq] at h
 simp at h
 omega
def hiM:Nat:=9259542123273814144
theorem aFw {w:Nat}(h:w&&&hiM=0):w.testBit 7=false∧w.testBit 15=false∧w.testBit 23=false∧w.testBit 31=false∧w.testBit 39=false∧w.testBit 47=false∧w.testBit 55=false∧w.testBit 63=false:=by
 have key:∀ i,hiM.testBit i=true→w.testBit i=false:=fun i hi=>by
  have h1:(w&&&hiM).testBit i=false:=by rw [h];simp
  rw [Nat.testBit_and,hi,Bool.and_true] at h1
  exact h1
 exact ⟨key 7 (by decide),key 15 (by decide),key 23 (by decide),key 31 (by decide),key 39 (by decide),key 47 (by decide),key 55 (by decide),key 63 (by decide)⟩
def low8 (s:List UInt8):Prop:=∀ j b,j<8→s[j]? =some b→b.toNat<128
section
variable {N:Nat}
theorem word_ok (s:List UInt8)(h:8≤s.length):∃ w:Nat,w<18446744073709551616∧aaq N s=some (w:Int)∧(w&&&hiM=0→low8 s):=by
 match s,h with
 | a::b::c::d::e::f::g::k::r,_=>
  refine ⟨w8 a b c d e f g k,aKU _ _ _ _ _ _ _ _, ?_,fun hz=> ?_⟩
  ·have ga:getI (a::b::c::d::e::f::g::k::r) (0:Int)=some a:=rfl
   have gb:getI (a::b::c::d::e::f::g::k::r) (1:Int)=some b:=rfl
   have gc:getI (a::b::c::d::e::f::g::k::r) (2:Int)=some c:=rfl
   have gd:getI (a::b::c::d::e::f::g::k::r) (3:Int)=some d:=rfl
   have ge:getI (a::b::c::d::e::f::g::k::r) (4:Int)=some e:=rfl
   have gf:getI (a::b::c::d::e::f::g::k::r) (5:Int)=some f:=rfl
   have gg:getI (a::b::c::d::e::f::g::k::r) (6:Int)=some g:=rfl
   have gk:getI (a::b::c::d::e::f::g::k::r) (7:Int)=some k:=rfl
   have ha:a.toNat<18446744073709551616:=by have:=adV a;omega
   have e0:IntKind.wrap .u64 (a.toNat:Int)=a.toNat:=aaz (by omega) (by omega)
   have m8:min (Int.toNat 8) (IntKind.bits IntKind.u64)=8:=by decide
   have m16:min (Int.toNat 16) (IntKind.bits IntKind.u64)=16:=by decide
   have m24:min (Int.toNat 24) (IntKind.bits IntKind.u64)=24:=by decide
   have m32:min (Int.toNat 32) (IntKind.bits IntKind.u64)=32:=by decide
   have m40:min (Int.toNat 40) (IntKind.bits IntKind.u64)=40:=by decide
   have m48:min (Int.toNat 48) (IntKind.bits IntKind.u64)=48:=by decide
   have m56:min (Int.toNat 56) (IntKind.bits IntKind.u64)=56:=by decide
   simp only [aaq,ga,gb,gc,gd,ge,gf,gg,gk,Option.bind_some,e0,m8,m16,m24,m32,m40,m48,m56,sh64 b 8 (by decide),sh64 c 16 (by decide),sh64 d 24 (by decide),sh64 e 32 (by decide),sh64 f 40 (by decide),sh64 g 48 (by decide),sh64 k 56 (by decide)]
   have l1:=acW ha (aha b 8 (by decide))
   have l2:=acW l1 (aha c 16 (by decide))
   have l3:=acW l2 (aha d 24 (by decide))
   have l4:=acW l3 (aha e 32 (by decide))
   have l5:=acW l4 (aha f 40 (by decide))
   have l6:=acW l5 (aha g 48 (by decide))
   rw [ahp _ _ ha (aha b 8 (by decide)),ahp _ _ l1 (aha c 16 (by decide)),ahp _ _ l2 (aha d 24 (by decide)),ahp _ _ l3 (aha e 32 (by decide)),ahp _ _ l4 (aha f 40 (by decide)),ahp _ _ l5 (aha g 48 (by decide)),ahp _ _ l6 (aha k 56 (by decide))]
   rfl
  ·obtain ⟨b1,b2,b3,b4,b5,b6,b7,b8⟩:=aED a b c d e f g k
   obtain ⟨z1,z2,z3,z4,z5,z6,z7,z8⟩:=aFw hz
   rw [z1] at b1;rw [z2] at b2;rw [z3] at b3;rw [z4] at b4;rw [z5] at b5;rw [z6] at b6;rw [z7] at b7;rw [z8] at b8
   intro j x hj hx
   have:j=0∨j=1∨j=2∨j=3∨j=4∨j=5∨j=6∨j=7:=by omega
   rcases this with rfl | rfl | rfl | rfl | rfl | rfl | rfl | rfl <;> (simp at hx;subst hx;first | exact alP b1.symm | exact alP b2.symm | exact alP b3.symm | exact alP b4.symm | exact alP b5.symm | exact alP b6.symm | exact alP b7.symm | exact alP b8.symm)
theorem af0 {s:List UInt8}(h:8≤s.length)(hl:low8 s):(sgs (s.drop 8)).isSome=(sgs s).isSome:=ayK 8 s h hl
theorem apY {a b:Nat}(h:(a|||b)&&&hiM=0):a&&&hiM=0∧b&&&hiM=0:=by
 constructor
 ·apply Nat.eq_of_testBit_eq
  intro i
  have h1:((a|||b)&&&hiM).testBit i=false:=by rw [h];simp
  rw [Nat.testBit_and,Nat.testBit_or] at h1
  rw [Nat.testBit_and,Nat.zero_testBit]
  revert h1;cases a.testBit i <;> cases b.testBit i <;> cases hiM.testBit i <;> simp
 ·apply Nat.eq_of_testBit_eq
  intro i
  have h1:((a|||b)&&&hiM).testBit i=false:=by rw [h];simp
  rw [Nat.testBit_and,Nat.testBit_or] at h1
  rw [Nat.testBit_and,Nat.zero_testBit]
  revert h1;cases a.testBit i <;> cases b.testBit i <;> cases hiM.testBit i <;> simp
theorem ai7 (s:List UInt8)(k:Nat)(h:k≤s.length):abe s ((k:Nat):Int)=some (s.drop k):=adl s rfl h
theorem anP (w:Nat)(h:w<18446744073709551616):bits .and .u64 (w:Int) (9259542123273814144:Int)=((w&&&hiM:Nat):Int):=q64_and w hiM h (by decide)
theorem aJs:∀ (n M:Nat) (s:List UInt8),s.length≤n→n<M→∃ t:List UInt8,gl (fun X c=>aaF N X c.1.1) M ((s,()),())=some ((t,()),())∧t.length≤s.length∧(sgs t).isSome=(sgs s).isSome
 | n,0,s,_,h=>by omega
 | n,M+1,s,hn,hM=>by
  rw [aae]
  by_cases hl:32<s.length
  ·have c1:(32:Int)<(s.length:Int):=by omega
   obtain ⟨w1,a1,a2,a3⟩:=word_ok (N:=N) s (by omega)
   obtain ⟨w2,b1,b2,b3⟩:=word_ok (N:=N) (s.drop 8) (by rw [List.length_drop];omega)
   obtain ⟨w3,d1,d2,d3⟩:=word_ok (N:=N) (s.drop 16) (by rw [List.length_drop];omega)
   obtain ⟨w4,e1,e2,e3⟩:=word_ok (N:=N) (s.drop 24) (by rw [List.length_drop];omega)
   have f1:abe s (8:Int)=some (s.drop 8):=ai7 s 8 (by omega)
   have f2:abe s (16:Int)=some (s.drop 16):=ai7 s 16 (by omega)
   have f3:abe s (24:Int)=some (s.drop 24):=ai7 s 24 (by omega)
   have f4:abe s (32:Int)=some (s.drop 32):=ai7 s 32 (by omega)
   have l1:=acW a1 b1
   have l2:=acW d1 e1
   have l3:=acW l1 l2
   simp only [aaF,c1,decide_true,cond_true,a2,Option.bind_some,f1,b2,f2,d2,f3,e2,f4,ahp _ _ a1 b1,ahp _ _ d1 e1,ahp _ _ l1 l2,anP _ l3]
   by_cases hz:((w1|||w2)|||(w3|||w4))&&&hiM=0
   ·obtain ⟨z1,z2⟩:=apY hz
    obtain ⟨z3,z4⟩:=apY z1
    obtain ⟨z5,z6⟩:=apY z2
    have k1:=af0 (by omega) (a3 z3)
    have k2:=af0 (by rw [List.length_drop];omega) (b3 z4)
    have k3:=af0 (by rw [List.length_drop];omega) (d3 z5)
    have k4:=af0 (by rw [List.length_drop];omega) (e3 z6)
    simp only [List.drop_drop,Nat.reduceAdd] at k1 k2 k3 k4
    have ih:=aJs (n-32) M (s.drop 32) (by rw [List.length_drop];omega) (by omega)
    obtain ⟨t,t1,t2,t3⟩:=ih
    refine ⟨t, ?_,by rw [List.length_drop] at t2;omega,by rw [t3,k4,k3,k2,k1]⟩
    simp only [hz,Int.natCast_zero,decide_true,cond_true]
    exact t1
   ·have hz':¬ ((((w1|||w2)|||(w3|||w4))&&&hiM:Nat):Int)=0:=by omega
    refine ⟨s, ?_,Nat.le_refl _,rfl⟩
    simp only [hz',decide_false,cond_false]
  ·have c1:¬ (32:Int)<(s.length:Int):=by omega
   refine ⟨s, ?_,Nat.le_refl _,rfl⟩
   simp only [aaF,c1,decide_false,cond_false]
def azY:List Int:=[240,240,240,240,240,240,240,240,240,240,240,240,240,240,240,240,240,240,240,240,240,240,240,240,240,240,240,240,240,240,240,240,240,240,240,240,240,240,240,240,240,240,240,240,240,240,240,240,240,240,240,240,240,240,240,240,240,240,240,240,240,240,240,240,240,240,240,240,240,240,240,240,240,240,240,240,240,240,240,240,240,240,240,240,240,240,240,240,240,240,240,240,240,240,240,240,240,240,240,240,240,240,240,240,240,240,240,240,240,240,240,240,240,240,240,240,240,240,240,240,240,240,240,240,240,240,240,240,241,241,241,241,241,241,241,241,241,241,241,241,241,241,241,241,241,241,241,241,241,241,241,241,241,241,241,241,241,241,241,241,241,241,241,241,241,241,241,241,241,241,241,241,241,241,241,241,241,241,241,241,241,241,241,241,241,241,241,241,241,241,241,241,241,241,2,2,2,2,2,2,2,2,2,2,2,2,2,2,2,2,2,2,2,2,2,2,2,2,2,2,2,2,2,2,19,3,3,3,3,3,3,3,3,3,3,3,3,35,3,3,52,4,4,4,68,241,241,241,241,241,241,241,241,241,241,241]
def accT:List (Int×Int):=[(128,191),(160,191),(128,159),(144,191),(128,143),(0,0),(0,0),(0,0),(0,0),(0,0),(0,0),(0,0),(0,0),(0,0),(0,0),(0,0)]
def tabB (b:Nat):Option (Int×Int×Int):=match getI azY (b:Int) with
 | some x=>(match getI accT (Int.fdiv x (2 ^ min (Int.toNat 4) (IntKind.bits IntKind.u8))) with
  | some (lo,hi)=>some (IntKind.wrap .i64 (bits .and .u8 x 7),lo,hi)
  | none=>none)
 | none=>none
def tabW (b:Nat):Int×Int×Int:=
 if 194≤b∧b<224 then (2,128,191) else if b=224 then (3,160,191) else if b=237 then (3,128,159) else if 225≤b∧b<240 then (3,128,191)
 else if b=240 then (4,144,191) else if 241≤b∧b<244 then (4,128,191) else if b=244 then (4,128,143) else (1,128,191)
theorem aEK:∀ b:Fin 128,(match tabB (128+b.val),tabW (128+b.val) with | some (n,lo,hi),(n',lo',hi')=>n==n'&&(n==1||(lo==lo'&&hi==hi')) | _,_=>false)=true:=by decide +kernel
theorem aI2 (b:UInt8)(h:128≤b.toNat):∃ x lo hi,getI azY (b.toNat:Int)=some x∧getI accT (Int.fdiv x (2 ^ min (Int.toNat 4) (IntKind.bits IntKind.u8)))=some (lo,hi)∧
  IntKind.wrap .i64 (bits .and .u8 x 7)=(tabW b.toNat).1∧((tabW b.toNat).1=1∨(lo=(tabW b.toNat).2.1∧hi=(tabW b.toNat).2.2)):=by
 have hlt:=adV b
 have:=aEK ⟨b.toNat-128,by omega⟩
 have e:128+(b.toNat-128)=b.toNat:=by omega
 simp only [e,tabB] at this
 split at this
 ·rename_i n lo hi n' lo' hi' h1 h2
  split at h1
  ·rename_i x hx
   split at h1
   ·rename_i p lo1 hi1 hp
    injection h1 with h1
    injection h1 with h3 h4
    injection h4 with h4 h5
    subst h4 h5
    refine ⟨x,lo1,hi1,hx,hp, ?_, ?_⟩
    ·rw [h2]
     simp only [Bool.and_eq_true,beq_iff_eq] at this
     rw [h3];exact this.1
    ·rw [h2]
     simp only [Bool.and_eq_true,Bool.or_eq_true,beq_iff_eq] at this
     rcases this.2 with h6 | h6
     ·exact .inl (by rw [←this.1];exact h6)
     ·exact .inr h6
   ·cases h1
  ·cases h1
 ·cases this
end
theorem sgv2 (b0:UInt8)(r:List UInt8)(h:194≤b0.toNat∧b0.toNat<224):(sg (b0::r)).2=(match r with | b1::_=>if 128≤b1.toNat∧b1.toNat≤191 then 2 else 0 | _=>0):=by
 have c1:¬ b0.toNat<128:=by omega
 have c2:192≤b0.toNat∧b0.toNat<224:=by omega
 simp only [sg,c1,c2,and_self,if_true,if_false]
 match r with
 | []=>rfl
 | b1::r=>
  simp only
  by_cases hc:128≤b1.toNat∧b1.toNat≤191
  ·rw [if_pos hc,if_pos ⟨ab3.2 (by omega),by unfold n2;omega⟩]
  ·rw [if_neg hc,if_neg (fun h=>hc (by have:=ab3.1 h.1;omega))]
theorem sgv3 (b0:UInt8)(r:List UInt8)(h:224≤b0.toNat∧b0.toNat<240):(sg (b0::r)).2=(match r with | b1::b2::_=>if ((tabW b0.toNat).2.1≤b1.toNat∧(b1.toNat:Int)≤(tabW b0.toNat).2.2)∧128≤b2.toNat∧b2.toNat≤191 then 3 else 0 | _=>0)∧(tabW b0.toNat).1=3:=by
 have c1:¬ b0.toNat<128:=by omega
 have c2:¬ (192≤b0.toNat∧b0.toNat<224):=by omega
 simp only [sg,c1,c2,h,and_self,if_true,if_false]
 have d1:¬ (194≤b0.toNat∧b0.toNat<224):=by omega
 have key:∀ lo hi:Nat,((lo=160∧hi=191∧b0.toNat=224)∨(lo=128∧hi=159∧b0.toNat=237)∨(lo=128∧hi=191∧b0.toNat≠224∧b0.toNat≠237))→(match r with
   | b1::b2::_=>if cb b1=true∧cb b2=true∧2048≤n3 b0 b1 b2∧¬ (55296≤n3 b0 b1 b2∧n3 b0 b1 b2≤57343) then (n3 b0 b1 b2,3) else (0,0)
   | _=>(0,0)).2=(match r with | b1::b2::_=>if ((lo:Int)≤b1.toNat∧(b1.toNat:Int)≤hi)∧128≤b2.toNat∧b2.toNat≤191 then 3 else 0 | _=>0):=by
  intro lo hi hlo
  match r with
  | []=>rfl
  | [b1]=>rfl
  | b1::b2::r=>
   simp only
   by_cases hc:((lo:Int)≤b1.toNat∧(b1.toNat:Int)≤hi)∧128≤b2.toNat∧b2.toNat≤191
   ·rw [if_pos hc,if_pos ⟨ab3.2 (by omega),ab3.2 (by omega),by unfold n3;omega,by unfold n3;omega⟩]
   ·rw [if_neg hc,if_neg (fun h=>hc (by have h1:=ab3.1 h.1;have h2:=ab3.1 h.2.1;have h3:=h.2.2;unfold n3 at h3;omega))]
 by_cases e1:b0.toNat=224
 ·have t:tabW b0.toNat=(3,160,191):=by rw [e1];rfl
  rw [t];exact ⟨key 160 191 (by omega),rfl⟩
 by_cases e2:b0.toNat=237
 ·have t:tabW b0.toNat=(3,128,159):=by rw [e2];rfl
  rw [t];exact ⟨key 128 159 (by omega),rfl⟩
 have t:tabW b0.toNat=(3,128,191):=by
  have c5:225≤b0.toNat∧b0.toNat<240:=by omega
  simp [tabW,d1,e1,e2,c5]
 rw [t];exact ⟨key 128 191 (by omega),rfl⟩
theorem sgv4 (b0:UInt8)(r:List UInt8)(h:240≤b0.toNat∧b0.toNat<245):(sg (b0::r)).2=(match r with | b1::b2::b3::_=>if ((tabW b0.toNat).2.1≤b1.toNat∧(b1.toNat:Int)≤(tabW b0.toNat).2.2)∧(128≤b2.toNat∧b2.toNat≤191)∧128≤b3.toNat∧b3.toNat≤191 then 4 else 0 | _=>0)∧(tabW b0.toNat).1=4:=by
 have c1:¬ b0.toNat<128:=by omega
 have c2:¬ (192≤b0.toNat∧b0.toNat<224):=by omega
 have c3:¬ (224≤b0.toNat∧b0.toNat<240):=by omega
 have c4:240≤b0.toNat∧b0.toNat<248:=by omega
 simp only [sg,c1,c2,c3,c4,and_self,if_true,if_false]
 have d1:¬ (194≤b0.toNat∧b0.toNat<224):=by omega
 have d2:¬ (225≤b0.toNat∧b0.toNat<240):=by omega
 have d3:¬ b0.toNat=224:=by omega
 have d4:¬ b0.toNat=237:=by omega
 have key:∀ lo hi:Nat,((lo=144∧hi=191∧b0.toNat=240)∨(lo=128∧hi=143∧b0.toNat=244)∨(lo=128∧hi=191∧b0.toNat≠240∧b0.toNat≠244))→(match r with
   | b1::b2::b3::_=>if cb b1=true∧cb b2=true∧cb b3=true∧65536≤n4 b0 b1 b2 b3∧n4 b0 b1 b2 b3≤1114111 then (n4 b0 b1 b2 b3,4) else (0,0)
   | _=>(0,0)).2=(match r with | b1::b2::b3::_=>if ((lo:Int)≤b1.toNat∧(b1.toNat:Int)≤hi)∧(128≤b2.toNat∧b2.toNat≤191)∧128≤b3.toNat∧b3.toNat≤191 then 4 else 0 | _=>0):=by
  intro lo hi hlo
  match r with
  | []=>rfl
  | [b1]=>rfl
  | [b1,b2]=>rfl
  | b1::b2::b3::r=>
   simp only
   by_cases hc:((lo:Int)≤b1.toNat∧(b1.toNat:Int)≤hi)∧(128≤b2.toNat∧b2.toNat≤191)∧128≤b3.toNat∧b3.toNat≤191
   ·rw [if_pos hc,if_pos ⟨ab3.2 (by omega),ab3.2 (by omega),ab3.2 (by omega),by unfold n4;omega,by unfold n4;omega⟩]
   ·rw [if_neg hc,if_neg (fun h=>hc (by have h1:=ab3.1 h.1;have h2:=ab3.1 h.2.1;have h4:=ab3.1 h.2.2.1;have h3:=h.2.2.2;unfold n4 at h3;omega))]
 by_cases e1:b0.toNat=240
 ·have t:tabW b0.toNat=(4,144,191):=by rw [e1];rfl
  rw [t];exact ⟨key 144 191 (by omega),rfl⟩
 by_cases e2:b0.toNat=244
 ·have t:tabW b0.toNat=(4,128,143):=by rw [e2];rfl
  rw [t];exact ⟨key 128 143 (by omega),rfl⟩
 have t:tabW b0.toNat=(4,128,191):=by
  have c5:241≤b0.toNat∧b0.toNat<244:=by omega
  simp [tabW,d1,d2,d3,d4,e1,e2,c5]
 rw [t];exact ⟨key 128 191 (by omega),rfl⟩
theorem sgv0 (b0:UInt8)(r:List UInt8)(h:128≤b0.toNat)(h':b0.toNat<194∨245≤b0.toNat):(sg (b0::r)).2=0∧(tabW b0.toNat).1=1:=by
 have hlt:=adV b0
 have c1:¬ b0.toNat<128:=by omega
 have c3:¬ (224≤b0.toNat∧b0.toNat<240):=by omega
 have d1:¬ (194≤b0.toNat∧b0.toNat<224):=by omega
 have d2:¬ (225≤b0.toNat∧b0.toNat<240):=by omega
 have d3:¬ b0.toNat=224:=by omega
 have d4:¬ b0.toNat=237:=by omega
 have d5:¬ b0.toNat=240:=by omega
 have d6:¬ b0.toNat=244:=by omega
 have d7:¬ (241≤b0.toNat∧b0.toNat<244):=by omega
 refine ⟨?_,by simp [tabW,d1,d2,d3,d4,d5,d6,d7]⟩
 by_cases c2:192≤b0.toNat∧b0.toNat<224
 ·simp only [sg,c1,c2,and_self,if_true,if_false]
  match r with
  | []=>rfl
  | b1::r=>
   simp only
   rw [if_neg (fun h=>by have h1:=ab3.1 h.1;have h3:=h.2;unfold n2 at h3;omega)]
 by_cases c4:240≤b0.toNat∧b0.toNat<248
 ·simp only [sg,c1,c2,c3,c4,and_self,if_true,if_false]
  match r with
  | []=>rfl
  | [b1]=>rfl
  | [b1,b2]=>rfl
  | b1::b2::b3::r=>
   simp only
   rw [if_neg (fun h=>by have h3:=h.2.2.2;unfold n4 at h3;omega)]
 simp [sg,c1,c2,c3,c4]
theorem ami {l:List UInt8}{k:Nat}(hl:l≠[])(h:(sg l).2=k)(hk:k≠0):(sgs (l.drop k)).isSome=(sgs l).isSome:=by
 rw [aoC hl (by omega),h];simp
section
variable {N:Nat}
abbrev VX:=(((List UInt8)×Unit)×Unit)→Option (((((Bool)×Unit)×Unit) ⊕ (Unit×Unit)))
def VQ (v:Bool):((((Bool)×Unit)×Unit) ⊕ (Unit×Unit))→Prop
 | .inl q=>q.1.1=v
 | .inr _=>true=v
theorem axf (X:VX)(s:List UInt8)(hN:s.length<N):(∃ o,aad N X s=some o∧VQ (sgs s).isSome o)∨∃ t:List UInt8,t.length<s.length∧(sgs t).isSome=(sgs s).isSome∧aad N X s=X ((t,()),()):=by
 match s,hN with
 | [],_=>
  left
  exact ⟨_,rfl,by rw [apr];rfl⟩
 | b0::r,hN=>
  have hlt:=adV b0
  have c0:(0:Int)<(((b0::r).length:Nat):Int):=by rw [List.length_cons];omega
  have g0:getI (b0::r) (0:Int)=some b0:=rfl
  by_cases hb:b0.toNat<128
  ·right
   have c1:(b0.toNat:Int)<128:=by omega
   have f1:abe (b0::r) (1:Int)=some r:=ai7 (b0::r) 1 (by simp)
   have s1:(sgs r).isSome=(sgs (b0::r)).isSome:=ami (l:=b0::r) (k:=1) (by simp) (by rw [ayN hb]) (by omega)
   by_cases l8:8<r.length
   ·have c2:(8:Int)<(r.length:Int):=by omega
    obtain ⟨w1,a1,a2,a3⟩:=word_ok (N:=N) r (by omega)
    by_cases z1:w1&&&hiM=0
    ·have f2:abe r (8:Int)=some (r.drop 8):=ai7 r 8 (by omega)
     have s2:=af0 (by omega) (a3 z1)
     by_cases l16:16<(r.drop 8).length
     ·have c3:(16:Int)<((r.drop 8).length:Int):=by omega
      have hlen:(r.drop 8).length=r.length-8:=List.length_drop
      obtain ⟨w2,b1,b2,b3⟩:=word_ok (N:=N) (r.drop 8) (by omega)
      have f3:abe (r.drop 8) (8:Int)=some ((r.drop 8).drop 8):=ai7 _ 8 (by omega)
      have f4:abe (r.drop 8) (16:Int)=some ((r.drop 8).drop 16):=ai7 _ 16 (by omega)
      obtain ⟨w3,d1,d2,d3⟩:=word_ok (N:=N) ((r.drop 8).drop 8) (by rw [List.length_drop];omega)
      have l1:=acW b1 d1
      by_cases z2:(w2|||w3)&&&hiM=0
      ·obtain ⟨y1,y2⟩:=apY z2
       have s3:=af0 (by omega) (b3 y1)
       have s4:=af0 (by rw [List.length_drop];omega) (d3 y2)
       simp only [List.drop_drop,Nat.reduceAdd] at s3 s4 d2 f3 f4
       obtain ⟨t,t1,t2,t3⟩:=aJs (N:=N) (r.drop 24).length N (r.drop 24) (Nat.le_refl _) (by rw [List.length_drop];rw [List.length_cons] at hN;omega)
       have t1':acC N ((r.drop 24,()),())=some ((t,()),()):=t1
       refine ⟨t,by rw [List.length_drop] at t2;rw [List.length_cons];omega,by rw [t3,s4,s3,s2,s1], ?_⟩
       simp only [aad,c0,g0,c1,f1,c2,a2,f2,c3,b2,f3,d2,f4,decide_true,cond_true,Option.bind_some,anP _ a1,z1,Int.natCast_zero,ahp _ _ b1 d1,anP _ l1,z2]
       rw [t1']
       rfl
      ·have z2':¬ ((((w2|||w3)&&&hiM:Nat):Int))=0:=by omega
       refine ⟨r.drop 8,by rw [List.length_cons];omega,by rw [s2,s1], ?_⟩
       simp only [aad,c0,g0,c1,f1,c2,a2,f2,c3,b2,f3,d2,f4,decide_true,decide_false,cond_true,cond_false,Option.bind_some,anP _ a1,z1,Int.natCast_zero,ahp _ _ b1 d1,anP _ l1,z2']
     ·have c3:¬ (16:Int)<((r.drop 8).length:Int):=by omega
      refine ⟨r.drop 8,by rw [List.length_cons,List.length_drop];omega,by rw [s2,s1], ?_⟩
      simp only [aad,c0,g0,c1,f1,c2,a2,f2,c3,decide_true,decide_false,cond_true,cond_false,Option.bind_some,anP _ a1,z1,Int.natCast_zero]
    ·have z1':¬ (((w1&&&hiM:Nat):Int))=0:=by omega
     refine ⟨r,by rw [List.length_cons];omega,s1, ?_⟩
     simp only [aad,c0,g0,c1,f1,c2,a2,decide_true,decide_false,cond_true,cond_false,Option.bind_some,anP _ a1,z1']
   ·have c2:¬ (8:Int)<(r.length:Int):=by omega
    refine ⟨r,by rw [List.length_cons];omega,s1, ?_⟩
    simp only [aad,c0,g0,c1,f1,c2,decide_true,decide_false,cond_true,cond_false,Option.bind_some]
  ·have c1:¬ (b0.toNat:Int)<128:=by omega
   obtain ⟨x,lo,hi,t1,t2,t3,t4⟩:=aI2 b0 (by omega)
   unfold azY at t1
   unfold accT at t2
   have bad:(sg (b0::r)).2=0→(sgs (b0::r)).isSome=false:=fun h=>by rw [amE (by simp) h];rfl
   obtain ⟨y,hy⟩:∃ y,y=aad N X (b0::r):=⟨_,rfl⟩
   rw [←hy]
   simp only [aad,c0,g0,c1,decide_true,decide_false,cond_true,cond_false,Option.bind_some] at hy
   rw [t1,Option.bind_some,t2,Option.bind_some,t3] at hy
   subst hy
   clear t1 t2
   by_cases k2:194≤b0.toNat∧b0.toNat<224
   ·have tw:tabW b0.toNat=(2,128,191):=by simp [tabW,k2]
    have hs:=sgv2 b0 r k2
    rw [tw] at t4
    obtain ⟨rfl,rfl⟩:lo=128∧hi=191:=t4.resolve_left (by decide)
    simp only [tw,decide_true,cond_true]
    match r,hs,bad with
    | [],hs,bad=>left;exact ⟨_,rfl,by rw [bad hs];rfl⟩
    | b1::r,hs,bad=>
     have e1:¬ (((b0::b1::r).length:Nat):Int)<2:=by simp only [List.length_cons];omega
     have g1:getI (b0::b1::r) (1:Int)=some b1:=rfl
     simp only [e1,decide_false,cond_false,g1,Option.bind_some]
     by_cases q:128≤b1.toNat∧b1.toNat≤191
     ·right
      have q1:¬ (b1.toNat:Int)<128:=by omega
      have q2:¬ (191:Int)<(b1.toNat:Int):=by omega
      simp only [q,and_self,if_true] at hs
      have fd:abe (b0::b1::r) (2:Int)=some r:=ai7 (b0::b1::r) 2 (by simp)
      refine ⟨r,by simp only [List.length_cons];omega,ami (l:=b0::b1::r) (k:=2) (by simp) hs (by omega), ?_⟩
      simp only [q1,q2,decide_false,cond_false,fd,Option.bind_some]
     ·left
      simp only [q,if_false] at hs
      by_cases q1:(b1.toNat:Int)<128
      ·exact ⟨.inl ((false,()),()),by simp only [q1,decide_true,cond_true],by rw [bad hs];rfl⟩
      ·have q2:(191:Int)<(b1.toNat:Int):=by omega
       exact ⟨.inl ((false,()),()),by simp only [q1,q2,decide_true,decide_false,cond_true,cond_false],by rw [bad hs];rfl⟩
   by_cases k3:224≤b0.toNat∧b0.toNat<240
   ·obtain ⟨hs,tw⟩:=sgv3 b0 r k3
    obtain ⟨rfl,rfl⟩:lo=(tabW b0.toNat).2.1∧hi=(tabW b0.toNat).2.2:=t4.resolve_left (by rw [tw];decide)
    clear t4
    generalize (tabW b0.toNat).2.1=lo at hs ⊢
    generalize (tabW b0.toNat).2.2=hi at hs ⊢
    have n23:¬ (3:Int)=2:=by decide
    simp only [tw,n23,decide_true,decide_false,cond_true,cond_false]
    match r,hs,bad with
    | [],hs,bad=>left;exact ⟨_,rfl,by rw [bad hs];rfl⟩
    | [b1],hs,bad=>left;exact ⟨_,rfl,by rw [bad hs];rfl⟩
    | b1::b2::r,hs,bad=>
     have e1:¬ (((b0::b1::b2::r).length:Nat):Int)<3:=by simp only [List.length_cons];omega
     have g1:getI (b0::b1::b2::r) (1:Int)=some b1:=rfl
     have g2:getI (b0::b1::b2::r) (2:Int)=some b2:=rfl
     simp only [e1,decide_false,cond_false,g1,g2,Option.bind_some]
     by_cases q:(lo≤(b1.toNat:Int)∧(b1.toNat:Int)≤hi)∧128≤b2.toNat∧b2.toNat≤191
     ·right
      have q1:¬ (b1.toNat:Int)<lo:=by omega
      have q2:¬ hi<(b1.toNat:Int):=by omega
      have q3:¬ (b2.toNat:Int)<128:=by omega
      have q4:¬ (191:Int)<(b2.toNat:Int):=by omega
      simp only [q,and_self,if_true] at hs
      have fd:abe (b0::b1::b2::r) (3:Int)=some r:=ai7 (b0::b1::b2::r) 3 (by simp)
      refine ⟨r,by simp only [List.length_cons];omega,ami (l:=b0::b1::b2::r) (k:=3) (by simp) hs (by omega), ?_⟩
      simp only [q1,q2,q3,q4,decide_false,cond_false,fd,Option.bind_some]
     ·left
      simp only [q,if_false] at hs
      refine ⟨.inl ((false,()),()), ?_,by rw [bad hs];rfl⟩
      by_cases q1:(b1.toNat:Int)<lo
      ·simp only [q1,decide_true,cond_true]
      by_cases q2:hi<(b1.toNat:Int)
      ·simp only [q1,q2,decide_true,decide_false,cond_true,cond_false]
      by_cases q3:(b2.toNat:Int)<128
      ·simp only [q1,q2,q3,decide_true,decide_false,cond_true,cond_false]
      have q4:(191:Int)<(b2.toNat:Int):=by omega
      simp only [q1,q2,q3,q4,decide_true,decide_false,cond_true,cond_false]
   by_cases k4:240≤b0.toNat∧b0.toNat<245
   ·obtain ⟨hs,tw⟩:=sgv4 b0 r k4
    obtain ⟨rfl,rfl⟩:lo=(tabW b0.toNat).2.1∧hi=(tabW b0.toNat).2.2:=t4.resolve_left (by rw [tw];decide)
    clear t4
    generalize (tabW b0.toNat).2.1=lo at hs ⊢
    generalize (tabW b0.toNat).2.2=hi at hs ⊢
    have n24:¬ (4:Int)=2:=by decide
    have n34:¬ (4:Int)=3:=by decide
    simp only [tw,n24,n34,decide_true,decide_false,cond_true,cond_false]
    match r,hs,bad with
    | [],hs,bad=>left;exact ⟨_,rfl,by rw [bad hs];rfl⟩
    | [b1],hs,bad=>left;exact ⟨_,rfl,by rw [bad hs];rfl⟩
    | [b1,b2],hs,bad=>left;exact ⟨_,rfl,by rw [bad hs];rfl⟩
    | b1::b2::b3::r,hs,bad=>
     have e1:¬ (((b0::b1::b2::b3::r).length:Nat):Int)<4:=by simp only [List.length_cons];omega
     have g1:getI (b0::b1::b2::b3::r) (1:Int)=some b1:=rfl
     have g2:getI (b0::b1::b2::b3::r) (2:Int)=some b2:=rfl
     have g3:getI (b0::b1::b2::b3::r) (3:Int)=some b3:=rfl
     simp only [e1,decide_false,cond_false,g1,g2,g3,Option.bind_some]
     by_cases q:(lo≤(b1.toNat:Int)∧(b1.toNat:Int)≤hi)∧(128≤b2.toNat∧b2.toNat≤191)∧128≤b3.toNat∧b3.toNat≤191
     ·right
      have q1:¬ (b1.toNat:Int)<lo:=by omega
      have q2:¬ hi<(b1.toNat:Int):=by omega
      have q3:¬ (b2.toNat:Int)<128:=by omega
      have q4:¬ (191:Int)<(b2.toNat:Int):=by omega
      have q5:¬ (b3.toNat:Int)<128:=by omega
      have q6:¬ (191:Int)<(b3.toNat:Int):=by omega
      simp only [q,and_self,if_true] at hs
      have fd:abe (b0::b1::b2::b3::r) (4:Int)=some r:=ai7 (b0::b1::b2::b3::r) 4 (by simp)
      refine ⟨r,by simp only [List.length_cons];omega,ami (l:=b0::b1::b2::b3::r) (k:=4) (by simp) hs (by omega), ?_⟩
      simp only [q1,q2,q3,q4,q5,q6,decide_false,cond_false,fd,Option.bind_some]
     ·left
      simp only [q,if_false] at hs
      refine ⟨.inl ((false,()),()), ?_,by rw [bad hs];rfl⟩
      by_cases q1:(b1.toNat:Int)<lo
      ·simp only [q1,decide_true,cond_true]
      by_cases q2:hi<(b1.toNat:Int)
      ·simp only [q1,q2,decide_true,decide_false,cond_true,cond_false]
      by_cases q3:(b2.toNat:Int)<128
      ·simp only [q1,q2,q3,decide_true,decide_false,cond_true,cond_false]
      by_cases q4:(191:Int)<(b2.toNat:Int)
      ·simp only [q1,q2,q3,q4,decide_true,decide_false,cond_true,cond_false]
      by_cases q5:(b3.toNat:Int)<128
      ·simp only [q1,q2,q3,q4,q5,decide_true,decide_false,cond_true,cond_false]
      have q6:(191:Int)<(b3.toNat:Int):=by omega
      simp only [q1,q2,q3,q4,q5,q6,decide_true,decide_false,cond_true,cond_false]
   ·left
    obtain ⟨hs,tw⟩:=sgv0 b0 r (by omega) (by omega)
    have n1:¬ (1:Int)=2:=by decide
    have n2:¬ (1:Int)=3:=by decide
    have n3:¬ (1:Int)=4:=by decide
    refine ⟨.inl ((false,()),()), ?_,by rw [bad hs];rfl⟩
    simp only [tw,n1,n2,n3,decide_false,cond_false]
theorem aB6 (s:List UInt8)(hN:s.length<N):aaQ N s=some (sgs s).isSome:=by
 obtain ⟨o,h1,h2⟩:=aEo (G:=fun X c=>aad N X c.1.1) (I:=fun n c=>c.1.1.length≤n∧n<N∧(sgs c.1.1).isSome=(sgs s).isSome) (Q:=VQ (sgs s).isSome) (fun X n c hi=>by
  obtain ⟨i1,i2,i3⟩:=hi
  rcases axf (N:=N) X c.1.1 (by omega) with ⟨o,o1,o2⟩ | ⟨t,t1,t2,t3⟩
  ·exact .inl ⟨o,o1,by rw [←i3];exact o2⟩
  ·exact .inr ⟨t.length,((t,()),()),by omega,⟨Nat.le_refl _,by omega,by rw [t2];exact i3⟩,t3⟩) N s.length ((s,()),()) hN ⟨Nat.le_refl _,hN,rfl⟩
 have h1':acD N ((s,()),())=some o:=h1
 unfold aaQ
 rw [h1',Option.bind_some]
 match o,h2 with
 | .inl q,h2=>simp only [Sum.elim_inl];rw [show q.1.1=_ from h2]
 | .inr q,h2=>simp only [Sum.elim_inr];rw [←show true=_ from h2]
end
end Go.Proofs.YtkcdnjgieabjoaaGreatDoor
