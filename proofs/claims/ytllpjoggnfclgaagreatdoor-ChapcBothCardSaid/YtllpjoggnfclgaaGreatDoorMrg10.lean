/-
  Parts of my own, one behind the other: QCD2, QCD3, QCD4, QCD5, QCD6, QCD7, QCp0, QCa0, QCa1, QCa2, QCa3, QCa4, QCa5, QCs0, QCs1, QCs2, QCs3, QCs4, QCs5, QCM6, QCU0, QCU1, QCU2, QCU3.
-/
import Derived.Test.YtllpjoggnfclgaaGreatDoorMrg9
import Derived.Test.YtllpjoggnfclgaaGreatDoorMrg4
open Go.IntKind renaming wrap→gt, bits→Dr, u64→DM, wrap_u64→DP, wrap_u8→DT, wrap_u32→Eg
open Option renaming bind_some→ne, bind→Dt
open List renaming replicate→Do, length_append→Ds, length_drop→Du, drop_eq_getElem_cons→Dv, length_cons→Dw, length_take→Dx, take_append_getElem→Dz, append_assoc→DE, take_length→DI, take_of_length_le→DK, getElem_mem→DL, length→DN, drop_eq_nil_of_le→DR, append_nil→DS, range→DU, not_mem_nil→DV, mem_cons→DY, length_nil→D3, take_add_one→D6, drop_drop→D7, nil_append→Eb, replicate_zero→Eh, take_set_of_le→Ei, map_append→Em
open Int renaming toNat→Dp, toNat_natCast→Dq, tmod_eq_emod_of_nonneg→Dy, fdiv→DA, tdiv_eq_ediv_of_nonneg→DF, fdiv_eq_ediv_of_nonneg→DJ, tmod→DQ, natCast_zero→D8, tdiv→Ej, natCast_add→Ek, natCast_nonneg→En
open Go.Proofs.YtllpjoggnfclgaaGreatDoor.Arr renaming cons→DB
open Go.Utf8 renaming runeError→DC
open Nat renaming pow_le_pow_right→DD, zero_le→DH, le_refl→DW, div_div_eq_div_mul→DX, lt_of_le_of_lt→D2, testBit_and→D4, testBit_eq_decide_div_mod_eq→D5, div_le_self→Ea, reduceAdd→Ef
open Bool renaming and_eq_true→DO, eq_iff_iff→Ec, not_true→Ed, true_and→Ee
open Go.Proofs.YtllpjoggnfclgaaGreatDoor.AllB renaming append→DZ
open BitVec renaming ofInt→D9
namespace Go.Proofs.YtllpjoggnfclgaaGreatDoor.De
set_option maxRecDepth 100000
open Go.RowKit
set_option linter.unusedVariables false
set_option linter.unusedSimpArgs false
set_option maxRecDepth 100000
variable {N:Nat}
theorem mQ:∀ (w x:Nat),aI (w+1) x=decide (x / 2 ^ w % 2=1)::aI w x
 | 0,x=>by simp [aI]
 | w+1,x=>by
  rw [aI,mQ w (x / 2),aI,DX,←Nat.pow_succ']
  rfl
theorem aeM (k:Nat)(L:List Int)(v:Int):(Do (k+1) (0:Int)++L).set k v=Do k 0++v::L:=by
 rw [List.replicate_succ',DE,List.set_append_right _ _ (by simp)]
 simp
theorem alf (A:List Int)(k:Nat)(v:Int):(A++Do (k+1) (0:Int)).set A.length v=A++v::Do k 0:=by
 rw [List.replicate_succ,List.set_append_right _ _ (DW _)]
 simp
theorem bitI (a:Nat):((a % 2:Nat):Int)=(((decide (a % 2=1)).toNat:Nat):Int):=by
 rcases Nat.mod_two_eq_zero_or_one a with h | h <;> simp [h]
theorem aqv (y:Nat)(hy:y<18446744073709551616):gt .u64 (Ej (y:Int) 2)=((y / 2:Nat):Int):=by
 rw [DF (En _),aK (by omega) (by omega)];omega
theorem mod8 (y:Nat):gt .u8 (DQ (y:Int) 2)=((y % 2:Nat):Int):=by
 rw [Dy (En _),CA (by omega) (by omega)];omega
theorem CK (x w:Nat)(hx:x<18446744073709551616)(hw:w≤64)(hN:100≤N):dl N (x:Int) (w:Int)=some (rI (aI w x)):=by
 have c1:decide ((0:Int)≤(w:Int)∧(w:Int)≤(w:Int))=true:=decide_eq_true (by omega)
 have c2:ae w 1=true:=aC (by have:=aJ;omega) (by omega)
 have e1:kr N (((x:Int),((gt .i64 ((w:Int)-1)),())),(Do w (0:Int),()))=some ((),(rI (aI w x),())):=by
  unfold kr
  have:=cz (G:=fun X c=>ft N X c.1.1 c.1.2.1 c.2.1) (fun i=>((((x / 2 ^ i:Nat):Int),((w:Int)-1-(i:Int),())),(Do (w-i) (0:Int)++rI (aI i x),()))) w ((),(rI (aI w x),())) (fun X i hi=> ?_) (fun X=> ?_) N 0 (DH _) (by omega)
  ·rw [ac (by omega) (by omega)]
   simpa [aI,rI] using this
  ·have d1:decide ((0:Int)≤(w:Int)-1-(i:Int))=true:=decide_eq_true (by omega)
   have hlen:(Do (w-i) (0:Int)++rI (aI i x)).length=w:=by simp [bE,cK];omega
   have d2:decide ((0:Int)≤(w:Int)-1-(i:Int)∧(w:Int)-1-(i:Int)<((Do (w-i) (0:Int)++rI (aI i x)).length:Int))=true:=decide_eq_true (by rw [hlen];omega)
   have ht:((w:Int)-1-(i:Int)).toNat=w-i-1:=by omega
   have hg:(Do (w-i) (0:Int)++rI (aI i x))[w-i-1]? =some (Do (w-i) (0:Int)++rI (aI i x))[w-i-1]:=List.getElem?_eq_getElem (by rw [hlen];omega)
   have h1:gt .u64 (Ej ((x / 2 ^ i:Nat):Int) 2)=((x / 2 ^ (i+1):Nat):Int):=by
    rw [aqv _ (D2 (Ea _ _) hx),Nat.pow_succ,←DX]
   have h2:gt .u8 (DQ ((x / 2 ^ i:Nat):Int) 2)=(((decide (x / 2 ^ i % 2=1)).toNat:Nat):Int):=by
    rw [mod8,←bitI]
   have h3:(Do (w-i) (0:Int)++rI (aI i x)).set (w-i-1) ((((decide (x / 2 ^ i % 2=1)).toNat:Nat):Int))=Do (w-(i+1)) (0:Int)++rI (aI (i+1) x):=by
    obtain ⟨k,hk⟩:∃ k,w-i=k+1:=⟨w-i-1,by omega⟩
    rw [hk,show k+1-1=k by omega,aeM,show w-(i+1)=k by omega,mQ]
    rfl
   simp only [ft,d1,d2,cond_true,ht,hg,ne,h1,h2,h3,ac (show -9223372036854775808≤(w:Int)-1-(i:Int)-1 by omega) (show (w:Int)-1-(i:Int)-1<9223372036854775808 by omega)]
   rw [show (w:Int)-1-(i:Int)-1=(w:Int)-1-((i+1:Nat):Int) by omega]
  ·have d1:decide ((0:Int)≤(w:Int)-1-(w:Int))=false:=decide_eq_false (by omega)
   simp only [ft,d1,cond_false,Nat.sub_self,Eh,Eb]
 simp only [dl,c1,Dq,c2,Bool.and_true,cond_true,e1,ne]
theorem ye (l:List Bool)(i:Nat)(h:i<l.length):getI (rI l) (i:Int)=some (((l[i]).toNat:Nat):Int):=by
 rw [a7 _ i (by rw [bE];exact h)];simp [rI]
theorem word_ok (l:List Bool)(hl:l.length≤64)(hN:100≤N):fq N (rI l)=some ((toW l:Nat):Int):=by
 have e1:jt N ((rI l,((0:Int),((0:Int),()))),())=some (((toW l:Int),()),()):=by
  unfold jt
  have:=cz (G:=fun X c=>ew N X c.1.1 c.1.2.1 c.1.2.2.1) (fun i=>((rI l,(((toW (l.take i):Nat):Int),((i:Int),()))),())) l.length (((toW l:Int),()),()) (fun X i hi=> ?_) (fun X=> ?_) N 0 (DH _) (by omega)
  ·exact this
  ·have d1:decide ((i:Int)<((rI l).length:Int))=true:=decide_eq_true (by rw [bE];omega)
   have hb:=dx (l.take i)
   rw [Dx,Nat.min_eq_left (by omega)] at hb
   have hp:2 ^ i≤2 ^ 63:=DD (by decide) (by omega)
   have hbt:l[i].toNat≤1:=by cases l[i] <;> simp
   have h1:gt .u64 ((2:Int)*((toW (l.take i):Nat):Int))=(2:Int)*((toW (l.take i):Nat):Int):=aK (by omega) (by omega)
   have h2:gt .u64 (((l[i]).toNat:Nat):Int)=(((l[i]).toNat:Nat):Int):=aK (by omega) (by omega)
   have h3:gt .u64 ((2:Int)*((toW (l.take i):Nat):Int)+(((l[i]).toNat:Nat):Int))=((toW (l.take (i+1)):Nat):Int):=by
    rw [aK (by omega) (by omega),←Dz hi,fG];omega
   simp only [ew,d1,cond_true,ye l i hi,ne,h1,h2,h3,ac (show -9223372036854775808≤(i:Int)+1 by omega) (show (i:Int)+1<9223372036854775808 by omega),Ek,Int.natCast_one]
  ·have d1:decide ((l.length:Int)<((rI l).length:Int))=false:=decide_eq_false (by rw [bE];omega)
   simp only [ew,d1,cond_false,DI]
 simp only [fq,e1,ne]
theorem adW (l:List Bool)(t:List Int)(ht:xc l.length t)(hl:l.length≤90)(hn:t.length≤90)(hN:100≤N):cD N (rI l) t=some (rI (byM t l)):=by
 have e1:ma N ((rI l,(t,((0:Int),()))),([],()))=some ((),(rI (byM t l),())):=by
  unfold ma
  have:=cz (G:=fun X c=>gw N X c.1.1 c.1.2.1 c.1.2.2.1 c.2.1) (fun i=>((rI l,(t,((i:Int),()))),(rI (byM (t.take i) l),()))) t.length ((),(rI (byM t l),())) (fun X i hi=> ?_) (fun X=> ?_) N 0 (DH _) (by omega)
  ·exact this
  ·have d1:decide ((i:Int)<(t.length:Int))=true:=decide_eq_true (by omega)
   have hi2:=ht t[i] (DL hi)
   obtain ⟨k,hk⟩:∃ k:Nat,t[i]=(k:Int)+1:=⟨t[i].toNat-1,by omega⟩
   have hkl:k<l.length:=by omega
   have hw:gt .i64 (t[i]-1)=(k:Int):=by rw [ac (by omega) (by omega)];omega
   have hr:ae ((rI (byM (t.take i) l)).length+[(((l[k]).toNat:Nat):Int)].length) 1=true:=by
    have hl2:(rI (byM (t.take i) l)).length≤90:=by rw [bE,gO,Dx];omega
    simp only [Dw,D3]
    exact aC (by have:=aJ;omega) (by omega)
   have hs:rI (byM (t.take i) l)++[(((l[k]).toNat:Nat):Int)]=rI (byM (t.take (i+1)) l):=by
    rw [aad t l i hi,gY]
    have:t[i].toNat-1=k:=by omega
    rw [this,List.getD_eq_getElem?_getD,List.getElem?_eq_getElem hkl]
    rfl
   simp only [gw,d1,cond_true,a7 t i hi,ne,hw,ye l k hkl,hr,hs,ac (show -9223372036854775808≤(i:Int)+1 by omega) (show (i:Int)+1<9223372036854775808 by omega),Ek,Int.natCast_one]
  ·have d1:decide ((t.length:Int)<(t.length:Int))=false:=decide_eq_false (by omega)
   simp only [gw,d1,cond_false,DI]
 simp only [cD,e1,ne]
theorem aed (a b:List Bool)(i:Nat)(ha:i<a.length)(hb:i<b.length):xorL (a.take (i+1)) (b.take (i+1))=xorL (a.take i) (b.take i)++[xor a[i] b[i]]:=by
 unfold xorL
 rw [←Dz ha,←Dz hb,List.zipWith_append (by simp;omega)]
 rfl
theorem ass (x y:Bool):bits .xor .u8 ((x.toNat:Nat):Int) ((y.toNat:Nat):Int)=(((xor x y).toNat:Nat):Int):=by
 cases x <;> cases y <;> decide +kernel
theorem CJ (a b:List Bool)(hab:a.length=b.length)(ha:a.length≤90)(hN:100≤N):fm N (rI a) (rI b)=some (rI (xorL a b)):=by
 have e1:gq N ((rI a,(rI b,((0:Int),()))),(Do a.length (0:Int),()))=some ((),(rI (xorL a b),())):=by
  unfold gq
  have:=cz (G:=fun X c=>de N X c.1.1 c.1.2.1 c.1.2.2.1 c.2.1) (fun i=>((rI a,(rI b,((i:Int),()))),(rI (xorL (a.take i) (b.take i))++Do (a.length-i) (0:Int),()))) a.length ((),(rI (xorL a b),())) (fun X i hi=> ?_) (fun X=> ?_) N 0 (DH _) (by omega)
  ·simpa [xorL,rI] using this
  ·have d1:decide ((i:Int)<((rI a).length:Int))=true:=decide_eq_true (by rw [bE];omega)
   have hx:(rI (xorL (a.take i) (b.take i))).length=i:=by rw [bE,sE _ _ (by simp;omega)];simp;omega
   have hlen:(rI (xorL (a.take i) (b.take i))++Do (a.length-i) (0:Int)).length=a.length:=by rw [Ds,hx];simp;omega
   have d2:decide ((0:Int)≤(i:Int)∧(i:Int)<((rI (xorL (a.take i) (b.take i))++Do (a.length-i) (0:Int)).length:Int))=true:=decide_eq_true (by rw [hlen];omega)
   have hg:(rI (xorL (a.take i) (b.take i))++Do (a.length-i) (0:Int))[i]? =some (rI (xorL (a.take i) (b.take i))++Do (a.length-i) (0:Int))[i]:=List.getElem?_eq_getElem (by rw [hlen];omega)
   have hib:i<b.length:=by omega
   have h3:(rI (xorL (a.take i) (b.take i))++Do (a.length-i) (0:Int)).set i (((xor a[i] b[i]).toNat:Nat):Int)=rI (xorL (a.take (i+1)) (b.take (i+1)))++Do (a.length-(i+1)) (0:Int):=by
    obtain ⟨k,hk⟩:∃ k,a.length-i=k+1:=⟨a.length-i-1,by omega⟩
    have:=alf (rI (xorL (a.take i) (b.take i))) k (((xor a[i] b[i]).toNat:Nat):Int)
    rw [hx] at this
    rw [hk,this,show a.length-(i+1)=k by omega,aed a b i hi hib,gY,DE]
    rfl
   simp only [de,d1,d2,cond_true,ye a i hi,ye b i hib,Dq,hg,ne,ass,h3,ac (show -9223372036854775808≤(i:Int)+1 by omega) (show (i:Int)+1<9223372036854775808 by omega),Ek,Int.natCast_one]
  ·have d1:decide ((a.length:Int)<((rI a).length:Int))=false:=decide_eq_false (by rw [bE];omega)
   have hb':b.take a.length=b:=by rw [hab];exact DI
   simp only [de,d1,cond_false,DI,hb',Nat.sub_self,Eh,DS]
 have c1:decide ((0:Int)≤((rI a).length:Int)∧((rI a).length:Int)≤((rI a).length:Int))=true:=decide_eq_true (by omega)
 have c2:ae ((rI a).length:Int).toNat 1=true:=by rw [Dq,bE];exact aC (by have:=aJ;omega) (by omega)
 simp only [fm,c1,c2,Bool.and_true,cond_true]
 rw [Dq,bE,e1]
 rfl
end Go.Proofs.YtllpjoggnfclgaaGreatDoor.De
namespace Go.Proofs.YtllpjoggnfclgaaGreatDoor.De
set_option maxRecDepth 100000
open Go.RowKit
set_option linter.unusedVariables false
set_option linter.unusedSimpArgs false
set_option maxRecDepth 100000
variable {N:Nat}
def bQ:List Int:=[58,50,42,34,26,18,10,2,60,52,44,36,28,20,12,4,62,54,46,38,30,22,14,6,64,56,48,40,32,24,16,8,57,49,41,33,25,17,9,1,59,51,43,35,27,19,11,3,61,53,45,37,29,21,13,5,63,55,47,39,31,23,15,7]
def yY:List Int:=[40,8,48,16,56,24,64,32,39,7,47,15,55,23,63,31,38,6,46,14,54,22,62,30,37,5,45,13,53,21,61,29,36,4,44,12,52,20,60,28,35,3,43,11,51,19,59,27,34,2,42,10,50,18,58,26,33,1,41,9,49,17,57,25]
def gm:List Int:=[32,1,2,3,4,5,4,5,6,7,8,9,8,9,10,11,12,13,12,13,14,15,16,17,16,17,18,19,20,21,20,21,22,23,24,25,24,25,26,27,28,29,28,29,30,31,32,1]
def ig:List Int:=[16,7,20,21,29,12,28,17,1,15,23,26,5,18,31,10,2,8,24,14,32,27,3,9,19,13,30,6,22,11,4,25]
def ic:List Int:=[57,49,41,33,25,17,9,1,58,50,42,34,26,18,10,2,59,51,43,35,27,19,11,3,60,52,44,36,63,55,47,39,31,23,15,7,62,54,46,38,30,22,14,6,61,53,45,37,29,21,13,5,28,20,12,4]
def eH:List Int:=[14,17,11,24,1,5,3,28,15,6,21,10,23,19,12,4,26,8,16,7,27,20,13,2,41,52,31,37,47,55,30,40,51,45,33,48,44,49,39,56,34,53,46,42,50,36,29,32]
theorem aiz:lL 200000=some ic:=by kernel_rfl
theorem apA:qy 200000=some gm:=by kernel_rfl
theorem al8:lM 200000=some bQ:=by kernel_rfl
theorem aqm:qz 200000=some yY:=by kernel_rfl
theorem zS:xc 64 ic:=by decide +kernel
theorem tY:xc 56 eH:=by decide +kernel
theorem afe:xc 32 gm:=by decide +kernel
theorem zT:xc 32 ig:=by decide +kernel
theorem CX:xc 64 bQ:=by decide +kernel
theorem aff:xc 64 yY:=by decide +kernel
noncomputable def dig (n x:Nat):Nat:=((gv 200000 (n:Int) (rI (aI 6 x))).getD 0).toNat
theorem ago:∀ n:Nat,n<8→∀ x:Nat,x<64→nZ 200000 ((n+1:Nat):Int) (x:Int)=some ((dig (n+1) x:Nat):Int)∧gv 200000 ((n+1:Nat):Int) (rI (aI 6 x))=some ((dig (n+1) x:Nat):Int)∧dig (n+1) x<16:=by decide +kernel
theorem amC (a m k:Nat)(hm:m<2 ^ k):a&&&m=(a % 2 ^ k)&&&m:=by
 apply Nat.eq_of_testBit_eq
 intro i
 rw [D4,D4,Nat.testBit_mod_two_pow]
 rcases Nat.lt_or_ge i k with h | h
 ·simp [h]
 ·have:m.testBit i=false:=Nat.testBit_lt_two_pow (Nat.lt_of_lt_of_le hm (DD (by decide) h))
  simp [this]
theorem ad9 (a m k:Nat)(ha:a<18446744073709551616)(hm:m<2 ^ k)(hk:k≤6):bits .and .u64 (a:Int) (m:Int)=bits .and .u64 ((a % 2 ^ k:Nat):Int) (m:Int):=by
 have hp:2 ^ k≤2 ^ 6:=DD (by decide) hk
 rw [q64_and _ _ ha (by omega),q64_and _ _ (by have:=Nat.mod_lt a (Nat.two_pow_pos k);omega) (by omega),←amC a m k hm]
theorem amu (n:Int)(z:Nat)(hz:z<18446744073709551616):nZ N n (z:Int)=nZ N n ((z % 64:Nat):Int):=by
 have f:∀ (a k:Nat),DA (a:Int) ((2:Int) ^ (min (Dp (k:Int)) (Dr .u64)))=((a / 2 ^ (min k 64):Nat):Int):=fun a k=>by
  rw [Dq];exact yl a _
 have f4:=f z 4
 have f4':=f (z % 64) 4
 have f1:=f z 1
 have f1':=f (z % 64) 1
 have h2:=ad9 (z / 2 ^ 4) 2 2 (D2 (Ea _ _) hz) (by decide) (by decide)
 have h2':=ad9 (z % 64 / 2 ^ 4) 2 2 (by omega) (by decide) (by decide)
 have h15:=ad9 (z / 2 ^ 1) 15 4 (D2 (Ea _ _) hz) (by decide) (by decide)
 have h15':=ad9 (z % 64 / 2 ^ 1) 15 4 (by omega) (by decide) (by decide)
 have h1:=ad9 z 1 1 hz (by decide) (by decide)
 have h1':=ad9 (z % 64) 1 1 (by omega) (by decide) (by decide)
 rw [show z % 64 / 2 ^ 4 % 2 ^ 2=z / 2 ^ 4 % 2 ^ 2 by omega,←h2] at h2'
 rw [show z % 64 / 2 ^ 1 % 2 ^ 4=z / 2 ^ 1 % 2 ^ 4 by omega,←h15] at h15'
 rw [show z % 64 % 2 ^ 1=z % 2 ^ 1 by omega,←h1] at h1'
 unfold nZ
 have e4:DA (z:Int) ((2:Int) ^ (min (Dp (4:Int)) (Dr .u64)))=((z / 2 ^ 4:Nat):Int):=f4
 have e4':DA ((z % 64:Nat):Int) ((2:Int) ^ (min (Dp (4:Int)) (Dr .u64)))=((z % 64 / 2 ^ 4:Nat):Int):=f4'
 have e1:DA (z:Int) ((2:Int) ^ (min (Dp (1:Int)) (Dr .u64)))=((z / 2 ^ 1:Nat):Int):=f1
 have e1':DA ((z % 64:Nat):Int) ((2:Int) ^ (min (Dp (1:Int)) (Dr .u64)))=((z % 64 / 2 ^ 1:Nat):Int):=f1'
 have g2:bits .and .u64 ((z % 64 / 2 ^ 4:Nat):Int) (2:Int)=bits .and .u64 ((z / 2 ^ 4:Nat):Int) (2:Int):=h2'
 have g15:bits .and .u64 ((z % 64 / 2 ^ 1:Nat):Int) (15:Int)=bits .and .u64 ((z / 2 ^ 1:Nat):Int) (15:Int):=h15'
 have g1:bits .and .u64 ((z % 64:Nat):Int) (1:Int)=bits .and .u64 (z:Int) (1:Int):=h1'
 rw [e4,e4',e1,e1',g2,g15,g1]
theorem Dj (n:Nat)(hn:n<8)(s:List Bool)(hs:s.length=6):gv 200000 ((n+1:Nat):Int) (rI s)=some ((dig (n+1) (toW s):Nat):Int)∧dig (n+1) (toW s)<16:=by
 have hx:=dx s
 rw [hs] at hx
 have:=ago n hn (toW s) hx
 rw [←hs,rH] at this
 exact this.2
theorem af9 (n:Nat)(hn:n<8)(s:List Bool)(hs:s.length=6)(z:Nat)(hz:z<18446744073709551616)(h:z % 64=toW s):nZ 200000 ((n+1:Nat):Int) (z:Int)=some ((dig (n+1) (toW s):Nat):Int):=by
 have hx:=dx s
 rw [hs] at hx
 rw [amu _ z hz,h]
 exact (ago n hn (toW s) hx).1
def oT (X:List Bool)(i:Nat):List Bool:=(X.drop (6*i)).take 6
noncomputable def digM (X:List Bool)(i:Nat):List Bool:=(DU i).flatMap fun i=>aI 4 (dig (i+1) (toW (oT X i)))
theorem uy (X:List Bool)(i:Nat):digM X (i+1)=digM X i++aI 4 (dig (i+1) (toW (oT X i))):=by
 unfold digM
 rw [List.range_succ,List.flatMap_append]
 simp
theorem qw (X:List Bool):∀ i,(digM X i).length=4*i
 | 0=>rfl
 | i+1=>by rw [uy,Ds,qw X i,cK];omega
theorem uH (X:List Bool)(i:Nat)(hX:X.length=48)(hi:i<8):(oT X i).length=6:=by simp [oT,hX];omega
noncomputable def rY (r k:List Bool):List Bool:=byM ig (digM (xorL (byM gm r) k) 8)
theorem pR (r k:List Bool):(rY r k).length=32:=by rw [rY,gO];rfl
theorem ajm (X:List Bool)(z i:Nat)(hX:X.length=48)(hz:z % 2 ^ 48=toW X)(hi:i<8):z / 2 ^ (42-6*i) % 64=toW (oT X i):=by
 have e1:z / 2 ^ (42-6*i) % 2 ^ 6=(z % 2 ^ 48) / 2 ^ (42-6*i) % 2 ^ 6:=by
  have h:=Nat.mod_mul_right_div_self z (2 ^ (42-6*i)) (2 ^ (6+6*i))
  rw [←Nat.pow_add,show 42-6*i+(6+6*i)=48 by omega] at h
  rw [h,Nat.mod_mod_of_dvd]
  exact Nat.pow_dvd_pow 2 (by omega)
 have h1:=sY X (6*i+6) (by omega)
 rw [hX,show 48-(6*i+6)=42-6*i by omega] at h1
 have h2:=wY (X.take (6*i+6)) (6*i) (by rw [Dx];omega)
 rw [Dx,hX,Nat.min_eq_left (by omega),show 6*i+6-6*i=6 by omega] at h2
 rw [show (64:Nat)=2 ^ 6 from rfl,e1,hz,h1,h2,oT,List.drop_take,show 6*i+6-6*i=6 by omega]
theorem aef (X:List Bool)(z:Nat)(hX:X.length=48)(hz:z % 2 ^ 48=toW X)(hzl:z<18446744073709551616)(t:List Int):mB 200000 ((t,((z:Int),((0:Int),((1:Int),())))),())=some ((t,((toW (digM X 8):Int),())),()):=by
 unfold mB
 have:=cz (G:=fun X c=>jH 200000 X c.1.1 c.1.2.1 c.1.2.2.1 c.1.2.2.2.1) (fun i=>((t,((z:Int),(((toW (digM X i):Nat):Int),(((i+1:Nat):Int),())))),())) 8 ((t,((toW (digM X 8):Int),())),()) (fun Y i hi=> ?_) (fun Y=> ?_) 200000 0 (DH _) (by decide)
 ·exact this
 ·have d1:decide (((i+1:Nat):Int)≤(8:Int))=true:=decide_eq_true (by omega)
  have hw1:gt .i64 ((6:Int)*((i+1:Nat):Int))=(6:Int)*((i+1:Nat):Int):=ac (by omega) (by omega)
  have hw2:gt .i64 ((48:Int)-(6:Int)*((i+1:Nat):Int))=((42-6*i:Nat):Int):=by rw [ac (by omega) (by omega)];omega
  have d2:decide ((0:Int)≤((42-6*i:Nat):Int))=true:=decide_eq_true (by omega)
  have hm:min (42-6*i) (Dr .u64)=42-6*i:=by show min _ 64=_;omega
  have hb:=af9 i hi (oT X i) (uH X i hX hi) (z / 2 ^ (42-6*i)) (D2 (Ea _ _) hzl) (ajm X z i hX hz hi)
  have hd:=(Dj i hi (oT X i) (uH X i hX hi)).2
  have hor:=oI (digM X i) (aI 4 (dig (i+1) (toW (oT X i)))) (by rw [qw,cK];omega)
  rw [CC hd,←uy,cK] at hor
  have hpw:(2:Int) ^ (min (Dp (4:Int)) (Dr .u64))=((2 ^ 4:Nat):Int):=rfl
  have hw3:gt .i64 (((i+1:Nat):Int)+1)=((i+1+1:Nat):Int):=by rw [ac (by omega) (by omega)];omega
  simp only [jH,d1,cond_true,hw1,hw2,d2,Dq,hm,yl,hb,ne,hpw,hor,hw3]
 ·rfl
theorem apy (r k:List Bool)(kk:Nat)(hr:r.length=32)(hk:k.length=48)(hkk:kk<18446744073709551616)(h:kk % 2 ^ 48=toW k):qx 200000 (toW r:Int) (kk:Int) gm ig=some ((toW (rY r k):Nat):Int):=by
 have hrb:=dx r
 rw [hr] at hrb
 have hw:gt .u64 (toW r:Int)=(toW r:Int):=aK (by omega) (by omega)
 have hp:=gI (N:=200000) r gm (by omega) (by omega) (by rw [hr];exact afe) (by decide) (by decide)
 rw [hr] at hp
 have hbl:(byM gm r).length=48:=by rw [gO];rfl
 have hbb:=dx (byM gm r)
 rw [hbl] at hbb
 have hX:(xorL (byM gm r) k).length=48:=by rw [sE _ _ (by omega),hbl]
 have hx:=alt (toW (byM gm r)) kk (by omega) hkk
 have hz:(toW (byM gm r) ^^^ kk) % 2 ^ 48=toW (xorL (byM gm r) k):=by
  rw [Nat.xor_mod_two_pow,h,Nat.mod_eq_of_lt hbb,aeo _ _ (by omega)]
 have hl:=aef (xorL (byM gm r) k) (toW (byM gm r) ^^^ kk) hX hz (by have:=Nat.xor_lt_two_pow (n:=64) (x:=toW (byM gm r)) (y:=kk) (by omega) (by omega);omega) ig
 have hd:=qw (xorL (byM gm r) k) 8
 have hp2:=gI (N:=200000) (digM (xorL (byM gm r) k) 8) ig (by omega) (by omega) (by rw [hd];exact zT) (by decide) (by decide)
 rw [hd] at hp2
 have hwb:=dx (rY r k)
 rw [pR] at hwb
 unfold qx
 rw [hw]
 rw [show aM 200000 (toW r:Int) (32:Int) gm=_ from hp]
 simp only [ne]
 rw [hx,hl]
 simp only [ne]
 rw [show aM 200000 ((toW (digM (xorL (byM gm r) k) 8):Nat):Int) (32:Int) ig=_ from hp2]
 simp only [ne]
 rw [show byM ig (digM (xorL (byM gm r) k) 8)=rY r k from rfl]
 have:gt .u32 ((toW (rY r k):Nat):Int)=((toW (rY r k):Nat):Int):=by rw [Eg];omega
 rw [this]
theorem apz (r k:List Bool)(hr:r.length=32)(hk:k.length=48):lh 200000 (rI r) (rI k)=some (rI (rY r k)):=by
 have h1:=adW (N:=200000) r gm (by rw [hr];exact afe) (by omega) (by decide) (by decide)
 have hbl:(byM gm r).length=48:=by rw [gO];rfl
 have h2:=CJ (N:=200000) (byM gm r) k (by omega) (by omega) (by decide)
 have hX:(xorL (byM gm r) k).length=48:=by rw [sE _ _ (by omega),hbl]
 generalize hXe:xorL (byM gm r) k=X at *
 have h3:jh 200000 ((rI X,((0:Int),())),([],()))=some ((),(rI (digM X 8),())):=by
  unfold jh
  have:=cz (G:=fun X c=>fJ 200000 X c.1.1 c.1.2.1 c.2.1) (fun i=>((rI X,((i:Int),())),(rI (digM X i),()))) 8 ((),(rI (digM X 8),())) (fun Y i hi=> ?_) (fun Y=>rfl) 200000 0 (DH _) (by decide)
  ·exact this
  ·have d1:decide ((i:Int)<(8:Int))=true:=decide_eq_true (by omega)
   have hw1:gt .i64 ((6:Int)*(i:Int))=((6*i:Nat):Int):=by rw [ac (by omega) (by omega)];omega
   have hw2:gt .i64 (((6*i:Nat):Int)+6)=((6*i+6:Nat):Int):=by rw [ac (by omega) (by omega)];omega
   have hs:subI (rI X) ((6*i:Nat):Int) ((6*i+6:Nat):Int)=some (rI (oT X i)):=by
    rw [gS (rI X) rfl rfl (by omega) (by rw [bE];omega),rg,rf,show 6*i+6-6*i=6 by omega];rfl
   have hw3:gt .i64 ((i:Int)+1)=((i+1:Nat):Int):=by rw [ac (by omega) (by omega)];omega
   obtain ⟨hd,hd16⟩:=Dj i hi (oT X i) (uH X i hX hi)
   have hw4:gt .u64 ((dig (i+1) (toW (oT X i)):Nat):Int)=((dig (i+1) (toW (oT X i)):Nat):Int):=aK (by omega) (by omega)
   have hro:dl 200000 ((dig (i+1) (toW (oT X i)):Nat):Int) (4:Int)=some (rI (aI 4 (dig (i+1) (toW (oT X i))))):=CK _ 4 (by omega) (by decide) (by decide)
   have hrm:ae ((rI (digM X i)).length+(rI (aI 4 (dig (i+1) (toW (oT X i))))).length) 1=true:=by
    rw [bE,bE,qw,cK]
    exact aC (by have:=aJ;omega) (by omega)
   simp only [fJ,d1,cond_true,hw1,hw2,hs,ne,hw3,hd,hw4,hro,hrm]
   rw [←gY,←uy]
 have hd:=qw X 8
 have h4:=adW (N:=200000) (digM X 8) ig (by rw [hd];exact zT) (by omega) (by decide) (by decide)
 unfold lh
 show (cD 200000 (rI r) gm).bind _=_
 rw [h1]
 simp only [ne]
 rw [h2]
 simp only [ne]
 rw [h3]
 simp only [ne]
 show (cD 200000 (rI (digM X 8)) ig).bind _=_
 rw [h4]
 simp only [ne,rY,hXe]
end Go.Proofs.YtllpjoggnfclgaaGreatDoor.De
namespace Go.Proofs.YtllpjoggnfclgaaGreatDoor.De
set_option maxRecDepth 100000
open Go.RowKit
set_option linter.unusedVariables false
set_option linter.unusedSimpArgs false
set_option maxRecDepth 100000
def hv:Nat→List Bool→List Bool
  | 0,c=>c
  | i+1,c=>rot (amt (i+1)) (hv i c)
theorem qn:∀ i c,(hv i c).length=c.length
  | 0,c=>rfl
  | i+1,c=>by rw [hv,alj,qn i c]
def pA (c d:List Bool)(i:Nat):List Bool:=byM eH (hv (i+1) c++hv (i+1) d)
theorem afx (c d:List Bool)(i:Nat):(pA c d i).length=48:=by rw [pA,gO];rfl
def sv (key:List Bool):List (List Bool):=(DU 16).map (pA ((byM ic key).take 28) ((byM ic key).drop 28))
theorem afw (key:List Bool):(sv key).length=16:=by simp [sv]
theorem Aj {key k:List Bool}(h:k∈sv key):k.length=48:=by
  obtain ⟨i,_,rfl⟩:=List.mem_map.1 h
  exact afx _ _ _
def stA (z:Arr Int 16)(f:Nat→Int):Nat→Arr Int 16
  | 0=>z
  | i+1=>(stA z f i).set i (f i)
theorem akx (A B:List Int)(i:Nat)(v:Int)(hA:A.length=i)(hi:i<B.length):(A++B.drop i).set i v=(A++[v])++B.drop (i+1):=by
  subst hA
  rw [List.set_append_right _ _ (DW _),Dv hi,Nat.sub_self,List.set_cons_zero,DE]
  rfl
theorem apR (z:Arr Int 16)(f:Nat→Int):∀ i,i≤16→(stA z f i).l=(DU i).map f++z.l.drop i
  | 0,_=>rfl
  | i+1,h=>by
    show (stA z f i).l.set i (f i)=_
    rw [apR z f i (by omega),akx _ _ i _ (by simp) (by rw [z.h];omega),List.range_succ,Em]
    rfl
theorem alc (z:Arr Int 16)(f:Nat→Int):(stA z f 16).l=(DU 16).map f:=by
  have:=apR z f 16 (DW _)
  rw [this,DR (by rw [z.h];decide),DS]
theorem amz (a:Arr Int 16)(i:Nat)(h:i<16):∃ v,a.l[i]? =some v:=⟨_,List.getElem?_eq_getElem (by rw [a.h];exact h)⟩
def M56:Int:=72057594037927935
def M28:Int:=268435455
theorem aqc:M56=((2 ^ 56-1:Nat):Int):=by decide +kernel
theorem aqd:M28=((2 ^ 28-1:Nat):Int):=by decide +kernel
theorem agK (key:Int):qB 200000 key=Dt (lL 200000) fun v2=>Dt (aM 200000 key 64 v2) fun v3=>Dt (iM 200000 (((DA (bits .and .u64 v3 M56) ((2:Int) ^ 28)),((bits .and .u64 (bits .and .u64 v3 M56) M28),(eH,((0:Int),())))),(dflt (.arr 16 (.int .u64)),(dflt (.arr 16 (.int .u64)),())))) fun v4=>some v4.2.2.1:=by kernel_rfl
theorem aqn (key:List Bool)(hk:key.length=64):∃ a,qB 200000 (toW key:Int)=some a∧a.l=(sv key).map fun k=>((toW k:Nat):Int):=by
  have h1:=gI (N:=200000) key ic (by omega) (by omega) (by rw [hk];exact zS) (by decide) (by decide)
  rw [hk] at h1
  have hpl:(byM ic key).length=56:=by rw [gO];rfl
  generalize hp:byM ic key=p at *
  have h2:=C0 p 56 (by omega) (by omega)
  rw [hpl,show 56-56=0 from rfl,List.drop_zero] at h2
  have h3:=C0 p 28 (by omega) (by omega)
  rw [hpl,show 56-28=28 from rfl] at h3
  have h4:=sY p 28 (by omega)
  rw [hpl,show 56-28=28 from rfl] at h4
  have h5:=yl (toW p) 28
  rw [h4] at h5
  have hc:(p.take 28).length=28:=by simp [hpl]
  have hd:(p.drop 28).length=28:=by simp [hpl]
  generalize hcE:p.take 28=c at *
  generalize hdE:p.drop 28=d at *
  let f:Nat→Int:=fun i=>((toW (pA c d i):Nat):Int)
  have e1:∀ y z:Arr Int 16,iM 200000 (((toW c:Int),((toW d:Int),(eH,((0:Int),())))),(y,(z,())))=some ((),(y,(stA z f 16,()))):=by
    intro y z
    unfold iM
    have:=cz (G:=fun X c=>jN 200000 X c.1.1 c.1.2.1 c.1.2.2.1 c.1.2.2.2.1 c.2.1 c.2.2.1) (fun i=>(((toW (hv i c):Int),((toW (hv i d):Int),(eH,((i:Int),())))),(y,(stA z f i,())))) 16 ((),(y,(stA z f 16,()))) (fun Y i hi=> ?_) (fun Y=>rfl) 200000 0 (DH _) (by decide)
    · exact this
    · have d1:decide ((i:Int)<(16:Int))=true:=decide_eq_true (by omega)
      have hw:gt .i64 ((i:Int)+1)=((i+1:Nat):Int):=by rw [ac (by omega) (by omega)];omega
      have t1:=yV (N:=200000) (hv i c) (i+1) (by omega) (by omega) (by rw [qn,hc]) (by decide)
      have t2:=yV (N:=200000) (hv i d) (i+1) (by omega) (by omega) (by rw [qn,hd]) (by decide)
      have hl1:(hv (i+1) c).length=28:=by rw [qn,hc]
      have hl2:(hv (i+1) d).length=28:=by rw [qn,hd]
      have hor:=oI (hv (i+1) c) (hv (i+1) d) (by omega)
      rw [hl2] at hor
      have hpw:(2:Int) ^ (min (Dp (28:Int)) (Dr .u64))=((2 ^ 28:Nat):Int):=rfl
      have hcl:(hv (i+1) c++hv (i+1) d).length=56:=by rw [Ds,hl1,hl2]
      have h6:=gI (N:=200000) (hv (i+1) c++hv (i+1) d) eH (by omega) (by omega) (by rw [hcl];exact tY) (by decide) (by decide)
      rw [hcl] at h6
      have h6:aM 200000 ((toW (hv (i+1) c++hv (i+1) d):Nat):Int) (56:Int) eH=some ((toW (pA c d i):Nat):Int):=h6
      have d2:decide ((0:Int)≤(i:Int)∧(i:Int)<(((16:Nat):Nat):Int))=true:=decide_eq_true (by omega)
      obtain ⟨v,hv⟩:=amz (stA z f i) i hi
      have t1:fB 200000 ((toW (Go.Proofs.YtllpjoggnfclgaaGreatDoor.De.hv i c):Nat):Int) ((i+1:Nat):Int)=some ((toW (Go.Proofs.YtllpjoggnfclgaaGreatDoor.De.hv (i+1) c):Nat):Int):=t1
      have t2:fB 200000 ((toW (Go.Proofs.YtllpjoggnfclgaaGreatDoor.De.hv i d):Nat):Int) ((i+1:Nat):Int)=some ((toW (Go.Proofs.YtllpjoggnfclgaaGreatDoor.De.hv (i+1) d):Nat):Int):=t2
      simp only [jN,d1,d2,cond_true,hw,t1,t2,ne,hpw,hor,h6,Dq,hv]
      rfl
  refine ⟨stA (dflt (.arr 16 (.int .u64))) f 16, ?_, ?_⟩
  · rw [agK,aiz]
    simp only [ne]
    rw [show aM 200000 (toW key:Int) (64:Int) ic=_ from h1]
    simp only [ne]
    rw [aqc,aqd,h2,h3,h5,e1]
    rfl
  · rw [alc]
    unfold sv
    rw [List.map_map,hp,hcE,hdE]
    rfl
theorem afv (X:(((List (Int))×((List (Int))×((Int)×Unit)))×((List (List (Int)))×Unit))→Option ((Unit×((List (List (Int)))×Unit))))(c d:List Int)(h0:List (List Int))(i:Nat)(hi:i<16):
    er 200000 X c d ((i+1:Nat):Int) h0=Dt (bJ c (amt (i+1):Int)) fun v6=>Dt (cL c (amt (i+1):Int)) fun v7=>
      bif (ae (DN v6) 1) then (bif (ae ((DN v6)+(DN v7)) 1) then (Dt (bJ d (amt (i+1):Int)) fun v8=>Dt (cL d (amt (i+1):Int)) fun v9=>
      (bif (ae (DN v8) 1) then (bif (ae ((DN v8)+(DN v9)) 1) then (bif (ae (DN (v6++v7)) 1) then (bif (ae ((DN (v6++v7))+(DN (v8++v9))) 1) then
       (Dt (cD 200000 ((v6++v7)++(v8++v9)) eH) fun v10=>(bif (ae ((DN h0)+(DN ([v10]:List ((List Int))))) 24) then
          (X (((v6++v7),((v8++v9),((gt .i64 (((i+1:Nat):Int)+(1:Int))),()))),((h0++([v10]:List ((List Int)))),()))) else none)) else none) else none) else none) else none)) else none) else none:=by
  have:i=0∨i=1∨i=2∨i=3∨i=4∨i=5∨i=6∨i=7∨i=8∨i=9∨i=10∨i=11∨i=12∨i=13∨i=14∨i=15:=by omega
  rcases this with rfl | rfl | rfl | rfl | rfl | rfl | rfl | rfl | rfl | rfl | rfl | rfl | rfl | rfl | rfl | rfl <;> rfl
theorem aqo (key:List Bool)(hk:key.length=64):ll 200000 (toW key:Int)=some ((sv key).map rI):=by
  have hkb:=dx key
  rw [hk] at hkb
  have h0:dl 200000 (toW key:Int) (64:Int)=some (rI key):=by
    have:=CK (N:=200000) (toW key) 64 (by omega) (by decide) (by decide)
    rw [←hk,rH,hk] at this
    exact this
  have h1:=adW (N:=200000) key ic (by rw [hk];exact zS) (by omega) (by decide) (by decide)
  have hpl:(byM ic key).length=56:=by rw [gO];rfl
  generalize hp:byM ic key=p at *
  have h2:cL (rI p) (28:Int)=some (rI (p.take 28)):=(ed (a:=(28:Int)) (rI p) (i:=28) rfl (by rw [bE];omega)).trans (by rw [rf])
  have h3:bJ (rI p) (28:Int)=some (rI (p.drop 28)):=(ek (a:=(28:Int)) (rI p) (i:=28) rfl (by rw [bE];omega)).trans (by rw [rg])
  have hc:(p.take 28).length=28:=by simp [hpl]
  have hd:(p.drop 28).length=28:=by simp [hpl]
  generalize hcE:p.take 28=c at *
  generalize hdE:p.drop 28=d at *
  have e1:fL 200000 ((rI c,(rI d,((1:Int),()))),([],()))=some ((),(((DU 16).map (pA c d)).map rI,())):=by
    unfold fL
    have:=cz (G:=fun X c=>er 200000 X c.1.1 c.1.2.1 c.1.2.2.1 c.2.1) (fun i=>((rI (hv i c),(rI (hv i d),(((i+1:Nat):Int),()))),(((DU i).map (pA c d)).map rI,()))) 16 ((),(((DU 16).map (pA c d)).map rI,())) (fun Y i hi=> ?_) (fun Y=>rfl) 200000 0 (DH _) (by decide)
    · exact this
    · have hn:amt (i+1)≤2:=by unfold amt;split <;> simp
      have hlc:(hv i c).length=28:=by rw [qn,hc]
      have hld:(hv i d).length=28:=by rw [qn,hd]
      have a1:bJ (rI (hv i c)) (amt (i+1):Int)=some (rI ((hv i c).drop (amt (i+1)))):=by rw [ek _ rfl (by rw [bE];omega),rg]
      have a2:cL (rI (hv i c)) (amt (i+1):Int)=some (rI ((hv i c).take (amt (i+1)))):=by rw [ed _ rfl (by rw [bE];omega),rf]
      have a3:bJ (rI (hv i d)) (amt (i+1):Int)=some (rI ((hv i d).drop (amt (i+1)))):=by rw [ek _ rfl (by rw [bE];omega),rg]
      have a4:cL (rI (hv i d)) (amt (i+1):Int)=some (rI ((hv i d).take (amt (i+1)))):=by rw [ed _ rfl (by rw [bE];omega),rf]
      have b1:rI ((hv i c).drop (amt (i+1)))++rI ((hv i c).take (amt (i+1)))=rI (hv (i+1) c):=by rw [←gY];rfl
      have b2:rI ((hv i d).drop (amt (i+1)))++rI ((hv i d).take (amt (i+1)))=rI (hv (i+1) d):=by rw [←gY];rfl
      have room:∀ n,n≤100→ae n 1=true:=fun n hn=>aC (by have:=aJ;omega) (by omega)
      have r1:ae (rI ((hv i c).drop (amt (i+1)))).length 1=true:=room _ (by rw [bE,Du];omega)
      have r2:ae ((rI ((hv i c).drop (amt (i+1)))).length+(rI ((hv i c).take (amt (i+1)))).length) 1=true:=room _ (by rw [bE,bE,Du,Dx];omega)
      have r3:ae (rI ((hv i d).drop (amt (i+1)))).length 1=true:=room _ (by rw [bE,Du];omega)
      have r4:ae ((rI ((hv i d).drop (amt (i+1)))).length+(rI ((hv i d).take (amt (i+1)))).length) 1=true:=room _ (by rw [bE,bE,Du,Dx];omega)
      have hl1:(hv (i+1) c).length=28:=by rw [qn,hc]
      have hl2:(hv (i+1) d).length=28:=by rw [qn,hd]
      have r5:ae (rI (hv (i+1) c)).length 1=true:=room _ (by rw [bE];omega)
      have r6:ae ((rI (hv (i+1) c)).length+(rI (hv (i+1) d)).length) 1=true:=room _ (by rw [bE,bE];omega)
      have hcl:(hv (i+1) c++hv (i+1) d).length=56:=by rw [Ds,hl1,hl2]
      have h6:=adW (N:=200000) (hv (i+1) c++hv (i+1) d) eH (by rw [hcl];exact tY) (by omega) (by decide) (by decide)
      rw [gY] at h6
      have r7:ae ((((DU i).map (pA c d)).map rI).length+[rI (pA c d i)].length) 24=true:=by
        simp only [List.length_map,List.length_range,Dw,D3]
        exact aC (by have:=aJ;omega) (by omega)
      have hw:gt .i64 (((i+1:Nat):Int)+1)=((i+1+1:Nat):Int):=by rw [ac (by omega) (by omega)];omega
      have hap:(((DU i).map (pA c d)).map rI)++[rI (pA c d i)]=((DU (i+1)).map (pA c d)).map rI:=by rw [List.range_succ,Em,Em];rfl
      have h6:cD 200000 (rI (hv (i+1) c)++rI (hv (i+1) d)) eH=some (rI (pA c d i)):=h6
      show er 200000 Y (rI (hv i c)) (rI (hv i d)) ((i+1:Nat):Int) (((DU i).map (pA c d)).map rI)=_
      rw [afv Y _ _ _ i hi,a1]
      simp only [ne,a2,a3,a4,r1,r2,r3,r4,cond_true,b1,b2,r5,r6,h6,r7,hw,hap]
  unfold ll
  rw [h0]
  simp only [ne]
  show (cD 200000 (rI key) ic).bind _=_
  rw [h1]
  simp only [ne,h2,h3]
  show (fL 200000 ((rI c,(rI d,((1:Int),()))),([],()))).bind _=_
  rw [e1]
  simp only [ne,sv,hp,hcE,hdE]
noncomputable def eI (s:List Bool×List Bool)(k:List Bool):List Bool×List Bool:=(s.2,xorL s.1 (rY s.2 k))
def Two (s:List Bool×List Bool):Prop:=s.1.length=32∧s.2.length=32
theorem aez {s:List Bool×List Bool}(k:List Bool)(h:Two s):Two (eI s k):=⟨h.2,by rw [eI,sE _ _ (by rw [pR];exact h.1)];exact h.1⟩
theorem qr:∀ (ks:List (List Bool)) {s:List Bool×List Bool},Two s→Two (ks.foldl eI s)
 | [],_,h=>h
 | k::ks,_,h=>qr ks (aez k h)
noncomputable def wX (ks:List (List Bool))(b:List Bool):List Bool:=let s:=ks.foldl eI ((byM bQ b).take 32,(byM bQ b).drop 32);byM yY (s.2++s.1)
theorem ael (ks:List (List Bool))(b:List Bool):(wX ks b).length=64:=by unfold wX;rw [gO];rfl
theorem Ar (b:List Bool):Two ((byM bQ b).take 32,(byM bQ b).drop 32):=by
 have:(byM bQ b).length=64:=by rw [gO];rfl
 constructor <;> simp [this]
theorem w32 {x:Int}(h1:0≤x)(h2:x<4294967296):gt .u32 x=x:=by rw [Eg];omega
theorem yW (a:Arr Int 16)(b:Int):jK 200000 a b=Dt (qy 200000) fun v3=>Dt (lM 200000) fun v4=>Dt (aM 200000 b 64 v4) fun v5=>Dt (eR 200000 ((v3,(ig,((gt .u32 (DA v5 ((2:Int) ^ 32))),((gt .u32 v5),(a,((0:Int),())))))),())) fun v6=>Dt (qz 200000) fun v7=>Dt (aM 200000 (bits .or .u64 (gt .u64 ((gt .u64 v6.1.2.1)*(4294967296:Int))) (gt .u64 v6.1.1)) 64 v7) fun v8=>some v8:=by kernel_rfl
theorem aer (a:Arr Int 16)(ks:List (List Bool))(b:List Bool)(ha:a.l=ks.map fun k=>((toW k:Nat):Int))(hks:∀ k∈ks,k.length=48)(hb:b.length=64):jK 200000 a (toW b:Int)=some ((toW (wX ks b):Nat):Int):=by
 have hl:ks.length=16:=by have:=a.h;rw [ha] at this;simpa using this
 have h1:=gI (N:=200000) b bQ (by omega) (by omega) (by rw [hb];exact CX) (by decide) (by decide)
 rw [hb] at h1
 have hpl:(byM bQ b).length=64:=by rw [gO];rfl
 have hS:=Ar b
 have hpb:=dx (byM bQ b)
 rw [hpl] at hpb
 have h2:=sY (byM bQ b) 32 (by omega)
 rw [hpl,show 64-32=32 from rfl] at h2
 have h3:=wY (byM bQ b) 32 (by omega)
 rw [hpl,show 64-32=32 from rfl] at h3
 have h4:=yl (toW (byM bQ b)) 32
 have hlt:=dx ((byM bQ b).take 32)
 rw [hS.1] at hlt
 have k1:gt .u32 (DA (toW (byM bQ b):Int) ((2:Int) ^ 32))=((toW ((byM bQ b).take 32):Nat):Int):=by rw [h4,h2,w32 (by omega) (by omega)]
 have k2:gt .u32 (toW (byM bQ b):Int)=((toW ((byM bQ b).drop 32):Nat):Int):=by rw [Eg,←h3];omega
 generalize hs:((byM bQ b).take 32,(byM bQ b).drop 32)=s at *
 have hs1:(byM bQ b).take 32=s.1:=by rw [←hs]
 have hs2:(byM bQ b).drop 32=s.2:=by rw [←hs]
 have e1:eR 200000 ((gm,(ig,((toW s.1:Int),((toW s.2:Int),(a,((0:Int),())))))),())=some (((toW (ks.foldl eI s).1:Int),((toW (ks.foldl eI s).2:Int),())),()):=by
  unfold eR
  have:=cz (G:=fun X c=>eN 200000 X c.1.1 c.1.2.1 c.1.2.2.1 c.1.2.2.2.1 c.1.2.2.2.2.1 c.1.2.2.2.2.2.1) (fun i=>((gm,(ig,((toW ((ks.take i).foldl eI s).1:Int),((toW ((ks.take i).foldl eI s).2:Int),(a,((i:Int),())))))),())) 16 (((toW (ks.foldl eI s).1:Int),((toW (ks.foldl eI s).2:Int),())),()) (fun Y i hi=> ?_) (fun Y=> ?_) 200000 0 (DH _) (by decide)
  ·exact this
  ·have d1:decide ((i:Int)<(16:Int))=true:=decide_eq_true (by omega)
   have hil:i<ks.length:=by omega
   have hg:getI a.l (i:Int)=some ((toW ks[i]:Nat):Int):=by rw [ha,a7 _ i (by simpa using hil)];simp
   have hF:=qr (ks.take i) hS
   have hk:=hks ks[i] (DL hil)
   have hkb:=dx ks[i]
   rw [hk] at hkb
   have hw:=apy ((ks.take i).foldl eI s).2 ks[i] (toW ks[i]) hF.2 hk (by omega) (Nat.mod_eq_of_lt hkb)
   have hx:=AU ((ks.take i).foldl eI s).1 (rY ((ks.take i).foldl eI s).2 ks[i]) (by rw [pR];exact hF.1) (by rw [hF.1];decide)
   have hst:(ks.take (i+1)).foldl eI s=eI ((ks.take i).foldl eI s) ks[i]:=by rw [←Dz hil,List.foldl_append];rfl
   have hw2:gt .i64 ((i:Int)+1)=((i+1:Nat):Int):=by rw [ac (by omega) (by omega)];omega
   simp only [eN,d1,cond_true,hg,ne,hw,hx,hw2,hst,eI]
  ·have ht:ks.take 16=ks:=by rw [←hl];exact DI
   simp only [ht]
   rfl
 have hF:=qr ks hS
 generalize hf:ks.foldl eI s=t at *
 have b1:=dx t.1
 have b2:=dx t.2
 rw [hF.1] at b1
 rw [hF.2] at b2
 have hor:=oI t.2 t.1 (by rw [hF.1,hF.2];decide)
 rw [hF.1] at hor
 have hor:bits .or .u64 (gt .u64 (((toW t.2:Nat):Int)*(4294967296:Int))) ((toW t.1:Nat):Int)=((toW (t.2++t.1):Nat):Int):=hor
 have hcl:(t.2++t.1).length=64:=by rw [Ds,hF.1,hF.2]
 have h5:=gI (N:=200000) (t.2++t.1) yY (by omega) (by omega) (by rw [hcl];exact aff) (by decide) (by decide)
 rw [hcl] at h5
 rw [yW,apA,al8,aqm]
 simp only [ne]
 rw [show aM 200000 (toW b:Int) (64:Int) bQ=_ from h1]
 simp only [ne]
 rw [k1,k2,hs1,hs2,e1]
 simp only [ne]
 rw [aK (x:=((toW t.2:Nat):Int)) (by omega) (by omega),aK (x:=((toW t.1:Nat):Int)) (by omega) (by omega),hor]
 rw [show aM 200000 ((toW (t.2++t.1):Nat):Int) (64:Int) yY=_ from h5]
 simp only [ne]
 unfold wX
 rw [hs,hf]
theorem aek (b:Int)(l:List (List Int)):lk 200000 b l=Dt (dl 200000 b 64) fun v3=>Dt (cD 200000 v3 bQ) fun v4=>Dt (cL v4 (32:Int)) fun v5=>Dt (bJ v4 (32:Int)) fun v6=>Dt (fK 200000 ((l,(v5,(v6,((0:Int),())))),())) fun v7=>bif ae (DN v7.1.2.1) 1 then (bif ae ((DN v7.1.2.1)+(DN v7.1.1)) 1 then (Dt (cD 200000 (v7.1.2.1++v7.1.1) yY) fun v8=>Dt (fq 200000 v8) fun v9=>some v9) else none) else none:=by kernel_rfl
theorem apG (ks:List (List Bool))(b:List Bool)(hl:ks.length≤16)(hks:∀ k∈ks,k.length=48)(hb:b.length=64):lk 200000 (toW b:Int) (ks.map rI)=some ((toW (wX ks b):Nat):Int):=by
 have hbb:=dx b
 rw [hb] at hbb
 have h0:dl 200000 (toW b:Int) (64:Int)=some (rI b):=by
  have:=CK (N:=200000) (toW b) 64 (by omega) (by decide) (by decide)
  rw [←hb,rH,hb] at this
  exact this
 have h1:=adW (N:=200000) b bQ (by rw [hb];exact CX) (by omega) (by decide) (by decide)
 have hpl:(byM bQ b).length=64:=by rw [gO];rfl
 have hS:=Ar b
 have h2:cL (rI (byM bQ b)) (32:Int)=some (rI ((byM bQ b).take 32)):=(ed (a:=(32:Int)) (rI (byM bQ b)) (i:=32) rfl (by rw [bE];omega)).trans (by rw [rf])
 have h3:bJ (rI (byM bQ b)) (32:Int)=some (rI ((byM bQ b).drop 32)):=(ek (a:=(32:Int)) (rI (byM bQ b)) (i:=32) rfl (by rw [bE];omega)).trans (by rw [rg])
 generalize hs:((byM bQ b).take 32,(byM bQ b).drop 32)=s at *
 have hs1:(byM bQ b).take 32=s.1:=by rw [←hs]
 have hs2:(byM bQ b).drop 32=s.2:=by rw [←hs]
 have e1:fK 200000 ((ks.map rI,(rI s.1,(rI s.2,((0:Int),())))),())=some ((rI (ks.foldl eI s).1,(rI (ks.foldl eI s).2,())),()):=by
  unfold fK
  have:=cz (G:=fun X c=>ep 200000 X c.1.1 c.1.2.1 c.1.2.2.1 c.1.2.2.2.1) (fun i=>((ks.map rI,(rI ((ks.take i).foldl eI s).1,(rI ((ks.take i).foldl eI s).2,((i:Int),())))),())) ks.length ((rI (ks.foldl eI s).1,(rI (ks.foldl eI s).2,())),()) (fun Y i hi=> ?_) (fun Y=> ?_) 200000 0 (DH _) (by omega)
  ·exact this
  ·have d1:decide ((i:Int)<((ks.map rI).length:Int))=true:=decide_eq_true (by simp;omega)
   have hg:getI (ks.map rI) (i:Int)=some (rI ks[i]):=by rw [a7 _ i (by simpa using hi)];simp
   have hF:=qr (ks.take i) hS
   have hk:=hks ks[i] (DL hi)
   have hw:=apz ((ks.take i).foldl eI s).2 ks[i] hF.2 hk
   have hx:=CJ (N:=200000) ((ks.take i).foldl eI s).1 (rY ((ks.take i).foldl eI s).2 ks[i]) (by rw [pR];exact hF.1) (by rw [hF.1];decide) (by decide)
   have hst:(ks.take (i+1)).foldl eI s=eI ((ks.take i).foldl eI s) ks[i]:=by rw [←Dz hi,List.foldl_append];rfl
   have hw2:gt .i64 ((i:Int)+1)=((i+1:Nat):Int):=by rw [ac (by omega) (by omega)];omega
   simp only [ep,d1,cond_true,hg,ne,hw,hx,hw2,hst,eI]
  ·have d1:decide ((ks.length:Int)<((ks.map rI).length:Int))=false:=decide_eq_false (by simp)
   simp only [ep,d1,cond_false,DI]
 have hF:=qr ks hS
 generalize hf:ks.foldl eI s=t at *
 have hcl:(t.2++t.1).length=64:=by rw [Ds,hF.1,hF.2]
 have h5:=adW (N:=200000) (t.2++t.1) yY (by rw [hcl];exact aff) (by omega) (by decide) (by decide)
 have h6:=word_ok (N:=200000) (byM yY (t.2++t.1)) (by rw [gO];decide) (by decide)
 have r1:ae (rI t.2).length 1=true:=aC (by rw [bE,hF.2];have:=aJ;omega) (by rw [bE,hF.2];decide)
 have r2:ae ((rI t.2).length+(rI t.1).length) 1=true:=aC (by rw [bE,bE,hF.2,hF.1];have:=aJ;omega) (by rw [bE,bE,hF.2,hF.1];decide)
 rw [aek,h0]
 simp only [ne,h1,h2,h3,hs1,hs2,e1,r1,r2,cond_true,←gY,h5,h6]
 unfold wX
 rw [hs,hf]
theorem apF (key b:List Bool)(hk:key.length=64)(hb:b.length=64):qA 200000 (toW key:Int) (toW b:Int)=some ((toW (wX (sv key) b):Nat):Int):=by
 obtain ⟨a,h1,h2⟩:=aqn key hk
 unfold qA
 rw [h1]
 simp only [ne]
 rw [aer a (sv key) b h2 (fun k h=>Aj h) hb]
 rfl
theorem aqP (key b:List Bool)(hk:key.length=64)(hb:b.length=64):lm 200000 (toW key:Int) (toW b:Int)=some ((toW (wX (sv key) b):Nat):Int):=by
 unfold lm
 rw [aqo key hk]
 simp only [ne]
 rw [apG (sv key) b (by rw [afw];decide) (fun k h=>Aj h) hb]
 rfl
def stB (z a:Arr Int 16):Nat→Arr Int 16
 | 0=>z
 | i+1=>(stB z a i).set (15-i) (a.l.getD i 0)
theorem wH:∀ (w x j:Nat),j<w→(aI w x).getD j false=x.testBit (w-1-j)
 | w+1,x,0,_=>by rw [mQ,D5];rfl
 | w+1,x,j+1,h=>by
  rw [mQ]
  have:=wH w x j (by omega)
  rw [show w+1-1-(j+1)=w-1-j by omega,←this]
  rfl
variable {N:Nat}
def bC (l:List Int):List Bool:=l.flatMap fun x=>aI 8 x.toNat
theorem qS (l:List Int)(x:Int):bC (l++[x])=bC l++aI 8 x.toNat:=by simp [bC]
theorem vU (l:List Int)(x:Int):bC (x::l)=aI 8 x.toNat++bC l:=by simp [bC]
theorem fI:∀ l:List Int,(bC l).length=8*l.length
 | []=>rfl
 | x::l=>by rw [vU,Ds,cK,fI l,Dw];omega
theorem aks {x:Int}(h:0≤x∧x<256):((toW (aI 8 x.toNat):Nat):Int)=x:=by rw [CC (by omega)];omega
theorem afj (l:List Int)(hl:l.length≤8)(hB:AllB l)(hN:100≤N):lA N l=some ((toW (bC l):Nat):Int):=by
 have e1:kv N ((l,((0:Int),((0:Int),()))),())=some (((toW (bC l):Int),()),()):=by
  unfold kv
  have:=cz (G:=fun X c=>fu N X c.1.1 c.1.2.1 c.1.2.2.1) (fun i=>((l,(((toW (bC (l.take i)):Nat):Int),((i:Int),()))),())) l.length (((toW (bC l):Int),()),()) (fun X i hi=> ?_) (fun X=> ?_) N 0 (DH _) (by omega)
  ·exact this
  ·have d1:decide ((i:Int)<(l.length:Int))=true:=decide_eq_true (by omega)
   have hb:=hB.get i hi
   have ha:=dx (bC (l.take i))
   rw [fI,Dx,Nat.min_eq_left (by omega)] at ha
   have hp:2 ^ (8*i)≤2 ^ 56:=DD (by decide) (by omega)
   have h1:gt .u64 (((toW (bC (l.take i)):Nat):Int)*256)=((toW (bC (l.take i)):Nat):Int)*256:=aK (by omega) (by omega)
   have h2:gt .u64 l[i]=l[i]:=aK (by omega) (by omega)
   have h3:gt .u64 (((toW (bC (l.take i)):Nat):Int)*256+l[i])=((toW (bC (l.take (i+1))):Nat):Int):=by
    rw [aK (by omega) (by omega),←Dz hi,qS,oy,cK,Ek,aks hb]
    omega
   simp only [fu,d1,cond_true,a7 l i hi,ne,h1,h2,h3,ac (show -9223372036854775808≤(i:Int)+1 by omega) (show (i:Int)+1<9223372036854775808 by omega),Ek,Int.natCast_one]
  ·have d1:decide ((l.length:Int)<(l.length:Int))=false:=decide_eq_false (by omega)
   simp only [fu,d1,cond_false,DI]
 simp only [lA,e1,ne]
theorem afM (l:List Int)(hl:l.length=8)(hB:AllB l)(hN:100≤N):gU N l false=some (((toW (bC l):Nat):Int),0):=by
 have e1:mr N ((l,(false,((0:Int),((8:Int),((0:Int),()))))),())=some (((toW (bC l):Int),()),()):=by
  unfold mr
  have:=cz (G:=fun X c=>jv N X c.1.1 c.1.2.1 c.1.2.2.1 c.1.2.2.2.1 c.1.2.2.2.2.1) (fun i=>((l,(false,(((toW (bC (l.drop (8-i))):Nat):Int),((8:Int),((i:Int),()))))),())) 8 (((toW (bC l):Int),()),()) (fun X i hi=> ?_) (fun X=>rfl) N 0 (DH _) (by omega)
  ·have h0:l.drop (8-0)=[]:=DR (by omega)
   simp only [h0] at this
   exact this
  ·have d1:decide ((i:Int)<(8:Int))=true:=decide_eq_true (by omega)
   have hp:dX N (i:Int) ((l.length:Nat):Int) false=some ((7-i:Nat):Int):=by
    have a1:gt .i64 (((l.length:Nat):Int)-1)=7:=by rw [hl];rfl
    have a2:gt .i64 ((7:Int)-(i:Int))=((7-i:Nat):Int):=by rw [ac (by omega) (by omega)];omega
    simp only [dX,cond_false,a1,a2]
   have hil:7-i<l.length:=by omega
   have hb:=hB.get (7-i) hil
   have hw8:gt .i64 ((8:Int)*(i:Int))=((8*i:Nat):Int):=by rw [ac (by omega) (by omega)];omega
   have d2:decide ((0:Int)≤((8*i:Nat):Int))=true:=decide_eq_true (by omega)
   have hm:min (8*i) (Dr .u64)=8*i:=by show min _ 64=_;omega
   have hwb:gt .u64 l[7-i]=((toW (aI 8 l[7-i].toNat):Nat):Int):=by rw [aks hb];exact aK (by omega) (by omega)
   have hrl:(bC (l.drop (8-i))).length=8*i:=by rw [fI,Du];omega
   have hor:=oI (aI 8 l[7-i].toNat) (bC (l.drop (8-i))) (by rw [cK,hrl];omega)
   have hdr:l.drop (8-(i+1))=l[7-i]::l.drop (8-i):=by
    have:=Dv hil
    rw [show 8-(i+1)=7-i by omega,this,show 7-i+1=8-i by omega]
   rw [hrl,←vU,←hdr,zR] at hor
   have hpw:(2:Int) ^ (8*i)=((2 ^ (8*i):Nat):Int):=by simp
   have hw2:gt .i64 ((i:Int)+1)=((i+1:Nat):Int):=by rw [ac (by omega) (by omega)];omega
   simp only [jv,d1,cond_true,hp,ne,a7 l (7-i) hil,hw8,d2,Dq,hm,hwb,hpw,hor,hw2]
 have c1:decide (((l.length:Nat):Int)<1)=false:=decide_eq_false (by omega)
 have c2:decide ((8:Int)<((l.length:Nat):Int))=false:=decide_eq_false (by omega)
 have hl8:((l.length:Nat):Int)=8:=by omega
 simp only [gU,c1,c2,cond_false]
 rw [hl8,e1]
 rfl
def byB:Nat→Nat→List Int
 | 0,_=>[]
 | w+1,x=>byB w (x / 256)++[((x % 256:Nat):Int)]
theorem yE:∀ w x,(byB w x).length=w
 | 0,_=>rfl
 | w+1,x=>by simp [byB,yE w]
theorem aae:∀ (w x:Nat),byB (w+1) x=((x / 256 ^ w % 256:Nat):Int)::byB w x
 | 0,x=>by simp [byB]
 | w+1,x=>by
  rw [byB,aae w (x / 256),byB,DX,←Nat.pow_succ']
  rfl
theorem aqI:∀ w x,AllB (byB w x)
 | 0,_=>AllB.nil
 | w+1,x=>(aqI w _).append (AllB.cons (by omega) AllB.nil)
theorem aqD (y:Nat)(hy:y<18446744073709551616):gt .u64 (Ej (y:Int) 256)=((y / 256:Nat):Int):=by
 rw [DF (En _),aK (by omega) (by omega)];omega
theorem aqb (y:Nat):gt .u8 (DQ (y:Int) 256)=((y % 256:Nat):Int):=by
 rw [Dy (En _),CA (by omega) (by omega)];omega
theorem arW (y:Nat):gt .u8 (y:Int)=((y % 256:Nat):Int):=by rw [DT];omega
theorem set8 (v i:Nat)(hi:i<8):(Do (8-i) (0:Int)++byB i v).set (7-i) ((v / 256 ^ i % 256:Nat):Int)=Do (8-(i+1)) (0:Int)++byB (i+1) v:=by
 obtain ⟨k,hk⟩:∃ k,8-i=k+1:=⟨7-i,by omega⟩
 rw [hk,show 7-i=k by omega,aeM,show 8-(i+1)=k by omega,aae]
theorem aqx (v i:Nat)(hi:i<8):∃ x,(Do (8-i) (0:Int)++byB i v)[7-i]? =some x:=⟨_,List.getElem?_eq_getElem (by rw [Ds,List.length_replicate,yE];omega)⟩
theorem aqi (v i:Nat)(hi:i≤8):(Do (8-i) (0:Int)++byB i v).length=8:=by rw [Ds,List.length_replicate,yE];omega
theorem alw (v:Nat)(hv:v<18446744073709551616)(hN:100≤N):cm N (v:Int) 8 false=some (byB 8 v,0):=by
 have e1:fN N (((v:Int),((8:Int),(false,((8:Int),((0:Int),()))))),(Do 8 (0:Int),()))=some ((),(byB 8 v,())):=by
  unfold fN
  have:=cz (G:=fun X c=>eY N X c.1.1 c.1.2.1 c.1.2.2.1 c.1.2.2.2.1 c.1.2.2.2.2.1 c.2.1) (fun i=>((((v / 256 ^ i:Nat):Int),((8:Int),(false,((8:Int),((i:Int),()))))),(Do (8-i) (0:Int)++byB i v,()))) 8 ((),(byB 8 v,())) (fun X i hi=> ?_) (fun X=>rfl) N 0 (DH _) (by omega)
  ·simpa [byB] using this
  ·have d1:decide ((i:Int)<(8:Int))=true:=decide_eq_true (by omega)
   have hp:dX N (i:Int) (8:Int) false=some ((7-i:Nat):Int):=by
    have a1:gt .i64 ((8:Int)-1)=7:=rfl
    have a2:gt .i64 ((7:Int)-(i:Int))=((7-i:Nat):Int):=by rw [ac (by omega) (by omega)];omega
    simp only [dX,cond_false,a1,a2]
   have d2:decide ((0:Int)≤((7-i:Nat):Int)∧((7-i:Nat):Int)<((Do (8-i) (0:Int)++byB i v).length:Int))=true:=decide_eq_true (by rw [aqi v i (by omega)];omega)
   obtain ⟨x,hx⟩:=aqx v i hi
   have hpw:(2:Int) ^ (min (Dp (8:Int)) (Dr .u64))=(2:Int) ^ 8:=rfl
   have hf:DA ((v / 256 ^ i:Nat):Int) ((2:Int) ^ 8)=((v / 256 ^ (i+1):Nat):Int):=by rw [yl,DX,show (2:Nat) ^ 8=256 from rfl,←Nat.pow_succ]
   have hw2:gt .i64 ((i:Int)+1)=((i+1:Nat):Int):=by rw [ac (by omega) (by omega)];omega
   simp only [eY,d1,cond_true,hp,ne,d2,Dq,hx,hpw,hf,arW,set8 v i hi,hw2]
 have c3:ae (Dp 8) 1=true:=by decide
 have hr:Do (Dp 8) (0:Int)=Do 8 0:=rfl
 have hl8:((Do 8 (0:Int)).length:Int)=8:=rfl
 unfold cm
 rw [decide_eq_false (show ¬ ((8:Int)<1) by decide),decide_eq_false (show ¬ ((8:Int)<8) by decide),decide_eq_true (show (0:Int)≤8∧(8:Int)≤8 by decide),c3,hr,hl8,e1]
 rfl
theorem amy (v:Nat)(hv:v<18446744073709551616)(hN:100≤N):nE N (v:Int) 8=some (byB 8 v):=by
 have e1:kA N (((v:Int),((7:Int),())),(Do 8 (0:Int),()))=some ((),(byB 8 v,())):=by
  unfold kA
  have:=cz (G:=fun X c=>gX N X c.1.1 c.1.2.1 c.2.1) (fun i=>((((v / 256 ^ i:Nat):Int),((7:Int)-(i:Int),())),(Do (8-i) (0:Int)++byB i v,()))) 8 ((),(byB 8 v,())) (fun X i hi=> ?_) (fun X=>rfl) N 0 (DH _) (by omega)
  ·simpa [byB] using this
  ·have d1:decide ((0:Int)≤(7:Int)-(i:Int))=true:=decide_eq_true (by omega)
   have d2:decide ((0:Int)≤(7:Int)-(i:Int)∧(7:Int)-(i:Int)<((Do (8-i) (0:Int)++byB i v).length:Int))=true:=decide_eq_true (by rw [aqi v i (by omega)];omega)
   have ht:((7:Int)-(i:Int)).toNat=7-i:=by omega
   obtain ⟨x,hx⟩:=aqx v i hi
   have hf:((v / 256 ^ i / 256:Nat):Int)=((v / 256 ^ (i+1):Nat):Int):=by rw [DX,Nat.pow_succ]
   have hw2:gt .i64 ((7:Int)-(i:Int)-1)=(7:Int)-((i+1:Nat):Int):=by rw [ac (by omega) (by omega)];omega
   simp only [gX,d1,cond_true,ne,d2,ht,hx,aqD _ (D2 (Ea v _) hv),hf,aqb,set8 v i hi,hw2]
 have c3:ae (Dp 8) 1=true:=by decide
 have hr:Do (Dp 8) (0:Int)=Do 8 0:=rfl
 have hw:gt .i64 ((8:Int)-1)=7:=rfl
 unfold nE
 rw [decide_eq_true (show (0:Int)≤8∧(8:Int)≤8 by decide),c3,hr,hw,e1]
 rfl
def cZ (s:List Bool×List Int)(b:Bool):List Bool×List Int:=if s.1.length+1=7 then ([],s.2++[((toW (s.1++[b]):Nat):Int)]) else (s.1++[b],s.2)
theorem ae9 (s:List Bool×List Int)(b:Bool)(h:s.1.length≤6):(cZ s b).1.length≤6∧(cZ s b).2.length≤s.2.length+1:=by
 unfold cZ
 split
 ·simp
 ·simp;omega
theorem xN:∀ (l:List Bool) (s:List Bool×List Int),s.1.length≤6→(l.foldl cZ s).1.length≤6∧(l.foldl cZ s).2.length≤s.2.length+l.length
 | [],s,h=>⟨h,by simp⟩
 | b::l,s,h=>by
  have h1:=ae9 s b h
  have h2:=xN l (cZ s b) h1.1
  exact ⟨h2.1,by rw [List.foldl_cons,Dw];omega⟩
theorem or8b:∀ a:Nat,a<64→∀ x:Nat,x<2→bits .or .u8 (gt .u8 ((a:Int)*(2:Int) ^ (min (Dp (1:Int)) (Dr .u8)))) (x:Int)=((2*a+x:Nat):Int):=by decide +kernel
theorem asw:∀ z:Nat,z<256→bits .and .u8 (z:Int) 1=((z % 2:Nat):Int):=by decide +kernel
theorem af6 (key:List Int)(i:Nat)(b:Int)(hb:0≤b∧b<256)(s:List Bool×List Int)(hs:s.1.length≤6)(hs2:s.2.length≤1000)(hN:100≤N):
  aR N (((8:Int),(b,(key,((7:Int),((i:Int),((8:Int),((0:Int),()))))))),((7:Int),(((toW s.1:Nat):Int),((s.1.length:Int),(s.2,())))))=
   some (((8:Int),(key,((7:Int),((i:Int),())))),((7:Int),(((toW ((aI 8 b.toNat).foldl cZ s).1:Nat):Int),((((aI 8 b.toNat).foldl cZ s).1.length:Int),(((aI 8 b.toNat).foldl cZ s).2,()))))):=by
 obtain ⟨m,rfl⟩:∃ m:Nat,b=m:=⟨b.toNat,by omega⟩
 rw [Dq]
 have hbl:=cK 8 m
 unfold aR
 have:=cz (G:=fun X c=>ai N X c.1.1 c.1.2.1 c.1.2.2.1 c.1.2.2.2.1 c.1.2.2.2.2.1 c.1.2.2.2.2.2.1 c.1.2.2.2.2.2.2.1 c.2.1 c.2.2.1 c.2.2.2.1 c.2.2.2.2.1)
  (fun j=>(((8:Int),((m:Int),(key,((7:Int),((i:Int),((8:Int),((j:Int),()))))))),((7:Int),(((toW (((aI 8 m).take j).foldl cZ s).1:Nat):Int),(((((aI 8 m).take j).foldl cZ s).1.length:Int),((((aI 8 m).take j).foldl cZ s).2,())))))) 8
  (((8:Int),(key,((7:Int),((i:Int),())))),((7:Int),(((toW ((aI 8 m).foldl cZ s).1:Nat):Int),((((aI 8 m).foldl cZ s).1.length:Int),(((aI 8 m).foldl cZ s).2,()))))) (fun X j hj=> ?_) (fun X=> ?_) N 0 (DH _) (by omega)
 ·exact this
 ·have hjl:j<(aI 8 m).length:=by omega
  have hst:((aI 8 m).take (j+1)).foldl cZ s=cZ (((aI 8 m).take j).foldl cZ s) (aI 8 m)[j]:=by rw [←Dz hjl,List.foldl_append];rfl
  obtain ⟨a1,a2⟩:=xN ((aI 8 m).take j) s hs
  rw [Dx] at a2
  have hbit:(((aI 8 m)[j].toNat:Nat):Int)=((m / 2 ^ (7-j) % 2:Nat):Int):=by
   have:=wH 8 m j hj
   rw [List.getD_eq_getElem?_getD,List.getElem?_eq_getElem hjl,Option.getD_some] at this
   rw [this,show 8-1-j=7-j by omega,D5,←bitI]
  generalize hsj:((aI 8 m).take j).foldl cZ s=t at *
  have d1:decide ((j:Int)<(8:Int))=true:=decide_eq_true (by omega)
  have hw:gt .i64 ((7:Int)-(j:Int))=((7-j:Nat):Int):=by rw [ac (by omega) (by omega)];omega
  have d2:decide ((0:Int)≤((7-j:Nat):Int))=true:=decide_eq_true (by omega)
  have hm:min (7-j) (Dr .u8)=7-j:=by show min _ 8=_;omega
  have hand:=asw (m / 2 ^ (7-j)) (D2 (Ea _ _) (by omega))
  rw [←hbit] at hand
  have htl:=dx t.1
  have hp:2 ^ t.1.length≤2 ^ 6:=DD (by decide) a1
  have hbt:(aI 8 m)[j].toNat<2:=by cases (aI 8 m)[j] <;> simp
  have hor:=or8b (toW t.1) (by omega) _ hbt
  rw [←fG] at hor
  have hw2:gt .i64 ((j:Int)+1)=((j+1:Nat):Int):=by rw [ac (by omega) (by omega)];omega
  have hw3:gt .i64 ((t.1.length:Int)+1)=((t.1.length+1:Nat):Int):=by rw [ac (by omega) (by omega)];omega
  have hrm:ae (t.2.length+[((toW (t.1++[(aI 8 m)[j]]):Nat):Int)].length) 1=true:=by
   simp only [Dw,D3]
   exact aC (by have:=aJ;omega) (by omega)
  by_cases h7:t.1.length+1=7
  ·have d3:decide (((t.1.length+1:Nat):Int)=(7:Int))=true:=decide_eq_true (by omega)
   have hps:cZ t (aI 8 m)[j]=([],t.2++[((toW (t.1++[(aI 8 m)[j]]):Nat):Int)]):=by unfold cZ;rw [if_pos h7]
   simp only [ai,d1,cond_true,hw,d2,hw3,d3,Dq,hm,yl,hand,hor,hrm,hw2,hst,hps]
   rfl
  ·have d3:decide (((t.1.length+1:Nat):Int)=(7:Int))=false:=decide_eq_false (by omega)
   have hps:cZ t (aI 8 m)[j]=(t.1++[(aI 8 m)[j]],t.2):=by unfold cZ;rw [if_neg h7]
   simp only [ai,d1,cond_true,cond_false,hw,d2,hw3,d3,Dq,hm,yl,hand,hor,hw2,hst,hps,Ds,Dw,D3,Nat.zero_add]
 ·have ht:(aI 8 m).take 8=aI 8 m:=by have:=DI (l:=aI 8 m);rwa [hbl] at this
  have d1:decide (((8:Nat):Int)<(8:Int))=false:=rfl
  simp only [ai,d1,cond_false,ht]
theorem aii:∀ (c:List Bool),c.length=7→∃ a b x d e f g,c=[a,b,x,d,e,f,g]
 | [a,b,x,d,e,f,g],_=>⟨a,b,x,d,e,f,g,rfl⟩
theorem ar7 (c rest:List Bool)(out:List Int)(h:c.length=7):(c++rest).foldl cZ ([],out)=rest.foldl cZ ([],out++[((toW c:Nat):Int)]):=by
 obtain ⟨a,b,c',d,e,f,g,rfl⟩:=aii c h
 simp [cZ]
theorem CV:∀ (n:Nat) (K:List Bool) (out:List Int),K.length=7*n→(K.foldl cZ ([],out)).2=out++(DU n).map fun i=>((toW ((K.drop (7*i)).take 7):Nat):Int)
 | 0,K,out,h=>by rw [List.eq_nil_of_length_eq_zero h];simp
 | n+1,K,out,h=>by
  have hc:(K.take 7).length=7:=by rw [Dx];omega
  have:=ar7 (K.take 7) (K.drop 7) out hc
  rw [List.take_append_drop] at this
  rw [this,CV n (K.drop 7) _ (by rw [Du];omega),List.range_succ_eq_map,List.map_cons,List.map_map,DE]
  congr 1
  simp only [List.cons_append,Eb,Nat.mul_zero,List.drop_zero]
  congr 1
  apply List.map_congr_left
  intro i _
  simp only [Function.comp,D7]
  rw [show 7*Nat.succ i=7+7*i by omega]
noncomputable def od (s:Int):Int:=(qK 200000 (gt .u8 (s*(2:Int) ^ (min (Dp (1:Int)) (Dr .u8))))).getD 0
theorem afh:∀ s:Nat,s<128→qK 200000 (gt .u8 ((s:Int)*(2:Int) ^ (min (Dp (1:Int)) (Dr .u8))))=some (od (s:Int))∧qc 200000 (gt .u8 (gt .u64 ((2:Int)*(s:Int))))=some (od (s:Int))∧0≤od (s:Int)∧od (s:Int)<256:=by decide +kernel
def sev (key:List Int):List Int:=(DU 8).map fun i=>((toW (((bC key).drop (7*i)).take 7):Nat):Int)
theorem aeL (key:List Int):∀ s∈sev key,∃ m:Nat,s=m∧m<128:=fun s hs=>by
 obtain ⟨i,_,rfl⟩:=List.mem_map.1 hs
 refine ⟨_,rfl, ?_⟩
 have:=dx (((bC key).drop (7*i)).take 7)
 have hp:2 ^ (((bC key).drop (7*i)).take 7).length≤2 ^ 7:=DD (by decide) (by rw [Dx];omega)
 omega
theorem aif (key:List Int)(hl:key.length=7)(hB:AllB key):jQ 200000 key=some ((sev key).map od,0):=by
 have e1:aT 200000 (((8:Int),(key,((7:Int),((0:Int),())))),((7:Int),((0:Int),((0:Int),([],())))))=some ((),((7:Int),(((toW ((bC key).foldl cZ ([],[])).1:Nat):Int),((((bC key).foldl cZ ([],[])).1.length:Int),(((bC key).foldl cZ ([],[])).2,()))))):=by
  unfold aT
  have:=cz (G:=fun X c=>aw 200000 X c.1.1 c.1.2.1 c.1.2.2.1 c.1.2.2.2.1 c.2.1 c.2.2.1 c.2.2.2.1 c.2.2.2.2.1)
   (fun i=>(((8:Int),(key,((7:Int),((i:Int),())))),((7:Int),(((toW ((bC (key.take i)).foldl cZ ([],[])).1:Nat):Int),((((bC (key.take i)).foldl cZ ([],[])).1.length:Int),(((bC (key.take i)).foldl cZ ([],[])).2,())))))) 7
   ((),((7:Int),(((toW ((bC key).foldl cZ ([],[])).1:Nat):Int),((((bC key).foldl cZ ([],[])).1.length:Int),(((bC key).foldl cZ ([],[])).2,()))))) (fun X i hi=> ?_) (fun X=> ?_) 200000 0 (DH _) (by decide)
  ·exact this
  ·have hil:i<key.length:=by omega
   have d1:decide ((i:Int)<(7:Int))=true:=decide_eq_true (by omega)
   obtain ⟨a1,a2⟩:=xN (bC (key.take i)) ([],[]) (by simp)
   rw [fI,Dx] at a2
   have hst:(bC (key.take (i+1))).foldl cZ ([],[])=(aI 8 key[i].toNat).foldl cZ ((bC (key.take i)).foldl cZ ([],[])):=by rw [←Dz hil,qS,List.foldl_append]
   have a2:((bC (key.take i)).foldl cZ ([],[])).2.length≤1000:=by simp at a2;omega
   generalize (bC (key.take i)).foldl cZ ([],[])=t at *
   have he:=af6 (N:=200000) key i key[i] (hB.get i hil) t a1 a2 (by decide)
   have hw2:gt .i64 ((i:Int)+1)=((i+1:Nat):Int):=by rw [ac (by omega) (by omega)];omega
   simp only [aw,d1,cond_true,a7 key i hil,ne,he,hst,hw2]
  ·have ht:key.take 7=key:=by rw [←hl];exact DI
   have d1:decide (((7:Nat):Int)<(7:Int))=false:=rfl
   simp only [aw,d1,cond_false,ht]
 have hp:=CV 8 (bC key) [] (by rw [fI,hl])
 rw [Eb] at hp
 have hp:((bC key).foldl cZ ([],[])).2=sev key:=hp
 have hsl:(sev key).length=8:=by simp [sev]
 have hslt:=aeL key
 have e2:iC 200000 (((8:Int),((0:Int),())),(sev key,()))=some ((),((sev key).map od,())):=by
  unfold iC
  have:=cz (G:=fun X c=>dZ 200000 X c.1.1 c.1.2.1 c.2.1) (fun i=>(((8:Int),((i:Int),())),(((sev key).take i).map od++(sev key).drop i,()))) 8 ((),((sev key).map od,())) (fun X i hi=> ?_) (fun X=> ?_) 200000 0 (DH _) (by decide)
  ·exact this
  ·have hil:i<(sev key).length:=by omega
   have hA:(((sev key).take i).map od).length=i:=by simp;omega
   have hlen:(((sev key).take i).map od++(sev key).drop i).length=8:=by rw [Ds,hA,Du];omega
   have d1:decide ((i:Int)<(8:Int))=true:=decide_eq_true (by omega)
   have d2:decide ((0:Int)≤(i:Int)∧(i:Int)<((((sev key).take i).map od++(sev key).drop i).length:Int))=true:=decide_eq_true (by rw [hlen];omega)
   have hg:(((sev key).take i).map od++(sev key).drop i)[i]? =some (sev key)[i]:=by
    rw [List.getElem?_append_right (by omega),hA,Nat.sub_self,List.getElem?_drop,Nat.add_zero,List.getElem?_eq_getElem hil]
   obtain ⟨m,hm,hm2⟩:=hslt _ (DL hil)
   have ho:=(afh m hm2).1
   rw [←hm] at ho
   have hset:=akx (((sev key).take i).map od) (sev key) i (od (sev key)[i]) hA hil
   have hap:((sev key).take i).map od++[od (sev key)[i]]=((sev key).take (i+1)).map od:=by rw [←Dz hil,Em];rfl
   rw [hap] at hset
   have hw2:gt .i64 ((i:Int)+1)=((i+1:Nat):Int):=by rw [ac (by omega) (by omega)];omega
   simp only [dZ,d1,d2,cond_true,Dq,hg,ne,ho,hset,hw2]
  ·have ht:(sev key).take 8=sev key:=by rw [←hsl];exact DI
   have hd:(sev key).drop 8=[]:=DR (by omega)
   have d1:decide (((8:Nat):Int)<(8:Int))=false:=rfl
   simp only [dZ,d1,cond_false,ht,hd,DS]
 have c1:decide (((key.length:Nat):Int)=7)=true:=decide_eq_true (by omega)
 have hk7:((key.length:Nat):Int)=7:=by omega
 unfold jQ
 rw [c1,hk7]
 simp only [Ed,cond_false]
 rw [e1]
 simp only [ne]
 rw [hp,hsl]
 rw [show (((8:Nat):Int))=(8:Int) from rfl,e2]
 rfl
theorem aig (key:List Int)(hl:key.length=7)(hB:AllB key):gW 200000 key=some ((sev key).map od,0):=by
 have e1:gG 200000 ((key,((0:Int),())),([],()))=some ((),(rI (bC key),())):=by
  unfold gG
  have:=cz (G:=fun X c=>dk 200000 X c.1.1 c.1.2.1 c.2.1) (fun i=>((key,((i:Int),())),(rI (bC (key.take i)),()))) 7 ((),(rI (bC key),())) (fun X i hi=> ?_) (fun X=> ?_) 200000 0 (DH _) (by decide)
  ·exact this
  ·have hil:i<key.length:=by omega
   have d1:decide ((i:Int)<(7:Int))=true:=decide_eq_true (by omega)
   have hb:=hB.get i hil
   have hwb:gt .u64 key[i]=((key[i].toNat:Nat):Int):=by rw [aK (by omega) (by omega)];omega
   have hr:dl 200000 ((key[i].toNat:Nat):Int) (8:Int)=some (rI (aI 8 key[i].toNat)):=CK _ 8 (by omega) (by decide) (by decide)
   have hrm:ae ((rI (bC (key.take i))).length+(rI (aI 8 key[i].toNat)).length) 1=true:=by
    rw [bE,bE,fI,cK,Dx]
    exact aC (by have:=aJ;omega) (by omega)
   have hap:rI (bC (key.take i))++rI (aI 8 key[i].toNat)=rI (bC (key.take (i+1))):=by rw [←Dz hil,qS,gY]
   have hw2:gt .i64 ((i:Int)+1)=((i+1:Nat):Int):=by rw [ac (by omega) (by omega)];omega
   simp only [dk,d1,cond_true,a7 key i hil,ne,hwb,hr,hrm,hap,hw2]
  ·have ht:key.take 7=key:=by rw [←hl];exact DI
   have d1:decide (((7:Nat):Int)<(7:Int))=false:=rfl
   simp only [dk,d1,cond_false,ht]
 have hsl:(sev key).length=8:=by simp [sev]
 have hKl:(bC key).length=56:=by rw [fI,hl]
 have e2:gE 200000 ((rI (bC key),((0:Int),())),([],()))=some ((),((sev key).map od,())):=by
  unfold gE
  have:=cz (G:=fun X c=>dj 200000 X c.1.1 c.1.2.1 c.2.1) (fun i=>((rI (bC key),((i:Int),())),(((sev key).take i).map od,()))) 8 ((),((sev key).map od,())) (fun X i hi=> ?_) (fun X=> ?_) 200000 0 (DH _) (by decide)
  ·exact this
  ·have hil:i<(sev key).length:=by omega
   have d1:decide ((i:Int)<(8:Int))=true:=decide_eq_true (by omega)
   have hw1:gt .i64 ((7:Int)*(i:Int))=((7*i:Nat):Int):=by rw [ac (by omega) (by omega)];omega
   have hw3:gt .i64 (((7*i:Nat):Int)+7)=((7*i+7:Nat):Int):=by rw [ac (by omega) (by omega)];omega
   have hs:subI (rI (bC key)) ((7*i:Nat):Int) ((7*i+7:Nat):Int)=some (rI (((bC key).drop (7*i)).take 7)):=by
    rw [gS (rI (bC key)) rfl rfl (by omega) (by rw [bE];omega),rg,rf,show 7*i+7-7*i=7 by omega]
   have hw:=word_ok (N:=200000) (((bC key).drop (7*i)).take 7) (by rw [Dx];omega) (by decide)
   have hse:((toW (((bC key).drop (7*i)).take 7):Nat):Int)=(sev key)[i]:=by simp [sev]
   obtain ⟨m,hm,hm2⟩:=aeL key _ (DL hil)
   have ho:=(afh m hm2).2.1
   rw [←hm] at ho
   have hrm:ae ((((sev key).take i).map od).length+[od (sev key)[i]].length) 1=true:=by
    simp only [List.length_map,Dx,Dw,D3]
    exact aC (by have:=aJ;omega) (by omega)
   have hap:((sev key).take i).map od++[od (sev key)[i]]=((sev key).take (i+1)).map od:=by rw [←Dz hil,Em];rfl
   have hw2:gt .i64 ((i:Int)+1)=((i+1:Nat):Int):=by rw [ac (by omega) (by omega)];omega
   simp only [dj,d1,cond_true,hw1,hw3,hs,ne,hw,hse,ho,hrm,hap,hw2]
  ·have ht:(sev key).take 8=sev key:=by rw [←hsl];exact DI
   have d1:decide (((8:Nat):Int)<(8:Int))=false:=rfl
   simp only [dj,d1,cond_false,ht]
 have c1:decide (((key.length:Nat):Int)=7)=true:=decide_eq_true (by omega)
 unfold gW
 rw [c1]
 simp only [Ed,cond_false]
 rw [e1]
 simp only [ne]
 rw [e2]
 rfl
end Go.Proofs.YtllpjoggnfclgaaGreatDoor.De
namespace Go.Proofs.YtllpjoggnfclgaaGreatDoor.De
set_option maxRecDepth 100000
open Go.RowKit
set_option linter.unusedVariables false
set_option linter.unusedSimpArgs false
set_option maxRecDepth 100000
theorem seven8 (key block:List Int)(h1:AllB key)(h2:AllB block)(hk:key.length=7)(hb:block.length=8):∃ l,hP 200000 key block=some (l,0)∧jm 200000 key block=some (l,0)∧l.length=8∧AllB l:=by
 unfold hP jm
 have c1:decide (((key.length:Nat):Int)=7)=true:=decide_eq_true (by omega)
 rw [aif key hk h1,aig key hk h1,c1]
 simp only [ne,decide_true,Ed,cond_false]
 have c2:decide (((block.length:Nat):Int)=8)=true:=decide_eq_true (by omega)
 rw [c2]
 simp only [Ed,cond_false]
 have hsl:((sev key).map od).length=8:=by simp [sev]
 have hsB:AllB ((sev key).map od):=fun x hx=>by
  obtain ⟨s,hs,rfl⟩:=List.mem_map.1 hx
  obtain ⟨m,rfl,hm⟩:=aeL key s hs
  exact (afh m hm).2.2
 generalize (sev key).map od=sp at *
 have hrk:(bC sp).length=64:=by rw [fI,hsl]
 have hrb:(bC block).length=64:=by rw [fI,hb]
 rw [afM sp hsl hsB (by decide),afM block hb h2 (by decide),afj sp (by omega) hsB (by decide),afj block (by omega) h2 (by decide)]
 simp only [ne]
 rw [apF _ _ hrk hrb,aqP _ _ hrk hrb]
 simp only [ne]
 have hv:=dx (wX (sv (bC sp)) (bC block))
 rw [ael] at hv
 rw [alw _ (by omega) (by decide),amy _ (by omega) (by decide)]
 exact ⟨_,rfl,rfl,yE _ _,aqI _ _⟩
end Go.Proofs.YtllpjoggnfclgaaGreatDoor.De
namespace Go.Proofs.YtllpjoggnfclgaaGreatDoor
set_option maxRecDepth 100000
set_option maxRecDepth 100000
theorem ajj:iH 200000=some (DB 0 (DB 1518500249 (DB 1859775393 Arr.nil))):=by kernel_rfl
end Go.Proofs.YtllpjoggnfclgaaGreatDoor
namespace Go.Proofs.YtllpjoggnfclgaaGreatDoor
set_option maxRecDepth 100000
open Go.RowKit
set_option linter.unusedVariables false
set_option linter.unusedSimpArgs false
set_option maxRecDepth 100000
def AllW (l:List Int):Prop:=∀ x∈l,0≤x∧x<4294967296
theorem AllW.get {l:List Int}(h:AllW l)(i:Nat)(hi:i<l.length):0≤l[i]∧l[i]<4294967296:=h _ (DL hi)
theorem AllW.set {l:List Int}(h:AllW l)(i:Nat){x:Int}(hx:0≤x∧x<4294967296):AllW (l.set i x):=fun y hy=>by
 rcases List.mem_or_eq_of_mem_set hy with h1 | rfl
 ·exact h y h1
 ·exact hx
theorem w32 (x:Int):gt .u32 x=x % 4294967296:=Eg x
theorem w32r (x:Int):0≤gt .u32 x∧gt .u32 x<4294967296:=by rw [w32];omega
theorem or32r (a b:Int):0≤bits .or .u32 a b∧bits .or .u32 a b<4294967296:=w32r _
theorem not32 (b:Int)(h:0≤b∧b<4294967296):bits .xor .u32 (if IntKind.signed .u32=true then (-1) else IntKind.max .u32) b=gt .u32 (4294967295-b):=by
 obtain ⟨x,rfl⟩:=Int.eq_ofNat_of_zero_le h.1
 show IntKind.u32.wrap ((D9 32 4294967295 ^^^ D9 32 (x:Int)).toNat:Int)=_
 have e1:(D9 32 4294967295:BitVec 32)=BitVec.allOnes 32:=by decide
 rw [e1,BitVec.allOnes_xor,BitVec.toNat_not,BitVec.ofInt_natCast,BitVec.toNat_ofNat,w32,w32]
 have:x % 2 ^ 32=x:=Nat.mod_eq_of_lt (by omega)
 rw [this]
 omega
theorem drop4 (l:List Int)(i:Nat)(h:i+4≤l.length):(l.drop i).take (i+4-i)=[l[i],l[i+1],l[i+2],l[i+3]]:=by
 rw [show i+4-i=4 by omega,Dv (by omega),Dv (by omega),Dv (by omega),Dv (by omega)]
 rfl
section
variable {N:Nat}
theorem ask (u z y x:Int)(hx:0≤x∧x<256)(hy:0≤y∧y<256)(hz:0≤z∧z<256)(hu:0≤u∧u<256)(hN:100≤N):gU N [u,z,y,x] true=some (((x*256+y)*256+z)*256+u,0):=by
 show aiq N [u,z,y,x] true=_
 obtain ⟨M,rfl⟩:∃ M,N=M+5:=⟨N-5,by omega⟩
 have w3:gt .i64 ((0:Int)+1)=1:=by decide
 have w4:gt .i64 ((1:Int)+1)=2:=by decide
 have w5:gt .i64 ((2:Int)+1)=3:=by decide
 have w6:gt .i64 ((3:Int)+1)=4:=by decide
 have m0:gt .i64 ((8:Int)*0)=0:=by decide
 have m1:gt .i64 ((8:Int)*1)=8:=by decide
 have m2:gt .i64 ((8:Int)*2)=16:=by decide
 have m3:gt .i64 ((8:Int)*3)=24:=by decide
 have x1:gt .u64 x=x:=aK (by omega) (by omega)
 have y1:gt .u64 y=y:=aK (by omega) (by omega)
 have z1:gt .u64 z=z:=aK (by omega) (by omega)
 have u1:gt .u64 u=u:=aK (by omega) (by omega)
 have e0:(2:Int) ^ min (Dp 0) (Dr DM)=1:=by decide
 have e1:(2:Int) ^ min (Dp 8) (Dr DM)=256:=by decide
 have e2:(2:Int) ^ min (Dp 16) (Dr DM)=65536:=by decide
 have e3:(2:Int) ^ min (Dp 24) (Dr DM)=16777216:=by decide
 have u2:gt .u64 (u*1)=u:=by rw [Int.mul_one];exact u1
 have z2:gt .u64 (z*256)=z*256:=aK (by omega) (by omega)
 have y2:gt .u64 (y*65536)=y*65536:=aK (by omega) (by omega)
 have x2:gt .u64 (x*16777216)=x*16777216:=aK (by omega) (by omega)
 have o1:bits .or .u64 0 u=u:=by
  have:=zQ 0 u 0 (by decide) (by decide) (by decide) (by omega) (by simp;omega)
  simpa using this
 have o2:bits .or .u64 u (z*256)=z*256+u:=zQ u z 8 (by omega) (by show u.toNat<256;omega) (by omega) (by omega) (by show z.toNat*256<_;omega)
 have o3:bits .or .u64 (z*256+u) (y*65536)=y*65536+(z*256+u):=zQ (z*256+u) y 16 (by omega) (by show (z*256+u).toNat<65536;omega) (by omega) (by omega) (by show y.toNat*65536<_;omega)
 have o4:bits .or .u64 (y*65536+(z*256+u)) (x*16777216)=x*16777216+(y*65536+(z*256+u)):=zQ (y*65536+(z*256+u)) x 24 (by omega) (by show (y*65536+(z*256+u)).toNat<16777216;omega) (by omega) (by omega) (by show x.toNat*16777216<_;omega)
 have fin:x*16777216+(y*65536+(z*256+u))=((x*256+y)*256+z)*256+u:=by omega
 have g0:getI [u,z,y,x] (0:Int)=some u:=rfl
 have g1:getI [u,z,y,x] (1:Int)=some z:=rfl
 have g2:getI [u,z,y,x] (2:Int)=some y:=rfl
 have g3:getI [u,z,y,x] (3:Int)=some x:=rfl
 have l4:(([u,z,y,x]:List Int).length:Int)=4:=rfl
 rw [←fin]
 simp only [aiq,xL,gl,Br,pu,l4,cond_false,cond_true,ne,w3,w4,w5,w6,m0,m1,m2,m3,x1,y1,z1,u1,e0,e1,e2,e3,u2,z2,y2,x2,o1,o2,o3,o4,g0,g1,g2,g3]
 simp [w3,w4,w5,w6,m1,m2,m3,x1,y1,z1,u1,e1,e2,e3,z2,y2,x2,o2,o3,o4,g0,g1,g2,g3]
def lew (l:List Int)(j:Nat):Int:=((l.getD (4*j+3) 0*256+l.getD (4*j+2) 0)*256+l.getD (4*j+1) 0)*256+l.getD (4*j) 0
theorem AllB.getD {l:List Int}(h:AllB l)(i:Nat):0≤l.getD i 0∧l.getD i 0<256:=by
 rw [List.getD_eq_getElem?_getD]
 cases hq:l[i]? with
 | none=>simp
 | some x=>exact h x (List.mem_of_getElem? hq)
theorem ar9 {l:List Int}(h:AllB l)(j:Nat):0≤lew l j∧lew l j<4294967296:=by
 have h0:=h.getD (4*j);have h1:=h.getD (4*j+1);have h2:=h.getD (4*j+2);have h3:=h.getD (4*j+3)
 unfold lew;omega
theorem nT {l:List Int}{i:Nat}(h:i<l.length):l.getD i 0=l[i]:=by simp [List.getD_eq_getElem?_getD,h]
theorem vL (hN:10000≤N)(b:Arr Int 64)(hb:AllB b.l)(h0:Arr Int 16):∀ (k M i:Nat) (h1:Arr Int 16),k+i=16→k<M→(∀ j,j<i→h1.l[j]? =some (lew b.l j))→
  ∃ h2:Arr Int 16,(∀ j,j<16→h2.l[j]? =some (lew b.l j))∧gl (fun X c=>fy N X c.1.1 c.1.2.1 c.2.1 c.2.2.1) M ((b,((i:Int),())),(h0,(h1,())))=some ((),(h0,(h2,())))
 | 0,M+1,i,h1,hk,hM,hw=>by
  have c1:¬ ((i:Int)<16):=by omega
  refine ⟨h1,fun j hj=>hw j (by omega), ?_⟩
  simp only [gl,fy,c1,decide_false,cond_false]
 | k+1,M+1,i,h1,hk,hM,hw=>by
  have hl:=h1.h
  have hbl:=b.h
  have c1:((i:Int)<16):=by omega
  have c2:(0:Int)≤(i:Int)∧(i:Int)<((16:Nat):Int):=by omega
  have e0:gt .i64 ((i:Int)+1)=((i+1:Nat):Int):=by rw [ac (by omega) (by omega)];omega
  have e1:Dp (i:Int)=i:=Dq i
  have g1:h1.l[i]? =some (h1.l[i]'(by omega)):=List.getElem?_eq_getElem _
  have s1:gt .i64 ((4:Int)*(i:Int))=((4*i:Nat):Int):=by rw [ac (by omega) (by omega)];omega
  have s2:gt .i64 (((4*i:Nat):Int)+4)=((4*i+4:Nat):Int):=by rw [ac (by omega) (by omega)];omega
  have s6:subI b.l ((4*i:Nat):Int) ((4*i+4:Nat):Int)=some [b.l[4*i]'(by omega),b.l[4*i+1]'(by omega),b.l[4*i+2]'(by omega),b.l[4*i+3]'(by omega)]:=by
   rw [gS b.l rfl rfl (by omega) (by omega),drop4 b.l (4*i) (by omega)]
  have ba:=hb.get (4*i) (by omega)
  have bb:=hb.get (4*i+1) (by omega)
  have bc:=hb.get (4*i+2) (by omega)
  have bd:=hb.get (4*i+3) (by omega)
  have s7:=ask (N:=N) _ _ _ _ bd bc bb ba (by omega)
  have hlw:lew b.l i=((b.l[4*i+3]'(by omega)*256+b.l[4*i+2]'(by omega))*256+b.l[4*i+1]'(by omega))*256+b.l[4*i]'(by omega):=by
   unfold lew
   rw [nT (by omega),nT (by omega),nT (by omega),nT (by omega)]
  rw [←hlw] at s7
  have v1:gt .u32 (lew b.l i)=lew b.l i:=by have:=ar9 hb i;rw [w32];omega
  obtain ⟨h2,r1,r2⟩:=vL hN b hb h0 k M (i+1) (h1.set i (lew b.l i)) (by omega) (by omega) (fun j hj=>by
   show (h1.l.set i (lew b.l i))[j]? =_
   by_cases hji:j=i
   ·subst hji;rw [List.getElem?_set_self (by omega)]
   ·rw [List.getElem?_set_ne (by omega)];exact hw j (by omega))
  refine ⟨h2,r1, ?_⟩
  rw [ah]
  simp only [fy,c1,decide_true,cond_true,s1,s2,s6,ne,s7,c2,and_self,e1,g1,e0,v1]
  exact r2
theorem ah7 (hN:10000≤N)(b:Arr Int 64)(hb:AllB b.l):∃ W:Arr Int 16,(∀ j,j<16→W.l[j]? =some (lew b.l j))∧nK N b=some W:=by
 obtain ⟨W,h1,h2⟩:=vL hN b hb ⟨Do 16 0,rfl⟩ 16 N 0 ⟨Do 16 0,rfl⟩ (by omega) (by omega) (fun j hj=>by omega)
 refine ⟨W,h1, ?_⟩
 have h2':pg N ((b,((0:Int),())),((⟨Do 16 0,rfl⟩:Arr Int 16),((⟨Do 16 0,rfl⟩:Arr Int 16),())))=some ((),((⟨Do 16 0,rfl⟩:Arr Int 16),(W,()))):=h2
 unfold nK
 refine (congrArg (fun o=>Dt o _) h2').trans ?_
 rfl
end
theorem ail (N:Nat)(x k:Int)(hk:k=3∨k=5∨k=7∨k=9∨k=11∨k=13∨k=15∨k=19):∃ r,0≤r∧r<4294967296∧cE N x k=some r∧oG N x k=some r:=by
 rcases hk with rfl | rfl | rfl | rfl | rfl | rfl | rfl | rfl
 ·exact ⟨bits .or .u32 (gt .u32 (x*8)) (DA x 536870912),(or32r _ _).1,(or32r _ _).2,by kernel_rfl,by kernel_rfl⟩
 ·exact ⟨bits .or .u32 (gt .u32 (x*32)) (DA x 134217728),(or32r _ _).1,(or32r _ _).2,by kernel_rfl,by kernel_rfl⟩
 ·exact ⟨bits .or .u32 (gt .u32 (x*128)) (DA x 33554432),(or32r _ _).1,(or32r _ _).2,by kernel_rfl,by kernel_rfl⟩
 ·exact ⟨bits .or .u32 (gt .u32 (x*512)) (DA x 8388608),(or32r _ _).1,(or32r _ _).2,by kernel_rfl,by kernel_rfl⟩
 ·exact ⟨bits .or .u32 (gt .u32 (x*2048)) (DA x 2097152),(or32r _ _).1,(or32r _ _).2,by kernel_rfl,by kernel_rfl⟩
 ·exact ⟨bits .or .u32 (gt .u32 (x*8192)) (DA x 524288),(or32r _ _).1,(or32r _ _).2,by kernel_rfl,by kernel_rfl⟩
 ·exact ⟨bits .or .u32 (gt .u32 (x*32768)) (DA x 131072),(or32r _ _).1,(or32r _ _).2,by kernel_rfl,by kernel_rfl⟩
 ·exact ⟨bits .or .u32 (gt .u32 (x*524288)) (DA x 8192),(or32r _ _).1,(or32r _ _).2,by kernel_rfl,by kernel_rfl⟩
def ks04:Arr Int 3:=DB 0 (DB 1518500249 (DB 1859775393 Arr.nil))
def ta04:List (Arr Int 4):=[⟨[3,7,11,19],rfl⟩,⟨[3,5,9,13],rfl⟩,⟨[3,9,11,15],rfl⟩]
def tl04:List (List Int):=[[3,7,11,19],[3,5,9,13],[3,9,11,15]]
section
variable {N:Nat}
theorem aso (i:Nat)(hi:i<48):gt .i64 (Ej (i:Int) 16)=((i / 16:Nat):Int):=by
 rw [DF (by omega),ac (by omega) (by omega)];omega
theorem mix_pair (q:Nat)(hq:q<3)(b c d:Int)(hb:0≤b∧b<4294967296):∃ m k,nL N (q:Int) b c d=some m∧getI ks04.l (q:Int)=some k∧lw N (q:Int) b c d=some (gt .u32 (m+k)):=by
 have hq:q=0∨q=1∨q=2:=by omega
 unfold nL lw
 rcases hq with rfl | rfl | rfl
 ·refine ⟨_,0,rfl,rfl, ?_⟩
  rw [not32 b hb]
  have h:=or32r (bits .and .u32 b c) (bits .and .u32 (gt .u32 (4294967295-b)) d)
  show some _=_
  congr 1
  generalize bits .or .u32 (bits .and .u32 b c) (bits .and .u32 (gt .u32 (4294967295-b)) d)=z at *
  rw [w32];omega
 ·exact ⟨_,1518500249,rfl,rfl,rfl⟩
 ·exact ⟨_,1859775393,rfl,rfl,rfl⟩
theorem ae8:((DU 48).all fun i=>match jw 0 (i:Int),eX 0 (i:Int) with | some a,some b=>decide (a=b)&&decide (0≤a)&&decide (a<16) | _,_=>false)=true:=by decide +kernel
theorem adj (i:Nat)(hi:i<48):∃ j:Nat,j<16∧jw N (i:Int)=some (j:Int)∧eX N (i:Int)=some (j:Int):=by
 have h:=List.all_eq_true.1 ae8 i (List.mem_range.2 hi)
 show ∃ j:Nat,j<16∧jw 0 (i:Int)=some (j:Int)∧eX 0 (i:Int)=some (j:Int)
 revert h
 generalize jw 0 (i:Int)=x
 generalize eX 0 (i:Int)=y
 intro h
 split at h
 ·rename_i a b
  simp only [DO,decide_eq_true_eq] at h
  obtain ⟨⟨rfl,h1⟩,h2⟩:=h
  exact ⟨a.toNat,by omega,by rw [Int.toNat_of_nonneg h1],by rw [Int.toNat_of_nonneg h1]⟩
 ·cases h
theorem ac4 (i:Nat)(hi:i<48):∃ (a:Arr Int 4) (l:List Int) (k:Int),getI ta04 ((i / 16:Nat):Int)=some a∧getI a.l (DQ (i:Int) 4)=some k∧getI tl04 ((i / 16:Nat):Int)=some l∧getI l (DQ (i:Int) 4)=some k∧
  (k=3∨k=5∨k=7∨k=9∨k=11∨k=13∨k=15∨k=19):=by
 have e:DQ (i:Int) 4=((i % 4:Nat):Int):=by rw [Dy (by omega)];omega
 rw [e]
 have hq:i / 16=0∨i / 16=1∨i / 16=2:=by omega
 have hr:i % 4=0∨i % 4=1∨i % 4=2∨i % 4=3:=by omega
 rcases hq with hq | hq | hq <;> rcases hr with hr | hr | hr | hr <;> rw [hq,hr] <;> exact ⟨_,_,_,rfl,rfl,rfl,rfl,by decide⟩
theorem steps_pair (hN:10000≤N)(blk:Arr Int 64)(hB:AllB blk.l)(W:Arr Int 16)(hW:∀ j,j<16→W.l[j]? =some (lew blk.l j))(s:Arr Int 4)(h0 h0':Arr Int 4):∀ (k M i:Nat) (t:Arr Int 4),k+i=48→k<M→AllW t.l→
  ∃ t2:Arr Int 4,AllW t2.l∧gl (fun X c=>eA N X c.1.1 c.1.2.1 c.1.2.2.1 c.2.1 c.2.2.1 c.2.2.2.1) M ((s,(ks04,((i:Int),()))),(h0,(W,(t,()))))=some ((s,()),(h0,(t2,())))∧
   gl (fun X c=>dW N X c.1.1 c.1.2.1 c.1.2.2.1 c.1.2.2.2.1 c.2.1 c.2.2.1) M ((s,(blk,(tl04,((i:Int),())))),(h0',(t,())))=some ((s,()),(h0',(t2,())))
 | 0,M+1,i,t,hk,hM,hw=>by
  have c1:¬ ((i:Int)<48):=by omega
  refine ⟨t,hw, ?_, ?_⟩
  ·simp only [gl,eA,c1,decide_false,cond_false]
  ·simp only [gl,dW,c1,decide_false,cond_false]
 | k+1,M+1,i,t,hk,hM,hw=>by
  have hbl:=blk.h
  have c1:((i:Int)<48):=by omega
  have e0:gt .i64 ((i:Int)+1)=((i+1:Nat):Int):=by rw [ac (by omega) (by omega)];omega
  have dq:=aso i (by omega)
  obtain ⟨j,j1,j2,j3⟩:=adj (N:=N) i (by omega)
  obtain ⟨ar,lr,kk,k1,k2,k3,k4,k5⟩:=ac4 i (by omega)
  have c2:(0:Int)≤(j:Int)∧(j:Int)<((16:Nat):Int):=by omega
  have e1:Dp (j:Int)=j:=Dq j
  have g1:=hW j j1
  have s1:gt .i64 ((4:Int)*(j:Int))=((4*j:Nat):Int):=by rw [ac (by omega) (by omega)];omega
  have s3:gt .i64 (((4*j:Nat):Int)+1)=((4*j+1:Nat):Int):=by rw [ac (by omega) (by omega)];omega
  have s4:gt .i64 (((4*j:Nat):Int)+2)=((4*j+2:Nat):Int):=by rw [ac (by omega) (by omega)];omega
  have s5:gt .i64 (((4*j:Nat):Int)+3)=((4*j+3:Nat):Int):=by rw [ac (by omega) (by omega)];omega
  have ba:=hB.get (4*j) (by omega)
  have bb:=hB.get (4*j+1) (by omega)
  have bc:=hB.get (4*j+2) (by omega)
  have bd:=hB.get (4*j+3) (by omega)
  have G0:=a7 blk.l (4*j) (by omega)
  have G1:=a7 blk.l (4*j+1) (by omega)
  have G2:=a7 blk.l (4*j+2) (by omega)
  have G3:=a7 blk.l (4*j+3) (by omega)
  have hlw:lew blk.l j=((blk.l[4*j+3]'(by omega)*256+blk.l[4*j+2]'(by omega))*256+blk.l[4*j+1]'(by omega))*256+blk.l[4*j]'(by omega):=by
   unfold lew
   rw [nT (by omega),nT (by omega),nT (by omega),nT (by omega)]
  generalize lew blk.l j=wj at *
  generalize hx:blk.l[4*j]'(by omega)=x at *
  generalize hy:blk.l[4*j+1]'(by omega)=y at *
  generalize hz:blk.l[4*j+2]'(by omega)=z at *
  generalize hu:blk.l[4*j+3]'(by omega)=u at *
  have v2:gt .u32 (gt .u32 (gt .u32 (gt .u32 x+gt .u32 (gt .u32 y*256))+gt .u32 (gt .u32 z*65536))+gt .u32 (gt .u32 u*16777216))=wj:=by
   simp only [w32];omega
  match t,hw with
  | ⟨[a,b,c,d],ht⟩,hw=>
   have ra:=hw a (by simp)
   have rb:=hw b (by simp)
   have rc:=hw c (by simp)
   have rd:=hw d (by simp)
   obtain ⟨m,kc,m1,m2,m3⟩:=mix_pair (N:=N) (i / 16) (by omega) b c d rb
   have z0:([a,b,c,d]:List Int)[Dp 0]? =some a:=rfl
   have z1:([a,b,c,d]:List Int)[Dp 1]? =some b:=rfl
   have z2:([a,b,c,d]:List Int)[Dp 2]? =some c:=rfl
   have z3:([a,b,c,d]:List Int)[Dp 3]? =some d:=rfl
   have x1:gt .u32 (gt .u32 (a+gt .u32 (m+kc))+wj)=gt .u32 (gt .u32 (gt .u32 (a+m)+wj)+kc):=by
    simp only [w32];omega
   obtain ⟨r,r1,r2,r3,r4⟩:=ail N (gt .u32 (gt .u32 (gt .u32 (a+m)+wj)+kc)) kk k5
   obtain ⟨t2,q1,q2,q3⟩:=steps_pair hN blk hB W hW s h0 h0' k M (i+1) (DB d (DB r (DB b (DB c Arr.nil)))) (by omega) (by omega) (fun x hx=>by
    simp only [DB,Arr.nil,DY,DV,or_false] at hx
    rcases hx with rfl | rfl | rfl | rfl
    ·exact rd
    ·exact ⟨r1,r2⟩
    ·exact rb
    ·exact rc)
   refine ⟨t2,q1, ?_, ?_⟩
   ·rw [ah]
    unfold ta04 at k1
    simp only [eA,c1,decide_true,cond_true,z0,z1,z2,z3,ne,dq,m1,j2,c2,and_self,e1,g1,m2,k1,k2,r3,e0]
    exact q2
   ·rw [ah]
    simp only [dW,c1,decide_true,cond_true,z0,z1,z2,z3,ne,dq,j3,s1,s3,s4,s5,G0,G1,G2,G3,m3,k3,k4,v2,x1,r4,e0]
    exact q3
theorem add_pair (hN:10000≤N)(s h0:Arr Int 4)(hs:AllW s.l):∀ (k M i:Nat) (t:Arr Int 4),k+i=4→k<M→AllW t.l→
  ∃ t2:Arr Int 4,AllW t2.l∧gl (fun X c=>dY N X c.1.1 c.1.2.1 c.2.1 c.2.2.1) M ((s,((i:Int),())),(h0,(t,())))=some ((),(h0,(t2,())))∧(gl (fun X c=>di N X c.1.1 c.1.2.1 c.2.1 c.2.2.1) M ((s,((i:Int),())),(h0,(t,())))=some ((),(h0,(t2,()))))
 | 0,M+1,i,t,hk,hM,hw=>by
  have c1:¬ ((i:Int)<4):=by omega
  refine ⟨t,hw, ?_, ?_⟩
  ·simp only [gl,dY,c1,decide_false,cond_false]
  ·simp only [gl,di,c1,decide_false,cond_false]
 | k+1,M+1,i,t,hk,hM,hw=>by
  have hl:=t.h
  have hsl:=s.h
  have c1:((i:Int)<4):=by omega
  have c2:(0:Int)≤(i:Int)∧(i:Int)<((4:Nat):Int):=by omega
  have e0:gt .i64 ((i:Int)+1)=((i+1:Nat):Int):=by rw [ac (by omega) (by omega)];omega
  have e1:Dp (i:Int)=i:=Dq i
  have g1:t.l[i]? =some (t.l[i]'(by omega)):=List.getElem?_eq_getElem _
  have g2:=a7 s.l i (by omega)
  obtain ⟨t2,r1,r2,r3⟩:=add_pair hN s h0 hs k M (i+1) (t.set i (gt .u32 (t.l[i]'(by omega)+s.l[i]'(by omega)))) (by omega) (by omega) (hw.set i (w32r _))
  refine ⟨t2,r1, ?_, ?_⟩
  ·rw [ah]
   simp only [dY,c1,decide_true,cond_true,c2,and_self,e1,g1,g2,e0,ne]
   exact r2
  ·rw [ah]
   simp only [di,c1,decide_true,cond_true,c2,and_self,e1,g1,g2,e0,ne]
   exact r3
theorem behind_pair (hN:10000≤N)(s:Arr Int 4)(b:Arr Int 64)(hs:AllW s.l)(hb:AllB b.l):∃ t:Arr Int 4,AllW t.l∧gL N s b ks04=some t∧js N s b=some t:=by
 unfold gL js
 obtain ⟨W,w1,w2⟩:=ah7 (N:=N) hN b hb
 obtain ⟨t,t1,t2,t3⟩:=steps_pair (N:=N) hN b hb W w1 s ⟨Do 4 0,rfl⟩ ⟨Do 4 0,rfl⟩ 48 N 0 s (by omega) (by omega) hs
 have t2':nN N ((s,(ks04,((0:Int),()))),((⟨Do 4 0,rfl⟩:Arr Int 4),(W,(s,()))))=some ((s,()),((⟨Do 4 0,rfl⟩:Arr Int 4),(t,()))):=t2
 have t3':m6 N ((s,(b,(tl04,((0:Int),())))),((⟨Do 4 0,rfl⟩:Arr Int 4),(s,())))=some ((s,()),((⟨Do 4 0,rfl⟩:Arr Int 4),(t,()))):=t3
 obtain ⟨u,u1,u2,u3⟩:=add_pair (N:=N) hN s ⟨Do 4 0,rfl⟩ hs 4 N 0 t (by omega) (by omega) t1
 have u2':m9 N ((s,((0:Int),())),((⟨Do 4 0,rfl⟩:Arr Int 4),(t,())))=some ((),((⟨Do 4 0,rfl⟩:Arr Int 4),(u,()))):=u2
 have u3':lz N ((s,((0:Int),())),((⟨Do 4 0,rfl⟩:Arr Int 4),(t,())))=some ((),((⟨Do 4 0,rfl⟩:Arr Int 4),(u,()))):=u3
 refine ⟨u,u1, ?_, ?_⟩
 ·rw [w2,ne]
  refine (congrArg (fun o=>Dt o _) t2').trans ?_
  simp only [ne]
  refine (congrArg (fun o=>Dt o _) u2').trans ?_
  rfl
 ·refine (congrArg (fun o=>Dt o _) t3').trans ?_
  simp only [ne]
  refine (congrArg (fun o=>Dt o _) u3').trans ?_
  rfl
end
def le8 (n:Int):List Int:=[n % 256,n / 256 % 256,n / 65536 % 256,n / 16777216 % 256,n / 4294967296 % 256,n / 1099511627776 % 256,n / 281474976710656 % 256,n / 72057594037927936 % 256]
theorem asa (n:Int):AllB (le8 n):=fun x hx=>by
 simp only [le8,DY,DV,or_false] at hx
 rcases hx with rfl | rfl | rfl | rfl | rfl | rfl | rfl | rfl <;> omega
section
variable {N:Nat}
theorem put8 (n:Int)(h:0≤n∧n<18446744073709551616)(hN:100≤N):cm N n 8 true=some (le8 n,0):=by
 obtain ⟨M,rfl⟩:∃ M,N=M+9:=⟨N-9,by omega⟩
 have r1:ae (Dp 8) 1=true:=by decide
 have r2:Do (Dp 8) (0:Int)=[0,0,0,0,0,0,0,0]:=rfl
 have w1:gt .i64 ((8:Int)-1)=7:=by decide
 have v0:gt .i64 ((7:Int)-0)=7:=by decide
 have v1:gt .i64 ((7:Int)-1)=6:=by decide
 have v2:gt .i64 ((7:Int)-2)=5:=by decide
 have v3:gt .i64 ((7:Int)-3)=4:=by decide
 have v4:gt .i64 ((7:Int)-4)=3:=by decide
 have v5:gt .i64 ((7:Int)-5)=2:=by decide
 have v6:gt .i64 ((7:Int)-6)=1:=by decide
 have v7:gt .i64 ((7:Int)-7)=0:=by decide
 have w3:gt .i64 ((0:Int)+1)=1:=by decide
 have w4:gt .i64 ((1:Int)+1)=2:=by decide
 have w5:gt .i64 ((2:Int)+1)=3:=by decide
 have w6:gt .i64 ((3:Int)+1)=4:=by decide
 have w7:gt .i64 ((4:Int)+1)=5:=by decide
 have w8:gt .i64 ((5:Int)+1)=6:=by decide
 have w9:gt .i64 ((6:Int)+1)=7:=by decide
 have w10:gt .i64 ((7:Int)+1)=8:=by decide
 have e1:(2:Int) ^ min (Dp 8) (Dr DM)=256:=by decide
 have fd:∀ x:Int,DA x 256=x / 256:=fun x=>DJ _ (by decide)
 have d2:n / 256 / 256=n / 65536:=by omega
 have d3:n / 65536 / 256=n / 16777216:=by omega
 have d4:n / 16777216 / 256=n / 4294967296:=by omega
 have d5:n / 4294967296 / 256=n / 1099511627776:=by omega
 have d6:n / 1099511627776 / 256=n / 281474976710656:=by omega
 have d7:n / 281474976710656 / 256=n / 72057594037927936:=by omega
 have u8:∀ x:Int,gt .u8 x=x % 256:=fun x=>by rw [DT]
 simp only [cm,fN,gl,eY,dX,r1,r2,e1,cond_false,cond_true,ne,w1,v0,v1,v2,v3,v4,v5,v6,v7,w3,w4,w5,w6,w7,w8,w9,w10]
 simp [w1,v0,v1,v2,v3,v4,v5,v6,v7,w3,w4,w5,w6,w7,w8,w9,w10,fd,d2,d3,d4,d5,d6,d7,u8,le8]
def nz (n:Int):Nat:=((119-n % 64) % 64).toNat
def pn (n:Int):List Int:=[128]++Do (nz n) 0++le8 (8*n % 18446744073709551616)
theorem nz_lt (n:Int):nz n<64:=by unfold nz;omega
theorem s8 (n:Int):(pn n).length=nz n+9:=by simp [pn,le8]
theorem aev (n:Int):AllB (pn n):=by
 refine DZ (DZ (AllB.cons (by omega) AllB.nil) fun x hx=> ?_) (asa _)
 rw [(List.mem_replicate.1 hx).2];omega
theorem BK (n:Int)(h:0≤n∧n<18446744073709551616)(hN:10000≤N):qj N n=some (pn n):=by
 unfold qj
 have hw:gt .u64 ((8:Int)*n)=8*n % 18446744073709551616:=by rw [DP]
 have hz:DQ (gt .u64 ((119:Int)-DQ n 64)) 64=((nz n:Nat):Int):=by
  have hm:DQ n 64=n % 64:=Dy h.1
  rw [hm,aK (by omega) (by omega),Dy (by omega)]
  unfold nz
  omega
 have hl:=nz_lt n
 have c1:((decide ((0:Int)≤((nz n:Nat):Int)∧((nz n:Nat):Int)≤((nz n:Nat):Int)))&&ae (nz n) 1)=true:=by
  have:ae (nz n) 1=true:=aC (by have:=aJ;omega) (by omega)
  simp [this]
 rw [hw,put8 _ (by omega) (by omega),hz]
 simp only [ne,c1,cond_true,Dq]
 refine (ul (N:=N) [[128],Do (nz n) 0,le8 (8*n % 18446744073709551616)] (by simp) ?_ ?_).trans ?_
 all_goals first | omega | skip
 ·simp [le8];omega
 ·simp [pn]
theorem zeros_ok (n:Int)(h:0≤n∧n<18446744073709551616):∀ (k M:Nat) (l:List Int),k<M→l.length+k<1000→(n+l.length+k) % 64=56→k<64→
  gl (fun X c=>ck N X c.1.1 c.2.1) M ((n,()),(l,()))=some ((n,()),(l++Do k 0,()))
 | 0,M+1,l,hM,hl,hk,_=>by
  have e:DQ (gt .u64 (n+gt .u64 (l.length:Int))) 64=56:=by
   rw [aK (x:=(l.length:Int)) (by omega) (by omega),DP,Dy (by omega)];omega
  rw [ah]
  simp only [ck,e,decide_true,Ed,cond_false,Eh,DS]
 | k+1,M+1,l,hM,hl,hk,h64=>by
  have e:¬ DQ (gt .u64 (n+gt .u64 (l.length:Int))) 64=56:=by
   rw [aK (x:=(l.length:Int)) (by omega) (by omega),DP,Dy (by omega)];omega
  have r:ae (l.length+([(0:Int)]:List Int).length) 1=true:=aC (by have:=aJ;simp;omega) (by simp;omega)
  rw [ah]
  simp only [ck,e,decide_false,Bool.not_false,cond_true,r]
  refine (zeros_ok n h k M (l++[0]) (by omega) (by simp;omega) (by simp;omega) (by omega)).trans ?_
  rw [List.replicate_succ,DE];rfl
theorem ref04_tail_ok (n:Int)(h:0≤n∧n<18446744073709551616)(hN:10000≤N):et N n=some ([128]++Do (nz n) 0++le8 (8*n % 18446744073709551616)):=by
 unfold et
 have hl:=nz_lt n
 have hz:=zeros_ok (N:=N) n h (nz n) N [128] (by omega) (by simp;omega) (by unfold nz;simp;omega) hl
 refine (congrArg (fun o=>Dt o _) hz).trans ?_
 simp only [ne]
 have hw:gt .u64 ((8:Int)*n)=8*n % 18446744073709551616:=by rw [DP]
 rw [hw]
 have hb:0≤8*n % 18446744073709551616∧8*n % 18446744073709551616<18446744073709551616:=by omega
 generalize 8*n % 18446744073709551616=m at *
 have hpl:([128]++Do (nz n) (0:Int)).length=nz n+1:=by simp
 generalize [128]++Do (nz n) (0:Int)=p at *
 obtain ⟨M,rfl⟩:∃ M,N=M+9:=⟨N-9,by omega⟩
 have dv:∀ x:Int,0≤x→x<18446744073709551616→gt .u64 (Ej x 256)=x / 256:=fun x h1 h2=>by
  rw [DF h1,aK (by omega) (by omega)]
 have md:∀ x:Int,0≤x→gt .u8 (DQ x 256)=x % 256:=fun x h1=>by
  rw [Dy h1,CA (by omega) (by omega)]
 have st:∀ (K:Nat) (x:Int) (i:Nat) (q:List Int),i<8→0≤x→x<18446744073709551616→q.length<1000→gl (fun X c=>bD (M+9) X c.1.1 c.1.2.1 c.2.1) (K+1) ((x,((i:Int),())),(q,()))=gl (fun X c=>bD (M+9) X c.1.1 c.1.2.1 c.2.1) K ((x / 256,(((i+1:Nat):Int),())),(q++[x % 256],())):=fun K x i q hi h1 h2 hq=>by
  have c1:((i:Int)<8):=by omega
  have e0:gt .i64 ((i:Int)+1)=((i+1:Nat):Int):=by rw [ac (by omega) (by omega)];omega
  have r:∀ y:Int,ae (q.length+([y]:List Int).length) 1=true:=fun y=>aC (by have:=aJ;simp;omega) (by simp;omega)
  rw [ah]
  simp only [bD,c1,decide_true,cond_true,md x h1,r,dv x h1 h2,e0]
 have fin:∀ (K:Nat) (x:Int) (q:List Int),gl (fun X c=>bD (M+9) X c.1.1 c.1.2.1 c.2.1) (K+1) ((x,(((8:Nat):Int),())),(q,()))=some ((),(q,())):=fun K x q=>by
  rw [ah]
  rfl
 have all:jp (M+9) ((m,((0:Int),())),(p,()))=some ((),(p++le8 m,())):=by
  refine (st (M+8) m 0 p (by omega) hb.1 hb.2 (by omega)).trans ?_
  refine (st (M+7) _ 1 _ (by omega) (by omega) (by omega) (by simp;omega)).trans ?_
  refine (st (M+6) _ 2 _ (by omega) (by omega) (by omega) (by simp;omega)).trans ?_
  refine (st (M+5) _ 3 _ (by omega) (by omega) (by omega) (by simp;omega)).trans ?_
  refine (st (M+4) _ 4 _ (by omega) (by omega) (by omega) (by simp;omega)).trans ?_
  refine (st (M+3) _ 5 _ (by omega) (by omega) (by omega) (by simp;omega)).trans ?_
  refine (st (M+2) _ 6 _ (by omega) (by omega) (by omega) (by simp;omega)).trans ?_
  refine (st (M+1) _ 7 _ (by omega) (by omega) (by omega) (by simp;omega)).trans ?_
  refine (fin M _ _).trans ?_
  have d2:m / 256 / 256=m / 65536:=by omega
  have d3:m / 65536 / 256=m / 16777216:=by omega
  have d4:m / 16777216 / 256=m / 4294967296:=by omega
  have d5:m / 4294967296 / 256=m / 1099511627776:=by omega
  have d6:m / 1099511627776 / 256=m / 281474976710656:=by omega
  have d7:m / 281474976710656 / 256=m / 72057594037927936:=by omega
  simp only [d2,d3,d4,d5,d6,d7,DE,List.cons_append,Eb,le8]
 refine (congrArg (fun o=>Dt o _) all).trans ?_
 rfl
theorem vg (n:Int)(h:0≤n∧n<18446744073709551616)(hN:10000≤N):et N n=some (pn n):=ref04_tail_ok n h hN
end
theorem flat_len (m:List (List Int))(k:Nat)(h:∀ p∈m,p.length≤k):m.flatten.length≤k*m.length:=by
 induction m with
 | nil=>simp
 | cons p m ih=>
  have h1:=h p List.mem_cons_self
  have h2:=ih fun q hq=>h q (List.mem_cons_of_mem _ hq)
  rw [List.flatten_cons,Ds,Dw,Nat.mul_add]
  omega
section
variable {N:Nat}
theorem joinS (l:List (List Int))(h0:Arr Int 16)(hl:l.length≤1000)(hs:∀ p∈l,p.length≤100000)(hN:2000≤N):
  fP N ((l,((0:Int),(l,((l.length:Int),((0:Int),()))))),(h0,()))=some ((l,((l.flatten.length:Int),())),(h0,()))∧
  fO N ((l,((l.length:Int),((0:Int),()))),(h0,(([]:List Int),())))=some ((),(h0,(l.flatten,()))):=by
 have tk:∀ i,(l.take i).flatten.length≤100000000:=fun i=>by
  have:=flat_len (l.take i) 100000 fun p hp=>hs p (List.mem_of_mem_take hp)
  rw [Dx] at this
  omega
 have hsn:∀ i (hi:i<l.length),(l.take (i+1)).flatten=(l.take i).flatten++l[i]:=fun i hi=>by
  have:l.take (i+1)=l.take i++[l[i]]:=by rw [D6,List.getElem?_eq_getElem hi];rfl
  rw [this,List.flatten_append]
  simp
 have h1:=cz (G:=fun (X:((List (List Int)×Int×List (List Int)×Int×Int×Unit)×Arr Int 16×Unit)→Option ((List (List Int)×Int×Unit)×Arr Int 16×Unit)) c=>bu N X c.1.1 c.1.2.1 c.1.2.2.1 c.1.2.2.2.1 c.1.2.2.2.2.1 c.2.1)
  (fun i=>((l,(((l.take i).flatten.length:Int),(l,((l.length:Int),((i:Int),()))))),(h0,()))) l.length ((l,((l.flatten.length:Int),())),(h0,())) (fun X i hi=>by
  have c1:((i:Int)<(l.length:Int)):=by omega
  have c2:gt .i64 ((i:Int)+1)=((i+1:Nat):Int):=by rw [ac (by omega) (by omega)];omega
  have hp:=hs _ (DL hi)
  have ht:=tk i
  have c3:gt .i64 (((l.take i).flatten.length:Int)+(l[i].length:Int))=(((l.take (i+1)).flatten.length:Nat):Int):=by rw [ac (by omega) (by omega),hsn i hi,Ds];omega
  simp only [bu,c1,decide_true,cond_true,a7 l i hi,ne,c3,c2]) (fun X=>by
  simp [bu]) N 0 (by omega) (by omega)
 have h2:=cz (G:=fun (X:((List (List Int)×Int×Int×Unit)×Arr Int 16×List Int×Unit)→Option (Unit×Arr Int 16×List Int×Unit)) c=>br N X c.1.1 c.1.2.1 c.1.2.2.1 c.2.1 c.2.2.1)
  (fun i=>((l,((l.length:Int),((i:Int),()))),(h0,((l.take i).flatten,())))) l.length ((),(h0,(l.flatten,()))) (fun X i hi=>by
  have c1:((i:Int)<(l.length:Int)):=by omega
  have c2:gt .i64 ((i:Int)+1)=((i+1:Nat):Int):=by rw [ac (by omega) (by omega)];omega
  have hp:=hs _ (DL hi)
  have ht:=tk i
  have c3:ae ((l.take i).flatten.length+l[i].length) 1=true:=aC (by have:=aJ;omega) (by omega)
  simp only [br,c1,decide_true,cond_true,a7 l i hi,ne,c3,c2,hsn i hi]) (fun X=>by
  simp [br]) N 0 (by omega) (by omega)
 simp only [D8,List.take_zero,List.flatten_nil,D3] at h1 h2
 exact ⟨h1,h2⟩
theorem air (n:Int)(h:0≤n∧n<4294967296)(hN:100≤N):cm N (gt .u64 n) 4 true=some ([n % 256,n / 256 % 256,n / 65536 % 256,n / 16777216 % 256],0):=by
 rw [aK (by omega) (by omega)]
 show adi N n 4 true=_
 obtain ⟨M,rfl⟩:∃ M,N=M+5:=⟨N-5,by omega⟩
 have r1:ae (Dp 4) 1=true:=by decide
 have r2:Do (Dp 4) (0:Int)=[0,0,0,0]:=rfl
 have w3:gt .i64 ((0:Int)+1)=1:=by decide
 have w4:gt .i64 ((1:Int)+1)=2:=by decide
 have w5:gt .i64 ((2:Int)+1)=3:=by decide
 have w6:gt .i64 ((3:Int)+1)=4:=by decide
 have e1:(2:Int) ^ min (Dp 8) (Dr DM)=256:=by decide
 have d1:DA n 256=n / 256:=DJ n (by decide)
 have d2:DA (n / 256) 256=n / 65536:=by rw [DJ _ (by decide)];omega
 have d3:DA (n / 65536) 256=n / 16777216:=by rw [DJ _ (by decide)];omega
 have w7:gt .u8 n=n % 256:=by rw [DT]
 have w8:gt .u8 (n / 256)=n / 256 % 256:=by rw [DT]
 have w9:gt .u8 (n / 65536)=n / 65536 % 256:=by rw [DT]
 have w10:gt .u8 (n / 16777216)=n / 16777216 % 256:=by rw [DT]
 simp only [adi,sH,gl,xK,pu,r1,r2,e1,cond_false,cond_true,ne,w3,w4,w5,w6]
 simp [w3,w4,w5,w6,d1,d2,d3,w7,w8,w9,w10]
def by4 (n:Int):List Int:=[n % 256,n / 256 % 256,n / 65536 % 256,n / 16777216 % 256]
theorem by4_B (n:Int):AllB (by4 n):=fun x hx=>by
 simp only [by4,DY,DV,or_false] at hx
 rcases hx with rfl | rfl | rfl | rfl <;> omega
theorem digest_ok (a b c d:Int)(ht:([a,b,c,d]:List Int).length=4)(ha:AllW [a,b,c,d])(hN:10000≤N):∃ D:Arr Int 16,D.l=by4 a++by4 b++by4 c++by4 d∧lE N ⟨[a,b,c,d],ht⟩=some D:=by
 obtain ⟨M,rfl⟩:∃ M,N=M+6:=⟨N-6,by omega⟩
 have pa:=air (N:=M+6) a (ha a (by simp)) (by omega)
 have pb:=air (N:=M+6) b (ha b (by simp)) (by omega)
 have pc:=air (N:=M+6) c (ha c (by simp)) (by omega)
 have pd:=air (N:=M+6) d (ha d (by simp)) (by omega)
 have w3:gt .i64 ((0:Int)+1)=1:=by decide
 have w4:gt .i64 ((1:Int)+1)=2:=by decide
 have w5:gt .i64 ((2:Int)+1)=3:=by decide
 have w6:gt .i64 ((3:Int)+1)=4:=by decide
 have z0:getI ([a,b,c,d]:List Int) 0=some a:=rfl
 have z1:getI ([a,b,c,d]:List Int) 1=some b:=rfl
 have z2:getI ([a,b,c,d]:List Int) 2=some c:=rfl
 have z3:getI ([a,b,c,d]:List Int) 3=some d:=rfl
 have l0:(decide ((0:Int)<4))=true:=rfl
 have l1:(decide ((1:Int)<4))=true:=rfl
 have l2:(decide ((2:Int)<4))=true:=rfl
 have l3:(decide ((3:Int)<4))=true:=rfl
 have rm:∀ (p:List Int) (u v x y:Int),p.length<100→ae (p.length+([u,v,x,y]:List Int).length) 1=true:=fun p u v x y hp=>aC (by have:=aJ;simp;omega) (by simp;omega)
 have step:∀ (K:Nat) (i j:Int) (n:Int) (p:List Int) (h0:Arr Int 16),decide (i<4)=true→getI ([a,b,c,d]:List Int) i=some n→cm (M+6) (gt .u64 n) 4 true=some (by4 n,0)→gt .i64 (i+1)=j→p.length<100→
   gl (fun X c=>dG (M+6) X c.1.1 c.1.2.1 c.2.1 c.2.2.1) (K+1) (((⟨[a,b,c,d],ht⟩:Arr Int 4),(i,())),(h0,(p,())))=gl (fun X c=>dG (M+6) X c.1.1 c.1.2.1 c.2.1 c.2.2.1) K (((⟨[a,b,c,d],ht⟩:Arr Int 4),(j,())),(h0,(p++by4 n,()))):=fun K i j n p h0 q1 q2 q3 q4 q5=>by
  rw [ah]
  have r:=rm p (n % 256) (n / 256 % 256) (n / 65536 % 256) (n / 16777216 % 256) q5
  have r:ae (p.length+(by4 n).length) 1=true:=r
  simp only [dG,q1,cond_true,q2,ne,q3,r,q4]
 have fin:∀ (K:Nat) (p:List Int) (h0:Arr Int 16),gl (fun X c=>dG (M+6) X c.1.1 c.1.2.1 c.2.1 c.2.2.1) (K+1) (((⟨[a,b,c,d],ht⟩:Arr Int 4),((4:Int),())),(h0,(p,())))=some ((),(h0,(p,()))):=fun K p h0=>by
  rw [ah];rfl
 have all:∀ h0:Arr Int 16,nM (M+6) (((⟨[a,b,c,d],ht⟩:Arr Int 4),((0:Int),())),(h0,(([]:List Int),())))=some ((),(h0,(by4 a++by4 b++by4 c++by4 d,()))):=fun h0=>by
  refine (step (M+5) 0 1 a [] h0 l0 z0 pa w3 (by simp)).trans ?_
  refine (step (M+4) 1 2 b _ h0 l1 z1 pb w4 (by simp [by4])).trans ?_
  refine (step (M+3) 2 3 c _ h0 l2 z2 pc w5 (by simp [by4])).trans ?_
  refine (step (M+2) 3 4 d _ h0 l3 z3 pd w6 (by simp [by4])).trans ?_
  exact fin (M+1) _ h0
 have hl:(by4 a++by4 b++by4 c++by4 d).length=16:=by simp [by4]
 unfold lE
 rw [all,ne]
 refine ⟨⟨(by4 a++by4 b++by4 c++by4 d).take 16,by rw [Dx,hl];rfl⟩, ?_, ?_⟩
 ·exact DK (by omega)
 ·have:dA 16 (by4 a++by4 b++by4 c++by4 d)=some ⟨(by4 a++by4 b++by4 c++by4 d).take 16,by rw [Dx,hl];rfl⟩:=dif_pos (by omega)
  simp only [this,ne]
end
theorem Arr.eq {α:Type}{n:Nat}{a b:Arr α n}(h:a.l=b.l):a=b:=by
 cases a;cases b;simp only at h;subst h;rfl
noncomputable def stepB (N:Nat)(t:Arr Int 4)(l:List Int):Option (Arr Int 4):=(dA 64 l).bind fun a=>gL N t a ks04
noncomputable def runB (N:Nat):Nat→Arr Int 4→List Int→Option (Arr Int 4)
 | 0,t,_=>some t
 | m+1,t,l=>(stepB N t (l.take 64)).bind fun t'=>runB N m t' (l.drop 64)
theorem toArr64 (l:List Int)(h:64≤l.length):∃ a:Arr Int 64,a.l=l.take 64∧dA 64 (l.take 64)=some a:=by
 have h1:64≤(l.take 64).length:=by rw [Dx];omega
 refine ⟨⟨(l.take 64).take 64,by rw [Dx];omega⟩, ?_,dif_pos h1⟩
 exact DK (by rw [Dx];omega)
section
variable {N:Nat}
theorem runB_some (hN:10000≤N):∀ (m:Nat) (t:Arr Int 4) (l:List Int),AllW t.l→AllB l→l.length=64*m→∃ t',AllW t'.l∧runB N m t l=some t'
 | 0,t,l,ht,_,_=>⟨t,ht,rfl⟩
 | m+1,t,l,ht,hl,hm=>by
  obtain ⟨a,a1,a2⟩:=toArr64 l (by omega)
  obtain ⟨t1,h1,h2,_⟩:=behind_pair (N:=N) hN t a ht (by rw [a1];exact hl.take 64)
  obtain ⟨t',h3,h4⟩:=runB_some hN m t1 (l.drop 64) h1 (hl.drop 64) (by rw [Du];omega)
  refine ⟨t',h3, ?_⟩
  unfold runB stepB
  rw [a2,ne,h2,ne,h4]
theorem loopOf (hN:10000≤N)(all:List Int)(ha:all.length<100000)(h0:Arr Int 16):∀ (m M i:Nat) (t t':Arr Int 4),m<M→all.length=i+64*m→runB N m t (all.drop i)=some t'→
  gl (fun X c=>lF N X c.1.1 c.1.2.1 c.2.1 c.2.2.1 c.2.2.2.1) M ((all,((i:Int),())),(h0,(t,(ks04,()))))=some ((),(h0,(t',())))
 | 0,M+1,i,t,t',hM,hi,hr=>by
  have c1:¬ ((i:Int)<(all.length:Int)):=by omega
  have hr:some t=some t':=hr
  injection hr with hr
  subst hr
  rw [ah]
  simp only [lF,c1,decide_false,cond_false]
 | m+1,M+1,i,t,t',hM,hi,hr=>by
  have c1:((i:Int)<(all.length:Int)):=by omega
  have e0:gt .i64 ((i:Int)+64)=((i+64:Nat):Int):=by rw [ac (by omega) (by omega)];omega
  have s1:subI all (i:Int) ((i+64:Nat):Int)=some ((all.drop i).take 64):=by
   rw [gS all rfl rfl (by omega) (by omega)];congr 2;omega
  unfold runB stepB at hr
  cases hb:dA 64 ((all.drop i).take 64) with
  | none=>rw [hb] at hr;cases hr
  | some a=>
   rw [hb,ne] at hr
   cases hc:gL N t a ks04 with
   | none=>rw [hc] at hr;cases hr
   | some t1=>
    rw [hc,ne,D7] at hr
    have ih:=loopOf hN all ha h0 m M (i+64) t1 t' (by omega) (by omega) (by rw [show i+64=i+64 from rfl];exact hr)
    rw [ah]
    simp only [lF,c1,decide_true,cond_true,e0,s1,ne,hb,hc]
    exact ih
theorem fillOf (hN:10000≤N)(all:List Int)(ha:all.length<100000)(h0:Arr Int 16)(t:Arr Int 4)(x:Nat)(hx:x+64≤all.length):∀ (k M i:Nat) (blk:Arr Int 64),k+i=64→k<M→
  ∃ b2:Arr Int 64,b2.l=blk.l.take i++(all.drop (x+i)).take k∧gl (fun X c=>gB N X c.1.1 c.1.2.1 c.2.1 c.2.2.1 c.2.2.2.1 c.2.2.2.2.1) M (((x:Int),((i:Int),())),(h0,(all,(t,(blk,())))))=some (((x:Int),()),(h0,(all,(t,(b2,())))))
 | 0,M+1,i,blk,hk,hM=>by
  have c1:¬ ((i:Int)<64):=by omega
  refine ⟨blk, ?_, ?_⟩
  ·rw [DK (by rw [blk.h];omega),List.take_zero,DS]
  ·rw [ah]
   simp only [gB,c1,decide_false,cond_false]
 | k+1,M+1,i,blk,hk,hM=>by
  have hbl:=blk.h
  have c1:((i:Int)<64):=by omega
  have e0:gt .i64 ((i:Int)+1)=((i+1:Nat):Int):=by rw [ac (by omega) (by omega)];omega
  have e2:gt .i64 ((x:Int)+(i:Int))=((x+i:Nat):Int):=by rw [ac (by omega) (by omega)];omega
  have c2:(0:Int)≤((x+i:Nat):Int)∧((x+i:Nat):Int)<(all.length:Int):=by omega
  have c3:(0:Int)≤(i:Int)∧(i:Int)<((64:Nat):Int):=by omega
  have e1:Dp (i:Int)=i:=Dq i
  have e3:Dp ((x+i:Nat):Int)=x+i:=Dq _
  have g1:all[x+i]? =some (all[x+i]'(by omega)):=List.getElem?_eq_getElem _
  have g2:blk.l[i]? =some (blk.l[i]'(by omega)):=List.getElem?_eq_getElem _
  obtain ⟨b2,h1,h2⟩:=fillOf hN all ha h0 t x hx k M (i+1) (blk.set i (all[x+i]'(by omega))) (by omega) (by omega)
  refine ⟨b2, ?_, ?_⟩
  ·rw [h1]
   have q1:(blk.set i (all[x+i]'(by omega))).l.take (i+1)=blk.l.take i++[all[x+i]'(by omega)]:=by
    show (blk.l.set i _).take (i+1)=_
    rw [D6,Ei (DW _),List.getElem?_set_self (by omega)]
    rfl
   rw [q1,DE]
   congr 1
   rw [Dv (show x+i<all.length by omega),List.take_succ_cons]
   rfl
  ·rw [ah]
   simp only [gB,c1,decide_true,cond_true,e2,c2,and_self,e3,g1,ne,c3,e1,g2,e0]
   exact h2
theorem loopRef (hN:10000≤N)(all:List Int)(ha:all.length<100000)(hB:AllB all)(h0:Arr Int 16):∀ (m M i:Nat) (t t':Arr Int 4),m<M→all.length=i+64*m→AllW t.l→runB N m t (all.drop i)=some t'→
  gl (fun X c=>gC N X c.1.1 c.2.1 c.2.2.1 c.2.2.2.1) M (((i:Int),()),(h0,(all,(t,()))))=some ((),(h0,(t',())))
 | 0,M+1,i,t,t',hM,hi,hw,hr=>by
  have c1:¬ ((i:Int)<(all.length:Int)):=by omega
  have hr:some t=some t':=hr
  injection hr with hr
  subst hr
  rw [ah]
  simp only [gC,c1,decide_false,cond_false]
 | m+1,M+1,i,t,t',hM,hi,hw,hr=>by
  have c1:((i:Int)<(all.length:Int)):=by omega
  have e0:gt .i64 ((i:Int)+64)=((i+64:Nat):Int):=by rw [ac (by omega) (by omega)];omega
  obtain ⟨b2,f1,f2⟩:=fillOf (N:=N) hN all ha h0 t i (by omega) 64 N 0 ⟨Do 64 0,rfl⟩ (by omega) (by omega)
  have f2':pZ N (((i:Int),((0:Int),())),(h0,(all,(t,((⟨Do 64 0,rfl⟩:Arr Int 64),())))))=some (((i:Int),()),(h0,(all,(t,(b2,()))))):=f2
  have f1':b2.l=(all.drop i).take 64:=by rw [f1];simp
  obtain ⟨a,a1,a2⟩:=toArr64 (all.drop i) (by rw [Du];omega)
  have hab:a=b2:=Arr.eq (by rw [a1,f1'])
  subst hab
  obtain ⟨t1,h1,h2,h3⟩:=behind_pair (N:=N) hN t a hw (by rw [a1];exact (hB.drop i).take 64)
  unfold runB stepB at hr
  rw [a2,ne,h2,ne,D7] at hr
  have ih:=loopRef hN all ha hB h0 m M (i+64) t1 t' (by omega) (by omega) h1 hr
  rw [ah]
  simp only [gC,c1,decide_true,cond_true]
  refine (congrArg (fun o=>Dt o _) f2').trans ?_
  simp only [ne,h3,e0]
  exact ih
def dg4 (a b c d:Int):List Int:=by4 a++by4 b++by4 c++by4 d
theorem asp (a b c d:Int):AllB (dg4 a b c d):=DZ (DZ (DZ (by4_B a) (by4_B b)) (by4_B c)) (by4_B d)
theorem aqF (a b c d:Int)(i:Nat)(hi:i<16)(v:Int)(hv:([a,b,c,d]:List Int)[i / 4]? =some v):(dg4 a b c d)[i]? =some (gt .u8 (DA v (2 ^ (8*(i % 4))))):=by
 have fd:∀ k:Nat,DA v (2 ^ k)=v / 2 ^ k:=fun k=>DJ _ (Int.le_of_lt (Int.pow_pos (by decide)))
 rw [fd,DT]
 have:i=0∨i=1∨i=2∨i=3∨i=4∨i=5∨i=6∨i=7∨i=8∨i=9∨i=10∨i=11∨i=12∨i=13∨i=14∨i=15:=by omega
 rcases this with rfl | rfl | rfl | rfl | rfl | rfl | rfl | rfl | rfl | rfl | rfl | rfl | rfl | rfl | rfl | rfl <;> simp at hv <;> subst hv <;> simp [dg4,by4]
theorem outRef (hN:10000≤N)(a b c d:Int)(ht:([a,b,c,d]:List Int).length=4)(h0:Arr Int 16):∀ (k M i:Nat) (o:Arr Int 16),k+i=16→k<M→
  ∃ D:Arr Int 16,D.l=o.l.take i++(dg4 a b c d).drop i∧gl (fun X c=>fp N X c.1.1 c.2.1 c.2.2.1 c.2.2.2.1) M (((i:Int),()),(h0,((⟨[a,b,c,d],ht⟩:Arr Int 4),(o,()))))=some ((),(h0,(D,())))
 | 0,M+1,i,o,hk,hM=>by
  have c1:¬ ((i:Int)<16):=by omega
  have hol:=o.h
  refine ⟨o, ?_, ?_⟩
  ·rw [DK (by omega),DR (by simp [dg4,by4];omega),DS]
  ·rw [ah]
   simp only [fp,c1,decide_false,cond_false]
 | k+1,M+1,i,o,hk,hM=>by
  have hol:=o.h
  have c1:((i:Int)<16):=by omega
  have e0:gt .i64 ((i:Int)+1)=((i+1:Nat):Int):=by rw [ac (by omega) (by omega)];omega
  have f1:gt .i64 (Ej (i:Int) 4)=((i / 4:Nat):Int):=by
   rw [DF (by omega),ac (by omega) (by omega)];omega
  have f0:gt .i64 ((8:Int)*DQ (i:Int) 4)=((8*(i % 4):Nat):Int):=by
   rw [Dy (by omega),ac (by omega) (by omega)];omega
  have c2:(0:Int)≤((i / 4:Nat):Int)∧((i / 4:Nat):Int)<((4:Nat):Int):=by omega
  have c3:(0:Int)≤((8*(i % 4):Nat):Int):=by omega
  have c4:(0:Int)≤(i:Int)∧(i:Int)<((16:Nat):Int):=by omega
  have e1:Dp (i:Int)=i:=Dq i
  have e2:Dp ((i / 4:Nat):Int)=i / 4:=Dq _
  have e3:min (Dp ((8*(i % 4):Nat):Int)) (Dr .u32)=8*(i % 4):=by
   rw [Dq];show min _ 32=_;omega
  have g1:([a,b,c,d]:List Int)[i / 4]? =some (([a,b,c,d]:List Int)[i / 4]'(by simp;omega)):=List.getElem?_eq_getElem _
  have g2:o.l[i]? =some (o.l[i]'(by omega)):=List.getElem?_eq_getElem _
  have hd:=aqF a b c d i (by omega) _ g1
  generalize ([a,b,c,d]:List Int)[i / 4]'(by simp;omega)=v at *
  obtain ⟨D,h1,h2⟩:=outRef hN a b c d ht h0 k M (i+1) (o.set i (gt .u8 (DA v (2 ^ (8*(i % 4)))))) (by omega) (by omega)
  refine ⟨D, ?_, ?_⟩
  ·rw [h1]
   have q1:(o.set i (gt .u8 (DA v (2 ^ (8*(i % 4)))))).l.take (i+1)=o.l.take i++[gt .u8 (DA v (2 ^ (8*(i % 4))))]:=by
    show (o.l.set i _).take (i+1)=_
    rw [D6,Ei (DW _),List.getElem?_set_self (by omega)]
    rfl
   rw [q1,DE]
   congr 1
   obtain ⟨hlt,hv⟩:=List.getElem?_eq_some_iff.1 hd
   rw [Dv hlt,hv]
   rfl
  ·rw [ah]
   simp only [fp,c1,decide_true,cond_true,f1,c2,and_self,e2,g1,ne,f0,c3,c4,e1,g2,e0,e3]
   exact h2
end
def mz:Arr Int 4:=DB 1732584193 (DB 4023233417 (DB 2562383102 (DB 271733878 Arr.nil)))
theorem first_W:AllW mz.l:=fun x hx=>by
 simp only [mz,DB,Arr.nil,DY,DV,or_false] at hx
 rcases hx with rfl | rfl | rfl | rfl <;> omega
def nb (n:Nat):Nat:=(n+(pn (n:Int)).length) / 64
theorem nb_ok (n:Nat)(l:List Int)(h:l.length=n):(l++pn (n:Int)).length=64*nb n:=by
 unfold nb
 rw [Ds,s8,h]
 unfold nz
 omega
theorem of_ok (l:List (List Int))(hl:l.length≤1000)(hs:∀ p∈l,p.length≤5000∧AllB p)(hf:l.flatten.length≤5000):
  ∃ a b c d ht,∃ D:Arr Int 16,runB 200000 (nb l.flatten.length) mz (l.flatten++pn (l.flatten.length:Int))=some ⟨[a,b,c,d],ht⟩∧AllW [a,b,c,d]∧D.l=dg4 a b c d∧rQ 200000 l=some D:=by
 have hB:AllB l.flatten:=fun x hx=>by
  obtain ⟨p,hp,hx⟩:=List.mem_flatten.1 hx
  exact (hs p hp).2 x hx
 have hall:AllB (l.flatten++pn (l.flatten.length:Int)):=hB.append (aev _)
 have hlen:=nb_ok l.flatten.length l.flatten rfl
 have htl:=s8 (l.flatten.length:Int)
 have hnz:=nz_lt (l.flatten.length:Int)
 obtain ⟨t',t1,t2⟩:=runB_some (N:=200000) (by omega) (nb l.flatten.length) mz _ first_W hall hlen
 match t',t1,t2 with
 | ⟨[a,b,c,d],ht⟩,t1,t2=>
  obtain ⟨D,d1,d2⟩:=digest_ok (N:=200000) a b c d ht t1 (by omega)
  refine ⟨a,b,c,d,ht,D,t2,t1,d1, ?_⟩
  have hj:∀ h0,_:=fun h0=>joinS (N:=200000) l h0 hl (fun p hp=>by have:=(hs p hp).1;omega) (by omega)
  have hwn:gt .u64 (l.flatten.length:Int)=(l.flatten.length:Int):=aK (by omega) (by omega)
  have htail:=BK (N:=200000) (l.flatten.length:Int) (by omega) (by omega)
  have c4:(decide ((0:Int)≤(0:Int)∧(0:Int)≤(l.flatten.length:Int))&&ae (Dp (l.flatten.length:Int)) 1)=true:=by
   rw [DO]
   exact ⟨decide_eq_true ⟨by omega,by omega⟩,aC (by have:=aJ;omega) (by omega)⟩
  have c5:ae (l.flatten.length+(pn (l.flatten.length:Int)).length) 1=true:=aC (by have:=aJ;omega) (by omega)
  have hloop:∀ h0,uh 200000 (((l.flatten++pn (l.flatten.length:Int)),((0:Int),())),(h0,(mz,(ks04,()))))=some ((),(h0,((⟨[a,b,c,d],ht⟩:Arr Int 4),()))):=fun h0=>
   loopOf (N:=200000) (by omega) _ (by rw [Ds];omega) h0 (nb l.flatten.length) 200000 0 mz _ (by rw [Ds] at hlen;omega) (by rw [hlen];omega) t2
  have e0:Do (Dp 0) (0:Int)=[]:=rfl
  unfold rQ
  rw [(hj _).1,ne]
  simp only [c4,cond_true,e0]
  rw [(hj _).2,ne]
  simp only [hwn]
  rw [htail,ne]
  simp only [c5,cond_true,ajj,ne]
  refine (congrArg (fun o=>Dt o _) (hloop _)).trans ?_
  simp only [ne,d2]
theorem refOf_ok (b:List Int)(hb:AllB b)(hl:b.length≤1000){a c d e:Int}{ht:([a,c,d,e]:List Int).length=4}(hr:runB 200000 (nb b.length) mz (b++pn (b.length:Int))=some ⟨[a,c,d,e],ht⟩):
  ∃ D:Arr Int 16,D.l=dg4 a c d e∧jZ 200000 b=some D:=by
 have htl:=s8 (b.length:Int)
 have hnz:=nz_lt (b.length:Int)
 have hlen:=nb_ok b.length b rfl
 have hwn:gt .u64 (b.length:Int)=(b.length:Int):=aK (by omega) (by omega)
 have htail:=vg (N:=200000) (b.length:Int) (by omega) (by omega)
 have c0:ae b.length 1=true:=aC (by have:=aJ;omega) (by omega)
 have c5:ae (b.length+(pn (b.length:Int)).length) 1=true:=aC (by have:=aJ;omega) (by omega)
 obtain ⟨D,d1,d2⟩:=outRef (N:=200000) (by omega) a c d e ht ⟨Do 16 0,rfl⟩ 16 200000 0 ⟨Do 16 0,rfl⟩ (by omega) (by omega)
 have hloop:qa 200000 (((0:Int),()),((⟨Do 16 0,rfl⟩:Arr Int 16),((b++pn (b.length:Int)),(mz,()))))=some ((),((⟨Do 16 0,rfl⟩:Arr Int 16),((⟨[a,c,d,e],ht⟩:Arr Int 4),()))):=
  loopRef (N:=200000) (by omega) _ (by rw [Ds];omega) (hb.append (aev _)) _ (nb b.length) 200000 0 mz _ (by rw [Ds] at hlen;omega) (by rw [hlen];omega) first_W hr
 have hout:o8 200000 (((0:Int),()),((⟨Do 16 0,rfl⟩:Arr Int 16),((⟨[a,c,d,e],ht⟩:Arr Int 4),((⟨Do 16 0,rfl⟩:Arr Int 16),()))))=some ((),((⟨Do 16 0,rfl⟩:Arr Int 16),(D,()))):=d2
 refine ⟨D,by simpa using d1, ?_⟩
 unfold jZ
 simp only [c0,cond_true,hwn,htail,ne,c5]
 refine (congrArg (fun o=>Dt o _) hloop).trans ?_
 simp only [ne]
 refine (congrArg (fun o=>Dt o _) hout).trans ?_
 rfl
theorem wfB_b {n:Nat}(a:Arr Int n)(h:AllB a.l):wfB (.arr n (.int .u8)) a=true:=List.all_eq_true.2 fun x hx=>by
 have h1:=h x hx
 show (Lit.int .u8 x).wf=true
 simp only [Lit.wf,DO,decide_eq_true_eq,IntKind.min,IntKind.max,IntKind.signed,Dr]
 simp
 omega
end Go.Proofs.YtllpjoggnfclgaaGreatDoor
namespace Go.Proofs.YtllpjoggnfclgaaGreatDoor.Sh
set_option maxRecDepth 100000
set_option maxRecDepth 100000
theorem aji:gT 200000=some (DB 1518500249 (DB 1859775393 (DB 2400959708 (DB 3395469782 Arr.nil)))):=by kernel_rfl
end Go.Proofs.YtllpjoggnfclgaaGreatDoor.Sh
namespace Go.Proofs.YtllpjoggnfclgaaGreatDoor.Sh
set_option maxRecDepth 100000
open Go.RowKit
set_option linter.unusedVariables false
set_option linter.unusedSimpArgs false
set_option maxRecDepth 100000
def AllW (l:List Int):Prop:=∀ x∈l,0≤x∧x<4294967296
theorem AllW.get {l:List Int}(h:AllW l)(i:Nat)(hi:i<l.length):0≤l[i]∧l[i]<4294967296:=h _ (DL hi)
theorem AllW.set {l:List Int}(h:AllW l)(i:Nat){x:Int}(hx:0≤x∧x<4294967296):AllW (l.set i x):=fun y hy=>by
 rcases List.mem_or_eq_of_mem_set hy with h1 | rfl
 ·exact h y h1
 ·exact hx
theorem w32 (x:Int):gt .u32 x=x % 4294967296:=Eg x
theorem w32r (x:Int):0≤gt .u32 x∧gt .u32 x<4294967296:=by rw [w32];omega
theorem or32r (a b:Int):0≤bits .or .u32 a b∧bits .or .u32 a b<4294967296:=w32r _
theorem not32 (b:Int)(h:0≤b∧b<4294967296):bits .xor .u32 (if IntKind.signed .u32=true then (-1) else IntKind.max .u32) b=gt .u32 (4294967295-b):=by
 obtain ⟨x,rfl⟩:=Int.eq_ofNat_of_zero_le h.1
 show IntKind.u32.wrap ((D9 32 4294967295 ^^^ D9 32 (x:Int)).toNat:Int)=_
 have e1:(D9 32 4294967295:BitVec 32)=BitVec.allOnes 32:=by decide
 rw [e1,BitVec.allOnes_xor,BitVec.toNat_not,BitVec.ofInt_natCast,BitVec.toNat_ofNat,w32,w32]
 have:x % 2 ^ 32=x:=Nat.mod_eq_of_lt (by omega)
 rw [this]
 omega
theorem drop4 (l:List Int)(i:Nat)(h:i+4≤l.length):(l.drop i).take (i+4-i)=[l[i],l[i+1],l[i+2],l[i+3]]:=by
 rw [show i+4-i=4 by omega,Dv (by omega),Dv (by omega),Dv (by omega),Dv (by omega)]
 rfl
section
variable {N:Nat}
theorem asl (x y z u:Int)(hx:0≤x∧x<256)(hy:0≤y∧y<256)(hz:0≤z∧z<256)(hu:0≤u∧u<256)(hN:100≤N):gU N [x,y,z,u] false=some (((x*256+y)*256+z)*256+u,0):=get4 x y z u hx hy hz hu hN
theorem q1:(2:Int) ^ min (Dp (bits .and .u64 (gt .u64 1) 31)) (Dr .u32)=2:=by decide +kernel
theorem q2:(2:Int) ^ min (Dp (gt .u64 (32-bits .and .u64 (gt .u64 1) 31))) (Dr .u32)=2147483648:=by decide +kernel
theorem q3:(2:Int) ^ min (Dp 1) (Dr .u32)=2:=by decide +kernel
theorem q4:(2:Int) ^ min (Dp (gt .i64 (32-1))) (Dr .u32)=2147483648:=by decide +kernel
theorem qO (hN:10000≤N)(b:Arr Int 64)(hb:AllB b.l)(s:Arr Int 5)(h0:Arr Int 80)(h0':Arr Int 5):∀ (k M i:Nat) (h1:Arr Int 80),k+i=80→k<M→AllW h1.l→
  ∃ h2:Arr Int 80,AllW h2.l∧gl (fun X c=>dB N X c.1.1 c.1.2.1 c.2.1 c.2.2.1) M ((b,((i:Int),())),(h0,(h1,())))=some ((),(h0,(h2,())))∧
   gl (fun X c=>cR N X c.1.1 c.1.2.1 c.1.2.2.1 c.2.1 c.2.2.1) M ((s,(b,((i:Int),()))),(h0',(h1,())))=some ((s,()),(h0',(h2,())))
 | 0,M+1,i,h1,hk,hM,hw=>by
  have c1:¬ ((i:Int)<80):=by omega
  refine ⟨h1,hw, ?_, ?_⟩
  ·simp only [gl,dB,c1,decide_false,cond_false]
  ·simp only [gl,cR,c1,decide_false,cond_false]
 | k+1,M+1,i,h1,hk,hM,hw=>by
  have hl:=h1.h
  have hbl:=b.h
  have c1:((i:Int)<80):=by omega
  have c2:(0:Int)≤(i:Int)∧(i:Int)<((80:Nat):Int):=by omega
  have e0:gt .i64 ((i:Int)+1)=((i+1:Nat):Int):=by rw [ac (by omega) (by omega)];omega
  have e1:Dp (i:Int)=i:=Dq i
  have g1:h1.l[i]? =some (h1.l[i]'(by omega)):=List.getElem?_eq_getElem _
  by_cases h16:i<16
  ·have c3:((i:Int)<16):=by omega
   have s1:gt .i64 ((4:Int)*(i:Int))=((4*i:Nat):Int):=by rw [ac (by omega) (by omega)];omega
   have s2:gt .i64 (((4*i:Nat):Int)+4)=((4*i+4:Nat):Int):=by rw [ac (by omega) (by omega)];omega
   have s3:gt .i64 (((4*i:Nat):Int)+1)=((4*i+1:Nat):Int):=by rw [ac (by omega) (by omega)];omega
   have s4:gt .i64 (((4*i:Nat):Int)+2)=((4*i+2:Nat):Int):=by rw [ac (by omega) (by omega)];omega
   have s5:gt .i64 (((4*i:Nat):Int)+3)=((4*i+3:Nat):Int):=by rw [ac (by omega) (by omega)];omega
   have s6:subI b.l ((4*i:Nat):Int) ((4*i+4:Nat):Int)=some [b.l[4*i]'(by omega),b.l[4*i+1]'(by omega),b.l[4*i+2]'(by omega),b.l[4*i+3]'(by omega)]:=by
    rw [gS b.l rfl rfl (by omega) (by omega),drop4 b.l (4*i) (by omega)]
   have ba:=hb.get (4*i) (by omega)
   have bb:=hb.get (4*i+1) (by omega)
   have bc:=hb.get (4*i+2) (by omega)
   have bd:=hb.get (4*i+3) (by omega)
   have s7:=asl (N:=N) _ _ _ _ ba bb bc bd (by omega)
   have G0:=a7 b.l (4*i) (by omega)
   have G1:=a7 b.l (4*i+1) (by omega)
   have G2:=a7 b.l (4*i+2) (by omega)
   have G3:=a7 b.l (4*i+3) (by omega)
   generalize hx:b.l[4*i]'(by omega)=x at *
   generalize hy:b.l[4*i+1]'(by omega)=y at *
   generalize hz:b.l[4*i+2]'(by omega)=z at *
   generalize hu:b.l[4*i+3]'(by omega)=u at *
   have v1:gt .u32 (((x*256+y)*256+z)*256+u)=((x*256+y)*256+z)*256+u:=by rw [w32];omega
   have v2:gt .u32 (gt .u32 (gt .u32 (gt .u32 (gt .u32 x*16777216)+gt .u32 (gt .u32 y*65536))+gt .u32 (gt .u32 z*256))+gt .u32 u)=((x*256+y)*256+z)*256+u:=by
    simp only [w32];omega
   obtain ⟨h2,r1,r2,r3⟩:=qO hN b hb s h0 h0' k M (i+1) (h1.set i (((x*256+y)*256+z)*256+u)) (by omega) (by omega) (hw.set i (by omega))
   refine ⟨h2,r1, ?_, ?_⟩
   ·rw [ah]
    simp only [dB,c1,c3,decide_true,cond_true,s1,s2,s6,ne,s7,c2,and_self,e1,g1,e0,v1]
    exact r2
   ·rw [ah]
    simp only [cR,c1,c3,decide_true,cond_true,s1,s3,s4,s5,G0,G1,G2,G3,ne,c2,and_self,e1,g1,e0,v2]
    exact r3
  ·have c3:¬ ((i:Int)<16):=by omega
   have t1:gt .i64 ((i:Int)-3)=((i-3:Nat):Int):=by rw [ac (by omega) (by omega)];omega
   have t2:gt .i64 ((i:Int)-8)=((i-8:Nat):Int):=by rw [ac (by omega) (by omega)];omega
   have t3:gt .i64 ((i:Int)-14)=((i-14:Nat):Int):=by rw [ac (by omega) (by omega)];omega
   have t4:gt .i64 ((i:Int)-16)=((i-16:Nat):Int):=by rw [ac (by omega) (by omega)];omega
   have d1:(0:Int)≤((i-3:Nat):Int)∧((i-3:Nat):Int)<((80:Nat):Int):=by omega
   have d2:(0:Int)≤((i-8:Nat):Int)∧((i-8:Nat):Int)<((80:Nat):Int):=by omega
   have d3:(0:Int)≤((i-14:Nat):Int)∧((i-14:Nat):Int)<((80:Nat):Int):=by omega
   have d4:(0:Int)≤((i-16:Nat):Int)∧((i-16:Nat):Int)<((80:Nat):Int):=by omega
   have f1:Dp ((i-3:Nat):Int)=i-3:=Dq _
   have f2:Dp ((i-8:Nat):Int)=i-8:=Dq _
   have f3:Dp ((i-14:Nat):Int)=i-14:=Dq _
   have f4:Dp ((i-16:Nat):Int)=i-16:=Dq _
   have g2:h1.l[i-3]? =some (h1.l[i-3]'(by omega)):=List.getElem?_eq_getElem _
   have g3:h1.l[i-8]? =some (h1.l[i-8]'(by omega)):=List.getElem?_eq_getElem _
   have g4:h1.l[i-14]? =some (h1.l[i-14]'(by omega)):=List.getElem?_eq_getElem _
   have g5:h1.l[i-16]? =some (h1.l[i-16]'(by omega)):=List.getElem?_eq_getElem _
   generalize h1.l[i-3]'(by omega)=x at *
   generalize h1.l[i-8]'(by omega)=y at *
   generalize h1.l[i-14]'(by omega)=z at *
   generalize h1.l[i-16]'(by omega)=u at *
   obtain ⟨h2,r1,r2,r3⟩:=qO hN b hb s h0 h0' k M (i+1) (h1.set i (bits .or .u32 (gt .u32 (bits .xor .u32 (bits .xor .u32 (bits .xor .u32 x y) z) u*2)) (DA (bits .xor .u32 (bits .xor .u32 (bits .xor .u32 x y) z) u) 2147483648))) (by omega) (by omega) (hw.set i (or32r _ _))
   refine ⟨h2,r1, ?_, ?_⟩
   ·rw [ah]
    simp only [dB,c1,c3,decide_true,decide_false,cond_true,cond_false,t1,t2,t3,t4,d1,d2,d3,d4,f1,f2,f3,f4,g2,g3,g4,g5,ne,c2,and_self,e1,g1,e0,q1,q2]
    exact r2
   ·rw [ah]
    simp only [cR,c1,c3,decide_true,decide_false,cond_true,cond_false,t1,t2,t3,t4,d1,d2,d3,d4,f1,f2,f3,f4,g2,g3,g4,g5,ne,c2,and_self,e1,g1,e0,q3,q4]
    exact r3
end
section
variable {N:Nat}
theorem q5:(2:Int) ^ min (Dp (bits .and .u64 (gt .u64 5) 31)) (Dr .u32)=32:=by decide +kernel
theorem q6:(2:Int) ^ min (Dp (gt .u64 (32-bits .and .u64 (gt .u64 5) 31))) (Dr .u32)=134217728:=by decide +kernel
theorem q7:(2:Int) ^ min (Dp 5) (Dr .u32)=32:=by decide +kernel
theorem q8:(2:Int) ^ min (Dp (gt .i64 (32-5))) (Dr .u32)=134217728:=by decide +kernel
theorem q9:(2:Int) ^ min (Dp (bits .and .u64 (gt .u64 30) 31)) (Dr .u32)=1073741824:=by decide +kernel
theorem q10:(2:Int) ^ min (Dp (gt .u64 (32-bits .and .u64 (gt .u64 30) 31))) (Dr .u32)=4:=by decide +kernel
theorem q11:(2:Int) ^ min (Dp 30) (Dr .u32)=1073741824:=by decide +kernel
theorem q12:(2:Int) ^ min (Dp (gt .i64 (32-30))) (Dr .u32)=4:=by decide +kernel
def ks05:Arr Int 4:=DB 1518500249 (DB 1859775393 (DB 2400959708 (DB 3395469782 Arr.nil)))
theorem mix_pair (i:Nat)(hi:i<80)(b c d:Int)(hb:0≤b∧b<4294967296):∃ m k,kW N (gt .i64 (Ej (i:Int) 20)) b c d=some m∧getI ks05.l (gt .i64 (Ej (i:Int) 20))=some k∧nA N (i:Int) b c d=some (gt .u32 (m+k)):=by
 have e:gt .i64 (Ej (i:Int) 20)=((i / 20:Nat):Int):=by
  rw [DF (by omega),ac (by omega) (by omega)];omega
 unfold kW nA
 rw [e]
 have hq:i / 20=0∨i / 20=1∨i / 20=2∨i / 20=3:=by omega
 rcases hq with hq | hq | hq | hq <;> rw [hq]
 ·exact ⟨_,1518500249,rfl,rfl,by rw [not32 b hb];rfl⟩
 ·exact ⟨_,1859775393,rfl,rfl,rfl⟩
 ·exact ⟨_,2400959708,rfl,rfl,rfl⟩
 ·exact ⟨_,3395469782,rfl,rfl,rfl⟩
theorem steps_pair (hN:10000≤N)(W:Arr Int 80)(hW:AllW W.l)(s:Arr Int 5)(h0:Arr Int 5)(h0':Arr Int 5):∀ (k M i:Nat) (t:Arr Int 5),k+i=80→k<M→AllW t.l→
  ∃ t2:Arr Int 5,AllW t2.l∧gl (fun X c=>dR N X c.1.1 c.1.2.1 c.1.2.2.1 c.2.1 c.2.2.1 c.2.2.2.1) M ((s,(ks05,((i:Int),()))),(h0,(W,(t,()))))=some ((s,()),(h0,(t2,())))∧
   gl (fun X c=>dh N X c.1.1 c.1.2.1 c.2.1 c.2.2.1 c.2.2.2.1) M ((s,((i:Int),())),(h0',(W,(t,()))))=some ((s,()),(h0',(t2,())))
 | 0,M+1,i,t,hk,hM,hw=>by
  have c1:¬ ((i:Int)<80):=by omega
  refine ⟨t,hw, ?_, ?_⟩
  ·simp only [gl,dR,c1,decide_false,cond_false]
  ·simp only [gl,dh,c1,decide_false,cond_false]
 | k+1,M+1,i,t,hk,hM,hw=>by
  have hWl:=W.h
  have c1:((i:Int)<80):=by omega
  have c2:(0:Int)≤(i:Int)∧(i:Int)<((80:Nat):Int):=by omega
  have e0:gt .i64 ((i:Int)+1)=((i+1:Nat):Int):=by rw [ac (by omega) (by omega)];omega
  have e1:Dp (i:Int)=i:=Dq i
  have g1:W.l[i]? =some (W.l[i]'(by omega)):=List.getElem?_eq_getElem _
  have hWi:=hW.get i (by omega)
  generalize W.l[i]'(by omega)=wi at *
  match t,hw with
  | ⟨[a,b,c,d,e],ht⟩,hw=>
   have ra:=hw a (by simp)
   have rb:=hw b (by simp)
   have rc:=hw c (by simp)
   have rd:=hw d (by simp)
   have re:=hw e (by simp)
   obtain ⟨m,kk,m1,m2,m3⟩:=mix_pair (N:=N) i (by omega) b c d rb
   have z0:([a,b,c,d,e]:List Int)[Dp 0]? =some a:=rfl
   have z1:([a,b,c,d,e]:List Int)[Dp 1]? =some b:=rfl
   have z2:([a,b,c,d,e]:List Int)[Dp 2]? =some c:=rfl
   have z3:([a,b,c,d,e]:List Int)[Dp 3]? =some d:=rfl
   have z4:([a,b,c,d,e]:List Int)[Dp 4]? =some e:=rfl
   have x1:∀ r:Int,gt .u32 (gt .u32 (gt .u32 (gt .u32 (r+m)+e)+kk)+wi)=gt .u32 (gt .u32 (gt .u32 (r+gt .u32 (m+kk))+e)+wi):=fun r=>by
    simp only [w32];omega
   obtain ⟨t2,r1,r2,r3⟩:=steps_pair hN W hW s h0 h0' k M (i+1) (DB (gt .u32 (gt .u32 (gt .u32 (bits .or .u32 (gt .u32 (a*32)) (DA a 134217728)+gt .u32 (m+kk))+e)+wi)) (DB a (DB (bits .or .u32 (gt .u32 (b*1073741824)) (DA b 4)) (DB c (DB d Arr.nil))))) (by omega) (by omega) (fun x hx=>by
    simp only [DB,Arr.nil,DY,DV,or_false] at hx
    rcases hx with rfl | rfl | rfl | rfl | rfl
    ·exact w32r _
    ·exact ra
    ·exact or32r _ _
    ·exact rc
    ·exact rd)
   refine ⟨t2,r1, ?_, ?_⟩
   ·rw [ah]
    simp only [dR,c1,decide_true,cond_true,z0,z1,z2,z3,z4,ne,m1,m2,c2,and_self,e1,g1,e0,q5,q6,q9,q10,x1]
    exact r2
   ·rw [ah]
    simp only [dh,c1,decide_true,cond_true,z0,z1,z2,z3,z4,ne,m3,c2,and_self,e1,g1,e0,q7,q8,q11,q12]
    exact r3
theorem add_pair (hN:10000≤N)(s h0:Arr Int 5)(hs:AllW s.l):∀ (k M i:Nat) (t:Arr Int 5),k+i=5→k<M→AllW t.l→
  ∃ t2:Arr Int 5,AllW t2.l∧gl (fun X c=>c6 N X c.1.1 c.1.2.1 c.2.1 c.2.2.1) M ((s,((i:Int),())),(h0,(t,())))=some ((),(h0,(t2,())))∧(gl (fun X c=>df N X c.1.1 c.1.2.1 c.2.1 c.2.2.1) M ((s,((i:Int),())),(h0,(t,())))=some ((),(h0,(t2,()))))
 | 0,M+1,i,t,hk,hM,hw=>by
  have c1:¬ ((i:Int)<5):=by omega
  refine ⟨t,hw, ?_, ?_⟩
  ·simp only [gl,c6,c1,decide_false,cond_false]
  ·simp only [gl,df,c1,decide_false,cond_false]
 | k+1,M+1,i,t,hk,hM,hw=>by
  have hl:=t.h
  have hsl:=s.h
  have c1:((i:Int)<5):=by omega
  have c2:(0:Int)≤(i:Int)∧(i:Int)<((5:Nat):Int):=by omega
  have e0:gt .i64 ((i:Int)+1)=((i+1:Nat):Int):=by rw [ac (by omega) (by omega)];omega
  have e1:Dp (i:Int)=i:=Dq i
  have g1:t.l[i]? =some (t.l[i]'(by omega)):=List.getElem?_eq_getElem _
  have g2:=a7 s.l i (by omega)
  obtain ⟨t2,r1,r2,r3⟩:=add_pair hN s h0 hs k M (i+1) (t.set i (gt .u32 (t.l[i]'(by omega)+s.l[i]'(by omega)))) (by omega) (by omega) (hw.set i (w32r _))
  refine ⟨t2,r1, ?_, ?_⟩
  ·rw [ah]
   simp only [c6,c1,decide_true,cond_true,c2,and_self,e1,g1,g2,e0,ne]
   exact r2
  ·rw [ah]
   simp only [df,c1,decide_true,cond_true,c2,and_self,e1,g1,g2,e0,ne]
   exact r3
theorem behind_pair (hN:10000≤N)(s:Arr Int 5)(b:Arr Int 64)(hs:AllW s.l)(hb:AllB b.l):∃ t:Arr Int 5,AllW t.l∧eU N s b ks05=some t∧jo N s b=some t:=by
 obtain ⟨M,rfl⟩:∃ M,N=M:=⟨N,rfl⟩
 unfold eU oB jo
 have hz:AllW (Do 80 (0:Int)):=fun x hx=>by rw [(List.mem_replicate.1 hx).2];omega
 obtain ⟨W,w1,w2,w3⟩:=qO (N:=N) hN b hb s ⟨Do 80 0,rfl⟩ ⟨Do 5 0,rfl⟩ 80 N 0 ⟨Do 80 0,rfl⟩ (by omega) (by omega) hz
 have w2':np N ((b,((0:Int),())),((⟨Do 80 0,rfl⟩:Arr Int 80),((⟨Do 80 0,rfl⟩:Arr Int 80),())))=some ((),((⟨Do 80 0,rfl⟩:Arr Int 80),(W,()))):=w2
 have w3':mZ N ((s,(b,((0:Int),()))),((⟨Do 5 0,rfl⟩:Arr Int 5),((⟨Do 80 0,rfl⟩:Arr Int 80),())))=some ((s,()),((⟨Do 5 0,rfl⟩:Arr Int 5),(W,()))):=w3
 obtain ⟨t,t1,t2,t3⟩:=steps_pair (N:=N) hN W w1 s ⟨Do 5 0,rfl⟩ ⟨Do 5 0,rfl⟩ 80 N 0 s (by omega) (by omega) hs
 have t2':mW N ((s,(ks05,((0:Int),()))),((⟨Do 5 0,rfl⟩:Arr Int 5),(W,(s,()))))=some ((s,()),((⟨Do 5 0,rfl⟩:Arr Int 5),(t,()))):=t2
 have t3':lu N ((s,((0:Int),())),((⟨Do 5 0,rfl⟩:Arr Int 5),(W,(s,()))))=some ((s,()),((⟨Do 5 0,rfl⟩:Arr Int 5),(t,()))):=t3
 obtain ⟨u,u1,u2,u3⟩:=add_pair (N:=N) hN s ⟨Do 5 0,rfl⟩ hs 5 N 0 t (by omega) (by omega) t1
 have u2':kX N ((s,((0:Int),())),((⟨Do 5 0,rfl⟩:Arr Int 5),(t,())))=some ((),((⟨Do 5 0,rfl⟩:Arr Int 5),(u,()))):=u2
 have u3':lq N ((s,((0:Int),())),((⟨Do 5 0,rfl⟩:Arr Int 5),(t,())))=some ((),((⟨Do 5 0,rfl⟩:Arr Int 5),(u,()))):=u3
 refine ⟨u,u1, ?_, ?_⟩
 ·refine (congrArg (fun o=>Dt (Dt o _) _) w2').trans ?_
  simp only [ne]
  refine (congrArg (fun o=>Dt o _) t2').trans ?_
  simp only [ne]
  refine (congrArg (fun o=>Dt o _) u2').trans ?_
  rfl
 ·refine (congrArg (fun o=>Dt o _) w3').trans ?_
  simp only [ne]
  refine (congrArg (fun o=>Dt o _) t3').trans ?_
  simp only [ne]
  refine (congrArg (fun o=>Dt o _) u3').trans ?_
  rfl
end
def by8 (n:Int):List Int:=[n / 72057594037927936 % 256,n / 281474976710656 % 256,n / 1099511627776 % 256,n / 4294967296 % 256,n / 16777216 % 256,n / 65536 % 256,n / 256 % 256,n % 256]
theorem asr (n:Int):AllB (by8 n):=fun x hx=>by
 simp only [by8,DY,DV,or_false] at hx
 rcases hx with rfl | rfl | rfl | rfl | rfl | rfl | rfl | rfl <;> omega
section
variable {N:Nat}
theorem put8 (n:Int)(h:0≤n∧n<18446744073709551616)(hN:100≤N):cm N n 8 false=some (by8 n,0):=by
 obtain ⟨M,rfl⟩:∃ M,N=M+9:=⟨N-9,by omega⟩
 have r1:ae (Dp 8) 1=true:=by decide
 have r2:Do (Dp 8) (0:Int)=[0,0,0,0,0,0,0,0]:=rfl
 have w1:gt .i64 ((8:Int)-1)=7:=by decide
 have v0:gt .i64 ((7:Int)-0)=7:=by decide
 have v1:gt .i64 ((7:Int)-1)=6:=by decide
 have v2:gt .i64 ((7:Int)-2)=5:=by decide
 have v3:gt .i64 ((7:Int)-3)=4:=by decide
 have v4:gt .i64 ((7:Int)-4)=3:=by decide
 have v5:gt .i64 ((7:Int)-5)=2:=by decide
 have v6:gt .i64 ((7:Int)-6)=1:=by decide
 have v7:gt .i64 ((7:Int)-7)=0:=by decide
 have w3:gt .i64 ((0:Int)+1)=1:=by decide
 have w4:gt .i64 ((1:Int)+1)=2:=by decide
 have w5:gt .i64 ((2:Int)+1)=3:=by decide
 have w6:gt .i64 ((3:Int)+1)=4:=by decide
 have w7:gt .i64 ((4:Int)+1)=5:=by decide
 have w8:gt .i64 ((5:Int)+1)=6:=by decide
 have w9:gt .i64 ((6:Int)+1)=7:=by decide
 have w10:gt .i64 ((7:Int)+1)=8:=by decide
 have e1:(2:Int) ^ min (Dp 8) (Dr DM)=256:=by decide
 have fd:∀ x:Int,DA x 256=x / 256:=fun x=>DJ _ (by decide)
 have d2:n / 256 / 256=n / 65536:=by omega
 have d3:n / 65536 / 256=n / 16777216:=by omega
 have d4:n / 16777216 / 256=n / 4294967296:=by omega
 have d5:n / 4294967296 / 256=n / 1099511627776:=by omega
 have d6:n / 1099511627776 / 256=n / 281474976710656:=by omega
 have d7:n / 281474976710656 / 256=n / 72057594037927936:=by omega
 have u8:∀ x:Int,gt .u8 x=x % 256:=fun x=>by rw [DT]
 simp only [cm,fN,gl,eY,dX,r1,r2,e1,cond_false,ne,w1,v0,v1,v2,v3,v4,v5,v6,v7,w3,w4,w5,w6,w7,w8,w9,w10]
 simp [w1,v0,v1,v2,v3,v4,v5,v6,v7,w3,w4,w5,w6,w7,w8,w9,w10,fd,d2,d3,d4,d5,d6,d7,u8,by8]
def nz (n:Int):Nat:=((119-n % 64) % 64).toNat
def oQ (n:Int):List Int:=[128]++Do (nz n) 0++by8 (8*n % 18446744073709551616)
theorem nz_lt (n:Int):nz n<64:=by unfold nz;omega
theorem sZ (n:Int):(oQ n).length=nz n+9:=by simp [oQ,by8]
theorem aeu (n:Int):AllB (oQ n):=by
 refine DZ (DZ (AllB.cons (by omega) AllB.nil) fun x hx=> ?_) (asr _)
 rw [(List.mem_replicate.1 hx).2];omega
theorem za (n:Int)(h:0≤n∧n<18446744073709551616)(hN:10000≤N):nr N n=some (oQ n):=by
 unfold nr
 have hw:gt .u64 ((8:Int)*n)=8*n % 18446744073709551616:=by rw [DP]
 have hz:DQ (gt .u64 ((119:Int)-DQ n 64)) 64=((nz n:Nat):Int):=by
  have hm:DQ n 64=n % 64:=Dy h.1
  rw [hm,aK (by omega) (by omega),Dy (by omega)]
  unfold nz
  omega
 have hl:=nz_lt n
 have c1:((decide ((0:Int)≤((nz n:Nat):Int)∧((nz n:Nat):Int)≤((nz n:Nat):Int)))&&ae (nz n) 1)=true:=by
  have:ae (nz n) 1=true:=aC (by have:=aJ;omega) (by omega)
  simp [this]
 rw [hw,put8 _ (by omega) (by omega),hz]
 simp only [ne,c1,cond_true,Dq]
 refine (ul (N:=N) [[128],Do (nz n) 0,by8 (8*n % 18446744073709551616)] (by simp) ?_ ?_).trans ?_
 all_goals first | omega | skip
 ·simp [by8];omega
 ·simp [oQ]
theorem zeros_ok (n:Int)(h:0≤n∧n<18446744073709551616):∀ (k M:Nat) (l:List Int),k<M→l.length+k<1000→(n+l.length+k) % 64=56→k<64→
  gl (fun X c=>ck N X c.1.1 c.2.1) M ((n,()),(l,()))=some ((n,()),(l++Do k 0,()))
 | 0,M+1,l,hM,hl,hk,_=>by
  have e:DQ (gt .u64 (n+gt .u64 (l.length:Int))) 64=56:=by
   rw [aK (x:=(l.length:Int)) (by omega) (by omega),DP,Dy (by omega)];omega
  rw [ah]
  simp only [ck,e,decide_true,Ed,cond_false,Eh,DS]
 | k+1,M+1,l,hM,hl,hk,h64=>by
  have e:¬ DQ (gt .u64 (n+gt .u64 (l.length:Int))) 64=56:=by
   rw [aK (x:=(l.length:Int)) (by omega) (by omega),DP,Dy (by omega)];omega
  have r:ae (l.length+([(0:Int)]:List Int).length) 1=true:=aC (by have:=aJ;simp;omega) (by simp;omega)
  rw [ah]
  simp only [ck,e,decide_false,Bool.not_false,cond_true,r]
  refine (zeros_ok n h k M (l++[0]) (by omega) (by simp;omega) (by simp;omega) (by omega)).trans ?_
  rw [List.replicate_succ,DE];rfl
def le8 (n:Int):List Int:=[n % 256,n / 256 % 256,n / 65536 % 256,n / 16777216 % 256,n / 4294967296 % 256,n / 1099511627776 % 256,n / 281474976710656 % 256,n / 72057594037927936 % 256]
theorem ref04_tail_ok (n:Int)(h:0≤n∧n<18446744073709551616)(hN:10000≤N):et N n=some ([128]++Do (nz n) 0++le8 (8*n % 18446744073709551616)):=by
 unfold et
 have hl:=nz_lt n
 have hz:=zeros_ok (N:=N) n h (nz n) N [128] (by omega) (by simp;omega) (by unfold nz;simp;omega) hl
 refine (congrArg (fun o=>Dt o _) hz).trans ?_
 simp only [ne]
 have hw:gt .u64 ((8:Int)*n)=8*n % 18446744073709551616:=by rw [DP]
 rw [hw]
 have hb:0≤8*n % 18446744073709551616∧8*n % 18446744073709551616<18446744073709551616:=by omega
 generalize 8*n % 18446744073709551616=m at *
 have hpl:([128]++Do (nz n) (0:Int)).length=nz n+1:=by simp
 generalize [128]++Do (nz n) (0:Int)=p at *
 obtain ⟨M,rfl⟩:∃ M,N=M+9:=⟨N-9,by omega⟩
 have dv:∀ x:Int,0≤x→x<18446744073709551616→gt .u64 (Ej x 256)=x / 256:=fun x h1 h2=>by
  rw [DF h1,aK (by omega) (by omega)]
 have md:∀ x:Int,0≤x→gt .u8 (DQ x 256)=x % 256:=fun x h1=>by
  rw [Dy h1,CA (by omega) (by omega)]
 have st:∀ (K:Nat) (x:Int) (i:Nat) (q:List Int),i<8→0≤x→x<18446744073709551616→q.length<1000→gl (fun X c=>bD (M+9) X c.1.1 c.1.2.1 c.2.1) (K+1) ((x,((i:Int),())),(q,()))=gl (fun X c=>bD (M+9) X c.1.1 c.1.2.1 c.2.1) K ((x / 256,(((i+1:Nat):Int),())),(q++[x % 256],())):=fun K x i q hi h1 h2 hq=>by
  have c1:((i:Int)<8):=by omega
  have e0:gt .i64 ((i:Int)+1)=((i+1:Nat):Int):=by rw [ac (by omega) (by omega)];omega
  have r:∀ y:Int,ae (q.length+([y]:List Int).length) 1=true:=fun y=>aC (by have:=aJ;simp;omega) (by simp;omega)
  rw [ah]
  simp only [bD,c1,decide_true,cond_true,md x h1,r,dv x h1 h2,e0]
 have fin:∀ (K:Nat) (x:Int) (q:List Int),gl (fun X c=>bD (M+9) X c.1.1 c.1.2.1 c.2.1) (K+1) ((x,(((8:Nat):Int),())),(q,()))=some ((),(q,())):=fun K x q=>by
  rw [ah]
  rfl
 have all:jp (M+9) ((m,((0:Int),())),(p,()))=some ((),(p++le8 m,())):=by
  refine (st (M+8) m 0 p (by omega) hb.1 hb.2 (by omega)).trans ?_
  refine (st (M+7) _ 1 _ (by omega) (by omega) (by omega) (by simp;omega)).trans ?_
  refine (st (M+6) _ 2 _ (by omega) (by omega) (by omega) (by simp;omega)).trans ?_
  refine (st (M+5) _ 3 _ (by omega) (by omega) (by omega) (by simp;omega)).trans ?_
  refine (st (M+4) _ 4 _ (by omega) (by omega) (by omega) (by simp;omega)).trans ?_
  refine (st (M+3) _ 5 _ (by omega) (by omega) (by omega) (by simp;omega)).trans ?_
  refine (st (M+2) _ 6 _ (by omega) (by omega) (by omega) (by simp;omega)).trans ?_
  refine (st (M+1) _ 7 _ (by omega) (by omega) (by omega) (by simp;omega)).trans ?_
  refine (fin M _ _).trans ?_
  have d2:m / 256 / 256=m / 65536:=by omega
  have d3:m / 65536 / 256=m / 16777216:=by omega
  have d4:m / 16777216 / 256=m / 4294967296:=by omega
  have d5:m / 4294967296 / 256=m / 1099511627776:=by omega
  have d6:m / 1099511627776 / 256=m / 281474976710656:=by omega
  have d7:m / 281474976710656 / 256=m / 72057594037927936:=by omega
  simp only [d2,d3,d4,d5,d6,d7,DE,List.cons_append,Eb,le8]
 refine (congrArg (fun o=>Dt o _) all).trans ?_
 rfl
theorem xA (n:Int)(h:0≤n∧n<18446744073709551616)(hN:10000≤N):ln N n=some (oQ n):=by
 unfold ln
 rw [ref04_tail_ok n h hN,ne]
 have hl:=nz_lt n
 unfold oQ
 generalize 8*n % 18446744073709551616=m at *
 have hpl:([128]++Do (nz n) (0:Int)).length=nz n+1:=by simp
 generalize [128]++Do (nz n) (0:Int)=p at *
 have h8:(le8 m).length=8:=rfl
 have e1:gt .i64 (((p++le8 m).length:Int)-8)=(p.length:Int):=by
  rw [Ds,h8,ac (by omega) (by omega)];omega
 have r:ae p.length 1=true:=aC (by have:=aJ;omega) (by omega)
 have tk:cL (p++le8 m) (p.length:Int)=some p:=by
  rw [ed _ rfl (by simp)];simp
 rw [e1,tk,ne,r]
 simp only [cond_true]
 obtain ⟨M,rfl⟩:∃ M,N=M+9:=⟨N-9,by omega⟩
 have st:∀ (K:Nat) (i:Nat) (q:List Int) (y:Int),i<8→q.length<1000→(le8 m)[i]? =some y→gl (fun X c=>dE (M+9) X c.1.1 c.1.2.1 c.1.2.2.1 c.2.1) (K+1) ((p++le8 m,((p.length:Int),((i:Int),()))),(q,()))=gl (fun X c=>dE (M+9) X c.1.1 c.1.2.1 c.1.2.2.1 c.2.1) K ((p++le8 m,((p.length:Int),(((i:Int)-1),()))),(q++[y],())):=fun K i q y hi hq hy=>by
  have c1:((0:Int)≤(i:Int)):=by omega
  have e0:gt .i64 ((i:Int)-1)=((i:Int)-1):=by rw [ac (by omega) (by omega)]
  have e2:gt .i64 ((p.length:Int)+(i:Int))=((p.length+i:Nat):Int):=by rw [ac (by omega) (by omega)];omega
  have r:ae (q.length+([y]:List Int).length) 1=true:=aC (by have:=aJ;simp;omega) (by simp;omega)
  have g:getI (p++le8 m) ((p.length+i:Nat):Int)=some y:=by
   rw [qo,List.getElem?_append_right (by omega)]
   rw [show p.length+i-p.length=i by omega,hy]
  rw [ah]
  simp only [dE,c1,decide_true,cond_true,e2,g,ne,r,e0]
 have fin:∀ (K:Nat) (q:List Int),gl (fun X c=>dE (M+9) X c.1.1 c.1.2.1 c.1.2.2.1 c.2.1) (K+1) ((p++le8 m,((p.length:Int),(((0:Nat):Int)-1,()))),(q,()))=some ((),(q,())):=fun K q=>by
  rw [ah]
  rfl
 have all:nB (M+9) ((p++le8 m,((p.length:Int),((7:Int),()))),(p,()))=some ((),(p++by8 m,())):=by
  refine (st (M+8) 7 p _ (by omega) (by omega) rfl).trans ?_
  refine (st (M+7) 6 _ _ (by omega) (by simp;omega) rfl).trans ?_
  refine (st (M+6) 5 _ _ (by omega) (by simp;omega) rfl).trans ?_
  refine (st (M+5) 4 _ _ (by omega) (by simp;omega) rfl).trans ?_
  refine (st (M+4) 3 _ _ (by omega) (by simp;omega) rfl).trans ?_
  refine (st (M+3) 2 _ _ (by omega) (by simp;omega) rfl).trans ?_
  refine (st (M+2) 1 _ _ (by omega) (by simp;omega) rfl).trans ?_
  refine (st (M+1) 0 _ _ (by omega) (by simp;omega) rfl).trans ?_
  refine (fin M _).trans ?_
  simp only [DE,List.cons_append,Eb,by8]
 refine (congrArg (fun o=>Dt o _) all).trans ?_
 rfl
end
theorem flat_len (m:List (List Int))(k:Nat)(h:∀ p∈m,p.length≤k):m.flatten.length≤k*m.length:=by
 induction m with
 | nil=>simp
 | cons p m ih=>
  have h1:=h p List.mem_cons_self
  have h2:=ih fun q hq=>h q (List.mem_cons_of_mem _ hq)
  rw [List.flatten_cons,Ds,Dw,Nat.mul_add]
  omega
section
variable {N:Nat}
theorem joinS (l:List (List Int))(h0:Arr Int 20)(hl:l.length≤1000)(hs:∀ p∈l,p.length≤100000)(hN:2000≤N):
  fh N ((l,((0:Int),(l,((l.length:Int),((0:Int),()))))),(h0,()))=some ((l,((l.flatten.length:Int),())),(h0,()))∧
  fg N ((l,((l.length:Int),((0:Int),()))),(h0,(([]:List Int),())))=some ((),(h0,(l.flatten,()))):=by
 have tk:∀ i,(l.take i).flatten.length≤100000000:=fun i=>by
  have:=flat_len (l.take i) 100000 fun p hp=>hs p (List.mem_of_mem_take hp)
  rw [Dx] at this
  omega
 have hsn:∀ i (hi:i<l.length),(l.take (i+1)).flatten=(l.take i).flatten++l[i]:=fun i hi=>by
  have:l.take (i+1)=l.take i++[l[i]]:=by rw [D6,List.getElem?_eq_getElem hi];rfl
  rw [this,List.flatten_append]
  simp
 have h1:=cz (G:=fun (X:((List (List Int)×Int×List (List Int)×Int×Int×Unit)×Arr Int 20×Unit)→Option ((List (List Int)×Int×Unit)×Arr Int 20×Unit)) c=>bh N X c.1.1 c.1.2.1 c.1.2.2.1 c.1.2.2.2.1 c.1.2.2.2.2.1 c.2.1)
  (fun i=>((l,(((l.take i).flatten.length:Int),(l,((l.length:Int),((i:Int),()))))),(h0,()))) l.length ((l,((l.flatten.length:Int),())),(h0,())) (fun X i hi=>by
  have c1:((i:Int)<(l.length:Int)):=by omega
  have c2:gt .i64 ((i:Int)+1)=((i+1:Nat):Int):=by rw [ac (by omega) (by omega)];omega
  have hp:=hs _ (DL hi)
  have ht:=tk i
  have c3:gt .i64 (((l.take i).flatten.length:Int)+(l[i].length:Int))=(((l.take (i+1)).flatten.length:Nat):Int):=by rw [ac (by omega) (by omega),hsn i hi,Ds];omega
  simp only [bh,c1,decide_true,cond_true,a7 l i hi,ne,c3,c2]) (fun X=>by
  simp [bh]) N 0 (by omega) (by omega)
 have h2:=cz (G:=fun (X:((List (List Int)×Int×Int×Unit)×Arr Int 20×List Int×Unit)→Option (Unit×Arr Int 20×List Int×Unit)) c=>bg N X c.1.1 c.1.2.1 c.1.2.2.1 c.2.1 c.2.2.1)
  (fun i=>((l,((l.length:Int),((i:Int),()))),(h0,((l.take i).flatten,())))) l.length ((),(h0,(l.flatten,()))) (fun X i hi=>by
  have c1:((i:Int)<(l.length:Int)):=by omega
  have c2:gt .i64 ((i:Int)+1)=((i+1:Nat):Int):=by rw [ac (by omega) (by omega)];omega
  have hp:=hs _ (DL hi)
  have ht:=tk i
  have c3:ae ((l.take i).flatten.length+l[i].length) 1=true:=aC (by have:=aJ;omega) (by omega)
  simp only [bg,c1,decide_true,cond_true,a7 l i hi,ne,c3,c2,hsn i hi]) (fun X=>by
  simp [bg]) N 0 (by omega) (by omega)
 simp only [D8,List.take_zero,List.flatten_nil,D3] at h1 h2
 exact ⟨h1,h2⟩
theorem ae5 (n:Int)(h:0≤n∧n<4294967296)(hN:100≤N):cm N (gt .u64 n) 4 false=some ([n / 16777216 % 256,n / 65536 % 256,n / 256 % 256,n % 256],0):=by
 rw [aK (by omega) (by omega)]
 exact put4 n (by omega) hN
def by4 (n:Int):List Int:=[n / 16777216 % 256,n / 65536 % 256,n / 256 % 256,n % 256]
theorem by4_B (n:Int):AllB (by4 n):=fun x hx=>by
 simp only [by4,DY,DV,or_false] at hx
 rcases hx with rfl | rfl | rfl | rfl <;> omega
theorem digest_ok (a b c d e:Int)(ht:([a,b,c,d,e]:List Int).length=5)(ha:AllW [a,b,c,d,e])(hN:10000≤N):∃ D:Arr Int 20,D.l=by4 a++by4 b++by4 c++by4 d++by4 e∧iZ N ⟨[a,b,c,d,e],ht⟩=some D:=by
 obtain ⟨M,rfl⟩:∃ M,N=M+6:=⟨N-6,by omega⟩
 have pa:=ae5 (N:=M+6) a (ha a (by simp)) (by omega)
 have pb:=ae5 (N:=M+6) b (ha b (by simp)) (by omega)
 have pc:=ae5 (N:=M+6) c (ha c (by simp)) (by omega)
 have pd:=ae5 (N:=M+6) d (ha d (by simp)) (by omega)
 have pe:=ae5 (N:=M+6) e (ha e (by simp)) (by omega)
 have w3:gt .i64 ((0:Int)+1)=1:=by decide
 have w4:gt .i64 ((1:Int)+1)=2:=by decide
 have w5:gt .i64 ((2:Int)+1)=3:=by decide
 have w6:gt .i64 ((3:Int)+1)=4:=by decide
 have w7:gt .i64 ((4:Int)+1)=5:=by decide
 have z0:getI ([a,b,c,d,e]:List Int) 0=some a:=rfl
 have z1:getI ([a,b,c,d,e]:List Int) 1=some b:=rfl
 have z2:getI ([a,b,c,d,e]:List Int) 2=some c:=rfl
 have z3:getI ([a,b,c,d,e]:List Int) 3=some d:=rfl
 have z4:getI ([a,b,c,d,e]:List Int) 4=some e:=rfl
 have l0:(decide ((0:Int)<5))=true:=rfl
 have l1:(decide ((1:Int)<5))=true:=rfl
 have l2:(decide ((2:Int)<5))=true:=rfl
 have l3:(decide ((3:Int)<5))=true:=rfl
 have l4:(decide ((4:Int)<5))=true:=rfl
 have l5:(decide ((5:Int)<5))=false:=rfl
 have rm:∀ (p:List Int) (u v x y:Int),p.length<100→ae (p.length+([u,v,x,y]:List Int).length) 1=true:=fun p u v x y hp=>aC (by have:=aJ;simp;omega) (by simp;omega)
 have step:∀ (K:Nat) (i j:Int) (n:Int) (p:List Int) (h0:Arr Int 20),decide (i<5)=true→getI ([a,b,c,d,e]:List Int) i=some n→cm (M+6) (gt .u64 n) 4 false=some (by4 n,0)→gt .i64 (i+1)=j→p.length<100→
   gl (fun X c=>cQ (M+6) X c.1.1 c.1.2.1 c.2.1 c.2.2.1) (K+1) (((⟨[a,b,c,d,e],ht⟩:Arr Int 5),(i,())),(h0,(p,())))=gl (fun X c=>cQ (M+6) X c.1.1 c.1.2.1 c.2.1 c.2.2.1) K (((⟨[a,b,c,d,e],ht⟩:Arr Int 5),(j,())),(h0,(p++by4 n,()))):=fun K i j n p h0 q1 q2 q3 q4 q5=>by
  rw [ah]
  have r:=rm p (n / 16777216 % 256) (n / 65536 % 256) (n / 256 % 256) (n % 256) q5
  have r:ae (p.length+(by4 n).length) 1=true:=r
  simp only [cQ,q1,cond_true,q2,ne,q3,r,q4]
 have fin:∀ (K:Nat) (p:List Int) (h0:Arr Int 20),gl (fun X c=>cQ (M+6) X c.1.1 c.1.2.1 c.2.1 c.2.2.1) (K+1) (((⟨[a,b,c,d,e],ht⟩:Arr Int 5),((5:Int),())),(h0,(p,())))=some ((),(h0,(p,()))):=fun K p h0=>by
  rw [ah];rfl
 have all:∀ h0:Arr Int 20,mU (M+6) (((⟨[a,b,c,d,e],ht⟩:Arr Int 5),((0:Int),())),(h0,(([]:List Int),())))=some ((),(h0,(by4 a++by4 b++by4 c++by4 d++by4 e,()))):=fun h0=>by
  refine (step (M+5) 0 1 a [] h0 l0 z0 pa w3 (by simp)).trans ?_
  refine (step (M+4) 1 2 b _ h0 l1 z1 pb w4 (by simp [by4])).trans ?_
  refine (step (M+3) 2 3 c _ h0 l2 z2 pc w5 (by simp [by4])).trans ?_
  refine (step (M+2) 3 4 d _ h0 l3 z3 pd w6 (by simp [by4])).trans ?_
  refine (step (M+1) 4 5 e _ h0 l4 z4 pe w7 (by simp [by4])).trans ?_
  exact fin M _ h0
 have hl:(by4 a++by4 b++by4 c++by4 d++by4 e).length=20:=by simp [by4]
 unfold iZ
 rw [all,ne]
 refine ⟨⟨(by4 a++by4 b++by4 c++by4 d++by4 e).take 20,by rw [Dx,hl];rfl⟩, ?_, ?_⟩
 ·exact DK (by omega)
 ·have:dA 20 (by4 a++by4 b++by4 c++by4 d++by4 e)=some ⟨(by4 a++by4 b++by4 c++by4 d++by4 e).take 20,by rw [Dx,hl];rfl⟩:=dif_pos (by omega)
  simp only [this,ne]
end
theorem Arr.eq {α:Type}{n:Nat}{a b:Arr α n}(h:a.l=b.l):a=b:=by
 cases a;cases b;simp only at h;subst h;rfl
noncomputable def stepB (N:Nat)(t:Arr Int 5)(l:List Int):Option (Arr Int 5):=(dA 64 l).bind fun a=>eU N t a ks05
noncomputable def runB (N:Nat):Nat→Arr Int 5→List Int→Option (Arr Int 5)
 | 0,t,_=>some t
 | m+1,t,l=>(stepB N t (l.take 64)).bind fun t'=>runB N m t' (l.drop 64)
theorem toArr64 (l:List Int)(h:64≤l.length):∃ a:Arr Int 64,a.l=l.take 64∧dA 64 (l.take 64)=some a:=by
 have h1:64≤(l.take 64).length:=by rw [Dx];omega
 refine ⟨⟨(l.take 64).take 64,by rw [Dx];omega⟩, ?_,dif_pos h1⟩
 exact DK (by rw [Dx];omega)
section
variable {N:Nat}
theorem runB_some (hN:10000≤N):∀ (m:Nat) (t:Arr Int 5) (l:List Int),AllW t.l→AllB l→l.length=64*m→∃ t',AllW t'.l∧runB N m t l=some t'
 | 0,t,l,ht,_,_=>⟨t,ht,rfl⟩
 | m+1,t,l,ht,hl,hm=>by
  obtain ⟨a,a1,a2⟩:=toArr64 l (by omega)
  obtain ⟨t1,h1,h2,_⟩:=behind_pair (N:=N) hN t a ht (by rw [a1];exact hl.take 64)
  obtain ⟨t',h3,h4⟩:=runB_some hN m t1 (l.drop 64) h1 (hl.drop 64) (by rw [Du];omega)
  refine ⟨t',h3, ?_⟩
  unfold runB stepB
  rw [a2,ne,h2,ne,h4]
theorem loopOf (hN:10000≤N)(all:List Int)(ha:all.length<100000)(h0:Arr Int 20):∀ (m M i:Nat) (t t':Arr Int 5),m<M→all.length=i+64*m→runB N m t (all.drop i)=some t'→
  gl (fun X c=>iN N X c.1.1 c.1.2.1 c.2.1 c.2.2.1 c.2.2.2.1) M ((all,((i:Int),())),(h0,(t,(ks05,()))))=some ((),(h0,(t',())))
 | 0,M+1,i,t,t',hM,hi,hr=>by
  have c1:¬ ((i:Int)<(all.length:Int)):=by omega
  have hr:some t=some t':=hr
  injection hr with hr
  subst hr
  rw [ah]
  simp only [iN,c1,decide_false,cond_false]
 | m+1,M+1,i,t,t',hM,hi,hr=>by
  have c1:((i:Int)<(all.length:Int)):=by omega
  have e0:gt .i64 ((i:Int)+64)=((i+64:Nat):Int):=by rw [ac (by omega) (by omega)];omega
  have s1:subI all (i:Int) ((i+64:Nat):Int)=some ((all.drop i).take 64):=by
   rw [gS all rfl rfl (by omega) (by omega)];congr 2;omega
  unfold runB stepB at hr
  cases hb:dA 64 ((all.drop i).take 64) with
  | none=>rw [hb] at hr;cases hr
  | some a=>
   rw [hb,ne] at hr
   cases hc:eU N t a ks05 with
   | none=>rw [hc] at hr;cases hr
   | some t1=>
    rw [hc,ne,D7] at hr
    have ih:=loopOf hN all ha h0 m M (i+64) t1 t' (by omega) (by omega) (by rw [show i+64=i+64 from rfl];exact hr)
    rw [ah]
    simp only [iN,c1,decide_true,cond_true,e0,s1,ne,hb,hc]
    exact ih
theorem fillOf (hN:10000≤N)(all:List Int)(ha:all.length<100000)(h0:Arr Int 20)(t:Arr Int 5)(x:Nat)(hx:x+64≤all.length):∀ (k M i:Nat) (blk:Arr Int 64),k+i=64→k<M→
  ∃ b2:Arr Int 64,b2.l=blk.l.take i++(all.drop (x+i)).take k∧gl (fun X c=>gx N X c.1.1 c.1.2.1 c.2.1 c.2.2.1 c.2.2.2.1 c.2.2.2.2.1) M (((x:Int),((i:Int),())),(h0,(all,(t,(blk,())))))=some (((x:Int),()),(h0,(all,(t,(b2,())))))
 | 0,M+1,i,blk,hk,hM=>by
  have c1:¬ ((i:Int)<64):=by omega
  refine ⟨blk, ?_, ?_⟩
  ·rw [DK (by rw [blk.h];omega),List.take_zero,DS]
  ·rw [ah]
   simp only [gx,c1,decide_false,cond_false]
 | k+1,M+1,i,blk,hk,hM=>by
  have hbl:=blk.h
  have c1:((i:Int)<64):=by omega
  have e0:gt .i64 ((i:Int)+1)=((i+1:Nat):Int):=by rw [ac (by omega) (by omega)];omega
  have e2:gt .i64 ((x:Int)+(i:Int))=((x+i:Nat):Int):=by rw [ac (by omega) (by omega)];omega
  have c2:(0:Int)≤((x+i:Nat):Int)∧((x+i:Nat):Int)<(all.length:Int):=by omega
  have c3:(0:Int)≤(i:Int)∧(i:Int)<((64:Nat):Int):=by omega
  have e1:Dp (i:Int)=i:=Dq i
  have e3:Dp ((x+i:Nat):Int)=x+i:=Dq _
  have g1:all[x+i]? =some (all[x+i]'(by omega)):=List.getElem?_eq_getElem _
  have g2:blk.l[i]? =some (blk.l[i]'(by omega)):=List.getElem?_eq_getElem _
  obtain ⟨b2,h1,h2⟩:=fillOf hN all ha h0 t x hx k M (i+1) (blk.set i (all[x+i]'(by omega))) (by omega) (by omega)
  refine ⟨b2, ?_, ?_⟩
  ·rw [h1]
   have q1:(blk.set i (all[x+i]'(by omega))).l.take (i+1)=blk.l.take i++[all[x+i]'(by omega)]:=by
    show (blk.l.set i _).take (i+1)=_
    rw [D6,Ei (DW _),List.getElem?_set_self (by omega)]
    rfl
   rw [q1,DE]
   congr 1
   rw [Dv (show x+i<all.length by omega),List.take_succ_cons]
   rfl
  ·rw [ah]
   simp only [gx,c1,decide_true,cond_true,e2,c2,and_self,e3,g1,ne,c3,e1,g2,e0]
   exact h2
theorem loopRef (hN:10000≤N)(all:List Int)(ha:all.length<100000)(hB:AllB all)(h0:Arr Int 20):∀ (m M i:Nat) (t t':Arr Int 5),m<M→all.length=i+64*m→AllW t.l→runB N m t (all.drop i)=some t'→
  gl (fun X c=>gy N X c.1.1 c.2.1 c.2.2.1 c.2.2.2.1) M (((i:Int),()),(h0,(all,(t,()))))=some ((),(h0,(t',())))
 | 0,M+1,i,t,t',hM,hi,hw,hr=>by
  have c1:¬ ((i:Int)<(all.length:Int)):=by omega
  have hr:some t=some t':=hr
  injection hr with hr
  subst hr
  rw [ah]
  simp only [gy,c1,decide_false,cond_false]
 | m+1,M+1,i,t,t',hM,hi,hw,hr=>by
  have c1:((i:Int)<(all.length:Int)):=by omega
  have e0:gt .i64 ((i:Int)+64)=((i+64:Nat):Int):=by rw [ac (by omega) (by omega)];omega
  obtain ⟨b2,f1,f2⟩:=fillOf (N:=N) hN all ha h0 t i (by omega) 64 N 0 ⟨Do 64 0,rfl⟩ (by omega) (by omega)
  have f2':pX N (((i:Int),((0:Int),())),(h0,(all,(t,((⟨Do 64 0,rfl⟩:Arr Int 64),())))))=some (((i:Int),()),(h0,(all,(t,(b2,()))))):=f2
  have f1':b2.l=(all.drop i).take 64:=by rw [f1];simp
  obtain ⟨a,a1,a2⟩:=toArr64 (all.drop i) (by rw [Du];omega)
  have hab:a=b2:=Arr.eq (by rw [a1,f1'])
  subst hab
  obtain ⟨t1,h1,h2,h3⟩:=behind_pair (N:=N) hN t a hw (by rw [a1];exact (hB.drop i).take 64)
  unfold runB stepB at hr
  rw [a2,ne,h2,ne,D7] at hr
  have ih:=loopRef hN all ha hB h0 m M (i+64) t1 t' (by omega) (by omega) h1 hr
  rw [ah]
  simp only [gy,c1,decide_true,cond_true]
  refine (congrArg (fun o=>Dt o _) f2').trans ?_
  simp only [ne,h3,e0]
  exact ih
def dg5 (a b c d e:Int):List Int:=by4 a++by4 b++by4 c++by4 d++by4 e
theorem dg5_B (a b c d e:Int):AllB (dg5 a b c d e):=DZ (DZ (DZ (DZ (by4_B a) (by4_B b)) (by4_B c)) (by4_B d)) (by4_B e)
theorem aqE (a b c d e:Int)(i:Nat)(hi:i<20)(v:Int)(hv:([a,b,c,d,e]:List Int)[i / 4]? =some v):(dg5 a b c d e)[i]? =some (gt .u8 (DA v (2 ^ (24-8*(i % 4))))):=by
 have fd:∀ k:Nat,DA v (2 ^ k)=v / 2 ^ k:=fun k=>DJ _ (Int.le_of_lt (Int.pow_pos (by decide)))
 rw [fd,DT]
 have:i=0∨i=1∨i=2∨i=3∨i=4∨i=5∨i=6∨i=7∨i=8∨i=9∨i=10∨i=11∨i=12∨i=13∨i=14∨i=15∨i=16∨i=17∨i=18∨i=19:=by omega
 rcases this with rfl | rfl | rfl | rfl | rfl | rfl | rfl | rfl | rfl | rfl | rfl | rfl | rfl | rfl | rfl | rfl | rfl | rfl | rfl | rfl <;> simp at hv <;> subst hv <;> simp [dg5,by4]
theorem outRef (hN:10000≤N)(a b c d e:Int)(ht:([a,b,c,d,e]:List Int).length=5)(h0:Arr Int 20):∀ (k M i:Nat) (o:Arr Int 20),k+i=20→k<M→
  ∃ D:Arr Int 20,D.l=o.l.take i++(dg5 a b c d e).drop i∧gl (fun X c=>fo N X c.1.1 c.2.1 c.2.2.1 c.2.2.2.1) M (((i:Int),()),(h0,((⟨[a,b,c,d,e],ht⟩:Arr Int 5),(o,()))))=some ((),(h0,(D,())))
 | 0,M+1,i,o,hk,hM=>by
  have c1:¬ ((i:Int)<20):=by omega
  have hol:=o.h
  refine ⟨o, ?_, ?_⟩
  ·rw [DK (by omega),DR (by simp [dg5,by4];omega),DS]
  ·rw [ah]
   simp only [fo,c1,decide_false,cond_false]
 | k+1,M+1,i,o,hk,hM=>by
  have hol:=o.h
  have c1:((i:Int)<20):=by omega
  have e0:gt .i64 ((i:Int)+1)=((i+1:Nat):Int):=by rw [ac (by omega) (by omega)];omega
  have f1:gt .i64 (Ej (i:Int) 4)=((i / 4:Nat):Int):=by
   rw [DF (by omega),ac (by omega) (by omega)];omega
  have f0:gt .i64 ((8:Int)*DQ (i:Int) 4)=((8*(i % 4):Nat):Int):=by
   rw [Dy (by omega),ac (by omega) (by omega)];omega
  have f2:gt .i64 ((24:Int)-((8*(i % 4):Nat):Int))=((24-8*(i % 4):Nat):Int):=by
   rw [ac (by omega) (by omega)];omega
  have c2:(0:Int)≤((i / 4:Nat):Int)∧((i / 4:Nat):Int)<((5:Nat):Int):=by omega
  have c3:(0:Int)≤((24-8*(i % 4):Nat):Int):=by omega
  have c4:(0:Int)≤(i:Int)∧(i:Int)<((20:Nat):Int):=by omega
  have e1:Dp (i:Int)=i:=Dq i
  have e2:Dp ((i / 4:Nat):Int)=i / 4:=Dq _
  have e3:min (Dp ((24-8*(i % 4):Nat):Int)) (Dr .u32)=24-8*(i % 4):=by
   rw [Dq];show min _ 32=_;omega
  have g1:([a,b,c,d,e]:List Int)[i / 4]? =some (([a,b,c,d,e]:List Int)[i / 4]'(by simp;omega)):=List.getElem?_eq_getElem _
  have g2:o.l[i]? =some (o.l[i]'(by omega)):=List.getElem?_eq_getElem _
  have hd:=aqE a b c d e i (by omega) _ g1
  generalize ([a,b,c,d,e]:List Int)[i / 4]'(by simp;omega)=v at *
  obtain ⟨D,h1,h2⟩:=outRef hN a b c d e ht h0 k M (i+1) (o.set i (gt .u8 (DA v (2 ^ (24-8*(i % 4)))))) (by omega) (by omega)
  refine ⟨D, ?_, ?_⟩
  ·rw [h1]
   have q1:(o.set i (gt .u8 (DA v (2 ^ (24-8*(i % 4)))))).l.take (i+1)=o.l.take i++[gt .u8 (DA v (2 ^ (24-8*(i % 4))))]:=by
    show (o.l.set i _).take (i+1)=_
    rw [D6,Ei (DW _),List.getElem?_set_self (by omega)]
    rfl
   rw [q1,DE]
   congr 1
   obtain ⟨hlt,hv⟩:=List.getElem?_eq_some_iff.1 hd
   rw [Dv hlt,hv]
   rfl
  ·rw [ah]
   simp only [fo,c1,decide_true,cond_true,f1,c2,and_self,e2,g1,ne,f0,f2,c3,c4,e1,g2,e0,e3]
   exact h2
end
def mw:Arr Int 5:=DB 1732584193 (DB 4023233417 (DB 2562383102 (DB 271733878 (DB 3285377520 Arr.nil))))
theorem first_W:AllW mw.l:=fun x hx=>by
 simp only [mw,DB,Arr.nil,DY,DV,or_false] at hx
 rcases hx with rfl | rfl | rfl | rfl | rfl <;> omega
def nb (n:Nat):Nat:=(n+(oQ (n:Int)).length) / 64
theorem nb_ok (n:Nat)(l:List Int)(h:l.length=n):(l++oQ (n:Int)).length=64*nb n:=by
 unfold nb
 rw [Ds,sZ,h]
 unfold nz
 omega
theorem of_ok (l:List (List Int))(hl:l.length≤1000)(hs:∀ p∈l,p.length≤5000∧AllB p)(hf:l.flatten.length≤5000):
  ∃ a b c d e ht,∃ D:Arr Int 20,runB 200000 (nb l.flatten.length) mw (l.flatten++oQ (l.flatten.length:Int))=some ⟨[a,b,c,d,e],ht⟩∧AllW [a,b,c,d,e]∧D.l=dg5 a b c d e∧fH 200000 l=some D:=by
 have hB:AllB l.flatten:=fun x hx=>by
  obtain ⟨p,hp,hx⟩:=List.mem_flatten.1 hx
  exact (hs p hp).2 x hx
 have hall:AllB (l.flatten++oQ (l.flatten.length:Int)):=hB.append (aeu _)
 have hlen:=nb_ok l.flatten.length l.flatten rfl
 have htl:=sZ (l.flatten.length:Int)
 have hnz:=nz_lt (l.flatten.length:Int)
 obtain ⟨t',t1,t2⟩:=runB_some (N:=200000) (by omega) (nb l.flatten.length) mw _ first_W hall hlen
 match t',t1,t2 with
 | ⟨[a,b,c,d,e],ht⟩,t1,t2=>
  obtain ⟨D,d1,d2⟩:=digest_ok (N:=200000) a b c d e ht t1 (by omega)
  refine ⟨a,b,c,d,e,ht,D,t2,t1,d1, ?_⟩
  have hj:∀ h0,_:=fun h0=>joinS (N:=200000) l h0 hl (fun p hp=>by have:=(hs p hp).1;omega) (by omega)
  have hwn:gt .u64 (l.flatten.length:Int)=(l.flatten.length:Int):=aK (by omega) (by omega)
  have htail:=za (N:=200000) (l.flatten.length:Int) (by omega) (by omega)
  have c4:(decide ((0:Int)≤(0:Int)∧(0:Int)≤(l.flatten.length:Int))&&ae (Dp (l.flatten.length:Int)) 1)=true:=by
   rw [DO]
   exact ⟨decide_eq_true ⟨by omega,by omega⟩,aC (by have:=aJ;omega) (by omega)⟩
  have c5:ae (l.flatten.length+(oQ (l.flatten.length:Int)).length) 1=true:=aC (by have:=aJ;omega) (by omega)
  have hloop:∀ h0,rM 200000 (((l.flatten++oQ (l.flatten.length:Int)),((0:Int),())),(h0,(mw,(ks05,()))))=some ((),(h0,((⟨[a,b,c,d,e],ht⟩:Arr Int 5),()))):=fun h0=>
   loopOf (N:=200000) (by omega) _ (by rw [Ds];omega) h0 (nb l.flatten.length) 200000 0 mw _ (by rw [Ds] at hlen;omega) (by rw [hlen];omega) t2
  have e0:Do (Dp 0) (0:Int)=[]:=rfl
  unfold fH
  rw [(hj _).1,ne]
  simp only [c4,cond_true,e0]
  rw [(hj _).2,ne]
  simp only [hwn]
  rw [htail,ne]
  simp only [c5,cond_true,aji,ne]
  refine (congrArg (fun o=>Dt o _) (hloop _)).trans ?_
  simp only [ne,d2]
theorem refOf_ok (b:List Int)(hb:AllB b)(hl:b.length≤1000){a c d e f:Int}{ht:([a,c,d,e,f]:List Int).length=5}(hr:runB 200000 (nb b.length) mw (b++oQ (b.length:Int))=some ⟨[a,c,d,e,f],ht⟩):
  ∃ D:Arr Int 20,D.l=dg5 a c d e f∧oF 200000 b=some D:=by
 have htl:=sZ (b.length:Int)
 have hnz:=nz_lt (b.length:Int)
 have hlen:=nb_ok b.length b rfl
 have hwn:gt .u64 (b.length:Int)=(b.length:Int):=aK (by omega) (by omega)
 have htail:=xA (N:=200000) (b.length:Int) (by omega) (by omega)
 have c0:ae b.length 1=true:=aC (by have:=aJ;omega) (by omega)
 have c5:ae (b.length+(oQ (b.length:Int)).length) 1=true:=aC (by have:=aJ;omega) (by omega)
 obtain ⟨D,d1,d2⟩:=outRef (N:=200000) (by omega) a c d e f ht ⟨Do 20 0,rfl⟩ 20 200000 0 ⟨Do 20 0,rfl⟩ (by omega) (by omega)
 have hloop:pY 200000 (((0:Int),()),((⟨Do 20 0,rfl⟩:Arr Int 20),((b++oQ (b.length:Int)),(mw,()))))=some ((),((⟨Do 20 0,rfl⟩:Arr Int 20),((⟨[a,c,d,e,f],ht⟩:Arr Int 5),()))):=
  loopRef (N:=200000) (by omega) _ (by rw [Ds];omega) (hb.append (aeu _)) _ (nb b.length) 200000 0 mw _ (by rw [Ds] at hlen;omega) (by rw [hlen];omega) first_W hr
 have hout:o7 200000 (((0:Int),()),((⟨Do 20 0,rfl⟩:Arr Int 20),((⟨[a,c,d,e,f],ht⟩:Arr Int 5),((⟨Do 20 0,rfl⟩:Arr Int 20),()))))=some ((),((⟨Do 20 0,rfl⟩:Arr Int 20),(D,()))):=d2
 refine ⟨D,by simpa using d1, ?_⟩
 unfold oF
 simp only [c0,cond_true,hwn,htail,ne,c5]
 refine (congrArg (fun o=>Dt o _) hloop).trans ?_
 simp only [ne]
 refine (congrArg (fun o=>Dt o _) hout).trans ?_
 rfl
theorem wfB_b {n:Nat}(a:Arr Int n)(h:AllB a.l):wfB (.arr n (.int .u8)) a=true:=List.all_eq_true.2 fun x hx=>by
 have h1:=h x hx
 show (Lit.int .u8 x).wf=true
 simp only [Lit.wf,DO,decide_eq_true_eq,IntKind.min,IntKind.max,IntKind.signed,Dr]
 simp
 omega
end Go.Proofs.YtllpjoggnfclgaaGreatDoor.Sh
namespace Go.Proofs.YtllpjoggnfclgaaGreatDoor
set_option maxRecDepth 100000
open Go.RowKit
set_option linter.unusedVariables false
set_option linter.unusedSimpArgs false
set_option maxRecDepth 100000
theorem akL {l:List (List Int)}(h:∀ p∈l,AllB p):AllB l.flatten:=fun x hx=>by
 obtain ⟨p,hp,hx⟩:=List.mem_flatten.1 hx
 exact h p hp x hx
theorem CU {l:List (List Int)}{n:Nat}(hf:l.flatten.length≤n):∀ p∈l,p.length≤n:=fun p hp=>by
 have:=(List.sublist_flatten_of_mem hp).length_le
 omega
theorem aiK (l:List (List Int))(hl:l.length≤1000)(hs:∀ p∈l,AllB p)(hf:l.flatten.length≤1000):∃ D:Arr Int 16,AllB D.l∧rQ 200000 l=some D∧jZ 200000 l.flatten=some D:=by
 obtain ⟨a,b,c,d,ht,D,r1,r2,r3,r4⟩:=of_ok l hl (fun p hp=>⟨by have:=CU hf p hp;omega,hs p hp⟩) (by omega)
 obtain ⟨D',q1,q2⟩:=refOf_ok l.flatten (akL hs) hf r1
 have hD:D'=D:=Arr.eq (by rw [q1,r3])
 subst hD
 exact ⟨D',by rw [q1];exact asp _ _ _ _,r4,q2⟩
theorem nq (l:List (List Int))(hl:l.length≤1000)(hs:∀ p∈l,AllB p)(hf:l.flatten.length≤1000):∃ D:Arr Int 20,AllB D.l∧fH 200000 l=some D∧oF 200000 l.flatten=some D:=by
 obtain ⟨a,b,c,d,e,ht,D,r1,r2,r3,r4⟩:=Sh.of_ok l hl (fun p hp=>⟨by have:=CU hf p hp;omega,hs p hp⟩) (by omega)
 obtain ⟨D',q1,q2⟩:=Sh.refOf_ok l.flatten (akL hs) hf r1
 have hD:D'=D:=Arr.eq (by rw [q1,r3])
 subst hD
 exact ⟨D',by rw [q1];exact Sh.dg5_B _ _ _ _ _,r4,q2⟩
def cb (b:UInt8):Bool:=decide (128≤b.toNat∧b.toNat<192)
def n2 (a b:UInt8):Nat:=(a.toNat-192)*64+(b.toNat-128)
def n3 (a b c:UInt8):Nat:=(a.toNat-224)*4096+(b.toNat-128)*64+(c.toNat-128)
def n4 (a b c d:UInt8):Nat:=(a.toNat-240)*262144+(b.toNat-128)*4096+(c.toNat-128)*64+(d.toNat-128)
def sg:List UInt8→Nat×Nat
 | []=>(0,0)
 | b0::r=>
  if b0.toNat<128 then (b0.toNat,1)
  else if 192≤b0.toNat∧b0.toNat<224 then (match r with
   | b1::_=>if cb b1=true∧128≤n2 b0 b1 then (n2 b0 b1,2) else (0,0)
   | _=>(0,0))
  else if 224≤b0.toNat∧b0.toNat<240 then (match r with
   | b1::b2::_=>if cb b1=true∧cb b2=true∧2048≤n3 b0 b1 b2∧¬ (55296≤n3 b0 b1 b2∧n3 b0 b1 b2≤57343) then (n3 b0 b1 b2,3) else (0,0)
   | _=>(0,0))
  else if 240≤b0.toNat∧b0.toNat<248 then (match r with
   | b1::b2::b3::_=>if cb b1=true∧cb b2=true∧cb b3=true∧65536≤n4 b0 b1 b2 b3∧n4 b0 b1 b2 b3≤1114111 then (n4 b0 b1 b2 b3,4) else (0,0)
   | _=>(0,0))
  else (0,0)
theorem fE (b:UInt8):b.toNat<256:=b.toNat_lt
theorem cX {b:UInt8}:cb b=true↔128≤b.toNat∧b.toNat<192:=by simp [cb]
theorem aqH {b:UInt8}:cb b=false↔¬ (128≤b.toNat∧b.toNat<192):=by simp [cb]
section
variable {N:Nat}
theorem alL (s:List UInt8)(j:Nat):fj N s (j:Int)=some (match s[j]? with
  | some b=>if cb b=true then (((b.toNat-128:Nat):Int),true) else (0,false)
  | none=>(0,false)):=by
 cases h:s[j]? with
 | none=>
  have hl:(s.length:Int)≤(j:Int):=by have:=List.getElem?_eq_none_iff.1 h;omega
  simp [fj,hl]
 | some b=>
  obtain ⟨hj,hb⟩:=List.getElem?_eq_some_iff.1 h
  have hl:¬ (s.length:Int)≤(j:Int):=by omega
  have hg:getI s (j:Int)=some b:=by rw [qo,h]
  have hlt:=fE b
  cases hc:cb b with
  | true=>
   rw [cX] at hc
   have c1:¬ (b.toNat:Int)<128:=by omega
   have c2:¬ (191:Int)<(b.toNat:Int):=by omega
   have e1:gt .i64 (b.toNat:Int)=(b.toNat:Int):=ac (by omega) (by omega)
   have e2:gt .i64 ((b.toNat:Int)-128)=((b.toNat-128:Nat):Int):=by rw [ac (by omega) (by omega)];omega
   have hc2:=cX.2 hc
   simp [fj,hl,hg,c1,c2,e1,e2,hc2]
  | false=>
   have hcf:=hc
   rw [aqH] at hc
   by_cases c1:(b.toNat:Int)<128
   ·simp [fj,hl,hg,c1,hcf]
   ·have c2:(191:Int)<(b.toNat:Int):=by omega
    simp [fj,hl,hg,c1,c2,hcf]
theorem CL (X)(s:List UInt8)(i need n k:Nat)(least:Int)(h1:i<1000000000)(h2:n<1000000000)(h3:k<10):dS N X s (i:Int) (need:Int) (n:Int) least (k:Int)=
  if k≤need then (match s[i+k]? with
   | some b=>if cb b=true then X ((s,((i:Int),((need:Int),(((64*n+(b.toNat-128):Nat):Int),(least,(((k+1:Nat):Int),())))))),()) else some (.inl ((0,(0,())),()))
   | none=>some (.inl ((0,(0,())),())))
  else some (.inr (((need:Int),((n:Int),(least,()))),())):=by
 have e0:gt .i64 ((i:Int)+(k:Int))=((i+k:Nat):Int):=by rw [ac (by omega) (by omega)];omega
 have e1:gt .i64 ((k:Int)+1)=((k+1:Nat):Int):=by rw [ac (by omega) (by omega)];omega
 have e2:gt .i64 (64*(n:Int))=((64*n:Nat):Int):=by rw [ac (by omega) (by omega)];omega
 unfold dS
 rw [e0,alL]
 by_cases hk:k≤need
 ·have c1:(k:Int)≤(need:Int):=by omega
  rw [if_pos hk]
  simp only [c1,decide_true,cond_true,ne]
  cases h:s[i+k]? with
  | none=>simp
  | some b=>
   have hlt:=fE b
   cases hc:cb b with
   | false=>simp [hc]
   | true=>
    have e3:gt .i64 (((64*n:Nat):Int)+((b.toNat-128:Nat):Int))=((64*n+(b.toNat-128):Nat):Int):=by rw [ac (by omega) (by omega)];omega
    simp only [hc,if_true,Ed,cond_false,e1,e2,e3]
 ·have c1:¬ (k:Int)≤(need:Int):=by omega
  rw [if_neg hk]
  simp only [c1,decide_false,cond_false]
def mO:Nat→List UInt8→Nat→Option Nat
 | 0,_,n=>some n
 | _+1,[],_=>none
 | k+1,b::r,n=>if cb b=true then mO k r (64*n+(b.toNat-128)) else none
theorem afm (s:List UInt8)(i need:Nat)(least:Int)(h1:i<1000000000)(hn:need≤3):∀ (left k M n:Nat),k+left=need+1→1≤k→left<M→n<64 ^ k→
  gl (fun X c=>dS N X c.1.1 c.1.2.1 c.1.2.2.1 c.1.2.2.2.1 c.1.2.2.2.2.1 c.1.2.2.2.2.2.1) M ((s,((i:Int),((need:Int),((n:Int),(least,((k:Int),())))))),())=
   some (match mO left (s.drop (i+k)) n with
    | some m=>.inr (((need:Int),((m:Int),(least,()))),())
    | none=>.inl ((0,(0,())),()))
 | 0,k,M+1,n,hk,hk1,hM,hn2=>by
  have hb:(64:Nat) ^ k≤64 ^ 4:=DD (by decide) (by omega)
  have hb4:(64:Nat) ^ 4=16777216:=by decide
  rw [ah,CL _ s i need n k least h1 (by omega) (by omega),if_neg (by omega)]
  rfl
 | left+1,k,M+1,n,hk,hk1,hM,hn2=>by
  have hb:(64:Nat) ^ k≤64 ^ 4:=DD (by decide) (by omega)
  have hb4:(64:Nat) ^ 4=16777216:=by decide
  rw [ah,CL _ s i need n k least h1 (by omega) (by omega),if_pos (by omega)]
  cases h:s[i+k]? with
  | none=>
   have:=List.getElem?_eq_none_iff.1 h
   rw [DR this]
   rfl
  | some b=>
   obtain ⟨hj,hbb⟩:=List.getElem?_eq_some_iff.1 h
   rw [Dv hj,hbb]
   have hlt:=fE b
   simp only [mO]
   cases hc:cb b with
   | false=>rfl
   | true=>
    rw [cX] at hc
    have hp:64 ^ (k+1)=64*64 ^ k:=by rw [Nat.pow_succ];omega
    have ih:=afm s i need least h1 hn left (k+1) M (64*n+(b.toNat-128)) (by omega) (by omega) (by omega) (by rw [hp];omega)
    simp only [if_true]
    exact ih
theorem ald (hN:10≤N)(s:List UInt8)(i:Nat)(hi:i<s.length)(hb:s.length<1000000000):ld N s (i:Int)=some (((sg (s.drop i)).1:Int),((sg (s.drop i)).2:Int)):=by
 have hd:=Dv hi
 obtain ⟨b0,hb0⟩:∃ b,b=s[i]:=⟨_,rfl⟩
 obtain ⟨r,hr⟩:∃ r,r=s.drop (i+1):=⟨_,rfl⟩
 rw [←hb0,←hr] at hd
 have hg:getI s (i:Int)=some b0:=by rw [a7 s i hi,hb0]
 have hlt:=fE b0
 have w0:gt .i64 (b0.toNat:Int)=b0.toNat:=ac (by omega) (by omega)
 have L:∀ (need n:Nat) (least:Int),1≤need→need≤3→n<64→b9 N ((s,((i:Int),((need:Int),((n:Int),(least,((1:Int),())))))),())=
   some (match mO need r n with
    | some m=>.inr (((need:Int),((m:Int),(least,()))),())
    | none=>.inl ((0,(0,())),())):=fun need n least h1 h2 h3=>by
  have:=afm (N:=N) s i need least (by omega) h2 need 1 N n (by omega) (by omega) (by omega) (by omega)
  rw [hr]
  exact this
 rw [hd]
 unfold ld
 rw [hg]
 simp only [ne,w0]
 by_cases c1:b0.toNat<128
 ·have d1:(b0.toNat:Int)<128:=by omega
  simp [sg,c1,d1]
 have d1:¬ (b0.toNat:Int)<128:=by omega
 by_cases c2:192≤b0.toNat∧b0.toNat<224
 ·have d2:(192:Int)≤(b0.toNat:Int):=by omega
  have d3:(b0.toNat:Int)<224:=by omega
  have e1:gt .i64 ((b0.toNat:Int)-192)=((b0.toNat-192:Nat):Int):=by rw [ac (by omega) (by omega)];omega
  have l:=L 1 (b0.toNat-192) 128 (by omega) (by omega) (by omega)
  simp only [d1,d2,d3,decide_true,decide_false,cond_true,cond_false,e1]
  have l':b9 N ((s,((i:Int),((1:Int),(((b0.toNat-192:Nat):Int),((128:Int),((1:Int),())))))),())=_:=l
  rw [l']
  simp only [sg,c1,if_false,c2,and_self,if_true]
  cases r with
  | nil=>simp [mO]
  | cons b1 r=>
   have hlt1:=fE b1
   cases hc:cb b1 with
   | false=>simp [mO,hc]
   | true=>
    have hc':=cX.1 hc
    have e2:64*(b0.toNat-192)+(b1.toNat-128)=n2 b0 b1:=by unfold n2;omega
    have hn:n2 b0 b1<2048:=by unfold n2;omega
    simp only [mO,hc,if_true,e2,ne,Sum.elim_inr]
    have q1:¬ (1114111:Int)<(n2 b0 b1:Int):=by omega
    have q2:¬ (55296:Int)≤(n2 b0 b1:Int):=by omega
    by_cases q3:128≤n2 b0 b1
    ·have q4:¬ (n2 b0 b1:Int)<128:=by omega
     simp [q1,q2,q3,q4,ac]
    ·have q4:(n2 b0 b1:Int)<128:=by omega
     simp [q3,q4]
 by_cases c3:224≤b0.toNat∧b0.toNat<240
 ·have d2:(192:Int)≤(b0.toNat:Int):=by omega
  have d3:¬ (b0.toNat:Int)<224:=by omega
  have d4:(224:Int)≤(b0.toNat:Int):=by omega
  have d5:(b0.toNat:Int)<240:=by omega
  have e1:gt .i64 ((b0.toNat:Int)-224)=((b0.toNat-224:Nat):Int):=by rw [ac (by omega) (by omega)];omega
  have l:=L 2 (b0.toNat-224) 2048 (by omega) (by omega) (by omega)
  simp only [d1,d2,d3,d4,d5,decide_true,decide_false,cond_true,cond_false,e1]
  have l':b9 N ((s,((i:Int),((2:Int),(((b0.toNat-224:Nat):Int),((2048:Int),((1:Int),())))))),())=_:=l
  rw [l']
  simp only [sg,c1,if_false,c2,c3,and_self,if_true]
  match r with
  | []=>simp [mO]
  | [b1]=>cases hc:cb b1 <;> simp [mO,hc]
  | b1::b2::r=>
   have hlt1:=fE b1
   have hlt2:=fE b2
   cases hc:cb b1 with
   | false=>simp [mO,hc]
   | true=>
    cases hc2:cb b2 with
    | false=>simp [mO,hc,hc2]
    | true=>
     have hc':=cX.1 hc
     have hc2':=cX.1 hc2
     have e2:64*(64*(b0.toNat-224)+(b1.toNat-128))+(b2.toNat-128)=n3 b0 b1 b2:=by unfold n3;omega
     have hn:n3 b0 b1 b2<65536:=by unfold n3;omega
     simp only [mO,hc,hc2,if_true,e2,ne,Sum.elim_inr]
     have q1:¬ (1114111:Int)<(n3 b0 b1 b2:Int):=by omega
     by_cases q3:2048≤n3 b0 b1 b2
     ·have q4:¬ (n3 b0 b1 b2:Int)<2048:=by omega
      by_cases q5:55296≤n3 b0 b1 b2
      ·have q6:(55296:Int)≤(n3 b0 b1 b2:Int):=by omega
       by_cases q7:n3 b0 b1 b2≤57343
       ·have q8:(n3 b0 b1 b2:Int)≤57343:=by omega
        simp [q1,q3,q4,q5,q6,q7,q8]
       ·have q8:¬ (n3 b0 b1 b2:Int)≤57343:=by omega
        simp [q1,q3,q4,q5,q6,q7,q8,ac]
      ·have q6:¬ (55296:Int)≤(n3 b0 b1 b2:Int):=by omega
       simp [q1,q3,q4,q5,q6,ac]
     ·have q4:(n3 b0 b1 b2:Int)<2048:=by omega
      simp [q3,q4]
 have hne:¬ ((192:Int)≤(b0.toNat:Int)∧(b0.toNat:Int)<224):=by omega
 have hne2:¬ ((224:Int)≤(b0.toNat:Int)∧(b0.toNat:Int)<240):=by omega
 by_cases c4:240≤b0.toNat∧b0.toNat<248
 ·have d2:(192:Int)≤(b0.toNat:Int):=by omega
  have d3:¬ (b0.toNat:Int)<224:=by omega
  have d4:(224:Int)≤(b0.toNat:Int):=by omega
  have d5:¬ (b0.toNat:Int)<240:=by omega
  have d6:(240:Int)≤(b0.toNat:Int):=by omega
  have d7:(b0.toNat:Int)<248:=by omega
  have e1:gt .i64 ((b0.toNat:Int)-240)=((b0.toNat-240:Nat):Int):=by rw [ac (by omega) (by omega)];omega
  have l:=L 3 (b0.toNat-240) 65536 (by omega) (by omega) (by omega)
  simp only [d1,d2,d3,d4,d5,d6,d7,decide_true,decide_false,cond_true,cond_false,e1]
  have l':b9 N ((s,((i:Int),((3:Int),(((b0.toNat-240:Nat):Int),((65536:Int),((1:Int),())))))),())=_:=l
  rw [l']
  simp only [sg,c1,if_false,c2,c3,c4,and_self,if_true]
  match r with
  | []=>simp [mO]
  | [b1]=>cases hc:cb b1 <;> simp [mO,hc]
  | [b1,b2]=>cases hc:cb b1 <;> cases hc2:cb b2 <;> simp [mO,hc,hc2]
  | b1::b2::b3::r=>
   have hlt1:=fE b1
   have hlt2:=fE b2
   have hlt3:=fE b3
   cases hc:cb b1 with
   | false=>simp [mO,hc]
   | true=>
    cases hc2:cb b2 with
    | false=>simp [mO,hc,hc2]
    | true=>
     cases hc3:cb b3 with
     | false=>simp [mO,hc,hc2,hc3]
     | true=>
      have hc':=cX.1 hc
      have hc2':=cX.1 hc2
      have hc3':=cX.1 hc3
      have e2:64*(64*(64*(b0.toNat-240)+(b1.toNat-128))+(b2.toNat-128))+(b3.toNat-128)=n4 b0 b1 b2 b3:=by unfold n4;omega
      simp only [mO,hc,hc2,hc3,if_true,e2,ne,Sum.elim_inr]
      by_cases q3:65536≤n4 b0 b1 b2 b3
      ·have q4:¬ (n4 b0 b1 b2 b3:Int)<65536:=by omega
       have q6:(55296:Int)≤(n4 b0 b1 b2 b3:Int):=by omega
       have q8:¬ (n4 b0 b1 b2 b3:Int)≤57343:=by omega
       by_cases q1:n4 b0 b1 b2 b3≤1114111
       ·have q2:¬ (1114111:Int)<(n4 b0 b1 b2 b3:Int):=by omega
        simp [q1,q2,q3,q4,q6,q8,ac]
       ·have q2:(1114111:Int)<(n4 b0 b1 b2 b3:Int):=by omega
        simp [q1,q2,q3,q4]
      ·have q4:(n4 b0 b1 b2 b3:Int)<65536:=by omega
       simp [q3,q4]
 simp only [sg,c1,if_false,c2,c3,c4]
 by_cases d2:(192:Int)≤(b0.toNat:Int)
 ·have d3:¬ (b0.toNat:Int)<224:=by omega
  have d4:(224:Int)≤(b0.toNat:Int):=by omega
  have d5:¬ (b0.toNat:Int)<240:=by omega
  have d6:(240:Int)≤(b0.toNat:Int):=by omega
  have d7:¬ (b0.toNat:Int)<248:=by omega
  simp [d1,d2,d3,d4,d5,d6,d7]
 ·have d4:¬ (224:Int)≤(b0.toNat:Int):=by omega
  have d6:¬ (240:Int)≤(b0.toNat:Int):=by omega
  simp [d1,d2,d4,d6]
end
theorem aeK:∀ l:List UInt8,(sg l).2≤l.length∧(sg l).1≤1114111
 | []=>by simp [sg]
 | b0::r=>by
  have hlt:=fE b0
  by_cases c1:b0.toNat<128
  ·simp only [sg,c1,if_true,Dw];omega
  by_cases c2:192≤b0.toNat∧b0.toNat<224
  ·simp only [sg,c1,c2,and_self,if_true,if_false]
   match r with
   | []=>simp
   | b1::r=>
    have:=fE b1
    simp only
    split
    ·unfold n2;simp only [Dw];omega
    ·simp
  by_cases c3:224≤b0.toNat∧b0.toNat<240
  ·simp only [sg,c1,c2,c3,and_self,if_true,if_false]
   match r with
   | []=>simp
   | [b1]=>simp
   | b1::b2::r=>
    have:=fE b1
    have:=fE b2
    simp only
    split
    ·unfold n3;simp only [Dw];omega
    ·simp
  by_cases c4:240≤b0.toNat∧b0.toNat<248
  ·simp only [sg,c1,c2,c3,c4,and_self,if_true,if_false]
   match r with
   | []=>simp
   | [b1]=>simp
   | [b1,b2]=>simp
   | b1::b2::b3::r=>
    simp only
    split
    ·rename_i h;simp only [Dw];omega
    ·simp
  simp [sg,c1,c2,c3,c4]
theorem ale (l:List UInt8):(sg l).2≤l.length:=(aeK l).1
theorem CH (l:List UInt8):(sg l).1≤1114111:=(aeK l).2
def sgs (l:List UInt8):Option (List Nat):=
 if h:l=[] then some [] else if hw:(sg l).2=0 then none else (sgs (l.drop (sg l).2)).map ((sg l).1:: ·)
termination_by l.length
decreasing_by
 have:l.length≠0:=fun h0=>h (List.eq_nil_of_length_eq_zero h0)
 simp only [Du];omega
theorem xf:sgs []=some []:=by rw [sgs];simp
theorem th {l:List UInt8}(h:l≠[])(hw:(sg l).2=0):sgs l=none:=by rw [sgs];simp [h,hw]
theorem vT {l:List UInt8}(h:l≠[])(hw:(sg l).2≠0):sgs l=(sgs (l.drop (sg l).2)).map ((sg l).1:: ·):=by rw [sgs];simp [h,hw]
theorem k9:∀ (n:Nat) (l:List UInt8) (m:List Nat),l.length≤n→sgs l=some m→(∀ x∈m,x≤1114111)∧m.length≤l.length
 | n,[],m,_,h=>by rw [xf] at h;injection h with h;subst h;simp
 | 0,b::l,m,hn,h=>by simp at hn
 | n+1,b::l,m,hn,h=>by
  by_cases hw:(sg (b::l)).2=0
  ·rw [th (by simp) hw] at h;cases h
  ·rw [vT (by simp) hw,Option.map_eq_some_iff] at h
   obtain ⟨m',h1,rfl⟩:=h
   have hd:((b::l).drop (sg (b::l)).2).length≤n:=by rw [Du];omega
   obtain ⟨i1,i2⟩:=k9 n _ m' hd h1
   refine ⟨fun x hx=> ?_, ?_⟩
   ·rcases DY.1 hx with rfl | hx
    ·exact CH _
    ·exact i1 x hx
   ·have:=ale (b::l)
    rw [Du] at i2
    rw [Dw]
    omega
theorem cb64 (b:UInt8):(b.toNat / 64==2)=cb b:=by
 rw [Ec]
 simp only [beq_iff_eq,cb,decide_eq_true_eq]
 omega
theorem bget (s:List UInt8)(j:Nat):(ByteArray.mk s.toArray).get! j=s.getD j default:=by
 show s.toArray[j]! =_
 rw [List.getElem!_toArray,List.getElem!_eq_getElem?_getD,List.getD_eq_getElem?_getD]
theorem ae1 (s:List UInt8)(i:Nat)(hi:i<s.length):rdec s (i:Int)=if (sg (s.drop i)).2=0 then (65533,1) else (((sg (s.drop i)).1:Int),((sg (s.drop i)).2:Int)):=by
 have hd:=Dv hi
 obtain ⟨b0,hb0⟩:∃ b,b=s[i]:=⟨_,rfl⟩
 obtain ⟨r,hr⟩:∃ r,r=s.drop (i+1):=⟨_,rfl⟩
 rw [←hb0,←hr] at hd
 have hlt:=fE b0
 have hsz:(ByteArray.mk s.toArray).size=s.length:=by show s.toArray.size=_;simp
 have at0:s.getD i default=b0:=by rw [List.getD_eq_getElem?_getD,List.getElem?_eq_getElem hi,Option.getD_some,hb0]
 have g:∀ k,s[i+(k+1)]? =r[k]? :=fun k=>by rw [hr,List.getElem?_drop];congr 1;omega
 have ats:∀ k b,r[k]? =some b→s.getD (i+(k+1)) default=b∧decide (i+(k+1)<s.length)=true:=fun k b h=>by
  have h1:=g k
  rw [h] at h1
  exact ⟨by rw [List.getD_eq_getElem?_getD,h1];rfl,decide_eq_true (List.getElem?_eq_some_iff.1 h1).1⟩
 have atn:∀ k,r[k]? =none→decide (i+(k+1)<s.length)=false:=fun k h=>by
  have h1:=g k
  rw [h] at h1
  exact decide_eq_false (by have:=List.getElem?_eq_none_iff.1 h1;omega)
 rw [hd]
 unfold rdec Utf8.decode
 simp only [Dq,hsz,bget,Nat.add_zero,at0,cb64]
 have m2:(b0.toNat / 32==6)=decide (192≤b0.toNat∧b0.toNat<224):=by rw [Ec];simp only [beq_iff_eq,decide_eq_true_eq];omega
 have m3:(b0.toNat / 16==14)=decide (224≤b0.toNat∧b0.toNat<240):=by rw [Ec];simp only [beq_iff_eq,decide_eq_true_eq];omega
 have m4:(b0.toNat / 8==30)=decide (240≤b0.toNat∧b0.toNat<248):=by rw [Ec];simp only [beq_iff_eq,decide_eq_true_eq];omega
 simp only [m2,m3,m4]
 by_cases c1:b0.toNat<128
 ·simp [sg,c1]
 simp only [c1,if_false]
 by_cases c2:192≤b0.toNat∧b0.toNat<224
 ·have c3:¬ (224≤b0.toNat∧b0.toNat<240):=by omega
  have c4:¬ (240≤b0.toNat∧b0.toNat<248):=by omega
  simp only [sg,c1,if_false,c2,c3,c4,and_self,decide_true,decide_false,Ee,Bool.false_and,if_true,Bool.false_eq_true]
  match r,ats,atn with
  | [],ats,atn=>
   simp [atn 0 rfl,DC]
  | b1::r,ats,atn=>
   obtain ⟨a1,a2⟩:=ats 0 b1 rfl
   simp only [Nat.zero_add] at a1 a2
   have hlt1:=fE b1
   simp only [a1,a2,Ee]
   cases hc:cb b1 with
   | false=>simp [DC]
   | true=>
    have hc':=cX.1 hc
    have e2:b0.toNat % 32*64+b1.toNat % 64=n2 b0 b1:=by unfold n2;omega
    simp only [if_true,e2,true_and,ge_iff_le]
    by_cases q3:128≤n2 b0 b1 <;> simp [q3,DC]
 by_cases c3:224≤b0.toNat∧b0.toNat<240
 ·have c4:¬ (240≤b0.toNat∧b0.toNat<248):=by omega
  simp only [sg,c1,if_false,c2,c3,c4,and_self,decide_true,decide_false,Ee,Bool.false_and,if_true,Bool.false_eq_true]
  match r,ats,atn with
  | [],ats,atn=>simp [atn 0 rfl,DC]
  | [b1],ats,atn=>
   have h2:=atn 1 rfl
   simp only [Ef] at h2
   simp [h2,DC]
  | b1::b2::r,ats,atn=>
   obtain ⟨a1,a2⟩:=ats 0 b1 rfl
   obtain ⟨a3,a4⟩:=ats 1 b2 rfl
   simp only [Nat.zero_add,Ef] at a1 a2 a3 a4
   have hlt1:=fE b1
   have hlt2:=fE b2
   simp only [a1,a2,a3,a4,Ee]
   cases hc:cb b1 with
   | false=>simp [DC]
   | true=>
    cases hc2:cb b2 with
    | false=>simp [DC]
    | true=>
     have hc':=cX.1 hc
     have hc2':=cX.1 hc2
     have e2:b0.toNat % 16*4096+b1.toNat % 64*64+b2.toNat % 64=n3 b0 b1 b2:=by unfold n3;omega
     have hn:n3 b0 b1 b2<65536:=by unfold n3;omega
     have hv:Utf8.valid ((n3 b0 b1 b2:Nat):Int)=decide (¬ (55296≤n3 b0 b1 b2∧n3 b0 b1 b2≤57343)):=by
      rw [Ec]
      simp only [Utf8.valid,Bool.or_eq_true,DO,decide_eq_true_eq]
      omega
     simp only [if_true,e2,true_and,ge_iff_le,Bool.and_self,hv]
     by_cases q3:2048≤n3 b0 b1 b2
     ·by_cases q5:55296≤n3 b0 b1 b2∧n3 b0 b1 b2≤57343
      ·simp [q3,q5,DC]
      ·simp only [q3,q5,decide_true,decide_false,not_false_eq_true,Ee,if_true,and_self];simp
     ·simp [q3,DC]
 by_cases c4:240≤b0.toNat∧b0.toNat<248
 ·simp only [sg,c1,if_false,c2,c3,c4,and_self,decide_true,decide_false,Ee,Bool.false_and,if_true,Bool.false_eq_true]
  match r,ats,atn with
  | [],ats,atn=>simp [atn 0 rfl,DC]
  | [b1],ats,atn=>
   have h2:=atn 1 rfl
   simp only [Ef] at h2
   simp [h2,DC]
  | [b1,b2],ats,atn=>
   have h2:=atn 2 rfl
   simp only [Ef] at h2
   simp [h2,DC]
  | b1::b2::b3::r,ats,atn=>
   obtain ⟨a1,a2⟩:=ats 0 b1 rfl
   obtain ⟨a3,a4⟩:=ats 1 b2 rfl
   obtain ⟨a5,a6⟩:=ats 2 b3 rfl
   simp only [Nat.zero_add,Ef] at a1 a2 a3 a4 a5 a6
   have hlt1:=fE b1
   have hlt2:=fE b2
   have hlt3:=fE b3
   simp only [a1,a2,a3,a4,a5,a6,Ee]
   cases hc:cb b1 with
   | false=>simp [DC]
   | true=>
    cases hc2:cb b2 with
    | false=>simp [DC]
    | true=>
     cases hc3:cb b3 with
     | false=>simp [DC]
     | true=>
      have hc':=cX.1 hc
      have hc2':=cX.1 hc2
      have hc3':=cX.1 hc3
      have e2:b0.toNat % 8*262144+b1.toNat % 64*4096+b2.toNat % 64*64+b3.toNat % 64=n4 b0 b1 b2 b3:=by unfold n4;omega
      simp only [if_true,e2,true_and,ge_iff_le,Bool.and_self]
      by_cases q3:65536≤n4 b0 b1 b2 b3
      ·have hv:Utf8.valid ((n4 b0 b1 b2 b3:Nat):Int)=decide (n4 b0 b1 b2 b3≤1114111):=by
        rw [Ec]
        simp only [Utf8.valid,Bool.or_eq_true,DO,decide_eq_true_eq]
        omega
       rw [hv]
       by_cases q5:n4 b0 b1 b2 b3≤1114111 <;> simp [q3,q5,DC]
      ·simp [q3,DC]
 simp [sg,c1,c2,c3,c4,DC]
theorem aeJ {b:UInt8}{l:List UInt8}(h:b.toNat<128):sg (b::l)=(b.toNat,1):=by simp [sg,h]
theorem aeG:∀ (k:Nat) (l:List UInt8),k≤l.length→(∀ j b,j<k→l[j]? =some b→b.toNat<128)→(sgs (l.drop k)).isSome=(sgs l).isSome
 | 0,l,_,_=>by simp
 | k+1,[],hk,_=>by simp at hk
 | k+1,b::l,hk,h=>by
  have hb:=h 0 b (by omega) rfl
  rw [List.drop_succ_cons,aeG k l (by simpa using hk) (fun j c hj hc=>h (j+1) c (by omega) (by simpa using hc)),vT (l:=b::l) (by simp) (by rw [aeJ hb];simp),aeJ hb]
  simp
theorem q64_and (a b:Nat)(ha:a<18446744073709551616)(hb:b<18446744073709551616):bits .and .u64 (a:Int) (b:Int)=((a&&&b:Nat):Int):=by
 have hx:a&&&b<2 ^ 64:=Nat.and_lt_two_pow (n:=64) a (by omega)
 show DM.wrap ((D9 64 (a:Int)&&&D9 64 (b:Int)).toNat:Int)=_
 rw [BitVec.toNat_and,m7 a ha,m7 b hb,DP]
 omega
theorem sh64 (b:UInt8)(k:Nat)(hk:k≤56):gt .u64 (gt .u64 (b.toNat:Int)*2 ^ k)=((b.toNat <<<k:Nat):Int):=by
 have hlt:=fE b
 have h1:gt .u64 (b.toNat:Int)=b.toNat:=aK (by omega) (by omega)
 have h2:b.toNat*2 ^ k<18446744073709551616:=by
  have:(2:Nat) ^ k≤2 ^ 56:=DD (by decide) hk
  calc b.toNat*2 ^ k≤255*2 ^ 56:=Nat.mul_le_mul (by omega) this
   _<_:=by decide
 rw [h1,Nat.shiftLeft_eq]
 have e:((b.toNat:Int)*2 ^ k)=((b.toNat*2 ^ k:Nat):Int):=by simp
 rw [e]
 exact aK (by omega) (by omega)
theorem k8 (b:UInt8)(k:Nat)(hk:k≤56):b.toNat <<<k<18446744073709551616:=by
 have hlt:=fE b
 have:(2:Nat) ^ k≤2 ^ 56:=DD (by decide) hk
 rw [Nat.shiftLeft_eq]
 calc b.toNat*2 ^ k≤255*2 ^ 56:=Nat.mul_le_mul (by omega) this
  _<_:=by decide
theorem eg {a b:Nat}(ha:a<18446744073709551616)(hb:b<18446744073709551616):a|||b<18446744073709551616:=Nat.or_lt_two_pow (n:=64) ha hb
def w8 (a b c d e f g h:UInt8):Nat:=(((((((a.toNat|||b.toNat <<<8)|||c.toNat <<<16)|||d.toNat <<<24)|||e.toNat <<<32)|||f.toNat <<<40)|||g.toNat <<<48)|||h.toNat <<<56)
theorem arU (a b c d e f g h:UInt8):w8 a b c d e f g h<18446744073709551616:=by
 have ha:a.toNat<18446744073709551616:=by have:=fE a;omega
 exact eg (eg (eg (eg (eg (eg (eg ha (k8 b 8 (by decide))) (k8 c 16 (by decide))) (k8 d 24 (by decide))) (k8 e 32 (by decide))) (k8 f 40 (by decide))) (k8 g 48 (by decide))) (k8 h 56 (by decide))
theorem aqt (b:UInt8)(n:Nat)(h:8≤n):b.toNat.testBit n=false:=Nat.testBit_lt_two_pow (Nat.lt_of_lt_of_le (fE b) (by have:(2:Nat) ^ 8≤2 ^ n:=DD (by decide) h;exact this))
theorem ak0 (a b c d e f g h:UInt8):
  (w8 a b c d e f g h).testBit 7=a.toNat.testBit 7∧(w8 a b c d e f g h).testBit 15=b.toNat.testBit 7∧(w8 a b c d e f g h).testBit 23=c.toNat.testBit 7∧(w8 a b c d e f g h).testBit 31=d.toNat.testBit 7∧(w8 a b c d e f g h).testBit 39=e.toNat.testBit 7∧(w8 a b c d e f g h).testBit 47=f.toNat.testBit 7∧(w8 a b c d e f g h).testBit 55=g.toNat.testBit 7∧(w8 a b c d e f g h).testBit 63=h.toNat.testBit 7:=by
 have z:∀ (x:UInt8) (n:Nat),8≤n→x.toNat.testBit n=false:=aqt
 refine ⟨?_, ?_, ?_, ?_, ?_, ?_, ?_, ?_⟩ <;> simp [w8,Nat.testBit_or,Nat.testBit_shiftLeft,z]
theorem rS {x:UInt8}(h:x.toNat.testBit 7=false):x.toNat<128:=by
 have hlt:=fE x
 rw [D5] at h
 simp at h
 omega
def hiM:Nat:=9259542123273814144
theorem alZ {w:Nat}(h:w&&&hiM=0):w.testBit 7=false∧w.testBit 15=false∧w.testBit 23=false∧w.testBit 31=false∧w.testBit 39=false∧w.testBit 47=false∧w.testBit 55=false∧w.testBit 63=false:=by
 have key:∀ i,hiM.testBit i=true→w.testBit i=false:=fun i hi=>by
  have h1:(w&&&hiM).testBit i=false:=by rw [h];simp
  rw [D4,hi,Bool.and_true] at h1
  exact h1
 exact ⟨key 7 (by decide),key 15 (by decide),key 23 (by decide),key 31 (by decide),key 39 (by decide),key 47 (by decide),key 55 (by decide),key 63 (by decide)⟩
def low8 (s:List UInt8):Prop:=∀ j b,j<8→s[j]? =some b→b.toNat<128
section
variable {N:Nat}
theorem word_ok (s:List UInt8)(h:8≤s.length):∃ w:Nat,w<18446744073709551616∧aA N s=some (w:Int)∧(w&&&hiM=0→low8 s):=by
 match s,h with
 | a::b::c::d::e::f::g::k::r,_=>
  refine ⟨w8 a b c d e f g k,arU _ _ _ _ _ _ _ _, ?_,fun hz=> ?_⟩
  ·have ga:getI (a::b::c::d::e::f::g::k::r) (0:Int)=some a:=rfl
   have gb:getI (a::b::c::d::e::f::g::k::r) (1:Int)=some b:=rfl
   have gc:getI (a::b::c::d::e::f::g::k::r) (2:Int)=some c:=rfl
   have gd:getI (a::b::c::d::e::f::g::k::r) (3:Int)=some d:=rfl
   have ge:getI (a::b::c::d::e::f::g::k::r) (4:Int)=some e:=rfl
   have gf:getI (a::b::c::d::e::f::g::k::r) (5:Int)=some f:=rfl
   have gg:getI (a::b::c::d::e::f::g::k::r) (6:Int)=some g:=rfl
   have gk:getI (a::b::c::d::e::f::g::k::r) (7:Int)=some k:=rfl
   have ha:a.toNat<18446744073709551616:=by have:=fE a;omega
   have e0:gt .u64 (a.toNat:Int)=a.toNat:=aK (by omega) (by omega)
   have m8:min (Dp 8) (Dr DM)=8:=by decide
   have m16:min (Dp 16) (Dr DM)=16:=by decide
   have m24:min (Dp 24) (Dr DM)=24:=by decide
   have m32:min (Dp 32) (Dr DM)=32:=by decide
   have m40:min (Dp 40) (Dr DM)=40:=by decide
   have m48:min (Dp 48) (Dr DM)=48:=by decide
   have m56:min (Dp 56) (Dr DM)=56:=by decide
   simp only [aA,ga,gb,gc,gd,ge,gf,gg,gk,ne,e0,m8,m16,m24,m32,m40,m48,m56,sh64 b 8 (by decide),sh64 c 16 (by decide),sh64 d 24 (by decide),sh64 e 32 (by decide),sh64 f 40 (by decide),sh64 g 48 (by decide),sh64 k 56 (by decide)]
   have l1:=eg ha (k8 b 8 (by decide))
   have l2:=eg l1 (k8 c 16 (by decide))
   have l3:=eg l2 (k8 d 24 (by decide))
   have l4:=eg l3 (k8 e 32 (by decide))
   have l5:=eg l4 (k8 f 40 (by decide))
   have l6:=eg l5 (k8 g 48 (by decide))
   rw [lB _ _ ha (k8 b 8 (by decide)),lB _ _ l1 (k8 c 16 (by decide)),lB _ _ l2 (k8 d 24 (by decide)),lB _ _ l3 (k8 e 32 (by decide)),lB _ _ l4 (k8 f 40 (by decide)),lB _ _ l5 (k8 g 48 (by decide)),lB _ _ l6 (k8 k 56 (by decide))]
   rfl
  ·obtain ⟨b1,b2,b3,b4,b5,b6,b7,b8⟩:=ak0 a b c d e f g k
   obtain ⟨z1,z2,z3,z4,z5,z6,z7,z8⟩:=alZ hz
   rw [z1] at b1;rw [z2] at b2;rw [z3] at b3;rw [z4] at b4;rw [z5] at b5;rw [z6] at b6;rw [z7] at b7;rw [z8] at b8
   intro j x hj hx
   have:j=0∨j=1∨j=2∨j=3∨j=4∨j=5∨j=6∨j=7:=by omega
   rcases this with rfl | rfl | rfl | rfl | rfl | rfl | rfl | rfl <;> (simp at hx;subst hx;first | exact rS b1.symm | exact rS b2.symm | exact rS b3.symm | exact rS b4.symm | exact rS b5.symm | exact rS b6.symm | exact rS b7.symm | exact rS b8.symm)
theorem jz {s:List UInt8}(h:8≤s.length)(hl:low8 s):(sgs (s.drop 8)).isSome=(sgs s).isSome:=aeG 8 s h hl
theorem xP {a b:Nat}(h:(a|||b)&&&hiM=0):a&&&hiM=0∧b&&&hiM=0:=by
 constructor
 ·apply Nat.eq_of_testBit_eq
  intro i
  have h1:((a|||b)&&&hiM).testBit i=false:=by rw [h];simp
  rw [D4,Nat.testBit_or] at h1
  rw [D4,Nat.zero_testBit]
  revert h1;cases a.testBit i <;> cases b.testBit i <;> cases hiM.testBit i <;> simp
 ·apply Nat.eq_of_testBit_eq
  intro i
  have h1:((a|||b)&&&hiM).testBit i=false:=by rw [h];simp
  rw [D4,Nat.testBit_or] at h1
  rw [D4,Nat.zero_testBit]
  revert h1;cases a.testBit i <;> cases b.testBit i <;> cases hiM.testBit i <;> simp
theorem nX (s:List UInt8)(k:Nat)(h:k≤s.length):bJ s ((k:Nat):Int)=some (s.drop k):=ek s rfl h
theorem uT (w:Nat)(h:w<18446744073709551616):bits .and .u64 (w:Int) (9259542123273814144:Int)=((w&&&hiM:Nat):Int):=q64_and w hiM h (by decide)
theorem aqf:∀ (n M:Nat) (s:List UInt8),s.length≤n→n<M→∃ t:List UInt8,gl (fun X c=>aP N X c.1.1) M ((s,()),())=some ((t,()),())∧t.length≤s.length∧(sgs t).isSome=(sgs s).isSome
 | n,0,s,_,h=>by omega
 | n,M+1,s,hn,hM=>by
  rw [ah]
  by_cases hl:32<s.length
  ·have c1:(32:Int)<(s.length:Int):=by omega
   obtain ⟨w1,a1,a2,a3⟩:=word_ok (N:=N) s (by omega)
   obtain ⟨w2,b1,b2,b3⟩:=word_ok (N:=N) (s.drop 8) (by rw [Du];omega)
   obtain ⟨w3,d1,d2,d3⟩:=word_ok (N:=N) (s.drop 16) (by rw [Du];omega)
   obtain ⟨w4,e1,e2,e3⟩:=word_ok (N:=N) (s.drop 24) (by rw [Du];omega)
   have f1:bJ s (8:Int)=some (s.drop 8):=nX s 8 (by omega)
   have f2:bJ s (16:Int)=some (s.drop 16):=nX s 16 (by omega)
   have f3:bJ s (24:Int)=some (s.drop 24):=nX s 24 (by omega)
   have f4:bJ s (32:Int)=some (s.drop 32):=nX s 32 (by omega)
   have l1:=eg a1 b1
   have l2:=eg d1 e1
   have l3:=eg l1 l2
   simp only [aP,c1,decide_true,cond_true,a2,ne,f1,b2,f2,d2,f3,e2,f4,lB _ _ a1 b1,lB _ _ d1 e1,lB _ _ l1 l2,uT _ l3]
   by_cases hz:((w1|||w2)|||(w3|||w4))&&&hiM=0
   ·obtain ⟨z1,z2⟩:=xP hz
    obtain ⟨z3,z4⟩:=xP z1
    obtain ⟨z5,z6⟩:=xP z2
    have k1:=jz (by omega) (a3 z3)
    have k2:=jz (by rw [Du];omega) (b3 z4)
    have k3:=jz (by rw [Du];omega) (d3 z5)
    have k4:=jz (by rw [Du];omega) (e3 z6)
    simp only [D7,Ef] at k1 k2 k3 k4
    have ih:=aqf (n-32) M (s.drop 32) (by rw [Du];omega) (by omega)
    obtain ⟨t,t1,t2,t3⟩:=ih
    refine ⟨t, ?_,by rw [Du] at t2;omega,by rw [t3,k4,k3,k2,k1]⟩
    simp only [hz,D8,decide_true,cond_true]
    exact t1
   ·have hz':¬ ((((w1|||w2)|||(w3|||w4))&&&hiM:Nat):Int)=0:=by omega
    refine ⟨s, ?_,DW _,rfl⟩
    simp only [hz',decide_false,cond_false]
  ·have c1:¬ (32:Int)<(s.length:Int):=by omega
   refine ⟨s, ?_,DW _,rfl⟩
   simp only [aP,c1,decide_false,cond_false]
def afW:List Int:=[240,240,240,240,240,240,240,240,240,240,240,240,240,240,240,240,240,240,240,240,240,240,240,240,240,240,240,240,240,240,240,240,240,240,240,240,240,240,240,240,240,240,240,240,240,240,240,240,240,240,240,240,240,240,240,240,240,240,240,240,240,240,240,240,240,240,240,240,240,240,240,240,240,240,240,240,240,240,240,240,240,240,240,240,240,240,240,240,240,240,240,240,240,240,240,240,240,240,240,240,240,240,240,240,240,240,240,240,240,240,240,240,240,240,240,240,240,240,240,240,240,240,240,240,240,240,240,240,241,241,241,241,241,241,241,241,241,241,241,241,241,241,241,241,241,241,241,241,241,241,241,241,241,241,241,241,241,241,241,241,241,241,241,241,241,241,241,241,241,241,241,241,241,241,241,241,241,241,241,241,241,241,241,241,241,241,241,241,241,241,241,241,241,241,2,2,2,2,2,2,2,2,2,2,2,2,2,2,2,2,2,2,2,2,2,2,2,2,2,2,2,2,2,2,19,3,3,3,3,3,3,3,3,3,3,3,3,35,3,3,52,4,4,4,68,241,241,241,241,241,241,241,241,241,241,241]
def accT:List (Int×Int):=[(128,191),(160,191),(128,159),(144,191),(128,143),(0,0),(0,0),(0,0),(0,0),(0,0),(0,0),(0,0),(0,0),(0,0),(0,0),(0,0)]
def tabB (b:Nat):Option (Int×Int×Int):=match getI afW (b:Int) with
 | some x=>(match getI accT (DA x (2 ^ min (Dp 4) (Dr IntKind.u8))) with
  | some (lo,hi)=>some (gt .i64 (bits .and .u8 x 7),lo,hi)
  | none=>none)
 | none=>none
def tabW (b:Nat):Int×Int×Int:=
 if 194≤b∧b<224 then (2,128,191) else if b=224 then (3,160,191) else if b=237 then (3,128,159) else if 225≤b∧b<240 then (3,128,191)
 else if b=240 then (4,144,191) else if 241≤b∧b<244 then (4,128,191) else if b=244 then (4,128,143) else (1,128,191)
theorem ak9:∀ b:Fin 128,(match tabB (128+b.val),tabW (128+b.val) with | some (n,lo,hi),(n',lo',hi')=>n==n'&&(n==1||(lo==lo'&&hi==hi')) | _,_=>false)=true:=by decide +kernel
theorem apO (b:UInt8)(h:128≤b.toNat):∃ x lo hi,getI afW (b.toNat:Int)=some x∧getI accT (DA x (2 ^ min (Dp 4) (Dr IntKind.u8)))=some (lo,hi)∧
  gt .i64 (bits .and .u8 x 7)=(tabW b.toNat).1∧((tabW b.toNat).1=1∨(lo=(tabW b.toNat).2.1∧hi=(tabW b.toNat).2.2)):=by
 have hlt:=fE b
 have:=ak9 ⟨b.toNat-128,by omega⟩
 have e:128+(b.toNat-128)=b.toNat:=by omega
 simp only [e,tabB] at this
 split at this
 ·rename_i n lo hi n' lo' hi' h1 h2
  split at h1
  ·rename_i x hx
   split at h1
   ·rename_i p lo1 hi1 hp
    injection h1 with h1
    injection h1 with h3 h4
    injection h4 with h4 h5
    subst h4 h5
    refine ⟨x,lo1,hi1,hx,hp, ?_, ?_⟩
    ·rw [h2]
     simp only [DO,beq_iff_eq] at this
     rw [h3];exact this.1
    ·rw [h2]
     simp only [DO,Bool.or_eq_true,beq_iff_eq] at this
     rcases this.2 with h6 | h6
     ·exact .inl (by rw [←this.1];exact h6)
     ·exact .inr h6
   ·cases h1
  ·cases h1
 ·cases this
end
theorem sgv2 (b0:UInt8)(r:List UInt8)(h:194≤b0.toNat∧b0.toNat<224):(sg (b0::r)).2=(match r with | b1::_=>if 128≤b1.toNat∧b1.toNat≤191 then 2 else 0 | _=>0):=by
 have c1:¬ b0.toNat<128:=by omega
 have c2:192≤b0.toNat∧b0.toNat<224:=by omega
 simp only [sg,c1,c2,and_self,if_true,if_false]
 match r with
 | []=>rfl
 | b1::r=>
  simp only
  by_cases hc:128≤b1.toNat∧b1.toNat≤191
  ·rw [if_pos hc,if_pos ⟨cX.2 (by omega),by unfold n2;omega⟩]
  ·rw [if_neg hc,if_neg (fun h=>hc (by have:=cX.1 h.1;omega))]
theorem sgv3 (b0:UInt8)(r:List UInt8)(h:224≤b0.toNat∧b0.toNat<240):(sg (b0::r)).2=(match r with | b1::b2::_=>if ((tabW b0.toNat).2.1≤b1.toNat∧(b1.toNat:Int)≤(tabW b0.toNat).2.2)∧128≤b2.toNat∧b2.toNat≤191 then 3 else 0 | _=>0)∧(tabW b0.toNat).1=3:=by
 have c1:¬ b0.toNat<128:=by omega
 have c2:¬ (192≤b0.toNat∧b0.toNat<224):=by omega
 simp only [sg,c1,c2,h,and_self,if_true,if_false]
 have d1:¬ (194≤b0.toNat∧b0.toNat<224):=by omega
 have key:∀ lo hi:Nat,((lo=160∧hi=191∧b0.toNat=224)∨(lo=128∧hi=159∧b0.toNat=237)∨(lo=128∧hi=191∧b0.toNat≠224∧b0.toNat≠237))→(match r with
   | b1::b2::_=>if cb b1=true∧cb b2=true∧2048≤n3 b0 b1 b2∧¬ (55296≤n3 b0 b1 b2∧n3 b0 b1 b2≤57343) then (n3 b0 b1 b2,3) else (0,0)
   | _=>(0,0)).2=(match r with | b1::b2::_=>if ((lo:Int)≤b1.toNat∧(b1.toNat:Int)≤hi)∧128≤b2.toNat∧b2.toNat≤191 then 3 else 0 | _=>0):=by
  intro lo hi hlo
  match r with
  | []=>rfl
  | [b1]=>rfl
  | b1::b2::r=>
   simp only
   by_cases hc:((lo:Int)≤b1.toNat∧(b1.toNat:Int)≤hi)∧128≤b2.toNat∧b2.toNat≤191
   ·rw [if_pos hc,if_pos ⟨cX.2 (by omega),cX.2 (by omega),by unfold n3;omega,by unfold n3;omega⟩]
   ·rw [if_neg hc,if_neg (fun h=>hc (by have h1:=cX.1 h.1;have h2:=cX.1 h.2.1;have h3:=h.2.2;unfold n3 at h3;omega))]
 by_cases e1:b0.toNat=224
 ·have t:tabW b0.toNat=(3,160,191):=by rw [e1];rfl
  rw [t];exact ⟨key 160 191 (by omega),rfl⟩
 by_cases e2:b0.toNat=237
 ·have t:tabW b0.toNat=(3,128,159):=by rw [e2];rfl
  rw [t];exact ⟨key 128 159 (by omega),rfl⟩
 have t:tabW b0.toNat=(3,128,191):=by
  have c5:225≤b0.toNat∧b0.toNat<240:=by omega
  simp [tabW,d1,e1,e2,c5]
 rw [t];exact ⟨key 128 191 (by omega),rfl⟩
theorem sgv4 (b0:UInt8)(r:List UInt8)(h:240≤b0.toNat∧b0.toNat<245):(sg (b0::r)).2=(match r with | b1::b2::b3::_=>if ((tabW b0.toNat).2.1≤b1.toNat∧(b1.toNat:Int)≤(tabW b0.toNat).2.2)∧(128≤b2.toNat∧b2.toNat≤191)∧128≤b3.toNat∧b3.toNat≤191 then 4 else 0 | _=>0)∧(tabW b0.toNat).1=4:=by
 have c1:¬ b0.toNat<128:=by omega
 have c2:¬ (192≤b0.toNat∧b0.toNat<224):=by omega
 have c3:¬ (224≤b0.toNat∧b0.toNat<240):=by omega
 have c4:240≤b0.toNat∧b0.toNat<248:=by omega
 simp only [sg,c1,c2,c3,c4,and_self,if_true,if_false]
 have d1:¬ (194≤b0.toNat∧b0.toNat<224):=by omega
 have d2:¬ (225≤b0.toNat∧b0.toNat<240):=by omega
 have d3:¬ b0.toNat=224:=by omega
 have d4:¬ b0.toNat=237:=by omega
 have key:∀ lo hi:Nat,((lo=144∧hi=191∧b0.toNat=240)∨(lo=128∧hi=143∧b0.toNat=244)∨(lo=128∧hi=191∧b0.toNat≠240∧b0.toNat≠244))→(match r with
   | b1::b2::b3::_=>if cb b1=true∧cb b2=true∧cb b3=true∧65536≤n4 b0 b1 b2 b3∧n4 b0 b1 b2 b3≤1114111 then (n4 b0 b1 b2 b3,4) else (0,0)
   | _=>(0,0)).2=(match r with | b1::b2::b3::_=>if ((lo:Int)≤b1.toNat∧(b1.toNat:Int)≤hi)∧(128≤b2.toNat∧b2.toNat≤191)∧128≤b3.toNat∧b3.toNat≤191 then 4 else 0 | _=>0):=by
  intro lo hi hlo
  match r with
  | []=>rfl
  | [b1]=>rfl
  | [b1,b2]=>rfl
  | b1::b2::b3::r=>
   simp only
   by_cases hc:((lo:Int)≤b1.toNat∧(b1.toNat:Int)≤hi)∧(128≤b2.toNat∧b2.toNat≤191)∧128≤b3.toNat∧b3.toNat≤191
   ·rw [if_pos hc,if_pos ⟨cX.2 (by omega),cX.2 (by omega),cX.2 (by omega),by unfold n4;omega,by unfold n4;omega⟩]
   ·rw [if_neg hc,if_neg (fun h=>hc (by have h1:=cX.1 h.1;have h2:=cX.1 h.2.1;have h4:=cX.1 h.2.2.1;have h3:=h.2.2.2;unfold n4 at h3;omega))]
 by_cases e1:b0.toNat=240
 ·have t:tabW b0.toNat=(4,144,191):=by rw [e1];rfl
  rw [t];exact ⟨key 144 191 (by omega),rfl⟩
 by_cases e2:b0.toNat=244
 ·have t:tabW b0.toNat=(4,128,143):=by rw [e2];rfl
  rw [t];exact ⟨key 128 143 (by omega),rfl⟩
 have t:tabW b0.toNat=(4,128,191):=by
  have c5:241≤b0.toNat∧b0.toNat<244:=by omega
  simp [tabW,d1,d2,d3,d4,e1,e2,c5]
 rw [t];exact ⟨key 128 191 (by omega),rfl⟩
theorem sgv0 (b0:UInt8)(r:List UInt8)(h:128≤b0.toNat)(h':b0.toNat<194∨245≤b0.toNat):(sg (b0::r)).2=0∧(tabW b0.toNat).1=1:=by
 have hlt:=fE b0
 have c1:¬ b0.toNat<128:=by omega
 have c3:¬ (224≤b0.toNat∧b0.toNat<240):=by omega
 have d1:¬ (194≤b0.toNat∧b0.toNat<224):=by omega
 have d2:¬ (225≤b0.toNat∧b0.toNat<240):=by omega
 have d3:¬ b0.toNat=224:=by omega
 have d4:¬ b0.toNat=237:=by omega
 have d5:¬ b0.toNat=240:=by omega
 have d6:¬ b0.toNat=244:=by omega
 have d7:¬ (241≤b0.toNat∧b0.toNat<244):=by omega
 refine ⟨?_,by simp [tabW,d1,d2,d3,d4,d5,d6,d7]⟩
 by_cases c2:192≤b0.toNat∧b0.toNat<224
 ·simp only [sg,c1,c2,and_self,if_true,if_false]
  match r with
  | []=>rfl
  | b1::r=>
   simp only
   rw [if_neg (fun h=>by have h1:=cX.1 h.1;have h3:=h.2;unfold n2 at h3;omega)]
 by_cases c4:240≤b0.toNat∧b0.toNat<248
 ·simp only [sg,c1,c2,c3,c4,and_self,if_true,if_false]
  match r with
  | []=>rfl
  | [b1]=>rfl
  | [b1,b2]=>rfl
  | b1::b2::b3::r=>
   simp only
   rw [if_neg (fun h=>by have h3:=h.2.2.2;unfold n4 at h3;omega)]
 simp [sg,c1,c2,c3,c4]
theorem sG {l:List UInt8}{k:Nat}(hl:l≠[])(h:(sg l).2=k)(hk:k≠0):(sgs (l.drop k)).isSome=(sgs l).isSome:=by
 rw [vT hl (by omega),h];simp
section
variable {N:Nat}
abbrev VX:=(((List UInt8)×Unit)×Unit)→Option (((((Bool)×Unit)×Unit) ⊕ (Unit×Unit)))
def VQ (v:Bool):((((Bool)×Unit)×Unit) ⊕ (Unit×Unit))→Prop
 | .inl q=>q.1.1=v
 | .inr _=>true=v
theorem ac3 (X:VX)(s:List UInt8)(hN:s.length<N):(∃ o,af N X s=some o∧VQ (sgs s).isSome o)∨∃ t:List UInt8,t.length<s.length∧(sgs t).isSome=(sgs s).isSome∧af N X s=X ((t,()),()):=by
 match s,hN with
 | [],_=>
  left
  exact ⟨_,rfl,by rw [xf];rfl⟩
 | b0::r,hN=>
  have hlt:=fE b0
  have c0:(0:Int)<(((b0::r).length:Nat):Int):=by rw [Dw];omega
  have g0:getI (b0::r) (0:Int)=some b0:=rfl
  by_cases hb:b0.toNat<128
  ·right
   have c1:(b0.toNat:Int)<128:=by omega
   have f1:bJ (b0::r) (1:Int)=some r:=nX (b0::r) 1 (by simp)
   have s1:(sgs r).isSome=(sgs (b0::r)).isSome:=sG (l:=b0::r) (k:=1) (by simp) (by rw [aeJ hb]) (by omega)
   by_cases l8:8<r.length
   ·have c2:(8:Int)<(r.length:Int):=by omega
    obtain ⟨w1,a1,a2,a3⟩:=word_ok (N:=N) r (by omega)
    by_cases z1:w1&&&hiM=0
    ·have f2:bJ r (8:Int)=some (r.drop 8):=nX r 8 (by omega)
     have s2:=jz (by omega) (a3 z1)
     by_cases l16:16<(r.drop 8).length
     ·have c3:(16:Int)<((r.drop 8).length:Int):=by omega
      have hlen:(r.drop 8).length=r.length-8:=Du
      obtain ⟨w2,b1,b2,b3⟩:=word_ok (N:=N) (r.drop 8) (by omega)
      have f3:bJ (r.drop 8) (8:Int)=some ((r.drop 8).drop 8):=nX _ 8 (by omega)
      have f4:bJ (r.drop 8) (16:Int)=some ((r.drop 8).drop 16):=nX _ 16 (by omega)
      obtain ⟨w3,d1,d2,d3⟩:=word_ok (N:=N) ((r.drop 8).drop 8) (by rw [Du];omega)
      have l1:=eg b1 d1
      by_cases z2:(w2|||w3)&&&hiM=0
      ·obtain ⟨y1,y2⟩:=xP z2
       have s3:=jz (by omega) (b3 y1)
       have s4:=jz (by rw [Du];omega) (d3 y2)
       simp only [D7,Ef] at s3 s4 d2 f3 f4
       obtain ⟨t,t1,t2,t3⟩:=aqf (N:=N) (r.drop 24).length N (r.drop 24) (DW _) (by rw [Du];rw [Dw] at hN;omega)
       have t1':dN N ((r.drop 24,()),())=some ((t,()),()):=t1
       refine ⟨t,by rw [Du] at t2;rw [Dw];omega,by rw [t3,s4,s3,s2,s1], ?_⟩
       simp only [af,c0,g0,c1,f1,c2,a2,f2,c3,b2,f3,d2,f4,decide_true,cond_true,ne,uT _ a1,z1,D8,lB _ _ b1 d1,uT _ l1,z2]
       rw [t1']
       rfl
      ·have z2':¬ ((((w2|||w3)&&&hiM:Nat):Int))=0:=by omega
       refine ⟨r.drop 8,by rw [Dw];omega,by rw [s2,s1], ?_⟩
       simp only [af,c0,g0,c1,f1,c2,a2,f2,c3,b2,f3,d2,f4,decide_true,decide_false,cond_true,cond_false,ne,uT _ a1,z1,D8,lB _ _ b1 d1,uT _ l1,z2']
     ·have c3:¬ (16:Int)<((r.drop 8).length:Int):=by omega
      refine ⟨r.drop 8,by rw [Dw,Du];omega,by rw [s2,s1], ?_⟩
      simp only [af,c0,g0,c1,f1,c2,a2,f2,c3,decide_true,decide_false,cond_true,cond_false,ne,uT _ a1,z1,D8]
    ·have z1':¬ (((w1&&&hiM:Nat):Int))=0:=by omega
     refine ⟨r,by rw [Dw];omega,s1, ?_⟩
     simp only [af,c0,g0,c1,f1,c2,a2,decide_true,decide_false,cond_true,cond_false,ne,uT _ a1,z1']
   ·have c2:¬ (8:Int)<(r.length:Int):=by omega
    refine ⟨r,by rw [Dw];omega,s1, ?_⟩
    simp only [af,c0,g0,c1,f1,c2,decide_true,decide_false,cond_true,cond_false,ne]
  ·have c1:¬ (b0.toNat:Int)<128:=by omega
   obtain ⟨x,lo,hi,t1,t2,t3,t4⟩:=apO b0 (by omega)
   unfold afW at t1
   unfold accT at t2
   have bad:(sg (b0::r)).2=0→(sgs (b0::r)).isSome=false:=fun h=>by rw [th (by simp) h];rfl
   obtain ⟨y,hy⟩:∃ y,y=af N X (b0::r):=⟨_,rfl⟩
   rw [←hy]
   simp only [af,c0,g0,c1,decide_true,decide_false,cond_true,cond_false,ne] at hy
   rw [t1,ne,t2,ne,t3] at hy
   subst hy
   clear t1 t2
   by_cases k2:194≤b0.toNat∧b0.toNat<224
   ·have tw:tabW b0.toNat=(2,128,191):=by simp [tabW,k2]
    have hs:=sgv2 b0 r k2
    rw [tw] at t4
    obtain ⟨rfl,rfl⟩:lo=128∧hi=191:=t4.resolve_left (by decide)
    simp only [tw,decide_true,cond_true]
    match r,hs,bad with
    | [],hs,bad=>left;exact ⟨_,rfl,by rw [bad hs];rfl⟩
    | b1::r,hs,bad=>
     have e1:¬ (((b0::b1::r).length:Nat):Int)<2:=by simp only [Dw];omega
     have g1:getI (b0::b1::r) (1:Int)=some b1:=rfl
     simp only [e1,decide_false,cond_false,g1,ne]
     by_cases q:128≤b1.toNat∧b1.toNat≤191
     ·right
      have q1:¬ (b1.toNat:Int)<128:=by omega
      have q2:¬ (191:Int)<(b1.toNat:Int):=by omega
      simp only [q,and_self,if_true] at hs
      have fd:bJ (b0::b1::r) (2:Int)=some r:=nX (b0::b1::r) 2 (by simp)
      refine ⟨r,by simp only [Dw];omega,sG (l:=b0::b1::r) (k:=2) (by simp) hs (by omega), ?_⟩
      simp only [q1,q2,decide_false,cond_false,fd,ne]
     ·left
      simp only [q,if_false] at hs
      by_cases q1:(b1.toNat:Int)<128
      ·exact ⟨.inl ((false,()),()),by simp only [q1,decide_true,cond_true],by rw [bad hs];rfl⟩
      ·have q2:(191:Int)<(b1.toNat:Int):=by omega
       exact ⟨.inl ((false,()),()),by simp only [q1,q2,decide_true,decide_false,cond_true,cond_false],by rw [bad hs];rfl⟩
   by_cases k3:224≤b0.toNat∧b0.toNat<240
   ·obtain ⟨hs,tw⟩:=sgv3 b0 r k3
    obtain ⟨rfl,rfl⟩:lo=(tabW b0.toNat).2.1∧hi=(tabW b0.toNat).2.2:=t4.resolve_left (by rw [tw];decide)
    clear t4
    generalize (tabW b0.toNat).2.1=lo at hs ⊢
    generalize (tabW b0.toNat).2.2=hi at hs ⊢
    have n23:¬ (3:Int)=2:=by decide
    simp only [tw,n23,decide_true,decide_false,cond_true,cond_false]
    match r,hs,bad with
    | [],hs,bad=>left;exact ⟨_,rfl,by rw [bad hs];rfl⟩
    | [b1],hs,bad=>left;exact ⟨_,rfl,by rw [bad hs];rfl⟩
    | b1::b2::r,hs,bad=>
     have e1:¬ (((b0::b1::b2::r).length:Nat):Int)<3:=by simp only [Dw];omega
     have g1:getI (b0::b1::b2::r) (1:Int)=some b1:=rfl
     have g2:getI (b0::b1::b2::r) (2:Int)=some b2:=rfl
     simp only [e1,decide_false,cond_false,g1,g2,ne]
     by_cases q:(lo≤(b1.toNat:Int)∧(b1.toNat:Int)≤hi)∧128≤b2.toNat∧b2.toNat≤191
     ·right
      have q1:¬ (b1.toNat:Int)<lo:=by omega
      have q2:¬ hi<(b1.toNat:Int):=by omega
      have q3:¬ (b2.toNat:Int)<128:=by omega
      have q4:¬ (191:Int)<(b2.toNat:Int):=by omega
      simp only [q,and_self,if_true] at hs
      have fd:bJ (b0::b1::b2::r) (3:Int)=some r:=nX (b0::b1::b2::r) 3 (by simp)
      refine ⟨r,by simp only [Dw];omega,sG (l:=b0::b1::b2::r) (k:=3) (by simp) hs (by omega), ?_⟩
      simp only [q1,q2,q3,q4,decide_false,cond_false,fd,ne]
     ·left
      simp only [q,if_false] at hs
      refine ⟨.inl ((false,()),()), ?_,by rw [bad hs];rfl⟩
      by_cases q1:(b1.toNat:Int)<lo
      ·simp only [q1,decide_true,cond_true]
      by_cases q2:hi<(b1.toNat:Int)
      ·simp only [q1,q2,decide_true,decide_false,cond_true,cond_false]
      by_cases q3:(b2.toNat:Int)<128
      ·simp only [q1,q2,q3,decide_true,decide_false,cond_true,cond_false]
      have q4:(191:Int)<(b2.toNat:Int):=by omega
      simp only [q1,q2,q3,q4,decide_true,decide_false,cond_true,cond_false]
   by_cases k4:240≤b0.toNat∧b0.toNat<245
   ·obtain ⟨hs,tw⟩:=sgv4 b0 r k4
    obtain ⟨rfl,rfl⟩:lo=(tabW b0.toNat).2.1∧hi=(tabW b0.toNat).2.2:=t4.resolve_left (by rw [tw];decide)
    clear t4
    generalize (tabW b0.toNat).2.1=lo at hs ⊢
    generalize (tabW b0.toNat).2.2=hi at hs ⊢
    have n24:¬ (4:Int)=2:=by decide
    have n34:¬ (4:Int)=3:=by decide
    simp only [tw,n24,n34,decide_true,decide_false,cond_true,cond_false]
    match r,hs,bad with
    | [],hs,bad=>left;exact ⟨_,rfl,by rw [bad hs];rfl⟩
    | [b1],hs,bad=>left;exact ⟨_,rfl,by rw [bad hs];rfl⟩
    | [b1,b2],hs,bad=>left;exact ⟨_,rfl,by rw [bad hs];rfl⟩
    | b1::b2::b3::r,hs,bad=>
     have e1:¬ (((b0::b1::b2::b3::r).length:Nat):Int)<4:=by simp only [Dw];omega
     have g1:getI (b0::b1::b2::b3::r) (1:Int)=some b1:=rfl
     have g2:getI (b0::b1::b2::b3::r) (2:Int)=some b2:=rfl
     have g3:getI (b0::b1::b2::b3::r) (3:Int)=some b3:=rfl
     simp only [e1,decide_false,cond_false,g1,g2,g3,ne]
     by_cases q:(lo≤(b1.toNat:Int)∧(b1.toNat:Int)≤hi)∧(128≤b2.toNat∧b2.toNat≤191)∧128≤b3.toNat∧b3.toNat≤191
     ·right
      have q1:¬ (b1.toNat:Int)<lo:=by omega
      have q2:¬ hi<(b1.toNat:Int):=by omega
      have q3:¬ (b2.toNat:Int)<128:=by omega
      have q4:¬ (191:Int)<(b2.toNat:Int):=by omega
      have q5:¬ (b3.toNat:Int)<128:=by omega
      have q6:¬ (191:Int)<(b3.toNat:Int):=by omega
      simp only [q,and_self,if_true] at hs
      have fd:bJ (b0::b1::b2::b3::r) (4:Int)=some r:=nX (b0::b1::b2::b3::r) 4 (by simp)
      refine ⟨r,by simp only [Dw];omega,sG (l:=b0::b1::b2::b3::r) (k:=4) (by simp) hs (by omega), ?_⟩
      simp only [q1,q2,q3,q4,q5,q6,decide_false,cond_false,fd,ne]
     ·left
      simp only [q,if_false] at hs
      refine ⟨.inl ((false,()),()), ?_,by rw [bad hs];rfl⟩
      by_cases q1:(b1.toNat:Int)<lo
      ·simp only [q1,decide_true,cond_true]
      by_cases q2:hi<(b1.toNat:Int)
      ·simp only [q1,q2,decide_true,decide_false,cond_true,cond_false]
      by_cases q3:(b2.toNat:Int)<128
      ·simp only [q1,q2,q3,decide_true,decide_false,cond_true,cond_false]
      by_cases q4:(191:Int)<(b2.toNat:Int)
      ·simp only [q1,q2,q3,q4,decide_true,decide_false,cond_true,cond_false]
      by_cases q5:(b3.toNat:Int)<128
      ·simp only [q1,q2,q3,q4,q5,decide_true,decide_false,cond_true,cond_false]
      have q6:(191:Int)<(b3.toNat:Int):=by omega
      simp only [q1,q2,q3,q4,q5,q6,decide_true,decide_false,cond_true,cond_false]
   ·left
    obtain ⟨hs,tw⟩:=sgv0 b0 r (by omega) (by omega)
    have n1:¬ (1:Int)=2:=by decide
    have n2:¬ (1:Int)=3:=by decide
    have n3:¬ (1:Int)=4:=by decide
    refine ⟨.inl ((false,()),()), ?_,by rw [bad hs];rfl⟩
    simp only [tw,n1,n2,n3,decide_false,cond_false]
theorem ah9 (s:List UInt8)(hN:s.length<N):be N s=some (sgs s).isSome:=by
 obtain ⟨o,h1,h2⟩:=akJ (G:=fun X c=>af N X c.1.1) (I:=fun n c=>c.1.1.length≤n∧n<N∧(sgs c.1.1).isSome=(sgs s).isSome) (Q:=VQ (sgs s).isSome) (fun X n c hi=>by
  obtain ⟨i1,i2,i3⟩:=hi
  rcases ac3 (N:=N) X c.1.1 (by omega) with ⟨o,o1,o2⟩ | ⟨t,t1,t2,t3⟩
  ·exact .inl ⟨o,o1,by rw [←i3];exact o2⟩
  ·exact .inr ⟨t.length,((t,()),()),by omega,⟨DW _,by omega,by rw [t2];exact i3⟩,t3⟩) N s.length ((s,()),()) hN ⟨DW _,hN,rfl⟩
 have h1':dO N ((s,()),())=some o:=h1
 unfold be
 rw [h1',ne]
 match o,h2 with
 | .inl q,h2=>simp only [Sum.elim_inl];rw [show q.1.1=_ from h2]
 | .inr q,h2=>simp only [Sum.elim_inr];rw [←show true=_ from h2]
end
end Go.Proofs.YtllpjoggnfclgaaGreatDoor
